/-
  A log as a value, where it lies in memory, and what it costs.
-/
import Derived.Test.YtienabfilnpieaaWalLay
import Derived.Test.YtienabfilnpieaaDiskCrash
import Derived.Test.YtienabfilnpieaaDiskWakes
import Derived.Deep.RegionHeld3
namespace Go.Proofs.Ytienabfilnpieaa
open Go.RowKit
set_option linter.unusedVariables false
set_option maxRecDepth 100000

structure AW where
  most : Int
  parts : List (List Int)
  broken : Bool
def costM (ps : List (List Int)) : Nat := (ps.map fun p => p.length + 12).sum
theorem costM_nil : costM [] = 0 := rfl
theorem costM_append (a b : List (List Int)) : costM (a ++ b) = costM a + costM b := by simp [costM]
theorem costM_one (p : List Int) : costM [p] = p.length + 12 := by simp [costM]
theorem costM_snoc {ps : List (List Int)} {k : Nat} {p : List Int} (h : ps[k]? = some p) : costM (ps.take (k + 1)) = costM (ps.take k) + (p.length + 12) := by
  have : ps.take (k + 1) = ps.take k ++ [p] := by rw [List.take_add_one, h]; rfl
  rw [this, costM_append, costM_one]
theorem costM_take (ps : List (List Int)) (k : Nat) : costM (ps.take k) ≤ costM ps := by
  have := costM_append (ps.take k) (ps.drop k)
  rw [List.take_append_drop] at this
  omega
theorem costM_mem {ps : List (List Int)} {k : Nat} {p : List Int} (h : ps[k]? = some p) : p.length + 12 ≤ costM ps := by
  have h1 := costM_snoc h
  have h2 := costM_take ps (k + 1)
  omega
theorem costM_len (ps : List (List Int)) : 12 * ps.length ≤ costM ps := by
  induction ps with
  | nil => simp [costM]
  | cons p ps ih => simp only [costM, List.map_cons, List.sum_cons, List.length_cons] at ih ⊢; omega

/-- A part's bytes lie in a row of their own, in a block of T. -/
def PartAt (w : World) (T : Nat → Prop) (vs : List Value) (i : Nat) (p : List Int) : Prop :=
  ∃ B cb, vs[i]? = some (.slice B p.length cb) ∧ w.ownsRow 0 5 1 (.slice B p.length cb) p.length (p.map (Value.int .u8)) ∧ (∀ h, blk B = some h → T h) ∧ Oct p
/-- Parts lie in a row of slices, in blocks of T. -/
structure PartsAt (w : World) (T : Nat → Prop) (A : Option Addr) (c : Nat) (ps : List (List Int)) (vs : List Value) : Prop where
  row : w.ownsRow 0 22 1 (.slice A ps.length c) ps.length vs
  each : ∀ i p, ps[i]? = some p → PartAt w T vs i p
  rowT : ∀ h, blk A = some h → T h
abbrev walA (V : AW) (A : Option Addr) (c d : Nat) : Array Value := #[.int .i64 V.most, .slice A V.parts.length c, .pointer (some ⟨d, 0, none⟩), .bool V.broken]
structure WalIn (w : World) (T : Nat → Prop) (g d : Nat) (V : AW) (A : Option Addr) (c : Nat) (vs : List Value) : Prop where
  box : w.heap[g]? = some (.cells (walA V A c d) 63 (0, 0))
  parts : PartsAt w T A c V.parts vs
  inT : T g
  low : ∀ k, T k → k < w.heap.size
def WalAt (w : World) (T : Nat → Prop) (g d : Nat) (V : AW) : Prop := ∃ A c vs, WalIn w T g d V A c vs

section
variable {w w' : World} {T S : Nat → Prop} {g d : Nat} {V : AW} {A : Option Addr} {c : Nat} {vs : List Value} {ps : List (List Int)}
theorem row_turn {e : TypeId} {n m : Nat} {xs : List Value} {B : Option Addr} {cb : Nat} (h : w.ownsRow 0 e 1 (.slice B n cb) m xs) (hT : ∀ k, blk B = some k → T k) (hb : ∀ k, T k → w'.heap[k]? = w.heap[k]?) : w'.ownsRow 0 e 1 (.slice B n cb) m xs :=
  row_same h fun k hk => hb k (hT k hk)
theorem PartsAt.turn (h : PartsAt w T A c ps vs) (hb : ∀ k, T k → w'.heap[k]? = w.heap[k]?) : PartsAt w' T A c ps vs :=
  ⟨row_turn h.row h.rowT hb, fun i p hp => by
    obtain ⟨B, cb, h1, h2, h3, h4⟩ := h.each i p hp
    exact ⟨B, cb, h1, row_turn h2 h3 hb, h3, h4⟩, h.rowT⟩
theorem WalIn.turn (h : WalIn w T g d V A c vs) (hb : ∀ k, T k → w'.heap[k]? = w.heap[k]?) (hs : w.heap.size ≤ w'.heap.size) : WalIn w' T g d V A c vs :=
  ⟨(hb g h.inT).trans h.box, h.parts.turn hb, h.inT, fun k hk => Nat.lt_of_lt_of_le (h.low k hk) hs⟩
theorem WalIn.other (h : WalIn w T g d V A c vs) (ht : Turn S w w') (hd : ∀ k, T k → ¬ S k) : WalIn w' T g d V A c vs :=
  h.turn (fun k hk => ht.block k (h.low k hk) (hd k hk)) ht.size
theorem WalIn.later (h : WalIn w T g d V A c vs) (hb : Below w.heap.size w w') : WalIn w' T g d V A c vs :=
  h.turn (fun k hk => hb.block k (h.low k hk)) hb.size
theorem WalAt.other (h : WalAt w T g d V) (ht : Turn S w w') (hd : ∀ k, T k → ¬ S k) : WalAt w' T g d V := by obtain ⟨A, c, vs, h⟩ := h; exact ⟨A, c, vs, h.other ht hd⟩
theorem WalAt.later (h : WalAt w T g d V) (hb : Below w.heap.size w w') : WalAt w' T g d V := by obtain ⟨A, c, vs, h⟩ := h; exact ⟨A, c, vs, h.later hb⟩
theorem WalAt.low (h : WalAt w T g d V) {k : Nat} (hk : T k) : k < w.heap.size := by obtain ⟨A, c, vs, h⟩ := h; exact h.low k hk
theorem WalAt.inT (h : WalAt w T g d V) : T g := by obtain ⟨A, c, vs, h⟩ := h; exact h.inT
theorem WalIn.c0 (h : WalIn w T g d V A c vs) : w.cell? ⟨g, 0, none⟩ = some (.int .i64 V.most) := by simp [World.cell?, h.box]
theorem WalIn.c1 (h : WalIn w T g d V A c vs) : w.cell? ⟨g, 1, none⟩ = some (.slice A V.parts.length c) := by simp [World.cell?, h.box]
theorem WalIn.c2 (h : WalIn w T g d V A c vs) : w.cell? ⟨g, 2, none⟩ = some (.pointer (some ⟨d, 0, none⟩)) := by simp [World.cell?, h.box]
theorem WalIn.c3 (h : WalIn w T g d V A c vs) : w.cell? ⟨g, 3, none⟩ = some (.bool V.broken) := by simp [World.cell?, h.box]
theorem WalIn.fz (h : WalIn w T g d V A c vs) (i : Nat) : w.frozen? ⟨g, i, none⟩ = false := by simp [World.frozen?, h.box]
/-- The k-th slice of a row of slices. -/
theorem PartsAt.at_ (h : PartsAt w T A c ps vs) {k : Nat} (hk : k < ps.length) : ∃ b p B cb, A = some ⟨b, 0, none⟩ ∧ ps[k]? = some p ∧ w.cell? ⟨b, k, none⟩ = some (.slice B p.length cb) ∧ w.ownsRow 0 5 1 (.slice B p.length cb) p.length (p.map (Value.int .u8)) ∧ (∀ h, blk B = some h → T h) ∧ Oct p := by
  obtain ⟨p, hp⟩ : ∃ p, ps[k]? = some p := ⟨ps[k], List.getElem?_eq_getElem hk⟩
  obtain ⟨B, cb, h1, h2, h3, h4⟩ := h.each k p hp
  rcases h.row.2 with ⟨_, e⟩ | ⟨b, cap, cur, e, _⟩
  · omega
  · injection e with e1 e2 e3
    subst e1
    subst e3
    exact ⟨b, p, B, cb, rfl, hp, (h.row.cellAt k (by omega)).trans h1, h2, h3, h4⟩
end

theorem len_nil (w : World) : Calls Try.prog 14 #[.pointer none] w fun e w' => e = .returned (.int .i64 0) ∧ w = w' := by
  go_enter Try.func14, Try.ntmps14
  go_wp2
  go_ret
  exact ⟨rfl, rfl⟩
theorem left_nilW (w : World) : Calls Try.prog 15 #[.pointer none] w fun e w' => e = .returned (.int .i64 0) ∧ w = w' := by
  go_enter Try.func15, Try.ntmps15
  go_wp2
  go_ret
  exact ⟨rfl, rfl⟩
theorem most_nil (w : World) : Calls Try.prog 16 #[.pointer none] w fun e w' => e = .returned (.int .i64 0) ∧ w = w' := by
  go_enter Try.func16, Try.ntmps16
  go_wp2
  go_ret
  exact ⟨rfl, rfl⟩
theorem broken_nil (w : World) : Calls Try.prog 17 #[.pointer none] w fun e w' => e = .returned (.bool false) ∧ w = w' := by
  go_enter Try.func17, Try.ntmps17
  go_wp2
  go_ret
  exact ⟨rfl, rfl⟩
theorem snap_nil (w : World) : Calls Try.prog 12 #[.pointer none] w fun e w' => e = .returned (.slice none 0 0) ∧ w = w' := by
  go_enter Try.func12, Try.ntmps12
  go_wp2
  go_ret
  exact ⟨rfl, rfl⟩
theorem all_nil (w : World) : Calls Try.prog 13 #[.pointer none] w fun e w' => e = .returned (.slice none 0 0) ∧ w = w' := by
  go_enter Try.func13, Try.ntmps13
  go_wp2
  go_ret
  exact ⟨rfl, rfl⟩

section
variable {w : World} {T : Nat → Prop} {g d : Nat} {V : AW}
theorem len_any (h : WalAt w T g d V) (hl : V.parts.length ≤ 1000000) : Calls Try.prog 14 #[.pointer (some ⟨g, 0, none⟩)] w fun e w' => e = .returned (.int .i64 ((V.parts.length : Int) - 1)) ∧ w = w' := by
  obtain ⟨A, c, vs, h⟩ := h
  have c1 := h.c1
  clear h
  generalize V.parts.length = n at *
  have hw : IntKind.i64.wrap ((n : Int) - 1) = (n : Int) - 1 := i64_fit (by omega)
  go_enter Try.func14, Try.ntmps14
  go_wp2
  go_ret
  exact ⟨rfl, rfl⟩
theorem most_any (h : WalAt w T g d V) : Calls Try.prog 16 #[.pointer (some ⟨g, 0, none⟩)] w fun e w' => e = .returned (.int .i64 V.most) ∧ w = w' := by
  obtain ⟨A, c, vs, h⟩ := h
  have c1 := h.c0
  clear h
  go_enter Try.func16, Try.ntmps16
  go_wp2
  go_ret
  exact ⟨rfl, rfl⟩
theorem broken_any (h : WalAt w T g d V) : Calls Try.prog 17 #[.pointer (some ⟨g, 0, none⟩)] w fun e w' => e = .returned (.bool V.broken) ∧ w = w' := by
  obtain ⟨A, c, vs, h⟩ := h
  have c1 := h.c3
  clear h
  go_enter Try.func17, Try.ntmps17
  go_wp2
  go_ret
  exact ⟨rfl, rfl⟩
end

set_option maxHeartbeats 1000000 in
theorem cost_any {w : World} {T : Nat → Prop} {A : Option Addr} {c : Nat} {ps : List (List Int)} {vs : List Value} (h : PartsAt w T A c ps vs) (hT : ∀ k, T k → k < w.heap.size) (hb : costM ps ≤ 1000000) (m : Int) :
    Calls Try.prog 44 #[.agg #[.int .i64 m, .slice A ps.length c]] w fun e w' => e = .returned (.int .i64 (costM ps)) ∧ Below w.heap.size w w' := by
  have H := Lib.hid h
  have HT := Lib.hid hT
  obtain ⟨n, hn⟩ : ∃ n, n = ps.length := ⟨_, rfl⟩
  have HN := Lib.hid hn
  have HC := Lib.hid (show ∀ k p, ps[k]? = some p → costM (ps.take (k + 1)) = costM (ps.take k) + (p.length + 12) ∧ costM (ps.take (k + 1)) ≤ 1000000 from fun k p hp => ⟨costM_snoc hp, Nat.le_trans (costM_take ps _) hb⟩)
  have hnb : n ≤ 1000000 := by have := costM_len ps; omega
  rw [← hn]
  clear h hT hn
  go_enter Try.func44, Try.ntmps44
  go_wp2_with fail
  go_loopw [3, 9] (fun s i wr => ∃ k : Nat, i = .int .i64 k ∧ s = .int .i64 (costM (ps.take k)) ∧ k ≤ n ∧ Hid (Below w.heap.size w wr)) (fun s i _ => n - (match i with | .int _ k => k.toNat | _ => 0))
  case atStart => exact ⟨0, rfl, by simp [costM], Nat.zero_le _, Lib.hid ((Below.refl _ w).alloc (Nat.le_refl _) _)⟩
  case round =>
    obtain ⟨k, rfl, rfl, hk, HB⟩ := hrel
    by_cases hkn : k < n
    · have hkk : (k : Int) < n := by omega
      have k0 : (0 : Int) ≤ (k : Int) := by omega
      obtain ⟨b, p, B, cb, hA, hp, hcell, hrow, _, _⟩ := H.out.at_ (k := k) (by rw [← HN.out]; exact hkn)
      subst hA
      have hcw := (HB.out.cell (p := ⟨b, k, none⟩) (World.block_lt_of_cell? w _ hcell)).trans hcell
      obtain ⟨hs1, hs2⟩ := HC.out k p hp
      obtain ⟨s2, hs2e⟩ : ∃ s2, s2 = costM (ps.take (k + 1)) := ⟨_, rfl⟩
      have HS2 := Lib.hid hs2e
      rw [← hs2e] at hs1 hs2
      clear hs2e
      generalize costM (ps.take k) = s1 at *
      generalize p.length = pl at *
      have HCO := Lib.hid (fun W => costOf_any B pl cb W (by omega))
      have hsum : IntKind.i64.wrap ((s1 : Int) + ((pl : Int) + 12)) = (s2 : Int) := by rw [i64_fit (by omega)]; omega
      clear hcell hrow hs1 hp
      go_wp2_with (go_at_call 71; refine (HCO.out _).mono ?_; rintro e w' ⟨rfl, rfl⟩)
      go_roundw
      case rel => exact ⟨k + 1, by go_num, by rw [HS2.out], by omega, HB⟩
      case measure => simp; omega
    · obtain rfl : k = n := by omega
      have HZ := Lib.hid (show costM (ps.take k) = costM ps by rw [HN.out, List.take_length])
      generalize costM (ps.take k) = s1 at *
      go_wp2
      go_ret
      rw [HZ.out]
      exact ⟨rfl, HB.out⟩

set_option maxHeartbeats 1000000 in
theorem left_any' {w : World} {T : Nat → Prop} {g d : Nat} {V : AW} (h : WalAt w T g d V) (hm : Lim V.most) (hb : costM V.parts ≤ 1000000) :
    Calls Try.prog 15 #[.pointer (some ⟨g, 0, none⟩)] w fun e w' => e = .returned (.int .i64 (V.most - (costM V.parts : Int))) ∧ Below w.heap.size w w' := by
  obtain ⟨A, c, vs, h⟩ := h
  have c0 := h.c0
  have c1 := h.c1
  have HCO := Lib.hid (fun (W : World) (hW : Below w.heap.size w W) => cost_any (h.later hW).parts (h.later hW).low hb V.most)
  have hlt := lt_of_block h.box
  generalize hcs : costM V.parts = cs at *
  generalize V.parts.length = n at *
  obtain ⟨m, hmm⟩ : ∃ m, m = V.most := ⟨_, rfl⟩
  rw [← hmm] at c0 HCO hm ⊢
  have hw : IntKind.i64.wrap (m - (cs : Int)) = m - (cs : Int) := i64_fit (by have := hm.1; have := hm.2; omega)
  have HW := Lib.hid (And.intro c0 c1)
  clear h hmm hcs hm hb c0 c1
  go_enter Try.func15, Try.ntmps15
  have s1 := HW.out.1
  have s2 := HW.out.2
  go_upto_region 3 with fail
  go_region_held3 (fun W => W.cell? ⟨g, 0, none⟩ = some (.int .i64 m) ∧ W.cell? ⟨g, 1, none⟩ = some (.slice A n c) ∧ Below w.heap.size w W) (first | exact ⟨s1, s2, below_drewN (Below.refl _ _) 1⟩ | exact S2.out) (first | (go_at_call 44; refine (HCO.out _ (below_drewN (Below.refl _ _) 1)).mono ?_; rintro e w2 ⟨rfl, hb2⟩; have S2 := Lib.hid (show w2.cell? ⟨g, 0, none⟩ = some (.int .i64 m) ∧ w2.cell? ⟨g, 1, none⟩ = some (.slice A n c) ∧ Below w.heap.size w w2 from ⟨(hb2.cell (p := ⟨g, 0, none⟩) hlt).trans s1, (hb2.cell (p := ⟨g, 1, none⟩) hlt).trans s2, below_drewN (Below.refl _ _) 1 |>.trans hb2⟩); clear hb2))
  all_goals (
    go_wp2
    go_ret
    exact ⟨rfl, S2.out.2.2⟩)

end Go.Proofs.Ytienabfilnpieaa
