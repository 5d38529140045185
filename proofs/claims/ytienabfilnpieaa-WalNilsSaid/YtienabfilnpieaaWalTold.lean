/-
  What a log tells: Snapshot, All.
-/
import Derived.Test.YtienabfilnpieaaWalBase
namespace Go.Proofs.Ytienabfilnpieaa
open Go.RowKit
set_option linter.unusedVariables false
set_option maxRecDepth 100000

theorem Sl.ofRow {w : World} {base n c : Nat} {A : Option Addr} {bs : List Int} (h : w.ownsRow base 5 1 (.slice A n c) bs.length (bs.map (Value.int .u8))) (hn : n = bs.length) : Sl w A c bs := by
  subst hn
  exact New.sl (B := base) h
/-- Bytes of the call's own. -/
def GivesV (w : World) (bs : List Int) (e : Ending) (w' : World) : Prop := ∃ A c, e = .returned (.slice A bs.length c) ∧ New w.heap.size w' A c bs ∧ Below w.heap.size w w'
/-- Rows of bytes of the call's own. -/
structure RowsAt (w : World) (base : Nat) (v : Value) (ps : List (List Int)) (vs : List Value) : Prop where
  row : w.ownsRow base 22 1 v ps.length vs
  each : ∀ (i : Nat) (p : List Int), ps[i]? = some p → ∃ (B : Option Addr) (cb : Nat), vs[i]? = some (Value.slice B p.length cb) ∧ w.ownsRow base 5 1 (.slice B p.length cb) p.length (p.map (Value.int .u8))
def GivesRows (w : World) (ps : List (List Int)) (e : Ending) (w' : World) : Prop := ∃ v vs, e = .returned v ∧ RowsAt w' w.heap.size v ps vs ∧ Below w.heap.size w w'

set_option maxHeartbeats 1000000 in
theorem snap_any {w : World} {T : Nat → Prop} {g d : Nat} {V : AW} (h : WalAt w T g d V) {s : List Int} (hs : V.parts[0]? = some s) (hb : s.length ≤ 1000000) :
    Calls Try.prog 12 #[.pointer (some ⟨g, 0, none⟩)] w (GivesB w s) := by
  obtain ⟨A, c, vs, h⟩ := h
  have c1 := h.c1
  have hlen : 0 < V.parts.length := (List.getElem?_eq_some_iff.1 hs).1
  obtain ⟨b, p, B, cb, hA, hp, hcell, hrow, _, hoct⟩ := h.parts.at_ hlen
  obtain rfl : p = s := by rw [hs] at hp; exact (Option.some.inj hp).symm
  subst hA
  have HC := Lib.hid (clone_b B cb p w (Sl.ofRow hrow rfl) (by omega))
  generalize V.parts.length = n at *
  have hn0 : (0 : Int) < n := by omega
  have hn1 : (0 : Int) ≤ 0 := by omega
  have HP := Lib.hid hb
  clear h hrow hoct hp hs hb
  obtain ⟨pl, hpl⟩ : ∃ pl, pl = p.length := ⟨_, rfl⟩
  rw [← hpl] at HC hcell
  clear hpl
  go_enter Try.func12, Try.ntmps12
  go_wp2_with (go_at_call 43; refine HC.out.mono ?_; rintro e w' ⟨A1, c1, rfl, hn, hb⟩; have HN := Lib.hid hn; have HB := Lib.hid hb; clear hn hb)
  go_ret
  exact ⟨A1, c1, rfl, HN.out, HB.out⟩

theorem infoBytes : (Try.prog.info? 22).map (fun i => (i.zero, i.size, i.bytes)) = some (some (.slice none 0 0), 1, 24) := by kernel_rfl

theorem own_apart {w : World} {b1 b2 n m : Nat} {e1 e2 : TypeId} {v v' : Value} {xs ys : List Value} (hne : e1 ≠ e2) (h : w.ownsRow b1 e1 1 v n xs) (h' : w.ownsRow b2 e2 1 v' m ys) : v.ownBlock = none ∨ v.ownBlock ≠ v'.ownBlock := by
  rcases h.2 with ⟨rfl, _⟩ | ⟨g, cap, cur, rfl, _, hg, _⟩
  · exact .inl rfl
  · right
    intro e
    rcases h'.2 with ⟨rfl, _⟩ | ⟨g', cap', cur', rfl, _, hg', _⟩
    · simp [Value.ownBlock] at e
    · have e2 : g = g' := by simpa [Value.ownBlock] using e
      subst e2
      rw [hg] at hg'
      simp at hg'
      exact hne hg'.2
theorem RowsAt.later {w w' : World} {base : Nat} {v : Value} {ps : List (List Int)} {vs : List Value} (h : RowsAt w base v ps vs) (hb : Below w.heap.size w w') : RowsAt w' base v ps vs :=
  ⟨row_later h.row hb, fun i p hp => by
    obtain ⟨B, cb, h1, h2⟩ := h.each i p hp
    exact ⟨B, cb, h1, row_later h2 hb⟩⟩
/-- One row more. -/
theorem RowsAt.more {w w' : World} {base : Nat} {v v' : Value} {ps : List (List Int)} {vs : List Value} (h : RowsAt w base v ps vs) {p : List Int} {A : Option Addr} {c : Nat} (hp : w.ownsRow base 5 1 (.slice A p.length c) p.length (p.map (Value.int .u8)))
    (hg : w.grownBy w' v.ownBlock) (hr : w'.ownsRow base 22 1 v' (ps.length + 1) (vs ++ [.slice A p.length c])) : RowsAt w' base v' (ps ++ [p]) (vs ++ [.slice A p.length c]) := by
  have hl : vs.length = ps.length := by have := h.row.1; omega
  have hne : (5 : TypeId) ≠ 22 := by decide
  refine ⟨by rw [List.length_append]; exact hr, fun i q hq => ?_⟩
  by_cases hi : i < ps.length
  · rw [List.getElem?_append_left hi] at hq
    obtain ⟨B, cb, h1, h2⟩ := h.each i q hq
    exact ⟨B, cb, by rw [List.getElem?_append_left (by omega)]; exact h1, h2.kept hg (own_apart hne h2 h.row)⟩
  · rw [List.getElem?_append_right (by omega)] at hq
    have hi0 : i - ps.length = 0 := by
      rcases hd : i - ps.length with _ | j
      · rfl
      · rw [hd] at hq; simp at hq
    rw [hi0] at hq
    have hq : p = q := by simpa using hq
    subst hq
    exact ⟨A, c, by rw [List.getElem?_append_right (by omega), hl, hi0]; rfl, hp.kept hg (own_apart hne hp h.row)⟩

set_option maxHeartbeats 2000000 in
theorem all_any {w : World} {T : Nat → Prop} {g d : Nat} {V : AW} (h : WalAt w T g d V) (h1 : 1 ≤ V.parts.length) (hb : costM V.parts ≤ 1000000) :
    Calls Try.prog 13 #[.pointer (some ⟨g, 0, none⟩)] w (GivesRows w (V.parts.drop 1)) := by
  obtain ⟨i0, hi, hz0, hz1, hz2⟩ := info_parts infoBytes
  obtain ⟨A, c, vs, h⟩ := h
  have c1 := h.c1
  have H := Lib.hid h.parts
  have HLW := Lib.hid h.low
  obtain ⟨b, p0, B0, cb0, hA, hp0, _⟩ := h.parts.at_ h1
  subst hA
  obtain ⟨n, hn⟩ : ∃ n, n = V.parts.length := ⟨_, rfl⟩
  have HN := Lib.hid hn
  have hle := own_form h.parts.row
  obtain ⟨A', c', hce, hnc, hcm⟩ := hle
  injection hce with hce1 _ hce
  subst hce
  subst hce1
  have hbnd := costM_len V.parts
  have HPB := Lib.hid (fun k p (hp : V.parts[k]? = some p) => Nat.le_trans (costM_mem hp) hb)
  rw [← hn] at c1 h1 hnc hbnd
  obtain ⟨R, hR⟩ : ∃ R, R = V.parts.drop 1 := ⟨_, rfl⟩
  have HR := Lib.hid hR
  have HRL := Lib.hid (show R.length = n - 1 by rw [hR, List.length_drop, ← hn])
  rw [← hR]
  clear h hn hp0 hR
  by_cases hc1 : c = 1
  · subst hc1
    obtain rfl : n = 1 := by omega
    have hr0 : R = [] := List.eq_nil_of_length_eq_zero (by rw [HRL.out])
    have HR0 := Lib.hid hr0
    clear hr0
    go_enter Try.func13, Try.ntmps13
    go_wp2_with fail
    go_loopw [3, 15] (fun s i wr => i = .int .i64 0 ∧ s = .slice none 0 0 ∧ wr = w) (fun _ _ _ => 0)
    case atStart => exact ⟨rfl, rfl, rfl⟩
    case round =>
      obtain ⟨rfl, rfl, rfl⟩ := hrel
      go_wp2
      go_ret
      rw [HR0.out]
      exact ⟨_, [], rfl, ⟨World.ownsRow_nil _ _ _ _, fun i p hp => by simp at hp⟩, Below.refl _ _⟩
  · have hc2 : ¬ c = 1 := hc1
    have hcd : (c == 1) = false := by simp [hc1]
    go_enter Try.func13, Try.ntmps13
    go_wp2_with fail
    go_loopw [3, 15] (fun s i wr => ∃ k : Nat, i = .int .i64 k ∧ k ≤ n - 1 ∧ Hid (∃ vs', RowsAt wr w.heap.size s (R.take k) vs' ∧ Below w.heap.size w wr)) (fun s i _ => n - (match i with | .int _ k => k.toNat | _ => 0))
    case atStart => exact ⟨0, rfl, Nat.zero_le _, Lib.hid ⟨[], ⟨World.ownsRow_nil _ _ _ _, fun i p hp => by simp at hp⟩, Below.refl _ _⟩⟩
    case round =>
      obtain ⟨k, rfl, hk, HB⟩ := hrel
      obtain ⟨vs', hrows, hbel⟩ := HB.out
      by_cases hkn : k < n - 1
      · have hkk : (k : Int) < ((n - 1 : Nat) : Int) := by omega
        have k0 : (0 : Int) ≤ (k : Int) := by omega
        obtain ⟨b', p, B, cb, hA, hp, hcell, hrow, hBT, hoct⟩ := H.out.at_ (k := k + 1) (by rw [← HN.out]; omega)
        injection hA with hA
        injection hA with hA
        subst hA
        have hcw : wr.cell? ⟨b, 1 + k, none⟩ = some (.slice B p.length cb) := by rw [Nat.add_comm]; exact (hbel.cell (p := ⟨b, k + 1, none⟩) (World.block_lt_of_cell? w _ hcell)).trans hcell
        have hrow' := row_turn (w' := wr) hrow (T := fun q => q < w.heap.size) (fun q hq => by have := (hrow.lt q (by cases B <;> simp_all [Value.ownBlock, blk])).2; exact this) (fun q hq => hbel.block q hq)
        have hpb := HPB.out _ _ hp
        have HC := Lib.hid (clone_b B cb p wr (Sl.ofRow hrow' rfl) (by omega))
        have hkR : R[k]? = some p := by rw [HR.out, List.getElem?_drop, Nat.add_comm]; exact hp
        have htk : R.take (k + 1) = R.take k ++ [p] := by rw [List.take_add_one, hkR]; rfl
        have HTK := Lib.hid htk
        have hlk : (R.take k).length = k := by rw [List.length_take, HRL.out]; omega
        have HLK := Lib.hid hlk
        have hr1 := hrows.row
        rw [hlk] at hr1
        have HROW := Lib.hid hrows
        have HR1 := Lib.hid hr1
        have HBL := Lib.hid hbel
        obtain ⟨pl, hpl⟩ : ∃ pl, pl = p.length := ⟨_, rfl⟩
        have HPL := Lib.hid hpl
        rw [← hpl] at HC hcw
        clear hrows hbel hcell hrow hrow' hBT hoct hp hkR htk hlk hr1 hpl
        go_wp2_with (first
          | (go_at_call 43; refine HC.out.mono ?_; rintro e w1 ⟨A1, c1', rfl, hn1, hb1⟩; have HN1 := Lib.hid hn1; have HB1 := Lib.hid hb1; clear hn1 hb1)
          | (at_builtin; refine wpList_append_own _ rfl (.tmp 19) (.tmp 22) 32 rfl w.heap.size 22 i0 (.slice none 0 0) 1 24 Try.underlying32 hi hz0 hz1 hz2 rfl (by decide) _ k vs' rfl ((row_later HR1.out HB1.out).alloc _) ⟨w1.heap.size, 0, none⟩ 1 1 [.slice A1 p.length c1'] rfl rfl (cell_one_new _ _ _) (by simp [Value.oneCell']) (by unfold maxLen; omega) (by omega) (by have := HBL.out.size; have := HB1.out.size; simp; omega) ?_; intro v' w2 hown' hgrow _; have HO := Lib.hid hown'; have HG := Lib.hid hgrow; clear hown' hgrow))
        go_roundw
        case rel =>
          refine ⟨k + 1, by go_num, by omega, Lib.hid ⟨vs' ++ [.slice A1 p.length c1'], ?_, ?_⟩⟩
          · rw [HTK.out]
            have hx := (HROW.out.later HB1.out).row
            refine RowsAt.more (w := w1.alloc (.cells #[.slice A1 p.length c1'] 22)) ⟨((HROW.out.later HB1.out).later ((Below.refl _ w1).alloc (Nat.le_refl _) _)).row, ((HROW.out.later HB1.out).later ((Below.refl _ w1).alloc (Nat.le_refl _) _)).each⟩ ?_ HG.out (by rw [HLK.out]; exact HO.out)
            exact row_later (New.low HN1.out HBL.out.size) ((Below.refl _ w1).alloc (Nat.le_refl _) _)
          · have hb1 := HBL.out.trans (HB1.out.mono HBL.out.size)
            exact (hb1.alloc hb1.size _).grown HG.out (by have := hb1.size; simp; omega) (fun q hq => (HR1.out.lt q hq).1)
        case measure => simp; omega
      · obtain rfl : k = n - 1 := by omega
        have HTK := Lib.hid (show R.take (n - 1) = R by rw [← HRL.out, List.take_length])
        have HRW := Lib.hid hrows
        have HBL := Lib.hid hbel
        clear hrows hbel
        go_wp2
        go_ret
        have hx := HRW.out
        rw [HTK.out] at hx
        exact ⟨_, vs', rfl, hx, HBL.out⟩

end Go.Proofs.Ytienabfilnpieaa
