/-
  What happens to the log and to its model: both disks, the log, the model.
  What an event does to the log and to its model.
  What an event does to the log and to its model: the disk's own, Open, Format; and does, whole.
-/
import Derived.Test.YtienabfilnpieaaGreatModN
import Derived.Deep.Cut
import Derived.Deep.CutRange
import Derived.Deep.CutBlock
import Derived.Test.YtienabfilnpieaaGreatWalAlone
namespace Go.Proofs.YtienabfilnpieaaGreat
open Go.RowKit Go.Shelf
set_option linter.unusedVariables false
set_option linter.unusedSimpArgs false
set_option linter.unusedSimpArgs false
set_option maxRecDepth 100000

/-! ### all files are bytes -/
def AD.Octs (M : AD) : Prop := ∀ k F, M.files k = some F → Oct F.bs
theorem oct_nil : Oct [] := fun b hb => by simp at hb
section
variable {M M' : AD}
theorem octs_of (h : M.Octs) (he : M'.files = M.files) : M'.Octs := fun k F hF => h k F (by rw [← he]; exact hF)
theorem octs_met (h : M.Octs) : M.met.Octs := octs_of h (met_files M)
theorem octs_file (h : M.Octs) (k : Int) : Oct (M.file k).bs := by
  unfold AD.file
  cases hf : M.files k with
  | none => exact oct_nil
  | some F => exact h k F hf
theorem octs_put (h : M.Octs) (k : Int) {F : AF} (ho : Oct F.bs) : (M.put k F).Octs := fun j G hG => by
  have hG : upd M.files k (some F) j = some G := hG
  by_cases e : j = k
  · subst e
    rw [upd_same] at hG
    injection hG with hG
    subst hG
    exact ho
  · rw [upd_other _ e] at hG
    exact h j G hG
theorem octs_drop (h : M.Octs) (k : Int) : (M.drop k).Octs := fun j G hG => by
  have hG : upd M.files k none j = some G := hG
  by_cases e : j = k
  · subst e
    rw [upd_same] at hG
    cases hG
  · rw [upd_other _ e] at hG
    exact h j G hG
theorem octs_appendM (h : M.Octs) (k : Int) {bs : List Int} (ho : Oct bs) : (M.appendM k bs).Octs := by
  unfold AD.appendM
  split
  · exact h
  · split
    · split
      · exact h
      · split
        · exact octs_met h
        · exact octs_put (octs_met h) k (show Oct ((M.file k).bs ++ bs) from oct_append (octs_file h k) ho)
    · exact h
theorem octs_opM (h : M.Octs) (k : Int) (xs : List Int) (h' : M'.Octs) : (M.opM k xs M').Octs := by
  unfold AD.opM
  split
  · split
    · exact h'
    · exact octs_met h
  · exact h
theorem octs_dropM (h : M.Octs) : M.dropM.Octs := by
  unfold AD.dropM
  split
  · exact octs_opM h _ _ (octs_drop (octs_met h) 1)
  · exact h
theorem octs_truncM (h : M.Octs) (k n : Int) : (M.truncM k n).Octs := by
  unfold AD.truncM
  split
  · split
    · exact h
    · split
      · exact octs_put (octs_met h) k (show Oct ((M.file k).bs.take n.toNat) from (octs_file h k).takeN _)
      · exact octs_met h
  · exact h
theorem octs_trimM (h : M.Octs) (n : Int) : (M.trimM n).Octs := by
  unfold AD.trimM
  split
  · exact h
  · exact octs_truncM h _ _
theorem octs_st (h : M.Octs) {bs : List Int} (ho : Oct bs) (j : Nat) : (M.st bs j).Octs := by
  have h1 := octs_dropM h
  have h2 : (M.st2 bs).Octs := octs_appendM h1 1 ho
  have h3 : (M.st3 bs).Octs := octs_opM h2 _ _ (octs_put (octs_met h2) 1 (octs_file h2 1))
  have h4 : (M.st4 bs).Octs := octs_opM h3 _ _ (by
    unfold AD.move
    split
    · exact octs_met h3
    · exact octs_put (octs_drop (octs_met h3) 1) 0 (octs_file (octs_met h3) 1))
  rcases j with _ | _ | _ | _ | j
  · exact h
  · exact h1
  · exact h2
  · exact h3
  · exact h4
theorem octs_makeM (h : M.Octs) {bs : List Int} (ho : Oct bs) : (M.makeM bs).Octs := by
  unfold AD.makeM
  split
  · exact octs_st h ho 1
  · split
    · exact octs_st h ho 2
    · split
      · exact octs_st h ho 3
      · exact octs_st h ho 4
theorem octs_layM (h : M.Octs) {fr : List Int} (ho : Oct fr) : (M.layM fr).Octs := by
  have h1 := octs_appendM h 0 ho
  unfold AD.layM
  split
  · exact h1
  · exact octs_opM h1 _ _ (octs_put (octs_met h1) 0 (octs_file h1 0))
theorem octs_openM (h : M.Octs) : M.openM.Octs := by
  have h1 : M.loadM.Octs := octs_opM h _ _ (octs_met h)
  have h2 : M.cutM.Octs := octs_trimM h1 _
  unfold AD.openM
  split
  · exact h1
  · split
    · exact h2
    · exact octs_dropM h2
theorem octs_crash (h : M.Octs) (keep : List Bool) : (M.crash keep).Octs := fun k G hG => by
  have hG : (M.files k).bind (fun F => F.lives (M.left keep k)) = some G := hG
  cases hf : M.files k with
  | none => rw [hf] at hG; cases hG
  | some F =>
    rw [hf] at hG
    have hG : F.lives (M.left keep k) = some G := hG
    unfold AF.lives at hG
    split at hG
    · cases hG
    · injection hG with hG
      subst hG
      exact (h k F hf).takeN _
theorem octs_readB (h : M.Octs) (k : Int) : Oct (M.readB k) := by
  unfold AD.readB
  split
  · exact octs_file h k
  · exact oct_nil
theorem readB_len (h : M.Ok) : (M.readB 0).length ≤ 65536 := by
  unfold AD.readB
  split
  · rw [len_file]
    have h1 := len_le M (k := 0) (by decide)
    have h2 := h.tot
    have h3 := h.room2
    omega
  · simp
theorem octs_appD {V : AW} (h : M.Octs) {b : List Int} (ho : Oct b) : (V.appD M b).Octs := by
  unfold AW.appD
  split
  · exact h
  · exact octs_layM h (frameM_oct _ ho)
theorem octs_chkD {V : AW} (h : M.Octs) {b : List Int} (ho : Oct b) : (V.chkD M b).Octs := by
  unfold AW.chkD
  split
  · exact h
  · exact octs_makeM h (fileM_oct _ ho)
theorem octs_fmtM (h : M.Octs) (n : Int) : (M.fmtM n).Octs := by
  unfold AD.fmtM
  split
  · exact h
  · exact octs_makeM h (fileM_oct _ oct_nil)
theorem appD_ops {V : AW} (b : List Int) : (V.appD M b).ops ≤ M.ops + 4 := by
  unfold AW.appD
  split
  · omega
  · have := layM_ops M (frameM V.parts.length b); omega
theorem chkD_ops {V : AW} (b : List Int) : (V.chkD M b).ops ≤ M.ops + 4 := by
  unfold AW.chkD
  split
  · omega
  · exact makeM_ops _ _
theorem fmtM_ops (n : Int) : (M.fmtM n).ops ≤ M.ops + 4 := by
  unfold AD.fmtM
  split
  · omega
  · exact makeM_ops _ _
end

/-! ### both disks, the log, the model -/
structure DI (w1 W : World) (S S2 T Q : Nat → Prop) (d o mb k : Nat) (M : AD) (V : AW) (no : Bool) : Prop where
  dd : DiskAt W S d M
  dm : DiskAt W S2 o M
  md : ModAt W Q mb o V no
  tl : ∀ q, T q → q < W.heap.size
  s12 : ∀ q, S q → ¬ S2 q
  sT : ∀ q, T q → ¬ S q
  s2T : ∀ q, T q → ¬ S2 q
  sQ : ∀ q, Q q → ¬ S q
  s2Q : ∀ q, Q q → ¬ S2 q
  TQ : ∀ q, Q q → ¬ T q
  ok : no = false → V.Ok
  oct : M.Octs
  ops : M.ops ≤ 10 * (k : Int)
  bel : Below w1.heap.size w1 W
  up : ∀ q, S q ∨ S2 q ∨ T q ∨ Q q → w1.heap.size ≤ q
/-- The log, or that there is none. -/
def LogIs (W : World) (T : Nat → Prop) (lg : Value) (d : Nat) (V : AW) (no : Bool) : Prop := (no = true ∧ lg = .pointer none) ∨ (no = false ∧ ∃ g, lg = .pointer (some ⟨g, 0, none⟩) ∧ WalAt W T g d V)
def DoesI (w1 W : World) (d o mb k : Nat) (lg : Value) : Prop := ∃ S S2 T Q M V no, DI w1 W S S2 T Q d o mb k M V no ∧ LogIs W T lg d V no
section
variable {w1 W W' : World} {S S2 T Q S' S2' T' Q' : Nat → Prop} {d o mb k : Nat} {M M' : AD} {V V' : AW} {no no' : Bool} {lg : Value}
theorem LogIs.turn {S : Nat → Prop} (h : LogIs W T lg d V no) (ht : Turn S W W') (hd : ∀ q, T q → ¬ S q) : LogIs W' T lg d V no := by
  rcases h with h | ⟨h1, g, h2, h3⟩
  · exact .inl h
  · exact .inr ⟨h1, g, h2, h3.other ht hd⟩
theorem DI.later (h : DI w1 W S S2 T Q d o mb k M V no) (hb : Below W.heap.size W W') : DI w1 W' S S2 T Q d o mb k M V no :=
  ⟨h.dd.later hb, h.dm.later hb, h.md.later hb, fun q hq => Nat.lt_of_lt_of_le (h.tl q hq) hb.size, h.s12, h.sT, h.s2T, h.sQ, h.s2Q, h.TQ, h.ok, h.oct, h.ops, h.bel.trans (hb.mono h.bel.size), h.up⟩
theorem LogIs.later (h : LogIs W T lg d V no) (hb : Below W.heap.size W W') : LogIs W' T lg d V no := by
  rcases h with h | ⟨h1, g, h2, h3⟩
  · exact .inl h
  · exact .inr ⟨h1, g, h2, h3.later hb⟩
theorem DoesI.later {k : Nat} (h : DoesI w1 W d o mb k lg) (hb : Below W.heap.size W W') : DoesI w1 W' d o mb k lg := by
  obtain ⟨S, S2, T, Q, M, V, no, h1, h2⟩ := h
  exact ⟨S, S2, T, Q, M, V, no, h1.later hb, h2.later hb⟩
theorem DoesI.bel (h : DoesI w1 W d o mb k lg) : Below w1.heap.size w1 W := by
  obtain ⟨S, S2, T, Q, M, V, no, h1, h2⟩ := h
  exact h1.bel
/-- Blocks that nobody of these has. -/
def DI.Free (S S2 T Q : Nat → Prop) (q : Nat) : Prop := ¬ S q ∧ ¬ S2 q ∧ ¬ T q ∧ ¬ Q q
/-- The disk, or the log, went on; the model did not yet. -/
structure DH (w1 W : World) (S S2 T Q : Nat → Prop) (d o mb k : Nat) (M M' : AD) (V : AW) (no : Bool) : Prop where
  dd : DiskAt W S d M'
  dm : DiskAt W S2 o M
  md : ModAt W Q mb o V no
  tl : ∀ q, T q → q < W.heap.size
  s12 : ∀ q, S q → ¬ S2 q
  sT : ∀ q, T q → ¬ S q
  s2T : ∀ q, T q → ¬ S2 q
  sQ : ∀ q, Q q → ¬ S q
  s2Q : ∀ q, Q q → ¬ S2 q
  TQ : ∀ q, Q q → ¬ T q
  ok : no = false → V.Ok
  oct : M.Octs
  ops : M.ops ≤ 10 * (k : Int)
  bel : Below w1.heap.size w1 W
  up : ∀ q, S q ∨ S2 q ∨ T q ∨ Q q → w1.heap.size ≤ q
theorem DI.half (h : DI w1 W S S2 T Q d o mb k M V no) (hd : DiskAt W' S' d M') (hm : Moved S T S' T' W W') (hsep : ∀ q, T' q → ¬ S' q) (hl : ∀ q, T' q → q < W'.heap.size) : DH w1 W' S' S2 T' Q d o mb k M M' V no := by
  have hz := h.bel.size
  have ht := hm.turn
  have hlo2 : ∀ q, S2 q → q < W.heap.size := fun q hq => h.dm.low hq
  have hloQ : ∀ q, Q q → q < W.heap.size := fun q hq => h.md.low hq
  refine ⟨hd, h.dm.other ht (fun q hq e => e.elim (fun e => h.s12 q e hq) (fun e => h.s2T q e hq)), h.md.other ht (fun q hq e => e.elim (h.sQ q hq) (h.TQ q hq)), hl, fun q hq e => ?_, hsep, fun q hq e => ?_, fun q hq e => ?_, h.s2Q, fun q hq e => ?_, h.ok, h.oct, h.ops, ?_, fun q hq => ?_⟩
  · rcases hm.s q hq with e2 | e2
    · exact h.s12 q e2 e
    · have := hlo2 q e; omega
  · rcases hm.t q hq with e2 | e2
    · exact h.s2T q e2 e
    · have := hlo2 q e; omega
  · rcases hm.s q e with e2 | e2
    · exact h.sQ q hq e2
    · have := hloQ q hq; omega
  · rcases hm.t q e with e2 | e2
    · exact h.TQ q hq e2
    · have := hloQ q hq; omega
  · exact (moved_up hm h.bel (fun q hq => h.up q (hq.elim .inl (fun e => .inr (.inr (.inl e)))))).1
  · have hu := (moved_up hm h.bel (fun q hq => h.up q (hq.elim .inl (fun e => .inr (.inr (.inl e)))))).2
    rcases hq with e | e | e | e
    · exact hu q (.inl e)
    · exact h.up q (.inr (.inl e))
    · exact hu q (.inr e)
    · exact h.up q (.inr (.inr (.inr e)))
theorem DH.whole (h : DH w1 W S S2 T Q d o mb k M M' V no) (hm : Moved S2 Q S2' Q' W W') (hd : DiskAt W' S2' o M') (hmd : ModAt W' Q' mb o V' no') (hsep : ∀ q, Q' q → ¬ S2' q) (hok : no' = false → V'.Ok) (ho : M'.Octs) (hops : M'.ops ≤ M.ops + 10) : DI w1 W' S S2' T Q' d o mb (k + 1) M' V' no' := by
  have ht := hm.turn
  have hloS : ∀ q, S q → q < W.heap.size := fun q hq => h.dd.low hq
  have hu := moved_up hm h.bel (fun q hq => h.up q (hq.elim (fun e => .inr (.inl e)) (fun e => .inr (.inr (.inr e)))))
  refine ⟨h.dd.other ht (fun q hq e => e.elim (h.s12 q hq) (fun e => h.sQ q e hq)), hd, hmd, fun q hq => Nat.lt_of_lt_of_le (h.tl q hq) ht.size, fun q hq e => ?_, h.sT, fun q hq e => ?_, fun q hq e => ?_, hsep, fun q hq e => ?_, hok, ho, by have := h.ops; omega, hu.1, fun q hq => ?_⟩
  · rcases hm.s q e with e2 | e2
    · exact h.s12 q hq e2
    · have := hloS q hq; omega
  · rcases hm.s q e with e2 | e2
    · exact h.s2T q hq e2
    · have := h.tl q hq; omega
  · rcases hm.t q hq with e2 | e2
    · exact h.sQ q e2 e
    · have := hloS q e; omega
  · rcases hm.t q hq with e2 | e2
    · exact h.TQ q e2 e
    · have := h.tl q e; omega
  · rcases hq with e | e | e | e
    · exact h.up q (.inl e)
    · exact hu.2 q (.inl e)
    · exact h.up q (.inr (.inr (.inl e)))
    · exact hu.2 q (.inr e)
theorem DH.widen (h : DH w1 W S S2 T Q d o mb k M M' V no) (U : Nat → Prop) (hU : ∀ q, U q → q < W.heap.size ∧ w1.heap.size ≤ q ∧ ¬ S q ∧ ¬ S2 q ∧ ¬ T q) : DH w1 W S S2 T (fun q => Q q ∨ U q) d o mb k M M' V no := by
  have hmd : ModAt W (fun q => Q q ∨ U q) mb o V no := by
    obtain ⟨A, c, vs, hi⟩ := h.md
    exact ⟨A, c, vs, hi.box, hi.parts.widen (fun q hq => .inl hq), .inl hi.inQ, fun q hq => hq.elim (hi.low q) (fun e => (hU q e).1)⟩
  exact ⟨h.dd, h.dm, hmd, h.tl, h.s12, h.sT, h.s2T, fun q hq => hq.elim (h.sQ q) (fun e => (hU q e).2.2.1), fun q hq => hq.elim (h.s2Q q) (fun e => (hU q e).2.2.2.1), fun q hq => hq.elim (h.TQ q) (fun e => (hU q e).2.2.2.2), h.ok, h.oct, h.ops, h.bel, fun q hq => by
    rcases hq with e | e | e | e | e
    · exact h.up q (.inl e)
    · exact h.up q (.inr (.inl e))
    · exact h.up q (.inr (.inr (.inl e)))
    · exact h.up q (.inr (.inr (.inr e)))
    · exact (hU q e).2.1⟩
end

end Go.Proofs.YtienabfilnpieaaGreat

namespace Go.Proofs.YtienabfilnpieaaGreat
open Go.RowKit Go.Shelf
set_option linter.unusedVariables false
set_option linter.unusedSimpArgs false
set_option linter.unusedSimpArgs false
set_option maxRecDepth 100000

/-! ### turn -/
set_option maxHeartbeats 1000000 in
theorem turn_any {w : World} {base l c : Nat} {A : Option Addr} {bs : List Int} (h : w.ownsRow base 5 1 (.slice A l c) l (bs.map (Value.int .u8))) (hl : l ≤ 100000) :
    Calls Tryz.prog 34 #[.slice A l c] w fun e w' => e = .returned (.tuple #[]) ∧ Turn (fun q => blk A = some q) w w' := by
  have hlc : l ≤ c := by obtain ⟨A', c', e, e1, _⟩ := own_form h; injection e with _ _ e; subst e; exact e1
  have H := Lib.hid h
  have hlen : bs.length = l := by have := h.1; simpa using this
  have HL := Lib.hid hlen
  clear h hlen
  go_enter Tryz.func34, Tryz.ntmps34
  go_wp2_with fail
  go_loopw [5] (fun i wr => ∃ (k : Nat) (xs : List Value), i = .int .i64 k ∧ k ≤ l ∧ Hid ((∀ v ∈ xs, ∃ z, v = .int .u8 z) ∧ wr.ownsRow base 5 1 (.slice A l c) l xs ∧ Turn (fun q => blk A = some q) w wr)) (fun i _ => l - (match i with | .int _ k => k.toNat | _ => 0))
  case atStart => exact ⟨0, bs.map (Value.int .u8), rfl, Nat.zero_le _, Lib.hid ⟨fun v hv => by obtain ⟨z, _, e⟩ := List.mem_map.1 hv; exact ⟨z, e.symm⟩, H.out, Turn.refl _ _⟩⟩
  case round =>
    obtain ⟨k, xs, rfl, hk, HI⟩ := hrel
    by_cases hkl : k < l
    · have hkk : (k : Int) < l := by omega
      have k0 : (0 : Int) ≤ (k : Int) := by omega
      have hlc' : (l : Int) ≤ (c : Int) := by omega
      obtain ⟨g, rfl⟩ : ∃ g, A = some ⟨g, 0, none⟩ := by
        rcases HI.out.2.1.2 with ⟨_, e⟩ | ⟨g, cap, cur, e, _⟩
        · omega
        · injection e with e; exact ⟨g, e⟩
      have hxl : xs.length = l := by have := HI.out.2.1.1; omega
      have hcell := HI.out.2.1.cellAt k (by omega)
      obtain ⟨z, hz⟩ := HI.out.1 (xs[k]'(by omega)) (List.getElem_mem _)
      rw [List.getElem?_eq_getElem (by omega), hz] at hcell
      have hfz : wr.frozen? ⟨g, k, none⟩ = false := by
        rcases HI.out.2.1.2 with ⟨e, _⟩ | ⟨g', cap, cur, e, _, hh, _⟩
        · cases e
        · injection e with e
          injection e with e
          injection e with e
          subst e
          simp [World.frozen?, hh]
      clear hz hxl
      go_wp2_with fail
      go_roundw
      case rel =>
        obtain ⟨h1, h2, h3⟩ := HI.out
        refine ⟨k + 1, xs.set k (.int .u8 _), by go_num, by omega, Lib.hid ⟨fun v hv => ?_, (World.ownsRow.stored h2 k _).1, h3.trans (Turn.of_grown (World.ownsRow.stored h2 k _).2 (fun i e => .inl (by simpa [blk] using e))) (fun i e => .inl e)⟩⟩
        rcases List.mem_or_eq_of_mem_set hv with e | e
        · exact h1 v e
        · exact ⟨_, e⟩
      case measure => simp; omega
    · obtain rfl : k = l := by omega
      go_wp2
      go_end0
      exact ⟨rfl, HI.out.2.2⟩

/-! ### both sides of an event -/
/-- New blocks since W0 stay. -/
def KeepX (W0 W W' : World) : Prop := W.heap.size ≤ W'.heap.size ∧ ∀ q, W0.heap.size ≤ q → q < W.heap.size → W'.heap[q]? = W.heap[q]?
theorem KeepX.trans {W0 W W' W'' : World} (h : KeepX W0 W W') (h' : KeepX W0 W' W'') : KeepX W0 W W'' := ⟨Nat.le_trans h.1 h'.1, fun q h1 h2 => (h'.2 q h1 (Nat.lt_of_lt_of_le h2 h.1)).trans (h.2 q h1 h2)⟩
theorem keepX_of {U : Nat → Prop} {W0 W W' : World} (ht : Turn U W W') (hU : ∀ q, U q → q < W0.heap.size ∨ W.heap.size ≤ q) : KeepX W0 W W' := ⟨ht.size, fun q h1 h2 => ht.block q h2 (fun e => by have := hU q e; omega)⟩
section
variable {w1 W0 W W' : World} {S S2 T Q : Nat → Prop} {d o mb k : Nat} {M : AD} {V : AW} {no : Bool} {lg : Value}
theorem DI.low (h : DI w1 W0 S S2 T Q d o mb k M V no) : ∀ q, S q ∨ S2 q ∨ T q ∨ Q q → q < W0.heap.size := fun q hq => by
  rcases hq with e | e | e | e
  · exact h.dd.low e
  · exact h.dm.low e
  · exact h.tl q e
  · exact h.md.low e
/-- The log is told to append. -/
theorem log_append (h : DI w1 W S S2 T Q d o mb k M V no) (hlg : LogIs W T lg d V no) (hk : k ≤ 1000) {A : Option Addr} {l c : Nat} {b : List Int} (hl : b.length = l) (hb : l ≤ 300) (hs : Sl W A c b) (ho : Oct b) (hA : ∀ q, blk A = some q → ¬ S q) :
    Calls Tryz.prog 23 #[lg, .slice A l c] W fun e W' => e = .returned (.int .i64 (V.mAppC no M b)) ∧ ∃ S' T', DH w1 W' S' S2 T' Q d o mb k M (V.mAppD no M b) V no ∧ LogIs W' T' lg d (V.mAppV no M b) no ∧ Moved S T S' T' W W' := by
  have hops := h.ops
  rcases hlg with ⟨rfl, rfl⟩ | ⟨rfl, g, rfl, hw⟩
  · refine (append_nilW W A l c).mono ?_
    rintro e W' ⟨rfl, hbel⟩
    have hm : Moved S T S T W W' := ⟨Turn.of_below hbel, fun q hq => .inl hq, fun q hq => .inl hq⟩
    exact ⟨rfl, S, T, h.half (h.dd.later hbel) hm h.sT (fun q hq => Nat.lt_of_lt_of_le (h.tl q hq) hbel.size), .inl ⟨rfl, rfl⟩, hm⟩
  · have key := append_anyW ⟨hw, h.dd, h.sT, h.ok rfl⟩ (by omega) hl hs ho (by omega) hA
    refine key.mono ?_
    rintro e W' ⟨rfl, S', T', hlog, hm⟩
    exact ⟨rfl, S', T', h.half hlog.disk hm hlog.sep (fun q hq => hlog.wal.low hq), .inr ⟨rfl, g, rfl, hlog.wal⟩, hm⟩
theorem log_check (h : DI w1 W S S2 T Q d o mb k M V no) (hlg : LogIs W T lg d V no) (hk : k ≤ 1000) {A : Option Addr} {l c : Nat} {b : List Int} (hl : b.length = l) (hb : l ≤ 300) (hs : Sl W A c b) (ho : Oct b) (hA : ∀ q, blk A = some q → ¬ S q) :
    Calls Tryz.prog 24 #[lg, .slice A l c] W fun e W' => e = .returned (.int .i64 (V.mChkC no M b)) ∧ ∃ S' T', DH w1 W' S' S2 T' Q d o mb k M (V.mChkD no M b) V no ∧ LogIs W' T' lg d (V.mChkV no M b) no ∧ Moved S T S' T' W W' := by
  have hops := h.ops
  rcases hlg with ⟨rfl, rfl⟩ | ⟨rfl, g, rfl, hw⟩
  · refine (check_nil W A l c).mono ?_
    rintro e W' ⟨rfl, rfl⟩
    have hm : Moved S T S T W W := ⟨Turn.refl _ _, fun q hq => .inl hq, fun q hq => .inl hq⟩
    exact ⟨rfl, S, T, h.half h.dd hm h.sT h.tl, .inl ⟨rfl, rfl⟩, hm⟩
  · have key := check_anyW ⟨hw, h.dd, h.sT, h.ok rfl⟩ (by omega) hl hs ho (by omega) hA
    refine key.mono ?_
    rintro e W' ⟨rfl, S', T', hlog, hm⟩
    exact ⟨rfl, S', T', h.half hlog.disk hm hlog.sep (fun q hq => hlog.wal.low hq), .inr ⟨rfl, g, rfl, hlog.wal⟩, hm⟩
theorem mAppV_ok (hok : no = false → V.Ok) (b : List Int) : no = false → (V.mAppV no M b).Ok := fun e => by
  subst e
  exact appV_ok (hok rfl) M b
theorem mChkV_ok (hok : no = false → V.Ok) (b : List Int) : no = false → (V.mChkV no M b).Ok := fun e => by
  subst e
  exact chkV_ok (hok rfl) M b
/-- The bytes that were handed in turn. -/
theorem DI.free (h : DI w1 W S S2 T Q d o mb k M V no) {U : Nat → Prop} (ht : Turn U W W') (hU : ∀ q, U q → ¬ S q ∧ ¬ S2 q ∧ ¬ T q ∧ ¬ Q q ∧ w1.heap.size ≤ q) : DI w1 W' S S2 T Q d o mb k M V no :=
  ⟨h.dd.other ht (fun q hq e => (hU q e).1 hq), h.dm.other ht (fun q hq e => (hU q e).2.1 hq), h.md.other ht (fun q hq e => (hU q e).2.2.2.1 hq), fun q hq => Nat.lt_of_lt_of_le (h.tl q hq) ht.size, h.s12, h.sT, h.s2T, h.sQ, h.s2Q, h.TQ, h.ok, h.oct, h.ops, h.bel.trans (ht.below h.bel.size (fun q hq => (hU q hq).2.2.2.2)), h.up⟩
/-- An event that hands in bytes: the log, the model, and the bytes that turn. -/
theorem both_bytes (fw fm : FuncId) (cf : AW → Bool → AD → List Int → Int) (vf : AW → Bool → AD → List Int → AW) (df : AW → Bool → AD → List Int → AD)
    (hw : ∀ {W : World} {S S2 T Q : Nat → Prop} {M : AD} {V : AW} {no : Bool} (_ : DI w1 W S S2 T Q d o mb k M V no) (_ : LogIs W T lg d V no) (_ : k ≤ 1000) {A : Option Addr} {l c : Nat} {b : List Int} (_ : b.length = l) (_ : l ≤ 300) (_ : Sl W A c b) (_ : Oct b) (_ : ∀ q, blk A = some q → ¬ S q),
      Calls Tryz.prog fw #[lg, .slice A l c] W fun e W' => e = .returned (.int .i64 (cf V no M b)) ∧ ∃ S' T', DH w1 W' S' S2 T' Q d o mb k M (df V no M b) V no ∧ LogIs W' T' lg d (vf V no M b) no ∧ Moved S T S' T' W W')
    (hm : ∀ {w : World} {S Q : Nat → Prop} {M : AD} {V : AW} {no : Bool} (_ : DiskAt w S o M) (_ : M.ops < 4611686018427380000) (_ : ModAt w Q mb o V no) (_ : ∀ k, Q k → ¬ S k) (_ : no = false → V.Ok) {B : Option Addr} {l cb : Nat} {b : List Int} (_ : b.length = l) (_ : l ≤ 300) (_ : w.ownsRow 0 5 1 (.slice B l cb) l (b.map (Value.int .u8))) (_ : Oct b) (_ : ∀ q, blk B = some q → Q q),
      Calls Tryz.prog fm #[.pointer (some ⟨mb, 0, none⟩), .slice B l cb] w fun e w' => e = .returned (.int .i64 (cf V no M b)) ∧ MGo S Q w mb o (df V no M b) (vf V no M b) no w')
    (hv : ∀ {M : AD} {V : AW} {no : Bool} (_ : no = false → V.Ok) (b : List Int), no = false → (vf V no M b).Ok) (hoc : ∀ {M : AD} {V : AW} {no : Bool} {b : List Int}, M.Octs → Oct b → (df V no M b).Octs) (hop : ∀ {M : AD} {V : AW} {no : Bool} {b : List Int}, (df V no M b).ops ≤ M.ops + 10)
    (h : DoesI w1 W0 d o mb k lg) (hb : Below W0.heap.size W0 W) (hk : k ≤ 1000) {A B : Option Addr} {l c cb : Nat} {b : List Int} (hl : b.length = l) (hbl : l ≤ 300) (ho : Oct b)
    (hA : W.ownsRow W0.heap.size 5 1 (.slice A l c) l (b.map (Value.int .u8))) (hB : W.ownsRow W0.heap.size 5 1 (.slice B l cb) l (b.map (Value.int .u8))) (hAB : ∀ q, blk A = some q → blk B ≠ some q) :
    Calls Tryz.prog fw #[lg, .slice A l c] W fun e W' => ∃ x, e = .returned (.int .i64 x) ∧ Calls Tryz.prog fm #[.pointer (some ⟨mb, 0, none⟩), .slice B l cb] W' fun e W'' => e = .returned (.int .i64 x) ∧
      Calls Tryz.prog 34 #[.slice A l c] W'' fun e W3 => e = .returned (.tuple #[]) ∧ DoesI w1 W3 d o mb (k + 1) lg := by
  obtain ⟨S, S2, T, Q, M, V, no, h1, h2⟩ := h
  have hlow := h1.low
  have hzw := h1.bel.size
  have h1' := h1.later hb
  have hlA : ∀ q, blk A = some q → W0.heap.size ≤ q ∧ q < W.heap.size := fun q hq => hA.lt q (by cases A <;> simp_all [Value.ownBlock, blk])
  have hlB : ∀ q, blk B = some q → W0.heap.size ≤ q ∧ q < W.heap.size := fun q hq => hB.lt q (by cases B <;> simp_all [Value.ownBlock, blk])
  have hA0 := own_low hA (Nat.zero_le _)
  have hB0 := own_low hB (Nat.zero_le _)
  refine (hw h1' (h2.later hb) hk hl hbl (Sl.ofRow (base := 0) (n := l) (by rw [hl]; exact hA0) hl.symm) ho (fun q hq e => by have := hlA q hq; have := hlow q (.inl e); omega)).mono ?_
  rintro e W' ⟨rfl, S', T', hh, hlg, hmv⟩
  refine ⟨_, rfl, ?_⟩
  -- the model keeps the bytes
  have hz1 := hmv.turn.size
  have nS' : ∀ q, W0.heap.size ≤ q → q < W.heap.size → ¬ S' q ∧ ¬ T' q := fun q a1 a2 => ⟨fun e => (hmv.s q e).elim (fun e => by have := hlow q (.inl e); omega) (fun e => by omega), fun e => (hmv.t q e).elim (fun e => by have := hlow q (.inr (.inr (.inl e))); omega) (fun e => by omega)⟩
  have hB1 : W'.ownsRow 0 5 1 (.slice B l cb) l (b.map (Value.int .u8)) := row_same hB0 fun q hq => hmv.turn.block q (hlB q hq).2 (fun e => by have := hlB q hq; rcases e with e | e <;> (first | (have := hlow q (.inl e); omega) | (have := hlow q (.inr (.inr (.inl e))); omega)))
  have hA1 : W'.ownsRow 0 5 1 (.slice A l c) l (b.map (Value.int .u8)) := row_same hA0 fun q hq => hmv.turn.block q (hlA q hq).2 (fun e => by have := hlA q hq; rcases e with e | e <;> (first | (have := hlow q (.inl e); omega) | (have := hlow q (.inr (.inr (.inl e))); omega)))
  have hw2 := hh.widen (fun q => blk B = some q) (fun q hq => ⟨by have := hlB q hq; omega, by have := hlB q hq; omega, (nS' q (hlB q hq).1 (hlB q hq).2).1, fun e => by have := hlB q hq; have := hlow q (.inr (.inl e)); omega, (nS' q (hlB q hq).1 (hlB q hq).2).2⟩)
  have hops := hw2.ops
  refine (hm hw2.dm (by omega) hw2.md hw2.s2Q hw2.ok hl hbl hB1 ho (fun q hq => .inr hq)).mono ?_
  rintro e W'' ⟨rfl, S2', Q', g1, g2, g3, g4⟩
  have hd := hw2.whole g4 g1 g2 g3 (hv hw2.ok b) (hoc hw2.oct ho) hop
  have hlg2 : LogIs W'' T' lg d (vf V no M b) no := hlg.turn g4.turn (fun q hq e => e.elim (hw2.s2T q hq) (fun e => hw2.TQ q e hq))
  have hz2 := g4.turn.size
  have nS2 : ∀ q, W0.heap.size ≤ q → q < W.heap.size → blk B ≠ some q → ¬ S2' q ∧ ¬ Q' q := fun q a1 a2 a3 => ⟨fun e => (g4.s q e).elim (fun e => by have := hlow q (.inr (.inl e)); omega) (fun e => by omega), fun e => (g4.t q e).elim (fun e => e.elim (fun e => by have := hlow q (.inr (.inr (.inr e))); omega) a3) (fun e => by omega)⟩
  have hA2 : W''.ownsRow 0 5 1 (.slice A l c) l (b.map (Value.int .u8)) := row_same hA1 fun q hq => g4.turn.block q (by have := hlA q hq; omega) (fun e => by
    have := hlA q hq
    rcases e with e | e | e
    · have := hlow q (.inr (.inl e)); omega
    · have := hlow q (.inr (.inr (.inr e))); omega
    · exact hAB q hq e)
  refine ⟨rfl, ?_⟩
  · refine (turn_any hA2 (by omega)).mono ?_
    rintro e W3 ⟨rfl, ht⟩
    have hU : ∀ q, blk A = some q → ¬ S' q ∧ ¬ S2' q ∧ ¬ T' q ∧ ¬ Q' q ∧ w1.heap.size ≤ q := fun q hq => by
      have a := hlA q hq
      exact ⟨(nS' q a.1 a.2).1, (nS2 q a.1 a.2 (hAB q hq)).1, (nS' q a.1 a.2).2, (nS2 q a.1 a.2 (hAB q hq)).2, by omega⟩
    exact ⟨rfl, _, _, _, _, _, _, _, hd.free ht hU, hlg2.turn ht (fun q hq e => (hU q e).2.2.1 hq)⟩
end

end Go.Proofs.YtienabfilnpieaaGreat

namespace Go.Proofs.YtienabfilnpieaaGreat
open Go.RowKit Go.Shelf
set_option linter.unusedVariables false
set_option linter.unusedSimpArgs false
set_option linter.unusedSimpArgs false
set_option maxRecDepth 100000

section
variable {w1 W0 W W' : World} {S S2 T Q : Nat → Prop} {d o mb k : Nat} {M : AD} {V : AW} {no : Bool} {lg : Value}
theorem both_disk (f : FuncId) (args : Nat → Array Value) (c : AD → Int) (m : AD → AD)
    (hf : ∀ {w : World} {S : Nat → Prop} {d : Nat} {M : AD}, DiskAt w S d M → Below w1.heap.size w1 w → Calls Tryz.prog f (args d) w fun e w' => e = .returned (.int .i64 (c M)) ∧ After S d w (m M) w')
    (hoc : ∀ {M : AD}, M.Octs → (m M).Octs) (hop : ∀ {M : AD}, (m M).ops ≤ M.ops + 10) (h : DoesI w1 W0 d o mb k lg) (hb : Below W0.heap.size W0 W) :
    Calls Tryz.prog f (args d) W fun e W' => ∃ x, e = .returned (.int .i64 x) ∧ KeepX W0 W W' ∧ W'.cell? ⟨mb, 0, none⟩ = some (.pointer (some ⟨o, 0, none⟩)) ∧
      Calls Tryz.prog f (args o) W' fun e W'' => e = .returned (.int .i64 x) ∧ KeepX W0 W W'' ∧ W''.cell? ⟨mb, 0, none⟩ = some (.pointer (some ⟨o, 0, none⟩)) ∧ DoesI w1 W'' d o mb (k + 1) lg := by
  obtain ⟨S, S2, T, Q, M, V, no, h1, h2⟩ := h
  have hlow := h1.low
  have h1' := h1.later hb
  refine (hf h1'.dd h1'.bel).mono ?_
  rintro e W' ⟨rfl, ha⟩
  have hm : Moved S T (grew S W W') T W W' := after_moved ha
  have hh := h1'.half (M' := m M) (T' := T) ha.1 hm (fun q hq e => by
    rcases e with e | e
    · exact h1.sT q hq e
    · have := h1.tl q hq; have := hb.size; omega) (fun q hq => Nat.lt_of_lt_of_le (h1'.tl q hq) ha.2.size)
  have k1 : KeepX W0 W W' := keepX_of ha.2 (fun q hq => .inl (hlow q (.inl hq)))
  refine ⟨_, rfl, k1, hh.md.mo, ?_⟩
  refine (hf hh.dm hh.bel).mono ?_
  rintro e W'' ⟨rfl, ha2⟩
  have hm2 : Moved S2 Q (grew S2 W' W'') Q W' W'' := after_moved ha2
  have hw := hh.whole hm2 ha2.1 (hh.md.other ha2.2 hh.s2Q) (fun q hq e => by
    rcases e with e | e
    · exact h1.s2Q q hq e
    · have := hlow q (.inr (.inr (.inr hq))); have := hb.size; have := ha.2.size; omega) hh.ok (hoc hh.oct) hop
  have k2 : KeepX W0 W' W'' := keepX_of ha2.2 (fun q hq => .inl (hlow q (.inr (.inl hq))))
  exact ⟨rfl, k1.trans k2, hw.md.mo, _, _, _, _, _, _, _, hw, (((h2.later hb).turn ha.2 h1.sT).turn ha2.2 h1.s2T)⟩
theorem openC_load (h : M.openC = 0) : M.loadC = 0 := by
  by_cases e : M.loadC = 0
  · exact e
  · unfold AD.openC at h
    rw [if_pos e] at h
    exact absurd h e
theorem both_open (h : DoesI w1 W0 d o mb k lg) (hb : Below W0.heap.size W0 W) (hk : k ≤ 1000) :
    Calls Tryz.prog 13 #[.pointer (some ⟨d, 0, none⟩)] W fun e W' => ∃ x n', e = .returned (.tuple #[n', .int .i64 x]) ∧
      Calls Tryz.prog 35 #[.pointer (some ⟨mb, 0, none⟩)] W' fun e W'' => e = .returned (.int .i64 x) ∧ (x = 0 → DoesI w1 W'' d o mb (k + 1) n') ∧ (x ≠ 0 → DoesI w1 W'' d o mb (k + 1) lg) := by
  obtain ⟨S, S2, T, Q, M, V, no, h1, h2⟩ := h
  have hlow := h1.low
  have h1' := h1.later hb
  have hops := h1.ops
  have ho := octs_readB h1.oct 0
  have hl := readB_len h1.dd.ok
  have hopn := openM_ops M
  refine (open_any h1'.dd (by omega) ho (by omega)).mono ?_
  rintro e W' (⟨hn, rfl, S', hw⟩ | ⟨hz, g, S', T', rfl, hw, hwal, hT⟩)
  · have hm : Moved S T S' T W W' := ⟨hw.turn.mono (fun q hq => .inl hq), hw.grow, fun q hq => .inl hq⟩
    have hh := h1'.half (M' := M.openM) (T' := T) hw.at_ hm (fun q hq e => (hw.grow q e).elim (h1.sT q hq) (fun e => by have := h1'.tl q hq; omega)) (fun q hq => Nat.lt_of_lt_of_le (h1'.tl q hq) hw.turn.size)
    refine ⟨_, _, rfl, ?_⟩
    refine (mOpen_any hh.dm (by omega) hh.md hh.s2Q ho (by omega)).mono ?_
    rintro e W'' ⟨rfl, S2', Q', g1, g2, g3, g4⟩
    have e1 : M.opV V = V := if_neg hn
    have e2 : M.opN no = no := if_neg hn
    rw [e1, e2] at g2
    have hwh := hh.whole g4 g1 g2 g3 hh.ok (octs_openM hh.oct) (by omega)
    exact ⟨rfl, fun e => absurd e hn, fun _ => ⟨_, _, _, _, _, _, _, hwh, ((h2.later hb).turn hw.turn h1.sT).turn g4.turn (fun q hq e => e.elim (hh.s2T q hq) (fun e => hh.TQ q e hq))⟩⟩
  · have hm : Moved S T S' T' W W' := ⟨hw.turn.mono (fun q hq => .inl hq), hw.grow, fun q hq => .inr (hT q hq).1⟩
    have hh := h1'.half (M' := M.openM) (T' := T') hw.at_ hm (fun q hq => (hT q hq).2) (fun q hq => hwal.low hq)
    refine ⟨_, _, by rw [← hz], ?_⟩
    refine (mOpen_any hh.dm (by omega) hh.md hh.s2Q ho (by omega)).mono ?_
    rintro e W'' ⟨rfl, S2', Q', g1, g2, g3, g4⟩
    have e1 : M.opV V = openV M := if_pos hz
    have e2 : M.opN no = false := if_pos hz
    rw [e1, e2] at g2
    have hwh := hh.whole g4 g1 g2 g3 (fun _ => openV_ok (openC_load hz)) (octs_openM hh.oct) (by omega)
    exact ⟨rfl, fun _ => ⟨_, _, _, _, _, _, _, hwh, .inr ⟨rfl, g, rfl, hwal.other g4.turn (fun q hq e => e.elim (hh.s2T q hq) (fun e => hh.TQ q e hq))⟩⟩, fun e => absurd hz e⟩
theorem both_format (h : DoesI w1 W0 d o mb k lg) (hb : Below W0.heap.size W0 W) (hk : k ≤ 1000) (n : Int) (hn : I64 n) :
    Calls Tryz.prog 31 #[.pointer (some ⟨d, 0, none⟩), .int .i64 n] W fun e W' => ∃ x n', e = .returned (.tuple #[n', .int .i64 x]) ∧ KeepX W0 W W' ∧
      Calls Tryz.prog 36 #[.pointer (some ⟨mb, 0, none⟩), .int .i64 n] W' fun e W'' => e = .returned (.int .i64 x) ∧ (x = 0 → DoesI w1 W'' d o mb (k + 1) n') ∧ (x ≠ 0 → DoesI w1 W'' d o mb (k + 1) lg) := by
  obtain ⟨S, S2, T, Q, M, V, no, h1, h2⟩ := h
  have hlow := h1.low
  have h1' := h1.later hb
  have hops := h1.ops
  have hfo := fmtM_ops (M := M) n
  -- where it is refused
  have fin : ∀ (W' : World) (S' : Nat → Prop), M.fmtC n ≠ 0 → Went S S' d W (M.fmtM n) W' → KeepX W0 W W' ∧
      Calls Tryz.prog 36 #[.pointer (some ⟨mb, 0, none⟩), .int .i64 n] W' fun e W'' => e = .returned (.int .i64 (M.fmtC n)) ∧ (M.fmtC n = 0 → DoesI w1 W'' d o mb (k + 1) (.pointer none)) ∧ (M.fmtC n ≠ 0 → DoesI w1 W'' d o mb (k + 1) lg) := fun W' S' hc hw => by
    have hm : Moved S T S' T W W' := ⟨hw.turn.mono (fun q hq => .inl hq), hw.grow, fun q hq => .inl hq⟩
    have hh := h1'.half (M' := M.fmtM n) (T' := T) hw.at_ hm (fun q hq e => (hw.grow q e).elim (h1.sT q hq) (fun e => by have := h1'.tl q hq; omega)) (fun q hq => Nat.lt_of_lt_of_le (h1'.tl q hq) hw.turn.size)
    refine ⟨keepX_of hw.turn (fun q hq => .inl (hlow q (.inl hq))), (mFormat_any hh.dm (by omega) hh.md hh.s2Q n hn).mono ?_⟩
    rintro e W'' ⟨rfl, S2', Q', g1, g2, g3, g4⟩
    have e1 : M.fmtV n V = V := if_neg hc
    have e2 : M.fmtN n no = no := if_neg hc
    rw [e1, e2] at g2
    have hwh := hh.whole g4 g1 g2 g3 hh.ok (octs_fmtM hh.oct n) (by omega)
    exact ⟨rfl, fun e => absurd e hc, fun _ => ⟨_, _, _, _, _, _, _, hwh, ((h2.later hb).turn hw.turn h1.sT).turn g4.turn (fun q hq e => e.elim (hh.s2T q hq) (fun e => hh.TQ q e hq))⟩⟩
  refine (format_any h1'.dd (by omega) n).mono ?_
  rintro e W' (⟨hbad, rfl, hw⟩ | ⟨hbad, hc, rfl, S', hw⟩ | ⟨hbad, hc, g, S', T', rfl, hw, hwal, hT⟩)
  · have e1 : M.fmtC n = 2 := if_pos hbad
    have e2 : M.fmtM n = M := if_pos hbad
    rw [← e2] at hw
    have key := fin W' S (by rw [e1]; decide) hw
    rw [e1] at key
    exact ⟨_, _, rfl, key⟩
  · have e1 : M.fmtC n = M.makeC (fileM n []) := if_neg hbad
    have e2 : M.fmtM n = M.makeM (fileM n []) := if_neg hbad
    rw [← e2] at hw
    have key := fin W' S' (by rw [e1]; exact hc) hw
    rw [e1] at key
    exact ⟨_, _, rfl, key⟩
  · have e1 : M.fmtC n = 0 := (if_neg hbad).trans hc
    have e2 : M.fmtM n = M.makeM (fileM n []) := if_neg hbad
    rw [← e2] at hw
    have hm : Moved S T S' T' W W' := ⟨hw.turn.mono (fun q hq => .inl hq), hw.grow, fun q hq => .inr (hT q hq).1⟩
    have hh := h1'.half (M' := M.fmtM n) (T' := T') hw.at_ hm (fun q hq => (hT q hq).2) (fun q hq => hwal.low hq)
    have hlim : Lim n := by
      by_cases e : Lim n
      · exact e
      · exact absurd (.inl e) hbad
    refine ⟨_, _, rfl, keepX_of hw.turn (fun q hq => .inl (hlow q (.inl hq))), (mFormat_any hh.dm (by omega) hh.md hh.s2Q n hn).mono ?_⟩
    rintro e W'' ⟨rfl, S2', Q', g1, g2, g3, g4⟩
    have e3 : M.fmtV n V = newW n := if_pos e1
    have e4 : M.fmtN n no = false := if_pos e1
    rw [e3, e4] at g2
    have hwh := hh.whole g4 g1 g2 g3 (fun _ => newW_ok hlim) (octs_fmtM hh.oct n) (by omega)
    exact ⟨by rw [e1], fun _ => ⟨_, _, _, _, _, _, _, hwh, .inr ⟨rfl, g, rfl, hwal.other g4.turn (fun q hq e => e.elim (hh.s2T q hq) (fun e => hh.TQ q e hq))⟩⟩, fun e => absurd rfl e⟩
end

end Go.Proofs.YtienabfilnpieaaGreat
