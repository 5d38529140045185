/-
  The pile, and what a keeper's methods are called by.
-/
import Derived.Test.YthobkakmjgmpcaaTopCmp
import Derived.Deep.AppendLies
import Derived.Handy
import Derived.ChangeKeysEq
namespace Go.Proofs.Ythobkakmjgmpcaa
open Go.RowKit Go.Shelf
set_option linter.unusedVariables false
set_option linter.unusedSimpArgs false
set_option maxRecDepth 100000

theorem len_any (A : Option Addr) (n c : Nat) (w : World) : Calls Try.prog 34 #[.slice A n c] w fun e w' => e = .returned (.int .i64 n) ∧ w = w' := by
  go_enter Try.func34, Try.ntmps34
  go_wp2
  go_ret
  exact ⟨rfl, rfl⟩

set_option maxHeartbeats 1000000 in
theorem less_any (A : Option Addr) (c : Nat) (l : List HitM) (i j : Nat) (w : World) (h : Hits w A c l) (hi : i < l.length) (hj : j < l.length) :
    Calls Try.prog 62 #[.slice A l.length c, .int .i64 i, .int .i64 j] w fun e w' => e = .returned (.bool (ahead (l.getD j z2) (l.getD i z2))) ∧ Below w.heap.size w w' := by
  obtain ⟨b, o, rfl, hb, c1, c2⟩ := h.at_ hi
  obtain ⟨b', o', he, _, c3, c4⟩ := h.at_ hj
  injection he with he
  injection he with he1 he2
  subst he1
  subst he2
  have HG := Lib.hid (compare_gt (l.getD i z2) (l.getD j z2))
  have HC := Lib.hid (fun V => compare_any (l.getD i z2).1 (l.getD i z2).2 (l.getD j z2).1 (l.getD j z2).2 V)
  generalize ahead (l.getD j z2) (l.getD i z2) = R at *
  generalize (l.getD i z2).1 = x1 at *
  generalize (l.getD i z2).2 = x2 at *
  generalize (l.getD j z2).1 = y1 at *
  generalize (l.getD j z2).2 = y2 at *
  generalize compareM x1 x2 y1 y2 = cm at *
  generalize l.length = n at *
  have i0 : (0 : Int) ≤ i := by omega
  have iN : (i : Int) < n := by omega
  have j0 : (0 : Int) ≤ j := by omega
  have jN : (j : Int) < n := by omega
  clear h
  go_enter Try.func62, Try.ntmps62
  go_wp2
  refine wp_region_still_tail 8 (by kernel_rfl) (by kernel_rfl) ?_
  simp only [List.take_succ_cons, List.take_zero, List.drop_succ_cons, List.drop_zero]
  change wpStill _ _ w.drew _ _ _
  still_step
  still_step
  still_step
  still_step
  still_step
  still_step
  still_step
  still_step
  refine wpStill_nil ?_
  go_wp2_with fail
  refine (HC.out _).mono ?_
  rintro e w' ⟨rfl, hb'⟩
  have HB := Lib.hid hb'
  clear hb'
  go_wp2
  go_ret
  rw [← HG.out]
  exact ⟨rfl, (below_drew (Below.refl _ w)).trans HB.out⟩


/-- A whole hit stored in a slice of the call's own. -/
theorem row_set {w : World} {base g cap : Nat} {e : TypeId} {l : List HitM} (h : w.ownsRow base e 2 (.slice (some ⟨g, 0, none⟩) l.length cap) l.length (flat l)) (j : Nat) (x : HitM) :
    ((w.setCell ⟨g, j * 2, none⟩ (.int .u64 x.1)).setCell ⟨g, j * 2 + 1, none⟩ (.int .u64 x.2)).ownsRow base e 2 (.slice (some ⟨g, 0, none⟩) (l.set j x).length cap) (l.set j x).length (flat (l.set j x)) ∧
    w.grownBy ((w.setCell ⟨g, j * 2, none⟩ (.int .u64 x.1)).setCell ⟨g, j * 2 + 1, none⟩ (.int .u64 x.2)) (some g) := by
  obtain ⟨h1, h2⟩ := h.stored (j * 2) (.int .u64 x.1)
  obtain ⟨h3, h4⟩ := h1.stored (j * 2 + 1) (.int .u64 x.2)
  rw [flat_set] at h3
  rw [List.length_set]
  exact ⟨h3, h2.trans h4⟩

set_option maxHeartbeats 1000000 in
theorem swap_any (base g cap : Nat) (l : List HitM) (i j : Nat) (w : World) (h : w.ownsRow base 32 2 (.slice (some ⟨g, 0, none⟩) l.length cap) l.length (flat l)) (hi : i < l.length) (hj : j < l.length) :
    Calls Try.prog 63 #[.slice (some ⟨g, 0, none⟩) l.length cap, .int .i64 i, .int .i64 j] w fun e w' => (∃ v, e = .returned v) ∧ w'.ownsRow base 32 2 (.slice (some ⟨g, 0, none⟩) l.length cap) l.length (flat (swp l i j)) ∧ w.grownBy w' (some g) := by
  have ci := flat_get l i hi
  have cj := flat_get l j hj
  have c1 := (h.cellAt (i * 2) (by omega)).trans ci.1
  have c2 := (h.cellAt (i * 2 + 1) (by omega)).trans ci.2
  have c3 := (h.cellAt (j * 2) (by omega)).trans cj.1
  have c4 := (h.cellAt (j * 2 + 1) (by omega)).trans cj.2
  have f1 := h.frozenAt (i * 2)
  have f2 := h.frozenAt (i * 2 + 1)
  have h1 := row_set h i (l.getD j z2)
  have hl1 : j < (l.set i (l.getD j z2)).length := by simpa using hj
  have cj' := flat_get (l.set i (l.getD j z2)) j hl1
  have c5 := (h1.1.cellAt (j * 2) (by omega)).trans cj'.1
  have c6 := (h1.1.cellAt (j * 2 + 1) (by omega)).trans cj'.2
  have f3 := h1.1.frozenAt (j * 2)
  have f4 := h1.1.frozenAt (j * 2 + 1)
  have h2 := row_set h1.1 j (l.getD i z2)
  have hS : (l.set i (l.getD j z2)).set j (l.getD i z2) = swp l i j := rfl
  rw [hS, swp_length] at h2
  have HO := Lib.hid (And.intro h2.1 (h1.2.trans h2.2))
  obtain ⟨n, hn⟩ : ∃ n, n = l.length := ⟨_, rfl⟩
  have i0 : (0 : Int) ≤ i := by omega
  have iN : (i : Int) < l.length := by omega
  have j0 : (0 : Int) ≤ j := by omega
  have jN : (j : Int) < l.length := by omega
  clear h1 h2 hS ci cj cj' h hl1
  generalize l.getD i z2 = x at *
  generalize hy : l.getD j z2 = y at *
  generalize (l.set i y).getD j z2 = y' at *
  generalize swp l i j = S at *
  generalize l.length = N at *
  clear hy hn
  obtain ⟨x1, x2⟩ := x
  obtain ⟨y1, y2⟩ := y
  obtain ⟨y1', y2'⟩ := y'
  dsimp only at *
  go_enter Try.func63, Try.ntmps63
  go_wp2
  go_region
  all_goals go_wp2
  go_end0
  exact ⟨⟨_, rfl⟩, HO.out.1, HO.out.2.os, HO.out.2.tape, HO.out.2.output, HO.out.2.size, HO.out.2.block⟩


/-! ### which method a keeper is called by, through the interface -/
theorem m_at (K : Nat) (w : World) (v : Value) (s : Option String) (hK : w.cell? ⟨K, 0, none⟩ = some v) : (receiverAt 63 (.var ⟨K, 0, none⟩) false s).run Try.prog w = .ok v w := by
  have h63 : Try.prog.underlying 63 = some (.slice 32) := by kernel_rfl
  have ha : (isAgg 63).run Try.prog w = .ok false w := by kernel_rfl
  unfold receiverAt
  simp [run_underlying h63, Place.get, loadVar, ha, hK]
theorem i_Len : ∃ i, Try.prog.info? 75 = some i ∧ ∃ m, i.methods.find? (fun m => m.name == "Len") = some m ∧ m.func = some (34, false) ∧ ∀ (K : Nat) (w : World), (follow m.path.toList 75 (.val (.pointer (some ⟨K, 0, none⟩)))).run Try.prog w = .ok (63, .var ⟨K, 0, none⟩) w :=
  ⟨(Try.prog.info? 75).get (by kernel_rfl), (Option.some_get _).symm, (((Try.prog.info? 75).get (by kernel_rfl)).methods.find? (fun m => m.name == "Len")).get (by kernel_rfl), (Option.some_get _).symm, by kernel_rfl, fun K w => by kernel_rfl⟩
theorem m_Len (K : Nat) (v : Value) (w : World) (hK : w.cell? ⟨K, 0, none⟩ = some v) : (method 202 75 (.pointer (some ⟨K, 0, none⟩)) "Len").run Try.prog w = .ok (34, v) w := by
  obtain ⟨i, hi, m, hm, hf, hfo⟩ := i_Len
  have h1 := hfo K w
  unfold method
  simp [run_typeInfo w hi, hm, hf, h1, m_at K w v _ hK]
theorem i_Less : ∃ i, Try.prog.info? 75 = some i ∧ ∃ m, i.methods.find? (fun m => m.name == "Less") = some m ∧ m.func = some (62, false) ∧ ∀ (K : Nat) (w : World), (follow m.path.toList 75 (.val (.pointer (some ⟨K, 0, none⟩)))).run Try.prog w = .ok (63, .var ⟨K, 0, none⟩) w :=
  ⟨(Try.prog.info? 75).get (by kernel_rfl), (Option.some_get _).symm, (((Try.prog.info? 75).get (by kernel_rfl)).methods.find? (fun m => m.name == "Less")).get (by kernel_rfl), (Option.some_get _).symm, by kernel_rfl, fun K w => by kernel_rfl⟩
theorem m_Less (K : Nat) (v : Value) (w : World) (hK : w.cell? ⟨K, 0, none⟩ = some v) : (method 202 75 (.pointer (some ⟨K, 0, none⟩)) "Less").run Try.prog w = .ok (62, v) w := by
  obtain ⟨i, hi, m, hm, hf, hfo⟩ := i_Less
  have h1 := hfo K w
  unfold method
  simp [run_typeInfo w hi, hm, hf, h1, m_at K w v _ hK]
theorem i_Swap : ∃ i, Try.prog.info? 75 = some i ∧ ∃ m, i.methods.find? (fun m => m.name == "Swap") = some m ∧ m.func = some (63, false) ∧ ∀ (K : Nat) (w : World), (follow m.path.toList 75 (.val (.pointer (some ⟨K, 0, none⟩)))).run Try.prog w = .ok (63, .var ⟨K, 0, none⟩) w :=
  ⟨(Try.prog.info? 75).get (by kernel_rfl), (Option.some_get _).symm, (((Try.prog.info? 75).get (by kernel_rfl)).methods.find? (fun m => m.name == "Swap")).get (by kernel_rfl), (Option.some_get _).symm, by kernel_rfl, fun K w => by kernel_rfl⟩
theorem m_Swap (K : Nat) (v : Value) (w : World) (hK : w.cell? ⟨K, 0, none⟩ = some v) : (method 202 75 (.pointer (some ⟨K, 0, none⟩)) "Swap").run Try.prog w = .ok (63, v) w := by
  obtain ⟨i, hi, m, hm, hf, hfo⟩ := i_Swap
  have h1 := hfo K w
  unfold method
  simp [run_typeInfo w hi, hm, hf, h1, m_at K w v _ hK]
theorem m_Push (K : Nat) (w : World) : (method 202 75 (.pointer (some ⟨K, 0, none⟩)) "Push").run Try.prog w = .ok (65, .pointer (some ⟨K, 0, none⟩)) w := by kernel_rfl
theorem m_Pop (K : Nat) (w : World) : (method 202 75 (.pointer (some ⟨K, 0, none⟩)) "Pop").run Try.prog w = .ok (64, .pointer (some ⟨K, 0, none⟩)) w := by kernel_rfl
attribute [go_sem] m_Len m_Less m_Swap m_Push m_Pop
end Go.Proofs.Ythobkakmjgmpcaa
