/-
  New arenas; owned: a cell with a vector of its own.
-/
import Derived.Test.YtpdebkpblpipcaaAreSeq
import Derived.Laws.MakeOwn
import Derived.Laws.Tables
namespace Go.Proofs.Ytpdebkpblpipcaa
open Go.RowKit Go.Shelf
set_option linter.unusedVariables false
set_option linter.unusedSimpArgs false
set_option maxRecDepth 100000

def z96 : Array Value := madeCells #[.bool false, .int .u64 0, .int .u64 0, .int .u64 0, .slice none 0 0] 480
theorem z96_flat : z96.toList.take (96 * 5) = flatA (List.replicate 96 pz) := by kernel_rfl
@[go_sem] theorem make96 (w : World) : (Instr.makeSlice 22 (.int .i64 96) (.int .i64 96)).run Try.prog w = .ok (.slice (some ⟨w.heap.size, 0, none⟩) 96 96) (w.alloc (.cells z96 45)) :=
  run_make (P := Try.prog) w 22 45 ((Try.prog.info? 45).get (by kernel_rfl)) (.agg #[.bool false, .int .u64 0, .int .u64 0, .int .u64 0, .slice none 0 0]) Try.underlying22 (Option.some_get _).symm (by kernel_rfl) .i64 .i64 96 96 (by decide) (by decide) (of_decide_eq_true (by kernel_rfl)) (by decide)
theorem own96 (w : World) : OwnA w.heap.size (w.alloc (.cells z96 45)) (some ⟨w.heap.size, 0, none⟩) 96 (List.replicate 96 pz) := by
  refine ⟨⟨?_, .inr ⟨w.heap.size, 96, z96, ?_, Nat.le_refl _, heap_alloc_new w _, ?_, ?_, ?_, ?_⟩⟩, fun p hp => ?_, fun p hp => ?_⟩
  · rw [flatA_length]
  · rw [List.length_replicate]
  · rw [List.length_replicate]; exact Nat.le_refl _
  · decide
  · exact size_madeCells _ _
  · rw [List.length_replicate]; first | exact z96_flat | exact fun j hj => (congrArg (fun l : List Value => l[j]?) z96_flat) | skip
  · rw [List.eq_of_mem_replicate hp]; exact OwnV.nil _ _
  · rw [List.eq_of_mem_replicate hp]; exact fit_zc

/-- A call that answers an arena of the call's own. -/
def GivesA (w : World) (l : List Ce) (e : Ending) (w' : World) : Prop := ∃ g q, e = .returned (.agg #[.slice (some ⟨g, 0, none⟩) 96 96]) ∧ ces q = l ∧ q.length = 96 ∧ OwnA w.heap.size w' (some ⟨g, 0, none⟩) 96 q ∧ Below w.heap.size w w'
theorem ces_pz : ces (List.replicate 96 pz) = List.replicate 96 zc := by simp [ces, pz]

theorem newA_any (w : World) : Calls Try.prog 15 #[] w (GivesA w (List.replicate 96 zc)) := by
  obtain ⟨W0, hW0⟩ : ∃ W0, W0 = w.alloc (.cells #[.slice none 0 0] 24) := ⟨_, rfl⟩
  have hz : W0.heap.size = w.heap.size + 1 := by rw [hW0]; simp
  have hb0 : Below w.heap.size w W0 := by rw [hW0]; exact (Below.refl _ w).alloc (Nat.le_refl _) _
  have hx0 : W0.heap[w.heap.size]? = some (.cells #[.slice none 0 0] 24 (0, 0)) := by rw [hW0]; exact heap_alloc_new _ _
  obtain ⟨W1, hW1⟩ : ∃ W1, W1 = W0.alloc (.cells z96 45) := ⟨_, rfl⟩
  have hO : OwnA W0.heap.size W1 (some ⟨W0.heap.size, 0, none⟩) 96 (List.replicate 96 pz) := by rw [hW1]; exact own96 _
  have hb1 : Below w.heap.size w W1 := by rw [hW1]; exact hb0.alloc hb0.size _
  have hx1 : W1.heap[w.heap.size]? = some (.cells #[.slice none 0 0] 24 (0, 0)) := by rw [hW1]; exact (Below.heap_alloc _ _ _ (by omega)).trans hx0
  have c1 := (cell_of_row _ _ 0 _ _ _ hx1).trans rfl
  have f1 := frozen_of_row _ _ 0 _ _ hx1
  have HX := Lib.hid (show OwnA w.heap.size (W1.setCell ⟨w.heap.size, 0, none⟩ (.slice (some ⟨w.heap.size + 1, 0, none⟩) 96 96)) (some ⟨w.heap.size + 1, 0, none⟩) 96 (List.replicate 96 pz) ∧ Below w.heap.size w (W1.setCell ⟨w.heap.size, 0, none⟩ (.slice (some ⟨w.heap.size + 1, 0, none⟩) 96 96)) from
    ⟨by rw [hz] at hO; exact (hO.turn (S := fun i => i = w.heap.size) (w' := W1.setCell ⟨w.heap.size, 0, none⟩ (.slice (some ⟨w.heap.size + 1, 0, none⟩) 96 96)) ⟨rfl, rfl, rfl, by simp [World.setCell], fun k _ hk => Below.heap_setCell _ _ _ _ hk⟩ (fun i hi _ e => by omega)).mono (by omega), hb1.setCell (Nat.le_refl _) _⟩)
  have r0 : (W1.setCell ⟨w.heap.size, 0, none⟩ (.slice (some ⟨w.heap.size + 1, 0, none⟩) 96 96)).cell? ⟨w.heap.size, 0, none⟩ = some (.slice (some ⟨w.heap.size + 1, 0, none⟩) 96 96) := World.cell?_setCell_same _ _ _ c1
  have HW := Lib.hid (show W1 = (w.alloc (.cells #[.slice none 0 0] 24)).alloc (.cells z96 45) by rw [hW1, hW0])
  clear hz hb0 hx0 hO hb1 hx1 hW1 hW0
  go_enter Try.func15, Try.ntmps15
  go_wp2_with (rw [← HW.out])
  exact bodyPost_ret (v := .agg #[.slice (some ⟨w.heap.size + 1, 0, none⟩) 96 96]) (by simp [results, Try.results15, go_sem, r0]) rfl ⟨w.heap.size + 1, List.replicate 96 pz, rfl, ces_pz, by simp, HX.out.1, HX.out.2⟩

end Go.Proofs.Ytpdebkpblpipcaa
