/-
  owned: a cell with a vector of its own.
-/
import Derived.Test.YtpdebkpblpipcaaAreOwn
namespace Go.Proofs.Ytpdebkpblpipcaa
open Go.RowKit Go.Shelf
set_option linter.unusedVariables false
set_option linter.unusedSimpArgs false
set_option maxRecDepth 100000

theorem cel_box {w : World} {g : Nat} {u : Bool} {i b f : Int} {y : Value} {B : Option Addr} {n c : Nat} (h : w.heap[g]? = some (.cells #[.bool u, .int .u64 i, .int .u64 b, .int .u64 f, y] 45 (0, 0))) :
    (w.setCell ⟨g, 4, none⟩ (.slice B n c)).heap[g]? = some (.cells #[.bool u, .int .u64 i, .int .u64 b, .int .u64 f, .slice B n c] 45 (0, 0)) := by
  rw [heap_setCell_same _ _ 4 _ _ _ h]; rfl
theorem turn_set (W : World) (g j : Nat) (u : Value) : Turn (fun i => i = g) W (W.setCell ⟨g, j, none⟩ u) := ⟨rfl, rfl, rfl, by simp [World.setCell], fun k _ hk => Below.heap_setCell _ _ _ _ hk⟩
theorem turn_row (W : World) (g : Nat) (cs : Array Value) : Turn (fun i => i = g) W (W.setRow g cs) := ⟨rfl, rfl, rfl, by simp, fun k _ hk => setRow_other _ _ _ _ hk⟩

set_option maxHeartbeats 1000000 in
theorem owned_any (p : Pa) (w : World) (hv : Vec .i32 w p.B p.c p.e.x) (hbig : p.e.x.length ≤ 1000000) :
    Calls Try.prog 36 #[.agg #[.bool p.e.u, .int .u64 p.e.i, .int .u64 p.e.b, .int .u64 p.e.f, .slice p.B p.e.x.length p.c]] w fun y w' => ∃ A1 c1, y = .returned (.agg #[.bool p.e.u, .int .u64 p.e.i, .int .u64 p.e.b, .int .u64 p.e.f, .slice A1 p.e.x.length c1]) ∧ OwnV w.heap.size w' A1 c1 p.e.x ∧ Below w.heap.size w w' := by
  obtain ⟨⟨u, i, b, f, x⟩, B, c⟩ := p
  dsimp only at hv hbig ⊢
  obtain ⟨W, hW⟩ : ∃ W, W = (w.alloc (.cells #[.bool u, .int .u64 i, .int .u64 b, .int .u64 f, .slice B x.length c] 45)).alloc (.cells #[.bool false, .int .u64 0, .int .u64 0, .int .u64 0, .slice none 0 0] 45) := ⟨_, rfl⟩
  have hb : Below w.heap.size w W := by rw [hW]; exact ((Below.refl _ w).alloc (Nat.le_refl _) _).alloc (by simp) _
  have hz : W.heap.size = w.heap.size + 2 := by rw [hW]; simp
  have hx : W.heap[w.heap.size]? = some (.cells #[.bool u, .int .u64 i, .int .u64 b, .int .u64 f, .slice B x.length c] 45 (0, 0)) := by rw [hW]; exact (Below.heap_alloc _ _ _ (by simp)).trans (heap_alloc_new _ _)
  have hy : W.heap[w.heap.size + 1]? = some (.cells #[.bool false, .int .u64 0, .int .u64 0, .int .u64 0, .slice none 0 0] 45 (0, 0)) := by
    rw [hW]; have := heap_alloc_new (w.alloc (.cells #[.bool u, .int .u64 i, .int .u64 b, .int .u64 f, .slice B x.length c] 45)) (.cells #[.bool false, .int .u64 0, .int .u64 0, .int .u64 0, .slice none 0 0] 45); rwa [World.size_alloc] at this
  have HC := Lib.hid (clone_any B c x W (hv.below hb) hbig)
  have HB := Lib.hid hb
  have HX := Lib.hid hx
  have HY := Lib.hid hy
  have HZ := Lib.hid hz
  have HW := Lib.hid hW
  generalize hn : x.length = n at *
  have HN := Lib.hid hn
  clear hv hbig hb hz hx hy hW hn
  go_enter Try.func36, Try.ntmps36
  go_wp2_with fail
  rw [← HW.out]
  refine HC.out.mono ?_
  rintro y w1 ⟨A1, c1, rfl, hv1, hb1⟩
  have X1 := (hb1.block w.heap.size (by rw [HZ.out]; omega)).trans HX.out
  have Y1 := (hb1.block (w.heap.size + 1) (by rw [HZ.out]; omega)).trans HY.out
  obtain ⟨W2, hW2⟩ : ∃ W2, W2 = w1.setCell ⟨w.heap.size, 4, none⟩ (.slice A1 n c1) := ⟨_, rfl⟩
  have HBX := Lib.hid (cel_box (B := A1) (n := n) (c := c1) X1)
  have x4 := (cell_of_row _ _ 4 _ _ _ X1).trans rfl
  have f4 := frozen_of_row _ _ 4 _ _ X1
  have hX2 := HBX.out
  rw [← hW2] at hX2
  have hY2 := (Below.heap_setCell w1 ⟨w.heap.size, 4, none⟩ (.slice A1 n c1) (w.heap.size + 1) (by simp)).trans Y1
  rw [← hW2] at hY2
  have y0 := (cell_of_row _ _ 0 _ _ _ hX2).trans rfl
  have y1 := (cell_of_row _ _ 1 _ _ _ hX2).trans rfl
  have y2 := (cell_of_row _ _ 2 _ _ _ hX2).trans rfl
  have y3 := (cell_of_row _ _ 3 _ _ _ hX2).trans rfl
  have y4 := (cell_of_row _ _ 4 _ _ _ hX2).trans rfl
  have hb2 : Below w.heap.size w W2 := by rw [hW2]; exact ((HB.out.trans (hb1.mono HB.out.size)).setCell (Nat.le_refl _) _)
  have hv2 : OwnV (w.heap.size + 2) W2 A1 c1 x := by
    rw [hW2]
    have := hv1.mono (b := w.heap.size + 2) (by rw [HZ.out]; omega)
    exact this.turn (turn_set _ _ _ _) (fun j hj _ e => by omega)
  obtain ⟨W3, hW3⟩ : ∃ W3, W3 = W2.setRow (w.heap.size + 1) #[.bool u, .int .u64 i, .int .u64 b, .int .u64 f, .slice A1 n c1] := ⟨_, rfl⟩
  have hY3 := setRow_heap W2 (w.heap.size + 1) _ #[.bool u, .int .u64 i, .int .u64 b, .int .u64 f, .slice A1 n c1] _ _ hY2
  rw [← hW3] at hY3
  have r0 := (cell_of_row _ _ 0 _ _ _ hY3).trans rfl
  have r1 := (cell_of_row _ _ 1 _ _ _ hY3).trans rfl
  have r2 := (cell_of_row _ _ 2 _ _ _ hY3).trans rfl
  have r3 := (cell_of_row _ _ 3 _ _ _ hY3).trans rfl
  have r4 := (cell_of_row _ _ 4 _ _ _ hY3).trans rfl
  have HF := Lib.hid (show OwnV w.heap.size W3 A1 c1 x ∧ Below w.heap.size w W3 from by
    rw [hW3]
    exact ⟨(hv2.turn (turn_row _ _ _) (fun j hj _ e => by omega)).mono (by omega), hb2.trans ((turn_row _ _ _).below hb2.size (fun j hj => by omega))⟩)
  have HY2 := Lib.hid hY2
  have HW2 := Lib.hid hW2
  have HW3 := Lib.hid hW3
  clear hb1 hv1 X1 Y1 hX2 hY2 hb2 hv2 hY3 hW2 hW3
  go_wp2_with (first | (rw [← HW2.out]) | (refine wpList_store_row rfl 45 _ _ rfl (w.heap.size + 1) _ rfl rfl 45 _ HY2.out (by kernel_rfl) rfl (by simp [Value.oneCell']) ?_; rw [← HW3.out]))
  exact bodyPost_ret (v := .agg #[.bool u, .int .u64 i, .int .u64 b, .int .u64 f, .slice A1 n c1]) (by simp [results, Try.results36, go_sem, r0, r1, r2, r3, r4]) rfl ⟨A1, c1, rfl, HF.out.1, HF.out.2⟩

end Go.Proofs.Ytpdebkpblpipcaa
