/-
  The laws' wakes; vec.Same told once more.
-/
import Derived.Test.YtgakfffkadaeeaaMnsTrain
namespace Go.Proofs.Ytgakfffkadaeeaa
open Go.RowKit Go.Shelf
set_option linter.unusedVariables false
set_option linter.unusedSimpArgs false
set_option maxRecDepth 100000

/-- Blocks laid one behind the other. -/
def lay (w : World) (os : List Obj) : World := os.foldl World.alloc w
theorem lay_heap (os : List Obj) : ∀ w : World, (lay w os).heap.toList = w.heap.toList ++ os := by
  induction os with
  | nil => intro w; simp [lay]
  | cons o os ih =>
    intro w
    show (lay (w.alloc o) os).heap.toList = _
    rw [ih]
    have : (w.alloc o).heap.toList = w.heap.toList ++ [o] := by show (w.heap.push o).toList = _; simp
    rw [this, List.append_assoc]; rfl
theorem lay_at (w : World) (os : List Obj) (i : Nat) (hi : i < os.length) : (lay w os).heap[w.heap.size + i]? = os[i]? := by
  rw [← Array.getElem?_toList, lay_heap, List.getElem?_append_right (by simp)]
  congr 1
  simp
theorem lay_below (os : List Obj) : ∀ w : World, Below w.heap.size w (lay w os) := by
  induction os with
  | nil => intro w; exact Below.refl _ _
  | cons o os ih =>
    intro w
    have h1 : Below w.heap.size w (w.alloc o) := (Below.refl _ w).alloc (Nat.le_refl _) _
    exact below_tr h1 (ih (w.alloc o))
/-- A vector of one component, in a block of its own. -/
theorem vec_one {W : World} {g : Nat} {x : Int} (h : W.heap[g]? = some (.cells #[.int .i32 x] 21 (0, 0))) (hx : -1073741823 ≤ x ∧ x ≤ 1073741823) : Vec .i32 W (some ⟨g, 0, none⟩) 1 [x] :=
  ⟨Nat.le_refl _, by omega, fun _ => ⟨g, 0, rfl, lt_of_block h, fun j hj => by
    match j with
    | 0 => simp [World.cell?, h]
    | j + 1 => exact absurd hj (by simp)⟩, fun y hy => by
      obtain rfl : y = x := by simpa using hy
      exact wf32 hx⟩

theorem tr1 : startE [[1], [2], [9], [11]] [0, 1] = 0 := by decide +kernel
theorem tr2 : trainV [[1], [2], [9], [11]] [0, 1] = [[1], [10]] := by decide +kernel
theorem as1 : assignE [[1], [5]] [3] = 0 := by decide +kernel
theorem as2 : assignN [[1], [5]] [3] = 0 := by decide +kernel
theorem st1 : startE [] [0] = 4 := by decide +kernel
theorem st2 : startV [] [0] = [] := by decide +kernel

def osT (s : Nat) : List Obj := [.cells #[.int .i32 1] 21, .cells #[.int .i32 2] 21, .cells #[.int .i32 9] 21, .cells #[.int .i32 11] 21, .cells #[.slice (some ⟨s, 0, none⟩) 1 1, .slice (some ⟨s + 1, 0, none⟩) 1 1, .slice (some ⟨s + 2, 0, none⟩) 1 1, .slice (some ⟨s + 3, 0, none⟩) 1 1] 35, .cells #[.int .i64 0, .int .i64 1] 3]
theorem wake_train (w : World) : Calls Try.prog 16 #[.slice (some ⟨w.heap.size + 4, 0, none⟩) 4 4, .slice (some ⟨w.heap.size + 5, 0, none⟩) 2 2] (lay w (osT w.heap.size)) fun e w' => ∃ A c, e = .returned (.tuple #[.slice A 2 c, .int .i64 0]) ∧ Vecs .i32 w' A c [[1], [10]] ∧ Below w.heap.size w w' := by
  obtain ⟨W, hW⟩ : ∃ W, W = lay w (osT w.heap.size) := ⟨_, rfl⟩
  have hat := fun i hi => lay_at w (osT w.heap.size) i hi
  have hb := lay_below (osT w.heap.size) w
  rw [← hW] at hat hb ⊢
  have v0 := vec_one (hat 0 (by first | (unfold osT; simp; done) | (unfold osA; simp; done))) (by omega)
  have v1 := vec_one (hat 1 (by first | (unfold osT; simp; done) | (unfold osA; simp; done))) (by omega)
  have v2 := vec_one (hat 2 (by first | (unfold osT; simp; done) | (unfold osA; simp; done))) (by omega)
  have v3 := vec_one (hat 3 (by first | (unfold osT; simp; done) | (unfold osA; simp; done))) (by omega)
  have r : W.heap[w.heap.size + 4]? = some (.cells #[.slice (some ⟨w.heap.size, 0, none⟩) 1 1, .slice (some ⟨w.heap.size + 1, 0, none⟩) 1 1, .slice (some ⟨w.heap.size + 2, 0, none⟩) 1 1, .slice (some ⟨w.heap.size + 3, 0, none⟩) 1 1] 35 (0, 0)) := hat 4 (by first | (unfold osT; simp; done) | (unfold osA; simp; done))
  have n : W.heap[w.heap.size + 5]? = some (.cells #[.int .i64 0, .int .i64 1] 3 (0, 0)) := hat 5 (by first | (unfold osT; simp; done) | (unfold osA; simp; done))
  have hv : Vecs .i32 W (some ⟨w.heap.size + 4, 0, none⟩) 4 [[1], [2], [9], [11]] := by
    refine ⟨by simp, by omega, fun _ => ⟨_, 0, rfl, lt_of_block r, fun i x hx => ?_⟩⟩
    match i, hx with
    | 0, hx => simp at hx; subst hx; exact ⟨_, _, by simp [World.cell?, r], v0⟩
    | 1, hx => simp at hx; subst hx; exact ⟨_, _, by simp [World.cell?, r], v1⟩
    | 2, hx => simp at hx; subst hx; exact ⟨_, _, by simp [World.cell?, r], v2⟩
    | 3, hx => simp at hx; subst hx; exact ⟨_, _, by simp [World.cell?, r], v3⟩
    | i + 4, hx => simp at hx
  have hd : Vec .i64 W (some ⟨w.heap.size + 5, 0, none⟩) 2 [0, 1] := by
    refine ⟨by simp, by omega, fun _ => ⟨_, 0, rfl, lt_of_block n, fun j hj => ?_⟩, by decide⟩
    match j with
    | 0 => simp [World.cell?, n]
    | 1 => simp [World.cell?, n]
    | j + 2 => exact absurd hj (by simp)
  refine (train_any _ _ 4 2 [[1], [2], [9], [11]] [0, 1] W hv hd).mono ?_
  rintro e w' ⟨A, c, q, rfl, hq, ho, hb1⟩
  rw [tr2] at hq
  have hl : q.length = 2 := by rw [← vals_length, hq]; rfl
  refine ⟨A, c, by rw [tr1, hl], by rw [← hq]; exact ho.vecs, below_tr hb hb1⟩

def osA (s : Nat) : List Obj := [.cells #[.int .i32 1] 21, .cells #[.int .i32 5] 21, .cells #[.slice (some ⟨s, 0, none⟩) 1 1, .slice (some ⟨s + 1, 0, none⟩) 1 1] 35, .cells #[.int .i32 3] 21]
theorem wake_assign (w : World) : Calls Try.prog 28 #[.slice (some ⟨w.heap.size + 2, 0, none⟩) 2 2, .slice (some ⟨w.heap.size + 3, 0, none⟩) 1 1] (lay w (osA w.heap.size)) fun e w' => e = .returned (.tuple #[.int .i64 0, .int .i64 0]) ∧ Below w.heap.size w w' := by
  obtain ⟨W, hW⟩ : ∃ W, W = lay w (osA w.heap.size) := ⟨_, rfl⟩
  have hat := fun i hi => lay_at w (osA w.heap.size) i hi
  have hb := lay_below (osA w.heap.size) w
  rw [← hW] at hat hb ⊢
  have v0 := vec_one (hat 0 (by first | (unfold osT; simp; done) | (unfold osA; simp; done))) (by omega)
  have v1 := vec_one (hat 1 (by first | (unfold osT; simp; done) | (unfold osA; simp; done))) (by omega)
  have v3 := vec_one (hat 3 (by first | (unfold osT; simp; done) | (unfold osA; simp; done))) (by omega)
  have r : W.heap[w.heap.size + 2]? = some (.cells #[.slice (some ⟨w.heap.size, 0, none⟩) 1 1, .slice (some ⟨w.heap.size + 1, 0, none⟩) 1 1] 35 (0, 0)) := hat 2 (by first | (unfold osT; simp; done) | (unfold osA; simp; done))
  have hv : Vecs .i32 W (some ⟨w.heap.size + 2, 0, none⟩) 2 [[1], [5]] := by
    refine ⟨by simp, by omega, fun _ => ⟨_, 0, rfl, lt_of_block r, fun i x hx => ?_⟩⟩
    match i, hx with
    | 0, hx => simp at hx; subst hx; exact ⟨_, _, by simp [World.cell?, r], v0⟩
    | 1, hx => simp at hx; subst hx; exact ⟨_, _, by simp [World.cell?, r], v1⟩
    | i + 2, hx => simp at hx
  refine (assign_any _ _ 2 1 [[1], [5]] [3] W hv v3).mono ?_
  rintro e w' ⟨rfl, hb1⟩
  rw [as1, as2]
  exact ⟨rfl, below_tr hb hb1⟩

theorem wake_start (w : World) : Calls Try.prog 15 #[.slice none 0 0, .slice (some ⟨w.heap.size, 0, none⟩) 1 1] (w.alloc (.cells #[.int .i64 0] 3)) fun e w' => ∃ A c, e = .returned (.tuple #[.slice A 0 c, .int .i64 4]) ∧ Below w.heap.size w w' := by
  have hb : Below w.heap.size w (w.alloc (.cells #[.int .i64 0] 3)) := (Below.refl _ w).alloc (Nat.le_refl _) _
  have hd : Vec .i64 (w.alloc (.cells #[.int .i64 0] 3)) (some ⟨w.heap.size, 0, none⟩) 1 [0] := by
    refine ⟨by simp, by omega, fun _ => ⟨_, 0, rfl, by simp, fun j hj => ?_⟩, by decide⟩
    match j with
    | 0 => exact cell_laid _ _ _ 0
    | j + 1 => exact absurd hj (by simp)
  refine (start_any none _ 0 1 [] [0] _ (Vecs.nil _ _) hd).mono ?_
  rintro e w' ⟨A, c, q, rfl, hq, ho, hb1⟩
  rw [st2] at hq
  have hl : q.length = 0 := by rw [← vals_length, hq]; rfl
  exact ⟨A, c, by rw [st1, hl], below_tr hb hb1⟩

set_option maxHeartbeats 2000000 in
theorem wakes_any (w : World) : Calls Try.prog 12 #[] w fun e w' => e = .returned (.bool true) ∧ Below w.heap.size w w' := by
  have HT := Lib.hid (wake_train w)
  have HA := Lib.hid (fun V => wake_assign V)
  have HS := Lib.hid (fun V => wake_start V)
  unfold lay osT at HT
  unfold lay osA at HA
  simp only [List.foldl_cons, List.foldl_nil] at HT HA
  go_enter Try.func12, Try.ntmps12
  go_wp2_with fail
  refine HT.out.mono ?_
  rintro e w1 ⟨A1, c1, rfl, hv, hb1⟩
  have HV := Lib.hid hv
  have HB1 := Lib.hid hb1
  clear hv hb1
  go_wp2_with fail
  refine (HA.out w1).mono ?_
  rintro e w2 ⟨rfl, hb2⟩
  have HB2 := Lib.hid hb2
  clear hb2
  go_wp2_with fail
  refine (HS.out w2).mono ?_
  rintro e w3 ⟨A3, c3, rfl, hb3⟩
  all_goals (
    have hv3 := (HV.out.below HB2.out).below hb3
    have HB3 := Lib.hid (below_tr HB1.out (below_tr HB2.out hb3))
    obtain ⟨b, o, x, B, cb, rfl, hx, _, k0, hb0⟩ := hv3.at_ (i := 0) (by decide)
    obtain ⟨b', o', x', B', cb', hA, hx', _, k1, hb1⟩ := hv3.at_ (i := 1) (by decide)
    injection hA with hA
    injection hA with hA1 hA2
    subst hA1 hA2
    simp at hx hx'
    subst hx hx'
    obtain ⟨g0, p0, rfl, _, l0⟩ := hb0.at_ (j := 0) (by decide)
    obtain ⟨g1, p1, rfl, _, l1⟩ := hb1.at_ (j := 0) (by decide)
    simp at k0 k1 l0 l1
    clear hb3 hv3 hb0 hb1 HT HA HS HV HB1 HB2
    go_wp2
    go_ret
    exact ⟨by simp, HB3.out⟩)
end Go.Proofs.Ytgakfffkadaeeaa
