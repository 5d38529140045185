/-
  Check, Of, Dist, Compare, Nearest.
-/
import Derived.Test.YtbnedhhkapbliaaVecDist
import Derived.Deep.RegionHeld3
namespace Go.Proofs.Ytbnedhhkapbliaa
open Go.RowKit Go.Shelf
set_option linter.unusedVariables false
set_option maxRecDepth 100000

/-- A row of one, and of two, that has just been laid. -/
theorem vecs_one {w W : World} {g cb : Nat} {B : Option Addr} {x : List Int} (hc : W.cell? ⟨g, 0, none⟩ = some (.slice B x.length cb)) (hx : Vec .i32 W B cb x) : Vecs .i32 W (some ⟨g, 0, none⟩) 1 [x] :=
  ⟨by simp, by omega, fun _ => ⟨g, 0, rfl, World.block_lt_of_cell? W _ hc, fun i y hy => by
    cases i with
    | zero => simp at hy; subst hy; exact ⟨B, cb, hc, hx⟩
    | succ i => simp at hy⟩⟩
theorem vecs_two {W : World} {g cb cb' : Nat} {B B' : Option Addr} {x x' : List Int} (hc : W.cell? ⟨g, 0, none⟩ = some (.slice B x.length cb)) (hc' : W.cell? ⟨g, 1, none⟩ = some (.slice B' x'.length cb')) (hx : Vec .i32 W B cb x) (hx' : Vec .i32 W B' cb' x') : Vecs .i32 W (some ⟨g, 0, none⟩) 2 [x, x'] :=
  ⟨by simp, by omega, fun _ => ⟨g, 0, rfl, World.block_lt_of_cell? W _ hc, fun i y hy => by
    match i, hy with
    | 0, hy => simp at hy; subst hy; exact ⟨B, cb, hc, hx⟩
    | 1, hy => simp at hy; subst hy; exact ⟨B', cb', by simpa using hc', hx'⟩
    | i + 2, hy => simp at hy⟩⟩

theorem cell_laid (w : World) (cs : Array Value) (t : TypeId) (i : Nat) : (w.alloc (.cells cs t)).cell? ⟨w.heap.size, i, none⟩ = cs[i]? := cell_of_row _ _ _ cs t (0, 0) (heap_alloc_new w _)

def checkM (xs : List Int) : Int := refuseM xs.length [xs]
theorem check_any (A : Option Addr) (c : Nat) (xs : List Int) (w : World) (h : Vec .i32 w A c xs) :
    Calls Try.prog 60 #[.slice A xs.length c] w fun e w' => e = .returned (.int .i64 (checkM xs)) ∧ Below w.heap.size w w' := by
  obtain ⟨W, hW⟩ : ∃ W, W = w.alloc (.cells #[.slice A xs.length c] 27) := ⟨_, rfl⟩
  have hb : Below w.heap.size w W := by rw [hW]; exact (Below.refl _ w).alloc (Nat.le_refl _) _
  have HR := Lib.hid (refuse_any (some ⟨w.heap.size, 0, none⟩) 1 xs.length [xs] W (vecs_one (w := w) (by rw [hW]; exact cell_laid _ _ _ 0) (h.below hb)))
  have HB := Lib.hid hb
  unfold checkM
  generalize refuseM xs.length [xs] = R at *
  rw [hW] at HR HB
  generalize xs.length = n at *
  clear hb h hW
  go_enter Try.func60, Try.ntmps60
  go_wp2_with fail
  refine HR.out.mono ?_
  rintro e w1 ⟨rfl, hb1⟩
  have HB1 := Lib.hid (HB.out.trans (hb1.mono HB.out.size))
  clear hb1
  go_wp2
  go_ret
  exact ⟨rfl, HB1.out⟩

theorem of_any (A : Option Addr) (c : Nat) (xs : List Int) (dim : Int) (w : World) (h : Vec .i32 w A c xs) :
    Calls Try.prog 49 #[.slice A xs.length c, .int .i64 dim] w fun e w' => e = .returned (.int .i64 (refuseM dim [xs])) ∧ Below w.heap.size w w' := by
  obtain ⟨W, hW⟩ : ∃ W, W = w.alloc (.cells #[.slice A xs.length c] 27) := ⟨_, rfl⟩
  have hb : Below w.heap.size w W := by rw [hW]; exact (Below.refl _ w).alloc (Nat.le_refl _) _
  have HR := Lib.hid (refuse_any (some ⟨w.heap.size, 0, none⟩) 1 dim [xs] W (vecs_one (w := w) (by rw [hW]; exact cell_laid _ _ _ 0) (h.below hb)))
  have HB := Lib.hid hb
  generalize refuseM dim [xs] = R at *
  rw [hW] at HR HB
  generalize xs.length = n at *
  clear hb h hW
  go_enter Try.func49, Try.ntmps49
  go_wp2_with fail
  refine HR.out.mono ?_
  rintro e w1 ⟨rfl, hb1⟩
  have HB1 := Lib.hid (HB.out.trans (hb1.mono HB.out.size))
  clear hb1
  go_wp2
  go_ret
  exact ⟨rfl, HB1.out⟩

theorem refuse_ok {dim : Int} {l : List (List Int)} (h : refuseM dim l = 0) : ∀ x ∈ l, right x = true ∧ (x.length : Int) = dim := by
  unfold refuseM at h
  split at h
  · rename_i h1
    split at h
    · rename_i h2
      rw [List.all_eq_true] at h1 h2
      exact fun x hx => ⟨h1 x hx, by simpa using h2 x hx⟩
    · omega
  · omega
theorem refuse_set (dim : Int) (l : List (List Int)) : refuseM dim l = 0 ∨ refuseM dim l = 150 ∨ refuseM dim l = 151 := by
  unfold refuseM
  split
  · split <;> simp
  · simp

/-- What Dist answers: the error, and the distance beside OK. -/
def distE (a b : List Int) : Int := refuseM a.length [a, b]
def distD (a b : List Int) : Int := if distE a b = 0 then distM a b else 0

def cmpM (x y : Int) : Int := if x < y then -1 else if y < x then 1 else 0
def orM (x y : Int) : Int := if x ≠ 0 then x else y

end Go.Proofs.Ytbnedhhkapbliaa
