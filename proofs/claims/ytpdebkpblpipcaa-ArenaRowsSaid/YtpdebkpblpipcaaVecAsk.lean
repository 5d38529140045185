/-
  Check, Of, Dist, Compare, Nearest.
-/
import Derived.Test.YtpdebkpblpipcaaVecDist
import Derived.Deep.RegionHeld3
namespace Go.Proofs.Ytpdebkpblpipcaa
open Go.RowKit Go.Shelf
set_option linter.unusedVariables false
set_option maxRecDepth 100000

/-- A row of one, and of two, that has just been laid. -/
theorem vecs_one {w W : World} {g cb : Nat} {B : Option Addr} {x : List Int} (hc : W.cell? ⟨g, 0, none⟩ = some (.slice B x.length cb)) (hx : Vec .i32 W B cb x) : Vecs .i32 W (some ⟨g, 0, none⟩) 1 [x] :=
  ⟨by simp, by omega, fun _ => ⟨g, 0, rfl, World.block_lt_of_cell? W _ hc, fun i y hy => by
    cases i with
    | zero => simp at hy; subst hy; exact ⟨B, cb, hc, hx⟩
    | succ i => simp at hy⟩⟩
theorem vecs_two {W : World} {g cb cb' : Nat} {B B' : Option Addr} {x x' : List Int} (hc : W.cell? ⟨g, 0, none⟩ = some (.slice B x.length cb)) (hc' : W.cell? ⟨g, 1, none⟩ = some (.slice B' x'.length cb')) (hx : Vec .i32 W B cb x) (hx' : Vec .i32 W B' cb' x') : Vecs .i32 W (some ⟨g, 0, none⟩) 2 [x, x'] :=
  ⟨by simp, by omega, fun _ => ⟨g, 0, rfl, World.block_lt_of_cell? W _ hc, fun i y hy => by
    match i, hy with
    | 0, hy => simp at hy; subst hy; exact ⟨B, cb, hc, hx⟩
    | 1, hy => simp at hy; subst hy; exact ⟨B', cb', by simpa using hc', hx'⟩
    | i + 2, hy => simp at hy⟩⟩

theorem cell_laid (w : World) (cs : Array Value) (t : TypeId) (i : Nat) : (w.alloc (.cells cs t)).cell? ⟨w.heap.size, i, none⟩ = cs[i]? := cell_of_row _ _ _ cs t (0, 0) (heap_alloc_new w _)

def checkM (xs : List Int) : Int := refuseM xs.length [xs]
theorem check_any (A : Option Addr) (c : Nat) (xs : List Int) (w : World) (h : Vec .i32 w A c xs) :
    Calls Try.prog 49 #[.slice A xs.length c] w fun e w' => e = .returned (.int .i64 (checkM xs)) ∧ Below w.heap.size w w' := by
  obtain ⟨W, hW⟩ : ∃ W, W = w.alloc (.cells #[.slice A xs.length c] 41) := ⟨_, rfl⟩
  have hb : Below w.heap.size w W := by rw [hW]; exact (Below.refl _ w).alloc (Nat.le_refl _) _
  have HR := Lib.hid (refuse_any (some ⟨w.heap.size, 0, none⟩) 1 xs.length [xs] W (vecs_one (w := w) (by rw [hW]; exact cell_laid _ _ _ 0) (h.below hb)))
  have HB := Lib.hid hb
  unfold checkM
  generalize refuseM xs.length [xs] = R at *
  rw [hW] at HR HB
  generalize xs.length = n at *
  clear hb h hW
  go_enter Try.func49, Try.ntmps49
  go_wp2_with fail
  refine HR.out.mono ?_
  rintro e w1 ⟨rfl, hb1⟩
  have HB1 := Lib.hid (HB.out.trans (hb1.mono HB.out.size))
  clear hb1
  go_wp2
  go_ret
  exact ⟨rfl, HB1.out⟩

theorem refuse_ok {dim : Int} {l : List (List Int)} (h : refuseM dim l = 0) : ∀ x ∈ l, right x = true ∧ (x.length : Int) = dim := by
  unfold refuseM at h
  split at h
  · rename_i h1
    split at h
    · rename_i h2
      rw [List.all_eq_true] at h1 h2
      exact fun x hx => ⟨h1 x hx, by simpa using h2 x hx⟩
    · omega
  · omega
theorem refuse_set (dim : Int) (l : List (List Int)) : refuseM dim l = 0 ∨ refuseM dim l = 150 ∨ refuseM dim l = 151 := by
  unfold refuseM
  split
  · split <;> simp
  · simp

/-- What Dist answers: the error, and the distance beside OK. -/
def distE (a b : List Int) : Int := refuseM a.length [a, b]
def distD (a b : List Int) : Int := if distE a b = 0 then distM a b else 0

def cmpM (x y : Int) : Int := if x < y then -1 else if y < x then 1 else 0
theorem nan_any (x : Int) (w : World) : Calls Try.prog 67 #[.int .u64 x] w fun e w' => e = .returned (.bool false) ∧ w = w' := by
  go_enter Try.func67, Try.ntmps67
  go_wp2
  go_ret
  exact ⟨by simp, rfl⟩
theorem cmp_any (x y : Int) (w : World) : Calls Try.prog 57 #[.int .u64 x, .int .u64 y] w fun e w' => e = .returned (.int .i64 (cmpM x y)) ∧ w = w' := by
  by_cases h1 : x < y
  · have HF := Lib.hid (show cmpM x y = -1 by unfold cmpM; rw [if_pos h1])
    go_enter Try.func57, Try.ntmps57
    go_wp2_with (go_at_call 67; refine (nan_any _ _).mono ?_; rintro e w' ⟨rfl, rfl⟩)
    go_ret
    rw [HF.out]
    exact ⟨rfl, rfl⟩
  · by_cases h2 : y < x
    · have HF := Lib.hid (show cmpM x y = 1 by unfold cmpM; rw [if_neg h1, if_pos h2])
      go_enter Try.func57, Try.ntmps57
      go_wp2_with (go_at_call 67; refine (nan_any _ _).mono ?_; rintro e w' ⟨rfl, rfl⟩)
      go_ret
      rw [HF.out]
      exact ⟨rfl, rfl⟩
    · have HF := Lib.hid (show cmpM x y = 0 by unfold cmpM; rw [if_neg h1, if_neg h2])
      go_enter Try.func57, Try.ntmps57
      go_wp2_with (go_at_call 67; refine (nan_any _ _).mono ?_; rintro e w' ⟨rfl, rfl⟩)
      go_ret
      rw [HF.out]
      exact ⟨rfl, rfl⟩
def orM (x y : Int) : Int := if x ≠ 0 then x else y
theorem or_any (g : Nat) (x y : Int) (w : World) (hx : w.cell? ⟨g, 0, none⟩ = some (.int .i64 x)) (hy : w.cell? ⟨g, 1, none⟩ = some (.int .i64 y)) :
    Calls Try.prog 56 #[.slice (some ⟨g, 0, none⟩) 2 2] w fun e w' => e = .returned (.int .i64 (orM x y)) ∧ w = w' := by
  by_cases h : x = 0
  · subst h
    have HF := Lib.hid (show orM 0 y = y from by simp [orM])
    generalize orM 0 y = R at *
    by_cases h2 : y = 0
    · subst h2
      go_enter Try.func56, Try.ntmps56
      go_wp2
      go_loop [5, 8] (fun _ i => i = .int .i64 0 ∨ i = .int .i64 1 ∨ i = .int .i64 2) (fun _ i => 2 - (intOf i).toNat)
      case atStart => exact .inl rfl
      case round =>
        rcases hrel with rfl | rfl | rfl
        · go_wp2
          go_round
          case rel => exact .inr (.inl rfl)
          case measure => simp [intOf]
        · go_wp2
          go_round
          case rel => exact .inr (.inr rfl)
          case measure => simp [intOf]
        · go_wp2
          go_ret
          rw [HF.out]
          exact ⟨rfl, rfl⟩
    · have t1 : (y == 0) = false := by simpa using h2
      have t2 : (y != 0) = true := by simpa using h2
      go_enter Try.func56, Try.ntmps56
      go_wp2
      go_loop [5, 8] (fun _ i => i = .int .i64 0 ∨ i = .int .i64 1) (fun _ i => 2 - (intOf i).toNat)
      case atStart => exact .inl rfl
      case round =>
        rcases hrel with rfl | rfl
        · go_wp2
          go_round
          case rel => exact .inr rfl
          case measure => simp [intOf]
        · go_wp2
          go_ret
          rw [HF.out]
          exact ⟨rfl, rfl⟩
  · have t1 : (x == 0) = false := by simpa using h
    have t2 : (x != 0) = true := by simpa using h
    have HF := Lib.hid (show orM x y = x from by simp [orM, h])
    generalize orM x y = R at *
    go_enter Try.func56, Try.ntmps56
    go_wp2
    go_loop [5, 8] (fun _ i => i = .int .i64 0) (fun _ i => 2 - (intOf i).toNat)
    case atStart => rfl
    case round =>
      subst hrel
      go_wp2
      go_ret
      rw [HF.out]
      exact ⟨rfl, rfl⟩

end Go.Proofs.Ytpdebkpblpipcaa
