/-
  Compare of package vec, and what package cmp does for it.
-/
import Derived.Test.YthobkakmjgmpcaaRows
import Derived.Test.YthobkakmjgmpcaaTopBase
import Derived.Deep.RegionHeld3
import Derived.Shelf.Abstract
namespace Go.Proofs.Ythobkakmjgmpcaa
open Go.RowKit Go.Shelf
set_option linter.unusedVariables false
set_option linter.unusedSimpArgs false
set_option maxRecDepth 100000

theorem cell_laid (w : World) (cs : Array Value) (t : TypeId) (i : Nat) : (w.alloc (.cells cs t)).cell? ⟨w.heap.size, i, none⟩ = cs[i]? := cell_of_row _ _ _ cs t (0, 0) (heap_alloc_new w _)

/-! ### the order of hits -/
def cmpM (x y : Int) : Int := if x < y then -1 else if y < x then 1 else 0
theorem nan_any (x : Int) (w : World) : Calls Try.prog 39 #[.int .u64 x] w fun e w' => e = .returned (.bool false) ∧ w = w' := by
  go_enter Try.func39, Try.ntmps39
  go_wp2
  go_ret
  exact ⟨by simp, rfl⟩
theorem cmp_any (x y : Int) (w : World) : Calls Try.prog 32 #[.int .u64 x, .int .u64 y] w fun e w' => e = .returned (.int .i64 (cmpM x y)) ∧ w = w' := by
  by_cases h1 : x < y
  · have HF := Lib.hid (show cmpM x y = -1 by unfold cmpM; rw [if_pos h1])
    go_enter Try.func32, Try.ntmps32
    go_wp2_with (go_at_call 39; refine (nan_any _ _).mono ?_; rintro e w' ⟨rfl, rfl⟩)
    go_ret
    rw [HF.out]
    exact ⟨rfl, rfl⟩
  · by_cases h2 : y < x
    · have HF := Lib.hid (show cmpM x y = 1 by unfold cmpM; rw [if_neg h1, if_pos h2])
      go_enter Try.func32, Try.ntmps32
      go_wp2_with (go_at_call 39; refine (nan_any _ _).mono ?_; rintro e w' ⟨rfl, rfl⟩)
      go_ret
      rw [HF.out]
      exact ⟨rfl, rfl⟩
    · have HF := Lib.hid (show cmpM x y = 0 by unfold cmpM; rw [if_neg h1, if_neg h2])
      go_enter Try.func32, Try.ntmps32
      go_wp2_with (go_at_call 39; refine (nan_any _ _).mono ?_; rintro e w' ⟨rfl, rfl⟩)
      go_ret
      rw [HF.out]
      exact ⟨rfl, rfl⟩
def orM (x y : Int) : Int := if x ≠ 0 then x else y
theorem or_any (g : Nat) (x y : Int) (w : World) (hx : w.cell? ⟨g, 0, none⟩ = some (.int .i64 x)) (hy : w.cell? ⟨g, 1, none⟩ = some (.int .i64 y)) :
    Calls Try.prog 31 #[.slice (some ⟨g, 0, none⟩) 2 2] w fun e w' => e = .returned (.int .i64 (orM x y)) ∧ w = w' := by
  by_cases h : x = 0
  · subst h
    have HF := Lib.hid (show orM 0 y = y from by simp [orM])
    generalize orM 0 y = R at *
    by_cases h2 : y = 0
    · subst h2
      go_enter Try.func31, Try.ntmps31
      go_wp2
      go_loop [5, 8] (fun _ i => i = .int .i64 0 ∨ i = .int .i64 1 ∨ i = .int .i64 2) (fun _ i => 2 - (intOf i).toNat)
      case atStart => exact .inl rfl
      case round =>
        rcases hrel with rfl | rfl | rfl
        · go_wp2
          go_round
          case rel => exact .inr (.inl rfl)
          case measure => simp [intOf]
        · go_wp2
          go_round
          case rel => exact .inr (.inr rfl)
          case measure => simp [intOf]
        · go_wp2
          go_ret
          rw [HF.out]
          exact ⟨rfl, rfl⟩
    · have t1 : (y == 0) = false := by simpa using h2
      have t2 : (y != 0) = true := by simpa using h2
      go_enter Try.func31, Try.ntmps31
      go_wp2
      go_loop [5, 8] (fun _ i => i = .int .i64 0 ∨ i = .int .i64 1) (fun _ i => 2 - (intOf i).toNat)
      case atStart => exact .inl rfl
      case round =>
        rcases hrel with rfl | rfl
        · go_wp2
          go_round
          case rel => exact .inr rfl
          case measure => simp [intOf]
        · go_wp2
          go_ret
          rw [HF.out]
          exact ⟨rfl, rfl⟩
  · have t1 : (x == 0) = false := by simpa using h
    have t2 : (x != 0) = true := by simpa using h
    have HF := Lib.hid (show orM x y = x from by simp [orM, h])
    generalize orM x y = R at *
    go_enter Try.func31, Try.ntmps31
    go_wp2
    go_loop [5, 8] (fun _ i => i = .int .i64 0) (fun _ i => 2 - (intOf i).toNat)
    case atStart => rfl
    case round =>
      subst hrel
      go_wp2
      go_ret
      rw [HF.out]
      exact ⟨rfl, rfl⟩

def hitV (id dist : Int) : Value := .agg #[.int .u64 id, .int .u64 dist]
def compareM (i d i' d' : Int) : Int := orM (cmpM d d') (cmpM i i')
theorem cmp_st (x y : Int) (w : World) : Calls Try.prog 32 #[.int .u64 x, .int .u64 y] w fun e w' => e = .returned (.int .i64 (cmpM x y)) ∧ w' = w := (cmp_any x y w).mono fun _ _ ⟨a, b⟩ => ⟨a, b.symm⟩

set_option maxHeartbeats 1000000 in
theorem compare_any (i d i' d' : Int) (w : World) : Calls Try.prog 23 #[.agg #[.int .u64 i, .int .u64 d], .agg #[.int .u64 i', .int .u64 d']] w fun e w' => e = .returned (.int .i64 (compareM i d i' d')) ∧ Below w.heap.size w w' := by
  have HM := Lib.hid (show compareM i d i' d' = orM (cmpM d d') (cmpM i i') from rfl)
  generalize compareM i d i' d' = R at *
  go_enter Try.func23, Try.ntmps23
  go_wp2
  obtain ⟨W, hW⟩ : ∃ W, W = (w.alloc (.cells #[.int .u64 i, .int .u64 d] 32)).alloc (.cells #[.int .u64 i', .int .u64 d'] 32) := ⟨_, rfl⟩
  have hb : Below w.heap.size w W := by rw [hW]; exact ((Below.refl _ w).alloc (Nat.le_refl _) _).alloc (by simp) _
  have hz : W.heap.size = w.heap.size + 2 := by rw [hW]; simp
  have x1 : W.heap[w.heap.size]? = some (.cells #[.int .u64 i, .int .u64 d] 32 (0, 0)) := by rw [hW]; exact heap_alloc2_old _ _ _
  have x2 : W.heap[w.heap.size + 1]? = some (.cells #[.int .u64 i', .int .u64 d'] 32 (0, 0)) := by rw [hW]; exact heap_alloc2_new _ _ _
  rw [← hW]
  have c1 : W.cell? ⟨w.heap.size, 0, none⟩ = some (.int .u64 i) := by simp [World.cell?, x1]
  have c2 : W.cell? ⟨w.heap.size, 1, none⟩ = some (.int .u64 d) := by simp [World.cell?, x1]
  have c3 : W.cell? ⟨w.heap.size + 1, 0, none⟩ = some (.int .u64 i') := by simp [World.cell?, x2]
  have c4 : W.cell? ⟨w.heap.size + 1, 1, none⟩ = some (.int .u64 d') := by simp [World.cell?, x2]
  have HB := Lib.hid hb
  have HZ := Lib.hid hz
  clear hW hb x1 x2 hz
  refine wp_region_still_tail 10 (by kernel_rfl) (by kernel_rfl) ?_
  simp only [List.take_succ_cons, List.take_zero, List.drop_succ_cons, List.drop_zero]
  change wpStill _ _ W.drew _ _ _
  still_step
  still_step
  still_step
  still_step
  still_call (cmp_st d d' _)
  still_step
  still_step
  still_step
  still_step
  still_call (cmp_st i i' _)
  refine wpStill_nil ?_
  obtain ⟨a, ha⟩ : ∃ a, a = cmpM d d' := ⟨_, rfl⟩
  obtain ⟨b, hb⟩ : ∃ b, b = cmpM i i' := ⟨_, rfl⟩
  have HA := Lib.hid ha
  have HB2 := Lib.hid hb
  rw [← ha, ← hb]
  clear ha hb
  have HBL := Lib.hid (show Below w.heap.size w (W.alloc (.cells #[.int .i64 a, .int .i64 b] 3)).drew from below_drew (HB.out.alloc HB.out.size _))
  have HO := Lib.hid (or_any W.drew.heap.size a b (W.drew.alloc (.cells #[.int .i64 a, .int .i64 b] 3)) (cell_laid _ _ _ 0) (cell_laid _ _ _ 1))
  go_wp2_with fail
  refine HO.out.mono ?_
  rintro e w' ⟨rfl, rfl⟩
  go_wp2
  go_ret
  rw [HM.out, ← HA.out, ← HB2.out]
  exact ⟨rfl, HBL.out⟩

theorem cmp3 (x y : Int) : (x < y ∧ cmpM x y = -1) ∨ (x = y ∧ cmpM x y = 0) ∨ (y < x ∧ cmpM x y = 1) := by
  unfold cmpM
  by_cases h : x < y
  · exact .inl ⟨h, if_pos h⟩
  · by_cases h2 : y < x
    · exact .inr (.inr ⟨h2, by rw [if_neg h, if_pos h2]⟩)
    · exact .inr (.inl ⟨by omega, by rw [if_neg h, if_neg h2]⟩)
/-- -1, 0, 1. -/
theorem compare3 (a b : HitM) : (ahead a b = true ∧ compareM a.1 a.2 b.1 b.2 = -1) ∨ (a = b ∧ compareM a.1 a.2 b.1 b.2 = 0) ∨ (ahead b a = true ∧ compareM a.1 a.2 b.1 b.2 = 1) := by
  unfold compareM orM
  rcases cmp3 a.2 b.2 with ⟨h, e⟩ | ⟨h, e⟩ | ⟨h, e⟩
  · exact .inl ⟨ahead_iff.2 (.inl h), by rw [e]; rfl⟩
  · rcases cmp3 a.1 b.1 with ⟨h1, e1⟩ | ⟨h1, e1⟩ | ⟨h1, e1⟩
    · exact .inl ⟨ahead_iff.2 (.inr ⟨h, h1⟩), by rw [e, e1]; rfl⟩
    · exact .inr (.inl ⟨Prod.ext h1 h, by rw [e, e1]; rfl⟩)
    · exact .inr (.inr ⟨ahead_iff.2 (.inr ⟨h.symm, h1⟩), by rw [e, e1]; rfl⟩)
  · exact .inr (.inr ⟨ahead_iff.2 (.inl h), by rw [e]; rfl⟩)
theorem compare_gt (a b : HitM) : decide (compareM a.1 a.2 b.1 b.2 > 0) = ahead b a := by
  rcases compare3 a b with ⟨h, e⟩ | ⟨rfl, e⟩ | ⟨h, e⟩
  · rw [e, ahead_asymm h]; rfl
  · rw [e, ahead_irrefl]; rfl
  · rw [e, h]; rfl
theorem compare_lt (a b : HitM) : decide (compareM a.1 a.2 b.1 b.2 < 0) = ahead a b := by
  rcases compare3 a b with ⟨h, e⟩ | ⟨rfl, e⟩ | ⟨h, e⟩
  · rw [e, h]; rfl
  · rw [e, ahead_irrefl]; rfl
  · rw [e, ahead_asymm h]; rfl
/-- A hit as a value. -/
def hv (h : HitM) : Value := .agg #[.int .u64 h.1, .int .u64 h.2]

end Go.Proofs.Ythobkakmjgmpcaa
