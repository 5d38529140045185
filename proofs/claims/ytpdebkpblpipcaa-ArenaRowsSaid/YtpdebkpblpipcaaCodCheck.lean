/-
  Which rows and versions may be, and are the same: isTime, isEnd, CheckRow, CheckVersion, SameRow, SameVersion.
-/
import Derived.Test.YtpdebkpblpipcaaVecRef
namespace Go.Proofs.Ytpdebkpblpipcaa
open Go.RowKit Go.Shelf
set_option linter.unusedVariables false
set_option linter.unusedSimpArgs false
set_option maxRecDepth 100000

theorem checkM_eq (xs : List Int) : checkM xs = if right xs = true then 0 else 150 := by
  unfold checkM refuseM
  simp

def timeB (t : Int) : Bool := decide (1 ≤ t) && decide (t ≤ 1099511627776)
def endB (b e : Int) : Bool := decide (e = 0) || (decide (b < e) && timeB e)
def rowE (xs : List Int) : Int := if right xs = true then 0 else 170
def verR (b e : Int) (xs : List Int) : Bool := right xs && (timeB b && endB b e)
def verE (b e : Int) (xs : List Int) : Int := if verR b e xs = true then 0 else 171

theorem isTime_any (t : Int) (w : World) : Calls Try.prog 50 #[.int .u64 t] w fun e w' => e = .returned (.bool (timeB t)) ∧ w = w' := by
  by_cases h1 : 1 ≤ t
  · have HF := Lib.hid (show timeB t = decide (t ≤ 1099511627776) by unfold timeB; simp [h1])
    go_enter Try.func50, Try.ntmps50
    go_wp2
    go_ret
    rw [HF.out]
    exact ⟨rfl, rfl⟩
  · have HF := Lib.hid (show timeB t = false by unfold timeB; simp [h1])
    have t1 : decide (1 ≤ t) = false := by simp [h1]
    go_enter Try.func50, Try.ntmps50
    go_wp2
    go_ret
    rw [HF.out]
    exact ⟨rfl, rfl⟩

theorem isEnd_any (b e : Int) (A : Option Addr) (n c : Nat) (w : World) :
    Calls Try.prog 51 #[.agg #[.int .u64 b, .int .u64 e, .slice A n c]] w fun x w' => x = .returned (.bool (endB b e)) ∧ Below w.heap.size w w' := by
  have HB := Lib.hid (show Below w.heap.size w (w.alloc (.cells #[.int .u64 b, .int .u64 e, .slice A n c] 43)) from (Below.refl _ w).alloc (Nat.le_refl _) _)
  by_cases h0 : e = 0
  · subst h0
    have HF := Lib.hid (show endB b 0 = true by unfold endB; simp)
    go_enter Try.func51, Try.ntmps51
    go_wp2
    go_ret
    rw [HF.out]
    exact ⟨rfl, HB.out⟩
  · have t1 : (e == 0) = false := by simpa using h0
    by_cases h1 : b < e
    · have HF := Lib.hid (show endB b e = timeB e by unfold endB; simp [h0, h1])
      go_enter Try.func51, Try.ntmps51
      go_wp2_with (go_at_call 50; refine (isTime_any _ _).mono ?_; rintro e w' ⟨rfl, rfl⟩)
      go_ret
      rw [HF.out]
      exact ⟨rfl, HB.out⟩
    · have HF := Lib.hid (show endB b e = false by unfold endB; simp [h0, h1])
      have t2 : decide (b < e) = false := by simpa using h1
      go_enter Try.func51, Try.ntmps51
      go_wp2
      go_ret
      rw [HF.out]
      exact ⟨rfl, HB.out⟩

set_option maxHeartbeats 1000000 in
theorem checkVersion_any (b e : Int) (A : Option Addr) (c : Nat) (xs : List Int) (w : World) (h : Vec .i32 w A c xs) :
    Calls Try.prog 29 #[.agg #[.int .u64 b, .int .u64 e, .slice A xs.length c]] w fun x w' => x = .returned (.int .i64 (verE b e xs)) ∧ Below w.heap.size w w' := by
  have hB : Below w.heap.size w (w.alloc (.cells #[.int .u64 b, .int .u64 e, .slice A xs.length c] 43)) := (Below.refl _ w).alloc (Nat.le_refl _) _
  have HC := Lib.hid (check_any A c xs _ (h.below hB))
  have HB := Lib.hid hB
  have HW := Lib.hid (fun i => cell_laid w #[.int .u64 b, .int .u64 e, .slice A xs.length c] 43 i)
  rw [checkM_eq] at HC
  have HR := Lib.hid (show verE b e xs = if (right xs && (timeB b && endB b e)) = true then 0 else 171 from rfl)
  generalize verE b e xs = R at *
  clear h hB
  generalize xs.length = n at *
  cases hr : right xs
  · rw [hr] at HC HR
    have HR2 := Lib.hid (show R = 171 by rw [HR.out]; rfl)
    simp only [Bool.false_eq_true, if_false] at HC
    clear hr HR
    go_enter Try.func29, Try.ntmps29
    go_wp2_with fail
    refine HC.out.mono ?_
    rintro x w1 ⟨rfl, hb1⟩
    have HB1 := Lib.hid (HB.out.trans (hb1.mono HB.out.size))
    clear hb1
    go_wp2
    go_ret
    rw [HR2.out]
    exact ⟨rfl, HB1.out⟩
  · rw [hr] at HC HR
    simp only [if_true] at HC
    simp only [Bool.true_and] at HR
    clear hr
    cases ht : timeB b
    · rw [ht] at HR
      have HT := Lib.hid ht
      have HR2 := Lib.hid (show R = 171 by rw [HR.out]; rfl)
      clear ht HR
      go_enter Try.func29, Try.ntmps29
      go_wp2_with fail
      refine HC.out.mono ?_
      rintro x w1 ⟨rfl, hb1⟩
      have HB1 := Lib.hid (HB.out.trans (hb1.mono HB.out.size))
      have q0 := (hb1.cell (p := ⟨w.heap.size, 0, none⟩) (by simp)).trans (HW.out 0)
      clear hb1
      simp at q0
      go_wp2_with fail
      refine (isTime_any _ _).mono ?_
      rw [HT.out]
      rintro x w2 ⟨rfl, rfl⟩
      go_wp2
      go_ret
      rw [HR2.out]
      exact ⟨rfl, HB1.out⟩
    · rw [ht] at HR
      have HT := Lib.hid ht
      simp only [Bool.true_and] at HR
      clear ht
      cases hen : endB b e
      · rw [hen] at HR
        have HEn := Lib.hid hen
        have HR2 := Lib.hid (show R = 171 by rw [HR.out]; rfl)
        clear hen HR
        go_enter Try.func29, Try.ntmps29
        go_wp2_with fail
        refine HC.out.mono ?_
        rintro x w1 ⟨rfl, hb1⟩
        have HB1 := Lib.hid (HB.out.trans (hb1.mono HB.out.size))
        have q0 := (hb1.cell (p := ⟨w.heap.size, 0, none⟩) (by simp)).trans (HW.out 0)
        have q1 := (hb1.cell (p := ⟨w.heap.size, 1, none⟩) (by simp)).trans (HW.out 1)
        have q2 := (hb1.cell (p := ⟨w.heap.size, 2, none⟩) (by simp)).trans (HW.out 2)
        clear hb1
        simp at q0 q1 q2
        go_wp2_with fail
        refine (isTime_any _ _).mono ?_
        rw [HT.out]
        rintro x w2 ⟨rfl, rfl⟩
        go_wp2_with fail
        refine (isEnd_any _ _ _ _ _ _).mono ?_
        rw [HEn.out]
        rintro x w2 ⟨rfl, hb2⟩
        have HB2 := Lib.hid (HB1.out.trans (hb2.mono HB1.out.size))
        clear hb2
        go_wp2
        go_ret
        rw [HR2.out]
        exact ⟨rfl, HB2.out⟩
      · rw [hen] at HR
        have HEn := Lib.hid hen
        have HR2 := Lib.hid (show R = 0 by rw [HR.out]; rfl)
        clear hen HR
        go_enter Try.func29, Try.ntmps29
        go_wp2_with fail
        refine HC.out.mono ?_
        rintro x w1 ⟨rfl, hb1⟩
        have HB1 := Lib.hid (HB.out.trans (hb1.mono HB.out.size))
        have q0 := (hb1.cell (p := ⟨w.heap.size, 0, none⟩) (by simp)).trans (HW.out 0)
        have q1 := (hb1.cell (p := ⟨w.heap.size, 1, none⟩) (by simp)).trans (HW.out 1)
        have q2 := (hb1.cell (p := ⟨w.heap.size, 2, none⟩) (by simp)).trans (HW.out 2)
        clear hb1
        simp at q0 q1 q2
        go_wp2_with fail
        refine (isTime_any _ _).mono ?_
        rw [HT.out]
        rintro x w2 ⟨rfl, rfl⟩
        go_wp2_with fail
        refine (isEnd_any _ _ _ _ _ _).mono ?_
        rw [HEn.out]
        rintro x w2 ⟨rfl, hb2⟩
        have HB2 := Lib.hid (HB1.out.trans (hb2.mono HB1.out.size))
        clear hb2
        go_wp2
        go_ret
        rw [HR2.out]
        exact ⟨rfl, HB2.out⟩

end Go.Proofs.Ytpdebkpblpipcaa
