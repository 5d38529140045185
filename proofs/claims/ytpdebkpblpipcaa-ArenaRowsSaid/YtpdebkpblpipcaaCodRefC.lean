/-
  What quiverref07's RightVersion answers.
-/
import Derived.Test.YtpdebkpblpipcaaCodSame
namespace Go.Proofs.Ytpdebkpblpipcaa
open Go.RowKit Go.Shelf
set_option linter.unusedVariables false
set_option linter.unusedSimpArgs false
set_option maxRecDepth 100000

theorem layu_fit {x : Int} (h : (Lit.int .u64 x).wf = true) : 0 ≤ x ∧ x < 18446744073709551616 := by
  simp [Lit.wf, IntKind.min, IntKind.max, IntKind.signed, IntKind.bits] at h; omega

theorem verR_num (b f : Int) (xs : List Int) : verR b f xs = (right xs && decide (1 ≤ b ∧ b ≤ 1099511627776 ∧ (f = 0 ∨ (b < f ∧ 1 ≤ f ∧ f ≤ 1099511627776)))) := by
  unfold verR timeB endB timeB
  congr 1
  rw [Bool.eq_iff_iff]
  simp
  omega

set_option maxHeartbeats 2000000 in
theorem rRightVersion_any (b f : Int) (A : Option Addr) (c : Nat) (xs : List Int) (w : World) (wb : (Lit.int .u64 b).wf = true) (wf : (Lit.int .u64 f).wf = true) (h : Vec .i32 w A c xs) :
    Calls Try.prog 44 #[.agg #[.int .u64 b, .int .u64 f, .slice A xs.length c]] w fun e w' => e = .returned (.bool (verR b f xs)) ∧ Below w.heap.size w w' := by
  obtain ⟨W0, hW0⟩ : ∃ W0, W0 = w.alloc (.cells #[.int .u64 b, .int .u64 f, .slice A xs.length c] 43) := ⟨_, rfl⟩
  have hb0 : Below w.heap.size w W0 := by rw [hW0]; exact (Below.refl _ w).alloc (Nat.le_refl _) _
  have HR := Lib.hid (rRight_any A c xs W0 (h.below hb0))
  have hi := layu_fit wb
  have hj := layu_fit wf
  have HV := Lib.hid (verR_num b f xs)
  have HW0 := Lib.hid hW0
  have HB0 := Lib.hid hb0
  obtain ⟨hi1, hi2⟩ := hi
  obtain ⟨hj1, hj2⟩ := hj
  generalize verR b f xs = R at *
  generalize xs.length = n at *
  clear h wb wf hW0 hb0
  by_cases g0 : b < 1
  · have t0 : decide (b < 1) = true := by simpa using g0
    have HN := Lib.hid (show R = false by rw [HV.out, decide_eq_false (by omega), Bool.and_false])
    clear HV HR
    go_enter Try.func44, Try.ntmps44
    go_wp2
    rw [← HW0.out]
    go_ret
    rw [HN.out]
    exact ⟨rfl, HB0.out⟩
  have t0 : decide (b < 1) = false := by simpa using g0
  by_cases g1 : 1099511627776 < b
  · have t1 : decide (1099511627776 < b) = true := by simpa using g1
    have HN := Lib.hid (show R = false by rw [HV.out, decide_eq_false (by omega), Bool.and_false])
    clear HV HR
    go_enter Try.func44, Try.ntmps44
    go_wp2
    rw [← HW0.out]
    go_ret
    rw [HN.out]
    exact ⟨rfl, HB0.out⟩
  have t1 : decide (1099511627776 < b) = false := by simpa using g1
  by_cases g2 : 1099511627776 < f
  · have t2 : decide (1099511627776 < f) = true := by simpa using g2
    have HN := Lib.hid (show R = false by rw [HV.out, decide_eq_false (by omega), Bool.and_false])
    clear HV HR
    go_enter Try.func44, Try.ntmps44
    go_wp2
    rw [← HW0.out]
    go_ret
    rw [HN.out]
    exact ⟨rfl, HB0.out⟩
  have t2 : decide (1099511627776 < f) = false := by simpa using g2
  by_cases g3 : f = 0
  · have HN := Lib.hid (show R = right xs by rw [HV.out, decide_eq_true (by omega), Bool.and_true])
    clear HV
    subst g3
    go_enter Try.func44, Try.ntmps44
    go_wp2_with (go_at_call 62; rw [← HW0.out]; refine HR.out.mono ?_; rintro e w1 ⟨rfl, rfl⟩)
    go_ret
    rw [HN.out]
    exact ⟨rfl, HB0.out⟩
  have t3 : (f != 0) = true := by simpa using g3
  by_cases g4 : f ≤ b
  · have t4 : decide (f ≤ b) = true := by simpa using g4
    have HN := Lib.hid (show R = false by rw [HV.out, decide_eq_false (by omega), Bool.and_false])
    clear HV HR
    go_enter Try.func44, Try.ntmps44
    go_wp2
    rw [← HW0.out]
    go_ret
    rw [HN.out]
    exact ⟨rfl, HB0.out⟩
  have t4 : decide (f ≤ b) = false := by simpa using g4
  have HN := Lib.hid (show R = right xs by rw [HV.out, decide_eq_true (by omega), Bool.and_true])
  clear HV
  go_enter Try.func44, Try.ntmps44
  go_wp2_with (go_at_call 62; rw [← HW0.out]; refine HR.out.mono ?_; rintro e w1 ⟨rfl, rfl⟩)
  go_ret
  rw [HN.out]
  exact ⟨rfl, HB0.out⟩

end Go.Proofs.Ytpdebkpblpipcaa
