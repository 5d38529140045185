/-
  The document's masks: Slot, Has, with.
-/
import Derived.Test.YtkfgiedpnmpfgaaMskF
import Derived.Deep.RegionHeld3
namespace Go.Proofs.Ytkfgiedpnmpfgaa
open Go.RowKit Go.Shelf
set_option linter.unusedVariables false
set_option linter.unusedSimpArgs false
set_option maxRecDepth 100000

theorem rSlot_any (n : Int) (w : World) :
    Calls Try.prog 9 #[.int .i64 n] w fun e w' => e = .returned (.bool (slotB n)) ∧ w = w' := by
  by_cases h0 : 0 ≤ n
  · go_enter Try.func9, Try.ntmps9
    go_wp2
    go_ret
    refine ⟨?_, rfl⟩
    simp [slotB, h0]
  · have t0 : decide (0 ≤ n) = false := by simpa using h0
    go_enter Try.func9, Try.ntmps9
    go_wp2
    go_ret
    refine ⟨?_, rfl⟩
    simp [slotB, h0]
    omega

/-- A mask and a slot, word by word. -/
def withW (m : Mk) (n : Nat) : Mk := if n < 64 then (m.1 ||| 2 ^ n, m.2) else (m.1, m.2 ||| 2 ^ (n - 64))
theorem withW_fine {m : Mk} (h : Fine m) {n : Nat} (hn : n < 96) : Fine (withW m n) := by
  unfold withW
  split
  · exact ⟨Nat.or_lt_two_pow (n := 64) h.1 (Nat.pow_lt_pow_right (by decide) (by omega)), h.2⟩
  · exact ⟨h.1, Nat.or_lt_two_pow (n := 64) h.2 (Nat.pow_lt_pow_right (by decide) (by omega))⟩
theorem withW_mk (f : Nat → Bool) {n : Nat} (hn : n < 96) : withW (mk f) n = mk (fun k => f k || decide (k = n)) := by
  unfold withW
  by_cases h : n < 64
  · rw [if_pos h]
    have e1 : (mk f).1 ||| 2 ^ n = wd (fun k => f k || decide (k = n)) 64 := by
      apply Nat.eq_of_testBit_eq
      intro i
      rw [Nat.testBit_or, Nat.testBit_two_pow, wd_bit]
      show ((wd f 64).testBit i || _) = _
      rw [wd_bit]
      by_cases hi : i < 64
      · simp [hi, eq_comm]
        try (congr 1; rw [Bool.eq_iff_iff]; simp; omega)
      · have hne : ¬ n = i := by omega
        simp [hi, hne]
        try omega
    have e2 : (mk f).2 = wd (fun j => f (64 + j) || decide (64 + j = n)) 32 := wd_congr (fun j hj => by
      have : decide (64 + j = n) = false := by simp; omega
      rw [this, Bool.or_false])
    rw [e1, e2]
    rfl
  · rw [if_neg h]
    have e1 : (mk f).1 = wd (fun k => f k || decide (k = n)) 64 := wd_congr (fun j hj => by
      have : decide (j = n) = false := by simp; omega
      rw [this, Bool.or_false])
    have e2 : (mk f).2 ||| 2 ^ (n - 64) = wd (fun j => f (64 + j) || decide (64 + j = n)) 32 := by
      apply Nat.eq_of_testBit_eq
      intro i
      rw [Nat.testBit_or, Nat.testBit_two_pow, wd_bit]
      show ((wd _ 32).testBit i || _) = _
      rw [wd_bit]
      by_cases hi : i < 32
      · simp [hi, eq_comm]
        try (congr 1; rw [Bool.eq_iff_iff]; simp; omega)
      · have hne : ¬ n = 64 + i := by omega
        simp [hi, hne]
        try omega
    rw [e1, e2]
    rfl

set_option maxHeartbeats 2000000 in
theorem rwith_any (m : Mk) (n : Nat) (w : World) (h : Fine m) (hn : n < 96) :
    Calls Try.prog 30 #[mv m, .int .i64 n] w fun e w' => e = .returned (mv (withW m n)) ∧ Below w.heap.size w w' := by
  obtain ⟨a, b⟩ := m
  unfold mv
  by_cases h64 : n < 64
  · skip
    have q0 : (n : Int).tdiv 64 = 0 := by rw [Int.tdiv_eq_ediv_of_nonneg (by omega)]; omega
    have q1 : (n : Int).tmod 64 = n := by rw [Int.tmod_eq_emod_of_nonneg (by omega)]; omega
    have hw0 : IntKind.i64.wrap 0 = 0 := rfl
    have hwn : IntKind.i64.wrap (n : Int) = n := by rw [IntKind.wrap_i64, Int.emod_eq_of_lt (by omega) (by omega)]; omega
    have n0 : (0 : Int) ≤ n := by omega
    obtain ⟨P, hP⟩ : ∃ P, P = 2 ^ n := ⟨_, rfl⟩
    have hP64 : P < 18446744073709551616 := by rw [hP]; exact Nat.pow_lt_pow_right (a := 2) (n := 64) (by decide) (by omega)
    have hsh : IntKind.u64.wrap ((2 : Int) ^ n) = (P : Int) := by
      have e : (2 : Int) ^ n = (P : Int) := by rw [hP]; simp
      rw [e, IntKind.wrap_u64]
      exact Int.emod_eq_of_lt (by omega) (by omega)
    have hor := u64_or_nat a P h.1 hP64
    have HF := Lib.hid (show withW (a, b) n = ((a ||| P), b) from by unfold withW; rw [if_pos h64, hP])
    obtain ⟨R, hR0⟩ : ∃ R, R = a ||| P := ⟨_, rfl⟩
    rw [← hR0] at hor HF
    have hmin : min n 64 = n := Nat.min_eq_left (by omega)
    clear hP hP64 hR0 
    obtain ⟨s, hs⟩ : ∃ s, s = w.heap.size := ⟨_, rfl⟩
    obtain ⟨W0, hW0⟩ : ∃ W0, W0 = (w.alloc (.cells #[.int .u64 (a : Int), .int .u64 (b : Int)] 25)).alloc (.cells #[.int .u64 (0 : Nat), .int .u64 (0 : Nat)] 25) := ⟨_, rfl⟩
    have hB : Below w.heap.size w W0 := by rw [hW0]; exact ((Below.refl _ w).alloc (Nat.le_refl _) _).alloc (by simp) _
    have hm0 : MRow W0 s a b := by rw [hW0, hs]; exact (MRow.new w a b).below ((Below.refl _ _).alloc (Nat.le_refl _) _) (by simp)
    have hR : MRow W0 (s + 1) 0 0 := by
      rw [hW0, hs]; have := MRow.new (w.alloc (.cells #[.int .u64 (a : Int), .int .u64 (b : Int)] 25)) 0 0
      rwa [World.size_alloc] at this
    obtain ⟨V, hV⟩ : ∃ V, V = (W0.setCell ⟨s, 0, none⟩ (.int .u64 (R : Int))).drew := ⟨_, rfl⟩
    have hmV : MRow V s R b := by rw [hV]; exact MRow.set0 hm0 R
    have hRV : MRow V (s + 1) 0 0 := by rw [hV]; exact MRow.other hR _ _ (by simp)
    have hBV : Below w.heap.size w V := by rw [hV]; exact below_drew (below_set hB _ _ (by rw [hs]; exact Nat.le_refl _))
    have HW0 := Lib.hid hW0
    have HS := Lib.hid hs
    have HV := Lib.hid hV
    have c0 := hm0.cell0
    have f0 := hm0.frozen 0
    have v0 := hmV.cell0
    have v1 := hmV.cell1
    have r0 := hRV.cell0
    have r1 := hRV.cell1
    have g0 := hRV.frozen 0
    have g1 := hRV.frozen 1
    obtain ⟨e0, e1, hbE⟩ := res2 R b hRV hBV (by omega)
    have HBE := Lib.hid hbE
    clear hs hW0 hB hm0 hR h hV hmV hRV hBV hbE
    go_enter Try.func30, Try.ntmps30
    go_wp2
    rw [show (w.alloc (.cells #[.int .u64 (a : Int), .int .u64 (b : Int)] 25)).alloc (.cells #[.int .u64 0, .int .u64 0] 25) = W0 from HW0.out.symm, ← HS.out]
    refine wp_region_still_tail 9 (by kernel_rfl) (by kernel_rfl) ?_
    simp only [List.take_succ_cons, List.take_zero, List.drop_succ_cons, List.drop_zero]
    change wpStill _ _ W0.drew _ _ _
    still_step
    still_step
    still_step
    still_step
    still_step
    still_step
    still_step
    still_step
    still_step
    refine wpStill_nil ?_
    change wpList _ _ _ _ _ W0.drew
    go_wp2_with (rw [← HV.out])
    go_wp2
    refine bodyPost_ret (v := .agg #[.int .u64 (R : Nat), .int .u64 (b : Nat)]) (by simp [results, Try.results30, go_sem, e0, e1]) rfl ?_
    rw [HF.out]
    exact ⟨rfl, HBE.out⟩
  · skip
    obtain ⟨r, hr⟩ : ∃ r, r = n - 64 := ⟨_, rfl⟩
    have q0 : (n : Int).tdiv 64 = 1 := by rw [Int.tdiv_eq_ediv_of_nonneg (by omega)]; omega
    have q1 : (n : Int).tmod 64 = r := by rw [Int.tmod_eq_emod_of_nonneg (by omega)]; omega
    have hw0 : IntKind.i64.wrap 1 = 1 := rfl
    have hr64 : r < 64 := by omega
    have hwn : IntKind.i64.wrap (r : Int) = r := by rw [IntKind.wrap_i64, Int.emod_eq_of_lt (by omega) (by omega)]; omega
    have n0 : (0 : Int) ≤ r := by omega
    obtain ⟨P, hP⟩ : ∃ P, P = 2 ^ r := ⟨_, rfl⟩
    have hP64 : P < 18446744073709551616 := by rw [hP]; exact Nat.pow_lt_pow_right (a := 2) (n := 64) (by decide) (by omega)
    have hsh : IntKind.u64.wrap ((2 : Int) ^ r) = (P : Int) := by
      have e : (2 : Int) ^ r = (P : Int) := by rw [hP]; simp
      rw [e, IntKind.wrap_u64]
      exact Int.emod_eq_of_lt (by omega) (by omega)
    have hor := u64_or_nat b P h.2 hP64
    have HF := Lib.hid (show withW (a, b) n = (a, (b ||| P)) from by unfold withW; rw [if_neg h64, hP, hr])
    obtain ⟨R, hR0⟩ : ∃ R, R = b ||| P := ⟨_, rfl⟩
    rw [← hR0] at hor HF
    have hmin : min r 64 = r := Nat.min_eq_left (by omega)
    clear hP hP64 hR0 h64 hr
    obtain ⟨s, hs⟩ : ∃ s, s = w.heap.size := ⟨_, rfl⟩
    obtain ⟨W0, hW0⟩ : ∃ W0, W0 = (w.alloc (.cells #[.int .u64 (a : Int), .int .u64 (b : Int)] 25)).alloc (.cells #[.int .u64 (0 : Nat), .int .u64 (0 : Nat)] 25) := ⟨_, rfl⟩
    have hB : Below w.heap.size w W0 := by rw [hW0]; exact ((Below.refl _ w).alloc (Nat.le_refl _) _).alloc (by simp) _
    have hm0 : MRow W0 s a b := by rw [hW0, hs]; exact (MRow.new w a b).below ((Below.refl _ _).alloc (Nat.le_refl _) _) (by simp)
    have hR : MRow W0 (s + 1) 0 0 := by
      rw [hW0, hs]; have := MRow.new (w.alloc (.cells #[.int .u64 (a : Int), .int .u64 (b : Int)] 25)) 0 0
      rwa [World.size_alloc] at this
    obtain ⟨V, hV⟩ : ∃ V, V = (W0.setCell ⟨s, 1, none⟩ (.int .u64 (R : Int))).drew := ⟨_, rfl⟩
    have hmV : MRow V s a R := by rw [hV]; exact MRow.set1 hm0 R
    have hRV : MRow V (s + 1) 0 0 := by rw [hV]; exact MRow.other hR _ _ (by simp)
    have hBV : Below w.heap.size w V := by rw [hV]; exact below_drew (below_set hB _ _ (by rw [hs]; exact Nat.le_refl _))
    have HW0 := Lib.hid hW0
    have HS := Lib.hid hs
    have HV := Lib.hid hV
    have c0 := hm0.cell1
    have f0 := hm0.frozen 1
    have v0 := hmV.cell0
    have v1 := hmV.cell1
    have r0 := hRV.cell0
    have r1 := hRV.cell1
    have g0 := hRV.frozen 0
    have g1 := hRV.frozen 1
    obtain ⟨e0, e1, hbE⟩ := res2 a R hRV hBV (by omega)
    have HBE := Lib.hid hbE
    clear hs hW0 hB hm0 hR h hV hmV hRV hBV hbE
    go_enter Try.func30, Try.ntmps30
    go_wp2
    rw [show (w.alloc (.cells #[.int .u64 (a : Int), .int .u64 (b : Int)] 25)).alloc (.cells #[.int .u64 0, .int .u64 0] 25) = W0 from HW0.out.symm, ← HS.out]
    refine wp_region_still_tail 9 (by kernel_rfl) (by kernel_rfl) ?_
    simp only [List.take_succ_cons, List.take_zero, List.drop_succ_cons, List.drop_zero]
    change wpStill _ _ W0.drew _ _ _
    still_step
    still_step
    still_step
    still_step
    still_step
    still_step
    still_step
    still_step
    still_step
    refine wpStill_nil ?_
    change wpList _ _ _ _ _ W0.drew
    go_wp2_with (rw [← HV.out])
    go_wp2
    refine bodyPost_ret (v := .agg #[.int .u64 (a : Nat), .int .u64 (R : Nat)]) (by simp [results, Try.results30, go_sem, e0, e1]) rfl ?_
    rw [HF.out]
    exact ⟨rfl, HBE.out⟩

end Go.Proofs.Ytkfgiedpnmpfgaa
