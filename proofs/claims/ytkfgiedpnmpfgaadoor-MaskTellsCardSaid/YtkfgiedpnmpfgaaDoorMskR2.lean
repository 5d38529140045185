/-
  The document's masks: Has, Slots.
-/
import Derived.Test.YtkfgiedpnmpfgaaDoorMskR
import Derived.Test.YtkfgiedpnmpfgaaDoorMskG
namespace Go.Proofs.YtkfgiedpnmpfgaaDoor
open Go.RowKit Go.Shelf
set_option linter.unusedVariables false
set_option linter.unusedSimpArgs false
set_option maxRecDepth 100000

def hasI (m : Mk) (n : Int) : Bool := slotB n && has m n.toNat
theorem bit_and (a r : Nat) : (a / 2 ^ r &&& 1 = 1) = (a.testBit r = true) := by
  rw [nat_mask1]
  have : a.testBit r = decide (a / 2 ^ r % 2 = 1) := by rw [Nat.testBit_eq_decide_div_mod_eq]
  rw [this]
  simp

set_option maxHeartbeats 2000000 in
theorem rHas_any (m : Mk) (n : Int) (w : World) (h : Fine m) (hn : -9223372036854775808 ≤ n ∧ n ≤ 9223372036854775807) :
    Calls Tryd.prog 13 #[mv m, .int .i64 n] w fun e w' => e = .returned (.bool (hasI m n)) ∧ Below w.heap.size w w' := by
  have HI := Lib.hid (fun W => rSlot_any n W)
  have HB := Lib.hid (mbox_world w m).1
  cases hs : slotB n with
  | false =>
    have HF := Lib.hid (show hasI m n = false by unfold hasI; rw [hs]; rfl)
    rw [hs] at HI
    clear hs h
    unfold mv
    go_enter Tryd.func13, Tryd.ntmps13
    go_wp2_with fail
    refine (HI.out _).mono ?_
    rintro e w2 ⟨rfl, rfl⟩
    go_wp2
    go_ret
    rw [HF.out]
    exact ⟨rfl, HB.out⟩
  | true =>
    obtain ⟨h0, h96⟩ := slotB_yes hs
    obtain ⟨k, rfl⟩ := Int.eq_ofNat_of_zero_le h0
    rw [hs] at HI
    obtain ⟨a, b⟩ := m
    by_cases h64 : k < 64
    · have q0 : (k : Int).tdiv 64 = 0 := by rw [Int.tdiv_eq_ediv_of_nonneg (by omega)]; omega
      have q1 : (k : Int).tmod 64 = k := by rw [Int.tmod_eq_emod_of_nonneg (by omega)]; omega
      have hw0 : IntKind.i64.wrap 0 = 0 := rfl
      have hmin : min k 64 = k := Nat.min_eq_left (by omega)
      obtain ⟨Q, hQ⟩ : ∃ Q, Q = (a / 2 ^ k &&& 1) := ⟨_, rfl⟩
      have hand : bits .and .u64 ((a : Int) / 2 ^ k) 1 = (Q : Int) := by
        have := u64_and_nat (a / 2 ^ k) 1 (Nat.lt_of_le_of_lt (Nat.div_le_self _ _) h.1) (by decide)
        rw [← hQ] at this
        simpa using this
      have HF := Lib.hid (show hasI (a, b) k = decide (Q = 1) by
        unfold hasI has
        rw [hs, if_pos (by omega), Bool.eq_iff_iff, decide_eq_true_iff, hQ, bit_and]
        simp)
      clear hs h hQ hn
      unfold mv
      go_enter Tryd.func13, Tryd.ntmps13
      go_wp2_with fail
      refine (HI.out _).mono ?_
      rintro e w2 ⟨rfl, rfl⟩
      go_wp2
      go_ret
      rw [HF.out]
      refine ⟨?_, HB.out⟩
      show Ending.returned (Value.bool ((Q : Int) == 1)) = _
      congr 2
      rw [Bool.eq_iff_iff]
      simp
      omega
    · obtain ⟨r, hr⟩ : ∃ r, r = k - 64 := ⟨_, rfl⟩
      have hr64 : r < 64 := by omega
      have q0 : (k : Int).tdiv 64 = 1 := by rw [Int.tdiv_eq_ediv_of_nonneg (by omega)]; omega
      have q1 : (k : Int).tmod 64 = r := by rw [Int.tmod_eq_emod_of_nonneg (by omega)]; omega
      have hw0 : IntKind.i64.wrap 1 = 1 := rfl
      have hmin : min r 64 = r := Nat.min_eq_left (by omega)
      obtain ⟨Q, hQ⟩ : ∃ Q, Q = (b / 2 ^ r &&& 1) := ⟨_, rfl⟩
      have hand : bits .and .u64 ((b : Int) / 2 ^ r) 1 = (Q : Int) := by
        have := u64_and_nat (b / 2 ^ r) 1 (Nat.lt_of_le_of_lt (Nat.div_le_self _ _) h.2) (by decide)
        rw [← hQ] at this
        simpa using this
      have HF := Lib.hid (show hasI (a, b) k = decide (Q = 1) by
        unfold hasI has
        rw [hs, if_neg (by omega), Bool.eq_iff_iff, decide_eq_true_iff, hQ, bit_and, hr]
        simp; omega)
      clear hs h hQ hn h64 hr
      unfold mv
      go_enter Tryd.func13, Tryd.ntmps13
      go_wp2_with fail
      refine (HI.out _).mono ?_
      rintro e w2 ⟨rfl, rfl⟩
      go_wp2
      go_ret
      rw [HF.out]
      refine ⟨?_, HB.out⟩
      show Ending.returned (Value.bool ((Q : Int) == 1)) = _
      congr 2
      rw [Bool.eq_iff_iff]
      simp
      omega
end Go.Proofs.YtkfgiedpnmpfgaaDoor
