/-
  The document's masks: Slot, Has, with.
-/
import Derived.Test.YtgljmcddakeoiaaDoorMskF
import Derived.Deep.RegionHeld3
namespace Go.Proofs.YtgljmcddakeoiaaDoor
open Go.RowKit Go.Shelf
set_option linter.unusedVariables false
set_option linter.unusedSimpArgs false
set_option maxRecDepth 100000

/-- A mask and a slot, word by word. -/
def withW (m : Mk) (n : Nat) : Mk := if n < 64 then (m.1 ||| 2 ^ n, m.2) else (m.1, m.2 ||| 2 ^ (n - 64))
theorem withW_fine {m : Mk} (h : Fine m) {n : Nat} (hn : n < 96) : Fine (withW m n) := by
  unfold withW
  split
  · exact ⟨Nat.or_lt_two_pow (n := 64) h.1 (Nat.pow_lt_pow_right (by decide) (by omega)), h.2⟩
  · exact ⟨h.1, Nat.or_lt_two_pow (n := 64) h.2 (Nat.pow_lt_pow_right (by decide) (by omega))⟩
theorem withW_mk (f : Nat → Bool) {n : Nat} (hn : n < 96) : withW (mk f) n = mk (fun k => f k || decide (k = n)) := by
  unfold withW
  by_cases h : n < 64
  · rw [if_pos h]
    have e1 : (mk f).1 ||| 2 ^ n = wd (fun k => f k || decide (k = n)) 64 := by
      apply Nat.eq_of_testBit_eq
      intro i
      rw [Nat.testBit_or, Nat.testBit_two_pow, wd_bit]
      show ((wd f 64).testBit i || _) = _
      rw [wd_bit]
      by_cases hi : i < 64
      · simp [hi, eq_comm]
        try (congr 1; rw [Bool.eq_iff_iff]; simp; omega)
      · have hne : ¬ n = i := by omega
        simp [hi, hne]
        try omega
    have e2 : (mk f).2 = wd (fun j => f (64 + j) || decide (64 + j = n)) 32 := wd_congr (fun j hj => by
      have : decide (64 + j = n) = false := by simp; omega
      rw [this, Bool.or_false])
    rw [e1, e2]
    rfl
  · rw [if_neg h]
    have e1 : (mk f).1 = wd (fun k => f k || decide (k = n)) 64 := wd_congr (fun j hj => by
      have : decide (j = n) = false := by simp; omega
      rw [this, Bool.or_false])
    have e2 : (mk f).2 ||| 2 ^ (n - 64) = wd (fun j => f (64 + j) || decide (64 + j = n)) 32 := by
      apply Nat.eq_of_testBit_eq
      intro i
      rw [Nat.testBit_or, Nat.testBit_two_pow, wd_bit]
      show ((wd _ 32).testBit i || _) = _
      rw [wd_bit]
      by_cases hi : i < 32
      · simp [hi, eq_comm]
        try (congr 1; rw [Bool.eq_iff_iff]; simp; omega)
      · have hne : ¬ n = 64 + i := by omega
        simp [hi, hne]
        try omega
    rw [e1, e2]
    rfl

end Go.Proofs.YtgljmcddakeoiaaDoor
