/-
  The least functions of mask: lowest, isSlot, the closures.
-/
import Derived.Test.YtgljmcddakeoiaaDoorMskMath
import Derived.Test.YtgljmcddakeoiaaDoorVecTold
import Derived.Test.YtgljmcddakeoiaaDoorVecSeq
namespace Go.Proofs.YtgljmcddakeoiaaDoor
open Go.RowKit Go.Shelf
set_option linter.unusedVariables false
set_option linter.unusedSimpArgs false
set_option maxRecDepth 100000

/-- How many bits n asks for. -/
def clamp (n : Int) : Nat := (min (max n 0) 64).toNat
def lowW (n : Int) : Nat := 18446744073709551615 / 2 ^ (64 - clamp n)
theorem lowW_eq (n : Int) : (18446744073709551615 : Int) / 2 ^ (64 - min (max n 0) 64).toNat = (lowW n : Nat) := by
  unfold lowW clamp
  have e : (64 - min (max n 0) 64).toNat = 64 - (min (max n 0) 64).toNat := by omega
  rw [e]
  simp
theorem lowW_bit (n : Int) (i : Nat) (hi : i < 64) : (lowW n).testBit i = decide ((i : Int) < n) := by
  unfold lowW
  rw [low_bit _ _ (by unfold clamp; omega) hi]
  unfold clamp
  simp
  omega
theorem lowW_lt (n : Int) : lowW n < 18446744073709551616 := low_lt _
theorem lowW_96 : lowW 96 = 18446744073709551615 := rfl
theorem lowW_32 : lowW 32 = 4294967295 := rfl

set_option maxHeartbeats 400000 in
theorem lowest_any (n : Int) (w : World) (h : -9223372036854775808 ≤ n ∧ n ≤ 9223372036854775807) :
    Calls Tryd.prog 45 #[.int .i64 n] w fun e w' => e = .returned (.int .u64 (lowW n)) ∧ w = w' := by
  go_enter Tryd.func45, Tryd.ntmps45
  go_wp2
  go_ret
  refine ⟨?_, rfl⟩
  rw [← lowW_eq]
  rfl

def slotB (n : Int) : Bool := decide (0 ≤ n) && decide (n < 96)
theorem slotB_yes {n : Int} (h : slotB n = true) : 0 ≤ n ∧ n < 96 := by unfold slotB at h; simpa using h
theorem slotB_no {n : Int} (h : slotB n = false) : ¬ (0 ≤ n ∧ n < 96) := by
  unfold slotB at h
  intro ⟨h1, h2⟩
  simp [h1, h2] at h

theorem isSlot_any (n : Int) (w : World) (h : -9223372036854775808 ≤ n ∧ n ≤ 9223372036854775807) :
    Calls Tryd.prog 16 #[.int .i64 n] w fun e w' => e = .returned (.bool (slotB n)) ∧ w = w' := by
  by_cases h0 : 0 ≤ n
  · go_enter Tryd.func16, Tryd.ntmps16
    go_wp2
    go_ret
    refine ⟨?_, rfl⟩
    simp [slotB, h0]
  · have t0 : decide (0 ≤ n) = false := by simpa using h0
    go_enter Tryd.func16, Tryd.ntmps16
    go_wp2
    go_ret
    refine ⟨?_, rfl⟩
    simp [slotB, h0]
    omega

/-- A word of a mask. -/
def ww (i : Nat) (m : Mk) : Nat := if i = 0 then m.1 else m.2
theorem ww_lt {m : Mk} (h : Fine m) (i : Nat) : ww i m < 18446744073709551616 := by
  unfold ww
  split
  · exact h.1
  · exact h.2
/-- A mask in a block of its own. -/
def MBox (w : World) (g : Nat) (m : Mk) : Prop := w.cell? ⟨g, 0, none⟩ = some (.int .u64 m.1) ∧ w.cell? ⟨g, 1, none⟩ = some (.int .u64 m.2)
theorem MBox.lt {w : World} {g : Nat} {m : Mk} (h : MBox w g m) : g < w.heap.size := World.block_lt_of_cell? w _ h.1
theorem MBox.below {w w' : World} {g B : Nat} {m : Mk} (h : MBox w g m) (hb : Below B w w') (hg : g < B) : MBox w' g m := ⟨(hb.cell (p := ⟨g, 0, none⟩) hg).trans h.1, (hb.cell (p := ⟨g, 1, none⟩) hg).trans h.2⟩
def mv (m : Mk) : Value := .agg #[.int .u64 m.1, .int .u64 m.2]
theorem MBox.new (w : World) (m : Mk) (t : TypeId) : MBox (w.alloc (.cells #[.int .u64 m.1, .int .u64 m.2] t)) w.heap.size m := ⟨cell_new w _ t 0, cell_new w _ t 1⟩

set_option maxHeartbeats 400000 in
theorem clean1_any (i g : Nat) (m : Mk) (w : World) (hi : i < 2) (h : MBox w g m) :
    Calls Tryd.prog 48 #[.int .i64 i, .pointer (some ⟨g, 0, none⟩)] w fun e w' => e = .returned (.int .u64 (ww i m)) ∧ w = w' := by
  obtain ⟨h0, h1⟩ := h
  obtain ⟨a, b⟩ := m
  dsimp only at h0 h1
  have hi2 : i = 0 ∨ i = 1 := by omega
  rcases hi2 with rfl | rfl <;>
  · go_enter Tryd.func48, Tryd.ntmps48
    go_wp2
    go_ret
    exact ⟨rfl, rfl⟩

set_option maxHeartbeats 400000 in
theorem not1_any (i g : Nat) (m : Mk) (w : World) (hi : i < 2) (h : MBox w g m) (hm : Fine m) :
    Calls Tryd.prog 29 #[.int .i64 i, .pointer (some ⟨g, 0, none⟩)] w fun e w' => e = .returned (.int .u64 (18446744073709551615 ^^^ ww i m : Nat)) ∧ w = w' := by
  obtain ⟨h0, h1⟩ := h
  obtain ⟨a, b⟩ := m
  obtain ⟨ha, hb⟩ := hm
  dsimp only at h0 h1 ha hb
  have xa := u64_xor_nat 18446744073709551615 a (by decide) ha
  have xb := u64_xor_nat 18446744073709551615 b (by decide) hb
  have hi2 : i = 0 ∨ i = 1 := by omega
  rcases hi2 with rfl | rfl <;>
  · go_enter Tryd.func29, Tryd.ntmps29
    go_wp2
    go_ret
    refine ⟨?_, rfl⟩
    first | exact congrArg (fun z => Ending.returned (Value.int .u64 z)) xa | exact congrArg (fun z => Ending.returned (Value.int .u64 z)) xb

set_option maxHeartbeats 400000 in
theorem minus1_any (i g k : Nat) (m m2 : Mk) (w : World) (hi : i < 2) (h : MBox w g m) (h2 : MBox w k m2) (hm : Fine m) (hm2 : Fine m2) :
    Calls Tryd.prog 46 #[.int .i64 i, .pointer (some ⟨g, 0, none⟩), .pointer (some ⟨k, 0, none⟩)] w fun e w' => e = .returned (.int .u64 (ww i m &&& (18446744073709551615 - ww i m2) : Nat)) ∧ Below w.heap.size w w' := by
  obtain ⟨h0, h1⟩ := h
  obtain ⟨k0, k1⟩ := h2
  obtain ⟨a, b⟩ := m
  obtain ⟨c, d⟩ := m2
  have x1 := u64_andNot_nat a c hm.1 hm2.1
  have x2 := u64_andNot_nat b d hm.2 hm2.2
  dsimp only at h0 h1 k0 k1
  have hi2 : i = 0 ∨ i = 1 := by omega
  rcases hi2 with rfl | rfl <;>
  · go_enter Tryd.func46, Tryd.ntmps46
    go_wp2
    go_quiet (fail)
    go_wp2
    go_ret
    exact ⟨rfl, below_drewN (Below.refl _ _) _⟩

set_option maxHeartbeats 400000 in
theorem below1_any (i g : Nat) (n : Int) (w : World) (hi : i < 2) (h : w.cell? ⟨g, 0, none⟩ = some (.int .i64 n)) (hn : 0 ≤ n ∧ n ≤ 96) :
    Calls Tryd.prog 47 #[.int .i64 i, .pointer (some ⟨g, 0, none⟩)] w fun e w' => e = .returned (.int .u64 (lowW (n - 64 * i))) ∧ w = w' := by
  have hi2 : i = 0 ∨ i = 1 := by omega
  rcases hi2 with rfl | rfl
  · go_enter Tryd.func47, Tryd.ntmps47
    go_wp2_with fail
    refine (lowest_any _ _ (by omega)).mono ?_
    rintro e w' ⟨rfl, rfl⟩
    go_wp2
    go_ret
    exact ⟨by rw [show n - 64 * ((0 : Nat) : Int) = n by omega]; rfl, rfl⟩
  · go_enter Tryd.func47, Tryd.ntmps47
    go_wp2_with fail
    refine (lowest_any _ _ (by omega)).mono ?_
    rintro e w' ⟨rfl, rfl⟩
    go_wp2
    go_ret
    exact ⟨by rw [show n - 64 * ((1 : Nat) : Int) = n - 64 by omega]; rfl, rfl⟩
end Go.Proofs.YtgljmcddakeoiaaDoor
