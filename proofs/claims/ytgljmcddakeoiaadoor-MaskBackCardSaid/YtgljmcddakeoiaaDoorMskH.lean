/-
  Range, OnesCount64, Count, Has, Place.
-/
import Derived.Test.YtgljmcddakeoiaaDoorMskG
namespace Go.Proofs.YtgljmcddakeoiaaDoor
open Go.RowKit Go.Shelf
set_option linter.unusedVariables false
set_option linter.unusedSimpArgs false
set_option maxRecDepth 100000

def rangeM (a b : Int) : Mk := mk fun k => decide (a ≤ (k : Int)) && decide ((k : Int) < b)
def rangeE (a b : Int) : Int := if 0 ≤ a ∧ b ≤ 96 ∧ a ≤ b then 0 else 2
theorem res_world (w : World) : Below w.heap.size w (w.alloc (.cells #[.int .u64 (0 : Nat), .int .u64 (0 : Nat)] 25)) ∧ MRow (w.alloc (.cells #[.int .u64 (0 : Nat), .int .u64 (0 : Nat)] 25)) w.heap.size 0 0 :=
  ⟨(Below.refl _ w).alloc (Nat.le_refl _) _, MRow.new w 0 0⟩

theorem wrap_add_div (x X d : Nat) (hX : X = x + x / d) (h : X < 18446744073709551616) : IntKind.u64.wrap ((x : Int) + (x : Int) / (d : Int)) = (X : Int) := by
  have e : (x : Int) + (x : Int) / (d : Int) = (X : Int) := by rw [hX]; simp
  rw [IntKind.wrap_u64, e]
  exact Int.emod_eq_of_lt (by omega) (by omega)
theorem and127 (Z : Nat) : bits .and .i64 (wrap64 (Z : Int)) 127 = ((Z % 128 : Nat) : Int) := by
  rw [i64_and127]
  unfold wrap64
  omega
set_option maxHeartbeats 2000000 in
theorem ones_any (x : Nat) (w : World) (hx : x < 18446744073709551616) :
    Calls Tryd.prog 28 #[.int .u64 x] w fun e w' => e = .returned (.int .i64 (cnt x.testBit 64)) ∧ w = w' := by
  obtain ⟨x1, h1⟩ : ∃ x1, x1 = (x / 2 &&& 6148914691236517205) + (x &&& 6148914691236517205) := ⟨_, rfl⟩
  obtain ⟨x2, h2⟩ : ∃ x2, x2 = (x1 / 4 &&& 3689348814741910323) + (x1 &&& 3689348814741910323) := ⟨_, rfl⟩
  obtain ⟨x3, h3⟩ : ∃ x3, x3 = (x2 / 16 + x2) &&& 1085102592571150095 := ⟨_, rfl⟩
  obtain ⟨X, hX⟩ : ∃ X, X = x3 + x3 / 256 := ⟨_, rfl⟩
  obtain ⟨Y, hY⟩ : ∃ Y, Y = X + X / 65536 := ⟨_, rfl⟩
  obtain ⟨Z, hZ⟩ : ∃ Z, Z = Y + Y / 4294967296 := ⟨_, rfl⟩
  obtain ⟨l1, l2, l22, l3, lX, lY, lZ, hres⟩ := ones_steps x hx x1 x2 x3 X Y Z h1 h2 h3 hX hY hZ
  have a1 : bits .and .u64 ((x : Int) / 2) 6148914691236517205 = ((x / 2 &&& 6148914691236517205 : Nat) : Int) := by
    have := u64_and_nat (x / 2) 6148914691236517205 (by omega) (by decide)
    simpa using this
  have a2 : bits .and .u64 (x : Int) 6148914691236517205 = ((x &&& 6148914691236517205 : Nat) : Int) := u64_and_nat x 6148914691236517205 hx (by decide)
  have a3 : bits .and .u64 ((x1 : Int) / 4) 3689348814741910323 = ((x1 / 4 &&& 3689348814741910323 : Nat) : Int) := by
    have := u64_and_nat (x1 / 4) 3689348814741910323 (by omega) (by decide)
    simpa using this
  have a4 : bits .and .u64 (x1 : Int) 3689348814741910323 = ((x1 &&& 3689348814741910323 : Nat) : Int) := u64_and_nat x1 3689348814741910323 l1 (by decide)
  have a5 : bits .and .u64 ((x2 : Int) / 16 + x2) 1085102592571150095 = (x3 : Int) := by
    have := u64_and_nat (x2 / 16 + x2) 1085102592571150095 l22 (by decide)
    rw [← h3] at this
    simpa using this
  have s1 : ((x / 2 &&& 6148914691236517205 : Nat) : Int) + ((x &&& 6148914691236517205 : Nat) : Int) = (x1 : Int) := by rw [h1]; simp
  have s2 : ((x1 / 4 &&& 3689348814741910323 : Nat) : Int) + ((x1 &&& 3689348814741910323 : Nat) : Int) = (x2 : Int) := by rw [h2]; simp
  have HRes := Lib.hid hres
  have HZX := Lib.hid (And.intro hX (And.intro hY hZ))
  generalize (x / 2 &&& 6148914691236517205 : Nat) = p1 at *
  generalize (x &&& 6148914691236517205 : Nat) = p2 at *
  generalize (x1 / 4 &&& 3689348814741910323 : Nat) = p3 at *
  generalize (x1 &&& 3689348814741910323 : Nat) = p4 at *
  clear hX hY hZ h1 h2 h3 hres
  go_enter Tryd.func28, Tryd.ntmps28
  go_wp2
  go_ret
  obtain ⟨hX, hY, hZ⟩ := HZX.out
  have w1 : IntKind.u64.wrap ((x3 : Int) + (x3 : Int) / 256) = (X : Int) := wrap_add_div x3 X 256 hX lX
  have w2 : IntKind.u64.wrap ((X : Int) + (X : Int) / 65536) = (Y : Int) := wrap_add_div X Y 65536 hY lY
  have w3 : IntKind.u64.wrap ((Y : Int) + (Y : Int) / 4294967296) = (Z : Int) := wrap_add_div Y Z 4294967296 hZ lZ
  refine ⟨?_, rfl⟩
  rw [w1, w2, w3, ← HRes.out]
  show Ending.returned (Value.int .i64 (bits .and .i64 (wrap64 (Z : Int)) 127)) = _
  rw [and127]

set_option maxHeartbeats 2000000 in
theorem count_any (m : Mk) (w : World) (h : Fine m) :
    Calls Tryd.prog 14 #[mv m] w fun e w' => e = .returned (.int .i64 (cnt (has m) 96)) ∧ Below w.heap.size w w' := by
  have HC := Lib.hid (fun W => clean_any m W h)
  obtain ⟨M, hM⟩ : ∃ M, M = mk (fun n => has m n) := ⟨_, rfl⟩
  unfold GivesM at HC
  rw [← hM] at HC
  have hf : Fine M := by rw [hM]; exact mk_fine _
  have e0 : cnt M.1.testBit 64 + cnt M.2.testBit 64 = cnt (has m) 96 := by
    have e1 : cnt M.1.testBit 64 = cnt (has m) 64 := cnt_congr (fun i hi => by rw [← has0 M i hi, hM, has_mk]; simp; omega)
    have e2 : cnt M.2.testBit 64 = cnt (fun i => has m (64 + i)) 32 := by
      have e3 : cnt M.2.testBit 64 = cnt M.2.testBit 32 := by
        rw [show 64 = 32 + 32 from rfl, cnt_add]
        have : cnt (fun i => M.2.testBit (32 + i)) 32 = 0 := by
          rw [cnt_congr (g := fun _ => false) (fun i hi => ?_)]
          · rfl
          · rw [hM]
            show (wd _ 32).testBit (32 + i) = false
            rw [wd_bit, decide_eq_false (by omega)]; rfl
        omega
      rw [e3]
      exact cnt_congr (fun i hi => by rw [← has1 M i hi, hM, has_mk]; simp; omega)
    rw [show 96 = 64 + 32 from rfl, cnt_add, e1, e2]
  have l0 : cnt M.1.testBit 64 ≤ 64 := cnt_le _ _
  have l1 : cnt M.2.testBit 64 ≤ 64 := cnt_le _ _
  have HO0 := Lib.hid (fun W => ones_any M.1 W hf.1)
  have HO1 := Lib.hid (fun W => ones_any M.2 W hf.2)
  have HE := Lib.hid e0
  have HB := Lib.hid (mbox_world w m).1
  generalize cnt M.1.testBit 64 = k0 at *
  generalize cnt M.2.testBit 64 = k1 at *
  have ix0 : ∀ (a b : Int) (w : World), (Instr.index 25 (.agg #[.int .u64 a, .int .u64 b]) (.int .i64 0)).run Tryd.prog w = .ok (.int .u64 a) w := by
    intro a b w
    have hu := Tryd.underlying25
    have h1 : Tryd.prog.cellsOf 23 = 1 := by kernel_rfl
    simp [Instr.index, run_underlying hu, go_sem]
  have ix1 : ∀ (a b : Int) (w : World), (Instr.index 25 (.agg #[.int .u64 a, .int .u64 b]) (.int .i64 1)).run Tryd.prog w = .ok (.int .u64 b) w := by
    intro a b w
    have hu := Tryd.underlying25
    have h1 : Tryd.prog.cellsOf 23 = 1 := by kernel_rfl
    simp [Instr.index, run_underlying hu, go_sem]
  clear hM hf e0 h
  unfold mv at *
  go_enter Tryd.func14, Tryd.ntmps14
  go_wp2_with fail
  refine (HC.out _).mono ?_
  rintro e w1 ⟨rfl, hb1⟩
  have HB1 := Lib.hid (HB.out.trans (hb1.mono HB.out.size))
  clear hb1
  go_wp2
  go_loopw [3, 8] (fun v i wr => ∃ (k q : Nat), k ≤ 2 ∧ i = .int .i64 k ∧ v = .int .i64 q ∧ wr = w1 ∧ q ≤ 64 * k ∧ Hid (q = if k = 0 then 0 else if k = 1 then k0 else k0 + k1)) (fun _ i _ => 2 - (intOf i).toNat)
  case atStart => exact ⟨0, 0, by omega, rfl, rfl, rfl, by omega, Lib.hid rfl⟩
  case round =>
    obtain ⟨k, q, hk, rfl, rfl, rfl, hq, HQ⟩ := hrel
    by_cases hka : k = 0
    · subst hka
      obtain rfl : q = 0 := HQ.out
      go_wp2_with fail
      refine (HO0.out _).mono ?_
      rintro e w2 ⟨rfl, rfl⟩
      go_wp2
      go_roundw
      case rel => exact ⟨1, k0, by omega, by go_num, by simp, by simp, by omega, Lib.hid rfl⟩
      case measure => simp [intOf]
    · by_cases hkb : k = 1
      · subst hkb
        obtain rfl : q = k0 := HQ.out
        go_wp2_with fail
        refine (HO1.out _).mono ?_
        rintro e w2 ⟨rfl, rfl⟩
        go_wp2
        go_roundw
        case rel => exact ⟨2, q + k1, by omega, by go_num, by simp, by simp, by omega, Lib.hid rfl⟩
        case measure => simp [intOf]
      · obtain rfl : k = 2 := by omega
        have hqe : q = k0 + k1 := HQ.out
        have HQE := Lib.hid hqe
        clear hqe
        go_wp2
        go_ret
        refine ⟨?_, HB1.out⟩
        rw [← HE.out, ← HQE.out]
        rfl
end Go.Proofs.YtgljmcddakeoiaaDoor
