/-
  What Int of package quiverref01 answers of a scan that goes by value.
-/
import Derived.Test.YtnpmdbcijaanjaaRefScan
namespace Go.Proofs.Ytnpmdbcijaanjaa
open Go.RowKit
set_option linter.unusedVariables false

/-- What Int makes of Num's number. -/
def intOfNum (n X : Int) : Int := if sizeB n = true ∧ n < 8 ∧ 256 ^ n.toNat / 2 ≤ X then X - 256 ^ n.toNat else sgn X

theorem two56 (m : Nat) (h : m ≤ 7) : (1 : Int) ≤ 256 ^ m ∧ (256 : Int) ^ m ≤ 72057594037927936 := by
  have h1 := two_pos (8 * m)
  have h2 := two_le (8 * m) 56 (by omega)
  rw [pow_256]
  have h3 : (2 : Int) ^ 56 = 72057594037927936 := by decide
  omega

theorem wrap64_small (x : Int) (h0 : -9223372036854775808 ≤ x) (h1 : x ≤ 9223372036854775807) : wrap64 x = x := IntWalk.wrap64_in x ⟨h0, h1⟩

set_option maxHeartbeats 2000000 in
set_option maxRecDepth 100000 in
theorem rInt_of (A : Option Addr) (l c : Nat) (p p' n X : Int) (bd bd' : Bool) (w : World) (hX0 : 0 ≤ X) (hX1 : X < 18446744073709551616) (hX2 : n < 8 → X < 72057594037927936)
    (hN : ∀ W, Below w.heap.size w W → Calls Try.prog 21 #[scanV A l c p bd, .int .i64 n] W (RTells W A l c p' bd' (.int .u64 X))) :
    Calls Try.prog 23 #[scanV A l c p bd, .int .i64 n] w (RTells w A l c p' bd' (.int .i64 (intOfNum n X))) := by
  have HC := Lib.hid hN
  have HX2 := Lib.hid hX2
  clear hN hX2
  have hxw := sgn_wrap X hX0 hX1
  obtain ⟨S, eS⟩ : ∃ S, S = sgn X := ⟨_, rfl⟩
  rw [← eS] at hxw
  have ES := Lib.hid eS
  have XW := Lib.hid hxw
  clear eS hxw
  have hb0 : Below w.heap.size w ((w.alloc (.cells #[.slice A l c, .int .i64 p, .bool bd] 35)).alloc (.cells #[.slice none 0 0, .int .i64 0, .bool false] 35)) := ((Below.refl _ w).alloc (Nat.le_refl _) _).alloc (by simp) _
  have hB1 : ((w.alloc (.cells #[.slice A l c, .int .i64 p, .bool bd] 35)).alloc (.cells #[.slice none 0 0, .int .i64 0, .bool false] 35)).heap[w.heap.size + 1]? = some (.cells #[.slice none 0 0, .int .i64 0, .bool false] 35 (0, 0)) := by
    have := heap_alloc_new (w.alloc (.cells #[.slice A l c, .int .i64 p, .bool bd] 35)) (.cells #[.slice none 0 0, .int .i64 0, .bool false] 35)
    simpa using this
  have HB0 := Lib.hid hb0
  have HR := Lib.hid hB1
  clear hb0 hB1
  go_enter Try.func23, Try.ntmps23
  go_wp2_with fail
  refine (HC.out _ HB0.out).mono ?_
  rintro e w1 ⟨rfl, hb1⟩
  have hr1 := (hb1.block (w.heap.size + 1) (lt_of_block HR.out)).trans HR.out
  have HB1 := HB0.out.trans (hb1.mono HB0.out.size)
  have hz1 : w.heap.size + 1 < w1.heap.size := lt_of_block hr1
  have hbW : Below w.heap.size w (w1.alloc (.cells #[.slice A l c, .int .i64 p', .bool bd'] 35)) := HB1.alloc (by omega) _
  have hblk := heap_alloc_new w1 (.cells #[.slice A l c, .int .i64 p', .bool bd'] 35)
  have hblk1 := (Below.heap_alloc w1 (.cells #[.slice A l c, .int .i64 p', .bool bd'] 35) _ hz1).trans hr1
  have HBW := Lib.hid hbW
  have HK := Lib.hid hblk
  have HK1 := Lib.hid hblk1
  clear hr1 hb1 HB1 HR HB0 HC hbW hblk hblk1
  have hfin : ∀ W : World, Below w.heap.size w W → W.heap[w.heap.size + 1]? = some (.cells #[.slice none 0 0, .int .i64 0, .bool false] 35 (0, 0)) →
      Below w.heap.size w (((W.setCell ⟨w.heap.size + 1, 0, none⟩ (.slice A l c)).setCell ⟨w.heap.size + 1, 1, none⟩ (.int .i64 p')).setCell ⟨w.heap.size + 1, 2, none⟩ (.bool bd')) ∧
      (((W.setCell ⟨w.heap.size + 1, 0, none⟩ (.slice A l c)).setCell ⟨w.heap.size + 1, 1, none⟩ (.int .i64 p')).setCell ⟨w.heap.size + 1, 2, none⟩ (.bool bd')).heap[w.heap.size + 1]? = some (.cells #[.slice A l c, .int .i64 p', .bool bd'] 35 (0, 0)) := by
    intro W hW hk
    exact ⟨((hW.setCell (p := ⟨w.heap.size + 1, 0, none⟩) (by simp) (.slice A l c)).setCell (p := ⟨w.heap.size + 1, 1, none⟩) (by simp) (.int .i64 p')).setCell (p := ⟨w.heap.size + 1, 2, none⟩) (by simp) (.bool bd'), by simp [World.setCell, Array.getElem?_modify, hk]⟩
  have HF := Lib.hid hfin
  clear hfin
  by_cases hsz : sizeB n = true ∧ n < 8
  · obtain ⟨hs, hn8⟩ := hsz
    obtain ⟨m, rfl⟩ := Int.eq_ofNat_of_zero_le (show 0 ≤ n by have := size_yes hs; omega)
    have h1 : 1 ≤ m := by have := size_yes hs; omega
    have h7 : m ≤ 7 := by omega
    have hX3 := HX2.out hn8
    have hs' := Lib.hid hs
    clear hs
    have hd0 : (0 : Int) ≤ X / 256 := by omega
    go_wp2_with (go_at_call 36; refine (rSize_yes hs'.out _).mono ?_; rintro e w' ⟨rfl, rfl⟩)
    go_loop [8, 9] (fun x i => ∃ k : Nat, ∃ V : Int, k ≤ m ∧ i = .int .i64 k ∧ x = .int .u64 V ∧ 1 ≤ V ∧ V ≤ 72057594037927936 ∧ Hid (V = 256 ^ k)) (fun _ i => m - (intOf i).toNat)
    case atStart => exact ⟨0, 1, Nat.zero_le _, rfl, rfl, by omega, by omega, by unfold Hid; simp⟩
    case round =>
      obtain ⟨k, V, hk, rfl, rfl, hV0, hV1, HV⟩ := hrel
      by_cases hlt : k < m
      · have hb := two56 (k + 1) (by omega)
        rw [Int.pow_succ, ← HV.out, Int.mul_comm] at hb
        obtain ⟨hb0, hb1⟩ := hb
        go_wp2
        go_round
        case rel => exact ⟨k + 1, 256 * V, by omega, by go_num, rfl, by omega, by omega, by unfold Hid; rw [HV.out, Int.pow_succ, Int.mul_comm]⟩
        case measure => simp [intOf]; omega
      · obtain rfl : k = m := by omega
        have hV := HV.out
        have t0 : (w1.alloc (.cells #[.slice A l c, .int .i64 p', .bool bd'] 35)).cell? ⟨w1.heap.size, 0, none⟩ = some (.slice A l c) := cell_new _ _ _ _
        have HE : Hid (intOfNum k X = if V / 2 ≤ X then X - V else X) := by
          unfold Hid intOfNum
          rw [show ((k : Int)).toNat = k by omega, ← hV]
          by_cases hc : V / 2 ≤ X
          · rw [if_pos ⟨hs'.out, by omega, hc⟩, if_pos hc]
          · rw [if_neg (fun h => hc h.2.2), if_neg hc]
            unfold sgn
            rw [if_pos (by omega)]
        clear hV t0
        have r0 : (w1.alloc (.cells #[.slice A l c, .int .i64 p', .bool bd'] 35)).cell? ⟨w.heap.size + 1, 0, none⟩ = some (.slice none 0 0) := by have := HK1.out; simp only [World.cell?, this]; rfl
        have r1 : (w1.alloc (.cells #[.slice A l c, .int .i64 p', .bool bd'] 35)).cell? ⟨w.heap.size + 1, 1, none⟩ = some (.int .i64 0) := by have := HK1.out; simp only [World.cell?, this]; rfl
        have r2 : (w1.alloc (.cells #[.slice A l c, .int .i64 p', .bool bd'] 35)).cell? ⟨w.heap.size + 1, 2, none⟩ = some (.bool false) := by have := HK1.out; simp only [World.cell?, this]; rfl
        have t0 : (w1.alloc (.cells #[.slice A l c, .int .i64 p', .bool bd'] 35)).cell? ⟨w1.heap.size, 0, none⟩ = some (.slice A l c) := cell_new _ _ _ _
        have t1 : (w1.alloc (.cells #[.slice A l c, .int .i64 p', .bool bd'] 35)).cell? ⟨w1.heap.size, 1, none⟩ = some (.int .i64 p') := cell_new _ _ _ _
        have t2 : (w1.alloc (.cells #[.slice A l c, .int .i64 p', .bool bd'] 35)).cell? ⟨w1.heap.size, 2, none⟩ = some (.bool bd') := cell_new _ _ _ _
        have f0 : (w1.alloc (.cells #[.slice A l c, .int .i64 p', .bool bd'] 35)).frozen? ⟨w.heap.size + 1, 0, none⟩ = false := by have := HK1.out; simp only [World.frozen?, this]; rfl
        have f1 : (w1.alloc (.cells #[.slice A l c, .int .i64 p', .bool bd'] 35)).frozen? ⟨w.heap.size + 1, 1, none⟩ = false := by have := HK1.out; simp only [World.frozen?, this]; rfl
        have f2 : (w1.alloc (.cells #[.slice A l c, .int .i64 p', .bool bd'] 35)).frozen? ⟨w.heap.size + 1, 2, none⟩ = false := by have := HK1.out; simp only [World.frozen?, this]; rfl
        obtain ⟨hbe, hfb⟩ := HF.out _ HBW.out HK1.out
        have HBE := Lib.hid hbe
        have HFB := Lib.hid hfb
        clear hbe hfb
        generalize w1.alloc (.cells #[.slice A l c, .int .i64 p', .bool bd'] 35) = W at *
        by_cases hc : V / 2 ≤ X
        · have he := HE.out
          rw [if_pos hc] at he
          have HE2 := Lib.hid he
          clear he
          go_wp2
          have hfb := HFB.out
          have hbe := HBE.out
          generalize ((W.setCell ⟨w.heap.size + 1, 0, none⟩ (.slice A l c)).setCell ⟨w.heap.size + 1, 1, none⟩ (.int .i64 p')).setCell ⟨w.heap.size + 1, 2, none⟩ (.bool bd') = W2 at *
          have q0 : W2.cell? ⟨w.heap.size + 1, 0, none⟩ = some (.slice A l c) := by simp [World.cell?, hfb]
          have q1 : W2.cell? ⟨w.heap.size + 1, 1, none⟩ = some (.int .i64 p') := by simp [World.cell?, hfb]
          have q2 : W2.cell? ⟨w.heap.size + 1, 2, none⟩ = some (.bool bd') := by simp [World.cell?, hfb]
          rw [HE2.out]
          exact bodyPost_ret (v := .tuple #[scanV A l c p' bd', .int .i64 (X - V)]) (by simp [results, Try.results23, go_sem, q0, q1, q2]) rfl ⟨rfl, hbe⟩
        · have he := HE.out
          rw [if_neg hc] at he
          have HE2 := Lib.hid he
          clear he
          go_wp2
          have hfb := HFB.out
          have hbe := HBE.out
          generalize ((W.setCell ⟨w.heap.size + 1, 0, none⟩ (.slice A l c)).setCell ⟨w.heap.size + 1, 1, none⟩ (.int .i64 p')).setCell ⟨w.heap.size + 1, 2, none⟩ (.bool bd') = W2 at *
          have q0 : W2.cell? ⟨w.heap.size + 1, 0, none⟩ = some (.slice A l c) := by simp [World.cell?, hfb]
          have q1 : W2.cell? ⟨w.heap.size + 1, 1, none⟩ = some (.int .i64 p') := by simp [World.cell?, hfb]
          have q2 : W2.cell? ⟨w.heap.size + 1, 2, none⟩ = some (.bool bd') := by simp [World.cell?, hfb]
          rw [HE2.out]
          exact bodyPost_ret (v := .tuple #[scanV A l c p' bd', .int .i64 X]) (by simp [results, Try.results23, go_sem, q0, q1, q2]) rfl ⟨rfl, hbe⟩
  · have HE : Hid (intOfNum n X = S) := by
      unfold Hid intOfNum
      rw [if_neg (fun h => hsz ⟨h.1, h.2.1⟩), ES.out]
    have xw := XW.out
    have r0 : (w1.alloc (.cells #[.slice A l c, .int .i64 p', .bool bd'] 35)).cell? ⟨w.heap.size + 1, 0, none⟩ = some (.slice none 0 0) := by have := HK1.out; simp only [World.cell?, this]; rfl
    have r1 : (w1.alloc (.cells #[.slice A l c, .int .i64 p', .bool bd'] 35)).cell? ⟨w.heap.size + 1, 1, none⟩ = some (.int .i64 0) := by have := HK1.out; simp only [World.cell?, this]; rfl
    have r2 : (w1.alloc (.cells #[.slice A l c, .int .i64 p', .bool bd'] 35)).cell? ⟨w.heap.size + 1, 2, none⟩ = some (.bool false) := by have := HK1.out; simp only [World.cell?, this]; rfl
    have t0 : (w1.alloc (.cells #[.slice A l c, .int .i64 p', .bool bd'] 35)).cell? ⟨w1.heap.size, 0, none⟩ = some (.slice A l c) := cell_new _ _ _ _
    have t1 : (w1.alloc (.cells #[.slice A l c, .int .i64 p', .bool bd'] 35)).cell? ⟨w1.heap.size, 1, none⟩ = some (.int .i64 p') := cell_new _ _ _ _
    have t2 : (w1.alloc (.cells #[.slice A l c, .int .i64 p', .bool bd'] 35)).cell? ⟨w1.heap.size, 2, none⟩ = some (.bool bd') := cell_new _ _ _ _
    have f0 : (w1.alloc (.cells #[.slice A l c, .int .i64 p', .bool bd'] 35)).frozen? ⟨w.heap.size + 1, 0, none⟩ = false := by have := HK1.out; simp only [World.frozen?, this]; rfl
    have f1 : (w1.alloc (.cells #[.slice A l c, .int .i64 p', .bool bd'] 35)).frozen? ⟨w.heap.size + 1, 1, none⟩ = false := by have := HK1.out; simp only [World.frozen?, this]; rfl
    have f2 : (w1.alloc (.cells #[.slice A l c, .int .i64 p', .bool bd'] 35)).frozen? ⟨w.heap.size + 1, 2, none⟩ = false := by have := HK1.out; simp only [World.frozen?, this]; rfl
    obtain ⟨hbe, hfb⟩ := HF.out _ HBW.out HK1.out
    have HBE := Lib.hid hbe
    have HFB := Lib.hid hfb
    clear hbe hfb
    go_wp2_with fail
    generalize w1.alloc (.cells #[.slice A l c, .int .i64 p', .bool bd'] 35) = W at *
    rcases hs : sizeB n with _ | _
    · have hs' := Lib.hid hs
      clear hs hsz
      refine (rSize_no hs'.out _).mono ?_
      rintro e w' ⟨rfl, rfl⟩
      go_wp2
      have hfb := HFB.out
      have hbe := HBE.out
      generalize ((W.setCell ⟨w.heap.size + 1, 0, none⟩ (.slice A l c)).setCell ⟨w.heap.size + 1, 1, none⟩ (.int .i64 p')).setCell ⟨w.heap.size + 1, 2, none⟩ (.bool bd') = W2 at *
      have q0 : W2.cell? ⟨w.heap.size + 1, 0, none⟩ = some (.slice A l c) := by simp [World.cell?, hfb]
      have q1 : W2.cell? ⟨w.heap.size + 1, 1, none⟩ = some (.int .i64 p') := by simp [World.cell?, hfb]
      have q2 : W2.cell? ⟨w.heap.size + 1, 2, none⟩ = some (.bool bd') := by simp [World.cell?, hfb]
      rw [HE.out]
      exact bodyPost_ret (v := .tuple #[scanV A l c p' bd', .int .i64 S]) (by simp [results, Try.results23, go_sem, q0, q1, q2, xw]) rfl ⟨rfl, hbe⟩
    · have hs' := Lib.hid hs
      have h8 : decide (n < 8) = false := by
        simp
        exact Int.not_lt.1 (fun h => hsz ⟨hs, h⟩)
      clear hs hsz
      refine (rSize_yes hs'.out _).mono ?_
      rintro e w' ⟨rfl, rfl⟩
      go_wp2
      have hfb := HFB.out
      have hbe := HBE.out
      generalize ((W.setCell ⟨w.heap.size + 1, 0, none⟩ (.slice A l c)).setCell ⟨w.heap.size + 1, 1, none⟩ (.int .i64 p')).setCell ⟨w.heap.size + 1, 2, none⟩ (.bool bd') = W2 at *
      have q0 : W2.cell? ⟨w.heap.size + 1, 0, none⟩ = some (.slice A l c) := by simp [World.cell?, hfb]
      have q1 : W2.cell? ⟨w.heap.size + 1, 1, none⟩ = some (.int .i64 p') := by simp [World.cell?, hfb]
      have q2 : W2.cell? ⟨w.heap.size + 1, 2, none⟩ = some (.bool bd') := by simp [World.cell?, hfb]
      rw [HE.out]
      exact bodyPost_ret (v := .tuple #[scanV A l c p' bd', .int .i64 S]) (by simp [results, Try.results23, go_sem, q0, q1, q2, xw]) rfl ⟨rfl, hbe⟩

end Go.Proofs.Ytnpmdbcijaanjaa
