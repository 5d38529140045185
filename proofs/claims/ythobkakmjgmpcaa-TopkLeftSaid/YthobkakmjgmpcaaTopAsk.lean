/-
  isK, tooMany, New, slices.Equal and Same, slices.IsSortedFunc, Check, Last.
-/
import Derived.Test.YthobkakmjgmpcaaTopFirst
namespace Go.Proofs.Ythobkakmjgmpcaa
open Go.RowKit Go.Shelf
set_option linter.unusedVariables false
set_option linter.unusedSimpArgs false
set_option maxRecDepth 100000

def isKM (k : Int) : Bool := decide (1 ≤ k) && decide (k ≤ 16)
theorem isK_any (k : Int) (w : World) : Calls Try.prog 25 #[.int .i64 k] w fun e w' => e = .returned (.bool (isKM k)) ∧ w = w' := by
  have HM := Lib.hid (show isKM k = (decide (1 ≤ k) && decide (k ≤ 16)) from rfl)
  generalize isKM k = R at *
  cases h1 : decide (1 ≤ k) with
  | false =>
    have HF := Lib.hid (show R = false by rw [HM.out, h1]; rfl)
    go_enter Try.func25, Try.ntmps25
    go_wp2
    go_ret
    rw [HF.out]
    exact ⟨rfl, rfl⟩
  | true =>
    cases h2 : decide (k ≤ 16) with
    | false =>
      have HF := Lib.hid (show R = false by rw [HM.out, h1, h2]; rfl)
      go_enter Try.func25, Try.ntmps25
      go_wp2
      go_ret
      rw [HF.out]
      exact ⟨by first | rfl | simp_all, rfl⟩
    | true =>
      have HF := Lib.hid (show R = true by rw [HM.out, h1, h2]; rfl)
      go_enter Try.func25, Try.ntmps25
      go_wp2
      go_ret
      rw [HF.out]
      exact ⟨by first | rfl | simp_all, rfl⟩
theorem isK_iff (k : Int) : isKM k = true ↔ 1 ≤ k ∧ k ≤ 16 := by unfold isKM; simp

theorem new_any (k : Int) (w : World) : Calls Try.prog 22 #[.int .i64 k] w fun e w' => e = .returned (.tuple #[.agg #[.int .i64 (if isKM k then k else 0), .slice none 0 0], .int .i64 (if isKM k then 0 else 2)]) ∧ Below w.heap.size w w' := by
  have HI := Lib.hid (fun V => isK_any k V)
  cases hk : isKM k with
  | false =>
    rw [hk] at HI
    go_enter Try.func22, Try.ntmps22
    go_wp2_with (go_at_call 25; refine (HI.out _).mono ?_; rintro e w' ⟨rfl, rfl⟩)
    exact bodyPost_ret (v := .tuple #[.agg #[.int .i64 0, .slice none 0 0], .int .i64 2]) (by simp [results, Try.results22, go_sem]) rfl ⟨rfl, (Below.refl _ w).alloc (Nat.le_refl _) _⟩
  | true =>
    rw [hk] at HI
    go_enter Try.func22, Try.ntmps22
    go_wp2_with (go_at_call 25; refine (HI.out _).mono ?_; rintro e w' ⟨rfl, rfl⟩)
    exact bodyPost_ret (v := .tuple #[.agg #[.int .i64 k, .slice none 0 0], .int .i64 0]) (by simp [results, Try.results22, go_sem]) rfl ⟨rfl, (Below.refl _ w).alloc (Nat.le_refl _) _⟩

/-! ### the same hits -/
theorem htake_snoc {a b : List HitM} {k : Nat} {x y : HitM} (h : a.take k = b.take k) (hx : a[k]? = some x) (hy : b[k]? = some y) (e : x = y) : a.take (k + 1) = b.take (k + 1) := by
  rw [List.take_add_one, List.take_add_one, h, hx, hy, e]
theorem hgetD_some {a : List HitM} {k : Nat} (h : k < a.length) : a[k]? = some (a.getD k z2) := by
  rw [List.getElem?_eq_getElem h]; simp [List.getD, List.getElem?_eq_getElem h]

set_option maxHeartbeats 1000000 in
theorem equal_any (A A' : Option Addr) (c c' : Nat) (a b : List HitM) (w : World) (ha : Hits w A c a) (hb : Hits w A' c' b) :
    Calls Try.prog 30 #[.slice A a.length c, .slice A' b.length c'] w fun e w' => e = .returned (.bool (decide (a = b))) ∧ Below w.heap.size w w' := by
  by_cases hl : b.length = a.length
  · obtain ⟨R, hR⟩ : ∃ R, R = decide (a = b) := ⟨_, rfl⟩
    rw [hl, ← hR]
    obtain ⟨m, hm⟩ : ∃ m, m = a.length := ⟨_, rfl⟩
    have hmx : m ≤ 9223372036854775807 := by rw [hm]; exact Nat.le_trans ha.room ha.most
    rw [← hm]
    have HA := Lib.hid ha
    have HB := Lib.hid hb
    have HM := Lib.hid hm
    have HL := Lib.hid hl
    have HR := Lib.hid hR
    clear ha hb hm hl hR
    go_enter Try.func30, Try.ntmps30
    go_wp2
    go_loopw [5, 13] (fun _ i wr => ∃ k q : Nat, k ≤ m ∧ i = .int .i64 k ∧ wr = w.drewN q ∧ Hid (a.take k = b.take k)) (fun _ i _ => m - (intOf i).toNat)
    case atStart => exact ⟨0, 0, Nat.zero_le _, rfl, rfl, Lib.hid rfl⟩
    case round =>
      obtain ⟨k, q, hk, rfl, rfl, HK⟩ := hrel
      by_cases hkm : k < m
      · obtain ⟨g1, o1, rfl, _, hc1, hc2⟩ := HA.out.at_ (j := k) (by rw [← HM.out]; exact hkm)
        obtain ⟨g2, o2, rfl, _, hc3, hc4⟩ := HB.out.at_ (j := k) (by rw [HL.out, ← HM.out]; exact hkm)
        have hx := hgetD_some (a := a) (k := k) (by rw [← HM.out]; exact hkm)
        have hy := hgetD_some (a := b) (k := k) (by rw [HL.out, ← HM.out]; exact hkm)
        have k0 : (0 : Int) ≤ k := by omega
        have km : (k : Int) < m := by omega
        generalize a.getD k z2 = x at *
        generalize b.getD k z2 = y at *
        by_cases hxy : x = y
        · have HS := Lib.hid (htake_snoc HK.out hx hy hxy)
          subst hxy
          obtain ⟨x1, x2⟩ := x
          dsimp only at *
          clear hx hy
          go_wp2
          go_quiet (fail)
          go_wp2
          go_roundw
          case rel => exact ⟨k + 1, q + nq, by omega, by go_num, by simp [World.drewN], HS⟩
          case measure => simp [intOf]; omega
        · have HF := Lib.hid (show R = false by rw [HR.out]; exact decide_eq_false (fun e => by subst e; rw [hx] at hy; cases hy; exact hxy rfl))
          obtain ⟨x1, x2⟩ := x
          obtain ⟨y1, y2⟩ := y
          dsimp only at *
          have hne : ¬ (x1 = y1 ∧ x2 = y2) := fun e => hxy (by rw [e.1, e.2])
          clear hx hy hxy
          by_cases h1 : x1 = y1
          · subst h1
            have u1 : (x2 == y2) = false := by simp at hne; simpa using hne
            clear hne
            go_wp2
            go_quiet (fail)
            go_wp2
            go_ret
            rw [HF.out]
            exact ⟨rfl, below_drewN (below_drewN (Below.refl _ _) _) _⟩
          · have u1 : (x1 == y1) = false := by simpa using h1
            clear hne h1
            go_wp2
            go_quiet (fail)
            go_wp2
            go_ret
            rw [HF.out]
            exact ⟨rfl, below_drewN (below_drewN (Below.refl _ _) _) _⟩
      · obtain rfl : k = m := by omega
        have HT := Lib.hid (show R = true by
          rw [HR.out]
          refine decide_eq_true ?_
          have := HK.out
          rw [HM.out, List.take_length, ← HL.out, List.take_length] at this
          exact this)
        go_wp2
        go_ret
        rw [HT.out]
        exact ⟨rfl, below_drewN (Below.refl _ _) _⟩
  · have HT := Lib.hid (show decide (a = b) = false from decide_eq_false (fun e => hl (by rw [e])))
    generalize decide (a = b) = R at *
    generalize a.length = n at *
    generalize b.length = m at *
    have t2 : ((n : Int) != (m : Int)) = true := by simp; omega
    have t3 : ((n : Int) == (m : Int)) = false := by simp; omega
    have t4 : (n == m) = false := by simp; omega
    clear hl ha hb
    go_enter Try.func30, Try.ntmps30
    go_wp2
    go_ret
    rw [HT.out]
    exact ⟨rfl, Below.refl _ _⟩

end Go.Proofs.Ythobkakmjgmpcaa
