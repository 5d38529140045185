/-
  The document's answers for layer 6: Same, Ahead, Right.
-/
import Derived.Test.YthobkakmjgmpcaaTopWakes
namespace Go.Proofs.Ythobkakmjgmpcaa
open Go.RowKit Go.Shelf
set_option linter.unusedVariables false
set_option linter.unusedSimpArgs false
set_option maxRecDepth 100000

set_option maxHeartbeats 1000000 in
theorem rSame_any (A A' : Option Addr) (c c' : Nat) (a b : List HitM) (w : World) (ha : Hits w A c a) (hb : Hits w A' c' b) :
    Calls Try.prog 14 #[.slice A a.length c, .slice A' b.length c'] w fun e w' => e = .returned (.bool (decide (a = b))) ∧ Below w.heap.size w w' := by
  by_cases hl : b.length = a.length
  · obtain ⟨R, hR⟩ : ∃ R, R = decide (a = b) := ⟨_, rfl⟩
    rw [hl, ← hR]
    obtain ⟨m, hm⟩ : ∃ m, m = a.length := ⟨_, rfl⟩
    have hmx : m ≤ 9223372036854775807 := by rw [hm]; exact Nat.le_trans ha.room ha.most
    rw [← hm]
    have HA := Lib.hid ha
    have HB := Lib.hid hb
    have HM := Lib.hid hm
    have HL := Lib.hid hl
    have HR := Lib.hid hR
    clear ha hb hm hl hR
    go_enter Try.func14, Try.ntmps14
    go_wp2
    go_loopw [5, 13] (fun _ i wr => ∃ k q : Nat, k ≤ m ∧ i = .int .i64 k ∧ wr = w.drewN q ∧ Hid (a.take k = b.take k)) (fun _ i _ => m - (intOf i).toNat)
    case atStart => exact ⟨0, 0, Nat.zero_le _, rfl, rfl, Lib.hid rfl⟩
    case round =>
      obtain ⟨k, q, hk, rfl, rfl, HK⟩ := hrel
      by_cases hkm : k < m
      · obtain ⟨g1, o1, rfl, _, hc1, hc2⟩ := HA.out.at_ (j := k) (by rw [← HM.out]; exact hkm)
        obtain ⟨g2, o2, rfl, _, hc3, hc4⟩ := HB.out.at_ (j := k) (by rw [HL.out, ← HM.out]; exact hkm)
        have hx := hgetD_some (a := a) (k := k) (by rw [← HM.out]; exact hkm)
        have hy := hgetD_some (a := b) (k := k) (by rw [HL.out, ← HM.out]; exact hkm)
        have k0 : (0 : Int) ≤ k := by omega
        have km : (k : Int) < m := by omega
        generalize a.getD k z2 = x at *
        generalize b.getD k z2 = y at *
        by_cases hxy : x = y
        · have HS := Lib.hid (htake_snoc HK.out hx hy hxy)
          subst hxy
          obtain ⟨x1, x2⟩ := x
          dsimp only at *
          clear hx hy
          go_wp2
          go_quiet (fail)
          go_wp2
          go_roundw
          case rel => exact ⟨k + 1, q + nq, by omega, by go_num, by simp [World.drewN], HS⟩
          case measure => simp [intOf]; omega
        · have HF := Lib.hid (show R = false by rw [HR.out]; exact decide_eq_false (fun e => by subst e; rw [hx] at hy; cases hy; exact hxy rfl))
          obtain ⟨x1, x2⟩ := x
          obtain ⟨y1, y2⟩ := y
          dsimp only at *
          have hne : ¬ (x1 = y1 ∧ x2 = y2) := fun e => hxy (by rw [e.1, e.2])
          clear hx hy hxy
          by_cases h1 : x1 = y1
          · subst h1
            have u1 : (x2 == y2) = false := by simp at hne; simpa using hne
            clear hne
            go_wp2
            go_quiet (fail)
            go_wp2
            go_ret
            rw [HF.out]
            exact ⟨rfl, below_drewN (below_drewN (Below.refl _ _) _) _⟩
          · have u1 : (x1 == y1) = false := by simpa using h1
            clear hne h1
            go_wp2
            go_quiet (fail)
            go_wp2
            go_ret
            rw [HF.out]
            exact ⟨rfl, below_drewN (below_drewN (Below.refl _ _) _) _⟩
      · obtain rfl : k = m := by omega
        have HT := Lib.hid (show R = true by
          rw [HR.out]
          refine decide_eq_true ?_
          have := HK.out
          rw [HM.out, List.take_length, ← HL.out, List.take_length] at this
          exact this)
        go_wp2
        go_ret
        rw [HT.out]
        exact ⟨rfl, below_drewN (Below.refl _ _) _⟩
  · have HT := Lib.hid (show decide (a = b) = false from decide_eq_false (fun e => hl (by rw [e])))
    generalize decide (a = b) = R at *
    generalize a.length = n at *
    generalize b.length = m at *
    have t2 : ((n : Int) != (m : Int)) = true := by simp; omega
    have t3 : ((n : Int) == (m : Int)) = false := by simp; omega
    have t4 : (n == m) = false := by simp; omega
    clear hl ha hb
    go_enter Try.func14, Try.ntmps14
    go_wp2
    go_ret
    rw [HT.out]
    exact ⟨rfl, Below.refl _ _⟩

set_option maxHeartbeats 400000 in
theorem rAhead_any (a b : HitM) (w : World) : Calls Try.prog 28 #[.agg #[.int .u64 a.1, .int .u64 a.2], .agg #[.int .u64 b.1, .int .u64 b.2]] w fun e w' => e = .returned (.bool (ahead a b)) ∧ Below w.heap.size w w' := by
  obtain ⟨i, d⟩ := a
  obtain ⟨i', d'⟩ := b
  dsimp only
  have hb : Below w.heap.size w ((w.alloc (.cells #[.int .u64 i, .int .u64 d] 32)).alloc (.cells #[.int .u64 i', .int .u64 d'] 32)) := ((Below.refl _ w).alloc (Nat.le_refl _) _).alloc (by simp) _
  have HB := Lib.hid hb
  clear hb
  by_cases h1 : d < d'
  · have HF := Lib.hid (show ahead (i, d) (i', d') = true by unfold ahead; simp [h1])
    generalize ahead (i, d) (i', d') = R at *
    go_enter Try.func28, Try.ntmps28
    go_wp2
    go_ret
    rw [HF.out]
    exact ⟨rfl, HB.out⟩
  · by_cases h2 : d = d'
    · subst h2
      by_cases h3 : i < i'
      · have HF := Lib.hid (show ahead (i, d) (i', d) = true by unfold ahead; simp [h3])
        generalize ahead (i, d) (i', d) = R at *
        have t1 : (d == d) = true := by simp
        go_enter Try.func28, Try.ntmps28
        go_wp2
        go_ret
        rw [HF.out]
        exact ⟨rfl, HB.out⟩
      · have HF := Lib.hid (show ahead (i, d) (i', d) = false by unfold ahead; simp [h3])
        generalize ahead (i, d) (i', d) = R at *
        have t1 : (d == d) = true := by simp
        go_enter Try.func28, Try.ntmps28
        go_wp2
        go_ret
        rw [HF.out]
        exact ⟨rfl, HB.out⟩
    · have HF := Lib.hid (show ahead (i, d) (i', d') = false by unfold ahead; simp [h1, h2])
      generalize ahead (i, d) (i', d') = R at *
      have t1 : (d == d') = false := by simpa using h2
      go_enter Try.func28, Try.ntmps28
      go_wp2
      go_ret
      rw [HF.out]
      exact ⟨rfl, HB.out⟩

/-! ### where one is put -/
theorem ins_at {h : HitM} {s : List HitM} {j : Nat} (hj : j ≤ s.length) (h1 : ∀ i, i < j → ahead h (s.getD i z2) = false) (h2 : j < s.length → ahead h (s.getD j z2) = true) : ins h s = s.take j ++ h :: s.drop j := by
  induction s generalizing j with
  | nil =>
    obtain rfl : j = 0 := by simpa using hj
    rfl
  | cons x s ih =>
    unfold ins
    cases j with
    | zero =>
      have := h2 (by simp)
      have e : (x :: s).getD 0 z2 = x := rfl
      rw [e] at this
      rw [if_pos this]
      rfl
    | succ j =>
      have h0 := h1 0 (by omega)
      have e : (x :: s).getD 0 z2 = x := rfl
      rw [e] at h0
      rw [if_neg (by rw [h0]; simp), List.take_succ_cons, List.drop_succ_cons, List.cons_append]
      congr 1
      refine ih (by simpa using hj) (fun i hi => ?_) (fun hlt => ?_)
      · have := h1 (i + 1) (by omega)
        simpa [List.getD] using this
      · have := h2 (by simpa using hlt)
        simpa [List.getD] using this
theorem put_length (s : List HitM) (h : HitM) (j : Nat) (hj : j ≤ s.length) : (s.take j ++ h :: s.drop j).length = s.length + 1 := by
  simp; omega
theorem put_swap (s : List HitM) (h : HitM) (j : Nat) (hj : j + 1 ≤ s.length) : swp (s.take (j + 1) ++ h :: s.drop (j + 1)) (j + 1) j = s.take j ++ h :: s.drop j := by
  have hx : s[j]? = some (s.getD j z2) := hgetD_some (by omega)
  have e1 : s.take (j + 1) = s.take j ++ [s.getD j z2] := by rw [List.take_add_one, hx]; rfl
  have e2 : s.drop j = s.getD j z2 :: s.drop (j + 1) := by
    rw [List.drop_eq_getElem_cons (by omega)]
    congr 1
    simp [List.getD, show j < s.length by omega]
  have lt : (s.take j).length = j := by simp; omega
  generalize s.getD j z2 = y at *
  rw [e1, e2]
  generalize s.take j = a at *
  generalize s.drop (j + 1) = b at *
  subst lt
  unfold swp
  have g1 : (a ++ [y] ++ h :: b).getD a.length z2 = y := by simp [List.getD]
  have g2 : (a ++ [y] ++ h :: b).getD (a.length + 1) z2 = h := by simp [List.getD, List.getElem?_append]
  rw [g1, g2, List.append_assoc, List.set_append_right _ _ (by omega), List.set_append_right _ _ (by omega)]
  simp

end Go.Proofs.Ythobkakmjgmpcaa
