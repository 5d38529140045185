/-
  The document's answers for layer 5, walked.
-/
import Derived.Test.YtpdebkpblpipcaaVecAsk
import Derived.OwnWalk
namespace Go.Proofs.Ytpdebkpblpipcaa
open Go.RowKit Go.Shelf
set_option linter.unusedVariables false
set_option maxRecDepth 100000

theorem take_eq_snoc {a b : List Int} {k : Nat} {x y : Int} (h : a.take k = b.take k) (hx : a[k]? = some x) (hy : b[k]? = some y) (e : x = y) : a.take (k + 1) = b.take (k + 1) := by
  rw [List.take_add_one, List.take_add_one, h, hx, hy, e]
theorem getD_some {a : List Int} {k : Nat} (h : k < a.length) : a[k]? = some (a.getD k 0) := by
  rw [List.getElem?_eq_getElem h]; simp [List.getD, List.getElem?_eq_getElem h]

set_option maxHeartbeats 400000 in
theorem rSame_any (A A' : Option Addr) (c c' : Nat) (a b : List Int) (w : World) (ha : Vec .i32 w A c a) (hb : Vec .i32 w A' c' b) :
    Calls Try.prog 61 #[.slice A a.length c, .slice A' b.length c'] w fun e w' => e = .returned (.bool (decide (a = b))) ∧ Below w.heap.size w w' := by
  by_cases hl : b.length = a.length
  · obtain ⟨R, hR⟩ : ∃ R, R = decide (a = b) := ⟨_, rfl⟩
    rw [hl, ← hR]
    obtain ⟨m, hm⟩ : ∃ m, m = a.length := ⟨_, rfl⟩
    have hmx : m ≤ 9223372036854775807 := by rw [hm]; exact Nat.le_trans ha.room ha.most
    rw [← hm]
    have HA := Lib.hid ha
    have HB := Lib.hid hb
    have HM := Lib.hid hm
    have HL := Lib.hid hl
    have HR := Lib.hid hR
    clear ha hb hm hl hR
    go_enter Try.func61, Try.ntmps61
    go_wp2
    go_loopw [5] (fun i wr => ∃ k q : Nat, k ≤ m ∧ i = .int .i64 k ∧ wr = w.drewN q ∧ Hid (a.take k = b.take k)) (fun i _ => m - (intOf i).toNat)
    case atStart => exact ⟨0, 0, Nat.zero_le _, rfl, rfl, Lib.hid rfl⟩
    case round =>
      obtain ⟨k, q, hk, rfl, rfl, HK⟩ := hrel
      by_cases hkm : k < m
      · obtain ⟨g1, o1, rfl, _, hc1⟩ := HA.out.at_ (j := k) (by rw [← HM.out]; exact hkm)
        obtain ⟨g2, o2, rfl, _, hc2⟩ := HB.out.at_ (j := k) (by rw [HL.out, ← HM.out]; exact hkm)
        have hx := getD_some (a := a) (k := k) (by rw [← HM.out]; exact hkm)
        have hy := getD_some (a := b) (k := k) (by rw [HL.out, ← HM.out]; exact hkm)
        have k0 : (0 : Int) ≤ k := by omega
        have km : (k : Int) < m := by omega
        generalize a.getD k 0 = x at *
        generalize b.getD k 0 = y at *
        by_cases hxy : x = y
        · have HS := Lib.hid (take_eq_snoc HK.out hx hy hxy)
          subst hxy
          clear hx hy
          go_wp2
          go_quiet (fail)
          go_wp2
          go_roundw
          case rel => exact ⟨k + 1, q + nq, by omega, by go_num, by simp [World.drewN], HS⟩
          case measure => simp [intOf]; omega
        · have HF := Lib.hid (show R = false by rw [HR.out]; exact decide_eq_false (fun e => by subst e; rw [hx] at hy; cases hy; exact hxy rfl))
          have t1 : (x != y) = true := by simpa using hxy
          have t2 : (x == y) = false := by simpa using hxy
          clear hx hy
          go_wp2
          go_quiet (fail)
          go_wp2
          go_ret
          rw [HF.out]
          exact ⟨rfl, below_drewN (below_drewN (Below.refl _ _) _) _⟩
      · obtain rfl : k = m := by omega
        have HT := Lib.hid (show R = true by
          rw [HR.out]
          refine decide_eq_true ?_
          have := HK.out
          rw [HM.out, List.take_length, ← HL.out, List.take_length] at this
          exact this)
        go_wp2
        go_ret
        rw [HT.out]
        exact ⟨rfl, below_drewN (Below.refl _ _) _⟩
  · have HT := Lib.hid (show decide (a = b) = false from decide_eq_false (fun e => hl (by rw [e])))
    generalize decide (a = b) = R at *
    generalize a.length = n at *
    generalize b.length = m at *
    have t2 : ((n : Int) != (m : Int)) = true := by simp; omega
    have t3 : ((n : Int) == (m : Int)) = false := by simp; omega
    have t4 : (n == m) = false := by simp; omega
    clear hl ha hb
    go_enter Try.func61, Try.ntmps61
    go_wp2
    go_ret
    rw [HT.out]
    exact ⟨rfl, Below.refl _ _⟩

theorem right_of {xs : List Int} {n : Nat} (hn : n = xs.length) (h : xs.all comp = true) : right xs = (decide (1 ≤ n) && decide (n ≤ 4)) := by
  unfold right; rw [h, ← hn, Bool.and_true]

set_option maxHeartbeats 400000 in
theorem rRight_any (A : Option Addr) (c : Nat) (xs : List Int) (w : World) (h : Vec .i32 w A c xs) :
    Calls Try.prog 62 #[.slice A xs.length c] w fun e w' => e = .returned (.bool (right xs)) ∧ w = w' := by
  obtain ⟨n, hn⟩ : ∃ n, n = xs.length := ⟨_, rfl⟩
  have hmx : n ≤ 9223372036854775807 := by rw [hn]; exact Nat.le_trans h.room h.most
  have HR := Lib.hid (fun (hh : xs.all comp = true) => right_of hn hh)
  have HF := Lib.hid (fun (hh : xs.all comp = false) => show right xs = false by unfold right; rw [hh, Bool.and_false])
  generalize right xs = R at *
  rw [← hn]
  have HV := Lib.hid h
  have HN := Lib.hid hn
  clear h hn
  go_enter Try.func62, Try.ntmps62
  go_wp2
  go_loop [3] (fun i => ∃ k : Nat, k ≤ n ∧ i = .int .i64 k ∧ Hid ((xs.take k).all comp = true)) (fun i => n - (intOf i).toNat)
  case atStart => exact ⟨0, Nat.zero_le _, rfl, Lib.hid (by simp)⟩
  case round =>
    obtain ⟨k, hk, rfl, HK⟩ := hrel
    by_cases hkn : k < n
    · obtain ⟨b, o, rfl, _, c1⟩ := HV.out.at_ (j := k) (by rw [← HN.out]; exact hkn)
      have hx := getD_some (a := xs) (k := k) (by rw [← HN.out]; exact hkn)
      generalize xs.getD k 0 = x at *
      have HX := Lib.hid hx
      clear hx
      by_cases hcx : comp x = true
      · have HS := Lib.hid (show (xs.take (k + 1)).all comp = true by rw [all_take_snoc comp xs HX.out, HK.out, hcx]; rfl)
        have hc2 : -1073741823 ≤ x ∧ x ≤ 1073741823 := by unfold comp at hcx; simpa using hcx
        have e1 : ¬ x < -1073741823 := by omega
        have e2 : ¬ 1073741823 < x := by omega
        clear hcx
        go_wp2
        go_round
        case rel => exact ⟨k + 1, by omega, by go_num, HS⟩
        case measure => simp [intOf]; omega
      · have HFF := Lib.hid (HF.out (all_no comp xs HX.out (by simpa using hcx)))
        by_cases hlo : x < -1073741823
        · clear hcx
          go_wp2
          go_ret
          rw [HFF.out]
          exact ⟨rfl, rfl⟩
        · have hhi : 1073741823 < x := by unfold comp at hcx; simp at hcx; omega
          clear hcx
          go_wp2
          go_ret
          rw [HFF.out]
          exact ⟨rfl, rfl⟩
    · obtain rfl : k = n := by omega
      have HT := Lib.hid (HR.out (by have := HK.out; rw [HN.out, List.take_length] at this; exact this))
      by_cases h1 : 1 ≤ k
      · have i1 : decide ((1 : Int) ≤ (k : Int)) = true := by simp; omega
        by_cases h4 : k ≤ 4
        · have i2 : decide ((k : Int) ≤ 4) = true := by simp; omega
          have HTT := Lib.hid (show R = true by rw [HT.out]; simp [h1, h4])
          go_wp2
          go_ret
          rw [HTT.out]
          exact ⟨rfl, rfl⟩
        · have i2 : decide ((k : Int) ≤ 4) = false := by simp; omega
          have HTT := Lib.hid (show R = false by rw [HT.out]; simp [h4])
          go_wp2
          go_ret
          rw [HTT.out]
          exact ⟨rfl, rfl⟩
      · obtain rfl : k = 0 := by omega
        have HTT := Lib.hid (show R = false by rw [HT.out]; simp)
        go_wp2
        go_ret
        rw [HTT.out]
        exact ⟨rfl, rfl⟩

theorem sq_abs (x y : Int) : sq (x, y) = (y - x) * (y - x) := by unfold sq; dsimp only; rw [← Int.neg_mul_neg]; congr 1 <;> omega

def allM (l : List (List Int)) : Int := refuseM (l.getD 0 []).length l

end Go.Proofs.Ytpdebkpblpipcaa
