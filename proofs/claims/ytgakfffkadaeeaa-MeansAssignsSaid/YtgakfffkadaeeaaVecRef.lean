/-
  The document's answers for layer 5, walked.
-/
import Derived.Test.YtgakfffkadaeeaaVecMean
import Derived.Test.YtgakfffkadaeeaaVecNear
import Derived.OwnWalk
namespace Go.Proofs.Ytgakfffkadaeeaa
open Go.RowKit Go.Shelf
set_option linter.unusedVariables false
set_option maxRecDepth 100000

theorem take_eq_snoc {a b : List Int} {k : Nat} {x y : Int} (h : a.take k = b.take k) (hx : a[k]? = some x) (hy : b[k]? = some y) (e : x = y) : a.take (k + 1) = b.take (k + 1) := by
  rw [List.take_add_one, List.take_add_one, h, hx, hy, e]
theorem getD_some {a : List Int} {k : Nat} (h : k < a.length) : a[k]? = some (a.getD k 0) := by
  rw [List.getElem?_eq_getElem h]; simp [List.getD, List.getElem?_eq_getElem h]

set_option maxHeartbeats 400000 in
theorem rSame_any (A A' : Option Addr) (c c' : Nat) (a b : List Int) (w : World) (ha : Vec .i32 w A c a) (hb : Vec .i32 w A' c' b) :
    Calls Try.prog 34 #[.slice A a.length c, .slice A' b.length c'] w fun e w' => e = .returned (.bool (decide (a = b))) ∧ Below w.heap.size w w' := by
  by_cases hl : b.length = a.length
  · obtain ⟨R, hR⟩ : ∃ R, R = decide (a = b) := ⟨_, rfl⟩
    rw [hl, ← hR]
    obtain ⟨m, hm⟩ : ∃ m, m = a.length := ⟨_, rfl⟩
    have hmx : m ≤ 9223372036854775807 := by rw [hm]; exact Nat.le_trans ha.room ha.most
    rw [← hm]
    have HA := Lib.hid ha
    have HB := Lib.hid hb
    have HM := Lib.hid hm
    have HL := Lib.hid hl
    have HR := Lib.hid hR
    clear ha hb hm hl hR
    go_enter Try.func34, Try.ntmps34
    go_wp2
    go_loopw [5] (fun i wr => ∃ k q : Nat, k ≤ m ∧ i = .int .i64 k ∧ wr = w.drewN q ∧ Hid (a.take k = b.take k)) (fun i _ => m - (intOf i).toNat)
    case atStart => exact ⟨0, 0, Nat.zero_le _, rfl, rfl, Lib.hid rfl⟩
    case round =>
      obtain ⟨k, q, hk, rfl, rfl, HK⟩ := hrel
      by_cases hkm : k < m
      · obtain ⟨g1, o1, rfl, _, hc1⟩ := HA.out.at_ (j := k) (by rw [← HM.out]; exact hkm)
        obtain ⟨g2, o2, rfl, _, hc2⟩ := HB.out.at_ (j := k) (by rw [HL.out, ← HM.out]; exact hkm)
        have hx := getD_some (a := a) (k := k) (by rw [← HM.out]; exact hkm)
        have hy := getD_some (a := b) (k := k) (by rw [HL.out, ← HM.out]; exact hkm)
        have k0 : (0 : Int) ≤ k := by omega
        have km : (k : Int) < m := by omega
        generalize a.getD k 0 = x at *
        generalize b.getD k 0 = y at *
        by_cases hxy : x = y
        · have HS := Lib.hid (take_eq_snoc HK.out hx hy hxy)
          subst hxy
          clear hx hy
          go_wp2
          go_quiet (fail)
          go_wp2
          go_roundw
          case rel => exact ⟨k + 1, q + nq, by omega, by go_num, by simp [World.drewN], HS⟩
          case measure => simp [intOf]; omega
        · have HF := Lib.hid (show R = false by rw [HR.out]; exact decide_eq_false (fun e => by subst e; rw [hx] at hy; cases hy; exact hxy rfl))
          have t1 : (x != y) = true := by simpa using hxy
          have t2 : (x == y) = false := by simpa using hxy
          clear hx hy
          go_wp2
          go_quiet (fail)
          go_wp2
          go_ret
          rw [HF.out]
          exact ⟨rfl, below_drewN (below_drewN (Below.refl _ _) _) _⟩
      · obtain rfl : k = m := by omega
        have HT := Lib.hid (show R = true by
          rw [HR.out]
          refine decide_eq_true ?_
          have := HK.out
          rw [HM.out, List.take_length, ← HL.out, List.take_length] at this
          exact this)
        go_wp2
        go_ret
        rw [HT.out]
        exact ⟨rfl, below_drewN (Below.refl _ _) _⟩
  · have HT := Lib.hid (show decide (a = b) = false from decide_eq_false (fun e => hl (by rw [e])))
    generalize decide (a = b) = R at *
    generalize a.length = n at *
    generalize b.length = m at *
    have t2 : ((n : Int) != (m : Int)) = true := by simp; omega
    have t3 : ((n : Int) == (m : Int)) = false := by simp; omega
    have t4 : (n == m) = false := by simp; omega
    clear hl ha hb
    go_enter Try.func34, Try.ntmps34
    go_wp2
    go_ret
    rw [HT.out]
    exact ⟨rfl, Below.refl _ _⟩

theorem right_of {xs : List Int} {n : Nat} (hn : n = xs.length) (h : xs.all comp = true) : right xs = (decide (1 ≤ n) && decide (n ≤ 4)) := by
  unfold right; rw [h, ← hn, Bool.and_true]

set_option maxHeartbeats 400000 in
theorem rRight_any (A : Option Addr) (c : Nat) (xs : List Int) (w : World) (h : Vec .i32 w A c xs) :
    Calls Try.prog 38 #[.slice A xs.length c] w fun e w' => e = .returned (.bool (right xs)) ∧ w = w' := by
  obtain ⟨n, hn⟩ : ∃ n, n = xs.length := ⟨_, rfl⟩
  have hmx : n ≤ 9223372036854775807 := by rw [hn]; exact Nat.le_trans h.room h.most
  have HR := Lib.hid (fun (hh : xs.all comp = true) => right_of hn hh)
  have HF := Lib.hid (fun (hh : xs.all comp = false) => show right xs = false by unfold right; rw [hh, Bool.and_false])
  generalize right xs = R at *
  rw [← hn]
  have HV := Lib.hid h
  have HN := Lib.hid hn
  clear h hn
  go_enter Try.func38, Try.ntmps38
  go_wp2
  go_loop [3] (fun i => ∃ k : Nat, k ≤ n ∧ i = .int .i64 k ∧ Hid ((xs.take k).all comp = true)) (fun i => n - (intOf i).toNat)
  case atStart => exact ⟨0, Nat.zero_le _, rfl, Lib.hid (by simp)⟩
  case round =>
    obtain ⟨k, hk, rfl, HK⟩ := hrel
    by_cases hkn : k < n
    · obtain ⟨b, o, rfl, _, c1⟩ := HV.out.at_ (j := k) (by rw [← HN.out]; exact hkn)
      have hx := getD_some (a := xs) (k := k) (by rw [← HN.out]; exact hkn)
      generalize xs.getD k 0 = x at *
      have HX := Lib.hid hx
      clear hx
      by_cases hcx : comp x = true
      · have HS := Lib.hid (show (xs.take (k + 1)).all comp = true by rw [all_take_snoc comp xs HX.out, HK.out, hcx]; rfl)
        have hc2 : -1073741823 ≤ x ∧ x ≤ 1073741823 := by unfold comp at hcx; simpa using hcx
        have e1 : ¬ x < -1073741823 := by omega
        have e2 : ¬ 1073741823 < x := by omega
        clear hcx
        go_wp2
        go_round
        case rel => exact ⟨k + 1, by omega, by go_num, HS⟩
        case measure => simp [intOf]; omega
      · have HFF := Lib.hid (HF.out (all_no comp xs HX.out (by simpa using hcx)))
        by_cases hlo : x < -1073741823
        · clear hcx
          go_wp2
          go_ret
          rw [HFF.out]
          exact ⟨rfl, rfl⟩
        · have hhi : 1073741823 < x := by unfold comp at hcx; simp at hcx; omega
          clear hcx
          go_wp2
          go_ret
          rw [HFF.out]
          exact ⟨rfl, rfl⟩
    · obtain rfl : k = n := by omega
      have HT := Lib.hid (HR.out (by have := HK.out; rw [HN.out, List.take_length] at this; exact this))
      by_cases h1 : 1 ≤ k
      · have i1 : decide ((1 : Int) ≤ (k : Int)) = true := by simp; omega
        by_cases h4 : k ≤ 4
        · have i2 : decide ((k : Int) ≤ 4) = true := by simp; omega
          have HTT := Lib.hid (show R = true by rw [HT.out]; simp [h1, h4])
          go_wp2
          go_ret
          rw [HTT.out]
          exact ⟨rfl, rfl⟩
        · have i2 : decide ((k : Int) ≤ 4) = false := by simp; omega
          have HTT := Lib.hid (show R = false by rw [HT.out]; simp [h4])
          go_wp2
          go_ret
          rw [HTT.out]
          exact ⟨rfl, rfl⟩
      · obtain rfl : k = 0 := by omega
        have HTT := Lib.hid (show R = false by rw [HT.out]; simp)
        go_wp2
        go_ret
        rw [HTT.out]
        exact ⟨rfl, rfl⟩

theorem sq_abs (x y : Int) : sq (x, y) = (y - x) * (y - x) := by unfold sq; dsimp only; rw [← Int.neg_mul_neg]; congr 1 <;> omega

set_option maxHeartbeats 1000000 in
theorem rDist_any (A A' : Option Addr) (c c' : Nat) (a b : List Int) (w : World) (ha : Vec .i32 w A c a) (hb : Vec .i32 w A' c' b) (ra : right a = true) (rb : right b = true) (hl : b.length = a.length) :
    Calls Try.prog 57 #[.slice A a.length c, .slice A' b.length c'] w fun e w' => e = .returned (.int .u64 (distM a b)) ∧ ∃ q, w' = w.drewN q := by
  have hin := zip_in ra rb
  have hlen := right_len ra
  obtain ⟨m, hm⟩ : ∃ m, m = a.length := ⟨_, rfl⟩
  have hzl : (a.zip b).length = m := by rw [List.length_zip, hl, hm]; simp
  rw [← hm] at hlen
  have hm4 := hlen.2
  rw [hl, ← hm]
  have HA := Lib.hid ha
  have HB := Lib.hid hb
  have HM := Lib.hid hm
  have HL := Lib.hid hl
  have HI := Lib.hid hin
  have HZ := Lib.hid hzl
  have HD := Lib.hid (show distM a b = sumP (a.zip b) from rfl)
  generalize distM a b = R at *
  clear ha hb hm hl hin hzl ra rb hlen
  go_enter Try.func57, Try.ntmps57
  go_wp2
  go_loopw [5, 6, 7] (fun n i _ wr => ∃ k q : Nat, k ≤ m ∧ i = .int .i64 k ∧ n = .int .u64 (sumP ((a.zip b).take k)) ∧ wr = w.drewN q) (fun _ i _ _ => m - (intOf i).toNat)
  case atStart => exact ⟨0, 0, Nat.zero_le _, rfl, rfl, rfl⟩
  case round =>
    obtain ⟨k, q, hk, rfl, rfl, rfl⟩ := hrel
    by_cases hkm : k < m
    · obtain ⟨g1, o1, rfl, _, hc1⟩ := HA.out.at_ (j := k) (by rw [← HM.out]; exact hkm)
      obtain ⟨g2, o2, rfl, _, hc2⟩ := HB.out.at_ (j := k) (by rw [HL.out, ← HM.out]; exact hkm)
      have hx : (a.zip b)[k]? = some (a.getD k 0, b.getD k 0) := by
        rw [List.getElem?_eq_getElem (by rw [HZ.out]; exact hkm), List.getElem_zip]
        simp [List.getD, List.getElem?_eq_getElem (show k < a.length by rw [← HM.out]; exact hkm), List.getElem?_eq_getElem (show k < b.length by rw [HL.out, ← HM.out]; exact hkm)]
      have hst : (a.zip b).take (k + 1) = (a.zip b).take k ++ [(a.getD k 0, b.getD k 0)] := by rw [List.take_add_one, hx]; rfl
      have hin2 : ∀ p ∈ (a.zip b).take (k + 1), pairIn p := fun p hp => HI.out p (List.mem_of_mem_take hp)
      have hle := sumP_le _ hin2
      have hl4 : ((a.zip b).take (k + 1)).length ≤ 4 := Nat.le_trans (List.length_take_le' _ _) (by rw [HZ.out]; exact hm4)
      have h0 := (sumP_le _ (fun p hp => HI.out p (List.mem_of_mem_take hp) : ∀ p ∈ (a.zip b).take k, pairIn p)).1
      have hsn := sumP_snoc ((a.zip b).take k) (a.getD k 0, b.getD k 0)
      rw [← hst] at hsn
      have hpi := hin2 (a.getD k 0, b.getD k 0) (by rw [hst]; simp)
      generalize a.getD k 0 = x at *
      generalize b.getD k 0 = y at *
      have k0 : (0 : Int) ≤ k := by omega
      have km : (k : Int) < m := by omega
      obtain ⟨⟨p1, p2⟩, p3, p4⟩ := hpi
      dsimp only at p1 p2 p3 p4
      have hsq0 := sq_nonneg (x, y)
      have hsq := sq_le (x, y) ⟨⟨p1, p2⟩, p3, p4⟩
      have HS := Lib.hid hsn
      have HQ := Lib.hid (show sq (x, y) = (x - y) * (x - y) from rfl)
      have HQ2 := Lib.hid (sq_abs x y)
      have hu : sumP ((a.zip b).take k) + sq (x, y) < 18446744073709551616 := by rw [← hsn]; omega
      generalize sq (x, y) = s at *
      generalize sumP ((a.zip b).take k) = t at *
      have HW := Lib.hid (u64_fit (n := t + s) ⟨by omega, hu⟩)
      have HW1 := Lib.hid (u64_fit (n := s) ⟨by omega, by omega⟩)
      clear hst hin2 hle hl4 hsn hx hu
      by_cases hneg : x - y < 0
      · have HW2 := Lib.hid (u64_fit (n := y - x) ⟨by omega, by omega⟩)
        go_wp2
        go_quiet (fail)
        go_wp2
        go_roundw
        case rel => exact ⟨k + 1, q + nq, by omega, by go_num, by rw [Int.neg_mul_neg, ← HQ.out, HW1.out, HW.out, HS.out], rfl⟩
        case measure => simp [intOf]; omega
      · have HW2 := Lib.hid (u64_fit (n := x - y) ⟨by omega, by omega⟩)
        go_wp2
        go_quiet (fail)
        go_wp2
        go_roundw
        case rel => exact ⟨k + 1, q + nq, by omega, by go_num, by rw [← HQ.out, HW1.out, HW.out, HS.out], rfl⟩
        case measure => simp [intOf]; omega
    · obtain rfl : k = m := by omega
      have HT := Lib.hid (show R = sumP ((a.zip b).take k) by rw [HD.out, ← HZ.out, List.take_length])
      go_wp2
      go_ret
      rw [HT.out]
      exact ⟨rfl, _, rfl⟩

/-! ### all of them -/
def allM (l : List (List Int)) : Int := refuseM (l.getD 0 []).length l

set_option maxHeartbeats 1000000 in
theorem rNearest_any (A A' : Option Addr) (c c' : Nat) (l : List (List Int)) (v : List Int) (w : World) (hl : Vecs .i32 w A c l) (hv : Vec .i32 w A' c' v) (h1 : 0 < l.length) (hrv : right v = true) (hall : ∀ x ∈ l, right x = true ∧ x.length = v.length) :
    Calls Try.prog 39 #[.slice A l.length c, .slice A' v.length c'] w fun e w' => e = .returned (.int .i64 (nearM l v)) ∧ Below w.heap.size w w' := by
  have HD := Lib.hid (fun (V : World) (hV : ∃ q, V = w.drewN q) (i : Nat) (B : Option Addr) (cb : Nat) (x : List Int) (hx : l[i]? = some x) (hb : Vec .i32 w B cb x) =>
    rDist_any B A' cb c' x v V (by obtain ⟨q, rfl⟩ := hV; exact hb.drewN q) (by obtain ⟨q, rfl⟩ := hV; exact hv.drewN q) (hall x (List.mem_of_getElem? hx)).1 hrv (hall x (List.mem_of_getElem? hx)).2.symm)
  have HN := Lib.hid (show nearM l v = nearF (farM l v) l.length from rfl)
  have HF := Lib.hid (fun (i : Nat) (x : List Int) (hx : l[i]? = some x) => (show farM l v i = distM x v by unfold farM; rw [getD_at hx]))
  generalize nearM l v = R at *
  have HV := Lib.hid hl
  obtain ⟨b, o, _, _, _, rfl, _⟩ := hl.at_ (i := 0) h1
  obtain ⟨n, hn⟩ : ∃ n, n = l.length := ⟨_, rfl⟩
  have hroom := hl.room
  have hmost := hl.most
  have HLN := Lib.hid hn
  rw [← hn] at h1 hroom HN ⊢
  generalize v.length = m at *
  have H1 := Lib.hid (show nearF (farM l v) 1 = 0 by simp [nearF])
  have HLT := Lib.hid (fun k hk => nearF_lt (farM l v) k hk)
  clear hall hrv hv hl hn
  go_enter Try.func39, Try.ntmps39
  go_wp2
  go_loopw [5, 6] (fun p i wr => ∃ k : Nat, 1 ≤ k ∧ k ≤ n ∧ i = .int .i64 k ∧ p = .int .i64 (nearF (farM l v) k) ∧ Hid (∃ q, wr = w.drewN q)) (fun _ i _ => n - (intOf i).toNat)
  case atStart => exact ⟨1, by omega, by omega, rfl, by rw [H1.out]; rfl, Lib.hid ⟨0, rfl⟩⟩
  case round =>
    obtain ⟨k, hk1, hk, rfl, rfl, HW⟩ := hrel
    by_cases hkn : k < n
    · obtain ⟨b', o', x, B, cb, he, hx, _, hc, hvb⟩ := HV.out.at_ (i := k) (by rw [← HLN.out]; exact hkn)
      injection he with he
      injection he with he1 he2
      subst he1
      subst he2
      have hpl := HLT.out k (by omega)
      have HS := Lib.hid (show nearF (farM l v) (k + 1) = if farM l v k < farM l v (nearF (farM l v) k) then k else nearF (farM l v) k from rfl)
      obtain ⟨p, hp⟩ : ∃ p, p = nearF (farM l v) k := ⟨_, rfl⟩
      rw [← hp] at hpl HS
      have HP := Lib.hid hp
      obtain ⟨b'', o'', y, B2, cb2, he, hy, _, hc2, hvb2⟩ := HV.out.at_ (i := p) (by rw [← HLN.out]; omega)
      injection he with he
      injection he with he1 he2
      subst he1
      subst he2
      have HX := Lib.hid (fun r => HD.out (wr.drewN r) (by obtain ⟨q, e⟩ := HW.out; exact ⟨q + r, by rw [e, World.drewN_drewN]⟩) k B cb x hx hvb)
      have HY := Lib.hid (fun r => HD.out (wr.drewN r) (by obtain ⟨q, e⟩ := HW.out; exact ⟨q + r, by rw [e, World.drewN_drewN]⟩) p B2 cb2 y hy hvb2)
      have ex := HF.out k x hx
      have ey := HF.out p y hy
      rw [← ex] at HX
      rw [← ey] at HY
      have HEX := Lib.hid ex
      have HEY := Lib.hid ey
      rw [← hp]
      obtain ⟨xl, hxl⟩ : ∃ xl, xl = x.length := ⟨_, rfl⟩
      obtain ⟨yl, hyl⟩ : ∃ yl, yl = y.length := ⟨_, rfl⟩
      rw [← hxl] at hc HX
      have hc : wr.cell? ⟨b, o + k, none⟩ = some (.slice B xl cb) := by obtain ⟨q, e⟩ := HW.out; rw [e]; exact hc
      rw [← hyl] at hc2 HY
      have hc2 : wr.cell? ⟨b, o + p, none⟩ = some (.slice B2 yl cb2) := by obtain ⟨q, e⟩ := HW.out; rw [e]; exact hc2
      have p0 : (0 : Int) ≤ p := by omega
      have p1 : (p : Int) < n := by omega
      have p2 : p < n := by omega
      have k0 : (0 : Int) ≤ k := by omega
      have k1 : (k : Int) < n := by omega
      clear hx hy hvb hvb2 hp ex ey hxl hyl
      generalize farM l v k = dk at *
      generalize farM l v p = dp at *
      by_cases hlt : dk < dp
      · have HPP := Lib.hid (show nearF (farM l v) (k + 1) = k by rw [HS.out, if_pos hlt])
        go_wp2
        go_quiet ((first | (go_at_call 57; with_reducible refine Calls.quiet_of (HX.out _)) | (go_at_call 57; with_reducible refine Calls.quiet_of (HY.out _))))
        go_wp2
        go_roundw
        case rel => exact ⟨k + 1, by omega, by omega, by go_num, by rw [HPP.out], Lib.hid (by obtain ⟨q, e⟩ := HW.out; exact ⟨q + nq, by rw [e, World.drewN_drewN]⟩)⟩
        case measure => simp [intOf]; omega
      · have HPP := Lib.hid (show nearF (farM l v) (k + 1) = p by rw [HS.out, if_neg hlt])
        go_wp2
        go_quiet ((first | (go_at_call 57; with_reducible refine Calls.quiet_of (HX.out _)) | (go_at_call 57; with_reducible refine Calls.quiet_of (HY.out _))))
        go_wp2
        go_roundw
        case rel => exact ⟨k + 1, by omega, by omega, by go_num, by rw [HPP.out], Lib.hid (by obtain ⟨q, e⟩ := HW.out; exact ⟨q + nq, by rw [e, World.drewN_drewN]⟩)⟩
        case measure => simp [intOf]; omega
    · obtain rfl : k = n := by omega
      rw [← HN.out]
      go_wp2
      go_ret
      exact ⟨rfl, by obtain ⟨q, e⟩ := HW.out; rw [e]; exact below_drewN (Below.refl _ _) _⟩

end Go.Proofs.Ytgakfffkadaeeaa
