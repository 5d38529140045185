/-
  The document's own bytes for a log (quiverref04): numbers, limits, heads, frames, costs; are bytes the same?
-/
import Derived.Test.YtienabfilnpieaaGreatWalH
import Derived.Test.YtienabfilnpieaaGreatMarkRef
namespace Go.Proofs.YtienabfilnpieaaGreat
open Go.RowKit
set_option linter.unusedVariables false
set_option linter.unusedSimpArgs false
set_option maxRecDepth 100000

set_option maxHeartbeats 1000000 in
theorem rHigh_any (x : Int) (m : Nat) (w : World) (h1 : 1 ≤ m) (h8 : m ≤ 8) (h0 : 0 ≤ x) (hx : x < 18446744073709551616) :
    Calls Tryz.prog 99 #[.int .u64 x, .int .i64 m] w (GivesB w (fldOf m x)) := by
  obtain ⟨i0, hi, hz0, hz1, hz2⟩ := info_parts info5
  have HF := Lib.hid (fldOf_yes x h1 h8)
  go_enter Tryz.func99, Tryz.ntmps99
  go_wp2
  go_loopw [5, 6] (fun v i wr => ∃ k : Nat, k ≤ m ∧ i = .int .i64 ((m : Int) - 1 - (k : Int)) ∧ wr.ownsRow w.heap.size 5 1 v k (((fld m x).take k).map (Value.int .u8)) ∧ Below w.heap.size w wr) (fun _ i _ => (intOf i + 1).toNat)
  case atStart => exact ⟨0, Nat.zero_le _, by simp, World.ownsRow_nil _ _ _ _, Below.refl _ _⟩
  case round =>
    obtain ⟨k, hk, rfl, hown, hb⟩ := hrel
    by_cases hkm : k < m
    · have hge : (0 : Int) ≤ (m : Int) - 1 - (k : Int) := by omega
      go_wp2_with (at_builtin; refine wpList_append_own _ rfl _ _ 33 rfl w.heap.size 5 i0 (.int .u8 0) 1 1 Tryz.underlying33 hi hz0 hz1 hz2 rfl (by decide) _ _ _ rfl (hown.alloc _) ⟨wr.heap.size, 0, none⟩ 1 1 [.int .u8 (x / 2 ^ (8 * (m - 1 - k)) % 256)] rfl rfl ?c1 ?c2 ?c3 ?c4 ?c5 ?_)
      case c1 => exact cell_one_new _ _ _
      case c2 => intro u hu; simp at hu; subst hu; rfl
      case c3 => unfold maxLen; omega
      case c4 => omega
      case c5 => have := hb.size; simp; omega
      · intro v' w2 hown' hgrow _
        have hb' : Below w.heap.size w w2 := (hb.alloc hb.size _).grown hgrow (by have := hb.size; simp; omega) (fun k hk => (hown.lt k hk).1)
        have ho : w2.ownsRow w.heap.size 5 1 v' (k + 1) (((fld m x).take (k + 1)).map (Value.int .u8)) := by
          rw [fld_take m k x hkm]
          simpa [Nat.add_assoc] using hown'
        clear hown' hgrow hown hb
        go_wp2
        go_roundw
        case rel => exact ⟨k + 1, by omega, by congr 1; omega, ho, hb'⟩
        case measure => simp [intOf]; omega
    · obtain rfl : k = m := by omega
      have hlt : (k : Int) - 1 - (k : Int) < 0 := by omega
      rw [List.take_of_length_le (by rw [fld_length]; omega)] at hown
      go_wp2
      go_ret
      rw [HF.out]
      exact gives_of ⟨_, rfl, by rw [fld_length]; exact hown, hb⟩

set_option maxHeartbeats 1000000 in
theorem rNumber_any (A : Option Addr) (c : Nat) (bs : List Int) (w : World) (hs : Sl w A c bs) (ho : Oct bs) (h7 : bs.length ≤ 7) :
    Calls Tryz.prog 60 #[.slice A bs.length c] w fun e w' => e = .returned (.int .u64 (val bs)) ∧ w = w' := by
  have H := Lib.hid hs
  have HO := Lib.hid ho
  obtain ⟨n, hn⟩ : ∃ n, n = bs.length := ⟨_, rfl⟩
  rw [← hn] at h7 ⊢
  have HN := Lib.hid hn
  clear hn hs ho
  go_enter Tryz.func60, Tryz.ntmps60
  go_wp2
  go_loop [3, 8] (fun x i => ∃ k : Nat, ∃ z : Int, k ≤ n ∧ i = .int .i64 k ∧ x = .int .u64 z ∧ Hid (z = val (bs.take k))) (fun _ i => n - (intOf i).toNat)
  case atStart => exact ⟨0, 0, Nat.zero_le _, rfl, rfl, by unfold Hid; simp [val]⟩
  case round =>
    obtain ⟨k, z, hk, rfl, rfl, HZ⟩ := hrel
    by_cases hlt : k < n
    · obtain ⟨b, o, rfl, _, hc⟩ := H.out.rd (by rw [← HN.out]; omega)
      have c1 := hc k (by rw [← HN.out]; omega)
      have b1 : (0 : Int) ≤ (k : Int) := by omega
      have b2 : (k : Int) < (n : Int) := by omega
      have hz0 : 0 ≤ z := by rw [HZ.out]; exact val_nonneg (HO.out.takeN k)
      have hz1 : z < 72057594037927936 := by rw [HZ.out]; exact val_seven (HO.out.takeN k) (by rw [List.length_take]; omega)
      have HS : Hid (val (bs.take (k + 1)) = z * 256 + bs.getD k 0) := by
        unfold Hid
        rw [HZ.out, take_snoc (by rw [← HN.out]; exact hlt), val_snoc]
      obtain ⟨y0, y1⟩ := HO.out.at_ k
      generalize bs.getD k 0 = y at *
      clear hc
      go_wp2
      go_round
      case rel =>
        refine ⟨k + 1, _, by omega, by go_num, rfl, ?_⟩
        unfold Hid
        rw [HS.out]
        try simp only [IntKind.wrap_u64]
        try omega
      case measure => simp [intOf]; omega
    · obtain rfl : k = n := by omega
      rw [List.take_of_length_le (by rw [← HN.out]; omega)] at HZ
      rw [show z = val bs from HZ.out]
      go_wp2
      go_ret
      exact ⟨rfl, rfl⟩

theorem rLimit_any (n : Int) (w : World) : Calls Tryz.prog 61 #[.int .i64 n] w fun e w' => e = .returned (.bool (decide (Lim n))) ∧ w = w' := by
  by_cases h1 : 64 ≤ n
  · have d1 : decide (64 ≤ n) = true := by simp [h1]
    have HZ : Hid (decide (Lim n) = decide (n ≤ 16000)) := by unfold Hid Lim; simp [h1]
    clear h1
    go_enter Tryz.func61, Tryz.ntmps61
    go_wp2
    go_ret
    rw [HZ.out]
    exact ⟨rfl, rfl⟩
  · have d1 : decide (64 ≤ n) = false := by simp; omega
    have HZ : Hid (decide (Lim n) = false) := by unfold Hid; rw [decide_eq_false_iff_not]; unfold Lim; omega
    clear h1
    go_enter Tryz.func61, Tryz.ntmps61
    go_wp2
    go_ret
    rw [HZ.out]
    exact ⟨rfl, rfl⟩

/-- A callee that only drew. -/
def Drew (w : World) (b : Bool) (e : Ending) (w' : World) : Prop := e = .returned (.bool b) ∧ ∃ q, w' = w.drewN q
set_option maxHeartbeats 2000000 in
theorem rSame_any (A A' : Option Addr) (c c' : Nat) (xs ys : List Int) (w : World) (h : Sl w A c xs) (h' : Sl w A' c' ys) :
    Calls Tryz.prog 62 #[.slice A xs.length c, .slice A' ys.length c'] w (Drew w (decide (xs = ys))) := by
  by_cases hl : xs.length = ys.length
  · obtain ⟨n, hn⟩ : ∃ n, n = xs.length := ⟨_, rfl⟩
    have HN := Lib.hid hn
    have HM := Lib.hid (hn.trans hl)
    have hm := h.most
    have hr := h.room
    rw [← hl, ← hn]
    rw [← hn] at hr
    have H := Lib.hid h
    have H' := Lib.hid h'
    have hd : ∀ k, k ≤ n → xs.take k = ys.take k → k < n → xs.getD k 0 = ys.getD k 0 → xs.take (k + 1) = ys.take (k + 1) := fun k hk e hkn e2 => by
      rw [take_snoc (by omega), take_snoc (by omega), e, e2]
    have HD := Lib.hid hd
    clear h h' hl hn hd
    go_enter Tryz.func62, Tryz.ntmps62
    go_wp2_with fail
    go_loopw [13] (fun i wr => ∃ k : Nat, i = .int .i64 k ∧ k ≤ n ∧ Hid (xs.take k = ys.take k) ∧ Hid (∃ q, wr = w.drewN q)) (fun i _ => n - (match i with | .int _ k => k.toNat | _ => 0))
    case atStart => exact ⟨0, rfl, Nat.zero_le _, Lib.hid rfl, Lib.hid ⟨0, rfl⟩⟩
    case round =>
      obtain ⟨k, rfl, hk, HK, HW⟩ := hrel
      by_cases hkn : k < n
      · have hkk : (k : Int) < n := by omega
        have k0 : (0 : Int) ≤ (k : Int) := by omega
        obtain ⟨b1, o1, rfl, _, hx⟩ := H.out.rd (by rw [← HN.out]; omega)
        obtain ⟨b2, o2, rfl, _, hy⟩ := H'.out.rd (by rw [← HM.out]; omega)
        have hx := hx k (by rw [← HN.out]; exact hkn)
        have hy := hy k (by rw [← HM.out]; exact hkn)
        have hx : wr.cell? ⟨b1, o1 + k, none⟩ = some (.int .u8 (xs.getD k 0)) := by obtain ⟨q, e⟩ := HW.out; rw [e]; exact hx
        have hy : wr.cell? ⟨b2, o2 + k, none⟩ = some (.int .u8 (ys.getD k 0)) := by obtain ⟨q, e⟩ := HW.out; rw [e]; exact hy
        by_cases hd : xs.getD k 0 = ys.getD k 0
        · have HE := Lib.hid (HD.out k hk HK.out hkn hd)
          rw [hd] at hx
          generalize ys.getD k 0 = y at *
          clear hd
          go_wp2_with fail
          go_quiet (fail)
          go_wp2
          go_roundw
          case rel => exact ⟨k + 1, by go_num, by omega, HE, Lib.hid (by obtain ⟨q, e⟩ := HW.out; exact ⟨q + nq, by rw [e, World.drewN_drewN]⟩)⟩
          case measure => simp; omega
        · have HF := Lib.hid (show decide (xs = ys) = false from decide_eq_false (fun e => hd (by rw [e])))
          have t1 : (xs.getD k 0 == ys.getD k 0) = false := by simpa using hd
          have t2 : (xs.getD k 0 != ys.getD k 0) = true := by simpa using hd
          generalize xs.getD k 0 = x at *
          generalize ys.getD k 0 = y at *
          go_wp2_with fail
          go_quiet (fail)
          go_wp2
          go_ret
          rw [HF.out]
          obtain ⟨q, e⟩ := HW.out
          exact ⟨rfl, q + nq, by rw [e, World.drewN_drewN]⟩
      · obtain rfl : k = n := by omega
        have HT := Lib.hid (show decide (xs = ys) = true from decide_eq_true (by
          have e := HK.out
          rwa [List.take_of_length_le (by rw [← HN.out]; omega), List.take_of_length_le (by rw [← HM.out]; omega)] at e))
        go_wp2
        go_ret
        rw [HT.out]
        exact ⟨rfl, HW.out⟩
  · have HF := Lib.hid (show decide (xs = ys) = false from decide_eq_false (fun e => hl (by rw [e])))
    have t2 : ((xs.length : Int) != (ys.length : Int)) = true := by simp; omega
    generalize xs.length = n at *
    generalize ys.length = m at *
    clear h h' hl
    go_enter Tryz.func62, Tryz.ntmps62
    go_wp2
    go_ret
    rw [HF.out]
    exact ⟨rfl, 0, rfl⟩

set_option maxHeartbeats 1000000 in
theorem rCost_any (A : Option Addr) (c : Nat) (ps : List (List Int)) (w : World) (h : Recs w A ps) (hb : costM ps ≤ 1000000) :
    Calls Tryz.prog 40 #[.slice A ps.length c] w fun e w' => e = .returned (.int .i64 (costM ps)) ∧ w = w' := by
  have H := Lib.hid h
  obtain ⟨n, hn⟩ : ∃ n, n = ps.length := ⟨_, rfl⟩
  have HN := Lib.hid hn
  have HC := Lib.hid (show ∀ k p, ps[k]? = some p → costM (ps.take (k + 1)) = costM (ps.take k) + (p.length + 12) ∧ costM (ps.take (k + 1)) ≤ 1000000 from fun k p hp => ⟨costM_snoc hp, Nat.le_trans (costM_take ps _) hb⟩)
  have hnb : n ≤ 1000000 := by have := costM_len ps; omega
  rw [← hn]
  clear h hn hb
  go_enter Tryz.func40, Tryz.ntmps40
  go_wp2
  go_loop [3, 8] (fun x i => ∃ k : Nat, k ≤ n ∧ i = .int .i64 k ∧ x = .int .i64 (costM (ps.take k))) (fun _ i => n - (intOf i).toNat)
  case atStart => exact ⟨0, Nat.zero_le _, rfl, by simp [costM]⟩
  case round =>
    obtain ⟨k, hk, rfl, rfl⟩ := hrel
    by_cases hkn : k < n
    · have hkk : (k : Int) < n := by omega
      have k0 : (0 : Int) ≤ (k : Int) := by omega
      obtain ⟨p, hp⟩ : ∃ p, ps[k]? = some p := ⟨ps[k]'(by rw [← HN.out]; exact hkn), List.getElem?_eq_getElem _⟩
      obtain ⟨b, o, B, cb, rfl, _, hcell, _, _⟩ := H.out k p hp
      obtain ⟨hs1, hs2⟩ := HC.out k p hp
      obtain ⟨s2, hs2e⟩ : ∃ s2, s2 = costM (ps.take (k + 1)) := ⟨_, rfl⟩
      have HS2 := Lib.hid hs2e
      rw [← hs2e] at hs1 hs2
      clear hs2e hp
      generalize costM (ps.take k) = s1 at *
      generalize p.length = pl at *
      have z1 : IntKind.i64.wrap (12 + (pl : Int)) = 12 + (pl : Int) := i64_fit (by omega)
      have hsum : IntKind.i64.wrap ((s1 : Int) + (12 + (pl : Int))) = (s2 : Int) := by rw [i64_fit (by omega)]; omega
      clear hs1
      go_wp2
      go_round
      case rel => exact ⟨k + 1, by omega, by go_num, by rw [HS2.out]⟩
      case measure => simp [intOf]; omega
    · obtain rfl : k = n := by omega
      have HZ := Lib.hid (show costM (ps.take k) = costM ps by rw [HN.out, List.take_length])
      generalize costM (ps.take k) = s1 at *
      go_wp2
      go_ret
      rw [HZ.out]
      exact ⟨rfl, rfl⟩

end Go.Proofs.YtienabfilnpieaaGreat
