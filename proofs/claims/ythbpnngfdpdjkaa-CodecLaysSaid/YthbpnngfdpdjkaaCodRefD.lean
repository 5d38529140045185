/-
  What quiverref07's TakeVec answers.
-/
import Derived.Test.YthbpnngfdpdjkaaCodRefC
namespace Go.Proofs.Ythbpnngfdpdjkaa
open Go.RowKit Go.Shelf
set_option linter.unusedVariables false
set_option linter.unusedSimpArgs false
set_option maxRecDepth 100000

theorem comps_succ (p : Nat) (bs : List Int) (k : Nat) : compsM p bs (k + 1) = compsM p bs k ++ [vali ((bs.drop (p + 1 + 4 * k)).take 4)] := by
  unfold compsM
  rw [List.range_succ, List.map_append]
  rfl
theorem comps_len (p : Nat) (bs : List Int) (k : Nat) : (compsM p bs k).length = k := by simp [compsM]
theorem comps_fit (p : Nat) (bs : List Int) (ho : Oct bs) (k : Nat) (h : p + 1 + 4 * k ≤ bs.length) : ∀ x ∈ compsM p bs k, (Lit.int .i32 x).wf = true := by
  intro x hx
  unfold compsM at hx
  obtain ⟨i, hi, rfl⟩ := List.mem_map.1 hx
  have hi' : i < k := by simpa using hi
  exact i32_wf (vali4 ((ho.drop _).take 4) (by simp; omega))
theorem conv_four (l : List Int) (h4 : l.length = 4) (ho : Oct l) : IntKind.i32.wrap (IntKind.u32.wrap (val l)) = vali l := by
  have hv := vali_val (bs := l) (by omega)
  have hlo := val_nonneg ho
  have hhi := val_lt ho
  have hb := vali4 ho h4
  rw [h4] at hv hhi
  have h256 : (256 : Int) ^ 4 = 4294967296 := by decide
  rw [h256] at hv hhi
  rw [IntKind.wrap_u32, IntKind.wrap_i32]
  split at hv <;> omega
theorem tv_short1 {p : Nat} {bs : List Int} (h : bs.length ≤ p) : tvM p bs = (7, 0, []) := by unfold tvM; rw [if_pos h]
theorem tv_bad1 {p : Nat} {bs : List Int} (h : ¬ bs.length ≤ p) (h2 : bs.getD p 0 < 1 ∨ 4 < bs.getD p 0) : tvM p bs = (172, 0, []) := by unfold tvM; rw [if_neg h, if_pos h2]
theorem tv_short2 {p n : Nat} {bs : List Int} (h : ¬ bs.length ≤ p) (hn : bs.getD p 0 = n) (h1 : 1 ≤ n) (h4 : n ≤ 4) (h3 : bs.length < p + 1 + 4 * n) : tvM p bs = (7, 0, []) := by
  unfold tvM; rw [if_neg h, hn, if_neg (by omega), Int.toNat_natCast, if_pos h3]
theorem tv_yes {p n : Nat} {bs : List Int} (h : ¬ bs.length ≤ p) (hn : bs.getD p 0 = n) (h1 : 1 ≤ n) (h4 : n ≤ 4) (h3 : ¬ bs.length < p + 1 + 4 * n) (hr : right (compsM p bs n) = true) : tvM p bs = (0, (p : Int) + 1 + 4 * n, compsM p bs n) := by
  unfold tvM; rw [if_neg h, hn, if_neg (by omega), Int.toNat_natCast, if_neg h3, if_pos hr]
theorem tv_bad2 {p n : Nat} {bs : List Int} (h : ¬ bs.length ≤ p) (hn : bs.getD p 0 = n) (h1 : 1 ≤ n) (h4 : n ≤ 4) (h3 : ¬ bs.length < p + 1 + 4 * n) (hr : right (compsM p bs n) = false) : tvM p bs = (172, 0, []) := by
  unfold tvM; rw [if_neg h, hn, if_neg (by omega), Int.toNat_natCast, if_neg h3, if_neg (by rw [hr]; simp)]

set_option maxHeartbeats 2000000 in
theorem rTakeVec_any (A : Option Addr) (c : Nat) (bs : List Int) (p : Nat) (w : World) (h : Sl w A c bs) (ho : Oct bs) (hp : p ≤ 16) (hbig : bs.length ≤ 1000000) :
    Calls Try.prog 25 #[.slice A bs.length c, .int .i64 p] w (GivesT w (tvM p bs)) := by
  obtain ⟨i0, hi, hz0, hz1, hz2⟩ := info_parts info21
  have HS := Lib.hid h
  have HO := Lib.hid ho
  have hroom := h.room
  have hmost := h.most
  obtain ⟨n, hn⟩ : ∃ n, n = bs.length := ⟨_, rfl⟩
  rw [← hn] at hroom hbig ⊢
  have HN := Lib.hid hn
  by_cases g0 : n ≤ p
  · have HR := Lib.hid (tv_short1 (p := p) (bs := bs) (by omega))
    generalize tvM p bs = R at *
    clear h ho hn
    go_enter Try.func25, Try.ntmps25
    go_wp2
    go_ret3
    rw [HR.out]
    exact ⟨none, 0, rfl, Vec.nil _ _, Below.refl _ _⟩
  · obtain ⟨b, o, rfl, hb, hc⟩ := h.rd (by omega)
    have hcp := hc p (by omega)
    have hoct := ho.at_ p
    obtain ⟨m, hm⟩ := Int.eq_ofNat_of_zero_le hoct.1
    rw [hm] at hcp hoct
    have h255 : m < 256 := by omega
    have HG0 := Lib.hid (show ¬ bs.length ≤ p by omega)
    have HM := Lib.hid hm
    have p0 : (0 : Int) ≤ p := by omega
    have pn : (p : Int) < n := by omega
    have t0 : decide ((n : Int) ≤ (p : Int)) = false := by simp; omega
    clear h ho hn hc hoct hm
    by_cases g1 : m < 1
    · have HR := Lib.hid (tv_bad1 HG0.out (.inl (by rw [HM.out]; omega)))
      generalize tvM p bs = R at *
      have t1 : decide ((m : Int) < 1) = true := by simp; omega
      go_enter Try.func25, Try.ntmps25
      go_wp2
      go_ret3
      rw [HR.out]
      exact ⟨none, 0, rfl, Vec.nil _ _, Below.refl _ _⟩
    have t1 : decide ((m : Int) < 1) = false := by simp; omega
    by_cases g2 : 4 < m
    · have HR := Lib.hid (tv_bad1 HG0.out (.inr (by rw [HM.out]; omega)))
      generalize tvM p bs = R at *
      have t2 : decide ((4 : Int) < (m : Int)) = true := by simp; omega
      go_enter Try.func25, Try.ntmps25
      go_wp2
      go_ret3
      rw [HR.out]
      exact ⟨none, 0, rfl, Vec.nil _ _, Below.refl _ _⟩
    have t2 : decide ((4 : Int) < (m : Int)) = false := by simp; omega
    by_cases g3 : n < p + 1 + 4 * m
    · have HR := Lib.hid (tv_short2 HG0.out HM.out (by omega) (by omega) (by rw [← HN.out]; exact g3))
      generalize tvM p bs = R at *
      have t3 : decide ((n : Int) < (p : Int) + 1 + 4 * (m : Int)) = true := by simp; omega
      go_enter Try.func25, Try.ntmps25
      go_wp2
      go_ret3
      rw [HR.out]
      exact ⟨none, 0, rfl, Vec.nil _ _, Below.refl _ _⟩
    have t3 : decide ((n : Int) < (p : Int) + 1 + 4 * (m : Int)) = false := by simp; omega
    have HG3 := Lib.hid (show ¬ bs.length < p + 1 + 4 * m by rw [← HN.out]; exact g3)
    have HF := Lib.hid (comps_fit p bs HO.out m (by rw [← HN.out]; omega))
    have HL := Lib.hid (comps_len p bs m)
    have HY := Lib.hid (fun h => tv_yes HG0.out HM.out (by omega) (by omega) HG3.out h)
    have HZ := Lib.hid (fun h => tv_bad2 HG0.out HM.out (by omega) (by omega) HG3.out h)
    generalize tvM p bs = R at *
    go_enter Try.func25, Try.ntmps25
    go_wp2
    go_loopw [8, 9] (fun v i wr => ∃ k : Nat, k ≤ m ∧ i = .int .i64 k ∧ Hid (wr.ownsRow w.heap.size 21 1 v k ((compsM p bs k).map (Value.int .i32))) ∧ Hid (Below w.heap.size w wr)) (fun _ i _ => m - (intOf i).toNat)
    case atStart => exact ⟨0, Nat.zero_le _, rfl, Lib.hid (World.ownsRow_nil _ _ _ _), Lib.hid (Below.refl _ _)⟩
    case round =>
      obtain ⟨k, hk, rfl, HV, HB⟩ := hrel
      by_cases hkm : k < m
      · obtain ⟨lo, hlo⟩ : ∃ lo, lo = p + 1 + 4 * k := ⟨_, rfl⟩
        have hlh : lo + 4 ≤ n := by omega
        have hlb : lo + 4 ≤ bs.length := by rw [← HN.out]; exact hlh
        have hl4 : ((bs.drop lo).take 4).length = 4 := by rw [List.length_take, List.length_drop]; omega
        have HA := Lib.hid (rNumber_any (behind (some ⟨b, o, none⟩) c lo) (c - lo) ((bs.drop lo).take 4) wr (((HS.out.below HB.out).cut lo (by omega)).begin 4) ((HO.out.drop lo).take 4) (by omega))
        rw [hl4] at HA
        have hbe : behind (some ⟨b, o, none⟩) c lo = some ⟨b, o + lo, none⟩ := by unfold behind; rw [if_neg (by omega)]; simp [Addr.add_lit]
        rw [hbe] at HA
        have HCV := Lib.hid (conv_four ((bs.drop lo).take 4) hl4 ((HO.out.drop lo).take 4))
        have HE := Lib.hid (show (compsM p bs (k + 1)).map (Value.int .i32) = (compsM p bs k).map (Value.int .i32) ++ [.int .i32 (vali ((bs.drop lo).take 4))] by rw [comps_succ, hlo]; simp)
        have hbd := vali4 ((HO.out.drop lo).take 4) hl4
        generalize val ((bs.drop lo).take 4) = V at *
        generalize vali ((bs.drop lo).take 4) = X at *
        obtain ⟨U, hU⟩ : ∃ U, IntKind.u32.wrap V = U := ⟨_, rfl⟩
        have hX : IntKind.i32.wrap U = X := by rw [← hU]; exact HCV.out
        have s1 : (p : Int) + 1 + 4 * (k : Int) = (lo : Int) := by omega
        have s2 : (p : Int) + 5 + 4 * (k : Int) = (lo : Int) + 4 := by omega
        have l0 : (0 : Int) ≤ (lo : Int) := by omega
        have l1 : (lo : Int) + 4 ≤ (n : Int) := by omega
        have l2 : (lo : Int) + 4 ≤ (c : Int) := by omega
        have l3 : ¬ c = lo := by omega
        have hsz := HB.out.size
        clear HCV hbe hl4 hlo hlb
        go_wp2_with (first
          | (go_at_call 44; refine HA.out.mono ?_; rintro e w2 ⟨rfl, rfl⟩)
          | (at_builtin; refine wpList_append_own _ rfl _ _ 23 rfl w.heap.size 21 i0 (.int .i32 0) 1 4 Try.underlying23 hi hz0 hz1 hz2 rfl (by decide) _ _ _ rfl (HV.out.alloc _) ⟨w2.heap.size, 0, none⟩ 1 1 [.int .i32 X] rfl rfl ?c1 ?c2 ?c3 ?c4 ?c5 ?_))
        case c1 => exact cell_one_new _ _ _
        case c2 => intro u hu; simp at hu; subst hu; rfl
        case c3 => unfold maxLen; omega
        case c4 => omega
        case c5 => simp; omega
        · intro v' w3 hown' hgrow _
          have HV3 := Lib.hid (show w3.ownsRow w.heap.size 21 1 v' (k + 1) ((compsM p bs (k + 1)).map (Value.int .i32)) from by rw [HE.out]; exact hown')
          have HB3 := Lib.hid ((HB.out.alloc hsz _).grown hgrow (by simp; omega) (fun j hj => (HV.out.lt j hj).1))
          clear hown' hgrow
          go_wp2
          go_roundw
          case rel => exact ⟨k + 1, by omega, by go_num, HV3, HB3⟩
          case measure => simp [intOf]; omega
      · obtain rfl : m = k := by omega
        obtain ⟨A1, c1, hvv, hvec⟩ := Vec.own (m := 0) (xs := compsM p bs m) (by rw [HL.out]; exact HV.out) HF.out
        rw [HL.out] at hvv
        have HVC := Lib.hid hvec
        have HRt := Lib.hid (rRight_any A1 c1 (compsM p bs m) wr hvec)
        rw [HL.out] at HRt
        clear hvec HV HF
        subst hvv
        cases hr : right (compsM p bs m)
        · have HR := Lib.hid (HZ.out hr)
          rw [hr] at HRt
          clear HY HZ hr
          go_wp2_with (go_at_call 18; refine HRt.out.mono ?_; rintro e w2 ⟨rfl, rfl⟩)
          go_ret3
          rw [HR.out]
          exact ⟨none, 0, rfl, Vec.nil _ _, HB.out⟩
        · have HR := Lib.hid (HY.out hr)
          rw [hr] at HRt
          clear HY HZ hr
          go_wp2_with (go_at_call 18; refine HRt.out.mono ?_; rintro e w2 ⟨rfl, rfl⟩)
          go_ret3
          rw [HR.out]
          exact ⟨A1, c1, by dsimp only; rw [HL.out]; rfl, HVC.out, HB.out⟩

end Go.Proofs.Ythbpnngfdpdjkaa
