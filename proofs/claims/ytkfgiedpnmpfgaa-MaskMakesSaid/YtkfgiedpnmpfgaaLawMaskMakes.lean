/-
  The statement MaskMakes: Check, Of, With and Without answer what the document says; for every row of numbers and every mask, with no condition.
-/
import Derived.Test.YtkfgiedpnmpfgaaMskApp2
import Derived.Deep.Cut
namespace Go.Proofs.Ytkfgiedpnmpfgaa.maskMakes
open Go.ChangeShapes Go.WideShapes Go.ChangeAt Go.RowKit Go.Deep
set_option linter.unusedVariables false
set_option linter.unusedSimpArgs false
set_option maxRecDepth 100000

theorem Vec.takeN {w : World} {A : Option Addr} {c : Nat} {l : List Int} (h : Vec .i64 w A c l) (n : Nat) : Vec .i64 w A c (l.take n) := by
  have hl : (l.take n).length ≤ l.length := by simp; omega
  refine ⟨Nat.le_trans hl h.room, h.most, fun hp => ?_, fun x hx => h.fit x (List.mem_of_mem_take hx)⟩
  obtain ⟨b, o, e, hb, hc⟩ := h.rd (by omega)
  refine ⟨b, o, e, hb, fun j hj => ?_⟩
  have hjn : j < n := by simp at hj; omega
  rw [hc j (by omega)]
  simp [List.getD, List.getElem?_take, hjn]
theorem own_vec {base : Nat} {w : World} {A : Option Addr} {c : Nat} {l : List Int} (hr : w.ownsRow base 3 1 (.slice A l.length c) l.length (l.map (Value.int .i64))) (hf : ∀ x ∈ l, (Lit.int .i64 x).wf = true) : Vec .i64 w A c l := by
  obtain ⟨A', c', e, hv⟩ := Vec.own (m := 0) (k := .i64) hr hf
  injection e with e1 _ e2
  subst e1
  subst e2
  exact hv

set_option maxHeartbeats 16000000 in
theorem walk {w : World} (A : Option Addr) (c : Nat) (q : List Int) (H : Vec .i64 w A c q) (m : Mk) (Hm : Fine m) :
    Calls Try.prog 3 #[.slice A q.length c, mv m] w fun e w' => e = .returned (.bool true) ∧ Below w.heap.size w w' := by
  obtain ⟨hb0, hm0⟩ := mbox_world w m
  obtain ⟨W0, hW0⟩ : ∃ W0, W0 = w.alloc (.cells #[.int .u64 m.1, .int .u64 m.2] 25) := ⟨_, rfl⟩
  rw [← hW0] at hb0 hm0
  obtain ⟨s, hs⟩ : ∃ s, s = w.heap.size := ⟨_, rfl⟩
  rw [← hs] at hm0
  have HS := Lib.hid hs
  have HKm := Lib.hid (fun (X : World) (hX : Below W0.heap.size W0 X) => show X.cell? ⟨s, 0, none⟩ = some (.int .u64 m.1) ∧ X.cell? ⟨s, 1, none⟩ = some (.int .u64 m.2) from ⟨(hm0.below hX hm0.lt).cell0, (hm0.below hX hm0.lt).cell1⟩)
  have HW0 := Lib.hid hW0
  have HB0 := Lib.hid hb0
  have HWk := Lib.hid (wakes_any W0)
  obtain ⟨n, hn⟩ : ∃ n, n = q.length := ⟨_, rfl⟩
  have hmn : (n : Int) ≤ 9223372036854775807 := by have := H.room; have := H.most; omega
  have hnc : n ≤ c := by have := H.room; omega
  have hcm : (c : Int) ≤ 9223372036854775807 := by have := H.most; omega
  obtain ⟨k, hk⟩ : ∃ k, k = min n 30 := ⟨_, rfl⟩
  obtain ⟨l, hl⟩ : ∃ l, l = q.take k := ⟨_, rfl⟩
  have hlk : l.length = k := by rw [hl, List.length_take, hk]; omega
  have hmin : min (n : Int) 30 = k := by omega
  have hk8 : k ≤ 30 := by omega
  have hkn : k ≤ n := by omega
  have hkc : k ≤ c := by omega
  have k0 : (0 : Int) ≤ k := by omega
  have kc : (k : Int) ≤ c := by omega
  have HLK := Lib.hid hlk
  have HF := Lib.hid (show ∀ x ∈ l, (Lit.int .i64 x).wf = true from fun x hx => H.fit x (by rw [hl] at hx; exact List.mem_of_mem_take hx))
  have hrd : ∀ X, Below w.heap.size w X → Read X A k 1 (l.map (Value.int .i64)) := fun X hX => by
    have := Read.vec (Vec.takeN (H.below hX) k)
    rw [← hl, hlk] at this
    exact this
  have HRd := Lib.hid hrd
  have HCg := Lib.hid (fun W => check_any m W Hm)
  have HRr := Lib.hid (fun W => rRight_any m W Hm)
  have HWi := Lib.hid (fun (x : Int) (hx : -9223372036854775808 ≤ x ∧ x ≤ 9223372036854775807) W => with_any m x W Hm hx)
  have HWo := Lib.hid (fun (x : Int) (hx : -9223372036854775808 ≤ x ∧ x ≤ 9223372036854775807) W => without_any m x W Hm hx)
  have HRWi := Lib.hid (fun (x : Nat) (hx : x < 96) (hr : rightM m = true) W => show Calls Try.prog 16 #[mv m, .int .i64 x] W (fun e w' => e = .returned (mv (withM m x)) ∧ Below W.heap.size W w') from by
    have := rWith_any m x W Hm hx
    rw [withW_right hr hx] at this
    exact this)
  have HRWo := Lib.hid (fun (x : Nat) (hx : x < 96) W => show Calls Try.prog 17 #[mv m, .int .i64 x] W (fun e w' => e = .returned (mv (withoutM m x)) ∧ Below W.heap.size W w') from by
    have := rWithout_any m x W Hm hx
    rw [show mk (fun k => has m k && !decide (k = x)) = withoutM m x from by unfold withoutM; exact mk_congr (fun k hk => by congr 2; rw [decide_eq_decide]; omega)] at this
    exact this)
  have hq0 : ∀ W, (Op.equalIn 10000 25 (.agg #[.int .u64 0, .int .u64 0]) (.agg #[.int .u64 0, .int .u64 0])).run Try.prog W = .ok true W := fun W => by rw [eqM0]; rfl
  have HEq := Lib.hid (fun (M : Mk) W => show (Op.equalIn 10000 25 (.agg #[.int .u64 M.1, .int .u64 M.2]) (.agg #[.int .u64 M.1, .int .u64 M.2])).run Try.prog W = .ok true W from by rw [eqM]; simp)
  rw [← hn]
  clear hrd H hn hl hlk hk hb0 hm0 hW0 hs Hm
  unfold mv at HCg HRr HWi HWo HRWi HRWo ⊢
  rcases A with _ | ad
  · have hk0 : k = 0 := (HRd.out w (Below.refl _ _)).2.2.1 rfl
    subst hk0
    have hn0 : n = 0 := by omega
    subst hn0
    obtain rfl : l = [] := List.eq_nil_of_length_eq_zero HLK.out
    go_enter Try.func3, Try.ntmps3
    go_wp2_with fail
    rw [show w.alloc (.cells #[.int .u64 m.1, .int .u64 m.2] 25) = W0 from HW0.out.symm, ← HS.out]
    refine HWk.out.mono ?_
    rintro e w1 ⟨rfl, hb1⟩
    have HB1 := Lib.hid hb1
    clear hb1
    go_upto_region 4 with fail
    simp only [show (min (0 : Int) 30).toNat = 0 from rfl]
    obtain ⟨w5, hw5⟩ : ∃ w5, w5 = w1.alloc (.cells #[] 3) := ⟨_, rfl⟩
    rw [← hw5]
    have HBm := Lib.hid (show Below W0.heap.size W0 w5 from by rw [hw5]; exact HB1.out.alloc HB1.out.size _)
    have HB5 := Lib.hid (HB0.out.trans (HBm.out.mono HB0.out.size))
    obtain ⟨A5, hA5⟩ : ∃ A5 : Option Addr, A5 = some ⟨w1.heap.size, 0, none⟩ := ⟨_, rfl⟩
    rw [← hA5]
    clear HLK HF HRd hmin hk8 hkn hkc k0 kc hnc hmn
    obtain ⟨c5, hc50⟩ : ∃ c5 : Nat, c5 = 0 := ⟨_, rfl⟩
    obtain ⟨k, hk⟩ : ∃ k : Nat, k = 0 := ⟨_, rfl⟩
    obtain ⟨l, hl⟩ : ∃ l : List Int, l = [] := ⟨_, rfl⟩
    rw [show Value.slice A5 0 0 = Value.slice A5 k c5 from by rw [hk, hc50]]
    have HLK := Lib.hid (show l.length = k from by rw [hl, hk]; rfl)
    have HV5 := Lib.hid (show Vec .i64 w5 A5 c5 l from by rw [hl, hc50]; exact ⟨by simp, by omega, fun h => absurd h (by simp), by simp⟩)
    have hk8 : k ≤ 30 := by omega
    clear hw5 hA5 hc50 hk hl
    have hk5 : k ≤ c5 := by have := HV5.out.room; rw [HLK.out] at this; exact this
    have hc5 : (c5 : Int) ≤ 9223372036854775807 := by have := HV5.out.most; omega
    go_wp2
    go_loopw [5, 29] (fun v i wr => ∃ (j : Nat) (fb : Bool), j ≤ k ∧ i = .int .i64 j ∧ v = .bool fb ∧ wr = w5 ∧ Hid (fb = (l.take j).all slotB)) (fun _ i _ => k - (intOf i).toNat)
    case atStart => exact ⟨0, true, by omega, rfl, rfl, rfl, Lib.hid rfl⟩
    case round =>
      obtain ⟨j, fb, hj, rfl, rfl, rfl, HFb⟩ := hrel
      by_cases hjk : j < k
      · obtain ⟨b, o, rfl, hb, hcell⟩ := HV5.out.at_ (j := j) (by rw [HLK.out]; exact hjk)
        obtain ⟨x, hx⟩ : ∃ x, l[j]? = some x := ⟨_, List.getElem?_eq_getElem (by rw [HLK.out]; exact hjk)⟩
        have hxg : l.getD j 0 = x := by simp [List.getD, hx]
        rw [hxg] at hcell
        have j0 : (0 : Int) ≤ j := by omega
        have jk : (j : Int) < k := by omega
        have hsn := all_snoc slotB l hx
        have HSl := Lib.hid (fun W => rSlot_any x W)
        cases hfb : fb with
        | false =>
          have HS1 := Lib.hid (show false = (l.take (j + 1)).all slotB from by rw [hsn, ← HFb.out, hfb]; rfl)
          subst hfb
          clear hx hxg hsn hb
          go_wp2
          go_roundw
          case rel => exact ⟨j + 1, false, by omega, by go_num, rfl, by simp, HS1⟩
          case measure => simp [intOf]; omega
        | true =>
          have HS1 := Lib.hid (show slotB x = (l.take (j + 1)).all slotB from by rw [hsn, ← HFb.out, hfb]; rfl)
          subst hfb
          generalize slotB x = sx at *
          clear hx hxg hsn hb
          go_wp2_with fail
          refine (HSl.out _).mono ?_
          rintro e w2 ⟨rfl, rfl⟩
          go_wp2
          go_roundw
          case rel => exact ⟨j + 1, sx, by omega, by go_num, rfl, by simp, HS1⟩
          case measure => simp [intOf]; omega
      · obtain rfl : j = k := by omega
        have hall := HFb.out
        rw [show l.take j = l by rw [← HLK.out, List.take_length]] at hall
        obtain ⟨e0, he0⟩ : ∃ e, e = ofE l := ⟨_, rfl⟩
        obtain ⟨M0, hM0⟩ : ∃ M, M = if ofE l = 0 then ofM l else (0, 0) := ⟨_, rfl⟩
        have HOf := Lib.hid (fun (W : World) (hW : Below wr.heap.size wr W) => show Calls Try.prog 10 #[.slice A5 j c5] W (fun e w' => e = .returned (.tuple #[mv M0, .int .i64 e0]) ∧ Below W.heap.size W w') from by
          have := of_any A5 c5 l W (HV5.out.below hW)
          rw [HLK.out] at this
          rw [he0, hM0]; exact this)
        have HE := Lib.hid he0
        have HM := Lib.hid hM0
        have HAl := Lib.hid hall
        clear he0 hM0 hall
        unfold mv at HOf
        go_wp2_with fail
        refine (HOf.out _ (Below.refl _ _)).mono ?_
        rintro e w6 ⟨rfl, hb6⟩
        obtain ⟨W7, hW7⟩ : ∃ W7, W7 = w6.alloc (.cells #[.int .u64 M0.1, .int .u64 M0.2] 25) := ⟨_, rfl⟩
        obtain ⟨g7, hg7⟩ : ∃ g, g = w6.heap.size := ⟨_, rfl⟩
        have hm7 : MRow W7 g7 M0.1 M0.2 := by rw [hW7, hg7]; exact MRow.new w6 _ _
        have hb7 : Below wr.heap.size wr W7 := by rw [hW7]; exact hb6.alloc hb6.size _
        have HK7 := Lib.hid (fun (X : World) (hX : Below W7.heap.size W7 X) => And.intro (hm7.below hX hm7.lt).cell0 (hm7.below hX hm7.lt).cell1)
        have HB7 := Lib.hid hb7
        have HW7 := Lib.hid hW7
        have HG7 := Lib.hid hg7
        clear hb6 hW7 hg7 hm7 hb7
        go_upto_region 11 with fail
        rw [← HW7.out, ← HG7.out]
        cases hfb : fb with
        | false =>
          have hall := HAl.out
          rw [hfb] at hall
          obtain rfl : e0 = 2 := by rw [HE.out]; unfold ofE; rw [← hall]; rfl
          have hM2 : M0 = (0, 0) := by rw [HM.out, ← HE.out]; rfl
          have hqz : ∀ W, (Op.equalIn 10000 25 (.agg #[.int .u64 M0.1, .int .u64 M0.2]) (.agg #[.int .u64 0, .int .u64 0])).run Try.prog W = .ok true W := fun W => by rw [eqM0, hM2]; rfl
          subst hfb
          clear hall hM2
          refine region_quiet (fun X => Below W7.heap.size W7 X) (by kernel_rfl) (by kernel_rfl) (below_drew (Below.refl _ _)) ?_
          repeat (first | go_big_quiet_skip | (go_big_quiet_want; go_big_quiet_op; first | go_big_quiet_on | (refine ⟨_, fun _ _ => rfl, ?_⟩; go_big_quiet_on) | (apply Exists.intro; refine ⟨fun W hW => ?_, ?_⟩; (focus (obtain ⟨z0, z1⟩ := HK7.out W hW; simp only [Result.andThen, z0, z1]; exact ⟨trivial, rfl⟩)); go_big_quiet_on)))
          refine wpQuiet_nil ?_
          intro w8 hq8
          have HB8 := Lib.hid (HB7.out.trans (hq8.mono HB7.out.size))
          clear hq8 hqz
          have HBx := Lib.hid (HBm.out.trans (HB8.out.mono HBm.out.size))
          obtain ⟨a0, a1⟩ := HKm.out w8 HBx.out
          go_wp2_with fail
          refine (HRr.out _).mono ?_
          rintro e w9 ⟨rfl, hb9⟩
          have HB9 := Lib.hid (HB8.out.trans (hb9.mono HB8.out.size))
          clear hb9 a0 a1
          obtain ⟨a0, a1⟩ := HKm.out w9 (HBm.out.trans (HB9.out.mono HBm.out.size))
          go_wp2_with fail
          refine (HCg.out _).mono ?_
          rintro e w10 ⟨rfl, hb10⟩
          have HB10 := Lib.hid (HB9.out.trans (hb10.mono HB9.out.size))
          clear hb10 a0 a1
          cases hr : rightM m with
          | false =>
            have hch : chkM m = 200 := by unfold chkM; rw [hr]; rfl
            rw [hch]
            have HCh := Lib.hid (fun (x : Int) => show chgM m x = 200 from by unfold chgM; rw [hr]; rfl)
            clear hch hr
            go_wp2
            go_loopw [86] (fun i wq => ∃ (j2 : Nat), j2 ≤ j ∧ i = .int .i64 j2 ∧ Hid (Below wr.heap.size wr wq)) (fun i _ => j - (intOf i).toNat)
            case atStart => exact ⟨0, by omega, rfl, HB10⟩
            case round =>
              rename World => wq
              obtain ⟨j2, hj2, rfl, HQ⟩ := hrel
              by_cases hjk2 : j2 < j
              · obtain ⟨b, o, rfl, hb, hcell⟩ := (HV5.out.below HQ.out).at_ (j := j2) (by rw [HLK.out]; exact hjk2)
                obtain ⟨x, hx⟩ : ∃ x, l[j2]? = some x := ⟨_, List.getElem?_eq_getElem (by rw [HLK.out]; exact hjk2)⟩
                have hxg : l.getD j2 0 = x := by simp [List.getD, hx]
                rw [hxg] at hcell
                have hfit := HV5.out.fit x (List.mem_of_getElem? hx)
                have hxr : -9223372036854775808 ≤ x ∧ x ≤ 9223372036854775807 := i64_fit hfit
                have j0 : (0 : Int) ≤ j2 := by omega
                have jk : (j2 : Int) < j := by omega
                have HWix := Lib.hid (fun W => HWi.out x hxr W)
                have HWox := Lib.hid (fun W => HWo.out x hxr W)
                unfold GivesME mv at HWix HWox
                obtain ⟨a0, a1⟩ := HKm.out wq (HBm.out.trans (HQ.out.mono HBm.out.size))
                rw [HCh.out x, if_neg (by decide)] at HWix HWox
                clear hx hxg hb hfit hxr
                go_wp2_with fail
                refine (HWix.out _).mono ?_
                rintro e w11 ⟨rfl, hb11⟩
                obtain ⟨W11, hW11⟩ : ∃ W11, W11 = w11.alloc (.cells #[.int .u64 0, .int .u64 0] 25) := ⟨_, rfl⟩
                obtain ⟨g11, hg11⟩ : ∃ g, g = w11.heap.size := ⟨_, rfl⟩
                have hm11 : MRow W11 g11 0 0 := by rw [hW11, hg11]; exact MRow.new w11 _ _
                have hb11' : Below wq.heap.size wq W11 := by rw [hW11]; exact hb11.alloc hb11.size _
                have HW11 := Lib.hid hW11
                have HG11 := Lib.hid hg11
                have HB11 := Lib.hid (HQ.out.trans (hb11'.mono HQ.out.size))
                have HM11 := Lib.hid hm11
                clear hb11 hW11 hg11 hm11 hb11' a0 a1
                obtain ⟨a0, a1⟩ := HKm.out W11 (HBm.out.trans (HB11.out.mono HBm.out.size))
                go_upto_region 21 with fail
                rw [← HW11.out]
                go_wp2_with fail
                refine (HWox.out _).mono ?_
                rintro e w12 ⟨rfl, hb12⟩
                obtain ⟨W12, hW12⟩ : ∃ W12, W12 = w12.alloc (.cells #[.int .u64 0, .int .u64 0] 25) := ⟨_, rfl⟩
                obtain ⟨g12, hg12⟩ : ∃ g, g = w12.heap.size := ⟨_, rfl⟩
                have hm12 : MRow W12 g12 0 0 := by rw [hW12, hg12]; exact MRow.new w12 _ _
                have hb12' : Below W11.heap.size W11 W12 := by rw [hW12]; exact hb12.alloc hb12.size _
                have HW12 := Lib.hid hW12
                have HG12 := Lib.hid hg12
                have HB12 := Lib.hid (HB11.out.trans (hb12'.mono HB11.out.size))
                have HK12 := Lib.hid (fun (X : World) (hX : Below W12.heap.size W12 X) => show (X.cell? ⟨s, 0, none⟩ = some (.int .u64 m.1) ∧ X.cell? ⟨s, 1, none⟩ = some (.int .u64 m.2)) ∧ (X.cell? ⟨g11, 0, none⟩ = some (.int .u64 0) ∧ X.cell? ⟨g11, 1, none⟩ = some (.int .u64 0)) ∧ (X.cell? ⟨g12, 0, none⟩ = some (.int .u64 0) ∧ X.cell? ⟨g12, 1, none⟩ = some (.int .u64 0)) from by
                  have h1 := HKm.out X (HBm.out.trans ((HB12.out.trans (hX.mono HB12.out.size)).mono HBm.out.size))
                  have h2 := (HM11.out.below hb12' HM11.out.lt).below hX (Nat.lt_of_lt_of_le HM11.out.lt hb12'.size)
                  have h3 := hm12.below hX hm12.lt
                  exact ⟨h1, ⟨h2.cell0, h2.cell1⟩, ⟨h3.cell0, h3.cell1⟩⟩)
                clear hb12 hW12 hg12 hm12 hb12' a0 a1
                obtain ⟨⟨a0, a1⟩, ⟨a2, a3⟩, ⟨a4, a5⟩⟩ := HK12.out W12 (Below.refl _ _)
                go_upto_region 23 with fail
                rw [← HW12.out, ← HG11.out, ← HG12.out]
                go_wp2
                go_roundw
                case rel => exact ⟨j2 + 1, by omega, by go_num, HB12⟩
                case measure => simp [intOf]; omega
              · obtain rfl : j2 = j := by omega
                go_wp2
                go_ret
                exact ⟨rfl, HB5.out.trans (HQ.out.mono HB5.out.size)⟩
          | true =>
            have hch : chkM m = 0 := by unfold chkM; rw [hr]; rfl
            rw [hch]
            have HCh := Lib.hid (fun (x : Int) => show chgM m x = if slotB x then 0 else 2 from by unfold chgM; rw [hr]; rfl)
            have HRt := Lib.hid hr
            clear hch hr
            go_wp2
            go_loopw [86] (fun i wq => ∃ (j2 : Nat), j2 ≤ j ∧ i = .int .i64 j2 ∧ Hid (Below wr.heap.size wr wq)) (fun i _ => j - (intOf i).toNat)
            case atStart => exact ⟨0, by omega, rfl, HB10⟩
            case round =>
              rename World => wq
              obtain ⟨j2, hj2, rfl, HQ⟩ := hrel
              by_cases hjk2 : j2 < j
              · obtain ⟨b, o, rfl, hb, hcell⟩ := (HV5.out.below HQ.out).at_ (j := j2) (by rw [HLK.out]; exact hjk2)
                obtain ⟨x, hx⟩ : ∃ x, l[j2]? = some x := ⟨_, List.getElem?_eq_getElem (by rw [HLK.out]; exact hjk2)⟩
                have hxg : l.getD j2 0 = x := by simp [List.getD, hx]
                rw [hxg] at hcell
                have hfit := HV5.out.fit x (List.mem_of_getElem? hx)
                have hxr : -9223372036854775808 ≤ x ∧ x ≤ 9223372036854775807 := i64_fit hfit
                have j0 : (0 : Int) ≤ j2 := by omega
                have jk : (j2 : Int) < j := by omega
                have HWix := Lib.hid (fun W => HWi.out x hxr W)
                have HWox := Lib.hid (fun W => HWo.out x hxr W)
                unfold GivesME mv at HWix HWox
                obtain ⟨a0, a1⟩ := HKm.out wq (HBm.out.trans (HQ.out.mono HBm.out.size))
                have HSl := Lib.hid (fun W => rSlot_any x W)
                cases hsl : slotB x with
                | false =>
                  rw [HCh.out x, hsl, if_neg (by decide), if_neg (by decide)] at HWix HWox
                  rw [hsl] at HSl
                  clear hx hxg hb hfit hxr hsl
                  go_wp2_with fail
                  refine (HWix.out _).mono ?_
                  rintro e w11 ⟨rfl, hb11⟩
                  obtain ⟨W11, hW11⟩ : ∃ W11, W11 = w11.alloc (.cells #[.int .u64 0, .int .u64 0] 25) := ⟨_, rfl⟩
                  obtain ⟨g11, hg11⟩ : ∃ g, g = w11.heap.size := ⟨_, rfl⟩
                  have hm11 : MRow W11 g11 0 0 := by rw [hW11, hg11]; exact MRow.new w11 _ _
                  have hb11' : Below wq.heap.size wq W11 := by rw [hW11]; exact hb11.alloc hb11.size _
                  have HW11 := Lib.hid hW11
                  have HG11 := Lib.hid hg11
                  have HB11 := Lib.hid (HQ.out.trans (hb11'.mono HQ.out.size))
                  have HM11 := Lib.hid hm11
                  clear hb11 hW11 hg11 hm11 hb11' a0 a1
                  obtain ⟨a0, a1⟩ := HKm.out W11 (HBm.out.trans (HB11.out.mono HBm.out.size))
                  go_upto_region 21 with fail
                  rw [← HW11.out]
                  go_wp2_with fail
                  refine (HWox.out _).mono ?_
                  rintro e w12 ⟨rfl, hb12⟩
                  obtain ⟨W12, hW12⟩ : ∃ W12, W12 = w12.alloc (.cells #[.int .u64 0, .int .u64 0] 25) := ⟨_, rfl⟩
                  obtain ⟨g12, hg12⟩ : ∃ g, g = w12.heap.size := ⟨_, rfl⟩
                  have hm12 : MRow W12 g12 0 0 := by rw [hW12, hg12]; exact MRow.new w12 _ _
                  have hb12' : Below W11.heap.size W11 W12 := by rw [hW12]; exact hb12.alloc hb12.size _
                  have HW12 := Lib.hid hW12
                  have HG12 := Lib.hid hg12
                  have HB12 := Lib.hid (HB11.out.trans (hb12'.mono HB11.out.size))
                  have HK12 := Lib.hid (fun (X : World) (hX : Below W12.heap.size W12 X) => show (X.cell? ⟨s, 0, none⟩ = some (.int .u64 m.1) ∧ X.cell? ⟨s, 1, none⟩ = some (.int .u64 m.2)) ∧ (X.cell? ⟨g11, 0, none⟩ = some (.int .u64 0) ∧ X.cell? ⟨g11, 1, none⟩ = some (.int .u64 0)) ∧ (X.cell? ⟨g12, 0, none⟩ = some (.int .u64 0) ∧ X.cell? ⟨g12, 1, none⟩ = some (.int .u64 0)) from by
                    have h1 := HKm.out X (HBm.out.trans ((HB12.out.trans (hX.mono HB12.out.size)).mono HBm.out.size))
                    have h2 := (HM11.out.below hb12' HM11.out.lt).below hX (Nat.lt_of_lt_of_le HM11.out.lt hb12'.size)
                    have h3 := hm12.below hX hm12.lt
                    exact ⟨h1, ⟨h2.cell0, h2.cell1⟩, ⟨h3.cell0, h3.cell1⟩⟩)
                  clear hb12 hW12 hg12 hm12 hb12' a0 a1
                  obtain ⟨⟨a0, a1⟩, ⟨a2, a3⟩, ⟨a4, a5⟩⟩ := HK12.out W12 (Below.refl _ _)
                  go_upto_region 25 with fail
                  rw [← HW12.out]
                  go_wp2_with fail
                  refine (HSl.out _).mono ?_
                  rintro e w13 ⟨rfl, rfl⟩
                  rw [← HG11.out, ← HG12.out]
                  go_wp2
                  go_roundw
                  case rel => exact ⟨j2 + 1, by omega, by go_num, HB12⟩
                  case measure => simp [intOf]; omega
                | true =>
                  obtain ⟨hx0, hx96⟩ := slotB_yes hsl
                  obtain ⟨y, rfl⟩ := Int.eq_ofNat_of_zero_le hx0
                  rw [HCh.out y, hsl, if_pos rfl, if_pos rfl] at HWix HWox
                  rw [hsl] at HSl
                  have HRx := Lib.hid (fun W => HRWi.out y (by omega) HRt.out W)
                  have HRy := Lib.hid (fun W => HRWo.out y (by omega) W)
                  have hqA := HEq.out (withM m y)
                  have hqB := HEq.out (withoutM m y)
                  generalize withM m y = MA at *
                  generalize withoutM m y = MB at *
                  clear hx hxg hb hfit hxr hsl
                  go_wp2_with fail
                  refine (HWix.out _).mono ?_
                  rintro e w11 ⟨rfl, hb11⟩
                  obtain ⟨W11, hW11⟩ : ∃ W11, W11 = w11.alloc (.cells #[.int .u64 MA.1, .int .u64 MA.2] 25) := ⟨_, rfl⟩
                  obtain ⟨g11, hg11⟩ : ∃ g, g = w11.heap.size := ⟨_, rfl⟩
                  have hm11 : MRow W11 g11 MA.1 MA.2 := by rw [hW11, hg11]; exact MRow.new w11 _ _
                  have hb11' : Below wq.heap.size wq W11 := by rw [hW11]; exact hb11.alloc hb11.size _
                  have HW11 := Lib.hid hW11
                  have HG11 := Lib.hid hg11
                  have HB11 := Lib.hid (HQ.out.trans (hb11'.mono HQ.out.size))
                  have HM11 := Lib.hid hm11
                  clear hb11 hW11 hg11 hm11 hb11' a0 a1
                  obtain ⟨a0, a1⟩ := HKm.out W11 (HBm.out.trans (HB11.out.mono HBm.out.size))
                  go_upto_region 21 with fail
                  rw [← HW11.out]
                  go_wp2_with fail
                  refine (HWox.out _).mono ?_
                  rintro e w12 ⟨rfl, hb12⟩
                  obtain ⟨W12, hW12⟩ : ∃ W12, W12 = w12.alloc (.cells #[.int .u64 MB.1, .int .u64 MB.2] 25) := ⟨_, rfl⟩
                  obtain ⟨g12, hg12⟩ : ∃ g, g = w12.heap.size := ⟨_, rfl⟩
                  have hm12 : MRow W12 g12 MB.1 MB.2 := by rw [hW12, hg12]; exact MRow.new w12 _ _
                  have hb12' : Below W11.heap.size W11 W12 := by rw [hW12]; exact hb12.alloc hb12.size _
                  have HW12 := Lib.hid hW12
                  have HG12 := Lib.hid hg12
                  have HB12 := Lib.hid (HB11.out.trans (hb12'.mono HB11.out.size))
                  have HK12 := Lib.hid (fun (X : World) (hX : Below W12.heap.size W12 X) => show (X.cell? ⟨s, 0, none⟩ = some (.int .u64 m.1) ∧ X.cell? ⟨s, 1, none⟩ = some (.int .u64 m.2)) ∧ (X.cell? ⟨g11, 0, none⟩ = some (.int .u64 MA.1) ∧ X.cell? ⟨g11, 1, none⟩ = some (.int .u64 MA.2)) ∧ (X.cell? ⟨g12, 0, none⟩ = some (.int .u64 MB.1) ∧ X.cell? ⟨g12, 1, none⟩ = some (.int .u64 MB.2)) from by
                    have h1 := HKm.out X (HBm.out.trans ((HB12.out.trans (hX.mono HB12.out.size)).mono HBm.out.size))
                    have h2 := (HM11.out.below hb12' HM11.out.lt).below hX (Nat.lt_of_lt_of_le HM11.out.lt hb12'.size)
                    have h3 := hm12.below hX hm12.lt
                    exact ⟨h1, ⟨h2.cell0, h2.cell1⟩, ⟨h3.cell0, h3.cell1⟩⟩)
                  clear hb12 hW12 hg12 hm12 hb12' a0 a1
                  obtain ⟨⟨a0, a1⟩, ⟨a2, a3⟩, ⟨a4, a5⟩⟩ := HK12.out W12 (Below.refl _ _)
                  go_upto_region 25 with fail
                  rw [← HW12.out]
                  go_wp2_with fail
                  refine (HSl.out _).mono ?_
                  rintro e w13 ⟨rfl, rfl⟩
                  rw [← HG11.out, ← HG12.out]
                  go_upto_region 28 with fail
                  refine region_quiet (fun X => Below W12.heap.size W12 X) (by kernel_rfl) (by kernel_rfl) (below_drew (Below.refl _ _)) ?_
                  repeat (first | go_big_quiet_skip | (go_big_quiet_want; go_big_quiet_op; first | go_big_quiet_on | (refine ⟨_, fun _ _ => rfl, ?_⟩; go_big_quiet_on) | (apply Exists.intro; refine ⟨fun W hW => ?_, ?_⟩; (focus (obtain ⟨⟨z0, z1⟩, ⟨z2, z3⟩, ⟨z4, z5⟩⟩ := HK12.out W hW; simp only [Result.andThen, z0, z1, z2, z3, z4, z5]; exact ⟨trivial, rfl⟩)); go_big_quiet_on) | (apply Exists.intro; refine ⟨fun W hW => ?_, ?_⟩; (focus ((with_reducible refine (HRx.out W).mono ?_); intro _ _ h; exact ⟨h.1, hW.trans (h.2.mono hW.size)⟩)); go_big_quiet_on) | (apply Exists.intro; refine ⟨fun W hW => ?_, ?_⟩; (focus ((with_reducible refine (HRy.out W).mono ?_); intro _ _ h; exact ⟨h.1, hW.trans (h.2.mono hW.size)⟩)); go_big_quiet_on)))
                  refine wpQuiet_nil ?_
                  intro w14 hq14
                  have HB14 := Lib.hid (HB12.out.trans (hq14.mono HB12.out.size))
                  clear hq14 hqA hqB
                  go_wp2
                  go_roundw
                  case rel => exact ⟨j2 + 1, by omega, by go_num, HB14⟩
                  case measure => simp [intOf]; omega
              · obtain rfl : j2 = j := by omega
                go_wp2
                go_ret
                exact ⟨rfl, HB5.out.trans (HQ.out.mono HB5.out.size)⟩
        | true =>
          have hall := HAl.out
          rw [hfb] at hall
          obtain rfl : e0 = 0 := by rw [HE.out]; unfold ofE; rw [← hall]; rfl
          have hMr : M0 = ofM l := by rw [HM.out, ← HE.out]; rfl
          have HRO := Lib.hid (fun (W : World) (hW : Below W7.heap.size W7 W) => show Calls Try.prog 11 #[.slice A5 j c5] W (fun e w' => e = .returned (mv M0) ∧ Below W.heap.size W w') from by
            have := rOf_any A5 c5 l W (HV5.out.below (HB7.out.trans (hW.mono HB7.out.size))) hall.symm
            rw [HLK.out, ← hMr] at this
            exact this)
          have hqM := HEq.out M0
          unfold mv at HRO
          subst hfb
          clear hall hMr
          refine region_quiet (fun X => Below W7.heap.size W7 X) (by kernel_rfl) (by kernel_rfl) (below_drew (Below.refl _ _)) ?_
          repeat (first | go_big_quiet_skip | (go_big_quiet_want; go_big_quiet_op; first | go_big_quiet_on | (refine ⟨_, fun _ _ => rfl, ?_⟩; go_big_quiet_on) | (apply Exists.intro; refine ⟨fun W hW => ?_, ?_⟩; (focus (obtain ⟨z0, z1⟩ := HK7.out W hW; simp only [Result.andThen, z0, z1]; exact ⟨trivial, rfl⟩)); go_big_quiet_on) | (apply Exists.intro; refine ⟨fun W hW => ?_, ?_⟩; (focus ((with_reducible refine (HRO.out W hW).mono ?_); intro _ _ h; exact ⟨h.1, hW.trans (h.2.mono hW.size)⟩)); go_big_quiet_on)))
          refine wpQuiet_nil ?_
          intro w8 hq8
          have HB8 := Lib.hid (HB7.out.trans (hq8.mono HB7.out.size))
          clear hq8 hqM
          have HBx := Lib.hid (HBm.out.trans (HB8.out.mono HBm.out.size))
          obtain ⟨a0, a1⟩ := HKm.out w8 HBx.out
          go_wp2_with fail
          refine (HRr.out _).mono ?_
          rintro e w9 ⟨rfl, hb9⟩
          have HB9 := Lib.hid (HB8.out.trans (hb9.mono HB8.out.size))
          clear hb9 a0 a1
          obtain ⟨a0, a1⟩ := HKm.out w9 (HBm.out.trans (HB9.out.mono HBm.out.size))
          go_wp2_with fail
          refine (HCg.out _).mono ?_
          rintro e w10 ⟨rfl, hb10⟩
          have HB10 := Lib.hid (HB9.out.trans (hb10.mono HB9.out.size))
          clear hb10 a0 a1
          cases hr : rightM m with
          | false =>
            have hch : chkM m = 200 := by unfold chkM; rw [hr]; rfl
            rw [hch]
            have HCh := Lib.hid (fun (x : Int) => show chgM m x = 200 from by unfold chgM; rw [hr]; rfl)
            clear hch hr
            go_wp2
            go_loopw [86] (fun i wq => ∃ (j2 : Nat), j2 ≤ j ∧ i = .int .i64 j2 ∧ Hid (Below wr.heap.size wr wq)) (fun i _ => j - (intOf i).toNat)
            case atStart => exact ⟨0, by omega, rfl, HB10⟩
            case round =>
              rename World => wq
              obtain ⟨j2, hj2, rfl, HQ⟩ := hrel
              by_cases hjk2 : j2 < j
              · obtain ⟨b, o, rfl, hb, hcell⟩ := (HV5.out.below HQ.out).at_ (j := j2) (by rw [HLK.out]; exact hjk2)
                obtain ⟨x, hx⟩ : ∃ x, l[j2]? = some x := ⟨_, List.getElem?_eq_getElem (by rw [HLK.out]; exact hjk2)⟩
                have hxg : l.getD j2 0 = x := by simp [List.getD, hx]
                rw [hxg] at hcell
                have hfit := HV5.out.fit x (List.mem_of_getElem? hx)
                have hxr : -9223372036854775808 ≤ x ∧ x ≤ 9223372036854775807 := i64_fit hfit
                have j0 : (0 : Int) ≤ j2 := by omega
                have jk : (j2 : Int) < j := by omega
                have HWix := Lib.hid (fun W => HWi.out x hxr W)
                have HWox := Lib.hid (fun W => HWo.out x hxr W)
                unfold GivesME mv at HWix HWox
                obtain ⟨a0, a1⟩ := HKm.out wq (HBm.out.trans (HQ.out.mono HBm.out.size))
                rw [HCh.out x, if_neg (by decide)] at HWix HWox
                clear hx hxg hb hfit hxr
                go_wp2_with fail
                refine (HWix.out _).mono ?_
                rintro e w11 ⟨rfl, hb11⟩
                obtain ⟨W11, hW11⟩ : ∃ W11, W11 = w11.alloc (.cells #[.int .u64 0, .int .u64 0] 25) := ⟨_, rfl⟩
                obtain ⟨g11, hg11⟩ : ∃ g, g = w11.heap.size := ⟨_, rfl⟩
                have hm11 : MRow W11 g11 0 0 := by rw [hW11, hg11]; exact MRow.new w11 _ _
                have hb11' : Below wq.heap.size wq W11 := by rw [hW11]; exact hb11.alloc hb11.size _
                have HW11 := Lib.hid hW11
                have HG11 := Lib.hid hg11
                have HB11 := Lib.hid (HQ.out.trans (hb11'.mono HQ.out.size))
                have HM11 := Lib.hid hm11
                clear hb11 hW11 hg11 hm11 hb11' a0 a1
                obtain ⟨a0, a1⟩ := HKm.out W11 (HBm.out.trans (HB11.out.mono HBm.out.size))
                go_upto_region 21 with fail
                rw [← HW11.out]
                go_wp2_with fail
                refine (HWox.out _).mono ?_
                rintro e w12 ⟨rfl, hb12⟩
                obtain ⟨W12, hW12⟩ : ∃ W12, W12 = w12.alloc (.cells #[.int .u64 0, .int .u64 0] 25) := ⟨_, rfl⟩
                obtain ⟨g12, hg12⟩ : ∃ g, g = w12.heap.size := ⟨_, rfl⟩
                have hm12 : MRow W12 g12 0 0 := by rw [hW12, hg12]; exact MRow.new w12 _ _
                have hb12' : Below W11.heap.size W11 W12 := by rw [hW12]; exact hb12.alloc hb12.size _
                have HW12 := Lib.hid hW12
                have HG12 := Lib.hid hg12
                have HB12 := Lib.hid (HB11.out.trans (hb12'.mono HB11.out.size))
                have HK12 := Lib.hid (fun (X : World) (hX : Below W12.heap.size W12 X) => show (X.cell? ⟨s, 0, none⟩ = some (.int .u64 m.1) ∧ X.cell? ⟨s, 1, none⟩ = some (.int .u64 m.2)) ∧ (X.cell? ⟨g11, 0, none⟩ = some (.int .u64 0) ∧ X.cell? ⟨g11, 1, none⟩ = some (.int .u64 0)) ∧ (X.cell? ⟨g12, 0, none⟩ = some (.int .u64 0) ∧ X.cell? ⟨g12, 1, none⟩ = some (.int .u64 0)) from by
                  have h1 := HKm.out X (HBm.out.trans ((HB12.out.trans (hX.mono HB12.out.size)).mono HBm.out.size))
                  have h2 := (HM11.out.below hb12' HM11.out.lt).below hX (Nat.lt_of_lt_of_le HM11.out.lt hb12'.size)
                  have h3 := hm12.below hX hm12.lt
                  exact ⟨h1, ⟨h2.cell0, h2.cell1⟩, ⟨h3.cell0, h3.cell1⟩⟩)
                clear hb12 hW12 hg12 hm12 hb12' a0 a1
                obtain ⟨⟨a0, a1⟩, ⟨a2, a3⟩, ⟨a4, a5⟩⟩ := HK12.out W12 (Below.refl _ _)
                go_upto_region 23 with fail
                rw [← HW12.out, ← HG11.out, ← HG12.out]
                go_wp2
                go_roundw
                case rel => exact ⟨j2 + 1, by omega, by go_num, HB12⟩
                case measure => simp [intOf]; omega
              · obtain rfl : j2 = j := by omega
                go_wp2
                go_ret
                exact ⟨rfl, HB5.out.trans (HQ.out.mono HB5.out.size)⟩
          | true =>
            have hch : chkM m = 0 := by unfold chkM; rw [hr]; rfl
            rw [hch]
            have HCh := Lib.hid (fun (x : Int) => show chgM m x = if slotB x then 0 else 2 from by unfold chgM; rw [hr]; rfl)
            have HRt := Lib.hid hr
            clear hch hr
            go_wp2
            go_loopw [86] (fun i wq => ∃ (j2 : Nat), j2 ≤ j ∧ i = .int .i64 j2 ∧ Hid (Below wr.heap.size wr wq)) (fun i _ => j - (intOf i).toNat)
            case atStart => exact ⟨0, by omega, rfl, HB10⟩
            case round =>
              rename World => wq
              obtain ⟨j2, hj2, rfl, HQ⟩ := hrel
              by_cases hjk2 : j2 < j
              · obtain ⟨b, o, rfl, hb, hcell⟩ := (HV5.out.below HQ.out).at_ (j := j2) (by rw [HLK.out]; exact hjk2)
                obtain ⟨x, hx⟩ : ∃ x, l[j2]? = some x := ⟨_, List.getElem?_eq_getElem (by rw [HLK.out]; exact hjk2)⟩
                have hxg : l.getD j2 0 = x := by simp [List.getD, hx]
                rw [hxg] at hcell
                have hfit := HV5.out.fit x (List.mem_of_getElem? hx)
                have hxr : -9223372036854775808 ≤ x ∧ x ≤ 9223372036854775807 := i64_fit hfit
                have j0 : (0 : Int) ≤ j2 := by omega
                have jk : (j2 : Int) < j := by omega
                have HWix := Lib.hid (fun W => HWi.out x hxr W)
                have HWox := Lib.hid (fun W => HWo.out x hxr W)
                unfold GivesME mv at HWix HWox
                obtain ⟨a0, a1⟩ := HKm.out wq (HBm.out.trans (HQ.out.mono HBm.out.size))
                have HSl := Lib.hid (fun W => rSlot_any x W)
                cases hsl : slotB x with
                | false =>
                  rw [HCh.out x, hsl, if_neg (by decide), if_neg (by decide)] at HWix HWox
                  rw [hsl] at HSl
                  clear hx hxg hb hfit hxr hsl
                  go_wp2_with fail
                  refine (HWix.out _).mono ?_
                  rintro e w11 ⟨rfl, hb11⟩
                  obtain ⟨W11, hW11⟩ : ∃ W11, W11 = w11.alloc (.cells #[.int .u64 0, .int .u64 0] 25) := ⟨_, rfl⟩
                  obtain ⟨g11, hg11⟩ : ∃ g, g = w11.heap.size := ⟨_, rfl⟩
                  have hm11 : MRow W11 g11 0 0 := by rw [hW11, hg11]; exact MRow.new w11 _ _
                  have hb11' : Below wq.heap.size wq W11 := by rw [hW11]; exact hb11.alloc hb11.size _
                  have HW11 := Lib.hid hW11
                  have HG11 := Lib.hid hg11
                  have HB11 := Lib.hid (HQ.out.trans (hb11'.mono HQ.out.size))
                  have HM11 := Lib.hid hm11
                  clear hb11 hW11 hg11 hm11 hb11' a0 a1
                  obtain ⟨a0, a1⟩ := HKm.out W11 (HBm.out.trans (HB11.out.mono HBm.out.size))
                  go_upto_region 21 with fail
                  rw [← HW11.out]
                  go_wp2_with fail
                  refine (HWox.out _).mono ?_
                  rintro e w12 ⟨rfl, hb12⟩
                  obtain ⟨W12, hW12⟩ : ∃ W12, W12 = w12.alloc (.cells #[.int .u64 0, .int .u64 0] 25) := ⟨_, rfl⟩
                  obtain ⟨g12, hg12⟩ : ∃ g, g = w12.heap.size := ⟨_, rfl⟩
                  have hm12 : MRow W12 g12 0 0 := by rw [hW12, hg12]; exact MRow.new w12 _ _
                  have hb12' : Below W11.heap.size W11 W12 := by rw [hW12]; exact hb12.alloc hb12.size _
                  have HW12 := Lib.hid hW12
                  have HG12 := Lib.hid hg12
                  have HB12 := Lib.hid (HB11.out.trans (hb12'.mono HB11.out.size))
                  have HK12 := Lib.hid (fun (X : World) (hX : Below W12.heap.size W12 X) => show (X.cell? ⟨s, 0, none⟩ = some (.int .u64 m.1) ∧ X.cell? ⟨s, 1, none⟩ = some (.int .u64 m.2)) ∧ (X.cell? ⟨g11, 0, none⟩ = some (.int .u64 0) ∧ X.cell? ⟨g11, 1, none⟩ = some (.int .u64 0)) ∧ (X.cell? ⟨g12, 0, none⟩ = some (.int .u64 0) ∧ X.cell? ⟨g12, 1, none⟩ = some (.int .u64 0)) from by
                    have h1 := HKm.out X (HBm.out.trans ((HB12.out.trans (hX.mono HB12.out.size)).mono HBm.out.size))
                    have h2 := (HM11.out.below hb12' HM11.out.lt).below hX (Nat.lt_of_lt_of_le HM11.out.lt hb12'.size)
                    have h3 := hm12.below hX hm12.lt
                    exact ⟨h1, ⟨h2.cell0, h2.cell1⟩, ⟨h3.cell0, h3.cell1⟩⟩)
                  clear hb12 hW12 hg12 hm12 hb12' a0 a1
                  obtain ⟨⟨a0, a1⟩, ⟨a2, a3⟩, ⟨a4, a5⟩⟩ := HK12.out W12 (Below.refl _ _)
                  go_upto_region 25 with fail
                  rw [← HW12.out]
                  go_wp2_with fail
                  refine (HSl.out _).mono ?_
                  rintro e w13 ⟨rfl, rfl⟩
                  rw [← HG11.out, ← HG12.out]
                  go_wp2
                  go_roundw
                  case rel => exact ⟨j2 + 1, by omega, by go_num, HB12⟩
                  case measure => simp [intOf]; omega
                | true =>
                  obtain ⟨hx0, hx96⟩ := slotB_yes hsl
                  obtain ⟨y, rfl⟩ := Int.eq_ofNat_of_zero_le hx0
                  rw [HCh.out y, hsl, if_pos rfl, if_pos rfl] at HWix HWox
                  rw [hsl] at HSl
                  have HRx := Lib.hid (fun W => HRWi.out y (by omega) HRt.out W)
                  have HRy := Lib.hid (fun W => HRWo.out y (by omega) W)
                  have hqA := HEq.out (withM m y)
                  have hqB := HEq.out (withoutM m y)
                  generalize withM m y = MA at *
                  generalize withoutM m y = MB at *
                  clear hx hxg hb hfit hxr hsl
                  go_wp2_with fail
                  refine (HWix.out _).mono ?_
                  rintro e w11 ⟨rfl, hb11⟩
                  obtain ⟨W11, hW11⟩ : ∃ W11, W11 = w11.alloc (.cells #[.int .u64 MA.1, .int .u64 MA.2] 25) := ⟨_, rfl⟩
                  obtain ⟨g11, hg11⟩ : ∃ g, g = w11.heap.size := ⟨_, rfl⟩
                  have hm11 : MRow W11 g11 MA.1 MA.2 := by rw [hW11, hg11]; exact MRow.new w11 _ _
                  have hb11' : Below wq.heap.size wq W11 := by rw [hW11]; exact hb11.alloc hb11.size _
                  have HW11 := Lib.hid hW11
                  have HG11 := Lib.hid hg11
                  have HB11 := Lib.hid (HQ.out.trans (hb11'.mono HQ.out.size))
                  have HM11 := Lib.hid hm11
                  clear hb11 hW11 hg11 hm11 hb11' a0 a1
                  obtain ⟨a0, a1⟩ := HKm.out W11 (HBm.out.trans (HB11.out.mono HBm.out.size))
                  go_upto_region 21 with fail
                  rw [← HW11.out]
                  go_wp2_with fail
                  refine (HWox.out _).mono ?_
                  rintro e w12 ⟨rfl, hb12⟩
                  obtain ⟨W12, hW12⟩ : ∃ W12, W12 = w12.alloc (.cells #[.int .u64 MB.1, .int .u64 MB.2] 25) := ⟨_, rfl⟩
                  obtain ⟨g12, hg12⟩ : ∃ g, g = w12.heap.size := ⟨_, rfl⟩
                  have hm12 : MRow W12 g12 MB.1 MB.2 := by rw [hW12, hg12]; exact MRow.new w12 _ _
                  have hb12' : Below W11.heap.size W11 W12 := by rw [hW12]; exact hb12.alloc hb12.size _
                  have HW12 := Lib.hid hW12
                  have HG12 := Lib.hid hg12
                  have HB12 := Lib.hid (HB11.out.trans (hb12'.mono HB11.out.size))
                  have HK12 := Lib.hid (fun (X : World) (hX : Below W12.heap.size W12 X) => show (X.cell? ⟨s, 0, none⟩ = some (.int .u64 m.1) ∧ X.cell? ⟨s, 1, none⟩ = some (.int .u64 m.2)) ∧ (X.cell? ⟨g11, 0, none⟩ = some (.int .u64 MA.1) ∧ X.cell? ⟨g11, 1, none⟩ = some (.int .u64 MA.2)) ∧ (X.cell? ⟨g12, 0, none⟩ = some (.int .u64 MB.1) ∧ X.cell? ⟨g12, 1, none⟩ = some (.int .u64 MB.2)) from by
                    have h1 := HKm.out X (HBm.out.trans ((HB12.out.trans (hX.mono HB12.out.size)).mono HBm.out.size))
                    have h2 := (HM11.out.below hb12' HM11.out.lt).below hX (Nat.lt_of_lt_of_le HM11.out.lt hb12'.size)
                    have h3 := hm12.below hX hm12.lt
                    exact ⟨h1, ⟨h2.cell0, h2.cell1⟩, ⟨h3.cell0, h3.cell1⟩⟩)
                  clear hb12 hW12 hg12 hm12 hb12' a0 a1
                  obtain ⟨⟨a0, a1⟩, ⟨a2, a3⟩, ⟨a4, a5⟩⟩ := HK12.out W12 (Below.refl _ _)
                  go_upto_region 25 with fail
                  rw [← HW12.out]
                  go_wp2_with fail
                  refine (HSl.out _).mono ?_
                  rintro e w13 ⟨rfl, rfl⟩
                  rw [← HG11.out, ← HG12.out]
                  go_upto_region 28 with fail
                  refine region_quiet (fun X => Below W12.heap.size W12 X) (by kernel_rfl) (by kernel_rfl) (below_drew (Below.refl _ _)) ?_
                  repeat (first | go_big_quiet_skip | (go_big_quiet_want; go_big_quiet_op; first | go_big_quiet_on | (refine ⟨_, fun _ _ => rfl, ?_⟩; go_big_quiet_on) | (apply Exists.intro; refine ⟨fun W hW => ?_, ?_⟩; (focus (obtain ⟨⟨z0, z1⟩, ⟨z2, z3⟩, ⟨z4, z5⟩⟩ := HK12.out W hW; simp only [Result.andThen, z0, z1, z2, z3, z4, z5]; exact ⟨trivial, rfl⟩)); go_big_quiet_on) | (apply Exists.intro; refine ⟨fun W hW => ?_, ?_⟩; (focus ((with_reducible refine (HRx.out W).mono ?_); intro _ _ h; exact ⟨h.1, hW.trans (h.2.mono hW.size)⟩)); go_big_quiet_on) | (apply Exists.intro; refine ⟨fun W hW => ?_, ?_⟩; (focus ((with_reducible refine (HRy.out W).mono ?_); intro _ _ h; exact ⟨h.1, hW.trans (h.2.mono hW.size)⟩)); go_big_quiet_on)))
                  refine wpQuiet_nil ?_
                  intro w14 hq14
                  have HB14 := Lib.hid (HB12.out.trans (hq14.mono HB12.out.size))
                  clear hq14 hqA hqB
                  go_wp2
                  go_roundw
                  case rel => exact ⟨j2 + 1, by omega, by go_num, HB14⟩
                  case measure => simp [intOf]; omega
              · obtain rfl : j2 = j := by omega
                go_wp2
                go_ret
                exact ⟨rfl, HB5.out.trans (HQ.out.mono HB5.out.size)⟩
  · go_enter Try.func3, Try.ntmps3
    go_wp2_with fail
    rw [show w.alloc (.cells #[.int .u64 m.1, .int .u64 m.2] 25) = W0 from HW0.out.symm, ← HS.out]
    refine HWk.out.mono ?_
    rintro e w1 ⟨rfl, hb1⟩
    have HB1 := Lib.hid hb1
    have HB01 := Lib.hid (HB0.out.trans (hb1.mono HB0.out.size))
    clear hb1
    go_upto_region 4 with (at_builtin; refine gapp_at rfl (.tmp 20) (.tmp 25) appN rfl w1.heap.size (some ⟨w1.heap.size, 0, none⟩) 0 0 [] rfl (World.ownsRow_made w1 #[] 0 (Nat.le_refl _) (by decide) rfl) (some ad) c k (l.map (Value.int .i64)) rfl (HRd.out _ (HB01.out.alloc HB01.out.size _)) (by omega) (by simp) ?_; intro A5 c5 w5 ho5 hg5 _)
    rw [Nat.zero_add, List.nil_append] at ho5
    have HV5 := Lib.hid (show Vec .i64 w5 A5 c5 l from own_vec (base := w1.heap.size) (by rw [HLK.out]; exact ho5) HF.out)
    have HBm := Lib.hid (show Below W0.heap.size W0 w5 from (HB1.out.alloc HB1.out.size _).grown hg5 (by have := HB1.out.size; simp; omega) (fun i hi => Nat.le_trans HB1.out.size (Nat.le_of_eq (show w1.heap.size = i by simpa [blk] using hi))))
    have HB5 := Lib.hid (HB0.out.trans (HBm.out.mono HB0.out.size))
    clear ho5 hg5
    try simp only [Nat.zero_add]
    clear HRd hmin hkn hkc k0 kc hnc hmn
    have hk5 : k ≤ c5 := by have := HV5.out.room; rw [HLK.out] at this; exact this
    have hc5 : (c5 : Int) ≤ 9223372036854775807 := by have := HV5.out.most; omega
    go_wp2
    go_loopw [5, 29] (fun v i wr => ∃ (j : Nat) (fb : Bool), j ≤ k ∧ i = .int .i64 j ∧ v = .bool fb ∧ wr = w5 ∧ Hid (fb = (l.take j).all slotB)) (fun _ i _ => k - (intOf i).toNat)
    case atStart => exact ⟨0, true, by omega, rfl, rfl, rfl, Lib.hid rfl⟩
    case round =>
      obtain ⟨j, fb, hj, rfl, rfl, rfl, HFb⟩ := hrel
      by_cases hjk : j < k
      · obtain ⟨b, o, rfl, hb, hcell⟩ := HV5.out.at_ (j := j) (by rw [HLK.out]; exact hjk)
        obtain ⟨x, hx⟩ : ∃ x, l[j]? = some x := ⟨_, List.getElem?_eq_getElem (by rw [HLK.out]; exact hjk)⟩
        have hxg : l.getD j 0 = x := by simp [List.getD, hx]
        rw [hxg] at hcell
        have j0 : (0 : Int) ≤ j := by omega
        have jk : (j : Int) < k := by omega
        have hsn := all_snoc slotB l hx
        have HSl := Lib.hid (fun W => rSlot_any x W)
        cases hfb : fb with
        | false =>
          have HS1 := Lib.hid (show false = (l.take (j + 1)).all slotB from by rw [hsn, ← HFb.out, hfb]; rfl)
          subst hfb
          clear hx hxg hsn hb
          go_wp2
          go_roundw
          case rel => exact ⟨j + 1, false, by omega, by go_num, rfl, by simp, HS1⟩
          case measure => simp [intOf]; omega
        | true =>
          have HS1 := Lib.hid (show slotB x = (l.take (j + 1)).all slotB from by rw [hsn, ← HFb.out, hfb]; rfl)
          subst hfb
          generalize slotB x = sx at *
          clear hx hxg hsn hb
          go_wp2_with fail
          refine (HSl.out _).mono ?_
          rintro e w2 ⟨rfl, rfl⟩
          go_wp2
          go_roundw
          case rel => exact ⟨j + 1, sx, by omega, by go_num, rfl, by simp, HS1⟩
          case measure => simp [intOf]; omega
      · obtain rfl : j = k := by omega
        have hall := HFb.out
        rw [show l.take j = l by rw [← HLK.out, List.take_length]] at hall
        obtain ⟨e0, he0⟩ : ∃ e, e = ofE l := ⟨_, rfl⟩
        obtain ⟨M0, hM0⟩ : ∃ M, M = if ofE l = 0 then ofM l else (0, 0) := ⟨_, rfl⟩
        have HOf := Lib.hid (fun (W : World) (hW : Below wr.heap.size wr W) => show Calls Try.prog 10 #[.slice A5 j c5] W (fun e w' => e = .returned (.tuple #[mv M0, .int .i64 e0]) ∧ Below W.heap.size W w') from by
          have := of_any A5 c5 l W (HV5.out.below hW)
          rw [HLK.out] at this
          rw [he0, hM0]; exact this)
        have HE := Lib.hid he0
        have HM := Lib.hid hM0
        have HAl := Lib.hid hall
        clear he0 hM0 hall
        unfold mv at HOf
        go_wp2_with fail
        refine (HOf.out _ (Below.refl _ _)).mono ?_
        rintro e w6 ⟨rfl, hb6⟩
        obtain ⟨W7, hW7⟩ : ∃ W7, W7 = w6.alloc (.cells #[.int .u64 M0.1, .int .u64 M0.2] 25) := ⟨_, rfl⟩
        obtain ⟨g7, hg7⟩ : ∃ g, g = w6.heap.size := ⟨_, rfl⟩
        have hm7 : MRow W7 g7 M0.1 M0.2 := by rw [hW7, hg7]; exact MRow.new w6 _ _
        have hb7 : Below wr.heap.size wr W7 := by rw [hW7]; exact hb6.alloc hb6.size _
        have HK7 := Lib.hid (fun (X : World) (hX : Below W7.heap.size W7 X) => And.intro (hm7.below hX hm7.lt).cell0 (hm7.below hX hm7.lt).cell1)
        have HB7 := Lib.hid hb7
        have HW7 := Lib.hid hW7
        have HG7 := Lib.hid hg7
        clear hb6 hW7 hg7 hm7 hb7
        go_upto_region 11 with fail
        rw [← HW7.out, ← HG7.out]
        cases hfb : fb with
        | false =>
          have hall := HAl.out
          rw [hfb] at hall
          obtain rfl : e0 = 2 := by rw [HE.out]; unfold ofE; rw [← hall]; rfl
          have hM2 : M0 = (0, 0) := by rw [HM.out, ← HE.out]; rfl
          have hqz : ∀ W, (Op.equalIn 10000 25 (.agg #[.int .u64 M0.1, .int .u64 M0.2]) (.agg #[.int .u64 0, .int .u64 0])).run Try.prog W = .ok true W := fun W => by rw [eqM0, hM2]; rfl
          subst hfb
          clear hall hM2
          refine region_quiet (fun X => Below W7.heap.size W7 X) (by kernel_rfl) (by kernel_rfl) (below_drew (Below.refl _ _)) ?_
          repeat (first | go_big_quiet_skip | (go_big_quiet_want; go_big_quiet_op; first | go_big_quiet_on | (refine ⟨_, fun _ _ => rfl, ?_⟩; go_big_quiet_on) | (apply Exists.intro; refine ⟨fun W hW => ?_, ?_⟩; (focus (obtain ⟨z0, z1⟩ := HK7.out W hW; simp only [Result.andThen, z0, z1]; exact ⟨trivial, rfl⟩)); go_big_quiet_on)))
          refine wpQuiet_nil ?_
          intro w8 hq8
          have HB8 := Lib.hid (HB7.out.trans (hq8.mono HB7.out.size))
          clear hq8 hqz
          have HBx := Lib.hid (HBm.out.trans (HB8.out.mono HBm.out.size))
          obtain ⟨a0, a1⟩ := HKm.out w8 HBx.out
          go_wp2_with fail
          refine (HRr.out _).mono ?_
          rintro e w9 ⟨rfl, hb9⟩
          have HB9 := Lib.hid (HB8.out.trans (hb9.mono HB8.out.size))
          clear hb9 a0 a1
          obtain ⟨a0, a1⟩ := HKm.out w9 (HBm.out.trans (HB9.out.mono HBm.out.size))
          go_wp2_with fail
          refine (HCg.out _).mono ?_
          rintro e w10 ⟨rfl, hb10⟩
          have HB10 := Lib.hid (HB9.out.trans (hb10.mono HB9.out.size))
          clear hb10 a0 a1
          cases hr : rightM m with
          | false =>
            have hch : chkM m = 200 := by unfold chkM; rw [hr]; rfl
            rw [hch]
            have HCh := Lib.hid (fun (x : Int) => show chgM m x = 200 from by unfold chgM; rw [hr]; rfl)
            clear hch hr
            go_wp2
            go_loopw [86] (fun i wq => ∃ (j2 : Nat), j2 ≤ j ∧ i = .int .i64 j2 ∧ Hid (Below wr.heap.size wr wq)) (fun i _ => j - (intOf i).toNat)
            case atStart => exact ⟨0, by omega, rfl, HB10⟩
            case round =>
              rename World => wq
              obtain ⟨j2, hj2, rfl, HQ⟩ := hrel
              by_cases hjk2 : j2 < j
              · obtain ⟨b, o, rfl, hb, hcell⟩ := (HV5.out.below HQ.out).at_ (j := j2) (by rw [HLK.out]; exact hjk2)
                obtain ⟨x, hx⟩ : ∃ x, l[j2]? = some x := ⟨_, List.getElem?_eq_getElem (by rw [HLK.out]; exact hjk2)⟩
                have hxg : l.getD j2 0 = x := by simp [List.getD, hx]
                rw [hxg] at hcell
                have hfit := HV5.out.fit x (List.mem_of_getElem? hx)
                have hxr : -9223372036854775808 ≤ x ∧ x ≤ 9223372036854775807 := i64_fit hfit
                have j0 : (0 : Int) ≤ j2 := by omega
                have jk : (j2 : Int) < j := by omega
                have HWix := Lib.hid (fun W => HWi.out x hxr W)
                have HWox := Lib.hid (fun W => HWo.out x hxr W)
                unfold GivesME mv at HWix HWox
                obtain ⟨a0, a1⟩ := HKm.out wq (HBm.out.trans (HQ.out.mono HBm.out.size))
                rw [HCh.out x, if_neg (by decide)] at HWix HWox
                clear hx hxg hb hfit hxr
                go_wp2_with fail
                refine (HWix.out _).mono ?_
                rintro e w11 ⟨rfl, hb11⟩
                obtain ⟨W11, hW11⟩ : ∃ W11, W11 = w11.alloc (.cells #[.int .u64 0, .int .u64 0] 25) := ⟨_, rfl⟩
                obtain ⟨g11, hg11⟩ : ∃ g, g = w11.heap.size := ⟨_, rfl⟩
                have hm11 : MRow W11 g11 0 0 := by rw [hW11, hg11]; exact MRow.new w11 _ _
                have hb11' : Below wq.heap.size wq W11 := by rw [hW11]; exact hb11.alloc hb11.size _
                have HW11 := Lib.hid hW11
                have HG11 := Lib.hid hg11
                have HB11 := Lib.hid (HQ.out.trans (hb11'.mono HQ.out.size))
                have HM11 := Lib.hid hm11
                clear hb11 hW11 hg11 hm11 hb11' a0 a1
                obtain ⟨a0, a1⟩ := HKm.out W11 (HBm.out.trans (HB11.out.mono HBm.out.size))
                go_upto_region 21 with fail
                rw [← HW11.out]
                go_wp2_with fail
                refine (HWox.out _).mono ?_
                rintro e w12 ⟨rfl, hb12⟩
                obtain ⟨W12, hW12⟩ : ∃ W12, W12 = w12.alloc (.cells #[.int .u64 0, .int .u64 0] 25) := ⟨_, rfl⟩
                obtain ⟨g12, hg12⟩ : ∃ g, g = w12.heap.size := ⟨_, rfl⟩
                have hm12 : MRow W12 g12 0 0 := by rw [hW12, hg12]; exact MRow.new w12 _ _
                have hb12' : Below W11.heap.size W11 W12 := by rw [hW12]; exact hb12.alloc hb12.size _
                have HW12 := Lib.hid hW12
                have HG12 := Lib.hid hg12
                have HB12 := Lib.hid (HB11.out.trans (hb12'.mono HB11.out.size))
                have HK12 := Lib.hid (fun (X : World) (hX : Below W12.heap.size W12 X) => show (X.cell? ⟨s, 0, none⟩ = some (.int .u64 m.1) ∧ X.cell? ⟨s, 1, none⟩ = some (.int .u64 m.2)) ∧ (X.cell? ⟨g11, 0, none⟩ = some (.int .u64 0) ∧ X.cell? ⟨g11, 1, none⟩ = some (.int .u64 0)) ∧ (X.cell? ⟨g12, 0, none⟩ = some (.int .u64 0) ∧ X.cell? ⟨g12, 1, none⟩ = some (.int .u64 0)) from by
                  have h1 := HKm.out X (HBm.out.trans ((HB12.out.trans (hX.mono HB12.out.size)).mono HBm.out.size))
                  have h2 := (HM11.out.below hb12' HM11.out.lt).below hX (Nat.lt_of_lt_of_le HM11.out.lt hb12'.size)
                  have h3 := hm12.below hX hm12.lt
                  exact ⟨h1, ⟨h2.cell0, h2.cell1⟩, ⟨h3.cell0, h3.cell1⟩⟩)
                clear hb12 hW12 hg12 hm12 hb12' a0 a1
                obtain ⟨⟨a0, a1⟩, ⟨a2, a3⟩, ⟨a4, a5⟩⟩ := HK12.out W12 (Below.refl _ _)
                go_upto_region 23 with fail
                rw [← HW12.out, ← HG11.out, ← HG12.out]
                go_wp2
                go_roundw
                case rel => exact ⟨j2 + 1, by omega, by go_num, HB12⟩
                case measure => simp [intOf]; omega
              · obtain rfl : j2 = j := by omega
                go_wp2
                go_ret
                exact ⟨rfl, HB5.out.trans (HQ.out.mono HB5.out.size)⟩
          | true =>
            have hch : chkM m = 0 := by unfold chkM; rw [hr]; rfl
            rw [hch]
            have HCh := Lib.hid (fun (x : Int) => show chgM m x = if slotB x then 0 else 2 from by unfold chgM; rw [hr]; rfl)
            have HRt := Lib.hid hr
            clear hch hr
            go_wp2
            go_loopw [86] (fun i wq => ∃ (j2 : Nat), j2 ≤ j ∧ i = .int .i64 j2 ∧ Hid (Below wr.heap.size wr wq)) (fun i _ => j - (intOf i).toNat)
            case atStart => exact ⟨0, by omega, rfl, HB10⟩
            case round =>
              rename World => wq
              obtain ⟨j2, hj2, rfl, HQ⟩ := hrel
              by_cases hjk2 : j2 < j
              · obtain ⟨b, o, rfl, hb, hcell⟩ := (HV5.out.below HQ.out).at_ (j := j2) (by rw [HLK.out]; exact hjk2)
                obtain ⟨x, hx⟩ : ∃ x, l[j2]? = some x := ⟨_, List.getElem?_eq_getElem (by rw [HLK.out]; exact hjk2)⟩
                have hxg : l.getD j2 0 = x := by simp [List.getD, hx]
                rw [hxg] at hcell
                have hfit := HV5.out.fit x (List.mem_of_getElem? hx)
                have hxr : -9223372036854775808 ≤ x ∧ x ≤ 9223372036854775807 := i64_fit hfit
                have j0 : (0 : Int) ≤ j2 := by omega
                have jk : (j2 : Int) < j := by omega
                have HWix := Lib.hid (fun W => HWi.out x hxr W)
                have HWox := Lib.hid (fun W => HWo.out x hxr W)
                unfold GivesME mv at HWix HWox
                obtain ⟨a0, a1⟩ := HKm.out wq (HBm.out.trans (HQ.out.mono HBm.out.size))
                have HSl := Lib.hid (fun W => rSlot_any x W)
                cases hsl : slotB x with
                | false =>
                  rw [HCh.out x, hsl, if_neg (by decide), if_neg (by decide)] at HWix HWox
                  rw [hsl] at HSl
                  clear hx hxg hb hfit hxr hsl
                  go_wp2_with fail
                  refine (HWix.out _).mono ?_
                  rintro e w11 ⟨rfl, hb11⟩
                  obtain ⟨W11, hW11⟩ : ∃ W11, W11 = w11.alloc (.cells #[.int .u64 0, .int .u64 0] 25) := ⟨_, rfl⟩
                  obtain ⟨g11, hg11⟩ : ∃ g, g = w11.heap.size := ⟨_, rfl⟩
                  have hm11 : MRow W11 g11 0 0 := by rw [hW11, hg11]; exact MRow.new w11 _ _
                  have hb11' : Below wq.heap.size wq W11 := by rw [hW11]; exact hb11.alloc hb11.size _
                  have HW11 := Lib.hid hW11
                  have HG11 := Lib.hid hg11
                  have HB11 := Lib.hid (HQ.out.trans (hb11'.mono HQ.out.size))
                  have HM11 := Lib.hid hm11
                  clear hb11 hW11 hg11 hm11 hb11' a0 a1
                  obtain ⟨a0, a1⟩ := HKm.out W11 (HBm.out.trans (HB11.out.mono HBm.out.size))
                  go_upto_region 21 with fail
                  rw [← HW11.out]
                  go_wp2_with fail
                  refine (HWox.out _).mono ?_
                  rintro e w12 ⟨rfl, hb12⟩
                  obtain ⟨W12, hW12⟩ : ∃ W12, W12 = w12.alloc (.cells #[.int .u64 0, .int .u64 0] 25) := ⟨_, rfl⟩
                  obtain ⟨g12, hg12⟩ : ∃ g, g = w12.heap.size := ⟨_, rfl⟩
                  have hm12 : MRow W12 g12 0 0 := by rw [hW12, hg12]; exact MRow.new w12 _ _
                  have hb12' : Below W11.heap.size W11 W12 := by rw [hW12]; exact hb12.alloc hb12.size _
                  have HW12 := Lib.hid hW12
                  have HG12 := Lib.hid hg12
                  have HB12 := Lib.hid (HB11.out.trans (hb12'.mono HB11.out.size))
                  have HK12 := Lib.hid (fun (X : World) (hX : Below W12.heap.size W12 X) => show (X.cell? ⟨s, 0, none⟩ = some (.int .u64 m.1) ∧ X.cell? ⟨s, 1, none⟩ = some (.int .u64 m.2)) ∧ (X.cell? ⟨g11, 0, none⟩ = some (.int .u64 0) ∧ X.cell? ⟨g11, 1, none⟩ = some (.int .u64 0)) ∧ (X.cell? ⟨g12, 0, none⟩ = some (.int .u64 0) ∧ X.cell? ⟨g12, 1, none⟩ = some (.int .u64 0)) from by
                    have h1 := HKm.out X (HBm.out.trans ((HB12.out.trans (hX.mono HB12.out.size)).mono HBm.out.size))
                    have h2 := (HM11.out.below hb12' HM11.out.lt).below hX (Nat.lt_of_lt_of_le HM11.out.lt hb12'.size)
                    have h3 := hm12.below hX hm12.lt
                    exact ⟨h1, ⟨h2.cell0, h2.cell1⟩, ⟨h3.cell0, h3.cell1⟩⟩)
                  clear hb12 hW12 hg12 hm12 hb12' a0 a1
                  obtain ⟨⟨a0, a1⟩, ⟨a2, a3⟩, ⟨a4, a5⟩⟩ := HK12.out W12 (Below.refl _ _)
                  go_upto_region 25 with fail
                  rw [← HW12.out]
                  go_wp2_with fail
                  refine (HSl.out _).mono ?_
                  rintro e w13 ⟨rfl, rfl⟩
                  rw [← HG11.out, ← HG12.out]
                  go_wp2
                  go_roundw
                  case rel => exact ⟨j2 + 1, by omega, by go_num, HB12⟩
                  case measure => simp [intOf]; omega
                | true =>
                  obtain ⟨hx0, hx96⟩ := slotB_yes hsl
                  obtain ⟨y, rfl⟩ := Int.eq_ofNat_of_zero_le hx0
                  rw [HCh.out y, hsl, if_pos rfl, if_pos rfl] at HWix HWox
                  rw [hsl] at HSl
                  have HRx := Lib.hid (fun W => HRWi.out y (by omega) HRt.out W)
                  have HRy := Lib.hid (fun W => HRWo.out y (by omega) W)
                  have hqA := HEq.out (withM m y)
                  have hqB := HEq.out (withoutM m y)
                  generalize withM m y = MA at *
                  generalize withoutM m y = MB at *
                  clear hx hxg hb hfit hxr hsl
                  go_wp2_with fail
                  refine (HWix.out _).mono ?_
                  rintro e w11 ⟨rfl, hb11⟩
                  obtain ⟨W11, hW11⟩ : ∃ W11, W11 = w11.alloc (.cells #[.int .u64 MA.1, .int .u64 MA.2] 25) := ⟨_, rfl⟩
                  obtain ⟨g11, hg11⟩ : ∃ g, g = w11.heap.size := ⟨_, rfl⟩
                  have hm11 : MRow W11 g11 MA.1 MA.2 := by rw [hW11, hg11]; exact MRow.new w11 _ _
                  have hb11' : Below wq.heap.size wq W11 := by rw [hW11]; exact hb11.alloc hb11.size _
                  have HW11 := Lib.hid hW11
                  have HG11 := Lib.hid hg11
                  have HB11 := Lib.hid (HQ.out.trans (hb11'.mono HQ.out.size))
                  have HM11 := Lib.hid hm11
                  clear hb11 hW11 hg11 hm11 hb11' a0 a1
                  obtain ⟨a0, a1⟩ := HKm.out W11 (HBm.out.trans (HB11.out.mono HBm.out.size))
                  go_upto_region 21 with fail
                  rw [← HW11.out]
                  go_wp2_with fail
                  refine (HWox.out _).mono ?_
                  rintro e w12 ⟨rfl, hb12⟩
                  obtain ⟨W12, hW12⟩ : ∃ W12, W12 = w12.alloc (.cells #[.int .u64 MB.1, .int .u64 MB.2] 25) := ⟨_, rfl⟩
                  obtain ⟨g12, hg12⟩ : ∃ g, g = w12.heap.size := ⟨_, rfl⟩
                  have hm12 : MRow W12 g12 MB.1 MB.2 := by rw [hW12, hg12]; exact MRow.new w12 _ _
                  have hb12' : Below W11.heap.size W11 W12 := by rw [hW12]; exact hb12.alloc hb12.size _
                  have HW12 := Lib.hid hW12
                  have HG12 := Lib.hid hg12
                  have HB12 := Lib.hid (HB11.out.trans (hb12'.mono HB11.out.size))
                  have HK12 := Lib.hid (fun (X : World) (hX : Below W12.heap.size W12 X) => show (X.cell? ⟨s, 0, none⟩ = some (.int .u64 m.1) ∧ X.cell? ⟨s, 1, none⟩ = some (.int .u64 m.2)) ∧ (X.cell? ⟨g11, 0, none⟩ = some (.int .u64 MA.1) ∧ X.cell? ⟨g11, 1, none⟩ = some (.int .u64 MA.2)) ∧ (X.cell? ⟨g12, 0, none⟩ = some (.int .u64 MB.1) ∧ X.cell? ⟨g12, 1, none⟩ = some (.int .u64 MB.2)) from by
                    have h1 := HKm.out X (HBm.out.trans ((HB12.out.trans (hX.mono HB12.out.size)).mono HBm.out.size))
                    have h2 := (HM11.out.below hb12' HM11.out.lt).below hX (Nat.lt_of_lt_of_le HM11.out.lt hb12'.size)
                    have h3 := hm12.below hX hm12.lt
                    exact ⟨h1, ⟨h2.cell0, h2.cell1⟩, ⟨h3.cell0, h3.cell1⟩⟩)
                  clear hb12 hW12 hg12 hm12 hb12' a0 a1
                  obtain ⟨⟨a0, a1⟩, ⟨a2, a3⟩, ⟨a4, a5⟩⟩ := HK12.out W12 (Below.refl _ _)
                  go_upto_region 25 with fail
                  rw [← HW12.out]
                  go_wp2_with fail
                  refine (HSl.out _).mono ?_
                  rintro e w13 ⟨rfl, rfl⟩
                  rw [← HG11.out, ← HG12.out]
                  go_upto_region 28 with fail
                  refine region_quiet (fun X => Below W12.heap.size W12 X) (by kernel_rfl) (by kernel_rfl) (below_drew (Below.refl _ _)) ?_
                  repeat (first | go_big_quiet_skip | (go_big_quiet_want; go_big_quiet_op; first | go_big_quiet_on | (refine ⟨_, fun _ _ => rfl, ?_⟩; go_big_quiet_on) | (apply Exists.intro; refine ⟨fun W hW => ?_, ?_⟩; (focus (obtain ⟨⟨z0, z1⟩, ⟨z2, z3⟩, ⟨z4, z5⟩⟩ := HK12.out W hW; simp only [Result.andThen, z0, z1, z2, z3, z4, z5]; exact ⟨trivial, rfl⟩)); go_big_quiet_on) | (apply Exists.intro; refine ⟨fun W hW => ?_, ?_⟩; (focus ((with_reducible refine (HRx.out W).mono ?_); intro _ _ h; exact ⟨h.1, hW.trans (h.2.mono hW.size)⟩)); go_big_quiet_on) | (apply Exists.intro; refine ⟨fun W hW => ?_, ?_⟩; (focus ((with_reducible refine (HRy.out W).mono ?_); intro _ _ h; exact ⟨h.1, hW.trans (h.2.mono hW.size)⟩)); go_big_quiet_on)))
                  refine wpQuiet_nil ?_
                  intro w14 hq14
                  have HB14 := Lib.hid (HB12.out.trans (hq14.mono HB12.out.size))
                  clear hq14 hqA hqB
                  go_wp2
                  go_roundw
                  case rel => exact ⟨j2 + 1, by omega, by go_num, HB14⟩
                  case measure => simp [intOf]; omega
              · obtain rfl : j2 = j := by omega
                go_wp2
                go_ret
                exact ⟨rfl, HB5.out.trans (HQ.out.mono HB5.out.size)⟩
        | true =>
          have hall := HAl.out
          rw [hfb] at hall
          obtain rfl : e0 = 0 := by rw [HE.out]; unfold ofE; rw [← hall]; rfl
          have hMr : M0 = ofM l := by rw [HM.out, ← HE.out]; rfl
          have HRO := Lib.hid (fun (W : World) (hW : Below W7.heap.size W7 W) => show Calls Try.prog 11 #[.slice A5 j c5] W (fun e w' => e = .returned (mv M0) ∧ Below W.heap.size W w') from by
            have := rOf_any A5 c5 l W (HV5.out.below (HB7.out.trans (hW.mono HB7.out.size))) hall.symm
            rw [HLK.out, ← hMr] at this
            exact this)
          have hqM := HEq.out M0
          unfold mv at HRO
          subst hfb
          clear hall hMr
          refine region_quiet (fun X => Below W7.heap.size W7 X) (by kernel_rfl) (by kernel_rfl) (below_drew (Below.refl _ _)) ?_
          repeat (first | go_big_quiet_skip | (go_big_quiet_want; go_big_quiet_op; first | go_big_quiet_on | (refine ⟨_, fun _ _ => rfl, ?_⟩; go_big_quiet_on) | (apply Exists.intro; refine ⟨fun W hW => ?_, ?_⟩; (focus (obtain ⟨z0, z1⟩ := HK7.out W hW; simp only [Result.andThen, z0, z1]; exact ⟨trivial, rfl⟩)); go_big_quiet_on) | (apply Exists.intro; refine ⟨fun W hW => ?_, ?_⟩; (focus ((with_reducible refine (HRO.out W hW).mono ?_); intro _ _ h; exact ⟨h.1, hW.trans (h.2.mono hW.size)⟩)); go_big_quiet_on)))
          refine wpQuiet_nil ?_
          intro w8 hq8
          have HB8 := Lib.hid (HB7.out.trans (hq8.mono HB7.out.size))
          clear hq8 hqM
          have HBx := Lib.hid (HBm.out.trans (HB8.out.mono HBm.out.size))
          obtain ⟨a0, a1⟩ := HKm.out w8 HBx.out
          go_wp2_with fail
          refine (HRr.out _).mono ?_
          rintro e w9 ⟨rfl, hb9⟩
          have HB9 := Lib.hid (HB8.out.trans (hb9.mono HB8.out.size))
          clear hb9 a0 a1
          obtain ⟨a0, a1⟩ := HKm.out w9 (HBm.out.trans (HB9.out.mono HBm.out.size))
          go_wp2_with fail
          refine (HCg.out _).mono ?_
          rintro e w10 ⟨rfl, hb10⟩
          have HB10 := Lib.hid (HB9.out.trans (hb10.mono HB9.out.size))
          clear hb10 a0 a1
          cases hr : rightM m with
          | false =>
            have hch : chkM m = 200 := by unfold chkM; rw [hr]; rfl
            rw [hch]
            have HCh := Lib.hid (fun (x : Int) => show chgM m x = 200 from by unfold chgM; rw [hr]; rfl)
            clear hch hr
            go_wp2
            go_loopw [86] (fun i wq => ∃ (j2 : Nat), j2 ≤ j ∧ i = .int .i64 j2 ∧ Hid (Below wr.heap.size wr wq)) (fun i _ => j - (intOf i).toNat)
            case atStart => exact ⟨0, by omega, rfl, HB10⟩
            case round =>
              rename World => wq
              obtain ⟨j2, hj2, rfl, HQ⟩ := hrel
              by_cases hjk2 : j2 < j
              · obtain ⟨b, o, rfl, hb, hcell⟩ := (HV5.out.below HQ.out).at_ (j := j2) (by rw [HLK.out]; exact hjk2)
                obtain ⟨x, hx⟩ : ∃ x, l[j2]? = some x := ⟨_, List.getElem?_eq_getElem (by rw [HLK.out]; exact hjk2)⟩
                have hxg : l.getD j2 0 = x := by simp [List.getD, hx]
                rw [hxg] at hcell
                have hfit := HV5.out.fit x (List.mem_of_getElem? hx)
                have hxr : -9223372036854775808 ≤ x ∧ x ≤ 9223372036854775807 := i64_fit hfit
                have j0 : (0 : Int) ≤ j2 := by omega
                have jk : (j2 : Int) < j := by omega
                have HWix := Lib.hid (fun W => HWi.out x hxr W)
                have HWox := Lib.hid (fun W => HWo.out x hxr W)
                unfold GivesME mv at HWix HWox
                obtain ⟨a0, a1⟩ := HKm.out wq (HBm.out.trans (HQ.out.mono HBm.out.size))
                rw [HCh.out x, if_neg (by decide)] at HWix HWox
                clear hx hxg hb hfit hxr
                go_wp2_with fail
                refine (HWix.out _).mono ?_
                rintro e w11 ⟨rfl, hb11⟩
                obtain ⟨W11, hW11⟩ : ∃ W11, W11 = w11.alloc (.cells #[.int .u64 0, .int .u64 0] 25) := ⟨_, rfl⟩
                obtain ⟨g11, hg11⟩ : ∃ g, g = w11.heap.size := ⟨_, rfl⟩
                have hm11 : MRow W11 g11 0 0 := by rw [hW11, hg11]; exact MRow.new w11 _ _
                have hb11' : Below wq.heap.size wq W11 := by rw [hW11]; exact hb11.alloc hb11.size _
                have HW11 := Lib.hid hW11
                have HG11 := Lib.hid hg11
                have HB11 := Lib.hid (HQ.out.trans (hb11'.mono HQ.out.size))
                have HM11 := Lib.hid hm11
                clear hb11 hW11 hg11 hm11 hb11' a0 a1
                obtain ⟨a0, a1⟩ := HKm.out W11 (HBm.out.trans (HB11.out.mono HBm.out.size))
                go_upto_region 21 with fail
                rw [← HW11.out]
                go_wp2_with fail
                refine (HWox.out _).mono ?_
                rintro e w12 ⟨rfl, hb12⟩
                obtain ⟨W12, hW12⟩ : ∃ W12, W12 = w12.alloc (.cells #[.int .u64 0, .int .u64 0] 25) := ⟨_, rfl⟩
                obtain ⟨g12, hg12⟩ : ∃ g, g = w12.heap.size := ⟨_, rfl⟩
                have hm12 : MRow W12 g12 0 0 := by rw [hW12, hg12]; exact MRow.new w12 _ _
                have hb12' : Below W11.heap.size W11 W12 := by rw [hW12]; exact hb12.alloc hb12.size _
                have HW12 := Lib.hid hW12
                have HG12 := Lib.hid hg12
                have HB12 := Lib.hid (HB11.out.trans (hb12'.mono HB11.out.size))
                have HK12 := Lib.hid (fun (X : World) (hX : Below W12.heap.size W12 X) => show (X.cell? ⟨s, 0, none⟩ = some (.int .u64 m.1) ∧ X.cell? ⟨s, 1, none⟩ = some (.int .u64 m.2)) ∧ (X.cell? ⟨g11, 0, none⟩ = some (.int .u64 0) ∧ X.cell? ⟨g11, 1, none⟩ = some (.int .u64 0)) ∧ (X.cell? ⟨g12, 0, none⟩ = some (.int .u64 0) ∧ X.cell? ⟨g12, 1, none⟩ = some (.int .u64 0)) from by
                  have h1 := HKm.out X (HBm.out.trans ((HB12.out.trans (hX.mono HB12.out.size)).mono HBm.out.size))
                  have h2 := (HM11.out.below hb12' HM11.out.lt).below hX (Nat.lt_of_lt_of_le HM11.out.lt hb12'.size)
                  have h3 := hm12.below hX hm12.lt
                  exact ⟨h1, ⟨h2.cell0, h2.cell1⟩, ⟨h3.cell0, h3.cell1⟩⟩)
                clear hb12 hW12 hg12 hm12 hb12' a0 a1
                obtain ⟨⟨a0, a1⟩, ⟨a2, a3⟩, ⟨a4, a5⟩⟩ := HK12.out W12 (Below.refl _ _)
                go_upto_region 23 with fail
                rw [← HW12.out, ← HG11.out, ← HG12.out]
                go_wp2
                go_roundw
                case rel => exact ⟨j2 + 1, by omega, by go_num, HB12⟩
                case measure => simp [intOf]; omega
              · obtain rfl : j2 = j := by omega
                go_wp2
                go_ret
                exact ⟨rfl, HB5.out.trans (HQ.out.mono HB5.out.size)⟩
          | true =>
            have hch : chkM m = 0 := by unfold chkM; rw [hr]; rfl
            rw [hch]
            have HCh := Lib.hid (fun (x : Int) => show chgM m x = if slotB x then 0 else 2 from by unfold chgM; rw [hr]; rfl)
            have HRt := Lib.hid hr
            clear hch hr
            go_wp2
            go_loopw [86] (fun i wq => ∃ (j2 : Nat), j2 ≤ j ∧ i = .int .i64 j2 ∧ Hid (Below wr.heap.size wr wq)) (fun i _ => j - (intOf i).toNat)
            case atStart => exact ⟨0, by omega, rfl, HB10⟩
            case round =>
              rename World => wq
              obtain ⟨j2, hj2, rfl, HQ⟩ := hrel
              by_cases hjk2 : j2 < j
              · obtain ⟨b, o, rfl, hb, hcell⟩ := (HV5.out.below HQ.out).at_ (j := j2) (by rw [HLK.out]; exact hjk2)
                obtain ⟨x, hx⟩ : ∃ x, l[j2]? = some x := ⟨_, List.getElem?_eq_getElem (by rw [HLK.out]; exact hjk2)⟩
                have hxg : l.getD j2 0 = x := by simp [List.getD, hx]
                rw [hxg] at hcell
                have hfit := HV5.out.fit x (List.mem_of_getElem? hx)
                have hxr : -9223372036854775808 ≤ x ∧ x ≤ 9223372036854775807 := i64_fit hfit
                have j0 : (0 : Int) ≤ j2 := by omega
                have jk : (j2 : Int) < j := by omega
                have HWix := Lib.hid (fun W => HWi.out x hxr W)
                have HWox := Lib.hid (fun W => HWo.out x hxr W)
                unfold GivesME mv at HWix HWox
                obtain ⟨a0, a1⟩ := HKm.out wq (HBm.out.trans (HQ.out.mono HBm.out.size))
                have HSl := Lib.hid (fun W => rSlot_any x W)
                cases hsl : slotB x with
                | false =>
                  rw [HCh.out x, hsl, if_neg (by decide), if_neg (by decide)] at HWix HWox
                  rw [hsl] at HSl
                  clear hx hxg hb hfit hxr hsl
                  go_wp2_with fail
                  refine (HWix.out _).mono ?_
                  rintro e w11 ⟨rfl, hb11⟩
                  obtain ⟨W11, hW11⟩ : ∃ W11, W11 = w11.alloc (.cells #[.int .u64 0, .int .u64 0] 25) := ⟨_, rfl⟩
                  obtain ⟨g11, hg11⟩ : ∃ g, g = w11.heap.size := ⟨_, rfl⟩
                  have hm11 : MRow W11 g11 0 0 := by rw [hW11, hg11]; exact MRow.new w11 _ _
                  have hb11' : Below wq.heap.size wq W11 := by rw [hW11]; exact hb11.alloc hb11.size _
                  have HW11 := Lib.hid hW11
                  have HG11 := Lib.hid hg11
                  have HB11 := Lib.hid (HQ.out.trans (hb11'.mono HQ.out.size))
                  have HM11 := Lib.hid hm11
                  clear hb11 hW11 hg11 hm11 hb11' a0 a1
                  obtain ⟨a0, a1⟩ := HKm.out W11 (HBm.out.trans (HB11.out.mono HBm.out.size))
                  go_upto_region 21 with fail
                  rw [← HW11.out]
                  go_wp2_with fail
                  refine (HWox.out _).mono ?_
                  rintro e w12 ⟨rfl, hb12⟩
                  obtain ⟨W12, hW12⟩ : ∃ W12, W12 = w12.alloc (.cells #[.int .u64 0, .int .u64 0] 25) := ⟨_, rfl⟩
                  obtain ⟨g12, hg12⟩ : ∃ g, g = w12.heap.size := ⟨_, rfl⟩
                  have hm12 : MRow W12 g12 0 0 := by rw [hW12, hg12]; exact MRow.new w12 _ _
                  have hb12' : Below W11.heap.size W11 W12 := by rw [hW12]; exact hb12.alloc hb12.size _
                  have HW12 := Lib.hid hW12
                  have HG12 := Lib.hid hg12
                  have HB12 := Lib.hid (HB11.out.trans (hb12'.mono HB11.out.size))
                  have HK12 := Lib.hid (fun (X : World) (hX : Below W12.heap.size W12 X) => show (X.cell? ⟨s, 0, none⟩ = some (.int .u64 m.1) ∧ X.cell? ⟨s, 1, none⟩ = some (.int .u64 m.2)) ∧ (X.cell? ⟨g11, 0, none⟩ = some (.int .u64 0) ∧ X.cell? ⟨g11, 1, none⟩ = some (.int .u64 0)) ∧ (X.cell? ⟨g12, 0, none⟩ = some (.int .u64 0) ∧ X.cell? ⟨g12, 1, none⟩ = some (.int .u64 0)) from by
                    have h1 := HKm.out X (HBm.out.trans ((HB12.out.trans (hX.mono HB12.out.size)).mono HBm.out.size))
                    have h2 := (HM11.out.below hb12' HM11.out.lt).below hX (Nat.lt_of_lt_of_le HM11.out.lt hb12'.size)
                    have h3 := hm12.below hX hm12.lt
                    exact ⟨h1, ⟨h2.cell0, h2.cell1⟩, ⟨h3.cell0, h3.cell1⟩⟩)
                  clear hb12 hW12 hg12 hm12 hb12' a0 a1
                  obtain ⟨⟨a0, a1⟩, ⟨a2, a3⟩, ⟨a4, a5⟩⟩ := HK12.out W12 (Below.refl _ _)
                  go_upto_region 25 with fail
                  rw [← HW12.out]
                  go_wp2_with fail
                  refine (HSl.out _).mono ?_
                  rintro e w13 ⟨rfl, rfl⟩
                  rw [← HG11.out, ← HG12.out]
                  go_wp2
                  go_roundw
                  case rel => exact ⟨j2 + 1, by omega, by go_num, HB12⟩
                  case measure => simp [intOf]; omega
                | true =>
                  obtain ⟨hx0, hx96⟩ := slotB_yes hsl
                  obtain ⟨y, rfl⟩ := Int.eq_ofNat_of_zero_le hx0
                  rw [HCh.out y, hsl, if_pos rfl, if_pos rfl] at HWix HWox
                  rw [hsl] at HSl
                  have HRx := Lib.hid (fun W => HRWi.out y (by omega) HRt.out W)
                  have HRy := Lib.hid (fun W => HRWo.out y (by omega) W)
                  have hqA := HEq.out (withM m y)
                  have hqB := HEq.out (withoutM m y)
                  generalize withM m y = MA at *
                  generalize withoutM m y = MB at *
                  clear hx hxg hb hfit hxr hsl
                  go_wp2_with fail
                  refine (HWix.out _).mono ?_
                  rintro e w11 ⟨rfl, hb11⟩
                  obtain ⟨W11, hW11⟩ : ∃ W11, W11 = w11.alloc (.cells #[.int .u64 MA.1, .int .u64 MA.2] 25) := ⟨_, rfl⟩
                  obtain ⟨g11, hg11⟩ : ∃ g, g = w11.heap.size := ⟨_, rfl⟩
                  have hm11 : MRow W11 g11 MA.1 MA.2 := by rw [hW11, hg11]; exact MRow.new w11 _ _
                  have hb11' : Below wq.heap.size wq W11 := by rw [hW11]; exact hb11.alloc hb11.size _
                  have HW11 := Lib.hid hW11
                  have HG11 := Lib.hid hg11
                  have HB11 := Lib.hid (HQ.out.trans (hb11'.mono HQ.out.size))
                  have HM11 := Lib.hid hm11
                  clear hb11 hW11 hg11 hm11 hb11' a0 a1
                  obtain ⟨a0, a1⟩ := HKm.out W11 (HBm.out.trans (HB11.out.mono HBm.out.size))
                  go_upto_region 21 with fail
                  rw [← HW11.out]
                  go_wp2_with fail
                  refine (HWox.out _).mono ?_
                  rintro e w12 ⟨rfl, hb12⟩
                  obtain ⟨W12, hW12⟩ : ∃ W12, W12 = w12.alloc (.cells #[.int .u64 MB.1, .int .u64 MB.2] 25) := ⟨_, rfl⟩
                  obtain ⟨g12, hg12⟩ : ∃ g, g = w12.heap.size := ⟨_, rfl⟩
                  have hm12 : MRow W12 g12 MB.1 MB.2 := by rw [hW12, hg12]; exact MRow.new w12 _ _
                  have hb12' : Below W11.heap.size W11 W12 := by rw [hW12]; exact hb12.alloc hb12.size _
                  have HW12 := Lib.hid hW12
                  have HG12 := Lib.hid hg12
                  have HB12 := Lib.hid (HB11.out.trans (hb12'.mono HB11.out.size))
                  have HK12 := Lib.hid (fun (X : World) (hX : Below W12.heap.size W12 X) => show (X.cell? ⟨s, 0, none⟩ = some (.int .u64 m.1) ∧ X.cell? ⟨s, 1, none⟩ = some (.int .u64 m.2)) ∧ (X.cell? ⟨g11, 0, none⟩ = some (.int .u64 MA.1) ∧ X.cell? ⟨g11, 1, none⟩ = some (.int .u64 MA.2)) ∧ (X.cell? ⟨g12, 0, none⟩ = some (.int .u64 MB.1) ∧ X.cell? ⟨g12, 1, none⟩ = some (.int .u64 MB.2)) from by
                    have h1 := HKm.out X (HBm.out.trans ((HB12.out.trans (hX.mono HB12.out.size)).mono HBm.out.size))
                    have h2 := (HM11.out.below hb12' HM11.out.lt).below hX (Nat.lt_of_lt_of_le HM11.out.lt hb12'.size)
                    have h3 := hm12.below hX hm12.lt
                    exact ⟨h1, ⟨h2.cell0, h2.cell1⟩, ⟨h3.cell0, h3.cell1⟩⟩)
                  clear hb12 hW12 hg12 hm12 hb12' a0 a1
                  obtain ⟨⟨a0, a1⟩, ⟨a2, a3⟩, ⟨a4, a5⟩⟩ := HK12.out W12 (Below.refl _ _)
                  go_upto_region 25 with fail
                  rw [← HW12.out]
                  go_wp2_with fail
                  refine (HSl.out _).mono ?_
                  rintro e w13 ⟨rfl, rfl⟩
                  rw [← HG11.out, ← HG12.out]
                  go_upto_region 28 with fail
                  refine region_quiet (fun X => Below W12.heap.size W12 X) (by kernel_rfl) (by kernel_rfl) (below_drew (Below.refl _ _)) ?_
                  repeat (first | go_big_quiet_skip | (go_big_quiet_want; go_big_quiet_op; first | go_big_quiet_on | (refine ⟨_, fun _ _ => rfl, ?_⟩; go_big_quiet_on) | (apply Exists.intro; refine ⟨fun W hW => ?_, ?_⟩; (focus (obtain ⟨⟨z0, z1⟩, ⟨z2, z3⟩, ⟨z4, z5⟩⟩ := HK12.out W hW; simp only [Result.andThen, z0, z1, z2, z3, z4, z5]; exact ⟨trivial, rfl⟩)); go_big_quiet_on) | (apply Exists.intro; refine ⟨fun W hW => ?_, ?_⟩; (focus ((with_reducible refine (HRx.out W).mono ?_); intro _ _ h; exact ⟨h.1, hW.trans (h.2.mono hW.size)⟩)); go_big_quiet_on) | (apply Exists.intro; refine ⟨fun W hW => ?_, ?_⟩; (focus ((with_reducible refine (HRy.out W).mono ?_); intro _ _ h; exact ⟨h.1, hW.trans (h.2.mono hW.size)⟩)); go_big_quiet_on)))
                  refine wpQuiet_nil ?_
                  intro w14 hq14
                  have HB14 := Lib.hid (HB12.out.trans (hq14.mono HB12.out.size))
                  clear hq14 hqA hqB
                  go_wp2
                  go_roundw
                  case rel => exact ⟨j2 + 1, by omega, by go_num, HB14⟩
                  case measure => simp [intOf]; omega
              · obtain rfl : j2 = j := by omega
                go_wp2
                go_ret
                exact ⟨rfl, HB5.out.trans (HQ.out.mono HB5.out.size)⟩

set_option maxRecDepth 100000 in
theorem lifted (os : Os) (started : os.Started) (H : Type) (enc : TypeId × Value → H) :
    ReturnsInHanded {} Try.checked os 3 .any (Rows.maskMakesSpec.pre6 enc Try.prog Try.f3 Rows.maskMakesRow.domain false) (Rows.maskMakesSpec.post enc Try.prog Try.f3 false true false false) := by
  refine returnsInHanded_of_change (C := Try.checked) Try.own started (by kernel_rfl) Try.func3
    (ChangeSpec.witness6 (enc := enc) (C := Try.checked) false ⟨#[], #[.slice none 0 0, .agg #[.int .u64 0, .int .u64 0]], []⟩ 8 (by kernel_rfl) (by kernel_rfl) (by kernel_rfl) (by kernel_rfl)) ?_
  intro W base args ds gs before hval0 hW hcnd _
  have hval : ∀ (j : Nat) t v, Try.f3.params[j]? = some t → args[j]? = some v → Value.okWide Try.prog W .any base t v := hval0
  have hW' := hW
  obtain ⟨p, q, hA0, hV, rfl, hfz, hnd⟩ := hW
  have hA : DataW.TrodAll enc Try.prog W 0 (fun _ => true) true Try.f3.params.toList args.toList ds p := hA0
  rw [Try.params3] at hA hval
  have hA' := hA
  obtain ⟨v0, vs0, d0, ds0, p0, q0, hargs, rfl, rfl, h0, r0⟩ := trodAll_cons hA
  obtain ⟨v1, vs1, d1, ds1, p1, q1, rfl, rfl, rfl, h1, r1⟩ := trodAll_cons r0
  obtain ⟨rfl, rfl, rfl⟩ := trodAll_nil r1
  obtain rfl : args = #[v0, v1] := by cases args; simp_all
  obtain ⟨rfl, rfl⟩ := trodVars_none hV
  obtain ⟨A0, len0, c0, rfl⟩ := okWide_slice Try.underlying22 (hval 0 22 v0 rfl rfl)
  obtain ⟨z0, rfl, sl0⟩ := open_slots h0
  obtain ⟨z1, rfl, sl1⟩ := open_mask (hval 1 25 v1 rfl rfl) h1
  clear hA0 hval0
  refine (walk A0 c0 z0 sl0 z1 sl1).mono fun e W' ⟨he, bel⟩ => ?_
  subst he
  exact ⟨_, rfl, _, _, _, [], _, [], hW', trodAll_mk1 (shut_bool Try.underlying4 _), trodAll_below bel _ _ _ _ (by kernel_rfl) hA', rfl, bel.frame _, fun h => by cases h⟩

theorem proved : Rows.MaskMakesSaid :=
  OpenClaim.holds_of_wide 3 Try.f3 rfl rfl rfl rfl rfl rfl rfl ⟨rfl, rfl, rfl, rfl, rfl⟩ rfl rfl rfl rfl rfl (by kernel_rfl) Try.func3 (by kernel_rfl)
    (of_decide_eq_true (by kernel_rfl)) (by unfold Func.isWrapper; first | (rw [if_pos (by decide +kernel)]; kernel_rfl) | (rw [if_neg (by decide +kernel)]; exact ⟨rfl, rfl⟩))
    (fun os started H enc _ => lifted os started H enc)
#print axioms proved
end Go.Proofs.Ytkfgiedpnmpfgaa.maskMakes
