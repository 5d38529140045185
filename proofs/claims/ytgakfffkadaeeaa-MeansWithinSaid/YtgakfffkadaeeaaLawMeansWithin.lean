/-
  Proved: the law MeansWithin, what is trained is between the least and the greatest of each component, returns true for every rows of vectors and draws, and leaves all memory as it was. No condition.
-/
import Derived.Test.YtgakfffkadaeeaaMnsV
namespace Go.Proofs.Ytgakfffkadaeeaa.meansWithin
open Go.ChangeShapes Go.WideShapes Go.ChangeAt Go.RowKit
set_option linter.unusedVariables false
set_option linter.unusedSimpArgs false
set_option maxRecDepth 100000

/-- The least, the greatest of the first so many. -/
def loF (f : Nat → Int) : Nat → Int
  | 0 => f 0
  | j + 1 => min (loF f j) (f j)
def hiF (f : Nat → Int) : Nat → Int
  | 0 => f 0
  | j + 1 => max (hiF f j) (f j)
theorem lo_le (f : Nat → Int) (n : Nat) : ∀ j, j < n → loF f n ≤ f j := by
  induction n with
  | zero => intro j hj; omega
  | succ n ih =>
    intro j hj
    show min (loF f n) (f n) ≤ f j
    rcases Nat.lt_or_eq_of_le (Nat.le_of_lt_succ hj) with h | rfl
    · have := ih j h; omega
    · omega
theorem hi_ge (f : Nat → Int) (n : Nat) : ∀ j, j < n → f j ≤ hiF f n := by
  induction n with
  | zero => intro j hj; omega
  | succ n ih =>
    intro j hj
    show f j ≤ max (hiF f n) (f n)
    rcases Nat.lt_or_eq_of_le (Nat.le_of_lt_succ hj) with h | rfl
    · have := ih j h; omega
    · omega
def at2 (L : List (List Int)) (k j : Nat) : Int := (L.getD j []).getD k 0
theorem within_of (L : List (List Int)) (k : Nat) : Within L k (loF (at2 L k) L.length) (hiF (at2 L k) L.length) := by
  intro x hx
  obtain ⟨j, hj, rfl⟩ := List.getElem_of_mem hx
  have e : at2 L k j = (L[j]).getD k 0 := by simp [at2, List.getD, List.getElem?_eq_getElem hj]
  rw [← e]
  exact ⟨lo_le _ _ j hj, hi_ge _ _ j hj⟩

set_option maxHeartbeats 4000000 in
theorem walk {w : World} (A : Option Addr) (c : Nat) (l : List (List Int)) (H : Vecs .i32 w A c l) (A' : Option Addr) (c' : Nat) (d : List Int) (H' : Vec .i64 w A' c' d) :
    Calls Try.prog 8 #[.slice A l.length c, .slice A' d.length c'] w fun e w' => e = .returned (.bool true) ∧ Below w.heap.size w w' := by
  have HWk := Lib.hid (wakes_any w)
  have HFw := Lib.hid (fun (V : World) (hV : Below w.heap.size w V) => few_v A c l 96 V (H.below hV) (by omega))
  have HSm := Lib.hid (fun (V : World) (hV : Below w.heap.size w V) => some_any A' c' d V (H'.below hV))
  obtain ⟨L, hL⟩ : ∃ L, L = fewM l 96 := ⟨_, rfl⟩
  obtain ⟨D, hD⟩ : ∃ D, D = d.take 7 := ⟨_, rfl⟩
  rw [← hL] at HFw
  rw [← hD] at HSm
  generalize l.length = n0 at *
  generalize d.length = m0 at *
  obtain ⟨n, hn⟩ : ∃ n, n = L.length := ⟨_, rfl⟩
  obtain ⟨m, hm⟩ : ∃ m, m = D.length := ⟨_, rfl⟩
  have HTr := Lib.hid (fun (A1 A2 : Option Addr) (c1 c2 : Nat) (V : World) (h1 : Vecs .i32 V A1 c1 L) (h2 : Vec .i64 V A2 c2 D) => show Calls Try.prog 16 #[.slice A1 n c1, .slice A2 m c2] V (GVE V (trainV L D) (startE L D)) from by rw [hn, hm]; exact train_v A1 A2 c1 c2 L D V h1 h2)
  have HN := Lib.hid hn
  have HM := Lib.hid hm
  unfold GV at HFw
  unfold GVE at HTr
  rw [← hn] at HFw
  rw [← hm] at HSm
  by_cases h0 : startE L D = 0
  · obtain ⟨dim, a2, a1, ⟨l0, l96⟩, hdr⟩ := start_facts h0
    have hT : trainV L D = trainM L D := by unfold trainV; rw [if_pos h0]
    have hTl : (trainV L D).length = m := by rw [hT, hm]; unfold trainM; rw [rounds_length, start_length]
    have HW := Lib.hid (fun (k : Nat) (hk : k < dim) => show Within (trainV L D) k (loF (at2 L k) n) (hiF (at2 L k) n) from by
      rw [hT, hn]
      have h1 := within_of L k
      exact rounds_within a1 a2 hk (fun x hx => h1 x (start_mem l0 D x hx)) h1 4)
    have HTA := Lib.hid (show Alike dim (trainV L D) from by rw [hT]; exact rounds_alike a1 a2 4)
    have HLA := Lib.hid a2
    have hdim := right_len (a2 _ (getD_mem l0)).1
    rw [(a2 _ (getD_mem l0)).2] at hdim
    obtain ⟨d1, d4⟩ := hdim
    rw [h0, hTl] at HTr
    generalize trainV L D = T at *
    rw [← hn] at l0 l96
    rw [← hm] at hdr
    have hm6 := hdr.2.1
    have HTL := Lib.hid hTl
    clear H H' hL hD hn hm h0 hT hTl a1 a2 hdr
    go_enter Try.func8, Try.ntmps8
    go_wp2_with fail
    refine HWk.out.mono ?_
    rintro e w1 ⟨rfl, hb1⟩
    have HB1 := Lib.hid hb1
    clear hb1
    go_wp2_with fail
    refine (HFw.out w1 HB1.out).mono ?_
    rintro e w2 ⟨A1, c1, rfl, hv, hb2⟩
    have HV := Lib.hid hv
    have HB2 := Lib.hid (below_tr HB1.out hb2)
    clear hv hb2
    go_wp2_with fail
    refine (HSm.out w2 HB2.out).mono ?_
    rintro e w3 ⟨A2, c2, rfl, hd, hb3⟩
    have HD := Lib.hid hd
    have HV3 := Lib.hid (HV.out.below hb3)
    have HB3 := Lib.hid (below_tr HB2.out hb3)
    clear hd hb3
    go_wp2_with fail
    refine (HTr.out A1 A2 c1 c2 w3 HV3.out HD.out).mono ?_
    rintro e w4 ⟨A3, c3, rfl, hc, hb4⟩
    have HC := Lib.hid hc
    have HV4 := Lib.hid (HV3.out.below hb4)
    have HB4 := Lib.hid (below_tr HB3.out hb4)
    clear hc hb4
    obtain ⟨b, o, x0, B0, cb0, rfl, hx0, hb, q0, hv0⟩ := HV4.out.at_ (i := 0) (by rw [← HN.out]; exact l0)
    have hxd : x0.length = dim := (HLA.out x0 (List.mem_of_getElem? hx0)).2
    rw [hxd, Nat.add_zero] at q0
    have n0' : (0 : Int) < n := by omega
    have HX0 := Lib.hid hx0
    have HV0 := Lib.hid hv0
    have HXD := Lib.hid hxd
    have HQ0 := Lib.hid (fun (W : World) (hW : Below w4.heap.size w4 W) => show W.cell? ⟨b, o, none⟩ = some (.slice B0 dim cb0) from (hW.cell (p := ⟨b, o, none⟩) hb).trans q0)
    clear hx0 hb hv0 hxd
    go_wp2
    clear q0
    go_loopw [37] (fun i wr => ∃ k : Nat, k ≤ dim ∧ i = .int .i64 k ∧ Hid (Below w4.heap.size w4 wr)) (fun i _ => dim - (intOf i).toNat)
    case atStart => exact ⟨0, Nat.zero_le _, rfl, Lib.hid (Below.refl _ _)⟩
    case round =>
      obtain ⟨k, hk, rfl, HI⟩ := hrel
      by_cases hkd : k < dim
      · have k0 : (0 : Int) ≤ k := by omega
        have kd : (k : Int) < dim := by omega
        obtain ⟨g, p, rfl, _, r0⟩ := (HV0.out.below HI.out).at_ (j := k) (by rw [HXD.out]; exact hkd)
        have q0 := HQ0.out wr HI.out
        have HA0 := Lib.hid (show x0.getD k 0 = loF (at2 L k) 0 ∧ x0.getD k 0 = hiF (at2 L k) 0 from by
          have : at2 L k 0 = x0.getD k 0 := by unfold at2; rw [getD_at HX0.out]
          exact ⟨this.symm, this.symm⟩)
        generalize x0.getD k 0 = x00 at *
        go_wp2
        go_quiet (fail)
        go_wp2
        clear q0 r0
        obtain ⟨wk, hwk⟩ : ∃ wk, wk = wr.drewN nq := ⟨_, rfl⟩
        have HK0 := Lib.hid (show Below w4.heap.size w4 wk from by rw [hwk]; exact below_drewN HI.out nq)
        rw [← hwk]
        clear hwk
        go_loopw [10, 11, 54] (fun lo hi j wv => ∃ q : Nat, q ≤ n ∧ j = .int .i64 q ∧ lo = .int .i32 (loF (at2 L k) q) ∧ hi = .int .i32 (hiF (at2 L k) q) ∧ Hid (Below w4.heap.size w4 wv)) (fun _ _ j _ => n - (intOf j).toNat)
        case atStart => exact ⟨0, Nat.zero_le _, rfl, by rw [HA0.out.1], by rw [HA0.out.2], HK0⟩
        case round =>
          obtain ⟨q, hq, rfl, rfl, rfl, HJ⟩ := hrel
          by_cases hqn : q < n
          · obtain ⟨b1, o1, x, B1, cb1, hA1, hx, _, s0, hv1⟩ := (HV4.out.below HJ.out).at_ (i := q) (by rw [← HN.out]; exact hqn)
            injection hA1 with hA1
            injection hA1 with hA2 hA3
            subst hA2 hA3
            have hxl : x.length = dim := (HLA.out x (List.mem_of_getElem? hx)).2
            rw [hxl] at s0
            obtain ⟨g1, p1, rfl, _, s1⟩ := hv1.at_ (j := k) (by rw [hxl]; exact hkd)
            have HSt := Lib.hid (show loF (at2 L k) (q + 1) = min (loF (at2 L k) q) (x.getD k 0) ∧ hiF (at2 L k) (q + 1) = max (hiF (at2 L k) q) (x.getD k 0) from by
              have : at2 L k q = x.getD k 0 := by unfold at2; rw [getD_at hx]
              rw [← this]; exact ⟨rfl, rfl⟩)
            generalize x.getD k 0 = xk at *
            generalize loF (at2 L k) q = lo at *
            generalize hiF (at2 L k) q = hi at *
            have q0 : (0 : Int) ≤ q := by omega
            have qn : (q : Int) < n := by omega
            clear hx hv1 hxl
            go_wp2
            go_region
            all_goals (
              go_wp2
              go_roundw
              case rel => exact ⟨q + 1, by omega, by go_num, by rw [HSt.out.1], by rw [HSt.out.2], Lib.hid (below_drew HJ.out)⟩
              case measure => simp [intOf]; omega)
          · obtain rfl : q = n := by omega
            have HWk2 := Lib.hid (HW.out k hkd)
            generalize loF (at2 L k) q = lo at *
            generalize hiF (at2 L k) q = hi at *
            obtain ⟨wy, hwy⟩ : ∃ wy, wy = wr := ⟨_, rfl⟩
            go_wp2
            go_loopw [73] (fun j wv => ∃ z : Nat, z ≤ m ∧ j = .int .i64 z ∧ Hid (Below w4.heap.size w4 wv)) (fun j _ => m - (intOf j).toNat)
            case atStart => exact ⟨0, Nat.zero_le _, rfl, HJ⟩
            case round =>
              obtain ⟨z, hz, rfl, HZ⟩ := hrel
              by_cases hzm : z < m
              · obtain ⟨b1, o1, x, B1, cb1, rfl, hx, _, s0, hv1⟩ := (HC.out.below HZ.out).at_ (i := z) (by rw [HTL.out]; exact hzm)
                have hxl : x.length = dim := (HTA.out x (List.mem_of_getElem? hx)).2
                rw [hxl] at s0
                obtain ⟨g1, p1, rfl, _, s1⟩ := hv1.at_ (j := k) (by rw [hxl]; exact hkd)
                obtain ⟨e1, e2⟩ := HWk2.out x (List.mem_of_getElem? hx)
                generalize x.getD k 0 = xk at *
                have t1 : ¬ xk < lo := by omega
                have t2 : ¬ hi < xk := by omega
                have z0 : (0 : Int) ≤ z := by omega
                have zm : (z : Int) < m := by omega
                have q0 := HQ0.out _ HZ.out
                clear hx hv1 hxl e1 e2
                go_wp2
                go_roundw
                case rel => exact ⟨z + 1, by omega, by go_num, HZ⟩
                case measure => simp [intOf]; omega
              · obtain rfl : z = m := by omega
                go_wp2
                go_roundw
                case rel => exact ⟨k + 1, by omega, by go_num, HZ⟩
                case measure => simp [intOf]; omega
      · obtain rfl : k = dim := by omega
        go_wp2
        go_ret
        exact ⟨by simp, below_tr HB4.out HI.out⟩
  · have t1 : (startE L D == 0) = false := by simpa using h0
    have t2 : (startE L D != 0) = true := by simpa using h0
    have hC0 : (trainV L D).length = 0 := by unfold trainV; rw [if_neg h0]; rfl
    rw [hC0] at HTr
    generalize startE L D = E at *
    clear H H' hL hD hn hm h0 hC0
    go_enter Try.func8, Try.ntmps8
    go_wp2_with fail
    refine HWk.out.mono ?_
    rintro e w1 ⟨rfl, hb1⟩
    have HB1 := Lib.hid hb1
    clear hb1
    go_wp2_with fail
    refine (HFw.out w1 HB1.out).mono ?_
    rintro e w2 ⟨A1, c1, rfl, hv, hb2⟩
    have HV := Lib.hid hv
    have HB2 := Lib.hid (below_tr HB1.out hb2)
    clear hv hb2
    go_wp2_with fail
    refine (HSm.out w2 HB2.out).mono ?_
    rintro e w3 ⟨A2, c2, rfl, hd, hb3⟩
    have HD := Lib.hid hd
    have HV3 := Lib.hid (HV.out.below hb3)
    have HB3 := Lib.hid (below_tr HB2.out hb3)
    clear hd hb3
    go_wp2_with fail
    refine (HTr.out A1 A2 c1 c2 w3 HV3.out HD.out).mono ?_
    rintro e w4 ⟨A3, c3, rfl, hc, hb4⟩
    have HB4 := Lib.hid (below_tr HB3.out hb4)
    clear hc hb4
    go_wp2
    go_ret
    exact ⟨by simp, HB4.out⟩

set_option maxRecDepth 100000 in
theorem lifted (os : Os) (started : os.Started) (H : Type) (enc : TypeId × Value → H) :
    ReturnsInHanded {} Try.checked os 8 .any (Rows.meansWithinSpec.pre6 enc Try.prog Try.f8 Rows.meansWithinRow.domain false) (Rows.meansWithinSpec.post enc Try.prog Try.f8 false true false false) := by
  refine returnsInHanded_of_change (C := Try.checked) Try.own started (by kernel_rfl) Try.func8
    (ChangeSpec.witness6 (enc := enc) (C := Try.checked) false ⟨#[], #[.slice none 0 0, .slice none 0 0], []⟩ 8 (by kernel_rfl) (by kernel_rfl) (by kernel_rfl) (by kernel_rfl)) ?_
  intro W base args ds gs before hval0 hW hcnd _
  have hval : ∀ (j : Nat) t v, Try.f8.params[j]? = some t → args[j]? = some v → Value.okWide Try.prog W .any base t v := hval0
  have hW' := hW
  obtain ⟨p, q, hA0, hV, rfl, hfz, hnd⟩ := hW
  have hA : DataW.TrodAll enc Try.prog W 0 (fun _ => true) true Try.f8.params.toList args.toList ds p := hA0
  rw [Try.params8] at hA hval
  have hA' := hA
  obtain ⟨v0, vs0, d0, ds0, p0, q0, hargs, rfl, rfl, h0, r0⟩ := trodAll_cons hA
  obtain ⟨v1, vs1, d1, ds1, p1, q1, rfl, rfl, rfl, h1, r1⟩ := trodAll_cons r0
  obtain ⟨rfl, rfl, rfl⟩ := trodAll_nil r1
  obtain rfl : args = #[v0, v1] := by cases args; simp_all
  obtain ⟨rfl, rfl⟩ := trodVars_none hV
  obtain ⟨A0, len0, c0, rfl⟩ := okWide_slice Try.underlying22 (hval 0 22 v0 rfl rfl)
  obtain ⟨z0, rfl, sl0⟩ := open_vecs h0
  obtain ⟨A1, len1, c1, rfl⟩ := okWide_slice Try.underlying23 (hval 1 23 v1 rfl rfl)
  obtain ⟨z1, rfl, sl1⟩ := open_nums h1
  clear hA0 hval0
  refine (walk A0 c0 z0 sl0 A1 c1 z1 sl1).mono fun e W' ⟨he, bel⟩ => ?_
  subst he
  exact ⟨_, rfl, _, _, _, [], _, [], hW', trodAll_mk1 (shut_bool Try.underlying4 _), trodAll_below bel _ _ _ _ (by kernel_rfl) hA', rfl, bel.frame _, fun h => by cases h⟩

theorem proved : Rows.MeansWithinSaid :=
  OpenClaim.holds_of_wide 8 Try.f8 rfl rfl rfl rfl rfl rfl rfl ⟨rfl, rfl, rfl, rfl, rfl⟩ rfl rfl rfl rfl rfl (by kernel_rfl) Try.func8 (by kernel_rfl)
    (of_decide_eq_true (by kernel_rfl)) (by unfold Func.isWrapper; first | (rw [if_pos (by decide +kernel)]; kernel_rfl) | (rw [if_neg (by decide +kernel)]; exact ⟨rfl, rfl⟩))
    (fun os started H enc _ => lifted os started H enc)
#print axioms proved
end Go.Proofs.Ytgakfffkadaeeaa.meansWithin
