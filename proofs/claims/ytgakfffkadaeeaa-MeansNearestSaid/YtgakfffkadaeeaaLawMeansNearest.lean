/-
  Proved: the law MeansNearest, no centroid is nearer to a vector than its own, and of several that are as near the first one is, returns true for every centroids and vectors, and leaves all memory as it was. No condition.
-/
import Derived.Test.YtgakfffkadaeeaaMnsV
namespace Go.Proofs.Ytgakfffkadaeeaa.meansNearest
open Go.ChangeShapes Go.WideShapes Go.ChangeAt Go.RowKit
set_option linter.unusedVariables false
set_option linter.unusedSimpArgs false
set_option maxRecDepth 100000

theorem dist_of {n : Nat} {a b : List Int} (ha : right a = true ∧ a.length = n) (hb : right b = true ∧ b.length = n) : distE a b = 0 ∧ distD a b = distM a b := by
  have e : distE a b = 0 := by
    unfold distE refuseM
    have h1 : b.length = a.length := by omega
    simp [ha.1, hb.1, h1]
  exact ⟨e, by unfold distD; rw [if_pos e]⟩

set_option maxHeartbeats 4000000 in
theorem walk {w : World} (A : Option Addr) (c : Nat) (x : List (List Int)) (H : Vecs .i32 w A c x) (A' : Option Addr) (c' : Nat) (l : List (List Int)) (H' : Vecs .i32 w A' c' l) :
    Calls Try.prog 7 #[.slice A x.length c, .slice A' l.length c'] w fun e w' => e = .returned (.bool true) ∧ Below w.heap.size w w' := by
  have HWk := Lib.hid (wakes_any w)
  have HFw := Lib.hid (fun (V : World) (hV : Below w.heap.size w V) => few_v A c x 6 V (H.below hV) (by omega))
  have HFl := Lib.hid (fun (V : World) (hV : Below w.heap.size w V) => few_v A' c' l 96 V (H'.below hV) (by omega))
  obtain ⟨C, hC⟩ : ∃ C, C = fewM x 6 := ⟨_, rfl⟩
  obtain ⟨L, hL⟩ : ∃ L, L = fewM l 96 := ⟨_, rfl⟩
  rw [← hC] at HFw
  rw [← hL] at HFl
  generalize x.length = n0 at *
  generalize l.length = m0 at *
  obtain ⟨n, hn⟩ : ∃ n, n = C.length := ⟨_, rfl⟩
  obtain ⟨m, hm⟩ : ∃ m, m = L.length := ⟨_, rfl⟩
  have HPt := Lib.hid (fun (A1 A2 : Option Addr) (c1 c2 : Nat) (V : World) (h1 : Vecs .i32 V A1 c1 C) (h2 : Vecs .i32 V A2 c2 L) => show Calls Try.prog 22 #[.slice A1 n c1, .slice A2 m c2] V (GIE V (partsI C L) (partsE C L)) from by rw [hn, hm]; exact parts_v A1 A2 c1 c2 C L V h1 h2)
  have HN := Lib.hid hn
  have HM := Lib.hid hm
  unfold GV at HFw HFl
  unfold GIE at HPt
  rw [← hn] at HFw
  rw [← hm] at HFl
  by_cases h0 : partsE C L = 0
  · obtain ⟨⟨n1, n6⟩, ⟨m1, m96⟩, _⟩ := parts_ok h0
    obtain ⟨dim, a1, a2⟩ := parts_alike h0
    have hpi : partsI C L = intsOf (partsM C L) := by unfold partsI; rw [if_pos h0]
    have hpl : (partsI C L).length = m := by rw [hpi, parts_len, hm]
    have HP := Lib.hid (fun (i : Nat) (v : List Int) (hv : L[i]? = some v) => show (partsI C L).getD i 0 = ((nearM C v : Nat) : Int) from by
      rw [hpi]
      unfold intsOf partsM
      simp [List.getD, hv])
    have HDs := Lib.hid (fun (k : Nat) (y v : List Int) (hy : C[k]? = some y) (hv : v ∈ L) (B1 B2 : Option Addr) (k1 k2 : Nat) (V : World) (h1 : Vec .i32 V B1 k1 y) (h2 : Vec .i32 V B2 k2 v) => show Calls Try.prog 30 #[.slice B1 y.length k1, .slice B2 v.length k2] V (fun e w' => e = .returned (.tuple #[.int .u64 (farM C v k), .int .i64 0]) ∧ Below V.heap.size V w') from by
      have := dist_any B1 B2 k1 k2 y v V h1 h2
      obtain ⟨e1, e2⟩ := dist_of (a1 y (List.mem_of_getElem? hy)) (a2 v hv)
      rw [e1, e2] at this
      have : farM C v k = distM y v := by unfold farM; rw [getD_at hy]
      rw [this]
      assumption)
    have HLs := Lib.hid (fun (v : List Int) => show nearM C v < n ∧ (∀ k, k < n → farM C v (nearM C v) ≤ farM C v k) ∧ ∀ k, k < nearM C v → farM C v (nearM C v) < farM C v k from by
      obtain ⟨l1, _, l3⟩ := nearF_least (farM C v) C.length
      rw [hn]
      exact ⟨near_lt v n1, l1, l3⟩)
    rw [h0, hpl] at HPt
    rw [← hn] at n1 n6
    rw [← hm] at m1 m96
    clear H H' hC hL hn hm h0 hpi a1 a2
    go_enter Try.func7, Try.ntmps7
    go_wp2_with fail
    refine HWk.out.mono ?_
    rintro e w1 ⟨rfl, hb1⟩
    have HB1 := Lib.hid hb1
    clear hb1
    go_wp2_with fail
    refine (HFw.out w1 HB1.out).mono ?_
    rintro e w2 ⟨A1, c1, rfl, hv, hb2⟩
    have HV := Lib.hid hv
    have HB2 := Lib.hid (below_tr HB1.out hb2)
    clear hv hb2
    go_wp2_with fail
    refine (HFl.out w2 HB2.out).mono ?_
    rintro e w3 ⟨A2, c2, rfl, hd, hb3⟩
    have HD := Lib.hid hd
    have HV3 := Lib.hid (HV.out.below hb3)
    have HB3 := Lib.hid (below_tr HB2.out hb3)
    clear hd hb3
    go_wp2_with fail
    refine (HPt.out A1 A2 c1 c2 w3 HV3.out HD.out).mono ?_
    rintro e w4 ⟨A3, c3, rfl, hp, hb4⟩
    have HPv := Lib.hid hp
    have HV4 := Lib.hid (HV3.out.below hb4)
    have HD4 := Lib.hid (HD.out.below hb4)
    have HB4 := Lib.hid (below_tr HB3.out hb4)
    have HPL := Lib.hid hpl
    clear hp hb4 hpl
    go_wp2
    go_loopw [35] (fun i wr => ∃ k : Nat, k ≤ m ∧ i = .int .i64 k ∧ Hid (Below w4.heap.size w4 wr)) (fun i _ => m - (intOf i).toNat)
    case atStart => exact ⟨0, Nat.zero_le _, rfl, Lib.hid (Below.refl _ _)⟩
    case round =>
      obtain ⟨i, hi, rfl, HI⟩ := hrel
      by_cases him : i < m
      · obtain ⟨b, o, v, B, cb, rfl, hv, hb, d0, hvv⟩ := (HD4.out.below HI.out).at_ (i := i) (by rw [← HM.out]; exact him)
        have hvm := List.mem_of_getElem? hv
        obtain ⟨b2, o2, rfl, hb2, d1⟩ := (HPv.out.below HI.out).at_ (j := i) (by rw [HPL.out]; exact him)
        rw [HP.out i v hv] at d1
        obtain ⟨g1, g2, g3⟩ := HLs.out v
        have HC0 := Lib.hid (HV4.out.below HI.out)
        obtain ⟨b3, o3, y, B3, cb3, rfl, hy, hb3, d2, hyv⟩ := HC0.out.at_ (i := nearM C v) (by rw [← HN.out]; exact g1)
        have HDi := Lib.hid (HDs.out (nearM C v) y v hy hvm B3 B cb3 cb wr hyv hvv)
        have HVV := Lib.hid hvv
        have HVM := Lib.hid hvm
        have HG := Lib.hid (And.intro g2 g3)
        have HPv1 := Lib.hid (fun (W : World) (hW : Below wr.heap.size wr W) => show W.cell? ⟨b2, o2 + i, none⟩ = some (.int .i64 ((nearM C v : Nat) : Int)) from (hW.cell (p := ⟨b2, o2 + i, none⟩) hb2).trans d1)
        obtain ⟨own, hown⟩ : ∃ own, own = farM C v (nearM C v) := ⟨_, rfl⟩
        rw [← hown] at HDi HG
        obtain ⟨p, hp⟩ : ∃ p, p = nearM C v := ⟨_, rfl⟩
        rw [← hp] at d1 d2 g1 HPv1 HG
        obtain ⟨vl, hvl⟩ : ∃ vl, vl = v.length := ⟨_, rfl⟩
        have HVL := Lib.hid hvl
        rw [← hvl] at d0 HDi
        obtain ⟨yl, hyl⟩ : ∃ yl, yl = y.length := ⟨_, rfl⟩
        rw [← hyl] at d2 HDi
        have i0 : (0 : Int) ≤ i := by omega
        have im : (i : Int) < m := by omega
        have p0 : (0 : Int) ≤ p := by omega
        have pn : (p : Int) < n := by omega
        clear hv hb hvv hvm hb2 hy hb3 hyv g2 g3 hown hp hvl hyl
        go_wp2_with fail
        refine HDi.out.mono ?_
        rintro e w5 ⟨rfl, hb5⟩
        have HB5 := Lib.hid hb5
        clear hb5 d0 d1 d2
        go_wp2
        go_loopw [56] (fun j wv => ∃ k : Nat, k ≤ n ∧ j = .int .i64 k ∧ Hid (Below wr.heap.size wr wv)) (fun j _ => n - (intOf j).toNat)
        case atStart => exact ⟨0, Nat.zero_le _, rfl, HB5⟩
        case round =>
          obtain ⟨k, hk, rfl, HK⟩ := hrel
          rename_i wv
          by_cases hkn : k < n
          · obtain ⟨b4, o4, z, B4, cb4, hA4, hz, hb4, d3, hzv⟩ := (HC0.out.below HK.out).at_ (i := k) (by rw [← HN.out]; exact hkn)
            injection hA4 with hA4
            injection hA4 with hA5 hA6
            subst hA5 hA6
            have HDk := Lib.hid (HDs.out k z v hz HVM.out B4 B cb4 cb _ hzv (HVV.out.below HK.out))
            rw [← HVL.out] at HDk
            have hge := HG.out.1 k hkn
            have hgt := HG.out.2 k
            generalize farM C v k = dk at *
            generalize z.length = zl at *
            have k0 : (0 : Int) ≤ k := by omega
            have kn : (k : Int) < n := by omega
            have hnl : ¬ dk < own := by omega
            clear hz hb4 hzv
            go_wp2_with fail
            refine HDk.out.mono ?_
            rintro e w6 ⟨rfl, hb6⟩
            have e1 := HPv1.out w6 (below_tr HK.out hb6)
            have HB6 := Lib.hid (below_tr HK.out hb6)
            clear hb6 d3
            by_cases he : dk = own
            · have t1 : (dk == own) = true := by simpa using he
              have hkp : ¬ k < p := fun h => by have := hgt h; omega
              have t2 : decide ((k : Int) < (p : Int)) = false := by simp; omega
              have t3 : decide (k < p) = false := by simpa using hkp
              clear he hgt hge
              go_wp2
              go_roundw
              case rel => exact ⟨k + 1, by omega, by go_num, HB6⟩
              case measure => simp [intOf]; omega
            · have t1 : (dk == own) = false := by simpa using he
              clear he hgt hge
              go_wp2
              go_roundw
              case rel => exact ⟨k + 1, by omega, by go_num, HB6⟩
              case measure => simp [intOf]; omega
          · obtain rfl : k = n := by omega
            go_wp2
            go_roundw
            case rel => exact ⟨i + 1, by omega, by go_num, Lib.hid (below_tr HI.out HK.out)⟩
            case measure => simp [intOf]; omega
      · obtain rfl : i = m := by omega
        go_wp2
        go_ret
        exact ⟨by simp, below_tr HB4.out HI.out⟩
  · have t1 : (partsE C L == 0) = false := by simpa using h0
    have t2 : (partsE C L != 0) = true := by simpa using h0
    have hp0 : (partsI C L).length = 0 := by unfold partsI; rw [if_neg h0]; rfl
    rw [hp0] at HPt
    generalize partsE C L = E at *
    clear H H' hC hL hn hm h0 hp0
    go_enter Try.func7, Try.ntmps7
    go_wp2_with fail
    refine HWk.out.mono ?_
    rintro e w1 ⟨rfl, hb1⟩
    have HB1 := Lib.hid hb1
    clear hb1
    go_wp2_with fail
    refine (HFw.out w1 HB1.out).mono ?_
    rintro e w2 ⟨A1, c1, rfl, hv, hb2⟩
    have HV := Lib.hid hv
    have HB2 := Lib.hid (below_tr HB1.out hb2)
    clear hv hb2
    go_wp2_with fail
    refine (HFl.out w2 HB2.out).mono ?_
    rintro e w3 ⟨A2, c2, rfl, hd, hb3⟩
    have HD := Lib.hid hd
    have HV3 := Lib.hid (HV.out.below hb3)
    have HB3 := Lib.hid (below_tr HB2.out hb3)
    clear hd hb3
    go_wp2_with fail
    refine (HPt.out A1 A2 c1 c2 w3 HV3.out HD.out).mono ?_
    rintro e w4 ⟨A3, c3, rfl, hp, hb4⟩
    have HB4 := Lib.hid (below_tr HB3.out hb4)
    clear hp hb4
    go_wp2
    go_ret
    exact ⟨by simp, HB4.out⟩

set_option maxRecDepth 100000 in
theorem lifted (os : Os) (started : os.Started) (H : Type) (enc : TypeId × Value → H) :
    ReturnsInHanded {} Try.checked os 7 .any (Rows.meansNearestSpec.pre6 enc Try.prog Try.f7 Rows.meansNearestRow.domain false) (Rows.meansNearestSpec.post enc Try.prog Try.f7 false true false false) := by
  refine returnsInHanded_of_change (C := Try.checked) Try.own started (by kernel_rfl) Try.func7
    (ChangeSpec.witness6 (enc := enc) (C := Try.checked) false ⟨#[], #[.slice none 0 0, .slice none 0 0], []⟩ 8 (by kernel_rfl) (by kernel_rfl) (by kernel_rfl) (by kernel_rfl)) ?_
  intro W base args ds gs before hval0 hW hcnd _
  have hval : ∀ (j : Nat) t v, Try.f7.params[j]? = some t → args[j]? = some v → Value.okWide Try.prog W .any base t v := hval0
  have hW' := hW
  obtain ⟨p, q, hA0, hV, rfl, hfz, hnd⟩ := hW
  have hA : DataW.TrodAll enc Try.prog W 0 (fun _ => true) true Try.f7.params.toList args.toList ds p := hA0
  rw [Try.params7] at hA hval
  have hA' := hA
  obtain ⟨v0, vs0, d0, ds0, p0, q0, hargs, rfl, rfl, h0, r0⟩ := trodAll_cons hA
  obtain ⟨v1, vs1, d1, ds1, p1, q1, rfl, rfl, rfl, h1, r1⟩ := trodAll_cons r0
  obtain ⟨rfl, rfl, rfl⟩ := trodAll_nil r1
  obtain rfl : args = #[v0, v1] := by cases args; simp_all
  obtain ⟨rfl, rfl⟩ := trodVars_none hV
  obtain ⟨A0, len0, c0, rfl⟩ := okWide_slice Try.underlying22 (hval 0 22 v0 rfl rfl)
  obtain ⟨z0, rfl, sl0⟩ := open_vecs h0
  obtain ⟨A1, len1, c1, rfl⟩ := okWide_slice Try.underlying22 (hval 1 22 v1 rfl rfl)
  obtain ⟨z1, rfl, sl1⟩ := open_vecs h1
  clear hA0 hval0
  refine (walk A0 c0 z0 sl0 A1 c1 z1 sl1).mono fun e W' ⟨he, bel⟩ => ?_
  subst he
  exact ⟨_, rfl, _, _, _, [], _, [], hW', trodAll_mk1 (shut_bool Try.underlying4 _), trodAll_below bel _ _ _ _ (by kernel_rfl) hA', rfl, bel.frame _, fun h => by cases h⟩

theorem proved : Rows.MeansNearestSaid :=
  OpenClaim.holds_of_wide 7 Try.f7 rfl rfl rfl rfl rfl rfl rfl ⟨rfl, rfl, rfl, rfl, rfl⟩ rfl rfl rfl rfl rfl (by kernel_rfl) Try.func7 (by kernel_rfl)
    (of_decide_eq_true (by kernel_rfl)) (by unfold Func.isWrapper; first | (rw [if_pos (by decide +kernel)]; kernel_rfl) | (rw [if_neg (by decide +kernel)]; exact ⟨rfl, rfl⟩))
    (fun os started H enc _ => lifted os started H enc)
#print axioms proved
end Go.Proofs.Ytgakfffkadaeeaa.meansNearest
