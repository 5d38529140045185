/-
  ProbeRows: what is found among rows, or the error, as the document says. Holds for all rows, centroids, probes and worlds; of these what the law goes through.
-/
import Derived.Test.YtcekgllahlhaaaaGreatMPrF
import Derived.Test.YtcekgllahlhaaaaGreatMPrC
namespace Go.Proofs.YtcekgllahlhaaaaGreat.probeRows
open Go.ChangeShapes Go.WideShapes Go.ChangeAt Go.RowKit Go.Deep Go.Shelf
set_option linter.unusedVariables false
set_option linter.unusedSimpArgs false
set_option maxRecDepth 100000

set_option maxHeartbeats 8000000 in
theorem walk {w : World} (Ax : Option Addr) (cx : Nat) (q0 : List Pr) (hx : Rws w Ax cx q0) (Ay : Option Addr) (cy : Nat) (Y : List (List Int)) (hy : Vecs .i32 w Ay cy Y) (Ap : Option Addr) (cp : Nat) (ps : List Pb) (hp : Pbs w Ap cp ps) :
    Calls Tryz.prog 5 #[.slice Ax q0.length cx, .slice Ay Y.length cy, .slice Ap ps.length cp] w fun e w' => e = .returned (.bool true) ∧ Below w.heap.size w w' := by
  obtain ⟨nx, hnx⟩ : ∃ k, k = q0.length := ⟨_, rfl⟩
  obtain ⟨ny, hny⟩ : ∃ k, k = Y.length := ⟨_, rfl⟩
  obtain ⟨np, hnp⟩ : ∃ k, k = ps.length := ⟨_, rfl⟩
  have HWk := Lib.hid (wakes_any w)
  have HRs := Lib.hid (fun (X : World) (hX : Below w.heap.size w X) => rowsL_any Ax cx q0 X (hx.below hX))
  have HVs := Lib.hid (fun (X : World) (hX : Below w.heap.size w X) => vecsL_any Ay cy Y X (hy.below hX))
  have HRsO := Lib.hid (fun (X : World) (hX : Below w.heap.size w X) => rowsO_any Ax cx q0 X (hx.below hX))
  have HVsO := Lib.hid (fun (X : World) (hX : Below w.heap.size w X) => vecsO_any Ay cy Y X (hy.below hX))
  have HPs := Lib.hid (fun (X : World) (hX : Below w.heap.size w X) => hp.below hX)
  have hpm := Nat.le_trans hp.room hp.most
  rw [← hnx] at HRs HRsO
  rw [← hny] at HVs HVsO
  rw [← hnp] at hpm
  have HNp := Lib.hid hnp
  have HRl := Lib.hid (show (cutR (rvs q0)).length ≤ 60 by rw [cutR_len]; omega)
  generalize hR : cutR (rvs q0) = R at *
  generalize hC : cutC Y = C at *
  obtain ⟨n, hn⟩ : ∃ n, n = C.length := ⟨_, rfl⟩
  have HN := Lib.hid hn
  rw [← hn] at HVs HVsO
  rw [← hnx, ← hny, ← hnp]
  clear hx hy hp hnx hny hnp hR hC hn
  go_enter Tryz.func5, Tryz.ntmps5
  go_wp2_with fail
  refine HWk.out.mono ?_
  rintro e w1 ⟨rfl, hb1⟩
  have HB1 := Lib.hid hb1
  clear hb1
  go_wp2_with fail
  refine (HRs.out w1 HB1.out).mono ?_
  rintro e w2 ⟨A1, c1, q1, he, hq1, hr1, hb2⟩
  obtain ⟨n1, hn1⟩ : ∃ n, n = q1.length := ⟨_, rfl⟩
  rw [← hn1] at he
  subst he
  have HB2 := Lib.hid (HB1.out.trans (hb2.mono HB1.out.size))
  have HR1 := Lib.hid hr1
  have HQ1 := Lib.hid hq1
  have HN1 := Lib.hid hn1
  clear hb2 hr1 hq1 hn1
  go_wp2_with fail
  refine (HVs.out w2 HB2.out).mono ?_
  rintro e w3 ⟨A2, c2, rfl, hr2, hb3⟩
  have HB3 := Lib.hid (HB2.out.trans (hb3.mono HB2.out.size))
  have HR3 := Lib.hid (HR1.out.below hb3)
  have HR2 := Lib.hid hr2
  clear hb3 hr2
  have HRo := Lib.hid (fun (X : World) (hX : Below w3.heap.size w3 X) (A3 : Option Addr) (c3 : Nat) (v : List Int) (k t M : Int) (hv : Vec .i32 X A3 c3 v) => show Calls Tryz.prog 24 #[.slice A1 n1 c1, .slice A2 n c2, pv A3 v.length c3 k t M] X (GivesHE X (prL k M R C v) (prE k M R C v)) from by
    have h := rowsP_any A1 c1 q1 A2 c2 C v A3 c3 k t M X (HR3.out.below hX) (HR2.out.below hX) hv (by have := HRl.out; rw [← HQ1.out, rvs_length] at this; omega)
    rw [HQ1.out, ← HN1.out, ← HN.out] at h
    exact h)
  have HRq := Lib.hid (fun (X : World) (A1 : Option Addr) (c1 : Nat) (q1 : List Pr) (hq : rvs q1 = R) (hr : Rws X A1 c1 q1) (A2 : Option Addr) (c2 : Nat) (hc : Vecs .i32 X A2 c2 C) (A3 : Option Addr) (c3 : Nat) (v : List Int) (k t M : Int) (hv : Vec .i32 X A3 c3 v) => show Calls Tryz.prog 25 #[.slice A1 q1.length c1, .slice A2 n c2, pv A3 v.length c3 k t M] X (GivesHE X (prL k M R C v) (prE k M R C v)) from by
    have h := rRowsQ_any A1 c1 q1 A2 c2 C v A3 c3 k t M X hr hc hv (by have := HRl.out; rw [← hq, rvs_length] at this; omega)
    rw [hq, ← HN.out] at h
    exact h)
  go_wp2
  go_loopw [23] (fun i wr => ∃ k : Nat, k ≤ np ∧ i = .int .i64 k ∧ Hid (Below w3.heap.size w3 wr)) (fun i _ => np - (intOf i).toNat)
  case atStart => exact ⟨0, Nat.zero_le _, rfl, Lib.hid (Below.refl _ _)⟩
  case round =>
    obtain ⟨k, hk, rfl, HB⟩ := hrel
    by_cases hkp : k < np
    · obtain ⟨b, o, P, rfl, hP, hb, ⟨d0, d1, d2, d3⟩, hvp⟩ := (HPs.out wr (HB3.out.trans (HB.out.mono HB3.out.size))).at_ (i := k) (by rw [← HNp.out]; exact hkp)
      have k0 : (0 : Int) ≤ k := by omega
      have kp : (k : Int) < np := by omega
      obtain ⟨xl, hxl⟩ : ∃ xl, xl = P.x.length := ⟨_, rfl⟩
      rw [← hxl] at d0
      obtain ⟨V, hV⟩ : ∃ V, V = wr.alloc (.cells #[.slice P.B xl P.c, .int .i64 P.k, .int .u64 P.t, .int .i64 P.n] 47) := ⟨_, rfl⟩
      obtain ⟨gq, hgq⟩ : ∃ g, g = wr.heap.size := ⟨_, rfl⟩
      have hbx := (pbox wr P.B xl P.c P.k P.t P.n).1
      rw [← hV, ← hgq] at hbx
      have hbV : Below wr.heap.size wr V := by rw [hV]; exact bn1 _ _
      have HBV := Lib.hid (HB.out.trans (hbV.mono HB.out.size))
      have HPB := Lib.hid (fun (X : World) (hX : Below V.heap.size V X) => hbx.below hX hbx.lt)
      have HSo := Lib.hid (fun (X : World) (hX : Below V.heap.size V X) => someL_any P.B P.c P.x P.k P.t P.n X ((hvp.below hbV).below hX))
      have HSo2 := Lib.hid (fun (X : World) (hX : Below V.heap.size V X) => someO_any P.B P.c P.x P.k P.t P.n X ((hvp.below hbV).below hX))
      rw [← hxl] at HSo HSo2
      obtain ⟨v, hv⟩ : ∃ v, v = P.x.take 5 := ⟨_, rfl⟩
      rw [← hv] at HSo HSo2
      obtain ⟨nv, hnv⟩ : ∃ n, n = v.length := ⟨_, rfl⟩
      rw [← hnv] at HSo HSo2
      have HNv := Lib.hid hnv
      have HVV := Lib.hid hV
      have HGq := Lib.hid hgq
      obtain ⟨E, hE⟩ : ∃ E, E = prE P.k P.n R C v := ⟨_, rfl⟩
      obtain ⟨L, hL⟩ : ∃ L, L = prL P.k P.n R C v := ⟨_, rfl⟩
      obtain ⟨m, hm⟩ : ∃ m, m = L.length := ⟨_, rfl⟩
      have HEL := Lib.hid (And.intro hE (And.intro hL hm))
      by_cases h8 : k = 8
      · have t1 : ((k : Int) == 8) = true := by simp [h8]
        have t2 : (k == 8) = true := by simp [h8]
        have HBF := Lib.hid (HB3.out.trans (HBV.out.mono HB3.out.size))
        clear h8 hP hb hvp hxl hV hgq hbx hbV hv hnv hE hL hm
        go_wp2_with (rw [← HVV.out])
        go_ret
        exact ⟨rfl, HBF.out⟩
      · have t1 : ((k : Int) == 8) = false := by simp; omega
        have t2 : (k == 8) = false := by simpa using h8
        obtain ⟨x0, x1, x2, x3⟩ := hbx
        have x0' := x0
        clear h8 hP hb hvp hxl hV hgq hbV hv hnv hE hL hm
        unfold pv at *
        go_wp2_with (rw [← HVV.out, ← HGq.out])
        refine (HSo.out V (Below.refl _ _)).mono ?_
        rintro e w5 ⟨A3, c3, rfl, hv3, hb5⟩
        have HB5 := Lib.hid (HBV.out.trans (hb5.mono HBV.out.size))
        have HV5 := Lib.hid hb5
        have hro := HRo.out w5 HB5.out A3 c3 v P.k P.t P.n hv3
        rw [← HNv.out, ← HEL.out.1, ← HEL.out.2.1] at hro
        have HRO := Lib.hid hro
        clear hv3 hb5 hro x0 x1 x2 x3 x0'
        go_wp2_with fail
        refine HRO.out.mono ?_
        rintro e w6 ⟨A6, c6, he, ho6, hb6⟩
        rw [← HEL.out.2.2] at he
        subst he
        have HO6 := Lib.hid ho6
        have HV6 := Lib.hid (HV5.out.trans (hb6.mono HV5.out.size))
        have HB6 := Lib.hid (HB5.out.trans (hb6.mono HB5.out.size))
        obtain ⟨x0, x1, x2, x3⟩ := HPB.out w6 HV6.out
        clear ho6 hb6
        have HRO2 := Lib.hid (fun (X : World) (hX : Below w6.heap.size w6 X) => HRsO.out X (HB3.out.trans ((HB6.out.trans (hX.mono HB6.out.size)).mono HB3.out.size)))
        have HVO2 := Lib.hid (fun (X : World) (hX : Below w6.heap.size w6 X) => HVsO.out X (HB3.out.trans ((HB6.out.trans (hX.mono HB6.out.size)).mono HB3.out.size)))
        have HBw6 := Lib.hid (Below.refl w6.heap.size w6)
        go_upto_region 9 with fail
        refine MskL.region_relH (fun X => Below w6.heap.size w6 X) [fun v _ => v = .slice Ax nx cx, r3rows w6.heap.size R, fun v _ => v = .slice Ay ny cy, r3vecs w6.heap.size C, fun v _ => v = .agg #[.slice P.B xl P.c, .int .i64 P.k, .int .u64 P.t, .int .i64 P.n], r3some w6.heap.size v P.k P.t P.n, r3pair w6.heap.size m L E, r3pair w6.heap.size m L E, r3hits w6.heap.size m L, fun v _ => v = .int .i64 E, r3hits w6.heap.size m L, fun v _ => v = .int .i64 E]
          (fun r hr v2 w7 w8 h hb => by
            simp only [List.mem_cons, List.mem_nil_iff, or_false] at hr
            rcases hr with rfl | rfl | rfl | rfl | rfl | rfl | rfl | rfl | rfl | rfl | rfl | rfl
            · exact h
            · obtain ⟨A, c, q, h1, h2, h3⟩ := h; exact ⟨A, c, q, h1, h2, h3.below hb⟩
            · exact h
            · obtain ⟨A, c, q, h1, h2, h3⟩ := h; exact ⟨A, c, q, h1, h2, h3.below hb⟩
            · exact h
            · obtain ⟨A, c, h1, h2⟩ := h; exact ⟨A, c, h1, h2.below hb⟩
            · obtain ⟨A, c, h1, h2⟩ := h; exact ⟨A, c, h1, h2.below hb⟩
            · obtain ⟨A, c, h1, h2⟩ := h; exact ⟨A, c, h1, h2.below hb⟩
            · obtain ⟨A, c, h1, h2⟩ := h; exact ⟨A, c, h1, h2.below hb⟩
            · exact h
            · obtain ⟨A, c, h1, h2⟩ := h; exact ⟨A, c, h1, h2.below hb⟩
            · exact h)
          (by kernel_rfl) (below_drew (Below.refl _ _)) (by kernel_rfl) (by kernel_rfl) (by kernel_rfl) ?_ ?_
        · refine ⟨?_, ?_, ?_, ?_, ?_, ?_, ?_, ?_, ?_, ?_, ?_, ?_, trivial⟩
          · intro f w hw hd
            simp [MskL.fillR, Act.put, go_sem, MskL.relG, hw, Below.refl]
          · intro f w hw hd
            have e0 : f 0 = .slice Ax nx cx := MskL.depG_of hd 0 (by kernel_rfl)
            simp [MskL.fillR, Act.put, go_sem, MskL.relG, hw, Below.refl, e0]
            refine (HRO2.out w (below_tr HBw6.out hw)).mono ?_
            rintro e w2 ⟨A, c, q, rfl, hq, hr, hb⟩
            exact ⟨⟨A, c, q, rfl, hq, hr.mono hw.size⟩, hw.trans (hb.mono hw.size), hb⟩
          · intro f w hw hd
            simp [MskL.fillR, Act.put, go_sem, MskL.relG, hw, Below.refl]
          · intro f w hw hd
            have e2 : f 2 = .slice Ay ny cy := MskL.depG_of hd 2 (by kernel_rfl)
            simp [MskL.fillR, Act.put, go_sem, MskL.relG, hw, Below.refl, e2]
            refine (HVO2.out w (below_tr HBw6.out hw)).mono ?_
            rintro e w2 ⟨A, c, q, rfl, hq, hr, hb⟩
            exact ⟨⟨A, c, q, by rw [HN.out], hq, hr.mono hw.size⟩, hw.trans (hb.mono hw.size), hb⟩
          · intro f w hw hd
            obtain ⟨z0, z1, z2, z3⟩ := HPB.out w (HV6.out.trans (hw.mono HV6.out.size))
            simp [MskL.fillR, Act.put, go_sem, MskL.relG, hw, Below.refl, z0, z1, z2, z3]
          · intro f w hw hd
            have e4 : f 4 = .agg #[.slice P.B xl P.c, .int .i64 P.k, .int .u64 P.t, .int .i64 P.n] := MskL.depG_of hd 4 (by kernel_rfl)
            simp [MskL.fillR, Act.put, go_sem, MskL.relG, hw, Below.refl, e4]
            refine (HSo2.out w (HV6.out.trans (hw.mono HV6.out.size))).mono ?_
            rintro e w2 ⟨A, c, rfl, hr, hb⟩
            exact ⟨⟨A, c, by rw [HNv.out]; rfl, World.ownsRow.mono hr.1 hw.size, hr.2⟩, hw.trans (hb.mono hw.size), hb⟩
          · intro f w hw hd
            obtain ⟨A1, c1, q1, e1, hq1, hr1⟩ : r3rows w6.heap.size R (f 1) w := MskL.depG_of hd 1 (by kernel_rfl)
            obtain ⟨A2, c2, q2, e3, hq2, hr2⟩ : r3vecs w6.heap.size C (f 3) w := MskL.depG_of hd 3 (by kernel_rfl)
            obtain ⟨A3, c3, e5, hr3⟩ : r3some w6.heap.size v P.k P.t P.n (f 5) w := MskL.depG_of hd 5 (by kernel_rfl)
            unfold pv at e5
            have hvs := hr2.vecs
            rw [hq2] at hvs
            have hrq := HRq.out w A1 c1 q1 hq1 hr1.rws A2 c2 hvs A3 c3 v P.k P.t P.n hr3.vec
            rw [HN.out] at hrq
            rw [← HEL.out.1, ← HEL.out.2.1] at hrq
            simp [MskL.fillR, Act.put, go_sem, MskL.relG, hw, Below.refl, e1, e3, e5]
            refine hrq.mono ?_
            rintro e w2 ⟨A, c, rfl, ho, hb⟩
            exact ⟨⟨A, c, by rw [HEL.out.2.2], OwnH.mono ho hw.size⟩, hw.trans (hb.mono hw.size), hb⟩
          · intro f w hw hd
            obtain ⟨A, c, e6, ho⟩ : r3pair w6.heap.size m L E (f 6) w := MskL.depG_of hd 6 (by kernel_rfl)
            simp [MskL.fillR, Act.put, go_sem, MskL.relG, hw, Below.refl, e6]
            exact ⟨A, c, rfl, ho⟩
          · intro f w hw hd
            obtain ⟨A, c, e6, ho⟩ : r3pair w6.heap.size m L E (f 7) w := MskL.depG_of hd 7 (by kernel_rfl)
            simp [MskL.fillR, Act.put, go_sem, MskL.relG, hw, Below.refl, e6]
            exact ⟨A, c, rfl, ho⟩
          · intro f w hw hd
            obtain ⟨A, c, e6, ho⟩ : r3pair w6.heap.size m L E (f 7) w := MskL.depG_of hd 7 (by kernel_rfl)
            simp [MskL.fillR, Act.put, go_sem, MskL.relG, hw, Below.refl, e6]
          · intro f w hw hd
            obtain ⟨A, c, e6, ho⟩ : r3hits w6.heap.size m L (f 8) w := MskL.depG_of hd 8 (by kernel_rfl)
            simp [MskL.fillR, Act.put, go_sem, MskL.relG, hw, Below.refl, e6]
            exact ⟨A, c, rfl, ho⟩
          · intro f w hw hd
            have e6 : f 9 = .int .i64 E := MskL.depG_of hd 9 (by kernel_rfl)
            simp [MskL.fillR, Act.put, go_sem, MskL.relG, hw, Below.refl, e6]
        intro f w7 hw hr
        obtain ⟨A7, c7, e10, ho7⟩ : r3hits w6.heap.size m L (f 10) w7 := hr 10 (by decide)
        have e11 : f 11 = .int .i64 E := hr 11 (by decide)
        have hh6 := (HO6.out.below hw).hits
        have hh7 := ho7.hits
        have hsm := TopL.rSame_any A6 A7 c6 c7 L L w7 hh6 hh7
        rw [← HEL.out.2.2, decide_eq_true rfl] at hsm
        have HSM := Lib.hid hsm
        have HB7 := Lib.hid (HB6.out.trans (hw.mono HB6.out.size))
        have t3 : (E != E) = false := by simp
        clear hr ho7 hh6 hh7 hsm hw x0 x1 x2 x3
        simp only [MskL.fillR, Act.put, List.size_toArray, List.length_cons, List.length_nil, List.setIfInBounds_toArray, List.set_cons_succ, List.set_cons_zero, e10, e11]
        go_wp2_with fail
        refine HSM.out.mono ?_
        rintro e w8 ⟨rfl, hb8⟩
        have HB8 := Lib.hid (HB7.out.trans (hb8.mono HB7.out.size))
        clear hb8
        go_wp2
        go_roundw
        case rel => exact ⟨k + 1, by omega, by go_num, HB8⟩
        case measure => simp [intOf]; omega
    · obtain rfl : k = np := by omega
      have HBF := Lib.hid (HB3.out.trans (HB.out.mono HB3.out.size))
      go_wp2
      go_ret
      exact ⟨rfl, HBF.out⟩

set_option maxRecDepth 100000 in
theorem lifted (os : Os) (started : os.Started) (H : Type) (enc : TypeId × Value → H) :
    ReturnsInHanded {} Tryz.checked os 5 .any (Rows.probeRowsSpec.pre6 enc Tryz.prog Tryz.f5 Rows.probeRowsRow.domain false) (Rows.probeRowsSpec.post enc Tryz.prog Tryz.f5 false true false false) := by
  refine returnsInHanded_of_change (C := Tryz.checked) Tryz.own started (by kernel_rfl) Tryz.func5
    (ChangeSpec.witness6 (enc := enc) (C := Tryz.checked) false ⟨#[], #[.slice none 0 0, .slice none 0 0, .slice none 0 0], []⟩ 8 (by kernel_rfl) (by kernel_rfl) (by kernel_rfl) (by kernel_rfl)) ?_
  intro W base args ds gs before hval0 hW hcnd _
  have hval : ∀ (j : Nat) t v, Tryz.f5.params[j]? = some t → args[j]? = some v → Value.okWide Tryz.prog W .any base t v := hval0
  have hW' := hW
  obtain ⟨p, q, hA0, hV, rfl, hfz, hnd⟩ := hW
  have hA : DataW.TrodAll enc Tryz.prog W 0 (fun _ => true) true Tryz.f5.params.toList args.toList ds p := hA0
  rw [Tryz.params5] at hA hval
  have hA' := hA
  obtain ⟨v0, vs0, d0, ds0, p0, q0, hargs, rfl, rfl, h0, r0⟩ := trodAll_cons hA
  obtain ⟨v1, vs1, d1, ds1, p1, q1, rfl, rfl, rfl, h1, r1⟩ := trodAll_cons r0
  obtain ⟨v2, vs2, d2, ds2, p2, q2, rfl, rfl, rfl, h2, r2⟩ := trodAll_cons r1
  obtain ⟨rfl, rfl, rfl⟩ := trodAll_nil r2
  obtain rfl : args = #[v0, v1, v2] := by cases args; simp_all
  obtain ⟨rfl, rfl⟩ := trodVars_none hV
  obtain ⟨A0, len0, c0, rfl⟩ := okWide_slice Tryz.underlying55 (hval 0 55 v0 rfl rfl)
  obtain ⟨z0, rfl, sl0⟩ := open_rows h0
  obtain ⟨A1, len1, c1, rfl⟩ := okWide_slice Tryz.underlying22 (hval 1 22 v1 rfl rfl)
  obtain ⟨z1, rfl, sl1⟩ := open_vecs h1
  obtain ⟨A2, len2, c2, rfl⟩ := okWide_slice Tryz.underlying40 (hval 2 40 v2 rfl rfl)
  obtain ⟨z2, rfl, sl2⟩ := open_probes h2
  clear hA0 hval0
  refine (walk A0 c0 z0 sl0 A1 c1 z1 sl1 A2 c2 z2 sl2).mono fun e W' ⟨he, bel⟩ => ?_
  subst he
  exact ⟨_, rfl, _, _, _, [], _, [], hW', trodAll_mk1 (shut_bool Tryz.underlying4 _), trodAll_below bel _ _ _ _ (by kernel_rfl) hA', rfl, bel.frame _, fun h => by cases h⟩

theorem proved : Rows.ProbeRowsSaid :=
  OpenClaim.holds_of_wide 5 Tryz.f5 rfl rfl rfl rfl rfl rfl rfl ⟨rfl, rfl, rfl, rfl, rfl⟩ rfl rfl rfl rfl rfl (by kernel_rfl) Tryz.func5 (by kernel_rfl)
    (of_decide_eq_true (by kernel_rfl)) (by unfold Func.isWrapper; first | (rw [if_pos (by decide +kernel)]; kernel_rfl) | (rw [if_neg (by decide +kernel)]; exact ⟨rfl, rfl⟩))
    (fun os started H enc _ => lifted os started H enc)
#print axioms proved
end Go.Proofs.YtcekgllahlhaaaaGreat.probeRows
