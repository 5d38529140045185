/-
  Proved: the law MeansMoved, moved vectors have their centroids moved, returns true for every rows of vectors, draws and vector, and leaves all memory as it was. No condition.
-/
import Derived.Test.YtgakfffkadaeeaaMnsMoved
namespace Go.Proofs.Ytgakfffkadaeeaa.meansMoved
open Go.ChangeShapes Go.WideShapes Go.ChangeAt Go.RowKit
set_option linter.unusedVariables false
set_option linter.unusedSimpArgs false
set_option maxRecDepth 100000

theorem mv_alike {n : Nat} {b : List Int} {L : List (List Int)} (h : mvB b L = true) (ha : Alike n L) : Alike n (addL b L) := by
  intro x hx
  have h1 := List.all_eq_true.1 h x hx
  unfold addL at hx
  obtain ⟨y, hy, rfl⟩ := List.mem_map.1 hx
  obtain ⟨r, e⟩ := ha y hy
  have := right_len r
  refine ⟨?_, by rw [addV_length, e]⟩
  unfold right
  rw [addV_length, h1]
  simp
  omega
theorem mv_of {n : Nat} {b : List Int} {L : List (List Int)} (ha : Alike n (addL b L)) : mvB b L = true := by
  unfold mvB
  rw [List.all_eq_true]
  intro x hx
  have := (ha x hx).1
  unfold right at this
  simp only [Bool.and_eq_true] at this
  exact this.2
theorem facts {b : List Int} {L : List (List Int)} {D : List Int} (h0 : startE L D = 0) (h : mvB b L = true) : startE (addL b L) D = 0 ∧ trainV (addL b L) D = addL b (trainM L D) ∧ mvB b (trainM L D) = true := by
  obtain ⟨dim, a2, a1, ⟨l0, l96⟩, hdr⟩ := start_facts h0
  have ha := mv_alike h a2
  have e0 : startE (addL b L) D = 0 := by
    unfold startE
    rw [if_pos (start_ok h0).1]
    unfold vectE
    rw [train_of (by rw [addL_length]; omega) (by rw [addL_length]; omega)]
    simp only [ne_eq, not_true_eq_false, if_false]
    exact alike_all ha
  have e1 : trainM (addL b L) D = addL b (trainM L D) := train_moved b a2 l0 D
  refine ⟨e0, by unfold trainV; rw [if_pos e0, e1], mv_of (n := dim) ?_⟩
  rw [← e1]
  unfold trainM
  exact rounds_alike (ha.sub (start_mem (by rw [addL_length]; exact l0) D)) ha 4

set_option maxHeartbeats 4000000 in
theorem walk {w : World} (A : Option Addr) (c : Nat) (l : List (List Int)) (H : Vecs .i32 w A c l) (A' : Option Addr) (c' : Nat) (d : List Int) (H' : Vec .i64 w A' c' d) (Ab : Option Addr) (cb : Nat) (b : List Int) (Hb : Vec .i32 w Ab cb b) :
    Calls Try.prog 10 #[.slice A l.length c, .slice A' d.length c', .slice Ab b.length cb] w fun e w' => e = .returned (.bool true) ∧ Below w.heap.size w w' := by
  have HWk := Lib.hid (wakes_any w)
  have HFw := Lib.hid (fun (V : World) (hV : Below w.heap.size w V) => few_v A c l 96 V (H.below hV) (by omega))
  have HSm := Lib.hid (fun (V : World) (hV : Below w.heap.size w V) => some_any A' c' d V (H'.below hV))
  have HBv := Lib.hid (fun (V : World) (hV : Below w.heap.size w V) => Hb.below hV)
  have hbm : b.length ≤ 9223372036854775807 := Nat.le_trans Hb.room Hb.most
  obtain ⟨L, hL⟩ : ∃ L, L = fewM l 96 := ⟨_, rfl⟩
  obtain ⟨D, hD⟩ : ∃ D, D = d.take 7 := ⟨_, rfl⟩
  rw [← hL] at HFw
  rw [← hD] at HSm
  generalize l.length = n0 at *
  generalize d.length = m0 at *
  obtain ⟨n, hn⟩ : ∃ n, n = L.length := ⟨_, rfl⟩
  obtain ⟨m, hm⟩ : ∃ m, m = D.length := ⟨_, rfl⟩
  obtain ⟨z, hz⟩ : ∃ z, z = b.length := ⟨_, rfl⟩
  have HTr := Lib.hid (fun (A1 A2 : Option Addr) (c1 c2 : Nat) (V : World) (h1 : Vecs .i32 V A1 c1 L) (h2 : Vec .i64 V A2 c2 D) => show Calls Try.prog 16 #[.slice A1 n c1, .slice A2 m c2] V (GVE V (trainV L D) (startE L D)) from by rw [hn, hm]; exact train_v A1 A2 c1 c2 L D V h1 h2)
  have HN := Lib.hid hn
  unfold GV at HFw
  unfold GVE at HTr
  rw [← hn] at HFw
  rw [← hm] at HSm
  rw [← hz] at hbm ⊢
  by_cases h0 : startE L D = 0
  · obtain ⟨dim, a2, a1, ⟨l0, l96⟩, hdr⟩ := start_facts h0
    have hT : trainV L D = trainM L D := by unfold trainV; rw [if_pos h0]
    have hTl : (trainV L D).length = m := by rw [hT, hm]; unfold trainM; rw [rounds_length, start_length]
    have HLA := Lib.hid a2
    have hTA : Alike dim (trainV L D) := by rw [hT]; exact rounds_alike a1 a2 4
    have hdim := right_len (a2 _ (getD_mem l0)).1
    rw [(a2 _ (getD_mem l0)).2] at hdim
    obtain ⟨d1, d4⟩ := hdim
    have HMv := Lib.hid (fun (hzd : dim ≤ z) (A1 : Option Addr) (c1 : Nat) (V : World) (hV : Below w.heap.size w V) (h1 : Vecs .i32 V A1 c1 L) => show Calls Try.prog 31 #[.slice A1 n c1, .slice Ab z cb] V (GMv V b L) from by
      rw [hn, hz]
      exact movedL_any A1 Ab c1 cb L b V h1 (Hb.below hV) (by omega) (fun x hx => by have := (a2 x hx).2; omega))
    have HMt := Lib.hid (fun (hzd : dim ≤ z) (A1 : Option Addr) (c1 : Nat) (V : World) (hV : Below w.heap.size w V) (h1 : Vecs .i32 V A1 c1 (trainV L D)) => show Calls Try.prog 31 #[.slice A1 m c1, .slice Ab z cb] V (GMv V b (trainV L D)) from by
      rw [← hTl, hz]
      exact movedL_any A1 Ab c1 cb (trainV L D) b V h1 (Hb.below hV) (by omega) (fun x hx => by have := (hTA x hx).2; omega))
    have HFc := Lib.hid (fun (hmv : mvB b L = true) => facts h0 hmv)
    have HTf := Lib.hid (fun (A1 A2 : Option Addr) (c1 c2 : Nat) (V : World) (h1 : Vecs .i32 V A1 c1 (addL b L)) (h2 : Vec .i64 V A2 c2 D) => show Calls Try.prog 16 #[.slice A1 n c1, .slice A2 m c2] V (GVE V (trainV (addL b L) D) (startE (addL b L) D)) from by
      have := train_v A1 A2 c1 c2 (addL b L) D V h1 h2
      rw [addL_length] at this
      rw [hn, hm]; exact this)
    have HSa := Lib.hid (fun (X : List (List Int)) (hX : X.length = m) (A1 A2 : Option Addr) (c1 c2 : Nat) (V : World) (h1 : Vecs .i32 V A1 c1 X) (h2 : Vecs .i32 V A2 c2 X) => show Calls Try.prog 29 #[.slice A1 m c1, .slice A2 m c2] V (fun e w' => e = .returned (.bool true) ∧ Below V.heap.size V w') from by
      have := sameV_any A1 A2 c1 c2 X X V h1 h2
      rw [hX, decide_eq_true rfl] at this
      exact this)
    unfold GVE at HTf
    rw [h0, hTl] at HTr
    rw [← hT] at HFc
    generalize trainV L D = T at *
    have HTL := Lib.hid hTl
    have HAl := Lib.hid (show (addL b T).length = m from by rw [addL_length]; exact hTl)
    rw [← hn] at l0
    clear H H' Hb hL hD hn hm hz h0 hT hTl a1 a2 hTA l96 hdr
    go_enter Try.func10, Try.ntmps10
    go_wp2_with fail
    refine HWk.out.mono ?_
    rintro e w1 ⟨rfl, hb1⟩
    have HB1 := Lib.hid hb1
    clear hb1
    go_wp2_with fail
    refine (HFw.out w1 HB1.out).mono ?_
    rintro e w2 ⟨A1, c1, rfl, hv, hb2⟩
    have HV := Lib.hid hv
    have HB2 := Lib.hid (below_tr HB1.out hb2)
    clear hv hb2
    go_wp2_with fail
    refine (HSm.out w2 HB2.out).mono ?_
    rintro e w3 ⟨A2, c2, rfl, hd, hb3⟩
    have HD := Lib.hid hd
    have HV3 := Lib.hid (HV.out.below hb3)
    have HB3 := Lib.hid (below_tr HB2.out hb3)
    clear hd hb3
    go_wp2_with fail
    refine (HTr.out A1 A2 c1 c2 w3 HV3.out HD.out).mono ?_
    rintro e w4 ⟨A3, c3, rfl, hc, hb4⟩
    have HC := Lib.hid hc
    have HV4 := Lib.hid (HV3.out.below hb4)
    have HD4 := Lib.hid (HD.out.below hb4)
    have HB4 := Lib.hid (below_tr HB3.out hb4)
    clear hc hb4
    obtain ⟨b0, o0, x0, B0, cb0, rfl, hx0, _, q0, _⟩ := HV4.out.at_ (i := 0) (by rw [← HN.out]; exact l0)
    have hxd : x0.length = dim := (HLA.out x0 (List.mem_of_getElem? hx0)).2
    rw [hxd, Nat.add_zero] at q0
    have n0' : (0 : Int) < n := by omega
    clear hx0 hxd
    by_cases hzd : z < dim
    · have t1 : decide ((z : Int) < (dim : Int)) = true := by simp; omega
      go_wp2
      go_ret
      exact ⟨rfl, HB4.out⟩
    · have t1 : decide ((z : Int) < (dim : Int)) = false := by simp; omega
      have HM1 := Lib.hid (HMv.out (by omega) _ c1 w4 HB4.out HV4.out)
      go_wp2_with fail
      refine HM1.out.mono ?_
      rintro e w5 ⟨hy, hno⟩
      cases hmv : mvB b L with
      | false =>
        obtain ⟨rfl, hb5⟩ := hno hmv
        have HB5 := Lib.hid (below_tr HB4.out hb5)
        clear hy hno hb5 hmv
        go_wp2
        go_ret
        exact ⟨rfl, HB5.out⟩
      | true =>
        obtain ⟨A5, c5, rfl, hf5, hb5⟩ := hy hmv
        obtain ⟨f1, f2, f3⟩ := HFc.out hmv
        have HB5 := Lib.hid (below_tr HB4.out hb5)
        have HF5 := Lib.hid hf5
        have HD5 := Lib.hid (HD4.out.below hb5)
        have HM2 := Lib.hid (HMt.out (by omega) A3 c3 w5 HB5.out (HC.out.below hb5))
        have HF3 := Lib.hid f3
        rw [f1, f2, HAl.out] at HTf
        have hLn : L.length = n := HN.out.symm
        rw [hLn]
        clear hy hno hb5 hmv hf5 f1 f2 f3 hLn
        go_wp2_with fail
        refine HM2.out.mono ?_
        rintro e w6 ⟨hy, _⟩
        obtain ⟨A6, c6, rfl, hf6, hb6⟩ := hy HF3.out
        have HB6 := Lib.hid (below_tr HB5.out hb6)
        have HF6 := Lib.hid hf6
        have HF56 := Lib.hid (HF5.out.below hb6)
        have HD6 := Lib.hid (HD5.out.below hb6)
        rw [HTL.out]
        clear hy hf6 hb6
        go_wp2_with fail
        refine (HTf.out A5 A2 c5 c2 w6 HF56.out HD6.out).mono ?_
        rintro e w7 ⟨A7, c7, rfl, hf7, hb7⟩
        have HB7 := Lib.hid (below_tr HB6.out hb7)
        have HS := Lib.hid (HSa.out (addL b T) HAl.out A7 A6 c7 c6 w7 hf7 (HF6.out.below hb7))
        clear hf7 hb7
        go_wp2_with fail
        refine HS.out.mono ?_
        rintro e w8 ⟨rfl, hb8⟩
        have HB8 := Lib.hid (below_tr HB7.out hb8)
        clear hb8
        go_wp2
        go_ret
        exact ⟨by simp, HB8.out⟩
  · have t1 : (startE L D == 0) = false := by simpa using h0
    have t2 : (startE L D != 0) = true := by simpa using h0
    generalize trainV L D = T at *
    generalize startE L D = E at *
    generalize T.length = tl at *
    clear H H' Hb hL hD hn hm hz h0
    go_enter Try.func10, Try.ntmps10
    go_wp2_with fail
    refine HWk.out.mono ?_
    rintro e w1 ⟨rfl, hb1⟩
    have HB1 := Lib.hid hb1
    clear hb1
    go_wp2_with fail
    refine (HFw.out w1 HB1.out).mono ?_
    rintro e w2 ⟨A1, c1, rfl, hv, hb2⟩
    have HV := Lib.hid hv
    have HB2 := Lib.hid (below_tr HB1.out hb2)
    clear hv hb2
    go_wp2_with fail
    refine (HSm.out w2 HB2.out).mono ?_
    rintro e w3 ⟨A2, c2, rfl, hd, hb3⟩
    have HD := Lib.hid hd
    have HV3 := Lib.hid (HV.out.below hb3)
    have HB3 := Lib.hid (below_tr HB2.out hb3)
    clear hd hb3
    go_wp2_with fail
    refine (HTr.out A1 A2 c1 c2 w3 HV3.out HD.out).mono ?_
    rintro e w4 ⟨A3, c3, rfl, hc, hb4⟩
    have HB4 := Lib.hid (below_tr HB3.out hb4)
    clear hc hb4
    go_wp2
    go_ret
    exact ⟨by simp, HB4.out⟩

set_option maxRecDepth 100000 in
theorem lifted (os : Os) (started : os.Started) (H : Type) (enc : TypeId × Value → H) :
    ReturnsInHanded {} Try.checked os 10 .any (Rows.meansMovedSpec.pre6 enc Try.prog Try.f10 Rows.meansMovedRow.domain false) (Rows.meansMovedSpec.post enc Try.prog Try.f10 false true false false) := by
  refine returnsInHanded_of_change (C := Try.checked) Try.own started (by kernel_rfl) Try.func10
    (ChangeSpec.witness6 (enc := enc) (C := Try.checked) false ⟨#[], #[.slice none 0 0, .slice none 0 0, .slice none 0 0], []⟩ 8 (by kernel_rfl) (by kernel_rfl) (by kernel_rfl) (by kernel_rfl)) ?_
  intro W base args ds gs before hval0 hW hcnd _
  have hval : ∀ (j : Nat) t v, Try.f10.params[j]? = some t → args[j]? = some v → Value.okWide Try.prog W .any base t v := hval0
  have hW' := hW
  obtain ⟨p, q, hA0, hV, rfl, hfz, hnd⟩ := hW
  have hA : DataW.TrodAll enc Try.prog W 0 (fun _ => true) true Try.f10.params.toList args.toList ds p := hA0
  rw [Try.params10] at hA hval
  have hA' := hA
  obtain ⟨v0, vs0, d0, ds0, p0, q0, hargs, rfl, rfl, h0, r0⟩ := trodAll_cons hA
  obtain ⟨v1, vs1, d1, ds1, p1, q1, rfl, rfl, rfl, h1, r1⟩ := trodAll_cons r0
  obtain ⟨v2, vs2, d2, ds2, p2, q2, rfl, rfl, rfl, h2, r2⟩ := trodAll_cons r1
  obtain ⟨rfl, rfl, rfl⟩ := trodAll_nil r2
  obtain rfl : args = #[v0, v1, v2] := by cases args; simp_all
  obtain ⟨rfl, rfl⟩ := trodVars_none hV
  obtain ⟨A0, len0, c0, rfl⟩ := okWide_slice Try.underlying22 (hval 0 22 v0 rfl rfl)
  obtain ⟨z0, rfl, sl0⟩ := open_vecs h0
  obtain ⟨A1, len1, c1, rfl⟩ := okWide_slice Try.underlying23 (hval 1 23 v1 rfl rfl)
  obtain ⟨z1, rfl, sl1⟩ := open_nums h1
  obtain ⟨A2, len2, c2, rfl⟩ := okWide_slice Try.underlying35 (hval 2 35 v2 rfl rfl)
  obtain ⟨z2, rfl, sl2⟩ := open_vec h2
  clear hA0 hval0
  refine (walk A0 c0 z0 sl0 A1 c1 z1 sl1 A2 c2 z2 sl2).mono fun e W' ⟨he, bel⟩ => ?_
  subst he
  exact ⟨_, rfl, _, _, _, [], _, [], hW', trodAll_mk1 (shut_bool Try.underlying4 _), trodAll_below bel _ _ _ _ (by kernel_rfl) hA', rfl, bel.frame _, fun h => by cases h⟩

theorem proved : Rows.MeansMovedSaid :=
  OpenClaim.holds_of_wide 10 Try.f10 rfl rfl rfl rfl rfl rfl rfl ⟨rfl, rfl, rfl, rfl, rfl⟩ rfl rfl rfl rfl rfl (by kernel_rfl) Try.func10 (by kernel_rfl)
    (of_decide_eq_true (by kernel_rfl)) (by unfold Func.isWrapper; first | (rw [if_pos (by decide +kernel)]; kernel_rfl) | (rw [if_neg (by decide +kernel)]; exact ⟨rfl, rfl⟩))
    (fun os started H enc _ => lifted os started H enc)
#print axioms proved
end Go.Proofs.Ytgakfffkadaeeaa.meansMoved
