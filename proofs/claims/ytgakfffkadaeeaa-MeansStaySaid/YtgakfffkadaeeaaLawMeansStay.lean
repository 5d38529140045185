/-
  Proved: the law MeansStay, round by round it comes to what is trained, and what a round leaves as it is stays so, returns true for every rows of vectors and draws, and leaves all memory as it was. No condition.
-/
import Derived.Test.YtgakfffkadaeeaaMnsV
namespace Go.Proofs.Ytgakfffkadaeeaa.meansStay
open Go.ChangeShapes Go.WideShapes Go.ChangeAt Go.RowKit
set_option linter.unusedVariables false
set_option linter.unusedSimpArgs false
set_option maxRecDepth 100000

set_option maxHeartbeats 4000000 in
theorem walk {w : World} (A : Option Addr) (c : Nat) (l : List (List Int)) (H : Vecs .i32 w A c l) (A' : Option Addr) (c' : Nat) (d : List Int) (H' : Vec .i64 w A' c' d) :
    Calls Try.prog 9 #[.slice A l.length c, .slice A' d.length c'] w fun e w' => e = .returned (.bool true) ∧ Below w.heap.size w w' := by
  have HWk := Lib.hid (wakes_any w)
  have HFw := Lib.hid (fun (V : World) (hV : Below w.heap.size w V) => few_v A c l 96 V (H.below hV) (by omega))
  have HSm := Lib.hid (fun (V : World) (hV : Below w.heap.size w V) => some_any A' c' d V (H'.below hV))
  obtain ⟨L, hL⟩ : ∃ L, L = fewM l 96 := ⟨_, rfl⟩
  obtain ⟨D, hD⟩ : ∃ D, D = d.take 7 := ⟨_, rfl⟩
  rw [← hL] at HFw
  rw [← hD] at HSm
  generalize l.length = n0 at *
  generalize d.length = m0 at *
  obtain ⟨n, hn⟩ : ∃ n, n = L.length := ⟨_, rfl⟩
  obtain ⟨m, hm⟩ : ∃ m, m = D.length := ⟨_, rfl⟩
  have HSt := Lib.hid (fun (A1 A2 : Option Addr) (c1 c2 : Nat) (V : World) (h1 : Vecs .i32 V A1 c1 L) (h2 : Vec .i64 V A2 c2 D) => show Calls Try.prog 15 #[.slice A1 n c1, .slice A2 m c2] V (GVE V (startV L D) (startE L D)) from by rw [hn, hm]; exact start_v A1 A2 c1 c2 L D V h1 h2)
  have HTr := Lib.hid (fun (A1 A2 : Option Addr) (c1 c2 : Nat) (V : World) (h1 : Vecs .i32 V A1 c1 L) (h2 : Vec .i64 V A2 c2 D) => show Calls Try.prog 16 #[.slice A1 n c1, .slice A2 m c2] V (GVE V (trainV L D) (startE L D)) from by rw [hn, hm]; exact train_v A1 A2 c1 c2 L D V h1 h2)
  have HN := Lib.hid hn
  have HM := Lib.hid hm
  unfold GV at HFw
  unfold GVE at HSt HTr
  rw [← hn] at HFw
  rw [← hm] at HSm
  by_cases h0 : startE L D = 0
  · obtain ⟨C, hC⟩ : ∃ C : Nat → List (List Int), C = fun k => roundsM L k (startM L D) := ⟨_, rfl⟩
    have hCk : ∀ k, roundsM L k (startM L D) = C k := fun k => by rw [hC]
    have hC0 : startV L D = C 0 := by unfold startV; rw [if_pos h0, hC]; rfl
    have hC4 : trainV L D = C 4 := by unfold trainV; rw [if_pos h0, hC]; rfl
    have hCl : ∀ k, (C k).length = m := fun k => by rw [hC, hm]; show (roundsM L k (startM L D)).length = _; rw [rounds_length, start_length]
    have HRd := Lib.hid (fun (k : Nat) (A1 A2 : Option Addr) (c1 c2 : Nat) (V : World) (h1 : Vecs .i32 V A1 c1 (C k)) (h2 : Vecs .i32 V A2 c2 L) => show Calls Try.prog 23 #[.slice A1 m c1, .slice A2 n c2] V (GVE V (C (k + 1)) 0) from by
      have := round_v A1 A2 c1 c2 (C k) L V h1 h2
      obtain ⟨e1, e2⟩ := rounds_parts h0 k
      rw [hCk] at e1 e2
      rw [hCk] at e2
      rw [e1, e2, hCl, ← hn] at this
      exact this)
    have HSa := Lib.hid (fun (i j : Nat) (A1 A2 : Option Addr) (c1 c2 : Nat) (V : World) (h1 : Vecs .i32 V A1 c1 (C i)) (h2 : Vecs .i32 V A2 c2 (C j)) => show Calls Try.prog 29 #[.slice A1 m c1, .slice A2 m c2] V (fun e w' => e = .returned (.bool (decide (C i = C j))) ∧ Below V.heap.size V w') from by
      have := sameV_any A1 A2 c1 c2 (C i) (C j) V h1 h2
      rw [hCl, hCl] at this
      exact this)
    have HRs := Lib.hid (fun (k : Nat) (hk : k ≤ 4) (he : C (k + 1) = C k) => show C k = C 4 from by
      have := rounds_rest (l := L) (c := startM L D) (i := k) (k := 4) (by
        show roundsM L (k + 1) (startM L D) = _
        rw [hCk, hCk, he]) hk
      rw [hCk, hCk] at this
      exact this.symm)
    unfold GVE at HRd
    have hl0 : (startV L D).length = m := by rw [hC0, hCl]
    have hl4 : (trainV L D).length = m := by rw [hC4, hCl]
    rw [h0, hl0, hC0] at HSt
    rw [h0, hl4, hC4] at HTr
    simp only [hCl] at HRd
    clear H H' hL hD hn hm h0 hC hCk hC0 hC4 hCl hl0 hl4
    go_enter Try.func9, Try.ntmps9
    go_wp2_with fail
    refine HWk.out.mono ?_
    rintro e w1 ⟨rfl, hb1⟩
    have HB1 := Lib.hid hb1
    clear hb1
    go_wp2_with fail
    refine (HFw.out w1 HB1.out).mono ?_
    rintro e w2 ⟨A1, c1, rfl, hv, hb2⟩
    have HV := Lib.hid hv
    have HB2 := Lib.hid (below_tr HB1.out hb2)
    clear hv hb2
    go_wp2_with fail
    refine (HSm.out w2 HB2.out).mono ?_
    rintro e w3 ⟨A2, c2, rfl, hd, hb3⟩
    have HD := Lib.hid hd
    have HV3 := Lib.hid (HV.out.below hb3)
    have HB3 := Lib.hid (below_tr HB2.out hb3)
    clear hd hb3
    go_wp2_with fail
    refine (HSt.out A1 A2 c1 c2 w3 HV3.out HD.out).mono ?_
    rintro e w4 ⟨A3, c3, rfl, hc, hb4⟩
    have HC := Lib.hid hc
    have HV4 := Lib.hid (HV3.out.below hb4)
    have HD4 := Lib.hid (HD.out.below hb4)
    have HB4 := Lib.hid (below_tr HB3.out hb4)
    clear hc hb4
    go_wp2_with fail
    refine (HTr.out A1 A2 c1 c2 w4 HV4.out HD4.out).mono ?_
    rintro e w5 ⟨A4, c4, rfl, ht, hb5⟩
    have HT := Lib.hid ht
    have HC5 := Lib.hid (HC.out.below hb5)
    have HV5 := Lib.hid (HV4.out.below hb5)
    have HB5 := Lib.hid (below_tr HB4.out hb5)
    clear ht hb5
    go_wp2
    go_loopw [7, 37] (fun s i wr => ∃ k A6 c6, k ≤ 4 ∧ i = .int .i64 (k : Nat) ∧ s = .slice A6 m c6 ∧ Hid (Vecs .i32 wr A6 c6 (C k) ∧ Below w5.heap.size w5 wr)) (fun _ i _ => 4 - (intOf i).toNat)
    case atStart => exact ⟨0, A3, c3, Nat.zero_le _, rfl, rfl, Lib.hid ⟨HC5.out, Below.refl _ _⟩⟩
    case round =>
      obtain ⟨k, A6, c6, hk, rfl, rfl, HI⟩ := hrel
      by_cases hk4 : k < 4
      · have k0 : (0 : Int) ≤ k := by omega
        have kn : (k : Int) < 4 := by omega
        have HR := Lib.hid (HRd.out k A6 A1 c6 c1 wr HI.out.1 (HV5.out.below HI.out.2))
        go_wp2_with fail
        refine HR.out.mono ?_
        rintro e w6 ⟨A7, c7, rfl, hn6, hb6⟩
        have HS := Lib.hid (HSa.out (k + 1) k A7 A6 c7 c6 w6 hn6 (HI.out.1.below hb6))
        have HN6 := Lib.hid hn6
        have HI6 := Lib.hid (And.intro (HI.out.1.below hb6) (below_tr HI.out.2 hb6))
        clear hn6 hb6
        by_cases he : C (k + 1) = C k
        · have HF := Lib.hid (HRs.out k hk he)
          rw [decide_eq_true he] at HS
          clear he
          go_wp2_with fail
          refine HS.out.mono ?_
          rintro e w7 ⟨rfl, hb7⟩
          have HS2 := Lib.hid (HSa.out k 4 A6 A4 c6 c4 w7 (HI6.out.1.below hb7) (HT.out.below (below_tr HI6.out.2 hb7)))
          rw [decide_eq_true HF.out] at HS2
          have HB7 := Lib.hid (below_tr HB5.out (below_tr HI6.out.2 hb7))
          clear hb7
          go_wp2_with fail
          refine HS2.out.mono ?_
          rintro e w8 ⟨rfl, hb8⟩
          have HB8 := Lib.hid (below_tr HB7.out hb8)
          clear hb8
          go_wp2
          go_ret
          exact ⟨rfl, HB8.out⟩
        · rw [decide_eq_false he] at HS
          clear he
          go_wp2_with fail
          refine HS.out.mono ?_
          rintro e w7 ⟨rfl, hb7⟩
          have HI7 := Lib.hid (And.intro (HN6.out.below hb7) (below_tr HI6.out.2 hb7))
          clear hb7
          go_wp2
          go_roundw
          case rel => exact ⟨k + 1, A7, c7, by omega, by go_num, rfl, HI7⟩
          case measure => simp [intOf]; omega
      · obtain rfl : k = 4 := by omega
        have HS2 := Lib.hid (HSa.out 4 4 A6 A4 c6 c4 wr HI.out.1 (HT.out.below HI.out.2))
        rw [decide_eq_true rfl] at HS2
        have HB7 := Lib.hid (below_tr HB5.out HI.out.2)
        go_wp2_with fail
        refine HS2.out.mono ?_
        rintro e w8 ⟨rfl, hb8⟩
        have HB8 := Lib.hid (below_tr HB7.out hb8)
        clear hb8
        go_wp2
        go_ret
        exact ⟨rfl, HB8.out⟩
  · have t1 : (startE L D == 0) = false := by simpa using h0
    have t2 : (startE L D != 0) = true := by simpa using h0
    have hC0 : startV L D = [] := by unfold startV; rw [if_neg h0]
    rw [hC0] at HSt
    generalize startE L D = E at *
    clear H H' hL hD hn hm h0 hC0 HTr
    go_enter Try.func9, Try.ntmps9
    go_wp2_with fail
    refine HWk.out.mono ?_
    rintro e w1 ⟨rfl, hb1⟩
    have HB1 := Lib.hid hb1
    clear hb1
    go_wp2_with fail
    refine (HFw.out w1 HB1.out).mono ?_
    rintro e w2 ⟨A1, c1, rfl, hv, hb2⟩
    have HV := Lib.hid hv
    have HB2 := Lib.hid (below_tr HB1.out hb2)
    clear hv hb2
    go_wp2_with fail
    refine (HSm.out w2 HB2.out).mono ?_
    rintro e w3 ⟨A2, c2, rfl, hd, hb3⟩
    have HD := Lib.hid hd
    have HV3 := Lib.hid (HV.out.below hb3)
    have HB3 := Lib.hid (below_tr HB2.out hb3)
    clear hd hb3
    go_wp2_with fail
    refine (HSt.out A1 A2 c1 c2 w3 HV3.out HD.out).mono ?_
    rintro e w4 ⟨A3, c3, rfl, hc, hb4⟩
    have HB4 := Lib.hid (below_tr HB3.out hb4)
    clear hc hb4
    go_wp2
    go_ret
    exact ⟨by simp, HB4.out⟩

set_option maxRecDepth 100000 in
theorem lifted (os : Os) (started : os.Started) (H : Type) (enc : TypeId × Value → H) :
    ReturnsInHanded {} Try.checked os 9 .any (Rows.meansStaySpec.pre6 enc Try.prog Try.f9 Rows.meansStayRow.domain false) (Rows.meansStaySpec.post enc Try.prog Try.f9 false true false false) := by
  refine returnsInHanded_of_change (C := Try.checked) Try.own started (by kernel_rfl) Try.func9
    (ChangeSpec.witness6 (enc := enc) (C := Try.checked) false ⟨#[], #[.slice none 0 0, .slice none 0 0], []⟩ 8 (by kernel_rfl) (by kernel_rfl) (by kernel_rfl) (by kernel_rfl)) ?_
  intro W base args ds gs before hval0 hW hcnd _
  have hval : ∀ (j : Nat) t v, Try.f9.params[j]? = some t → args[j]? = some v → Value.okWide Try.prog W .any base t v := hval0
  have hW' := hW
  obtain ⟨p, q, hA0, hV, rfl, hfz, hnd⟩ := hW
  have hA : DataW.TrodAll enc Try.prog W 0 (fun _ => true) true Try.f9.params.toList args.toList ds p := hA0
  rw [Try.params9] at hA hval
  have hA' := hA
  obtain ⟨v0, vs0, d0, ds0, p0, q0, hargs, rfl, rfl, h0, r0⟩ := trodAll_cons hA
  obtain ⟨v1, vs1, d1, ds1, p1, q1, rfl, rfl, rfl, h1, r1⟩ := trodAll_cons r0
  obtain ⟨rfl, rfl, rfl⟩ := trodAll_nil r1
  obtain rfl : args = #[v0, v1] := by cases args; simp_all
  obtain ⟨rfl, rfl⟩ := trodVars_none hV
  obtain ⟨A0, len0, c0, rfl⟩ := okWide_slice Try.underlying22 (hval 0 22 v0 rfl rfl)
  obtain ⟨z0, rfl, sl0⟩ := open_vecs h0
  obtain ⟨A1, len1, c1, rfl⟩ := okWide_slice Try.underlying23 (hval 1 23 v1 rfl rfl)
  obtain ⟨z1, rfl, sl1⟩ := open_nums h1
  clear hA0 hval0
  refine (walk A0 c0 z0 sl0 A1 c1 z1 sl1).mono fun e W' ⟨he, bel⟩ => ?_
  subst he
  exact ⟨_, rfl, _, _, _, [], _, [], hW', trodAll_mk1 (shut_bool Try.underlying4 _), trodAll_below bel _ _ _ _ (by kernel_rfl) hA', rfl, bel.frame _, fun h => by cases h⟩

theorem proved : Rows.MeansStaySaid :=
  OpenClaim.holds_of_wide 9 Try.f9 rfl rfl rfl rfl rfl rfl rfl ⟨rfl, rfl, rfl, rfl, rfl⟩ rfl rfl rfl rfl rfl (by kernel_rfl) Try.func9 (by kernel_rfl)
    (of_decide_eq_true (by kernel_rfl)) (by unfold Func.isWrapper; first | (rw [if_pos (by decide +kernel)]; kernel_rfl) | (rw [if_neg (by decide +kernel)]; exact ⟨rfl, rfl⟩))
    (fun os started H enc _ => lifted os started H enc)
#print axioms proved
end Go.Proofs.Ytgakfffkadaeeaa.meansStay
