/-
  Proved: the law ChainTells, which chains may be, are one, and what they tell, is what the document says, returns true for every row of chains and of times, and leaves all memory as it was. No condition.
-/
import Derived.Test.YtbnedhhkapbliaaLawFrame
import Derived.BigQuiet
namespace Go.Proofs.Ytbnedhhkapbliaa.chainTells
open Go.ChangeShapes Go.WideShapes Go.ChangeAt Go.RowKit
set_option linter.unusedVariables false
set_option linter.unusedSimpArgs false
set_option maxRecDepth 100000

theorem chs_at {w : World} {A : Option Addr} {c : Nat} {ls : List (Option Addr × Nat × List Pl)} (h : Chs w A c ls) {i : Nat} (hi : i < ls.length) : ∃ b o B cb q, A = some ⟨b, o, none⟩ ∧ ls[i]? = some (B, cb, q) ∧ b < w.heap.size ∧ w.cell? ⟨b, o + i, none⟩ = some (.slice B (List.length q) cb) ∧ Chn w B cb q := by
  obtain ⟨b, o, e, hb, hc⟩ := h.rd (by omega)
  obtain ⟨h1, h2⟩ := hc i _ (List.getElem?_eq_getElem hi)
  exact ⟨b, o, _, _, _, e, List.getElem?_eq_getElem hi, hb, h1, h2⟩

set_option maxHeartbeats 8000000 in
theorem walk {w : World} (A : Option Addr) (c : Nat) (ls : List (Option Addr × Nat × List Pl)) (h : Chs w A c ls) (A' : Option Addr) (c' : Nat) (xs : List Int) (hx : Vec .u64 w A' c' xs) :
    Calls Try.prog 4 #[.slice A ls.length c, .slice A' xs.length c'] w fun e w' => e = .returned (.bool true) ∧ Below w.heap.size w w' := by
  have HWk := Lib.hid (wakes_any w)
  have HLs := Lib.hid (fun (X : World) (hX : Below w.heap.size w X) => h.below hX)
  have HXs := Lib.hid (fun (X : World) (hX : Below w.heap.size w X) => hx.below hX)
  have hmx : xs.length ≤ 9223372036854775807 := Nat.le_trans hx.room hx.most
  have hml : ls.length ≤ 9223372036854775807 := Nat.le_trans h.room h.most
  obtain ⟨n, hn⟩ : ∃ n, n = ls.length := ⟨_, rfl⟩
  obtain ⟨m, hm⟩ : ∃ m, m = xs.length := ⟨_, rfl⟩
  have HN := Lib.hid hn
  have HM := Lib.hid hm
  rw [← hn] at hml ⊢
  rw [← hm] at hmx ⊢
  clear h hx hn hm
  go_enter Try.func4, Try.ntmps4
  go_wp2_with fail
  refine HWk.out.mono ?_
  rintro e w1 ⟨rfl, hb1⟩
  have HB1 := Lib.hid hb1
  clear hb1
  go_wp2
  go_loopw [22] (fun i wr => ∃ k : Nat, k ≤ n ∧ i = .int .i64 k ∧ Hid (Below w.heap.size w wr)) (fun i _ => n - (intOf i).toNat)
  case atStart => exact ⟨0, Nat.zero_le _, rfl, HB1⟩
  case round =>
    obtain ⟨k, hk, rfl, HB⟩ := hrel
    by_cases hkn : k < n
    · by_cases h6 : k = 6
      · have t6 : ((k : Int) == 6) = true := by simp; omega
        obtain ⟨b, o, B, cb, q, rfl, _, hb, hcl, _⟩ := chs_at (HLs.out _ HB.out) (i := k) (by rw [← HN.out]; exact hkn)
        have k0 : (0 : Int) ≤ k := by omega
        have kn : (k : Int) < n := by omega
        clear h6
        go_wp2
        go_ret
        exact ⟨rfl, HB.out⟩
      · have t6 : ((k : Int) == 6) = false := by simp; omega
        obtain ⟨b, o, B, cb, q, rfl, _, hb, hcl, hq⟩ := chs_at (HLs.out _ HB.out) (i := k) (by rw [← HN.out]; exact hkn)
        obtain ⟨b', o', B', cb', q', e', _, hb', hcl', hq'⟩ := chs_at (HLs.out _ HB.out) (i := 0) (by rw [← HN.out]; omega)
        injection e' with e'
        injection e' with e1 e2
        subst e1
        subst e2
        simp only [Nat.add_zero] at hcl'
        have k0 : (0 : Int) ≤ k := by omega
        have kn : (k : Int) < n := by omega
        have n0 : (0 : Int) < n := by omega
        have n1 : 0 < n := by omega
        have HF := Lib.hid (fun (X : World) (hX : Below wr.heap.size wr X) => few_any B cb q X (hq.below hX))
        have HF' := Lib.hid (fun (X : World) (hX : Below wr.heap.size wr X) => few_any B' cb' q' X (hq'.below hX))
        have HS := Lib.hid (fun (X : World) (hX : Below wr.heap.size wr X) => show X.cell? ⟨b, o, none⟩ = some (.slice B' q'.length cb') from (hX.cell (p := ⟨b, o, none⟩) hb').trans hcl')
        obtain ⟨l1, hl1⟩ : ∃ l1, l1 = fewM (vals q) := ⟨_, rfl⟩
        obtain ⟨l2, hl2⟩ : ∃ l2, l2 = fewM (vals q') := ⟨_, rfl⟩
        rw [← hl1] at HF
        rw [← hl2] at HF'
        generalize q.length = nq1 at *
        generalize q'.length = nq2 at *
        clear hq hq' hb hb' h6 hl1 hl2
        go_wp2
        go_region_held3 (fun X => X.cell? ⟨b, o, none⟩ = some (.slice B' nq2 cb')) (first | exact HS.out _ (Below.refl _ _) | exact HS.out _ (below_drew (Below.refl _ _)) | exact HS.out _ HC2.out | exact HS.out _ HC3.out) (first
          | (go_at_call 10; (with_reducible refine (HF.out wr.drew (below_drew (Below.refl _ _))).mono ?_); rintro e w2 ⟨A2, c2, q2, rfl, hv2, ho2, hb2⟩; have HC2 := Lib.hid (show Below wr.heap.size wr w2 from (below_drew (Below.refl _ wr)).trans hb2); have HV2 := Lib.hid hv2; have HO2 := Lib.hid ho2; clear hv2 ho2 hb2)
          | (go_at_call 10; (with_reducible refine (HF'.out _ HC2.out).mono ?_); rintro e w3 ⟨A3, c3, q3, rfl, hv3, ho3, hb3⟩; have HC3 := Lib.hid (HC2.out.trans (hb3.mono HC2.out.size)); have HV3 := Lib.hid hv3; have HO3 := Lib.hid ho3; have HQ2 := Lib.hid (HO2.out.chn.below hb3); clear hv3 ho3 hb3))
        have HRt := Lib.hid (fun (X : World) (hX : Below w3.heap.size w3 X) => rRight8_any A2 c2 q2 X (HQ2.out.below hX))
        have HCk := Lib.hid (fun (X : World) (hX : Below w3.heap.size w3 X) => check_any8 A2 c2 q2 X (HQ2.out.below hX))
        have HSa := Lib.hid (fun (X : World) (hX : Below w3.heap.size w3 X) => same8_any A2 A3 c2 c3 q2 q3 X (HQ2.out.below hX) (HO3.out.chn.below hX))
        have HSr := Lib.hid (fun (X : World) (hX : Below w3.heap.size w3 X) => rSame8_any A2 A3 c2 c3 q2 q3 X (HQ2.out.below hX) (HO3.out.chn.below hX))
        have HSx := Lib.hid (fun (X : World) (hX : Below w3.heap.size w3 X) (A5 : Option Addr) (c5 : Nat) (q5 : List Pl) (hq5 : Chn X A5 c5 q5) => same8_any A2 A5 c2 c5 q2 q5 X (HQ2.out.below hX) hq5)
        have HLa := Lib.hid (fun (X : World) (hX : Below w3.heap.size w3 X) => last_any A2 c2 q2 X (HQ2.out.below hX))
        have HLr := Lib.hid (fun (X : World) (hX : Below w3.heap.size w3 X) => rLast_any A2 c2 q2 X (HQ2.out.below hX))
        have HAt := Lib.hid (fun (t : Int) (X : World) (hX : Below w3.heap.size w3 X) => at_any A2 c2 q2 t X (HQ2.out.below hX))
        have HAr := Lib.hid (fun (t : Int) (X : World) (hX : Below w3.heap.size w3 X) => rAt_any A2 c2 q2 t X (HQ2.out.below hX))
        rw [HV2.out] at HRt HCk HSa HSr HSx HLa HLr HAt HAr
        rw [HV3.out] at HSa HSr
        rw [right_eq] at HRt
        have HBw := Lib.hid (HB.out.trans (HC3.out.mono HB.out.size))
        generalize q2.length = n2 at *
        generalize q3.length = n3 at *
        generalize decide (l1 = l2) = D at *
        clear hcl hcl'
        cases hc : chainB l1 with
        | true =>
          have hg := (chain_iff l1).1 hc
          have hE : chkM l1 = 0 := by unfold chkM; rw [hc]; rfl
          have hL : rLast l1 = lastM l1 := last_eq hg
          have hA : ∀ t, atM l1 t = atI l1 t := fun t => by unfold atM; rw [hc]; rfl
          rw [hc] at HRt HLa
          rw [hE] at HCk
          rw [hL] at HLr
          simp only [hA] at HAt
          simp only [if_true] at HLa
          generalize lastM l1 = L at *
          have LL : (L != L) = false := by simp
          clear hc hg hE hL hA
          go_wp2_with fail
          refine (HRt.out _ (Below.refl _ _)).mono ?_
          rintro e w4 ⟨rfl, hb4⟩
          have HE4 := Lib.hid hb4
          clear hb4
          go_wp2_with fail
          refine (HCk.out _ HE4.out).mono ?_
          rintro e w5 ⟨rfl, hb5⟩
          have HE5 := Lib.hid (HE4.out.trans (hb5.mono HE4.out.size))
          clear hb5
          go_wp2_with fail
          refine (HSa.out _ HE5.out).mono ?_
          rintro e w6 ⟨rfl, hb6⟩
          have HE6 := Lib.hid (HE5.out.trans (hb6.mono HE5.out.size))
          clear hb6
          go_wp2_with fail
          refine (HSr.out _ HE6.out).mono ?_
          rintro e w7 ⟨rfl, hb7⟩
          have HE7 := Lib.hid (HE6.out.trans (hb7.mono HE6.out.size))
          clear hb7
          have dd : (D != D) = false := by simp
          go_wp2_with fail
          refine (HF.out _ (HC3.out.trans (HE7.out.mono HC3.out.size))).mono ?_
          rintro e w8 ⟨A8, c8, q8, rfl, hv8, ho8, hb8⟩
          have HE8 := Lib.hid (HE7.out.trans (hb8.mono HE7.out.size))
          have hsx := HSx.out w8 HE8.out A8 c8 q8 ho8.chn
          rw [hv8, decide_eq_true rfl] at hsx
          have HSy := Lib.hid hsx
          generalize q8.length = n8 at *
          clear hv8 ho8 hb8 hsx
          go_wp2_with fail
          refine HSy.out.mono ?_
          rintro e w9 ⟨rfl, hb9⟩
          have HE9 := Lib.hid (HE8.out.trans (hb9.mono HE8.out.size))
          clear hb9
          go_wp2_with fail
          refine (HLr.out _ HE9.out).mono ?_
          rintro e w10 ⟨rfl, hb10⟩
          have HEL := Lib.hid (HE9.out.trans (hb10.mono HE9.out.size))
          clear hb10
          go_wp2_with fail
          refine (HLa.out _ HEL.out).mono ?_
          rintro e w11 ⟨rfl, hb11⟩
          have HE11 := Lib.hid (HEL.out.trans (hb11.mono HEL.out.size))
          clear hb11
          go_wp2
          go_loopw [76] (fun i wr => ∃ j : Nat, j ≤ m ∧ i = .int .i64 j ∧ Hid (Below w3.heap.size w3 wr)) (fun i _ => m - (intOf i).toNat)
          case atStart => exact ⟨0, Nat.zero_le _, rfl, HE11⟩
          case round =>
            obtain ⟨j, hj, rfl, HI⟩ := hrel
            have HBI := Lib.hid (HBw.out.trans (HI.out.mono HBw.out.size))
            by_cases hjm : j < m
            · obtain ⟨g, og, rfl, hg, hcg⟩ := (HXs.out _ HBI.out).at_ (j := j) (by rw [← HM.out]; exact hjm)
              have j0 : (0 : Int) ≤ j := by omega
              have jn : (j : Int) < m := by omega
              generalize xs.getD j 0 = t at *
              by_cases h20 : j = 20
              · have t20 : ((j : Int) == 20) = true := by simp; omega
                clear h20
                go_wp2
                go_roundw
                case rel => exact ⟨k + 1, by omega, by go_num, HBI⟩
                case measure => simp [intOf]; omega
              · have t20 : ((j : Int) == 20) = false := by simp; omega
                clear h20
                go_wp2_with fail
                refine (HAt.out t _ HI.out).mono ?_
                rintro e w12 ⟨rfl, hb12⟩
                have HI12 := Lib.hid (HI.out.trans (hb12.mono HI.out.size))
                clear hb12
                go_wp2_with fail
                refine (HAr.out t _ HI12.out).mono ?_
                rintro e w13 ⟨rfl, hb13⟩
                have HIZ := Lib.hid (HI12.out.trans (hb13.mono HI12.out.size))
                clear hb13
                generalize atK (atI l1 t) = u at *
                generalize atB (atI l1 t) = v at *
                have uu : (u != u) = false := by simp
                have vv : (v != v) = false := by simp
                go_wp2
                go_roundw
                case rel => exact ⟨j + 1, by omega, by go_num, HIZ⟩
                case measure => simp [intOf]; omega
            · obtain rfl : j = m := by omega
              go_wp2
              go_roundw
              case rel => exact ⟨k + 1, by omega, by go_num, HBI⟩
              case measure => simp [intOf]; omega
        | false =>
          have hE : chkM l1 = 180 := by unfold chkM; rw [hc]; rfl
          have hA : ∀ t, atM l1 t = none := fun t => by unfold atM; rw [hc]; rfl
          rw [hc] at HRt HLa
          rw [hE] at HCk
          simp only [hA] at HAt
          simp only [Bool.false_eq_true, if_false] at HLa
          unfold atK atB at HAt
          dsimp only at HAt
          clear hc hE hA
          go_wp2_with fail
          refine (HRt.out _ (Below.refl _ _)).mono ?_
          rintro e w4 ⟨rfl, hb4⟩
          have HE4 := Lib.hid hb4
          clear hb4
          go_wp2_with fail
          refine (HCk.out _ HE4.out).mono ?_
          rintro e w5 ⟨rfl, hb5⟩
          have HE5 := Lib.hid (HE4.out.trans (hb5.mono HE4.out.size))
          clear hb5
          go_wp2_with fail
          refine (HSa.out _ HE5.out).mono ?_
          rintro e w6 ⟨rfl, hb6⟩
          have HE6 := Lib.hid (HE5.out.trans (hb6.mono HE5.out.size))
          clear hb6
          go_wp2_with fail
          refine (HSr.out _ HE6.out).mono ?_
          rintro e w7 ⟨rfl, hb7⟩
          have HE7 := Lib.hid (HE6.out.trans (hb7.mono HE6.out.size))
          clear hb7
          have dd : (D != D) = false := by simp
          go_wp2_with fail
          refine (HF.out _ (HC3.out.trans (HE7.out.mono HC3.out.size))).mono ?_
          rintro e w8 ⟨A8, c8, q8, rfl, hv8, ho8, hb8⟩
          have HE8 := Lib.hid (HE7.out.trans (hb8.mono HE7.out.size))
          have hsx := HSx.out w8 HE8.out A8 c8 q8 ho8.chn
          rw [hv8, decide_eq_true rfl] at hsx
          have HSy := Lib.hid hsx
          generalize q8.length = n8 at *
          clear hv8 ho8 hb8 hsx
          go_wp2_with fail
          refine HSy.out.mono ?_
          rintro e w9 ⟨rfl, hb9⟩
          have HE9 := Lib.hid (HE8.out.trans (hb9.mono HE8.out.size))
          clear hb9
          have HEL := HE9
          go_wp2_with fail
          refine (HLa.out _ HEL.out).mono ?_
          rintro e w11 ⟨rfl, hb11⟩
          have HE11 := Lib.hid (HEL.out.trans (hb11.mono HEL.out.size))
          clear hb11
          go_wp2
          go_loopw [76] (fun i wr => ∃ j : Nat, j ≤ m ∧ i = .int .i64 j ∧ Hid (Below w3.heap.size w3 wr)) (fun i _ => m - (intOf i).toNat)
          case atStart => exact ⟨0, Nat.zero_le _, rfl, HE11⟩
          case round =>
            obtain ⟨j, hj, rfl, HI⟩ := hrel
            have HBI := Lib.hid (HBw.out.trans (HI.out.mono HBw.out.size))
            by_cases hjm : j < m
            · obtain ⟨g, og, rfl, hg, hcg⟩ := (HXs.out _ HBI.out).at_ (j := j) (by rw [← HM.out]; exact hjm)
              have j0 : (0 : Int) ≤ j := by omega
              have jn : (j : Int) < m := by omega
              generalize xs.getD j 0 = t at *
              by_cases h20 : j = 20
              · have t20 : ((j : Int) == 20) = true := by simp; omega
                clear h20
                go_wp2
                go_roundw
                case rel => exact ⟨k + 1, by omega, by go_num, HBI⟩
                case measure => simp [intOf]; omega
              · have t20 : ((j : Int) == 20) = false := by simp; omega
                clear h20
                go_wp2_with fail
                refine (HAt.out t _ HI.out).mono ?_
                rintro e w12 ⟨rfl, hb12⟩
                have HI12 := Lib.hid (HI.out.trans (hb12.mono HI.out.size))
                clear hb12
                have HIZ := HI12
                go_wp2
                go_roundw
                case rel => exact ⟨j + 1, by omega, by go_num, HIZ⟩
                case measure => simp [intOf]; omega
            · obtain rfl : j = m := by omega
              go_wp2
              go_roundw
              case rel => exact ⟨k + 1, by omega, by go_num, HBI⟩
              case measure => simp [intOf]; omega
    · obtain rfl : k = n := by omega
      go_wp2
      go_ret
      exact ⟨rfl, HB.out⟩

set_option maxRecDepth 100000 in
theorem lifted (os : Os) (started : os.Started) (H : Type) (enc : TypeId × Value → H) :
    ReturnsInHanded {} Try.checked os 4 .any (Rows.chainTellsSpec.pre6 enc Try.prog Try.f4 Rows.chainTellsRow.domain false) (Rows.chainTellsSpec.post enc Try.prog Try.f4 false true false false) := by
  refine returnsInHanded_of_change (C := Try.checked) Try.own started (by kernel_rfl) Try.func4
    (ChangeSpec.witness6 (enc := enc) (C := Try.checked) false ⟨#[], #[.slice none 0 0, .slice none 0 0], []⟩ 8 (by kernel_rfl) (by kernel_rfl) (by kernel_rfl) (by kernel_rfl)) ?_
  intro W base args ds gs before hval0 hW hcnd _
  have hval : ∀ (j : Nat) t v, Try.f4.params[j]? = some t → args[j]? = some v → Value.okWide Try.prog W .any base t v := hval0
  have hW' := hW
  obtain ⟨p, q, hA0, hV, rfl, hfz, hnd⟩ := hW
  have hA : DataW.TrodAll enc Try.prog W 0 (fun _ => true) true Try.f4.params.toList args.toList ds p := hA0
  rw [Try.params4] at hA hval
  have hA' := hA
  obtain ⟨v0, vs0, d0, ds0, p0, q0, hargs, rfl, rfl, h0, r0⟩ := trodAll_cons hA
  obtain ⟨v1, vs1, d1, ds1, p1, q1, rfl, rfl, rfl, h1, r1⟩ := trodAll_cons r0
  obtain ⟨rfl, rfl, rfl⟩ := trodAll_nil r1
  obtain rfl : args = #[v0, v1] := by cases args; simp_all
  obtain ⟨rfl, rfl⟩ := trodVars_none hV
  obtain ⟨A0, len0, c0, rfl⟩ := okWide_slice Try.underlying37 (hval 0 37 v0 rfl rfl)
  obtain ⟨z0, rfl, sl0⟩ := open_chains h0
  obtain ⟨A1, len1, c1, rfl⟩ := okWide_slice Try.underlying38 (hval 1 38 v1 rfl rfl)
  obtain ⟨z1, rfl, sl1⟩ := open_times h1
  clear hA0 hval0
  refine (walk A0 c0 z0 sl0 A1 c1 z1 sl1).mono fun e W' ⟨he, bel⟩ => ?_
  subst he
  exact ⟨_, rfl, _, _, _, [], _, [], hW', trodAll_mk1 (shut_bool Try.underlying4 _), trodAll_below bel _ _ _ _ (by kernel_rfl) hA', rfl, bel.frame _, fun h => by cases h⟩

theorem proved : Rows.ChainTellsSaid :=
  OpenClaim.holds_of_wide 4 Try.f4 rfl rfl rfl rfl rfl rfl rfl ⟨rfl, rfl, rfl, rfl, rfl⟩ rfl rfl rfl rfl rfl (by kernel_rfl) Try.func4 (by kernel_rfl)
    (of_decide_eq_true (by kernel_rfl)) (by unfold Func.isWrapper; first | (rw [if_pos (by decide +kernel)]; kernel_rfl) | (rw [if_neg (by decide +kernel)]; exact ⟨rfl, rfl⟩))
    (fun os started H enc _ => lifted os started H enc)
#print axioms proved
end Go.Proofs.Ytbnedhhkapbliaa.chainTells
