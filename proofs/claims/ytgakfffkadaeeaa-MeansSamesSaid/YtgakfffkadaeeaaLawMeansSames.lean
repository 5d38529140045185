/-
  Proved: the law MeansSames, which vectors are the same is as the document says, returns true for every row of rows of vectors, and leaves all memory as it was. No condition.
-/
import Derived.Test.YtgakfffkadaeeaaMnsLaw
namespace Go.Proofs.Ytgakfffkadaeeaa.meansSames
open Go.ChangeShapes Go.WideShapes Go.ChangeAt Go.RowKit
set_option linter.unusedVariables false
set_option linter.unusedSimpArgs false
set_option maxRecDepth 100000

set_option maxHeartbeats 4000000 in
theorem walk {w : World} (A : Option Addr) (c : Nat) (ls : List (List (List Int))) (H : VVs w A c ls) :
    Calls Try.prog 6 #[.slice A ls.length c] w fun e w' => e = .returned (.bool true) ∧ Below w.heap.size w w' := by
  have HWk := Lib.hid (wakes_any w)
  have HV := Lib.hid H
  obtain ⟨n, hn⟩ : ∃ n, n = ls.length := ⟨_, rfl⟩
  have hmx : n ≤ 9223372036854775807 := by rw [hn]; exact Nat.le_trans H.room H.most
  have HN := Lib.hid hn
  rw [← hn]
  clear H hn
  go_enter Try.func6, Try.ntmps6
  go_wp2_with fail
  refine HWk.out.mono ?_
  rintro e w1 ⟨rfl, hb1⟩
  have HB1 := Lib.hid hb1
  clear hb1
  go_wp2
  go_loopw [11] (fun i wr => ∃ k : Nat, k ≤ n ∧ i = .int .i64 k ∧ Hid (Below w.heap.size w wr)) (fun i _ => n - (intOf i).toNat)
  case atStart => exact ⟨0, Nat.zero_le _, rfl, HB1⟩
  case round =>
    obtain ⟨k, hk, rfl, HB⟩ := hrel
    by_cases hkn : k < n
    · obtain ⟨b, o, x, B, cb, rfl, hx, hb, c0, hv⟩ := (HV.out.below HB.out).at_ (i := k) (by rw [← HN.out]; exact hkn)
      obtain ⟨b', o', y, B', cb', hA, hy, hb', c1, hv'⟩ := (HV.out.below HB.out).at_ (i := 0) (by rw [← HN.out]; omega)
      injection hA with hA
      injection hA with hA1 hA2
      subst hA1 hA2
      have k0 : (0 : Int) ≤ k := by omega
      have kn : (k : Int) < n := by omega
      have n0 : (0 : Int) < n := by omega
      have n0' : 0 < n := by omega
      rw [Nat.add_zero] at c1
      by_cases hk8 : k = 8
      · subst hk8
        clear hx hb hv hy hb' hv'
        go_wp2
        go_ret
        exact ⟨rfl, HB.out⟩
      · have t8 : ((k : Int) == 8) = false := by simp; omega
        have t8' : (k == 8) = false := by simpa using hk8
        obtain ⟨X, hX⟩ : ∃ X, X = fewM x 20 := ⟨_, rfl⟩
        obtain ⟨Y, hY⟩ : ∃ Y, Y = fewM y 20 := ⟨_, rfl⟩
        obtain ⟨xl, hxl⟩ : ∃ xl, xl = x.length := ⟨_, rfl⟩
        obtain ⟨yl, hyl⟩ : ∃ yl, yl = y.length := ⟨_, rfl⟩
        have HFx := Lib.hid (fun (V : World) (hV : Below wr.heap.size wr V) => show Calls Try.prog 13 #[.slice B xl cb, .int .i64 20] V (GV V X) from by rw [hxl, hX]; exact few_v B cb x 20 V (hv.below hV) (by omega))
        have HFy := Lib.hid (fun (V : World) (hV : Below wr.heap.size wr V) => show Calls Try.prog 13 #[.slice B' yl cb', .int .i64 20] V (GV V Y) from by rw [hyl, hY]; exact few_v B' cb' y 20 V (hv'.below hV) (by omega))
        have HK := Lib.hid (fun (V : World) (hV : Below wr.heap.size wr V) => show V.cell? ⟨b, o, none⟩ = some (.slice B' yl cb') from by rw [hyl]; exact (hV.cell (p := ⟨b, o, none⟩) hb').trans c1)
        rw [← hxl] at c0
        rw [← hyl] at c1
        unfold GV at HFx HFy
        have hbd : Below wr.heap.size wr wr.drew := below_drew (Below.refl _ _)
        clear hx hb hv hy hb' hv' hX hY hxl hyl
        go_wp2
        go_region_held3 (fun V => V.cell? ⟨b, o, none⟩ = some (.slice B' yl cb')) (first | (exact HK.out _ (by assumption)))
          (first
          | (go_at_call 13; (with_reducible refine (HFx.out _ (by assumption)).mono ?_); rintro e w6 ⟨A6, c6, rfl, hv6, hb6⟩; have hw6 : Below wr.heap.size wr w6 := below_tr (by assumption) hb6)
          | (go_at_call 13; (with_reducible refine (HFy.out _ (by assumption)).mono ?_); rintro e w7 ⟨A7, c7, rfl, hv7, hb7⟩; have hw7 : Below wr.heap.size wr w7 := below_tr (by assumption) hb7))
        all_goals (
          (first
            | (have HF := Lib.hid (show Vecs .i32 w7 A6 c6 X ∧ Vecs .i32 w7 A7 c7 Y ∧ Below wr.heap.size wr w7 from ⟨hv6.below hb7, hv7, hw7⟩); obtain ⟨wf, hwf⟩ : ∃ wf, wf = w7 := ⟨_, rfl⟩)
            | (have HF := Lib.hid (show Vecs .i32 w6 A6 c6 X ∧ Vecs .i32 w6 A7 c7 Y ∧ Below wr.heap.size wr w6 from ⟨hv6, hv7.below hb6, hw6⟩); obtain ⟨wf, hwf⟩ : ∃ wf, wf = w6 := ⟨_, rfl⟩))
          rw [← hwf] at HF ⊢
          clear hv6 hb6 hw6 hv7 hb7 hw7 hwf c0 c1 hbd
          have HS1 := Lib.hid (sameV_any A6 A7 c6 c7 X Y wf HF.out.1 HF.out.2.1)
          have HS2 := Lib.hid (fun (V : World) (hV : Below wf.heap.size wf V) => rSame12_any A6 A7 c6 c7 X Y V (HF.out.1.below hV) (HF.out.2.1.below hV))
          have HS3 := Lib.hid (fun (V : World) (A8 : Option Addr) (c8 : Nat) (hV : Below wf.heap.size wf V) (hv : Vecs .i32 V A8 c8 X) => show Calls Try.prog 29 #[.slice A6 X.length c6, .slice A8 X.length c8] V (fun e w' => e = .returned (.bool true) ∧ Below V.heap.size V w') from by
            have := sameV_any A6 A8 c6 c8 X X V (HF.out.1.below hV) hv
            rw [decide_eq_true rfl] at this
            exact this)
          have HB9 := Lib.hid (below_tr HB.out HF.out.2.2)
          generalize decide (X = Y) = R at *
          have tR : (R != R) = false := by simp
          generalize Y.length = ny at *
          generalize X.length = nx at *
          go_wp2_with fail
          refine HS1.out.mono ?_
          rintro e w8 ⟨rfl, hb8⟩
          have HB8 := Lib.hid hb8
          clear hb8
          go_wp2_with fail
          refine (HS2.out w8 HB8.out).mono ?_
          rintro e w9 ⟨rfl, hb9⟩
          have HB10 := Lib.hid (below_tr HB8.out hb9)
          have HFx2 := Lib.hid (HFx.out w9 (below_tr HF.out.2.2 HB10.out))
          clear hb9
          go_wp2_with fail
          refine HFx2.out.mono ?_
          rintro e w10 ⟨A8, c8, rfl, hv8, hb11⟩
          have HB11 := Lib.hid (below_tr HB10.out hb11)
          have HS4 := Lib.hid (HS3.out w10 A8 c8 HB11.out hv8)
          clear hv8 hb11
          go_wp2_with fail
          refine HS4.out.mono ?_
          rintro e w11 ⟨rfl, hb12⟩
          have HB12 := Lib.hid (below_tr HB9.out (below_tr HB11.out hb12))
          clear hb12
          go_wp2
          go_roundw
          case rel => exact ⟨k + 1, by omega, by go_num, HB12⟩
          case measure => simp [intOf]; omega)
    · obtain rfl : k = n := by omega
      go_wp2
      go_ret
      exact ⟨rfl, HB.out⟩

set_option maxRecDepth 100000 in
theorem lifted (os : Os) (started : os.Started) (H : Type) (enc : TypeId × Value → H) :
    ReturnsInHanded {} Try.checked os 6 .any (Rows.meansSamesSpec.pre6 enc Try.prog Try.f6 Rows.meansSamesRow.domain false) (Rows.meansSamesSpec.post enc Try.prog Try.f6 false true false false) := by
  refine returnsInHanded_of_change (C := Try.checked) Try.own started (by kernel_rfl) Try.func6
    (ChangeSpec.witness6 (enc := enc) (C := Try.checked) false ⟨#[], #[.slice none 0 0], []⟩ 8 (by kernel_rfl) (by kernel_rfl) (by kernel_rfl) (by kernel_rfl)) ?_
  intro W base args ds gs before hval0 hW hcnd _
  have hval : ∀ (j : Nat) t v, Try.f6.params[j]? = some t → args[j]? = some v → Value.okWide Try.prog W .any base t v := hval0
  have hW' := hW
  obtain ⟨p, q, hA0, hV, rfl, hfz, hnd⟩ := hW
  have hA : DataW.TrodAll enc Try.prog W 0 (fun _ => true) true Try.f6.params.toList args.toList ds p := hA0
  rw [Try.params6] at hA hval
  have hA' := hA
  obtain ⟨v0, vs0, d0, ds0, p0, q0, hargs, rfl, rfl, h0, r0⟩ := trodAll_cons hA
  obtain ⟨rfl, rfl, rfl⟩ := trodAll_nil r0
  obtain rfl : args = #[v0] := by cases args; simp_all
  obtain ⟨rfl, rfl⟩ := trodVars_none hV
  obtain ⟨A0, len0, c0, rfl⟩ := okWide_slice Try.underlying45 (hval 0 45 v0 rfl rfl)
  obtain ⟨z0, rfl, sl0⟩ := open_vvs h0
  clear hA0 hval0
  refine (walk A0 c0 z0 sl0).mono fun e W' ⟨he, bel⟩ => ?_
  subst he
  exact ⟨_, rfl, _, _, _, [], _, [], hW', trodAll_mk1 (shut_bool Try.underlying4 _), trodAll_below bel _ _ _ _ (by kernel_rfl) hA', rfl, bel.frame _, fun h => by cases h⟩

theorem proved : Rows.MeansSamesSaid :=
  OpenClaim.holds_of_wide 6 Try.f6 rfl rfl rfl rfl rfl rfl rfl ⟨rfl, rfl, rfl, rfl, rfl⟩ rfl rfl rfl rfl rfl (by kernel_rfl) Try.func6 (by kernel_rfl)
    (of_decide_eq_true (by kernel_rfl)) (by unfold Func.isWrapper; first | (rw [if_pos (by decide +kernel)]; kernel_rfl) | (rw [if_neg (by decide +kernel)]; exact ⟨rfl, rfl⟩))
    (fun os started H enc _ => lifted os started H enc)
#print axioms proved
end Go.Proofs.Ytgakfffkadaeeaa.meansSames
