/-
  Proved: the law MeansAssigns, a vector's centroid is as the document says, returns true for every centroids and row of vectors, and leaves all memory as it was. No condition.
-/
import Derived.Test.YtgakfffkadaeeaaMnsLaw
namespace Go.Proofs.Ytgakfffkadaeeaa.meansAssigns
open Go.ChangeShapes Go.WideShapes Go.ChangeAt Go.RowKit
set_option linter.unusedVariables false
set_option linter.unusedSimpArgs false
set_option maxRecDepth 100000

set_option maxHeartbeats 4000000 in
theorem walk {w : World} (A : Option Addr) (c : Nat) (x : List (List Int)) (H : Vecs .i32 w A c x) (A' : Option Addr) (c' : Nat) (l : List (List Int)) (H' : Vecs .i32 w A' c' l) :
    Calls Try.prog 5 #[.slice A x.length c, .slice A' l.length c'] w fun e w' => e = .returned (.bool true) ∧ Below w.heap.size w w' := by
  have HWk := Lib.hid (wakes_any w)
  have HFw := Lib.hid (fun (V : World) (hV : Below w.heap.size w V) => few_v A c x 7 V (H.below hV) (by omega))
  have HFl := Lib.hid (fun (V : World) (hV : Below w.heap.size w V) => few_v A' c' l 20 V (H'.below hV) (by omega))
  have HF6 := Lib.hid (fun (V : World) (hV : Below w.heap.size w V) => few_any A c x 6 V (H.below hV) (by omega))
  have HMr := Lib.hid (fun (h : (fewM x 7).length ≤ 6) => few_more h (by omega : 6 ≤ 7))
  obtain ⟨C, hC⟩ : ∃ C, C = fewM x 7 := ⟨_, rfl⟩
  obtain ⟨L, hL⟩ : ∃ L, L = fewM l 20 := ⟨_, rfl⟩
  rw [← hC] at HFw HMr
  rw [← hL] at HFl
  have hn7 : C.length ≤ 7 := by rw [hC, few_length]; omega
  have hm20 : L.length ≤ 20 := by rw [hL, few_length]; omega
  generalize x.length = n0 at *
  generalize l.length = m0 at *
  obtain ⟨n, hn⟩ : ∃ n, n = C.length := ⟨_, rfl⟩
  obtain ⟨m, hm⟩ : ∃ m, m = L.length := ⟨_, rfl⟩
  have HAs := Lib.hid (fun (A1 B : Option Addr) (c1 cb : Nat) (v : List Int) (V : World) (h1 : Vecs .i32 V A1 c1 C) (h2 : Vec .i32 V B cb v) => show Calls Try.prog 28 #[.slice A1 n c1, .slice B v.length cb] V (fun e w' => e = .returned (.tuple #[.int .i64 (assignN C v), .int .i64 (assignE C v)]) ∧ Below V.heap.size V w') from by rw [hn]; exact assign_any A1 B c1 cb C v V h1 h2)
  have HCe := Lib.hid (show centB n = true ↔ countE C = 0 from by rw [hn]; exact cent_count C)
  have HCn := Lib.hid (show centB n = true → 0 < n ∧ n ≤ 6 from fun h => by unfold centB at h; simp at h; omega)
  have HN := Lib.hid hn
  have HM := Lib.hid hm
  unfold GV at HFw HFl
  rw [← hn] at HFw hn7
  rw [← hm] at HFl hm20
  clear H H' hC hL hn hm
  go_enter Try.func5, Try.ntmps5
  go_wp2_with fail
  refine HWk.out.mono ?_
  rintro e w1 ⟨rfl, hb1⟩
  have HB1 := Lib.hid hb1
  clear hb1
  go_wp2_with fail
  refine (HFw.out w1 HB1.out).mono ?_
  rintro e w2 ⟨A1, c1, rfl, hv, hb2⟩
  have HV := Lib.hid hv
  have HB2 := Lib.hid (below_tr HB1.out hb2)
  clear hv hb2
  go_wp2_with fail
  refine (HFl.out w2 HB2.out).mono ?_
  rintro e w3 ⟨A2, c2, rfl, hd, hb3⟩
  have HD := Lib.hid hd
  have HV3 := Lib.hid (HV.out.below hb3)
  have HB3 := Lib.hid (below_tr HB2.out hb3)
  clear hd hb3
  go_wp2
  go_loopw [18] (fun i wr => ∃ k : Nat, k ≤ m ∧ i = .int .i64 k ∧ Hid (Below w3.heap.size w3 wr)) (fun i _ => m - (intOf i).toNat)
  case atStart => exact ⟨0, Nat.zero_le _, rfl, Lib.hid (Below.refl _ _)⟩
  case round =>
    obtain ⟨k, hk, rfl, HI⟩ := hrel
    by_cases hkm : k < m
    · obtain ⟨b, o, v, B, cb, rfl, hv, hb, d0, hvv⟩ := (HD.out.below HI.out).at_ (i := k) (by rw [← HM.out]; exact hkm)
      have k0 : (0 : Int) ≤ k := by omega
      have km : (k : Int) < m := by omega
      have HC0 := Lib.hid (HV3.out.below HI.out)
      have HVV := Lib.hid hvv
      have HAk := Lib.hid (HAs.out A1 B c1 cb v wr HC0.out hvv)
      have HCt := Lib.hid (fun V => rCent_any A1 n c1 V)
      have HBw := Lib.hid (below_tr HB3.out HI.out)
      have HAE := Lib.hid (show assignE C v = if countE C ≠ 0 then countE C else allM (C ++ [v]) from rfl)
      have HAN := Lib.hid (show assignN C v = if assignE C v = 0 then (nearM C v : Int) else 0 from rfl)
      obtain ⟨vl, hvl⟩ : ∃ vl, vl = v.length := ⟨_, rfl⟩
      have HVL := Lib.hid hvl
      rw [← hvl] at d0 HAk
      clear hv hb hvv hvl
      cases hct : centB n with
      | false =>
        have hce : countE C = 2 := by
          have : ¬ countE C = 0 := fun h => by have := HCe.out.2 h; rw [hct] at this; cases this
          unfold countE at this ⊢
          split
          · rfl
          · rename_i h; rw [if_neg h] at this; exact absurd rfl this
        have hE : assignE C v = 2 := by rw [HAE.out, hce]; rfl
        have hN : assignN C v = 0 := by rw [HAN.out, hE]; rfl
        rw [hE, hN] at HAk
        rw [hct] at HCt
        clear hct hce hE hN HAE HAN
        go_wp2_with fail
        refine HAk.out.mono ?_
        rintro e w4 ⟨rfl, hb4⟩
        have HB4 := Lib.hid (below_tr HI.out hb4)
        clear hb4
        go_wp2_with fail
        refine (HCt.out w4).mono ?_
        rintro e w5 ⟨rfl, rfl⟩
        go_wp2
        go_roundw
        case rel => exact ⟨k + 1, by omega, by go_num, HB4⟩
        case measure => simp [intOf]; omega
      | true =>
        obtain ⟨n1, n6⟩ := HCn.out hct
        have hce : countE C = 0 := HCe.out.1 hct
        have hE : assignE C v = allM (C ++ [v]) := by rw [HAE.out, if_neg (by simpa using hce)]
        have hmore := HMr.out (by rw [← HN.out]; exact n6)
        rw [hmore] at HF6
        have HF7 := Lib.hid (fun (V : World) (hV : Below wr.heap.size wr V) => show Calls Try.prog 13 #[.slice A n0 c, .int .i64 6] V (fun e w1 => ∃ A6 c6 vs, e = .returned (.slice A6 n c6) ∧ (w1.alloc (.cells #[.slice B vl cb] 35)).ownsRow V.heap.size 35 1 (.slice A6 n c6) n vs ∧ V.heap.size ≤ (w1.alloc (.cells #[.slice B vl cb] 35)).heap.size ∧ ∀ A3 c3 W', W'.ownsRow V.heap.size 35 1 (.slice A3 (n + 1) c3) (n + 1) (vs ++ [.slice B vl cb]) → (w1.alloc (.cells #[.slice B vl cb] 35)).grownBy W' (blk A6) →
            Below V.heap.size V W' ∧ Calls Try.prog 25 #[.slice A3 (n + 1) c3] W' (fun e w' => e = .returned (.int .i64 (assignE C v)) ∧ W' = w')) from by
          refine (HF6.out V (below_tr HBw.out hV)).mono ?_
          rintro e w1 ⟨A6, c6, q, rfl, hq, ho, hb⟩
          have hql : q.length = n := by rw [← vals_length, hq, HN.out]
          obtain ⟨r1, r2, r3⟩ := own_append (r := [⟨v, B, cb⟩]) ho hb ((Below.refl _ w1).alloc (Nat.le_refl _) (.cells #[.slice B vl cb] 35)) (fun p hp => by
            obtain rfl : p = ⟨v, B, cb⟩ := by simpa using hp
            exact HVV.out.below hV)
          rw [hql] at r1 r3
          refine ⟨A6, c6, flatV q, by rw [hql], r1, r2, fun A3 c3 W' h1 h2 => ?_⟩
          have hfl : flatV [(⟨v, B, cb⟩ : Pv)] = [.slice B vl cb] := by rw [HVL.out]; rfl
          rw [hfl] at r3
          obtain ⟨hvs, hbw⟩ := r3 A3 c3 W' h1 h2
          rw [hq] at hvs
          refine ⟨hbw, ?_⟩
          have hvv2 : vals [(⟨v, B, cb⟩ : Pv)] = [v] := rfl
          rw [hvv2] at hvs
          have hal := rAll12_any A3 c3 (C ++ [v]) W' hvs
          rw [List.length_append, ← HN.out] at hal
          rw [hE]
          exact hal)
        rw [hct] at HCt
        by_cases hE0 : assignE C v = 0
        · have hok := allM_ok (hE ▸ hE0 : allM (C ++ [v]) = 0)
          obtain ⟨a1, a2⟩ := Alike.append.1 hok
          have hN : assignN C v = ((nearM C v : Nat) : Int) := by rw [HAN.out, if_pos hE0]
          have HPt := Lib.hid (fun (V : World) (hV : Below wr.heap.size wr V) => show Calls Try.prog 26 #[.slice A1 n c1, .slice (some ⟨V.heap.size, 0, none⟩) 1 1] (V.alloc (.cells #[.slice B vl cb] 35)) (fun e w' => ∃ g o c8, e = .returned (.slice (some ⟨g, o, none⟩) 1 c8) ∧ w'.cell? ⟨g, o, none⟩ = some (.int .i64 ((nearM C v : Nat) : Int)) ∧ Below V.heap.size V w') from by
            have hbV : Below V.heap.size V (V.alloc (.cells #[.slice B vl cb] 35)) := (Below.refl _ V).alloc (Nat.le_refl _) _
            have h1 := ((HC0.out.below hV).below hbV)
            have h2 : Vecs .i32 (V.alloc (.cells #[.slice B vl cb] 35)) (some ⟨V.heap.size, 0, none⟩) 1 [v] := vecs_one (w := V) (by rw [← HVL.out]; exact cell_laid _ _ _ 0) ((HVV.out.below hV).below hbV)
            have := rParts_any A1 (some ⟨V.heap.size, 0, none⟩) c1 1 C [v] _ h1 h2 (by rw [← HN.out]; exact n1) (by rw [← HN.out]; omega) (by simp) a1 a2
            rw [← HN.out] at this
            refine this.mono ?_
            rintro e w' ⟨A8, c8, rfl, hv8, hb8⟩
            obtain ⟨g, o, rfl, _, hc⟩ := hv8.at_ (j := 0) (by simp [intsOf, partsM])
            exact ⟨g, o, c8, rfl, by simpa [intsOf, partsM] using hc, below_tr hbV hb8⟩)
          rw [hN, hE0] at HAk
          rw [hE0] at HF7
          generalize nearM C v = nv at *
          clear hct hce hE hE0 hN HAE HAN hok a1 a2 hmore HF6 n1
          go_wp2_with fail
          refine HAk.out.mono ?_
          rintro e w4 ⟨rfl, hb4⟩
          have HB4 := Lib.hid hb4
          have HF8 := Lib.hid (HF7.out w4 hb4)
          clear hb4
          go_wp2_with fail
          refine (HCt.out w4).mono ?_
          rintro e w5 ⟨rfl, rfl⟩
          go_wp2_with fail
          refine HF8.out.mono ?_
          rintro e w5 ⟨A6, c6, vs, rfl, ho6, hs6, hx6⟩
          have HO6 := Lib.hid ho6
          have HX6 := Lib.hid hx6
          have HR6 := Lib.hid (show Read (w5.alloc (.cells #[.slice B vl cb] 35)) (some ⟨w5.heap.size, 0, none⟩) 1 1 [.slice B vl cb] from Read.one rfl (cell_laid _ _ _ 0))
          clear ho6 hx6
          go_wp2_with (first
            | (at_builtin; refine gapp_at rfl (.tmp 31) (.tmp 33) appV rfl w4.heap.size A6 c6 n vs rfl HO6.out (some ⟨w5.heap.size, 0, none⟩) 1 1 [.slice B vl cb] rfl HR6.out (by omega) hs6 ?_; intro A7 c7 w7 ho hg _; have HA7 := Lib.hid (HX6.out A7 c7 w7 ho hg); clear ho hg)
            | fail)
          refine HA7.out.2.mono ?_
          rintro e w8 ⟨rfl, rfl⟩
          have HB7 := Lib.hid (below_tr HB4.out HA7.out.1)
          have HP8 := Lib.hid (HPt.out w7 HB7.out)
          go_wp2_with fail
          refine HP8.out.mono ?_
          rintro e w9 ⟨g, p, c8, rfl, hc9, hb9⟩
          have HB9 := Lib.hid (below_tr HI.out (below_tr HB7.out hb9))
          clear hb9
          go_wp2
          go_roundw
          case rel => exact ⟨k + 1, by omega, by go_num, HB9⟩
          case measure => simp [intOf]; omega
        · have hN : assignN C v = 0 := by rw [HAN.out, if_neg hE0]
          rw [hN] at HAk
          have t1 : (assignE C v == 0) = false := by simpa using hE0
          have t2 : (assignE C v != 0) = true := by simpa using hE0
          have t3 : (assignE C v != assignE C v) = false := by simp
          generalize assignE C v = E at *
          clear hct hce hE hE0 hN HAE HAN hmore HF6 n1
          go_wp2_with fail
          refine HAk.out.mono ?_
          rintro e w4 ⟨rfl, hb4⟩
          have HB4 := Lib.hid hb4
          have HF8 := Lib.hid (HF7.out w4 hb4)
          clear hb4
          go_wp2_with fail
          refine (HCt.out w4).mono ?_
          rintro e w5 ⟨rfl, rfl⟩
          go_wp2_with fail
          refine HF8.out.mono ?_
          rintro e w5 ⟨A6, c6, vs, rfl, ho6, hs6, hx6⟩
          have HO6 := Lib.hid ho6
          have HX6 := Lib.hid hx6
          have HR6 := Lib.hid (show Read (w5.alloc (.cells #[.slice B vl cb] 35)) (some ⟨w5.heap.size, 0, none⟩) 1 1 [.slice B vl cb] from Read.one rfl (cell_laid _ _ _ 0))
          clear ho6 hx6
          go_wp2_with (first
            | (at_builtin; refine gapp_at rfl (.tmp 31) (.tmp 33) appV rfl w4.heap.size A6 c6 n vs rfl HO6.out (some ⟨w5.heap.size, 0, none⟩) 1 1 [.slice B vl cb] rfl HR6.out (by omega) hs6 ?_; intro A7 c7 w7 ho hg _; have HA7 := Lib.hid (HX6.out A7 c7 w7 ho hg); clear ho hg)
            | fail)
          refine HA7.out.2.mono ?_
          rintro e w8 ⟨rfl, rfl⟩
          have HB7 := Lib.hid (below_tr HI.out (below_tr HB4.out HA7.out.1))
          go_wp2
          go_roundw
          case rel => exact ⟨k + 1, by omega, by go_num, HB7⟩
          case measure => simp [intOf]; omega
    · obtain rfl : k = m := by omega
      go_wp2
      go_ret
      exact ⟨rfl, below_tr HB3.out HI.out⟩

set_option maxRecDepth 100000 in
theorem lifted (os : Os) (started : os.Started) (H : Type) (enc : TypeId × Value → H) :
    ReturnsInHanded {} Try.checked os 5 .any (Rows.meansAssignsSpec.pre6 enc Try.prog Try.f5 Rows.meansAssignsRow.domain false) (Rows.meansAssignsSpec.post enc Try.prog Try.f5 false true false false) := by
  refine returnsInHanded_of_change (C := Try.checked) Try.own started (by kernel_rfl) Try.func5
    (ChangeSpec.witness6 (enc := enc) (C := Try.checked) false ⟨#[], #[.slice none 0 0, .slice none 0 0], []⟩ 8 (by kernel_rfl) (by kernel_rfl) (by kernel_rfl) (by kernel_rfl)) ?_
  intro W base args ds gs before hval0 hW hcnd _
  have hval : ∀ (j : Nat) t v, Try.f5.params[j]? = some t → args[j]? = some v → Value.okWide Try.prog W .any base t v := hval0
  have hW' := hW
  obtain ⟨p, q, hA0, hV, rfl, hfz, hnd⟩ := hW
  have hA : DataW.TrodAll enc Try.prog W 0 (fun _ => true) true Try.f5.params.toList args.toList ds p := hA0
  rw [Try.params5] at hA hval
  have hA' := hA
  obtain ⟨v0, vs0, d0, ds0, p0, q0, hargs, rfl, rfl, h0, r0⟩ := trodAll_cons hA
  obtain ⟨v1, vs1, d1, ds1, p1, q1, rfl, rfl, rfl, h1, r1⟩ := trodAll_cons r0
  obtain ⟨rfl, rfl, rfl⟩ := trodAll_nil r1
  obtain rfl : args = #[v0, v1] := by cases args; simp_all
  obtain ⟨rfl, rfl⟩ := trodVars_none hV
  obtain ⟨A0, len0, c0, rfl⟩ := okWide_slice Try.underlying22 (hval 0 22 v0 rfl rfl)
  obtain ⟨z0, rfl, sl0⟩ := open_vecs h0
  obtain ⟨A1, len1, c1, rfl⟩ := okWide_slice Try.underlying22 (hval 1 22 v1 rfl rfl)
  obtain ⟨z1, rfl, sl1⟩ := open_vecs h1
  clear hA0 hval0
  refine (walk A0 c0 z0 sl0 A1 c1 z1 sl1).mono fun e W' ⟨he, bel⟩ => ?_
  subst he
  exact ⟨_, rfl, _, _, _, [], _, [], hW', trodAll_mk1 (shut_bool Try.underlying4 _), trodAll_below bel _ _ _ _ (by kernel_rfl) hA', rfl, bel.frame _, fun h => by cases h⟩

theorem proved : Rows.MeansAssignsSaid :=
  OpenClaim.holds_of_wide 5 Try.f5 rfl rfl rfl rfl rfl rfl rfl ⟨rfl, rfl, rfl, rfl, rfl⟩ rfl rfl rfl rfl rfl (by kernel_rfl) Try.func5 (by kernel_rfl)
    (of_decide_eq_true (by kernel_rfl)) (by unfold Func.isWrapper; first | (rw [if_pos (by decide +kernel)]; kernel_rfl) | (rw [if_neg (by decide +kernel)]; exact ⟨rfl, rfl⟩))
    (fun os started H enc _ => lifted os started H enc)
#print axioms proved
end Go.Proofs.Ytgakfffkadaeeaa.meansAssigns
