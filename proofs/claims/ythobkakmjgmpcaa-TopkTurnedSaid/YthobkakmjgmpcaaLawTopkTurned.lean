/-
  Proved: the law TopkTurned, in whatever order hits stand the first ones are the same, returns true for every number, row of hits and number, and leaves all memory as it was. No condition.
-/
import Derived.Test.YthobkakmjgmpcaaTopRef2
import Derived.Test.YthobkakmjgmpcaaTopNum
import Derived.Test.YthobkakmjgmpcaaLawFrame
namespace Go.Proofs.Ythobkakmjgmpcaa.topkTurned
open Go.ChangeShapes Go.WideShapes Go.ChangeAt Go.RowKit
set_option linter.unusedVariables false
set_option linter.unusedSimpArgs false
set_option maxRecDepth 100000

set_option maxHeartbeats 4000000 in
theorem walk {w : World} (k : Int) (wk : (Lit.int .i64 k).wf = true) (A : Option Addr) (c : Nat) (l : List HitM) (hl : Hits w A c l) (by_ : Int) (wb : (Lit.int .i64 by_).wf = true) :
    Calls Try.prog 10 #[.int .i64 k, .slice A l.length c, .int .i64 by_] w fun e w' => e = .returned (.bool true) ∧ Below w.heap.size w w' := by
  have HO := Lib.hid (fun (V : World) (hV : Below w.heap.size w V) => own_lit A c 200 200 rfl l V (hl.below hV) (by omega))
  obtain ⟨X, hX⟩ : ∃ X, X = l.take 200 := ⟨_, rfl⟩
  have HXL := Lib.hid (show X.length ≤ 200 by rw [hX, List.length_take]; omega)
  rw [← hX] at HO
  obtain ⟨kk, hk1, hk16, hkk⟩ := kmod k
  have HIK := Lib.hid (show isKM (kk : Int) = true from (isK_iff _).2 ⟨by omega, by omega⟩)
  generalize l.length = n at *
  clear hl hX wk
  go_enter Try.func10, Try.ntmps10
  go_wp2_with fail
  refine (wakes_any w).mono ?_
  rintro e w1 ⟨rfl, hb1⟩
  have HB1 := Lib.hid hb1
  clear hb1
  go_wp2_with fail
  refine (HO.out w1 HB1.out).mono ?_
  rintro e w2 ⟨v, rfl, C2, d2, rfl, hr2, hb2⟩
  have HB2 := Lib.hid (HB1.out.trans (hb2.mono HB1.out.size))
  have hxl := HXL.out
  have hroom := (Hits.ofRow hr2).room
  have hmost := (Hits.ofRow hr2).most
  obtain ⟨q, hq⟩ : ∃ q, X.length = q := ⟨_, rfl⟩
  have HQ := Lib.hid hq
  rw [hq] at hr2 hxl hroom ⊢
  by_cases h0 : q = 0
  · subst h0
    clear hr2 hb2 hq
    go_wp2
    go_ret
    exact ⟨rfl, HB2.out⟩
  · have t1 : ((q : Int) == 0) = false := by simp; omega
    have t2 : (q == 0) = false := by simp; omega
    have hq0 : 0 < q := by omega
    obtain ⟨g, rfl, hg1, hg2⟩ := row_form hr2 (by omega)
    obtain ⟨t, ht, hte⟩ := umod by_ q hq0 (by omega)
    have hH2 := Hits.ofRow (l := X) (w := w2) (by rw [hq]; exact hr2)
    have HH2 := Lib.hid hH2
    have HR2 := Lib.hid hr2
    have HD2 := Lib.hid (hH2.drop (t := t))
    have hdl : (X.drop t).length = q - t := by rw [List.length_drop, hq]
    have htl : (X.take t).length = t := by rw [List.length_take, hq]; omega
    have HTK := Lib.hid (hH2.take (n := t) (c' := d2) (by omega) hmost)
    have HTL := Lib.hid htl
    have HOD := Lib.hid (fun (V : World) (hV : Below w2.heap.size w2 V) => own_lit (some ⟨g, t * 2, none⟩) (d2 - t) q q rfl (X.drop t) V (HD2.out.below hV).at0 (by omega))
    rw [hdl, List.take_of_length_le (show (X.drop t).length ≤ q by omega)] at HOD
    have HDL := Lib.hid hdl
    have t0 : (0 : Int) ≤ t := by omega
    have tq : (t : Int) ≤ q := by omega
    have tq2 : (t : Int) < q := by omega
    have tc : (t : Int) ≤ d2 := by omega
    have hdt : ¬ d2 = t := by omega
    have qc : (q : Int) ≤ d2 := by omega
    clear hr2 hb2 hdl htl hH2
    go_wp2
    have HB0 := Lib.hid (show Below w2.heap.size w2 w2.drew from below_drew (Below.refl _ _))
    go_region_held3 (fun _ => True) (first | exact trivial) (first
      | (go_at_call 12; (with_reducible refine (HOD.out _ HB0.out).mono ?_); rintro e w3 ⟨v, rfl, C3, d3, rfl, hr3, hb3⟩; rw [HDL.out] at hr3; rw [HDL.out]; have HR3 := Lib.hid hr3; have HB3 := Lib.hid (HB0.out.trans hb3); have HT3 := Lib.hid (HTK.out.below HB3.out); have hlo3 : w2.drew.heap.size ≤ w3.heap.size := hb3.size; clear hr3 hb3)
      | (refine step_happ (by rfl) _ _ 22 Try.underlying22 (by rfl) w2.drew.heap.size C3 d3 (q - t) (flat (X.drop t)) (by rfl) HR3.out (some ⟨g, 0, none⟩) d2 t (X.take t) (by rfl) HTL.out HT3.out (by omega) hlo3 ?_; intro A4 c4 w4 hown hgrow hloc hnil; have HR4 := Lib.hid hown; have HG4 := Lib.hid hgrow; clear hown hgrow hloc hnil))
    have hqt : q - t + t = q := by omega
    rw [hqt]
    rw [hqt, ← flat_append] at HR4
    obtain ⟨T, hT⟩ : ∃ T, T = X.drop t ++ X.take t := ⟨_, rfl⟩
    have hTX : T.Perm X := by
      rw [hT]
      exact List.perm_append_comm.trans (by rw [List.take_append_drop])
    rw [← hT] at HR4
    have HTX := Lib.hid hTX
    have hTl : T.length = q := by rw [hTX.length_eq, HQ.out]
    have HTLN := Lib.hid hTl
    have hb4 : Below w2.heap.size w2 w4 := HB3.out.trans ⟨HG4.out.os, HG4.out.tape, HG4.out.output, HG4.out.size, fun i hi => HG4.out.block i (Nat.lt_of_lt_of_le hi HB3.out.size) (fun e => by
      have := (HR3.out.lt i (by rw [own_blk]; exact e.symm)).1
      have h9 : w2.drew.heap.size = w2.heap.size := rfl
      omega)⟩
    have HB4 := Lib.hid hb4
    have HT4 := Lib.hid (Hits.ofRow (l := T) (w := w4) (by rw [hTl]; exact HR4.out))
    have HOX := Lib.hid (own_lit (some ⟨g, 0, none⟩) d2 q q rfl X w4 (HH2.out.below hb4) (by omega))
    rw [HQ.out, List.take_of_length_le (show X.length ≤ q by rw [HQ.out]; exact Nat.le_refl _)] at HOX
    clear hqt hT hTX hTl hb4
    go_wp2_with fail
    refine HOX.out.mono ?_
    rintro e w5 ⟨v, rfl, C5, d5, rfl, hr5, hb5⟩
    rw [HQ.out] at hr5 ⊢
    obtain ⟨g5, rfl, hg5, hg52⟩ := row_form hr5 (by omega)
    have HL0 := Lib.hid (show w5.ownsRow w4.heap.size 32 2 (.slice (some ⟨g5, 0, none⟩) q d5) q (flat (X.reverse.take 0 ++ X.drop 0)) ∧ Below w4.heap.size w4 w5 from ⟨by simpa using hr5, hb5⟩)
    clear hr5 hb5
    go_wp2
    go_loopw [10, 52] (fun _ i wr => ∃ j : Nat, j ≤ q ∧ i = .int .i64 j ∧ Hid (wr.ownsRow w4.heap.size 32 2 (.slice (some ⟨g5, 0, none⟩) q d5) q (flat (X.reverse.take j ++ X.drop j)) ∧ Below w4.heap.size w4 wr)) (fun _ i _ => q - (intOf i).toNat)
    case atStart => exact ⟨0, Nat.zero_le _, rfl, HL0⟩
    case round =>
      obtain ⟨j, hj, rfl, HJ⟩ := hrel
      by_cases hjq : j < q
      · obtain ⟨r, hr⟩ : ∃ r, j + r + 1 = q := ⟨q - 1 - j, by omega⟩
        have hrow := HJ.out.1
        have hlj : (X.reverse.take j ++ X.drop j).length = q := by simp; have := HQ.out; omega
        have hrow2 : wr.ownsRow w4.heap.size 32 2 (.slice (some ⟨g5, 0, none⟩) (X.reverse.take j ++ X.drop j).length d5) (X.reverse.take j ++ X.drop j).length (flat (X.reverse.take j ++ X.drop j)) := by rw [hlj]; exact hrow
        have hst := row_set hrow2 j (X.getD r z2)
        rw [rev_step X j r (by rw [HQ.out]; exact hr)] at hst
        have hlj2 : (X.reverse.take (j + 1) ++ X.drop (j + 1)).length = q := by simp; have := HQ.out; omega
        rw [hlj2] at hst
        have hgj := flat_get (X.reverse.take j ++ X.drop j) j (by omega)
        have u1 := (hrow2.cellAt (j * 2) (by omega)).trans hgj.1
        have u2 := (hrow2.cellAt (j * 2 + 1) (by omega)).trans hgj.2
        have f1 := hrow2.frozenAt (j * 2)
        have f2 := hrow2.frozenAt (j * 2 + 1)
        obtain ⟨b9, o9, he, _, x1, x2⟩ := (HH2.out.below (HB4.out.trans (HJ.out.2.mono HB4.out.size))).at_ (j := r) (by rw [HQ.out]; omega)
        injection he with he
        injection he with he1 he2
        subst he1
        subst he2
        rw [Nat.zero_add] at x1 x2
        have HS := Lib.hid (And.intro hst.1 (HJ.out.2.trans (grown_below hst.2 hg5 HJ.out.2.size)))
        generalize X.getD r z2 = x at *
        generalize (X.reverse.take j ++ X.drop j).getD j z2 = y at *
        obtain ⟨xa, xb⟩ := x
        obtain ⟨ya, yb⟩ := y
        dsimp only at *
        have hix : (q : Int) - 1 - (j : Int) = (r : Int) := by omega
        have hwr : IntKind.i64.wrap (r : Int) = r := i64_fit (by omega)
        have j0 : (0 : Int) ≤ j := by omega
        have jq : (j : Int) < q := by omega
        have r0 : (0 : Int) ≤ r := by omega
        have rq : (r : Int) < q := by omega
        clear hrow hrow2 hst hgj hlj hlj2 hr
        go_wp2
        go_roundw
        case rel => exact ⟨j + 1, by omega, by go_num, HS⟩
        case measure => simp [intOf]; omega
      · obtain rfl : j = q := by omega
        have hRV : X.reverse.take j ++ X.drop j = X.reverse := by
          rw [List.drop_of_length_le (by rw [HQ.out]; exact Nat.le_refl _), List.take_of_length_le (by simp [HQ.out]), List.append_nil]
        have hbr := HJ.out.2
        have HBR := Lib.hid hbr
        have hrr := HJ.out.1
        rw [hRV] at hrr
        have hlr : X.reverse.length = j := by simp [HQ.out]
        have HR9 := Lib.hid (Hits.ofRow (l := X.reverse) (w := wr) (by rw [hlr]; exact hrr))
        have HT9 := Lib.hid (HT4.out.below hbr)
        have HX9 := Lib.hid (HH2.out.below (HB4.out.trans (hbr.mono HB4.out.size)))
        have HK := Lib.hid (fun (V : World) (B : Option Addr) (d : Nat) (Y : List HitM) (hY : Hits V B d Y) (hl : Y.length = j) => first_k HIK.out B d Y V hY (by omega))
        have HF1 := Lib.hid (HK.out wr (some ⟨g, 0, none⟩) d2 X HX9.out HQ.out)
        have HF2 := Lib.hid (fun (V : World) (hV : Below wr.heap.size wr V) => HK.out V A4 c4 T (HT9.out.below hV) HTLN.out)
        have HF3 := Lib.hid (fun (V : World) (hV : Below wr.heap.size wr V) => HK.out V (some ⟨g5, 0, none⟩) d5 X.reverse (HR9.out.below hV) hlr)
        rw [HQ.out] at HF1
        rw [HTLN.out, first_perm kk HTX.out] at HF2
        rw [hlr, first_perm kk (List.reverse_perm X)] at HF3
        have HWB := Lib.hid (HB2.out.trans ((HB4.out.trans (hbr.mono HB4.out.size)).mono HB2.out.size))
        generalize firstM kk X = Y at *
        clear hRV hbr hrr hlr
        go_wp2_with fail
        refine HF1.out.mono ?_
        rintro e w7 ⟨B7, c7, rfl, hr7, hb7⟩
        have HB7 := Lib.hid hb7
        have HY7 := Lib.hid (Hits.ofRow hr7)
        clear hr7 hb7
        go_wp2_with fail
        refine (HF2.out w7 HB7.out).mono ?_
        rintro e w8 ⟨B8, c8, rfl, hr8, hb8⟩
        have HB8 := Lib.hid (HB7.out.trans (hb8.mono HB7.out.size))
        have HY8 := Lib.hid (And.intro (HY7.out.below hb8) (Hits.ofRow hr8))
        clear hr8 hb8
        go_wp2_with fail
        refine (HF3.out w8 HB8.out).mono ?_
        rintro e w9 ⟨B9, c9, rfl, hr9, hb9⟩
        have HB9 := Lib.hid (HB8.out.trans (hb9.mono HB8.out.size))
        have HY9 := Lib.hid (And.intro (HY8.out.1.below hb9) (And.intro (HY8.out.2.below hb9) (Hits.ofRow hr9)))
        have HS9 := Lib.hid (same_yes B7 B8 c7 c8 Y w9 HY9.out.1 HY9.out.2.1)
        clear hr9 hb9
        go_wp2_with fail
        refine HS9.out.mono ?_
        rintro e w10 ⟨rfl, hb10⟩
        have HB10 := Lib.hid (HB9.out.trans (hb10.mono HB9.out.size))
        have HS10 := Lib.hid (same_yes B7 B9 c7 c9 Y w10 (HY9.out.1.below hb10) (HY9.out.2.2.below hb10))
        clear hb10
        go_wp2_with fail
        refine HS10.out.mono ?_
        rintro e w11 ⟨rfl, hb11⟩
        have HB11 := Lib.hid (HWB.out.trans ((HB10.out.trans (hb11.mono HB10.out.size)).mono HWB.out.size))
        clear hb11
        go_wp2
        go_ret
        exact ⟨rfl, HB11.out⟩

set_option maxRecDepth 100000 in
theorem lifted (os : Os) (started : os.Started) (H : Type) (enc : TypeId × Value → H) :
    ReturnsInHanded {} Try.checked os 10 .any (Rows.topkTurnedSpec.pre6 enc Try.prog Try.f10 Rows.topkTurnedRow.domain false) (Rows.topkTurnedSpec.post enc Try.prog Try.f10 false true false false) := by
  refine returnsInHanded_of_change (C := Try.checked) Try.own started (by kernel_rfl) Try.func10
    (ChangeSpec.witness6 (enc := enc) (C := Try.checked) false ⟨#[], #[.int .i64 0, .slice none 0 0, .int .i64 0], []⟩ 8 (by kernel_rfl) (by kernel_rfl) (by kernel_rfl) (by kernel_rfl)) ?_
  intro W base args ds gs before hval0 hW hcnd _
  have hval : ∀ (j : Nat) t v, Try.f10.params[j]? = some t → args[j]? = some v → Value.okWide Try.prog W .any base t v := hval0
  have hW' := hW
  obtain ⟨p, q, hA0, hV, rfl, hfz, hnd⟩ := hW
  have hA : DataW.TrodAll enc Try.prog W 0 (fun _ => true) true Try.f10.params.toList args.toList ds p := hA0
  rw [Try.params10] at hA hval
  have hA' := hA
  obtain ⟨v0, vs0, d0, ds0, p0, q0, hargs, rfl, rfl, h0, r0⟩ := trodAll_cons hA
  obtain ⟨v1, vs1, d1, ds1, p1, q1, rfl, rfl, rfl, h1, r1⟩ := trodAll_cons r0
  obtain ⟨v2, vs2, d2, ds2, p2, q2, rfl, rfl, rfl, h2, r2⟩ := trodAll_cons r1
  obtain ⟨rfl, rfl, rfl⟩ := trodAll_nil r2
  obtain rfl : args = #[v0, v1, v2] := by cases args; simp_all
  obtain ⟨rfl, rfl⟩ := trodVars_none hV
  obtain ⟨a0, rfl, w0⟩ := open_num (hval 0 3 v0 rfl rfl) h0
  obtain ⟨A1, len1, c1, rfl⟩ := okWide_slice Try.underlying22 (hval 1 22 v1 rfl rfl)
  obtain ⟨z1, rfl, sl1⟩ := open_hits h1
  obtain ⟨a2, rfl, w2⟩ := open_num (hval 2 3 v2 rfl rfl) h2
  clear hA0 hval0
  refine (walk a0 w0 A1 c1 z1 sl1 a2 w2).mono fun e W' ⟨he, bel⟩ => ?_
  subst he
  exact ⟨_, rfl, _, _, _, [], _, [], hW', trodAll_mk1 (shut_bool Try.underlying4 _), trodAll_below bel _ _ _ _ (by kernel_rfl) hA', rfl, bel.frame _, fun h => by cases h⟩

theorem proved : Rows.TopkTurnedSaid :=
  OpenClaim.holds_of_wide 10 Try.f10 rfl rfl rfl rfl rfl rfl rfl ⟨rfl, rfl, rfl, rfl, rfl⟩ rfl rfl rfl rfl rfl (by kernel_rfl) Try.func10 (by kernel_rfl)
    (of_decide_eq_true (by kernel_rfl)) (by unfold Func.isWrapper; first | (rw [if_pos (by decide +kernel)]; kernel_rfl) | (rw [if_neg (by decide +kernel)]; exact ⟨rfl, rfl⟩))
    (fun os started H enc _ => lifted os started H enc)
#print axioms proved
end Go.Proofs.Ythobkakmjgmpcaa.topkTurned
