/-
  Proved: the law TopkFirsts, the first ones of a row, returns true for every row of hits and of numbers, and leaves all memory as it was. No condition.
-/
import Derived.Test.YthobkakmjgmpcaaTopRef2
import Derived.Test.YthobkakmjgmpcaaLawFrame
namespace Go.Proofs.Ythobkakmjgmpcaa.topkFirsts
open Go.ChangeShapes Go.WideShapes Go.ChangeAt Go.RowKit
set_option linter.unusedVariables false
set_option linter.unusedSimpArgs false
set_option maxRecDepth 100000

theorem refl_true (X : List HitM) : decide (X = X) = true := by simp
theorem first_yes {k : Nat} {X : List HitM} (h : isKM k = true) (hX : X.length ≤ 300) : mergeE k [X] = 0 ∧ mergeL k [X] = firstM k X := by
  obtain ⟨h1, h2⟩ := merge_ok (ls := [X]) h (by rw [sumL_one]; omega)
  refine ⟨h1, ?_⟩
  rw [h2, Int.toNat_natCast]
  simp

set_option maxHeartbeats 4000000 in
theorem walk {w : World} (A : Option Addr) (c : Nat) (l : List HitM) (hl : Hits w A c l) (A' : Option Addr) (c' : Nat) (ks : List Int) (hk : Vec .i64 w A' c' ks) :
    Calls Try.prog 3 #[.slice A l.length c, .slice A' ks.length c'] w fun e w' => e = .returned (.bool true) ∧ Below w.heap.size w w' := by
  have HK := Lib.hid hk
  obtain ⟨m, hm⟩ : ∃ m, m = ks.length := ⟨_, rfl⟩
  have hrm : m ≤ 9223372036854775807 := by rw [hm]; exact Nat.le_trans hk.room hk.most
  have HM := Lib.hid hm
  have HO := Lib.hid (fun (V : World) (hV : Below w.heap.size w V) => own_lit A c 300 300 rfl l V (hl.below hV) (by omega))
  obtain ⟨X, hX⟩ : ∃ X, X = l.take 300 := ⟨_, rfl⟩
  have HXL := Lib.hid (show X.length ≤ 300 by rw [hX, List.length_take]; omega)
  rw [← hX] at HO
  rw [← hm]
  generalize l.length = n at *
  clear hl hk hm hX
  go_enter Try.func3, Try.ntmps3
  go_wp2_with fail
  refine (wakes_any w).mono ?_
  rintro e w1 ⟨rfl, hb1⟩
  have HB1 := Lib.hid hb1
  clear hb1
  go_wp2
  go_loopw [5, 6, 7, 8, 9, 10, 15] (fun _ _ _ _ _ _ i wr => ∃ k : Nat, k ≤ m ∧ k ≤ 8 ∧ i = .int .i64 k ∧ Hid (Below w.heap.size w wr)) (fun _ _ _ _ _ _ i _ => m - (intOf i).toNat)
  case atStart => exact ⟨0, Nat.zero_le _, Nat.zero_le _, rfl, HB1⟩
  case round =>
    obtain ⟨k, hk, hk8, rfl, HB⟩ := hrel
    by_cases hkm : k < m
    · obtain ⟨b, o, rfl, hb, hc⟩ := HK.out.at_ (j := k) (by rw [← HM.out]; exact hkm)
      have e1 := (HB.out.cell (p := ⟨b, o + k, none⟩) hb).trans hc
      generalize ks.getD k 0 = x at *
      have k0 : (0 : Int) ≤ k := by omega
      have km : (k : Int) < m := by omega
      by_cases h8 : k = 8
      · subst h8
        go_wp2
        go_ret
        exact ⟨rfl, HB.out⟩
      · have t8 : ((k : Int) == 8) = false := by simp; omega
        have t81 : (k == 8) = false := by simp; omega
        have hk7 : k < 8 := by omega
        clear hc h8
        go_wp2_with fail
        refine (HO.out wr HB.out).mono ?_
        rintro e w2 ⟨v, rfl, C2, d2, rfl, hr2, hb2⟩
        have HX2 := Lib.hid (Hits.ofRow hr2)
        have HB2 := Lib.hid (HB.out.trans (hb2.mono HB.out.size))
        have HF := Lib.hid (first_any x C2 d2 X w2 (Hits.ofRow hr2) (by have := HXL.out; omega))
        clear hr2 hb2 e1
        cases hx : isKM x with
        | false =>
          obtain ⟨h1, h2⟩ := merge_bad (ls := [X]) hx
          rw [h1, h2] at HF
          have hx2 : ¬ (1 ≤ x ∧ x ≤ 16) := fun e => by rw [(isK_iff x).2 e] at hx; cases hx
          clear hx h1 h2
          by_cases h1 : 1 ≤ x
          · have h2 : ¬ x ≤ 16 := fun e => hx2 ⟨h1, e⟩
            have t1 : decide (x < 1) = false := by simp; omega
            have t2 : decide (16 < x) = true := by simp; omega
            clear hx2
            go_wp2_with fail
            refine HF.out.mono ?_
            rintro e w3 ⟨B3, c3, rfl, hr3, hb3⟩
            have HB3 := Lib.hid (HB2.out.trans (hb3.mono HB2.out.size))
            clear hr3 hb3
            go_wp2
            go_roundw
            case rel => exact ⟨k + 1, by omega, by omega, by go_num, HB3⟩
            case measure => simp [intOf]; omega
          · have t1 : decide (x < 1) = true := by simp; omega
            clear hx2
            go_wp2_with fail
            refine HF.out.mono ?_
            rintro e w3 ⟨B3, c3, rfl, hr3, hb3⟩
            have HB3 := Lib.hid (HB2.out.trans (hb3.mono HB2.out.size))
            clear hr3 hb3
            go_wp2
            go_roundw
            case rel => exact ⟨k + 1, by omega, by omega, by go_num, HB3⟩
            case measure => simp [intOf]; omega
        | true =>
          obtain ⟨h1, h2⟩ := (isK_iff x).1 hx
          obtain ⟨kk, rfl⟩ : ∃ kk : Nat, x = kk := ⟨x.toNat, by omega⟩
          have t1 : decide ((kk : Int) < 1) = false := by simp; omega
          have t2 : decide (16 < (kk : Int)) = false := by simp; omega
          obtain ⟨e1, e2⟩ := first_yes hx HXL.out
          rw [e1, e2] at HF
          have HRF := Lib.hid (fun (V : World) (B : Option Addr) (d : Nat) (hH : Hits V B d X) => rFirst_any B d kk X V hH (by have := HXL.out; omega) (by omega))
          have HRS := Lib.hid (fun (V : World) (B B' : Option Addr) (d d' : Nat) (Y : List HitM) (hH : Hits V B d Y) (hH' : Hits V B' d' Y) => rSame_any B B' d d' Y Y V hH hH')
          simp only [refl_true] at HRS
          generalize firstM kk X = Y at *
          clear hx e1 e2 h1 h2
          go_wp2_with fail
          refine HF.out.mono ?_
          rintro e w3 ⟨B3, c3, rfl, hr3, hb3⟩
          have HY3 := Lib.hid hr3
          have HB3 := Lib.hid hb3
          clear hr3 hb3
          go_wp2_with fail
          refine (HO.out w3 (HB2.out.trans (HB3.out.mono HB2.out.size))).mono ?_
          rintro e w4 ⟨v, rfl, C4, d4, rfl, hr4, hb4⟩
          have HX4 := Lib.hid (HRF.out w4 C4 d4 (Hits.ofRow hr4))
          have HB4 := Lib.hid hb4
          clear hr4 hb4
          go_wp2_with fail
          refine HX4.out.mono ?_
          rintro e w5 ⟨v, rfl, C5, d5, rfl, hr5, hb5⟩
          have hb35 := HB4.out.trans (hb5.mono HB4.out.size)
          have HB5 := Lib.hid hb35
          have HS5 := Lib.hid (HRS.out w5 B3 C5 c3 d5 Y ((Hits.ofRow HY3.out).below hb35) (Hits.ofRow hr5))
          clear hr5 hb5 hb35
          go_wp2_with fail
          refine HS5.out.mono ?_
          rintro e w6 ⟨rfl, hb6⟩
          have HB6 := Lib.hid (HB5.out.trans (hb6.mono HB5.out.size))
          have HB26 := Lib.hid (HB3.out.trans (HB6.out.mono HB3.out.size))
          clear hb6
          go_wp2_with fail
          refine (HO.out w6 (HB2.out.trans (HB26.out.mono HB2.out.size))).mono ?_
          rintro e w7 ⟨v, rfl, C7, d7, rfl, hr7, hb7⟩
          have HB7 := Lib.hid (HB6.out.trans (hb7.mono HB6.out.size))
          have HB27 := Lib.hid (HB26.out.trans (hb7.mono HB26.out.size))
          have HS7 := Lib.hid (HRS.out w7 C2 C7 d2 d7 X (HX2.out.below HB27.out) (Hits.ofRow hr7))
          clear hr7 hb7
          go_wp2_with fail
          refine HS7.out.mono ?_
          rintro e w8 ⟨rfl, hb8⟩
          have HB8 := Lib.hid (HB7.out.trans (hb8.mono HB7.out.size))
          have HB28 := Lib.hid (HB27.out.trans (hb8.mono HB27.out.size))
          clear hb8
          have HR8 := Lib.hid (show ∃ xs, w8.ownsRow w2.heap.size 32 2 (.slice B3 Y.length c3) Y.length xs from ⟨_, row_turn HY3.out (S := fun _ => False) (Turn.of_below HB8.out) (by simp)⟩)
          have hyl := (Hits.ofRow HY3.out).room
          have hym := (Hits.ofRow HY3.out).most
          generalize Y.length = q at *
          go_wp2
          go_loopw [10, 63] (fun _ i ws => ∃ j : Nat, j ≤ q ∧ i = .int .i64 j ∧ Hid ((∃ xs, ws.ownsRow w2.heap.size 32 2 (.slice B3 q c3) q xs) ∧ Below w2.heap.size w2 ws)) (fun _ i _ => q - (intOf i).toNat)
          case atStart => exact ⟨0, Nat.zero_le _, rfl, Lib.hid ⟨HR8.out, HB28.out⟩⟩
          case round =>
            obtain ⟨j, hj, rfl, HJ⟩ := hrel
            by_cases hjq : j < q
            · obtain ⟨⟨xs, hr⟩, hbw⟩ := HJ.out
              obtain ⟨g, rfl, hg1, hg2⟩ := row_form hr (by omega)
              have hxs := hr.1
              have u1 := hr.cellAt (j * 2) (by omega)
              rw [List.getElem?_eq_getElem (by omega)] at u1
              have f1 := hr.frozenAt (j * 2)
              obtain ⟨s1, s2⟩ := hr.stored (j * 2) (.int .u64 77)
              have HS := Lib.hid (show (∃ xs, (wr.setCell ⟨g, j * 2, none⟩ (.int .u64 77)).ownsRow w2.heap.size 32 2 (.slice (some ⟨g, 0, none⟩) q c3) q xs) ∧ Below w2.heap.size w2 (wr.setCell ⟨g, j * 2, none⟩ (.int .u64 77)) from ⟨⟨_, s1⟩, hbw.trans (grown_below s2 hg1 hbw.size)⟩)
              generalize xs[j * 2] = u at *
              have j0 : (0 : Int) ≤ j := by omega
              have jq : (j : Int) < q := by omega
              clear hr hbw s1 s2 hg1 hg2 hxs
              go_wp2
              go_roundw
              case rel => exact ⟨j + 1, by omega, by go_num, HS⟩
              case measure => simp [intOf]; omega
            · obtain rfl : j = q := by omega
              have HB9 := HJ.out.2
              have HO9 := Lib.hid (HO.out wr (HB2.out.trans (HB9.mono HB2.out.size)))
              clear HB9
              go_wp2_with fail
              refine HO9.out.mono ?_
              rintro e w9 ⟨v, rfl, C9, d9, rfl, hr9, hb9⟩
              have HB29 := Lib.hid (HJ.out.2.trans (hb9.mono HJ.out.2.size))
              have HS9 := Lib.hid (HRS.out w9 C2 C9 d2 d9 X (HX2.out.below HB29.out) (Hits.ofRow hr9))
              clear hr9 hb9
              go_wp2_with fail
              refine HS9.out.mono ?_
              rintro e w10 ⟨rfl, hb10⟩
              have HB10 := Lib.hid (HB2.out.trans ((HB29.out.trans (hb10.mono HB29.out.size)).mono HB2.out.size))
              clear hb10
              go_wp2
              go_roundw
              case rel => exact ⟨k + 1, by omega, by omega, by go_num, HB10⟩
              case measure => simp [intOf]; omega
    · obtain rfl : k = m := by omega
      go_wp2
      go_ret
      exact ⟨rfl, HB.out⟩

set_option maxRecDepth 100000 in
theorem lifted (os : Os) (started : os.Started) (H : Type) (enc : TypeId × Value → H) :
    ReturnsInHanded {} Try.checked os 3 .any (Rows.topkFirstsSpec.pre6 enc Try.prog Try.f3 Rows.topkFirstsRow.domain false) (Rows.topkFirstsSpec.post enc Try.prog Try.f3 false true false false) := by
  refine returnsInHanded_of_change (C := Try.checked) Try.own started (by kernel_rfl) Try.func3
    (ChangeSpec.witness6 (enc := enc) (C := Try.checked) false ⟨#[], #[.slice none 0 0, .slice none 0 0], []⟩ 8 (by kernel_rfl) (by kernel_rfl) (by kernel_rfl) (by kernel_rfl)) ?_
  intro W base args ds gs before hval0 hW hcnd _
  have hval : ∀ (j : Nat) t v, Try.f3.params[j]? = some t → args[j]? = some v → Value.okWide Try.prog W .any base t v := hval0
  have hW' := hW
  obtain ⟨p, q, hA0, hV, rfl, hfz, hnd⟩ := hW
  have hA : DataW.TrodAll enc Try.prog W 0 (fun _ => true) true Try.f3.params.toList args.toList ds p := hA0
  rw [Try.params3] at hA hval
  have hA' := hA
  obtain ⟨v0, vs0, d0, ds0, p0, q0, hargs, rfl, rfl, h0, r0⟩ := trodAll_cons hA
  obtain ⟨v1, vs1, d1, ds1, p1, q1, rfl, rfl, rfl, h1, r1⟩ := trodAll_cons r0
  obtain ⟨rfl, rfl, rfl⟩ := trodAll_nil r1
  obtain rfl : args = #[v0, v1] := by cases args; simp_all
  obtain ⟨rfl, rfl⟩ := trodVars_none hV
  obtain ⟨A0, len0, c0, rfl⟩ := okWide_slice Try.underlying22 (hval 0 22 v0 rfl rfl)
  obtain ⟨z0, rfl, sl0⟩ := open_hits h0
  obtain ⟨A1, len1, c1, rfl⟩ := okWide_slice Try.underlying23 (hval 1 23 v1 rfl rfl)
  obtain ⟨z1, rfl, sl1⟩ := open_nums h1
  clear hA0 hval0
  refine (walk A0 c0 z0 sl0 A1 c1 z1 sl1).mono fun e W' ⟨he, bel⟩ => ?_
  subst he
  exact ⟨_, rfl, _, _, _, [], _, [], hW', trodAll_mk1 (shut_bool Try.underlying4 _), trodAll_below bel _ _ _ _ (by kernel_rfl) hA', rfl, bel.frame _, fun h => by cases h⟩

theorem proved : Rows.TopkFirstsSaid :=
  OpenClaim.holds_of_wide 3 Try.f3 rfl rfl rfl rfl rfl rfl rfl ⟨rfl, rfl, rfl, rfl, rfl⟩ rfl rfl rfl rfl rfl (by kernel_rfl) Try.func3 (by kernel_rfl)
    (of_decide_eq_true (by kernel_rfl)) (by unfold Func.isWrapper; first | (rw [if_pos (by decide +kernel)]; kernel_rfl) | (rw [if_neg (by decide +kernel)]; exact ⟨rfl, rfl⟩))
    (fun os started H enc _ => lifted os started H enc)
#print axioms proved
end Go.Proofs.Ythobkakmjgmpcaa.topkFirsts
