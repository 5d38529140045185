/-
  The statement MaskSplit: whatever is below a number, and what is not, are all; for every mask and number, with no condition.
-/
import Derived.Test.YtkfgiedpnmpfgaaLawFrame
import Derived.Deep.Cut
namespace Go.Proofs.Ytkfgiedpnmpfgaa.maskSplit
open Go.ChangeShapes Go.WideShapes Go.ChangeAt Go.RowKit Go.Deep
set_option linter.unusedVariables false
set_option linter.unusedSimpArgs false
set_option maxRecDepth 100000

set_option maxHeartbeats 8000000 in
theorem walk {w : World} (m : Mk) (H : Fine m) (a : Int) (ha : -9223372036854775808 ≤ a ∧ a ≤ 9223372036854775807) :
    Calls Try.prog 7 #[mv m, .int .i64 a] w fun e w' => e = .returned (.bool true) ∧ Below w.heap.size w w' := by
  obtain ⟨k, hk⟩ : ∃ k : Nat, (k : Int) = a % 18446744073709551616 % 97 := ⟨(a % 18446744073709551616 % 97).toNat, by omega⟩
  have hk97 : k < 97 := by omega
  obtain ⟨Lo, hLo⟩ : ∃ M, M = rangeM 0 k := ⟨_, rfl⟩
  obtain ⟨Hi, hHi⟩ : ∃ M, M = rangeM k 96 := ⟨_, rfl⟩
  obtain ⟨All, hAll⟩ : ∃ M, M = mk (fun n => true) := ⟨_, rfl⟩
  obtain ⟨ML, hML⟩ : ∃ M, M = mk (fun n => has m n && decide ((n : Int) < k)) := ⟨_, rfl⟩
  obtain ⟨MH, hMH⟩ : ∃ M, M = mk (fun n => has m n && decide ((k : Int) ≤ n)) := ⟨_, rfl⟩
  obtain ⟨X, hX⟩ : ∃ M, M = mk (has m) := ⟨_, rfl⟩
  have fLo : Fine Lo := by rw [hLo]; exact mk_fine _
  have fHi : Fine Hi := by rw [hHi]; exact mk_fine _
  have fML : Fine ML := by rw [hML]; exact mk_fine _
  have fMH : Fine MH := by rw [hMH]; exact mk_fine _
  have HRg1 := Lib.hid (fun W => show Calls Try.prog 18 #[.int .i64 0, .int .i64 k] W (fun e w' => e = .returned (.tuple #[mv Lo, .int .i64 0]) ∧ Below W.heap.size W w') from by
    have := range_any 0 k W (by omega) (by omega)
    rw [show rangeE 0 k = 0 from by unfold rangeE; rw [if_pos (by omega)], if_pos rfl, ← hLo] at this
    exact this)
  have HRg2 := Lib.hid (fun W => show Calls Try.prog 18 #[.int .i64 k, .int .i64 96] W (fun e w' => e = .returned (.tuple #[mv Hi, .int .i64 0]) ∧ Below W.heap.size W w') from by
    have := range_any k 96 W (by omega) (by omega)
    rw [show rangeE k 96 = 0 from by unfold rangeE; rw [if_pos (by omega)], if_pos rfl, ← hHi] at this
    exact this)
  have and2 : ∀ (p q : Mk) (r : Mk), Fine p → Fine q → mk (fun n => has p n && has q n) = r → ∀ (W : World) (A : Option Addr), Ms W A 2 [p, q] → Calls Try.prog 19 #[.slice A 2 2] W (fun e w' => e = .returned (mv r) ∧ Below W.heap.size W w') := by
    intro p q r hp hq hr W A hA
    have := and_any A 2 [p, q] W hA
    unfold GivesM at this
    rw [show mk (fun n => [p, q].all fun m => has m n) = r from by rw [← hr]; exact mk_congr (fun k hk => by simp)] at this
    exact this
  have or2 : ∀ (p q : Mk) (r : Mk), Fine p → Fine q → mk (fun n => has p n || has q n) = r → ∀ (W : World) (A : Option Addr), Ms W A 2 [p, q] → Calls Try.prog 21 #[.slice A 2 2] W (fun e w' => e = .returned (mv r) ∧ Below W.heap.size W w') := by
    intro p q r hp hq hr W A hA
    have := or_any A 2 [p, q] W hA
    unfold GivesM at this
    rw [show mk (fun n => [p, q].any fun m => has m n) = r from by rw [← hr]; exact mk_congr (fun k hk => by simp)] at this
    exact this
  have hl : ∀ n, n < 96 → has Lo n = decide ((n : Int) < k) := fun n hn => by rw [hLo, rangeM, has_mk, Bool.eq_iff_iff]; simp [hn]
  have hh : ∀ n, n < 96 → has Hi n = decide ((k : Int) ≤ n) := fun n hn => by rw [hHi, rangeM, has_mk, Bool.eq_iff_iff]; simp [hn]; omega
  have HA0 := Lib.hid (and2 Lo Hi (0, 0) fLo fHi (by rw [← mk_none (fun _ => false) (fun _ => rfl)]; exact mk_congr (fun n hn => by rw [hl n hn, hh n hn, Bool.eq_iff_iff]; simp <;> omega)))
  have HO0 := Lib.hid (or2 Lo Hi All fLo fHi (by rw [hAll]; exact mk_congr (fun n hn => by rw [hl n hn, hh n hn, Bool.eq_iff_iff]; simp <;> omega)))
  have HNil := Lib.hid (fun W => show Calls Try.prog 19 #[.slice none 0 0] W (fun e w' => e = .returned (mv All) ∧ Below W.heap.size W w') from by
    have := and_any none 0 [] W (Ms.nil W)
    unfold GivesM at this
    rw [show mk (fun n => ([] : List Mk).all fun m => has m n) = All from by rw [hAll]; exact mk_congr (fun k hk => by simp)] at this
    exact this)
  have HAL := Lib.hid (and2 m Lo ML H fLo (by rw [hML]; exact mk_congr (fun n hn => by rw [hl n hn])))
  have HAH := Lib.hid (and2 m Hi MH H fHi (by rw [hMH]; exact mk_congr (fun n hn => by rw [hh n hn])))
  have HOX := Lib.hid (or2 ML MH X fML fMH (by
    rw [hX, hML, hMH]
    refine mk_congr (fun n hn => ?_)
    rw [has_mk, has_mk, Bool.eq_iff_iff]
    simp only [hn, decide_true, Bool.true_and, Bool.or_eq_true, Bool.and_eq_true, decide_eq_true_iff]
    constructor
    · rintro (⟨h1, _⟩ | ⟨h1, _⟩) <;> exact h1
    · intro h1
      rcases Nat.lt_or_ge n k with h2 | h2
      · exact .inl ⟨h1, by omega⟩
      · exact .inr ⟨h1, by omega⟩))
  have HA1 := Lib.hid (fun (W : World) (A : Option Addr) (hA : Ms W A 1 [m]) => show Calls Try.prog 19 #[.slice A 1 1] W (fun e w' => e = .returned (mv X) ∧ Below W.heap.size W w') from by
    have := and_any A 1 [m] W hA
    unfold GivesM at this
    rw [show mk (fun n => [m].all fun m => has m n) = X from by rw [hX]; exact mk_congr (fun k hk => by simp)] at this
    exact this)
  obtain ⟨R, hR⟩ : ∃ R, R = cnt (fun n => has m n && decide ((n : Int) < k)) 96 := ⟨_, rfl⟩
  have HCn := Lib.hid (fun W => show Calls Try.prog 26 #[mv ML] W (fun e w' => e = .returned (.int .i64 R) ∧ Below W.heap.size W w') from by
    have := count_any ML W fML
    rw [show cnt (has ML) 96 = R from by rw [hR, hML]; exact cnt_congr (fun n hn => by rw [has_mk]; simp [hn])] at this
    exact this)
  have HPl := Lib.hid (fun W => show Calls Try.prog 27 #[mv m, .int .i64 k] W (fun e w' => e = .returned (.int .i64 R) ∧ Below W.heap.size W w') from by
    have := place_any m k W H (by omega)
    rw [← hR] at this
    exact this)
  have HMsA := Lib.hid (fun (W : World) => Ms.two W Lo Hi fLo fHi)
  have HMsL := Lib.hid (fun (W : World) (g : Nat) (hg : g = W.heap.size) => show Ms (W.alloc (.cells #[.int .u64 m.1, .int .u64 m.2, .int .u64 Lo.1, .int .u64 Lo.2] 25)) (some ⟨g, 0, none⟩) 2 [m, Lo] from by rw [hg]; exact Ms.two W m Lo H fLo)
  have HMsH := Lib.hid (fun (W : World) (g : Nat) (hg : g = W.heap.size) => show Ms (W.alloc (.cells #[.int .u64 m.1, .int .u64 m.2, .int .u64 Hi.1, .int .u64 Hi.2] 25)) (some ⟨g, 0, none⟩) 2 [m, Hi] from by rw [hg]; exact Ms.two W m Hi H fHi)
  have HMsX := Lib.hid (fun (W : World) (g : Nat) (hg : g = W.heap.size) => show Ms (W.alloc (.cells #[.int .u64 ML.1, .int .u64 ML.2, .int .u64 MH.1, .int .u64 MH.2] 25)) (some ⟨g, 0, none⟩) 2 [ML, MH] from by rw [hg]; exact Ms.two W ML MH fML fMH)
  have HMs1 := Lib.hid (fun (W : World) (g : Nat) (hg : g = W.heap.size) => show Ms (W.alloc (.cells #[.int .u64 m.1, .int .u64 m.2] 25)) (some ⟨g, 0, none⟩) 1 [m] from by rw [hg]; exact Ms.one W m H)
  have HWk := Lib.hid (fun W => wakes_any W)
  have hq0 : ∀ W, (Op.equalIn 10000 25 (.agg #[.int .u64 0, .int .u64 0]) (.agg #[.int .u64 0, .int .u64 0])).run Try.prog W = .ok true W := fun W => by rw [eqM0]; rfl
  have hqA := fun W => eqM All All W
  have hqX := fun W => eqM X X W
  rw [show decide (All = All) = true from by simp] at hqA
  rw [show decide (X = X) = true from by simp] at hqX
  obtain ⟨hb0, hm0⟩ := mbox_world w m
  obtain ⟨W0, hW0⟩ : ∃ W0, W0 = w.alloc (.cells #[.int .u64 m.1, .int .u64 m.2] 25) := ⟨_, rfl⟩
  rw [← hW0] at hb0 hm0
  obtain ⟨s, hs⟩ : ∃ s, s = w.heap.size := ⟨_, rfl⟩
  rw [← hs] at hm0
  have HS := Lib.hid hs
  have HM0 := Lib.hid hm0
  have HB0 := Lib.hid hb0
  have HW := Lib.hid hW0
  have u1 : IntKind.u64.wrap a = a % 18446744073709551616 := IntKind.wrap_u64 a
  have HK := Lib.hid hk
  have hkk : (a % 18446744073709551616).tmod 97 = k := by rw [Int.tmod_eq_emod_of_nonneg (by omega)]; exact hk.symm
  clear hLo hHi hAll hML hMH hX hR and2 or2 hl hh fLo fHi fML fMH H hb0 hm0 hW0 hs hk
  unfold mv at *
  go_enter Try.func7, Try.ntmps7
  go_wp2_with fail
  refine (HWk.out _).mono ?_
  rintro e w1 ⟨rfl, hb1⟩
  rw [show w.alloc (.cells #[.int .u64 m.1, .int .u64 m.2] 25) = W0 from HW.out.symm] at hb1
  have HB1 := Lib.hid hb1
  clear hb1
  go_wp2_with fail
  refine (HRg1.out _).mono ?_
  rintro e w2 ⟨rfl, hb2⟩
  have HB2 := Lib.hid (HB1.out.trans (hb2.mono HB1.out.size))
  clear hb2
  obtain ⟨V2, hV2⟩ : ∃ V2, V2 = w2.alloc (.cells #[.int .u64 Lo.1, .int .u64 Lo.2] 25) := ⟨_, rfl⟩
  have hbV2 : Below w2.heap.size w2 V2 := by rw [hV2]; exact (Below.refl _ _).alloc (Nat.le_refl _) _
  have hm2 : MRow V2 w2.heap.size Lo.1 Lo.2 := by rw [hV2]; exact MRow.new w2 Lo.1 Lo.2
  have HV2 := Lib.hid hV2
  have HBV2 := Lib.hid (HB2.out.trans (hbV2.mono HB2.out.size))
  go_wp2_with fail
  rw [← HV2.out]
  refine (HRg2.out _).mono ?_
  rintro e w3 ⟨rfl, hb3⟩
  obtain ⟨V3, hV3⟩ : ∃ V3, V3 = w3.alloc (.cells #[.int .u64 Hi.1, .int .u64 Hi.2] 25) := ⟨_, rfl⟩
  have hbV3 : Below w3.heap.size w3 V3 := by rw [hV3]; exact (Below.refl _ _).alloc (Nat.le_refl _) _
  have hm3 : MRow V3 w3.heap.size Hi.1 Hi.2 := by rw [hV3]; exact MRow.new w3 Hi.1 Hi.2
  have hbx : Below V2.heap.size V2 V3 := hb3.trans (hbV3.mono hb3.size)
  have HBx := Lib.hid (HBV2.out.trans (hbx.mono HBV2.out.size))
  obtain ⟨g2, hg2⟩ : ∃ g, g = w2.heap.size := ⟨_, rfl⟩
  obtain ⟨g3, hg3⟩ : ∃ g, g = w3.heap.size := ⟨_, rfl⟩
  rw [← hg2] at hm2
  rw [← hg3] at hm3
  have HKA := Lib.hid (fun (X : World) (hX : Below V3.heap.size V3 X) => show (X.cell? ⟨w.heap.size, 0, none⟩ = some (.int .u64 m.1) ∧ X.cell? ⟨w.heap.size, 1, none⟩ = some (.int .u64 m.2)) ∧ (X.cell? ⟨g2, 0, none⟩ = some (.int .u64 Lo.1) ∧ X.cell? ⟨g2, 1, none⟩ = some (.int .u64 Lo.2)) ∧ (X.cell? ⟨g3, 0, none⟩ = some (.int .u64 Hi.1) ∧ X.cell? ⟨g3, 1, none⟩ = some (.int .u64 Hi.2)) from by
    have h1 := ((HM0.out.below HBx.out HM0.out.lt).below hX (Nat.lt_of_lt_of_le HM0.out.lt HBx.out.size))
    have h2 := ((hm2.below hbx hm2.lt).below hX (Nat.lt_of_lt_of_le hm2.lt hbx.size))
    have h3 := hm3.below hX hm3.lt
    rw [HS.out] at h1
    exact ⟨⟨h1.cell0, h1.cell1⟩, ⟨h2.cell0, h2.cell1⟩, ⟨h3.cell0, h3.cell1⟩⟩)
  have HV3 := Lib.hid hV3
  have HG2 := Lib.hid hg2
  have HG3 := Lib.hid hg3
  clear hV2 hbV2 hm2 hb3 hV3 hbV3 hm3 hbx hg2 hg3
  obtain ⟨⟨a0, a1⟩, ⟨a2, a3⟩, ⟨a4, a5⟩⟩ := HKA.out V3 (Below.refl _ _)
  go_upto_region 6 with fail
  rw [← HV3.out, ← HG2.out, ← HG3.out]
  go_wp2_with fail
  refine (HA0.out _ _ (HMsA.out V3)).mono ?_
  rintro e w4 ⟨rfl, hb4⟩
  have HB4 := Lib.hid (((Below.refl _ V3).alloc (Nat.le_refl _) _).trans (hb4.mono (by simp)))
  clear a0 a1 a2 a3 a4 a5 hb4
  obtain ⟨⟨a0, a1⟩, ⟨a2, a3⟩, ⟨a4, a5⟩⟩ := HKA.out w4 HB4.out
  go_wp2_with fail
  refine (HO0.out _ _ (HMsA.out w4)).mono ?_
  rintro e w5 ⟨rfl, hb5⟩
  have HB5 := Lib.hid ((HB4.out.alloc HB4.out.size _).trans (hb5.mono (HB4.out.alloc HB4.out.size _).size))
  clear hb5
  go_wp2_with fail
  refine (HNil.out _).mono ?_
  rintro e w6 ⟨rfl, hb6⟩
  have HB6 := Lib.hid (HB5.out.trans (hb6.mono HB5.out.size))
  clear a0 a1 a2 a3 a4 a5 hb6
  have HK6 := Lib.hid (fun (X : World) (hX : Below w6.heap.size w6 X) => HKA.out X (HB6.out.trans (hX.mono HB6.out.size)))
  obtain ⟨⟨a0, a1⟩, ⟨a2, a3⟩, ⟨a4, a5⟩⟩ := HK6.out w6 (Below.refl _ _)
  go_upto_region 8 with fail
  go_region_held3 (fun X => (X.cell? ⟨w.heap.size, 0, none⟩ = some (.int .u64 m.1) ∧ X.cell? ⟨w.heap.size, 1, none⟩ = some (.int .u64 m.2)) ∧ (X.cell? ⟨g2, 0, none⟩ = some (.int .u64 Lo.1) ∧ X.cell? ⟨g2, 1, none⟩ = some (.int .u64 Lo.2)) ∧ (X.cell? ⟨g3, 0, none⟩ = some (.int .u64 Hi.1) ∧ X.cell? ⟨g3, 1, none⟩ = some (.int .u64 Hi.2)))
    (first | (with_reducible assumption) | ((with_reducible refine HK6.out _ ?_); (repeat (first | (with_reducible exact Below.refl _ _) | (with_reducible refine bel_alloc ?_) | (with_reducible refine bel_drew ?_) | (with_reducible refine bel_step ?_ (by assumption))))))
    (first
    | (go_at_call 26; (with_reducible refine (HCn.out _).mono ?_); rintro e x ⟨rfl, hb⟩)
    | (go_at_call 27; (with_reducible refine (HPl.out _).mono ?_); rintro e x ⟨rfl, hb⟩)
    | (go_at_call 21; (with_reducible refine (HOX.out _ _ ?_).mono ?_); (focus ((repeat (first | ((with_reducible refine HMsX.out _ _ ?_); (first | rfl | (simp; done))) | (with_reducible refine Ms.drew ?_) | (with_reducible refine Ms.alloc ?_) | (with_reducible refine Ms.below ?_ (by assumption)))); done)); rintro e x ⟨rfl, hb⟩)
    | (go_at_call 19; (with_reducible refine (HA1.out _ _ ?_).mono ?_); (focus ((repeat (first | ((with_reducible refine HMs1.out _ _ ?_); (first | rfl | (simp; done))) | (with_reducible refine Ms.drew ?_) | (with_reducible refine Ms.alloc ?_) | (with_reducible refine Ms.below ?_ (by assumption)))); done)); rintro e x ⟨rfl, hb⟩)
    | (go_at_call 19; (with_reducible refine (HAH.out _ _ ?_).mono ?_); (focus ((repeat (first | ((with_reducible refine HMsH.out _ _ ?_); (first | rfl | (simp; done))) | (with_reducible refine Ms.drew ?_) | (with_reducible refine Ms.alloc ?_) | (with_reducible refine Ms.below ?_ (by assumption)))); done)); rintro e x ⟨rfl, hb⟩)
    | (go_at_call 19; (with_reducible refine (HAL.out _ _ ?_).mono ?_); (focus ((repeat (first | ((with_reducible refine HMsL.out _ _ ?_); (first | rfl | (simp; done))) | (with_reducible refine Ms.drew ?_) | (with_reducible refine Ms.alloc ?_) | (with_reducible refine Ms.below ?_ (by assumption)))); done)); rintro e x ⟨rfl, hb⟩))
  all_goals
    go_wp2
    go_ret
    refine ⟨rfl, HB0.out.trans ((HBx.out.trans ((HB6.out.trans ((?_ : Below w6.heap.size w6 _).mono HB6.out.size)).mono HBx.out.size)).mono HB0.out.size)⟩
    (repeat (first | (with_reducible exact Below.refl _ _) | (with_reducible refine bel_alloc ?_) | (with_reducible refine bel_drew ?_) | (with_reducible refine bel_step ?_ (by assumption))))

set_option maxRecDepth 100000 in
theorem lifted (os : Os) (started : os.Started) (H : Type) (enc : TypeId × Value → H) :
    ReturnsInHanded {} Try.checked os 7 .any (Rows.maskSplitSpec.pre6 enc Try.prog Try.f7 Rows.maskSplitRow.domain false) (Rows.maskSplitSpec.post enc Try.prog Try.f7 false true false false) := by
  refine returnsInHanded_of_change (C := Try.checked) Try.own started (by kernel_rfl) Try.func7
    (ChangeSpec.witness6 (enc := enc) (C := Try.checked) false ⟨#[], #[.agg #[.int .u64 0, .int .u64 0], .int .i64 0], []⟩ 8 (by kernel_rfl) (by kernel_rfl) (by kernel_rfl) (by kernel_rfl)) ?_
  intro W base args ds gs before hval0 hW hcnd _
  have hval : ∀ (j : Nat) t v, Try.f7.params[j]? = some t → args[j]? = some v → Value.okWide Try.prog W .any base t v := hval0
  have hW' := hW
  obtain ⟨p, q, hA0, hV, rfl, hfz, hnd⟩ := hW
  have hA : DataW.TrodAll enc Try.prog W 0 (fun _ => true) true Try.f7.params.toList args.toList ds p := hA0
  rw [Try.params7] at hA hval
  have hA' := hA
  obtain ⟨v0, vs0, d0, ds0, p0, q0, hargs, rfl, rfl, h0, r0⟩ := trodAll_cons hA
  obtain ⟨v1, vs1, d1, ds1, p1, q1, rfl, rfl, rfl, h1, r1⟩ := trodAll_cons r0
  obtain ⟨rfl, rfl, rfl⟩ := trodAll_nil r1
  obtain rfl : args = #[v0, v1] := by cases args; simp_all
  obtain ⟨rfl, rfl⟩ := trodVars_none hV
  obtain ⟨z0, rfl, sl0⟩ := open_mask (hval 0 25 v0 rfl rfl) h0
  obtain ⟨a1, rfl, w1⟩ := open_num (hval 1 3 v1 rfl rfl) h1
  clear hA0 hval0
  refine (walk z0 sl0 a1 w1).mono fun e W' ⟨he, bel⟩ => ?_
  subst he
  exact ⟨_, rfl, _, _, _, [], _, [], hW', trodAll_mk1 (shut_bool Try.underlying4 _), trodAll_below bel _ _ _ _ (by kernel_rfl) hA', rfl, bel.frame _, fun h => by cases h⟩

theorem proved : Rows.MaskSplitSaid :=
  OpenClaim.holds_of_wide 7 Try.f7 rfl rfl rfl rfl rfl rfl rfl ⟨rfl, rfl, rfl, rfl, rfl⟩ rfl rfl rfl rfl rfl (by kernel_rfl) Try.func7 (by kernel_rfl)
    (of_decide_eq_true (by kernel_rfl)) (by unfold Func.isWrapper; first | (rw [if_pos (by decide +kernel)]; kernel_rfl) | (rw [if_neg (by decide +kernel)]; exact ⟨rfl, rfl⟩))
    (fun os started H enc _ => lifted os started H enc)
#print axioms proved
end Go.Proofs.Ytkfgiedpnmpfgaa.maskSplit
