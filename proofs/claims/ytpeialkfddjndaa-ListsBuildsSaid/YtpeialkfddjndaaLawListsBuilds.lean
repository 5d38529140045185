/-
  ListsBuilds: what Build answers of whatever arena and centroids, and which lists agree with the arena, is what the document says. Holds for all arenas, centroids, lists and worlds; what is more than the law goes through is answered at once.
-/
import Derived.Test.YtpeialkfddjndaaMLisW
import Derived.Test.YtpeialkfddjndaaMLisR
namespace Go.Proofs.Ytpeialkfddjndaa.listsBuilds
open Go.ChangeShapes Go.WideShapes Go.ChangeAt Go.RowKit Go.Deep Go.Shelf
open MskL (Mk Ms mv has mk Fine rightM has_mk mk_congr mk_fine)
set_option linter.unusedVariables false
set_option linter.unusedSimpArgs false
set_option maxRecDepth 100000

/-! ### what is built may be -/
theorem right_mk (f : Nat → Bool) : rightM (mk f) = true := by unfold rightM; exact decide_eq_true (MskL.mk_has f).symm
theorem masks_ok {C : List (List Int)} (l : List Ce) (hC : cenB C = true) : okB C (masksOf C l) = true := by
  have hlen : (masksOf C l).length = C.length := by simp [masksOf]
  have hget : ∀ i, i < C.length → (masksOf C l).getD i mz = maskOf C l i := fun i hi => mgetD (by unfold masksOf; simp [hi])
  unfold okB
  rw [hC, decide_eq_true hlen]
  unfold apartB apTo
  rw [hlen]
  simp only [Bool.true_and]
  rw [List.all_eq_true]
  intro i hi
  have hi := List.mem_range.1 hi
  rw [hget i hi, Bool.and_eq_true, List.all_eq_true]
  refine ⟨right_mk _, fun j hj => ?_⟩
  have hj := List.mem_range.1 hj
  rw [hget j (by omega)]
  cases hm : meet (maskOf C l i) (maskOf C l j) with
  | false => rfl
  | true =>
    obtain ⟨s, h1, h2⟩ := (meet_iff _ _).1 hm
    unfold maskOf at h1 h2
    rw [has_mk] at h1 h2
    simp only [Bool.and_eq_true, decide_eq_true_eq] at h1 h2
    have e1 := h1.2
    have e2 := h2.2
    unfold inP at e1 e2
    simp only [Bool.and_eq_true, decide_eq_true_eq] at e1 e2
    omega
theorem build_cases (C : List (List Int)) {l : List Ce} (h : arB l = true) : (cenB C = false ∧ buildE C l = 230) ∨ (cenB C = true ∧ fitsB C l = false ∧ buildE C l = 151) ∨ (cenB C = true ∧ fitsB C l = true ∧ buildE C l = 0) := by
  unfold buildE fitsB
  rw [h]
  simp only [if_true]
  cases hC : cenB C with
  | false => exact .inl (by simp)
  | true =>
    simp only [if_true]
    by_cases h0 : C.length = 0
    · rw [if_pos h0, decide_eq_true h0]; exact .inr (.inr (by simp))
    · rw [if_neg h0, decide_eq_false h0]
      cases hf : l.all (fitsE C) with
      | false => exact .inr (.inl (by simp))
      | true => exact .inr (.inr (by simp))
theorem agree_no {C : List (List Int)} {M : List Mk} {l : List Ce} (h : okB C M = false) : agreeB C M l = false := by
  unfold agreeB
  by_cases hE : buildE C l = 0
  · by_cases hM : masksOf C l = M
    · have hC : cenB C = true := by
        unfold buildE at hE
        split at hE
        · split at hE
          · assumption
          · omega
        · omega
      have := masks_ok l hC
      rw [hM, h] at this
      cases this
    · simp [hM]
  · simp [hE]
theorem agree_bad {C : List (List Int)} {M : List Mk} {l : List Ce} (h : arB l = false) : agreeB C M l = false := by
  unfold agreeB buildE
  rw [h]
  simp
theorem ok_cen {C : List (List Int)} {M : List Mk} (h : okB C M = true) : cenB C = true := by
  unfold okB at h
  simp only [Bool.and_eq_true] at h
  exact h.1.1
theorem agree_yes {C : List (List Int)} {M : List Mk} {l : List Ce} (ha : arB l = true) (h : okB C M = true) : agreeB C M l = (fitsB C l && decide (masksOf C l = M)) := by
  unfold agreeB
  rcases build_cases C ha with ⟨h1, h2⟩ | ⟨h1, h2, h3⟩ | ⟨h1, h2, h3⟩
  · rw [ok_cen h] at h1; cases h1
  · rw [h2, h3]; rfl
  · rw [h2, h3]; rfl

set_option maxHeartbeats 16000000 in
theorem walk (A : Option Addr) (c : Nat) (q : List Pa) {w : World} (h : Are w A c q) (Ac : Option Addr) (cc : Nat) (C : List (List Int)) (hc : Vecs .i32 w Ac cc C) (Al : Option Addr) (cl : Nat) (L : List (List Int)) (B : Option Addr) (d : Nat) (M : List Mk) (hl : Lis w Al cl L B d M) :
    Calls Try.prog 4 #[.agg #[.slice A q.length c], .slice Ac C.length cc, lv Al cl L.length B d M.length] w fun e w' => e = .returned (.bool true) ∧ Below w.heap.size w w' := by
  obtain ⟨g, hg⟩ : ∃ g, g = w.heap.size := ⟨_, rfl⟩
  obtain ⟨N, hN⟩ : ∃ N, N = q.length := ⟨_, rfl⟩
  obtain ⟨n, hn⟩ : ∃ n, n = C.length := ⟨_, rfl⟩
  obtain ⟨nl, hnl⟩ : ∃ nl, nl = L.length := ⟨_, rfl⟩
  obtain ⟨m, hm⟩ : ∃ m, m = M.length := ⟨_, rfl⟩
  obtain ⟨W0, hW0⟩ : ∃ W0, W0 = (w.alloc (.cells #[.slice A N c] 37)).alloc (.cells #[.slice Al nl cl, .slice B m d] 25) := ⟨_, rfl⟩
  have hb0 : Below w.heap.size w W0 := by rw [hW0]; exact ((Below.refl _ w).alloc (Nat.le_refl _) _).alloc (by simp) _
  have hx0 : W0.cell? ⟨g, 0, none⟩ = some (.slice A N c) := by
    have h1 : (w.alloc (.cells #[.slice A N c] 37)).cell? ⟨g, 0, none⟩ = some (.slice A N c) := by rw [hg]; exact cell_laid _ _ _ 0
    rw [hW0]
    exact (((Below.refl _ _).alloc (Nat.le_refl _) _).cell (p := ⟨g, 0, none⟩) (World.block_lt_of_cell? _ _ h1)).trans h1
  have hr0 : LRow W0 (g + 1) Al nl cl B m d := by
    rw [hW0, hg]; have := LRow.new (w.alloc (.cells #[.slice A N c] 37)) Al nl cl B m d
    rwa [World.size_alloc] at this
  have HS := Lib.hid (fun (X : World) (hX : Below W0.heap.size W0 X) => show X.cell? ⟨g, 0, none⟩ = some (.slice A N c) ∧ (X.cell? ⟨g + 1, 0, none⟩ = some (.slice Al nl cl) ∧ X.cell? ⟨g + 1, 1, none⟩ = some (.slice B m d)) from ⟨(hX.cell (p := ⟨g, 0, none⟩) (World.block_lt_of_cell? _ _ hx0)).trans hx0, ⟨(hr0.below hX hr0.lt).box.c0, (hr0.below hX hr0.lt).box.c1⟩⟩)
  have hA := fun (X : World) (hX : Below W0.heap.size W0 X) => (h.below hb0).below hX
  have hV := fun (X : World) (hX : Below W0.heap.size W0 X) => (hc.below hb0).below hX
  have hL := fun (X : World) (hX : Below W0.heap.size W0 X) => (hl.below hb0).below hX
  have HWk := Lib.hid (wakes_any W0)
  have HO1 := Lib.hid (fun (X : World) (hX : Below W0.heap.size W0 X) => overA_any A c q X (hA X hX))
  have HO2 := Lib.hid (fun (X : World) (hX : Below W0.heap.size W0 X) => show Calls Try.prog 18 #[.slice Ac C.length cc] X (fun e w' => e = .returned (.bool (overV C)) ∧ Below X.heap.size X w') from (overV_any Ac cc C X (hV X hX)).mono (fun e w' hh => ⟨hh.1, hh.2 ▸ Below.refl _ _⟩))
  have HO3 := Lib.hid (fun (X : World) (hX : Below W0.heap.size W0 X) => overL_any Al cl L B d M X (hL X hX))
  have HBu := Lib.hid (fun (X : World) (hX : Below W0.heap.size W0 X) => build_any A c q Ac cc C X (hA X hX) (hV X hX))
  have HAg := Lib.hid (fun (X : World) (hX : Below W0.heap.size W0 X) => agrees_any Al cl L B d M A c q X (hL X hX) (hA X hX))
  have HR9 := Lib.hid (fun (X : World) (hX : Below W0.heap.size W0 X) => rRightA_any A c q X (hA X hX))
  have HRr := Lib.hid (fun (X : World) (hX : Below W0.heap.size W0 X) => rRightL_any Al cl L B d M X (hL X hX))
  have HRc := Lib.hid (fun (X : World) (hX : Below W0.heap.size W0 X) => rCenL_any Ac cc C X (hV X hX))
  have HRb1 := Lib.hid (fun (X : World) (hX : Below W0.heap.size W0 X) (ha : arB (ces q) = true) (hC : cenB L = true) => rBuild_any A c q Al cl L X (hA X hX) (hL X hX).cs ha hC)
  have HRb2 := Lib.hid (fun (X : World) (hX : Below W0.heap.size W0 X) (ha : arB (ces q) = true) (hC : cenB C = true) => rBuild_any A c q Ac cc C X (hA X hX) (hV X hX) ha hC)
  have HRs := Lib.hid (fun (X : World) (A1 A2 : Option Addr) (c1 c2 : Nat) (C1 C2 : List (List Int)) (B1 B2 : Option Addr) (d1 d2 : Nat) (M1 M2 : List Mk) (h1 : Lis X A1 c1 C1 B1 d1 M1) (h2 : Lis X A2 c2 C2 B2 d2 M2) => rSameL_any A1 A2 c1 c2 C1 C2 B1 B2 d1 d2 M1 M2 X h1 h2)
  have HLi := Lib.hid hL
  have HVi := Lib.hid hV
  have HB0 := Lib.hid hb0
  have HW0 := Lib.hid hW0
  have HG := Lib.hid hg
  have HN := Lib.hid hn
  have HNl := Lib.hid hnl
  have HM := Lib.hid hm
  have HLen := Lib.hid (show (masksOf L (ces q)).length = nl ∧ (masksOf C (ces q)).length = n by rw [hnl, hn]; simp [masksOf])
  have HNo := Lib.hid (fun (hh : okB L M = false) => agree_no (l := ces q) hh)
  have HBad := Lib.hid (fun (hh : arB (ces q) = false) => agree_bad (C := L) (M := M) hh)
  have HYes := Lib.hid (fun (ha : arB (ces q) = true) (hh : okB L M = true) => agree_yes ha hh)
  have HCa := Lib.hid (fun (ha : arB (ces q) = true) => build_cases C ha)
  have HOk := Lib.hid (fun (hh : okB L M = true) => ok_cen hh)
  have HNil := Lib.hid (fun (hh : buildE C (ces q) ≠ 0) => show buildC C (ces q) = [] ∧ buildM C (ces q) = [] from ⟨by unfold buildC; rw [if_neg hh], by unfold buildM; rw [if_neg hh]⟩)
  have HFul := Lib.hid (fun (hh : buildE C (ces q) = 0) => show buildC C (ces q) = C ∧ buildM C (ces q) = masksOf C (ces q) from ⟨by unfold buildC; rw [if_pos hh], by unfold buildM; rw [if_pos hh]⟩)
  have HEb := Lib.hid (fun (hh : arB (ces q) = false) => show buildE C (ces q) = 190 from by unfold buildE; rw [hh]; rfl)
  rw [← hN] at HO1 HBu HAg HR9 HRb1 HRb2 ⊢
  rw [← hn] at HO2 HBu HRc HRb2 ⊢
  rw [← hnl, ← hm] at HO3 HAg HRr ⊢
  rw [← hnl] at HRb1
  generalize hov1 : overB (ces q) = OV1 at *
  generalize hov2 : overV C = OV2 at *
  generalize hov3 : overL L M = OV3 at *
  generalize agreeB L M (ces q) = AG at *
  generalize buildE C (ces q) = E at *
  generalize buildC C (ces q) = CC at *
  generalize buildM C (ces q) = MM at *
  obtain ⟨x0, x1, x2⟩ := HS.out W0 (Below.refl _ _)
  clear h hc hl hg hN hn hnl hm hb0 hx0 hr0 hA hV hL hW0 hov1 hov2 hov3
  unfold lv at *
  cases OV1 with
  | true =>
    go_enter Try.func4, Try.ntmps4
    go_wp2_with (rw [← HW0.out, ← HG.out])
    refine HWk.out.mono ?_
    rintro e w1 ⟨rfl, hb1⟩
    obtain ⟨y0, y1, y2⟩ := HS.out w1 hb1
    have HB1 := Lib.hid hb1
    clear hb1 x0 x1 x2
    go_wp2_with fail
    refine (HO1.out w1 HB1.out).mono ?_
    rintro e w2 ⟨rfl, hb2⟩
    have HB2 := Lib.hid (below_tr HB1.out hb2)
    obtain ⟨x0, x1, x2⟩ := HS.out w2 HB2.out
    clear hb2 y0 y1 y2
    go_wp2
    go_ret
    exact ⟨by first | rfl | simp, below_tr HB0.out HB2.out⟩
  | false =>
    go_enter Try.func4, Try.ntmps4
    go_wp2_with (rw [← HW0.out, ← HG.out])
    refine HWk.out.mono ?_
    rintro e w1 ⟨rfl, hb1⟩
    obtain ⟨y0, y1, y2⟩ := HS.out w1 hb1
    have HB1 := Lib.hid hb1
    clear hb1 x0 x1 x2
    go_wp2_with fail
    refine (HO1.out w1 HB1.out).mono ?_
    rintro e w2 ⟨rfl, hb2⟩
    have HB2 := Lib.hid (below_tr HB1.out hb2)
    obtain ⟨x0, x1, x2⟩ := HS.out w2 HB2.out
    clear hb2 y0 y1 y2
    go_wp2_with fail
    refine (HO2.out w2 HB2.out).mono ?_
    rintro e w3 ⟨rfl, hb3⟩
    have HB3 := Lib.hid (below_tr HB2.out hb3)
    obtain ⟨y0, y1, y2⟩ := HS.out w3 HB3.out
    clear hb3 x0 x1 x2
    cases OV2 with
    | true =>
      go_wp2
      go_ret
      exact ⟨by first | rfl | simp, below_tr HB0.out HB3.out⟩
    | false =>
      go_wp2_with fail
      refine (HO3.out w3 HB3.out).mono ?_
      rintro e w4 ⟨rfl, hb4⟩
      have HB4 := Lib.hid (below_tr HB3.out hb4)
      obtain ⟨x0, x1, x2⟩ := HS.out w4 HB4.out
      clear hb4 y0 y1 y2
      cases OV3 with
      | true =>
        go_wp2
        go_ret
        exact ⟨by first | rfl | simp, below_tr HB0.out HB4.out⟩
      | false =>
        go_wp2_with fail
        refine (HBu.out w4 HB4.out).mono ?_
        rintro e w5 h5
        obtain ⟨A1, c1, B1, d1, rfl, hl5, hb5⟩ := h5.le
        obtain ⟨n1, hn1⟩ : ∃ n1, n1 = CC.length := ⟨_, rfl⟩
        obtain ⟨m1, hm1⟩ : ∃ m1, m1 = MM.length := ⟨_, rfl⟩
        rw [← hn1, ← hm1]
        obtain ⟨p7, hp7⟩ : ∃ p, p = w5.heap.size := ⟨_, rfl⟩
        obtain ⟨V7, hV7⟩ : ∃ V, V = w5.alloc (.cells #[.slice A1 n1 c1, .slice B1 m1 d1] 25) := ⟨_, rfl⟩
        obtain ⟨hl7, hb7⟩ := lbox w5 A1 n1 c1 B1 m1 d1
        rw [← hV7] at hl7 hb7
        rw [← hp7] at hl7
        have HL7 := Lib.hid (fun (X : World) (hX : Below V7.heap.size V7 X) => show (X.cell? ⟨p7, 0, none⟩ = some (.slice A1 n1 c1) ∧ X.cell? ⟨p7, 1, none⟩ = some (.slice B1 m1 d1)) ∧ Lis X A1 c1 CC B1 d1 MM from ⟨⟨(hl7.below hX hl7.lt).c0, (hl7.below hX hl7.lt).c1⟩, (hl5.below hb7).below hX⟩)
        have HB5 := Lib.hid (below_tr HB4.out (below_tr hb5 hb7))
        obtain ⟨y0, y1, y2⟩ := HS.out V7 HB5.out
        obtain ⟨z0, z1, z2⟩ := HS.out (w5.alloc (.cells #[.slice A1 n1 c1, .slice B1 m1 d1] 25)) (by rw [← hV7]; exact HB5.out)
        have HV7 := Lib.hid hV7
        have HP7 := Lib.hid hp7
        have HN1 := Lib.hid (And.intro hn1 hm1)
        clear h5 hl5 hb5 hl7 hb7 hV7 hp7 hn1 hm1 x0 x1 x2
        unfold lv
        go_wp2_with fail
        rw [← HV7.out, ← HP7.out]
        refine (HAg.out V7 HB5.out).mono ?_
        rintro e w6 ⟨rfl, hb6⟩
        obtain ⟨p10, hp10⟩ : ∃ p, p = w6.heap.size := ⟨_, rfl⟩
        obtain ⟨V10, hV10⟩ : ∃ V, V = w6.alloc (.cells #[.slice none 0 0, .slice none 0 0] 25) := ⟨_, rfl⟩
        obtain ⟨hl10, hb10⟩ := lbox w6 none 0 0 none 0 0
        rw [← hV10] at hl10 hb10
        rw [← hp10] at hl10
        have HB610 := Lib.hid (below_tr hb6 hb10)
        have HB6 := Lib.hid (below_tr HB5.out HB610.out)
        have HK := Lib.hid (fun (X : World) (hX : Below V10.heap.size V10 X) => show (X.cell? ⟨g, 0, none⟩ = some (.slice A N c) ∧ (X.cell? ⟨g + 1, 0, none⟩ = some (.slice Al nl cl) ∧ X.cell? ⟨g + 1, 1, none⟩ = some (.slice B m d))) ∧ (X.cell? ⟨p7, 0, none⟩ = some (.slice A1 n1 c1) ∧ X.cell? ⟨p7, 1, none⟩ = some (.slice B1 m1 d1)) ∧ (X.cell? ⟨p10, 0, none⟩ = some (.slice none 0 0) ∧ X.cell? ⟨p10, 1, none⟩ = some (.slice none 0 0)) from
          ⟨HS.out X (below_tr HB6.out hX), (HL7.out X (below_tr HB610.out hX)).1, ⟨(hl10.below hX hl10.lt).c0, (hl10.below hX hl10.lt).c1⟩⟩)
        have HLb := Lib.hid (fun (X : World) (hX : Below V10.heap.size V10 X) => show Lis X A1 c1 CC B1 d1 MM from (HL7.out X (below_tr HB610.out hX)).2)
        have HBX := Lib.hid (fun (X : World) (hX : Below V10.heap.size V10 X) => show Below W0.heap.size W0 X from below_tr HB6.out hX)
        obtain ⟨⟨x0, x1, x2⟩, ⟨x3, x4⟩, ⟨x5, x6⟩⟩ := HK.out V10 (Below.refl _ _)
        obtain ⟨k0, k1, k2⟩ := HS.out (w6.alloc (.cells #[.slice none 0 0, .slice none 0 0] 25)) (by rw [← hV10]; exact HB6.out)
        have HSn := Lib.hid (fun (X : World) (hX : Below V10.heap.size V10 X) => show Calls Try.prog 14 #[.agg #[.slice A1 n1 c1, .slice B1 m1 d1], .agg #[.slice none 0 0, .slice none 0 0]] X (fun e w' => e = .returned (.bool (decide (CC = []) && decide (MM = []))) ∧ Below X.heap.size X w') from by
          have := HRs.out X A1 none c1 0 CC [] B1 none d1 0 MM [] (HLb.out X hX) (Lis.nil X)
          rw [← HN1.out.1, ← HN1.out.2] at this
          exact this)
        have HV10 := Lib.hid hV10
        have HP10 := Lib.hid hp10
        clear hb6 hp10 hV10 hl10 hb10 y0 y1 y2 z0 z1 z2
        go_wp2_with fail
        rw [← HV10.out, ← HP10.out]
        clear k0 k1 k2
        refine (HR9.out V10 HB6.out).mono ?_
        rintro e w7 ⟨rfl, hb7⟩
        have HB7 := Lib.hid hb7
        obtain ⟨⟨y0, y1, y2⟩, ⟨y3, y4⟩, ⟨y5, y6⟩⟩ := HK.out w7 HB7.out
        clear hb7 x0 x1 x2 x3 x4 x5 x6
        cases har : arB (ces q) with
        | false =>
          have HF := Lib.hid (HNil.out (by rw [HEb.out har]; decide))
          have HE1 := HEb.out har
          have HA1 := HBad.out har
          obtain ⟨e1, e2⟩ := HF.out
          subst e1 e2 HE1 HA1
          go_wp2_with fail
          refine (HSn.out w7 HB7.out).mono ?_
          rintro e w8 ⟨rfl, hb8⟩
          have HB8 := Lib.hid (HBX.out _ (below_tr HB7.out hb8))
          clear hb8
          go_wp2
          go_ret
          exact ⟨by first | rfl | simp, below_tr HB0.out HB8.out⟩
        | true =>
          go_wp2_with fail
          refine (HRr.out w7 (HBX.out _ HB7.out)).mono ?_
          rintro e w8 ⟨rfl, hb8⟩
          have HB8 := Lib.hid (below_tr HB7.out hb8)
          obtain ⟨⟨x0, x1, x2⟩, ⟨x3, x4⟩, ⟨x5, x6⟩⟩ := HK.out w8 HB8.out
          clear hb8 y0 y1 y2 y3 y4 y5 y6
          cases hok : okB L M with
          | false =>
            have hAG := HNo.out hok
            subst hAG
            rcases HCa.out har with ⟨hcb, hE⟩ | ⟨hcb, hfb, hE⟩ | ⟨hcb, hfb, hE⟩
            · have HEh := Lib.hid hE
              obtain ⟨e1, e2⟩ := HNil.out (by rw [hE]; decide)
              subst e1 e2 hE
              have HR := Lib.hid (HRc.out w8 (HBX.out _ HB8.out))
              rw [hcb] at HR
              clear hcb
              go_wp2_with fail
              refine HR.out.mono ?_
              rintro e w20 ⟨rfl, hb20⟩
              have HB20 := Lib.hid (below_tr HB8.out hb20)
              obtain ⟨⟨u0, u1, u2⟩, ⟨u3, u4⟩, ⟨u5, u6⟩⟩ := HK.out w20 HB20.out
              clear hb20 x0 x1 x2 x3 x4 x5 x6
              go_wp2_with fail
              refine (HSn.out w20 HB20.out).mono ?_
              rintro e w21 ⟨rfl, hb21⟩
              have HB21 := Lib.hid (HBX.out _ (below_tr HB20.out hb21))
              clear hb21
              go_wp2
              go_ret
              exact ⟨by first | rfl | simp, below_tr HB0.out HB21.out⟩
            · obtain ⟨e1, e2⟩ := HNil.out (by rw [hE]; decide)
              subst e1 e2 hE
              have HR := Lib.hid (HRc.out w8 (HBX.out _ HB8.out))
              rw [hcb] at HR
              have HRB := Lib.hid (fun (X : World) (hX : Below V10.heap.size V10 X) => HRb2.out X (HBX.out X hX) har hcb)
              have HFb := Lib.hid hfb
              clear hcb hfb
              go_wp2_with fail
              refine HR.out.mono ?_
              rintro e w20 ⟨rfl, hb20⟩
              have HB20 := Lib.hid (below_tr HB8.out hb20)
              obtain ⟨⟨u0, u1, u2⟩, ⟨u3, u4⟩, ⟨u5, u6⟩⟩ := HK.out w20 HB20.out
              clear hb20 x0 x1 x2 x3 x4 x5 x6
              go_wp2_with fail
              refine (HRB.out w20 HB20.out).mono ?_
              rintro e w21 ⟨hb21, (⟨hf, _⟩ | ⟨_, rfl⟩)⟩
              · rw [HFb.out] at hf; cases hf
              have HB21 := Lib.hid (below_tr HB20.out hb21)
              obtain ⟨V14, hV14⟩ : ∃ V, V = w21.alloc (.cells #[.slice none 0 0, .slice none 0 0] 25) := ⟨_, rfl⟩
              have HB22 := Lib.hid (show Below V10.heap.size V10 V14 by rw [hV14]; exact HB21.out.alloc HB21.out.size _)
              obtain ⟨⟨v0, v1, v2⟩, ⟨v3, v4⟩, ⟨v5, v6⟩⟩ := HK.out (w21.alloc (.cells #[.slice none 0 0, .slice none 0 0] 25)) (by rw [← hV14]; exact HB22.out)
              have HV14 := Lib.hid hV14
              clear hb21 hV14 u0 u1 u2 u3 u4 u5 u6
              unfold lv
              go_wp2_with fail
              rw [← HV14.out]
              refine (HSn.out V14 HB22.out).mono ?_
              rintro e w23 ⟨rfl, hb23⟩
              have HB23 := Lib.hid (HBX.out _ (below_tr HB22.out hb23))
              clear hb23
              go_wp2
              go_ret
              exact ⟨by first | rfl | simp, below_tr HB0.out HB23.out⟩
            · obtain ⟨e1, e2⟩ := HFul.out hE
              subst hE
              have HR := Lib.hid (HRc.out w8 (HBX.out _ HB8.out))
              rw [hcb] at HR
              have HRB := Lib.hid (fun (X : World) (hX : Below V10.heap.size V10 X) => HRb2.out X (HBX.out X hX) har hcb)
              have HFb := Lib.hid hfb
              have HEq := Lib.hid (And.intro e1 e2)
              clear hcb hfb e1 e2
              go_wp2_with fail
              refine HR.out.mono ?_
              rintro e w20 ⟨rfl, hb20⟩
              have HB20 := Lib.hid (below_tr HB8.out hb20)
              obtain ⟨⟨u0, u1, u2⟩, ⟨u3, u4⟩, ⟨u5, u6⟩⟩ := HK.out w20 HB20.out
              clear hb20 x0 x1 x2 x3 x4 x5 x6
              go_wp2_with fail
              refine (HRB.out w20 HB20.out).mono ?_
              rintro e w21 ⟨hb21, (⟨_, B9, d9, rfl, hms⟩ | ⟨hf, _⟩)⟩
              rotate_left
              · rw [HFb.out] at hf; cases hf
              have HB21 := Lib.hid (below_tr HB20.out hb21)
              obtain ⟨p14, hp14⟩ : ∃ p, p = w21.heap.size := ⟨_, rfl⟩
              obtain ⟨V14, hV14⟩ : ∃ V, V = w21.alloc (.cells #[.slice Ac n cc, .slice B9 n d9] 25) := ⟨_, rfl⟩
              obtain ⟨hl14, hb14⟩ := lbox w21 Ac n cc B9 n d9
              rw [← hV14] at hl14 hb14
              have HB22 := Lib.hid (show Below V10.heap.size V10 V14 from below_tr HB21.out hb14)
              have HSw := Lib.hid (show Calls Try.prog 14 #[.agg #[.slice A1 n1 c1, .slice B1 m1 d1], .agg #[.slice Ac n cc, .slice B9 n d9]] V14 (fun e w' => e = .returned (.bool true) ∧ Below V14.heap.size V14 w') from by
                have := HRs.out V14 A1 Ac c1 cc CC C B1 B9 d1 d9 MM (masksOf C (ces q)) (HLb.out V14 HB22.out) ⟨HVi.out V14 (HBX.out _ HB22.out), hms.below hb14⟩
                rw [← HN1.out.1, ← HN1.out.2, HEq.out.1, HEq.out.2, decide_eq_true rfl, decide_eq_true rfl, ← HN.out, HLen.out.2] at this
                exact this)
              obtain ⟨⟨v0, v1, v2⟩, ⟨v3, v4⟩, ⟨v5, v6⟩⟩ := HK.out (w21.alloc (.cells #[.slice Ac n cc, .slice B9 n d9] 25)) (by rw [← hV14]; exact HB22.out)
              have HV14 := Lib.hid hV14
              clear hb21 hV14 hl14 hb14 hms hp14 u0 u1 u2 u3 u4 u5 u6
              unfold lv
              go_wp2_with fail
              rw [← HV14.out]
              refine HSw.out.mono ?_
              rintro e w23 ⟨rfl, hb23⟩
              have HB23 := Lib.hid (HBX.out _ (below_tr HB22.out hb23))
              clear hb23
              go_wp2
              go_ret
              exact ⟨by first | rfl | simp, below_tr HB0.out HB23.out⟩
          | true =>
            have HAGh := Lib.hid (HYes.out har hok)
            have HRB := Lib.hid (fun (X : World) (hX : Below V10.heap.size V10 X) => HRb1.out X (HBX.out X hX) har (HOk.out hok))
            clear hok
            go_wp2_with fail
            refine (HRB.out w8 HB8.out).mono ?_
            rintro e w9 ⟨hb9, (⟨hf, B9, d9, rfl, hms⟩ | ⟨hf, rfl⟩)⟩
            · have hAG := HAGh.out
              rw [hf, Bool.true_and] at hAG
              have HB9 := Lib.hid (below_tr HB8.out hb9)
              obtain ⟨V12, hV12⟩ : ∃ V, V = w9.alloc (.cells #[.slice Al nl cl, .slice B9 nl d9] 25) := ⟨_, rfl⟩
              obtain ⟨hl12, hb12⟩ := lbox w9 Al nl cl B9 nl d9
              rw [← hV12] at hl12 hb12
              have HB10 := Lib.hid (show Below V10.heap.size V10 V12 from below_tr HB9.out hb12)
              have HSw := Lib.hid (show Calls Try.prog 14 #[.agg #[.slice Al nl cl, .slice B9 nl d9], .agg #[.slice Al nl cl, .slice B m d]] V12 (fun e w' => e = .returned (.bool AG) ∧ Below V12.heap.size V12 w') from by
                have := HRs.out V12 Al Al cl cl L L B9 B d9 d (masksOf L (ces q)) M ⟨(HLi.out V12 (HBX.out _ HB10.out)).cs, hms.below hb12⟩ (HLi.out V12 (HBX.out _ HB10.out))
                rw [decide_eq_true rfl, Bool.true_and, ← hAG, ← HNl.out, ← HM.out, HLen.out.1] at this
                exact this)
              obtain ⟨⟨v0, v1, v2⟩, ⟨v3, v4⟩, ⟨v5, v6⟩⟩ := HK.out (w9.alloc (.cells #[.slice Al nl cl, .slice B9 nl d9] 25)) (by rw [← hV12]; exact HB10.out)
              have HV12 := Lib.hid hV12
              clear hb9 hV12 hl12 hb12 hms hAG hf x0 x1 x2 x3 x4 x5 x6
              have hne : (AG != AG) = false := by cases AG <;> rfl
              unfold lv
              go_wp2_with fail
              rw [← HV12.out]
              refine HSw.out.mono ?_
              rintro e w11 ⟨rfl, hb11⟩
              have HB11 := Lib.hid (below_tr HB10.out hb11)
              obtain ⟨⟨x0, x1, x2⟩, ⟨x3, x4⟩, ⟨x5, x6⟩⟩ := HK.out w11 HB11.out
              clear hb11 v0 v1 v2 v3 v4 v5 v6
              rcases HCa.out har with ⟨hcb, hE⟩ | ⟨hcb, hfb, hE⟩ | ⟨hcb, hfb, hE⟩
              · have HEh := Lib.hid hE
                obtain ⟨e1, e2⟩ := HNil.out (by rw [hE]; decide)
                subst e1 e2 hE
                have HR := Lib.hid (HRc.out w11 (HBX.out _ HB11.out))
                rw [hcb] at HR
                clear hcb
                go_wp2_with fail
                refine HR.out.mono ?_
                rintro e w20 ⟨rfl, hb20⟩
                have HB20 := Lib.hid (below_tr HB11.out hb20)
                obtain ⟨⟨u0, u1, u2⟩, ⟨u3, u4⟩, ⟨u5, u6⟩⟩ := HK.out w20 HB20.out
                clear hb20 x0 x1 x2 x3 x4 x5 x6
                go_wp2_with fail
                refine (HSn.out w20 HB20.out).mono ?_
                rintro e w21 ⟨rfl, hb21⟩
                have HB21 := Lib.hid (HBX.out _ (below_tr HB20.out hb21))
                clear hb21
                go_wp2
                go_ret
                exact ⟨by first | rfl | simp, below_tr HB0.out HB21.out⟩
              · obtain ⟨e1, e2⟩ := HNil.out (by rw [hE]; decide)
                subst e1 e2 hE
                have HR := Lib.hid (HRc.out w11 (HBX.out _ HB11.out))
                rw [hcb] at HR
                have HRB := Lib.hid (fun (X : World) (hX : Below V10.heap.size V10 X) => HRb2.out X (HBX.out X hX) har hcb)
                have HFb := Lib.hid hfb
                clear hcb hfb
                go_wp2_with fail
                refine HR.out.mono ?_
                rintro e w20 ⟨rfl, hb20⟩
                have HB20 := Lib.hid (below_tr HB11.out hb20)
                obtain ⟨⟨u0, u1, u2⟩, ⟨u3, u4⟩, ⟨u5, u6⟩⟩ := HK.out w20 HB20.out
                clear hb20 x0 x1 x2 x3 x4 x5 x6
                go_wp2_with fail
                refine (HRB.out w20 HB20.out).mono ?_
                rintro e w21 ⟨hb21, (⟨hf, _⟩ | ⟨_, rfl⟩)⟩
                · rw [HFb.out] at hf; cases hf
                have HB21 := Lib.hid (below_tr HB20.out hb21)
                obtain ⟨V14, hV14⟩ : ∃ V, V = w21.alloc (.cells #[.slice none 0 0, .slice none 0 0] 25) := ⟨_, rfl⟩
                have HB22 := Lib.hid (show Below V10.heap.size V10 V14 by rw [hV14]; exact HB21.out.alloc HB21.out.size _)
                obtain ⟨⟨v0, v1, v2⟩, ⟨v3, v4⟩, ⟨v5, v6⟩⟩ := HK.out (w21.alloc (.cells #[.slice none 0 0, .slice none 0 0] 25)) (by rw [← hV14]; exact HB22.out)
                have HV14 := Lib.hid hV14
                clear hb21 hV14 u0 u1 u2 u3 u4 u5 u6
                unfold lv
                go_wp2_with fail
                rw [← HV14.out]
                refine (HSn.out V14 HB22.out).mono ?_
                rintro e w23 ⟨rfl, hb23⟩
                have HB23 := Lib.hid (HBX.out _ (below_tr HB22.out hb23))
                clear hb23
                go_wp2
                go_ret
                exact ⟨by first | rfl | simp, below_tr HB0.out HB23.out⟩
              · obtain ⟨e1, e2⟩ := HFul.out hE
                subst hE
                have HR := Lib.hid (HRc.out w11 (HBX.out _ HB11.out))
                rw [hcb] at HR
                have HRB := Lib.hid (fun (X : World) (hX : Below V10.heap.size V10 X) => HRb2.out X (HBX.out X hX) har hcb)
                have HFb := Lib.hid hfb
                have HEq := Lib.hid (And.intro e1 e2)
                clear hcb hfb e1 e2
                go_wp2_with fail
                refine HR.out.mono ?_
                rintro e w20 ⟨rfl, hb20⟩
                have HB20 := Lib.hid (below_tr HB11.out hb20)
                obtain ⟨⟨u0, u1, u2⟩, ⟨u3, u4⟩, ⟨u5, u6⟩⟩ := HK.out w20 HB20.out
                clear hb20 x0 x1 x2 x3 x4 x5 x6
                go_wp2_with fail
                refine (HRB.out w20 HB20.out).mono ?_
                rintro e w21 ⟨hb21, (⟨_, B9, d9, rfl, hms⟩ | ⟨hf, _⟩)⟩
                rotate_left
                · rw [HFb.out] at hf; cases hf
                have HB21 := Lib.hid (below_tr HB20.out hb21)
                obtain ⟨p14, hp14⟩ : ∃ p, p = w21.heap.size := ⟨_, rfl⟩
                obtain ⟨V14, hV14⟩ : ∃ V, V = w21.alloc (.cells #[.slice Ac n cc, .slice B9 n d9] 25) := ⟨_, rfl⟩
                obtain ⟨hl14, hb14⟩ := lbox w21 Ac n cc B9 n d9
                rw [← hV14] at hl14 hb14
                have HB22 := Lib.hid (show Below V10.heap.size V10 V14 from below_tr HB21.out hb14)
                have HSw := Lib.hid (show Calls Try.prog 14 #[.agg #[.slice A1 n1 c1, .slice B1 m1 d1], .agg #[.slice Ac n cc, .slice B9 n d9]] V14 (fun e w' => e = .returned (.bool true) ∧ Below V14.heap.size V14 w') from by
                  have := HRs.out V14 A1 Ac c1 cc CC C B1 B9 d1 d9 MM (masksOf C (ces q)) (HLb.out V14 HB22.out) ⟨HVi.out V14 (HBX.out _ HB22.out), hms.below hb14⟩
                  rw [← HN1.out.1, ← HN1.out.2, HEq.out.1, HEq.out.2, decide_eq_true rfl, decide_eq_true rfl, ← HN.out, HLen.out.2] at this
                  exact this)
                obtain ⟨⟨v0, v1, v2⟩, ⟨v3, v4⟩, ⟨v5, v6⟩⟩ := HK.out (w21.alloc (.cells #[.slice Ac n cc, .slice B9 n d9] 25)) (by rw [← hV14]; exact HB22.out)
                have HV14 := Lib.hid hV14
                clear hb21 hV14 hl14 hb14 hms hp14 u0 u1 u2 u3 u4 u5 u6
                unfold lv
                go_wp2_with fail
                rw [← HV14.out]
                refine HSw.out.mono ?_
                rintro e w23 ⟨rfl, hb23⟩
                have HB23 := Lib.hid (HBX.out _ (below_tr HB22.out hb23))
                clear hb23
                go_wp2
                go_ret
                exact ⟨by first | rfl | simp, below_tr HB0.out HB23.out⟩
            · have hAG := HAGh.out
              rw [hf, Bool.false_and] at hAG
              subst hAG
              have HB9 := Lib.hid (below_tr HB8.out hb9)
              obtain ⟨V12, hV12⟩ : ∃ V, V = w9.alloc (.cells #[.slice none 0 0, .slice none 0 0] 25) := ⟨_, rfl⟩
              have HB10 := Lib.hid (show Below V10.heap.size V10 V12 by rw [hV12]; exact HB9.out.alloc HB9.out.size _)
              obtain ⟨⟨v0, v1, v2⟩, ⟨v3, v4⟩, ⟨v5, v6⟩⟩ := HK.out (w9.alloc (.cells #[.slice none 0 0, .slice none 0 0] 25)) (by rw [← hV12]; exact HB10.out)
              have HV12 := Lib.hid hV12
              have HBq := Lib.hid (show Below V10.heap.size V10 (w9.alloc (.cells #[.slice none 0 0, .slice none 0 0] 25)) by rw [← hV12]; exact HB10.out)
              clear hb9 hV12 hf x0 x1 x2 x3 x4 x5 x6
              unfold lv
              rcases HCa.out har with ⟨hcb, hE⟩ | ⟨hcb, hfb, hE⟩ | ⟨hcb, hfb, hE⟩
              · have HEh := Lib.hid hE
                obtain ⟨e1, e2⟩ := HNil.out (by rw [hE]; decide)
                subst e1 e2 hE
                have HR := Lib.hid (HRc.out (w9.alloc (.cells #[.slice none 0 0, .slice none 0 0] 25)) (HBX.out _ HBq.out))
                rw [hcb] at HR
                clear hcb
                go_wp2_with fail
                refine HR.out.mono ?_
                rintro e w20 ⟨rfl, hb20⟩
                have HB20 := Lib.hid (below_tr HBq.out hb20)
                obtain ⟨⟨u0, u1, u2⟩, ⟨u3, u4⟩, ⟨u5, u6⟩⟩ := HK.out w20 HB20.out
                clear hb20 v0 v1 v2 v3 v4 v5 v6
                go_wp2_with fail
                refine (HSn.out w20 HB20.out).mono ?_
                rintro e w21 ⟨rfl, hb21⟩
                have HB21 := Lib.hid (HBX.out _ (below_tr HB20.out hb21))
                clear hb21
                go_wp2
                go_ret
                exact ⟨by first | rfl | simp, below_tr HB0.out HB21.out⟩
              · obtain ⟨e1, e2⟩ := HNil.out (by rw [hE]; decide)
                subst e1 e2 hE
                have HR := Lib.hid (HRc.out (w9.alloc (.cells #[.slice none 0 0, .slice none 0 0] 25)) (HBX.out _ HBq.out))
                rw [hcb] at HR
                have HRB := Lib.hid (fun (X : World) (hX : Below V10.heap.size V10 X) => HRb2.out X (HBX.out X hX) har hcb)
                have HFb := Lib.hid hfb
                clear hcb hfb
                go_wp2_with fail
                refine HR.out.mono ?_
                rintro e w20 ⟨rfl, hb20⟩
                have HB20 := Lib.hid (below_tr HBq.out hb20)
                obtain ⟨⟨u0, u1, u2⟩, ⟨u3, u4⟩, ⟨u5, u6⟩⟩ := HK.out w20 HB20.out
                clear hb20 v0 v1 v2 v3 v4 v5 v6
                go_wp2_with fail
                refine (HRB.out w20 HB20.out).mono ?_
                rintro e w21 ⟨hb21, (⟨hf, _⟩ | ⟨_, rfl⟩)⟩
                · rw [HFb.out] at hf; cases hf
                have HB21 := Lib.hid (below_tr HB20.out hb21)
                obtain ⟨V14, hV14⟩ : ∃ V, V = w21.alloc (.cells #[.slice none 0 0, .slice none 0 0] 25) := ⟨_, rfl⟩
                have HB22 := Lib.hid (show Below V10.heap.size V10 V14 by rw [hV14]; exact HB21.out.alloc HB21.out.size _)
                obtain ⟨⟨v0, v1, v2⟩, ⟨v3, v4⟩, ⟨v5, v6⟩⟩ := HK.out (w21.alloc (.cells #[.slice none 0 0, .slice none 0 0] 25)) (by rw [← hV14]; exact HB22.out)
                have HV14 := Lib.hid hV14
                clear hb21 hV14 u0 u1 u2 u3 u4 u5 u6
                unfold lv
                go_wp2_with fail
                rw [← HV14.out]
                refine (HSn.out V14 HB22.out).mono ?_
                rintro e w23 ⟨rfl, hb23⟩
                have HB23 := Lib.hid (HBX.out _ (below_tr HB22.out hb23))
                clear hb23
                go_wp2
                go_ret
                exact ⟨by first | rfl | simp, below_tr HB0.out HB23.out⟩
              · obtain ⟨e1, e2⟩ := HFul.out hE
                subst hE
                have HR := Lib.hid (HRc.out (w9.alloc (.cells #[.slice none 0 0, .slice none 0 0] 25)) (HBX.out _ HBq.out))
                rw [hcb] at HR
                have HRB := Lib.hid (fun (X : World) (hX : Below V10.heap.size V10 X) => HRb2.out X (HBX.out X hX) har hcb)
                have HFb := Lib.hid hfb
                have HEq := Lib.hid (And.intro e1 e2)
                clear hcb hfb e1 e2
                go_wp2_with fail
                refine HR.out.mono ?_
                rintro e w20 ⟨rfl, hb20⟩
                have HB20 := Lib.hid (below_tr HBq.out hb20)
                obtain ⟨⟨u0, u1, u2⟩, ⟨u3, u4⟩, ⟨u5, u6⟩⟩ := HK.out w20 HB20.out
                clear hb20 v0 v1 v2 v3 v4 v5 v6
                go_wp2_with fail
                refine (HRB.out w20 HB20.out).mono ?_
                rintro e w21 ⟨hb21, (⟨_, B9, d9, rfl, hms⟩ | ⟨hf, _⟩)⟩
                rotate_left
                · rw [HFb.out] at hf; cases hf
                have HB21 := Lib.hid (below_tr HB20.out hb21)
                obtain ⟨p14, hp14⟩ : ∃ p, p = w21.heap.size := ⟨_, rfl⟩
                obtain ⟨V14, hV14⟩ : ∃ V, V = w21.alloc (.cells #[.slice Ac n cc, .slice B9 n d9] 25) := ⟨_, rfl⟩
                obtain ⟨hl14, hb14⟩ := lbox w21 Ac n cc B9 n d9
                rw [← hV14] at hl14 hb14
                have HB22 := Lib.hid (show Below V10.heap.size V10 V14 from below_tr HB21.out hb14)
                have HSw := Lib.hid (show Calls Try.prog 14 #[.agg #[.slice A1 n1 c1, .slice B1 m1 d1], .agg #[.slice Ac n cc, .slice B9 n d9]] V14 (fun e w' => e = .returned (.bool true) ∧ Below V14.heap.size V14 w') from by
                  have := HRs.out V14 A1 Ac c1 cc CC C B1 B9 d1 d9 MM (masksOf C (ces q)) (HLb.out V14 HB22.out) ⟨HVi.out V14 (HBX.out _ HB22.out), hms.below hb14⟩
                  rw [← HN1.out.1, ← HN1.out.2, HEq.out.1, HEq.out.2, decide_eq_true rfl, decide_eq_true rfl, ← HN.out, HLen.out.2] at this
                  exact this)
                obtain ⟨⟨v0, v1, v2⟩, ⟨v3, v4⟩, ⟨v5, v6⟩⟩ := HK.out (w21.alloc (.cells #[.slice Ac n cc, .slice B9 n d9] 25)) (by rw [← hV14]; exact HB22.out)
                have HV14 := Lib.hid hV14
                clear hb21 hV14 hl14 hb14 hms hp14 u0 u1 u2 u3 u4 u5 u6
                unfold lv
                go_wp2_with fail
                rw [← HV14.out]
                refine HSw.out.mono ?_
                rintro e w23 ⟨rfl, hb23⟩
                have HB23 := Lib.hid (HBX.out _ (below_tr HB22.out hb23))
                clear hb23
                go_wp2
                go_ret
                exact ⟨by first | rfl | simp, below_tr HB0.out HB23.out⟩

set_option maxRecDepth 100000 in
theorem lifted (os : Os) (started : os.Started) (H : Type) (enc : TypeId × Value → H) :
    ReturnsInHanded {} Try.checked os 4 .any (Rows.listsBuildsSpec.pre6 enc Try.prog Try.f4 Rows.listsBuildsRow.domain false) (Rows.listsBuildsSpec.post enc Try.prog Try.f4 false true false false) := by
  refine returnsInHanded_of_change (C := Try.checked) Try.own started (by kernel_rfl) Try.func4
    (ChangeSpec.witness6 (enc := enc) (C := Try.checked) false ⟨#[], #[.agg #[.slice none 0 0], .slice none 0 0, .agg #[.slice none 0 0, .slice none 0 0]], []⟩ 8 (by kernel_rfl) (by kernel_rfl) (by kernel_rfl) (by kernel_rfl)) ?_
  intro W base args ds gs before hval0 hW hcnd _
  have hval : ∀ (j : Nat) t v, Try.f4.params[j]? = some t → args[j]? = some v → Value.okWide Try.prog W .any base t v := hval0
  have hW' := hW
  obtain ⟨p, q, hA0, hV, rfl, hfz, hnd⟩ := hW
  have hA : DataW.TrodAll enc Try.prog W 0 (fun _ => true) true Try.f4.params.toList args.toList ds p := hA0
  rw [Try.params4] at hA hval
  have hA' := hA
  obtain ⟨v0, vs0, d0, ds0, p0, q0, hargs, rfl, rfl, h0, r0⟩ := trodAll_cons hA
  obtain ⟨v1, vs1, d1, ds1, p1, q1, rfl, rfl, rfl, h1, r1⟩ := trodAll_cons r0
  obtain ⟨v2, vs2, d2, ds2, p2, q2, rfl, rfl, rfl, h2, r2⟩ := trodAll_cons r1
  obtain ⟨rfl, rfl, rfl⟩ := trodAll_nil r2
  obtain rfl : args = #[v0, v1, v2] := by cases args; simp_all
  obtain ⟨rfl, rfl⟩ := trodVars_none hV
  obtain ⟨A0, c0, z0, rfl, sl0⟩ := open_arena (hval 0 37 v0 rfl rfl) h0
  obtain ⟨A1, len1, c1, rfl⟩ := okWide_slice Try.underlying22 (hval 1 22 v1 rfl rfl)
  obtain ⟨z1, rfl, sl1⟩ := open_vecs h1
  obtain ⟨A2, c2, C2, B2, k2, M2, rfl, sl2⟩ := open_lists (hval 2 25 v2 rfl rfl) h2
  clear hA0 hval0
  refine (walk A0 c0 z0 sl0 A1 c1 z1 sl1 A2 c2 C2 B2 k2 M2 sl2).mono fun e W' ⟨he, bel⟩ => ?_
  subst he
  exact ⟨_, rfl, _, _, _, [], _, [], hW', trodAll_mk1 (shut_bool Try.underlying4 _), trodAll_below bel _ _ _ _ (by kernel_rfl) hA', rfl, bel.frame _, fun h => by cases h⟩

theorem proved : Rows.ListsBuildsSaid :=
  OpenClaim.holds_of_wide 4 Try.f4 rfl rfl rfl rfl rfl rfl rfl ⟨rfl, rfl, rfl, rfl, rfl⟩ rfl rfl rfl rfl rfl (by kernel_rfl) Try.func4 (by kernel_rfl)
    (of_decide_eq_true (by kernel_rfl)) (by unfold Func.isWrapper; first | (rw [if_pos (by decide +kernel)]; kernel_rfl) | (rw [if_neg (by decide +kernel)]; exact ⟨rfl, rfl⟩))
    (fun os started H enc _ => lifted os started H enc)
#print axioms proved
end Go.Proofs.Ytpeialkfddjndaa.listsBuilds
