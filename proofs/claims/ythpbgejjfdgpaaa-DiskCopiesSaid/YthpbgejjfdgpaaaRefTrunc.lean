/-
  The document's Truncate.
-/
import Derived.Test.YthpbgejjfdgpaaaRefRen
import Derived.IntWalk
namespace Go.Proofs.Ythpbgejjfdgpaaa
open Go.RowKit
set_option linter.unusedVariables false
set_option maxRecDepth 100000

theorem SlN.take {W : World} {N : Nat → Prop} {A : Option Addr} {n c f : Nat} {xs : List Int} (h : SlN W N A n c xs) (hf : f ≤ n) : SlN W N A f f (xs.take f) := by
  have hl := h.len
  refine ⟨by rw [List.length_take]; omega, Nat.le_refl _, by have := h.le; have := h.mx; omega, fun hp => ?_, fun hp => h.far (by omega)⟩
  rw [List.length_take] at hp
  obtain ⟨b, o, e, hb, hc⟩ := h.rd (by omega)
  refine ⟨b, o, e, hb, fun j hj => ?_⟩
  rw [List.length_take] at hj
  have := hc j (by omega)
  rw [this, List.getD_eq_getElem?_getD, List.getD_eq_getElem?_getD, List.getElem?_take, if_pos (by omega)]
theorem setRow_other (W : World) (b g : Nat) (cs : Array Value) (h : g ≠ b) : (W.setRow b cs).heap[g]? = W.heap[g]? := by
  simp only [World.setRow, Array.getElem?_modify]
  rw [if_neg (fun e => h e.symm)]

set_option maxHeartbeats 2000000 in
theorem truncate_ref {w : World} {N : Nat → Prop} {D : RD} {M : AD} (h : RefIs w N D M) (hok : M.Ok) (hops : M.ops < 4000000000000000000) (k x : Int) :
    Calls Try.prog 43 #[.agg (rdA D), .int .i64 k, .int .i64 x] w (RefGives w N (M.truncM k x) (M.truncC k x)) := by
  have H := Lib.hid h
  have HOK := Lib.hid hok
  clear hok
  have ASK := Lib.hid (fun W => asked_ref D k W)
  have hak := h.ask k
  rw [hak] at ASK
  obtain ⟨cc, hcc⟩ : ∃ cc, cc = M.truncC k x := ⟨_, rfl⟩
  obtain ⟨MM, hMM⟩ : ∃ MM, MM = M.truncM k x := ⟨_, rfl⟩
  rw [← hcc, ← hMM]
  have HCC := Lib.hid hcc
  have HMM := Lib.hid hMM
  clear h hak hcc hMM
  go_enter Try.func43, Try.ntmps43
  go_upto_region 1 with fail
  refine name_world (fun W => BoxR w w.heap.size D W ∧ BoxR w (w.heap.size + 1) zeroR W) (two_boxes w D) ?_
  rintro W1 ⟨hD, hR⟩
  have HD := Lib.hid hD
  have HR := Lib.hid hR
  clear hD hR
  go_wp2_with (refine wp_loadR rfl _ rfl rfl HD.out ?_)
  refine (ASK.out W1).mono ?_
  rintro e W2 ⟨rfl, hb2⟩
  have HD2 := Lib.hid (HD.out.later hb2)
  have HR2 := Lib.hid (HR.out.later hb2)
  have hsz2 : w.heap.size + 1 < W2.heap.size := lt_of_block HR2.out.box
  clear hb2 HD HR ASK
  by_cases hz : M.ask k [] = 0
  · obtain ⟨hdd, n, hk, hn4, hth⟩ := ask_cases hz
    obtain ⟨hmet, herr⟩ := H.out.met hdd (by omega)
    have HM := Lib.hid hmet
    have t1 : (M.ask k [] != 0) = false := by simp [hz]
    have HTH := Lib.hid hth
    have hlen := len_le M (k := k) (by subst hk; exact ⟨by omega, by omega⟩)
    have htot := HOK.out.tot
    have hroom := HOK.out.room2
    have hF := H.out.file n hn4
    have hl1 := hF.syn.len
    have hl2 := hF.loose.len
    rw [List.length_take] at hl1
    rw [List.length_drop] at hl2
    have hsyn : (M.file k).syn ≤ (M.file k).bs.length := by
      unfold AD.file
      rcases hq : M.files k with _ | G
      · exact Nat.le_refl _
      · exact HOK.out.syn k G hq
    have hLl : M.len k = (M.file k).bs.length := (len_file M k).symm
    rw [hk] at hsyn hLl hlen
    have hsum : (D.file n).n + (D.file n).m = M.len (n : Int) := by omega
    have hs1 : (D.file n).n = (M.file (n : Int)).syn := by omega
    have hbig : (D.file n).n + (D.file n).m ≤ 65536 := by omega
    have HCx := Lib.hid (show cc = if x < 0 ∨ M.len k < x then 2 else M.err by rw [HCC.out]; unfold AD.truncC; rw [if_pos hz])
    have HMx := Lib.hid (show MM = if x < 0 ∨ M.len k < x then M else if M.err = 0 then M.met.put k ((M.file k).cut x.toNat) else M.met by rw [HMM.out]; unfold AD.truncM; rw [if_pos hz])
    have MT := Lib.hid (fun W => meet_ref D W H.out.small)
    rw [herr] at MT
    clear hmet herr hz hdd hth HCC HMM hlen htot hroom hF hl1 hl2 hsyn hLl
    subst hk
    generalize M.ask (n : Int) [] = q at *
    obtain ⟨er, her⟩ : ∃ er, er = M.err := ⟨_, rfl⟩
    rw [← her] at MT HCx HMx
    clear her
    obtain ⟨Fn, hFn⟩ : ∃ Fn, Fn = D.file n := ⟨_, rfl⟩
    rw [← hFn] at hsum hs1 hbig
    have z0 : (0 : Int) ≤ (n : Int) := by omega
    have z1 : (n : Int) < 4 := by omega
    have HFN := Lib.hid hFn
    have LF := Lib.hid (fun W (hW : BoxR w w.heap.size D W) => by have := hW.range hn4; rw [← HFN.out] at this; exact this)
    have HS1 := Lib.hid hs1
    have HSUM := Lib.hid hsum
    clear hFn hs1 hsum
    go_upto_region 5 with (first | (refine wpList_load_mid rfl 30 _ rfl _ _ rfl (rfA Fn).toList _ (LF.out _ HD2.out) Try.underlying30 rfl sizeF ?_) | (refine wpList_store_row rfl 30 _ _ rfl W2.heap.size (rfA Fn) rfl rfl 30 _ (heap_alloc_new W2 _) sizeF rfl (by simp [Value.oneCell']) ?_))
    obtain ⟨g, hg⟩ : ∃ g, g = W2.heap.size := ⟨_, rfl⟩
    have hgl : w.heap.size + 1 < g := by rw [hg]; exact hsz2
    refine name_world (fun W => BoxR w w.heap.size D W ∧ BoxR w (w.heap.size + 1) zeroR W ∧ BoxF w g Fn W) (by
      have b1 := Below.refl W2.heap.size W2 |>.alloc (Nat.le_refl _) (.cells #[.bool false, .bool false, .slice none 0 0, .slice none 0 0] 30)
      have b2 := b1.trans ((turn_row (W2.alloc (.cells #[.bool false, .bool false, .slice none 0 0, .slice none 0 0] 30)) W2.heap.size (rfA Fn)).below b1.size (fun i hi => by omega))
      exact ⟨HD2.out.later b2, HR2.out.later b2, ⟨by rw [hg]; exact setRow_box _ _ _ _ _ (heap_alloc_new W2 _), HD2.out.bel.trans (b2.mono HD2.out.bel.size)⟩⟩) ?_
    rintro W3 ⟨hD3, hR3, hF3⟩
    rw [← hg]
    have HD3 := Lib.hid hD3
    have HR3 := Lib.hid hR3
    have HF3 := Lib.hid hF3
    have g2 : W3.cell? ⟨g, 2, none⟩ = some (.slice Fn.A Fn.n Fn.c) := by simp [World.cell?, hF3.box]
    have g3 : W3.cell? ⟨g, 3, none⟩ = some (.slice Fn.B Fn.m Fn.d) := by simp [World.cell?, hF3.box]
    have HGL := Lib.hid hgl
    clear hD3 hR3 hF3 HD2 HR2 hg LF hsz2 hgl
    by_cases h0 : x < 0
    · have d0 : decide (x < 0) = true := by simp [h0]
      have hCC : Hid (cc = 2) := by unfold Hid; rw [HCx.out, if_pos (.inl h0)]
      have hMM : Hid (MM = M) := by unfold Hid; rw [HMx.out, if_pos (.inl h0)]
      clear h0
      go_wp2_with (first | (refine wp_loadR rfl _ rfl rfl HD3.out ?_) | (refine wp_storeR rfl _ _ rfl rfl rfl HR3.out ?_))
      refine bodyPost_ret (v := .tuple #[.agg (rdA D), .int .i64 2]) (results_two rfl rfl (HR3.out.fill (Nat.le_succ _) D) rfl) rfl ⟨D, by rw [hCC.out], by rw [hMM.out]; exact H.out.below (HR3.out.fill (Nat.le_succ _) D).bel, (HR3.out.fill (Nat.le_succ _) D).bel⟩
    · have d0 : decide (x < 0) = false := by simp; omega
      obtain ⟨y, hy⟩ : ∃ y : Nat, x = (y : Int) := ⟨x.toNat, by omega⟩
      subst hy
      by_cases h1 : M.len (n : Int) < y
      · have hCC : Hid (cc = 2) := by unfold Hid; rw [HCx.out, if_pos (.inr (by omega))]
        have hMM : Hid (MM = M) := by unfold Hid; rw [HMx.out, if_pos (.inr (by omega))]
        have d1 : decide ((Fn.n : Int) + (Fn.m : Int) < (y : Int)) = true := by have := HSUM.out; simp; omega
        clear h0 h1
        go_wp2_with (first | (refine wp_loadR rfl _ rfl rfl HD3.out ?_) | (refine wp_storeR rfl _ _ rfl rfl rfl HR3.out ?_))
        refine bodyPost_ret (v := .tuple #[.agg (rdA D), .int .i64 2]) (results_two rfl rfl (HR3.out.fill (Nat.le_succ _) D) rfl) rfl ⟨D, by rw [hCC.out], by rw [hMM.out]; exact H.out.below (HR3.out.fill (Nat.le_succ _) D).bel, (HR3.out.fill (Nat.le_succ _) D).bel⟩
      · have hCC : Hid (cc = er) := by unfold Hid; rw [HCx.out, if_neg (by omega)]
        have hMx : Hid (MM = if er = 0 then M.met.put (n : Int) ((M.file (n : Int)).cut y) else M.met) := by unfold Hid; rw [HMx.out, if_neg (by omega)]; rfl
        have hy2 : y ≤ Fn.n + Fn.m := by rw [HSUM.out]; omega
        have d1 : decide ((Fn.n : Int) + (Fn.m : Int) < (y : Int)) = false := by simp; omega
        clear h0 h1
        go_wp2_with (refine wp_loadR rfl _ rfl rfl HD3.out ?_)
        refine (MT.out W3).mono ?_
        rintro e W4 ⟨rfl, hb4⟩
        have HD4 := Lib.hid (HD3.out.later hb4)
        have HR4 := Lib.hid (HR3.out.later hb4)
        have HF4 := Lib.hid (show BoxF w g Fn W4 from ⟨(hb4.block g (lt_of_block HF3.out.box)).trans HF3.out.box, HF3.out.bel.trans (hb4.mono HF3.out.bel.size)⟩)
        clear hb4 HD3 HR3 HF3 MT g2 g3
        go_upto_region 8 with (refine wp_storeR rfl _ _ rfl rfl rfl HD4.out ?_)
        refine name_world (fun W => BoxR w w.heap.size D.met W ∧ BoxR w (w.heap.size + 1) zeroR W ∧ BoxF w g Fn W) ⟨HD4.out.fill (Nat.le_refl _) _, HR4.out.fillOther (Nat.le_refl _) (by omega), ⟨(setRow_other _ _ _ _ (Nat.ne_of_gt (Nat.lt_of_succ_lt HGL.out))).trans HF4.out.box, (HD4.out.fill (Nat.le_refl _) D.met).bel⟩⟩ ?_
        rintro W5 ⟨hD5, hR5, hF5⟩
        have HD5 := Lib.hid hD5
        have HR5 := Lib.hid hR5
        have HF5 := Lib.hid hF5
        have g2 : W5.cell? ⟨g, 2, none⟩ = some (.slice Fn.A Fn.n Fn.c) := by simp [World.cell?, hF5.box]
        have g3 : W5.cell? ⟨g, 3, none⟩ = some (.slice Fn.B Fn.m Fn.d) := by simp [World.cell?, hF5.box]
        have f2 : W5.frozen? ⟨g, 2, none⟩ = false := by simp [World.frozen?, hF5.box]
        have f3 : W5.frozen? ⟨g, 3, none⟩ = false := by simp [World.frozen?, hF5.box]
        clear hD5 hR5 hF5 HD4 HR4 HF4
        by_cases he : er = 0
        · have t2 : (er == 0) = true := by simp [he]
          have hMM : Hid (MM = M.met.put (n : Int) ((M.file (n : Int)).cut y)) := by unfold Hid; rw [hMx.out, if_pos he]
          clear he
          obtain ⟨f, r, hmin, hy3, hf1, hr1, hf0⟩ : ∃ f r : Nat, min (y : Int) (Fn.n : Int) = (f : Int) ∧ y = f + r ∧ f ≤ Fn.n ∧ r ≤ Fn.m ∧ f = min y Fn.n := ⟨min y Fn.n, y - min y Fn.n, by omega, by omega, by omega, by omega, rfl⟩
          have HK := (H.out.file n hn4)
          rw [← HFN.out] at HK
          have hfc : (f : Int) ≤ (Fn.c : Int) := by have := HK.syn.le; omega
          have hrd : (r : Int) ≤ (Fn.d : Int) := by have := HK.loose.le; omega
          have hsub : IntKind.i64.wrap ((y : Int) - (f : Int)) = (r : Int) := by rw [show (y : Int) - (f : Int) = (r : Int) by omega]; exact IntWalk.i64_in _ (by omega)
          have u0 : (0 : Int) ≤ (f : Int) := by omega
          have u1 : (0 : Int) ≤ (r : Int) := by omega
          have HY3 := Lib.hid hy3
          have HF0 := Lib.hid hf0
          have HFF := Lib.hid hf1
          have HRR := Lib.hid hr1
          clear HK hy3 hf0 hf1 hr1 hy2 hbig d0 d1
          go_upto_region 10 with fail
          try rw [hmin]
          try rw [HF0.out.symm]
          clear hmin
          go_region
          obtain ⟨Fc, hFc⟩ : ∃ Fc : RF, Fc = ⟨Fn.there, Fn.kept, Fn.A, f, f, Fn.B, r, r⟩ := ⟨_, rfl⟩
          have hgb : w.heap.size ≤ g := Nat.le_of_lt (Nat.lt_of_succ_lt HGL.out)
          have hgn : g ≠ w.heap.size := Nat.ne_of_gt (Nat.lt_of_succ_lt HGL.out)
          have hgn1 : g ≠ w.heap.size + 1 := Nat.ne_of_gt HGL.out
          refine name_exit (fun W => BoxR w w.heap.size D.met W ∧ BoxR w (w.heap.size + 1) zeroR W ∧ BoxF w g Fc W)
            ⟨((HD5.out.setOther (p := ⟨g, 2, none⟩) hgb hgn _).setOther (p := ⟨g, 3, none⟩) hgb hgn _).drewN 1, ((HR5.out.setOther (p := ⟨g, 2, none⟩) hgb hgn1 _).setOther (p := ⟨g, 3, none⟩) hgb hgn1 _).drewN 1,
              ⟨by rw [hFc]; exact heap_set (heap_set HF5.out.box 2 _) 3 _, below_drewN ((HF5.out.bel.setCell (p := ⟨g, 2, none⟩) hgb _).setCell (p := ⟨g, 3, none⟩) hgb _) 1⟩⟩ ?_
          rintro W6 ⟨hD6, hR6, hF6⟩
          have HD6 := Lib.hid hD6
          have HR6 := Lib.hid hR6
          have HF6 := Lib.hid hF6
          have HFC := Lib.hid hFc
          clear hD6 hR6 hF6 hFc HD5 HR5 HF5 g2 g3 f2 f3 hsub u0 u1 hfc hrd hgb hgn hgn1
          go_upto_region 12 with (first | (refine wpList_load_row rfl 30 _ rfl g rfl 30 (rfA Fc) (0, 0) _ HF6.out.box Try.underlying30 rfl sizeF ?_) | (refine wp_storeF (F := Fc) rfl _ _ rfl hn4 rfl rfl HD6.out ?_))
          obtain ⟨E, hE⟩ : ∃ E, E = D.met.put n Fc := ⟨_, rfl⟩
          have HRES : Hid (RefIs w N E (M.met.put (n : Int) ((M.file (n : Int)).cut y))) := by
            unfold Hid
            rw [hE, HFC.out]
            have hf := HM.out.file n hn4
            have hfe : D.met.file n = Fn := by rw [HFN.out]; rfl
            have hme : M.met.file (n : Int) = M.file (n : Int) := by unfold AD.file; rw [met_files]
            rw [hfe, hme] at hf
            have ht : Fn.there = true := by rw [hf.there, met_files]; exact HTH.out
            have h0 := HF0.out
            have h3 := HY3.out
            have hs := HS1.out
            refine HM.out.put hn4 ⟨ht, hf.kept, ?_, ?_⟩
            · have := hf.syn.take HFF.out
              rw [List.take_take, Nat.min_eq_left (by omega)] at this
              show SlN w N Fn.A f f (((M.file (n : Int)).bs.take y).take (min (M.file (n : Int)).syn y))
              rw [List.take_take, show min (min (M.file (n : Int)).syn y) y = f by omega]
              exact this
            · have := hf.loose.take HRR.out
              show SlN w N Fn.B r r (((M.file (n : Int)).bs.take y).drop (min (M.file (n : Int)).syn y))
              rw [List.drop_take]
              rcases Nat.le_total y (M.file (n : Int)).syn with hle | hle
              · have hr : r = 0 := by omega
                rw [hr, List.take_zero] at this
                rw [hr, show y - min (M.file (n : Int)).syn y = 0 by omega, List.take_zero]
                exact this
              · rw [show min (M.file (n : Int)).syn y = (M.file (n : Int)).syn by omega, show y - (M.file (n : Int)).syn = r by omega]
                exact this
          refine name_world (fun W => BoxR w w.heap.size E W ∧ BoxR w (w.heap.size + 1) zeroR W) (by rw [hE]; exact ⟨setCells_put hn4 (Nat.le_refl _) HD6.out Fc, setCells_other (Nat.le_refl _) (by omega) HR6.out Fc⟩) ?_
          rintro W7 ⟨hD7, hR7⟩
          have HD7 := Lib.hid hD7
          have HR7 := Lib.hid hR7
          clear hD7 hR7 HD6 HR6 HF6 hE HFC
          go_wp2_with (first | (refine wp_loadR rfl _ rfl rfl HD7.out ?_) | (refine wp_storeR rfl _ _ rfl rfl rfl HR7.out ?_))
          refine bodyPost_ret (v := .tuple #[.agg (rdA E), .int .i64 er]) (results_two rfl rfl (HR7.out.fill (Nat.le_succ _) E) rfl) rfl ⟨E, by rw [hCC.out], by rw [hMM.out]; exact HRES.out.below (HR7.out.fill (Nat.le_succ _) E).bel, (HR7.out.fill (Nat.le_succ _) E).bel⟩
        · have t2 : (er == 0) = false := by simp [he]
          have hMM : Hid (MM = M.met) := by unfold Hid; rw [hMx.out, if_neg he]
          clear he
          generalize D.met = E at *
          go_wp2_with (first | (refine wp_loadR rfl _ rfl rfl HD5.out ?_) | (refine wp_storeR rfl _ _ rfl rfl rfl HR5.out ?_))
          refine bodyPost_ret (v := .tuple #[.agg (rdA E), .int .i64 er]) (results_two rfl rfl (HR5.out.fill (Nat.le_succ _) E) rfl) rfl ⟨E, by rw [hCC.out], by rw [hMM.out]; exact HM.out.below (HR5.out.fill (Nat.le_succ _) E).bel, (HR5.out.fill (Nat.le_succ _) E).bel⟩
  · have t1 : (M.ask k [] != 0) = true := by simp [hz]
    have hopC : Hid (cc = M.ask k []) := by unfold Hid; rw [HCC.out]; unfold AD.truncC; rw [if_neg hz]
    have hopM : Hid (MM = M) := by unfold Hid; rw [HMM.out]; unfold AD.truncM; rw [if_neg hz]
    clear hz HCC HMM
    generalize M.ask k [] = q at *
    go_wp2_with (first | (refine wp_loadR rfl _ rfl rfl HD2.out ?_) | (refine wp_storeR rfl _ _ rfl rfl rfl HR2.out ?_))
    refine bodyPost_ret (v := .tuple #[.agg (rdA D), .int .i64 q]) (results_two rfl rfl (HR2.out.fill (Nat.le_succ _) D) rfl) rfl ⟨D, by rw [hopC.out], by rw [hopM.out]; exact H.out.below (HR2.out.fill (Nat.le_succ _) D).bel, (HR2.out.fill (Nat.le_succ _) D).bel⟩

end Go.Proofs.Ythpbgejjfdgpaaa
