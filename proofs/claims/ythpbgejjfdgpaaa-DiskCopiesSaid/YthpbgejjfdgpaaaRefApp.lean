/-
  The document's Append.
-/
import Derived.Test.YthpbgejjfdgpaaaRefUsed
namespace Go.Proofs.Ythpbgejjfdgpaaa
open Go.RowKit
set_option linter.unusedVariables false
set_option maxRecDepth 100000

set_option maxHeartbeats 2000000 in
theorem append_ref {w : World} {N : Nat → Prop} {D : RD} {M : AD} (h : RefIs w N D M) (hok : M.Ok) (hN : ∀ g, N g → g < w.heap.size) (hops : M.ops < 4000000000000000000) (k : Int) (A : Option Addr) (c m : Nat) (bs : List Int) (hbs : bs.length = m) (hr : Rd w w.heap.size A bs) (hm : m ≤ 65536) :
    Calls Try.prog 48 #[.agg (rdA D), .int .i64 k, .slice A m c] w (RefGives w N (M.appendM k bs) (M.appendC k m)) := by
  have H := Lib.hid h
  have HOK := Lib.hid hok
  have HN := Lib.hid hN
  have HRB := Lib.hid hr
  have HBS := Lib.hid hbs
  obtain ⟨cc, hcc⟩ : ∃ cc, cc = M.appendC k m := ⟨_, rfl⟩
  obtain ⟨MM, hMM⟩ : ∃ MM, MM = M.appendM k bs := ⟨_, rfl⟩
  rw [← hcc, ← hMM]
  have NM := Lib.hid name_ref
  have hdead := h.dead
  obtain ⟨U, hU⟩ : ∃ U, U = D.used 4 := ⟨_, rfl⟩
  have hUT : U = M.total := by rw [hU]; exact used_total h
  have hU5 : U ≤ 65536 := by have h1 := hok.tot; have h2 := hok.room2; omega
  have US := Lib.hid (fun W => used_ref D W (by rw [← hU]; exact hU5))
  rw [← hU] at US
  have hroom := h.room
  have hr1 := hok.room1
  have hr2 := hok.room2
  clear h hok hN hr hbs hU
  go_enter Try.func48, Try.ntmps48
  go_upto_region 1 with fail
  refine name_world (fun W => BoxR w w.heap.size D W ∧ BoxR w (w.heap.size + 1) zeroR W) (two_boxes w D) ?_
  rintro W1 ⟨hD, hR⟩
  have HD1 := Lib.hid hD
  have HR1 := Lib.hid hR
  have y20 := HD1.out.c20
  clear hD hR
  rcases hdd : D.dead with _ | _
  · rw [hdd] at y20
    have hmd : M.dead = false := by rw [← hdead]; exact hdd
    by_cases hnk : Name k
    · have nk : decide (Name k) = true := decide_eq_true hnk
      have hsum : IntKind.i64.wrap ((U : Int) + (m : Int)) = (U : Int) + (m : Int) := IntWalk.i64_in _ (by omega)
      by_cases hf : M.room - M.total < m
      · have d1 : decide (D.room < (U : Int) + (m : Int)) = true := by simp; omega
        have hCC : Hid (cc = 6) := by unfold Hid; rw [hcc]; unfold AD.appendC; simp [hmd, hnk, hf]
        have hMm : Hid (MM = M) := by unfold Hid; rw [hMM]; unfold AD.appendM; rw [HBS.out]; simp [hmd, hnk, hf]
        clear hcc hMM hdead hUT hU5 hroom hr1 hr2 hmd hnk hdd hf hm hops
        go_upto_region 5 with (go_at_call 77; (with_reducible refine (name_yes (NM.out _) nk).mono ?_); rintro e w' ⟨rfl, rfl⟩)
        refine wp_region_held_drew (S := fun W => BoxR w w.heap.size D W ∧ BoxR w (w.heap.size + 1) zeroR W) (by kernel_rfl) ⟨HD1.out.drewN 1, HR1.out.drewN 1⟩ (fun hS => ?_)
        refine wpAnyH_take (i := 0) rfl (by kernel_rfl) (by kernel_rfl) (by kernel_rfl) (fun _ _ _ h => h) (yields_loadR (w := w) (D := D) rfl rfl _ rfl rfl (fun W h => h.1)) hS ?_
        refine wpAnyH_take (i := 2) rfl (by kernel_rfl) (by kernel_rfl) (by kernel_rfl) (fun _ _ _ h => h) (Or.inl ⟨by rfl, fun W h => by go_simp; rfl⟩) hS ?_
        refine wpAnyH_take (i := 3) rfl (by kernel_rfl) (by kernel_rfl) (by kernel_rfl) (fun _ _ _ h => h) (Or.inl ⟨by rfl, fun W h => by go_simp; rfl⟩) hS ?_
        refine wpAnyH_take (i := 5) rfl (by kernel_rfl) (by kernel_rfl) (by kernel_rfl) (fun _ _ _ h => h) (Or.inl ⟨by rfl, fun W h => by go_simp; rfl⟩) hS ?_
        refine wpAnyH_take (i := 6) rfl (by kernel_rfl) (by kernel_rfl) (by kernel_rfl) (fun _ _ _ h => h) (Or.inl ⟨by rfl, fun W h => by have c0 := h.1.c0; go_simp; rfl⟩) hS ?_
        refine wpAnyH_ready (rs := [1]) (by kernel_rfl) (by simp) ?_
        refine AllReadyH.cons rfl (fun K hK => ?_) AllReadyH.nil
        rw [if_pos (by rfl)]
        go_simp
        go_at_call 78
        refine (US.out _).mono ?_
        rintro e W2 ⟨rfl, hb2⟩
        change K _ _
        have HD2 := Lib.hid (hS.1.later hb2)
        have HR2 := Lib.hid (hS.2.later hb2)
        refine hK.out _ _ ⟨HD2.out, HR2.out⟩ (fun hS => ?_)
        clear hK K hb2 HD1 HR1
        try simp only [Act.put, List.setIfInBounds_toArray, List.set_cons_zero, List.set_cons_succ]
        refine wpAnyH_take (i := 4) rfl (by kernel_rfl) (by kernel_rfl) (by kernel_rfl) (fun _ _ _ h => h) (Or.inl ⟨by rfl, fun W h => by go_simp; rfl⟩) hS ?_
        refine wpAnyH_take (i := 7) rfl (by kernel_rfl) (by kernel_rfl) (by kernel_rfl) (fun _ _ _ h => h) (Or.inl ⟨by rfl, fun W h => by go_simp; rfl⟩) hS ?_
        refine wpAnyH_take (i := 8) rfl (by kernel_rfl) (by kernel_rfl) (by kernel_rfl) (fun _ _ _ h => h) (Or.inl ⟨by rfl, fun W h => by go_simp; rfl⟩) hS ?_
        refine wpAnyH_done (by kernel_rfl) ?_ _
        clear hS
        go_wp2_with (first | (refine wp_loadR rfl _ rfl rfl HD2.out ?_) | (refine wp_storeR rfl _ _ rfl rfl rfl HR2.out ?_))
        refine bodyPost_ret (v := .tuple #[.agg (rdA D), .int .i64 6]) (results_two rfl rfl (HR2.out.fill (Nat.le_succ _) D) rfl) rfl ⟨D, by rw [hCC.out], by rw [hMm.out]; exact H.out.below (HR2.out.fill (Nat.le_succ _) D).bel, (HR2.out.fill (Nat.le_succ _) D).bel⟩
      · have d1 : decide (D.room < (U : Int) + (m : Int)) = false := by simp; omega
        obtain ⟨hmet, herr⟩ := H.out.met hmd (by omega)
        have hCC : Hid (cc = M.err) := by unfold Hid; rw [hcc]; unfold AD.appendC; simp [hmd, hnk, hf]
        have hMx : Hid (MM = if M.err = 8 then M.met else M.met.put k ((M.file k).lay bs)) := by unfold Hid; rw [hMM]; unfold AD.appendM; rw [HBS.out]; simp [hmd, hnk, hf]
        obtain ⟨n, hk⟩ : ∃ n : Nat, k = (n : Int) := ⟨k.toNat, by have := hnk.1; omega⟩
        have hn4 : n < 4 := by have := hnk.2; omega
        have hlen := len_le M (k := k) hnk
        have hLl := len_file M k
        have hblen : (M.file k).bs.length + m ≤ 140737488355328 := by have h1 := HOK.out.tot; omega
        have hsyn : (M.file k).syn ≤ (M.file k).bs.length := by
          unfold AD.file
          rcases hq : M.files k with _ | G
          · exact Nat.le_refl _
          · exact HOK.out.syn k G hq
        have HM := Lib.hid hmet
        have MT := Lib.hid (fun W => meet_ref D W H.out.small)
        rw [herr] at MT
        obtain ⟨er, her⟩ : ∃ er, er = M.err := ⟨_, rfl⟩
        rw [← her] at MT hCC hMx
        have HBL := Lib.hid hblen
        have HSY := Lib.hid hsyn
        clear her hmet herr hcc hMM hdead hUT hU5 hroom hr1 hr2 hmd hnk hdd hf hm hops hlen hLl hblen hsyn
        subst hk
        go_upto_region 5 with (go_at_call 77; (with_reducible refine (name_yes (NM.out _) nk).mono ?_); rintro e w' ⟨rfl, rfl⟩)
        refine wp_region_held_drew (S := fun W => BoxR w w.heap.size D W ∧ BoxR w (w.heap.size + 1) zeroR W) (by kernel_rfl) ⟨HD1.out.drewN 1, HR1.out.drewN 1⟩ (fun hS => ?_)
        refine wpAnyH_take (i := 0) rfl (by kernel_rfl) (by kernel_rfl) (by kernel_rfl) (fun _ _ _ h => h) (yields_loadR (w := w) (D := D) rfl rfl _ rfl rfl (fun W h => h.1)) hS ?_
        refine wpAnyH_take (i := 2) rfl (by kernel_rfl) (by kernel_rfl) (by kernel_rfl) (fun _ _ _ h => h) (Or.inl ⟨by rfl, fun W h => by go_simp; rfl⟩) hS ?_
        refine wpAnyH_take (i := 3) rfl (by kernel_rfl) (by kernel_rfl) (by kernel_rfl) (fun _ _ _ h => h) (Or.inl ⟨by rfl, fun W h => by go_simp; rfl⟩) hS ?_
        refine wpAnyH_take (i := 5) rfl (by kernel_rfl) (by kernel_rfl) (by kernel_rfl) (fun _ _ _ h => h) (Or.inl ⟨by rfl, fun W h => by go_simp; rfl⟩) hS ?_
        refine wpAnyH_take (i := 6) rfl (by kernel_rfl) (by kernel_rfl) (by kernel_rfl) (fun _ _ _ h => h) (Or.inl ⟨by rfl, fun W h => by have c0 := h.1.c0; go_simp; rfl⟩) hS ?_
        refine wpAnyH_ready (rs := [1]) (by kernel_rfl) (by simp) ?_
        refine AllReadyH.cons rfl (fun K hK => ?_) AllReadyH.nil
        rw [if_pos (by rfl)]
        go_simp
        go_at_call 78
        refine (US.out _).mono ?_
        rintro e W2 ⟨rfl, hb2⟩
        change K _ _
        have HD2 := Lib.hid (hS.1.later hb2)
        have HR2 := Lib.hid (hS.2.later hb2)
        refine hK.out _ _ ⟨HD2.out, HR2.out⟩ (fun hS => ?_)
        clear hK K hb2 HD1 HR1
        try simp only [Act.put, List.setIfInBounds_toArray, List.set_cons_zero, List.set_cons_succ]
        refine wpAnyH_take (i := 4) rfl (by kernel_rfl) (by kernel_rfl) (by kernel_rfl) (fun _ _ _ h => h) (Or.inl ⟨by rfl, fun W h => by go_simp; rfl⟩) hS ?_
        refine wpAnyH_take (i := 7) rfl (by kernel_rfl) (by kernel_rfl) (by kernel_rfl) (fun _ _ _ h => h) (Or.inl ⟨by rfl, fun W h => by go_simp; rfl⟩) hS ?_
        refine wpAnyH_take (i := 8) rfl (by kernel_rfl) (by kernel_rfl) (by kernel_rfl) (fun _ _ _ h => h) (Or.inl ⟨by rfl, fun W h => by go_simp; rfl⟩) hS ?_
        refine wpAnyH_done (by kernel_rfl) ?_ _
        clear hS
        go_wp2_with (refine wp_loadR rfl _ rfl rfl HD2.out ?_)
        refine (MT.out W2).mono ?_
        rintro e W3 ⟨rfl, hb3⟩
        have HD3 := Lib.hid (HD2.out.later hb3)
        have HR3 := Lib.hid (HR2.out.later hb3)
        clear hb3 HD2 HR2 MT
        go_upto_region 8 with (refine wp_storeR rfl _ _ rfl rfl rfl HD3.out ?_)
        refine name_world (fun W => BoxR w w.heap.size D.met W ∧ BoxR w (w.heap.size + 1) zeroR W) ⟨HD3.out.fill (Nat.le_refl _) _, HR3.out.fillOther (Nat.le_refl _) (by omega)⟩ ?_
        rintro W4 ⟨hD4, hR4⟩
        have HD4 := Lib.hid hD4
        have HR4 := Lib.hid hR4
        clear hD4 hR4 HD3 HR3
        by_cases he : er = 8
        · have t2 : (er == 8) = true := by simp [he]
          have hMm : Hid (MM = M.met) := by unfold Hid; rw [hMx.out, if_pos he]
          clear he
          generalize D.met = E at *
          go_wp2_with (first | (refine wp_loadR rfl _ rfl rfl HD4.out ?_) | (refine wp_storeR rfl _ _ rfl rfl rfl HR4.out ?_))
          refine bodyPost_ret (v := .tuple #[.agg (rdA E), .int .i64 er]) (results_two rfl rfl (HR4.out.fill (Nat.le_succ _) E) rfl) rfl ⟨E, by rw [hCC.out], by rw [hMm.out]; exact HM.out.below (HR4.out.fill (Nat.le_succ _) E).bel, (HR4.out.fill (Nat.le_succ _) E).bel⟩
        · have t2 : (er == 8) = false := by simp [he]
          have hMm : Hid (MM = M.met.put (n : Int) ((M.file (n : Int)).lay bs)) := by unfold Hid; rw [hMx.out, if_neg he]
          clear he
          generalize D.met = E at *
          have hme : M.met.file (n : Int) = M.file (n : Int) := by unfold AD.file; rw [met_files]
          have LA := Lib.hid (laid_ref (HM.out.turn (N' := fun g => N g ∨ g = w.heap.size + 1) (S := fun _ => False) ⟨HD4.out.bel.os, HD4.out.bel.tape, HD4.out.bel.output, HD4.out.bel.size, fun i hi _ => HD4.out.bel.block i hi⟩ (fun _ _ e => e.elim) (fun g hg e => e.elim id (fun e => by omega))) (fun g hg => hg.elim (fun e => Nat.lt_of_lt_of_le (HN.out g e) HD4.out.bel.size) (fun e => by have := lt_of_block HR4.out.box; omega)) hn4 A c m bs HBS.out ((HRB.out.below HD4.out.bel).wide HD4.out.bel.size) (by rw [hme]; exact HSY.out) (by rw [hme]; exact HBL.out))
          rw [hme] at LA
          clear hme
          go_wp2_with (refine wp_loadR rfl _ rfl rfl HD4.out ?_)
          refine LA.out.mono ?_
          rintro e W5 ⟨E5, rfl, hres, hb5⟩
          have HR5 := Lib.hid (HR4.out.later hb5)
          have HRES := Lib.hid hres
          clear hb5 hres HR4 LA
          go_wp2_with (refine wp_storeR rfl _ _ rfl rfl rfl HR5.out ?_)
          have hbl := turn_row W5 (w.heap.size + 1) (rdA E5)
          refine bodyPost_ret (v := .tuple #[.agg (rdA E5), .int .i64 er]) (results_two rfl rfl (HR5.out.fill (Nat.le_succ _) E5) rfl) rfl ⟨E5, by rw [hCC.out], by rw [hMm.out]; exact HRES.out.turn hbl (fun g _ e => .inr e) (fun g _ e => .inl e), (HR5.out.fill (Nat.le_succ _) E5).bel⟩
    · have nk : decide (Name k) = false := decide_eq_false hnk
      have hCC : Hid (cc = 120) := by unfold Hid; rw [hcc]; unfold AD.appendC; simp [hmd, hnk]
      have hMm : Hid (MM = M) := by unfold Hid; rw [hMM]; unfold AD.appendM; simp [hmd, hnk]
      clear hcc hMM hdead hUT hU5 hroom hr1 hr2 hmd hnk hdd hm hops
      go_wp2_with (first | (go_at_call 77; (with_reducible refine (name_yes (NM.out _) nk).mono ?_); rintro e w' ⟨rfl, rfl⟩) | (refine wp_loadR rfl _ rfl rfl HD1.out ?_) | (refine wp_storeR rfl _ _ rfl rfl rfl HR1.out ?_))
      refine bodyPost_ret (v := .tuple #[.agg (rdA D), .int .i64 120]) (results_two rfl rfl (HR1.out.fill (Nat.le_succ _) D) rfl) rfl ⟨D, by rw [hCC.out], by rw [hMm.out]; exact H.out.below (HR1.out.fill (Nat.le_succ _) D).bel, (HR1.out.fill (Nat.le_succ _) D).bel⟩
  · rw [hdd] at y20
    have hmd : M.dead = true := by rw [← hdead]; exact hdd
    have hCC : Hid (cc = 9) := by unfold Hid; rw [hcc]; unfold AD.appendC; simp [hmd]
    have hMm : Hid (MM = M) := by unfold Hid; rw [hMM]; unfold AD.appendM; simp [hmd]
    clear hcc hMM hdead hUT hU5 hroom hr1 hr2 hmd hdd hm hops
    go_wp2_with (first | (refine wp_loadR rfl _ rfl rfl HD1.out ?_) | (refine wp_storeR rfl _ _ rfl rfl rfl HR1.out ?_))
    refine bodyPost_ret (v := .tuple #[.agg (rdA D), .int .i64 9]) (results_two rfl rfl (HR1.out.fill (Nat.le_succ _) D) rfl) rfl ⟨D, by rw [hCC.out], by rw [hMm.out]; exact H.out.below (HR1.out.fill (Nat.le_succ _) D).bel, (HR1.out.fill (Nat.le_succ _) D).bel⟩

end Go.Proofs.Ythpbgejjfdgpaaa
