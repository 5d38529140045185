/-
  The document's Rename.
-/
import Derived.Test.YthpbgejjfdgpaaaRefRead
namespace Go.Proofs.Ythpbgejjfdgpaaa
open Go.RowKit
set_option linter.unusedVariables false
set_option maxRecDepth 100000

theorem yields_loadG {ops : Array Oper} {S : World → Prop} {o : Oper} {a : Act} (hw : Region.wanted o (yielded ops a.tmps) = true) (x : Operand) (ho : o.op = .load 30 x) {g : Nat} {F : RF} (hx : a.eval x = .pointer (some ⟨g, 0, none⟩)) (hS : ∀ W, S W → W.heap[g]? = some (.cells (rfA F) 30 (0, 0))) :
    YieldsIf Try.prog ops S o (.agg (rfA F)) a :=
  .inl ⟨hw, fun W hW => by
    unfold execOp
    simp only [ho, hx, Instr.loadAt, Instr.sureAddr, Sem.run_bind, Sem.run_pure, Result.andThen_ok, run_loadVar_row W g 30 30 (rfA F) (0, 0) _ (hS W hW) Try.underlying30 rfl sizeF]⟩
theorem wp_putF {o : Oper} {a : Act} {w W : World} {K : Act → World → Prop} {Q : Exit → Act → World → Prop} (x y : Operand) (ho : o.op = .store 30 x y) {b n : Nat} {D : RD} {F : RF} (hn : n < 4) (hx : a.eval x = .pointer (some ⟨b, 1 + n * 4, none⟩)) (hy : a.eval y = .agg (rfA F)) (hd : BoxR w b D W)
    (h : K (a.put o.dst undef) (W.setCells b (1 + n * 4) (rfA F).toList)) : o.wp Try.prog a W K Q :=
  wp_store_mid 30 x y ho b (1 + n * 4) (rfA F) hx hy (there_box hn hd F) sizeF (by simp [Value.oneCell']) h
/-- A file's own block. -/
structure BoxF (w : World) (g : Nat) (F : RF) (W : World) : Prop where
  box : W.heap[g]? = some (.cells (rfA F) 30 (0, 0))
  bel : Below w.heap.size w W
theorem BoxF.cells {w W : World} {g : Nat} {F : RF} (h : BoxF w g F W) {b o : Nat} (hb : w.heap.size ≤ b) (hne : b ≠ g) (vs : List Value) : BoxF w g F (W.setCells b o vs) := by
  have ht := turn_setCells W b o vs
  exact ⟨(ht.block g (lt_of_block h.box) (fun e => hne e.symm)).trans h.box, h.bel.trans (ht.below h.bel.size (fun i hi => by omega))⟩
theorem name_exit {Q : Exit → Act → World → Prop} {x : Exit} {a : Act} {w : World} (Φ : World → Prop) (h : Φ w) (k : ∀ w', Φ w' → Q x a w') : Q x a w := k w h
def AD.renM (M : AD) (k j : Int) : AD := M.opM k [j] (M.met.move k j)
theorem ask_zero2 {M : AD} {k j : Int} (h1 : M.dead = false) (h2 : Name k) (h3 : Name j) (h4 : (M.files k).isSome = true) : M.ask k [j] = 0 := by
  unfold AD.ask
  simp [h1, h2, h3, h4]
theorem ren_refused {M : AD} {k j : Int} (h : M.ask k [j] ≠ 0) : M.opC k [j] = M.ask k [j] ∧ M.renM k j = M := by
  unfold AD.renM AD.opC AD.opM
  rw [if_neg h, if_neg h]
  exact ⟨rfl, rfl⟩
theorem name_yes {k : Int} {v : Bool} (h : ∀ w, Calls Try.prog 77 #[.int .i64 k] w fun e w' => e = .returned (.bool (decide (Name k))) ∧ w = w') (hv : decide (Name k) = v) {w : World} : Calls Try.prog 77 #[.int .i64 k] w fun e w' => e = .returned (.bool v) ∧ w = w' := by
  subst hv
  exact h w

set_option maxHeartbeats 2000000 in
theorem rename_ref {w : World} {N : Nat → Prop} {D : RD} {M : AD} (h : RefIs w N D M) (hops : M.ops < 4000000000000000000) (k j : Int) :
    Calls Try.prog 44 #[.agg (rdA D), .int .i64 k, .int .i64 j] w (RefGives w N (M.renM k j) (M.opC k [j])) := by
  have H := Lib.hid h
  obtain ⟨cc, hcc⟩ : ∃ cc, cc = M.opC k [j] := ⟨_, rfl⟩
  obtain ⟨MM, hMM⟩ : ∃ MM, MM = M.renM k j := ⟨_, rfl⟩
  rw [← hcc, ← hMM]
  have HCC := Lib.hid hcc
  have HMM := Lib.hid hMM
  have NM := Lib.hid name_ref
  have HDD := Lib.hid h.dead
  clear h hcc hMM
  go_enter Try.func44, Try.ntmps44
  go_upto_region 1 with fail
  refine name_world (fun W => BoxR w w.heap.size D W ∧ BoxR w (w.heap.size + 1) zeroR W) (two_boxes w D) ?_
  rintro W1 ⟨hD, hR⟩
  have HD := Lib.hid hD
  have HR := Lib.hid hR
  have y20 := HD.out.c20
  clear hD hR
  rcases hdd : D.dead with _ | _
  · rw [hdd] at y20
    have hmd : M.dead = false := by rw [← HDD.out]; exact hdd
    by_cases hnk : Name k
    · have nk : decide (Name k) = true := decide_eq_true hnk
      by_cases hnj : Name j
      · have nj : decide (Name j) = true := decide_eq_true hnj
        obtain ⟨n, hk⟩ : ∃ n : Nat, k = (n : Int) := ⟨k.toNat, by have := hnk.1; omega⟩
        obtain ⟨m, hj⟩ : ∃ m : Nat, j = (m : Int) := ⟨j.toNat, by have := hnj.1; omega⟩
        subst hk
        subst hj
        have hn4 : n < 4 := by have := hnk.2; omega
        have hm4 : m < 4 := by have := hnj.2; omega
        have c0 := HD.out.file0 hn4
        have z0 : (0 : Int) ≤ (n : Int) := by omega
        have z1 : (n : Int) < 4 := by omega
        have z2 : (0 : Int) ≤ (m : Int) := by omega
        have z3 : (m : Int) < 4 := by omega
        rcases hth : (D.file n).there with _ | _
        · rw [hth] at c0
          have hfn : (M.files (n : Int)).isSome = false := by rw [← (H.out.file n hn4).there]; exact hth
          have hask : M.ask (n : Int) [(m : Int)] = 4 := by unfold AD.ask; simp [hmd, hnk, hnj, hfn]
          have hq := ren_refused (M := M) (k := (n : Int)) (j := (m : Int)) (by rw [hask]; simp)
          rw [hask] at hq
          have HQ := Lib.hid hq
          clear hq
          clear hask hfn hmd hnk hnj hth hdd
          go_wp2_with (first | (go_at_call 77; (with_reducible refine (name_yes (NM.out _) nk).mono ?_); rintro e w' ⟨rfl, rfl⟩) | (go_at_call 77; (with_reducible refine (name_yes (NM.out _) nj).mono ?_); rintro e w' ⟨rfl, rfl⟩) | (refine wp_loadR rfl _ rfl rfl HD.out ?_) | (refine wp_storeR rfl _ _ rfl rfl rfl HR.out ?_))
          refine bodyPost_ret (v := .tuple #[.agg (rdA D), .int .i64 4]) (results_two rfl rfl (HR.out.fill (Nat.le_succ _) D) rfl) rfl ⟨D, by rw [HCC.out, HQ.out.1], by rw [HMM.out, HQ.out.2]; exact H.out.below (HR.out.fill (Nat.le_succ _) D).bel, (HR.out.fill (Nat.le_succ _) D).bel⟩
        · rw [hth] at c0
          have hfn : (M.files (n : Int)).isSome = true := by rw [← (H.out.file n hn4).there]; exact hth
          have hask := ask_zero2 hmd hnk hnj hfn
          obtain ⟨hmet, herr⟩ := H.out.met hmd (by omega)
          have HM := Lib.hid hmet
          have HFN := Lib.hid hfn
          have hopC : Hid (cc = M.err) := by unfold Hid; rw [HCC.out]; unfold AD.opC; rw [if_pos hask]
          have hopM : Hid (MM = if M.err = 0 then M.met.move (n : Int) (m : Int) else M.met) := by unfold Hid; rw [HMM.out]; unfold AD.renM AD.opM; rw [if_pos hask]
          have MT := Lib.hid (fun W => meet_ref D W H.out.small)
          rw [herr] at MT
          clear hmet herr hask hfn hmd hnk hnj hth hdd HCC HMM
          obtain ⟨er, her⟩ : ∃ er, er = M.err := ⟨_, rfl⟩
          rw [← her] at MT hopC hopM
          clear her
          go_wp2_with (first | (go_at_call 77; (with_reducible refine (name_yes (NM.out _) nk).mono ?_); rintro e w' ⟨rfl, rfl⟩) | (go_at_call 77; (with_reducible refine (name_yes (NM.out _) nj).mono ?_); rintro e w' ⟨rfl, rfl⟩) | (refine wp_loadR rfl _ rfl rfl HD.out ?_))
          refine (MT.out W1).mono ?_
          rintro e W3 ⟨rfl, hb3⟩
          have HD3 := Lib.hid (HD.out.later hb3)
          have HR3 := Lib.hid (HR.out.later hb3)
          clear hb3 HD HR MT c0 y20
          go_upto_region 8 with (refine wp_storeR rfl _ _ rfl rfl rfl HD3.out ?_)
          refine name_world (fun W => BoxR w w.heap.size D.met W ∧ BoxR w (w.heap.size + 1) zeroR W) ⟨HD3.out.fill (Nat.le_refl _) _, HR3.out.fillOther (Nat.le_refl _) (by omega)⟩ ?_
          rintro W4 ⟨hD4, hR4⟩
          have HD4 := Lib.hid hD4
          have HR4 := Lib.hid hR4
          clear hD4 hR4 HD3 HR3
          by_cases he : er = 0
          · have t2 : (er == 0) = true := by simp [he]
            by_cases hnm : n = m
            · have t3 : ((n : Int) != (m : Int)) = false := by simp [hnm]
              have hMM : Hid (MM = M.met) := by unfold Hid; rw [hopM.out, if_pos he]; unfold AD.move; rw [if_pos (by omega)]
              clear he hopM hnm
              generalize D.met = E at *
              go_wp2_with (first | (refine wp_loadR rfl _ rfl rfl HD4.out ?_) | (refine wp_storeR rfl _ _ rfl rfl rfl HR4.out ?_))
              refine bodyPost_ret (v := .tuple #[.agg (rdA E), .int .i64 er]) (results_two rfl rfl (HR4.out.fill (Nat.le_succ _) E) rfl) rfl ⟨E, by rw [hopC.out], by rw [hMM.out]; exact HM.out.below (HR4.out.fill (Nat.le_succ _) E).bel, (HR4.out.fill (Nat.le_succ _) E).bel⟩
            · have t3 : ((n : Int) != (m : Int)) = true := by simp; omega
              have hMM : Hid (MM = (M.met.drop (n : Int)).put (m : Int) (M.met.file (n : Int)).held) := by unfold Hid; rw [hopM.out, if_pos he]; unfold AD.move; rw [if_neg (by omega)]
              clear he hopM hnm
              obtain ⟨Fn, hFn⟩ : ∃ Fn, Fn = D.file n := ⟨_, rfl⟩
              have HF2 := Lib.hid (show D.met.file n = Fn by rw [hFn]; rfl)
              clear hFn
              have LF := Lib.hid (fun W (hW : BoxR w w.heap.size D.met W) => by have := hW.range hn4; rw [HF2.out] at this; exact this)
              go_upto_region 10 with (first | (refine wpList_load_mid rfl 30 _ rfl _ _ rfl (rfA Fn).toList _ (LF.out _ HD4.out) Try.underlying30 rfl sizeF ?_) | (refine wpList_store_row rfl 30 _ _ rfl W4.heap.size (rfA Fn) rfl rfl 30 _ (heap_alloc_new W4 _) sizeF rfl (by simp [Value.oneCell']) ?_))
              obtain ⟨g, hg⟩ : ∃ g, g = W4.heap.size := ⟨_, rfl⟩
              have hgl : w.heap.size + 1 < g := by rw [hg]; exact lt_of_block HR4.out.box
              refine name_world (fun W => BoxR w w.heap.size D.met W ∧ BoxR w (w.heap.size + 1) zeroR W ∧ BoxF w g Fn W) (by
                have b1 := Below.refl W4.heap.size W4 |>.alloc (Nat.le_refl _) (.cells #[.bool false, .bool false, .slice none 0 0, .slice none 0 0] 30)
                have b2 := b1.trans ((turn_row (W4.alloc (.cells #[.bool false, .bool false, .slice none 0 0, .slice none 0 0] 30)) W4.heap.size (rfA Fn)).below b1.size (fun i hi => by omega))
                exact ⟨HD4.out.later b2, HR4.out.later b2, ⟨by rw [hg]; exact setRow_box _ _ _ _ _ (heap_alloc_new W4 _), HD4.out.bel.trans (b2.mono HD4.out.bel.size)⟩⟩) ?_
              rintro W5 ⟨hD5, hR5, hF5⟩
              rw [← hg]
              have HD5 := Lib.hid hD5
              have HR5 := Lib.hid hR5
              have HF5 := Lib.hid hF5
              have g1 : W5.cell? ⟨g, 1, none⟩ = some (.bool Fn.kept) := by simp [World.cell?, hF5.box]
              have g2 : W5.frozen? ⟨g, 1, none⟩ = false := by simp [World.frozen?, hF5.box]
              clear hD5 hR5 hF5 HD4 HR4 hg LF
              go_upto_region 11 with fail
              obtain ⟨Fh, hFh⟩ : ∃ Fh : RF, Fh = { Fn with kept := true } := ⟨_, rfl⟩
              refine name_world (fun W => BoxR w w.heap.size D.met W ∧ BoxR w (w.heap.size + 1) zeroR W ∧ BoxF w g Fh W) ⟨HD5.out.setOther (p := ⟨g, 1, none⟩) (Nat.le_of_lt (Nat.lt_of_succ_lt hgl)) (Nat.ne_of_gt (Nat.lt_of_succ_lt hgl)) _, HR5.out.setOther (p := ⟨g, 1, none⟩) (Nat.le_of_lt (Nat.lt_of_succ_lt hgl)) (Nat.ne_of_gt hgl) _, ⟨by rw [hFh]; exact heap_set HF5.out.box 1 _, HF5.out.bel.setCell (p := ⟨g, 1, none⟩) (Nat.le_of_lt (Nat.lt_of_succ_lt hgl)) _⟩⟩ ?_
              rintro W6 ⟨hD6, hR6, hF6⟩
              have HD6 := Lib.hid (hD6.drewN 1)
              have HR6 := Lib.hid (hR6.drewN 1)
              have HF6 := Lib.hid (show BoxF w g Fh (W6.drewN 1) from ⟨hF6.box, below_drewN hF6.bel 1⟩)
              have HFH := Lib.hid hFh
              have HGL := Lib.hid hgl
              clear hD6 hR6 hF6 HD5 HR5 HF5 g1 g2 hFh hgl
              refine wp_region_held_drew (S := fun W => BoxF w g Fh W) (by kernel_rfl) HF6.out (fun hS => ?_)
              refine wpAnyH_take (i := 0) rfl (by kernel_rfl) (by kernel_rfl) (by kernel_rfl) (fun _ _ _ h => h) (Or.inl ⟨by rfl, fun W h => by go_simp; rfl⟩) hS ?_
              refine wpAnyH_take (i := 1) rfl (by kernel_rfl) (by kernel_rfl) (by kernel_rfl) (fun _ _ _ h => h) (Or.inl ⟨by rfl, fun W h => by go_simp; rfl⟩) hS ?_
              refine wpAnyH_take (i := 2) rfl (by kernel_rfl) (by kernel_rfl) (by kernel_rfl) (fun _ _ _ h => h) (Or.inl ⟨by rfl, fun W h => by go_simp; rfl⟩) hS ?_
              refine wpAnyH_take (i := 3) rfl (by kernel_rfl) (by kernel_rfl) (by kernel_rfl) (fun _ _ _ h => h) (yields_loadG rfl _ rfl rfl (fun W h => BoxF.box h)) hS ?_
              refine wpAnyH_take (i := 4) rfl (by kernel_rfl) (by kernel_rfl) (by kernel_rfl) (fun _ _ _ h => h) (Or.inl ⟨by rfl, fun W h => by go_simp; rfl⟩) hS ?_
              refine wpAnyH_take (i := 5) rfl (by kernel_rfl) (by kernel_rfl) (by kernel_rfl) (fun _ _ _ h => h) (Or.inl ⟨by rfl, fun W h => by go_simp; rfl⟩) hS ?_
              refine wpAnyH_take (i := 7) rfl (by kernel_rfl) (by kernel_rfl) (by kernel_rfl) (fun _ _ _ h => h) (Or.inl ⟨by rfl, fun W h => by go_simp; rfl⟩) hS ?_
              refine wpAnyH_ready (rs := [6]) (by kernel_rfl) (by simp) ?_
              refine AllReadyH.cons rfl (fun K hK => ?_) AllReadyH.nil
              rw [if_pos (by rfl)]
              simp only [List.getElem_toArray, List.getElem_cons_zero, List.getElem_cons_succ, Act.put, List.setIfInBounds_toArray, List.set_cons_zero, List.set_cons_succ]
              refine wp_putF (F := RF.none) _ _ rfl hn4 rfl rfl HD6.out ?_
              have HD7 := Lib.hid (setCells_put hn4 (Nat.le_refl _) HD6.out RF.none)
              have HR7 := Lib.hid (setCells_other (n := n) (Nat.le_refl _) (by omega) HR6.out RF.none)
              refine hK.out _ _ (hS.cells (Nat.le_refl _) (Nat.ne_of_lt (Nat.lt_of_succ_lt HGL.out)) _) (fun hS => ?_)
              clear hK K
              try simp only [Act.put]
              refine wpAnyH_take (i := 8) rfl (by kernel_rfl) (by kernel_rfl) (by kernel_rfl) (fun _ _ _ h => h) (Or.inl ⟨by rfl, fun W h => by go_simp; rfl⟩) hS ?_
              refine wpAnyH_ready (rs := [9]) (by kernel_rfl) (by simp) ?_
              refine AllReadyH.cons rfl (fun K hK => ?_) AllReadyH.nil
              rw [if_pos (by rfl)]
              simp only [List.getElem_toArray, List.getElem_cons_zero, List.getElem_cons_succ, Act.put, List.setIfInBounds_toArray, List.set_cons_zero, List.set_cons_succ]
              refine wp_putF (F := Fh) _ _ rfl hm4 rfl rfl HD7.out ?_
              have HD8 := Lib.hid (setCells_put hm4 (Nat.le_refl _) HD7.out Fh)
              have HR8 := Lib.hid (setCells_other (n := m) (Nat.le_refl _) (by omega) HR7.out Fh)
              refine hK.out _ _ (hS.cells (Nat.le_refl _) (Nat.ne_of_lt (Nat.lt_of_succ_lt HGL.out)) _) (fun hS => ?_)
              clear hK K
              try simp only [Act.put]
              refine wpAnyH_done (by kernel_rfl) ?_ _
              obtain ⟨E, hE⟩ : ∃ E, E = (D.met.put n RF.none).put m Fh := ⟨_, rfl⟩
              have HRES : Hid (RefIs w N E ((M.met.drop (n : Int)).put (m : Int) (M.met.file (n : Int)).held)) := by
                unfold Hid
                rw [hE]
                have hf := HM.out.file n hn4
                rw [HF2.out] at hf
                have ht : Fn.there = true := by rw [hf.there, met_files]; exact HFN.out
                refine (HM.out.drop hn4).put hm4 ?_
                rw [HFH.out]
                exact ⟨ht, rfl, hf.syn, hf.loose⟩
              refine name_exit (fun W => BoxR w w.heap.size E W ∧ BoxR w (w.heap.size + 1) zeroR W) (by rw [hE]; exact ⟨HD8.out, HR8.out⟩) ?_
              rintro W9 ⟨hD9, hR9⟩
              have HD9 := Lib.hid hD9
              have HR9 := Lib.hid hR9
              have hMF : Hid (MM = (M.met.drop (n : Int)).put (m : Int) (M.met.file (n : Int)).held) := by unfold Hid; rw [hMM.out]
              clear hD9 hR9 hE HD8 HR8 HD7 HR7 HD6 HR6 HF6 HFH hMM HF2 HFN hS
              go_wp2_with (first | (refine wp_loadR rfl _ rfl rfl HD9.out ?_) | (refine wp_storeR rfl _ _ rfl rfl rfl HR9.out ?_))
              refine bodyPost_ret (v := .tuple #[.agg (rdA E), .int .i64 er]) (results_two rfl rfl (HR9.out.fill (Nat.le_succ _) E) rfl) rfl ⟨E, by rw [hopC.out], by rw [hMF.out]; exact HRES.out.below (HR9.out.fill (Nat.le_succ _) E).bel, (HR9.out.fill (Nat.le_succ _) E).bel⟩
          · have t2 : (er == 0) = false := by simp [he]
            have hMM : Hid (MM = M.met) := by unfold Hid; rw [hopM.out, if_neg he]
            clear he hopM
            generalize D.met = E at *
            go_wp2_with (first | (refine wp_loadR rfl _ rfl rfl HD4.out ?_) | (refine wp_storeR rfl _ _ rfl rfl rfl HR4.out ?_))
            refine bodyPost_ret (v := .tuple #[.agg (rdA E), .int .i64 er]) (results_two rfl rfl (HR4.out.fill (Nat.le_succ _) E) rfl) rfl ⟨E, by rw [hopC.out], by rw [hMM.out]; exact HM.out.below (HR4.out.fill (Nat.le_succ _) E).bel, (HR4.out.fill (Nat.le_succ _) E).bel⟩
      · have nj : decide (Name j) = false := decide_eq_false hnj
        have hask : M.ask k [j] = 120 := by unfold AD.ask; simp [hmd, hnj]
        have hq := ren_refused (M := M) (k := k) (j := j) (by rw [hask]; simp)
        rw [hask] at hq
        have HQ := Lib.hid hq
        clear hq
        go_wp2_with (first | (go_at_call 77; (with_reducible refine (name_yes (NM.out _) nk).mono ?_); rintro e w' ⟨rfl, rfl⟩) | (go_at_call 77; (with_reducible refine (name_yes (NM.out _) nj).mono ?_); rintro e w' ⟨rfl, rfl⟩) | (refine wp_loadR rfl _ rfl rfl HD.out ?_) | (refine wp_storeR rfl _ _ rfl rfl rfl HR.out ?_))
        refine bodyPost_ret (v := .tuple #[.agg (rdA D), .int .i64 120]) (results_two rfl rfl (HR.out.fill (Nat.le_succ _) D) rfl) rfl ⟨D, by rw [HCC.out, HQ.out.1], by rw [HMM.out, HQ.out.2]; exact H.out.below (HR.out.fill (Nat.le_succ _) D).bel, (HR.out.fill (Nat.le_succ _) D).bel⟩
    · have nk : decide (Name k) = false := decide_eq_false hnk
      have hask : M.ask k [j] = 120 := by unfold AD.ask; simp [hmd, hnk]
      have hq := ren_refused (M := M) (k := k) (j := j) (by rw [hask]; simp)
      rw [hask] at hq
      have HQ := Lib.hid hq
      clear hq
      go_wp2_with (first | (go_at_call 77; (with_reducible refine (name_yes (NM.out _) nk).mono ?_); rintro e w' ⟨rfl, rfl⟩) | (go_at_call 77; (with_reducible refine (name_yes (NM.out _) nj).mono ?_); rintro e w' ⟨rfl, rfl⟩) | (refine wp_loadR rfl _ rfl rfl HD.out ?_) | (refine wp_storeR rfl _ _ rfl rfl rfl HR.out ?_))
      refine bodyPost_ret (v := .tuple #[.agg (rdA D), .int .i64 120]) (results_two rfl rfl (HR.out.fill (Nat.le_succ _) D) rfl) rfl ⟨D, by rw [HCC.out, HQ.out.1], by rw [HMM.out, HQ.out.2]; exact H.out.below (HR.out.fill (Nat.le_succ _) D).bel, (HR.out.fill (Nat.le_succ _) D).bel⟩
  · rw [hdd] at y20
    have hask : M.ask k [j] = 9 := by unfold AD.ask; rw [← HDD.out, hdd]; rfl
    have hq := ren_refused (M := M) (k := k) (j := j) (by rw [hask]; simp)
    rw [hask] at hq
    have HQ := Lib.hid hq
    clear hq
    go_wp2_with (first | (go_at_call 77; (with_reducible refine (name_yes (NM.out _) nk).mono ?_); rintro e w' ⟨rfl, rfl⟩) | (go_at_call 77; (with_reducible refine (name_yes (NM.out _) nj).mono ?_); rintro e w' ⟨rfl, rfl⟩) | (refine wp_loadR rfl _ rfl rfl HD.out ?_) | (refine wp_storeR rfl _ _ rfl rfl rfl HR.out ?_))
    refine bodyPost_ret (v := .tuple #[.agg (rdA D), .int .i64 9]) (results_two rfl rfl (HR.out.fill (Nat.le_succ _) D) rfl) rfl ⟨D, by rw [HCC.out, HQ.out.1], by rw [HMM.out, HQ.out.2]; exact H.out.below (HR.out.fill (Nat.le_succ _) D).bel, (HR.out.fill (Nat.le_succ _) D).bel⟩

end Go.Proofs.Ythpbgejjfdgpaaa
