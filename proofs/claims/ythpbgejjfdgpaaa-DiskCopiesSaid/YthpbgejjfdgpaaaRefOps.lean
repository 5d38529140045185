/-
  The document's Sync, Remove.
-/
import Derived.Test.YthpbgejjfdgpaaaRefIs
namespace Go.Proofs.Ythpbgejjfdgpaaa
open Go.RowKit
set_option linter.unusedVariables false
set_option maxRecDepth 100000

theorem sizeF : (Try.prog.info? 30).map (·.size) = some 4 := by kernel_rfl
theorem BoxR.range {w W : World} {b : Nat} {D : RD} (h : BoxR w b D W) {n : Nat} (hn : n < 4) : W.rangeAt b (1 + n * 4) (rfA (D.file n)).toList := by
  intro j v hj
  have hj4 : j = 0 ∨ j = 1 ∨ j = 2 ∨ j = 3 := by
    have := (List.getElem?_eq_some_iff.1 hj).1
    simp at this
    omega
  rcases hj4 with rfl | rfl | rfl | rfl
  · exact (h.file0 hn).trans (by rw [← hj]; rfl)
  · rw [h.file1 hn, ← hj]; rfl
  · rw [h.file2 hn, ← hj]; rfl
  · rw [h.file3 hn, ← hj]; rfl
/-- 'f := d.Files[n]', 'd.Files[n] = f' of a disk that lies in its block. -/
theorem wp_loadF {ops : Array Oper} {rest : List Oper} {o : Oper} {a : Act} {w W : World} {Q : Exit → Act → World → Prop} (hgd : o.guard = none) (x : Operand) (ho : o.op = .load 30 x) {b n : Nat} {D : RD} (hn : n < 4) (hx : a.eval x = .pointer (some ⟨b, 1 + n * 4, none⟩)) (hd : BoxR w b D W)
    (h : wpList Try.prog ops Q rest (a.put o.dst (.agg (rfA (D.file n)))) W) : wpList Try.prog ops Q (o :: rest) a W :=
  wpList_load_mid hgd 30 x ho b (1 + n * 4) hx (rfA (D.file n)).toList _ (hd.range hn) Try.underlying30 rfl sizeF h
theorem setCells_put {w W : World} {b n : Nat} {D : RD} (hn : n < 4) (hb : w.heap.size ≤ b) (hd : BoxR w b D W) (F : RF) : BoxR w b (D.put n F) (W.setCells b (1 + n * 4) (rfA F).toList) := by
  have h1 : n = 0 ∨ n = 1 ∨ n = 2 ∨ n = 3 := by omega
  have e : W.setCells b (1 + n * 4) (rfA F).toList = (((W.setCell ⟨b, 1 + n * 4, none⟩ (.bool F.there)).setCell ⟨b, 1 + n * 4 + 1, none⟩ (.bool F.kept)).setCell ⟨b, 1 + n * 4 + 1 + 1, none⟩ (.slice F.A F.n F.c)).setCell ⟨b, 1 + n * 4 + 1 + 1 + 1, none⟩ (.slice F.B F.m F.d) := rfl
  refine ⟨?_, ?_⟩
  · rw [e, heap_set (heap_set (heap_set (heap_set hd.box _ _) _ _) _ _) _ _]
    rcases h1 with rfl | rfl | rfl | rfl <;> rfl
  · rw [e]
    exact (((hd.bel.setCell (p := ⟨b, 1 + n * 4, none⟩) hb _).setCell (p := ⟨b, 1 + n * 4 + 1, none⟩) hb _).setCell (p := ⟨b, 1 + n * 4 + 1 + 1, none⟩) hb _).setCell (p := ⟨b, 1 + n * 4 + 1 + 1 + 1, none⟩) hb _
theorem setCells_other {w W : World} {b b' n : Nat} {D : RD} (hb : w.heap.size ≤ b') (hne : b' ≠ b) (hd : BoxR w b D W) (F : RF) : BoxR w b D (W.setCells b' (1 + n * 4) (rfA F).toList) :=
  (((hd.setOther (p := ⟨b', 1 + n * 4, none⟩) hb hne _).setOther (p := ⟨b', 1 + n * 4 + 1, none⟩) hb hne _).setOther (p := ⟨b', 1 + n * 4 + 1 + 1, none⟩) hb hne _).setOther (p := ⟨b', 1 + n * 4 + 1 + 1 + 1, none⟩) hb hne _
theorem there_box {w W : World} {b n : Nat} {D : RD} (hn : n < 4) (hd : BoxR w b D W) (F : RF) : W.there b (1 + n * 4) (rfA F).size := by
  intro j hj
  have hj4 : j = 0 ∨ j = 1 ∨ j = 2 ∨ j = 3 := by simp at hj; omega
  refine ⟨?_, hd.fz _⟩
  rcases hj4 with rfl | rfl | rfl | rfl
  · show (W.cell? ⟨b, 1 + n * 4, none⟩).isSome = true; rw [hd.file0 hn]; rfl
  · rw [hd.file1 hn]; rfl
  · rw [hd.file2 hn]; rfl
  · rw [hd.file3 hn]; rfl
theorem wp_storeF {ops : Array Oper} {rest : List Oper} {o : Oper} {a : Act} {w W : World} {Q : Exit → Act → World → Prop} (hgd : o.guard = none) (x y : Operand) (ho : o.op = .store 30 x y) {b n : Nat} {D : RD} {F : RF} (hn : n < 4) (hx : a.eval x = .pointer (some ⟨b, 1 + n * 4, none⟩)) (hy : a.eval y = .agg (rfA F)) (hd : BoxR w b D W)
    (h : wpList Try.prog ops Q rest (a.put o.dst undef) (W.setCells b (1 + n * 4) (rfA F).toList)) : wpList Try.prog ops Q (o :: rest) a W :=
  wpList_store_mid hgd 30 x y ho b (1 + n * 4) (rfA F) hx hy (there_box hn hd F) sizeF (by simp [Value.oneCell']) h

theorem ask_cases {M : AD} {k : Int} (h : M.ask k [] = 0) : M.dead = false ∧ ∃ n : Nat, k = (n : Int) ∧ n < 4 ∧ (M.files (n : Int)).isSome = true := by
  obtain ⟨h1, h2, _, F, hF⟩ := ask_there h
  refine ⟨h1, k.toNat, ?_, ?_, ?_⟩
  · have := h2.1; omega
  · have := h2.1; have := h2.2; omega
  · have e : ((k.toNat : Nat) : Int) = k := by have := h2.1; omega
    rw [e, hF]; rfl

set_option maxHeartbeats 2000000 in
theorem remove_ref {w : World} {N : Nat → Prop} {D : RD} {M : AD} (h : RefIs w N D M) (hops : M.ops < 4000000000000000000) (k : Int) :
    Calls Try.prog 45 #[.agg (rdA D), .int .i64 k] w (RefGives w N (M.opM k [] (M.met.drop k)) (M.opC k [])) := by
  have H := Lib.hid h
  have ASK := Lib.hid (fun W => asked_ref D k W)
  have hak := h.ask k
  rw [hak] at ASK
  obtain ⟨cc, hcc⟩ : ∃ cc, cc = M.opC k [] := ⟨_, rfl⟩
  obtain ⟨MM, hMM⟩ : ∃ MM, MM = M.opM k [] (M.met.drop k) := ⟨_, rfl⟩
  rw [← hcc, ← hMM]
  have HCC := Lib.hid hcc
  have HMM := Lib.hid hMM
  clear h hak hcc hMM
  go_enter Try.func45, Try.ntmps45
  go_upto_region 1 with fail
  refine name_world (fun W => BoxR w w.heap.size D W ∧ BoxR w (w.heap.size + 1) zeroR W) (two_boxes w D) ?_
  rintro W1 ⟨hD, hR⟩
  have HD := Lib.hid hD
  have HR := Lib.hid hR
  clear hD hR
  go_wp2_with (refine wp_loadR rfl _ rfl rfl HD.out ?_)
  refine (ASK.out W1).mono ?_
  rintro e W2 ⟨rfl, hb2⟩
  have HD2 := Lib.hid (HD.out.later hb2)
  have HR2 := Lib.hid (HR.out.later hb2)
  have hsz2 : w.heap.size + 1 < W2.heap.size := lt_of_block HR2.out.box
  clear hb2 HD HR ASK
  by_cases hz : M.ask k [] = 0
  · obtain ⟨hdd, n, hk, hn4, hth⟩ := ask_cases hz
    obtain ⟨hmet, herr⟩ := H.out.met hdd (by omega)
    have HM := Lib.hid hmet
    have t1 : (M.ask k [] != 0) = false := by simp [hz]
    have hopC : Hid (cc = M.err) := by unfold Hid; rw [HCC.out]; unfold AD.opC; rw [if_pos hz]
    have hopM : Hid (MM = if M.err = 0 then M.met.drop k else M.met) := by unfold Hid; rw [HMM.out]; unfold AD.opM; rw [if_pos hz]
    have MT := Lib.hid (fun W => meet_ref D W H.out.small)
    rw [herr] at MT
    clear hmet herr hz hdd hth HCC HMM
    subst hk
    generalize M.ask (n : Int) [] = q at *
    obtain ⟨er, her⟩ : ∃ er, er = M.err := ⟨_, rfl⟩
    rw [← her] at MT hopC hopM
    have HER := Lib.hid her
    clear her
    go_wp2_with (refine wp_loadR rfl _ rfl rfl HD2.out ?_)
    refine (MT.out W2).mono ?_
    rintro e W3 ⟨rfl, hb3⟩
    have HD3 := Lib.hid (HD2.out.later hb3)
    have HR3 := Lib.hid (HR2.out.later hb3)
    clear hb3 HD2 HR2 MT
    go_upto_region 5 with (refine wp_storeR rfl _ _ rfl rfl rfl HD3.out ?_)
    refine name_world (fun W => BoxR w w.heap.size D.met W ∧ BoxR w (w.heap.size + 1) zeroR W) ⟨HD3.out.fill (Nat.le_refl _) _, HR3.out.fillOther (Nat.le_refl _) (by omega)⟩ ?_
    rintro W4 ⟨hD4, hR4⟩
    have HD4 := Lib.hid hD4
    have HR4 := Lib.hid hR4
    clear hD4 hR4 HD3 HR3
    by_cases he : er = 0
    · have t2 : (er == 0) = true := by simp [he]
      have hMM : Hid (MM = M.met.drop (n : Int)) := by unfold Hid; rw [hopM.out, if_pos he]
      have z0 : (0 : Int) ≤ (n : Int) := by omega
      have z1 : (n : Int) < 4 := by omega
      clear he hopM
      go_upto_region 7 with (refine wp_storeF (F := RF.none) rfl _ _ rfl hn4 rfl rfl HD4.out ?_)
      refine name_world (fun W => BoxR w w.heap.size (D.met.put n RF.none) W ∧ BoxR w (w.heap.size + 1) zeroR W) ⟨setCells_put hn4 (Nat.le_refl _) HD4.out _, setCells_other (Nat.le_refl _) (by omega) HR4.out _⟩ ?_
      rintro W5 ⟨hD5, hR5⟩
      have HD5 := Lib.hid hD5
      have HR5 := Lib.hid hR5
      have HRES := Lib.hid (show RefIs w N (D.met.put n RF.none) (M.met.drop (n : Int)) from HM.out.drop hn4)
      clear hD5 hR5 HD4 HR4
      generalize D.met.put n RF.none = E at *
      go_wp2_with (first | (refine wp_loadR rfl _ rfl rfl HD5.out ?_) | (refine wp_storeR rfl _ _ rfl rfl rfl HR5.out ?_))
      refine bodyPost_ret (v := .tuple #[.agg (rdA E), .int .i64 er]) (results_two rfl rfl (HR5.out.fill (Nat.le_succ _) E) rfl) rfl ⟨E, by rw [hopC.out], by rw [hMM.out]; exact HRES.out.below (HR5.out.fill (Nat.le_succ _) E).bel, (HR5.out.fill (Nat.le_succ _) E).bel⟩
    · have t2 : (er == 0) = false := by simp [he]
      have hMM : Hid (MM = M.met) := by unfold Hid; rw [hopM.out, if_neg he]
      clear he hopM
      generalize D.met = E at *
      go_wp2_with (first | (refine wp_loadR rfl _ rfl rfl HD4.out ?_) | (refine wp_storeR rfl _ _ rfl rfl rfl HR4.out ?_))
      refine bodyPost_ret (v := .tuple #[.agg (rdA E), .int .i64 er]) (results_two rfl rfl (HR4.out.fill (Nat.le_succ _) E) rfl) rfl ⟨E, by rw [hopC.out], by rw [hMM.out]; exact HM.out.below (HR4.out.fill (Nat.le_succ _) E).bel, (HR4.out.fill (Nat.le_succ _) E).bel⟩
  · have t1 : (M.ask k [] != 0) = true := by simp [hz]
    have hopC : Hid (cc = M.ask k []) := by unfold Hid; rw [HCC.out]; unfold AD.opC; rw [if_neg hz]
    have hopM : Hid (MM = M) := by unfold Hid; rw [HMM.out]; unfold AD.opM; rw [if_neg hz]
    clear hz HCC HMM
    generalize M.ask k [] = q at *
    go_wp2_with (first | (refine wp_loadR rfl _ rfl rfl HD2.out ?_) | (refine wp_storeR rfl _ _ rfl rfl rfl HR2.out ?_))
    refine bodyPost_ret (v := .tuple #[.agg (rdA D), .int .i64 q]) (results_two rfl rfl (HR2.out.fill (Nat.le_succ _) D) rfl) rfl ⟨D, by rw [hopC.out], by rw [hopM.out]; exact H.out.below (HR2.out.fill (Nat.le_succ _) D).bel, (HR2.out.fill (Nat.le_succ _) D).bel⟩

end Go.Proofs.Ythpbgejjfdgpaaa
