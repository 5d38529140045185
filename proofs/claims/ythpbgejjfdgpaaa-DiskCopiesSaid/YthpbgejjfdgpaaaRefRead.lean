/-
  The document's Read.
-/
import Derived.Test.YthpbgejjfdgpaaaRefSync
import Derived.Deep.RegionHeld3
namespace Go.Proofs.Ythpbgejjfdgpaaa
open Go.RowKit
set_option linter.unusedVariables false
set_option maxRecDepth 100000

def RefReads (w : World) (N : Nat → Prop) (M' : AD) (bs : List Int) (c : Int) (e : Ending) (w' : World) : Prop := ∃ D' A n cp, e = .returned (.tuple #[.agg (rdA D'), .slice A n cp, .int .i64 c]) ∧ RefIs w' N D' M' ∧ SlN w' (fun _ => False) A n cp bs ∧ Below w.heap.size w w'
theorem yields_loadR {w : World} {ops : Array Oper} {S : World → Prop} {o : Oper} {a : Act} (hgd : o.guard = none) (hw : Region.wanted o (yielded ops a.tmps) = true) (x : Operand) (ho : o.op = .load 33 x) {b : Nat} {D : RD} (hx : a.eval x = .pointer (some ⟨b, 0, none⟩)) (hS : ∀ W, S W → BoxR w b D W) :
    YieldsIf Try.prog ops S o (.agg (rdA D)) a :=
  .inl ⟨hw, fun W hW => by
    unfold execOp
    simp only [ho, hx, (hS W hW).load, Sem.run_bind, Sem.run_pure, Result.andThen_ok]⟩
theorem wp_storeRow {o : Oper} {a : Act} {w W : World} {K : Act → World → Prop} {Q : Exit → Act → World → Prop} (hgd : o.guard = none) (x y : Operand) (ho : o.op = .store 33 x y) {b : Nat} {D D' : RD} (hx : a.eval x = .pointer (some ⟨b, 0, none⟩)) (hy : a.eval y = .agg (rdA D')) (hd : BoxR w b D W)
    (h : K (a.put o.dst undef) (W.setRow b (rdA D'))) : o.wp Try.prog a W K Q :=
  wp_store_row 33 x y ho b (rdA D') hx hy 33 (rdA D) hd.box sizeR rfl (rd_one _) h
theorem turn_row (W : World) (b : Nat) (cs : Array Value) : Turn (fun g => g = b) W (W.setRow b cs) :=
  ⟨rfl, rfl, rfl, by simp [World.setRow], fun k hk hn => by
    simp only [World.setRow, Array.getElem?_modify]
    rw [if_neg (fun e => hn e.symm)]⟩
theorem yields_loadF {w : World} {ops : Array Oper} {S : World → Prop} {o : Oper} {a : Act} (hgd : o.guard = none) (hw : Region.wanted o (yielded ops a.tmps) = true) (x : Operand) (ho : o.op = .load 30 x) {b n : Nat} {D : RD} {F : RF} (hn : n < 4) (hF : D.file n = F) (hx : a.eval x = .pointer (some ⟨b, 1 + n * 4, none⟩)) (hS : ∀ W, S W → BoxR w b D W) :
    YieldsIf Try.prog ops S o (.agg (rfA F)) a := by
  subst hF
  exact yieldsIf_load_mid hw 30 x ho b (1 + n * 4) hx (rfA (D.file n)).toList _ (fun W hW => (hS W hW).range hn) Try.underlying30 rfl sizeF

set_option maxHeartbeats 2000000 in
theorem read_ref {w : World} {N : Nat → Prop} {D : RD} {M : AD} (h : RefIs w N D M) (hok : M.Ok) (hops : M.ops < 4000000000000000000) (k : Int) :
    Calls Try.prog 42 #[.agg (rdA D), .int .i64 k] w (RefReads w N (M.opM k [] M.met) (M.readB k) (M.opC k [])) := by
  have H := Lib.hid h
  have HOK := Lib.hid hok
  clear hok
  obtain ⟨BB, hBB⟩ : ∃ BB, BB = M.readB k := ⟨_, rfl⟩
  have ASK := Lib.hid (fun W => asked_ref D k W)
  have hak := h.ask k
  rw [hak] at ASK
  obtain ⟨cc, hcc⟩ : ∃ cc, cc = M.opC k [] := ⟨_, rfl⟩
  obtain ⟨MM, hMM⟩ : ∃ MM, MM = M.opM k [] M.met := ⟨_, rfl⟩
  rw [← hcc, ← hMM, ← hBB]
  have HBB := Lib.hid hBB
  have HCC := Lib.hid hcc
  have HMM := Lib.hid hMM
  clear h hak hcc hMM hBB
  go_enter Try.func42, Try.ntmps42
  go_upto_region 1 with fail
  refine name_world (fun W => BoxR w w.heap.size D W ∧ BoxR w (w.heap.size + 1) zeroR W) (two_boxes w D) ?_
  rintro W1 ⟨hD, hR⟩
  have HD := Lib.hid hD
  have HR := Lib.hid hR
  clear hD hR
  go_wp2_with (refine wp_loadR rfl _ rfl rfl HD.out ?_)
  refine (ASK.out W1).mono ?_
  rintro e W2 ⟨rfl, hb2⟩
  have HD2 := Lib.hid (HD.out.later hb2)
  have HR2 := Lib.hid (HR.out.later hb2)
  have hsz2 : w.heap.size + 1 < W2.heap.size := lt_of_block HR2.out.box
  clear hb2 HD HR ASK
  by_cases hz : M.ask k [] = 0
  · obtain ⟨hdd, n, hk, hn4, hth⟩ := ask_cases hz
    obtain ⟨hmet, herr⟩ := H.out.met hdd (by omega)
    have HM := Lib.hid hmet
    have t1 : (M.ask k [] != 0) = false := by simp [hz]
    have hopC : Hid (cc = M.err) := by unfold Hid; rw [HCC.out]; unfold AD.opC; rw [if_pos hz]
    have hopB : Hid (BB = if M.err = 0 then (M.file k).bs else []) := by unfold Hid; rw [HBB.out]; unfold AD.readB AD.opC; rw [if_pos hz]
    have hopM : Hid (MM = M.met) := by unfold Hid; rw [HMM.out]; unfold AD.opM; rw [if_pos hz, ite_self]
    have MT := Lib.hid (fun W => meet_ref D W H.out.small)
    rw [herr] at MT
    clear hmet herr hz hdd hth HCC HMM HBB
    subst hk
    generalize M.ask (n : Int) [] = q at *
    obtain ⟨er, her⟩ : ∃ er, er = M.err := ⟨_, rfl⟩
    rw [← her] at MT hopC hopB
    have HER := Lib.hid her
    clear her
    go_wp2_with (refine wp_loadR rfl _ rfl rfl HD2.out ?_)
    refine (MT.out W2).mono ?_
    rintro e W3 ⟨rfl, hb3⟩
    have HD3 := Lib.hid (HD2.out.later hb3)
    have HR3 := Lib.hid (HR2.out.later hb3)
    clear hb3 HD2 HR2 MT
    go_upto_region 5 with (refine wp_storeR rfl _ _ rfl rfl rfl HD3.out ?_)
    refine name_world (fun W => BoxR w w.heap.size D.met W ∧ BoxR w (w.heap.size + 1) zeroR W) ⟨HD3.out.fill (Nat.le_refl _) _, HR3.out.fillOther (Nat.le_refl _) (by omega)⟩ ?_
    rintro W4 ⟨hD4, hR4⟩
    have HD4 := Lib.hid hD4
    have HR4 := Lib.hid hR4
    clear hD4 hR4 HD3 HR3
    by_cases he : er = 0
    · have t2 : (er != 0) = false := by simp [he]
      have hBB : Hid (BB = (M.file (n : Int)).bs) := by unfold Hid; rw [hopB.out, if_pos he]
      have z0 : (0 : Int) ≤ (n : Int) := by omega
      have z1 : (n : Int) < 4 := by omega
      have hF := (H.out.below HD4.out.bel).file n hn4
      have hbs : (M.file (n : Int)).bs.length ≤ 65536 := by
        have h1 := HOK.out.tot
        have h2 := HOK.out.room2
        have h3 := len_le M (k := (n : Int)) ⟨by omega, by omega⟩
        rw [len_file]
        omega
      have hl1 := hF.syn.len
      have hl2 := hF.loose.len
      have HAL := Lib.hid (fun W (hW : BoxR w w.heap.size D.met W) => by
        have hF := (H.out.below hW.bel).file n hn4
        have hal := all_ref (D.file n) _ _ W hF.syn.rd hF.loose.rd hl1 hl2 (by rw [← hl1, ← hl2, List.length_take, List.length_drop]; omega)
        rw [List.take_append_drop] at hal
        exact hal)
      obtain ⟨bs, hb⟩ : ∃ bs, bs = (M.file (n : Int)).bs := ⟨_, rfl⟩
      rw [← hb] at HAL hBB
      clear he hl1 hl2 hF hb hbs
      obtain ⟨Fn, hFn⟩ : ∃ Fn, Fn = D.file n := ⟨_, rfl⟩
      have hf2 : D.met.file n = Fn := by rw [hFn]; rfl
      rw [← hFn] at HAL
      have HF2 := Lib.hid hf2
      clear hFn hf2
      go_upto_region 7 with fail
      refine wp_region_held_drew (S := fun W => BoxR w w.heap.size D.met W ∧ ∃ E, BoxR w (w.heap.size + 1) E W) (by kernel_rfl) ⟨HD4.out.drewN 1, _, HR4.out.drewN 1⟩ (fun hS => ?_)
      refine wpAnyH_take (i := 0) rfl (by kernel_rfl) (by kernel_rfl) (by kernel_rfl) (fun _ _ _ h => h) (yields_loadR (D := D.met) rfl rfl _ rfl rfl (fun W h => h.1)) hS ?_
      refine wpAnyH_take (i := 1) rfl (by kernel_rfl) (by kernel_rfl) (by kernel_rfl) (fun _ _ _ h => h) (Or.inl ⟨by rfl, fun W h => by go_simp; rfl⟩) hS ?_
      refine wpAnyH_take (i := 2) rfl (by kernel_rfl) (by kernel_rfl) (by kernel_rfl) (fun _ _ _ h => h) (Or.inl ⟨by rfl, fun W h => by go_simp; rfl⟩) hS ?_
      refine wpAnyH_take (i := 3) rfl (by kernel_rfl) (by kernel_rfl) (by kernel_rfl) (fun _ _ _ h => h) (Or.inl ⟨by rfl, fun W h => by go_simp; rfl⟩) hS ?_
      refine wpAnyH_take (i := 4) rfl (by kernel_rfl) (by kernel_rfl) (by kernel_rfl) (fun _ _ _ h => h) (yields_loadF (D := D.met) rfl rfl _ rfl hn4 HF2.out rfl (fun W h => h.1)) hS ?_
      refine wpAnyH_take (i := 6) rfl (by kernel_rfl) (by kernel_rfl) (by kernel_rfl) (fun _ _ _ h => h) (Or.inl ⟨by rfl, fun W h => by go_simp; rfl⟩) hS ?_
      refine wpAnyH_ready (rs := [5]) (by kernel_rfl) (by simp) ?_
      refine AllReadyH.cons rfl (fun K hK => ?_) AllReadyH.nil
      rw [if_pos (by rfl)]
      go_simp
      go_at_call 18
      refine (HAL.out _ hS.1).mono ?_
      rintro e W5 ⟨A5, c5, rfl, hown5, hb5⟩
      change K _ _
      have hA5 : ∀ g, blk A5 = some g → W4.heap.size ≤ g := fun g hg => (World.ownsRow.lt hown5 g (by cases hh : A5 <;> simp_all [Value.ownBlock, blk])).1
      have HA5 := Lib.hid hA5
      have hs4 : w.heap.size + 1 < W4.heap.size := lt_of_block HR4.out.box
      have SL := Lib.hid (SlN.own (N := fun _ => False) hown5 (fun g hg => hg.elim))
      clear hA5 hown5
      obtain ⟨hS1, E2, hS2⟩ := hS
      have HR5 := Lib.hid (hS2.later hb5)
      have HD5 := Lib.hid (hS1.later hb5)
      refine hK.out _ _ ⟨HD5.out, _, HR5.out⟩ (fun hS => ?_)
      clear hK K hS1 hS2
      try simp only [Act.put, List.setIfInBounds_toArray, List.set_cons_zero, List.set_cons_succ]
      refine wpAnyH_ready (rs := [7]) (by kernel_rfl) (by simp) ?_
      refine AllReadyH.cons rfl (fun K hK => ?_) AllReadyH.nil
      rw [if_pos (by rfl)]
      refine wp_storeRow rfl _ _ rfl rfl rfl HR5.out ?_
      have HR6 := Lib.hid (HR5.out.fill (Nat.le_succ _) D.met)
      refine hK.out _ _ ⟨HD5.out.fillOther (Nat.le_succ _) (by omega), _, HR6.out⟩ (fun hS => ?_)
      clear hK K
      try simp only [Act.put]
      refine wpAnyH_take (i := 8) rfl (by kernel_rfl) (by kernel_rfl) (by kernel_rfl) (fun _ _ _ h => h) (Or.inl ⟨by rfl, fun W h => by go_simp; rfl⟩) hS ?_
      refine wpAnyH_take (i := 9) rfl (by kernel_rfl) (by kernel_rfl) (by kernel_rfl) (fun _ _ _ h => h) (Or.inl ⟨by rfl, fun W h => by go_simp; rfl⟩) hS ?_
      refine wpAnyH_done (by kernel_rfl) ?_ _
      generalize D.met = E at *
      go_wp2
      refine bodyPost_ret (v := .tuple #[.agg (rdA E), .slice A5 bs.length c5, .int .i64 er]) (results_three rfl rfl HR6.out rfl rfl) rfl ⟨E, A5, bs.length, c5, by rw [hopC.out], by rw [hopM.out]; exact HM.out.below HR6.out.bel, by rw [hBB.out]; exact SL.out.turnX (turn_row _ _ _) HA5.out (fun g hg e => by omega), HR6.out.bel⟩
    · have t2 : (er != 0) = true := by simp [he]
      have hBB : Hid (BB = []) := by unfold Hid; rw [hopB.out, if_neg he]
      clear he hopB
      generalize D.met = E at *
      go_wp2_with (first | (refine wp_loadR rfl _ rfl rfl HD4.out ?_) | (refine wp_storeR rfl _ _ rfl rfl rfl HR4.out ?_))
      refine bodyPost_ret (v := .tuple #[.agg (rdA E), .slice none 0 0, .int .i64 er]) (results_three rfl rfl (HR4.out.fill (Nat.le_succ _) E) rfl rfl) rfl ⟨E, none, 0, 0, by rw [hopC.out], by rw [hopM.out]; exact HM.out.below (HR4.out.fill (Nat.le_succ _) E).bel, by rw [hBB.out]; exact SlN.none _ _, (HR4.out.fill (Nat.le_succ _) E).bel⟩
  · have t1 : (M.ask k [] != 0) = true := by simp [hz]
    have hopC : Hid (cc = M.ask k []) := by unfold Hid; rw [HCC.out]; unfold AD.opC; rw [if_neg hz]
    have hopB : Hid (BB = []) := by unfold Hid; rw [HBB.out]; unfold AD.readB AD.opC; rw [if_neg hz, if_neg hz]
    have hopM : Hid (MM = M) := by unfold Hid; rw [HMM.out]; unfold AD.opM; rw [if_neg hz]
    clear hz HCC HMM HBB
    generalize M.ask k [] = q at *
    go_wp2_with (first | (refine wp_loadR rfl _ rfl rfl HD2.out ?_) | (refine wp_storeR rfl _ _ rfl rfl rfl HR2.out ?_))
    refine bodyPost_ret (v := .tuple #[.agg (rdA D), .slice none 0 0, .int .i64 q]) (results_three rfl rfl (HR2.out.fill (Nat.le_succ _) D) rfl rfl) rfl ⟨D, none, 0, 0, by rw [hopC.out], by rw [hopM.out]; exact H.out.below (HR2.out.fill (Nat.le_succ _) D).bel, by rw [hopB.out]; exact SlN.none _ _, (HR2.out.fill (Nat.le_succ _) D).bel⟩

end Go.Proofs.Ythpbgejjfdgpaaa
