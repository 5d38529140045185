/-
  The document's Sync.
-/
import Derived.Test.YthpbgejjfdgpaaaRefOps
namespace Go.Proofs.Ythpbgejjfdgpaaa
open Go.RowKit
set_option linter.unusedVariables false
set_option maxRecDepth 100000

theorem turn_setCells (W : World) (b o : Nat) (vs : List Value) : Turn (fun g => g = b) W (W.setCells b o vs) := by
  induction vs generalizing W o with
  | nil => exact Turn.refl _ _
  | cons v r ih =>
    rw [World.setCells]
    have h1 : Turn (fun g => g = b) W (W.setCell ⟨b, o, none⟩ v) := ⟨rfl, rfl, rfl, by simp [World.setCell], fun k hk hn => Below.heap_setCell _ _ _ _ hn⟩
    exact h1.trans (ih _ _) (fun i hi => .inl hi)
theorem turn_fill {W5 W : World} {b b' : Nat} (h : Turn (fun g => g = b) W5 W) (cs : Array Value) : Turn (fun g => g = b ∨ g = b') W5 (W.setRow b' cs) := by
  refine (h.mono (S' := fun g => g = b ∨ g = b') (fun i hi => .inl hi)).trans (S' := fun g => g = b') ⟨rfl, rfl, rfl, by simp [World.setRow], fun k hk hn => ?_⟩ (fun i hi => .inl (.inr hi))
  simp only [World.setRow, Array.getElem?_modify]
  rw [if_neg (fun e => hn e.symm)]
/-- Bytes made anew stay where they are, whatever else is written. -/
theorem SlN.turnX {W W' : World} {N S : Nat → Prop} {base : Nat} {A : Option Addr} {n c : Nat} {xs : List Int} (h : SlN W N A n c xs) (ht : Turn S W W') (hb : ∀ g, blk A = some g → base ≤ g) (hs : ∀ g, base ≤ g → ¬ S g) : SlN W' N A n c xs := by
  refine ⟨h.len, h.le, h.mx, fun hp => ?_, h.far⟩
  obtain ⟨b, o, rfl, hlt, hc⟩ := h.rd hp
  refine ⟨b, o, rfl, Nat.lt_of_lt_of_le hlt ht.size, fun j hj => ?_⟩
  have hbl := ht.block b hlt (hs b (hb b rfl))
  have := hc j hj
  simp only [World.cell?] at this ⊢
  rw [hbl]
  exact this

set_option maxHeartbeats 2000000 in
theorem sync_ref {w : World} {N : Nat → Prop} {D : RD} {M : AD} (h : RefIs w N D M) (hok : M.Ok) (hN : ∀ g, N g → g < w.heap.size) (hops : M.ops < 4000000000000000000) (k : Int) :
    Calls Try.prog 41 #[.agg (rdA D), .int .i64 k] w (RefGives w N (M.opM k [] (M.met.put k (M.file k).settled)) (M.opC k [])) := by
  have HOK := Lib.hid hok
  have HN := Lib.hid hN
  clear hok hN
  have H := Lib.hid h
  have ASK := Lib.hid (fun W => asked_ref D k W)
  have hak := h.ask k
  rw [hak] at ASK
  obtain ⟨cc, hcc⟩ : ∃ cc, cc = M.opC k [] := ⟨_, rfl⟩
  obtain ⟨MM, hMM⟩ : ∃ MM, MM = M.opM k [] (M.met.put k (M.file k).settled) := ⟨_, rfl⟩
  rw [← hcc, ← hMM]
  have HCC := Lib.hid hcc
  have HMM := Lib.hid hMM
  clear h hak hcc hMM
  go_enter Try.func41, Try.ntmps41
  go_upto_region 1 with fail
  refine name_world (fun W => BoxR w w.heap.size D W ∧ BoxR w (w.heap.size + 1) zeroR W) (two_boxes w D) ?_
  rintro W1 ⟨hD, hR⟩
  have HD := Lib.hid hD
  have HR := Lib.hid hR
  clear hD hR
  go_wp2_with (refine wp_loadR rfl _ rfl rfl HD.out ?_)
  refine (ASK.out W1).mono ?_
  rintro e W2 ⟨rfl, hb2⟩
  have HD2 := Lib.hid (HD.out.later hb2)
  have HR2 := Lib.hid (HR.out.later hb2)
  have hsz2 : w.heap.size + 1 < W2.heap.size := lt_of_block HR2.out.box
  clear hb2 HD HR ASK
  by_cases hz : M.ask k [] = 0
  · obtain ⟨hdd, n, hk, hn4, hth⟩ := ask_cases hz
    obtain ⟨hmet, herr⟩ := H.out.met hdd (by omega)
    have HM := Lib.hid hmet
    have t1 : (M.ask k [] != 0) = false := by simp [hz]
    have hopC : Hid (cc = M.err) := by unfold Hid; rw [HCC.out]; unfold AD.opC; rw [if_pos hz]
    have hopM : Hid (MM = if M.err = 0 then M.met.put k (M.file k).settled else M.met) := by unfold Hid; rw [HMM.out]; unfold AD.opM; rw [if_pos hz]
    have MT := Lib.hid (fun W => meet_ref D W H.out.small)
    rw [herr] at MT
    clear hmet herr hz hdd hth HCC HMM
    subst hk
    generalize M.ask (n : Int) [] = q at *
    obtain ⟨er, her⟩ : ∃ er, er = M.err := ⟨_, rfl⟩
    rw [← her] at MT hopC hopM
    have HER := Lib.hid her
    clear her
    go_wp2_with (refine wp_loadR rfl _ rfl rfl HD2.out ?_)
    refine (MT.out W2).mono ?_
    rintro e W3 ⟨rfl, hb3⟩
    have HD3 := Lib.hid (HD2.out.later hb3)
    have HR3 := Lib.hid (HR2.out.later hb3)
    clear hb3 HD2 HR2 MT
    go_upto_region 5 with (refine wp_storeR rfl _ _ rfl rfl rfl HD3.out ?_)
    refine name_world (fun W => BoxR w w.heap.size D.met W ∧ BoxR w (w.heap.size + 1) zeroR W) ⟨HD3.out.fill (Nat.le_refl _) _, HR3.out.fillOther (Nat.le_refl _) (by omega)⟩ ?_
    rintro W4 ⟨hD4, hR4⟩
    have HD4 := Lib.hid hD4
    have HR4 := Lib.hid hR4
    clear hD4 hR4 HD3 HR3
    by_cases he : er = 0
    · have t2 : (er == 0) = true := by simp [he]
      have hMM : Hid (MM = M.met.put (n : Int) (M.file (n : Int)).settled) := by unfold Hid; rw [hopM.out, if_pos he]
      have z0 : (0 : Int) ≤ (n : Int) := by omega
      have z1 : (n : Int) < 4 := by omega
      have hfl : D.met.file n = D.file n := rfl
      have hF := (H.out.below HD4.out.bel).file n hn4
      have hbs : (M.file (n : Int)).bs.length ≤ 65536 := by
        have h1 := HOK.out.tot
        have h2 := HOK.out.room2
        have h3 := len_le M (k := (n : Int)) ⟨by omega, by omega⟩
        rw [len_file]
        omega
      have hl1 := hF.syn.len
      have hl2 := hF.loose.len
      have hal := all_ref (D.file n) _ _ W4 hF.syn.rd hF.loose.rd hl1 hl2 (by rw [← hl1, ← hl2, List.length_take, List.length_drop]; omega)
      rw [List.take_append_drop] at hal
      have HAL := Lib.hid hal
      obtain ⟨bs, hb⟩ : ∃ bs, bs = (M.file (n : Int)).bs := ⟨_, rfl⟩
      rw [← hb] at HAL hbs
      have HBS := Lib.hid hb
      clear he hopM hal hl1 hl2 hF hb
      obtain ⟨Fn, hFn⟩ : ∃ Fn, Fn = D.file n := ⟨_, rfl⟩
      rw [← hFn] at HAL
      have hf2 : D.met.file n = Fn := by rw [hfl, hFn]
      clear hfl hFn
      go_wp2_with (first | (refine wp_loadF rfl _ rfl hn4 rfl HD4.out ?_))
      refine HAL.out.mono ?_
      rintro e W5 ⟨A5, c5, he5, hown5, hb5⟩
      obtain ⟨bn, hbn⟩ : ∃ bn, bn = bs.length := ⟨_, rfl⟩
      rw [← hbn] at he5 hown5
      subst he5
      have HD5 := Lib.hid (HD4.out.later hb5)
      have HR5 := Lib.hid (HR4.out.later hb5)
      have hA5 : ∀ g, blk A5 = some g → W4.heap.size ≤ g := fun g hg => (World.ownsRow.lt hown5 g (by cases hh : A5 <;> simp_all [Value.ownBlock, blk])).1
      have HA5 := Lib.hid hA5
      have hs4 : w.heap.size + 1 < W4.heap.size := lt_of_block HR4.out.box
      have SL := Lib.hid (SlN.own hown5 (fun g hg => Nat.lt_of_lt_of_le (HN.out g hg) HD4.out.bel.size))
      clear hown5 hb5 hA5 hbn HD4 HR4 HAL
      obtain ⟨F, hF⟩ : ∃ F : RF, F = ⟨true, true, A5, bn, c5, none, 0, 0⟩ := ⟨_, rfl⟩
      have hFy : Value.agg #[.bool true, .bool true, .slice A5 bn c5, .slice none 0 0] = .agg (rfA F) := by rw [hF]
      have HFY := Lib.hid hFy
      have HF := Lib.hid hF
      clear hF hFy
      go_upto_region 7 with (refine wp_storeF (F := F) rfl _ _ rfl hn4 rfl HFY.out HD5.out ?_)
      refine name_world (fun W => (BoxR w w.heap.size (D.met.put n F) W ∧ BoxR w (w.heap.size + 1) zeroR W) ∧ Turn (fun g => g = w.heap.size) W5 W) ⟨⟨setCells_put hn4 (Nat.le_refl _) HD5.out _, setCells_other (Nat.le_refl _) (by omega) HR5.out _⟩, turn_setCells _ _ _ _⟩ ?_
      rintro W6 ⟨⟨hD6, hR6⟩, ht6⟩
      have HD6 := Lib.hid hD6
      have HR6 := Lib.hid hR6
      have HRES := Lib.hid (show ∀ W, Turn (fun g => g = w.heap.size ∨ g = w.heap.size + 1) W5 W → Below w.heap.size w W → RefIs W N (D.met.put n F) (M.met.put (n : Int) (M.file (n : Int)).settled) from fun W htW hbW => by
        rw [HF.out]
        refine (HM.out.below hbW).put hn4 ⟨rfl, rfl, ?_, ?_⟩
        · show SlN W N A5 bn c5 ((M.file (n : Int)).bs.take (M.file (n : Int)).bs.length)
          rw [← HBS.out, List.take_length]
          exact SL.out.turnX htW HA5.out (fun g hg e => by rcases e with e | e <;> omega)
        · show SlN W N none 0 0 ((M.file (n : Int)).bs.drop (M.file (n : Int)).bs.length)
          rw [List.drop_length]
          exact SlN.none W N)
      clear hD6 hR6 HD5 HR5
      generalize D.met.put n F = E at *
      go_wp2_with (first | (refine wp_loadR rfl _ rfl rfl HD6.out ?_) | (refine wp_storeR rfl _ _ rfl rfl rfl HR6.out ?_))
      refine bodyPost_ret (v := .tuple #[.agg (rdA E), .int .i64 er]) (results_two rfl rfl (HR6.out.fill (Nat.le_succ _) E) rfl) rfl ⟨E, by rw [hopC.out], by rw [hMM.out]; exact HRES.out _ (turn_fill ht6 _) (HR6.out.fill (Nat.le_succ _) E).bel, (HR6.out.fill (Nat.le_succ _) E).bel⟩
    · have t2 : (er == 0) = false := by simp [he]
      have hMM : Hid (MM = M.met) := by unfold Hid; rw [hopM.out, if_neg he]
      clear he hopM
      generalize D.met = E at *
      go_wp2_with (first | (refine wp_loadR rfl _ rfl rfl HD4.out ?_) | (refine wp_storeR rfl _ _ rfl rfl rfl HR4.out ?_))
      refine bodyPost_ret (v := .tuple #[.agg (rdA E), .int .i64 er]) (results_two rfl rfl (HR4.out.fill (Nat.le_succ _) E) rfl) rfl ⟨E, by rw [hopC.out], by rw [hMM.out]; exact HM.out.below (HR4.out.fill (Nat.le_succ _) E).bel, (HR4.out.fill (Nat.le_succ _) E).bel⟩
  · have t1 : (M.ask k [] != 0) = true := by simp [hz]
    have hopC : Hid (cc = M.ask k []) := by unfold Hid; rw [HCC.out]; unfold AD.opC; rw [if_neg hz]
    have hopM : Hid (MM = M) := by unfold Hid; rw [HMM.out]; unfold AD.opM; rw [if_neg hz]
    clear hz HCC HMM
    generalize M.ask k [] = q at *
    go_wp2_with (first | (refine wp_loadR rfl _ rfl rfl HD2.out ?_) | (refine wp_storeR rfl _ _ rfl rfl rfl HR2.out ?_))
    refine bodyPost_ret (v := .tuple #[.agg (rdA D), .int .i64 q]) (results_two rfl rfl (HR2.out.fill (Nat.le_succ _) D) rfl) rfl ⟨D, by rw [hopC.out], by rw [hopM.out]; exact H.out.below (HR2.out.fill (Nat.le_succ _) D).bel, (HR2.out.fill (Nat.le_succ _) D).bel⟩

end Go.Proofs.Ythpbgejjfdgpaaa
