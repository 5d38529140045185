/-
  The document's Crash.
-/
import Derived.Test.YthpbgejjfdgpaaaRefLeft
namespace Go.Proofs.Ythpbgejjfdgpaaa
open Go.RowKit
set_option linter.unusedVariables false
set_option maxRecDepth 100000

/-- The files below k behind a loss of power. -/
def AD.half (M : AD) (keep : List Bool) (k : Nat) : AD := { M with files := fun j => if j < (k : Int) then (M.crash keep).files j else M.files j }
theorem RefIs.same {W : World} {N : Nat → Prop} {D : RD} {M M' : AD} (h : RefIs W N D M) (h1 : M'.room = M.room) (h2 : M'.ops = M.ops) (h3 : M'.dead = M.dead) (h4 : M'.armed = M.armed) (h5 : M'.failing = M.failing) (h6 : ∀ k : Nat, k < 4 → M'.files (k : Int) = M.files (k : Int)) : RefIs W N D M' := by
  refine ⟨h.room.trans h1.symm, h.ops.trans h2.symm, h.dead.trans h3.symm, fun hd => (h.armed (h3.symm.trans hd)).trans h4.symm, fun hd => (h.failing (h3.symm.trans hd)).trans h5.symm, h.small, fun k hk => ?_⟩
  have e : M'.file (k : Int) = M.file (k : Int) := by unfold AD.file; rw [h6 k hk]
  rw [h6 k hk, e]
  exact h.file k hk
theorem crash_end_ref {W : World} {N : Nat → Prop} {E : RD} {M : AD} {keep : List Bool} (h : RefIs W N E (M.half keep 4)) : RefIs W N { E with dead := false, armed := -1, failing := -1 } (M.crash keep) := by
  obtain ⟨a, b, c, d, e, f⟩ := h.small
  refine ⟨h.room, h.ops, rfl, fun _ => rfl, fun _ => rfl, ⟨a, b, by show (-1 : Int) ≤ -1; omega, by show (-1 : Int) ≤ _; omega, by show (-1 : Int) ≤ -1; omega, by show (-1 : Int) ≤ _; omega⟩, fun k hk => ?_⟩
  have e1 : (M.half keep 4).files (k : Int) = (M.crash keep).files (k : Int) := if_pos (by omega)
  have e2 : (M.half keep 4).file (k : Int) = (M.crash keep).file (k : Int) := by unfold AD.file; rw [e1]
  rw [← e1, ← e2]
  exact h.file k hk

theorem half_drop {W : World} {N : Nat → Prop} {E : RD} {M : AD} {keep : List Bool} {k : Nat} (hk : k < 4) (h : RefIs W N E (M.half keep k)) (hc : (M.crash keep).files (k : Int) = none) : RefIs W N (E.put k RF.none) (M.half keep (k + 1)) := by
  refine (h.drop hk).same rfl rfl rfl rfl rfl (fun j hj => ?_)
  show (if (j : Int) < ((k + 1 : Nat) : Int) then (M.crash keep).files (j : Int) else M.files (j : Int)) = upd (M.half keep k).files (k : Int) none (j : Int)
  by_cases e : (j : Int) = (k : Int)
  · rw [e, upd_same, if_pos (by omega), hc]
  · rw [upd_other _ e]
    show _ = (if (j : Int) < (k : Int) then (M.crash keep).files (j : Int) else M.files (j : Int))
    by_cases hl : (j : Int) < (k : Int)
    · rw [if_pos hl, if_pos (by omega)]
    · rw [if_neg hl, if_neg (by omega)]
theorem half_put {W : World} {N : Nat → Prop} {E : RD} {M : AD} {keep : List Bool} {k : Nat} (hk : k < 4) (h : RefIs W N E (M.half keep k)) {F : RF} {G : AF} (hc : (M.crash keep).files (k : Int) = some G) (hF : FileIs W N F true G) : RefIs W N ((E.put k RF.none).put k F) (M.half keep (k + 1)) := by
  refine ((h.drop hk).put hk hF).same rfl rfl rfl rfl rfl (fun j hj => ?_)
  show (if (j : Int) < ((k + 1 : Nat) : Int) then (M.crash keep).files (j : Int) else M.files (j : Int)) = upd (upd (M.half keep k).files (k : Int) none) (k : Int) (some G) (j : Int)
  by_cases e : (j : Int) = (k : Int)
  · rw [e, upd_same, if_pos (by omega), hc]
  · rw [upd_other _ e, upd_other _ e]
    show _ = (if (j : Int) < (k : Int) then (M.crash keep).files (j : Int) else M.files (j : Int))
    by_cases hl : (j : Int) < (k : Int)
    · rw [if_pos hl, if_pos (by omega)]
    · rw [if_neg hl, if_neg (by omega)]
theorem atP_le {M : AD} (h : ∀ k, k < 4 → (M.pcsOf k).length ≤ 8192) : ∀ k, k ≤ 4 → atP M k ≤ 8192 * k
  | 0, _ => by simp [atP]
  | k + 1, hk => by
    have h1 := atP_le h k (by omega)
    have h2 := h k (by omega)
    simp only [atP]
    omega

set_option maxHeartbeats 2000000 in
theorem crash_ref {w : World} {N : Nat → Prop} {D : RD} {M : AD} (h : RefIs w N D M) (hok : M.Ok) (hN : ∀ g, N g → g < w.heap.size) (hu : D.used 4 ≤ 65536) (K : Option Addr) (kn kc : Nat) (keep : List Bool) (hkn : keep.length = kn) (hK : RdB w w.heap.size K keep) (hkb : kn ≤ 1000000) :
    Calls Try.prog 47 #[.agg (rdA D), .slice K kn kc] w (LaidAs w N (M.crash keep)) := by
  have H := Lib.hid h
  have HOK := Lib.hid hok
  have HNN := Lib.hid hN
  have HK := Lib.hid hK
  have HKN := Lib.hid hkn
  have hc : ∀ k, k < 4 → (D.file k).m ≤ 65536 := by
    intro k hk
    have h4 : k = 0 ∨ k = 1 ∨ k = 2 ∨ k = 3 := by omega
    rcases h4 with rfl | rfl | rfl | rfl <;> simp only [RD.used, RD.file] at hu ⊢ <;> omega
  have HC := Lib.hid hc
  have HPL := Lib.hid (atP_le (M := M) (fun k hk => by rw [pcsOf_len h hk]; have := hc k hk; omega))
  clear h hok hN hK hkn hu hc
  go_enter Try.func47, Try.ntmps47
  go_upto_region 1 with fail
  refine name_world (fun W => BoxR w w.heap.size D W ∧ BoxR w (w.heap.size + 1) zeroR W) (two_boxes w D) ?_
  rintro W1 ⟨hD, hR⟩
  have HD := Lib.hid hD
  have HR := Lib.hid hR
  clear hD hR
  go_wp2_with (refine wpList_load_mid rfl 31 _ rfl _ 1 rfl (arrF D) _ HD.out.files Try.underlying31 rfl sizeA ?_)
  go_loopw [5, 14] (fun a i wr => ∃ k : Nat, i = .int .i64 k ∧ k ≤ 4 ∧ a = .int .i64 (atP M k : Nat) ∧ Hid (∃ E, BoxR w w.heap.size E wr ∧ BoxR w (w.heap.size + 1) zeroR wr ∧ RefIs wr (fun g => N g ∨ g = w.heap.size ∨ g = w.heap.size + 1) E (M.half keep k))) (fun _ i _ => 4 - (intOf i).toNat)
  case atStart =>
    refine ⟨0, rfl, by omega, rfl, Lib.hid ⟨D, HD.out, HR.out, ?_⟩⟩
    have hI := H.out.turn (N' := fun g => N g ∨ g = w.heap.size ∨ g = w.heap.size + 1) (S := fun _ => False) ⟨HD.out.bel.os, HD.out.bel.tape, HD.out.bel.output, HD.out.bel.size, fun i hi _ => HD.out.bel.block i hi⟩ (fun _ _ e => e.elim) (fun g hg e => e.elim id (fun e => by omega))
    exact hI.same rfl rfl rfl rfl rfl (fun k hk => by show (if (k : Int) < ((0 : Nat) : Int) then (M.crash keep).files (k : Int) else M.files (k : Int)) = _; rw [if_neg (by omega)])
  case round =>
    obtain ⟨k, rfl, hk, rfl, hE⟩ := hrel
    obtain ⟨E, hEb, hER, hEI⟩ := hE.out
    have HE := Lib.hid hEb
    have HR2 := Lib.hid hER
    have HI := Lib.hid hEI
    clear hE hEb hER hEI
    by_cases hk4 : k < 4
    · have hkk : (k : Int) < 4 := by omega
      have z0 : (0 : Int) ≤ (k : Int) := by omega
      have ix := fun W => ix_file D k hk4 W
      have HM := Lib.hid (HC.out k hk4)
      have HF := Lib.hid (H.out.file k hk4)
      have HPC := Lib.hid (pcsOf_len H.out hk4)
      obtain ⟨ak, hak⟩ : ∃ ak, ak = atP M k := ⟨_, rfl⟩
      rw [← hak]
      have HAK := Lib.hid hak
      have HA5 : Hid (ak ≤ 300000) := by unfold Hid; rw [hak]; have := HPL.out k hk; omega
      clear hak
      generalize D.file k = Fk at *
      generalize (arrF D).toArray = AR at *
      go_upto_region 5 with fail
      obtain ⟨g, hg⟩ : ∃ g, g = wr.heap.size := ⟨_, rfl⟩
      refine name_world (fun W => BoxF w g Fk W ∧ Below wr.heap.size wr W) (by rw [hg]; exact ⟨⟨heap_alloc_new wr _, HE.out.bel.alloc HE.out.bel.size _⟩, (Below.refl _ wr).alloc (Nat.le_refl _) _⟩) ?_
      rintro w1 ⟨hx, hb1⟩
      rw [← hg]
      have HGE := Lib.hid (show wr.heap.size ≤ g by rw [hg]; exact Nat.le_refl _)
      have HX := Lib.hid hx
      have HB := Lib.hid hb1
      have g3 : w1.cell? ⟨g, 3, none⟩ = some (.slice Fk.B Fk.m Fk.d) := HX.out.c3
      have HGW := Lib.hid (show w.heap.size + 1 < g by rw [hg]; exact lt_of_block HR2.out.box)
      clear hx hb1 hg ix
      go_wp2
      go_loop [5, 8, 9, 10] (fun a l q f => ∃ t x : Nat, f = .int .i64 x ∧ Hid (x = 8 * t ∧ t ≤ (Fk.m + 7) / 8) ∧ a = .int .i64 (ak + t : Nat) ∧ l = .int .i64 ((cr keep ak Fk.m t).2 : Nat) ∧ q = .bool (cr keep ak Fk.m t).1) (fun _ _ _ f => 70000 - (intOf f).toNat)
      case atStart => exact ⟨0, 0, rfl, Lib.hid ⟨rfl, Nat.zero_le _⟩, rfl, rfl, rfl⟩
      case round =>
        obtain ⟨t, x, rfl, HT, rfl, rfl, rfl⟩ := hrel
        have hm := HM.out
        by_cases hx8 : x < Fk.m
        · have hxx : (x : Int) < Fk.m := by omega
          have hta : ak + t ≤ 400000 := by have := HA5.out; have := HT.out; omega
          have HQ1 := Lib.hid (show (cr keep ak Fk.m (t + 1)).1 = ((cr keep ak Fk.m t).1 && keep.getD (ak + t) false) from rfl)
          have HQ2 := Lib.hid (show (cr keep ak Fk.m (t + 1)).2 = if ((cr keep ak Fk.m t).1 && keep.getD (ak + t) false) then min (8 * t + 8) Fk.m else (cr keep ak Fk.m t).2 from rfl)
          generalize (cr keep ak Fk.m t).1 = q1 at *
          generalize (cr keep ak Fk.m t).2 = q2 at *
          obtain ⟨a, ha⟩ : ∃ a, a = ak + t := ⟨_, rfl⟩
          rw [← ha] at hta ⊢
          have HA := Lib.hid ha
          have ht8 : x = 8 * t := HT.out.1
          have HT1 := Lib.hid (show x + 8 = 8 * (t + 1) ∧ t + 1 ≤ (Fk.m + 7) / 8 by omega)
          have HX8 := Lib.hid ht8
          clear ha ht8
          rcases q1 with _ | _
          · go_wp2
            go_round
            case rel => exact ⟨t + 1, x + 8, by go_num, HT1, by have := HA.out; go_num, by rw [HQ2.out]; rfl, by rw [HQ1.out]; rfl⟩
            case measure => simp [intOf]; omega
          · by_cases hak : a < kn
            · have hakk : (a : Int) < kn := by omega
              obtain ⟨bK, oK, hKe, _, hcK⟩ := HK.out (by rw [HKN.out]; omega)
              subst hKe
              have cK := (HX.out.bel.cell (p := ⟨bK, oK + a, none⟩) (by assumption)).trans (hcK a (by rw [HKN.out]; exact hak))
              have HG := Lib.hid (show keep.getD (ak + t) false = keep.getD a false by rw [HA.out])
              rw [HG.out] at HQ1 HQ2
              clear hcK
              generalize keep.getD a false = kb at *
              rcases kb with _ | _
              · go_wp2
                go_round
                case rel => exact ⟨t + 1, x + 8, by go_num, HT1, by have := HA.out; go_num, by rw [HQ2.out]; rfl, by rw [HQ1.out]; rfl⟩
                case measure => simp [intOf]; omega
              · go_wp2
                go_round
                case rel => exact ⟨t + 1, x + 8, by go_num, HT1, by have := HA.out; go_num, by rw [HQ2.out, ← HX8.out]; go_num, by rw [HQ1.out]; rfl⟩
                case measure => simp [intOf]; omega
            · have hakk : ¬ (a : Int) < kn := by omega
              have HG := Lib.hid (show keep.getD (ak + t) false = false by rw [← HA.out, List.getD_eq_getElem?_getD, List.getElem?_eq_none (by rw [HKN.out]; omega)]; rfl)
              rw [HG.out] at HQ1 HQ2
              go_wp2
              go_round
              case rel => exact ⟨t + 1, x + 8, by go_num, HT1, by have := HA.out; go_num, by rw [HQ2.out]; rfl, by rw [HQ1.out]; rfl⟩
              case measure => simp [intOf]; omega
        · have hxx : ¬ (x : Int) < Fk.m := by omega
          have ht : t = (Fk.m + 7) / 8 := by have h8 := HT.out; omega
          have HTT := Lib.hid ht
          clear ht
          obtain ⟨lv, hlv⟩ : ∃ lv, lv = (cr keep ak Fk.m t).2 := ⟨_, rfl⟩
          rw [← hlv]
          have hlm : lv ≤ Fk.m := by rw [hlv]; exact cr_le _ _ _ _
          have HLV := Lib.hid hlv
          have hld : (lv : Int) ≤ (Fk.d : Int) := by have := HF.out.loose.le; omega
          have u0 : (0 : Int) ≤ (lv : Int) := by omega
          obtain ⟨xs, hxs⟩ : ∃ xs, xs = (M.file (k : Int)).bs.take (M.file (k : Int)).syn := ⟨_, rfl⟩
          obtain ⟨ys, hys⟩ : ∃ ys, ys = ((M.file (k : Int)).bs.drop (M.file (k : Int)).syn).take lv := ⟨_, rfl⟩
          have hsx := HF.out.syn
          have hsy := HF.out.loose.take hlm
          rw [← hxs] at hsx
          rw [← hys] at hsy
          have LX := Lib.hid hsx.len
          have LY := Lib.hid hsy.len
          have HRX := Lib.hid ((hsx.rd.below HX.out.bel).wide HX.out.bel.size)
          have HRY := Lib.hid ((hsy.rd.below HX.out.bel).wide HX.out.bel.size)
          have HXS := Lib.hid hxs
          have HYS := Lib.hid hys
          have HLM := Lib.hid hlm
          have hn : Fk.n ≤ 65536 := by have := hsx.len; rw [hxs, List.length_take] at this; have h1 := len_le M (k := (k : Int)) ⟨by omega, by omega⟩; have h2 := HOK.out.tot; have h3 := HOK.out.room2; rw [len_file] at *; have h4 := len_file M (k : Int); omega
          have g2 : w1.cell? ⟨g, 2, none⟩ = some (.slice Fk.A Fk.n Fk.c) := by simp [World.cell?, HX.out.box]
          have gl := Lib.hid (lt_of_block HX.out.box)
          have OM := Lib.hid (show (w1.drew.alloc (.cells #[] 5)).ownsRow w1.heap.size 5 1 (.slice (some ⟨w1.heap.size, 0, none⟩) 0 0) 0 [] from World.ownsRow_made w1.drew #[] 0 (Nat.le_refl _) (Nat.zero_le _) rfl)
          have hdr : Below w1.heap.size w1 w1.drew := ⟨rfl, rfl, rfl, Nat.le_refl _, fun _ _ => rfl⟩
          have hba : Below w1.heap.size w1 (w1.drew.alloc (.cells #[] 5)) := hdr.alloc (Nat.le_refl _) _
          have HBA := Lib.hid hba
          have RX := Lib.hid ((HRX.out.below hba).wide hba.size)
          have hb1 : Fk.n ≤ 140737488355328 := by omega
          have hb2 : Fk.n + lv ≤ 140737488355328 := by omega
          clear hsx hsy hxs hys hlv hba hdr hlm hn
          go_upto_region 14 with fail
          go_region_held3 (fun W => W.cell? ⟨g, 2, none⟩ = some (.slice Fk.A Fk.n Fk.c) ∧ W.cell? ⟨g, 3, none⟩ = some (.slice Fk.B Fk.m Fk.d)) (first | exact ⟨g2, g3⟩ | exact ⟨(HBA.out.cell (p := ⟨g, 2, none⟩) gl.out).trans g2, (HBA.out.cell (p := ⟨g, 3, none⟩) gl.out).trans g3⟩ | exact ⟨d2, d3⟩ | exact ⟨e2, e3⟩) (first
            | (refine step_app0 (by rfl) _ _ (by rfl) w1.heap.size (some ⟨w1.heap.size, 0, none⟩) 0 (by rfl) OM.out Fk.A Fk.c Fk.n xs (by rfl) LX.out RX.out hb1 HBA.out.size ?_; intro A2 c2' W2 hown2 hb2'; have B2 := Lib.hid (HBA.out.trans hb2'); have d2 := (B2.out.cell (p := ⟨g, 2, none⟩) gl.out).trans g2; have d3 := (B2.out.cell (p := ⟨g, 3, none⟩) gl.out).trans g3; have O2 := Lib.hid hown2; have RY := Lib.hid ((HRY.out.below B2.out).wide B2.out.size); clear hown2 hb2')
            | (refine step_app1 (by rfl) _ _ (by rfl) w1.heap.size A2 c2' Fk.n xs (by rfl) O2.out Fk.B Fk.d lv ys (by rfl) LY.out RY.out hb2 B2.out.size ?_; intro A3 c3' W3 hown3 hb3; have B3 := Lib.hid (B2.out.trans hb3); have e2 := (B3.out.cell (p := ⟨g, 2, none⟩) gl.out).trans g2; have e3 := (B3.out.cell (p := ⟨g, 3, none⟩) gl.out).trans g3; have O3 := Lib.hid hown3; clear hown3 hb3))
          have HX3 := Lib.hid (HX.out.later B3.out)
          have SL := Lib.hid (SlN.own (N := fun q => N q ∨ q = w.heap.size ∨ q = w.heap.size + 1) (base := w1.heap.size) O3.out (fun q hq => by
            have h1 := HX.out.bel.size
            have h2 := gl.out
            have h3 := HGW.out
            rcases hq with e | e | e
            · have := HNN.out q e; omega
            · omega
            · omega))
          have HE3 := Lib.hid (HE.out.later (HB.out.trans (B3.out.mono HB.out.size)))
          have HR3 := Lib.hid (HR2.out.later (HB.out.trans (B3.out.mono HB.out.size)))
          have HI3 := Lib.hid (HI.out.below (HB.out.trans (B3.out.mono HB.out.size)))
          have k0 : W3.cell? ⟨g, 0, none⟩ = some (.bool Fk.there) := by simp [World.cell?, HX3.out.box]
          have k1 : W3.cell? ⟨g, 1, none⟩ = some (.bool Fk.kept) := by simp [World.cell?, HX3.out.box]
          have l0 := HX3.out.fz 0
          obtain ⟨nl, hnl⟩ : ∃ nl, nl = Fk.n + lv := ⟨_, rfl⟩
          rw [← hnl] at SL O3 ⊢
          have HNL := Lib.hid hnl
          clear hnl g2 d2 d3 e2 e3 g3 hb1 hb2 hld u0
          have HGB := Lib.hid (show w.heap.size ≤ g by have := HGW.out; omega)
          have HGN := Lib.hid (show g ≠ w.heap.size by have := HGW.out; omega)
          have HGN1 := Lib.hid (show g ≠ w.heap.size + 1 by have := HGW.out; omega)
          rcases ht0 : Fk.there with _ | _
          · have HCN : Hid ((M.crash keep).files (k : Int) = none) := by
              have h1 := HF.out.there
              rw [ht0] at h1
              have h2 : M.files (k : Int) = none := by
                rcases hq : M.files (k : Int) with _ | G
                · rfl
                · rw [hq] at h1; cases h1
              show (M.files (k : Int)).bind _ = none
              rw [h2]
              rfl
            rw [ht0] at k0
            clear ht0
            go_upto_region 16 with fail
            refine name_world (fun W => BoxR w w.heap.size E W ∧ BoxR w (w.heap.size + 1) zeroR W ∧ BoxF w g { Fk with there := false } W ∧ Turn (fun q => q = g) W3 W) ⟨HE3.out.setOther (p := ⟨g, 0, none⟩) HGB.out HGN.out _, HR3.out.setOther (p := ⟨g, 0, none⟩) HGB.out HGN1.out _, HX3.out.set HGB.out 0 _ rfl, ⟨rfl, rfl, rfl, by simp [World.setCell], fun k hk hn => Below.heap_setCell _ _ _ _ hn⟩⟩ ?_
            rintro W4 ⟨hE4, hR4, hX4, ht4⟩
            have HE4 := Lib.hid hE4
            have HR4 := Lib.hid hR4
            have HX4 := Lib.hid hX4
            have HT4 := Lib.hid ht4
            clear hE4 hR4 hX4 ht4 k0 k1 l0
            go_upto_region 17 with (refine wp_storeF (F := RF.none) rfl _ _ rfl hk4 rfl rfl HE4.out ?_)
            refine name_world (fun W => BoxR w w.heap.size (E.put k RF.none) W ∧ BoxR w (w.heap.size + 1) zeroR W ∧ BoxF w g { Fk with there := false } W ∧ Turn (fun q => q = g ∨ q = w.heap.size) W3 W) ⟨setCells_put hk4 (Nat.le_refl _) HE4.out RF.none, setCells_other (Nat.le_refl _) (by omega) HR4.out RF.none, HX4.out.cells (Nat.le_refl _) HGN.out.symm _, (HT4.out.mono (fun i e => .inl e)).trans (turn_setCells _ _ _ _) (fun i e => .inl (.inr e))⟩ ?_
            rintro W5 ⟨hE5, hR5, hX5, ht5⟩
            have HE5 := Lib.hid hE5
            have HR5 := Lib.hid hR5
            have HT5 := Lib.hid ht5
            have k5 : W5.cell? ⟨g, 0, none⟩ = some (.bool false) := by simp [World.cell?, hX5.box]
            clear hE5 hR5 hX5 ht5 HE4 HR4 HX4 HT4
            have htw : ∀ W, Turn (fun q => q = g ∨ q = w.heap.size) W3 W → Turn (fun q => q = w.heap.size ∨ q = w.heap.size + 1) wr W := fun W hW => by
              have hb3 := HB.out.trans (B3.out.mono HB.out.size)
              have hgg := HGE.out
              exact ⟨hW.os.trans hb3.os, hW.tape.trans hb3.tape, hW.output.trans hb3.output, Nat.le_trans hb3.size hW.size, fun q hq hn => (hW.block q (Nat.lt_of_lt_of_le hq hb3.size) (fun e => by rcases e with e | e; exact (by omega); exact hn (.inl e))).trans (hb3.block q hq)⟩
            have hIW : ∀ W, Turn (fun q => q = g ∨ q = w.heap.size) W3 W → RefIs W (fun q => N q ∨ q = w.heap.size ∨ q = w.heap.size + 1) E (M.half keep k) := fun W hW => HI.out.turn (htw W hW) (fun q _ e => .inr e) (fun q _ e => e)
            have hat : (ak : Int) + (t : Int) = ((atP M (k + 1) : Nat) : Int) := by
              have h1 : atP M (k + 1) = atP M k + (M.pcsOf k).length := rfl
              have h2 := HPC.out
              have h3 := HAK.out
              have h4 := HTT.out
              omega
            go_wp2
            refine ⟨⟨k + 1, by go_num, by omega, by rw [← hat], Lib.hid ⟨_, HE5.out, HR5.out, half_drop hk4 (hIW _ HT5.out) HCN.out⟩⟩, by simp [intOf]; omega⟩
          · have hsome : ∃ G, M.files (k : Int) = some G := by
              have h1 := HF.out.there
              rw [ht0] at h1
              exact Option.isSome_iff_exists.1 h1.symm
            obtain ⟨G, hG⟩ := hsome
            have hfile : M.file (k : Int) = G := by unfold AD.file; rw [hG]; rfl
            have hsg := HOK.out.syn (k : Int) G hG
            have hl1 := HF.out.syn.len
            have hl2 := HF.out.loose.len
            rw [hfile, List.length_take] at hl1
            rw [hfile, List.length_drop] at hl2
            have hleft : M.left keep (k : Int) = nl := by
              rw [left_at keep hk4 hG, HNL.out, HLV.out, ← HAK.out]
              have e1 : G.bs.length - G.syn = Fk.m := hl2
              have e2 : G.pn = t := by have := HTT.out; unfold AF.pn; omega
              rw [e1, e2]
              omega
            have hcr : (M.crash keep).files (k : Int) = if nl = 0 ∧ Fk.kept = false then none else some ⟨G.bs.take nl, nl, true⟩ := by
              show (M.files (k : Int)).bind _ = _
              rw [hG, Option.bind_some, hleft, HF.out.kept, hfile]
              rfl
            have hbytes : xs ++ ys = (G.bs.take nl).take nl := by
              rw [List.take_take, Nat.min_self, HXS.out, HYS.out, hfile, HNL.out, show Fk.n = G.syn by omega, List.take_add]
            have HBY := Lib.hid hbytes
            have HCR := Lib.hid hcr
            have HA3 := Lib.hid (fun q (hq : blk A3 = some q) => (World.ownsRow.lt O3.out q (by cases hh : A3 <;> simp_all [Value.ownBlock, blk])).1)
            rw [ht0] at k0
            clear ht0 hG hfile hsg hl1 hl2 hleft hcr hbytes
            rcases hkp : Fk.kept with _ | _
            · rw [hkp] at k1 HCR
              by_cases hz : nl = 0
              · have HCN : Hid ((M.crash keep).files (k : Int) = none) := by unfold Hid; rw [HCR.out, if_pos ⟨hz, rfl⟩]
                have dz : decide (0 < nl) = false := by simp [hz]
                clear hkp hz
                go_upto_region 16 with fail
                refine name_world (fun W => BoxR w w.heap.size E W ∧ BoxR w (w.heap.size + 1) zeroR W ∧ BoxF w g { Fk with there := false } W ∧ Turn (fun q => q = g) W3 W) ⟨HE3.out.setOther (p := ⟨g, 0, none⟩) HGB.out HGN.out _, HR3.out.setOther (p := ⟨g, 0, none⟩) HGB.out HGN1.out _, HX3.out.set HGB.out 0 _ rfl, ⟨rfl, rfl, rfl, by simp [World.setCell], fun k hk hn => Below.heap_setCell _ _ _ _ hn⟩⟩ ?_
                rintro W4 ⟨hE4, hR4, hX4, ht4⟩
                have HE4 := Lib.hid hE4
                have HR4 := Lib.hid hR4
                have HX4 := Lib.hid hX4
                have HT4 := Lib.hid ht4
                clear hE4 hR4 hX4 ht4 k0 k1 l0
                go_upto_region 17 with (refine wp_storeF (F := RF.none) rfl _ _ rfl hk4 rfl rfl HE4.out ?_)
                refine name_world (fun W => BoxR w w.heap.size (E.put k RF.none) W ∧ BoxR w (w.heap.size + 1) zeroR W ∧ BoxF w g { Fk with there := false } W ∧ Turn (fun q => q = g ∨ q = w.heap.size) W3 W) ⟨setCells_put hk4 (Nat.le_refl _) HE4.out RF.none, setCells_other (Nat.le_refl _) (by omega) HR4.out RF.none, HX4.out.cells (Nat.le_refl _) HGN.out.symm _, (HT4.out.mono (fun i e => .inl e)).trans (turn_setCells _ _ _ _) (fun i e => .inl (.inr e))⟩ ?_
                rintro W5 ⟨hE5, hR5, hX5, ht5⟩
                have HE5 := Lib.hid hE5
                have HR5 := Lib.hid hR5
                have HT5 := Lib.hid ht5
                have k5 : W5.cell? ⟨g, 0, none⟩ = some (.bool false) := by simp [World.cell?, hX5.box]
                clear hE5 hR5 hX5 ht5 HE4 HR4 HX4 HT4
                have htw : ∀ W, Turn (fun q => q = g ∨ q = w.heap.size) W3 W → Turn (fun q => q = w.heap.size ∨ q = w.heap.size + 1) wr W := fun W hW => by
                  have hb3 := HB.out.trans (B3.out.mono HB.out.size)
                  have hgg := HGE.out
                  exact ⟨hW.os.trans hb3.os, hW.tape.trans hb3.tape, hW.output.trans hb3.output, Nat.le_trans hb3.size hW.size, fun q hq hn => (hW.block q (Nat.lt_of_lt_of_le hq hb3.size) (fun e => by rcases e with e | e; exact (by omega); exact hn (.inl e))).trans (hb3.block q hq)⟩
                have hIW : ∀ W, Turn (fun q => q = g ∨ q = w.heap.size) W3 W → RefIs W (fun q => N q ∨ q = w.heap.size ∨ q = w.heap.size + 1) E (M.half keep k) := fun W hW => HI.out.turn (htw W hW) (fun q _ e => .inr e) (fun q _ e => e)
                have hat : (ak : Int) + (t : Int) = ((atP M (k + 1) : Nat) : Int) := by
                  have h1 : atP M (k + 1) = atP M k + (M.pcsOf k).length := rfl
                  have h2 := HPC.out
                  have h3 := HAK.out
                  have h4 := HTT.out
                  omega
                go_wp2
                refine ⟨⟨k + 1, by go_num, by omega, by rw [← hat], Lib.hid ⟨_, HE5.out, HR5.out, half_drop hk4 (hIW _ HT5.out) HCN.out⟩⟩, by simp [intOf]; omega⟩
              · have HCS : Hid ((M.crash keep).files (k : Int) = some ⟨G.bs.take nl, nl, true⟩) := by unfold Hid; rw [HCR.out, if_neg (by simp [hz])]
                have dz : decide (0 < nl) = true := by simp; omega
                clear hkp hz
                go_upto_region 16 with fail
                refine name_world (fun W => BoxR w w.heap.size E W ∧ BoxR w (w.heap.size + 1) zeroR W ∧ BoxF w g { Fk with there := true } W ∧ Turn (fun q => q = g) W3 W) ⟨HE3.out.setOther (p := ⟨g, 0, none⟩) HGB.out HGN.out _, HR3.out.setOther (p := ⟨g, 0, none⟩) HGB.out HGN1.out _, HX3.out.set HGB.out 0 _ rfl, ⟨rfl, rfl, rfl, by simp [World.setCell], fun k hk hn => Below.heap_setCell _ _ _ _ hn⟩⟩ ?_
                rintro W4 ⟨hE4, hR4, hX4, ht4⟩
                have HE4 := Lib.hid hE4
                have HR4 := Lib.hid hR4
                have HX4 := Lib.hid hX4
                have HT4 := Lib.hid ht4
                clear hE4 hR4 hX4 ht4 k0 k1 l0
                go_upto_region 17 with (refine wp_storeF (F := RF.none) rfl _ _ rfl hk4 rfl rfl HE4.out ?_)
                refine name_world (fun W => BoxR w w.heap.size (E.put k RF.none) W ∧ BoxR w (w.heap.size + 1) zeroR W ∧ BoxF w g { Fk with there := true } W ∧ Turn (fun q => q = g ∨ q = w.heap.size) W3 W) ⟨setCells_put hk4 (Nat.le_refl _) HE4.out RF.none, setCells_other (Nat.le_refl _) (by omega) HR4.out RF.none, HX4.out.cells (Nat.le_refl _) HGN.out.symm _, (HT4.out.mono (fun i e => .inl e)).trans (turn_setCells _ _ _ _) (fun i e => .inl (.inr e))⟩ ?_
                rintro W5 ⟨hE5, hR5, hX5, ht5⟩
                have HE5 := Lib.hid hE5
                have HR5 := Lib.hid hR5
                have HT5 := Lib.hid ht5
                have k5 : W5.cell? ⟨g, 0, none⟩ = some (.bool true) := by simp [World.cell?, hX5.box]
                clear hE5 hR5 hX5 ht5 HE4 HR4 HX4 HT4
                have htw : ∀ W, Turn (fun q => q = g ∨ q = w.heap.size) W3 W → Turn (fun q => q = w.heap.size ∨ q = w.heap.size + 1) wr W := fun W hW => by
                  have hb3 := HB.out.trans (B3.out.mono HB.out.size)
                  have hgg := HGE.out
                  exact ⟨hW.os.trans hb3.os, hW.tape.trans hb3.tape, hW.output.trans hb3.output, Nat.le_trans hb3.size hW.size, fun q hq hn => (hW.block q (Nat.lt_of_lt_of_le hq hb3.size) (fun e => by rcases e with e | e; exact (by omega); exact hn (.inl e))).trans (hb3.block q hq)⟩
                have hIW : ∀ W, Turn (fun q => q = g ∨ q = w.heap.size) W3 W → RefIs W (fun q => N q ∨ q = w.heap.size ∨ q = w.heap.size + 1) E (M.half keep k) := fun W hW => HI.out.turn (htw W hW) (fun q _ e => .inr e) (fun q _ e => e)
                have hat : (ak : Int) + (t : Int) = ((atP M (k + 1) : Nat) : Int) := by
                  have h1 : atP M (k + 1) = atP M k + (M.pcsOf k).length := rfl
                  have h2 := HPC.out
                  have h3 := HAK.out
                  have h4 := HTT.out
                  omega
                obtain ⟨F2, hF2⟩ : ∃ F2 : RF, F2 = ⟨true, true, A3, nl, c3', none, 0, 0⟩ := ⟨_, rfl⟩
                have HFY := Lib.hid (show Value.agg #[.bool true, .bool true, .slice A3 nl c3', .slice none 0 0] = .agg (rfA F2) by rw [hF2])
                have HF2 := Lib.hid hF2
                clear hF2
                go_upto_region 19 with (refine wp_storeF (F := F2) rfl _ _ rfl hk4 rfl HFY.out HE5.out ?_)
                refine name_world (fun W => BoxR w w.heap.size ((E.put k RF.none).put k F2) W ∧ BoxR w (w.heap.size + 1) zeroR W ∧ Turn (fun q => q = g ∨ q = w.heap.size) W3 W) ⟨setCells_put hk4 (Nat.le_refl _) HE5.out _, setCells_other (Nat.le_refl _) (by omega) HR5.out _, HT5.out.trans (turn_setCells _ _ _ _) (fun i e => .inl (.inr e))⟩ ?_
                rintro W6 ⟨hE6, hR6, ht6⟩
                have hsl := SL.out.turnX ht6 HA3.out (fun q hq e => by have h1 := gl.out; have h2 := HGW.out; rcases e with e | e <;> omega)
                rw [HBY.out] at hsl
                have hFI : FileIs W6 (fun q => N q ∨ q = w.heap.size ∨ q = w.heap.size + 1) F2 true ⟨G.bs.take nl, nl, true⟩ := by
                  rw [HF2.out]
                  exact ⟨rfl, rfl, hsl, by
                  show SlN W6 _ none 0 0 ((G.bs.take nl).drop nl)
                  rw [List.drop_take, Nat.sub_self, List.take_zero]
                  exact SlN.none W6 _⟩
                have HRES := Lib.hid (half_put hk4 (hIW _ ht6) HCS.out hFI)
                have HE6 := Lib.hid hE6
                have HR6 := Lib.hid hR6
                clear hE6 hR6 hsl hFI htw hIW
                go_wp2
                refine ⟨⟨k + 1, by go_num, by omega, by rw [← hat], Lib.hid ⟨_, HE6.out, HR6.out, HRES.out⟩⟩, by simp [intOf]; omega⟩
            · rw [hkp] at k1 HCR
              have HCS : Hid ((M.crash keep).files (k : Int) = some ⟨G.bs.take nl, nl, true⟩) := by unfold Hid; rw [HCR.out, if_neg (by simp)]
              clear hkp
              go_upto_region 16 with fail
              refine name_world (fun W => BoxR w w.heap.size E W ∧ BoxR w (w.heap.size + 1) zeroR W ∧ BoxF w g { Fk with there := true } W ∧ Turn (fun q => q = g) W3 W) ⟨HE3.out.setOther (p := ⟨g, 0, none⟩) HGB.out HGN.out _, HR3.out.setOther (p := ⟨g, 0, none⟩) HGB.out HGN1.out _, HX3.out.set HGB.out 0 _ rfl, ⟨rfl, rfl, rfl, by simp [World.setCell], fun k hk hn => Below.heap_setCell _ _ _ _ hn⟩⟩ ?_
              rintro W4 ⟨hE4, hR4, hX4, ht4⟩
              have HE4 := Lib.hid hE4
              have HR4 := Lib.hid hR4
              have HX4 := Lib.hid hX4
              have HT4 := Lib.hid ht4
              clear hE4 hR4 hX4 ht4 k0 k1 l0
              go_upto_region 17 with (refine wp_storeF (F := RF.none) rfl _ _ rfl hk4 rfl rfl HE4.out ?_)
              refine name_world (fun W => BoxR w w.heap.size (E.put k RF.none) W ∧ BoxR w (w.heap.size + 1) zeroR W ∧ BoxF w g { Fk with there := true } W ∧ Turn (fun q => q = g ∨ q = w.heap.size) W3 W) ⟨setCells_put hk4 (Nat.le_refl _) HE4.out RF.none, setCells_other (Nat.le_refl _) (by omega) HR4.out RF.none, HX4.out.cells (Nat.le_refl _) HGN.out.symm _, (HT4.out.mono (fun i e => .inl e)).trans (turn_setCells _ _ _ _) (fun i e => .inl (.inr e))⟩ ?_
              rintro W5 ⟨hE5, hR5, hX5, ht5⟩
              have HE5 := Lib.hid hE5
              have HR5 := Lib.hid hR5
              have HT5 := Lib.hid ht5
              have k5 : W5.cell? ⟨g, 0, none⟩ = some (.bool true) := by simp [World.cell?, hX5.box]
              clear hE5 hR5 hX5 ht5 HE4 HR4 HX4 HT4
              have htw : ∀ W, Turn (fun q => q = g ∨ q = w.heap.size) W3 W → Turn (fun q => q = w.heap.size ∨ q = w.heap.size + 1) wr W := fun W hW => by
                have hb3 := HB.out.trans (B3.out.mono HB.out.size)
                have hgg := HGE.out
                exact ⟨hW.os.trans hb3.os, hW.tape.trans hb3.tape, hW.output.trans hb3.output, Nat.le_trans hb3.size hW.size, fun q hq hn => (hW.block q (Nat.lt_of_lt_of_le hq hb3.size) (fun e => by rcases e with e | e; exact (by omega); exact hn (.inl e))).trans (hb3.block q hq)⟩
              have hIW : ∀ W, Turn (fun q => q = g ∨ q = w.heap.size) W3 W → RefIs W (fun q => N q ∨ q = w.heap.size ∨ q = w.heap.size + 1) E (M.half keep k) := fun W hW => HI.out.turn (htw W hW) (fun q _ e => .inr e) (fun q _ e => e)
              have hat : (ak : Int) + (t : Int) = ((atP M (k + 1) : Nat) : Int) := by
                have h1 : atP M (k + 1) = atP M k + (M.pcsOf k).length := rfl
                have h2 := HPC.out
                have h3 := HAK.out
                have h4 := HTT.out
                omega
              obtain ⟨F2, hF2⟩ : ∃ F2 : RF, F2 = ⟨true, true, A3, nl, c3', none, 0, 0⟩ := ⟨_, rfl⟩
              have HFY := Lib.hid (show Value.agg #[.bool true, .bool true, .slice A3 nl c3', .slice none 0 0] = .agg (rfA F2) by rw [hF2])
              have HF2 := Lib.hid hF2
              clear hF2
              go_upto_region 19 with (refine wp_storeF (F := F2) rfl _ _ rfl hk4 rfl HFY.out HE5.out ?_)
              refine name_world (fun W => BoxR w w.heap.size ((E.put k RF.none).put k F2) W ∧ BoxR w (w.heap.size + 1) zeroR W ∧ Turn (fun q => q = g ∨ q = w.heap.size) W3 W) ⟨setCells_put hk4 (Nat.le_refl _) HE5.out _, setCells_other (Nat.le_refl _) (by omega) HR5.out _, HT5.out.trans (turn_setCells _ _ _ _) (fun i e => .inl (.inr e))⟩ ?_
              rintro W6 ⟨hE6, hR6, ht6⟩
              have hsl := SL.out.turnX ht6 HA3.out (fun q hq e => by have h1 := gl.out; have h2 := HGW.out; rcases e with e | e <;> omega)
              rw [HBY.out] at hsl
              have hFI : FileIs W6 (fun q => N q ∨ q = w.heap.size ∨ q = w.heap.size + 1) F2 true ⟨G.bs.take nl, nl, true⟩ := by
                rw [HF2.out]
                exact ⟨rfl, rfl, hsl, by
                show SlN W6 _ none 0 0 ((G.bs.take nl).drop nl)
                rw [List.drop_take, Nat.sub_self, List.take_zero]
                exact SlN.none W6 _⟩
              have HRES := Lib.hid (half_put hk4 (hIW _ ht6) HCS.out hFI)
              have HE6 := Lib.hid hE6
              have HR6 := Lib.hid hR6
              clear hE6 hR6 hsl hFI htw hIW
              go_wp2
              refine ⟨⟨k + 1, by go_num, by omega, by rw [← hat], Lib.hid ⟨_, HE6.out, HR6.out, HRES.out⟩⟩, by simp [intOf]; omega⟩
    · obtain rfl : k = 4 := by omega
      have e20 := HE.out.c20
      have e18 := HE.out.c18
      have e19 := HE.out.c19
      have f20 := HE.out.fz 20
      have f18 := HE.out.fz 18
      have f19 := HE.out.fz 19
      go_upto_region 21 with fail
      obtain ⟨E', hE'⟩ : ∃ E' : RD, E' = { E with dead := false, armed := -1, failing := -1 } := ⟨_, rfl⟩
      have hb20 : w.heap.size ≤ w.heap.size := Nat.le_refl _
      refine name_world (fun W => BoxR w w.heap.size E' W ∧ BoxR w (w.heap.size + 1) zeroR W ∧ Turn (fun g => g = w.heap.size) wr W) (by
        rw [hE']
        have t1 : ∀ (W : World) (i : Nat) (v : Value), Turn (fun g => g = w.heap.size) W (W.setCell ⟨w.heap.size, i, none⟩ v) := fun W i v => ⟨rfl, rfl, rfl, by simp [World.setCell], fun k hk hn => Below.heap_setCell _ _ _ _ hn⟩
        exact ⟨((HE.out.set hb20 20 (.bool false) (D' := { E with dead := false }) rfl).set hb20 18 (.int .i64 (-1)) (D' := { E with dead := false, armed := -1 }) rfl).set hb20 19 (.int .i64 (-1)) (D' := { E with dead := false, armed := -1, failing := -1 }) rfl,
          ((HR2.out.setOther (p := ⟨w.heap.size, 20, none⟩) hb20 (by simp) _).setOther (p := ⟨w.heap.size, 18, none⟩) hb20 (by simp) _).setOther (p := ⟨w.heap.size, 19, none⟩) hb20 (by simp) _,
          ((t1 _ _ _).trans (t1 _ _ _) (fun i hi => .inl hi)).trans (t1 _ _ _) (fun i hi => .inl hi)⟩) ?_
      rintro W5 ⟨hD5, hR5, ht5⟩
      have HD5 := Lib.hid hD5
      have HR5 := Lib.hid hR5
      have HT5 := Lib.hid ht5
      have HE' := Lib.hid hE'
      clear hD5 hR5 ht5 hE' e20 e18 e19 f20 f18 f19
      go_wp2_with (first | (refine wp_loadR rfl _ rfl rfl HD5.out ?_) | (refine wp_storeR rfl _ _ rfl rfl rfl HR5.out ?_))
      refine bodyPost_ret (v := .agg (rdA E')) (results_oneR rfl rfl (HR5.out.fill (Nat.le_succ _) E')) rfl ⟨E', rfl, ?_, (HR5.out.fill (Nat.le_succ _) E').bel⟩
      have hI := HI.out.turn (N' := N) (turn_fill HT5.out (rdA E')) (fun g _ e => .inr e) (fun g _ e => .inl e)
      have hc := crash_end_ref hI
      rw [HE'.out] at hc ⊢
      exact hc

end Go.Proofs.Ythpbgejjfdgpaaa
