/-
  Of.
-/
import Derived.Test.YtgljmcddakeoiaaDoorMskH
namespace Go.Proofs.YtgljmcddakeoiaaDoor
open Go.RowKit Go.Shelf
set_option linter.unusedVariables false
set_option linter.unusedSimpArgs false
set_option maxRecDepth 100000

def ofM (l : List Int) : Mk := mk fun k => decide ((k : Int) ∈ l)
def ofE (l : List Int) : Int := if l.all slotB then 0 else 2
theorem ofM_snoc (l : List Int) {k : Nat} {x : Int} (h : l[k]? = some x) : mk (fun n => [ofM (l.take k), mk fun k => decide ((k : Int) = x)].any fun m => has m n) = ofM (l.take (k + 1)) := by
  have e : l.take (k + 1) = l.take k ++ [x] := by rw [List.take_add_one, h]; rfl
  rw [e]
  unfold ofM
  exact mk_congr (fun j hj => by simp [has_mk, hj])
theorem ofM_nil : ofM [] = (0, 0) := by
  unfold ofM mk
  have h : ∀ k, wd (fun _ => false) k = 0 := by
    intro k
    induction k with
    | zero => rfl
    | succ k ih => unfold wd; rw [ih]; rfl
  simp [h]
theorem ofM_fine (l : List Int) : Fine (ofM l) := mk_fine _

set_option maxHeartbeats 4000000 in
theorem of_any (A : Option Addr) (c : Nat) (l : List Int) (w : World) (h : Vec .i64 w A c l) :
    Calls Tryd.prog 5 #[.slice A l.length c] w (GivesME w (if ofE l = 0 then ofM l else (0, 0)) (ofE l)) := by
  obtain ⟨s, hs⟩ : ∃ s, s = w.heap.size := ⟨_, rfl⟩
  obtain ⟨n, hn⟩ : ∃ n, n = l.length := ⟨_, rfl⟩
  have hmn : (n : Int) ≤ 9223372036854775807 := by have := h.room; have := h.most; omega
  have hnc : n ≤ c := by have := h.room; omega
  have hcm : (c : Int) ≤ 9223372036854775807 := by have := h.most; omega
  obtain ⟨W0, hW0⟩ : ∃ W0, W0 = (w.alloc (.cells #[.int .u64 (0 : Nat), .int .u64 (0 : Nat)] 25)).alloc (.cells #[.int .u64 (0 : Nat), .int .u64 (0 : Nat)] 25) := ⟨_, rfl⟩
  have hB : Below w.heap.size w W0 := by rw [hW0]; exact ((Below.refl _ w).alloc (Nat.le_refl _) _).alloc (by simp) _
  have hR : MRow W0 s 0 0 := by rw [hW0, hs]; exact (MRow.new w 0 0).below ((Below.refl _ _).alloc (Nat.le_refl _) _) (by simp)
  have hm0 : MRow W0 (s + 1) 0 0 := by
    rw [hW0, hs]; have := MRow.new (w.alloc (.cells #[.int .u64 (0 : Nat), .int .u64 (0 : Nat)] 25)) 0 0
    rwa [World.size_alloc] at this
  have HA := Lib.hid h
  have HN := Lib.hid hn
  have HS := Lib.hid hs
  have HB := Lib.hid hB
  have HR := Lib.hid hR
  have HM0 := Lib.hid (show MRow W0 (s + 1) (ofM (l.take 0)).1 (ofM (l.take 0)).2 from by rw [List.take_zero, ofM_nil]; exact hm0)
  have HW0 := Lib.hid hW0
  obtain ⟨e0, he0⟩ : ∃ e, e = ofE l := ⟨_, rfl⟩
  obtain ⟨M0, hM0⟩ : ∃ M, M = if ofE l = 0 then ofM l else (0, 0) := ⟨_, rfl⟩
  rw [← hM0, ← he0]
  have HE := Lib.hid (And.intro he0 hM0)
  rw [← hn]
  clear he0 hM0 h hn hB hR hm0 hs hW0
  go_enter Tryd.func5, Tryd.ntmps5
  go_wp2
  rw [show (w.alloc (.cells #[.int .u64 0, .int .u64 0] 25)).alloc (.cells #[.int .u64 0, .int .u64 0] 25) = W0 from HW0.out.symm, ← HS.out]
  go_loopw [9] (fun i wr => ∃ (k : Nat), k ≤ n ∧ i = .int .i64 k ∧ Hid (Below w.heap.size w wr) ∧ Hid (MRow wr s 0 0) ∧ Hid (MRow wr (s + 1) (ofM (l.take k)).1 (ofM (l.take k)).2) ∧ Hid ((l.take k).all slotB = true)) (fun i _ => n - (intOf i).toNat)
  case atStart => exact ⟨0, by omega, rfl, HB, HR, HM0, Lib.hid rfl⟩
  case round =>
    obtain ⟨k, hk, rfl, HW, HRr, HMr, HQ⟩ := hrel
    by_cases hkn : k < n
    · obtain ⟨b, o, rfl, hb, hcell⟩ := (HA.out.below HW.out).at_ (j := k) (by rw [← HN.out]; exact hkn)
      obtain ⟨x, hx⟩ : ∃ x, l[k]? = some x := ⟨_, List.getElem?_eq_getElem (by rw [← HN.out]; exact hkn)⟩
      have hxg : l.getD k 0 = x := by simp [List.getD, hx]
      rw [hxg] at hcell
      have hfit := HA.out.fit x (List.mem_of_getElem? hx)
      have hxr : -9223372036854775808 ≤ x ∧ x ≤ 9223372036854775807 := by
        simp [Lit.wf, IntKind.min, IntKind.max, IntKind.signed, IntKind.bits] at hfit
        omega
      have HI := Lib.hid (fun W => isSlot_any x W hxr)
      have HX := Lib.hid hx
      have hm := HMr.out
      have hr := HRr.out
      have k0 : (0 : Int) ≤ k := by omega
      have kn : (k : Int) < n := by omega
      cases hsl : slotB x with
      | false =>
        have HF := Lib.hid (show ofE l = 2 by unfold ofE; rw [all_no slotB l hx hsl]; rfl)
        rw [hsl] at HI
        have r0 := hr.cell0
        have r1 := hr.cell1
        have f0 := hr.frozen 0
        have f1 := hr.frozen 1
        obtain ⟨z0, z1, hbZ⟩ := res2 0 0 hr HW.out (by rw [HS.out]; exact Nat.le_refl _)
        have HBZ := Lib.hid hbZ
        clear hfit hxr hx hxg hm hr hbZ hsl hb
        go_wp2_with fail
        refine (HI.out _).mono ?_
        rintro e w2 ⟨rfl, rfl⟩
        go_wp2
        refine bodyPost_ret (v := .tuple #[.agg #[.int .u64 (0 : Nat), .int .u64 (0 : Nat)], .int .i64 2]) (by simp [results, Tryd.results5, go_sem] at z0 z1 ⊢; simp [z0, z1]) rfl ?_
        rw [HE.out.1, HE.out.2, HF.out]
        exact ⟨rfl, HBZ.out⟩
      | true =>
        rw [hsl] at HI
        have HSl := Lib.hid (show (l.take (k + 1)).all slotB = true by rw [all_take_snoc slotB l hx, HQ.out, hsl]; rfl)
        obtain ⟨S, hS⟩ : ∃ S, S = mk fun k => decide ((k : Int) = x) := ⟨_, rfl⟩
        obtain ⟨Mk0, hMk0⟩ : ∃ M, M = ofM (l.take k) := ⟨_, rfl⟩
        obtain ⟨Mk1, hMk1⟩ : ∃ M, M = ofM (l.take (k + 1)) := ⟨_, rfl⟩
        have HSg := Lib.hid (fun W => show Calls Tryd.prog 18 #[.int .i64 x] W (fun e w' => e = .returned (mv S) ∧ Below W.heap.size W w') from by rw [hS]; exact single_any x W (slotB_yes hsl))
        have HOr := Lib.hid (fun (W : World) (A : Option Addr) (hA : Ms W A 2 [Mk0, S]) => show Calls Tryd.prog 17 #[.slice A 2 2] W (fun e w' => e = .returned (mv Mk1) ∧ Below W.heap.size W w') from by
          have := or_any A 2 [Mk0, S] W hA
          unfold GivesM at this
          rw [hMk0, hS, ofM_snoc l hx, ← hMk1] at this
          exact this)
        have HMs := Lib.hid (fun (W : World) => Ms.two W Mk0 S (by rw [hMk0]; exact mk_fine _) (by rw [hS]; exact mk_fine _))
        rw [← hMk0] at hm
        have HK := Lib.hid (fun (X : World) (hX : Below wr.heap.size wr X) => show (X.cell? ⟨s + 1, 0, none⟩ = some (.int .u64 Mk0.1) ∧ X.cell? ⟨s + 1, 1, none⟩ = some (.int .u64 Mk0.2)) from by
          have h := hm.below hX hm.lt
          exact ⟨h.cell0, h.cell1⟩)
        have HG := Lib.hid (fun (X : World) (hX : Below wr.heap.size wr X) => And.intro (hm.below hX hm.lt) (And.intro (hr.below hX hr.lt) (HW.out.trans (hX.mono HW.out.size))))
        have HMk1 := Lib.hid hMk1
        obtain ⟨c0, c1⟩ := HK.out wr (Below.refl _ _)
        clear hfit hxr hx hxg hm hr hsl hb hS hMk0 hMk1
        unfold mv at HSg HOr
        go_wp2_with fail
        refine (HI.out _).mono ?_
        rintro e w2 ⟨rfl, rfl⟩
        go_wp2
        go_region_with (first
          | (go_at_call 18; (refine (HSg.out _).mono ?_); rintro e w2 ⟨rfl, hb2⟩; have HC2 := Lib.hid (show Below wr.heap.size wr w2 from (below_drew (Below.refl _ wr)).trans hb2); have c0' := (HK.out w2 HC2.out).1; have c1' := (HK.out w2 HC2.out).2; clear hb2)
          | (go_at_call 17; (refine (HOr.out _ _ (HMs.out w2)).mono ?_); rintro e w3 ⟨rfl, hb3⟩; have HC3 := Lib.hid (show Below wr.heap.size wr w3 from (HC2.out.alloc HC2.out.size _).trans (hb3.mono (HC2.out.alloc HC2.out.size _).size)); clear hb3; obtain ⟨hm3, hr3, hbw3⟩ := HG.out _ HC3.out; have r0 := hm3.cell0; have r1 := hm3.cell1; have f0 := hm3.frozen 0; have f1 := hm3.frozen 1; clear hm3 hr3 hbw3))
        all_goals
          go_wp2
          go_roundw
          case rel =>
            obtain ⟨hm3, hr3, hbw3⟩ := HG.out _ HC3.out
            refine ⟨k + 1, by omega, by go_num, Lib.hid (below_set (below_set hbw3 _ _ (by rw [HS.out]; simp)) _ _ (by rw [HS.out]; simp)), Lib.hid ((hr3.other _ _ (by simp)).other _ _ (by simp)), Lib.hid ?_, HSl⟩
            rw [← HMk1.out]
            exact (hm3.set0 _).set1 _
          case measure => simp [intOf]; omega
    · obtain rfl : k = n := by omega
      have hall : l.take k = l := by rw [HN.out, List.take_length]
      have hE : ofE l = 0 := by
        have := HQ.out
        rw [hall] at this
        unfold ofE; rw [this]; rfl
      have HF := Lib.hid hE
      have hm := HMr.out
      rw [hall] at hm
      have hr := HRr.out
      obtain ⟨M, hM⟩ : ∃ M, M = ofM l := ⟨_, rfl⟩
      rw [← hM] at hm
      have HM := Lib.hid hM
      obtain ⟨⟨c0, c1, f0, f1⟩, e0', e1', hbE⟩ := mask_end (M := M) hr HW.out (by rw [HS.out]; exact Nat.le_refl _)
      have m0 := hm.cell0
      have m1 := hm.cell1
      have HBE := Lib.hid hbE
      clear hM hall hE hm hr hbE
      go_wp2
      refine bodyPost_ret (v := .tuple #[.agg #[.int .u64 M.1, .int .u64 M.2], .int .i64 0]) (by simp [results, Tryd.results5, go_sem, e0', e1']) rfl ?_
      rw [HE.out.1, HE.out.2, HF.out, if_pos rfl, ← HM.out]
      exact ⟨rfl, HBE.out⟩
end Go.Proofs.YtgljmcddakeoiaaDoor
