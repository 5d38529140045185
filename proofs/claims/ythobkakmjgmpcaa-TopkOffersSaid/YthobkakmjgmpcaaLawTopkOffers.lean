/-
  Proved: the law TopkOffers, what comes of a selection by what is offered, returns true for every selection and rows of hits, and leaves all memory as it was. No condition.
-/
import Derived.Test.YthobkakmjgmpcaaTopNum
import Derived.Test.YthobkakmjgmpcaaLawFrame
namespace Go.Proofs.Ythobkakmjgmpcaa.topkOffers
open Go.ChangeShapes Go.WideShapes Go.ChangeAt Go.RowKit
set_option linter.unusedVariables false
set_option linter.unusedSimpArgs false
set_option maxRecDepth 100000

/-- The selection lies in block T. -/
structure OffR (w : World) (T : Nat) (K : Int) (H : List HitM) (D : Option Addr) (d : Nat) (W : World) : Prop where
  box : W.heap[T]? = some (.cells #[.int .i64 K, .slice D H.length d] 38 (0, 0))
  hits : Hits W D d H
  few : H.length ≤ 17
  far : blk D ≠ some T
  bel : Below w.heap.size w W
  low : w.heap.size ≤ T
theorem full_yes {K : Int} {H : List HitM} (h : fullB K H = true) : topB K H = true ∧ (H.length : Int) = K ∧ lastM K H = H.getD (H.length - 1) z2 := by
  refine ⟨?_, ?_, ?_⟩
  · unfold fullB at h; simp only [Bool.and_eq_true] at h; exact h.1
  · unfold fullB at h; simp only [Bool.and_eq_true, decide_eq_true_eq] at h; exact h.2
  · unfold lastM; rw [if_pos h]
theorem full_no {K : Int} {H : List HitM} (h : fullB K H = false) : lastM K H = z2 ∧ (topB K H = true → ¬ (H.length : Int) = K) := by
  refine ⟨by unfold lastM; rw [if_neg (by rw [h]; simp)], fun ht e => ?_⟩
  unfold fullB at h
  rw [ht, decide_eq_true e] at h
  cases h
theorem full_bad {K : Int} {H : List HitM} (h : topB K H = false) : fullB K H = false := by unfold fullB; rw [h]; rfl

theorem off_next {w w15 : World} {T : Nat} {K : Int} {Y : List HitM} {C : Option Addr} {d : Nat} {v : Value} (hx : w15.heap[T]? = some (.cells #[.int .i64 K, v] 38 (0, 0))) (hH : Hits w15 C d Y) (hY : Y.length ≤ 17) (hC : blk C ≠ some T) (hb : Below w.heap.size w w15) (hl : w.heap.size ≤ T) :
    OffR w T K Y C d (w15.setCell ⟨T, 1, none⟩ (.slice C Y.length d)) := by
  refine ⟨heap_setCell_same w15 T 1 _ _ _ hx, hH.keepB (by simp [World.setCell]) (fun b o e _ => Below.heap_setCell _ _ _ _ (fun e2 => hC (by rw [e]; exact congrArg some e2))), hY, hC, hb.setCell (by exact hl) _, hl⟩
theorem off_later {w Wa w2 : World} {K : Int} {G : List HitM} {D : Option Addr} {d : Nat} (hr : w2.ownsRow Wa.heap.size 32 2 (.slice D G.length d) G.length (flat G)) (hG : G.length ≤ 17) (hb : Below w.heap.size w w2) :
    OffR w w2.heap.size K G D d (w2.alloc (.cells #[.int .i64 K, .slice D G.length d] 38)) := by
  have hba := (Below.refl w2.heap.size w2).alloc (Nat.le_refl _) (.cells #[.int .i64 K, .slice D G.length d] 38)
  exact ⟨heap_alloc_new _ _, (Hits.ofRow hr).below hba, hG, fun e => by have := (hr.lt _ (by rw [own_blk]; exact e)).2; omega, hb.trans (hba.mono hb.size), hb.size⟩
theorem off_start {w Wa w2 : World} {T : Nat} {K : Int} {G : List HitM} {D : Option Addr} {d : Nat} {a b : Value} (hr : w2.ownsRow Wa.heap.size 32 2 (.slice D G.length d) G.length (flat G)) (hG : G.length ≤ 17) (hx : w2.heap[T]? = some (.cells #[a, b] 38 (0, 0))) (hT : T < Wa.heap.size) (hl : w.heap.size ≤ T) (hb : Below w.heap.size w w2) :
    OffR w T K G D d ((w2.setCell ⟨T, 0, none⟩ (.int .i64 K)).setCell ⟨T, 1, none⟩ (.slice D G.length d)) := by
  have hD : ∀ g, blk D = some g → Wa.heap.size ≤ g := fun g hg => (hr.lt g (by rw [own_blk]; exact hg)).1
  refine ⟨set2 hx _ _, (Hits.ofRow hr).keepB (by simp [World.setCell]) (fun b o e _ => ?_), hG, fun e => by have := hD T e; omega, (hb.setCell (by exact hl) _).setCell (by exact hl) _, hl⟩
  have := hD b (by rw [e]; rfl)
  rw [Below.heap_setCell _ _ _ _ (by show b ≠ T; omega), Below.heap_setCell _ _ _ _ (by show b ≠ T; omega)]

set_option maxHeartbeats 8000000 in
theorem walk {w : World} (K : Int) (A0 : Option Addr) (c0 : Nat) (H0 : List HitM) (wK : (Lit.int .i64 K).wf = true) (h0 : Hits w A0 c0 H0) (A : Option Addr) (c : Nat) (ls : List (List HitM)) (hl : Rows w A c ls) :
    Calls Try.prog 5 #[.agg #[.int .i64 K, .slice A0 H0.length c0], .slice A ls.length c] w fun e w' => e = .returned (.bool true) ∧ Below w.heap.size w w' := by
  have HV := Lib.hid hl
  obtain ⟨n, hn⟩ : ∃ n, n = ls.length := ⟨_, rfl⟩
  have hrn : n ≤ 9223372036854775807 := by rw [hn]; exact Nat.le_trans hl.room hl.most
  have HN := Lib.hid hn
  rw [← hn]
  have HO0 := Lib.hid (fun (V : World) (hV : Below w.heap.size w V) => own_lit A0 c0 17 17 rfl H0 V (h0.below hV) (by omega))
  have HL17 := Lib.hid (show (H0.take 17).length ≤ 17 by simp; omega)
  generalize H0.take 17 = G at *
  generalize H0.length = n0 at *
  obtain ⟨W0, hW0⟩ : ∃ W0, W0 = w.alloc (.cells #[.int .i64 K, .slice A0 n0 c0] 38) := ⟨_, rfl⟩
  have hb0 : Below w.heap.size w W0 := by rw [hW0]; exact (Below.refl _ w).alloc (Nat.le_refl _) _
  have hx0 : W0.heap[w.heap.size]? = some (.cells #[.int .i64 K, .slice A0 n0 c0] 38 (0, 0)) := by rw [hW0]; exact heap_alloc_new _ _
  have HB0 := Lib.hid hb0
  have HX0 := Lib.hid hx0
  have HW0 := Lib.hid hW0
  clear hl hn h0 wK hW0 hb0 hx0
  go_enter Try.func5, Try.ntmps5
  go_wp2_with fail
  rw [← HW0.out]
  refine (wakes_any W0).mono ?_
  rintro e w1 ⟨rfl, hb1⟩
  have HB1 := Lib.hid (HB0.out.trans (hb1.mono HB0.out.size))
  have hx1 : w1.heap[w.heap.size]? = some (.cells #[.int .i64 K, .slice A0 n0 c0] 38 (0, 0)) := (hb1.block _ (lt_of_block HX0.out)).trans HX0.out
  have g0 : w1.cell? ⟨w.heap.size, 0, none⟩ = some (.int .i64 K) := (cell_of_row _ _ _ _ _ _ hx1).trans rfl
  have g1 : w1.cell? ⟨w.heap.size, 1, none⟩ = some (.slice A0 n0 c0) := (cell_of_row _ _ _ _ _ _ hx1).trans rfl
  have HX1 := Lib.hid hx1
  clear hb1 hx1
  go_wp2
  have HB1d := Lib.hid (show Below w.heap.size w w1.drew from below_drew HB1.out)
  obtain ⟨Wa, hWa⟩ : ∃ Wa, Wa = w1.alloc (.cells #[.int .i64 0, .slice none 0 0] 38) := ⟨_, rfl⟩
  have hba : Below w1.heap.size w1 Wa := by rw [hWa]; exact (Below.refl _ w1).alloc (Nat.le_refl _) _
  have hxa : Wa.heap[w1.heap.size]? = some (.cells #[.int .i64 0, .slice none 0 0] 38 (0, 0)) := by rw [hWa]; exact heap_alloc_new _ _
  have hxb : Wa.heap[w.heap.size]? = some (.cells #[.int .i64 K, .slice A0 n0 c0] 38 (0, 0)) := (hba.block _ (lt_of_block HX1.out)).trans HX1.out
  have SA := Lib.hid (show w1.drew.cell? ⟨w.heap.size, 0, none⟩ = some (.int .i64 K) ∧ w1.drew.cell? ⟨w.heap.size, 1, none⟩ = some (.slice A0 n0 c0) from ⟨g0, g1⟩)
  have S0 := Lib.hid (show Wa.drew.cell? ⟨w.heap.size, 0, none⟩ = some (.int .i64 K) ∧ Wa.drew.cell? ⟨w.heap.size, 1, none⟩ = some (.slice A0 n0 c0) from ⟨(cell_of_row _ _ _ _ _ _ hxb).trans rfl, (cell_of_row _ _ _ _ _ _ hxb).trans rfl⟩)
  have HBA := Lib.hid (show Below w.heap.size w Wa.drew from below_drew (HB1.out.trans (hba.mono HB1.out.size)))
  have HXA := Lib.hid (show Wa.drew.heap[w1.heap.size]? = some (.cells #[.int .i64 0, .slice none 0 0] 38 (0, 0)) from hxa)
  have HXB := Lib.hid (show Wa.drew.heap[w.heap.size]? = some (.cells #[.int .i64 K, .slice A0 n0 c0] 38 (0, 0)) from hxb)
  have hTlt : w1.heap.size < Wa.drew.heap.size := lt_of_block HXA.out
  have HOA := Lib.hid (HO0.out Wa.drew HBA.out)
  have hTne : w.heap.size ≠ w1.heap.size := by have := lt_of_block HX1.out; omega
  have hTlow : w.heap.size ≤ w1.heap.size := HB1.out.size
  have SB := Lib.hid (show (w1.drew.alloc (.cells #[.int .i64 0, .slice none 0 0] 38)).cell? ⟨w.heap.size, 0, none⟩ = some (.int .i64 K) ∧ (w1.drew.alloc (.cells #[.int .i64 0, .slice none 0 0] 38)).cell? ⟨w.heap.size, 1, none⟩ = some (.slice A0 n0 c0) from ⟨(cell_of_row _ _ _ _ _ _ (show (w1.drew.alloc (.cells #[.int .i64 0, .slice none 0 0] 38)).heap[w.heap.size]? = _ from (Below.heap_alloc _ _ _ (lt_of_block HX1.out)).trans HX1.out)).trans rfl, (cell_of_row _ _ _ _ _ _ (show (w1.drew.alloc (.cells #[.int .i64 0, .slice none 0 0] 38)).heap[w.heap.size]? = _ from (Below.heap_alloc _ _ _ (lt_of_block HX1.out)).trans HX1.out)).trans rfl⟩)
  rw [hWa] at S0 HOA
  have HWa := Lib.hid hWa
  clear hba hxa hxb hWa
  go_region_held3 (fun W => W.cell? ⟨w.heap.size, 0, none⟩ = some (.int .i64 K) ∧ W.cell? ⟨w.heap.size, 1, none⟩ = some (.slice A0 n0 c0)) (first | exact SA.out | exact SB.out | exact S0.out | exact S2.out | exact S3.out | exact S4.out) (first
    | (go_at_call 12; (with_reducible refine (HO0.out _ HB1d.out).mono ?_); rintro e w2 ⟨v, rfl, D, d, rfl, hr2, hb2⟩; have hx2 : w2.heap[w.heap.size]? = some (.cells #[.int .i64 K, .slice A0 n0 c0] 38 (0, 0)) := (hb2.block _ (lt_of_block HX1.out)).trans HX1.out; have hx3 : (w2.alloc (.cells #[.int .i64 0, .slice none 0 0] 38)).heap[w.heap.size]? = some (.cells #[.int .i64 K, .slice A0 n0 c0] 38 (0, 0)) := (Below.heap_alloc _ _ _ (lt_of_block hx2)).trans hx2; have hx4 : (w2.alloc (.cells #[.int .i64 K, .slice D G.length d] 38)).heap[w.heap.size]? = some (.cells #[.int .i64 K, .slice A0 n0 c0] 38 (0, 0)) := (Below.heap_alloc _ _ _ (lt_of_block hx2)).trans hx2; have S2 := Lib.hid (show w2.cell? ⟨w.heap.size, 0, none⟩ = some (.int .i64 K) ∧ w2.cell? ⟨w.heap.size, 1, none⟩ = some (.slice A0 n0 c0) from ⟨(cell_of_row _ _ _ _ _ _ hx2).trans rfl, (cell_of_row _ _ _ _ _ _ hx2).trans rfl⟩); have S3 := Lib.hid (show (w2.alloc (.cells #[.int .i64 0, .slice none 0 0] 38)).cell? ⟨w.heap.size, 0, none⟩ = some (.int .i64 K) ∧ (w2.alloc (.cells #[.int .i64 0, .slice none 0 0] 38)).cell? ⟨w.heap.size, 1, none⟩ = some (.slice A0 n0 c0) from ⟨(cell_of_row _ _ _ _ _ _ hx3).trans rfl, (cell_of_row _ _ _ _ _ _ hx3).trans rfl⟩); have S4 := Lib.hid (show (w2.alloc (.cells #[.int .i64 K, .slice D G.length d] 38)).cell? ⟨w.heap.size, 0, none⟩ = some (.int .i64 K) ∧ (w2.alloc (.cells #[.int .i64 K, .slice D G.length d] 38)).cell? ⟨w.heap.size, 1, none⟩ = some (.slice A0 n0 c0) from ⟨(cell_of_row _ _ _ _ _ _ hx4).trans rfl, (cell_of_row _ _ _ _ _ _ hx4).trans rfl⟩); have HR4 := Lib.hid (off_later (K := K) (w := w) hr2 HL17.out (HB1d.out.trans (hb2.mono HB1d.out.size))); clear hr2 hb2 hx2 hx3 hx4)
    | (go_at_call 12; refine HOA.out.mono ?_; rintro e w2 ⟨v, rfl, D, d, rfl, hr2, hb2⟩; rw [← HWa.out] at hr2 hb2; have hx2 : w2.heap[w.heap.size]? = some (.cells #[.int .i64 K, .slice A0 n0 c0] 38 (0, 0)) := (hb2.block _ (lt_of_block HXB.out)).trans HXB.out; have hxt : w2.heap[w1.heap.size]? = some (.cells #[.int .i64 0, .slice none 0 0] 38 (0, 0)) := (hb2.block _ (lt_of_block HXA.out)).trans HXA.out; have S2 := Lib.hid (show w2.cell? ⟨w.heap.size, 0, none⟩ = some (.int .i64 K) ∧ w2.cell? ⟨w.heap.size, 1, none⟩ = some (.slice A0 n0 c0) from ⟨(cell_of_row _ _ _ _ _ _ hx2).trans rfl, (cell_of_row _ _ _ _ _ _ hx2).trans rfl⟩); have q0 : w2.cell? ⟨w1.heap.size, 0, none⟩ = some (.int .i64 0) := (cell_of_row _ _ _ _ _ _ hxt).trans rfl; have q1 : w2.cell? ⟨w1.heap.size, 1, none⟩ = some (.slice none 0 0) := (cell_of_row _ _ _ _ _ _ hxt).trans rfl; have f0 : w2.frozen? ⟨w1.heap.size, 0, none⟩ = false := frozen_of_row _ _ _ _ _ hxt; have f1 : w2.frozen? ⟨w1.heap.size, 1, none⟩ = false := frozen_of_row _ _ _ _ _ hxt; have hx4 := (Below.heap_setCell (w2.setCell ⟨w1.heap.size, 0, none⟩ (.int .i64 K)) ⟨w1.heap.size, 1, none⟩ (.slice D G.length d) w.heap.size hTne).trans ((Below.heap_setCell w2 ⟨w1.heap.size, 0, none⟩ (.int .i64 K) w.heap.size hTne).trans hx2); have S4 := Lib.hid (show ((w2.setCell ⟨w1.heap.size, 0, none⟩ (.int .i64 K)).setCell ⟨w1.heap.size, 1, none⟩ (.slice D G.length d)).cell? ⟨w.heap.size, 0, none⟩ = some (.int .i64 K) ∧ ((w2.setCell ⟨w1.heap.size, 0, none⟩ (.int .i64 K)).setCell ⟨w1.heap.size, 1, none⟩ (.slice D G.length d)).cell? ⟨w.heap.size, 1, none⟩ = some (.slice A0 n0 c0) from ⟨(cell_of_row _ _ _ _ _ _ hx4).trans rfl, (cell_of_row _ _ _ _ _ _ hx4).trans rfl⟩); have HR4 := Lib.hid (off_start (T := w1.heap.size) (K := K) (w := w) hr2 HL17.out hxt hTlt hTlow (HBA.out.trans (hb2.mono HBA.out.size))); clear hr2 hb2 hx2 hxt hx4))
  · obtain ⟨T, hT⟩ : ∃ T, T = w2.heap.size := ⟨_, rfl⟩
    rw [← hT] at HR4 ⊢
    obtain ⟨W4, hW4⟩ : ∃ W4, W4 = w2.alloc (.cells #[.int .i64 K, .slice D G.length d] 38) := ⟨_, rfl⟩
    rw [← hW4] at HR4 ⊢
    clear hW4 hT S2 S3 S4 hTlow
    clear S0 SA SB HOA HX0 HX1 HXA HXB HBA hTlt hTne HWa HW0 HB0 HB1 HB1d HO0 g0 g1
    go_wp2
    go_loopw [6, 7, 8, 9, 10, 11, 12, 13, 14, 15, 16, 27] (fun _ _ _ _ _ _ _ _ _ _ _ i wr => ∃ (j : Nat) (H : List HitM) (D : Option Addr) (d : Nat), j ≤ n ∧ j ≤ 10 ∧ i = .int .i64 j ∧ Hid (OffR w T K H D d wr)) (fun _ _ _ _ _ _ _ _ _ _ _ i _ => n - (intOf i).toNat)
    case atStart => exact ⟨0, G, D, d, Nat.zero_le _, Nat.zero_le _, rfl, HR4⟩
    case round =>
      obtain ⟨j, H, D, d, hj, hj10, rfl, HR⟩ := hrel
      by_cases hjn : j < n
      · obtain ⟨b, o, x, B, cb, rfl, hx, hb, hcell, hrow⟩ := HV.out.at_ (i := j) (by rw [← HN.out]; exact hjn)
        have e1 := (HR.out.bel.cell (p := ⟨b, o + j, none⟩) hb).trans hcell
        have j0 : (0 : Int) ≤ j := by omega
        have jn : (j : Int) < n := by omega
        by_cases h10 : j = 10
        · subst h10
          go_wp2
          go_ret
          exact ⟨rfl, HR.out.bel⟩
        · have t8 : ((j : Int) == 10) = false := by simp; omega
          have t81 : (j == 10) = false := by simp; omega
          have hj9 : j < 10 := by omega
          have HO := Lib.hid (own_lit B cb 40 40 rfl x wr (hrow.below HR.out.bel) (by omega))
          have HX40 := Lib.hid (show (x.take 40).length ≤ 40 by simp; omega)
          have HTB := Lib.hid (fun (V : World) (hV : Below wr.heap.size wr V) => show V.cell? ⟨T, 0, none⟩ = some (.int .i64 K) ∧ V.cell? ⟨T, 1, none⟩ = some (.slice D H.length d) from
            ⟨(cell_of_row _ _ _ _ _ _ ((hV.block _ (lt_of_block HR.out.box)).trans HR.out.box)).trans rfl, (cell_of_row _ _ _ _ _ _ ((hV.block _ (lt_of_block HR.out.box)).trans HR.out.box)).trans rfl⟩)
          have HHV := Lib.hid (fun (V : World) (hV : Below wr.heap.size wr V) => HR.out.hits.below hV)
          obtain ⟨m, hm⟩ : ∃ m, H.length = m := ⟨_, rfl⟩
          have hm17 : m ≤ 17 := by rw [← hm]; exact HR.out.few
          have HM := Lib.hid hm
          have HOH := Lib.hid (fun (V : World) (hV : Below wr.heap.size wr V) => own_lit D d m m rfl H V (HHV.out V hV) (by omega))
          rw [List.take_of_length_le (show H.length ≤ m by omega)] at HOH
          have HRT := Lib.hid (fun (V : World) (hV : Below wr.heap.size wr V) => rRight_any K D d H V (HHV.out V hV))
          have HCK := Lib.hid (fun (V : World) (hV : Below wr.heap.size wr V) => check_any K D d H V (HHV.out V hV))
          have HLS := Lib.hid (fun (V : World) (hV : Below wr.heap.size wr V) => last_any K D d H V (HHV.out V hV))
          generalize x.take 40 = X at *
          have HOF := Lib.hid (fun (V : World) (hV : Below wr.heap.size wr V) (C : Option Addr) (dd : Nat) (hC : Hits V C dd X) => offer_any K D C d dd H X V (HHV.out V hV) hC (by have := HX40.out; omega))
          rw [hm] at HTB HOH HRT HCK HLS HOF
          generalize x.length = xl at *
          clear hx hcell hrow h10 hm
          cases htb : topB K H with
          | false =>
            have hfb := full_bad htb
            obtain ⟨hl1, _⟩ := full_no hfb
            obtain ⟨oo1, oo2, oo3⟩ := off_bad (l := X) htb
            rw [topE_no htb] at HCK
            rw [htb] at HRT
            rw [hl1, hfb] at HLS
            rw [oo1, oo2, oo3] at HOF
            obtain ⟨x1, hx1⟩ : ∃ x1, x1 = z2.1 := ⟨_, rfl⟩
            obtain ⟨x2, hx2⟩ : ∃ x2, x2 = z2.2 := ⟨_, rfl⟩
            rw [← hx1, ← hx2] at HLS
            have hx10 : x1 = 0 := hx1
            have hx20 : x2 = 0 := hx2
            clear hx1 hx2 htb hfb hl1 oo1 oo2 oo3
            subst hx10 hx20
            go_wp2_with fail
            refine HO.out.mono ?_
            rintro e w2 ⟨v, rfl, C2, d2, rfl, hr2, hb2⟩
            have HB2 := Lib.hid hb2
            have HX2 := Lib.hid (Hits.ofRow hr2)
            have t20 := (HTB.out w2 hb2).1
            have t21 := (HTB.out w2 hb2).2
            clear hr2 hb2 e1
            go_wp2_with fail
            refine (HOH.out w2 HB2.out).mono ?_
            rintro e w3 ⟨v, rfl, C3, d3, rfl, hr3, hb3⟩
            rw [HM.out] at hr3 ⊢
            have HB3 := Lib.hid (HB2.out.trans (hb3.mono HB2.out.size))
            have HX3 := Lib.hid (And.intro (HX2.out.below hb3) (Hits.ofRow (l := H) (w := w3) (by rw [HM.out]; exact hr3)))
            have t30 := (HTB.out w3 HB3.out).1
            have t31 := (HTB.out w3 HB3.out).2
            clear hr3 hb3 t20 t21
            go_wp2_with fail
            refine (HRT.out w3 HB3.out).mono ?_
            rintro e w4 ⟨rfl, hb4⟩
            have HB4 := Lib.hid (HB3.out.trans (hb4.mono HB3.out.size))
            have HX4 := Lib.hid (And.intro (HX3.out.1.below hb4) (HX3.out.2.below hb4))
            have t40 := (HTB.out w4 HB4.out).1
            have t41 := (HTB.out w4 HB4.out).2
            clear hb4 t30 t31
            go_wp2_with fail
            refine (HCK.out w4 HB4.out).mono ?_
            rintro e w5 ⟨rfl, hb5⟩
            have HB5 := Lib.hid (HB4.out.trans (hb5.mono HB4.out.size))
            have HX5 := Lib.hid (And.intro (HX4.out.1.below hb5) (HX4.out.2.below hb5))
            have t50 := (HTB.out w5 HB5.out).1
            have t51 := (HTB.out w5 HB5.out).2
            clear hb5 t40 t41
            go_wp2_with fail
            refine (HLS.out w5 HB5.out).mono ?_
            rintro e w6 ⟨rfl, hb6⟩
            have HB6 := Lib.hid (HB5.out.trans (hb6.mono HB5.out.size))
            have ha6 := (Below.refl w6.heap.size w6).alloc (Nat.le_refl _) (.cells #[.int .u64 0, .int .u64 0] 32)
            have HA6 := Lib.hid (HB6.out.trans (ha6.mono HB6.out.size))
            have HX6 := Lib.hid (And.intro ((HX5.out.1.below hb6).below ha6) ((HX5.out.2.below hb6).below ha6))
            have HL6 := Lib.hid (heap_alloc_new w6 (.cells #[.int .u64 0, .int .u64 0] 32))
            have t60 := (HTB.out _ HA6.out).1
            have t61 := (HTB.out _ HA6.out).2
            have HOF6 := Lib.hid (HOF.out (w6.alloc (.cells #[.int .u64 0, .int .u64 0] 32)) HA6.out C2 d2 HX6.out.1)
            clear hb6 ha6 t50 t51
            go_wp2_with fail
            refine HOF6.out.mono ?_
            rintro e w7 ⟨B7, c7, rfl, hr7, hb7⟩
            have HB7 := Lib.hid (HA6.out.trans (hb7.mono HA6.out.size))
            have HB9 := Lib.hid (HR.out.bel.trans ((HB7.out.trans ((Below.refl w7.heap.size w7).alloc (Nat.le_refl _) (.cells #[.int .i64 0, .slice B7 0 c7] 38) |>.mono HB7.out.size)).mono HR.out.bel.size))
            have hx7 : w7.heap[w6.heap.size]? = some (.cells #[.int .u64 0, .int .u64 0] 32 (0, 0)) := (hb7.block _ (lt_of_block HL6.out)).trans HL6.out
            have hx8 : (w7.alloc (.cells #[.int .i64 0, .slice B7 0 c7] 38)).heap[w6.heap.size]? = some (.cells #[.int .u64 0, .int .u64 0] 32 (0, 0)) := (Below.heap_alloc _ _ _ (lt_of_block hx7)).trans hx7
            have l0 := (cell_of_row _ _ 0 _ _ _ hx8).trans rfl
            have l1 := (cell_of_row _ _ 1 _ _ _ hx8).trans rfl
            clear hr7 hb7 hx7 hx8
            go_wp2
            go_ret
            exact ⟨rfl, HB9.out⟩
          | true =>
            obtain ⟨k1, k16, hlk, _⟩ := topB_k htb
            have hKt : ((K.toNat : Nat) : Int) = K := by omega
            have hKb : K.toNat ≤ 16 := by omega
            obtain ⟨oo1, oo2, oo3⟩ := off_ok (l := X) htb (by have := HX40.out; omega)
            have HYL := Lib.hid (first_length K.toNat (H ++ X))
            have HRF := Lib.hid (fun (V : World) (B : Option Addr) (dd : Nat) (hB : Hits V B dd (H ++ X)) => rFirst_any B dd K.toNat (H ++ X) V hB (by have := HX40.out; have := HM.out; rw [List.length_append]; omega) (by omega))
            rw [topE_yes htb] at HCK
            rw [htb] at HRT
            rw [oo1, oo2, oo3] at HOF
            rw [hKt] at HRF
            generalize hYY : firstM K.toNat (H ++ X) = Y at *
            clear oo1 oo2 oo3 hYY hKt
            cases hfl : fullB K H with
            | false =>
              obtain ⟨hx12, hmK0⟩ := full_no hfl
              have hmK := hmK0 htb
              rw [HM.out] at hmK
              rw [hx12, hfl] at HLS
              have tK : ((m : Int) == K) = false := by simpa using hmK
              obtain ⟨x1, hx1⟩ : ∃ x1, x1 = z2.1 := ⟨_, rfl⟩
              obtain ⟨x2, hx2⟩ : ∃ x2, x2 = z2.2 := ⟨_, rfl⟩
              rw [← hx1, ← hx2] at HLS
              have hx10 : x1 = 0 := hx1
              have hx20 : x2 = 0 := hx2
              clear hx1 hx2 htb hfl hmK0 hx12 hmK
              subst hx10 hx20
              go_wp2_with fail
              refine HO.out.mono ?_
              rintro e w2 ⟨v, rfl, C2, d2, rfl, hr2, hb2⟩
              have HB2 := Lib.hid hb2
              have HX2 := Lib.hid (Hits.ofRow hr2)
              have t20 := (HTB.out w2 hb2).1
              have t21 := (HTB.out w2 hb2).2
              clear hr2 hb2 e1
              go_wp2_with fail
              refine (HOH.out w2 HB2.out).mono ?_
              rintro e w3 ⟨v, rfl, C3, d3, rfl, hr3, hb3⟩
              rw [HM.out] at hr3 ⊢
              have HB3 := Lib.hid (HB2.out.trans (hb3.mono HB2.out.size))
              have HX3 := Lib.hid (And.intro (HX2.out.below hb3) (Hits.ofRow (l := H) (w := w3) (by rw [HM.out]; exact hr3)))
              have t30 := (HTB.out w3 HB3.out).1
              have t31 := (HTB.out w3 HB3.out).2
              clear hr3 hb3 t20 t21
              go_wp2_with fail
              refine (HRT.out w3 HB3.out).mono ?_
              rintro e w4 ⟨rfl, hb4⟩
              have HB4 := Lib.hid (HB3.out.trans (hb4.mono HB3.out.size))
              have HX4 := Lib.hid (And.intro (HX3.out.1.below hb4) (HX3.out.2.below hb4))
              have t40 := (HTB.out w4 HB4.out).1
              have t41 := (HTB.out w4 HB4.out).2
              clear hb4 t30 t31
              go_wp2_with fail
              refine (HCK.out w4 HB4.out).mono ?_
              rintro e w5 ⟨rfl, hb5⟩
              have HB5 := Lib.hid (HB4.out.trans (hb5.mono HB4.out.size))
              have HX5 := Lib.hid (And.intro (HX4.out.1.below hb5) (HX4.out.2.below hb5))
              have t50 := (HTB.out w5 HB5.out).1
              have t51 := (HTB.out w5 HB5.out).2
              clear hb5 t40 t41
              go_wp2_with fail
              refine (HLS.out w5 HB5.out).mono ?_
              rintro e w6 ⟨rfl, hb6⟩
              have HB6 := Lib.hid (HB5.out.trans (hb6.mono HB5.out.size))
              have ha6 := (Below.refl w6.heap.size w6).alloc (Nat.le_refl _) (.cells #[.int .u64 0, .int .u64 0] 32)
              have HA6 := Lib.hid (HB6.out.trans (ha6.mono HB6.out.size))
              have HX6 := Lib.hid (And.intro ((HX5.out.1.below hb6).below ha6) ((HX5.out.2.below hb6).below ha6))
              have HL6 := Lib.hid (heap_alloc_new w6 (.cells #[.int .u64 0, .int .u64 0] 32))
              have t60 := (HTB.out _ HA6.out).1
              have t61 := (HTB.out _ HA6.out).2
              have HOF6 := Lib.hid (HOF.out (w6.alloc (.cells #[.int .u64 0, .int .u64 0] 32)) HA6.out C2 d2 HX6.out.1)
              clear hb6 ha6 t50 t51
              go_wp2_with fail
              refine HOF6.out.mono ?_
              rintro e w7 ⟨B7, c7, rfl, hr7, hb7⟩
              have HB7 := Lib.hid (HA6.out.trans (hb7.mono HA6.out.size))
              have hqy := HYL.out
              obtain ⟨q, hq⟩ : ∃ q, Y.length = q := ⟨_, rfl⟩
              have HQ := Lib.hid hq
              rw [hq] at hr7 hqy ⊢
              have hq16 : q ≤ 16 := by omega
              clear hqy hq
              obtain ⟨W8, hW8⟩ : ∃ W8, W8 = w7.alloc (.cells #[.int .i64 K, .slice B7 q c7] 38) := ⟨_, rfl⟩
              have hb8 : Below w7.heap.size w7 W8 := by rw [hW8]; exact (Below.refl _ w7).alloc (Nat.le_refl _) _
              have HB8 := Lib.hid (HB7.out.trans (hb8.mono HB7.out.size))
              have hx7 : w7.heap[w6.heap.size]? = some (.cells #[.int .u64 0, .int .u64 0] 32 (0, 0)) := (hb7.block _ (lt_of_block HL6.out)).trans HL6.out
              have hx8 : W8.heap[w6.heap.size]? = some (.cells #[.int .u64 0, .int .u64 0] 32 (0, 0)) := (hb8.block _ (lt_of_block hx7)).trans hx7
              have hn8 : W8.heap[w7.heap.size]? = some (.cells #[.int .i64 K, .slice B7 q c7] 38 (0, 0)) := by rw [hW8]; exact heap_alloc_new _ _
              have l0 : W8.cell? ⟨w6.heap.size, 0, none⟩ = some (.int .u64 0) := (cell_of_row _ _ _ _ _ _ hx8).trans rfl
              have l1 : W8.cell? ⟨w6.heap.size, 1, none⟩ = some (.int .u64 0) := (cell_of_row _ _ _ _ _ _ hx8).trans rfl
              have t80 := (HTB.out W8 HB8.out).1
              have t81 := (HTB.out W8 HB8.out).2
              have HN8 := Lib.hid hn8
              have HR8 := Lib.hid (show W8.ownsRow (w6.alloc (.cells #[.int .u64 0, .int .u64 0] 32)).heap.size 32 2 (.slice B7 q c7) q (flat Y) from row_turn hr7 (S := fun _ => False) (Turn.of_below hb8) (by simp))
              have hb7A : ∀ i, blk B7 = some i → wr.heap.size ≤ i ∧ i < w7.heap.size ∧ (w6.alloc (.cells #[.int .u64 0, .int .u64 0] 32)).heap.size ≤ i := fun i hi => by
                have h1 := hr7.lt i (by rw [own_blk]; exact hi)
                have h2 := HA6.out.size
                exact ⟨by omega, h1.2, h1.1⟩
              have HC3 := Lib.hid (fun (b o : Nat) (e : C3 = some ⟨b, o, none⟩) (hp : 0 < H.length) => show b < (w6.alloc (.cells #[.int .u64 0, .int .u64 0] 32)).heap.size from by
                obtain ⟨b', o', e', hb', _⟩ := HX6.out.2.rd hp
                rw [e] at e'
                cases e'
                exact hb')
              have HB7A := Lib.hid hb7A
              have HX8 := Lib.hid (And.intro ((HX6.out.1.below hb7).below hb8) ((HX6.out.2.below hb7).below hb8))
              have hz78 : w7.heap.size < W8.heap.size := lt_of_block hn8
              have hWle : wr.heap.size ≤ w7.heap.size := HB7.out.size
              have HW8 := Lib.hid hW8
              clear hr7 hb7 hb8 hx7 hx8 hn8 t60 t61
              generalize (w6.alloc (.cells #[.int .u64 0, .int .u64 0] 32)).heap.size = base7 at *
              rw [hW8] at l0 l1 t80 t81
              clear hW8
              go_wp2
              rw [← HW8.out]
              rw [← HW8.out] at l0 l1 t80 t81
              go_quiet (fail)
              obtain ⟨W9, hW9⟩ : ∃ W9, W9 = W8.drewN nq := ⟨_, rfl⟩
              have HB9 := Lib.hid (show Below wr.heap.size wr W9 by rw [hW9]; exact below_drewN HB8.out nq)
              have HN9 := Lib.hid (show W9.heap[w7.heap.size]? = some (.cells #[.int .i64 K, .slice B7 q c7] 38 (0, 0)) by rw [hW9]; exact HN8.out)
              have HR9 := Lib.hid (show W9.ownsRow base7 32 2 (.slice B7 q c7) q (flat Y) by rw [hW9]; exact HR8.out)
              have HX9 := Lib.hid (show Hits W9 C2 d2 X ∧ Hits W9 C3 d3 H by rw [hW9]; exact ⟨HX8.out.1.drewN nq, HX8.out.2.drewN nq⟩)
              have hz79 : w7.heap.size < W9.heap.size := lt_of_block HN9.out
              rw [← hW9]
              clear hW9 l0 l1 t80 t81 hz78
              have t90 := (HTB.out W9 HB9.out).1
              have t91 := (HTB.out W9 HB9.out).2
              go_wp2
              have HBD := Lib.hid (show Below wr.heap.size wr W9.drew from below_drew HB9.out)
              have S0 := Lib.hid (show W9.drew.cell? ⟨T, 0, none⟩ = some (.int .i64 K) ∧ W9.drew.cell? ⟨T, 1, none⟩ = some (.slice D m d) from HTB.out _ HBD.out)
              have HXD := Lib.hid (show Hits W9.drew C2 d2 X from HX9.out.1.drew)
              have hx40 := HX40.out
              obtain ⟨xl2, hxl2⟩ : ∃ xl2, X.length = xl2 := ⟨_, rfl⟩
              have HXL2 := Lib.hid hxl2
              rw [hxl2] at hx40
              go_region_held3 (fun W => W.cell? ⟨T, 0, none⟩ = some (.int .i64 K) ∧ W.cell? ⟨T, 1, none⟩ = some (.slice D m d)) (first | exact S0.out | exact S10.out | exact S11.out | exact S12.out) (first
                | (go_at_call 12; refine (HOH.out _ HBD.out).mono ?_; rintro e w10 ⟨v, rfl, C10, d10, rfl, hr10, hb10⟩; rw [HM.out] at hr10; rw [HM.out]; have HB10 := Lib.hid (HBD.out.trans (hb10.mono HBD.out.size)); have S10 := Lib.hid (HTB.out w10 HB10.out); have HR10 := Lib.hid hr10; have HX10 := Lib.hid (HXD.out.below hb10); have HD10 := Lib.hid hb10; have hlo10 : W9.drew.heap.size ≤ w10.heap.size := hb10.size; clear hr10 hb10)
                | (refine step_happ (by rfl) _ _ 22 Try.underlying22 (by rfl) W9.drew.heap.size C10 d10 m (flat H) (by rfl) HR10.out C2 d2 xl2 X (by rw [← HXL2.out]; rfl) HXL2.out HX10.out (by omega) hlo10 ?_; intro A11 c11 w11 hown hgrow hloc hnil; have hb11 : Below W9.drew.heap.size w10 w11 := ⟨hgrow.os, hgrow.tape, hgrow.output, hgrow.size, fun i hi => hgrow.block i (Nat.lt_of_lt_of_le hi HD10.out.size) (fun e => by have := (HR10.out.lt i (by rw [own_blk]; exact e.symm)).1; omega)⟩; have HB11 := Lib.hid (HB10.out.trans (hb11.mono HBD.out.size)); have HD11 := Lib.hid (HD10.out.trans hb11); have S11 := Lib.hid (HTB.out w11 HB11.out); have HH11 := Lib.hid (Hits.ofRow (l := H ++ X) (w := w11) (by rw [List.length_append, HM.out, HXL2.out, flat_append]; exact hown)); clear hown hgrow hloc hnil hb11)
                | (go_at_call 15; have HRF11 := Lib.hid (HRF.out w11 A11 c11 HH11.out); rw [List.length_append, HM.out, HXL2.out] at HRF11; refine HRF11.out.mono ?_; rintro e w12 ⟨v, rfl, C12, d12, rfl, hr12, hb12⟩; rw [HQ.out] at hr12; rw [HQ.out]; have HB12 := Lib.hid (HB11.out.trans (hb12.mono HB11.out.size)); have HD12 := Lib.hid (HD11.out.trans (hb12.mono HD11.out.size)); have S12 := Lib.hid (HTB.out w12 HB12.out); have HR12 := Lib.hid hr12; have hlo12 : W9.drew.heap.size ≤ w11.heap.size := HD11.out.size; clear hr12 hb12))
              all_goals (
                have hx12 : w12.heap[w7.heap.size]? = some (.cells #[.int .i64 K, .slice B7 q c7] 38 (0, 0)) := (HD12.out.block _ hz79).trans HN9.out
                have n0 : w12.cell? ⟨w7.heap.size, 0, none⟩ = some (.int .i64 K) := (cell_of_row _ _ _ _ _ _ hx12).trans rfl
                have n1 : w12.cell? ⟨w7.heap.size, 1, none⟩ = some (.slice B7 q c7) := (cell_of_row _ _ _ _ _ _ hx12).trans rfl
                have t120 := S12.out.1
                have t121 := S12.out.2
                have HN12 := Lib.hid hx12
                have HR12B := Lib.hid (row_turn HR9.out (S := fun _ => False) (Turn.of_below ((below_drew (Below.refl W9.heap.size W9)).trans HD12.out)) (by simp))
                have HX12 := Lib.hid (HX9.out.2.below ((below_drew (Below.refl W9.heap.size W9)).trans HD12.out))
                have HS1 := Lib.hid (rSame_yes B7 C12 c7 d12 Y w12 (Hits.ofRow (l := Y) (w := w12) (by rw [HQ.out]; exact HR12B.out)) (Hits.ofRow (l := Y) (w := w12) (by rw [HQ.out]; exact HR12.out)))
                have HS2 := Lib.hid (fun (V : World) (hD : Hits V D d H) (hC : Hits V C3 d3 H) => rSame_yes D C3 d d3 H V hD hC)
                rw [HQ.out] at HS1
                rw [HM.out] at HS2
                clear hx12
                go_wp2_with fail
                refine HS1.out.mono ?_
                rintro e w13 ⟨rfl, hb13⟩
                have HB13 := Lib.hid (HB12.out.trans (hb13.mono HB12.out.size))
                have HX13 := Lib.hid (HX12.out.below hb13)
                have t130 := (HTB.out w13 HB13.out).1
                have t131 := (HTB.out w13 HB13.out).2
                have HD13 := Lib.hid hb13
                clear hb13 n0 n1 t120 t121
                go_wp2_with fail
                refine (HS2.out w13 (HHV.out w13 HB13.out) HX13.out).mono ?_
                rintro e w14 ⟨rfl, hb14⟩
                have HB14 := Lib.hid (HB13.out.trans (hb14.mono HB13.out.size))
                have HD14 := Lib.hid (HD13.out.trans (hb14.mono HD13.out.size))
                have HX14 := Lib.hid (HX13.out.below hb14)
                have HN14 := Lib.hid ((HD14.out.block _ (lt_of_block HN12.out)).trans HN12.out)
                have n140 : w14.cell? ⟨w7.heap.size, 0, none⟩ = some (.int .i64 K) := (cell_of_row _ _ _ _ _ _ HN14.out).trans rfl
                have n141 : w14.cell? ⟨w7.heap.size, 1, none⟩ = some (.slice B7 q c7) := (cell_of_row _ _ _ _ _ _ HN14.out).trans rfl
                have HR14 := Lib.hid (show ∃ xs, w14.ownsRow base7 32 2 (.slice B7 q c7) q xs from ⟨_, row_turn HR12B.out (S := fun _ => False) (Turn.of_below HD14.out) (by simp)⟩)
                have HW14 := Lib.hid (show Hits w14 C12 d12 Y from (Hits.ofRow (l := Y) (w := w12) (by rw [HQ.out]; exact HR12.out)).below HD14.out)
                clear hb14 t130 t131
                go_wp2
                go_loopw [16, 161] (fun _ i ws => ∃ z : Nat, z ≤ q ∧ i = .int .i64 z ∧ Hid ((∃ xs, ws.ownsRow base7 32 2 (.slice B7 q c7) q xs) ∧ Turn (fun i => blk B7 = some i) w14 ws)) (fun _ i _ => q - (intOf i).toNat)
                case atStart => exact ⟨0, Nat.zero_le _, rfl, Lib.hid ⟨HR14.out, Turn.refl _ _⟩⟩
                case round =>
                  obtain ⟨z, hz, rfl, HZ⟩ := hrel
                  have hz7 : ¬ blk B7 = some w7.heap.size := fun e => by have := (HB7A.out _ e).2.1; omega
                  have hnz := (HZ.out.2.block _ (lt_of_block HN14.out) hz7).trans HN14.out
                  have nz1 : wr.cell? ⟨w7.heap.size, 1, none⟩ = some (.slice B7 q c7) := (cell_of_row _ _ _ _ _ _ hnz).trans rfl
                  by_cases hzq : z < q
                  · obtain ⟨⟨xs, hr⟩, htu⟩ := HZ.out
                    obtain ⟨g7, hB7, hg71, hg72⟩ := row_form hr (by omega)
                    have hxs := hr.1
                    rw [hB7] at hr
                    have u1 := hr.cellAt (z * 2) (by omega)
                    rw [List.getElem?_eq_getElem (by omega)] at u1
                    have f1 := hr.frozenAt (z * 2)
                    obtain ⟨s1, s2⟩ := hr.stored (z * 2) (.int .u64 77)
                    have HS := Lib.hid (show (∃ xs, (wr.setCell ⟨g7, z * 2, none⟩ (.int .u64 77)).ownsRow base7 32 2 (.slice B7 q c7) q xs) ∧ Turn (fun i => blk B7 = some i) w14 (wr.setCell ⟨g7, z * 2, none⟩ (.int .u64 77)) from
                      ⟨⟨_, by rw [hB7]; exact s1⟩, turn_set htu (.inl (by rw [hB7]; rfl)) _⟩)
                    generalize xs[z * 2] = u at *
                    rw [hB7] at nz1
                    have HB7E := Lib.hid hB7
                    have z0 : (0 : Int) ≤ z := by omega
                    have zq : (z : Int) < q := by omega
                    clear hr htu s1 s2 hg71 hg72 hxs hB7 hnz
                    go_wp2
                    go_roundw
                    case rel => exact ⟨z + 1, by omega, by go_num, HS⟩
                    case measure => simp [intOf]; omega
                  · obtain rfl : z = q := by omega
                    have HTU := Lib.hid HZ.out.2
                    have hlow7 : ∀ i, blk B7 = some i → base7 ≤ i := fun i e => (HB7A.out i e).2.2
                    have hTlt7 := lt_of_block HR.out.box
                    have hT7 : ¬ blk B7 = some T := fun e => by have := (HB7A.out _ e).1; omega
                    have hbt : wr.heap[T]? = some (.cells #[.int .i64 K, .slice D m d] 38 (0, 0)) := by
                      have h1 := (HTU.out.block T (Nat.lt_of_lt_of_le hTlt7 HB14.out.size) hT7).trans ((HB14.out.block T hTlt7).trans HR.out.box)
                      rw [HM.out] at h1
                      exact h1
                    have HDz := Lib.hid (show Hits wr D d H from (HHV.out w14 HB14.out).keepB HTU.out.size (fun b1 o1 e hp => HTU.out.block b1 (by
                      obtain ⟨b', o', e', hb', _⟩ := HR.out.hits.rd hp
                      rw [e] at e'
                      cases e'
                      exact Nat.lt_of_lt_of_le hb' HB14.out.size) (fun e2 => by
                      obtain ⟨b', o', e', hb', _⟩ := HR.out.hits.rd hp
                      rw [e] at e'
                      cases e'
                      have := (HB7A.out _ e2).1
                      omega)))
                    have HCz := Lib.hid (show Hits wr C3 d3 H from HX14.out.keepB HTU.out.size (fun b1 o1 e hp => HTU.out.block b1 (by
                      obtain ⟨b', o', e', hb', _⟩ := HX14.out.rd hp
                      rw [e] at e'
                      cases e'
                      exact hb') (fun e2 => by
                      have := hlow7 _ e2
                      have := HC3.out b1 o1 e hp
                      omega)))
                    have HYz := Lib.hid (show Hits wr C12 d12 Y from HW14.out.keepB HTU.out.size (fun b1 o1 e hp => HTU.out.block b1 (by
                      obtain ⟨b', o', e', hb', _⟩ := HW14.out.rd hp
                      rw [e] at e'
                      cases e'
                      exact hb') (fun e2 => by
                      have h1 := (HR12.out.lt b1 (by rw [own_blk, e]; rfl)).1
                      have h2 := (HB7A.out _ e2).2.1
                      have h3 : W9.heap.size ≤ w11.heap.size := hlo12
                      omega)))
                    have HBz := Lib.hid (show Below w.heap.size w wr from HR.out.bel.trans ((HB14.out.mono HR.out.bel.size).trans (HTU.out.below (Nat.le_trans HR.out.bel.size HB14.out.size) (fun i e => by have := (HB7A.out i e).1; have := HR.out.bel.size; omega))))
                    have tz0 : wr.cell? ⟨T, 0, none⟩ = some (.int .i64 K) := (cell_of_row _ _ _ _ _ _ hbt).trans rfl
                    have tz1 : wr.cell? ⟨T, 1, none⟩ = some (.slice D m d) := (cell_of_row _ _ _ _ _ _ hbt).trans rfl
                    have HBT := Lib.hid hbt
                    clear hbt hnz nz1
                    go_wp2_with fail
                    refine (HS2.out wr HDz.out HCz.out).mono ?_
                    rintro e w15 ⟨rfl, hb15⟩
                    have hb15t : w15.heap[T]? = some (.cells #[.int .i64 K, .slice D m d] 38 (0, 0)) := (hb15.block _ (lt_of_block HBT.out)).trans HBT.out
                    have q150 : w15.cell? ⟨T, 1, none⟩ = some (.slice D m d) := (cell_of_row _ _ _ _ _ _ hb15t).trans rfl
                    have f150 : w15.frozen? ⟨T, 1, none⟩ = false := frozen_of_row _ _ _ _ _ hb15t
                    have hfin := off_next (w := w) (d := d12) hb15t (HYz.out.below hb15) (by rw [HQ.out]; omega) (fun e => by
                      have h1 := (HR12.out.lt T (by rw [own_blk]; exact e)).1
                      have h3 : W9.heap.size ≤ w11.heap.size := hlo12
                      omega) (HBz.out.trans (hb15.mono HBz.out.size)) HR.out.low
                    rw [HQ.out] at hfin
                    have HFIN := Lib.hid hfin
                    clear hb15 hb15t hfin tz0 tz1
                    go_wp2
                    go_roundw
                    case rel => exact ⟨j + 1, Y, C12, d12, by omega, by omega, by go_num, HFIN⟩
                    case measure => simp [intOf]; omega)
            | true =>
              obtain ⟨_, hmK, hx12⟩ := full_yes hfl
              rw [HM.out] at hmK hx12
              rw [hx12, hfl] at HLS
              have tK : ((m : Int) == K) = true := by simpa using hmK
              obtain ⟨r, hr⟩ : ∃ r, r = m - 1 := ⟨_, rfl⟩
              rw [← hr] at HLS hx12
              have hrm : r < m := by omega
              have hix : K - 1 = (r : Int) := by omega
              have HAT := Lib.hid (fun (V : World) (hV : Below wr.heap.size wr V) => (HHV.out V hV).at_ (j := r) (by rw [HM.out]; exact hrm))
              generalize H.getD r z2 = x at *
              obtain ⟨x1, x2⟩ := x
              dsimp only at HLS
              have r0 : (0 : Int) ≤ r := by omega
              have rm : (r : Int) < m := by omega
              have hwr : IntKind.i64.wrap (r : Int) = r := i64_fit (by omega)
              clear htb hfl hx12 hmK hr
              go_wp2_with fail
              refine HO.out.mono ?_
              rintro e w2 ⟨v, rfl, C2, d2, rfl, hr2, hb2⟩
              have HB2 := Lib.hid hb2
              have HX2 := Lib.hid (Hits.ofRow hr2)
              have t20 := (HTB.out w2 hb2).1
              have t21 := (HTB.out w2 hb2).2
              clear hr2 hb2 e1
              go_wp2_with fail
              refine (HOH.out w2 HB2.out).mono ?_
              rintro e w3 ⟨v, rfl, C3, d3, rfl, hr3, hb3⟩
              rw [HM.out] at hr3 ⊢
              have HB3 := Lib.hid (HB2.out.trans (hb3.mono HB2.out.size))
              have HX3 := Lib.hid (And.intro (HX2.out.below hb3) (Hits.ofRow (l := H) (w := w3) (by rw [HM.out]; exact hr3)))
              have t30 := (HTB.out w3 HB3.out).1
              have t31 := (HTB.out w3 HB3.out).2
              clear hr3 hb3 t20 t21
              go_wp2_with fail
              refine (HRT.out w3 HB3.out).mono ?_
              rintro e w4 ⟨rfl, hb4⟩
              have HB4 := Lib.hid (HB3.out.trans (hb4.mono HB3.out.size))
              have HX4 := Lib.hid (And.intro (HX3.out.1.below hb4) (HX3.out.2.below hb4))
              have t40 := (HTB.out w4 HB4.out).1
              have t41 := (HTB.out w4 HB4.out).2
              clear hb4 t30 t31
              go_wp2_with fail
              refine (HCK.out w4 HB4.out).mono ?_
              rintro e w5 ⟨rfl, hb5⟩
              have HB5 := Lib.hid (HB4.out.trans (hb5.mono HB4.out.size))
              have HX5 := Lib.hid (And.intro (HX4.out.1.below hb5) (HX4.out.2.below hb5))
              have t50 := (HTB.out w5 HB5.out).1
              have t51 := (HTB.out w5 HB5.out).2
              clear hb5 t40 t41
              go_wp2_with fail
              refine (HLS.out w5 HB5.out).mono ?_
              rintro e w6 ⟨rfl, hb6⟩
              have HB6 := Lib.hid (HB5.out.trans (hb6.mono HB5.out.size))
              have ha6 := (Below.refl w6.heap.size w6).alloc (Nat.le_refl _) (.cells #[.int .u64 x1, .int .u64 x2] 32)
              have HA6 := Lib.hid (HB6.out.trans (ha6.mono HB6.out.size))
              have HX6 := Lib.hid (And.intro ((HX5.out.1.below hb6).below ha6) ((HX5.out.2.below hb6).below ha6))
              have HL6 := Lib.hid (heap_alloc_new w6 (.cells #[.int .u64 x1, .int .u64 x2] 32))
              have t60 := (HTB.out _ HA6.out).1
              have t61 := (HTB.out _ HA6.out).2
              have HOF6 := Lib.hid (HOF.out (w6.alloc (.cells #[.int .u64 x1, .int .u64 x2] 32)) HA6.out C2 d2 HX6.out.1)
              clear hb6 ha6 t50 t51
              go_wp2_with fail
              refine HOF6.out.mono ?_
              rintro e w7 ⟨B7, c7, rfl, hr7, hb7⟩
              have HB7 := Lib.hid (HA6.out.trans (hb7.mono HA6.out.size))
              have hqy := HYL.out
              obtain ⟨q, hq⟩ : ∃ q, Y.length = q := ⟨_, rfl⟩
              have HQ := Lib.hid hq
              rw [hq] at hr7 hqy ⊢
              have hq16 : q ≤ 16 := by omega
              clear hqy hq
              obtain ⟨W8, hW8⟩ : ∃ W8, W8 = w7.alloc (.cells #[.int .i64 K, .slice B7 q c7] 38) := ⟨_, rfl⟩
              have hb8 : Below w7.heap.size w7 W8 := by rw [hW8]; exact (Below.refl _ w7).alloc (Nat.le_refl _) _
              have HB8 := Lib.hid (HB7.out.trans (hb8.mono HB7.out.size))
              have hx7 : w7.heap[w6.heap.size]? = some (.cells #[.int .u64 x1, .int .u64 x2] 32 (0, 0)) := (hb7.block _ (lt_of_block HL6.out)).trans HL6.out
              have hx8 : W8.heap[w6.heap.size]? = some (.cells #[.int .u64 x1, .int .u64 x2] 32 (0, 0)) := (hb8.block _ (lt_of_block hx7)).trans hx7
              have hn8 : W8.heap[w7.heap.size]? = some (.cells #[.int .i64 K, .slice B7 q c7] 38 (0, 0)) := by rw [hW8]; exact heap_alloc_new _ _
              have l0 : W8.cell? ⟨w6.heap.size, 0, none⟩ = some (.int .u64 x1) := (cell_of_row _ _ _ _ _ _ hx8).trans rfl
              have l1 : W8.cell? ⟨w6.heap.size, 1, none⟩ = some (.int .u64 x2) := (cell_of_row _ _ _ _ _ _ hx8).trans rfl
              have t80 := (HTB.out W8 HB8.out).1
              have t81 := (HTB.out W8 HB8.out).2
              have HN8 := Lib.hid hn8
              have HR8 := Lib.hid (show W8.ownsRow (w6.alloc (.cells #[.int .u64 x1, .int .u64 x2] 32)).heap.size 32 2 (.slice B7 q c7) q (flat Y) from row_turn hr7 (S := fun _ => False) (Turn.of_below hb8) (by simp))
              have hb7A : ∀ i, blk B7 = some i → wr.heap.size ≤ i ∧ i < w7.heap.size ∧ (w6.alloc (.cells #[.int .u64 x1, .int .u64 x2] 32)).heap.size ≤ i := fun i hi => by
                have h1 := hr7.lt i (by rw [own_blk]; exact hi)
                have h2 := HA6.out.size
                exact ⟨by omega, h1.2, h1.1⟩
              have HC3 := Lib.hid (fun (b o : Nat) (e : C3 = some ⟨b, o, none⟩) (hp : 0 < H.length) => show b < (w6.alloc (.cells #[.int .u64 x1, .int .u64 x2] 32)).heap.size from by
                obtain ⟨b', o', e', hb', _⟩ := HX6.out.2.rd hp
                rw [e] at e'
                cases e'
                exact hb')
              have HB7A := Lib.hid hb7A
              have HX8 := Lib.hid (And.intro ((HX6.out.1.below hb7).below hb8) ((HX6.out.2.below hb7).below hb8))
              have hz78 : w7.heap.size < W8.heap.size := lt_of_block hn8
              have hWle : wr.heap.size ≤ w7.heap.size := HB7.out.size
              have HW8 := Lib.hid hW8
              clear hr7 hb7 hb8 hx7 hx8 hn8 t60 t61
              generalize (w6.alloc (.cells #[.int .u64 x1, .int .u64 x2] 32)).heap.size = base7 at *
              obtain ⟨bd, od, rfl, _, v0, v1⟩ := HAT.out W8 HB8.out
              rw [hW8] at l0 l1 t80 t81 v0 v1
              clear hW8
              go_wp2
              rw [← HW8.out]
              rw [← HW8.out] at l0 l1 t80 t81 v0 v1
              go_quiet (fail)
              obtain ⟨W9, hW9⟩ : ∃ W9, W9 = W8.drewN nq := ⟨_, rfl⟩
              have HB9 := Lib.hid (show Below wr.heap.size wr W9 by rw [hW9]; exact below_drewN HB8.out nq)
              have HN9 := Lib.hid (show W9.heap[w7.heap.size]? = some (.cells #[.int .i64 K, .slice B7 q c7] 38 (0, 0)) by rw [hW9]; exact HN8.out)
              have HR9 := Lib.hid (show W9.ownsRow base7 32 2 (.slice B7 q c7) q (flat Y) by rw [hW9]; exact HR8.out)
              have HX9 := Lib.hid (show Hits W9 C2 d2 X ∧ Hits W9 C3 d3 H by rw [hW9]; exact ⟨HX8.out.1.drewN nq, HX8.out.2.drewN nq⟩)
              have hz79 : w7.heap.size < W9.heap.size := lt_of_block HN9.out
              rw [← hW9]
              clear hW9 l0 l1 t80 t81 v0 v1 hz78
              have t90 := (HTB.out W9 HB9.out).1
              have t91 := (HTB.out W9 HB9.out).2
              go_wp2
              have HBD := Lib.hid (show Below wr.heap.size wr W9.drew from below_drew HB9.out)
              have S0 := Lib.hid (show W9.drew.cell? ⟨T, 0, none⟩ = some (.int .i64 K) ∧ W9.drew.cell? ⟨T, 1, none⟩ = some (.slice (some ⟨bd, od, none⟩) m d) from HTB.out _ HBD.out)
              have HXD := Lib.hid (show Hits W9.drew C2 d2 X from HX9.out.1.drew)
              have hx40 := HX40.out
              obtain ⟨xl2, hxl2⟩ : ∃ xl2, X.length = xl2 := ⟨_, rfl⟩
              have HXL2 := Lib.hid hxl2
              rw [hxl2] at hx40
              go_region_held3 (fun W => W.cell? ⟨T, 0, none⟩ = some (.int .i64 K) ∧ W.cell? ⟨T, 1, none⟩ = some (.slice (some ⟨bd, od, none⟩) m d)) (first | exact S0.out | exact S10.out | exact S11.out | exact S12.out) (first
                | (go_at_call 12; refine (HOH.out _ HBD.out).mono ?_; rintro e w10 ⟨v, rfl, C10, d10, rfl, hr10, hb10⟩; rw [HM.out] at hr10; rw [HM.out]; have HB10 := Lib.hid (HBD.out.trans (hb10.mono HBD.out.size)); have S10 := Lib.hid (HTB.out w10 HB10.out); have HR10 := Lib.hid hr10; have HX10 := Lib.hid (HXD.out.below hb10); have HD10 := Lib.hid hb10; have hlo10 : W9.drew.heap.size ≤ w10.heap.size := hb10.size; clear hr10 hb10)
                | (refine step_happ (by rfl) _ _ 22 Try.underlying22 (by rfl) W9.drew.heap.size C10 d10 m (flat H) (by rfl) HR10.out C2 d2 xl2 X (by rw [← HXL2.out]; rfl) HXL2.out HX10.out (by omega) hlo10 ?_; intro A11 c11 w11 hown hgrow hloc hnil; have hb11 : Below W9.drew.heap.size w10 w11 := ⟨hgrow.os, hgrow.tape, hgrow.output, hgrow.size, fun i hi => hgrow.block i (Nat.lt_of_lt_of_le hi HD10.out.size) (fun e => by have := (HR10.out.lt i (by rw [own_blk]; exact e.symm)).1; omega)⟩; have HB11 := Lib.hid (HB10.out.trans (hb11.mono HBD.out.size)); have HD11 := Lib.hid (HD10.out.trans hb11); have S11 := Lib.hid (HTB.out w11 HB11.out); have HH11 := Lib.hid (Hits.ofRow (l := H ++ X) (w := w11) (by rw [List.length_append, HM.out, HXL2.out, flat_append]; exact hown)); clear hown hgrow hloc hnil hb11)
                | (go_at_call 15; have HRF11 := Lib.hid (HRF.out w11 A11 c11 HH11.out); rw [List.length_append, HM.out, HXL2.out] at HRF11; refine HRF11.out.mono ?_; rintro e w12 ⟨v, rfl, C12, d12, rfl, hr12, hb12⟩; rw [HQ.out] at hr12; rw [HQ.out]; have HB12 := Lib.hid (HB11.out.trans (hb12.mono HB11.out.size)); have HD12 := Lib.hid (HD11.out.trans (hb12.mono HD11.out.size)); have S12 := Lib.hid (HTB.out w12 HB12.out); have HR12 := Lib.hid hr12; have hlo12 : W9.drew.heap.size ≤ w11.heap.size := HD11.out.size; clear hr12 hb12))
              all_goals (
                have hx12 : w12.heap[w7.heap.size]? = some (.cells #[.int .i64 K, .slice B7 q c7] 38 (0, 0)) := (HD12.out.block _ hz79).trans HN9.out
                have n0 : w12.cell? ⟨w7.heap.size, 0, none⟩ = some (.int .i64 K) := (cell_of_row _ _ _ _ _ _ hx12).trans rfl
                have n1 : w12.cell? ⟨w7.heap.size, 1, none⟩ = some (.slice B7 q c7) := (cell_of_row _ _ _ _ _ _ hx12).trans rfl
                have t120 := S12.out.1
                have t121 := S12.out.2
                have HN12 := Lib.hid hx12
                have HR12B := Lib.hid (row_turn HR9.out (S := fun _ => False) (Turn.of_below ((below_drew (Below.refl W9.heap.size W9)).trans HD12.out)) (by simp))
                have HX12 := Lib.hid (HX9.out.2.below ((below_drew (Below.refl W9.heap.size W9)).trans HD12.out))
                have HS1 := Lib.hid (rSame_yes B7 C12 c7 d12 Y w12 (Hits.ofRow (l := Y) (w := w12) (by rw [HQ.out]; exact HR12B.out)) (Hits.ofRow (l := Y) (w := w12) (by rw [HQ.out]; exact HR12.out)))
                have HS2 := Lib.hid (fun (V : World) (hD : Hits V (some ⟨bd, od, none⟩) d H) (hC : Hits V C3 d3 H) => rSame_yes (some ⟨bd, od, none⟩) C3 d d3 H V hD hC)
                rw [HQ.out] at HS1
                rw [HM.out] at HS2
                clear hx12
                go_wp2_with fail
                refine HS1.out.mono ?_
                rintro e w13 ⟨rfl, hb13⟩
                have HB13 := Lib.hid (HB12.out.trans (hb13.mono HB12.out.size))
                have HX13 := Lib.hid (HX12.out.below hb13)
                have t130 := (HTB.out w13 HB13.out).1
                have t131 := (HTB.out w13 HB13.out).2
                have HD13 := Lib.hid hb13
                clear hb13 n0 n1 t120 t121
                go_wp2_with fail
                refine (HS2.out w13 (HHV.out w13 HB13.out) HX13.out).mono ?_
                rintro e w14 ⟨rfl, hb14⟩
                have HB14 := Lib.hid (HB13.out.trans (hb14.mono HB13.out.size))
                have HD14 := Lib.hid (HD13.out.trans (hb14.mono HD13.out.size))
                have HX14 := Lib.hid (HX13.out.below hb14)
                have HN14 := Lib.hid ((HD14.out.block _ (lt_of_block HN12.out)).trans HN12.out)
                have n140 : w14.cell? ⟨w7.heap.size, 0, none⟩ = some (.int .i64 K) := (cell_of_row _ _ _ _ _ _ HN14.out).trans rfl
                have n141 : w14.cell? ⟨w7.heap.size, 1, none⟩ = some (.slice B7 q c7) := (cell_of_row _ _ _ _ _ _ HN14.out).trans rfl
                have HR14 := Lib.hid (show ∃ xs, w14.ownsRow base7 32 2 (.slice B7 q c7) q xs from ⟨_, row_turn HR12B.out (S := fun _ => False) (Turn.of_below HD14.out) (by simp)⟩)
                have HW14 := Lib.hid (show Hits w14 C12 d12 Y from (Hits.ofRow (l := Y) (w := w12) (by rw [HQ.out]; exact HR12.out)).below HD14.out)
                clear hb14 t130 t131
                go_wp2
                go_loopw [16, 161] (fun _ i ws => ∃ z : Nat, z ≤ q ∧ i = .int .i64 z ∧ Hid ((∃ xs, ws.ownsRow base7 32 2 (.slice B7 q c7) q xs) ∧ Turn (fun i => blk B7 = some i) w14 ws)) (fun _ i _ => q - (intOf i).toNat)
                case atStart => exact ⟨0, Nat.zero_le _, rfl, Lib.hid ⟨HR14.out, Turn.refl _ _⟩⟩
                case round =>
                  obtain ⟨z, hz, rfl, HZ⟩ := hrel
                  have hz7 : ¬ blk B7 = some w7.heap.size := fun e => by have := (HB7A.out _ e).2.1; omega
                  have hnz := (HZ.out.2.block _ (lt_of_block HN14.out) hz7).trans HN14.out
                  have nz1 : wr.cell? ⟨w7.heap.size, 1, none⟩ = some (.slice B7 q c7) := (cell_of_row _ _ _ _ _ _ hnz).trans rfl
                  by_cases hzq : z < q
                  · obtain ⟨⟨xs, hr⟩, htu⟩ := HZ.out
                    obtain ⟨g7, hB7, hg71, hg72⟩ := row_form hr (by omega)
                    have hxs := hr.1
                    rw [hB7] at hr
                    have u1 := hr.cellAt (z * 2) (by omega)
                    rw [List.getElem?_eq_getElem (by omega)] at u1
                    have f1 := hr.frozenAt (z * 2)
                    obtain ⟨s1, s2⟩ := hr.stored (z * 2) (.int .u64 77)
                    have HS := Lib.hid (show (∃ xs, (wr.setCell ⟨g7, z * 2, none⟩ (.int .u64 77)).ownsRow base7 32 2 (.slice B7 q c7) q xs) ∧ Turn (fun i => blk B7 = some i) w14 (wr.setCell ⟨g7, z * 2, none⟩ (.int .u64 77)) from
                      ⟨⟨_, by rw [hB7]; exact s1⟩, turn_set htu (.inl (by rw [hB7]; rfl)) _⟩)
                    generalize xs[z * 2] = u at *
                    rw [hB7] at nz1
                    have HB7E := Lib.hid hB7
                    have z0 : (0 : Int) ≤ z := by omega
                    have zq : (z : Int) < q := by omega
                    clear hr htu s1 s2 hg71 hg72 hxs hB7 hnz
                    go_wp2
                    go_roundw
                    case rel => exact ⟨z + 1, by omega, by go_num, HS⟩
                    case measure => simp [intOf]; omega
                  · obtain rfl : z = q := by omega
                    have HTU := Lib.hid HZ.out.2
                    have hlow7 : ∀ i, blk B7 = some i → base7 ≤ i := fun i e => (HB7A.out i e).2.2
                    have hTlt7 := lt_of_block HR.out.box
                    have hT7 : ¬ blk B7 = some T := fun e => by have := (HB7A.out _ e).1; omega
                    have hbt : wr.heap[T]? = some (.cells #[.int .i64 K, .slice (some ⟨bd, od, none⟩) m d] 38 (0, 0)) := by
                      have h1 := (HTU.out.block T (Nat.lt_of_lt_of_le hTlt7 HB14.out.size) hT7).trans ((HB14.out.block T hTlt7).trans HR.out.box)
                      rw [HM.out] at h1
                      exact h1
                    have HDz := Lib.hid (show Hits wr (some ⟨bd, od, none⟩) d H from (HHV.out w14 HB14.out).keepB HTU.out.size (fun b1 o1 e hp => HTU.out.block b1 (by
                      obtain ⟨b', o', e', hb', _⟩ := HR.out.hits.rd hp
                      rw [e] at e'
                      cases e'
                      exact Nat.lt_of_lt_of_le hb' HB14.out.size) (fun e2 => by
                      obtain ⟨b', o', e', hb', _⟩ := HR.out.hits.rd hp
                      rw [e] at e'
                      cases e'
                      have := (HB7A.out _ e2).1
                      omega)))
                    have HCz := Lib.hid (show Hits wr C3 d3 H from HX14.out.keepB HTU.out.size (fun b1 o1 e hp => HTU.out.block b1 (by
                      obtain ⟨b', o', e', hb', _⟩ := HX14.out.rd hp
                      rw [e] at e'
                      cases e'
                      exact hb') (fun e2 => by
                      have := hlow7 _ e2
                      have := HC3.out b1 o1 e hp
                      omega)))
                    have HYz := Lib.hid (show Hits wr C12 d12 Y from HW14.out.keepB HTU.out.size (fun b1 o1 e hp => HTU.out.block b1 (by
                      obtain ⟨b', o', e', hb', _⟩ := HW14.out.rd hp
                      rw [e] at e'
                      cases e'
                      exact hb') (fun e2 => by
                      have h1 := (HR12.out.lt b1 (by rw [own_blk, e]; rfl)).1
                      have h2 := (HB7A.out _ e2).2.1
                      have h3 : W9.heap.size ≤ w11.heap.size := hlo12
                      omega)))
                    have HBz := Lib.hid (show Below w.heap.size w wr from HR.out.bel.trans ((HB14.out.mono HR.out.bel.size).trans (HTU.out.below (Nat.le_trans HR.out.bel.size HB14.out.size) (fun i e => by have := (HB7A.out i e).1; have := HR.out.bel.size; omega))))
                    have tz0 : wr.cell? ⟨T, 0, none⟩ = some (.int .i64 K) := (cell_of_row _ _ _ _ _ _ hbt).trans rfl
                    have tz1 : wr.cell? ⟨T, 1, none⟩ = some (.slice (some ⟨bd, od, none⟩) m d) := (cell_of_row _ _ _ _ _ _ hbt).trans rfl
                    have HBT := Lib.hid hbt
                    clear hbt hnz nz1
                    go_wp2_with fail
                    refine (HS2.out wr HDz.out HCz.out).mono ?_
                    rintro e w15 ⟨rfl, hb15⟩
                    have hb15t : w15.heap[T]? = some (.cells #[.int .i64 K, .slice (some ⟨bd, od, none⟩) m d] 38 (0, 0)) := (hb15.block _ (lt_of_block HBT.out)).trans HBT.out
                    have q150 : w15.cell? ⟨T, 1, none⟩ = some (.slice (some ⟨bd, od, none⟩) m d) := (cell_of_row _ _ _ _ _ _ hb15t).trans rfl
                    have f150 : w15.frozen? ⟨T, 1, none⟩ = false := frozen_of_row _ _ _ _ _ hb15t
                    have hfin := off_next (w := w) (d := d12) hb15t (HYz.out.below hb15) (by rw [HQ.out]; omega) (fun e => by
                      have h1 := (HR12.out.lt T (by rw [own_blk]; exact e)).1
                      have h3 : W9.heap.size ≤ w11.heap.size := hlo12
                      omega) (HBz.out.trans (hb15.mono HBz.out.size)) HR.out.low
                    rw [HQ.out] at hfin
                    have HFIN := Lib.hid hfin
                    clear hb15 hb15t hfin tz0 tz1
                    go_wp2
                    go_roundw
                    case rel => exact ⟨j + 1, Y, C12, d12, by omega, by omega, by go_num, HFIN⟩
                    case measure => simp [intOf]; omega)
      · obtain rfl : j = n := by omega
        go_wp2
        go_ret
        exact ⟨rfl, HR.out.bel⟩
  · obtain ⟨T, hT⟩ : ∃ T, T = w1.heap.size := ⟨_, rfl⟩
    rw [← hT] at HR4 ⊢
    obtain ⟨W4, hW4⟩ : ∃ W4, W4 = (w2.setCell ⟨T, 0, none⟩ (.int .i64 K)).setCell ⟨T, 1, none⟩ (.slice D G.length d) := ⟨_, rfl⟩
    rw [← hW4] at HR4 ⊢
    clear hW4 hT q0 q1 f0 f1 S2 S4 hTlow
    clear S0 SA SB HOA HX0 HX1 HXA HXB HBA hTlt hTne HWa HW0 HB0 HB1 HB1d HO0 g0 g1
    go_wp2
    go_loopw [6, 7, 8, 9, 10, 11, 12, 13, 14, 15, 16, 27] (fun _ _ _ _ _ _ _ _ _ _ _ i wr => ∃ (j : Nat) (H : List HitM) (D : Option Addr) (d : Nat), j ≤ n ∧ j ≤ 10 ∧ i = .int .i64 j ∧ Hid (OffR w T K H D d wr)) (fun _ _ _ _ _ _ _ _ _ _ _ i _ => n - (intOf i).toNat)
    case atStart => exact ⟨0, G, D, d, Nat.zero_le _, Nat.zero_le _, rfl, HR4⟩
    case round =>
      obtain ⟨j, H, D, d, hj, hj10, rfl, HR⟩ := hrel
      by_cases hjn : j < n
      · obtain ⟨b, o, x, B, cb, rfl, hx, hb, hcell, hrow⟩ := HV.out.at_ (i := j) (by rw [← HN.out]; exact hjn)
        have e1 := (HR.out.bel.cell (p := ⟨b, o + j, none⟩) hb).trans hcell
        have j0 : (0 : Int) ≤ j := by omega
        have jn : (j : Int) < n := by omega
        by_cases h10 : j = 10
        · subst h10
          go_wp2
          go_ret
          exact ⟨rfl, HR.out.bel⟩
        · have t8 : ((j : Int) == 10) = false := by simp; omega
          have t81 : (j == 10) = false := by simp; omega
          have hj9 : j < 10 := by omega
          have HO := Lib.hid (own_lit B cb 40 40 rfl x wr (hrow.below HR.out.bel) (by omega))
          have HX40 := Lib.hid (show (x.take 40).length ≤ 40 by simp; omega)
          have HTB := Lib.hid (fun (V : World) (hV : Below wr.heap.size wr V) => show V.cell? ⟨T, 0, none⟩ = some (.int .i64 K) ∧ V.cell? ⟨T, 1, none⟩ = some (.slice D H.length d) from
            ⟨(cell_of_row _ _ _ _ _ _ ((hV.block _ (lt_of_block HR.out.box)).trans HR.out.box)).trans rfl, (cell_of_row _ _ _ _ _ _ ((hV.block _ (lt_of_block HR.out.box)).trans HR.out.box)).trans rfl⟩)
          have HHV := Lib.hid (fun (V : World) (hV : Below wr.heap.size wr V) => HR.out.hits.below hV)
          obtain ⟨m, hm⟩ : ∃ m, H.length = m := ⟨_, rfl⟩
          have hm17 : m ≤ 17 := by rw [← hm]; exact HR.out.few
          have HM := Lib.hid hm
          have HOH := Lib.hid (fun (V : World) (hV : Below wr.heap.size wr V) => own_lit D d m m rfl H V (HHV.out V hV) (by omega))
          rw [List.take_of_length_le (show H.length ≤ m by omega)] at HOH
          have HRT := Lib.hid (fun (V : World) (hV : Below wr.heap.size wr V) => rRight_any K D d H V (HHV.out V hV))
          have HCK := Lib.hid (fun (V : World) (hV : Below wr.heap.size wr V) => check_any K D d H V (HHV.out V hV))
          have HLS := Lib.hid (fun (V : World) (hV : Below wr.heap.size wr V) => last_any K D d H V (HHV.out V hV))
          generalize x.take 40 = X at *
          have HOF := Lib.hid (fun (V : World) (hV : Below wr.heap.size wr V) (C : Option Addr) (dd : Nat) (hC : Hits V C dd X) => offer_any K D C d dd H X V (HHV.out V hV) hC (by have := HX40.out; omega))
          rw [hm] at HTB HOH HRT HCK HLS HOF
          generalize x.length = xl at *
          clear hx hcell hrow h10 hm
          cases htb : topB K H with
          | false =>
            have hfb := full_bad htb
            obtain ⟨hl1, _⟩ := full_no hfb
            obtain ⟨oo1, oo2, oo3⟩ := off_bad (l := X) htb
            rw [topE_no htb] at HCK
            rw [htb] at HRT
            rw [hl1, hfb] at HLS
            rw [oo1, oo2, oo3] at HOF
            obtain ⟨x1, hx1⟩ : ∃ x1, x1 = z2.1 := ⟨_, rfl⟩
            obtain ⟨x2, hx2⟩ : ∃ x2, x2 = z2.2 := ⟨_, rfl⟩
            rw [← hx1, ← hx2] at HLS
            have hx10 : x1 = 0 := hx1
            have hx20 : x2 = 0 := hx2
            clear hx1 hx2 htb hfb hl1 oo1 oo2 oo3
            subst hx10 hx20
            go_wp2_with fail
            refine HO.out.mono ?_
            rintro e w2 ⟨v, rfl, C2, d2, rfl, hr2, hb2⟩
            have HB2 := Lib.hid hb2
            have HX2 := Lib.hid (Hits.ofRow hr2)
            have t20 := (HTB.out w2 hb2).1
            have t21 := (HTB.out w2 hb2).2
            clear hr2 hb2 e1
            go_wp2_with fail
            refine (HOH.out w2 HB2.out).mono ?_
            rintro e w3 ⟨v, rfl, C3, d3, rfl, hr3, hb3⟩
            rw [HM.out] at hr3 ⊢
            have HB3 := Lib.hid (HB2.out.trans (hb3.mono HB2.out.size))
            have HX3 := Lib.hid (And.intro (HX2.out.below hb3) (Hits.ofRow (l := H) (w := w3) (by rw [HM.out]; exact hr3)))
            have t30 := (HTB.out w3 HB3.out).1
            have t31 := (HTB.out w3 HB3.out).2
            clear hr3 hb3 t20 t21
            go_wp2_with fail
            refine (HRT.out w3 HB3.out).mono ?_
            rintro e w4 ⟨rfl, hb4⟩
            have HB4 := Lib.hid (HB3.out.trans (hb4.mono HB3.out.size))
            have HX4 := Lib.hid (And.intro (HX3.out.1.below hb4) (HX3.out.2.below hb4))
            have t40 := (HTB.out w4 HB4.out).1
            have t41 := (HTB.out w4 HB4.out).2
            clear hb4 t30 t31
            go_wp2_with fail
            refine (HCK.out w4 HB4.out).mono ?_
            rintro e w5 ⟨rfl, hb5⟩
            have HB5 := Lib.hid (HB4.out.trans (hb5.mono HB4.out.size))
            have HX5 := Lib.hid (And.intro (HX4.out.1.below hb5) (HX4.out.2.below hb5))
            have t50 := (HTB.out w5 HB5.out).1
            have t51 := (HTB.out w5 HB5.out).2
            clear hb5 t40 t41
            go_wp2_with fail
            refine (HLS.out w5 HB5.out).mono ?_
            rintro e w6 ⟨rfl, hb6⟩
            have HB6 := Lib.hid (HB5.out.trans (hb6.mono HB5.out.size))
            have ha6 := (Below.refl w6.heap.size w6).alloc (Nat.le_refl _) (.cells #[.int .u64 0, .int .u64 0] 32)
            have HA6 := Lib.hid (HB6.out.trans (ha6.mono HB6.out.size))
            have HX6 := Lib.hid (And.intro ((HX5.out.1.below hb6).below ha6) ((HX5.out.2.below hb6).below ha6))
            have HL6 := Lib.hid (heap_alloc_new w6 (.cells #[.int .u64 0, .int .u64 0] 32))
            have t60 := (HTB.out _ HA6.out).1
            have t61 := (HTB.out _ HA6.out).2
            have HOF6 := Lib.hid (HOF.out (w6.alloc (.cells #[.int .u64 0, .int .u64 0] 32)) HA6.out C2 d2 HX6.out.1)
            clear hb6 ha6 t50 t51
            go_wp2_with fail
            refine HOF6.out.mono ?_
            rintro e w7 ⟨B7, c7, rfl, hr7, hb7⟩
            have HB7 := Lib.hid (HA6.out.trans (hb7.mono HA6.out.size))
            have HB9 := Lib.hid (HR.out.bel.trans ((HB7.out.trans ((Below.refl w7.heap.size w7).alloc (Nat.le_refl _) (.cells #[.int .i64 0, .slice B7 0 c7] 38) |>.mono HB7.out.size)).mono HR.out.bel.size))
            have hx7 : w7.heap[w6.heap.size]? = some (.cells #[.int .u64 0, .int .u64 0] 32 (0, 0)) := (hb7.block _ (lt_of_block HL6.out)).trans HL6.out
            have hx8 : (w7.alloc (.cells #[.int .i64 0, .slice B7 0 c7] 38)).heap[w6.heap.size]? = some (.cells #[.int .u64 0, .int .u64 0] 32 (0, 0)) := (Below.heap_alloc _ _ _ (lt_of_block hx7)).trans hx7
            have l0 := (cell_of_row _ _ 0 _ _ _ hx8).trans rfl
            have l1 := (cell_of_row _ _ 1 _ _ _ hx8).trans rfl
            clear hr7 hb7 hx7 hx8
            go_wp2
            go_ret
            exact ⟨rfl, HB9.out⟩
          | true =>
            obtain ⟨k1, k16, hlk, _⟩ := topB_k htb
            have hKt : ((K.toNat : Nat) : Int) = K := by omega
            have hKb : K.toNat ≤ 16 := by omega
            obtain ⟨oo1, oo2, oo3⟩ := off_ok (l := X) htb (by have := HX40.out; omega)
            have HYL := Lib.hid (first_length K.toNat (H ++ X))
            have HRF := Lib.hid (fun (V : World) (B : Option Addr) (dd : Nat) (hB : Hits V B dd (H ++ X)) => rFirst_any B dd K.toNat (H ++ X) V hB (by have := HX40.out; have := HM.out; rw [List.length_append]; omega) (by omega))
            rw [topE_yes htb] at HCK
            rw [htb] at HRT
            rw [oo1, oo2, oo3] at HOF
            rw [hKt] at HRF
            generalize hYY : firstM K.toNat (H ++ X) = Y at *
            clear oo1 oo2 oo3 hYY hKt
            cases hfl : fullB K H with
            | false =>
              obtain ⟨hx12, hmK0⟩ := full_no hfl
              have hmK := hmK0 htb
              rw [HM.out] at hmK
              rw [hx12, hfl] at HLS
              have tK : ((m : Int) == K) = false := by simpa using hmK
              obtain ⟨x1, hx1⟩ : ∃ x1, x1 = z2.1 := ⟨_, rfl⟩
              obtain ⟨x2, hx2⟩ : ∃ x2, x2 = z2.2 := ⟨_, rfl⟩
              rw [← hx1, ← hx2] at HLS
              have hx10 : x1 = 0 := hx1
              have hx20 : x2 = 0 := hx2
              clear hx1 hx2 htb hfl hmK0 hx12 hmK
              subst hx10 hx20
              go_wp2_with fail
              refine HO.out.mono ?_
              rintro e w2 ⟨v, rfl, C2, d2, rfl, hr2, hb2⟩
              have HB2 := Lib.hid hb2
              have HX2 := Lib.hid (Hits.ofRow hr2)
              have t20 := (HTB.out w2 hb2).1
              have t21 := (HTB.out w2 hb2).2
              clear hr2 hb2 e1
              go_wp2_with fail
              refine (HOH.out w2 HB2.out).mono ?_
              rintro e w3 ⟨v, rfl, C3, d3, rfl, hr3, hb3⟩
              rw [HM.out] at hr3 ⊢
              have HB3 := Lib.hid (HB2.out.trans (hb3.mono HB2.out.size))
              have HX3 := Lib.hid (And.intro (HX2.out.below hb3) (Hits.ofRow (l := H) (w := w3) (by rw [HM.out]; exact hr3)))
              have t30 := (HTB.out w3 HB3.out).1
              have t31 := (HTB.out w3 HB3.out).2
              clear hr3 hb3 t20 t21
              go_wp2_with fail
              refine (HRT.out w3 HB3.out).mono ?_
              rintro e w4 ⟨rfl, hb4⟩
              have HB4 := Lib.hid (HB3.out.trans (hb4.mono HB3.out.size))
              have HX4 := Lib.hid (And.intro (HX3.out.1.below hb4) (HX3.out.2.below hb4))
              have t40 := (HTB.out w4 HB4.out).1
              have t41 := (HTB.out w4 HB4.out).2
              clear hb4 t30 t31
              go_wp2_with fail
              refine (HCK.out w4 HB4.out).mono ?_
              rintro e w5 ⟨rfl, hb5⟩
              have HB5 := Lib.hid (HB4.out.trans (hb5.mono HB4.out.size))
              have HX5 := Lib.hid (And.intro (HX4.out.1.below hb5) (HX4.out.2.below hb5))
              have t50 := (HTB.out w5 HB5.out).1
              have t51 := (HTB.out w5 HB5.out).2
              clear hb5 t40 t41
              go_wp2_with fail
              refine (HLS.out w5 HB5.out).mono ?_
              rintro e w6 ⟨rfl, hb6⟩
              have HB6 := Lib.hid (HB5.out.trans (hb6.mono HB5.out.size))
              have ha6 := (Below.refl w6.heap.size w6).alloc (Nat.le_refl _) (.cells #[.int .u64 0, .int .u64 0] 32)
              have HA6 := Lib.hid (HB6.out.trans (ha6.mono HB6.out.size))
              have HX6 := Lib.hid (And.intro ((HX5.out.1.below hb6).below ha6) ((HX5.out.2.below hb6).below ha6))
              have HL6 := Lib.hid (heap_alloc_new w6 (.cells #[.int .u64 0, .int .u64 0] 32))
              have t60 := (HTB.out _ HA6.out).1
              have t61 := (HTB.out _ HA6.out).2
              have HOF6 := Lib.hid (HOF.out (w6.alloc (.cells #[.int .u64 0, .int .u64 0] 32)) HA6.out C2 d2 HX6.out.1)
              clear hb6 ha6 t50 t51
              go_wp2_with fail
              refine HOF6.out.mono ?_
              rintro e w7 ⟨B7, c7, rfl, hr7, hb7⟩
              have HB7 := Lib.hid (HA6.out.trans (hb7.mono HA6.out.size))
              have hqy := HYL.out
              obtain ⟨q, hq⟩ : ∃ q, Y.length = q := ⟨_, rfl⟩
              have HQ := Lib.hid hq
              rw [hq] at hr7 hqy ⊢
              have hq16 : q ≤ 16 := by omega
              clear hqy hq
              obtain ⟨W8, hW8⟩ : ∃ W8, W8 = w7.alloc (.cells #[.int .i64 K, .slice B7 q c7] 38) := ⟨_, rfl⟩
              have hb8 : Below w7.heap.size w7 W8 := by rw [hW8]; exact (Below.refl _ w7).alloc (Nat.le_refl _) _
              have HB8 := Lib.hid (HB7.out.trans (hb8.mono HB7.out.size))
              have hx7 : w7.heap[w6.heap.size]? = some (.cells #[.int .u64 0, .int .u64 0] 32 (0, 0)) := (hb7.block _ (lt_of_block HL6.out)).trans HL6.out
              have hx8 : W8.heap[w6.heap.size]? = some (.cells #[.int .u64 0, .int .u64 0] 32 (0, 0)) := (hb8.block _ (lt_of_block hx7)).trans hx7
              have hn8 : W8.heap[w7.heap.size]? = some (.cells #[.int .i64 K, .slice B7 q c7] 38 (0, 0)) := by rw [hW8]; exact heap_alloc_new _ _
              have l0 : W8.cell? ⟨w6.heap.size, 0, none⟩ = some (.int .u64 0) := (cell_of_row _ _ _ _ _ _ hx8).trans rfl
              have l1 : W8.cell? ⟨w6.heap.size, 1, none⟩ = some (.int .u64 0) := (cell_of_row _ _ _ _ _ _ hx8).trans rfl
              have t80 := (HTB.out W8 HB8.out).1
              have t81 := (HTB.out W8 HB8.out).2
              have HN8 := Lib.hid hn8
              have HR8 := Lib.hid (show W8.ownsRow (w6.alloc (.cells #[.int .u64 0, .int .u64 0] 32)).heap.size 32 2 (.slice B7 q c7) q (flat Y) from row_turn hr7 (S := fun _ => False) (Turn.of_below hb8) (by simp))
              have hb7A : ∀ i, blk B7 = some i → wr.heap.size ≤ i ∧ i < w7.heap.size ∧ (w6.alloc (.cells #[.int .u64 0, .int .u64 0] 32)).heap.size ≤ i := fun i hi => by
                have h1 := hr7.lt i (by rw [own_blk]; exact hi)
                have h2 := HA6.out.size
                exact ⟨by omega, h1.2, h1.1⟩
              have HC3 := Lib.hid (fun (b o : Nat) (e : C3 = some ⟨b, o, none⟩) (hp : 0 < H.length) => show b < (w6.alloc (.cells #[.int .u64 0, .int .u64 0] 32)).heap.size from by
                obtain ⟨b', o', e', hb', _⟩ := HX6.out.2.rd hp
                rw [e] at e'
                cases e'
                exact hb')
              have HB7A := Lib.hid hb7A
              have HX8 := Lib.hid (And.intro ((HX6.out.1.below hb7).below hb8) ((HX6.out.2.below hb7).below hb8))
              have hz78 : w7.heap.size < W8.heap.size := lt_of_block hn8
              have hWle : wr.heap.size ≤ w7.heap.size := HB7.out.size
              have HW8 := Lib.hid hW8
              clear hr7 hb7 hb8 hx7 hx8 hn8 t60 t61
              generalize (w6.alloc (.cells #[.int .u64 0, .int .u64 0] 32)).heap.size = base7 at *
              rw [hW8] at l0 l1 t80 t81
              clear hW8
              go_wp2
              rw [← HW8.out]
              rw [← HW8.out] at l0 l1 t80 t81
              go_quiet (fail)
              obtain ⟨W9, hW9⟩ : ∃ W9, W9 = W8.drewN nq := ⟨_, rfl⟩
              have HB9 := Lib.hid (show Below wr.heap.size wr W9 by rw [hW9]; exact below_drewN HB8.out nq)
              have HN9 := Lib.hid (show W9.heap[w7.heap.size]? = some (.cells #[.int .i64 K, .slice B7 q c7] 38 (0, 0)) by rw [hW9]; exact HN8.out)
              have HR9 := Lib.hid (show W9.ownsRow base7 32 2 (.slice B7 q c7) q (flat Y) by rw [hW9]; exact HR8.out)
              have HX9 := Lib.hid (show Hits W9 C2 d2 X ∧ Hits W9 C3 d3 H by rw [hW9]; exact ⟨HX8.out.1.drewN nq, HX8.out.2.drewN nq⟩)
              have hz79 : w7.heap.size < W9.heap.size := lt_of_block HN9.out
              rw [← hW9]
              clear hW9 l0 l1 t80 t81 hz78
              have t90 := (HTB.out W9 HB9.out).1
              have t91 := (HTB.out W9 HB9.out).2
              go_wp2
              have HBD := Lib.hid (show Below wr.heap.size wr W9.drew from below_drew HB9.out)
              have S0 := Lib.hid (show W9.drew.cell? ⟨T, 0, none⟩ = some (.int .i64 K) ∧ W9.drew.cell? ⟨T, 1, none⟩ = some (.slice D m d) from HTB.out _ HBD.out)
              have HXD := Lib.hid (show Hits W9.drew C2 d2 X from HX9.out.1.drew)
              have hx40 := HX40.out
              obtain ⟨xl2, hxl2⟩ : ∃ xl2, X.length = xl2 := ⟨_, rfl⟩
              have HXL2 := Lib.hid hxl2
              rw [hxl2] at hx40
              go_region_held3 (fun W => W.cell? ⟨T, 0, none⟩ = some (.int .i64 K) ∧ W.cell? ⟨T, 1, none⟩ = some (.slice D m d)) (first | exact S0.out | exact S10.out | exact S11.out | exact S12.out) (first
                | (go_at_call 12; refine (HOH.out _ HBD.out).mono ?_; rintro e w10 ⟨v, rfl, C10, d10, rfl, hr10, hb10⟩; rw [HM.out] at hr10; rw [HM.out]; have HB10 := Lib.hid (HBD.out.trans (hb10.mono HBD.out.size)); have S10 := Lib.hid (HTB.out w10 HB10.out); have HR10 := Lib.hid hr10; have HX10 := Lib.hid (HXD.out.below hb10); have HD10 := Lib.hid hb10; have hlo10 : W9.drew.heap.size ≤ w10.heap.size := hb10.size; clear hr10 hb10)
                | (refine step_happ (by rfl) _ _ 22 Try.underlying22 (by rfl) W9.drew.heap.size C10 d10 m (flat H) (by rfl) HR10.out C2 d2 xl2 X (by rw [← HXL2.out]; rfl) HXL2.out HX10.out (by omega) hlo10 ?_; intro A11 c11 w11 hown hgrow hloc hnil; have hb11 : Below W9.drew.heap.size w10 w11 := ⟨hgrow.os, hgrow.tape, hgrow.output, hgrow.size, fun i hi => hgrow.block i (Nat.lt_of_lt_of_le hi HD10.out.size) (fun e => by have := (HR10.out.lt i (by rw [own_blk]; exact e.symm)).1; omega)⟩; have HB11 := Lib.hid (HB10.out.trans (hb11.mono HBD.out.size)); have HD11 := Lib.hid (HD10.out.trans hb11); have S11 := Lib.hid (HTB.out w11 HB11.out); have HH11 := Lib.hid (Hits.ofRow (l := H ++ X) (w := w11) (by rw [List.length_append, HM.out, HXL2.out, flat_append]; exact hown)); clear hown hgrow hloc hnil hb11)
                | (go_at_call 15; have HRF11 := Lib.hid (HRF.out w11 A11 c11 HH11.out); rw [List.length_append, HM.out, HXL2.out] at HRF11; refine HRF11.out.mono ?_; rintro e w12 ⟨v, rfl, C12, d12, rfl, hr12, hb12⟩; rw [HQ.out] at hr12; rw [HQ.out]; have HB12 := Lib.hid (HB11.out.trans (hb12.mono HB11.out.size)); have HD12 := Lib.hid (HD11.out.trans (hb12.mono HD11.out.size)); have S12 := Lib.hid (HTB.out w12 HB12.out); have HR12 := Lib.hid hr12; have hlo12 : W9.drew.heap.size ≤ w11.heap.size := HD11.out.size; clear hr12 hb12))
              all_goals (
                have hx12 : w12.heap[w7.heap.size]? = some (.cells #[.int .i64 K, .slice B7 q c7] 38 (0, 0)) := (HD12.out.block _ hz79).trans HN9.out
                have n0 : w12.cell? ⟨w7.heap.size, 0, none⟩ = some (.int .i64 K) := (cell_of_row _ _ _ _ _ _ hx12).trans rfl
                have n1 : w12.cell? ⟨w7.heap.size, 1, none⟩ = some (.slice B7 q c7) := (cell_of_row _ _ _ _ _ _ hx12).trans rfl
                have t120 := S12.out.1
                have t121 := S12.out.2
                have HN12 := Lib.hid hx12
                have HR12B := Lib.hid (row_turn HR9.out (S := fun _ => False) (Turn.of_below ((below_drew (Below.refl W9.heap.size W9)).trans HD12.out)) (by simp))
                have HX12 := Lib.hid (HX9.out.2.below ((below_drew (Below.refl W9.heap.size W9)).trans HD12.out))
                have HS1 := Lib.hid (rSame_yes B7 C12 c7 d12 Y w12 (Hits.ofRow (l := Y) (w := w12) (by rw [HQ.out]; exact HR12B.out)) (Hits.ofRow (l := Y) (w := w12) (by rw [HQ.out]; exact HR12.out)))
                have HS2 := Lib.hid (fun (V : World) (hD : Hits V D d H) (hC : Hits V C3 d3 H) => rSame_yes D C3 d d3 H V hD hC)
                rw [HQ.out] at HS1
                rw [HM.out] at HS2
                clear hx12
                go_wp2_with fail
                refine HS1.out.mono ?_
                rintro e w13 ⟨rfl, hb13⟩
                have HB13 := Lib.hid (HB12.out.trans (hb13.mono HB12.out.size))
                have HX13 := Lib.hid (HX12.out.below hb13)
                have t130 := (HTB.out w13 HB13.out).1
                have t131 := (HTB.out w13 HB13.out).2
                have HD13 := Lib.hid hb13
                clear hb13 n0 n1 t120 t121
                go_wp2_with fail
                refine (HS2.out w13 (HHV.out w13 HB13.out) HX13.out).mono ?_
                rintro e w14 ⟨rfl, hb14⟩
                have HB14 := Lib.hid (HB13.out.trans (hb14.mono HB13.out.size))
                have HD14 := Lib.hid (HD13.out.trans (hb14.mono HD13.out.size))
                have HX14 := Lib.hid (HX13.out.below hb14)
                have HN14 := Lib.hid ((HD14.out.block _ (lt_of_block HN12.out)).trans HN12.out)
                have n140 : w14.cell? ⟨w7.heap.size, 0, none⟩ = some (.int .i64 K) := (cell_of_row _ _ _ _ _ _ HN14.out).trans rfl
                have n141 : w14.cell? ⟨w7.heap.size, 1, none⟩ = some (.slice B7 q c7) := (cell_of_row _ _ _ _ _ _ HN14.out).trans rfl
                have HR14 := Lib.hid (show ∃ xs, w14.ownsRow base7 32 2 (.slice B7 q c7) q xs from ⟨_, row_turn HR12B.out (S := fun _ => False) (Turn.of_below HD14.out) (by simp)⟩)
                have HW14 := Lib.hid (show Hits w14 C12 d12 Y from (Hits.ofRow (l := Y) (w := w12) (by rw [HQ.out]; exact HR12.out)).below HD14.out)
                clear hb14 t130 t131
                go_wp2
                go_loopw [16, 161] (fun _ i ws => ∃ z : Nat, z ≤ q ∧ i = .int .i64 z ∧ Hid ((∃ xs, ws.ownsRow base7 32 2 (.slice B7 q c7) q xs) ∧ Turn (fun i => blk B7 = some i) w14 ws)) (fun _ i _ => q - (intOf i).toNat)
                case atStart => exact ⟨0, Nat.zero_le _, rfl, Lib.hid ⟨HR14.out, Turn.refl _ _⟩⟩
                case round =>
                  obtain ⟨z, hz, rfl, HZ⟩ := hrel
                  have hz7 : ¬ blk B7 = some w7.heap.size := fun e => by have := (HB7A.out _ e).2.1; omega
                  have hnz := (HZ.out.2.block _ (lt_of_block HN14.out) hz7).trans HN14.out
                  have nz1 : wr.cell? ⟨w7.heap.size, 1, none⟩ = some (.slice B7 q c7) := (cell_of_row _ _ _ _ _ _ hnz).trans rfl
                  by_cases hzq : z < q
                  · obtain ⟨⟨xs, hr⟩, htu⟩ := HZ.out
                    obtain ⟨g7, hB7, hg71, hg72⟩ := row_form hr (by omega)
                    have hxs := hr.1
                    rw [hB7] at hr
                    have u1 := hr.cellAt (z * 2) (by omega)
                    rw [List.getElem?_eq_getElem (by omega)] at u1
                    have f1 := hr.frozenAt (z * 2)
                    obtain ⟨s1, s2⟩ := hr.stored (z * 2) (.int .u64 77)
                    have HS := Lib.hid (show (∃ xs, (wr.setCell ⟨g7, z * 2, none⟩ (.int .u64 77)).ownsRow base7 32 2 (.slice B7 q c7) q xs) ∧ Turn (fun i => blk B7 = some i) w14 (wr.setCell ⟨g7, z * 2, none⟩ (.int .u64 77)) from
                      ⟨⟨_, by rw [hB7]; exact s1⟩, turn_set htu (.inl (by rw [hB7]; rfl)) _⟩)
                    generalize xs[z * 2] = u at *
                    rw [hB7] at nz1
                    have HB7E := Lib.hid hB7
                    have z0 : (0 : Int) ≤ z := by omega
                    have zq : (z : Int) < q := by omega
                    clear hr htu s1 s2 hg71 hg72 hxs hB7 hnz
                    go_wp2
                    go_roundw
                    case rel => exact ⟨z + 1, by omega, by go_num, HS⟩
                    case measure => simp [intOf]; omega
                  · obtain rfl : z = q := by omega
                    have HTU := Lib.hid HZ.out.2
                    have hlow7 : ∀ i, blk B7 = some i → base7 ≤ i := fun i e => (HB7A.out i e).2.2
                    have hTlt7 := lt_of_block HR.out.box
                    have hT7 : ¬ blk B7 = some T := fun e => by have := (HB7A.out _ e).1; omega
                    have hbt : wr.heap[T]? = some (.cells #[.int .i64 K, .slice D m d] 38 (0, 0)) := by
                      have h1 := (HTU.out.block T (Nat.lt_of_lt_of_le hTlt7 HB14.out.size) hT7).trans ((HB14.out.block T hTlt7).trans HR.out.box)
                      rw [HM.out] at h1
                      exact h1
                    have HDz := Lib.hid (show Hits wr D d H from (HHV.out w14 HB14.out).keepB HTU.out.size (fun b1 o1 e hp => HTU.out.block b1 (by
                      obtain ⟨b', o', e', hb', _⟩ := HR.out.hits.rd hp
                      rw [e] at e'
                      cases e'
                      exact Nat.lt_of_lt_of_le hb' HB14.out.size) (fun e2 => by
                      obtain ⟨b', o', e', hb', _⟩ := HR.out.hits.rd hp
                      rw [e] at e'
                      cases e'
                      have := (HB7A.out _ e2).1
                      omega)))
                    have HCz := Lib.hid (show Hits wr C3 d3 H from HX14.out.keepB HTU.out.size (fun b1 o1 e hp => HTU.out.block b1 (by
                      obtain ⟨b', o', e', hb', _⟩ := HX14.out.rd hp
                      rw [e] at e'
                      cases e'
                      exact hb') (fun e2 => by
                      have := hlow7 _ e2
                      have := HC3.out b1 o1 e hp
                      omega)))
                    have HYz := Lib.hid (show Hits wr C12 d12 Y from HW14.out.keepB HTU.out.size (fun b1 o1 e hp => HTU.out.block b1 (by
                      obtain ⟨b', o', e', hb', _⟩ := HW14.out.rd hp
                      rw [e] at e'
                      cases e'
                      exact hb') (fun e2 => by
                      have h1 := (HR12.out.lt b1 (by rw [own_blk, e]; rfl)).1
                      have h2 := (HB7A.out _ e2).2.1
                      have h3 : W9.heap.size ≤ w11.heap.size := hlo12
                      omega)))
                    have HBz := Lib.hid (show Below w.heap.size w wr from HR.out.bel.trans ((HB14.out.mono HR.out.bel.size).trans (HTU.out.below (Nat.le_trans HR.out.bel.size HB14.out.size) (fun i e => by have := (HB7A.out i e).1; have := HR.out.bel.size; omega))))
                    have tz0 : wr.cell? ⟨T, 0, none⟩ = some (.int .i64 K) := (cell_of_row _ _ _ _ _ _ hbt).trans rfl
                    have tz1 : wr.cell? ⟨T, 1, none⟩ = some (.slice D m d) := (cell_of_row _ _ _ _ _ _ hbt).trans rfl
                    have HBT := Lib.hid hbt
                    clear hbt hnz nz1
                    go_wp2_with fail
                    refine (HS2.out wr HDz.out HCz.out).mono ?_
                    rintro e w15 ⟨rfl, hb15⟩
                    have hb15t : w15.heap[T]? = some (.cells #[.int .i64 K, .slice D m d] 38 (0, 0)) := (hb15.block _ (lt_of_block HBT.out)).trans HBT.out
                    have q150 : w15.cell? ⟨T, 1, none⟩ = some (.slice D m d) := (cell_of_row _ _ _ _ _ _ hb15t).trans rfl
                    have f150 : w15.frozen? ⟨T, 1, none⟩ = false := frozen_of_row _ _ _ _ _ hb15t
                    have hfin := off_next (w := w) (d := d12) hb15t (HYz.out.below hb15) (by rw [HQ.out]; omega) (fun e => by
                      have h1 := (HR12.out.lt T (by rw [own_blk]; exact e)).1
                      have h3 : W9.heap.size ≤ w11.heap.size := hlo12
                      omega) (HBz.out.trans (hb15.mono HBz.out.size)) HR.out.low
                    rw [HQ.out] at hfin
                    have HFIN := Lib.hid hfin
                    clear hb15 hb15t hfin tz0 tz1
                    go_wp2
                    go_roundw
                    case rel => exact ⟨j + 1, Y, C12, d12, by omega, by omega, by go_num, HFIN⟩
                    case measure => simp [intOf]; omega)
            | true =>
              obtain ⟨_, hmK, hx12⟩ := full_yes hfl
              rw [HM.out] at hmK hx12
              rw [hx12, hfl] at HLS
              have tK : ((m : Int) == K) = true := by simpa using hmK
              obtain ⟨r, hr⟩ : ∃ r, r = m - 1 := ⟨_, rfl⟩
              rw [← hr] at HLS hx12
              have hrm : r < m := by omega
              have hix : K - 1 = (r : Int) := by omega
              have HAT := Lib.hid (fun (V : World) (hV : Below wr.heap.size wr V) => (HHV.out V hV).at_ (j := r) (by rw [HM.out]; exact hrm))
              generalize H.getD r z2 = x at *
              obtain ⟨x1, x2⟩ := x
              dsimp only at HLS
              have r0 : (0 : Int) ≤ r := by omega
              have rm : (r : Int) < m := by omega
              have hwr : IntKind.i64.wrap (r : Int) = r := i64_fit (by omega)
              clear htb hfl hx12 hmK hr
              go_wp2_with fail
              refine HO.out.mono ?_
              rintro e w2 ⟨v, rfl, C2, d2, rfl, hr2, hb2⟩
              have HB2 := Lib.hid hb2
              have HX2 := Lib.hid (Hits.ofRow hr2)
              have t20 := (HTB.out w2 hb2).1
              have t21 := (HTB.out w2 hb2).2
              clear hr2 hb2 e1
              go_wp2_with fail
              refine (HOH.out w2 HB2.out).mono ?_
              rintro e w3 ⟨v, rfl, C3, d3, rfl, hr3, hb3⟩
              rw [HM.out] at hr3 ⊢
              have HB3 := Lib.hid (HB2.out.trans (hb3.mono HB2.out.size))
              have HX3 := Lib.hid (And.intro (HX2.out.below hb3) (Hits.ofRow (l := H) (w := w3) (by rw [HM.out]; exact hr3)))
              have t30 := (HTB.out w3 HB3.out).1
              have t31 := (HTB.out w3 HB3.out).2
              clear hr3 hb3 t20 t21
              go_wp2_with fail
              refine (HRT.out w3 HB3.out).mono ?_
              rintro e w4 ⟨rfl, hb4⟩
              have HB4 := Lib.hid (HB3.out.trans (hb4.mono HB3.out.size))
              have HX4 := Lib.hid (And.intro (HX3.out.1.below hb4) (HX3.out.2.below hb4))
              have t40 := (HTB.out w4 HB4.out).1
              have t41 := (HTB.out w4 HB4.out).2
              clear hb4 t30 t31
              go_wp2_with fail
              refine (HCK.out w4 HB4.out).mono ?_
              rintro e w5 ⟨rfl, hb5⟩
              have HB5 := Lib.hid (HB4.out.trans (hb5.mono HB4.out.size))
              have HX5 := Lib.hid (And.intro (HX4.out.1.below hb5) (HX4.out.2.below hb5))
              have t50 := (HTB.out w5 HB5.out).1
              have t51 := (HTB.out w5 HB5.out).2
              clear hb5 t40 t41
              go_wp2_with fail
              refine (HLS.out w5 HB5.out).mono ?_
              rintro e w6 ⟨rfl, hb6⟩
              have HB6 := Lib.hid (HB5.out.trans (hb6.mono HB5.out.size))
              have ha6 := (Below.refl w6.heap.size w6).alloc (Nat.le_refl _) (.cells #[.int .u64 x1, .int .u64 x2] 32)
              have HA6 := Lib.hid (HB6.out.trans (ha6.mono HB6.out.size))
              have HX6 := Lib.hid (And.intro ((HX5.out.1.below hb6).below ha6) ((HX5.out.2.below hb6).below ha6))
              have HL6 := Lib.hid (heap_alloc_new w6 (.cells #[.int .u64 x1, .int .u64 x2] 32))
              have t60 := (HTB.out _ HA6.out).1
              have t61 := (HTB.out _ HA6.out).2
              have HOF6 := Lib.hid (HOF.out (w6.alloc (.cells #[.int .u64 x1, .int .u64 x2] 32)) HA6.out C2 d2 HX6.out.1)
              clear hb6 ha6 t50 t51
              go_wp2_with fail
              refine HOF6.out.mono ?_
              rintro e w7 ⟨B7, c7, rfl, hr7, hb7⟩
              have HB7 := Lib.hid (HA6.out.trans (hb7.mono HA6.out.size))
              have hqy := HYL.out
              obtain ⟨q, hq⟩ : ∃ q, Y.length = q := ⟨_, rfl⟩
              have HQ := Lib.hid hq
              rw [hq] at hr7 hqy ⊢
              have hq16 : q ≤ 16 := by omega
              clear hqy hq
              obtain ⟨W8, hW8⟩ : ∃ W8, W8 = w7.alloc (.cells #[.int .i64 K, .slice B7 q c7] 38) := ⟨_, rfl⟩
              have hb8 : Below w7.heap.size w7 W8 := by rw [hW8]; exact (Below.refl _ w7).alloc (Nat.le_refl _) _
              have HB8 := Lib.hid (HB7.out.trans (hb8.mono HB7.out.size))
              have hx7 : w7.heap[w6.heap.size]? = some (.cells #[.int .u64 x1, .int .u64 x2] 32 (0, 0)) := (hb7.block _ (lt_of_block HL6.out)).trans HL6.out
              have hx8 : W8.heap[w6.heap.size]? = some (.cells #[.int .u64 x1, .int .u64 x2] 32 (0, 0)) := (hb8.block _ (lt_of_block hx7)).trans hx7
              have hn8 : W8.heap[w7.heap.size]? = some (.cells #[.int .i64 K, .slice B7 q c7] 38 (0, 0)) := by rw [hW8]; exact heap_alloc_new _ _
              have l0 : W8.cell? ⟨w6.heap.size, 0, none⟩ = some (.int .u64 x1) := (cell_of_row _ _ _ _ _ _ hx8).trans rfl
              have l1 : W8.cell? ⟨w6.heap.size, 1, none⟩ = some (.int .u64 x2) := (cell_of_row _ _ _ _ _ _ hx8).trans rfl
              have t80 := (HTB.out W8 HB8.out).1
              have t81 := (HTB.out W8 HB8.out).2
              have HN8 := Lib.hid hn8
              have HR8 := Lib.hid (show W8.ownsRow (w6.alloc (.cells #[.int .u64 x1, .int .u64 x2] 32)).heap.size 32 2 (.slice B7 q c7) q (flat Y) from row_turn hr7 (S := fun _ => False) (Turn.of_below hb8) (by simp))
              have hb7A : ∀ i, blk B7 = some i → wr.heap.size ≤ i ∧ i < w7.heap.size ∧ (w6.alloc (.cells #[.int .u64 x1, .int .u64 x2] 32)).heap.size ≤ i := fun i hi => by
                have h1 := hr7.lt i (by rw [own_blk]; exact hi)
                have h2 := HA6.out.size
                exact ⟨by omega, h1.2, h1.1⟩
              have HC3 := Lib.hid (fun (b o : Nat) (e : C3 = some ⟨b, o, none⟩) (hp : 0 < H.length) => show b < (w6.alloc (.cells #[.int .u64 x1, .int .u64 x2] 32)).heap.size from by
                obtain ⟨b', o', e', hb', _⟩ := HX6.out.2.rd hp
                rw [e] at e'
                cases e'
                exact hb')
              have HB7A := Lib.hid hb7A
              have HX8 := Lib.hid (And.intro ((HX6.out.1.below hb7).below hb8) ((HX6.out.2.below hb7).below hb8))
              have hz78 : w7.heap.size < W8.heap.size := lt_of_block hn8
              have hWle : wr.heap.size ≤ w7.heap.size := HB7.out.size
              have HW8 := Lib.hid hW8
              clear hr7 hb7 hb8 hx7 hx8 hn8 t60 t61
              generalize (w6.alloc (.cells #[.int .u64 x1, .int .u64 x2] 32)).heap.size = base7 at *
              obtain ⟨bd, od, rfl, _, v0, v1⟩ := HAT.out W8 HB8.out
              rw [hW8] at l0 l1 t80 t81 v0 v1
              clear hW8
              go_wp2
              rw [← HW8.out]
              rw [← HW8.out] at l0 l1 t80 t81 v0 v1
              go_quiet (fail)
              obtain ⟨W9, hW9⟩ : ∃ W9, W9 = W8.drewN nq := ⟨_, rfl⟩
              have HB9 := Lib.hid (show Below wr.heap.size wr W9 by rw [hW9]; exact below_drewN HB8.out nq)
              have HN9 := Lib.hid (show W9.heap[w7.heap.size]? = some (.cells #[.int .i64 K, .slice B7 q c7] 38 (0, 0)) by rw [hW9]; exact HN8.out)
              have HR9 := Lib.hid (show W9.ownsRow base7 32 2 (.slice B7 q c7) q (flat Y) by rw [hW9]; exact HR8.out)
              have HX9 := Lib.hid (show Hits W9 C2 d2 X ∧ Hits W9 C3 d3 H by rw [hW9]; exact ⟨HX8.out.1.drewN nq, HX8.out.2.drewN nq⟩)
              have hz79 : w7.heap.size < W9.heap.size := lt_of_block HN9.out
              rw [← hW9]
              clear hW9 l0 l1 t80 t81 v0 v1 hz78
              have t90 := (HTB.out W9 HB9.out).1
              have t91 := (HTB.out W9 HB9.out).2
              go_wp2
              have HBD := Lib.hid (show Below wr.heap.size wr W9.drew from below_drew HB9.out)
              have S0 := Lib.hid (show W9.drew.cell? ⟨T, 0, none⟩ = some (.int .i64 K) ∧ W9.drew.cell? ⟨T, 1, none⟩ = some (.slice (some ⟨bd, od, none⟩) m d) from HTB.out _ HBD.out)
              have HXD := Lib.hid (show Hits W9.drew C2 d2 X from HX9.out.1.drew)
              have hx40 := HX40.out
              obtain ⟨xl2, hxl2⟩ : ∃ xl2, X.length = xl2 := ⟨_, rfl⟩
              have HXL2 := Lib.hid hxl2
              rw [hxl2] at hx40
              go_region_held3 (fun W => W.cell? ⟨T, 0, none⟩ = some (.int .i64 K) ∧ W.cell? ⟨T, 1, none⟩ = some (.slice (some ⟨bd, od, none⟩) m d)) (first | exact S0.out | exact S10.out | exact S11.out | exact S12.out) (first
                | (go_at_call 12; refine (HOH.out _ HBD.out).mono ?_; rintro e w10 ⟨v, rfl, C10, d10, rfl, hr10, hb10⟩; rw [HM.out] at hr10; rw [HM.out]; have HB10 := Lib.hid (HBD.out.trans (hb10.mono HBD.out.size)); have S10 := Lib.hid (HTB.out w10 HB10.out); have HR10 := Lib.hid hr10; have HX10 := Lib.hid (HXD.out.below hb10); have HD10 := Lib.hid hb10; have hlo10 : W9.drew.heap.size ≤ w10.heap.size := hb10.size; clear hr10 hb10)
                | (refine step_happ (by rfl) _ _ 22 Try.underlying22 (by rfl) W9.drew.heap.size C10 d10 m (flat H) (by rfl) HR10.out C2 d2 xl2 X (by rw [← HXL2.out]; rfl) HXL2.out HX10.out (by omega) hlo10 ?_; intro A11 c11 w11 hown hgrow hloc hnil; have hb11 : Below W9.drew.heap.size w10 w11 := ⟨hgrow.os, hgrow.tape, hgrow.output, hgrow.size, fun i hi => hgrow.block i (Nat.lt_of_lt_of_le hi HD10.out.size) (fun e => by have := (HR10.out.lt i (by rw [own_blk]; exact e.symm)).1; omega)⟩; have HB11 := Lib.hid (HB10.out.trans (hb11.mono HBD.out.size)); have HD11 := Lib.hid (HD10.out.trans hb11); have S11 := Lib.hid (HTB.out w11 HB11.out); have HH11 := Lib.hid (Hits.ofRow (l := H ++ X) (w := w11) (by rw [List.length_append, HM.out, HXL2.out, flat_append]; exact hown)); clear hown hgrow hloc hnil hb11)
                | (go_at_call 15; have HRF11 := Lib.hid (HRF.out w11 A11 c11 HH11.out); rw [List.length_append, HM.out, HXL2.out] at HRF11; refine HRF11.out.mono ?_; rintro e w12 ⟨v, rfl, C12, d12, rfl, hr12, hb12⟩; rw [HQ.out] at hr12; rw [HQ.out]; have HB12 := Lib.hid (HB11.out.trans (hb12.mono HB11.out.size)); have HD12 := Lib.hid (HD11.out.trans (hb12.mono HD11.out.size)); have S12 := Lib.hid (HTB.out w12 HB12.out); have HR12 := Lib.hid hr12; have hlo12 : W9.drew.heap.size ≤ w11.heap.size := HD11.out.size; clear hr12 hb12))
              all_goals (
                have hx12 : w12.heap[w7.heap.size]? = some (.cells #[.int .i64 K, .slice B7 q c7] 38 (0, 0)) := (HD12.out.block _ hz79).trans HN9.out
                have n0 : w12.cell? ⟨w7.heap.size, 0, none⟩ = some (.int .i64 K) := (cell_of_row _ _ _ _ _ _ hx12).trans rfl
                have n1 : w12.cell? ⟨w7.heap.size, 1, none⟩ = some (.slice B7 q c7) := (cell_of_row _ _ _ _ _ _ hx12).trans rfl
                have t120 := S12.out.1
                have t121 := S12.out.2
                have HN12 := Lib.hid hx12
                have HR12B := Lib.hid (row_turn HR9.out (S := fun _ => False) (Turn.of_below ((below_drew (Below.refl W9.heap.size W9)).trans HD12.out)) (by simp))
                have HX12 := Lib.hid (HX9.out.2.below ((below_drew (Below.refl W9.heap.size W9)).trans HD12.out))
                have HS1 := Lib.hid (rSame_yes B7 C12 c7 d12 Y w12 (Hits.ofRow (l := Y) (w := w12) (by rw [HQ.out]; exact HR12B.out)) (Hits.ofRow (l := Y) (w := w12) (by rw [HQ.out]; exact HR12.out)))
                have HS2 := Lib.hid (fun (V : World) (hD : Hits V (some ⟨bd, od, none⟩) d H) (hC : Hits V C3 d3 H) => rSame_yes (some ⟨bd, od, none⟩) C3 d d3 H V hD hC)
                rw [HQ.out] at HS1
                rw [HM.out] at HS2
                clear hx12
                go_wp2_with fail
                refine HS1.out.mono ?_
                rintro e w13 ⟨rfl, hb13⟩
                have HB13 := Lib.hid (HB12.out.trans (hb13.mono HB12.out.size))
                have HX13 := Lib.hid (HX12.out.below hb13)
                have t130 := (HTB.out w13 HB13.out).1
                have t131 := (HTB.out w13 HB13.out).2
                have HD13 := Lib.hid hb13
                clear hb13 n0 n1 t120 t121
                go_wp2_with fail
                refine (HS2.out w13 (HHV.out w13 HB13.out) HX13.out).mono ?_
                rintro e w14 ⟨rfl, hb14⟩
                have HB14 := Lib.hid (HB13.out.trans (hb14.mono HB13.out.size))
                have HD14 := Lib.hid (HD13.out.trans (hb14.mono HD13.out.size))
                have HX14 := Lib.hid (HX13.out.below hb14)
                have HN14 := Lib.hid ((HD14.out.block _ (lt_of_block HN12.out)).trans HN12.out)
                have n140 : w14.cell? ⟨w7.heap.size, 0, none⟩ = some (.int .i64 K) := (cell_of_row _ _ _ _ _ _ HN14.out).trans rfl
                have n141 : w14.cell? ⟨w7.heap.size, 1, none⟩ = some (.slice B7 q c7) := (cell_of_row _ _ _ _ _ _ HN14.out).trans rfl
                have HR14 := Lib.hid (show ∃ xs, w14.ownsRow base7 32 2 (.slice B7 q c7) q xs from ⟨_, row_turn HR12B.out (S := fun _ => False) (Turn.of_below HD14.out) (by simp)⟩)
                have HW14 := Lib.hid (show Hits w14 C12 d12 Y from (Hits.ofRow (l := Y) (w := w12) (by rw [HQ.out]; exact HR12.out)).below HD14.out)
                clear hb14 t130 t131
                go_wp2
                go_loopw [16, 161] (fun _ i ws => ∃ z : Nat, z ≤ q ∧ i = .int .i64 z ∧ Hid ((∃ xs, ws.ownsRow base7 32 2 (.slice B7 q c7) q xs) ∧ Turn (fun i => blk B7 = some i) w14 ws)) (fun _ i _ => q - (intOf i).toNat)
                case atStart => exact ⟨0, Nat.zero_le _, rfl, Lib.hid ⟨HR14.out, Turn.refl _ _⟩⟩
                case round =>
                  obtain ⟨z, hz, rfl, HZ⟩ := hrel
                  have hz7 : ¬ blk B7 = some w7.heap.size := fun e => by have := (HB7A.out _ e).2.1; omega
                  have hnz := (HZ.out.2.block _ (lt_of_block HN14.out) hz7).trans HN14.out
                  have nz1 : wr.cell? ⟨w7.heap.size, 1, none⟩ = some (.slice B7 q c7) := (cell_of_row _ _ _ _ _ _ hnz).trans rfl
                  by_cases hzq : z < q
                  · obtain ⟨⟨xs, hr⟩, htu⟩ := HZ.out
                    obtain ⟨g7, hB7, hg71, hg72⟩ := row_form hr (by omega)
                    have hxs := hr.1
                    rw [hB7] at hr
                    have u1 := hr.cellAt (z * 2) (by omega)
                    rw [List.getElem?_eq_getElem (by omega)] at u1
                    have f1 := hr.frozenAt (z * 2)
                    obtain ⟨s1, s2⟩ := hr.stored (z * 2) (.int .u64 77)
                    have HS := Lib.hid (show (∃ xs, (wr.setCell ⟨g7, z * 2, none⟩ (.int .u64 77)).ownsRow base7 32 2 (.slice B7 q c7) q xs) ∧ Turn (fun i => blk B7 = some i) w14 (wr.setCell ⟨g7, z * 2, none⟩ (.int .u64 77)) from
                      ⟨⟨_, by rw [hB7]; exact s1⟩, turn_set htu (.inl (by rw [hB7]; rfl)) _⟩)
                    generalize xs[z * 2] = u at *
                    rw [hB7] at nz1
                    have HB7E := Lib.hid hB7
                    have z0 : (0 : Int) ≤ z := by omega
                    have zq : (z : Int) < q := by omega
                    clear hr htu s1 s2 hg71 hg72 hxs hB7 hnz
                    go_wp2
                    go_roundw
                    case rel => exact ⟨z + 1, by omega, by go_num, HS⟩
                    case measure => simp [intOf]; omega
                  · obtain rfl : z = q := by omega
                    have HTU := Lib.hid HZ.out.2
                    have hlow7 : ∀ i, blk B7 = some i → base7 ≤ i := fun i e => (HB7A.out i e).2.2
                    have hTlt7 := lt_of_block HR.out.box
                    have hT7 : ¬ blk B7 = some T := fun e => by have := (HB7A.out _ e).1; omega
                    have hbt : wr.heap[T]? = some (.cells #[.int .i64 K, .slice (some ⟨bd, od, none⟩) m d] 38 (0, 0)) := by
                      have h1 := (HTU.out.block T (Nat.lt_of_lt_of_le hTlt7 HB14.out.size) hT7).trans ((HB14.out.block T hTlt7).trans HR.out.box)
                      rw [HM.out] at h1
                      exact h1
                    have HDz := Lib.hid (show Hits wr (some ⟨bd, od, none⟩) d H from (HHV.out w14 HB14.out).keepB HTU.out.size (fun b1 o1 e hp => HTU.out.block b1 (by
                      obtain ⟨b', o', e', hb', _⟩ := HR.out.hits.rd hp
                      rw [e] at e'
                      cases e'
                      exact Nat.lt_of_lt_of_le hb' HB14.out.size) (fun e2 => by
                      obtain ⟨b', o', e', hb', _⟩ := HR.out.hits.rd hp
                      rw [e] at e'
                      cases e'
                      have := (HB7A.out _ e2).1
                      omega)))
                    have HCz := Lib.hid (show Hits wr C3 d3 H from HX14.out.keepB HTU.out.size (fun b1 o1 e hp => HTU.out.block b1 (by
                      obtain ⟨b', o', e', hb', _⟩ := HX14.out.rd hp
                      rw [e] at e'
                      cases e'
                      exact hb') (fun e2 => by
                      have := hlow7 _ e2
                      have := HC3.out b1 o1 e hp
                      omega)))
                    have HYz := Lib.hid (show Hits wr C12 d12 Y from HW14.out.keepB HTU.out.size (fun b1 o1 e hp => HTU.out.block b1 (by
                      obtain ⟨b', o', e', hb', _⟩ := HW14.out.rd hp
                      rw [e] at e'
                      cases e'
                      exact hb') (fun e2 => by
                      have h1 := (HR12.out.lt b1 (by rw [own_blk, e]; rfl)).1
                      have h2 := (HB7A.out _ e2).2.1
                      have h3 : W9.heap.size ≤ w11.heap.size := hlo12
                      omega)))
                    have HBz := Lib.hid (show Below w.heap.size w wr from HR.out.bel.trans ((HB14.out.mono HR.out.bel.size).trans (HTU.out.below (Nat.le_trans HR.out.bel.size HB14.out.size) (fun i e => by have := (HB7A.out i e).1; have := HR.out.bel.size; omega))))
                    have tz0 : wr.cell? ⟨T, 0, none⟩ = some (.int .i64 K) := (cell_of_row _ _ _ _ _ _ hbt).trans rfl
                    have tz1 : wr.cell? ⟨T, 1, none⟩ = some (.slice (some ⟨bd, od, none⟩) m d) := (cell_of_row _ _ _ _ _ _ hbt).trans rfl
                    have HBT := Lib.hid hbt
                    clear hbt hnz nz1
                    go_wp2_with fail
                    refine (HS2.out wr HDz.out HCz.out).mono ?_
                    rintro e w15 ⟨rfl, hb15⟩
                    have hb15t : w15.heap[T]? = some (.cells #[.int .i64 K, .slice (some ⟨bd, od, none⟩) m d] 38 (0, 0)) := (hb15.block _ (lt_of_block HBT.out)).trans HBT.out
                    have q150 : w15.cell? ⟨T, 1, none⟩ = some (.slice (some ⟨bd, od, none⟩) m d) := (cell_of_row _ _ _ _ _ _ hb15t).trans rfl
                    have f150 : w15.frozen? ⟨T, 1, none⟩ = false := frozen_of_row _ _ _ _ _ hb15t
                    have hfin := off_next (w := w) (d := d12) hb15t (HYz.out.below hb15) (by rw [HQ.out]; omega) (fun e => by
                      have h1 := (HR12.out.lt T (by rw [own_blk]; exact e)).1
                      have h3 : W9.heap.size ≤ w11.heap.size := hlo12
                      omega) (HBz.out.trans (hb15.mono HBz.out.size)) HR.out.low
                    rw [HQ.out] at hfin
                    have HFIN := Lib.hid hfin
                    clear hb15 hb15t hfin tz0 tz1
                    go_wp2
                    go_roundw
                    case rel => exact ⟨j + 1, Y, C12, d12, by omega, by omega, by go_num, HFIN⟩
                    case measure => simp [intOf]; omega)
      · obtain rfl : j = n := by omega
        go_wp2
        go_ret
        exact ⟨rfl, HR.out.bel⟩

set_option maxRecDepth 100000 in
theorem lifted (os : Os) (started : os.Started) (H : Type) (enc : TypeId × Value → H) :
    ReturnsInHanded {} Try.checked os 5 .any (Rows.topkOffersSpec.pre6 enc Try.prog Try.f5 Rows.topkOffersRow.domain false) (Rows.topkOffersSpec.post enc Try.prog Try.f5 false true false false) := by
  refine returnsInHanded_of_change (C := Try.checked) Try.own started (by kernel_rfl) Try.func5
    (ChangeSpec.witness6 (enc := enc) (C := Try.checked) false ⟨#[], #[.agg #[.int .i64 0, .slice none 0 0], .slice none 0 0], []⟩ 8 (by kernel_rfl) (by kernel_rfl) (by kernel_rfl) (by kernel_rfl)) ?_
  intro W base args ds gs before hval0 hW hcnd _
  have hval : ∀ (j : Nat) t v, Try.f5.params[j]? = some t → args[j]? = some v → Value.okWide Try.prog W .any base t v := hval0
  have hW' := hW
  obtain ⟨p, q, hA0, hV, rfl, hfz, hnd⟩ := hW
  have hA : DataW.TrodAll enc Try.prog W 0 (fun _ => true) true Try.f5.params.toList args.toList ds p := hA0
  rw [Try.params5] at hA hval
  have hA' := hA
  obtain ⟨v0, vs0, d0, ds0, p0, q0, hargs, rfl, rfl, h0, r0⟩ := trodAll_cons hA
  obtain ⟨v1, vs1, d1, ds1, p1, q1, rfl, rfl, rfl, h1, r1⟩ := trodAll_cons r0
  obtain ⟨rfl, rfl, rfl⟩ := trodAll_nil r1
  obtain rfl : args = #[v0, v1] := by cases args; simp_all
  obtain ⟨rfl, rfl⟩ := trodVars_none hV
  obtain ⟨k0, A0, c0, l0, rfl, w0, H0⟩ := open_top (hval 0 38 v0 rfl rfl) h0
  obtain ⟨A1, len1, c1, rfl⟩ := okWide_slice Try.underlying34 (hval 1 34 v1 rfl rfl)
  obtain ⟨z1, rfl, sl1⟩ := open_rows h1
  clear hA0 hval0
  refine (walk k0 A0 c0 l0 w0 H0 A1 c1 z1 sl1).mono fun e W' ⟨he, bel⟩ => ?_
  subst he
  exact ⟨_, rfl, _, _, _, [], _, [], hW', trodAll_mk1 (shut_bool Try.underlying4 _), trodAll_below bel _ _ _ _ (by kernel_rfl) hA', rfl, bel.frame _, fun h => by cases h⟩

theorem proved : Rows.TopkOffersSaid :=
  OpenClaim.holds_of_wide 5 Try.f5 rfl rfl rfl rfl rfl rfl rfl ⟨rfl, rfl, rfl, rfl, rfl⟩ rfl rfl rfl rfl rfl (by kernel_rfl) Try.func5 (by kernel_rfl)
    (of_decide_eq_true (by kernel_rfl)) (by unfold Func.isWrapper; first | (rw [if_pos (by decide +kernel)]; kernel_rfl) | (rw [if_neg (by decide +kernel)]; exact ⟨rfl, rfl⟩))
    (fun os started H enc _ => lifted os started H enc)
#print axioms proved
end Go.Proofs.Ythobkakmjgmpcaa.topkOffers
