/-
  Proved: the law TopkParts, the first ones of parts and of what is offered one by one, returns true for every number, hits and cuts, and leaves all memory as it was. No condition.
-/
import Derived.Test.YthobkakmjgmpcaaTopParts
import Derived.Test.YthobkakmjgmpcaaLawFrame
namespace Go.Proofs.Ythobkakmjgmpcaa.topkParts
open Go.ChangeShapes Go.WideShapes Go.ChangeAt Go.RowKit
set_option linter.unusedVariables false
set_option linter.unusedSimpArgs false
set_option maxRecDepth 100000

def firstAll (kk : Nat) (X : List HitM) (ps : Nat → List HitM) (H : List HitM) (j : Nat) : Prop := H = firstM kk (X.take j) ∧ (all4 ps).Perm (X.take j)
theorem all_start (kk : Nat) (X : List HitM) : firstAll kk X (fun _ => []) [] 0 := ⟨by simp [firstM, sortM], by simp [all4]⟩
theorem take_snoc {X : List HitM} {j : Nat} (hj : j < X.length) : X.take (j + 1) = X.take j ++ [X.getD j z2] := by
  rw [List.take_add_one, List.getElem?_eq_getElem hj]
  simp [List.getD, hj]
theorem part_le {X : List HitM} {ps : Nat → List HitM} {j q : Nat} (h : (all4 ps).Perm (X.take j)) (hq : q < 4) : (ps q).length ≤ X.length := by
  have h1 := h.length_eq
  have h2 : (X.take j).length ≤ X.length := by simp; omega
  have h3 : (ps q).length ≤ (all4 ps).length := by
    unfold all4
    simp only [List.length_append]
    match q, hq with
    | 0, _ => omega
    | 1, _ => omega
    | 2, _ => omega
    | 3, _ => omega
  omega

set_option maxHeartbeats 8000000 in
theorem walk {w : World} (k : Int) (wk : (Lit.int .i64 k).wf = true) (A : Option Addr) (c : Nat) (l : List HitM) (hl : Hits w A c l) (A' : Option Addr) (c' : Nat) (cuts : List Int) (hc : Vec .i64 w A' c' cuts) :
    Calls Try.prog 8 #[.int .i64 k, .slice A l.length c, .slice A' cuts.length c'] w fun e w' => e = .returned (.bool true) ∧ Below w.heap.size w w' := by
  have HO := Lib.hid (fun (V : World) (hV : Below w.heap.size w V) => own_lit A c 200 200 rfl l V (hl.below hV) (by omega))
  obtain ⟨X, hX⟩ : ∃ X, X = l.take 200 := ⟨_, rfl⟩
  have HXL := Lib.hid (show X.length ≤ 200 by rw [hX, List.length_take]; omega)
  rw [← hX] at HO
  generalize l.length = n at *
  have HC := Lib.hid hc
  obtain ⟨nc, hnc⟩ : ∃ nc, nc = cuts.length := ⟨_, rfl⟩
  have hcm : nc ≤ 9223372036854775807 := by rw [hnc]; exact Nat.le_trans hc.room hc.most
  have HNC := Lib.hid hnc
  rw [← hnc]
  obtain ⟨kk, hk1, hk16, hkk⟩ := kmod k
  have HK16 := Lib.hid hk16
  have HIK := Lib.hid (show isKM (kk : Int) = true from (isK_iff _).2 ⟨by omega, by omega⟩)
  clear hl hX wk hc hnc
  go_enter Try.func8, Try.ntmps8
  go_wp2_with fail
  refine (wakes_any w).mono ?_
  rintro e w1 ⟨rfl, hb1⟩
  have HB1 := Lib.hid hb1
  clear hb1
  go_wp2_with fail
  refine (HO.out w1 HB1.out).mono ?_
  rintro e w2 ⟨v, rfl, C2, d2, rfl, hr2, hb2⟩
  have HB2 := Lib.hid (HB1.out.trans (hb2.mono HB1.out.size))
  have HX2 := Lib.hid (Hits.ofRow hr2)
  have HF2 := Lib.hid (first_k HIK.out C2 d2 X w2 HX2.out (by have := HXL.out; omega))
  obtain ⟨xl, hxl⟩ : ∃ xl, xl = X.length := ⟨_, rfl⟩
  have HXN := Lib.hid hxl
  have hxb : xl ≤ 200 := by rw [hxl]; exact HXL.out
  rw [← hxl] at HF2 ⊢
  clear hr2 hb2 hxl
  go_wp2_with fail
  refine HF2.out.mono ?_
  rintro e w3 ⟨F3, f3, rfl, hr3, hb3⟩
  have HB3 := Lib.hid (HB2.out.trans (hb3.mono HB2.out.size))
  have HX3 := Lib.hid (HX2.out.below hb3)
  have HY3 := Lib.hid (Hits.ofRow hr3)
  obtain ⟨yl, hyl⟩ : ∃ yl, yl = (firstM kk X).length := ⟨_, rfl⟩
  have HYN := Lib.hid hyl
  rw [← hyl]
  clear hr3 hb3 hyl
  obtain ⟨W4, hW4⟩ : ∃ W4, W4 = w3.alloc (.cells #[.slice none 0 0, .slice none 0 0, .slice none 0 0, .slice none 0 0] 22) := ⟨_, rfl⟩
  have hb4 : Below w3.heap.size w3 W4 := by rw [hW4]; exact (Below.refl _ w3).alloc (Nat.le_refl _) _
  have HB4 := Lib.hid hb4
  have HW4 := Lib.hid hW4
  clear hW4 hb4
  go_wp2_with fail
  rw [← HW4.out]
  refine (new_k HIK.out W4).mono ?_
  rintro e w5 ⟨rfl, hb5⟩
  have HP := Lib.hid (parts_start w3 w5 kk (by rw [← HW4.out]; exact hb5.mono (by rw [HW4.out, World.size_alloc]; omega)))
  have HB5 := Lib.hid ((HB4.out.trans (hb5.mono HB4.out.size)).trans ((Below.refl w5.heap.size w5).alloc (Nat.le_refl _) (.cells #[.int .i64 kk, .slice none 0 0] 38) |>.mono (HB4.out.trans (hb5.mono HB4.out.size)).size))
  obtain ⟨P, hP⟩ : ∃ P, P = w3.heap.size := ⟨_, rfl⟩
  obtain ⟨T, hT⟩ : ∃ T, T = w5.heap.size := ⟨_, rfl⟩
  obtain ⟨W6, hW6⟩ : ∃ W6, W6 = w5.alloc (.cells #[.int .i64 kk, .slice none 0 0] 38) := ⟨_, rfl⟩
  have HW6 := Lib.hid hW6
  rw [← hT, ← hP, ← hW6] at HP
  rw [← hP, ← hW6] at HB5
  have HPW := Lib.hid hP
  rw [← hP]
  have HTW := Lib.hid hT
  clear hb5 hP hT hW6
  go_wp2
  rw [← HW6.out, ← HTW.out]
  go_loopw [8, 11, 12, 13, 47] (fun _ _ _ _ i wr => ∃ (j : Nat) (pA : Nat → Option Addr) (pc : Nat → Nat) (ps : Nat → List HitM) (D : Option Addr) (d : Nat) (H : List HitM), j ≤ xl ∧ i = .int .i64 j ∧ Hid (PartsI P wr P T pA pc ps kk D d H ∧ Below P w3 wr ∧ firstAll kk X ps H j)) (fun _ _ _ _ i _ => xl - (intOf i).toNat)
  case atStart => exact ⟨0, _, _, _, none, 0, [], Nat.zero_le _, rfl, Lib.hid ⟨HP.out, HB5.out, all_start kk X⟩⟩
  case round =>
    obtain ⟨j, pA, pc, ps, D, d, H, hj, rfl, HR⟩ := hrel
    by_cases hjn : j < xl
    · obtain ⟨b, o, rfl, hb, u1, u2⟩ := (HX3.out.below (show Below w3.heap.size w3 wr by rw [← HPW.out]; exact HR.out.2.1)).at_ (j := j) (by rw [← HXN.out]; exact hjn)
      have HTS := Lib.hid (take_snoc (X := X) (j := j) (by rw [← HXN.out]; exact hjn))
      have HEL := Lib.hid (fun (q : Nat) (hq : q < 4) => show (ps q).length ≤ 200 from Nat.le_trans (part_le HR.out.2.2.2 hq) HXL.out)
      generalize X.getD j z2 = x at *
      obtain ⟨x1, x2⟩ := x
      dsimp only at u1 u2
      have j0 : (0 : Int) ≤ j := by omega
      have jn : (j : Int) < xl := by omega
      by_cases hn0 : 0 < nc
      · have t1 : decide ((0 : Int) < nc) = true := by simp; omega
        obtain ⟨t, ht, hte⟩ : ∃ t : Nat, t < nc ∧ (j : Int) % (nc : Int) = t := ⟨j % nc, Nat.mod_lt _ hn0, by simp⟩
        obtain ⟨b', o', rfl, hb', u3⟩ := HC.out.at_ (j := t) (by rw [← HNC.out]; exact ht)
        have e3 := ((HB3.out.trans (show Below w.heap.size w3 (wr.alloc (.cells #[.int .u64 x1, .int .u64 x2] 32)) from (HR.out.2.1.trans ((Below.refl wr.heap.size wr).alloc (Nat.le_refl _) _ |>.mono (by have := HR.out.2.1.size; have := HPW.out; omega))).mono (by rw [HPW.out]; exact HB3.out.size))).cell (p := ⟨b', o' + t, none⟩) hb').trans u3
        generalize cuts.getD t 0 = a at *
        have t0 : (0 : Int) ≤ t := by omega
        have tn : (t : Int) < nc := by omega
        have hnz : ¬ (nc : Int) = 0 := by omega
        clear u3 hb hb'
        go_wp2
        obtain ⟨q, hq, q1, q2, q3, q4, q5⟩ := umod4 a
        obtain ⟨W1, hW1⟩ : ∃ W1, W1 = wr.alloc (.cells #[.int .u64 x1, .int .u64 x2] 32) := ⟨_, rfl⟩
        have hb1 : Below wr.heap.size wr W1 := by rw [hW1]; exact (Below.refl _ wr).alloc (Nat.le_refl _) _
        have hx1 : W1.heap[wr.heap.size]? = some (.cells #[.int .u64 x1, .int .u64 x2] 32 (0, 0)) := by rw [hW1]; exact heap_alloc_new _ _
        rw [← hW1]
        have HP1 := Lib.hid (HR.out.1.below hb1)
        have HBR := Lib.hid (HR.out.2.1.trans (hb1.mono (by have := HR.out.2.1.size; have := HPW.out; omega)))
        obtain ⟨hbk, hhbk⟩ : ∃ hbk, hbk = wr.heap.size := ⟨_, rfl⟩
        rw [← hhbk] at hx1 ⊢
        have HLH := Lib.hid (show P ≤ hbk by rw [hhbk, HPW.out]; exact HR.out.2.1.size)
        have HPP := Lib.hid (show P < hbk by rw [hhbk]; exact HR.out.1.lowP.2)
        have HTT := Lib.hid (show T < hbk by rw [hhbk]; exact HR.out.1.ltT)
        have HFA := Lib.hid (show ∀ g, blk (pA q) = some g → g ≠ hbk from fun g hg => by have := ((HR.out.1.el q hq).lt g (by rw [own_blk]; exact hg)).2; omega)
        clear hb1 hW1 hhbk
        obtain ⟨m, hm⟩ : ∃ m, (ps q).length = m := ⟨_, rfl⟩
        have hm200 : m ≤ 200 := by rw [← hm]; exact HEL.out q hq
        have HM := Lib.hid hm
        have vP := HP1.out.cell hq
        have fP := HP1.out.row.frozenAt q
        have h0 : W1.cell? ⟨hbk, 0, none⟩ = some (.int .u64 x1) := (cell_of_row _ _ _ _ _ _ hx1).trans rfl
        have h1 : W1.cell? ⟨hbk, 1, none⟩ = some (.int .u64 x2) := (cell_of_row _ _ _ _ _ _ hx1).trans rfl
        have HX1 := Lib.hid hx1
        have HW2 := Lib.hid (show ∀ o : Obj, W1.heap.size ≤ (W1.alloc o).heap.size from fun o => by rw [World.size_alloc]; omega)
        have hz1 : P ≤ W1.heap.size := Nat.le_of_lt HP1.out.lowP.2
        rw [hm] at vP
        have vP2 : (W1.alloc (.cells #[.int .u64 x1, .int .u64 x2] 32)).cell? ⟨P, q, none⟩ = some (.slice (pA q) m (pc q)) := (((Below.refl W1.heap.size W1).alloc (Nat.le_refl _) _).cell (p := ⟨P, q, none⟩) HP1.out.lowP.2).trans vP
        have HO2 := Lib.hid (show (W1.alloc (.cells #[.int .u64 x1, .int .u64 x2] 32)).ownsRow P 32 2 (.slice (pA q) m (pc q)) m (flat (ps q)) by
          have := (HP1.out.el q hq).alloc (.cells #[.int .u64 x1, .int .u64 x2] 32)
          rw [hm] at this
          exact this)
        have HT2 := Lib.hid (hits_one (W := W1.alloc (.cells #[.int .u64 x1, .int .u64 x2] 32)) (g := W1.heap.size) (h := (x1, x2)) (cell_laid _ _ _ 0) (cell_laid _ _ _ 1))
        obtain ⟨Bq, hBq⟩ : ∃ Bq, Bq = pA q := ⟨_, rfl⟩
        obtain ⟨cq, hcq⟩ : ∃ cq, cq = pc q := ⟨_, rfl⟩
        have HBQ := Lib.hid hBq
        have HCQ := Lib.hid hcq
        rw [← hBq, ← hcq] at vP vP2 HO2
        clear hx1 hm hBq hcq
        go_region_law ((refine step_happ (by rfl) _ _ 22 Try.underlying22 (by rfl) P Bq cq m (flat (ps q)) (by rfl) HO2.out.drew (some ⟨W1.heap.size, 0, none⟩) 1 1 [(x1, x2)] (by rfl) rfl HT2.out.drew (by omega) (Nat.le_trans hz1 (HW2.out _)) ?_; intro A1 c1 W3 hown hgrow hloc hnil; obtain ⟨hp4, v4, f4, tu4⟩ := parts_more (x := (x1, x2)) HP1.out hq HM.out (((Turn.refl (fun _ => False) W1).alloc _).drew) (by rw [← HBQ.out]; exact hgrow) hown (by rw [← HBQ.out]; exact hloc); rw [← HBQ.out, ← HCQ.out] at v4; have HP4 := Lib.hid hp4; have HT4 := Lib.hid tu4; clear hp4 tu4 hown hgrow hloc hnil))
        all_goals (
          obtain ⟨W4, hW4⟩ : ∃ W4, W4 = W3.setCell ⟨P, q, none⟩ (.slice A1 (m + 1) c1) := ⟨_, rfl⟩
          rw [← hW4] at HP4 HT4 ⊢
          have hx4 : W4.heap[hbk]? = some (.cells #[.int .u64 x1, .int .u64 x2] 32 (0, 0)) := (HT4.out.block hbk (lt_of_block HX1.out) (fun e => e.elim (fun e => HFA.out hbk e rfl) (fun e => by have := HPP.out; omega))).trans HX1.out
          have g0 : W4.cell? ⟨hbk, 0, none⟩ = some (.int .u64 x1) := (cell_of_row _ _ _ _ _ _ hx4).trans rfl
          have g1 : W4.cell? ⟨hbk, 1, none⟩ = some (.int .u64 x2) := (cell_of_row _ _ _ _ _ _ hx4).trans rfl
          have k0 : W4.cell? ⟨T, 0, none⟩ = some (.int .i64 kk) := (cell_of_row _ _ _ _ _ _ HP4.out.box).trans rfl
          have k1 : W4.cell? ⟨T, 1, none⟩ = some (.slice D H.length d) := (cell_of_row _ _ _ _ _ _ HP4.out.box).trans rfl
          have HB4 := Lib.hid (HBR.out.trans (HT4.out.below hz1 (fun i e => e.elim (fun e => ((HP1.out.el q hq).lt i (by rw [own_blk]; exact e)).1) (fun e => by omega))))
          have hH := HR.out.2.2.1
          obtain ⟨L, hL⟩ : ∃ L, L = X.take j := ⟨_, rfl⟩
          rw [← hL] at hH
          have HLL := Lib.hid hL
          have HOF := Lib.hid (offer_k HIK.out D (some ⟨W4.heap.size, 0, none⟩) d 1 L (x1, x2) (W4.alloc (.cells #[.int .u64 x1, .int .u64 x2] 32)) (by rw [← hH]; exact HP4.out.hits.below ((Below.refl _ W4).alloc (Nat.le_refl _) _)) (hits_one (cell_laid _ _ _ 0) (cell_laid _ _ _ 1)))
          rw [← hH] at HOF
          obtain ⟨hl, hhl⟩ : ∃ hl, H.length = hl := ⟨_, rfl⟩
          rw [hhl] at k1 HOF
          clear hW4 v4 f4 vP vP2 fP h0 h1 hx4 hH hhl hL
          go_wp2_with fail
          refine HOF.out.mono ?_
          rintro e w6 ⟨B6, c6, rfl, hr6, hb6⟩
          have hb46 : Below W4.heap.size W4 w6 := ((Below.refl W4.heap.size W4).alloc (Nat.le_refl _) (.cells #[.int .u64 x1, .int .u64 x2] 32)).trans (hb6.mono (by rw [World.size_alloc]; omega))
          have hbox := (HP4.out.below hb46).box
          have k60 : w6.cell? ⟨T, 0, none⟩ = some (.int .i64 kk) := (cell_of_row _ _ _ _ _ _ hbox).trans rfl
          have k61 : w6.cell? ⟨T, 1, none⟩ = some (.slice D H.length d) := (cell_of_row _ _ _ _ _ _ hbox).trans rfl
          have f60 : w6.frozen? ⟨T, 0, none⟩ = false := frozen_of_row _ _ _ _ _ hbox
          have f61 : w6.frozen? ⟨T, 1, none⟩ = false := frozen_of_row _ _ _ _ _ hbox
          obtain ⟨Y, hY⟩ : ∃ Y, Y = firstM kk (L ++ [(x1, x2)]) := ⟨_, rfl⟩
          rw [← hY] at hr6 ⊢
          have HP7 := Lib.hid (HP4.out.set (Y := Y) hb46 (by rw [World.size_alloc]; omega) rfl hr6)
          have k70 := (cell_of_row _ _ 0 _ _ _ HP7.out.box).trans rfl
          have k71 := (cell_of_row _ _ 1 _ _ _ HP7.out.box).trans rfl
          have HB7 := Lib.hid (((HB4.out.trans (hb46.mono (Nat.le_of_lt HP4.out.lowP.2))).setCell (p := ⟨T, 0, none⟩) HP4.out.lowT (.int .i64 kk)).setCell (p := ⟨T, 1, none⟩) HP4.out.lowT (.slice B6 Y.length c6))
          have HCK := Lib.hid (check_k HIK.out B6 c6 (L ++ [(x1, x2)]) Y hY.symm _ HP7.out.hits)
          have HYY := Lib.hid hY
          obtain ⟨yq, hyq⟩ : ∃ yq, Y.length = yq := ⟨_, rfl⟩
          rw [hyq] at k70 k71 HCK HP7 HB7 ⊢
          clear hr6 hb6 hb46 hbox g0 g1 k0 k1 hY
          go_wp2_with fail
          refine HCK.out.mono ?_
          rintro e w8 ⟨rfl, hb8⟩
          have HF := Lib.hid (show PartsI P w8 P T (upd pA q A1) (upd pc q c1) (upd ps q (ps q ++ [(x1, x2)])) kk B6 c6 Y ∧ Below P w3 w8 ∧ firstAll kk X (upd ps q (ps q ++ [(x1, x2)])) Y (j + 1) from ⟨HP7.out.below hb8, HB7.out.trans (hb8.mono (Nat.le_of_lt HP7.out.lowP.2)), by rw [HYY.out, HLL.out, HTS.out], by rw [HTS.out]; exact (all4_upd ps hq (x1, x2)).trans (HR.out.2.2.2.append_right _)⟩)
          clear hb8 hyq k60 k61 k70 k71 f60 f61
          go_wp2
          go_roundw
          case rel => exact ⟨j + 1, _, _, _, _, _, _, by omega, by go_num, HF⟩
          case measure => simp [intOf]; omega)
      · have t1 : decide ((0 : Int) < nc) = false := by simp; omega
        obtain rfl : nc = 0 := by omega
        go_wp2
        obtain ⟨q, hq, q1, q2, q3, q4, q5⟩ := umod4 (j : Int)
        obtain ⟨W1, hW1⟩ : ∃ W1, W1 = wr.alloc (.cells #[.int .u64 x1, .int .u64 x2] 32) := ⟨_, rfl⟩
        have hb1 : Below wr.heap.size wr W1 := by rw [hW1]; exact (Below.refl _ wr).alloc (Nat.le_refl _) _
        have hx1 : W1.heap[wr.heap.size]? = some (.cells #[.int .u64 x1, .int .u64 x2] 32 (0, 0)) := by rw [hW1]; exact heap_alloc_new _ _
        rw [← hW1]
        have HP1 := Lib.hid (HR.out.1.below hb1)
        have HBR := Lib.hid (HR.out.2.1.trans (hb1.mono (by have := HR.out.2.1.size; have := HPW.out; omega)))
        obtain ⟨hbk, hhbk⟩ : ∃ hbk, hbk = wr.heap.size := ⟨_, rfl⟩
        rw [← hhbk] at hx1 ⊢
        have HLH := Lib.hid (show P ≤ hbk by rw [hhbk, HPW.out]; exact HR.out.2.1.size)
        have HPP := Lib.hid (show P < hbk by rw [hhbk]; exact HR.out.1.lowP.2)
        have HTT := Lib.hid (show T < hbk by rw [hhbk]; exact HR.out.1.ltT)
        have HFA := Lib.hid (show ∀ g, blk (pA q) = some g → g ≠ hbk from fun g hg => by have := ((HR.out.1.el q hq).lt g (by rw [own_blk]; exact hg)).2; omega)
        clear hb1 hW1 hhbk
        obtain ⟨m, hm⟩ : ∃ m, (ps q).length = m := ⟨_, rfl⟩
        have hm200 : m ≤ 200 := by rw [← hm]; exact HEL.out q hq
        have HM := Lib.hid hm
        have vP := HP1.out.cell hq
        have fP := HP1.out.row.frozenAt q
        have h0 : W1.cell? ⟨hbk, 0, none⟩ = some (.int .u64 x1) := (cell_of_row _ _ _ _ _ _ hx1).trans rfl
        have h1 : W1.cell? ⟨hbk, 1, none⟩ = some (.int .u64 x2) := (cell_of_row _ _ _ _ _ _ hx1).trans rfl
        have HX1 := Lib.hid hx1
        have HW2 := Lib.hid (show ∀ o : Obj, W1.heap.size ≤ (W1.alloc o).heap.size from fun o => by rw [World.size_alloc]; omega)
        have hz1 : P ≤ W1.heap.size := Nat.le_of_lt HP1.out.lowP.2
        rw [hm] at vP
        have vP2 : (W1.alloc (.cells #[.int .u64 x1, .int .u64 x2] 32)).cell? ⟨P, q, none⟩ = some (.slice (pA q) m (pc q)) := (((Below.refl W1.heap.size W1).alloc (Nat.le_refl _) _).cell (p := ⟨P, q, none⟩) HP1.out.lowP.2).trans vP
        have HO2 := Lib.hid (show (W1.alloc (.cells #[.int .u64 x1, .int .u64 x2] 32)).ownsRow P 32 2 (.slice (pA q) m (pc q)) m (flat (ps q)) by
          have := (HP1.out.el q hq).alloc (.cells #[.int .u64 x1, .int .u64 x2] 32)
          rw [hm] at this
          exact this)
        have HT2 := Lib.hid (hits_one (W := W1.alloc (.cells #[.int .u64 x1, .int .u64 x2] 32)) (g := W1.heap.size) (h := (x1, x2)) (cell_laid _ _ _ 0) (cell_laid _ _ _ 1))
        obtain ⟨Bq, hBq⟩ : ∃ Bq, Bq = pA q := ⟨_, rfl⟩
        obtain ⟨cq, hcq⟩ : ∃ cq, cq = pc q := ⟨_, rfl⟩
        have HBQ := Lib.hid hBq
        have HCQ := Lib.hid hcq
        rw [← hBq, ← hcq] at vP vP2 HO2
        clear hx1 hm hBq hcq
        go_region_law ((refine step_happ (by rfl) _ _ 22 Try.underlying22 (by rfl) P Bq cq m (flat (ps q)) (by rfl) HO2.out.drew (some ⟨W1.heap.size, 0, none⟩) 1 1 [(x1, x2)] (by rfl) rfl HT2.out.drew (by omega) (Nat.le_trans hz1 (HW2.out _)) ?_; intro A1 c1 W3 hown hgrow hloc hnil; obtain ⟨hp4, v4, f4, tu4⟩ := parts_more (x := (x1, x2)) HP1.out hq HM.out (((Turn.refl (fun _ => False) W1).alloc _).drew) (by rw [← HBQ.out]; exact hgrow) hown (by rw [← HBQ.out]; exact hloc); rw [← HBQ.out, ← HCQ.out] at v4; have HP4 := Lib.hid hp4; have HT4 := Lib.hid tu4; clear hp4 tu4 hown hgrow hloc hnil))
        all_goals (
          obtain ⟨W4, hW4⟩ : ∃ W4, W4 = W3.setCell ⟨P, q, none⟩ (.slice A1 (m + 1) c1) := ⟨_, rfl⟩
          rw [← hW4] at HP4 HT4 ⊢
          have hx4 : W4.heap[hbk]? = some (.cells #[.int .u64 x1, .int .u64 x2] 32 (0, 0)) := (HT4.out.block hbk (lt_of_block HX1.out) (fun e => e.elim (fun e => HFA.out hbk e rfl) (fun e => by have := HPP.out; omega))).trans HX1.out
          have g0 : W4.cell? ⟨hbk, 0, none⟩ = some (.int .u64 x1) := (cell_of_row _ _ _ _ _ _ hx4).trans rfl
          have g1 : W4.cell? ⟨hbk, 1, none⟩ = some (.int .u64 x2) := (cell_of_row _ _ _ _ _ _ hx4).trans rfl
          have k0 : W4.cell? ⟨T, 0, none⟩ = some (.int .i64 kk) := (cell_of_row _ _ _ _ _ _ HP4.out.box).trans rfl
          have k1 : W4.cell? ⟨T, 1, none⟩ = some (.slice D H.length d) := (cell_of_row _ _ _ _ _ _ HP4.out.box).trans rfl
          have HB4 := Lib.hid (HBR.out.trans (HT4.out.below hz1 (fun i e => e.elim (fun e => ((HP1.out.el q hq).lt i (by rw [own_blk]; exact e)).1) (fun e => by omega))))
          have hH := HR.out.2.2.1
          obtain ⟨L, hL⟩ : ∃ L, L = X.take j := ⟨_, rfl⟩
          rw [← hL] at hH
          have HLL := Lib.hid hL
          have HOF := Lib.hid (offer_k HIK.out D (some ⟨W4.heap.size, 0, none⟩) d 1 L (x1, x2) (W4.alloc (.cells #[.int .u64 x1, .int .u64 x2] 32)) (by rw [← hH]; exact HP4.out.hits.below ((Below.refl _ W4).alloc (Nat.le_refl _) _)) (hits_one (cell_laid _ _ _ 0) (cell_laid _ _ _ 1)))
          rw [← hH] at HOF
          obtain ⟨hl, hhl⟩ : ∃ hl, H.length = hl := ⟨_, rfl⟩
          rw [hhl] at k1 HOF
          clear hW4 v4 f4 vP vP2 fP h0 h1 hx4 hH hhl hL
          go_wp2_with fail
          refine HOF.out.mono ?_
          rintro e w6 ⟨B6, c6, rfl, hr6, hb6⟩
          have hb46 : Below W4.heap.size W4 w6 := ((Below.refl W4.heap.size W4).alloc (Nat.le_refl _) (.cells #[.int .u64 x1, .int .u64 x2] 32)).trans (hb6.mono (by rw [World.size_alloc]; omega))
          have hbox := (HP4.out.below hb46).box
          have k60 : w6.cell? ⟨T, 0, none⟩ = some (.int .i64 kk) := (cell_of_row _ _ _ _ _ _ hbox).trans rfl
          have k61 : w6.cell? ⟨T, 1, none⟩ = some (.slice D H.length d) := (cell_of_row _ _ _ _ _ _ hbox).trans rfl
          have f60 : w6.frozen? ⟨T, 0, none⟩ = false := frozen_of_row _ _ _ _ _ hbox
          have f61 : w6.frozen? ⟨T, 1, none⟩ = false := frozen_of_row _ _ _ _ _ hbox
          obtain ⟨Y, hY⟩ : ∃ Y, Y = firstM kk (L ++ [(x1, x2)]) := ⟨_, rfl⟩
          rw [← hY] at hr6 ⊢
          have HP7 := Lib.hid (HP4.out.set (Y := Y) hb46 (by rw [World.size_alloc]; omega) rfl hr6)
          have k70 := (cell_of_row _ _ 0 _ _ _ HP7.out.box).trans rfl
          have k71 := (cell_of_row _ _ 1 _ _ _ HP7.out.box).trans rfl
          have HB7 := Lib.hid (((HB4.out.trans (hb46.mono (Nat.le_of_lt HP4.out.lowP.2))).setCell (p := ⟨T, 0, none⟩) HP4.out.lowT (.int .i64 kk)).setCell (p := ⟨T, 1, none⟩) HP4.out.lowT (.slice B6 Y.length c6))
          have HCK := Lib.hid (check_k HIK.out B6 c6 (L ++ [(x1, x2)]) Y hY.symm _ HP7.out.hits)
          have HYY := Lib.hid hY
          obtain ⟨yq, hyq⟩ : ∃ yq, Y.length = yq := ⟨_, rfl⟩
          rw [hyq] at k70 k71 HCK HP7 HB7 ⊢
          clear hr6 hb6 hb46 hbox g0 g1 k0 k1 hY
          go_wp2_with fail
          refine HCK.out.mono ?_
          rintro e w8 ⟨rfl, hb8⟩
          have HF := Lib.hid (show PartsI P w8 P T (upd pA q A1) (upd pc q c1) (upd ps q (ps q ++ [(x1, x2)])) kk B6 c6 Y ∧ Below P w3 w8 ∧ firstAll kk X (upd ps q (ps q ++ [(x1, x2)])) Y (j + 1) from ⟨HP7.out.below hb8, HB7.out.trans (hb8.mono (Nat.le_of_lt HP7.out.lowP.2)), by rw [HYY.out, HLL.out, HTS.out], by rw [HTS.out]; exact (all4_upd ps hq (x1, x2)).trans (HR.out.2.2.2.append_right _)⟩)
          clear hb8 hyq k60 k61 k70 k71 f60 f61
          go_wp2
          go_roundw
          case rel => exact ⟨j + 1, _, _, _, _, _, _, by omega, by go_num, HF⟩
          case measure => simp [intOf]; omega)
    · obtain rfl : j = xl := by omega
      obtain ⟨wz, hwz⟩ : ∃ wz, wz = wr := ⟨_, rfl⟩
      rw [← hwz] at HR ⊢
      clear hwz
      have HPZ := Lib.hid HR.out.1
      have HBZ := Lib.hid HR.out.2.1
      have htk : X.take j = X := by rw [HXN.out]; exact List.take_length
      have HPM := Lib.hid (show (all4 ps).Perm X by have := HR.out.2.2.2; rw [htk] at this; exact this)
      obtain ⟨Y, hY⟩ : ∃ Y, Y = firstM kk X := ⟨_, rfl⟩
      have hH : H = Y := by rw [hY, HR.out.2.2.1, htk]
      subst hH
      have HYE := Lib.hid hY
      have HYL := Lib.hid (show H.length = yl by rw [hY]; exact HYN.out.symm)
      rw [← hY] at HY3
      clear hY htk
      go_wp2
      go_loopw [14, 16, 17, 18, 94] (fun r _ _ _ i wv => ∃ (z : Nat) (A1 : Option Addr) (c1 : Nat) (vs : List Value), z ≤ 4 ∧ i = .int .i64 z ∧ r = .slice A1 z c1 ∧ Hid (RowsI wz.heap.size wv (rows4 ps kk z) A1 c1 vs ∧ Below wz.heap.size wz wv)) (fun _ _ _ _ i _ => 4 - (intOf i).toNat)
      case atStart => exact ⟨0, none, 0, [], by omega, rfl, rfl, Lib.hid ⟨RowsI.start _ _, Below.refl _ _⟩⟩
      case round =>
        obtain ⟨z, A1, c1, vs, hz, rfl, rfl, HZ⟩ := hrel
        have HPR := Lib.hid (HPZ.out.below HZ.out.2)
        by_cases hz4 : z < 4
        · have e1 := HPR.out.cell hz4
          have HF := Lib.hid (first_k HIK.out (pA z) (pc z) (ps z) wr (Hits.ofRow (HPR.out.el z hz4)) (by have := part_le (X := X) (j := X.length) (by rw [List.take_length]; exact HPM.out) hz4; have := HXL.out; omega))
          have HRL := Lib.hid (rows4_len ps kk (Nat.le_of_lt hz4))
          have HSN := Lib.hid (rows4_snoc ps kk hz4)
          obtain ⟨Z, hZ⟩ : ∃ Z, Z = firstM kk (ps z) := ⟨_, rfl⟩
          rw [← hZ] at HF HSN
          generalize pA z = Bz at *
          generalize pc z = cz at *
          generalize (ps z).length = mz at *
          have z0 : (0 : Int) ≤ z := by omega
          have z4 : (z : Int) < 4 := by omega
          clear hZ
          go_wp2_with fail
          refine HF.out.mono ?_
          rintro e w2 ⟨B, cb, rfl, o2, b2⟩
          have HO2 := Lib.hid (And.intro o2 b2)
          have HR2 := Lib.hid (show (w2.alloc (.cells #[.slice B Z.length cb] 22)).ownsRow wz.heap.size 22 1 (.slice A1 z c1) z vs by
            have := row_turn HZ.out.1.rows (S := fun _ => False) (Turn.of_below b2) (by simp)
            rw [HRL.out] at this
            exact this.alloc _)
          have hz2 : wz.heap.size ≤ (w2.alloc (.cells #[.slice B Z.length cb] 22)).heap.size := by
            rw [World.size_alloc]; have := HZ.out.2.size; have := b2.size; omega
          clear o2 b2 e1
          go_wp2_with (refine rapp_at rfl _ _ rfl wz.heap.size A1 c1 z vs rfl HR2.out w2.heap.size (.slice B Z.length cb) rfl (cell_laid _ _ _ 0) rfl (by omega) hz2 ?_; intro A1' c1' W3 o3 g3 l3; have H3 := Lib.hid (HZ.out.1.step HZ.out.2.size HRL.out HO2.out.1 HO2.out.2 o3 g3 l3); clear o3 g3 l3)
          have HF2 := Lib.hid (show RowsI wz.heap.size W3 (rows4 ps kk (z + 1)) A1' c1' (vs ++ [.slice B Z.length cb]) ∧ Below wz.heap.size wz W3 from ⟨by rw [HSN.out]; exact H3.out.1, HZ.out.2.trans H3.out.2⟩)
          go_roundw
          case rel => exact ⟨z + 1, A1', c1', _, by omega, by go_num, rfl, HF2⟩
          case measure => simp [intOf]; omega
        · obtain rfl : z = 4 := by omega
          have HME := Lib.hid (merge_k HIK.out A1 c1 (rows4 ps kk 4) wr HZ.out.1.rows_in (by have := rows4_sum ps HK16.out; omega))
          rw [rows4_len ps kk (Nat.le_refl 4), rows4_first ps kk HPM.out, ← HYE.out] at HME
          have HBR := Lib.hid ((HBZ.out.mono (show w3.heap.size ≤ P by rw [HPW.out]; exact Nat.le_refl _)).trans (HZ.out.2.mono (show w3.heap.size ≤ wz.heap.size by rw [← HPW.out]; exact Nat.le_of_lt HPZ.out.lowP.2)))
          have HTC := Lib.hid (fun (V : World) (hV : Below wr.heap.size wr V) => show V.cell? ⟨T, 1, none⟩ = some (.slice D H.length d) from (cell_of_row _ _ _ _ _ _ (HPR.out.below hV).box).trans rfl)
          have HTH := Lib.hid (fun (V : World) (hV : Below wr.heap.size wr V) => HPR.out.hits.below hV)
          rw [HYL.out] at HTC
          go_wp2_with fail
          refine HME.out.mono ?_
          rintro e w5 ⟨B5, c5, rfl, hr5, hb5⟩
          have HB5 := Lib.hid hb5
          have HF5 := Lib.hid (HY3.out.below (HBR.out.trans (hb5.mono HBR.out.size)))
          have HS5 := Lib.hid (same_yes B5 F3 c5 f3 H w5 (Hits.ofRow hr5) HF5.out)
          rw [HYL.out] at HS5 ⊢
          clear hr5 hb5
          go_wp2_with fail
          refine HS5.out.mono ?_
          rintro e w6 ⟨rfl, hb6⟩
          have HB6 := Lib.hid (HB5.out.trans (hb6.mono HB5.out.size))
          have k1 := HTC.out w6 HB6.out
          have HS6 := Lib.hid (same_yes D F3 d f3 H w6 (HTH.out w6 HB6.out) (HF5.out.below hb6))
          rw [HYL.out] at HS6
          clear hb6
          go_wp2_with fail
          refine HS6.out.mono ?_
          rintro e w7 ⟨rfl, hb7⟩
          have HB7 := Lib.hid (HB3.out.trans ((HBR.out.trans ((HB6.out.trans (hb7.mono HB6.out.size)).mono HBR.out.size)).mono HB3.out.size))
          clear hb7 k1
          go_wp2
          go_ret
          exact ⟨rfl, HB7.out⟩
set_option maxRecDepth 100000 in
theorem lifted (os : Os) (started : os.Started) (H : Type) (enc : TypeId × Value → H) :
    ReturnsInHanded {} Try.checked os 8 .any (Rows.topkPartsSpec.pre6 enc Try.prog Try.f8 Rows.topkPartsRow.domain false) (Rows.topkPartsSpec.post enc Try.prog Try.f8 false true false false) := by
  refine returnsInHanded_of_change (C := Try.checked) Try.own started (by kernel_rfl) Try.func8
    (ChangeSpec.witness6 (enc := enc) (C := Try.checked) false ⟨#[], #[.int .i64 0, .slice none 0 0, .slice none 0 0], []⟩ 8 (by kernel_rfl) (by kernel_rfl) (by kernel_rfl) (by kernel_rfl)) ?_
  intro W base args ds gs before hval0 hW hcnd _
  have hval : ∀ (j : Nat) t v, Try.f8.params[j]? = some t → args[j]? = some v → Value.okWide Try.prog W .any base t v := hval0
  have hW' := hW
  obtain ⟨p, q, hA0, hV, rfl, hfz, hnd⟩ := hW
  have hA : DataW.TrodAll enc Try.prog W 0 (fun _ => true) true Try.f8.params.toList args.toList ds p := hA0
  rw [Try.params8] at hA hval
  have hA' := hA
  obtain ⟨v0, vs0, d0, ds0, p0, q0, hargs, rfl, rfl, h0, r0⟩ := trodAll_cons hA
  obtain ⟨v1, vs1, d1, ds1, p1, q1, rfl, rfl, rfl, h1, r1⟩ := trodAll_cons r0
  obtain ⟨v2, vs2, d2, ds2, p2, q2, rfl, rfl, rfl, h2, r2⟩ := trodAll_cons r1
  obtain ⟨rfl, rfl, rfl⟩ := trodAll_nil r2
  obtain rfl : args = #[v0, v1, v2] := by cases args; simp_all
  obtain ⟨rfl, rfl⟩ := trodVars_none hV
  obtain ⟨a0, rfl, w0⟩ := open_num (hval 0 3 v0 rfl rfl) h0
  obtain ⟨A1, len1, c1, rfl⟩ := okWide_slice Try.underlying22 (hval 1 22 v1 rfl rfl)
  obtain ⟨z1, rfl, sl1⟩ := open_hits h1
  obtain ⟨A2, len2, c2, rfl⟩ := okWide_slice Try.underlying23 (hval 2 23 v2 rfl rfl)
  obtain ⟨z2, rfl, sl2⟩ := open_nums h2
  clear hA0 hval0
  refine (walk a0 w0 A1 c1 z1 sl1 A2 c2 z2 sl2).mono fun e W' ⟨he, bel⟩ => ?_
  subst he
  exact ⟨_, rfl, _, _, _, [], _, [], hW', trodAll_mk1 (shut_bool Try.underlying4 _), trodAll_below bel _ _ _ _ (by kernel_rfl) hA', rfl, bel.frame _, fun h => by cases h⟩

theorem proved : Rows.TopkPartsSaid :=
  OpenClaim.holds_of_wide 8 Try.f8 rfl rfl rfl rfl rfl rfl rfl ⟨rfl, rfl, rfl, rfl, rfl⟩ rfl rfl rfl rfl rfl (by kernel_rfl) Try.func8 (by kernel_rfl)
    (of_decide_eq_true (by kernel_rfl)) (by unfold Func.isWrapper; first | (rw [if_pos (by decide +kernel)]; kernel_rfl) | (rw [if_neg (by decide +kernel)]; exact ⟨rfl, rfl⟩))
    (fun os started H enc _ => lifted os started H enc)
#print axioms proved
end Go.Proofs.Ythobkakmjgmpcaa.topkParts
