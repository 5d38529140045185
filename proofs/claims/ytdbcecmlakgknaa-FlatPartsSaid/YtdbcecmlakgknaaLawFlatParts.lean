/-
  Proved: the law FlatParts, of two masks together the first hits are the first of what is found through each, returns true for every arena, two masks and query, and leaves all memory as it was. No condition.
-/
import Derived.Test.YtdbcecmlakgknaaMFla
import Derived.Test.YtdbcecmlakgknaaFlaPart
import Derived.BigRegion
import Derived.Deep.Cut
namespace Go.Proofs.Ytdbcecmlakgknaa.flatParts
open Go.BigFrame Go.ChangeShapes Go.WideShapes Go.ChangeAt Go.RowKit
open MskL (Mk Fine hasB)
open TopL (HitM firstM isKM)
set_option linter.unusedVariables false
set_option linter.unusedSimpArgs false
set_option maxRecDepth 100000

set_option maxHeartbeats 8000000 in
theorem walk {w : World} (A : Option Addr) (c : Nat) (q : List Pa) (H : Are w A c q) (m n : Mk) (hm : Fine m) (hn : Fine n) (Av : Option Addr) (cv : Nat) (v : List Int) (kq : Int) (H2 : Vec .i32 w Av cv v) (wk : (Lit.int .i64 kq).wf = true) :
    Calls Try.prog 8 #[.agg #[.slice A q.length c], .agg #[.int .u64 m.1, .int .u64 m.2, .int .u64 n.1, .int .u64 n.2], .agg #[.slice Av v.length cv, .int .i64 kq]] w fun e w' => e = .returned (.bool true) ∧ Below w.heap.size w w' := by
  obtain ⟨W0, hW0⟩ : ∃ W0, W0 = ((w.alloc (.cells #[.slice A q.length c] 24)).alloc (.cells #[.int .u64 m.1, .int .u64 m.2, .int .u64 n.1, .int .u64 n.2] 77)).alloc (.cells #[.slice Av v.length cv, .int .i64 kq] 50) := ⟨_, rfl⟩
  have hb0 : Below w.heap.size w W0 := by rw [hW0]; exact (((Below.refl _ w).alloc (Nat.le_refl _) _).alloc (by simp) _).alloc (by simp; omega) _
  have hx0 : W0.heap[w.heap.size]? = some (.cells #[.slice A q.length c] 24 (0, 0)) := by
    rw [hW0]
    exact (Below.heap_alloc _ _ _ (by simp; omega)).trans ((Below.heap_alloc _ _ _ (by simp)).trans (heap_alloc_new w _))
  have hx1 : W0.heap[w.heap.size + 1]? = some (.cells #[.int .u64 m.1, .int .u64 m.2, .int .u64 n.1, .int .u64 n.2] 77 (0, 0)) := by
    rw [hW0]
    have h := heap_alloc_new (w.alloc (.cells #[.slice A q.length c] 24)) (.cells #[.int .u64 m.1, .int .u64 m.2, .int .u64 n.1, .int .u64 n.2] 77)
    rw [World.size_alloc] at h
    exact (Below.heap_alloc _ _ _ (by simp)).trans h
  have hx2 : W0.heap[w.heap.size + 2]? = some (.cells #[.slice Av v.length cv, .int .i64 kq] 50 (0, 0)) := by
    rw [hW0]
    have h := heap_alloc_new ((w.alloc (.cells #[.slice A q.length c] 24)).alloc (.cells #[.int .u64 m.1, .int .u64 m.2, .int .u64 n.1, .int .u64 n.2] 77)) (.cells #[.slice Av v.length cv, .int .i64 kq] 50)
    rw [World.size_alloc, World.size_alloc] at h; exact h
  have HW := Lib.hid hW0
  have HB0 := Lib.hid hb0
  have HX := Lib.hid (fun (X : World) (hX : Below W0.heap.size W0 X) => show (X.cell? ⟨w.heap.size, 0, none⟩ = some (.slice A q.length c) ∧ X.cell? ⟨w.heap.size + 2, 0, none⟩ = some (.slice Av v.length cv) ∧ X.cell? ⟨w.heap.size + 2, 1, none⟩ = some (.int .i64 kq)) ∧
      X.cell? ⟨w.heap.size + 1, 0, none⟩ = some (.int .u64 m.1) ∧ X.cell? ⟨w.heap.size + 1, 1, none⟩ = some (.int .u64 m.2) ∧ X.cell? ⟨w.heap.size + 1, 2, none⟩ = some (.int .u64 n.1) ∧ X.cell? ⟨w.heap.size + 1, 3, none⟩ = some (.int .u64 n.2) from by
    have X0 := (hX.block _ (lt_of_block hx0)).trans hx0
    have X1 := (hX.block _ (lt_of_block hx1)).trans hx1
    have X2 := (hX.block _ (lt_of_block hx2)).trans hx2
    exact ⟨⟨(cell_of_row _ _ 0 _ _ _ X0).trans rfl, (cell_of_row _ _ 0 _ _ _ X2).trans rfl, (cell_of_row _ _ 1 _ _ _ X2).trans rfl⟩, (cell_of_row _ _ 0 _ _ _ X1).trans rfl, (cell_of_row _ _ 1 _ _ _ X1).trans rfl, (cell_of_row _ _ 2 _ _ _ X1).trans rfl, (cell_of_row _ _ 3 _ _ _ X1).trans rfl⟩)
  have HWk := Lib.hid (wakes11_any W0)
  have HOv := Lib.hid (fun (X : World) (hX : Below W0.heap.size W0 X) => over11_any A c q X ((H.below hb0).below hX))
  obtain ⟨l, hl⟩ : ∃ l, l = ces q := ⟨_, rfl⟩
  obtain ⟨N, hN⟩ : ∃ N, N = mnM n m := ⟨_, rfl⟩
  obtain ⟨O, hO⟩ : ∃ O, O = orM11 m N := ⟨_, rfl⟩
  have hfN : Fine N := by rw [hN]; exact mn_fine hn
  have hfO : Fine O := by rw [hO]; exact or_fine hm hfN
  have HS := Lib.hid (fun (M : Mk) (hM : Fine M) (X : World) (hX : Below W0.heap.size W0 X) => scan_any v Av cv kq A c q M X ((H2.below hb0).below hX) ((H.below hb0).below hX) hM)
  rw [← hl] at HS HOv
  have HSO := Lib.hid (HS.out O hfO)
  have HSM := Lib.hid (HS.out m hm)
  have HSN := Lib.hid (HS.out N hfN)
  have HTw := Lib.hid (scan_two (kq := kq) (l := l) (f := fun (k : Nat) => hasB m (k : Int)) (g := fun (k : Nat) => hasB N (k : Int)) (h := fun (k : Nat) => hasB O (k : Int)) (v := v) (fun j hj => by
    rw [inB_has hj, inB_has hj, inB_has hj, hO, inB_or, hN, inB_mn hm (by omega)]
    cases inB m j <;> cases inB n j <;> simp))
  have HNo := Lib.hid (scan_none (kq := kq) (l := l) (f := fun (k : Nat) => hasB O (k : Int)) (v := v))
  have a1 := u64_andNot_nat n.1 m.1 hn.1 hm.1
  have a2 := u64_andNot_nat n.2 m.2 hn.2 hm.2
  have o1 := u64_or_nat m.1 N.1 hm.1 hfN.1
  have o2 := u64_or_nat m.2 N.2 hm.2 hfN.2
  rw [show (n.1 &&& (18446744073709551615 - m.1)) = N.1 from by rw [hN]; rfl] at a1
  rw [show (n.2 &&& (18446744073709551615 - m.2)) = N.2 from by rw [hN]; rfl] at a2
  rw [show (m.1 ||| N.1) = O.1 from by rw [hO]; rfl] at o1
  rw [show (m.2 ||| N.2) = O.2 from by rw [hO]; rfl] at o2
  obtain ⟨LO, hLO⟩ : ∃ L, L = scanL kq l (fun (k : Nat) => hasB O (k : Int)) v := ⟨_, rfl⟩
  obtain ⟨LM, hLM⟩ : ∃ L, L = scanL kq l (fun (k : Nat) => hasB m (k : Int)) v := ⟨_, rfl⟩
  obtain ⟨LN, hLN⟩ : ∃ L, L = scanL kq l (fun (k : Nat) => hasB N (k : Int)) v := ⟨_, rfl⟩
  obtain ⟨EO, hEO⟩ : ∃ L, L = scanE kq l (fun (k : Nat) => hasB O (k : Int)) v := ⟨_, rfl⟩
  obtain ⟨EM, hEM⟩ : ∃ L, L = scanE kq l (fun (k : Nat) => hasB m (k : Int)) v := ⟨_, rfl⟩
  obtain ⟨EN, hEN⟩ : ∃ L, L = scanE kq l (fun (k : Nat) => hasB N (k : Int)) v := ⟨_, rfl⟩
  rw [← hLO, ← hEO] at HSO HNo
  rw [← hLM, ← hEM] at HSM
  rw [← hLN, ← hEN] at HSN
  rw [← hLO, ← hLM, ← hLN, ← hEO, ← hEM, ← hEN] at HTw
  generalize q.length = nq at *
  generalize v.length = nv at *
  clear HS hl hN hO hLO hLM hLN hEO hEM hEN hW0 hb0 hx0 hx1 hx2 H H2 hfN hfO hm hn wk
  obtain ⟨m0, m1⟩ := m
  obtain ⟨n0, n1⟩ := n
  obtain ⟨N0, N1⟩ := N
  obtain ⟨O0, O1⟩ := O
  cases hov : overB l with
  | true =>
    rw [hov] at HOv
    clear hov
    go_enter Try.func8, Try.ntmps8
    go_wp2_with fail
    rw [← HW.out]
    refine HWk.out.mono ?_
    rintro e w1 ⟨rfl, hb1⟩
    have HB1 := Lib.hid hb1
    have HO1 := Lib.hid (HOv.out w1 hb1)
    obtain ⟨⟨e0, -, -⟩, -⟩ := HX.out w1 hb1
    clear hb1
    go_wp2_with fail
    refine HO1.out.mono ?_
    rintro e w2 ⟨rfl, hb2⟩
    have HB2 := Lib.hid (HB1.out.trans (hb2.mono HB1.out.size))
    clear hb2
    go_wp2
    go_ret
    exact ⟨rfl, HB0.out.trans (HB2.out.mono HB0.out.size)⟩
  | false =>
    rw [hov] at HOv
    clear hov
    by_cases h50 : 50 < nv
    · have t50 : decide ((50 : Int) < nv) = true := by simp; omega
      clear h50
      go_enter Try.func8, Try.ntmps8
      go_wp2_with fail
      rw [← HW.out]
      refine HWk.out.mono ?_
      rintro e w1 ⟨rfl, hb1⟩
      have HB1 := Lib.hid hb1
      have HO1 := Lib.hid (HOv.out w1 hb1)
      obtain ⟨⟨e0, -, -⟩, -⟩ := HX.out w1 hb1
      clear hb1
      go_wp2_with fail
      refine HO1.out.mono ?_
      rintro e w2 ⟨rfl, hb2⟩
      have HB2 := Lib.hid (HB1.out.trans (hb2.mono HB1.out.size))
      obtain ⟨⟨e0, e1, -⟩, -⟩ := HX.out w2 HB2.out
      clear hb2
      go_wp2
      go_ret
      exact ⟨rfl, HB0.out.trans (HB2.out.mono HB0.out.size)⟩
    · have t50 : decide ((50 : Int) < nv) = false := by simp; omega
      clear h50
      go_enter Try.func8, Try.ntmps8
      go_wp2_with fail
      rw [← HW.out]
      refine HWk.out.mono ?_
      rintro e w1 ⟨rfl, hb1⟩
      have HB1 := Lib.hid hb1
      have HO1 := Lib.hid (HOv.out w1 hb1)
      obtain ⟨⟨e0, -, -⟩, -⟩ := HX.out w1 hb1
      clear hb1
      go_wp2_with fail
      refine HO1.out.mono ?_
      rintro e w2 ⟨rfl, hb2⟩
      have HB2 := Lib.hid (HB1.out.trans (hb2.mono HB1.out.size))
      obtain ⟨⟨e0, e1, e2⟩, x0, x1, x2, x3⟩ := HX.out w2 HB2.out
      clear hb2
      go_wp2
      go_region_held3 (fun X => X.cell? ⟨w.heap.size + 1, 0, none⟩ = some (.int .u64 m0) ∧ X.cell? ⟨w.heap.size + 1, 1, none⟩ = some (.int .u64 m1) ∧ X.cell? ⟨w.heap.size + 1, 2, none⟩ = some (.int .u64 n0) ∧ X.cell? ⟨w.heap.size + 1, 3, none⟩ = some (.int .u64 n1))
        (first | (with_reducible assumption) | (exact (HX.out _ (by (repeat (first | (with_reducible exact HB2.out) | (refine Below.alloc ?_ (by have := HB2.out.size; simp; omega) _) | (refine Below.setCell ?_ (by have := HB2.out.size; simp; omega) _) | (refine below_drew ?_))))).2))
        (fail)
      · obtain ⟨X, hXe⟩ : ∃ X, X = ((w2.alloc (.cells #[.int .u64 m0, .int .u64 m1] 48)).alloc (.cells #[.int .u64 N0, .int .u64 N1] 48)).drew := ⟨_, rfl⟩
        have hb : Below w2.heap.size w2 X := by rw [hXe]; exact below_drew (((Below.refl _ w2).alloc (Nat.le_refl _) _).alloc (by simp) _)
        have y7 : X.heap[w2.heap.size]? = some (.cells #[.int .u64 m0, .int .u64 m1] 48 (0, 0)) := by rw [hXe]; exact (Below.heap_alloc _ _ _ (by simp)).trans (heap_alloc_new _ _)
        have y8 : X.heap[w2.heap.size + 1]? = some (.cells #[.int .u64 N0, .int .u64 N1] 48 (0, 0)) := by
          rw [hXe]; have h := heap_alloc_new (w2.alloc (.cells #[.int .u64 m0, .int .u64 m1] 48)) (.cells #[.int .u64 N0, .int .u64 N1] 48); rw [World.size_alloc] at h; exact h
        rw [← hXe]
        obtain ⟨g8, hg8⟩ : ∃ g, g = w2.heap.size + 1 := ⟨_, rfl⟩
        rw [← hg8] at y8 ⊢
        obtain ⟨g7, hg7⟩ : ∃ g, g = w2.heap.size := ⟨_, rfl⟩
        rw [← hg7] at y7 ⊢
        have HBX := Lib.hid (HB2.out.trans (hb.mono HB2.out.size))
        have HC := Lib.hid (fun (Y : World) (hY : Below X.heap.size X Y) => show (Y.cell? ⟨g7, 0, none⟩ = some (.int .u64 m0) ∧ Y.cell? ⟨g7, 1, none⟩ = some (.int .u64 m1)) ∧ Y.cell? ⟨g8, 0, none⟩ = some (.int .u64 N0) ∧ Y.cell? ⟨g8, 1, none⟩ = some (.int .u64 N1) from by
          have Y7 := (hY.block _ (lt_of_block y7)).trans y7
          have Y8 := (hY.block _ (lt_of_block y8)).trans y8
          exact ⟨⟨(cell_of_row _ _ 0 _ _ _ Y7).trans rfl, (cell_of_row _ _ 1 _ _ _ Y7).trans rfl⟩, (cell_of_row _ _ 0 _ _ _ Y8).trans rfl, (cell_of_row _ _ 1 _ _ _ Y8).trans rfl⟩)
        clear hb y7 y8 hXe hg7 hg8 e0 e1 e2 x0 x1 x2 x3
        obtain ⟨⟨e0, e1, e2⟩, -⟩ := HX.out X HBX.out
        obtain ⟨⟨c0, c1⟩, c2, c3⟩ := HC.out X (Below.refl _ _)
        go_wp2_with fail
        refine (HSO.out X HBX.out).mono ?_
        rintro e w6 ⟨A6, c6, rfl, ho6, hb6⟩
        have HB6 := Lib.hid hb6
        have HB06 := Lib.hid (HBX.out.trans (hb6.mono HBX.out.size))
        have HO6 := Lib.hid ho6
        clear hb6 ho6 e0 e1 e2 c0 c1 c2 c3
        by_cases hEO : EO = 0
        · subst hEO
          obtain ⟨t1, t2, t3, t4, t5, t6⟩ := HTw.out rfl
          have HT := Lib.hid (And.intro t3 (And.intro t4 (And.intro t5 t6)))
          rw [t1] at HSM
          rw [t2] at HSN
          clear t1 t2 t3 t4 t5 t6 HTw HNo
          obtain ⟨⟨e0, e1, e2⟩, -⟩ := HX.out w6 HB06.out
          obtain ⟨⟨c0, c1⟩, c2, c3⟩ := HC.out w6 HB6.out
          generalize hlO : LO.length = nO at *
          have HlO := Lib.hid hlO
          clear hlO
          go_wp2_with fail
          refine (HSM.out w6 HB06.out).mono ?_
          rintro e w7 ⟨A7, c7, rfl, ho7, hb7⟩
          have HB7 := Lib.hid (HB6.out.trans (hb7.mono HB6.out.size))
          have HB07 := Lib.hid (HB06.out.trans (hb7.mono HB06.out.size))
          have HO7 := Lib.hid ho7
          have HO67 := Lib.hid (OwnH.below HO6.out hb7)
          clear hb7 ho7 e0 e1 e2 c0 c1 c2 c3
          obtain ⟨⟨e0, e1, e2⟩, -⟩ := HX.out w7 HB07.out
          obtain ⟨⟨c0, c1⟩, c2, c3⟩ := HC.out w7 HB7.out
          go_wp2_with fail
          refine (HSN.out w7 HB07.out).mono ?_
          rintro e w8 ⟨A8, c8, rfl, ho8, hb8⟩
          have HB08 := Lib.hid (HB07.out.trans (hb8.mono HB07.out.size))
          have HO8 := Lib.hid ho8
          have HO78 := Lib.hid (OwnH.below HO7.out hb8)
          have HO68 := Lib.hid (OwnH.below HO67.out hb8)
          clear hb8 ho8 e0 e1 e2 c0 c1 c2 c3
          obtain ⟨⟨e0, e1, e2⟩, -⟩ := HX.out w8 HB08.out
          obtain ⟨V, hV⟩ : ∃ V, V = w8.alloc (.cells #[.slice A7 LM.length c7, .slice A8 LN.length c8] 51) := ⟨_, rfl⟩
          have hbV : Below w8.heap.size w8 V := by rw [hV]; exact (Below.refl _ _).alloc (Nat.le_refl _) _
          have hRw : TopL.Rows V (some ⟨w8.heap.size, 0, none⟩) 2 [LM, LN] := TopL.rows_two (by rw [hV]; exact cell_laid _ _ _ 0) (by rw [hV]; exact cell_laid _ _ _ 1) ((HO78.out.hits).below hbV) ((HO8.out.hits).below hbV)
          have hsum : TopL.sumL [LM, LN] ≤ 2000 := by have := HT.out.2.1; have := HT.out.2.2.1; simp [TopL.sumL]; omega
          have hMg := TopL.merge_any kq _ 2 [LM, LN] V hRw (by omega)
          obtain ⟨r1, r2⟩ := TopL.merge_ok (ls := [LM, LN]) HT.out.1 (by omega)
          rw [r1, r2, show [LM, LN].flatten = LM ++ LN by simp, ← HT.out.2.2.2] at hMg
          have HMg := Lib.hid hMg
          have HO6V := Lib.hid (OwnH.below HO68.out hbV)
          have HBV := Lib.hid (HB08.out.trans (hbV.mono HB08.out.size))
          have HV := Lib.hid hV
          clear hRw hsum hMg r1 r2 hbV hV
          go_wp2_with fail
          rw [← HV.out]
          refine HMg.out.mono ?_
          rintro e w9 ⟨A9, c9, rfl, ho9, hb9⟩
          have HO9 := Lib.hid (show OwnH V.heap.size w9 A9 c9 LO from ho9)
          have HO69 := Lib.hid (OwnH.below HO6V.out hb9)
          have HB9 := Lib.hid (HBV.out.trans (hb9.mono HBV.out.size))
          have hEq := TopL.equal_any A6 A9 c6 c9 LO LO w9 HO69.out.hits HO9.out.hits
          rw [decide_eq_true (rfl : LO = LO)] at hEq
          have HEq := Lib.hid hEq
          rw [HlO.out] at HEq ⊢
          clear ho9 hb9 hEq e0 e1 e2
          go_wp2_with fail
          refine HEq.out.mono ?_
          rintro e w10 ⟨rfl, hb10⟩
          have HB10 := Lib.hid (HB9.out.trans (hb10.mono HB9.out.size))
          clear hb10
          go_wp2
          go_ret
          exact ⟨rfl, HB0.out.trans (HB10.out.mono HB0.out.size)⟩
        · have hL0 := HNo.out hEO
          subst hL0
          have t1 : (EO != 0) = true := by simpa using hEO
          clear hEO HTw
          go_wp2
          go_ret
          exact ⟨rfl, HB0.out.trans (HB06.out.mono HB0.out.size)⟩
      · obtain ⟨X, hXe⟩ : ∃ X, X = ((w2.alloc (.cells #[.int .u64 N0, .int .u64 N1] 48)).alloc (.cells #[.int .u64 m0, .int .u64 m1] 48)).drew := ⟨_, rfl⟩
        have hb : Below w2.heap.size w2 X := by rw [hXe]; exact below_drew (((Below.refl _ w2).alloc (Nat.le_refl _) _).alloc (by simp) _)
        have y8 : X.heap[w2.heap.size]? = some (.cells #[.int .u64 N0, .int .u64 N1] 48 (0, 0)) := by rw [hXe]; exact (Below.heap_alloc _ _ _ (by simp)).trans (heap_alloc_new _ _)
        have y7 : X.heap[w2.heap.size + 1]? = some (.cells #[.int .u64 m0, .int .u64 m1] 48 (0, 0)) := by
          rw [hXe]; have h := heap_alloc_new (w2.alloc (.cells #[.int .u64 N0, .int .u64 N1] 48)) (.cells #[.int .u64 m0, .int .u64 m1] 48); rw [World.size_alloc] at h; exact h
        rw [← hXe]
        obtain ⟨g7, hg7⟩ : ∃ g, g = w2.heap.size + 1 := ⟨_, rfl⟩
        rw [← hg7] at y7 ⊢
        obtain ⟨g8, hg8⟩ : ∃ g, g = w2.heap.size := ⟨_, rfl⟩
        rw [← hg8] at y8 ⊢
        have HBX := Lib.hid (HB2.out.trans (hb.mono HB2.out.size))
        have HC := Lib.hid (fun (Y : World) (hY : Below X.heap.size X Y) => show (Y.cell? ⟨g7, 0, none⟩ = some (.int .u64 m0) ∧ Y.cell? ⟨g7, 1, none⟩ = some (.int .u64 m1)) ∧ Y.cell? ⟨g8, 0, none⟩ = some (.int .u64 N0) ∧ Y.cell? ⟨g8, 1, none⟩ = some (.int .u64 N1) from by
          have Y7 := (hY.block _ (lt_of_block y7)).trans y7
          have Y8 := (hY.block _ (lt_of_block y8)).trans y8
          exact ⟨⟨(cell_of_row _ _ 0 _ _ _ Y7).trans rfl, (cell_of_row _ _ 1 _ _ _ Y7).trans rfl⟩, (cell_of_row _ _ 0 _ _ _ Y8).trans rfl, (cell_of_row _ _ 1 _ _ _ Y8).trans rfl⟩)
        clear hb y7 y8 hXe hg7 hg8 e0 e1 e2 x0 x1 x2 x3
        obtain ⟨⟨e0, e1, e2⟩, -⟩ := HX.out X HBX.out
        obtain ⟨⟨c0, c1⟩, c2, c3⟩ := HC.out X (Below.refl _ _)
        go_wp2_with fail
        refine (HSO.out X HBX.out).mono ?_
        rintro e w6 ⟨A6, c6, rfl, ho6, hb6⟩
        have HB6 := Lib.hid hb6
        have HB06 := Lib.hid (HBX.out.trans (hb6.mono HBX.out.size))
        have HO6 := Lib.hid ho6
        clear hb6 ho6 e0 e1 e2 c0 c1 c2 c3
        by_cases hEO : EO = 0
        · subst hEO
          obtain ⟨t1, t2, t3, t4, t5, t6⟩ := HTw.out rfl
          have HT := Lib.hid (And.intro t3 (And.intro t4 (And.intro t5 t6)))
          rw [t1] at HSM
          rw [t2] at HSN
          clear t1 t2 t3 t4 t5 t6 HTw HNo
          obtain ⟨⟨e0, e1, e2⟩, -⟩ := HX.out w6 HB06.out
          obtain ⟨⟨c0, c1⟩, c2, c3⟩ := HC.out w6 HB6.out
          generalize hlO : LO.length = nO at *
          have HlO := Lib.hid hlO
          clear hlO
          go_wp2_with fail
          refine (HSM.out w6 HB06.out).mono ?_
          rintro e w7 ⟨A7, c7, rfl, ho7, hb7⟩
          have HB7 := Lib.hid (HB6.out.trans (hb7.mono HB6.out.size))
          have HB07 := Lib.hid (HB06.out.trans (hb7.mono HB06.out.size))
          have HO7 := Lib.hid ho7
          have HO67 := Lib.hid (OwnH.below HO6.out hb7)
          clear hb7 ho7 e0 e1 e2 c0 c1 c2 c3
          obtain ⟨⟨e0, e1, e2⟩, -⟩ := HX.out w7 HB07.out
          obtain ⟨⟨c0, c1⟩, c2, c3⟩ := HC.out w7 HB7.out
          go_wp2_with fail
          refine (HSN.out w7 HB07.out).mono ?_
          rintro e w8 ⟨A8, c8, rfl, ho8, hb8⟩
          have HB08 := Lib.hid (HB07.out.trans (hb8.mono HB07.out.size))
          have HO8 := Lib.hid ho8
          have HO78 := Lib.hid (OwnH.below HO7.out hb8)
          have HO68 := Lib.hid (OwnH.below HO67.out hb8)
          clear hb8 ho8 e0 e1 e2 c0 c1 c2 c3
          obtain ⟨⟨e0, e1, e2⟩, -⟩ := HX.out w8 HB08.out
          obtain ⟨V, hV⟩ : ∃ V, V = w8.alloc (.cells #[.slice A7 LM.length c7, .slice A8 LN.length c8] 51) := ⟨_, rfl⟩
          have hbV : Below w8.heap.size w8 V := by rw [hV]; exact (Below.refl _ _).alloc (Nat.le_refl _) _
          have hRw : TopL.Rows V (some ⟨w8.heap.size, 0, none⟩) 2 [LM, LN] := TopL.rows_two (by rw [hV]; exact cell_laid _ _ _ 0) (by rw [hV]; exact cell_laid _ _ _ 1) ((HO78.out.hits).below hbV) ((HO8.out.hits).below hbV)
          have hsum : TopL.sumL [LM, LN] ≤ 2000 := by have := HT.out.2.1; have := HT.out.2.2.1; simp [TopL.sumL]; omega
          have hMg := TopL.merge_any kq _ 2 [LM, LN] V hRw (by omega)
          obtain ⟨r1, r2⟩ := TopL.merge_ok (ls := [LM, LN]) HT.out.1 (by omega)
          rw [r1, r2, show [LM, LN].flatten = LM ++ LN by simp, ← HT.out.2.2.2] at hMg
          have HMg := Lib.hid hMg
          have HO6V := Lib.hid (OwnH.below HO68.out hbV)
          have HBV := Lib.hid (HB08.out.trans (hbV.mono HB08.out.size))
          have HV := Lib.hid hV
          clear hRw hsum hMg r1 r2 hbV hV
          go_wp2_with fail
          rw [← HV.out]
          refine HMg.out.mono ?_
          rintro e w9 ⟨A9, c9, rfl, ho9, hb9⟩
          have HO9 := Lib.hid (show OwnH V.heap.size w9 A9 c9 LO from ho9)
          have HO69 := Lib.hid (OwnH.below HO6V.out hb9)
          have HB9 := Lib.hid (HBV.out.trans (hb9.mono HBV.out.size))
          have hEq := TopL.equal_any A6 A9 c6 c9 LO LO w9 HO69.out.hits HO9.out.hits
          rw [decide_eq_true (rfl : LO = LO)] at hEq
          have HEq := Lib.hid hEq
          rw [HlO.out] at HEq ⊢
          clear ho9 hb9 hEq e0 e1 e2
          go_wp2_with fail
          refine HEq.out.mono ?_
          rintro e w10 ⟨rfl, hb10⟩
          have HB10 := Lib.hid (HB9.out.trans (hb10.mono HB9.out.size))
          clear hb10
          go_wp2
          go_ret
          exact ⟨rfl, HB0.out.trans (HB10.out.mono HB0.out.size)⟩
        · have hL0 := HNo.out hEO
          subst hL0
          have t1 : (EO != 0) = true := by simpa using hEO
          clear hEO HTw
          go_wp2
          go_ret
          exact ⟨rfl, HB0.out.trans (HB06.out.mono HB0.out.size)⟩

set_option maxRecDepth 100000 in
theorem lifted (os : Os) (started : os.Started) (H : Type) (enc : TypeId × Value → H) :
    ReturnsInHanded {} Try.checked os 8 .any (Rows.flatPartsSpec.pre6 enc Try.prog Try.f8 Rows.flatPartsRow.domain false) (Rows.flatPartsSpec.post enc Try.prog Try.f8 false true false false) := by
  refine returnsInHanded_of_change (C := Try.checked) Try.own started (by kernel_rfl) Try.func8
    (ChangeSpec.witness6 (enc := enc) (C := Try.checked) false ⟨#[], #[.agg #[.slice none 0 0], .agg #[.int .u64 0, .int .u64 0, .int .u64 0, .int .u64 0], .agg #[.slice none 0 0, .int .i64 0]], []⟩ 8 (by kernel_rfl) (by kernel_rfl) (by kernel_rfl) (by kernel_rfl)) ?_
  intro W base args ds gs before hval0 hW hcnd _
  have hval : ∀ (j : Nat) t v, Try.f8.params[j]? = some t → args[j]? = some v → Value.okWide Try.prog W .any base t v := hval0
  have hW' := hW
  obtain ⟨p, q, hA0, hV, rfl, hfz, hnd⟩ := hW
  have hA : DataW.TrodAll enc Try.prog W 0 (fun _ => true) true Try.f8.params.toList args.toList ds p := hA0
  rw [Try.params8] at hA hval
  have hA' := hA
  obtain ⟨v0, vs0, d0, ds0, p0, q0, hargs, rfl, rfl, h0, r0⟩ := trodAll_cons hA
  obtain ⟨v1, vs1, d1, ds1, p1, q1, rfl, rfl, rfl, h1, r1⟩ := trodAll_cons r0
  obtain ⟨v2, vs2, d2, ds2, p2, q2, rfl, rfl, rfl, h2, r2⟩ := trodAll_cons r1
  obtain ⟨rfl, rfl, rfl⟩ := trodAll_nil r2
  obtain rfl : args = #[v0, v1, v2] := by cases args; simp_all
  obtain ⟨rfl, rfl⟩ := trodVars_none hV
  obtain ⟨A0, c0, z0, rfl, sl0⟩ := open_arena (hval 0 24 v0 rfl rfl) h0
  obtain ⟨m1, n1, rfl, sl1, sm1⟩ := open_two (hval 1 77 v1 rfl rfl) h1
  obtain ⟨A2, c2, z2, k2, rfl, sl2, wk2⟩ := open_query (hval 2 50 v2 rfl rfl) h2
  clear hA0 hval0
  refine (walk A0 c0 z0 sl0 m1 n1 sl1 sm1 A2 c2 z2 k2 sl2 wk2).mono fun e W' ⟨he, bel⟩ => ?_
  subst he
  exact ⟨_, rfl, _, _, _, [], _, [], hW', trodAll_mk1 (shut_bool Try.underlying4 _), trodAll_below bel _ _ _ _ (by kernel_rfl) hA', rfl, bel.frame _, fun h => by cases h⟩

theorem proved : Rows.FlatPartsSaid :=
  OpenClaim.holds_of_wide 8 Try.f8 rfl rfl rfl rfl rfl rfl rfl ⟨rfl, rfl, rfl, rfl, rfl⟩ rfl rfl rfl rfl rfl (by kernel_rfl) Try.func8 (by kernel_rfl)
    (of_decide_eq_true (by kernel_rfl)) (by unfold Func.isWrapper; first | (rw [if_pos (by decide +kernel)]; kernel_rfl) | (rw [if_neg (by decide +kernel)]; exact ⟨rfl, rfl⟩))
    (fun os started H enc _ => lifted os started H enc)
#print axioms proved
end Go.Proofs.Ytdbcecmlakgknaa.flatParts
