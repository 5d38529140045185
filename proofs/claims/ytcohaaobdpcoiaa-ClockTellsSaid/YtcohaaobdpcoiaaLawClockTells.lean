/-
  Proved: the law ClockTells, which clocks may be, how they tick, and the next timestamp, is as the document says, or it is refused, returns true for every clock and tick, and leaves all memory as it was. No condition.
-/
import Derived.Test.YtcohaaobdpcoiaaLawFrame
namespace Go.Proofs.Ytcohaaobdpcoiaa.clockTells
open Go.ChangeShapes Go.WideShapes Go.ChangeAt Go.RowKit
set_option linter.unusedVariables false
set_option linter.unusedSimpArgs false
set_option maxRecDepth 100000

set_option maxHeartbeats 4000000 in
theorem walk {w : World} (N L : Int) (hN : U6 N) (hL : U6 L) (x : Int) (wx : (Lit.int .i64 x).wf = true) :
    Calls Try.prog 3 #[.agg #[.int .u64 N, .int .u64 L], .int .i64 x] w fun e w' => e = .returned (.bool true) ∧ Below w.heap.size w w' := by
  obtain ⟨W0, hW0⟩ : ∃ W0, W0 = w.alloc (.cells #[.int .u64 N, .int .u64 L] 24) := ⟨_, rfl⟩
  have hb0 : Below w.heap.size w W0 := by rw [hW0]; exact bel1 _ _
  have hc0 : CB W0 w.heap.size N L := by rw [hW0]; exact CB.new _ _ _
  have HW := Lib.hid hW0
  have HB0 := Lib.hid hb0
  have HC0 := Lib.hid hc0
  have hxb := i64_fit wx
  have hC := fun (X : World) => check_any N L X hN hL
  have hT := fun (X : World) => tick_any N L x X hN hL hxb
  have hX := fun (X : World) => next_any N L X hN hL
  have hK := fun (X : World) => take_any N L X hN hL
  have hO := fun (X : World) => opened_any L X hL
  have hR := fun (X : World) => rRight_any N L X hN hL
  have e1 : chkC N L = if okC N L = true then 0 else 250 := rfl
  have e2 : nxE N L = if okC N L = true then (if nxB N L = true then 0 else 251) else 250 := rfl
  have e3 : nxV N L = if nxE N L = 0 then nxT N L else 0 := rfl
  have e4 : tkN N L = if nxE N L = 0 then N else 0 := rfl
  have e5 : tkL N L = if nxE N L = 0 then nxT N L else 0 := rfl
  have e6 : opN L = if L ≤ 1099511627776 then L else 0 := rfl
  have e7 : opE L = if L ≤ 1099511627776 then 0 else 250 := rfl
  have hq := eqC
  have bz := bldZ
  have bc := bldC
  by_cases hl : L ≤ 1099511627776
  · rw [if_pos hl] at e6 e7
    rw [e6, e7] at hO
    have t0 : decide (1099511627776 < L) = false := by simp; omega
    cases hok : okC N L with
    | false =>
      have q1 : (L == L) = true := by simp
      rw [hok, if_neg (by simp)] at e1 e2
      rw [e2, if_neg (by decide)] at e3 e4 e5
      rw [e1] at hC hT
      rw [hok, if_neg (by simp), if_neg (by simp)] at hT
      rw [e3, e2] at hX hK
      rw [e4, e5] at hK
      rw [hok] at hR
      have HC := Lib.hid hC
      have HT := Lib.hid hT
      have HX := Lib.hid hX
      have HK := Lib.hid hK
      have HO := Lib.hid hO
      have HR := Lib.hid hR
      clear hC hT hX hK hO hR e1 e2 e3 e4 e5 e6 e7 hb0 hc0 hW0 hN hL wx hxb
      go_enter Try.func3, Try.ntmps3
      go_wp2_with (rw [← HW.out])
      refine (wakes_any _).mono ?_
      rintro e w1 ⟨rfl, hb1⟩
      have g0 := HC0.out.below hb1
      have c0 := g0.c0
      have c1 := g0.c1
      have H1 := Lib.hid (And.intro (HB0.out.trans (hb1.mono HB0.out.size)) g0)
      clear hb1 g0
      go_wp2_with fail
      refine (HC.out _).mono ?_
      rintro e w2 ⟨rfl, hb⟩
      obtain ⟨hbw, g0⟩ := H1.out
      have g0 := g0.below hb
      have hbw := hbw.trans (hb.mono hbw.size)
      have g0a := g0.c0
      have g0b := g0.c1
      clear c0 c1
      have H2 := Lib.hid (And.intro hbw g0)
      clear hb hbw g0
      go_wp2_with fail
      refine (HT.out _).mono ?_
      rintro e w3 ⟨rfl, hb⟩
      obtain ⟨hbw, g0⟩ := H2.out
      have hn := CB.new w3 0 0
      have hb := below_tr hb (bel1 w3 (.cells #[.int .u64 0, .int .u64 0] 24))
      have g0 := g0.below hb
      have g3 := hn
      have hbw := hbw.trans (hb.mono hbw.size)
      have g0a := g0.c0
      have g0b := g0.c1
      have g3a := g3.c0
      have g3b := g3.c1
      have H3 := Lib.hid (And.intro hbw (And.intro g0 g3))
      clear hb hbw g0 g3
      go_wp2_with fail
      refine (HX.out _).mono ?_
      rintro e w4 ⟨rfl, hb⟩
      obtain ⟨hbw, g0, g3⟩ := H3.out
      have g0 := g0.below hb
      have g3 := g3.below hb
      have hbw := hbw.trans (hb.mono hbw.size)
      have g0a := g0.c0
      have g0b := g0.c1
      have g3a := g3.c0
      have g3b := g3.c1
      have H4 := Lib.hid (And.intro hbw (And.intro g0 g3))
      clear hb hbw g0 g3
      go_wp2_with fail
      refine (HK.out _).mono ?_
      rintro e w5 ⟨rfl, hb⟩
      obtain ⟨hbw, g0, g3⟩ := H4.out
      have hn := CB.new w5 0 0
      have hb := below_tr hb (bel1 w5 (.cells #[.int .u64 0, .int .u64 0] 24))
      have g0 := g0.below hb
      have g3 := g3.below hb
      have g5 := hn
      have hbw := hbw.trans (hb.mono hbw.size)
      have g0a := g0.c0
      have g0b := g0.c1
      have g3a := g3.c0
      have g3b := g3.c1
      have g5a := g5.c0
      have g5b := g5.c1
      have H5 := Lib.hid (And.intro hbw (And.intro g0 (And.intro g3 g5)))
      clear hb hbw g0 g3 g5
      go_wp2_with fail
      refine (HO.out _).mono ?_
      rintro e w6 ⟨rfl, hb⟩
      obtain ⟨hbw, g0, g3, g5⟩ := H5.out
      have hn := CB.new w6 L L
      have hb := below_tr hb (bel1 w6 (.cells #[.int .u64 L, .int .u64 L] 24))
      have g0 := g0.below hb
      have g3 := g3.below hb
      have g5 := g5.below hb
      have g6 := hn
      have hbw := hbw.trans (hb.mono hbw.size)
      have g0a := g0.c0
      have g0b := g0.c1
      have g3a := g3.c0
      have g3b := g3.c1
      have g5a := g5.c0
      have g5b := g5.c1
      have g6a := g6.c0
      have g6b := g6.c1
      have H6 := Lib.hid (And.intro hbw (And.intro g0 (And.intro g3 (And.intro g5 g6))))
      clear hb hbw g0 g3 g5 g6
      go_wp2_with fail
      refine (HR.out _).mono ?_
      rintro e w7 ⟨rfl, hb⟩
      obtain ⟨hbw, g0, g3, g5, g6⟩ := H6.out
      have g0 := g0.below hb
      have g3 := g3.below hb
      have g5 := g5.below hb
      have g6 := g6.below hb
      have hbw := hbw.trans (hb.mono hbw.size)
      have g0a := g0.c0
      have g0b := g0.c1
      have g3a := g3.c0
      have g3b := g3.c1
      have g5a := g5.c0
      have g5b := g5.c1
      have g6a := g6.c0
      have g6b := g6.c1
      have H7 := Lib.hid (And.intro hbw (And.intro g0 (And.intro g3 (And.intro g5 g6))))
      clear hb hbw g0 g3 g5 g6
      go_wp2
      go_ret
      exact ⟨by simp, H7.out.1⟩
    | true =>
      rw [hok, if_pos rfl] at e1 e2
      rw [e1] at hC hT
      rw [hok, if_pos rfl, if_pos rfl] at hT
      rw [hok] at hR
      have q1 : (L == L) = true := by simp
      have qn : (N == N) = true := by simp
      have hRt : Rt (N, L) := ⟨hN.1, (okC_iff.1 hok).1, hL.1, hl⟩
      have HRT := Lib.hid (fun (X : World) => rTick_any N L x X hRt.n0 hRt.n1 hxb)
      have HRN := Lib.hid (fun (X : World) => rNext_any N L X hN hRt.l0 hRt.l1)
      generalize tickN N x = T at *
      have qT : (T == T) = true := by simp
      have qT2 : (T != T) = false := by simp
      cases hnb : nxB N L with
      | true =>
        rw [hnb, if_pos rfl] at e2
        rw [e2, if_pos rfl] at e3 e4 e5
        generalize nxT N L = V at *
        have qV : (V == V) = true := by simp
        rw [e3, e2] at hX hK
        rw [e4, e5] at hK
        rw [hnb] at HRN
        have HC := Lib.hid hC
        have HT := Lib.hid hT
        have HX := Lib.hid hX
        have HK := Lib.hid hK
        have HO := Lib.hid hO
        have HR := Lib.hid hR
        clear hC hT hX hK hO hR e1 e2 e3 e4 e5 e6 e7 hb0 hc0 hW0 hN hL wx hxb hRt hok hnb
        go_enter Try.func3, Try.ntmps3
        go_wp2_with (rw [← HW.out])
        refine (wakes_any _).mono ?_
        rintro e w1 ⟨rfl, hb1⟩
        have g0 := HC0.out.below hb1
        have c0 := g0.c0
        have c1 := g0.c1
        have H1 := Lib.hid (And.intro (HB0.out.trans (hb1.mono HB0.out.size)) g0)
        clear hb1 g0
        go_wp2_with fail
        refine (HC.out _).mono ?_
        rintro e w2 ⟨rfl, hb⟩
        obtain ⟨hbw, g0⟩ := H1.out
        have g0 := g0.below hb
        have hbw := hbw.trans (hb.mono hbw.size)
        have g0a := g0.c0
        have g0b := g0.c1
        clear c0 c1
        have H2 := Lib.hid (And.intro hbw g0)
        clear hb hbw g0
        go_wp2_with fail
        refine (HT.out _).mono ?_
        rintro e w3 ⟨rfl, hb⟩
        obtain ⟨hbw, g0⟩ := H2.out
        have hn := CB.new w3 T L
        have hb := below_tr hb (bel1 w3 (.cells #[.int .u64 T, .int .u64 L] 24))
        have g0 := g0.below hb
        have g3 := hn
        have hbw := hbw.trans (hb.mono hbw.size)
        have g0a := g0.c0
        have g0b := g0.c1
        have g3a := g3.c0
        have g3b := g3.c1
        have H3 := Lib.hid (And.intro hbw (And.intro g0 g3))
        clear hb hbw g0 g3
        go_wp2_with fail
        refine (HX.out _).mono ?_
        rintro e w4 ⟨rfl, hb⟩
        obtain ⟨hbw, g0, g3⟩ := H3.out
        have g0 := g0.below hb
        have g3 := g3.below hb
        have hbw := hbw.trans (hb.mono hbw.size)
        have g0a := g0.c0
        have g0b := g0.c1
        have g3a := g3.c0
        have g3b := g3.c1
        have H4 := Lib.hid (And.intro hbw (And.intro g0 g3))
        clear hb hbw g0 g3
        go_wp2_with fail
        refine (HK.out _).mono ?_
        rintro e w5 ⟨rfl, hb⟩
        obtain ⟨hbw, g0, g3⟩ := H4.out
        have hn := CB.new w5 N V
        have hb := below_tr hb (bel1 w5 (.cells #[.int .u64 N, .int .u64 V] 24))
        have g0 := g0.below hb
        have g3 := g3.below hb
        have g5 := hn
        have hbw := hbw.trans (hb.mono hbw.size)
        have g0a := g0.c0
        have g0b := g0.c1
        have g3a := g3.c0
        have g3b := g3.c1
        have g5a := g5.c0
        have g5b := g5.c1
        have H5 := Lib.hid (And.intro hbw (And.intro g0 (And.intro g3 g5)))
        clear hb hbw g0 g3 g5
        go_wp2_with fail
        refine (HO.out _).mono ?_
        rintro e w6 ⟨rfl, hb⟩
        obtain ⟨hbw, g0, g3, g5⟩ := H5.out
        have hn := CB.new w6 L L
        have hb := below_tr hb (bel1 w6 (.cells #[.int .u64 L, .int .u64 L] 24))
        have g0 := g0.below hb
        have g3 := g3.below hb
        have g5 := g5.below hb
        have g6 := hn
        have hbw := hbw.trans (hb.mono hbw.size)
        have g0a := g0.c0
        have g0b := g0.c1
        have g3a := g3.c0
        have g3b := g3.c1
        have g5a := g5.c0
        have g5b := g5.c1
        have g6a := g6.c0
        have g6b := g6.c1
        have H6 := Lib.hid (And.intro hbw (And.intro g0 (And.intro g3 (And.intro g5 g6))))
        clear hb hbw g0 g3 g5 g6
        go_wp2_with fail
        refine (HR.out _).mono ?_
        rintro e w7 ⟨rfl, hb⟩
        obtain ⟨hbw, g0, g3, g5, g6⟩ := H6.out
        have g0 := g0.below hb
        have g3 := g3.below hb
        have g5 := g5.below hb
        have g6 := g6.below hb
        have hbw := hbw.trans (hb.mono hbw.size)
        have g0a := g0.c0
        have g0b := g0.c1
        have g3a := g3.c0
        have g3b := g3.c1
        have g5a := g5.c0
        have g5b := g5.c1
        have g6a := g6.c0
        have g6b := g6.c1
        have H7 := Lib.hid (And.intro hbw (And.intro g0 (And.intro g3 (And.intro g5 g6))))
        clear hb hbw g0 g3 g5 g6
        go_wp2
        obtain ⟨hbw, g0, g3, g5, g6⟩ := H7.out
        have HQ := Lib.hid (fun (X : World) (hX : Below w7.heap.size w7 X) => show X.cell? ⟨w.heap.size, 0, none⟩ = some (.int .u64 N) ∧ X.cell? ⟨w.heap.size, 1, none⟩ = some (.int .u64 L) ∧ X.cell? ⟨w3.heap.size, 0, none⟩ = some (.int .u64 T) ∧ X.cell? ⟨w3.heap.size, 1, none⟩ = some (.int .u64 L) from ⟨(g0.below hX).c0, (g0.below hX).c1, (g3.below hX).c0, (g3.below hX).c1⟩)
        clear hbw g0 g3 g5 g6
        obtain ⟨r0, r1, r2, r3⟩ := HQ.out w7 (Below.refl _ _)
        go_region_held3 (fun X => X.cell? ⟨w.heap.size, 0, none⟩ = some (.int .u64 N) ∧ X.cell? ⟨w.heap.size, 1, none⟩ = some (.int .u64 L) ∧ X.cell? ⟨w3.heap.size, 0, none⟩ = some (.int .u64 T) ∧ X.cell? ⟨w3.heap.size, 1, none⟩ = some (.int .u64 L))
          (first | (with_reducible assumption) | (with_reducible exact HQ.out _ (below_drew (Below.refl _ _))) | (with_reducible exact HQ.out _ HC8.out))
          (first
          | (go_at_call 14; (with_reducible refine (HRT.out _).mono ?_); rintro e w8 ⟨rfl, hb8⟩; have HC8 := Lib.hid (show Below w7.heap.size w7 w8 from (below_drew (Below.refl _ w7)).trans hb8); clear hb8))
        all_goals (
          obtain ⟨hbw, g0, g3, g5, g6⟩ := H7.out
          have g0 := g0.below HC8.out
          have g5 := g5.below HC8.out
          have hbw := hbw.trans (HC8.out.mono hbw.size)
          have s0 := g0.c0
          have s1 := g0.c1
          have H8 := Lib.hid (And.intro hbw (And.intro g0 g5))
          clear hbw g0 g3 g5 g6
          go_wp2_with fail
          refine (HRN.out _).mono ?_
          rintro e w9 ⟨rfl, hb9⟩
          obtain ⟨hbw, g0, g5⟩ := H8.out
          have g0 := g0.below hb9
          have g5 := g5.below hb9
          have hbw := hbw.trans (hb9.mono hbw.size)
          have u0 := g0.c0
          have u1 := g0.c1
          have u2 := g5.c0
          have u3 := g5.c1
          have H9 := Lib.hid hbw
          clear hbw g0 g5 hb9
          go_wp2
          go_ret
          exact ⟨by simp, H9.out⟩)
      | false =>
        rw [hnb, if_neg (by simp)] at e2
        rw [e2, if_neg (by decide)] at e3 e4 e5
        rw [e3, e2] at hX hK
        rw [e4, e5] at hK
        rw [hnb] at HRN
        generalize nxT N L = V at *
        have HC := Lib.hid hC
        have HT := Lib.hid hT
        have HX := Lib.hid hX
        have HK := Lib.hid hK
        have HO := Lib.hid hO
        have HR := Lib.hid hR
        clear hC hT hX hK hO hR e1 e2 e3 e4 e5 e6 e7 hb0 hc0 hW0 hN hL wx hxb hRt hok hnb
        go_enter Try.func3, Try.ntmps3
        go_wp2_with (rw [← HW.out])
        refine (wakes_any _).mono ?_
        rintro e w1 ⟨rfl, hb1⟩
        have g0 := HC0.out.below hb1
        have c0 := g0.c0
        have c1 := g0.c1
        have H1 := Lib.hid (And.intro (HB0.out.trans (hb1.mono HB0.out.size)) g0)
        clear hb1 g0
        go_wp2_with fail
        refine (HC.out _).mono ?_
        rintro e w2 ⟨rfl, hb⟩
        obtain ⟨hbw, g0⟩ := H1.out
        have g0 := g0.below hb
        have hbw := hbw.trans (hb.mono hbw.size)
        have g0a := g0.c0
        have g0b := g0.c1
        clear c0 c1
        have H2 := Lib.hid (And.intro hbw g0)
        clear hb hbw g0
        go_wp2_with fail
        refine (HT.out _).mono ?_
        rintro e w3 ⟨rfl, hb⟩
        obtain ⟨hbw, g0⟩ := H2.out
        have hn := CB.new w3 T L
        have hb := below_tr hb (bel1 w3 (.cells #[.int .u64 T, .int .u64 L] 24))
        have g0 := g0.below hb
        have g3 := hn
        have hbw := hbw.trans (hb.mono hbw.size)
        have g0a := g0.c0
        have g0b := g0.c1
        have g3a := g3.c0
        have g3b := g3.c1
        have H3 := Lib.hid (And.intro hbw (And.intro g0 g3))
        clear hb hbw g0 g3
        go_wp2_with fail
        refine (HX.out _).mono ?_
        rintro e w4 ⟨rfl, hb⟩
        obtain ⟨hbw, g0, g3⟩ := H3.out
        have g0 := g0.below hb
        have g3 := g3.below hb
        have hbw := hbw.trans (hb.mono hbw.size)
        have g0a := g0.c0
        have g0b := g0.c1
        have g3a := g3.c0
        have g3b := g3.c1
        have H4 := Lib.hid (And.intro hbw (And.intro g0 g3))
        clear hb hbw g0 g3
        go_wp2_with fail
        refine (HK.out _).mono ?_
        rintro e w5 ⟨rfl, hb⟩
        obtain ⟨hbw, g0, g3⟩ := H4.out
        have hn := CB.new w5 0 0
        have hb := below_tr hb (bel1 w5 (.cells #[.int .u64 0, .int .u64 0] 24))
        have g0 := g0.below hb
        have g3 := g3.below hb
        have g5 := hn
        have hbw := hbw.trans (hb.mono hbw.size)
        have g0a := g0.c0
        have g0b := g0.c1
        have g3a := g3.c0
        have g3b := g3.c1
        have g5a := g5.c0
        have g5b := g5.c1
        have H5 := Lib.hid (And.intro hbw (And.intro g0 (And.intro g3 g5)))
        clear hb hbw g0 g3 g5
        go_wp2_with fail
        refine (HO.out _).mono ?_
        rintro e w6 ⟨rfl, hb⟩
        obtain ⟨hbw, g0, g3, g5⟩ := H5.out
        have hn := CB.new w6 L L
        have hb := below_tr hb (bel1 w6 (.cells #[.int .u64 L, .int .u64 L] 24))
        have g0 := g0.below hb
        have g3 := g3.below hb
        have g5 := g5.below hb
        have g6 := hn
        have hbw := hbw.trans (hb.mono hbw.size)
        have g0a := g0.c0
        have g0b := g0.c1
        have g3a := g3.c0
        have g3b := g3.c1
        have g5a := g5.c0
        have g5b := g5.c1
        have g6a := g6.c0
        have g6b := g6.c1
        have H6 := Lib.hid (And.intro hbw (And.intro g0 (And.intro g3 (And.intro g5 g6))))
        clear hb hbw g0 g3 g5 g6
        go_wp2_with fail
        refine (HR.out _).mono ?_
        rintro e w7 ⟨rfl, hb⟩
        obtain ⟨hbw, g0, g3, g5, g6⟩ := H6.out
        have g0 := g0.below hb
        have g3 := g3.below hb
        have g5 := g5.below hb
        have g6 := g6.below hb
        have hbw := hbw.trans (hb.mono hbw.size)
        have g0a := g0.c0
        have g0b := g0.c1
        have g3a := g3.c0
        have g3b := g3.c1
        have g5a := g5.c0
        have g5b := g5.c1
        have g6a := g6.c0
        have g6b := g6.c1
        have H7 := Lib.hid (And.intro hbw (And.intro g0 (And.intro g3 (And.intro g5 g6))))
        clear hb hbw g0 g3 g5 g6
        go_wp2
        obtain ⟨hbw, g0, g3, g5, g6⟩ := H7.out
        have HQ := Lib.hid (fun (X : World) (hX : Below w7.heap.size w7 X) => show X.cell? ⟨w.heap.size, 0, none⟩ = some (.int .u64 N) ∧ X.cell? ⟨w.heap.size, 1, none⟩ = some (.int .u64 L) ∧ X.cell? ⟨w3.heap.size, 0, none⟩ = some (.int .u64 T) ∧ X.cell? ⟨w3.heap.size, 1, none⟩ = some (.int .u64 L) from ⟨(g0.below hX).c0, (g0.below hX).c1, (g3.below hX).c0, (g3.below hX).c1⟩)
        clear hbw g0 g3 g5 g6
        obtain ⟨r0, r1, r2, r3⟩ := HQ.out w7 (Below.refl _ _)
        go_region_held3 (fun X => X.cell? ⟨w.heap.size, 0, none⟩ = some (.int .u64 N) ∧ X.cell? ⟨w.heap.size, 1, none⟩ = some (.int .u64 L) ∧ X.cell? ⟨w3.heap.size, 0, none⟩ = some (.int .u64 T) ∧ X.cell? ⟨w3.heap.size, 1, none⟩ = some (.int .u64 L))
          (first | (with_reducible assumption) | (with_reducible exact HQ.out _ (below_drew (Below.refl _ _))) | (with_reducible exact HQ.out _ HC8.out))
          (first
          | (go_at_call 14; (with_reducible refine (HRT.out _).mono ?_); rintro e w8 ⟨rfl, hb8⟩; have HC8 := Lib.hid (show Below w7.heap.size w7 w8 from (below_drew (Below.refl _ w7)).trans hb8); clear hb8))
        all_goals (
          obtain ⟨hbw, g0, g3, g5, g6⟩ := H7.out
          have g0 := g0.below HC8.out
          have g5 := g5.below HC8.out
          have hbw := hbw.trans (HC8.out.mono hbw.size)
          have s0 := g0.c0
          have s1 := g0.c1
          have H8 := Lib.hid (And.intro hbw (And.intro g0 g5))
          clear hbw g0 g3 g5 g6
          go_wp2_with fail
          refine (HRN.out _).mono ?_
          rintro e w9 ⟨rfl, hb9⟩
          obtain ⟨hbw, g0, g5⟩ := H8.out
          have g0 := g0.below hb9
          have g5 := g5.below hb9
          have hbw := hbw.trans (hb9.mono hbw.size)
          have u0 := g0.c0
          have u1 := g0.c1
          have u2 := g5.c0
          have u3 := g5.c1
          have H9 := Lib.hid hbw
          clear hbw g0 g5 hb9
          go_wp2
          go_ret
          exact ⟨by simp, H9.out⟩)
  · rw [if_neg hl] at e6 e7
    rw [e6, e7] at hO
    have t0 : decide (1099511627776 < L) = true := by simp; omega
    have hok : okC N L = false := by cases h : okC N L with | false => rfl | true => exact absurd (okC_iff.1 h).2 hl
    rw [hok, if_neg (by simp)] at e1 e2
    rw [e2, if_neg (by decide)] at e3 e4 e5
    rw [e1] at hC hT
    rw [hok, if_neg (by simp), if_neg (by simp)] at hT
    rw [e3, e2] at hX hK
    rw [e4, e5] at hK
    rw [hok] at hR
    have HC := Lib.hid hC
    have HT := Lib.hid hT
    have HX := Lib.hid hX
    have HK := Lib.hid hK
    have HO := Lib.hid hO
    have HR := Lib.hid hR
    clear hC hT hX hK hO hR e1 e2 e3 e4 e5 e6 e7 hb0 hc0 hW0 hN hL wx hxb
    go_enter Try.func3, Try.ntmps3
    go_wp2_with (rw [← HW.out])
    refine (wakes_any _).mono ?_
    rintro e w1 ⟨rfl, hb1⟩
    have g0 := HC0.out.below hb1
    have c0 := g0.c0
    have c1 := g0.c1
    have H1 := Lib.hid (And.intro (HB0.out.trans (hb1.mono HB0.out.size)) g0)
    clear hb1 g0
    go_wp2_with fail
    refine (HC.out _).mono ?_
    rintro e w2 ⟨rfl, hb⟩
    obtain ⟨hbw, g0⟩ := H1.out
    have g0 := g0.below hb
    have hbw := hbw.trans (hb.mono hbw.size)
    have g0a := g0.c0
    have g0b := g0.c1
    clear c0 c1
    have H2 := Lib.hid (And.intro hbw g0)
    clear hb hbw g0
    go_wp2_with fail
    refine (HT.out _).mono ?_
    rintro e w3 ⟨rfl, hb⟩
    obtain ⟨hbw, g0⟩ := H2.out
    have hn := CB.new w3 0 0
    have hb := below_tr hb (bel1 w3 (.cells #[.int .u64 0, .int .u64 0] 24))
    have g0 := g0.below hb
    have g3 := hn
    have hbw := hbw.trans (hb.mono hbw.size)
    have g0a := g0.c0
    have g0b := g0.c1
    have g3a := g3.c0
    have g3b := g3.c1
    have H3 := Lib.hid (And.intro hbw (And.intro g0 g3))
    clear hb hbw g0 g3
    go_wp2_with fail
    refine (HX.out _).mono ?_
    rintro e w4 ⟨rfl, hb⟩
    obtain ⟨hbw, g0, g3⟩ := H3.out
    have g0 := g0.below hb
    have g3 := g3.below hb
    have hbw := hbw.trans (hb.mono hbw.size)
    have g0a := g0.c0
    have g0b := g0.c1
    have g3a := g3.c0
    have g3b := g3.c1
    have H4 := Lib.hid (And.intro hbw (And.intro g0 g3))
    clear hb hbw g0 g3
    go_wp2_with fail
    refine (HK.out _).mono ?_
    rintro e w5 ⟨rfl, hb⟩
    obtain ⟨hbw, g0, g3⟩ := H4.out
    have hn := CB.new w5 0 0
    have hb := below_tr hb (bel1 w5 (.cells #[.int .u64 0, .int .u64 0] 24))
    have g0 := g0.below hb
    have g3 := g3.below hb
    have g5 := hn
    have hbw := hbw.trans (hb.mono hbw.size)
    have g0a := g0.c0
    have g0b := g0.c1
    have g3a := g3.c0
    have g3b := g3.c1
    have g5a := g5.c0
    have g5b := g5.c1
    have H5 := Lib.hid (And.intro hbw (And.intro g0 (And.intro g3 g5)))
    clear hb hbw g0 g3 g5
    go_wp2_with fail
    refine (HO.out _).mono ?_
    rintro e w6 ⟨rfl, hb⟩
    obtain ⟨hbw, g0, g3, g5⟩ := H5.out
    have hn := CB.new w6 0 0
    have hb := below_tr hb (bel1 w6 (.cells #[.int .u64 0, .int .u64 0] 24))
    have g0 := g0.below hb
    have g3 := g3.below hb
    have g5 := g5.below hb
    have g6 := hn
    have hbw := hbw.trans (hb.mono hbw.size)
    have g0a := g0.c0
    have g0b := g0.c1
    have g3a := g3.c0
    have g3b := g3.c1
    have g5a := g5.c0
    have g5b := g5.c1
    have g6a := g6.c0
    have g6b := g6.c1
    have H6 := Lib.hid (And.intro hbw (And.intro g0 (And.intro g3 (And.intro g5 g6))))
    clear hb hbw g0 g3 g5 g6
    go_wp2_with fail
    refine (HR.out _).mono ?_
    rintro e w7 ⟨rfl, hb⟩
    obtain ⟨hbw, g0, g3, g5, g6⟩ := H6.out
    have g0 := g0.below hb
    have g3 := g3.below hb
    have g5 := g5.below hb
    have g6 := g6.below hb
    have hbw := hbw.trans (hb.mono hbw.size)
    have g0a := g0.c0
    have g0b := g0.c1
    have g3a := g3.c0
    have g3b := g3.c1
    have g5a := g5.c0
    have g5b := g5.c1
    have g6a := g6.c0
    have g6b := g6.c1
    have H7 := Lib.hid (And.intro hbw (And.intro g0 (And.intro g3 (And.intro g5 g6))))
    clear hb hbw g0 g3 g5 g6
    go_wp2
    go_ret
    exact ⟨by simp, H7.out.1⟩

set_option maxRecDepth 100000 in
theorem lifted (os : Os) (started : os.Started) (H : Type) (enc : TypeId × Value → H) :
    ReturnsInHanded {} Try.checked os 3 .any (Rows.clockTellsSpec.pre6 enc Try.prog Try.f3 Rows.clockTellsRow.domain false) (Rows.clockTellsSpec.post enc Try.prog Try.f3 false true false false) := by
  refine returnsInHanded_of_change (C := Try.checked) Try.own started (by kernel_rfl) Try.func3
    (ChangeSpec.witness6 (enc := enc) (C := Try.checked) false ⟨#[], #[.agg #[.int .u64 0, .int .u64 0], .int .i64 0], []⟩ 8 (by kernel_rfl) (by kernel_rfl) (by kernel_rfl) (by kernel_rfl)) ?_
  intro W base args ds gs before hval0 hW hcnd _
  have hval : ∀ (j : Nat) t v, Try.f3.params[j]? = some t → args[j]? = some v → Value.okWide Try.prog W .any base t v := hval0
  have hW' := hW
  obtain ⟨p, q, hA0, hV, rfl, hfz, hnd⟩ := hW
  have hA : DataW.TrodAll enc Try.prog W 0 (fun _ => true) true Try.f3.params.toList args.toList ds p := hA0
  rw [Try.params3] at hA hval
  have hA' := hA
  obtain ⟨v0, vs0, d0, ds0, p0, q0, hargs, rfl, rfl, h0, r0⟩ := trodAll_cons hA
  obtain ⟨v1, vs1, d1, ds1, p1, q1, rfl, rfl, rfl, h1, r1⟩ := trodAll_cons r0
  obtain ⟨rfl, rfl, rfl⟩ := trodAll_nil r1
  obtain rfl : args = #[v0, v1] := by cases args; simp_all
  obtain ⟨rfl, rfl⟩ := trodVars_none hV
  obtain ⟨a0, b0, rfl, ua0, ub0⟩ := open_clock (hval 0 24 v0 rfl rfl) h0
  obtain ⟨a1, rfl, w1⟩ := open_num (hval 1 2 v1 rfl rfl) h1
  clear hA0 hval0
  refine (walk a0 b0 ua0 ub0 a1 w1).mono fun e W' ⟨he, bel⟩ => ?_
  subst he
  exact ⟨_, rfl, _, _, _, [], _, [], hW', trodAll_mk1 (shut_bool Try.underlying4 _), trodAll_below bel _ _ _ _ (by kernel_rfl) hA', rfl, bel.frame _, fun h => by cases h⟩

theorem proved : Rows.ClockTellsSaid :=
  OpenClaim.holds_of_wide 3 Try.f3 rfl rfl rfl rfl rfl rfl rfl ⟨rfl, rfl, rfl, rfl, rfl⟩ rfl rfl rfl rfl rfl (by kernel_rfl) Try.func3 (by kernel_rfl)
    (of_decide_eq_true (by kernel_rfl)) (by unfold Func.isWrapper; first | (rw [if_pos (by decide +kernel)]; kernel_rfl) | (rw [if_neg (by decide +kernel)]; exact ⟨rfl, rfl⟩))
    (fun os started H enc _ => lifted os started H enc)
#print axioms proved
end Go.Proofs.Ytcohaaobdpcoiaa.clockTells
