/-
  Proved: the law ClockRises, timestamps rise, whatever the clock does, and are above 0, and none is below what time it was, returns true for every clock and row of ticks, and leaves all memory as it was. No condition.
-/
import Derived.Test.YtcohaaobdpcoiaaLawFrame
namespace Go.Proofs.Ytcohaaobdpcoiaa.clockRises
open Go.ChangeShapes Go.WideShapes Go.ChangeAt Go.RowKit
set_option linter.unusedVariables false
set_option linter.unusedSimpArgs false
set_option maxRecDepth 100000

theorem take_rt {c : Int × Int} (h : Rt c) (w : World) : (nxB c.1 c.2 = true → Calls Try.prog 11 #[.agg #[.int .u64 c.1, .int .u64 c.2]] w fun e w' => e = .returned (.tuple #[.agg #[.int .u64 c.1, .int .u64 (nxT c.1 c.2)], .int .u64 (nxT c.1 c.2), .int .i64 0]) ∧ Below w.heap.size w w') ∧
    (nxB c.1 c.2 = false → Calls Try.prog 11 #[.agg #[.int .u64 c.1, .int .u64 c.2]] w fun e w' => e = .returned (.tuple #[.agg #[.int .u64 0, .int .u64 0], .int .u64 0, .int .i64 251]) ∧ Below w.heap.size w w') := by
  have := take_any c.1 c.2 w h.u1 h.u2
  have he := nxE_rt h
  constructor
  · intro hb
    rw [hb, if_pos rfl] at he
    unfold tkN tkL nxV at this
    rw [he, if_pos rfl, if_pos rfl] at this
    exact this
  · intro hb
    rw [hb, if_neg (by simp)] at he
    unfold tkN tkL nxV at this
    rw [he, if_neg (by decide), if_neg (by decide)] at this
    exact this
theorem vec_take {k : IntKind} {w : World} {A : Option Addr} {c : Nat} {xs : List Int} (h : Vec k w A c xs) (n : Nat) : Vec k w A c (xs.take n) := by
  have hl : (xs.take n).length ≤ xs.length := by simp; omega
  refine ⟨Nat.le_trans hl h.room, h.most, fun hp => ?_, fun x hx => h.fit x (List.mem_of_mem_take hx)⟩
  obtain ⟨b, o, e, hb, hc⟩ := h.rd (by omega)
  refine ⟨b, o, e, hb, fun j hj => ?_⟩
  rw [hc j (by omega)]
  have : j < n := by simp at hj; omega
  simp [List.getD, List.getElem?_take, this]

set_option maxHeartbeats 4000000 in
theorem walk {w : World} (N0 L0 : Int) (hN0 : U6 N0) (hL0 : U6 L0) (A : Option Addr) (ca : Nat) (xs : List Int) (H : Vec .i64 w A ca xs) :
    Calls Try.prog 5 #[.agg #[.int .u64 N0, .int .u64 L0], .slice A xs.length ca] w fun e w' => e = .returned (.bool true) ∧ Below w.heap.size w w' := by
  obtain ⟨W0, hW0⟩ : ∃ W0, W0 = w.alloc (.cells #[.int .u64 N0, .int .u64 L0] 24) := ⟨_, rfl⟩
  have hb0 : Below w.heap.size w W0 := by rw [hW0]; exact bel1 _ _
  have hc0 : CB W0 w.heap.size N0 L0 := by rw [hW0]; exact CB.new _ _ _
  have HW := Lib.hid hW0
  have HB0 := Lib.hid hb0
  have HC0 := Lib.hid hc0
  have hHt := vec_take H 100
  obtain ⟨ys, hys⟩ : ∃ ys, ys = xs.take 100 := ⟨_, rfl⟩
  rw [← hys] at hHt
  obtain ⟨m, hm⟩ : ∃ m, m = ys.length := ⟨_, rfl⟩
  have hm100 : m ≤ 100 := by rw [hm, hys]; simp; omega
  obtain ⟨n, hn⟩ : ∃ n, n = xs.length := ⟨_, rfl⟩
  have hmn : m = min 100 n := by rw [hm, hys, hn]; simp
  have hroom : n ≤ ca := by rw [hn]; exact H.room
  have hmost : ca ≤ 9223372036854775807 := H.most
  have hnil : 0 < n → ∃ b o, A = some ⟨b, o, none⟩ := fun h => by obtain ⟨b, o, e, _⟩ := H.rd (by omega); exact ⟨b, o, e⟩
  have HV := Lib.hid hHt
  have HM := Lib.hid hm
  have HU := Lib.hid (And.intro hN0 hL0)
  rw [← hn]
  clear H hHt hys hm hn hb0 hc0 hW0 hN0 hL0
  by_cases hle : n ≤ 100
  · obtain rfl : m = n := by omega
    have t1 : decide ((100 : Int) < (m : Int)) = false := by simp; omega
    clear hle hmn hnil
    go_enter Try.func5, Try.ntmps5
    go_wp2_with (rw [← HW.out])
    refine (wakes_any _).mono ?_
    rintro e w1 ⟨rfl, hb1⟩
    have hcb := HC0.out.below hb1
    have c0 := hcb.c0
    have c1 := hcb.c1
    have HI0 := Lib.hid (show U6 N0 ∧ U6 L0 ∧ CB w1 w.heap.size N0 L0 ∧ Below w.heap.size w w1 from ⟨HU.out.1, HU.out.2, hcb, HB0.out.trans (hb1.mono HB0.out.size)⟩)
    clear hb1 hcb
    go_wp2
    all_goals skip
    go_loopw [5, 23] (fun la i wr => ∃ (k : Nat) (N L : Int), k ≤ m ∧ i = .int .i64 k ∧ la = .int .u64 L ∧ Hid (U6 N ∧ U6 L ∧ CB wr w.heap.size N L ∧ Below w.heap.size w wr)) (fun _ i _ => m - (intOf i).toNat)
    case atStart => exact ⟨0, N0, L0, Nat.zero_le _, rfl, rfl, HI0⟩
    case round =>
      obtain ⟨k, N, L, hk, rfl, rfl, HI⟩ := hrel
      by_cases hkm : k < m
      · obtain ⟨uN, uL, hcb, hbw⟩ := HI.out
        obtain ⟨b, o, rfl, hb, hx⟩ := (HV.out.below hbw).at_ (j := k) (by rw [← HM.out]; exact hkm)
        have hxb := i64_fit (HV.out.fit (ys.getD k 0) (by
          have : k < ys.length := by rw [← HM.out]; exact hkm
          simp [List.getD, List.getElem?_eq_getElem this]))
        have k0 : (0 : Int) ≤ k := by omega
        have km : (k : Int) < m := by omega
        generalize ys.getD k 0 = x at *
        have c0 := hcb.c0
        have c1 := hcb.c1
        cases hok : okC N L with
        | false =>
          have hT := tick_any N L x wr uN uL hxb
          have hch : chkC N L = 250 := by unfold chkC; rw [hok]; rfl
          rw [hok, hch, if_neg (by simp), if_neg (by simp)] at hT
          have HT := Lib.hid hT
          have HCk := Lib.hid (fun (X : World) => check_any N L X uN uL)
          rw [hch] at HCk
          clear hT hch hxb hb hcb hbw uN uL hok
          go_wp2_with fail
          refine HT.out.mono ?_
          rintro e w1 ⟨rfl, hb1⟩
          obtain ⟨_, _, hcb, hbw⟩ := HI.out
          have hb2 := below_tr hb1 (bel1 w1 (.cells #[.int .u64 0, .int .u64 0] 24))
          have h2 := hcb.below hb2
          have d0 := h2.c0
          have d1 := h2.c1
          have HB2 := Lib.hid (hbw.trans (hb2.mono hbw.size))
          clear hb1 hb2 h2 hcb hbw
          go_wp2_with fail
          refine (HCk.out _).mono ?_
          rintro e w3 ⟨rfl, hb3⟩
          have HB3 := Lib.hid (HB2.out.trans (hb3.mono HB2.out.size))
          clear hb3
          go_wp2
          go_ret
          exact ⟨rfl, HB3.out⟩
        | true =>
          have hRt : Rt (N, L) := ⟨uN.1, (okC_iff.1 hok).1, uL.1, (okC_iff.1 hok).2⟩
          have hT := tick_rt hRt x hxb wr
          have hRT := hRt.tick x
          have hTk := fun (X : World) => take_rt hRT X
          dsimp only at hT hTk
          have HT := Lib.hid hT
          have tN : 0 ≤ x → N ≤ tickN N x := fun h => by have := hRt.n1; dsimp only at this; unfold tickN; split <;> (try split) <;> omega
          have tP : x ≤ 0 → tickN N x ≤ N := fun h => by have := hRt.n0; dsimp only at this; unfold tickN; split <;> (try split) <;> omega
          have tM : tickN N x ≤ 1099511627776 := tickN_ok.2
          have t0 : 0 ≤ tickN N x := tickN_ok.1
          have l0 : 0 ≤ L := hRt.l0
          have l1 : L ≤ 1099511627776 := hRt.l1
          generalize tickN N x = T at *
          have hX : nxT T L = if L + 1 < T then T else L + 1 := rfl
          have hXB : nxB T L = decide (nxT T L ≤ 1099511627776) := rfl
          have X1 : L < nxT T L := by rw [hX]; split <;> omega
          have X2 : T ≤ nxT T L := by rw [hX]; split <;> omega
          have X3 : 1099511627776 < nxT T L → L = 1099511627776 := fun h => by rw [hX] at h; split at h <;> omega
          generalize nxT T L = X at *
          have HNx := Lib.hid (And.intro X1 (And.intro X2 X3))
          have HTk := Lib.hid hTk
          have HXB := Lib.hid hXB
          have HL := Lib.hid (And.intro l0 (And.intro l1 (And.intro t0 tM)))
          have q0 : (L == L) = true := by simp
          have q1 : (L != L) = false := by simp
          have q5 : decide (1099511627776 < T) = false := by simp; omega
          rcases Int.lt_trichotomy x 0 with hx0 | hx0 | hx0
          · have q2 : decide (0 ≤ x) = false := by simp; omega
            have q3 : decide (x ≤ 0) = true := by simp; omega
            have q4 : decide (N < T) = false := by have := tP (by omega); simp; omega
            clear hT hTk hRT hRt hxb hb hcb hbw uN uL hok tN tP tM t0 l0 l1 hX hXB X1 X2 X3 hx0
            go_wp2_with fail
            refine HT.out.mono ?_
            rintro e w1 ⟨rfl, hb1⟩
            obtain ⟨_, _, hcb, hbw⟩ := HI.out
            have hb2 := below_tr hb1 (bel1 w1 (.cells #[.int .u64 T, .int .u64 L] 24))
            have h2 := hcb.below hb2
            have h1 := CB.new w1 T L
            have d0 := h2.c0
            have d1 := h2.c1
            have HB2 := Lib.hid (And.intro h2 (And.intro h1 (hbw.trans (hb2.mono hbw.size))))
            clear hb1 hb2 h1 h2 hcb hbw
            cases hB : nxB T L with
            | false =>
              have HTk1 := Lib.hid (fun X => (HTk.out X).2 hB)
              have hXL := HXB.out
              rw [hB] at hXL
              have q7 : (L == 1099511627776) = true := by
                have := HNx.out.2.2 (by simpa using hXL.symm)
                simpa using this
              clear hB hXL
              go_wp2_with fail
              refine (HTk1.out _).mono ?_
              rintro e w3 ⟨rfl, hb3⟩
              obtain ⟨h2, h1, h3⟩ := HB2.out
              have h1 := (h1.below hb3).below (bel1 w3 (.cells #[.int .u64 0, .int .u64 0] 24))
              have e0 := h1.c0
              have e1 := h1.c1
              have HB3 := Lib.hid (h3.trans ((below_tr hb3 (bel1 w3 (.cells #[.int .u64 0, .int .u64 0] 24))).mono h3.size))
              clear hb3 h1 h2 h3
              go_wp2
              go_ret
              exact ⟨rfl, HB3.out⟩
            | true =>
              have HTk1 := Lib.hid (fun X => (HTk.out X).1 hB)
              have hXL := HXB.out
              rw [hB] at hXL
              have hXm : X ≤ 1099511627776 := by simpa using hXL.symm
              obtain ⟨X1, X2, _⟩ := HNx.out
              obtain ⟨l0, l1, t0, tM⟩ := HL.out
              have z1 : decide (X ≤ L) = false := by simp; omega
              have z2 : decide (X < T) = false := by simp; omega
              have z3 : decide (X < 1) = false := by simp; omega
              have z4 : decide (1099511627776 < X) = false := by simp; omega
              have z5 : (X != X) = false := by simp
              have HXm := Lib.hid (And.intro hXm (show 0 ≤ X by omega))
              clear hB hXL X1 X2 l0 l1 t0 tM hXm
              go_wp2_with fail
              refine (HTk1.out _).mono ?_
              rintro e w3 ⟨rfl, hb3⟩
              obtain ⟨h2, h1, h3⟩ := HB2.out
              have hb4 := below_tr hb3 (bel1 w3 (.cells #[.int .u64 T, .int .u64 X] 24))
              have h1 := h1.below hb4
              have h2 := h2.below hb4
              have e0 := h1.c0
              have e1 := h1.c1
              have g0 := h2.c0
              have g1 := h2.c1
              have g2 := h2.f0
              have g3 := h2.f1
              have hbw := h3.trans (hb4.mono h3.size)
              have HI4 := Lib.hid (show U6 T ∧ U6 X ∧ CB (((w3.alloc (.cells #[.int .u64 T, .int .u64 X] 24)).setCell ⟨w.heap.size, 0, none⟩ (.int .u64 T)).setCell ⟨w.heap.size, 1, none⟩ (.int .u64 X)) w.heap.size T X ∧ Below w.heap.size w (((w3.alloc (.cells #[.int .u64 T, .int .u64 X] 24)).setCell ⟨w.heap.size, 0, none⟩ (.int .u64 T)).setCell ⟨w.heap.size, 1, none⟩ (.int .u64 X)) from
                ⟨u6_of HL.out.2.2.1 HL.out.2.2.2, u6_of HXm.out.2 HXm.out.1, (h2.set0 T).set1 X, (hbw.setCell (by simp) _).setCell (by simp) _⟩)
              clear hb3 hb4 h1 h2 h3 hbw
              go_wp2
              go_roundw
              case rel => exact ⟨k + 1, T, X, by omega, by go_num, rfl, HI4⟩
              case measure => simp [intOf]; omega
          · have q2 : decide (0 ≤ x) = true := by simp; omega
            have q3 : decide (x ≤ 0) = true := by simp; omega
            have q4 : decide (N < T) = false := by have := tP (by omega); simp; omega
            have q6 : decide (T < N) = false := by have := tN (by omega); simp; omega
            clear hT hTk hRT hRt hxb hb hcb hbw uN uL hok tN tP tM t0 l0 l1 hX hXB X1 X2 X3 hx0
            go_wp2_with fail
            refine HT.out.mono ?_
            rintro e w1 ⟨rfl, hb1⟩
            obtain ⟨_, _, hcb, hbw⟩ := HI.out
            have hb2 := below_tr hb1 (bel1 w1 (.cells #[.int .u64 T, .int .u64 L] 24))
            have h2 := hcb.below hb2
            have h1 := CB.new w1 T L
            have d0 := h2.c0
            have d1 := h2.c1
            have HB2 := Lib.hid (And.intro h2 (And.intro h1 (hbw.trans (hb2.mono hbw.size))))
            clear hb1 hb2 h1 h2 hcb hbw
            cases hB : nxB T L with
            | false =>
              have HTk1 := Lib.hid (fun X => (HTk.out X).2 hB)
              have hXL := HXB.out
              rw [hB] at hXL
              have q7 : (L == 1099511627776) = true := by
                have := HNx.out.2.2 (by simpa using hXL.symm)
                simpa using this
              clear hB hXL
              go_wp2_with fail
              refine (HTk1.out _).mono ?_
              rintro e w3 ⟨rfl, hb3⟩
              obtain ⟨h2, h1, h3⟩ := HB2.out
              have h1 := (h1.below hb3).below (bel1 w3 (.cells #[.int .u64 0, .int .u64 0] 24))
              have e0 := h1.c0
              have e1 := h1.c1
              have HB3 := Lib.hid (h3.trans ((below_tr hb3 (bel1 w3 (.cells #[.int .u64 0, .int .u64 0] 24))).mono h3.size))
              clear hb3 h1 h2 h3
              go_wp2
              go_ret
              exact ⟨rfl, HB3.out⟩
            | true =>
              have HTk1 := Lib.hid (fun X => (HTk.out X).1 hB)
              have hXL := HXB.out
              rw [hB] at hXL
              have hXm : X ≤ 1099511627776 := by simpa using hXL.symm
              obtain ⟨X1, X2, _⟩ := HNx.out
              obtain ⟨l0, l1, t0, tM⟩ := HL.out
              have z1 : decide (X ≤ L) = false := by simp; omega
              have z2 : decide (X < T) = false := by simp; omega
              have z3 : decide (X < 1) = false := by simp; omega
              have z4 : decide (1099511627776 < X) = false := by simp; omega
              have z5 : (X != X) = false := by simp
              have HXm := Lib.hid (And.intro hXm (show 0 ≤ X by omega))
              clear hB hXL X1 X2 l0 l1 t0 tM hXm
              go_wp2_with fail
              refine (HTk1.out _).mono ?_
              rintro e w3 ⟨rfl, hb3⟩
              obtain ⟨h2, h1, h3⟩ := HB2.out
              have hb4 := below_tr hb3 (bel1 w3 (.cells #[.int .u64 T, .int .u64 X] 24))
              have h1 := h1.below hb4
              have h2 := h2.below hb4
              have e0 := h1.c0
              have e1 := h1.c1
              have g0 := h2.c0
              have g1 := h2.c1
              have g2 := h2.f0
              have g3 := h2.f1
              have hbw := h3.trans (hb4.mono h3.size)
              have HI4 := Lib.hid (show U6 T ∧ U6 X ∧ CB (((w3.alloc (.cells #[.int .u64 T, .int .u64 X] 24)).setCell ⟨w.heap.size, 0, none⟩ (.int .u64 T)).setCell ⟨w.heap.size, 1, none⟩ (.int .u64 X)) w.heap.size T X ∧ Below w.heap.size w (((w3.alloc (.cells #[.int .u64 T, .int .u64 X] 24)).setCell ⟨w.heap.size, 0, none⟩ (.int .u64 T)).setCell ⟨w.heap.size, 1, none⟩ (.int .u64 X)) from
                ⟨u6_of HL.out.2.2.1 HL.out.2.2.2, u6_of HXm.out.2 HXm.out.1, (h2.set0 T).set1 X, (hbw.setCell (by simp) _).setCell (by simp) _⟩)
              clear hb3 hb4 h1 h2 h3 hbw
              go_wp2
              go_roundw
              case rel => exact ⟨k + 1, T, X, by omega, by go_num, rfl, HI4⟩
              case measure => simp [intOf]; omega
          · have q2 : decide (0 ≤ x) = true := by simp; omega
            have q3 : decide (x ≤ 0) = false := by simp; omega
            have q6 : decide (T < N) = false := by have := tN (by omega); simp; omega
            clear hT hTk hRT hRt hxb hb hcb hbw uN uL hok tN tP tM t0 l0 l1 hX hXB X1 X2 X3 hx0
            go_wp2_with fail
            refine HT.out.mono ?_
            rintro e w1 ⟨rfl, hb1⟩
            obtain ⟨_, _, hcb, hbw⟩ := HI.out
            have hb2 := below_tr hb1 (bel1 w1 (.cells #[.int .u64 T, .int .u64 L] 24))
            have h2 := hcb.below hb2
            have h1 := CB.new w1 T L
            have d0 := h2.c0
            have d1 := h2.c1
            have HB2 := Lib.hid (And.intro h2 (And.intro h1 (hbw.trans (hb2.mono hbw.size))))
            clear hb1 hb2 h1 h2 hcb hbw
            cases hB : nxB T L with
            | false =>
              have HTk1 := Lib.hid (fun X => (HTk.out X).2 hB)
              have hXL := HXB.out
              rw [hB] at hXL
              have q7 : (L == 1099511627776) = true := by
                have := HNx.out.2.2 (by simpa using hXL.symm)
                simpa using this
              clear hB hXL
              go_wp2_with fail
              refine (HTk1.out _).mono ?_
              rintro e w3 ⟨rfl, hb3⟩
              obtain ⟨h2, h1, h3⟩ := HB2.out
              have h1 := (h1.below hb3).below (bel1 w3 (.cells #[.int .u64 0, .int .u64 0] 24))
              have e0 := h1.c0
              have e1 := h1.c1
              have HB3 := Lib.hid (h3.trans ((below_tr hb3 (bel1 w3 (.cells #[.int .u64 0, .int .u64 0] 24))).mono h3.size))
              clear hb3 h1 h2 h3
              go_wp2
              go_ret
              exact ⟨rfl, HB3.out⟩
            | true =>
              have HTk1 := Lib.hid (fun X => (HTk.out X).1 hB)
              have hXL := HXB.out
              rw [hB] at hXL
              have hXm : X ≤ 1099511627776 := by simpa using hXL.symm
              obtain ⟨X1, X2, _⟩ := HNx.out
              obtain ⟨l0, l1, t0, tM⟩ := HL.out
              have z1 : decide (X ≤ L) = false := by simp; omega
              have z2 : decide (X < T) = false := by simp; omega
              have z3 : decide (X < 1) = false := by simp; omega
              have z4 : decide (1099511627776 < X) = false := by simp; omega
              have z5 : (X != X) = false := by simp
              have HXm := Lib.hid (And.intro hXm (show 0 ≤ X by omega))
              clear hB hXL X1 X2 l0 l1 t0 tM hXm
              go_wp2_with fail
              refine (HTk1.out _).mono ?_
              rintro e w3 ⟨rfl, hb3⟩
              obtain ⟨h2, h1, h3⟩ := HB2.out
              have hb4 := below_tr hb3 (bel1 w3 (.cells #[.int .u64 T, .int .u64 X] 24))
              have h1 := h1.below hb4
              have h2 := h2.below hb4
              have e0 := h1.c0
              have e1 := h1.c1
              have g0 := h2.c0
              have g1 := h2.c1
              have g2 := h2.f0
              have g3 := h2.f1
              have hbw := h3.trans (hb4.mono h3.size)
              have HI4 := Lib.hid (show U6 T ∧ U6 X ∧ CB (((w3.alloc (.cells #[.int .u64 T, .int .u64 X] 24)).setCell ⟨w.heap.size, 0, none⟩ (.int .u64 T)).setCell ⟨w.heap.size, 1, none⟩ (.int .u64 X)) w.heap.size T X ∧ Below w.heap.size w (((w3.alloc (.cells #[.int .u64 T, .int .u64 X] 24)).setCell ⟨w.heap.size, 0, none⟩ (.int .u64 T)).setCell ⟨w.heap.size, 1, none⟩ (.int .u64 X)) from
                ⟨u6_of HL.out.2.2.1 HL.out.2.2.2, u6_of HXm.out.2 HXm.out.1, (h2.set0 T).set1 X, (hbw.setCell (by simp) _).setCell (by simp) _⟩)
              clear hb3 hb4 h1 h2 h3 hbw
              go_wp2
              go_roundw
              case rel => exact ⟨k + 1, T, X, by omega, by go_num, rfl, HI4⟩
              case measure => simp [intOf]; omega
      · obtain rfl : k = m := by omega
        go_wp2
        go_ret
        exact ⟨rfl, HI.out.2.2.2⟩
  · obtain ⟨b1, o1, rfl⟩ := hnil (by omega)
    obtain rfl : m = 100 := by omega
    have t1 : decide ((100 : Int) < (n : Int)) = true := by simp; omega
    have t2 : decide ((100 : Int) ≤ (ca : Int)) = true := by simp; omega
    have t3 : (100 : Int) ≤ (ca : Int) := by omega
    clear hle hmn hnil
    go_enter Try.func5, Try.ntmps5
    go_wp2_with (rw [← HW.out])
    refine (wakes_any _).mono ?_
    rintro e w1 ⟨rfl, hb1⟩
    have hcb := HC0.out.below hb1
    have c0 := hcb.c0
    have c1 := hcb.c1
    have HI0 := Lib.hid (show U6 N0 ∧ U6 L0 ∧ CB w1 w.heap.size N0 L0 ∧ Below w.heap.size w w1 from ⟨HU.out.1, HU.out.2, hcb, HB0.out.trans (hb1.mono HB0.out.size)⟩)
    clear hb1 hcb
    go_wp2
    go_loopw [5, 23] (fun la i wr => ∃ (k : Nat) (N L : Int), k ≤ 100 ∧ i = .int .i64 k ∧ la = .int .u64 L ∧ Hid (U6 N ∧ U6 L ∧ CB wr w.heap.size N L ∧ Below w.heap.size w wr)) (fun _ i _ => 100 - (intOf i).toNat)
    case atStart => exact ⟨0, N0, L0, Nat.zero_le _, rfl, rfl, HI0⟩
    case round =>
      obtain ⟨k, N, L, hk, rfl, rfl, HI⟩ := hrel
      by_cases hkm : k < 100
      · obtain ⟨uN, uL, hcb, hbw⟩ := HI.out
        obtain ⟨b, o, eA, hb, hx⟩ := (HV.out.below hbw).at_ (j := k) (by rw [← HM.out]; exact hkm)
        obtain ⟨rfl, rfl⟩ : b1 = b ∧ o1 = o := by simpa using eA
        clear eA
        have hxb := i64_fit (HV.out.fit (ys.getD k 0) (by
          have : k < ys.length := by rw [← HM.out]; exact hkm
          simp [List.getD, List.getElem?_eq_getElem this]))
        have k0 : (0 : Int) ≤ k := by omega
        have km : (k : Int) < 100 := by omega
        generalize ys.getD k 0 = x at *
        have c0 := hcb.c0
        have c1 := hcb.c1
        cases hok : okC N L with
        | false =>
          have hT := tick_any N L x wr uN uL hxb
          have hch : chkC N L = 250 := by unfold chkC; rw [hok]; rfl
          rw [hok, hch, if_neg (by simp), if_neg (by simp)] at hT
          have HT := Lib.hid hT
          have HCk := Lib.hid (fun (X : World) => check_any N L X uN uL)
          rw [hch] at HCk
          clear hT hch hxb hb hcb hbw uN uL hok
          go_wp2_with fail
          refine HT.out.mono ?_
          rintro e w1 ⟨rfl, hb1⟩
          obtain ⟨_, _, hcb, hbw⟩ := HI.out
          have hb2 := below_tr hb1 (bel1 w1 (.cells #[.int .u64 0, .int .u64 0] 24))
          have h2 := hcb.below hb2
          have d0 := h2.c0
          have d1 := h2.c1
          have HB2 := Lib.hid (hbw.trans (hb2.mono hbw.size))
          clear hb1 hb2 h2 hcb hbw
          go_wp2_with fail
          refine (HCk.out _).mono ?_
          rintro e w3 ⟨rfl, hb3⟩
          have HB3 := Lib.hid (HB2.out.trans (hb3.mono HB2.out.size))
          clear hb3
          go_wp2
          go_ret
          exact ⟨rfl, HB3.out⟩
        | true =>
          have hRt : Rt (N, L) := ⟨uN.1, (okC_iff.1 hok).1, uL.1, (okC_iff.1 hok).2⟩
          have hT := tick_rt hRt x hxb wr
          have hRT := hRt.tick x
          have hTk := fun (X : World) => take_rt hRT X
          dsimp only at hT hTk
          have HT := Lib.hid hT
          have tN : 0 ≤ x → N ≤ tickN N x := fun h => by have := hRt.n1; dsimp only at this; unfold tickN; split <;> (try split) <;> omega
          have tP : x ≤ 0 → tickN N x ≤ N := fun h => by have := hRt.n0; dsimp only at this; unfold tickN; split <;> (try split) <;> omega
          have tM : tickN N x ≤ 1099511627776 := tickN_ok.2
          have t0 : 0 ≤ tickN N x := tickN_ok.1
          have l0 : 0 ≤ L := hRt.l0
          have l1 : L ≤ 1099511627776 := hRt.l1
          generalize tickN N x = T at *
          have hX : nxT T L = if L + 1 < T then T else L + 1 := rfl
          have hXB : nxB T L = decide (nxT T L ≤ 1099511627776) := rfl
          have X1 : L < nxT T L := by rw [hX]; split <;> omega
          have X2 : T ≤ nxT T L := by rw [hX]; split <;> omega
          have X3 : 1099511627776 < nxT T L → L = 1099511627776 := fun h => by rw [hX] at h; split at h <;> omega
          generalize nxT T L = X at *
          have HNx := Lib.hid (And.intro X1 (And.intro X2 X3))
          have HTk := Lib.hid hTk
          have HXB := Lib.hid hXB
          have HL := Lib.hid (And.intro l0 (And.intro l1 (And.intro t0 tM)))
          have q0 : (L == L) = true := by simp
          have q1 : (L != L) = false := by simp
          have q5 : decide (1099511627776 < T) = false := by simp; omega
          rcases Int.lt_trichotomy x 0 with hx0 | hx0 | hx0
          · have q2 : decide (0 ≤ x) = false := by simp; omega
            have q3 : decide (x ≤ 0) = true := by simp; omega
            have q4 : decide (N < T) = false := by have := tP (by omega); simp; omega
            clear hT hTk hRT hRt hxb hb hcb hbw uN uL hok tN tP tM t0 l0 l1 hX hXB X1 X2 X3 hx0
            go_wp2_with fail
            refine HT.out.mono ?_
            rintro e w1 ⟨rfl, hb1⟩
            obtain ⟨_, _, hcb, hbw⟩ := HI.out
            have hb2 := below_tr hb1 (bel1 w1 (.cells #[.int .u64 T, .int .u64 L] 24))
            have h2 := hcb.below hb2
            have h1 := CB.new w1 T L
            have d0 := h2.c0
            have d1 := h2.c1
            have HB2 := Lib.hid (And.intro h2 (And.intro h1 (hbw.trans (hb2.mono hbw.size))))
            clear hb1 hb2 h1 h2 hcb hbw
            cases hB : nxB T L with
            | false =>
              have HTk1 := Lib.hid (fun X => (HTk.out X).2 hB)
              have hXL := HXB.out
              rw [hB] at hXL
              have q7 : (L == 1099511627776) = true := by
                have := HNx.out.2.2 (by simpa using hXL.symm)
                simpa using this
              clear hB hXL
              go_wp2_with fail
              refine (HTk1.out _).mono ?_
              rintro e w3 ⟨rfl, hb3⟩
              obtain ⟨h2, h1, h3⟩ := HB2.out
              have h1 := (h1.below hb3).below (bel1 w3 (.cells #[.int .u64 0, .int .u64 0] 24))
              have e0 := h1.c0
              have e1 := h1.c1
              have HB3 := Lib.hid (h3.trans ((below_tr hb3 (bel1 w3 (.cells #[.int .u64 0, .int .u64 0] 24))).mono h3.size))
              clear hb3 h1 h2 h3
              go_wp2
              go_ret
              exact ⟨rfl, HB3.out⟩
            | true =>
              have HTk1 := Lib.hid (fun X => (HTk.out X).1 hB)
              have hXL := HXB.out
              rw [hB] at hXL
              have hXm : X ≤ 1099511627776 := by simpa using hXL.symm
              obtain ⟨X1, X2, _⟩ := HNx.out
              obtain ⟨l0, l1, t0, tM⟩ := HL.out
              have z1 : decide (X ≤ L) = false := by simp; omega
              have z2 : decide (X < T) = false := by simp; omega
              have z3 : decide (X < 1) = false := by simp; omega
              have z4 : decide (1099511627776 < X) = false := by simp; omega
              have z5 : (X != X) = false := by simp
              have HXm := Lib.hid (And.intro hXm (show 0 ≤ X by omega))
              clear hB hXL X1 X2 l0 l1 t0 tM hXm
              go_wp2_with fail
              refine (HTk1.out _).mono ?_
              rintro e w3 ⟨rfl, hb3⟩
              obtain ⟨h2, h1, h3⟩ := HB2.out
              have hb4 := below_tr hb3 (bel1 w3 (.cells #[.int .u64 T, .int .u64 X] 24))
              have h1 := h1.below hb4
              have h2 := h2.below hb4
              have e0 := h1.c0
              have e1 := h1.c1
              have g0 := h2.c0
              have g1 := h2.c1
              have g2 := h2.f0
              have g3 := h2.f1
              have hbw := h3.trans (hb4.mono h3.size)
              have HI4 := Lib.hid (show U6 T ∧ U6 X ∧ CB (((w3.alloc (.cells #[.int .u64 T, .int .u64 X] 24)).setCell ⟨w.heap.size, 0, none⟩ (.int .u64 T)).setCell ⟨w.heap.size, 1, none⟩ (.int .u64 X)) w.heap.size T X ∧ Below w.heap.size w (((w3.alloc (.cells #[.int .u64 T, .int .u64 X] 24)).setCell ⟨w.heap.size, 0, none⟩ (.int .u64 T)).setCell ⟨w.heap.size, 1, none⟩ (.int .u64 X)) from
                ⟨u6_of HL.out.2.2.1 HL.out.2.2.2, u6_of HXm.out.2 HXm.out.1, (h2.set0 T).set1 X, (hbw.setCell (by simp) _).setCell (by simp) _⟩)
              clear hb3 hb4 h1 h2 h3 hbw
              go_wp2
              go_roundw
              case rel => exact ⟨k + 1, T, X, by omega, by go_num, rfl, HI4⟩
              case measure => simp [intOf]; omega
          · have q2 : decide (0 ≤ x) = true := by simp; omega
            have q3 : decide (x ≤ 0) = true := by simp; omega
            have q4 : decide (N < T) = false := by have := tP (by omega); simp; omega
            have q6 : decide (T < N) = false := by have := tN (by omega); simp; omega
            clear hT hTk hRT hRt hxb hb hcb hbw uN uL hok tN tP tM t0 l0 l1 hX hXB X1 X2 X3 hx0
            go_wp2_with fail
            refine HT.out.mono ?_
            rintro e w1 ⟨rfl, hb1⟩
            obtain ⟨_, _, hcb, hbw⟩ := HI.out
            have hb2 := below_tr hb1 (bel1 w1 (.cells #[.int .u64 T, .int .u64 L] 24))
            have h2 := hcb.below hb2
            have h1 := CB.new w1 T L
            have d0 := h2.c0
            have d1 := h2.c1
            have HB2 := Lib.hid (And.intro h2 (And.intro h1 (hbw.trans (hb2.mono hbw.size))))
            clear hb1 hb2 h1 h2 hcb hbw
            cases hB : nxB T L with
            | false =>
              have HTk1 := Lib.hid (fun X => (HTk.out X).2 hB)
              have hXL := HXB.out
              rw [hB] at hXL
              have q7 : (L == 1099511627776) = true := by
                have := HNx.out.2.2 (by simpa using hXL.symm)
                simpa using this
              clear hB hXL
              go_wp2_with fail
              refine (HTk1.out _).mono ?_
              rintro e w3 ⟨rfl, hb3⟩
              obtain ⟨h2, h1, h3⟩ := HB2.out
              have h1 := (h1.below hb3).below (bel1 w3 (.cells #[.int .u64 0, .int .u64 0] 24))
              have e0 := h1.c0
              have e1 := h1.c1
              have HB3 := Lib.hid (h3.trans ((below_tr hb3 (bel1 w3 (.cells #[.int .u64 0, .int .u64 0] 24))).mono h3.size))
              clear hb3 h1 h2 h3
              go_wp2
              go_ret
              exact ⟨rfl, HB3.out⟩
            | true =>
              have HTk1 := Lib.hid (fun X => (HTk.out X).1 hB)
              have hXL := HXB.out
              rw [hB] at hXL
              have hXm : X ≤ 1099511627776 := by simpa using hXL.symm
              obtain ⟨X1, X2, _⟩ := HNx.out
              obtain ⟨l0, l1, t0, tM⟩ := HL.out
              have z1 : decide (X ≤ L) = false := by simp; omega
              have z2 : decide (X < T) = false := by simp; omega
              have z3 : decide (X < 1) = false := by simp; omega
              have z4 : decide (1099511627776 < X) = false := by simp; omega
              have z5 : (X != X) = false := by simp
              have HXm := Lib.hid (And.intro hXm (show 0 ≤ X by omega))
              clear hB hXL X1 X2 l0 l1 t0 tM hXm
              go_wp2_with fail
              refine (HTk1.out _).mono ?_
              rintro e w3 ⟨rfl, hb3⟩
              obtain ⟨h2, h1, h3⟩ := HB2.out
              have hb4 := below_tr hb3 (bel1 w3 (.cells #[.int .u64 T, .int .u64 X] 24))
              have h1 := h1.below hb4
              have h2 := h2.below hb4
              have e0 := h1.c0
              have e1 := h1.c1
              have g0 := h2.c0
              have g1 := h2.c1
              have g2 := h2.f0
              have g3 := h2.f1
              have hbw := h3.trans (hb4.mono h3.size)
              have HI4 := Lib.hid (show U6 T ∧ U6 X ∧ CB (((w3.alloc (.cells #[.int .u64 T, .int .u64 X] 24)).setCell ⟨w.heap.size, 0, none⟩ (.int .u64 T)).setCell ⟨w.heap.size, 1, none⟩ (.int .u64 X)) w.heap.size T X ∧ Below w.heap.size w (((w3.alloc (.cells #[.int .u64 T, .int .u64 X] 24)).setCell ⟨w.heap.size, 0, none⟩ (.int .u64 T)).setCell ⟨w.heap.size, 1, none⟩ (.int .u64 X)) from
                ⟨u6_of HL.out.2.2.1 HL.out.2.2.2, u6_of HXm.out.2 HXm.out.1, (h2.set0 T).set1 X, (hbw.setCell (by simp) _).setCell (by simp) _⟩)
              clear hb3 hb4 h1 h2 h3 hbw
              go_wp2
              go_roundw
              case rel => exact ⟨k + 1, T, X, by omega, by go_num, rfl, HI4⟩
              case measure => simp [intOf]; omega
          · have q2 : decide (0 ≤ x) = true := by simp; omega
            have q3 : decide (x ≤ 0) = false := by simp; omega
            have q6 : decide (T < N) = false := by have := tN (by omega); simp; omega
            clear hT hTk hRT hRt hxb hb hcb hbw uN uL hok tN tP tM t0 l0 l1 hX hXB X1 X2 X3 hx0
            go_wp2_with fail
            refine HT.out.mono ?_
            rintro e w1 ⟨rfl, hb1⟩
            obtain ⟨_, _, hcb, hbw⟩ := HI.out
            have hb2 := below_tr hb1 (bel1 w1 (.cells #[.int .u64 T, .int .u64 L] 24))
            have h2 := hcb.below hb2
            have h1 := CB.new w1 T L
            have d0 := h2.c0
            have d1 := h2.c1
            have HB2 := Lib.hid (And.intro h2 (And.intro h1 (hbw.trans (hb2.mono hbw.size))))
            clear hb1 hb2 h1 h2 hcb hbw
            cases hB : nxB T L with
            | false =>
              have HTk1 := Lib.hid (fun X => (HTk.out X).2 hB)
              have hXL := HXB.out
              rw [hB] at hXL
              have q7 : (L == 1099511627776) = true := by
                have := HNx.out.2.2 (by simpa using hXL.symm)
                simpa using this
              clear hB hXL
              go_wp2_with fail
              refine (HTk1.out _).mono ?_
              rintro e w3 ⟨rfl, hb3⟩
              obtain ⟨h2, h1, h3⟩ := HB2.out
              have h1 := (h1.below hb3).below (bel1 w3 (.cells #[.int .u64 0, .int .u64 0] 24))
              have e0 := h1.c0
              have e1 := h1.c1
              have HB3 := Lib.hid (h3.trans ((below_tr hb3 (bel1 w3 (.cells #[.int .u64 0, .int .u64 0] 24))).mono h3.size))
              clear hb3 h1 h2 h3
              go_wp2
              go_ret
              exact ⟨rfl, HB3.out⟩
            | true =>
              have HTk1 := Lib.hid (fun X => (HTk.out X).1 hB)
              have hXL := HXB.out
              rw [hB] at hXL
              have hXm : X ≤ 1099511627776 := by simpa using hXL.symm
              obtain ⟨X1, X2, _⟩ := HNx.out
              obtain ⟨l0, l1, t0, tM⟩ := HL.out
              have z1 : decide (X ≤ L) = false := by simp; omega
              have z2 : decide (X < T) = false := by simp; omega
              have z3 : decide (X < 1) = false := by simp; omega
              have z4 : decide (1099511627776 < X) = false := by simp; omega
              have z5 : (X != X) = false := by simp
              have HXm := Lib.hid (And.intro hXm (show 0 ≤ X by omega))
              clear hB hXL X1 X2 l0 l1 t0 tM hXm
              go_wp2_with fail
              refine (HTk1.out _).mono ?_
              rintro e w3 ⟨rfl, hb3⟩
              obtain ⟨h2, h1, h3⟩ := HB2.out
              have hb4 := below_tr hb3 (bel1 w3 (.cells #[.int .u64 T, .int .u64 X] 24))
              have h1 := h1.below hb4
              have h2 := h2.below hb4
              have e0 := h1.c0
              have e1 := h1.c1
              have g0 := h2.c0
              have g1 := h2.c1
              have g2 := h2.f0
              have g3 := h2.f1
              have hbw := h3.trans (hb4.mono h3.size)
              have HI4 := Lib.hid (show U6 T ∧ U6 X ∧ CB (((w3.alloc (.cells #[.int .u64 T, .int .u64 X] 24)).setCell ⟨w.heap.size, 0, none⟩ (.int .u64 T)).setCell ⟨w.heap.size, 1, none⟩ (.int .u64 X)) w.heap.size T X ∧ Below w.heap.size w (((w3.alloc (.cells #[.int .u64 T, .int .u64 X] 24)).setCell ⟨w.heap.size, 0, none⟩ (.int .u64 T)).setCell ⟨w.heap.size, 1, none⟩ (.int .u64 X)) from
                ⟨u6_of HL.out.2.2.1 HL.out.2.2.2, u6_of HXm.out.2 HXm.out.1, (h2.set0 T).set1 X, (hbw.setCell (by simp) _).setCell (by simp) _⟩)
              clear hb3 hb4 h1 h2 h3 hbw
              go_wp2
              go_roundw
              case rel => exact ⟨k + 1, T, X, by omega, by go_num, rfl, HI4⟩
              case measure => simp [intOf]; omega
      · obtain rfl : k = 100 := by omega
        go_wp2
        go_ret
        exact ⟨rfl, HI.out.2.2.2⟩

set_option maxRecDepth 100000 in
theorem lifted (os : Os) (started : os.Started) (H : Type) (enc : TypeId × Value → H) :
    ReturnsInHanded {} Try.checked os 5 .any (Rows.clockRisesSpec.pre6 enc Try.prog Try.f5 Rows.clockRisesRow.domain false) (Rows.clockRisesSpec.post enc Try.prog Try.f5 false true false false) := by
  refine returnsInHanded_of_change (C := Try.checked) Try.own started (by kernel_rfl) Try.func5
    (ChangeSpec.witness6 (enc := enc) (C := Try.checked) false ⟨#[], #[.agg #[.int .u64 0, .int .u64 0], .slice none 0 0], []⟩ 8 (by kernel_rfl) (by kernel_rfl) (by kernel_rfl) (by kernel_rfl)) ?_
  intro W base args ds gs before hval0 hW hcnd _
  have hval : ∀ (j : Nat) t v, Try.f5.params[j]? = some t → args[j]? = some v → Value.okWide Try.prog W .any base t v := hval0
  have hW' := hW
  obtain ⟨p, q, hA0, hV, rfl, hfz, hnd⟩ := hW
  have hA : DataW.TrodAll enc Try.prog W 0 (fun _ => true) true Try.f5.params.toList args.toList ds p := hA0
  rw [Try.params5] at hA hval
  have hA' := hA
  obtain ⟨v0, vs0, d0, ds0, p0, q0, hargs, rfl, rfl, h0, r0⟩ := trodAll_cons hA
  obtain ⟨v1, vs1, d1, ds1, p1, q1, rfl, rfl, rfl, h1, r1⟩ := trodAll_cons r0
  obtain ⟨rfl, rfl, rfl⟩ := trodAll_nil r1
  obtain rfl : args = #[v0, v1] := by cases args; simp_all
  obtain ⟨rfl, rfl⟩ := trodVars_none hV
  obtain ⟨a0, b0, rfl, ua0, ub0⟩ := open_clock (hval 0 24 v0 rfl rfl) h0
  obtain ⟨A1, len1, c1, rfl⟩ := okWide_slice Try.underlying40 (hval 1 40 v1 rfl rfl)
  obtain ⟨z1, rfl, sl1⟩ := open_nums h1
  clear hA0 hval0
  refine (walk a0 b0 ua0 ub0 A1 c1 z1 sl1).mono fun e W' ⟨he, bel⟩ => ?_
  subst he
  exact ⟨_, rfl, _, _, _, [], _, [], hW', trodAll_mk1 (shut_bool Try.underlying4 _), trodAll_below bel _ _ _ _ (by kernel_rfl) hA', rfl, bel.frame _, fun h => by cases h⟩

theorem proved : Rows.ClockRisesSaid :=
  OpenClaim.holds_of_wide 5 Try.f5 rfl rfl rfl rfl rfl rfl rfl ⟨rfl, rfl, rfl, rfl, rfl⟩ rfl rfl rfl rfl rfl (by kernel_rfl) Try.func5 (by kernel_rfl)
    (of_decide_eq_true (by kernel_rfl)) (by unfold Func.isWrapper; first | (rw [if_pos (by decide +kernel)]; kernel_rfl) | (rw [if_neg (by decide +kernel)]; exact ⟨rfl, rfl⟩))
    (fun os started H enc _ => lifted os started H enc)
#print axioms proved
end Go.Proofs.Ytcohaaobdpcoiaa.clockRises
