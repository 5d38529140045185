/-
  step, steps, and the iterator that steps answers.
-/
import Derived.Test.YtcohaaobdpcoiaaClkAsk
namespace Go.Proofs.Ytcohaaobdpcoiaa
open Go.RowKit Go.Shelf
set_option linter.unusedVariables false
set_option linter.unusedSimpArgs false
set_option maxRecDepth 100000
attribute [local go_sem] Oper.semAt_some

theorem Rt.okC {c : Int × Int} (h : Rt c) : okC c.1 c.2 = true := okC_iff.2 ⟨h.n1, h.l1⟩
theorem u6_of {x : Int} (h0 : 0 ≤ x) (h1 : x ≤ 1099511627776) : U6 x := ⟨h0, by omega⟩
theorem Rt.u1 {c : Int × Int} (h : Rt c) : U6 c.1 := u6_of h.n0 h.n1
theorem Rt.u2 {c : Int × Int} (h : Rt c) : U6 c.2 := u6_of h.l0 h.l1
theorem tick_rt {c : Int × Int} (h : Rt c) (b : Int) (hb : -9223372036854775808 ≤ b ∧ b ≤ 9223372036854775807) (w : World) :
    Calls Try.prog 9 #[.agg #[.int .u64 c.1, .int .u64 c.2], .int .i64 b] w fun e w' => e = .returned (.tuple #[.agg #[.int .u64 (tickN c.1 b), .int .u64 c.2], .int .i64 0]) ∧ Below w.heap.size w w' := by
  have := tick_any c.1 c.2 b w h.u1 h.u2 hb
  rw [show chkC c.1 c.2 = 0 from by unfold chkC; rw [h.okC]; rfl, h.okC, if_pos rfl, if_pos rfl] at this
  exact this
theorem Rt.tick {c : Int × Int} (h : Rt c) (b : Int) : Rt (tickN c.1 b, c.2) := ⟨tickN_ok.1, tickN_ok.2, h.l0, h.l1⟩
theorem nxE_rt {c : Int × Int} (h : Rt c) : nxE c.1 c.2 = if nxB c.1 c.2 = true then 0 else 251 := by unfold nxE; rw [h.okC, if_pos rfl]

set_option maxHeartbeats 1000000 in
theorem step_any {c : Int × Int} (h : Rt c) (b : Int) (hb : -9223372036854775808 ≤ b ∧ b ≤ 9223372036854775807) (w : World) :
    Calls Try.prog 22 #[.agg #[.int .u64 c.1, .int .u64 c.2], .int .i64 b] w fun e w' => e = .returned (.tuple #[.agg #[.int .u64 (stp c b).1.1, .int .u64 (stp c b).1.2], .int .i64 (stp c b).2]) ∧ Below w.heap.size w w' := by
  obtain ⟨N, L⟩ := c
  obtain ⟨W0, hW0⟩ : ∃ W0, W0 = (w.alloc (.cells #[.int .u64 N, .int .u64 L] 24)).alloc (.cells #[.int .u64 0, .int .u64 0] 24) := ⟨_, rfl⟩
  have hb0 : Below w.heap.size w W0 := by rw [hW0]; exact bel2 _ _ _
  have hc0 : CB W0 w.heap.size N L := by rw [hW0]; exact (CB.new _ _ _).below (bel1 _ _)
  have hc1 : CB W0 (w.heap.size + 1) 0 0 := by rw [hW0]; have := CB.new (w.alloc (.cells #[.int .u64 N, .int .u64 L] 24)) 0 0; rwa [World.size_alloc] at this
  have hT := h.tick b
  have HC := Lib.hid (tick_rt h b hb W0)
  have HTk := Lib.hid (fun (X : World) => take_any (tickN N b) L X hT.u1 hT.u2)
  have hne := nxE_rt hT
  dsimp only at HC HTk hne ⊢
  have HB := Lib.hid hb0
  have HW := Lib.hid hW0
  have HX := Lib.hid hc1
  have c0 := hc0.c0
  have c1 := hc0.c1
  have hs : stp (N, L) b = if nxB (tickN N b) L = true then ((tickN N b, nxT (tickN N b) L), 0) else ((tickN N b, L), 251) := rfl
  have hTN : tkN (tickN N b) L = if nxE (tickN N b) L = 0 then tickN N b else 0 := rfl
  have hTL : tkL (tickN N b) L = if nxE (tickN N b) L = 0 then nxT (tickN N b) L else 0 := rfl
  generalize tickN N b = T at *
  generalize nxV T L = V at *
  generalize tkN T L = TN at *
  generalize tkL T L = TL at *
  cases hk : nxB T L with
  | true =>
    rw [hk, if_pos rfl] at hs hne
    rw [hne] at HTk
    rw [hne, if_pos rfl] at hTN hTL
    rw [hs]
    subst hTN
    rw [← hTL]
    clear hs hne hTL hk h hb hT hb0 hc0 hc1 hW0
    go_enter Try.func22, Try.ntmps22
    go_wp2_with (rw [← HW.out])
    refine HC.out.mono ?_
    rintro e w1 ⟨rfl, hb1⟩
    have HB1 := Lib.hid (HB.out.trans (hb1.mono HB.out.size))
    have HX1 := Lib.hid (HX.out.below hb1)
    clear hb1
    go_wp2_with fail
    refine (HTk.out _).mono ?_
    rintro e w2 ⟨rfl, hb2⟩
    have hb12 := (bel1 w1 (.cells #[.int .u64 TN, .int .u64 L] 24)).trans (hb2.mono (by simp))
    have hb3 := below_tr hb12 (bel1 w2 (.cells #[.int .u64 TN, .int .u64 TL] 24))
    have HB2 := Lib.hid (HB1.out.trans (hb3.mono HB1.out.size))
    have x1 := HX1.out.below hb3
    have HX2 := Lib.hid x1
    have d0 := x1.c0
    have d1 := x1.c1
    have f0 := x1.f0
    have f1 := x1.f1
    clear hb2 hb12 hb3 x1
    go_wp2
    have HZ := Lib.hid (HX2.out.put2 HB2.out (by omega) TN TL)
    refine bodyPost_ret (v := .tuple #[.agg #[.int .u64 TN, .int .u64 TL], .int .i64 0]) (by simp [results, Try.results22, go_sem, HZ.out.1, HZ.out.2.1]) rfl ?_
    exact ⟨rfl, HZ.out.2.2⟩
  | false =>
    rw [hk, if_neg (by simp)] at hs hne
    rw [hne] at HTk
    rw [hne, if_neg (by omega)] at hTN hTL
    rw [hs]
    subst hTN hTL
    clear hs hne hk h hb hT hb0 hc0 hc1 hW0
    go_enter Try.func22, Try.ntmps22
    go_wp2_with (rw [← HW.out])
    refine HC.out.mono ?_
    rintro e w1 ⟨rfl, hb1⟩
    have HB1 := Lib.hid (HB.out.trans (hb1.mono HB.out.size))
    have HX1 := Lib.hid (HX.out.below hb1)
    clear hb1
    go_wp2_with fail
    refine (HTk.out _).mono ?_
    rintro e w2 ⟨rfl, hb2⟩
    have y1 := (CB.new w1 T L).below hb2
    have hb12 := (bel1 w1 (.cells #[.int .u64 T, .int .u64 L] 24)).trans (hb2.mono (by simp))
    have hb3 := below_tr hb12 (bel1 w2 (.cells #[.int .u64 0, .int .u64 0] 24))
    have HB2 := Lib.hid (HB1.out.trans (hb3.mono HB1.out.size))
    have y1 := y1.below (bel1 w2 (.cells #[.int .u64 0, .int .u64 0] 24))
    have x1 := HX1.out.below hb3
    have HX2 := Lib.hid x1
    have e0 := y1.c0
    have e1 := y1.c1
    have d0 := x1.c0
    have d1 := x1.c1
    have f0 := x1.f0
    have f1 := x1.f1
    clear hb2 hb12 hb3 x1 y1
    go_wp2
    have HZ := Lib.hid (HX2.out.put2 HB2.out (by omega) T L)
    refine bodyPost_ret (v := .tuple #[.agg #[.int .u64 T, .int .u64 L], .int .i64 251]) (by simp [results, Try.results22, go_sem, HZ.out.1, HZ.out.2.1]) rfl ?_
    exact ⟨rfl, HZ.out.2.2⟩

theorem steps_any (N L : Int) (A : Option Addr) (n c : Nat) (w : World) : Calls Try.prog 20 #[.agg #[.int .u64 N, .int .u64 L], .slice A n c] w fun e w' => e = .returned (.func (.func 21) #[] #[.pointer (some ⟨w.heap.size, 0, none⟩), .pointer (some ⟨w.heap.size + 1, 0, none⟩)]) ∧ w' = (w.alloc (.cells #[.int .u64 N, .int .u64 L] 24)).alloc (.cells #[.slice A n c] 40) := by
  go_enter Try.func20, Try.ntmps20
  go_wp2
  go_ret
  exact ⟨rfl, rfl⟩

/-! ### the iterator -/
def encS (x : (Int × Int) × Int) : Array Value := #[.agg #[.int .u64 x.1.1, .int .u64 x.1.2], .int .i64 x.2]
/-- What comes next, behind those that were told. -/
def NxS (xs : List Int) (c : Int × Int) (pre : List ((Int × Int) × Int)) (x : (Int × Int) × Int) : Prop := ∃ k, k < xs.length ∧ pre = elsK xs c k ∧ x = elK xs c k
def OwC (W : World) (k : Nat) : Prop := ∃ cs, W.heap[k]? = some (.cells cs 24 (0, 0))

set_option maxHeartbeats 4000000 in
theorem steps1_in {w w0 : World} {A : Option Addr} {ca : Nat} {xs : List Int} {c : Int × Int} (hc : Rt c) (n p q : Nat) (D : Nat → Prop) (hn : 1 ≤ n)
    (hp : CB w p c.1 c.2) (hq : w.cell? ⟨q, 0, none⟩ = some (.slice A xs.length ca)) (hv : Vec .i64 w0 A ca xs) (hw0 : Below w0.heap.size w0 w) (hD : ∀ i, D i → w0.heap.size ≤ i) (hDw : ∀ i, D i → i < w.heap.size) :
    SeqOwn Fence.wide n Try.prog 21 #[.pointer (some ⟨p, 0, none⟩), .pointer (some ⟨q, 0, none⟩)] encS OwC (fun _ _ _ => True) (KpS D 24) (NxS xs c) (fun l => l = elsK xs c xs.length) (fun _ => True) w := by
  intro l J Jx W hW hJ hJx hY h0
  have hcp : CB W p c.1 c.2 := (hW.block _ hp.lt).trans hp
  have hcq : W.cell? ⟨q, 0, none⟩ = some (.slice A xs.length ca) := (hW.cell (p := ⟨q, 0, none⟩) (World.block_lt_of_cell? w _ hq)).trans hq
  have hwW : Below w0.heap.size w0 W := hw0.trans (hW.mono hw0.size)
  obtain ⟨m, hm⟩ : ∃ m, m = xs.length := ⟨_, rfl⟩
  have hmx : m ≤ 9223372036854775807 := by rw [hm]; exact Nat.le_trans hv.room hv.most
  have d0 := hcp.c0
  have d1 := hcp.c1
  have hb1 := bel1 W (.cells #[.int .u64 c.1, .int .u64 c.2] 24)
  have hcq1 := (hb1.cell (p := ⟨q, 0, none⟩) (World.block_lt_of_cell? W _ hcq)).trans hcq
  have HV := Lib.hid hv
  have HWW := Lib.hid hwW
  have HJ := Lib.hid hJ
  have HY := Lib.hid hY
  have H0 := Lib.hid h0
  have HM := Lib.hid hm
  have HD := Lib.hid hD
  have HDW := Lib.hid (fun i hi => Nat.lt_of_lt_of_le (hDw i hi) hW.size)
  have HRt := Lib.hid hc
  have HI0 := Lib.hid (show J (elsK xs c 0) (W.alloc (.cells #[.int .u64 c.1, .int .u64 c.2] 24)) ∧ CB (W.alloc (.cells #[.int .u64 c.1, .int .u64 c.2] 24)) W.heap.size (stA xs c 0).1 (stA xs c 0).2 ∧ KpB D W.heap.size W (W.alloc (.cells #[.int .u64 c.1, .int .u64 c.2] 24)) from
    ⟨hJ _ W _ h0 (Turn.of_below hb1), CB.new W _ _, KpB.below hb1⟩)
  rw [← hm] at hcq1
  clear hp hq hv hw0 hD hDw hW hJ hJx hY h0 hm hwW hc hcp hcq hb1
  refine callsIn_of_wp Try.func21 rfl trivial ?_ rfl
  simp only [Try.ntmps21, List.size_toArray, List.length_cons, List.length_nil, Nat.reduceAdd, Nat.reduceSub, Array.replicate_succ, Array.replicate_zero, List.push_toArray, List.append_toArray, List.nil_append, List.cons_append]
  gi_wp2
  gi_loopw [11] (fun i wr => ∃ k : Nat, i = .int .i64 k ∧ k ≤ m ∧ Hid (J (elsK xs c k) wr ∧ CB wr W.heap.size (stA xs c k).1 (stA xs c k).2 ∧ KpB D W.heap.size W wr)) (fun i _ => m - (match i with | .int _ k => k.toNat | _ => 0))
  case atStart => exact ⟨0, rfl, Nat.zero_le _, HI0⟩
  case round =>
    obtain ⟨k, rfl, hk, HH⟩ := hrel
    by_cases hkm : k < m
    · have hkk : (k : Int) < m := by omega
      have k0 : (0 : Int) ≤ (k : Int) := by omega
      have hvr := HH.out.2.2.vec HV.out HWW.out HWW.out.size HD.out
      obtain ⟨b, o, rfl, hb, hx⟩ := hvr.at_ (j := k) (by rw [← HM.out]; exact hkm)
      have hxw : (Lit.int .i64 (xs.getD k 0)).wf = true := HV.out.fit _ (by
        have : k < xs.length := by rw [← HM.out]; exact hkm
        simp [List.getD, List.getElem?_eq_getElem this])
      have hxb := i64_fit hxw
      have hst := HRt.out.st xs k
      have hcb := HH.out.2.1
      have e0 := hcb.c0
      have e1 := hcb.c1
      have HC := Lib.hid (step_any hst (xs.getD k 0) hxb wr)
      have HEl := Lib.hid (show stp (stA xs c k) (xs.getD k 0) = elK xs c k from rfl)
      have HNx := Lib.hid (show NxS xs c (elsK xs c k) (elK xs c k) from ⟨k, by rw [← HM.out]; exact hkm, rfl, rfl⟩)
      have HSt := Lib.hid (show stA xs c (k + 1) = (elK xs c k).1 from rfl)
      have HEs := Lib.hid (show elsK xs c (k + 1) = elsK xs c k ++ [elK xs c k] from rfl)
      generalize stp (stA xs c k) (xs.getD k 0) = z at *
      generalize xs.getD k 0 = x at *
      generalize stA xs c k = st at *
      clear hvr hb hxw hst hcb
      rw [← HEl.out] at HNx HSt HEs
      obtain ⟨⟨z1, z2⟩, z3⟩ := z
      obtain ⟨st1, st2⟩ := st
      dsimp only at *
      gi_wp2
      refine ⟨trivial, (callsIn_wide.2 HC.out).mono ?_⟩
      rintro e w2 ⟨rfl, hb2⟩
      have hcb := HH.out.2.1
      have hc2 := hcb.below hb2
      have g0 := hc2.c0
      have g1 := hc2.c1
      have f0 := hc2.f0
      have f1 := hc2.f1
      obtain ⟨W3, hW3⟩ : ∃ W3, W3 = (w2.setCell ⟨W.heap.size, 0, none⟩ (.int .u64 z1)).setCell ⟨W.heap.size, 1, none⟩ (.int .u64 z2) := ⟨_, rfl⟩
      have hc3 : CB W3 W.heap.size z1 z2 := by rw [hW3]; exact (hc2.set0 z1).set1 z2
      have ht3 : Turn (fun i => i = W.heap.size) wr W3 := by
        rw [hW3]
        exact ((Turn.of_below (S := fun i => i = W.heap.size) hb2).trans (turn_set _ _ _ _) (fun i hi => .inl hi)).trans (turn_set _ _ _ _) (fun i hi => .inl hi)
      have hJ3 : J (elsK xs c k) W3 := HJ.out _ wr W3 HH.out.1 (ht3.mono (fun i hi => by
        obtain rfl : i = W.heap.size := hi
        exact ⟨Nat.le_refl _, _, hcb⟩))
      have hk3 : KpB D W.heap.size W W3 := HH.out.2.2.trans (KpB.turn ht3 (fun i hi => by omega))
      obtain ⟨fn, tmps, assign, body, hy, hR⟩ := HY.out (elsK xs c k) ((z1, z2), z3) W3 hJ3 hk3.size trivial HNx.out
      have HK3 := Lib.hid (And.intro hc3 hk3)
      have HR := Lib.hid hR
      have HW3 := Lib.hid hW3
      unfold encS at hy
      dsimp only at hy
      have z0 := hc3.c0
      have z9 := hc3.c1
      clear hb2 hcb hc2 hc3 ht3 hJ3 hk3 hR hW3
      gi_wp2_with (rw [← HW3.out])
      refine HR.out.mono ?_
      rintro e W4 (⟨rfl, hJ4, hk4⟩ | ⟨rfl, hJx4⟩)
      · obtain ⟨hc3, hk3⟩ := HK3.out
        have hc4 : CB W4 W.heap.size z1 z2 := hk4.keep _ _ _ _ (.inr rfl) (fun e => Nat.lt_irrefl _ (HDW.out _ e)) hc3
        have HH4 := Lib.hid (show J (elsK xs c (k + 1)) W4 ∧ CB W4 W.heap.size (stA xs c (k + 1)).1 (stA xs c (k + 1)).2 ∧ KpB D W.heap.size W W4 from by
          rw [HEs.out, HSt.out]
          exact ⟨hJ4, hc4, hk3.trans hk4.b⟩)
        clear hJ4 hk4 hc3 hk3 hc4 z0 z9
        gi_wp2
        go_roundw
        case rel => exact ⟨k + 1, by simp, by omega, HH4⟩
        case measure => simp; omega
      · have HX3 := Lib.hid hJx4
        clear hJx4
        gi_wp2
        refine bodyPost_ret (results_none rfl _ _ _) rfl ?_
        exact ⟨⟨_, rfl⟩, .inr ⟨_, trivial, HX3.out⟩⟩
    · obtain rfl : k = m := by omega
      have HF := Lib.hid (show J (elsK xs c xs.length) wr by rw [← HM.out]; exact HH.out.1)
      gi_wp2
      go_end0
      exact ⟨⟨_, rfl⟩, .inl ⟨_, rfl, HF.out⟩⟩

end Go.Proofs.Ytcohaaobdpcoiaa
