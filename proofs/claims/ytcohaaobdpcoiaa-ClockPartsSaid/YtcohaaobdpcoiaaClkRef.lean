/-
  slices.Equal at numbers; the document's Run.
-/
import Derived.Test.YtcohaaobdpcoiaaClkRun
namespace Go.Proofs.Ytcohaaobdpcoiaa
open Go.RowKit Go.Shelf
set_option linter.unusedVariables false
set_option linter.unusedSimpArgs false
set_option maxRecDepth 100000

set_option maxHeartbeats 400000 in
theorem eqU_any (A A' : Option Addr) (c c' : Nat) (a b : List Int) (w : World) (ha : Vec .u64 w A c a) (hb : Vec .u64 w A' c' b) :
    Calls Try.prog 18 #[.slice A a.length c, .slice A' b.length c'] w fun e w' => e = .returned (.bool (decide (a = b))) ∧ Below w.heap.size w w' := by
  by_cases hl : b.length = a.length
  · obtain ⟨R, hR⟩ : ∃ R, R = decide (a = b) := ⟨_, rfl⟩
    rw [hl, ← hR]
    obtain ⟨m, hm⟩ : ∃ m, m = a.length := ⟨_, rfl⟩
    have hmx : m ≤ 9223372036854775807 := by rw [hm]; exact Nat.le_trans ha.room ha.most
    rw [← hm]
    have HA := Lib.hid ha
    have HB := Lib.hid hb
    have HM := Lib.hid hm
    have HL := Lib.hid hl
    have HR := Lib.hid hR
    clear ha hb hm hl hR
    go_enter Try.func18, Try.ntmps18
    go_wp2
    go_loopw [13] (fun i wr => ∃ k q : Nat, k ≤ m ∧ i = .int .i64 k ∧ wr = w.drewN q ∧ Hid (a.take k = b.take k)) (fun i _ => m - (intOf i).toNat)
    case atStart => exact ⟨0, 0, Nat.zero_le _, rfl, rfl, Lib.hid rfl⟩
    case round =>
      obtain ⟨k, q, hk, rfl, rfl, HK⟩ := hrel
      by_cases hkm : k < m
      · obtain ⟨g1, o1, rfl, _, hc1⟩ := HA.out.at_ (j := k) (by rw [← HM.out]; exact hkm)
        obtain ⟨g2, o2, rfl, _, hc2⟩ := HB.out.at_ (j := k) (by rw [HL.out, ← HM.out]; exact hkm)
        have hx := getD_some (a := a) (k := k) (by rw [← HM.out]; exact hkm)
        have hy := getD_some (a := b) (k := k) (by rw [HL.out, ← HM.out]; exact hkm)
        have k0 : (0 : Int) ≤ k := by omega
        have km : (k : Int) < m := by omega
        generalize a.getD k 0 = x at *
        generalize b.getD k 0 = y at *
        by_cases hxy : x = y
        · have HS := Lib.hid (take_eq_snoc HK.out hx hy hxy)
          subst hxy
          clear hx hy
          go_wp2
          go_quiet (fail)
          go_wp2
          go_roundw
          case rel => exact ⟨k + 1, q + nq, by omega, by go_num, by simp [World.drewN], HS⟩
          case measure => simp [intOf]; omega
        · have HF := Lib.hid (show R = false by rw [HR.out]; exact decide_eq_false (fun e => by subst e; rw [hx] at hy; cases hy; exact hxy rfl))
          have t1 : (x != y) = true := by simpa using hxy
          have t2 : (x == y) = false := by simpa using hxy
          clear hx hy
          go_wp2
          go_quiet (fail)
          go_wp2
          go_ret
          rw [HF.out]
          exact ⟨rfl, below_drewN (below_drewN (Below.refl _ _) _) _⟩
      · obtain rfl : k = m := by omega
        have HT := Lib.hid (show R = true by
          rw [HR.out]
          refine decide_eq_true ?_
          have := HK.out
          rw [HM.out, List.take_length, ← HL.out, List.take_length] at this
          exact this)
        go_wp2
        go_ret
        rw [HT.out]
        exact ⟨rfl, below_drewN (Below.refl _ _) _⟩
  · have HT := Lib.hid (show decide (a = b) = false from decide_eq_false (fun e => hl (by rw [e])))
    generalize decide (a = b) = R at *
    generalize a.length = n at *
    generalize b.length = m at *
    have t2 : ((n : Int) != (m : Int)) = true := by simp; omega
    have t3 : ((n : Int) == (m : Int)) = false := by simp; omega
    have t4 : (n == m) = false := by simp; omega
    clear hl ha hb
    go_enter Try.func18, Try.ntmps18
    go_wp2
    go_ret
    rw [HT.out]
    exact ⟨rfl, Below.refl _ _⟩

/-! ### wakes -/
theorem rn_wake : rnC [3, -3, 0, 9] (0, 0) = (9, 9) ∧ rnL [3, -3, 0, 9] (0, 0) = [3, 4, 5, 9] ∧ rnE [3, -3, 0, 9] (0, 0) = 0 := by decide +kernel

theorem lit_in (w : World) : OwnK .i64 2 w.heap.size (w.alloc (.cells #[.int .i64 3, .int .i64 (-3), .int .i64 0, .int .i64 9] 2)) (some ⟨w.heap.size, 0, none⟩) 4 [3, -3, 0, 9] :=
  ⟨World.ownsRow_lit (base := w.heap.size) (size := 1) (e := 2) w #[.int .i64 3, .int .i64 (-3), .int .i64 0, .int .i64 9] 4 (Nat.le_refl _) (by decide) rfl, by decide⟩
theorem lit_out (w : World) : OwnK .u64 22 w.heap.size (w.alloc (.cells #[.int .u64 3, .int .u64 4, .int .u64 5, .int .u64 9] 22)) (some ⟨w.heap.size, 0, none⟩) 4 [3, 4, 5, 9] :=
  ⟨World.ownsRow_lit (base := w.heap.size) (size := 1) (e := 22) w #[.int .u64 3, .int .u64 4, .int .u64 5, .int .u64 9] 4 (Nat.le_refl _) (by decide) rfl, by decide⟩

set_option maxHeartbeats 1000000 in
theorem wakes_any (w : World) : Calls Try.prog 7 #[] w fun e w' => e = .returned (.bool true) ∧ Below w.heap.size w w' := by
  have hin := lit_in w
  have HR := run_any (w := w.alloc (.cells #[.int .i64 3, .int .i64 (-3), .int .i64 0, .int .i64 9] 2)) (0, 0) ⟨by omega, by omega⟩ ⟨by omega, by omega⟩ hin.vec (by decide)
  unfold GivesR at HR
  rw [rn_wake.1, rn_wake.2.1, rn_wake.2.2] at HR
  have HR := Lib.hid HR
  have bz := bldZ
  clear hin
  go_enter Try.func7, Try.ntmps7
  go_wp2_with fail
  refine HR.out.mono ?_
  rintro e w1 ⟨A1, c1, rfl, ho, hb1⟩
  have hb2 : Below w.heap.size w w1 := (bel1 w _).trans (hb1.mono (by simp))
  have hb3 := below_tr (bel1 w1 (.cells #[.int .u64 9, .int .u64 9] 24)) (bel1 (w1.alloc (.cells #[.int .u64 9, .int .u64 9] 24)) (.cells #[.int .u64 3, .int .u64 4, .int .u64 5, .int .u64 9] 22))
  have hl := lit_out (w1.alloc (.cells #[.int .u64 9, .int .u64 9] 24))
  have HE := eqU_any A1 _ c1 _ _ _ _ (ho.below hb3).vec hl.vec
  rw [World.size_alloc] at HE
  have HE := Lib.hid HE
  have HB := Lib.hid (hb2.trans (hb3.mono hb2.size))
  clear ho hb1 hb2 hb3 hl
  go_wp2_with fail
  refine HE.out.mono ?_
  rintro e w2 ⟨rfl, hb2⟩
  have HB2 := Lib.hid (HB.out.trans (hb2.mono HB.out.size))
  clear hb2
  go_wp2
  go_ret
  exact ⟨by simp, HB2.out⟩

/-! ### the document's Run -/
/-- What the document's run has come to. -/
def RrI (w : World) (xs : List Int) (c : Int × Int) (k : Nat) (A1 : Option Addr) (c1 : Nat) (W : World) : Prop :=
  (rn xs c k).2.2 = true ∧ CB W w.heap.size (stA xs c k).1 (stA xs c k).2 ∧ CB W (w.heap.size + 1) 0 0 ∧ OwnK .u64 22 (w.heap.size + 2) W A1 c1 (rn xs c k).2.1 ∧ Below w.heap.size w W

theorem rr_step {w W6 W7 w5 : World} {xs : List Int} {c : Int × Int} {k : Nat} {A1 A5 : Option Addr} {c1 c5 : Nat} {T X : Int} (hok : (rn xs c k).2.2 = true) (hel : elK xs c k = ((T, X), 0)) (hX : U6 X)
    (hcb : CB W6 w.heap.size T X) (hc1 : CB W6 (w.heap.size + 1) 0 0) (hown : OwnK .u64 22 (w.heap.size + 2) W6 A1 c1 (rn xs c k).2.1) (hb : Below w.heap.size w W6) (h7 : Below W6.heap.size W6 W7)
    (ho : w5.ownsRow (w.heap.size + 2) 22 1 (.slice A5 (k + 1) c5) (k + 1) ((rn xs c k).2.1.map (Value.int .u64) ++ [.int .u64 X])) (hg : W7.grownBy w5 (blk A1)) : RrI w xs c (k + 1) A5 c5 w5 := by
  have hA := hown.low
  have hlen := (rn_st xs c k hok).2
  have t : Turn (fun i => blk A1 = some i) W6 w5 := (Turn.of_below (S := fun i => blk A1 = some i) h7).trans (Turn.of_grown (S := fun i => blk A1 = some i) hg (fun i hi => .inl hi)) (fun i hi => .inl hi)
  have hst : stA xs c (k + 1) = (T, X) := by show (elK xs c k).1 = _; rw [hel]
  have hrn := rn_go hok (by rw [hel])
  rw [hel] at hrn
  refine ⟨by rw [hrn], by rw [hst]; exact hcb.turn t (fun e => by have := hA _ e; omega), hc1.turn t (fun e => by have := hA _ e; omega), ⟨?_, ?_⟩, hb.trans (t.below hb.size (fun i hi => by have := hA i hi; omega))⟩
  · rw [hrn]
    show World.ownsRow _ _ 22 1 (.slice A5 ((rn xs c k).2.1 ++ [X]).length c5) ((rn xs c k).2.1 ++ [X]).length (((rn xs c k).2.1 ++ [X]).map (Value.int .u64))
    rw [List.length_append, hlen, List.map_append]
    exact ho
  · rw [hrn]
    intro t ht
    rcases List.mem_append.1 ht with h | h
    · exact hown.2 t h
    · obtain rfl : t = X := by simpa using h
      exact WalkArith.wf_u64 ⟨hX.1, by have := hX.2; omega⟩

set_option maxHeartbeats 4000000 in
theorem rRun_any {w : World} {A : Option Addr} {ca : Nat} {xs : List Int} (c : Int × Int) (hc : Rt c) (hv : Vec .i64 w A ca xs) (hx : xs.length ≤ 1000000) :
    Calls Try.prog 17 #[.agg #[.int .u64 c.1, .int .u64 c.2], .slice A xs.length ca] w fun e w' => ∃ A1 c1, e = .returned (.tuple #[.agg #[.int .u64 (rn xs c xs.length).1.1, .int .u64 (rn xs c xs.length).1.2], .slice A1 (rn xs c xs.length).2.1.length c1, .bool (rn xs c xs.length).2.2]) ∧ OwnK .u64 22 w.heap.size w' A1 c1 (rn xs c xs.length).2.1 ∧ Below w.heap.size w w' := by
  obtain ⟨N, L⟩ := c
  dsimp only
  obtain ⟨W0, hW0⟩ : ∃ W0, W0 = (w.alloc (.cells #[.int .u64 N, .int .u64 L] 24)).alloc (.cells #[.int .u64 0, .int .u64 0] 24) := ⟨_, rfl⟩
  have hb0 : Below w.heap.size w W0 := by rw [hW0]; exact bel2 _ _ _
  have hc0 : CB W0 w.heap.size N L := by rw [hW0]; exact (CB.new _ _ _).below (bel1 _ _)
  have hc1 : CB W0 (w.heap.size + 1) 0 0 := by rw [hW0]; have := CB.new (w.alloc (.cells #[.int .u64 N, .int .u64 L] 24)) 0 0; rwa [World.size_alloc] at this
  have HI0 := Lib.hid (show RrI w xs (N, L) 0 none 0 W0 from ⟨rfl, hc0, hc1, OwnK.nil _ _, hb0⟩)
  have HW := Lib.hid hW0
  obtain ⟨m, hm⟩ : ∃ m, m = xs.length := ⟨_, rfl⟩
  have hmx : m ≤ 1000000 := by omega
  have HM := Lib.hid hm
  have HV := Lib.hid hv
  have HRt := Lib.hid hc
  rw [← hm]
  clear hm hv hx hc hb0 hc0 hc1 hW0
  go_enter Try.func17, Try.ntmps17
  go_wp2_with (rw [← HW.out])
  go_loopw [7, 8] (fun hs i wr => ∃ (k : Nat) (A1 : Option Addr) (c1 : Nat), k ≤ m ∧ i = .int .i64 k ∧ hs = .slice A1 k c1 ∧ Hid (RrI w xs (N, L) k A1 c1 wr)) (fun _ i _ => m - (intOf i).toNat)
  case atStart => exact ⟨0, none, 0, Nat.zero_le _, rfl, rfl, HI0⟩
  case round =>
    obtain ⟨k, A1, c1', hk, rfl, rfl, HI⟩ := hrel
    by_cases hkm : k < m
    · obtain ⟨hok, hcb, hc1, hown, hbw⟩ := HI.out
      obtain ⟨b, o, rfl, hb, hx⟩ := (HV.out.below hbw).at_ (j := k) (by rw [← HM.out]; exact hkm)
      have hxw : (Lit.int .i64 (xs.getD k 0)).wf = true := HV.out.fit _ (by
        have : k < xs.length := by rw [← HM.out]; exact hkm
        simp [List.getD, List.getElem?_eq_getElem this])
      have hxb := i64_fit hxw
      have hst := HRt.out.st xs k
      have k0 : (0 : Int) ≤ k := by omega
      have km : (k : Int) < m := by omega
      have HK := Lib.hid (fun (X : World) (hX : Below wr.heap.size wr X) => show X.cell? ⟨w.heap.size, 0, none⟩ = some (.int .u64 (stA xs (N, L) k).1) ∧ X.cell? ⟨w.heap.size, 1, none⟩ = some (.int .u64 (stA xs (N, L) k).2) ∧ X.frozen? ⟨w.heap.size, 0, none⟩ = false ∧ X.frozen? ⟨w.heap.size, 1, none⟩ = false ∧ X.cell? ⟨b, o + k, none⟩ = some (.int .i64 (xs.getD k 0)) from
        ⟨(hcb.below hX).c0, (hcb.below hX).c1, (hcb.below hX).f0, (hcb.below hX).f1, (hX.cell (p := ⟨b, o + k, none⟩) hb).trans hx⟩)
      have HTk := Lib.hid (fun (X : World) => rTick_any (stA xs (N, L) k).1 (stA xs (N, L) k).2 (xs.getD k 0) X hst.n0 hst.n1 hxb)
      obtain ⟨e0, e1, f0, f1, e2⟩ := HK.out wr (Below.refl _ _)
      have hT := hst.tick (xs.getD k 0)
      have HT0 := Lib.hid (And.intro hT.n0 hst.l0)
      have HNx := Lib.hid (fun (X : World) => rNext_any (tickN (stA xs (N, L) k).1 (xs.getD k 0)) (stA xs (N, L) k).2 X hT.u1 hst.l0 hst.l1)
      have HEl := Lib.hid (show elK xs (N, L) k = stp (stA xs (N, L) k) (xs.getD k 0) from rfl)
      have hsp : stp (stA xs (N, L) k) (xs.getD k 0) = if nxB (tickN (stA xs (N, L) k).1 (xs.getD k 0)) (stA xs (N, L) k).2 = true then ((tickN (stA xs (N, L) k).1 (xs.getD k 0), nxT (tickN (stA xs (N, L) k).1 (xs.getD k 0)) (stA xs (N, L) k).2), 0) else ((tickN (stA xs (N, L) k).1 (xs.getD k 0), (stA xs (N, L) k).2), 251) := rfl
      clear hxw hst hok hcb hc1 hown hbw hb hx hT
      generalize xs.getD k 0 = x at *
      generalize stA xs (N, L) k = st at *
      obtain ⟨s1, s2⟩ := st
      dsimp only at *
      generalize tickN s1 x = T at *
      have HXu := Lib.hid (show nxB T s2 = true → U6 (nxT T s2) from fun h => by
        have h1 : nxT T s2 ≤ 1099511627776 := by simpa [nxB] using h
        refine ⟨?_, by omega⟩
        have := HT0.out
        unfold nxT
        split <;> omega)
      generalize nxT T s2 = X at *
      rw [hsp] at HEl
      clear hsp
      cases hB : nxB T s2 with
      | true =>
        rw [hB] at HEl HXu HNx
        rw [if_pos rfl] at HEl
        clear hB
        go_wp2
        go_region_with (refine (HTk.out _).mono ?_; rintro e w2 ⟨rfl, hb2⟩; obtain ⟨p0, p1, p2, p3, _⟩ := HK.out w2 ((below_drew (Below.refl _ wr)).trans hb2); have HC2 := Lib.hid (show Below wr.heap.size wr w2 from (below_drew (Below.refl _ wr)).trans hb2); clear hb2)
        all_goals (
          obtain ⟨hok, hcb, hc1, hown, hbw⟩ := HI.out
          have hlow := hown.low
          have h5 : CB ((w2.setCell ⟨w.heap.size, 0, none⟩ (.int .u64 T)).setCell ⟨w.heap.size, 1, none⟩ (.int .u64 s2)) w.heap.size T s2 := ((hcb.below HC2.out).set0 T).set1 s2
          have t5 : Turn (fun i => i = w.heap.size) wr ((w2.setCell ⟨w.heap.size, 0, none⟩ (.int .u64 T)).setCell ⟨w.heap.size, 1, none⟩ (.int .u64 s2)) := ((Turn.of_below (S := fun i => i = w.heap.size) HC2.out).trans (turn_set _ _ _ _) (fun i hi => .inl hi)).trans (turn_set _ _ _ _) (fun i hi => .inl hi)
          generalize (w2.setCell ⟨w.heap.size, 0, none⟩ (.int .u64 T)).setCell ⟨w.heap.size, 1, none⟩ (.int .u64 s2) = W5 at *
          have HF5 := Lib.hid (And.intro h5 (And.intro (hc1.turn t5 (by omega)) (And.intro (hown.turn t5 (fun i hi => by have := hlow i hi; omega)) (hbw.trans (t5.below hbw.size (fun i hi => by omega))))))
          have c0 := h5.c0
          have c9 := h5.c1
          clear hok hcb hc1 hown hbw hlow h5 t5 p0 p1 p2 p3 e0 e1 f0 f1 e2
          go_wp2_with fail
          refine (HNx.out _).mono ?_
          rintro e w3 ⟨rfl, hb3⟩
          obtain ⟨h5, h6, h7, h8⟩ := HF5.out
          have h5 := h5.below hb3
          have h6 := h6.below hb3
          have h7 := h7.below hb3
          have h8 := h8.trans (hb3.mono h8.size)
          have h9 : CB (w3.setCell ⟨w.heap.size, 1, none⟩ (.int .u64 X)) w.heap.size T X := h5.set1 X
          have t9 := turn_set w3 w.heap.size 1 (.int .u64 X)
          have hlow := h7.low
          have hown9 := h7.turn t9 (fun i hi => by have := hlow i hi; omega)
          have c5 := h5.c1
          have g5 := h5.f1
          have hz := h6.lt
          have HF9 := Lib.hid (And.intro h9 (And.intro (h6.turn t9 (by omega)) (And.intro hown9 (h8.trans (t9.below h8.size (fun i hi => by omega))))))
          have hsz : (w3.setCell ⟨w.heap.size, 1, none⟩ (.int .u64 X)).heap.size = w3.heap.size := by simp [World.setCell]
          have HRd := Lib.hid (show Read ((w3.setCell ⟨w.heap.size, 1, none⟩ (.int .u64 X)).alloc (.cells #[.int .u64 X] 22)) (some ⟨w3.heap.size, 0, none⟩) 1 1 [.int .u64 X] from by rw [← hsz]; exact Read.one rfl (cell_laid _ _ _ 0))
          have HSz := Lib.hid (show w.heap.size + 2 ≤ ((w3.setCell ⟨w.heap.size, 1, none⟩ (.int .u64 X)).alloc (.cells #[.int .u64 X] 22)).heap.size from by rw [World.size_alloc, hsz]; omega)
          clear h5 h6 h7 h8 h9 t9 hlow hown9 hb3 hsz hz
          go_wp2_with (first
            | (at_builtin; obtain ⟨h9, h10, h11, h12⟩ := HF9.out; have HB7 := Lib.hid (bel1 (w3.setCell ⟨w.heap.size, 1, none⟩ (.int .u64 X)) (.cells #[.int .u64 X] 22)); have hh := (h11.below HB7.out).1; rw [(rn_st _ _ _ HI.out.1).2] at hh; refine gapp_at rfl (.tmp 34) (.tmp 36) appU rfl (w.heap.size + 2) A1 c1' k ((rn xs (N, L) k).2.1.map (Value.int .u64)) rfl hh (some ⟨w3.heap.size, 0, none⟩) 1 1 [.int .u64 X] rfl HRd.out (by omega) HSz.out ?_; intro A5 c5 w5 ho5 hg5 _; have HR5 := Lib.hid (rr_step HI.out.1 HEl.out (HXu.out (by trivial)) h9 h10 h11 h12 HB7.out ho5 hg5); clear ho5 hg5 h9 h10 h11 h12 hh)
            | fail)
          go_roundw
          case rel => exact ⟨k + 1, A5, c5, by omega, by go_num, rfl, HR5⟩
          case measure => simp [intOf]; omega)
      | false =>
        rw [hB] at HEl HXu HNx
        rw [if_neg (by simp)] at HEl
        clear hB
        go_wp2
        go_region_with (refine (HTk.out _).mono ?_; rintro e w2 ⟨rfl, hb2⟩; obtain ⟨p0, p1, p2, p3, _⟩ := HK.out w2 ((below_drew (Below.refl _ wr)).trans hb2); have HC2 := Lib.hid (show Below wr.heap.size wr w2 from (below_drew (Below.refl _ wr)).trans hb2); clear hb2)
        all_goals (
          obtain ⟨hok, hcb, hc1, hown, hbw⟩ := HI.out
          have hlow := hown.low
          have h5 : CB ((w2.setCell ⟨w.heap.size, 0, none⟩ (.int .u64 T)).setCell ⟨w.heap.size, 1, none⟩ (.int .u64 s2)) w.heap.size T s2 := ((hcb.below HC2.out).set0 T).set1 s2
          have t5 : Turn (fun i => i = w.heap.size) wr ((w2.setCell ⟨w.heap.size, 0, none⟩ (.int .u64 T)).setCell ⟨w.heap.size, 1, none⟩ (.int .u64 s2)) := ((Turn.of_below (S := fun i => i = w.heap.size) HC2.out).trans (turn_set _ _ _ _) (fun i hi => .inl hi)).trans (turn_set _ _ _ _) (fun i hi => .inl hi)
          generalize (w2.setCell ⟨w.heap.size, 0, none⟩ (.int .u64 T)).setCell ⟨w.heap.size, 1, none⟩ (.int .u64 s2) = W5 at *
          have HF5 := Lib.hid (And.intro h5 (And.intro (hc1.turn t5 (by omega)) (And.intro (hown.turn t5 (fun i hi => by have := hlow i hi; omega)) (hbw.trans (t5.below hbw.size (fun i hi => by omega))))))
          have c0 := h5.c0
          have c9 := h5.c1
          clear hok hcb hc1 hown hbw hlow h5 t5 p0 p1 p2 p3 e0 e1 f0 f1 e2
          go_wp2_with fail
          refine (HNx.out _).mono ?_
          rintro e w3 ⟨rfl, hb3⟩
          obtain ⟨h5, h6, h7, h8⟩ := HF5.out
          have h5 := h5.below hb3
          have h6 := h6.below hb3
          have h7 := h7.below hb3
          have h8 := h8.trans (hb3.mono h8.size)
          have c1 := h5.c0
          have c5 := h5.c1
          have d0 := h6.c0
          have d1 := h6.c1
          have f0 := h6.f0
          have f1 := h6.f1
          have n1 : ¬ w.heap.size = w.heap.size + 1 := by omega
          have HF9 := Lib.hid (And.intro h6 (And.intro h7 h8))
          clear h5 h6 h7 h8 hb3
          go_wp2
          obtain ⟨h6, h7, h8⟩ := HF9.out
          obtain ⟨hok, _⟩ := HI.out
          have HZ := h6.put2 h8 (by omega) T s2
          have hno := rn_no hok (by rw [HEl.out]; simp)
          rw [HEl.out] at hno
          have hend := rn_stay (xs := xs) (c := (N, L)) (k := k + 1) (by rw [hno]) m (by omega)
          rw [hno] at hend
          have hlen := (rn_st xs (N, L) k hok).2
          have hlow := h7.low
          have hown := (h7.turn ((turn_set w3 (w.heap.size + 1) 0 (.int .u64 T)).trans (turn_set _ (w.heap.size + 1) 1 (.int .u64 s2)) (fun i hi => .inl hi)) (fun i hi => by have := hlow i hi; omega)).mono (b := w.heap.size) (by omega)
          refine bodyPost_ret (v := .tuple #[.agg #[.int .u64 T, .int .u64 s2], .slice A1 k c1', .bool false]) (by simp [results, Try.results17, go_sem, HZ.1, HZ.2.1]) rfl ?_
          refine ⟨A1, c1', ?_, ?_, HZ.2.2⟩
          · rw [hend]; show _ = Ending.returned (.tuple #[.agg #[.int .u64 T, .int .u64 s2], .slice A1 (rn xs (N, L) k).2.1.length c1', .bool false]); rw [hlen]
          · rw [hend]; exact hown)
    · obtain rfl : k = m := by omega
      obtain ⟨hok, hcb, hc1, hown, hbw⟩ := HI.out
      obtain ⟨hst, hlen⟩ := rn_st xs (N, L) k hok
      rw [← hst] at hcb
      have b0 := hcb.c0
      have b1 := hcb.c1
      have d0 := hc1.c0
      have d1 := hc1.c1
      have f0 := hc1.f0
      have f1 := hc1.f1
      have HZ := Lib.hid (And.intro hc1 (And.intro hown (And.intro hbw (And.intro hlen hok))))
      clear hok hcb hc1 hown hbw hst hlen
      go_wp2
      obtain ⟨h6, h7, h8, hlen, hok⟩ := HZ.out
      have hz := h6.put2 h8 (by omega) (rn xs (N, L) k).1.1 (rn xs (N, L) k).1.2
      have hlow := h7.low
      have hown := (h7.turn ((turn_set wr (w.heap.size + 1) 0 (.int .u64 (rn xs (N, L) k).1.1)).trans (turn_set _ (w.heap.size + 1) 1 (.int .u64 (rn xs (N, L) k).1.2)) (fun i hi => .inl hi)) (fun i hi => by have := hlow i hi; omega)).mono (b := w.heap.size) (by omega)
      refine bodyPost_ret (v := .tuple #[.agg #[.int .u64 (rn xs (N, L) k).1.1, .int .u64 (rn xs (N, L) k).1.2], .slice A1 k c1', .bool true]) (by simp [results, Try.results17, go_sem, hz.1, hz.2.1]) rfl ?_
      exact ⟨A1, c1', by rw [hlen, hok], hown, hz.2.2⟩

end Go.Proofs.Ytcohaaobdpcoiaa
