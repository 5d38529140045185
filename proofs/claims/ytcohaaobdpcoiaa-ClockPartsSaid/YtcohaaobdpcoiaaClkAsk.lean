/-
  Check, Tick, Next, Take, Opened, and the document's Right, Tick, Next.
-/
import Derived.Test.YtcohaaobdpcoiaaClkBase
namespace Go.Proofs.Ytcohaaobdpcoiaa
open Go.RowKit Go.Shelf
set_option linter.unusedVariables false
set_option linter.unusedSimpArgs false
set_option maxRecDepth 100000

theorem bldC (a b : Int) (w : World) : (Instr.build 24 #[(0, .int .u64 a), (1, .int .u64 b)]).run Try.prog w = .ok (.agg #[.int .u64 a, .int .u64 b]) w := run_build w 24 _ _ (by kernel_rfl)
theorem bldZ (w : World) : (Instr.build 24 #[]).run Try.prog w = .ok (.agg #[.int .u64 0, .int .u64 0]) w := run_build w 24 _ _ (by kernel_rfl)
theorem bel1 (w : World) (o : Obj) : Below w.heap.size w (w.alloc o) := (Below.refl _ w).alloc (Nat.le_refl _) _
theorem bel2 (w : World) (o o2 : Obj) : Below w.heap.size w ((w.alloc o).alloc o2) := (bel1 w o).alloc (by simp) _

theorem within_any (N L : Int) (w : World) (hN : U6 N) (hL : U6 L) :
    Calls Try.prog 19 #[.agg #[.int .u64 N, .int .u64 L]] w fun e w' => e = .returned (.agg #[.int .u64 (min N 1099511627776), .int .u64 (min L 1099511627776)]) ∧ Below w.heap.size w w' := by
  have b1 := bldC
  go_enter Try.func19, Try.ntmps19
  go_wp2
  refine bodyPost_ret (v := .agg #[.int .u64 (min N 1099511627776), .int .u64 (min L 1099511627776)]) (by simp [results, Try.results19, go_sem]) rfl ?_
  exact ⟨rfl, bel2 _ _ _⟩

theorem okC_min (N L : Int) : (!(N == min N 1099511627776) || !(L == min L 1099511627776)) = !okC N L := by
  unfold okC
  rw [Bool.eq_iff_iff]
  simp only [Bool.or_eq_true, Bool.not_eq_true', beq_eq_false_iff_ne, ne_eq, Bool.and_eq_false_iff, decide_eq_false_iff_not]
  omega

set_option maxHeartbeats 1000000 in
theorem check_any (N L : Int) (w : World) (hN : U6 N) (hL : U6 L) :
    Calls Try.prog 8 #[.agg #[.int .u64 N, .int .u64 L]] w fun e w' => e = .returned (.int .i64 (chkC N L)) ∧ Below w.heap.size w w' := by
  have HC := Lib.hid (fun (X : World) => within_any N L X hN hL)
  have HO := okC_min N L
  obtain ⟨W0, hW0⟩ : ∃ W0, W0 = w.alloc (.cells #[.int .u64 N, .int .u64 L] 24) := ⟨_, rfl⟩
  have hb0 : Below w.heap.size w W0 := by rw [hW0]; exact bel1 _ _
  have hc0 : CB W0 w.heap.size N L := by rw [hW0]; exact CB.new _ _ _
  have HK := Lib.hid (fun (X : World) (hX : Below W0.heap.size W0 X) => show X.cell? ⟨w.heap.size, 0, none⟩ = some (.int .u64 N) ∧ X.cell? ⟨w.heap.size, 1, none⟩ = some (.int .u64 L) from ⟨(hc0.below hX).c0, (hc0.below hX).c1⟩)
  have HB := Lib.hid hb0
  have HW := Lib.hid hW0
  have hq := eqC
  have HE : chkC N L = if okC N L = true then 0 else 250 := rfl
  obtain ⟨c0, c1⟩ := HK.out W0 (Below.refl _ _)
  clear hN hL hb0 hc0 hW0
  cases hk : okC N L with
  | true =>
    rw [hk] at HO HE
    rw [if_pos rfl] at HE
    rw [HE]
    clear HE hk
    go_enter Try.func8, Try.ntmps8
    go_wp2_with (rw [← HW.out])
    go_region_held3 (fun X => X.cell? ⟨w.heap.size, 0, none⟩ = some (.int .u64 N) ∧ X.cell? ⟨w.heap.size, 1, none⟩ = some (.int .u64 L))
      (first | (with_reducible assumption) | (with_reducible exact HK.out _ (below_drew (Below.refl _ _))) | (with_reducible exact HK.out _ HC2.out))
      (first
      | (go_at_call 19; (with_reducible refine (HC.out _).mono ?_); rintro e w2 ⟨rfl, hb2⟩; have HC2 := Lib.hid (show Below W0.heap.size W0 w2 from (below_drew (Below.refl _ W0)).trans hb2); clear hb2))
    go_wp2
    go_ret
    exact ⟨rfl, HB.out.trans (HC2.out.mono HB.out.size)⟩
  | false =>
    rw [hk] at HO HE
    rw [if_neg (by simp)] at HE
    rw [HE]
    clear HE hk
    go_enter Try.func8, Try.ntmps8
    go_wp2_with (rw [← HW.out])
    go_region_held3 (fun X => X.cell? ⟨w.heap.size, 0, none⟩ = some (.int .u64 N) ∧ X.cell? ⟨w.heap.size, 1, none⟩ = some (.int .u64 L))
      (first | (with_reducible assumption) | (with_reducible exact HK.out _ (below_drew (Below.refl _ _))) | (with_reducible exact HK.out _ HC2.out))
      (first
      | (go_at_call 19; (with_reducible refine (HC.out _).mono ?_); rintro e w2 ⟨rfl, hb2⟩; have HC2 := Lib.hid (show Below W0.heap.size W0 w2 from (below_drew (Below.refl _ W0)).trans hb2); clear hb2))
    go_wp2
    go_ret
    exact ⟨rfl, HB.out.trans (HC2.out.mono HB.out.size)⟩

/-! ### Tick -/
theorem tick_eq {N b : Int} (h0 : 0 ≤ N) (h1 : N ≤ 1099511627776) (hb : -9223372036854775808 ≤ b ∧ b ≤ 9223372036854775807) : max 0 (N + min b (1099511627776 - N)) = tickN N b := by
  unfold tickN
  split
  · omega
  · split <;> omega

set_option maxHeartbeats 1000000 in
theorem tick_any (N L b : Int) (w : World) (hN : U6 N) (hL : U6 L) (hb : -9223372036854775808 ≤ b ∧ b ≤ 9223372036854775807) :
    Calls Try.prog 9 #[.agg #[.int .u64 N, .int .u64 L], .int .i64 b] w fun e w' => e = .returned (.tuple #[.agg #[.int .u64 (if okC N L = true then tickN N b else 0), .int .u64 (if okC N L = true then L else 0)], .int .i64 (chkC N L)]) ∧ Below w.heap.size w w' := by
  obtain ⟨W0, hW0⟩ : ∃ W0, W0 = (w.alloc (.cells #[.int .u64 N, .int .u64 L] 24)).alloc (.cells #[.int .u64 0, .int .u64 0] 24) := ⟨_, rfl⟩
  have hb0 : Below w.heap.size w W0 := by rw [hW0]; exact bel2 _ _ _
  have hc0 : CB W0 w.heap.size N L := by rw [hW0]; exact (CB.new _ _ _).below (bel1 _ _)
  have hc1 : CB W0 (w.heap.size + 1) 0 0 := by rw [hW0]; have := CB.new (w.alloc (.cells #[.int .u64 N, .int .u64 L] 24)) 0 0; rwa [World.size_alloc] at this
  have HC := Lib.hid (check_any N L W0 hN hL)
  have HB := Lib.hid hb0
  have HW := Lib.hid hW0
  have HX := Lib.hid (And.intro hc0 hc1)
  have c0 := hc0.c0
  have c1 := hc0.c1
  have bz := bldZ
  have HE : chkC N L = if okC N L = true then 0 else 250 := rfl
  cases hk : okC N L with
  | false =>
    rw [hk] at HE
    rw [if_neg (by simp)] at HE
    rw [HE] at HC ⊢
    rw [if_neg (by simp), if_neg (by simp)]
    clear HE hk hN hL hb hb0 hc0 hc1 hW0
    go_enter Try.func9, Try.ntmps9
    go_wp2_with (rw [← HW.out])
    refine HC.out.mono ?_
    rintro e w1 ⟨rfl, hb1⟩
    have HB1 := Lib.hid (HB.out.trans (hb1.mono HB.out.size))
    obtain ⟨x0, x1⟩ := HX.out
    have x1 := x1.below hb1
    have HX1 := Lib.hid x1
    have d0 := x1.c0
    have d1 := x1.c1
    have f0 := x1.f0
    have f1 := x1.f1
    clear hb1 x0 x1
    go_wp2
    have HZ := Lib.hid (HX1.out.put2 HB1.out (by omega) 0 0)
    refine bodyPost_ret (v := .tuple #[.agg #[.int .u64 0, .int .u64 0], .int .i64 250]) (by simp [results, Try.results9, go_sem, HZ.out.1, HZ.out.2.1]) rfl ?_
    exact ⟨rfl, HZ.out.2.2⟩
  | true =>
    obtain ⟨n1, l1⟩ := okC_iff.1 hk
    have n0 := hN.1
    have te := tick_eq n0 n1 hb
    have t0 := tickN_ok (N := N) (b := b)
    obtain ⟨T, hT⟩ : ∃ T, T = tickN N b := ⟨_, rfl⟩
    rw [← hT] at te t0 ⊢
    have HT := Lib.hid te
    rw [hk] at HE
    rw [if_pos rfl] at HE
    rw [HE] at HC ⊢
    rw [if_pos rfl, if_pos rfl]
    clear HE hk hN hL hT te hb0 hc0 hc1 hW0
    go_enter Try.func9, Try.ntmps9
    go_wp2_with (rw [← HW.out])
    refine HC.out.mono ?_
    rintro e w1 ⟨rfl, hb1⟩
    have HB1 := Lib.hid (HB.out.trans (hb1.mono HB.out.size))
    obtain ⟨x0, x1⟩ := HX.out
    have x0 := x0.below hb1
    have x1 := x1.below hb1
    have HX1 := Lib.hid (And.intro x0 x1)
    have e0 := x0.c0
    have e1 := x0.c1
    have g0 := x0.f0
    have d0 := x1.c0
    have d1 := x1.c1
    have f0 := x1.f0
    have f1 := x1.f1
    clear hb1 x0 x1
    go_wp2
    rw [HT.out]
    obtain ⟨x0, x1⟩ := HX1.out
    have hz := HB1.out.size
    have HZ := Lib.hid ((show CB (w1.setCell ⟨w.heap.size, 0, none⟩ (.int .u64 T)) (w.heap.size + 1) 0 0 from x1.turn (turn_set _ _ _ _) (by omega)).put2 (HB1.out.setCell (by simp) _) (by omega) T L)
    refine bodyPost_ret (v := .tuple #[.agg #[.int .u64 T, .int .u64 L], .int .i64 0]) (by simp [results, Try.results9, go_sem, HZ.out.1, HZ.out.2.1]) rfl ?_
    exact ⟨rfl, HZ.out.2.2⟩

/-! ### Next -/
def nxE (N L : Int) : Int := if okC N L = true then (if nxB N L = true then 0 else 251) else 250
def nxV (N L : Int) : Int := if nxE N L = 0 then nxT N L else 0
theorem nx_max {N L : Int} : max N (L + 1) = nxT N L := by unfold nxT; split <;> omega
theorem nxB_no {N L : Int} : decide (1099511627776 < nxT N L) = !nxB N L := by
  unfold nxB; rw [Bool.eq_iff_iff]; simp

set_option maxHeartbeats 1000000 in
theorem next_any (N L : Int) (w : World) (hN : U6 N) (hL : U6 L) :
    Calls Try.prog 10 #[.agg #[.int .u64 N, .int .u64 L]] w fun e w' => e = .returned (.tuple #[.int .u64 (nxV N L), .int .i64 (nxE N L)]) ∧ Below w.heap.size w w' := by
  obtain ⟨W0, hW0⟩ : ∃ W0, W0 = w.alloc (.cells #[.int .u64 N, .int .u64 L] 24) := ⟨_, rfl⟩
  have hb0 : Below w.heap.size w W0 := by rw [hW0]; exact bel1 _ _
  have hc0 : CB W0 w.heap.size N L := by rw [hW0]; exact CB.new _ _ _
  have HC := Lib.hid (check_any N L W0 hN hL)
  have HB := Lib.hid hb0
  have HW := Lib.hid hW0
  have HX := Lib.hid hc0
  have c0 := hc0.c0
  have c1 := hc0.c1
  have HE : chkC N L = if okC N L = true then 0 else 250 := rfl
  have HV : nxV N L = if nxE N L = 0 then nxT N L else 0 := rfl
  have HEE : nxE N L = if okC N L = true then (if nxB N L = true then 0 else 251) else 250 := rfl
  cases hk : okC N L with
  | false =>
    rw [hk, if_neg (by simp)] at HE HEE
    rw [HEE, if_neg (by omega)] at HV
    rw [HE] at HC
    rw [HV, HEE]
    clear HE HEE HV hk hN hL hb0 hc0 hW0
    go_enter Try.func10, Try.ntmps10
    go_wp2_with (rw [← HW.out])
    refine HC.out.mono ?_
    rintro e w1 ⟨rfl, hb1⟩
    have HB1 := Lib.hid (HB.out.trans (hb1.mono HB.out.size))
    clear hb1
    go_wp2
    refine bodyPost_ret (v := .tuple #[.int .u64 0, .int .i64 250]) (by simp [results, Try.results10, go_sem]) rfl ?_
    exact ⟨rfl, HB1.out⟩
  | true =>
    obtain ⟨n1, l1⟩ := okC_iff.1 hk
    have n0 := hN.1
    have l0 := hL.1
    have hm := nx_max (N := N) (L := L)
    have hd := nxB_no (N := N) (L := L)
    rw [hk, if_pos rfl] at HE HEE
    rw [HE] at HC
    cases hq : nxB N L with
    | true =>
      rw [hq] at HEE hd
      rw [if_pos rfl] at HEE
      rw [HEE, if_pos rfl] at HV
      rw [HV, HEE]
      rw [← hm] at hd ⊢
      clear HE HEE HV hk hN hL hb0 hc0 hW0 hq hm
      go_enter Try.func10, Try.ntmps10
      go_wp2_with (rw [← HW.out])
      refine HC.out.mono ?_
      rintro e w1 ⟨rfl, hb1⟩
      have HB1 := Lib.hid (HB.out.trans (hb1.mono HB.out.size))
      have x0 := HX.out.below hb1
      have e0 := x0.c0
      have e1 := x0.c1
      clear hb1 x0
      go_wp2
      refine bodyPost_ret (v := .tuple #[.int .u64 (max N (L + 1)), .int .i64 0]) (by simp [results, Try.results10, go_sem]) rfl ?_
      exact ⟨rfl, HB1.out⟩
    | false =>
      rw [hq] at HEE hd
      rw [if_neg (by simp)] at HEE
      rw [HEE, if_neg (by omega)] at HV
      rw [HV, HEE]
      rw [← hm] at hd
      clear HE HEE HV hk hN hL hb0 hc0 hW0 hq hm
      go_enter Try.func10, Try.ntmps10
      go_wp2_with (rw [← HW.out])
      refine HC.out.mono ?_
      rintro e w1 ⟨rfl, hb1⟩
      have HB1 := Lib.hid (HB.out.trans (hb1.mono HB.out.size))
      have x0 := HX.out.below hb1
      have e0 := x0.c0
      have e1 := x0.c1
      clear hb1 x0
      go_wp2
      refine bodyPost_ret (v := .tuple #[.int .u64 0, .int .i64 251]) (by simp [results, Try.results10, go_sem]) rfl ?_
      exact ⟨rfl, HB1.out⟩

/-! ### Take -/
def tkN (N L : Int) : Int := if nxE N L = 0 then N else 0
def tkL (N L : Int) : Int := if nxE N L = 0 then nxT N L else 0

set_option maxHeartbeats 1000000 in
theorem take_any (N L : Int) (w : World) (hN : U6 N) (hL : U6 L) :
    Calls Try.prog 11 #[.agg #[.int .u64 N, .int .u64 L]] w fun e w' => e = .returned (.tuple #[.agg #[.int .u64 (tkN N L), .int .u64 (tkL N L)], .int .u64 (nxV N L), .int .i64 (nxE N L)]) ∧ Below w.heap.size w w' := by
  obtain ⟨W0, hW0⟩ : ∃ W0, W0 = (w.alloc (.cells #[.int .u64 N, .int .u64 L] 24)).alloc (.cells #[.int .u64 0, .int .u64 0] 24) := ⟨_, rfl⟩
  have hb0 : Below w.heap.size w W0 := by rw [hW0]; exact bel2 _ _ _
  have hc0 : CB W0 w.heap.size N L := by rw [hW0]; exact (CB.new _ _ _).below (bel1 _ _)
  have hc1 : CB W0 (w.heap.size + 1) 0 0 := by rw [hW0]; have := CB.new (w.alloc (.cells #[.int .u64 N, .int .u64 L] 24)) 0 0; rwa [World.size_alloc] at this
  have HC := Lib.hid (next_any N L W0 hN hL)
  have HB := Lib.hid hb0
  have HW := Lib.hid hW0
  have HX := Lib.hid (And.intro hc0 hc1)
  have c0 := hc0.c0
  have c1 := hc0.c1
  have bz := bldZ
  have HV : nxV N L = if nxE N L = 0 then nxT N L else 0 := rfl
  have HTN : tkN N L = if nxE N L = 0 then N else 0 := rfl
  have HTL : tkL N L = if nxE N L = 0 then nxT N L else 0 := rfl
  have hE3 : nxE N L = 0 ∨ nxE N L = 251 ∨ nxE N L = 250 := by
    unfold nxE
    split
    · split <;> simp
    · simp
  generalize nxV N L = V at *
  generalize nxE N L = E at *
  generalize tkN N L = TN at *
  generalize tkL N L = TL at *
  generalize nxT N L = X at *
  by_cases hE : E = 0
  · rw [if_pos hE] at HV HTN HTL
    subst hE HV HTN HTL
    clear hN hL hb0 hc0 hc1 hW0 hE3
    go_enter Try.func11, Try.ntmps11
    go_wp2_with (rw [← HW.out])
    refine HC.out.mono ?_
    rintro e w1 ⟨rfl, hb1⟩
    have HB1 := Lib.hid (HB.out.trans (hb1.mono HB.out.size))
    obtain ⟨x0, x1⟩ := HX.out
    have x0 := x0.below hb1
    have x1 := x1.below hb1
    have HX1 := Lib.hid (And.intro x0 x1)
    have e0 := x0.c0
    have e1 := x0.c1
    have g0 := x0.f0
    have g1 := x0.f1
    have d0 := x1.c0
    have d1 := x1.c1
    have f0 := x1.f0
    have f1 := x1.f1
    clear hb1 x0 x1
    go_wp2
    obtain ⟨x0, x1⟩ := HX1.out
    have hz := HB1.out.size
    have HZ := Lib.hid ((show CB (w1.setCell ⟨w.heap.size, 1, none⟩ (.int .u64 TL)) (w.heap.size + 1) 0 0 from x1.turn (turn_set _ _ _ _) (by omega)).put2 (HB1.out.setCell (by simp) _) (by omega) TN TL)
    refine bodyPost_ret (v := .tuple #[.agg #[.int .u64 TN, .int .u64 TL], .int .u64 TL, .int .i64 0]) (by simp [results, Try.results11, go_sem, HZ.out.1, HZ.out.2.1]) rfl ?_
    exact ⟨rfl, HZ.out.2.2⟩
  · rw [if_neg hE] at HV HTN HTL
    subst HV HTN HTL
    have q1 : (E != 0) = true := by simpa using hE
    have q2 : (E == 0) = false := by simpa using hE
    clear hN hL hb0 hc0 hc1 hW0 hE3
    go_enter Try.func11, Try.ntmps11
    go_wp2_with (rw [← HW.out])
    refine HC.out.mono ?_
    rintro e w1 ⟨rfl, hb1⟩
    have HB1 := Lib.hid (HB.out.trans (hb1.mono HB.out.size))
    obtain ⟨x0, x1⟩ := HX.out
    have x1 := x1.below hb1
    have HX1 := Lib.hid x1
    have d0 := x1.c0
    have d1 := x1.c1
    have f0 := x1.f0
    have f1 := x1.f1
    clear hb1 x0 x1
    go_wp2
    have HZ := Lib.hid (HX1.out.put2 HB1.out (by omega) 0 0)
    refine bodyPost_ret (v := .tuple #[.agg #[.int .u64 0, .int .u64 0], .int .u64 0, .int .i64 E]) (by simp [results, Try.results11, go_sem, HZ.out.1, HZ.out.2.1]) rfl ?_
    exact ⟨rfl, HZ.out.2.2⟩

/-! ### Opened -/
def opN (L : Int) : Int := if L ≤ 1099511627776 then L else 0
def opE (L : Int) : Int := if L ≤ 1099511627776 then 0 else 250
set_option maxHeartbeats 1000000 in
theorem opened_any (L : Int) (w : World) (hL : U6 L) :
    Calls Try.prog 12 #[.int .u64 L] w fun e w' => e = .returned (.tuple #[.agg #[.int .u64 (opN L), .int .u64 (opN L)], .int .i64 (opE L)]) ∧ Below w.heap.size w w' := by
  obtain ⟨W0, hW0⟩ : ∃ W0, W0 = (w.alloc (.cells #[.int .u64 0, .int .u64 0] 24)).alloc (.cells #[.int .u64 L, .int .u64 L] 24) := ⟨_, rfl⟩
  have hb0 : Below w.heap.size w W0 := by rw [hW0]; exact bel2 _ _ _
  have hc0 : CB W0 w.heap.size 0 0 := by rw [hW0]; exact (CB.new _ _ _).below (bel1 _ _)
  have hc1 : CB W0 (w.heap.size + 1) L L := by rw [hW0]; have := CB.new (w.alloc (.cells #[.int .u64 0, .int .u64 0] 24)) L L; rwa [World.size_alloc] at this
  have HC := check_any L L W0 hL hL
  have HB := Lib.hid hb0
  have HW := Lib.hid hW0
  have HX := Lib.hid (And.intro hc0 hc1)
  have c0 := hc1.c0
  have c1 := hc1.c1
  have bz := bldZ
  have b1 := bldC
  have hN : opN L = if L ≤ 1099511627776 then L else 0 := rfl
  have hE : opE L = if L ≤ 1099511627776 then 0 else 250 := rfl
  have hC : chkC L L = if L ≤ 1099511627776 then 0 else 250 := by unfold chkC okC; by_cases h : L ≤ 1099511627776 <;> simp [h]
  generalize opN L = N at *
  generalize opE L = E at *
  rw [hC] at HC
  by_cases h : L ≤ 1099511627776
  · rw [if_pos h] at hN hE HC
    subst hN hE
    have HC := Lib.hid HC
    clear hL hb0 hc0 hc1 hW0 hC
    go_enter Try.func12, Try.ntmps12
    go_wp2_with (rw [← HW.out])
    refine HC.out.mono ?_
    rintro e w1 ⟨rfl, hb1⟩
    have HB1 := Lib.hid (HB.out.trans (hb1.mono HB.out.size))
    obtain ⟨x0, x1⟩ := HX.out
    have x0 := x0.below hb1
    have x1 := x1.below hb1
    have HX1 := Lib.hid x0
    have e0 := x1.c0
    have e1 := x1.c1
    have d0 := x0.c0
    have d1 := x0.c1
    have f0 := x0.f0
    have f1 := x0.f1
    clear hb1 x0 x1
    go_wp2
    have HZ := Lib.hid (HX1.out.put2 HB1.out (by omega) N N)
    refine bodyPost_ret (v := .tuple #[.agg #[.int .u64 N, .int .u64 N], .int .i64 0]) (by simp [results, Try.results12, go_sem, HZ.out.1, HZ.out.2.1]) rfl ?_
    exact ⟨rfl, HZ.out.2.2⟩
  · rw [if_neg h] at hN hE HC
    subst hN hE
    have HC := Lib.hid HC
    clear hL hb0 hc0 hc1 hW0 hC
    go_enter Try.func12, Try.ntmps12
    go_wp2_with (rw [← HW.out])
    refine HC.out.mono ?_
    rintro e w1 ⟨rfl, hb1⟩
    have HB1 := Lib.hid (HB.out.trans (hb1.mono HB.out.size))
    obtain ⟨x0, x1⟩ := HX.out
    have x0 := x0.below hb1
    have HX1 := Lib.hid x0
    have d0 := x0.c0
    have d1 := x0.c1
    have f0 := x0.f0
    have f1 := x0.f1
    clear hb1 x0 x1
    go_wp2
    have HZ := Lib.hid (HX1.out.put2 HB1.out (by omega) 0 0)
    refine bodyPost_ret (v := .tuple #[.agg #[.int .u64 0, .int .u64 0], .int .i64 250]) (by simp [results, Try.results12, go_sem, HZ.out.1, HZ.out.2.1]) rfl ?_
    exact ⟨rfl, HZ.out.2.2⟩

/-! ### the document's -/
theorem rRight_any (N L : Int) (w : World) (hN : U6 N) (hL : U6 L) :
    Calls Try.prog 13 #[.agg #[.int .u64 N, .int .u64 L]] w fun e w' => e = .returned (.bool (okC N L)) ∧ Below w.heap.size w w' := by
  have HO : okC N L = (decide (N ≤ 1099511627776) && decide (L ≤ 1099511627776)) := rfl
  rw [HO]
  by_cases h : N ≤ 1099511627776
  · have h1 := decide_eq_true h
    clear HO
    go_enter Try.func13, Try.ntmps13
    go_wp2
    go_ret
    exact ⟨by simp [h1], bel1 _ _⟩
  · have h1 := decide_eq_false h
    clear HO
    go_enter Try.func13, Try.ntmps13
    go_wp2
    go_ret
    exact ⟨by simp [h1], bel1 _ _⟩

set_option maxHeartbeats 1000000 in
theorem rTick_any (N L b : Int) (w : World) (h0 : 0 ≤ N) (h1 : N ≤ 1099511627776) (hb : -9223372036854775808 ≤ b ∧ b ≤ 9223372036854775807) :
    Calls Try.prog 14 #[.agg #[.int .u64 N, .int .u64 L], .int .i64 b] w fun e w' => e = .returned (.agg #[.int .u64 (tickN N b), .int .u64 L]) ∧ Below w.heap.size w w' := by
  go_enter Try.func14, Try.ntmps14
  go_wp2
  all_goals
    refine bodyPost_ret (v := .agg #[.int .u64 (tickN N b), .int .u64 L]) (by simp [results, Try.results14, go_sem]; unfold tickN; (repeat' split) <;> first | omega | (simp only [decide_eq_true_eq, decide_eq_false_iff_not] at *; omega)) rfl ?_
    exact ⟨rfl, bel2 _ _ _⟩

theorem rNext_any (N L : Int) (w : World) (hN : U6 N) (l0 : 0 ≤ L) (l1 : L ≤ 1099511627776) :
    Calls Try.prog 15 #[.agg #[.int .u64 N, .int .u64 L]] w fun e w' => e = .returned (.tuple #[.int .u64 (nxT N L), .bool (nxB N L)]) ∧ Below w.heap.size w w' := by
  by_cases h : L + 1 < N
  · have e1 : nxT N L = N := by unfold nxT; rw [if_pos h]
    have e2 : nxB N L = decide (N ≤ 1099511627776) := by unfold nxB; rw [e1]
    have t1 := decide_eq_true h
    rw [e1, e2]
    clear e1 e2
    go_enter Try.func15, Try.ntmps15
    go_wp2
    refine bodyPost_ret (v := .tuple #[.int .u64 N, .bool (decide (N ≤ 1099511627776))]) (by simp [results, Try.results15, go_sem]) rfl ?_
    exact ⟨rfl, bel1 _ _⟩
  · have e1 : nxT N L = L + 1 := by unfold nxT; rw [if_neg h]
    have e2 : nxB N L = decide (L + 1 ≤ 1099511627776) := by unfold nxB; rw [e1]
    have t1 := decide_eq_false h
    rw [e1, e2]
    clear e1 e2
    go_enter Try.func15, Try.ntmps15
    go_wp2
    refine bodyPost_ret (v := .tuple #[.int .u64 (L + 1), .bool (decide (L + 1 ≤ 1099511627776))]) (by simp [results, Try.results15, go_sem]) rfl ?_
    exact ⟨rfl, bel1 _ _⟩

end Go.Proofs.Ytcohaaobdpcoiaa
