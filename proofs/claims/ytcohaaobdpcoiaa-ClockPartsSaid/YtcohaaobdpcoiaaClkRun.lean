/-
  Run.
-/
import Derived.Test.YtcohaaobdpcoiaaClkStep
namespace Go.Proofs.Ytcohaaobdpcoiaa
open Go.RowKit Go.Shelf
set_option linter.unusedVariables false
set_option linter.unusedSimpArgs false
set_option maxRecDepth 100000
attribute [local go_sem] Oper.semAt_some

/-- What Run has come to behind so many ticks: block s holds the clock, block d the timestamps' slice. -/
def RnI (s d base : Nat) (xs : List Int) (c : Int × Int) (V : World) (pre : List ((Int × Int) × Int)) (W : World) : Prop :=
  ∃ k A1 c1, pre = elsK xs c k ∧ (rn xs c k).2.2 = true ∧ CB W s (stA xs c k).1 (stA xs c k).2 ∧ Boxed W d 41 (.slice A1 k c1) ∧ OwnK .u64 22 base W A1 c1 (rn xs c k).2.1 ∧ Turn (fun i => i = s ∨ i = d) V W
/-- .. and where it is left. -/
def RnX (s d base : Nat) (xs : List Int) (c : Int × Int) (V : World) (cd : Code) (_ : List ((Int × Int) × Int)) (W : World) : Prop :=
  cd = .ret ∧ (rn xs c xs.length).2.2 = false ∧ CB W (s + 1) (rn xs c xs.length).1.1 (rn xs c xs.length).1.2 ∧ (∃ A1 c1, Boxed W (s + 2) 41 (.slice A1 (rn xs c xs.length).2.1.length c1) ∧ OwnK .u64 22 base W A1 c1 (rn xs c xs.length).2.1) ∧ Boxed W (s + 3) 26 (.int .i64 251) ∧ Turn (fun i => s ≤ i ∧ (i ≤ s + 3 ∨ i = d)) V W

section
variable {s d base : Nat} {xs : List Int} {c : Int × Int} {V W W' : World} {pre : List ((Int × Int) × Int)}
theorem own_not_clock {A : Option Addr} {ca n : Nat} {l : List Value} (h : W.ownsRow base 22 1 (.slice A n ca) n l) : ∀ i, blk A = some i → ¬ OwC W i := by
  intro i hi ho
  obtain ⟨cs, fr, h1⟩ := row_cells h i hi
  obtain ⟨cs2, h2⟩ := ho
  rw [h1] at h2
  injection h2 with h2
  injection h2 with _ h2
  exact absurd h2 (by decide)
theorem RnI.own (h : RnI s d base xs c V pre W) (hs : s < base) (hd : d < base) (hV : V.heap.size ≤ base) (ht : Turn (fun i => base ≤ i ∧ OwC W i) W W') : RnI s d base xs c V pre W' := by
  obtain ⟨k, A1, c1, h1, h2, h3, h4, h5, h6⟩ := h
  exact ⟨k, A1, c1, h1, h2, h3.turn ht (by omega), (ht.block _ h4.lt (by omega)).trans h4, h5.turn ht (fun i hi e => own_not_clock h5.1 i hi e.2), h6.trans ht (fun i hi => .inr (by omega))⟩
theorem RnI.below (h : RnI s d base xs c V pre W) (hb : Below W.heap.size W W') : RnI s d base xs c V pre W' := by
  obtain ⟨k, A1, c1, h1, h2, h3, h4, h5, h6⟩ := h
  exact ⟨k, A1, c1, h1, h2, h3.below hb, (hb.block _ h4.lt).trans h4, h5.below hb, h6.trans (Turn.of_below (S := fun _ => False) hb) (fun i hi => hi.elim)⟩
theorem OwnK.putO {k : IntKind} {t : TypeId} {A : Option Addr} {ca : Nat} {l : List Int} (h : OwnK k t base W A ca l) {j : Nat} {o : Obj} (o' : Obj) (hj : W.heap[j]? = some o) (ho : o.isCells = false) : OwnK k t base (W.putObj j o') A ca l := ⟨row_put h.1 o' hj ho, h.2⟩
theorem CB.putO {g : Nat} {N L : Int} (h : CB W g N L) {j : Nat} {o : Obj} (o' : Obj) (hj : W.heap[j]? = some o) (ho : o.isCells = false) : CB (W.putObj j o') g N L := put_other hj ho h rfl
theorem RnI.put (h : RnI s d base xs c V pre W) {j : Nat} {o : Obj} (o' : Obj) (hj0 : V.heap.size ≤ j) (hj : W.heap[j]? = some o) (ho : o.isCells = false) : RnI s d base xs c V pre (W.putObj j o') := by
  obtain ⟨k, A1, c1, h1, h2, h3, h4, h5, h6⟩ := h
  exact ⟨k, A1, c1, h1, h2, h3.putO o' hj ho, put_other hj ho h4 rfl, h5.putO o' hj ho, h6.trans (turn_put _ _ _) (fun i hi => .inr (by omega))⟩
theorem RnX.own {b2 : Nat} {cd : Code} (h : RnX s d base xs c V cd pre W) (hs : s + 3 < b2) (hV : V.heap.size ≤ b2) (ht : Turn (fun i => b2 ≤ i ∧ OwC W i) W W') : RnX s d base xs c V cd pre W' := by
  obtain ⟨h0, h1, h2, ⟨A1, c1, h3, h4⟩, h5, h6⟩ := h
  exact ⟨h0, h1, h2.turn ht (by omega), ⟨A1, c1, (ht.block _ h3.lt (by omega)).trans h3, h4.turn ht (fun i hi e => own_not_clock h4.1 i hi e.2)⟩, (ht.block _ h5.lt (by omega)).trans h5, h6.trans ht (fun i hi => .inr (by omega))⟩
theorem RnX.put {cd : Code} (h : RnX s d base xs c V cd pre W) {j : Nat} {o : Obj} (o' : Obj) (hj0 : V.heap.size ≤ j) (hj : W.heap[j]? = some o) (ho : o.isCells = false) : RnX s d base xs c V cd pre (W.putObj j o') := by
  obtain ⟨h0, h1, h2, ⟨A1, c1, h3, h4⟩, h5, h6⟩ := h
  exact ⟨h0, h1, h2.putO o' hj ho, ⟨A1, c1, put_other hj ho h3 rfl, h4.putO o' hj ho⟩, put_other hj ho h5 rfl, h6.trans (turn_put _ _ _) (fun i hi => .inr (by omega))⟩

/-- One timestamp more: all that the round asks, and leaves. -/
theorem rn_step {k gb : Nat} {W3 w4 : World} {A0 A1 : Option Addr} {c0 c1 : Nat} {z1 z2 : Int} (hpre : pre = elsK xs c k) (hok : (rn xs c k).2.2 = true) (hel : elK xs c k = ((z1, z2), 0)) (hz : U6 z2)
    (hcb : CB W s (stA xs c k).1 (stA xs c k).2) (hd : Boxed W d 41 (.slice A0 k c0)) (hown : OwnK .u64 22 base W A0 c0 (rn xs c k).2.1) (ht : Turn (fun i => i = s ∨ i = d) V W) (hg : CB W gb z1 z2)
    (hsd : s < d) (hdV : d < V.heap.size) (hb0 : V.heap.size + 2 = base) (hgb : base ≤ gb)
    (hb : Below W.heap.size W W3) (ho : w4.ownsRow base 22 1 (.slice A1 (k + 1) c1) (k + 1) ((rn xs c k).2.1.map (Value.int .u64) ++ [.int .u64 z2])) (hgr : W3.grownBy w4 (blk A0)) :
    CB w4 gb z1 z2 ∧ CB w4 s (stA xs c k).1 (stA xs c k).2 ∧ Boxed w4 d 41 (.slice A0 k c0) ∧
    (KeepsFrom V.heap.size W (((w4.setCell ⟨s, 0, none⟩ (.int .u64 z1)).setCell ⟨s, 1, none⟩ (.int .u64 z2)).setCell ⟨d, 0, none⟩ (.slice A1 (k + 1) c1)) ∧
     KpS (fun i => i = s ∨ i = d) 24 base W (((w4.setCell ⟨s, 0, none⟩ (.int .u64 z1)).setCell ⟨s, 1, none⟩ (.int .u64 z2)).setCell ⟨d, 0, none⟩ (.slice A1 (k + 1) c1)) ∧
     RnI s d base xs c V (pre ++ [((z1, z2), 0)]) (((w4.setCell ⟨s, 0, none⟩ (.int .u64 z1)).setCell ⟨s, 1, none⟩ (.int .u64 z2)).setCell ⟨d, 0, none⟩ (.slice A1 (k + 1) c1))) := by
  have hA := hown.low
  have hlen := (rn_st xs c k hok).2
  have t4 : Turn (fun i => blk A0 = some i) W3 w4 := Turn.of_grown hgr (fun i hi => .inl hi)
  have tW : Turn (fun i => blk A0 = some i) W w4 := (Turn.of_below (S := fun i => blk A0 = some i) hb).trans t4 (fun i hi => .inl hi)
  have hg4 : CB w4 gb z1 z2 := hg.turn tW (fun e => own_not_clock hown.1 _ e ⟨_, hg⟩)
  have hs4 : CB w4 s (stA xs c k).1 (stA xs c k).2 := hcb.turn tW (fun e => by have := hA _ e; omega)
  have hd4 : Boxed w4 d 41 (.slice A0 k c0) := (tW.block _ hd.lt (fun e => by have := hA _ e; omega)).trans hd
  refine ⟨hg4, hs4, hd4, ?_⟩
  obtain ⟨Y, hY⟩ : ∃ Y, Y = (w4.setCell ⟨s, 0, none⟩ (.int .u64 z1)).setCell ⟨s, 1, none⟩ (.int .u64 z2) := ⟨_, rfl⟩
  have y1 : CB Y s z1 z2 := by rw [hY]; exact (hs4.set0 z1).set1 z2
  have tY : Turn (fun i => i = s) w4 Y := by rw [hY]; exact (turn_set _ _ _ _).trans (turn_set _ _ _ _) (fun i hi => .inl hi)
  rw [← hY]
  have yd : Boxed Y d 41 (.slice A0 k c0) := (tY.block _ hd4.lt (by omega)).trans hd4
  have t5 := turn_set Y d 0 (.slice A1 (k + 1) c1)
  have t45 : Turn (fun i => i = s ∨ i = d) w4 (Y.setCell ⟨d, 0, none⟩ (.slice A1 (k + 1) c1)) := (tY.mono (S' := fun i => i = s ∨ i = d) (fun i hi => .inl hi)).trans t5 (fun i hi => .inl (.inr hi))
  have tt : Turn (fun i => blk A0 = some i ∨ i = s ∨ i = d) W (Y.setCell ⟨d, 0, none⟩ (.slice A1 (k + 1) c1)) :=
    (tW.mono (S' := fun i => blk A0 = some i ∨ i = s ∨ i = d) (fun i hi => .inl hi)).trans t45 (fun i hi => .inl (.inr hi))
  refine ⟨keeps_turn tt ?_, KpS.turn tt ?_, k + 1, A1, c1, ?_, ?_, ?_, yd.set _, ⟨?_, ?_⟩, ?_⟩
  · rintro i (hi | rfl | rfl)
    · obtain ⟨cs, fr, h1⟩ := row_cells hown.1 i hi
      exact ⟨_, h1, rfl⟩
    · exact ⟨_, hcb, rfl⟩
    · exact ⟨_, hd, rfl⟩
  · rintro i (hi | rfl | rfl)
    · refine .inr ⟨(hA i hi).1, fun cs t fr h e => ?_⟩
      obtain ⟨cs2, fr2, h1⟩ := row_cells hown.1 i hi
      rw [h1] at h
      injection h with h
      injection h with _ h2
      rw [e] at h2
      exact absurd h2 (by decide)
    · exact .inl (.inl rfl)
    · exact .inl (.inr rfl)
  · show pre ++ _ = elsK xs c k ++ [elK xs c k]
    rw [hpre, hel]
  · rw [rn_go hok (by rw [hel])]
  · have : stA xs c (k + 1) = (z1, z2) := by show (elK xs c k).1 = _; rw [hel]
    rw [this]
    exact y1.turn t5 (by omega)
  · rw [rn_go hok (by rw [hel]), hel]
    show World.ownsRow _ base 22 1 (.slice A1 ((rn xs c k).2.1 ++ [z2]).length c1) ((rn xs c k).2.1 ++ [z2]).length (((rn xs c k).2.1 ++ [z2]).map (Value.int .u64))
    rw [List.length_append, hlen, List.map_append]
    refine row_turn ho t45 (fun i hi e => ?_)
    have := (World.ownsRow.lt ho i hi).1
    omega
  · rw [rn_go hok (by rw [hel]), hel]
    intro t ht
    rcases List.mem_append.1 ht with h | h
    · exact hown.2 t h
    · obtain rfl : t = z2 := by simpa using h
      exact WalkArith.wf_u64 ⟨hz.1, by have := hz.2; omega⟩
  · refine ht.trans tt ?_
    rintro i (hi | hi)
    · exact .inr (by have := hA i hi; omega)
    · exact .inl hi
end

/-- The three results, laid. -/
theorem res3 {w1 : World} {s : Nat} {a0 b0 : Int} {v0 e0 : Value} {T2 T3 : TypeId} (x1 : CB w1 (s + 1) a0 b0) (x2 : Boxed w1 (s + 2) T2 v0) (x3 : Boxed w1 (s + 3) T3 e0) (a b : Int) (v e : Value) :
    CB ((((w1.setCell ⟨s + 1, 0, none⟩ (.int .u64 a)).setCell ⟨s + 1, 1, none⟩ (.int .u64 b)).setCell ⟨s + 2, 0, none⟩ v).setCell ⟨s + 3, 0, none⟩ e) (s + 1) a b ∧
    Boxed ((((w1.setCell ⟨s + 1, 0, none⟩ (.int .u64 a)).setCell ⟨s + 1, 1, none⟩ (.int .u64 b)).setCell ⟨s + 2, 0, none⟩ v).setCell ⟨s + 3, 0, none⟩ e) (s + 2) T2 v ∧
    Boxed ((((w1.setCell ⟨s + 1, 0, none⟩ (.int .u64 a)).setCell ⟨s + 1, 1, none⟩ (.int .u64 b)).setCell ⟨s + 2, 0, none⟩ v).setCell ⟨s + 3, 0, none⟩ e) (s + 3) T3 e ∧
    Turn (fun i => s + 1 ≤ i ∧ i ≤ s + 3) w1 ((((w1.setCell ⟨s + 1, 0, none⟩ (.int .u64 a)).setCell ⟨s + 1, 1, none⟩ (.int .u64 b)).setCell ⟨s + 2, 0, none⟩ v).setCell ⟨s + 3, 0, none⟩ e) := by
  obtain ⟨Y2, hY2⟩ : ∃ Y2, Y2 = (w1.setCell ⟨s + 1, 0, none⟩ (.int .u64 a)).setCell ⟨s + 1, 1, none⟩ (.int .u64 b) := ⟨_, rfl⟩
  have y1 : CB Y2 (s + 1) a b := by rw [hY2]; exact (x1.set0 a).set1 b
  have t2 : Turn (fun i => i = s + 1) w1 Y2 := by rw [hY2]; exact (turn_set _ _ _ _).trans (turn_set _ _ _ _) (fun i hi => .inl hi)
  rw [← hY2]
  have y2 : Boxed Y2 (s + 2) T2 v0 := (t2.block _ x2.lt (by omega)).trans x2
  have y3 : Boxed Y2 (s + 3) T3 e0 := (t2.block _ x3.lt (by omega)).trans x3
  have t3 := turn_set Y2 (s + 2) 0 v
  have t4 := turn_set (Y2.setCell ⟨s + 2, 0, none⟩ v) (s + 3) 0 e
  have y3' : Boxed (Y2.setCell ⟨s + 2, 0, none⟩ v) (s + 3) T3 e0 := (t3.block _ y3.lt (by omega)).trans y3
  have y2' := y2.set v
  refine ⟨(y1.turn t3 (by omega)).turn t4 (by omega), (t4.block _ y2'.lt (by omega)).trans y2', y3'.set e, ?_⟩
  exact ((t2.mono (S' := fun i => s + 1 ≤ i ∧ i ≤ s + 3) (fun i hi => by omega)).trans t3 (fun i hi => .inl (by omega))).trans t4 (fun i hi => .inl (by omega))

/-- What Run answers. -/
def GivesR (xs : List Int) (c : Int × Int) (w : World) (e : Ending) (w' : World) : Prop := ∃ A1 c1, e = .returned (.tuple #[.agg #[.int .u64 (rnC xs c).1, .int .u64 (rnC xs c).2], .slice A1 (rnL xs c).length c1, .int .i64 (rnE xs c)]) ∧ OwnK .u64 22 w.heap.size w' A1 c1 (rnL xs c) ∧ Below w.heap.size w w'

set_option maxHeartbeats 4000000 in
theorem run_any {w : World} {A : Option Addr} {ca : Nat} {xs : List Int} (c : Int × Int) (h1 : U6 c.1) (h2 : U6 c.2) (hv : Vec .i64 w A ca xs) (hx : xs.length ≤ 1000000) :
    Calls Try.prog 16 #[.agg #[.int .u64 c.1, .int .u64 c.2], .slice A xs.length ca] w (GivesR xs c w) := by
  obtain ⟨N, L⟩ := c
  dsimp only at h1 h2 ⊢
  obtain ⟨W0, hW0⟩ : ∃ W0, W0 = (((w.alloc (.cells #[.int .u64 N, .int .u64 L] 24)).alloc (.cells #[.int .u64 0, .int .u64 0] 24)).alloc (.cells #[.slice none 0 0] 41)).alloc (.cells #[.int .i64 0] 26) := ⟨_, rfl⟩
  have hz0 : W0.heap.size = w.heap.size + 4 := by rw [hW0]; simp
  have hb0 : Below w.heap.size w W0 := by rw [hW0]; exact ((bel2 _ _ _).alloc (by simp; omega) _).alloc (by simp; omega) _
  have hc0 : CB W0 w.heap.size N L := by rw [hW0]; exact (((CB.new _ _ _).below (bel1 _ _)).below (bel1 _ _)).below (bel1 _ _)
  have hc1 : CB W0 (w.heap.size + 1) 0 0 := by
    rw [hW0]
    have := ((CB.new (w.alloc (.cells #[.int .u64 N, .int .u64 L] 24)) 0 0).below (bel1 _ (.cells #[.slice none 0 0] 41))).below (bel1 _ (.cells #[.int .i64 0] 26))
    rwa [World.size_alloc] at this
  have hc2 : Boxed W0 (w.heap.size + 2) 41 (.slice none 0 0) := by
    rw [hW0]
    have := (Boxed.new ((w.alloc (.cells #[.int .u64 N, .int .u64 L] 24)).alloc (.cells #[.int .u64 0, .int .u64 0] 24)) 41 (.slice none 0 0)).alloc (.cells #[.int .i64 0] 26)
    rwa [World.size_alloc, World.size_alloc] at this
  have hc3 : Boxed W0 (w.heap.size + 3) 26 (.int .i64 0) := by
    rw [hW0]
    have := Boxed.new (((w.alloc (.cells #[.int .u64 N, .int .u64 L] 24)).alloc (.cells #[.int .u64 0, .int .u64 0] 24)).alloc (.cells #[.slice none 0 0] 41)) 26 (.int .i64 0)
    rwa [World.size_alloc, World.size_alloc, World.size_alloc] at this
  have HC := Lib.hid (check_any N L W0 h1 h2)
  have bz := bldZ
  have HE : chkC N L = if okC N L = true then 0 else 250 := rfl
  have c0 := hc0.c0
  have c1 := hc0.c1
  have HB := Lib.hid hb0
  have HW := Lib.hid hW0
  have HX := Lib.hid (And.intro hc0 (And.intro hc1 (And.intro hc2 hc3)))
  cases hk : okC N L with
  | false =>
    rw [hk, if_neg (by simp)] at HE
    rw [HE] at HC
    have e1 : rnC xs (N, L) = (0, 0) := by unfold rnC; dsimp only; rw [hk]; rfl
    have e2 : rnL xs (N, L) = [] := by unfold rnL; dsimp only; rw [hk]; rfl
    have e3 : rnE xs (N, L) = 250 := by unfold rnE; dsimp only; rw [hk]; rfl
    unfold GivesR
    rw [e1, e2, e3]
    generalize xs.length = m at *
    clear hv hx e1 e2 e3 HE hk h1 h2 hb0 hc0 hc1 hc2 hc3 hz0 hW0
    go_enter Try.func16, Try.ntmps16
    go_wp2_with (rw [← HW.out])
    refine HC.out.mono ?_
    rintro e w1 ⟨rfl, hb1⟩
    have HB1 := Lib.hid (HB.out.trans (hb1.mono HB.out.size))
    obtain ⟨_, x1, x2, x3⟩ := HX.out
    have x1 := x1.below hb1
    have x2 : Boxed w1 (w.heap.size + 2) 41 (.slice none 0 0) := (hb1.block _ x2.lt).trans x2
    have x3 : Boxed w1 (w.heap.size + 3) 26 (.int .i64 0) := (hb1.block _ x3.lt).trans x3
    have HX1 := Lib.hid (And.intro x1 (And.intro x2 x3))
    have d0 := x1.c0
    have d1 := x1.c1
    have f0 := x1.f0
    have f1 := x1.f1
    have d2 := x2.cell
    have f2 := x2.frozen
    have d3 := x3.cell
    have f3 := x3.frozen
    clear hb1 x1 x2 x3
    go_wp2
    simp only [Nat.add_assoc, Nat.reduceAdd]
    obtain ⟨x1, x2, x3⟩ := HX1.out
    obtain ⟨y1, y2, y3, ht⟩ := res3 x1 x2 x3 0 0 (.slice none 0 0) (.int .i64 250)
    have z0 := y1.c0
    have z1 := y1.c1
    have z2 := y2.cell
    have z3 := y3.cell
    have HZ := Lib.hid (HB1.out.trans (ht.below HB1.out.size (fun i hi => by omega)))
    clear x1 x2 x3 y1 y2 y3 ht
    refine bodyPost_ret (v := .tuple #[.agg #[.int .u64 0, .int .u64 0], .slice none 0 0, .int .i64 250]) (by simp only [results, Try.results16]; simp [go_sem, z0, z1, z2, z3]) rfl ?_
    exact ⟨none, 0, rfl, OwnK.nil _ _, HZ.out⟩
  | true =>
    have hRt : Rt (N, L) := ⟨h1.1, (okC_iff.1 hk).1, h2.1, (okC_iff.1 hk).2⟩
    rw [hk, if_pos rfl] at HE
    rw [HE] at HC
    have e1 : rnC xs (N, L) = (rn xs (N, L) xs.length).1 := by unfold rnC; dsimp only; rw [hk]; rfl
    have e2 : rnL xs (N, L) = (rn xs (N, L) xs.length).2.1 := by unfold rnL; dsimp only; rw [hk]; rfl
    have e3 : rnE xs (N, L) = if (rn xs (N, L) xs.length).2.2 = true then 0 else 251 := by unfold rnE; dsimp only; rw [hk]; rfl
    unfold GivesR
    rw [e1, e2, e3]
    obtain ⟨ER, hER⟩ : ∃ ER, ER = (if (rn xs (N, L) xs.length).2.2 = true then (0 : Int) else 251) := ⟨_, rfl⟩
    rw [← hER]
    have HER := Lib.hid hER
    clear hER
    have HXl := Lib.hid hx
    have HV := Lib.hid hv
    have HRt := Lib.hid hRt
    clear hv hx e1 e2 e3 HE hk h1 h2 hb0 hc0 hc1 hc2 hc3 hz0 hW0 hRt
    obtain ⟨m, hm⟩ : ∃ m, m = xs.length := ⟨_, rfl⟩
    have HM := Lib.hid hm
    rw [← hm]
    clear hm
    refine (callsIn_wide (n := 3)).1 ?_
    refine callsIn_of_wp_marks Try.func16 rfl trivial ?_ rfl
    simp only [Try.ntmps16, List.size_toArray, List.length_cons, List.length_nil, Nat.reduceAdd, Nat.reduceSub, Array.replicate_succ, Array.replicate_zero, List.push_toArray, List.append_toArray, List.nil_append, List.cons_append]
    gi_wp2_with (rw [← HW.out])
    refine ⟨trivial, (callsIn_wide.2 HC.out).mono ?_⟩
    rintro e w1 ⟨rfl, hb1⟩
    obtain ⟨x0, x1, x2, x3⟩ := HX.out
    have x0 := x0.below hb1
    have x1 := x1.below hb1
    have x2 : Boxed w1 (w.heap.size + 2) 41 (.slice none 0 0) := (hb1.block _ x2.lt).trans x2
    have x3 : Boxed w1 (w.heap.size + 3) 26 (.int .i64 0) := (hb1.block _ x3.lt).trans x3
    have y0 := x0.below (bel1 w1 (.cells #[.slice none 0 0] 41))
    have c0 := y0.c0
    have c1 := y0.c1
    obtain ⟨V, hV⟩ : ∃ V, V = ((w1.alloc (.cells #[.slice none 0 0] 41)).alloc (.cells #[.int .u64 N, .int .u64 L] 24)).alloc (.cells #[.slice A m ca] 40) := ⟨_, rfl⟩
    have hbV : Below w1.heap.size w1 V := by rw [hV]; exact below_tr (bel2 _ _ _) (bel1 _ _)
    have hzV : V.heap.size = w1.heap.size + 3 := by rw [hV]; simp
    have hp : CB V (w1.heap.size + 1) N L := by
      rw [hV]
      have := (CB.new (w1.alloc (.cells #[.slice none 0 0] 41)) N L).below (bel1 _ (.cells #[.slice A m ca] 40))
      rwa [World.size_alloc] at this
    have hq : V.cell? ⟨w1.heap.size + 2, 0, none⟩ = some (.slice A m ca) := by
      rw [hV]
      have := cell_laid ((w1.alloc (.cells #[.slice none 0 0] 41)).alloc (.cells #[.int .u64 N, .int .u64 L] 24)) #[.slice A m ca] 40 0
      rwa [World.size_alloc, World.size_alloc] at this
    have hd : Boxed V w1.heap.size 41 (.slice none 0 0) := by
      rw [hV]
      exact ((Boxed.new w1 41 (.slice none 0 0)).alloc _).alloc _
    have hbw : Below w.heap.size w V := HB.out.trans ((hb1.trans (hbV.mono hb1.size)).mono HB.out.size)
    have hlo : w.heap.size + 4 ≤ w1.heap.size := by
      have e1 := hb1.size
      have e2 := x3.lt
      omega
    rw [HM.out] at hq
    have hseq := steps1_in (w := V) (w0 := w) HRt.out 2 (w1.heap.size + 1) (w1.heap.size + 2) (fun i => i = w.heap.size ∨ i = w1.heap.size) (by omega) hp hq HV.out hbw (fun i hi => by omega) (fun i hi => by omega)
    rw [← HM.out] at hseq
    have HSeq := Lib.hid hseq
    have HVx := Lib.hid (And.intro (x0.below hbV) (And.intro (x1.below hbV) (And.intro ((hbV.block _ x2.lt).trans x2 : Boxed V (w.heap.size + 2) 41 (.slice none 0 0)) (And.intro ((hbV.block _ x3.lt).trans x3 : Boxed V (w.heap.size + 3) 26 (.int .i64 0)) hd))))
    have HBw := Lib.hid hbw
    have HZV := Lib.hid (And.intro hzV hlo)
    have HVV := Lib.hid hV
    clear hb1 x0 x1 x2 x3 y0 hbV hzV hp hq hd hbw hlo hseq hV
    gi_wp2
    refine ⟨trivial, (callsIn_wide.2 (steps_any N L A m ca _)).mono ?_⟩
    rintro e w2 ⟨rfl, rfl⟩
    rw [← HVV.out]
    gi_wp2
    simp only [Nat.add_assoc, Nat.reduceAdd]
    have hz := HZV.out
    obtain ⟨v0, v1, v2, v3, vd⟩ := HVx.out
    refine range_box2 rfl (by omega) (gf := 21) (lb := #[.pointer (some ⟨w1.heap.size + 1, 0, none⟩), .pointer (some ⟨w1.heap.size + 2, 0, none⟩)]) rfl trivial (enters_of Try.func21 (by kernel_rfl) rfl) HSeq.out
      (fun W k h => by obtain ⟨cs, h⟩ := h; exact ⟨_, h, rfl⟩) KpS.trans (fun B W k o o' _ hk ho => KpS.put hk ho) (fun _ => rfl) (fun x => .cells #[.int .u64 x.1.1, .int .u64 x.1.2] 24) (fun _ => rfl) (fun B W o => KpS.below (bel1 W o)) (fun _ _ _ _ _ => trivial) (fun _ _ _ _ _ _ _ _ _ => trivial)
      (RnI w.heap.size w1.heap.size (V.heap.size + 2) xs (N, L) V) (RnX w.heap.size w1.heap.size w.heap.size xs (N, L) V) ?io ?ixo ?ip ?ixp ?h0
      (fun x gb => { tmps := #[.agg #[.int .u64 N, .int .u64 L], .slice A m ca, .pointer (some ⟨w.heap.size, 0, none⟩), undef, .pointer (some ⟨w.heap.size + 1, 0, none⟩), .pointer (some ⟨w.heap.size + 2, 0, none⟩), .pointer (some ⟨w.heap.size + 3, 0, none⟩), .int .i64 0, .pointer (some ⟨w1.heap.size, 0, none⟩), .pointer (some ⟨gb, 0, none⟩), .int .i64 x.2,
        .agg #[.int .u64 N, .int .u64 L], .int .i64 0, .int .i64 0, .bool false, undef, undef, .agg #[.int .u64 N, .int .u64 L], .slice A m ca, .func (.func 21) #[] #[.pointer (some ⟨w1.heap.size + 1, 0, none⟩), .pointer (some ⟨w1.heap.size + 2, 0, none⟩)], .agg #[.int .u64 x.1.1, .int .u64 x.1.2], .int .i64 x.2, undef, undef, undef, undef, undef, undef, undef, undef, undef, undef, undef, undef, undef], defers := [] }) ?assign ?body ?done ?stop
    case io => exact fun s X Y h ht => RnI.own h (by omega) (by omega) (by omega) ht
    case ixo => exact fun cd s X Y h ht => RnX.own h (by omega) (by omega) ht
    case ip => exact fun s X k o o' h hk ho hc => RnI.put h o' hk ho hc
    case ixp => exact fun cd s X k o o' h hk ho hc => RnX.put h o' hk ho hc
    case h0 => exact fun X hb _ => ⟨0, none, 0, rfl, rfl, v0.below hb, (hb.block _ vd.lt).trans vd, OwnK.nil _ _, Turn.of_below hb⟩
    case assign =>
      intro l x W K hK
      dsimp only [encS]
      gi_wp2
      exact hK
    case body =>
      rintro l pre ⟨⟨z1, z2⟩, z3⟩ gb W X0 o o' hI hzg hWV hlo hoc hsz hgg hg _ ⟨k, hkm, hpk, hel⟩
      have hbX := bel1 X0 (.cells #[.int .u64 z1, .int .u64 z2] 24)
      have hIW : RnI w.heap.size w1.heap.size (V.heap.size + 2) xs (N, L) V pre W := by rw [hWV]; exact (hI.below hbX).put o' (by omega) hlo hoc
      obtain ⟨k2, A0, c0, hp2, hok, hcb, hd, hown, htV⟩ := hIW
      obtain rfl : k2 = k := by
        have e1 := elsK_length xs (N, L) k
        have e2 := elsK_length xs (N, L) k2
        rw [← hpk] at e1
        rw [← hp2] at e2
        omega
      have hgC : CB W gb z1 z2 := hg
      have hst := (HRt.out.st xs k2).stp (xs.getD k2 0)
      have hel' : stp (stA xs (N, L) k2) (xs.getD k2 0) = ((z1, z2), z3) := hel.symm
      rw [hel'] at hst
      have hz2 : U6 z2 := hst.u2
      have hz3 : z3 = 0 ∨ z3 = 251 := by
        have := stp_err (s := stA xs (N, L) k2) (b := xs.getD k2 0)
        rw [hel'] at this
        exact this
      have g0 := hgC.c0
      have g1 := hgC.c1
      rcases hz3 with rfl | rfl
      · obtain ⟨W3, hW3⟩ : ∃ W3, W3 = (W.alloc (.cells #[.int .u64 z2] 22)).drew := ⟨_, rfl⟩
        have hb3 : Below W.heap.size W W3 := by rw [hW3]; exact below_drew (bel1 W _)
        have hgC3 := hgC.below hb3
        have hgC3 : CB (W.alloc (.cells #[.int .u64 z2] 22)) gb z1 z2 := by rw [hW3] at hgC3; exact hgC3
        have g0d : W.drew.cell? ⟨gb, 0, none⟩ = some (.int .u64 z1) := g0
        have n5 : ¬ w1.heap.size = W.heap.size := by have := hd.lt; omega
        have n6 : ¬ W.heap.size = w1.heap.size := by have := hd.lt; omega
        have n3 : ¬ gb = W.heap.size := by have := hgC.lt; omega
        have n4 : ¬ W.heap.size = gb := by have := hgC.lt; omega
        have g3 := hgC3.c0
        have g4 := hgC3.c1
        have d0 := hd.cell
        have d3 : W3.cell? ⟨w1.heap.size, 0, none⟩ = some (.slice A0 k2 c0) := (hb3.cell (p := ⟨w1.heap.size, 0, none⟩) hd.lt).trans d0
        have d3 : (W.alloc (.cells #[.int .u64 z2] 22)).cell? ⟨w1.heap.size, 0, none⟩ = some (.slice A0 k2 c0) := by rw [hW3] at d3; exact d3
        have HSt := Lib.hid (fun (A1 : Option Addr) (c1 : Nat) (w4 : World) (ho : w4.ownsRow (V.heap.size + 2) 22 1 (.slice A1 (k2 + 1) c1) (k2 + 1) ((rn xs (N, L) k2).2.1.map (Value.int .u64) ++ [.int .u64 z2])) (hg : W3.grownBy w4 (blk A0)) => rn_step (V := V) (pre := pre) hp2 hok (show elK xs (N, L) k2 = ((z1, z2), 0) from hel') hz2 hcb hd hown htV hgC (by omega) (by omega) rfl (by omega) hb3 ho hg)
        have HOw := Lib.hid (fun (X : World) (hX : Below W.heap.size W X) => show X.ownsRow (V.heap.size + 2) 22 1 (.slice A0 k2 c0) k2 ((rn xs (N, L) k2).2.1.map (Value.int .u64)) from by
          have := (hown.below hX).1
          rwa [(rn_st xs (N, L) k2 hok).2] at this)
        have HB3 := Lib.hid hb3
        rw [hW3] at HSt HB3
        have HKm := Lib.hid hkm
        have HWs := Lib.hid hsz
        obtain ⟨st1, st2⟩ := stA xs (N, L) k2
        clear hI hzg hWV hlo hoc hgg hg hpk hel hbX hp2 hok hcb hd hown htV hgC hst hel' hb3 hgC3 hW3 hkm hsz v0 v1 v2 v3 vd hz
        have n1 : ¬ w1.heap.size = w.heap.size := by have := HZV.out.2; omega
        have n2 : ¬ w.heap.size = w1.heap.size := by have := HZV.out.2; omega
        gi_wp2
        refine wpIn_region_any (by kernel_rfl) ?_
        change wpAnyIn _ _ _ _ _ _ _ _ _ (World.drew _)
        simp only [List.size_toArray, List.length_cons, List.length_nil, Nat.reduceAdd, Array.replicate_succ, Array.replicate_zero, List.push_toArray, List.nil_append, List.cons_append]
        refine wpAnyIn_ready (rs := [0, 1, 2]) (by kernel_rfl) (by simp) ?_
        refine AllReadyIn.cons rfl (fun K hK => ?_) ?_
        ·
          go_simp
          refine hK _ _ ?_
          clear hK K
          refine wpAnyIn_ready (rs := [1, 2]) (by kernel_rfl) (by simp) ?_
          refine AllReadyIn.cons rfl (fun K hK => ?_) ?_
          ·
            go_simp
            refine hK _ _ ?_
            clear hK K
            refine wpAnyIn_ready (rs := [2]) (by kernel_rfl) (by simp) ?_
            refine AllReadyIn.cons rfl (fun K hK => ?_) AllReadyIn.nil
            go_simp
            refine hK _ _ ?_
            clear hK K
            refine wpAnyIn_ready (rs := [3]) (by kernel_rfl) (by simp) ?_
            refine AllReadyIn.cons rfl (fun K hK => ?_) AllReadyIn.nil
            go_simp
            refine hK _ _ ?_
            clear hK K
            refine wpAnyIn_ready (rs := [4]) (by kernel_rfl) (by simp) ?_
            refine AllReadyIn.cons rfl (fun K hK => ?_) AllReadyIn.nil
            go_simp
            refine hK _ _ ?_
            clear hK K
            refine wpAnyIn_ready (rs := [5]) (by kernel_rfl) (by simp) ?_
            refine AllReadyIn.cons rfl (fun K hK => ?_) AllReadyIn.nil
            refine gapp_stepIn rfl (.tmp 28) (.tmp 31) appU rfl (V.heap.size + 2) A0 c0 k2 ((rn xs (N, L) k2).2.1.map (Value.int .u64)) rfl (HOw.out _ HB3.out) (some ⟨W.heap.size, 0, none⟩) 1 1 [.int .u64 z2] rfl (Read.one rfl (cell_laid _ _ _ 0)) (by have := HXl.out; have := HKm.out; omega) (Nat.le_trans HWs.out HB3.out.size) (fun A5 c5 w4 ho5 hg5 _ => ?_)
            obtain ⟨p1, p2, p3, hX4⟩ := HSt.out A5 c5 w4 ho5 hg5
            have q0 := p1.c0
            have q1 := p1.c1
            have q2 := p2.c0
            have q3 := p2.c1
            have q4 := p2.f0
            have q5 := p2.f1
            have q6 := p3.cell
            have q7 := p3.frozen
            have HX4 := Lib.hid hX4
            clear ho5 hg5 hX4 p1 p2 p3
            refine hK _ _ ?_
            clear hK K
            refine wpAnyIn_ready (rs := [6]) (by kernel_rfl) (by simp) ?_
            refine AllReadyIn.cons rfl (fun K hK => ?_) AllReadyIn.nil
            go_simp
            refine hK _ _ ?_
            clear hK K
            refine wpAnyIn_ready (rs := [7]) (by kernel_rfl) (by simp) ?_
            refine AllReadyIn.cons rfl (fun K hK => ?_) AllReadyIn.nil
            go_simp
            refine hK _ _ ?_
            clear hK K
            refine wpAnyIn_done (by kernel_rfl) ?_ _
            exact HX4.out
          refine AllReadyIn.cons rfl (fun K hK => ?_) ?_
          ·
            go_simp
            refine hK _ _ ?_
            clear hK K
            refine wpAnyIn_ready (rs := [1, 3]) (by kernel_rfl) (by simp) ?_
            refine AllReadyIn.cons rfl (fun K hK => ?_) ?_
            ·
              go_simp
              refine hK _ _ ?_
              clear hK K
              refine wpAnyIn_ready (rs := [3]) (by kernel_rfl) (by simp) ?_
              refine AllReadyIn.cons rfl (fun K hK => ?_) AllReadyIn.nil
              go_simp
              refine hK _ _ ?_
              clear hK K
              refine wpAnyIn_ready (rs := [4]) (by kernel_rfl) (by simp) ?_
              refine AllReadyIn.cons rfl (fun K hK => ?_) AllReadyIn.nil
              go_simp
              refine hK _ _ ?_
              clear hK K
              refine wpAnyIn_ready (rs := [5]) (by kernel_rfl) (by simp) ?_
              refine AllReadyIn.cons rfl (fun K hK => ?_) AllReadyIn.nil
              refine gapp_stepIn rfl (.tmp 28) (.tmp 31) appU rfl (V.heap.size + 2) A0 c0 k2 ((rn xs (N, L) k2).2.1.map (Value.int .u64)) rfl (HOw.out _ HB3.out) (some ⟨W.heap.size, 0, none⟩) 1 1 [.int .u64 z2] rfl (Read.one rfl (cell_laid _ _ _ 0)) (by have := HXl.out; have := HKm.out; omega) (Nat.le_trans HWs.out HB3.out.size) (fun A5 c5 w4 ho5 hg5 _ => ?_)
              obtain ⟨p1, p2, p3, hX4⟩ := HSt.out A5 c5 w4 ho5 hg5
              have q0 := p1.c0
              have q1 := p1.c1
              have q2 := p2.c0
              have q3 := p2.c1
              have q4 := p2.f0
              have q5 := p2.f1
              have q6 := p3.cell
              have q7 := p3.frozen
              have HX4 := Lib.hid hX4
              clear ho5 hg5 hX4 p1 p2 p3
              refine hK _ _ ?_
              clear hK K
              refine wpAnyIn_ready (rs := [6]) (by kernel_rfl) (by simp) ?_
              refine AllReadyIn.cons rfl (fun K hK => ?_) AllReadyIn.nil
              go_simp
              refine hK _ _ ?_
              clear hK K
              refine wpAnyIn_ready (rs := [7]) (by kernel_rfl) (by simp) ?_
              refine AllReadyIn.cons rfl (fun K hK => ?_) AllReadyIn.nil
              go_simp
              refine hK _ _ ?_
              clear hK K
              refine wpAnyIn_done (by kernel_rfl) ?_ _
              exact HX4.out
            refine AllReadyIn.cons rfl (fun K hK => ?_) ?_
            ·
              go_simp
              refine hK _ _ ?_
              clear hK K
              refine wpAnyIn_ready (rs := [1, 4]) (by kernel_rfl) (by simp) ?_
              refine AllReadyIn.cons rfl (fun K hK => ?_) ?_
              ·
                go_simp
                refine hK _ _ ?_
                clear hK K
                refine wpAnyIn_ready (rs := [4]) (by kernel_rfl) (by simp) ?_
                refine AllReadyIn.cons rfl (fun K hK => ?_) AllReadyIn.nil
                go_simp
                refine hK _ _ ?_
                clear hK K
                refine wpAnyIn_ready (rs := [5]) (by kernel_rfl) (by simp) ?_
                refine AllReadyIn.cons rfl (fun K hK => ?_) AllReadyIn.nil
                refine gapp_stepIn rfl (.tmp 28) (.tmp 31) appU rfl (V.heap.size + 2) A0 c0 k2 ((rn xs (N, L) k2).2.1.map (Value.int .u64)) rfl (HOw.out _ HB3.out) (some ⟨W.heap.size, 0, none⟩) 1 1 [.int .u64 z2] rfl (Read.one rfl (cell_laid _ _ _ 0)) (by have := HXl.out; have := HKm.out; omega) (Nat.le_trans HWs.out HB3.out.size) (fun A5 c5 w4 ho5 hg5 _ => ?_)
                obtain ⟨p1, p2, p3, hX4⟩ := HSt.out A5 c5 w4 ho5 hg5
                have q0 := p1.c0
                have q1 := p1.c1
                have q2 := p2.c0
                have q3 := p2.c1
                have q4 := p2.f0
                have q5 := p2.f1
                have q6 := p3.cell
                have q7 := p3.frozen
                have HX4 := Lib.hid hX4
                clear ho5 hg5 hX4 p1 p2 p3
                refine hK _ _ ?_
                clear hK K
                refine wpAnyIn_ready (rs := [6]) (by kernel_rfl) (by simp) ?_
                refine AllReadyIn.cons rfl (fun K hK => ?_) AllReadyIn.nil
                go_simp
                refine hK _ _ ?_
                clear hK K
                refine wpAnyIn_ready (rs := [7]) (by kernel_rfl) (by simp) ?_
                refine AllReadyIn.cons rfl (fun K hK => ?_) AllReadyIn.nil
                go_simp
                refine hK _ _ ?_
                clear hK K
                refine wpAnyIn_done (by kernel_rfl) ?_ _
                exact HX4.out
              refine AllReadyIn.cons rfl (fun K hK => ?_) ?_
              ·
                go_simp
                refine hK _ _ ?_
                clear hK K
                refine wpAnyIn_ready (rs := [1]) (by kernel_rfl) (by simp) ?_
                refine AllReadyIn.cons rfl (fun K hK => ?_) AllReadyIn.nil
                go_simp
                refine hK _ _ ?_
                clear hK K
                refine wpAnyIn_ready (rs := [5]) (by kernel_rfl) (by simp) ?_
                refine AllReadyIn.cons rfl (fun K hK => ?_) AllReadyIn.nil
                refine gapp_stepIn rfl (.tmp 28) (.tmp 31) appU rfl (V.heap.size + 2) A0 c0 k2 ((rn xs (N, L) k2).2.1.map (Value.int .u64)) rfl (HOw.out _ HB3.out) (some ⟨W.heap.size, 0, none⟩) 1 1 [.int .u64 z2] rfl (Read.one rfl (cell_laid _ _ _ 0)) (by have := HXl.out; have := HKm.out; omega) (Nat.le_trans HWs.out HB3.out.size) (fun A5 c5 w4 ho5 hg5 _ => ?_)
                obtain ⟨p1, p2, p3, hX4⟩ := HSt.out A5 c5 w4 ho5 hg5
                have q0 := p1.c0
                have q1 := p1.c1
                have q2 := p2.c0
                have q3 := p2.c1
                have q4 := p2.f0
                have q5 := p2.f1
                have q6 := p3.cell
                have q7 := p3.frozen
                have HX4 := Lib.hid hX4
                clear ho5 hg5 hX4 p1 p2 p3
                refine hK _ _ ?_
                clear hK K
                refine wpAnyIn_ready (rs := [6]) (by kernel_rfl) (by simp) ?_
                refine AllReadyIn.cons rfl (fun K hK => ?_) AllReadyIn.nil
                go_simp
                refine hK _ _ ?_
                clear hK K
                refine wpAnyIn_ready (rs := [7]) (by kernel_rfl) (by simp) ?_
                refine AllReadyIn.cons rfl (fun K hK => ?_) AllReadyIn.nil
                go_simp
                refine hK _ _ ?_
                clear hK K
                refine wpAnyIn_done (by kernel_rfl) ?_ _
                exact HX4.out
              exact AllReadyIn.nil
            exact AllReadyIn.nil
          exact AllReadyIn.nil
        refine AllReadyIn.cons rfl (fun K hK => ?_) ?_
        ·
          go_simp
          refine hK _ _ ?_
          clear hK K
          refine wpAnyIn_ready (rs := [0, 2]) (by kernel_rfl) (by simp) ?_
          refine AllReadyIn.cons rfl (fun K hK => ?_) ?_
          ·
            go_simp
            refine hK _ _ ?_
            clear hK K
            refine wpAnyIn_ready (rs := [2]) (by kernel_rfl) (by simp) ?_
            refine AllReadyIn.cons rfl (fun K hK => ?_) AllReadyIn.nil
            go_simp
            refine hK _ _ ?_
            clear hK K
            refine wpAnyIn_ready (rs := [3]) (by kernel_rfl) (by simp) ?_
            refine AllReadyIn.cons rfl (fun K hK => ?_) AllReadyIn.nil
            go_simp
            refine hK _ _ ?_
            clear hK K
            refine wpAnyIn_ready (rs := [4]) (by kernel_rfl) (by simp) ?_
            refine AllReadyIn.cons rfl (fun K hK => ?_) AllReadyIn.nil
            go_simp
            refine hK _ _ ?_
            clear hK K
            refine wpAnyIn_ready (rs := [5]) (by kernel_rfl) (by simp) ?_
            refine AllReadyIn.cons rfl (fun K hK => ?_) AllReadyIn.nil
            refine gapp_stepIn rfl (.tmp 28) (.tmp 31) appU rfl (V.heap.size + 2) A0 c0 k2 ((rn xs (N, L) k2).2.1.map (Value.int .u64)) rfl (HOw.out _ HB3.out) (some ⟨W.heap.size, 0, none⟩) 1 1 [.int .u64 z2] rfl (Read.one rfl (cell_laid _ _ _ 0)) (by have := HXl.out; have := HKm.out; omega) (Nat.le_trans HWs.out HB3.out.size) (fun A5 c5 w4 ho5 hg5 _ => ?_)
            obtain ⟨p1, p2, p3, hX4⟩ := HSt.out A5 c5 w4 ho5 hg5
            have q0 := p1.c0
            have q1 := p1.c1
            have q2 := p2.c0
            have q3 := p2.c1
            have q4 := p2.f0
            have q5 := p2.f1
            have q6 := p3.cell
            have q7 := p3.frozen
            have HX4 := Lib.hid hX4
            clear ho5 hg5 hX4 p1 p2 p3
            refine hK _ _ ?_
            clear hK K
            refine wpAnyIn_ready (rs := [6]) (by kernel_rfl) (by simp) ?_
            refine AllReadyIn.cons rfl (fun K hK => ?_) AllReadyIn.nil
            go_simp
            refine hK _ _ ?_
            clear hK K
            refine wpAnyIn_ready (rs := [7]) (by kernel_rfl) (by simp) ?_
            refine AllReadyIn.cons rfl (fun K hK => ?_) AllReadyIn.nil
            go_simp
            refine hK _ _ ?_
            clear hK K
            refine wpAnyIn_done (by kernel_rfl) ?_ _
            exact HX4.out
          refine AllReadyIn.cons rfl (fun K hK => ?_) ?_
          ·
            go_simp
            refine hK _ _ ?_
            clear hK K
            refine wpAnyIn_ready (rs := [0, 3]) (by kernel_rfl) (by simp) ?_
            refine AllReadyIn.cons rfl (fun K hK => ?_) ?_
            ·
              go_simp
              refine hK _ _ ?_
              clear hK K
              refine wpAnyIn_ready (rs := [3]) (by kernel_rfl) (by simp) ?_
              refine AllReadyIn.cons rfl (fun K hK => ?_) AllReadyIn.nil
              go_simp
              refine hK _ _ ?_
              clear hK K
              refine wpAnyIn_ready (rs := [4]) (by kernel_rfl) (by simp) ?_
              refine AllReadyIn.cons rfl (fun K hK => ?_) AllReadyIn.nil
              go_simp
              refine hK _ _ ?_
              clear hK K
              refine wpAnyIn_ready (rs := [5]) (by kernel_rfl) (by simp) ?_
              refine AllReadyIn.cons rfl (fun K hK => ?_) AllReadyIn.nil
              refine gapp_stepIn rfl (.tmp 28) (.tmp 31) appU rfl (V.heap.size + 2) A0 c0 k2 ((rn xs (N, L) k2).2.1.map (Value.int .u64)) rfl (HOw.out _ HB3.out) (some ⟨W.heap.size, 0, none⟩) 1 1 [.int .u64 z2] rfl (Read.one rfl (cell_laid _ _ _ 0)) (by have := HXl.out; have := HKm.out; omega) (Nat.le_trans HWs.out HB3.out.size) (fun A5 c5 w4 ho5 hg5 _ => ?_)
              obtain ⟨p1, p2, p3, hX4⟩ := HSt.out A5 c5 w4 ho5 hg5
              have q0 := p1.c0
              have q1 := p1.c1
              have q2 := p2.c0
              have q3 := p2.c1
              have q4 := p2.f0
              have q5 := p2.f1
              have q6 := p3.cell
              have q7 := p3.frozen
              have HX4 := Lib.hid hX4
              clear ho5 hg5 hX4 p1 p2 p3
              refine hK _ _ ?_
              clear hK K
              refine wpAnyIn_ready (rs := [6]) (by kernel_rfl) (by simp) ?_
              refine AllReadyIn.cons rfl (fun K hK => ?_) AllReadyIn.nil
              go_simp
              refine hK _ _ ?_
              clear hK K
              refine wpAnyIn_ready (rs := [7]) (by kernel_rfl) (by simp) ?_
              refine AllReadyIn.cons rfl (fun K hK => ?_) AllReadyIn.nil
              go_simp
              refine hK _ _ ?_
              clear hK K
              refine wpAnyIn_done (by kernel_rfl) ?_ _
              exact HX4.out
            refine AllReadyIn.cons rfl (fun K hK => ?_) ?_
            ·
              go_simp
              refine hK _ _ ?_
              clear hK K
              refine wpAnyIn_ready (rs := [0, 4]) (by kernel_rfl) (by simp) ?_
              refine AllReadyIn.cons rfl (fun K hK => ?_) ?_
              ·
                go_simp
                refine hK _ _ ?_
                clear hK K
                refine wpAnyIn_ready (rs := [4]) (by kernel_rfl) (by simp) ?_
                refine AllReadyIn.cons rfl (fun K hK => ?_) AllReadyIn.nil
                go_simp
                refine hK _ _ ?_
                clear hK K
                refine wpAnyIn_ready (rs := [5]) (by kernel_rfl) (by simp) ?_
                refine AllReadyIn.cons rfl (fun K hK => ?_) AllReadyIn.nil
                refine gapp_stepIn rfl (.tmp 28) (.tmp 31) appU rfl (V.heap.size + 2) A0 c0 k2 ((rn xs (N, L) k2).2.1.map (Value.int .u64)) rfl (HOw.out _ HB3.out) (some ⟨W.heap.size, 0, none⟩) 1 1 [.int .u64 z2] rfl (Read.one rfl (cell_laid _ _ _ 0)) (by have := HXl.out; have := HKm.out; omega) (Nat.le_trans HWs.out HB3.out.size) (fun A5 c5 w4 ho5 hg5 _ => ?_)
                obtain ⟨p1, p2, p3, hX4⟩ := HSt.out A5 c5 w4 ho5 hg5
                have q0 := p1.c0
                have q1 := p1.c1
                have q2 := p2.c0
                have q3 := p2.c1
                have q4 := p2.f0
                have q5 := p2.f1
                have q6 := p3.cell
                have q7 := p3.frozen
                have HX4 := Lib.hid hX4
                clear ho5 hg5 hX4 p1 p2 p3
                refine hK _ _ ?_
                clear hK K
                refine wpAnyIn_ready (rs := [6]) (by kernel_rfl) (by simp) ?_
                refine AllReadyIn.cons rfl (fun K hK => ?_) AllReadyIn.nil
                go_simp
                refine hK _ _ ?_
                clear hK K
                refine wpAnyIn_ready (rs := [7]) (by kernel_rfl) (by simp) ?_
                refine AllReadyIn.cons rfl (fun K hK => ?_) AllReadyIn.nil
                go_simp
                refine hK _ _ ?_
                clear hK K
                refine wpAnyIn_done (by kernel_rfl) ?_ _
                exact HX4.out
              refine AllReadyIn.cons rfl (fun K hK => ?_) ?_
              ·
                go_simp
                refine hK _ _ ?_
                clear hK K
                refine wpAnyIn_ready (rs := [0, 5]) (by kernel_rfl) (by simp) ?_
                refine AllReadyIn.cons rfl (fun K hK => ?_) ?_
                ·
                  go_simp
                  refine hK _ _ ?_
                  clear hK K
                  refine wpAnyIn_ready (rs := [5]) (by kernel_rfl) (by simp) ?_
                  refine AllReadyIn.cons rfl (fun K hK => ?_) AllReadyIn.nil
                  refine gapp_stepIn rfl (.tmp 28) (.tmp 31) appU rfl (V.heap.size + 2) A0 c0 k2 ((rn xs (N, L) k2).2.1.map (Value.int .u64)) rfl (HOw.out _ HB3.out) (some ⟨W.heap.size, 0, none⟩) 1 1 [.int .u64 z2] rfl (Read.one rfl (cell_laid _ _ _ 0)) (by have := HXl.out; have := HKm.out; omega) (Nat.le_trans HWs.out HB3.out.size) (fun A5 c5 w4 ho5 hg5 _ => ?_)
                  obtain ⟨p1, p2, p3, hX4⟩ := HSt.out A5 c5 w4 ho5 hg5
                  have q0 := p1.c0
                  have q1 := p1.c1
                  have q2 := p2.c0
                  have q3 := p2.c1
                  have q4 := p2.f0
                  have q5 := p2.f1
                  have q6 := p3.cell
                  have q7 := p3.frozen
                  have HX4 := Lib.hid hX4
                  clear ho5 hg5 hX4 p1 p2 p3
                  refine hK _ _ ?_
                  clear hK K
                  refine wpAnyIn_ready (rs := [6]) (by kernel_rfl) (by simp) ?_
                  refine AllReadyIn.cons rfl (fun K hK => ?_) AllReadyIn.nil
                  go_simp
                  refine hK _ _ ?_
                  clear hK K
                  refine wpAnyIn_ready (rs := [7]) (by kernel_rfl) (by simp) ?_
                  refine AllReadyIn.cons rfl (fun K hK => ?_) AllReadyIn.nil
                  go_simp
                  refine hK _ _ ?_
                  clear hK K
                  refine wpAnyIn_done (by kernel_rfl) ?_ _
                  exact HX4.out
                refine AllReadyIn.cons rfl (fun K hK => ?_) ?_
                ·
                  refine gapp_stepIn rfl (.tmp 28) (.tmp 31) appU rfl (V.heap.size + 2) A0 c0 k2 ((rn xs (N, L) k2).2.1.map (Value.int .u64)) rfl (HOw.out _ HB3.out) (some ⟨W.heap.size, 0, none⟩) 1 1 [.int .u64 z2] rfl (Read.one rfl (cell_laid _ _ _ 0)) (by have := HXl.out; have := HKm.out; omega) (Nat.le_trans HWs.out HB3.out.size) (fun A5 c5 w4 ho5 hg5 _ => ?_)
                  obtain ⟨p1, p2, p3, hX4⟩ := HSt.out A5 c5 w4 ho5 hg5
                  have q0 := p1.c0
                  have q1 := p1.c1
                  have q2 := p2.c0
                  have q3 := p2.c1
                  have q4 := p2.f0
                  have q5 := p2.f1
                  have q6 := p3.cell
                  have q7 := p3.frozen
                  have HX4 := Lib.hid hX4
                  clear ho5 hg5 hX4 p1 p2 p3
                  refine hK _ _ ?_
                  clear hK K
                  refine wpAnyIn_ready (rs := [0]) (by kernel_rfl) (by simp) ?_
                  refine AllReadyIn.cons rfl (fun K hK => ?_) AllReadyIn.nil
                  go_simp
                  refine hK _ _ ?_
                  clear hK K
                  refine wpAnyIn_ready (rs := [6]) (by kernel_rfl) (by simp) ?_
                  refine AllReadyIn.cons rfl (fun K hK => ?_) AllReadyIn.nil
                  go_simp
                  refine hK _ _ ?_
                  clear hK K
                  refine wpAnyIn_ready (rs := [7]) (by kernel_rfl) (by simp) ?_
                  refine AllReadyIn.cons rfl (fun K hK => ?_) AllReadyIn.nil
                  go_simp
                  refine hK _ _ ?_
                  clear hK K
                  refine wpAnyIn_done (by kernel_rfl) ?_ _
                  exact HX4.out
                exact AllReadyIn.nil
              exact AllReadyIn.nil
            exact AllReadyIn.nil
          exact AllReadyIn.nil
        refine AllReadyIn.cons rfl (fun K hK => ?_) ?_
        ·
          go_simp
          refine hK _ _ ?_
          clear hK K
          refine wpAnyIn_ready (rs := [0, 1, 3]) (by kernel_rfl) (by simp) ?_
          refine AllReadyIn.cons rfl (fun K hK => ?_) ?_
          ·
            go_simp
            refine hK _ _ ?_
            clear hK K
            refine wpAnyIn_ready (rs := [1, 3]) (by kernel_rfl) (by simp) ?_
            refine AllReadyIn.cons rfl (fun K hK => ?_) ?_
            ·
              go_simp
              refine hK _ _ ?_
              clear hK K
              refine wpAnyIn_ready (rs := [3]) (by kernel_rfl) (by simp) ?_
              refine AllReadyIn.cons rfl (fun K hK => ?_) AllReadyIn.nil
              go_simp
              refine hK _ _ ?_
              clear hK K
              refine wpAnyIn_ready (rs := [4]) (by kernel_rfl) (by simp) ?_
              refine AllReadyIn.cons rfl (fun K hK => ?_) AllReadyIn.nil
              go_simp
              refine hK _ _ ?_
              clear hK K
              refine wpAnyIn_ready (rs := [5]) (by kernel_rfl) (by simp) ?_
              refine AllReadyIn.cons rfl (fun K hK => ?_) AllReadyIn.nil
              refine gapp_stepIn rfl (.tmp 28) (.tmp 31) appU rfl (V.heap.size + 2) A0 c0 k2 ((rn xs (N, L) k2).2.1.map (Value.int .u64)) rfl (HOw.out _ HB3.out) (some ⟨W.heap.size, 0, none⟩) 1 1 [.int .u64 z2] rfl (Read.one rfl (cell_laid _ _ _ 0)) (by have := HXl.out; have := HKm.out; omega) (Nat.le_trans HWs.out HB3.out.size) (fun A5 c5 w4 ho5 hg5 _ => ?_)
              obtain ⟨p1, p2, p3, hX4⟩ := HSt.out A5 c5 w4 ho5 hg5
              have q0 := p1.c0
              have q1 := p1.c1
              have q2 := p2.c0
              have q3 := p2.c1
              have q4 := p2.f0
              have q5 := p2.f1
              have q6 := p3.cell
              have q7 := p3.frozen
              have HX4 := Lib.hid hX4
              clear ho5 hg5 hX4 p1 p2 p3
              refine hK _ _ ?_
              clear hK K
              refine wpAnyIn_ready (rs := [6]) (by kernel_rfl) (by simp) ?_
              refine AllReadyIn.cons rfl (fun K hK => ?_) AllReadyIn.nil
              go_simp
              refine hK _ _ ?_
              clear hK K
              refine wpAnyIn_ready (rs := [7]) (by kernel_rfl) (by simp) ?_
              refine AllReadyIn.cons rfl (fun K hK => ?_) AllReadyIn.nil
              go_simp
              refine hK _ _ ?_
              clear hK K
              refine wpAnyIn_done (by kernel_rfl) ?_ _
              exact HX4.out
            refine AllReadyIn.cons rfl (fun K hK => ?_) ?_
            ·
              go_simp
              refine hK _ _ ?_
              clear hK K
              refine wpAnyIn_ready (rs := [1, 4]) (by kernel_rfl) (by simp) ?_
              refine AllReadyIn.cons rfl (fun K hK => ?_) ?_
              ·
                go_simp
                refine hK _ _ ?_
                clear hK K
                refine wpAnyIn_ready (rs := [4]) (by kernel_rfl) (by simp) ?_
                refine AllReadyIn.cons rfl (fun K hK => ?_) AllReadyIn.nil
                go_simp
                refine hK _ _ ?_
                clear hK K
                refine wpAnyIn_ready (rs := [5]) (by kernel_rfl) (by simp) ?_
                refine AllReadyIn.cons rfl (fun K hK => ?_) AllReadyIn.nil
                refine gapp_stepIn rfl (.tmp 28) (.tmp 31) appU rfl (V.heap.size + 2) A0 c0 k2 ((rn xs (N, L) k2).2.1.map (Value.int .u64)) rfl (HOw.out _ HB3.out) (some ⟨W.heap.size, 0, none⟩) 1 1 [.int .u64 z2] rfl (Read.one rfl (cell_laid _ _ _ 0)) (by have := HXl.out; have := HKm.out; omega) (Nat.le_trans HWs.out HB3.out.size) (fun A5 c5 w4 ho5 hg5 _ => ?_)
                obtain ⟨p1, p2, p3, hX4⟩ := HSt.out A5 c5 w4 ho5 hg5
                have q0 := p1.c0
                have q1 := p1.c1
                have q2 := p2.c0
                have q3 := p2.c1
                have q4 := p2.f0
                have q5 := p2.f1
                have q6 := p3.cell
                have q7 := p3.frozen
                have HX4 := Lib.hid hX4
                clear ho5 hg5 hX4 p1 p2 p3
                refine hK _ _ ?_
                clear hK K
                refine wpAnyIn_ready (rs := [6]) (by kernel_rfl) (by simp) ?_
                refine AllReadyIn.cons rfl (fun K hK => ?_) AllReadyIn.nil
                go_simp
                refine hK _ _ ?_
                clear hK K
                refine wpAnyIn_ready (rs := [7]) (by kernel_rfl) (by simp) ?_
                refine AllReadyIn.cons rfl (fun K hK => ?_) AllReadyIn.nil
                go_simp
                refine hK _ _ ?_
                clear hK K
                refine wpAnyIn_done (by kernel_rfl) ?_ _
                exact HX4.out
              refine AllReadyIn.cons rfl (fun K hK => ?_) ?_
              ·
                go_simp
                refine hK _ _ ?_
                clear hK K
                refine wpAnyIn_ready (rs := [1]) (by kernel_rfl) (by simp) ?_
                refine AllReadyIn.cons rfl (fun K hK => ?_) AllReadyIn.nil
                go_simp
                refine hK _ _ ?_
                clear hK K
                refine wpAnyIn_ready (rs := [5]) (by kernel_rfl) (by simp) ?_
                refine AllReadyIn.cons rfl (fun K hK => ?_) AllReadyIn.nil
                refine gapp_stepIn rfl (.tmp 28) (.tmp 31) appU rfl (V.heap.size + 2) A0 c0 k2 ((rn xs (N, L) k2).2.1.map (Value.int .u64)) rfl (HOw.out _ HB3.out) (some ⟨W.heap.size, 0, none⟩) 1 1 [.int .u64 z2] rfl (Read.one rfl (cell_laid _ _ _ 0)) (by have := HXl.out; have := HKm.out; omega) (Nat.le_trans HWs.out HB3.out.size) (fun A5 c5 w4 ho5 hg5 _ => ?_)
                obtain ⟨p1, p2, p3, hX4⟩ := HSt.out A5 c5 w4 ho5 hg5
                have q0 := p1.c0
                have q1 := p1.c1
                have q2 := p2.c0
                have q3 := p2.c1
                have q4 := p2.f0
                have q5 := p2.f1
                have q6 := p3.cell
                have q7 := p3.frozen
                have HX4 := Lib.hid hX4
                clear ho5 hg5 hX4 p1 p2 p3
                refine hK _ _ ?_
                clear hK K
                refine wpAnyIn_ready (rs := [6]) (by kernel_rfl) (by simp) ?_
                refine AllReadyIn.cons rfl (fun K hK => ?_) AllReadyIn.nil
                go_simp
                refine hK _ _ ?_
                clear hK K
                refine wpAnyIn_ready (rs := [7]) (by kernel_rfl) (by simp) ?_
                refine AllReadyIn.cons rfl (fun K hK => ?_) AllReadyIn.nil
                go_simp
                refine hK _ _ ?_
                clear hK K
                refine wpAnyIn_done (by kernel_rfl) ?_ _
                exact HX4.out
              exact AllReadyIn.nil
            exact AllReadyIn.nil
          refine AllReadyIn.cons rfl (fun K hK => ?_) ?_
          ·
            go_simp
            refine hK _ _ ?_
            clear hK K
            refine wpAnyIn_ready (rs := [0, 3]) (by kernel_rfl) (by simp) ?_
            refine AllReadyIn.cons rfl (fun K hK => ?_) ?_
            ·
              go_simp
              refine hK _ _ ?_
              clear hK K
              refine wpAnyIn_ready (rs := [3]) (by kernel_rfl) (by simp) ?_
              refine AllReadyIn.cons rfl (fun K hK => ?_) AllReadyIn.nil
              go_simp
              refine hK _ _ ?_
              clear hK K
              refine wpAnyIn_ready (rs := [4]) (by kernel_rfl) (by simp) ?_
              refine AllReadyIn.cons rfl (fun K hK => ?_) AllReadyIn.nil
              go_simp
              refine hK _ _ ?_
              clear hK K
              refine wpAnyIn_ready (rs := [5]) (by kernel_rfl) (by simp) ?_
              refine AllReadyIn.cons rfl (fun K hK => ?_) AllReadyIn.nil
              refine gapp_stepIn rfl (.tmp 28) (.tmp 31) appU rfl (V.heap.size + 2) A0 c0 k2 ((rn xs (N, L) k2).2.1.map (Value.int .u64)) rfl (HOw.out _ HB3.out) (some ⟨W.heap.size, 0, none⟩) 1 1 [.int .u64 z2] rfl (Read.one rfl (cell_laid _ _ _ 0)) (by have := HXl.out; have := HKm.out; omega) (Nat.le_trans HWs.out HB3.out.size) (fun A5 c5 w4 ho5 hg5 _ => ?_)
              obtain ⟨p1, p2, p3, hX4⟩ := HSt.out A5 c5 w4 ho5 hg5
              have q0 := p1.c0
              have q1 := p1.c1
              have q2 := p2.c0
              have q3 := p2.c1
              have q4 := p2.f0
              have q5 := p2.f1
              have q6 := p3.cell
              have q7 := p3.frozen
              have HX4 := Lib.hid hX4
              clear ho5 hg5 hX4 p1 p2 p3
              refine hK _ _ ?_
              clear hK K
              refine wpAnyIn_ready (rs := [6]) (by kernel_rfl) (by simp) ?_
              refine AllReadyIn.cons rfl (fun K hK => ?_) AllReadyIn.nil
              go_simp
              refine hK _ _ ?_
              clear hK K
              refine wpAnyIn_ready (rs := [7]) (by kernel_rfl) (by simp) ?_
              refine AllReadyIn.cons rfl (fun K hK => ?_) AllReadyIn.nil
              go_simp
              refine hK _ _ ?_
              clear hK K
              refine wpAnyIn_done (by kernel_rfl) ?_ _
              exact HX4.out
            refine AllReadyIn.cons rfl (fun K hK => ?_) ?_
            ·
              go_simp
              refine hK _ _ ?_
              clear hK K
              refine wpAnyIn_ready (rs := [0, 4]) (by kernel_rfl) (by simp) ?_
              refine AllReadyIn.cons rfl (fun K hK => ?_) ?_
              ·
                go_simp
                refine hK _ _ ?_
                clear hK K
                refine wpAnyIn_ready (rs := [4]) (by kernel_rfl) (by simp) ?_
                refine AllReadyIn.cons rfl (fun K hK => ?_) AllReadyIn.nil
                go_simp
                refine hK _ _ ?_
                clear hK K
                refine wpAnyIn_ready (rs := [5]) (by kernel_rfl) (by simp) ?_
                refine AllReadyIn.cons rfl (fun K hK => ?_) AllReadyIn.nil
                refine gapp_stepIn rfl (.tmp 28) (.tmp 31) appU rfl (V.heap.size + 2) A0 c0 k2 ((rn xs (N, L) k2).2.1.map (Value.int .u64)) rfl (HOw.out _ HB3.out) (some ⟨W.heap.size, 0, none⟩) 1 1 [.int .u64 z2] rfl (Read.one rfl (cell_laid _ _ _ 0)) (by have := HXl.out; have := HKm.out; omega) (Nat.le_trans HWs.out HB3.out.size) (fun A5 c5 w4 ho5 hg5 _ => ?_)
                obtain ⟨p1, p2, p3, hX4⟩ := HSt.out A5 c5 w4 ho5 hg5
                have q0 := p1.c0
                have q1 := p1.c1
                have q2 := p2.c0
                have q3 := p2.c1
                have q4 := p2.f0
                have q5 := p2.f1
                have q6 := p3.cell
                have q7 := p3.frozen
                have HX4 := Lib.hid hX4
                clear ho5 hg5 hX4 p1 p2 p3
                refine hK _ _ ?_
                clear hK K
                refine wpAnyIn_ready (rs := [6]) (by kernel_rfl) (by simp) ?_
                refine AllReadyIn.cons rfl (fun K hK => ?_) AllReadyIn.nil
                go_simp
                refine hK _ _ ?_
                clear hK K
                refine wpAnyIn_ready (rs := [7]) (by kernel_rfl) (by simp) ?_
                refine AllReadyIn.cons rfl (fun K hK => ?_) AllReadyIn.nil
                go_simp
                refine hK _ _ ?_
                clear hK K
                refine wpAnyIn_done (by kernel_rfl) ?_ _
                exact HX4.out
              refine AllReadyIn.cons rfl (fun K hK => ?_) ?_
              ·
                go_simp
                refine hK _ _ ?_
                clear hK K
                refine wpAnyIn_ready (rs := [0, 5]) (by kernel_rfl) (by simp) ?_
                refine AllReadyIn.cons rfl (fun K hK => ?_) ?_
                ·
                  go_simp
                  refine hK _ _ ?_
                  clear hK K
                  refine wpAnyIn_ready (rs := [5]) (by kernel_rfl) (by simp) ?_
                  refine AllReadyIn.cons rfl (fun K hK => ?_) AllReadyIn.nil
                  refine gapp_stepIn rfl (.tmp 28) (.tmp 31) appU rfl (V.heap.size + 2) A0 c0 k2 ((rn xs (N, L) k2).2.1.map (Value.int .u64)) rfl (HOw.out _ HB3.out) (some ⟨W.heap.size, 0, none⟩) 1 1 [.int .u64 z2] rfl (Read.one rfl (cell_laid _ _ _ 0)) (by have := HXl.out; have := HKm.out; omega) (Nat.le_trans HWs.out HB3.out.size) (fun A5 c5 w4 ho5 hg5 _ => ?_)
                  obtain ⟨p1, p2, p3, hX4⟩ := HSt.out A5 c5 w4 ho5 hg5
                  have q0 := p1.c0
                  have q1 := p1.c1
                  have q2 := p2.c0
                  have q3 := p2.c1
                  have q4 := p2.f0
                  have q5 := p2.f1
                  have q6 := p3.cell
                  have q7 := p3.frozen
                  have HX4 := Lib.hid hX4
                  clear ho5 hg5 hX4 p1 p2 p3
                  refine hK _ _ ?_
                  clear hK K
                  refine wpAnyIn_ready (rs := [6]) (by kernel_rfl) (by simp) ?_
                  refine AllReadyIn.cons rfl (fun K hK => ?_) AllReadyIn.nil
                  go_simp
                  refine hK _ _ ?_
                  clear hK K
                  refine wpAnyIn_ready (rs := [7]) (by kernel_rfl) (by simp) ?_
                  refine AllReadyIn.cons rfl (fun K hK => ?_) AllReadyIn.nil
                  go_simp
                  refine hK _ _ ?_
                  clear hK K
                  refine wpAnyIn_done (by kernel_rfl) ?_ _
                  exact HX4.out
                refine AllReadyIn.cons rfl (fun K hK => ?_) ?_
                ·
                  refine gapp_stepIn rfl (.tmp 28) (.tmp 31) appU rfl (V.heap.size + 2) A0 c0 k2 ((rn xs (N, L) k2).2.1.map (Value.int .u64)) rfl (HOw.out _ HB3.out) (some ⟨W.heap.size, 0, none⟩) 1 1 [.int .u64 z2] rfl (Read.one rfl (cell_laid _ _ _ 0)) (by have := HXl.out; have := HKm.out; omega) (Nat.le_trans HWs.out HB3.out.size) (fun A5 c5 w4 ho5 hg5 _ => ?_)
                  obtain ⟨p1, p2, p3, hX4⟩ := HSt.out A5 c5 w4 ho5 hg5
                  have q0 := p1.c0
                  have q1 := p1.c1
                  have q2 := p2.c0
                  have q3 := p2.c1
                  have q4 := p2.f0
                  have q5 := p2.f1
                  have q6 := p3.cell
                  have q7 := p3.frozen
                  have HX4 := Lib.hid hX4
                  clear ho5 hg5 hX4 p1 p2 p3
                  refine hK _ _ ?_
                  clear hK K
                  refine wpAnyIn_ready (rs := [0]) (by kernel_rfl) (by simp) ?_
                  refine AllReadyIn.cons rfl (fun K hK => ?_) AllReadyIn.nil
                  go_simp
                  refine hK _ _ ?_
                  clear hK K
                  refine wpAnyIn_ready (rs := [6]) (by kernel_rfl) (by simp) ?_
                  refine AllReadyIn.cons rfl (fun K hK => ?_) AllReadyIn.nil
                  go_simp
                  refine hK _ _ ?_
                  clear hK K
                  refine wpAnyIn_ready (rs := [7]) (by kernel_rfl) (by simp) ?_
                  refine AllReadyIn.cons rfl (fun K hK => ?_) AllReadyIn.nil
                  go_simp
                  refine hK _ _ ?_
                  clear hK K
                  refine wpAnyIn_done (by kernel_rfl) ?_ _
                  exact HX4.out
                exact AllReadyIn.nil
              exact AllReadyIn.nil
            exact AllReadyIn.nil
          refine AllReadyIn.cons rfl (fun K hK => ?_) ?_
          ·
            go_simp
            refine hK _ _ ?_
            clear hK K
            refine wpAnyIn_ready (rs := [0, 1, 4]) (by kernel_rfl) (by simp) ?_
            refine AllReadyIn.cons rfl (fun K hK => ?_) ?_
            ·
              go_simp
              refine hK _ _ ?_
              clear hK K
              refine wpAnyIn_ready (rs := [1, 4]) (by kernel_rfl) (by simp) ?_
              refine AllReadyIn.cons rfl (fun K hK => ?_) ?_
              ·
                go_simp
                refine hK _ _ ?_
                clear hK K
                refine wpAnyIn_ready (rs := [4]) (by kernel_rfl) (by simp) ?_
                refine AllReadyIn.cons rfl (fun K hK => ?_) AllReadyIn.nil
                go_simp
                refine hK _ _ ?_
                clear hK K
                refine wpAnyIn_ready (rs := [5]) (by kernel_rfl) (by simp) ?_
                refine AllReadyIn.cons rfl (fun K hK => ?_) AllReadyIn.nil
                refine gapp_stepIn rfl (.tmp 28) (.tmp 31) appU rfl (V.heap.size + 2) A0 c0 k2 ((rn xs (N, L) k2).2.1.map (Value.int .u64)) rfl (HOw.out _ HB3.out) (some ⟨W.heap.size, 0, none⟩) 1 1 [.int .u64 z2] rfl (Read.one rfl (cell_laid _ _ _ 0)) (by have := HXl.out; have := HKm.out; omega) (Nat.le_trans HWs.out HB3.out.size) (fun A5 c5 w4 ho5 hg5 _ => ?_)
                obtain ⟨p1, p2, p3, hX4⟩ := HSt.out A5 c5 w4 ho5 hg5
                have q0 := p1.c0
                have q1 := p1.c1
                have q2 := p2.c0
                have q3 := p2.c1
                have q4 := p2.f0
                have q5 := p2.f1
                have q6 := p3.cell
                have q7 := p3.frozen
                have HX4 := Lib.hid hX4
                clear ho5 hg5 hX4 p1 p2 p3
                refine hK _ _ ?_
                clear hK K
                refine wpAnyIn_ready (rs := [6]) (by kernel_rfl) (by simp) ?_
                refine AllReadyIn.cons rfl (fun K hK => ?_) AllReadyIn.nil
                go_simp
                refine hK _ _ ?_
                clear hK K
                refine wpAnyIn_ready (rs := [7]) (by kernel_rfl) (by simp) ?_
                refine AllReadyIn.cons rfl (fun K hK => ?_) AllReadyIn.nil
                go_simp
                refine hK _ _ ?_
                clear hK K
                refine wpAnyIn_done (by kernel_rfl) ?_ _
                exact HX4.out
              refine AllReadyIn.cons rfl (fun K hK => ?_) ?_
              ·
                go_simp
                refine hK _ _ ?_
                clear hK K
                refine wpAnyIn_ready (rs := [1]) (by kernel_rfl) (by simp) ?_
                refine AllReadyIn.cons rfl (fun K hK => ?_) AllReadyIn.nil
                go_simp
                refine hK _ _ ?_
                clear hK K
                refine wpAnyIn_ready (rs := [5]) (by kernel_rfl) (by simp) ?_
                refine AllReadyIn.cons rfl (fun K hK => ?_) AllReadyIn.nil
                refine gapp_stepIn rfl (.tmp 28) (.tmp 31) appU rfl (V.heap.size + 2) A0 c0 k2 ((rn xs (N, L) k2).2.1.map (Value.int .u64)) rfl (HOw.out _ HB3.out) (some ⟨W.heap.size, 0, none⟩) 1 1 [.int .u64 z2] rfl (Read.one rfl (cell_laid _ _ _ 0)) (by have := HXl.out; have := HKm.out; omega) (Nat.le_trans HWs.out HB3.out.size) (fun A5 c5 w4 ho5 hg5 _ => ?_)
                obtain ⟨p1, p2, p3, hX4⟩ := HSt.out A5 c5 w4 ho5 hg5
                have q0 := p1.c0
                have q1 := p1.c1
                have q2 := p2.c0
                have q3 := p2.c1
                have q4 := p2.f0
                have q5 := p2.f1
                have q6 := p3.cell
                have q7 := p3.frozen
                have HX4 := Lib.hid hX4
                clear ho5 hg5 hX4 p1 p2 p3
                refine hK _ _ ?_
                clear hK K
                refine wpAnyIn_ready (rs := [6]) (by kernel_rfl) (by simp) ?_
                refine AllReadyIn.cons rfl (fun K hK => ?_) AllReadyIn.nil
                go_simp
                refine hK _ _ ?_
                clear hK K
                refine wpAnyIn_ready (rs := [7]) (by kernel_rfl) (by simp) ?_
                refine AllReadyIn.cons rfl (fun K hK => ?_) AllReadyIn.nil
                go_simp
                refine hK _ _ ?_
                clear hK K
                refine wpAnyIn_done (by kernel_rfl) ?_ _
                exact HX4.out
              exact AllReadyIn.nil
            refine AllReadyIn.cons rfl (fun K hK => ?_) ?_
            ·
              go_simp
              refine hK _ _ ?_
              clear hK K
              refine wpAnyIn_ready (rs := [0, 4]) (by kernel_rfl) (by simp) ?_
              refine AllReadyIn.cons rfl (fun K hK => ?_) ?_
              ·
                go_simp
                refine hK _ _ ?_
                clear hK K
                refine wpAnyIn_ready (rs := [4]) (by kernel_rfl) (by simp) ?_
                refine AllReadyIn.cons rfl (fun K hK => ?_) AllReadyIn.nil
                go_simp
                refine hK _ _ ?_
                clear hK K
                refine wpAnyIn_ready (rs := [5]) (by kernel_rfl) (by simp) ?_
                refine AllReadyIn.cons rfl (fun K hK => ?_) AllReadyIn.nil
                refine gapp_stepIn rfl (.tmp 28) (.tmp 31) appU rfl (V.heap.size + 2) A0 c0 k2 ((rn xs (N, L) k2).2.1.map (Value.int .u64)) rfl (HOw.out _ HB3.out) (some ⟨W.heap.size, 0, none⟩) 1 1 [.int .u64 z2] rfl (Read.one rfl (cell_laid _ _ _ 0)) (by have := HXl.out; have := HKm.out; omega) (Nat.le_trans HWs.out HB3.out.size) (fun A5 c5 w4 ho5 hg5 _ => ?_)
                obtain ⟨p1, p2, p3, hX4⟩ := HSt.out A5 c5 w4 ho5 hg5
                have q0 := p1.c0
                have q1 := p1.c1
                have q2 := p2.c0
                have q3 := p2.c1
                have q4 := p2.f0
                have q5 := p2.f1
                have q6 := p3.cell
                have q7 := p3.frozen
                have HX4 := Lib.hid hX4
                clear ho5 hg5 hX4 p1 p2 p3
                refine hK _ _ ?_
                clear hK K
                refine wpAnyIn_ready (rs := [6]) (by kernel_rfl) (by simp) ?_
                refine AllReadyIn.cons rfl (fun K hK => ?_) AllReadyIn.nil
                go_simp
                refine hK _ _ ?_
                clear hK K
                refine wpAnyIn_ready (rs := [7]) (by kernel_rfl) (by simp) ?_
                refine AllReadyIn.cons rfl (fun K hK => ?_) AllReadyIn.nil
                go_simp
                refine hK _ _ ?_
                clear hK K
                refine wpAnyIn_done (by kernel_rfl) ?_ _
                exact HX4.out
              refine AllReadyIn.cons rfl (fun K hK => ?_) ?_
              ·
                go_simp
                refine hK _ _ ?_
                clear hK K
                refine wpAnyIn_ready (rs := [0, 5]) (by kernel_rfl) (by simp) ?_
                refine AllReadyIn.cons rfl (fun K hK => ?_) ?_
                ·
                  go_simp
                  refine hK _ _ ?_
                  clear hK K
                  refine wpAnyIn_ready (rs := [5]) (by kernel_rfl) (by simp) ?_
                  refine AllReadyIn.cons rfl (fun K hK => ?_) AllReadyIn.nil
                  refine gapp_stepIn rfl (.tmp 28) (.tmp 31) appU rfl (V.heap.size + 2) A0 c0 k2 ((rn xs (N, L) k2).2.1.map (Value.int .u64)) rfl (HOw.out _ HB3.out) (some ⟨W.heap.size, 0, none⟩) 1 1 [.int .u64 z2] rfl (Read.one rfl (cell_laid _ _ _ 0)) (by have := HXl.out; have := HKm.out; omega) (Nat.le_trans HWs.out HB3.out.size) (fun A5 c5 w4 ho5 hg5 _ => ?_)
                  obtain ⟨p1, p2, p3, hX4⟩ := HSt.out A5 c5 w4 ho5 hg5
                  have q0 := p1.c0
                  have q1 := p1.c1
                  have q2 := p2.c0
                  have q3 := p2.c1
                  have q4 := p2.f0
                  have q5 := p2.f1
                  have q6 := p3.cell
                  have q7 := p3.frozen
                  have HX4 := Lib.hid hX4
                  clear ho5 hg5 hX4 p1 p2 p3
                  refine hK _ _ ?_
                  clear hK K
                  refine wpAnyIn_ready (rs := [6]) (by kernel_rfl) (by simp) ?_
                  refine AllReadyIn.cons rfl (fun K hK => ?_) AllReadyIn.nil
                  go_simp
                  refine hK _ _ ?_
                  clear hK K
                  refine wpAnyIn_ready (rs := [7]) (by kernel_rfl) (by simp) ?_
                  refine AllReadyIn.cons rfl (fun K hK => ?_) AllReadyIn.nil
                  go_simp
                  refine hK _ _ ?_
                  clear hK K
                  refine wpAnyIn_done (by kernel_rfl) ?_ _
                  exact HX4.out
                refine AllReadyIn.cons rfl (fun K hK => ?_) ?_
                ·
                  refine gapp_stepIn rfl (.tmp 28) (.tmp 31) appU rfl (V.heap.size + 2) A0 c0 k2 ((rn xs (N, L) k2).2.1.map (Value.int .u64)) rfl (HOw.out _ HB3.out) (some ⟨W.heap.size, 0, none⟩) 1 1 [.int .u64 z2] rfl (Read.one rfl (cell_laid _ _ _ 0)) (by have := HXl.out; have := HKm.out; omega) (Nat.le_trans HWs.out HB3.out.size) (fun A5 c5 w4 ho5 hg5 _ => ?_)
                  obtain ⟨p1, p2, p3, hX4⟩ := HSt.out A5 c5 w4 ho5 hg5
                  have q0 := p1.c0
                  have q1 := p1.c1
                  have q2 := p2.c0
                  have q3 := p2.c1
                  have q4 := p2.f0
                  have q5 := p2.f1
                  have q6 := p3.cell
                  have q7 := p3.frozen
                  have HX4 := Lib.hid hX4
                  clear ho5 hg5 hX4 p1 p2 p3
                  refine hK _ _ ?_
                  clear hK K
                  refine wpAnyIn_ready (rs := [0]) (by kernel_rfl) (by simp) ?_
                  refine AllReadyIn.cons rfl (fun K hK => ?_) AllReadyIn.nil
                  go_simp
                  refine hK _ _ ?_
                  clear hK K
                  refine wpAnyIn_ready (rs := [6]) (by kernel_rfl) (by simp) ?_
                  refine AllReadyIn.cons rfl (fun K hK => ?_) AllReadyIn.nil
                  go_simp
                  refine hK _ _ ?_
                  clear hK K
                  refine wpAnyIn_ready (rs := [7]) (by kernel_rfl) (by simp) ?_
                  refine AllReadyIn.cons rfl (fun K hK => ?_) AllReadyIn.nil
                  go_simp
                  refine hK _ _ ?_
                  clear hK K
                  refine wpAnyIn_done (by kernel_rfl) ?_ _
                  exact HX4.out
                exact AllReadyIn.nil
              exact AllReadyIn.nil
            refine AllReadyIn.cons rfl (fun K hK => ?_) ?_
            ·
              go_simp
              refine hK _ _ ?_
              clear hK K
              refine wpAnyIn_ready (rs := [0, 1]) (by kernel_rfl) (by simp) ?_
              refine AllReadyIn.cons rfl (fun K hK => ?_) ?_
              ·
                go_simp
                refine hK _ _ ?_
                clear hK K
                refine wpAnyIn_ready (rs := [1]) (by kernel_rfl) (by simp) ?_
                refine AllReadyIn.cons rfl (fun K hK => ?_) AllReadyIn.nil
                go_simp
                refine hK _ _ ?_
                clear hK K
                refine wpAnyIn_ready (rs := [5]) (by kernel_rfl) (by simp) ?_
                refine AllReadyIn.cons rfl (fun K hK => ?_) AllReadyIn.nil
                refine gapp_stepIn rfl (.tmp 28) (.tmp 31) appU rfl (V.heap.size + 2) A0 c0 k2 ((rn xs (N, L) k2).2.1.map (Value.int .u64)) rfl (HOw.out _ HB3.out) (some ⟨W.heap.size, 0, none⟩) 1 1 [.int .u64 z2] rfl (Read.one rfl (cell_laid _ _ _ 0)) (by have := HXl.out; have := HKm.out; omega) (Nat.le_trans HWs.out HB3.out.size) (fun A5 c5 w4 ho5 hg5 _ => ?_)
                obtain ⟨p1, p2, p3, hX4⟩ := HSt.out A5 c5 w4 ho5 hg5
                have q0 := p1.c0
                have q1 := p1.c1
                have q2 := p2.c0
                have q3 := p2.c1
                have q4 := p2.f0
                have q5 := p2.f1
                have q6 := p3.cell
                have q7 := p3.frozen
                have HX4 := Lib.hid hX4
                clear ho5 hg5 hX4 p1 p2 p3
                refine hK _ _ ?_
                clear hK K
                refine wpAnyIn_ready (rs := [6]) (by kernel_rfl) (by simp) ?_
                refine AllReadyIn.cons rfl (fun K hK => ?_) AllReadyIn.nil
                go_simp
                refine hK _ _ ?_
                clear hK K
                refine wpAnyIn_ready (rs := [7]) (by kernel_rfl) (by simp) ?_
                refine AllReadyIn.cons rfl (fun K hK => ?_) AllReadyIn.nil
                go_simp
                refine hK _ _ ?_
                clear hK K
                refine wpAnyIn_done (by kernel_rfl) ?_ _
                exact HX4.out
              refine AllReadyIn.cons rfl (fun K hK => ?_) ?_
              ·
                go_simp
                refine hK _ _ ?_
                clear hK K
                refine wpAnyIn_ready (rs := [0, 5]) (by kernel_rfl) (by simp) ?_
                refine AllReadyIn.cons rfl (fun K hK => ?_) ?_
                ·
                  go_simp
                  refine hK _ _ ?_
                  clear hK K
                  refine wpAnyIn_ready (rs := [5]) (by kernel_rfl) (by simp) ?_
                  refine AllReadyIn.cons rfl (fun K hK => ?_) AllReadyIn.nil
                  refine gapp_stepIn rfl (.tmp 28) (.tmp 31) appU rfl (V.heap.size + 2) A0 c0 k2 ((rn xs (N, L) k2).2.1.map (Value.int .u64)) rfl (HOw.out _ HB3.out) (some ⟨W.heap.size, 0, none⟩) 1 1 [.int .u64 z2] rfl (Read.one rfl (cell_laid _ _ _ 0)) (by have := HXl.out; have := HKm.out; omega) (Nat.le_trans HWs.out HB3.out.size) (fun A5 c5 w4 ho5 hg5 _ => ?_)
                  obtain ⟨p1, p2, p3, hX4⟩ := HSt.out A5 c5 w4 ho5 hg5
                  have q0 := p1.c0
                  have q1 := p1.c1
                  have q2 := p2.c0
                  have q3 := p2.c1
                  have q4 := p2.f0
                  have q5 := p2.f1
                  have q6 := p3.cell
                  have q7 := p3.frozen
                  have HX4 := Lib.hid hX4
                  clear ho5 hg5 hX4 p1 p2 p3
                  refine hK _ _ ?_
                  clear hK K
                  refine wpAnyIn_ready (rs := [6]) (by kernel_rfl) (by simp) ?_
                  refine AllReadyIn.cons rfl (fun K hK => ?_) AllReadyIn.nil
                  go_simp
                  refine hK _ _ ?_
                  clear hK K
                  refine wpAnyIn_ready (rs := [7]) (by kernel_rfl) (by simp) ?_
                  refine AllReadyIn.cons rfl (fun K hK => ?_) AllReadyIn.nil
                  go_simp
                  refine hK _ _ ?_
                  clear hK K
                  refine wpAnyIn_done (by kernel_rfl) ?_ _
                  exact HX4.out
                refine AllReadyIn.cons rfl (fun K hK => ?_) ?_
                ·
                  refine gapp_stepIn rfl (.tmp 28) (.tmp 31) appU rfl (V.heap.size + 2) A0 c0 k2 ((rn xs (N, L) k2).2.1.map (Value.int .u64)) rfl (HOw.out _ HB3.out) (some ⟨W.heap.size, 0, none⟩) 1 1 [.int .u64 z2] rfl (Read.one rfl (cell_laid _ _ _ 0)) (by have := HXl.out; have := HKm.out; omega) (Nat.le_trans HWs.out HB3.out.size) (fun A5 c5 w4 ho5 hg5 _ => ?_)
                  obtain ⟨p1, p2, p3, hX4⟩ := HSt.out A5 c5 w4 ho5 hg5
                  have q0 := p1.c0
                  have q1 := p1.c1
                  have q2 := p2.c0
                  have q3 := p2.c1
                  have q4 := p2.f0
                  have q5 := p2.f1
                  have q6 := p3.cell
                  have q7 := p3.frozen
                  have HX4 := Lib.hid hX4
                  clear ho5 hg5 hX4 p1 p2 p3
                  refine hK _ _ ?_
                  clear hK K
                  refine wpAnyIn_ready (rs := [0]) (by kernel_rfl) (by simp) ?_
                  refine AllReadyIn.cons rfl (fun K hK => ?_) AllReadyIn.nil
                  go_simp
                  refine hK _ _ ?_
                  clear hK K
                  refine wpAnyIn_ready (rs := [6]) (by kernel_rfl) (by simp) ?_
                  refine AllReadyIn.cons rfl (fun K hK => ?_) AllReadyIn.nil
                  go_simp
                  refine hK _ _ ?_
                  clear hK K
                  refine wpAnyIn_ready (rs := [7]) (by kernel_rfl) (by simp) ?_
                  refine AllReadyIn.cons rfl (fun K hK => ?_) AllReadyIn.nil
                  go_simp
                  refine hK _ _ ?_
                  clear hK K
                  refine wpAnyIn_done (by kernel_rfl) ?_ _
                  exact HX4.out
                exact AllReadyIn.nil
              exact AllReadyIn.nil
            exact AllReadyIn.nil
          exact AllReadyIn.nil
        exact AllReadyIn.nil
      · have x1 := v1.turn htV (by omega)
        have x2 : Boxed W (w.heap.size + 2) 41 (.slice none 0 0) := (htV.block _ (lt_of_block v2) (by omega)).trans v2
        have x3 : Boxed W (w.heap.size + 3) 26 (.int .i64 0) := (htV.block _ (lt_of_block v3) (by omega)).trans v3
        have d0 := hd.cell
        have r0 := x1.c0
        have r1 := x1.c1
        have r2 := x1.f0
        have r3 := x1.f1
        have r4 := x2.cell
        have r5 := x2.frozen
        have r6 := x3.cell
        have r7 := x3.frozen
        obtain ⟨y1, y2, y3, ht⟩ := res3 x1 x2 x3 z1 z2 (.slice A0 k2 c0) (.int .i64 251)
        obtain ⟨X, hX⟩ : ∃ X, X = (((W.setCell ⟨w.heap.size + 1, 0, none⟩ (.int .u64 z1)).setCell ⟨w.heap.size + 1, 1, none⟩ (.int .u64 z2)).setCell ⟨w.heap.size + 2, 0, none⟩ (.slice A0 k2 c0)).setCell ⟨w.heap.size + 3, 0, none⟩ (.int .i64 251) := ⟨_, rfl⟩
        rw [← hX] at y1 y2 y3 ht
        have hlen := (rn_st xs (N, L) k2 hok).2
        have hno := rn_no hok (show ¬ (elK xs (N, L) k2).2 = 0 from by rw [show elK xs (N, L) k2 = ((z1, z2), 251) from hel']; simp)
        rw [show elK xs (N, L) k2 = ((z1, z2), 251) from hel'] at hno
        have hend := rn_stay (xs := xs) (c := (N, L)) (k := k2 + 1) (by rw [hno]) xs.length (by omega)
        rw [hno] at hend
        have hlow := hown.low
        have hX5 : KeepsFrom V.heap.size W X.drew ∧ RnX w.heap.size w1.heap.size w.heap.size xs (N, L) V .ret (pre ++ [((z1, z2), 251)]) X.drew := by
          refine ⟨keeps_turn ht.drew ?_, rfl, ?_, ?_, ⟨A0, c0, ?_, ?_⟩, ?_, ?_⟩
          · intro i hi
            obtain ⟨e1, e2⟩ := hi
            have : i = w.heap.size + 1 ∨ i = w.heap.size + 2 ∨ i = w.heap.size + 3 := by omega
            rcases this with rfl | rfl | rfl
            · exact ⟨_, x1, rfl⟩
            · exact ⟨_, x2, rfl⟩
            · exact ⟨_, x3, rfl⟩
          · rw [hend]
          · rw [hend]; exact y1
          · rw [hend]; show Boxed X _ _ (.slice A0 (rn xs (N, L) k2).2.1.length c0); rw [hlen]; exact y2
          · rw [hend]; exact (hown.mono (by omega)).turn ht.drew (fun i hi => by have := hlow i hi; omega)
          · exact y3
          · exact (htV.mono (S' := fun i => w.heap.size ≤ i ∧ (i ≤ w.heap.size + 3 ∨ i = w1.heap.size)) (fun i hi => by omega)).trans ht.drew (fun i hi => .inl (by omega))
        have HX5 := Lib.hid hX5
        rw [hX] at HX5
        obtain ⟨st1, st2⟩ := stA xs (N, L) k2
        clear hI hzg hWV hlo hoc hgg hg hpk hel hbX hp2 hcb hown hgC hst hsz v0 v1 v2 v3 vd y1 y2 y3 ht hlen hno hend hlow hX5 hX x1 x2 x3 hok htV hel' hd
        gi_wp2
        gi_region
        all_goals (
          gi_wp2
          exact HX5.out)
    case done =>
      rintro ys W rfl ⟨k2, A0, c0, hp2, hok, hcb, hd, hown, htV⟩ hK
      obtain rfl : m = k2 := by
        have e1 := elsK_length xs (N, L) m
        have e2 := elsK_length xs (N, L) k2
        rw [hp2] at e1
        omega
      have x1 := v1.turn htV (by omega)
      have x2 : Boxed W (w.heap.size + 2) 41 (.slice none 0 0) := (htV.block _ (lt_of_block v2) (by omega)).trans v2
      have x3 : Boxed W (w.heap.size + 3) 26 (.int .i64 0) := (htV.block _ (lt_of_block v3) (by omega)).trans v3
      obtain ⟨hst, hlen⟩ := rn_st xs (N, L) m hok
      rw [← hst] at hcb
      obtain ⟨⟨⟨R1, R2⟩, RL, rb⟩, hr⟩ : ∃ r, r = rn xs (N, L) m := ⟨_, rfl⟩
      have HRr := Lib.hid hr
      rw [← hr] at hok hcb hown hlen
      dsimp only at hok hcb hown hlen
      subst hok
      have d0 := hd.cell
      have b0 := hcb.c0
      have b1 := hcb.c1
      have r0 := x1.c0
      have r1 := x1.c1
      have r2 := x1.f0
      have r3 := x1.f1
      have r4 := x2.cell
      have r5 := x2.frozen
      have r6 := x3.cell
      have r7 := x3.frozen
      have hbW : Below w.heap.size w W := HBw.out.trans (htV.below HBw.out.size (fun i hi => by omega))
      obtain ⟨y1, y2, y3, ht⟩ := res3 x1 x2 x3 R1 R2 (.slice A0 m c0) (.int .i64 0)
      obtain ⟨X, hX⟩ : ∃ X, X = (((W.setCell ⟨w.heap.size + 1, 0, none⟩ (.int .u64 R1)).setCell ⟨w.heap.size + 1, 1, none⟩ (.int .u64 R2)).setCell ⟨w.heap.size + 2, 0, none⟩ (.slice A0 m c0)).setCell ⟨w.heap.size + 3, 0, none⟩ (.int .i64 0) := ⟨_, rfl⟩
      rw [← hX] at y1 y2 y3 ht
      have hlow := hown.low
      have hKX : X.drew.heap[V.heap.size]? = some (.deferred (some [])) := (ht.block _ (lt_of_block hK) (by omega)).trans hK
      have hbX : Below w.heap.size w X.drew := hbW.trans (ht.drew.below hbW.size (fun i hi => by omega))
      have hownX := (hown.turn ht.drew (fun i hi => by have := hlow i hi; omega)).mono (b := w.heap.size) (by omega)
      have HZ := Lib.hid (And.intro hKX (And.intro (show CB X.drew (w.heap.size + 1) R1 R2 from y1) (And.intro (show Boxed X.drew (w.heap.size + 2) 41 (.slice A0 m c0) from y2) (And.intro (show Boxed X.drew (w.heap.size + 3) 26 (.int .i64 0) from y3) (And.intro hownX hbX)))))
      have HLen := Lib.hid hlen
      have HSz := Lib.hid (show w.heap.size ≤ V.heap.size from by omega)
      rw [hX] at HZ
      have n1 : ¬ w1.heap.size = w.heap.size + 1 := by omega
      have n2 : ¬ w1.heap.size = w.heap.size + 2 := by omega
      have n3 : ¬ w1.heap.size = w.heap.size + 3 := by omega
      clear hp2 hcb hd hown htV hK x1 x2 x3 hst hlen hr v0 v1 v2 v3 vd y1 y2 y3 ht hlow hKX hbX hownX hX hbW hz
      gi_wp2
      gi_region
      all_goals (
        gi_wp2
        obtain ⟨hK2, y1, y2, y3, ho, hB⟩ := HZ.out
        refine ⟨by simp, .inl ⟨_, _, rfl, run_takeDeferred hK2, ?_⟩⟩
        have s0 := (y1.putO (.deferred none) hK2 rfl).c0
        have s1 := (y1.putO (.deferred none) hK2 rfl).c1
        have s2 := (show Boxed _ (w.heap.size + 2) 41 (.slice A0 m c0) from put_other (o' := .deferred none) hK2 rfl y2 rfl).cell
        have s3 := (show Boxed _ (w.heap.size + 3) 26 (.int .i64 0) from put_other (o' := .deferred none) hK2 rfl y3 rfl).cell
        rw [← HRr.out, show ER = 0 from by rw [HER.out, ← HM.out, ← HRr.out]; rfl]
        exact ⟨.tuple #[.agg #[.int .u64 R1, .int .u64 R2], .slice A0 m c0, .int .i64 0], by simp only [results, Try.results16]; simp [go_sem, s0, s1, s2, s3], A0, c0, by rw [HLen.out], ho.putO _ hK2 rfl, hB.trans (below_put HSz.out hB.size)⟩)
    case stop =>
      rintro cd pre W _ ⟨rfl, h1, h2, ⟨A1, c1, h3, h4⟩, h5, h6⟩ hK
      rw [← HM.out] at h1 h2 h3 h4
      have hbW : Below w.heap.size w W := HBw.out.trans (h6.below HBw.out.size (fun i hi => by omega))
      have s0 := (h2.putO (.deferred none) hK rfl).c0
      have s1 := (h2.putO (.deferred none) hK rfl).c1
      have s2 := (show Boxed _ (w.heap.size + 2) 41 _ from put_other (o' := .deferred none) hK rfl h3 rfl).cell
      have s3 := (show Boxed _ (w.heap.size + 3) 26 _ from put_other (o' := .deferred none) hK rfl h5 rfl).cell
      have HZ := Lib.hid (And.intro hK (And.intro (h4.putO (.deferred none) hK rfl) (hbW.trans (below_put (by omega) hbW.size : Below w.heap.size W (W.putObj V.heap.size (.deferred none))))))
      obtain ⟨⟨⟨R1, R2⟩, RL, rb⟩, hr⟩ : ∃ r, r = rn xs (N, L) m := ⟨_, rfl⟩
      have HRr := Lib.hid hr
      rw [← hr] at h1 s0 s1 s2 HZ
      dsimp only at h1 s0 s1 s2 HZ
      subst h1
      clear h2 h3 h4 h5 h6 hK hbW v0 v1 v2 v3 vd hz hr
      gi_wp2
      obtain ⟨hK2, ho, hB⟩ := HZ.out
      refine ⟨by simp, .inl ⟨_, _, rfl, run_takeDeferred hK2, ?_⟩⟩
      rw [← HRr.out, show ER = 251 from by rw [HER.out, ← HM.out, ← HRr.out]; rfl]
      exact ⟨.tuple #[.agg #[.int .u64 R1, .int .u64 R2], .slice A1 RL.length c1, .int .i64 251], by simp only [results, Try.results16]; simp [go_sem, s0, s1, s2, s3], A1, c1, rfl, ho, hB⟩

end Go.Proofs.Ytcohaaobdpcoiaa
