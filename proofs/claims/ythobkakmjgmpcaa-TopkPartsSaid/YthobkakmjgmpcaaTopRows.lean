/-
  Rows of hits that a law collects: a slice of slices, and all their hits in one slice.
-/
import Derived.Test.YthobkakmjgmpcaaTopNum
namespace Go.Proofs.Ythobkakmjgmpcaa
open Go.RowKit Go.Shelf
set_option linter.unusedVariables false
set_option linter.unusedSimpArgs false
set_option maxRecDepth 100000

theorem info_row : ∃ i, Try.prog.info? 22 = some i ∧ i.zero = some (.slice none 0 0) ∧ i.size = 1 ∧ i.bytes = 24 :=
  ⟨(Try.prog.info? 22).get (by kernel_rfl), (Option.some_get _).symm, by kernel_rfl, by kernel_rfl, by kernel_rfl⟩

theorem run_rapp {w : World} (ty : TypeId) (base : Nat) (A0 : Option Addr) (c0 n : Nat) (xs : List Value) (hown : w.ownsRow base 22 1 (.slice A0 n c0) n xs)
    (gx : Nat) (u : Value) (hc : w.cell? ⟨gx, 0, none⟩ = some u) (h1 : u.oneCell' = true) (hbig : n + 1 ≤ 1099511627776) (hbase : base ≤ w.heap.size) :
    ∃ A1 c1 w', (Builtin.append_ #[34, 34] ty #[.slice A0 n c0, .slice (some ⟨gx, 0, none⟩) 1 1]).run Try.prog w = .ok (.slice A1 (n + 1) c1) w' ∧ w'.ownsRow base 22 1 (.slice A1 (n + 1) c1) (n + 1) (xs ++ [u]) ∧ w.grownBy w' (blk A0) ∧ (blk A1 = blk A0 ∨ blk A1 = some w.heap.size) := by
  obtain ⟨i0, hi, hz0, hz1, hz2⟩ := info_row
  obtain ⟨v', w', hrun, h2, h3, h4, h5⟩ := run_append_own_at (P := Try.prog) w base 34 ty 22 i0 (.slice none 0 0) 1 24 Try.underlying34 hi hz0 hz1 hz2 rfl (by decide) _ n xs hown ⟨gx, 0, none⟩ 1 1 [u] rfl (by
      intro j v hj
      match j, hj with
      | 0, hj =>
        simp at hj
        subst hj
        rw [Addr.add_lit]
        exact hc) (by simpa using h1) (by unfold maxLen; omega) (by omega) hbase
  obtain ⟨A1, c1, rfl, _, _⟩ := own_form h2
  rw [own_blk] at h3 h5
  rw [own_blk] at h5
  exact ⟨A1, c1, w', hrun, h2, h3, h5⟩

theorem rapp_at {w : World} {ops : Array Oper} {rest : List Oper} {o : Oper} {a : Act} {Q : Exit → Act → World → Prop} (hgd : o.guard = none) (s x : Operand)
    (ho : o.op = .call { callee := .builtin .append, args := #[s, x], argTypes := #[34, 34] })
    (base : Nat) (A0 : Option Addr) (c0 n : Nat) (xs : List Value) (hs : a.eval s = .slice A0 n c0) (hown : w.ownsRow base 22 1 (.slice A0 n c0) n xs)
    (gx : Nat) (u : Value) (hx : a.eval x = .slice (some ⟨gx, 0, none⟩) 1 1) (hc : w.cell? ⟨gx, 0, none⟩ = some u) (h1 : u.oneCell' = true) (hbig : n + 1 ≤ 1099511627776) (hbase : base ≤ w.heap.size)
    (h : ∀ A1 c1 w', w'.ownsRow base 22 1 (.slice A1 (n + 1) c1) (n + 1) (xs ++ [u]) → w.grownBy w' (blk A0) → (blk A1 = blk A0 ∨ blk A1 = some w.heap.size) → wpList Try.prog ops Q rest (a.put o.dst (.slice A1 (n + 1) c1)) w') : wpList Try.prog ops Q (o :: rest) a w := by
  refine wpList_plain hgd fun K hK => ?_
  obtain ⟨A1, c1, w', hrun, h2, h3, h4⟩ := run_rapp o.type base A0 c0 n xs hown gx u hc h1 hbig hbase
  unfold Oper.wp
  simp [execOp, ho, resolve, invoke, builtin, hs, hx, hrun, Result.andThen]
  exact hK _ _ (h A1 c1 w' h2 h3 h4)

/-- Rows laid one by one, and all their hits. -/
structure Two (B0 : Nat) (W : World) (rws : List (List HitM)) (A1 : Option Addr) (c1 : Nat) (vs : List Value) (A2 : Option Addr) (c2 : Nat) : Prop where
  rows : W.ownsRow B0 22 1 (.slice A1 rws.length c1) rws.length vs
  all : W.ownsRow B0 32 2 (.slice A2 (sumL rws) c2) (sumL rws) (flat rws.flatten)
  el : ∀ (i : Nat) (x : List HitM), rws[i]? = some x → ∃ (B : Option Addr) (cb : Nat), vs[i]? = some (Value.slice B x.length cb) ∧ Hits W B cb x ∧ ∀ g, blk B = some g → g < W.heap.size ∧ blk A2 ≠ some g ∧ blk A1 ≠ some g
  sep : ∀ g, blk A1 = some g → blk A2 ≠ some g
theorem Two.start (B0 : Nat) (W : World) : Two B0 W [] none 0 [] none 0 := ⟨World.ownsRow_nil _ _ _ _, World.ownsRow_nil _ _ _ _, fun i x h => by simp at h, fun g h => by cases h⟩
theorem blk_lt {W : World} {B0 : Nat} {e : TypeId} {size : Nat} {A : Option Addr} {n c : Nat} {xs : List Value} (h : W.ownsRow B0 e size (.slice A n c) n xs) {g : Nat} (hg : blk A = some g) : B0 ≤ g ∧ g < W.heap.size := h.lt g (by rw [own_blk]; exact hg)
theorem Two.turn {B0 : Nat} {W W' : World} {rws : List (List HitM)} {A1 A2 : Option Addr} {c1 c2 : Nat} {vs : List Value} (h : Two B0 W rws A1 c1 vs A2 c2) {S : Nat → Prop} (ht : Turn S W W') (h1 : ∀ g, blk A1 = some g → ¬ S g) (h2 : ∀ g, blk A2 = some g → ¬ S g) (h3 : ∀ g, S g → W.heap.size ≤ g ∨ blk A1 = some g ∨ blk A2 = some g) : Two B0 W' rws A1 c1 vs A2 c2 :=
  ⟨row_turn h.rows ht (fun i hi => h1 i (by rw [own_blk] at hi; exact hi)), row_turn h.all ht (fun i hi => h2 i (by rw [own_blk] at hi; exact hi)), fun i x hx => by
    obtain ⟨B, cb, e1, e2, e3⟩ := h.el i x hx
    refine ⟨B, cb, e1, e2.keepB ht.size (fun b o e _ => ?_), fun g hg => ⟨Nat.lt_of_lt_of_le (e3 g hg).1 ht.size, (e3 g hg).2⟩⟩
    have hb : blk B = some b := by rw [e]; rfl
    have := e3 b hb
    exact ht.block b this.1 (fun hS => (h3 b hS).elim (fun h => by omega) (fun h => h.elim this.2.2 this.2.1)), h.sep⟩
theorem Two.below {B0 : Nat} {W W' : World} {rws : List (List HitM)} {A1 A2 : Option Addr} {c1 c2 : Nat} {vs : List Value} (h : Two B0 W rws A1 c1 vs A2 c2) (hb : Below W.heap.size W W') : Two B0 W' rws A1 c1 vs A2 c2 :=
  h.turn (S := fun _ => False) (Turn.of_below hb) (by simp) (by simp) (by simp)
theorem Two.rows_in {B0 : Nat} {W : World} {rws : List (List HitM)} {A1 A2 : Option Addr} {c1 c2 : Nat} {vs : List Value} (h : Two B0 W rws A1 c1 vs A2 c2) : Rows W A1 c1 rws := by
  have hr := h.rows
  rcases hr.2 with ⟨e, h0⟩ | ⟨g, cap, cur, e, hg, hh, hnc, hcm, hsz, hcs⟩
  · injection e with e1 _ e3
    have : rws = [] := List.eq_nil_of_length_eq_zero h0
    subst this e1 e3
    exact Rows.nil _
  · injection e with e1 _ e3
    subst e1
    subst e3
    refine ⟨hnc, by unfold maxLen at hcm; omega, fun hp => ⟨g, 0, rfl, lt_of_block hh, fun i x hx => ?_⟩⟩
    obtain ⟨B, cb, e1, e2, _⟩ := h.el i x hx
    have hi : i < rws.length := (List.getElem?_eq_some_iff.1 hx).1
    rw [Nat.zero_add]
    exact ⟨B, cb, (hr.cellAt i (by omega)).trans e1, e2⟩

section
variable {B0 : Nat} {wr w2 W3 w4 W5 : World} {rws : List (List HitM)} {X : List HitM} {A1 A2 A1' A2' B : Option Addr} {c1 c2 c1' c2' cb : Nat} {vs : List Value}
theorem two_turn3 (b2 : Below wr.heap.size wr w2) (g3 : (w2.alloc (.cells #[.slice B X.length cb] 22)).grownBy W3 (blk A1)) : Turn (fun i => blk A1 = some i) wr W3 :=
  ((Turn.of_below (S := fun i => blk A1 = some i) b2).alloc _).trans (S' := fun i => blk A1 = some i) (Turn.of_grown g3 (fun i hi => .inl hi)) (fun i hi => .inl hi)
/-- What is appended to next. -/
theorem two_all4 (h : Two B0 wr rws A1 c1 vs A2 c2) (b2 : Below wr.heap.size wr w2) (g3 : (w2.alloc (.cells #[.slice B X.length cb] 22)).grownBy W3 (blk A1)) (b4 : Below W3.heap.size W3 w4) :
    w4.ownsRow B0 32 2 (.slice A2 (sumL rws) c2) (sumL rws) (flat rws.flatten) := by
  refine row_turn h.all ((two_turn3 b2 g3).trans (Turn.of_below (S := fun _ => False) b4) (by simp)) (fun i hi e => ?_)
  rw [own_blk] at hi
  exact h.sep i e hi
theorem two_step (h : Two B0 wr rws A1 c1 vs A2 c2) (o2 : w2.ownsRow wr.heap.size 32 2 (.slice B X.length cb) X.length (flat X)) (b2 : Below wr.heap.size wr w2)
    (o3 : W3.ownsRow B0 22 1 (.slice A1' (rws.length + 1) c1') (rws.length + 1) (vs ++ [.slice B X.length cb])) (g3 : (w2.alloc (.cells #[.slice B X.length cb] 22)).grownBy W3 (blk A1))
    (l3 : blk A1' = blk A1 ∨ blk A1' = some (w2.alloc (.cells #[.slice B X.length cb] 22)).heap.size) (b4 : Below W3.heap.size W3 w4)
    (o5 : W5.ownsRow B0 32 2 (.slice A2' (sumL rws + X.length) c2') (sumL rws + X.length) (flat rws.flatten ++ flat X)) (g5 : w4.grownBy W5 (blk A2)) (l5 : blk A2' = blk A2 ∨ blk A2' = some w4.heap.size) :
    Two B0 W5 (rws ++ [X]) A1' c1' (vs ++ [.slice B X.length cb]) A2' c2' := by
  have hsum : sumL (rws ++ [X]) = sumL rws + X.length := by simp [sumL]
  have hlen : (rws ++ [X]).length = rws.length + 1 := by simp
  have hfl : flat (rws ++ [X]).flatten = flat rws.flatten ++ flat X := by rw [List.flatten_append, flat_append]; simp
  have hvl : vs.length = rws.length := by have := h.rows.1; omega
  have z2a : (w2.alloc (.cells #[.slice B X.length cb] 22)).heap.size = w2.heap.size + 1 := World.size_alloc _ _
  have z3 := g3.size
  have z2 := b2.size
  have z4 := b4.size
  have z5 := g5.size
  rw [z2a] at z3 l3
  have hA1 : ∀ g, blk A1 = some g → g < wr.heap.size := fun g hg => (blk_lt h.rows hg).2
  have hA2 : ∀ g, blk A2 = some g → g < wr.heap.size := fun g hg => (blk_lt h.all hg).2
  have hB : ∀ g, blk B = some g → wr.heap.size ≤ g ∧ g < w2.heap.size := fun g hg => blk_lt o2 hg
  have t5 : Turn (fun i => blk A1 = some i ∨ blk A2 = some i) wr W5 :=
    ((two_turn3 b2 g3).trans (Turn.of_below (S := fun _ => False) b4) (by simp)).mono (fun i hi => .inl hi) |>.trans (S' := fun i => blk A2 = some i) (Turn.of_grown g5 (fun i hi => .inl hi)) (fun i hi => .inl (.inr hi))
  have tB : Turn (fun i => blk A1 = some i ∨ blk A2 = some i) w2 W5 :=
    (((Turn.refl (fun i => blk A1 = some i) w2).alloc (.cells #[.slice B X.length cb] 22)).trans (S' := fun i => blk A1 = some i) (Turn.of_grown g3 (fun i hi => .inl hi)) (fun i hi => .inl hi) |>.trans (Turn.of_below (S := fun _ => False) b4) (by simp)).mono (fun i hi => .inl hi) |>.trans (S' := fun i => blk A2 = some i) (Turn.of_grown g5 (fun i hi => .inl hi)) (fun i hi => .inl (.inr hi))
  have n1 : ∀ g, blk A1' = some g → blk A1 = some g ∨ g = w2.heap.size + 1 := fun g hg => l3.elim (fun e => .inl (by rw [← e]; exact hg)) (fun e => .inr (by rw [e] at hg; injection hg with hg; exact hg.symm))
  have n2 : ∀ g, blk A2' = some g → blk A2 = some g ∨ g = w4.heap.size := fun g hg => l5.elim (fun e => .inl (by rw [← e]; exact hg)) (fun e => .inr (by rw [e] at hg; injection hg with hg; exact hg.symm))
  have hlt3 : ∀ g, blk A1' = some g → g < W3.heap.size := fun g hg => (blk_lt o3 hg).2
  refine ⟨?_, by rw [hsum, hfl]; exact o5, fun i x hx => ?_, fun g hg e => ?_⟩
  · rw [hlen]
    refine row_turn o3 (S := fun i => blk A2 = some i) ((Turn.of_below (S := fun i => blk A2 = some i) b4).trans (S' := fun i => blk A2 = some i) (Turn.of_grown g5 (fun i hi => .inl hi)) (fun i hi => .inl hi)) (fun i hi e => ?_)
    rw [own_blk] at hi
    rcases n1 i hi with h1 | h1
    · exact h.sep i h1 e
    · have := hA2 i e; omega
  · by_cases hi : i < rws.length
    · rw [List.getElem?_append_left hi] at hx
      obtain ⟨B', cb', e1, e2, e3⟩ := h.el i x hx
      refine ⟨B', cb', by rw [List.getElem?_append_left (by omega)]; exact e1, e2.keepB t5.size (fun b o e _ => ?_), fun g hg => ?_⟩
      · have hb : blk B' = some b := by rw [e]; rfl
        have := e3 b hb
        exact t5.block b this.1 (fun hS => hS.elim this.2.2 this.2.1)
      · have := e3 g hg
        refine ⟨Nat.lt_of_lt_of_le this.1 t5.size, fun e => ?_, fun e => ?_⟩
        · rcases n2 g e with h | h
          · exact this.2.1 h
          · omega
        · rcases n1 g e with h | h
          · exact this.2.2 h
          · omega
    · have hi2 : i = rws.length := by have := (List.getElem?_eq_some_iff.1 hx).1; simp at this; omega
      subst hi2
      have hxX : X = x := by simpa using hx
      subst hxX
      refine ⟨B, cb, by rw [List.getElem?_append_right (by omega), hvl]; simp, (Hits.ofRow o2).keepB tB.size (fun b o e _ => ?_), fun g hg => ?_⟩
      · have hb := hB b (by rw [e]; rfl)
        exact tB.block b hb.2 (fun hS => hS.elim (fun h => by have := hA1 b h; omega) (fun h => by have := hA2 b h; omega))
      · have hb := hB g hg
        refine ⟨Nat.lt_of_lt_of_le hb.2 tB.size, fun e => ?_, fun e => ?_⟩
        · rcases n2 g e with h | h
          · have := hA2 g h; omega
          · omega
        · rcases n1 g e with h | h
          · have := hA1 g h; omega
          · omega
  · have h3 := hlt3 g hg
    rcases n1 g hg with h1 | h1
    · rcases n2 g e with h2 | h2
      · exact h.sep g h1 h2
      · omega
    · rcases n2 g e with h2 | h2
      · have := hA2 g h2; omega
      · omega
theorem two_low3 (h : Two B0 wr rws A1 c1 vs A2 c2) (b2 : Below wr.heap.size wr w2) (g3 : (w2.alloc (.cells #[.slice B X.length cb] 22)).grownBy W3 (blk A1)) (h0 : B0 ≤ wr.heap.size) : Below B0 w2 W3 :=
  ((Turn.refl (fun i => blk A1 = some i) w2).alloc (.cells #[.slice B X.length cb] 22)).trans (S' := fun i => blk A1 = some i) (Turn.of_grown g3 (fun i hi => .inl hi)) (fun i hi => .inl hi) |>.below (Nat.le_trans h0 b2.size) (fun i e => (blk_lt h.rows e).1)
theorem two_bel (h : Two B0 wr rws A1 c1 vs A2 c2) (h0 : B0 ≤ wr.heap.size) (b2 : Below wr.heap.size wr w2) (g3 : (w2.alloc (.cells #[.slice B X.length cb] 22)).grownBy W3 (blk A1)) (b4 : Below W3.heap.size W3 w4) (g5 : w4.grownBy W5 (blk A2)) : Below B0 wr W5 := by
  have t5 : Turn (fun i => blk A1 = some i ∨ blk A2 = some i) wr W5 :=
    ((two_turn3 b2 g3).trans (Turn.of_below (S := fun _ => False) b4) (by simp)).mono (fun i hi => .inl hi) |>.trans (S' := fun i => blk A2 = some i) (Turn.of_grown g5 (fun i hi => .inl hi)) (fun i hi => .inl (.inr hi))
  exact t5.below h0 (fun i hi => hi.elim (fun e => (blk_lt h.rows e).1) (fun e => (blk_lt h.all e).1))
end
end Go.Proofs.Ythobkakmjgmpcaa
