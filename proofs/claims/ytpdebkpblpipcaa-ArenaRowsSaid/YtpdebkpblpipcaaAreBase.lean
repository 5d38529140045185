/-
  Arenas that can be read, and arenas of the call's own; append to a slice of the call's own; slices.Clone at numbers.
-/
import Derived.Test.YtpdebkpblpipcaaRows
import Derived.Test.YtpdebkpblpipcaaAreMath
import Derived.Test.YtpdebkpblpipcaaChnBox
import Derived.Deep.RegionLaw
import Derived.Deep.Onto
import Derived.Maps.AppendAt
namespace Go.Proofs.Ytpdebkpblpipcaa
open Go.RowKit Go.Shelf
set_option linter.unusedVariables false
set_option linter.unusedSimpArgs false
set_option maxRecDepth 100000

/-- A cell, and where its vector lies. -/
structure Pa where
  e : Ce
  B : Option Addr
  c : Nat
def ces (q : List Pa) : List Ce := q.map (·.e)
theorem ces_length (q : List Pa) : (ces q).length = q.length := by simp [ces]
theorem ces_at {q : List Pa} {i : Nat} {p : Pa} (h : q[i]? = some p) : (ces q)[i]? = some p.e := by simp [ces, h]
theorem ces_ceAt {q : List Pa} {i : Nat} {p : Pa} (h : q[i]? = some p) : ceAt (ces q) i = p.e := ceAt_some (ces_at h)
theorem ces_append (q r : List Pa) : ces (q ++ r) = ces q ++ ces r := by simp [ces]
theorem ces_take (q : List Pa) (k : Nat) : ces (q.take k) = (ces q).take k := by simp [ces, List.map_take]
theorem ces_set (q : List Pa) (k : Nat) (p : Pa) : ces (q.set k p) = (ces q).set k p.e := by simp [ces, List.map_set]
def U64s (x : Int) : Prop := (Lit.int .u64 x).wf = true
theorem u64_0 : U64s 0 := by unfold U64s; decide
/-- A cell's numbers are what they can be. -/
def Fit (e : Ce) : Prop := U64s e.i ∧ U64s e.b ∧ U64s e.f
theorem fit_zc : Fit zc := ⟨u64_0, u64_0, u64_0⟩
def pz : Pa := ⟨zc, none, 0⟩

structure Are (w : World) (A : Option Addr) (c : Nat) (q : List Pa) : Prop where
  room : q.length ≤ c
  most : c ≤ 9223372036854775807
  rd : 0 < q.length → ∃ b o, A = some ⟨b, o, none⟩ ∧ b < w.heap.size ∧ ∀ i p, q[i]? = some p → w.cell? ⟨b, o + i * 5, none⟩ = some (.bool p.e.u) ∧ w.cell? ⟨b, o + i * 5 + 1, none⟩ = some (.int .u64 p.e.i) ∧ w.cell? ⟨b, o + i * 5 + 2, none⟩ = some (.int .u64 p.e.b) ∧ w.cell? ⟨b, o + i * 5 + 3, none⟩ = some (.int .u64 p.e.f) ∧ w.cell? ⟨b, o + i * 5 + 4, none⟩ = some (.slice p.B p.e.x.length p.c)
  el : ∀ p ∈ q, Vec .i32 w p.B p.c p.e.x
  fit : ∀ p ∈ q, Fit p.e

section
variable {w w' : World} {A : Option Addr} {c : Nat} {q : List Pa}
theorem Are.keep (h : Are w A c q) (hs : w.heap.size ≤ w'.heap.size) (hk : ∀ p : Addr, p.block < w.heap.size → w'.cell? p = w.cell? p) : Are w' A c q := by
  refine ⟨h.room, h.most, fun hp => ?_, fun p hp => (h.el p hp).keep hs hk, h.fit⟩
  obtain ⟨b, o, e, hb, hc⟩ := h.rd hp
  refine ⟨b, o, e, by omega, fun i p hi => ?_⟩
  obtain ⟨h0, h1, h2, h3, h4⟩ := hc i p hi
  exact ⟨(hk _ hb).trans h0, (hk _ hb).trans h1, (hk _ hb).trans h2, (hk _ hb).trans h3, (hk _ hb).trans h4⟩
theorem Are.below (h : Are w A c q) (hb : Below w.heap.size w w') : Are w' A c q := h.keep hb.size fun _ hp => hb.cell hp
theorem Are.drew (h : Are w A c q) : Are w.drew A c q := h.keep (Nat.le_refl _) fun _ _ => rfl
theorem Are.drewN (h : Are w A c q) (n : Nat) : Are (w.drewN n) A c q := h.keep (Nat.le_refl _) fun _ _ => rfl
theorem Are.at_ (h : Are w A c q) {i : Nat} (hi : i < q.length) : ∃ b o p, A = some ⟨b, o, none⟩ ∧ q[i]? = some p ∧ b < w.heap.size ∧ w.cell? ⟨b, o + i * 5, none⟩ = some (.bool p.e.u) ∧ w.cell? ⟨b, o + i * 5 + 1, none⟩ = some (.int .u64 p.e.i) ∧ w.cell? ⟨b, o + i * 5 + 2, none⟩ = some (.int .u64 p.e.b) ∧ w.cell? ⟨b, o + i * 5 + 3, none⟩ = some (.int .u64 p.e.f) ∧ w.cell? ⟨b, o + i * 5 + 4, none⟩ = some (.slice p.B p.e.x.length p.c) ∧ Vec .i32 w p.B p.c p.e.x ∧ Fit p.e := by
  obtain ⟨b, o, e, hb, hc⟩ := h.rd (by omega)
  have hp := List.getElem?_eq_getElem hi
  obtain ⟨h0, h1, h2, h3, h4⟩ := hc i _ hp
  have hm := List.getElem_mem hi
  exact ⟨b, o, _, e, hp, hb, h0, h1, h2, h3, h4, h.el _ hm, h.fit _ hm⟩
theorem Are.nil (w : World) : Are w none 0 [] := ⟨by simp, by omega, fun h => absurd h (by simp), by simp, by simp⟩
theorem Are.many (h : Are w A c q) : q.length ≤ 9223372036854775807 := Nat.le_trans h.room h.most
theorem Are.take (h : Are w A c q) (n : Nat) : Are w A c (q.take n) := by
  have hl : (q.take n).length ≤ q.length := by simp; omega
  refine ⟨Nat.le_trans hl h.room, h.most, fun hp => ?_, fun p hp => h.el p (List.mem_of_mem_take hp), fun p hp => h.fit p (List.mem_of_mem_take hp)⟩
  obtain ⟨b, o, e, hb, hc⟩ := h.rd (by omega)
  refine ⟨b, o, e, hb, fun i p hi => hc i p ?_⟩
  rw [List.getElem?_take] at hi
  split at hi
  · exact hi
  · cases hi
end

/-- The cells of cells, one behind the other. -/
def flatA (q : List Pa) : List Value := q.flatMap fun p => [.bool p.e.u, .int .u64 p.e.i, .int .u64 p.e.b, .int .u64 p.e.f, .slice p.B p.e.x.length p.c]
theorem flatA_length (q : List Pa) : (flatA q).length = q.length * 5 := by
  induction q with
  | nil => rfl
  | cons x q ih => show (flatA q).length + 1 + 1 + 1 + 1 + 1 = (q.length + 1) * 5; omega
theorem flatA_append (q r : List Pa) : flatA (q ++ r) = flatA q ++ flatA r := by simp [flatA]
theorem flatA_cons (x : Pa) (q : List Pa) : flatA (x :: q) = .bool x.e.u :: .int .u64 x.e.i :: .int .u64 x.e.b :: .int .u64 x.e.f :: .slice x.B x.e.x.length x.c :: flatA q := rfl
theorem flatA_get (q : List Pa) (i : Nat) (p : Pa) (h : q[i]? = some p) : (flatA q)[i * 5]? = some (.bool p.e.u) ∧ (flatA q)[i * 5 + 1]? = some (.int .u64 p.e.i) ∧ (flatA q)[i * 5 + 2]? = some (.int .u64 p.e.b) ∧ (flatA q)[i * 5 + 3]? = some (.int .u64 p.e.f) ∧ (flatA q)[i * 5 + 4]? = some (.slice p.B p.e.x.length p.c) := by
  induction q generalizing i with
  | nil => simp at h
  | cons x q ih =>
    rw [flatA_cons]
    cases i with
    | zero => simp at h; subst h; simp
    | succ i =>
      have := ih i (by simpa using h)
      rw [show (i + 1) * 5 = i * 5 + 1 + 1 + 1 + 1 + 1 by omega]
      simpa using this
theorem flatA_cell (q : List Pa) : ∀ u ∈ flatA q, u.oneCell' = true := by
  intro u hu
  unfold flatA at hu
  rw [List.mem_flatMap] at hu
  obtain ⟨h, _, hu⟩ := hu
  simp at hu
  rcases hu with rfl | rfl | rfl | rfl | rfl <;> rfl
theorem flatA_set (q : List Pa) (i : Nat) (p : Pa) (hi : i < q.length) : (((((flatA q).set (i * 5) (.bool p.e.u)).set (i * 5 + 1) (.int .u64 p.e.i)).set (i * 5 + 2) (.int .u64 p.e.b)).set (i * 5 + 3) (.int .u64 p.e.f)).set (i * 5 + 4) (.slice p.B p.e.x.length p.c) = flatA (q.set i p) := by
  induction q generalizing i with
  | nil => simp at hi
  | cons y q ih =>
    cases i with
    | zero => simp [flatA_cons]
    | succ i =>
      have e : (i + 1) * 5 = i * 5 + 1 + 1 + 1 + 1 + 1 := by omega
      rw [flatA_cons, List.set_cons_succ, flatA_cons, ← ih i (by simpa using hi)]
      simp only [e, show i * 5 + 1 + 1 + 1 + 1 + 1 + 1 = i * 5 + 1 + 1 + 1 + 1 + 1 + 1 from rfl]
      simp [show i * 5 + 5 + 1 = i * 5 + 1 + 1 + 1 + 1 + 1 + 1 by omega, show i * 5 + 5 + 2 = i * 5 + 2 + 1 + 1 + 1 + 1 + 1 by omega, show i * 5 + 5 + 3 = i * 5 + 3 + 1 + 1 + 1 + 1 + 1 by omega, show i * 5 + 5 + 4 = i * 5 + 4 + 1 + 1 + 1 + 1 + 1 by omega, show i * 5 + 5 = i * 5 + 1 + 1 + 1 + 1 + 1 by omega]

/-- Numbers of the call's own. -/
def OwnV (base : Nat) (w : World) (B : Option Addr) (c : Nat) (xs : List Int) : Prop := w.ownsRow base 21 1 (.slice B xs.length c) xs.length (xs.map (Value.int .i32)) ∧ ∀ x ∈ xs, (Lit.int .i32 x).wf = true
theorem row_turn {S : Nat → Prop} {w w' : World} {base : Nat} {e : TypeId} {size : Nat} {v : Value} {n : Nat} {xs : List Value} (h : w.ownsRow base e size v n xs) (ht : Turn S w w') (hS : ∀ i, v.ownBlock = some i → ¬ S i) : w'.ownsRow base e size v n xs := by
  rcases h.2 with ⟨e', h0⟩ | ⟨g, cap, cur, e', hg, hh, hnc, hcm, hsz, hcs⟩
  · exact ⟨h.1, .inl ⟨e', h0⟩⟩
  · refine ⟨h.1, .inr ⟨g, cap, cur, e', hg, (ht.block _ (lt_of_block hh) (hS g ?_)).trans hh, hnc, hcm, hsz, hcs⟩⟩
    rw [e']; rfl

/-- Cells of the call's own, with vectors of its own. -/
structure OwnA (base : Nat) (w : World) (A : Option Addr) (c : Nat) (q : List Pa) : Prop where
  row : w.ownsRow base 45 5 (.slice A q.length c) q.length (flatA q)
  el : ∀ p ∈ q, OwnV base w p.B p.c p.e.x
  fit : ∀ p ∈ q, Fit p.e

section
variable {base : Nat} {w w' : World} {A : Option Addr} {c : Nat} {xs : List Int}
theorem OwnV.vec (h : OwnV base w A c xs) : Vec .i32 w A c xs := by
  obtain ⟨A', c', e, hv⟩ := Vec.own (m := 0) h.1 h.2
  injection e with e1 _ e2
  subst e1
  subst e2
  exact hv
theorem OwnV.turn {S : Nat → Prop} (h : OwnV base w A c xs) (ht : Turn S w w') (hS : ∀ i, base ≤ i → i < w.heap.size → ¬ S i) : OwnV base w' A c xs :=
  ⟨row_turn h.1 ht (fun i hi => hS i (h.1.lt i hi).1 (h.1.lt i hi).2), h.2⟩
theorem OwnV.below (h : OwnV base w A c xs) (hb : Below w.heap.size w w') : OwnV base w' A c xs := h.turn (Turn.of_below (S := fun _ => False) hb) (fun _ _ _ e => e)
theorem OwnV.mono {b : Nat} (h : OwnV base w A c xs) (hb : b ≤ base) : OwnV b w A c xs := ⟨h.1.mono hb, h.2⟩
end

theorem own_are {base : Nat} {w : World} {A : Option Addr} {c : Nat} {q : List Pa} (hr : w.ownsRow base 45 5 (.slice A q.length c) q.length (flatA q)) (hel : ∀ p ∈ q, Vec .i32 w p.B p.c p.e.x) (hf : ∀ p ∈ q, Fit p.e) : Are w A c q := by
  rcases hr.2 with ⟨e, h0⟩ | ⟨g, cap, cur, e, hg, hh, hnc, hcm, hsz, hcs⟩
  · injection e with e1 _ e3
    have : q = [] := List.eq_nil_of_length_eq_zero h0
    subst this e1 e3
    exact Are.nil _
  · injection e with e1 _ e3
    subst e1
    subst e3
    refine ⟨hnc, by unfold maxLen at hcm; omega, fun hp => ⟨g, 0, rfl, lt_of_block hh, fun i p hi => ?_⟩, hel, hf⟩
    have hl : i < q.length := (List.getElem?_eq_some_iff.1 hi).1
    rw [Nat.zero_add, hr.cellAt (i * 5) (by omega), hr.cellAt (i * 5 + 1) (by omega), hr.cellAt (i * 5 + 2) (by omega), hr.cellAt (i * 5 + 3) (by omega), hr.cellAt (i * 5 + 4) (by omega)]
    exact flatA_get q i p hi
section
variable {base : Nat} {w w' : World} {A : Option Addr} {c : Nat} {q : List Pa}
theorem OwnA.turn {S : Nat → Prop} (h : OwnA base w A c q) (ht : Turn S w w') (hS : ∀ i, base ≤ i → i < w.heap.size → ¬ S i) : OwnA base w' A c q :=
  ⟨row_turn h.row ht (fun i hi => hS i (h.row.lt i hi).1 (h.row.lt i hi).2), fun p hp => (h.el p hp).turn ht hS, h.fit⟩
theorem OwnA.below (h : OwnA base w A c q) (hb : Below w.heap.size w w') : OwnA base w' A c q := h.turn (Turn.of_below (S := fun _ => False) hb) (fun _ _ _ e => e)
theorem OwnA.mono {b : Nat} (h : OwnA base w A c q) (hb : b ≤ base) : OwnA b w A c q := ⟨h.row.mono hb, fun p hp => (h.el p hp).mono hb, h.fit⟩
theorem OwnA.nil (base : Nat) (w : World) : OwnA base w none 0 [] := ⟨World.ownsRow_nil _ _ _ _, by simp, by simp⟩
theorem OwnA.are (h : OwnA base w A c q) : Are w A c q := own_are h.row (fun p hp => (h.el p hp).vec) h.fit
theorem OwnV.nil (base : Nat) (w : World) : OwnV base w none 0 [] := ⟨World.ownsRow_nil _ _ _ _, by simp⟩
end

/-! ### append -/
def blk (A : Option Addr) : Option Nat := A.map (·.block)
theorem own_blk (A : Option Addr) (n c : Nat) : (Value.slice A n c).ownBlock = blk A := by cases A <;> rfl
theorem own_form2 {w : World} {base : Nat} {e : TypeId} {size : Nat} {v : Value} {n : Nat} {xs : List Value} (h : w.ownsRow base e size v n xs) : ∃ A c, v = .slice A n c ∧ (A = none ∨ ∃ g, A = some ⟨g, 0, none⟩ ∧ base ≤ g ∧ g < w.heap.size) := by
  rcases h.2 with ⟨rfl, h0⟩ | ⟨g, cap, cur, rfl, hg, hh, _⟩
  · exact ⟨none, 0, by rw [h0], .inl rfl⟩
  · exact ⟨_, cap, rfl, .inr ⟨g, rfl, hg, lt_of_block hh⟩⟩
/-- A slice's type to which one appends: its element, that one's size in cells, its bytes. -/
def AppT (P : Program) (t e : TypeId) (size bytes : Nat) : Prop := P.underlying t = some (.slice e) ∧ ∃ i z, P.info? e = some i ∧ i.zero = some z ∧ i.size = size ∧ i.bytes = bytes ∧ z.cells.size = size ∧ 0 < size ∧ bytes ≤ 100
theorem appI : AppT Try.prog 41 21 1 4 := ⟨Try.underlying41, (Try.prog.info? 21).get (by kernel_rfl), .int .i32 0, (Option.some_get _).symm, by kernel_rfl, by kernel_rfl, by kernel_rfl, rfl, by decide, by decide⟩
theorem appA : AppT Try.prog 22 45 5 56 := ⟨Try.underlying22, (Try.prog.info? 45).get (by kernel_rfl), .agg #[.bool false, .int .u64 0, .int .u64 0, .int .u64 0, .slice none 0 0], (Option.some_get _).symm, by kernel_rfl, by kernel_rfl, by kernel_rfl, rfl, by decide, by decide⟩
theorem appN : AppT Try.prog 30 3 1 8 := ⟨Try.underlying30, (Try.prog.info? 3).get (by kernel_rfl), .int .i64 0, (Option.some_get _).symm, by kernel_rfl, by kernel_rfl, by kernel_rfl, rfl, by decide, by decide⟩

/-- What is appended can be read. -/
def Read (w : World) (A : Option Addr) (m size : Nat) (news : List Value) : Prop := news.length = m * size ∧ (∀ u ∈ news, u.oneCell' = true) ∧ (A = none → m = 0) ∧ ∀ b, A = some b → ∀ j u, news[j]? = some u → w.cell? (b.add j) = some u
theorem Read.vec {w : World} {A : Option Addr} {c : Nat} {xs : List Int} {k : IntKind} (h : Vec k w A c xs) : Read w A xs.length 1 (xs.map (Value.int k)) := by
  refine ⟨by simp, by simp; intro x _; rfl, fun e => ?_, fun b e j u hj => ?_⟩
  · rcases Nat.eq_zero_or_pos xs.length with h0 | h0
    · exact h0
    · obtain ⟨b, o, e', _⟩ := h.rd h0; rw [e] at e'; cases e'
  · have hl : j < xs.length := by have := (List.getElem?_eq_some_iff.1 hj).1; simpa using this
    obtain ⟨b', o, e', _, hc⟩ := h.rd (by omega)
    rw [e] at e'
    injection e' with e'
    subst e'
    rw [Addr.add_lit, hc j hl, ← hj]
    simp [List.getD, hl]
theorem Read.cells {w : World} {A : Option Addr} {c : Nat} {q : List Pa} (h : Are w A c q) : Read w A q.length 5 (flatA q) := by
  refine ⟨flatA_length q, flatA_cell q, fun e => ?_, fun b e j u hj => ?_⟩
  · rcases Nat.eq_zero_or_pos q.length with h0 | h0
    · exact h0
    · obtain ⟨b, o, e', _⟩ := h.rd h0; rw [e] at e'; cases e'
  · have hl : j < q.length * 5 := by have := (List.getElem?_eq_some_iff.1 hj).1; rw [flatA_length] at this; exact this
    obtain ⟨b', o, e', _, hc⟩ := h.rd (by omega)
    rw [e] at e'
    injection e' with e'
    subst e'
    have hk : j / 5 < q.length := by omega
    have hp := List.getElem?_eq_getElem hk
    obtain ⟨c0, c1, c2, c3, c4⟩ := hc (j / 5) _ hp
    obtain ⟨f0, f1, f2, f3, f4⟩ := flatA_get q (j / 5) _ hp
    rw [Addr.add_lit, ← hj]
    have h5 : j % 5 = 0 ∨ j % 5 = 1 ∨ j % 5 = 2 ∨ j % 5 = 3 ∨ j % 5 = 4 := by omega
    rcases h5 with h5 | h5 | h5 | h5 | h5
    · rw [show o + j = o + j / 5 * 5 by omega, c0, ← f0]; exact congrArg (fun k => (flatA q)[k]?) (by omega)
    · rw [show o + j = o + j / 5 * 5 + 1 by omega, c1, ← f1]; exact congrArg (fun k => (flatA q)[k]?) (by omega)
    · rw [show o + j = o + j / 5 * 5 + 2 by omega, c2, ← f2]; exact congrArg (fun k => (flatA q)[k]?) (by omega)
    · rw [show o + j = o + j / 5 * 5 + 3 by omega, c3, ← f3]; exact congrArg (fun k => (flatA q)[k]?) (by omega)
    · rw [show o + j = o + j / 5 * 5 + 4 by omega, c4, ← f4]; exact congrArg (fun k => (flatA q)[k]?) (by omega)
theorem Read.cell {w : World} {g o : Nat} {p : Pa} (h0 : w.cell? ⟨g, o, none⟩ = some (.bool p.e.u)) (h1 : w.cell? ⟨g, o + 1, none⟩ = some (.int .u64 p.e.i)) (h2 : w.cell? ⟨g, o + 2, none⟩ = some (.int .u64 p.e.b)) (h3 : w.cell? ⟨g, o + 3, none⟩ = some (.int .u64 p.e.f)) (h4 : w.cell? ⟨g, o + 4, none⟩ = some (.slice p.B p.e.x.length p.c)) : Read w (some ⟨g, o, none⟩) 1 5 (flatA [p]) := by
  refine ⟨by simp [flatA_length], flatA_cell _, (fun e => by cases e), fun b e j u hj => ?_⟩
  injection e with e
  subst e
  rw [Addr.add_lit]
  match j, hj with
  | 0, hj => simp [flatA_cons] at hj; rw [Nat.add_zero, h0, hj]
  | 1, hj => simp [flatA_cons] at hj; rw [h1, hj]
  | 2, hj => simp [flatA_cons] at hj; rw [h2, hj]
  | 3, hj => simp [flatA_cons] at hj; rw [h3, hj]
  | 4, hj => simp [flatA_cons] at hj; rw [h4, hj]
  | j + 5, hj => simp [flatA_cons, flatA] at hj
theorem Read.int {w : World} {g o : Nat} {k : Int} (h0 : w.cell? ⟨g, o, none⟩ = some (.int .i64 k)) : Read w (some ⟨g, o, none⟩) 1 1 [.int .i64 k] := by
  refine ⟨rfl, by simp; rfl, (fun e => by cases e), fun b e j u hj => ?_⟩
  injection e with e
  subst e
  rw [Addr.add_lit]
  match j, hj with
  | 0, hj => simp at hj; rw [Nat.add_zero, h0, hj]
  | j + 1, hj => simp at hj

theorem run_gapp {w : World} {t e : TypeId} {size bytes : Nat} (hT : AppT Try.prog t e size bytes) (ty : TypeId) (base : Nat) (A0 : Option Addr) (c0 n : Nat) (xs : List Value) (hown : w.ownsRow base e size (.slice A0 n c0) n xs)
    (A : Option Addr) (c m : Nat) (news : List Value) (hr : Read w A m size news) (hbig : n + m ≤ 1099511627776) (hbase : base ≤ w.heap.size) :
    ∃ A1 c1 w', (Builtin.append_ #[t, t] ty #[.slice A0 n c0, .slice A m c]).run Try.prog w = .ok (.slice A1 (n + m) c1) w' ∧ w'.ownsRow base e size (.slice A1 (n + m) c1) (n + m) (xs ++ news) ∧ w.grownBy w' (blk A0) ∧ (blk A1 = blk A0 ∨ blk A1 = some w.heap.size) := by
  obtain ⟨ht, i0, z, hi, hz0, hz1, hz2, hz3, hz4, hz5⟩ := hT
  obtain ⟨hl, h1, hn, hrd⟩ := hr
  have hb : (n + m) * bytes ≤ 140737488355328 := by
    have : (n + m) * bytes ≤ 1099511627776 * 100 := Nat.mul_le_mul hbig hz5
    omega
  rcases A with _ | ad
  · obtain rfl := hn rfl
    obtain rfl : news = [] := List.eq_nil_of_length_eq_zero (by simpa using hl)
    refine ⟨A0, c0, w, ?_, by simpa using hown, World.grownBy.refl _ _, .inl rfl⟩
    rcases hown.2 with ⟨e1, rfl⟩ | ⟨g, cap, cur, e1, _, _, hnc, _⟩
    · injection e1 with e1 _ e3
      subst e1
      subst e3
      simp [Builtin.append_, run_underlying ht, sizeOf, typeInfo, hi, Builtin.lenOf, Builtin.firstCells]
    · injection e1 with e1 _ e3
      subst e1
      subst e3
      simp [Builtin.append_, run_underlying ht, sizeOf, typeInfo, hi, Builtin.lenOf, Builtin.firstCells, hnc, storeCells]
  · obtain ⟨v', w', hrun, h1, h2, h3, h4⟩ := run_append_own_at (P := Try.prog) w base t ty e i0 z size bytes ht hi hz0 hz1 hz2 hz3 hz4 _ n xs hown ad m c news hl (hrd ad rfl) h1 (by unfold maxLen; omega) hb hbase
    obtain ⟨A1, c1, rfl, _⟩ := own_form2 h1
    rw [own_blk] at h2 h4
    rw [own_blk] at h4
    exact ⟨A1, c1, w', hrun, h1, h2, h4⟩

theorem gapp_at {w : World} {ops : Array Oper} {rest : List Oper} {o : Oper} {a : Act} {Q : Exit → Act → World → Prop} (hgd : o.guard = none) (s x : Operand) {t e : TypeId} {size bytes : Nat} (hT : AppT Try.prog t e size bytes)
    (ho : o.op = .call { callee := .builtin .append, args := #[s, x], argTypes := #[t, t] })
    (base : Nat) (A0 : Option Addr) (c0 n : Nat) (xs : List Value) (hs : a.eval s = .slice A0 n c0) (hown : w.ownsRow base e size (.slice A0 n c0) n xs)
    (A : Option Addr) (c m : Nat) (news : List Value) (hx : a.eval x = .slice A m c) (hr : Read w A m size news) (hbig : n + m ≤ 1099511627776) (hbase : base ≤ w.heap.size)
    (h : ∀ A1 c1 w', w'.ownsRow base e size (.slice A1 (n + m) c1) (n + m) (xs ++ news) → w.grownBy w' (blk A0) → (blk A1 = blk A0 ∨ blk A1 = some w.heap.size) → wpList Try.prog ops Q rest (a.put o.dst (.slice A1 (n + m) c1)) w') : wpList Try.prog ops Q (o :: rest) a w := by
  refine wpList_plain hgd fun K hK => ?_
  obtain ⟨A1, c1, w', hrun, h1, h2, h3⟩ := run_gapp hT o.type base A0 c0 n xs hown A c m news hr hbig hbase
  unfold Oper.wp
  simp [execOp, ho, resolve, invoke, builtin, hs, hx, hrun, Result.andThen]
  exact hK _ _ (h A1 c1 w' h1 h2 h3)

/-- .. as a step of a region that draws. -/
theorem gapp_step {w : World} {ops : Array Oper} {o : Oper} {a : Act} {K : Act → World → Prop} {Q : Exit → Act → World → Prop} {E : Prop} (hgd : o.guard = none) (s x : Operand) {t e : TypeId} {size bytes : Nat} (hT : AppT Try.prog t e size bytes)
    (ho : o.op = .call { callee := .builtin .append, args := #[s, x], argTypes := #[t, t] })
    (base : Nat) (A0 : Option Addr) (c0 n : Nat) (xs : List Value) (hs : a.eval s = .slice A0 n c0) (hown : w.ownsRow base e size (.slice A0 n c0) n xs)
    (A : Option Addr) (c m : Nat) (news : List Value) (hx : a.eval x = .slice A m c) (hr : Read w A m size news) (hbig : n + m ≤ 1099511627776) (hbase : base ≤ w.heap.size)
    (h : ∀ A1 c1 w', w'.ownsRow base e size (.slice A1 (n + m) c1) (n + m) (xs ++ news) → w.grownBy w' (blk A0) → (blk A1 = blk A0 ∨ blk A1 = some w.heap.size) → K (a.put o.dst (.slice A1 (n + m) c1)) w') :
    if Region.wanted o (yielded ops a.tmps) = true then Oper.wp Try.prog o a w K Q else E := by
  have hw : Region.wanted o (yielded ops a.tmps) = true := by simp [Region.wanted, hgd]
  rw [if_pos hw]
  obtain ⟨A1, c1, w', hrun, h1, h2, h3⟩ := run_gapp hT o.type base A0 c0 n xs hown A c m news hr hbig hbase
  unfold Oper.wp
  simp [execOp, ho, resolve, invoke, builtin, hs, hx, hrun, Result.andThen]
  exact h A1 c1 w' h1 h2 h3

/-- .. in a fenced walk. -/
theorem gapp_in {F : Fence} {nn : Nat} {w : World} {ops : Array Oper} {rest : List Oper} {o : Oper} {a : Act} {Q : Exit → Act → World → Prop} (hgd : o.guard = none) (s x : Operand) {t e : TypeId} {size bytes : Nat} (hT : AppT Try.prog t e size bytes)
    (ho : o.op = .call { callee := .builtin .append, args := #[s, x], argTypes := #[t, t] })
    (base : Nat) (A0 : Option Addr) (c0 n : Nat) (xs : List Value) (hs : a.eval s = .slice A0 n c0) (hown : w.ownsRow base e size (.slice A0 n c0) n xs)
    (A : Option Addr) (c m : Nat) (news : List Value) (hx : a.eval x = .slice A m c) (hr : Read w A m size news) (hbig : n + m ≤ 1099511627776) (hbase : base ≤ w.heap.size)
    (h : ∀ A1 c1 w', w'.ownsRow base e size (.slice A1 (n + m) c1) (n + m) (xs ++ news) → w.grownBy w' (blk A0) → (blk A1 = blk A0 ∨ blk A1 = some w.heap.size) → wpListIn F nn Try.prog ops Q rest (a.put o.dst (.slice A1 (n + m) c1)) w') : wpListIn F nn Try.prog ops Q (o :: rest) a w := by
  refine wpListIn_plain hgd fun K hK' => ?_
  obtain ⟨A1, c1, w', hrun, h1, h2, h3⟩ := run_gapp hT o.type base A0 c0 n xs hown A c m news hr hbig hbase
  unfold Oper.wpIn
  refine ⟨?_, ?_⟩
  · simp [Oper.about, ho, resolve, Target.leads, Sem.run_pure]
  · rw [Oper.semAt_plain F _ _ (by rw [ho]; intro c hc'; cases hc')]
    simp [execOp, ho, resolve, invoke, builtin, hs, hx, hrun, Result.andThen]
    exact hK' _ _ (h A1 c1 w' h1 h2 h3)

set_option maxHeartbeats 400000 in
theorem clone_any (A : Option Addr) (c : Nat) (xs : List Int) (w : World) (h : Vec .i32 w A c xs) (hbig : xs.length ≤ 1000000) :
    Calls Try.prog 59 #[.slice A xs.length c] w fun e w' => ∃ A1 c1, e = .returned (.slice A1 xs.length c1) ∧ OwnV w.heap.size w' A1 c1 xs ∧ Below w.heap.size w w' := by
  have q22 : ∀ (w : World) (a : Option Addr) (n c n' c' : Nat), (binOp .eql 41 (.slice a n c) (.slice none n' c')).run Try.prog w = .ok (.bool a.isNone) w := fun w a n c n' c' => Lib.run_eql_slice_nil w _ _ a n c n' c' Try.underlying41
  rcases A with _ | a
  · obtain rfl : xs = [] := by
      rcases xs with _ | ⟨x, xs⟩
      · rfl
      · obtain ⟨_, _, e, _⟩ := h.rd (by simp); cases e
    have HO := Lib.hid (show OwnV w.heap.size w none 0 [] from ⟨World.ownsRow_nil _ _ _ _, by simp⟩)
    rw [List.length_nil]
    clear h
    go_enter Try.func59, Try.ntmps59
    go_wp2
    go_ret
    exact ⟨none, 0, rfl, HO.out, Below.refl _ _⟩
  · have HR := Lib.hid (Read.vec (h.below ((Below.refl _ w).alloc (Nat.le_refl _) (.cells #[] 21))))
    have HF := Lib.hid h.fit
    have HO := Lib.hid (World.ownsRow_made (base := w.heap.size) (size := 1) (e := 21) w #[] 0 (Nat.le_refl _) (Nat.zero_le _) rfl)
    generalize hn : xs.length = n at *
    have HN := Lib.hid hn
    clear h hn
    go_enter Try.func59, Try.ntmps59
    go_wp2_with (at_builtin; refine gapp_at rfl (.tmp 5) (.tmp 6) appI rfl w.heap.size (some ⟨w.heap.size, 0, none⟩) 0 0 [] rfl HO.out (some a) c n (xs.map (Value.int .i32)) rfl HR.out (by omega) (by simp) ?_; intro A1 c1 w1 ho hg _; have HO1 := Lib.hid ho; have HB1 := Lib.hid (show Below w.heap.size w w1 from ((Below.refl _ w).alloc (Nat.le_refl _) (.cells #[] 21)).grown hg (by simp) (fun k hk => Nat.le_of_eq (show w.heap.size = k by simpa [blk] using hk))); clear ho hg)
    go_ret
    refine ⟨A1, c1, rfl, ⟨?_, HF.out⟩, HB1.out⟩
    have := HO1.out
    rw [Nat.zero_add, List.nil_append] at this
    rw [HN.out]
    exact this


end Go.Proofs.Ytpdebkpblpipcaa
