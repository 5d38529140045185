/-
  For the rows of laws: arguments read behind a call that left all that was there as they read before it; vectors, rows of vectors, rows of such, numbers that came in.
-/
import Derived.Test.YtgakfffkadaeeaaRows
import Derived.Test.YtgakfffkadaeeaaVecBase
import Derived.ProofKit
import Derived.OpenShut
import Derived.ChangeOld
import Derived.Deep.Matrix
import Derived.Deep.SlicePairs
namespace Go.Proofs.Ytgakfffkadaeeaa
open Go.ChangeShapes Go.WideShapes Go.ChangeAt Go.RowKit Go.Deep
set_option linter.unusedVariables false

theorem Try.own : ownKnob Try.prog.godebug = none := by kernel_rfl
theorem Try.laidOut : laidOutB Try.prog = true := by kernel_rfl

/-- All arguments at once: below the heap's old size nothing has turned, so each reads as it did. -/
theorem trodAll_kept {H : Type} {enc : TypeId × Value → H} {P : Program} {W W' : World} (hl : laidOutB P = true) (hb : Below W.heap.size W W') (ts : List TypeId) :
    ∀ (vs : List Value) (ds : List (DataW H)) (ps : List MemPlace), (ts.all fun t => P.readableRec t && decide (t < P.types.size)) = true →
      DataW.TrodAll enc P W 0 (fun _ => true) true ts vs ds ps → DataW.TrodAll enc P W' 0 (fun b => decide (b < W.heap.size)) true ts vs ds ps := by
  induction ts with
  | nil =>
    intro vs ds ps _ h
    rcases vs with _ | ⟨v, vs⟩ <;> rcases ds with _ | ⟨d, ds⟩ <;> simp [DataW.TrodAll] at h ⊢
    exact h
  | cons t ts ih =>
    intro vs ds ps ht h
    rcases vs with _ | ⟨v, vs⟩
    · simp [DataW.TrodAll] at h
    rcases ds with _ | ⟨d, ds⟩
    · simp [DataW.TrodAll] at h
    obtain ⟨p, q, h1, h2, rfl⟩ := h
    simp only [List.all_cons, Bool.and_eq_true, decide_eq_true_eq] at ht
    have lt : ∀ x ∈ p, x.block < W.heap.size := by obtain ⟨m, hm⟩ := h1; exact DataW.trod_lt m _ _ _ hm
    exact ⟨p, q, Below.trod hl ht.1.1 ht.1.2 h1 hb lt, ih vs ds q ht.2 h2, rfl⟩
theorem trodAll_below {H : Type} {enc : TypeId × Value → H} {W W' : World} (hb : Below W.heap.size W W') (ts : List TypeId) (vs : List Value) (ds : List (DataW H)) (ps : List MemPlace)
    (ht : (ts.all fun t => Try.prog.readableRec t && decide (t < Try.prog.types.size)) = true) (h : DataW.TrodAll enc Try.prog W 0 (fun _ => true) true ts vs ds ps) :
    DataW.TrodAll enc Try.prog W' 0 (fun b => decide (b < W.heap.size)) true ts vs ds ps := trodAll_kept Try.laidOut hb ts vs ds ps ht h

theorem open_vec {H : Type} {enc : TypeId × Value → H} {W : World} {a : Option Addr} {len cap : Nat} {d : DataW H} {p : List MemPlace}
    (h : DataW.Trod enc Try.prog W 0 (fun _ => true) true 35 (.slice a len cap) d p) : ∃ xs : List Int, xs.length = len ∧ Vec .i32 W a cap xs := by
  obtain ⟨fuel, hf⟩ := h
  rcases open_ints Try.underlying35 Try.underlying21 (by kernel_rfl) hf with ⟨hcs, _⟩ | ⟨x, l, c, zs, hcs, _, hl, hm, hz, _, hcell, hwz⟩
  · simp [Value.cells] at hcs
    obtain ⟨rfl, rfl, rfl⟩ := hcs
    exact ⟨[], rfl, Vec.nil _ _⟩
  · simp [Value.cells] at hcs
    obtain ⟨rfl, rfl, rfl⟩ := hcs
    have hz' : zs.length = cap := by simpa using hz
    have hlen : (zs.take len).length = len := by simp; omega
    refine ⟨zs.take len, hlen, by omega, by unfold maxLen at hm; omega, fun hp => ?_, fun b hb => hwz b (List.mem_of_mem_take hb)⟩
    obtain ⟨b, off, spot⟩ := x
    have hc := hcell 0 (by omega)
    have hspot : spot = none := by simpa [Addr.add] using World.cell?_spot hc
    subst hspot
    have hc' : W.cell? ⟨b, off, none⟩ = some (.int .i32 (zs.getD 0 0)) := by simpa [Addr.add] using hc
    refine ⟨b, off, rfl, World.block_lt_of_cell? W _ hc', fun j hj => ?_⟩
    have h1 := hcell j (by omega)
    rw [Addr.add_lit] at h1
    rw [h1]
    have : j < len := by omega
    simp [List.getD, this]

theorem vecs_core {H : Type} {enc : TypeId × Value → H} {W : World} {fuel : Nat} {cs : List Value} {x : DataW H × List MemPlace} (hf : DataW.trod enc Try.prog W 0 (fun _ => true) true fuel 22 cs = some x) :
    ∃ A c l, cs = [.slice A (List.length l) c] ∧ Vecs .i32 W A c l := by
  rcases open_int_rows Try.underlying22 Try.underlying35 Try.underlying21 (by kernel_rfl) (by kernel_rfl) hf with ⟨hcs, _⟩ | ⟨x, len, cap, A, L, C, Z, hcs, _, hl, hm, _, hrow⟩
  · exact ⟨none, 0, [], hcs, Vecs.nil _ _⟩
  · refine ⟨some x, cap, (List.range len).map (fun r => (Z r).take (L r)), by simpa using hcs, by simpa using hl, by unfold maxLen at hm; omega, fun hp => ?_⟩
    have hlen : 0 < len := by simpa using hp
    obtain ⟨b, off, spot⟩ := x
    have hc := (hrow 0 (by omega)).1
    have hspot : spot = none := by simpa [Addr.add] using World.cell?_spot hc
    subst hspot
    have hc' : W.cell? ⟨b, off, none⟩ = some (.slice (A 0) (L 0) (C 0)) := by simpa [Addr.add] using hc
    refine ⟨b, off, rfl, World.block_lt_of_cell? W _ hc', fun i y hy => ?_⟩
    have hi : i < len := by have := (List.getElem?_eq_some_iff.1 hy).1; simpa using this
    simp [hi] at hy
    subst hy
    obtain ⟨h1, h2, h3, h4, h5, h6, h7⟩ := hrow i (by omega)
    rw [Addr.add_lit] at h1
    have hzl : ((Z i).take (L i)).length = L i := by simp; omega
    refine ⟨A i, C i, by rw [hzl]; exact h1, by omega, by unfold maxLen at h3; omega, fun hp => ?_, fun z hz => h5 z (List.mem_of_mem_take hz)⟩
    rw [hzl] at hp
    cases hA : A i with
    | none => have := h6 hA; omega
    | some a' =>
      obtain ⟨b', off', spot'⟩ := a'
      have hx := (h7 _ hA).2
      have hx0 := hx 0 (by omega)
      have hspot : spot' = none := by simpa [Addr.add] using World.cell?_spot hx0
      subst hspot
      have hx0' : W.cell? ⟨b', off', none⟩ = some (.int .i32 ((Z i).getD 0 0)) := by simpa [Addr.add] using hx0
      refine ⟨b', off', rfl, World.block_lt_of_cell? W _ hx0', fun j hj => ?_⟩
      rw [hzl] at hj
      have h9 := hx j (by omega)
      rw [Addr.add_lit] at h9
      rw [h9]
      simp [List.getD, hj]

theorem open_vecs {H : Type} {enc : TypeId × Value → H} {W : World} {a : Option Addr} {len cap : Nat} {d : DataW H} {p : List MemPlace}
    (h : DataW.Trod enc Try.prog W 0 (fun _ => true) true 22 (.slice a len cap) d p) : ∃ l : List (List Int), l.length = len ∧ Vecs .i32 W a cap l := by
  obtain ⟨fuel, hf⟩ := h
  obtain ⟨A, c, l, hcs, hh⟩ := vecs_core hf
  simp [Value.cells] at hcs
  obtain ⟨rfl, e, rfl⟩ := hcs
  exact ⟨l, e.symm, hh⟩

/-- Rows of rows that came in. -/
structure VVs (w : World) (A : Option Addr) (c : Nat) (ls : List (List (List Int))) : Prop where
  room : ls.length ≤ c
  most : c ≤ 9223372036854775807
  rd : 0 < ls.length → ∃ b o, A = some ⟨b, o, none⟩ ∧ b < w.heap.size ∧ ∀ i x, ls[i]? = some x → ∃ B cb, w.cell? ⟨b, o + i, none⟩ = some (.slice B x.length cb) ∧ Vecs .i32 w B cb x
theorem VVs.nil (w : World) : VVs w none 0 [] := ⟨by simp, by omega, fun h => absurd h (by simp)⟩
theorem VVs.below {w w' : World} {A : Option Addr} {c : Nat} {ls : List (List (List Int))} (h : VVs w A c ls) (hb : Below w.heap.size w w') : VVs w' A c ls := by
  refine ⟨h.room, h.most, fun hp => ?_⟩
  obtain ⟨b, o, e, hl, hc⟩ := h.rd hp
  refine ⟨b, o, e, Nat.lt_of_lt_of_le hl hb.size, fun i x hx => ?_⟩
  obtain ⟨B, cb, h1, h2⟩ := hc i x hx
  exact ⟨B, cb, (hb.cell (p := ⟨b, o + i, none⟩) hl).trans h1, h2.below hb⟩
theorem VVs.at_ {w : World} {A : Option Addr} {c : Nat} {ls : List (List (List Int))} (h : VVs w A c ls) {i : Nat} (hi : i < ls.length) : ∃ b o x B cb, A = some ⟨b, o, none⟩ ∧ ls[i]? = some x ∧ b < w.heap.size ∧ w.cell? ⟨b, o + i, none⟩ = some (.slice B (List.length x) cb) ∧ Vecs .i32 w B cb x := by
  obtain ⟨b, o, e, hb, hc⟩ := h.rd (by omega)
  obtain ⟨B, cb, h1, h2⟩ := hc i _ (List.getElem?_eq_getElem hi)
  exact ⟨b, o, _, B, cb, e, List.getElem?_eq_getElem hi, hb, h1, h2⟩
theorem open_vvs {H : Type} {enc : TypeId × Value → H} {W : World} {a : Option Addr} {len cap : Nat} {d : DataW H} {p : List MemPlace}
    (h : DataW.Trod enc Try.prog W 0 (fun _ => true) true 45 (.slice a len cap) d p) : ∃ ls : List (List (List Int)), ls.length = len ∧ VVs W a cap ls := by
  obtain ⟨fuel, hf⟩ := h
  rcases open_slice1 Try.underlying45 (by kernel_rfl) hf with ⟨hcs, _⟩ | ⟨a', len', cap', m, n, V, D, Pl, hcs, _, hl, hm, hmm, _, hx⟩
  · simp [Value.cells] at hcs
    obtain ⟨rfl, rfl, rfl⟩ := hcs
    exact ⟨[], rfl, VVs.nil _⟩
  · simp only [if_true] at hmm
    subst hmm
    simp [Value.cells] at hcs
    obtain ⟨rfl, rfl, rfl⟩ := hcs
    have each : ∀ r, r < len → ∃ y : Option Addr × Nat × List (List Int), V r = .slice y.1 y.2.2.length y.2.1 ∧ Vecs .i32 W y.1 y.2.1 y.2.2 := by
      intro r hr
      obtain ⟨A, c, l, e, hh⟩ := vecs_core (hx r (by omega)).2
      exact ⟨(A, c, l), by simpa using e, hh⟩
    obtain ⟨y, hy⟩ := choose_lt each
    refine ⟨(List.range len).map fun r => (y r).2.2, by simp, by simpa using hl, by unfold maxLen at hm; omega, fun hp => ?_⟩
    have hlen : 0 < len := by simpa using hp
    obtain ⟨b, off, spot⟩ := a'
    have hc0 := (hx 0 (by omega)).1
    have hspot : spot = none := by simpa [Addr.add] using World.cell?_spot hc0
    subst hspot
    have hbl : b < W.heap.size := by
      have hc' : W.cell? ⟨b, off, none⟩ = some (V 0) := by simpa [Addr.add] using hc0
      exact World.block_lt_of_cell? W _ hc'
    refine ⟨b, off, rfl, hbl, fun i z hz => ?_⟩
    have hi : i < len := by have := (List.getElem?_eq_some_iff.1 hz).1; simpa using this
    have hzy : (y i).2.2 = z := by simpa [hi] using hz
    obtain ⟨e1, hh⟩ := hy i hi
    have h1 := (hx i (by omega)).1
    rw [Addr.add_lit, e1, hzy] at h1
    rw [hzy] at hh
    exact ⟨(y i).1, (y i).2.1, h1, hh⟩
theorem open_nums {H : Type} {enc : TypeId × Value → H} {W : World} {a : Option Addr} {len cap : Nat} {d : DataW H} {p : List MemPlace}
    (h : DataW.Trod enc Try.prog W 0 (fun _ => true) true 23 (.slice a len cap) d p) : ∃ xs : List Int, xs.length = len ∧ Vec .i64 W a cap xs := by
  obtain ⟨fuel, hf⟩ := h
  rcases open_ints Try.underlying23 Try.underlying3 (by kernel_rfl) hf with ⟨hcs, _⟩ | ⟨x, l, c, zs, hcs, _, hl, hm, hz, _, hcell, hwz⟩
  · simp [Value.cells] at hcs
    obtain ⟨rfl, rfl, rfl⟩ := hcs
    exact ⟨[], rfl, Vec.nil _ _⟩
  · simp [Value.cells] at hcs
    obtain ⟨rfl, rfl, rfl⟩ := hcs
    have hz' : zs.length = cap := by simpa using hz
    have hlen : (zs.take len).length = len := by simp; omega
    refine ⟨zs.take len, hlen, by omega, by unfold maxLen at hm; omega, fun hp => ?_, fun b hb => hwz b (List.mem_of_mem_take hb)⟩
    obtain ⟨b, off, spot⟩ := x
    have hc := hcell 0 (by omega)
    have hspot : spot = none := by simpa [Addr.add] using World.cell?_spot hc
    subst hspot
    have hc' : W.cell? ⟨b, off, none⟩ = some (.int .i64 (zs.getD 0 0)) := by simpa [Addr.add] using hc
    refine ⟨b, off, rfl, World.block_lt_of_cell? W _ hc', fun j hj => ?_⟩
    have h1 := hcell j (by omega)
    rw [Addr.add_lit] at h1
    rw [h1]
    have : j < len := by omega
    simp [List.getD, this]
theorem open_num {H : Type} {enc : TypeId × Value → H} {r : Reach} {b0 : Nat} {v : Value} {W : World} {d : DataW H} {p : List MemPlace} (hv : Value.okWide Try.prog W r b0 3 v) (h : DataW.Trod enc Try.prog W 0 (fun _ => true) true 3 v d p) :
    ∃ a, v = .int .i64 a ∧ (Lit.int .i64 a).wf = true := by
  obtain ⟨a, e, _, _, w⟩ := open_int Try.underlying3 hv h
  exact ⟨a, e, w⟩
end Go.Proofs.Ytgakfffkadaeeaa
