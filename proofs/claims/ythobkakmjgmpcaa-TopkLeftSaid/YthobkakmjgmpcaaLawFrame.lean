/-
  For the rows of laws: arguments read behind a call that left all that was there as they read before it; hits, rows of hits, selections, numbers that came in.
-/
import Derived.Test.YthobkakmjgmpcaaRows
import Derived.Test.YthobkakmjgmpcaaTopBase
import Derived.ProofKit
import Derived.OpenShut
import Derived.ChangeOld
import Derived.Deep.Matrix
import Derived.Deep.SlicePairs
import Derived.Deep.Fields
namespace Go.Proofs.Ythobkakmjgmpcaa
open Go.ChangeShapes Go.WideShapes Go.ChangeAt Go.RowKit Go.Deep
set_option linter.unusedVariables false
set_option linter.unusedSimpArgs false

theorem Try.own : ownKnob Try.prog.godebug = none := by kernel_rfl
theorem Try.laidOut : laidOutB Try.prog = true := by kernel_rfl

/-- All arguments at once: below the heap's old size nothing has turned, so each reads as it did. -/
theorem trodAll_kept {H : Type} {enc : TypeId × Value → H} {P : Program} {W W' : World} (hl : laidOutB P = true) (hb : Below W.heap.size W W') (ts : List TypeId) :
    ∀ (vs : List Value) (ds : List (DataW H)) (ps : List MemPlace), (ts.all fun t => P.readableRec t && decide (t < P.types.size)) = true →
      DataW.TrodAll enc P W 0 (fun _ => true) true ts vs ds ps → DataW.TrodAll enc P W' 0 (fun b => decide (b < W.heap.size)) true ts vs ds ps := by
  induction ts with
  | nil =>
    intro vs ds ps _ h
    rcases vs with _ | ⟨v, vs⟩ <;> rcases ds with _ | ⟨d, ds⟩ <;> simp [DataW.TrodAll] at h ⊢
    exact h
  | cons t ts ih =>
    intro vs ds ps ht h
    rcases vs with _ | ⟨v, vs⟩
    · simp [DataW.TrodAll] at h
    rcases ds with _ | ⟨d, ds⟩
    · simp [DataW.TrodAll] at h
    obtain ⟨p, q, h1, h2, rfl⟩ := h
    simp only [List.all_cons, Bool.and_eq_true, decide_eq_true_eq] at ht
    have lt : ∀ x ∈ p, x.block < W.heap.size := by obtain ⟨m, hm⟩ := h1; exact DataW.trod_lt m _ _ _ hm
    exact ⟨p, q, Below.trod hl ht.1.1 ht.1.2 h1 hb lt, ih vs ds q ht.2 h2, rfl⟩
theorem trodAll_below {H : Type} {enc : TypeId × Value → H} {W W' : World} (hb : Below W.heap.size W W') (ts : List TypeId) (vs : List Value) (ds : List (DataW H)) (ps : List MemPlace)
    (ht : (ts.all fun t => Try.prog.readableRec t && decide (t < Try.prog.types.size)) = true) (h : DataW.TrodAll enc Try.prog W 0 (fun _ => true) true ts vs ds ps) :
    DataW.TrodAll enc Try.prog W' 0 (fun b => decide (b < W.heap.size)) true ts vs ds ps := trodAll_kept Try.laidOut hb ts vs ds ps ht h


theorem hits_core {H : Type} {enc : TypeId × Value → H} {W : World} {fuel : Nat} {cs : List Value} {x : DataW H × List MemPlace} (h : DataW.trod enc Try.prog W 0 (fun _ => true) true fuel 22 cs = some x) :
    ∃ A c l, cs = [.slice A (List.length l) c] ∧ Hits W A c l := by
  rcases open_slice_pairs (f0 := (match Try.prog.underlying 32 with | some (.struct fs) => fs.getD 0 default | _ => default)) (f1 := (match Try.prog.underlying 32 with | some (.struct fs) => fs.getD 1 default | _ => default)) Try.underlying22 (by kernel_rfl) (by kernel_rfl) (by kernel_rfl) (by kernel_rfl) (by kernel_rfl) (by kernel_rfl) h with ⟨hcs, _⟩ | ⟨a, len, cap, m, n, V0, V1, D0, D1, P0, P1, hcs, _, hl, hm, hmm, _, hcell⟩
  · exact ⟨none, 0, [], hcs, Hits.nil _⟩
  · simp only [if_true] at hmm
    subst hmm
    refine ⟨some a, m, (List.range len).map fun i => (intOf (V0 i), intOf (V1 i)), by simpa using hcs, by simpa using hl, by unfold maxLen at hm; omega, fun hp => ?_⟩
    have hlen : 0 < len := by simpa using hp
    obtain ⟨b, off, spot⟩ := a
    have hc0 := (hcell 0 (by omega)).1
    have hspot : spot = none := by simpa [Addr.add] using World.cell?_spot hc0
    subst hspot
    have hbl : b < W.heap.size := by
      have hc' : W.cell? ⟨b, off, none⟩ = some (V0 0) := by simpa [Addr.add] using hc0
      exact World.block_lt_of_cell? W _ hc'
    refine ⟨b, off, rfl, hbl, fun j hj => ?_⟩
    have hj' : j < len := by simpa using hj
    obtain ⟨h1, h2, h3, h4⟩ := hcell j (by omega)
    obtain ⟨y0, e0, _, wf0⟩ := DataW.trod_int (k := .u64) (by kernel_rfl) h3
    obtain ⟨y1, e1, _, wf1⟩ := DataW.trod_int (k := .u64) (by kernel_rfl) h4
    have e0' : V0 j = .int .u64 y0 := by simpa using e0
    have e1' : V1 j = .int .u64 y1 := by simpa using e1
    rw [Addr.add_lit] at h1 h2
    have hg : ((List.range len).map fun i => (intOf (V0 i), intOf (V1 i))).getD j z2 = (y0, y1) := by
      simp [List.getD, hj', e0', e1', intOf]
    rw [hg]
    exact ⟨by rw [h1, e0'], h2.trans (by rw [e1'])⟩

theorem rows_core {H : Type} {enc : TypeId × Value → H} {W : World} {fuel : Nat} {cs : List Value} {x : DataW H × List MemPlace} (h : DataW.trod enc Try.prog W 0 (fun _ => true) true fuel 34 cs = some x) :
    ∃ A c ls, cs = [.slice A (List.length ls) c] ∧ Rows W A c ls := by
  rcases open_slice1 Try.underlying34 (by kernel_rfl) h with ⟨hcs, _⟩ | ⟨a, len, cap, m, n, V, D, Pl, hcs, _, hl, hm, hmm, _, hx⟩
  · exact ⟨none, 0, [], hcs, Rows.nil _⟩
  · simp only [if_true] at hmm
    subst hmm
    have each : ∀ r, r < len → ∃ y : Option Addr × Nat × List HitM, V r = .slice y.1 y.2.2.length y.2.1 ∧ Hits W y.1 y.2.1 y.2.2 := by
      intro r hr
      obtain ⟨A, c, l, e, hh⟩ := hits_core (hx r (by omega)).2
      exact ⟨(A, c, l), by simpa using e, hh⟩
    obtain ⟨y, hy⟩ := choose_lt each
    refine ⟨some a, m, (List.range len).map fun r => (y r).2.2, by simpa using hcs, by simpa using hl, by unfold maxLen at hm; omega, fun hp => ?_⟩
    have hlen : 0 < len := by simpa using hp
    obtain ⟨b, off, spot⟩ := a
    have hc0 := (hx 0 (by omega)).1
    have hspot : spot = none := by simpa [Addr.add] using World.cell?_spot hc0
    subst hspot
    have hbl : b < W.heap.size := by
      have hc' : W.cell? ⟨b, off, none⟩ = some (V 0) := by simpa [Addr.add] using hc0
      exact World.block_lt_of_cell? W _ hc'
    refine ⟨b, off, rfl, hbl, fun i z hz => ?_⟩
    have hi : i < len := by have := (List.getElem?_eq_some_iff.1 hz).1; simpa using this
    have hzy : (y i).2.2 = z := by simpa [hi] using hz
    obtain ⟨e1, hh⟩ := hy i hi
    have h1 := (hx i (by omega)).1
    rw [Addr.add_lit, e1, hzy] at h1
    rw [hzy] at hh
    exact ⟨(y i).1, (y i).2.1, h1, hh⟩

theorem open_hits {H : Type} {enc : TypeId × Value → H} {W : World} {a : Option Addr} {len cap : Nat} {d : DataW H} {p : List MemPlace}
    (h : DataW.Trod enc Try.prog W 0 (fun _ => true) true 22 (.slice a len cap) d p) : ∃ l : List HitM, l.length = len ∧ Hits W a cap l := by
  obtain ⟨fuel, hf⟩ := h
  obtain ⟨A, c, l, hcs, hh⟩ := hits_core hf
  simp [Value.cells] at hcs
  obtain ⟨rfl, e, rfl⟩ := hcs
  exact ⟨l, e.symm, hh⟩
theorem open_rows {H : Type} {enc : TypeId × Value → H} {W : World} {a : Option Addr} {len cap : Nat} {d : DataW H} {p : List MemPlace}
    (h : DataW.Trod enc Try.prog W 0 (fun _ => true) true 34 (.slice a len cap) d p) : ∃ ls : List (List HitM), ls.length = len ∧ Rows W a cap ls := by
  obtain ⟨fuel, hf⟩ := h
  obtain ⟨A, c, l, hcs, hh⟩ := rows_core hf
  simp [Value.cells] at hcs
  obtain ⟨rfl, e, rfl⟩ := hcs
  exact ⟨l, e.symm, hh⟩
theorem open_nums {H : Type} {enc : TypeId × Value → H} {W : World} {a : Option Addr} {len cap : Nat} {d : DataW H} {p : List MemPlace}
    (h : DataW.Trod enc Try.prog W 0 (fun _ => true) true 23 (.slice a len cap) d p) : ∃ xs : List Int, xs.length = len ∧ Vec .i64 W a cap xs := by
  obtain ⟨fuel, hf⟩ := h
  rcases open_ints Try.underlying23 Try.underlying3 (by kernel_rfl) hf with ⟨hcs, _⟩ | ⟨x, l, c, zs, hcs, _, hl, hm, hz, _, hcell, hwz⟩
  · simp [Value.cells] at hcs
    obtain ⟨rfl, rfl, rfl⟩ := hcs
    exact ⟨[], rfl, Vec.nil _ _⟩
  · simp [Value.cells] at hcs
    obtain ⟨rfl, rfl, rfl⟩ := hcs
    have hz' : zs.length = cap := by simpa using hz
    have hlen : (zs.take len).length = len := by simp; omega
    refine ⟨zs.take len, hlen, by omega, by unfold maxLen at hm; omega, fun hp => ?_, fun b hb => hwz b (List.mem_of_mem_take hb)⟩
    obtain ⟨b, off, spot⟩ := x
    have hc := hcell 0 (by omega)
    have hspot : spot = none := by simpa [Addr.add] using World.cell?_spot hc
    subst hspot
    have hc' : W.cell? ⟨b, off, none⟩ = some (.int .i64 (zs.getD 0 0)) := by simpa [Addr.add] using hc
    refine ⟨b, off, rfl, World.block_lt_of_cell? W _ hc', fun j hj => ?_⟩
    have h1 := hcell j (by omega)
    rw [Addr.add_lit] at h1
    rw [h1]
    have : j < len := by omega
    simp [List.getD, this]
theorem open_num {H : Type} {enc : TypeId × Value → H} {r : Reach} {b0 : Nat} {v : Value} {W : World} {d : DataW H} {p : List MemPlace} (hv : Value.okWide Try.prog W r b0 3 v) (h : DataW.Trod enc Try.prog W 0 (fun _ => true) true 3 v d p) :
    ∃ a, v = .int .i64 a ∧ (Lit.int .i64 a).wf = true := by
  obtain ⟨a, e, _, _, w⟩ := open_int Try.underlying3 hv h
  exact ⟨a, e, w⟩
theorem open_top {H : Type} {enc : TypeId × Value → H} {r : Reach} {b0 : Nat} {v : Value} {W : World} {d : DataW H} {p : List MemPlace} (hv : Value.okWide Try.prog W r b0 38 v) (h : DataW.Trod enc Try.prog W 0 (fun _ => true) true 38 v d p) :
    ∃ k A c l, v = .agg #[.int .i64 k, .slice A (List.length l) c] ∧ (Lit.int .i64 k).wf = true ∧ Hits W A c l := by
  obtain ⟨cs, rfl, _⟩ := okWide_struct Try.underlying38 hv
  obtain ⟨fuel, hf⟩ := h
  have hu := Try.underlying38
  have hone := fun i f => hone_of (P := Try.prog) (fs := (match Try.prog.underlying 38 with | some (.struct fs) => fs | _ => #[])) (by kernel_rfl) i f
  rw [hu] at hone
  obtain ⟨ys, n, _, _, hlen, hy, hf⟩ := DataW.trod_struct (cs := cs.toList) hu (by simpa [Value.cells] using hf)
  have h2 : Try.prog.cellsOf 38 = 2 := by kernel_rfl
  rw [h2] at hlen
  obtain ⟨l, hl⟩ : ∃ l, l = cs.toList := ⟨_, rfl⟩
  rw [← hl] at hlen hf
  match l, hlen with
  | [v0, v1], _ =>
    have f0 : DataW.trod enc Try.prog W 0 (fun _ => true) true n 3 [v0] = ys[0]? := by have h1 := hf 0 _ rfl; obtain ⟨o1, k1⟩ := hone 0 _ rfl; rw [o1, k1] at h1; exact h1
    have f1 : DataW.trod enc Try.prog W 0 (fun _ => true) true n 22 [v1] = ys[1]? := by have h1 := hf 1 _ rfl; obtain ⟨o1, k1⟩ := hone 1 _ rfl; rw [o1, k1] at h1; exact h1
    have g : ∀ (i : Nat) (hi : i < 2), ∃ y, ys[i]? = some y := fun i hi => by
      have hl := ‹ys.length = _›
      exact ⟨_, List.getElem?_eq_getElem (by rw [hl]; exact hi)⟩
    obtain ⟨y0, e0⟩ := g 0 (by omega)
    obtain ⟨y1, e1⟩ := g 1 (by omega)
    rw [e0] at f0
    rw [e1] at f1
    obtain ⟨a, ha, _, wa⟩ := DataW.trod_int Try.underlying3 f0
    obtain ⟨A, c, l2, hb, hh⟩ := hits_core f1
    simp at ha hb
    subst ha
    subst hb
    refine ⟨a, A, c, l2, ?_, wa, hh⟩
    congr 1
    exact Array.toList_inj.1 hl.symm
end Go.Proofs.Ythobkakmjgmpcaa
