/-
  For the rows of laws: arguments read behind a call that left all that was there as they read before it; arenas, cells, versions, slots, numbers that came in.
-/
import Derived.Test.YtpdebkpblpipcaaRows
import Derived.Test.YtpdebkpblpipcaaAreWakes
import Derived.ProofKit
import Derived.OpenShut
import Derived.ChangeOld
import Derived.Deep.Matrix
import Derived.Deep.SlicePairs
import Derived.Deep.Fields
namespace Go.Proofs.Ytpdebkpblpipcaa
open Go.ChangeShapes Go.WideShapes Go.ChangeAt Go.RowKit Go.Deep
set_option linter.unusedVariables false
set_option linter.unusedSimpArgs false
set_option maxRecDepth 100000

theorem Try.own : ownKnob Try.prog.godebug = none := by kernel_rfl
theorem Try.laidOut : laidOutB Try.prog = true := by kernel_rfl

/-- All arguments at once: below the heap's old size nothing has turned, so each reads as it did. -/
theorem trodAll_kept {H : Type} {enc : TypeId × Value → H} {P : Program} {W W' : World} (hl : laidOutB P = true) (hb : Below W.heap.size W W') (ts : List TypeId) :
    ∀ (vs : List Value) (ds : List (DataW H)) (ps : List MemPlace), (ts.all fun t => P.readableRec t && decide (t < P.types.size)) = true →
      DataW.TrodAll enc P W 0 (fun _ => true) true ts vs ds ps → DataW.TrodAll enc P W' 0 (fun b => decide (b < W.heap.size)) true ts vs ds ps := by
  induction ts with
  | nil =>
    intro vs ds ps _ h
    rcases vs with _ | ⟨v, vs⟩ <;> rcases ds with _ | ⟨d, ds⟩ <;> simp [DataW.TrodAll] at h ⊢
    exact h
  | cons t ts ih =>
    intro vs ds ps ht h
    rcases vs with _ | ⟨v, vs⟩
    · simp [DataW.TrodAll] at h
    rcases ds with _ | ⟨d, ds⟩
    · simp [DataW.TrodAll] at h
    obtain ⟨p, q, h1, h2, rfl⟩ := h
    simp only [List.all_cons, Bool.and_eq_true, decide_eq_true_eq] at ht
    have lt : ∀ x ∈ p, x.block < W.heap.size := by obtain ⟨m, hm⟩ := h1; exact DataW.trod_lt m _ _ _ hm
    exact ⟨p, q, Below.trod hl ht.1.1 ht.1.2 h1 hb lt, ih vs ds q ht.2 h2, rfl⟩
theorem trodAll_below {H : Type} {enc : TypeId × Value → H} {W W' : World} (hb : Below W.heap.size W W') (ts : List TypeId) (vs : List Value) (ds : List (DataW H)) (ps : List MemPlace)
    (ht : (ts.all fun t => Try.prog.readableRec t && decide (t < Try.prog.types.size)) = true) (h : DataW.TrodAll enc Try.prog W 0 (fun _ => true) true ts vs ds ps) :
    DataW.TrodAll enc Try.prog W' 0 (fun b => decide (b < W.heap.size)) true ts vs ds ps := trodAll_kept Try.laidOut hb ts vs ds ps ht h

/-- Numbers that came in. -/
theorem vec_core {H : Type} {enc : TypeId × Value → H} {W : World} {fuel : Nat} {cs : List Value} {x : DataW H × List MemPlace} (h : DataW.trod enc Try.prog W 0 (fun _ => true) true fuel 41 cs = some x) :
    ∃ A c xs, cs = [.slice A (List.length xs) c] ∧ Vec .i32 W A c xs := by
  rcases open_ints Try.underlying41 Try.underlying21 (by kernel_rfl) h with ⟨hcs, _⟩ | ⟨x, len, cap, zs, hcs, _, hl, hm, hz, _, hcell, hwz⟩
  · exact ⟨none, 0, [], hcs, Vec.nil _ _⟩
  · have hz' : zs.length = cap := by simpa using hz
    have hlen : (zs.take len).length = len := by simp; omega
    refine ⟨some x, cap, zs.take len, by rw [hlen]; exact hcs, ⟨by omega, by unfold maxLen at hm; omega, fun hp => ?_, fun b hb => hwz b (List.mem_of_mem_take hb)⟩⟩
    obtain ⟨b, off, spot⟩ := x
    have hc := hcell 0 (by omega)
    have hspot : spot = none := by simpa [Addr.add] using World.cell?_spot hc
    subst hspot
    have hc' : W.cell? ⟨b, off, none⟩ = some (.int .i32 (zs.getD 0 0)) := by simpa [Addr.add] using hc
    refine ⟨b, off, rfl, World.block_lt_of_cell? W _ hc', fun j hj => ?_⟩
    have h1 := hcell j (by omega)
    rw [Addr.add_lit] at h1
    rw [h1]
    have : j < len := by omega
    simp [List.getD, this]
theorem ver_core {H : Type} {enc : TypeId × Value → H} {W : World} {fuel : Nat} {cs : List Value} {x : DataW H × List MemPlace} (h : DataW.trod enc Try.prog W 0 (fun _ => true) true fuel 43 cs = some x) :
    ∃ b f A c xs, cs = [.int .u64 b, .int .u64 f, .slice A (List.length xs) c] ∧ (Lit.int .u64 b).wf = true ∧ (Lit.int .u64 f).wf = true ∧ Vec .i32 W A c xs := by
  have hu := Try.underlying43
  have hone := fun i f => hone_of (P := Try.prog) (fs := (match Try.prog.underlying 43 with | some (.struct fs) => fs | _ => #[])) (by kernel_rfl) i f
  rw [hu] at hone
  obtain ⟨ys, n, _, _, hlen, hy, hf⟩ := DataW.trod_struct hu h
  have h2 : Try.prog.cellsOf 43 = 3 := by kernel_rfl
  rw [h2] at hlen
  match cs, hlen with
  | [v0, v1, v2], _ =>
    have f0 : DataW.trod enc Try.prog W 0 (fun _ => true) true n 25 [v0] = ys[0]? := by have h1 := hf 0 _ rfl; obtain ⟨o1, k1⟩ := hone 0 _ rfl; rw [o1, k1] at h1; exact h1
    have f1 : DataW.trod enc Try.prog W 0 (fun _ => true) true n 25 [v1] = ys[1]? := by have h1 := hf 1 _ rfl; obtain ⟨o1, k1⟩ := hone 1 _ rfl; rw [o1, k1] at h1; exact h1
    have f2 : DataW.trod enc Try.prog W 0 (fun _ => true) true n 41 [v2] = ys[2]? := by have h1 := hf 2 _ rfl; obtain ⟨o1, k1⟩ := hone 2 _ rfl; rw [o1, k1] at h1; exact h1
    have g : ∀ (i : Nat) (hi : i < 3), ∃ y, ys[i]? = some y := fun i hi => ⟨_, List.getElem?_eq_getElem (by rw [hy]; exact hi)⟩
    obtain ⟨y0, e0⟩ := g 0 (by omega)
    obtain ⟨y1, e1⟩ := g 1 (by omega)
    obtain ⟨y2, e2⟩ := g 2 (by omega)
    rw [e0] at f0
    rw [e1] at f1
    rw [e2] at f2
    obtain ⟨a, ha, _, wa⟩ := DataW.trod_int Try.underlying25 f0
    obtain ⟨b, hb, _, wb⟩ := DataW.trod_int Try.underlying25 f1
    obtain ⟨A, c, xs, hc, hv⟩ := vec_core f2
    simp at ha hb hc
    subst ha
    subst hb
    subst hc
    exact ⟨a, b, A, c, xs, rfl, wa, wb, hv⟩


theorem open_ver {H : Type} {enc : TypeId × Value → H} {r : Reach} {b0 : Nat} {v : Value} {W : World} {d : DataW H} {p : List MemPlace} (hv : Value.okWide Try.prog W r b0 43 v) (h : DataW.Trod enc Try.prog W 0 (fun _ => true) true 43 v d p) :
    ∃ b f A c xs, v = .agg #[.int .u64 b, .int .u64 f, .slice A (List.length xs) c] ∧ U64s b ∧ U64s f ∧ Vec .i32 W A c xs := by
  obtain ⟨cs, rfl, _⟩ := okWide_struct Try.underlying43 hv
  obtain ⟨fuel, hf⟩ := h
  obtain ⟨b, f, A, c, xs, e, wb, wf, hx⟩ := ver_core (cs := cs.toList) (by simpa [Value.cells] using hf)
  exact ⟨b, f, A, c, xs, by congr 1; exact Array.toList_inj.1 e, wb, wf, hx⟩

theorem cell_core {H : Type} {enc : TypeId × Value → H} {W : World} {fuel : Nat} {cs : List Value} {x : DataW H × List MemPlace} (h : DataW.trod enc Try.prog W 0 (fun _ => true) true fuel 45 cs = some x) :
    ∃ p : Pa, cs = [.bool p.e.u, .int .u64 p.e.i, .int .u64 p.e.b, .int .u64 p.e.f, .slice p.B p.e.x.length p.c] ∧ Fit p.e ∧ Vec .i32 W p.B p.c p.e.x := by
  have hu := Try.underlying45
  obtain ⟨ys, n, _, _, hlen, hy, hf⟩ := DataW.trod_struct hu h
  have h5 : Try.prog.cellsOf 45 = 5 := by kernel_rfl
  have h3 : Try.prog.cellsOf 43 = 3 := by kernel_rfl
  have h1b : Try.prog.cellsOf 4 = 1 := by kernel_rfl
  have h1u : Try.prog.cellsOf 25 = 1 := by kernel_rfl
  rw [h5] at hlen
  match cs, hlen with
  | [v0, v1, v2, v3, v4], _ =>
    have f0 : DataW.trod enc Try.prog W 0 (fun _ => true) true n 4 [v0] = ys[0]? := by have h1 : DataW.trod enc Try.prog W 0 (fun _ => true) true n 4 (([v0, v1, v2, v3, v4].drop 0).take (Try.prog.cellsOf 4)) = ys[0]? := hf 0 _ rfl; rw [h1b] at h1; exact h1
    have f1 : DataW.trod enc Try.prog W 0 (fun _ => true) true n 25 [v1] = ys[1]? := by have h1 : DataW.trod enc Try.prog W 0 (fun _ => true) true n 25 (([v0, v1, v2, v3, v4].drop 1).take (Try.prog.cellsOf 25)) = ys[1]? := hf 1 _ rfl; rw [h1u] at h1; exact h1
    have f2 : DataW.trod enc Try.prog W 0 (fun _ => true) true n 43 [v2, v3, v4] = ys[2]? := by have h1 : DataW.trod enc Try.prog W 0 (fun _ => true) true n 43 (([v0, v1, v2, v3, v4].drop 2).take (Try.prog.cellsOf 43)) = ys[2]? := hf 2 _ rfl; rw [h3] at h1; exact h1
    have g : ∀ (i : Nat) (hi : i < 3), ∃ y, ys[i]? = some y := fun i hi => ⟨_, List.getElem?_eq_getElem (by rw [hy]; exact hi)⟩
    obtain ⟨y0, e0⟩ := g 0 (by omega)
    obtain ⟨y1, e1⟩ := g 1 (by omega)
    obtain ⟨y2, e2⟩ := g 2 (by omega)
    rw [e0] at f0
    rw [e1] at f1
    rw [e2] at f2
    obtain ⟨u, hu0, _⟩ := DataW.trod_bool Try.underlying4 f0
    obtain ⟨i, hi, _, wi⟩ := DataW.trod_int Try.underlying25 f1
    obtain ⟨b, f, A, c, xs, hc, wb, wf, hv⟩ := ver_core f2
    simp at hu0 hi hc
    obtain ⟨rfl, rfl, rfl⟩ := hc
    subst hu0
    subst hi
    exact ⟨⟨⟨u, i, b, f, xs⟩, A, c⟩, rfl, ⟨wi, wb, wf⟩, hv⟩

/-- Cells that came in. -/
theorem cells_core {H : Type} {enc : TypeId × Value → H} {W : World} {fuel : Nat} {cs : List Value} {x : DataW H × List MemPlace} (h : DataW.trod enc Try.prog W 0 (fun _ => true) true fuel 22 cs = some x) :
    ∃ A c q, cs = [.slice A (List.length q) c] ∧ Are W A c q := by
  have h5 : Try.prog.cellsOf 45 = 5 := by kernel_rfl
  rcases open_slice Try.underlying22 h with ⟨hcs, _⟩ | ⟨a, len, cap, m, nn, D, Ps, hcs, _, hl, hm, hmm, _, hi⟩
  · exact ⟨none, 0, [], hcs, Are.nil _⟩
  · have hmc : m = cap := by simpa using hmm
    subst hmc
    rw [h5] at hi
    have each : ∀ i, i < len → ∃ p : Pa, W.cell? (a.add (i * 5)) = some (.bool p.e.u) ∧ W.cell? ((a.add (i * 5)).add 1) = some (.int .u64 p.e.i) ∧ W.cell? ((a.add (i * 5)).add 2) = some (.int .u64 p.e.b) ∧ W.cell? ((a.add (i * 5)).add 3) = some (.int .u64 p.e.f) ∧ W.cell? ((a.add (i * 5)).add 4) = some (.slice p.B p.e.x.length p.c) ∧ Vec .i32 W p.B p.c p.e.x ∧ Fit p.e := fun i him => by
      obtain ⟨cs', hc, ht⟩ := hi i (by omega)
      obtain ⟨p, hcs', hfit, hv⟩ := cell_core ht
      obtain ⟨_, _, hat⟩ := World.cells?_some hc
      subst hcs'
      refine ⟨p, ?_, ?_, ?_, ?_, ?_, hv, hfit⟩
      · have := hat 0 (by omega); simpa [Addr.add] using this
      · simpa using hat 1 (by omega)
      · simpa using hat 2 (by omega)
      · simpa using hat 3 (by omega)
      · simpa using hat 4 (by omega)
    haveI : Inhabited Pa := ⟨pz⟩
    obtain ⟨f, hf⟩ := choose_lt each
    refine ⟨some a, m, (List.range len).map f, by simpa using hcs, by simpa using hl, by unfold maxLen at hm; omega, fun hp => ?_, fun p hp => ?_, fun p hp => ?_⟩
    · have hp' : 0 < len := by simpa using hp
      obtain ⟨b, off, spot⟩ := a
      obtain ⟨hc0, _⟩ := hf 0 hp'
      have hspot : spot = none := by simpa [Addr.add] using World.cell?_spot hc0
      subst hspot
      refine ⟨b, off, rfl, World.block_lt_of_cell? W _ (by simpa [Addr.add] using hc0), fun i p hip => ?_⟩
      have hil : i < len := by have := (List.getElem?_eq_some_iff.1 hip).1; simpa using this
      have hpe : f i = p := by simpa [hil] using hip
      obtain ⟨g0, g1, g2, g3, g4, _⟩ := hf i hil
      simp only [Addr.add_lit] at g0 g1 g2 g3 g4
      rw [hpe] at g0 g1 g2 g3 g4
      exact ⟨g0, g1, g2, g3, g4⟩
    · obtain ⟨i, hi', rfl⟩ := List.mem_map.1 hp
      exact (hf i (List.mem_range.1 hi')).2.2.2.2.2.1
    · obtain ⟨i, hi', rfl⟩ := List.mem_map.1 hp
      exact (hf i (List.mem_range.1 hi')).2.2.2.2.2.2
theorem open_cells {H : Type} {enc : TypeId × Value → H} {W : World} {a : Option Addr} {len cap : Nat} {d : DataW H} {p : List MemPlace}
    (h : DataW.Trod enc Try.prog W 0 (fun _ => true) true 22 (.slice a len cap) d p) : ∃ q : List Pa, q.length = len ∧ Are W a cap q := by
  obtain ⟨fuel, hf⟩ := h
  obtain ⟨A, c, l, hcs, hh⟩ := cells_core hf
  simp [Value.cells] at hcs
  obtain ⟨rfl, e, rfl⟩ := hcs
  exact ⟨l, e.symm, hh⟩
theorem open_arena {H : Type} {enc : TypeId × Value → H} {r : Reach} {b0 : Nat} {v : Value} {W : World} {d : DataW H} {p : List MemPlace} (hv : Value.okWide Try.prog W r b0 24 v) (h : DataW.Trod enc Try.prog W 0 (fun _ => true) true 24 v d p) :
    ∃ A c q, v = .agg #[.slice A (List.length q) c] ∧ Are W A c q := by
  obtain ⟨cs, rfl, _⟩ := okWide_struct Try.underlying24 hv
  obtain ⟨fuel, hf⟩ := h
  have hf' : DataW.trod enc Try.prog W 0 (fun _ => true) true fuel 24 cs.toList = some (d, p) := by simpa [Value.cells] using hf
  obtain ⟨ys, n, _, _, hlen, hy, hg⟩ := DataW.trod_struct Try.underlying24 hf'
  have h1 : Try.prog.cellsOf 24 = 1 := by kernel_rfl
  have h1s : Try.prog.cellsOf 22 = 1 := by kernel_rfl
  rw [h1] at hlen
  obtain ⟨l, hl⟩ : ∃ l, l = cs.toList := ⟨_, rfl⟩
  rw [← hl] at hlen hg
  match l, hlen with
  | [v0], _ =>
    have f0 : DataW.trod enc Try.prog W 0 (fun _ => true) true n 22 [v0] = ys[0]? := by have h1 : DataW.trod enc Try.prog W 0 (fun _ => true) true n 22 (([v0].drop 0).take (Try.prog.cellsOf 22)) = ys[0]? := hg 0 _ rfl; rw [h1s] at h1; exact h1
    obtain ⟨y0, e0⟩ : ∃ y, ys[0]? = some y := ⟨_, List.getElem?_eq_getElem (by rw [hy]; exact Nat.zero_lt_one)⟩
    rw [e0] at f0
    obtain ⟨A, c, q, hc, hh⟩ := cells_core f0
    refine ⟨A, c, q, ?_, hh⟩
    congr 1
    apply Array.toList_inj.1
    rw [← hl, hc]

theorem open_slots {H : Type} {enc : TypeId × Value → H} {W : World} {a : Option Addr} {len cap : Nat} {d : DataW H} {p : List MemPlace}
    (h : DataW.Trod enc Try.prog W 0 (fun _ => true) true 30 (.slice a len cap) d p) : ∃ xs : List Int, xs.length = len ∧ Vec .i64 W a cap xs := by
  obtain ⟨fuel, hf⟩ := h
  rcases open_ints Try.underlying30 Try.underlying3 (by kernel_rfl) hf with ⟨hcs, _⟩ | ⟨x, l, c, zs, hcs, _, hl, hm, hz, _, hcell, hwz⟩
  · simp [Value.cells] at hcs
    obtain ⟨rfl, rfl, rfl⟩ := hcs
    exact ⟨[], rfl, Vec.nil _ _⟩
  · simp [Value.cells] at hcs
    obtain ⟨rfl, rfl, rfl⟩ := hcs
    have hz' : zs.length = cap := by simpa using hz
    have hlen : (zs.take len).length = len := by simp; omega
    refine ⟨zs.take len, hlen, by omega, by unfold maxLen at hm; omega, fun hp => ?_, fun b hb => hwz b (List.mem_of_mem_take hb)⟩
    obtain ⟨b, off, spot⟩ := x
    have hc := hcell 0 (by omega)
    have hspot : spot = none := by simpa [Addr.add] using World.cell?_spot hc
    subst hspot
    have hc' : W.cell? ⟨b, off, none⟩ = some (.int .i64 (zs.getD 0 0)) := by simpa [Addr.add] using hc
    refine ⟨b, off, rfl, World.block_lt_of_cell? W _ hc', fun j hj => ?_⟩
    have h1 := hcell j (by omega)
    rw [Addr.add_lit] at h1
    rw [h1]
    have : j < len := by omega
    simp [List.getD, this]
theorem open_time {H : Type} {enc : TypeId × Value → H} {r : Reach} {b0 : Nat} {v : Value} {W : World} {d : DataW H} {p : List MemPlace} (hv : Value.okWide Try.prog W r b0 25 v) (h : DataW.Trod enc Try.prog W 0 (fun _ => true) true 25 v d p) :
    ∃ a, v = .int .u64 a ∧ U64s a := by
  obtain ⟨a, e, _, _, w⟩ := open_int Try.underlying25 hv h
  exact ⟨a, e, w⟩

end Go.Proofs.Ytpdebkpblpipcaa
