/-
  For the rows of laws: arguments read behind a call as they read before it; ops, rows of ops, of numbers and of bools that came in.
-/
import Derived.Test.YthpbgejjfdgpaaaRows
import Derived.Test.YthpbgejjfdgpaaaOpRun
import Derived.ProofKit
import Derived.OpenShut
import Derived.ChangeOld
import Derived.Deep.Slices
import Derived.Deep.Fields
import Derived.Deep.Grids
namespace Go.Proofs.Ythpbgejjfdgpaaa
open Go.ChangeShapes Go.WideShapes Go.ChangeAt Go.RowKit Go.Deep
set_option linter.unusedVariables false
set_option maxRecDepth 100000

theorem Try.own : ownKnob Try.prog.godebug = none := by kernel_rfl
theorem Try.laidOut : laidOutB Try.prog = true := by kernel_rfl

/-- All arguments at once: below the heap's old size nothing has turned, so each reads as it did. -/
theorem trodAll_kept {H : Type} {enc : TypeId × Value → H} {P : Program} {W W' : World} (hl : laidOutB P = true) (hb : Below W.heap.size W W') (ts : List TypeId) :
    ∀ (vs : List Value) (ds : List (DataW H)) (ps : List MemPlace), (ts.all fun t => P.readableRec t && decide (t < P.types.size)) = true →
      DataW.TrodAll enc P W 0 (fun _ => true) true ts vs ds ps → DataW.TrodAll enc P W' 0 (fun b => decide (b < W.heap.size)) true ts vs ds ps := by
  induction ts with
  | nil =>
    intro vs ds ps _ h
    rcases vs with _ | ⟨v, vs⟩ <;> rcases ds with _ | ⟨d, ds⟩ <;> simp [DataW.TrodAll] at h ⊢
    exact h
  | cons t ts ih =>
    intro vs ds ps ht h
    rcases vs with _ | ⟨v, vs⟩
    · simp [DataW.TrodAll] at h
    rcases ds with _ | ⟨d, ds⟩
    · simp [DataW.TrodAll] at h
    obtain ⟨p, q, h1, h2, rfl⟩ := h
    simp only [List.all_cons, Bool.and_eq_true, decide_eq_true_eq] at ht
    have lt : ∀ x ∈ p, x.block < W.heap.size := by obtain ⟨m, hm⟩ := h1; exact DataW.trod_lt m _ _ _ hm
    exact ⟨p, q, Below.trod hl ht.1.1 ht.1.2 h1 hb lt, ih vs ds q ht.2 h2, rfl⟩
theorem trodAll_below {H : Type} {enc : TypeId × Value → H} {W W' : World} (hb : Below W.heap.size W W') (ts : List TypeId) (vs : List Value) (ds : List (DataW H)) (ps : List MemPlace)
    (ht : (ts.all fun t => Try.prog.readableRec t && decide (t < Try.prog.types.size)) = true) (h : DataW.TrodAll enc Try.prog W 0 (fun _ => true) true ts vs ds ps) :
    DataW.TrodAll enc Try.prog W' 0 (fun b => decide (b < W.heap.size)) true ts vs ds ps := trodAll_kept Try.laidOut hb ts vs ds ps ht h

section
variable {H : Type} {enc : TypeId × Value → H} {W : World}
theorem cell_lt {b o : Nat} {v : Value} (h : W.cell? ⟨b, o, none⟩ = some v) : b < W.heap.size := by
  rcases Nat.lt_or_ge b W.heap.size with h1 | h1
  · exact h1
  · simp [World.cell?, Array.getElem?_eq_none h1] at h

/-- Bytes, told by the cells of a slice. -/
theorem cells_bytes {fuel : Nat} {v : Value} {x : DataW H × List MemPlace} (h : DataW.trod enc Try.prog W 0 (fun _ => true) true fuel 28 [v] = some x) :
    ∃ A c bs, v = .slice A bs.length c ∧ Rd W W.heap.size A bs ∧ bs.length ≤ c ∧ c ≤ 9223372036854775807 := by
  rcases open_ints Try.underlying28 Try.underlying5 (by kernel_rfl) h with ⟨hcs, _⟩ | ⟨a, l, c, zs, hcs, _, hl, hm, hz, _, hcell, hwz⟩
  · simp only [List.cons.injEq, and_true] at hcs
    subst hcs
    exact ⟨none, 0, [], rfl, Rd.empty, by simp, by omega⟩
  · simp only [List.cons.injEq, and_true] at hcs
    subst hcs
    have hz' : zs.length = c := by simpa using hz
    have hlen : (zs.take l).length = l := by simp; omega
    refine ⟨some a, c, zs.take l, by rw [hlen], fun hp => ?_, by omega, by unfold maxLen at hm; omega⟩
    obtain ⟨b, off, spot⟩ := a
    have hc := hcell 0 (by omega)
    have hspot : spot = none := by simpa [Addr.add] using World.cell?_spot hc
    subst hspot
    have hc' : W.cell? ⟨b, off, none⟩ = some (.int .u8 (zs.getD 0 0)) := by simpa [Addr.add] using hc
    refine ⟨b, off, rfl, cell_lt hc', fun j hj => ?_⟩
    have h1 := hcell j (by omega)
    rw [Addr.add_lit] at h1
    rw [h1]
    have : j < l := by omega
    simp [List.getD, this]
theorem cells_bools {fuel : Nat} {v : Value} {x : DataW H × List MemPlace} (h : DataW.trod enc Try.prog W 0 (fun _ => true) true fuel 35 [v] = some x) :
    ∃ A c bs, v = .slice A bs.length c ∧ RdB W W.heap.size A bs ∧ bs.length ≤ c ∧ c ≤ 9223372036854775807 := by
  rcases open_bools Try.underlying35 Try.underlying4 (by kernel_rfl) h with ⟨hcs, _⟩ | ⟨a, l, c, Bf, hcs, _, hl, hm, _, hcell⟩
  · simp only [List.cons.injEq, and_true] at hcs
    subst hcs
    exact ⟨none, 0, [], rfl, fun hp => absurd hp (by simp), by simp, by omega⟩
  · simp only [List.cons.injEq, and_true] at hcs
    subst hcs
    have hlen : ((List.range l).map Bf).length = l := by simp
    refine ⟨some a, c, (List.range l).map Bf, by rw [hlen], fun hp => ?_, by omega, by unfold maxLen at hm; omega⟩
    obtain ⟨b, off, spot⟩ := a
    have hc := hcell 0 (by omega)
    have hspot : spot = none := by simpa [Addr.add] using World.cell?_spot hc
    subst hspot
    have hc' : W.cell? ⟨b, off, none⟩ = some (.bool (Bf 0)) := by simpa [Addr.add] using hc
    refine ⟨b, off, rfl, cell_lt hc', fun j hj => ?_⟩
    have h1 := hcell j (by omega)
    rw [Addr.add_lit] at h1
    rw [h1]
    have : j < l := by omega
    simp [List.getD, this]
theorem cells_ints {fuel : Nat} {v : Value} {x : DataW H × List MemPlace} (h : DataW.trod enc Try.prog W 0 (fun _ => true) true fuel 48 [v] = some x) :
    ∃ A c xs, v = .slice A xs.length c ∧ RdI W A xs ∧ xs.length ≤ c ∧ c ≤ 9223372036854775807 ∧ ∀ y ∈ xs, I64 y := by
  rcases open_ints Try.underlying48 Try.underlying3 (by kernel_rfl) h with ⟨hcs, _⟩ | ⟨a, l, c, zs, hcs, _, hl, hm, hz, _, hcell, hwz⟩
  · simp only [List.cons.injEq, and_true] at hcs
    subst hcs
    exact ⟨none, 0, [], rfl, fun hp => absurd hp (by simp), by simp, by omega, by simp⟩
  · simp only [List.cons.injEq, and_true] at hcs
    subst hcs
    have hz' : zs.length = c := by simpa using hz
    have hlen : (zs.take l).length = l := by simp; omega
    refine ⟨some a, c, zs.take l, by rw [hlen], fun hp => ?_, by omega, by unfold maxLen at hm; omega, fun y hy => hwz y (List.mem_of_mem_take hy)⟩
    obtain ⟨b, off, spot⟩ := a
    have hc := hcell 0 (by omega)
    have hspot : spot = none := by simpa [Addr.add] using World.cell?_spot hc
    subst hspot
    refine ⟨b, off, rfl, fun j hj => ?_⟩
    have h1 := hcell j (by omega)
    rw [Addr.add_lit] at h1
    rw [h1]
    have : j < l := by omega
    simp [List.getD, this]

/-- An op, told by its five cells. -/
theorem cells_op {fuel : Nat} {cs : List Value} {x : DataW H × List MemPlace} (h : DataW.trod enc Try.prog W 0 (fun _ => true) true fuel 37 cs = some x) :
    ∃ o A c K kc, cs = [.int .i64 o.kind, .int .i64 o.file, .int .i64 o.n, .slice A o.bs.length c, .slice K o.keep.length kc] ∧ o.Wf ∧ OpAt W W.heap.size o A c K kc := by
  have hu := Try.underlying37
  have hone := fun i f => hone_of (P := Try.prog) (fs := (match Try.prog.underlying 37 with | some (.struct fs) => fs | _ => #[])) (by kernel_rfl) i f
  rw [hu] at hone
  obtain ⟨ys, n, _, _, hlen, _, hf⟩ := DataW.trod_struct hu h
  have h5 : Try.prog.cellsOf 37 = 5 := by kernel_rfl
  rw [h5] at hlen
  match cs, hlen with
  | [v0, v1, v2, v3, v4], _ =>
    have f0 : DataW.trod enc Try.prog W 0 (fun _ => true) true n 3 [v0] = ys[0]? := by have h1 := hf 0 _ rfl; obtain ⟨o1, k1⟩ := hone 0 _ rfl; rw [o1, k1] at h1; exact h1
    have f1 : DataW.trod enc Try.prog W 0 (fun _ => true) true n 3 [v1] = ys[1]? := by have h1 := hf 1 _ rfl; obtain ⟨o1, k1⟩ := hone 1 _ rfl; rw [o1, k1] at h1; exact h1
    have f2 : DataW.trod enc Try.prog W 0 (fun _ => true) true n 3 [v2] = ys[2]? := by have h1 := hf 2 _ rfl; obtain ⟨o1, k1⟩ := hone 2 _ rfl; rw [o1, k1] at h1; exact h1
    have f3 : DataW.trod enc Try.prog W 0 (fun _ => true) true n 28 [v3] = ys[3]? := by have h1 := hf 3 _ rfl; obtain ⟨o1, k1⟩ := hone 3 _ rfl; rw [o1, k1] at h1; exact h1
    have f4 : DataW.trod enc Try.prog W 0 (fun _ => true) true n 35 [v4] = ys[4]? := by have h1 := hf 4 _ rfl; obtain ⟨o1, k1⟩ := hone 4 _ rfl; rw [o1, k1] at h1; exact h1
    have g : ∀ (i : Nat) (hi : i < 5), ∃ y, ys[i]? = some y := fun i hi => by
      have hl := ‹ys.length = _›
      exact ⟨_, List.getElem?_eq_getElem (by rw [hl]; exact hi)⟩
    obtain ⟨y0, e0⟩ := g 0 (by omega)
    obtain ⟨y1, e1⟩ := g 1 (by omega)
    obtain ⟨y2, e2⟩ := g 2 (by omega)
    obtain ⟨y3, e3⟩ := g 3 (by omega)
    obtain ⟨y4, e4⟩ := g 4 (by omega)
    rw [e0] at f0
    rw [e1] at f1
    rw [e2] at f2
    rw [e3] at f3
    rw [e4] at f4
    obtain ⟨kd, hk, _, wk⟩ := DataW.trod_int Try.underlying3 f0
    obtain ⟨fl, hfl, _, wf⟩ := DataW.trod_int Try.underlying3 f1
    obtain ⟨nn, hnn, _, wn⟩ := DataW.trod_int Try.underlying3 f2
    obtain ⟨A, c, bs, hb, hr, hc1, hc2⟩ := cells_bytes f3
    obtain ⟨K, kc, keep, hkp, hrk, hk1, hk2⟩ := cells_bools f4
    simp only [List.cons.injEq, and_true] at hk hfl hnn
    subst hk; subst hfl; subst hnn; subst hb; subst hkp
    exact ⟨⟨kd, fl, nn, bs, keep⟩, A, c, K, kc, rfl, ⟨wk, wf, wn⟩, ⟨hr, hrk, hc1, hc2, hk1, hk2, Nat.le_refl _⟩⟩

theorem open_op {r : Reach} {b0 : Nat} {v : Value} {d : DataW H} {p : List MemPlace} (hv : Value.okWide Try.prog W r b0 37 v) (h : DataW.Trod enc Try.prog W 0 (fun _ => true) true 37 v d p) :
    ∃ o A c K kc, v = opV o A c K kc ∧ o.Wf ∧ OpAt W W.heap.size o A c K kc := by
  obtain ⟨cs, rfl, _⟩ := okWide_struct Try.underlying37 hv
  obtain ⟨fuel, hf⟩ := h
  obtain ⟨o, A, c, K, kc, hcs, hw, ho⟩ := cells_op (cs := cs.toList) (by simpa [Value.cells] using hf)
  refine ⟨o, A, c, K, kc, ?_, hw, ho⟩
  unfold opV
  congr 1
  exact Array.toList_inj.1 hcs
theorem open_rooms {A : Option Addr} {len c : Nat} {d : DataW H} {p : List MemPlace} (h : DataW.Trod enc Try.prog W 0 (fun _ => true) true 48 (.slice A len c) d p) :
    ∃ xs : List Int, xs.length = len ∧ RdI W A xs ∧ len ≤ c ∧ c ≤ 9223372036854775807 ∧ ∀ y ∈ xs, I64 y := by
  obtain ⟨fuel, hf⟩ := h
  obtain ⟨A', c', xs, hv, h1, h2, h3, h4⟩ := cells_ints (v := .slice A len c) (by simpa [Value.cells] using hf)
  injection hv with e1 e2 e3
  subst e1; subst e3
  exact ⟨xs, e2.symm, h1, by omega, h3, h4⟩
theorem open_keep {A : Option Addr} {len c : Nat} {d : DataW H} {p : List MemPlace} (h : DataW.Trod enc Try.prog W 0 (fun _ => true) true 35 (.slice A len c) d p) :
    ∃ bs : List Bool, bs.length = len ∧ RdB W W.heap.size A bs ∧ len ≤ c ∧ c ≤ 9223372036854775807 := by
  obtain ⟨fuel, hf⟩ := h
  obtain ⟨A', c', xs, hv, h1, h2, h3⟩ := cells_bools (v := .slice A len c) (by simpa [Value.cells] using hf)
  injection hv with e1 e2 e3
  subst e1; subst e3
  exact ⟨xs, e2.symm, h1, by omega, h3⟩
end

/-- A row of ops that came in. -/
def OpsAt (W : World) (A : Option Addr) (os : List AO) : Prop :=
  0 < os.length → ∃ b off, A = some ⟨b, off, none⟩ ∧ ∀ i (hi : i < os.length), ∃ B cb K kc, W.cell? ⟨b, off + i * 5, none⟩ = some (.int .i64 os[i].kind) ∧ W.cell? ⟨b, off + i * 5 + 1, none⟩ = some (.int .i64 os[i].file) ∧ W.cell? ⟨b, off + i * 5 + 2, none⟩ = some (.int .i64 os[i].n) ∧
    W.cell? ⟨b, off + i * 5 + 3, none⟩ = some (.slice B os[i].bs.length cb) ∧ W.cell? ⟨b, off + i * 5 + 4, none⟩ = some (.slice K os[i].keep.length kc) ∧ os[i].Wf ∧ OpAt W W.heap.size os[i] B cb K kc

section
variable {H : Type} {enc : TypeId × Value → H} {W : World}
theorem add0 (x : Addr) : x.add 0 = x := by
  obtain ⟨b, o, s⟩ := x
  cases s <;> simp [Addr.add]
theorem open_ops {A : Option Addr} {len c : Nat} {d : DataW H} {p : List MemPlace} (h : DataW.Trod enc Try.prog W 0 (fun _ => true) true 22 (.slice A len c) d p) :
    ∃ os : List AO, os.length = len ∧ OpsAt W A os ∧ len ≤ c ∧ c ≤ 9223372036854775807 := by
  obtain ⟨fuel, hf⟩ := h
  have h5 : Try.prog.cellsOf 37 = 5 := by kernel_rfl
  rcases open_slice Try.underlying22 hf with ⟨hcs, _⟩ | ⟨a, l, cap, m, nn, D, Pl, hcs, _, hl, hm, hmm, _, hi⟩
  · simp [Value.cells] at hcs
    obtain ⟨rfl, rfl, rfl⟩ := hcs
    exact ⟨[], rfl, fun hp => absurd hp (by simp), by omega, by omega⟩
  · simp [Value.cells] at hcs
    obtain ⟨rfl, rfl, rfl⟩ := hcs
    have hmc : m = c := by simpa using hmm
    subst hmc
    rw [h5] at hi
    have each : ∀ i, i < len → ∃ (o : AO) (B : Option Addr) (cb : Nat) (K : Option Addr) (kc : Nat), W.cell? (a.add (i * 5)) = some (.int .i64 o.kind) ∧ W.cell? ((a.add (i * 5)).add 1) = some (.int .i64 o.file) ∧ W.cell? ((a.add (i * 5)).add 2) = some (.int .i64 o.n) ∧
        W.cell? ((a.add (i * 5)).add 3) = some (.slice B o.bs.length cb) ∧ W.cell? ((a.add (i * 5)).add 4) = some (.slice K o.keep.length kc) ∧ o.Wf ∧ OpAt W W.heap.size o B cb K kc := fun i him => by
      obtain ⟨cs', hc, ht⟩ := hi i (by omega)
      obtain ⟨o, B, cb, K, kc, hcs', hw, ho⟩ := cells_op ht
      obtain ⟨_, _, hat⟩ := World.cells?_some hc
      subst hcs'
      refine ⟨o, B, cb, K, kc, ?_, ?_, ?_, ?_, ?_, hw, ho⟩
      · have := hat 0 (by omega); rw [add0] at this; simpa using this
      · simpa using hat 1 (by omega)
      · simpa using hat 2 (by omega)
      · simpa using hat 3 (by omega)
      · simpa using hat 4 (by omega)
    obtain ⟨f, hf2⟩ : ∃ f : Nat → AO, ∀ i, i < len → ∃ (B : Option Addr) (cb : Nat) (K : Option Addr) (kc : Nat), W.cell? (a.add (i * 5)) = some (.int .i64 (f i).kind) ∧ W.cell? ((a.add (i * 5)).add 1) = some (.int .i64 (f i).file) ∧ W.cell? ((a.add (i * 5)).add 2) = some (.int .i64 (f i).n) ∧
        W.cell? ((a.add (i * 5)).add 3) = some (.slice B (f i).bs.length cb) ∧ W.cell? ((a.add (i * 5)).add 4) = some (.slice K (f i).keep.length kc) ∧ (f i).Wf ∧ OpAt W W.heap.size (f i) B cb K kc := by
      refine ⟨fun i => if h : i < len then Classical.choose (each i h) else ⟨0, 0, 0, [], []⟩, fun i h => ?_⟩
      simp only [h, dif_pos]
      exact Classical.choose_spec (each i h)
    refine ⟨(List.range len).map f, by simp, fun hp => ?_, by omega, by unfold maxLen at hm; omega⟩
    have hp' : 0 < len := by simpa using hp
    obtain ⟨b, off, spot⟩ := a
    obtain ⟨_, _, _, _, hc0, _⟩ := hf2 0 hp'
    have hspot : spot = none := by simpa [Addr.add] using World.cell?_spot hc0
    subst hspot
    refine ⟨b, off, rfl, fun i hi' => ?_⟩
    have hil : i < len := by simpa using hi'
    obtain ⟨B, cb, K, kc, h0, h1, h2, h3, h4, hw, ho⟩ := hf2 i hil
    simp only [Addr.add_lit] at h0 h1 h2 h3 h4
    simp only [List.getElem_map, List.getElem_range]
    exact ⟨B, cb, K, kc, h0, h1, h2, h3, h4, hw, ho⟩
end

end Go.Proofs.Ythpbgejjfdgpaaa
