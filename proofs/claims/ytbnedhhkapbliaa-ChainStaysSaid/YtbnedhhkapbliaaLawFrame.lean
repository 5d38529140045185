/-
  For the rows of laws: arguments read behind a call that left all that was there as they read before it; chains, rows of chains, ops, numbers that came in.
-/
import Derived.Test.YtbnedhhkapbliaaRows
import Derived.Test.YtbnedhhkapbliaaChnWakes
import Derived.ProofKit
import Derived.OpenShut
import Derived.ChangeOld
import Derived.Deep.Matrix
import Derived.Deep.SlicePairs
import Derived.Deep.Fields
namespace Go.Proofs.Ytbnedhhkapbliaa
open Go.ChangeShapes Go.WideShapes Go.ChangeAt Go.RowKit Go.Deep
set_option linter.unusedVariables false
set_option linter.unusedSimpArgs false
set_option maxRecDepth 100000

theorem Try.own : ownKnob Try.prog.godebug = none := by kernel_rfl
theorem Try.laidOut : laidOutB Try.prog = true := by kernel_rfl

/-- All arguments at once: below the heap's old size nothing has turned, so each reads as it did. -/
theorem trodAll_kept {H : Type} {enc : TypeId × Value → H} {P : Program} {W W' : World} (hl : laidOutB P = true) (hb : Below W.heap.size W W') (ts : List TypeId) :
    ∀ (vs : List Value) (ds : List (DataW H)) (ps : List MemPlace), (ts.all fun t => P.readableRec t && decide (t < P.types.size)) = true →
      DataW.TrodAll enc P W 0 (fun _ => true) true ts vs ds ps → DataW.TrodAll enc P W' 0 (fun b => decide (b < W.heap.size)) true ts vs ds ps := by
  induction ts with
  | nil =>
    intro vs ds ps _ h
    rcases vs with _ | ⟨v, vs⟩ <;> rcases ds with _ | ⟨d, ds⟩ <;> simp [DataW.TrodAll] at h ⊢
    exact h
  | cons t ts ih =>
    intro vs ds ps ht h
    rcases vs with _ | ⟨v, vs⟩
    · simp [DataW.TrodAll] at h
    rcases ds with _ | ⟨d, ds⟩
    · simp [DataW.TrodAll] at h
    obtain ⟨p, q, h1, h2, rfl⟩ := h
    simp only [List.all_cons, Bool.and_eq_true, decide_eq_true_eq] at ht
    have lt : ∀ x ∈ p, x.block < W.heap.size := by obtain ⟨m, hm⟩ := h1; exact DataW.trod_lt m _ _ _ hm
    exact ⟨p, q, Below.trod hl ht.1.1 ht.1.2 h1 hb lt, ih vs ds q ht.2 h2, rfl⟩
theorem trodAll_below {H : Type} {enc : TypeId × Value → H} {W W' : World} (hb : Below W.heap.size W W') (ts : List TypeId) (vs : List Value) (ds : List (DataW H)) (ps : List MemPlace)
    (ht : (ts.all fun t => Try.prog.readableRec t && decide (t < Try.prog.types.size)) = true) (h : DataW.TrodAll enc Try.prog W 0 (fun _ => true) true ts vs ds ps) :
    DataW.TrodAll enc Try.prog W' 0 (fun b => decide (b < W.heap.size)) true ts vs ds ps := trodAll_kept Try.laidOut hb ts vs ds ps ht h

/-- Numbers that came in. -/
theorem vec_core {H : Type} {enc : TypeId × Value → H} {W : World} {fuel : Nat} {cs : List Value} {x : DataW H × List MemPlace} (h : DataW.trod enc Try.prog W 0 (fun _ => true) true fuel 27 cs = some x) :
    ∃ A c xs, cs = [.slice A (List.length xs) c] ∧ Vec .i32 W A c xs := by
  rcases open_ints Try.underlying27 Try.underlying21 (by kernel_rfl) h with ⟨hcs, _⟩ | ⟨x, len, cap, zs, hcs, _, hl, hm, hz, _, hcell, hwz⟩
  · exact ⟨none, 0, [], hcs, Vec.nil _ _⟩
  · have hz' : zs.length = cap := by simpa using hz
    have hlen : (zs.take len).length = len := by simp; omega
    refine ⟨some x, cap, zs.take len, by rw [hlen]; exact hcs, ⟨by omega, by unfold maxLen at hm; omega, fun hp => ?_, fun b hb => hwz b (List.mem_of_mem_take hb)⟩⟩
    obtain ⟨b, off, spot⟩ := x
    have hc := hcell 0 (by omega)
    have hspot : spot = none := by simpa [Addr.add] using World.cell?_spot hc
    subst hspot
    have hc' : W.cell? ⟨b, off, none⟩ = some (.int .i32 (zs.getD 0 0)) := by simpa [Addr.add] using hc
    refine ⟨b, off, rfl, World.block_lt_of_cell? W _ hc', fun j hj => ?_⟩
    have h1 := hcell j (by omega)
    rw [Addr.add_lit] at h1
    rw [h1]
    have : j < len := by omega
    simp [List.getD, this]
theorem ver_core {H : Type} {enc : TypeId × Value → H} {W : World} {fuel : Nat} {cs : List Value} {x : DataW H × List MemPlace} (h : DataW.trod enc Try.prog W 0 (fun _ => true) true fuel 35 cs = some x) :
    ∃ b f A c xs, cs = [.int .u64 b, .int .u64 f, .slice A (List.length xs) c] ∧ (Lit.int .u64 b).wf = true ∧ (Lit.int .u64 f).wf = true ∧ Vec .i32 W A c xs := by
  have hu := Try.underlying35
  have hone := fun i f => hone_of (P := Try.prog) (fs := (match Try.prog.underlying 35 with | some (.struct fs) => fs | _ => #[])) (by kernel_rfl) i f
  rw [hu] at hone
  obtain ⟨ys, n, _, _, hlen, hy, hf⟩ := DataW.trod_struct hu h
  have h2 : Try.prog.cellsOf 35 = 3 := by kernel_rfl
  rw [h2] at hlen
  match cs, hlen with
  | [v0, v1, v2], _ =>
    have f0 : DataW.trod enc Try.prog W 0 (fun _ => true) true n 26 [v0] = ys[0]? := by have h1 := hf 0 _ rfl; obtain ⟨o1, k1⟩ := hone 0 _ rfl; rw [o1, k1] at h1; exact h1
    have f1 : DataW.trod enc Try.prog W 0 (fun _ => true) true n 26 [v1] = ys[1]? := by have h1 := hf 1 _ rfl; obtain ⟨o1, k1⟩ := hone 1 _ rfl; rw [o1, k1] at h1; exact h1
    have f2 : DataW.trod enc Try.prog W 0 (fun _ => true) true n 27 [v2] = ys[2]? := by have h1 := hf 2 _ rfl; obtain ⟨o1, k1⟩ := hone 2 _ rfl; rw [o1, k1] at h1; exact h1
    have g : ∀ (i : Nat) (hi : i < 3), ∃ y, ys[i]? = some y := fun i hi => ⟨_, List.getElem?_eq_getElem (by rw [hy]; exact hi)⟩
    obtain ⟨y0, e0⟩ := g 0 (by omega)
    obtain ⟨y1, e1⟩ := g 1 (by omega)
    obtain ⟨y2, e2⟩ := g 2 (by omega)
    rw [e0] at f0
    rw [e1] at f1
    rw [e2] at f2
    obtain ⟨a, ha, _, wa⟩ := DataW.trod_int Try.underlying26 f0
    obtain ⟨b, hb, _, wb⟩ := DataW.trod_int Try.underlying26 f1
    obtain ⟨A, c, xs, hc, hv⟩ := vec_core f2
    simp at ha hb hc
    subst ha
    subst hb
    subst hc
    exact ⟨a, b, A, c, xs, rfl, wa, wb, hv⟩

/-- Versions that came in. -/
theorem chain_core {H : Type} {enc : TypeId × Value → H} {W : World} {fuel : Nat} {cs : List Value} {x : DataW H × List MemPlace} (h : DataW.trod enc Try.prog W 0 (fun _ => true) true fuel 22 cs = some x) :
    ∃ A c q, cs = [.slice A (List.length q) c] ∧ Chn W A c q := by
  have h3 : Try.prog.cellsOf 35 = 3 := by kernel_rfl
  rcases open_slice Try.underlying22 h with ⟨hcs, _⟩ | ⟨a, len, cap, m, nn, D, Ps, hcs, _, hl, hm, hmm, _, hi⟩
  · exact ⟨none, 0, [], hcs, Chn.nil _⟩
  · have hmc : m = cap := by simpa using hmm
    subst hmc
    rw [h3] at hi
    have each : ∀ i, i < len → ∃ p : Pl, W.cell? (a.add (i * 3)) = some (.int .u64 p.v.b) ∧ W.cell? ((a.add (i * 3)).add 1) = some (.int .u64 p.v.f) ∧ W.cell? ((a.add (i * 3)).add 2) = some (.slice p.B p.v.x.length p.c) ∧ Vec .i32 W p.B p.c p.v.x ∧ U64s p.v.b ∧ U64s p.v.f := fun i him => by
      obtain ⟨cs', hc, ht⟩ := hi i (by omega)
      obtain ⟨b, f, B, cb, xs, hcs', wb, wf, hv⟩ := ver_core ht
      obtain ⟨_, _, hat⟩ := World.cells?_some hc
      subst hcs'
      refine ⟨⟨⟨b, f, xs⟩, B, cb⟩, ?_, ?_, ?_, hv, wb, wf⟩
      · have := hat 0 (by omega); simpa [Addr.add] using this
      · simpa using hat 1 (by omega)
      · simpa using hat 2 (by omega)
    haveI : Inhabited Pl := ⟨⟨zv, none, 0⟩⟩
    obtain ⟨f, hf⟩ := choose_lt each
    refine ⟨some a, m, (List.range len).map f, by simpa using hcs, by simpa using hl, by unfold maxLen at hm; omega, fun hp => ?_, fun p hp => ?_, fun p hp => ?_⟩
    · have hp' : 0 < len := by simpa using hp
      obtain ⟨b, off, spot⟩ := a
      obtain ⟨hc0, _⟩ := hf 0 hp'
      have hspot : spot = none := by simpa [Addr.add] using World.cell?_spot hc0
      subst hspot
      refine ⟨b, off, rfl, World.block_lt_of_cell? W _ (by simpa [Addr.add] using hc0), fun i p hip => ?_⟩
      have hil : i < len := by have := (List.getElem?_eq_some_iff.1 hip).1; simpa using this
      have hpe : f i = p := by simpa [hil] using hip
      obtain ⟨g0, g1, g2, _⟩ := hf i hil
      simp only [Addr.add_lit] at g0 g1 g2
      rw [hpe] at g0 g1 g2
      exact ⟨g0, g1, g2⟩
    · obtain ⟨i, hi', rfl⟩ := List.mem_map.1 hp
      exact (hf i (List.mem_range.1 hi')).2.2.2.1
    · obtain ⟨i, hi', rfl⟩ := List.mem_map.1 hp
      exact (hf i (List.mem_range.1 hi')).2.2.2.2
theorem open_chain {H : Type} {enc : TypeId × Value → H} {W : World} {a : Option Addr} {len cap : Nat} {d : DataW H} {p : List MemPlace}
    (h : DataW.Trod enc Try.prog W 0 (fun _ => true) true 22 (.slice a len cap) d p) : ∃ q : List Pl, q.length = len ∧ Chn W a cap q := by
  obtain ⟨fuel, hf⟩ := h
  obtain ⟨A, c, l, hcs, hh⟩ := chain_core hf
  simp [Value.cells] at hcs
  obtain ⟨rfl, e, rfl⟩ := hcs
  exact ⟨l, e.symm, hh⟩

/-- Rows of chains. -/
structure Chs (w : World) (A : Option Addr) (c : Nat) (ls : List (Option Addr × Nat × List Pl)) : Prop where
  room : ls.length ≤ c
  most : c ≤ 9223372036854775807
  rd : 0 < ls.length → ∃ b o, A = some ⟨b, o, none⟩ ∧ b < w.heap.size ∧ ∀ i y, ls[i]? = some y → w.cell? ⟨b, o + i, none⟩ = some (.slice y.1 y.2.2.length y.2.1) ∧ Chn w y.1 y.2.1 y.2.2
theorem Chs.below {w w' : World} {A : Option Addr} {c : Nat} {ls : List (Option Addr × Nat × List Pl)} (h : Chs w A c ls) (hb : Below w.heap.size w w') : Chs w' A c ls := by
  refine ⟨h.room, h.most, fun hp => ?_⟩
  obtain ⟨b, o, e, hl, hc⟩ := h.rd hp
  exact ⟨b, o, e, Nat.lt_of_lt_of_le hl hb.size, fun i y hy => ⟨(hb.cell (p := ⟨b, o + i, none⟩) hl).trans (hc i y hy).1, (hc i y hy).2.below hb⟩⟩
theorem open_chains {H : Type} {enc : TypeId × Value → H} {W : World} {a : Option Addr} {len cap : Nat} {d : DataW H} {p : List MemPlace}
    (h : DataW.Trod enc Try.prog W 0 (fun _ => true) true 37 (.slice a len cap) d p) : ∃ ls, List.length ls = len ∧ Chs W a cap ls := by
  obtain ⟨fuel, hf⟩ := h
  rcases open_slice1 Try.underlying37 (by kernel_rfl) hf with ⟨hcs, _⟩ | ⟨a', len', cap', m, n, V, D, Ps, hcs, _, hl, hm, hmm, _, hx⟩
  · simp [Value.cells] at hcs
    obtain ⟨rfl, rfl, rfl⟩ := hcs
    exact ⟨[], rfl, by simp, by omega, fun h => absurd h (by simp)⟩
  · simp [Value.cells] at hcs
    obtain ⟨rfl, rfl, rfl⟩ := hcs
    have hmc : m = cap := by simpa using hmm
    subst hmc
    have each : ∀ r, r < len → ∃ y : Option Addr × Nat × List Pl, V r = .slice y.1 y.2.2.length y.2.1 ∧ Chn W y.1 y.2.1 y.2.2 := by
      intro r hr
      obtain ⟨A, c, l, e, hh⟩ := chain_core (hx r (by omega)).2
      exact ⟨(A, c, l), by simpa using e, hh⟩
    obtain ⟨y, hy⟩ := choose_lt each
    refine ⟨(List.range len).map y, by simp, by simpa using hl, by unfold maxLen at hm; omega, fun hp => ?_⟩
    have hlen : 0 < len := by simpa using hp
    obtain ⟨b, off, spot⟩ := a'
    have hc0 := (hx 0 (by omega)).1
    have hspot : spot = none := by simpa [Addr.add] using World.cell?_spot hc0
    subst hspot
    have hbl : b < W.heap.size := by
      have hc' : W.cell? ⟨b, off, none⟩ = some (V 0) := by simpa [Addr.add] using hc0
      exact World.block_lt_of_cell? W _ hc'
    refine ⟨b, off, rfl, hbl, fun i z hz => ?_⟩
    have hi : i < len := by have := (List.getElem?_eq_some_iff.1 hz).1; simpa using this
    have hzy : y i = z := by simpa [hi] using hz
    obtain ⟨e1, hh⟩ := hy i hi
    have h1 := (hx i (by omega)).1
    rw [Addr.add_lit, e1, hzy] at h1
    rw [hzy] at hh
    exact ⟨h1, hh⟩

/-- An op, and where its vector lies. -/
structure Opm where
  K : Int
  T : Int
  near : Bool
  B : Option Addr
  c : Nat
  x : List Int
theorem op_core {H : Type} {enc : TypeId × Value → H} {W : World} {fuel : Nat} {cs : List Value} {x : DataW H × List MemPlace} (h : DataW.trod enc Try.prog W 0 (fun _ => true) true fuel 29 cs = some x) :
    ∃ o : Opm, cs = [.int .i64 o.K, .int .u64 o.T, .bool o.near, .slice o.B o.x.length o.c] ∧ U64s o.T ∧ Vec .i32 W o.B o.c o.x := by
  have hu := Try.underlying29
  have hone := fun i f => hone_of (P := Try.prog) (fs := (match Try.prog.underlying 29 with | some (.struct fs) => fs | _ => #[])) (by kernel_rfl) i f
  rw [hu] at hone
  obtain ⟨ys, n, _, _, hlen, hy, hf⟩ := DataW.trod_struct hu h
  have h2 : Try.prog.cellsOf 29 = 4 := by kernel_rfl
  rw [h2] at hlen
  match cs, hlen with
  | [v0, v1, v2, v3], _ =>
    have f0 : DataW.trod enc Try.prog W 0 (fun _ => true) true n 3 [v0] = ys[0]? := by have h1 := hf 0 _ rfl; obtain ⟨o1, k1⟩ := hone 0 _ rfl; rw [o1, k1] at h1; exact h1
    have f1 : DataW.trod enc Try.prog W 0 (fun _ => true) true n 26 [v1] = ys[1]? := by have h1 := hf 1 _ rfl; obtain ⟨o1, k1⟩ := hone 1 _ rfl; rw [o1, k1] at h1; exact h1
    have f2 : DataW.trod enc Try.prog W 0 (fun _ => true) true n 4 [v2] = ys[2]? := by have h1 := hf 2 _ rfl; obtain ⟨o1, k1⟩ := hone 2 _ rfl; rw [o1, k1] at h1; exact h1
    have f3 : DataW.trod enc Try.prog W 0 (fun _ => true) true n 27 [v3] = ys[3]? := by have h1 := hf 3 _ rfl; obtain ⟨o1, k1⟩ := hone 3 _ rfl; rw [o1, k1] at h1; exact h1
    have g : ∀ (i : Nat) (hi : i < 4), ∃ y, ys[i]? = some y := fun i hi => ⟨_, List.getElem?_eq_getElem (by rw [hy]; exact hi)⟩
    obtain ⟨y0, e0⟩ := g 0 (by omega)
    obtain ⟨y1, e1⟩ := g 1 (by omega)
    obtain ⟨y2, e2⟩ := g 2 (by omega)
    obtain ⟨y3, e3⟩ := g 3 (by omega)
    rw [e0] at f0
    rw [e1] at f1
    rw [e2] at f2
    rw [e3] at f3
    obtain ⟨a, ha, _, wa⟩ := DataW.trod_int Try.underlying3 f0
    obtain ⟨b, hb, _, wb⟩ := DataW.trod_int Try.underlying26 f1
    obtain ⟨d, hd, _⟩ := DataW.trod_bool Try.underlying4 f2
    obtain ⟨A, c, xs, hc, hv⟩ := vec_core f3
    simp at ha hb hc hd
    subst ha
    subst hb
    subst hc
    subst hd
    exact ⟨⟨a, b, d, A, c, xs⟩, rfl, wb, hv⟩
theorem open_op {H : Type} {enc : TypeId × Value → H} {r : Reach} {b0 : Nat} {v : Value} {W : World} {d : DataW H} {p : List MemPlace} (hv : Value.okWide Try.prog W r b0 29 v) (h : DataW.Trod enc Try.prog W 0 (fun _ => true) true 29 v d p) :
    ∃ o : Opm, v = .agg #[.int .i64 o.K, .int .u64 o.T, .bool o.near, .slice o.B o.x.length o.c] ∧ U64s o.T ∧ Vec .i32 W o.B o.c o.x := by
  obtain ⟨cs, rfl, _⟩ := okWide_struct Try.underlying29 hv
  obtain ⟨fuel, hf⟩ := h
  obtain ⟨o, e, w, hx⟩ := op_core (cs := cs.toList) (by simpa [Value.cells] using hf)
  exact ⟨o, by congr 1; exact Array.toList_inj.1 e, w, hx⟩
/-- Rows of ops. -/
structure Opss (w : World) (A : Option Addr) (c : Nat) (os : List Opm) : Prop where
  room : os.length ≤ c
  most : c ≤ 9223372036854775807
  rd : 0 < os.length → ∃ b o, A = some ⟨b, o, none⟩ ∧ b < w.heap.size ∧ ∀ i y, os[i]? = some y → w.cell? ⟨b, o + i * 4, none⟩ = some (.int .i64 y.K) ∧ w.cell? ⟨b, o + i * 4 + 1, none⟩ = some (.int .u64 y.T) ∧ w.cell? ⟨b, o + i * 4 + 2, none⟩ = some (.bool y.near) ∧ w.cell? ⟨b, o + i * 4 + 3, none⟩ = some (.slice y.B y.x.length y.c) ∧ U64s y.T ∧ Vec .i32 w y.B y.c y.x
theorem Opss.below {w w' : World} {A : Option Addr} {c : Nat} {os : List Opm} (h : Opss w A c os) (hb : Below w.heap.size w w') : Opss w' A c os := by
  refine ⟨h.room, h.most, fun hp => ?_⟩
  obtain ⟨b, o, e, hl, hc⟩ := h.rd hp
  refine ⟨b, o, e, Nat.lt_of_lt_of_le hl hb.size, fun i y hy => ?_⟩
  obtain ⟨h0, h1, h2, h3, h4, h5⟩ := hc i y hy
  exact ⟨(hb.cell (p := ⟨b, o + i * 4, none⟩) hl).trans h0, (hb.cell (p := ⟨b, o + i * 4 + 1, none⟩) hl).trans h1, (hb.cell (p := ⟨b, o + i * 4 + 2, none⟩) hl).trans h2, (hb.cell (p := ⟨b, o + i * 4 + 3, none⟩) hl).trans h3, h4, h5.below hb⟩
theorem open_ops {H : Type} {enc : TypeId × Value → H} {W : World} {a : Option Addr} {len cap : Nat} {d : DataW H} {p : List MemPlace}
    (h : DataW.Trod enc Try.prog W 0 (fun _ => true) true 23 (.slice a len cap) d p) : ∃ os : List Opm, os.length = len ∧ Opss W a cap os := by
  obtain ⟨fuel, hf⟩ := h
  have h4 : Try.prog.cellsOf 29 = 4 := by kernel_rfl
  rcases open_slice Try.underlying23 hf with ⟨hcs, _⟩ | ⟨a', len', cap', m, nn, D, Ps, hcs, _, hl, hm, hmm, _, hi⟩
  · simp [Value.cells] at hcs
    obtain ⟨rfl, rfl, rfl⟩ := hcs
    exact ⟨[], rfl, by simp, by omega, fun h => absurd h (by simp)⟩
  · simp [Value.cells] at hcs
    obtain ⟨rfl, rfl, rfl⟩ := hcs
    have hmc : m = cap := by simpa using hmm
    subst hmc
    rw [h4] at hi
    have each : ∀ i, i < len → ∃ o : Opm, W.cell? (a'.add (i * 4)) = some (.int .i64 o.K) ∧ W.cell? ((a'.add (i * 4)).add 1) = some (.int .u64 o.T) ∧ W.cell? ((a'.add (i * 4)).add 2) = some (.bool o.near) ∧ W.cell? ((a'.add (i * 4)).add 3) = some (.slice o.B o.x.length o.c) ∧ U64s o.T ∧ Vec .i32 W o.B o.c o.x := fun i him => by
      obtain ⟨cs', hc, ht⟩ := hi i (by omega)
      obtain ⟨o, hcs', wt, hv⟩ := op_core ht
      obtain ⟨_, _, hat⟩ := World.cells?_some hc
      subst hcs'
      refine ⟨o, ?_, ?_, ?_, ?_, wt, hv⟩
      · have := hat 0 (by omega); simpa [Addr.add] using this
      · simpa using hat 1 (by omega)
      · simpa using hat 2 (by omega)
      · simpa using hat 3 (by omega)
    haveI : Inhabited Opm := ⟨⟨0, 0, false, none, 0, []⟩⟩
    obtain ⟨f, hf2⟩ := choose_lt each
    refine ⟨(List.range len).map f, by simp, by simpa using hl, by unfold maxLen at hm; omega, fun hp => ?_⟩
    have hp' : 0 < len := by simpa using hp
    obtain ⟨b, off, spot⟩ := a'
    obtain ⟨hc0, _⟩ := hf2 0 hp'
    have hspot : spot = none := by simpa [Addr.add] using World.cell?_spot hc0
    subst hspot
    refine ⟨b, off, rfl, World.block_lt_of_cell? W _ (by simpa [Addr.add] using hc0), fun i y hiy => ?_⟩
    have hil : i < len := by have := (List.getElem?_eq_some_iff.1 hiy).1; simpa using this
    have hpe : f i = y := by simpa [hil] using hiy
    obtain ⟨g0, g1, g2, g3, g4, g5⟩ := hf2 i hil
    simp only [Addr.add_lit] at g0 g1 g2 g3
    rw [hpe] at g0 g1 g2 g3 g4 g5
    exact ⟨g0, g1, g2, g3, g4, g5⟩

theorem open_times {H : Type} {enc : TypeId × Value → H} {W : World} {a : Option Addr} {len cap : Nat} {d : DataW H} {p : List MemPlace}
    (h : DataW.Trod enc Try.prog W 0 (fun _ => true) true 38 (.slice a len cap) d p) : ∃ xs : List Int, xs.length = len ∧ Vec .u64 W a cap xs := by
  obtain ⟨fuel, hf⟩ := h
  rcases open_ints Try.underlying38 Try.underlying26 (by kernel_rfl) hf with ⟨hcs, _⟩ | ⟨x, l, c, zs, hcs, _, hl, hm, hz, _, hcell, hwz⟩
  · simp [Value.cells] at hcs
    obtain ⟨rfl, rfl, rfl⟩ := hcs
    exact ⟨[], rfl, Vec.nil _ _⟩
  · simp [Value.cells] at hcs
    obtain ⟨rfl, rfl, rfl⟩ := hcs
    have hz' : zs.length = cap := by simpa using hz
    have hlen : (zs.take len).length = len := by simp; omega
    refine ⟨zs.take len, hlen, by omega, by unfold maxLen at hm; omega, fun hp => ?_, fun b hb => hwz b (List.mem_of_mem_take hb)⟩
    obtain ⟨b, off, spot⟩ := x
    have hc := hcell 0 (by omega)
    have hspot : spot = none := by simpa [Addr.add] using World.cell?_spot hc
    subst hspot
    have hc' : W.cell? ⟨b, off, none⟩ = some (.int .u64 (zs.getD 0 0)) := by simpa [Addr.add] using hc
    refine ⟨b, off, rfl, World.block_lt_of_cell? W _ hc', fun j hj => ?_⟩
    have h1 := hcell j (by omega)
    rw [Addr.add_lit] at h1
    rw [h1]
    have : j < len := by omega
    simp [List.getD, this]
theorem open_num {H : Type} {enc : TypeId × Value → H} {r : Reach} {b0 : Nat} {v : Value} {W : World} {d : DataW H} {p : List MemPlace} (hv : Value.okWide Try.prog W r b0 3 v) (h : DataW.Trod enc Try.prog W 0 (fun _ => true) true 3 v d p) :
    ∃ a, v = .int .i64 a ∧ (Lit.int .i64 a).wf = true := by
  obtain ⟨a, e, _, _, w⟩ := open_int Try.underlying3 hv h
  exact ⟨a, e, w⟩
theorem open_time {H : Type} {enc : TypeId × Value → H} {r : Reach} {b0 : Nat} {v : Value} {W : World} {d : DataW H} {p : List MemPlace} (hv : Value.okWide Try.prog W r b0 26 v) (h : DataW.Trod enc Try.prog W 0 (fun _ => true) true 26 v d p) :
    ∃ a, v = .int .u64 a ∧ U64s a := by
  obtain ⟨a, e, _, _, w⟩ := open_int Try.underlying26 hv h
  exact ⟨a, e, w⟩
theorem open_two {H : Type} {enc : TypeId × Value → H} {r : Reach} {b0 : Nat} {v : Value} {W : World} {d : DataW H} {p : List MemPlace} (hv : Value.okWide Try.prog W r b0 53 v) (h : DataW.Trod enc Try.prog W 0 (fun _ => true) true 53 v d p) :
    ∃ x y, v = .agg #[.int .u64 x, .int .u64 y] ∧ U64s x ∧ U64s y := by
  obtain ⟨cs, rfl⟩ : ∃ cs, v = .agg cs := by
    unfold Value.okWide at hv
    rw [Try.underlying53] at hv
    obtain ⟨cs, h, _⟩ := hv
    exact ⟨cs, h⟩
  obtain ⟨fuel, hf⟩ := h
  obtain ⟨ys, n, _, _, hlen, hy, hf⟩ := DataW.trod_array (cs := cs.toList) Try.underlying53 (by simpa [Value.cells] using hf)
  have h2 : Try.prog.cellsOf 53 = 2 := by kernel_rfl
  have h1 : Try.prog.cellsOf 26 = 1 := by kernel_rfl
  rw [h2] at hlen
  obtain ⟨l, hl⟩ : ∃ l, l = cs.toList := ⟨_, rfl⟩
  rw [← hl] at hlen hf
  match l, hlen with
  | [v0, v1], _ =>
    have f0 := hf 0 (by omega)
    have f1 := hf 1 (by omega)
    rw [h1] at f0 f1
    obtain ⟨y0, e0⟩ : ∃ y, ys[0]? = some y := ⟨_, List.getElem?_eq_getElem (by omega)⟩
    obtain ⟨y1, e1⟩ : ∃ y, ys[1]? = some y := ⟨_, List.getElem?_eq_getElem (by omega)⟩
    rw [e0] at f0
    rw [e1] at f1
    obtain ⟨a, ha, _, wa⟩ := DataW.trod_int Try.underlying26 f0
    obtain ⟨b, hb, _, wb⟩ := DataW.trod_int Try.underlying26 f1
    simp at ha hb
    subst ha
    subst hb
    refine ⟨a, b, ?_, wa, wb⟩
    congr 1
    exact Array.toList_inj.1 hl.symm

end Go.Proofs.Ytbnedhhkapbliaa
