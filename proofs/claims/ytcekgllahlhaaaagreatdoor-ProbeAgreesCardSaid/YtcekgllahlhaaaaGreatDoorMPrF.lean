/-
  PrbFrame, PrbRel.
-/
import Derived.Test.YtcekgllahlhaaaaGreatDoorMFrm
import Derived.Test.YtcekgllahlhaaaaGreatDoorMPrB
import Derived.Test.YtcekgllahlhaaaaGreatDoorMMsk
namespace Go.Proofs.YtcekgllahlhaaaaGreatDoor
open Go.ChangeShapes Go.WideShapes Go.ChangeAt Go.RowKit Go.Deep
set_option linter.unusedVariables false
set_option linter.unusedSimpArgs false
set_option maxRecDepth 100000

theorem query_core {H : Type} {enc : TypeId × Value → H} {W : World} {fuel : Nat} {cs : List Value} {x : DataW H × List MemPlace} (h : DataW.trod enc Tryz.prog W 0 (fun _ => true) true fuel 28 cs = some x) :
    ∃ A c xs k, cs = [.slice A (List.length xs) c, .int .i64 k] ∧ Vec .i32 W A c xs ∧ (Lit.int .i64 k).wf = true := by
  obtain ⟨ys, n, _, _, hlen, hy, hg⟩ := DataW.trod_struct Tryz.underlying28 h
  have h2 : Tryz.prog.cellsOf 28 = 2 := by kernel_rfl
  have h1v : Tryz.prog.cellsOf 26 = 1 := by kernel_rfl
  have h1i : Tryz.prog.cellsOf 3 = 1 := by kernel_rfl
  rw [h2] at hlen
  match cs, hlen with
  | [v0, v1], _ =>
    have f0 : DataW.trod enc Tryz.prog W 0 (fun _ => true) true n 26 [v0] = ys[0]? := by have h1 : DataW.trod enc Tryz.prog W 0 (fun _ => true) true n 26 (([v0, v1].drop 0).take (Tryz.prog.cellsOf 26)) = ys[0]? := hg 0 _ rfl; rw [h1v] at h1; exact h1
    have f1 : DataW.trod enc Tryz.prog W 0 (fun _ => true) true n 3 [v1] = ys[1]? := by have h1 : DataW.trod enc Tryz.prog W 0 (fun _ => true) true n 3 (([v0, v1].drop 1).take (Tryz.prog.cellsOf 3)) = ys[1]? := hg 1 _ rfl; rw [h1i] at h1; exact h1
    obtain ⟨y0, e0⟩ : ∃ y, ys[0]? = some y := ⟨_, List.getElem?_eq_getElem (by rw [hy]; exact Nat.lt_of_lt_of_le Nat.zero_lt_one (by decide))⟩
    obtain ⟨y1, e1⟩ : ∃ y, ys[1]? = some y := ⟨_, List.getElem?_eq_getElem (by rw [hy]; decide)⟩
    rw [e0] at f0
    rw [e1] at f1
    obtain ⟨A, c, xs, hc, hx⟩ := vec_core f0
    obtain ⟨k, hk, _, wk⟩ := DataW.trod_int Tryz.underlying3 f1
    simp at hc hk
    subst hc
    subst hk
    exact ⟨A, c, xs, k, rfl, hx, wk⟩
/-- A probe, and where its vector lies. -/
structure Pb where
  x : List Int
  B : Option Addr
  c : Nat
  k : Int
  t : Int
  n : Int
theorem probe_core {H : Type} {enc : TypeId × Value → H} {W : World} {fuel : Nat} {cs : List Value} {x : DataW H × List MemPlace} (h : DataW.trod enc Tryz.prog W 0 (fun _ => true) true fuel 31 cs = some x) :
    ∃ p : Pb, cs = [.slice p.B p.x.length p.c, .int .i64 p.k, .int .u64 p.t, .int .i64 p.n] ∧ Vec .i32 W p.B p.c p.x := by
  obtain ⟨ys, n, _, _, hlen, hy, hg⟩ := DataW.trod_struct Tryz.underlying31 h
  have h4 : Tryz.prog.cellsOf 31 = 4 := by kernel_rfl
  have h2q : Tryz.prog.cellsOf 28 = 2 := by kernel_rfl
  have h1u : Tryz.prog.cellsOf 29 = 1 := by kernel_rfl
  have h1i : Tryz.prog.cellsOf 3 = 1 := by kernel_rfl
  rw [h4] at hlen
  match cs, hlen with
  | [v0, v1, v2, v3], _ =>
    have f0 : DataW.trod enc Tryz.prog W 0 (fun _ => true) true n 28 [v0, v1] = ys[0]? := by have h1 : DataW.trod enc Tryz.prog W 0 (fun _ => true) true n 28 (([v0, v1, v2, v3].drop 0).take (Tryz.prog.cellsOf 28)) = ys[0]? := hg 0 _ rfl; rw [h2q] at h1; exact h1
    have f1 : DataW.trod enc Tryz.prog W 0 (fun _ => true) true n 29 [v2] = ys[1]? := by have h1 : DataW.trod enc Tryz.prog W 0 (fun _ => true) true n 29 (([v0, v1, v2, v3].drop 2).take (Tryz.prog.cellsOf 29)) = ys[1]? := hg 1 _ rfl; rw [h1u] at h1; exact h1
    have f2 : DataW.trod enc Tryz.prog W 0 (fun _ => true) true n 3 [v3] = ys[2]? := by have h1 : DataW.trod enc Tryz.prog W 0 (fun _ => true) true n 3 (([v0, v1, v2, v3].drop 3).take (Tryz.prog.cellsOf 3)) = ys[2]? := hg 2 _ rfl; rw [h1i] at h1; exact h1
    have g : ∀ (i : Nat) (hi : i < 3), ∃ y, ys[i]? = some y := fun i hi => ⟨_, List.getElem?_eq_getElem (by rw [hy]; exact hi)⟩
    obtain ⟨y0, e0⟩ := g 0 (by omega)
    obtain ⟨y1, e1⟩ := g 1 (by omega)
    obtain ⟨y2, e2⟩ := g 2 (by omega)
    rw [e0] at f0
    rw [e1] at f1
    rw [e2] at f2
    obtain ⟨A, c, xs, k, hc, hx, _⟩ := query_core f0
    obtain ⟨t, ht, _, _⟩ := DataW.trod_int Tryz.underlying29 f1
    obtain ⟨m, hm, _, _⟩ := DataW.trod_int Tryz.underlying3 f2
    simp at hc ht hm
    obtain ⟨hc0, hc1⟩ := hc
    subst hc0
    subst hc1
    subst ht
    subst hm
    exact ⟨⟨xs, A, c, k, t, m⟩, rfl, hx⟩
theorem open_probe {H : Type} {enc : TypeId × Value → H} {r : Reach} {b0 : Nat} {v : Value} {W : World} {d : DataW H} {p : List MemPlace} (hv : Value.okWide Tryz.prog W r b0 31 v) (h : DataW.Trod enc Tryz.prog W 0 (fun _ => true) true 31 v d p) :
    ∃ z : Pb, v = pv z.B z.x.length z.c z.k z.t z.n ∧ Vec .i32 W z.B z.c z.x := by
  obtain ⟨cs, rfl, _⟩ := okWide_struct Tryz.underlying31 hv
  obtain ⟨fuel, hf⟩ := h
  have hf' : DataW.trod enc Tryz.prog W 0 (fun _ => true) true fuel 31 cs.toList = some (d, p) := by simpa [Value.cells] using hf
  obtain ⟨z, hz, hv⟩ := probe_core hf'
  refine ⟨z, ?_, hv⟩
  unfold pv
  congr 1
  exact Array.toList_inj.1 hz

/-- Probes that can be read. -/
structure Pbs (w : World) (A : Option Addr) (c : Nat) (q : List Pb) : Prop where
  room : q.length ≤ c
  most : c ≤ 9223372036854775807
  rd : 0 < q.length → ∃ b o, A = some ⟨b, o, none⟩ ∧ b < w.heap.size ∧ ∀ i p, q[i]? = some p → w.cell? ⟨b, o + i * 4, none⟩ = some (.slice p.B p.x.length p.c) ∧ w.cell? ⟨b, o + i * 4 + 1, none⟩ = some (.int .i64 p.k) ∧ w.cell? ⟨b, o + i * 4 + 2, none⟩ = some (.int .u64 p.t) ∧ w.cell? ⟨b, o + i * 4 + 3, none⟩ = some (.int .i64 p.n)
  el : ∀ p ∈ q, Vec .i32 w p.B p.c p.x
theorem Pbs.below {w w' : World} {A : Option Addr} {c : Nat} {q : List Pb} (h : Pbs w A c q) (hb : Below w.heap.size w w') : Pbs w' A c q := by
  refine ⟨h.room, h.most, fun hp => ?_, fun p hp => (h.el p hp).below hb⟩
  obtain ⟨b, o, e, hbl, hc⟩ := h.rd hp
  refine ⟨b, o, e, Nat.lt_of_lt_of_le hbl hb.size, fun i p hi => ?_⟩
  obtain ⟨h0, h1, h2, h3⟩ := hc i p hi
  exact ⟨(hb.cell (p := ⟨b, o + i * 4, none⟩) hbl).trans h0, (hb.cell (p := ⟨b, o + i * 4 + 1, none⟩) hbl).trans h1, (hb.cell (p := ⟨b, o + i * 4 + 2, none⟩) hbl).trans h2, (hb.cell (p := ⟨b, o + i * 4 + 3, none⟩) hbl).trans h3⟩
theorem Pbs.at_ {w : World} {A : Option Addr} {c : Nat} {q : List Pb} (h : Pbs w A c q) {i : Nat} (hi : i < q.length) : ∃ b o p, A = some ⟨b, o, none⟩ ∧ q[i]? = some p ∧ b < w.heap.size ∧ (w.cell? ⟨b, o + i * 4, none⟩ = some (.slice p.B p.x.length p.c) ∧ w.cell? ⟨b, o + i * 4 + 1, none⟩ = some (.int .i64 p.k) ∧ w.cell? ⟨b, o + i * 4 + 2, none⟩ = some (.int .u64 p.t) ∧ w.cell? ⟨b, o + i * 4 + 3, none⟩ = some (.int .i64 p.n)) ∧ Vec .i32 w p.B p.c p.x := by
  obtain ⟨b, o, e, hb, hc⟩ := h.rd (by omega)
  have hp := List.getElem?_eq_getElem hi
  exact ⟨b, o, _, e, hp, hb, hc i _ hp, h.el _ (List.getElem_mem hi)⟩
theorem Pbs.nil (w : World) : Pbs w none 0 [] := ⟨by simp, by omega, fun h => absurd h (by simp), by simp⟩
end Go.Proofs.YtcekgllahlhaaaaGreatDoor

namespace Go.Proofs.YtcekgllahlhaaaaGreatDoor
namespace MskL
open Go.RowKit Go.Shelf
set_option linter.unusedVariables false
set_option linter.unusedSimpArgs false
set_option maxRecDepth 100000

def relG (L : List (Value → World → Prop)) (i : Nat) : Value → World → Prop := L.getD i (fun _ _ => True)
theorem relG_stable {L : List (Value → World → Prop)} (hst : ∀ r ∈ L, ∀ v w w', r v w → Below w.heap.size w w' → r v w') (i : Nat) {v : Value} {w w' : World} (h : relG L i v w) (hb : Below w.heap.size w w') : relG L i v w' := by
  unfold relG at *
  rw [List.getD_eq_getElem?_getD] at *
  cases hL : L[i]? with
  | none => trivial
  | some r => rw [hL] at h; exact hst r (List.mem_of_getElem? hL) v w w' h hb
theorem depG_of {o : Oper} {L : List (Value → World → Prop)} {f : Nat → Value} {w : World} (hd : ∀ e ∈ o.after, Region.binds .any e = true → relG L e.on (f e.on) w) (k : Nat) (h : (o.after.any fun e => Region.binds .any e && e.on == k) = true) : relG L k (f k) w := by
  obtain ⟨i, hi, he⟩ := Array.any_eq_true.1 h
  simp only [Bool.and_eq_true, beq_iff_eq] at he
  have := hd _ (Array.getElem_mem hi) he.1
  rw [he.2] at this
  exact this
theorem region_relG {P : Program} {Q : Exit → Act → World → Prop} {id : Nat} {l : List Oper} {a : Act} {w : World} (C : World → Prop) (L : List (Value → World → Prop)) (t m : Nat) (hst : ∀ r ∈ L, ∀ v w w', r v w → Below w.heap.size w w' → r v w') (hm : P.follows .mixedOrders = true) (hC : C { w with drawn := w.drawn + 1 })
    (htm : t + m = l.length) (hm0 : 0 < m) (hap : apartR l = true) (hbd : boundR 0 l = true) (hsz : (l.all fun o => match o.dst with | some t => decide (t < a.tmps.size) | none => true) = true)
    (hseq : seqB (t + 1) (l.drop (t + 1)) = true) (hall : ((List.range t).all fun k => depT l t t k) = true)
    (how : allR (fun j o => OweR P Q l C (relG L) a j o) 0 (l.take t)) (hend : ∀ f w, C w → (∀ j, j < t → relG L j (f j) w) → wpOps P l.toArray Q ((List.range m).map (· + t)) (fillR 0 l f a) w) : (Code.region id l.toArray true).wp P Q a w := by
  obtain ⟨f0, hf0⟩ := fillR_self l 0 a (fun o ho t ht => by
    have := List.all_eq_true.1 hsz o ho
    rw [ht] at this
    simpa using this)
  have hb := boundR_spec l 0 hbd
  refine wp_region_any hm ?_
  have hsize : l.toArray.size = l.length := by simp
  rw [hsize, ← hf0]
  refine rel_tail (R := relG L) l t m htm hm0 a (fun i v w w' h hb => relG_stable hst i h hb) hap (fun j o ho e he hbb => by have := hb j o ho e he hbb; omega)
    (fun j o hj ho => ?_) (fun k hk => List.all_eq_true.1 hall k (List.mem_range.2 hk)) (fun j o hj ho => ?_) hend l.length _ f0 _ (by simp) ?_ hC (fun j hj hl => ?_) (fun j hj hjl => by simp [Array.getD, hjl]) (fun j o ho hl => ?_)
  · obtain ⟨e, he, hbb, hq⟩ := seqB_spec _ (t + 1) hseq (j - (t + 1)) o (by rw [List.getElem?_drop, show t + 1 + (j - (t + 1)) = j by omega]; exact ho)
    exact ⟨e, he, hbb, by omega⟩
  · have := allR_of _ (l.take t) 0 how j o (by rw [List.getElem?_take, if_pos hj]; exact ho)
    rw [Nat.zero_add] at this
    exact this
  · unfold left
    exact Nat.le_trans (List.length_filter_le _ _) (by simp)
  · simp [Array.getD, show j < l.length by omega] at hl
  · have hjl : j < l.length := (List.getElem?_eq_some_iff.1 ho).1
    simp [Array.getD, hjl] at hl
theorem region_relH {P : Program} {Q : Exit → Act → World → Prop} {id : Nat} {l : List Oper} {a : Act} {w : World} (C : World → Prop) (L : List (Value → World → Prop)) (hst : ∀ r ∈ L, ∀ v w w', r v w → Below w.heap.size w w' → r v w') (hm : P.follows .mixedOrders = true) (hC : C { w with drawn := w.drawn + 1 })
    (hap : apartR l = true) (hbd : boundR 0 l = true) (hsz : (l.all fun o => match o.dst with | some t => decide (t < a.tmps.size) | none => true) = true)
    (how : allR (fun j o => OweR P Q l C (relG L) a j o) 0 l) (hend : ∀ f w, C w → (∀ j, j < l.length → relG L j (f j) w) → Q .normal (fillR 0 l f a) w) : (Code.region id l.toArray true).wp P Q a w :=
  region_rel C (relG L) hm hC (fun i v w w' h hb => relG_stable hst i h hb) hap hbd hsz (fun j o ho => by have := allR_of _ l 0 how j o ho; rw [Nat.zero_add] at this; exact this) hend
end MskL
set_option linter.unusedVariables false
set_option linter.unusedSimpArgs false
open Go.RowKit Go.Shelf
def r3hits (b m : Nat) (L : List TopL.HitM) (v : Value) (w : World) : Prop := ∃ A c, v = .slice A m c ∧ OwnH b w A c L
def r3pair (b m : Nat) (L : List TopL.HitM) (E : Int) (v : Value) (w : World) : Prop := ∃ A c, v = .tuple #[.slice A m c, .int .i64 E] ∧ OwnH b w A c L

theorem below_tr {a b c : World} (h : Below a.heap.size a b) (k : Below b.heap.size b c) : Below a.heap.size a c := h.trans (k.mono h.size)
/-- What the first region of a law leaves: rows, vectors, a probe, and the probe's box. -/
def r3rows (b : Nat) (l : List Rv) (v : Value) (w : World) : Prop := ∃ A c q, v = .slice A (List.length q) c ∧ rvs q = l ∧ OwnRs b w A c q
def r3vecs (b : Nat) (C : List (List Int)) (v : Value) (w : World) : Prop := ∃ A c q, v = .slice A C.length c ∧ vals q = C ∧ OwnVs b w A c q
def r3some (b : Nat) (x : List Int) (kq ts N : Int) (v : Value) (w : World) : Prop := ∃ A c, v = pv A x.length c kq ts N ∧ OwnV b w A c x
def r3box (s : Nat) (v : Value) (w : World) : Prop := ∃ g, v = .pointer (some ⟨g, 0, none⟩) ∧ s ≤ g ∧ w.heap[g]? = some (.cells #[.slice none 0 0, .int .i64 0, .int .u64 0, .int .i64 0] 31 (0, 0))
def r3 (a0 a2 a4 : Value) (l : List Rv) (C : List (List Int)) (x : List Int) (kq ts N : Int) (s : Nat) : List (Value → World → Prop) :=
  [fun v _ => v = a0, r3rows s l, fun v _ => v = a2, r3vecs s C, fun v _ => v = a4, r3some s x kq ts N, r3box s]
theorem r3_stable (a0 a2 a4 : Value) (l : List Rv) (C : List (List Int)) (x : List Int) (kq ts N : Int) (s : Nat) : ∀ r ∈ r3 a0 a2 a4 l C x kq ts N s, ∀ v w w', r v w → Below w.heap.size w w' → r v w' := by
  intro r hr v w w' h hb
  simp only [r3, List.mem_cons, List.mem_nil_iff, or_false] at hr
  rcases hr with rfl | rfl | rfl | rfl | rfl | rfl | rfl
  · exact h
  · obtain ⟨A, c, q, h1, h2, h3⟩ := h; exact ⟨A, c, q, h1, h2, h3.below hb⟩
  · exact h
  · obtain ⟨A, c, q, h1, h2, h3⟩ := h; exact ⟨A, c, q, h1, h2, h3.below hb⟩
  · exact h
  · obtain ⟨A, c, h1, h2⟩ := h; exact ⟨A, c, h1, h2.below hb⟩
  · obtain ⟨g, h1, h2, h3⟩ := h; exact ⟨g, h1, h2, (hb.block _ (lt_of_block h3)).trans h3⟩

/-- Four cells laid anew, one by one. -/
def put4 (w : World) (g : Nat) (v0 v1 v2 v3 : Value) : World := (((w.setCell ⟨g, 0, none⟩ v0).setCell ⟨g, 1, none⟩ v1).setCell ⟨g, 2, none⟩ v2).setCell ⟨g, 3, none⟩ v3
theorem set4 {w : World} {g : Nat} {a0 a1 a2 a3 : Value} {t : TypeId} (h : w.heap[g]? = some (.cells #[a0, a1, a2, a3] t (0, 0))) (v0 v1 v2 v3 : Value) : (put4 w g v0 v1 v2 v3).heap[g]? = some (.cells #[v0, v1, v2, v3] t (0, 0)) := by
  have h1 := heap_setCell_same w g 0 _ _ v0 h
  have h2 := heap_setCell_same _ g 1 _ _ v1 h1
  have h3 := heap_setCell_same _ g 2 _ _ v2 h2
  exact heap_setCell_same _ g 3 _ _ v3 h3
theorem put4_turn (w : World) (g : Nat) (v0 v1 v2 v3 : Value) : Turn (fun i => i = g) w (put4 w g v0 v1 v2 v3) := by
  have t := fun (X : World) (j : Nat) (v : Value) => turn_set X g j v
  unfold put4
  exact (((t _ _ _).trans (t _ _ _) (fun i hi => .inl hi)).trans (t _ _ _) (fun i hi => .inl hi)).trans (t _ _ _) (fun i hi => .inl hi)
theorem row_apart {w : World} {base size n g : Nat} {e t : TypeId} {v : Value} {xs : List Value} {cs : Array Value} (h : w.ownsRow base e size v n xs) (hx : w.heap[g]? = some (.cells cs t (0, 0))) (ht : t ≠ e) : ∀ i, v.ownBlock = some i → i ≠ g := by
  intro i hi e1
  subst e1
  rcases h.2 with ⟨e', _⟩ | ⟨g', cap, cur, e', _, hh, _⟩
  · rw [e'] at hi; cases hi
  · rw [e'] at hi
    have : g' = i := by simpa [Value.ownBlock] using hi
    subst this
    rw [hx] at hh
    injection hh with hh
    injection hh with _ h2 _
    exact ht h2
/-- A box of a probe is none of theirs. -/
theorem OwnRs.box {base g : Nat} {w w' : World} {A : Option Addr} {c : Nat} {q : List Pr} {cs : Array Value} (h : OwnRs base w A c q) (hx : w.heap[g]? = some (.cells cs 31 (0, 0))) (ht : Turn (fun i => i = g) w w') : OwnRs base w' A c q :=
  ⟨row_turn h.row ht (row_apart h.row hx (by decide)), fun p hp => ⟨row_turn (h.el p hp).1 ht (row_apart (h.el p hp).1 hx (by decide)), (h.el p hp).2⟩, h.fit⟩
theorem OwnVs.box {base g : Nat} {w w' : World} {A : Option Addr} {c : Nat} {q : List Pv} {cs : Array Value} (h : OwnVs base w A c q) (hx : w.heap[g]? = some (.cells cs 31 (0, 0))) (ht : Turn (fun i => i = g) w w') : OwnVs base w' A c q :=
  ⟨row_turn h.row ht (row_apart h.row hx (by decide)), fun p hp => ⟨row_turn (h.el p hp).1 ht (row_apart (h.el p hp).1 hx (by decide)), (h.el p hp).2⟩⟩
theorem OwnV.box {base g : Nat} {w w' : World} {A : Option Addr} {c : Nat} {x : List Int} {cs : Array Value} (h : OwnV base w A c x) (hx : w.heap[g]? = some (.cells cs 31 (0, 0))) (ht : Turn (fun i => i = g) w w') : OwnV base w' A c x := ⟨row_turn h.1 ht (row_apart h.1 hx (by decide)), h.2⟩
/-- What lies while a law goes on: rows, vectors, a vector, and the probe's box with the number N. -/
structure R3 (w1 : World) (A1 : Option Addr) (c1 : Nat) (q1 : List Pr) (A2 : Option Addr) (c2 : Nat) (q2 : List Pv) (A3 : Option Addr) (c3 : Nat) (v : List Int) (gq : Nat) (k t : Int) (N : Int) (X : World) : Prop where
  rs : OwnRs w1.heap.size X A1 c1 q1
  vs : OwnVs w1.heap.size X A2 c2 q2
  vv : OwnV w1.heap.size X A3 c3 v
  bx : X.heap[gq]? = some (.cells #[.slice A3 (List.length v) c3, .int .i64 k, .int .u64 t, .int .i64 N] 31 (0, 0))
  ge : w1.heap.size ≤ gq
  bel : Below w1.heap.size w1 X
section
variable {w1 X Y : World} {A1 A2 A3 : Option Addr} {c1 c2 c3 gq : Nat} {q1 : List Pr} {q2 : List Pv} {v : List Int} {k t N : Int}
theorem R3.below (h : R3 w1 A1 c1 q1 A2 c2 q2 A3 c3 v gq k t N X) (hb : Below X.heap.size X Y) : R3 w1 A1 c1 q1 A2 c2 q2 A3 c3 v gq k t N Y :=
  ⟨h.rs.below hb, h.vs.below hb, h.vv.below hb, (hb.block _ (lt_of_block h.bx)).trans h.bx, h.ge, h.bel.trans (hb.mono h.bel.size)⟩
theorem R3.set (h : R3 w1 A1 c1 q1 A2 c2 q2 A3 c3 v gq k t N X) (M : Int) : R3 w1 A1 c1 q1 A2 c2 q2 A3 c3 v gq k t M (X.setCell ⟨gq, 3, none⟩ (.int .i64 M)) := by
  have ht := turn_set X gq 3 (.int .i64 M)
  exact ⟨h.rs.box h.bx ht, h.vs.box h.bx ht, h.vv.box h.bx ht, heap_setCell_same _ gq 3 _ _ _ h.bx, h.ge, h.bel.trans (ht.below h.bel.size (fun i hi => by have := h.ge; omega))⟩
theorem R3.cells (h : R3 w1 A1 c1 q1 A2 c2 q2 A3 c3 v gq k t N X) : PBox X gq A3 v.length c3 k t N ∧ ∀ j, X.frozen? ⟨gq, j, none⟩ = false :=
  ⟨⟨(cell_of_row _ _ 0 _ _ _ h.bx).trans rfl, (cell_of_row _ _ 1 _ _ _ h.bx).trans rfl, (cell_of_row _ _ 2 _ _ _ h.bx).trans rfl, (cell_of_row _ _ 3 _ _ _ h.bx).trans rfl⟩, fun j => frozen_of_row _ _ _ _ _ h.bx⟩
end
namespace TopL
theorem same_any (A A' : Option Addr) (c c' : Nat) (a b : List HitM) (w : World) (ha : Hits w A c a) (hb : Hits w A' c' b) :
    Calls Tryz.prog 12 #[.slice A a.length c, .slice A' b.length c'] w fun e w' => e = .returned (.bool (decide (a = b))) ∧ Below w.heap.size w w' := by
  have HE := Lib.hid (equal_any A A' c c' a b w ha hb)
  generalize decide (a = b) = R at *
  generalize a.length = n at *
  generalize b.length = m at *
  clear ha hb
  go_enter Tryz.func12, Tryz.ntmps12
  go_wp2_with fail
  refine HE.out.mono ?_
  rintro e w1 ⟨rfl, hb1⟩
  have HB := Lib.hid hb1
  clear hb1
  go_wp2
  go_ret
  exact ⟨rfl, HB.out⟩

theorem same_yes (A B : Option Addr) (c d : Nat) (l : List HitM) (w : World) (h : Hits w A c l) (h' : Hits w B d l) :
    Calls Tryz.prog 12 #[.slice A l.length c, .slice B l.length d] w fun e w' => e = .returned (.bool true) ∧ Below w.heap.size w w' := by
  have := same_any A B c d l l w h h'
  simpa using this
end TopL
theorem OwnH.probe {base g : Nat} {w w' : World} {A : Option Addr} {c : Nat} {l : List TopL.HitM} {cs : Array Value} (h : OwnH base w A c l) (hx : w.heap[g]? = some (.cells cs 31 (0, 0))) (ht : Turn (fun i => i = g) w w') : OwnH base w' A c l := row_turn h ht (row_apart h hx (by decide))
end Go.Proofs.YtcekgllahlhaaaaGreatDoor
