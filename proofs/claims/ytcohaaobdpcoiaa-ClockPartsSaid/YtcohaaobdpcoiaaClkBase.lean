/-
  Rows of numbers of the call's own; append; structs of two numbers; what a round keeps.
-/
import Derived.Test.YtcohaaobdpcoiaaRows
import Derived.Test.YtcohaaobdpcoiaaClkMath
import Derived.Test.YtcohaaobdpcoiaaChnBox
import Derived.Deep.RegionLaw
import Derived.Deep.RegionHeld3
import Derived.Deep.Cut
import Derived.Deep.Onto
import Derived.Maps.AppendAt
import Derived.Laws.StructEq
namespace Go.Proofs.Ytcohaaobdpcoiaa
open Go.RowKit Go.Shelf
set_option linter.unusedVariables false
set_option linter.unusedSimpArgs false
set_option maxRecDepth 100000

theorem row_turn {S : Nat → Prop} {w w' : World} {base : Nat} {e : TypeId} {size : Nat} {v : Value} {n : Nat} {xs : List Value} (h : w.ownsRow base e size v n xs) (ht : Turn S w w') (hS : ∀ i, v.ownBlock = some i → ¬ S i) : w'.ownsRow base e size v n xs := by
  rcases h.2 with ⟨e', h0⟩ | ⟨g, cap, cur, e', hg, hh, hnc, hcm, hsz, hcs⟩
  · exact ⟨h.1, .inl ⟨e', h0⟩⟩
  · refine ⟨h.1, .inr ⟨g, cap, cur, e', hg, (ht.block _ (lt_of_block hh) (hS g ?_)).trans hh, hnc, hcm, hsz, hcs⟩⟩
    rw [e']; rfl
/-! ### append -/
def blk (A : Option Addr) : Option Nat := A.map (·.block)
theorem own_blk (A : Option Addr) (n c : Nat) : (Value.slice A n c).ownBlock = blk A := by cases A <;> rfl
theorem own_form2 {w : World} {base : Nat} {e : TypeId} {size : Nat} {v : Value} {n : Nat} {xs : List Value} (h : w.ownsRow base e size v n xs) : ∃ A c, v = .slice A n c ∧ (A = none ∨ ∃ g, A = some ⟨g, 0, none⟩ ∧ base ≤ g ∧ g < w.heap.size) := by
  rcases h.2 with ⟨rfl, h0⟩ | ⟨g, cap, cur, rfl, hg, hh, _⟩
  · exact ⟨none, 0, by rw [h0], .inl rfl⟩
  · exact ⟨_, cap, rfl, .inr ⟨g, rfl, hg, lt_of_block hh⟩⟩
/-- A slice's type to which one appends: its element, that one's size in cells, its bytes. -/
def AppT (P : Program) (t e : TypeId) (size bytes : Nat) : Prop := P.underlying t = some (.slice e) ∧ ∃ i z, P.info? e = some i ∧ i.zero = some z ∧ i.size = size ∧ i.bytes = bytes ∧ z.cells.size = size ∧ 0 < size ∧ bytes ≤ 100
theorem appU : AppT Try.prog 41 22 1 8 := ⟨Try.underlying41, (Try.prog.info? 22).get (by kernel_rfl), .int .u64 0, (Option.some_get _).symm, by kernel_rfl, by kernel_rfl, by kernel_rfl, rfl, by decide, by decide⟩
theorem appL : AppT Try.prog 40 2 1 8 := ⟨Try.underlying40, (Try.prog.info? 2).get (by kernel_rfl), .int .i64 0, (Option.some_get _).symm, by kernel_rfl, by kernel_rfl, by kernel_rfl, rfl, by decide, by decide⟩
/-- What is appended can be read. -/
def Read (w : World) (A : Option Addr) (m size : Nat) (news : List Value) : Prop := news.length = m * size ∧ (∀ u ∈ news, u.oneCell' = true) ∧ (A = none → m = 0) ∧ ∀ b, A = some b → ∀ j u, news[j]? = some u → w.cell? (b.add j) = some u
theorem Read.vec {w : World} {A : Option Addr} {c : Nat} {xs : List Int} {k : IntKind} (h : Vec k w A c xs) : Read w A xs.length 1 (xs.map (Value.int k)) := by
  refine ⟨by simp, by simp; intro x _; rfl, fun e => ?_, fun b e j u hj => ?_⟩
  · rcases Nat.eq_zero_or_pos xs.length with h0 | h0
    · exact h0
    · obtain ⟨b, o, e', _⟩ := h.rd h0; rw [e] at e'; cases e'
  · have hl : j < xs.length := by have := (List.getElem?_eq_some_iff.1 hj).1; simpa using this
    obtain ⟨b', o, e', _, hc⟩ := h.rd (by omega)
    rw [e] at e'
    injection e' with e'
    subst e'
    rw [Addr.add_lit, hc j hl, ← hj]
    simp [List.getD, hl]
theorem Read.one {w : World} {g o : Nat} {v : Value} (h1 : v.oneCell' = true) (h0 : w.cell? ⟨g, o, none⟩ = some v) : Read w (some ⟨g, o, none⟩) 1 1 [v] := by
  refine ⟨rfl, by simpa using h1, (fun e => by cases e), fun b e j u hj => ?_⟩
  injection e with e
  subst e
  rw [Addr.add_lit]
  match j, hj with
  | 0, hj => simp at hj; rw [Nat.add_zero, h0, hj]
  | j + 1, hj => simp at hj

theorem run_gapp {w : World} {t e : TypeId} {size bytes : Nat} (hT : AppT Try.prog t e size bytes) (ty : TypeId) (base : Nat) (A0 : Option Addr) (c0 n : Nat) (xs : List Value) (hown : w.ownsRow base e size (.slice A0 n c0) n xs)
    (A : Option Addr) (c m : Nat) (news : List Value) (hr : Read w A m size news) (hbig : n + m ≤ 1099511627776) (hbase : base ≤ w.heap.size) :
    ∃ A1 c1 w', (Builtin.append_ #[t, t] ty #[.slice A0 n c0, .slice A m c]).run Try.prog w = .ok (.slice A1 (n + m) c1) w' ∧ w'.ownsRow base e size (.slice A1 (n + m) c1) (n + m) (xs ++ news) ∧ w.grownBy w' (blk A0) ∧ (blk A1 = blk A0 ∨ blk A1 = some w.heap.size) := by
  obtain ⟨ht, i0, z, hi, hz0, hz1, hz2, hz3, hz4, hz5⟩ := hT
  obtain ⟨hl, h1, hn, hrd⟩ := hr
  have hb : (n + m) * bytes ≤ 140737488355328 := by
    have : (n + m) * bytes ≤ 1099511627776 * 100 := Nat.mul_le_mul hbig hz5
    omega
  rcases A with _ | ad
  · obtain rfl := hn rfl
    obtain rfl : news = [] := List.eq_nil_of_length_eq_zero (by simpa using hl)
    refine ⟨A0, c0, w, ?_, by simpa using hown, World.grownBy.refl _ _, .inl rfl⟩
    rcases hown.2 with ⟨e1, rfl⟩ | ⟨g, cap, cur, e1, _, _, hnc, _⟩
    · injection e1 with e1 _ e3
      subst e1
      subst e3
      simp [Builtin.append_, run_underlying ht, sizeOf, typeInfo, hi, Builtin.lenOf, Builtin.firstCells]
    · injection e1 with e1 _ e3
      subst e1
      subst e3
      simp [Builtin.append_, run_underlying ht, sizeOf, typeInfo, hi, Builtin.lenOf, Builtin.firstCells, hnc, storeCells]
  · obtain ⟨v', w', hrun, h1, h2, h3, h4⟩ := run_append_own_at (P := Try.prog) w base t ty e i0 z size bytes ht hi hz0 hz1 hz2 hz3 hz4 _ n xs hown ad m c news hl (hrd ad rfl) h1 (by unfold maxLen; omega) hb hbase
    obtain ⟨A1, c1, rfl, _⟩ := own_form2 h1
    rw [own_blk] at h2 h4
    rw [own_blk] at h4
    exact ⟨A1, c1, w', hrun, h1, h2, h4⟩

theorem gapp_at {w : World} {ops : Array Oper} {rest : List Oper} {o : Oper} {a : Act} {Q : Exit → Act → World → Prop} (hgd : o.guard = none) (s x : Operand) {t e : TypeId} {size bytes : Nat} (hT : AppT Try.prog t e size bytes)
    (ho : o.op = .call { callee := .builtin .append, args := #[s, x], argTypes := #[t, t] })
    (base : Nat) (A0 : Option Addr) (c0 n : Nat) (xs : List Value) (hs : a.eval s = .slice A0 n c0) (hown : w.ownsRow base e size (.slice A0 n c0) n xs)
    (A : Option Addr) (c m : Nat) (news : List Value) (hx : a.eval x = .slice A m c) (hr : Read w A m size news) (hbig : n + m ≤ 1099511627776) (hbase : base ≤ w.heap.size)
    (h : ∀ A1 c1 w', w'.ownsRow base e size (.slice A1 (n + m) c1) (n + m) (xs ++ news) → w.grownBy w' (blk A0) → (blk A1 = blk A0 ∨ blk A1 = some w.heap.size) → wpList Try.prog ops Q rest (a.put o.dst (.slice A1 (n + m) c1)) w') : wpList Try.prog ops Q (o :: rest) a w := by
  refine wpList_plain hgd fun K hK => ?_
  obtain ⟨A1, c1, w', hrun, h1, h2, h3⟩ := run_gapp hT o.type base A0 c0 n xs hown A c m news hr hbig hbase
  unfold Oper.wp
  simp [execOp, ho, resolve, invoke, builtin, hs, hx, hrun, Result.andThen]
  exact hK _ _ (h A1 c1 w' h1 h2 h3)

/-- .. as a step of a region that draws. -/
theorem gapp_step {w : World} {ops : Array Oper} {o : Oper} {a : Act} {K : Act → World → Prop} {Q : Exit → Act → World → Prop} {E : Prop} (hgd : o.guard = none) (s x : Operand) {t e : TypeId} {size bytes : Nat} (hT : AppT Try.prog t e size bytes)
    (ho : o.op = .call { callee := .builtin .append, args := #[s, x], argTypes := #[t, t] })
    (base : Nat) (A0 : Option Addr) (c0 n : Nat) (xs : List Value) (hs : a.eval s = .slice A0 n c0) (hown : w.ownsRow base e size (.slice A0 n c0) n xs)
    (A : Option Addr) (c m : Nat) (news : List Value) (hx : a.eval x = .slice A m c) (hr : Read w A m size news) (hbig : n + m ≤ 1099511627776) (hbase : base ≤ w.heap.size)
    (h : ∀ A1 c1 w', w'.ownsRow base e size (.slice A1 (n + m) c1) (n + m) (xs ++ news) → w.grownBy w' (blk A0) → (blk A1 = blk A0 ∨ blk A1 = some w.heap.size) → K (a.put o.dst (.slice A1 (n + m) c1)) w') :
    if Region.wanted o (yielded ops a.tmps) = true then Oper.wp Try.prog o a w K Q else E := by
  have hw : Region.wanted o (yielded ops a.tmps) = true := by simp [Region.wanted, hgd]
  rw [if_pos hw]
  obtain ⟨A1, c1, w', hrun, h1, h2, h3⟩ := run_gapp hT o.type base A0 c0 n xs hown A c m news hr hbig hbase
  unfold Oper.wp
  simp [execOp, ho, resolve, invoke, builtin, hs, hx, hrun, Result.andThen]
  exact h A1 c1 w' h1 h2 h3

/-- .. in a fenced walk. -/
theorem gapp_in {F : Fence} {nn : Nat} {w : World} {ops : Array Oper} {rest : List Oper} {o : Oper} {a : Act} {Q : Exit → Act → World → Prop} (hgd : o.guard = none) (s x : Operand) {t e : TypeId} {size bytes : Nat} (hT : AppT Try.prog t e size bytes)
    (ho : o.op = .call { callee := .builtin .append, args := #[s, x], argTypes := #[t, t] })
    (base : Nat) (A0 : Option Addr) (c0 n : Nat) (xs : List Value) (hs : a.eval s = .slice A0 n c0) (hown : w.ownsRow base e size (.slice A0 n c0) n xs)
    (A : Option Addr) (c m : Nat) (news : List Value) (hx : a.eval x = .slice A m c) (hr : Read w A m size news) (hbig : n + m ≤ 1099511627776) (hbase : base ≤ w.heap.size)
    (h : ∀ A1 c1 w', w'.ownsRow base e size (.slice A1 (n + m) c1) (n + m) (xs ++ news) → w.grownBy w' (blk A0) → (blk A1 = blk A0 ∨ blk A1 = some w.heap.size) → wpListIn F nn Try.prog ops Q rest (a.put o.dst (.slice A1 (n + m) c1)) w') : wpListIn F nn Try.prog ops Q (o :: rest) a w := by
  refine wpListIn_plain hgd fun K hK' => ?_
  obtain ⟨A1, c1, w', hrun, h1, h2, h3⟩ := run_gapp hT o.type base A0 c0 n xs hown A c m news hr hbig hbase
  unfold Oper.wpIn
  refine ⟨?_, ?_⟩
  · simp [Oper.about, ho, resolve, Target.leads, Sem.run_pure]
  · rw [Oper.semAt_plain F _ _ (by rw [ho]; intro c hc'; cases hc')]
    simp [execOp, ho, resolve, invoke, builtin, hs, hx, hrun, Result.andThen]
    exact hK' _ _ (h A1 c1 w' h1 h2 h3)

theorem put_other {W : World} {k i : Nat} {o o' o2 : Obj} (h : W.heap[k]? = some o) (ho : o.isCells = false) (hi : W.heap[i]? = some o2) (h2 : o2.isCells = true) : (W.putObj k o').heap[i]? = some o2 := by
  rw [World.putObj_heap_other (fun e => ?_)]
  · exact hi
  · subst e; rw [h] at hi; cases hi; rw [ho] at h2; cases h2
theorem below_put {W : World} {k : Nat} {o : Obj} {B : Nat} (hk : B ≤ k) (hB : B ≤ W.heap.size) : Below B W (W.putObj k o) :=
  ⟨rfl, rfl, rfl, by simp [World.putObj], fun i hi => World.putObj_heap_other (by omega)⟩

theorem turn_put (W : World) (k : Nat) (o : Obj) : Turn (fun i => i = k) W (W.putObj k o) := ⟨rfl, rfl, rfl, by simp [World.putObj], fun i _ hn => World.putObj_heap_other hn⟩
theorem row_put {w : World} {base : Nat} {e : TypeId} {size : Nat} {v : Value} {n : Nat} {xs : List Value} (h : w.ownsRow base e size v n xs) {k : Nat} {o : Obj} (o' : Obj) (hk : w.heap[k]? = some o) (ho : o.isCells = false) : (w.putObj k o').ownsRow base e size v n xs := by
  rcases h.2 with ⟨e', h0⟩ | ⟨g, cap, cur, e', hg, hh, hnc, hcm, hsz, hcs⟩
  · exact ⟨h.1, .inl ⟨e', h0⟩⟩
  · exact ⟨h.1, .inr ⟨g, cap, cur, e', hg, put_other hk ho hh rfl, hnc, hcm, hsz, hcs⟩⟩
theorem keeps_turn {B0 : Nat} {S : Nat → Prop} {W W' : World} (h : Turn S W W') (hc : ∀ i, S i → ∃ o, W.heap[i]? = some o ∧ o.isCells = true) : KeepsFrom B0 W W' :=
  ⟨h.size, fun k o _ hk ho => (h.block k (lt_of_block hk) (fun e => by obtain ⟨o2, h2, h3⟩ := hc k e; rw [hk] at h2; cases h2; rw [ho] at h3; cases h3)).trans hk⟩
theorem cell_laid (w : World) (cs : Array Value) (t : TypeId) (i : Nat) : (w.alloc (.cells cs t)).cell? ⟨w.heap.size, i, none⟩ = cs[i]? := cell_of_row _ _ _ cs t (0, 0) (heap_alloc_new w _)
theorem take_eq_snoc {a b : List Int} {k : Nat} {x y : Int} (h : a.take k = b.take k) (hx : a[k]? = some x) (hy : b[k]? = some y) (e : x = y) : a.take (k + 1) = b.take (k + 1) := by
  rw [List.take_add_one, List.take_add_one, h, hx, hy, e]
theorem getD_some {a : List Int} {k : Nat} (h : k < a.length) : a[k]? = some (a.getD k 0) := by
  rw [List.getElem?_eq_getElem h]; simp [List.getD, List.getElem?_eq_getElem h]


theorem i64_fit {a : Int} (h : (Lit.int .i64 a).wf = true) : -9223372036854775808 ≤ a ∧ a ≤ 9223372036854775807 := by
  simp [Lit.wf, IntKind.min, IntKind.max, IntKind.signed, IntKind.bits] at h
  omega
theorem u64_fit {a : Int} (h : (Lit.int .u64 a).wf = true) : U6 a := by
  simp [Lit.wf, IntKind.min, IntKind.max, IntKind.signed, IntKind.bits] at h
  unfold U6
  omega
/-- append, as a step of a region that draws inside a fence. -/
theorem gapp_stepIn {F : Fence} {nn : Nat} {w : World} {ops : Array Oper} {o : Oper} {a : Act} {K : Act → World → Prop} {Q : Exit → Act → World → Prop} {E : Prop} (hgd : o.guard = none) (s x : Operand) {t e : TypeId} {size bytes : Nat} (hT : AppT Try.prog t e size bytes)
    (ho : o.op = .call { callee := .builtin .append, args := #[s, x], argTypes := #[t, t] })
    (base : Nat) (A0 : Option Addr) (c0 n : Nat) (xs : List Value) (hs : a.eval s = .slice A0 n c0) (hown : w.ownsRow base e size (.slice A0 n c0) n xs)
    (A : Option Addr) (c m : Nat) (news : List Value) (hx : a.eval x = .slice A m c) (hr : Read w A m size news) (hbig : n + m ≤ 1099511627776) (hbase : base ≤ w.heap.size)
    (h : ∀ A1 c1 w', w'.ownsRow base e size (.slice A1 (n + m) c1) (n + m) (xs ++ news) → w.grownBy w' (blk A0) → (blk A1 = blk A0 ∨ blk A1 = some w.heap.size) → K (a.put o.dst (.slice A1 (n + m) c1)) w') :
    if Region.wanted o (yielded ops a.tmps) = true then Oper.wpIn F nn Try.prog o a w K Q else E := by
  have hw : Region.wanted o (yielded ops a.tmps) = true := by simp [Region.wanted, hgd]
  rw [if_pos hw]
  obtain ⟨A1, c1, w', hrun, h1, h2, h3⟩ := run_gapp hT o.type base A0 c0 n xs hown A c m news hr hbig hbase
  unfold Oper.wpIn
  refine ⟨?_, ?_⟩
  · simp [Oper.about, ho, resolve, Target.leads, Sem.run_pure]
  · rw [Oper.semAt_plain F _ _ (by rw [ho]; intro c hc'; cases hc')]
    simp [execOp, ho, resolve, invoke, builtin, hs, hx, hrun, Result.andThen]
    exact h A1 c1 w' h1 h2 h3
/-- Numbers of the call's own: of kind k, of the type t. -/
def OwnK (k : IntKind) (t : TypeId) (base : Nat) (w : World) (A : Option Addr) (c : Nat) (xs : List Int) : Prop := w.ownsRow base t 1 (.slice A xs.length c) xs.length (xs.map (Value.int k)) ∧ ∀ x ∈ xs, (Lit.int k x).wf = true
section
variable {k : IntKind} {t : TypeId} {base : Nat} {w w' : World} {A : Option Addr} {c : Nat} {xs : List Int}
theorem OwnK.vec (h : OwnK k t base w A c xs) : Vec k w A c xs := by
  obtain ⟨A', c', e, hv⟩ := Vec.own (m := 0) h.1 h.2
  injection e with e1 _ e2
  subst e1
  subst e2
  exact hv
theorem OwnK.turn {S : Nat → Prop} (h : OwnK k t base w A c xs) (ht : Turn S w w') (hS : ∀ i, blk A = some i → ¬ S i) : OwnK k t base w' A c xs := ⟨row_turn h.1 ht (fun i hi => hS i (by rw [own_blk] at hi; exact hi)), h.2⟩
theorem OwnK.below (h : OwnK k t base w A c xs) (hb : Below w.heap.size w w') : OwnK k t base w' A c xs := h.turn (Turn.of_below (S := fun _ => False) hb) (fun _ _ e => e)
theorem OwnK.mono {b : Nat} (h : OwnK k t base w A c xs) (hb : b ≤ base) : OwnK k t b w A c xs := ⟨h.1.mono hb, h.2⟩
theorem OwnK.nil (base : Nat) (w : World) : OwnK k t base w none 0 [] := ⟨World.ownsRow_nil _ _ _ _, by simp⟩
theorem OwnK.low (h : OwnK k t base w A c xs) : ∀ i, blk A = some i → base ≤ i ∧ i < w.heap.size := fun i hi => h.1.lt i (by rw [own_blk]; exact hi)
end
theorem row_cells {w : World} {base : Nat} {e : TypeId} {size : Nat} {A : Option Addr} {c n : Nat} {xs : List Value} (h : w.ownsRow base e size (.slice A n c) n xs) : ∀ i, blk A = some i → ∃ cs fr, w.heap[i]? = some (.cells cs e fr) := by
  intro i hi
  rcases h.2 with ⟨e1, _⟩ | ⟨g', cap, cur, e1, _, hh, _⟩
  · injection e1 with e1; rw [e1] at hi; cases hi
  · injection e1 with e1
    rw [e1] at hi
    have : g' = i := by simpa [blk] using hi
    subst this
    exact ⟨_, _, hh⟩
theorem grown_bel {w w' : World} {B : Nat} {A : Option Addr} (hg : w.grownBy w' (blk A)) (hb : B ≤ w.heap.size) (hA : ∀ i, blk A = some i → B ≤ i) : Below B w w' :=
  (Turn.of_grown (S := fun i => blk A = some i) hg (fun i hi => .inl hi)).below hb hA
theorem below_tr {w a b : World} (h : Below w.heap.size w a) (k : Below a.heap.size a b) : Below w.heap.size w b := h.trans (k.mono h.size)

/-! ### a struct of two numbers -/
/-- Block g holds a clock. -/
def CB (w : World) (g : Nat) (N L : Int) : Prop := w.heap[g]? = some (.cells #[.int .u64 N, .int .u64 L] 24 (0, 0))
section
variable {w w' : World} {g : Nat} {N L : Int}
theorem CB.lt (h : CB w g N L) : g < w.heap.size := lt_of_block h
theorem CB.c0 (h : CB w g N L) : w.cell? ⟨g, 0, none⟩ = some (.int .u64 N) := (cell_of_row _ _ 0 _ _ _ h).trans rfl
theorem CB.c1 (h : CB w g N L) : w.cell? ⟨g, 1, none⟩ = some (.int .u64 L) := (cell_of_row _ _ 1 _ _ _ h).trans rfl
theorem CB.f0 (h : CB w g N L) : w.frozen? ⟨g, 0, none⟩ = false := frozen_of_row _ _ _ _ _ h
theorem CB.f1 (h : CB w g N L) : w.frozen? ⟨g, 1, none⟩ = false := frozen_of_row _ _ _ _ _ h
theorem CB.below (h : CB w g N L) (hb : Below w.heap.size w w') : CB w' g N L := (hb.block _ h.lt).trans h
theorem CB.turn {S : Nat → Prop} (h : CB w g N L) (ht : Turn S w w') (hS : ¬ S g) : CB w' g N L := (ht.block _ h.lt hS).trans h
theorem CB.new (w : World) (N L : Int) : CB (w.alloc (.cells #[.int .u64 N, .int .u64 L] 24)) w.heap.size N L := heap_alloc_new w _
theorem CB.set0 (h : CB w g N L) (x : Int) : CB (w.setCell ⟨g, 0, none⟩ (.int .u64 x)) g x L := heap_setCell_same w g 0 _ _ _ h
theorem CB.set1 (h : CB w g N L) (x : Int) : CB (w.setCell ⟨g, 1, none⟩ (.int .u64 x)) g N x := heap_setCell_same w g 1 _ _ _ h
theorem CB.put2 {w0 : World} {B : Nat} (h : CB w g N L) (hb : Below B w0 w) (hg : B ≤ g) (x y : Int) :
    ((w.setCell ⟨g, 0, none⟩ (.int .u64 x)).setCell ⟨g, 1, none⟩ (.int .u64 y)).cell? ⟨g, 0, none⟩ = some (.int .u64 x) ∧ ((w.setCell ⟨g, 0, none⟩ (.int .u64 x)).setCell ⟨g, 1, none⟩ (.int .u64 y)).cell? ⟨g, 1, none⟩ = some (.int .u64 y) ∧ Below B w0 ((w.setCell ⟨g, 0, none⟩ (.int .u64 x)).setCell ⟨g, 1, none⟩ (.int .u64 y)) := by
  have h2 := (h.set0 x).set1 y
  exact ⟨h2.c0, h2.c1, (hb.setCell (by simpa using hg) _).setCell (by simpa using hg) _⟩
theorem turn_set (w : World) (g i : Nat) (v : Value) : Turn (fun k => k = g) w (w.setCell ⟨g, i, none⟩ v) := ⟨rfl, rfl, rfl, by simp [World.setCell], fun k _ hk => Below.heap_setCell _ _ _ _ hk⟩
end
theorem eqC (a b c d : Int) (w : World) : (Op.equalIn 10000 24 (.agg #[.int .u64 a, .int .u64 b]) (.agg #[.int .u64 c, .int .u64 d])).run Try.prog w = .ok (a == c && b == d) w := by
  have u3 := Try.underlying22
  have hS : Try.prog.underlying 24 = some (.struct (Try.prog.fieldsOf 24)) := by kernel_rfl
  have hp : Try.prog.stoodInHeld 24 = false := by kernel_rfl
  have hF : (Try.prog.fieldsOf 24).toList = [(Try.prog.fieldsOf 24)[0]!, (Try.prog.fieldsOf 24)[1]!] := by kernel_rfl
  have n0 : ((Try.prog.fieldsOf 24)[0]!).name = "Now" := by kernel_rfl
  have n1 : ((Try.prog.fieldsOf 24)[1]!).name = "Last" := by kernel_rfl
  have t0 : ((Try.prog.fieldsOf 24)[0]!).type = 22 := by kernel_rfl
  have t1 : ((Try.prog.fieldsOf 24)[1]!).type = 22 := by kernel_rfl
  have o0 : ((Try.prog.fieldsOf 24)[0]!).offset = 0 := by kernel_rfl
  have o1 : ((Try.prog.fieldsOf 24)[1]!).offset = 1 := by kernel_rfl
  rw [show (10000 : Nat) = 9999 + 1 from rfl, run_equalIn_agg w 9999 24 _ _ hS hp, hF]
  have h9 : ∀ x y : Int, (Op.equalIn 9999 22 (.int .u64 x) (.int .u64 y)).run Try.prog w = .ok (x == y) w := fun x y => run_equalIn_int (w := w) 9998 _ _ _ x y u3
  simp [Op.eqFields, n0, n1, t0, t1, o0, o1, part, go_sem, h9]
  by_cases h1 : a = c <;> by_cases h2 : b = d <;> simp [h1, h2]

/-! ### what a round keeps: all cells below B but for D's, and all blocks of the type T but for D's -/
structure KpS (D : Nat → Prop) (T : TypeId) (B : Nat) (W W' : World) : Prop where
  size : W.heap.size ≤ W'.heap.size
  keep : ∀ (k : Nat) (cs : Array Value) (t : TypeId) (fr : Nat × Nat), (k < B ∨ t = T) → ¬ D k → W.heap[k]? = some (.cells cs t fr) → W'.heap[k]? = some (.cells cs t fr)
theorem KpS.refl (D : Nat → Prop) (T : TypeId) (B : Nat) (W : World) : KpS D T B W W := ⟨Nat.le_refl _, fun _ _ _ _ _ _ h => h⟩
theorem KpS.trans {D : Nat → Prop} {T : TypeId} {B : Nat} {X Y Z : World} (h : KpS D T B X Y) (k : KpS D T B Y Z) : KpS D T B X Z := ⟨Nat.le_trans h.size k.size, fun i cs t fr hi hd ho => k.keep i cs t fr hi hd (h.keep i cs t fr hi hd ho)⟩
theorem KpS.put {D : Nat → Prop} {T : TypeId} {B : Nat} {W : World} {k : Nat} {o o' : Obj} (hk : W.heap[k]? = some o) (ho : o.isCells = false) : KpS D T B W (W.putObj k o') := by
  refine ⟨by simp [World.putObj], fun i cs t fr _ _ hi => ?_⟩
  rw [World.putObj_heap_other (fun e => ?_)]
  · exact hi
  · subst e; rw [hk] at hi; cases hi; cases ho
theorem KpS.below {D : Nat → Prop} {T : TypeId} {B : Nat} {W W' : World} (hb : Below W.heap.size W W') : KpS D T B W W' := ⟨hb.size, fun i cs t fr _ _ hi => (hb.block i (lt_of_block hi)).trans hi⟩
theorem KpS.turn {D S : Nat → Prop} {T : TypeId} {B : Nat} {W W' : World} (h : Turn S W W') (hS : ∀ i, S i → D i ∨ (B ≤ i ∧ ∀ cs t fr, W.heap[i]? = some (.cells cs t fr) → t ≠ T)) : KpS D T B W W' := by
  refine ⟨h.size, fun i cs t fr hi hd ho => (h.block i (lt_of_block ho) (fun e => ?_)).trans ho⟩
  rcases hS i e with h1 | ⟨h1, h2⟩
  · exact hd h1
  · rcases hi with h3 | h3
    · omega
    · exact h2 cs t fr ho h3
/-- .. below B alone. -/
structure KpB (D : Nat → Prop) (B : Nat) (W W' : World) : Prop where
  size : W.heap.size ≤ W'.heap.size
  keep : ∀ (k : Nat) (cs : Array Value) (t : TypeId) (fr : Nat × Nat), k < B → ¬ D k → W.heap[k]? = some (.cells cs t fr) → W'.heap[k]? = some (.cells cs t fr)
theorem KpB.refl (D : Nat → Prop) (B : Nat) (W : World) : KpB D B W W := ⟨Nat.le_refl _, fun _ _ _ _ _ _ h => h⟩
theorem KpB.trans {D : Nat → Prop} {B : Nat} {X Y Z : World} (h : KpB D B X Y) (k : KpB D B Y Z) : KpB D B X Z := ⟨Nat.le_trans h.size k.size, fun i cs t fr hi hd ho => k.keep i cs t fr hi hd (h.keep i cs t fr hi hd ho)⟩
theorem KpS.b {D : Nat → Prop} {T : TypeId} {B : Nat} {W W' : World} (h : KpS D T B W W') : KpB D B W W' := ⟨h.size, fun i cs t fr hi hd ho => h.keep i cs t fr (.inl hi) hd ho⟩
theorem KpB.below {D : Nat → Prop} {B : Nat} {W W' : World} (hb : Below W.heap.size W W') : KpB D B W W' := ⟨hb.size, fun i cs t fr _ _ hi => (hb.block i (lt_of_block hi)).trans hi⟩
theorem KpB.turn {D S : Nat → Prop} {B : Nat} {W W' : World} (h : Turn S W W') (hS : ∀ i, S i → B ≤ i) : KpB D B W W' := ⟨h.size, fun i cs t fr hi _ ho => (h.block i (lt_of_block ho) (fun e => by have := hS i e; omega)).trans ho⟩
theorem KpB.cell {D : Nat → Prop} {B : Nat} {W W' : World} (h : KpB D B W W') {p : Addr} {v : Value} (hv : W.cell? p = some v) (hp : p.block < B) (hd : ¬ D p.block) : W'.cell? p = some v := by
  obtain ⟨b, i, s⟩ := p
  have hb : ∃ cs t fr, W.heap[b]? = some (.cells cs t fr) := by
    unfold World.cell? at hv
    cases ho : W.heap[b]? with
    | none => simp [ho] at hv
    | some o => cases o <;> simp_all
  obtain ⟨cs, t, fr, ho⟩ := hb
  exact (World.cell?_of_block (a := ⟨b, i, s⟩) ((h.keep b cs t fr hp hd ho).trans ho.symm)).trans hv
theorem KpB.vec {D : Nat → Prop} {B : Nat} {w W W' : World} {k : IntKind} {A : Option Addr} {c : Nat} {xs : List Int} (h : KpB D B W W') (hv : Vec k w A c xs) (hw : Below w.heap.size w W) (hB : w.heap.size ≤ B) (hD : ∀ i, D i → w.heap.size ≤ i) : Vec k W' A c xs := by
  have hz := hw.size
  have hz' := h.size
  refine ⟨hv.room, hv.most, fun hp => ?_, hv.fit⟩
  obtain ⟨b, o, e, hb, hc⟩ := hv.rd hp
  exact ⟨b, o, e, by omega, fun j hj => h.cell ((hw.cell (p := ⟨b, o + j, none⟩) hb).trans (hc j hj)) (by show b < B; omega) (fun e => Nat.not_lt.2 (hD b e) hb)⟩

end Go.Proofs.Ytcohaaobdpcoiaa
