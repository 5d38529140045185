/-
  Append to rows of the call's own: numbers, masks.
-/
import Derived.Test.YtgljmcddakeoiaaDoorMskG
import Derived.Deep.RegionLaw
import Derived.Deep.Onto
import Derived.Maps.AppendAt
namespace Go.Proofs.YtgljmcddakeoiaaDoor
open Go.RowKit Go.Shelf
set_option linter.unusedVariables false
set_option linter.unusedSimpArgs false
set_option maxRecDepth 100000

theorem row_turn {S : Nat → Prop} {w w' : World} {base : Nat} {e : TypeId} {size : Nat} {v : Value} {n : Nat} {xs : List Value} (h : w.ownsRow base e size v n xs) (ht : Turn S w w') (hS : ∀ i, v.ownBlock = some i → ¬ S i) : w'.ownsRow base e size v n xs := by
  rcases h.2 with ⟨e', h0⟩ | ⟨g, cap, cur, e', hg, hh, hnc, hcm, hsz, hcs⟩
  · exact ⟨h.1, .inl ⟨e', h0⟩⟩
  · refine ⟨h.1, .inr ⟨g, cap, cur, e', hg, (ht.block _ (lt_of_block hh) (hS g ?_)).trans hh, hnc, hcm, hsz, hcs⟩⟩
    rw [e']; rfl
/-! ### append -/
def blk (A : Option Addr) : Option Nat := A.map (·.block)
theorem own_blk (A : Option Addr) (n c : Nat) : (Value.slice A n c).ownBlock = blk A := by cases A <;> rfl
theorem own_form2 {w : World} {base : Nat} {e : TypeId} {size : Nat} {v : Value} {n : Nat} {xs : List Value} (h : w.ownsRow base e size v n xs) : ∃ A c, v = .slice A n c ∧ (A = none ∨ ∃ g, A = some ⟨g, 0, none⟩ ∧ base ≤ g ∧ g < w.heap.size) := by
  rcases h.2 with ⟨rfl, h0⟩ | ⟨g, cap, cur, rfl, hg, hh, _⟩
  · exact ⟨none, 0, by rw [h0], .inl rfl⟩
  · exact ⟨_, cap, rfl, .inr ⟨g, rfl, hg, lt_of_block hh⟩⟩
/-- A slice's type to which one appends: its element, that one's size in cells, its bytes. -/
def AppT (P : Program) (t e : TypeId) (size bytes : Nat) : Prop := P.underlying t = some (.slice e) ∧ ∃ i z, P.info? e = some i ∧ i.zero = some z ∧ i.size = size ∧ i.bytes = bytes ∧ z.cells.size = size ∧ 0 < size ∧ bytes ≤ 100
theorem appN : AppT Tryd.prog 22 3 1 8 := ⟨Tryd.underlying22, (Tryd.prog.info? 3).get (by kernel_rfl), .int .i64 0, (Option.some_get _).symm, by kernel_rfl, by kernel_rfl, by kernel_rfl, rfl, by decide, by decide⟩

/-- What is appended can be read. -/
def Read (w : World) (A : Option Addr) (m size : Nat) (news : List Value) : Prop := news.length = m * size ∧ (∀ u ∈ news, u.oneCell' = true) ∧ (A = none → m = 0) ∧ ∀ b, A = some b → ∀ j u, news[j]? = some u → w.cell? (b.add j) = some u
theorem Read.vec {w : World} {A : Option Addr} {c : Nat} {xs : List Int} {k : IntKind} (h : Vec k w A c xs) : Read w A xs.length 1 (xs.map (Value.int k)) := by
  refine ⟨by simp, by simp; intro x _; rfl, fun e => ?_, fun b e j u hj => ?_⟩
  · rcases Nat.eq_zero_or_pos xs.length with h0 | h0
    · exact h0
    · obtain ⟨b, o, e', _⟩ := h.rd h0; rw [e] at e'; cases e'
  · have hl : j < xs.length := by have := (List.getElem?_eq_some_iff.1 hj).1; simpa using this
    obtain ⟨b', o, e', _, hc⟩ := h.rd (by omega)
    rw [e] at e'
    injection e' with e'
    subst e'
    rw [Addr.add_lit, hc j hl, ← hj]
    simp [List.getD, hl]
theorem Read.int {w : World} {g o : Nat} {k : Int} (h0 : w.cell? ⟨g, o, none⟩ = some (.int .i64 k)) : Read w (some ⟨g, o, none⟩) 1 1 [.int .i64 k] := by
  refine ⟨rfl, by simp; rfl, (fun e => by cases e), fun b e j u hj => ?_⟩
  injection e with e
  subst e
  rw [Addr.add_lit]
  match j, hj with
  | 0, hj => simp at hj; rw [Nat.add_zero, h0, hj]
  | j + 1, hj => simp at hj

theorem run_gapp {w : World} {t e : TypeId} {size bytes : Nat} (hT : AppT Tryd.prog t e size bytes) (ty : TypeId) (base : Nat) (A0 : Option Addr) (c0 n : Nat) (xs : List Value) (hown : w.ownsRow base e size (.slice A0 n c0) n xs)
    (A : Option Addr) (c m : Nat) (news : List Value) (hr : Read w A m size news) (hbig : n + m ≤ 1099511627776) (hbase : base ≤ w.heap.size) :
    ∃ A1 c1 w', (Builtin.append_ #[t, t] ty #[.slice A0 n c0, .slice A m c]).run Tryd.prog w = .ok (.slice A1 (n + m) c1) w' ∧ w'.ownsRow base e size (.slice A1 (n + m) c1) (n + m) (xs ++ news) ∧ w.grownBy w' (blk A0) ∧ (blk A1 = blk A0 ∨ blk A1 = some w.heap.size) := by
  obtain ⟨ht, i0, z, hi, hz0, hz1, hz2, hz3, hz4, hz5⟩ := hT
  obtain ⟨hl, h1, hn, hrd⟩ := hr
  have hb : (n + m) * bytes ≤ 140737488355328 := by
    have : (n + m) * bytes ≤ 1099511627776 * 100 := Nat.mul_le_mul hbig hz5
    omega
  rcases A with _ | ad
  · obtain rfl := hn rfl
    obtain rfl : news = [] := List.eq_nil_of_length_eq_zero (by simpa using hl)
    refine ⟨A0, c0, w, ?_, by simpa using hown, World.grownBy.refl _ _, .inl rfl⟩
    rcases hown.2 with ⟨e1, rfl⟩ | ⟨g, cap, cur, e1, _, _, hnc, _⟩
    · injection e1 with e1 _ e3
      subst e1
      subst e3
      simp [Builtin.append_, run_underlying ht, sizeOf, typeInfo, hi, Builtin.lenOf, Builtin.firstCells]
    · injection e1 with e1 _ e3
      subst e1
      subst e3
      simp [Builtin.append_, run_underlying ht, sizeOf, typeInfo, hi, Builtin.lenOf, Builtin.firstCells, hnc, storeCells]
  · obtain ⟨v', w', hrun, h1, h2, h3, h4⟩ := run_append_own_at (P := Tryd.prog) w base t ty e i0 z size bytes ht hi hz0 hz1 hz2 hz3 hz4 _ n xs hown ad m c news hl (hrd ad rfl) h1 (by unfold maxLen; omega) hb hbase
    obtain ⟨A1, c1, rfl, _⟩ := own_form2 h1
    rw [own_blk] at h2 h4
    rw [own_blk] at h4
    exact ⟨A1, c1, w', hrun, h1, h2, h4⟩

theorem gapp_at {w : World} {ops : Array Oper} {rest : List Oper} {o : Oper} {a : Act} {Q : Exit → Act → World → Prop} (hgd : o.guard = none) (s x : Operand) {t e : TypeId} {size bytes : Nat} (hT : AppT Tryd.prog t e size bytes)
    (ho : o.op = .call { callee := .builtin .append, args := #[s, x], argTypes := #[t, t] })
    (base : Nat) (A0 : Option Addr) (c0 n : Nat) (xs : List Value) (hs : a.eval s = .slice A0 n c0) (hown : w.ownsRow base e size (.slice A0 n c0) n xs)
    (A : Option Addr) (c m : Nat) (news : List Value) (hx : a.eval x = .slice A m c) (hr : Read w A m size news) (hbig : n + m ≤ 1099511627776) (hbase : base ≤ w.heap.size)
    (h : ∀ A1 c1 w', w'.ownsRow base e size (.slice A1 (n + m) c1) (n + m) (xs ++ news) → w.grownBy w' (blk A0) → (blk A1 = blk A0 ∨ blk A1 = some w.heap.size) → wpList Tryd.prog ops Q rest (a.put o.dst (.slice A1 (n + m) c1)) w') : wpList Tryd.prog ops Q (o :: rest) a w := by
  refine wpList_plain hgd fun K hK => ?_
  obtain ⟨A1, c1, w', hrun, h1, h2, h3⟩ := run_gapp hT o.type base A0 c0 n xs hown A c m news hr hbig hbase
  unfold Oper.wp
  simp [execOp, ho, resolve, invoke, builtin, hs, hx, hrun, Result.andThen]
  exact hK _ _ (h A1 c1 w' h1 h2 h3)

/-- .. as a step of a region that draws. -/
theorem gapp_step {w : World} {ops : Array Oper} {o : Oper} {a : Act} {K : Act → World → Prop} {Q : Exit → Act → World → Prop} {E : Prop} (hgd : o.guard = none) (s x : Operand) {t e : TypeId} {size bytes : Nat} (hT : AppT Tryd.prog t e size bytes)
    (ho : o.op = .call { callee := .builtin .append, args := #[s, x], argTypes := #[t, t] })
    (base : Nat) (A0 : Option Addr) (c0 n : Nat) (xs : List Value) (hs : a.eval s = .slice A0 n c0) (hown : w.ownsRow base e size (.slice A0 n c0) n xs)
    (A : Option Addr) (c m : Nat) (news : List Value) (hx : a.eval x = .slice A m c) (hr : Read w A m size news) (hbig : n + m ≤ 1099511627776) (hbase : base ≤ w.heap.size)
    (h : ∀ A1 c1 w', w'.ownsRow base e size (.slice A1 (n + m) c1) (n + m) (xs ++ news) → w.grownBy w' (blk A0) → (blk A1 = blk A0 ∨ blk A1 = some w.heap.size) → K (a.put o.dst (.slice A1 (n + m) c1)) w') :
    if Region.wanted o (yielded ops a.tmps) = true then Oper.wp Tryd.prog o a w K Q else E := by
  have hw : Region.wanted o (yielded ops a.tmps) = true := by simp [Region.wanted, hgd]
  rw [if_pos hw]
  obtain ⟨A1, c1, w', hrun, h1, h2, h3⟩ := run_gapp hT o.type base A0 c0 n xs hown A c m news hr hbig hbase
  unfold Oper.wp
  simp [execOp, ho, resolve, invoke, builtin, hs, hx, hrun, Result.andThen]
  exact h A1 c1 w' h1 h2 h3

/-- .. in a fenced walk. -/
theorem gapp_in {F : Fence} {nn : Nat} {w : World} {ops : Array Oper} {rest : List Oper} {o : Oper} {a : Act} {Q : Exit → Act → World → Prop} (hgd : o.guard = none) (s x : Operand) {t e : TypeId} {size bytes : Nat} (hT : AppT Tryd.prog t e size bytes)
    (ho : o.op = .call { callee := .builtin .append, args := #[s, x], argTypes := #[t, t] })
    (base : Nat) (A0 : Option Addr) (c0 n : Nat) (xs : List Value) (hs : a.eval s = .slice A0 n c0) (hown : w.ownsRow base e size (.slice A0 n c0) n xs)
    (A : Option Addr) (c m : Nat) (news : List Value) (hx : a.eval x = .slice A m c) (hr : Read w A m size news) (hbig : n + m ≤ 1099511627776) (hbase : base ≤ w.heap.size)
    (h : ∀ A1 c1 w', w'.ownsRow base e size (.slice A1 (n + m) c1) (n + m) (xs ++ news) → w.grownBy w' (blk A0) → (blk A1 = blk A0 ∨ blk A1 = some w.heap.size) → wpListIn F nn Tryd.prog ops Q rest (a.put o.dst (.slice A1 (n + m) c1)) w') : wpListIn F nn Tryd.prog ops Q (o :: rest) a w := by
  refine wpListIn_plain hgd fun K hK' => ?_
  obtain ⟨A1, c1, w', hrun, h1, h2, h3⟩ := run_gapp hT o.type base A0 c0 n xs hown A c m news hr hbig hbase
  unfold Oper.wpIn
  refine ⟨?_, ?_⟩
  · simp [Oper.about, ho, resolve, Target.leads, Sem.run_pure]
  · rw [Oper.semAt_plain F _ _ (by rw [ho]; intro c hc'; cases hc')]
    simp [execOp, ho, resolve, invoke, builtin, hs, hx, hrun, Result.andThen]
    exact hK' _ _ (h A1 c1 w' h1 h2 h3)

set_option maxHeartbeats 400000 in

theorem grown_below {w w' : World} {B : Nat} {A : Option Addr} (hg : w.grownBy w' (blk A)) (hb : B ≤ w.heap.size) (hA : ∀ i, blk A = some i → B ≤ i) : Below B w w' :=
  (Turn.of_grown (S := fun i => blk A = some i) hg (fun i hi => .inl hi)).below hb hA
/-- Numbers of the call's own. -/
def OwnN (base : Nat) (w : World) (A : Option Addr) (c : Nat) (l : List Nat) : Prop := w.ownsRow base 3 1 (.slice A l.length c) l.length (l.map fun (k : Nat) => Value.int .i64 (k : Int))
theorem OwnN.nil (base : Nat) (w : World) : OwnN base w none 0 [] := World.ownsRow_nil _ _ _ _
theorem OwnN.below {base : Nat} {w w' : World} {A : Option Addr} {c : Nat} {l : List Nat} (h : OwnN base w A c l) (hb : Below w.heap.size w w') : OwnN base w' A c l := row_turn h (Turn.of_below (S := fun _ => False) hb) (fun _ _ e => e)
theorem OwnN.mono {base b : Nat} {w : World} {A : Option Addr} {c : Nat} {l : List Nat} (h : OwnN base w A c l) (hb : b ≤ base) : OwnN b w A c l := World.ownsRow.mono h hb
theorem OwnN.vec {base : Nat} {w : World} {A : Option Addr} {c : Nat} {l : List Nat} (h : OwnN base w A c l) (hl : ∀ k ∈ l, k < 9223372036854775808) : Vec .i64 w A c (l.map fun (k : Nat) => (k : Int)) := by
  have h1 := h
  unfold OwnN at h1
  obtain ⟨A', c', e, hv⟩ := Vec.own (m := 0) (k := .i64) (xs := l.map fun (k : Nat) => (k : Int)) (v := .slice A l.length c) (e := 3) (base := base) (w := w) (by simpa [List.map_map, Function.comp_def] using h1) (fun x hx => by
    obtain ⟨k, hk, rfl⟩ := List.mem_map.1 hx
    have := hl k hk
    simp [Lit.wf, IntKind.min, IntKind.max, IntKind.signed, IntKind.bits]
    omega)
  injection e with e1 _ e2
  subst e1
  subst e2
  exact hv
theorem OwnN.low {base : Nat} {w : World} {A : Option Addr} {c : Nat} {l : List Nat} (h : OwnN base w A c l) : ∀ i, blk A = some i → base ≤ i ∧ i < w.heap.size := fun i hi => h.lt i (by rw [own_blk]; exact hi)
theorem OwnN.app {base c c5 n : Nat} {w V w' : World} {A A5 : Option Addr} {l : List Nat} {k : Nat} (h : OwnN base w A c l) (hV : Below w.heap.size w V) (hbs : base ≤ w.heap.size) (hn : l.length = n)
    (ho : w'.ownsRow base 3 1 (.slice A5 (n + 1) c5) (n + 1) ((l.map fun (k : Nat) => Value.int .i64 (k : Int)) ++ [.int .i64 (k : Int)])) (hg : V.grownBy w' (blk A)) : OwnN base w' A5 c5 (l ++ [k]) ∧ Below base w w' := by
  subst hn
  refine ⟨?_, (hV.mono hbs).trans (grown_below hg (Nat.le_trans hbs hV.size) (fun i hi => (h.low i hi).1))⟩
  unfold OwnN
  rw [List.length_append, List.map_append]
  exact ho
end Go.Proofs.YtgljmcddakeoiaaDoor
