/-
  Chains that can be read, and chains of the call's own; append to a slice of the call's own.
-/
import Derived.Test.YtbnedhhkapbliaaRows
import Derived.Test.YtbnedhhkapbliaaChnMath
import Derived.Test.YtbnedhhkapbliaaTopBox
import Derived.Deep.RegionLaw
import Derived.Deep.Onto
import Derived.Maps.AppendAt
namespace Go.Proofs.Ytbnedhhkapbliaa
open Go.RowKit Go.Shelf
set_option linter.unusedVariables false
set_option linter.unusedSimpArgs false
set_option maxRecDepth 100000

/-- A version, and where its vector lies. -/
structure Pl where
  v : Vr
  B : Option Addr
  c : Nat
def vals (q : List Pl) : List Vr := q.map (·.v)
theorem vals_length (q : List Pl) : (vals q).length = q.length := by simp [vals]
theorem vals_at {q : List Pl} {i : Nat} {p : Pl} (h : q[i]? = some p) : (vals q)[i]? = some p.v := by simp [vals, h]
theorem vals_getD {q : List Pl} {i : Nat} {p : Pl} (h : q[i]? = some p) : (vals q).getD i zv = p.v := by simp [List.getD, vals_at h]
theorem vals_append (q r : List Pl) : vals (q ++ r) = vals q ++ vals r := by simp [vals]
theorem vals_take (q : List Pl) (k : Nat) : vals (q.take k) = (vals q).take k := by simp [vals, List.map_take]
def U64s (x : Int) : Prop := (Lit.int .u64 x).wf = true

structure Chn (w : World) (A : Option Addr) (c : Nat) (q : List Pl) : Prop where
  room : q.length ≤ c
  most : c ≤ 9223372036854775807
  rd : 0 < q.length → ∃ b o, A = some ⟨b, o, none⟩ ∧ b < w.heap.size ∧ ∀ i p, q[i]? = some p → w.cell? ⟨b, o + i * 3, none⟩ = some (.int .u64 p.v.b) ∧ w.cell? ⟨b, o + i * 3 + 1, none⟩ = some (.int .u64 p.v.f) ∧ w.cell? ⟨b, o + i * 3 + 2, none⟩ = some (.slice p.B p.v.x.length p.c)
  el : ∀ p ∈ q, Vec .i32 w p.B p.c p.v.x
  fit : ∀ p ∈ q, U64s p.v.b ∧ U64s p.v.f

section
variable {w w' : World} {A : Option Addr} {c : Nat} {q : List Pl}
theorem Chn.keep (h : Chn w A c q) (hs : w.heap.size ≤ w'.heap.size) (hk : ∀ p : Addr, p.block < w.heap.size → w'.cell? p = w.cell? p) : Chn w' A c q := by
  refine ⟨h.room, h.most, fun hp => ?_, fun p hp => (h.el p hp).keep hs hk, h.fit⟩
  obtain ⟨b, o, e, hb, hc⟩ := h.rd hp
  exact ⟨b, o, e, by omega, fun i p hi => ⟨(hk _ hb).trans (hc i p hi).1, (hk _ hb).trans (hc i p hi).2.1, (hk _ hb).trans (hc i p hi).2.2⟩⟩
theorem Chn.below (h : Chn w A c q) (hb : Below w.heap.size w w') : Chn w' A c q := h.keep hb.size fun _ hp => hb.cell hp
theorem Chn.drew (h : Chn w A c q) : Chn w.drew A c q := h.keep (Nat.le_refl _) fun _ _ => rfl
theorem Chn.drewN (h : Chn w A c q) (n : Nat) : Chn (w.drewN n) A c q := h.keep (Nat.le_refl _) fun _ _ => rfl
theorem Chn.at_ (h : Chn w A c q) {i : Nat} (hi : i < q.length) : ∃ b o p, A = some ⟨b, o, none⟩ ∧ q[i]? = some p ∧ b < w.heap.size ∧ w.cell? ⟨b, o + i * 3, none⟩ = some (.int .u64 p.v.b) ∧ w.cell? ⟨b, o + i * 3 + 1, none⟩ = some (.int .u64 p.v.f) ∧ w.cell? ⟨b, o + i * 3 + 2, none⟩ = some (.slice p.B p.v.x.length p.c) ∧ Vec .i32 w p.B p.c p.v.x ∧ U64s p.v.b ∧ U64s p.v.f := by
  obtain ⟨b, o, e, hb, hc⟩ := h.rd (by omega)
  have hp := List.getElem?_eq_getElem hi
  obtain ⟨h1, h2, h3⟩ := hc i _ hp
  have hm := List.getElem_mem hi
  exact ⟨b, o, _, e, hp, hb, h1, h2, h3, h.el _ hm, (h.fit _ hm).1, (h.fit _ hm).2⟩
theorem Chn.nil (w : World) : Chn w none 0 [] := ⟨by simp, by omega, fun h => absurd h (by simp), by simp, by simp⟩
theorem Chn.many (h : Chn w A c q) : q.length ≤ 9223372036854775807 := Nat.le_trans h.room h.most
theorem Chn.take (h : Chn w A c q) (n : Nat) : Chn w A c (q.take n) := by
  have hl : (q.take n).length ≤ q.length := by simp; omega
  refine ⟨Nat.le_trans hl h.room, h.most, fun hp => ?_, fun p hp => h.el p (List.mem_of_mem_take hp), fun p hp => h.fit p (List.mem_of_mem_take hp)⟩
  obtain ⟨b, o, e, hb, hc⟩ := h.rd (by omega)
  refine ⟨b, o, e, hb, fun i p hi => hc i p ?_⟩
  rw [List.getElem?_take] at hi
  split at hi
  · exact hi
  · cases hi
end

/-- The cells of versions, one behind the other. -/
def flatC (q : List Pl) : List Value := q.flatMap fun p => [.int .u64 p.v.b, .int .u64 p.v.f, .slice p.B p.v.x.length p.c]
theorem flatC_length (q : List Pl) : (flatC q).length = q.length * 3 := by
  induction q with
  | nil => rfl
  | cons x q ih => show (flatC q).length + 1 + 1 + 1 = (q.length + 1) * 3; omega
theorem flatC_append (q r : List Pl) : flatC (q ++ r) = flatC q ++ flatC r := by simp [flatC]
theorem flatC_cons (x : Pl) (q : List Pl) : flatC (x :: q) = .int .u64 x.v.b :: .int .u64 x.v.f :: .slice x.B x.v.x.length x.c :: flatC q := rfl
theorem flatC_get (q : List Pl) (i : Nat) (p : Pl) (h : q[i]? = some p) : (flatC q)[i * 3]? = some (.int .u64 p.v.b) ∧ (flatC q)[i * 3 + 1]? = some (.int .u64 p.v.f) ∧ (flatC q)[i * 3 + 2]? = some (.slice p.B p.v.x.length p.c) := by
  induction q generalizing i with
  | nil => simp at h
  | cons x q ih =>
    rw [flatC_cons]
    cases i with
    | zero => simp at h; subst h; simp
    | succ i =>
      have := ih i (by simpa using h)
      rw [show (i + 1) * 3 = i * 3 + 1 + 1 + 1 by omega]
      simpa using this
theorem flatC_cell (q : List Pl) : ∀ u ∈ flatC q, u.oneCell' = true := by
  intro u hu
  unfold flatC at hu
  rw [List.mem_flatMap] at hu
  obtain ⟨h, _, hu⟩ := hu
  simp at hu
  rcases hu with rfl | rfl | rfl <;> rfl
theorem flatC_setF (q : List Pl) (i : Nat) (p : Pl) (t : Int) (h : q[i]? = some p) : (flatC q).set (i * 3 + 1) (.int .u64 t) = flatC (q.set i ⟨⟨p.v.b, t, p.v.x⟩, p.B, p.c⟩) := by
  induction q generalizing i with
  | nil => simp at h
  | cons y q ih =>
    cases i with
    | zero => simp at h; subst h; simp [flatC_cons]
    | succ i =>
      rw [show (i + 1) * 3 + 1 = (i * 3 + 1) + 1 + 1 + 1 by omega, List.set_cons_succ, flatC_cons, flatC_cons, ← ih i (by simpa using h)]
      simp

/-- Numbers of the call's own. -/
def OwnV (base : Nat) (w : World) (B : Option Addr) (c : Nat) (xs : List Int) : Prop := w.ownsRow base 21 1 (.slice B xs.length c) xs.length (xs.map (Value.int .i32)) ∧ ∀ x ∈ xs, (Lit.int .i32 x).wf = true
structure OwnC (base : Nat) (w : World) (A : Option Addr) (c : Nat) (q : List Pl) : Prop where
  row : w.ownsRow base 35 3 (.slice A q.length c) q.length (flatC q)
  el : ∀ p ∈ q, OwnV base w p.B p.c p.v.x
  fit : ∀ p ∈ q, U64s p.v.b ∧ U64s p.v.f

theorem row_turn {S : Nat → Prop} {w w' : World} {base : Nat} {e : TypeId} {size : Nat} {v : Value} {n : Nat} {xs : List Value} (h : w.ownsRow base e size v n xs) (ht : Turn S w w') (hS : ∀ i, v.ownBlock = some i → ¬ S i) : w'.ownsRow base e size v n xs := by
  rcases h.2 with ⟨e', h0⟩ | ⟨g, cap, cur, e', hg, hh, hnc, hcm, hsz, hcs⟩
  · exact ⟨h.1, .inl ⟨e', h0⟩⟩
  · refine ⟨h.1, .inr ⟨g, cap, cur, e', hg, (ht.block _ (lt_of_block hh) (hS g ?_)).trans hh, hnc, hcm, hsz, hcs⟩⟩
    rw [e']; rfl
section
variable {base : Nat} {w w' : World} {A : Option Addr} {c : Nat} {q : List Pl} {xs : List Int}
theorem OwnV.vec (h : OwnV base w A c xs) : Vec .i32 w A c xs := by
  obtain ⟨A', c', e, hv⟩ := Vec.own (m := 0) h.1 h.2
  injection e with e1 _ e2
  subst e1
  subst e2
  exact hv
theorem OwnV.turn {S : Nat → Prop} (h : OwnV base w A c xs) (ht : Turn S w w') (hS : ∀ i, base ≤ i → i < w.heap.size → ¬ S i) : OwnV base w' A c xs :=
  ⟨row_turn h.1 ht (fun i hi => hS i (h.1.lt i hi).1 (h.1.lt i hi).2), h.2⟩
theorem OwnV.below (h : OwnV base w A c xs) (hb : Below w.heap.size w w') : OwnV base w' A c xs := h.turn (Turn.of_below (S := fun _ => False) hb) (fun _ _ _ e => e)
theorem OwnV.mono {b : Nat} (h : OwnV base w A c xs) (hb : b ≤ base) : OwnV b w A c xs := ⟨h.1.mono hb, h.2⟩
theorem OwnC.turn {S : Nat → Prop} (h : OwnC base w A c q) (ht : Turn S w w') (hS : ∀ i, base ≤ i → i < w.heap.size → ¬ S i) : OwnC base w' A c q :=
  ⟨row_turn h.row ht (fun i hi => hS i (h.row.lt i hi).1 (h.row.lt i hi).2), fun p hp => (h.el p hp).turn ht hS, h.fit⟩
theorem OwnC.below (h : OwnC base w A c q) (hb : Below w.heap.size w w') : OwnC base w' A c q := h.turn (Turn.of_below (S := fun _ => False) hb) (fun _ _ _ e => e)
theorem OwnC.mono {b : Nat} (h : OwnC base w A c q) (hb : b ≤ base) : OwnC b w A c q := ⟨h.row.mono hb, fun p hp => (h.el p hp).mono hb, h.fit⟩
theorem OwnC.nil (base : Nat) (w : World) : OwnC base w none 0 [] := ⟨World.ownsRow_nil _ _ _ _, by simp, by simp⟩
theorem OwnC.chn (h : OwnC base w A c q) : Chn w A c q := by
  have hr := h.row
  rcases hr.2 with ⟨e, h0⟩ | ⟨g, cap, cur, e, hg, hh, hnc, hcm, hsz, hcs⟩
  · injection e with e1 _ e3
    have : q = [] := List.eq_nil_of_length_eq_zero h0
    subst this e1 e3
    exact Chn.nil _
  · injection e with e1 _ e3
    subst e1
    subst e3
    refine ⟨hnc, by unfold maxLen at hcm; omega, fun hp => ⟨g, 0, rfl, lt_of_block hh, fun i p hi => ?_⟩, fun p hp => (h.el p hp).vec, h.fit⟩
    have hl : i < q.length := (List.getElem?_eq_some_iff.1 hi).1
    rw [Nat.zero_add, hr.cellAt (i * 3) (by omega), hr.cellAt (i * 3 + 1) (by omega), hr.cellAt (i * 3 + 2) (by omega)]
    exact flatC_get q i p hi
end

/-! ### append -/
def blk (A : Option Addr) : Option Nat := A.map (·.block)
theorem own_blk (A : Option Addr) (n c : Nat) : (Value.slice A n c).ownBlock = blk A := by cases A <;> rfl
theorem own_form2 {w : World} {base : Nat} {e : TypeId} {size : Nat} {v : Value} {n : Nat} {xs : List Value} (h : w.ownsRow base e size v n xs) : ∃ A c, v = .slice A n c ∧ (A = none ∨ ∃ g, A = some ⟨g, 0, none⟩ ∧ base ≤ g ∧ g < w.heap.size) := by
  rcases h.2 with ⟨rfl, h0⟩ | ⟨g, cap, cur, rfl, hg, hh, _⟩
  · exact ⟨none, 0, by rw [h0], .inl rfl⟩
  · exact ⟨_, cap, rfl, .inr ⟨g, rfl, hg, lt_of_block hh⟩⟩
/-- A slice's type to which one appends: its element, that one's size in cells, its bytes. -/
def AppT (P : Program) (t e : TypeId) (size bytes : Nat) : Prop := P.underlying t = some (.slice e) ∧ ∃ i z, P.info? e = some i ∧ i.zero = some z ∧ i.size = size ∧ i.bytes = bytes ∧ z.cells.size = size ∧ 0 < size ∧ bytes ≤ 100
theorem appV : AppT Try.prog 22 35 3 40 := ⟨Try.underlying22, (Try.prog.info? 35).get (by kernel_rfl), .agg #[.int .u64 0, .int .u64 0, .slice none 0 0], (Option.some_get _).symm, by kernel_rfl, by kernel_rfl, by kernel_rfl, rfl, by decide, by decide⟩
theorem appI : AppT Try.prog 27 21 1 4 := ⟨Try.underlying27, (Try.prog.info? 21).get (by kernel_rfl), .int .i32 0, (Option.some_get _).symm, by kernel_rfl, by kernel_rfl, by kernel_rfl, rfl, by decide, by decide⟩
theorem appU : AppT Try.prog 38 26 1 8 := ⟨Try.underlying38, (Try.prog.info? 26).get (by kernel_rfl), .int .u64 0, (Option.some_get _).symm, by kernel_rfl, by kernel_rfl, by kernel_rfl, rfl, by decide, by decide⟩

/-- What is appended can be read. -/
def Read (w : World) (A : Option Addr) (m size : Nat) (news : List Value) : Prop := news.length = m * size ∧ (∀ u ∈ news, u.oneCell' = true) ∧ (A = none → m = 0) ∧ ∀ b, A = some b → ∀ j u, news[j]? = some u → w.cell? (b.add j) = some u
theorem Read.vec {w : World} {A : Option Addr} {c : Nat} {xs : List Int} {k : IntKind} (h : Vec k w A c xs) : Read w A xs.length 1 (xs.map (Value.int k)) := by
  refine ⟨by simp, by simp; intro x _; rfl, fun e => ?_, fun b e j u hj => ?_⟩
  · rcases Nat.eq_zero_or_pos xs.length with h0 | h0
    · exact h0
    · obtain ⟨b, o, e', _⟩ := h.rd h0; rw [e] at e'; cases e'
  · have hl : j < xs.length := by have := (List.getElem?_eq_some_iff.1 hj).1; simpa using this
    obtain ⟨b', o, e', _, hc⟩ := h.rd (by omega)
    rw [e] at e'
    injection e' with e'
    subst e'
    rw [Addr.add_lit, hc j hl, ← hj]
    simp [List.getD, hl]
theorem Read.one {w : World} {g : Nat} {p : Pl} (h0 : w.cell? ⟨g, 0, none⟩ = some (.int .u64 p.v.b)) (h1 : w.cell? ⟨g, 1, none⟩ = some (.int .u64 p.v.f)) (h2 : w.cell? ⟨g, 2, none⟩ = some (.slice p.B p.v.x.length p.c)) : Read w (some ⟨g, 0, none⟩) 1 3 (flatC [p]) := by
  refine ⟨by simp [flatC_length], flatC_cell _, (fun e => by cases e), fun b e j u hj => ?_⟩
  injection e with e
  subst e
  rw [Addr.add_lit, Nat.zero_add]
  match j, hj with
  | 0, hj => simp [flatC_cons] at hj; rw [h0, hj]
  | 1, hj => simp [flatC_cons] at hj; rw [h1, hj]
  | 2, hj => simp [flatC_cons] at hj; rw [h2, hj]
  | j + 3, hj => simp [flatC_cons, flatC] at hj

theorem run_gapp {w : World} {t e : TypeId} {size bytes : Nat} (hT : AppT Try.prog t e size bytes) (ty : TypeId) (base : Nat) (A0 : Option Addr) (c0 n : Nat) (xs : List Value) (hown : w.ownsRow base e size (.slice A0 n c0) n xs)
    (A : Option Addr) (c m : Nat) (news : List Value) (hr : Read w A m size news) (hbig : n + m ≤ 1099511627776) (hbase : base ≤ w.heap.size) :
    ∃ A1 c1 w', (Builtin.append_ #[t, t] ty #[.slice A0 n c0, .slice A m c]).run Try.prog w = .ok (.slice A1 (n + m) c1) w' ∧ w'.ownsRow base e size (.slice A1 (n + m) c1) (n + m) (xs ++ news) ∧ w.grownBy w' (blk A0) ∧ (blk A1 = blk A0 ∨ blk A1 = some w.heap.size) := by
  obtain ⟨ht, i0, z, hi, hz0, hz1, hz2, hz3, hz4, hz5⟩ := hT
  obtain ⟨hl, h1, hn, hrd⟩ := hr
  have hb : (n + m) * bytes ≤ 140737488355328 := by
    have : (n + m) * bytes ≤ 1099511627776 * 100 := Nat.mul_le_mul hbig hz5
    omega
  rcases A with _ | ad
  · obtain rfl := hn rfl
    obtain rfl : news = [] := List.eq_nil_of_length_eq_zero (by simpa using hl)
    refine ⟨A0, c0, w, ?_, by simpa using hown, World.grownBy.refl _ _, .inl rfl⟩
    rcases hown.2 with ⟨e1, rfl⟩ | ⟨g, cap, cur, e1, _, _, hnc, _⟩
    · injection e1 with e1 _ e3
      subst e1
      subst e3
      simp [Builtin.append_, run_underlying ht, sizeOf, typeInfo, hi, Builtin.lenOf, Builtin.firstCells]
    · injection e1 with e1 _ e3
      subst e1
      subst e3
      simp [Builtin.append_, run_underlying ht, sizeOf, typeInfo, hi, Builtin.lenOf, Builtin.firstCells, hnc, storeCells]
  · obtain ⟨v', w', hrun, h1, h2, h3, h4⟩ := run_append_own_at (P := Try.prog) w base t ty e i0 z size bytes ht hi hz0 hz1 hz2 hz3 hz4 _ n xs hown ad m c news hl (hrd ad rfl) h1 (by unfold maxLen; omega) hb hbase
    obtain ⟨A1, c1, rfl, _⟩ := own_form2 h1
    rw [own_blk] at h2 h4
    rw [own_blk] at h4
    exact ⟨A1, c1, w', hrun, h1, h2, h4⟩

theorem gapp_at {w : World} {ops : Array Oper} {rest : List Oper} {o : Oper} {a : Act} {Q : Exit → Act → World → Prop} (hgd : o.guard = none) (s x : Operand) {t e : TypeId} {size bytes : Nat} (hT : AppT Try.prog t e size bytes)
    (ho : o.op = .call { callee := .builtin .append, args := #[s, x], argTypes := #[t, t] })
    (base : Nat) (A0 : Option Addr) (c0 n : Nat) (xs : List Value) (hs : a.eval s = .slice A0 n c0) (hown : w.ownsRow base e size (.slice A0 n c0) n xs)
    (A : Option Addr) (c m : Nat) (news : List Value) (hx : a.eval x = .slice A m c) (hr : Read w A m size news) (hbig : n + m ≤ 1099511627776) (hbase : base ≤ w.heap.size)
    (h : ∀ A1 c1 w', w'.ownsRow base e size (.slice A1 (n + m) c1) (n + m) (xs ++ news) → w.grownBy w' (blk A0) → (blk A1 = blk A0 ∨ blk A1 = some w.heap.size) → wpList Try.prog ops Q rest (a.put o.dst (.slice A1 (n + m) c1)) w') : wpList Try.prog ops Q (o :: rest) a w := by
  refine wpList_plain hgd fun K hK => ?_
  obtain ⟨A1, c1, w', hrun, h1, h2, h3⟩ := run_gapp hT o.type base A0 c0 n xs hown A c m news hr hbig hbase
  unfold Oper.wp
  simp [execOp, ho, resolve, invoke, builtin, hs, hx, hrun, Result.andThen]
  exact hK _ _ (h A1 c1 w' h1 h2 h3)

/-- .. as a step of a region that draws. -/
theorem gapp_step {w : World} {ops : Array Oper} {o : Oper} {a : Act} {K : Act → World → Prop} {Q : Exit → Act → World → Prop} {E : Prop} (hgd : o.guard = none) (s x : Operand) {t e : TypeId} {size bytes : Nat} (hT : AppT Try.prog t e size bytes)
    (ho : o.op = .call { callee := .builtin .append, args := #[s, x], argTypes := #[t, t] })
    (base : Nat) (A0 : Option Addr) (c0 n : Nat) (xs : List Value) (hs : a.eval s = .slice A0 n c0) (hown : w.ownsRow base e size (.slice A0 n c0) n xs)
    (A : Option Addr) (c m : Nat) (news : List Value) (hx : a.eval x = .slice A m c) (hr : Read w A m size news) (hbig : n + m ≤ 1099511627776) (hbase : base ≤ w.heap.size)
    (h : ∀ A1 c1 w', w'.ownsRow base e size (.slice A1 (n + m) c1) (n + m) (xs ++ news) → w.grownBy w' (blk A0) → (blk A1 = blk A0 ∨ blk A1 = some w.heap.size) → K (a.put o.dst (.slice A1 (n + m) c1)) w') :
    if Region.wanted o (yielded ops a.tmps) = true then Oper.wp Try.prog o a w K Q else E := by
  have hw : Region.wanted o (yielded ops a.tmps) = true := by simp [Region.wanted, hgd]
  rw [if_pos hw]
  obtain ⟨A1, c1, w', hrun, h1, h2, h3⟩ := run_gapp hT o.type base A0 c0 n xs hown A c m news hr hbig hbase
  unfold Oper.wp
  simp [execOp, ho, resolve, invoke, builtin, hs, hx, hrun, Result.andThen]
  exact h A1 c1 w' h1 h2 h3

/-- .. in a fenced walk. -/
theorem gapp_in {F : Fence} {nn : Nat} {w : World} {ops : Array Oper} {rest : List Oper} {o : Oper} {a : Act} {Q : Exit → Act → World → Prop} (hgd : o.guard = none) (s x : Operand) {t e : TypeId} {size bytes : Nat} (hT : AppT Try.prog t e size bytes)
    (ho : o.op = .call { callee := .builtin .append, args := #[s, x], argTypes := #[t, t] })
    (base : Nat) (A0 : Option Addr) (c0 n : Nat) (xs : List Value) (hs : a.eval s = .slice A0 n c0) (hown : w.ownsRow base e size (.slice A0 n c0) n xs)
    (A : Option Addr) (c m : Nat) (news : List Value) (hx : a.eval x = .slice A m c) (hr : Read w A m size news) (hbig : n + m ≤ 1099511627776) (hbase : base ≤ w.heap.size)
    (h : ∀ A1 c1 w', w'.ownsRow base e size (.slice A1 (n + m) c1) (n + m) (xs ++ news) → w.grownBy w' (blk A0) → (blk A1 = blk A0 ∨ blk A1 = some w.heap.size) → wpListIn F nn Try.prog ops Q rest (a.put o.dst (.slice A1 (n + m) c1)) w') : wpListIn F nn Try.prog ops Q (o :: rest) a w := by
  refine wpListIn_plain hgd fun K hK' => ?_
  obtain ⟨A1, c1, w', hrun, h1, h2, h3⟩ := run_gapp hT o.type base A0 c0 n xs hown A c m news hr hbig hbase
  unfold Oper.wpIn
  refine ⟨?_, ?_⟩
  · simp [Oper.about, ho, resolve, Target.leads, Sem.run_pure]
  · rw [Oper.semAt_plain F _ _ (by rw [ho]; intro c hc'; cases hc')]
    simp [execOp, ho, resolve, invoke, builtin, hs, hx, hrun, Result.andThen]
    exact hK' _ _ (h A1 c1 w' h1 h2 h3)

/-- What is appended to bytes of one's own: the own row of versions with one more. -/
theorem OwnC.snoc {base : Nat} {w w' : World} {A A1 : Option Addr} {c c1 : Nat} {q : List Pl} {p : Pl} (h : OwnC base w A c q) (hp : OwnV base w p.B p.c p.v.x) (hf : U64s p.v.b ∧ U64s p.v.f)
    (hr : w'.ownsRow base 35 3 (.slice A1 (q.length + 1) c1) (q.length + 1) (flatC q ++ flatC [p])) (hg : w.grownBy w' (blk A)) : OwnC base w' A1 c1 (q ++ [p]) := by
  have hne : ∀ (B : Option Addr) (cb : Nat) (xs : List Int), OwnV base w B cb xs → OwnV base w' B cb xs := by
    intro B cb xs hB
    refine ⟨hB.1.kept hg ?_, hB.2⟩
    rcases hB.1.2 with ⟨e, h0⟩ | ⟨g, cap, cur, e, hg, hh, _⟩
    · left; rw [e]; rfl
    · right
      rw [e, own_blk]
      intro hbb
      rcases h.row.2 with ⟨e', _⟩ | ⟨g', cap', cur', e', _, hh', _⟩
      · injection e' with e1; rw [e1] at hbb; cases hbb
      · injection e' with e1
        rw [e1] at hbb
        have : g = g' := by simpa [blk] using hbb
        subst this
        rw [hh] at hh'
        injection hh' with hh'
        injection hh' with _ ht _
        exact absurd ht (by decide)
  refine ⟨by rw [flatC_append, List.length_append]; exact hr, fun r hr => ?_, fun r hr => ?_⟩
  · rcases List.mem_append.1 hr with hr | hr
    · exact hne _ _ _ (h.el r hr)
    · obtain rfl : r = p := by simpa using hr
      exact hne _ _ _ hp
  · rcases List.mem_append.1 hr with hr | hr
    · exact h.fit r hr
    · obtain rfl : r = p := by simpa using hr
      exact hf

end Go.Proofs.Ytbnedhhkapbliaa
