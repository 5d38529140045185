/-
  Vectors and rows of vectors of the call's own; append to a slice of the call's own; slices.Clone at numbers.
-/
import Derived.Test.YtgakfffkadaeeaaVecRefMean
import Derived.Deep.RegionLaw
import Derived.Deep.Onto
import Derived.Maps.AppendAt
namespace Go.Proofs.Ytgakfffkadaeeaa
open Go.RowKit Go.Shelf
set_option linter.unusedVariables false
set_option linter.unusedSimpArgs false
set_option maxRecDepth 100000

/-- Numbers of the call's own. -/
def OwnV (base : Nat) (w : World) (B : Option Addr) (c : Nat) (xs : List Int) : Prop := w.ownsRow base 21 1 (.slice B xs.length c) xs.length (xs.map (Value.int .i32)) ∧ ∀ x ∈ xs, (Lit.int .i32 x).wf = true
theorem row_turn {S : Nat → Prop} {w w' : World} {base : Nat} {e : TypeId} {size : Nat} {v : Value} {n : Nat} {xs : List Value} (h : w.ownsRow base e size v n xs) (ht : Turn S w w') (hS : ∀ i, v.ownBlock = some i → ¬ S i) : w'.ownsRow base e size v n xs := by
  rcases h.2 with ⟨e', h0⟩ | ⟨g, cap, cur, e', hg, hh, hnc, hcm, hsz, hcs⟩
  · exact ⟨h.1, .inl ⟨e', h0⟩⟩
  · refine ⟨h.1, .inr ⟨g, cap, cur, e', hg, (ht.block _ (lt_of_block hh) (hS g ?_)).trans hh, hnc, hcm, hsz, hcs⟩⟩
    rw [e']; rfl
section
variable {base : Nat} {w w' : World} {A : Option Addr} {c : Nat} {xs : List Int}
theorem OwnV.vec (h : OwnV base w A c xs) : Vec .i32 w A c xs := by
  obtain ⟨A', c', e, hv⟩ := Vec.own (m := 0) h.1 h.2
  injection e with e1 _ e2
  subst e1
  subst e2
  exact hv
theorem OwnV.turn {S : Nat → Prop} (h : OwnV base w A c xs) (ht : Turn S w w') (hS : ∀ i, base ≤ i → i < w.heap.size → ¬ S i) : OwnV base w' A c xs :=
  ⟨row_turn h.1 ht (fun i hi => hS i (h.1.lt i hi).1 (h.1.lt i hi).2), h.2⟩
theorem OwnV.below (h : OwnV base w A c xs) (hb : Below w.heap.size w w') : OwnV base w' A c xs := h.turn (Turn.of_below (S := fun _ => False) hb) (fun _ _ _ e => e)
theorem OwnV.mono {b : Nat} (h : OwnV base w A c xs) (hb : b ≤ base) : OwnV b w A c xs := ⟨h.1.mono hb, h.2⟩
theorem OwnV.nil (base : Nat) (w : World) : OwnV base w none 0 [] := ⟨World.ownsRow_nil _ _ _ _, by simp⟩
end
/-! ### append -/
def blk (A : Option Addr) : Option Nat := A.map (·.block)
theorem own_blk (A : Option Addr) (n c : Nat) : (Value.slice A n c).ownBlock = blk A := by cases A <;> rfl
theorem own_form2 {w : World} {base : Nat} {e : TypeId} {size : Nat} {v : Value} {n : Nat} {xs : List Value} (h : w.ownsRow base e size v n xs) : ∃ A c, v = .slice A n c ∧ (A = none ∨ ∃ g, A = some ⟨g, 0, none⟩ ∧ base ≤ g ∧ g < w.heap.size) := by
  rcases h.2 with ⟨rfl, h0⟩ | ⟨g, cap, cur, rfl, hg, hh, _⟩
  · exact ⟨none, 0, by rw [h0], .inl rfl⟩
  · exact ⟨_, cap, rfl, .inr ⟨g, rfl, hg, lt_of_block hh⟩⟩
/-- A slice's type to which one appends: its element, that one's size in cells, its bytes. -/
def AppT (P : Program) (t e : TypeId) (size bytes : Nat) : Prop := P.underlying t = some (.slice e) ∧ ∃ i z, P.info? e = some i ∧ i.zero = some z ∧ i.size = size ∧ i.bytes = bytes ∧ z.cells.size = size ∧ 0 < size ∧ bytes ≤ 100
theorem appI : AppT Try.prog 35 21 1 4 := ⟨Try.underlying35, (Try.prog.info? 21).get (by kernel_rfl), .int .i32 0, (Option.some_get _).symm, by kernel_rfl, by kernel_rfl, by kernel_rfl, rfl, by decide, by decide⟩
theorem appN : AppT Try.prog 23 3 1 8 := ⟨Try.underlying23, (Try.prog.info? 3).get (by kernel_rfl), .int .i64 0, (Option.some_get _).symm, by kernel_rfl, by kernel_rfl, by kernel_rfl, rfl, by decide, by decide⟩
theorem appV : AppT Try.prog 22 35 1 24 := ⟨Try.underlying22, (Try.prog.info? 35).get (by kernel_rfl), .slice none 0 0, (Option.some_get _).symm, by kernel_rfl, by kernel_rfl, by kernel_rfl, rfl, by decide, by decide⟩
/-- What is appended can be read. -/
def Read (w : World) (A : Option Addr) (m size : Nat) (news : List Value) : Prop := news.length = m * size ∧ (∀ u ∈ news, u.oneCell' = true) ∧ (A = none → m = 0) ∧ ∀ b, A = some b → ∀ j u, news[j]? = some u → w.cell? (b.add j) = some u
theorem Read.vec {w : World} {A : Option Addr} {c : Nat} {xs : List Int} {k : IntKind} (h : Vec k w A c xs) : Read w A xs.length 1 (xs.map (Value.int k)) := by
  refine ⟨by simp, by simp; intro x _; rfl, fun e => ?_, fun b e j u hj => ?_⟩
  · rcases Nat.eq_zero_or_pos xs.length with h0 | h0
    · exact h0
    · obtain ⟨b, o, e', _⟩ := h.rd h0; rw [e] at e'; cases e'
  · have hl : j < xs.length := by have := (List.getElem?_eq_some_iff.1 hj).1; simpa using this
    obtain ⟨b', o, e', _, hc⟩ := h.rd (by omega)
    rw [e] at e'
    injection e' with e'
    subst e'
    rw [Addr.add_lit, hc j hl, ← hj]
    simp [List.getD, hl]
theorem Read.int {w : World} {g o : Nat} {k : Int} (h0 : w.cell? ⟨g, o, none⟩ = some (.int .i64 k)) : Read w (some ⟨g, o, none⟩) 1 1 [.int .i64 k] := by
  refine ⟨rfl, by simp; rfl, (fun e => by cases e), fun b e j u hj => ?_⟩
  injection e with e
  subst e
  rw [Addr.add_lit]
  match j, hj with
  | 0, hj => simp at hj; rw [Nat.add_zero, h0, hj]
  | j + 1, hj => simp at hj
theorem Read.one {w : World} {g o : Nat} {v : Value} (h1 : v.oneCell' = true) (h0 : w.cell? ⟨g, o, none⟩ = some v) : Read w (some ⟨g, o, none⟩) 1 1 [v] := by
  refine ⟨rfl, by simpa using h1, (fun e => by cases e), fun b e j u hj => ?_⟩
  injection e with e
  subst e
  rw [Addr.add_lit]
  match j, hj with
  | 0, hj => simp at hj; rw [Nat.add_zero, h0, hj]
  | j + 1, hj => simp at hj

theorem run_gapp {w : World} {t e : TypeId} {size bytes : Nat} (hT : AppT Try.prog t e size bytes) (ty : TypeId) (base : Nat) (A0 : Option Addr) (c0 n : Nat) (xs : List Value) (hown : w.ownsRow base e size (.slice A0 n c0) n xs)
    (A : Option Addr) (c m : Nat) (news : List Value) (hr : Read w A m size news) (hbig : n + m ≤ 1099511627776) (hbase : base ≤ w.heap.size) :
    ∃ A1 c1 w', (Builtin.append_ #[t, t] ty #[.slice A0 n c0, .slice A m c]).run Try.prog w = .ok (.slice A1 (n + m) c1) w' ∧ w'.ownsRow base e size (.slice A1 (n + m) c1) (n + m) (xs ++ news) ∧ w.grownBy w' (blk A0) ∧ (blk A1 = blk A0 ∨ blk A1 = some w.heap.size) := by
  obtain ⟨ht, i0, z, hi, hz0, hz1, hz2, hz3, hz4, hz5⟩ := hT
  obtain ⟨hl, h1, hn, hrd⟩ := hr
  have hb : (n + m) * bytes ≤ 140737488355328 := by
    have : (n + m) * bytes ≤ 1099511627776 * 100 := Nat.mul_le_mul hbig hz5
    omega
  rcases A with _ | ad
  · obtain rfl := hn rfl
    obtain rfl : news = [] := List.eq_nil_of_length_eq_zero (by simpa using hl)
    refine ⟨A0, c0, w, ?_, by simpa using hown, World.grownBy.refl _ _, .inl rfl⟩
    rcases hown.2 with ⟨e1, rfl⟩ | ⟨g, cap, cur, e1, _, _, hnc, _⟩
    · injection e1 with e1 _ e3
      subst e1
      subst e3
      simp [Builtin.append_, run_underlying ht, sizeOf, typeInfo, hi, Builtin.lenOf, Builtin.firstCells]
    · injection e1 with e1 _ e3
      subst e1
      subst e3
      simp [Builtin.append_, run_underlying ht, sizeOf, typeInfo, hi, Builtin.lenOf, Builtin.firstCells, hnc, storeCells]
  · obtain ⟨v', w', hrun, h1, h2, h3, h4⟩ := run_append_own_at (P := Try.prog) w base t ty e i0 z size bytes ht hi hz0 hz1 hz2 hz3 hz4 _ n xs hown ad m c news hl (hrd ad rfl) h1 (by unfold maxLen; omega) hb hbase
    obtain ⟨A1, c1, rfl, _⟩ := own_form2 h1
    rw [own_blk] at h2 h4
    rw [own_blk] at h4
    exact ⟨A1, c1, w', hrun, h1, h2, h4⟩

theorem gapp_at {w : World} {ops : Array Oper} {rest : List Oper} {o : Oper} {a : Act} {Q : Exit → Act → World → Prop} (hgd : o.guard = none) (s x : Operand) {t e : TypeId} {size bytes : Nat} (hT : AppT Try.prog t e size bytes)
    (ho : o.op = .call { callee := .builtin .append, args := #[s, x], argTypes := #[t, t] })
    (base : Nat) (A0 : Option Addr) (c0 n : Nat) (xs : List Value) (hs : a.eval s = .slice A0 n c0) (hown : w.ownsRow base e size (.slice A0 n c0) n xs)
    (A : Option Addr) (c m : Nat) (news : List Value) (hx : a.eval x = .slice A m c) (hr : Read w A m size news) (hbig : n + m ≤ 1099511627776) (hbase : base ≤ w.heap.size)
    (h : ∀ A1 c1 w', w'.ownsRow base e size (.slice A1 (n + m) c1) (n + m) (xs ++ news) → w.grownBy w' (blk A0) → (blk A1 = blk A0 ∨ blk A1 = some w.heap.size) → wpList Try.prog ops Q rest (a.put o.dst (.slice A1 (n + m) c1)) w') : wpList Try.prog ops Q (o :: rest) a w := by
  refine wpList_plain hgd fun K hK => ?_
  obtain ⟨A1, c1, w', hrun, h1, h2, h3⟩ := run_gapp hT o.type base A0 c0 n xs hown A c m news hr hbig hbase
  unfold Oper.wp
  simp [execOp, ho, resolve, invoke, builtin, hs, hx, hrun, Result.andThen]
  exact hK _ _ (h A1 c1 w' h1 h2 h3)

/-- .. as a step of a region that draws. -/
theorem gapp_step {w : World} {ops : Array Oper} {o : Oper} {a : Act} {K : Act → World → Prop} {Q : Exit → Act → World → Prop} {E : Prop} (hgd : o.guard = none) (s x : Operand) {t e : TypeId} {size bytes : Nat} (hT : AppT Try.prog t e size bytes)
    (ho : o.op = .call { callee := .builtin .append, args := #[s, x], argTypes := #[t, t] })
    (base : Nat) (A0 : Option Addr) (c0 n : Nat) (xs : List Value) (hs : a.eval s = .slice A0 n c0) (hown : w.ownsRow base e size (.slice A0 n c0) n xs)
    (A : Option Addr) (c m : Nat) (news : List Value) (hx : a.eval x = .slice A m c) (hr : Read w A m size news) (hbig : n + m ≤ 1099511627776) (hbase : base ≤ w.heap.size)
    (h : ∀ A1 c1 w', w'.ownsRow base e size (.slice A1 (n + m) c1) (n + m) (xs ++ news) → w.grownBy w' (blk A0) → (blk A1 = blk A0 ∨ blk A1 = some w.heap.size) → K (a.put o.dst (.slice A1 (n + m) c1)) w') :
    if Region.wanted o (yielded ops a.tmps) = true then Oper.wp Try.prog o a w K Q else E := by
  have hw : Region.wanted o (yielded ops a.tmps) = true := by simp [Region.wanted, hgd]
  rw [if_pos hw]
  obtain ⟨A1, c1, w', hrun, h1, h2, h3⟩ := run_gapp hT o.type base A0 c0 n xs hown A c m news hr hbig hbase
  unfold Oper.wp
  simp [execOp, ho, resolve, invoke, builtin, hs, hx, hrun, Result.andThen]
  exact h A1 c1 w' h1 h2 h3

/-- .. in a fenced walk. -/
theorem gapp_in {F : Fence} {nn : Nat} {w : World} {ops : Array Oper} {rest : List Oper} {o : Oper} {a : Act} {Q : Exit → Act → World → Prop} (hgd : o.guard = none) (s x : Operand) {t e : TypeId} {size bytes : Nat} (hT : AppT Try.prog t e size bytes)
    (ho : o.op = .call { callee := .builtin .append, args := #[s, x], argTypes := #[t, t] })
    (base : Nat) (A0 : Option Addr) (c0 n : Nat) (xs : List Value) (hs : a.eval s = .slice A0 n c0) (hown : w.ownsRow base e size (.slice A0 n c0) n xs)
    (A : Option Addr) (c m : Nat) (news : List Value) (hx : a.eval x = .slice A m c) (hr : Read w A m size news) (hbig : n + m ≤ 1099511627776) (hbase : base ≤ w.heap.size)
    (h : ∀ A1 c1 w', w'.ownsRow base e size (.slice A1 (n + m) c1) (n + m) (xs ++ news) → w.grownBy w' (blk A0) → (blk A1 = blk A0 ∨ blk A1 = some w.heap.size) → wpListIn F nn Try.prog ops Q rest (a.put o.dst (.slice A1 (n + m) c1)) w') : wpListIn F nn Try.prog ops Q (o :: rest) a w := by
  refine wpListIn_plain hgd fun K hK' => ?_
  obtain ⟨A1, c1, w', hrun, h1, h2, h3⟩ := run_gapp hT o.type base A0 c0 n xs hown A c m news hr hbig hbase
  unfold Oper.wpIn
  refine ⟨?_, ?_⟩
  · simp [Oper.about, ho, resolve, Target.leads, Sem.run_pure]
  · rw [Oper.semAt_plain F _ _ (by rw [ho]; intro c hc'; cases hc')]
    simp [execOp, ho, resolve, invoke, builtin, hs, hx, hrun, Result.andThen]
    exact hK' _ _ (h A1 c1 w' h1 h2 h3)

set_option maxHeartbeats 400000 in
theorem clone_any (A : Option Addr) (c : Nat) (xs : List Int) (w : World) (h : Vec .i32 w A c xs) (hbig : xs.length ≤ 1000000) :
    Calls Try.prog 67 #[.slice A xs.length c] w fun e w' => ∃ A1 c1, e = .returned (.slice A1 xs.length c1) ∧ OwnV w.heap.size w' A1 c1 xs ∧ Below w.heap.size w w' := by
  have q22 : ∀ (w : World) (a : Option Addr) (n c n' c' : Nat), (binOp .eql 35 (.slice a n c) (.slice none n' c')).run Try.prog w = .ok (.bool a.isNone) w := fun w a n c n' c' => Lib.run_eql_slice_nil w _ _ a n c n' c' Try.underlying35
  rcases A with _ | a
  · obtain rfl : xs = [] := by
      rcases xs with _ | ⟨x, xs⟩
      · rfl
      · obtain ⟨_, _, e, _⟩ := h.rd (by simp); cases e
    have HO := Lib.hid (show OwnV w.heap.size w none 0 [] from ⟨World.ownsRow_nil _ _ _ _, by simp⟩)
    rw [List.length_nil]
    clear h
    go_enter Try.func67, Try.ntmps67
    go_wp2
    go_ret
    exact ⟨none, 0, rfl, HO.out, Below.refl _ _⟩
  · have HR := Lib.hid (Read.vec (h.below ((Below.refl _ w).alloc (Nat.le_refl _) (.cells #[] 21))))
    have HF := Lib.hid h.fit
    have HO := Lib.hid (World.ownsRow_made (base := w.heap.size) (size := 1) (e := 21) w #[] 0 (Nat.le_refl _) (Nat.zero_le _) rfl)
    generalize hn : xs.length = n at *
    have HN := Lib.hid hn
    clear h hn
    go_enter Try.func67, Try.ntmps67
    go_wp2_with (at_builtin; refine gapp_at rfl (.tmp 5) (.tmp 6) appI rfl w.heap.size (some ⟨w.heap.size, 0, none⟩) 0 0 [] rfl HO.out (some a) c n (xs.map (Value.int .i32)) rfl HR.out (by omega) (by simp) ?_; intro A1 c1 w1 ho hg _; have HO1 := Lib.hid ho; have HB1 := Lib.hid (show Below w.heap.size w w1 from ((Below.refl _ w).alloc (Nat.le_refl _) (.cells #[] 21)).grown hg (by simp) (fun k hk => Nat.le_of_eq (show w.heap.size = k by simpa [blk] using hk))); clear ho hg)
    go_ret
    refine ⟨A1, c1, rfl, ⟨?_, HF.out⟩, HB1.out⟩
    have := HO1.out
    rw [Nat.zero_add, List.nil_append] at this
    rw [HN.out]
    exact this

/-! ### rows of vectors -/
/-- A vector, and where it lies. -/
structure Pv where
  x : List Int
  B : Option Addr
  c : Nat
def vals (q : List Pv) : List (List Int) := q.map (·.x)
def flatV (q : List Pv) : List Value := q.map fun p => .slice p.B p.x.length p.c
theorem vals_length (q : List Pv) : (vals q).length = q.length := by simp [vals]
theorem flatV_length (q : List Pv) : (flatV q).length = q.length := by simp [flatV]
theorem vals_append (q r : List Pv) : vals (q ++ r) = vals q ++ vals r := by simp [vals]
theorem flatV_append (q r : List Pv) : flatV (q ++ r) = flatV q ++ flatV r := by simp [flatV]
theorem vals_set (q : List Pv) (k : Nat) (p : Pv) : vals (q.set k p) = (vals q).set k p.x := by simp [vals, List.map_set]
theorem flatV_set (q : List Pv) (k : Nat) (p : Pv) : flatV (q.set k p) = (flatV q).set k (.slice p.B p.x.length p.c) := by simp [flatV, List.map_set]
theorem vals_at {q : List Pv} {i : Nat} {p : Pv} (h : q[i]? = some p) : (vals q)[i]? = some p.x := by simp [vals, h]
theorem flatV_at {q : List Pv} {i : Nat} {p : Pv} (h : q[i]? = some p) : (flatV q)[i]? = some (.slice p.B p.x.length p.c) := by simp [flatV, h]
theorem flatV_cell (q : List Pv) : ∀ u ∈ flatV q, u.oneCell' = true := by
  intro u hu
  unfold flatV at hu
  obtain ⟨p, _, rfl⟩ := List.mem_map.1 hu
  rfl
/-- A row of the call's own; its vectors lie wherever. -/
def RowV (base : Nat) (w : World) (A : Option Addr) (c : Nat) (q : List Pv) : Prop := w.ownsRow base 35 1 (.slice A q.length c) q.length (flatV q)
/-- .. with vectors of its own. -/
structure OwnVs (base : Nat) (w : World) (A : Option Addr) (c : Nat) (q : List Pv) : Prop where
  row : RowV base w A c q
  el : ∀ p ∈ q, OwnV base w p.B p.c p.x
section
variable {base : Nat} {w w' : World} {A : Option Addr} {c : Nat} {q : List Pv}
theorem RowV.vecs (h : RowV base w A c q) (he : ∀ p ∈ q, Vec .i32 w p.B p.c p.x) : Vecs .i32 w A c (vals q) := by
  rcases h.2 with ⟨e, h0⟩ | ⟨g, cap, cur, e, hg, hh, hnc, hcm, hsz, hcs⟩
  · injection e with e1 _ e3
    have : q = [] := List.eq_nil_of_length_eq_zero h0
    subst this e1 e3
    exact Vecs.nil _ _
  · injection e with e1 _ e3
    subst e1
    subst e3
    refine ⟨by rw [vals_length]; exact hnc, by unfold maxLen at hcm; omega, fun hp => ⟨g, 0, rfl, lt_of_block hh, fun i x hx => ?_⟩⟩
    have hl : i < q.length := by have := (List.getElem?_eq_some_iff.1 hx).1; rw [vals_length] at this; exact this
    have hp := List.getElem?_eq_getElem hl
    have hv := vals_at hp
    rw [hx] at hv
    injection hv with hv
    rw [Nat.zero_add, World.ownsRow.cellAt h i (by omega), flatV_at hp, hv]
    exact ⟨_, _, rfl, he _ (List.getElem_mem hl)⟩
theorem RowV.turn {S : Nat → Prop} (h : RowV base w A c q) (ht : Turn S w w') (hS : ∀ i, blk A = some i → ¬ S i) : RowV base w' A c q := row_turn h ht (fun i hi => hS i (by rw [own_blk] at hi; exact hi))
theorem RowV.below (h : RowV base w A c q) (hb : Below w.heap.size w w') : RowV base w' A c q := h.turn (Turn.of_below (S := fun _ => False) hb) (fun _ _ e => e)
theorem RowV.mono {b : Nat} (h : RowV base w A c q) (hb : b ≤ base) : RowV b w A c q := World.ownsRow.mono h hb
theorem RowV.low (h : RowV base w A c q) : ∀ i, blk A = some i → base ≤ i ∧ i < w.heap.size := fun i hi => World.ownsRow.lt h i (by rw [own_blk]; exact hi)
theorem RowV.nil (base : Nat) (w : World) : RowV base w none 0 [] := World.ownsRow_nil _ _ _ _
theorem OwnVs.vecs (h : OwnVs base w A c q) : Vecs .i32 w A c (vals q) := h.row.vecs (fun p hp => (h.el p hp).vec)
theorem OwnVs.turn {S : Nat → Prop} (h : OwnVs base w A c q) (ht : Turn S w w') (hS : ∀ i, base ≤ i → i < w.heap.size → ¬ S i) : OwnVs base w' A c q :=
  ⟨h.row.turn ht (fun i hi => hS i (h.row.low i hi).1 (h.row.low i hi).2), fun p hp => (h.el p hp).turn ht hS⟩
theorem OwnVs.below (h : OwnVs base w A c q) (hb : Below w.heap.size w w') : OwnVs base w' A c q := h.turn (Turn.of_below (S := fun _ => False) hb) (fun _ _ _ e => e)
theorem OwnVs.mono {b : Nat} (h : OwnVs base w A c q) (hb : b ≤ base) : OwnVs b w A c q := ⟨h.row.mono hb, fun p hp => (h.el p hp).mono hb⟩
theorem OwnVs.nil (base : Nat) (w : World) : OwnVs base w none 0 [] := ⟨RowV.nil _ _, by simp⟩
end
theorem grown_below {w w' : World} {B : Nat} {A : Option Addr} (hg : w.grownBy w' (blk A)) (hb : B ≤ w.heap.size) (hA : ∀ i, blk A = some i → B ≤ i) : Below B w w' :=
  (Turn.of_grown (S := fun i => blk A = some i) hg (fun i hi => .inl hi)).below hb hA
/-- Numbers lie in no row of vectors. -/
theorem apart_row {base base' : Nat} {w : World} {A B : Option Addr} {c cb : Nat} {q : List Pv} {xs : List Int} (h : RowV base w A c q) (hB : OwnV base' w B cb xs) : ∀ i, blk B = some i → blk A ≠ some i := by
  intro i hi ha
  rcases hB.1.2 with ⟨e, h0⟩ | ⟨g, cap, cur, e, hg, hh, _⟩
  · injection e with e1; rw [e1] at hi; cases hi
  · injection e with e1
    rw [e1] at hi
    rcases h.2 with ⟨e', _⟩ | ⟨g', cap', cur', e', _, hh', _⟩
    · injection e' with e1'; rw [e1'] at ha; cases ha
    · injection e' with e1'
      rw [e1'] at ha
      have h1 : g = i := by simpa [blk] using hi
      have h2 : g' = i := by simpa [blk] using ha
      subst h1 h2
      rw [hh] at hh'
      injection hh' with hh'
      injection hh' with _ ht _
      exact absurd ht (by decide)
theorem OwnV.other {base base' : Nat} {w w' : World} {A B : Option Addr} {c cb : Nat} {q : List Pv} {xs : List Int} (h : RowV base w A c q) (hB : OwnV base' w B cb xs) (ht : Turn (fun i => blk A = some i) w w') : OwnV base' w' B cb xs :=
  ⟨row_turn hB.1 ht (fun i hi => by rw [own_blk] at hi; exact apart_row h hB i hi), hB.2⟩
/-- One more vector of the call's own. -/
theorem OwnVs.snoc {base : Nat} {w w' : World} {A A1 : Option Addr} {c c1 : Nat} {q : List Pv} {p : Pv} (h : OwnVs base w A c q) (hp : OwnV base w p.B p.c p.x)
    (hr : w'.ownsRow base 35 1 (.slice A1 (q.length + 1) c1) (q.length + 1) (flatV q ++ [.slice p.B p.x.length p.c])) (hg : w.grownBy w' (blk A)) : OwnVs base w' A1 c1 (q ++ [p]) := by
  have ht : Turn (fun i => blk A = some i) w w' := Turn.of_grown hg (fun i hi => .inl hi)
  refine ⟨by unfold RowV; rw [flatV_append, List.length_append]; exact hr, fun r hr => ?_⟩
  rcases List.mem_append.1 hr with hr | hr
  · exact (h.el r hr).other h.row ht
  · obtain rfl : r = p := by simpa using hr
    exact hp.other h.row ht
theorem RowV.snoc {base : Nat} {w' : World} {A1 : Option Addr} {c1 : Nat} {q : List Pv} {p : Pv}
    (hr : w'.ownsRow base 35 1 (.slice A1 (q.length + 1) c1) (q.length + 1) (flatV q ++ [.slice p.B p.x.length p.c])) : RowV base w' A1 c1 (q ++ [p]) := by
  unfold RowV; rw [flatV_append, List.length_append]; exact hr
/-- A vector at its place. -/
theorem RowV.at_ {base : Nat} {w : World} {A : Option Addr} {c : Nat} {q : List Pv} (h : RowV base w A c q) {i : Nat} {p : Pv} (hp : q[i]? = some p) : ∃ g, A = some ⟨g, 0, none⟩ ∧ base ≤ g ∧ g < w.heap.size ∧ w.cell? ⟨g, i, none⟩ = some (.slice p.B p.x.length p.c) ∧ w.frozen? ⟨g, i, none⟩ = false := by
  have hl := (List.getElem?_eq_some_iff.1 hp).1
  rcases h.2 with ⟨e, h0⟩ | ⟨g, cap, cur, e, hg, hh, hnc, hcm, hsz, hcs⟩
  · omega
  · injection e with e1 _ e3
    subst e1
    exact ⟨g, rfl, hg, lt_of_block hh, by rw [World.ownsRow.cellAt h i (by omega), flatV_at hp], World.ownsRow.frozenAt h i⟩
/-- .. and put there. -/
theorem OwnVs.put {base : Nat} {w : World} {g c : Nat} {q : List Pv} {p : Pv} (h : OwnVs base w (some ⟨g, 0, none⟩) c q) (hp : OwnV base w p.B p.c p.x) (i : Nat) (hi : i < q.length) : OwnVs base (w.setCell ⟨g, i, none⟩ (.slice p.B p.x.length p.c)) (some ⟨g, 0, none⟩) c (q.set i p) := by
  have ht : Turn (fun k => blk (some (⟨g, 0, none⟩ : Addr)) = some k) w (w.setCell ⟨g, i, none⟩ (.slice p.B p.x.length p.c)) :=
    ⟨rfl, rfl, rfl, by simp [World.setCell], fun k _ hk => Below.heap_setCell _ _ _ _ (fun e => hk (by simp [blk, e]))⟩
  refine ⟨?_, fun r hr => ?_⟩
  · unfold RowV
    rw [flatV_set, List.length_set]
    exact (World.ownsRow.stored h.row i _).1
  · rcases List.mem_or_eq_of_mem_set hr with hr | rfl
    · exact (h.el r hr).other h.row ht
    · exact hp.other h.row ht
theorem Read.rows {base : Nat} {w : World} {A : Option Addr} {c : Nat} {q : List Pv} (h : RowV base w A c q) : Read w A q.length 1 (flatV q) := by
  refine ⟨by rw [flatV_length, Nat.mul_one], flatV_cell q, fun e => ?_, fun b e j u hj => ?_⟩
  · rcases h.2 with ⟨_, h0⟩ | ⟨g, cap, cur, e', _⟩
    · exact h0
    · injection e' with e1; rw [e] at e1; cases e1
  · have hl : j < q.length := by have := (List.getElem?_eq_some_iff.1 hj).1; rw [flatV_length] at this; exact this
    rcases h.2 with ⟨_, h0⟩ | ⟨g, cap, cur, e', _⟩
    · omega
    · injection e' with e1
      subst e1
      injection e with e
      subst e
      rw [Addr.add_lit, Nat.zero_add, World.ownsRow.cellAt h j (by omega), hj]
/-- Rows that can be read, with the places of their vectors. -/
theorem Vecs.placed {w : World} {A : Option Addr} {c : Nat} {l : List (List Int)} (h : Vecs .i32 w A c l) : ∃ q : List Pv, vals q = l ∧ (∀ p ∈ q, Vec .i32 w p.B p.c p.x) ∧ Read w A q.length 1 (flatV q) ∧ ∀ i p, q[i]? = some p → ∃ b o, A = some ⟨b, o, none⟩ ∧ b < w.heap.size ∧ w.cell? ⟨b, o + i, none⟩ = some (.slice p.B p.x.length p.c) := by
  rcases Nat.eq_zero_or_pos l.length with h0 | h0
  · obtain rfl := List.eq_nil_of_length_eq_zero h0
    refine ⟨[], rfl, by simp, ⟨rfl, by simp [flatV], fun _ => rfl, fun b e j u hj => by simp [flatV] at hj⟩, by simp⟩
  · obtain ⟨b, o, e, hb, hc⟩ := h.rd h0
    subst e
    have key : ∀ (n : Nat), n ≤ l.length → ∃ q : List Pv, vals q = l.take n ∧ (∀ p ∈ q, Vec .i32 w p.B p.c p.x) ∧ ∀ i p, q[i]? = some p → w.cell? ⟨b, o + i, none⟩ = some (.slice p.B p.x.length p.c) := by
      intro n
      induction n with
      | zero => exact fun _ => ⟨[], rfl, by simp, by simp⟩
      | succ n ih =>
        intro hn
        obtain ⟨q, h1, h2, h3⟩ := ih (by omega)
        have hx := List.getElem?_eq_getElem (show n < l.length by omega)
        obtain ⟨B, cb, k1, k2⟩ := hc n _ hx
        have hql : q.length = n := by rw [← vals_length, h1, List.length_take]; omega
        refine ⟨q ++ [⟨l[n], B, cb⟩], ?_, fun p hp => ?_, fun i p hp => ?_⟩
        · rw [vals_append, h1, List.take_add_one, hx]; rfl
        · rcases List.mem_append.1 hp with hp | hp
          · exact h2 p hp
          · obtain rfl : p = ⟨l[n], B, cb⟩ := by simpa using hp
            exact k2
        · rcases Nat.lt_or_ge i n with hi | hi
          · rw [List.getElem?_append_left (by omega)] at hp
            exact h3 i p hp
          · rw [List.getElem?_append_right (by omega), hql] at hp
            have : i - n = 0 := by
              rcases Nat.eq_zero_or_pos (i - n) with h | h
              · exact h
              · rw [List.getElem?_eq_none (by simp; omega)] at hp; cases hp
            obtain rfl : i = n := by omega
            simp at hp
            subst hp
            exact k1
    obtain ⟨q, h1, h2, h3⟩ := key l.length (Nat.le_refl _)
    rw [List.take_length] at h1
    refine ⟨q, h1, h2, ⟨by rw [flatV_length, Nat.mul_one], flatV_cell q, fun e => (by cases e), fun b' e j u hj => ?_⟩, fun i p hp => ⟨b, o, rfl, hb, h3 i p hp⟩⟩
    injection e with e
    subst e
    have hl : j < q.length := by have := (List.getElem?_eq_some_iff.1 hj).1; rw [flatV_length] at this; exact this
    rw [Addr.add_lit, h3 j _ (List.getElem?_eq_getElem hl), ← hj, flatV_at (List.getElem?_eq_getElem hl)]

end Go.Proofs.Ytgakfffkadaeeaa
