/-
  The document's disk, as a value of 21 cells: its form, what it says, Name.
-/
import Derived.Test.YthpbgejjfdgpaaaDiskFile
import Derived.Deep.MidRow
import Derived.Deep.Cut
namespace Go.Proofs.Ythpbgejjfdgpaaa
open Go.RowKit
set_option linter.unusedVariables false
set_option maxRecDepth 100000

/-- A file of the document's disk, as four cells. -/
structure RF where
  there : Bool
  kept : Bool
  A : Option Addr
  n : Nat
  c : Nat
  B : Option Addr
  m : Nat
  d : Nat
def RF.none : RF := ⟨false, false, Option.none, 0, 0, Option.none, 0, 0⟩
structure RD where
  room : Int
  f0 : RF
  f1 : RF
  f2 : RF
  f3 : RF
  ops : Int
  armed : Int
  failing : Int
  dead : Bool
def RD.file (D : RD) (k : Nat) : RF := match k with | 0 => D.f0 | 1 => D.f1 | 2 => D.f2 | _ => D.f3
def RD.put (D : RD) (k : Nat) (F : RF) : RD := match k with | 0 => { D with f0 := F } | 1 => { D with f1 := F } | 2 => { D with f2 := F } | _ => { D with f3 := F }
abbrev rdA (D : RD) : Array Value := #[.int .i64 D.room,
  .bool D.f0.there, .bool D.f0.kept, .slice D.f0.A D.f0.n D.f0.c, .slice D.f0.B D.f0.m D.f0.d,
  .bool D.f1.there, .bool D.f1.kept, .slice D.f1.A D.f1.n D.f1.c, .slice D.f1.B D.f1.m D.f1.d,
  .bool D.f2.there, .bool D.f2.kept, .slice D.f2.A D.f2.n D.f2.c, .slice D.f2.B D.f2.m D.f2.d,
  .bool D.f3.there, .bool D.f3.kept, .slice D.f3.A D.f3.n D.f3.c, .slice D.f3.B D.f3.m D.f3.d,
  .int .i64 D.ops, .int .i64 D.armed, .int .i64 D.failing, .bool D.dead]
abbrev rfA (F : RF) : Array Value := #[.bool F.there, .bool F.kept, .slice F.A F.n F.c, .slice F.B F.m F.d]

theorem name_ref (k : Int) (w : World) : Calls Try.prog 77 #[.int .i64 k] w fun e w' => e = .returned (.bool (decide (Name k))) ∧ w = w' := by
  by_cases h1 : 0 ≤ k
  · have d1 : decide (0 ≤ k) = true := by simp [h1]
    by_cases h2 : k < 4
    · have d2 : decide (k < 4) = true := by simp [h2]
      have HZ : Hid (decide (Name k) = true) := by unfold Hid; simp [Name, h1, h2]
      clear h1 h2
      go_enter Try.func77, Try.ntmps77
      go_wp2
      go_ret
      rw [HZ.out]
      exact ⟨rfl, rfl⟩
    · have d2 : decide (k < 4) = false := by simp; omega
      have HZ : Hid (decide (Name k) = false) := by unfold Hid; rw [decide_eq_false_iff_not]; unfold Name; omega
      clear h1 h2
      go_enter Try.func77, Try.ntmps77
      go_wp2
      go_ret
      rw [HZ.out]
      exact ⟨rfl, rfl⟩
  · have d1 : decide (0 ≤ k) = false := by simp; omega
    have HZ : Hid (decide (Name k) = false) := by unfold Hid; rw [decide_eq_false_iff_not]; unfold Name; omega
    clear h1
    go_enter Try.func77, Try.ntmps77
    go_wp2
    go_ret
    rw [HZ.out]
    exact ⟨rfl, rfl⟩

theorem sizeR : (Try.prog.info? 33).map (·.size) = some 21 := by kernel_rfl
theorem infoF : (Try.prog.info? 30).map (·.size) = some 4 := by kernel_rfl
/-- The world gets a name. -/
theorem name_world {P : Program} {cd : Code} {Q : Exit → Act → World → Prop} {a : Act} {w : World} (Φ : World → Prop) (h : Φ w) (k : ∀ w', Φ w' → Code.wp P cd Q a w') : Code.wp P cd Q a w := k w h
theorem name_list {P : Program} {ops : Array Oper} {l : List Oper} {Q : Exit → Act → World → Prop} {a : Act} {w : World} (Φ : World → Prop) (h : Φ w) (k : ∀ w', Φ w' → wpList P ops Q l a w') : wpList P ops Q l a w := k w h
/-- Block b is the document's disk D; what lay below w's heap is as it was. -/
structure BoxR (w : World) (b : Nat) (D : RD) (W : World) : Prop where
  box : W.heap[b]? = some (.cells (rdA D) 33 (0, 0))
  bel : Below w.heap.size w W
theorem BoxR.load {w W : World} {b : Nat} {D : RD} (h : BoxR w b D W) : (Instr.loadAt 33 (.pointer (some ⟨b, 0, none⟩))).run Try.prog W = .ok (.agg (rdA D)) W := by
  simp only [Instr.loadAt, Instr.sureAddr, Sem.run_bind, Sem.run_pure, Result.andThen_ok, run_loadVar_row W b 33 33 (rdA D) (0, 0) _ h.box Try.underlying33 rfl sizeR]
theorem BoxR.cell {w W : World} {b : Nat} {D : RD} (h : BoxR w b D W) (i : Nat) : W.cell? ⟨b, i, none⟩ = (rdA D)[i]? := by simp only [World.cell?, h.box]; rfl
theorem BoxR.fz {w W : World} {b : Nat} {D : RD} (h : BoxR w b D W) (i : Nat) : W.frozen? ⟨b, i, none⟩ = false := by simp [World.frozen?, h.box]
theorem BoxR.set {w W : World} {b : Nat} {D D' : RD} (h : BoxR w b D W) (hb : w.heap.size ≤ b) (i : Nat) (v : Value) (e : (rdA D).setIfInBounds i v = rdA D') : BoxR w b D' (W.setCell ⟨b, i, none⟩ v) :=
  ⟨by rw [← e]; exact heap_set h.box i v, h.bel.setCell (p := ⟨b, i, none⟩) hb v⟩
theorem BoxR.setOther {w W : World} {b : Nat} {D : RD} (h : BoxR w b D W) {p : Addr} (hb : w.heap.size ≤ p.block) (hne : p.block ≠ b) (v : Value) : BoxR w b D (W.setCell p v) :=
  ⟨by rw [Below.heap_setCell _ _ _ _ (Ne.symm hne)]; exact h.box, h.bel.setCell hb v⟩
theorem BoxR.drewN {w W : World} {b : Nat} {D : RD} (h : BoxR w b D W) (q : Nat) : BoxR w b D (W.drewN q) := ⟨h.box, below_drewN h.bel q⟩
theorem BoxR.later {w W W' : World} {b : Nat} {D : RD} (h : BoxR w b D W) (hb : Below W.heap.size W W') : BoxR w b D W' :=
  ⟨(hb.block b (lt_of_block h.box)).trans h.box, h.bel.trans (hb.mono h.bel.size)⟩
theorem BoxR.new (w : World) (D : RD) : BoxR w w.heap.size D (w.alloc (.cells (rdA D) 33)) := ⟨heap_alloc_new w _, (Below.refl _ w).alloc (Nat.le_refl _) _⟩
/-- The whole of a disk goes into its block. -/
theorem setRow_box (W : World) (b : Nat) (cs old : Array Value) (t : TypeId) (h : W.heap[b]? = some (.cells old t (0, 0))) : (W.setRow b cs).heap[b]? = some (.cells cs t (0, 0)) := setRow_heap W b old cs t _ h

def zeroR : RD := ⟨0, RF.none, RF.none, RF.none, RF.none, 0, 0, 0, false⟩

section
variable {w W : World} {b : Nat} {D : RD}
theorem BoxR.c0 (h : BoxR w b D W) : W.cell? ⟨b, 0, none⟩ = some (.int .i64 D.room) := (h.cell 0).trans rfl
theorem BoxR.c17 (h : BoxR w b D W) : W.cell? ⟨b, 17, none⟩ = some (.int .i64 D.ops) := (h.cell 17).trans rfl
theorem BoxR.c18 (h : BoxR w b D W) : W.cell? ⟨b, 18, none⟩ = some (.int .i64 D.armed) := (h.cell 18).trans rfl
theorem BoxR.c19 (h : BoxR w b D W) : W.cell? ⟨b, 19, none⟩ = some (.int .i64 D.failing) := (h.cell 19).trans rfl
theorem BoxR.c20 (h : BoxR w b D W) : W.cell? ⟨b, 20, none⟩ = some (.bool D.dead) := (h.cell 20).trans rfl
/-- A parameter's box and the result's, both new. -/
theorem two_boxes (w : World) (D : RD) : BoxR w w.heap.size D ((w.alloc (.cells (rdA D) 33)).alloc (.cells (rdA zeroR) 33)) ∧ BoxR w (w.heap.size + 1) zeroR ((w.alloc (.cells (rdA D) 33)).alloc (.cells (rdA zeroR) 33)) := by
  have h1 := (BoxR.new w D).later ((Below.refl _ _).alloc (Nat.le_refl _) (.cells (rdA zeroR) 33))
  refine ⟨h1, ⟨?_, h1.bel⟩⟩
  have := heap_alloc_new (w.alloc (.cells (rdA D) 33)) (.cells (rdA zeroR) 33)
  simpa only [World.size_alloc] using this
/-- The result's block is filled, and the call returns. -/
theorem BoxR.fill (h : BoxR w b D W) (hb : w.heap.size ≤ b) (D' : RD) : BoxR w b D' (W.setRow b (rdA D')) :=
  ⟨setRow_box W b _ _ _ h.box, ⟨h.bel.os, h.bel.tape, h.bel.output, by simpa [World.setRow] using h.bel.size, fun k hk => by
    have := h.bel.block k hk
    rw [← this]
    simp only [World.setRow, Array.getElem?_modify]
    rw [if_neg (by omega)]⟩⟩
end
theorem rd_one (D : RD) : (rdA D).all (·.oneCell') = true := by simp [Value.oneCell']

/-- What a call with a disk's cell among its results answers. -/
theorem results_two {fn : Func} {p s : Tmp} (h : fn.results = #[.cell p 33, .tmp s]) {tmps : Array Value} {w W : World} {b : Nat} {D : RD} (hp : tmps.getD p undef = .pointer (some ⟨b, 0, none⟩)) (hd : BoxR w b D W) {v : Value} (hv : tmps.getD s undef = v) :
    (results fn tmps).run Try.prog W = .ok (.tuple #[.agg (rdA D), v]) W := by
  have hp' : tmps[p]?.getD undef = .pointer (some ⟨b, 0, none⟩) := by simpa using hp
  have hv' : tmps[s]?.getD undef = v := by simpa using hv
  simp [results, h, hp', hv', asAddr, run_loadVar_row W b 33 33 (rdA D) (0, 0) _ hd.box Try.underlying33 rfl sizeR]
theorem results_three {fn : Func} {p s t : Tmp} (h : fn.results = #[.cell p 33, .tmp s, .tmp t]) {tmps : Array Value} {w W : World} {b : Nat} {D : RD} (hp : tmps.getD p undef = .pointer (some ⟨b, 0, none⟩)) (hd : BoxR w b D W) {v u : Value} (hv : tmps.getD s undef = v) (hu : tmps.getD t undef = u) :
    (results fn tmps).run Try.prog W = .ok (.tuple #[.agg (rdA D), v, u]) W := by
  have hp' : tmps[p]?.getD undef = .pointer (some ⟨b, 0, none⟩) := by simpa using hp
  have hv' : tmps[s]?.getD undef = v := by simpa using hv
  have hu' : tmps[t]?.getD undef = u := by simpa using hu
  simp [results, h, hp', hv', hu', asAddr, run_loadVar_row W b 33 33 (rdA D) (0, 0) _ hd.box Try.underlying33 rfl sizeR]
theorem results_oneR {fn : Func} {p : Tmp} (h : fn.results = #[.cell p 33]) {tmps : Array Value} {w W : World} {b : Nat} {D : RD} (hp : tmps.getD p undef = .pointer (some ⟨b, 0, none⟩)) (hd : BoxR w b D W) :
    (results fn tmps).run Try.prog W = .ok (.agg (rdA D)) W :=
  results_cell_row h tmps W b 33 (rdA D) (0, 0) _ hp hd.box Try.underlying33 rfl sizeR

/-- 'x := d', 'd = x' of a disk that lies in its block, as steps of a walk. -/
theorem wp_loadR {ops : Array Oper} {rest : List Oper} {o : Oper} {a : Act} {w W : World} {Q : Exit → Act → World → Prop} (hgd : o.guard = none) (x : Operand) (ho : o.op = .load 33 x) {b : Nat} {D : RD} (hx : a.eval x = .pointer (some ⟨b, 0, none⟩)) (hd : BoxR w b D W)
    (h : wpList Try.prog ops Q rest (a.put o.dst (.agg (rdA D))) W) : wpList Try.prog ops Q (o :: rest) a W :=
  wpList_load_row hgd 33 x ho b hx 33 (rdA D) (0, 0) _ hd.box Try.underlying33 rfl sizeR h
theorem wp_storeR {ops : Array Oper} {rest : List Oper} {o : Oper} {a : Act} {w W : World} {Q : Exit → Act → World → Prop} (hgd : o.guard = none) (x y : Operand) (ho : o.op = .store 33 x y) {b : Nat} {D D' : RD} (hx : a.eval x = .pointer (some ⟨b, 0, none⟩)) (hy : a.eval y = .agg (rdA D')) (hd : BoxR w b D W)
    (h : wpList Try.prog ops Q rest (a.put o.dst undef) (W.setRow b (rdA D'))) : wpList Try.prog ops Q (o :: rest) a W :=
  wpList_store_row hgd 33 x y ho b (rdA D') hx hy 33 (rdA D) hd.box sizeR rfl (rd_one _) h
theorem BoxR.fillOther {w W : World} {b b' : Nat} {D D' : RD} (h : BoxR w b D W) (hb : w.heap.size ≤ b') (hne : b' ≠ b) : BoxR w b D (W.setRow b' (rdA D')) := by
  refine ⟨?_, ⟨h.bel.os, h.bel.tape, h.bel.output, by simpa [World.setRow] using h.bel.size, fun k hk => ?_⟩⟩
  · simp only [World.setRow, Array.getElem?_modify]
    rw [if_neg hne]
    exact h.box
  · simp only [World.setRow, Array.getElem?_modify]
    rw [if_neg (by omega)]
    exact h.bel.block k hk

end Go.Proofs.Ythpbgejjfdgpaaa
