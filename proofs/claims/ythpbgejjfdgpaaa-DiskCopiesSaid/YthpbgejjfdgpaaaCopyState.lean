/-
  What stands in memory between the parts of DiskCopies: a disk beside the document's, and beside both a copy with the document's of its own.
-/
import Derived.Test.YthpbgejjfdgpaaaRefSays
import Derived.Test.YthpbgejjfdgpaaaLawRun
namespace Go.Proofs.Ythpbgejjfdgpaaa
open Go.RowKit
set_option linter.unusedVariables false
set_option maxRecDepth 100000

theorem ops_run (M : AD) (q : AO) : (M.runM q).ops ≤ M.ops + 1 := by
  have hr := op_range q
  by_cases h9 : q.op < 9
  · rcases (head_run M q h9).2 with ⟨_, _, h, _, _⟩ | ⟨⟨_, _, h, _, _⟩, _⟩
    · omega
    · have hm : M.met.ops = M.ops + 1 := by unfold AD.met; split <;> rfl
      omega
  · by_cases e9 : q.op = 9
    · have : M.runM q = M.armM q.n := by simp [AD.runM, e9]
      rw [this]; unfold AD.armM; split <;> (show M.ops ≤ M.ops + 1; omega)
    · by_cases e10 : q.op = 10
      · have : M.runM q = M.failM q.n := by simp [AD.runM, e10]
        rw [this]; unfold AD.failM; split <;> (show M.ops ≤ M.ops + 1; omega)
      · have e11 : q.op = 11 := by omega
        have : M.runM q = M.crash q.keep := by simp [AD.runM, e11]
        rw [this]; show M.ops ≤ M.ops + 1; omega

theorem turn_cells (W : World) (b : Nat) (cs : Array Value) : Turn (fun g => g = b) W (W.setRow b cs) := turn_row W b cs
theorem BoxR.turn {w W W' : World} {b : Nat} {D : RD} {S : Nat → Prop} (h : BoxR w b D W) (ht : Turn S W W') (hn : ¬ S b) (hs : ∀ k, S k → w.heap.size ≤ k) : BoxR w b D W' :=
  ⟨(ht.block b (lt_of_block h.box) hn).trans h.box, h.bel.trans (ht.below h.bel.size hs)⟩

/-- A disk of the call's own, and the document's beside it in block g. -/
structure Pair (w : World) (S : Nat → Prop) (d g : Nat) (M : AD) (D : RD) (W : World) : Prop where
  at_ : DiskAt W S d M
  up : ∀ k, S k → w.heap.size ≤ k
  box : BoxR w g D W
  low : w.heap.size ≤ g
  far : ¬ S g
  is_ : RefIs W (fun k => S k ∨ k = g) D M
theorem Pair.later {w W W' : World} {S : Nat → Prop} {d g : Nat} {M : AD} {D : RD} (h : Pair w S d g M D W) (hb : Below W.heap.size W W') : Pair w S d g M D W' :=
  ⟨h.at_.later hb, h.up, h.box.later hb, h.low, h.far, h.is_.below hb⟩
/-- The disk went on alone, by an op. -/
theorem Pair.ran {w W W' : World} {S S' : Nat → Prop} {d g : Nat} {M M' : AD} {D : RD} (h : Pair w S d g M D W) (ht : Turn S W W') (hd : DiskAt W' S' d M') (hs : ∀ k, S' k → S k ∨ W.heap.size ≤ k) :
    BoxR w g D W' ∧ (∀ k, S' k → w.heap.size ≤ k) ∧ ¬ S' g ∧ RefIs W' (fun k => S' k ∨ k = g) D M ∧ (∀ k, S' k ∨ k = g → k < W'.heap.size) := by
  have hg : g < W.heap.size := lt_of_block h.box.box
  refine ⟨h.box.turn ht h.far h.up, fun k hk => ?_, fun e => ?_, h.is_.turn ht (fun k _ e => .inl e) (fun k hk e => ?_), fun k hk => ?_⟩
  · rcases hs k hk with e | e
    · exact h.up k e
    · have := h.box.bel.size; omega
  · rcases hs g e with e | e
    · exact h.far e
    · omega
  · rcases e with e | e
    · rcases hs k e with e | e
      · exact .inl e
      · omega
    · exact .inr e
  · rcases hk with e | e
    · exact hd.low e
    · have := ht.size; omega
/-- The document's disk came behind, and is laid in its block. -/
theorem Pair.laid {w W W' : World} {S : Nat → Prop} {d g : Nat} {M' : AD} {D D' : RD} (hd : DiskAt W S d M') (hb : Below W.heap.size W W') (hbox : BoxR w g D W) (hup : ∀ k, S k → w.heap.size ≤ k) (hlow : w.heap.size ≤ g) (hfar : ¬ S g)
    (hr : RefIs W' (fun k => S k ∨ k = g) D' M') : Pair w S d g M' D' (W'.setRow g (rdA D')) :=
  ⟨(hd.later hb).other (turn_row W' g (rdA D')) (fun k hk e => by have e : k = g := e; subst e; exact hfar hk), hup, (hbox.later hb).fill hlow D', hlow, hfar,
    hr.turn (turn_row W' g (rdA D')) (fun k _ e => .inr e) (fun k _ e => e)⟩

/-- A pair, and a copy's pair beside it. -/
structure Both (w : World) (d g c g2 : Nat) (S : Nat → Prop) (M : AD) (D : RD) (T : Nat → Prop) (Mc : AD) (Dn : RD) (W : World) : Prop where
  one : Pair w S d g M D W
  two : Pair w T c g2 Mc Dn W
  st : ∀ k, S k → ¬ T k
  sg : ¬ S g2
  tg : ¬ T g
  gg : g ≠ g2
  is_ : RefIs W (fun k => S k ∨ k = g ∨ T k ∨ k = g2) D M
theorem Both.later {w W W' : World} {d g c g2 : Nat} {S T : Nat → Prop} {M Mc : AD} {D Dn : RD} (h : Both w d g c g2 S M D T Mc Dn W) (hb : Below W.heap.size W W') : Both w d g c g2 S M D T Mc Dn W' :=
  ⟨h.one.later hb, h.two.later hb, h.st, h.sg, h.tg, h.gg, h.is_.below hb⟩
theorem Both.new {w X W : World} {d g c g2 : Nat} {S T : Nat → Prop} {M : AD} {D : RD} (h : Pair w S d g M D X) (hb : Below X.heap.size X W) (hc : DiskAt W T c M) (hT : ∀ k, T k → X.heap.size ≤ k) (hg2 : X.heap.size ≤ g2) (hn : ¬ T g2) (hbox : W.heap[g2]? = some (.cells (rdA D) 33 (0, 0))) :
    Both w d g c g2 S M D T M D W := by
  have hsz := h.box.bel.size
  have hgl : g < X.heap.size := lt_of_block h.box.box
  have hW := (h.later hb)
  refine ⟨hW, ⟨hc, fun k hk => by have := hT k hk; omega, ⟨hbox, hW.box.bel⟩, by omega, hn, ?_⟩, fun k hk e => ?_, fun e => ?_, fun e => ?_, by omega, ?_⟩
  · exact h.is_.turn (S := fun _ => False) (Turn.of_below hb) (fun _ _ e => e.elim) (fun k hk e => by rcases e with e | e; exact absurd (hT k e) (by omega); omega)
  · have h1 := hT k e; have h2 := h.at_.low hk; omega
  · have h2 := h.at_.low e; omega
  · have h1 := hT g e; omega
  · exact h.is_.turn (S := fun _ => False) (Turn.of_below hb) (fun _ _ e => e.elim) (fun k hk e => by rcases e with e | e | e | e; exact .inl e; exact .inr e; exact absurd (hT k e) (by omega); omega)
/-- The copy went on, and the document's behind it: the one that was copied is as it was. -/
theorem Both.went {w W W' : World} {d g c g2 : Nat} {S T T' : Nat → Prop} {M Mc Mc' : AD} {D Dn Dn' : RD} (h : Both w d g c g2 S M D T Mc Dn W) (ht : Turn (fun k => T k ∨ k = g2) W W') (hs : ∀ k, T' k → T k ∨ W.heap.size ≤ k) (h2 : Pair w T' c g2 Mc' Dn' W') :
    Both w d g c g2 S M D T' Mc' Dn' W' := by
  have hgl : g < W.heap.size := lt_of_block h.one.box.box
  have hgl2 : g2 < W.heap.size := lt_of_block h.two.box.box
  have hsz := h.one.box.bel.size
  have hup : ∀ k, (T k ∨ k = g2) → w.heap.size ≤ k := fun k hk => by
    rcases hk with e | e
    · exact h.two.up k e
    · have := h.two.low; omega
  have hf : ∀ k, S k → ¬ (T k ∨ k = g2) := fun k hk e => by
    rcases e with e | e
    · exact h.st k hk e
    · subst e; exact h.sg hk
  have hI := h.is_.turn ht (N' := fun k => S k ∨ k = g ∨ T' k ∨ k = g2) (fun k _ e => by rcases e with e | e; exact .inr (.inr (.inl e)); exact .inr (.inr (.inr e))) (fun k hk e => by
    rcases e with e | e | e | e
    · exact .inl e
    · exact .inr (.inl e)
    · rcases hs k e with e | e
      · exact .inr (.inr (.inl e))
      · omega
    · exact .inr (.inr (.inr e)))
  refine ⟨⟨h.one.at_.other ht hf, h.one.up, h.one.box.turn ht (fun e => e.elim h.tg h.gg) hup, h.one.low, h.one.far, hI.turn (Turn.refl (fun _ => False) _) (fun _ _ e => e.elim) (fun k _ e => by rcases e with e | e; exact .inl e; exact .inr (.inl e))⟩, h2, fun k hk e => ?_, h.sg, fun e => ?_, h.gg, hI⟩
  · rcases hs k e with e | e
    · exact h.st k hk e
    · have := h.one.at_.low hk; omega
  · rcases hs g e with e | e
    · exact h.tg e
    · omega

/-- The disk at the last loop: files were read of it. -/
structure In3 (w : World) (d g : Nat) (S : Nat → Prop) (M : AD) (D : RD) (k : Nat) (M' : AD) (i : Nat) (W : World) : Prop where
  at_ : DiskAt W S d M'
  up : ∀ j, S j → w.heap.size ≤ j
  box : BoxR w g D W
  far : ¬ S g
  is_ : RefIs W (fun j => S j ∨ j = g) D M
  files : M'.files = M.files
  calm : M.dead = false → M.armed = -1 → M.failing = -1 → Free M M' i
  ops : M'.ops ≤ 30 + k
def Mid3 (w : World) (d g : Nat) (S : Nat → Prop) (M : AD) (D : RD) (k : Nat) (W : World) : Prop := ∃ M' i, In3 w d g S M D k M' i W
section
variable {w W W' : World} {d g : Nat} {S : Nat → Prop} {M M' : AD} {D : RD} {k i : Nat}
theorem Mid3.new (h : Pair w S d g M D W) (ho : M.ops ≤ 30) : Mid3 w d g S M D 0 W :=
  ⟨M, 0, h.at_, h.up, h.box, h.far, h.is_, rfl, fun h1 h2 h3 => ⟨rfl, h2, h3, h1, by simp⟩, by omega⟩
theorem Mid3.more (h : Mid3 w d g S M D k W) : Mid3 w d g S M D (k + 1) W := by
  obtain ⟨M', i, h⟩ := h
  exact ⟨M', i, h.at_, h.up, h.box, h.far, h.is_, h.files, h.calm, by have := h.ops; omega⟩
theorem In3.later (h : In3 w d g S M D k M' i W) (hb : Below W.heap.size W W') : In3 w d g S M D k M' i W' :=
  ⟨h.at_.later hb, h.up, h.box.later hb, h.far, h.is_.below hb, h.files, h.calm, h.ops⟩
theorem In3.reads (h : In3 w d g S M D k M' i W) (hk : k < 4) (hd : D.dead = false) (ht : (D.file k).there = true) (ha : ¬ 0 ≤ D.armed) (hf : ¬ 0 ≤ D.failing) :
    ∃ F, M.files (k : Int) = some F ∧ Free M M' i ∧ M'.opC (k : Int) [] = 0 ∧ M'.readB (k : Int) = F.bs ∧ Free M (M'.opM (k : Int) [] M'.met) (i + 1) := by
  have hdm : M.dead = false := by rw [← h.is_.dead]; exact hd
  have ham : M.armed = -1 := by have h1 := h.is_.armed hdm; have h2 := h.is_.small.a1; omega
  have hfm : M.failing = -1 := by have h1 := h.is_.failing hdm; have h2 := h.is_.small.f1; omega
  have hth := (h.is_.file k hk).there
  rw [ht] at hth
  obtain ⟨F, hF⟩ := Option.isSome_iff_exists.1 hth.symm
  have hfr := h.calm hdm ham hfm
  obtain ⟨h1, h2, h3⟩ := free_read hfr h.at_.ok hF
  exact ⟨F, hF, hfr, h1, h2, h3⟩
theorem In3.went (h : In3 w d g S M D k M' i W) (ht : Turn S W W') {M2 : AD} (hd : DiskAt W' S d M2) (hf : Free M M2 (i + 1)) (hc : Free M M' i) : In3 w d g S M D (k + 1) M2 (i + 1) W' := by
  refine ⟨hd, h.up, h.box.turn ht h.far h.up, h.far, h.is_.turn ht (fun j _ e => .inl e) (fun j _ e => e), hf.files, fun _ _ _ => hf, ?_⟩
  have h1 := hf.ops
  have h2 := hc.ops
  have h3 := h.ops
  omega
theorem In3.alls (h : In3 w d g S M D k M' i W) (hk : k < 4) {F : AF} (hF : M.files (k : Int) = some F) (hb : F.bs.length ≤ 65536) (hi : RefIs W' (fun j => S j ∨ j = g) D M) : Calls Try.prog 18 #[.agg (rfA (D.file k))] W' (GivesBs W' F.bs) := by
  have hf := hi.file k hk
  have e : M.file (k : Int) = F := by unfold AD.file; rw [hF]; rfl
  rw [e] at hf
  have h1 := hf.syn.len
  have h2 := hf.loose.len
  have hal := all_ref (D.file k) _ _ W' hf.syn.rd hf.loose.rd h1 h2 (by rw [← h1, ← h2, List.length_take, List.length_drop]; omega)
  rw [List.take_append_drop] at hal
  exact hal
end
theorem wp_loadRG {ops : Array Oper} {rest : List Oper} {o : Oper} {a : Act} {W w : World} {Q : Exit → Act → World → Prop} (hw : Region.wanted o (yielded ops a.tmps) = true) (x : Operand) (ho : o.op = .load 33 x) {b : Nat} {D : RD} (hx : a.eval x = .pointer (some ⟨b, 0, none⟩)) (hd : BoxR w b D W)
    (h : wpList Try.prog ops Q rest (a.put o.dst (.agg (rdA D))) W) : wpList Try.prog ops Q (o :: rest) a W :=
  wpList_step fun K hK => by
    rw [if_pos hw]
    exact wp_load_row 33 x ho b hx 33 (rdA D) (0, 0) _ hd.box Try.underlying33 rfl sizeR (hK _ _ h)
theorem wp_loadFG {ops : Array Oper} {rest : List Oper} {o : Oper} {a : Act} {W w : World} {Q : Exit → Act → World → Prop} (hw : Region.wanted o (yielded ops a.tmps) = true) (x : Operand) (ho : o.op = .load 30 x) {b n : Nat} {D : RD} (hn : n < 4) (hx : a.eval x = .pointer (some ⟨b, 1 + n * 4, none⟩)) (hd : BoxR w b D W)
    (h : wpList Try.prog ops Q rest (a.put o.dst (.agg (rfA (D.file n)))) W) : wpList Try.prog ops Q (o :: rest) a W :=
  wpList_step fun K hK => by
    rw [if_pos hw]
    exact wp_load_mid 30 x ho b (1 + n * 4) hx (rfA (D.file n)).toList _ (hd.range hn) Try.underlying30 rfl sizeF (hK _ _ h)

end Go.Proofs.Ythpbgejjfdgpaaa
