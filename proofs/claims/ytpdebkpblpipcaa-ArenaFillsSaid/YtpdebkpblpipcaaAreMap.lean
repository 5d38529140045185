/-
  Sets of slots in a map; which slots may be dropped, and what is left.
-/
import Derived.Test.YtpdebkpblpipcaaArePack
import Derived.Test.YtpdebkpblpipcaaAreSame
import Derived.Maps.RangeWalk
import Derived.Maps.OwnSet
import Derived.Maps.Ext
namespace Go.Proofs.Ytpdebkpblpipcaa
open Go.RowKit Go.Shelf Go.Maps
set_option linter.unusedVariables false
set_option linter.unusedSimpArgs false
set_option maxRecDepth 100000

abbrev kl (k : Int) : Lit := .int .i64 k
abbrev I64 (k : Int) : Prop := (Lit.int .i64 k).wf = true
theorem keyed : Keyed Try.prog 3 := int_keyed Try.underlying3
theorem keyAt {k : Int} (h : I64 k) : keyOf Try.prog 3 (.int .i64 k) = some (kl k) := keyOf_int_mk Try.underlying3 h
theorem zeroUnit (w : World) : (zeroValue 74).run Try.prog w = .ok (.agg #[]) w := by kernel_rfl
/-- The keys of D are these. -/
def SetD (D : DataW Value) (ks : List Int) : Prop := ∀ k, I64 k → has D (kl k) = decide (k ∈ ks)
/-- The map b has these keys. -/
def MapD (w : World) (b n : Nat) (ks : List Int) : Prop := ∃ D : DataW Value, w.ownsMap Try.prog 3 unitElem b n D ∧ SetD D ks
theorem MapD.lt {w : World} {b n : Nat} {ks : List Int} (h : MapD w b n ks) : b < w.heap.size := by obtain ⟨D, h, _⟩ := h; exact h.lt
theorem MapD.same {w w' : World} {b n : Nat} {ks : List Int} (h : MapD w b n ks) (hb : w'.heap[b]? = w.heap[b]?) : MapD w' b n ks := by
  obtain ⟨D, ⟨es, clock, h1, h2⟩, ht⟩ := h
  exact ⟨D, ⟨es, clock, hb.trans h1, h2⟩, ht⟩
theorem MapD.made (w : World) : MapD (w.alloc (.map #[] 0)) w.heap.size 0 [] := ⟨_, World.ownsMap_made w _ _ _, fun k _ => by simp [has_eq]⟩
theorem setD_put {D : DataW Value} {ks : List Int} (hm : IsMap D) (h : SetD D ks) {k : Int} (hk : I64 k) (d : DataW Value) : SetD (D.put (kl k) d) (ks ++ [k]) := by
  intro j hj
  by_cases e : j = k
  · subst e; rw [has_put_same hm (k := kl j) trivial]; simp
  · rw [has_put_other (by simpa using e), h j hj]; simp [e]

/-! ### what is dropped -/
def dropOk (l : List Ce) (ss : List Int) : Bool := ss.all (usedB l) && decide ss.Nodup
def dropE (l : List Ce) (ss : List Int) : Int := if arB l = true then (if dropOk l ss = true then 0 else 191) else 190
def setZ (l : List Ce) (ss : List Int) : List Ce := l.mapIdx fun j e => if (j : Int) ∈ ss then zc else e
def dropL (l : List Ce) (ss : List Int) : List Ce := if dropE l ss = 0 then setZ l ss else []
theorem drop_not {l : List Ce} {ss : List Int} {E : Int} (h : dropE l ss = E) (hE : E ≠ 0) : dropL l ss = [] := by unfold dropL; rw [h, if_neg hE]
theorem drop_bad {l : List Ce} {ss : List Int} (hr : arB l = true) (h : dropOk l ss = false) : dropE l ss = 191 := by unfold dropE; rw [hr, h]; rfl
theorem drop_good {l : List Ce} {ss : List Int} (hr : arB l = true) (h : dropOk l ss = true) : dropE l ss = 0 := by unfold dropE; rw [hr, h]; rfl
theorem ok_dup {l : List Ce} {ss : List Int} {k : Nat} {x : Int} (hx : ss[k]? = some x) (h : x ∈ ss.take k) : dropOk l ss = false := by
  unfold dropOk
  have : ¬ ss.Nodup := by
    intro hn
    obtain ⟨j, hj, e⟩ := List.getElem_of_mem h
    have hjk : j < k := by simp at hj; omega
    have hkl : k < ss.length := (List.getElem?_eq_some_iff.1 hx).1
    have e2 : ss[j]'(by omega) = ss[k] := by
      rw [List.getElem_take] at e
      rw [e]
      exact (List.getElem?_eq_some_iff.1 hx).2.symm
    exact absurd ((List.getElem_inj hn).1 e2) (by omega)
  simp [this]
theorem ok_free {l : List Ce} {ss : List Int} {k : Nat} {x : Int} (hx : ss[k]? = some x) (h : usedB l x = false) : dropOk l ss = false := by
  unfold dropOk
  have : ss.all (usedB l) = false := by rw [List.all_eq_false]; exact ⟨x, List.mem_of_getElem? hx, by simp [h]⟩
  rw [this]; rfl
/-- The first k may be dropped. -/
def OkTo (l : List Ce) (ss : List Int) (k : Nat) : Prop := (∀ x ∈ ss.take k, usedB l x = true) ∧ (ss.take k).Nodup
theorem OkTo.step {l : List Ce} {ss : List Int} {k : Nat} {x : Int} (h : OkTo l ss k) (hx : ss[k]? = some x) (hu : usedB l x = true) (hn : x ∉ ss.take k) : OkTo l ss (k + 1) := by
  have e : ss.take (k + 1) = ss.take k ++ [x] := by rw [List.take_add_one, hx]; rfl
  refine ⟨fun y hy => ?_, ?_⟩
  · rw [e] at hy
    rcases List.mem_append.1 hy with hy | hy
    · exact h.1 y hy
    · obtain rfl : y = x := by simpa using hy
      exact hu
  · rw [e, List.nodup_append]
    refine ⟨h.2, by simp, ?_⟩
    intro a ha b hb
    obtain rfl : b = x := by simpa using hb
    intro e2; subst e2; exact hn ha
theorem OkTo.all {l : List Ce} {ss : List Int} (h : OkTo l ss ss.length) : dropOk l ss = true := by
  obtain ⟨h1, h2⟩ := h
  rw [List.take_length] at h1 h2
  unfold dropOk
  rw [List.all_eq_true.2 h1, decide_eq_true h2]; rfl
theorem ok_lt {l : List Ce} {ss : List Int} (h : dropOk l ss = true) : ∀ x ∈ ss, ∃ j : Nat, x = j ∧ j < l.length := by
  unfold dropOk at h
  rw [Bool.and_eq_true, List.all_eq_true] at h
  intro x hx
  obtain ⟨j, e, hj, _⟩ := (usedB_iff l x).1 (h.1 x hx)
  exact ⟨j, e, hj⟩
/-- What is left while those that are not left have been dropped. -/
def ZTo (l : List Ce) (ss : List Int) (left : Lit → Bool) (l' : List Ce) : Prop := l'.length = l.length ∧ ∀ j, j < l.length → ceAt l' j = if (j : Int) ∈ ss ∧ left (kl j) = false then zc else ceAt l j
theorem ZTo.start {l : List Ce} {ss : List Int} {left : Lit → Bool} (h : ∀ x ∈ ss, left (kl x) = true) : ZTo l ss left l := ⟨rfl, fun j _ => by
  rw [if_neg]
  rintro ⟨h1, h2⟩
  rw [h _ h1] at h2; cases h2⟩
theorem ZTo.step {l l' : List Ce} {ss : List Int} {left : Lit → Bool} {x : Nat} (h : ZTo l ss left l') (hx : (x : Int) ∈ ss) (hl : x < l.length) : ZTo l ss (fun z => left z && !z.sameKey (kl x)) (l'.set x zc) := by
  refine ⟨by rw [List.length_set]; exact h.1, fun j hj => ?_⟩
  by_cases e : j = x
  · subst e
    have : ceAt (l'.set j zc) j = zc := by simp [ceAt, List.getD, h.1, hl]
    rw [this, if_pos ⟨hx, by simp [Lit.sameKey]⟩]
  · have : ceAt (l'.set x zc) j = ceAt l' j := by simp [ceAt, List.getD, List.getElem?_set, Ne.symm e]
    rw [this, h.2 j hj]
    have hs : (kl (j : Int)).sameKey (kl (x : Int)) = false := by simp [Lit.sameKey]; omega
    simp [hs]
theorem ZTo.done {l l' : List Ce} {ss : List Int} {left : Lit → Bool} (h : ZTo l ss left l') (hl : ∀ z, left z = false) : l' = setZ l ss := by
  apply List.ext_getElem?
  intro j
  by_cases hj : j < l.length
  · rw [at_ce (by rw [h.1]; exact hj), h.2 j hj]
    unfold setZ
    rw [List.getElem?_mapIdx, at_ce hj]
    simp [hl]
  · rw [List.getElem?_eq_none (by rw [h.1]; omega), List.getElem?_eq_none (by unfold setZ; simp; omega)]

end Go.Proofs.Ytpdebkpblpipcaa
