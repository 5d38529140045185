/-
  AreMap, AreDoPut, LawFrame.
-/
import Derived.Test.YtcekgllahlhaaaaMAre
import Derived.Maps.RangeWalk
import Derived.Maps.OwnSet
import Derived.Maps.Ext
import Derived.Test.YtcekgllahlhaaaaRows
import Derived.ProofKit
import Derived.OpenShut
import Derived.ChangeOld
import Derived.Deep.Matrix
import Derived.Deep.SlicePairs
import Derived.Deep.Fields
namespace Go.Proofs.Ytcekgllahlhaaaa
open Go.RowKit Go.Shelf Go.Maps
set_option linter.unusedVariables false
set_option linter.unusedSimpArgs false
set_option maxRecDepth 100000

abbrev kl (k : Int) : Lit := .int .i64 k
abbrev I64 (k : Int) : Prop := (Lit.int .i64 k).wf = true
theorem keyed : Keyed Try.prog 3 := int_keyed Try.underlying3
theorem keyAt {k : Int} (h : I64 k) : keyOf Try.prog 3 (.int .i64 k) = some (kl k) := keyOf_int_mk Try.underlying3 h
/-- The keys of D are these. -/
def SetD (D : DataW Value) (ks : List Int) : Prop := ∀ k, I64 k → has D (kl k) = decide (k ∈ ks)
/-- The map b has these keys. -/
def MapD (w : World) (b n : Nat) (ks : List Int) : Prop := ∃ D : DataW Value, w.ownsMap Try.prog 3 unitElem b n D ∧ SetD D ks
theorem MapD.lt {w : World} {b n : Nat} {ks : List Int} (h : MapD w b n ks) : b < w.heap.size := by obtain ⟨D, h, _⟩ := h; exact h.lt
theorem MapD.same {w w' : World} {b n : Nat} {ks : List Int} (h : MapD w b n ks) (hb : w'.heap[b]? = w.heap[b]?) : MapD w' b n ks := by
  obtain ⟨D, ⟨es, clock, h1, h2⟩, ht⟩ := h
  exact ⟨D, ⟨es, clock, hb.trans h1, h2⟩, ht⟩
theorem MapD.made (w : World) : MapD (w.alloc (.map #[] 0)) w.heap.size 0 [] := ⟨_, World.ownsMap_made w _ _ _, fun k _ => by simp [has_eq]⟩
theorem setD_put {D : DataW Value} {ks : List Int} (hm : IsMap D) (h : SetD D ks) {k : Int} (hk : I64 k) (d : DataW Value) : SetD (D.put (kl k) d) (ks ++ [k]) := by
  intro j hj
  by_cases e : j = k
  · subst e; rw [has_put_same hm (k := kl j) trivial]; simp
  · rw [has_put_other (by simpa using e), h j hj]; simp [e]

/-! ### what is dropped -/
def dropOk (l : List Ce) (ss : List Int) : Bool := ss.all (usedB l) && decide ss.Nodup
def dropE (l : List Ce) (ss : List Int) : Int := if arB l = true then (if dropOk l ss = true then 0 else 191) else 190
def setZ (l : List Ce) (ss : List Int) : List Ce := l.mapIdx fun j e => if (j : Int) ∈ ss then zc else e
def dropL (l : List Ce) (ss : List Int) : List Ce := if dropE l ss = 0 then setZ l ss else []
theorem drop_not {l : List Ce} {ss : List Int} {E : Int} (h : dropE l ss = E) (hE : E ≠ 0) : dropL l ss = [] := by unfold dropL; rw [h, if_neg hE]
theorem drop_bad {l : List Ce} {ss : List Int} (hr : arB l = true) (h : dropOk l ss = false) : dropE l ss = 191 := by unfold dropE; rw [hr, h]; rfl
theorem drop_good {l : List Ce} {ss : List Int} (hr : arB l = true) (h : dropOk l ss = true) : dropE l ss = 0 := by unfold dropE; rw [hr, h]; rfl
theorem ok_dup {l : List Ce} {ss : List Int} {k : Nat} {x : Int} (hx : ss[k]? = some x) (h : x ∈ ss.take k) : dropOk l ss = false := by
  unfold dropOk
  have : ¬ ss.Nodup := by
    intro hn
    obtain ⟨j, hj, e⟩ := List.getElem_of_mem h
    have hjk : j < k := by simp at hj; omega
    have hkl : k < ss.length := (List.getElem?_eq_some_iff.1 hx).1
    have e2 : ss[j]'(by omega) = ss[k] := by
      rw [List.getElem_take] at e
      rw [e]
      exact (List.getElem?_eq_some_iff.1 hx).2.symm
    exact absurd ((List.getElem_inj hn).1 e2) (by omega)
  simp [this]
theorem ok_free {l : List Ce} {ss : List Int} {k : Nat} {x : Int} (hx : ss[k]? = some x) (h : usedB l x = false) : dropOk l ss = false := by
  unfold dropOk
  have : ss.all (usedB l) = false := by rw [List.all_eq_false]; exact ⟨x, List.mem_of_getElem? hx, by simp [h]⟩
  rw [this]; rfl
/-- The first k may be dropped. -/
def OkTo (l : List Ce) (ss : List Int) (k : Nat) : Prop := (∀ x ∈ ss.take k, usedB l x = true) ∧ (ss.take k).Nodup
theorem OkTo.step {l : List Ce} {ss : List Int} {k : Nat} {x : Int} (h : OkTo l ss k) (hx : ss[k]? = some x) (hu : usedB l x = true) (hn : x ∉ ss.take k) : OkTo l ss (k + 1) := by
  have e : ss.take (k + 1) = ss.take k ++ [x] := by rw [List.take_add_one, hx]; rfl
  refine ⟨fun y hy => ?_, ?_⟩
  · rw [e] at hy
    rcases List.mem_append.1 hy with hy | hy
    · exact h.1 y hy
    · obtain rfl : y = x := by simpa using hy
      exact hu
  · rw [e, List.nodup_append]
    refine ⟨h.2, by simp, ?_⟩
    intro a ha b hb
    obtain rfl : b = x := by simpa using hb
    intro e2; subst e2; exact hn ha
theorem OkTo.all {l : List Ce} {ss : List Int} (h : OkTo l ss ss.length) : dropOk l ss = true := by
  obtain ⟨h1, h2⟩ := h
  rw [List.take_length] at h1 h2
  unfold dropOk
  rw [List.all_eq_true.2 h1, decide_eq_true h2]; rfl
theorem ok_lt {l : List Ce} {ss : List Int} (h : dropOk l ss = true) : ∀ x ∈ ss, ∃ j : Nat, x = j ∧ j < l.length := by
  unfold dropOk at h
  rw [Bool.and_eq_true, List.all_eq_true] at h
  intro x hx
  obtain ⟨j, e, hj, _⟩ := (usedB_iff l x).1 (h.1 x hx)
  exact ⟨j, e, hj⟩
/-- What is left while those that are not left have been dropped. -/
def ZTo (l : List Ce) (ss : List Int) (left : Lit → Bool) (l' : List Ce) : Prop := l'.length = l.length ∧ ∀ j, j < l.length → ceAt l' j = if (j : Int) ∈ ss ∧ left (kl j) = false then zc else ceAt l j
theorem ZTo.start {l : List Ce} {ss : List Int} {left : Lit → Bool} (h : ∀ x ∈ ss, left (kl x) = true) : ZTo l ss left l := ⟨rfl, fun j _ => by
  rw [if_neg]
  rintro ⟨h1, h2⟩
  rw [h _ h1] at h2; cases h2⟩
theorem ZTo.step {l l' : List Ce} {ss : List Int} {left : Lit → Bool} {x : Nat} (h : ZTo l ss left l') (hx : (x : Int) ∈ ss) (hl : x < l.length) : ZTo l ss (fun z => left z && !z.sameKey (kl x)) (l'.set x zc) := by
  refine ⟨by rw [List.length_set]; exact h.1, fun j hj => ?_⟩
  by_cases e : j = x
  · subst e
    have : ceAt (l'.set j zc) j = zc := by simp [ceAt, List.getD, h.1, hl]
    rw [this, if_pos ⟨hx, by simp [Lit.sameKey]⟩]
  · have : ceAt (l'.set x zc) j = ceAt l' j := by simp [ceAt, List.getD, List.getElem?_set, Ne.symm e]
    rw [this, h.2 j hj]
    have hs : (kl (j : Int)).sameKey (kl (x : Int)) = false := by simp [Lit.sameKey]; omega
    simp [hs]
theorem ZTo.done {l l' : List Ce} {ss : List Int} {left : Lit → Bool} (h : ZTo l ss left l') (hl : ∀ z, left z = false) : l' = setZ l ss := by
  apply List.ext_getElem?
  intro j
  by_cases hj : j < l.length
  · rw [at_ce (by rw [h.1]; exact hj), h.2 j hj]
    unfold setZ
    rw [List.getElem?_mapIdx, at_ce hj]
    simp [hl]
  · rw [List.getElem?_eq_none (by rw [h.1]; omega), List.getElem?_eq_none (by unfold setZ; simp; omega)]

end Go.Proofs.Ytcekgllahlhaaaa

namespace Go.Proofs.Ytcekgllahlhaaaa
open Go.RowKit Go.Shelf
set_option linter.unusedVariables false
set_option linter.unusedSimpArgs false
set_option maxRecDepth 100000

def putE (l : List Ce) (b f : Int) (x : List Int) : Int := if arB l = true then (if verR b f x = true then (match leastO l with | some _ => 0 | none => 6) else 171) else 190
def putK (l : List Ce) (b f : Int) (x : List Int) : Int := if putE l b f x = 0 then idxK (leastO l) else 0
def putL (l : List Ce) (id b f : Int) (x : List Int) : List Ce := if putE l b f x = 0 then (match leastO l with | some k => l.set k ⟨true, id, b, f, x⟩ | none => []) else []
theorem put_no {l : List Ce} {b f : Int} {x : List Int} {E : Int} (h : putE l b f x = E) (hE : E ≠ 0) (id : Int) : putK l b f x = 0 ∧ putL l id b f x = [] := by unfold putK putL; rw [h, if_neg hE, if_neg hE]; exact ⟨rfl, rfl⟩
/-- A call that answers an arena of the call's own, a slot and an error. -/
def GivesP (w : World) (l : List Ce) (k er : Int) (e : Ending) (w' : World) : Prop := ∃ A c q, e = .returned (.tuple #[.agg #[.slice A (List.length q) c], .int .i64 k, .int .i64 er]) ∧ ces q = l ∧ OwnA w.heap.size w' A c q ∧ Below w.heap.size w w'
theorem verE_iff (b f : Int) (x : List Int) : verE b f x = if verR b f x = true then 0 else 171 := rfl

/-- What lies in the boxes of Put. -/
structure PutB (w W0 : World) (A : Option Addr) (n c : Nat) (b f : Int) (B : Option Addr) (nx cx : Nat) : Prop where
  size : W0.heap.size = w.heap.size + 3
  below : Below w.heap.size w W0
  ar : Boxed W0 w.heap.size 55 (.slice A n c)
  ver : W0.heap[w.heap.size + 1]? = some (.cells #[.int .u64 b, .int .u64 f, .slice B nx cx] 85 (0, 0))
  res : Boxed W0 (w.heap.size + 2) 55 (.slice none 0 0)
theorem putB (w : World) (A : Option Addr) (n c : Nat) (b f : Int) (B : Option Addr) (nx cx : Nat) : PutB w (((w.alloc (.cells #[.slice A n c] 55)).alloc (.cells #[.int .u64 b, .int .u64 f, .slice B nx cx] 85)).alloc (.cells #[.slice none 0 0] 55)) A n c b f B nx cx := by
  refine ⟨by simp, (((Below.refl _ w).alloc (Nat.le_refl _) _).alloc (by simp) _).alloc (by simp; omega) _, ((Boxed.new w _ _).alloc _).alloc _, ?_, ?_⟩
  · have h := heap_alloc_new (w.alloc (.cells #[.slice A n c] 55)) (.cells #[.int .u64 b, .int .u64 f, .slice B nx cx] 85)
    rw [World.size_alloc] at h
    exact (Below.heap_alloc _ _ _ (by simp)).trans h
  · have h := Boxed.new ((w.alloc (.cells #[.slice A n c] 55)).alloc (.cells #[.int .u64 b, .int .u64 f, .slice B nx cx] 85)) 55 (.slice none 0 0)
    rw [World.size_alloc, World.size_alloc] at h
    exact h
theorem PutB.later {w W0 X : World} {A : Option Addr} {n c : Nat} {b f : Int} {B : Option Addr} {nx cx : Nat} (h : PutB w W0 A n c b f B nx cx) (hX : Below W0.heap.size W0 X) :
    Below w.heap.size w X ∧ Boxed X w.heap.size 55 (.slice A n c) ∧ X.heap[w.heap.size + 1]? = some (.cells #[.int .u64 b, .int .u64 f, .slice B nx cx] 85 (0, 0)) ∧ Boxed X (w.heap.size + 2) 55 (.slice none 0 0) :=
  ⟨h.below.trans (hX.mono h.below.size), (hX.block _ h.ar.lt).trans h.ar, (hX.block _ (lt_of_block h.ver)).trans h.ver, (hX.block _ h.res.lt).trans h.res⟩

end Go.Proofs.Ytcekgllahlhaaaa

namespace Go.Proofs.Ytcekgllahlhaaaa
open Go.ChangeShapes Go.WideShapes Go.ChangeAt Go.RowKit Go.Deep
set_option linter.unusedVariables false
set_option linter.unusedSimpArgs false
set_option maxRecDepth 100000

theorem Try.own : ownKnob Try.prog.godebug = none := by kernel_rfl
theorem Try.laidOut : laidOutB Try.prog = true := by kernel_rfl

/-- All arguments at once: below the heap's old size nothing has turned, so each reads as it did. -/
theorem trodAll_kept {H : Type} {enc : TypeId × Value → H} {P : Program} {W W' : World} (hl : laidOutB P = true) (hb : Below W.heap.size W W') (ts : List TypeId) :
    ∀ (vs : List Value) (ds : List (DataW H)) (ps : List MemPlace), (ts.all fun t => P.readableRec t && decide (t < P.types.size)) = true →
      DataW.TrodAll enc P W 0 (fun _ => true) true ts vs ds ps → DataW.TrodAll enc P W' 0 (fun b => decide (b < W.heap.size)) true ts vs ds ps := by
  induction ts with
  | nil =>
    intro vs ds ps _ h
    rcases vs with _ | ⟨v, vs⟩ <;> rcases ds with _ | ⟨d, ds⟩ <;> simp [DataW.TrodAll] at h ⊢
    exact h
  | cons t ts ih =>
    intro vs ds ps ht h
    rcases vs with _ | ⟨v, vs⟩
    · simp [DataW.TrodAll] at h
    rcases ds with _ | ⟨d, ds⟩
    · simp [DataW.TrodAll] at h
    obtain ⟨p, q, h1, h2, rfl⟩ := h
    simp only [List.all_cons, Bool.and_eq_true, decide_eq_true_eq] at ht
    have lt : ∀ x ∈ p, x.block < W.heap.size := by obtain ⟨m, hm⟩ := h1; exact DataW.trod_lt m _ _ _ hm
    exact ⟨p, q, Below.trod hl ht.1.1 ht.1.2 h1 hb lt, ih vs ds q ht.2 h2, rfl⟩
theorem trodAll_below {H : Type} {enc : TypeId × Value → H} {W W' : World} (hb : Below W.heap.size W W') (ts : List TypeId) (vs : List Value) (ds : List (DataW H)) (ps : List MemPlace)
    (ht : (ts.all fun t => Try.prog.readableRec t && decide (t < Try.prog.types.size)) = true) (h : DataW.TrodAll enc Try.prog W 0 (fun _ => true) true ts vs ds ps) :
    DataW.TrodAll enc Try.prog W' 0 (fun b => decide (b < W.heap.size)) true ts vs ds ps := trodAll_kept Try.laidOut hb ts vs ds ps ht h

/-- Numbers that came in. -/
theorem vec_core {H : Type} {enc : TypeId × Value → H} {W : World} {fuel : Nat} {cs : List Value} {x : DataW H × List MemPlace} (h : DataW.trod enc Try.prog W 0 (fun _ => true) true fuel 26 cs = some x) :
    ∃ A c xs, cs = [.slice A (List.length xs) c] ∧ Vec .i32 W A c xs := by
  rcases open_ints Try.underlying26 Try.underlying21 (by kernel_rfl) h with ⟨hcs, _⟩ | ⟨x, len, cap, zs, hcs, _, hl, hm, hz, _, hcell, hwz⟩
  · exact ⟨none, 0, [], hcs, Vec.nil _ _⟩
  · have hz' : zs.length = cap := by simpa using hz
    have hlen : (zs.take len).length = len := by simp; omega
    refine ⟨some x, cap, zs.take len, by rw [hlen]; exact hcs, ⟨by omega, by unfold maxLen at hm; omega, fun hp => ?_, fun b hb => hwz b (List.mem_of_mem_take hb)⟩⟩
    obtain ⟨b, off, spot⟩ := x
    have hc := hcell 0 (by omega)
    have hspot : spot = none := by simpa [Addr.add] using World.cell?_spot hc
    subst hspot
    have hc' : W.cell? ⟨b, off, none⟩ = some (.int .i32 (zs.getD 0 0)) := by simpa [Addr.add] using hc
    refine ⟨b, off, rfl, World.block_lt_of_cell? W _ hc', fun j hj => ?_⟩
    have h1 := hcell j (by omega)
    rw [Addr.add_lit] at h1
    rw [h1]
    have : j < len := by omega
    simp [List.getD, this]
theorem ver_core {H : Type} {enc : TypeId × Value → H} {W : World} {fuel : Nat} {cs : List Value} {x : DataW H × List MemPlace} (h : DataW.trod enc Try.prog W 0 (fun _ => true) true fuel 85 cs = some x) :
    ∃ b f A c xs, cs = [.int .u64 b, .int .u64 f, .slice A (List.length xs) c] ∧ (Lit.int .u64 b).wf = true ∧ (Lit.int .u64 f).wf = true ∧ Vec .i32 W A c xs := by
  have hu := Try.underlying85
  have hone := fun i f => hone_of (P := Try.prog) (fs := (match Try.prog.underlying 85 with | some (.struct fs) => fs | _ => #[])) (by kernel_rfl) i f
  rw [hu] at hone
  obtain ⟨ys, n, _, _, hlen, hy, hf⟩ := DataW.trod_struct hu h
  have h2 : Try.prog.cellsOf 85 = 3 := by kernel_rfl
  rw [h2] at hlen
  match cs, hlen with
  | [v0, v1, v2], _ =>
    have f0 : DataW.trod enc Try.prog W 0 (fun _ => true) true n 36 [v0] = ys[0]? := by have h1 := hf 0 _ rfl; obtain ⟨o1, k1⟩ := hone 0 _ rfl; rw [o1, k1] at h1; exact h1
    have f1 : DataW.trod enc Try.prog W 0 (fun _ => true) true n 36 [v1] = ys[1]? := by have h1 := hf 1 _ rfl; obtain ⟨o1, k1⟩ := hone 1 _ rfl; rw [o1, k1] at h1; exact h1
    have f2 : DataW.trod enc Try.prog W 0 (fun _ => true) true n 26 [v2] = ys[2]? := by have h1 := hf 2 _ rfl; obtain ⟨o1, k1⟩ := hone 2 _ rfl; rw [o1, k1] at h1; exact h1
    have g : ∀ (i : Nat) (hi : i < 3), ∃ y, ys[i]? = some y := fun i hi => ⟨_, List.getElem?_eq_getElem (by rw [hy]; exact hi)⟩
    obtain ⟨y0, e0⟩ := g 0 (by omega)
    obtain ⟨y1, e1⟩ := g 1 (by omega)
    obtain ⟨y2, e2⟩ := g 2 (by omega)
    rw [e0] at f0
    rw [e1] at f1
    rw [e2] at f2
    obtain ⟨a, ha, _, wa⟩ := DataW.trod_int Try.underlying36 f0
    obtain ⟨b, hb, _, wb⟩ := DataW.trod_int Try.underlying36 f1
    obtain ⟨A, c, xs, hc, hv⟩ := vec_core f2
    simp at ha hb hc
    subst ha
    subst hb
    subst hc
    exact ⟨a, b, A, c, xs, rfl, wa, wb, hv⟩


theorem open_ver {H : Type} {enc : TypeId × Value → H} {r : Reach} {b0 : Nat} {v : Value} {W : World} {d : DataW H} {p : List MemPlace} (hv : Value.okWide Try.prog W r b0 85 v) (h : DataW.Trod enc Try.prog W 0 (fun _ => true) true 85 v d p) :
    ∃ b f A c xs, v = .agg #[.int .u64 b, .int .u64 f, .slice A (List.length xs) c] ∧ U64s b ∧ U64s f ∧ Vec .i32 W A c xs := by
  obtain ⟨cs, rfl, _⟩ := okWide_struct Try.underlying85 hv
  obtain ⟨fuel, hf⟩ := h
  obtain ⟨b, f, A, c, xs, e, wb, wf, hx⟩ := ver_core (cs := cs.toList) (by simpa [Value.cells] using hf)
  exact ⟨b, f, A, c, xs, by congr 1; exact Array.toList_inj.1 e, wb, wf, hx⟩

theorem cell_core {H : Type} {enc : TypeId × Value → H} {W : World} {fuel : Nat} {cs : List Value} {x : DataW H × List MemPlace} (h : DataW.trod enc Try.prog W 0 (fun _ => true) true fuel 87 cs = some x) :
    ∃ p : Pa, cs = [.bool p.e.u, .int .u64 p.e.i, .int .u64 p.e.b, .int .u64 p.e.f, .slice p.B p.e.x.length p.c] ∧ Fit p.e ∧ Vec .i32 W p.B p.c p.e.x := by
  have hu := Try.underlying87
  obtain ⟨ys, n, _, _, hlen, hy, hf⟩ := DataW.trod_struct hu h
  have h5 : Try.prog.cellsOf 87 = 5 := by kernel_rfl
  have h3 : Try.prog.cellsOf 85 = 3 := by kernel_rfl
  have h1b : Try.prog.cellsOf 4 = 1 := by kernel_rfl
  have h1u : Try.prog.cellsOf 36 = 1 := by kernel_rfl
  rw [h5] at hlen
  match cs, hlen with
  | [v0, v1, v2, v3, v4], _ =>
    have f0 : DataW.trod enc Try.prog W 0 (fun _ => true) true n 4 [v0] = ys[0]? := by have h1 : DataW.trod enc Try.prog W 0 (fun _ => true) true n 4 (([v0, v1, v2, v3, v4].drop 0).take (Try.prog.cellsOf 4)) = ys[0]? := hf 0 _ rfl; rw [h1b] at h1; exact h1
    have f1 : DataW.trod enc Try.prog W 0 (fun _ => true) true n 36 [v1] = ys[1]? := by have h1 : DataW.trod enc Try.prog W 0 (fun _ => true) true n 36 (([v0, v1, v2, v3, v4].drop 1).take (Try.prog.cellsOf 36)) = ys[1]? := hf 1 _ rfl; rw [h1u] at h1; exact h1
    have f2 : DataW.trod enc Try.prog W 0 (fun _ => true) true n 85 [v2, v3, v4] = ys[2]? := by have h1 : DataW.trod enc Try.prog W 0 (fun _ => true) true n 85 (([v0, v1, v2, v3, v4].drop 2).take (Try.prog.cellsOf 85)) = ys[2]? := hf 2 _ rfl; rw [h3] at h1; exact h1
    have g : ∀ (i : Nat) (hi : i < 3), ∃ y, ys[i]? = some y := fun i hi => ⟨_, List.getElem?_eq_getElem (by rw [hy]; exact hi)⟩
    obtain ⟨y0, e0⟩ := g 0 (by omega)
    obtain ⟨y1, e1⟩ := g 1 (by omega)
    obtain ⟨y2, e2⟩ := g 2 (by omega)
    rw [e0] at f0
    rw [e1] at f1
    rw [e2] at f2
    obtain ⟨u, hu0, _⟩ := DataW.trod_bool Try.underlying4 f0
    obtain ⟨i, hi, _, wi⟩ := DataW.trod_int Try.underlying36 f1
    obtain ⟨b, f, A, c, xs, hc, wb, wf, hv⟩ := ver_core f2
    simp at hu0 hi hc
    obtain ⟨rfl, rfl, rfl⟩ := hc
    subst hu0
    subst hi
    exact ⟨⟨⟨u, i, b, f, xs⟩, A, c⟩, rfl, ⟨wi, wb, wf⟩, hv⟩

/-- Cells that came in. -/
theorem cells_core {H : Type} {enc : TypeId × Value → H} {W : World} {fuel : Nat} {cs : List Value} {x : DataW H × List MemPlace} (h : DataW.trod enc Try.prog W 0 (fun _ => true) true fuel 53 cs = some x) :
    ∃ A c q, cs = [.slice A (List.length q) c] ∧ Are W A c q := by
  have h5 : Try.prog.cellsOf 87 = 5 := by kernel_rfl
  rcases open_slice Try.underlying53 h with ⟨hcs, _⟩ | ⟨a, len, cap, m, nn, D, Ps, hcs, _, hl, hm, hmm, _, hi⟩
  · exact ⟨none, 0, [], hcs, Are.nil _⟩
  · have hmc : m = cap := by simpa using hmm
    subst hmc
    rw [h5] at hi
    have each : ∀ i, i < len → ∃ p : Pa, W.cell? (a.add (i * 5)) = some (.bool p.e.u) ∧ W.cell? ((a.add (i * 5)).add 1) = some (.int .u64 p.e.i) ∧ W.cell? ((a.add (i * 5)).add 2) = some (.int .u64 p.e.b) ∧ W.cell? ((a.add (i * 5)).add 3) = some (.int .u64 p.e.f) ∧ W.cell? ((a.add (i * 5)).add 4) = some (.slice p.B p.e.x.length p.c) ∧ Vec .i32 W p.B p.c p.e.x ∧ Fit p.e := fun i him => by
      obtain ⟨cs', hc, ht⟩ := hi i (by omega)
      obtain ⟨p, hcs', hfit, hv⟩ := cell_core ht
      obtain ⟨_, _, hat⟩ := World.cells?_some hc
      subst hcs'
      refine ⟨p, ?_, ?_, ?_, ?_, ?_, hv, hfit⟩
      · have := hat 0 (by omega); simpa [Addr.add] using this
      · simpa using hat 1 (by omega)
      · simpa using hat 2 (by omega)
      · simpa using hat 3 (by omega)
      · simpa using hat 4 (by omega)
    haveI : Inhabited Pa := ⟨pz⟩
    obtain ⟨f, hf⟩ := choose_lt each
    refine ⟨some a, m, (List.range len).map f, by simpa using hcs, by simpa using hl, by unfold maxLen at hm; omega, fun hp => ?_, fun p hp => ?_, fun p hp => ?_⟩
    · have hp' : 0 < len := by simpa using hp
      obtain ⟨b, off, spot⟩ := a
      obtain ⟨hc0, _⟩ := hf 0 hp'
      have hspot : spot = none := by simpa [Addr.add] using World.cell?_spot hc0
      subst hspot
      refine ⟨b, off, rfl, World.block_lt_of_cell? W _ (by simpa [Addr.add] using hc0), fun i p hip => ?_⟩
      have hil : i < len := by have := (List.getElem?_eq_some_iff.1 hip).1; simpa using this
      have hpe : f i = p := by simpa [hil] using hip
      obtain ⟨g0, g1, g2, g3, g4, _⟩ := hf i hil
      simp only [Addr.add_lit] at g0 g1 g2 g3 g4
      rw [hpe] at g0 g1 g2 g3 g4
      exact ⟨g0, g1, g2, g3, g4⟩
    · obtain ⟨i, hi', rfl⟩ := List.mem_map.1 hp
      exact (hf i (List.mem_range.1 hi')).2.2.2.2.2.1
    · obtain ⟨i, hi', rfl⟩ := List.mem_map.1 hp
      exact (hf i (List.mem_range.1 hi')).2.2.2.2.2.2
theorem open_cells {H : Type} {enc : TypeId × Value → H} {W : World} {a : Option Addr} {len cap : Nat} {d : DataW H} {p : List MemPlace}
    (h : DataW.Trod enc Try.prog W 0 (fun _ => true) true 53 (.slice a len cap) d p) : ∃ q : List Pa, q.length = len ∧ Are W a cap q := by
  obtain ⟨fuel, hf⟩ := h
  obtain ⟨A, c, l, hcs, hh⟩ := cells_core hf
  simp [Value.cells] at hcs
  obtain ⟨rfl, e, rfl⟩ := hcs
  exact ⟨l, e.symm, hh⟩
theorem open_arena {H : Type} {enc : TypeId × Value → H} {r : Reach} {b0 : Nat} {v : Value} {W : World} {d : DataW H} {p : List MemPlace} (hv : Value.okWide Try.prog W r b0 55 v) (h : DataW.Trod enc Try.prog W 0 (fun _ => true) true 55 v d p) :
    ∃ A c q, v = .agg #[.slice A (List.length q) c] ∧ Are W A c q := by
  obtain ⟨cs, rfl, _⟩ := okWide_struct Try.underlying55 hv
  obtain ⟨fuel, hf⟩ := h
  have hf' : DataW.trod enc Try.prog W 0 (fun _ => true) true fuel 55 cs.toList = some (d, p) := by simpa [Value.cells] using hf
  obtain ⟨ys, n, _, _, hlen, hy, hg⟩ := DataW.trod_struct Try.underlying55 hf'
  have h1 : Try.prog.cellsOf 55 = 1 := by kernel_rfl
  have h1s : Try.prog.cellsOf 53 = 1 := by kernel_rfl
  rw [h1] at hlen
  obtain ⟨l, hl⟩ : ∃ l, l = cs.toList := ⟨_, rfl⟩
  rw [← hl] at hlen hg
  match l, hlen with
  | [v0], _ =>
    have f0 : DataW.trod enc Try.prog W 0 (fun _ => true) true n 53 [v0] = ys[0]? := by have h1 : DataW.trod enc Try.prog W 0 (fun _ => true) true n 53 (([v0].drop 0).take (Try.prog.cellsOf 53)) = ys[0]? := hg 0 _ rfl; rw [h1s] at h1; exact h1
    obtain ⟨y0, e0⟩ : ∃ y, ys[0]? = some y := ⟨_, List.getElem?_eq_getElem (by rw [hy]; exact Nat.zero_lt_one)⟩
    rw [e0] at f0
    obtain ⟨A, c, q, hc, hh⟩ := cells_core f0
    refine ⟨A, c, q, ?_, hh⟩
    congr 1
    apply Array.toList_inj.1
    rw [← hl, hc]

theorem open_slots {H : Type} {enc : TypeId × Value → H} {W : World} {a : Option Addr} {len cap : Nat} {d : DataW H} {p : List MemPlace}
    (h : DataW.Trod enc Try.prog W 0 (fun _ => true) true 27 (.slice a len cap) d p) : ∃ xs : List Int, xs.length = len ∧ Vec .i64 W a cap xs := by
  obtain ⟨fuel, hf⟩ := h
  rcases open_ints Try.underlying27 Try.underlying3 (by kernel_rfl) hf with ⟨hcs, _⟩ | ⟨x, l, c, zs, hcs, _, hl, hm, hz, _, hcell, hwz⟩
  · simp [Value.cells] at hcs
    obtain ⟨rfl, rfl, rfl⟩ := hcs
    exact ⟨[], rfl, Vec.nil _ _⟩
  · simp [Value.cells] at hcs
    obtain ⟨rfl, rfl, rfl⟩ := hcs
    have hz' : zs.length = cap := by simpa using hz
    have hlen : (zs.take len).length = len := by simp; omega
    refine ⟨zs.take len, hlen, by omega, by unfold maxLen at hm; omega, fun hp => ?_, fun b hb => hwz b (List.mem_of_mem_take hb)⟩
    obtain ⟨b, off, spot⟩ := x
    have hc := hcell 0 (by omega)
    have hspot : spot = none := by simpa [Addr.add] using World.cell?_spot hc
    subst hspot
    have hc' : W.cell? ⟨b, off, none⟩ = some (.int .i64 (zs.getD 0 0)) := by simpa [Addr.add] using hc
    refine ⟨b, off, rfl, World.block_lt_of_cell? W _ hc', fun j hj => ?_⟩
    have h1 := hcell j (by omega)
    rw [Addr.add_lit] at h1
    rw [h1]
    have : j < len := by omega
    simp [List.getD, this]
theorem open_time {H : Type} {enc : TypeId × Value → H} {r : Reach} {b0 : Nat} {v : Value} {W : World} {d : DataW H} {p : List MemPlace} (hv : Value.okWide Try.prog W r b0 36 v) (h : DataW.Trod enc Try.prog W 0 (fun _ => true) true 36 v d p) :
    ∃ a, v = .int .u64 a ∧ U64s a := by
  obtain ⟨a, e, _, _, w⟩ := open_int Try.underlying36 hv h
  exact ⟨a, e, w⟩

end Go.Proofs.Ytcekgllahlhaaaa
