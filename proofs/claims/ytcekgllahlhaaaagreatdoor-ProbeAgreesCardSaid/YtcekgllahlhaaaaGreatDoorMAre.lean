/-
  AreMath, AreBase, AreAsk, AreCmp, AreFind, AreSame, AreSeq, AreOwn, AreOwned, ArePut, AreCopied, AreFree, ArePack, AreRef, AreWith.
-/
import Derived.Test.YtcekgllahlhaaaaGreatDoorMCod
import Derived.Test.YtcekgllahlhaaaaGreatDoorRows
import Derived.Deep.RegionLaw
import Derived.Deep.Onto
import Derived.Maps.AppendAt
import Derived.Deep.RegionHeld3
import Derived.Laws.MakeOwn
import Derived.Laws.Tables
namespace Go.Proofs.YtcekgllahlhaaaaGreatDoor
set_option linter.unusedVariables false
set_option linter.unusedSimpArgs false

/-- A cell as a value. -/
structure Ce where
  u : Bool
  i : Int
  b : Int
  f : Int
  x : List Int
instance : DecidableEq Ce := fun a c => decidable_of_iff (a.u = c.u ∧ a.i = c.i ∧ a.b = c.b ∧ a.f = c.f ∧ a.x = c.x) (by cases a; cases c; simp)
def zc : Ce := ⟨false, 0, 0, 0, []⟩
instance : Inhabited Ce := ⟨zc⟩
def soundE (e : Ce) : Bool := e.u && verR e.b e.f e.x
def mayE (e : Ce) : Bool := soundE e || decide (e = zc)
def arB (l : List Ce) : Bool := decide (l.length = 96) && l.all mayE
def chkA (l : List Ce) : Int := if arB l = true then 0 else 190
theorem arB_len {l : List Ce} (h : arB l = true) : l.length = 96 := by unfold arB at h; simp at h; exact h.1
theorem arB_may {l : List Ce} (h : arB l = true) : ∀ e ∈ l, mayE e = true := by unfold arB at h; simp at h; exact h.2
theorem chkA_ok {l : List Ce} (h : arB l = true) : chkA l = 0 := by unfold chkA; rw [h]; rfl
theorem chkA_no {l : List Ce} (h : arB l = false) : chkA l = 190 := by unfold chkA; rw [h]; rfl
theorem chkA_iff (l : List Ce) : chkA l = 0 ↔ arB l = true := by unfold chkA; cases arB l <;> simp
theorem may_used {e : Ce} (h : mayE e = true) (hu : e.u = true) : soundE e = true := by
  unfold mayE at h
  rw [Bool.or_eq_true] at h
  rcases h with h | h
  · exact h
  · have : e = zc := by simpa using h
    rw [this] at hu; cases hu
theorem may_free {e : Ce} (h : mayE e = true) (hu : e.u = false) : e = zc := by
  unfold mayE soundE at h
  rw [hu] at h
  simpa using h
theorem sound_used {e : Ce} (h : soundE e = true) : e.u = true := by unfold soundE at h; rw [Bool.and_eq_true] at h; exact h.1
theorem sound_ver {e : Ce} (h : soundE e = true) : verR e.b e.f e.x = true := by unfold soundE at h; rw [Bool.and_eq_true] at h; exact h.2
theorem sound_may {e : Ce} (h : soundE e = true) : mayE e = true := by unfold mayE; rw [h]; rfl
theorem may_zc : mayE zc = true := by unfold mayE; simp
theorem ver_len {b f : Int} {x : List Int} (h : verR b f x = true) : 1 ≤ x.length ∧ x.length ≤ 4 := by
  unfold verR at h
  rw [Bool.and_eq_true] at h
  have := h.1
  unfold right at this
  simp at this
  omega
theorem may_len {e : Ce} (h : mayE e = true) : e.x.length ≤ 4 := by
  cases hu : e.u
  · rw [may_free h hu]; simp [zc]
  · exact (ver_len (sound_ver (may_used h hu))).2

/-- What is told of a cell in a slot. -/
def ceAt (l : List Ce) (k : Nat) : Ce := l.getD k zc
theorem ceAt_some {l : List Ce} {k : Nat} {e : Ce} (h : l[k]? = some e) : ceAt l k = e := by simp [ceAt, List.getD, h]
theorem at_ce {l : List Ce} {k : Nat} (h : k < l.length) : l[k]? = some (ceAt l k) := by simp [ceAt, List.getD, h]

/-- How many of the first k are used, and how many are not. -/
def usedN (l : List Ce) : Nat := (l.filter (·.u)).length
def freeN (l : List Ce) : Nat := (l.filter (fun e => !e.u)).length
theorem used_free (l : List Ce) : usedN l + freeN l = l.length := by
  unfold usedN freeN
  induction l with
  | nil => rfl
  | cons e l ih => cases h : e.u <;> simp [h] <;> omega
def freeA (l : List Ce) : Int := if arB l = true then (freeN l : Int) else 0
theorem used_le (l : List Ce) : usedN l ≤ l.length := by have := used_free l; omega

/-- The least slot that is free. -/
def leastO (l : List Ce) : Option Nat := l.findIdx? (fun e => !e.u)
def idxK (o : Option Nat) : Int := match o with | some i => i | none => -1
theorem idx_at {α : Type} {l : List α} {P : α → Bool} {k : Nat} {v : α} (h : l[k]? = some v) (hv : P v = true) (hn : ∀ (j : Nat) (u : α), j < k → l[j]? = some u → P u = false) : l.findIdx? P = some k := by
  rw [List.findIdx?_eq_some_iff_getElem]
  obtain ⟨hk, e⟩ := List.getElem?_eq_some_iff.1 h
  refine ⟨hk, by rw [e]; exact hv, fun j hj => ?_⟩
  have := hn j _ hj (List.getElem?_eq_getElem (by omega))
  simp [this]
theorem idx_no {α : Type} {l : List α} {P : α → Bool} (hn : ∀ (j : Nat) (u : α), l[j]? = some u → P u = false) : l.findIdx? P = none := by
  rw [List.findIdx?_eq_none_iff]
  intro x hx
  obtain ⟨j, hj, rfl⟩ := List.getElem_of_mem hx
  exact hn j _ (List.getElem?_eq_getElem hj)
theorem least_some {l : List Ce} {k : Nat} (h : leastO l = some k) : k < l.length ∧ (ceAt l k).u = false ∧ ∀ j, j < k → (ceAt l j).u = true := by
  unfold leastO at h
  rw [List.findIdx?_eq_some_iff_getElem] at h
  obtain ⟨hk, h1, h2⟩ := h
  refine ⟨hk, ?_, fun j hj => ?_⟩
  · simpa [ceAt, List.getD, hk] using h1
  · have := h2 j hj
    have hjl : j < l.length := by omega
    simpa [ceAt, List.getD, hjl] using this
theorem least_none {l : List Ce} (h : leastO l = none) : freeN l = 0 := by
  unfold leastO at h
  rw [List.findIdx?_eq_none_iff] at h
  unfold freeN
  rw [List.length_eq_zero_iff, List.filter_eq_nil_iff]
  intro a ha
  rw [h a ha]; simp
theorem least_free {l : List Ce} {k : Nat} (h : leastO l = some k) : 0 < freeN l := by
  obtain ⟨h1, h2, _⟩ := least_some h
  unfold freeN
  rw [List.length_pos_iff_exists_mem]
  exact ⟨ceAt l k, List.mem_filter.2 ⟨List.mem_of_getElem? (at_ce h1), by simp [h2]⟩⟩

/-- What is copied: the used ones, each in its slot; all else is zero. -/
def useE (e : Ce) : Ce := if e.u = true then e else zc
def padL (l : List Ce) : List Ce := l.map useE ++ List.replicate (96 - l.length) zc
theorem pad_length {l : List Ce} (h : l.length ≤ 96) : (padL l).length = 96 := by simp [padL]; omega
theorem pad_same {l : List Ce} (h : arB l = true) : padL l = l := by
  unfold padL
  rw [arB_len h]
  simp
  conv => rhs; rw [← List.map_id l]
  refine List.map_congr_left fun e he => ?_
  unfold useE
  split
  · rfl
  · rename_i hu
    exact (may_free (arB_may h e he) (by simpa using hu)).symm
theorem pad_all {l : List Ce} (h : l.all soundE = true) : padL l = l ++ List.replicate (96 - l.length) zc := by
  unfold padL
  congr 1
  conv => rhs; rw [← List.map_id l]
  refine List.map_congr_left fun e he => ?_
  unfold useE
  rw [if_pos (sound_used (List.all_eq_true.1 h e he))]
  rfl
theorem pad_right {l : List Ce} (hl : l.length ≤ 96) (h : l.all soundE = true) : arB (padL l) = true := by
  unfold arB
  rw [pad_length hl, pad_all h, List.all_append]
  have h1 : l.all mayE = true := List.all_eq_true.2 fun e he => sound_may (List.all_eq_true.1 h e he)
  have h2 : (List.replicate (96 - l.length) zc).all mayE = true := List.all_eq_true.2 fun e he => by rw [List.eq_of_mem_replicate he]; exact may_zc
  rw [h1, h2]; rfl
theorem set_right {l : List Ce} {k : Nat} {e : Ce} (h : arB l = true) (he : mayE e = true) : arB (l.set k e) = true := by
  unfold arB
  rw [List.length_set, arB_len h]
  simp only [decide_true, Bool.true_and]
  rw [List.all_eq_true]
  intro a ha
  rcases List.mem_or_eq_of_mem_set ha with ha | rfl
  · exact arB_may h a ha
  · exact he
theorem freeN_set {l : List Ce} {k : Nat} {e : Ce} (hk : k < l.length) (h : (ceAt l k).u = false) (he : e.u = true) : freeN (l.set k e) + 1 = freeN l := by
  unfold freeN
  induction l generalizing k with
  | nil => simp at hk
  | cons a l ih =>
    cases k with
    | zero =>
      have ha : a.u = false := by simpa [ceAt] using h
      simp [ha, he]
    | succ k =>
      have := ih (k := k) (by simpa using hk) (by simpa [ceAt] using h)
      cases ha : a.u <;> simp [ha] <;> omega

end Go.Proofs.YtcekgllahlhaaaaGreatDoor

namespace Go.Proofs.YtcekgllahlhaaaaGreatDoor
open Go.RowKit Go.Shelf
set_option linter.unusedVariables false
set_option linter.unusedSimpArgs false
set_option maxRecDepth 100000

/-- A cell, and where its vector lies. -/
structure Pa where
  e : Ce
  B : Option Addr
  c : Nat
def ces (q : List Pa) : List Ce := q.map (·.e)
theorem ces_length (q : List Pa) : (ces q).length = q.length := by simp [ces]
theorem ces_at {q : List Pa} {i : Nat} {p : Pa} (h : q[i]? = some p) : (ces q)[i]? = some p.e := by simp [ces, h]
theorem ces_ceAt {q : List Pa} {i : Nat} {p : Pa} (h : q[i]? = some p) : ceAt (ces q) i = p.e := ceAt_some (ces_at h)
theorem ces_append (q r : List Pa) : ces (q ++ r) = ces q ++ ces r := by simp [ces]
theorem ces_take (q : List Pa) (k : Nat) : ces (q.take k) = (ces q).take k := by simp [ces, List.map_take]
theorem ces_set (q : List Pa) (k : Nat) (p : Pa) : ces (q.set k p) = (ces q).set k p.e := by simp [ces, List.map_set]
def U64s (x : Int) : Prop := (Lit.int .u64 x).wf = true
theorem u64_0 : U64s 0 := by unfold U64s; decide
/-- A cell's numbers are what they can be. -/
def Fit (e : Ce) : Prop := U64s e.i ∧ U64s e.b ∧ U64s e.f
theorem fit_zc : Fit zc := ⟨u64_0, u64_0, u64_0⟩
def pz : Pa := ⟨zc, none, 0⟩

structure Are (w : World) (A : Option Addr) (c : Nat) (q : List Pa) : Prop where
  room : q.length ≤ c
  most : c ≤ 9223372036854775807
  rd : 0 < q.length → ∃ b o, A = some ⟨b, o, none⟩ ∧ b < w.heap.size ∧ ∀ i p, q[i]? = some p → w.cell? ⟨b, o + i * 5, none⟩ = some (.bool p.e.u) ∧ w.cell? ⟨b, o + i * 5 + 1, none⟩ = some (.int .u64 p.e.i) ∧ w.cell? ⟨b, o + i * 5 + 2, none⟩ = some (.int .u64 p.e.b) ∧ w.cell? ⟨b, o + i * 5 + 3, none⟩ = some (.int .u64 p.e.f) ∧ w.cell? ⟨b, o + i * 5 + 4, none⟩ = some (.slice p.B p.e.x.length p.c)
  el : ∀ p ∈ q, Vec .i32 w p.B p.c p.e.x
  fit : ∀ p ∈ q, Fit p.e

section
variable {w w' : World} {A : Option Addr} {c : Nat} {q : List Pa}
theorem Are.keep (h : Are w A c q) (hs : w.heap.size ≤ w'.heap.size) (hk : ∀ p : Addr, p.block < w.heap.size → w'.cell? p = w.cell? p) : Are w' A c q := by
  refine ⟨h.room, h.most, fun hp => ?_, fun p hp => (h.el p hp).keep hs hk, h.fit⟩
  obtain ⟨b, o, e, hb, hc⟩ := h.rd hp
  refine ⟨b, o, e, by omega, fun i p hi => ?_⟩
  obtain ⟨h0, h1, h2, h3, h4⟩ := hc i p hi
  exact ⟨(hk _ hb).trans h0, (hk _ hb).trans h1, (hk _ hb).trans h2, (hk _ hb).trans h3, (hk _ hb).trans h4⟩
theorem Are.below (h : Are w A c q) (hb : Below w.heap.size w w') : Are w' A c q := h.keep hb.size fun _ hp => hb.cell hp
theorem Are.drew (h : Are w A c q) : Are w.drew A c q := h.keep (Nat.le_refl _) fun _ _ => rfl
theorem Are.drewN (h : Are w A c q) (n : Nat) : Are (w.drewN n) A c q := h.keep (Nat.le_refl _) fun _ _ => rfl
theorem Are.at_ (h : Are w A c q) {i : Nat} (hi : i < q.length) : ∃ b o p, A = some ⟨b, o, none⟩ ∧ q[i]? = some p ∧ b < w.heap.size ∧ w.cell? ⟨b, o + i * 5, none⟩ = some (.bool p.e.u) ∧ w.cell? ⟨b, o + i * 5 + 1, none⟩ = some (.int .u64 p.e.i) ∧ w.cell? ⟨b, o + i * 5 + 2, none⟩ = some (.int .u64 p.e.b) ∧ w.cell? ⟨b, o + i * 5 + 3, none⟩ = some (.int .u64 p.e.f) ∧ w.cell? ⟨b, o + i * 5 + 4, none⟩ = some (.slice p.B p.e.x.length p.c) ∧ Vec .i32 w p.B p.c p.e.x ∧ Fit p.e := by
  obtain ⟨b, o, e, hb, hc⟩ := h.rd (by omega)
  have hp := List.getElem?_eq_getElem hi
  obtain ⟨h0, h1, h2, h3, h4⟩ := hc i _ hp
  have hm := List.getElem_mem hi
  exact ⟨b, o, _, e, hp, hb, h0, h1, h2, h3, h4, h.el _ hm, h.fit _ hm⟩
theorem Are.nil (w : World) : Are w none 0 [] := ⟨by simp, by omega, fun h => absurd h (by simp), by simp, by simp⟩
theorem Are.many (h : Are w A c q) : q.length ≤ 9223372036854775807 := Nat.le_trans h.room h.most
theorem Are.take (h : Are w A c q) (n : Nat) : Are w A c (q.take n) := by
  have hl : (q.take n).length ≤ q.length := by simp; omega
  refine ⟨Nat.le_trans hl h.room, h.most, fun hp => ?_, fun p hp => h.el p (List.mem_of_mem_take hp), fun p hp => h.fit p (List.mem_of_mem_take hp)⟩
  obtain ⟨b, o, e, hb, hc⟩ := h.rd (by omega)
  refine ⟨b, o, e, hb, fun i p hi => hc i p ?_⟩
  rw [List.getElem?_take] at hi
  split at hi
  · exact hi
  · cases hi
end

/-- The cells of cells, one behind the other. -/
def flatA (q : List Pa) : List Value := q.flatMap fun p => [.bool p.e.u, .int .u64 p.e.i, .int .u64 p.e.b, .int .u64 p.e.f, .slice p.B p.e.x.length p.c]
theorem flatA_length (q : List Pa) : (flatA q).length = q.length * 5 := by
  induction q with
  | nil => rfl
  | cons x q ih => show (flatA q).length + 1 + 1 + 1 + 1 + 1 = (q.length + 1) * 5; omega
theorem flatA_append (q r : List Pa) : flatA (q ++ r) = flatA q ++ flatA r := by simp [flatA]
theorem flatA_cons (x : Pa) (q : List Pa) : flatA (x :: q) = .bool x.e.u :: .int .u64 x.e.i :: .int .u64 x.e.b :: .int .u64 x.e.f :: .slice x.B x.e.x.length x.c :: flatA q := rfl
theorem flatA_get (q : List Pa) (i : Nat) (p : Pa) (h : q[i]? = some p) : (flatA q)[i * 5]? = some (.bool p.e.u) ∧ (flatA q)[i * 5 + 1]? = some (.int .u64 p.e.i) ∧ (flatA q)[i * 5 + 2]? = some (.int .u64 p.e.b) ∧ (flatA q)[i * 5 + 3]? = some (.int .u64 p.e.f) ∧ (flatA q)[i * 5 + 4]? = some (.slice p.B p.e.x.length p.c) := by
  induction q generalizing i with
  | nil => simp at h
  | cons x q ih =>
    rw [flatA_cons]
    cases i with
    | zero => simp at h; subst h; simp
    | succ i =>
      have := ih i (by simpa using h)
      rw [show (i + 1) * 5 = i * 5 + 1 + 1 + 1 + 1 + 1 by omega]
      simpa using this
theorem flatA_cell (q : List Pa) : ∀ u ∈ flatA q, u.oneCell' = true := by
  intro u hu
  unfold flatA at hu
  rw [List.mem_flatMap] at hu
  obtain ⟨h, _, hu⟩ := hu
  simp at hu
  rcases hu with rfl | rfl | rfl | rfl | rfl <;> rfl
theorem flatA_set (q : List Pa) (i : Nat) (p : Pa) (hi : i < q.length) : (((((flatA q).set (i * 5) (.bool p.e.u)).set (i * 5 + 1) (.int .u64 p.e.i)).set (i * 5 + 2) (.int .u64 p.e.b)).set (i * 5 + 3) (.int .u64 p.e.f)).set (i * 5 + 4) (.slice p.B p.e.x.length p.c) = flatA (q.set i p) := by
  induction q generalizing i with
  | nil => simp at hi
  | cons y q ih =>
    cases i with
    | zero => simp [flatA_cons]
    | succ i =>
      have e : (i + 1) * 5 = i * 5 + 1 + 1 + 1 + 1 + 1 := by omega
      rw [flatA_cons, List.set_cons_succ, flatA_cons, ← ih i (by simpa using hi)]
      simp only [e, show i * 5 + 1 + 1 + 1 + 1 + 1 + 1 = i * 5 + 1 + 1 + 1 + 1 + 1 + 1 from rfl]
      simp [show i * 5 + 5 + 1 = i * 5 + 1 + 1 + 1 + 1 + 1 + 1 by omega, show i * 5 + 5 + 2 = i * 5 + 2 + 1 + 1 + 1 + 1 + 1 by omega, show i * 5 + 5 + 3 = i * 5 + 3 + 1 + 1 + 1 + 1 + 1 by omega, show i * 5 + 5 + 4 = i * 5 + 4 + 1 + 1 + 1 + 1 + 1 by omega, show i * 5 + 5 = i * 5 + 1 + 1 + 1 + 1 + 1 by omega]

/-- Numbers of the call's own. -/
def OwnV (base : Nat) (w : World) (B : Option Addr) (c : Nat) (xs : List Int) : Prop := w.ownsRow base 21 1 (.slice B xs.length c) xs.length (xs.map (Value.int .i32)) ∧ ∀ x ∈ xs, (Lit.int .i32 x).wf = true
theorem row_turn {S : Nat → Prop} {w w' : World} {base : Nat} {e : TypeId} {size : Nat} {v : Value} {n : Nat} {xs : List Value} (h : w.ownsRow base e size v n xs) (ht : Turn S w w') (hS : ∀ i, v.ownBlock = some i → ¬ S i) : w'.ownsRow base e size v n xs := by
  rcases h.2 with ⟨e', h0⟩ | ⟨g, cap, cur, e', hg, hh, hnc, hcm, hsz, hcs⟩
  · exact ⟨h.1, .inl ⟨e', h0⟩⟩
  · refine ⟨h.1, .inr ⟨g, cap, cur, e', hg, (ht.block _ (lt_of_block hh) (hS g ?_)).trans hh, hnc, hcm, hsz, hcs⟩⟩
    rw [e']; rfl

/-- Cells of the call's own, with vectors of its own. -/
structure OwnA (base : Nat) (w : World) (A : Option Addr) (c : Nat) (q : List Pa) : Prop where
  row : w.ownsRow base 61 5 (.slice A q.length c) q.length (flatA q)
  el : ∀ p ∈ q, OwnV base w p.B p.c p.e.x
  fit : ∀ p ∈ q, Fit p.e

section
variable {base : Nat} {w w' : World} {A : Option Addr} {c : Nat} {xs : List Int}
theorem OwnV.vec (h : OwnV base w A c xs) : Vec .i32 w A c xs := by
  obtain ⟨A', c', e, hv⟩ := Vec.own (m := 0) h.1 h.2
  injection e with e1 _ e2
  subst e1
  subst e2
  exact hv
theorem OwnV.turn {S : Nat → Prop} (h : OwnV base w A c xs) (ht : Turn S w w') (hS : ∀ i, base ≤ i → i < w.heap.size → ¬ S i) : OwnV base w' A c xs :=
  ⟨row_turn h.1 ht (fun i hi => hS i (h.1.lt i hi).1 (h.1.lt i hi).2), h.2⟩
theorem OwnV.below (h : OwnV base w A c xs) (hb : Below w.heap.size w w') : OwnV base w' A c xs := h.turn (Turn.of_below (S := fun _ => False) hb) (fun _ _ _ e => e)
theorem OwnV.mono {b : Nat} (h : OwnV base w A c xs) (hb : b ≤ base) : OwnV b w A c xs := ⟨h.1.mono hb, h.2⟩
end

theorem own_are {base : Nat} {w : World} {A : Option Addr} {c : Nat} {q : List Pa} (hr : w.ownsRow base 61 5 (.slice A q.length c) q.length (flatA q)) (hel : ∀ p ∈ q, Vec .i32 w p.B p.c p.e.x) (hf : ∀ p ∈ q, Fit p.e) : Are w A c q := by
  rcases hr.2 with ⟨e, h0⟩ | ⟨g, cap, cur, e, hg, hh, hnc, hcm, hsz, hcs⟩
  · injection e with e1 _ e3
    have : q = [] := List.eq_nil_of_length_eq_zero h0
    subst this e1 e3
    exact Are.nil _
  · injection e with e1 _ e3
    subst e1
    subst e3
    refine ⟨hnc, by unfold maxLen at hcm; omega, fun hp => ⟨g, 0, rfl, lt_of_block hh, fun i p hi => ?_⟩, hel, hf⟩
    have hl : i < q.length := (List.getElem?_eq_some_iff.1 hi).1
    rw [Nat.zero_add, hr.cellAt (i * 5) (by omega), hr.cellAt (i * 5 + 1) (by omega), hr.cellAt (i * 5 + 2) (by omega), hr.cellAt (i * 5 + 3) (by omega), hr.cellAt (i * 5 + 4) (by omega)]
    exact flatA_get q i p hi
section
variable {base : Nat} {w w' : World} {A : Option Addr} {c : Nat} {q : List Pa}
theorem OwnA.turn {S : Nat → Prop} (h : OwnA base w A c q) (ht : Turn S w w') (hS : ∀ i, base ≤ i → i < w.heap.size → ¬ S i) : OwnA base w' A c q :=
  ⟨row_turn h.row ht (fun i hi => hS i (h.row.lt i hi).1 (h.row.lt i hi).2), fun p hp => (h.el p hp).turn ht hS, h.fit⟩
theorem OwnA.below (h : OwnA base w A c q) (hb : Below w.heap.size w w') : OwnA base w' A c q := h.turn (Turn.of_below (S := fun _ => False) hb) (fun _ _ _ e => e)
theorem OwnA.mono {b : Nat} (h : OwnA base w A c q) (hb : b ≤ base) : OwnA b w A c q := ⟨h.row.mono hb, fun p hp => (h.el p hp).mono hb, h.fit⟩
theorem OwnA.nil (base : Nat) (w : World) : OwnA base w none 0 [] := ⟨World.ownsRow_nil _ _ _ _, by simp, by simp⟩
theorem OwnA.are (h : OwnA base w A c q) : Are w A c q := own_are h.row (fun p hp => (h.el p hp).vec) h.fit
theorem OwnV.nil (base : Nat) (w : World) : OwnV base w none 0 [] := ⟨World.ownsRow_nil _ _ _ _, by simp⟩
end

/-! ### append -/
def blk (A : Option Addr) : Option Nat := A.map (·.block)
theorem own_blk (A : Option Addr) (n c : Nat) : (Value.slice A n c).ownBlock = blk A := by cases A <;> rfl
theorem own_form2 {w : World} {base : Nat} {e : TypeId} {size : Nat} {v : Value} {n : Nat} {xs : List Value} (h : w.ownsRow base e size v n xs) : ∃ A c, v = .slice A n c ∧ (A = none ∨ ∃ g, A = some ⟨g, 0, none⟩ ∧ base ≤ g ∧ g < w.heap.size) := by
  rcases h.2 with ⟨rfl, h0⟩ | ⟨g, cap, cur, rfl, hg, hh, _⟩
  · exact ⟨none, 0, by rw [h0], .inl rfl⟩
  · exact ⟨_, cap, rfl, .inr ⟨g, rfl, hg, lt_of_block hh⟩⟩
/-- A slice's type to which one appends: its element, that one's size in cells, its bytes. -/
def AppT (P : Program) (t e : TypeId) (size bytes : Nat) : Prop := P.underlying t = some (.slice e) ∧ ∃ i z, P.info? e = some i ∧ i.zero = some z ∧ i.size = size ∧ i.bytes = bytes ∧ z.cells.size = size ∧ 0 < size ∧ bytes ≤ 100
theorem appI : AppT Tryz.prog 26 21 1 4 := ⟨Tryz.underlying26, (Tryz.prog.info? 21).get (by kernel_rfl), .int .i32 0, (Option.some_get _).symm, by kernel_rfl, by kernel_rfl, by kernel_rfl, rfl, by decide, by decide⟩
theorem appA : AppT Tryz.prog 22 61 5 56 := ⟨Tryz.underlying22, (Tryz.prog.info? 61).get (by kernel_rfl), .agg #[.bool false, .int .u64 0, .int .u64 0, .int .u64 0, .slice none 0 0], (Option.some_get _).symm, by kernel_rfl, by kernel_rfl, by kernel_rfl, rfl, by decide, by decide⟩
theorem appN : AppT Tryz.prog 53 3 1 8 := ⟨Tryz.underlying53, (Tryz.prog.info? 3).get (by kernel_rfl), .int .i64 0, (Option.some_get _).symm, by kernel_rfl, by kernel_rfl, by kernel_rfl, rfl, by decide, by decide⟩

/-- What is appended can be read. -/
def Read (w : World) (A : Option Addr) (m size : Nat) (news : List Value) : Prop := news.length = m * size ∧ (∀ u ∈ news, u.oneCell' = true) ∧ (A = none → m = 0) ∧ ∀ b, A = some b → ∀ j u, news[j]? = some u → w.cell? (b.add j) = some u
theorem Read.vec {w : World} {A : Option Addr} {c : Nat} {xs : List Int} {k : IntKind} (h : Vec k w A c xs) : Read w A xs.length 1 (xs.map (Value.int k)) := by
  refine ⟨by simp, by simp; intro x _; rfl, fun e => ?_, fun b e j u hj => ?_⟩
  · rcases Nat.eq_zero_or_pos xs.length with h0 | h0
    · exact h0
    · obtain ⟨b, o, e', _⟩ := h.rd h0; rw [e] at e'; cases e'
  · have hl : j < xs.length := by have := (List.getElem?_eq_some_iff.1 hj).1; simpa using this
    obtain ⟨b', o, e', _, hc⟩ := h.rd (by omega)
    rw [e] at e'
    injection e' with e'
    subst e'
    rw [Addr.add_lit, hc j hl, ← hj]
    simp [List.getD, hl]
theorem Read.cells {w : World} {A : Option Addr} {c : Nat} {q : List Pa} (h : Are w A c q) : Read w A q.length 5 (flatA q) := by
  refine ⟨flatA_length q, flatA_cell q, fun e => ?_, fun b e j u hj => ?_⟩
  · rcases Nat.eq_zero_or_pos q.length with h0 | h0
    · exact h0
    · obtain ⟨b, o, e', _⟩ := h.rd h0; rw [e] at e'; cases e'
  · have hl : j < q.length * 5 := by have := (List.getElem?_eq_some_iff.1 hj).1; rw [flatA_length] at this; exact this
    obtain ⟨b', o, e', _, hc⟩ := h.rd (by omega)
    rw [e] at e'
    injection e' with e'
    subst e'
    have hk : j / 5 < q.length := by omega
    have hp := List.getElem?_eq_getElem hk
    obtain ⟨c0, c1, c2, c3, c4⟩ := hc (j / 5) _ hp
    obtain ⟨f0, f1, f2, f3, f4⟩ := flatA_get q (j / 5) _ hp
    rw [Addr.add_lit, ← hj]
    have h5 : j % 5 = 0 ∨ j % 5 = 1 ∨ j % 5 = 2 ∨ j % 5 = 3 ∨ j % 5 = 4 := by omega
    rcases h5 with h5 | h5 | h5 | h5 | h5
    · rw [show o + j = o + j / 5 * 5 by omega, c0, ← f0]; exact congrArg (fun k => (flatA q)[k]?) (by omega)
    · rw [show o + j = o + j / 5 * 5 + 1 by omega, c1, ← f1]; exact congrArg (fun k => (flatA q)[k]?) (by omega)
    · rw [show o + j = o + j / 5 * 5 + 2 by omega, c2, ← f2]; exact congrArg (fun k => (flatA q)[k]?) (by omega)
    · rw [show o + j = o + j / 5 * 5 + 3 by omega, c3, ← f3]; exact congrArg (fun k => (flatA q)[k]?) (by omega)
    · rw [show o + j = o + j / 5 * 5 + 4 by omega, c4, ← f4]; exact congrArg (fun k => (flatA q)[k]?) (by omega)
theorem Read.cell {w : World} {g o : Nat} {p : Pa} (h0 : w.cell? ⟨g, o, none⟩ = some (.bool p.e.u)) (h1 : w.cell? ⟨g, o + 1, none⟩ = some (.int .u64 p.e.i)) (h2 : w.cell? ⟨g, o + 2, none⟩ = some (.int .u64 p.e.b)) (h3 : w.cell? ⟨g, o + 3, none⟩ = some (.int .u64 p.e.f)) (h4 : w.cell? ⟨g, o + 4, none⟩ = some (.slice p.B p.e.x.length p.c)) : Read w (some ⟨g, o, none⟩) 1 5 (flatA [p]) := by
  refine ⟨by simp [flatA_length], flatA_cell _, (fun e => by cases e), fun b e j u hj => ?_⟩
  injection e with e
  subst e
  rw [Addr.add_lit]
  match j, hj with
  | 0, hj => simp [flatA_cons] at hj; rw [Nat.add_zero, h0, hj]
  | 1, hj => simp [flatA_cons] at hj; rw [h1, hj]
  | 2, hj => simp [flatA_cons] at hj; rw [h2, hj]
  | 3, hj => simp [flatA_cons] at hj; rw [h3, hj]
  | 4, hj => simp [flatA_cons] at hj; rw [h4, hj]
  | j + 5, hj => simp [flatA_cons, flatA] at hj
theorem Read.int {w : World} {g o : Nat} {k : Int} (h0 : w.cell? ⟨g, o, none⟩ = some (.int .i64 k)) : Read w (some ⟨g, o, none⟩) 1 1 [.int .i64 k] := by
  refine ⟨rfl, by simp; rfl, (fun e => by cases e), fun b e j u hj => ?_⟩
  injection e with e
  subst e
  rw [Addr.add_lit]
  match j, hj with
  | 0, hj => simp at hj; rw [Nat.add_zero, h0, hj]
  | j + 1, hj => simp at hj

theorem run_gapp {w : World} {t e : TypeId} {size bytes : Nat} (hT : AppT Tryz.prog t e size bytes) (ty : TypeId) (base : Nat) (A0 : Option Addr) (c0 n : Nat) (xs : List Value) (hown : w.ownsRow base e size (.slice A0 n c0) n xs)
    (A : Option Addr) (c m : Nat) (news : List Value) (hr : Read w A m size news) (hbig : n + m ≤ 1099511627776) (hbase : base ≤ w.heap.size) :
    ∃ A1 c1 w', (Builtin.append_ #[t, t] ty #[.slice A0 n c0, .slice A m c]).run Tryz.prog w = .ok (.slice A1 (n + m) c1) w' ∧ w'.ownsRow base e size (.slice A1 (n + m) c1) (n + m) (xs ++ news) ∧ w.grownBy w' (blk A0) ∧ (blk A1 = blk A0 ∨ blk A1 = some w.heap.size) := by
  obtain ⟨ht, i0, z, hi, hz0, hz1, hz2, hz3, hz4, hz5⟩ := hT
  obtain ⟨hl, h1, hn, hrd⟩ := hr
  have hb : (n + m) * bytes ≤ 140737488355328 := by
    have : (n + m) * bytes ≤ 1099511627776 * 100 := Nat.mul_le_mul hbig hz5
    omega
  rcases A with _ | ad
  · obtain rfl := hn rfl
    obtain rfl : news = [] := List.eq_nil_of_length_eq_zero (by simpa using hl)
    refine ⟨A0, c0, w, ?_, by simpa using hown, World.grownBy.refl _ _, .inl rfl⟩
    rcases hown.2 with ⟨e1, rfl⟩ | ⟨g, cap, cur, e1, _, _, hnc, _⟩
    · injection e1 with e1 _ e3
      subst e1
      subst e3
      simp [Builtin.append_, run_underlying ht, sizeOf, typeInfo, hi, Builtin.lenOf, Builtin.firstCells]
    · injection e1 with e1 _ e3
      subst e1
      subst e3
      simp [Builtin.append_, run_underlying ht, sizeOf, typeInfo, hi, Builtin.lenOf, Builtin.firstCells, hnc, storeCells]
  · obtain ⟨v', w', hrun, h1, h2, h3, h4⟩ := run_append_own_at (P := Tryz.prog) w base t ty e i0 z size bytes ht hi hz0 hz1 hz2 hz3 hz4 _ n xs hown ad m c news hl (hrd ad rfl) h1 (by unfold maxLen; omega) hb hbase
    obtain ⟨A1, c1, rfl, _⟩ := own_form2 h1
    rw [own_blk] at h2 h4
    rw [own_blk] at h4
    exact ⟨A1, c1, w', hrun, h1, h2, h4⟩

theorem gapp_at {w : World} {ops : Array Oper} {rest : List Oper} {o : Oper} {a : Act} {Q : Exit → Act → World → Prop} (hgd : o.guard = none) (s x : Operand) {t e : TypeId} {size bytes : Nat} (hT : AppT Tryz.prog t e size bytes)
    (ho : o.op = .call { callee := .builtin .append, args := #[s, x], argTypes := #[t, t] })
    (base : Nat) (A0 : Option Addr) (c0 n : Nat) (xs : List Value) (hs : a.eval s = .slice A0 n c0) (hown : w.ownsRow base e size (.slice A0 n c0) n xs)
    (A : Option Addr) (c m : Nat) (news : List Value) (hx : a.eval x = .slice A m c) (hr : Read w A m size news) (hbig : n + m ≤ 1099511627776) (hbase : base ≤ w.heap.size)
    (h : ∀ A1 c1 w', w'.ownsRow base e size (.slice A1 (n + m) c1) (n + m) (xs ++ news) → w.grownBy w' (blk A0) → (blk A1 = blk A0 ∨ blk A1 = some w.heap.size) → wpList Tryz.prog ops Q rest (a.put o.dst (.slice A1 (n + m) c1)) w') : wpList Tryz.prog ops Q (o :: rest) a w := by
  refine wpList_plain hgd fun K hK => ?_
  obtain ⟨A1, c1, w', hrun, h1, h2, h3⟩ := run_gapp hT o.type base A0 c0 n xs hown A c m news hr hbig hbase
  unfold Oper.wp
  simp [execOp, ho, resolve, invoke, builtin, hs, hx, hrun, Result.andThen]
  exact hK _ _ (h A1 c1 w' h1 h2 h3)

/-- .. as a step of a region that draws. -/
theorem gapp_step {w : World} {ops : Array Oper} {o : Oper} {a : Act} {K : Act → World → Prop} {Q : Exit → Act → World → Prop} {E : Prop} (hgd : o.guard = none) (s x : Operand) {t e : TypeId} {size bytes : Nat} (hT : AppT Tryz.prog t e size bytes)
    (ho : o.op = .call { callee := .builtin .append, args := #[s, x], argTypes := #[t, t] })
    (base : Nat) (A0 : Option Addr) (c0 n : Nat) (xs : List Value) (hs : a.eval s = .slice A0 n c0) (hown : w.ownsRow base e size (.slice A0 n c0) n xs)
    (A : Option Addr) (c m : Nat) (news : List Value) (hx : a.eval x = .slice A m c) (hr : Read w A m size news) (hbig : n + m ≤ 1099511627776) (hbase : base ≤ w.heap.size)
    (h : ∀ A1 c1 w', w'.ownsRow base e size (.slice A1 (n + m) c1) (n + m) (xs ++ news) → w.grownBy w' (blk A0) → (blk A1 = blk A0 ∨ blk A1 = some w.heap.size) → K (a.put o.dst (.slice A1 (n + m) c1)) w') :
    if Region.wanted o (yielded ops a.tmps) = true then Oper.wp Tryz.prog o a w K Q else E := by
  have hw : Region.wanted o (yielded ops a.tmps) = true := by simp [Region.wanted, hgd]
  rw [if_pos hw]
  obtain ⟨A1, c1, w', hrun, h1, h2, h3⟩ := run_gapp hT o.type base A0 c0 n xs hown A c m news hr hbig hbase
  unfold Oper.wp
  simp [execOp, ho, resolve, invoke, builtin, hs, hx, hrun, Result.andThen]
  exact h A1 c1 w' h1 h2 h3

/-- .. in a fenced walk. -/
theorem gapp_in {F : Fence} {nn : Nat} {w : World} {ops : Array Oper} {rest : List Oper} {o : Oper} {a : Act} {Q : Exit → Act → World → Prop} (hgd : o.guard = none) (s x : Operand) {t e : TypeId} {size bytes : Nat} (hT : AppT Tryz.prog t e size bytes)
    (ho : o.op = .call { callee := .builtin .append, args := #[s, x], argTypes := #[t, t] })
    (base : Nat) (A0 : Option Addr) (c0 n : Nat) (xs : List Value) (hs : a.eval s = .slice A0 n c0) (hown : w.ownsRow base e size (.slice A0 n c0) n xs)
    (A : Option Addr) (c m : Nat) (news : List Value) (hx : a.eval x = .slice A m c) (hr : Read w A m size news) (hbig : n + m ≤ 1099511627776) (hbase : base ≤ w.heap.size)
    (h : ∀ A1 c1 w', w'.ownsRow base e size (.slice A1 (n + m) c1) (n + m) (xs ++ news) → w.grownBy w' (blk A0) → (blk A1 = blk A0 ∨ blk A1 = some w.heap.size) → wpListIn F nn Tryz.prog ops Q rest (a.put o.dst (.slice A1 (n + m) c1)) w') : wpListIn F nn Tryz.prog ops Q (o :: rest) a w := by
  refine wpListIn_plain hgd fun K hK' => ?_
  obtain ⟨A1, c1, w', hrun, h1, h2, h3⟩ := run_gapp hT o.type base A0 c0 n xs hown A c m news hr hbig hbase
  unfold Oper.wpIn
  refine ⟨?_, ?_⟩
  · simp [Oper.about, ho, resolve, Target.leads, Sem.run_pure]
  · rw [Oper.semAt_plain F _ _ (by rw [ho]; intro c hc'; cases hc')]
    simp [execOp, ho, resolve, invoke, builtin, hs, hx, hrun, Result.andThen]
    exact hK' _ _ (h A1 c1 w' h1 h2 h3)

set_option maxHeartbeats 400000 in
theorem clone_any (A : Option Addr) (c : Nat) (xs : List Int) (w : World) (h : Vec .i32 w A c xs) (hbig : xs.length ≤ 1000000) :
    Calls Tryz.prog 74 #[.slice A xs.length c] w fun e w' => ∃ A1 c1, e = .returned (.slice A1 xs.length c1) ∧ OwnV w.heap.size w' A1 c1 xs ∧ Below w.heap.size w w' := by
  have q22 : ∀ (w : World) (a : Option Addr) (n c n' c' : Nat), (binOp .eql 26 (.slice a n c) (.slice none n' c')).run Tryz.prog w = .ok (.bool a.isNone) w := fun w a n c n' c' => Lib.run_eql_slice_nil w _ _ a n c n' c' Tryz.underlying26
  rcases A with _ | a
  · obtain rfl : xs = [] := by
      rcases xs with _ | ⟨x, xs⟩
      · rfl
      · obtain ⟨_, _, e, _⟩ := h.rd (by simp); cases e
    have HO := Lib.hid (show OwnV w.heap.size w none 0 [] from ⟨World.ownsRow_nil _ _ _ _, by simp⟩)
    rw [List.length_nil]
    clear h
    go_enter Tryz.func74, Tryz.ntmps74
    go_wp2
    go_ret
    exact ⟨none, 0, rfl, HO.out, Below.refl _ _⟩
  · have HR := Lib.hid (Read.vec (h.below ((Below.refl _ w).alloc (Nat.le_refl _) (.cells #[] 21))))
    have HF := Lib.hid h.fit
    have HO := Lib.hid (World.ownsRow_made (base := w.heap.size) (size := 1) (e := 21) w #[] 0 (Nat.le_refl _) (Nat.zero_le _) rfl)
    generalize hn : xs.length = n at *
    have HN := Lib.hid hn
    clear h hn
    go_enter Tryz.func74, Tryz.ntmps74
    go_wp2_with (at_builtin; refine gapp_at rfl (.tmp 5) (.tmp 6) appI rfl w.heap.size (some ⟨w.heap.size, 0, none⟩) 0 0 [] rfl HO.out (some a) c n (xs.map (Value.int .i32)) rfl HR.out (by omega) (by simp) ?_; intro A1 c1 w1 ho hg _; have HO1 := Lib.hid ho; have HB1 := Lib.hid (show Below w.heap.size w w1 from ((Below.refl _ w).alloc (Nat.le_refl _) (.cells #[] 21)).grown hg (by simp) (fun k hk => Nat.le_of_eq (show w.heap.size = k by simpa [blk] using hk))); clear ho hg)
    go_ret
    refine ⟨A1, c1, rfl, ⟨?_, HF.out⟩, HB1.out⟩
    have := HO1.out
    rw [Nat.zero_add, List.nil_append] at this
    rw [HN.out]
    exact this


end Go.Proofs.YtcekgllahlhaaaaGreatDoor

namespace Go.Proofs.YtcekgllahlhaaaaGreatDoor
open Go.RowKit Go.Shelf
set_option linter.unusedVariables false
set_option linter.unusedSimpArgs false
set_option maxRecDepth 100000

theorem cel_alloc (w : World) (u : Bool) (i b f : Int) (B : Option Addr) (n c : Nat) : Below w.heap.size w (w.alloc (.cells #[.bool u, .int .u64 i, .int .u64 b, .int .u64 f, .slice B n c] 61)) := (Below.refl _ w).alloc (Nat.le_refl _) _
theorem same_ce (u u' : Bool) (i i' b b' f f' : Int) (x x' : List Int) : decide ((⟨u, i, b, f, x⟩ : Ce) = ⟨u', i', b', f', x'⟩) = (decide (u = u') && (decide (i = i') && sameV b b' f f' x x')) := by
  unfold sameV
  rw [Bool.eq_iff_iff]
  simp

set_option maxHeartbeats 1000000 in
theorem isSound_any (p : Pa) (w : World) (h : Vec .i32 w p.B p.c p.e.x) :
    Calls Tryz.prog 69 #[.agg #[.bool p.e.u, .int .u64 p.e.i, .int .u64 p.e.b, .int .u64 p.e.f, .slice p.B p.e.x.length p.c]] w fun y w' => y = .returned (.bool (soundE p.e)) ∧ Below w.heap.size w w' := by
  obtain ⟨⟨u, i, b, f, x⟩, B, c⟩ := p
  dsimp only at h ⊢
  have hB := cel_alloc w u i b f B x.length c
  have HC := Lib.hid (checkVersion_any b f B c x _ (h.below hB))
  have HB := Lib.hid hB
  have HR := Lib.hid (show soundE ⟨u, i, b, f, x⟩ = (u && verR b f x) from rfl)
  have HE := Lib.hid (show verE b f x = if verR b f x = true then 0 else 171 from rfl)
  generalize soundE ⟨u, i, b, f, x⟩ = R at *
  generalize verE b f x = E at *
  generalize verR b f x = V at *
  generalize x.length = n at *
  clear h hB
  cases u
  · have HF := Lib.hid (show R = false from HR.out)
    clear HR HE
    go_enter Tryz.func69, Tryz.ntmps69
    go_wp2
    go_ret
    rw [HF.out]
    exact ⟨rfl, HB.out⟩
  · cases V
    · have HF := Lib.hid (show R = false from HR.out)
      have HE2 := Lib.hid (show E = 171 from HE.out)
      rw [HE2.out] at HC
      clear HR HE HE2
      go_enter Tryz.func69, Tryz.ntmps69
      go_wp2_with fail
      refine HC.out.mono ?_
      rintro y w1 ⟨rfl, hb1⟩
      have HB1 := Lib.hid (HB.out.trans (hb1.mono HB.out.size))
      clear hb1
      go_wp2
      go_ret
      rw [HF.out]
      exact ⟨rfl, HB1.out⟩
    · have HF := Lib.hid (show R = true from HR.out)
      have HE2 := Lib.hid (show E = 0 from HE.out)
      rw [HE2.out] at HC
      clear HR HE HE2
      go_enter Tryz.func69, Tryz.ntmps69
      go_wp2_with fail
      refine HC.out.mono ?_
      rintro y w1 ⟨rfl, hb1⟩
      have HB1 := Lib.hid (HB.out.trans (hb1.mono HB.out.size))
      clear hb1
      go_wp2
      go_ret
      rw [HF.out]
      exact ⟨rfl, HB1.out⟩

set_option maxHeartbeats 1000000 in
theorem sameCell_any (p p' : Pa) (w : World) (h : Vec .i32 w p.B p.c p.e.x) (h' : Vec .i32 w p'.B p'.c p'.e.x) :
    Calls Tryz.prog 70 #[.agg #[.bool p.e.u, .int .u64 p.e.i, .int .u64 p.e.b, .int .u64 p.e.f, .slice p.B p.e.x.length p.c], .agg #[.bool p'.e.u, .int .u64 p'.e.i, .int .u64 p'.e.b, .int .u64 p'.e.f, .slice p'.B p'.e.x.length p'.c]] w fun y w' => y = .returned (.bool (decide (p.e = p'.e))) ∧ Below w.heap.size w w' := by
  obtain ⟨⟨u, i, b, f, x⟩, B, c⟩ := p
  obtain ⟨⟨u', i', b', f', x'⟩, B', c'⟩ := p'
  dsimp only at h h' ⊢
  rw [same_ce]
  have hB : Below w.heap.size w ((w.alloc (.cells #[.bool u, .int .u64 i, .int .u64 b, .int .u64 f, .slice B x.length c] 61)).alloc (.cells #[.bool u', .int .u64 i', .int .u64 b', .int .u64 f', .slice B' x'.length c'] 61)) := ((Below.refl _ w).alloc (Nat.le_refl _) _).alloc (by simp) _
  have HC := Lib.hid (sameVersion_any b b' f f' B B' c c' x x' _ (h.below hB) (h'.below hB))
  have HB := Lib.hid hB
  have HR := Lib.hid (show (decide (u = u') && (decide (i = i') && sameV b b' f f' x x')) = (decide (u = u') && (decide (i = i') && sameV b b' f f' x x')) from rfl)
  generalize hR : (decide (u = u') && (decide (i = i') && sameV b b' f f' x x')) = R at *
  generalize sameV b b' f f' x x' = V at *
  have HR := Lib.hid hR
  generalize x.length = n at *
  generalize x'.length = n' at *
  clear h h' hB hR
  by_cases hu : u = u'
  · subst hu
    by_cases hi : i = i'
    · subst hi
      have HF := Lib.hid (show R = V by rw [← HR.out]; simp)
      have tu : (u == u) = true := by simp
      clear HR
      go_enter Tryz.func70, Tryz.ntmps70
      go_wp2_with fail
      refine HC.out.mono ?_
      rintro y w1 ⟨rfl, hb1⟩
      have HB1 := Lib.hid (HB.out.trans (hb1.mono HB.out.size))
      clear hb1
      go_wp2
      go_ret
      rw [HF.out]
      exact ⟨rfl, HB1.out⟩
    · have HF := Lib.hid (show R = false by rw [← HR.out]; simp [hi])
      have ti : (i == i') = false := by simpa using hi
      have tu : (u == u) = true := by simp
      clear HR hi
      go_enter Tryz.func70, Tryz.ntmps70
      go_wp2
      go_ret
      rw [HF.out]
      exact ⟨rfl, HB.out⟩
  · have HF := Lib.hid (show R = false by rw [← HR.out]; simp [hu])
    have tu : (u == u') = false := by simpa using hu
    clear HR hu
    go_enter Tryz.func70, Tryz.ntmps70
    go_wp2
    go_ret
    rw [HF.out]
    exact ⟨rfl, HB.out⟩

set_option maxHeartbeats 1000000 in
theorem mayCell_any (p : Pa) (w : World) (h : Vec .i32 w p.B p.c p.e.x) :
    Calls Tryz.prog 37 #[.agg #[.bool p.e.u, .int .u64 p.e.i, .int .u64 p.e.b, .int .u64 p.e.f, .slice p.B p.e.x.length p.c]] w fun y w' => y = .returned (.bool (mayE p.e)) ∧ Below w.heap.size w w' := by
  have hB := cel_alloc w p.e.u p.e.i p.e.b p.e.f p.B p.e.x.length p.c
  obtain ⟨W, hW⟩ : ∃ W, W = w.alloc (.cells #[.bool p.e.u, .int .u64 p.e.i, .int .u64 p.e.b, .int .u64 p.e.f, .slice p.B p.e.x.length p.c] 61) := ⟨_, rfl⟩
  rw [← hW] at hB
  have hx : W.heap[w.heap.size]? = some (.cells #[.bool p.e.u, .int .u64 p.e.i, .int .u64 p.e.b, .int .u64 p.e.f, .slice p.B p.e.x.length p.c] 61 (0, 0)) := by rw [hW]; exact heap_alloc_new _ _
  have hz : W.heap.size = w.heap.size + 1 := by rw [hW]; simp
  have HC := Lib.hid (isSound_any p W (h.below hB))
  have HS := Lib.hid (fun (X : World) (hX : Below W.heap.size W X) => sameCell_any p pz X ((h.below hB).below hX) (Vec.nil _ _))
  have HB := Lib.hid hB
  have HX := Lib.hid hx
  have HZ := Lib.hid hz
  have HW := Lib.hid hW
  have HR := Lib.hid (show mayE p.e = (soundE p.e || decide (p.e = zc)) from rfl)
  generalize mayE p.e = R at *
  generalize soundE p.e = S at *
  clear h hB hx hW hz
  cases S with
  | true =>
    have HF := Lib.hid (show R = true from HR.out)
    clear HR
    go_enter Tryz.func37, Tryz.ntmps37
    go_wp2_with fail
    rw [← HW.out]
    refine HC.out.mono ?_
    rintro y w1 ⟨rfl, hb1⟩
    have HB1 := Lib.hid (HB.out.trans (hb1.mono HB.out.size))
    clear hb1
    go_wp2
    go_ret
    rw [HF.out]
    exact ⟨rfl, HB1.out⟩
  | false =>
    have HF := Lib.hid (show R = decide (p.e = zc) from HR.out)
    clear HR
    go_enter Tryz.func37, Tryz.ntmps37
    go_wp2_with fail
    rw [← HW.out]
    refine HC.out.mono ?_
    rintro y w1 ⟨rfl, hb1⟩
    have HB01 := Lib.hid hb1
    have HB1 := Lib.hid (HB.out.trans (hb1.mono HB.out.size))
    have X1 := (hb1.block w.heap.size (by rw [HZ.out]; omega)).trans HX.out
    have x0 := (cell_of_row _ _ 0 _ _ _ X1).trans rfl
    have x1 := (cell_of_row _ _ 1 _ _ _ X1).trans rfl
    have x2 := (cell_of_row _ _ 2 _ _ _ X1).trans rfl
    have x3 := (cell_of_row _ _ 3 _ _ _ X1).trans rfl
    have x4 := (cell_of_row _ _ 4 _ _ _ X1).trans rfl
    have HS1 := Lib.hid (HS.out w1 HB01.out)
    clear hb1 X1
    go_wp2_with fail
    refine HS1.out.mono ?_
    rintro y w2 ⟨rfl, hb2⟩
    have HB2 := Lib.hid (HB1.out.trans (hb2.mono HB1.out.size))
    clear hb2
    go_wp2
    go_ret
    rw [HF.out]
    exact ⟨rfl, HB2.out⟩

end Go.Proofs.YtcekgllahlhaaaaGreatDoor

namespace Go.Proofs.YtcekgllahlhaaaaGreatDoor
open Go.RowKit Go.Shelf
set_option linter.unusedVariables false
set_option linter.unusedSimpArgs false
set_option maxRecDepth 100000

def cmp3 (x y : Int) : Int := if x < y then -1 else if y < x then 1 else 0
theorem nanU_any (x : Int) (w : World) : Calls Tryz.prog 111 #[.int .u64 x] w fun e w' => e = .returned (.bool false) ∧ w = w' := by
  have t : (x != x) = false := by simp
  go_enter Tryz.func111, Tryz.ntmps111
  go_wp2
  go_ret
  exact ⟨rfl, rfl⟩
theorem nanI_any (x : Int) (w : World) : Calls Tryz.prog 112 #[.int .i64 x] w fun e w' => e = .returned (.bool false) ∧ w = w' := by
  have t : (x != x) = false := by simp
  go_enter Tryz.func112, Tryz.ntmps112
  go_wp2
  go_ret
  exact ⟨rfl, rfl⟩
theorem cmpU_any (x y : Int) (w : World) : Calls Tryz.prog 84 #[.int .u64 x, .int .u64 y] w fun e w' => e = .returned (.int .i64 (cmp3 x y)) ∧ w = w' := by
  by_cases h1 : x < y
  · have HF := Lib.hid (show cmp3 x y = -1 by unfold cmp3; rw [if_pos h1])
    go_enter Tryz.func84, Tryz.ntmps84
    go_wp2_with (go_at_call 111; refine (nanU_any _ _).mono ?_; rintro e w' ⟨rfl, rfl⟩)
    go_ret
    rw [HF.out]
    exact ⟨rfl, rfl⟩
  · have t1 : decide (x < y) = false := by simpa using h1
    by_cases h2 : y < x
    · have HF := Lib.hid (show cmp3 x y = 1 by unfold cmp3; rw [if_neg h1, if_pos h2])
      go_enter Tryz.func84, Tryz.ntmps84
      go_wp2_with (go_at_call 111; refine (nanU_any _ _).mono ?_; rintro e w' ⟨rfl, rfl⟩)
      go_ret
      rw [HF.out]
      exact ⟨rfl, rfl⟩
    · have HF := Lib.hid (show cmp3 x y = 0 by unfold cmp3; rw [if_neg h1, if_neg h2])
      have t2 : decide (y < x) = false := by simpa using h2
      go_enter Tryz.func84, Tryz.ntmps84
      go_wp2_with (go_at_call 111; refine (nanU_any _ _).mono ?_; rintro e w' ⟨rfl, rfl⟩)
      go_ret
      rw [HF.out]
      exact ⟨rfl, rfl⟩
theorem cmpI_any (x y : Int) (w : World) : Calls Tryz.prog 85 #[.int .i64 x, .int .i64 y] w fun e w' => e = .returned (.int .i64 (cmp3 x y)) ∧ w = w' := by
  by_cases h1 : x < y
  · have HF := Lib.hid (show cmp3 x y = -1 by unfold cmp3; rw [if_pos h1])
    go_enter Tryz.func85, Tryz.ntmps85
    go_wp2_with (go_at_call 112; refine (nanI_any _ _).mono ?_; rintro e w' ⟨rfl, rfl⟩)
    go_ret
    rw [HF.out]
    exact ⟨rfl, rfl⟩
  · have t1 : decide (x < y) = false := by simpa using h1
    by_cases h2 : y < x
    · have HF := Lib.hid (show cmp3 x y = 1 by unfold cmp3; rw [if_neg h1, if_pos h2])
      go_enter Tryz.func85, Tryz.ntmps85
      go_wp2_with (go_at_call 112; refine (nanI_any _ _).mono ?_; rintro e w' ⟨rfl, rfl⟩)
      go_ret
      rw [HF.out]
      exact ⟨rfl, rfl⟩
    · have HF := Lib.hid (show cmp3 x y = 0 by unfold cmp3; rw [if_neg h1, if_neg h2])
      have t2 : decide (y < x) = false := by simpa using h2
      go_enter Tryz.func85, Tryz.ntmps85
      go_wp2_with (go_at_call 112; refine (nanI_any _ _).mono ?_; rintro e w' ⟨rfl, rfl⟩)
      go_ret
      rw [HF.out]
      exact ⟨rfl, rfl⟩

/-- The first of numbers that is not 0. -/
def or3 (x y z : Int) : Int := if x ≠ 0 then x else if y ≠ 0 then y else z
theorem cmpOr_any (g : Nat) (x y z : Int) (w : World) (h0 : w.cell? ⟨g, 0, none⟩ = some (.int .i64 x)) (h1 : w.cell? ⟨g, 1, none⟩ = some (.int .i64 y)) (h2 : w.cell? ⟨g, 2, none⟩ = some (.int .i64 z)) :
    Calls Tryz.prog 83 #[.slice (some ⟨g, 0, none⟩) 3 3] w fun e w' => e = .returned (.int .i64 (or3 x y z)) ∧ w = w' := by
  have HF := Lib.hid (show or3 x y z = if x ≠ 0 then x else if y ≠ 0 then y else z from rfl)
  generalize or3 x y z = R at *
  go_enter Tryz.func83, Tryz.ntmps83
  go_wp2
  by_cases hx : x = 0
  · by_cases hy : y = 0
    · by_cases hz : z = 0
      · subst hx hy hz
        have HR := Lib.hid (show R = 0 by rw [HF.out]; simp)
        clear HF
        refine wp_loop_rounds 4 ?_
        rw [rounds_succ]
        go_wp2
        rw [rounds_succ]
        go_wp2
        rw [rounds_succ]
        go_wp2
        rw [rounds_succ]
        go_wp2
        go_ret
        rw [HR.out]
        exact ⟨rfl, rfl⟩
      · subst hx hy
        have HR := Lib.hid (show R = z by rw [HF.out]; simp)
        have tz : (z != 0) = true := by simpa using hz
        clear HF hz
        refine wp_loop_rounds 3 ?_
        rw [rounds_succ]
        go_wp2
        rw [rounds_succ]
        go_wp2
        rw [rounds_succ]
        go_wp2
        go_ret
        rw [HR.out]
        exact ⟨rfl, rfl⟩
    · subst hx
      have HR := Lib.hid (show R = y by rw [HF.out]; simp [hy])
      have ty : (y != 0) = true := by simpa using hy
      clear HF hy
      refine wp_loop_rounds 2 ?_
      rw [rounds_succ]
      go_wp2
      rw [rounds_succ]
      go_wp2
      go_ret
      rw [HR.out]
      exact ⟨rfl, rfl⟩
  · have HR := Lib.hid (show R = x by rw [HF.out]; simp [hx])
    have tx : (x != 0) = true := by simpa using hx
    clear HF hx
    refine wp_loop_rounds 1 ?_
    rw [rounds_succ]
    go_wp2
    go_ret
    rw [HR.out]
    exact ⟨rfl, rfl⟩

end Go.Proofs.YtcekgllahlhaaaaGreatDoor

namespace Go.Proofs.YtcekgllahlhaaaaGreatDoor
open Go.RowKit Go.Shelf
set_option linter.unusedVariables false
set_option linter.unusedSimpArgs false
set_option maxRecDepth 100000

/-- A function of cells that only reads. -/
def PredC (fid : FuncId) (cap : Array Value) (P : Ce → Bool) (w : World) : Prop := ∀ (p : Pa) (X : World), Below w.heap.size w X → Vec .i32 X p.B p.c p.e.x → Fit p.e →
  Calls Tryz.prog fid (#[.agg #[.bool p.e.u, .int .u64 p.e.i, .int .u64 p.e.b, .int .u64 p.e.f, .slice p.B p.e.x.length p.c]] ++ cap) X fun e w' => e = .returned (.bool (P p.e)) ∧ Below X.heap.size X w'
theorem PredC.below {fid : FuncId} {cap : Array Value} {P : Ce → Bool} {w w' : World} (h : PredC fid cap P w) (hb : Below w.heap.size w w') : PredC fid cap P w' :=
  fun p X hX hv hf => h p X (hb.trans (hX.mono hb.size)) hv hf

/-- None of the first k is so. -/
def NoneC (P : Ce → Bool) (l : List Ce) (k : Nat) : Prop := ∀ (j : Nat) (u : Ce), j < k → l[j]? = some u → P u = false
theorem NoneC.step {P : Ce → Bool} {l : List Ce} {k : Nat} {v : Ce} (h : NoneC P l k) (hk : l[k]? = some v) (hv : P v = false) : NoneC P l (k + 1) := by
  intro j u hj hu
  by_cases e : j = k
  · subst e; rw [hk] at hu; cases hu; exact hv
  · exact h j u (by omega) hu
theorem NoneC.all {P : Ce → Bool} {l : List Ce} (h : NoneC P l l.length) : l.findIdx? P = none :=
  idx_no fun j u hu => h j u (List.getElem?_eq_some_iff.1 hu).1 hu

set_option maxHeartbeats 1000000 in
theorem indexC_any (A : Option Addr) (c : Nat) (q : List Pa) (fid : FuncId) (cap : Array Value) (P : Ce → Bool) (w : World) (h : Are w A c q)
    (hen : ∀ v W, (callFunc fid (#[v] ++ cap)).run Tryz.prog W = .ok (.enter fid (#[v] ++ cap)) W) (hp : PredC fid cap P w) :
    Calls Tryz.prog 100 #[.slice A q.length c, .func (.func fid) #[] cap] w fun e w' => e = .returned (.int .i64 (idxK ((ces q).findIdx? P))) ∧ Below w.heap.size w w' := by
  obtain ⟨n, hn⟩ : ∃ n, n = q.length := ⟨_, rfl⟩
  have hmn : n ≤ 9223372036854775807 := by rw [hn]; exact h.many
  have HQ := Lib.hid h
  have HN := Lib.hid hn
  have HPr := Lib.hid hp
  generalize hR : idxK ((ces q).findIdx? P) = R at *
  have HR := Lib.hid hR
  rw [← hn]
  clear h hn hp hR
  go_enter Tryz.func100, Tryz.ntmps100
  go_wp2
  go_loopw [8] (fun i wr => ∃ k : Nat, k ≤ n ∧ i = .int .i64 k ∧ Hid (NoneC P (ces q) k) ∧ Hid (Below w.heap.size w wr)) (fun i _ => n - (intOf i).toNat)
  case atStart => exact ⟨0, Nat.zero_le _, rfl, Lib.hid (fun j u hj => by omega), Lib.hid (Below.refl _ _)⟩
  case round =>
    obtain ⟨k, hk, rfl, HK, HB⟩ := hrel
    by_cases hkn : k < n
    · obtain ⟨b, o, p, rfl, hp, hb, c0, c1, c2, c3, c4, hv, hf⟩ := (HQ.out.below HB.out).at_ (i := k) (by rw [← HN.out]; exact hkn)
      have HP := Lib.hid (ces_at hp)
      have k0 : (0 : Int) ≤ k := by omega
      have kn : (k : Int) < n := by omega
      have HV := Lib.hid (HPr.out p wr HB.out hv hf)
      clear hv hp hf
      cases hvis : P p.e with
      | true =>
        have HF := Lib.hid (show R = k by rw [← HR.out, idx_at HP.out hvis HK.out]; rfl)
        rw [hvis] at HV
        clear hvis
        go_wp2_with fail
        refine HV.out.mono ?_
        rintro e w1 ⟨rfl, hb1⟩
        have HB1 := Lib.hid (HB.out.trans (hb1.mono HB.out.size))
        clear hb1
        go_wp2
        go_ret
        rw [HF.out]
        exact ⟨rfl, HB1.out⟩
      | false =>
        have HK2 := Lib.hid (HK.out.step HP.out hvis)
        rw [hvis] at HV
        clear hvis
        go_wp2_with fail
        refine HV.out.mono ?_
        rintro e w1 ⟨rfl, hb1⟩
        have HB1 := Lib.hid (HB.out.trans (hb1.mono HB.out.size))
        clear hb1
        go_wp2
        go_roundw
        case rel => exact ⟨k + 1, by omega, by go_num, HK2, HB1⟩
        case measure => simp [intOf]; omega
    · obtain rfl : k = n := by omega
      have HF := Lib.hid (show R = -1 by rw [← HR.out, NoneC.all (l := ces q) (P := P) (by rw [ces_length, ← HN.out]; exact HK.out)]; rfl)
      go_wp2
      go_ret
      rw [HF.out]
      exact ⟨rfl, HB.out⟩

theorem idx_ge {α : Type} (l : List α) (P : α → Bool) : decide (0 ≤ idxK (l.findIdx? P)) = l.any P := by
  cases h : l.findIdx? P with
  | none =>
    rw [List.findIdx?_eq_none_iff] at h
    have : l.any P = false := by rw [List.any_eq_false]; intro x hx; rw [h x hx]; simp
    rw [this]; rfl
  | some i =>
    rw [List.findIdx?_eq_some_iff_getElem] at h
    obtain ⟨hi, hp, _⟩ := h
    have : l.any P = true := List.any_eq_true.2 ⟨_, List.getElem_mem hi, hp⟩
    rw [this]; simp [idxK]
theorem containsC_any (A : Option Addr) (c : Nat) (q : List Pa) (fid : FuncId) (cap : Array Value) (P : Ce → Bool) (w : World) (h : Are w A c q)
    (hen : ∀ v W, (callFunc fid (#[v] ++ cap)).run Tryz.prog W = .ok (.enter fid (#[v] ++ cap)) W) (hp : PredC fid cap P w) :
    Calls Tryz.prog 67 #[.slice A q.length c, .func (.func fid) #[] cap] w fun e w' => e = .returned (.bool ((ces q).any P)) ∧ Below w.heap.size w w' := by
  have HC := Lib.hid (indexC_any A c q fid cap P w h hen hp)
  have HR := Lib.hid (idx_ge (ces q) P)
  generalize (ces q).any P = R at *
  generalize idxK ((ces q).findIdx? P) = K at *
  generalize q.length = n at *
  clear h hen hp
  go_enter Tryz.func67, Tryz.ntmps67
  go_wp2_with fail
  refine HC.out.mono ?_
  rintro e w1 ⟨rfl, hb1⟩
  have HB1 := Lib.hid hb1
  clear hb1
  go_wp2
  go_ret
  rw [HR.out]
  exact ⟨rfl, HB1.out⟩

theorem every1_any (p : Pa) (g : Nat) (fid : FuncId) (P : Ce → Bool) (w : World) (hg : w.cell? ⟨g, 0, none⟩ = some (.func (.func fid) #[] #[])) (hv : Vec .i32 w p.B p.c p.e.x) (hf : Fit p.e)
    (hen : ∀ v W, (callFunc fid #[v]).run Tryz.prog W = .ok (.enter fid #[v]) W) (hp : PredC fid #[] P w) :
    Calls Tryz.prog 68 #[.agg #[.bool p.e.u, .int .u64 p.e.i, .int .u64 p.e.b, .int .u64 p.e.f, .slice p.B p.e.x.length p.c], .pointer (some ⟨g, 0, none⟩)] w fun y w' => y = .returned (.bool (!P p.e)) ∧ Below w.heap.size w w' := by
  have hB := cel_alloc w p.e.u p.e.i p.e.b p.e.f p.B p.e.x.length p.c
  have hg2 : (w.alloc (.cells #[.bool p.e.u, .int .u64 p.e.i, .int .u64 p.e.b, .int .u64 p.e.f, .slice p.B p.e.x.length p.c] 61)).cell? ⟨g, 0, none⟩ = some _ := (hB.cell (p := ⟨g, 0, none⟩) (World.block_lt_of_cell? w _ hg)).trans hg
  have hne : g ≠ w.heap.size := by have := World.block_lt_of_cell? w _ hg; simp at this; omega
  have HC := Lib.hid (hp p _ hB (hv.below hB) hf)
  rw [Array.append_empty] at HC
  have HB := Lib.hid hB
  generalize P p.e = R at *
  clear hB hp hv hf hg
  go_enter Tryz.func68, Tryz.ntmps68
  go_wp2_with fail
  refine HC.out.mono ?_
  rintro e w1 ⟨rfl, hb1⟩
  have HB1 := Lib.hid (HB.out.trans (hb1.mono HB.out.size))
  clear hb1
  go_wp2
  go_ret
  exact ⟨rfl, HB1.out⟩
theorem any_not {α : Type} (l : List α) (P : α → Bool) : (!l.any fun e => !P e) = l.all P := by
  induction l with
  | nil => rfl
  | cons a l ih => simp only [List.any_cons, List.all_cons, ← ih]; cases P a <;> simp
theorem everyC_any (A : Option Addr) (c : Nat) (q : List Pa) (fid : FuncId) (P : Ce → Bool) (w : World) (h : Are w A c q)
    (hen : ∀ v W, (callFunc fid #[v]).run Tryz.prog W = .ok (.enter fid #[v]) W) (hp : PredC fid #[] P w) :
    Calls Tryz.prog 36 #[.slice A q.length c, .func (.func fid) #[] #[]] w fun e w' => e = .returned (.bool ((ces q).all P)) ∧ Below w.heap.size w w' := by
  obtain ⟨W, hW⟩ : ∃ W, W = w.alloc (.cells #[.func (.func fid) #[] #[]] 95) := ⟨_, rfl⟩
  have hb : Below w.heap.size w W := by rw [hW]; exact (Below.refl _ w).alloc (Nat.le_refl _) _
  have hx : W.cell? ⟨w.heap.size, 0, none⟩ = some (.func (.func fid) #[] #[]) := by rw [hW]; exact cell_laid _ _ _ 0
  have HC := Lib.hid (containsC_any A c q 68 #[.pointer (some ⟨w.heap.size, 0, none⟩)] (fun e => !P e) W (h.below hb) (fun v X => enters_of Tryz.func68 (by kernel_rfl) rfl _ X)
    (fun p X hX hv hf => every1_any p w.heap.size fid P X ((hX.cell (p := ⟨w.heap.size, 0, none⟩) (World.block_lt_of_cell? W _ hx)).trans hx) hv hf hen (hp.below (hb.trans (hX.mono hb.size)))))
  have HB := Lib.hid hb
  have HR := Lib.hid (any_not (ces q) P)
  rw [hW] at HC
  have HW := Lib.hid hW
  generalize (ces q).all P = R at *
  generalize (ces q).any (fun e => !P e) = S at *
  generalize q.length = n at *
  clear h hen hp hb hx hW
  go_enter Tryz.func36, Tryz.ntmps36
  go_wp2_with fail
  refine HC.out.mono ?_
  rw [← HW.out]
  rintro e w1 ⟨rfl, hb1⟩
  have HB1 := Lib.hid (HB.out.trans (hb1.mono HB.out.size))
  clear hb1
  go_wp2
  go_ret
  rw [HR.out]
  exact ⟨rfl, HB1.out⟩

theorem pred_may (w : World) : PredC 37 #[] mayE w := fun p X _ hv _ => mayCell_any p X hv
theorem pred_sound (w : World) : PredC 69 #[] soundE w := fun p X _ hv _ => isSound_any p X hv
theorem enter_may (v : Value) (W : World) : (callFunc 37 #[v]).run Tryz.prog W = .ok (.enter 37 #[v]) W := enters_of Tryz.func37 (by kernel_rfl) rfl _ W
theorem enter_sound (v : Value) (W : World) : (callFunc 69 #[v]).run Tryz.prog W = .ok (.enter 69 #[v]) W := enters_of Tryz.func69 (by kernel_rfl) rfl _ W

theorem checkA_any (A : Option Addr) (c : Nat) (q : List Pa) (w : World) (h : Are w A c q) :
    Calls Tryz.prog 15 #[.agg #[.slice A q.length c]] w fun e w' => e = .returned (.int .i64 (chkA (ces q))) ∧ Below w.heap.size w w' := by
  have hb : Below w.heap.size w (w.alloc (.cells #[.slice A q.length c] 24)) := (Below.refl _ w).alloc (Nat.le_refl _) _
  have HC := Lib.hid (everyC_any A c q 37 mayE _ (h.below hb) enter_may (pred_may _))
  have HB := Lib.hid hb
  have HR := Lib.hid (show chkA (ces q) = if (decide (q.length = 96) && (ces q).all mayE) = true then 0 else 190 from by unfold chkA arB; rw [ces_length])
  generalize chkA (ces q) = R at *
  generalize (ces q).all mayE = S at *
  generalize q.length = n at *
  clear h hb
  by_cases h96 : n = 96
  · cases S with
    | true =>
      have HF := Lib.hid (show R = 0 by rw [HR.out]; simp [h96])
      have t1 : ((n : Int) != 96) = false := by simp; omega
      clear HR h96
      go_enter Tryz.func15, Tryz.ntmps15
      go_wp2_with fail
      refine HC.out.mono ?_
      rintro e w1 ⟨rfl, hb1⟩
      have HB1 := Lib.hid (HB.out.trans (hb1.mono HB.out.size))
      clear hb1
      go_wp2
      go_ret
      rw [HF.out]
      exact ⟨rfl, HB1.out⟩
    | false =>
      have HF := Lib.hid (show R = 190 by rw [HR.out]; simp)
      have t1 : ((n : Int) != 96) = false := by simp; omega
      clear HR h96
      go_enter Tryz.func15, Tryz.ntmps15
      go_wp2_with fail
      refine HC.out.mono ?_
      rintro e w1 ⟨rfl, hb1⟩
      have HB1 := Lib.hid (HB.out.trans (hb1.mono HB.out.size))
      clear hb1
      go_wp2
      go_ret
      rw [HF.out]
      exact ⟨rfl, HB1.out⟩
  · have HF := Lib.hid (show R = 190 by rw [HR.out]; simp [h96])
    have t1 : ((n : Int) != 96) = true := by simp; omega
    clear HR h96
    go_enter Tryz.func15, Tryz.ntmps15
    go_wp2
    go_ret
    rw [HF.out]
    exact ⟨rfl, HB.out⟩

end Go.Proofs.YtcekgllahlhaaaaGreatDoor

namespace Go.Proofs.YtcekgllahlhaaaaGreatDoor
open Go.RowKit Go.Shelf
set_option linter.unusedVariables false
set_option linter.unusedSimpArgs false
set_option maxRecDepth 100000

theorem take_more {α : Type} {a b : List α} {k : Nat} {x y : α} (h : a.take k = b.take k) (hx : a[k]? = some x) (hy : b[k]? = some y) (e : x = y) : a.take (k + 1) = b.take (k + 1) := by
  rw [List.take_add_one, List.take_add_one, h, hx, hy, e]
theorem apart_at {α : Type} {a b : List α} {k : Nat} {x y : α} (hx : a[k]? = some x) (hy : b[k]? = some y) (e : x ≠ y) : a ≠ b := by
  rintro rfl; rw [hx] at hy; exact e (Option.some.inj hy)

/-- Is there such a slot, and is it used? -/
def usedB (l : List Ce) (s : Int) : Bool := decide (0 ≤ s) && (decide (s < l.length) && (ceAt l s.toNat).u)
theorem usedB_iff (l : List Ce) (s : Int) : usedB l s = true ↔ ∃ k : Nat, s = k ∧ k < l.length ∧ (ceAt l k).u = true := by
  unfold usedB
  simp only [Bool.and_eq_true, decide_eq_true_eq]
  constructor
  · rintro ⟨h0, h1, h2⟩; exact ⟨s.toNat, by omega, by omega, h2⟩
  · rintro ⟨k, rfl, h1, h2⟩; exact ⟨by omega, by omega, by simpa using h2⟩

end Go.Proofs.YtcekgllahlhaaaaGreatDoor

namespace Go.Proofs.YtcekgllahlhaaaaGreatDoor
open Go.RowKit Go.Shelf
set_option linter.unusedVariables false
set_option linter.unusedSimpArgs false
set_option maxRecDepth 100000
attribute [local go_sem] Oper.semAt_some

def encC (x : Nat × Pa) : Array Value := #[.int .i64 x.1, .agg #[.bool x.2.e.u, .int .u64 x.2.e.i, .int .u64 x.2.e.b, .int .u64 x.2.e.f, .slice x.2.B x.2.e.x.length x.2.c]]
/-- The used ones of the first k, with their slots. -/
def selU (q : List Pa) : Nat → List (Nat × Pa)
  | 0 => []
  | k + 1 => selU q k ++ (match q[k]? with | some p => if p.e.u = true then [(k, p)] else [] | none => [])
theorem sel_yes {q : List Pa} {k : Nat} {p : Pa} (h : q[k]? = some p) (hp : p.e.u = true) : selU q (k + 1) = selU q k ++ [(k, p)] := by simp [selU, h, hp]
theorem sel_no {q : List Pa} {k : Nat} {p : Pa} (h : q[k]? = some p) (hp : p.e.u = false) : selU q (k + 1) = selU q k := by simp [selU, h, hp]
theorem sel_ces (q : List Pa) : ∀ k, k ≤ q.length → (selU q k).map (fun x => x.2.e) = ((ces q).take k).filter (·.u) := by
  intro k
  induction k with
  | zero => intro _; simp [selU]
  | succ k ih =>
    intro hk
    obtain ⟨p, hp⟩ : ∃ p, q[k]? = some p := ⟨_, List.getElem?_eq_getElem (by omega)⟩
    rw [List.take_add_one, ces_at hp, List.filter_append, ← ih (by omega)]
    cases h : p.e.u
    · rw [sel_no hp h]; simp [h]
    · rw [sel_yes hp h]; simp [h]
theorem sel_used (q : List Pa) : (selU q q.length).length = usedN (ces q) := by
  have := congrArg List.length (sel_ces q _ (Nat.le_refl _))
  rw [List.length_map, ← ces_length, List.take_length, ces_length] at this
  exact this
theorem sel_slots (q : List Pa) : ∀ k, k ≤ q.length → (selU q k).map (fun x => x.1) = (List.range k).filter (fun j => (ceAt (ces q) j).u) := by
  intro k
  induction k with
  | zero => intro _; simp [selU]
  | succ k ih =>
    intro hk
    obtain ⟨p, hp⟩ : ∃ p, q[k]? = some p := ⟨_, List.getElem?_eq_getElem (by omega)⟩
    rw [List.range_succ, List.filter_append, ← ih (by omega)]
    have hc := ces_ceAt hp
    cases h : p.e.u
    · rw [sel_no hp h]; simp [hc, h]
    · rw [sel_yes hp h]; simp [hc, h]
theorem sel_len (q : List Pa) (k : Nat) : (selU q k).length ≤ k := by
  induction k with
  | zero => simp [selU]
  | succ k ih =>
    simp only [selU, List.length_append]
    split
    · split <;> simp <;> omega
    · simp; omega
def NxU (q : List Pa) (pre : List (Nat × Pa)) (x : Nat × Pa) : Prop := q[x.1]? = some x.2 ∧ x.2.e.u = true ∧ pre = selU q x.1

theorem KpD.mono {d B B' : Nat} {W W' : World} (h : KpD d B W W') (hb : B' ≤ B) : KpD d B' W W' := ⟨h.size, fun k o hk hd ho hc => h.keep k o (by omega) hd ho hc⟩
theorem KpD.are {d B : Nat} {W0 W W' : World} (hw : Below W0.heap.size W0 W) (hB : W0.heap.size ≤ B) (hk : KpD d B W W') (p : Addr) (hp : p.block < W0.heap.size) (hd : p.block ≠ d) (v : Value) (hv : W0.cell? p = some v) : W'.cell? p = some v :=
  hk.cell ((hw.cell hp).trans hv) (by omega) hd

end Go.Proofs.YtcekgllahlhaaaaGreatDoor

namespace Go.Proofs.YtcekgllahlhaaaaGreatDoor
open Go.RowKit Go.Shelf
set_option linter.unusedVariables false
set_option linter.unusedSimpArgs false
set_option maxRecDepth 100000

def z96 : Array Value := madeCells #[.bool false, .int .u64 0, .int .u64 0, .int .u64 0, .slice none 0 0] 480
theorem z96_flat : z96.toList.take (96 * 5) = flatA (List.replicate 96 pz) := by kernel_rfl
@[go_sem] theorem make96 (w : World) : (Instr.makeSlice 22 (.int .i64 96) (.int .i64 96)).run Tryz.prog w = .ok (.slice (some ⟨w.heap.size, 0, none⟩) 96 96) (w.alloc (.cells z96 61)) :=
  run_make (P := Tryz.prog) w 22 61 ((Tryz.prog.info? 61).get (by kernel_rfl)) (.agg #[.bool false, .int .u64 0, .int .u64 0, .int .u64 0, .slice none 0 0]) Tryz.underlying22 (Option.some_get _).symm (by kernel_rfl) .i64 .i64 96 96 (by decide) (by decide) (of_decide_eq_true (by kernel_rfl)) (by decide)
theorem own96 (w : World) : OwnA w.heap.size (w.alloc (.cells z96 61)) (some ⟨w.heap.size, 0, none⟩) 96 (List.replicate 96 pz) := by
  refine ⟨⟨?_, .inr ⟨w.heap.size, 96, z96, ?_, Nat.le_refl _, heap_alloc_new w _, ?_, ?_, ?_, ?_⟩⟩, fun p hp => ?_, fun p hp => ?_⟩
  · rw [flatA_length]
  · rw [List.length_replicate]
  · rw [List.length_replicate]; exact Nat.le_refl _
  · decide
  · exact size_madeCells _ _
  · rw [List.length_replicate]; first | exact z96_flat | exact fun j hj => (congrArg (fun l : List Value => l[j]?) z96_flat) | skip
  · rw [List.eq_of_mem_replicate hp]; exact OwnV.nil _ _
  · rw [List.eq_of_mem_replicate hp]; exact fit_zc

/-- A call that answers an arena of the call's own. -/
def GivesA (w : World) (l : List Ce) (e : Ending) (w' : World) : Prop := ∃ g q, e = .returned (.agg #[.slice (some ⟨g, 0, none⟩) 96 96]) ∧ ces q = l ∧ q.length = 96 ∧ OwnA w.heap.size w' (some ⟨g, 0, none⟩) 96 q ∧ Below w.heap.size w w'
theorem ces_pz : ces (List.replicate 96 pz) = List.replicate 96 zc := by simp [ces, pz]

end Go.Proofs.YtcekgllahlhaaaaGreatDoor

namespace Go.Proofs.YtcekgllahlhaaaaGreatDoor
open Go.RowKit Go.Shelf
set_option linter.unusedVariables false
set_option linter.unusedSimpArgs false
set_option maxRecDepth 100000

theorem cel_box {w : World} {g : Nat} {u : Bool} {i b f : Int} {y : Value} {B : Option Addr} {n c : Nat} (h : w.heap[g]? = some (.cells #[.bool u, .int .u64 i, .int .u64 b, .int .u64 f, y] 61 (0, 0))) :
    (w.setCell ⟨g, 4, none⟩ (.slice B n c)).heap[g]? = some (.cells #[.bool u, .int .u64 i, .int .u64 b, .int .u64 f, .slice B n c] 61 (0, 0)) := by
  rw [heap_setCell_same _ _ 4 _ _ _ h]; rfl
theorem turn_set (W : World) (g j : Nat) (u : Value) : Turn (fun i => i = g) W (W.setCell ⟨g, j, none⟩ u) := ⟨rfl, rfl, rfl, by simp [World.setCell], fun k _ hk => Below.heap_setCell _ _ _ _ hk⟩
theorem turn_row (W : World) (g : Nat) (cs : Array Value) : Turn (fun i => i = g) W (W.setRow g cs) := ⟨rfl, rfl, rfl, by simp, fun k _ hk => setRow_other _ _ _ _ hk⟩

end Go.Proofs.YtcekgllahlhaaaaGreatDoor

namespace Go.Proofs.YtcekgllahlhaaaaGreatDoor
open Go.RowKit Go.Shelf
set_option linter.unusedVariables false
set_option linter.unusedSimpArgs false
set_option maxRecDepth 100000

def put5 (w : World) (g o : Nat) (p : Pa) : World := ((((w.setCell ⟨g, o, none⟩ (.bool p.e.u)).setCell ⟨g, o + 1, none⟩ (.int .u64 p.e.i)).setCell ⟨g, o + 2, none⟩ (.int .u64 p.e.b)).setCell ⟨g, o + 3, none⟩ (.int .u64 p.e.f)).setCell ⟨g, o + 4, none⟩ (.slice p.B p.e.x.length p.c)
theorem put5_turn (w : World) (g o : Nat) (p : Pa) : Turn (fun i => i = g) w (put5 w g o p) :=
  ((((turn_set w g o _).trans (turn_set _ g (o + 1) _) (fun i hi => .inl hi)).trans (turn_set _ g (o + 2) _) (fun i hi => .inl hi)).trans (turn_set _ g (o + 3) _) (fun i hi => .inl hi)).trans (turn_set _ g (o + 4) _) (fun i hi => .inl hi)
/-- Numbers do not lie in a row of cells. -/
theorem OwnV.apart {base b' : Nat} {w w' : World} {g c n : Nat} {l : List Value} {B : Option Addr} {cb : Nat} {xs : List Int} (hr : w.ownsRow base 61 5 (.slice (some ⟨g, 0, none⟩) n c) n l) (ht : Turn (fun i => i = g) w w') (hB : OwnV b' w B cb xs) : OwnV b' w' B cb xs := by
  refine ⟨row_turn hB.1 ht (fun k hk e => ?_), hB.2⟩
  subst e
  rcases hr.2 with ⟨e', _⟩ | ⟨g', cap', cur', e', _, hh', _⟩
  · injection e' with e1; cases e1
  · injection e' with e1
    injection e1 with e1
    injection e1 with e1
    subst e1
    rcases hB.1.2 with ⟨e, h0⟩ | ⟨g2, cap, cur, e, hg, hh, _⟩
    · rw [e] at hk; cases hk
    · rw [e] at hk
      have : g2 = k := by simpa [Value.ownBlock] using hk
      subst this
      rw [hh] at hh'
      injection hh' with hh'
      injection hh' with _ ht _
      exact absurd ht (by decide)
theorem OwnA.put {base g c : Nat} {w : World} {q : List Pa} {i : Nat} {p : Pa} (h : OwnA base w (some ⟨g, 0, none⟩) c q) (hi : i < q.length) (hp : OwnV base w p.B p.c p.e.x) (hf : Fit p.e) : OwnA base (put5 w g (i * 5) p) (some ⟨g, 0, none⟩) c (q.set i p) := by
  have hs := (((((h.row.stored (i * 5) (.bool p.e.u)).1.stored (i * 5 + 1) (.int .u64 p.e.i)).1.stored (i * 5 + 2) (.int .u64 p.e.b)).1.stored (i * 5 + 3) (.int .u64 p.e.f)).1.stored (i * 5 + 4) (.slice p.B p.e.x.length p.c)).1
  rw [flatA_set q i p hi] at hs
  have hmem : ∀ r, r ∈ q.set i p → r ∈ q ∨ r = p := fun r hr => List.mem_or_eq_of_mem_set hr
  have ht := put5_turn w g (i * 5) p
  refine ⟨by rw [List.length_set]; exact hs, fun r hr => ?_, fun r hr => ?_⟩
  · rcases hmem r hr with hr | rfl
    · exact (h.el r hr).apart h.row ht
    · exact hp.apart h.row ht
  · rcases hmem r hr with hr | rfl
    · exact h.fit r hr
    · exact hf
/-- The facts that a store of a whole cell asks. -/
theorem OwnA.cells {base g c : Nat} {w : World} {q : List Pa} {i : Nat} (h : OwnA base w (some ⟨g, 0, none⟩) c q) (hi : i < q.length) : ∃ p, q[i]? = some p ∧ w.cell? ⟨g, i * 5, none⟩ = some (.bool p.e.u) ∧ w.cell? ⟨g, i * 5 + 1, none⟩ = some (.int .u64 p.e.i) ∧ w.cell? ⟨g, i * 5 + 2, none⟩ = some (.int .u64 p.e.b) ∧ w.cell? ⟨g, i * 5 + 3, none⟩ = some (.int .u64 p.e.f) ∧ w.cell? ⟨g, i * 5 + 4, none⟩ = some (.slice p.B p.e.x.length p.c) ∧
    w.frozen? ⟨g, i * 5, none⟩ = false ∧ w.frozen? ⟨g, i * 5 + 1, none⟩ = false ∧ w.frozen? ⟨g, i * 5 + 2, none⟩ = false ∧ w.frozen? ⟨g, i * 5 + 3, none⟩ = false ∧ w.frozen? ⟨g, i * 5 + 4, none⟩ = false := by
  obtain ⟨p, hp⟩ : ∃ p, q[i]? = some p := ⟨_, List.getElem?_eq_getElem hi⟩
  obtain ⟨f0, f1, f2, f3, f4⟩ := flatA_get q i p hp
  exact ⟨p, hp, (h.row.cellAt _ (by omega)).trans f0, (h.row.cellAt _ (by omega)).trans f1, (h.row.cellAt _ (by omega)).trans f2, (h.row.cellAt _ (by omega)).trans f3, (h.row.cellAt _ (by omega)).trans f4, h.row.frozenAt _, h.row.frozenAt _, h.row.frozenAt _, h.row.frozenAt _, h.row.frozenAt _⟩

/-- What lies in the slots when those of pre are copied. -/
def fillL (pre : List (Nat × Pa)) : List Ce := pre.foldl (fun l x => l.set x.1 x.2.e) (List.replicate 96 zc)
theorem fill_snoc (pre : List (Nat × Pa)) (x : Nat × Pa) : fillL (pre ++ [x]) = (fillL pre).set x.1 x.2.e := by simp [fillL, List.foldl_append]
theorem pad_snoc {l : List Ce} {e : Ce} (h : l.length < 96) : padL (l ++ [e]) = (padL l).set l.length (useE e) := by
  unfold padL
  rw [List.map_append, List.append_assoc, List.length_append]
  have h2 : List.replicate (96 - l.length) zc = zc :: List.replicate (96 - (l.length + 1)) zc := by rw [show 96 - l.length = (96 - (l.length + 1)) + 1 by omega, List.replicate_succ]
  rw [h2, List.set_append_right _ _ (by simp)]
  simp
theorem pad_nil : padL [] = List.replicate 96 zc := by simp [padL]
theorem fill_sel (q : List Pa) (hq : q.length ≤ 96) : ∀ k, k ≤ q.length → fillL (selU q k) = padL ((ces q).take k) := by
  intro k
  induction k with
  | zero => intro _; simp [selU, fillL, pad_nil]
  | succ k ih =>
    intro hk
    obtain ⟨p, hp⟩ : ∃ p, q[k]? = some p := ⟨_, List.getElem?_eq_getElem (by omega)⟩
    have hl : ((ces q).take k).length = k := by rw [List.length_take, ces_length]; omega
    rw [List.take_add_one, ces_at hp, Option.toList_some, pad_snoc (by omega), ← ih (by omega), hl]
    cases hu : p.e.u with
    | true => rw [sel_yes hp hu, fill_snoc]; simp [useE, hu]
    | false =>
      rw [sel_no hp hu, ih (by omega)]
      have h2 : (padL ((ces q).take k))[k]? = some (useE p.e) := by
        unfold padL
        rw [List.getElem?_append_right (by simp; omega), hl]
        rw [List.length_map, hl, List.getElem?_replicate, if_pos (by omega)]
        simp [useE, hu]
      exact (List.ext_getElem? fun j => by
        rw [List.getElem?_set]
        split
        · rename_i e; subst e
          have hkl : k < (padL ((ces q).take k)).length := (List.getElem?_eq_some_iff.1 h2).1
          rw [if_pos hkl, h2]
        · rfl)
theorem fill_all (q : List Pa) (hq : q.length ≤ 96) : fillL (selU q q.length) = padL (ces q) := by
  rw [fill_sel q hq _ (Nat.le_refl _), ← ces_length, List.take_length]

/-- What is copied so far. -/
def CpA (base g : Nat) (W0 : World) (pre : List (Nat × Pa)) (W : World) : Prop := ∃ q', OwnA base W (some ⟨g, 0, none⟩) 96 q' ∧ q'.length = 96 ∧ ces q' = fillL pre ∧ Turn (fun i => i = g) W0 W
theorem turn_put (W : World) (k : Nat) (o : Obj) : Turn (fun i => i = k) W (W.putObj k o) := ⟨rfl, rfl, rfl, by simp [World.putObj], fun i _ hn => World.putObj_heap_other hn⟩
theorem row_put {w : World} {base : Nat} {e : TypeId} {size : Nat} {v : Value} {n : Nat} {xs : List Value} (h : w.ownsRow base e size v n xs) {k : Nat} {o : Obj} (o' : Obj) (hk : w.heap[k]? = some o) (ho : o.isCells = false) : (w.putObj k o').ownsRow base e size v n xs := by
  rcases h.2 with ⟨e', h0⟩ | ⟨g, cap, cur, e', hg, hh, hnc, hcm, hsz, hcs⟩
  · exact ⟨h.1, .inl ⟨e', h0⟩⟩
  · exact ⟨h.1, .inr ⟨g, cap, cur, e', hg, put_other hk ho hh rfl, hnc, hcm, hsz, hcs⟩⟩
theorem OwnA.putO {base : Nat} {w : World} {A : Option Addr} {c : Nat} {q : List Pa} (h : OwnA base w A c q) {k : Nat} {o : Obj} (o' : Obj) (hk : w.heap[k]? = some o) (ho : o.isCells = false) : OwnA base (w.putObj k o') A c q :=
  ⟨row_put h.row o' hk ho, fun p hp => ⟨row_put (h.el p hp).1 o' hk ho, (h.el p hp).2⟩, h.fit⟩
theorem CpA.below {base g : Nat} {W0 W W' : World} {pre : List (Nat × Pa)} (h : CpA base g W0 pre W) (hb : Below W.heap.size W W') : CpA base g W0 pre W' := by
  obtain ⟨q', h1, h2, h3, h4⟩ := h
  exact ⟨q', h1.below hb, h2, h3, h4.trans (Turn.of_below (S := fun _ => False) hb) (by simp)⟩
theorem CpA.put {base g : Nat} {W0 W : World} {pre : List (Nat × Pa)} (h : CpA base g W0 pre W) {k : Nat} {o : Obj} (o' : Obj) (hk0 : W0.heap.size ≤ k) (hk : W.heap[k]? = some o) (ho : o.isCells = false) : CpA base g W0 pre (W.putObj k o') := by
  obtain ⟨q', h1, h2, h3, h4⟩ := h
  exact ⟨q', h1.putO o' hk ho, h2, h3, h4.trans (turn_put _ _ _) (fun i hi => .inr (by omega))⟩
theorem keeps_turn {B0 : Nat} {S : Nat → Prop} {W W' : World} (h : Turn S W W') (hc : ∀ i, S i → ∃ o, W.heap[i]? = some o ∧ o.isCells = true) : KeepsFrom B0 W W' :=
  ⟨h.size, fun k o _ hk ho => (h.block k (lt_of_block hk) (fun e => by obtain ⟨o2, h2, h3⟩ := hc k e; rw [hk] at h2; cases h2; rw [ho] at h3; cases h3)).trans hk⟩
theorem kpd_turn {d B : Nat} {S : Nat → Prop} {W W' : World} (h : Turn S W W') (hS : ∀ i, S i → i = d ∨ B ≤ i) : KpD d B W W' :=
  ⟨h.size, fun k o hk hd ho _ => (h.block k (lt_of_block ho) (fun e => (hS k e).elim hd (fun e => by omega))).trans ho⟩
theorem OwnA.isCells {base : Nat} {w : World} {g c : Nat} {q : List Pa} (h : OwnA base w (some ⟨g, 0, none⟩) c q) : ∃ o, w.heap[g]? = some o ∧ o.isCells = true := by
  rcases h.row.2 with ⟨e, h0⟩ | ⟨g', cap, cur, e, hg, hh, _⟩
  · injection e with e1; cases e1
  · injection e with e1; injection e1 with e1; injection e1 with e1; subst e1
    exact ⟨_, hh, rfl⟩
theorem OwnA.lo {base : Nat} {w : World} {g c : Nat} {q : List Pa} (h : OwnA base w (some ⟨g, 0, none⟩) c q) : base ≤ g ∧ g < w.heap.size := h.row.lt g rfl

/-- One more cell is copied: all that the round asks, and leaves. -/
theorem cp_step {base g B0 B : Nat} {W0 W w1 : World} {pre : List (Nat × Pa)} {k : Nat} {p : Pa} {A1 : Option Addr} {c1 : Nat} (h : CpA base g W0 pre W) (hk : k < 96) (hf : Fit p.e) (hB : base ≤ W.heap.size)
    (hv : OwnV W.heap.size w1 A1 c1 p.e.x) (hb : Below W.heap.size W w1) :
    (∃ p0 : Pa, w1.cell? ⟨g, k * 5, none⟩ = some (.bool p0.e.u) ∧ w1.cell? ⟨g, k * 5 + 1, none⟩ = some (.int .u64 p0.e.i) ∧ w1.cell? ⟨g, k * 5 + 2, none⟩ = some (.int .u64 p0.e.b) ∧ w1.cell? ⟨g, k * 5 + 3, none⟩ = some (.int .u64 p0.e.f) ∧ w1.cell? ⟨g, k * 5 + 4, none⟩ = some (.slice p0.B p0.e.x.length p0.c)) ∧
    (w1.frozen? ⟨g, k * 5, none⟩ = false ∧ w1.frozen? ⟨g, k * 5 + 1, none⟩ = false ∧ w1.frozen? ⟨g, k * 5 + 2, none⟩ = false ∧ w1.frozen? ⟨g, k * 5 + 3, none⟩ = false ∧ w1.frozen? ⟨g, k * 5 + 4, none⟩ = false) ∧
    (KeepsFrom B0 W (put5 w1 g (k * 5) ⟨p.e, A1, c1⟩) ∧ KpD g B W (put5 w1 g (k * 5) ⟨p.e, A1, c1⟩) ∧ CpA base g W0 (pre ++ [(k, p)]) (put5 w1 g (k * 5) ⟨p.e, A1, c1⟩)) := by
  obtain ⟨q', h1, h2, h3, h4⟩ := h
  have h1' := h1.below hb
  obtain ⟨p0, _, c0, c1', c2, c3, c4, f0, f1, f2, f3, f4⟩ := h1'.cells (i := k) (by omega)
  have ht : Turn (fun i => i = g) W (put5 w1 g (k * 5) ⟨p.e, A1, c1⟩) := (Turn.of_below (S := fun i => i = g) hb).trans (put5_turn w1 g (k * 5) ⟨p.e, A1, c1⟩) (fun i hi => .inl hi)
  refine ⟨⟨p0, c0, c1', c2, c3, c4⟩, ⟨f0, f1, f2, f3, f4⟩, keeps_turn ht (fun i hi => by subst hi; exact h1.isCells), kpd_turn ht (fun i hi => .inl hi), q'.set k ⟨p.e, A1, c1⟩, ?_, by simp [h2], ?_, h4.trans ht (fun i hi => .inl hi)⟩
  · exact h1'.put (by omega) (hv.mono hB) hf
  · rw [ces_set, h3, fill_snoc]

end Go.Proofs.YtcekgllahlhaaaaGreatDoor

namespace Go.Proofs.YtcekgllahlhaaaaGreatDoor
open Go.RowKit Go.Shelf
set_option linter.unusedVariables false
set_option linter.unusedSimpArgs false
set_option maxRecDepth 100000
attribute [local go_sem] Oper.semAt_some

theorem below_putO {B k : Nat} {w : World} {o : Obj} (hk : B ≤ k) (hB : B ≤ w.heap.size) : Below B w (w.putObj k o) := (turn_put w k o).below hB (fun i hi => by omega)

end Go.Proofs.YtcekgllahlhaaaaGreatDoor

namespace Go.Proofs.YtcekgllahlhaaaaGreatDoor
open Go.RowKit Go.Shelf
set_option linter.unusedVariables false
set_option linter.unusedSimpArgs false
set_option maxRecDepth 100000
attribute [local go_sem] Oper.semAt_some

/-- What is counted so far. -/
def CntI (g : Nat) (W0 : World) (pre : List (Nat × Pa)) (W : World) : Prop := Boxed W g 3 (.int .i64 (96 - (pre.length : Int))) ∧ Turn (fun i => i = g) W0 W
theorem CntI.below {g : Nat} {W0 W W' : World} {pre : List (Nat × Pa)} (h : CntI g W0 pre W) (hb : Below W.heap.size W W') : CntI g W0 pre W' :=
  ⟨(hb.block _ h.1.lt).trans h.1, h.2.trans (Turn.of_below (S := fun _ => False) hb) (by simp)⟩
theorem CntI.put {g : Nat} {W0 W : World} {pre : List (Nat × Pa)} (h : CntI g W0 pre W) {k : Nat} {o : Obj} (o' : Obj) (hk0 : W0.heap.size ≤ k) (hk : W.heap[k]? = some o) (ho : o.isCells = false) : CntI g W0 pre (W.putObj k o') :=
  ⟨put_other hk ho h.1 rfl, h.2.trans (turn_put _ _ _) (fun i hi => .inr (by omega))⟩
theorem freeA_eq {l : List Ce} (h : arB l = true) : freeA l = 96 - (usedN l : Int) := by
  unfold freeA
  rw [h, if_pos rfl]
  have := used_free l
  have := arB_len h
  omega

end Go.Proofs.YtcekgllahlhaaaaGreatDoor

namespace Go.Proofs.YtcekgllahlhaaaaGreatDoor
open Go.RowKit Go.Shelf
set_option linter.unusedVariables false
set_option linter.unusedSimpArgs false
set_option maxRecDepth 100000

/-- A call that answers an arena of the call's own, and an error. -/
def GivesAE (w : World) (l : List Ce) (er : Int) (e : Ending) (w' : World) : Prop := ∃ A c q, e = .returned (.tuple #[.agg #[.slice A (List.length q) c], .int .i64 er]) ∧ ces q = l ∧ OwnA w.heap.size w' A c q ∧ Below w.heap.size w w'
theorem res_set {B : Nat} {w w1 : World} {g : Nat} {u : Value} {t : TypeId} (v : Value) (h : Boxed w1 g t u) (hb : Below B w w1) (hg : B ≤ g) : (w1.setCell ⟨g, 0, none⟩ v).cell? ⟨g, 0, none⟩ = some v ∧ Below B w (w1.setCell ⟨g, 0, none⟩ v) :=
  ⟨World.cell?_setCell_same _ _ _ h.cell, hb.setCell hg _⟩

def packE (l : List Ce) : Int := if 96 < l.length then 6 else if l.all soundE = true then 0 else 2
def packL (l : List Ce) : List Ce := if packE l = 0 then padL l else []

end Go.Proofs.YtcekgllahlhaaaaGreatDoor

namespace Go.Proofs.YtcekgllahlhaaaaGreatDoor
open Go.RowKit Go.Shelf
set_option linter.unusedVariables false
set_option linter.unusedSimpArgs false
set_option maxRecDepth 100000

theorem may_true (i b f : Int) (x : List Int) : mayE ⟨true, i, b, f, x⟩ = verR b f x := by
  unfold mayE soundE
  simp [zc]
theorem may_false (i b f : Int) (x : List Int) : mayE ⟨false, i, b, f, x⟩ = (decide (i = 0) && (decide (b = 0) && (decide (f = 0) && decide (x.length = 0)))) := by
  unfold mayE soundE
  rw [Bool.eq_iff_iff]
  simp [zc]

theorem right_take {l : List Ce} (h : NoneC (fun e => !mayE e) l l.length) : arB l = decide (l.length = 96) := by
  unfold arB
  have : l.all mayE = true := by
    rw [List.all_eq_true]
    intro e he
    obtain ⟨j, hj, rfl⟩ := List.getElem_of_mem he
    have := h j _ hj (List.getElem?_eq_getElem hj)
    simpa using this
  rw [this, Bool.and_true]
theorem right_no {l : List Ce} {k : Nat} {e : Ce} (h : l[k]? = some e) (he : mayE e = false) : arB l = false := by
  unfold arB
  have : l.all mayE = false := by rw [List.all_eq_false]; exact ⟨e, List.mem_of_getElem? h, by simp [he]⟩
  rw [this, Bool.and_false]

theorem free_take {l : List Ce} {k : Nat} {e : Ce} (h : l[k]? = some e) : freeN (l.take (k + 1)) = freeN (l.take k) + (if e.u = true then 0 else 1) := by
  unfold freeN
  rw [List.take_add_one, h, Option.toList_some, List.filter_append, List.length_append]
  cases hu : e.u <;> simp [hu]

end Go.Proofs.YtcekgllahlhaaaaGreatDoor

namespace Go.Proofs.YtcekgllahlhaaaaGreatDoor
open Go.RowKit Go.Shelf
set_option linter.unusedVariables false
set_option linter.unusedSimpArgs false
set_option maxRecDepth 100000

theorem vec_empty {k : IntKind} {w w' : World} {A : Option Addr} {c : Nat} {xs : List Int} (h : Vec k w A c xs) (hx : xs = []) : Vec k w' A c xs := by
  subst hx
  exact ⟨h.room, h.most, fun h => absurd h (by simp), by simp⟩
/-- A row of cells of the call's own. -/
def RowA (base : Nat) (w : World) (A : Option Addr) (c : Nat) (q : List Pa) : Prop := w.ownsRow base 61 5 (.slice A q.length c) q.length (flatA q)
theorem RowA.are {base : Nat} {w0 w : World} {A : Option Addr} {c : Nat} {q : List Pa} (h : RowA base w A c q) (hv : ∀ p ∈ q, Vec .i32 w0 p.B p.c p.e.x) (hf : ∀ p ∈ q, Fit p.e) (hb : Below w0.heap.size w0 w) : Are w A c q :=
  own_are h (fun p hp => (hv p hp).below hb) hf
theorem RowA.turn {base : Nat} {w w' : World} {A : Option Addr} {c : Nat} {q : List Pa} {S : Nat → Prop} (h : RowA base w A c q) (ht : Turn S w w') (hS : ∀ i, blk A = some i → ¬ S i) : RowA base w' A c q :=
  row_turn h ht (fun i hi => hS i (by rw [own_blk] at hi; exact hi))
theorem RowA.lo {base : Nat} {w : World} {A : Option Addr} {c : Nat} {q : List Pa} (h : RowA base w A c q) : ∀ i, blk A = some i → base ≤ i ∧ i < w.heap.size := fun i hi => World.ownsRow.lt h i (by rw [own_blk]; exact hi)
theorem row_put5 {base g c n : Nat} {w : World} {q : List Pa} {i : Nat} {p : Pa} (h : w.ownsRow base 61 5 (.slice (some ⟨g, 0, none⟩) n c) n (flatA q)) (hn : q.length = n) (hi : i < n) : RowA base (put5 w g (i * 5) p) (some ⟨g, 0, none⟩) c (q.set i p) := by
  have hs := (((((h.stored (i * 5) (.bool p.e.u)).1.stored (i * 5 + 1) (.int .u64 p.e.i)).1.stored (i * 5 + 2) (.int .u64 p.e.b)).1.stored (i * 5 + 3) (.int .u64 p.e.f)).1.stored (i * 5 + 4) (.slice p.B p.e.x.length p.c)).1
  rw [flatA_set q i p (by omega)] at hs
  unfold RowA
  rw [List.length_set, hn]
  exact hs

/-- What lies in the boxes of With. -/
structure WithB (w W0 : World) (A : Option Addr) (n c : Nat) (u : Bool) (i b f : Int) (B : Option Addr) (nx cx : Nat) : Prop where
  size : W0.heap.size = w.heap.size + 3
  below : Below w.heap.size w W0
  ar : Boxed W0 w.heap.size 24 (.slice A n c)
  ce : W0.heap[w.heap.size + 1]? = some (.cells #[.bool u, .int .u64 i, .int .u64 b, .int .u64 f, .slice B nx cx] 61 (0, 0))
  res : Boxed W0 (w.heap.size + 2) 24 (.slice none 0 0)
theorem withB (w : World) (A : Option Addr) (n c : Nat) (u : Bool) (i b f : Int) (B : Option Addr) (nx cx : Nat) : WithB w (((w.alloc (.cells #[.slice A n c] 24)).alloc (.cells #[.bool u, .int .u64 i, .int .u64 b, .int .u64 f, .slice B nx cx] 61)).alloc (.cells #[.slice none 0 0] 24)) A n c u i b f B nx cx := by
  refine ⟨by simp, (((Below.refl _ w).alloc (Nat.le_refl _) _).alloc (by simp) _).alloc (by simp; omega) _, ((Boxed.new w _ _).alloc _).alloc _, ?_, ?_⟩
  · have h := heap_alloc_new (w.alloc (.cells #[.slice A n c] 24)) (.cells #[.bool u, .int .u64 i, .int .u64 b, .int .u64 f, .slice B nx cx] 61)
    rw [World.size_alloc] at h
    exact (Below.heap_alloc _ _ _ (by simp)).trans h
  · have h := Boxed.new ((w.alloc (.cells #[.slice A n c] 24)).alloc (.cells #[.bool u, .int .u64 i, .int .u64 b, .int .u64 f, .slice B nx cx] 61)) 24 (.slice none 0 0)
    rw [World.size_alloc, World.size_alloc] at h
    exact h

theorem with_after {w W0 w1 : World} {A A1 : Option Addr} {n c c1 k : Nat} {u : Bool} {i b f : Int} {B : Option Addr} {nx cx : Nat} {q : List Pa} (hP : WithB w W0 A n c u i b f B nx cx)
    (ho : w1.ownsRow W0.heap.size 61 5 (.slice A1 (0 + n) c1) (0 + n) ([] ++ flatA q)) (hg : (W0.alloc (.cells #[] 61)).grownBy w1 (blk (some ⟨W0.heap.size, 0, none⟩))) (hn : q.length = n) (hk : k < n) :
    ∃ g, A1 = some ⟨g, 0, none⟩ ∧ W0.heap.size ≤ g ∧ w1.ownsRow W0.heap.size 61 5 (.slice (some ⟨g, 0, none⟩) n c1) n (flatA q) ∧ Below W0.heap.size W0 w1 ∧
      (∃ p0 : Pa, w1.cell? ⟨g, k * 5, none⟩ = some (.bool p0.e.u) ∧ w1.cell? ⟨g, k * 5 + 1, none⟩ = some (.int .u64 p0.e.i) ∧ w1.cell? ⟨g, k * 5 + 2, none⟩ = some (.int .u64 p0.e.b) ∧ w1.cell? ⟨g, k * 5 + 3, none⟩ = some (.int .u64 p0.e.f) ∧ w1.cell? ⟨g, k * 5 + 4, none⟩ = some (.slice p0.B p0.e.x.length p0.c)) ∧
      (w1.frozen? ⟨g, k * 5, none⟩ = false ∧ w1.frozen? ⟨g, k * 5 + 1, none⟩ = false ∧ w1.frozen? ⟨g, k * 5 + 2, none⟩ = false ∧ w1.frozen? ⟨g, k * 5 + 3, none⟩ = false ∧ w1.frozen? ⟨g, k * 5 + 4, none⟩ = false) ∧
      (w1.cell? ⟨w.heap.size + 1, 0, none⟩ = some (.bool u) ∧ w1.cell? ⟨w.heap.size + 1, 1, none⟩ = some (.int .u64 i) ∧ w1.cell? ⟨w.heap.size + 1, 2, none⟩ = some (.int .u64 b) ∧ w1.cell? ⟨w.heap.size + 1, 3, none⟩ = some (.int .u64 f) ∧ w1.cell? ⟨w.heap.size + 1, 4, none⟩ = some (.slice B nx cx)) := by
  rw [Nat.zero_add, List.nil_append] at ho
  have hB : Below W0.heap.size W0 w1 := ((Below.refl _ W0).alloc (Nat.le_refl _) (.cells #[] 61)).grown hg (by simp) (fun k hk => Nat.le_of_eq (show W0.heap.size = k by simpa [blk] using hk))
  have hgs : ∃ g, A1 = some ⟨g, 0, none⟩ ∧ W0.heap.size ≤ g := by
    rcases ho.2 with ⟨e, h0⟩ | ⟨g, cap, cur, e, hg, hh, _⟩
    · omega
    · injection e with e1
      exact ⟨g, e1, hg⟩
  obtain ⟨g, rfl, hgl⟩ := hgs
  obtain ⟨p0, hp⟩ : ∃ p0, q[k]? = some p0 := ⟨_, List.getElem?_eq_getElem (by omega)⟩
  obtain ⟨f0, f1, f2, f3, f4⟩ := flatA_get q k p0 hp
  have e1 := (hB.block _ (lt_of_block hP.ce)).trans hP.ce
  refine ⟨g, rfl, hgl, ho, hB, ⟨p0, (ho.cellAt _ (by omega)).trans f0, (ho.cellAt _ (by omega)).trans f1, (ho.cellAt _ (by omega)).trans f2, (ho.cellAt _ (by omega)).trans f3, (ho.cellAt _ (by omega)).trans f4⟩, ⟨ho.frozenAt _, ho.frozenAt _, ho.frozenAt _, ho.frozenAt _, ho.frozenAt _⟩, ?_⟩
  exact ⟨(cell_of_row _ _ 0 _ _ _ e1).trans rfl, (cell_of_row _ _ 1 _ _ _ e1).trans rfl, (cell_of_row _ _ 2 _ _ _ e1).trans rfl, (cell_of_row _ _ 3 _ _ _ e1).trans rfl, (cell_of_row _ _ 4 _ _ _ e1).trans rfl⟩

end Go.Proofs.YtcekgllahlhaaaaGreatDoor
