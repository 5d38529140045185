/-
  Arenas as values: which cells may be, how many are free, what comes of them. No program is named here.
-/
import Derived.Test.YtpdebkpblpipcaaCodRefC
namespace Go.Proofs.Ytpdebkpblpipcaa
set_option linter.unusedVariables false
set_option linter.unusedSimpArgs false

/-- A cell as a value. -/
structure Ce where
  u : Bool
  i : Int
  b : Int
  f : Int
  x : List Int
instance : DecidableEq Ce := fun a c => decidable_of_iff (a.u = c.u ∧ a.i = c.i ∧ a.b = c.b ∧ a.f = c.f ∧ a.x = c.x) (by cases a; cases c; simp)
def zc : Ce := ⟨false, 0, 0, 0, []⟩
instance : Inhabited Ce := ⟨zc⟩
def soundE (e : Ce) : Bool := e.u && verR e.b e.f e.x
def mayE (e : Ce) : Bool := soundE e || decide (e = zc)
def arB (l : List Ce) : Bool := decide (l.length = 96) && l.all mayE
def chkA (l : List Ce) : Int := if arB l = true then 0 else 190
theorem arB_len {l : List Ce} (h : arB l = true) : l.length = 96 := by unfold arB at h; simp at h; exact h.1
theorem arB_may {l : List Ce} (h : arB l = true) : ∀ e ∈ l, mayE e = true := by unfold arB at h; simp at h; exact h.2
theorem chkA_ok {l : List Ce} (h : arB l = true) : chkA l = 0 := by unfold chkA; rw [h]; rfl
theorem chkA_no {l : List Ce} (h : arB l = false) : chkA l = 190 := by unfold chkA; rw [h]; rfl
theorem chkA_iff (l : List Ce) : chkA l = 0 ↔ arB l = true := by unfold chkA; cases arB l <;> simp
theorem may_used {e : Ce} (h : mayE e = true) (hu : e.u = true) : soundE e = true := by
  unfold mayE at h
  rw [Bool.or_eq_true] at h
  rcases h with h | h
  · exact h
  · have : e = zc := by simpa using h
    rw [this] at hu; cases hu
theorem may_free {e : Ce} (h : mayE e = true) (hu : e.u = false) : e = zc := by
  unfold mayE soundE at h
  rw [hu] at h
  simpa using h
theorem sound_used {e : Ce} (h : soundE e = true) : e.u = true := by unfold soundE at h; rw [Bool.and_eq_true] at h; exact h.1
theorem sound_ver {e : Ce} (h : soundE e = true) : verR e.b e.f e.x = true := by unfold soundE at h; rw [Bool.and_eq_true] at h; exact h.2
theorem sound_may {e : Ce} (h : soundE e = true) : mayE e = true := by unfold mayE; rw [h]; rfl
theorem may_zc : mayE zc = true := by unfold mayE; simp
theorem ver_len {b f : Int} {x : List Int} (h : verR b f x = true) : 1 ≤ x.length ∧ x.length ≤ 4 := by
  unfold verR at h
  rw [Bool.and_eq_true] at h
  have := h.1
  unfold right at this
  simp at this
  omega
theorem may_len {e : Ce} (h : mayE e = true) : e.x.length ≤ 4 := by
  cases hu : e.u
  · rw [may_free h hu]; simp [zc]
  · exact (ver_len (sound_ver (may_used h hu))).2

/-- What is told of a cell in a slot. -/
def ceAt (l : List Ce) (k : Nat) : Ce := l.getD k zc
theorem ceAt_some {l : List Ce} {k : Nat} {e : Ce} (h : l[k]? = some e) : ceAt l k = e := by simp [ceAt, List.getD, h]
theorem at_ce {l : List Ce} {k : Nat} (h : k < l.length) : l[k]? = some (ceAt l k) := by simp [ceAt, List.getD, h]

/-- How many of the first k are used, and how many are not. -/
def usedN (l : List Ce) : Nat := (l.filter (·.u)).length
def freeN (l : List Ce) : Nat := (l.filter (fun e => !e.u)).length
theorem used_free (l : List Ce) : usedN l + freeN l = l.length := by
  unfold usedN freeN
  induction l with
  | nil => rfl
  | cons e l ih => cases h : e.u <;> simp [h] <;> omega
def freeA (l : List Ce) : Int := if arB l = true then (freeN l : Int) else 0
theorem used_le (l : List Ce) : usedN l ≤ l.length := by have := used_free l; omega

/-- The least slot that is free. -/
def leastO (l : List Ce) : Option Nat := l.findIdx? (fun e => !e.u)
def idxK (o : Option Nat) : Int := match o with | some i => i | none => -1
theorem idx_at {α : Type} {l : List α} {P : α → Bool} {k : Nat} {v : α} (h : l[k]? = some v) (hv : P v = true) (hn : ∀ (j : Nat) (u : α), j < k → l[j]? = some u → P u = false) : l.findIdx? P = some k := by
  rw [List.findIdx?_eq_some_iff_getElem]
  obtain ⟨hk, e⟩ := List.getElem?_eq_some_iff.1 h
  refine ⟨hk, by rw [e]; exact hv, fun j hj => ?_⟩
  have := hn j _ hj (List.getElem?_eq_getElem (by omega))
  simp [this]
theorem idx_no {α : Type} {l : List α} {P : α → Bool} (hn : ∀ (j : Nat) (u : α), l[j]? = some u → P u = false) : l.findIdx? P = none := by
  rw [List.findIdx?_eq_none_iff]
  intro x hx
  obtain ⟨j, hj, rfl⟩ := List.getElem_of_mem hx
  exact hn j _ (List.getElem?_eq_getElem hj)
theorem least_some {l : List Ce} {k : Nat} (h : leastO l = some k) : k < l.length ∧ (ceAt l k).u = false ∧ ∀ j, j < k → (ceAt l j).u = true := by
  unfold leastO at h
  rw [List.findIdx?_eq_some_iff_getElem] at h
  obtain ⟨hk, h1, h2⟩ := h
  refine ⟨hk, ?_, fun j hj => ?_⟩
  · simpa [ceAt, List.getD, hk] using h1
  · have := h2 j hj
    have hjl : j < l.length := by omega
    simpa [ceAt, List.getD, hjl] using this
theorem least_none {l : List Ce} (h : leastO l = none) : freeN l = 0 := by
  unfold leastO at h
  rw [List.findIdx?_eq_none_iff] at h
  unfold freeN
  rw [List.length_eq_zero_iff, List.filter_eq_nil_iff]
  intro a ha
  rw [h a ha]; simp
theorem least_free {l : List Ce} {k : Nat} (h : leastO l = some k) : 0 < freeN l := by
  obtain ⟨h1, h2, _⟩ := least_some h
  unfold freeN
  rw [List.length_pos_iff_exists_mem]
  exact ⟨ceAt l k, List.mem_filter.2 ⟨List.mem_of_getElem? (at_ce h1), by simp [h2]⟩⟩

/-- What is copied: the used ones, each in its slot; all else is zero. -/
def useE (e : Ce) : Ce := if e.u = true then e else zc
def padL (l : List Ce) : List Ce := l.map useE ++ List.replicate (96 - l.length) zc
theorem pad_length {l : List Ce} (h : l.length ≤ 96) : (padL l).length = 96 := by simp [padL]; omega
theorem pad_same {l : List Ce} (h : arB l = true) : padL l = l := by
  unfold padL
  rw [arB_len h]
  simp
  conv => rhs; rw [← List.map_id l]
  refine List.map_congr_left fun e he => ?_
  unfold useE
  split
  · rfl
  · rename_i hu
    exact (may_free (arB_may h e he) (by simpa using hu)).symm
theorem pad_all {l : List Ce} (h : l.all soundE = true) : padL l = l ++ List.replicate (96 - l.length) zc := by
  unfold padL
  congr 1
  conv => rhs; rw [← List.map_id l]
  refine List.map_congr_left fun e he => ?_
  unfold useE
  rw [if_pos (sound_used (List.all_eq_true.1 h e he))]
  rfl
theorem pad_right {l : List Ce} (hl : l.length ≤ 96) (h : l.all soundE = true) : arB (padL l) = true := by
  unfold arB
  rw [pad_length hl, pad_all h, List.all_append]
  have h1 : l.all mayE = true := List.all_eq_true.2 fun e he => sound_may (List.all_eq_true.1 h e he)
  have h2 : (List.replicate (96 - l.length) zc).all mayE = true := List.all_eq_true.2 fun e he => by rw [List.eq_of_mem_replicate he]; exact may_zc
  rw [h1, h2]; rfl
theorem set_right {l : List Ce} {k : Nat} {e : Ce} (h : arB l = true) (he : mayE e = true) : arB (l.set k e) = true := by
  unfold arB
  rw [List.length_set, arB_len h]
  simp only [decide_true, Bool.true_and]
  rw [List.all_eq_true]
  intro a ha
  rcases List.mem_or_eq_of_mem_set ha with ha | rfl
  · exact arB_may h a ha
  · exact he
theorem freeN_set {l : List Ce} {k : Nat} {e : Ce} (hk : k < l.length) (h : (ceAt l k).u = false) (he : e.u = true) : freeN (l.set k e) + 1 = freeN l := by
  unfold freeN
  induction l generalizing k with
  | nil => simp at hk
  | cons a l ih =>
    cases k with
    | zero =>
      have ha : a.u = false := by simpa [ceAt] using h
      simp [ha, he]
    | succ k =>
      have := ih (k := k) (by simpa using hk) (by simpa [ceAt] using h)
      cases ha : a.u <;> simp [ha] <;> omega

end Go.Proofs.Ytpdebkpblpipcaa
