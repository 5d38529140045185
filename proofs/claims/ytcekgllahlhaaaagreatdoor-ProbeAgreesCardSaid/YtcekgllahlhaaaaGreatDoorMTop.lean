/-
  TopMath, TopBase, TopCmp, TopPile, TopApp, TopKeep, TopHeap, TopDo, TopTake, TopEmpty, TopLet, TopSeq, TopFirst, TopAsk, TopAsk2, TopTop, TopDoes.
-/
import Derived.Test.YtcekgllahlhaaaaGreatDoorMVec
import Derived.Test.YtcekgllahlhaaaaGreatDoorRows
import Derived.Deep.RegionHeld3
import Derived.Shelf.Abstract
import Derived.Deep.AppendLies
import Derived.Handy
import Derived.ChangeKeysEq
import Derived.Deep.RegionLaw
import Derived.Maps.AppendAt
import Derived.OneCell
import Derived.OwnWalk
import Derived.Deep.Cut
import Derived.Test.YtcekgllahlhaaaaGreatDoorMCod
import Derived.Deep.Onto
namespace Go.Proofs.YtcekgllahlhaaaaGreatDoor
namespace TopL
set_option linter.unusedVariables false
set_option linter.unusedSimpArgs false

abbrev HitM := Int × Int
def z2 : HitM := (0, 0)
def ahead (a b : HitM) : Bool := decide (a.2 < b.2) || (decide (a.2 = b.2) && decide (a.1 < b.1))

theorem ahead_irrefl (a : HitM) : ahead a a = false := by simp [ahead]
theorem ahead_iff {a b : HitM} : ahead a b = true ↔ a.2 < b.2 ∨ (a.2 = b.2 ∧ a.1 < b.1) := by simp [ahead]
theorem ahead_not {a b : HitM} : ahead a b = false ↔ b.2 < a.2 ∨ (a.2 = b.2 ∧ b.1 ≤ a.1) := by
  rw [Bool.eq_false_iff, Ne, ahead_iff]; omega
theorem ahead_asymm {a b : HitM} (h : ahead a b = true) : ahead b a = false := by rw [ahead_iff] at h; rw [ahead_not]; omega
theorem ahead_tri {a b : HitM} (h : ahead a b = false) (h' : ahead b a = false) : a = b := by
  rw [ahead_not] at h h'
  exact Prod.ext (by omega) (by omega)
/-- a ≥ b ≥ c. -/
theorem ahead_trans {a b c : HitM} (h : ahead a b = false) (h' : ahead b c = false) : ahead a c = false := by rw [ahead_not] at h h' ⊢; omega
theorem ahead_left {a b c : HitM} (h : ahead a b = true) (h' : ahead c b = false) : ahead a c = true := by rw [ahead_iff] at h ⊢; rw [ahead_not] at h'; omega
theorem ahead_right {a b c : HitM} (h : ahead a b = true) (h' : ahead a c = false) : ahead c b = true := by rw [ahead_iff] at h ⊢; rw [ahead_not] at h'; omega

/-! ### rows in order -/
def ins (h : HitM) : List HitM → List HitM
  | [] => [h]
  | x :: l => if ahead h x = true then h :: x :: l else x :: ins h l
def sortM (l : List HitM) : List HitM := l.foldl (fun o h => ins h o) []
def firstM (k : Nat) (l : List HitM) : List HitM := (sortM l).take k
def Srt (l : List HitM) : Prop := l.Pairwise (fun a b => ahead b a = false)

theorem ins_perm (h : HitM) (l : List HitM) : (ins h l).Perm (h :: l) := by
  induction l with
  | nil => exact List.Perm.refl _
  | cons x l ih =>
    unfold ins
    split
    · exact List.Perm.refl _
    · exact (List.Perm.cons x ih).trans (List.Perm.swap h x l)
theorem ins_length (h : HitM) (l : List HitM) : (ins h l).length = l.length + 1 := by simpa using (ins_perm h l).length_eq
theorem ins_srt (h : HitM) {l : List HitM} (hs : Srt l) : Srt (ins h l) := by
  induction l with
  | nil => simp [ins, Srt]
  | cons x l ih =>
    unfold Srt at hs ⊢
    rw [List.pairwise_cons] at hs
    unfold ins
    split
    · rename_i hx
      rw [List.pairwise_cons, List.pairwise_cons]
      refine ⟨fun y hy => ?_, hs.1, hs.2⟩
      rcases List.mem_cons.1 hy with rfl | hy
      · exact ahead_asymm hx
      · exact ahead_trans (hs.1 y hy) (ahead_asymm hx)
    · rename_i hx
      have hx : ahead h x = false := by simpa using hx
      rw [List.pairwise_cons]
      refine ⟨fun y hy => ?_, ih hs.2⟩
      rcases List.mem_cons.1 ((ins_perm h l).mem_iff.1 hy) with rfl | hy
      · exact hx
      · exact hs.1 y hy
theorem sort_snoc (l : List HitM) (h : HitM) : sortM (l ++ [h]) = ins h (sortM l) := by simp [sortM, List.foldl_append]
theorem list_rev {P : List HitM → Prop} (h0 : P []) (hs : ∀ l x, P l → P (l ++ [x])) (l : List HitM) : P l := by
  have : ∀ m : List HitM, P m.reverse := fun m => by
    induction m with
    | nil => exact h0
    | cons x m ih => rw [List.reverse_cons]; exact hs _ _ ih
  have h := this l.reverse
  rwa [List.reverse_reverse] at h
theorem sort_perm (l : List HitM) : (sortM l).Perm l := by
  refine list_rev (P := fun l => (sortM l).Perm l) (List.Perm.refl _) (fun l x ih => ?_) l
  rw [sort_snoc]
  exact (ins_perm x _).trans ((List.Perm.cons x ih).trans (List.perm_append_comm (l₁ := [x]) (l₂ := l)))
theorem sort_srt (l : List HitM) : Srt (sortM l) := by
  refine list_rev (P := fun l => Srt (sortM l)) List.Pairwise.nil (fun l x ih => ?_) l
  rw [sort_snoc]
  exact ins_srt x ih
theorem sort_length (l : List HitM) : (sortM l).length = l.length := (sort_perm l).length_eq
theorem srt_eq {l l' : List HitM} (p : l.Perm l') (h : Srt l) (h' : Srt l') : l = l' :=
  List.Perm.eq_of_pairwise (le := fun a b => ahead b a = false) (fun a b _ _ h1 h2 => ahead_tri h2 h1) h h' p
theorem sort_of_perm {l l' : List HitM} (p : l.Perm l') : sortM l = sortM l' := srt_eq ((sort_perm l).trans (p.trans (sort_perm l').symm)) (sort_srt l) (sort_srt l')
theorem sort_self {l : List HitM} (h : Srt l) : sortM l = l := srt_eq (sort_perm l) (sort_srt l) h
theorem srt_take {l : List HitM} (h : Srt l) (k : Nat) : Srt (l.take k) := List.Pairwise.sublist (List.take_sublist k l) h
theorem first_srt (k : Nat) (l : List HitM) : Srt (firstM k l) := srt_take (sort_srt l) k
theorem first_length (k : Nat) (l : List HitM) : (firstM k l).length = min k l.length := by rw [firstM, List.length_take, sort_length]
theorem first_perm (k : Nat) {l l' : List HitM} (p : l.Perm l') : firstM k l = firstM k l' := by rw [firstM, firstM, sort_of_perm p]
theorem first_mem {k : Nat} {l : List HitM} {x : HitM} (h : x ∈ firstM k l) : x ∈ l := (sort_perm l).mem_iff.1 (List.mem_of_mem_take h)
theorem ins_take (k : Nat) (h : HitM) (s : List HitM) : (ins h s).take k = (ins h (s.take k)).take k := by
  induction s generalizing k with
  | nil => simp
  | cons x s ih =>
    cases k with
    | zero => simp
    | succ k =>
      rw [List.take_succ_cons]
      unfold ins
      split
      · rw [List.take_succ_cons, List.take_succ_cons]
        congr 1
        cases k with
        | zero => simp
        | succ k => rw [List.take_succ_cons, List.take_succ_cons, List.take_take]; congr 2; omega
      · rw [List.take_succ_cons, List.take_succ_cons, ih k]
theorem first_snoc (k : Nat) (l : List HitM) (h : HitM) : firstM k (l ++ [h]) = (ins h (firstM k l)).take k := by rw [firstM, sort_snoc, ins_take]; rfl
theorem first_all {k : Nat} {l : List HitM} (h : l.length ≤ k) : firstM k l = sortM l := List.take_of_length_le (by rw [sort_length]; exact h)
theorem first_first (k : Nat) (l : List HitM) : firstM k (firstM k l) = firstM k l := by
  rw [first_all (by rw [first_length]; omega), sort_self (first_srt k l)]
theorem first_parts (k : Nat) (a b : List HitM) : firstM k (firstM k a ++ b) = firstM k (a ++ b) := by
  refine list_rev (P := fun b => firstM k (firstM k a ++ b) = firstM k (a ++ b)) ?_ (fun b x ih => ?_) b
  · simp [first_first]
  · rw [← List.append_assoc, ← List.append_assoc, first_snoc, first_snoc, ih]
theorem first_parts2 (k : Nat) (a b : List HitM) : firstM k (firstM k a ++ firstM k b) = firstM k (a ++ b) := by
  rw [first_parts, first_perm k List.perm_append_comm, first_parts, first_perm k List.perm_append_comm]

/-- What one more changes: there is room. -/
theorem first_room {k : Nat} {l p : List HitM} {h : HitM} (hp : p.Perm (firstM k l)) (hk : p.length < k) : (p ++ [h]).Perm (firstM k (l ++ [h])) := by
  have hl : (firstM k l).length < k := by rw [← hp.length_eq]; exact hk
  rw [first_snoc, List.take_of_length_le (by rw [ins_length]; omega)]
  exact (List.perm_append_comm (l₁ := p) (l₂ := [h])).trans ((List.Perm.cons h hp).trans (ins_perm h _).symm)
theorem ins_last {h : HitM} {s : List HitM} (hs : ∀ x ∈ s, ahead h x = false) : ins h s = s ++ [h] := by
  induction s with
  | nil => rfl
  | cons x s ih =>
    unfold ins
    rw [if_neg (by rw [hs x (by simp)]; simp), ih (fun y hy => hs y (by simp [hy]))]
    rfl
/-- There is none, and it stands ahead of nobody. -/
theorem first_out {k : Nat} {l p : List HitM} {h : HitM} (hp : p.Perm (firstM k l)) (hk : p.length = k) (ho : ∀ x ∈ p, ahead h x = false) : p.Perm (firstM k (l ++ [h])) := by
  rw [first_snoc, ins_last (fun x hx => ho x (hp.mem_iff.2 hx)), List.take_append_of_le_length (by rw [← hp.length_eq]; omega), List.take_of_length_le (by rw [← hp.length_eq]; omega)]
  exact hp
theorem ins_mid {h r : HitM} {s : List HitM} (hr : ahead h r = true) : ins h (s ++ [r]) = ins h s ++ [r] := by
  induction s with
  | nil => simp [ins, hr]
  | cons x s ih =>
    rw [List.cons_append]
    unfold ins
    split
    · rfl
    · rw [ih]; rfl
/-- There is none, and it stands ahead of the furthest. -/
theorem first_in {k : Nat} {l q : List HitM} {h r : HitM} (hp : (r :: q).Perm (firstM k l)) (hk : (r :: q).length = k) (hr : ∀ x ∈ r :: q, ahead r x = false) (hh : ahead h r = true) : (h :: q).Perm (firstM k (l ++ [h])) := by
  have hs := first_srt k l
  have hF := first_snoc k l h
  generalize firstM k l = F at *
  obtain ⟨s, r', rfl⟩ : ∃ s r', F = s ++ [r'] := by
    have : F ≠ [] := fun e => by subst e; have := hp.length_eq; simp at this
    exact ⟨F.dropLast, F.getLast this, (List.dropLast_concat_getLast this).symm⟩
  have h1 : ahead r r' = false := hr r' (hp.mem_iff.2 (by simp))
  have h2 : ahead r' r = false := by
    have hm : r ∈ s ++ [r'] := hp.mem_iff.1 (by simp)
    rcases List.mem_append.1 hm with hm | hm
    · unfold Srt at hs
      rw [List.pairwise_append] at hs
      exact hs.2.2 r hm r' (by simp)
    · simp at hm; rw [hm]; exact ahead_irrefl _
  obtain rfl := ahead_tri h1 h2
  have hqs : q.Perm s := by
    have := hp.trans (List.perm_append_comm (l₁ := s) (l₂ := [r]))
    exact (List.perm_cons r).1 this
  have hl : s.length + 1 = k := by have := hp.length_eq; simp at this; simp at hk; omega
  rw [hF, ins_mid hh, List.take_append_of_le_length (by rw [ins_length]; omega), List.take_of_length_le (by rw [ins_length]; omega)]
  exact (List.Perm.cons h hqs).trans (ins_perm h s).symm

/-! ### exchanges -/
def swp (p : List HitM) (i j : Nat) : List HitM := (p.set i (p.getD j z2)).set j (p.getD i z2)
theorem swp_length (p : List HitM) (i j : Nat) : (swp p i j).length = p.length := by simp [swp]
theorem getD_set (p : List HitM) (i : Nat) (x : HitM) (m : Nat) (hi : i < p.length) : (p.set i x).getD m z2 = if m = i then x else p.getD m z2 := by
  simp only [List.getD_eq_getElem?_getD, List.getElem?_set]
  by_cases h : m = i
  · subst h; simp [hi]
  · simp [h, Ne.symm h]
theorem swp_get (p : List HitM) (i j m : Nat) (hi : i < p.length) (hj : j < p.length) : (swp p i j).getD m z2 = if m = j then p.getD i z2 else if m = i then p.getD j z2 else p.getD m z2 := by
  unfold swp
  rw [getD_set _ _ _ _ (by simpa using hj), getD_set _ _ _ _ hi]
theorem swp_perm (p : List HitM) (i j : Nat) (hi : i < p.length) (hj : j < p.length) : (swp p i j).Perm p := by
  rw [List.perm_iff_count]
  intro a
  unfold swp
  rw [List.count_set (by simpa using hj), List.count_set hi]
  have e1 : p.getD j z2 = p[j] := by simp [List.getD, hj]
  have e2 : p.getD i z2 = p[i] := by simp [List.getD, hi]
  have c1 : (if (p[i] == a) = true then 1 else 0) ≤ p.count a := by
    split
    · rename_i h
      exact List.count_pos_iff.2 (by rw [← eq_of_beq h]; exact List.getElem_mem hi)
    · omega
  simp only [e1, e2, List.getElem_set]
  by_cases hij : i = j
  · subst hij
    simp only [if_true]
    omega
  · simp only [if_neg hij]
    have c2 : (if (p[j] == a) = true then 1 else 0) ≤ p.count a - (if (p[i] == a) = true then 1 else 0) + (if (p[j] == a) = true then 1 else 0) := by omega
    omega
theorem getD_mem2 {p : List HitM} {j : Nat} (h : j < p.length) : p.getD j z2 ∈ p := by
  simp [List.getD, h]
theorem mem_getD2 {p : List HitM} {x : HitM} (h : x ∈ p) : ∃ j, j < p.length ∧ p.getD j z2 = x := by
  obtain ⟨j, hj, e⟩ := List.getElem_of_mem h
  exact ⟨j, hj, by simp [List.getD, hj, e]⟩

/-! ### heaps -/
/-- Of the first n places none stands behind its parent's. -/
def Heap (n : Nat) (p : List HitM) : Prop := ∀ m, 0 < m → m < n → ahead (p.getD ((m - 1) / 2) z2) (p.getD m z2) = false
theorem Heap.root {n : Nat} {p : List HitM} (h : Heap n p) : ∀ m, m < n → ahead (p.getD 0 z2) (p.getD m z2) = false := by
  intro m
  induction m using Nat.strongRecOn with
  | ind m ih =>
    intro hm
    rcases Nat.eq_zero_or_pos m with rfl | h0
    · exact ahead_irrefl _
    · exact ahead_trans (ih ((m - 1) / 2) (by omega) (by omega)) (h m h0 hm)
theorem Heap.most {p : List HitM} (h : Heap p.length p) : ∀ x ∈ p, ahead (p.getD 0 z2) x = false := by
  intro x hx
  obtain ⟨j, hj, rfl⟩ := mem_getD2 hx
  exact h.root j hj
theorem heap_few {n : Nat} (hn : n ≤ 1) (p : List HitM) : Heap n p := fun m h0 hm => by omega
/-- All is well but at j, which may stand too deep. -/
def UpI (n : Nat) (p : List HitM) (j : Nat) : Prop :=
  (∀ m, 0 < m → m < n → m ≠ j → ahead (p.getD ((m - 1) / 2) z2) (p.getD m z2) = false) ∧
  (∀ m, 0 < m → m < n → (m - 1) / 2 = j → 0 < j → ahead (p.getD ((j - 1) / 2) z2) (p.getD m z2) = false)
/-- All is well but below i, which may stand too high. -/
def DownI (n : Nat) (p : List HitM) (i : Nat) : Prop :=
  (∀ m, 0 < m → m < n → (m - 1) / 2 ≠ i → ahead (p.getD ((m - 1) / 2) z2) (p.getD m z2) = false) ∧
  (∀ m, 0 < m → m < n → (m - 1) / 2 = i → 0 < i → ahead (p.getD ((i - 1) / 2) z2) (p.getD m z2) = false)
theorem UpI.top {n : Nat} {p : List HitM} (h : UpI n p 0) : Heap n p := fun m h0 hm => h.1 m h0 hm (by omega)
theorem UpI.rest {n : Nat} {p : List HitM} {j : Nat} (h : UpI n p j) (hj : ahead (p.getD ((j - 1) / 2) z2) (p.getD j z2) = false) : Heap n p := fun m h0 hm => by
  by_cases e : m = j
  · subst e; exact hj
  · exact h.1 m h0 hm e
theorem UpI.go {n : Nat} {p : List HitM} {j : Nat} (h : UpI n p j) (h0 : 0 < j) (hj : j < n) (hn : n ≤ p.length) (hs : ahead (p.getD ((j - 1) / 2) z2) (p.getD j z2) = true) : UpI n (swp p ((j - 1) / 2) j) ((j - 1) / 2) := by
  obtain ⟨h1, h2⟩ := h
  have hi : (j - 1) / 2 < p.length := by omega
  have hjl : j < p.length := by omega
  refine ⟨fun m m0 hm hne => ?_, fun m m0 hm hp hi0 => ?_⟩
  · rw [swp_get p _ _ _ hi hjl, swp_get p _ _ _ hi hjl]
    by_cases e : m = j
    · subst e
      rw [if_neg (show ¬ (m - 1) / 2 = m by omega), if_pos rfl, if_pos rfl]
      exact ahead_asymm hs
    · rw [if_neg e, if_neg hne]
      by_cases e2 : (m - 1) / 2 = j
      · rw [if_pos e2]
        exact h2 m m0 hm e2 (by omega)
      · rw [if_neg e2]
        by_cases e3 : (m - 1) / 2 = (j - 1) / 2
        · rw [if_pos e3]
          have := h1 m m0 hm e
          rw [e3] at this
          exact ahead_trans (ahead_asymm hs) this
        · rw [if_neg e3]
          exact h1 m m0 hm e
  · rw [swp_get p _ _ _ hi hjl, swp_get p _ _ _ hi hjl]
    rw [if_neg (show ¬ ((j - 1) / 2 - 1) / 2 = j by omega), if_neg (show ¬ ((j - 1) / 2 - 1) / 2 = (j - 1) / 2 by omega)]
    have hii := h1 ((j - 1) / 2) hi0 (by omega) (by omega)
    by_cases e : m = j
    · rw [if_pos e]
      exact hii
    · rw [if_neg e, if_neg (show ¬ m = (j - 1) / 2 by omega)]
      have := h1 m m0 hm e
      rw [hp] at this
      exact ahead_trans hii this
theorem DownI.none {n : Nat} {p : List HitM} {i : Nat} (h : DownI n p i) (hi : n ≤ 2 * i + 1) : Heap n p := fun m h0 hm => h.1 m h0 hm (by omega)
theorem DownI.rest {n : Nat} {p : List HitM} {i c : Nat} (h : DownI n p i) (hc : (c = 2 * i + 1 ∧ (2 * i + 2 < n → ahead (p.getD c z2) (p.getD (2 * i + 2) z2) = false)) ∨ (c = 2 * i + 2 ∧ c < n ∧ ahead (p.getD c z2) (p.getD (2 * i + 1) z2) = false))
    (hs : ahead (p.getD i z2) (p.getD c z2) = false) : Heap n p := fun m h0 hm => by
  by_cases e : (m - 1) / 2 = i
  · rw [e]
    have hm2 : m = 2 * i + 1 ∨ m = 2 * i + 2 := by omega
    rcases hc with ⟨rfl, h2⟩ | ⟨rfl, h2, h3⟩
    · rcases hm2 with rfl | rfl
      · exact hs
      · exact ahead_trans hs (h2 hm)
    · rcases hm2 with rfl | rfl
      · exact ahead_trans hs h3
      · exact hs
  · exact h.1 m h0 hm e
theorem DownI.go {n : Nat} {p : List HitM} {i c : Nat} (h : DownI n p i) (hn : n ≤ p.length) (hc : (c = 2 * i + 1 ∧ c < n ∧ (2 * i + 2 < n → ahead (p.getD c z2) (p.getD (2 * i + 2) z2) = false)) ∨ (c = 2 * i + 2 ∧ c < n ∧ ahead (p.getD c z2) (p.getD (2 * i + 1) z2) = false))
    (hs : ahead (p.getD i z2) (p.getD c z2) = true) : DownI n (swp p i c) c := by
  obtain ⟨h1, h2⟩ := h
  have hcn : c < n := by rcases hc with ⟨_, h, _⟩ | ⟨_, h, _⟩ <;> exact h
  have hci : (c - 1) / 2 = i ∧ i < c := by rcases hc with ⟨h, _, _⟩ | ⟨h, _, _⟩ <;> omega
  have hmax : ∀ m, 0 < m → m < n → (m - 1) / 2 = i → ahead (p.getD c z2) (p.getD m z2) = false := by
    intro m m0 hm hp
    have hm2 : m = 2 * i + 1 ∨ m = 2 * i + 2 := by omega
    rcases hc with ⟨rfl, _, h2⟩ | ⟨rfl, _, h3⟩
    · rcases hm2 with rfl | rfl
      · exact ahead_irrefl _
      · exact h2 hm
    · rcases hm2 with rfl | rfl
      · exact h3
      · exact ahead_irrefl _
  refine ⟨fun m m0 hm hne => ?_, fun m m0 hm hp hc0 => ?_⟩
  · rw [swp_get p _ _ _ (by omega) (by omega), swp_get p _ _ _ (by omega) (by omega)]
    rw [if_neg hne]
    by_cases e : (m - 1) / 2 = i
    · rw [if_pos e]
      by_cases e2 : m = c
      · rw [if_pos e2]
        exact ahead_asymm hs
      · rw [if_neg e2, if_neg (by omega)]
        exact hmax m m0 hm e
    · rw [if_neg e]
      by_cases e2 : m = c
      · exact absurd (by rw [e2]; exact hci.1) e
      · rw [if_neg e2]
        by_cases e3 : m = i
        · rw [if_pos e3]
          have := h2 c (by omega) hcn hci.1 (by omega)
          rw [← e3] at this
          exact this
        · rw [if_neg e3]
          exact h1 m m0 hm e
  · rw [swp_get p _ _ _ (by omega) (by omega), swp_get p _ _ _ (by omega) (by omega)]
    rw [hci.1, if_neg (by omega), if_pos rfl, if_neg (by omega), if_neg (by omega)]
    have := h1 m m0 hm (by omega)
    rw [hp] at this
    exact this

/-- One more, at the end. -/
theorem up_start {p : List HitM} (h : HitM) (hp : Heap p.length p) : UpI (p ++ [h]).length (p ++ [h]) p.length := by
  have hl : (p ++ [h]).length = p.length + 1 := by simp
  have hg : ∀ m, m < p.length → (p ++ [h]).getD m z2 = p.getD m z2 := fun m hm => by
    simp [List.getD, List.getElem?_append_left hm]
  refine ⟨fun m m0 hm hne => ?_, fun m m0 hm hp hj => by omega⟩
  rw [hg m (by omega), hg _ (by omega)]
  exact hp m m0 (by omega)
/-- Another one at the root. -/
theorem down_start {p : List HitM} {n : Nat} (h : HitM) (hp : Heap n p) : DownI n (p.set 0 h) 0 := by
  refine ⟨fun m m0 hm hne => ?_, fun m m0 hm hp hj => by omega⟩
  rcases Nat.eq_zero_or_pos p.length with h0 | h0
  · rw [List.eq_nil_of_length_eq_zero h0]
    exact ahead_irrefl _
  · rw [getD_set _ _ _ _ h0, getD_set _ _ _ _ h0, if_neg (by omega), if_neg (by omega)]
    exact hp m m0 hm
/-- The root and the last one, exchanged. -/
theorem pop_start {p : List HitM} {n : Nat} (hn : p.length = n + 1) (hp : Heap (n + 1) p) : DownI n (swp p 0 n) 0 := by
  refine ⟨fun m m0 hm hne => ?_, fun m m0 hm hp hj => by omega⟩
  rw [swp_get _ _ _ _ (by omega) (by omega), swp_get _ _ _ _ (by omega) (by omega), if_neg (by omega), if_neg (by omega), if_neg (by omega), if_neg (by omega)]
  exact hp m m0 (by omega)
theorem heap_take {p : List HitM} {n : Nat} (hp : Heap n p) (hn : n ≤ p.length) : Heap (p.take n).length (p.take n) := by
  have hl : (p.take n).length = n := by simp; omega
  intro m m0 hm
  rw [hl] at hm
  have hg : ∀ j, j < n → (p.take n).getD j z2 = p.getD j z2 := fun j hj => by
    simp [List.getD, List.getElem?_take, hj]
  rw [hg m hm, hg _ (by omega)]
  exact hp m m0 hm
end TopL
end Go.Proofs.YtcekgllahlhaaaaGreatDoor

namespace Go.Proofs.YtcekgllahlhaaaaGreatDoor
namespace TopL
open Go.RowKit
set_option linter.unusedVariables false
set_option linter.unusedSimpArgs false

/-- The hits l can be read at A. -/
structure Hits (w : World) (A : Option Addr) (c : Nat) (l : List HitM) : Prop where
  room : l.length ≤ c
  most : c ≤ 9223372036854775807
  rd : 0 < l.length → ∃ b o, A = some ⟨b, o, none⟩ ∧ b < w.heap.size ∧ ∀ j, j < l.length → w.cell? ⟨b, o + j * 2, none⟩ = some (.int .u64 (l.getD j z2).1) ∧ w.cell? ⟨b, o + j * 2 + 1, none⟩ = some (.int .u64 (l.getD j z2).2)

/-- The rows of hits ls can be read at A. -/
structure Rows (w : World) (A : Option Addr) (c : Nat) (ls : List (List HitM)) : Prop where
  room : ls.length ≤ c
  most : c ≤ 9223372036854775807
  rd : 0 < ls.length → ∃ b o, A = some ⟨b, o, none⟩ ∧ b < w.heap.size ∧ ∀ i x, ls[i]? = some x → ∃ B cb, w.cell? ⟨b, o + i, none⟩ = some (.slice B x.length cb) ∧ Hits w B cb x

section
variable {w w' : World} {A : Option Addr} {c : Nat} {l : List HitM} {ls : List (List HitM)}
theorem Hits.keep (h : Hits w A c l) (hs : w.heap.size ≤ w'.heap.size) (hk : ∀ p : Addr, p.block < w.heap.size → w'.cell? p = w.cell? p) : Hits w' A c l := by
  refine ⟨h.room, h.most, fun hp => ?_⟩
  obtain ⟨b, o, e, hb, hc⟩ := h.rd hp
  exact ⟨b, o, e, by omega, fun j hj => ⟨(hk _ hb).trans (hc j hj).1, (hk _ hb).trans (hc j hj).2⟩⟩
theorem Hits.keepB (h : Hits w A c l) (hs : w.heap.size ≤ w'.heap.size) (hk : ∀ b o, A = some ⟨b, o, none⟩ → 0 < l.length → w'.heap[b]? = w.heap[b]?) : Hits w' A c l := by
  refine ⟨h.room, h.most, fun hp => ?_⟩
  obtain ⟨b, o, e, hb, hc⟩ := h.rd hp
  have hk := hk b o e hp
  exact ⟨b, o, e, by omega, fun j hj => ⟨(World.cell?_of_block hk).trans (hc j hj).1, (World.cell?_of_block hk).trans (hc j hj).2⟩⟩
theorem Hits.below (h : Hits w A c l) (hb : Below w.heap.size w w') : Hits w' A c l := h.keep hb.size fun _ hp => hb.cell hp
theorem Hits.drew (h : Hits w A c l) : Hits w.drew A c l := ⟨h.room, h.most, h.rd⟩
theorem Hits.drewN (h : Hits w A c l) (n : Nat) : Hits (w.drewN n) A c l := ⟨h.room, h.most, h.rd⟩
theorem Hits.at_ (h : Hits w A c l) {j : Nat} (hj : j < l.length) : ∃ b o, A = some ⟨b, o, none⟩ ∧ b < w.heap.size ∧ w.cell? ⟨b, o + j * 2, none⟩ = some (.int .u64 (l.getD j z2).1) ∧ w.cell? ⟨b, o + j * 2 + 1, none⟩ = some (.int .u64 (l.getD j z2).2) := by
  obtain ⟨b, o, e, hb, hc⟩ := h.rd (by omega)
  exact ⟨b, o, e, hb, (hc j hj).1, (hc j hj).2⟩
theorem Hits.nil (w : World) : Hits w none 0 [] := ⟨by simp, by omega, fun h => absurd h (by simp)⟩
theorem Hits.empty (w : World) (A : Option Addr) {c : Nat} (hc : c ≤ 9223372036854775807) : Hits w A c [] := ⟨by simp, hc, fun h => absurd h (by simp)⟩
theorem Hits.take (h : Hits w A c l) (n : Nat) {c' : Nat} (hc : (l.take n).length ≤ c') (hm : c' ≤ 9223372036854775807) : Hits w A c' (l.take n) := by
  have hl : (l.take n).length ≤ l.length := by simp; omega
  refine ⟨hc, hm, fun hp => ?_⟩
  obtain ⟨b, o, e, hb, hcc⟩ := h.rd (by omega)
  refine ⟨b, o, e, hb, fun j hj => ?_⟩
  have hj' : j < n := by simp at hj; omega
  have e2 : (l.take n).getD j z2 = l.getD j z2 := by simp [List.getD, List.getElem?_take, hj']
  rw [e2]
  exact hcc j (by omega)
theorem Rows.keep (h : Rows w A c ls) (hs : w.heap.size ≤ w'.heap.size) (hk : ∀ p : Addr, p.block < w.heap.size → w'.cell? p = w.cell? p) : Rows w' A c ls := by
  refine ⟨h.room, h.most, fun hp => ?_⟩
  obtain ⟨b, o, e, hb, hc⟩ := h.rd hp
  refine ⟨b, o, e, by omega, fun i x hx => ?_⟩
  obtain ⟨B, cb, h1, h2⟩ := hc i x hx
  exact ⟨B, cb, (hk _ hb).trans h1, h2.keep hs hk⟩
theorem Rows.below (h : Rows w A c ls) (hb : Below w.heap.size w w') : Rows w' A c ls := h.keep hb.size fun _ hp => hb.cell hp
theorem Rows.at_ (h : Rows w A c ls) {i : Nat} (hi : i < ls.length) : ∃ b o x B cb, A = some ⟨b, o, none⟩ ∧ ls[i]? = some x ∧ b < w.heap.size ∧ w.cell? ⟨b, o + i, none⟩ = some (.slice B x.length cb) ∧ Hits w B cb x := by
  obtain ⟨b, o, e, hb, hc⟩ := h.rd (by omega)
  obtain ⟨B, cb, h1, h2⟩ := hc i _ (List.getElem?_eq_getElem hi)
  exact ⟨b, o, _, B, cb, e, List.getElem?_eq_getElem hi, hb, h1, h2⟩
theorem Rows.nil (w : World) : Rows w none 0 [] := ⟨by simp, by omega, fun h => absurd h (by simp)⟩
end

/-- The cells of hits, one behind the other. -/
def flat (l : List HitM) : List Value := l.flatMap fun h => [.int .u64 h.1, .int .u64 h.2]
theorem flat_length (l : List HitM) : (flat l).length = l.length * 2 := by
  induction l with
  | nil => rfl
  | cons x l ih =>
    show (flat l).length + 1 + 1 = (l.length + 1) * 2
    omega
theorem flat_append (l l' : List HitM) : flat (l ++ l') = flat l ++ flat l' := by simp [flat]
theorem flat_cons (x : HitM) (l : List HitM) : flat (x :: l) = .int .u64 x.1 :: .int .u64 x.2 :: flat l := rfl
theorem flat_get (l : List HitM) (j : Nat) (hj : j < l.length) : (flat l)[j * 2]? = some (.int .u64 (l.getD j z2).1) ∧ (flat l)[j * 2 + 1]? = some (.int .u64 (l.getD j z2).2) := by
  induction l generalizing j with
  | nil => simp at hj
  | cons x l ih =>
    rw [flat_cons]
    cases j with
    | zero => simp [List.getD]
    | succ j =>
      have := ih j (by simpa using hj)
      rw [show (j + 1) * 2 = j * 2 + 1 + 1 by omega]
      simpa [List.getD] using this
theorem flat_set (l : List HitM) (j : Nat) (x : HitM) : ((flat l).set (j * 2) (.int .u64 x.1)).set (j * 2 + 1) (.int .u64 x.2) = flat (l.set j x) := by
  induction l generalizing j with
  | nil => simp [flat]
  | cons y l ih =>
    cases j with
    | zero => simp [flat_cons]
    | succ j =>
      rw [show (j + 1) * 2 = j * 2 + 1 + 1 by omega, List.set_cons_succ, flat_cons, flat_cons, ← ih j]
      simp
theorem flat_cell (l : List HitM) : ∀ u ∈ flat l, u.oneCell' = true := by
  intro u hu
  unfold flat at hu
  rw [List.mem_flatMap] at hu
  obtain ⟨h, _, hu⟩ := hu
  simp at hu
  rcases hu with rfl | rfl <;> rfl

/-- A slice of the call's own holds hits. -/
theorem Hits.own {w : World} {base : Nat} {e : TypeId} {v : Value} {l : List HitM} (h : w.ownsRow base e 2 v l.length (flat l)) : ∃ A c, v = .slice A l.length c ∧ Hits w A c l ∧ (∀ g, v.ownBlock = some g ↔ ∃ o, A = some ⟨g, o, none⟩) := by
  rcases h.2 with ⟨rfl, h0⟩ | ⟨g, cap, cur, rfl, hg, hh, hnc, hcm, hsz, hcs⟩
  · obtain rfl : l = [] := List.eq_nil_of_length_eq_zero h0
    exact ⟨none, 0, rfl, Hits.nil w, fun g => by simp [Value.ownBlock]⟩
  · refine ⟨_, cap, rfl, ⟨hnc, by unfold maxLen at hcm; omega, fun hp => ⟨g, 0, rfl, lt_of_block hh, fun j hj => ?_⟩⟩, fun g' => by simp [Value.ownBlock]⟩
    rw [Nat.zero_add, h.cellAt (j * 2) (by omega), h.cellAt (j * 2 + 1) (by omega)]
    exact flat_get l j hj

end TopL
end Go.Proofs.YtcekgllahlhaaaaGreatDoor

namespace Go.Proofs.YtcekgllahlhaaaaGreatDoor
namespace TopL
open Go.RowKit Go.Shelf
set_option linter.unusedVariables false
set_option linter.unusedSimpArgs false
set_option maxRecDepth 100000

theorem cell_laid (w : World) (cs : Array Value) (t : TypeId) (i : Nat) : (w.alloc (.cells cs t)).cell? ⟨w.heap.size, i, none⟩ = cs[i]? := cell_of_row _ _ _ cs t (0, 0) (heap_alloc_new w _)

/-! ### the order of hits -/
def cmpM (x y : Int) : Int := if x < y then -1 else if y < x then 1 else 0
theorem nan_any (x : Int) (w : World) : Calls Tryz.prog 111 #[.int .u64 x] w fun e w' => e = .returned (.bool false) ∧ w = w' := by
  go_enter Tryz.func111, Tryz.ntmps111
  go_wp2
  go_ret
  exact ⟨by simp, rfl⟩
theorem cmp_any (x y : Int) (w : World) : Calls Tryz.prog 84 #[.int .u64 x, .int .u64 y] w fun e w' => e = .returned (.int .i64 (cmpM x y)) ∧ w = w' := by
  by_cases h1 : x < y
  · have HF := Lib.hid (show cmpM x y = -1 by unfold cmpM; rw [if_pos h1])
    go_enter Tryz.func84, Tryz.ntmps84
    go_wp2_with (go_at_call 111; refine (nan_any _ _).mono ?_; rintro e w' ⟨rfl, rfl⟩)
    go_ret
    rw [HF.out]
    exact ⟨rfl, rfl⟩
  · by_cases h2 : y < x
    · have HF := Lib.hid (show cmpM x y = 1 by unfold cmpM; rw [if_neg h1, if_pos h2])
      go_enter Tryz.func84, Tryz.ntmps84
      go_wp2_with (go_at_call 111; refine (nan_any _ _).mono ?_; rintro e w' ⟨rfl, rfl⟩)
      go_ret
      rw [HF.out]
      exact ⟨rfl, rfl⟩
    · have HF := Lib.hid (show cmpM x y = 0 by unfold cmpM; rw [if_neg h1, if_neg h2])
      go_enter Tryz.func84, Tryz.ntmps84
      go_wp2_with (go_at_call 111; refine (nan_any _ _).mono ?_; rintro e w' ⟨rfl, rfl⟩)
      go_ret
      rw [HF.out]
      exact ⟨rfl, rfl⟩
def orM (x y : Int) : Int := if x ≠ 0 then x else y
theorem or_any (g : Nat) (x y : Int) (w : World) (hx : w.cell? ⟨g, 0, none⟩ = some (.int .i64 x)) (hy : w.cell? ⟨g, 1, none⟩ = some (.int .i64 y)) :
    Calls Tryz.prog 83 #[.slice (some ⟨g, 0, none⟩) 2 2] w fun e w' => e = .returned (.int .i64 (orM x y)) ∧ w = w' := by
  by_cases h : x = 0
  · subst h
    have HF := Lib.hid (show orM 0 y = y from by simp [orM])
    generalize orM 0 y = R at *
    by_cases h2 : y = 0
    · subst h2
      go_enter Tryz.func83, Tryz.ntmps83
      go_wp2
      go_loop [5, 8] (fun _ i => i = .int .i64 0 ∨ i = .int .i64 1 ∨ i = .int .i64 2) (fun _ i => 2 - (intOf i).toNat)
      case atStart => exact .inl rfl
      case round =>
        rcases hrel with rfl | rfl | rfl
        · go_wp2
          go_round
          case rel => exact .inr (.inl rfl)
          case measure => simp [intOf]
        · go_wp2
          go_round
          case rel => exact .inr (.inr rfl)
          case measure => simp [intOf]
        · go_wp2
          go_ret
          rw [HF.out]
          exact ⟨rfl, rfl⟩
    · have t1 : (y == 0) = false := by simpa using h2
      have t2 : (y != 0) = true := by simpa using h2
      go_enter Tryz.func83, Tryz.ntmps83
      go_wp2
      go_loop [5, 8] (fun _ i => i = .int .i64 0 ∨ i = .int .i64 1) (fun _ i => 2 - (intOf i).toNat)
      case atStart => exact .inl rfl
      case round =>
        rcases hrel with rfl | rfl
        · go_wp2
          go_round
          case rel => exact .inr rfl
          case measure => simp [intOf]
        · go_wp2
          go_ret
          rw [HF.out]
          exact ⟨rfl, rfl⟩
  · have t1 : (x == 0) = false := by simpa using h
    have t2 : (x != 0) = true := by simpa using h
    have HF := Lib.hid (show orM x y = x from by simp [orM, h])
    generalize orM x y = R at *
    go_enter Tryz.func83, Tryz.ntmps83
    go_wp2
    go_loop [5, 8] (fun _ i => i = .int .i64 0) (fun _ i => 2 - (intOf i).toNat)
    case atStart => rfl
    case round =>
      subst hrel
      go_wp2
      go_ret
      rw [HF.out]
      exact ⟨rfl, rfl⟩

def hitV (id dist : Int) : Value := .agg #[.int .u64 id, .int .u64 dist]
def compareM (i d i' d' : Int) : Int := orM (cmpM d d') (cmpM i i')
theorem cmp_st (x y : Int) (w : World) : Calls Tryz.prog 84 #[.int .u64 x, .int .u64 y] w fun e w' => e = .returned (.int .i64 (cmpM x y)) ∧ w' = w := (cmp_any x y w).mono fun _ _ ⟨a, b⟩ => ⟨a, b.symm⟩

set_option maxHeartbeats 1000000 in
theorem compare_any (i d i' d' : Int) (w : World) : Calls Tryz.prog 140 #[.agg #[.int .u64 i, .int .u64 d], .agg #[.int .u64 i', .int .u64 d']] w fun e w' => e = .returned (.int .i64 (compareM i d i' d')) ∧ Below w.heap.size w w' := by
  have HM := Lib.hid (show compareM i d i' d' = orM (cmpM d d') (cmpM i i') from rfl)
  generalize compareM i d i' d' = R at *
  go_enter Tryz.func140, Tryz.ntmps140
  go_wp2
  obtain ⟨W, hW⟩ : ∃ W, W = (w.alloc (.cells #[.int .u64 i, .int .u64 d] 57)).alloc (.cells #[.int .u64 i', .int .u64 d'] 57) := ⟨_, rfl⟩
  have hb : Below w.heap.size w W := by rw [hW]; exact ((Below.refl _ w).alloc (Nat.le_refl _) _).alloc (by simp) _
  have hz : W.heap.size = w.heap.size + 2 := by rw [hW]; simp
  have x1 : W.heap[w.heap.size]? = some (.cells #[.int .u64 i, .int .u64 d] 57 (0, 0)) := by rw [hW]; exact heap_alloc2_old _ _ _
  have x2 : W.heap[w.heap.size + 1]? = some (.cells #[.int .u64 i', .int .u64 d'] 57 (0, 0)) := by rw [hW]; exact heap_alloc2_new _ _ _
  rw [← hW]
  have c1 : W.cell? ⟨w.heap.size, 0, none⟩ = some (.int .u64 i) := by simp [World.cell?, x1]
  have c2 : W.cell? ⟨w.heap.size, 1, none⟩ = some (.int .u64 d) := by simp [World.cell?, x1]
  have c3 : W.cell? ⟨w.heap.size + 1, 0, none⟩ = some (.int .u64 i') := by simp [World.cell?, x2]
  have c4 : W.cell? ⟨w.heap.size + 1, 1, none⟩ = some (.int .u64 d') := by simp [World.cell?, x2]
  have HB := Lib.hid hb
  have HZ := Lib.hid hz
  clear hW hb x1 x2 hz
  refine wp_region_still_tail 10 (by kernel_rfl) (by kernel_rfl) ?_
  simp only [List.take_succ_cons, List.take_zero, List.drop_succ_cons, List.drop_zero]
  change wpStill _ _ W.drew _ _ _
  still_step
  still_step
  still_step
  still_step
  still_call (cmp_st d d' _)
  still_step
  still_step
  still_step
  still_step
  still_call (cmp_st i i' _)
  refine wpStill_nil ?_
  obtain ⟨a, ha⟩ : ∃ a, a = cmpM d d' := ⟨_, rfl⟩
  obtain ⟨b, hb⟩ : ∃ b, b = cmpM i i' := ⟨_, rfl⟩
  have HA := Lib.hid ha
  have HB2 := Lib.hid hb
  rw [← ha, ← hb]
  clear ha hb
  have HBL := Lib.hid (show Below w.heap.size w (W.alloc (.cells #[.int .i64 a, .int .i64 b] 3)).drew from below_drew (HB.out.alloc HB.out.size _))
  have HO := Lib.hid (or_any W.drew.heap.size a b (W.drew.alloc (.cells #[.int .i64 a, .int .i64 b] 3)) (cell_laid _ _ _ 0) (cell_laid _ _ _ 1))
  go_wp2_with fail
  refine HO.out.mono ?_
  rintro e w' ⟨rfl, rfl⟩
  go_wp2
  go_ret
  rw [HM.out, ← HA.out, ← HB2.out]
  exact ⟨rfl, HBL.out⟩

theorem cmp3 (x y : Int) : (x < y ∧ cmpM x y = -1) ∨ (x = y ∧ cmpM x y = 0) ∨ (y < x ∧ cmpM x y = 1) := by
  unfold cmpM
  by_cases h : x < y
  · exact .inl ⟨h, if_pos h⟩
  · by_cases h2 : y < x
    · exact .inr (.inr ⟨h2, by rw [if_neg h, if_pos h2]⟩)
    · exact .inr (.inl ⟨by omega, by rw [if_neg h, if_neg h2]⟩)
/-- -1, 0, 1. -/
theorem compare3 (a b : HitM) : (ahead a b = true ∧ compareM a.1 a.2 b.1 b.2 = -1) ∨ (a = b ∧ compareM a.1 a.2 b.1 b.2 = 0) ∨ (ahead b a = true ∧ compareM a.1 a.2 b.1 b.2 = 1) := by
  unfold compareM orM
  rcases cmp3 a.2 b.2 with ⟨h, e⟩ | ⟨h, e⟩ | ⟨h, e⟩
  · exact .inl ⟨ahead_iff.2 (.inl h), by rw [e]; rfl⟩
  · rcases cmp3 a.1 b.1 with ⟨h1, e1⟩ | ⟨h1, e1⟩ | ⟨h1, e1⟩
    · exact .inl ⟨ahead_iff.2 (.inr ⟨h, h1⟩), by rw [e, e1]; rfl⟩
    · exact .inr (.inl ⟨Prod.ext h1 h, by rw [e, e1]; rfl⟩)
    · exact .inr (.inr ⟨ahead_iff.2 (.inr ⟨h.symm, h1⟩), by rw [e, e1]; rfl⟩)
  · exact .inr (.inr ⟨ahead_iff.2 (.inl h), by rw [e]; rfl⟩)
theorem compare_gt (a b : HitM) : decide (compareM a.1 a.2 b.1 b.2 > 0) = ahead b a := by
  rcases compare3 a b with ⟨h, e⟩ | ⟨rfl, e⟩ | ⟨h, e⟩
  · rw [e, ahead_asymm h]; rfl
  · rw [e, ahead_irrefl]; rfl
  · rw [e, h]; rfl
theorem compare_lt (a b : HitM) : decide (compareM a.1 a.2 b.1 b.2 < 0) = ahead a b := by
  rcases compare3 a b with ⟨h, e⟩ | ⟨rfl, e⟩ | ⟨h, e⟩
  · rw [e, h]; rfl
  · rw [e, ahead_irrefl]; rfl
  · rw [e, ahead_asymm h]; rfl
/-- A hit as a value. -/
def hv (h : HitM) : Value := .agg #[.int .u64 h.1, .int .u64 h.2]

end TopL
end Go.Proofs.YtcekgllahlhaaaaGreatDoor

namespace Go.Proofs.YtcekgllahlhaaaaGreatDoor
namespace TopL
open Go.RowKit Go.Shelf
set_option linter.unusedVariables false
set_option linter.unusedSimpArgs false
set_option maxRecDepth 100000

theorem len_any (A : Option Addr) (n c : Nat) (w : World) : Calls Tryz.prog 139 #[.slice A n c] w fun e w' => e = .returned (.int .i64 n) ∧ w = w' := by
  go_enter Tryz.func139, Tryz.ntmps139
  go_wp2
  go_ret
  exact ⟨rfl, rfl⟩

set_option maxHeartbeats 1000000 in
theorem less_any (A : Option Addr) (c : Nat) (l : List HitM) (i j : Nat) (w : World) (h : Hits w A c l) (hi : i < l.length) (hj : j < l.length) :
    Calls Tryz.prog 168 #[.slice A l.length c, .int .i64 i, .int .i64 j] w fun e w' => e = .returned (.bool (ahead (l.getD j z2) (l.getD i z2))) ∧ Below w.heap.size w w' := by
  obtain ⟨b, o, rfl, hb, c1, c2⟩ := h.at_ hi
  obtain ⟨b', o', he, _, c3, c4⟩ := h.at_ hj
  injection he with he
  injection he with he1 he2
  subst he1
  subst he2
  have HG := Lib.hid (compare_gt (l.getD i z2) (l.getD j z2))
  have HC := Lib.hid (fun V => compare_any (l.getD i z2).1 (l.getD i z2).2 (l.getD j z2).1 (l.getD j z2).2 V)
  generalize ahead (l.getD j z2) (l.getD i z2) = R at *
  generalize (l.getD i z2).1 = x1 at *
  generalize (l.getD i z2).2 = x2 at *
  generalize (l.getD j z2).1 = y1 at *
  generalize (l.getD j z2).2 = y2 at *
  generalize compareM x1 x2 y1 y2 = cm at *
  generalize l.length = n at *
  have i0 : (0 : Int) ≤ i := by omega
  have iN : (i : Int) < n := by omega
  have j0 : (0 : Int) ≤ j := by omega
  have jN : (j : Int) < n := by omega
  clear h
  go_enter Tryz.func168, Tryz.ntmps168
  go_wp2
  refine wp_region_still_tail 8 (by kernel_rfl) (by kernel_rfl) ?_
  simp only [List.take_succ_cons, List.take_zero, List.drop_succ_cons, List.drop_zero]
  change wpStill _ _ w.drew _ _ _
  still_step
  still_step
  still_step
  still_step
  still_step
  still_step
  still_step
  still_step
  refine wpStill_nil ?_
  go_wp2_with fail
  refine (HC.out _).mono ?_
  rintro e w' ⟨rfl, hb'⟩
  have HB := Lib.hid hb'
  clear hb'
  go_wp2
  go_ret
  rw [← HG.out]
  exact ⟨rfl, (below_drew (Below.refl _ w)).trans HB.out⟩


/-- A whole hit stored in a slice of the call's own. -/
theorem row_set {w : World} {base g cap : Nat} {e : TypeId} {l : List HitM} (h : w.ownsRow base e 2 (.slice (some ⟨g, 0, none⟩) l.length cap) l.length (flat l)) (j : Nat) (x : HitM) :
    ((w.setCell ⟨g, j * 2, none⟩ (.int .u64 x.1)).setCell ⟨g, j * 2 + 1, none⟩ (.int .u64 x.2)).ownsRow base e 2 (.slice (some ⟨g, 0, none⟩) (l.set j x).length cap) (l.set j x).length (flat (l.set j x)) ∧
    w.grownBy ((w.setCell ⟨g, j * 2, none⟩ (.int .u64 x.1)).setCell ⟨g, j * 2 + 1, none⟩ (.int .u64 x.2)) (some g) := by
  obtain ⟨h1, h2⟩ := h.stored (j * 2) (.int .u64 x.1)
  obtain ⟨h3, h4⟩ := h1.stored (j * 2 + 1) (.int .u64 x.2)
  rw [flat_set] at h3
  rw [List.length_set]
  exact ⟨h3, h2.trans h4⟩

set_option maxHeartbeats 1000000 in
theorem swap_any (base g cap : Nat) (l : List HitM) (i j : Nat) (w : World) (h : w.ownsRow base 57 2 (.slice (some ⟨g, 0, none⟩) l.length cap) l.length (flat l)) (hi : i < l.length) (hj : j < l.length) :
    Calls Tryz.prog 169 #[.slice (some ⟨g, 0, none⟩) l.length cap, .int .i64 i, .int .i64 j] w fun e w' => (∃ v, e = .returned v) ∧ w'.ownsRow base 57 2 (.slice (some ⟨g, 0, none⟩) l.length cap) l.length (flat (swp l i j)) ∧ w.grownBy w' (some g) := by
  have ci := flat_get l i hi
  have cj := flat_get l j hj
  have c1 := (h.cellAt (i * 2) (by omega)).trans ci.1
  have c2 := (h.cellAt (i * 2 + 1) (by omega)).trans ci.2
  have c3 := (h.cellAt (j * 2) (by omega)).trans cj.1
  have c4 := (h.cellAt (j * 2 + 1) (by omega)).trans cj.2
  have f1 := h.frozenAt (i * 2)
  have f2 := h.frozenAt (i * 2 + 1)
  have h1 := row_set h i (l.getD j z2)
  have hl1 : j < (l.set i (l.getD j z2)).length := by simpa using hj
  have cj' := flat_get (l.set i (l.getD j z2)) j hl1
  have c5 := (h1.1.cellAt (j * 2) (by omega)).trans cj'.1
  have c6 := (h1.1.cellAt (j * 2 + 1) (by omega)).trans cj'.2
  have f3 := h1.1.frozenAt (j * 2)
  have f4 := h1.1.frozenAt (j * 2 + 1)
  have h2 := row_set h1.1 j (l.getD i z2)
  have hS : (l.set i (l.getD j z2)).set j (l.getD i z2) = swp l i j := rfl
  rw [hS, swp_length] at h2
  have HO := Lib.hid (And.intro h2.1 (h1.2.trans h2.2))
  obtain ⟨n, hn⟩ : ∃ n, n = l.length := ⟨_, rfl⟩
  have i0 : (0 : Int) ≤ i := by omega
  have iN : (i : Int) < l.length := by omega
  have j0 : (0 : Int) ≤ j := by omega
  have jN : (j : Int) < l.length := by omega
  clear h1 h2 hS ci cj cj' h hl1
  generalize l.getD i z2 = x at *
  generalize hy : l.getD j z2 = y at *
  generalize (l.set i y).getD j z2 = y' at *
  generalize swp l i j = S at *
  generalize l.length = N at *
  clear hy hn
  obtain ⟨x1, x2⟩ := x
  obtain ⟨y1, y2⟩ := y
  obtain ⟨y1', y2'⟩ := y'
  dsimp only at *
  go_enter Tryz.func169, Tryz.ntmps169
  go_wp2
  go_region
  all_goals go_wp2
  go_end0
  exact ⟨⟨_, rfl⟩, HO.out.1, HO.out.2.os, HO.out.2.tape, HO.out.2.output, HO.out.2.size, HO.out.2.block⟩


/-! ### which method a keeper is called by, through the interface -/
theorem m_at (K : Nat) (w : World) (v : Value) (s : Option String) (hK : w.cell? ⟨K, 0, none⟩ = some v) : (receiverAt 191 (.var ⟨K, 0, none⟩) false s).run Tryz.prog w = .ok v w := by
  have h63 : Tryz.prog.underlying 191 = some (.slice 57) := by kernel_rfl
  have ha : (isAgg 191).run Tryz.prog w = .ok false w := by kernel_rfl
  unfold receiverAt
  simp [run_underlying h63, Place.get, loadVar, ha, hK]
theorem i_Len : ∃ i, Tryz.prog.info? 206 = some i ∧ ∃ m, i.methods.find? (fun m => m.name == "Len") = some m ∧ m.func = some (139, false) ∧ ∀ (K : Nat) (w : World), (follow m.path.toList 206 (.val (.pointer (some ⟨K, 0, none⟩)))).run Tryz.prog w = .ok (191, .var ⟨K, 0, none⟩) w :=
  ⟨(Tryz.prog.info? 206).get (by kernel_rfl), (Option.some_get _).symm, (((Tryz.prog.info? 206).get (by kernel_rfl)).methods.find? (fun m => m.name == "Len")).get (by kernel_rfl), (Option.some_get _).symm, by kernel_rfl, fun K w => by kernel_rfl⟩
theorem m_Len (K : Nat) (v : Value) (w : World) (hK : w.cell? ⟨K, 0, none⟩ = some v) : (method 333 206 (.pointer (some ⟨K, 0, none⟩)) "Len").run Tryz.prog w = .ok (139, v) w := by
  obtain ⟨i, hi, m, hm, hf, hfo⟩ := i_Len
  have h1 := hfo K w
  unfold method
  simp [run_typeInfo w hi, hm, hf, h1, m_at K w v _ hK]
theorem i_Less : ∃ i, Tryz.prog.info? 206 = some i ∧ ∃ m, i.methods.find? (fun m => m.name == "Less") = some m ∧ m.func = some (168, false) ∧ ∀ (K : Nat) (w : World), (follow m.path.toList 206 (.val (.pointer (some ⟨K, 0, none⟩)))).run Tryz.prog w = .ok (191, .var ⟨K, 0, none⟩) w :=
  ⟨(Tryz.prog.info? 206).get (by kernel_rfl), (Option.some_get _).symm, (((Tryz.prog.info? 206).get (by kernel_rfl)).methods.find? (fun m => m.name == "Less")).get (by kernel_rfl), (Option.some_get _).symm, by kernel_rfl, fun K w => by kernel_rfl⟩
theorem m_Less (K : Nat) (v : Value) (w : World) (hK : w.cell? ⟨K, 0, none⟩ = some v) : (method 333 206 (.pointer (some ⟨K, 0, none⟩)) "Less").run Tryz.prog w = .ok (168, v) w := by
  obtain ⟨i, hi, m, hm, hf, hfo⟩ := i_Less
  have h1 := hfo K w
  unfold method
  simp [run_typeInfo w hi, hm, hf, h1, m_at K w v _ hK]
theorem i_Swap : ∃ i, Tryz.prog.info? 206 = some i ∧ ∃ m, i.methods.find? (fun m => m.name == "Swap") = some m ∧ m.func = some (169, false) ∧ ∀ (K : Nat) (w : World), (follow m.path.toList 206 (.val (.pointer (some ⟨K, 0, none⟩)))).run Tryz.prog w = .ok (191, .var ⟨K, 0, none⟩) w :=
  ⟨(Tryz.prog.info? 206).get (by kernel_rfl), (Option.some_get _).symm, (((Tryz.prog.info? 206).get (by kernel_rfl)).methods.find? (fun m => m.name == "Swap")).get (by kernel_rfl), (Option.some_get _).symm, by kernel_rfl, fun K w => by kernel_rfl⟩
theorem m_Swap (K : Nat) (v : Value) (w : World) (hK : w.cell? ⟨K, 0, none⟩ = some v) : (method 333 206 (.pointer (some ⟨K, 0, none⟩)) "Swap").run Tryz.prog w = .ok (169, v) w := by
  obtain ⟨i, hi, m, hm, hf, hfo⟩ := i_Swap
  have h1 := hfo K w
  unfold method
  simp [run_typeInfo w hi, hm, hf, h1, m_at K w v _ hK]
theorem m_Push (K : Nat) (w : World) : (method 333 206 (.pointer (some ⟨K, 0, none⟩)) "Push").run Tryz.prog w = .ok (171, .pointer (some ⟨K, 0, none⟩)) w := by kernel_rfl
theorem m_Pop (K : Nat) (w : World) : (method 333 206 (.pointer (some ⟨K, 0, none⟩)) "Pop").run Tryz.prog w = .ok (170, .pointer (some ⟨K, 0, none⟩)) w := by kernel_rfl
attribute [go_sem] m_Len m_Less m_Swap m_Push m_Pop
end TopL
end Go.Proofs.YtcekgllahlhaaaaGreatDoor

namespace Go.Proofs.YtcekgllahlhaaaaGreatDoor
namespace TopL
open Go.RowKit Go.Shelf
set_option linter.unusedVariables false
set_option linter.unusedSimpArgs false
set_option maxRecDepth 100000

def blk (A : Option Addr) : Option Nat := A.map (·.block)
theorem own_blk (A : Option Addr) (n c : Nat) : (Value.slice A n c).ownBlock = blk A := by cases A <;> rfl
theorem own_form {w : World} {base : Nat} {e : TypeId} {size : Nat} {v : Value} {n : Nat} {xs : List Value} (h : w.ownsRow base e size v n xs) : ∃ A c, v = .slice A n c ∧ (A = none ∨ ∃ g, A = some ⟨g, 0, none⟩ ∧ base ≤ g ∧ g < w.heap.size) ∧ (A = none → n = 0) := by
  rcases h.2 with ⟨rfl, h0⟩ | ⟨g, cap, cur, rfl, hg, hh, _⟩
  · exact ⟨none, 0, by rw [h0], .inl rfl, fun _ => h0⟩
  · exact ⟨_, cap, rfl, .inr ⟨g, rfl, hg, lt_of_block hh⟩, fun h => by cases h⟩

theorem info_hit : ∃ i, Tryz.prog.info? 57 = some i ∧ i.zero = some (.agg #[.int .u64 0, .int .u64 0]) ∧ i.size = 2 ∧ i.bytes = 16 :=
  ⟨(Tryz.prog.info? 57).get (by kernel_rfl), (Option.some_get _).symm, by kernel_rfl, by kernel_rfl, by kernel_rfl⟩

theorem flat_read {w : World} {b o : Nat} {l : List HitM} (h : ∀ j, j < l.length → w.cell? ⟨b, o + j * 2, none⟩ = some (.int .u64 (l.getD j z2).1) ∧ w.cell? ⟨b, o + j * 2 + 1, none⟩ = some (.int .u64 (l.getD j z2).2)) :
    ∀ j u, (flat l)[j]? = some u → w.cell? ((⟨b, o, none⟩ : Addr).add j) = some u := by
  intro j u hu
  have hj : j < l.length * 2 := by
    have := (List.getElem?_eq_some_iff.1 hu).1
    rwa [flat_length] at this
  rw [Addr.add_lit]
  rcases Nat.mod_two_eq_zero_or_one j with hp | hp
  · obtain ⟨q, rfl⟩ : ∃ q, j = q * 2 := ⟨j / 2, by omega⟩
    rw [(h q (by omega)).1, ← (flat_get l q (by omega)).1, hu]
  · obtain ⟨q, rfl⟩ : ∃ q, j = q * 2 + 1 := ⟨j / 2, by omega⟩
    rw [← Nat.add_assoc, (h q (by omega)).2, ← (flat_get l q (by omega)).2, hu]

theorem run_happ_nil (w : World) (t : TypeId) (ht : Tryz.prog.underlying t = some (.slice 57)) (base : Nat) (v : Value) (n : Nat) (xs : List Value) (hown : w.ownsRow base 57 2 v n xs) (ty : TypeId) (c : Nat) :
    (Builtin.append_ #[t, t] ty #[v, .slice none 0 c]).run Tryz.prog w = .ok v w := by
  obtain ⟨i0, hi, hz0, hz1, hz2⟩ := info_hit
  rcases hown.2 with ⟨rfl, rfl⟩ | ⟨g, cap, cur, rfl, _, _, hnc, _⟩
  · simp [Builtin.append_, run_underlying ht, sizeOf, typeInfo, hi, Builtin.lenOf, Builtin.firstCells]
  · simp [Builtin.append_, run_underlying ht, sizeOf, typeInfo, hi, Builtin.lenOf, Builtin.firstCells, hnc, storeCells]

theorem run_happ {w : World} (t : TypeId) (ht : Tryz.prog.underlying t = some (.slice 57)) (ty : TypeId) (base : Nat) (A0 : Option Addr) (c0 n : Nat) (xs : List Value) (hown : w.ownsRow base 57 2 (.slice A0 n c0) n xs)
    (A : Option Addr) (c m : Nat) (hs : List HitM) (hm : hs.length = m) (hr : Hits w A c hs) (hbig : n + m ≤ 1099511627776) (hbase : base ≤ w.heap.size) :
    ∃ A1 c1 w', (Builtin.append_ #[t, t] ty #[.slice A0 n c0, .slice A m c]).run Tryz.prog w = .ok (.slice A1 (n + m) c1) w' ∧ w'.ownsRow base 57 2 (.slice A1 (n + m) c1) (n + m) (xs ++ flat hs) ∧ w.grownBy w' (blk A0) ∧ (blk A1 = blk A0 ∨ blk A1 = some w.heap.size) ∧ (A1 = none → A0 = none ∧ m = 0) := by
  obtain ⟨i0, hi, hz0, hz1, hz2⟩ := info_hit
  subst hm
  rcases A with _ | ad
  · obtain rfl : hs = [] := by
      rcases hs with _ | ⟨b, hs⟩
      · rfl
      · obtain ⟨_, _, e, _⟩ := hr.rd (by simp)
        cases e
    exact ⟨A0, c0, w, run_happ_nil w t ht base _ n xs hown ty c, by simpa [flat] using hown, World.grownBy.refl _ _, .inl rfl, fun h => ⟨h, rfl⟩⟩
  · obtain ⟨v', w', hrun, h1, h2, h3, h4⟩ := run_append_own_at (P := Tryz.prog) w base t ty 57 i0 (.agg #[.int .u64 0, .int .u64 0]) 2 16 ht hi hz0 hz1 hz2 rfl (by decide) _ n xs hown ad hs.length c (flat hs) (flat_length hs) (by
        intro j u hj
        have hpos : 0 < hs.length := by
          have := (List.getElem?_eq_some_iff.1 hj).1
          rw [flat_length] at this
          omega
        obtain ⟨b, o', he, hb, hc⟩ := hr.rd hpos
        injection he with he
        subst he
        exact flat_read hc j u hj) (flat_cell hs) (by unfold maxLen; omega) (by omega) hbase
    obtain ⟨A1, c1, rfl, _, _⟩ := own_form h1
    rw [own_blk] at h2 h4
    rw [own_blk] at h4
    refine ⟨A1, c1, w', hrun, h1, h2, h4, fun hn => ?_⟩
    subst hn
    have h1z : n + hs.length = 0 := by
      rcases h1.2 with ⟨_, h0⟩ | ⟨g, cap, cur, h', _⟩
      · exact h0
      · simp at h'
    have e : Value.slice none (n + hs.length) c1 = .slice none 0 0 := by
      rcases h1.2 with ⟨h', _⟩ | ⟨g, cap, cur, h', _⟩
      · exact h'
      · simp at h'
    have := h3.1 e
    refine ⟨?_, this.2⟩
    have h' := this.1
    injection h'

theorem happ_at {w : World} {ops : Array Oper} {rest : List Oper} {o : Oper} {a : Act} {Q : Exit → Act → World → Prop} (hgd : o.guard = none) (s x : Operand) (t : TypeId) (ht : Tryz.prog.underlying t = some (.slice 57))
    (ho : o.op = .call { callee := .builtin .append, args := #[s, x], argTypes := #[t, t] })
    (base : Nat) (A0 : Option Addr) (c0 n : Nat) (xs : List Value) (hs : a.eval s = .slice A0 n c0) (hown : w.ownsRow base 57 2 (.slice A0 n c0) n xs)
    (A : Option Addr) (c m : Nat) (l : List HitM) (hx : a.eval x = .slice A m c) (hm : l.length = m) (hr : Hits w A c l)
    (hbig : n + m ≤ 1099511627776) (hbase : base ≤ w.heap.size)
    (h : ∀ A1 c1 w', w'.ownsRow base 57 2 (.slice A1 (n + m) c1) (n + m) (xs ++ flat l) → w.grownBy w' (blk A0) → (blk A1 = blk A0 ∨ blk A1 = some w.heap.size) → (A1 = none → A0 = none ∧ m = 0) → wpList Tryz.prog ops Q rest (a.put o.dst (.slice A1 (n + m) c1)) w') : wpList Tryz.prog ops Q (o :: rest) a w := by
  refine wpList_plain hgd fun K hK => ?_
  obtain ⟨A1, c1, w', hrun, h1, h2, h3, h4⟩ := run_happ t ht o.type base A0 c0 n xs hown A c m l hm hr hbig hbase
  unfold Oper.wp
  simp [execOp, ho, resolve, invoke, builtin, hs, hx, hrun, Result.andThen]
  exact hK _ _ (h A1 c1 w' h1 h2 h3 h4)

/-- .. as a step of a region that draws. -/
theorem step_happ {w : World} {ops : Array Oper} {o : Oper} {a : Act} {K : Act → World → Prop} {Q : Exit → Act → World → Prop} {E : Prop} (hgd : o.guard = none) (s x : Operand) (t : TypeId) (ht : Tryz.prog.underlying t = some (.slice 57))
    (ho : o.op = .call { callee := .builtin .append, args := #[s, x], argTypes := #[t, t] })
    (base : Nat) (A0 : Option Addr) (c0 n : Nat) (xs : List Value) (hs : a.eval s = .slice A0 n c0) (hown : w.ownsRow base 57 2 (.slice A0 n c0) n xs)
    (A : Option Addr) (c m : Nat) (l : List HitM) (hx : a.eval x = .slice A m c) (hm : l.length = m) (hr : Hits w A c l)
    (hbig : n + m ≤ 1099511627776) (hbase : base ≤ w.heap.size)
    (h : ∀ A1 c1 w', w'.ownsRow base 57 2 (.slice A1 (n + m) c1) (n + m) (xs ++ flat l) → w.grownBy w' (blk A0) → (blk A1 = blk A0 ∨ blk A1 = some w.heap.size) → (A1 = none → A0 = none ∧ m = 0) → K (a.put o.dst (.slice A1 (n + m) c1)) w') :
    if Region.wanted o (yielded ops a.tmps) = true then Oper.wp Tryz.prog o a w K Q else E := by
  have hw : Region.wanted o (yielded ops a.tmps) = true := by simp [Region.wanted, hgd]
  rw [if_pos hw]
  obtain ⟨A1, c1, w', hrun, h1, h2, h3, h4⟩ := run_happ t ht o.type base A0 c0 n xs hown A c m l hm hr hbig hbase
  unfold Oper.wp
  simp [execOp, ho, resolve, invoke, builtin, hs, hx, hrun, Result.andThen]
  exact h A1 c1 w' h1 h2 h3 h4

/-- One hit, just laid. -/
theorem hits_one {W : World} {g : Nat} {h : HitM} (h1 : W.cell? ⟨g, 0, none⟩ = some (.int .u64 h.1)) (h2 : W.cell? ⟨g, 1, none⟩ = some (.int .u64 h.2)) : Hits W (some ⟨g, 0, none⟩) 1 [h] :=
  ⟨by simp, by omega, fun _ => ⟨g, 0, rfl, World.block_lt_of_cell? W _ h1, fun j hj => by
    obtain rfl : j = 0 := by simpa using hj
    exact ⟨h1, h2⟩⟩⟩

end TopL
end Go.Proofs.YtcekgllahlhaaaaGreatDoor

namespace Go.Proofs.YtcekgllahlhaaaaGreatDoor
namespace TopL
open Go.RowKit Go.Shelf
set_option linter.unusedVariables false
set_option linter.unusedSimpArgs false
set_option maxRecDepth 100000

/-- Block K is a keeper that keeps the hits l, in this order, and has room for k. -/
structure Keep (w : World) (K : Nat) (A : Option Addr) (c : Nat) (l : List HitM) (k : Int) : Prop where
  head : w.heap[K]? = some (.cells #[.slice A l.length c, .int .i64 k] 193 (0, 0))
  row : w.ownsRow (K + 1) 57 2 (.slice A l.length c) l.length (flat l)
def own (K : Nat) (A : Option Addr) (i : Nat) : Prop := i = K ∨ blk A = some i

section
variable {w w' : World} {K : Nat} {A : Option Addr} {c : Nat} {l : List HitM} {k : Int}
theorem Keep.cell (h : Keep w K A c l k) : w.cell? ⟨K, 0, none⟩ = some (.slice A l.length c) := by simp [World.cell?, h.head]
theorem Keep.cell1 (h : Keep w K A c l k) : w.cell? ⟨K, 1, none⟩ = some (.int .i64 k) := by simp [World.cell?, h.head]
theorem Keep.frz (h : Keep w K A c l k) (j : Nat) : w.frozen? ⟨K, j, none⟩ = false := frozen_of_row w K j _ _ h.head
theorem Keep.lt (h : Keep w K A c l k) : K < w.heap.size := lt_of_block h.head
theorem Keep.hits (h : Keep w K A c l k) : Hits w A c l := by
  obtain ⟨A', c', e, h1, _⟩ := Hits.own h.row
  injection e with e1 _ e3
  subst e1
  subst e3
  exact h1
theorem Keep.far (h : Keep w K A c l k) {i : Nat} (hi : blk A = some i) : K < i ∧ i < w.heap.size := by
  have := h.row.lt i (by rw [own_blk]; exact hi)
  omega
theorem Keep.blk_ne (h : Keep w K A c l k) : some K ≠ blk A := fun e => by have := h.far e.symm; omega
theorem Keep.form (h : Keep w K A c l k) (hl : 0 < l.length) : ∃ g, A = some ⟨g, 0, none⟩ ∧ K < g ∧ g < w.heap.size := by
  obtain ⟨g, cap, e, h1, h2⟩ := h.row.form hl
  injection e with e1 _ e3
  exact ⟨g, e1, h1, h2⟩
/-- Others have turned. -/
theorem Keep.turn {S : Nat → Prop} (h : Keep w K A c l k) (ht : Turn S w w') (h1 : ¬ S K) (h2 : ∀ i, blk A = some i → ¬ S i) : Keep w' K A c l k := by
  refine ⟨(ht.block _ h.lt h1).trans h.head, ?_⟩
  rcases h.row.2 with ⟨e, h0⟩ | ⟨g, cap, cur, e, hg, hh, hnc, hcm, hsz, hcs⟩
  · exact ⟨h.row.1, .inl ⟨e, h0⟩⟩
  · refine ⟨h.row.1, .inr ⟨g, cap, cur, e, hg, (ht.block _ (lt_of_block hh) (h2 g ?_)).trans hh, hnc, hcm, hsz, hcs⟩⟩
    injection e with e1
    rw [e1]; rfl
theorem Keep.below (h : Keep w K A c l k) (hb : Below w.heap.size w w') : Keep w' K A c l k := h.turn (S := fun _ => False) (Turn.of_below hb) (by simp) (by simp)
theorem Keep.drew (h : Keep w K A c l k) : Keep w.drew K A c l k := ⟨h.head, h.row⟩
end

@[go_sem] theorem as_hit (v : Value) (w : World) : (Instr.typeAssert (.iface 57 v) 20 57 false).run Tryz.prog w = .ok v w := by kernel_rfl
@[go_sem] theorem mk_hit (x : Value) (w : World) : (Instr.makeInterface 57 x).run Tryz.prog w = .ok (.iface 57 x) w := run_makeInterface w 57 x (by kernel_rfl)
@[go_sem] theorem mk_keeper (x : Value) (w : World) : (Instr.makeInterface 206 x).run Tryz.prog w = .ok (.iface 206 x) w := run_makeInterface w 206 x (by kernel_rfl)
theorem under_pile : Tryz.prog.underlying 191 = some (.slice 57) := by kernel_rfl

theorem turn_set {S : Nat → Prop} {w W : World} (h : Turn S w W) {p : Addr} (hp : S p.block ∨ w.heap.size ≤ p.block) (v : Value) : Turn S w (W.setCell p v) :=
  ⟨h.os, h.tape, h.output, by simpa [World.setCell] using h.size, fun k hk hn => (Below.heap_setCell W p v k (fun e => by subst e; rcases hp with hp | hp; exact hn hp; omega)).trans (h.block k hk hn)⟩
/-- The keeper's slice is another one. -/
theorem keep_set {W1 : World} {K n : Nat} {A1 : Option Addr} {c1 : Nat} {l : List HitM} {k : Int} {v : Value} (hb : W1.heap[K]? = some (.cells #[v, .int .i64 k] 193 (0, 0))) (hn : n = l.length)
    (ho : W1.ownsRow (K + 1) 57 2 (.slice A1 n c1) n (flat l)) : Keep (W1.setCell ⟨K, 0, none⟩ (.slice A1 n c1)) K A1 c1 l k := by
  subst hn
  refine ⟨heap_setCell_same W1 K 0 _ _ _ hb, ownsRow_setCell_other ho (fun e => ?_) _⟩
  have := ho.lt K e
  omega

set_option maxHeartbeats 1000000 in
theorem pilePush_any (K : Nat) (A : Option Addr) (c : Nat) (l : List HitM) (k : Int) (h : HitM) (w : World) (hk : Keep w K A c l k) (hbig : l.length < 1099511627776) :
    Calls Tryz.prog 171 #[.pointer (some ⟨K, 0, none⟩), .iface 57 (.agg #[.int .u64 h.1, .int .u64 h.2])] w fun e w' => e = .returned (.tuple #[]) ∧
      ∃ A' c', Keep w' K A' c' (l ++ [h]) k ∧ (∀ i, blk A' = some i → blk A = some i ∨ w.heap.size ≤ i) ∧ Turn (own K A) w w' := by
  have hc := hk.cell
  have hf := hk.frz 0
  have hlt := hk.lt
  have HK := Lib.hid hk
  obtain ⟨x, y⟩ := h
  dsimp only
  have HL := Lib.hid (show (l ++ [((x, y) : HitM)]).length = l.length + 1 by simp)
  obtain ⟨n, hn⟩ : ∃ n, n = l.length := ⟨_, rfl⟩
  have HN := Lib.hid hn
  rw [← hn] at hc hbig
  have HT := Lib.hid (hits_one (W := w.alloc (.cells #[.int .u64 x, .int .u64 y] 57)) (g := w.heap.size) (h := (x, y)) (cell_laid _ _ _ 0) (cell_laid _ _ _ 1))
  have HE := Lib.hid hk.blk_ne
  have HFX := Lib.hid (fun i => hk.far (i := i))
  have HR := Lib.hid (show w.ownsRow (K + 1) 57 2 (.slice A n c) n (flat l) by rw [hn]; exact hk.row)
  clear hk hn
  go_enter Tryz.func171, Tryz.ntmps171
  go_wp2
  go_region_law ((refine step_happ (by rfl) _ _ 191 under_pile (by rfl) (K + 1) A c n (flat l) (by rfl) (HR.out.alloc _).drew (some ⟨w.heap.size, 0, none⟩) 1 1 [(x, y)] (by rfl) rfl HT.out.drew (by omega) (by show K + 1 ≤ (w.alloc _).heap.size; rw [World.size_alloc]; omega) ?_; intro A1 c1 W1 hown hgrow hloc hnil; have hz : (w.alloc (.cells #[.int .u64 x, .int .u64 y] 57)).heap.size = w.heap.size + 1 := World.size_alloc _ _; have b0 : W1.heap[K]? = some (.cells #[.slice A n c, .int .i64 k] 193 (0, 0)) := (hgrow.block K (show K < (w.alloc _).heap.size by rw [World.size_alloc]; omega) HE.out).trans ((Below.heap_alloc _ _ _ hlt).trans (by rw [HN.out]; exact HK.out.head)); have h0' : W1.cell? ⟨K, 0, none⟩ = some (.slice A n c) := (cell_of_row _ _ _ _ _ _ b0).trans rfl; have f0' : W1.frozen? ⟨K, 0, none⟩ = false := frozen_of_row _ _ _ _ _ b0; have HO := Lib.hid hown; have HG := Lib.hid hgrow; have HL1 := Lib.hid hloc; have B0 := Lib.hid b0; clear hown hgrow hloc b0 hz hnil))
  all_goals go_wp2
  all_goals go_end0
  all_goals exact ⟨rfl, A1, c1, keep_set B0.out (by rw [HL.out, HN.out]) (by rw [flat_append]; exact HO.out), fun i hi => HL1.out.elim (fun e => .inl (by rw [← e]; exact hi)) (fun e => .inr (by
    rw [e] at hi
    injection hi with hi
    rw [← hi]
    show w.heap.size ≤ (w.alloc _).heap.size
    rw [World.size_alloc]; omega)),
    turn_set (((Turn.refl (own K A) w).alloc _).drew.trans (S' := own K A) (Turn.of_grown HG.out (fun i hi => .inl (.inr hi))) (fun i hi => .inl hi)) (.inl (.inl rfl)) _⟩

/-- One less, at the end. -/
theorem row_less {w : World} {base : Nat} {A : Option Addr} {c n : Nat} {l : List HitM} {x : HitM} (h : w.ownsRow base 57 2 (.slice A (n + 1) c) (n + 1) (flat (l ++ [x]))) (hn : l.length = n) : w.ownsRow base 57 2 (.slice A n c) n (flat l) := by
  rcases h.2 with ⟨_, h0⟩ | ⟨g, cap, cur, e, hg, hh, hnc, hcm, hsz, hcs⟩
  · omega
  · injection e with e1 _ e3
    subst e1
    subst e3
    refine ⟨by rw [flat_length, hn], .inr ⟨g, c, cur, rfl, hg, hh, by omega, hcm, hsz, ?_⟩⟩
    have h2 : cur.toList.take (n * 2) = (cur.toList.take ((n + 1) * 2)).take (n * 2) := by rw [List.take_take]; congr 1; omega
    rw [h2, hcs, flat_append, List.take_append_of_le_length (by rw [flat_length]; omega), List.take_of_length_le (by rw [flat_length]; omega)]

set_option maxHeartbeats 1000000 in
theorem pilePop_any (K : Nat) (A : Option Addr) (c : Nat) (l : List HitM) (x : HitM) (k : Int) (w : World) (hk : Keep w K A c (l ++ [x]) k) :
    Calls Tryz.prog 170 #[.pointer (some ⟨K, 0, none⟩)] w fun e w' => (∃ v, e = .returned v) ∧ Keep w' K A c l k ∧ Turn (own K A) w w' := by
  have hl : (l ++ [x]).length = l.length + 1 := by simp
  obtain ⟨b, hA, _, hb⟩ := hk.form (by omega)
  have hrow := hk.row
  have hroom := hk.hits.room
  have hmost := hk.hits.most
  have hhead := hk.head
  have hf := hk.frz 0
  have hlt := hk.lt
  have hgx := flat_get (l ++ [x]) l.length (by omega)
  rw [hl] at hrow hhead hroom
  subst hA
  have c1 := (hrow.cellAt (l.length * 2) (by omega)).trans hgx.1
  have c2 := (hrow.cellAt (l.length * 2 + 1) (by omega)).trans hgx.2
  have HLS := Lib.hid (row_less hrow rfl)
  have hKb : K < b := (hk.far rfl).1
  generalize ((l ++ [x]).getD l.length z2).1 = x1 at *
  generalize ((l ++ [x]).getD l.length z2).2 = x2 at *
  generalize hn : l.length = n at *
  have HN := Lib.hid hn
  have hc : w.cell? ⟨K, 0, none⟩ = some (.slice (some ⟨b, 0, none⟩) (n + 1) c) := (cell_of_row _ _ _ _ _ _ hhead).trans rfl
  have n0 : (0 : Int) ≤ n := by omega
  have nn : (n : Int) < ((n + 1 : Nat) : Int) := by omega
  have nc : n ≤ c := by omega
  have nci : (n : Int) ≤ c := by omega
  have HH := Lib.hid hhead
  have e1 : ((n + 1 : Nat) : Int) - 1 = n := by omega
  clear hk hl hn hgx hrow hhead
  go_enter Tryz.func170, Tryz.ntmps170
  go_wp2
  go_ret
  exact ⟨⟨_, rfl⟩, (keep_set HH.out HN.out.symm HLS.out).below ((Below.refl _ _).alloc (Nat.le_refl _) _), (turn_set (Turn.refl _ w) (.inl (.inl rfl)) _).alloc _⟩

/-- The root, read. -/
theorem furthest_any (A : Option Addr) (c : Nat) (l : List HitM) (w : World) (h : Hits w A c l) (hl : 0 < l.length) :
    Calls Tryz.prog 141 #[.slice A l.length c] w fun e w' => e = .returned (.agg #[.int .u64 (l.getD 0 z2).1, .int .u64 (l.getD 0 z2).2]) ∧ Below w.heap.size w w' := by
  obtain ⟨b, o, rfl, hb, c1, c2⟩ := h.at_ hl
  simp only [Nat.zero_mul, Nat.add_zero] at c1 c2
  generalize (l.getD 0 z2).1 = x1 at *
  generalize (l.getD 0 z2).2 = x2 at *
  generalize l.length = n at *
  have n0 : (0 : Int) < n := by omega
  clear h
  go_enter Tryz.func141, Tryz.ntmps141
  go_wp2
  exact bodyPost_ret (v := .agg #[.int .u64 x1, .int .u64 x2]) (by simp [results, Tryz.results141, go_sem]) rfl ⟨rfl, (Below.refl _ w).alloc (Nat.le_refl _) _⟩
end TopL
end Go.Proofs.YtcekgllahlhaaaaGreatDoor

namespace Go.Proofs.YtcekgllahlhaaaaGreatDoor
namespace TopL
open Go.RowKit Go.Shelf
set_option linter.unusedVariables false
set_option linter.unusedSimpArgs false
set_option maxRecDepth 100000

def UpR (w : World) (K : Nat) (A : Option Addr) (c : Nat) (l : List HitM) (k : Int) (p : List HitM) (q : Nat) (W : World) : Prop := p.Perm l ∧ UpI l.length p q ∧ Keep W K A c p k ∧ Turn (own K A) w W

theorem less_at {w : World} {K : Nat} {A : Option Addr} {c n : Nat} {l : List HitM} {k : Int} (hk : Keep w K A c l k) (hn : l.length = n) (i j : Nat) (hi : i < n) (hj : j < n) (iv jv : Int) (hiv : iv = i) (hjv : jv = j) :
    Calls Tryz.prog 168 #[.slice A n c, .int .i64 iv, .int .i64 jv] w fun e w' => e = .returned (.bool (ahead (l.getD j z2) (l.getD i z2))) ∧ Keep w' K A c l k ∧ Below w.heap.size w w' := by
  subst hn hiv hjv
  refine (less_any A c l i j w hk.hits hi hj).mono ?_
  rintro e w' ⟨h1, h2⟩
  exact ⟨h1, hk.below h2, h2⟩
theorem swap_at {w : World} {K g : Nat} {c n : Nat} {l : List HitM} {k : Int} (hk : Keep w K (some ⟨g, 0, none⟩) c l k) (hn : l.length = n) (i j : Nat) (hi : i < n) (hj : j < n) (iv jv : Int) (hiv : iv = i) (hjv : jv = j) :
    Calls Tryz.prog 169 #[.slice (some ⟨g, 0, none⟩) n c, .int .i64 iv, .int .i64 jv] w fun e w' => (∃ v, e = .returned v) ∧ Keep w' K (some ⟨g, 0, none⟩) c (swp l i j) k ∧ Turn (own K (some ⟨g, 0, none⟩)) w w' := by
  subst hn hiv hjv
  refine (swap_any (K + 1) g c l i j w hk.row hi hj).mono ?_
  rintro e w' ⟨h1, h2, h3⟩
  refine ⟨h1, ⟨?_, by rw [swp_length]; exact h2⟩, Turn.of_grown h3 (fun i hi => .inl (.inr hi))⟩
  rw [swp_length, h3.block K hk.lt hk.blk_ne]
  exact hk.head
theorem own_trans {K : Nat} {A A' : Option Addr} {w w' w'' : World} (h : Turn (own K A) w w') (k : Turn (own K A') w' w'') (hA : ∀ i, blk A' = some i → blk A = some i ∨ w.heap.size ≤ i) : Turn (own K A) w w'' :=
  h.trans k (fun i hi => hi.elim (fun e => .inl (.inl e)) (fun e => (hA i e).elim (fun e => .inl (.inr e)) .inr))
theorem own_trans1 {K : Nat} {A : Option Addr} {w w' w'' : World} (h : Turn (own K A) w w') (k : Turn (own K A) w' w'') : Turn (own K A) w w'' := own_trans h k (fun i e => .inl e)
theorem own_below {K : Nat} {A : Option Addr} {w w' w'' : World} (h : Turn (own K A) w w') (k : Below w'.heap.size w' w'') : Turn (own K A) w w'' := h.trans (Turn.of_below (S := fun _ => False) k) (fun i e => e.elim)

set_option maxHeartbeats 1000000 in
theorem up_any (K : Nat) (A : Option Addr) (c : Nat) (l : List HitM) (k : Int) (j : Nat) (w : World) (hk : Keep w K A c l k) (hj : j < l.length) (hu : UpI l.length l j) :
    Calls Tryz.prog 150 #[.iface 206 (.pointer (some ⟨K, 0, none⟩)), .int .i64 j] w fun e w' => e = .returned (.tuple #[]) ∧ ∃ p, p.Perm l ∧ Heap p.length p ∧ Keep w' K A c p k ∧ Turn (own K A) w w' := by
  obtain ⟨g, rfl, _, _⟩ := hk.form (by omega)
  have hmost := hk.hits.most
  have hroom := hk.hits.room
  have H0 := Lib.hid (show UpR w K (some ⟨g, 0, none⟩) c l k l j w from ⟨List.Perm.refl _, hu, hk, Turn.refl _ _⟩)
  generalize hn : l.length = n at *
  have HN := Lib.hid hn
  clear hk hu hn
  go_enter Tryz.func150, Tryz.ntmps150
  go_wp2
  go_loopw [1, 4] (fun j _ wr => ∃ (q : Nat) (p : List HitM), q < n ∧ j = .int .i64 q ∧ Hid (UpR w K (some ⟨g, 0, none⟩) c l k p q wr)) (fun j _ _ => (intOf j).toNat)
  case atStart => exact ⟨j, l, hj, rfl, H0⟩
  case round =>
    obtain ⟨q, p, hq, rfl, HU⟩ := hrel
    obtain ⟨hp, hu, hkp, ht⟩ := HU.out
    have hpn : p.length = n := by rw [hp.length_eq, HN.out]
    have hc := hkp.cell
    rw [hpn] at hc
    by_cases h0 : q = 0
    · subst h0
      have HF := Lib.hid (show Heap p.length p by rw [hpn, ← HN.out]; exact hu.top)
      clear hp hu hkp ht
      go_wp2
      go_end0
      exact ⟨rfl, p, HU.out.1, HF.out, HU.out.2.2.1, HU.out.2.2.2⟩
    · have hd : ((q : Int) - 1) / 2 = ((q - 1) / 2 : Nat) := by omega
      have HL := Lib.hid (less_at hkp hpn q ((q - 1) / 2) hq (by omega) q (((q : Int) - 1) / 2) rfl hd)
      have HPN := Lib.hid hpn
      have HD := Lib.hid hd
      have t1 : (((q : Int) - 1) / 2 == (q : Int)) = false := by simp; omega
      cases ha : ahead (p.getD ((q - 1) / 2) z2) (p.getD q z2) with
      | false =>
        have HF := Lib.hid (show Heap p.length p by rw [hpn, ← HN.out]; exact hu.rest ha)
        rw [ha] at HL
        clear hp hu hkp ht hd ha
        go_wp2_with fail
        refine HL.out.mono ?_
        rintro e w1 ⟨rfl, hk1, hb1⟩
        have HK1 := Lib.hid (And.intro hk1 hb1)
        clear hk1 hb1
        go_wp2
        go_end0
        exact ⟨rfl, p, HU.out.1, HF.out, HK1.out.1, own_below HU.out.2.2.2 HK1.out.2⟩
      | true =>
        have HG := Lib.hid (show UpI l.length (swp p ((q - 1) / 2) q) ((q - 1) / 2) by rw [HN.out]; rw [HN.out] at hu; exact hu.go (by omega) hq (by omega) ha)
        have HPM := Lib.hid (show (swp p ((q - 1) / 2) q).Perm l from (swp_perm p _ _ (by omega) (by omega)).trans hp)
        rw [ha] at HL
        clear hp hu hkp ht hd ha
        go_wp2_with fail
        refine HL.out.mono ?_
        rintro e w1 ⟨rfl, hk1, hb1⟩
        have HK1 := Lib.hid (And.intro hk1 hb1)
        have hc1 := hk1.cell
        rw [HPN.out] at hc1
        have HS := Lib.hid (swap_at hk1 HPN.out ((q - 1) / 2) q (by omega) hq (((q : Int) - 1) / 2) q HD.out rfl)
        clear hk1 hb1 hc
        go_wp2_with fail
        refine HS.out.mono ?_
        rintro e w2 ⟨⟨v, rfl⟩, hk2, ht2⟩
        have HK2 := Lib.hid (And.intro hk2 ht2)
        clear hk2 ht2
        go_wp2
        go_roundw
        case rel => exact ⟨(q - 1) / 2, swp p ((q - 1) / 2) q, by omega, by rw [← HD.out], Lib.hid ⟨HPM.out, HG.out, HK2.out.1, own_trans1 (own_below HU.out.2.2.2 HK1.out.2) HK2.out.2⟩⟩
        case measure => simp [intOf]; omega

theorem swp_drop (p : List HitM) (i j n : Nat) (hi : i < n) (hj : j < n) : (swp p i j).drop n = p.drop n := by
  unfold swp
  rw [List.drop_set, if_pos hj, List.drop_set, if_pos hi]

def DownR (w : World) (K : Nat) (A : Option Addr) (c : Nat) (l : List HitM) (k : Int) (n : Nat) (p : List HitM) (q : Nat) (W : World) : Prop := p.Perm l ∧ DownI n p q ∧ Keep W K A c p k ∧ Turn (own K A) w W ∧ p.drop n = l.drop n

set_option maxHeartbeats 1000000 in
theorem down_any (K : Nat) (A : Option Addr) (c : Nat) (l : List HitM) (k : Int) (i n : Nat) (w : World) (hk : Keep w K A c l k) (hn0 : 0 < l.length) (hn : n ≤ l.length) (hd : DownI n l i) (hbig : l.length < 1099511627776) (hin : i ≤ n) :
    Calls Tryz.prog 151 #[.iface 206 (.pointer (some ⟨K, 0, none⟩)), .int .i64 i, .int .i64 n] w fun e w' => (∃ m, e = .returned (.bool m)) ∧ ∃ p, p.Perm l ∧ Heap n p ∧ p.drop n = l.drop n ∧ Keep w' K A c p k ∧ Turn (own K A) w w' := by
  obtain ⟨g, rfl, _, _⟩ := hk.form hn0
  have hroom := hk.hits.room
  have H0 := Lib.hid (show DownR w K (some ⟨g, 0, none⟩) c l k n l i w from ⟨List.Perm.refl _, hd, hk, Turn.refl _ _, rfl⟩)
  generalize hm : l.length = m at *
  have HM := Lib.hid hm
  clear hk hd hm
  go_enter Tryz.func151, Tryz.ntmps151
  go_wp2
  go_loopw [7, 8, 9, 10] (fun x _ _ _ wr => ∃ (q : Nat) (p : List HitM), q ≤ n ∧ x = .int .i64 q ∧ Hid (DownR w K (some ⟨g, 0, none⟩) c l k n p q wr)) (fun x _ _ _ _ => n - (intOf x).toNat)
  case atStart => exact ⟨i, l, hin, rfl, H0⟩
  case round =>
    obtain ⟨q, p, hq, rfl, HU⟩ := hrel
    obtain ⟨hp, hd, hkp, ht, hdr⟩ := HU.out
    have hpm : p.length = m := by rw [hp.length_eq, HM.out]
    have hc := hkp.cell
    rw [hpm] at hc
    have HPN := Lib.hid hpm
    by_cases h1 : n ≤ 2 * q + 1
    · have HF := Lib.hid (show Heap n p from hd.none h1)
      have t1 : decide ((n : Int) ≤ 2 * (q : Int) + 1) = true := by simp; omega
      clear hp hd hkp ht hdr
      go_wp2
      go_ret
      exact ⟨⟨_, rfl⟩, p, HU.out.1, HF.out, HU.out.2.2.2.2, HU.out.2.2.1, HU.out.2.2.2.1⟩
    · have t1 : decide ((n : Int) ≤ 2 * (q : Int) + 1) = false := by simp; omega
      have t2 : decide (2 * (q : Int) + 1 < 0) = false := by simp; omega
      by_cases h2 : 2 * q + 2 < n
      · have t3 : decide (2 * (q : Int) + 1 + 1 < (n : Int)) = true := by simp; omega
        have HL1 := Lib.hid (less_at hkp hpm (2 * q + 2) (2 * q + 1) (by omega) (by omega) (2 * (q : Int) + 1 + 1) (2 * (q : Int) + 1) (by omega) (by omega))
        cases hs : ahead (p.getD (2 * q + 1) z2) (p.getD (2 * q + 2) z2) with
        | false =>
          rw [hs] at HL1
          have HSEL := Lib.hid (show (2 * q + 1 = 2 * q + 1 ∧ (2 * q + 2 < n → ahead (p.getD (2 * q + 1) z2) (p.getD (2 * q + 2) z2) = false)) ∨ (2 * q + 1 = 2 * q + 2 ∧ 2 * q + 1 < n ∧ ahead (p.getD (2 * q + 1) z2) (p.getD (2 * q + 1) z2) = false) from .inl ⟨rfl, fun _ => hs⟩)
          have HSEL2 := Lib.hid (show (2 * q + 1 = 2 * q + 1 ∧ 2 * q + 1 < n ∧ (2 * q + 2 < n → ahead (p.getD (2 * q + 1) z2) (p.getD (2 * q + 2) z2) = false)) ∨ (2 * q + 1 = 2 * q + 2 ∧ 2 * q + 1 < n ∧ ahead (p.getD (2 * q + 1) z2) (p.getD (2 * q + 1) z2) = false) from .inl ⟨rfl, by omega, fun _ => hs⟩)
          have HL2 := Lib.hid (fun (W : World) (hW : Keep W K (some ⟨g, 0, none⟩) c p k) => less_at hW hpm (2 * q + 1) q (by omega) (by omega) (2 * (q : Int) + 1) q (by omega) rfl)
          cases hb : ahead (p.getD q z2) (p.getD (2 * q + 1) z2) with
          | false =>
            have HF := Lib.hid (show Heap n p from hd.rest HSEL.out hb)
            rw [hb] at HL2
            clear hp hd hkp ht hdr hb hs
            go_wp2_with fail
            refine HL1.out.mono ?_
            rintro e w1 ⟨rfl, hk1, hb1⟩
            have HK1 := Lib.hid (And.intro hk1 hb1)
            have hc1 := hk1.cell
            rw [HPN.out] at hc1
            clear hk1 hb1 hc
            go_wp2_with fail
            refine (HL2.out _ HK1.out.1).mono ?_
            rintro e w2 ⟨rfl, hk2, hb2⟩
            have HK2 := Lib.hid (And.intro hk2 hb2)
            clear hk2 hb2
            go_wp2
            go_ret
            exact ⟨⟨_, rfl⟩, p, HU.out.1, HF.out, HU.out.2.2.2.2, HK2.out.1, own_below (own_below HU.out.2.2.2.1 HK1.out.2) HK2.out.2⟩
          | true =>
            have HG := Lib.hid (show DownI n (swp p q (2 * q + 1)) (2 * q + 1) from hd.go (by omega) HSEL2.out hb)
            have HPM := Lib.hid (show (swp p q (2 * q + 1)).Perm l from (swp_perm p _ _ (by omega) (by omega)).trans hp)
            have HDR := Lib.hid (show (swp p q (2 * q + 1)).drop n = l.drop n by rw [swp_drop p q (2 * q + 1) n (by omega) (by omega)]; exact hdr)
            rw [hb] at HL2
            clear hp hd hkp ht hdr hb hs
            go_wp2_with fail
            refine HL1.out.mono ?_
            rintro e w1 ⟨rfl, hk1, hb1⟩
            have HK1 := Lib.hid (And.intro hk1 hb1)
            have hc1 := hk1.cell
            rw [HPN.out] at hc1
            clear hk1 hb1 hc
            go_wp2_with fail
            refine (HL2.out _ HK1.out.1).mono ?_
            rintro e w2 ⟨rfl, hk2, hb2⟩
            have HK2 := Lib.hid (And.intro hk2 hb2)
            have hc2 := hk2.cell
            rw [HPN.out] at hc2
            have HS := Lib.hid (swap_at hk2 HPN.out q (2 * q + 1) (by omega) (by omega) q (2 * (q : Int) + 1) rfl (by omega))
            clear hk2 hb2
            go_wp2_with fail
            refine HS.out.mono ?_
            rintro e w3 ⟨⟨v, rfl⟩, hk3, ht3⟩
            have HK3 := Lib.hid (And.intro hk3 ht3)
            clear hk3 ht3
            go_wp2
            go_roundw
            case rel => exact ⟨2 * q + 1, swp p q (2 * q + 1), by omega, by congr 1, Lib.hid ⟨HPM.out, HG.out, HK3.out.1, own_trans1 (own_below (own_below HU.out.2.2.2.1 HK1.out.2) HK2.out.2) HK3.out.2, HDR.out⟩⟩
            case measure => simp [intOf]; omega
        | true =>
          rw [hs] at HL1
          have HSEL := Lib.hid (show (2 * q + 2 = 2 * q + 1 ∧ (2 * q + 2 < n → ahead (p.getD (2 * q + 2) z2) (p.getD (2 * q + 2) z2) = false)) ∨ (2 * q + 2 = 2 * q + 2 ∧ 2 * q + 2 < n ∧ ahead (p.getD (2 * q + 2) z2) (p.getD (2 * q + 1) z2) = false) from .inr ⟨rfl, by omega, ahead_asymm hs⟩)
          have HSEL2 := Lib.hid (show (2 * q + 2 = 2 * q + 1 ∧ 2 * q + 2 < n ∧ (2 * q + 2 < n → ahead (p.getD (2 * q + 2) z2) (p.getD (2 * q + 2) z2) = false)) ∨ (2 * q + 2 = 2 * q + 2 ∧ 2 * q + 2 < n ∧ ahead (p.getD (2 * q + 2) z2) (p.getD (2 * q + 1) z2) = false) from .inr ⟨rfl, by omega, ahead_asymm hs⟩)
          have HL2 := Lib.hid (fun (W : World) (hW : Keep W K (some ⟨g, 0, none⟩) c p k) => less_at hW hpm (2 * q + 2) q (by omega) (by omega) (2 * (q : Int) + 1 + 1) q (by omega) rfl)
          cases hb : ahead (p.getD q z2) (p.getD (2 * q + 2) z2) with
          | false =>
            have HF := Lib.hid (show Heap n p from hd.rest HSEL.out hb)
            rw [hb] at HL2
            clear hp hd hkp ht hdr hb hs
            go_wp2_with fail
            refine HL1.out.mono ?_
            rintro e w1 ⟨rfl, hk1, hb1⟩
            have HK1 := Lib.hid (And.intro hk1 hb1)
            have hc1 := hk1.cell
            rw [HPN.out] at hc1
            clear hk1 hb1 hc
            go_wp2_with fail
            refine (HL2.out _ HK1.out.1).mono ?_
            rintro e w2 ⟨rfl, hk2, hb2⟩
            have HK2 := Lib.hid (And.intro hk2 hb2)
            clear hk2 hb2
            go_wp2
            go_ret
            exact ⟨⟨_, rfl⟩, p, HU.out.1, HF.out, HU.out.2.2.2.2, HK2.out.1, own_below (own_below HU.out.2.2.2.1 HK1.out.2) HK2.out.2⟩
          | true =>
            have HG := Lib.hid (show DownI n (swp p q (2 * q + 2)) (2 * q + 2) from hd.go (by omega) HSEL2.out hb)
            have HPM := Lib.hid (show (swp p q (2 * q + 2)).Perm l from (swp_perm p _ _ (by omega) (by omega)).trans hp)
            have HDR := Lib.hid (show (swp p q (2 * q + 2)).drop n = l.drop n by rw [swp_drop p q (2 * q + 2) n (by omega) (by omega)]; exact hdr)
            rw [hb] at HL2
            clear hp hd hkp ht hdr hb hs
            go_wp2_with fail
            refine HL1.out.mono ?_
            rintro e w1 ⟨rfl, hk1, hb1⟩
            have HK1 := Lib.hid (And.intro hk1 hb1)
            have hc1 := hk1.cell
            rw [HPN.out] at hc1
            clear hk1 hb1 hc
            go_wp2_with fail
            refine (HL2.out _ HK1.out.1).mono ?_
            rintro e w2 ⟨rfl, hk2, hb2⟩
            have HK2 := Lib.hid (And.intro hk2 hb2)
            have hc2 := hk2.cell
            rw [HPN.out] at hc2
            have HS := Lib.hid (swap_at hk2 HPN.out q (2 * q + 2) (by omega) (by omega) q (2 * (q : Int) + 1 + 1) rfl (by omega))
            clear hk2 hb2
            go_wp2_with fail
            refine HS.out.mono ?_
            rintro e w3 ⟨⟨v, rfl⟩, hk3, ht3⟩
            have HK3 := Lib.hid (And.intro hk3 ht3)
            clear hk3 ht3
            go_wp2
            go_roundw
            case rel => exact ⟨2 * q + 2, swp p q (2 * q + 2), by omega, by congr 1, Lib.hid ⟨HPM.out, HG.out, HK3.out.1, own_trans1 (own_below (own_below HU.out.2.2.2.1 HK1.out.2) HK2.out.2) HK3.out.2, HDR.out⟩⟩
            case measure => simp [intOf]; omega
      · have t3 : decide (2 * (q : Int) + 1 + 1 < (n : Int)) = false := by simp; omega
        have hs : True := trivial
        have HSEL := Lib.hid (show (2 * q + 1 = 2 * q + 1 ∧ (2 * q + 2 < n → ahead (p.getD (2 * q + 1) z2) (p.getD (2 * q + 2) z2) = false)) ∨ (2 * q + 1 = 2 * q + 2 ∧ 2 * q + 1 < n ∧ ahead (p.getD (2 * q + 1) z2) (p.getD (2 * q + 1) z2) = false) from .inl ⟨rfl, fun h => absurd h h2⟩)
        have HSEL2 := Lib.hid (show (2 * q + 1 = 2 * q + 1 ∧ 2 * q + 1 < n ∧ (2 * q + 2 < n → ahead (p.getD (2 * q + 1) z2) (p.getD (2 * q + 2) z2) = false)) ∨ (2 * q + 1 = 2 * q + 2 ∧ 2 * q + 1 < n ∧ ahead (p.getD (2 * q + 1) z2) (p.getD (2 * q + 1) z2) = false) from .inl ⟨rfl, by omega, fun h => absurd h h2⟩)
        have HL2 := Lib.hid (fun (W : World) (hW : Keep W K (some ⟨g, 0, none⟩) c p k) => less_at hW hpm (2 * q + 1) q (by omega) (by omega) (2 * (q : Int) + 1) q (by omega) rfl)
        cases hb : ahead (p.getD q z2) (p.getD (2 * q + 1) z2) with
        | false =>
          have HF := Lib.hid (show Heap n p from hd.rest HSEL.out hb)
          rw [hb] at HL2
          clear hp hd hkp ht hdr hb hs
          have HK1 := Lib.hid (And.intro HU.out.2.2.1 (Below.refl wr.heap.size wr))
          go_wp2_with fail
          refine (HL2.out _ HK1.out.1).mono ?_
          rintro e w2 ⟨rfl, hk2, hb2⟩
          have HK2 := Lib.hid (And.intro hk2 hb2)
          clear hk2 hb2
          go_wp2
          go_ret
          exact ⟨⟨_, rfl⟩, p, HU.out.1, HF.out, HU.out.2.2.2.2, HK2.out.1, own_below (own_below HU.out.2.2.2.1 HK1.out.2) HK2.out.2⟩
        | true =>
          have HG := Lib.hid (show DownI n (swp p q (2 * q + 1)) (2 * q + 1) from hd.go (by omega) HSEL2.out hb)
          have HPM := Lib.hid (show (swp p q (2 * q + 1)).Perm l from (swp_perm p _ _ (by omega) (by omega)).trans hp)
          have HDR := Lib.hid (show (swp p q (2 * q + 1)).drop n = l.drop n by rw [swp_drop p q (2 * q + 1) n (by omega) (by omega)]; exact hdr)
          rw [hb] at HL2
          clear hp hd hkp ht hdr hb hs
          have HK1 := Lib.hid (And.intro HU.out.2.2.1 (Below.refl wr.heap.size wr))
          go_wp2_with fail
          refine (HL2.out _ HK1.out.1).mono ?_
          rintro e w2 ⟨rfl, hk2, hb2⟩
          have HK2 := Lib.hid (And.intro hk2 hb2)
          have hc2 := hk2.cell
          rw [HPN.out] at hc2
          have HS := Lib.hid (swap_at hk2 HPN.out q (2 * q + 1) (by omega) (by omega) q (2 * (q : Int) + 1) rfl (by omega))
          clear hk2 hb2
          go_wp2_with fail
          refine HS.out.mono ?_
          rintro e w3 ⟨⟨v, rfl⟩, hk3, ht3⟩
          have HK3 := Lib.hid (And.intro hk3 ht3)
          clear hk3 ht3
          go_wp2
          go_roundw
          case rel => exact ⟨2 * q + 1, swp p q (2 * q + 1), by omega, by congr 1, Lib.hid ⟨HPM.out, HG.out, HK3.out.1, own_trans1 (own_below (own_below HU.out.2.2.2.1 HK1.out.2) HK2.out.2) HK3.out.2, HDR.out⟩⟩
          case measure => simp [intOf]; omega

end TopL
end Go.Proofs.YtcekgllahlhaaaaGreatDoor

namespace Go.Proofs.YtcekgllahlhaaaaGreatDoor
namespace TopL
open Go.RowKit Go.Shelf
set_option linter.unusedVariables false
set_option linter.unusedSimpArgs false
set_option maxRecDepth 100000

theorem hpush_any (K : Nat) (A : Option Addr) (c : Nat) (l : List HitM) (k : Int) (h : HitM) (w : World) (hk : Keep w K A c l k) (hp : Heap l.length l) (hbig : l.length < 1099511627770) :
    Calls Tryz.prog 147 #[.iface 206 (.pointer (some ⟨K, 0, none⟩)), .iface 57 (.agg #[.int .u64 h.1, .int .u64 h.2])] w fun e w' => e = .returned (.tuple #[]) ∧
      ∃ A' c' p, p.Perm (l ++ [h]) ∧ Heap p.length p ∧ Keep w' K A' c' p k ∧ (∀ i, blk A' = some i → blk A = some i ∨ w.heap.size ≤ i) ∧ Turn (own K A) w w' := by
  have HP := Lib.hid (pilePush_any K A c l k h w hk (by omega))
  have hl : (l ++ [h]).length = l.length + 1 := by simp
  have HU := Lib.hid (up_start h hp)
  have HUP := Lib.hid (fun (W : World) (A' : Option Addr) (c' : Nat) (hW : Keep W K A' c' (l ++ [h]) k) => up_any K A' c' (l ++ [h]) k l.length W hW (by omega) HU.out)
  have HL := Lib.hid hl
  generalize hn : l.length = n at *
  clear hk hp hl
  obtain ⟨x, y⟩ := h
  dsimp only
  go_enter Tryz.func147, Tryz.ntmps147
  go_wp2_with fail
  refine HP.out.mono ?_
  rintro e w1 ⟨rfl, A1, c1, hk1, hb1, ht1⟩
  have hc1 := hk1.cell
  rw [HL.out] at hc1
  have HK1 := Lib.hid (And.intro hk1 (And.intro hb1 ht1))
  have HC := Lib.hid (HUP.out w1 A1 c1 hk1)
  clear hk1 hb1 ht1
  go_wp2_with (go_at_call 139; refine (len_any _ _ _ _).mono ?_; rintro e w2 ⟨rfl, rfl⟩)
  refine HC.out.mono ?_
  rintro e w2 ⟨rfl, p, hp, hh, hk2, ht2⟩
  have H2 := Lib.hid (And.intro hp (And.intro hh (And.intro hk2 ht2)))
  clear hp hh hk2 ht2
  go_wp2
  go_end0
  exact ⟨rfl, A1, c1, p, H2.out.1, H2.out.2.1, H2.out.2.2.1, HK1.out.2.1, own_trans HK1.out.2.2 H2.out.2.2.2 HK1.out.2.1⟩

theorem hfix_any (K : Nat) (A : Option Addr) (c : Nat) (l : List HitM) (k : Int) (w : World) (hk : Keep w K A c l k) (hn0 : 0 < l.length) (hd : DownI l.length l 0) (hbig : l.length < 1099511627770) :
    Calls Tryz.prog 148 #[.iface 206 (.pointer (some ⟨K, 0, none⟩)), .int .i64 0] w fun e w' => e = .returned (.tuple #[]) ∧
      ∃ p, p.Perm l ∧ Heap p.length p ∧ Keep w' K A c p k ∧ Turn (own K A) w w' := by
  have HD := Lib.hid (down_any K A c l k 0 l.length w hk hn0 (Nat.le_refl _) hd (by omega) (Nat.zero_le _))
  have hc := hk.cell
  generalize hn : l.length = n at *
  have HN := Lib.hid hn
  clear hk hd hn
  go_enter Tryz.func148, Tryz.ntmps148
  go_wp2_with (go_at_call 139; refine (len_any _ _ _ _).mono ?_; rintro e w2 ⟨rfl, rfl⟩)
  refine HD.out.mono ?_
  rintro e w1 ⟨⟨m, rfl⟩, p, hp, hh, _, hk1, ht1⟩
  have hpn : p.length = n := by rw [hp.length_eq, HN.out]
  have H1 := Lib.hid (And.intro hp (And.intro hh (And.intro hk1 ht1)))
  have HPN := Lib.hid hpn
  have HUP := Lib.hid (up_any K A c p k 0 w1 hk1 (by omega) ⟨fun m m0 hm _ => hh m m0 (by omega), fun m _ _ _ h0 => absurd h0 (by omega)⟩)
  clear hp hh hk1 ht1 hpn hc
  cases m with
  | true =>
    go_wp2
    go_end0
    exact ⟨rfl, p, H1.out.1, by rw [HPN.out]; exact H1.out.2.1, H1.out.2.2.1, H1.out.2.2.2⟩
  | false =>
    go_wp2_with fail
    refine HUP.out.mono ?_
    rintro e w2 ⟨rfl, p2, hp2, hh2, hk2, ht2⟩
    have H2 := Lib.hid (And.intro hp2 (And.intro hh2 (And.intro hk2 ht2)))
    clear hp2 hh2 hk2 ht2
    go_wp2
    go_end0
    exact ⟨rfl, p2, H2.out.1.trans H1.out.1, H2.out.2.1, H2.out.2.2.1, own_trans1 H1.out.2.2.2 H2.out.2.2.2⟩

/-- What is left behind the first n: the last one. -/
theorem split_last {p : List HitM} {n : Nat} (hn : p.length = n + 1) {x : HitM} (hx : p.getD n z2 = x) : p = p.take n ++ [x] := by
  have h1 : p.drop n = [x] := by
    rw [List.drop_eq_getElem_cons (by omega), List.drop_eq_nil_of_le (by omega)]
    simp [List.getD, List.getElem?_eq_getElem (show n < p.length by omega)] at hx
    rw [hx]
  conv => lhs; rw [← List.take_append_drop n p, h1]

set_option maxHeartbeats 1000000 in
theorem hpop_any (K : Nat) (A : Option Addr) (c : Nat) (l : List HitM) (k : Int) (w : World) (hk : Keep w K A c l k) (hn0 : 0 < l.length) (hp : Heap l.length l) (hbig : l.length < 1099511627770) :
    Calls Tryz.prog 149 #[.iface 206 (.pointer (some ⟨K, 0, none⟩))] w fun e w' => (∃ v, e = .returned v) ∧
      ∃ p, (l.getD 0 z2 :: p).Perm l ∧ Heap p.length p ∧ Keep w' K A c p k ∧ Turn (own K A) w w' := by
  obtain ⟨g, rfl, _, _⟩ := hk.form hn0
  obtain ⟨n, hn⟩ : ∃ n, l.length = n + 1 := ⟨l.length - 1, by omega⟩
  have hc := hk.cell
  have HS := Lib.hid (swap_at hk hn 0 n (by omega) (by omega) 0 n rfl rfl)
  have hsl : (swp l 0 n).length = n + 1 := by rw [swp_length, hn]
  have hds : DownI n (swp l 0 n) 0 := pop_start hn (by rw [← hn]; exact hp)
  have HD := Lib.hid (fun (W : World) (hW : Keep W K (some ⟨g, 0, none⟩) c (swp l 0 n) k) => down_any K (some ⟨g, 0, none⟩) c (swp l 0 n) k 0 n W hW (by omega) (by omega) hds (by omega) (Nat.zero_le _))
  have HPM := Lib.hid (swp_perm l 0 n (by omega) (by omega))
  have HLX := Lib.hid (show (swp l 0 n).getD n z2 = l.getD 0 z2 by rw [swp_get l 0 n n (by omega) (by omega), if_pos rfl])
  rw [hn] at hc hbig
  have HSL := Lib.hid hsl
  generalize swp l 0 n = s at *
  clear hk hp hn hsl hds hn0
  go_enter Tryz.func149, Tryz.ntmps149
  go_wp2_with (go_at_call 139; refine (len_any _ _ _ _).mono ?_; rintro e w2 ⟨rfl, rfl⟩)
  refine HS.out.mono ?_
  rintro e w1 ⟨⟨v, rfl⟩, hk1, ht1⟩
  have HT1 := Lib.hid ht1
  have HC := Lib.hid (HD.out w1 hk1)
  clear hk1 ht1 hc
  go_wp2_with fail
  refine HC.out.mono ?_
  rintro e w2 ⟨⟨m, rfl⟩, p, hp, hh, hdr, hk2, ht2⟩
  have hpl : p.length = n + 1 := by rw [hp.length_eq, HSL.out]
  have hx : p.getD n z2 = l.getD 0 z2 := by
    rw [← HLX.out]
    have h1 : (p.drop n).getD 0 z2 = (s.drop n).getD 0 z2 := by rw [hdr]
    simpa [List.getD] using h1
  have hsp := split_last hpl hx
  have HTK := Lib.hid (heap_take hh (by omega))
  have HPR := Lib.hid (show (l.getD 0 z2 :: p.take n).Perm l by
    have h1 : (p.take n ++ [l.getD 0 z2]).Perm l := by rw [← hsp]; exact hp.trans HPM.out
    exact (List.perm_append_comm (l₁ := [l.getD 0 z2]) (l₂ := p.take n)).trans h1)
  rw [hsp] at hk2
  have HPO := Lib.hid (pilePop_any K (some ⟨g, 0, none⟩) c (p.take n) (l.getD 0 z2) k w2 hk2)
  have HT2 := Lib.hid ht2
  clear hp hh hdr hk2 ht2 hpl hx hsp
  go_wp2_with fail
  refine HPO.out.mono ?_
  rintro e w3 ⟨⟨v', rfl⟩, hk3, ht3⟩
  have H3 := Lib.hid (And.intro hk3 ht3)
  clear hk3 ht3
  go_wp2
  go_ret
  exact ⟨⟨_, rfl⟩, p.take n, HPR.out, HTK.out, H3.out.1, own_trans1 (own_trans1 HT1.out HT2.out) H3.out.2⟩

end TopL
end Go.Proofs.YtcekgllahlhaaaaGreatDoor

namespace Go.Proofs.YtcekgllahlhaaaaGreatDoor
namespace TopL
open Go.RowKit Go.Shelf
set_option linter.unusedVariables false
set_option linter.unusedSimpArgs false
set_option maxRecDepth 100000

theorem len_st (A : Option Addr) (n c : Nat) (w : World) : Calls Tryz.prog 139 #[.slice A n c] w fun e w' => e = .returned (.int .i64 n) ∧ w' = w := (len_any A n c w).mono fun _ _ ⟨a, b⟩ => ⟨a, b.symm⟩

theorem Keep.drewN {w : World} {K : Nat} {A : Option Addr} {c : Nat} {l : List HitM} {k : Int} (h : Keep w K A c l k) (n : Nat) : Keep (w.drewN n) K A c l k := ⟨h.head, h.row⟩
theorem Keep.zero {w : World} {K g : Nat} {c : Nat} {l : List HitM} {k : Int} (hk : Keep w K (some ⟨g, 0, none⟩) c l k) (h : HitM) :
    Keep ((w.setCell ⟨g, 0, none⟩ (.int .u64 h.1)).setCell ⟨g, 1, none⟩ (.int .u64 h.2)) K (some ⟨g, 0, none⟩) c (l.set 0 h) k ∧
    Turn (own K (some ⟨g, 0, none⟩)) w ((w.setCell ⟨g, 0, none⟩ (.int .u64 h.1)).setCell ⟨g, 1, none⟩ (.int .u64 h.2)) := by
  obtain ⟨h1, h2⟩ := row_set hk.row 0 h
  refine ⟨⟨?_, h1⟩, Turn.of_grown h2 (fun i hi => .inl (.inr hi))⟩
  rw [List.length_set]
  exact (h2.block K hk.lt hk.blk_ne).trans hk.head

set_option maxHeartbeats 1000000 in
theorem take_room (K : Nat) (A : Option Addr) (c kk : Nat) (l : List HitM) (h : HitM) (w : World) (hk : Keep w K A c l kk) (hp : Heap l.length l) (hkk : kk < 1099511627770) (hl : l.length < kk) :
    Calls Tryz.prog 143 #[.pointer (some ⟨K, 0, none⟩), .agg #[.int .u64 h.1, .int .u64 h.2]] w fun e w' => e = .returned (.tuple #[]) ∧
      ∃ A' c' p, p.Perm (l ++ [h]) ∧ Heap p.length p ∧ Keep w' K A' c' p kk ∧ (∀ i, blk A' = some i → blk A = some i ∨ w.heap.size ≤ i) ∧ Turn (own K A) w w' := by
  have hb : Below w.heap.size w (w.alloc (.cells #[.int .u64 h.1, .int .u64 h.2] 57)) := (Below.refl _ w).alloc (Nat.le_refl _) _
  have hk1 := hk.below hb
  have hc := hk1.cell
  have hc1 := hk1.cell1
  have HP := Lib.hid (fun (W : World) (hW : Keep W K A c l kk) => hpush_any K A c l kk h W hW hp (by omega))
  have HK := Lib.hid hk1
  have HB := Lib.hid hb
  have HLT := Lib.hid hk.lt
  have t1 : decide ((l.length : Int) < (kk : Int)) = true := by simp; omega
  generalize hn : l.length = n at *
  have HN := Lib.hid hn
  obtain ⟨x, y⟩ := h
  dsimp only at *
  clear hk hp hb hk1 hn
  go_enter Tryz.func143, Tryz.ntmps143
  go_wp2
  go_quiet ((go_at_call 139; with_reducible refine Calls.quiet_of_same (len_st _ _ _ _)))
  go_wp2_with fail
  refine (HP.out _ (HK.out.drewN nq)).mono ?_
  rintro e w1 ⟨rfl, A1, c1, p, hp1, hh1, hk1, hb1, ht1⟩
  have H1 := Lib.hid (show ∃ A' c' p, p.Perm (l ++ [(x, y)]) ∧ Heap p.length p ∧ Keep w1 K A' c' p kk ∧ (∀ i, blk A' = some i → blk A = some i ∨ w.heap.size ≤ i) ∧ Turn (own K A) w w1 from
    ⟨A1, c1, p, hp1, hh1, hk1, fun i hi => (hb1 i hi).elim .inl (fun h => .inr (Nat.le_trans HB.out.size h)), (Turn.of_below (S := own K A) (below_drewN HB.out nq)).trans ht1 (fun i hi => .inl hi)⟩)
  clear hp1 hh1 hk1 hb1 ht1
  go_wp2
  refine bodyPost_ret (results_none rfl _ _ _) rfl ?_
  exact ⟨rfl, H1.out⟩

set_option maxHeartbeats 1000000 in
theorem take_full (K : Nat) (A : Option Addr) (c kk : Nat) (l : List HitM) (h : HitM) (w : World) (hk : Keep w K A c l kk) (hp : Heap l.length l) (hkk : kk < 1099511627770) (hl : l.length = kk) (hpos : 0 < kk) :
    Calls Tryz.prog 143 #[.pointer (some ⟨K, 0, none⟩), .agg #[.int .u64 h.1, .int .u64 h.2]] w fun e w' => e = .returned (.tuple #[]) ∧
      ∃ A' c' p, p.Perm (l.set 0 h) ∧ Heap p.length p ∧ Keep w' K A' c' p kk ∧ (∀ i, blk A' = some i → blk A = some i ∨ w.heap.size ≤ i) ∧ Turn (own K A) w w' := by
  obtain ⟨g, rfl, _, hglt⟩ := hk.form (by omega)
  have hb : Below w.heap.size w (w.alloc (.cells #[.int .u64 h.1, .int .u64 h.2] 57)) := (Below.refl _ w).alloc (Nat.le_refl _) _
  have hk1 := hk.below hb
  have hc := hk1.cell
  have hc1 := hk1.cell1
  have hhd := down_start (n := l.length) h hp
  have hsl : (l.set 0 h).length = l.length := List.length_set
  have HP := Lib.hid (fun (W : World) (hW : Keep W K (some ⟨g, 0, none⟩) c (l.set 0 h) kk) => hfix_any K (some ⟨g, 0, none⟩) c (l.set 0 h) kk W hW (by omega) (by rw [hsl]; exact hhd) (by omega))
  have HK := Lib.hid hk1
  have HB := Lib.hid hb
  have HLT := Lib.hid hk.lt
  have t1 : decide ((l.length : Int) < (kk : Int)) = false := by simp; omega
  generalize hn : l.length = n at *
  have HN := Lib.hid hn
  have HZ := Lib.hid (fun (W : World) (hW : Keep W K (some ⟨g, 0, none⟩) c l kk) => hW.zero h)
  generalize hs : l.set 0 h = s at *
  have n0 : (0 : Int) < n := by omega
  obtain ⟨x, y⟩ := h
  dsimp only at *
  have hx := Lib.hid (heap_alloc_new w (.cells #[.int .u64 x, .int .u64 y] 57))
  clear hk hp hb hk1 hn hsl hs hhd
  go_enter Tryz.func143, Tryz.ntmps143
  go_wp2
  go_quiet ((go_at_call 139; with_reducible refine Calls.quiet_of_same (len_st _ _ _ _)))
  obtain ⟨W, hW⟩ : ∃ W, W = (w.alloc (.cells #[.int .u64 x, .int .u64 y] 57)).drewN nq := ⟨_, rfl⟩
  have hkW : Keep W K (some ⟨g, 0, none⟩) c l kk := by rw [hW]; exact HK.out.drewN nq
  have hbW : Below w.heap.size w W := by rw [hW]; exact below_drewN HB.out nq
  have hxW : W.heap[w.heap.size]? = some (.cells #[.int .u64 x, .int .u64 y] 57 (0, 0)) := by rw [hW]; exact hx.out
  have cW := hkW.cell
  have x0 : W.cell? ⟨w.heap.size, 0, none⟩ = some (.int .u64 x) := (cell_of_row _ _ _ _ _ _ hxW).trans rfl
  have x1 : W.cell? ⟨w.heap.size, 1, none⟩ = some (.int .u64 y) := (cell_of_row _ _ _ _ _ _ hxW).trans rfl
  obtain ⟨b, o, he, _, g0, g1⟩ := hkW.hits.at_ (j := 0) (by have := HN.out; omega)
  injection he with he
  injection he with he1 he2
  subst he1
  subst he2
  simp only [Nat.zero_mul, Nat.zero_add] at g0 g1
  have f0 := hkW.row.frozenAt 0
  have f1 := hkW.row.frozenAt 1
  have HKW := Lib.hid (And.intro hkW hbW)
  have HZW := Lib.hid (HZ.out W hkW)
  rw [HN.out] at cW
  rw [← hW]
  clear hW hkW hbW hxW hx hc hc1 HK HZ
  go_wp2
  go_region
  all_goals go_wp2_with fail
  all_goals refine (HP.out _ (Keep.drew HZW.out.1)).mono ?_
  all_goals rintro e w1 ⟨rfl, p, hp1, hh1, hk1, ht1⟩
  all_goals have H1 := Lib.hid (show ∃ A' c' q, List.Perm q s ∧ Heap q.length q ∧ Keep w1 K A' c' q kk ∧ (∀ i, blk A' = some i → blk (some (⟨g, 0, none⟩ : Addr)) = some i ∨ w.heap.size ≤ i) ∧ Turn (own K (some ⟨g, 0, none⟩)) w w1 from
    ⟨_, c, p, hp1, hh1, hk1, fun i hi => .inl hi, ((Turn.of_below (S := own K (some ⟨g, 0, none⟩)) HKW.out.2).trans HZW.out.2.drew (fun i hi => .inl hi)).trans ht1 (fun i hi => .inl hi)⟩)
  all_goals clear hp1 hh1 hk1 ht1
  all_goals go_wp2
  all_goals go_end0
  all_goals exact ⟨rfl, H1.out⟩

end TopL
end Go.Proofs.YtcekgllahlhaaaaGreatDoor

namespace Go.Proofs.YtcekgllahlhaaaaGreatDoor
namespace TopL
open Go.RowKit Go.Shelf
set_option linter.unusedVariables false
set_option linter.unusedSimpArgs false
set_option maxRecDepth 100000

theorem flat_zero (n : Nat) : flat (List.replicate n z2) = List.replicate (n * 2) (.int .u64 0) := by
  induction n with
  | zero => rfl
  | succ n ih =>
    rw [List.replicate_succ, flat_cons, ih, show (n + 1) * 2 = n * 2 + 1 + 1 by omega, List.replicate_succ, List.replicate_succ]
    rfl
theorem made_flat (n : Nat) : (madeCells (Value.agg #[.int .u64 0, .int .u64 0]).cells (n * 2)).toList = flat (List.replicate n z2) := by
  rw [flat_zero]
  apply List.ext_getElem?
  intro j
  have hc : (Value.agg #[.int .u64 0, .int .u64 0]).cells = #[.int .u64 0, .int .u64 0] := rfl
  rw [hc]
  by_cases hj : j < n * 2
  · have h2 : j % 2 = 0 ∨ j % 2 = 1 := by omega
    rcases h2 with h2 | h2 <;> simp [madeCells, hj, h2]
  · simp [madeCells, hj]

/-- A row of the call's own stays, where its block does. -/
theorem row_turn {S : Nat → Prop} {w w' : World} {base : Nat} {e : TypeId} {size : Nat} {v : Value} {n : Nat} {xs : List Value} (h : w.ownsRow base e size v n xs) (ht : Turn S w w') (hS : ∀ i, v.ownBlock = some i → ¬ S i) : w'.ownsRow base e size v n xs := by
  rcases h.2 with ⟨e', h0⟩ | ⟨g, cap, cur, e', hg, hh, hnc, hcm, hsz, hcs⟩
  · exact ⟨h.1, .inl ⟨e', h0⟩⟩
  · refine ⟨h.1, .inr ⟨g, cap, cur, e', hg, (ht.block _ (lt_of_block hh) (hS g ?_)).trans hh, hnc, hcm, hsz, hcs⟩⟩
    rw [e']; rfl

def EmR (w : World) (K : Nat) (A : Option Addr) (c : Nat) (l : List HitM) (k : Int) (n q : Nat) (W : World) : Prop :=
  ∃ p s : List HitM, p.length + q = n ∧ s.length = q ∧ Heap p.length p ∧ Keep W K A c p k ∧ W.ownsRow w.heap.size 57 2 (.slice (some ⟨w.heap.size, 0, none⟩) n n) n (flat (List.replicate p.length z2 ++ s)) ∧ (p ++ s).Perm l ∧ Srt s ∧ (∀ x ∈ p, ∀ y ∈ s, ahead y x = false) ∧ Turn (own K A) w W

theorem em_step {p' p s l : List HitM} {r : HitM} (hr : p.getD 0 z2 = r) (hp : (r :: p').Perm p) (hh : Heap p.length p) (h1 : (p ++ s).Perm l) (h2 : Srt s) (h3 : ∀ x ∈ p, ∀ y ∈ s, ahead y x = false) :
    p'.length + 1 = p.length ∧ (p' ++ r :: s).Perm l ∧ Srt (r :: s) ∧ (∀ x ∈ p', ∀ y ∈ r :: s, ahead y x = false) := by
  have hrp : r ∈ p := hp.mem_iff.1 (by simp)
  refine ⟨by simpa using hp.length_eq, ?_, ?_, ?_⟩
  · refine List.Perm.trans ?_ h1
    have : (p' ++ r :: s).Perm ((r :: p') ++ s) := by
      exact (List.perm_middle (a := r) (l₁ := p') (l₂ := s))
    exact this.trans (hp.append_right s)
  · unfold Srt
    rw [List.pairwise_cons]
    exact ⟨fun y hy => h3 r hrp y hy, h2⟩
  · intro x hx y hy
    have hxp : x ∈ p := hp.mem_iff.1 (by simp [hx])
    rcases List.mem_cons.1 hy with rfl | hy
    · rw [← hr]; exact hh.most x hxp
    · exact h3 x hxp y hy
theorem rep_set (m : Nat) (s : List HitM) (x : HitM) : (List.replicate (m + 1) z2 ++ s).set m x = List.replicate m z2 ++ x :: s := by
  rw [List.replicate_succ', List.append_assoc, List.set_append_right _ _ (by simp)]
  simp

set_option maxHeartbeats 2000000 in
theorem empty_any (K : Nat) (A : Option Addr) (c : Nat) (l : List HitM) (k : Int) (w : World) (hk : Keep w K A c l k) (hp : Heap l.length l) (hbig : l.length < 1099511627770) :
    Calls Tryz.prog 144 #[.pointer (some ⟨K, 0, none⟩)] w fun e w' => ∃ B cb, e = .returned (.slice B l.length cb) ∧ w'.ownsRow w.heap.size 57 2 (.slice B l.length cb) l.length (flat (sortM l)) ∧ Turn (own K A) w w' := by
  have hc := hk.cell
  obtain ⟨i0, hi, hz0, hz1, hz2⟩ := info_hit
  have HS := Lib.hid (fun (W : World) (hg : w.grownBy W none) (hr : W.ownsRow w.heap.size 57 2 (.slice (some ⟨w.heap.size, 0, none⟩) l.length l.length) l.length (madeCells (Value.agg #[.int .u64 0, .int .u64 0]).cells (l.length * 2)).toList) =>
    show EmR w K A c l k l.length 0 W from ⟨l, [], rfl, rfl, hp, hk.turn (S := fun _ => False) (Turn.of_grown hg (by simp)) (by simp) (by simp), by rw [List.append_nil, ← made_flat]; exact hr, by simp, List.Pairwise.nil, by simp, Turn.of_grown hg (by simp)⟩)
  have HLT := Lib.hid hk.lt
  have HFAR := Lib.hid (fun i => hk.far (i := i))
  generalize hn : l.length = n at *
  have HN := Lib.hid hn
  clear hk hp hn
  go_enter Tryz.func144, Tryz.ntmps144
  go_wp2_with (first
    | (go_at_call 139; refine (len_any _ _ _ _).mono ?_; rintro e w2 ⟨rfl, rfl⟩)
    | (refine wpList_make_full _ rfl _ _ _ rfl w.heap.size 57 i0 _ 2 Tryz.underlying42 hi hz0 hz1 .i64 .i64 n n n rfl rfl rfl rfl (by rw [hz2]; omega) (by unfold maxLen; omega) (Nat.le_refl _) ?_; intro w1 hr1 hg1; have H1 := Lib.hid (HS.out w1 hg1 hr1); clear hr1 hg1))
  go_loopw [4, 13] (fun _ i wr => ∃ q : Nat, q ≤ n ∧ i = .int .i64 q ∧ Hid (EmR w K A c l k n q wr)) (fun _ i _ => n - (intOf i).toNat)
  case atStart => exact ⟨0, Nat.zero_le _, rfl, H1⟩
  case round =>
    obtain ⟨q, hq, rfl, HE⟩ := hrel
    obtain ⟨p, s, e1, e2, hh, hk, hr, hpm, hs, hps, ht⟩ := HE.out
    by_cases hqn : q < n
    · obtain ⟨r, hrp⟩ : ∃ r, p.length = r + 1 := ⟨p.length - 1, by omega⟩
      have HF := Lib.hid (furthest_any A c p wr hk.hits (by omega))
      have hc := hk.cell
      rw [hrp] at hc HF hr
      have hix : (n : Int) - 1 - (q : Int) = (r : Int) := by omega
      have HPOP := Lib.hid (fun (W : World) (hW : Keep W K A c p k) => hpop_any K A c p k W hW (by omega) hh (by omega))
      have HROW := Lib.hid (And.intro hr (And.intro hk ht))
      have HST := Lib.hid (fun (p' : List HitM) (hp' : (p.getD 0 z2 :: p').Perm p) => em_step (p' := p') rfl hp' hh hpm hs hps)
      have HRP := Lib.hid hrp
      have HE2 := Lib.hid e2
      have r0 : (0 : Int) ≤ r := by omega
      have rn : (r : Int) < n := by omega
      clear hh hk hr hpm hs hps ht hrp
      go_wp2_with fail
      refine HF.out.mono ?_
      rintro e w2 ⟨rfl, hb2⟩
      obtain ⟨hr, hk, ht⟩ := HROW.out
      have hlw : w.heap.size ≤ wr.heap.size := ht.size
      have hr2 := row_turn hr (S := fun _ => False) (Turn.of_below hb2) (by simp)
      have hk2 := hk.below hb2
      have ht2 := own_below ht hb2
      have hln : (List.replicate (r + 1) z2 ++ s).length = n := by simp; omega
      have hr3 : w2.ownsRow w.heap.size 57 2 (.slice (some ⟨w.heap.size, 0, none⟩) (List.replicate (r + 1) z2 ++ s).length n) (List.replicate (r + 1) z2 ++ s).length (flat (List.replicate (r + 1) z2 ++ s)) := by rw [hln]; exact hr2
      have g := flat_get (List.replicate (r + 1) z2 ++ s) r (by omega)
      have g0 := (hr3.cellAt (r * 2) (by omega)).trans g.1
      have g1 := (hr3.cellAt (r * 2 + 1) (by omega)).trans g.2
      have f0 := hr3.frozenAt (r * 2)
      have f1 := hr3.frozenAt (r * 2 + 1)
      have hset := row_set hr3 r (p.getD 0 z2)
      rw [rep_set] at hset
      have hln2 : (List.replicate r z2 ++ p.getD 0 z2 :: s).length = n := by simp; omega
      rw [hln2] at hset
      have hk3 := hk2.turn (S := fun i => i = w.heap.size) (Turn.of_grown hset.2 (by rintro i hi; injection hi with hi; exact .inl hi.symm)) (by have := HLT.out; omega) (fun i hi => by have := HFAR.out i hi; omega)
      have ht3 : Turn (own K A) w _ := ht2.trans (S' := fun i => i = w.heap.size) (Turn.of_grown hset.2 (by rintro i hi; injection hi with hi; exact .inl hi.symm)) (fun i hi => .inr (by omega))
      have H3 := Lib.hid (And.intro hset.1 ht3)
      have HPP := Lib.hid (HPOP.out _ hk3)
      generalize (p.getD 0 z2).1 = x1 at *
      generalize (p.getD 0 z2).2 = x2 at *
      generalize ((List.replicate (r + 1) z2 ++ s).getD r z2).1 = y1 at *
      generalize ((List.replicate (r + 1) z2 ++ s).getD r z2).2 = y2 at *
      clear hr hk ht hr2 hk2 ht2 hr3 g hset hk3 ht3 hb2 hc
      go_wp2_with fail
      refine HPP.out.mono ?_
      rintro e w4 ⟨⟨v, rfl⟩, p', hp', hh', hk4, ht4⟩
      obtain ⟨s1, s2, s3, s4⟩ := HST.out p' hp'
      have H4 := Lib.hid (show EmR w K A c l k n (q + 1) w4 from ⟨p', p.getD 0 z2 :: s, by have := HRP.out; omega, by have := HE2.out; simp; omega, hh', hk4, by
        rw [show p'.length = r by have := HRP.out; omega]
        exact row_turn H3.out.1 ht4 (fun i hi => by
          have hi' : w.heap.size = i := by simpa [Value.ownBlock] using hi
          rintro (h | h)
          · have := HLT.out; omega
          · have := HFAR.out i h; omega), s2, s3, s4, H3.out.2.trans ht4 (fun i hi => .inl hi)⟩)
      clear hp' hh' hk4 ht4 s1 s2 s3 s4
      go_wp2
      go_roundw
      case rel => exact ⟨q + 1, by omega, by go_num, H4⟩
      case measure => simp [intOf]; omega
    · obtain rfl : q = n := by omega
      have hp0 : p = [] := List.eq_nil_of_length_eq_zero (by omega)
      subst hp0
      have HF := Lib.hid (show wr.ownsRow w.heap.size 57 2 (.slice (some ⟨w.heap.size, 0, none⟩) q q) q (flat (sortM l)) ∧ Turn (own K A) w wr from ⟨by
        have : s = sortM l := by rw [← sort_self hs]; exact sort_of_perm hpm
        rw [← this]; exact hr, ht⟩)
      clear hh hk hr hpm hs hps ht
      go_wp2
      go_ret
      exact ⟨_, _, rfl, HF.out⟩

end TopL
end Go.Proofs.YtcekgllahlhaaaaGreatDoor

namespace Go.Proofs.YtcekgllahlhaaaaGreatDoor
namespace TopL
open Go.RowKit Go.Shelf
set_option linter.unusedVariables false
set_option linter.unusedSimpArgs false
set_option maxRecDepth 100000

set_option maxHeartbeats 1000000 in
theorem let_room (K : Nat) (A : Option Addr) (c kk : Nat) (l : List HitM) (h : HitM) (w : World) (hk : Keep w K A c l kk) (hl : l.length < kk) :
    Calls Tryz.prog 138 #[.agg #[.int .u64 h.1, .int .u64 h.2], .pointer (some ⟨K, 0, none⟩)] w fun e w' => e = .returned (.bool true) ∧ Below w.heap.size w w' := by
  have hb : Below w.heap.size w (w.alloc (.cells #[.int .u64 h.1, .int .u64 h.2] 57)) := (Below.refl _ w).alloc (Nat.le_refl _) _
  have hk1 := hk.below hb
  have hc := hk1.cell
  have hc1 := hk1.cell1
  have HB := Lib.hid hb
  have t1 : decide ((l.length : Int) < (kk : Int)) = true := by simp; omega
  generalize l.length = n at *
  obtain ⟨x, y⟩ := h
  dsimp only at *
  clear hk hb hk1
  go_enter Tryz.func138, Tryz.ntmps138
  go_wp2
  go_quiet ((go_at_call 139; with_reducible refine Calls.quiet_of_same (len_st _ _ _ _)))
  go_wp2
  go_ret
  exact ⟨rfl, below_drewN HB.out _⟩

theorem let_next {W0 W W' : World} {b K : Nat} {x1 x2 m : Int} {A : Option Addr} {n c : Nat} (h : W.cell? ⟨b, 0, none⟩ = some (.int .u64 x1) ∧ W.cell? ⟨b, 1, none⟩ = some (.int .u64 x2) ∧ W.cell? ⟨K, 0, none⟩ = some (.slice A n c) ∧ W.cell? ⟨K, 1, none⟩ = some (.int .i64 m) ∧ Below W0.heap.size W0 W)
    (hb : Below W.heap.size W W') : W'.cell? ⟨b, 0, none⟩ = some (.int .u64 x1) ∧ W'.cell? ⟨b, 1, none⟩ = some (.int .u64 x2) ∧ W'.cell? ⟨K, 0, none⟩ = some (.slice A n c) ∧ W'.cell? ⟨K, 1, none⟩ = some (.int .i64 m) ∧ Below W0.heap.size W0 W' := by
  obtain ⟨h1, h2, h3, h4, h5⟩ := h
  have hl1 := World.block_lt_of_cell? W _ h1
  have hl2 := World.block_lt_of_cell? W _ h3
  exact ⟨(hb.cell (p := ⟨b, 0, none⟩) hl1).trans h1, (hb.cell (p := ⟨b, 1, none⟩) hl1).trans h2, (hb.cell (p := ⟨K, 0, none⟩) hl2).trans h3, (hb.cell (p := ⟨K, 1, none⟩) hl2).trans h4, h5.trans (hb.mono h5.size)⟩

set_option maxHeartbeats 1000000 in
theorem let_full (K : Nat) (A : Option Addr) (c kk : Nat) (l : List HitM) (h : HitM) (w : World) (hk : Keep w K A c l kk) (hl : l.length = kk) (hpos : 0 < kk) :
    Calls Tryz.prog 138 #[.agg #[.int .u64 h.1, .int .u64 h.2], .pointer (some ⟨K, 0, none⟩)] w fun e w' => e = .returned (.bool (ahead h (l.getD 0 z2))) ∧ Below w.heap.size w w' := by
  have hb : Below w.heap.size w (w.alloc (.cells #[.int .u64 h.1, .int .u64 h.2] 57)) := (Below.refl _ w).alloc (Nat.le_refl _) _
  have hk1 := hk.below hb
  have hx := heap_alloc_new w (.cells #[.int .u64 h.1, .int .u64 h.2] 57)
  have HF := Lib.hid (fun (W : World) (hW : Hits W A c l) => furthest_any A c l W hW (by omega))
  have HG := Lib.hid (compare_lt h (l.getD 0 z2))
  have HC := Lib.hid (fun V => compare_any h.1 h.2 (l.getD 0 z2).1 (l.getD 0 z2).2 V)
  have t1 : decide ((l.length : Int) < (kk : Int)) = false := by simp; omega
  have HLN := Lib.hid (show (l.length : Int) = kk by omega)
  have hlt := hk.lt
  generalize ahead h (l.getD 0 z2) = R at *
  generalize (l.getD 0 z2).1 = y1 at *
  generalize (l.getD 0 z2).2 = y2 at *
  obtain ⟨x1, x2⟩ := h
  dsimp only at *
  generalize hcm : compareM x1 x2 y1 y2 = cm at *
  obtain ⟨W0, hW0⟩ : ∃ W0, W0 = w.alloc (.cells #[.int .u64 x1, .int .u64 x2] 57) := ⟨_, rfl⟩
  rw [← hW0] at hb hk1 hx
  have hc := hk1.cell
  have hc1 := hk1.cell1
  have g0 : W0.cell? ⟨w.heap.size, 0, none⟩ = some (.int .u64 x1) := (cell_of_row _ _ _ _ _ _ hx).trans rfl
  have g1 : W0.cell? ⟨w.heap.size, 1, none⟩ = some (.int .u64 x2) := (cell_of_row _ _ _ _ _ _ hx).trans rfl
  have HH := Lib.hid hk1.hits
  have HB := Lib.hid hb
  have HW := Lib.hid hW0
  have hzz : w.heap.size < W0.heap.size := by rw [hW0]; simp
  generalize hn : l.length = n at *
  subst hl
  clear hk hb hk1 hx hW0 hn hcm hpos
  go_enter Tryz.func138, Tryz.ntmps138
  go_wp2
  rw [← HW.out]
  have H0 : W0.drew.cell? ⟨w.heap.size, 0, none⟩ = some (.int .u64 x1) ∧ W0.drew.cell? ⟨w.heap.size, 1, none⟩ = some (.int .u64 x2) ∧ W0.drew.cell? ⟨K, 0, none⟩ = some (.slice A n c) ∧ W0.drew.cell? ⟨K, 1, none⟩ = some (.int .i64 n) ∧ Below W0.heap.size W0 W0.drew := ⟨g0, g1, hc, hc1, below_drew (Below.refl _ _)⟩
  have S0 := Lib.hid H0
  clear H0
  go_region_held3 (fun W => W.cell? ⟨w.heap.size, 0, none⟩ = some (.int .u64 x1) ∧ W.cell? ⟨w.heap.size, 1, none⟩ = some (.int .u64 x2) ∧ W.cell? ⟨K, 0, none⟩ = some (.slice A n c) ∧ W.cell? ⟨K, 1, none⟩ = some (.int .i64 n) ∧ Below W0.heap.size W0 W) (first | exact S0.out | exact S3.out | exact S2.out) (first
    | (go_at_call 139; refine (len_st _ _ _ _).mono ?_; rintro e w2 ⟨rfl, rfl⟩)
    | (go_at_call 141; refine (HF.out _ (HH.out.below S0.out.2.2.2.2)).mono ?_; rintro e w2 ⟨rfl, hb2⟩; have S2 := Lib.hid (let_next S0.out hb2); clear hb2)
    | (go_at_call 140; refine (HC.out _).mono ?_; rintro e w3 ⟨rfl, hb3⟩; have S3 := Lib.hid (let_next S2.out hb3); clear hb3))
  all_goals (
    go_wp2
    go_ret
    rw [← HG.out]
    exact ⟨rfl, HB.out.trans (S3.out.2.2.2.2.mono HB.out.size)⟩)

end TopL
end Go.Proofs.YtcekgllahlhaaaaGreatDoor

namespace Go.Proofs.YtcekgllahlhaaaaGreatDoor
namespace TopL
open Go.RowKit Go.Shelf
set_option linter.unusedVariables false
set_option linter.unusedSimpArgs false
set_option maxRecDepth 100000
attribute [local go_sem] Oper.semAt_some

theorem together_any (w : World) (A : Option Addr) (n c : Nat) : Calls Tryz.prog 142 #[.slice A n c] w fun e w' => e = .returned (.func (.func 146) #[] #[.pointer (some ⟨w.heap.size, 0, none⟩)]) ∧ w' = w.alloc (.cells #[.slice A n c] 182) := by
  go_enter Tryz.func142, Tryz.ntmps142
  go_wp2
  go_ret
  exact ⟨rfl, rfl⟩

def encH (x : HitM) : Array Value := #[.agg #[.int .u64 x.1, .int .u64 x.2]]
theorem flatten_take {ls : List (List HitM)} {k : Nat} {x : List HitM} (h : ls[k]? = some x) : (ls.take (k + 1)).flatten = (ls.take k).flatten ++ x := by
  rw [List.take_add_one, h]; simp
theorem KpD.rows {d B : Nat} {W0 W W' : World} {A : Option Addr} {c : Nat} {ls : List (List HitM)} (h : Rows W0 A c ls) (hw : Below W0.heap.size W0 W) (hB : W0.heap.size ≤ B) (hd : W0.heap.size ≤ d) (hk : KpD d B W W') :
    ∀ p : Addr, p.block < W0.heap.size → ∀ v, W0.cell? p = some v → W'.cell? p = some v := fun p hp v hv =>
  hk.cell ((hw.cell hp).trans hv) (by omega) (by omega)

set_option maxHeartbeats 2000000 in
theorem together1_in {w w0 : World} {A : Option Addr} {c : Nat} {ls : List (List HitM)} (n d ba : Nat) (hn : 1 ≤ n) (hba : w.cell? ⟨ba, 0, none⟩ = some (.slice A ls.length c)) (hr : Rows w0 A c ls) (hw0 : Below w0.heap.size w0 w) (hd1 : ba ≠ d) (hd : w0.heap.size ≤ d) :
    SeqOwn Fence.wide n Tryz.prog 146 #[.pointer (some ⟨ba, 0, none⟩)] encH (fun _ _ => False) (fun _ _ _ => True) (KpD d) (fun _ _ => True) (fun xs => xs = ls.flatten) (fun _ => True) w := by
  intro l J Jx W hW hJ hJx hY h0
  have hca : W.cell? ⟨ba, 0, none⟩ = some (.slice A ls.length c) := (hW.cell (p := ⟨ba, 0, none⟩) (World.block_lt_of_cell? w _ hba)).trans hba
  have hba' : ba < W.heap.size := World.block_lt_of_cell? W _ hca
  have hwW : Below w0.heap.size w0 W := hw0.trans (hW.mono hw0.size)
  obtain ⟨m, hm⟩ : ∃ m, m = ls.length := ⟨_, rfl⟩
  have hmx : m ≤ 9223372036854775807 := by rw [hm]; exact Nat.le_trans hr.room hr.most
  have HRW := Lib.hid hr
  have HWW := Lib.hid hwW
  have HJ := Lib.hid hJ
  have HY := Lib.hid hY
  have H0 := Lib.hid h0
  have HM := Lib.hid hm
  rw [← hm] at hca
  clear hba hr hW hJ hJx hY h0 hm hw0 hwW
  refine callsIn_of_wp Tryz.func146 rfl trivial ?_ rfl
  simp only [Tryz.ntmps146, List.size_toArray, List.length_cons, List.length_nil, Nat.reduceAdd, Nat.reduceSub, Array.replicate_succ, Array.replicate_zero, List.push_toArray, List.append_toArray, List.nil_append, List.cons_append]
  gi_wp2
  gi_loopw [4, 6, 9, 15] (fun _ _ i _ wr => ∃ k : Nat, i = .int .i64 k ∧ k ≤ m ∧ Hid (J (ls.take k).flatten wr ∧ KpD d W.heap.size W wr)) (fun _ _ i _ _ => m - (match i with | .int _ k => k.toNat | _ => 0))
  case atStart => exact ⟨0, rfl, Nat.zero_le _, Lib.hid ⟨by simpa using H0.out, KpD.refl _ _ _⟩⟩
  case round =>
    obtain ⟨k, rfl, hk, HH⟩ := hrel
    by_cases hkm : k < m
    · have hkk : (k : Int) < m := by omega
      have k0 : (0 : Int) ≤ (k : Int) := by omega
      obtain ⟨b, o, x, B, cb, rfl, hx, hb, hc1, hrow⟩ := HRW.out.at_ (i := k) (by rw [← HM.out]; exact hkm)
      have e1 : wr.cell? ⟨b, o + k, none⟩ = some (.slice B x.length cb) := KpD.rows HRW.out HWW.out HWW.out.size hd HH.out.2 ⟨b, o + k, none⟩ hb _ hc1
      obtain ⟨r, hrl⟩ : ∃ r, r = x.length := ⟨_, rfl⟩
      have hrx : r ≤ 9223372036854775807 := by rw [hrl]; exact Nat.le_trans hrow.room hrow.most
      rw [← hrl] at e1
      have HX := Lib.hid hx
      have HHT := Lib.hid hrow
      have HRL := Lib.hid hrl
      have HFT := Lib.hid (flatten_take hx)
      clear hx hc1 hrow hrl hb
      gi_wp2
      gi_loopw [6, 15] (fun _ i ws => ∃ j : Nat, i = .int .i64 j ∧ j ≤ r ∧ Hid (J ((ls.take k).flatten ++ x.take j) ws ∧ KpD d W.heap.size W ws)) (fun _ i _ => r - (match i with | .int _ k => k.toNat | _ => 0))
      case atStart => exact ⟨0, rfl, Nat.zero_le _, Lib.hid ⟨by simpa using HH.out.1, HH.out.2⟩⟩
      case round =>
        obtain ⟨j, rfl, hj, HI⟩ := hrel
        by_cases hjr : j < r
        · have hjj : (j : Int) < r := by omega
          have j0 : (0 : Int) ≤ (j : Int) := by omega
          obtain ⟨b2, o2, rfl, hb2, hc2, hc3⟩ := HHT.out.at_ (j := j) (by rw [← HRL.out]; exact hjr)
          have e2 : wr.cell? ⟨b2, o2 + j * 2, none⟩ = some _ := KpD.rows HRW.out HWW.out HWW.out.size hd HI.out.2 ⟨b2, o2 + j * 2, none⟩ hb2 _ hc2
          have e3 : wr.cell? ⟨b2, o2 + j * 2 + 1, none⟩ = some _ := KpD.rows HRW.out HWW.out HWW.out.size hd HI.out.2 ⟨b2, o2 + j * 2 + 1, none⟩ hb2 _ hc3
          have hxj : x[j]? = some (x.getD j z2) := by
            rw [List.getD_eq_getElem?_getD, List.getElem?_eq_getElem (by rw [← HRL.out]; exact hjr)]; rfl
          have hst : (ls.take k).flatten ++ x.take j ++ [x.getD j z2] = (ls.take k).flatten ++ x.take (j + 1) := by rw [List.take_add_one, hxj, List.append_assoc]; rfl
          generalize x.getD j z2 = y at *
          obtain ⟨y1, y2⟩ := y
          dsimp only at e2 e3 hst
          have hba1 : Below wr.heap.size wr (wr.alloc (.cells #[.int .u64 y1, .int .u64 y2] 57)) := (Below.refl _ _).alloc (Nat.le_refl _) _
          obtain ⟨fn, tmps, assign, body, hy, hR⟩ := HY.out ((ls.take k).flatten ++ x.take j) (y1, y2) (wr.alloc (.cells #[.int .u64 y1, .int .u64 y2] 57)) (HJ.out _ wr _ HI.out.1 (Turn.of_below (hba1.mono (Nat.le_refl _)))) (Nat.le_trans HI.out.2.size hba1.size) trivial trivial
          rw [hst] at hR
          have HK := Lib.hid (HI.out.2.trans (KpD.below (d := d) (B := W.heap.size) hba1))
          have HR := Lib.hid hR
          unfold encH at hy
          dsimp only at hy
          clear hR hst hc2 hc3 hb2 hxj hba1
          gi_wp2
          refine HR.out.mono ?_
          rintro e W3 (⟨rfl, hJ3, hk3⟩ | ⟨rfl, hJx3⟩)
          · have HH3 := Lib.hid (And.intro hJ3 (HK.out.trans hk3))
            clear hJ3 hk3
            gi_wp2
            go_roundw
            case rel => exact ⟨j + 1, by simp, by omega, HH3⟩
            case measure => simp; omega
          · have HX3 := Lib.hid hJx3
            clear hJx3
            gi_wp2
            refine bodyPost_ret (results_none rfl _ _ _) rfl ?_
            exact ⟨⟨_, rfl⟩, .inr ⟨_, trivial, HX3.out⟩⟩
        · obtain rfl : j = r := by omega
          have HF := Lib.hid (show J (ls.take (k + 1)).flatten wr ∧ KpD d W.heap.size W wr by
            rw [HFT.out]
            have := HI.out
            rw [List.take_of_length_le (Nat.le_of_eq HRL.out.symm)] at this
            exact this)
          gi_wp2
          go_roundw
          case rel => exact ⟨k + 1, by simp, by omega, HF⟩
          case measure => simp; omega
    · obtain rfl : k = m := by omega
      have HF := Lib.hid (show J ls.flatten wr by have := HH.out.1; rw [List.take_of_length_le (Nat.le_of_eq HM.out.symm)] at this; exact this)
      gi_wp2
      go_end0
      exact ⟨⟨_, rfl⟩, .inl ⟨_, rfl, HF.out⟩⟩

end TopL
end Go.Proofs.YtcekgllahlhaaaaGreatDoor

namespace Go.Proofs.YtcekgllahlhaaaaGreatDoor
namespace TopL
open Go.RowKit Go.Shelf
set_option linter.unusedVariables false
set_option linter.unusedSimpArgs false
set_option maxRecDepth 100000
attribute [local go_sem] Oper.semAt_some

theorem put_other {W : World} {k i : Nat} {o o' o2 : Obj} (h : W.heap[k]? = some o) (ho : o.isCells = false) (hi : W.heap[i]? = some o2) (h2 : o2.isCells = true) : (W.putObj k o').heap[i]? = some o2 := by
  rw [World.putObj_heap_other (fun e => ?_)]
  · exact hi
  · subst e; rw [h] at hi; cases hi; rw [ho] at h2; cases h2
theorem below_put {W : World} {k : Nat} {o : Obj} {B : Nat} (hk : B ≤ k) (hB : B ≤ W.heap.size) : Below B W (W.putObj k o) :=
  ⟨rfl, rfl, rfl, by simp [World.putObj], fun i hi => World.putObj_heap_other (by omega)⟩
theorem turn_put (W : World) (k : Nat) (o : Obj) : Turn (fun i => i = k) W (W.putObj k o) := ⟨rfl, rfl, rfl, by simp [World.putObj], fun i _ hn => World.putObj_heap_other hn⟩
theorem Keep.isCells {w : World} {K : Nat} {A : Option Addr} {c : Nat} {l : List HitM} {k : Int} (h : Keep w K A c l k) {i : Nat} (hi : own K A i) : ∃ o, w.heap[i]? = some o ∧ o.isCells = true := by
  rcases hi with rfl | hi
  · exact ⟨_, h.head, rfl⟩
  · rcases h.row.2 with ⟨e, h0⟩ | ⟨g, cap, cur, e, hg, hh, _⟩
    · injection e with e1; subst e1; cases hi
    · injection e with e1; subst e1
      have : g = i := by simpa [blk] using hi
      subst this
      exact ⟨_, hh, rfl⟩
theorem Keep.put {W : World} {K : Nat} {A : Option Addr} {c : Nat} {l : List HitM} {q : Int} (h : Keep W K A c l q) {k : Nat} {o : Obj} (o' : Obj) (hk : W.heap[k]? = some o) (ho : o.isCells = false) : Keep (W.putObj k o') K A c l q := by
  have hne : ∀ i, own K A i → ¬ i = k := fun i hi e => by
    subst e
    obtain ⟨o2, h2, h3⟩ := h.isCells hi
    rw [hk] at h2; cases h2; rw [ho] at h3; cases h3
  exact h.turn (turn_put W k o') (hne K (.inl rfl)) (fun i hi => hne i (.inr hi))
theorem keeps_turn {B0 : Nat} {S : Nat → Prop} {W W' : World} (h : Turn S W W') (hc : ∀ i, S i → ∃ o, W.heap[i]? = some o ∧ o.isCells = true) : KeepsFrom B0 W W' :=
  ⟨h.size, fun k o _ hk ho => (h.block k (lt_of_block hk) (fun e => by obtain ⟨o2, h2, h3⟩ := hc k e; rw [hk] at h2; cases h2; rw [ho] at h3; cases h3)).trans hk⟩
theorem kpd_turn {d B : Nat} {S : Nat → Prop} {W W' : World} (h : Turn S W W') (hS : ∀ i, S i → i = d ∨ B ≤ i) : KpD d B W W' :=
  ⟨h.size, fun k o hk hd ho _ => (h.block k (lt_of_block ho) (fun e => (hS k e).elim hd (fun e => by omega))).trans ho⟩

def letF (K : Nat) : Value := .func (.func 138) #[] #[.pointer (some ⟨K, 0, none⟩)]
def FiI (w : World) (kk : Nat) (pre : List HitM) (W : World) : Prop :=
  ∃ A c l, Keep W w.heap.size A c l kk ∧ Heap l.length l ∧ l.Perm (firstM kk pre) ∧ (∀ i, blk A = some i → w.heap.size + 5 ≤ i) ∧ Boxed W (w.heap.size + 1) 197 (letF w.heap.size) ∧ Below w.heap.size w W
theorem FiI.put {w W : World} {kk : Nat} {pre : List HitM} (h : FiI w kk pre W) {k : Nat} {o : Obj} (o' : Obj) (hk0 : w.heap.size ≤ k) (hk : W.heap[k]? = some o) (ho : o.isCells = false) : FiI w kk pre (W.putObj k o') := by
  obtain ⟨A, c, l, h1, h2, h3, h4, h5, h6⟩ := h
  exact ⟨A, c, l, h1.put o' hk ho, h2, h3, h4, put_other hk ho h5 rfl, h6.trans (below_put hk0 h6.size)⟩
theorem FiI.below {w W W' : World} {kk : Nat} {pre : List HitM} (h : FiI w kk pre W) (hb : Below W.heap.size W W') : FiI w kk pre W' := by
  obtain ⟨A, c, l, h1, h2, h3, h4, h5, h6⟩ := h
  exact ⟨A, c, l, h1.below hb, h2, h3, h4, (hb.block _ h5.lt).trans h5, h6.trans (hb.mono h6.size)⟩

set_option maxHeartbeats 4000000 in
theorem firstOf_any (A : Option Addr) (c kk : Nat) (ls : List (List HitM)) (w : World) (h : Rows w A c ls) (h1 : 1 ≤ kk) (hkk : kk ≤ 1000) :
    Calls Tryz.prog 132 #[.int .i64 kk, .slice A ls.length c] w fun e w' => ∃ B cb, e = .returned (.slice B (firstM kk ls.flatten).length cb) ∧ w'.ownsRow w.heap.size 57 2 (.slice B (firstM kk ls.flatten).length cb) (firstM kk ls.flatten).length (flat (firstM kk ls.flatten)) ∧ Below w.heap.size w w' := by
  refine (callsIn_wide (n := 3)).1 ?_
  refine callsIn_of_wp_marks Tryz.func132 rfl trivial ?_ rfl
  simp only [Tryz.ntmps132, List.size_toArray, List.length_cons, List.length_nil, Nat.reduceAdd, Nat.reduceSub, Array.replicate_succ, Array.replicate_zero, List.push_toArray, List.append_toArray, List.nil_append, List.cons_append]
  have HR := Lib.hid h
  obtain ⟨n, hn⟩ : ∃ n, n = ls.length := ⟨_, rfl⟩
  have HN := Lib.hid hn
  rw [← hn]
  obtain ⟨R, hR⟩ : ∃ R, R = firstM kk ls.flatten := ⟨_, rfl⟩
  have HRR := Lib.hid hR
  rw [← hR]
  clear h hn hR
  obtain ⟨W1, hW1⟩ : ∃ W1, W1 = w.alloc (.cells #[.slice none 0 0, .int .i64 kk] 193) := ⟨_, rfl⟩
  have hz1 : W1.heap.size = w.heap.size + 1 := by rw [hW1]; simp
  have hb1 : Below w.heap.size w W1 := by rw [hW1]; exact (Below.refl _ w).alloc (Nat.le_refl _) _
  have hK1 : W1.heap[w.heap.size]? = some (.cells #[.slice none 0 0, .int .i64 kk] 193 (0, 0)) := by rw [hW1]; exact heap_alloc_new _ _
  have hF : (W1.alloc (.cells #[.nilFunc] 197)).heap[w.heap.size + 1]? = some (.cells #[.nilFunc] 197 (0, 0)) := by rw [← hz1]; exact heap_alloc_new _ _
  have q1 : (W1.alloc (.cells #[.nilFunc] 197)).cell? ⟨w.heap.size + 1, 0, none⟩ = some .nilFunc := (cell_of_row _ _ _ _ _ _ hF).trans rfl
  have q2 : (W1.alloc (.cells #[.nilFunc] 197)).frozen? ⟨w.heap.size + 1, 0, none⟩ = false := frozen_of_row _ _ _ _ _ hF
  obtain ⟨W2, hW2⟩ : ∃ W2, W2 = (W1.alloc (.cells #[.nilFunc] 197)).setCell ⟨w.heap.size + 1, 0, none⟩ (letF w.heap.size) := ⟨_, rfl⟩
  have hz2 : W2.heap.size = w.heap.size + 2 := by rw [hW2]; simp [World.setCell, hz1]
  have hF2 : Boxed W2 (w.heap.size + 1) 197 (letF w.heap.size) := by rw [hW2]; exact heap_setCell_same _ _ 0 _ _ _ hF
  have hb2 : Below w.heap.size w W2 := by rw [hW2]; exact (hb1.alloc hb1.size _).setCell (by simp) _
  have hK2 : W2.heap[w.heap.size]? = some (.cells #[.slice none 0 0, .int .i64 kk] 193 (0, 0)) := by
    rw [hW2]; exact (Below.heap_setCell _ _ _ _ (by simp)).trans ((Below.heap_alloc _ _ _ (by omega)).trans hK1)
  obtain ⟨W0, hW0⟩ : ∃ W0, W0 = W2.alloc (.cells #[.slice A n c] 182) := ⟨_, rfl⟩
  have hz0 : W0.heap.size = w.heap.size + 3 := by rw [hW0]; simp [hz2]
  have hF0 : Boxed W0 (w.heap.size + 1) 197 (letF w.heap.size) := by rw [hW0]; exact hF2.alloc _
  have hb0 : Below w.heap.size w W0 := by rw [hW0]; exact hb2.alloc hb2.size _
  have hK0 : W0.heap[w.heap.size]? = some (.cells #[.slice none 0 0, .int .i64 kk] 193 (0, 0)) := by rw [hW0]; exact (Below.heap_alloc _ _ _ (by omega)).trans hK2
  have hB0 : W0.cell? ⟨w.heap.size + 2, 0, none⟩ = some (.slice A n c) := by rw [hW0, ← hz2]; exact cell_laid _ _ _ 0
  have HS := Lib.hid (And.intro hF0 (And.intro hb0 (And.intro hK0 (And.intro hB0 hz0))))
  have HW0 := Lib.hid hW0
  have HW1 := Lib.hid hW1
  have HW2 := Lib.hid hW2
  unfold letF at HW2
  clear hb1 hK1 hF hF2 hb2 hK2 hF0 hb0 hK0 hB0 hW0 hW1 hW2
  have HZ1 := Lib.hid hz1
  have HZ2 := Lib.hid hz2
  clear hz0 hz1 hz2
  have hst : (store ⟨w.heap.size + 1, 0, none⟩ (.func (.func 138) #[] #[.pointer (some ⟨w.heap.size, 0, none⟩)])).run Tryz.prog ((w.alloc (.cells #[.slice none 0 0, .int .i64 kk] 193)).alloc (.cells #[.nilFunc] 197)) = .ok () W2 := by
    rw [← HW1.out, run_store _ _ _ _ _ rfl, HW2.out]
    rw [q1, q2]
    rfl
  clear q1 q2
  gi_wp2_with (refine ⟨trivial, ?_⟩; gi_at_call 142; refine (callsIn_wide.2 (together_any _ _ _ _)).mono ?_; rintro e w' ⟨rfl, rfl⟩)
  rw [← HW0.out]
  clear hst
  obtain ⟨hF0, hb0, hK0, hB0, hz0⟩ := HS.out
  have hseq := together1_in (w := W0) (w0 := w) (A := A) (c := c) (ls := ls) 2 w.heap.size (w.heap.size + 2) (by omega) (by rw [← HN.out]; exact hB0) HR.out hb0 (by omega) (Nat.le_refl _)
  rw [HZ2.out]
  refine range_box rfl (by omega) (gf := 146) (lb := #[.pointer (some ⟨w.heap.size + 2, 0, none⟩)]) rfl trivial (enters_of Tryz.func146 (by kernel_rfl) rfl) hseq
    (fun W k h => h.elim) KpD.trans (fun B W k o o' _ hk ho => KpD.put hk ho) (fun _ => rfl) (fun x => .cells #[.int .u64 x.1, .int .u64 x.2] 57) (fun _ => rfl) (fun B W o => KpD.below ((Below.refl _ W).alloc (Nat.le_refl _) _)) (fun _ _ _ _ _ => trivial) (fun _ _ _ _ _ _ _ _ _ => trivial)
    (FiI w kk) (fun _ _ _ => False) ?io ?ixo ?ip ?ixp ?h0
    (fun x g => { tmps := #[.int .i64 kk, .slice A n c, undef, undef, .slice none 0 0, .pointer (some ⟨w.heap.size, 0, none⟩), .pointer (some ⟨w.heap.size + 1, 0, none⟩), .pointer (some ⟨g, 0, none⟩), .int .i64 kk,
      .agg #[.slice none 0 0, .int .i64 kk], letF w.heap.size, .slice A n c, .func (.func 146) #[] #[.pointer (some ⟨w.heap.size + 2, 0, none⟩)], .agg #[.int .u64 x.1, .int .u64 x.2], undef, undef, undef, undef, undef, undef], defers := [] }) ?assign ?body ?done ?stop
  case io => exact fun s X Y h ht => h.below (Turn.below ht (Nat.le_refl _) (fun i e => e.2.elim))
  case ixo => exact fun _ _ _ _ h _ => h
  case ip => exact fun s X k o o' h hk ho hc => h.put o' (by omega) ho hc
  case ixp => exact fun _ _ _ _ _ _ h _ _ _ => h
  case h0 =>
    intro W hb _
    exact FiI.below (W := W0) ⟨none, 0, [], ⟨hK0, World.ownsRow_nil _ _ _ _⟩, heap_few (by simp) _, by simp [firstM, sortM], (fun i e => by cases e), hF0, hb0⟩ hb
  case assign =>
    intro l x W K hK
    dsimp only [encH]
    gi_wp2
    exact hK
  case body =>
    rintro l pre x g W ⟨A1, c1, q, hk, hh, hp, hbk, hbx, hbl⟩ hsz hgg hg _ _
    have g0 : W.cell? ⟨g, 0, none⟩ = some (.int .u64 x.1) := (cell_of_row _ _ _ _ _ _ hg).trans rfl
    have g1 : W.cell? ⟨g, 1, none⟩ = some (.int .u64 x.2) := (cell_of_row _ _ _ _ _ _ hg).trans rfl
    have hc := hbx.cell
    unfold letF at hc
    have hql : q.length ≤ kk := by rw [hp.length_eq, first_length]; omega
    rw [hz0] at hsz hgg ⊢
    have fin : ∀ (V w2 : World) (A2 : Option Addr) (c2 : Nat) (p : List HitM), Below W.heap.size W V → Turn (own w.heap.size A1) V w2 → Keep w2 w.heap.size A2 c2 p kk → Heap p.length p → p.Perm (firstM kk (pre ++ [x])) → (∀ i, blk A2 = some i → blk A1 = some i ∨ V.heap.size ≤ i) →
        roundOwn (w.heap.size + 3) (w.heap.size + 3 + 2) (KpD w.heap.size) (FiI w kk) (fun _ _ _ => False) (pre ++ [x]) W .normal { tmps := #[], defers := [] } w2 := by
      intro V w2 A2 c2 p hb ht hk2 hh2 hp2 hb2
      have htt : Turn (own w.heap.size A1) W w2 := (Turn.of_below (S := own w.heap.size A1) hb).trans ht (fun i hi => .inl hi)
      refine ⟨keeps_turn htt (fun i hi => hk.isCells hi), kpd_turn htt (fun i hi => hi.elim .inl (fun e => .inr (by have := hbk i e; omega))), A2, c2, p, hk2, hh2, hp2, ?_, ?_, ?_⟩
      · intro i hi
        rcases hb2 i hi with h | h
        · exact hbk i h
        · have := hb.size; omega
      · refine (htt.block _ hbx.lt ?_).trans hbx
        rintro (h | h)
        · omega
        · have := hbk _ h; omega
      · refine hbl.trans (htt.below hbl.size ?_)
        rintro i (h | h)
        · omega
        · have := hbk _ h; omega
    have FIN := Lib.hid fin
    have HK := Lib.hid hk
    have HH := Lib.hid hh
    have HP := Lib.hid hp
    by_cases hlt : q.length < kk
    · have HL := Lib.hid (let_room w.heap.size A1 c1 kk q x W hk hlt)
      have HPR := Lib.hid (first_room (h := x) hp hlt)
      have HT := Lib.hid (fun (V : World) (hV : Below W.heap.size W V) => take_room w.heap.size A1 c1 kk q x V (hk.below hV) hh (by omega) hlt)
      obtain ⟨x1, x2⟩ := x
      dsimp only at *
      clear fin hk hh hp hbk hbx hbl hg hql hlt
      gi_wp2_with (refine ⟨trivial, ?_⟩; gi_at_call 138; refine (callsIn_wide.2 HL.out).mono ?_; rintro e w1 ⟨rfl, hb1⟩; have e0 := (hb1.cell (p := ⟨g, 0, none⟩) (World.block_lt_of_cell? W _ g0)).trans g0; have e1 := (hb1.cell (p := ⟨g, 1, none⟩) (World.block_lt_of_cell? W _ g1)).trans g1; have HT1 := Lib.hid (HT.out w1 hb1); have HB1 := Lib.hid hb1; clear hb1)
      refine ⟨trivial, ?_⟩
      refine (callsIn_wide.2 HT1.out).mono ?_
      rintro e w2 ⟨rfl, A2, c2, p, hp2, hh2, hk2, hb2, ht2⟩
      have HX := Lib.hid (FIN.out w1 w2 A2 c2 p HB1.out ht2 hk2 hh2 (hp2.trans HPR.out) hb2)
      clear hp2 hh2 hk2 hb2 ht2
      gi_wp2
      exact HX.out
    · have hqe : q.length = kk := by omega
      obtain ⟨r, q', rfl⟩ : ∃ r q', q = r :: q' := by
        cases q with
        | nil => simp at hqe; omega
        | cons r q' => exact ⟨r, q', rfl⟩
      have hmx : ∀ y ∈ r :: q', ahead r y = false := hh.most
      have HL := Lib.hid (let_full w.heap.size A1 c1 kk (r :: q') x W hk hqe (by omega))
      have hr0 : (r :: q').getD 0 z2 = r := rfl
      rw [hr0] at HL
      cases hax : ahead x r with
      | true =>
        rw [hax] at HL
        have HPR := Lib.hid (first_in hp hqe hmx hax)
        have HT := Lib.hid (fun (V : World) (hV : Below W.heap.size W V) => take_full w.heap.size A1 c1 kk (r :: q') x V (hk.below hV) hh (by omega) hqe (by omega))
        have hs0 : (r :: q').set 0 x = x :: q' := rfl
        rw [hs0] at HT
        obtain ⟨x1, x2⟩ := x
        dsimp only at *
        clear fin hk hh hp hbk hbx hbl hg hql hlt hqe hmx hax hr0 hs0
        gi_wp2_with (refine ⟨trivial, ?_⟩; gi_at_call 138; refine (callsIn_wide.2 HL.out).mono ?_; rintro e w1 ⟨rfl, hb1⟩; have e0 := (hb1.cell (p := ⟨g, 0, none⟩) (World.block_lt_of_cell? W _ g0)).trans g0; have e1 := (hb1.cell (p := ⟨g, 1, none⟩) (World.block_lt_of_cell? W _ g1)).trans g1; have HT1 := Lib.hid (HT.out w1 hb1); have HB1 := Lib.hid hb1; clear hb1)
        refine ⟨trivial, ?_⟩
        refine (callsIn_wide.2 HT1.out).mono ?_
        rintro e w2 ⟨rfl, A2, c2, p, hp2, hh2, hk2, hb2, ht2⟩
        have HX := Lib.hid (FIN.out w1 w2 A2 c2 p HB1.out ht2 hk2 hh2 (hp2.trans HPR.out) (fun i hi => (hb2 i hi).elim .inl .inr))
        clear hp2 hh2 hk2 hb2 ht2
        gi_wp2
        exact HX.out
      | false =>
        rw [hax] at HL
        have HPR := Lib.hid (first_out (h := x) hp hqe (fun y hy => ahead_trans hax (hmx y hy)))
        obtain ⟨x1, x2⟩ := x
        dsimp only at *
        clear fin hk hh hp hbk hbx hbl hg hql hlt hqe hmx hax hr0
        gi_wp2_with (refine ⟨trivial, ?_⟩; gi_at_call 138; refine (callsIn_wide.2 HL.out).mono ?_; rintro e w1 ⟨rfl, hb1⟩; have HB1 := Lib.hid hb1; clear hb1)
        exact FIN.out w1 w1 A1 c1 (r :: q') HB1.out (Turn.refl _ _) (HK.out.below HB1.out) HH.out HPR.out (fun i hi => .inl hi)
  case done =>
    rintro xs W rfl ⟨A1, c1, q, hk, hh, hp, hbk, hbx, hbl⟩ hK
    rw [hz0] at hK
    have hql : q.length ≤ kk := by rw [hp.length_eq, first_length]; omega
    have hs : sortM q = firstM kk ls.flatten := by rw [sort_of_perm hp, sort_self (first_srt _ _)]
    have hE := empty_any w.heap.size A1 c1 q kk W hk hh (by omega)
    rw [hs, ← HRR.out, show q.length = R.length by rw [hp.length_eq, HRR.out]] at hE
    have HE := Lib.hid hE
    have HX := Lib.hid (And.intro hk (And.intro hbk hbl))
    clear hE hk hh hp hbk hbx hbl hql hs
    gi_wp2_with (refine ⟨trivial, ?_⟩; gi_at_call 144; refine (callsIn_wide.2 HE.out).mono ?_; rintro e w2 ⟨B, cb, rfl, hro, htu⟩; have HRO := Lib.hid hro; have HTU := Lib.hid htu; clear hro htu)
    refine ⟨by simp, .inl ⟨_, _, rfl, run_takeDeferred ((HTU.out.block _ (lt_of_block hK) (fun e => by obtain ⟨o2, h2, h3⟩ := HX.out.1.isCells e; rw [hK] at h2; cases h2; cases h3)).trans hK), ?_⟩⟩
    refine ⟨_, results_tmp rfl _ _ _, B, cb, rfl, ?_, ?_⟩
    · refine row_turn (HRO.out.mono HX.out.2.2.size) (turn_put _ _ _) (fun i hi e => ?_)
      have := HRO.out.lt i hi
      have := lt_of_block hK
      omega
    · refine (HX.out.2.2.trans (HTU.out.below HX.out.2.2.size ?_)).trans (below_put (by omega) (Nat.le_trans HX.out.2.2.size HTU.out.size))
      rintro i (h | h)
      · omega
      · have := HX.out.2.1 i h; omega
  case stop => exact fun _ _ _ _ h _ => h.elim

end TopL
end Go.Proofs.YtcekgllahlhaaaaGreatDoor

namespace Go.Proofs.YtcekgllahlhaaaaGreatDoor
namespace TopL
open Go.RowKit Go.Shelf
set_option linter.unusedVariables false
set_option linter.unusedSimpArgs false
set_option maxRecDepth 100000

def isKM (k : Int) : Bool := decide (1 ≤ k) && decide (k ≤ 16)
theorem isK_any (k : Int) (w : World) : Calls Tryz.prog 113 #[.int .i64 k] w fun e w' => e = .returned (.bool (isKM k)) ∧ w = w' := by
  have HM := Lib.hid (show isKM k = (decide (1 ≤ k) && decide (k ≤ 16)) from rfl)
  generalize isKM k = R at *
  cases h1 : decide (1 ≤ k) with
  | false =>
    have HF := Lib.hid (show R = false by rw [HM.out, h1]; rfl)
    go_enter Tryz.func113, Tryz.ntmps113
    go_wp2
    go_ret
    rw [HF.out]
    exact ⟨rfl, rfl⟩
  | true =>
    cases h2 : decide (k ≤ 16) with
    | false =>
      have HF := Lib.hid (show R = false by rw [HM.out, h1, h2]; rfl)
      go_enter Tryz.func113, Tryz.ntmps113
      go_wp2
      go_ret
      rw [HF.out]
      exact ⟨by first | rfl | simp_all, rfl⟩
    | true =>
      have HF := Lib.hid (show R = true by rw [HM.out, h1, h2]; rfl)
      go_enter Tryz.func113, Tryz.ntmps113
      go_wp2
      go_ret
      rw [HF.out]
      exact ⟨by first | rfl | simp_all, rfl⟩
theorem isK_iff (k : Int) : isKM k = true ↔ 1 ≤ k ∧ k ≤ 16 := by unfold isKM; simp

theorem new_any (k : Int) (w : World) : Calls Tryz.prog 87 #[.int .i64 k] w fun e w' => e = .returned (.tuple #[.agg #[.int .i64 (if isKM k then k else 0), .slice none 0 0], .int .i64 (if isKM k then 0 else 2)]) ∧ Below w.heap.size w w' := by
  have HI := Lib.hid (fun V => isK_any k V)
  cases hk : isKM k with
  | false =>
    rw [hk] at HI
    go_enter Tryz.func87, Tryz.ntmps87
    go_wp2_with (go_at_call 113; refine (HI.out _).mono ?_; rintro e w' ⟨rfl, rfl⟩)
    exact bodyPost_ret (v := .tuple #[.agg #[.int .i64 0, .slice none 0 0], .int .i64 2]) (by simp [results, Tryz.results87, go_sem]) rfl ⟨rfl, (Below.refl _ w).alloc (Nat.le_refl _) _⟩
  | true =>
    rw [hk] at HI
    go_enter Tryz.func87, Tryz.ntmps87
    go_wp2_with (go_at_call 113; refine (HI.out _).mono ?_; rintro e w' ⟨rfl, rfl⟩)
    exact bodyPost_ret (v := .tuple #[.agg #[.int .i64 k, .slice none 0 0], .int .i64 0]) (by simp [results, Tryz.results87, go_sem]) rfl ⟨rfl, (Below.refl _ w).alloc (Nat.le_refl _) _⟩

/-! ### the same hits -/
theorem htake_snoc {a b : List HitM} {k : Nat} {x y : HitM} (h : a.take k = b.take k) (hx : a[k]? = some x) (hy : b[k]? = some y) (e : x = y) : a.take (k + 1) = b.take (k + 1) := by
  rw [List.take_add_one, List.take_add_one, h, hx, hy, e]
theorem hgetD_some {a : List HitM} {k : Nat} (h : k < a.length) : a[k]? = some (a.getD k z2) := by
  rw [List.getElem?_eq_getElem h]; simp [List.getD, List.getElem?_eq_getElem h]

set_option maxHeartbeats 1000000 in
theorem equal_any (A A' : Option Addr) (c c' : Nat) (a b : List HitM) (w : World) (ha : Hits w A c a) (hb : Hits w A' c' b) :
    Calls Tryz.prog 30 #[.slice A a.length c, .slice A' b.length c'] w fun e w' => e = .returned (.bool (decide (a = b))) ∧ Below w.heap.size w w' := by
  by_cases hl : b.length = a.length
  · obtain ⟨R, hR⟩ : ∃ R, R = decide (a = b) := ⟨_, rfl⟩
    rw [hl, ← hR]
    obtain ⟨m, hm⟩ : ∃ m, m = a.length := ⟨_, rfl⟩
    have hmx : m ≤ 9223372036854775807 := by rw [hm]; exact Nat.le_trans ha.room ha.most
    rw [← hm]
    have HA := Lib.hid ha
    have HB := Lib.hid hb
    have HM := Lib.hid hm
    have HL := Lib.hid hl
    have HR := Lib.hid hR
    clear ha hb hm hl hR
    go_enter Tryz.func30, Tryz.ntmps30
    go_wp2
    go_loopw [5, 13] (fun _ i wr => ∃ k q : Nat, k ≤ m ∧ i = .int .i64 k ∧ wr = w.drewN q ∧ Hid (a.take k = b.take k)) (fun _ i _ => m - (intOf i).toNat)
    case atStart => exact ⟨0, 0, Nat.zero_le _, rfl, rfl, Lib.hid rfl⟩
    case round =>
      obtain ⟨k, q, hk, rfl, rfl, HK⟩ := hrel
      by_cases hkm : k < m
      · obtain ⟨g1, o1, rfl, _, hc1, hc2⟩ := HA.out.at_ (j := k) (by rw [← HM.out]; exact hkm)
        obtain ⟨g2, o2, rfl, _, hc3, hc4⟩ := HB.out.at_ (j := k) (by rw [HL.out, ← HM.out]; exact hkm)
        have hx := hgetD_some (a := a) (k := k) (by rw [← HM.out]; exact hkm)
        have hy := hgetD_some (a := b) (k := k) (by rw [HL.out, ← HM.out]; exact hkm)
        have k0 : (0 : Int) ≤ k := by omega
        have km : (k : Int) < m := by omega
        generalize a.getD k z2 = x at *
        generalize b.getD k z2 = y at *
        by_cases hxy : x = y
        · have HS := Lib.hid (htake_snoc HK.out hx hy hxy)
          subst hxy
          obtain ⟨x1, x2⟩ := x
          dsimp only at *
          clear hx hy
          go_wp2
          go_quiet (fail)
          go_wp2
          go_roundw
          case rel => exact ⟨k + 1, q + nq, by omega, by go_num, by simp [World.drewN], HS⟩
          case measure => simp [intOf]; omega
        · have HF := Lib.hid (show R = false by rw [HR.out]; exact decide_eq_false (fun e => by subst e; rw [hx] at hy; cases hy; exact hxy rfl))
          obtain ⟨x1, x2⟩ := x
          obtain ⟨y1, y2⟩ := y
          dsimp only at *
          have hne : ¬ (x1 = y1 ∧ x2 = y2) := fun e => hxy (by rw [e.1, e.2])
          clear hx hy hxy
          by_cases h1 : x1 = y1
          · subst h1
            have u1 : (x2 == y2) = false := by simp at hne; simpa using hne
            clear hne
            go_wp2
            go_quiet (fail)
            go_wp2
            go_ret
            rw [HF.out]
            exact ⟨rfl, below_drewN (below_drewN (Below.refl _ _) _) _⟩
          · have u1 : (x1 == y1) = false := by simpa using h1
            clear hne h1
            go_wp2
            go_quiet (fail)
            go_wp2
            go_ret
            rw [HF.out]
            exact ⟨rfl, below_drewN (below_drewN (Below.refl _ _) _) _⟩
      · obtain rfl : k = m := by omega
        have HT := Lib.hid (show R = true by
          rw [HR.out]
          refine decide_eq_true ?_
          have := HK.out
          rw [HM.out, List.take_length, ← HL.out, List.take_length] at this
          exact this)
        go_wp2
        go_ret
        rw [HT.out]
        exact ⟨rfl, below_drewN (Below.refl _ _) _⟩
  · have HT := Lib.hid (show decide (a = b) = false from decide_eq_false (fun e => hl (by rw [e])))
    generalize decide (a = b) = R at *
    generalize a.length = n at *
    generalize b.length = m at *
    have t2 : ((n : Int) != (m : Int)) = true := by simp; omega
    have t3 : ((n : Int) == (m : Int)) = false := by simp; omega
    have t4 : (n == m) = false := by simp; omega
    clear hl ha hb
    go_enter Tryz.func30, Tryz.ntmps30
    go_wp2
    go_ret
    rw [HT.out]
    exact ⟨rfl, Below.refl _ _⟩

end TopL
end Go.Proofs.YtcekgllahlhaaaaGreatDoor

namespace Go.Proofs.YtcekgllahlhaaaaGreatDoor
namespace TopL
open Go.RowKit Go.Shelf
set_option linter.unusedVariables false
set_option linter.unusedSimpArgs false
set_option maxRecDepth 100000

theorem i64_fit {n : Int} (h : -9223372036854775808 ≤ n ∧ n < 9223372036854775808) : IntKind.i64.wrap n = n := by
  rw [IntKind.wrap_i64]; omega

def srtB (l : List HitM) : Bool := (List.range (l.length - 1)).all fun i => !ahead (l.getD (i + 1) z2) (l.getD i z2)
theorem srtB_iff (l : List HitM) : srtB l = true ↔ ∀ i, i + 1 < l.length → ahead (l.getD (i + 1) z2) (l.getD i z2) = false := by
  unfold srtB
  simp only [List.all_eq_true, List.mem_range, Bool.not_eq_true']
  exact ⟨fun h i hi => h i (by omega), fun h i hi => h i (by omega)⟩
theorem srtB_no {l : List HitM} {i : Nat} (hi : i + 1 < l.length) (h : ahead (l.getD (i + 1) z2) (l.getD i z2) = true) : srtB l = false := by
  rw [Bool.eq_false_iff]
  intro e
  have := (srtB_iff l).1 e i hi
  rw [this] at h; cases h
theorem srt_get {l : List HitM} (h : Srt l) {i j : Nat} (hij : i < j) (hj : j < l.length) : ahead (l.getD j z2) (l.getD i z2) = false := by
  have e1 : l.getD j z2 = l[j] := by simp [List.getD, hj]
  have e2 : l.getD i z2 = l[i] := by simp [List.getD, show i < l.length by omega]
  rw [e1, e2]
  exact List.pairwise_iff_getElem.1 h i j (by omega) hj hij
theorem srtB_srt {l : List HitM} (h : Srt l) : srtB l = true := (srtB_iff l).2 fun i hi => srt_get h (Nat.lt_succ_self i) hi

end TopL
end Go.Proofs.YtcekgllahlhaaaaGreatDoor

namespace Go.Proofs.YtcekgllahlhaaaaGreatDoor
namespace TopL
open Go.RowKit Go.Shelf
set_option linter.unusedVariables false
set_option linter.unusedSimpArgs false
set_option maxRecDepth 100000

/-- A selection that may be. -/
def topB (k : Int) (l : List HitM) : Bool := isKM k && decide ((l.length : Int) ≤ k) && srtB l
def topE (k : Int) (l : List HitM) : Int := if topB k l = true then 0 else 160
theorem topE_yes {k : Int} {l : List HitM} (h : topB k l = true) : topE k l = 0 := by unfold topE; rw [if_pos h]
theorem topE_no {k : Int} {l : List HitM} (h : topB k l = false) : topE k l = 160 := by unfold topE; rw [if_neg (by rw [h]; simp)]
theorem set2 {w : World} {g : Nat} {a b : Value} {t : TypeId} (h : w.heap[g]? = some (.cells #[a, b] t (0, 0))) (x y : Value) : ((w.setCell ⟨g, 0, none⟩ x).setCell ⟨g, 1, none⟩ y).heap[g]? = some (.cells #[x, y] t (0, 0)) := by
  have h1 := heap_setCell_same w g 0 _ _ x h
  have h2 := heap_setCell_same _ g 1 _ _ y h1
  exact h2
theorem box2 (w : World) (a b : Value) (t : TypeId) : (w.alloc (.cells #[a, b] t)).cell? ⟨w.heap.size, 0, none⟩ = some a ∧ (w.alloc (.cells #[a, b] t)).cell? ⟨w.heap.size, 1, none⟩ = some b := ⟨cell_laid _ _ _ 0, cell_laid _ _ _ 1⟩

/-- What Last answers: the last hit of one that is full. -/
def fullB (k : Int) (l : List HitM) : Bool := topB k l && decide ((l.length : Int) = k)
def lastM (k : Int) (l : List HitM) : HitM := if fullB k l = true then l.getD (l.length - 1) z2 else z2
theorem topB_k {k : Int} {l : List HitM} (h : topB k l = true) : 1 ≤ k ∧ k ≤ 16 ∧ (l.length : Int) ≤ k ∧ srtB l = true := by
  unfold topB at h
  simp only [Bool.and_eq_true, decide_eq_true_eq] at h
  exact ⟨((isK_iff k).1 h.1.1).1, ((isK_iff k).1 h.1.1).2, h.1.2, h.2⟩

def sumL (ls : List (List HitM)) : Nat := ls.flatten.length
theorem sumL_snoc {ls : List (List HitM)} {k : Nat} {x : List HitM} (h : ls[k]? = some x) : sumL (ls.take (k + 1)) = sumL (ls.take k) + x.length := by
  unfold sumL; rw [flatten_take h, List.length_append]
theorem sumL_le (ls : List (List HitM)) (k : Nat) : sumL (ls.take k) ≤ sumL ls := by
  have h : ls.flatten = (ls.take k).flatten ++ (ls.drop k).flatten := by rw [← List.flatten_append, List.take_append_drop]
  unfold sumL
  rw [h, List.length_append]
  omega

set_option maxHeartbeats 1000000 in
theorem tooMany_any (A : Option Addr) (c : Nat) (ls : List (List HitM)) (w : World) (h : Rows w A c ls) (hb : sumL ls ≤ 1000000000) :
    Calls Tryz.prog 131 #[.slice A ls.length c] w fun e w' => e = .returned (.bool (decide (2000 < sumL ls))) ∧ w = w' := by
  obtain ⟨n, hn⟩ : ∃ n, n = ls.length := ⟨_, rfl⟩
  have hmost := h.most
  have hroom := h.room
  have HV := Lib.hid h
  have HN := Lib.hid hn
  have HS := Lib.hid (sumL_le ls)
  have HSS := Lib.hid (fun (k : Nat) (x : List HitM) (hx : ls[k]? = some x) => sumL_snoc hx)
  have HF := Lib.hid (show sumL (ls.take n) = sumL ls by rw [hn, List.take_length])
  have H0 := Lib.hid (show sumL (ls.take 0) = 0 from rfl)
  rw [← hn] at hroom ⊢
  clear h hn
  obtain ⟨R, hR⟩ : ∃ R, R = decide (2000 < sumL ls) := ⟨_, rfl⟩
  rw [← hR]
  have HR := Lib.hid hR
  clear hR
  go_enter Tryz.func131, Tryz.ntmps131
  go_wp2
  go_loop [3, 5, 8] (fun s _ i => ∃ k : Nat, k ≤ n ∧ i = .int .i64 k ∧ s = .int .i64 (sumL (ls.take k))) (fun _ _ i => n - (intOf i).toNat)
  case atStart => exact ⟨0, Nat.zero_le _, rfl, rfl⟩
  case round =>
    obtain ⟨k, hk, rfl, rfl⟩ := hrel
    by_cases hkn : k < n
    · obtain ⟨b, o, x, B, cb, rfl, hx, hb2, hcell, hrow⟩ := HV.out.at_ (i := k) (by rw [← HN.out]; exact hkn)
      have HX := Lib.hid (HSS.out k x hx)
      have h1 := HS.out (k + 1)
      rw [HX.out] at h1
      generalize sumL (ls.take k) = s at *
      generalize x.length = xl at *
      have s0 : (s : Int) + (xl : Int) ≤ 1000000000 := by omega
      clear hx hrow
      go_wp2
      go_round
      case rel => exact ⟨k + 1, by omega, by go_num, by rw [HX.out]; go_num⟩
      case measure => simp [intOf]; omega
    · obtain rfl : k = n := by omega
      have e : R = decide ((2000 : Int) < (sumL (ls.take k) : Int)) := by rw [HR.out, ← HF.out, Bool.eq_iff_iff]; simp; omega
      have HE := Lib.hid e
      clear e
      go_wp2
      go_ret
      rw [HE.out]
      exact ⟨rfl, rfl⟩

end TopL
end Go.Proofs.YtcekgllahlhaaaaGreatDoor

namespace Go.Proofs.YtcekgllahlhaaaaGreatDoor
namespace TopL
open Go.RowKit Go.Shelf
set_option linter.unusedVariables false
set_option linter.unusedSimpArgs false
set_option maxRecDepth 100000

def mergeE (k : Int) (ls : List (List HitM)) : Int := if isKM k = true then (if 2000 < sumL ls then 3 else 0) else 2
def mergeL (k : Int) (ls : List (List HitM)) : List HitM := if mergeE k ls = 0 then firstM k.toNat ls.flatten else []
theorem merge_bad {k : Int} {ls : List (List HitM)} (h : isKM k = false) : mergeE k ls = 2 ∧ mergeL k ls = [] := by
  have e : mergeE k ls = 2 := by unfold mergeE; rw [if_neg (by rw [h]; simp)]
  exact ⟨e, by unfold mergeL; rw [e]; rfl⟩
theorem merge_long {k : Int} {ls : List (List HitM)} (h : isKM k = true) (h2 : 2000 < sumL ls) : mergeE k ls = 3 ∧ mergeL k ls = [] := by
  have e : mergeE k ls = 3 := by unfold mergeE; rw [if_pos h, if_pos h2]
  exact ⟨e, by unfold mergeL; rw [e]; rfl⟩
theorem merge_ok {k : Int} {ls : List (List HitM)} (h : isKM k = true) (h2 : ¬ 2000 < sumL ls) : mergeE k ls = 0 ∧ mergeL k ls = firstM k.toNat ls.flatten := by
  have e : mergeE k ls = 0 := by unfold mergeE; rw [if_pos h, if_neg h2]
  exact ⟨e, by unfold mergeL; rw [e]; rfl⟩
/-- What an answer is: hits in memory of their own, and an error. -/
def Ans (w : World) (e : Ending) (w' : World) (L : List HitM) (E : Int) : Prop :=
  ∃ B cb, e = .returned (.tuple #[.slice B L.length cb, .int .i64 E]) ∧ w'.ownsRow w.heap.size 57 2 (.slice B L.length cb) L.length (flat L) ∧ Below w.heap.size w w'
theorem ans_nil {w w' : World} {E : Int} (hb : Below w.heap.size w w') : Ans w (.returned (.tuple #[.slice none 0 0, .int .i64 E])) w' [] E := ⟨none, 0, rfl, World.ownsRow_nil _ _ _ _, hb⟩

set_option maxHeartbeats 1000000 in
theorem merge_any (k : Int) (A : Option Addr) (c : Nat) (ls : List (List HitM)) (w : World) (h : Rows w A c ls) (hb : sumL ls ≤ 1000000000) :
    Calls Tryz.prog 114 #[.int .i64 k, .slice A ls.length c] w fun e w' => Ans w e w' (mergeL k ls) (mergeE k ls) := by
  have HI := Lib.hid (fun V => isK_any k V)
  have HT := Lib.hid (tooMany_any A c ls w h hb)
  cases hk : isKM k with
  | false =>
    obtain ⟨h1, h2⟩ := merge_bad (ls := ls) hk
    rw [h1, h2]
    rw [hk] at HI
    generalize ls.length = n at *
    clear h hb HT hk h1 h2
    go_enter Tryz.func114, Tryz.ntmps114
    go_wp2_with (go_at_call 113; refine (HI.out _).mono ?_; rintro e w' ⟨rfl, rfl⟩)
    go_ret2
    exact ans_nil (Below.refl _ _)
  | true =>
    have hk2 := (isK_iff k).1 hk
    by_cases hm : 2000 < sumL ls
    · obtain ⟨h1, h2⟩ := merge_long hk hm
      rw [h1, h2]
      rw [hk] at HI
      rw [decide_eq_true hm] at HT
      generalize ls.length = n at *
      clear h hb hk h1 h2 hm hk2
      go_enter Tryz.func114, Tryz.ntmps114
      go_wp2_with (first | (go_at_call 113; refine (HI.out _).mono ?_; rintro e w' ⟨rfl, rfl⟩) | (go_at_call 131; refine HT.out.mono ?_; rintro e w' ⟨rfl, rfl⟩))
      go_ret2
      exact ans_nil (Below.refl _ _)
    · obtain ⟨h1, h2⟩ := merge_ok hk hm
      obtain ⟨kk, rfl⟩ : ∃ kk : Nat, k = kk := ⟨k.toNat, by omega⟩
      rw [Int.toNat_natCast] at h2
      have HF := Lib.hid (firstOf_any A c kk ls w h (by omega) (by omega))
      rw [h1, h2]
      rw [hk] at HI
      rw [decide_eq_false hm] at HT
      generalize firstM kk ls.flatten = R at *
      generalize ls.length = n at *
      clear h hb hk h1 h2 hm hk2
      go_enter Tryz.func114, Tryz.ntmps114
      go_wp2_with (first | (go_at_call 113; refine (HI.out _).mono ?_; rintro e w' ⟨rfl, rfl⟩) | (go_at_call 131; refine HT.out.mono ?_; rintro e w' ⟨rfl, rfl⟩))
      refine HF.out.mono ?_
      rintro e w1 ⟨B, cb, rfl, hr, hb1⟩
      have HX := Lib.hid (And.intro hr hb1)
      clear hr hb1
      go_wp2
      go_ret2
      exact ⟨B, cb, rfl, HX.out.1, HX.out.2⟩

theorem rows_one {w W : World} {g cb : Nat} {B : Option Addr} {x : List HitM} (hc : W.cell? ⟨g, 0, none⟩ = some (.slice B x.length cb)) (hx : Hits W B cb x) : Rows W (some ⟨g, 0, none⟩) 1 [x] :=
  ⟨by simp, by omega, fun _ => ⟨g, 0, rfl, World.block_lt_of_cell? W _ hc, fun i y hy => by
    cases i with
    | zero => simp at hy; subst hy; exact ⟨B, cb, hc, hx⟩
    | succ i => simp at hy⟩⟩
theorem rows_two {W : World} {g cb cb' : Nat} {B B' : Option Addr} {x x' : List HitM} (hc : W.cell? ⟨g, 0, none⟩ = some (.slice B x.length cb)) (hc' : W.cell? ⟨g, 1, none⟩ = some (.slice B' x'.length cb')) (hx : Hits W B cb x) (hx' : Hits W B' cb' x') : Rows W (some ⟨g, 0, none⟩) 2 [x, x'] :=
  ⟨by simp, by omega, fun _ => ⟨g, 0, rfl, World.block_lt_of_cell? W _ hc, fun i y hy => by
    match i, hy with
    | 0, hy => simp at hy; subst hy; exact ⟨B, cb, hc, hx⟩
    | 1, hy => simp at hy; subst hy; exact ⟨B', cb', by simpa using hc', hx'⟩
    | i + 2, hy => simp at hy⟩⟩
theorem sumL_one (l : List HitM) : sumL [l] = l.length := by simp [sumL]

theorem first_any (k : Int) (A : Option Addr) (c : Nat) (l : List HitM) (w : World) (h : Hits w A c l) (hb : l.length ≤ 1000000000) :
    Calls Tryz.prog 90 #[.slice A l.length c, .int .i64 k] w fun e w' => Ans w e w' (mergeL k [l]) (mergeE k [l]) := by
  obtain ⟨W, hW⟩ : ∃ W, W = w.alloc (.cells #[.slice A l.length c] 42) := ⟨_, rfl⟩
  have hbw : Below w.heap.size w W := by rw [hW]; exact (Below.refl _ w).alloc (Nat.le_refl _) _
  have HM := Lib.hid (merge_any k (some ⟨w.heap.size, 0, none⟩) 1 [l] W (rows_one (w := w) (by rw [hW]; exact cell_laid _ _ _ 0) (h.below hbw)) (by rw [sumL_one]; exact hb))
  have HB := Lib.hid hbw
  have HW := Lib.hid hW
  generalize mergeL k [l] = L at *
  generalize mergeE k [l] = E at *
  generalize l.length = n at *
  clear h hb hbw hW
  go_enter Tryz.func90, Tryz.ntmps90
  go_wp2_with fail
  rw [← HW.out]
  refine HM.out.mono ?_
  rintro e w1 ⟨B, cb, rfl, hr, hb1⟩
  have HX := Lib.hid (And.intro (hr.mono HB.out.size) (HB.out.trans (hb1.mono HB.out.size)))
  clear hr hb1
  go_wp2
  go_ret2
  exact ⟨B, cb, rfl, HX.out.1, HX.out.2⟩

end TopL
end Go.Proofs.YtcekgllahlhaaaaGreatDoor
