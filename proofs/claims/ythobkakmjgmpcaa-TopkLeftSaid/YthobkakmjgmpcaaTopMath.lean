/-
  Hits as pairs (id, distance): which one stands ahead, rows in order, the first k, heaps. No program is named here.
-/
import Derived.Test.YthobkakmjgmpcaaVecBase
namespace Go.Proofs.Ythobkakmjgmpcaa
set_option linter.unusedVariables false
set_option linter.unusedSimpArgs false

abbrev HitM := Int × Int
def z2 : HitM := (0, 0)
def ahead (a b : HitM) : Bool := decide (a.2 < b.2) || (decide (a.2 = b.2) && decide (a.1 < b.1))

theorem ahead_irrefl (a : HitM) : ahead a a = false := by simp [ahead]
theorem ahead_iff {a b : HitM} : ahead a b = true ↔ a.2 < b.2 ∨ (a.2 = b.2 ∧ a.1 < b.1) := by simp [ahead]
theorem ahead_not {a b : HitM} : ahead a b = false ↔ b.2 < a.2 ∨ (a.2 = b.2 ∧ b.1 ≤ a.1) := by
  rw [Bool.eq_false_iff, Ne, ahead_iff]; omega
theorem ahead_asymm {a b : HitM} (h : ahead a b = true) : ahead b a = false := by rw [ahead_iff] at h; rw [ahead_not]; omega
theorem ahead_tri {a b : HitM} (h : ahead a b = false) (h' : ahead b a = false) : a = b := by
  rw [ahead_not] at h h'
  exact Prod.ext (by omega) (by omega)
/-- a ≥ b ≥ c. -/
theorem ahead_trans {a b c : HitM} (h : ahead a b = false) (h' : ahead b c = false) : ahead a c = false := by rw [ahead_not] at h h' ⊢; omega
theorem ahead_left {a b c : HitM} (h : ahead a b = true) (h' : ahead c b = false) : ahead a c = true := by rw [ahead_iff] at h ⊢; rw [ahead_not] at h'; omega
theorem ahead_right {a b c : HitM} (h : ahead a b = true) (h' : ahead a c = false) : ahead c b = true := by rw [ahead_iff] at h ⊢; rw [ahead_not] at h'; omega

/-! ### rows in order -/
def ins (h : HitM) : List HitM → List HitM
  | [] => [h]
  | x :: l => if ahead h x = true then h :: x :: l else x :: ins h l
def sortM (l : List HitM) : List HitM := l.foldl (fun o h => ins h o) []
def firstM (k : Nat) (l : List HitM) : List HitM := (sortM l).take k
def Srt (l : List HitM) : Prop := l.Pairwise (fun a b => ahead b a = false)

theorem ins_perm (h : HitM) (l : List HitM) : (ins h l).Perm (h :: l) := by
  induction l with
  | nil => exact List.Perm.refl _
  | cons x l ih =>
    unfold ins
    split
    · exact List.Perm.refl _
    · exact (List.Perm.cons x ih).trans (List.Perm.swap h x l)
theorem ins_length (h : HitM) (l : List HitM) : (ins h l).length = l.length + 1 := by simpa using (ins_perm h l).length_eq
theorem ins_srt (h : HitM) {l : List HitM} (hs : Srt l) : Srt (ins h l) := by
  induction l with
  | nil => simp [ins, Srt]
  | cons x l ih =>
    unfold Srt at hs ⊢
    rw [List.pairwise_cons] at hs
    unfold ins
    split
    · rename_i hx
      rw [List.pairwise_cons, List.pairwise_cons]
      refine ⟨fun y hy => ?_, hs.1, hs.2⟩
      rcases List.mem_cons.1 hy with rfl | hy
      · exact ahead_asymm hx
      · exact ahead_trans (hs.1 y hy) (ahead_asymm hx)
    · rename_i hx
      have hx : ahead h x = false := by simpa using hx
      rw [List.pairwise_cons]
      refine ⟨fun y hy => ?_, ih hs.2⟩
      rcases List.mem_cons.1 ((ins_perm h l).mem_iff.1 hy) with rfl | hy
      · exact hx
      · exact hs.1 y hy
theorem sort_snoc (l : List HitM) (h : HitM) : sortM (l ++ [h]) = ins h (sortM l) := by simp [sortM, List.foldl_append]
theorem list_rev {P : List HitM → Prop} (h0 : P []) (hs : ∀ l x, P l → P (l ++ [x])) (l : List HitM) : P l := by
  have : ∀ m : List HitM, P m.reverse := fun m => by
    induction m with
    | nil => exact h0
    | cons x m ih => rw [List.reverse_cons]; exact hs _ _ ih
  have h := this l.reverse
  rwa [List.reverse_reverse] at h
theorem sort_perm (l : List HitM) : (sortM l).Perm l := by
  refine list_rev (P := fun l => (sortM l).Perm l) (List.Perm.refl _) (fun l x ih => ?_) l
  rw [sort_snoc]
  exact (ins_perm x _).trans ((List.Perm.cons x ih).trans (List.perm_append_comm (l₁ := [x]) (l₂ := l)))
theorem sort_srt (l : List HitM) : Srt (sortM l) := by
  refine list_rev (P := fun l => Srt (sortM l)) List.Pairwise.nil (fun l x ih => ?_) l
  rw [sort_snoc]
  exact ins_srt x ih
theorem sort_length (l : List HitM) : (sortM l).length = l.length := (sort_perm l).length_eq
theorem srt_eq {l l' : List HitM} (p : l.Perm l') (h : Srt l) (h' : Srt l') : l = l' :=
  List.Perm.eq_of_pairwise (le := fun a b => ahead b a = false) (fun a b _ _ h1 h2 => ahead_tri h2 h1) h h' p
theorem sort_of_perm {l l' : List HitM} (p : l.Perm l') : sortM l = sortM l' := srt_eq ((sort_perm l).trans (p.trans (sort_perm l').symm)) (sort_srt l) (sort_srt l')
theorem sort_self {l : List HitM} (h : Srt l) : sortM l = l := srt_eq (sort_perm l) (sort_srt l) h
theorem srt_take {l : List HitM} (h : Srt l) (k : Nat) : Srt (l.take k) := List.Pairwise.sublist (List.take_sublist k l) h
theorem first_srt (k : Nat) (l : List HitM) : Srt (firstM k l) := srt_take (sort_srt l) k
theorem first_length (k : Nat) (l : List HitM) : (firstM k l).length = min k l.length := by rw [firstM, List.length_take, sort_length]
theorem first_perm (k : Nat) {l l' : List HitM} (p : l.Perm l') : firstM k l = firstM k l' := by rw [firstM, firstM, sort_of_perm p]
theorem first_mem {k : Nat} {l : List HitM} {x : HitM} (h : x ∈ firstM k l) : x ∈ l := (sort_perm l).mem_iff.1 (List.mem_of_mem_take h)
theorem ins_take (k : Nat) (h : HitM) (s : List HitM) : (ins h s).take k = (ins h (s.take k)).take k := by
  induction s generalizing k with
  | nil => simp
  | cons x s ih =>
    cases k with
    | zero => simp
    | succ k =>
      rw [List.take_succ_cons]
      unfold ins
      split
      · rw [List.take_succ_cons, List.take_succ_cons]
        congr 1
        cases k with
        | zero => simp
        | succ k => rw [List.take_succ_cons, List.take_succ_cons, List.take_take]; congr 2; omega
      · rw [List.take_succ_cons, List.take_succ_cons, ih k]
theorem first_snoc (k : Nat) (l : List HitM) (h : HitM) : firstM k (l ++ [h]) = (ins h (firstM k l)).take k := by rw [firstM, sort_snoc, ins_take]; rfl
theorem first_all {k : Nat} {l : List HitM} (h : l.length ≤ k) : firstM k l = sortM l := List.take_of_length_le (by rw [sort_length]; exact h)
theorem first_first (k : Nat) (l : List HitM) : firstM k (firstM k l) = firstM k l := by
  rw [first_all (by rw [first_length]; omega), sort_self (first_srt k l)]
theorem first_parts (k : Nat) (a b : List HitM) : firstM k (firstM k a ++ b) = firstM k (a ++ b) := by
  refine list_rev (P := fun b => firstM k (firstM k a ++ b) = firstM k (a ++ b)) ?_ (fun b x ih => ?_) b
  · simp [first_first]
  · rw [← List.append_assoc, ← List.append_assoc, first_snoc, first_snoc, ih]
theorem first_parts2 (k : Nat) (a b : List HitM) : firstM k (firstM k a ++ firstM k b) = firstM k (a ++ b) := by
  rw [first_parts, first_perm k List.perm_append_comm, first_parts, first_perm k List.perm_append_comm]

/-- What one more changes: there is room. -/
theorem first_room {k : Nat} {l p : List HitM} {h : HitM} (hp : p.Perm (firstM k l)) (hk : p.length < k) : (p ++ [h]).Perm (firstM k (l ++ [h])) := by
  have hl : (firstM k l).length < k := by rw [← hp.length_eq]; exact hk
  rw [first_snoc, List.take_of_length_le (by rw [ins_length]; omega)]
  exact (List.perm_append_comm (l₁ := p) (l₂ := [h])).trans ((List.Perm.cons h hp).trans (ins_perm h _).symm)
theorem ins_last {h : HitM} {s : List HitM} (hs : ∀ x ∈ s, ahead h x = false) : ins h s = s ++ [h] := by
  induction s with
  | nil => rfl
  | cons x s ih =>
    unfold ins
    rw [if_neg (by rw [hs x (by simp)]; simp), ih (fun y hy => hs y (by simp [hy]))]
    rfl
/-- There is none, and it stands ahead of nobody. -/
theorem first_out {k : Nat} {l p : List HitM} {h : HitM} (hp : p.Perm (firstM k l)) (hk : p.length = k) (ho : ∀ x ∈ p, ahead h x = false) : p.Perm (firstM k (l ++ [h])) := by
  rw [first_snoc, ins_last (fun x hx => ho x (hp.mem_iff.2 hx)), List.take_append_of_le_length (by rw [← hp.length_eq]; omega), List.take_of_length_le (by rw [← hp.length_eq]; omega)]
  exact hp
theorem ins_mid {h r : HitM} {s : List HitM} (hr : ahead h r = true) : ins h (s ++ [r]) = ins h s ++ [r] := by
  induction s with
  | nil => simp [ins, hr]
  | cons x s ih =>
    rw [List.cons_append]
    unfold ins
    split
    · rfl
    · rw [ih]; rfl
/-- There is none, and it stands ahead of the furthest. -/
theorem first_in {k : Nat} {l q : List HitM} {h r : HitM} (hp : (r :: q).Perm (firstM k l)) (hk : (r :: q).length = k) (hr : ∀ x ∈ r :: q, ahead r x = false) (hh : ahead h r = true) : (h :: q).Perm (firstM k (l ++ [h])) := by
  have hs := first_srt k l
  have hF := first_snoc k l h
  generalize firstM k l = F at *
  obtain ⟨s, r', rfl⟩ : ∃ s r', F = s ++ [r'] := by
    have : F ≠ [] := fun e => by subst e; have := hp.length_eq; simp at this
    exact ⟨F.dropLast, F.getLast this, (List.dropLast_concat_getLast this).symm⟩
  have h1 : ahead r r' = false := hr r' (hp.mem_iff.2 (by simp))
  have h2 : ahead r' r = false := by
    have hm : r ∈ s ++ [r'] := hp.mem_iff.1 (by simp)
    rcases List.mem_append.1 hm with hm | hm
    · unfold Srt at hs
      rw [List.pairwise_append] at hs
      exact hs.2.2 r hm r' (by simp)
    · simp at hm; rw [hm]; exact ahead_irrefl _
  obtain rfl := ahead_tri h1 h2
  have hqs : q.Perm s := by
    have := hp.trans (List.perm_append_comm (l₁ := s) (l₂ := [r]))
    exact (List.perm_cons r).1 this
  have hl : s.length + 1 = k := by have := hp.length_eq; simp at this; simp at hk; omega
  rw [hF, ins_mid hh, List.take_append_of_le_length (by rw [ins_length]; omega), List.take_of_length_le (by rw [ins_length]; omega)]
  exact (List.Perm.cons h hqs).trans (ins_perm h s).symm

/-! ### exchanges -/
def swp (p : List HitM) (i j : Nat) : List HitM := (p.set i (p.getD j z2)).set j (p.getD i z2)
theorem swp_length (p : List HitM) (i j : Nat) : (swp p i j).length = p.length := by simp [swp]
theorem getD_set (p : List HitM) (i : Nat) (x : HitM) (m : Nat) (hi : i < p.length) : (p.set i x).getD m z2 = if m = i then x else p.getD m z2 := by
  simp only [List.getD_eq_getElem?_getD, List.getElem?_set]
  by_cases h : m = i
  · subst h; simp [hi]
  · simp [h, Ne.symm h]
theorem swp_get (p : List HitM) (i j m : Nat) (hi : i < p.length) (hj : j < p.length) : (swp p i j).getD m z2 = if m = j then p.getD i z2 else if m = i then p.getD j z2 else p.getD m z2 := by
  unfold swp
  rw [getD_set _ _ _ _ (by simpa using hj), getD_set _ _ _ _ hi]
theorem swp_perm (p : List HitM) (i j : Nat) (hi : i < p.length) (hj : j < p.length) : (swp p i j).Perm p := by
  rw [List.perm_iff_count]
  intro a
  unfold swp
  rw [List.count_set (by simpa using hj), List.count_set hi]
  have e1 : p.getD j z2 = p[j] := by simp [List.getD, hj]
  have e2 : p.getD i z2 = p[i] := by simp [List.getD, hi]
  have c1 : (if (p[i] == a) = true then 1 else 0) ≤ p.count a := by
    split
    · rename_i h
      exact List.count_pos_iff.2 (by rw [← eq_of_beq h]; exact List.getElem_mem hi)
    · omega
  simp only [e1, e2, List.getElem_set]
  by_cases hij : i = j
  · subst hij
    simp only [if_true]
    omega
  · simp only [if_neg hij]
    have c2 : (if (p[j] == a) = true then 1 else 0) ≤ p.count a - (if (p[i] == a) = true then 1 else 0) + (if (p[j] == a) = true then 1 else 0) := by omega
    omega
theorem getD_mem2 {p : List HitM} {j : Nat} (h : j < p.length) : p.getD j z2 ∈ p := by
  simp [List.getD, h]
theorem mem_getD2 {p : List HitM} {x : HitM} (h : x ∈ p) : ∃ j, j < p.length ∧ p.getD j z2 = x := by
  obtain ⟨j, hj, e⟩ := List.getElem_of_mem h
  exact ⟨j, hj, by simp [List.getD, hj, e]⟩

/-! ### heaps -/
/-- Of the first n places none stands behind its parent's. -/
def Heap (n : Nat) (p : List HitM) : Prop := ∀ m, 0 < m → m < n → ahead (p.getD ((m - 1) / 2) z2) (p.getD m z2) = false
theorem Heap.root {n : Nat} {p : List HitM} (h : Heap n p) : ∀ m, m < n → ahead (p.getD 0 z2) (p.getD m z2) = false := by
  intro m
  induction m using Nat.strongRecOn with
  | ind m ih =>
    intro hm
    rcases Nat.eq_zero_or_pos m with rfl | h0
    · exact ahead_irrefl _
    · exact ahead_trans (ih ((m - 1) / 2) (by omega) (by omega)) (h m h0 hm)
theorem Heap.most {p : List HitM} (h : Heap p.length p) : ∀ x ∈ p, ahead (p.getD 0 z2) x = false := by
  intro x hx
  obtain ⟨j, hj, rfl⟩ := mem_getD2 hx
  exact h.root j hj
theorem heap_few {n : Nat} (hn : n ≤ 1) (p : List HitM) : Heap n p := fun m h0 hm => by omega
/-- All is well but at j, which may stand too deep. -/
def UpI (n : Nat) (p : List HitM) (j : Nat) : Prop :=
  (∀ m, 0 < m → m < n → m ≠ j → ahead (p.getD ((m - 1) / 2) z2) (p.getD m z2) = false) ∧
  (∀ m, 0 < m → m < n → (m - 1) / 2 = j → 0 < j → ahead (p.getD ((j - 1) / 2) z2) (p.getD m z2) = false)
/-- All is well but below i, which may stand too high. -/
def DownI (n : Nat) (p : List HitM) (i : Nat) : Prop :=
  (∀ m, 0 < m → m < n → (m - 1) / 2 ≠ i → ahead (p.getD ((m - 1) / 2) z2) (p.getD m z2) = false) ∧
  (∀ m, 0 < m → m < n → (m - 1) / 2 = i → 0 < i → ahead (p.getD ((i - 1) / 2) z2) (p.getD m z2) = false)
theorem UpI.top {n : Nat} {p : List HitM} (h : UpI n p 0) : Heap n p := fun m h0 hm => h.1 m h0 hm (by omega)
theorem UpI.rest {n : Nat} {p : List HitM} {j : Nat} (h : UpI n p j) (hj : ahead (p.getD ((j - 1) / 2) z2) (p.getD j z2) = false) : Heap n p := fun m h0 hm => by
  by_cases e : m = j
  · subst e; exact hj
  · exact h.1 m h0 hm e
theorem UpI.go {n : Nat} {p : List HitM} {j : Nat} (h : UpI n p j) (h0 : 0 < j) (hj : j < n) (hn : n ≤ p.length) (hs : ahead (p.getD ((j - 1) / 2) z2) (p.getD j z2) = true) : UpI n (swp p ((j - 1) / 2) j) ((j - 1) / 2) := by
  obtain ⟨h1, h2⟩ := h
  have hi : (j - 1) / 2 < p.length := by omega
  have hjl : j < p.length := by omega
  refine ⟨fun m m0 hm hne => ?_, fun m m0 hm hp hi0 => ?_⟩
  · rw [swp_get p _ _ _ hi hjl, swp_get p _ _ _ hi hjl]
    by_cases e : m = j
    · subst e
      rw [if_neg (show ¬ (m - 1) / 2 = m by omega), if_pos rfl, if_pos rfl]
      exact ahead_asymm hs
    · rw [if_neg e, if_neg hne]
      by_cases e2 : (m - 1) / 2 = j
      · rw [if_pos e2]
        exact h2 m m0 hm e2 (by omega)
      · rw [if_neg e2]
        by_cases e3 : (m - 1) / 2 = (j - 1) / 2
        · rw [if_pos e3]
          have := h1 m m0 hm e
          rw [e3] at this
          exact ahead_trans (ahead_asymm hs) this
        · rw [if_neg e3]
          exact h1 m m0 hm e
  · rw [swp_get p _ _ _ hi hjl, swp_get p _ _ _ hi hjl]
    rw [if_neg (show ¬ ((j - 1) / 2 - 1) / 2 = j by omega), if_neg (show ¬ ((j - 1) / 2 - 1) / 2 = (j - 1) / 2 by omega)]
    have hii := h1 ((j - 1) / 2) hi0 (by omega) (by omega)
    by_cases e : m = j
    · rw [if_pos e]
      exact hii
    · rw [if_neg e, if_neg (show ¬ m = (j - 1) / 2 by omega)]
      have := h1 m m0 hm e
      rw [hp] at this
      exact ahead_trans hii this
theorem DownI.none {n : Nat} {p : List HitM} {i : Nat} (h : DownI n p i) (hi : n ≤ 2 * i + 1) : Heap n p := fun m h0 hm => h.1 m h0 hm (by omega)
theorem DownI.rest {n : Nat} {p : List HitM} {i c : Nat} (h : DownI n p i) (hc : (c = 2 * i + 1 ∧ (2 * i + 2 < n → ahead (p.getD c z2) (p.getD (2 * i + 2) z2) = false)) ∨ (c = 2 * i + 2 ∧ c < n ∧ ahead (p.getD c z2) (p.getD (2 * i + 1) z2) = false))
    (hs : ahead (p.getD i z2) (p.getD c z2) = false) : Heap n p := fun m h0 hm => by
  by_cases e : (m - 1) / 2 = i
  · rw [e]
    have hm2 : m = 2 * i + 1 ∨ m = 2 * i + 2 := by omega
    rcases hc with ⟨rfl, h2⟩ | ⟨rfl, h2, h3⟩
    · rcases hm2 with rfl | rfl
      · exact hs
      · exact ahead_trans hs (h2 hm)
    · rcases hm2 with rfl | rfl
      · exact ahead_trans hs h3
      · exact hs
  · exact h.1 m h0 hm e
theorem DownI.go {n : Nat} {p : List HitM} {i c : Nat} (h : DownI n p i) (hn : n ≤ p.length) (hc : (c = 2 * i + 1 ∧ c < n ∧ (2 * i + 2 < n → ahead (p.getD c z2) (p.getD (2 * i + 2) z2) = false)) ∨ (c = 2 * i + 2 ∧ c < n ∧ ahead (p.getD c z2) (p.getD (2 * i + 1) z2) = false))
    (hs : ahead (p.getD i z2) (p.getD c z2) = true) : DownI n (swp p i c) c := by
  obtain ⟨h1, h2⟩ := h
  have hcn : c < n := by rcases hc with ⟨_, h, _⟩ | ⟨_, h, _⟩ <;> exact h
  have hci : (c - 1) / 2 = i ∧ i < c := by rcases hc with ⟨h, _, _⟩ | ⟨h, _, _⟩ <;> omega
  have hmax : ∀ m, 0 < m → m < n → (m - 1) / 2 = i → ahead (p.getD c z2) (p.getD m z2) = false := by
    intro m m0 hm hp
    have hm2 : m = 2 * i + 1 ∨ m = 2 * i + 2 := by omega
    rcases hc with ⟨rfl, _, h2⟩ | ⟨rfl, _, h3⟩
    · rcases hm2 with rfl | rfl
      · exact ahead_irrefl _
      · exact h2 hm
    · rcases hm2 with rfl | rfl
      · exact h3
      · exact ahead_irrefl _
  refine ⟨fun m m0 hm hne => ?_, fun m m0 hm hp hc0 => ?_⟩
  · rw [swp_get p _ _ _ (by omega) (by omega), swp_get p _ _ _ (by omega) (by omega)]
    rw [if_neg hne]
    by_cases e : (m - 1) / 2 = i
    · rw [if_pos e]
      by_cases e2 : m = c
      · rw [if_pos e2]
        exact ahead_asymm hs
      · rw [if_neg e2, if_neg (by omega)]
        exact hmax m m0 hm e
    · rw [if_neg e]
      by_cases e2 : m = c
      · exact absurd (by rw [e2]; exact hci.1) e
      · rw [if_neg e2]
        by_cases e3 : m = i
        · rw [if_pos e3]
          have := h2 c (by omega) hcn hci.1 (by omega)
          rw [← e3] at this
          exact this
        · rw [if_neg e3]
          exact h1 m m0 hm e
  · rw [swp_get p _ _ _ (by omega) (by omega), swp_get p _ _ _ (by omega) (by omega)]
    rw [hci.1, if_neg (by omega), if_pos rfl, if_neg (by omega), if_neg (by omega)]
    have := h1 m m0 hm (by omega)
    rw [hp] at this
    exact this

/-- One more, at the end. -/
theorem up_start {p : List HitM} (h : HitM) (hp : Heap p.length p) : UpI (p ++ [h]).length (p ++ [h]) p.length := by
  have hl : (p ++ [h]).length = p.length + 1 := by simp
  have hg : ∀ m, m < p.length → (p ++ [h]).getD m z2 = p.getD m z2 := fun m hm => by
    simp [List.getD, List.getElem?_append_left hm]
  refine ⟨fun m m0 hm hne => ?_, fun m m0 hm hp hj => by omega⟩
  rw [hg m (by omega), hg _ (by omega)]
  exact hp m m0 (by omega)
/-- Another one at the root. -/
theorem down_start {p : List HitM} {n : Nat} (h : HitM) (hp : Heap n p) : DownI n (p.set 0 h) 0 := by
  refine ⟨fun m m0 hm hne => ?_, fun m m0 hm hp hj => by omega⟩
  rcases Nat.eq_zero_or_pos p.length with h0 | h0
  · rw [List.eq_nil_of_length_eq_zero h0]
    exact ahead_irrefl _
  · rw [getD_set _ _ _ _ h0, getD_set _ _ _ _ h0, if_neg (by omega), if_neg (by omega)]
    exact hp m m0 hm
/-- The root and the last one, exchanged. -/
theorem pop_start {p : List HitM} {n : Nat} (hn : p.length = n + 1) (hp : Heap (n + 1) p) : DownI n (swp p 0 n) 0 := by
  refine ⟨fun m m0 hm hne => ?_, fun m m0 hm hp hj => by omega⟩
  rw [swp_get _ _ _ _ (by omega) (by omega), swp_get _ _ _ _ (by omega) (by omega), if_neg (by omega), if_neg (by omega), if_neg (by omega), if_neg (by omega)]
  exact hp m m0 (by omega)
theorem heap_take {p : List HitM} {n : Nat} (hp : Heap n p) (hn : n ≤ p.length) : Heap (p.take n).length (p.take n) := by
  have hl : (p.take n).length = n := by simp; omega
  intro m m0 hm
  rw [hl] at hm
  have hg : ∀ j, j < n → (p.take n).getD j z2 = p.getD j z2 := fun j hj => by
    simp [List.getD, List.getElem?_take, hj]
  rw [hg m hm, hg _ (by omega)]
  exact hp m m0 hm
end Go.Proofs.Ythobkakmjgmpcaa
