/-
  MaskBack's loop over the slots: Next and Place tell the same.
-/
import Derived.Test.YtgljmcddakeoiaaDoorMskNext
import Derived.Test.YtgljmcddakeoiaaDoorMskBackM
namespace Go.Proofs.YtgljmcddakeoiaaDoor
open Go.Lib
set_option linter.unusedVariables false
set_option linter.unusedSimpArgs false

/-- Where it is asked from at the i-th slot. -/
def atI (L : List Nat) (i : Nat) : Nat := if i = 0 then 0 else L.getD (i - 1) 0 + 1
theorem slots_lt (m : Mk) : (slots m).Pairwise (· < ·) := by
  unfold slots
  exact List.Pairwise.filter _ List.pairwise_lt_range
theorem at_succ {L : List Nat} {i y : Nat} (h : L[i]? = some y) : atI L (i + 1) = y + 1 := by
  unfold atI
  simp [List.getD, h]
theorem split_at {L : List Nat} {i : Nat} (hL : L.Pairwise (· < ·)) (hi0 : i ≤ L.length) : (∀ x ∈ L.take i, x < atI L i) ∧ ∀ x ∈ L.drop i, atI L i ≤ x := by
  constructor
  · intro x hx
    obtain ⟨j, hj, rfl⟩ := List.mem_iff_getElem.1 hx
    rw [List.getElem_take]
    have hj2 : j < i ∧ j < L.length := by simp at hj; omega
    unfold atI
    rw [if_neg (by omega)]
    by_cases hi : i - 1 < L.length
    · have e : L.getD (i - 1) 0 = L[i - 1] := by simp [List.getD, hi]
      rw [e]
      rcases Nat.lt_or_ge j (i - 1) with h | h
      · have := List.pairwise_iff_getElem.1 hL j (i - 1) hj2.2 hi h; omega
      · have : j = i - 1 := by omega
        subst this
        omega
    · omega
  · intro x hx
    unfold atI
    by_cases h0 : i = 0
    · simp [h0]
    · rw [if_neg h0]
      obtain ⟨j, hj, rfl⟩ := List.mem_iff_getElem.1 hx
      rw [List.getElem_drop]
      have hj2 : i + j < L.length := by simp at hj; omega
      have e : L.getD (i - 1) 0 = L[i - 1]'(by omega) := by simp [List.getD, show i - 1 < L.length by omega]
      rw [e]
      have := List.pairwise_iff_getElem.1 hL (i - 1) (i + j) (by omega) hj2 (by omega)
      omega
theorem find_at {L : List Nat} {i : Nat} (hL : L.Pairwise (· < ·)) (hi : i ≤ L.length) : L.find? (fun (k : Nat) => decide (((atI L i : Nat) : Int) ≤ (k : Int))) = L[i]? := by
  obtain ⟨h1, h2⟩ := split_at (i := i) hL hi
  obtain ⟨a, ha⟩ : ∃ a, a = atI L i := ⟨_, rfl⟩
  rw [← ha] at h1 h2 ⊢
  have e : L.find? (fun (k : Nat) => decide ((a : Int) ≤ (k : Int))) = (L.take i ++ L.drop i).find? (fun (k : Nat) => decide ((a : Int) ≤ (k : Int))) := by rw [List.take_append_drop]
  have hn : (L.take i).find? (fun (k : Nat) => decide ((a : Int) ≤ (k : Int))) = none := by
    rw [List.find?_eq_none]
    intro x hx
    have := h1 x hx
    simp
    omega
  rw [e, List.find?_append, hn, Option.none_or]
  cases hd : L.drop i with
  | nil =>
    have : L.length ≤ i := List.drop_eq_nil_iff.1 hd
    rw [List.getElem?_eq_none this]; rfl
  | cons y t =>
    have hy : L[i]? = some y := by
      have := congrArg List.head? hd
      simpa [List.head?_drop] using this
    have := h2 y (by rw [hd]; simp)
    rw [hy, List.find?_cons_of_pos]
    simp
    omega
theorem next_at {m : Mk} {i : Nat} (hi : i ≤ (slots m).length) : nextM m (atI (slots m) i : Nat) = (slots m)[i]? := find_at (slots_lt m) hi
theorem next_yes {m : Mk} {i y : Nat} (h : (slots m)[i]? = some y) : nextK m (atI (slots m) i : Nat) = (y : Int) ∧ nextB m (atI (slots m) i : Nat) = true := by
  have hi := (List.getElem?_eq_some_iff.1 h).1
  have e := next_at (m := m) (i := i) (by omega)
  unfold nextK nextB
  rw [e, h]
  exact ⟨rfl, rfl⟩
theorem next_end (m : Mk) : nextB m (atI (slots m) (slots m).length : Nat) = false := by
  have e := next_at (m := m) (i := (slots m).length) (Nat.le_refl _)
  unfold nextB
  rw [e, List.getElem?_eq_none (Nat.le_refl _)]
  rfl
theorem place_at {m : Mk} {i y : Nat} (h : (slots m)[i]? = some y) : cnt (fun k => has m k && decide ((k : Int) < (y : Int))) 96 = i := by
  have hi := (List.getElem?_eq_some_iff.1 h).1
  have e : (List.range 96).filter (fun k => has m k && decide ((k : Int) < (y : Int))) = (slots m).filter fun (k : Nat) => decide ((k : Int) < (y : Int)) := by
    unfold slots
    rw [List.filter_filter]
    congr 1
    funext k
    rw [Bool.and_comm]
  unfold cnt
  rw [e]
  have hL := slots_lt m
  generalize slots m = L at *
  have e2 : L.filter (fun (k : Nat) => decide ((k : Int) < (y : Int))) = (L.take i).filter (fun (k : Nat) => decide ((k : Int) < (y : Int))) ++ (L.drop i).filter (fun (k : Nat) => decide ((k : Int) < (y : Int))) := by rw [← List.filter_append, List.take_append_drop]
  have hy : L[i] = y := by rw [List.getElem?_eq_getElem hi] at h; injection h
  have e3 : (L.take i).filter (fun (k : Nat) => decide ((k : Int) < (y : Int))) = L.take i := by
    rw [List.filter_eq_self]
    intro x hx
    obtain ⟨j, hj, rfl⟩ := List.mem_iff_getElem.1 hx
    rw [List.getElem_take]
    have hj2 : j < i := by simp at hj; omega
    have := List.pairwise_iff_getElem.1 hL j i (by omega) hi hj2
    simp
    omega
  have e4 : (L.drop i).filter (fun (k : Nat) => decide ((k : Int) < (y : Int))) = [] := by
    rw [List.filter_eq_nil_iff]
    intro x hx
    obtain ⟨j, hj, rfl⟩ := List.mem_iff_getElem.1 hx
    rw [List.getElem_drop]
    have hj2 : i + j < L.length := by simp at hj; omega
    rcases Nat.eq_zero_or_pos j with h0 | h0
    · subst h0
      simp [hy]
    · have := List.pairwise_iff_getElem.1 hL i (i + j) hi hj2 (by omega)
      simp
      omega
  rw [e2, e3, e4, List.append_nil, List.length_take]
  omega
theorem place_end (m : Mk) : cnt (fun k => has m k && decide ((k : Int) < (96 : Int))) 96 = (slots m).length := by
  unfold slots
  exact cnt_congr (g := has m) (fun n hn => by have : ((n : Int) < 96) := by omega
                                               simp [this])

end Go.Proofs.YtgljmcddakeoiaaDoor
