/-
  MaskBack's numbers: what is sorted and compacted is the slots of the mask of it.
-/
import Derived.Test.YtgljmcddakeoiaaDoorMskO
import Derived.Test.YtgljmcddakeoiaaDoorMskR4
import Derived.Lib.SlicesCompact
namespace Go.Proofs.YtgljmcddakeoiaaDoor
open Go.Lib
set_option linter.unusedVariables false
set_option linter.unusedSimpArgs false

/-- Of sorted numbers the compacted first m: strictly rising, and all of them. -/
theorem compact_rising (d : Array Int) (hs : ∀ i j, i < j → j < d.size → d[i]! ≤ d[j]!) : ∀ m, m ≤ d.size → (compactUpTo d m).Pairwise (· < ·) ∧ ∀ x, x ∈ compactUpTo d m ↔ ∃ j, j < m ∧ d[j]! = x := by
  intro m
  induction m with
  | zero => intro _; simp [compactUpTo]
  | succ m ih =>
    intro hm
    obtain ⟨h1, h2⟩ := ih (by omega)
    rw [compactUpTo_succ]
    cases hk : keeps d m with
    | false =>
      have hk2 : 0 < m ∧ d[m]! = d[m - 1]! := by
        unfold keeps at hk
        simp at hk
        obtain ⟨a, b⟩ := hk
        exact ⟨by omega, b⟩
      refine ⟨by simpa using h1, fun x => ?_⟩
      simp only [Bool.false_eq_true, if_false, List.append_nil]
      rw [h2]
      constructor
      · rintro ⟨j, hj, e⟩; exact ⟨j, by omega, e⟩
      · rintro ⟨j, hj, e⟩
        by_cases hjm : j = m
        · subst hjm
          exact ⟨j - 1, by omega, by rw [← hk2.2]; exact e⟩
        · exact ⟨j, by omega, e⟩
    | true =>
      have hlt : ∀ j, j < m → d[j]! < d[m]! := by
        intro j hj
        have hk2 : m = 0 ∨ ¬ d[m]! = d[m - 1]! := by
          unfold keeps at hk
          simp at hk
          exact hk
        have hne : ¬ d[m]! = d[m - 1]! := by
          rcases hk2 with h | h
          · omega
          · exact h
        have ha : d[m - 1]! ≤ d[m]! := hs (m - 1) m (by omega) (by omega)
        have hb : d[j]! ≤ d[m - 1]! := by
          rcases Nat.lt_or_ge j (m - 1) with h | h
          · exact hs j (m - 1) h (by omega)
          · have : j = m - 1 := by omega
            rw [this]; exact Int.le_refl _
        omega
      simp only [if_true]
      refine ⟨?_, fun x => ?_⟩
      · rw [List.pairwise_append]
        refine ⟨h1, by simp, fun a ha b hb => ?_⟩
        obtain ⟨j, hj, rfl⟩ := (h2 a).1 ha
        have : b = d[m]! := by simpa using hb
        rw [this]
        exact hlt j hj
      · rw [List.mem_append, h2]
        constructor
        · rintro (⟨j, hj, e⟩ | h)
          · exact ⟨j, by omega, e⟩
          · exact ⟨m, by omega, by simpa using (List.mem_singleton.1 h).symm⟩
        · rintro ⟨j, hj, e⟩
          by_cases hjm : j = m
          · subst hjm; right; simp [e]
          · left; exact ⟨j, by omega, e⟩

theorem slots_rising (m : Mk) : (slotsI m).Pairwise (· < ·) := by
  unfold slotsI slots
  rw [List.pairwise_map]
  refine List.Pairwise.imp (R := fun a b => a < b) (fun {a b} h => by omega) (List.Pairwise.filter _ ?_)
  exact List.pairwise_lt_range

/-- The slots of the mask of numbers are these numbers, sorted and compacted. -/
theorem back_slots (own : List Int) (h : own.all slotB = true) : slotsI (ofM own) = compact (own.mergeSort fun x y => decide (x ≤ y)) := by
  obtain ⟨zs, hz⟩ : ∃ zs, zs = own.mergeSort fun x y => decide (x ≤ y) := ⟨_, rfl⟩
  have hp : zs.Perm own := by rw [hz]; exact List.mergeSort_perm _ _
  have hs : zs.Pairwise fun x y => x ≤ y := by
    have := List.pairwise_mergeSort (le := fun x y : Int => decide (x ≤ y)) (fun a b c h1 h2 => by simp at h1 h2 ⊢; omega) (fun a b => by simp; omega) own
    rw [← hz] at this
    exact this.imp (fun h => by simpa using h)
  rw [← hz]
  obtain ⟨r1, r2⟩ := compact_rising zs.toArray (fun i j hij hj => by
    have hj' : j < zs.length := by simpa using hj
    have hi' : i < zs.length := by omega
    have := List.pairwise_iff_getElem.1 hs i j hi' hj' hij
    simpa [hi', hj'] using this) zs.length (by simp)
  have hm : ∀ x, x ∈ slotsI (ofM own) ↔ x ∈ compact zs := by
    intro x
    unfold compact
    rw [r2]
    unfold slotsI
    rw [List.mem_map]
    constructor
    · rintro ⟨k, hk, rfl⟩
      have hk2 := slots_mem.1 hk
      unfold ofM at hk2
      rw [has_mk] at hk2
      simp at hk2
      have : (k : Int) ∈ zs := hp.mem_iff.2 hk2.2
      obtain ⟨j, hj, e⟩ := List.mem_iff_getElem.1 this
      exact ⟨j, hj, by simpa [hj] using e⟩
    · rintro ⟨j, hj, e⟩
      have hx : x ∈ own := by
        refine hp.mem_iff.1 ?_
        rw [← e]
        simp [hj]
      have hb := List.all_eq_true.1 h x hx
      unfold slotB at hb
      simp at hb
      refine ⟨x.toNat, slots_mem.2 ?_, by omega⟩
      unfold ofM
      rw [has_mk]
      have e2 : ((x.toNat : Nat) : Int) = x := by omega
      simp [e2, hx]
      omega
  have n1 := slots_rising (ofM own)
  have hpm : (slotsI (ofM own)).Perm (compact zs) := by
    refine (List.perm_ext_iff_of_nodup (n1.imp (fun h => by omega)) ?_).2 hm
    exact List.Pairwise.imp (fun h => by omega) r1
  exact List.Perm.eq_of_pairwise (le := fun a b => a < b) (fun a b _ _ h1 h2 => by omega) n1 r1 hpm

end Go.Proofs.YtgljmcddakeoiaaDoor
