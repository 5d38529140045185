/-
  The document's own reading of a file (quiverref04.Read): pure, and its facts.
-/
import Derived.Test.YtienabfilnpieaaGreatRefPart
namespace Go.Proofs.YtienabfilnpieaaGreat
open Go.RowKit
set_option linter.unusedVariables false
set_option linter.unusedSimpArgs false
set_option maxRecDepth 100000

theorem Oct.dropN {bs : List Int} (h : Oct bs) (k : Nat) : Oct (bs.drop k) := fun b hb => h b (List.mem_of_mem_drop hb)
theorem step_rest {k : Int} {r p r' : List Int} (ho : Oct r) (h : stepM k r = some (p, r')) : r' = r.drop (p.length + 12) := by
  have hl := stepM_len h
  obtain ⟨s, hs⟩ : ∃ s : Nat, (s : Int) = val (r.take 4) := ⟨(val (r.take 4)).toNat, by have := val_nonneg (ho.takeN 4); omega⟩
  rw [stepM_is (by omega) hs] at h
  split at h
  · cases h
  · split at h
    · cases h
    · injection h with h
      injection h with e1 e2
      subst e1
      rw [← e2, List.drop_drop]
      congr 1
      rw [List.length_take, List.length_drop]
      omega
/-- What the parts are, one by one. -/
theorem goM_at (fuel : Nat) (room : Int) (k0 : Nat) (r : List Int) (hf : r.length < 12 * fuel) (ho : Oct r) (k : Nat) (hk : k ≤ (goM fuel room k0 r).length) :
    (∀ p, (goM fuel room k0 r)[k]? = some p → partM ((k0 + k : Nat) : Int) (r.drop (costM ((goM fuel room k0 r).take k))) = some p ∧ (costM ((goM fuel room k0 r).take k) : Int) + 12 + p.length ≤ room) ∧
    (k = (goM fuel room k0 r).length → partM ((k0 + k : Nat) : Int) (r.drop (costM ((goM fuel room k0 r).take k))) = none ∨ ∃ p, partM ((k0 + k : Nat) : Int) (r.drop (costM ((goM fuel room k0 r).take k))) = some p ∧ room < (costM ((goM fuel room k0 r).take k) : Int) + 12 + p.length) := by
  induction fuel generalizing room k0 r k with
  | zero => omega
  | succ n ih =>
    have hun : goM (n + 1) room k0 r = (match stepM k0 r with | none => [] | some (p, r') => if fitsC p.length room = 0 then p :: goM n (room - (p.length + 12)) ((k0 : Int) + 1) r' else []) := rfl
    cases hs : stepM k0 r with
    | none =>
      have e : goM (n + 1) room k0 r = [] := by rw [hun, hs]
      rw [e] at hk ⊢
      have : k = 0 := by simpa using hk
      subst this
      refine ⟨fun p hp => by simp at hp, fun _ => .inl ?_⟩
      simp only [List.take_nil, costM_nil, List.drop_zero, Nat.add_zero]
      unfold partM
      rw [hs]
    | some pr =>
      obtain ⟨p, r'⟩ := pr
      have hrest := step_rest ho hs
      have hlen := stepM_len hs
      by_cases hfit : fitsC p.length room = 0
      · have e : goM (n + 1) room k0 r = p :: goM n (room - (p.length + 12)) ((k0 + 1 : Nat) : Int) r' := by rw [hun, hs]; dsimp only; rw [if_pos hfit]; rfl
        have hfit' : p.length ≤ 16000 ∧ (p.length : Int) + 12 ≤ room := by
          unfold fitsC at hfit
          split at hfit
          · omega
          · split at hfit
            · omega
            · omega
        have hpm : partM k0 r = some p := by unfold partM; rw [hs]; dsimp only; rw [if_pos hfit'.1]
        rw [e] at hk ⊢
        cases k with
        | zero =>
          refine ⟨fun q hq => ?_, fun h => by simp at h⟩
          have : p = q := by simpa using hq
          subst this
          simp only [List.take_zero, costM_nil, List.drop_zero, Nat.add_zero]
          exact ⟨hpm, by omega⟩
        | succ k =>
          have := ih (room - (p.length + 12)) (k0 + 1) r' (by omega) (by rw [hrest]; exact ho.dropN _) k (by simpa using hk)
          have hd : ∀ x, r.drop (p.length + 12 + x) = r'.drop x := fun x => by rw [hrest, List.drop_drop]
          rw [List.take_succ_cons, costM_cons, hd, show k0 + (k + 1) = k0 + 1 + k by omega]
          refine ⟨fun q hq => ?_, fun h => ?_⟩
          · obtain ⟨a, b⟩ := this.1 q (by simpa using hq)
            exact ⟨a, by omega⟩
          · rcases this.2 (by simpa using h) with a | ⟨q, a, b⟩
            · exact .inl a
            · exact .inr ⟨q, a, by omega⟩
      · have e : goM (n + 1) room k0 r = [] := by rw [hun, hs]; dsimp only; rw [if_neg hfit]
        rw [e] at hk ⊢
        have : k = 0 := by simpa using hk
        subst this
        refine ⟨fun p hp => by simp at hp, fun _ => ?_⟩
        simp only [List.take_nil, costM_nil, List.drop_zero, Nat.add_zero]
        by_cases h16 : p.length ≤ 16000
        · refine .inr ⟨p, by unfold partM; rw [hs]; dsimp only; rw [if_pos h16], ?_⟩
          unfold fitsC at hfit
          rw [if_neg (by omega)] at hfit
          split at hfit
          · rename_i h; simp; omega
          · exact absurd rfl hfit
        · exact .inl (by unfold partM; rw [hs]; dsimp only; rw [if_neg h16])
theorem parts_at {bs : List Int} (ho : Oct bs) (k : Nat) (hk : k ≤ (partsM bs).length) :
    (∀ p, (partsM bs)[k]? = some p → partM (k : Int) (bs.drop (20 + costM ((partsM bs).take k))) = some p ∧ (costM ((partsM bs).take k) : Int) + 12 + p.length ≤ limitM bs) ∧
    (k = (partsM bs).length → partM (k : Int) (bs.drop (20 + costM ((partsM bs).take k))) = none ∨ ∃ p, partM (k : Int) (bs.drop (20 + costM ((partsM bs).take k))) = some p ∧ limitM bs < (costM ((partsM bs).take k) : Int) + 12 + p.length) := by
  have := goM_at (bs.length + 1) (limitM bs) 0 (bs.drop 20) (by rw [List.length_drop]; omega) (ho.dropN 20) k hk
  rw [List.drop_drop, Nat.zero_add] at this
  exact this
theorem parts_len {bs : List Int} (ho : Oct bs) (k : Nat) (hk : k ≤ (partsM bs).length) (h20 : 20 ≤ bs.length) : 20 + costM ((partsM bs).take k) ≤ bs.length := by
  induction k with
  | zero => simp [costM_nil]; omega
  | succ k ih =>
    have hk' : k < (partsM bs).length := by omega
    obtain ⟨p, hp⟩ : ∃ p, (partsM bs)[k]? = some p := ⟨(partsM bs)[k], List.getElem?_eq_getElem hk'⟩
    have h1 := ((parts_at ho k (by omega)).1 p hp).1
    have h2 := ih (by omega)
    rw [costM_snoc hp]
    unfold partM at h1
    cases hs : stepM (k : Int) (bs.drop (20 + costM ((partsM bs).take k))) with
    | none => rw [hs] at h1; cases h1
    | some pr =>
      obtain ⟨q, r'⟩ := pr
      have hl := stepM_len hs
      rw [hs] at h1
      dsimp only at h1
      split at h1
      · injection h1 with h1
        subst h1
        rw [List.length_drop] at hl
        omega
      · cases h1

/-! ### the box of a Log -/
theorem three_facts {W : World} {r : Nat} {a b c : Value} (h : W.heap[r]? = some (.cells #[a, b, c] 47 (0, 0))) :
    W.cell? ⟨r, 0, none⟩ = some a ∧ W.cell? ⟨r, 1, none⟩ = some b ∧ W.cell? ⟨r, 2, none⟩ = some c ∧ W.frozen? ⟨r, 0, none⟩ = false ∧ W.frozen? ⟨r, 1, none⟩ = false ∧ W.frozen? ⟨r, 2, none⟩ = false := by
  refine ⟨?_, ?_, ?_, ?_, ?_, ?_⟩ <;> simp [World.cell?, World.frozen?, h]
/-- Three cells of a box are set. -/
theorem three_end {W : World} {r : Nat} {a b c x y z : Value} (h : W.heap[r]? = some (.cells #[a, b, c] 47 (0, 0))) :
    (((W.setCell ⟨r, 0, none⟩ x).setCell ⟨r, 1, none⟩ y).setCell ⟨r, 2, none⟩ z).heap[r]? = some (.cells #[x, y, z] 47 (0, 0)) ∧ Below r W (((W.setCell ⟨r, 0, none⟩ x).setCell ⟨r, 1, none⟩ y).setCell ⟨r, 2, none⟩ z) ∧
    (∀ k, k ≠ r → (((W.setCell ⟨r, 0, none⟩ x).setCell ⟨r, 1, none⟩ y).setCell ⟨r, 2, none⟩ z).heap[k]? = W.heap[k]?) ∧ (((W.setCell ⟨r, 0, none⟩ x).setCell ⟨r, 1, none⟩ y).setCell ⟨r, 2, none⟩ z).heap.size = W.heap.size := by
  have e1 := heap_set (heap_set (heap_set h 0 x) 1 y) 2 z
  have e2 : ∀ k, k ≠ r → (((W.setCell ⟨r, 0, none⟩ x).setCell ⟨r, 1, none⟩ y).setCell ⟨r, 2, none⟩ z).heap[k]? = W.heap[k]? := fun k hk => (Below.heap_setCell _ _ _ _ hk).trans ((Below.heap_setCell _ _ _ _ hk).trans (Below.heap_setCell _ _ _ _ hk))
  exact ⟨e1, ⟨rfl, rfl, rfl, by simp [World.setCell], fun k hk => e2 k (by omega)⟩, e2, by simp [World.setCell]⟩

end Go.Proofs.YtienabfilnpieaaGreat
