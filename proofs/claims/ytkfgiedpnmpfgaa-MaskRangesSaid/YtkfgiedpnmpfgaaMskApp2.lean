/-
  Append to rows of masks.
-/
import Derived.Test.YtkfgiedpnmpfgaaLawFrame
import Derived.Test.YtkfgiedpnmpfgaaMskApp
namespace Go.Proofs.Ytkfgiedpnmpfgaa
open Go.RowKit Go.Shelf
set_option linter.unusedVariables false
set_option linter.unusedSimpArgs false
set_option maxRecDepth 100000

theorem appM : AppT Try.prog 41 25 2 16 := ⟨Try.underlying41, (Try.prog.info? 25).get (by kernel_rfl), .agg #[.int .u64 0, .int .u64 0], (Option.some_get _).symm, by kernel_rfl, by kernel_rfl, by kernel_rfl, rfl, by decide, by decide⟩
def flatM (l : List Mk) : List Value := l.flatMap fun m => [.int .u64 (m.1 : Int), .int .u64 (m.2 : Int)]
theorem flatM_length (l : List Mk) : (flatM l).length = l.length * 2 := by
  induction l with
  | nil => rfl
  | cons x l ih => simp only [flatM, List.flatMap_cons, List.length_append] at ih ⊢; rw [ih]; simp; omega
theorem flatM_get : ∀ (l : List Mk) (i : Nat) (m : Mk), l[i]? = some m → (flatM l)[i * 2]? = some (.int .u64 (m.1 : Int)) ∧ (flatM l)[i * 2 + 1]? = some (.int .u64 (m.2 : Int))
  | [], i, m, h => by simp at h
  | x :: l, 0, m, h => by simp at h; subst h; exact ⟨rfl, rfl⟩
  | x :: l, i + 1, m, h => by
    have ih := flatM_get l i m (by simpa using h)
    have e : (i + 1) * 2 = i * 2 + 1 + 1 := by omega
    have e2 : flatM (x :: l) = .int .u64 (x.1 : Int) :: .int .u64 (x.2 : Int) :: flatM l := rfl
    rw [e, e2]
    simpa using ih
theorem flatM_cell (l : List Mk) : ∀ u ∈ flatM l, u.oneCell' = true := by
  intro u hu
  obtain ⟨m, _, h⟩ := List.mem_flatMap.1 hu
  simp at h
  rcases h with rfl | rfl <;> rfl
theorem Read.masks {w : World} {A : Option Addr} {c : Nat} {l : List Mk} (h : Ms w A c l) : Read w A l.length 2 (flatM l) := by
  refine ⟨flatM_length l, flatM_cell l, fun e => ?_, fun b e j u hj => ?_⟩
  · rcases Nat.eq_zero_or_pos l.length with h0 | h0
    · exact h0
    · obtain ⟨b, o, e', _⟩ := h.rd h0; rw [e] at e'; cases e'
  · have hl : j < l.length * 2 := by have := (List.getElem?_eq_some_iff.1 hj).1; rw [flatM_length] at this; exact this
    obtain ⟨b', o, e', _, hc⟩ := h.rd (by omega)
    rw [e] at e'
    injection e' with e'
    subst e'
    have hk : j / 2 < l.length := by omega
    have hm := List.getElem?_eq_getElem hk
    obtain ⟨c0, c1⟩ := hc _ _ hm
    obtain ⟨f0, f1⟩ := flatM_get l _ _ hm
    rw [Addr.add_lit]
    rcases Nat.mod_two_eq_zero_or_one j with h2 | h2
    · have e : j / 2 * 2 = j := by omega
      rw [e] at c0 f0
      rw [c0, ← hj, f0]
    · have e : j / 2 * 2 + 1 = j := by omega
      rw [show o + j / 2 * 2 + 1 = o + j by omega] at c1
      rw [e] at f1
      rw [c1, ← hj, f1]
theorem own_ms {base : Nat} {w : World} {A : Option Addr} {c : Nat} {l : List Mk} (hr : w.ownsRow base 25 2 (.slice A l.length c) l.length (flatM l)) (hf : ∀ m ∈ l, Fine m) : Ms w A c l := by
  rcases hr.2 with ⟨e, h0⟩ | ⟨g, cap, cur, e, hg, hh, hnc, hcm, hsz, hcs⟩
  · injection e with e1 _ e3
    have : l = [] := List.eq_nil_of_length_eq_zero h0
    subst this e1 e3
    exact Ms.nil _
  · injection e with e1 _ e3
    subst e1
    subst e3
    refine ⟨hnc, by unfold maxLen at hcm; omega, fun hp => ⟨g, 0, rfl, lt_of_block hh, fun i m hi => ?_⟩, hf⟩
    have hl : i < l.length := (List.getElem?_eq_some_iff.1 hi).1
    rw [Nat.zero_add, hr.cellAt (i * 2) (by omega), hr.cellAt (i * 2 + 1) (by omega)]
    exact flatM_get l i m hi
theorem Ms.take {w : World} {A : Option Addr} {c : Nat} {l : List Mk} (h : Ms w A c l) (n : Nat) : Ms w A c (l.take n) := by
  have hl : (l.take n).length ≤ l.length := by simp; omega
  refine ⟨Nat.le_trans hl h.room, h.most, fun hp => ?_, fun m hm => h.fine m (List.mem_of_mem_take hm)⟩
  obtain ⟨b, o, e, hb, hc⟩ := h.rd (by omega)
  refine ⟨b, o, e, hb, fun j m hm => hc j m ?_⟩
  rw [List.getElem?_take] at hm
  split at hm
  · exact hm
  · cases hm
end Go.Proofs.Ytkfgiedpnmpfgaa
