/-
  Clocks as numbers: what the document says of ticks, timestamps, runs. No program is named here.
-/
import Derived.Test.YtcohaaobdpcoiaaVecBase
namespace Go.Proofs.Ytcohaaobdpcoiaa
open Go.RowKit
set_option linter.unusedVariables false

def U6 (x : Int) : Prop := 0 ≤ x ∧ x < 18446744073709551616
def okC (N L : Int) : Bool := decide (N ≤ 1099511627776) && decide (L ≤ 1099511627776)
def chkC (N L : Int) : Int := if okC N L = true then 0 else 250
/-- Now, behind a tick. -/
def tickN (N b : Int) : Int := if N + b < 0 then 0 else if 1099511627776 < N + b then 1099511627776 else N + b
/-- The next timestamp. -/
def nxT (N L : Int) : Int := if L + 1 < N then N else L + 1
def nxB (N L : Int) : Bool := decide (nxT N L ≤ 1099511627776)
/-- A clock behind a tick and what is taken then, and the error. -/
def stp (s : Int × Int) (b : Int) : (Int × Int) × Int := if nxB (tickN s.1 b) s.2 = true then ((tickN s.1 b, nxT (tickN s.1 b) s.2), 0) else ((tickN s.1 b, s.2), 251)
def stA (xs : List Int) (c : Int × Int) : Nat → Int × Int
  | 0 => c
  | k + 1 => (stp (stA xs c k) (xs.getD k 0)).1
def elK (xs : List Int) (c : Int × Int) (k : Nat) : (Int × Int) × Int := stp (stA xs c k) (xs.getD k 0)
def elsK (xs : List Int) (c : Int × Int) : Nat → List ((Int × Int) × Int)
  | 0 => []
  | k + 1 => elsK xs c k ++ [elK xs c k]
/-- What a run has come to behind so many ticks: the clock, the timestamps, and whether it goes on. -/
def rn (xs : List Int) (c : Int × Int) : Nat → (Int × Int) × List Int × Bool
  | 0 => (c, [], true)
  | k + 1 => if (rn xs c k).2.2 = true then
      (if (elK xs c k).2 = 0 then ((elK xs c k).1, (rn xs c k).2.1 ++ [(elK xs c k).1.2], true) else ((elK xs c k).1, (rn xs c k).2.1, false))
    else rn xs c k
/-- A run. -/
def rnC (xs : List Int) (c : Int × Int) : Int × Int := if okC c.1 c.2 = true then (rn xs c xs.length).1 else (0, 0)
def rnL (xs : List Int) (c : Int × Int) : List Int := if okC c.1 c.2 = true then (rn xs c xs.length).2.1 else []
def rnE (xs : List Int) (c : Int × Int) : Int := if okC c.1 c.2 = true then (if (rn xs c xs.length).2.2 = true then 0 else 251) else 250

theorem okC_iff {N L : Int} : okC N L = true ↔ N ≤ 1099511627776 ∧ L ≤ 1099511627776 := by simp [okC]
theorem tickN_ok {N b : Int} : 0 ≤ tickN N b ∧ tickN N b ≤ 1099511627776 := by
  unfold tickN
  split
  · omega
  · split <;> omega
theorem stp_err {s : Int × Int} {b : Int} : (stp s b).2 = 0 ∨ (stp s b).2 = 251 := by unfold stp; split <;> simp
theorem stp_now {s : Int × Int} {b : Int} : (stp s b).1.1 = tickN s.1 b := by unfold stp; split <;> rfl
theorem stp_ok {s : Int × Int} {b : Int} (h0 : 0 ≤ s.2) (h : s.2 ≤ 1099511627776) : 0 ≤ (stp s b).1.2 ∧ (stp s b).1.2 ≤ 1099511627776 := by
  unfold stp
  split
  · rename_i h1
    have h2 : nxT (tickN s.1 b) s.2 ≤ 1099511627776 := by simpa [nxB] using h1
    have := tickN_ok (N := s.1) (b := b)
    refine ⟨?_, h2⟩
    show 0 ≤ nxT (tickN s.1 b) s.2
    unfold nxT
    split <;> omega
  · exact ⟨h0, h⟩
/-- A clock that may be. -/
structure Rt (c : Int × Int) : Prop where
  n0 : 0 ≤ c.1
  n1 : c.1 ≤ 1099511627776
  l0 : 0 ≤ c.2
  l1 : c.2 ≤ 1099511627776
theorem Rt.stp {c : Int × Int} (h : Rt c) (b : Int) : Rt (stp c b).1 := by
  have h1 := tickN_ok (N := c.1) (b := b)
  have h2 := stp_ok (b := b) h.l0 h.l1
  have h3 := stp_now (s := c) (b := b)
  exact ⟨by rw [h3]; exact h1.1, by rw [h3]; exact h1.2, h2.1, h2.2⟩
theorem Rt.st {c : Int × Int} (h : Rt c) (xs : List Int) : ∀ k, Rt (stA xs c k)
  | 0 => h
  | k + 1 => (Rt.st h xs k).stp _
theorem elsK_length (xs : List Int) (c : Int × Int) : ∀ k, (elsK xs c k).length = k
  | 0 => rfl
  | k + 1 => by show (elsK xs c k ++ [_]).length = k + 1; rw [List.length_append, elsK_length xs c k]; rfl
theorem rn_st (xs : List Int) (c : Int × Int) : ∀ k, (rn xs c k).2.2 = true → (rn xs c k).1 = stA xs c k ∧ (rn xs c k).2.1.length = k
  | 0, _ => ⟨rfl, rfl⟩
  | k + 1, h => by
    by_cases h1 : (rn xs c k).2.2 = true
    · obtain ⟨i1, i2⟩ := rn_st xs c k h1
      by_cases h2 : (elK xs c k).2 = 0
      · have e : rn xs c (k + 1) = ((elK xs c k).1, (rn xs c k).2.1 ++ [(elK xs c k).1.2], true) := by rw [rn, if_pos h1, if_pos h2]
        rw [e]
        exact ⟨rfl, by simp [i2]⟩
      · have e : rn xs c (k + 1) = ((elK xs c k).1, (rn xs c k).2.1, false) := by rw [rn, if_pos h1, if_neg h2]
        rw [e] at h; cases h
    · have e : rn xs c (k + 1) = rn xs c k := by rw [rn, if_neg h1]
      rw [e] at h; exact absurd h h1
theorem rn_go {xs : List Int} {c : Int × Int} {k : Nat} (h : (rn xs c k).2.2 = true) (he : (elK xs c k).2 = 0) : rn xs c (k + 1) = ((elK xs c k).1, (rn xs c k).2.1 ++ [(elK xs c k).1.2], true) := by rw [rn, if_pos h, if_pos he]
theorem rn_no {xs : List Int} {c : Int × Int} {k : Nat} (h : (rn xs c k).2.2 = true) (he : ¬ (elK xs c k).2 = 0) : rn xs c (k + 1) = ((elK xs c k).1, (rn xs c k).2.1, false) := by rw [rn, if_pos h, if_neg he]
theorem rn_stay {xs : List Int} {c : Int × Int} {k : Nat} (h : (rn xs c k).2.2 = false) : ∀ m, k ≤ m → rn xs c m = rn xs c k := by
  intro m
  induction m with
  | zero =>
    intro hm
    have e : k = 0 := by omega
    rw [e]
  | succ m ih =>
    intro hm
    by_cases e : k = m + 1
    · rw [e]
    · have h1 := ih (by omega)
      rw [rn, if_neg (by rw [h1, h]; simp), h1]
theorem rn_fit {xs : List Int} {c : Int × Int} (hc : Rt c) : ∀ k, Rt (rn xs c k).1 ∧ ∀ t ∈ (rn xs c k).2.1, 0 ≤ t ∧ t ≤ 1099511627776 := by
  intro k
  induction k with
  | zero => exact ⟨hc, by simp [rn]⟩
  | succ k ih =>
    have he : Rt (elK xs c k).1 := (hc.st xs k).stp _
    rw [rn]
    split
    · split
      · refine ⟨he, ?_⟩
        intro t ht
        rcases List.mem_append.1 ht with h | h
        · exact ih.2 t h
        · obtain rfl : t = _ := by simpa using h
          exact ⟨he.l0, he.l1⟩
      · exact ⟨he, ih.2⟩
    · exact ih
theorem rn_len (xs : List Int) (c : Int × Int) : ∀ k, (rn xs c k).2.1.length ≤ k := by
  intro k
  induction k with
  | zero => simp [rn]
  | succ k ih =>
    rw [rn]
    split
    · split
      · simp; omega
      · show (rn xs c k).2.1.length ≤ k + 1; omega
    · omega

/-! ### a run in two parts -/
theorem st_app {a b : List Int} {c : Int × Int} : ∀ k, k ≤ a.length → stA (a ++ b) c k = stA a c k ∧ rn (a ++ b) c k = rn a c k := by
  intro k
  induction k with
  | zero => intro _; exact ⟨rfl, rfl⟩
  | succ k ih =>
    intro hk
    obtain ⟨h1, h2⟩ := ih (by omega)
    have h3 : (a ++ b).getD k 0 = a.getD k 0 := by simp [List.getD, List.getElem?_append_left (show k < a.length by omega)]
    have h4 : elK (a ++ b) c k = elK a c k := by unfold elK; rw [h1, h3]
    refine ⟨?_, ?_⟩
    · show (stp (stA (a ++ b) c k) _).1 = (stp (stA a c k) _).1
      rw [h1, h3]
    · rw [rn, rn, h2, h4]
theorem st_on {a b : List Int} {c : Int × Int} : ∀ j, stA (a ++ b) c (a.length + j) = stA b (stA a c a.length) j := by
  intro j
  induction j with
  | zero => exact (st_app _ (Nat.le_refl _)).1
  | succ j ih =>
    show (stp (stA (a ++ b) c (a.length + j)) _).1 = (stp (stA b _ j) _).1
    rw [ih]
    congr 2
    simp [List.getD, List.getElem?_append_right]
theorem rn_on {a b : List Int} {c : Int × Int} (h : (rn a c a.length).2.2 = true) : ∀ j, rn (a ++ b) c (a.length + j) = ((rn b (rn a c a.length).1 j).1, (rn a c a.length).2.1 ++ (rn b (rn a c a.length).1 j).2.1, (rn b (rn a c a.length).1 j).2.2) := by
  have hs := (rn_st a c _ h).1
  intro j
  induction j with
  | zero =>
    show rn (a ++ b) c a.length = _
    rw [(st_app (b := b) _ (Nat.le_refl _)).2]
    simp [rn, ← h]
  | succ j ih =>
    have he : elK (a ++ b) c (a.length + j) = elK b (rn a c a.length).1 j := by
      unfold elK
      rw [st_on, hs]
      congr 1
      simp [List.getD, List.getElem?_append_right]
    show rn (a ++ b) c (a.length + j + 1) = _
    rw [rn, ih, he, rn]
    by_cases h1 : (rn b (rn a c a.length).1 j).2.2 = true
    · rw [if_pos h1, if_pos h1]
      by_cases h2 : (elK b (rn a c a.length).1 j).2 = 0
      · rw [if_pos h2, if_pos h2]; simp
      · rw [if_neg h2, if_neg h2]
    · rw [if_neg h1, if_neg h1]

end Go.Proofs.Ytcohaaobdpcoiaa
