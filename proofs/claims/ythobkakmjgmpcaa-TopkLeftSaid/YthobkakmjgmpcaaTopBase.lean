/-
  Hits that can be read, and rows of hits. No program is named here.
-/
import Derived.Test.YthobkakmjgmpcaaVecBase
import Derived.Test.YthobkakmjgmpcaaTopMath
namespace Go.Proofs.Ythobkakmjgmpcaa
open Go.RowKit
set_option linter.unusedVariables false
set_option linter.unusedSimpArgs false

/-- The hits l can be read at A. -/
structure Hits (w : World) (A : Option Addr) (c : Nat) (l : List HitM) : Prop where
  room : l.length ≤ c
  most : c ≤ 9223372036854775807
  rd : 0 < l.length → ∃ b o, A = some ⟨b, o, none⟩ ∧ b < w.heap.size ∧ ∀ j, j < l.length → w.cell? ⟨b, o + j * 2, none⟩ = some (.int .u64 (l.getD j z2).1) ∧ w.cell? ⟨b, o + j * 2 + 1, none⟩ = some (.int .u64 (l.getD j z2).2)

/-- The rows of hits ls can be read at A. -/
structure Rows (w : World) (A : Option Addr) (c : Nat) (ls : List (List HitM)) : Prop where
  room : ls.length ≤ c
  most : c ≤ 9223372036854775807
  rd : 0 < ls.length → ∃ b o, A = some ⟨b, o, none⟩ ∧ b < w.heap.size ∧ ∀ i x, ls[i]? = some x → ∃ B cb, w.cell? ⟨b, o + i, none⟩ = some (.slice B x.length cb) ∧ Hits w B cb x

section
variable {w w' : World} {A : Option Addr} {c : Nat} {l : List HitM} {ls : List (List HitM)}
theorem Hits.keep (h : Hits w A c l) (hs : w.heap.size ≤ w'.heap.size) (hk : ∀ p : Addr, p.block < w.heap.size → w'.cell? p = w.cell? p) : Hits w' A c l := by
  refine ⟨h.room, h.most, fun hp => ?_⟩
  obtain ⟨b, o, e, hb, hc⟩ := h.rd hp
  exact ⟨b, o, e, by omega, fun j hj => ⟨(hk _ hb).trans (hc j hj).1, (hk _ hb).trans (hc j hj).2⟩⟩
theorem Hits.keepB (h : Hits w A c l) (hs : w.heap.size ≤ w'.heap.size) (hk : ∀ b o, A = some ⟨b, o, none⟩ → 0 < l.length → w'.heap[b]? = w.heap[b]?) : Hits w' A c l := by
  refine ⟨h.room, h.most, fun hp => ?_⟩
  obtain ⟨b, o, e, hb, hc⟩ := h.rd hp
  have hk := hk b o e hp
  exact ⟨b, o, e, by omega, fun j hj => ⟨(World.cell?_of_block hk).trans (hc j hj).1, (World.cell?_of_block hk).trans (hc j hj).2⟩⟩
theorem Hits.below (h : Hits w A c l) (hb : Below w.heap.size w w') : Hits w' A c l := h.keep hb.size fun _ hp => hb.cell hp
theorem Hits.drew (h : Hits w A c l) : Hits w.drew A c l := ⟨h.room, h.most, h.rd⟩
theorem Hits.drewN (h : Hits w A c l) (n : Nat) : Hits (w.drewN n) A c l := ⟨h.room, h.most, h.rd⟩
theorem Hits.at_ (h : Hits w A c l) {j : Nat} (hj : j < l.length) : ∃ b o, A = some ⟨b, o, none⟩ ∧ b < w.heap.size ∧ w.cell? ⟨b, o + j * 2, none⟩ = some (.int .u64 (l.getD j z2).1) ∧ w.cell? ⟨b, o + j * 2 + 1, none⟩ = some (.int .u64 (l.getD j z2).2) := by
  obtain ⟨b, o, e, hb, hc⟩ := h.rd (by omega)
  exact ⟨b, o, e, hb, (hc j hj).1, (hc j hj).2⟩
theorem Hits.nil (w : World) : Hits w none 0 [] := ⟨by simp, by omega, fun h => absurd h (by simp)⟩
theorem Hits.empty (w : World) (A : Option Addr) {c : Nat} (hc : c ≤ 9223372036854775807) : Hits w A c [] := ⟨by simp, hc, fun h => absurd h (by simp)⟩
theorem Hits.take (h : Hits w A c l) (n : Nat) {c' : Nat} (hc : (l.take n).length ≤ c') (hm : c' ≤ 9223372036854775807) : Hits w A c' (l.take n) := by
  have hl : (l.take n).length ≤ l.length := by simp; omega
  refine ⟨hc, hm, fun hp => ?_⟩
  obtain ⟨b, o, e, hb, hcc⟩ := h.rd (by omega)
  refine ⟨b, o, e, hb, fun j hj => ?_⟩
  have hj' : j < n := by simp at hj; omega
  have e2 : (l.take n).getD j z2 = l.getD j z2 := by simp [List.getD, List.getElem?_take, hj']
  rw [e2]
  exact hcc j (by omega)
theorem Rows.keep (h : Rows w A c ls) (hs : w.heap.size ≤ w'.heap.size) (hk : ∀ p : Addr, p.block < w.heap.size → w'.cell? p = w.cell? p) : Rows w' A c ls := by
  refine ⟨h.room, h.most, fun hp => ?_⟩
  obtain ⟨b, o, e, hb, hc⟩ := h.rd hp
  refine ⟨b, o, e, by omega, fun i x hx => ?_⟩
  obtain ⟨B, cb, h1, h2⟩ := hc i x hx
  exact ⟨B, cb, (hk _ hb).trans h1, h2.keep hs hk⟩
theorem Rows.below (h : Rows w A c ls) (hb : Below w.heap.size w w') : Rows w' A c ls := h.keep hb.size fun _ hp => hb.cell hp
theorem Rows.at_ (h : Rows w A c ls) {i : Nat} (hi : i < ls.length) : ∃ b o x B cb, A = some ⟨b, o, none⟩ ∧ ls[i]? = some x ∧ b < w.heap.size ∧ w.cell? ⟨b, o + i, none⟩ = some (.slice B x.length cb) ∧ Hits w B cb x := by
  obtain ⟨b, o, e, hb, hc⟩ := h.rd (by omega)
  obtain ⟨B, cb, h1, h2⟩ := hc i _ (List.getElem?_eq_getElem hi)
  exact ⟨b, o, _, B, cb, e, List.getElem?_eq_getElem hi, hb, h1, h2⟩
theorem Rows.nil (w : World) : Rows w none 0 [] := ⟨by simp, by omega, fun h => absurd h (by simp)⟩
end

/-- The cells of hits, one behind the other. -/
def flat (l : List HitM) : List Value := l.flatMap fun h => [.int .u64 h.1, .int .u64 h.2]
theorem flat_length (l : List HitM) : (flat l).length = l.length * 2 := by
  induction l with
  | nil => rfl
  | cons x l ih =>
    show (flat l).length + 1 + 1 = (l.length + 1) * 2
    omega
theorem flat_append (l l' : List HitM) : flat (l ++ l') = flat l ++ flat l' := by simp [flat]
theorem flat_cons (x : HitM) (l : List HitM) : flat (x :: l) = .int .u64 x.1 :: .int .u64 x.2 :: flat l := rfl
theorem flat_get (l : List HitM) (j : Nat) (hj : j < l.length) : (flat l)[j * 2]? = some (.int .u64 (l.getD j z2).1) ∧ (flat l)[j * 2 + 1]? = some (.int .u64 (l.getD j z2).2) := by
  induction l generalizing j with
  | nil => simp at hj
  | cons x l ih =>
    rw [flat_cons]
    cases j with
    | zero => simp [List.getD]
    | succ j =>
      have := ih j (by simpa using hj)
      rw [show (j + 1) * 2 = j * 2 + 1 + 1 by omega]
      simpa [List.getD] using this
theorem flat_set (l : List HitM) (j : Nat) (x : HitM) : ((flat l).set (j * 2) (.int .u64 x.1)).set (j * 2 + 1) (.int .u64 x.2) = flat (l.set j x) := by
  induction l generalizing j with
  | nil => simp [flat]
  | cons y l ih =>
    cases j with
    | zero => simp [flat_cons]
    | succ j =>
      rw [show (j + 1) * 2 = j * 2 + 1 + 1 by omega, List.set_cons_succ, flat_cons, flat_cons, ← ih j]
      simp
theorem flat_cell (l : List HitM) : ∀ u ∈ flat l, u.oneCell' = true := by
  intro u hu
  unfold flat at hu
  rw [List.mem_flatMap] at hu
  obtain ⟨h, _, hu⟩ := hu
  simp at hu
  rcases hu with rfl | rfl <;> rfl

/-- A slice of the call's own holds hits. -/
theorem Hits.own {w : World} {base : Nat} {e : TypeId} {v : Value} {l : List HitM} (h : w.ownsRow base e 2 v l.length (flat l)) : ∃ A c, v = .slice A l.length c ∧ Hits w A c l ∧ (∀ g, v.ownBlock = some g ↔ ∃ o, A = some ⟨g, o, none⟩) := by
  rcases h.2 with ⟨rfl, h0⟩ | ⟨g, cap, cur, rfl, hg, hh, hnc, hcm, hsz, hcs⟩
  · obtain rfl : l = [] := List.eq_nil_of_length_eq_zero h0
    exact ⟨none, 0, rfl, Hits.nil w, fun g => by simp [Value.ownBlock]⟩
  · refine ⟨_, cap, rfl, ⟨hnc, by unfold maxLen at hcm; omega, fun hp => ⟨g, 0, rfl, lt_of_block hh, fun j hj => ?_⟩⟩, fun g' => by simp [Value.ownBlock]⟩
    rw [Nat.zero_add, h.cellAt (j * 2) (by omega), h.cellAt (j * 2 + 1) (by omega)]
    exact flat_get l j hj

end Go.Proofs.Ythobkakmjgmpcaa
