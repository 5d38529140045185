/-
  Words on memory for the walks over package vec: numbers, and rows of numbers, that can be read. No program is named here.
-/
import Derived.WalkKit
import Derived.WalkSpells
import Derived.WalkLawsBesides
import Derived.Lib.Hide
import Derived.Lib.Walk
import Derived.Lib.SliceRun
import Derived.Deep.Draws
import Derived.IntWalk
import Derived.BigQuiet
import Derived.Deep.QuietTactic
import Derived.StillTailTactics
import Derived.Deep.RegionWith
namespace Go.Proofs.Ytcohaaobdpcoiaa
open Go.RowKit
set_option linter.unusedVariables false

/-- The numbers xs can be read at A. -/
structure Vec (k : IntKind) (w : World) (A : Option Addr) (c : Nat) (xs : List Int) : Prop where
  room : xs.length ≤ c
  most : c ≤ 9223372036854775807
  rd : 0 < xs.length → ∃ b o, A = some ⟨b, o, none⟩ ∧ b < w.heap.size ∧ ∀ j, j < xs.length → w.cell? ⟨b, o + j, none⟩ = some (.int k (xs.getD j 0))
  fit : ∀ x ∈ xs, (Lit.int k x).wf = true

/-- The rows l can be read at A. -/
structure Vecs (k : IntKind) (w : World) (A : Option Addr) (c : Nat) (l : List (List Int)) : Prop where
  room : l.length ≤ c
  most : c ≤ 9223372036854775807
  rd : 0 < l.length → ∃ b o, A = some ⟨b, o, none⟩ ∧ b < w.heap.size ∧ ∀ i x, l[i]? = some x → ∃ B cb, w.cell? ⟨b, o + i, none⟩ = some (.slice B x.length cb) ∧ Vec k w B cb x

section
variable {k : IntKind} {w w' : World} {A : Option Addr} {c : Nat} {xs : List Int} {l : List (List Int)}
theorem Vec.keep (h : Vec k w A c xs) (hs : w.heap.size ≤ w'.heap.size) (hk : ∀ p : Addr, p.block < w.heap.size → w'.cell? p = w.cell? p) : Vec k w' A c xs := by
  refine ⟨h.room, h.most, fun hp => ?_, h.fit⟩
  obtain ⟨b, o, e, hb, hc⟩ := h.rd hp
  exact ⟨b, o, e, by omega, fun j hj => (hk _ hb).trans (hc j hj)⟩
theorem Vec.below (h : Vec k w A c xs) (hb : Below w.heap.size w w') : Vec k w' A c xs := h.keep hb.size fun _ hp => hb.cell hp
theorem Vec.drew (h : Vec k w A c xs) : Vec k w.drew A c xs := ⟨h.room, h.most, h.rd, h.fit⟩
theorem Vec.drewN (h : Vec k w A c xs) (n : Nat) : Vec k (w.drewN n) A c xs := ⟨h.room, h.most, h.rd, h.fit⟩
theorem Vec.at_ (h : Vec k w A c xs) {j : Nat} (hj : j < xs.length) : ∃ b o, A = some ⟨b, o, none⟩ ∧ b < w.heap.size ∧ w.cell? ⟨b, o + j, none⟩ = some (.int k (xs.getD j 0)) := by
  obtain ⟨b, o, e, hb, hc⟩ := h.rd (by omega)
  exact ⟨b, o, e, hb, hc j hj⟩
theorem Vec.nil (k : IntKind) (w : World) : Vec k w none 0 [] := ⟨by simp, by omega, fun h => absurd h (by simp), by simp⟩
theorem Vecs.keep (h : Vecs k w A c l) (hs : w.heap.size ≤ w'.heap.size) (hk : ∀ p : Addr, p.block < w.heap.size → w'.cell? p = w.cell? p) : Vecs k w' A c l := by
  refine ⟨h.room, h.most, fun hp => ?_⟩
  obtain ⟨b, o, e, hb, hc⟩ := h.rd hp
  refine ⟨b, o, e, by omega, fun i x hx => ?_⟩
  obtain ⟨B, cb, h1, h2⟩ := hc i x hx
  exact ⟨B, cb, (hk _ hb).trans h1, h2.keep hs hk⟩
theorem Vecs.below (h : Vecs k w A c l) (hb : Below w.heap.size w w') : Vecs k w' A c l := h.keep hb.size fun _ hp => hb.cell hp
theorem Vecs.drew (h : Vecs k w A c l) : Vecs k w.drew A c l := h.keep (Nat.le_refl _) fun _ _ => rfl
theorem Vecs.drewN (h : Vecs k w A c l) (n : Nat) : Vecs k (w.drewN n) A c l := h.keep (Nat.le_refl _) fun _ _ => rfl
theorem Vecs.at_ (h : Vecs k w A c l) {i : Nat} (hi : i < l.length) : ∃ b o x B cb, A = some ⟨b, o, none⟩ ∧ l[i]? = some x ∧ b < w.heap.size ∧ w.cell? ⟨b, o + i, none⟩ = some (.slice B x.length cb) ∧ Vec k w B cb x := by
  obtain ⟨b, o, e, hb, hc⟩ := h.rd (by omega)
  obtain ⟨B, cb, h1, h2⟩ := hc i _ (List.getElem?_eq_getElem hi)
  exact ⟨b, o, _, B, cb, e, List.getElem?_eq_getElem hi, hb, h1, h2⟩
theorem Vecs.nil (k : IntKind) (w : World) : Vecs k w none 0 [] := ⟨by simp, by omega, fun h => absurd h (by simp)⟩
theorem Vecs.take (h : Vecs k w A c l) (n : Nat) : Vecs k w A c (l.take n) := by
  have hl : (l.take n).length ≤ l.length := by simp; omega
  refine ⟨Nat.le_trans hl h.room, h.most, fun hp => ?_⟩
  obtain ⟨b, o, e, hb, hc⟩ := h.rd (by omega)
  refine ⟨b, o, e, hb, fun i x hx => hc i x ?_⟩
  rw [List.getElem?_take] at hx
  split at hx
  · exact hx
  · cases hx

/-- A slice of the call's own holds numbers. -/
theorem Vec.own {base m : Nat} {e : TypeId} {v : Value} (h : w.ownsRow base e 1 v xs.length (xs.map (Value.int k))) (hf : ∀ x ∈ xs, (Lit.int k x).wf = true) : ∃ A c, v = .slice A xs.length c ∧ Vec k w A c xs := by
  rcases h.2 with ⟨rfl, h0⟩ | ⟨g, cap, cur, rfl, hg, hh, hnc, hcm, hsz, hcs⟩
  · obtain rfl : xs = [] := List.eq_nil_of_length_eq_zero h0
    exact ⟨none, 0, rfl, Vec.nil k w⟩
  · refine ⟨_, cap, rfl, hnc, by unfold maxLen at hcm; omega, fun hp => ⟨g, 0, rfl, lt_of_block hh, fun j hj => ?_⟩, hf⟩
    have := h.cellAt j (by simpa using hj)
    rw [Nat.zero_add, this]
    simp [List.getD, List.getElem?_eq_getElem hj]
end

theorem below_drew {B : Nat} {a w : World} (h : Below B a w) : Below B a w.drew := ⟨h.os, h.tape, h.output, h.size, h.block⟩

end Go.Proofs.Ytcohaaobdpcoiaa
