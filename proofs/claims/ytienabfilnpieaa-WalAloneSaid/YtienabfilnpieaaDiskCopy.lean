/-
  Copy.
-/
import Derived.Test.YtienabfilnpieaaDiskCrash
import Derived.Shelf.SlMaps.Clone
namespace Go.Proofs.Ytienabfilnpieaa
open Go.RowKit Go.Shelf
set_option linter.unusedVariables false
set_option maxRecDepth 100000

theorem row_base {w : World} {base base' : Nat} {e : TypeId} {size : Nat} {v : Value} {n : Nat} {xs : List Value} (h : w.ownsRow base e size v n xs) (hb : base' ≤ base) : w.ownsRow base' e size v n xs := by
  refine ⟨h.1, ?_⟩
  rcases h.2 with h0 | ⟨g, cap, cur, e1, hg, r⟩
  · exact .inl h0
  · exact .inr ⟨g, cap, cur, e1, Nat.le_trans hb hg, r⟩

/-- A file of a copy gets a row of its own; nothing that was there turns but the copy's map. -/
def CopiedTo (w : World) (S : Nat → Prop) (p mb : Nat) (M : AD) (f : Int → Option Value) (A : Int → Option Addr) (c : Int → Nat) (k : Int) (w' : World) : Prop :=
  ∃ f' A1 c1, DiskIn w' (grew S w w') p M mb f' (upd A k A1) (upd c k c1) ∧ (∀ g, blk A1 = some g → w.heap.size ≤ g) ∧ Turn (fun j => j = mb) w w'

/-- A copy between two of its files: those of the first i names have rows of their own. -/
def CopyMid (w : World) (S : Nat → Prop) (p mb2 : Nat) (M : AD) (W3 : World) (i : Nat) (wr : World) : Prop :=
  ∃ S' f A c, DiskIn wr S' p M mb2 f A c ∧ (∀ k, S' k → S k ∨ w.heap.size ≤ k) ∧ (∀ j k, j < i → M.names[j]? = some k → ∀ h, blk (A k) = some h → w.heap.size ≤ h) ∧ Turn (fun j => j = mb2) W3 wr

/-- A disk of one's own that is the same. -/
def CopyAt (w : World) (M : AD) (e : Ending) (w' : World) : Prop := ∃ p, e = .returned (.pointer (some ⟨p, 0, none⟩)) ∧ DiskAt w' (fun k => w.heap.size ≤ k ∧ k < w'.heap.size) p M ∧ Below w.heap.size w w'

theorem copy_end {w wr W3 : World} {S : Nat → Prop} {p mb2 : Nat} {M : AD} (hb3 : Below w.heap.size w W3) (hp : w.heap.size ≤ p) (hm : w.heap.size ≤ mb2) (h : CopyMid w S p mb2 M W3 M.names.length wr) :
    DiskAt wr (fun k => w.heap.size ≤ k ∧ k < wr.heap.size) p M ∧ Below w.heap.size w wr := by
  obtain ⟨S', f, A, c, hd, hS, hnew, ht⟩ := h
  refine ⟨⟨mb2, f, A, c, hd.head, ⟨hd.files.map, ⟨hm, hd.low _ hd.files.inS⟩, fun k F hk => ?_, hd.files.no, hd.files.apart⟩, hd.ok, ⟨hp, hd.lt⟩, fun k hk => hk.2⟩, hb3.trans (ht.below hb3.size (fun i hi => by have : i = mb2 := hi; omega))⟩
  obtain ⟨h1, h2, h3⟩ := hd.files.yes k F hk
  refine ⟨h1, h2, fun h hh => ⟨?_, hd.low h (h3 h hh)⟩⟩
  obtain ⟨j, hj, e⟩ := List.mem_iff_getElem.1 ((names_mem M hd.ok k).2 (by rw [hk]; simp))
  exact hnew j k hj (by rw [List.getElem?_eq_getElem hj, e]) h hh

end Go.Proofs.Ytienabfilnpieaa
