/-
  changes, With, Without, Range.
-/
import Derived.Test.YtgljmcddakeoiaaDoorMskF
import Derived.Deep.RegionHeld3
namespace Go.Proofs.YtgljmcddakeoiaaDoor
open Go.RowKit Go.Shelf
set_option linter.unusedVariables false
set_option linter.unusedSimpArgs false
set_option maxRecDepth 100000

def chgM (m : Mk) (n : Int) : Int := if rightM m then (if slotB n then 0 else 2) else 200
theorem mbox_world (w : World) (m : Mk) : Below w.heap.size w (w.alloc (.cells #[.int .u64 m.1, .int .u64 m.2] 25)) ∧ MRow (w.alloc (.cells #[.int .u64 m.1, .int .u64 m.2] 25)) w.heap.size m.1 m.2 :=
  ⟨(Below.refl _ w).alloc (Nat.le_refl _) _, MRow.new w m.1 m.2⟩

/-- What answers a mask and an error. -/
def GivesME (w : World) (m : Mk) (x : Int) (e : Ending) (w' : World) : Prop := e = .returned (.tuple #[mv m, .int .i64 x]) ∧ Below w.heap.size w w'
theorem Ms.two (W : World) (a b : Mk) (ha : Fine a) (hb : Fine b) : Ms (W.alloc (.cells #[.int .u64 a.1, .int .u64 a.2, .int .u64 b.1, .int .u64 b.2] 25)) (some ⟨W.heap.size, 0, none⟩) 2 [a, b] := by
  refine ⟨by simp, by omega, fun _ => ⟨W.heap.size, 0, rfl, by simp, fun j m hm => ?_⟩, fun m hm => by simp at hm; rcases hm with rfl | rfl <;> assumption⟩
  match j, hm with
  | 0, hm => simp at hm; subst hm; exact ⟨cell_new W _ _ 0, cell_new W _ _ 1⟩
  | 1, hm => simp at hm; subst hm; exact ⟨cell_new W _ _ 2, cell_new W _ _ 3⟩
  | j + 2, hm => simp at hm
theorem Ms.drew {w : World} {A : Option Addr} {c : Nat} {l : List Mk} (h : Ms w A c l) : Ms w.drew A c l := ⟨h.room, h.most, h.rd, h.fine⟩

def withM (m : Mk) (n : Int) : Mk := mk fun k => has m k || decide ((k : Int) = n)

def withoutM (m : Mk) (n : Int) : Mk := mk fun k => has m k && !decide ((k : Int) = n)

end Go.Proofs.YtgljmcddakeoiaaDoor
