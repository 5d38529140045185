/-
  The document's Of, Right, With.
-/
import Derived.Test.YtgljmcddakeoiaaDoorMskR3
import Derived.Test.YtgljmcddakeoiaaDoorMskO
namespace Go.Proofs.YtgljmcddakeoiaaDoor
open Go.RowKit Go.Shelf
set_option linter.unusedVariables false
set_option linter.unusedSimpArgs false
set_option maxRecDepth 100000

theorem ofM_with (l : List Int) {k : Nat} {x : Nat} (h : l[k]? = some (x : Int)) (hx : x < 96) : withW (ofM (l.take k)) x = ofM (l.take (k + 1)) := by
  have e : l.take (k + 1) = l.take k ++ [(x : Int)] := by rw [List.take_add_one, h]; rfl
  rw [e]
  unfold ofM
  rw [withW_mk _ hx]
  exact mk_congr (fun j hj => by
    rw [Bool.eq_iff_iff]
    simp only [Bool.or_eq_true, decide_eq_true_iff, List.mem_append, List.mem_singleton]
    exact or_congr Iff.rfl (by omega))

theorem two_world (w : World) : Below w.heap.size w ((w.alloc (.cells #[.int .u64 (0 : Nat), .int .u64 (0 : Nat)] 25)).alloc (.cells #[.int .u64 (0 : Nat), .int .u64 (0 : Nat)] 25)) ∧
    MRow ((w.alloc (.cells #[.int .u64 (0 : Nat), .int .u64 (0 : Nat)] 25)).alloc (.cells #[.int .u64 (0 : Nat), .int .u64 (0 : Nat)] 25)) w.heap.size 0 0 ∧ MRow ((w.alloc (.cells #[.int .u64 (0 : Nat), .int .u64 (0 : Nat)] 25)).alloc (.cells #[.int .u64 (0 : Nat), .int .u64 (0 : Nat)] 25)) (w.heap.size + 1) 0 0 := by
  refine ⟨((Below.refl _ w).alloc (Nat.le_refl _) _).alloc (by simp) _, (MRow.new w 0 0).below ((Below.refl _ _).alloc (Nat.le_refl _) _) (by simp), ?_⟩
  have := MRow.new (w.alloc (.cells #[.int .u64 (0 : Nat), .int .u64 (0 : Nat)] 25)) 0 0
  rwa [World.size_alloc] at this

/-- The slots of a mask, as numbers. -/
def slotsI (m : Mk) : List Int := (slots m).map fun (k : Nat) => (k : Int)
theorem slots_mem {m : Mk} {k : Nat} : k ∈ slots m ↔ has m k = true := by
  unfold slots
  rw [List.mem_filter, List.mem_range]
  exact ⟨fun h => h.2, fun h => ⟨has_lt h, h⟩⟩
theorem slotsI_len (m : Mk) : (slotsI m).length = (slots m).length := by simp [slotsI]
theorem slotsI_all (m : Mk) : (slotsI m).all slotB = true := by
  rw [List.all_eq_true]
  intro x hx
  obtain ⟨k, hk, rfl⟩ := List.mem_map.1 hx
  have := has_lt (slots_mem.1 hk)
  unfold slotB
  simp; omega
theorem ofM_slots (m : Mk) : ofM (slotsI m) = mk (has m) := by
  unfold ofM
  refine mk_congr (fun k hk => ?_)
  rw [Bool.eq_iff_iff, decide_eq_true_iff, ← slots_mem]
  simp only [slotsI, List.mem_map]
  refine ⟨fun ⟨a, h, e⟩ => ?_, fun h => ⟨k, h, rfl⟩⟩
  have : a = k := by omega
  subst this
  exact h
theorem OwnN.slots {base : Nat} {w : World} {A : Option Addr} {c : Nat} {m : Mk} (h : OwnN base w A c (slots m)) : Vec .i64 w A c (slotsI m) :=
  h.vec (fun k hk => by have := has_lt (slots_mem.1 hk); omega)

end Go.Proofs.YtgljmcddakeoiaaDoor
