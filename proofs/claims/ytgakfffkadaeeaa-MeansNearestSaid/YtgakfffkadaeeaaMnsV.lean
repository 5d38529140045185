/-
  What the calls answer, told without whose memory it is; the law's moved.
-/
import Derived.Test.YtgakfffkadaeeaaMnsWakes
import Derived.Test.YtgakfffkadaeeaaLawFrame
namespace Go.Proofs.Ytgakfffkadaeeaa
open Go.RowKit Go.Shelf
set_option linter.unusedVariables false
set_option linter.unusedSimpArgs false
set_option maxRecDepth 100000

/-- Rows that can be read. -/
def GV (w : World) (L : List (List Int)) (e : Ending) (w' : World) : Prop := ∃ A c, e = .returned (.slice A L.length c) ∧ Vecs .i32 w' A c L ∧ Below w.heap.size w w'
def GVE (w : World) (L : List (List Int)) (E : Int) (e : Ending) (w' : World) : Prop := ∃ A c, e = .returned (.tuple #[.slice A L.length c, .int .i64 E]) ∧ Vecs .i32 w' A c L ∧ Below w.heap.size w w'
theorem GivesV.v {w w' : World} {L : List (List Int)} {e : Ending} (h : GivesV w L e w') : GV w L e w' := by
  obtain ⟨A, c, q, rfl, hq, ho, hb⟩ := h
  exact ⟨A, c, by rw [← hq, vals_length], by rw [← hq]; exact ho.vecs, hb⟩
theorem GivesVE.v {w w' : World} {L : List (List Int)} {E : Int} {e : Ending} (h : GivesVE w L E e w') : GVE w L E e w' := by
  obtain ⟨A, c, q, rfl, hq, ho, hb⟩ := h
  exact ⟨A, c, by rw [← hq, vals_length], by rw [← hq]; exact ho.vecs, hb⟩
theorem few_v (A : Option Addr) (c : Nat) (l : List (List Int)) (most : Nat) (w : World) (h : Vecs .i32 w A c l) (hmo : most ≤ 1000000) : Calls Try.prog 13 #[.slice A l.length c, .int .i64 most] w (GV w (fewM l most)) := (few_any A c l most w h hmo).mono fun _ _ h => h.v
theorem start_v (A A' : Option Addr) (c c' : Nat) (l : List (List Int)) (d : List Int) (w : World) (h : Vecs .i32 w A c l) (hd : Vec .i64 w A' c' d) : Calls Try.prog 15 #[.slice A l.length c, .slice A' d.length c'] w (GVE w (startV l d) (startE l d)) := (start_any A A' c c' l d w h hd).mono fun _ _ h => h.v
theorem train_v (A A' : Option Addr) (c c' : Nat) (l : List (List Int)) (d : List Int) (w : World) (h : Vecs .i32 w A c l) (hd : Vec .i64 w A' c' d) : Calls Try.prog 16 #[.slice A l.length c, .slice A' d.length c'] w (GVE w (trainV l d) (startE l d)) := (train_any A A' c c' l d w h hd).mono fun _ _ h => h.v
theorem round_v (A A' : Option Addr) (c c' : Nat) (cs l : List (List Int)) (w : World) (h : Vecs .i32 w A c cs) (hl : Vecs .i32 w A' c' l) : Calls Try.prog 23 #[.slice A cs.length c, .slice A' l.length c'] w (GVE w (roundV cs l) (partsE cs l)) := (round_any A A' c c' cs l w h hl).mono fun _ _ h => h.v
def GIE (w : World) (L : List Int) (E : Int) (e : Ending) (w' : World) : Prop := ∃ A c, e = .returned (.tuple #[.slice A L.length c, .int .i64 E]) ∧ Vec .i64 w' A c L ∧ Below w.heap.size w w'
theorem parts_v (A A' : Option Addr) (c c' : Nat) (cs l : List (List Int)) (w : World) (h : Vecs .i32 w A c cs) (hl : Vecs .i32 w A' c' l) : Calls Try.prog 22 #[.slice A cs.length c, .slice A' l.length c'] w (GIE w (partsI cs l) (partsE cs l)) := (parts_any A A' c c' cs l w h hl).mono fun _ _ ⟨A, c, e, h, hb⟩ => ⟨A, c, e, h.vec, hb⟩

theorem start_facts {l : List (List Int)} {d : List Int} (h : startE l d = 0) : ∃ n, Alike n l ∧ Alike n (startM l d) ∧ (0 < l.length ∧ l.length ≤ 96) ∧ (1 ≤ d.length ∧ d.length ≤ 6 ∧ ∀ x ∈ d, 0 ≤ x ∧ x ≤ 1073741824) := by
  have hv := vect_ok (start_ok h).2
  have a2 := allM_ok hv.2
  exact ⟨_, a2, a2.sub (start_mem hv.1.1 d), hv.1, draws_ok (start_ok h).1⟩
theorem rounds_parts {l : List (List Int)} {d : List Int} (h : startE l d = 0) (k : Nat) : partsE (roundsM l k (startM l d)) l = 0 ∧ roundV (roundsM l k (startM l d)) l = roundsM l (k + 1) (startM l d) := by
  obtain ⟨n, a2, a1, hl, hd⟩ := start_facts h
  have hp : partsE (roundsM l k (startM l d)) l = 0 := parts_of (by rw [rounds_length, start_length]; omega) (by rw [rounds_length, start_length]; omega) hl.1 hl.2 (rounds_alike a1 a2 k) a2
  exact ⟨hp, by unfold roundV; rw [if_pos hp]; rfl⟩
end Go.Proofs.Ytgakfffkadaeeaa
