/-
  slices.Sort, slices.Compact, slices.Equal at numbers of the call's own.
-/
import Derived.Test.YtgljmcddakeoiaaDoorMskShelf
import Derived.Test.YtgljmcddakeoiaaDoorMskApp
import Derived.Sort.OwnSortedInts
namespace Go.Proofs.YtgljmcddakeoiaaDoor
open Go.RowKit Go.Shelf Go.Sort
set_option linter.unusedVariables false
set_option linter.unusedSimpArgs false

/-- Whole numbers of the call's own. -/
def OwnZ (base : Nat) (w : World) (A : Option Addr) (c : Nat) (l : List Int) : Prop := w.ownsRow base 3 1 (.slice A l.length c) l.length (l.map (Value.int .i64))
theorem OwnZ.nil (base : Nat) (w : World) : OwnZ base w none 0 [] := World.ownsRow_nil _ _ _ _
theorem OwnZ.below {base : Nat} {w w' : World} {A : Option Addr} {c : Nat} {l : List Int} (h : OwnZ base w A c l) (hb : Below w.heap.size w w') : OwnZ base w' A c l := row_turn h (Turn.of_below (S := fun _ => False) hb) (fun _ _ e => e)
theorem OwnZ.low {base : Nat} {w : World} {A : Option Addr} {c : Nat} {l : List Int} (h : OwnZ base w A c l) : ∀ i, blk A = some i → base ≤ i ∧ i < w.heap.size := fun i hi => h.lt i (by rw [own_blk]; exact hi)
theorem OwnZ.vec {base : Nat} {w : World} {A : Option Addr} {c : Nat} {l : List Int} (h : OwnZ base w A c l) (hl : ∀ x ∈ l, -9223372036854775808 ≤ x ∧ x ≤ 9223372036854775807) : Vec .i64 w A c l := by
  have h1 := h
  unfold OwnZ at h1
  obtain ⟨A', c', e, hv⟩ := Vec.own (m := 0) (k := .i64) (xs := l) (v := .slice A l.length c) (e := 3) (base := base) (w := w) (by simpa using h1) (fun x hx => by
    have := hl x hx
    simp [Lit.wf, IntKind.min, IntKind.max, IntKind.signed, IntKind.bits]
    omega)
  injection e with e1 _ e2
  subst e1
  subst e2
  exact hv
theorem OwnZ.app {base c c5 n : Nat} {w V w' : World} {A A5 : Option Addr} {l : List Int} {x : Int} (h : OwnZ base w A c l) (hV : Below w.heap.size w V) (hbs : base ≤ w.heap.size) (hn : l.length = n)
    (ho : w'.ownsRow base 3 1 (.slice A5 (n + 1) c5) (n + 1) (l.map (Value.int .i64) ++ [.int .i64 x])) (hg : V.grownBy w' (blk A)) : OwnZ base w' A5 c5 (l ++ [x]) ∧ Below base w w' := by
  subst hn
  refine ⟨?_, (hV.mono hbs).trans (grown_below hg (Nat.le_trans hbs hV.size) (fun i hi => (h.low i hi).1))⟩
  unfold OwnZ
  rw [List.length_append, List.map_append]
  exact ho
theorem Vec.pre {k : IntKind} {w : World} {A : Option Addr} {c : Nat} {xs ys : List Int} (h : Vec k w A c (xs ++ ys)) : Vec k w A c xs := by
  refine ⟨by have := h.room; rw [List.length_append] at this; omega, h.most, fun hp => ?_, fun x hx => h.fit x (List.mem_append_left _ hx)⟩
  obtain ⟨b, o, e, hb, hc⟩ := h.rd (by rw [List.length_append]; omega)
  refine ⟨b, o, e, hb, fun j hj => ?_⟩
  rw [hc j (by rw [List.length_append]; omega)]
  simp [List.getD, List.getElem?_append_left hj]

theorem grown_refl (w : World) (B : Option Nat) : w.grownBy w B := ⟨rfl, rfl, rfl, Nat.le_refl _, fun _ _ _ => rfl⟩
theorem OwnN.grown {base : Nat} {w w' : World} {A : Option Addr} {c : Nat} {l : List Nat} {B : Option Nat} (h : OwnN base w A c l) (hg : w.grownBy w' B) (hne : ∀ i, B = some i → i < base) : OwnN base w' A c l :=
  row_turn h (Turn.of_grown (S := fun i => B = some i) hg (fun i hi => .inl hi)) (fun i hi e => by
    have h1 := hne i e
    have h2 := (h.low i (by rw [← own_blk]; exact hi)).1
    omega)
theorem sort_any {base : Nat} (A : Option Addr) (c : Nat) (l : List Int) (w : World) (h : OwnZ base w A c l) (hsz : l.length < 4611686018427387904) :
    Calls Tryd.prog 6 #[.slice A l.length c] w fun e w' => e = .returned (.tuple #[]) ∧ OwnZ base w' A c (l.mergeSort fun x y => decide (x ≤ y)) ∧ Below base w w' ∧ w.grownBy w' (blk A) := by
  by_cases h0 : l.length = 0
  · obtain rfl : l = [] := List.length_eq_zero_iff.1 h0
    refine (Tryd.slices_Sort_int_none A c w).mono ?_
    rintro e w' ⟨rfl, rfl⟩
    exact ⟨rfl, by simpa using h, Below.refl _ _, grown_refl _ _⟩
  · rcases h.2 with hn | ⟨g, cap, cur, hv, hg, hb, h1, h2, h3, h4⟩
    · have e1 := hn.1
      injection e1 with _ e2 _
      exact absurd e2 h0
    · injection hv with e1 e2 e3
      subst e1
      subst e3
      refine (Tryd.slices_Sort_int g 0 c l w (holds_of_blockI hb (by rwa [Nat.mul_one] at h4)) (Array.getElem?_eq_some_iff.1 hb).1 hsz).mono ?_
      rintro e w' ⟨rfl, n, os, rfl⟩
      refine ⟨rfl, ?_, ?_, grownBy_sortedI _⟩
      · have := ownsRow_sortedI (n := n) (os := os) (ts := l.mergeSort fun x y => decide (x ≤ y)) (by simp) hg hb h1 h2 h3
        unfold OwnZ
        rw [List.length_mergeSort]
        exact this
      · exact grown_below (A := some ⟨g, 0, none⟩) (grownBy_sortedI _) (Nat.le_trans hg (Nat.le_of_lt (Array.getElem?_eq_some_iff.1 hb).1)) (fun i hi => by
          have : g = i := by simpa [blk] using hi
          omega)

theorem compact_sub (l : List Int) {x : Int} (h : x ∈ Lib.compact l) : x ∈ l := by
  unfold Lib.compact Lib.compactUpTo at h
  obtain ⟨j, hj, rfl⟩ := List.mem_map.1 h
  have hj' := List.mem_range.1 (List.mem_filter.1 hj).1
  have e : l.toArray[j]! = l[j] := by simp [hj']
  rw [e]
  exact List.getElem_mem hj'
theorem compact_any {base : Nat} (A : Option Addr) (c : Nat) (l : List Int) (w : World) (h : OwnZ base w A c l) (hl : ∀ x ∈ l, 0 ≤ x ∧ x < 96) :
    Calls Tryd.prog 9 #[.slice A l.length c] w fun e w' => e = .returned (.slice A (Lib.compact l).length c) ∧ Vec .i64 w' A c (Lib.compact l) ∧ Below base w w' ∧ w.grownBy w' (blk A) := by
  by_cases h0 : l.length = 0
  · obtain rfl : l = [] := List.length_eq_zero_iff.1 h0
    refine (Tryd.slices_Compact_int_empty A c w).mono ?_
    rintro e w' ⟨rfl, rfl⟩
    exact ⟨rfl, h.vec (by simp), Below.refl _ _, grown_refl _ _⟩
  · have hv0 := h.vec (fun x hx => by have := hl x hx; omega)
    rcases h.2 with hn | ⟨g, cap, cur, hv, hg, hb, h1, h2, h3, h4⟩
    · have e1 := hn.1
      injection e1 with _ e2 _
      exact absurd e2 h0
    · injection hv with e1 e2 e3
      subst e1
      subst e3
      have hle := Lib.compact_length_le l
      have hm := hv0.most
      refine (Tryd.slices_Compact_int g 0 c l w (holds_of_blockI hb (by rwa [Nat.mul_one] at h4)) (by omega) h1).mono ?_
      rintro e w' ⟨rfl, q, rfl⟩
      obtain ⟨ts, hts⟩ : ∃ ts, ts = Lib.compact l ++ List.replicate (l.length - (Lib.compact l).length) (0 : Int) := ⟨_, rfl⟩
      have htl : ts.length = l.length := by rw [hts]; simp; omega
      have eg : putRow (Value.int .i64) (Sort.ahead w q) g 0 ts.toArray = grow (putRow (Value.int .i64) (Sort.ahead w q) g 0 ts.toArray) #[] := by simp [grow]; rfl
      rw [← hts, eg]
      refine ⟨rfl, ?_, ?_, grownBy_sortedI _⟩
      · have := ownsRow_sortedI (n := q) (os := #[]) (ts := ts) htl hg hb h1 h2 h3
        have ho : OwnZ base (grow (putRow (Value.int .i64) (Sort.ahead w q) g 0 ts.toArray) #[]) (some ⟨g, 0, none⟩) c ts := by
          unfold OwnZ
          rw [htl]
          exact this
        have hv := ho.vec (fun x hx => by
          rw [hts] at hx
          rcases List.mem_append.1 hx with hx | hx
          · have := hl x (compact_sub l hx)
            omega
          · have := List.eq_of_mem_replicate hx
            omega)
        rw [hts] at hv
        rw [hts]
        exact hv.pre
      · exact grown_below (A := some ⟨g, 0, none⟩) (grownBy_sortedI _) (Nat.le_trans hg (Nat.le_of_lt (Array.getElem?_eq_some_iff.1 hb).1)) (fun i hi => by
          have : g = i := by simpa [blk] using hi
          omega)

theorem equal_any (A A' : Option Addr) (c c' : Nat) (l l' : List Int) (w : World) (h : Vec .i64 w A c l) (h' : Vec .i64 w A' c' l') :
    Calls Tryd.prog 7 #[.slice A l.length c, .slice A' l'.length c'] w fun e w' => e = .returned (.bool (l == l')) ∧ Below w.heap.size w w' := by
  have r1 := h.room
  have m1 := h.most
  have r2 := h'.room
  have m2 := h'.most
  by_cases h0 : l.length = 0
  · obtain rfl : l = [] := List.length_eq_zero_iff.1 h0
    refine (Tryd.slices_Equal_int_empty A A' c l'.length c' w (by omega)).mono ?_
    rintro e w' ⟨rfl, rfl⟩
    refine ⟨?_, Below.refl _ _⟩
    rcases l' with _ | ⟨x, l'⟩ <;> simp
  · by_cases h1 : l'.length = 0
    · obtain rfl : l' = [] := List.length_eq_zero_iff.1 h1
      refine (Tryd.slices_Equal_int_lens A A' l.length c 0 c' w h0).mono ?_
      rintro e w' ⟨rfl, rfl⟩
      refine ⟨?_, Below.refl _ _⟩
      rcases l with _ | ⟨x, l⟩
      · simp at h0
      · simp
    · obtain ⟨b, o, rfl, _, hc⟩ := h.rd (by omega)
      obtain ⟨b', o', rfl, _, hc'⟩ := h'.rd (by omega)
      refine (Tryd.slices_Equal_int b o l.length c b' o' l'.length c' l l' w (Nat.le_refl _) (Nat.le_refl _) (by omega) (by omega) hc hc').mono ?_
      rintro e w' ⟨rfl, q, rfl⟩
      exact ⟨by rw [List.take_length, List.take_length], below_drewN (Below.refl _ _) _⟩
end Go.Proofs.YtgljmcddakeoiaaDoor
