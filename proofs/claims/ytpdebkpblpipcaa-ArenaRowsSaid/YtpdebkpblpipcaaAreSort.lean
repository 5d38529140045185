/-
  Slots in order: what slices.SortFunc leaves.
-/
import Derived.Test.YtpdebkpblpipcaaAreOrd
import Derived.Test.YtpdebkpblpipcaaAreLay
namespace Go.Proofs.Ytpdebkpblpipcaa
open Go.RowKit Go.Shelf
set_option linter.unusedVariables false
set_option linter.unusedSimpArgs false
set_option maxRecDepth 100000

/-- The slot x stands ahead of the slot y, by rows. -/
def Ahd (l : List Ce) (x y : Nat) : Prop := (ceAt l x).i < (ceAt l y).i ∨ (ceAt l x).i = (ceAt l y).i ∧ ((ceAt l x).b < (ceAt l y).b ∨ (ceAt l x).b = (ceAt l y).b ∧ x < y)
instance (l : List Ce) (x y : Nat) : Decidable (Ahd l x y) := by unfold Ahd; infer_instance
theorem cf_neg (l : List Ce) (x y : Nat) : cfS l x y < 0 ↔ Ahd l x y := by
  unfold cfS or3 cmp3 Ahd
  by_cases h1 : (ceAt l x).i < (ceAt l y).i
  · simp [h1]
  · by_cases h2 : (ceAt l y).i < (ceAt l x).i
    · simp [h1, h2]; omega
    · have e : (ceAt l x).i = (ceAt l y).i := by omega
      by_cases h3 : (ceAt l x).b < (ceAt l y).b
      · simp [e, h3]
      · by_cases h4 : (ceAt l y).b < (ceAt l x).b
        · simp [e, h3, h4]; omega
        · have e2 : (ceAt l x).b = (ceAt l y).b := by omega
          by_cases h5 : x < y
          · simp [e, e2, h5]
          · by_cases h6 : y < x <;> simp [e, e2, h5, h6]
theorem ahd_irrefl (l : List Ce) (x : Nat) : ¬ Ahd l x x := by unfold Ahd; omega
theorem ahd_trans {l : List Ce} {x y z : Nat} (h : Ahd l x y) (k : Ahd l y z) : Ahd l x z := by unfold Ahd at *; omega
theorem ahd_tri {l : List Ce} {x y : Nat} (h : ¬ Ahd l x y) (k : ¬ Ahd l y x) : x = y := by unfold Ahd at *; omega
theorem ahd_asym {l : List Ce} {x y : Nat} (h : Ahd l x y) : ¬ Ahd l y x := by unfold Ahd at *; omega

/-- In order, each once. -/
def Srt (l : List Ce) (s : List Nat) : Prop := s.Pairwise (Ahd l)
theorem srt_eq {l : List Ce} {s s' : List Nat} (p : s.Perm s') (h : Srt l s) (h' : Srt l s') : s = s' :=
  List.Perm.eq_of_pairwise (le := Ahd l) (fun a b _ _ h1 h2 => absurd h2 (ahd_asym h1)) h h' p
def ordL (l : List Ce) (s : List Nat) : List Nat := s.mergeSort fun x y => !decide (cfS l y x < 0)
theorem ord_perm (l : List Ce) (s : List Nat) : (ordL l s).Perm s := List.mergeSort_perm _ _
theorem ord_srt (l : List Ce) {s : List Nat} (hn : s.Nodup) : Srt l (ordL l s) := by
  have h1 : (ordL l s).Pairwise (fun x y => (!decide (cfS l y x < 0)) = true) := by
    unfold ordL
    apply List.pairwise_mergeSort
    · intro a b c h1 h2
      simp only [Bool.not_eq_true', decide_eq_false_iff_not, cf_neg] at h1 h2 ⊢
      intro h3
      have := @ahd_tri l b a
      by_cases hab : Ahd l a b
      · exact h2 (ahd_trans h3 hab)
      · have := ahd_tri h1 hab
        subst this
        exact h2 h3
    · intro a b
      simp only [Bool.or_eq_true, Bool.not_eq_true', decide_eq_false_iff_not, cf_neg]
      by_cases h : Ahd l b a
      · exact .inr (ahd_asym h)
      · exact .inl h
  have h2 : (ordL l s).Nodup := (ord_perm l s).nodup_iff.2 hn
  refine (List.pairwise_and_iff.2 ⟨h1, h2⟩).imp fun {x y} h => ?_
  have h3 := h.1
  simp only [Bool.not_eq_true', decide_eq_false_iff_not, cf_neg] at h3
  by_cases h4 : Ahd l x y
  · exact h4
  · exact absurd (ahd_tri h4 h3) h.2
theorem ord_of {l : List Ce} {s r : List Nat} (p : r.Perm s) (h : Srt l r) (hn : s.Nodup) : ordL l s = r := srt_eq ((ord_perm l s).trans p.symm) (ord_srt l hn) h

def encF (x : Fin 96) : Value := .int .i64 (x.val : Int)
def cfF (l : List Ce) (x y : Fin 96) : Int := cfS l x.val y.val
theorem ltF (l : List Ce) (x y : Fin 96) : Go.Proofs.ltOf (cfF l) x y = decide (Ahd l x.val y.val) := by
  unfold Go.Proofs.ltOf cfF
  rw [Bool.eq_iff_iff]
  simp [cf_neg]
theorem swoF (l : List Ce) : Go.Sort.SWO (Go.Proofs.ltOf (cfF l)) where
  irrefl x := by rw [ltF]; simpa using ahd_irrefl l x.val
  trans x y z h1 h2 := by rw [ltF] at *; simp only [decide_eq_true_eq] at *; exact ahd_trans h1 h2
  ntrans x y z h1 h2 := by
    rw [ltF] at *
    simp only [decide_eq_false_iff_not] at *
    intro h3
    by_cases hyx : Ahd l y.val x.val
    · exact h2 (ahd_trans hyx h3)
    · have := ahd_tri h1 hyx
      rw [this] at h3
      exact h2 h3
theorem totF (l : List Ce) (x y : Fin 96) (h1 : Go.Proofs.ltOf (cfF l) x y = false) (h2 : Go.Proofs.ltOf (cfF l) y x = false) : x = y := by
  rw [ltF] at *
  simp only [decide_eq_false_iff_not] at *
  exact Fin.ext (ahd_tri h1 h2)
theorem merge_val (l : List Ce) (d : List (Fin 96)) : (d.mergeSort fun x y => !(Go.Proofs.ltOf (cfF l)) y x).map (fun x => x.val) = ordL l (d.map fun x => x.val) := by
  unfold ordL
  exact List.map_mergeSort (fun a _ b _ => by rw [ltF]; congr 1; rw [Bool.eq_iff_iff]; simp [cf_neg])

/-- Slots of the call's own. -/
def OwnS (base : Nat) (w : World) (A : Option Addr) (c : Nat) (s : List Nat) : Prop := w.ownsRow base 3 1 (.slice A s.length c) s.length (s.map fun (k : Nat) => Value.int .i64 (k : Int))
theorem OwnS.nil (base : Nat) (w : World) : OwnS base w none 0 [] := World.ownsRow_nil _ _ _ _
theorem OwnS.mono {base b : Nat} {w : World} {A : Option Addr} {c : Nat} {s : List Nat} (h : OwnS base w A c s) (hb : b ≤ base) : OwnS b w A c s := World.ownsRow.mono h hb
theorem OwnS.turn {base : Nat} {w w' : World} {A : Option Addr} {c : Nat} {s : List Nat} {S : Nat → Prop} (h : OwnS base w A c s) (ht : Turn S w w') (hS : ∀ i, base ≤ i → i < w.heap.size → ¬ S i) : OwnS base w' A c s :=
  row_turn h ht (fun i hi => hS i (World.ownsRow.lt h i hi).1 (World.ownsRow.lt h i hi).2)
theorem OwnS.below {base : Nat} {w w' : World} {A : Option Addr} {c : Nat} {s : List Nat} (h : OwnS base w A c s) (hb : Below w.heap.size w w') : OwnS base w' A c s := h.turn (Turn.of_below (S := fun _ => False) hb) (fun _ _ _ e => e)
theorem OwnS.vec {base : Nat} {w : World} {A : Option Addr} {c : Nat} {s : List Nat} (h : OwnS base w A c s) (hs : ∀ k ∈ s, k < 9223372036854775807) : Vec .i64 w A c (s.map fun (k : Nat) => (k : Int)) := by
  have h' : w.ownsRow base 3 1 (.slice A (s.map fun (k : Nat) => (k : Int)).length c) (s.map fun (k : Nat) => (k : Int)).length ((s.map fun (k : Nat) => (k : Int)).map (Value.int .i64)) := by
    rw [List.length_map, List.map_map]; exact h
  obtain ⟨A', c', e, hv⟩ := Vec.own (m := 0) h' (fun x hx => by
    obtain ⟨k, hk, rfl⟩ := List.mem_map.1 hx
    have := hs k hk
    simp [Lit.wf, IntKind.min, IntKind.max, IntKind.signed, IntKind.bits]; omega)
  injection e with e1 _ e2
  subst e1
  subst e2
  exact hv

/-- What the sort leaves: the row's cells, and nothing else turned. -/
theorem sort_turn (W : World) (g m : Nat) (d : Array (Fin 96)) (os : Array Obj) (hg : g < W.heap.size) : Turn (fun i => i = g) W (Go.Proofs.sortWorld encF W g 0 m d os) := by
  refine ⟨rfl, rfl, rfl, ?_, fun k hk hn => ?_⟩
  · unfold Go.Proofs.sortWorld
    rw [Go.Sort.size_grow, Go.Proofs.size_putRow]
    exact Nat.le_add_right _ _
  · unfold Go.Proofs.sortWorld
    rw [Go.Sort.heap_grow_old _ _ (by rw [Go.Proofs.size_putRow]; exact hk)]
    unfold Go.Sort.putRow Go.Sort.mapBlock
    simp only [Array.getElem?_modify]
    rw [if_neg (fun e => hn e.symm)]
    rfl
theorem sort_cells (W : World) (g m : Nat) (d : Array (Fin 96)) (os : Array Obj) (hg : g < W.heap.size) {cur : Array Value} {e : TypeId} (hc : W.heap[g]? = some (.cells cur e (0, 0))) : (Go.Proofs.sortWorld encF W g 0 m d os).heap[g]? = some (.cells (Go.Sort.putCells encF 0 d cur) e (0, 0)) := by
  unfold Go.Proofs.sortWorld
  rw [Go.Sort.heap_grow_old _ _ (by rw [Go.Proofs.size_putRow]; exact hg)]
  unfold Go.Sort.putRow Go.Sort.mapBlock
  simp only [Array.getElem?_modify, if_true]
  show (W.heap[g]?).map _ = _
  rw [hc]
  rfl
theorem put_take (d : Array (Fin 96)) (cur : Array Value) (h : d.size ≤ cur.size) : (Go.Sort.putCells encF 0 d cur).toList.take d.size = d.toList.map encF := by
  apply List.ext_getElem?
  intro k
  by_cases hk : k < d.size
  · rw [List.getElem?_take_of_lt hk, List.getElem?_map, Array.getElem?_toList, Array.getElem?_toList]
    unfold Go.Sort.putCells
    rw [Array.getElem?_mapIdx, Array.getElem?_eq_getElem (show k < cur.size by omega), Array.getElem?_eq_getElem hk]
    simp only [Option.map_some]
    rw [if_pos ⟨Nat.zero_le _, by omega⟩, Nat.sub_zero, getElem!_pos d k hk]
  · rw [List.getElem?_eq_none (by simp; omega), List.getElem?_eq_none (by simp; omega)]
theorem sort_own {base g c m : Nat} {W : World} {s : List Nat} (h : OwnS base W (some ⟨g, 0, none⟩) c s) (d : Array (Fin 96)) (hd : d.size = s.length) (os : Array Obj) : OwnS base (Go.Proofs.sortWorld encF W g 0 m d os) (some ⟨g, 0, none⟩) c (d.toList.map fun x => x.val) := by
  rcases h.2 with ⟨e, _⟩ | ⟨g', cap, cur, e, hg, hh, hnc, hcm, hsz, hcs⟩
  · injection e with e1; cases e1
  · injection e with e1 _ e3
    injection e1 with e1
    injection e1 with e1
    subst e1
    subst e3
    have hl : (d.toList.map fun x => x.val).length = s.length := by simp [hd]
    refine ⟨by simp, .inr ⟨g, c, _, by rw [hl], hg, sort_cells W g m d os (lt_of_block hh) hh, by rw [hl]; exact hnc, hcm, by simp [Go.Sort.putCells, hsz], ?_⟩⟩
    rw [hl, Nat.mul_one, ← hd, put_take d cur (by omega), List.map_map]
    rfl
theorem holdsF {base g c : Nat} {W : World} {s : List Nat} (h : OwnS base W (some ⟨g, 0, none⟩) c s) (d : Array (Fin 96)) (hd : d.toList.map (fun x => x.val) = s) : Go.Sort.Holds encF W g 0 d := by
  intro j hj
  have hl : s.length = d.size := by rw [← hd]; simp
  refine ⟨?_, World.ownsRow.frozenAt h _⟩
  have := World.ownsRow.cellAt h j (by rw [Nat.mul_one]; omega)
  rw [Nat.zero_add, this, ← hd]
  simp [encF, hj]

end Go.Proofs.Ytpdebkpblpipcaa
