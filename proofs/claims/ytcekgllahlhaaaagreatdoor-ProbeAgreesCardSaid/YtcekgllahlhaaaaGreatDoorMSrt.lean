/-
  AreOrd, AreLay, AreSort, AreSort2.
-/
import Derived.Test.YtcekgllahlhaaaaGreatDoorMAre
import Derived.Sort.Grow
import Derived.Test.YtcekgllahlhaaaaGreatDoorRows
import Derived.Shelf.SlSortCmp.NoneTotal
namespace Go.Proofs.YtcekgllahlhaaaaGreatDoor
open Go.RowKit Go.Shelf
set_option linter.unusedVariables false
set_option linter.unusedSimpArgs false
set_option maxRecDepth 100000

/-- How two slots stand: by Id, by Begin, by slot. -/
def cfS (l : List Ce) (x y : Nat) : Int := or3 (cmp3 (ceAt l x).i (ceAt l y).i) (cmp3 (ceAt l x).b (ceAt l y).b) (cmp3 x y)

/-- What grows and turns nothing. -/
theorem grow_of {W W' : World} (hb : Below W.heap.size W W') (q : Nat) (hd : W'.drawn = W.drawn + q) : ∃ os, W' = Go.Sort.grow (W.drewN q) os := by
  refine ⟨W'.heap.extract W.heap.size W'.heap.size, ?_⟩
  have h1 := hb.os
  have h2 := hb.tape
  have h3 := hb.output
  have hh : W'.heap = W.heap ++ W'.heap.extract W.heap.size W'.heap.size := by
    apply Array.ext_getElem?
    intro k
    by_cases hk : k < W.heap.size
    · rw [Array.getElem?_append_left hk]; exact hb.block k hk
    · rw [Array.getElem?_append_right (by omega), Array.getElem?_extract]
      have hs := hb.size
      by_cases hk2 : k < W'.heap.size
      · rw [if_pos (by omega)]; congr 1; omega
      · rw [if_neg (by omega), Array.getElem?_eq_none (by omega)]
  rcases W' with ⟨h', t', d', o', u'⟩
  dsimp only at h1 h2 h3 hd hh
  subst h1 h2 h3 hd
  exact congrArg (fun h => World.mk h W.tape (W.drawn + q) W.os W.output) hh

/-- Two boxes of cells, laid one behind the other. -/
theorem two_cells (w : World) (u u' : Bool) (i i' b b' f f' : Int) (y y' : Value) :
    Below w.heap.size w ((w.alloc (.cells #[.bool u, .int .u64 i, .int .u64 b, .int .u64 f, y] 61)).alloc (.cells #[.bool u', .int .u64 i', .int .u64 b', .int .u64 f', y'] 61)).drew ∧ ((w.alloc (.cells #[.bool u, .int .u64 i, .int .u64 b, .int .u64 f, y] 61)).alloc (.cells #[.bool u', .int .u64 i', .int .u64 b', .int .u64 f', y'] 61)).drew.drawn = w.drawn + 1 ∧
    ((w.alloc (.cells #[.bool u, .int .u64 i, .int .u64 b, .int .u64 f, y] 61)).alloc (.cells #[.bool u', .int .u64 i', .int .u64 b', .int .u64 f', y'] 61)).drew.heap.size = w.heap.size + 2 ∧
    ∀ X, Below ((w.alloc (.cells #[.bool u, .int .u64 i, .int .u64 b, .int .u64 f, y] 61)).alloc (.cells #[.bool u', .int .u64 i', .int .u64 b', .int .u64 f', y'] 61)).drew.heap.size ((w.alloc (.cells #[.bool u, .int .u64 i, .int .u64 b, .int .u64 f, y] 61)).alloc (.cells #[.bool u', .int .u64 i', .int .u64 b', .int .u64 f', y'] 61)).drew X →
      (X.cell? ⟨w.heap.size, 1, none⟩ = some (.int .u64 i) ∧ X.cell? ⟨w.heap.size, 2, none⟩ = some (.int .u64 b)) ∧ X.cell? ⟨w.heap.size + 1, 1, none⟩ = some (.int .u64 i') ∧ X.cell? ⟨w.heap.size + 1, 2, none⟩ = some (.int .u64 b') := by
  obtain ⟨V, hV⟩ : ∃ V, V = ((w.alloc (.cells #[.bool u, .int .u64 i, .int .u64 b, .int .u64 f, y] 61)).alloc (.cells #[.bool u', .int .u64 i', .int .u64 b', .int .u64 f', y'] 61)).drew := ⟨_, rfl⟩
  rw [← hV]
  have hz : V.heap.size = w.heap.size + 2 := by rw [hV]; show ((w.alloc _).alloc _).heap.size = _; simp
  have hx : V.heap[w.heap.size]? = some (.cells #[.bool u, .int .u64 i, .int .u64 b, .int .u64 f, y] 61 (0, 0)) := by rw [hV]; exact (Below.heap_alloc _ _ _ (by simp)).trans (heap_alloc_new _ _)
  have hy : V.heap[w.heap.size + 1]? = some (.cells #[.bool u', .int .u64 i', .int .u64 b', .int .u64 f', y'] 61 (0, 0)) := by
    rw [hV]
    have h := heap_alloc_new (w.alloc (.cells #[.bool u, .int .u64 i, .int .u64 b, .int .u64 f, y] 61)) (.cells #[.bool u', .int .u64 i', .int .u64 b', .int .u64 f', y'] 61)
    rw [World.size_alloc] at h
    exact h
  refine ⟨by rw [hV]; exact below_drew (((Below.refl _ w).alloc (Nat.le_refl _) _).alloc (by simp) _), by rw [hV]; rfl, hz, fun X hX => ?_⟩
  have hX1 := (hX.block w.heap.size (by omega)).trans hx
  have hX2 := (hX.block (w.heap.size + 1) (by omega)).trans hy
  exact ⟨⟨(cell_of_row _ _ 1 _ _ _ hX1).trans rfl, (cell_of_row _ _ 2 _ _ _ hX1).trans rfl⟩, (cell_of_row _ _ 1 _ _ _ hX2).trans rfl, (cell_of_row _ _ 2 _ _ _ hX2).trans rfl⟩

end Go.Proofs.YtcekgllahlhaaaaGreatDoor

namespace Go.Proofs.YtcekgllahlhaaaaGreatDoor
open Go.RowKit Go.Shelf
set_option maxRecDepth 100000

def sortIren : Go.Shelf.Ren := ⟨fun | 6 => 81 | 15 => 110 | 14 => 109 | 28 => 129 | 29 => 130 | 20 => 121 | 21 => 122 | 22 => 123 | 23 => 124 | 24 => 125 | 25 => 126 | 26 => 127 | 27 => 128 | 46 => 133 | 47 => 134 | 48 => 135 | 49 => 136 | 50 => 137 | 57 => 145 | n => n, fun | 22 => 53 | 24 => 3 | 25 => 139 | 3 => 3 | 39 => 164 | 0 => 0 | 53 => 181 | 55 => 29 | 4 => 4 | 46 => 174 | 45 => 173 | 50 => 178 | 5 => 5 | 9 => 9 | 66 => 185 | 70 => 189 | 76 => 203 | 77 => 204 | n => n, fun | n => n⟩
set_option maxHeartbeats 1000000 in
theorem sortI : Go.Proofs.SlLaysF.n6 Tryz.prog sortIren := {
  mixed := by kernel_rfl,
  f6 := ⟨Tryz.f81.name, by decide, Tryz.func81.trans (congrArg some (by kernel_rfl))⟩,
  f14 := ⟨Tryz.f109.name, by decide, Tryz.func109.trans (congrArg some (by kernel_rfl))⟩,
  f15 := Tryz.func110.trans (congrArg some (by kernel_rfl)),
  f20 := ⟨Tryz.f121.name, by decide, Tryz.func121.trans (congrArg some (by kernel_rfl))⟩,
  f21 := ⟨Tryz.f122.name, by decide, Tryz.func122.trans (congrArg some (by kernel_rfl))⟩,
  f22 := ⟨Tryz.f123.name, by decide, Tryz.func123.trans (congrArg some (by kernel_rfl))⟩,
  f23 := ⟨Tryz.f124.name, by decide, Tryz.func124.trans (congrArg some (by kernel_rfl))⟩,
  f24 := ⟨Tryz.f125.name, by decide, Tryz.func125.trans (congrArg some (by kernel_rfl))⟩,
  f25 := ⟨Tryz.f126.name, by decide, Tryz.func126.trans (congrArg some (by kernel_rfl))⟩,
  f26 := ⟨Tryz.f127.name, by decide, Tryz.func127.trans (congrArg some (by kernel_rfl))⟩,
  f27 := ⟨Tryz.f128.name, by decide, Tryz.func128.trans (congrArg some (by kernel_rfl))⟩,
  f28 := Tryz.func129.trans (congrArg some (by kernel_rfl)),
  f29 := Tryz.func130.trans (congrArg some (by kernel_rfl)),
  f46 := ⟨Tryz.f133.name, by decide, Tryz.func133.trans (congrArg some (by kernel_rfl))⟩,
  f47 := Tryz.func134.trans (congrArg some (by kernel_rfl)),
  f48 := Tryz.func135.trans (congrArg some (by kernel_rfl)),
  f49 := ⟨Tryz.f136.name, by decide, Tryz.func136.trans (congrArg some (by kernel_rfl))⟩,
  f50 := ⟨Tryz.f137.name, by decide, Tryz.func137.trans (congrArg some (by kernel_rfl))⟩,
  f57 := ⟨Tryz.f145.name, by decide, Tryz.func145.trans (congrArg some (by kernel_rfl))⟩,
  t0 := Tryz.underlying0,
  a0 := Tryz.isAgg0,
  z0 := Tryz.sizeOf0,
  v0 := Tryz.zeroValue0,
  t3 := Tryz.underlying3,
  a3 := Tryz.isAgg3,
  z3 := Tryz.sizeOf3,
  v3 := Tryz.zeroValue3,
  t4 := Tryz.underlying4,
  a4 := Tryz.isAgg4,
  z4 := Tryz.sizeOf4,
  v4 := Tryz.zeroValue4,
  t5 := Tryz.underlying5,
  a5 := Tryz.isAgg5,
  z5 := Tryz.sizeOf5,
  v5 := Tryz.zeroValue5,
  t9 := Tryz.underlying9,
  a9 := Tryz.isAgg9,
  z9 := Tryz.sizeOf9,
  v9 := Tryz.zeroValue9,
  t22 := Tryz.underlying53,
  a22 := Tryz.isAgg53,
  z22 := Tryz.sizeOf53,
  v22 := Tryz.zeroValue53,
  a24 := Tryz.isAgg3,
  z24 := Tryz.sizeOf3,
  t25 := Tryz.underlying139,
  a25 := Tryz.isAgg139,
  z25 := Tryz.sizeOf139,
  v25 := Tryz.zeroValue139,
  t39 := Tryz.underlying164,
  a39 := Tryz.isAgg164,
  z39 := Tryz.sizeOf164,
  v39 := Tryz.zeroValue164,
  t45 := Tryz.underlying173,
  a45 := Tryz.isAgg173,
  z45 := Tryz.sizeOf173,
  v45 := Tryz.zeroValue173,
  t46 := Tryz.underlying174,
  a46 := Tryz.isAgg174,
  z46 := Tryz.sizeOf174,
  v46 := Tryz.zeroValue174,
  t50 := Tryz.underlying178,
  a50 := Tryz.isAgg178,
  z50 := Tryz.sizeOf178,
  v50 := Tryz.zeroValue178,
  t53 := Tryz.underlying181,
  a53 := Tryz.isAgg181,
  z53 := Tryz.sizeOf181,
  v53 := Tryz.zeroValue181,
  t55 := Tryz.underlying29,
  a55 := Tryz.isAgg29,
  z55 := Tryz.sizeOf29,
  v55 := Tryz.zeroValue29,
  t66 := Tryz.underlying185,
  a66 := Tryz.isAgg185,
  z66 := Tryz.sizeOf185,
  v66 := Tryz.zeroValue185,
  t70 := Tryz.underlying189,
  a70 := Tryz.isAgg189,
  z70 := Tryz.sizeOf189,
  v70 := Tryz.zeroValue189,
  t76 := Tryz.underlying203,
  a76 := Tryz.isAgg203,
  z76 := Tryz.sizeOf203,
  v76 := Tryz.zeroValue203,
  t77 := Tryz.underlying204,
  a77 := Tryz.isAgg204,
  z77 := Tryz.sizeOf204,
  v77 := Tryz.zeroValue204 }

end Go.Proofs.YtcekgllahlhaaaaGreatDoor

namespace Go.Proofs.YtcekgllahlhaaaaGreatDoor
open Go.RowKit Go.Shelf
set_option linter.unusedVariables false
set_option linter.unusedSimpArgs false
set_option maxRecDepth 100000

/-- The slot x stands ahead of the slot y, by rows. -/
def Ahd (l : List Ce) (x y : Nat) : Prop := (ceAt l x).i < (ceAt l y).i ∨ (ceAt l x).i = (ceAt l y).i ∧ ((ceAt l x).b < (ceAt l y).b ∨ (ceAt l x).b = (ceAt l y).b ∧ x < y)
instance (l : List Ce) (x y : Nat) : Decidable (Ahd l x y) := by unfold Ahd; infer_instance
theorem cf_neg (l : List Ce) (x y : Nat) : cfS l x y < 0 ↔ Ahd l x y := by
  unfold cfS or3 cmp3 Ahd
  by_cases h1 : (ceAt l x).i < (ceAt l y).i
  · simp [h1]
  · by_cases h2 : (ceAt l y).i < (ceAt l x).i
    · simp [h1, h2]; omega
    · have e : (ceAt l x).i = (ceAt l y).i := by omega
      by_cases h3 : (ceAt l x).b < (ceAt l y).b
      · simp [e, h3]
      · by_cases h4 : (ceAt l y).b < (ceAt l x).b
        · simp [e, h3, h4]; omega
        · have e2 : (ceAt l x).b = (ceAt l y).b := by omega
          by_cases h5 : x < y
          · simp [e, e2, h5]
          · by_cases h6 : y < x <;> simp [e, e2, h5, h6]
theorem ahd_irrefl (l : List Ce) (x : Nat) : ¬ Ahd l x x := by unfold Ahd; omega
theorem ahd_trans {l : List Ce} {x y z : Nat} (h : Ahd l x y) (k : Ahd l y z) : Ahd l x z := by unfold Ahd at *; omega
theorem ahd_tri {l : List Ce} {x y : Nat} (h : ¬ Ahd l x y) (k : ¬ Ahd l y x) : x = y := by unfold Ahd at *; omega
theorem ahd_asym {l : List Ce} {x y : Nat} (h : Ahd l x y) : ¬ Ahd l y x := by unfold Ahd at *; omega

/-- In order, each once. -/
def Srt (l : List Ce) (s : List Nat) : Prop := s.Pairwise (Ahd l)
theorem srt_eq {l : List Ce} {s s' : List Nat} (p : s.Perm s') (h : Srt l s) (h' : Srt l s') : s = s' :=
  List.Perm.eq_of_pairwise (le := Ahd l) (fun a b _ _ h1 h2 => absurd h2 (ahd_asym h1)) h h' p
def ordL (l : List Ce) (s : List Nat) : List Nat := s.mergeSort fun x y => !decide (cfS l y x < 0)
theorem ord_perm (l : List Ce) (s : List Nat) : (ordL l s).Perm s := List.mergeSort_perm _ _
theorem ord_srt (l : List Ce) {s : List Nat} (hn : s.Nodup) : Srt l (ordL l s) := by
  have h1 : (ordL l s).Pairwise (fun x y => (!decide (cfS l y x < 0)) = true) := by
    unfold ordL
    apply List.pairwise_mergeSort
    · intro a b c h1 h2
      simp only [Bool.not_eq_true', decide_eq_false_iff_not, cf_neg] at h1 h2 ⊢
      intro h3
      have := @ahd_tri l b a
      by_cases hab : Ahd l a b
      · exact h2 (ahd_trans h3 hab)
      · have := ahd_tri h1 hab
        subst this
        exact h2 h3
    · intro a b
      simp only [Bool.or_eq_true, Bool.not_eq_true', decide_eq_false_iff_not, cf_neg]
      by_cases h : Ahd l b a
      · exact .inr (ahd_asym h)
      · exact .inl h
  have h2 : (ordL l s).Nodup := (ord_perm l s).nodup_iff.2 hn
  refine (List.pairwise_and_iff.2 ⟨h1, h2⟩).imp fun {x y} h => ?_
  have h3 := h.1
  simp only [Bool.not_eq_true', decide_eq_false_iff_not, cf_neg] at h3
  by_cases h4 : Ahd l x y
  · exact h4
  · exact absurd (ahd_tri h4 h3) h.2
theorem ord_of {l : List Ce} {s r : List Nat} (p : r.Perm s) (h : Srt l r) (hn : s.Nodup) : ordL l s = r := srt_eq ((ord_perm l s).trans p.symm) (ord_srt l hn) h

def encF (x : Fin 96) : Value := .int .i64 (x.val : Int)
def cfF (l : List Ce) (x y : Fin 96) : Int := cfS l x.val y.val
theorem ltF (l : List Ce) (x y : Fin 96) : Go.Proofs.ltOf (cfF l) x y = decide (Ahd l x.val y.val) := by
  unfold Go.Proofs.ltOf cfF
  rw [Bool.eq_iff_iff]
  simp [cf_neg]
theorem swoF (l : List Ce) : Go.Sort.SWO (Go.Proofs.ltOf (cfF l)) where
  irrefl x := by rw [ltF]; simpa using ahd_irrefl l x.val
  trans x y z h1 h2 := by rw [ltF] at *; simp only [decide_eq_true_eq] at *; exact ahd_trans h1 h2
  ntrans x y z h1 h2 := by
    rw [ltF] at *
    simp only [decide_eq_false_iff_not] at *
    intro h3
    by_cases hyx : Ahd l y.val x.val
    · exact h2 (ahd_trans hyx h3)
    · have := ahd_tri h1 hyx
      rw [this] at h3
      exact h2 h3
theorem totF (l : List Ce) (x y : Fin 96) (h1 : Go.Proofs.ltOf (cfF l) x y = false) (h2 : Go.Proofs.ltOf (cfF l) y x = false) : x = y := by
  rw [ltF] at *
  simp only [decide_eq_false_iff_not] at *
  exact Fin.ext (ahd_tri h1 h2)
theorem merge_val (l : List Ce) (d : List (Fin 96)) : (d.mergeSort fun x y => !(Go.Proofs.ltOf (cfF l)) y x).map (fun x => x.val) = ordL l (d.map fun x => x.val) := by
  unfold ordL
  exact List.map_mergeSort (fun a _ b _ => by rw [ltF]; congr 1; rw [Bool.eq_iff_iff]; simp [cf_neg])

/-- Slots of the call's own. -/
def OwnS (base : Nat) (w : World) (A : Option Addr) (c : Nat) (s : List Nat) : Prop := w.ownsRow base 3 1 (.slice A s.length c) s.length (s.map fun (k : Nat) => Value.int .i64 (k : Int))
theorem OwnS.nil (base : Nat) (w : World) : OwnS base w none 0 [] := World.ownsRow_nil _ _ _ _
theorem OwnS.mono {base b : Nat} {w : World} {A : Option Addr} {c : Nat} {s : List Nat} (h : OwnS base w A c s) (hb : b ≤ base) : OwnS b w A c s := World.ownsRow.mono h hb
theorem OwnS.turn {base : Nat} {w w' : World} {A : Option Addr} {c : Nat} {s : List Nat} {S : Nat → Prop} (h : OwnS base w A c s) (ht : Turn S w w') (hS : ∀ i, base ≤ i → i < w.heap.size → ¬ S i) : OwnS base w' A c s :=
  row_turn h ht (fun i hi => hS i (World.ownsRow.lt h i hi).1 (World.ownsRow.lt h i hi).2)
theorem OwnS.below {base : Nat} {w w' : World} {A : Option Addr} {c : Nat} {s : List Nat} (h : OwnS base w A c s) (hb : Below w.heap.size w w') : OwnS base w' A c s := h.turn (Turn.of_below (S := fun _ => False) hb) (fun _ _ _ e => e)
theorem OwnS.vec {base : Nat} {w : World} {A : Option Addr} {c : Nat} {s : List Nat} (h : OwnS base w A c s) (hs : ∀ k ∈ s, k < 9223372036854775807) : Vec .i64 w A c (s.map fun (k : Nat) => (k : Int)) := by
  have h' : w.ownsRow base 3 1 (.slice A (s.map fun (k : Nat) => (k : Int)).length c) (s.map fun (k : Nat) => (k : Int)).length ((s.map fun (k : Nat) => (k : Int)).map (Value.int .i64)) := by
    rw [List.length_map, List.map_map]; exact h
  obtain ⟨A', c', e, hv⟩ := Vec.own (m := 0) h' (fun x hx => by
    obtain ⟨k, hk, rfl⟩ := List.mem_map.1 hx
    have := hs k hk
    simp [Lit.wf, IntKind.min, IntKind.max, IntKind.signed, IntKind.bits]; omega)
  injection e with e1 _ e2
  subst e1
  subst e2
  exact hv

/-- What the sort leaves: the row's cells, and nothing else turned. -/
theorem sort_turn (W : World) (g m : Nat) (d : Array (Fin 96)) (os : Array Obj) (hg : g < W.heap.size) : Turn (fun i => i = g) W (Go.Proofs.sortWorld encF W g 0 m d os) := by
  refine ⟨rfl, rfl, rfl, ?_, fun k hk hn => ?_⟩
  · unfold Go.Proofs.sortWorld
    rw [Go.Sort.size_grow, Go.Proofs.size_putRow]
    exact Nat.le_add_right _ _
  · unfold Go.Proofs.sortWorld
    rw [Go.Sort.heap_grow_old _ _ (by rw [Go.Proofs.size_putRow]; exact hk)]
    unfold Go.Sort.putRow Go.Sort.mapBlock
    simp only [Array.getElem?_modify]
    rw [if_neg (fun e => hn e.symm)]
    rfl
theorem sort_cells (W : World) (g m : Nat) (d : Array (Fin 96)) (os : Array Obj) (hg : g < W.heap.size) {cur : Array Value} {e : TypeId} (hc : W.heap[g]? = some (.cells cur e (0, 0))) : (Go.Proofs.sortWorld encF W g 0 m d os).heap[g]? = some (.cells (Go.Sort.putCells encF 0 d cur) e (0, 0)) := by
  unfold Go.Proofs.sortWorld
  rw [Go.Sort.heap_grow_old _ _ (by rw [Go.Proofs.size_putRow]; exact hg)]
  unfold Go.Sort.putRow Go.Sort.mapBlock
  simp only [Array.getElem?_modify, if_true]
  show (W.heap[g]?).map _ = _
  rw [hc]
  rfl
theorem put_take (d : Array (Fin 96)) (cur : Array Value) (h : d.size ≤ cur.size) : (Go.Sort.putCells encF 0 d cur).toList.take d.size = d.toList.map encF := by
  apply List.ext_getElem?
  intro k
  by_cases hk : k < d.size
  · rw [List.getElem?_take_of_lt hk, List.getElem?_map, Array.getElem?_toList, Array.getElem?_toList]
    unfold Go.Sort.putCells
    rw [Array.getElem?_mapIdx, Array.getElem?_eq_getElem (show k < cur.size by omega), Array.getElem?_eq_getElem hk]
    simp only [Option.map_some]
    rw [if_pos ⟨Nat.zero_le _, by omega⟩, Nat.sub_zero, getElem!_pos d k hk]
  · rw [List.getElem?_eq_none (by simp; omega), List.getElem?_eq_none (by simp; omega)]
theorem sort_own {base g c m : Nat} {W : World} {s : List Nat} (h : OwnS base W (some ⟨g, 0, none⟩) c s) (d : Array (Fin 96)) (hd : d.size = s.length) (os : Array Obj) : OwnS base (Go.Proofs.sortWorld encF W g 0 m d os) (some ⟨g, 0, none⟩) c (d.toList.map fun x => x.val) := by
  rcases h.2 with ⟨e, _⟩ | ⟨g', cap, cur, e, hg, hh, hnc, hcm, hsz, hcs⟩
  · injection e with e1; cases e1
  · injection e with e1 _ e3
    injection e1 with e1
    injection e1 with e1
    subst e1
    subst e3
    have hl : (d.toList.map fun x => x.val).length = s.length := by simp [hd]
    refine ⟨by simp, .inr ⟨g, c, _, by rw [hl], hg, sort_cells W g m d os (lt_of_block hh) hh, by rw [hl]; exact hnc, hcm, by simp [Go.Sort.putCells, hsz], ?_⟩⟩
    rw [hl, Nat.mul_one, ← hd, put_take d cur (by omega), List.map_map]
    rfl
theorem holdsF {base g c : Nat} {W : World} {s : List Nat} (h : OwnS base W (some ⟨g, 0, none⟩) c s) (d : Array (Fin 96)) (hd : d.toList.map (fun x => x.val) = s) : Go.Sort.Holds encF W g 0 d := by
  intro j hj
  have hl : s.length = d.size := by rw [← hd]; simp
  refine ⟨?_, World.ownsRow.frozenAt h _⟩
  have := World.ownsRow.cellAt h j (by rw [Nat.mul_one]; omega)
  rw [Nat.zero_add, this, ← hd]
  simp [encF, hj]

end Go.Proofs.YtcekgllahlhaaaaGreatDoor

namespace Go.Proofs.YtcekgllahlhaaaaGreatDoor
open Go.RowKit Go.Shelf
set_option linter.unusedVariables false
set_option linter.unusedSimpArgs false
set_option maxRecDepth 100000

def toF (s : List Nat) : Array (Fin 96) := (s.map fun (k : Nat) => Fin.ofNat 96 k).toArray
theorem toF_val {s : List Nat} (h : ∀ k ∈ s, k < 96) : (toF s).toList.map (fun x => x.val) = s := by
  unfold toF
  rw [List.map_map]
  conv => rhs; rw [← List.map_id s]
  refine List.map_congr_left fun k hk => ?_
  exact Nat.mod_eq_of_lt (h k hk)
theorem toF_size (s : List Nat) : (toF s).size = s.length := by simp [toF]

end Go.Proofs.YtcekgllahlhaaaaGreatDoor
