/-
  PrbMath, PrbSort, PrbSeq, PrbOrd, PrbTell, PrbOrd2, PrbOrd3, PrbSea, PrbNear.
-/
import Derived.Test.YtcekgllahlhaaaaGreatDoorMVec
import Derived.Test.YtcekgllahlhaaaaGreatDoorMSrt
import Derived.Test.YtcekgllahlhaaaaGreatDoorMAre
import Derived.Test.YtcekgllahlhaaaaGreatDoorMLis
import Derived.RangeFuncBox
import Derived.OwnWalkIn
import Derived.Test.YtcekgllahlhaaaaGreatDoorMFla
namespace Go.Proofs.YtcekgllahlhaaaaGreatDoor
set_option linter.unusedVariables false
set_option linter.unusedSimpArgs false
set_option maxRecDepth 100000

/-- The place x stands ahead of the place y. -/
def AhP (D : Nat → Int) (x y : Nat) : Prop := D x < D y ∨ D x = D y ∧ x < y
instance (D : Nat → Int) (x y : Nat) : Decidable (AhP D x y) := by unfold AhP; infer_instance
def cfP (D : Nat → Int) (x y : Nat) : Int := orM (cmpM (D x) (D y)) (cmpM (x : Int) (y : Int))
theorem cfP_neg (D : Nat → Int) (x y : Nat) : cfP D x y < 0 ↔ AhP D x y := by
  unfold cfP orM cmpM AhP
  by_cases h1 : D x < D y
  · simp [h1]
  · by_cases h2 : D y < D x
    · simp [h1, h2]; omega
    · have e : D x = D y := by omega
      by_cases h5 : x < y
      · simp [e, h5]
      · by_cases h6 : y < x <;> simp [e, h5, h6]
theorem ahP_irrefl (D : Nat → Int) (x : Nat) : ¬ AhP D x x := by unfold AhP; omega
theorem ahP_trans {D : Nat → Int} {x y z : Nat} (h : AhP D x y) (k : AhP D y z) : AhP D x z := by unfold AhP at *; omega
theorem ahP_tri {D : Nat → Int} {x y : Nat} (h : ¬ AhP D x y) (k : ¬ AhP D y x) : x = y := by unfold AhP at *; omega
theorem ahP_asym {D : Nat → Int} {x y : Nat} (h : AhP D x y) : ¬ AhP D y x := by unfold AhP at *; omega

def SrtP (D : Nat → Int) (s : List Nat) : Prop := s.Pairwise (AhP D)
theorem srtP_eq {D : Nat → Int} {s s' : List Nat} (p : s.Perm s') (h : SrtP D s) (h' : SrtP D s') : s = s' :=
  List.Perm.eq_of_pairwise (le := AhP D) (fun a b _ _ h1 h2 => absurd h2 (ahP_asym h1)) h h' p
def ordP (D : Nat → Int) (s : List Nat) : List Nat := s.mergeSort fun x y => !decide (cfP D y x < 0)
theorem ordP_perm (D : Nat → Int) (s : List Nat) : (ordP D s).Perm s := List.mergeSort_perm _ _
theorem ordP_srt (D : Nat → Int) {s : List Nat} (hn : s.Nodup) : SrtP D (ordP D s) := by
  have h1 : (ordP D s).Pairwise (fun x y => (!decide (cfP D y x < 0)) = true) := by
    unfold ordP
    apply List.pairwise_mergeSort
    · intro a b c h1 h2
      simp only [Bool.not_eq_true', decide_eq_false_iff_not, cfP_neg] at h1 h2 ⊢
      intro h3
      by_cases hab : AhP D a b
      · exact h2 (ahP_trans h3 hab)
      · have := ahP_tri h1 hab
        subst this
        exact h2 h3
    · intro a b
      simp only [Bool.or_eq_true, Bool.not_eq_true', decide_eq_false_iff_not, cfP_neg]
      by_cases h : AhP D b a
      · exact .inr (ahP_asym h)
      · exact .inl h
  have h2 : (ordP D s).Nodup := (ordP_perm D s).nodup_iff.2 hn
  refine (List.pairwise_and_iff.2 ⟨h1, h2⟩).imp fun {x y} h => ?_
  have h3 := h.1
  simp only [Bool.not_eq_true', decide_eq_false_iff_not, cfP_neg] at h3
  by_cases h4 : AhP D x y
  · exact h4
  · exact absurd (ahP_tri h4 h3) h.2

/-- All places, the nearest first; the first of these. -/
def placesP (D : Nat → Int) (n : Nat) : List Nat := ordP D (List.range n)
def askedP (D : Nat → Int) (n N : Nat) : List Nat := (placesP D n).take N
theorem places_perm (D : Nat → Int) (n : Nat) : (placesP D n).Perm (List.range n) := ordP_perm _ _
theorem places_len (D : Nat → Int) (n : Nat) : (placesP D n).length = n := by rw [(places_perm D n).length_eq, List.length_range]
theorem places_srt (D : Nat → Int) (n : Nat) : SrtP D (placesP D n) := ordP_srt D List.nodup_range
theorem places_mem (D : Nat → Int) (n k : Nat) : k ∈ placesP D n ↔ k < n := by rw [(places_perm D n).mem_iff, List.mem_range]
theorem places_nodup (D : Nat → Int) (n : Nat) : (placesP D n).Nodup := (places_perm D n).nodup_iff.2 List.nodup_range
theorem asked_len (D : Nat → Int) (n N : Nat) : (askedP D n N).length = min N n := by unfold askedP; rw [List.length_take, places_len]
theorem asked_mem {D : Nat → Int} {n N k : Nat} (h : k ∈ askedP D n N) : k < n := (places_mem D n k).1 (List.mem_of_mem_take h)
theorem asked_min (D : Nat → Int) (n N : Nat) : askedP D n (min N n) = askedP D n N := by
  unfold askedP
  by_cases h : N ≤ n
  · rw [Nat.min_eq_left h]
  · rw [Nat.min_eq_right (by omega), List.take_of_length_le (by rw [places_len]; omega), List.take_of_length_le (by rw [places_len]; omega)]
theorem asked_all {D : Nat → Int} {n N : Nat} (h : n ≤ N) (k : Nat) : k ∈ askedP D n N ↔ k < n := by
  unfold askedP; rw [List.take_of_length_le (by rw [places_len]; omega), places_mem]
theorem asked_more {D : Nat → Int} {n N M : Nat} (h : N ≤ M) {k : Nat} (hk : k ∈ askedP D n N) : k ∈ askedP D n M := by
  unfold askedP at *
  have : (placesP D n).take N = ((placesP D n).take M).take N := by rw [List.take_take, Nat.min_eq_left h]
  rw [this] at hk
  exact List.mem_of_mem_take hk

/-! ### the document's way: the best of those that are not in -/
def BestI (D : Nat → Int) (out : List Nat) (i : Nat) (b : Int) : Prop :=
  (b = -1 ∧ ∀ j, j < i → j ∈ out) ∨ ∃ k : Nat, b = (k : Int) ∧ k < i ∧ k ∉ out ∧ ∀ j, j < i → j ∉ out → j = k ∨ AhP D k j
theorem best_zero (D : Nat → Int) (out : List Nat) : BestI D out 0 (-1) := .inl ⟨rfl, fun j h => absurd h (by omega)⟩
theorem best_in {D : Nat → Int} {out : List Nat} {i : Nat} {b : Int} (h : BestI D out i b) (hi : i ∈ out) : BestI D out (i + 1) b := by
  rcases h with ⟨h1, h2⟩ | ⟨k, h1, h2, h3, h4⟩
  · exact .inl ⟨h1, fun j hj => if e : j = i then e ▸ hi else h2 j (by omega)⟩
  · exact .inr ⟨k, h1, by omega, h3, fun j hj hn => if e : j = i then absurd hi (e ▸ hn) else h4 j (by omega) hn⟩
theorem best_skip {D : Nat → Int} {out : List Nat} {i k : Nat} (h : BestI D out i (k : Int)) (hd : D k ≤ D i) : BestI D out (i + 1) (k : Int) := by
  rcases h with ⟨h1, h2⟩ | ⟨k', h1, h2, h3, h4⟩
  · omega
  · obtain rfl : k = k' := by omega
    exact .inr ⟨k, rfl, by omega, h3, fun j hj hn => if e : j = i then .inr (by subst e; unfold AhP; omega) else h4 j (by omega) hn⟩
theorem best_first {D : Nat → Int} {out : List Nat} {i : Nat} (h : BestI D out i (-1)) (hi : i ∉ out) : BestI D out (i + 1) (i : Int) := by
  rcases h with ⟨h1, h2⟩ | ⟨k', h1, h2, h3, h4⟩
  · exact .inr ⟨i, rfl, by omega, hi, fun j hj hn => if e : j = i then .inl e else absurd (h2 j (by omega)) hn⟩
  · omega
theorem best_less {D : Nat → Int} {out : List Nat} {i k : Nat} (h : BestI D out i (k : Int)) (hi : i ∉ out) (hd : D i < D k) : BestI D out (i + 1) (i : Int) := by
  rcases h with ⟨h1, h2⟩ | ⟨k', h1, h2, h3, h4⟩
  · omega
  · obtain rfl : k = k' := by omega
    refine .inr ⟨i, rfl, by omega, hi, fun j hj hn => if e : j = i then .inl e else .inr ?_⟩
    rcases h4 j (by omega) hn with rfl | h5
    · exact .inl hd
    · exact ahP_trans (.inl hd) h5
theorem best_ge {D : Nat → Int} {out : List Nat} {i : Nat} {b : Int} (h : BestI D out i b) : b = -1 ∨ ∃ k : Nat, b = (k : Int) ∧ k < i := by
  rcases h with ⟨h1, _⟩ | ⟨k, h1, h2, _⟩
  · exact .inl h1
  · exact .inr ⟨k, h1, h2⟩
/-- The best of all is the next place. -/
theorem best_next {D : Nat → Int} {n k : Nat} {b : Int} (hk : k < n) (h : BestI D (askedP D n k) n b) : ∃ p : Nat, b = (p : Int) ∧ p < n ∧ askedP D n (k + 1) = askedP D n k ++ [p] := by
  have hl := places_len D n
  have hp := List.getElem?_eq_getElem (show k < (placesP D n).length by omega)
  generalize (placesP D n)[k]'(by omega) = p at hp
  have hpn : p < n := (places_mem D n p).1 (List.mem_of_getElem? hp)
  have hs : (placesP D n) = (placesP D n).take k ++ p :: (placesP D n).drop (k + 1) := by
    conv => lhs; rw [← List.take_append_drop k (placesP D n)]
    congr 1
    rw [List.drop_eq_getElem_cons (by omega)]
    congr 1
    have := List.getElem?_eq_getElem (show k < (placesP D n).length by omega)
    rw [hp] at this
    injection this with this
    exact this.symm
  have hnd := places_nodup D n
  have hsr := places_srt D n
  unfold SrtP at hsr
  rw [hs] at hnd hsr
  have hpo : p ∉ askedP D n k := fun hm => by
    have := (List.nodup_append.1 hnd).2.2
    exact this p hm p (by simp) rfl
  have hft : askedP D n (k + 1) = askedP D n k ++ [p] := by
    unfold askedP
    rw [List.take_add_one, hp]; rfl
  rcases h with ⟨_, h2⟩ | ⟨q, h1, h2, h3, h4⟩
  · exact absurd (h2 p hpn) hpo
  · refine ⟨q, h1, h2, ?_⟩
    rw [hft]
    congr 2
    rcases h4 p hpn hpo with e | hlt
    · exact e
    · exfalso
      have hq : q ∈ (placesP D n) := (places_mem D n q).2 h2
      rw [hs] at hq
      rcases List.mem_append.1 hq with hq | hq
      · exact h3 hq
      · rcases List.mem_cons.1 hq with rfl | hq
        · exact ahP_irrefl D q hlt
        · have h5 := (List.pairwise_cons.1 (List.pairwise_append.1 hsr).2.1).1 q hq
          exact ahP_asym h5 hlt
end Go.Proofs.YtcekgllahlhaaaaGreatDoor

namespace Go.Proofs.YtcekgllahlhaaaaGreatDoor
open Go.RowKit Go.Shelf
set_option linter.unusedVariables false
set_option linter.unusedSimpArgs false
set_option maxRecDepth 100000

def encFn {n : Nat} (x : Fin (n + 1)) : Value := .int .i64 (x.val : Int)

theorem sortP_turn {n : Nat} (W : World) (g m : Nat) (d : Array (Fin (n + 1))) (os : Array Obj) (hg : g < W.heap.size) : Turn (fun i => i = g) W (Go.Proofs.sortWorld encFn W g 0 m d os) := by
  refine ⟨rfl, rfl, rfl, ?_, fun k hk hn => ?_⟩
  · unfold Go.Proofs.sortWorld
    rw [Go.Sort.size_grow, Go.Proofs.size_putRow]
    exact Nat.le_add_right _ _
  · unfold Go.Proofs.sortWorld
    rw [Go.Sort.heap_grow_old _ _ (by rw [Go.Proofs.size_putRow]; exact hk)]
    unfold Go.Sort.putRow Go.Sort.mapBlock
    simp only [Array.getElem?_modify]
    rw [if_neg (fun e => hn e.symm)]
    rfl

theorem sortP_cells {n : Nat} (W : World) (g m : Nat) (d : Array (Fin (n + 1))) (os : Array Obj) (hg : g < W.heap.size) {cur : Array Value} {e : TypeId} (hc : W.heap[g]? = some (.cells cur e (0, 0))) : (Go.Proofs.sortWorld encFn W g 0 m d os).heap[g]? = some (.cells (Go.Sort.putCells encFn 0 d cur) e (0, 0)) := by
  unfold Go.Proofs.sortWorld
  rw [Go.Sort.heap_grow_old _ _ (by rw [Go.Proofs.size_putRow]; exact hg)]
  unfold Go.Sort.putRow Go.Sort.mapBlock
  simp only [Array.getElem?_modify, if_true]
  show (W.heap[g]?).map _ = _
  rw [hc]
  rfl

theorem putP_take {n : Nat} (d : Array (Fin (n + 1))) (cur : Array Value) (h : d.size ≤ cur.size) : (Go.Sort.putCells encFn 0 d cur).toList.take d.size = d.toList.map encFn := by
  apply List.ext_getElem?
  intro k
  by_cases hk : k < d.size
  · rw [List.getElem?_take_of_lt hk, List.getElem?_map, Array.getElem?_toList, Array.getElem?_toList]
    unfold Go.Sort.putCells
    rw [Array.getElem?_mapIdx, Array.getElem?_eq_getElem (show k < cur.size by omega), Array.getElem?_eq_getElem hk]
    simp only [Option.map_some]
    rw [if_pos ⟨Nat.zero_le _, by omega⟩, Nat.sub_zero, getElem!_pos d k hk]
  · rw [List.getElem?_eq_none (by simp; omega), List.getElem?_eq_none (by simp; omega)]

theorem sortP_own {n : Nat} {base g c m : Nat} {W : World} {s : List Nat} (h : OwnS base W (some ⟨g, 0, none⟩) c s) (d : Array (Fin (n + 1))) (hd : d.size = s.length) (os : Array Obj) : OwnS base (Go.Proofs.sortWorld encFn W g 0 m d os) (some ⟨g, 0, none⟩) c (d.toList.map fun x => x.val) := by
  rcases h.2 with ⟨e, _⟩ | ⟨g', cap, cur, e, hg, hh, hnc, hcm, hsz, hcs⟩
  · injection e with e1; cases e1
  · injection e with e1 _ e3
    injection e1 with e1
    injection e1 with e1
    subst e1
    subst e3
    have hl : (d.toList.map fun x => x.val).length = s.length := by simp [hd]
    refine ⟨by simp, .inr ⟨g, c, _, by rw [hl], hg, sortP_cells W g m d os (lt_of_block hh) hh, by rw [hl]; exact hnc, hcm, by simp [Go.Sort.putCells, hsz], ?_⟩⟩
    rw [hl, Nat.mul_one, ← hd, putP_take d cur (by omega), List.map_map]
    rfl

theorem holdsP {n : Nat} {base g c : Nat} {W : World} {s : List Nat} (h : OwnS base W (some ⟨g, 0, none⟩) c s) (d : Array (Fin (n + 1))) (hd : d.toList.map (fun x => x.val) = s) : Go.Sort.Holds encFn W g 0 d := by
  intro j hj
  have hl : s.length = d.size := by rw [← hd]; simp
  refine ⟨?_, World.ownsRow.frozenAt h _⟩
  have := World.ownsRow.cellAt h j (by rw [Nat.mul_one]; omega)
  rw [Nat.zero_add, this, ← hd]
  simp [encFn, hj]


def cfPF {n : Nat} (D : Nat → Int) (x y : Fin (n + 1)) : Int := cfP D x.val y.val
theorem ltPF {n : Nat} (D : Nat → Int) (x y : Fin (n + 1)) : Go.Proofs.ltOf (cfPF D) x y = decide (AhP D x.val y.val) := by
  unfold Go.Proofs.ltOf cfPF
  rw [Bool.eq_iff_iff]
  simp [cfP_neg]
theorem swoPF {n : Nat} (D : Nat → Int) : Go.Sort.SWO (Go.Proofs.ltOf (cfPF (n := n) D)) where
  irrefl x := by rw [ltPF]; simpa using ahP_irrefl D x.val
  trans x y z h1 h2 := by rw [ltPF] at *; simp only [decide_eq_true_eq] at *; exact ahP_trans h1 h2
  ntrans x y z h1 h2 := by
    rw [ltPF] at *
    simp only [decide_eq_false_iff_not] at *
    intro h3
    by_cases hyx : AhP D y.val x.val
    · exact h2 (ahP_trans hyx h3)
    · have := ahP_tri h1 hyx
      rw [this] at h3
      exact h2 h3
theorem totPF {n : Nat} (D : Nat → Int) (x y : Fin (n + 1)) (h1 : Go.Proofs.ltOf (cfPF D) x y = false) (h2 : Go.Proofs.ltOf (cfPF D) y x = false) : x = y := by
  rw [ltPF] at *
  simp only [decide_eq_false_iff_not] at *
  exact Fin.ext (ahP_tri h1 h2)
theorem mergeP_val {n : Nat} (D : Nat → Int) (d : List (Fin (n + 1))) : (d.mergeSort fun x y => !(Go.Proofs.ltOf (cfPF D)) y x).map (fun x => x.val) = ordP D (d.map fun x => x.val) := by
  unfold ordP
  exact List.map_mergeSort (fun a _ b _ => by rw [ltPF]; congr 1; rw [Bool.eq_iff_iff]; simp [cfP_neg])

def toP {n : Nat} (s : List Nat) (h : ∀ k ∈ s, k < n + 1) : Array (Fin (n + 1)) := (s.pmap (fun k hk => ⟨k, hk⟩) h).toArray
theorem toP_val {n : Nat} (s : List Nat) (h : ∀ k ∈ s, k < n + 1) : (toP s h).toList.map (fun x => x.val) = s := by
  unfold toP
  simp [List.map_pmap]
theorem toP_size {n : Nat} (s : List Nat) (h : ∀ k ∈ s, k < n + 1) : (toP s h).size = s.length := by simp [toP]

/-- Sorted by a comparison that tells what cfP tells, and only grows. -/
theorem sortP_any {base n : Nat} {W : World} {A : Option Addr} {c : Nat} {s : List Nat} (D : Nat → Int) (fid : FuncId) (cap : Array Value) (ho : OwnS base W A c s) (hs : ∀ k ∈ s, k < n + 1) (hls : s.length ≤ 1000000)
    (hen : ∀ args w, (callFunc fid args).run Tryz.prog w = .ok (.enter fid args) w)
    (hc : ∀ X, Turn (fun i => blk A = some i) W X → ∀ x y : Nat, x < n + 1 → y < n + 1 → Calls Tryz.prog fid (#[.int .i64 x, .int .i64 y] ++ cap) X fun e w' => e = .returned (.int .i64 (cfP D x y)) ∧ ∃ k os, w' = Go.Sort.grow (X.drewN k) os) :
    Calls Tryz.prog 81 #[.slice A s.length c, .func (.func fid) #[] cap] W fun e w' => e = .returned (.tuple #[]) ∧ OwnS base w' A c (ordP D s) ∧ Turn (fun i => blk A = some i) W w' := by
  by_cases h0 : s = []
  · subst h0
    have hcon := Go.Proofs.AnyF.slices_SortFunc_none (P := Tryz.prog) (ρ := sortIren) { sortI with } A c (.func (.func fid) #[] cap) W
    refine Calls.mono hcon ?_
    rintro e w' ⟨rfl, rfl⟩
    exact ⟨rfl, by unfold ordP; simpa using ho, Turn.refl _ _⟩
  · obtain ⟨g1, rfl, hg1, hg2⟩ : ∃ g1, A = some ⟨g1, 0, none⟩ ∧ base ≤ g1 ∧ g1 < W.heap.size := by
      rcases ho.2 with ⟨e, hn⟩ | ⟨g1, cap, cur, e, hg, hh, _⟩
      · exact absurd (List.eq_nil_of_length_eq_zero hn) h0
      · injection e with e1; exact ⟨g1, e1, hg, lt_of_block hh⟩
    have hv := toP_val s hs
    have hz := toP_size s hs
    generalize toP s hs = d at hv hz
    have hcmp : Go.Proofs.CmpLays1 Tryz.prog fid cap (encFn (n := n)) (cfPF D) g1 0 d.size W := by
      intro m os dk hdk x y
      have ht := sortP_turn W g1 m dk os hg2
      exact hc _ (ht.mono (fun i hi => by subst hi; rfl)) x.val y.val x.isLt y.isLt
    have hcon := Go.Proofs.Any.slices_SortFunc_total (P := Tryz.prog) (ρ := sortIren) sortI (encFn (n := n)) (fun _ => rfl) (cfPF D) (swoPF D) fid cap g1 0 c d W
      hen hcmp (holdsP ho d hv) hg2 (by omega) (totPF D)
    rw [hz] at hcon
    refine Calls.mono hcon ?_
    rintro e w' ⟨rfl, k, os, rfl⟩
    refine ⟨rfl, ?_, (sortP_turn W g1 k _ os hg2).mono (fun i hi => by subst hi; rfl)⟩
    have hm := mergeP_val D d.toList
    have hl : (ordP D s).length = s.length := (ordP_perm _ _).length_eq
    have hd : (d.toList.mergeSort fun x y => !(Go.Proofs.ltOf (cfPF D)) y x).toArray.size = s.length := by
      rw [List.size_toArray, (List.mergeSort_perm _ _).length_eq, Array.length_toList, hz]
    have := sortP_own (m := k) ho (d.toList.mergeSort fun x y => !(Go.Proofs.ltOf (cfPF D)) y x).toArray hd os
    rw [hm, hv] at this
    exact this
end Go.Proofs.YtcekgllahlhaaaaGreatDoor

namespace Go.Proofs.YtcekgllahlhaaaaGreatDoor
open Go.RowKit Go.Shelf
set_option linter.unusedVariables false
set_option linter.unusedSimpArgs false
set_option maxRecDepth 100000
attribute [local go_sem] Oper.semAt_some

/-- What a round keeps: all cells below lo. -/
def KpL (lo : Nat) (_ : Nat) (W W' : World) : Prop := W.heap.size ≤ W'.heap.size ∧ ∀ (k : Nat) (o : Obj), k < lo → W.heap[k]? = some o → o.isCells = true → W'.heap[k]? = some o
theorem KpL.refl (lo B : Nat) (W : World) : KpL lo B W W := ⟨Nat.le_refl _, fun _ _ _ h _ => h⟩
theorem KpL.trans {lo B : Nat} {X Y Z : World} (h : KpL lo B X Y) (k : KpL lo B Y Z) : KpL lo B X Z := ⟨Nat.le_trans h.1 k.1, fun i o hi ho hc => k.2 i o hi (h.2 i o hi ho hc) hc⟩
theorem KpL.put {lo B : Nat} {W : World} {k : Nat} {o o' : Obj} (hk : W.heap[k]? = some o) (ho : o.isCells = false) : KpL lo B W (W.putObj k o') := ⟨by simp [World.putObj], fun i o2 _ hi hc => put_other hk ho hi hc⟩
theorem KpL.turn {lo B : Nat} {S : Nat → Prop} {W W' : World} (h : Turn S W W') (hS : ∀ i, S i → lo ≤ i) : KpL lo B W W' := ⟨h.size, fun i o hi ho _ => (h.block i (lt_of_block ho) (fun e => by have := hS i e; omega)).trans ho⟩
theorem KpL.drew {lo B : Nat} {W W' : World} (h : KpL lo B W W') : KpL lo B W W'.drew := ⟨h.1, h.2⟩
theorem KpL.cell {lo B : Nat} {W W' : World} (h : KpL lo B W W') {p : Addr} {v : Value} (hv : W.cell? p = some v) (hp : p.block < lo) : W'.cell? p = some v := by
  obtain ⟨b, i, s⟩ := p
  have hb : ∃ o, W.heap[b]? = some o ∧ o.isCells = true := by
    unfold World.cell? at hv
    cases ho : W.heap[b]? with
    | none => simp [ho] at hv
    | some o => cases o <;> simp_all [Obj.isCells]
  obtain ⟨o, ho, hc⟩ := hb
  exact (World.cell?_of_block (a := ⟨b, i, s⟩) ((h.2 b o hp ho hc).trans ho.symm)).trans hv
def encQ (x : Nat) : Array Value := #[.int .i64 (x : Int)]
def NxP (l : List Nat) (m : Nat) (pre : List Nat) (x : Nat) : Prop := ∃ k, k < m ∧ l[k]? = some x ∧ pre = l.take k

theorem asked_fn (vs : Array Value) (w : World) (v0 v1 v2 v3 v4 v5 : Value) : Calls Tryz.prog 35 #[.agg #[v0, v1, v2, v3, v4, v5]] w fun e w' => e = .returned (.func (.func 66) #[] #[.pointer (some ⟨w.heap.size, 0, none⟩)]) ∧ w' = w.alloc (.cells #[v0, v1, v2, v3, v4, v5] 76) := by
  go_enter Tryz.func35, Tryz.ntmps35
  go_wp2
  go_ret
  exact ⟨rfl, rfl⟩

set_option maxHeartbeats 4000000 in
theorem asked1_in {w : World} {b o c g lo : Nat} {l : List Nat} {N : Int} (n m : Nat) (hn : 1 ≤ n) (hN0 : 1 ≤ N) (hN1 : N ≤ 1048576) (hm : m = min N.toNat l.length) (hlc : l.length ≤ c) (hcm : c ≤ 9223372036854775807)
    (hgN : w.cell? ⟨g, 3, none⟩ = some (.int .i64 N)) (hgo : w.cell? ⟨g, 5, none⟩ = some (.slice (some ⟨b, o, none⟩) l.length c)) (h1 : g < lo) (h2 : b < lo)
    (hl : ∀ (i x : Nat), l[i]? = some x → w.cell? ⟨b, o + i, none⟩ = some (.int .i64 (x : Int))) :
    SeqOwn Fence.wide n Tryz.prog 66 #[.pointer (some ⟨g, 0, none⟩)] encQ (fun _ _ => False) (fun _ _ _ => True) (KpL lo) (NxP l m) (fun xs => xs = l.take m) (fun _ => True) w := by
  intro ls J Jx W hW hJ hJx hY h0
  have hcl := fun (a : Addr) v (hv : w.cell? a = some v) => (hW.cell (p := a) (World.block_lt_of_cell? w _ hv)).trans hv
  have e1 := hcl _ _ hgN
  have e2 := hcl _ _ hgo
  have HQ := Lib.hid (fun (i x : Nat) (hx : l[i]? = some x) => hcl _ _ (hl i x hx))
  obtain ⟨L, hL⟩ : ∃ L, L = l.length := ⟨_, rfl⟩
  have hmL : m ≤ L := by rw [hm, hL]; omega
  have hmin : min N (L : Int) = (m : Int) := by rw [hm, hL]; omega
  have HJ := Lib.hid hJ
  have HY := Lib.hid hY
  have H0 := Lib.hid h0
  have HL := Lib.hid hL
  have HMn := Lib.hid hmin
  rw [← hL] at e2 hlc
  have mc : m ≤ c := by omega
  have mL : (m : Int) ≤ L := by omega
  have m0 : (0 : Int) ≤ m := by omega
  have mcc : (m : Int) ≤ c := by omega
  clear hgN hgo hl hW hJ hJx hY h0 hcl hL hm
  refine callsIn_of_wp Tryz.func66 rfl trivial ?_ rfl
  simp only [Tryz.ntmps66, List.size_toArray, List.length_cons, List.length_nil, Nat.reduceAdd, Nat.reduceSub, Array.replicate_succ, Array.replicate_zero, List.push_toArray, List.append_toArray, List.nil_append, List.cons_append]
  gi_wp2
  gi_loopw [16] (fun i wr => ∃ k : Nat, i = .int .i64 k ∧ k ≤ m ∧ Hid (J (l.take k) wr ∧ KpL lo W.heap.size W wr)) (fun i _ => m - (match i with | .int _ k => k.toNat | _ => 0))
  case atStart => exact ⟨0, rfl, Nat.zero_le _, Lib.hid ⟨H0.out, KpL.refl _ _ _⟩⟩
  case round =>
    obtain ⟨k, rfl, hk, HH⟩ := hrel
    by_cases hkm : k < m
    · have hkk : (k : Int) < m := by omega
      have k0 : (0 : Int) ≤ (k : Int) := by omega
      have hx := List.getElem?_eq_getElem (show k < l.length by rw [← HL.out]; omega)
      generalize l[k]'(by rw [← HL.out]; omega) = x at hx
      have f1 := HH.out.2.cell (HQ.out k x hx) h2
      have hS : l.take (k + 1) = l.take k ++ [x] := by rw [List.take_add_one, hx]; rfl
      obtain ⟨fn, tmps, assign, body, hy, hR⟩ := HY.out (l.take k) x wr HH.out.1 HH.out.2.1 trivial ⟨k, hkm, hx, rfl⟩
      rw [← hS] at hR
      have HR := Lib.hid hR
      unfold encQ at hy
      try dsimp only at hy
      clear hR hx hS
      gi_wp2
      refine HR.out.mono ?_
      rintro e W3 (⟨rfl, hJ3, hk3⟩ | ⟨rfl, hJx3⟩)
      · have HH3 := Lib.hid (And.intro hJ3 (HH.out.2.trans hk3))
        clear hJ3 hk3
        gi_wp2
        go_roundw
        case rel => exact ⟨k + 1, by simp, by omega, HH3⟩
        case measure => simp; omega
      · have HX3 := Lib.hid hJx3
        clear hJx3
        gi_wp2
        refine bodyPost_ret (results_none rfl _ _ _) rfl ?_
        exact ⟨⟨_, rfl⟩, .inr ⟨_, trivial, HX3.out⟩⟩
    · obtain rfl : k = m := by omega
      have HF := Lib.hid HH.out.1
      gi_wp2
      go_end0
      exact ⟨⟨_, rfl⟩, .inl ⟨_, rfl, HF.out⟩⟩

/-! ### collected -/
theorem OwnS.isCells {base : Nat} {w : World} {A : Option Addr} {c : Nat} {l : List Nat} (h : OwnS base w A c l) {i : Nat} (hi : blk A = some i) : ∃ o, w.heap[i]? = some o ∧ o.isCells = true := by
  rcases h.2 with ⟨e, h0⟩ | ⟨g, cap, cur, e, hg, hh, _⟩
  · injection e with e1; subst e1; cases hi
  · injection e with e1; subst e1
    have : g = i := by simpa [blk] using hi
    subst this
    exact ⟨_, hh, rfl⟩
theorem OwnS.low {base : Nat} {w : World} {A : Option Addr} {c : Nat} {l : List Nat} (h : OwnS base w A c l) : ∀ i, blk A = some i → base ≤ i ∧ i < w.heap.size := fun i hi => World.ownsRow.lt h i (by rw [own_blk]; exact hi)
def SqP (w : World) (pre : List Nat) (W : World) : Prop := ∃ A c, Boxed W w.heap.size 53 (.slice A (List.length pre) c) ∧ OwnS (w.heap.size + 1) W A c pre ∧ Below w.heap.size w W
theorem SqP.below {w W W' : World} {pre : List Nat} (h : SqP w pre W) (hb : Below W.heap.size W W') : SqP w pre W' := by
  obtain ⟨A, c, h1, h2, h3⟩ := h
  exact ⟨A, c, (hb.block _ h1.lt).trans h1, h2.below hb, h3.trans (hb.mono h3.size)⟩
theorem SqP.put {w W : World} {pre : List Nat} (h : SqP w pre W) {k : Nat} {o : Obj} (o' : Obj) (hk0 : w.heap.size ≤ k) (hk : W.heap[k]? = some o) (ho : o.isCells = false) : SqP w pre (W.putObj k o') := by
  obtain ⟨A, c, h1, h2, h3⟩ := h
  exact ⟨A, c, put_other hk ho h1 rfl, row_put h2 o' hk ho, h3.trans (below_put hk0 h3.size)⟩
theorem sqP_last {w W V w4 : World} {A A5 : Option Addr} {c c5 B : Nat} {x : Nat} {pre : List Nat} (h1 : Boxed W w.heap.size 53 (.slice A pre.length c)) (h2 : OwnS (w.heap.size + 1) W A c pre) (h3 : Below w.heap.size w W)
    (hV : V = W.alloc (.cells #[.int .i64 (x : Int)] 3))
    (ho : w4.ownsRow (w.heap.size + 1) 3 1 (.slice A5 (pre.length + 1) c5) (pre.length + 1) ((pre.map fun (k : Nat) => Value.int .i64 (k : Int)) ++ [.int .i64 (x : Int)])) (hgr : V.grownBy w4 (blk A)) :
    w4.cell? ⟨w.heap.size, 0, none⟩ = some (.slice A pre.length c) ∧ w4.frozen? ⟨w.heap.size, 0, none⟩ = false ∧ KeepsFrom (w.heap.size + 1) W (w4.setCell ⟨w.heap.size, 0, none⟩ (.slice A5 (pre.length + 1) c5)) ∧ KpL w.heap.size B W (w4.setCell ⟨w.heap.size, 0, none⟩ (.slice A5 (pre.length + 1) c5)) ∧ SqP w (pre ++ [x]) (w4.setCell ⟨w.heap.size, 0, none⟩ (.slice A5 (pre.length + 1) c5)) := by
  have hA : ∀ i, blk A = some i → w.heap.size + 1 ≤ i ∧ i < W.heap.size := fun i hi => h2.low i hi
  have hbV : Below W.heap.size W V := by rw [hV]; exact (Below.refl _ W).alloc (Nat.le_refl _) _
  have hs1 := h1.lt
  have t4 : Turn (fun i => blk A = some i) W w4 := (Turn.of_below (S := fun i => blk A = some i) hbV).trans (Turn.of_grown hgr (fun i hi => .inl hi)) (fun i hi => .inl hi)
  have hN : OwnS (w.heap.size + 1) w4 A5 c5 (pre ++ [x]) := by
    have e : (pre ++ [x]).length = pre.length + 1 := by simp
    unfold OwnS
    rw [e, List.map_append]
    exact ho
  have hd4 : Boxed w4 w.heap.size 53 (.slice A pre.length c) := (t4.block _ h1.lt (fun e => by have := hA _ e; omega)).trans h1
  have t5 := turn_set w4 w.heap.size 0 (.slice A5 (pre.length + 1) c5)
  have tt : Turn (fun i => blk A = some i ∨ i = w.heap.size) W (w4.setCell ⟨w.heap.size, 0, none⟩ (.slice A5 (pre.length + 1) c5)) :=
    (t4.mono (S' := fun i => blk A = some i ∨ i = w.heap.size) (fun i hi => .inl hi)).trans t5 (fun i hi => .inl (.inr hi))
  have hlo : ∀ i, (blk A = some i ∨ i = w.heap.size) → w.heap.size ≤ i := fun i hi => hi.elim (fun hi => by have := hA _ hi; omega) (fun hi => by omega)
  refine ⟨hd4.cell, hd4.frozen, keeps_turn tt ?_, KpL.turn tt hlo, A5, c5, ?_, ?_, ?_⟩
  · rintro i (hi | rfl)
    · exact h2.isCells hi
    · exact ⟨_, h1, rfl⟩
  · rw [List.length_append]; exact hd4.set _
  · exact hN.turn t5 (fun i hi _ e => by omega)
  · exact h3.trans (tt.below h3.size hlo)

/-- What is collected. -/
def GivesPl (w : World) (l : List Nat) (e : Ending) (w' : World) : Prop := ∃ A c, e = .returned (.slice A l.length c) ∧ OwnS w.heap.size w' A c l ∧ Below w.heap.size w w'

set_option maxHeartbeats 4000000 in
theorem appendSeqP_any (gf : FuncId) (lb : Array Value) (l : List Nat) (m : Nat) (w : World) (hq : m ≤ 1000000) (hgf : ∀ args W, (callFunc gf args).run Tryz.prog W = .ok (.enter gf args) W)
    (hseq : ∀ W0, Below w.heap.size w W0 → SeqOwn Fence.wide 2 Tryz.prog gf lb encQ (fun _ _ => False) (fun _ _ _ => True) (KpL w.heap.size) (NxP l m) (fun xs => xs = l.take m) (fun _ => True) W0) :
    Calls Tryz.prog 65 #[.slice none 0 0, .func (.func gf) #[] lb] w (GivesPl w (l.take m)) := by
  refine (callsIn_wide (n := 3)).1 ?_
  refine callsIn_of_wp_marks Tryz.func65 rfl trivial ?_ rfl
  simp only [Tryz.ntmps65, List.size_toArray, List.length_cons, List.length_nil, Nat.reduceAdd, Nat.reduceSub, Array.replicate_succ, Array.replicate_zero, List.push_toArray, List.append_toArray, List.nil_append, List.cons_append]
  have HGF := Lib.hid hgf
  have HSeq := Lib.hid hseq
  clear hgf hseq
  obtain ⟨W0, hW0⟩ : ∃ W0, W0 = w.alloc (.cells #[.slice none 0 0] 53) := ⟨_, rfl⟩
  have hz0 : W0.heap.size = w.heap.size + 1 := by rw [hW0]; simp
  have hb0 : Below w.heap.size w W0 := by rw [hW0]; exact (Below.refl _ w).alloc (Nat.le_refl _) _
  have hd0 : Boxed W0 w.heap.size 53 (.slice none 0 0) := by rw [hW0]; exact heap_alloc_new _ _
  have HW0 := Lib.hid hW0
  have HZ0 := Lib.hid hz0
  have HB0 := Lib.hid hb0
  have HD0 := Lib.hid hd0
  have HQ := Lib.hid hq
  clear hW0 hz0 hb0 hd0 hq
  gi_wp2
  rw [← HW0.out]
  refine range_own rfl (by omega) (gf := gf) (lb := lb) rfl trivial HGF.out (HSeq.out W0 HB0.out)
    (fun W k h => h.elim) KpL.trans (fun B W k o o' _ hk ho => KpL.put hk ho) (fun _ => rfl) (fun _ _ _ _ _ _ _ _ _ => trivial)
    (SqP w) (fun _ _ _ => False) ?io ?ixo ?ip ?ixp ?h0
    (fun x => { tmps := #[.slice none 0 0, .func (.func gf) #[] lb, .pointer (some ⟨w.heap.size, 0, none⟩), undef, .slice none 0 0, .int .i64 (x : Int), .func (.func gf) #[] lb, .int .i64 (x : Int), undef, undef, undef, undef, undef], defers := [] }) ?assign ?body ?done ?stop
  case io => exact fun s X Y h ht => h.below (Turn.below ht (Nat.le_refl _) (fun i e => e.2.elim))
  case ixo => exact fun _ _ _ _ h _ => h
  case ip => exact fun s X k o o' h hk ho hc => h.put o' (by have := HZ0.out; omega) ho hc
  case ixp => exact fun _ _ _ _ _ _ h _ _ _ => h
  case h0 =>
    intro W hb _
    exact SqP.below (W := W0) ⟨none, 0, HD0.out, OwnS.nil _ _, HB0.out⟩ hb
  case assign =>
    intro l x W K hK
    dsimp only [encQ]
    gi_wp2
    exact hK
  case body =>
    rintro l2 pre x W ⟨A0, c0, h1, h2, h3⟩ hsz _ ⟨k, hk, hx, hpre⟩
    rw [HZ0.out] at hsz ⊢
    have hrl : pre.length ≤ 1000000 := by
      rw [hpre]
      have := HQ.out
      rw [List.length_take]
      omega
    have hc := h1.cell
    obtain ⟨V, hV⟩ : ∃ V, V = W.alloc (.cells #[.int .i64 (x : Int)] 3) := ⟨_, rfl⟩
    have hbV : Below W.heap.size W V := by rw [hV]; exact (Below.refl _ W).alloc (Nat.le_refl _) _
    have HO := Lib.hid (h2.below hbV)
    have HR := Lib.hid (show Read V (some ⟨W.heap.size, 0, none⟩) 1 1 [.int .i64 (x : Int)] from Read.int (by rw [hV]; exact cell_laid _ _ _ 0))
    have HSW := Lib.hid (show w.heap.size + 1 ≤ V.heap.size by have := hbV.size; omega)
    have HL := Lib.hid (fun (A5 : Option Addr) (c5 : Nat) (w4 : World) (ho : w4.ownsRow (w.heap.size + 1) 3 1 (.slice A5 (pre.length + 1) c5) (pre.length + 1) ((pre.map fun (k : Nat) => Value.int .i64 (k : Int)) ++ [.int .i64 (x : Int)])) (hgr : V.grownBy w4 (blk A0)) => sqP_last (B := w.heap.size + 1 + 2) h1 h2 h3 hV ho hgr)
    have HV := Lib.hid hV
    have HRL := Lib.hid hrl
    generalize hrn : pre.length = rn at *
    have HRN := Lib.hid hrn
    clear h1 h2 h3 hpre hk hx hrl hbV hV hsz hrn
    gi_wp2_with (gi_at_builtin; rw [← HV.out]; refine gapp_in rfl (.tmp 8) (.tmp 10) appN rfl (w.heap.size + 1) A0 c0 rn (pre.map fun (k : Nat) => Value.int .i64 (k : Int)) rfl (by have := HO.out; unfold OwnS at this; rw [HRN.out] at this; exact this) (some ⟨W.heap.size, 0, none⟩) 1 1 [.int .i64 (x : Int)] rfl HR.out (by have := HRL.out; omega) HSW.out ?_; intro A5 c5 w4 ho5 hg5 _; obtain ⟨v4, f4, hX1, hX2, hX3⟩ := HL.out A5 c5 w4 ho5 hg5; have HX := Lib.hid (And.intro hX1 (And.intro hX2 hX3)); clear ho5 hg5 hX1 hX2 hX3)
    exact HX.out
  case done =>
    rintro xs W rfl ⟨A0, c0, h1, h2, h3⟩ hK
    rw [HZ0.out] at hK
    obtain ⟨L, hL⟩ : ∃ L, L = (l.take m).length := ⟨_, rfl⟩
    have HLn := Lib.hid hL
    rw [← hL] at h1
    have hc := h1.cell
    have HX := Lib.hid (And.intro h2 h3)
    clear h1 h2 h3 hL
    gi_wp2
    refine ⟨by simp, .inl ⟨_, _, rfl, run_takeDeferred (by rw [HZ0.out]; exact hK), ?_⟩⟩
    refine ⟨_, results_tmp rfl _ _ _, A0, c0, by rw [HLn.out]; rfl, ?_, ?_⟩
    · exact row_put (HX.out.1.mono (by omega)) _ (by rw [HZ0.out]; exact hK) rfl
    · exact HX.out.2.trans (below_put (by rw [HZ0.out]; omega) HX.out.2.size)
  case stop =>
    rintro _ _ _ _ h _
    exact h.elim

theorem collectP_any (gf : FuncId) (lb : Array Value) (l : List Nat) (m : Nat) (w : World) (hq : m ≤ 1000000) (hgf : ∀ args W, (callFunc gf args).run Tryz.prog W = .ok (.enter gf args) W)
    (hseq : ∀ W0, Below w.heap.size w W0 → SeqOwn Fence.wide 2 Tryz.prog gf lb encQ (fun _ _ => False) (fun _ _ _ => True) (KpL w.heap.size) (NxP l m) (fun xs => xs = l.take m) (fun _ => True) W0) :
    Calls Tryz.prog 34 #[.func (.func gf) #[] lb] w (GivesPl w (l.take m)) := by
  have HA := Lib.hid (appendSeqP_any gf lb l m w hq hgf hseq)
  clear hgf hseq hq
  go_enter Tryz.func34, Tryz.ntmps34
  go_wp2_with fail
  refine HA.out.mono ?_
  rintro e w2 ⟨A, c, he, hO, hB⟩
  obtain ⟨L, hL⟩ : ∃ L, L = (l.take m).length := ⟨_, rfl⟩
  have HLn := Lib.hid hL
  rw [← hL] at he
  subst he
  have HX := Lib.hid (And.intro hO hB)
  clear hO hB hL
  go_wp2
  go_ret
  exact ⟨A, c, by rw [HLn.out]; rfl, HX.out.1, HX.out.2⟩
end Go.Proofs.YtcekgllahlhaaaaGreatDoor

namespace Go.Proofs.YtcekgllahlhaaaaGreatDoor
open Go.RowKit Go.Shelf
set_option linter.unusedVariables false
set_option linter.unusedSimpArgs false
set_option maxRecDepth 100000

theorem cmp3_M (x y : Int) : cmp3 x y = cmpM x y := rfl
set_option maxHeartbeats 2000000 in
theorem ord1P_any (D : Nat → Int) (b o n c g x y : Nat) (w : World) (hn : n ≤ 1000000) (hg : w.cell? ⟨g, 0, none⟩ = some (.slice (some ⟨b, o, none⟩) n c)) (hx : w.cell? ⟨b, o + x, none⟩ = some (.int .u64 (D x))) (hy : w.cell? ⟨b, o + y, none⟩ = some (.int .u64 (D y))) (hxn : x < n) (hyn : y < n) :
    Calls Tryz.prog 82 #[.int .i64 x, .int .i64 y, .pointer (some ⟨g, 0, none⟩)] w fun e w' => e = .returned (.int .i64 (cfP D x y)) ∧ ∃ k os, w' = Go.Sort.grow (w.drewN k) os := by
  have HR := Lib.hid (show cfP D x y = orM (cmpM (D x) (D y)) (cmp3 (x : Int) (y : Int)) from rfl)
  have HS := Lib.hid (fun (X : World) (hX : Below w.heap.size w X) => show X.cell? ⟨g, 0, none⟩ = some (.slice (some ⟨b, o, none⟩) n c) ∧ X.cell? ⟨b, o + x, none⟩ = some (.int .u64 (D x)) ∧ X.cell? ⟨b, o + y, none⟩ = some (.int .u64 (D y)) from
    ⟨(hX.cell (p := ⟨g, 0, none⟩) (World.block_lt_of_cell? w _ hg)).trans hg, (hX.cell (p := ⟨b, o + x, none⟩) (World.block_lt_of_cell? w _ hx)).trans hx, (hX.cell (p := ⟨b, o + y, none⟩) (World.block_lt_of_cell? w _ hy)).trans hy⟩)
  have x0 : (0 : Int) ≤ x := by omega
  have y0 : (0 : Int) ≤ y := by omega
  have xn : (x : Int) < n := by omega
  have yn : (y : Int) < n := by omega
  generalize D x = dx at *
  generalize D y = dy at *
  go_enter Tryz.func82, Tryz.ntmps82
  go_wp2
  go_region_held3 (fun X => X.cell? ⟨g, 0, none⟩ = some (.slice (some ⟨b, o, none⟩) n c) ∧ X.cell? ⟨b, o + x, none⟩ = some (.int .u64 dx) ∧ X.cell? ⟨b, o + y, none⟩ = some (.int .u64 dy))
    ((refine HS.out _ ?_; repeat (first | exact Below.refl _ _ | refine below_drew ?_ | refine Below.alloc ?_ (by simp [World.setCell]; try omega) _)))
    (first
      | (go_at_call 84; refine (cmp_any _ _ _).mono ?_; rintro e w' ⟨rfl, rfl⟩)
      | (go_at_call 85; refine (cmpI_any _ _ _).mono ?_; rintro e w' ⟨rfl, rfl⟩)
      | (go_at_call 83; refine (or_any _ _ _ _ (cell_laid _ _ _ 0) (cell_laid _ _ _ 1)).mono ?_; rintro e w' ⟨rfl, rfl⟩))
  all_goals (
    go_wp2
    go_ret
    rw [HR.out]
    refine ⟨rfl, 1, grow_of (Below.mono (B := w.heap.size) ?_ (Nat.le_refl _)) 1 ?_⟩
    · repeat (first | exact Below.refl _ _ | refine below_drew ?_ | refine Below.alloc ?_ (by simp) _)
    · rfl)
end Go.Proofs.YtcekgllahlhaaaaGreatDoor

namespace Go.Proofs.YtcekgllahlhaaaaGreatDoor
open Go.RowKit Go.Shelf
open MskL (Mk Ms mv has mk Fine)
open TopL (isKM)
set_option linter.unusedVariables false
set_option linter.unusedSimpArgs false
set_option maxRecDepth 100000

def nB (N : Int) : Bool := decide (1 ≤ N) && decide (N ≤ 1048576)
theorem nB_iff {N : Int} : nB N = true ↔ 1 ≤ N ∧ N ≤ 1048576 := by unfold nB; simp
theorem isN_any (N : Int) (w : World) : Calls Tryz.prog 31 #[.int .i64 N] w fun e w' => e = .returned (.bool (nB N)) ∧ w = w' := by
  have HM := Lib.hid (show nB N = (decide (1 ≤ N) && decide (N ≤ 1048576)) from rfl)
  generalize nB N = R at *
  cases h1 : decide (1 ≤ N) with
  | false =>
    have HF := Lib.hid (show R = false by rw [HM.out, h1]; rfl)
    go_enter Tryz.func31, Tryz.ntmps31
    go_wp2
    go_ret
    rw [HF.out]
    exact ⟨rfl, rfl⟩
  | true =>
    cases h2 : decide (N ≤ 1048576) with
    | false =>
      have HF := Lib.hid (show R = false by rw [HM.out, h1, h2]; rfl)
      go_enter Tryz.func31, Tryz.ntmps31
      go_wp2
      go_ret
      rw [HF.out]
      exact ⟨by first | rfl | simp_all, rfl⟩
    | true =>
      have HF := Lib.hid (show R = true by rw [HM.out, h1, h2]; rfl)
      go_enter Tryz.func31, Tryz.ntmps31
      go_wp2
      go_ret
      rw [HF.out]
      exact ⟨by first | rfl | simp_all, rfl⟩

/-- What is told of a probe. -/
def chkP (kq N : Int) (v : List Int) : Int := if nB N = true then chkQ kq v else 2
theorem chkP_ok {kq N : Int} {v : List Int} (h : chkP kq N v = 0) : nB N = true ∧ chkQ kq v = 0 := by
  unfold chkP at h
  cases h1 : nB N <;> simp [h1] at h
  exact ⟨rfl, h⟩
/-- A probe in its box. -/
structure PBox (w : World) (g : Nat) (Av : Option Addr) (nv cv : Nat) (kq ts N : Int) : Prop where
  c0 : w.cell? ⟨g, 0, none⟩ = some (.slice Av nv cv)
  c1 : w.cell? ⟨g, 1, none⟩ = some (.int .i64 kq)
  c2 : w.cell? ⟨g, 2, none⟩ = some (.int .u64 ts)
  c3 : w.cell? ⟨g, 3, none⟩ = some (.int .i64 N)
theorem PBox.lt {w : World} {g nv cv : Nat} {Av : Option Addr} {kq ts N : Int} (h : PBox w g Av nv cv kq ts N) : g < w.heap.size := World.block_lt_of_cell? w _ h.c0
theorem PBox.below {w w' : World} {g nv cv b : Nat} {Av : Option Addr} {kq ts N : Int} (h : PBox w g Av nv cv kq ts N) (hb : Below b w w') (hg : g < b) : PBox w' g Av nv cv kq ts N :=
  ⟨(hb.cell (p := ⟨g, 0, none⟩) hg).trans h.c0, (hb.cell (p := ⟨g, 1, none⟩) hg).trans h.c1, (hb.cell (p := ⟨g, 2, none⟩) hg).trans h.c2, (hb.cell (p := ⟨g, 3, none⟩) hg).trans h.c3⟩
theorem pbox (w : World) (Av : Option Addr) (nv cv : Nat) (kq ts N : Int) : PBox (w.alloc (.cells #[.slice Av nv cv, .int .i64 kq, .int .u64 ts, .int .i64 N] 31)) w.heap.size Av nv cv kq ts N ∧ Below w.heap.size w (w.alloc (.cells #[.slice Av nv cv, .int .i64 kq, .int .u64 ts, .int .i64 N] 31)) :=
  ⟨⟨cell_laid _ _ _ 0, cell_laid _ _ _ 1, cell_laid _ _ _ 2, cell_laid _ _ _ 3⟩, (Below.refl _ w).alloc (Nat.le_refl _) _⟩
def pv (Av : Option Addr) (nv cv : Nat) (kq ts N : Int) : Value := .agg #[.slice Av nv cv, .int .i64 kq, .int .u64 ts, .int .i64 N]

theorem checkP_any (v : List Int) (Av : Option Addr) (cv : Nat) (kq ts N : Int) (w : World) (hv : Vec .i32 w Av cv v) :
    Calls Tryz.prog 46 #[pv Av v.length cv kq ts N] w fun e w' => e = .returned (.int .i64 (chkP kq N v)) ∧ Below w.heap.size w w' := by
  obtain ⟨W0, hW0⟩ : ∃ W0, W0 = w.alloc (.cells #[.slice Av v.length cv, .int .i64 kq, .int .u64 ts, .int .i64 N] 31) := ⟨_, rfl⟩
  obtain ⟨hl0, hb0⟩ := pbox w Av v.length cv kq ts N
  rw [← hW0] at hl0 hb0
  obtain ⟨g, hg⟩ : ∃ g, g = w.heap.size := ⟨_, rfl⟩
  rw [← hg] at hl0
  have HQ := Lib.hid (checkQ_any v Av cv kq W0 (hv.below hb0))
  have HR := Lib.hid (show chkP kq N v = if nB N = true then chkQ kq v else 2 from rfl)
  have HB0 := Lib.hid hb0
  have HW0 := Lib.hid hW0
  have HG := Lib.hid hg
  have HI := Lib.hid (isN_any N W0)
  obtain ⟨x0, x1, x2, x3⟩ := hl0
  generalize chkP kq N v = R at *
  generalize chkQ kq v = Q at *
  generalize v.length = n at *
  clear hv hb0 hW0 hg
  unfold pv
  cases hn : nB N with
  | false =>
    have HF := Lib.hid (show R = 2 by rw [HR.out, hn]; rfl)
    rw [hn] at HI
    clear HR hn
    go_enter Tryz.func46, Tryz.ntmps46
    go_wp2_with (rw [← HW0.out, ← HG.out])
    refine HI.out.mono ?_
    rintro e w1 ⟨rfl, rfl⟩
    go_wp2
    go_ret
    rw [HF.out]
    exact ⟨rfl, HB0.out⟩
  | true =>
    have HF := Lib.hid (show R = Q by rw [HR.out, hn]; rfl)
    rw [hn] at HI
    clear HR hn
    go_enter Tryz.func46, Tryz.ntmps46
    go_wp2_with (rw [← HW0.out, ← HG.out])
    refine HI.out.mono ?_
    rintro e w1 ⟨rfl, rfl⟩
    go_wp2_with fail
    refine HQ.out.mono ?_
    rintro e w2 ⟨rfl, hb2⟩
    have HB2 := Lib.hid (HB0.out.trans (hb2.mono HB0.out.size))
    clear hb2
    go_wp2
    go_ret
    rw [HF.out]
    exact ⟨rfl, HB2.out⟩

/-- What is told of centroids, but for the dimension. -/
def cenE (C : List (List Int)) : Int := if C.length = 0 then 240 else if cenB C = true then 0 else 230
theorem cenE_ok {C : List (List Int)} (h : cenE C = 0) : 0 < C.length ∧ C.length ≤ 6 ∧ ∀ x ∈ C, right x = true ∧ x.length = dimC C := by
  unfold cenE at h
  split at h
  · omega
  · split at h
    · rename_i h1 h2
      have h3 := cen_small h2
      unfold cenB at h2
      rw [Bool.and_eq_true, decide_eq_true_eq, decide_eq_true_eq] at h2
      exact ⟨by omega, h3.1, allM_all h2.2⟩
    · omega
theorem apart_zero (n : Nat) : apartB (List.replicate n mz) = true := by
  have hg : ∀ k, (List.replicate n mz).getD k mz = mz := fun k => by
    rw [List.getD_eq_getElem?_getD, List.getElem?_replicate]; split <;> rfl
  unfold apartB
  rw [List.length_replicate]
  induction n with
  | zero => rfl
  | succ n ih => exact ap0 (n + 1) (n + 1)
where
  ap0 (m : Nat) : ∀ k, apTo (List.replicate m mz) k = true := by
    have hg : ∀ k, (List.replicate m mz).getD k mz = mz := fun k => by
      rw [List.getD_eq_getElem?_getD, List.getElem?_replicate]; split <;> rfl
    intro k
    induction k with
    | zero => rfl
    | succ k ih =>
      rw [apTo_succ, ih, hg]
      have hr : MskL.rightM mz = true := by decide
      have hm : meet mz mz = false := by decide
      rw [hr, Bool.true_and, Bool.true_and, List.all_eq_true]
      intro j _
      rw [hg, hm]; rfl
theorem cen_lists (C : List (List Int)) : chkL C (List.replicate (min C.length 6) mz) = if cenB C = true then 0 else 230 := by
  unfold chkL okB
  rw [apart_zero, List.length_replicate, Bool.and_true]
  cases h : cenB C with
  | false => rfl
  | true => rw [Nat.min_eq_left (cen_small h).1]; simp

theorem madeM (n : Nat) (h : n ≤ 1000) (w : World) : (Instr.makeSlice 35 (.int .i64 (n : Int)) (.int .i64 (n : Int))).run Tryz.prog w = .ok (.slice (some ⟨w.heap.size, 0, none⟩) n n) (w.alloc (.cells (madeCells #[.int .u64 0, .int .u64 0] (n * 2)) 70)) := by
  have hb : ((Tryz.prog.info? 70).get (by kernel_rfl)).bytes = 16 := by kernel_rfl
  have hz : ((Tryz.prog.info? 70).get (by kernel_rfl)).size = 2 := by kernel_rfl
  have := run_make (P := Tryz.prog) w 35 70 ((Tryz.prog.info? 70).get (by kernel_rfl)) (.agg #[.int .u64 0, .int .u64 0]) Tryz.underlying35 (Option.some_get _).symm (by kernel_rfl) .i64 .i64 n n (by omega) (by omega) (by rw [hb]; omega) (by omega)
  rw [hz, Int.toNat_natCast] at this
  exact this
theorem madeM_ms (n : Nat) (h : n ≤ 1000) (W : World) : Ms (W.alloc (.cells (madeCells #[.int .u64 0, .int .u64 0] (n * 2)) 70)) (some ⟨W.heap.size, 0, none⟩) n (List.replicate n mz) := by
  refine ⟨by simp, by omega, fun hp => ⟨W.heap.size, 0, rfl, by simp, fun j m hm => ?_⟩, fun m hm => by rw [List.eq_of_mem_replicate hm]; exact ⟨by decide, by decide⟩⟩
  have hj : j < n := by have := (List.getElem?_eq_some_iff.1 hm).1; simpa using this
  obtain rfl : m = mz := List.eq_of_mem_replicate (List.mem_of_getElem? hm)
  have hn := heap_alloc_new W (.cells (madeCells #[.int .u64 0, .int .u64 0] (n * 2)) 70)
  have hr : ∀ i, i < n * 2 → (Array.range (n * 2))[i]? = some i := fun i hi => Array.getElem?_eq_some_iff.2 ⟨by simpa using hi, by simp⟩
  have e0 : (madeCells (#[.int .u64 0, .int .u64 0] : Array Value) (n * 2))[0 + j * 2]? = some (.int .u64 0) := by
    unfold madeCells
    rw [Array.getElem?_map, hr _ (by omega)]
    simp
  have e1 : (madeCells (#[.int .u64 0, .int .u64 0] : Array Value) (n * 2))[0 + j * 2 + 1]? = some (.int .u64 0) := by
    unfold madeCells
    rw [Array.getElem?_map, hr _ (by omega)]
    have : (0 + j * 2 + 1) % 2 = 1 := by omega
    simp [this]
  exact ⟨(cell_of_row _ _ (0 + j * 2) _ _ _ hn).trans e0, (cell_of_row _ _ (0 + j * 2 + 1) _ _ _ hn).trans e1⟩

theorem refuseP_any (A : Option Addr) (c : Nat) (C : List (List Int)) (w : World) (h : Vecs .i32 w A c C) :
    Calls Tryz.prog 33 #[.slice A C.length c] w fun e w' => e = .returned (.int .i64 (cenE C)) ∧ Below w.heap.size w w' := by
  obtain ⟨n, hn⟩ : ∃ n, n = C.length := ⟨_, rfl⟩
  have HE := Lib.hid (show cenE C = if n = 0 then 240 else if cenB C = true then 0 else 230 by rw [hn]; rfl)
  by_cases h0 : n = 0
  · have HF := Lib.hid (show cenE C = 240 by rw [HE.out, if_pos h0])
    generalize cenE C = E at *
    rw [← hn]
    have t1 : ((n : Int) == 0) = true := by simp [h0]
    have t2 : (n == 0) = true := by simp [h0]
    clear hn h0
    go_enter Tryz.func33, Tryz.ntmps33
    go_wp2
    go_ret
    rw [HF.out]
    exact ⟨rfl, Below.refl _ _⟩
  · have HF := Lib.hid (show cenE C = if cenB C = true then 0 else 230 by rw [HE.out, if_neg h0])
    obtain ⟨m, hm⟩ : ∃ m, m = min n 6 := ⟨_, rfl⟩
    obtain ⟨W1, hW1⟩ : ∃ W1, W1 = w.alloc (.cells (madeCells #[.int .u64 0, .int .u64 0] (m * 2)) 70) := ⟨_, rfl⟩
    have hms := madeM_ms m (by omega) w
    rw [← hW1] at hms
    have hb1 : Below w.heap.size w W1 := by rw [hW1]; exact (Below.refl _ w).alloc (Nat.le_refl _) _
    have HC := checkL_any A c C (some ⟨w.heap.size, 0, none⟩) m (List.replicate m mz) W1 ⟨h.below hb1, hms⟩
    rw [hm, hn, cen_lists, ← HF.out, List.length_replicate, ← hn, ← hm] at HC
    unfold lv at HC
    have HCC := Lib.hid HC
    have hmk : ∀ X : World, (Instr.makeSlice 35 (.int .i64 (m : Int)) (.int .i64 (m : Int))).run Tryz.prog X = .ok (.slice (some ⟨X.heap.size, 0, none⟩) m m) (X.alloc (.cells (madeCells #[.int .u64 0, .int .u64 0] (m * 2)) 70)) := fun X => madeM m (by omega) X
    have hmin : min (n : Int) 6 = (m : Int) := by omega
    have HB1 := Lib.hid hb1
    have HW1 := Lib.hid hW1
    generalize cenE C = E at *
    rw [← hn]
    have t1 : ((n : Int) == 0) = false := by simpa using h0
    have t2 : (n == 0) = false := by simpa using h0
    clear hn h0 hm hms hb1 hW1 HC
    go_enter Tryz.func33, Tryz.ntmps33
    go_wp2_with (rw [← HW1.out])
    refine HCC.out.mono ?_
    rintro e w2 ⟨rfl, hb2⟩
    have HB2 := Lib.hid (HB1.out.trans (hb2.mono HB1.out.size))
    clear hb2
    go_wp2
    go_ret
    exact ⟨rfl, HB2.out⟩

end Go.Proofs.YtcekgllahlhaaaaGreatDoor

namespace Go.Proofs.YtcekgllahlhaaaaGreatDoor
open Go.RowKit Go.Shelf
set_option linter.unusedVariables false
set_option linter.unusedSimpArgs false
set_option maxRecDepth 100000

theorem appF : AppT Tryz.prog 133 29 1 8 := ⟨Tryz.underlying133, (Tryz.prog.info? 29).get (by kernel_rfl), .int .u64 0, (Option.some_get _).symm, by kernel_rfl, by kernel_rfl, by kernel_rfl, rfl, by decide, by decide⟩
/-- What the two rows are, while they grow; the box of the second. -/
structure OrI (w : World) (bx : Nat) (D : Nat → Int) (m n : Nat) (A1 : Option Addr) (c1 : Nat) (A2 : Option Addr) (c2 : Nat) (bv : Value) (X : World) : Prop where
  s : OwnS (bx + 1) X A1 c1 (List.range m)
  f : X.ownsRow (bx + 1) 29 1 (.slice A2 n c2) n ((List.range n).map fun i => Value.int .u64 (D i))
  box : Boxed X bx 133 bv
  ap : ∀ i, blk A1 = some i → blk A2 ≠ some i
  bel : Below w.heap.size w X
section
variable {w X Y : World} {bx m n c1 c2 : Nat} {D : Nat → Int} {A1 A2 : Option Addr} {bv : Value}
theorem OrI.lows (h : OrI w bx D m n A1 c1 A2 c2 bv X) : (∀ i, blk A1 = some i → bx + 1 ≤ i ∧ i < X.heap.size) ∧ ∀ i, blk A2 = some i → bx + 1 ≤ i ∧ i < X.heap.size :=
  ⟨fun i hi => World.ownsRow.lt h.s i (by rw [own_blk]; exact hi), fun i hi => World.ownsRow.lt h.f i (by rw [own_blk]; exact hi)⟩
theorem OrI.below (h : OrI w bx D m n A1 c1 A2 c2 bv X) (hb : Below X.heap.size X Y) : OrI w bx D m n A1 c1 A2 c2 bv Y :=
  ⟨h.s.below hb, row_turn h.f (Turn.of_below (S := fun _ => False) hb) (fun _ _ e => e), (hb.block _ h.box.lt).trans h.box, h.ap, h.bel.trans (hb.mono h.bel.size)⟩
theorem OrI.stepA {A5 : Option Addr} {c5 : Nat} (h : OrI w bx D m n A1 c1 A2 c2 bv X) (hw : w.heap.size ≤ bx)
    (ho : Y.ownsRow (bx + 1) 3 1 (.slice A5 (m + 1) c5) (m + 1) (((List.range m).map fun (k : Nat) => Value.int .i64 (k : Int)) ++ [.int .i64 (m : Int)])) (hg : X.grownBy Y (blk A1)) (hl : blk A5 = blk A1 ∨ blk A5 = some X.heap.size) :
    OrI w bx D (m + 1) n A5 c5 A2 c2 bv Y := by
  have t : Turn (fun i => blk A1 = some i) X Y := Turn.of_grown hg (fun i hi => .inl hi)
  have hlo := h.lows
  refine ⟨?_, row_turn h.f t (fun i hi e => h.ap i e (by rw [← own_blk A2 n c2]; exact hi)), (t.block _ h.box.lt (fun e => by have := hlo.1 _ e; omega)).trans h.box, fun i hi => ?_, h.bel.trans (t.below h.bel.size (fun i hi => by have := hlo.1 _ hi; omega))⟩
  · unfold OwnS
    rw [List.length_range, List.range_succ, List.map_append]
    exact ho
  · rcases hl with e | e
    · exact h.ap i (e ▸ hi)
    · intro e2
      have := hlo.2 i e2
      rw [e] at hi
      injection hi with hi
      omega
theorem OrI.stepB {A5 : Option Addr} {c5 : Nat} {d : Int} (h : OrI w bx D m n A1 c1 A2 c2 bv X) (hw : w.heap.size ≤ bx) (hd : d = D n)
    (ho : Y.ownsRow (bx + 1) 29 1 (.slice A5 (n + 1) c5) (n + 1) (((List.range n).map fun i => Value.int .u64 (D i)) ++ [.int .u64 d])) (hg : X.grownBy Y (blk A2)) (hl : blk A5 = blk A2 ∨ blk A5 = some X.heap.size) :
    OrI w bx D m (n + 1) A1 c1 A5 c5 bv Y := by
  have t : Turn (fun i => blk A2 = some i) X Y := Turn.of_grown hg (fun i hi => .inl hi)
  have hlo := h.lows
  refine ⟨row_turn h.s t (fun i hi e => h.ap i (by rw [← own_blk A1 (List.range m).length c1]; exact hi) e), ?_, (t.block _ h.box.lt (fun e => by have := hlo.2 _ e; omega)).trans h.box, fun i hi => ?_, h.bel.trans (t.below h.bel.size (fun i hi => by have := hlo.2 _ hi; omega))⟩
  · rw [List.range_succ, List.map_append]
    subst hd
    exact ho
  · rcases hl with e | e
    · rw [e]; exact h.ap i hi
    · intro e2
      have := hlo.1 i hi
      rw [e] at e2
      injection e2 with e2
      omega
theorem OrI.store (h : OrI w bx D m n A1 c1 A2 c2 bv X) (hw : w.heap.size ≤ bx) (v : Value) : OrI w bx D m n A1 c1 A2 c2 v (X.setCell ⟨bx, 0, none⟩ v) := by
  have t := turn_set X bx 0 v
  have hlo := h.lows
  exact ⟨h.s.turn t (fun i h1 h2 e => by omega), row_turn h.f t (fun i hi e => by have := hlo.2 i (by rw [← own_blk A2 n c2]; exact hi); omega), h.box.set _, h.ap, h.bel.trans (t.below h.bel.size (fun i hi => by omega))⟩
theorem OrI.rowA (h : OrI w bx D m n A1 c1 A2 c2 bv X) : X.ownsRow (bx + 1) 3 1 (.slice A1 m c1) m ((List.range m).map fun (k : Nat) => Value.int .i64 (k : Int)) := by
  have := h.s
  unfold OwnS at this
  rw [List.length_range] at this
  exact this
theorem OrI.kept {Z : World} (h : OrI w bx D m n A1 c1 A2 c2 bv X) (hb : Below X.heap.size X Y) (hg : Y.grownBy Z (blk A1)) (p : Addr) (v : Value) (hp : X.heap.size ≤ p.block) (hv : Y.cell? p = some v) : Z.cell? p = some v := by
  have t : Turn (fun i => blk A1 = some i) Y Z := Turn.of_grown hg (fun i hi => .inl hi)
  exact (World.cell?_of_block (a := p) (t.block _ (World.block_lt_of_cell? _ _ hv) (fun e => by have := (h.lows.1 _ e).2; omega))).trans hv
theorem OrI.boxed (h : OrI w bx D m n A1 c1 A2 c2 bv X) : X.cell? ⟨bx, 0, none⟩ = some bv ∧ X.frozen? ⟨bx, 0, none⟩ = false := ⟨h.box.cell, h.box.frozen⟩
end
theorem bd0 (w : World) : Below w.heap.size w w.drew := below_drew (Below.refl _ _)
theorem bn1 (w : World) (o : Obj) : Below w.heap.size w (w.alloc o) := (Below.refl _ _).alloc (Nat.le_refl _) _
theorem bn2 (w : World) (o o' : Obj) : Below w.heap.size w ((w.alloc o).alloc o') := (bn1 w o).alloc (bn1 w o).size _
theorem bd1 (w : World) (o : Obj) : Below w.heap.size w (w.alloc o).drew := below_drew (bn1 w o)
theorem bd2 (w : World) (o o' : Obj) : Below w.heap.size w ((w.alloc o).alloc o').drew := below_drew (bn2 w o o')
theorem be1 (w : World) (o : Obj) : Below w.heap.size w (w.drew.alloc o) := (bd0 w).alloc (Nat.le_refl _) _
theorem be2 (w : World) (o o' : Obj) : Below w.heap.size w ((w.drew.alloc o).alloc o') := (be1 w o).alloc (be1 w o).size _
theorem cell_at (w : World) (cs : Array Value) (t : TypeId) (i s : Nat) (hs : s = w.heap.size) : (w.alloc (.cells cs t)).cell? ⟨s, i, none⟩ = cs[i]? := by subst hs; exact cell_laid _ _ _ _
theorem cell_at2 (w : World) (cs : Array Value) (t : TypeId) (o : Obj) (i s : Nat) (v : Value) (hs : s = w.heap.size) (hv : cs[i]? = some v) : ((w.alloc (.cells cs t)).alloc o).cell? ⟨s, i, none⟩ = some v := by
  have h := (cell_at w cs t i s hs).trans hv
  exact (((Below.refl _ (w.alloc (.cells cs t))).alloc (Nat.le_refl _) o).cell (p := ⟨s, i, none⟩) (World.block_lt_of_cell? _ _ h)).trans h
end Go.Proofs.YtcekgllahlhaaaaGreatDoor

namespace Go.Proofs.YtcekgllahlhaaaaGreatDoor
open Go.RowKit Go.Shelf
set_option linter.unusedVariables false
set_option linter.unusedSimpArgs false
set_option maxRecDepth 100000

theorem far_at {C : List (List Int)} {v : List Int} {k : Nat} {x : List Int} (hr : right v = true) (hC : ∀ x ∈ C, right x = true ∧ x.length = v.length) (hx : C[k]? = some x) : distE x v = 0 ∧ distD x v = farM C v k := by
  have h := hC x (List.mem_of_getElem? hx)
  have he : distE x v = 0 := by rw [dist_dim h.1 hr, h.2]; simp
  refine ⟨he, ?_⟩
  unfold distD farM
  rw [if_pos he, getD_at hx]

set_option maxHeartbeats 4000000 in
theorem ordered_ok (A Av : Option Addr) (c cv : Nat) (C : List (List Int)) (v : List Int) (w : World) (hc : Vecs .i32 w A c C) (hv : Vec .i32 w Av cv v) (hr : right v = true) (hC : ∀ x ∈ C, right x = true ∧ x.length = v.length) (h6 : C.length ≤ 6) (h0 : 0 < C.length) :
    Calls Tryz.prog 48 #[.slice A C.length c, .slice Av v.length cv] w fun e w' => ∃ B d, e = .returned (.tuple #[.slice B C.length d, .int .i64 0]) ∧ OwnS w.heap.size w' B d (placesP (farM C v) C.length) ∧ Below w.heap.size w w' := by
  obtain ⟨n, hn⟩ : ∃ n, n = C.length := ⟨_, rfl⟩
  obtain ⟨nv, hnv⟩ : ∃ n, n = v.length := ⟨_, rfl⟩
  obtain ⟨g, hg⟩ : ∃ g, g = w.heap.size := ⟨_, rfl⟩
  obtain ⟨W0, hW0⟩ : ∃ W0, W0 = w.alloc (.cells #[.slice none 0 0] 133) := ⟨_, rfl⟩
  have HDE := Lib.hid (fun (k : Nat) (x : List Int) (hx : C[k]? = some x) => far_at hr hC hx)
  have HDi := Lib.hid (fun (X : World) (hX : Below w.heap.size w X) (B : Option Addr) (cb : Nat) (x : List Int) (hx : Vec .i32 X B cb x) => dist_any B Av cb cv x v X hx (hv.below hX))
  have HCs := Lib.hid (fun (X : World) (hX : Below w.heap.size w X) => hc.below hX)
  have H0 := Lib.hid (show OrI w g (farM C v) 0 0 none 0 none 0 (.slice none 0 0) W0 from by
    rw [hg, hW0]
    exact ⟨OwnS.nil _ _, World.ownsRow_nil _ _ _ _, heap_alloc_new _ _, (fun i hi => by cases hi), (Below.refl _ w).alloc (Nat.le_refl _) _⟩)
  generalize farM C v = D at *
  rw [← hnv] at HDi
  rw [← hn, ← hnv]
  have HN := Lib.hid hn
  have HG := Lib.hid hg
  have HW0 := Lib.hid hW0
  have hn6 : n ≤ 6 := by rw [hn]; exact h6
  have hn0 : 0 < n := by rw [hn]; exact h0
  have hgw : w.heap.size ≤ g := by omega
  clear hc hv hr hC h6 h0 hn hnv hg hW0
  go_enter Tryz.func48, Tryz.ntmps48
  go_wp2_with (rw [← HW0.out, ← HG.out])
  go_loopw [6, 14] (fun p i wr => ∃ (k : Nat) (A1 : Option Addr) (c1 : Nat) (A2 : Option Addr) (c2 : Nat), k ≤ n ∧ i = .int .i64 k ∧ p = .slice A1 k c1 ∧ Hid (OrI w g D k k A1 c1 A2 c2 (.slice A2 k c2) wr)) (fun _ i _ => n - (intOf i).toNat)
  case atStart => exact ⟨0, none, 0, none, 0, Nat.zero_le _, rfl, rfl, H0⟩
  case round =>
    obtain ⟨k, A1, c1, A2, c2, hk, rfl, rfl, HI⟩ := hrel
    by_cases hkn : k < n
    · obtain ⟨b, o, x, Bx, cb, rfl, hx, hb, cx, hvx⟩ := (HCs.out wr HI.out.bel).at_ (i := k) (by rw [← HN.out]; exact hkn)
      obtain ⟨e1, e2⟩ := HDE.out k x hx
      have HC := HDi.out wr HI.out.bel Bx cb x hvx
      obtain ⟨xl, hxl⟩ : ∃ xl, xl = x.length := ⟨_, rfl⟩
      rw [e1, e2, ← hxl] at HC
      rw [← hxl] at cx
      obtain ⟨d, hd⟩ : ∃ d, d = D k := ⟨_, rfl⟩
      rw [← hd] at HC
      have HCC := Lib.hid HC
      have HDk := Lib.hid hd
      have k0 : (0 : Int) ≤ k := by omega
      have kn : (k : Int) < n := by omega
      clear hx hb hvx e1 e2 HC hxl hd
      go_wp2_with fail
      refine HCC.out.mono ?_
      rintro e w5 ⟨rfl, hb5⟩
      have HI5 := Lib.hid (HI.out.below hb5)
      have hbx := HI5.out.box.cell
      have hbf := HI5.out.box.frozen
      clear hb5
      go_upto_region 9 with fail
      have f0 := (OrI.boxed (HI5.out.below (bd0 _))).1
      have f1 := (OrI.boxed (HI5.out.below (bn1 _ (.cells #[.int .i64 (k : Int)] 3)))).1
      have f2 := (OrI.boxed (HI5.out.below (bn1 _ (.cells #[.int .u64 d] 29)))).1
      have f3 := (OrI.boxed (HI5.out.below (bn2 _ (.cells #[.int .i64 (k : Int)] 3) (.cells #[.int .u64 d] 29)))).1
      have f4 := (OrI.boxed (HI5.out.below (bn2 _ (.cells #[.int .u64 d] 29) (.cells #[.int .i64 (k : Int)] 3)))).1
      go_region_law
        (first
          | (refine gapp_step (by rfl) _ _ appN (by rfl) (g + 1) A1 c1 k _ (by rfl) (OrI.rowA (HI5.out.below (by repeat (first | exact Below.refl _ _ | refine below_drew ?_ | refine Below.alloc ?_ (by simp; try omega) _)))) (some ⟨_, 0, none⟩) 1 1 [.int .i64 (k : Int)] (by rfl) (Read.int (by first | exact cell_at _ _ _ 0 _ (by simp) | exact cell_at2 _ _ _ _ 0 _ _ (by simp) rfl)) (by omega) (by have := HI5.out.box.lt; simp; omega) ?_
             intro A5 c5 w6 ho hg6 hl
             have HI6 := Lib.hid (OrI.stepA (HI5.out.below (by repeat (first | exact Below.refl _ _ | refine below_drew ?_ | refine Below.alloc ?_ (by simp; try omega) _))) hgw ho hg6 hl)
             have HK6 := Lib.hid (OrI.kept HI5.out (by repeat (first | exact Below.refl _ _ | refine below_drew ?_ | refine Below.alloc ?_ (by simp; try omega) _)) hg6)
             have f5 := (OrI.boxed HI6.out).1
             have f6 := (OrI.boxed (HI6.out.below (bn1 _ (.cells #[.int .u64 d] 29)))).1
             clear ho hg6 hl)
          | (refine gapp_step (by rfl) _ _ appF (by rfl) (g + 1) A2 c2 k _ (by rfl) (OrI.f (by first | exact HI6.out | exact HI6.out.below (by repeat (first | exact Below.refl _ _ | refine below_drew ?_ | refine Below.alloc ?_ (by simp; try omega) _)))) (some ⟨_, 0, none⟩) 1 1 [.int .u64 d] (by rfl) (Read.one rfl (by first | exact cell_at _ _ _ 0 _ (by simp) | exact HK6.out _ _ (by simp) (cell_at _ _ _ 0 _ (by simp)) | exact HK6.out _ _ (by simp) (cell_at2 _ _ _ _ 0 _ _ (by simp) rfl))) (by omega) (by have := HI6.out.box.lt; simp; omega) ?_
             intro A6 c6 w7 ho hg7 hl
             have HI7 := Lib.hid (OrI.stepB (by first | exact HI6.out | exact HI6.out.below (by repeat (first | exact Below.refl _ _ | refine below_drew ?_ | refine Below.alloc ?_ (by simp; try omega) _))) hgw HDk.out ho hg7 hl)
             have f7 := (OrI.boxed HI7.out).1
             have f8 := (OrI.boxed HI7.out).2
             clear ho hg7 hl))
      all_goals (
        go_wp2
        go_roundw
        case rel => exact ⟨k + 1, A5, c5, A6, c6, by omega, by go_num, rfl, Lib.hid (HI7.out.store hgw _)⟩
        case measure => simp [intOf]; omega)
    · obtain rfl : k = n := by omega
      have hso := sortP_any (n := k - 1) D 82 #[.pointer (some ⟨g, 0, none⟩)] HI.out.s (fun j hj => by have := List.mem_range.1 hj; omega) (by rw [List.length_range]; omega)
        (fun args W => enters_of Tryz.func82 (by kernel_rfl) rfl args W) (fun X hX x y hx hy => by
          have hf := row_turn HI.out.f hX (fun i hi e => HI.out.ap i e (by rw [← own_blk A2 k c2]; exact hi))
          have hbx := (hX.block _ HI.out.box.lt (fun e => by have := HI.out.lows.1 _ e; omega)).trans HI.out.box
          rcases hf.2 with ⟨e, h0⟩ | ⟨b2, cap, cur, e, hg2, hh, _⟩
          · omega
          · injection e with e1
            subst e1
            have hcl : ∀ j, j < k → X.cell? ⟨b2, 0 + j, none⟩ = some (.int .u64 (D j)) := fun j hj => by
              have := World.ownsRow.cellAt hf j (by omega)
              rw [Nat.zero_add, this]
              simp [hj]
            exact ord1P_any D b2 0 k c2 g x y X (by omega) (Boxed.cell hbx) (hcl x (by omega)) (hcl y (by omega)) (by omega) (by omega))
      rw [List.length_range] at hso
      have HSo := Lib.hid hso
      have HBe := Lib.hid HI.out.bel
      have HLo := Lib.hid HI.out.lows.1
      clear hso
      go_wp2_with fail
      refine HSo.out.mono ?_
      rintro e w9 ⟨rfl, ho9, ht9⟩
      have HO9 := Lib.hid (OwnS.mono (b := w.heap.size) ho9 (by omega))
      have HB9 := Lib.hid (HBe.out.trans (ht9.below HBe.out.size (fun i hi => by have := HLo.out i hi; omega)))
      clear ho9 ht9
      go_wp2
      go_ret2
      exact ⟨A1, c1, rfl, HO9.out, HB9.out⟩

set_option maxHeartbeats 2000000 in
theorem ordered_dim (A Av : Option Addr) (c cv : Nat) (C : List (List Int)) (v : List Int) (w : World) (hc : Vecs .i32 w A c C) (hv : Vec .i32 w Av cv v) (hr : right v = true) (hC : ∀ x ∈ C, right x = true ∧ x.length ≠ v.length) (h0 : 0 < C.length) :
    Calls Tryz.prog 48 #[.slice A C.length c, .slice Av v.length cv] w fun e w' => e = .returned (.tuple #[.slice none 0 0, .int .i64 151]) ∧ Below w.heap.size w w' := by
  obtain ⟨n, hn⟩ : ∃ n, n = C.length := ⟨_, rfl⟩
  obtain ⟨nv, hnv⟩ : ∃ n, n = v.length := ⟨_, rfl⟩
  obtain ⟨W0, hW0⟩ : ∃ W0, W0 = w.alloc (.cells #[.slice none 0 0] 133) := ⟨_, rfl⟩
  have hb0 : Below w.heap.size w W0 := by rw [hW0]; exact bn1 _ _
  obtain ⟨b, o, x, Bx, cb, rfl, hx, hb, cx, hvx⟩ := (hc.below hb0).at_ (i := 0) h0
  have HC := dist_any Bx Av cb cv x v W0 hvx (hv.below hb0)
  have h2 := hC x (List.mem_of_getElem? hx)
  have e1 : distE x v = 151 := by rw [dist_dim h2.1 hr]; simp [h2.2]
  have e2 : distD x v = 0 := by unfold distD; rw [e1]; rfl
  obtain ⟨xl, hxl⟩ : ∃ xl, xl = x.length := ⟨_, rfl⟩
  rw [e1, e2, ← hxl, ← hnv] at HC
  rw [← hxl] at cx
  rw [← hn, ← hnv]
  have HCC := Lib.hid HC
  have HB0 := Lib.hid hb0
  have HW0 := Lib.hid hW0
  have hn0 : 0 < n := by rw [hn]; exact h0
  have kn : (0 : Int) < n := by omega
  simp only [Nat.add_zero] at cx
  clear hc hv hr hC h0 hn hnv hW0 hx hb hvx e1 e2 HC hxl hb0 h2
  go_enter Tryz.func48, Tryz.ntmps48
  go_wp2_with (rw [← HW0.out])
  go_loopw [6, 14] (fun p i wr => i = .int .i64 0 ∧ wr = W0) (fun _ _ _ => 1)
  case atStart => exact ⟨rfl, rfl⟩
  case round =>
    obtain ⟨rfl, rfl⟩ := hrel
    go_wp2_with fail
    refine HCC.out.mono ?_
    rintro e w5 ⟨rfl, hb5⟩
    have HB5 := Lib.hid (HB0.out.trans (hb5.mono HB0.out.size))
    clear hb5
    go_wp2
    go_ret2
    exact ⟨rfl, HB5.out⟩
end Go.Proofs.YtcekgllahlhaaaaGreatDoor

namespace Go.Proofs.YtcekgllahlhaaaaGreatDoor
open Go.RowKit Go.Shelf
set_option linter.unusedVariables false
set_option linter.unusedSimpArgs false
set_option maxRecDepth 100000

/-- Six cells laid anew, one by one. -/
def put6 (w : World) (g : Nat) (v0 v1 v2 v3 v4 v5 : Value) : World := (((((w.setCell ⟨g, 0, none⟩ v0).setCell ⟨g, 1, none⟩ v1).setCell ⟨g, 2, none⟩ v2).setCell ⟨g, 3, none⟩ v3).setCell ⟨g, 4, none⟩ v4).setCell ⟨g, 5, none⟩ v5
theorem set6 {w : World} {g : Nat} {a0 a1 a2 a3 a4 a5 : Value} {t : TypeId} (h : w.heap[g]? = some (.cells #[a0, a1, a2, a3, a4, a5] t (0, 0))) (v0 v1 v2 v3 v4 v5 : Value) : (put6 w g v0 v1 v2 v3 v4 v5).heap[g]? = some (.cells #[v0, v1, v2, v3, v4, v5] t (0, 0)) := by
  have h1 := heap_setCell_same w g 0 _ _ v0 h
  have h2 := heap_setCell_same _ g 1 _ _ v1 h1
  have h3 := heap_setCell_same _ g 2 _ _ v2 h2
  have h4 := heap_setCell_same _ g 3 _ _ v3 h3
  have h5 := heap_setCell_same _ g 4 _ _ v4 h4
  exact heap_setCell_same _ g 5 _ _ v5 h5
theorem put6_turn (w : World) (g : Nat) (v0 v1 v2 v3 v4 v5 : Value) : Turn (fun i => i = g) w (put6 w g v0 v1 v2 v3 v4 v5) := by
  have t := fun (X : World) (j : Nat) (v : Value) => turn_set X g j v
  unfold put6
  exact (((((t _ _ _).trans (t _ _ _) (fun i hi => .inl hi)).trans (t _ _ _) (fun i hi => .inl hi)).trans (t _ _ _) (fun i hi => .inl hi)).trans (t _ _ _) (fun i hi => .inl hi)).trans (t _ _ _) (fun i hi => .inl hi)
/-- A searcher in its box. -/
structure SBox (w : World) (g : Nat) (Av : Option Addr) (nv cv : Nat) (kq ts N : Int) (A : Option Addr) (n c : Nat) (B : Option Addr) (m d : Nat) : Prop where
  c0 : w.cell? ⟨g, 0, none⟩ = some (.slice Av nv cv)
  c1 : w.cell? ⟨g, 1, none⟩ = some (.int .i64 kq)
  c2 : w.cell? ⟨g, 2, none⟩ = some (.int .u64 ts)
  c3 : w.cell? ⟨g, 3, none⟩ = some (.int .i64 N)
  c4 : w.cell? ⟨g, 4, none⟩ = some (.slice A n c)
  c5 : w.cell? ⟨g, 5, none⟩ = some (.slice B m d)
section
variable {w w' : World} {g nv cv n c m d b : Nat} {Av A B : Option Addr} {kq ts N : Int} {t : TypeId}
theorem SBox.of (h : w.heap[g]? = some (.cells #[.slice Av nv cv, .int .i64 kq, .int .u64 ts, .int .i64 N, .slice A n c, .slice B m d] t (0, 0))) : SBox w g Av nv cv kq ts N A n c B m d :=
  ⟨(cell_of_row _ _ 0 _ _ _ h).trans rfl, (cell_of_row _ _ 1 _ _ _ h).trans rfl, (cell_of_row _ _ 2 _ _ _ h).trans rfl, (cell_of_row _ _ 3 _ _ _ h).trans rfl, (cell_of_row _ _ 4 _ _ _ h).trans rfl, (cell_of_row _ _ 5 _ _ _ h).trans rfl⟩
theorem SBox.lt (h : SBox w g Av nv cv kq ts N A n c B m d) : g < w.heap.size := World.block_lt_of_cell? w _ h.c0
theorem SBox.below (h : SBox w g Av nv cv kq ts N A n c B m d) (hb : Below b w w') (hg : g < b) : SBox w' g Av nv cv kq ts N A n c B m d :=
  ⟨(hb.cell (p := ⟨g, 0, none⟩) hg).trans h.c0, (hb.cell (p := ⟨g, 1, none⟩) hg).trans h.c1, (hb.cell (p := ⟨g, 2, none⟩) hg).trans h.c2, (hb.cell (p := ⟨g, 3, none⟩) hg).trans h.c3, (hb.cell (p := ⟨g, 4, none⟩) hg).trans h.c4, (hb.cell (p := ⟨g, 5, none⟩) hg).trans h.c5⟩
end
/-- The cells of a searcher that is empty, and that none is a string's. -/
theorem six_cells {w : World} {g : Nat} {a0 a1 a2 a3 a4 a5 : Value} {t : TypeId} (h : w.heap[g]? = some (.cells #[a0, a1, a2, a3, a4, a5] t (0, 0))) :
    (w.cell? ⟨g, 0, none⟩ = some a0 ∧ w.cell? ⟨g, 1, none⟩ = some a1 ∧ w.cell? ⟨g, 2, none⟩ = some a2 ∧ w.cell? ⟨g, 3, none⟩ = some a3 ∧ w.cell? ⟨g, 4, none⟩ = some a4 ∧ w.cell? ⟨g, 5, none⟩ = some a5) ∧ ∀ j, w.frozen? ⟨g, j, none⟩ = false :=
  ⟨⟨(cell_of_row _ _ 0 _ _ _ h).trans rfl, (cell_of_row _ _ 1 _ _ _ h).trans rfl, (cell_of_row _ _ 2 _ _ _ h).trans rfl, (cell_of_row _ _ 3 _ _ _ h).trans rfl, (cell_of_row _ _ 4 _ _ _ h).trans rfl, (cell_of_row _ _ 5 _ _ _ h).trans rfl⟩, fun j => frozen_of_row _ _ _ _ _ h⟩

/-- A searcher, as a value. -/
def sv (Av : Option Addr) (nv cv : Nat) (kq ts N : Int) (A : Option Addr) (n c : Nat) (B : Option Addr) (m d : Nat) : Value := .agg #[.slice Av nv cv, .int .i64 kq, .int .u64 ts, .int .i64 N, .slice A n c, .slice B m d]
/-- What is told of the dimensions. -/
def dimE (C : List (List Int)) (v : List Int) : Int := if dimC C = v.length then 0 else 151

set_option maxHeartbeats 2000000 in
theorem searcherOf_ok (A Av : Option Addr) (c cv : Nat) (C : List (List Int)) (v : List Int) (kq ts N : Int) (w : World) (hc : Vecs .i32 w A c C) (hv : Vec .i32 w Av cv v) (hr : right v = true) (hC : ∀ x ∈ C, right x = true ∧ x.length = v.length) (h6 : C.length ≤ 6) (h0 : 0 < C.length) :
    Calls Tryz.prog 22 #[pv Av v.length cv kq ts N, .slice A C.length c] w fun e w' => ∃ B d, e = .returned (.tuple #[sv Av v.length cv kq ts N A C.length c B C.length d, .int .i64 0]) ∧ OwnS w.heap.size w' B d (placesP (farM C v) C.length) ∧ Below w.heap.size w w' := by
  obtain ⟨n, hn⟩ : ∃ n, n = C.length := ⟨_, rfl⟩
  obtain ⟨nv, hnv⟩ : ∃ n, n = v.length := ⟨_, rfl⟩
  obtain ⟨g, hg⟩ : ∃ g, g = w.heap.size := ⟨_, rfl⟩
  obtain ⟨W0, hW0⟩ : ∃ W0, W0 = (w.alloc (.cells #[.slice Av nv cv, .int .i64 kq, .int .u64 ts, .int .i64 N] 31)).alloc (.cells #[.slice none 0 0, .int .i64 0, .int .u64 0, .int .i64 0, .slice none 0 0, .slice none 0 0] 76) := ⟨_, rfl⟩
  have hb0 : Below w.heap.size w W0 := by rw [hW0]; exact bn2 _ _ _
  have hp0 : PBox W0 g Av nv cv kq ts N := by rw [hW0, hg]; exact (pbox w Av nv cv kq ts N).1.below (bn1 _ _) (by simp)
  have hs0 : W0.heap[g + 1]? = some (.cells #[.slice none 0 0, .int .i64 0, .int .u64 0, .int .i64 0, .slice none 0 0, .slice none 0 0] 76 (0, 0)) := by
    have := heap_alloc_new (w.alloc (.cells #[.slice Av nv cv, .int .i64 kq, .int .u64 ts, .int .i64 N] 31)) (.cells #[.slice none 0 0, .int .i64 0, .int .u64 0, .int .i64 0, .slice none 0 0, .slice none 0 0] 76)
    rw [World.size_alloc, ← hg, ← hW0] at this
    exact this
  have HO := Lib.hid (ordered_ok A Av c cv C v W0 (hc.below hb0) (hv.below hb0) hr hC h6 h0)
  generalize placesP (farM C v) C.length = L at *
  rw [← hn, ← hnv] at HO
  rw [← hn, ← hnv]
  have HP := Lib.hid (fun (X : World) (hX : Below W0.heap.size W0 X) => hp0.below hX hp0.lt)
  have HS := Lib.hid (fun (X : World) (hX : Below W0.heap.size W0 X) => (hX.block _ (lt_of_block hs0)).trans hs0)
  have HB0 := Lib.hid hb0
  have HW0 := Lib.hid hW0
  have HG := Lib.hid hg
  obtain ⟨x0, x1, x2, x3⟩ := hp0
  clear hc hv hr hC h6 h0 hn hnv hg hW0 hb0 hs0
  unfold pv
  go_enter Tryz.func22, Tryz.ntmps22
  go_wp2_with (rw [← HW0.out, ← HG.out])
  refine HO.out.mono ?_
  rintro e w1 ⟨B, d, rfl, ho, hb1⟩
  obtain ⟨y0, y1, y2, y3⟩ := HP.out w1 hb1
  have hs1 := HS.out w1 hb1
  obtain ⟨⟨r0, r1, r2, r3, r4, r5⟩, fz⟩ := six_cells hs1
  have q0 := fz 0
  have q1 := fz 1
  have q2 := fz 2
  have q3 := fz 3
  have q4 := fz 4
  have q5 := fz 5
  have h6 := SBox.of (set6 hs1 (.slice Av nv cv) (.int .i64 kq) (.int .u64 ts) (.int .i64 N) (.slice A n c) (.slice B n d))
  have ht := put6_turn w1 (g + 1) (.slice Av nv cv) (.int .i64 kq) (.int .u64 ts) (.int .i64 N) (.slice A n c) (.slice B n d)
  have HZ := Lib.hid (show W0.heap.size = g + 2 by rw [HW0.out, HG.out]; simp)
  have HO1 := Lib.hid (OwnS.mono (b := w.heap.size) (ho.turn ht (fun i h1 h2 e => by have := HZ.out; omega)) HB0.out.size)
  have hgw : w.heap.size ≤ g + 1 := by rw [HG.out]; omega
  have HB1 := Lib.hid ((HB0.out.trans (hb1.mono HB0.out.size)).trans (ht.below (Nat.le_trans HB0.out.size hb1.size) (fun i hi => by omega)))
  unfold put6 at *
  obtain ⟨s0, s1, s2, s3, s4, s5⟩ := h6
  clear ho hb1 x0 x1 x2 x3 hs1 ht fz
  go_wp2
  refine bodyPost_ret (v := .tuple #[.agg #[.slice Av nv cv, .int .i64 kq, .int .u64 ts, .int .i64 N, .slice A n c, .slice B n d], .int .i64 0]) (by simp [results, Tryz.results22, go_sem, s0, s1, s2, s3, s4, s5]) rfl ?_
  exact ⟨B, d, rfl, HO1.out, HB1.out⟩
set_option maxHeartbeats 2000000 in
theorem searcherOf_dim (A Av : Option Addr) (c cv : Nat) (C : List (List Int)) (v : List Int) (kq ts N : Int) (w : World) (hc : Vecs .i32 w A c C) (hv : Vec .i32 w Av cv v) (hr : right v = true) (hC : ∀ x ∈ C, right x = true ∧ x.length ≠ v.length) (h0 : 0 < C.length) :
    Calls Tryz.prog 22 #[pv Av v.length cv kq ts N, .slice A C.length c] w fun e w' => e = .returned (.tuple #[sv Av v.length cv kq ts N A C.length c none 0 0, .int .i64 151]) ∧ Below w.heap.size w w' := by
  obtain ⟨n, hn⟩ : ∃ n, n = C.length := ⟨_, rfl⟩
  obtain ⟨nv, hnv⟩ : ∃ n, n = v.length := ⟨_, rfl⟩
  obtain ⟨g, hg⟩ : ∃ g, g = w.heap.size := ⟨_, rfl⟩
  obtain ⟨W0, hW0⟩ : ∃ W0, W0 = (w.alloc (.cells #[.slice Av nv cv, .int .i64 kq, .int .u64 ts, .int .i64 N] 31)).alloc (.cells #[.slice none 0 0, .int .i64 0, .int .u64 0, .int .i64 0, .slice none 0 0, .slice none 0 0] 76) := ⟨_, rfl⟩
  have hb0 : Below w.heap.size w W0 := by rw [hW0]; exact bn2 _ _ _
  have hp0 : PBox W0 g Av nv cv kq ts N := by rw [hW0, hg]; exact (pbox w Av nv cv kq ts N).1.below (bn1 _ _) (by simp)
  have hs0 : W0.heap[g + 1]? = some (.cells #[.slice none 0 0, .int .i64 0, .int .u64 0, .int .i64 0, .slice none 0 0, .slice none 0 0] 76 (0, 0)) := by
    have := heap_alloc_new (w.alloc (.cells #[.slice Av nv cv, .int .i64 kq, .int .u64 ts, .int .i64 N] 31)) (.cells #[.slice none 0 0, .int .i64 0, .int .u64 0, .int .i64 0, .slice none 0 0, .slice none 0 0] 76)
    rw [World.size_alloc, ← hg, ← hW0] at this
    exact this
  have HO := Lib.hid (ordered_dim A Av c cv C v W0 (hc.below hb0) (hv.below hb0) hr hC h0)
  rw [← hn, ← hnv] at HO
  rw [← hn, ← hnv]
  have HP := Lib.hid (fun (X : World) (hX : Below W0.heap.size W0 X) => hp0.below hX hp0.lt)
  have HS := Lib.hid (fun (X : World) (hX : Below W0.heap.size W0 X) => (hX.block _ (lt_of_block hs0)).trans hs0)
  have HB0 := Lib.hid hb0
  have HW0 := Lib.hid hW0
  have HG := Lib.hid hg
  obtain ⟨x0, x1, x2, x3⟩ := hp0
  clear hc hv hr hC h0 hn hnv hg hW0 hb0 hs0
  unfold pv
  go_enter Tryz.func22, Tryz.ntmps22
  go_wp2_with (rw [← HW0.out, ← HG.out])
  refine HO.out.mono ?_
  rintro e w1 ⟨rfl, hb1⟩
  obtain ⟨y0, y1, y2, y3⟩ := HP.out w1 hb1
  have hs1 := HS.out w1 hb1
  obtain ⟨⟨r0, r1, r2, r3, r4, r5⟩, fz⟩ := six_cells hs1
  have q0 := fz 0
  have q1 := fz 1
  have q2 := fz 2
  have q3 := fz 3
  have q4 := fz 4
  have q5 := fz 5
  have h6 := SBox.of (set6 hs1 (.slice Av nv cv) (.int .i64 kq) (.int .u64 ts) (.int .i64 N) (.slice A n c) (.slice none 0 0))
  have ht := put6_turn w1 (g + 1) (.slice Av nv cv) (.int .i64 kq) (.int .u64 ts) (.int .i64 N) (.slice A n c) (.slice none 0 0)
  have HZ := Lib.hid (show W0.heap.size = g + 2 by rw [HW0.out, HG.out]; simp)
  have hgw : w.heap.size ≤ g + 1 := by rw [HG.out]; omega
  have HB1 := Lib.hid ((HB0.out.trans (hb1.mono HB0.out.size)).trans (ht.below (Nat.le_trans HB0.out.size hb1.size) (fun i hi => by omega)))
  unfold put6 at *
  obtain ⟨s0, s1, s2, s3, s4, s5⟩ := h6
  clear hb1 x0 x1 x2 x3 hs1 ht fz
  go_wp2
  refine bodyPost_ret (v := .tuple #[.agg #[.slice Av nv cv, .int .i64 kq, .int .u64 ts, .int .i64 N, .slice A n c, .slice none 0 0], .int .i64 151]) (by simp [results, Tryz.results22, go_sem, s0, s1, s2, s3, s4, s5]) rfl ?_
  exact ⟨rfl, HB1.out⟩
end Go.Proofs.YtcekgllahlhaaaaGreatDoor

namespace Go.Proofs.YtcekgllahlhaaaaGreatDoor
open Go.RowKit Go.Shelf
set_option linter.unusedVariables false
set_option linter.unusedSimpArgs false
set_option maxRecDepth 100000

theorem OwnS.at_ {base : Nat} {w : World} {A : Option Addr} {c : Nat} {l : List Nat} (h : OwnS base w A c l) (h0 : 0 < l.length) : ∃ b, A = some ⟨b, 0, none⟩ ∧ b < w.heap.size ∧ l.length ≤ c ∧ c ≤ 9223372036854775807 ∧ ∀ (i x : Nat), l[i]? = some x → w.cell? ⟨b, 0 + i, none⟩ = some (.int .i64 (x : Int)) := by
  have h' : w.ownsRow base 3 1 (.slice A l.length c) l.length (l.map fun (k : Nat) => Value.int .i64 (k : Int)) := h
  rcases h'.2 with ⟨e, hn⟩ | ⟨g1, cap, cur, e, hg, hh, hnc, hcm, hsz, hcs⟩
  · omega
  · injection e with e1 _ e3
    subst e1
    subst e3
    refine ⟨g1, rfl, lt_of_block hh, hnc, by unfold maxLen at hcm; omega, fun i x hx => ?_⟩
    have hi : i < l.length := (List.getElem?_eq_some_iff.1 hx).1
    have := World.ownsRow.cellAt h' i (by omega)
    rw [Nat.zero_add, this]
    simp [hi, (List.getElem?_eq_some_iff.1 hx).2]

/-- The places that are asked, told one by one. -/
theorem asked_seq {w : World} {base g nv cv n c d : Nat} {Av A B : Option Addr} {kq ts N : Int} {L : List Nat} (h : SBox w g Av nv cv kq ts N A n c B L.length d) (ho : OwnS base w B d L) (h0 : 0 < L.length) (hN : nB N = true) (W0 : World) (hW : Below w.heap.size w W0) :
    SeqOwn Fence.wide 2 Tryz.prog 66 #[.pointer (some ⟨g, 0, none⟩)] encQ (fun _ _ => False) (fun _ _ _ => True) (KpL w.heap.size) (NxP L (min N.toNat L.length)) (fun xs => xs = L.take (min N.toNat L.length)) (fun _ => True) W0 := by
  obtain ⟨hN0, hN1⟩ := nB_iff.1 hN
  obtain ⟨b, rfl, hb, h1, h2, hc⟩ := ho.at_ h0
  have h' := h.below hW h.lt
  exact asked1_in 2 _ (by omega) hN0 hN1 rfl h1 h2 h'.c3 h'.c5 h.lt hb (fun i x hx => (hW.cell (p := ⟨b, 0 + i, none⟩) hb).trans (hc i x hx))

/-- What Nearest tells, and answers. -/
def nrE (N : Int) (C : List (List Int)) (v : List Int) : Int := if nB N = true then (if right v = true then (if cenE C = 0 then dimE C v else cenE C) else 150) else 2
def nrL (N : Int) (C : List (List Int)) (v : List Int) : List Nat := if nrE N C v = 0 then askedP (farM C v) C.length N.toNat else []
def GivesNr (w : World) (L : List Nat) (E : Int) (e : Ending) (w' : World) : Prop := ∃ B d, e = .returned (.tuple #[.slice B L.length d, .int .i64 E]) ∧ OwnS w.heap.size w' B d L ∧ Below w.heap.size w w'
theorem GivesNr.none {w w' : World} {E : Int} (hb : Below w.heap.size w w') : GivesNr w [] E (.returned (.tuple #[.slice none 0 0, .int .i64 E])) w' := ⟨_, 0, rfl, OwnS.nil _ _, hb⟩

set_option maxHeartbeats 4000000 in
theorem nearP_any (A Av : Option Addr) (c cv : Nat) (C : List (List Int)) (v : List Int) (N : Int) (w : World) (hc : Vecs .i32 w A c C) (hv : Vec .i32 w Av cv v) :
    Calls Tryz.prog 13 #[.slice A C.length c, .slice Av v.length cv, .int .i64 N] w (GivesNr w (nrL N C v) (nrE N C v)) := by
  have HE := Lib.hid (show nrE N C v = if nB N = true then (if right v = true then (if cenE C = 0 then dimE C v else cenE C) else 150) else 2 from rfl)
  have HL := Lib.hid (show nrL N C v = if nrE N C v = 0 then askedP (farM C v) C.length N.toNat else [] from rfl)
  have HI := Lib.hid (isN_any N w)
  have HCk := Lib.hid (check_any Av cv v w hv)
  rw [check_right] at HCk
  have HRf := Lib.hid (fun (X : World) (hX : Below w.heap.size w X) => refuseP_any A c C X (hc.below hX))
  have HCo := Lib.hid (fun (h : cenE C = 0) => cenE_ok h)
  have HSo := Lib.hid (fun (X : World) (hX : Below w.heap.size w X) => searcherOf_ok A Av c cv C v 0 0 N X (hc.below hX) (hv.below hX))
  have HSd := Lib.hid (fun (X : World) (hX : Below w.heap.size w X) => searcherOf_dim A Av c cv C v 0 0 N X (hc.below hX) (hv.below hX))
  generalize nrE N C v = E at *
  generalize nrL N C v = L at *
  generalize hD : farM C v = D at *
  obtain ⟨n, hn⟩ : ∃ n, n = C.length := ⟨_, rfl⟩
  obtain ⟨nv, hnv⟩ : ∃ n, n = v.length := ⟨_, rfl⟩
  have HN := Lib.hid hn
  have HNv := Lib.hid hnv
  rw [← hn, ← hnv]
  rw [← hn] at HRf HSo HSd HL HCo
  rw [← hnv] at HCk HSo HSd
  clear hc hv hn hnv hD
  unfold pv at *
  cases hNb : nB N with
  | false =>
    have hE : E = 2 := by rw [HE.out, hNb]; rfl
    have HLn := Lib.hid (show L = [] by rw [HL.out, if_neg (by rw [hE]; decide)])
    subst hE
    rw [hNb] at HI
    clear hNb
    go_enter Tryz.func13, Tryz.ntmps13
    go_wp2_with fail
    refine HI.out.mono ?_
    rintro e w1 ⟨rfl, rfl⟩
    go_wp2
    go_ret2
    rw [HLn.out]
    exact GivesNr.none (Below.refl _ _)
  | true =>
    rw [hNb] at HI
    cases hr : right v with
    | false =>
      have hE : E = 150 := by rw [HE.out, hNb, hr]; rfl
      have HLn := Lib.hid (show L = [] by rw [HL.out, if_neg (by rw [hE]; decide)])
      subst hE
      rw [hr] at HCk
      clear hNb hr
      go_enter Tryz.func13, Tryz.ntmps13
      go_wp2_with fail
      refine HI.out.mono ?_
      rintro e w1 ⟨rfl, rfl⟩
      go_wp2_with fail
      refine HCk.out.mono ?_
      rintro e w2 ⟨rfl, hb2⟩
      have HB2 := Lib.hid hb2
      clear hb2
      go_wp2
      go_ret2
      rw [HLn.out]
      exact GivesNr.none HB2.out
    | true =>
      rw [hr] at HCk
      obtain ⟨K, hK⟩ : ∃ K, K = cenE C := ⟨_, rfl⟩
      rw [← hK] at HRf HCo HE
      by_cases hK0 : K = 0
      · obtain ⟨c0, c6, call⟩ := HCo.out hK0
        by_cases hd : dimC C = nv
        · have hE : E = 0 := by rw [HE.out, hNb, hr, hK0]; simp [dimE, ← HNv.out, hd]
          have HLn := Lib.hid (show L = askedP D n N.toNat by rw [HL.out, if_pos hE])
          have HSoo := Lib.hid (fun (X : World) (hX : Below w.heap.size w X) => HSo.out X hX hr (fun x hx => by rw [← hd]; exact call x hx) c6 c0)
          have HNb := Lib.hid hNb
          have HPl := Lib.hid (places_len D n)
          have HAk := Lib.hid (show (placesP D n).take (min N.toNat n) = L by rw [HLn.out, ← asked_min]; rfl)
          have HC0 := Lib.hid c0
          have HC6 := Lib.hid c6
          subst hE hK0
          generalize placesP D n = PL at *
          clear hNb hr c6 call hd hK c0
          go_enter Tryz.func13, Tryz.ntmps13
          go_wp2_with fail
          refine HI.out.mono ?_
          rintro e w1 ⟨rfl, rfl⟩
          go_wp2_with fail
          refine HCk.out.mono ?_
          rintro e w2 ⟨rfl, hb2⟩
          have HB2 := Lib.hid hb2
          clear hb2
          go_wp2_with fail
          refine (HRf.out w2 HB2.out).mono ?_
          rintro e w3 ⟨rfl, hb3⟩
          have HB3 := Lib.hid (HB2.out.trans (hb3.mono HB2.out.size))
          clear hb3
          go_wp2_with fail
          refine (HSoo.out w3 HB3.out).mono ?_
          rintro e w4 ⟨B, d, rfl, ho, hb4⟩
          unfold sv
          obtain ⟨W5, hW5⟩ : ∃ W5, W5 = w4.alloc (.cells #[.slice Av nv cv, .int .i64 0, .int .u64 0, .int .i64 N, .slice A n c, .slice B n d] 76) := ⟨_, rfl⟩
          obtain ⟨W6, hW6⟩ : ∃ W6, W6 = W5.alloc (.cells #[.slice Av nv cv, .int .i64 0, .int .u64 0, .int .i64 N, .slice A n c, .slice B n d] 76) := ⟨_, rfl⟩
          have hb5 : Below w4.heap.size w4 W5 := by rw [hW5]; exact bn1 _ _
          have hb6 : Below W5.heap.size W5 W6 := by rw [hW6]; exact bn1 _ _
          have hs5 : SBox W5 w4.heap.size Av nv cv 0 0 N A n c B n d := by rw [hW5]; exact SBox.of (heap_alloc_new _ _)
          have hs6 : SBox W6 W5.heap.size Av nv cv 0 0 N A n c B n d := by rw [hW6]; exact SBox.of (heap_alloc_new _ _)
          have hb36 : Below w.heap.size w W6 := ((HB3.out.trans (hb4.mono HB3.out.size)).trans (hb5.mono (Nat.le_trans HB3.out.size hb4.size))).trans (hb6.mono (by have := HB3.out.size; have := hb4.size; have := hb5.size; omega))
          have hAs := asked_fn #[] W5 (.slice Av nv cv) (.int .i64 0) (.int .u64 0) (.int .i64 N) (.slice A n c) (.slice B n d)
          rw [← hW6] at hAs
          have HAs := Lib.hid hAs
          have ho6 := (ho.below hb5).below hb6
          have HCl := Lib.hid (collectP_any 66 #[.pointer (some ⟨W5.heap.size, 0, none⟩)] PL (min N.toNat n) W6 (by have := HC6.out; omega) (fun args W => enters_of Tryz.func66 (by kernel_rfl) rfl args W)
            (fun W0 hW0 => by
              have := asked_seq (L := PL) (by rw [HPl.out]; exact hs6) ho6 (by rw [HPl.out]; exact HC0.out) HNb.out W0 hW0
              rw [HPl.out] at this
              exact this))
          rw [HAk.out] at HCl
          have HB6 := Lib.hid hb36
          have HW5 := Lib.hid hW5
          obtain ⟨z0, z1, z2, z3, z4, z5⟩ := hs5
          clear ho ho6 hb4 hb5 hb6 hs6 hb36 hAs hW5 hW6
          go_wp2_with (rw [← HW5.out])
          refine HAs.out.mono ?_
          rintro e w7 ⟨rfl, rfl⟩
          go_wp2_with fail
          refine HCl.out.mono ?_
          rintro e w8 ⟨B8, d8, he, ho8, hb8⟩
          obtain ⟨LL, hLL⟩ : ∃ LL, LL = L.length := ⟨_, rfl⟩
          rw [← hLL] at he
          subst he
          have HF := Lib.hid (show GivesNr w L 0 (.returned (.tuple #[.slice B8 LL d8, .int .i64 0])) w8 from ⟨B8, d8, by rw [hLL], ho8.mono HB6.out.size, HB6.out.trans (hb8.mono HB6.out.size)⟩)
          clear ho8 hb8 hLL
          go_wp2
          go_ret2
          exact HF.out
        · have hE : E = 151 := by rw [HE.out, hNb, hr, hK0]; simp [dimE, ← HNv.out, hd]
          have HLn := Lib.hid (show L = [] by rw [HL.out, if_neg (by rw [hE]; decide)])
          have HSdd := Lib.hid (fun (X : World) (hX : Below w.heap.size w X) => HSd.out X hX hr (fun x hx => by rw [(call x hx).2]; exact ⟨(call x hx).1, hd⟩) c0)
          subst hE hK0
          clear hNb hr c0 c6 call hd hK
          go_enter Tryz.func13, Tryz.ntmps13
          go_wp2_with fail
          refine HI.out.mono ?_
          rintro e w1 ⟨rfl, rfl⟩
          go_wp2_with fail
          refine HCk.out.mono ?_
          rintro e w2 ⟨rfl, hb2⟩
          have HB2 := Lib.hid hb2
          clear hb2
          go_wp2_with fail
          refine (HRf.out w2 HB2.out).mono ?_
          rintro e w3 ⟨rfl, hb3⟩
          have HB3 := Lib.hid (HB2.out.trans (hb3.mono HB2.out.size))
          clear hb3
          go_wp2_with fail
          refine (HSdd.out w3 HB3.out).mono ?_
          rintro e w4 ⟨rfl, hb4⟩
          unfold sv
          have HB4 := Lib.hid (HB3.out.trans (hb4.mono HB3.out.size))
          clear hb4
          go_wp2
          go_ret2
          rw [HLn.out]
          exact GivesNr.none (HB4.out.alloc HB4.out.size _)
      · have hE : E = K := by rw [HE.out, hNb, hr]; simp [hK0]
        have HLn := Lib.hid (show L = [] by rw [HL.out, if_neg (by rw [hE]; exact hK0)])
        subst hE
        have t1 : (E != 0) = true := by simpa using hK0
        have t2 : (E == 0) = false := by simpa using hK0
        clear hNb hr hK hK0
        go_enter Tryz.func13, Tryz.ntmps13
        go_wp2_with fail
        refine HI.out.mono ?_
        rintro e w1 ⟨rfl, rfl⟩
        go_wp2_with fail
        refine HCk.out.mono ?_
        rintro e w2 ⟨rfl, hb2⟩
        have HB2 := Lib.hid hb2
        clear hb2
        go_wp2_with fail
        refine (HRf.out w2 HB2.out).mono ?_
        rintro e w3 ⟨rfl, hb3⟩
        have HB3 := Lib.hid (HB2.out.trans (hb3.mono HB2.out.size))
        clear hb3
        go_wp2
        go_ret2
        rw [HLn.out]
        exact GivesNr.none HB3.out
end Go.Proofs.YtcekgllahlhaaaaGreatDoor
