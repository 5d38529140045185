/-
  What the masks of an arena's lists count, and where each slot is. No program is named here.
-/
import Derived.Test.YtpeialkfddjndaaLisKeep
namespace Go.Proofs.Ytpeialkfddjndaa
open MskL (Mk has mk rightM hasB slotB has_mk mk_congr cnt cnt_succ)
set_option linter.unusedVariables false
set_option linter.unusedSimpArgs false

theorem cnt_add {f g h : Nat → Bool} : ∀ k, (∀ j, j < k → h j = (f j || g j) ∧ (f j && g j) = false) → cnt f k + cnt g k = cnt h k
  | 0, _ => by simp [cnt]
  | k + 1, H => by
    have ih := cnt_add (f := f) (g := g) (h := h) k (fun j hj => H j (by omega))
    obtain ⟨h1, h2⟩ := H k (by omega)
    rw [cnt_succ, cnt_succ, cnt_succ, h1]
    cases hf : f k <;> cases hg : g k <;> simp [hf, hg] at h2 ⊢ <;> omega
theorem cnt_same {f g : Nat → Bool} (k : Nat) (H : ∀ j, j < k → f j = g j) : cnt f k = cnt g k := by
  have := cnt_add (f := f) (g := fun _ => false) (h := g) k (fun j hj => by rw [H j hj]; simp)
  have h0 : cnt (fun _ => false) k = 0 := by simp [cnt]
  omega
/-- How many slots the first k masks have. -/
def sumC (C : List (List Int)) (l : List Ce) : Nat → Nat
  | 0 => 0
  | k + 1 => sumC C l k + cnt (has (maskOf C l k)) 96
theorem sum_cnt (C : List (List Int)) (l : List Ce) : ∀ k, sumC C l k = cnt (fun j => (ceAt l j).u && decide (nearM C (ceAt l j).x < k)) 96
  | 0 => by
    unfold sumC
    rw [cnt_same (f := fun j => (ceAt l j).u && decide (nearM C (ceAt l j).x < 0)) (g := fun _ => false) 96 (fun j _ => by simp)]
    unfold cnt
    rw [List.filter_eq_nil_iff.2 (fun a _ => by simp)]; rfl
  | k + 1 => by
    unfold sumC
    rw [sum_cnt C l k]
    refine cnt_add 96 fun j hj => ?_
    unfold maskOf
    rw [has_mk]
    unfold inP
    rw [decide_eq_true hj]
    cases (ceAt l j).u with
    | false => simp
    | true =>
      simp only [Bool.true_and]
      by_cases h1 : nearM C (ceAt l j).x < k
      · have : ¬ nearM C (ceAt l j).x = k := by omega
        simp [h1, this]; omega
      · by_cases h2 : nearM C (ceAt l j).x = k
        · simp [h2]
        · have : ¬ nearM C (ceAt l j).x < k + 1 := by omega
          simp [h1, h2, this]
theorem sum_le (C : List (List Int)) (l : List Ce) (k : Nat) : sumC C l k ≤ 96 := by rw [sum_cnt]; exact MskL.cnt_le _ _
theorem near_lt {C : List (List Int)} (h : 0 < C.length) (x : List Int) : nearM C x < C.length := nearF_lt _ _ h
theorem range_ce (l : List Ce) : l = (List.range l.length).map (ceAt l) := by
  refine List.ext_getElem? fun i => ?_
  rw [List.getElem?_map]
  by_cases h : i < l.length
  · rw [at_ce h, List.getElem?_range h]; rfl
  · rw [List.getElem?_eq_none (by omega), List.getElem?_eq_none (by simpa using h)]; rfl
theorem used_cnt (l : List Ce) : cnt (fun j => (ceAt l j).u) l.length = usedN l := by
  unfold cnt usedN
  conv => rhs; rw [range_ce l]
  rw [List.filter_map, List.length_map]
  rfl
theorem sum_used {C : List (List Int)} {l : List Ce} (h : 0 < C.length) (hl : l.length = 96) : sumC C l C.length = usedN l := by
  rw [sum_cnt, ← used_cnt, hl]
  exact cnt_same 96 fun j _ => by simp [near_lt h]
/-- The places in their order. -/
def rng (n : Nat) : List Int := (List.range n).map fun (j : Nat) => (j : Int)
theorem rng_len (n : Nat) : (rng n).length = n := by simp [rng]
theorem rng_succ (n : Nat) : rng (n + 1) = rng n ++ [(n : Int)] := by unfold rng; rw [List.range_succ, List.map_append]; rfl
theorem uni_has {C : List (List Int)} {l : List Ce} (h : 0 < C.length) (j : Nat) : has (unionM (masksOf C l) (rng C.length)) j = (decide (j < 96) && (ceAt l j).u) := by
  unfold unionM
  rw [has_mk]
  by_cases hj : j < 96
  · rw [decide_eq_true hj, Bool.true_and, Bool.true_and]
    unfold rng
    rw [List.any_map, Bool.eq_iff_iff, List.any_eq_true]
    constructor
    · rintro ⟨i, hi, h2⟩
      have hi := List.mem_range.1 hi
      simp only [Function.comp, Int.toNat_natCast] at h2
      rw [masks_get hi] at h2
      unfold maskOf at h2
      rw [has_mk] at h2
      unfold inP at h2
      simp at h2
      exact h2.2.1
    · intro hu
      refine ⟨nearM C (ceAt l j).x, List.mem_range.2 (near_lt h _), ?_⟩
      simp only [Function.comp, Int.toNat_natCast]
      rw [masks_get (near_lt h _)]
      unfold maskOf
      rw [has_mk]
      unfold inP
      simp [hu, hj]
  · rw [decide_eq_false hj]; rfl
theorem uni_cnt {C : List (List Int)} {l : List Ce} (h : 0 < C.length) (hl : l.length = 96) : cnt (has (unionM (masksOf C l) (rng C.length))) 96 = usedN l := by
  rw [← used_cnt, hl]
  exact cnt_same 96 fun j hj => by rw [uni_has h, decide_eq_true hj, Bool.true_and]
theorem uni_good {C : List (List Int)} {l : List Ce} (hB : buildE C l = 0) : unionE C (masksOf C l) (rng C.length) = 0 ∧ unionR C (masksOf C l) (rng C.length) = unionM (masksOf C l) (rng C.length) := by
  obtain ⟨ha, hc, _⟩ := build_parts hB
  have h1 : unionE C (masksOf C l) (rng C.length) = 0 := by
    unfold unionE
    rw [if_pos (masks_right l hc), if_pos]
    rw [List.all_eq_true]
    intro p hp
    unfold rng at hp
    obtain ⟨i, hi, rfl⟩ := List.mem_map.1 hp
    have := List.mem_range.1 hi
    unfold inB
    rw [masks_len]
    simp; omega
  exact ⟨h1, by unfold unionR; rw [if_pos h1]⟩
theorem where_used {C : List (List Int)} {l : List Ce} {k : Nat} (h : 0 < C.length) (hk : k < 96) (hu : (ceAt l k).u = true) : whereK (masksOf C l) (k : Int) = (nearM C (ceAt l k).x : Int) := by
  have hb : ∀ i, i < C.length → hasB (maskOf C l i) (k : Int) = decide (nearM C (ceAt l k).x = i) := by
    intro i hi
    unfold hasB maskOf
    have h1 : ((k : Int)).toNat = k := by omega
    have h2 : slotB (k : Int) = true := by unfold slotB; simp; omega
    rw [h1, h2, has_mk, decide_eq_true hk]
    unfold inP
    rw [hu]
    simp
  unfold whereK
  rw [idx_at (k := nearM C (ceAt l k).x) (masks_at (near_lt h _))]
  · rfl
  · rw [hb _ (near_lt h _)]; simp
  · intro j u hj hu'
    have hj' : j < C.length := by have := near_lt h (ceAt l k).x; omega
    rw [masks_at hj'] at hu'
    obtain rfl : maskOf C l j = u := by simpa using hu'
    rw [hb j hj']
    simp; omega
theorem uni_hasB {C : List (List Int)} {l : List Ce} {k : Nat} (h : 0 < C.length) (hk : k < 96) : hasB (unionM (masksOf C l) (rng C.length)) (k : Int) = (ceAt l k).u := by
  unfold hasB
  have h1 : ((k : Int)).toNat = k := by omega
  have h2 : slotB (k : Int) = true := by unfold slotB; simp; omega
  rw [h1, h2, uni_has h, decide_eq_true hk]
  simp
theorem where_tells {C : List (List Int)} {l : List Ce} {k : Nat} (hB : buildE C l = 0) (h : 0 < C.length) (hk : k < 96) : whereB C (masksOf C l) (k : Int) = (ceAt l k).u ∧ ((ceAt l k).u = true → whereI C (masksOf C l) (k : Int) = (nearM C (ceAt l k).x : Int)) := by
  obtain ⟨ha, hc, _⟩ := build_parts hB
  unfold whereB whereI
  rw [masks_right l hc]
  cases hu : (ceAt l k).u with
  | false => rw [where_free hu]; exact ⟨rfl, fun h => by cases h⟩
  | true =>
    rw [where_used h hk hu]
    refine ⟨by simp, fun _ => ?_⟩
    simp
theorem far_good {C : List (List Int)} {l : List Ce} {k i : Nat} {y : List Int} (hB : buildE C l = 0) (h : 0 < C.length) (hk : k < 96) (hu : (ceAt l k).u = true) (hy : C[i]? = some y) :
    distE y (ceAt l k).x = 0 ∧ distD y (ceAt l k).x = farM C (ceAt l k).x i := by
  obtain ⟨ha, hc, hf⟩ := build_parts hB
  have hm := List.mem_of_getElem? (at_ce (l := l) (k := k) (by rw [arB_len ha]; exact hk))
  have hr : right (ceAt l k).x = true := by
    have := sound_ver (may_used (arB_may ha _ hm) hu)
    unfold verR at this
    rw [Bool.and_eq_true] at this
    exact this.1
  have hd : (ceAt l k).x.length = dimC C := by
    rcases hf with hf | hf
    · omega
    · have := List.all_eq_true.1 hf _ hm
      unfold fitsE at this
      rw [hu] at this
      simpa using this
  have hcy := allM_all (C := C) (by unfold cenB at hc; simp at hc; exact hc.2) y (List.mem_of_getElem? hy)
  have he : distE y (ceAt l k).x = 0 := by
    unfold distE refuseM
    have : (ceAt l k).x.length = y.length := by rw [hd, hcy.2]; rfl
    simp [hcy.1, hr, this]
  refine ⟨he, ?_⟩
  unfold distD farM
  rw [if_pos he, getD_at hy]
theorem far_least {C : List (List Int)} {x : List Int} {i : Nat} (hi : i < C.length) : farM C x (nearM C x) ≤ farM C x i ∧ (i < nearM C x → farM C x (nearM C x) < farM C x i) := by
  obtain ⟨h1, _, h3⟩ := nearF_least (farM C x) C.length
  exact ⟨h1 i hi, fun h => h3 i h⟩
end Go.Proofs.Ytpeialkfddjndaa
