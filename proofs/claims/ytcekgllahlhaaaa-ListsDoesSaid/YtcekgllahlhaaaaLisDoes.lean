/-
  What is added, removed and put together step by step, as values. No program is named here.
-/
import Derived.Test.YtcekgllahlhaaaaLisKeep
namespace Go.Proofs.Ytcekgllahlhaaaa
open MskL (Mk has mk rightM hasB slotB ofE ofM has_mk mk_congr)
set_option linter.unusedVariables false
set_option linter.unusedSimpArgs false

theorem does_bad {C : List (List Int)} {M : List Mk} (h : okB C M = false) (s : Int) (v : List Int) (ss ps : List Int) :
    addE C M s v = 230 ∧ remE C M ss = 230 ∧ unionE C M ps = 230 ∧ unionR C M ps = mz := by
  have h3 : unionE C M ps = 230 := by unfold unionE; rw [h]; rfl
  exact ⟨by unfold addE; rw [h]; rfl, by unfold remE; rw [h]; rfl, h3, by unfold unionR; rw [h3]; rfl⟩
/-- The masks without the first k of the slots. -/
def remTo (M : List Mk) (ss : List Int) (k : Nat) : List Mk := M.map fun m => mk fun n => has m n && !decide ((n : Int) ∈ ss.take k)
theorem remTo_len (M : List Mk) (ss : List Int) (k : Nat) : (remTo M ss k).length = M.length := by simp [remTo]
theorem ok_right {C : List (List Int)} {M : List Mk} (h : okB C M = true) : ∀ m ∈ M, mk (has m) = m := by
  intro m hm
  obtain ⟨_, _, _, ha⟩ := okB_iff h
  obtain ⟨i, hi⟩ := List.mem_iff_getElem?.1 hm
  have hlt := (List.getElem?_eq_some_iff.1 hi).1
  have := apTo_right ha hlt
  rw [mgetD hi] at this
  unfold rightM at this
  exact (of_decide_eq_true this).symm
theorem remTo_zero {C : List (List Int)} {M : List Mk} (h : okB C M = true) (ss : List Int) : remTo M ss 0 = M := by
  unfold remTo
  have h1 : ∀ m ∈ M, (mk fun n => has m n && !decide ((n : Int) ∈ ss.take 0)) = m := by
    intro m hm
    conv => rhs; rw [← ok_right h m hm]
    exact mk_congr fun n hn => by simp
  calc M.map (fun m => mk fun n => has m n && !decide ((n : Int) ∈ ss.take 0)) = M.map id := List.map_congr_left h1
    _ = M := List.map_id M
theorem mem_take_succ {ss : List Int} {k : Nat} {x : Int} (hx : ss[k]? = some x) (n : Int) : n ∈ ss.take (k + 1) ↔ n ∈ ss.take k ∨ n = x := by
  rw [List.take_add_one, hx]
  simp
theorem remTo_yes {M : List Mk} {ss : List Int} {k s : Nat} (hx : ss[k]? = some (s : Int)) : (remTo M ss k).map (fun m => mk fun j => has m j && !decide (j = s)) = remTo M ss (k + 1) := by
  unfold remTo
  rw [List.map_map]
  refine List.map_congr_left fun m hm => ?_
  simp only [Function.comp]
  refine mk_congr fun n hn => ?_
  rw [has_mk, decide_eq_true hn, Bool.true_and]
  have : ((n : Int) ∈ ss.take (k + 1)) ↔ ((n : Int) ∈ ss.take k ∨ n = s) := by rw [mem_take_succ hx]; constructor <;> rintro (h | h) <;> first | exact .inl h | (right; omega)
  simp only [this]
  by_cases h1 : (n : Int) ∈ ss.take k
  · simp [h1]
  · by_cases h2 : n = s
    · simp [h2]
    · simp [h1, h2]
theorem remTo_no {M : List Mk} {ss : List Int} {k : Nat} {x : Int} (hx : ss[k]? = some x) (h : slotB x = false) : remTo M ss k = remTo M ss (k + 1) := by
  unfold remTo
  refine List.map_congr_left fun m hm => mk_congr fun n hn => ?_
  have hne : (n : Int) ≠ x := by
    rintro rfl
    unfold slotB at h
    simp at h
    omega
  have : ((n : Int) ∈ ss.take (k + 1)) ↔ ((n : Int) ∈ ss.take k) := by rw [mem_take_succ hx]; simp [hne]
  simp only [this]
theorem remTo_all {M : List Mk} {ss : List Int} : remTo M ss ss.length = remM M ss := by
  unfold remTo remM
  refine List.map_congr_left fun m hm => mk_congr fun n hn => ?_
  rw [List.take_length]
  unfold ofM
  rw [has_mk, decide_eq_true hn, Bool.true_and]
/-- What is told of the first k slots. -/
def noTo (ss : List Int) (k : Nat) : Int := if (ss.take k).all slotB then 0 else 2
theorem noTo_zero (ss : List Int) : noTo ss 0 = 0 := by unfold noTo; rw [List.take_zero]; rfl
theorem noTo_yes {ss : List Int} {k : Nat} {x : Int} (hx : ss[k]? = some x) (h : slotB x = true) : noTo ss (k + 1) = noTo ss k := by
  unfold noTo
  rw [all_take_snoc slotB ss hx, h, Bool.and_true]
theorem noTo_no {ss : List Int} {k : Nat} {x : Int} (hx : ss[k]? = some x) (h : slotB x = false) : noTo ss (k + 1) = 2 := by
  unfold noTo
  rw [all_take_snoc slotB ss hx, h, Bool.and_false]; rfl
theorem noTo_all (ss : List Int) : noTo ss ss.length = ofE ss := by unfold noTo ofE; rw [List.take_length]
/-- What Add answers, case by case. -/
theorem add_slot {C : List (List Int)} {M : List Mk} {s : Int} {v : List Int} (hk : okB C M = true) (h : slotB s = false ∨ 0 ≤ whereK M s) : addE C M s v = 2 := by
  unfold addE
  rw [if_pos hk]
  rcases h with h | h
  · rw [h]; rfl
  · cases slotB s
    · rfl
    · rw [if_pos rfl, if_pos h]
theorem add_vec {C : List (List Int)} {M : List Mk} {s : Int} {v : List Int} (hk : okB C M = true) (h1 : slotB s = true) (h2 : whereK M s < 0) (h3 : right v = false) : addE C M s v = 150 := by
  unfold addE
  rw [if_pos hk, if_pos h1, if_neg (by omega), h3]; rfl
theorem add_none {C : List (List Int)} {M : List Mk} {s : Int} {v : List Int} (hk : okB C M = true) (h1 : slotB s = true) (h2 : whereK M s < 0) (h3 : right v = true) (h4 : C.length = 0) : addE C M s v = 0 ∧ addM C M s v = M := by
  unfold addE addM
  rw [if_pos hk, if_pos h1, if_neg (by omega), if_pos h3, if_pos h4, if_pos h4]
  exact ⟨rfl, rfl⟩
theorem add_dim {C : List (List Int)} {M : List Mk} {s : Int} {v : List Int} (hk : okB C M = true) (h1 : slotB s = true) (h2 : whereK M s < 0) (h3 : right v = true) (h4 : C.length ≠ 0) (h5 : v.length ≠ dimC C) : addE C M s v = 151 := by
  unfold addE
  rw [if_pos hk, if_pos h1, if_neg (by omega), if_pos h3, if_neg h4, if_neg h5]
theorem add_in {C : List (List Int)} {M : List Mk} {s : Int} {v : List Int} (hk : okB C M = true) (h1 : slotB s = true) (h2 : whereK M s < 0) (h3 : right v = true) (h4 : C.length ≠ 0) (h5 : v.length = dimC C) : addE C M s v = 0 ∧ addM C M s v = M.set (nearM C v) (MskL.withM (M.getD (nearM C v) mz) s) := by
  unfold addE addM
  rw [if_pos hk, if_pos h1, if_neg (by omega), if_pos h3, if_neg h4, if_pos h5, if_neg h4]
  exact ⟨rfl, rfl⟩
end Go.Proofs.Ytcekgllahlhaaaa
