/-
  Lists that follow an arena: what is put, dropped, and found, as values. No program is named here.
-/
import Derived.Test.YtcekgllahlhaaaaMLisA
import Derived.Test.YtcekgllahlhaaaaMArf
namespace Go.Proofs.Ytcekgllahlhaaaa
open MskL (Mk has mk rightM hasB slotB ofE ofM withM has_mk mk_congr)
set_option linter.unusedVariables false
set_option linter.unusedSimpArgs false

theorem mk_right (f : Nat → Bool) : rightM (mk f) = true := by unfold rightM; exact decide_eq_true (MskL.mk_has f).symm
theorem masks_len (C : List (List Int)) (l : List Ce) : (masksOf C l).length = C.length := by simp [masksOf]
theorem masks_at {C : List (List Int)} {l : List Ce} {i : Nat} (h : i < C.length) : (masksOf C l)[i]? = some (maskOf C l i) := by unfold masksOf; simp [h]
theorem masks_get {C : List (List Int)} {l : List Ce} {i : Nat} (h : i < C.length) : (masksOf C l).getD i mz = maskOf C l i := mgetD (masks_at h)
theorem masks_right {C : List (List Int)} (l : List Ce) (hC : cenB C = true) : okB C (masksOf C l) = true := by
  unfold okB
  rw [hC, decide_eq_true (masks_len C l)]
  unfold apartB apTo
  rw [masks_len]
  simp only [Bool.true_and]
  rw [List.all_eq_true]
  intro i hi
  have hi := List.mem_range.1 hi
  rw [masks_get hi, Bool.and_eq_true, List.all_eq_true]
  refine ⟨mk_right _, fun j hj => ?_⟩
  have hj := List.mem_range.1 hj
  rw [masks_get (by omega)]
  cases hm : meet (maskOf C l i) (maskOf C l j) with
  | false => rfl
  | true =>
    obtain ⟨s, h1, h2⟩ := (meet_iff _ _).1 hm
    unfold maskOf at h1 h2
    rw [has_mk] at h1 h2
    unfold inP at h1 h2
    simp only [Bool.and_eq_true, decide_eq_true_eq] at h1 h2
    omega
theorem build_parts {C : List (List Int)} {l : List Ce} (h : buildE C l = 0) : arB l = true ∧ cenB C = true ∧ (C.length = 0 ∨ l.all (fitsE C) = true) := by
  unfold buildE at h
  split at h
  · split at h
    · split at h
      · exact ⟨by assumption, by assumption, .inl (by assumption)⟩
      · split at h
        · exact ⟨by assumption, by assumption, .inr (by assumption)⟩
        · omega
    · omega
  · omega
theorem build_join {C : List (List Int)} {l : List Ce} (h1 : arB l = true) (h2 : cenB C = true) (h3 : C.length = 0 ∨ l.all (fitsE C) = true) : buildE C l = 0 := by
  unfold buildE
  rw [if_pos h1, if_pos h2]
  rcases h3 with h3 | h3
  · rw [if_pos h3]
  · rw [if_pos h3]; split <;> rfl
theorem agree_self {C : List (List Int)} {l : List Ce} (h : buildE C l = 0) : agreeB C (masksOf C l) l = true := by unfold agreeB; rw [decide_eq_true h, decide_eq_true rfl]; rfl
theorem ceAt_set {l : List Ce} {k j : Nat} {e : Ce} (hk : k < l.length) : ceAt (l.set k e) j = if j = k then e else ceAt l j := by
  unfold ceAt
  simp only [List.getD, List.getElem?_set]
  by_cases h : k = j
  · subst h; simp [hk]
  · rw [if_neg h, if_neg (by omega)]
theorem ceAt_setZ {l : List Ce} {ss : List Int} {j : Nat} : ceAt (setZ l ss) j = if (j : Int) ∈ ss then zc else ceAt l j := by
  unfold ceAt setZ
  simp only [List.getD, List.getElem?_mapIdx]
  by_cases h : j < l.length
  · rw [List.getElem?_eq_getElem h]; simp
  · rw [List.getElem?_eq_none (by omega)]; simp

theorem has_free {C : List (List Int)} {l : List Ce} {k : Nat} (h : (ceAt l k).u = false) : ∀ m ∈ masksOf C l, has m k = false := by
  intro m hm
  unfold masksOf at hm
  obtain ⟨p, _, rfl⟩ := List.mem_map.1 hm
  unfold maskOf
  rw [has_mk]
  unfold inP
  rw [h]
  simp
theorem where_free {C : List (List Int)} {l : List Ce} {k : Nat} (h : (ceAt l k).u = false) : whereK (masksOf C l) (k : Int) = -1 := by
  unfold whereK
  rw [idx_no]
  · rfl
  · intro j m hm
    have h1 := has_free (C := C) h m (List.mem_of_getElem? hm)
    unfold hasB
    have : ((k : Int)).toNat = k := by omega
    rw [this, h1]
    simp

theorem put_parts {l : List Ce} {id b f : Int} {x : List Int} (h : putE l b f x = 0) : ∃ k, leastO l = some k ∧ verR b f x = true ∧ k < l.length ∧ (ceAt l k).u = false ∧ putK l b f x = (k : Int) ∧ putL l id b f x = l.set k ⟨true, id, b, f, x⟩ := by
  have h0 := h
  unfold putE at h
  split at h
  · split at h
    · rename_i h1 h2
      cases hk : leastO l with
      | none => rw [hk] at h; cases h
      | some k =>
        obtain ⟨h3, h4, _⟩ := least_some hk
        refine ⟨k, rfl, h2, h3, h4, ?_, ?_⟩
        · unfold putK; rw [if_pos h0, hk]; rfl
        · unfold putL; rw [if_pos h0, hk]
    · omega
  · omega

/-- What is put is added, and is taken out again. -/
theorem put_keep {C : List (List Int)} {l : List Ce} {id b f : Int} {x : List Int} (hB : buildE C l = 0) (h : putE l b f x = 0) (hd : C.length = 0 ∨ dimC C = x.length) :
    ∃ k : Nat, putK l b f x = (k : Int) ∧ k < 96 ∧ addE C (masksOf C l) k x = 0 ∧ addM C (masksOf C l) k x = masksOf C (putL l id b f x) ∧ buildE C (putL l id b f x) = 0 ∧
      remE C (masksOf C (putL l id b f x)) [(k : Int)] = 0 ∧ remM (masksOf C (putL l id b f x)) [(k : Int)] = masksOf C l := by
  obtain ⟨k, hk, hv, hkl, hu, hK, hL⟩ := put_parts (id := id) h
  obtain ⟨ha, hc, hf⟩ := build_parts hB
  have h96 := arB_len ha
  have hs : slotB (k : Int) = true := by unfold slotB; simp; omega
  have hr : right x = true := by unfold verR at hv; rw [Bool.and_eq_true] at hv; exact hv.1
  have hat : ∀ j, ceAt (l.set k ⟨true, id, b, f, x⟩) j = if j = k then ⟨true, id, b, f, x⟩ else ceAt l j := fun j => ceAt_set hkl
  have hin : ∀ p j, inP C (l.set k ⟨true, id, b, f, x⟩) p j = if j = k then decide (nearM C x = p) else inP C l p j := by
    intro p j
    unfold inP
    rw [hat]
    by_cases hj : j = k
    · rw [if_pos hj, if_pos hj]; simp
    · rw [if_neg hj, if_neg hj]
  have hno : ∀ p, inP C l p k = false := by intro p; unfold inP; rw [hu]; simp
  refine ⟨k, hK, by omega, ?_, ?_, ?_, ?_, ?_⟩
  · unfold addE
    rw [if_pos (masks_right l hc), if_pos hs, where_free hu, if_neg (by omega), if_pos hr]
    rcases hd with hd | hd
    · rw [if_pos hd]
    · rw [if_pos hd.symm]; split <;> rfl
  · rw [hL]
    unfold addM
    split
    · rename_i h0
      unfold masksOf
      rw [h0]; rfl
    · rename_i h0
      refine List.ext_getElem? fun i => ?_
      by_cases hi : i < C.length
      · rw [masks_at hi, List.getElem?_set]
        by_cases hp : nearM C x = i
        · subst hp
          rw [if_pos rfl, if_pos (by rw [masks_len]; exact hi), masks_get hi]
          congr 1
          unfold withM maskOf
          refine mk_congr fun n hn => ?_
          rw [has_mk, hin]
          by_cases hnk : n = k
          · subst hnk; simp
          · rw [if_neg hnk]
            have : ¬ ((n : Int) = (k : Int)) := by omega
            simp [this, hn]
        · rw [if_neg hp, masks_at hi]
          congr 1
          unfold maskOf
          refine mk_congr fun n hn => ?_
          rw [hin]
          by_cases hnk : n = k
          · subst hnk; rw [if_pos rfl, hno, decide_eq_false hp]
          · rw [if_neg hnk]
      · rw [List.getElem?_eq_none (by rw [List.length_set, masks_len]; omega), List.getElem?_eq_none (by rw [masks_len]; omega)]
  · rw [hL]
    refine build_join (set_right ha ?_) hc ?_
    · unfold mayE soundE; rw [hv]; rfl
    · rcases hf with hf | hf
      · exact .inl hf
      · rcases hd with hd | hd
        · exact .inl hd
        · refine .inr ?_
          rw [List.all_eq_true] at hf ⊢
          intro e he
          rcases List.mem_or_eq_of_mem_set he with he | rfl
          · exact hf e he
          · unfold fitsE; simp [hd]
  · unfold remE ofE
    rw [if_pos (masks_right _ hc)]
    simp [hs]
  · rw [hL]
    unfold remM
    refine List.ext_getElem? fun i => ?_
    rw [List.getElem?_map]
    by_cases hi : i < C.length
    · rw [masks_at hi, masks_at hi]
      simp only [Option.map_some, Option.some.injEq]
      unfold maskOf ofM
      refine mk_congr fun n hn => ?_
      rw [has_mk, has_mk, hin]
      by_cases hnk : n = k
      · subst hnk; rw [hno]; simp [hn]
      · rw [if_neg hnk]
        have : ¬ ((n : Int) = (k : Int)) := by omega
        simp [this, hn]
    · rw [List.getElem?_eq_none (by rw [masks_len]; omega), List.getElem?_eq_none (by rw [masks_len]; omega)]; rfl

/-- What is dropped is taken out. -/
theorem drop_keep {C : List (List Int)} {l : List Ce} {s : Int} (hB : buildE C l = 0) (h : dropE l [s] = 0) :
    remE C (masksOf C l) [s] = 0 ∧ remM (masksOf C l) [s] = masksOf C (dropL l [s]) ∧ buildE C (dropL l [s]) = 0 := by
  obtain ⟨ha, hc, hf⟩ := build_parts hB
  have h96 := arB_len ha
  have hL : dropL l [s] = setZ l [s] := by unfold dropL; rw [if_pos h]
  have hu : usedB l s = true := by
    unfold dropE at h
    rw [if_pos ha] at h
    split at h
    · rename_i h1
      unfold dropOk at h1
      simp at h1
      exact h1
    · omega
  unfold usedB at hu
  simp only [Bool.and_eq_true, decide_eq_true_eq] at hu
  obtain ⟨k, rfl⟩ := Int.eq_ofNat_of_zero_le hu.1
  have hs : slotB (k : Int) = true := by unfold slotB; simp; omega
  have hat : ∀ j, ceAt (setZ l [(k : Int)]) j = if j = k then zc else ceAt l j := fun j => by
    rw [ceAt_setZ]
    by_cases hj : j = k
    · subst hj; simp
    · rw [if_neg hj, if_neg (by simp; omega)]
  have hin : ∀ p j, inP C (setZ l [(k : Int)]) p j = if j = k then false else inP C l p j := by
    intro p j
    unfold inP
    rw [hat]
    by_cases hj : j = k
    · rw [if_pos hj, if_pos hj]; rfl
    · rw [if_neg hj, if_neg hj]
  refine ⟨?_, ?_, ?_⟩
  · unfold remE ofE
    rw [if_pos (masks_right _ hc)]
    simp [hs]
  · rw [hL]
    unfold remM
    refine List.ext_getElem? fun i => ?_
    rw [List.getElem?_map]
    by_cases hi : i < C.length
    · rw [masks_at hi, masks_at hi]
      simp only [Option.map_some, Option.some.injEq]
      unfold maskOf ofM
      refine mk_congr fun n hn => ?_
      rw [has_mk, has_mk, hin]
      by_cases hnk : n = k
      · subst hnk; simp [hn]
      · rw [if_neg hnk]
        have : ¬ ((n : Int) = (k : Int)) := by omega
        simp [this, hn]
    · rw [List.getElem?_eq_none (by rw [masks_len]; omega), List.getElem?_eq_none (by rw [masks_len]; omega)]; rfl
  · rw [hL]
    have hmem : ∀ e ∈ setZ l [(k : Int)], e = zc ∨ e ∈ l := by
      intro e he
      obtain ⟨j, hj⟩ := List.mem_iff_getElem?.1 he
      unfold setZ at hj
      rw [List.getElem?_mapIdx] at hj
      cases hl : l[j]? with
      | none => rw [hl] at hj; cases hj
      | some y =>
        rw [hl] at hj
        simp only [Option.map_some, Option.some.injEq] at hj
        split at hj
        · exact .inl hj.symm
        · exact .inr (hj ▸ List.mem_of_getElem? hl)
    refine build_join ?_ hc ?_
    · unfold arB
      rw [Bool.and_eq_true, List.all_eq_true]
      refine ⟨decide_eq_true (by unfold setZ; rw [List.length_mapIdx]; exact h96), fun e he => ?_⟩
      rcases hmem e he with rfl | he
      · exact may_zc
      · exact arB_may ha e he
    · rcases hf with hf | hf
      · exact .inl hf
      · refine .inr ?_
        rw [List.all_eq_true] at hf ⊢
        intro e he
        rcases hmem e he with rfl | he
        · rfl
        · exact hf e he
end Go.Proofs.Ytcekgllahlhaaaa
