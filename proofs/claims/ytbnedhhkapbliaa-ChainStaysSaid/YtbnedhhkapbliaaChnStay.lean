/-
  What an op leaves as it was, as values: the facts of what comes of Put, Del and Prune where they are not refused.
-/
import Derived.Test.YtbnedhhkapbliaaChnTimes
import Derived.Test.YtbnedhhkapbliaaChnRun
namespace Go.Proofs.Ytbnedhhkapbliaa
set_option linter.unusedVariables false
set_option linter.unusedSimpArgs false

theorem seen_one {l : List Vr} (h : Good l) {t : Int} {i j : Nat} {u v : Vr} (hi : l[i]? = some u) (hj : l[j]? = some v) (hu : visB u t = true) (hv : visB v t = true) : ¬ i < j := by
  intro hij
  have hil : i < l.length := (List.getElem?_eq_some_iff.1 hi).1
  have hjl : j < l.length := (List.getElem?_eq_some_iff.1 hj).1
  have hf := List.pairwise_iff_getElem.1 h.ord i j hil hjl hij
  have e1 : l[i] = u := Option.some.inj ((List.getElem?_eq_getElem hil).symm.trans hi)
  have e2 : l[j] = v := Option.some.inj ((List.getElem?_eq_getElem hjl).symm.trans hj)
  rw [e1, e2] at hf
  obtain ⟨f1, f2, _⟩ := hf
  unfold visB at hu hv
  simp only [Bool.and_eq_true, Bool.or_eq_true, decide_eq_true_eq] at hu hv
  omega
theorem seen_at {l : List Vr} (h : Good l) {t : Int} {k : Nat} {v : Vr} (hk : l[k]? = some v) (hv : visB v t = true) : atI l t = some k :=
  find_at hk hv fun j u hj hu => by
    cases hb : visB u t with
    | false => rfl
    | true => exact absurd hj (seen_one h hu hk hb hv)
theorem atM_good {l : List Vr} (h : Good l) (t : Int) : atM l t = atI l t := by unfold atM; rw [(chain_iff l).2 h]; rfl
theorem shown_of {l : List Vr} (h : Good l) {t : Int} {v : Vr} (hv : v ∈ l) (hb : visB v t = true) : shownM l t = v.x := by
  obtain ⟨k, hk, rfl⟩ := List.getElem_of_mem hv
  unfold shownM
  rw [atM_good h, seen_at h (List.getElem?_eq_getElem hk) hb]
  dsimp only
  rw [getD_at l hk]
theorem shown_no {l : List Vr} (h : Good l) {t : Int} (hn : ∀ v ∈ l, visB v t = false) : atM l t = none ∧ shownM l t = [] := by
  have : atM l t = none := by
    rw [atM_good h]; unfold atI
    exact find_no fun j u hu => hn u (List.mem_of_getElem? hu)
  refine ⟨this, ?_⟩
  unfold shownM; rw [this]
theorem shown_eq {l m : List Vr} (hl : Good l) (hm : Good m) {t : Int} (h1 : ∀ v ∈ l, visB v t = true → ∃ u ∈ m, visB u t = true ∧ u.x = v.x) (h2 : ∀ u ∈ m, visB u t = true → ∃ v ∈ l, visB v t = true) : shownM l t = shownM m t := by
  by_cases h : ∃ v ∈ l, visB v t = true
  · obtain ⟨v, hv, hb⟩ := h
    obtain ⟨u, hu, hb2, hx⟩ := h1 v hv hb
    rw [shown_of hl hv hb, shown_of hm hu hb2, hx]
  · have n1 : ∀ v ∈ l, visB v t = false := fun v hv => by
      cases hb : visB v t with
      | false => rfl
      | true => exact absurd ⟨v, hv, hb⟩ h
    have n2 : ∀ v ∈ m, visB v t = false := fun v hv => by
      cases hb : visB v t with
      | false => rfl
      | true => exact absurd (h2 v hv hb) h
    rw [(shown_no hl n1).2, (shown_no hm n2).2]

theorem Good.sub {l : List Vr} (P : Vr → Bool) (h : Good l) : Good (l.filter P) :=
  ⟨Nat.le_trans (List.length_filter_le _ _) h.few, fun v hv => h.ok v (List.mem_filter.1 hv).1, h.ord.filter P⟩
theorem Good.nil : Good [] := ⟨by simp, by simp, List.Pairwise.nil⟩
theorem lastM_ge {l : List Vr} (h : Good l) {v : Vr} (hv : v ∈ l) : v.b ≤ lastM l ∧ v.f ≤ lastM l := by rw [← last_eq h]; exact rLast_in hv
theorem lastM_0 {l : List Vr} (h : Good l) : 0 ≤ lastM l := by rw [← last_eq h]; exact rLast_ge0 l
theorem endV_b (ts : Int) (v : Vr) : (endV ts v).b = v.b ∧ (endV ts v).x = v.x ∧ ((v.f = 0 ∧ (endV ts v).f = ts) ∨ (v.f ≠ 0 ∧ (endV ts v).f = v.f)) := by
  unfold endV
  by_cases h : v.f = 0
  · rw [if_pos h]; exact ⟨rfl, rfl, .inl ⟨h, rfl⟩⟩
  · rw [if_neg h]; exact ⟨rfl, rfl, .inr ⟨h, rfl⟩⟩
theorem end_good {l : List Vr} (h : Good l) {ts : Int} (h1 : lastM l < ts) (h2 : ts ≤ 1099511627776) : Good (endM ts l) := by
  refine ⟨by unfold endM; rw [List.length_map]; exact h.few, fun v hv => ?_, ?_⟩
  · unfold endM at hv
    obtain ⟨u, hu, rfl⟩ := List.mem_map.1 hv
    have k1 := (okV_iff u).1 (h.ok u hu)
    have k2 := lastM_ge h hu
    obtain ⟨e1, e2, e3⟩ := endV_b ts u
    rw [okV_iff, e1, e2]
    refine ⟨k1.1, k1.2.1, ?_⟩
    rcases e3 with ⟨a, b⟩ | ⟨a, b⟩
    · rw [b]; exact .inr ⟨by omega, h2⟩
    · rw [b]; exact k1.2.2
  · unfold endM
    rw [List.pairwise_map]
    refine List.Pairwise.imp ?_ h.ord
    intro u v huv
    obtain ⟨a1, a2, a3⟩ := huv
    obtain ⟨e1, e2, e3⟩ := endV_b ts u
    obtain ⟨g1, g2, g3⟩ := endV_b ts v
    refine ⟨?_, ?_, by rw [e2, g2]; exact a3⟩
    · rcases e3 with ⟨a, b⟩ | ⟨a, b⟩
      · exact absurd a a1
      · rw [b]; exact a1
    · rcases e3 with ⟨a, b⟩ | ⟨a, b⟩
      · exact absurd a a1
      · rw [b, g1]; exact a2
theorem end_all {l : List Vr} (h : Good l) {ts : Int} (h1 : lastM l < ts) {v : Vr} (hv : v ∈ endM ts l) : v.f ≠ 0 ∧ v.f ≤ ts ∧ v.b < ts := by
  unfold endM at hv
  obtain ⟨u, hu, rfl⟩ := List.mem_map.1 hv
  have k2 := lastM_ge h hu
  have k3 := lastM_0 h
  obtain ⟨e1, e2, e3⟩ := endV_b ts u
  rw [e1]
  rcases e3 with ⟨a, b⟩ | ⟨a, b⟩
  · rw [b]; omega
  · rw [b]; omega
theorem end_vis {ts t : Int} (ht : t < ts) (v : Vr) : visB (endV ts v) t = visB v t := by
  obtain ⟨e1, e2, e3⟩ := endV_b ts v
  unfold visB
  rw [e1]
  rcases e3 with ⟨a, b⟩ | ⟨a, b⟩
  · rw [b, a]; simp [ht]
  · rw [b]
theorem put_good {l : List Vr} (h : Good l) {ts : Int} (h1 : lastM l < ts) (h2 : ts ≤ 1099511627776) {x : List Int} (hx : right x = true) (hd : (x.length : Int) = dimM l x) (hn : l.length ≠ 96) : Good (endM ts l ++ [⟨ts, 0, x⟩]) := by
  have he := end_good h h1 h2
  have h0 := lastM_0 h
  have hf := h.few
  refine ⟨?_, fun v hv => ?_, ?_⟩
  · unfold endM
    simp
    omega
  · rcases List.mem_append.1 hv with hv | hv
    · exact he.ok v hv
    · obtain rfl := List.mem_singleton.1 hv
      rw [okV_iff]
      exact ⟨hx, ⟨by show 1 ≤ ts; omega, h2⟩, .inl rfl⟩
  · rw [List.pairwise_append]
    refine ⟨he.ord, List.pairwise_singleton _ _, fun u hu v hv => ?_⟩
    obtain rfl := List.mem_singleton.1 hv
    obtain ⟨a1, a2, a3⟩ := end_all h h1 hu
    refine ⟨a1, a2, ?_⟩
    show u.x.length = x.length
    unfold endM at hu
    obtain ⟨y, hy, rfl⟩ := List.mem_map.1 hu
    rw [(endV_b ts y).2.1]
    obtain ⟨k, hk, rfl⟩ := List.getElem_of_mem hy
    unfold dimM at hd
    rw [if_neg (by omega), getD_at l (show 0 < l.length by omega)] at hd
    have : l[k].x.length = l[0].x.length := by
      rcases Nat.eq_zero_or_pos k with k0 | k0
      · subst k0; rfl
      · exact (List.pairwise_iff_getElem.1 h.ord 0 k (by omega) hk k0).2.2.symm
    omega

theorem filter_two (P : Vr → Bool) (l : List Vr) : (l.filter P).length + (l.filter (fun v => !P v)).length = l.length := by
  induction l with
  | nil => rfl
  | cons v l ih => cases h : P v <;> simp [h] <;> omega

structure Stay (K ts : Int) (l n g : List Vr) (x : List Int) : Prop where
  good : Good l
  gn : Good n
  gg : Good g
  pru : kM K = 4 → (∀ v ∈ n, v.f = 0 ∨ ts < v.f) ∧ (∀ v ∈ g, v.f ≠ 0 ∧ v.f ≤ ts) ∧ (ts < lastM l → lastM n = lastM l) ∧ n.length + g.length = l.length ∧ ∀ t, ts ≤ t → shownM l t = shownM n t
  low : kM K ≠ 4 → ∀ t, t < ts → shownM l t = shownM n t
  del : kM K = 3 → atM n ts = none ∧ shownM n ts = [] ∧ lastM n = ts
  put : kM K ≠ 3 → kM K ≠ 4 → shownM n ts = x ∧ shownM n 1099511627776 = x ∧ lastM n = ts

theorem ref_ok {l : List Vr} {ts : Int} (h : refM l ts = 0) : Good l ∧ lastM l < ts ∧ ts ≤ 1099511627776 := by
  unfold refM at h
  split at h
  · next hc =>
    split at h
    · omega
    · exact ⟨(chain_iff l).1 hc, by omega, by omega⟩
  · omega
theorem end_shown {l : List Vr} (h : Good l) {ts : Int} (h1 : lastM l < ts) (h2 : ts ≤ 1099511627776) {t : Int} (ht : t < ts) : shownM l t = shownM (endM ts l) t :=
  shown_eq h (end_good h h1 h2) (fun v hv hb => ⟨endV ts v, List.mem_map_of_mem hv, by rw [end_vis ht]; exact hb, (endV_b ts v).2.1⟩)
    (fun u hu hb => by
      unfold endM at hu
      obtain ⟨v, hv, rfl⟩ := List.mem_map.1 hu
      exact ⟨v, hv, by rw [end_vis ht] at hb; exact hb⟩)

theorem stay_put {K ts : Int} {l : List Vr} {x : List Int} (k3 : kM K ≠ 3) (k4 : kM K ≠ 4) (h : putE l ts x = 0) : Stay K ts l (putN l ts x) [] x := by
  have hN : putN l ts x = endM ts l ++ [⟨ts, 0, x⟩] := by unfold putN; rw [if_pos h]
  have hr : refM l ts = 0 := by
    unfold putE at h
    split at h
    · next hc => exact hc
    · exact h
  unfold putE at h
  rw [if_pos hr, refuse_one] at h
  have hx : right x = true := by
    cases hx : right x with
    | true => rfl
    | false => rw [hx] at h; simp at h
  rw [hx] at h
  simp only [if_true] at h
  have hd : (x.length : Int) = dimM l x := by
    by_cases hd : (x.length : Int) = dimM l x
    · exact hd
    · rw [if_neg hd] at h; simp at h
  rw [if_pos hd] at h
  simp only [if_true] at h
  have hn : l.length ≠ 96 := fun e => by rw [if_pos e] at h; omega
  obtain ⟨hg, h1, h2⟩ := ref_ok hr
  have hgn := put_good hg h1 h2 hx hd hn
  rw [hN]
  have hlast : lastM (endM ts l ++ [⟨ts, 0, x⟩]) = ts := by
    rw [lastM_snoc]
    have := lastM_0 hg
    show max ts 0 = ts
    omega
  refine ⟨hg, hgn, Good.nil, fun h => absurd h k4, fun _ t ht => ?_, fun h => absurd h k3, fun _ _ => ⟨?_, ?_, hlast⟩⟩
  · rw [end_shown hg h1 h2 ht]
    refine shown_eq (end_good hg h1 h2) hgn (fun v hv hb => ⟨v, by simp [hv], hb, rfl⟩) (fun u hu hb => ?_)
    rcases List.mem_append.1 hu with hu | hu
    · exact ⟨u, hu, hb⟩
    · obtain rfl := List.mem_singleton.1 hu
      unfold visB at hb
      simp at hb
      omega
  · exact shown_of hgn (v := ⟨ts, 0, x⟩) (by simp) (by unfold visB; simp)
  · exact shown_of hgn (v := ⟨ts, 0, x⟩) (by simp) (by unfold visB; simp [h2])

theorem stay_del {K ts : Int} {l : List Vr} {x : List Int} (k3 : kM K = 3) (h : delE l ts = 0) : Stay K ts l (delN l ts) [] x := by
  have hN : delN l ts = endM ts l := by unfold delN; rw [if_pos h]
  have hr : refM l ts = 0 := by
    unfold delE at h
    split at h
    · next hc => exact hc
    · exact h
  unfold delE at h
  rw [if_pos hr] at h
  have ho : l.any (fun v => decide (v.f = 0)) = true := by
    cases ho : l.any (fun v => decide (v.f = 0)) with
    | true => rfl
    | false => rw [ho] at h; simp at h
  obtain ⟨hg, h1, h2⟩ := ref_ok hr
  have hgn := end_good hg h1 h2
  rw [hN]
  have hno : ∀ v ∈ endM ts l, visB v ts = false := fun v hv => by
    obtain ⟨a1, a2, a3⟩ := end_all hg h1 hv
    unfold visB
    have : ¬ ts < v.f := by omega
    simp [a1, this]
  have hsh := shown_no hgn hno
  have hlast : lastM (endM ts l) = ts := by
    rcases open_last hg with hn | ⟨l', v, rfl, hv, hn⟩
    · rw [List.any_eq_true] at ho
      obtain ⟨v, hv, hv0⟩ := ho
      exact absurd (by simpa using hv0) (hn v hv)
    · have e2 : endM ts (l' ++ [v]) = endM ts l' ++ [endV ts v] := by unfold endM; rw [List.map_append]; rfl
      rw [e2, lastM_snoc]
      obtain ⟨e1, _, e3⟩ := endV_b ts v
      have := lastM_ge hg (v := v) (by simp)
      rcases e3 with ⟨a, b⟩ | ⟨a, b⟩
      · rw [e1, b]; omega
      · exact absurd hv a
  exact ⟨hg, hgn, Good.nil, fun h => by omega, fun _ t ht => end_shown hg h1 h2 ht, fun _ => ⟨hsh.1, hsh.2, hlast⟩, fun a => absurd k3 a⟩

theorem stay_pru {K ts : Int} {l : List Vr} {x : List Int} (k4 : kM K = 4) (h : chkM l = 0) : Stay K ts l (pruN l ts) (pruG l ts) x := by
  have hg := chk_ok.1 h
  have hc := (chain_iff l).2 hg
  have e1 : pruN l ts = l.filter (lastsB · ts) := by unfold pruN; rw [if_pos hc]
  have e2 : pruG l ts = l.filter (fun v => !lastsB v ts) := by unfold pruG; rw [if_pos hc]
  rw [e1, e2]
  have hgn := hg.sub (lastsB · ts)
  refine ⟨hg, hgn, hg.sub _, fun _ => ⟨fun v hv => ?_, fun v hv => ?_, fun hl => ?_, ?_, fun t ht => ?_⟩, fun a => absurd k4 a, fun a => by omega, fun _ a => absurd k4 a⟩
  · have := (List.mem_filter.1 hv).2
    unfold lastsB at this
    simpa using this
  · have := (List.mem_filter.1 hv).2
    unfold lastsB at this
    simpa using this
  · rcases snoc_cases l with rfl | ⟨l', v, rfl⟩
    · rfl
    · rw [lastM_snoc] at hl
      have hv := (okV_iff v).1 (hg.ok v (by simp))
      have hb : lastsB v ts = true := by
        unfold lastsB
        by_cases h0 : v.f = 0
        · simp [h0]
        · have : ts < v.f := by omega
          simp [this]
      have : (l' ++ [v]).filter (lastsB · ts) = l'.filter (lastsB · ts) ++ [v] := by rw [List.filter_append]; simp [hb]
      rw [this, lastM_snoc, lastM_snoc]
  · exact filter_two (lastsB · ts) l
  · refine shown_eq hg hgn (fun v hv hb => ⟨v, List.mem_filter.2 ⟨hv, ?_⟩, hb, rfl⟩) (fun u hu hb => ⟨u, (List.mem_filter.1 hu).1, hb⟩)
    unfold visB at hb
    unfold lastsB
    simp only [Bool.and_eq_true, Bool.or_eq_true, decide_eq_true_eq] at hb ⊢
    omega

theorem stay {K ts : Int} {l : List Vr} {x : List Int} (h : runE K ts l x = 0) : Stay K ts l (runN K ts l x) (runG K ts l) x := by
  unfold runE at h
  unfold runN runG
  by_cases k3 : kM K = 3
  · rw [if_pos k3] at h ⊢
    rw [if_pos k3]
    exact stay_del k3 h
  · rw [if_neg k3] at h ⊢
    rw [if_neg k3]
    by_cases k4 : kM K = 4
    · rw [if_pos k4] at h ⊢
      rw [if_pos k4]
      exact stay_pru k4 h
    · rw [if_neg k4] at h ⊢
      rw [if_neg k4]
      exact stay_put k3 k4 h
theorem stay_bad {K ts : Int} {l : List Vr} {x : List Int} (h : runE K ts l x ≠ 0) : runN K ts l x = [] ∧ runG K ts l = [] := by
  unfold runE at h
  unfold runN runG
  by_cases k3 : kM K = 3
  · rw [if_pos k3] at h ⊢
    rw [if_pos k3]
    exact ⟨by unfold delN; rw [if_neg h], rfl⟩
  · rw [if_neg k3] at h ⊢
    rw [if_neg k3]
    by_cases k4 : kM K = 4
    · rw [if_pos k4] at h ⊢
      rw [if_pos k4]
      have hc : chainB l ≠ true := fun hc => h (by unfold chkM; rw [if_pos hc])
      exact ⟨by unfold pruN; rw [if_neg hc], by unfold pruG; rw [if_neg hc]⟩
    · rw [if_neg k4] at h ⊢
      rw [if_neg k4]
      exact ⟨by unfold putN; rw [if_neg h], rfl⟩

end Go.Proofs.Ytbnedhhkapbliaa
