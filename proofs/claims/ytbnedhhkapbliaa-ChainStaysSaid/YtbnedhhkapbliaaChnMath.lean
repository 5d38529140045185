/-
  Chains as values: which may be, what they tell, what comes of them. No program is named here.
-/
import Derived.Test.YtbnedhhkapbliaaCodSame
namespace Go.Proofs.Ytbnedhhkapbliaa
set_option linter.unusedVariables false
set_option linter.unusedSimpArgs false

/-- A version as a value. -/
structure Vr where
  b : Int
  f : Int
  x : List Int
instance : DecidableEq Vr := fun u v => decidable_of_iff (u.b = v.b ∧ u.f = v.f ∧ u.x = v.x) (by cases u; cases v; simp)
def zv : Vr := ⟨0, 0, []⟩
def okV (v : Vr) : Bool := verR v.b v.f v.x
def folB (v n : Vr) : Bool := !decide (v.f = 0) && (decide (v.f ≤ n.b) && decide (v.x.length = n.x.length))
def Fol (v n : Vr) : Prop := v.f ≠ 0 ∧ v.f ≤ n.b ∧ v.x.length = n.x.length
theorem folB_iff (v n : Vr) : folB v n = true ↔ Fol v n := by unfold folB Fol; simp
def okAt (l : List Vr) (k : Nat) : Bool := decide (k < 96) && (okV (l.getD k zv) && (decide (k = 0) || folB (l.getD (k - 1) zv) (l.getD k zv)))
def chainB (l : List Vr) : Bool := (List.range l.length).all (okAt l)
def chkM (l : List Vr) : Int := if chainB l = true then 0 else 180
structure Good (l : List Vr) : Prop where
  few : l.length ≤ 96
  ok : ∀ v ∈ l, okV v = true
  ord : l.Pairwise Fol

theorem okV_iff (v : Vr) : okV v = true ↔ right v.x = true ∧ (1 ≤ v.b ∧ v.b ≤ 1099511627776) ∧ (v.f = 0 ∨ v.b < v.f ∧ v.f ≤ 1099511627776) := by
  unfold okV verR endB timeB
  simp only [Bool.and_eq_true, Bool.or_eq_true, decide_eq_true_eq]
  constructor
  · rintro ⟨h1, h2, h3⟩; exact ⟨h1, h2, h3.elim .inl (fun h => .inr ⟨h.1, h.2.2⟩)⟩
  · rintro ⟨h1, h2, h3⟩; exact ⟨h1, h2, h3.elim .inl (fun h => .inr ⟨h.1, by omega, h.2⟩)⟩
theorem Fol.trans {u v n : Vr} (h : Fol u v) (hv : okV v = true) (k : Fol v n) : Fol u n := by
  have := (okV_iff v).1 hv
  obtain ⟨h1, h2, h3⟩ := h
  obtain ⟨k1, k2, k3⟩ := k
  exact ⟨h1, by omega, h3.trans k3⟩

theorem snoc_cases {α : Type} (l : List α) : l = [] ∨ ∃ l' v, l = l' ++ [v] := by
  rcases List.eq_nil_or_concat l with h | ⟨l', v, h⟩
  · exact .inl h
  · exact .inr ⟨l', v, by rw [h, List.concat_eq_append]⟩
theorem getD_at (l : List Vr) {k : Nat} (h : k < l.length) : l.getD k zv = l[k] := by simp [List.getD, h]
theorem pair_next : ∀ (l : List Vr), (∀ v ∈ l, okV v = true) → (∀ k (h : k + 1 < l.length), Fol l[k] l[k + 1]) → l.Pairwise Fol := by
  intro l
  induction l with
  | nil => intro _ _; exact List.Pairwise.nil
  | cons u l ih =>
    intro ho hf
    have ih := ih (fun v hv => ho v (by simp [hv])) (fun k h => hf (k + 1) (by simp; omega))
    refine List.Pairwise.cons ?_ ih
    intro v hv
    cases l with
    | nil => cases hv
    | cons w l =>
      have h0 : Fol u w := hf 0 (by simp)
      rcases List.mem_cons.1 hv with rfl | hv
      · exact h0
      · exact h0.trans (ho w (by simp)) ((List.pairwise_cons.1 ih).1 v hv)
theorem chain_iff (l : List Vr) : chainB l = true ↔ Good l := by
  unfold chainB
  rw [List.all_eq_true]
  constructor
  · intro h
    have hk : ∀ k (hk : k < l.length), k < 96 ∧ okV l[k] = true ∧ (k = 0 ∨ Fol (l.getD (k - 1) zv) l[k]) := by
      intro k hk
      have := h k (List.mem_range.2 hk)
      unfold okAt at this
      rw [getD_at l hk] at this
      simpa [folB_iff] using this
    have ho : ∀ v ∈ l, okV v = true := by
      intro v hv
      obtain ⟨k, hkl, rfl⟩ := List.getElem_of_mem hv
      exact (hk k hkl).2.1
    refine ⟨?_, ho, pair_next l ho fun k h => ?_⟩
    · rcases Nat.eq_zero_or_pos l.length with h0 | h0
      · omega
      · have := (hk (l.length - 1) (by omega)).1; omega
    · have := (hk (k + 1) h).2.2
      simp only [Nat.add_one_sub_one, getD_at l (show k < l.length by omega)] at this
      exact this.elim (fun h => by omega) id
  · intro h k hk
    have hk := List.mem_range.1 hk
    have h1 := h.ok l[k] (List.getElem_mem hk)
    unfold okAt
    rw [getD_at l hk]
    simp only [h1, Bool.true_and, Bool.and_eq_true, decide_eq_true_eq, Bool.or_eq_true, folB_iff]
    refine ⟨by have := h.few; omega, ?_⟩
    rcases Nat.eq_zero_or_pos k with h0 | h0
    · exact .inl h0
    · refine .inr ?_
      rw [getD_at l (show k - 1 < l.length by omega)]
      exact List.pairwise_iff_getElem.1 h.ord _ _ _ _ (by omega)
theorem chain_no {l : List Vr} (h : chainB l = false) : ¬ Good l := fun g => by rw [(chain_iff l).2 g] at h; cases h
theorem chk_ok {l : List Vr} : chkM l = 0 ↔ Good l := by
  rw [← chain_iff]; unfold chkM; split <;> simp_all

/-! ### the document's -/
def rAt (l : List Vr) (k : Nat) : Bool :=
  !(decide ((l.getD k zv).b < 1) || decide (1099511627776 < (l.getD k zv).b) || decide (1099511627776 < (l.getD k zv).f) || (!decide ((l.getD k zv).f = 0) && decide ((l.getD k zv).f ≤ (l.getD k zv).b)) || !right (l.getD k zv).x || !decide ((l.getD k zv).x.length = (l.getD 0 zv).x.length))
  && !(decide (k + 1 < l.length) && (decide ((l.getD k zv).f = 0) || decide ((l.getD (k + 1) zv).b < (l.getD k zv).f)))
def rightB (l : List Vr) : Bool := decide (l.length ≤ 96) && (List.range l.length).all (rAt l)
theorem rAt_iff (l : List Vr) (k : Nat) : rAt l k = true ↔ okV (l.getD k zv) = true ∧ (l.getD k zv).x.length = (l.getD 0 zv).x.length ∧ (k + 1 < l.length → (l.getD k zv).f ≠ 0 ∧ (l.getD k zv).f ≤ (l.getD (k + 1) zv).b) := by
  rw [okV_iff]
  unfold rAt
  simp only [Bool.and_eq_true, Bool.not_eq_true', Bool.or_eq_false_iff, decide_eq_false_iff_not, Bool.and_eq_false_iff, Bool.not_eq_false', decide_eq_true_eq, Decidable.not_not]
  constructor
  · rintro ⟨⟨⟨⟨⟨⟨h1, h2⟩, h3⟩, h4⟩, h5⟩, h6⟩, h7⟩
    refine ⟨⟨h5, by omega, ?_⟩, h6, fun hk => ?_⟩
    · rcases h4 with h4 | h4
      · exact .inl h4
      · exact .inr (by omega)
    · rcases h7 with h7 | ⟨h7, h8⟩
      · exact absurd hk h7
      · exact ⟨h7, by omega⟩
  · rintro ⟨⟨h5, ⟨h1, h2⟩, h3⟩, h6, h7⟩
    refine ⟨⟨⟨⟨⟨⟨by omega, by omega⟩, by omega⟩, by omega⟩, h5⟩, h6⟩, ?_⟩
    by_cases hk : k + 1 < l.length
    · obtain ⟨h8, h9⟩ := h7 hk
      exact .inr ⟨h8, by omega⟩
    · exact .inl hk
theorem right_iff (l : List Vr) : rightB l = true ↔ Good l := by
  unfold rightB
  rw [Bool.and_eq_true, decide_eq_true_eq, List.all_eq_true]
  constructor
  · rintro ⟨hf, h⟩
    have hk : ∀ k (hk : k < l.length), _ := fun k hk => (rAt_iff l k).1 (h k (List.mem_range.2 hk))
    have ho : ∀ v ∈ l, okV v = true := by
      intro v hv
      obtain ⟨k, hkl, rfl⟩ := List.getElem_of_mem hv
      have := (hk k hkl).1
      rwa [getD_at l hkl] at this
    refine ⟨hf, ho, pair_next l ho fun k h => ?_⟩
    have h1 := hk k (by omega)
    have h2 := hk (k + 1) h
    have h3 := h1.2.2 h
    rw [getD_at l (show k < l.length by omega)] at h1 h3
    rw [getD_at l h] at h2 h3
    exact ⟨h3.1, h3.2, h1.2.1.trans h2.2.1.symm⟩
  · intro h
    refine ⟨h.few, fun k hk => ?_⟩
    have hk := List.mem_range.1 hk
    rw [rAt_iff, getD_at l hk, getD_at l (show 0 < l.length by omega)]
    have hp := List.pairwise_iff_getElem.1 h.ord
    refine ⟨h.ok _ (List.getElem_mem hk), ?_, fun hk1 => ?_⟩
    · rcases Nat.eq_zero_or_pos k with h0 | h0
      · subst h0; rfl
      · exact (hp 0 k _ _ h0).2.2.symm
    · rw [getD_at l hk1]
      have := hp k (k + 1) hk hk1 (by omega)
      exact ⟨this.1, this.2.1⟩
theorem right_eq (l : List Vr) : rightB l = chainB l := Bool.eq_iff_iff.2 ((right_iff l).trans (chain_iff l).symm)

/-! ### the last trace -/
def lastM (l : List Vr) : Int := match l.getLast? with | none => 0 | some v => max v.b v.f
def rLast (l : List Vr) : Int := l.foldl (fun n v => max (max n v.b) v.f) 0
theorem rLast_snoc (l : List Vr) (v : Vr) : rLast (l ++ [v]) = max (max (rLast l) v.b) v.f := by simp [rLast]
theorem rLast_ge0 (l : List Vr) : 0 ≤ rLast l := by
  rcases snoc_cases l with rfl | ⟨l', v, rfl⟩
  · simp [rLast]
  · have : ∀ (l : List Vr) (n : Int), n ≤ l.foldl (fun n v => max (max n v.b) v.f) n := by
      intro l
      induction l with
      | nil => intro n; simp
      | cons v l ih => intro n; have := ih (max (max n v.b) v.f); simp only [List.foldl_cons]; omega
    exact this _ 0
theorem lastM_snoc (l : List Vr) (v : Vr) : lastM (l ++ [v]) = max v.b v.f := by simp [lastM]
theorem Good.front {l : List Vr} {v : Vr} (h : Good (l ++ [v])) : Good l ∧ (∀ u ∈ l, Fol u v) ∧ okV v = true ∧ l.length < 96 := by
  have hp := List.pairwise_append.1 h.ord
  have hf := h.few
  simp at hf
  exact ⟨⟨by omega, fun u hu => h.ok u (by simp [hu]), hp.1⟩, fun u hu => hp.2.2 u hu v (by simp), h.ok v (by simp), by omega⟩
theorem rLast_le {l : List Vr} {t : Int} (h0 : 0 ≤ t) (h : ∀ v ∈ l, v.b ≤ t ∧ v.f ≤ t) : rLast l ≤ t := by
  have : ∀ (l : List Vr) (n : Int), n ≤ t → (∀ v ∈ l, v.b ≤ t ∧ v.f ≤ t) → l.foldl (fun n v => max (max n v.b) v.f) n ≤ t := by
    intro l
    induction l with
    | nil => intro n hn _; simpa using hn
    | cons v l ih =>
      intro n hn h
      simp only [List.foldl_cons]
      have h1 := h v (by simp)
      exact ih _ (by omega) (fun u hu => h u (by simp [hu]))
  exact this l 0 h0 h
theorem rLast_in {l : List Vr} {v : Vr} (h : v ∈ l) : v.b ≤ rLast l ∧ v.f ≤ rLast l := by
  have mono : ∀ (l : List Vr) (n : Int), n ≤ l.foldl (fun n v => max (max n v.b) v.f) n := by
    intro l
    induction l with
    | nil => intro n; simp
    | cons v l ih => intro n; have := ih (max (max n v.b) v.f); simp only [List.foldl_cons]; omega
  have : ∀ (l : List Vr) (n : Int), v ∈ l → v.b ≤ l.foldl (fun n v => max (max n v.b) v.f) n ∧ v.f ≤ l.foldl (fun n v => max (max n v.b) v.f) n := by
    intro l
    induction l with
    | nil => intro n h; cases h
    | cons u l ih =>
      intro n h
      simp only [List.foldl_cons]
      rcases List.mem_cons.1 h with rfl | h
      · have := mono l (max (max n v.b) v.f)
        omega
      · exact ih _ h
  exact this l 0 h
theorem last_eq {l : List Vr} (h : Good l) : rLast l = lastM l := by
  rcases snoc_cases l with rfl | ⟨l', v, rfl⟩
  · simp [rLast, lastM]
  · rw [rLast_snoc, lastM_snoc]
    obtain ⟨h1, h2, h3, _⟩ := h.front
    have h4 := (okV_iff v).1 h3
    have : rLast l' ≤ v.b := rLast_le (by omega) (fun u hu => by
      have := h2 u hu
      have h5 := (okV_iff u).1 (h1.ok u hu)
      obtain ⟨a, b, c⟩ := this
      omega)
    omega
theorem last_max {l : List Vr} (h : Good l) : rLast l ≤ 1099511627776 := rLast_le (by omega) (fun v hv => by have := (okV_iff v).1 (h.ok v hv); omega)

/-! ### what is visible, put, ended, pruned -/
def visB (v : Vr) (t : Int) : Bool := decide (v.b ≤ t) && (decide (v.f = 0) || decide (t < v.f))
def atI (l : List Vr) (t : Int) : Option Nat := l.findIdx? (visB · t)
def atK (o : Option Nat) : Int := match o with | some i => i | none => 0
def atB (o : Option Nat) : Bool := match o with | some _ => true | none => false
def atM (l : List Vr) (t : Int) : Option Nat := if chainB l = true then atI l t else none
def refM (l : List Vr) (ts : Int) : Int := if chainB l = true then (if ts ≤ lastM l ∨ 1099511627776 < ts then 181 else 0) else 180
def dimM (l : List Vr) (x : List Int) : Int := if l.length = 0 then x.length else (l.getD 0 zv).x.length
def endV (ts : Int) (v : Vr) : Vr := if v.f = 0 then ⟨v.b, ts, v.x⟩ else v
def endM (ts : Int) (l : List Vr) : List Vr := l.map (endV ts)
def putE (l : List Vr) (ts : Int) (x : List Int) : Int := if refM l ts = 0 then (if refuseM (dimM l x) [x] = 0 then (if l.length = 96 then 6 else 0) else refuseM (dimM l x) [x]) else refM l ts
def putN (l : List Vr) (ts : Int) (x : List Int) : List Vr := if putE l ts x = 0 then endM ts l ++ [⟨ts, 0, x⟩] else []
def delE (l : List Vr) (ts : Int) : Int := if refM l ts = 0 then (if l.any (fun v => decide (v.f = 0)) = true then 0 else 4) else refM l ts
def delN (l : List Vr) (ts : Int) : List Vr := if delE l ts = 0 then endM ts l else []
def lastsB (v : Vr) (t : Int) : Bool := decide (v.f = 0) || decide (t < v.f)
def pruN (l : List Vr) (t : Int) : List Vr := if chainB l = true then l.filter (lastsB · t) else []
def pruG (l : List Vr) (t : Int) : List Vr := if chainB l = true then l.filter (fun v => !lastsB v t) else []

/-! ### the document's -/
def rOpen (l : List Vr) : Option Nat := l.findIdx? (fun v => decide (v.f = 0))
def rEnd (ts : Int) (l : List Vr) : List Vr := match rOpen l with | some i => l.set i ⟨(l.getD i zv).b, ts, (l.getD i zv).x⟩ | none => l
theorem end_none {ts : Int} {l : List Vr} (h : ∀ v ∈ l, v.f ≠ 0) : endM ts l = l := by
  unfold endM
  conv => rhs; rw [← List.map_id l]
  exact List.map_congr_left (fun v hv => by simp [endV, h v hv])
theorem open_last {l : List Vr} (h : Good l) : (∀ v ∈ l, v.f ≠ 0) ∨ ∃ l' v, l = l' ++ [v] ∧ v.f = 0 ∧ ∀ u ∈ l', u.f ≠ 0 := by
  rcases snoc_cases l with rfl | ⟨l', v, rfl⟩
  · exact .inl (by simp)
  · obtain ⟨h1, h2, h3, _⟩ := h.front
    have : ∀ u ∈ l', u.f ≠ 0 := fun u hu => (h2 u hu).1
    by_cases hv : v.f = 0
    · exact .inr ⟨l', v, by simp, hv, this⟩
    · refine .inl fun u hu => ?_
      simp at hu
      rcases hu with hu | rfl
      · exact this u hu
      · exact hv
theorem rOpen_none {l : List Vr} (h : ∀ v ∈ l, v.f ≠ 0) : rOpen l = none := by
  unfold rOpen; rw [List.findIdx?_eq_none_iff]; intro v hv; simp [h v hv]
theorem rOpen_snoc {l : List Vr} {v : Vr} (h : ∀ v ∈ l, v.f ≠ 0) (hv : v.f = 0) : rOpen (l ++ [v]) = some l.length := by
  unfold rOpen
  rw [List.findIdx?_append]
  have : l.findIdx? (fun v => decide (v.f = 0)) = none := rOpen_none h
  rw [this]
  simp [hv]
theorem end_eq {ts : Int} {l : List Vr} (h : Good l) : rEnd ts l = endM ts l := by
  rcases open_last h with hn | ⟨l', v, rfl, hv, hn⟩
  · unfold rEnd; rw [rOpen_none hn, end_none hn]
  · unfold rEnd
    rw [rOpen_snoc hn hv]
    have e1 : (l' ++ [v]).getD l'.length zv = v := by simp [List.getD]
    have e2 : endM ts (l' ++ [v]) = l' ++ [endV ts v] := by
      have := end_none (ts := ts) hn
      unfold endM at this ⊢
      rw [List.map_append, this]; rfl
    dsimp only
    rw [e1, e2, List.set_append_right _ _ (Nat.le_refl _)]
    simp [endV, hv]
theorem open_any {l : List Vr} : l.any (fun v => decide (v.f = 0)) = atB (rOpen l) := by
  unfold rOpen
  cases h : l.findIdx? (fun v => decide (v.f = 0)) with
  | none => rw [List.findIdx?_eq_none_iff] at h; simp [atB, List.any_eq_false]; intro v hv; have := h v hv; simpa using this
  | some i => have := List.findIdx?_eq_some_iff_getElem.1 h; obtain ⟨hi, h1, _⟩ := this; simp only [atB]; rw [List.any_eq_true]; exact ⟨_, List.getElem_mem hi, h1⟩

end Go.Proofs.Ytbnedhhkapbliaa
