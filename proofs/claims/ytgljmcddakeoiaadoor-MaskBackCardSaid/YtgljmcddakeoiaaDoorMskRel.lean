/-
  A region that draws its order, whose operations read, call and make memory: walked once; of each operation's value a relation is told that stands in all later memories.
-/
import Derived.Orders
import Derived.Below
import Derived.Test.YtgljmcddakeoiaaDoorMskG
namespace Go.Proofs.YtgljmcddakeoiaaDoor
open Go Go.RowKit
set_option linter.unusedVariables false
set_option linter.unusedSimpArgs false

/-! ### A region that draws its order, walked once: of each operation's value a relation is told -/
/-- The frame in which the region's slots hold what f says. -/
def fillR : Nat → List Oper → (Nat → Value) → Act → Act
  | _, [], _, a => a
  | i, o :: r, f, a => fillR (i + 1) r f (a.put o.dst (f i))
/-- No two of the operations write one slot. -/
def apartR : List Oper → Bool
  | [] => true
  | o :: r => r.all (fun p => o.dst.isNone || o.dst != p.dst) && apartR r
def boundR : Nat → List Oper → Bool
  | _, [] => true
  | i, o :: r => o.after.all (fun e => !Region.binds .any e || decide (e.on < i)) && boundR (i + 1) r

theorem put_comm2 (a : Act) (d e : Option Tmp) (u v : Value) (h : (d.isNone || d != e) = true) : (a.put d u).put e v = (a.put e v).put d u := by
  cases d with
  | none => rfl
  | some d =>
    cases e with
    | none => rfl
    | some e =>
      have hne : d ≠ e := by simpa using h
      simp only [Act.put]
      congr 1
      exact Array.setIfInBounds_comm _ _ hne
theorem fillR_put : ∀ (l : List Oper) (i : Nat) (f : Nat → Value) (a : Act) (d : Option Tmp) (v : Value), (l.all fun p => d.isNone || d != p.dst) = true → fillR i l f (a.put d v) = (fillR i l f a).put d v
  | [], _, _, _, _, _, _ => rfl
  | o :: r, i, f, a, d, v, h => by
    simp only [List.all_cons, Bool.and_eq_true] at h
    simp only [fillR]
    rw [put_comm2 a d o.dst v (f i) h.1]
    exact fillR_put r (i + 1) f _ d v h.2
theorem fillR_congr : ∀ (l : List Oper) (i : Nat) (f g : Nat → Value) (a : Act), (∀ k, i ≤ k → f k = g k) → fillR i l f a = fillR i l g a
  | [], _, _, _, _, _ => rfl
  | o :: r, i, f, g, a, h => by
    simp only [fillR]
    rw [h i (Nat.le_refl _)]
    exact fillR_congr r (i + 1) f g _ (fun k hk => h k (by omega))
theorem put_put (a : Act) (d : Option Tmp) (u v : Value) : (a.put d u).put d v = a.put d v := by
  cases d with
  | none => rfl
  | some d => simp only [Act.put]; congr 1; simp
/-- What one operation gives is put into its slot. -/
theorem fillR_set : ∀ (l : List Oper) (i j : Nat) (o : Oper) (f : Nat → Value) (a : Act) (v : Value), apartR l = true → l[j]? = some o → (fillR i l f a).put o.dst v = fillR i l (fun k => if k = i + j then v else f k) a
  | [], _, _, _, _, _, _, _, h => by simp at h
  | p :: r, i, 0, o, f, a, v, hap, h => by
    simp at h
    subst h
    simp only [apartR, Bool.and_eq_true] at hap
    simp only [fillR, Nat.add_zero, if_true]
    rw [← fillR_put r (i + 1) f _ p.dst v hap.1, put_put]
    exact fillR_congr r (i + 1) _ _ _ (fun k hk => by rw [if_neg (by omega)])
  | p :: r, i, j + 1, o, f, a, v, hap, h => by
    simp only [apartR, Bool.and_eq_true] at hap
    simp only [fillR]
    rw [if_neg (by omega), fillR_set r (i + 1) j o f _ v hap.2 (by simpa using h)]
    exact fillR_congr r (i + 1) _ _ _ (fun k hk => by rw [show i + 1 + j = i + (j + 1) by omega])
/-- The frame as it is, read as one that is filled. -/
theorem put_self (a : Act) (d : Option Tmp) (h : ∀ t, d = some t → t < a.tmps.size) : ∃ v, a.put d v = a := by
  cases d with
  | none => exact ⟨undef, rfl⟩
  | some t =>
    refine ⟨a.tmps[t]'(h t rfl), ?_⟩
    simp only [Act.put]
    have : a.tmps.setIfInBounds t (a.tmps[t]'(h t rfl)) = a.tmps := by
      apply Array.ext
      · simp
      · intro i h1 h2
        rw [Array.getElem_setIfInBounds]
        split
        · rename_i e; subst e; rfl
        · rfl
    rw [this]
theorem fillR_self : ∀ (l : List Oper) (i : Nat) (a : Act), (∀ o ∈ l, ∀ t, o.dst = some t → t < a.tmps.size) → ∃ f, fillR i l f a = a
  | [], _, _, _ => ⟨fun _ => undef, rfl⟩
  | o :: r, i, a, h => by
    obtain ⟨f, hf⟩ := fillR_self r (i + 1) a (fun p hp => h p (by simp [hp]))
    obtain ⟨v, hv⟩ := put_self a o.dst (h o (by simp))
    refine ⟨fun k => if k = i then v else f k, ?_⟩
    simp only [fillR, if_true]
    rw [hv, fillR_congr r (i + 1) _ f a (fun k hk => by rw [if_neg (by omega)])]
    exact hf

/-- How many have not come up yet. -/
def left (n : Nat) (listed : Array Bool) : Nat := ((List.range n).filter fun i => listed.getD i true == false).length
theorem left_set {n i : Nat} {listed : Array Bool} (hi : i < n) (hu : listed.getD i true = false) : left n (listed.setIfInBounds i true) < left n listed := by
  unfold left
  have hsz : i < listed.size := by
    rcases Nat.lt_or_ge i listed.size with h | h
    · exact h
    · simp [Array.getD, Nat.not_lt.2 h] at hu
  have hmono : ∀ k, ((listed.setIfInBounds i true).getD k true == false) = ((listed.getD k true == false) && !decide (k = i)) := by
    intro k
    by_cases hk : k = i
    · subst hk
      simp [Array.getD, hsz]
    · have : (listed.setIfInBounds i true).getD k true = listed.getD k true := by
        simp only [Array.getD]
        by_cases h1 : k < listed.size
        · simp [h1, Array.getElem_setIfInBounds, Ne.symm hk]
        · simp [h1]
      rw [this]; simp [hk]
  have hf : (List.range n).filter (fun k => (listed.setIfInBounds i true).getD k true == false) = ((List.range n).filter fun k => listed.getD k true == false).filter (fun k => !decide (k = i)) := by
    rw [List.filter_filter]
    congr 1
    funext k
    rw [hmono, Bool.and_comm]
  rw [hf]
  have hmem : i ∈ (List.range n).filter fun k => listed.getD k true == false := by
    rw [List.mem_filter]; exact ⟨List.mem_range.2 hi, by simp [hu]⟩
  exact List.length_filter_lt_length_iff_exists.2 ⟨i, hmem, by simp⟩

section
variable {P : Program} {Q : Exit → Act → World → Prop} {C : World → Prop} {R : Nat → Value → World → Prop}
/-- What one operation owes: wherever what it waits for is as told. -/
def OweR (P : Program) (Q : Exit → Act → World → Prop) (l : List Oper) (C : World → Prop) (R : Nat → Value → World → Prop) (a : Act) (j : Nat) (o : Oper) : Prop :=
  ∀ (f : Nat → Value) (w : World), C w → (∀ e ∈ o.after, Region.binds .any e = true → R e.on (f e.on) w) →
    (Region.wanted o (yielded l.toArray (fillR 0 l f a).tmps) = true ∧ o.wp P (fillR 0 l f a) w (fun a' w' => ∃ v, a' = (fillR 0 l f a).put o.dst v ∧ R j v w' ∧ C w' ∧ Below w.heap.size w w') Q) ∨
    (Region.wanted o (yielded l.toArray (fillR 0 l f a).tmps) = false ∧ R j undef w)

theorem rel_any (l : List Oper) (a : Act) (hst : ∀ i v w w', R i v w → Below w.heap.size w w' → R i v w') (hap : apartR l = true) (hbd : ∀ j o, l[j]? = some o → ∀ e ∈ o.after, Region.binds .any e = true → e.on < j)
    (how : ∀ j o, l[j]? = some o → OweR P Q l C R a j o) (hend : ∀ f w, C w → (∀ j, j < l.length → R j (f j) w) → Q .normal (fillR 0 l f a) w) :
    ∀ (fuel : Nat) (listed : Array Bool) (f : Nat → Value) (w : World), listed.size = l.length → left l.length listed ≤ fuel → C w → (∀ j, j < l.length → listed.getD j true = true → R j (f j) w) →
      wpAny P .any l.toArray Q fuel listed (fillR 0 l f a) w := by
  have hrd : ∀ (listed : Array Bool), listed.size = l.length → Region.ready .any l.toArray listed = [] → ∀ j, j < l.length → listed.getD j true = true := by
    intro listed hsz h0
    intro j
    induction j using Nat.strongRecOn with
    | ind j ih =>
      intro hj
      cases hl : listed.getD j true with
      | true => rfl
      | false =>
        exfalso
        have hm : j ∈ Region.ready .any l.toArray listed := by
          rw [mem_ready]
          refine ⟨hl, l[j], by simp [hj], fun e he hb => ?_⟩
          have h1 := hbd j l[j] (List.getElem?_eq_getElem hj) e he hb
          have h2 := ih e.on h1 (by omega)
          rw [Array.getD, dif_pos (by omega)] at h2 ⊢
          exact h2
        rw [h0] at hm
        cases hm
  intro fuel
  induction fuel with
  | zero =>
    intro listed f w hsz hf hC hR
    have hall : ∀ j, j < l.length → listed.getD j true = true := by
      intro j hj
      cases hl : listed.getD j true with
      | true => rfl
      | false =>
        have := left_set hj hl
        omega
    refine ⟨?_, hend f w hC (fun j hj => hR j hj (hall j hj))⟩
    apply List.eq_nil_iff_forall_not_mem.2
    intro i hi
    obtain ⟨h1, o, ho, _⟩ := mem_ready.1 hi
    have hil : i < l.length := by
      have := (Array.getElem?_eq_some_iff.1 ho).1
      simpa using this
    rw [hall i hil] at h1
    cases h1
  | succ fuel ih =>
    intro listed f w hsz hf hC hR
    refine ⟨fun h0 => hend f w hC (fun j hj => hR j hj (hrd listed hsz h0 j hj)), fun i hi => ?_⟩
    obtain ⟨h1, o, ho, hdep⟩ := mem_ready.1 hi
    have ho' : l[i]? = some o := by simpa using ho
    have hil : i < l.length := (List.getElem?_eq_some_iff.1 ho').1
    have hdeps : ∀ e ∈ o.after, Region.binds .any e = true → R e.on (f e.on) w := fun e he hb => by
      have hlt := hbd i o ho' e he hb
      have h2 := hdep e he hb
      refine hR e.on (by omega) ?_
      rw [Array.getD, dif_pos (by omega)] at h2 ⊢
      exact h2
    have hnext : ∀ (v : Value) (w' : World), R i v w' → C w' → Below w.heap.size w w' → wpAny P .any l.toArray Q fuel (listed.setIfInBounds i true) ((fillR 0 l f a).put o.dst v) w' := by
      intro v w' hv hC' hb
      rw [fillR_set l 0 i o f a v hap ho', Nat.zero_add]
      refine ih _ _ w' (by simpa using hsz) (by have := left_set hil h1; omega) hC' (fun j hj hlj => ?_)
      by_cases hji : j = i
      · subst hji; rw [if_pos rfl]; exact hv
      · rw [if_neg hji]
        refine hst _ _ _ _ (hR j hj ?_) hb
        have : (listed.setIfInBounds i true).getD j true = listed.getD j true := by
          simp only [Array.getD]
          by_cases h3 : j < listed.size
          · simp [h3, Array.getElem_setIfInBounds, Ne.symm hji]
          · simp [h3]
        rw [← this]; exact hlj
    unfold wpOp
    simp only [ho]
    rcases how i o ho' f w hC hdeps with ⟨hw, hop⟩ | ⟨hw, hu⟩
    · rw [if_pos hw]
      refine .inl (Oper.wp_mono (fun a' w' h => ?_) hop)
      obtain ⟨v, rfl, hv, hC', hb⟩ := h
      exact hnext v w' hv hC' hb
    · rw [if_neg (by rw [hw]; exact Bool.false_ne_true)]
      exact hnext undef w hu hC (Below.refl _ _)

/-- **The region.** -/
theorem region_rel {id : Nat} {l : List Oper} {a : Act} {w : World} (C : World → Prop) (R : Nat → Value → World → Prop) (hm : P.follows .mixedOrders = true) (hC : C { w with drawn := w.drawn + 1 })
    (hst : ∀ i v w w', R i v w → Below w.heap.size w w' → R i v w') (hap : apartR l = true) (hbd : boundR 0 l = true) (hsz : (l.all fun o => match o.dst with | some t => decide (t < a.tmps.size) | none => true) = true)
    (how : ∀ j o, l[j]? = some o → OweR P Q l C R a j o) (hend : ∀ f w, C w → (∀ j, j < l.length → R j (f j) w) → Q .normal (fillR 0 l f a) w) : (Code.region id l.toArray true).wp P Q a w := by
  have hb : ∀ (l : List Oper) (i : Nat), boundR i l = true → ∀ j o, l[j]? = some o → ∀ e ∈ o.after, Region.binds .any e = true → e.on < i + j := by
    intro l
    induction l with
    | nil => intro i _ j o h; simp at h
    | cons p r ih =>
      intro i hb j o h e he hbb
      simp only [boundR, Bool.and_eq_true] at hb
      cases j with
      | zero =>
        simp at h
        subst h
        have := Array.all_eq_true_iff_forall_mem.1 hb.1 e he
        simp only [hbb, Bool.not_true, Bool.false_or, decide_eq_true_eq] at this
        exact this
      | succ j =>
        have := ih (i + 1) hb.2 j o (by simpa using h) e he hbb
        omega
  obtain ⟨f0, hf0⟩ := fillR_self l 0 a (fun o ho t ht => by
    have := List.all_eq_true.1 hsz o ho
    rw [ht] at this
    simpa using this)
  refine wp_region_any hm ?_
  have hsize : l.toArray.size = l.length := by simp
  rw [hsize, ← hf0]
  refine rel_any l a hst hap (fun j o ho e he hbb => by have := hb l 0 hbd j o ho e he hbb; rw [Nat.zero_add] at this; exact this) how hend l.length _ f0 _ (by simp) ?_ hC (fun j hj hl => ?_)
  · unfold left
    exact Nat.le_trans (List.length_filter_le _ _) (by simp)
  · simp [Array.getD, hj] at hl
end

/-! ### .. with a tail of operations that wait for all others, one behind the other -/
def depT (l : List Oper) : Nat → Nat → Nat → Bool
  | 0, _, _ => false
  | n + 1, j, k => match l[j]? with
    | some o => o.after.any fun e => Region.binds .any e && (e.on == k || depT l n e.on k)
    | none => false
theorem depT_listed {l : List Oper} {listed : Array Bool} (hcl : ∀ j o, l[j]? = some o → listed.getD j true = true → ∀ e ∈ o.after, Region.binds .any e = true → listed.getD e.on true = true) :
    ∀ (n j k : Nat) (o : Oper), l[j]? = some o → (∀ e ∈ o.after, Region.binds .any e = true → listed.getD e.on true = true) → depT l n j k = true → listed.getD k true = true
  | 0, _, _, _, _, _, h => by simp [depT] at h
  | n + 1, j, k, o, ho, hd, h => by
    simp only [depT, ho] at h
    obtain ⟨i, hi, he⟩ := Array.any_eq_true.1 h
    simp only [Bool.and_eq_true, Bool.or_eq_true, beq_iff_eq] at he
    have h1 := hd _ (Array.getElem_mem hi) he.1
    rcases he.2 with h2 | h2
    · rw [h2] at h1; exact h1
    · cases ho2 : l[(o.after[i]).on]? with
      | none =>
        cases n with
        | zero => simp [depT] at h2
        | succ n => simp [depT, ho2] at h2
      | some o2 => exact depT_listed hcl n _ k o2 ho2 (hcl _ o2 ho2 h1) h2
theorem getD_set_true {i j : Nat} {listed : Array Bool} : (listed.setIfInBounds i true).getD j true = (if j = i then true else listed.getD j true) := by
  simp only [Array.getD]
  by_cases h3 : j < listed.size
  · by_cases hji : j = i
    · subst hji; simp [h3]
    · simp [h3, Array.getElem_setIfInBounds, Ne.symm hji, hji]
  · simp [h3]
theorem getD_true_false {e n : Nat} {listed : Array Bool} (he : e < n) (hsz : listed.size = n) : listed.getD e false = listed.getD e true := by
  simp [Array.getD, hsz, he]

section
variable {P : Program} {Q : Exit → Act → World → Prop} {C : World → Prop} {R : Nat → Value → World → Prop}
theorem tail_any (l : List Oper) (t : Nat) (hbd : ∀ j o, l[j]? = some o → ∀ e ∈ o.after, Region.binds .any e = true → e.on < j) (hseq : ∀ j o, t < j → l[j]? = some o → ∃ e ∈ o.after, Region.binds .any e = true ∧ e.on = j - 1) :
    ∀ (m s : Nat) (listed : Array Bool) (a : Act) (w : World) (fuel : Nat), t ≤ s → s + m = l.length → m ≤ fuel → listed.size = l.length → (∀ j, j < l.length → listed.getD j true = decide (j < s)) →
      wpOps P l.toArray Q ((List.range m).map (· + s)) a w → wpAny P .any l.toArray Q fuel listed a w
  | 0, s, listed, a, w, fuel, hts, hsm, hf, hsz, hl, h => by
    have h0 : Region.ready .any l.toArray listed = [] := by
      apply List.eq_nil_iff_forall_not_mem.2
      intro i hi
      obtain ⟨h1, o, ho, _⟩ := mem_ready.1 hi
      have hil : i < l.length := by simpa using (Array.getElem?_eq_some_iff.1 ho).1
      rw [hl i hil, decide_eq_true (by omega)] at h1
      cases h1
    have h' : Q .normal a w := by simpa [wpOps] using h
    cases fuel with
    | zero => exact ⟨h0, h'⟩
    | succ fuel => exact ⟨fun _ => h', by rw [h0]; simp⟩
  | m + 1, s, listed, a, w, fuel, hts, hsm, hf, hsz, hl, h => by
    obtain ⟨fuel, rfl⟩ : ∃ k, fuel = k + 1 := ⟨fuel - 1, by omega⟩
    have hsl : s < l.length := by omega
    have hne : ∀ i ∈ Region.ready .any l.toArray listed, i = s := by
      intro i hi
      obtain ⟨h1, o, ho, hdep⟩ := mem_ready.1 hi
      have ho' : l[i]? = some o := by simpa using ho
      have hil : i < l.length := (List.getElem?_eq_some_iff.1 ho').1
      rw [hl i hil] at h1
      have his : s ≤ i := by simpa using h1
      rcases Nat.lt_or_ge s i with h2 | h2
      · obtain ⟨e, he, hb, heq⟩ := hseq i o (by omega) ho'
        have h3 := hdep e he hb
        rw [getD_true_false (by omega) hsz, hl e.on (by omega), heq] at h3
        simp at h3
        omega
      · omega
    have hin : s ∈ Region.ready .any l.toArray listed := by
      rw [mem_ready]
      refine ⟨by rw [hl s hsl]; simp, l[s], by simp [hsl], fun e he hb => ?_⟩
      have := hbd s l[s] (List.getElem?_eq_getElem hsl) e he hb
      rw [getD_true_false (by omega) hsz, hl e.on (by omega)]
      simp; omega
    refine ⟨fun h0 => (by rw [h0] at hin; cases hin), fun i hi => ?_⟩
    obtain rfl := hne i hi
    rw [List.range_succ_eq_map, List.map_cons, wpOps_cons, Nat.zero_add] at h
    refine wpOp_mono (fun a' w' h' => ?_) h
    refine tail_any l t hbd hseq m (i + 1) _ a' w' fuel (by omega) (by omega) (by omega) (by simpa using hsz) (fun j hj => ?_) ?_
    · rw [getD_set_true, hl j hj]
      by_cases hji : j = i
      · subst hji; simp
      · rw [if_neg hji]; simp; omega
    · rw [List.map_map] at h'
      rw [show ((· + (i + 1)) : Nat → Nat) = ((· + i) ∘ Nat.succ) from by funext k; simp; omega]
      exact h'

theorem rel_tail (l : List Oper) (t m : Nat) (htm : t + m = l.length) (hm0 : 0 < m) (a : Act) (hst : ∀ i v w w', R i v w → Below w.heap.size w w' → R i v w') (hap : apartR l = true) (hbd : ∀ j o, l[j]? = some o → ∀ e ∈ o.after, Region.binds .any e = true → e.on < j)
    (hseq : ∀ j o, t < j → l[j]? = some o → ∃ e ∈ o.after, Region.binds .any e = true ∧ e.on = j - 1) (hall : ∀ k, k < t → depT l t t k = true)
    (how : ∀ j o, j < t → l[j]? = some o → OweR P Q l C R a j o) (hend : ∀ f w, C w → (∀ j, j < t → R j (f j) w) → wpOps P l.toArray Q ((List.range m).map (· + t)) (fillR 0 l f a) w) :
    ∀ (fuel : Nat) (listed : Array Bool) (f : Nat → Value) (w : World), listed.size = l.length → left l.length listed ≤ fuel → C w → (∀ j, j < t → listed.getD j true = true → R j (f j) w) → (∀ j, t ≤ j → j < l.length → listed.getD j true = false) →
      (∀ j o, l[j]? = some o → listed.getD j true = true → ∀ e ∈ o.after, Region.binds .any e = true → listed.getD e.on true = true) →
      wpAny P .any l.toArray Q fuel listed (fillR 0 l f a) w := by
  have hfin : ∀ (fuel : Nat) (listed : Array Bool) (f : Nat → Value) (w : World), listed.size = l.length → left l.length listed ≤ fuel → C w → (∀ j, j < t → listed.getD j true = true → R j (f j) w) → (∀ j, t ≤ j → j < l.length → listed.getD j true = false) → (∀ j, j < t → listed.getD j true = true) → wpAny P .any l.toArray Q fuel listed (fillR 0 l f a) w := by
    intro fuel listed f w hsz hf hC hR ht hal
    refine tail_any l t hbd hseq m t listed _ w fuel (Nat.le_refl _) htm ?_ hsz (fun j hj => ?_) (hend f w hC (fun j hj => hR j hj (hal j hj)))
    · refine Nat.le_trans ?_ hf
      have hsub : ((List.range m).map (· + t)).length ≤ left l.length listed := by
        unfold left
        refine List.Sublist.length_le ?_
        have hr : List.range l.length = List.range t ++ (List.range m).map (· + t) := by
          rw [← htm, List.range_add]
          congr 1
          exact List.map_congr_left (fun k _ => Nat.add_comm _ _)
        rw [hr, List.filter_append]
        have h2 : ((List.range m).map (· + t)).filter (fun i => listed.getD i true == false) = (List.range m).map (· + t) := by
          rw [List.filter_eq_self]
          intro k hk
          obtain ⟨c, hc, rfl⟩ := List.mem_map.1 hk
          have := List.mem_range.1 hc
          rw [ht (c + t) (by omega) (by omega)]
          rfl
        rw [h2]
        exact List.sublist_append_right _ _
      simpa using hsub
    · rcases Nat.lt_or_ge j t with h | h
      · rw [hal j h]; simp [h]
      · rw [ht j h hj]; simp; omega
  intro fuel
  induction fuel with
  | zero =>
    intro listed f w hsz hf hC hR ht hcl
    exfalso
    have := left_set (n := l.length) (i := t) (listed := listed) (by omega) (ht t (Nat.le_refl _) (by omega))
    omega
  | succ fuel ih =>
    intro listed f w hsz hf hC hR ht hcl
    by_cases hal : ∀ j, j < t → listed.getD j true = true
    · exact hfin (fuel + 1) listed f w hsz hf hC hR ht hal
    have hless : ∀ i ∈ Region.ready .any l.toArray listed, i < t := by
      intro i hi
      obtain ⟨h1, o, ho, hdep⟩ := mem_ready.1 hi
      have ho' : l[i]? = some o := by simpa using ho
      have hil : i < l.length := (List.getElem?_eq_some_iff.1 ho').1
      rcases Nat.lt_trichotomy i t with h2 | h2 | h2
      · exact h2
      · exfalso
        subst h2
        refine hal (fun k hk => depT_listed hcl i i k o ho' (fun e he hb => ?_) (hall k hk))
        have h3 := hdep e he hb
        rw [getD_true_false (by have := hbd i o ho' e he hb; omega) hsz] at h3
        exact h3
      · exfalso
        obtain ⟨e, he, hb, heq⟩ := hseq i o h2 ho'
        have h3 := hdep e he hb
        rw [getD_true_false (by omega) hsz, ht e.on (by omega) (by omega)] at h3
        cases h3
    have hne : Region.ready .any l.toArray listed ≠ [] := by
      intro h0
      apply hal
      intro j
      induction j using Nat.strongRecOn with
      | ind j ihj =>
        intro hj
        cases hl : listed.getD j true with
        | true => rfl
        | false =>
          exfalso
          have hjl : j < l.length := by omega
          have hmm : j ∈ Region.ready .any l.toArray listed := by
            rw [mem_ready]
            refine ⟨hl, l[j], by simp [hjl], fun e he hb => ?_⟩
            have h1 := hbd j l[j] (List.getElem?_eq_getElem hjl) e he hb
            rw [getD_true_false (by omega) hsz]
            exact ihj e.on h1 (by omega)
          rw [h0] at hmm
          cases hmm
    refine ⟨fun h0 => absurd h0 hne, fun i hi => ?_⟩
    have hit := hless i hi
    obtain ⟨h1, o, ho, hdep⟩ := mem_ready.1 hi
    have ho' : l[i]? = some o := by simpa using ho
    have hil : i < l.length := (List.getElem?_eq_some_iff.1 ho').1
    have hdl : ∀ e ∈ o.after, Region.binds .any e = true → listed.getD e.on true = true := fun e he hb => by
      have h3 := hdep e he hb
      rw [getD_true_false (by have := hbd i o ho' e he hb; omega) hsz] at h3
      exact h3
    have hdeps : ∀ e ∈ o.after, Region.binds .any e = true → R e.on (f e.on) w := fun e he hb => hR e.on (by have := hbd i o ho' e he hb; omega) (hdl e he hb)
    have hnext : ∀ (v : Value) (w' : World), R i v w' → C w' → Below w.heap.size w w' → wpAny P .any l.toArray Q fuel (listed.setIfInBounds i true) ((fillR 0 l f a).put o.dst v) w' := by
      intro v w' hv hC' hb
      rw [fillR_set l 0 i o f a v hap ho', Nat.zero_add]
      refine ih _ _ w' (by simpa using hsz) (by have := left_set hil h1; omega) hC' (fun j hj hlj => ?_) (fun j hj hjl => ?_) (fun j oj hoj hlj e he hbe => ?_)
      · by_cases hji : j = i
        · subst hji; rw [if_pos rfl]; exact hv
        · rw [if_neg hji]
          refine hst _ _ _ _ (hR j hj ?_) hb
          rw [getD_set_true, if_neg hji] at hlj
          exact hlj
      · rw [getD_set_true, if_neg (by omega)]
        exact ht j hj hjl
      · rw [getD_set_true]
        split
        · rfl
        · by_cases hji : j = i
          · subst hji
            rw [ho'] at hoj
            injection hoj with hoj
            subst hoj
            exact hdl e he hbe
          · rw [getD_set_true, if_neg hji] at hlj
            exact hcl j oj hoj hlj e he hbe
    unfold wpOp
    simp only [ho]
    rcases how i o hit ho' f w hC hdeps with ⟨hw, hop⟩ | ⟨hw, hu⟩
    · rw [if_pos hw]
      refine .inl (Oper.wp_mono (fun a' w' h => ?_) hop)
      obtain ⟨v, rfl, hv, hC', hb⟩ := h
      exact hnext v w' hv hC' hb
    · rw [if_neg (by rw [hw]; exact Bool.false_ne_true)]
      exact hnext undef w hu hC (Below.refl _ _)
end

/-! ### the relations that are told -/
inductive Rk where
  | v (x : Value)
  | m (n : Nat) (l : List Mk)
  | u
def Rk.sat : Rk → Value → World → Prop
  | .v x, y, _ => y = x
  | .m n l, y, w => ∃ g, y = .slice (some ⟨g, 0, none⟩) n n ∧ Ms w (some ⟨g, 0, none⟩) n l
  | .u, _, _ => True
theorem Rk.stable : ∀ (k : Rk) (v : Value) (w w' : World), k.sat v w → Below w.heap.size w w' → k.sat v w'
  | .v x, _, _, _, h, _ => h
  | .m n l, _, _, _, ⟨g, h1, h2⟩, hb => ⟨g, h1, h2.below hb⟩
  | .u, _, _, _, _, _ => trivial
def allR (p : Nat → Oper → Prop) : Nat → List Oper → Prop
  | _, [] => True
  | i, o :: r => p i o ∧ allR p (i + 1) r
theorem allR_of (p : Nat → Oper → Prop) : ∀ (l : List Oper) (i : Nat), allR p i l → ∀ j o, l[j]? = some o → p (i + j) o
  | [], _, _, _, _, h => by simp at h
  | q :: r, i, hp, 0, o, h => by simp at h; subst h; exact hp.1
  | q :: r, i, hp, j + 1, o, h => by
    have := allR_of p r (i + 1) hp.2 j o (by simpa using h)
    rw [show i + 1 + j = i + (j + 1) by omega] at this
    exact this
def relOf (L : List Rk) (i : Nat) : Value → World → Prop := (L.getD i .u).sat
theorem region_rel2 {P : Program} {Q : Exit → Act → World → Prop} {id : Nat} {l : List Oper} {a : Act} {w : World} (C : World → Prop) (L : List Rk) (hm : P.follows .mixedOrders = true) (hC : C { w with drawn := w.drawn + 1 })
    (hap : apartR l = true) (hbd : boundR 0 l = true) (hsz : (l.all fun o => match o.dst with | some t => decide (t < a.tmps.size) | none => true) = true)
    (how : allR (fun j o => OweR P Q l C (relOf L) a j o) 0 l) (hend : ∀ f w, C w → (∀ j, j < l.length → relOf L j (f j) w) → Q .normal (fillR 0 l f a) w) : (Code.region id l.toArray true).wp P Q a w :=
  region_rel C (relOf L) hm hC (fun i v w w' h hb => Rk.stable _ v w w' h hb) hap hbd hsz (fun j o ho => by have := allR_of _ l 0 how j o ho; rw [Nat.zero_add] at this; exact this) hend
theorem dep_of {o : Oper} {L : List Rk} {f : Nat → Value} {w : World} (hd : ∀ e ∈ o.after, Region.binds .any e = true → relOf L e.on (f e.on) w) (k : Nat) (h : (o.after.any fun e => Region.binds .any e && e.on == k) = true) : relOf L k (f k) w := by
  obtain ⟨i, hi, he⟩ := Array.any_eq_true.1 h
  simp only [Bool.and_eq_true, beq_iff_eq] at he
  have := hd _ (Array.getElem_mem hi) he.1
  rw [he.2] at this
  exact this
theorem owe_value {P : Program} {Q : Exit → Act → World → Prop} {o : Oper} {a : Act} {w w1 : World} {G : Value → World → Prop} {v : Value} (h : (execOp a.eval o).run P w = .ok (.value v) w1) (hG : G v w1) :
    o.wp P a w (fun a' w' => ∃ v, a' = a.put o.dst v ∧ G v w') Q := by
  unfold Oper.wp
  rw [h]
  exact ⟨v, rfl, hG⟩
theorem owe_enter {P : Program} {Q : Exit → Act → World → Prop} {o : Oper} {a : Act} {w w1 : World} {G : Value → World → Prop} {f : FuncId} {args : Array Value} (h : (execOp a.eval o).run P w = .ok (.enter f args) w1)
    (hc : Calls P f args w1 fun e w2 => ∃ v, e = .returned v ∧ G v w2) : o.wp P a w (fun a' w' => ∃ v, a' = a.put o.dst v ∧ G v w') Q := by
  unfold Oper.wp
  rw [h]
  refine Calls.mono hc ?_
  rintro e w2 ⟨v, rfl, hG⟩
  exact ⟨v, rfl, hG⟩

def seqB : Nat → List Oper → Bool
  | _, [] => true
  | j, o :: r => (o.after.any fun e => Region.binds .any e && e.on == j - 1) && seqB (j + 1) r
theorem seqB_spec : ∀ (r : List Oper) (i : Nat), seqB i r = true → ∀ k o, r[k]? = some o → ∃ e ∈ o.after, Region.binds .any e = true ∧ e.on = i + k - 1
  | [], _, _, _, _, h => by simp at h
  | p :: r, i, hs, 0, o, h => by
    simp at h
    subst h
    simp only [seqB, Bool.and_eq_true] at hs
    obtain ⟨j, hj, he⟩ := Array.any_eq_true.1 hs.1
    simp only [Bool.and_eq_true, beq_iff_eq] at he
    exact ⟨_, Array.getElem_mem hj, he.1, by simpa using he.2⟩
  | p :: r, i, hs, k + 1, o, h => by
    simp only [seqB, Bool.and_eq_true] at hs
    obtain ⟨e, he, hb, hq⟩ := seqB_spec r (i + 1) hs.2 k o (by simpa using h)
    exact ⟨e, he, hb, by omega⟩
theorem boundR_spec : ∀ (l : List Oper) (i : Nat), boundR i l = true → ∀ j o, l[j]? = some o → ∀ e ∈ o.after, Region.binds .any e = true → e.on < i + j
  | [], _, _, _, _, h => by simp at h
  | p :: r, i, hb, 0, o, h => by
    intro e he hbb
    simp at h
    subst h
    simp only [boundR, Bool.and_eq_true] at hb
    have := Array.all_eq_true_iff_forall_mem.1 hb.1 e he
    simp only [hbb, Bool.not_true, Bool.false_or, decide_eq_true_eq] at this
    exact this
  | p :: r, i, hb, j + 1, o, h => by
    intro e he hbb
    simp only [boundR, Bool.and_eq_true] at hb
    have := boundR_spec r (i + 1) hb.2 j o (by simpa using h) e he hbb
    omega
theorem region_rel3 {P : Program} {Q : Exit → Act → World → Prop} {id : Nat} {l : List Oper} {a : Act} {w : World} (C : World → Prop) (L : List Rk) (t m : Nat) (hm : P.follows .mixedOrders = true) (hC : C { w with drawn := w.drawn + 1 })
    (htm : t + m = l.length) (hm0 : 0 < m) (hap : apartR l = true) (hbd : boundR 0 l = true) (hsz : (l.all fun o => match o.dst with | some t => decide (t < a.tmps.size) | none => true) = true)
    (hseq : seqB (t + 1) (l.drop (t + 1)) = true) (hall : ((List.range t).all fun k => depT l t t k) = true)
    (how : allR (fun j o => OweR P Q l C (relOf L) a j o) 0 (l.take t)) (hend : ∀ f w, C w → (∀ j, j < t → relOf L j (f j) w) → wpOps P l.toArray Q ((List.range m).map (· + t)) (fillR 0 l f a) w) : (Code.region id l.toArray true).wp P Q a w := by
  obtain ⟨f0, hf0⟩ := fillR_self l 0 a (fun o ho t ht => by
    have := List.all_eq_true.1 hsz o ho
    rw [ht] at this
    simpa using this)
  have hb := boundR_spec l 0 hbd
  refine wp_region_any hm ?_
  have hsize : l.toArray.size = l.length := by simp
  rw [hsize, ← hf0]
  refine rel_tail (R := relOf L) l t m htm hm0 a (fun i v w w' h hb => Rk.stable _ v w w' h hb) hap (fun j o ho e he hbb => by have := hb j o ho e he hbb; omega)
    (fun j o hj ho => ?_) (fun k hk => List.all_eq_true.1 hall k (List.mem_range.2 hk)) (fun j o hj ho => ?_) hend l.length _ f0 _ (by simp) ?_ hC (fun j hj hl => ?_) (fun j hj hjl => by simp [Array.getD, hjl]) (fun j o ho hl => ?_)
  · obtain ⟨e, he, hbb, hq⟩ := seqB_spec _ (t + 1) hseq (j - (t + 1)) o (by rw [List.getElem?_drop, show t + 1 + (j - (t + 1)) = j by omega]; exact ho)
    exact ⟨e, he, hbb, by omega⟩
  · have := allR_of _ (l.take t) 0 how j o (by rw [List.getElem?_take, if_pos hj]; exact ho)
    rw [Nat.zero_add] at this
    exact this
  · unfold left
    exact Nat.le_trans (List.length_filter_le _ _) (by simp)
  · simp [Array.getD, show j < l.length by omega] at hl
  · have hjl : j < l.length := (List.getElem?_eq_some_iff.1 ho).1
    simp [Array.getD, hjl] at hl
end Go.Proofs.YtgljmcddakeoiaaDoor
