/-
  PrbInv, PrbLook, PrbSrc, PrbSrch.
-/
import Derived.Test.YtcekgllahlhaaaaGreatDoorMMsk
import Derived.Test.YtcekgllahlhaaaaGreatDoorMPrA
import Derived.Test.YtcekgllahlhaaaaGreatDoorMPrF
import Derived.Test.YtcekgllahlhaaaaGreatDoorMLis
import Derived.Test.YtcekgllahlhaaaaGreatDoorMFla
import Derived.Test.YtcekgllahlhaaaaGreatDoorMAre
import Derived.Test.YtcekgllahlhaaaaGreatDoorMPrB
namespace Go.Proofs.YtcekgllahlhaaaaGreatDoor
namespace MskL
open Go Go.RowKit
set_option linter.unusedVariables false
set_option linter.unusedSimpArgs false
set_option maxRecDepth 100000

def setL (L : Nat → Bool) (j : Nat) : Nat → Bool := fun k => if k = j then true else L k
def setF (f : Nat → Value) (j : Nat) (v : Value) : Nat → Value := fun k => if k = j then v else f k
theorem setL_same (L : Nat → Bool) (j : Nat) : setL L j j = true := if_pos rfl
theorem setL_other (L : Nat → Bool) {j k : Nat} (h : k ≠ j) : setL L j k = L k := if_neg h
theorem setF_same (f : Nat → Value) (j : Nat) (v : Value) : setF f j v j = v := if_pos rfl
theorem setF_other (f : Nat → Value) (v : Value) {j k : Nat} (h : k ≠ j) : setF f j v k = f k := if_neg h

section
variable {P : Program} {Q : Exit → Act → World → Prop}
/-- What one operation owes: it keeps the invariant. -/
def OweI (P : Program) (Q : Exit → Act → World → Prop) (l : List Oper) (I : (Nat → Bool) → (Nat → Value) → World → Prop) (a : Act) (j : Nat) (o : Oper) : Prop :=
  ∀ (L : Nat → Bool) (f : Nat → Value) (w : World), L j = false → (∀ e ∈ o.after, Region.binds .any e = true → L e.on = true) → I L f w →
    (Region.wanted o (yielded l.toArray (fillR 0 l f a).tmps) = true ∧ o.wp P (fillR 0 l f a) w (fun a' w' => ∃ v, a' = (fillR 0 l f a).put o.dst v ∧ I (setL L j) (setF f j v) w') Q) ∨
    (Region.wanted o (yielded l.toArray (fillR 0 l f a).tmps) = false ∧ I (setL L j) (setF f j undef) w)

theorem inv_any (l : List Oper) (a : Act) (I : (Nat → Bool) → (Nat → Value) → World → Prop) (hap : apartR l = true) (hbd : ∀ j o, l[j]? = some o → ∀ e ∈ o.after, Region.binds .any e = true → e.on < j)
    (how : ∀ j o, l[j]? = some o → OweI P Q l I a j o) (hend : ∀ L f w, (∀ j, j < l.length → L j = true) → I L f w → Q .normal (fillR 0 l f a) w) :
    ∀ (fuel : Nat) (listed : Array Bool) (f : Nat → Value) (w : World), listed.size = l.length → left l.length listed ≤ fuel → I (fun k => listed.getD k true) f w →
      wpAny P .any l.toArray Q fuel listed (fillR 0 l f a) w := by
  have hrd : ∀ (listed : Array Bool), listed.size = l.length → Region.ready .any l.toArray listed = [] → ∀ j, j < l.length → listed.getD j true = true := by
    intro listed hsz h0
    intro j
    induction j using Nat.strongRecOn with
    | ind j ih =>
      intro hj
      cases hl : listed.getD j true with
      | true => rfl
      | false =>
        exfalso
        have hm : j ∈ Region.ready .any l.toArray listed := by
          rw [mem_ready]
          refine ⟨hl, l[j], by simp [hj], fun e he hb => ?_⟩
          have h1 := hbd j l[j] (List.getElem?_eq_getElem hj) e he hb
          have h2 := ih e.on h1 (by omega)
          rw [Array.getD, dif_pos (by omega)] at h2 ⊢
          exact h2
        rw [h0] at hm
        cases hm
  intro fuel
  induction fuel with
  | zero =>
    intro listed f w hsz hf hI
    have hall : ∀ j, j < l.length → listed.getD j true = true := by
      intro j hj
      cases hl : listed.getD j true with
      | true => rfl
      | false =>
        have := left_set hj hl
        omega
    refine ⟨?_, hend _ f w hall hI⟩
    apply List.eq_nil_iff_forall_not_mem.2
    intro i hi
    obtain ⟨h1, o, ho, _⟩ := mem_ready.1 hi
    have hil : i < l.length := by
      have := (Array.getElem?_eq_some_iff.1 ho).1
      simpa using this
    rw [hall i hil] at h1
    cases h1
  | succ fuel ih =>
    intro listed f w hsz hf hI
    refine ⟨fun h0 => hend _ f w (hrd listed hsz h0) hI, fun i hi => ?_⟩
    obtain ⟨h1, o, ho, hdep⟩ := mem_ready.1 hi
    have ho' : l[i]? = some o := by simpa using ho
    have hil : i < l.length := (List.getElem?_eq_some_iff.1 ho').1
    have hdeps : ∀ e ∈ o.after, Region.binds .any e = true → (fun k => listed.getD k true) e.on = true := fun e he hb => by
      have hlt := hbd i o ho' e he hb
      have h2 := hdep e he hb
      show listed.getD e.on true = true
      rw [Array.getD, dif_pos (by omega)] at h2 ⊢
      exact h2
    have hL : (fun k => (listed.setIfInBounds i true).getD k true) = setL (fun k => listed.getD k true) i := by
      funext k
      unfold setL
      by_cases hk : k = i
      · subst hk; simp [Array.getD, show k < listed.size by omega]
      · rw [if_neg hk]
        simp only [Array.getD]
        by_cases h3 : k < listed.size
        · simp [h3, Array.getElem_setIfInBounds, Ne.symm hk]
        · simp [h3]
    have hnext : ∀ (v : Value) (w' : World), I (setL (fun k => listed.getD k true) i) (setF f i v) w' → wpAny P .any l.toArray Q fuel (listed.setIfInBounds i true) ((fillR 0 l f a).put o.dst v) w' := by
      intro v w' hv
      rw [fillR_set l 0 i o f a v hap ho', Nat.zero_add]
      refine ih _ _ w' (by simpa using hsz) (by have := left_set hil h1; omega) ?_
      rw [hL]
      exact hv
    unfold wpOp
    simp only [ho]
    rcases how i o ho' (fun k => listed.getD k true) f w h1 hdeps hI with ⟨hw, hop⟩ | ⟨hw, hu⟩
    · rw [if_pos hw]
      refine .inl (Oper.wp_mono (fun a' w' h => ?_) hop)
      obtain ⟨v, rfl, hv⟩ := h
      exact hnext v w' hv
    · rw [if_neg (by rw [hw]; exact Bool.false_ne_true)]
      exact hnext undef w hu

/-- **The region.** -/
theorem region_inv {id : Nat} {l : List Oper} {a : Act} {w : World} (I : (Nat → Bool) → (Nat → Value) → World → Prop) (hm : P.follows .mixedOrders = true)
    (hI : ∀ L f, (∀ j, j < l.length → L j = false) → I L f { w with drawn := w.drawn + 1 }) (hap : apartR l = true) (hbd : boundR 0 l = true) (hsz : (l.all fun o => match o.dst with | some t => decide (t < a.tmps.size) | none => true) = true)
    (how : allR (fun j o => OweI P Q l I a j o) 0 l) (hend : ∀ L f w, (∀ j, j < l.length → L j = true) → I L f w → Q .normal (fillR 0 l f a) w) : (Code.region id l.toArray true).wp P Q a w := by
  have hb := boundR_spec l 0 hbd
  obtain ⟨f0, hf0⟩ := fillR_self l 0 a (fun o ho t ht => by
    have := List.all_eq_true.1 hsz o ho
    rw [ht] at this
    simpa using this)
  refine wp_region_any hm ?_
  have hsize : l.toArray.size = l.length := by simp
  rw [hsize, ← hf0]
  refine inv_any l a I hap (fun j o ho e he hbb => by have := hb j o ho e he hbb; omega) (fun j o ho => by have := allR_of _ l 0 how j o ho; rw [Nat.zero_add] at this; exact this) hend l.length _ f0 _ (by simp) ?_ (hI _ _ (fun j hj => by simp [Array.getD, hj]))
  unfold left
  exact Nat.le_trans (List.length_filter_le _ _) (by simp)
end
end MskL
end Go.Proofs.YtcekgllahlhaaaaGreatDoor

namespace Go.Proofs.YtcekgllahlhaaaaGreatDoor
open Go.RowKit Go.Shelf
open MskL (Mk mv mk has MRow Ms Fine fillR setL setF setL_same setL_other setF_same setF_other)
set_option linter.unusedVariables false
set_option linter.unusedSimpArgs false
set_option maxRecDepth 100000

/-- What looked's first region leaves. -/
def lkF (b : Nat) (Av : Option Addr) (nv cv : Nat) (kq ts N : Int) (A : Option Addr) (n c : Nat) (B : Option Addr) (m d : Nat) (v : Value) (w : World) : Prop :=
  ∃ g, v = .func (.func 66) #[] #[.pointer (some ⟨g, 0, none⟩)] ∧ SBox w g Av nv cv kq ts N A n c B m d
def lkP (b : Nat) (l : List Nat) (v : Value) (w : World) : Prop := ∃ A c, v = .slice A l.length c ∧ OwnS b w A c l
def lkB (b : Nat) (v : Value) (w : World) : Prop := ∃ g, v = .pointer (some ⟨g, 0, none⟩) ∧ b ≤ g ∧ MRow w g 0 0
def lkC (a0 a1 a4 a6 a7 : Value) : Nat → Option Value
  | 0 => some a0 | 1 => some a1 | 4 => some a4 | 5 => some a4 | 6 => some a6 | 7 => some a7 | 10 => some a7 | _ => none
/-- While looked's first region is done, in whatever order. -/
structure LkI (W0 : World) (cst : Nat → Option Value) (F P B D : Value → World → Prop) (L : Nat → Bool) (f : Nat → Value) (X : World) : Prop where
  w : Below W0.heap.size W0 X
  c : ∀ j v, L j = true → cst j = some v → f j = v
  r2 : L 2 = true → L 3 = false → F (f 2) X
  r3 : L 3 = true → L 4 = false → P (f 3) X
  r8 : L 8 = true → L 9 = false → B (f 8) X
  r9 : L 9 = true → D (f 8) X
  k6 : L 6 = true → L 5 = true
  k5 : L 5 = true → L 4 = true
  k4 : L 4 = true → L 3 = true
  k9 : L 9 = true → L 8 = true
section
variable {W0 X X' : World} {cst : Nat → Option Value} {F P B D : Value → World → Prop} {L : Nat → Bool} {f : Nat → Value}
/-- An operation whose value is told. -/
theorem LkI.val (h : LkI W0 cst F P B D L f X) (j : Nat) (v : Value) (hj : cst j = some v) (h2 : j ≠ 2 ∧ j ≠ 3 ∧ j ≠ 8 ∧ j ≠ 9) (hL : L j = false) (hb : Below X.heap.size X X')
    (hst : ∀ R ∈ [F, P, B, D], ∀ v w w', R v w → Below w.heap.size w w' → R v w') (k6 : j = 6 → L 5 = true) (k5 : j = 5 → L 4 = true) (k4 : j = 4 → L 3 = true) : LkI W0 cst F P B D (setL L j) (setF f j v) X' := by
  obtain ⟨n2, n3, n8, n9⟩ := h2
  refine ⟨below_tr h.w hb, fun k u hk hu => ?_, fun a b => ?_, fun a b => ?_, fun a b => ?_, fun a => ?_, fun a => ?_, fun a => ?_, fun a => ?_, fun a => ?_⟩
  · by_cases e : k = j
    · subst e; rw [setF_same]; rw [hj] at hu; injection hu
    · rw [setF_other _ _ e]; exact h.c k u (by rw [setL_other _ e] at hk; exact hk) hu
  · rw [setL_other _ (Ne.symm n2)] at a; rw [setL_other _ (Ne.symm n3)] at b; rw [setF_other _ _ (Ne.symm n2)]
    exact hst F (by simp) _ _ _ (h.r2 a b) hb
  · rw [setL_other _ (Ne.symm n3)] at a; rw [setF_other _ _ (Ne.symm n3)]
    refine hst P (by simp) _ _ _ (h.r3 a ?_) hb
    by_cases e : 4 = j
    · subst e; exact hL
    · rw [setL_other _ e] at b; exact b
  · rw [setL_other _ (Ne.symm n8)] at a; rw [setL_other _ (Ne.symm n9)] at b; rw [setF_other _ _ (Ne.symm n8)]
    exact hst B (by simp) _ _ _ (h.r8 a b) hb
  · rw [setL_other _ (Ne.symm n9)] at a; rw [setF_other _ _ (Ne.symm n8)]
    exact hst D (by simp) _ _ _ (h.r9 a) hb
  · by_cases e : 5 = j
    · subst e; exact setL_same _ _
    · rw [setL_other _ e]
      by_cases e6 : 6 = j
      · exact k6 e6.symm
      · rw [setL_other _ e6] at a; exact h.k6 a
  · by_cases e : 4 = j
    · subst e; exact setL_same _ _
    · rw [setL_other _ e]
      by_cases e6 : 5 = j
      · exact k5 e6.symm
      · rw [setL_other _ e6] at a; exact h.k5 a
  · rw [setL_other _ (Ne.symm n3)]
    by_cases e6 : 4 = j
    · exact k4 e6.symm
    · rw [setL_other _ e6] at a; exact h.k4 a
  · rw [setL_other _ (Ne.symm n9)] at a; rw [setL_other _ (Ne.symm n8)]; exact h.k9 a
/-- The three whose values lie in memory. -/
theorem LkI.mem (h : LkI W0 cst F P B D L f X) (j : Nat) (v : Value) (hj : cst j = none) (h2 : j = 2 ∨ j = 3 ∨ j = 8) (hL : L j = false) (hb : Below X.heap.size X X')
    (hst : ∀ R ∈ [F, P, B, D], ∀ v w w', R v w → Below w.heap.size w w' → R v w') (g2 : j = 2 → F v X') (g3 : j = 3 → P v X') (g8 : j = 8 → B v X') (n9 : L 9 = true → L 8 = true) : LkI W0 cst F P B D (setL L j) (setF f j v) X' := by
  refine ⟨below_tr h.w hb, fun k u hk hu => ?_, fun a b => ?_, fun a b => ?_, fun a b => ?_, fun a => ?_, fun a => ?_, fun a => ?_, fun a => ?_, fun a => ?_⟩
  · by_cases e : k = j
    · subst e; rw [hj] at hu; cases hu
    · rw [setF_other _ _ e]; exact h.c k u (by rw [setL_other _ e] at hk; exact hk) hu
  · by_cases e : 2 = j
    · subst e; rw [setF_same]; exact g2 rfl
    · rw [setL_other _ e] at a; rw [setF_other _ _ e]
      refine hst F (by simp) _ _ _ (h.r2 a ?_) hb
      by_cases e3 : 3 = j
      · subst e3; exact hL
      · rw [setL_other _ e3] at b; exact b
  · by_cases e : 3 = j
    · subst e; rw [setF_same]; exact g3 rfl
    · rw [setL_other _ e] at a; rw [setF_other _ _ e]
      rw [setL_other _ (by omega)] at b
      exact hst P (by simp) _ _ _ (h.r3 a b) hb
  · by_cases e : 8 = j
    · subst e; rw [setF_same]; exact g8 rfl
    · rw [setL_other _ e] at a; rw [setF_other _ _ e]
      rw [setL_other _ (by omega)] at b
      exact hst B (by simp) _ _ _ (h.r8 a b) hb
  · rw [setL_other _ (by omega)] at a
    have h8 := n9 a
    have e : 8 ≠ j := fun e => by subst e; rw [hL] at h8; cases h8
    rw [setF_other _ _ e]
    exact hst D (by simp) _ _ _ (h.r9 a) hb
  · rw [setL_other _ (by omega)] at a ⊢; exact h.k6 a
  · rw [setL_other _ (by omega)] at a ⊢; exact h.k5 a
  · rw [setL_other _ (by omega)] at a
    by_cases e : 3 = j
    · subst e; exact setL_same _ _
    · rw [setL_other _ e]; exact h.k4 a
  · rw [setL_other _ (by omega)] at a
    by_cases e : 8 = j
    · subst e; exact setL_same _ _
    · rw [setL_other _ e]; exact h.k9 a
/-- What is stored. -/
theorem LkI.store (h : LkI W0 cst F P B D L f X) (v : Value) (hj : cst 9 = none) (h8 : L 8 = true) (h6 : L 6 = true) (hb : Below W0.heap.size W0 X') (g : D (f 8) X') : LkI W0 cst F P B D (setL L 9) (setF f 9 v) X' := by
  have h5 := h.k6 h6
  have h4 := h.k5 h5
  have h3 := h.k4 h4
  refine ⟨hb, fun k u hk hu => ?_, fun a b => ?_, fun a b => ?_, fun a b => ?_, fun a => ?_, fun a => ?_, fun a => ?_, fun a => ?_, fun a => ?_⟩
  · by_cases e : k = 9
    · subst e; rw [hj] at hu; cases hu
    · rw [setF_other _ _ e]; exact h.c k u (by rw [setL_other _ e] at hk; exact hk) hu
  · rw [setL_other _ (by decide), h3] at b; cases b
  · rw [setL_other _ (by decide), h4] at b; cases b
  · rw [setL_same] at b; cases b
  · rw [setF_other _ _ (by decide)]; exact g
  · rw [setL_other _ (by decide)]; exact h5
  · rw [setL_other _ (by decide)]; exact h4
  · rw [setL_other _ (by decide)]; exact h3
  · rw [setL_other _ (by decide)]; exact h8
theorem dep_in {o : Oper} (hd : ∀ e ∈ o.after, Region.binds .any e = true → L e.on = true) (k : Nat) (h : (o.after.any fun e => Region.binds .any e && e.on == k) = true) : L k = true := by
  obtain ⟨i, hi, he⟩ := Array.any_eq_true.1 h
  simp only [Bool.and_eq_true, beq_iff_eq] at he
  have := hd _ (Array.getElem_mem hi) he.1
  rw [he.2] at this
  exact this
end
/-- What is stored in the mask's box. -/
def lkD (b : Nat) (U : Mk) (v : Value) (w : World) : Prop := ∃ g, v = .pointer (some ⟨g, 0, none⟩) ∧ b ≤ g ∧ MRow w g U.1 U.2
theorem lk_stable {s : Nat} {Av : Option Addr} {nv cv : Nat} {kq ts N : Int} {A : Option Addr} {n c : Nat} {B : Option Addr} {m d : Nat} {l : List Nat} {U : Mk} : ∀ R ∈ [lkF s Av nv cv kq ts N A n c B m d, lkP s l, lkB s, lkD s U], ∀ v w w', R v w → Below w.heap.size w w' → R v w' := by
  intro r hr v w w' h hb
  simp only [List.mem_cons, List.mem_nil_iff, or_false] at hr
  rcases hr with rfl | rfl | rfl | rfl
  · obtain ⟨g, h1, h2⟩ := h; exact ⟨g, h1, h2.below hb h2.lt⟩
  · obtain ⟨A, c, h1, h2⟩ := h; exact ⟨A, c, h1, h2.below hb⟩
  · obtain ⟨g, h1, h2, h3⟩ := h; exact ⟨g, h1, h2, (hb.block _ (lt_of_block h3)).trans h3⟩
  · obtain ⟨g, h1, h2, h3⟩ := h; exact ⟨g, h1, h2, (hb.block _ (lt_of_block h3)).trans h3⟩

theorem laid_on {W : World} {p : Addr} {v : Value} (h : W.cell? p = some v) (o : Obj) : (W.alloc o).cell? p = some v := ((bn1 W o).cell (World.block_lt_of_cell? _ _ h)).trans h

/-- The slots that are looked at. -/
def lookM (M : List Mk) (l : List Ce) (ps : List Int) (t : Int) : Mk := mk fun k => has (unionM M ps) k && has (visM l t) k

set_option maxHeartbeats 8000000 in
theorem looked_any {w : World} {base : Nat} (Av : Option Addr) (nv cv : Nat) (kq ts N : Int) (A : Option Addr) (c : Nat) (C : List (List Int)) (B : Option Addr) (d : Nat) (PL : List Nat) (Aa : Option Addr) (ca : Nat) (qa : List Pa) (Bl : Option Addr) (dl : Nat) (M : List Mk)
    (ha : Are w Aa ca qa) (hl : Lis w A c C Bl dl M) (ho : OwnS base w B d PL) (h0 : 0 < PL.length) (h6 : PL.length ≤ 6) (hpl : PL.length = C.length) (hN : nB N = true) (hca : chkA (ces qa) = 0) (hue : unionE C M ((PL.take (min N.toNat PL.length)).map fun k : Nat => (k : Int)) = 0) (hpm : ∀ k ∈ PL, k < 100) (huf : Fine (unionM M ((PL.take (min N.toNat PL.length)).map fun k : Nat => (k : Int)))) :
    Calls Tryz.prog 23 #[sv Av nv cv kq ts N A C.length c B PL.length d, .agg #[.slice Aa qa.length ca], lv A c C.length Bl dl M.length] w fun e w' => e = .returned (.tuple #[mv (lookM M (ces qa) ((PL.take (min N.toNat PL.length)).map fun k : Nat => (k : Int)) ts), .int .i64 0]) ∧ Below w.heap.size w w' := by
  obtain ⟨g, hg⟩ : ∃ g, g = w.heap.size := ⟨_, rfl⟩
  obtain ⟨na, hna⟩ : ∃ n, n = qa.length := ⟨_, rfl⟩
  obtain ⟨n, hn⟩ : ∃ n, n = C.length := ⟨_, rfl⟩
  obtain ⟨m, hm⟩ : ∃ n, n = M.length := ⟨_, rfl⟩
  obtain ⟨np, hnp⟩ : ∃ n, n = PL.length := ⟨_, rfl⟩
  obtain ⟨K, hK⟩ : ∃ K, K = PL.take (min N.toNat PL.length) := ⟨_, rfl⟩
  obtain ⟨ps, hps⟩ : ∃ ps, ps = (PL.take (min N.toNat PL.length)).map fun k : Nat => (k : Int) := ⟨_, rfl⟩
  obtain ⟨U, hU⟩ : ∃ U, U = unionM M ps := ⟨_, rfl⟩
  obtain ⟨W0, hW0⟩ : ∃ W0, W0 = (((w.alloc (.cells #[.slice Av nv cv, .int .i64 kq, .int .u64 ts, .int .i64 N, .slice A n c, .slice B np d] 76)).alloc (.cells #[.slice Aa na ca] 24)).alloc (.cells #[.slice A n c, .slice Bl m dl] 37)).alloc (.cells #[.int .u64 0, .int .u64 0] 70) := ⟨_, rfl⟩
  have hb0 : Below w.heap.size w W0 := by rw [hW0]; exact ((((Below.refl _ w).alloc (Nat.le_refl _) _).alloc (by simp) _).alloc (by simp; omega) _).alloc (by simp; omega) _
  have hs0 : SBox W0 g Av nv cv kq ts N A n c B np d := by
    have h1 : SBox (w.alloc (.cells #[.slice Av nv cv, .int .i64 kq, .int .u64 ts, .int .i64 N, .slice A n c, .slice B np d] 76)) w.heap.size Av nv cv kq ts N A n c B np d := SBox.of (heap_alloc_new _ _)
    rw [hW0, hg]
    exact ((h1.below (bn1 _ _) h1.lt).below (bn1 _ _) (Nat.lt_of_lt_of_le h1.lt (by simp))).below (bn1 _ _) (Nat.lt_of_lt_of_le h1.lt (by simp))
  have hx1 : W0.cell? ⟨g + 1, 0, none⟩ = some (.slice Aa na ca) ∧ (W0.cell? ⟨g + 2, 0, none⟩ = some (.slice A n c) ∧ W0.cell? ⟨g + 2, 1, none⟩ = some (.slice Bl m dl)) ∧ MRow W0 (g + 3) 0 0 := by
    obtain ⟨W1, hW1⟩ : ∃ W, W = w.alloc (.cells #[.slice Av nv cv, .int .i64 kq, .int .u64 ts, .int .i64 N, .slice A n c, .slice B np d] 76) := ⟨_, rfl⟩
    obtain ⟨W2, hW2⟩ : ∃ W, W = W1.alloc (.cells #[.slice Aa na ca] 24) := ⟨_, rfl⟩
    obtain ⟨W3, hW3⟩ : ∃ W, W = W2.alloc (.cells #[.slice A n c, .slice Bl m dl] 37) := ⟨_, rfl⟩
    have z1 : W1.heap.size = g + 1 := by rw [hW1, hg]; exact World.size_alloc _ _
    have z2 : W2.heap.size = g + 2 := by rw [hW2, World.size_alloc, z1]
    have z3 : W3.heap.size = g + 3 := by rw [hW3, World.size_alloc, z2]
    have c1 := cell_laid W1 #[.slice Aa na ca] 24 0
    have c2 := cell_laid W2 #[.slice A n c, .slice Bl m dl] 37 0
    have c3 := cell_laid W2 #[.slice A n c, .slice Bl m dl] 37 1
    have c4 := MRow.new W3 0 0
    rw [z1, ← hW2] at c1
    rw [z2, ← hW3] at c2 c3
    rw [z3] at c4
    have c1' := laid_on c1 (.cells #[.slice A n c, .slice Bl m dl] 37)
    rw [← hW3] at c1'
    rw [hW0, ← hW1, ← hW2, ← hW3]
    exact ⟨laid_on c1' _, ⟨laid_on c2 _, laid_on c3 _⟩, c4⟩
  have HS0 := Lib.hid (fun (X : World) (hX : Below W0.heap.size W0 X) => hs0.below hX hs0.lt)
  have HX1 := Lib.hid (fun (X : World) (hX : Below W0.heap.size W0 X) => show X.cell? ⟨g + 1, 0, none⟩ = some (.slice Aa na ca) ∧ (X.cell? ⟨g + 2, 0, none⟩ = some (.slice A n c) ∧ X.cell? ⟨g + 2, 1, none⟩ = some (.slice Bl m dl)) ∧ MRow X (g + 3) 0 0 from
    ⟨(hX.cell (World.block_lt_of_cell? _ _ hx1.1)).trans hx1.1, ⟨(hX.cell (World.block_lt_of_cell? _ _ hx1.2.1.1)).trans hx1.2.1.1, (hX.cell (World.block_lt_of_cell? _ _ hx1.2.1.2)).trans hx1.2.1.2⟩, (hX.block _ (lt_of_block hx1.2.2)).trans hx1.2.2⟩)
  have HO := Lib.hid (fun (X : World) (hX : Below W0.heap.size W0 X) => (ho.below hb0).below hX)
  have HCl := Lib.hid (fun (X : World) (hX : Below W0.heap.size W0 X) (g2 : Nat) (hs : SBox X g2 Av nv cv kq ts N A n c B np d) => show Calls Tryz.prog 34 #[.func (.func 66) #[] #[.pointer (some ⟨g2, 0, none⟩)]] X (GivesPl X K) from by
    have h := collectP_any 66 #[.pointer (some ⟨g2, 0, none⟩)] PL (min N.toNat PL.length) X (by omega) (fun args W => enters_of Tryz.func66 (by kernel_rfl) rfl args W)
      (fun Y hY => asked_seq (L := PL) (by rw [← hnp]; exact hs) ((ho.below hb0).below hX) h0 hN Y hY)
    rw [← hK] at h
    exact h)
  have HUn := Lib.hid (fun (X : World) (hX : Below W0.heap.size W0 X) (A' : Option Addr) (c' : Nat) (h : OwnS W0.heap.size X A' c' K) => show Calls Tryz.prog 49 #[.agg #[.slice A n c, .slice Bl m dl], .slice A' K.length c'] X (fun e w' => e = .returned (.tuple #[.agg #[.int .u64 U.1, .int .u64 U.2], .int .i64 0]) ∧ Below X.heap.size X w') from by
    have hv := h.vec (fun k hk => by rw [hK] at hk; have := hpm k (List.mem_of_mem_take hk); omega)
    have h1 := union_any A c C Bl dl M A' c' (K.map fun k : Nat => (k : Int)) X ((hl.below hb0).below hX) hv
    rw [List.length_map, ← hn, ← hm, show (K.map fun k : Nat => (k : Int)) = ps from by rw [hps, hK]] at h1
    have hue' : unionE C M ps = 0 := by rw [hps]; exact hue
    have hur : unionR C M ps = U := by unfold unionR; rw [if_pos hue', hU]
    unfold MskL.GivesME mv at h1
    rw [hur, hue'] at h1
    unfold lv at h1
    exact h1)
  have HVi := Lib.hid (fun (X : World) (hX : Below W0.heap.size W0 X) => show Calls Tryz.prog 25 #[.agg #[.slice Aa na ca], .int .u64 ts] X (fun e w' => e = .returned (.tuple #[.agg #[.int .u64 (visM (ces qa) ts).1, .int .u64 (visM (ces qa) ts).2], .int .i64 0]) ∧ Below X.heap.size X w') from by
    have h := visible_any Aa ca qa ts X ((ha.below hb0).below hX)
    rw [hca, if_pos rfl, ← hna] at h
    exact h)
  have HAn := Lib.hid (fun (X : World) (A' : Option Addr) (h : Ms X A' 2 [U, visM (ces qa) ts]) => show Calls Tryz.prog 50 #[.slice A' 2 2] X (fun e w' => e = .returned (mv (lookM M (ces qa) ps ts)) ∧ Below X.heap.size X w') from by
    have h1 := MskL.and_any A' 2 [U, visM (ces qa) ts] X h
    unfold MskL.GivesM at h1
    rw [show (fun n => [U, visM (ces qa) ts].all fun m => has m n) = fun k => has (unionM M ps) k && has (visM (ces qa) ts) k from by funext k; simp [hU]] at h1
    exact h1)
  rw [← hps, ← hn, ← hna, ← hm, ← hnp]
  rw [← hps, ← hU] at huf
  have HUf := Lib.hid huf
  have HVf := Lib.hid (show Fine (visM (ces qa) ts) from MskL.mk_fine _)
  generalize hLo : lookM M (ces qa) ps ts = LM at *
  generalize hVm : visM (ces qa) ts = VM at *
  have HB0 := Lib.hid hb0
  have HW0 := Lib.hid hW0
  have HG := Lib.hid hg
  clear ha hl ho h0 h6 hpl hN hca hue hpm huf hb0 hs0 hx1 hW0 hg hna hn hm hnp hps hU hLo hVm hK
  unfold lv sv at *
  go_enter Tryz.func23, Tryz.ntmps23
  go_upto_region 1 with fail
  rw [← HW0.out, ← HG.out]
  refine MskL.region_inv (LkI W0 (lkC (.agg #[.slice A n c, .slice Bl m dl]) (.agg #[.slice Av nv cv, .int .i64 kq, .int .u64 ts, .int .i64 N, .slice A n c, .slice B np d]) (.tuple #[.agg #[.int .u64 U.1, .int .u64 U.2], .int .i64 0]) (.agg #[.int .u64 U.1, .int .u64 U.2]) (.int .i64 0)) (lkF W0.heap.size Av nv cv kq ts N A n c B np d) (lkP W0.heap.size K) (lkB W0.heap.size) (lkD W0.heap.size U)) (by kernel_rfl) (fun L f h0 => ?_) (by kernel_rfl) (by kernel_rfl) (by kernel_rfl) ?_ ?_
  · have hz : ∀ j, j < 11 → L j = false := fun j hj => h0 j hj
    refine ⟨below_drew (Below.refl _ _), fun j v hj hv => ?_, fun a => ?_, fun a => ?_, fun a => ?_, fun a => ?_, fun a => ?_, fun a => ?_, fun a => ?_, fun a => ?_⟩
    · rcases Nat.lt_or_ge j 11 with h | h
      · rw [hz j h] at hj; cases hj
      · exfalso
        unfold lkC at hv
        split at hv <;> first | omega | cases hv
    all_goals (rw [hz _ (by decide)] at a; cases a)
  · refine ⟨?_, ?_, ?_, ?_, ?_, ?_, ?_, ?_, ?_, ?_, ?_, trivial⟩
    · intro L f w hL hd hI
      obtain ⟨_, ⟨z0, z1⟩, _⟩ := HX1.out w hI.w
      simp [MskL.fillR, Act.put, go_sem, z0, z1]
      exact hI.val 0 _ rfl (by decide) hL (Below.refl _ _) lk_stable (fun e => absurd e (by decide)) (fun e => absurd e (by decide)) (fun e => absurd e (by decide))
    · intro L f w hL hd hI
      obtain ⟨z0, z1, z2, z3, z4, z5⟩ := HS0.out w hI.w
      simp [MskL.fillR, Act.put, go_sem, z0, z1, z2, z3, z4, z5]
      exact hI.val 1 _ rfl (by decide) hL (Below.refl _ _) lk_stable (fun e => absurd e (by decide)) (fun e => absurd e (by decide)) (fun e => absurd e (by decide))
    · intro L f w hL hd hI
      have e1 := hI.c 1 _ (dep_in hd 1 (by kernel_rfl)) rfl
      simp [MskL.fillR, Act.put, go_sem, e1]
      refine (asked_fn #[] w _ _ _ _ _ _).mono ?_
      rintro e w2 ⟨rfl, rfl⟩
      simp
      exact hI.mem 2 _ rfl (.inl rfl) hL (bn1 _ _) lk_stable (fun _ => ⟨w.heap.size, rfl, SBox.of (heap_alloc_new _ _)⟩) (fun e => absurd e (by decide)) (fun e => absurd e (by decide)) hI.k9
    · intro L f w hL hd hI
      obtain ⟨g2, e2, hs2⟩ := hI.r2 (dep_in hd 2 (by kernel_rfl)) hL
      simp [MskL.fillR, Act.put, go_sem, e2]
      refine (HCl.out w hI.w g2 hs2).mono ?_
      rintro e w2 ⟨A', c', rfl, ho', hb⟩
      simp
      exact hI.mem 3 _ rfl (.inr (.inl rfl)) hL hb lk_stable (fun e => absurd e (by decide)) (fun _ => ⟨A', c', rfl, ho'.mono hI.w.size⟩) (fun e => absurd e (by decide)) hI.k9
    · intro L f w hL hd hI
      have e0 := hI.c 0 _ (dep_in hd 0 (by kernel_rfl)) rfl
      have h3 := dep_in hd 3 (by kernel_rfl)
      obtain ⟨A', c', e3, ho3⟩ := hI.r3 h3 hL
      simp [MskL.fillR, Act.put, go_sem, e0, e3]
      refine (HUn.out w hI.w A' c' ho3).mono ?_
      rintro e w2 ⟨rfl, hb⟩
      simp
      exact hI.val 4 _ rfl (by decide) hL hb lk_stable (fun e => absurd e (by decide)) (fun e => absurd e (by decide)) (fun _ => h3)
    · intro L f w hL hd hI
      have h4 := dep_in hd 4 (by kernel_rfl)
      have e4 := hI.c 4 _ h4 rfl
      simp [MskL.fillR, Act.put, go_sem, e4]
      exact hI.val 5 _ rfl (by decide) hL (Below.refl _ _) lk_stable (fun e => absurd e (by decide)) (fun _ => h4) (fun e => absurd e (by decide))
    · intro L f w hL hd hI
      have h5 := dep_in hd 5 (by kernel_rfl)
      have e5 := hI.c 5 _ h5 rfl
      simp [MskL.fillR, Act.put, go_sem, e5]
      exact hI.val 6 _ rfl (by decide) hL (Below.refl _ _) lk_stable (fun _ => h5) (fun e => absurd e (by decide)) (fun e => absurd e (by decide))
    · intro L f w hL hd hI
      have h5 := dep_in hd 5 (by kernel_rfl)
      have e5 := hI.c 5 _ h5 rfl
      simp [MskL.fillR, Act.put, go_sem, e5]
      exact hI.val 7 _ rfl (by decide) hL (Below.refl _ _) lk_stable (fun e => absurd e (by decide)) (fun e => absurd e (by decide)) (fun e => absurd e (by decide))
    · intro L f w hL hd hI
      simp [MskL.fillR, Act.put, go_sem]
      exact hI.mem 8 _ rfl (.inr (.inr rfl)) hL (bn1 _ _) lk_stable (fun e => absurd e (by decide)) (fun e => absurd e (by decide)) (fun _ => ⟨w.heap.size, rfl, hI.w.size, MRow.new w 0 0⟩) hI.k9
    · intro L f w hL hd hI
      have h6 := dep_in hd 6 (by kernel_rfl)
      have h8 := dep_in hd 8 (by kernel_rfl)
      have e6 := hI.c 6 _ h6 rfl
      obtain ⟨g8, e8, hg8, hm8⟩ := hI.r8 h8 hL
      have r0 := hm8.cell0
      have r1 := hm8.cell1
      have f0 := hm8.frozen 0
      have f1 := hm8.frozen 1
      have hm9 := (hm8.set0 U.1).set1 U.2
      have hb9 : Below W0.heap.size W0 ((w.setCell ⟨g8, 0, none⟩ (.int .u64 U.1)).setCell ⟨g8, 1, none⟩ (.int .u64 U.2)) := (hI.w.setCell hg8 _).setCell hg8 _
      simp [MskL.fillR, Act.put, go_sem, e6, e8, r0, r1, f0, f1]
      exact ⟨undef, hI.store _ rfl h8 h6 hb9 ⟨g8, e8, hg8, hm9⟩⟩
    · intro L f w hL hd hI
      have h7 := dep_in hd 7 (by kernel_rfl)
      have e7 := hI.c 7 _ h7 rfl
      simp [MskL.fillR, Act.put, go_sem, e7]
      exact hI.val 10 _ rfl (by decide) hL (Below.refl _ _) lk_stable (fun e => absurd e (by decide)) (fun e => absurd e (by decide)) (fun e => absurd e (by decide))
  intro L f w3 hL hI
  have hl := fun j (hj : j < 11) => hL j hj
  have e7 := hI.c 7 _ (hl 7 (by decide)) rfl
  have e10 := hI.c 10 _ (hl 10 (by decide)) rfl
  obtain ⟨g8, e8, hg8, hm8⟩ := hI.r9 (hl 9 (by decide))
  have HB3 := Lib.hid hI.w
  have HM8 := Lib.hid hm8
  have HG8 := Lib.hid hg8
  clear hm8 hg8 hI hL hl
  simp [MskL.fillR, Act.put, e7, e8, e10]
  clear e7 e8 e10
  obtain ⟨x1, _, x4⟩ := HX1.out w3 HB3.out
  obtain ⟨y0, y1, y2, y3, y4, y5⟩ := HS0.out w3 HB3.out
  clear x4
  go_wp2_with fail
  refine (HVi.out w3 HB3.out).mono ?_
  rintro e w4 ⟨rfl, hb4⟩
  obtain ⟨p10, hp10⟩ : ∃ p, p = w4.heap.size := ⟨_, rfl⟩
  obtain ⟨V4, hV4⟩ : ∃ V, V = w4.alloc (.cells #[.int .u64 VM.1, .int .u64 VM.2] 70) := ⟨_, rfl⟩
  obtain ⟨hbV, hmV⟩ := MskL.mbox_world w4 VM
  rw [← hV4] at hbV hmV
  rw [← hp10] at hmV
  have hb34 := below_tr hb4 hbV
  have hm8 : MRow V4 g8 U.1 U.2 := (hb34.block _ (lt_of_block HM8.out)).trans HM8.out
  have q0 := hm8.cell0
  have q1 := hm8.cell1
  have q2 := hmV.cell0
  have q3 := hmV.cell1
  have HB4 := Lib.hid (below_tr HB3.out hb34)
  have HMs := Lib.hid (MskL.Ms.two V4 U VM HUf.out HVf.out)
  have HV4 := Lib.hid hV4
  have HP10 := Lib.hid hp10
  have hz4 : V4.heap.size = p10 + 1 := by rw [hV4, hp10]; exact World.size_alloc _ _
  have HZ4 := Lib.hid hz4
  clear hb4 hbV hb34 hm8 hmV hV4 hp10 x1 y0 y1 y2 y3 y4 y5 hz4
  go_wp2_with (rw [← HV4.out, ← HP10.out])
  obtain ⟨V5, hV5⟩ : ∃ V, V = V4.alloc (.cells #[.int .u64 U.1, .int .u64 U.2, .int .u64 VM.1, .int .u64 VM.2] 70) := ⟨_, rfl⟩
  have hms := HMs.out
  rw [← hV5] at hms ⊢
  have hb5 : Below V4.heap.size V4 V5 := by rw [hV5]; exact bn1 _ _
  refine (HAn.out V5 _ hms).mono ?_
  rintro e w6 ⟨rfl, hb6⟩
  unfold mv
  have hb06 := below_tr HB4.out (below_tr hb5 hb6)
  have hmr : MRow w6 (g + 1 + 1 + 1) 0 0 := (HX1.out w6 hb06).2.2
  have r0 := hmr.cell0
  have r1 := hmr.cell1
  have f0 := hmr.frozen 0
  have f1 := hmr.frozen 1
  have hm9 := (hmr.set0 LM.1).set1 LM.2
  have hlo : w.heap.size ≤ g + 1 + 1 + 1 := by rw [← HG.out]; omega
  have hb9 : Below w.heap.size w ((w6.setCell ⟨g + 1 + 1 + 1, 0, none⟩ (.int .u64 LM.1)).setCell ⟨g + 1 + 1 + 1, 1, none⟩ (.int .u64 LM.2)) := ((HB0.out.trans (hb06.mono HB0.out.size)).setCell hlo _).setCell hlo _
  have s0 := hm9.cell0
  have s1 := hm9.cell1
  have HB9 := Lib.hid hb9
  clear hms hb5 hb6 hb06 hmr hm9 hlo hb9 hV5 q0 q1 q2 q3
  go_wp2
  refine bodyPost_ret (v := .tuple #[.agg #[.int .u64 LM.1, .int .u64 LM.2], .int .i64 0]) (by simp [results, Tryz.results23, go_sem, s0, s1]) rfl ?_
  exact ⟨rfl, HB9.out⟩
end Go.Proofs.YtcekgllahlhaaaaGreatDoor

namespace Go.Proofs.YtcekgllahlhaaaaGreatDoor
open Go.RowKit Go.Shelf
open MskL (Mk)
set_option linter.unusedVariables false
set_option linter.unusedSimpArgs false
set_option maxRecDepth 100000

/-- What refuses a search. -/
def rsE (kq N : Int) (v : List Int) (C : List (List Int)) (M : List Mk) (l : List Ce) : Int :=
  if chkP kq N v = 0 then (if chkL C M = 0 then (if chkA l = 0 then cenE C else chkA l) else chkL C M) else chkP kq N v

set_option maxHeartbeats 2000000 in
theorem refuseSearch_any (Aa : Option Addr) (ca : Nat) (qa : List Pa) (A : Option Addr) (c : Nat) (C : List (List Int)) (B : Option Addr) (d : Nat) (M : List Mk) (Av : Option Addr) (cv : Nat) (v : List Int) (kq ts N : Int) (w : World) (ha : Are w Aa ca qa) (hl : Lis w A c C B d M) (hv : Vec .i32 w Av cv v) :
    Calls Tryz.prog 21 #[.agg #[.slice Aa qa.length ca], lv A c C.length B d M.length, pv Av v.length cv kq ts N] w fun e w' => e = .returned (.int .i64 (rsE kq N v C M (ces qa))) ∧ Below w.heap.size w w' := by
  obtain ⟨g, hg⟩ : ∃ g, g = w.heap.size := ⟨_, rfl⟩
  obtain ⟨na, hna⟩ : ∃ n, n = qa.length := ⟨_, rfl⟩
  obtain ⟨n, hn⟩ : ∃ n, n = C.length := ⟨_, rfl⟩
  obtain ⟨m, hm⟩ : ∃ n, n = M.length := ⟨_, rfl⟩
  obtain ⟨nv, hnv⟩ : ∃ n, n = v.length := ⟨_, rfl⟩
  obtain ⟨W0, hW0⟩ : ∃ W0, W0 = ((w.alloc (.cells #[.slice Aa na ca] 24)).alloc (.cells #[.slice A n c, .slice B m d] 37)).alloc (.cells #[.slice Av nv cv, .int .i64 kq, .int .u64 ts, .int .i64 N] 31) := ⟨_, rfl⟩
  have hb0 : Below w.heap.size w W0 := by rw [hW0]; exact (((Below.refl _ w).alloc (Nat.le_refl _) _).alloc (by simp) _).alloc (by simp; omega) _
  have hx0 : W0.cell? ⟨g, 0, none⟩ = some (.slice Aa na ca) := by
    have h1 : (w.alloc (.cells #[.slice Aa na ca] 24)).cell? ⟨w.heap.size, 0, none⟩ = some (.slice Aa na ca) := cell_laid _ _ _ 0
    have h2 := ((Below.refl _ (w.alloc (.cells #[.slice Aa na ca] 24))).alloc (Nat.le_refl _) (.cells #[.slice A n c, .slice B m d] 37)).cell (World.block_lt_of_cell? _ _ h1)
    have h3 := ((Below.refl _ _).alloc (Nat.le_refl _) (.cells #[.slice Av nv cv, .int .i64 kq, .int .u64 ts, .int .i64 N] 31)).cell (World.block_lt_of_cell? _ _ (h2.trans h1))
    rw [hW0, hg]
    exact h3.trans (h2.trans h1)
  have hx1 : W0.cell? ⟨g + 1, 0, none⟩ = some (.slice A n c) ∧ W0.cell? ⟨g + 1, 1, none⟩ = some (.slice B m d) := by
    have h0 : (w.alloc (.cells #[.slice Aa na ca] 24)).heap.size = g + 1 := by rw [World.size_alloc, hg]
    obtain ⟨h1, _⟩ := lbox (w.alloc (.cells #[.slice Aa na ca] 24)) A n c B m d
    rw [h0] at h1
    have hb := (Below.refl _ ((w.alloc (.cells #[.slice Aa na ca] 24)).alloc (.cells #[.slice A n c, .slice B m d] 37))).alloc (Nat.le_refl _) (.cells #[.slice Av nv cv, .int .i64 kq, .int .u64 ts, .int .i64 N] 31)
    rw [hW0]
    exact ⟨(hb.cell (World.block_lt_of_cell? _ _ h1.c0)).trans h1.c0, (hb.cell (World.block_lt_of_cell? _ _ h1.c1)).trans h1.c1⟩
  have hx2 : PBox W0 (g + 2) Av nv cv kq ts N := by
    have h0 : ((w.alloc (.cells #[.slice Aa na ca] 24)).alloc (.cells #[.slice A n c, .slice B m d] 37)).heap.size = g + 2 := by rw [World.size_alloc, World.size_alloc, hg]
    obtain ⟨h1, _⟩ := pbox ((w.alloc (.cells #[.slice Aa na ca] 24)).alloc (.cells #[.slice A n c, .slice B m d] 37)) Av nv cv kq ts N
    rw [h0, ← hW0] at h1
    exact h1
  have HX := Lib.hid (fun (X : World) (hX : Below W0.heap.size W0 X) => show X.cell? ⟨g, 0, none⟩ = some (.slice Aa na ca) ∧ X.cell? ⟨g + 1, 0, none⟩ = some (.slice A n c) ∧ X.cell? ⟨g + 1, 1, none⟩ = some (.slice B m d) from
    ⟨(hX.cell (World.block_lt_of_cell? _ _ hx0)).trans hx0, (hX.cell (World.block_lt_of_cell? _ _ hx1.1)).trans hx1.1, (hX.cell (World.block_lt_of_cell? _ _ hx1.2)).trans hx1.2⟩)
  have HCp := Lib.hid (checkP_any v Av cv kq ts N W0 (hv.below hb0))
  have HCl := Lib.hid (fun (X : World) (hX : Below W0.heap.size W0 X) => checkL_any A c C B d M X ((hl.below hb0).below hX))
  have HCa := Lib.hid (fun (X : World) (hX : Below W0.heap.size W0 X) => checkA_any Aa ca qa X ((ha.below hb0).below hX))
  have HRf := Lib.hid (fun (X : World) (hX : Below W0.heap.size W0 X) => refuseP_any A c C X ((hl.below hb0).below hX).cs)
  have HR := Lib.hid (show rsE kq N v C M (ces qa) = if chkP kq N v = 0 then (if chkL C M = 0 then (if chkA (ces qa) = 0 then cenE C else chkA (ces qa)) else chkL C M) else chkP kq N v from rfl)
  generalize rsE kq N v C M (ces qa) = R at *
  generalize chkP kq N v = E1 at *
  generalize chkL C M = E2 at *
  generalize chkA (ces qa) = E3 at *
  generalize cenE C = E4 at *
  rw [← hna] at HCa
  rw [← hn, ← hm] at HCl
  rw [← hn] at HRf
  rw [← hnv] at HCp
  rw [← hna, ← hn, ← hm, ← hnv]
  obtain ⟨x0, x1, x2, x3⟩ := hx2
  have HB0 := Lib.hid hb0
  have HW0 := Lib.hid hW0
  have HG := Lib.hid hg
  clear ha hl hv hb0 hx0 hx1 hW0 hg hna hn hm hnv
  unfold lv pv at *
  go_enter Tryz.func21, Tryz.ntmps21
  go_wp2_with (rw [← HW0.out, ← HG.out])
  refine HCp.out.mono ?_
  rintro e w1 ⟨rfl, hb1⟩
  have HB1 := Lib.hid hb1
  obtain ⟨y0, y1, y2⟩ := HX.out w1 hb1
  clear hb1 x0 x1 x2 x3
  by_cases h1 : E1 = 0
  · subst h1
    go_wp2_with fail
    refine (HCl.out w1 HB1.out).mono ?_
    rintro e w2 ⟨rfl, hb2⟩
    have HB2 := Lib.hid (HB1.out.trans (hb2.mono HB1.out.size))
    obtain ⟨z0, z1, z2⟩ := HX.out w2 HB2.out
    clear hb2 y0 y1 y2
    by_cases h2 : E2 = 0
    · subst h2
      go_wp2_with fail
      refine (HCa.out w2 HB2.out).mono ?_
      rintro e w3 ⟨rfl, hb3⟩
      have HB3 := Lib.hid (HB2.out.trans (hb3.mono HB2.out.size))
      obtain ⟨y0, y1, y2⟩ := HX.out w3 HB3.out
      clear hb3 z0 z1 z2
      by_cases h3 : E3 = 0
      · have hR : R = E4 := by rw [HR.out]; simp [h3]
        subst h3 hR
        go_wp2_with fail
        refine (HRf.out w3 HB3.out).mono ?_
        rintro e w4 ⟨rfl, hb4⟩
        have HB4 := Lib.hid (HB0.out.trans ((HB3.out.trans (hb4.mono HB3.out.size)).mono HB0.out.size))
        clear hb4 y0 y1 y2
        go_wp2
        go_ret
        exact ⟨rfl, HB4.out⟩
      · have hR : R = E3 := by rw [HR.out]; simp [h3]
        have t1 : (E3 != 0) = true := by simpa using h3
        have t2 : (E3 == 0) = false := by simpa using h3
        have HF := Lib.hid (HB0.out.trans (HB3.out.mono HB0.out.size))
        subst hR
        clear h3 y0 y1 y2
        go_wp2
        go_ret
        exact ⟨rfl, HF.out⟩
    · have hR : R = E2 := by rw [HR.out]; simp [h2]
      have t1 : (E2 != 0) = true := by simpa using h2
      have t2 : (E2 == 0) = false := by simpa using h2
      have HF := Lib.hid (HB0.out.trans (HB2.out.mono HB0.out.size))
      subst hR
      clear h2 z0 z1 z2
      go_wp2
      go_ret
      exact ⟨rfl, HF.out⟩
  · have hR : R = E1 := by rw [HR.out, if_neg h1]
    have t1 : (E1 != 0) = true := by simpa using h1
    have t2 : (E1 == 0) = false := by simpa using h1
    have HF := Lib.hid (HB0.out.trans (HB1.out.mono HB0.out.size))
    subst hR
    clear h1 y0 y1 y2
    go_wp2
    go_ret
    exact ⟨rfl, HF.out⟩
end Go.Proofs.YtcekgllahlhaaaaGreatDoor

namespace Go.Proofs.YtcekgllahlhaaaaGreatDoor
open Go.RowKit Go.Shelf
open TopL (HitM)
open MskL (Mk mv has hasB Fine mk_fine)
set_option linter.unusedVariables false
set_option linter.unusedSimpArgs false
set_option maxRecDepth 100000

/-- The places that are asked, as numbers. -/
def askI (C : List (List Int)) (v : List Int) (N : Int) : List Int := (askM C v N).map fun k : Nat => (k : Int)
/-- What is looked at. -/
def srM (C : List (List Int)) (M : List Mk) (l : List Ce) (v : List Int) (ts N : Int) : Mk := lookM M l (askI C v N) ts
/-- What Search tells, and answers. -/
def srE (kq ts N : Int) (v : List Int) (C : List (List Int)) (M : List Mk) (l : List Ce) : Int :=
  if rsE kq N v C M l = 0 then (if dimC C = v.length then scanE kq l (fun (k : Nat) => hasB (srM C M l v ts N) (k : Int)) v else 151) else rsE kq N v C M l
def srL (kq ts N : Int) (v : List Int) (C : List (List Int)) (M : List Mk) (l : List Ce) : List HitM :=
  if srE kq ts N v C M l = 0 then scanL kq l (fun (k : Nat) => hasB (srM C M l v ts N) (k : Int)) v else []
theorem rsE_ok {kq N : Int} {v : List Int} {C : List (List Int)} {M : List Mk} {l : List Ce} (h : rsE kq N v C M l = 0) : chkP kq N v = 0 ∧ okB C M = true ∧ chkA l = 0 ∧ cenE C = 0 := by
  unfold rsE at h
  split at h
  · rename_i h1
    split at h
    · rename_i h2
      split at h
      · rename_i h3
        refine ⟨h1, ?_, h3, h⟩
        unfold chkL at h2
        split at h2
        · rename_i h4; exact h4
        · omega
      · rename_i h3; exact absurd h h3
    · rename_i h2; exact absurd h h2
  · rename_i h1; exact absurd h h1
theorem ask_in {C : List (List Int)} {M : List Mk} {v : List Int} {N : Int} (h : okB C M = true) : unionE C M (askI C v N) = 0 := by
  obtain ⟨_, _, h3, _⟩ := okB_iff h
  unfold unionE
  rw [if_pos h, if_pos]
  rw [List.all_eq_true]
  intro p hp
  obtain ⟨k, hk, rfl⟩ := List.mem_map.1 hp
  have := asked_mem hk
  unfold inB
  simp
  omega

set_option maxHeartbeats 4000000 in
theorem searchP_any (Aa : Option Addr) (ca : Nat) (qa : List Pa) (A : Option Addr) (c : Nat) (C : List (List Int)) (B : Option Addr) (d : Nat) (M : List Mk) (Av : Option Addr) (cv : Nat) (v : List Int) (kq ts N : Int) (w : World) (ha : Are w Aa ca qa) (hl : Lis w A c C B d M) (hv : Vec .i32 w Av cv v) :
    Calls Tryz.prog 9 #[.agg #[.slice Aa qa.length ca], lv A c C.length B d M.length, pv Av v.length cv kq ts N] w (GivesHE w (srL kq ts N v C M (ces qa)) (srE kq ts N v C M (ces qa))) := by
  obtain ⟨g, hg⟩ : ∃ g, g = w.heap.size := ⟨_, rfl⟩
  obtain ⟨na, hna⟩ : ∃ n, n = qa.length := ⟨_, rfl⟩
  obtain ⟨n, hn⟩ : ∃ n, n = C.length := ⟨_, rfl⟩
  obtain ⟨m, hm⟩ : ∃ n, n = M.length := ⟨_, rfl⟩
  obtain ⟨nv, hnv⟩ : ∃ n, n = v.length := ⟨_, rfl⟩
  obtain ⟨W0, hW0⟩ : ∃ W0, W0 = ((w.alloc (.cells #[.slice Aa na ca] 24)).alloc (.cells #[.slice A n c, .slice B m d] 37)).alloc (.cells #[.slice Av nv cv, .int .i64 kq, .int .u64 ts, .int .i64 N] 31) := ⟨_, rfl⟩
  have hb0 : Below w.heap.size w W0 := by rw [hW0]; exact (((Below.refl _ w).alloc (Nat.le_refl _) _).alloc (by simp) _).alloc (by simp; omega) _
  have hx0 : W0.cell? ⟨g, 0, none⟩ = some (.slice Aa na ca) := by
    have h1 : (w.alloc (.cells #[.slice Aa na ca] 24)).cell? ⟨w.heap.size, 0, none⟩ = some (.slice Aa na ca) := cell_laid _ _ _ 0
    have h2 := ((Below.refl _ (w.alloc (.cells #[.slice Aa na ca] 24))).alloc (Nat.le_refl _) (.cells #[.slice A n c, .slice B m d] 37)).cell (World.block_lt_of_cell? _ _ h1)
    have h3 := ((Below.refl _ _).alloc (Nat.le_refl _) (.cells #[.slice Av nv cv, .int .i64 kq, .int .u64 ts, .int .i64 N] 31)).cell (World.block_lt_of_cell? _ _ (h2.trans h1))
    rw [hW0, hg]
    exact h3.trans (h2.trans h1)
  have hx1 : W0.cell? ⟨g + 1, 0, none⟩ = some (.slice A n c) ∧ W0.cell? ⟨g + 1, 1, none⟩ = some (.slice B m d) := by
    have h0 : (w.alloc (.cells #[.slice Aa na ca] 24)).heap.size = g + 1 := by rw [World.size_alloc, hg]
    obtain ⟨h1, _⟩ := lbox (w.alloc (.cells #[.slice Aa na ca] 24)) A n c B m d
    rw [h0] at h1
    have hb := (Below.refl _ ((w.alloc (.cells #[.slice Aa na ca] 24)).alloc (.cells #[.slice A n c, .slice B m d] 37))).alloc (Nat.le_refl _) (.cells #[.slice Av nv cv, .int .i64 kq, .int .u64 ts, .int .i64 N] 31)
    rw [hW0]
    exact ⟨(hb.cell (World.block_lt_of_cell? _ _ h1.c0)).trans h1.c0, (hb.cell (World.block_lt_of_cell? _ _ h1.c1)).trans h1.c1⟩
  have hx2 : PBox W0 (g + 2) Av nv cv kq ts N := by
    have h0 : ((w.alloc (.cells #[.slice Aa na ca] 24)).alloc (.cells #[.slice A n c, .slice B m d] 37)).heap.size = g + 2 := by rw [World.size_alloc, World.size_alloc, hg]
    obtain ⟨h1, _⟩ := pbox ((w.alloc (.cells #[.slice Aa na ca] 24)).alloc (.cells #[.slice A n c, .slice B m d] 37)) Av nv cv kq ts N
    rw [h0, ← hW0] at h1
    exact h1
  have HX := Lib.hid (fun (X : World) (hX : Below W0.heap.size W0 X) => show X.cell? ⟨g, 0, none⟩ = some (.slice Aa na ca) ∧ X.cell? ⟨g + 1, 0, none⟩ = some (.slice A n c) ∧ X.cell? ⟨g + 1, 1, none⟩ = some (.slice B m d) from
    ⟨(hX.cell (World.block_lt_of_cell? _ _ hx0)).trans hx0, (hX.cell (World.block_lt_of_cell? _ _ hx1.1)).trans hx1.1, (hX.cell (World.block_lt_of_cell? _ _ hx1.2)).trans hx1.2⟩)
  have HP := Lib.hid (fun (X : World) (hX : Below W0.heap.size W0 X) => hx2.below hX hx2.lt)
  have HRf := Lib.hid (refuseSearch_any Aa ca qa A c C B d M Av cv v kq ts N W0 (ha.below hb0) (hl.below hb0) (hv.below hb0))
  have HSo := Lib.hid (fun (X : World) (hX : Below W0.heap.size W0 X) => searcherOf_ok A Av c cv C v kq ts N X ((hl.below hb0).below hX).cs ((hv.below hb0).below hX))
  have HSd := Lib.hid (fun (X : World) (hX : Below W0.heap.size W0 X) => searcherOf_dim A Av c cv C v kq ts N X ((hl.below hb0).below hX).cs ((hv.below hb0).below hX))
  have HLk := Lib.hid (fun (X : World) (hX : Below W0.heap.size W0 X) (base : Nat) (B' : Option Addr) (d' : Nat) (PL : List Nat) (ho : OwnS base X B' d' PL) h0 h6 hpl hN hca hue hpm huf => looked_any Av nv cv kq ts N A c C B' d' PL Aa ca qa B d M ((ha.below hb0).below hX) ((hl.below hb0).below hX) ho h0 h6 hpl hN hca hue hpm huf)
  have HSc := Lib.hid (fun (X : World) (hX : Below W0.heap.size W0 X) (k : Mk) (hk : Fine k) => scan_any v Av cv kq Aa ca qa k X ((hv.below hb0).below hX) ((ha.below hb0).below hX) hk)
  have HOk := Lib.hid (fun (h : rsE kq N v C M (ces qa) = 0) => rsE_ok h)
  have HE := Lib.hid (show srE kq ts N v C M (ces qa) = if rsE kq N v C M (ces qa) = 0 then (if dimC C = v.length then scanE kq (ces qa) (fun (k : Nat) => hasB (srM C M (ces qa) v ts N) (k : Int)) v else 151) else rsE kq N v C M (ces qa) from rfl)
  have HL := Lib.hid (show srL kq ts N v C M (ces qa) = if srE kq ts N v C M (ces qa) = 0 then scanL kq (ces qa) (fun (k : Nat) => hasB (srM C M (ces qa) v ts N) (k : Int)) v else [] from rfl)
  generalize srL kq ts N v C M (ces qa) = RL at *
  generalize srE kq ts N v C M (ces qa) = R at *
  obtain ⟨E1, hE1⟩ : ∃ E, E = rsE kq N v C M (ces qa) := ⟨_, rfl⟩
  rw [← hE1] at HRf HOk HE
  rw [← hna, ← hn, ← hm, ← hnv]
  rw [← hna, ← hn, ← hm, ← hnv] at HRf
  rw [← hn] at HSo HSd
  rw [← hnv] at HSo HSd HE
  rw [← hna, ← hn, ← hm] at HLk
  rw [← hna, ← hnv] at HSc
  have HN := Lib.hid hn
  have HNv := Lib.hid hnv
  have HB0 := Lib.hid hb0
  have HW0 := Lib.hid hW0
  have HG := Lib.hid hg
  obtain ⟨x0, x1, x2, x3⟩ := hx2
  obtain ⟨u0, u1, u2⟩ := HX.out W0 (Below.refl _ _)
  clear ha hl hv hb0 hx0 hx1 hW0 hg hna hn hm hnv hE1
  unfold lv pv at *
  by_cases h1 : E1 = 0
  · obtain ⟨hcp, hok, hca, hce⟩ := HOk.out h1
    obtain ⟨hNb, hQ⟩ := chkP_ok hcp
    obtain ⟨hK, hvr⟩ := chkQ_ok hQ
    obtain ⟨c0, c6, call⟩ := cenE_ok hce
    by_cases hd : dimC C = nv
    · obtain ⟨PL, hPL⟩ : ∃ PL, PL = placesP (farM C v) C.length := ⟨_, rfl⟩
      have HSoo := Lib.hid (fun (X : World) (hX : Below W0.heap.size W0 X) => HSo.out X hX hvr (fun x hx => by rw [← hd]; exact call x hx) (by rw [HN.out]; exact c6) (by rw [HN.out]; exact c0))
      have hPl : PL.length = C.length := by rw [hPL, places_len]
      have hAk : (PL.take (min N.toNat PL.length)).map (fun k : Nat => (k : Int)) = askI C v N := by unfold askI askM; rw [hPl, ← asked_min, hPL]; rfl
      have HLkk := Lib.hid (fun (X : World) (hX : Below W0.heap.size W0 X) (base : Nat) (B' : Option Addr) (d' : Nat) (ho : OwnS base X B' d' PL) => HLk.out X hX base B' d' PL ho (by rw [hPl]; exact c0) (by rw [hPl]; exact c6) (by rw [hPl, ← HN.out]) hNb hca (by rw [hAk]; exact ask_in hok) (fun k hk => by rw [hPL, places_mem] at hk; omega) (mk_fine _))
      rw [hAk, show lookM M (ces qa) (askI C v N) ts = srM C M (ces qa) v ts N from rfl] at HLkk
      rw [hPl, ← HN.out] at HLkk
      rw [HN.out, ← hPL, ← HN.out] at HSoo
      obtain ⟨S, hS⟩ : ∃ S, S = srM C M (ces qa) v ts N := ⟨_, rfl⟩
      have HScc := Lib.hid (fun (X : World) (hX : Below W0.heap.size W0 X) => HSc.out X hX S (by rw [hS]; exact mk_fine _))
      rw [← hS] at HLkk
      have hF : R = scanE kq (ces qa) (fun (k : Nat) => hasB S (k : Int)) v := by rw [HE.out, if_pos h1, if_pos hd, hS]
      have hRL : scanL kq (ces qa) (fun (k : Nat) => hasB S (k : Int)) v = RL := by
        rw [HL.out, ← hS, hF]
        unfold scanL
        split <;> rfl
      rw [← hF, hRL] at HScc
      subst h1
      clear hcp hok hca hce hNb hQ hK hvr c0 c6 call hd hPL hPl hAk hS hF hRL
      go_enter Tryz.func9, Tryz.ntmps9
      go_wp2_with (rw [← HW0.out, ← HG.out])
      refine HRf.out.mono ?_
      rintro e w1 ⟨rfl, hb1⟩
      have HB1 := Lib.hid hb1
      obtain ⟨y0, y1, y2, y3⟩ := HP.out w1 hb1
      obtain ⟨v0, v1, v2⟩ := HX.out w1 hb1
      clear hb1 x0 x1 x2 x3 u0 u1 u2
      go_wp2_with fail
      refine (HSoo.out w1 HB1.out).mono ?_
      rintro e w2 ⟨B2, d2, rfl, ho, hb2⟩
      unfold sv
      obtain ⟨V, hV⟩ : ∃ V, V = w2.alloc (.cells #[.slice Av nv cv, .int .i64 kq, .int .u64 ts, .int .i64 N, .slice A n c, .slice B2 n d2] 76) := ⟨_, rfl⟩
      have hbV : Below w2.heap.size w2 V := by rw [hV]; exact bn1 _ _
      have hsV : SBox V w2.heap.size Av nv cv kq ts N A n c B2 n d2 := by rw [hV]; exact SBox.of (heap_alloc_new _ _)
      have hBV : Below W0.heap.size W0 V := (HB1.out.trans (hb2.mono HB1.out.size)).trans (hbV.mono (Nat.le_trans HB1.out.size hb2.size))
      have hLk := HLkk.out V hBV w1.heap.size B2 d2 (ho.below hbV)
      unfold sv at hLk
      have HLl := Lib.hid hLk
      have HBV := Lib.hid hBV
      have HVV := Lib.hid hV
      obtain ⟨z0, z1, z2, z3, z4, z5⟩ := hsV
      obtain ⟨s0, s1, s2⟩ := HX.out V hBV
      clear ho hb2 hbV hBV hLk hV y0 y1 y2 y3 v0 v1 v2
      go_wp2_with (rw [← HVV.out])
      refine HLl.out.mono ?_
      rintro e w3 ⟨rfl, hb3⟩
      unfold mv
      obtain ⟨p11, hp11⟩ : ∃ p, p = w3.heap.size := ⟨_, rfl⟩
      obtain ⟨V4, hV4⟩ : ∃ V, V = w3.alloc (.cells #[.int .u64 S.1, .int .u64 S.2] 70) := ⟨_, rfl⟩
      obtain ⟨hbV4, hmV4⟩ := MskL.mbox_world w3 S
      rw [← hV4] at hbV4 hmV4
      rw [← hp11] at hmV4
      have hB4 := below_tr (below_tr HBV.out hb3) hbV4
      have q0 := hmV4.cell0
      have q1 := hmV4.cell1
      obtain ⟨y0, y1, y2, y3⟩ := HP.out V4 hB4
      obtain ⟨v0, v1, v2⟩ := HX.out V4 hB4
      have HB4 := Lib.hid hB4
      have HV4 := Lib.hid hV4
      have HP11 := Lib.hid hp11
      clear hb3 hbV4 hmV4 hB4 hV4 hp11 z0 z1 z2 z3 z4 z5 s0 s1 s2
      go_wp2_with (rw [← HV4.out, ← HP11.out])
      refine (HScc.out V4 HB4.out).mono ?_
      rintro e w5 ⟨A5, c5, he, ho5, hb5⟩
      obtain ⟨n5, hn5⟩ : ∃ n5, n5 = RL.length := ⟨_, rfl⟩
      rw [← hn5] at he
      subst he
      have HF5 := Lib.hid (show GivesHE w RL R (.returned (.tuple #[.slice A5 n5 c5, .int .i64 R])) w5 from ⟨A5, c5, by rw [hn5], OwnH.mono ho5 (Nat.le_trans HB0.out.size HB4.out.size), HB0.out.trans ((HB4.out.trans (hb5.mono HB4.out.size)).mono HB0.out.size)⟩)
      clear ho5 hb5 hn5
      go_wp2
      go_ret2
      exact HF5.out
    · have HSdd := Lib.hid (fun (X : World) (hX : Below W0.heap.size W0 X) => HSd.out X hX hvr (fun x hx => by rw [(call x hx).2]; exact ⟨(call x hx).1, hd⟩) (by rw [HN.out]; exact c0))
      have hF : R = 151 := by rw [HE.out, if_pos h1, if_neg hd]
      have hRL : RL = [] := by rw [HL.out, if_neg (by rw [hF]; decide)]
      have HRL := Lib.hid hRL
      subst h1 hF
      clear hcp hok hca hce hNb hQ hK hvr c0 c6 call hd hRL
      go_enter Tryz.func9, Tryz.ntmps9
      go_wp2_with (rw [← HW0.out, ← HG.out])
      refine HRf.out.mono ?_
      rintro e w1 ⟨rfl, hb1⟩
      have HB1 := Lib.hid hb1
      obtain ⟨y0, y1, y2, y3⟩ := HP.out w1 hb1
      obtain ⟨v0, v1, v2⟩ := HX.out w1 hb1
      clear hb1 x0 x1 x2 x3 u0 u1 u2
      go_wp2_with fail
      refine (HSdd.out w1 HB1.out).mono ?_
      rintro e w2 ⟨rfl, hb2⟩
      unfold sv
      have HB2 := Lib.hid (HB1.out.trans (hb2.mono HB1.out.size))
      clear hb2
      go_wp2
      go_ret2
      rw [HRL.out]
      exact OwnH.nils (HB0.out.trans ((HB2.out.alloc HB2.out.size _).mono HB0.out.size)) 151
  · have hF : R = E1 := by rw [HE.out, if_neg h1]
    have hRL : RL = [] := by rw [HL.out, if_neg (by rw [hF]; exact h1)]
    subst hF
    have t1 : (R != 0) = true := by simpa using h1
    have t2 : (R == 0) = false := by simpa using h1
    have HRL := Lib.hid hRL
    clear h1 hRL
    go_enter Tryz.func9, Tryz.ntmps9
    go_wp2_with (rw [← HW0.out, ← HG.out])
    refine HRf.out.mono ?_
    rintro e w1 ⟨rfl, hb1⟩
    have HB1 := Lib.hid (HB0.out.trans (hb1.mono HB0.out.size))
    clear hb1
    go_wp2
    go_ret2
    rw [HRL.out]
    exact OwnH.nils HB1.out R
end Go.Proofs.YtcekgllahlhaaaaGreatDoor
