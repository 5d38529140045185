/-
  Four parts of hits, in one slice, and a selection beside them: what an append to one part, and what an offer, leave.
-/
import Derived.Test.YthobkakmjgmpcaaTopRows
namespace Go.Proofs.Ythobkakmjgmpcaa
open Go.RowKit Go.Shelf
set_option linter.unusedVariables false
set_option linter.unusedSimpArgs false
set_option maxRecDepth 100000

theorem first_top {k : Nat} (h : isKM k = true) (l : List HitM) : topB k (firstM k l) = true := by
  unfold topB
  rw [h, srtB_srt (first_srt k l)]
  have := first_length k l
  simp
  omega

def upd {α : Type} (f : Nat → α) (q : Nat) (x : α) : Nat → α := fun i => if i = q then x else f i
theorem upd_same {α : Type} (f : Nat → α) (q : Nat) (x : α) : upd f q x q = x := if_pos rfl
theorem upd_other {α : Type} (f : Nat → α) {q i : Nat} (x : α) (h : i ≠ q) : upd f q x i = f i := if_neg h

def cells4 (pA : Nat → Option Addr) (pc : Nat → Nat) (ps : Nat → List HitM) : List Value := [.slice (pA 0) (ps 0).length (pc 0), .slice (pA 1) (ps 1).length (pc 1), .slice (pA 2) (ps 2).length (pc 2), .slice (pA 3) (ps 3).length (pc 3)]
theorem cells4_get (pA : Nat → Option Addr) (pc : Nat → Nat) (ps : Nat → List HitM) {i : Nat} (hi : i < 4) : (cells4 pA pc ps)[i]? = some (.slice (pA i) (ps i).length (pc i)) := by
  match i, hi with
  | 0, _ => rfl
  | 1, _ => rfl
  | 2, _ => rfl
  | 3, _ => rfl
theorem cells4_set (pA : Nat → Option Addr) (pc : Nat → Nat) (ps : Nat → List HitM) {q : Nat} (hq : q < 4) (A : Option Addr) (c : Nat) (l : List HitM) :
    (cells4 pA pc ps).set q (.slice A l.length c) = cells4 (upd pA q A) (upd pc q c) (upd ps q l) := by
  match q, hq with
  | 0, _ => rfl
  | 1, _ => rfl
  | 2, _ => rfl
  | 3, _ => rfl
def all4 (ps : Nat → List HitM) : List HitM := ps 0 ++ (ps 1 ++ (ps 2 ++ ps 3))
theorem all4_upd (ps : Nat → List HitM) {q : Nat} (hq : q < 4) (h : HitM) : (all4 (upd ps q (ps q ++ [h]))).Perm (all4 ps ++ [h]) := by
  match q, hq with
  | 0, _ =>
    show ((ps 0 ++ [h]) ++ (ps 1 ++ (ps 2 ++ ps 3))).Perm _
    unfold all4
    rw [List.append_assoc, List.append_assoc]
    exact (List.perm_append_comm (l₁ := [h])).append_left _
  | 1, _ =>
    show (ps 0 ++ ((ps 1 ++ [h]) ++ (ps 2 ++ ps 3))).Perm _
    unfold all4
    simp only [List.append_assoc]
    exact ((List.perm_append_comm (l₁ := [h]) (l₂ := ps 2 ++ ps 3)).append_left _ |>.append_left _).trans (by simp)
  | 2, _ =>
    show (ps 0 ++ (ps 1 ++ ((ps 2 ++ [h]) ++ ps 3))).Perm _
    unfold all4
    simp only [List.append_assoc]
    exact ((List.perm_append_comm (l₁ := [h]) (l₂ := ps 3)).append_left _ |>.append_left _ |>.append_left _)
  | 3, _ =>
    show (ps 0 ++ (ps 1 ++ (ps 2 ++ (ps 3 ++ [h])))).Perm _
    unfold all4
    simp only [List.append_assoc]
    exact List.Perm.refl _

structure PartsI (B0 : Nat) (W : World) (P T : Nat) (pA : Nat → Option Addr) (pc : Nat → Nat) (ps : Nat → List HitM) (K : Int) (D : Option Addr) (d : Nat) (H : List HitM) : Prop where
  row : W.ownsRow B0 22 1 (.slice (some ⟨P, 0, none⟩) 4 4) 4 (cells4 pA pc ps)
  lowT : B0 ≤ T
  ne : T ≠ P
  box : W.heap[T]? = some (.cells #[.int .i64 K, .slice D H.length d] 38 (0, 0))
  hits : Hits W D d H
  far : ∀ g, blk D = some g → g < W.heap.size ∧ g ≠ P ∧ g ≠ T ∧ ∀ i, i < 4 → blk (pA i) ≠ some g
  el : ∀ i, i < 4 → W.ownsRow B0 32 2 (.slice (pA i) (ps i).length (pc i)) (ps i).length (flat (ps i))
  elP : ∀ i, i < 4 → blk (pA i) ≠ some P
  elT : ∀ i, i < 4 → blk (pA i) ≠ some T
  sep : ∀ i j, i < 4 → j < 4 → i ≠ j → ∀ g, blk (pA i) = some g → blk (pA j) ≠ some g

section
variable {B0 : Nat} {W W3 W6 : World} {P T : Nat} {pA : Nat → Option Addr} {pc : Nat → Nat} {ps : Nat → List HitM} {K : Int} {D : Option Addr} {d : Nat} {H : List HitM}
theorem PartsI.lowP (h : PartsI B0 W P T pA pc ps K D d H) : B0 ≤ P ∧ P < W.heap.size := h.row.lt P rfl
theorem PartsI.ltT (h : PartsI B0 W P T pA pc ps K D d H) : T < W.heap.size := lt_of_block h.box
theorem PartsI.turn (h : PartsI B0 W P T pA pc ps K D d H) {W' : World} {S : Nat → Prop} (ht : Turn S W W') (hS : ∀ i, S i → W.heap.size ≤ i) : PartsI B0 W' P T pA pc ps K D d H := by
  have hn : ∀ i, i < W.heap.size → ¬ S i := fun i hi e => by have := hS i e; omega
  refine ⟨row_turn h.row ht (fun i hi => hn i ?_), h.lowT, h.ne, (ht.block T h.ltT (hn T h.ltT)).trans h.box, h.hits.keepB ht.size (fun b o e _ => ?_), fun g hg => ?_, fun i hi => row_turn (h.el i hi) ht (fun g hg => hn g ?_), h.elP, h.elT, h.sep⟩
  · have : i = P := by injection hi with hi; exact hi.symm
    rw [this]; exact h.lowP.2
  · have := (h.far b (by rw [e]; rfl)).1
    exact ht.block b this (hn b this)
  · have := h.far g hg
    exact ⟨Nat.lt_of_lt_of_le this.1 ht.size, this.2⟩
  · exact ((h.el i hi).lt g hg).2
theorem PartsI.below (h : PartsI B0 W P T pA pc ps K D d H) {W' : World} (hb : Below W.heap.size W W') : PartsI B0 W' P T pA pc ps K D d H := h.turn (S := fun _ => False) (Turn.of_below hb) (by simp)

/-- One hit more in one part. -/
theorem PartsI.app (h : PartsI B0 W P T pA pc ps K D d H) {q : Nat} (hq : q < 4) {x : HitM} {A : Option Addr} {c n : Nat} (hn : (ps q).length = n)
    (ht : Turn (fun i => blk (pA q) = some i) W W3) (ho : W3.ownsRow B0 32 2 (.slice A (n + 1) c) (n + 1) (flat (ps q) ++ flat [x]))
    (hl : ∀ g, blk A = some g → blk (pA q) = some g ∨ W.heap.size ≤ g) :
    PartsI B0 (W3.setCell ⟨P, q, none⟩ (.slice A (n + 1) c)) P T (upd pA q A) (upd pc q c) (upd ps q (ps q ++ [x])) K D d H := by
  have hlen : (ps q ++ [x]).length = n + 1 := by rw [List.length_append, hn]; rfl
  have rP : W3.ownsRow B0 22 1 (.slice (some ⟨P, 0, none⟩) 4 4) 4 (cells4 pA pc ps) := row_turn h.row ht (fun i hi e => h.elP q hq (by
    have : i = P := by injection hi with hi; exact hi.symm
    rw [this] at e; exact e))
  have s1 := (rP.stored q (.slice A (n + 1) c)).1
  have tS : Turn (fun i => blk (pA q) = some i ∨ P = i) W (W3.setCell ⟨P, q, none⟩ (.slice A (n + 1) c)) := turn_set (ht.mono fun i e => .inl e) (.inl (.inr rfl)) _
  have tP : Turn (fun i => P = i) W3 (W3.setCell ⟨P, q, none⟩ (.slice A (n + 1) c)) := turn_set (S := fun i => P = i) (Turn.refl _ W3) (.inl rfl) _
  have hAP : blk A ≠ some P := fun e => (hl P e).elim (h.elP q hq) (fun hh => by have := h.lowP.2; omega)
  have hAT : blk A ≠ some T := fun e => (hl T e).elim (h.elT q hq) (fun hh => by have := h.ltT; omega)
  refine ⟨?_, h.lowT, h.ne, (tS.block T h.ltT (fun e => e.elim (h.elT q hq) (fun e => h.ne e.symm))).trans h.box, h.hits.keepB tS.size (fun b o e _ => ?_), fun g hg => ?_, fun i hi => ?_, fun i hi => ?_, fun i hi => ?_, fun i j hi hj hij g hg => ?_⟩
  · rw [← hlen, cells4_set pA pc ps hq] at s1
    rw [← hlen]
    exact s1
  · have := h.far b (by rw [e]; rfl)
    exact tS.block b this.1 (fun hS => hS.elim (this.2.2.2 q hq) (fun e => this.2.1 e.symm))
  · have := h.far g hg
    refine ⟨Nat.lt_of_lt_of_le this.1 tS.size, this.2.1, this.2.2.1, fun i hi => ?_⟩
    by_cases e : i = q
    · subst e
      rw [upd_same]
      exact fun hA => (hl g hA).elim (this.2.2.2 i hi) (fun hh => by omega)
    · rw [upd_other _ _ e]
      exact this.2.2.2 i hi
  · by_cases e : i = q
    · subst e
      rw [upd_same, upd_same, upd_same, hlen, flat_append]
      exact row_turn ho tP (fun g hg e => by rw [own_blk] at hg; rw [← e] at hg; exact hAP hg)
    · rw [upd_other _ _ e, upd_other _ _ e, upd_other _ _ e]
      refine row_turn (h.el i hi) tS (fun g hg hS => ?_)
      rw [own_blk] at hg
      exact hS.elim (fun hS => h.sep i q hi hq e g hg hS) (fun hS => by rw [← hS] at hg; exact h.elP i hi hg)
  · by_cases e : i = q
    · subst e; rw [upd_same]; exact hAP
    · rw [upd_other _ _ e]; exact h.elP i hi
  · by_cases e : i = q
    · subst e; rw [upd_same]; exact hAT
    · rw [upd_other _ _ e]; exact h.elT i hi
  · have hold : ∀ m, m < 4 → ∀ g, blk (pA m) = some g → g < W.heap.size := fun m hm g hg => ((h.el m hm).lt g (by rw [own_blk]; exact hg)).2
    by_cases e : i = q
    · subst e
      have ej : j ≠ i := fun e => hij e.symm
      rw [upd_same] at hg
      rw [upd_other _ _ ej]
      exact fun hgj => (hl g hg).elim (fun h1 => h.sep i j hi hj hij g h1 hgj) (fun h1 => by have := hold j hj g hgj; omega)
    · rw [upd_other _ _ e] at hg
      by_cases ej : j = q
      · subst ej
        rw [upd_same]
        exact fun hgj => (hl g hgj).elim (fun h1 => h.sep i j hi hj hij g hg h1) (fun h1 => by have := hold i hi g hg; omega)
      · rw [upd_other _ _ ej]
        exact h.sep i j hi hj hij g hg

/-- Another selection. -/
theorem PartsI.set (h : PartsI B0 W P T pA pc ps K D d H) (hb : Below W.heap.size W W6) {base : Nat} (hbase : W.heap.size ≤ base) {D' : Option Addr} {d' m : Nat} {Y : List HitM} (hY : Y.length = m)
    (ho : W6.ownsRow base 32 2 (.slice D' m d') m (flat Y)) :
    PartsI B0 ((W6.setCell ⟨T, 0, none⟩ (.int .i64 K)).setCell ⟨T, 1, none⟩ (.slice D' m d')) P T pA pc ps K D' d' Y := by
  have h6 := h.below hb
  obtain ⟨V, hV⟩ : ∃ V, V = (W6.setCell ⟨T, 0, none⟩ (.int .i64 K)).setCell ⟨T, 1, none⟩ (.slice D' m d') := ⟨_, rfl⟩
  have tT : Turn (fun i => T = i) W6 V := by rw [hV]; exact turn_set (S := fun i => T = i) (turn_set (S := fun i => T = i) (Turn.refl _ W6) (.inl rfl) _) (.inl rfl) _
  have hbx : V.heap[T]? = some (.cells #[.int .i64 K, .slice D' m d'] 38 (0, 0)) := by rw [hV]; exact set2 h6.box _ _
  rw [← hV]
  subst hY
  have hD : ∀ g, blk D' = some g → W.heap.size ≤ g ∧ g < W6.heap.size := fun g hg => by
    have := ho.lt g (by rw [own_blk]; exact hg)
    omega
  refine ⟨row_turn h6.row tT (fun i hi e => ?_), h.lowT, h.ne, hbx, (Hits.ofRow ho).keepB tT.size (fun b o e _ => ?_), fun g hg => ?_, fun i hi => row_turn (h6.el i hi) tT (fun g hg e => ?_), h.elP, h.elT, h.sep⟩
  · have : i = P := by injection hi with hi; exact hi.symm
    exact h.ne (e.trans this)
  · have := hD b (by rw [e]; rfl)
    exact tT.block b this.2 (fun e => by have := h.ltT; omega)
  · have := hD g hg
    refine ⟨Nat.lt_of_lt_of_le this.2 tT.size, fun e => ?_, fun e => ?_, fun i hi e => ?_⟩
    · have := h.lowP.2; omega
    · have := h.ltT; omega
    · have := ((h.el i hi).lt g (by rw [own_blk]; exact e)).2; omega
  · rw [own_blk, ← e] at hg
    exact h.elT i hi hg
theorem PartsI.drew (h : PartsI B0 W P T pA pc ps K D d H) : PartsI B0 W.drew P T pA pc ps K D d H := h.below (below_drew (Below.refl W.heap.size W))
end

/-- Rows of hits, laid one by one. -/
structure RowsI (B0 : Nat) (W : World) (rws : List (List HitM)) (A1 : Option Addr) (c1 : Nat) (vs : List Value) : Prop where
  rows : W.ownsRow B0 22 1 (.slice A1 rws.length c1) rws.length vs
  el : ∀ (i : Nat) (x : List HitM), rws[i]? = some x → ∃ (B : Option Addr) (cb : Nat), vs[i]? = some (Value.slice B x.length cb) ∧ Hits W B cb x ∧ ∀ g, blk B = some g → g < W.heap.size ∧ blk A1 ≠ some g
theorem RowsI.start (B0 : Nat) (W : World) : RowsI B0 W [] none 0 [] := ⟨World.ownsRow_nil _ _ _ _, fun i x h => by simp at h⟩
theorem RowsI.rows_in {B0 : Nat} {W : World} {rws : List (List HitM)} {A1 : Option Addr} {c1 : Nat} {vs : List Value} (h : RowsI B0 W rws A1 c1 vs) : Rows W A1 c1 rws := by
  have hr := h.rows
  rcases hr.2 with ⟨e, h0⟩ | ⟨g, cap, cur, e, hg, hh, hnc, hcm, hsz, hcs⟩
  · injection e with e1 _ e3
    have : rws = [] := List.eq_nil_of_length_eq_zero h0
    subst this e1 e3
    exact Rows.nil _
  · injection e with e1 _ e3
    subst e1
    subst e3
    refine ⟨hnc, by unfold maxLen at hcm; omega, fun hp => ⟨g, 0, rfl, lt_of_block hh, fun i x hx => ?_⟩⟩
    obtain ⟨B, cb, e1, e2, _⟩ := h.el i x hx
    have hi : i < rws.length := (List.getElem?_eq_some_iff.1 hx).1
    rw [Nat.zero_add]
    exact ⟨B, cb, (hr.cellAt i (by omega)).trans e1, e2⟩
theorem RowsI.step {B0 : Nat} {wr w2 W3 : World} {rws : List (List HitM)} {X : List HitM} {A1 A1' B : Option Addr} {c1 c1' cb n : Nat} {vs : List Value} (h : RowsI B0 wr rws A1 c1 vs) (h0 : B0 ≤ wr.heap.size) (hn : rws.length = n)
    (o2 : w2.ownsRow wr.heap.size 32 2 (.slice B X.length cb) X.length (flat X)) (b2 : Below wr.heap.size wr w2)
    (o3 : W3.ownsRow B0 22 1 (.slice A1' (n + 1) c1') (n + 1) (vs ++ [.slice B X.length cb])) (g3 : (w2.alloc (.cells #[.slice B X.length cb] 22)).grownBy W3 (blk A1))
    (l3 : blk A1' = blk A1 ∨ blk A1' = some (w2.alloc (.cells #[.slice B X.length cb] 22)).heap.size) : RowsI B0 W3 (rws ++ [X]) A1' c1' (vs ++ [.slice B X.length cb]) ∧ Below B0 wr W3 := by
  subst hn
  have hlen : (rws ++ [X]).length = rws.length + 1 := by simp
  have hvl : vs.length = rws.length := by have := h.rows.1; omega
  have z2a : (w2.alloc (.cells #[.slice B X.length cb] 22)).heap.size = w2.heap.size + 1 := World.size_alloc _ _
  have z2 := b2.size
  have t3 := two_turn3 b2 g3
  have hA1 : ∀ g, blk A1 = some g → B0 ≤ g ∧ g < wr.heap.size := fun g hg => blk_lt h.rows hg
  have hB : ∀ g, blk B = some g → wr.heap.size ≤ g ∧ g < w2.heap.size := fun g hg => blk_lt o2 hg
  have tB : Turn (fun i => blk A1 = some i) w2 W3 := ((Turn.refl (fun i => blk A1 = some i) w2).alloc (.cells #[.slice B X.length cb] 22)).trans (S' := fun i => blk A1 = some i) (Turn.of_grown g3 (fun i hi => .inl hi)) (fun i hi => .inl hi)
  rw [z2a] at l3
  have n1 : ∀ g, blk A1' = some g → blk A1 = some g ∨ g = w2.heap.size + 1 := fun g hg => l3.elim (fun e => .inl (by rw [← e]; exact hg)) (fun e => .inr (by rw [e] at hg; injection hg with hg; exact hg.symm))
  refine ⟨⟨by rw [hlen]; exact o3, fun i x hx => ?_⟩, t3.below h0 (fun i e => (hA1 i e).1)⟩
  by_cases hi : i < rws.length
  · rw [List.getElem?_append_left hi] at hx
    obtain ⟨B', cb', e1, e2, e3⟩ := h.el i x hx
    refine ⟨B', cb', by rw [List.getElem?_append_left (by omega)]; exact e1, e2.keepB t3.size (fun b o e _ => ?_), fun g hg => ?_⟩
    · have := e3 b (by rw [e]; rfl)
      exact t3.block b this.1 this.2
    · have := e3 g hg
      exact ⟨Nat.lt_of_lt_of_le this.1 t3.size, fun e => (n1 g e).elim this.2 (fun e => by omega)⟩
  · have hi2 : i = rws.length := by have := (List.getElem?_eq_some_iff.1 hx).1; simp at this; omega
    subst hi2
    have hxX : X = x := by simpa using hx
    subst hxX
    refine ⟨B, cb, by rw [List.getElem?_append_right (by omega), hvl]; simp, (Hits.ofRow o2).keepB tB.size (fun b o e _ => ?_), fun g hg => ?_⟩
    · have hb := hB b (by rw [e]; rfl)
      exact tB.block b hb.2 (fun hS => by have := (hA1 b hS).2; omega)
    · have hb := hB g hg
      exact ⟨Nat.lt_of_lt_of_le hb.2 tB.size, fun e => (n1 g e).elim (fun h => by have := (hA1 g h).2; omega) (fun h => by omega)⟩

/-- The first ones of the first ones of each part. -/
theorem first_flat (k : Nat) (rws : List (List HitM)) : firstM k (rws.map (firstM k)).flatten = firstM k rws.flatten := by
  induction rws with
  | nil => rfl
  | cons x rws ih =>
    simp only [List.map_cons, List.flatten_cons]
    rw [first_parts, first_perm k List.perm_append_comm, ← first_parts, ih, first_parts, first_perm k List.perm_append_comm]
theorem first_offer (k : Nat) (l : List HitM) (h : HitM) : firstM k (firstM k l ++ [h]) = firstM k (l ++ [h]) := first_parts k l [h]

/-- What stands of four parts so far. -/
def rows4 (ps : Nat → List HitM) (k j : Nat) : List (List HitM) := (([ps 0, ps 1, ps 2, ps 3] : List (List HitM)).take j).map (firstM k)
theorem rows4_len (ps : Nat → List HitM) (k : Nat) {j : Nat} (hj : j ≤ 4) : (rows4 ps k j).length = j := by simp [rows4]; omega
theorem rows4_snoc (ps : Nat → List HitM) (k : Nat) {j : Nat} (hj : j < 4) : rows4 ps k (j + 1) = rows4 ps k j ++ [firstM k (ps j)] := by
  match j, hj with
  | 0, _ => rfl
  | 1, _ => rfl
  | 2, _ => rfl
  | 3, _ => rfl
theorem rows4_first (ps : Nat → List HitM) (k : Nat) {l : List HitM} (h : (all4 ps).Perm l) : firstM k (rows4 ps k 4).flatten = firstM k l := by
  unfold rows4
  rw [show ([ps 0, ps 1, ps 2, ps 3] : List (List HitM)).take 4 = [ps 0, ps 1, ps 2, ps 3] from rfl, first_flat]
  refine first_perm k (List.Perm.trans ?_ h)
  show (ps 0 ++ (ps 1 ++ (ps 2 ++ (ps 3 ++ [])))).Perm _
  rw [List.append_nil]
  exact List.Perm.refl _
theorem rows4_sum (ps : Nat → List HitM) {k : Nat} (hk : k ≤ 16) : sumL (rows4 ps k 4) ≤ 64 := by
  show (firstM k (ps 0) ++ (firstM k (ps 1) ++ (firstM k (ps 2) ++ (firstM k (ps 3) ++ [])))).length ≤ 64
  have h0 := first_length k (ps 0)
  have h1 := first_length k (ps 1)
  have h2 := first_length k (ps 2)
  have h3 := first_length k (ps 3)
  simp only [List.length_append, List.length_nil]
  omega
theorem new_k {k : Nat} (h : isKM k = true) (w : World) : Calls Try.prog 22 #[.int .i64 k] w fun e w' => e = .returned (.tuple #[.agg #[.int .i64 k, .slice none 0 0], .int .i64 0]) ∧ Below w.heap.size w w' := by
  have := new_any k w
  rw [h, if_pos rfl, if_pos rfl] at this
  exact this
theorem check_k {k : Nat} (h : isKM k = true) (A : Option Addr) (c : Nat) (l Y : List HitM) (hY : firstM k l = Y) (w : World) (hh : Hits w A c Y) :
    Calls Try.prog 18 #[.agg #[.int .i64 k, .slice A Y.length c]] w fun e w' => e = .returned (.int .i64 0) ∧ Below w.heap.size w w' := by
  have := check_any k A c Y w hh
  rw [topE_yes (by rw [← hY]; exact first_top h l)] at this
  exact this
theorem offer_k {k : Nat} (h : isKM k = true) (A A' : Option Addr) (c c' : Nat) (l : List HitM) (x : HitM) (w : World) (hh : Hits w A c (firstM k l)) (hx : Hits w A' c' [x]) :
    Calls Try.prog 20 #[.agg #[.int .i64 k, .slice A (firstM k l).length c], .slice A' 1 c'] w fun e w' => AnsT w e w' k (firstM k (l ++ [x])) 0 := by
  have := offer_any k A A' c c' (firstM k l) [x] w hh hx (by simp)
  obtain ⟨h1, h2, h3⟩ := off_ok (l := [x]) (first_top h l) (by simp)
  rw [h1, h2, h3, Int.toNat_natCast, first_offer] at this
  exact this
theorem merge_k {k : Nat} (h : isKM k = true) (A : Option Addr) (c : Nat) (ls : List (List HitM)) (w : World) (hh : Rows w A c ls) (hb : sumL ls ≤ 2000) :
    Calls Try.prog 16 #[.int .i64 k, .slice A ls.length c] w fun e w' => Ans w e w' (firstM k ls.flatten) 0 := by
  have := merge_any k A c ls w hh (by omega)
  obtain ⟨h1, h2⟩ := merge_ok (ls := ls) h (by omega)
  rw [h1, h2, Int.toNat_natCast] at this
  exact this
@[go_sem] theorem make4 (w : World) : (Instr.makeSlice 34 (.int .i64 4) (.int .i64 4)).run Try.prog w = .ok (.slice (some ⟨w.heap.size, 0, none⟩) 4 4) (w.alloc (.cells #[.slice none 0 0, .slice none 0 0, .slice none 0 0, .slice none 0 0] 22)) :=
  by kernel_rfl
theorem parts_start (W w5 : World) (k : Int) (hb : Below (W.heap.size + 1) (W.alloc (.cells #[.slice none 0 0, .slice none 0 0, .slice none 0 0, .slice none 0 0] 22)) w5) :
    PartsI W.heap.size (w5.alloc (.cells #[.int .i64 k, .slice none 0 0] 38)) W.heap.size w5.heap.size (fun _ => none) (fun _ => 0) (fun _ => []) k none 0 [] := by
  have hz : (W.alloc (.cells #[.slice none 0 0, .slice none 0 0, .slice none 0 0, .slice none 0 0] 22)).heap.size = W.heap.size + 1 := World.size_alloc _ _
  have hz5 := hb.size
  have h0 := World.ownsRow_lit (base := W.heap.size) (e := 22) (size := 1) W #[.slice none 0 0, .slice none 0 0, .slice none 0 0, .slice none 0 0] 4 (Nat.le_refl _) (by unfold maxLen; omega) rfl
  refine ⟨(row_turn h0 (S := fun _ => False) (Turn.of_below (hz ▸ hb)) (by simp)).alloc _, by omega, by omega, heap_alloc_new _ _, Hits.nil _, fun g hg => by (cases hg), fun i hi => World.ownsRow_nil _ _ _ _, fun i hi => by (intro e; cases e), fun i hi => by (intro e; cases e), fun i j hi hj hij g hg => by (cases hg)⟩
/-- An append to one part: what the store that follows wants, and what it leaves. -/
theorem parts_more {W1 W2 W3 : World} {P T q m : Nat} {pA : Nat → Option Addr} {pc : Nat → Nat} {ps : Nat → List HitM} {K : Int} {D : Option Addr} {d : Nat} {H : List HitM} {x : HitM} {A : Option Addr} {c : Nat}
    (h : PartsI P W1 P T pA pc ps K D d H) (hq : q < 4) (hm : (ps q).length = m) (t2 : Turn (fun _ => False) W1 W2) (hg : W2.grownBy W3 (blk (pA q)))
    (ho : W3.ownsRow P 32 2 (.slice A (m + 1) c) (m + 1) (flat (ps q) ++ flat [x])) (hl : blk A = blk (pA q) ∨ blk A = some W2.heap.size) :
    PartsI P (W3.setCell ⟨P, q, none⟩ (.slice A (m + 1) c)) P T (upd pA q A) (upd pc q c) (upd ps q (ps q ++ [x])) K D d H ∧ W3.cell? ⟨P, q, none⟩ = some (.slice (pA q) m (pc q)) ∧ W3.frozen? ⟨P, q, none⟩ = false ∧ Turn (fun i => blk (pA q) = some i ∨ P = i) W1 (W3.setCell ⟨P, q, none⟩ (.slice A (m + 1) c)) := by
  have ht : Turn (fun i => blk (pA q) = some i) W1 W3 := (t2.mono (fun i e => e.elim)).trans (S' := fun i => blk (pA q) = some i) (Turn.of_grown hg (fun i hi => .inl hi)) (fun i hi => .inl hi)
  have rP : W3.ownsRow P 22 1 (.slice (some ⟨P, 0, none⟩) 4 4) 4 (cells4 pA pc ps) := row_turn h.row ht (fun i hi e => h.elP q hq (by
    have : i = P := by injection hi with hi; exact hi.symm
    rw [this] at e; exact e))
  refine ⟨h.app hq hm ht ho (fun g hg => hl.elim (fun e => .inl (by rw [← e]; exact hg)) (fun e => .inr (by rw [e] at hg; injection hg with hg; rw [← hg]; exact t2.size))), ?_, rP.frozenAt q, turn_set (ht.mono fun i e => .inl e) (.inl (.inr rfl)) _⟩
  rw [rP.cellAt q (by omega), cells4_get pA pc ps hq, hm]
theorem PartsI.cell {W : World} {B0 P T : Nat} {pA : Nat → Option Addr} {pc : Nat → Nat} {ps : Nat → List HitM} {K : Int} {D : Option Addr} {d : Nat} {H : List HitM} (h : PartsI B0 W P T pA pc ps K D d H) {q : Nat} (hq : q < 4) :
    W.cell? ⟨P, q, none⟩ = some (.slice (pA q) (ps q).length (pc q)) := (h.row.cellAt q (by omega)).trans (cells4_get pA pc ps hq)
theorem umod4 (a : Int) : ∃ q : Nat, q < 4 ∧ (IntKind.u64.wrap a).tmod 4 = q ∧ (IntKind.u64.wrap a) % 4 = q ∧ IntKind.u64.wrap (q : Int) = q ∧ (0 : Int) ≤ q ∧ (q : Int) < 4 := by
  have h0 : 0 ≤ IntKind.u64.wrap a := by rw [IntKind.wrap_u64]; omega
  have e : (IntKind.u64.wrap a).tmod 4 = (IntKind.u64.wrap a) % 4 := Int.tmod_eq_emod_of_nonneg h0
  refine ⟨((IntKind.u64.wrap a) % 4).toNat, by omega, by rw [e]; omega, by omega, ?_, by omega, by omega⟩
  rw [IntKind.wrap_u64]; omega
end Go.Proofs.Ythobkakmjgmpcaa
