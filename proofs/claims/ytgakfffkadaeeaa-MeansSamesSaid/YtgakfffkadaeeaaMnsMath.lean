/-
  What the document says of centroids, as functions; and what follows. No program is named here.
-/
import Derived.Test.YtgakfffkadaeeaaVecRefMean
namespace Go.Proofs.Ytgakfffkadaeeaa
open Go.RowKit
set_option linter.unusedVariables false
set_option linter.unusedSimpArgs false
set_option maxRecDepth 100000

/-! ### what may be -/
def drawB (x : Int) : Bool := decide (0 ≤ x) && decide (x ≤ 1073741824)
def drawsB (d : List Int) : Bool := decide (1 ≤ d.length) && decide (d.length ≤ 6) && d.all drawB
/-- Why vectors are not to be trained by. -/
def trainE (l : List (List Int)) : Int := if l.length = 0 then 4 else if 96 < l.length then 3 else 0
def vectE (l : List (List Int)) : Int := if trainE l ≠ 0 then trainE l else allM l
def countE (c : List (List Int)) : Int := if c.length = 0 ∨ 6 < c.length then 2 else 0
def startE (l : List (List Int)) (d : List Int) : Int := if drawsB d = true then vectE l else 2
def partsE (c l : List (List Int)) : Int := if countE c ≠ 0 then countE c else if trainE l ≠ 0 then trainE l else allM (c ++ l)
def assignE (c : List (List Int)) (v : List Int) : Int := if countE c ≠ 0 then countE c else allM (c ++ [v])

/-- All may be, and are of this dimension. -/
def Alike (n : Nat) (l : List (List Int)) : Prop := ∀ x ∈ l, right x = true ∧ x.length = n
theorem Alike.append {n : Nat} {a b : List (List Int)} : Alike n (a ++ b) ↔ Alike n a ∧ Alike n b :=
  ⟨fun h => ⟨fun x hx => h x (List.mem_append_left _ hx), fun x hx => h x (List.mem_append_right _ hx)⟩, fun h x hx => (List.mem_append.1 hx).elim (h.1 x) (h.2 x)⟩
theorem Alike.sub {n : Nat} {a b : List (List Int)} (h : Alike n a) (hs : ∀ x ∈ b, x ∈ a) : Alike n b := fun x hx => h x (hs x hx)
theorem allM_ok {l : List (List Int)} (h : allM l = 0) : Alike (l.getD 0 []).length l := fun x hx => by
  have := refuse_ok h x hx
  exact ⟨this.1, by omega⟩
theorem alike_all {n : Nat} {l : List (List Int)} (h : Alike n l) : allM l = 0 := by
  unfold allM refuseM
  have h1 : l.all right = true := List.all_eq_true.2 fun x hx => (h x hx).1
  rw [if_pos h1]
  rcases l with _ | ⟨y, l⟩
  · rfl
  · have h0 := (h y (by simp)).2
    rw [if_pos]
    rw [List.all_eq_true]
    intro x hx
    have := (h x hx).2
    simp only [List.getD_cons_zero, decide_eq_true_eq]
    omega
theorem alike_iff (l : List (List Int)) : allM l = 0 ↔ ∃ n, Alike n l := ⟨fun h => ⟨_, allM_ok h⟩, fun ⟨n, h⟩ => alike_all h⟩
theorem all_cases (l : List (List Int)) : allM l = 0 ∨ allM l = 150 ∨ allM l = 151 := refuse_set _ _
theorem train_cases (l : List (List Int)) : trainE l = 0 ∨ trainE l = 4 ∨ trainE l = 3 := by unfold trainE; split <;> (try split) <;> simp
theorem train_ok {l : List (List Int)} (h : trainE l = 0) : 0 < l.length ∧ l.length ≤ 96 := by
  unfold trainE at h
  split at h
  · omega
  · split at h <;> omega
theorem count_ok {c : List (List Int)} (h : countE c = 0) : 0 < c.length ∧ c.length ≤ 6 := by
  unfold countE at h
  split at h
  · omega
  · omega
theorem count_of {c : List (List Int)} (h : 0 < c.length) (h6 : c.length ≤ 6) : countE c = 0 := by unfold countE; rw [if_neg (by omega)]
theorem train_of {l : List (List Int)} (h : 0 < l.length) (h6 : l.length ≤ 96) : trainE l = 0 := by unfold trainE; rw [if_neg (by omega), if_neg (by omega)]
theorem vect_ok {l : List (List Int)} (h : vectE l = 0) : (0 < l.length ∧ l.length ≤ 96) ∧ allM l = 0 := by
  unfold vectE at h
  split at h
  · rename_i hh; exact absurd h hh
  · rename_i hh; exact ⟨train_ok (by omega), h⟩
theorem parts_ok {c l : List (List Int)} (h : partsE c l = 0) : (0 < c.length ∧ c.length ≤ 6) ∧ (0 < l.length ∧ l.length ≤ 96) ∧ allM (c ++ l) = 0 := by
  unfold partsE at h
  split at h
  · rename_i hh; exact absurd h hh
  · rename_i h1
    split at h
    · rename_i hh; exact absurd h hh
    · rename_i h2; exact ⟨count_ok (by omega), train_ok (by omega), h⟩
theorem parts_of {c l : List (List Int)} {n : Nat} (hc : 0 < c.length) (h6 : c.length ≤ 6) (hl : 0 < l.length) (h96 : l.length ≤ 96) (h1 : Alike n c) (h2 : Alike n l) : partsE c l = 0 := by
  unfold partsE
  rw [count_of hc h6, train_of hl h96]
  simp only [ne_eq, not_true_eq_false, if_false]
  exact alike_all (Alike.append.2 ⟨h1, h2⟩)
theorem start_ok {l : List (List Int)} {d : List Int} (h : startE l d = 0) : drawsB d = true ∧ vectE l = 0 := by
  unfold startE at h
  split at h
  · rename_i hh; exact ⟨hh, h⟩
  · omega
theorem draws_ok {d : List Int} (h : drawsB d = true) : 1 ≤ d.length ∧ d.length ≤ 6 ∧ ∀ x ∈ d, 0 ≤ x ∧ x ≤ 1073741824 := by
  unfold drawsB at h
  simp only [Bool.and_eq_true, decide_eq_true_eq, List.all_eq_true] at h
  exact ⟨h.1.1, h.1.2, fun x hx => by have := h.2 x hx; unfold drawB at this; simpa using this⟩

/-! ### the functions -/
/-- The first centroids. -/
def startM (l : List (List Int)) (d : List Int) : List (List Int) := d.map fun x => l.getD (x.toNat % l.length) []
def partsM (c l : List (List Int)) : List Nat := l.map (nearM c)
/-- Those whose centroid stands at j. -/
def ownM (c l : List (List Int)) (j : Nat) : List (List Int) := l.filter fun v => decide (nearM c v = j)
def stepM (c l : List (List Int)) (j : Nat) : List Int := if (ownM c l j).length = 0 then c.getD j [] else meanM (ownM c l j)
def roundM (c l : List (List Int)) : List (List Int) := (List.range c.length).map (stepM c l)
def roundsM (l : List (List Int)) : Nat → List (List Int) → List (List Int)
  | 0, c => c
  | k + 1, c => roundM (roundsM l k c) l
def trainM (l : List (List Int)) (d : List Int) : List (List Int) := roundsM l 4 (startM l d)

theorem start_length (l : List (List Int)) (d : List Int) : (startM l d).length = d.length := by simp [startM]
theorem round_length (c l : List (List Int)) : (roundM c l).length = c.length := by simp [roundM]
theorem rounds_length (l : List (List Int)) (k : Nat) (c : List (List Int)) : (roundsM l k c).length = c.length := by
  induction k with
  | zero => rfl
  | succ k ih => show (roundM (roundsM l k c) l).length = _; rw [round_length, ih]
theorem getD_mem {l : List (List Int)} {i : Nat} (h : i < l.length) : l.getD i [] ∈ l := by
  have : l.getD i [] = l[i] := by simp [List.getD, List.getElem?_eq_getElem h]
  rw [this]; exact List.getElem_mem h
theorem start_mem {l : List (List Int)} (h : 0 < l.length) (d : List Int) : ∀ x ∈ startM l d, x ∈ l := by
  intro x hx
  obtain ⟨y, _, rfl⟩ := List.mem_map.1 hx
  exact getD_mem (Nat.mod_lt _ h)
theorem own_mem (c l : List (List Int)) (j : Nat) : ∀ x ∈ ownM c l j, x ∈ l := fun x hx => (List.mem_filter.1 hx).1

/-! ### the mean -/
theorem mean_ok_of {n : Nat} {l : List (List Int)} (h : Alike n l) (h0 : l.length ≠ 0) : meanE l = 0 := by
  unfold meanE
  rw [if_neg h0]
  exact alike_all h
theorem mean_len {n : Nat} {l : List (List Int)} (h : Alike n l) (h0 : l.length ≠ 0) : (meanM l).length = n := by
  unfold meanM
  simp only [List.length_map, List.length_range]
  exact (h _ (getD_mem (by omega))).2
theorem col_betw (l : List (List Int)) (i : Nat) (lo hi : Int) (h0 : 0 < l.length) (h : ∀ x ∈ l, lo ≤ x.getD i 0 ∧ x.getD i 0 ≤ hi) : lo ≤ colM l i / (l.length : Int) ∧ colM l i / (l.length : Int) ≤ hi := by
  have key : ∀ (l : List (List Int)), (∀ x ∈ l, lo ≤ x.getD i 0 ∧ x.getD i 0 ≤ hi) → lo * (l.length : Int) ≤ colM l i ∧ colM l i ≤ hi * (l.length : Int) := by
    intro l
    induction l with
    | nil => intro _; simp [colM]
    | cons x l ih =>
      intro h
      have h1 := ih (fun y hy => h y (by simp [hy]))
      have h2 := h x (by simp)
      have e : colM (x :: l) i = x.getD i 0 + colM l i := by simp [colM]
      rw [e, List.length_cons, Int.natCast_succ, Int.mul_add, Int.mul_add]
      omega
  obtain ⟨h1, h2⟩ := key l h
  have hp : (0 : Int) < (l.length : Int) := by omega
  refine ⟨(Int.le_ediv_iff_mul_le hp).2 h1, ?_⟩
  have := (Int.ediv_lt_iff_lt_mul hp (a := colM l i) (b := hi + 1)).2 (by rw [Int.add_mul]; omega)
  omega
theorem mean_at {n : Nat} {l : List (List Int)} (h : Alike n l) (h0 : l.length ≠ 0) {i : Nat} (hi : i < n) : (meanM l).getD i 0 = colM l i / (l.length : Int) := by
  have hn : (l.getD 0 []).length = n := (h _ (getD_mem (by omega))).2
  unfold meanM
  rw [hn]
  simp [List.getD, List.getElem?_map, List.getElem?_range hi]
theorem alike_comp {n : Nat} {l : List (List Int)} (h : Alike n l) {x : List Int} (hx : x ∈ l) {i : Nat} (hi : i < n) : -1073741823 ≤ x.getD i 0 ∧ x.getD i 0 ≤ 1073741823 := by
  obtain ⟨h1, h2⟩ := h x hx
  have : x.getD i 0 = x[i]'(by omega) := by simp [List.getD, List.getElem?_eq_getElem (show i < x.length by omega)]
  rw [this]
  exact right_comp h1 _ (List.getElem_mem _)
theorem mean_alike {n : Nat} {l : List (List Int)} (h : Alike n l) (h0 : l.length ≠ 0) : right (meanM l) = true ∧ (meanM l).length = n := by
  have hl := mean_len h h0
  refine ⟨?_, hl⟩
  have hn := h _ (getD_mem (show 0 < l.length by omega))
  have hr := right_len hn.1
  unfold right
  simp only [Bool.and_eq_true, decide_eq_true_eq, List.all_eq_true]
  refine ⟨⟨by omega, by omega⟩, fun x hx => ?_⟩
  obtain ⟨i, hi, rfl⟩ := List.getElem_of_mem hx
  have e : (meanM l)[i] = (meanM l).getD i 0 := by simp [List.getD, List.getElem?_eq_getElem hi]
  rw [e, mean_at h h0 (by omega)]
  have := col_betw l i (-1073741823) 1073741823 (by omega) (fun x hx => alike_comp h hx (by omega))
  unfold comp
  simpa using this

theorem step_alike {n : Nat} {c l : List (List Int)} (hc : Alike n c) (hl : Alike n l) {j : Nat} (hj : j < c.length) : right (stepM c l j) = true ∧ (stepM c l j).length = n := by
  unfold stepM
  split
  · exact hc _ (getD_mem hj)
  · rename_i h; exact mean_alike (hl.sub (own_mem c l j)) h
theorem round_alike {n : Nat} {c l : List (List Int)} (hc : Alike n c) (hl : Alike n l) : Alike n (roundM c l) := by
  intro x hx
  obtain ⟨j, hj, rfl⟩ := List.mem_map.1 hx
  exact step_alike hc hl (List.mem_range.1 hj)
theorem rounds_alike {n : Nat} {c l : List (List Int)} (hc : Alike n c) (hl : Alike n l) (k : Nat) : Alike n (roundsM l k c) := by
  induction k with
  | zero => exact hc
  | succ k ih => exact round_alike ih hl
theorem round_at (c l : List (List Int)) {j : Nat} (hj : j < c.length) : (roundM c l)[j]? = some (stepM c l j) := by
  unfold roundM; rw [List.getElem?_map, List.getElem?_range hj]; rfl
theorem round_take (c l : List (List Int)) {j : Nat} (hj : j < c.length) : (roundM c l).take (j + 1) = (roundM c l).take j ++ [stepM c l j] := by
  rw [List.take_add_one, round_at c l hj]; rfl

/-! ### what a round leaves stays -/
theorem rounds_add (l : List (List Int)) (c : List (List Int)) (i j : Nat) : roundsM l (i + j) c = roundsM l j (roundsM l i c) := by
  induction j with
  | zero => rfl
  | succ j ih => show roundM (roundsM l (i + j) c) l = _; rw [ih]; rfl
theorem rounds_stay {l c : List (List Int)} (h : roundM c l = c) (k : Nat) : roundsM l k c = c := by
  induction k with
  | zero => rfl
  | succ k ih => show roundM (roundsM l k c) l = c; rw [ih, h]
theorem rounds_rest {l c : List (List Int)} {i : Nat} (h : roundM (roundsM l i c) l = roundsM l i c) {k : Nat} (hk : i ≤ k) : roundsM l k c = roundsM l i c := by
  obtain ⟨j, rfl⟩ : ∃ j, k = i + j := ⟨k - i, by omega⟩
  rw [rounds_add, rounds_stay h]

/-! ### what is trained, is within -/
def Within (l : List (List Int)) (i : Nat) (lo hi : Int) : Prop := ∀ x ∈ l, lo ≤ x.getD i 0 ∧ x.getD i 0 ≤ hi
theorem round_within {n : Nat} {c l : List (List Int)} (hc : Alike n c) (hl : Alike n l) {i : Nat} (hi : i < n) {lo hi' : Int} (h1 : Within c i lo hi') (h2 : Within l i lo hi') : Within (roundM c l) i lo hi' := by
  intro x hx
  obtain ⟨j, hj, rfl⟩ := List.mem_map.1 hx
  have hj := List.mem_range.1 hj
  unfold stepM
  split
  · exact h1 _ (getD_mem hj)
  · rename_i h
    rw [mean_at (hl.sub (own_mem c l j)) h hi]
    exact col_betw _ i lo hi' (by omega) (fun x hx => h2 x (own_mem c l j x hx))
theorem rounds_within {n : Nat} {c l : List (List Int)} (hc : Alike n c) (hl : Alike n l) {i : Nat} (hi : i < n) {lo hi' : Int} (h1 : Within c i lo hi') (h2 : Within l i lo hi') (k : Nat) : Within (roundsM l k c) i lo hi' := by
  induction k with
  | zero => exact h1
  | succ k ih => exact round_within (rounds_alike hc hl k) hl hi ih h2

/-! ### the nearest -/
theorem near_lt {c : List (List Int)} (v : List Int) (h : 0 < c.length) : nearM c v < c.length := nearF_lt _ _ h

/-! ### moved vectors -/
def addV (b x : List Int) : List Int := (List.range x.length).map fun k => x.getD k 0 + b.getD k 0
def addL (b : List Int) (l : List (List Int)) : List (List Int) := l.map (addV b)
theorem addV_length (b x : List Int) : (addV b x).length = x.length := by simp [addV]
theorem addV_at (b x : List Int) {i : Nat} (hi : i < x.length) : (addV b x).getD i 0 = x.getD i 0 + b.getD i 0 := by
  unfold addV; simp [List.getD, List.getElem?_map, List.getElem?_range hi]
theorem addL_length (b : List Int) (l : List (List Int)) : (addL b l).length = l.length := by simp [addL]
theorem addL_getD (b : List Int) (l : List (List Int)) (i : Nat) : (addL b l).getD i [] = addV b (l.getD i []) := by
  unfold addL
  rcases Nat.lt_or_ge i l.length with h | h
  · simp [List.getD, List.getElem?_eq_getElem h]
  · simp [List.getD, List.getElem?_eq_none h, addV]
theorem sum_zip (a b : List Int) : ∀ (x y : List Int), x.length = y.length → (∀ i, i < x.length → x.getD i 0 - y.getD i 0 = a.getD i 0 - b.getD i 0) → a.length = x.length → b.length = y.length → sumP (x.zip y) = sumP (a.zip b) := by
  induction a generalizing b with
  | nil =>
    intro x y h1 _ h3 h4
    have : x = [] := List.eq_nil_of_length_eq_zero h3.symm
    subst this
    rfl
  | cons p a ih =>
    intro x y h1 h2 h3 h4
    rcases x with _ | ⟨u, x⟩
    · simp at h3
    rcases y with _ | ⟨v, y⟩
    · simp at h1
    rcases b with _ | ⟨q, b⟩
    · simp at h4
    have e0 := h2 0 (by simp)
    simp at e0
    have er := ih b x y (by simpa using h1) (fun i hi => by have := h2 (i + 1) (by simpa using hi); simpa using this) (by simpa using h3) (by simpa using h4)
    unfold sumP at er ⊢
    simp only [List.zip_cons_cons, List.map_cons, List.sum_cons]
    rw [er]
    have : sq (u, v) = sq (p, q) := by unfold sq; dsimp only; rw [e0]
    rw [this]
theorem dist_moved (b x y : List Int) (h : x.length = y.length) : distM (addV b x) (addV b y) = distM x y := by
  unfold distM
  refine sum_zip x y _ _ (by rw [addV_length, addV_length, h]) (fun i hi => ?_) (addV_length _ _).symm (addV_length _ _).symm
  rw [addV_length] at hi
  rw [addV_at b x hi, addV_at b y (by omega)]
  omega
theorem nearF_congr {D E : Nat → Int} (n : Nat) (h : ∀ i, i < n → D i = E i) : nearF D n = nearF E n := by
  induction n with
  | zero => rfl
  | succ n ih =>
    have h1 := ih (fun i hi => h i (by omega))
    unfold nearF
    rcases Nat.eq_zero_or_pos n with rfl | hn
    · simp [nearF]
    · have h2 := nearF_lt E n hn
      rw [h1, h n (by omega), h (nearF E n) (by omega)]
theorem near_moved {n : Nat} (b : List Int) {c : List (List Int)} {v : List Int} (hc : Alike n c) (hv : v.length = n) : nearM (addL b c) (addV b v) = nearM c v := by
  unfold nearM
  rw [addL_length]
  refine nearF_congr _ fun i hi => ?_
  unfold farM
  rw [addL_getD]
  exact dist_moved b _ _ (by rw [(hc _ (getD_mem hi)).2, hv])
theorem own_moved {n : Nat} (b : List Int) {c l : List (List Int)} (hc : Alike n c) (hl : Alike n l) (j : Nat) : ownM (addL b c) (addL b l) j = addL b (ownM c l j) := by
  unfold ownM
  induction l with
  | nil => rfl
  | cons x l ih =>
    have hx := (hl x (by simp)).2
    have h1 := ih (fun y hy => hl y (by simp [hy]))
    show ((addV b x) :: addL b l).filter _ = _
    rw [List.filter_cons, List.filter_cons, near_moved b hc hx, h1]
    split <;> rfl
theorem col_moved {n : Nat} (b : List Int) {l : List (List Int)} (hl : Alike n l) {i : Nat} (hi : i < n) : colM (addL b l) i = colM l i + (l.length : Int) * b.getD i 0 := by
  induction l with
  | nil => simp [colM, addL]
  | cons x l ih =>
    have h1 := ih (fun y hy => hl y (by simp [hy]))
    have e1 : colM (addL b (x :: l)) i = (addV b x).getD i 0 + colM (addL b l) i := by simp [colM, addL]
    have e2 : colM (x :: l) i = x.getD i 0 + colM l i := by simp [colM]
    rw [e1, e2, h1, addV_at b x (by rw [(hl x (by simp)).2]; exact hi), List.length_cons, Int.natCast_succ, Int.add_mul]
    omega
theorem mean_moved {n : Nat} (b : List Int) {l : List (List Int)} (hl : Alike n l) (h0 : l.length ≠ 0) : meanM (addL b l) = addV b (meanM l) := by
  have hn : (l.getD 0 []).length = n := (hl _ (getD_mem (by omega))).2
  have hm := mean_len hl h0
  unfold addV
  rw [hm]
  have e : meanM (addL b l) = (List.range n).map (fun i => colM (addL b l) i / ((addL b l).length : Int)) := by
    unfold meanM; rw [addL_getD, addV_length, hn]
  rw [e]
  refine List.map_congr_left fun i hi => ?_
  have hi := List.mem_range.1 hi
  rw [mean_at hl h0 hi, col_moved b hl hi, addL_length, Int.add_mul_ediv_left _ _ (by omega)]
theorem step_moved {n : Nat} (b : List Int) {c l : List (List Int)} (hc : Alike n c) (hl : Alike n l) (j : Nat) : stepM (addL b c) (addL b l) j = addV b (stepM c l j) := by
  unfold stepM
  rw [own_moved b hc hl, addL_length]
  split
  · exact addL_getD b c j
  · rename_i h; exact mean_moved b (hl.sub (own_mem c l j)) h
theorem round_moved {n : Nat} (b : List Int) {c l : List (List Int)} (hc : Alike n c) (hl : Alike n l) : roundM (addL b c) (addL b l) = addL b (roundM c l) := by
  unfold roundM
  rw [addL_length]
  show _ = ((List.range c.length).map (stepM c l)).map (addV b)
  rw [List.map_map]
  exact List.map_congr_left fun j _ => step_moved b hc hl j
theorem rounds_moved {n : Nat} (b : List Int) {c l : List (List Int)} (hc : Alike n c) (hl : Alike n l) (k : Nat) : roundsM (addL b l) k (addL b c) = addL b (roundsM l k c) := by
  induction k with
  | zero => rfl
  | succ k ih => show roundM (roundsM (addL b l) k (addL b c)) (addL b l) = _; rw [ih, round_moved b (rounds_alike hc hl k) hl]; rfl
theorem start_moved (b : List Int) (l : List (List Int)) (d : List Int) : startM (addL b l) d = addL b (startM l d) := by
  unfold startM
  rw [addL_length]
  show _ = (d.map _).map (addV b)
  rw [List.map_map]
  exact List.map_congr_left fun x _ => addL_getD b l _
theorem train_moved {n : Nat} (b : List Int) {l : List (List Int)} (hl : Alike n l) (h0 : 0 < l.length) (d : List Int) : trainM (addL b l) d = addL b (trainM l d) := by
  unfold trainM
  rw [start_moved]
  exact rounds_moved b (hl.sub (start_mem h0 d)) hl 4

/-! ### in another order -/
theorem col_perm {a b : List (List Int)} (h : a.Perm b) (i : Nat) : colM a i = colM b i := by
  induction h with
  | nil => rfl
  | cons x _ ih => unfold colM at ih ⊢; simp only [List.map_cons, List.sum_cons]; rw [ih]
  | swap x y l => unfold colM; simp only [List.map_cons, List.sum_cons]; omega
  | trans _ _ h1 h2 => rw [h1, h2]
theorem mean_perm {n : Nat} {a b : List (List Int)} (h : a.Perm b) (ha : Alike n a) (h0 : a.length ≠ 0) : meanM a = meanM b := by
  have hb : Alike n b := ha.sub fun x hx => h.mem_iff.2 hx
  have hl := h.length_eq
  have e1 : (a.getD 0 []).length = n := (ha _ (getD_mem (by omega))).2
  have e2 : (b.getD 0 []).length = n := (hb _ (getD_mem (by omega))).2
  unfold meanM
  rw [e1, e2, hl]
  exact List.map_congr_left fun i _ => by rw [col_perm h]
theorem step_perm {n : Nat} {a b : List (List Int)} (c : List (List Int)) (h : a.Perm b) (ha : Alike n a) (j : Nat) : stepM c a j = stepM c b j := by
  have hp : (ownM c a j).Perm (ownM c b j) := h.filter _
  unfold stepM
  rw [hp.length_eq]
  split
  · rfl
  · rename_i h0
    exact mean_perm hp (ha.sub (own_mem c a j)) (by rw [hp.length_eq]; exact h0)
theorem round_perm {n : Nat} {a b : List (List Int)} (c : List (List Int)) (h : a.Perm b) (ha : Alike n a) : roundM c a = roundM c b := by
  unfold roundM
  exact List.map_congr_left fun j _ => step_perm c h ha j
theorem rounds_perm {n : Nat} {a b : List (List Int)} (c : List (List Int)) (h : a.Perm b) (ha : Alike n a) (k : Nat) : roundsM a k c = roundsM b k c := by
  induction k with
  | zero => rfl
  | succ k ih => show roundM (roundsM a k c) a = roundM (roundsM b k c) b; rw [ih, round_perm _ h ha]
/-- The vectors, turned. -/
def turnM (l : List (List Int)) (k : Nat) : List (List Int) := l.drop k ++ l.take k
theorem turn_perm (l : List (List Int)) (k : Nat) : (turnM l k).Perm l := by
  unfold turnM
  have h : (l.take k ++ l.drop k).Perm l := by rw [List.take_append_drop]
  exact List.perm_append_comm.trans h
theorem turn_length (l : List (List Int)) (k : Nat) : (turnM l k).length = l.length := (turn_perm l k).length_eq
theorem turn_at (l : List (List Int)) {k m : Nat} (hk : k < l.length) (hm : m < l.length) : (turnM l k).getD ((m + l.length - k) % l.length) [] = l.getD m [] := by
  unfold turnM
  rcases Nat.lt_or_ge m k with h | h
  · have e : (m + l.length - k) % l.length = l.length - k + m := by rw [Nat.mod_eq_of_lt (by omega)]; omega
    rw [e]
    simp only [List.getD]
    rw [List.getElem?_append_right (by simp), List.length_drop]
    have : l.length - k + m - (l.length - k) = m := by omega
    rw [this, List.getElem?_take, if_pos h]
  · have e : (m + l.length - k) % l.length = m - k := by
      have : m + l.length - k = (m - k) + l.length := by omega
      rw [this, Nat.add_mod_right, Nat.mod_eq_of_lt (by omega)]
    rw [e]
    simp only [List.getD]
    rw [List.getElem?_append_left (by simp; omega), List.getElem?_drop]
    have : k + (m - k) = m := by omega
    rw [this]
def turnD (n k : Nat) (x : Int) : Int := (((x.toNat % n + n - k) % n : Nat) : Int)
theorem start_turned (l : List (List Int)) {k : Nat} (hk : k < l.length) (d : List Int) : startM (turnM l k) (d.map (turnD l.length k)) = startM l d := by
  unfold startM
  rw [List.map_map, turn_length]
  refine List.map_congr_left fun x _ => ?_
  have h0 : 0 < l.length := by omega
  have hm := Nat.mod_lt x.toNat h0
  show (turnM l k).getD ((turnD l.length k x).toNat % l.length) [] = _
  unfold turnD
  rw [Int.toNat_natCast, Nat.mod_mod, turn_at l hk hm]
theorem train_turned {n : Nat} {l : List (List Int)} (hl : Alike n l) {k : Nat} (hk : k < l.length) (d : List Int) : trainM (turnM l k) (d.map (turnD l.length k)) = trainM l d := by
  unfold trainM
  rw [start_turned l hk]
  exact rounds_perm _ (turn_perm l k) (hl.sub fun x hx => (turn_perm l k).mem_iff.1 hx) 4

end Go.Proofs.Ytgakfffkadaeeaa
