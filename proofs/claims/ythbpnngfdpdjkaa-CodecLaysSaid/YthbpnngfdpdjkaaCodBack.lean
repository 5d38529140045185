/-
  Plain numbers: what was laid is taken, and what was taken is laid. No program is walked here.
-/
import Derived.Test.YthbpnngfdpdjkaaCodMath
namespace Go.Proofs.Ythbpnngfdpdjkaa
open Go.RowKit Go.Shelf
set_option linter.unusedVariables false
set_option linter.unusedSimpArgs false
set_option maxRecDepth 100000

theorem comp_len (x : Int) : (compB x).length = 4 := fld_length _ _
theorem numB_len (x : Int) : (numB x).length = 8 := fld_length _ _
theorem oneB_len (x : Int) : (oneB x).length = 1 := fld_length _ _
theorem flat4_len (xs : List Int) : (xs.flatMap compB).length = 4 * xs.length := by
  induction xs with
  | nil => rfl
  | cons x l ih => simp only [List.flatMap_cons, List.length_append, List.length_cons, comp_len, ih]; omega
theorem vecB_len (xs : List Int) : (vecB xs).length = 1 + 4 * xs.length := by unfold vecB; rw [List.length_append, oneB_len, flat4_len]
theorem oneB_eq (n : Nat) (h : n ≤ 255) : oneB n = [(n : Int)] := by
  unfold oneB fld
  rw [unsg_eq]
  simp
  omega
theorem vecB_eq (xs : List Int) (h : xs.length ≤ 255) : vecB xs = (xs.length : Int) :: xs.flatMap compB := by
  unfold vecB; rw [oneB_eq _ h]; rfl
theorem comp_oct (x : Int) : Oct (compB x) := fld_oct _ _
theorem numB_oct (x : Int) : Oct (numB x) := fld_oct _ _
theorem Oct.append {a b : List Int} (ha : Oct a) (hb : Oct b) : Oct (a ++ b) := fun x hx => (List.mem_append.1 hx).elim (ha x) (hb x)
theorem flat_oct (xs : List Int) : Oct (xs.flatMap compB) := by
  intro b hb
  obtain ⟨x, _, h⟩ := List.mem_flatMap.1 hb
  exact comp_oct x b h
theorem vecB_oct (xs : List Int) : Oct (vecB xs) := (fld_oct _ _).append (flat_oct xs)
theorem rowB_oct (i : Int) (xs : List Int) : Oct (rowB i xs) := (numB_oct i).append (vecB_oct xs)
theorem verB_oct (b f : Int) (xs : List Int) : Oct (verB b f xs) := (numB_oct b).append ((numB_oct f).append (vecB_oct xs))

theorem vali_comp (x : Int) (h : -2147483648 ≤ x ∧ x < 2147483648) : vali (compB x) = x := by
  have hu0 := unsg_ge x
  have hu1 := unsg_lt x
  have hu := unsg_eq x
  have hb := (back_int 4 (unsg x) (by omega) (by omega) hu0 hu1).2
  have hs : sgn (unsg x) = x := by unfold sgn; rw [hu]; split <;> omega
  rw [hs] at hb
  have hf : fitsIntB ((4 : Nat) : Int) x = true := by
    unfold fitsIntB
    have h4 : sizeB ((4 : Nat) : Int) = true := by decide
    rw [h4]
    simp
    omega
  rw [hf] at hb
  unfold compB
  simpa using hb
theorem val_numB (x : Int) (h : 0 ≤ x ∧ x < 18446744073709551616) : val (numB x) = x := by
  obtain ⟨n, rfl⟩ := Int.eq_ofNat_of_zero_le h.1
  unfold numB
  rw [val_fld]
  have : (256 : Nat) ^ 8 = 18446744073709551616 := by decide
  rw [this]
  omega
theorem flat_drop (xs : List Int) (i : Nat) : (xs.flatMap compB).drop (4 * i) = (xs.drop i).flatMap compB := by
  induction i generalizing xs with
  | zero => rfl
  | succ i ih =>
    cases xs with
    | nil => simp
    | cons x l =>
      rw [List.flatMap_cons, List.drop_append, List.drop_eq_nil_of_le (by rw [comp_len]; omega), comp_len, List.nil_append, List.drop_succ_cons, ← ih]
      congr 1
theorem comps_back (p xs t : List Int) (hl : xs.length ≤ 255) (hx : ∀ x ∈ xs, -2147483648 ≤ x ∧ x < 2147483648) : compsM p.length (p ++ (vecB xs ++ t)) xs.length = xs := by
  unfold compsM
  apply List.ext_getElem
  · simp
  · intro i h1 h2
    rw [List.getElem_map, List.getElem_range]
    have e : ((p ++ (vecB xs ++ t)).drop (p.length + 1 + 4 * i)).take 4 = compB xs[i] := by
      rw [show p.length + 1 + 4 * i = p.length + (4 * i + 1) by omega, ← List.drop_drop, List.drop_left, vecB_eq xs hl, List.cons_append, List.drop_succ_cons, List.drop_append_of_le_length (by rw [flat4_len]; omega), flat_drop]
      rw [List.drop_eq_getElem_cons h2, List.flatMap_cons, List.append_assoc]
      exact List.take_left' (comp_len _)
    rw [e]
    exact vali_comp _ (hx _ (List.getElem_mem _))
theorem right_i32 {xs : List Int} (h : right xs = true) : ∀ x ∈ xs, -2147483648 ≤ x ∧ x < 2147483648 := fun x hx => by
  have := right_comp h x hx; omega

theorem tv_back (p xs t : List Int) (hr : right xs = true) : tvM p.length (p ++ (vecB xs ++ t)) = (0, (p.length : Int) + (vecB xs).length, xs) := by
  have hl := right_len hr
  have hg : (p ++ (vecB xs ++ t)).getD p.length 0 = xs.length := by
    rw [vecB_eq xs (by omega)]
    simp [List.getD]
  unfold tvM
  rw [hg, Int.toNat_natCast, comps_back p xs t (by omega) (right_i32 hr)]
  rw [if_neg (by simp [vecB_len]; omega), if_neg (by omega), if_neg (by simp [vecB_len]; omega), if_pos hr, vecB_len]
  refine Prod.ext rfl (Prod.ext ?_ rfl)
  show (p.length : Int) + 1 + 4 * xs.length = p.length + ((1 + 4 * xs.length : Nat) : Int)
  omega
theorem tv_short (p xs : List Int) (hr : right xs = true) (i : Nat) (hi : i < p.length + (vecB xs).length) : tvM p.length ((p ++ vecB xs).take i) = (7, 0, []) := by
  have hl := right_len hr
  rw [vecB_len] at hi
  have hlen : ((p ++ vecB xs).take i).length = i := by simp [vecB_len]; omega
  unfold tvM
  by_cases h1 : i ≤ p.length
  · rw [if_pos (by omega)]
  · have hg : ((p ++ vecB xs).take i).getD p.length 0 = xs.length := by
      rw [vecB_eq xs (by omega)]
      unfold List.getD
      rw [List.getElem?_take_of_lt (by omega)]
      simp
    rw [hg, Int.toNat_natCast, if_neg (by omega), if_neg (by omega), if_pos (by omega)]

theorem fld_shift (m : Nat) (X Y : Int) (h : ∀ j, j < m → X / 2 ^ (8 * j) % 256 = Y / 2 ^ (8 * j) % 256) : fld m X = fld m Y := by
  unfold fld
  apply List.map_congr_left
  intro i hi
  have : i < m := by simpa using hi
  exact h _ (by omega)
theorem comp_vali (l : List Int) (h4 : l.length = 4) (ho : Oct l) : compB (vali l) = l := by
  have hv := vali_val (bs := l) (by omega)
  have hlo := val_nonneg ho
  have hhi := val_lt ho
  rw [h4] at hv hhi
  have h256 : (256 : Int) ^ 4 = 4294967296 := by decide
  rw [h256] at hv hhi
  have hf := fld_val 4 l h4 ho
  unfold compB
  refine Eq.trans ?_ hf
  apply fld_shift
  intro j hj
  rw [unsg_eq, hv]
  have hj' : j = 0 ∨ j = 1 ∨ j = 2 ∨ j = 3 := by omega
  generalize val l = v at *
  rcases hj' with rfl | rfl | rfl | rfl <;> split <;> simp <;> omega
theorem flat_vali (l : List Int) (ho : Oct l) (k : Nat) (h : l.length = 4 * k) : ((List.range k).map fun i => vali ((l.drop (4 * i)).take 4)).flatMap compB = l := by
  induction k generalizing l with
  | zero => rw [List.eq_nil_of_length_eq_zero (l := l) (by omega)]; rfl
  | succ k ih =>
    have h1 := ih (l.drop 4) (ho.drop 4) (by simp; omega)
    have h2 := comp_vali (l.take 4) (by simp; omega) (ho.take 4)
    have e : ((List.range k).map fun i => vali (((l.drop 4).drop (4 * i)).take 4)) = (List.range k).map fun i => vali ((l.drop (4 * (i + 1))).take 4) := by
      apply List.map_congr_left
      intro i _
      rw [List.drop_drop, show 4 + 4 * i = 4 * (i + 1) by omega]
    rw [e] at h1
    rw [List.range_succ_eq_map, List.map_cons, List.map_map, List.flatMap_cons]
    show compB (vali (l.take 4)) ++ ((List.range k).map fun i => vali ((l.drop (4 * (i + 1))).take 4)).flatMap compB = l
    rw [h1, h2, List.take_append_drop]
theorem tv_taken {a : Nat} {bs xs : List Int} {n : Int} (ho : Oct bs) (h : tvM a bs = (0, n, xs)) : right xs = true ∧ n = (a : Int) + (vecB xs).length ∧ a + (vecB xs).length ≤ bs.length ∧ (bs.drop a).take (vecB xs).length = vecB xs := by
  unfold tvM at h
  split at h
  · cases h
  · rename_i h1
    split at h
    · cases h
    · rename_i h2
      split at h
      · cases h
      · rename_i h3
        split at h
        · rename_i h4
          have hb := ho.at_ a
          obtain ⟨k, hk⟩ := Int.eq_ofNat_of_zero_le hb.1
          rw [hk] at h h2 h3 h4 hb
          rw [Int.toNat_natCast] at h h3 h4
          injection h with _ h
          injection h with e1 e2
          have hlen : xs.length = k := by rw [← e2]; simp [compsM]
          rw [e2] at h4
          have hvl : (vecB xs).length = 1 + 4 * k := by rw [vecB_len, hlen]
          refine ⟨h4, by rw [← e1, hvl]; omega, by omega, ?_⟩
          have hd : bs.drop a = (k : Int) :: bs.drop (a + 1) := by
            rw [List.drop_eq_getElem_cons (by omega)]
            congr 1
            rw [← hk]
            simp [List.getD, List.getElem?_eq_getElem (show a < bs.length by omega)]
          rw [hvl, hd, Nat.add_comm 1, List.take_succ_cons, vecB_eq xs (by omega), hlen]
          congr 1
          rw [← e2]
          have := flat_vali ((bs.drop (a + 1)).take (4 * k)) ((ho.drop _).take _) k (by simp; omega)
          rw [← this]
          congr 1
          unfold compsM
          apply List.map_congr_left
          intro i hi
          have hi' : i < k := by simpa using hi
          rw [List.drop_take, List.take_take, List.drop_drop, show min 4 (4 * k - 4 * i) = 4 by omega]
        · cases h

/-! ### rows and versions -/
theorem u64_in {x : Int} (h : (Lit.int .u64 x).wf = true) : 0 ≤ x ∧ x < 18446744073709551616 := layu_fit h
theorem tr_back (i : Int) (xs t : List Int) (hr : right xs = true) (hi : 0 ≤ i ∧ i < 18446744073709551616) : trM (rowB i xs ++ t) = (0, ((rowB i xs).length : Int), i, xs) := by
  have e : rowB i xs ++ t = numB i ++ (vecB xs ++ t) := by unfold rowB; rw [List.append_assoc]
  have h := tv_back (numB i) xs t hr
  rw [numB_len] at h
  have h8 : (rowB i xs ++ t).take 8 = numB i := by rw [e]; exact List.take_left' (numB_len i)
  unfold trM
  rw [h8, e, h, if_pos rfl, val_numB i hi]
  unfold rowB
  rw [List.length_append, numB_len]
  refine Prod.ext rfl (Prod.ext ?_ rfl)
  show ((8 : Nat) : Int) + ((vecB xs).length : Int) = ((8 + (vecB xs).length : Nat) : Int)
  omega
theorem tr_short (i : Int) (xs : List Int) (hr : right xs = true) (k : Nat) (hk : k < (rowB i xs).length) : (trM ((rowB i xs).take k)).1 = 7 := by
  have h := tv_short (numB i) xs hr k (by unfold rowB at hk; simpa using hk)
  rw [numB_len] at h
  unfold trM rowB
  rw [h]
  rfl
theorem verR_right {b f : Int} {xs : List Int} (h : verR b f xs = true) : right xs = true := by unfold verR at h; simp at h; exact h.1
theorem tw_back (b f : Int) (xs t : List Int) (hr : verR b f xs = true) (hb : 0 ≤ b ∧ b < 18446744073709551616) (hf : 0 ≤ f ∧ f < 18446744073709551616) : twM (verB b f xs ++ t) = (0, ((verB b f xs).length : Int), b, f, xs) := by
  have e : verB b f xs ++ t = (numB b ++ numB f) ++ (vecB xs ++ t) := by unfold verB; simp
  have h := tv_back (numB b ++ numB f) xs t (verR_right hr)
  rw [List.length_append, numB_len, numB_len] at h
  have h8 : (verB b f xs ++ t).take 8 = numB b := by rw [e, List.append_assoc]; exact List.take_left' (numB_len b)
  have h16 : ((verB b f xs ++ t).drop 8).take 8 = numB f := by
    rw [e, List.append_assoc, List.drop_left' (numB_len b)]; exact List.take_left' (numB_len f)
  unfold twM
  rw [h8, h16, e, h, if_pos rfl, val_numB b hb, val_numB f hf]
  rw [if_pos hr]
  unfold verB
  rw [List.length_append, List.length_append, numB_len, numB_len]
  refine Prod.ext rfl (Prod.ext ?_ rfl)
  show ((8 + 8 : Nat) : Int) + ((vecB xs).length : Int) = ((8 + (8 + (vecB xs).length) : Nat) : Int)
  omega
theorem tw_short (b f : Int) (xs : List Int) (hr : verR b f xs = true) (k : Nat) (hk : k < (verB b f xs).length) : (twM ((verB b f xs).take k)).1 = 7 := by
  have h := tv_short (numB b ++ numB f) xs (verR_right hr) k (by unfold verB at hk; simp at hk ⊢; omega)
  rw [List.length_append, numB_len, numB_len, List.append_assoc] at h
  unfold twM verB
  rw [h]
  rfl
theorem take_split (bs : List Int) (a n : Nat) : bs.take (a + n) = bs.take a ++ (bs.drop a).take n := List.take_add
theorem tr_taken {bs xs : List Int} {n i : Int} (ho : Oct bs) (h : trM bs = (0, n, i, xs)) : right xs = true ∧ n = ((rowB i xs).length : Int) ∧ (rowB i xs).length ≤ bs.length ∧ bs.take (rowB i xs).length = rowB i xs ∧ 0 ≤ i ∧ i < 18446744073709551616 := by
  unfold trM at h
  split at h
  · rename_i h0
    injection h with _ h
    injection h with e1 h
    injection h with e2 e3
    obtain ⟨h1, h2, h3, h4⟩ := tv_taken (a := 8) ho (show tvM 8 bs = (0, n, xs) from Prod.ext h0 (Prod.ext e1 e3))
    have hl : (bs.take 8).length = 8 := by simp; omega
    have hn : numB i = bs.take 8 := by rw [← e2]; exact fld_val 8 _ hl (ho.take 8)
    have hrl : (rowB i xs).length = 8 + (vecB xs).length := by unfold rowB; rw [List.length_append, numB_len]
    refine ⟨h1, by rw [hrl]; omega, by omega, ?_, by rw [← e2]; exact val_nonneg (ho.take 8), by rw [← e2]; exact val_u64 (ho.take 8) (by omega)⟩
    rw [hrl, take_split, h4, ← hn]
    rfl
  · rename_i h0
    injection h with e _
    exact (h0 e).elim
theorem tw_taken {bs xs : List Int} {n b f : Int} (ho : Oct bs) (h : twM bs = (0, n, b, f, xs)) : verR b f xs = true ∧ n = ((verB b f xs).length : Int) ∧ (verB b f xs).length ≤ bs.length ∧ bs.take (verB b f xs).length = verB b f xs ∧ (0 ≤ b ∧ b < 18446744073709551616) ∧ (0 ≤ f ∧ f < 18446744073709551616) := by
  unfold twM at h
  split at h
  · rename_i h0
    split at h
    · rename_i hv
      injection h with _ h
      injection h with e1 h
      injection h with e2 h
      injection h with e4 e3
      obtain ⟨h1, h2, h3, h4⟩ := tv_taken (a := 16) ho (show tvM 16 bs = (0, n, xs) from Prod.ext h0 (Prod.ext e1 e3))
      have hl : (bs.take 8).length = 8 := by simp; omega
      have hl2 : ((bs.drop 8).take 8).length = 8 := by simp; omega
      have hn : numB b = bs.take 8 := by rw [← e2]; exact fld_val 8 _ hl (ho.take 8)
      have hn2 : numB f = (bs.drop 8).take 8 := by rw [← e4]; exact fld_val 8 _ hl2 ((ho.drop 8).take 8)
      have hrl : (verB b f xs).length = 16 + (vecB xs).length := by unfold verB; rw [List.length_append, List.length_append, numB_len, numB_len]; omega
      rw [e2, e4, e3] at hv
      refine ⟨hv, by rw [hrl]; omega, by omega, ?_, ⟨by rw [← e2]; exact val_nonneg (ho.take 8), by rw [← e2]; exact val_u64 (ho.take 8) (by omega)⟩, ⟨by rw [← e4]; exact val_nonneg ((ho.drop 8).take 8), by rw [← e4]; exact val_u64 ((ho.drop 8).take 8) (by omega)⟩⟩
      rw [hrl, take_split, h4, show (16 : Nat) = 8 + 8 from rfl, take_split, ← hn, ← hn2, List.append_assoc]
      rfl
    · injection h with e _
      cases e
  · rename_i h0
    injection h with e _
    exact (h0 e).elim

theorem tw_none {bs xs : List Int} {e n b f : Int} (h : twM bs = (e, n, b, f, xs)) (he : e ≠ 0) : n = 0 ∧ xs = [] := by
  unfold twM at h
  split at h
  · split at h
    · injection h with e1 _; exact (he e1.symm).elim
    · injection h with _ h
      injection h with e1 h
      injection h with _ h
      injection h with _ e2
      exact ⟨e1.symm, e2.symm⟩
  · injection h with _ h
    injection h with e1 h
    injection h with _ h
    injection h with _ e2
    exact ⟨e1.symm, e2.symm⟩

/-- Of two rows of bytes one begins with the other. -/
def meet (x y : List Int) : Prop := x.take (min x.length y.length) = y.take (min x.length y.length)
theorem meet_cases {x y : List Int} (h : meet x y) : (∃ t, y = x ++ t) ∨ (∃ t, x = y ++ t) := by
  unfold meet at h
  by_cases hl : x.length ≤ y.length
  · rw [Nat.min_eq_left hl, List.take_length] at h
    exact .inl ⟨y.drop x.length, by rw [h, List.length_take, Nat.min_eq_left hl, List.take_append_drop]⟩
  · rw [Nat.min_eq_right (by omega), List.take_length] at h
    exact .inr ⟨x.drop y.length, by rw [← h, List.length_take, Nat.min_eq_left (by omega), List.take_append_drop]⟩
theorem row_meet {i j : Int} {xs ys : List Int} (hx : right xs = true) (hy : right ys = true) (hi : 0 ≤ i ∧ i < 18446744073709551616) (hj : 0 ≤ j ∧ j < 18446744073709551616) : meet (rowB i xs) (rowB j ys) ↔ sameR i j xs ys = true := by
  constructor
  · intro h
    have h1 := tr_back i xs [] hx hi
    have h2 := tr_back j ys [] hy hj
    rw [List.append_nil] at h1 h2
    have : i = j ∧ xs = ys := by
      rcases meet_cases h with ⟨t, e⟩ | ⟨t, e⟩
      · rw [e, tr_back i xs t hx hi] at h2
        injection h2 with _ h2
        injection h2 with _ h2
        injection h2 with e1 e2
        exact ⟨e1, e2⟩
      · rw [e, tr_back j ys t hy hj] at h1
        injection h1 with _ h1
        injection h1 with _ h1
        injection h1 with e1 e2
        exact ⟨e1.symm, e2.symm⟩
    unfold sameR
    simp [this.1, this.2]
  · intro h
    unfold sameR at h
    simp at h
    rw [h.1, h.2]
    rfl
theorem ver_meet {b b' f f' : Int} {xs ys : List Int} (hx : verR b f xs = true) (hy : verR b' f' ys = true) (hb : 0 ≤ b ∧ b < 18446744073709551616) (hb' : 0 ≤ b' ∧ b' < 18446744073709551616) (hf : 0 ≤ f ∧ f < 18446744073709551616) (hf' : 0 ≤ f' ∧ f' < 18446744073709551616) : meet (verB b f xs) (verB b' f' ys) ↔ sameV b b' f f' xs ys = true := by
  constructor
  · intro h
    have h1 := tw_back b f xs [] hx hb hf
    have h2 := tw_back b' f' ys [] hy hb' hf'
    rw [List.append_nil] at h1 h2
    have : b = b' ∧ f = f' ∧ xs = ys := by
      rcases meet_cases h with ⟨t, e⟩ | ⟨t, e⟩
      · rw [e, tw_back b f xs t hx hb hf] at h2
        injection h2 with _ h2
        injection h2 with _ h2
        injection h2 with e1 h2
        injection h2 with e2 e3
        exact ⟨e1, e2, e3⟩
      · rw [e, tw_back b' f' ys t hy hb' hf'] at h1
        injection h1 with _ h1
        injection h1 with _ h1
        injection h1 with e1 h1
        injection h1 with e2 e3
        exact ⟨e1.symm, e2.symm, e3.symm⟩
    unfold sameV
    simp [this.1, this.2.1, this.2.2]
  · intro h
    unfold sameV at h
    simp at h
    rw [h.1, h.2.1, h.2.2]
    rfl

end Go.Proofs.Ythbpnngfdpdjkaa
