/-
  Plain numbers: what bytes begin with, as the document says; there and back. No program is walked here.
-/
import Derived.Test.YthbpnngfdpdjkaaCodTakes
namespace Go.Proofs.Ythbpnngfdpdjkaa
open Go.RowKit Go.Shelf
set_option linter.unusedVariables false
set_option linter.unusedSimpArgs false
set_option maxRecDepth 100000

/-- The components that stand behind the count, k of them. -/
def compsM (at' : Nat) (bs : List Int) (k : Nat) : List Int := (List.range k).map fun i => vali ((bs.drop (at' + 1 + 4 * i)).take 4)
/-- The vector with which bytes begin behind so many: the error, how many bytes all are, the vector. -/
def tvM (at' : Nat) (bs : List Int) : Int × Int × List Int :=
  if bs.length ≤ at' then (7, 0, [])
  else if bs.getD at' 0 < 1 ∨ 4 < bs.getD at' 0 then (172, 0, [])
  else if bs.length < at' + 1 + 4 * (bs.getD at' 0).toNat then (7, 0, [])
  else if right (compsM at' bs (bs.getD at' 0).toNat) = true then (0, (at' : Int) + 1 + 4 * bs.getD at' 0, compsM at' bs (bs.getD at' 0).toNat)
  else (172, 0, [])
def trM (bs : List Int) : Int × Int × Int × List Int := if (tvM 8 bs).1 = 0 then (0, (tvM 8 bs).2.1, val (bs.take 8), (tvM 8 bs).2.2) else ((tvM 8 bs).1, 0, 0, [])
def twM (bs : List Int) : Int × Int × Int × Int × List Int :=
  if (tvM 16 bs).1 = 0 then (if verR (val (bs.take 8)) (val ((bs.drop 8).take 8)) (tvM 16 bs).2.2 = true then (0, (tvM 16 bs).2.1, val (bs.take 8), val ((bs.drop 8).take 8), (tvM 16 bs).2.2) else (172, 0, 0, 0, []))
  else ((tvM 16 bs).1, 0, 0, 0, [])

/-! ### taking off, as a function of the bytes -/
theorem step_bad (m : Nat) (l : List Int) (pl : Int) : stepS m (l, pl, true) = (l, pl, true) := by simp [stepS, okS]
theorem num_bad0 (m : Nat) (l : List Int) (pl : Int) : numV m (l, pl, true) = 0 := by simp [numV, okS]
theorem vec_bad (l : List Int) (pl : Int) : vecS (l, pl, true) = ([], (l, pl, true)) := by
  unfold vecS
  rw [num_bad0, step_bad]
  simp [intsS]
theorem ints_stay (l : List Int) (pl : Int) (k : Nat) : (intsS k (l, pl, true)).2.2.2 = true := by
  induction k with
  | zero => rfl
  | succ k ih =>
    simp only [intsS]
    generalize (intsS k (l, pl, true)).2 = s at *
    obtain ⟨a, b, c⟩ := s
    dsimp only at ih
    subst ih
    rw [step_bad]
theorem ints_ok (l : List Int) (pl : Int) (k : Nat) (h : 4 * k ≤ l.length) : intsS k (l, pl, false) = ((List.range k).map fun i => vali ((l.drop (4 * i)).take 4), (l.drop (4 * k), pl + 4 * k, false)) := by
  induction k with
  | zero => simp [intsS]
  | succ k ih =>
    have ih := ih (by omega)
    simp only [intsS, ih]
    have hk : okS 4 (l.drop (4 * k), pl + 4 * (k : Int), false) = true := by simp [okS]; omega
    unfold intV stepS
    rw [if_pos hk, if_pos hk]
    rw [List.range_succ, List.map_append, List.drop_drop]
    refine Prod.ext ?_ (Prod.ext ?_ (Prod.ext ?_ rfl))
    · simp
    · show l.drop _ = l.drop _
      congr 1
    · show pl + 4 * (k : Int) + ((4 : Nat) : Int) = pl + 4 * ((k + 1 : Nat) : Int)
      omega
theorem ints_short (l : List Int) (pl : Int) (k : Nat) (h : l.length < 4 * k) : (intsS k (l, pl, false)).2.2.2 = true := by
  induction k with
  | zero => omega
  | succ k ih =>
    by_cases hk : l.length < 4 * k
    · have ih := ih hk
      simp only [intsS]
      generalize (intsS k (l, pl, false)).2 = s at *
      obtain ⟨a, b, c⟩ := s
      dsimp only at ih
      subst ih
      rw [step_bad]
    · simp only [intsS, ints_ok l pl k (by omega)]
      have hk : okS 4 (l.drop (4 * k), pl + 4 * (k : Int), false) = false := by simp [okS]; omega
      unfold stepS
      rw [if_neg (by rw [hk]; simp)]

/-- What a take tells of what was read. -/
def outV (r : List Int × St) : Int × Int × List Int := if r.2.2.2 = true then (7, 0, []) else if right r.1 = true then (0, r.2.2.1, r.1) else (172, 0, [])
theorem right_nil : right [] = false := rfl
theorem val_one (x : Int) : val [x] = x := by simp [val]
theorem take_one {l : List Int} (h : 0 < l.length) : l.take 1 = [l.getD 0 0] := by
  cases l with
  | nil => simp at h
  | cons a l => simp
theorem vec_out (l : List Int) (ho : Oct l) (a : Nat) (h : a ≤ l.length) : outV (vecS (l.drop a, (a : Int), false)) = tvM a l := by
  have hg : (l.drop a).getD 0 0 = l.getD a 0 := by simp [List.getD]
  by_cases hl : l.length ≤ a
  · have e : l.drop a = [] := List.drop_eq_nil_of_le hl
    have hn : numV 1 (([] : List Int), (a : Int), false) = 0 := by simp [numV, okS]
    have hs : stepS 1 (([] : List Int), (a : Int), false) = ([], (a : Int), true) := by simp [stepS, okS]
    unfold tvM
    rw [if_pos hl, e]
    unfold vecS
    rw [hn, hs]
    simp [intsS, outV]
  · have hok : okS 1 (l.drop a, (a : Int), false) = true := by simp [okS]; omega
    have hb := ho.at_ a
    have hn : numV 1 (l.drop a, (a : Int), false) = l.getD a 0 := by
      unfold numV
      rw [if_pos hok, take_one (by simp; omega), val_one, hg]
    have hs : stepS 1 (l.drop a, (a : Int), false) = (l.drop (a + 1), (a : Int) + 1, false) := by
      unfold stepS
      rw [if_pos hok, List.drop_drop]
      rfl
    unfold tvM vecS
    rw [if_neg hl, hn, hs]
    obtain ⟨n, hn'⟩ := Int.eq_ofNat_of_zero_le hb.1
    rw [hn'] at hb ⊢
    rw [Int.toNat_natCast]
    by_cases h4 : (4 : Int) < (n : Int)
    · rw [if_pos h4, if_pos (.inr h4)]
      simp [outV, right_nil]
    · rw [if_neg h4]
      by_cases h1 : (n : Int) < 1
      · obtain rfl : n = 0 := by omega
        rw [if_pos (.inl h1)]
        simp [intsS, outV, right_nil]
      · rw [if_neg (by omega)]
        by_cases hlen : l.length < a + 1 + 4 * n
        · rw [if_pos hlen]
          have := ints_short (l.drop (a + 1)) ((a : Int) + 1) n (by simp; omega)
          unfold outV
          rw [if_pos this]
        · rw [if_neg hlen, ints_ok _ _ _ (by simp; omega)]
          have e : (List.range n).map (fun i => vali (((l.drop (a + 1)).drop (4 * i)).take 4)) = compsM a l n := by
            unfold compsM
            apply List.map_congr_left
            intro i _
            rw [List.drop_drop]
          rw [e]
          unfold outV
          simp
theorem take33 (bs : List Int) (a : Nat) (ha : a ≤ 16) (ho : Oct bs) : tvM a (bs.take 33) = tvM a bs := by
  have hl : (bs.take 33).length = min 33 bs.length := by simp
  have hg : (bs.take 33).getD a 0 = bs.getD a 0 := by unfold List.getD; rw [List.getElem?_take_of_lt (by omega)]
  have hb := ho.at_ a
  unfold tvM
  rw [hg, hl]
  by_cases h1 : bs.length ≤ a
  · rw [if_pos (by omega), if_pos h1]
  · rw [if_neg (by omega), if_neg h1]
    by_cases h2 : bs.getD a 0 < 1 ∨ 4 < bs.getD a 0
    · rw [if_pos h2, if_pos h2]
    · rw [if_neg h2, if_neg h2]
      by_cases h3 : bs.length < a + 1 + 4 * (bs.getD a 0).toNat
      · rw [if_pos (by omega), if_pos h3]
      · rw [if_neg (by omega), if_neg h3]
        have e : compsM a (bs.take 33) (bs.getD a 0).toNat = compsM a bs (bs.getD a 0).toNat := by
          unfold compsM
          apply List.map_congr_left
          intro i hi
          have hi' : i < (bs.getD a 0).toNat := by simpa using hi
          rw [List.drop_take, List.take_take]
          congr 2
          omega
        rw [e]

theorem tkV_eq (bs : List Int) (ho : Oct bs) : tkV bs = tvM 0 bs := by
  rw [← take33 bs 0 (by omega) ho, ← vec_out _ (ho.take 33) 0 (Nat.zero_le _)]
  rfl
theorem tkR_eq (bs : List Int) (ho : Oct bs) : tkR bs = trM bs := by
  unfold trM
  rw [← take33 bs 8 (by omega) ho]
  have e8 : bs.take 8 = (bs.take 33).take 8 := by rw [List.take_take]; rfl
  rw [e8]
  have ho' := ho.take 33
  unfold tkR
  generalize bs.take 33 = l at *
  by_cases h8 : 8 ≤ l.length
  · have hok : okS 8 (l, (0 : Int), false) = true := by simp [okS]; omega
    have hs : stepS 8 (l, (0 : Int), false) = (l.drop 8, ((8 : Nat) : Int), false) := by
      unfold stepS; rw [if_pos hok]; rfl
    have hn : numV 8 (l, (0 : Int), false) = val (l.take 8) := by unfold numV; rw [if_pos hok]
    rw [hs, hn, ← vec_out l ho' 8 h8]
    generalize vecS (l.drop 8, ((8 : Nat) : Int), false) = r
    unfold outV
    split
    · simp
    · split <;> simp
  · have hok : okS 8 (l, (0 : Int), false) = false := by simp [okS]; omega
    have hs : stepS 8 (l, (0 : Int), false) = (l, (0 : Int), true) := by
      unfold stepS; rw [if_neg (by rw [hok]; simp)]
    rw [hs, vec_bad]
    have : tvM 8 l = (7, 0, []) := by unfold tvM; rw [if_pos (by omega)]
    rw [this]
    simp
theorem tkW_eq (bs : List Int) (ho : Oct bs) : tkW bs = twM bs := by
  unfold twM
  rw [← take33 bs 16 (by omega) ho]
  have e8 : bs.take 8 = (bs.take 33).take 8 := by rw [List.take_take]; rfl
  have e16 : (bs.drop 8).take 8 = ((bs.take 33).drop 8).take 8 := by rw [List.drop_take, List.take_take]; rfl
  rw [e8, e16]
  have ho' := ho.take 33
  unfold tkW
  generalize bs.take 33 = l at *
  by_cases h8 : 8 ≤ l.length
  · have hok : okS 8 (l, (0 : Int), false) = true := by simp [okS]; omega
    have hs : stepS 8 (l, (0 : Int), false) = (l.drop 8, ((8 : Nat) : Int), false) := by
      unfold stepS; rw [if_pos hok]; rfl
    have hn : numV 8 (l, (0 : Int), false) = val (l.take 8) := by unfold numV; rw [if_pos hok]
    rw [hs, hn]
    by_cases h16 : 16 ≤ l.length
    · have hok2 : okS 8 (l.drop 8, ((8 : Nat) : Int), false) = true := by simp [okS]; omega
      have hs2 : stepS 8 (l.drop 8, ((8 : Nat) : Int), false) = (l.drop 16, ((16 : Nat) : Int), false) := by
        unfold stepS; rw [if_pos hok2, List.drop_drop]; rfl
      have hn2 : numV 8 (l.drop 8, ((8 : Nat) : Int), false) = val ((l.drop 8).take 8) := by unfold numV; rw [if_pos hok2]
      rw [hs2, hn2, ← vec_out l ho' 16 h16]
      generalize vecS (l.drop 16, ((16 : Nat) : Int), false) = r
      unfold outV
      by_cases hbad : r.2.2.2 = true
      · simp [hbad]
      · rw [if_neg hbad, if_neg hbad]
        by_cases hr : right r.1 = true
        · simp [hr]
        · have : verR (val (l.take 8)) (val ((l.drop 8).take 8)) r.1 = false := by unfold verR; simp at hr; simp [hr]
          simp [hr, this]
    · have hok2 : okS 8 (l.drop 8, ((8 : Nat) : Int), false) = false := by simp [okS]; omega
      have hs2 : stepS 8 (l.drop 8, ((8 : Nat) : Int), false) = (l.drop 8, ((8 : Nat) : Int), true) := by
        unfold stepS; rw [if_neg (by rw [hok2]; simp)]
      rw [hs2, vec_bad]
      have : tvM 16 l = (7, 0, []) := by unfold tvM; rw [if_pos (by omega)]
      rw [this]
      simp
  · have hok : okS 8 (l, (0 : Int), false) = false := by simp [okS]; omega
    have hs : stepS 8 (l, (0 : Int), false) = (l, (0 : Int), true) := by
      unfold stepS; rw [if_neg (by rw [hok]; simp)]
    rw [hs, step_bad, vec_bad]
    have : tvM 16 l = (7, 0, []) := by unfold tvM; rw [if_pos (by omega)]
    rw [this]
    simp

end Go.Proofs.Ythbpnngfdpdjkaa
