/-
  What the document's Crash leaves of a file, piece by piece, is what the model's leaves.
-/
import Derived.Test.YthpbgejjfdgpaaaRefPend
namespace Go.Proofs.Ythpbgejjfdgpaaa
open Go.RowKit
set_option linter.unusedVariables false
set_option maxRecDepth 100000

/-- Is it still going behind t pieces, and how many loose bytes live? -/
def cr (keep : List Bool) (at_ m : Nat) : Nat → Bool × Nat
  | 0 => (true, 0)
  | t + 1 => (((cr keep at_ m t).1 && keep.getD (at_ + t) false), if ((cr keep at_ m t).1 && keep.getD (at_ + t) false) then min (8 * t + 8) m else (cr keep at_ m t).2)
theorem cr_going (keep : List Bool) (at_ m : Nat) : ∀ t, (cr keep at_ m t).1 = true → (cr keep at_ m t).2 = min (8 * t) m
  | 0, _ => by simp [cr]
  | t + 1, h => by
    simp only [cr] at h ⊢
    rw [if_pos h]
    congr 1
theorem cr_le (keep : List Bool) (at_ m : Nat) : ∀ t, (cr keep at_ m t).2 ≤ m
  | 0 => by simp [cr]
  | t + 1 => by
    simp only [cr]
    split
    · omega
    · exact cr_le keep at_ m t
theorem sv_other (keep : List Bool) {j : Nat} : ∀ (xs : List Pc) (s : Sv), (∀ x ∈ xs, x.nm ≠ j) → (xs.foldl (Sv.go keep) s).L j = s.L j ∧ (xs.foldl (Sv.go keep) s).T j = s.T j ∧ (xs.foldl (Sv.go keep) s).i = s.i + xs.length
  | [], s, _ => ⟨rfl, rfl, rfl⟩
  | x :: xs, s, h => by
    obtain ⟨h1, h2, h3⟩ := sv_other keep xs (s.go keep x) (fun y hy => h y (by simp [hy]))
    have hx : ¬ j = x.nm := fun e => h x (by simp) e.symm
    rw [List.foldl_cons]
    refine ⟨h1.trans ?_, h2.trans ?_, h3.trans ?_⟩
    · simp [Sv.go, hx]
    · simp [Sv.go, hx]
    · simp [Sv.go]; omega
theorem sv_file (keep : List Bool) {k : Nat} (hk : k < 4) (F : AF) (s : Sv) (hT : s.T k = false) : ∀ t, t ≤ F.pn →
    (((pcsAt k F).take t).foldl (Sv.go keep) s).i = s.i + t ∧ (((pcsAt k F).take t).foldl (Sv.go keep) s).T k = !(cr keep s.i (F.bs.length - F.syn) t).1 ∧ (((pcsAt k F).take t).foldl (Sv.go keep) s).L k = s.L k + (cr keep s.i (F.bs.length - F.syn) t).2
  | 0, _ => by simp [cr, hT]
  | t + 1, ht => by
    obtain ⟨h1, h2, h3⟩ := sv_file keep hk F s hT t (by omega)
    have hlt : t < (pcsAt k F).length := by simp [pcsAt]; omega
    have hg : (pcsAt k F)[t]? = some (mkPc k (F.bs.length - (F.syn + 8 * t))) := by
      unfold pcsAt
      rw [List.getElem?_map, List.getElem?_range (by omega)]
      rfl
    rw [List.take_add_one, hg, Option.toList_some, List.foldl_append]
    generalize ((pcsAt k F).take t).foldl (Sv.go keep) s = r at *
    have hgo := cr_going keep s.i (F.bs.length - F.syn) t
    simp only [cr]
    generalize cr keep s.i (F.bs.length - F.syn) t = q at *
    obtain ⟨q1, q2⟩ := q
    have hnm : (mkPc k (F.bs.length - (F.syn + 8 * t))).nm = k := by simp [mkPc]; omega
    have hsz : (mkPc k (F.bs.length - (F.syn + 8 * t))).sz = min 8 (F.bs.length - F.syn - 8 * t) := by
      unfold AF.pn at ht
      simp [mkPc]; omega
    have h8 : 8 * t < F.bs.length - F.syn := by unfold AF.pn at ht; omega
    simp only [List.foldl_cons, List.foldl_nil, Sv.go, hnm, hsz, h1, h2, h3, if_true]
    refine ⟨by omega, ?_, ?_⟩
    · cases q1 <;> simp
    · rcases hq : q1 with _ | _
      · simp
      · rw [hq] at hgo
        have := hgo rfl
        simp only at this
        rcases keep.getD (s.i + t) false with _ | _
        · simp
        · simp only [Bool.not_true, Bool.or_self, Bool.false_eq_true, if_false, Bool.and_self, if_true]
          omega
/-- What is left of a file. -/
theorem left_cr {M : AD} (keep : List Bool) {k : Nat} (hk : k < 4) {F : AF} (hF : M.files (k : Int) = some F) {pre post : List Pc} (hp : M.pcs = pre ++ M.pcsOf k ++ post) (h1 : ∀ x ∈ pre, x.nm ≠ k) (h2 : ∀ x ∈ post, x.nm ≠ k) :
    M.left keep (k : Int) = F.syn + (cr keep pre.length (F.bs.length - F.syn) F.pn).2 := by
  unfold AD.left AD.sv
  rw [hp, List.foldl_append, List.foldl_append, Int.toNat_natCast]
  rw [(sv_other keep post _ h2).1]
  obtain ⟨a1, a2, a3⟩ := sv_other keep pre ⟨0, M.syn0, fun _ => false⟩ h1
  have hof : M.pcsOf k = (pcsAt k F).take F.pn := by
    unfold AD.pcsOf
    rw [hF, List.take_of_length_le (by simp [pcsAt])]
  rw [hof, (sv_file keep hk F _ a2 F.pn (Nat.le_refl _)).2.2, a1, a3]
  simp [AD.syn0, hF]

/-- How many pieces come ahead of file k. -/
def atP (M : AD) : Nat → Nat
  | 0 => 0
  | k + 1 => atP M k + (M.pcsOf k).length
theorem pcsOf_nm (M : AD) {k : Nat} (hk : k < 4) : ∀ x ∈ M.pcsOf k, x.nm = k := by
  unfold AD.pcsOf
  rcases M.files (k : Int) with _ | F
  · simp
  · exact pcsAt_nm hk F
theorem pcsOf_len {W : World} {N : Nat → Prop} {D : RD} {M : AD} (h : RefIs W N D M) {k : Nat} (hk : k < 4) : (M.pcsOf k).length = ((D.file k).m + 7) / 8 := by
  have hl := (h.file k hk).loose.len
  rw [List.length_drop] at hl
  unfold AD.pcsOf
  unfold AD.file at hl
  rcases hq : M.files (k : Int) with _ | F
  · rw [hq] at hl
    have : (D.file k).m = 0 := by rw [← hl]; rfl
    rw [this]
    rfl
  · rw [hq] at hl
    have hl : F.bs.length - F.syn = (D.file k).m := hl
    rw [← hl]
    simp [pcsAt, AF.pn]
theorem left_at {M : AD} (keep : List Bool) {k : Nat} (hk : k < 4) {F : AF} (hF : M.files (k : Int) = some F) : M.left keep (k : Int) = F.syn + (cr keep (atP M k) (F.bs.length - F.syn) F.pn).2 := by
  have n0 := pcsOf_nm M (k := 0) (by omega)
  have n1 := pcsOf_nm M (k := 1) (by omega)
  have n2 := pcsOf_nm M (k := 2) (by omega)
  have n3 := pcsOf_nm M (k := 3) (by omega)
  have h4 : k = 0 ∨ k = 1 ∨ k = 2 ∨ k = 3 := by omega
  have hall := pcs_all M
  have e : ∀ {j k : Nat} {xs : List Pc}, (∀ x ∈ xs, x.nm = j) → j ≠ k → ∀ x ∈ xs, x.nm ≠ k := fun h hne x hx e => hne ((h x hx).symm.trans e)
  rcases h4 with rfl | rfl | rfl | rfl
  · exact left_cr (M := M) keep hk hF (pre := []) (post := M.pcsOf 1 ++ M.pcsOf 2 ++ M.pcsOf 3) (by rw [hall]; simp) (by simp) (by
      intro x hx
      simp only [List.mem_append] at hx
      rcases hx with (hx | hx) | hx
      · exact e n1 (by omega) x hx
      · exact e n2 (by omega) x hx
      · exact e n3 (by omega) x hx)
  · have := left_cr (M := M) keep hk hF (pre := M.pcsOf 0) (post := M.pcsOf 2 ++ M.pcsOf 3) (by rw [hall]; simp) (e n0 (by omega)) (by
      intro x hx
      simp only [List.mem_append] at hx
      rcases hx with hx | hx
      · exact e n2 (by omega) x hx
      · exact e n3 (by omega) x hx)
    simpa [atP] using this
  · have := left_cr (M := M) keep hk hF (pre := M.pcsOf 0 ++ M.pcsOf 1) (post := M.pcsOf 3) (by rw [hall]) (by
      intro x hx
      simp only [List.mem_append] at hx
      rcases hx with hx | hx
      · exact e n0 (by omega) x hx
      · exact e n1 (by omega) x hx) (e n3 (by omega))
    simpa [atP] using this
  · have := left_cr (M := M) keep hk hF (pre := M.pcsOf 0 ++ M.pcsOf 1 ++ M.pcsOf 2) (post := []) (by rw [hall]; simp) (by
      intro x hx
      simp only [List.mem_append] at hx
      rcases hx with (hx | hx) | hx
      · exact e n0 (by omega) x hx
      · exact e n1 (by omega) x hx
      · exact e n2 (by omega) x hx) (by simp)
    simpa [atP, Nat.add_assoc] using this

end Go.Proofs.Ythpbgejjfdgpaaa
