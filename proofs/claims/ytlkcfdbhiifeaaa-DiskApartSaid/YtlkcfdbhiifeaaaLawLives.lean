/-
  What a loss of power leaves, as facts on values: for DiskLives.
-/
import Derived.Test.YtlkcfdbhiifeaaaLawDiskRests
namespace Go.Proofs.Ytlkcfdbhiifeaaa
open Go.RowKit
set_option linter.unusedVariables false

theorem sv_none (M : AD) (pre : List Pc) (j : Nat) : (M.sv [] pre).L j = M.syn0 j := by
  have e : ∀ (pre : List Pc) (s : Sv), (pre.foldl (Sv.go []) s).L j = s.L j := by
    intro pre
    induction pre with
    | nil => intro s; rfl
    | cons x pre ih => intro s; rw [List.foldl_cons, ih]; simp [Sv.go]
  exact e pre _
theorem sv_full (M : AD) (n : Nat) (pre : List Pc) (hn : pre.length ≤ n) (j : Nat) : (M.sv (List.replicate n true) pre).L j = M.syn0 j + pcSum j pre := by
  have e : ∀ (pre : List Pc) (s : Sv), s.i + pre.length ≤ n → (∀ j, s.T j = false) → (pre.foldl (Sv.go (List.replicate n true)) s).L j = s.L j + pcSum j pre := by
    intro pre
    induction pre with
    | nil => intro s _ _; simp [pcSum]
    | cons x pre ih =>
      intro s hi hT
      simp only [List.length_cons] at hi
      have hlt : s.i < n := by omega
      have hg : (List.replicate n true).getD s.i false = true := by simp [hlt]
      rw [List.foldl_cons, ih _ (by simp [Sv.go]; omega) (fun k => by simp only [Sv.go, hT, hg]; simp)]
      simp only [Sv.go, hT, hg, pcSum]
      by_cases h : j = x.nm
      · simp [h]; omega
      · have h' : ¬ x.nm = j := fun e => h e.symm
        simp [h, h']
  exact (e pre ⟨0, M.syn0, fun _ => false⟩ (by simpa using hn) (fun _ => rfl))
theorem crash_bs {M : AD} (hok : M.Ok) (keep : List Bool) (k : Int) : ((M.crash keep).file k).bs = (M.file k).bs.take (M.left keep k) := by
  unfold AD.file AD.crash
  simp only
  rcases hf : M.files k with _ | F
  · simp [AF.none]
  · simp only [Option.bind_some, AF.lives, Option.getD_some]
    split
    · rename_i h; simp [AF.none, h.1]
    · rfl
theorem left_nil {M : AD} {k : Int} {F : AF} (hok : M.Ok) (hF : M.files k = some F) : M.left [] k = F.syn := by
  have hk := hok.names k (by rw [hF]; simp)
  have hkk : ((k.toNat : Nat) : Int) = k := by omega
  unfold AD.left
  rw [sv_none]
  unfold AD.syn0
  rw [hkk, hF]
theorem crash_less {M : AD} (hok : M.Ok) (keep : List Bool) (k : Int) : ∃ t, ((M.crash []).file k).bs = ((M.crash keep).file k).bs.take t := by
  rcases hf : M.files k with _ | F
  · exact ⟨0, by rw [crash_bs hok, crash_bs hok]; simp [AD.file, hf, AF.none]⟩
  · refine ⟨F.syn, ?_⟩
    rw [crash_bs hok, crash_bs hok, left_nil hok hf, List.take_take]
    congr 1
    have := (left_bounds hok keep hf).1
    omega
theorem crash_full {M : AD} (hok : M.Ok) (n : Nat) (hn : n = M.pcs.length) (k : Int) : ((M.crash (List.replicate n true)).file k).bs = (M.file k).bs := by
  rw [crash_bs hok]
  rcases hf : M.files k with _ | F
  · simp [AD.file, hf, AF.none]
  · have hk := hok.names k (by rw [hf]; simp)
    have hkk : ((k.toNat : Nat) : Int) = k := by omega
    have hs := hok.syn k F hf
    have : M.left (List.replicate n true) k = F.bs.length := by
      unfold AD.left
      rw [sv_full M n _ (by omega), pcSum_pcs M (by omega)]
      unfold AD.syn0
      rw [hkk, hf]
      simp
      omega
    rw [this]
    simp [AD.file, hf]
theorem crash_pend {M : AD} (hok : M.Ok) (keep : List Bool) : (M.crash keep).pend = [] := by
  unfold AD.pend
  rw [diskRests.no_pieces]
  · rfl
  · intro k G hG
    unfold AD.crash at hG
    simp only at hG
    rcases hf : M.files k with _ | F
    · rw [hf] at hG; cases hG
    · rw [hf] at hG
      have hb := (left_bounds hok keep hf).2
      simp only [Option.bind_some, AF.lives] at hG
      split at hG
      · cases hG
      · cases hG
        simp
        omega

end Go.Proofs.Ytlkcfdbhiifeaaa
