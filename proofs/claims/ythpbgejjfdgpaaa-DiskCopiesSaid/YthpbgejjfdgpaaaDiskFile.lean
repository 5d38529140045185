/-
  What a file is behind a change to another one.
-/
import Derived.Test.YthpbgejjfdgpaaaLawWhole
namespace Go.Proofs.Ythpbgejjfdgpaaa
open Go.RowKit
set_option linter.unusedVariables false

theorem file_put (M : AD) (k j : Int) (F : AF) : (M.put k F).file j = if j = k then F else M.file j := by
  unfold AD.file AD.put
  by_cases h : j = k
  · subst h; simp [upd]
  · simp [upd, h]
theorem file_drop (M : AD) (k j : Int) : (M.drop k).file j = if j = k then AF.none else M.file j := by
  unfold AD.file AD.drop
  by_cases h : j = k
  · subst h; simp [upd]
  · simp [upd, h]
theorem file_met (M : AD) (j : Int) : M.met.file j = M.file j := by unfold AD.file; rw [met_files]

end Go.Proofs.Ythpbgejjfdgpaaa
