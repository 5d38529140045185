/-
  bytes.Equal of two slices with the same bytes: true.
-/
import Derived.Test.YtienabfilnpieaaGreatFieldAsk
import Derived.Laws.BytesArg
namespace Go.Proofs.YtienabfilnpieaaGreat
open Go.RowKit
set_option maxRecDepth 100000
set_option linter.unusedVariables false

/-- 'string(b)' of a slice that holds bytes. -/
theorem fConvert_b {w : World} {A : Option Addr} {c : Nat} {bs : List Int} (h : Sl w A c bs) : (convert 33 9 (.slice A bs.length c)).run Tryz.prog w = .ok (.string (strOfNums bs)) w := by
  rcases Nat.eq_zero_or_pos bs.length with h0 | h0
  · obtain rfl : bs = [] := List.eq_nil_of_length_eq_zero h0
    rw [run_convert_bytes_string w 33 9 5 _ _ c Tryz.underlying33 Tryz.underlying5 Tryz.underlying9]
    cases A <;> simp [Conv.bytesToString, loadCells] <;> rfl
  · obtain ⟨b, o, rfl, _, hc⟩ := h.rd h0
    exact run_convert_bytes_arg w 33 5 Tryz.underlying33 Tryz.underlying5 b o _ c bs rfl hc 9 Tryz.underlying9

theorem equal_same (A A' : Option Addr) (c c' : Nat) (bs : List Int) (w : World) (h : Sl w A c bs) (h' : Sl w A' c' bs) :
    Calls Tryz.prog 17 #[.slice A bs.length c, .slice A' bs.length c'] w fun e w' => e = .returned (.bool true) ∧ w = w' := by
  have k1 := fConvert_b h
  have k2 := fConvert_b h'
  clear h h'
  generalize strOfNums bs = s at *
  go_enter Tryz.func17, Tryz.ntmps17
  go_wp2
  go_ret
  exact ⟨by simp, rfl⟩

end Go.Proofs.YtienabfilnpieaaGreat
