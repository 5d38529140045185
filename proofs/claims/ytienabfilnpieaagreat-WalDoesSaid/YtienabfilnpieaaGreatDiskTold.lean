/-
  What a disk tells, and the small functions below its operations.
-/
import Derived.Test.YtienabfilnpieaaGreatDiskModel
import Derived.BigQuiet
import Derived.Deep.QuietTactic
import Derived.StillTailTactics
import Derived.Deep.RegionWith
namespace Go.Proofs.YtienabfilnpieaaGreat
open Go.RowKit
set_option linter.unusedVariables false

theorem field0 (a b c : Value) (w : World) : (Instr.field 98 (.agg #[a, b, c]) 0).run Tryz.prog w = .ok a w := by kernel_rfl
theorem field1 (a b c : Value) (w : World) : (Instr.field 98 (.agg #[a, b, c]) 1).run Tryz.prog w = .ok b w := by kernel_rfl
theorem field2 (a b c : Value) (w : World) : (Instr.field 98 (.agg #[a, b, c]) 2).run Tryz.prog w = .ok c w := by kernel_rfl

theorem due_any (n : Int) (w : World) : Calls Tryz.prog 93 #[.int .i64 n] w fun e w' => e = .returned (.bool (decide (n = 0))) ∧ w = w' := by
  go_enter Tryz.func93, Tryz.ntmps93
  go_wp2
  go_ret
  exact ⟨by congr 2, rfl⟩

theorem setCell_self {w : World} {b i : Nat} {v : Value} (h : w.cell? ⟨b, i, none⟩ = some v) : w.setCell ⟨b, i, none⟩ v = w := by
  have hh : w.heap.modify b (fun | .cells c elem frozen => .cells (c.setIfInBounds i v) elem frozen | o => o) = w.heap := by
    apply Array.ext_getElem?
    intro j
    rw [Array.getElem?_modify]
    split
    · rename_i e
      subst e
      rcases hb : w.heap[b]? with _ | o
      · rfl
      · cases o with
        | cells cs t r =>
          simp [World.cell?, hb] at h
          simp
          apply Array.ext_getElem?
          intro k
          rw [Array.getElem?_setIfInBounds]
          split
          · rename_i e
            subst e
            split
            · exact h.symm
            · rename_i hk
              simp [hk] at h
          · rfl
        | _ => rfl
    · rfl
  exact congrArg (fun h => { w with heap := h }) hh

theorem step_any (n : Int) (d i : Nat) (w : World) (hc : w.cell? ⟨d, i, none⟩ = some (.int .i64 n)) (hf : w.frozen? ⟨d, i, none⟩ = false) (h1 : -1 ≤ n) (h2 : n ≤ 9223372036854775807) :
    Calls Tryz.prog 94 #[.pointer (some ⟨d, i, none⟩)] w fun e w' => e = .returned (.tuple #[]) ∧ w' = w.setCell ⟨d, i, none⟩ (.int .i64 (stepC n)) := by
  by_cases hn : n = -1
  · subst hn
    go_enter Tryz.func94, Tryz.ntmps94
    go_wp2
    go_end0
    refine ⟨rfl, ?_⟩
    simp [stepC]
    exact (setCell_self hc).symm
  · have hn' : decide (n = -1) = false := by simp [hn]
    have hs : stepC n = n - 1 := by simp [stepC, hn]
    rw [hs]
    clear hs
    go_enter Tryz.func94, Tryz.ntmps94
    go_wp2
    go_end0
    exact ⟨rfl, rfl⟩

theorem set_no (n : Int) (p : Addr) (w : World) (hn : n < -1) : Calls Tryz.prog 73 #[.pointer (some p), .int .i64 n] w fun e w' => e = .returned (.int .i64 2) ∧ w' = w := by
  go_enter Tryz.func73, Tryz.ntmps73
  go_wp2
  go_ret
  exact ⟨rfl, rfl⟩
theorem set_yes (n : Int) (d i : Nat) (w : World) (v : Value) (hc : w.cell? ⟨d, i, none⟩ = some v) (hf : w.frozen? ⟨d, i, none⟩ = false) (hn : -1 ≤ n) :
    Calls Tryz.prog 73 #[.pointer (some ⟨d, i, none⟩), .int .i64 n] w fun e w' => e = .returned (.int .i64 0) ∧ w' = w.setCell ⟨d, i, none⟩ (.int .i64 n) := by
  go_enter Tryz.func73, Tryz.ntmps73
  go_wp2
  go_ret
  exact ⟨rfl, rfl⟩

theorem awake_nil (w : World) : Calls Tryz.prog 72 #[.pointer none] w fun e w' => e = .returned (.int .i64 1) ∧ w = w' := by
  go_enter Tryz.func72, Tryz.ntmps72
  go_wp2
  go_ret
  exact ⟨rfl, rfl⟩
theorem awake_any (w : World) (d : Nat) (b : Bool) (hc : w.cell? ⟨d, 5, none⟩ = some (.bool b)) : Calls Tryz.prog 72 #[.pointer (some ⟨d, 0, none⟩)] w fun e w' => e = .returned (.int .i64 (if b then 9 else 0)) ∧ w = w' := by
  cases b
  · go_enter Tryz.func72, Tryz.ntmps72
    go_wp2
    go_ret
    exact ⟨rfl, rfl⟩
  · go_enter Tryz.func72, Tryz.ntmps72
    go_wp2
    go_ret
    exact ⟨rfl, rfl⟩

theorem room_nil (w : World) : Calls Tryz.prog 79 #[.pointer none] w fun e w' => e = .returned (.int .i64 0) ∧ w = w' := by
  go_enter Tryz.func79, Tryz.ntmps79
  go_wp2
  go_ret
  exact ⟨rfl, rfl⟩
theorem room_any (w : World) (d : Nat) (n : Int) (hc : w.cell? ⟨d, 0, none⟩ = some (.int .i64 n)) : Calls Tryz.prog 79 #[.pointer (some ⟨d, 0, none⟩)] w fun e w' => e = .returned (.int .i64 n) ∧ w = w' := by
  go_enter Tryz.func79, Tryz.ntmps79
  go_wp2
  go_ret
  exact ⟨rfl, rfl⟩
theorem ops_nil (w : World) : Calls Tryz.prog 38 #[.pointer none] w fun e w' => e = .returned (.int .i64 0) ∧ w = w' := by
  go_enter Tryz.func38, Tryz.ntmps38
  go_wp2
  go_ret
  exact ⟨rfl, rfl⟩
theorem ops_any (w : World) (d : Nat) (n : Int) (hc : w.cell? ⟨d, 4, none⟩ = some (.int .i64 n)) : Calls Tryz.prog 38 #[.pointer (some ⟨d, 0, none⟩)] w fun e w' => e = .returned (.int .i64 n) ∧ w = w' := by
  go_enter Tryz.func38, Tryz.ntmps38
  go_wp2
  go_ret
  exact ⟨rfl, rfl⟩
theorem dead_nil (w : World) : Calls Tryz.prog 39 #[.pointer none] w fun e w' => e = .returned (.bool false) ∧ w = w' := by
  go_enter Tryz.func39, Tryz.ntmps39
  go_wp2
  go_ret
  exact ⟨rfl, rfl⟩
theorem dead_any (w : World) (d : Nat) (b : Bool) (hc : w.cell? ⟨d, 5, none⟩ = some (.bool b)) : Calls Tryz.prog 39 #[.pointer (some ⟨d, 0, none⟩)] w fun e w' => e = .returned (.bool b) ∧ w = w' := by
  go_enter Tryz.func39, Tryz.ntmps39
  go_wp2
  go_ret
  exact ⟨rfl, rfl⟩

theorem size_nil (w : World) (k : Int) : Calls Tryz.prog 15 #[.pointer none, .int .i64 k] w fun e w' => e = .returned (.int .i64 0) ∧ w = w' := by
  go_enter Tryz.func15, Tryz.ntmps15
  go_wp2
  go_ret
  exact ⟨rfl, rfl⟩
set_option maxRecDepth 100000 in
theorem size_any {w : World} {S : Nat → Prop} {d : Nat} {M : AD} (h : DiskAt w S d M) {k : Int} (hk : I64 k) : Calls Tryz.prog 15 #[.pointer (some ⟨d, 0, none⟩), .int .i64 k] w fun e w' => e = .returned (.int .i64 (M.len k)) ∧ w = w' := by
  obtain ⟨mb, f, A, c, h⟩ := h
  have hc1 := h.c1
  have hl := h.look hk
  obtain ⟨A', c', n, s, kp, e, hn, _⟩ := fileAt_form M A c k
  rw [e] at hl
  have HN := Lib.hid hn
  have hfd := field0 (.slice A' n c') (.int .i64 s) (.bool kp) w
  clear h e hn
  go_enter Tryz.func15, Tryz.ntmps15
  go_wp2
  go_ret
  exact ⟨by rw [HN.out]; rfl, rfl⟩
set_option maxRecDepth 100000 in
theorem has_any {w : World} {S : Nat → Prop} {d : Nat} {M : AD} (h : DiskAt w S d M) {k : Int} (hk : I64 k) : Calls Tryz.prog 96 #[.pointer (some ⟨d, 0, none⟩), .int .i64 k] w fun e w' => e = .returned (.bool (M.files k).isSome) ∧ Below w.heap.size w w' := by
  obtain ⟨mb, f, A, c, h⟩ := h
  have hc1 := h.c1
  have hl := h.look2 hk
  obtain ⟨A', c', n, s, kp, e, hn, _⟩ := fileAt_form M A c k
  rw [e] at hl
  clear h e hn
  go_enter Tryz.func96, Tryz.ntmps96
  go_wp2
  go_ret
  exact ⟨rfl, (Below.refl _ w).alloc (Nat.le_refl _) _⟩

end Go.Proofs.YtienabfilnpieaaGreat
