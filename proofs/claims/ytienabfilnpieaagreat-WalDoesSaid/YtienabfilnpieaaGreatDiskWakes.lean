/-
  The layer does something: wakes answers true.
-/
import Derived.Test.YtienabfilnpieaaGreatDiskEq
namespace Go.Proofs.YtienabfilnpieaaGreat
open Go.RowKit
set_option linter.unusedVariables false
set_option maxRecDepth 100000

def wk0 : AD := AD.new 40
def wk1 : AD := wk0.appendM 0 (List.replicate 10 0)
def wk2 : AD := wk1.opM 0 [] (wk1.met.put 0 (wk1.file 0).settled)
def wk3 : AD := wk2.appendM 0 (List.replicate 20 0)
def wk4 : AD := wk3.crash [true, false, true]
theorem wk_c1 : wk0.appendC 0 10 = 0 := by decide +kernel
theorem wk_c2 : wk1.opC 0 [] = 0 := by decide +kernel
theorem wk_c3 : wk2.appendC 0 20 = 0 := by decide +kernel
theorem wk_p : wk3.pend = [0, 0, 0] := by decide +kernel
theorem wk_l : wk4.len 0 = 18 := by decide +kernel
theorem wk_o0 : wk0.ops < 4611686018427387904 := by decide +kernel
theorem wk_o1 : wk1.ops < 4611686018427387904 := by decide +kernel
theorem wk_o2 : wk2.ops < 4611686018427387904 := by decide +kernel

/-- New bytes that are all nought. -/
theorem zeros_rd (w : World) (n : Nat) (t : TypeId) : Rd (w.alloc (.cells (Array.replicate n (.int .u8 0)) t)) (w.heap.size + 1) (some ⟨w.heap.size, 0, none⟩) (List.replicate n 0) := by
  intro hp
  refine ⟨w.heap.size, 0, rfl, by omega, fun j hj => ?_⟩
  rw [cell_new]
  have hj' : j < n := by simpa using hj
  simp [hj', List.getD]

theorem make10 (w : World) : (Instr.makeSlice 33 (.int .i64 10) (.int .i64 10)).run Tryz.prog w = .ok (.slice (some ⟨w.heap.size, 0, none⟩) 10 10) (w.alloc (.cells (Array.replicate 10 (.int .u8 0)) 5)) := by kernel_rfl
theorem make20 (w : World) : (Instr.makeSlice 33 (.int .i64 20) (.int .i64 20)).run Tryz.prog w = .ok (.slice (some ⟨w.heap.size, 0, none⟩) 20 20) (w.alloc (.cells (Array.replicate 20 (.int .u8 0)) 5)) := by kernel_rfl

/-- A disk of the call's own, from w0 on. -/
structure LiveS (w0 : World) (S : Nat → Prop) (w : World) (d : Nat) (M : AD) : Prop where
  at_ : DiskAt w S d M
  up : ∀ k, S k → w0.heap.size ≤ k
  bel : Below w0.heap.size w0 w
def Live (w0 w : World) (d : Nat) (M : AD) : Prop := ∃ S, LiveS w0 S w d M
section
variable {w0 w w' : World} {S : Nat → Prop} {d : Nat} {M M' : AD}
theorem LiveS.after (h : LiveS w0 S w d M) (ha : After S d w M' w') : LiveS w0 (grew S w w') w' d M' := by
  have hb := h.bel.size
  refine ⟨ha.1, fun k hk => hk.elim (h.up k) (fun e => by omega), ?_⟩
  have ht := ha.2
  exact ⟨ht.os.trans h.bel.os, ht.tape.trans h.bel.tape, ht.output.trans h.bel.output, Nat.le_trans hb ht.size, fun k hk => (ht.block k (by omega) (fun e => by have := h.up k e; omega)).trans (h.bel.block k hk)⟩
theorem LiveS.later (h : LiveS w0 S w d M) (hb : Below w.heap.size w w') : LiveS w0 S w' d M := ⟨h.at_.later hb, h.up, h.bel.trans (hb.mono h.bel.size)⟩
theorem LiveS.turn (h : LiveS w0 S w d M) (ht : Turn S w w') (hd : DiskAt w' S d M') : LiveS w0 S w' d M' := by
  have hb := h.bel.size
  exact ⟨hd, h.up, ⟨ht.os.trans h.bel.os, ht.tape.trans h.bel.tape, ht.output.trans h.bel.output, Nat.le_trans hb ht.size, fun k hk => (ht.block k (by omega) (fun e => by have := h.up k e; omega)).trans (h.bel.block k hk)⟩⟩
end

end Go.Proofs.YtienabfilnpieaaGreat
