/-
  The layer does something: wakes answers true.
-/
import Derived.Test.YthpbgejjfdgpaaaDiskEq
namespace Go.Proofs.Ythpbgejjfdgpaaa
open Go.RowKit
set_option linter.unusedVariables false
set_option maxRecDepth 100000

def wk0 : AD := AD.new 40
def wk1 : AD := wk0.appendM 0 (List.replicate 10 0)
def wk2 : AD := wk1.opM 0 [] (wk1.met.put 0 (wk1.file 0).settled)
def wk3 : AD := wk2.appendM 0 (List.replicate 20 0)
def wk4 : AD := wk3.crash [true, false, true]
theorem wk_c1 : wk0.appendC 0 10 = 0 := by decide +kernel
theorem wk_c2 : wk1.opC 0 [] = 0 := by decide +kernel
theorem wk_c3 : wk2.appendC 0 20 = 0 := by decide +kernel
theorem wk_p : wk3.pend = [0, 0, 0] := by decide +kernel
theorem wk_l : wk4.len 0 = 18 := by decide +kernel
theorem wk_o0 : wk0.ops < 4611686018427387904 := by decide +kernel
theorem wk_o1 : wk1.ops < 4611686018427387904 := by decide +kernel
theorem wk_o2 : wk2.ops < 4611686018427387904 := by decide +kernel

/-- New bytes that are all nought. -/
theorem zeros_rd (w : World) (n : Nat) (t : TypeId) : Rd (w.alloc (.cells (Array.replicate n (.int .u8 0)) t)) (w.heap.size + 1) (some ⟨w.heap.size, 0, none⟩) (List.replicate n 0) := by
  intro hp
  refine ⟨w.heap.size, 0, rfl, by omega, fun j hj => ?_⟩
  rw [cell_new]
  have hj' : j < n := by simpa using hj
  simp [hj', List.getD]

theorem make10 (w : World) : (Instr.makeSlice 28 (.int .i64 10) (.int .i64 10)).run Try.prog w = .ok (.slice (some ⟨w.heap.size, 0, none⟩) 10 10) (w.alloc (.cells (Array.replicate 10 (.int .u8 0)) 5)) := by kernel_rfl
theorem make20 (w : World) : (Instr.makeSlice 28 (.int .i64 20) (.int .i64 20)).run Try.prog w = .ok (.slice (some ⟨w.heap.size, 0, none⟩) 20 20) (w.alloc (.cells (Array.replicate 20 (.int .u8 0)) 5)) := by kernel_rfl

/-- A disk of the call's own, from w0 on. -/
structure LiveS (w0 : World) (S : Nat → Prop) (w : World) (d : Nat) (M : AD) : Prop where
  at_ : DiskAt w S d M
  up : ∀ k, S k → w0.heap.size ≤ k
  bel : Below w0.heap.size w0 w
def Live (w0 w : World) (d : Nat) (M : AD) : Prop := ∃ S, LiveS w0 S w d M
section
variable {w0 w w' : World} {S : Nat → Prop} {d : Nat} {M M' : AD}
theorem LiveS.after (h : LiveS w0 S w d M) (ha : After S d w M' w') : LiveS w0 (grew S w w') w' d M' := by
  have hb := h.bel.size
  refine ⟨ha.1, fun k hk => hk.elim (h.up k) (fun e => by omega), ?_⟩
  have ht := ha.2
  exact ⟨ht.os.trans h.bel.os, ht.tape.trans h.bel.tape, ht.output.trans h.bel.output, Nat.le_trans hb ht.size, fun k hk => (ht.block k (by omega) (fun e => by have := h.up k e; omega)).trans (h.bel.block k hk)⟩
theorem LiveS.later (h : LiveS w0 S w d M) (hb : Below w.heap.size w w') : LiveS w0 S w' d M := ⟨h.at_.later hb, h.up, h.bel.trans (hb.mono h.bel.size)⟩
theorem LiveS.turn (h : LiveS w0 S w d M) (ht : Turn S w w') (hd : DiskAt w' S d M') : LiveS w0 S w' d M' := by
  have hb := h.bel.size
  exact ⟨hd, h.up, ⟨ht.os.trans h.bel.os, ht.tape.trans h.bel.tape, ht.output.trans h.bel.output, Nat.le_trans hb ht.size, fun k hk => (ht.block k (by omega) (fun e => by have := h.up k e; omega)).trans (h.bel.block k hk)⟩⟩
end

set_option maxHeartbeats 4000000 in
theorem wakes_any (w : World) : Calls Try.prog 9 #[] w fun e w' => e = .returned (.bool true) ∧ Below w.heap.size w w' := by
  go_enter Try.func9, Try.ntmps9
  have hm10 := make10
  have hm20 := make20
  have tok1 : True := trivial
  go_wp2_with (first
    | (go_at_call 10; refine (new_yes _ 40 (by omega) (by omega)).mono ?_; rintro e w1 ⟨rfl, hd1, hb1⟩; obtain ⟨d, hd⟩ : ∃ d, d = w.heap.size + 1 := ⟨_, rfl⟩; rw [← hd] at hd1 ⊢; obtain ⟨S1, hS1⟩ : ∃ S1, LiveS w S1 w1 d wk0 := ⟨_, hd1, fun k hk => (by rcases hk with e | e <;> omega), hb1⟩; have L1 := Lib.hid hS1; clear hd1 hb1 hd hS1)
    | (go_at_call 36; have _t := tok1; clear tok1; have L1' := L1.out.later ((Below.refl _ w1).alloc (Nat.le_refl _) (.cells (Array.replicate 10 (.int .u8 0)) 5)); refine (append_any L1'.at_ (k := 0) (by decide) wk_o0 (some ⟨w1.heap.size, 0, none⟩) 10 10 (List.replicate 10 0) rfl (by omega) ((zeros_rd w1 10 _).wide (by simp))).mono ?_; rw [wk_c1]; rintro e w2 ⟨rfl, haf⟩; obtain ⟨S2, hS2⟩ : ∃ S2, LiveS w S2 w2 d wk1 := ⟨_, L1'.after haf⟩; have L2 := Lib.hid hS2; clear haf hS2 L1')
    | (go_at_call 30; refine (sync_any L2.out.at_ (k := 0) (by decide) wk_o1).mono ?_; rw [wk_c2]; rintro e w3 ⟨rfl, haf⟩; obtain ⟨S3, hS3⟩ : ∃ S3, LiveS w S3 w3 d wk2 := ⟨_, L2.out.after haf⟩; have L3 := Lib.hid hS3; clear haf hS3)
    | (go_at_call 36; have L3' := L3.out.later ((Below.refl _ w3).alloc (Nat.le_refl _) (.cells (Array.replicate 20 (.int .u8 0)) 5)); refine (append_any L3'.at_ (k := 0) (by decide) wk_o2 (some ⟨w3.heap.size, 0, none⟩) 20 20 (List.replicate 20 0) rfl (by omega) ((zeros_rd w3 20 _).wide (by simp))).mono ?_; rw [wk_c3]; rintro e w4 ⟨rfl, haf⟩; obtain ⟨S4, hS4⟩ : ∃ S4, LiveS w S4 w4 d wk3 := ⟨_, L3'.after haf⟩; have L4 := Lib.hid hS4; clear haf hS4 L3')
    | (go_at_call 22; refine (pending_any L4.out.at_).mono ?_; rw [wk_p]; rintro e w5 ⟨v5, rfl, hown5, hb5⟩; obtain ⟨A5, c5, rfl, hc5, _⟩ := own_form hown5; have L5 := Lib.hid (L4.out.later hb5); have HO5 := Lib.hid hown5; clear hown5 hb5)
    | (go_at_call 31; refine (equalI A5 _ c5 3 [0, 0, 0] _ (RdI.own (HO5.out.alloc _)) (fun _ => ⟨w5.heap.size, 0, rfl, fun j hj => (by have : j = 0 ∨ j = 1 ∨ j = 2 := (by simp at hj; omega); rcases this with rfl | rfl | rfl <;> (rw [cell_new]; rfl))⟩) (by simp) hc5 (by simp)).mono ?_; rintro e w6 ⟨rfl, hb6⟩; have L6 := Lib.hid ((L5.out.later ((Below.refl _ w5).alloc (Nat.le_refl _) _)).later hb6); clear hb6)
    | (go_at_call 27; have L6' := L6.out.later ((Below.refl _ w6).alloc (Nat.le_refl _) (.cells #[.bool true, .bool false, .bool true] 4)); refine (crash_any L6'.at_ (some ⟨w6.heap.size, 0, none⟩) 3 [true, false, true] (fun _ => ⟨w6.heap.size, 0, rfl, (by simp), fun j hj => (by have : j = 0 ∨ j = 1 ∨ j = 2 := (by simp at hj; omega); rcases this with rfl | rfl | rfl <;> (rw [cell_new]; rfl))⟩) (by simp) (by simp)).mono ?_; rintro e w7 ⟨rfl, haf⟩; obtain ⟨S7, hS7⟩ : ∃ S7, LiveS w S7 w7 d wk4 := ⟨_, L6'.after haf⟩; have L7 := Lib.hid hS7; clear haf hS7 L6')
    | (go_at_call 21; refine (size_any L7.out.at_ (k := 0) (by decide)).mono ?_; rw [wk_l]; rintro e w8 ⟨rfl, rfl⟩))
  go_ret
  exact ⟨rfl, L7.out.bel⟩

end Go.Proofs.Ythpbgejjfdgpaaa
