/-
  What an operation meets; a new disk; the names of the files that are there.
-/
import Derived.Test.YtienabfilnpieaaGreatDiskTold
import Derived.OwnWalk
import Derived.Carry
namespace Go.Proofs.YtienabfilnpieaaGreat
open Go.RowKit
set_option linter.unusedVariables false

theorem Ok.met {M : AD} (h : M.Ok) (hops : M.ops < 4611686018427387904) : M.met.Ok := by
  have h1 := h.arm1
  have h2 := h.arm2
  have h3 := h.fail1
  have h4 := h.fail2
  have h5 := h.ops0
  unfold AD.met
  split
  · exact ⟨h.room1, h.room2, h.tot, h1, h2, h3, h4, by simp; omega, by simp; omega, h.names, h.syn⟩
  · refine ⟨h.room1, h.room2, h.tot, ?_, ?_, ?_, ?_, by simp; omega, by simp; omega, h.names, h.syn⟩ <;> simp [stepC] <;> split <;> omega

set_option maxHeartbeats 400000 in
theorem meet_any {w : World} {S : Nat → Prop} {d mb : Nat} {M : AD} {f : Int → Option Value} {A : Int → Option Addr} {c : Int → Nat} (h : DiskIn w S d M mb f A c) (hops : M.ops < 4611686018427387904) :
    Calls Tryz.prog 45 #[.pointer (some ⟨d, 0, none⟩)] w fun e w' => e = .returned (.int .i64 M.err) ∧ DiskIn w' S d M.met mb f A c ∧ w.grownBy w' (some d) := by
  have hc4 := h.c4
  have hf4 := h.fz 4
  have ok := h.ok
  have hbo1 := ok.ops0
  have hok' := Ok.met ok hops
  -- behind the count
  obtain ⟨w1, hw1⟩ : ∃ w1, w1 = w.setCell ⟨d, 4, none⟩ (.int .i64 (M.ops + 1)) := ⟨_, rfl⟩
  have g1 : w.grownBy w1 (some d) := by rw [hw1]; exact (Only.refl d w).set (.inl rfl) _
  have b1 := heap_set h.head 4 (.int .i64 (M.ops + 1))
  rw [← hw1] at b1
  have e1 : (headCells M mb).setIfInBounds 4 (.int .i64 (M.ops + 1)) = headCells { M with ops := M.ops + 1 } mb := rfl
  rw [e1] at b1
  have hc2 : w1.cell? ⟨d, 2, none⟩ = some (.int .i64 M.armed) := by simp [World.cell?, b1, headCells]
  have hc3 : w1.cell? ⟨d, 3, none⟩ = some (.int .i64 M.failing) := by simp [World.cell?, b1, headCells]
  have hc5 : w1.cell? ⟨d, 5, none⟩ = some (.bool M.dead) := by simp [World.cell?, b1, headCells]
  have hf2 : w1.frozen? ⟨d, 2, none⟩ = false := by simp [World.frozen?, b1]
  have hf3 : w1.frozen? ⟨d, 3, none⟩ = false := by simp [World.frozen?, b1]
  have hf5 : w1.frozen? ⟨d, 5, none⟩ = false := by simp [World.frozen?, b1]
  have hq2 := h.c2
  have hq3 := h.c3
  have hq5 := h.c5
  have hp2 := h.fz 2
  have hp3 := h.fz 3
  have hp5 := h.fz 5
  have HW := Lib.hid hw1
  have B1 := Lib.hid b1
  have G1 := Lib.hid g1
  have HH := Lib.hid h
  have OK := Lib.hid hok'
  have ha1 := ok.arm1
  have ha2 := ok.arm2
  have hx1 := ok.fail1
  have hx2 := ok.fail2
  clear h ok hok' b1 g1 e1 hw1
  by_cases ha : M.armed = 0
  · have hd : decide (M.armed = 0) = true := by simp [ha]
    have he : M.err = 9 := by simp [AD.err, ha]
    rw [he]
    go_enter Tryz.func45, Tryz.ntmps45
    go_wp2_with (first
      | (go_at_call 93; refine (due_any 0 _).mono ?_; rintro e w' ⟨rfl, rfl⟩))
    go_ret
    rw [← HW.out]
    refine ⟨rfl, ?_, ?_⟩
    · refine HH.out.setHead (G1.out.trans ((Only.refl d w1).set (.inl rfl) _)) ?_ (by simp [AD.met, ha]) OK.out
      rw [heap_set B1.out]
      simp [AD.met, ha, headCells]
    · exact G1.out.trans ((Only.refl d w1).set (.inl rfl) _)
  · have hd : decide (M.armed = 0) = false := by simp [ha]
    obtain ⟨w2, hw2⟩ : ∃ w2, w2 = w1.setCell ⟨d, 2, none⟩ (.int .i64 (stepC M.armed)) := ⟨_, rfl⟩
    have g2 : w1.grownBy w2 (some d) := by rw [hw2]; exact (Only.refl d w1).set (.inl rfl) _
    have b2 := heap_set B1.out 2 (.int .i64 (stepC M.armed))
    rw [← hw2] at b2
    have e2 : (headCells { M with ops := M.ops + 1 } mb).setIfInBounds 2 (.int .i64 (stepC M.armed)) = headCells { M with ops := M.ops + 1, armed := stepC M.armed } mb := rfl
    rw [e2] at b2
    have hk3 : w2.cell? ⟨d, 3, none⟩ = some (.int .i64 M.failing) := by simp [World.cell?, b2, headCells]
    have hg3 : w2.frozen? ⟨d, 3, none⟩ = false := by simp [World.frozen?, b2]
    have B2 := Lib.hid b2
    have G2 := Lib.hid g2
    have HW2 := Lib.hid hw2
    clear b2 g2 e2 hw2
    have fin : DiskIn (w2.setCell ⟨d, 3, none⟩ (.int .i64 (stepC M.failing))) S d M.met mb f A c ∧ w.grownBy (w2.setCell ⟨d, 3, none⟩ (.int .i64 (stepC M.failing))) (some d) := by
      have hg := (G1.out.trans G2.out).trans ((Only.refl d w2).set (p := ⟨d, 3, none⟩) (.inl rfl) (.int .i64 (stepC M.failing)))
      refine ⟨HH.out.setHead hg ?_ (by simp [AD.met, ha]) OK.out, hg⟩
      rw [heap_set B2.out]
      simp [AD.met, ha, headCells]
    have FIN := Lib.hid fin
    have HK3 := Lib.hid hk3
    clear fin hk3
    by_cases hx : M.failing = 0
    · have hd2 : decide (M.failing = 0) = true := by simp [hx]
      have he : M.err = 8 := by simp [AD.err, ha, hx]
      rw [he]
      go_enter Tryz.func45, Tryz.ntmps45
      have tok1 : True := trivial
      have tok2 : True := trivial
      go_wp2_with (first
        | (go_at_call 93; have _t := tok1; clear tok1; refine (due_any M.armed _).mono ?_; rw [hd]; rintro e w' ⟨rfl, rfl⟩)
        | (go_at_call 93; refine (due_any 0 _).mono ?_; rintro e w' ⟨rfl, rfl⟩)
        | (go_at_call 94; have _t := tok2; rw [← HW.out]; refine (step_any M.armed d 2 _ hc2 hf2 ha1 ha2).mono ?_; rw [← HW2.out]; rintro e w' ⟨rfl, rfl⟩; clear tok2)
        | (go_at_call 94; refine (step_any M.failing d 3 _ HK3.out hg3 hx1 hx2).mono ?_; rintro e w' ⟨rfl, rfl⟩))
      go_ret
      exact ⟨rfl, by have := FIN.out; rw [hx] at this; exact this⟩
    · have hd2 : decide (M.failing = 0) = false := by simp [hx]
      have he : M.err = 0 := by simp [AD.err, ha, hx]
      rw [he]
      go_enter Tryz.func45, Tryz.ntmps45
      have tok1 : True := trivial
      have tok2 : True := trivial
      go_wp2_with (first
        | (go_at_call 93; have _t := tok1; clear tok1; refine (due_any M.armed _).mono ?_; rw [hd]; rintro e w' ⟨rfl, rfl⟩)
        | (go_at_call 93; refine (due_any M.failing _).mono ?_; rw [hd2]; rintro e w' ⟨rfl, rfl⟩)
        | (go_at_call 94; have _t := tok2; rw [← HW.out]; refine (step_any M.armed d 2 _ hc2 hf2 ha1 ha2).mono ?_; rw [← HW2.out]; rintro e w' ⟨rfl, rfl⟩; clear tok2)
        | (go_at_call 94; refine (step_any M.failing d 3 _ HK3.out hg3 hx1 hx2).mono ?_; rintro e w' ⟨rfl, rfl⟩))
      go_ret
      exact ⟨rfl, FIN.out⟩


/-! ### a new disk -/
def AD.new (room : Int) : AD := ⟨room, fun _ => none, -1, -1, 0, false⟩

theorem new_no (w : World) (n : Int) (h : n < 1 ∨ 65536 < n) : Calls Tryz.prog 7 #[.int .i64 n] w fun e w' => e = .returned (.tuple #[.pointer none, .int .i64 2]) ∧ w = w' := by
  by_cases h1 : n < 1
  · go_enter Tryz.func7, Tryz.ntmps7
    go_wp2
    go_ret2
    exact ⟨rfl, rfl⟩
  · have h2 : 65536 < n := by omega
    go_enter Tryz.func7, Tryz.ntmps7
    go_wp2
    go_ret2
    exact ⟨rfl, rfl⟩

set_option maxHeartbeats 400000 in
theorem new_yes (w : World) (n : Int) (h1 : 1 ≤ n) (h2 : n ≤ 65536) : Calls Tryz.prog 7 #[.int .i64 n] w fun e w' => e = .returned (.tuple #[.pointer (some ⟨w.heap.size + 1, 0, none⟩), .int .i64 0]) ∧
    DiskAt w' (fun k => k = w.heap.size ∨ k = w.heap.size + 1) (w.heap.size + 1) (AD.new n) ∧ Below w.heap.size w w' := by
  have hmm := @run_makeMap Tryz.prog
  go_enter Tryz.func7, Tryz.ntmps7
  go_wp2
  go_ret2
  refine ⟨by simp, ?_, ?_⟩
  · have hm := MapAt.made w
    have hh : ((w.alloc (.map #[] 0)).alloc (.cells (headCells (AD.new n) w.heap.size) 69)).heap[w.heap.size + 1]? = some (.cells (headCells (AD.new n) w.heap.size) 69 (0, 0)) := by
      have := heap_alloc_new (w.alloc (.map #[] 0)) (.cells (headCells (AD.new n) w.heap.size) 69)
      simpa using this
    refine ⟨w.heap.size, fun _ => none, fun _ => none, fun _ => 0, hh, ⟨hm.same (Below.heap_alloc _ _ _ (by simp)), .inl rfl, fun k F e => by simp [AD.new] at e, fun k _ => rfl, fun j k _ e => by simp [AD.new] at e⟩, ?_, .inr rfl, ?_⟩
    · refine ⟨h1, h2, ?_, by simp [AD.new], by simp [AD.new], by simp [AD.new], by simp [AD.new], by simp [AD.new], by simp [AD.new], fun k e => by simp [AD.new] at e, fun k F e => by simp [AD.new] at e⟩
      simp [AD.total, AD.len, AD.new]; omega
    · intro k hk
      simp
      omega
  · exact ((Below.refl _ w).alloc (Nat.le_refl _) _).alloc (by simp) _

end Go.Proofs.YtienabfilnpieaaGreat
