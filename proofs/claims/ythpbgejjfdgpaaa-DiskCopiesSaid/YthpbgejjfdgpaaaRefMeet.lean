/-
  The document's Meet.
-/
import Derived.Test.YthpbgejjfdgpaaaRefBase
namespace Go.Proofs.Ythpbgejjfdgpaaa
open Go.RowKit
set_option linter.unusedVariables false
set_option maxRecDepth 100000

/-- One less, if there is any. -/
def downA (a : Int) : Int := if 0 < a then a - 1 else a
def downF (a : Int) : Int := if 0 ≤ a then a - 1 else a
def RD.met (D : RD) : RD := { D with ops := D.ops + 1, armed := downA D.armed, failing := downF D.failing, dead := if D.armed = 0 then true else D.dead }
def RD.err (D : RD) : Int := if D.armed = 0 then 9 else if D.failing = 0 then 8 else 0
structure RD.Small (D : RD) : Prop where
  o1 : 0 ≤ D.ops
  o2 : D.ops < 4611686018427387904
  a1 : -1 ≤ D.armed
  a2 : D.armed ≤ 9223372036854775807
  f1 : -1 ≤ D.failing
  f2 : D.failing ≤ 9223372036854775807

/-- A call that answers a disk and an error. -/
def GivesR (w : World) (D : RD) (c : Int) (e : Ending) (w' : World) : Prop := e = .returned (.tuple #[.agg (rdA D), .int .i64 c]) ∧ Below w.heap.size w w'

set_option maxHeartbeats 2000000 in
theorem meet_ref (D : RD) (w : World) (hs : D.Small) : Calls Try.prog 76 #[.agg (rdA D)] w (GivesR w D.met D.err) := by
  obtain ⟨o1, o2, a1, a2, f1, f2⟩ := hs
  go_enter Try.func76, Try.ntmps76
  go_upto_region 1 with fail
  refine name_world (fun W => BoxR w w.heap.size D W ∧ BoxR w (w.heap.size + 1) zeroR W) (two_boxes w D) ?_
  rintro W1 ⟨hD, hR⟩
  have H1 := Lib.hid hD
  have HR1 := Lib.hid hR
  have y17 := hD.c17
  have z17 := hD.fz 17
  have y18 := hD.c18
  have z18 := hD.fz 18
  have y19 := hD.c19
  have z19 := hD.fz 19
  have z20 := hD.fz 20
  have y20 := hD.c20
  clear hD hR
  have ca : D.armed = 0 ∨ 0 < D.armed ∨ D.armed < 0 := by omega
  have cf : D.failing = 0 ∨ 0 < D.failing ∨ D.failing < 0 := by omega
  rcases ca with ha | ha | ha
  · have t1 : (D.armed == 0) = true := by simp [ha]
    have t2 : decide (0 < D.armed) = false := by simp; omega
    have HA := Lib.hid ha
    clear ha
    rcases cf with hf | hf | hf
    · have t3 : (D.failing == 0) = true := by simp [hf]
      have t4 : decide (0 ≤ D.failing) = true := by simp; omega
      have HF := Lib.hid hf
      clear hf
      have hm : Hid (D.met = { D with ops := D.ops + 1, failing := D.failing - 1, dead := true }) := by unfold Hid RD.met downA downF; rw [if_neg (by have := HA.out; omega), if_pos (by have := HF.out; omega), if_pos HA.out]
      have he : Hid (D.err = 9) := by unfold Hid RD.err; rw [if_pos HA.out]
      go_upto_region 2 with fail
      go_quiet (fail)
      go_upto_region 9 with fail
      refine name_world (fun W => BoxR w w.heap.size { D with ops := D.ops + 1, failing := D.failing - 1, dead := true } W ∧ BoxR w (w.heap.size + 1) zeroR W) ⟨(((H1.out.set (Nat.le_refl _) 17 _ (D' := { D with ops := D.ops + 1 }) rfl).drewN _).set (Nat.le_refl _) 19 _ (D' := { D with ops := D.ops + 1, failing := D.failing - 1 }) rfl).set (Nat.le_refl _) 20 _ (D' := { D with ops := D.ops + 1, failing := D.failing - 1, dead := true }) rfl, (((HR1.out.setOther (p := ⟨w.heap.size, 17, none⟩) (Nat.le_refl _) (by simp) _).drewN _).setOther (p := ⟨w.heap.size, 19, none⟩) (Nat.le_refl _) (by simp) _).setOther (p := ⟨w.heap.size, 20, none⟩) (Nat.le_refl _) (by simp) _⟩ ?_
      rw [← hm.out]
      rintro W5 ⟨hD5, hR5⟩
      have HD5 := Lib.hid hD5
      have HR5 := Lib.hid hR5
      clear hD5 hR5 y17 z17 y18 z18 y19 z19 y20 z20 hm
      generalize D.met = E at *
      go_wp2_with (first | (refine wp_loadR rfl _ rfl rfl HD5.out ?_) | (refine wp_storeR rfl _ _ rfl rfl rfl HR5.out ?_))
      refine bodyPost_ret (v := .tuple #[.agg (rdA E), .int .i64 9]) (results_two rfl rfl (HR5.out.fill (Nat.le_succ _) E) rfl) rfl ⟨by rw [he.out], (HR5.out.fill (Nat.le_succ _) E).bel⟩
    · have t3 : (D.failing == 0) = false := by rw [beq_eq_false_iff_ne]; omega
      have t4 : decide (0 ≤ D.failing) = true := by simp; omega
      have HF := Lib.hid hf
      clear hf
      have hm : Hid (D.met = { D with ops := D.ops + 1, failing := D.failing - 1, dead := true }) := by unfold Hid RD.met downA downF; rw [if_neg (by have := HA.out; omega), if_pos (by have := HF.out; omega), if_pos HA.out]
      have he : Hid (D.err = 9) := by unfold Hid RD.err; rw [if_pos HA.out]
      go_upto_region 2 with fail
      go_quiet (fail)
      go_upto_region 9 with fail
      refine name_world (fun W => BoxR w w.heap.size { D with ops := D.ops + 1, failing := D.failing - 1, dead := true } W ∧ BoxR w (w.heap.size + 1) zeroR W) ⟨(((H1.out.set (Nat.le_refl _) 17 _ (D' := { D with ops := D.ops + 1 }) rfl).drewN _).set (Nat.le_refl _) 19 _ (D' := { D with ops := D.ops + 1, failing := D.failing - 1 }) rfl).set (Nat.le_refl _) 20 _ (D' := { D with ops := D.ops + 1, failing := D.failing - 1, dead := true }) rfl, (((HR1.out.setOther (p := ⟨w.heap.size, 17, none⟩) (Nat.le_refl _) (by simp) _).drewN _).setOther (p := ⟨w.heap.size, 19, none⟩) (Nat.le_refl _) (by simp) _).setOther (p := ⟨w.heap.size, 20, none⟩) (Nat.le_refl _) (by simp) _⟩ ?_
      rw [← hm.out]
      rintro W5 ⟨hD5, hR5⟩
      have HD5 := Lib.hid hD5
      have HR5 := Lib.hid hR5
      clear hD5 hR5 y17 z17 y18 z18 y19 z19 y20 z20 hm
      generalize D.met = E at *
      go_wp2_with (first | (refine wp_loadR rfl _ rfl rfl HD5.out ?_) | (refine wp_storeR rfl _ _ rfl rfl rfl HR5.out ?_))
      refine bodyPost_ret (v := .tuple #[.agg (rdA E), .int .i64 9]) (results_two rfl rfl (HR5.out.fill (Nat.le_succ _) E) rfl) rfl ⟨by rw [he.out], (HR5.out.fill (Nat.le_succ _) E).bel⟩
    · have t3 : (D.failing == 0) = false := by rw [beq_eq_false_iff_ne]; omega
      have t4 : decide (0 ≤ D.failing) = false := by simp; omega
      have HF := Lib.hid hf
      clear hf
      have hm : Hid (D.met = { D with ops := D.ops + 1, dead := true }) := by unfold Hid RD.met downA downF; rw [if_neg (by have := HA.out; omega), if_neg (by have := HF.out; omega), if_pos HA.out]
      have he : Hid (D.err = 9) := by unfold Hid RD.err; rw [if_pos HA.out]
      go_upto_region 2 with fail
      go_quiet (fail)
      go_upto_region 9 with fail
      refine name_world (fun W => BoxR w w.heap.size { D with ops := D.ops + 1, dead := true } W ∧ BoxR w (w.heap.size + 1) zeroR W) ⟨((H1.out.set (Nat.le_refl _) 17 _ (D' := { D with ops := D.ops + 1 }) rfl).drewN _).set (Nat.le_refl _) 20 _ (D' := { D with ops := D.ops + 1, dead := true }) rfl, ((HR1.out.setOther (p := ⟨w.heap.size, 17, none⟩) (Nat.le_refl _) (by simp) _).drewN _).setOther (p := ⟨w.heap.size, 20, none⟩) (Nat.le_refl _) (by simp) _⟩ ?_
      rw [← hm.out]
      rintro W5 ⟨hD5, hR5⟩
      have HD5 := Lib.hid hD5
      have HR5 := Lib.hid hR5
      clear hD5 hR5 y17 z17 y18 z18 y19 z19 y20 z20 hm
      generalize D.met = E at *
      go_wp2_with (first | (refine wp_loadR rfl _ rfl rfl HD5.out ?_) | (refine wp_storeR rfl _ _ rfl rfl rfl HR5.out ?_))
      refine bodyPost_ret (v := .tuple #[.agg (rdA E), .int .i64 9]) (results_two rfl rfl (HR5.out.fill (Nat.le_succ _) E) rfl) rfl ⟨by rw [he.out], (HR5.out.fill (Nat.le_succ _) E).bel⟩
  · have t1 : (D.armed == 0) = false := by rw [beq_eq_false_iff_ne]; omega
    have t2 : decide (0 < D.armed) = true := by simp [ha]
    have HA := Lib.hid ha
    clear ha
    rcases cf with hf | hf | hf
    · have t3 : (D.failing == 0) = true := by simp [hf]
      have t4 : decide (0 ≤ D.failing) = true := by simp; omega
      have HF := Lib.hid hf
      clear hf
      have hm : Hid (D.met = { D with ops := D.ops + 1, armed := D.armed - 1, failing := D.failing - 1 }) := by unfold Hid RD.met downA downF; rw [if_pos HA.out, if_pos (by have := HF.out; omega), if_neg (by have := HA.out; omega)]
      have he : Hid (D.err = 8) := by unfold Hid RD.err; rw [if_neg (by have := HA.out; omega), if_pos HF.out]
      go_upto_region 2 with fail
      go_quiet (fail)
      go_upto_region 11 with fail
      refine name_world (fun W => BoxR w w.heap.size { D with ops := D.ops + 1, armed := D.armed - 1, failing := D.failing - 1 } W ∧ BoxR w (w.heap.size + 1) zeroR W) ⟨(((H1.out.set (Nat.le_refl _) 17 _ (D' := { D with ops := D.ops + 1 }) rfl).drewN _).set (Nat.le_refl _) 18 _ (D' := { D with ops := D.ops + 1, armed := D.armed - 1 }) rfl).set (Nat.le_refl _) 19 _ (D' := { D with ops := D.ops + 1, armed := D.armed - 1, failing := D.failing - 1 }) rfl, (((HR1.out.setOther (p := ⟨w.heap.size, 17, none⟩) (Nat.le_refl _) (by simp) _).drewN _).setOther (p := ⟨w.heap.size, 18, none⟩) (Nat.le_refl _) (by simp) _).setOther (p := ⟨w.heap.size, 19, none⟩) (Nat.le_refl _) (by simp) _⟩ ?_
      rw [← hm.out]
      rintro W5 ⟨hD5, hR5⟩
      have HD5 := Lib.hid hD5
      have HR5 := Lib.hid hR5
      clear hD5 hR5 y17 z17 y18 z18 y19 z19 y20 z20 hm
      generalize D.met = E at *
      go_wp2_with (first | (refine wp_loadR rfl _ rfl rfl HD5.out ?_) | (refine wp_storeR rfl _ _ rfl rfl rfl HR5.out ?_))
      refine bodyPost_ret (v := .tuple #[.agg (rdA E), .int .i64 8]) (results_two rfl rfl (HR5.out.fill (Nat.le_succ _) E) rfl) rfl ⟨by rw [he.out], (HR5.out.fill (Nat.le_succ _) E).bel⟩
    · have t3 : (D.failing == 0) = false := by rw [beq_eq_false_iff_ne]; omega
      have t4 : decide (0 ≤ D.failing) = true := by simp; omega
      have HF := Lib.hid hf
      clear hf
      have hm : Hid (D.met = { D with ops := D.ops + 1, armed := D.armed - 1, failing := D.failing - 1 }) := by unfold Hid RD.met downA downF; rw [if_pos HA.out, if_pos (by have := HF.out; omega), if_neg (by have := HA.out; omega)]
      have he : Hid (D.err = 0) := by unfold Hid RD.err; rw [if_neg (by have := HA.out; omega), if_neg (by have := HF.out; omega)]
      go_upto_region 2 with fail
      go_quiet (fail)
      go_upto_region 12 with fail
      refine name_world (fun W => BoxR w w.heap.size { D with ops := D.ops + 1, armed := D.armed - 1, failing := D.failing - 1 } W ∧ BoxR w (w.heap.size + 1) zeroR W) ⟨(((H1.out.set (Nat.le_refl _) 17 _ (D' := { D with ops := D.ops + 1 }) rfl).drewN _).set (Nat.le_refl _) 18 _ (D' := { D with ops := D.ops + 1, armed := D.armed - 1 }) rfl).set (Nat.le_refl _) 19 _ (D' := { D with ops := D.ops + 1, armed := D.armed - 1, failing := D.failing - 1 }) rfl, (((HR1.out.setOther (p := ⟨w.heap.size, 17, none⟩) (Nat.le_refl _) (by simp) _).drewN _).setOther (p := ⟨w.heap.size, 18, none⟩) (Nat.le_refl _) (by simp) _).setOther (p := ⟨w.heap.size, 19, none⟩) (Nat.le_refl _) (by simp) _⟩ ?_
      rw [← hm.out]
      rintro W5 ⟨hD5, hR5⟩
      have HD5 := Lib.hid hD5
      have HR5 := Lib.hid hR5
      clear hD5 hR5 y17 z17 y18 z18 y19 z19 y20 z20 hm
      generalize D.met = E at *
      go_wp2_with (first | (refine wp_loadR rfl _ rfl rfl HD5.out ?_) | (refine wp_storeR rfl _ _ rfl rfl rfl HR5.out ?_))
      refine bodyPost_ret (v := .tuple #[.agg (rdA E), .int .i64 0]) (results_two rfl rfl (HR5.out.fill (Nat.le_succ _) E) rfl) rfl ⟨by rw [he.out], (HR5.out.fill (Nat.le_succ _) E).bel⟩
    · have t3 : (D.failing == 0) = false := by rw [beq_eq_false_iff_ne]; omega
      have t4 : decide (0 ≤ D.failing) = false := by simp; omega
      have HF := Lib.hid hf
      clear hf
      have hm : Hid (D.met = { D with ops := D.ops + 1, armed := D.armed - 1 }) := by unfold Hid RD.met downA downF; rw [if_pos HA.out, if_neg (by have := HF.out; omega), if_neg (by have := HA.out; omega)]
      have he : Hid (D.err = 0) := by unfold Hid RD.err; rw [if_neg (by have := HA.out; omega), if_neg (by have := HF.out; omega)]
      go_upto_region 2 with fail
      go_quiet (fail)
      go_upto_region 12 with fail
      refine name_world (fun W => BoxR w w.heap.size { D with ops := D.ops + 1, armed := D.armed - 1 } W ∧ BoxR w (w.heap.size + 1) zeroR W) ⟨((H1.out.set (Nat.le_refl _) 17 _ (D' := { D with ops := D.ops + 1 }) rfl).drewN _).set (Nat.le_refl _) 18 _ (D' := { D with ops := D.ops + 1, armed := D.armed - 1 }) rfl, ((HR1.out.setOther (p := ⟨w.heap.size, 17, none⟩) (Nat.le_refl _) (by simp) _).drewN _).setOther (p := ⟨w.heap.size, 18, none⟩) (Nat.le_refl _) (by simp) _⟩ ?_
      rw [← hm.out]
      rintro W5 ⟨hD5, hR5⟩
      have HD5 := Lib.hid hD5
      have HR5 := Lib.hid hR5
      clear hD5 hR5 y17 z17 y18 z18 y19 z19 y20 z20 hm
      generalize D.met = E at *
      go_wp2_with (first | (refine wp_loadR rfl _ rfl rfl HD5.out ?_) | (refine wp_storeR rfl _ _ rfl rfl rfl HR5.out ?_))
      refine bodyPost_ret (v := .tuple #[.agg (rdA E), .int .i64 0]) (results_two rfl rfl (HR5.out.fill (Nat.le_succ _) E) rfl) rfl ⟨by rw [he.out], (HR5.out.fill (Nat.le_succ _) E).bel⟩
  · have t1 : (D.armed == 0) = false := by rw [beq_eq_false_iff_ne]; omega
    have t2 : decide (0 < D.armed) = false := by simp; omega
    have HA := Lib.hid ha
    clear ha
    rcases cf with hf | hf | hf
    · have t3 : (D.failing == 0) = true := by simp [hf]
      have t4 : decide (0 ≤ D.failing) = true := by simp; omega
      have HF := Lib.hid hf
      clear hf
      have hm : Hid (D.met = { D with ops := D.ops + 1, failing := D.failing - 1 }) := by unfold Hid RD.met downA downF; rw [if_neg (by have := HA.out; omega), if_pos (by have := HF.out; omega), if_neg (by have := HA.out; omega)]
      have he : Hid (D.err = 8) := by unfold Hid RD.err; rw [if_neg (by have := HA.out; omega), if_pos HF.out]
      go_upto_region 2 with fail
      go_quiet (fail)
      go_upto_region 11 with fail
      refine name_world (fun W => BoxR w w.heap.size { D with ops := D.ops + 1, failing := D.failing - 1 } W ∧ BoxR w (w.heap.size + 1) zeroR W) ⟨((H1.out.set (Nat.le_refl _) 17 _ (D' := { D with ops := D.ops + 1 }) rfl).drewN _).set (Nat.le_refl _) 19 _ (D' := { D with ops := D.ops + 1, failing := D.failing - 1 }) rfl, ((HR1.out.setOther (p := ⟨w.heap.size, 17, none⟩) (Nat.le_refl _) (by simp) _).drewN _).setOther (p := ⟨w.heap.size, 19, none⟩) (Nat.le_refl _) (by simp) _⟩ ?_
      rw [← hm.out]
      rintro W5 ⟨hD5, hR5⟩
      have HD5 := Lib.hid hD5
      have HR5 := Lib.hid hR5
      clear hD5 hR5 y17 z17 y18 z18 y19 z19 y20 z20 hm
      generalize D.met = E at *
      go_wp2_with (first | (refine wp_loadR rfl _ rfl rfl HD5.out ?_) | (refine wp_storeR rfl _ _ rfl rfl rfl HR5.out ?_))
      refine bodyPost_ret (v := .tuple #[.agg (rdA E), .int .i64 8]) (results_two rfl rfl (HR5.out.fill (Nat.le_succ _) E) rfl) rfl ⟨by rw [he.out], (HR5.out.fill (Nat.le_succ _) E).bel⟩
    · have t3 : (D.failing == 0) = false := by rw [beq_eq_false_iff_ne]; omega
      have t4 : decide (0 ≤ D.failing) = true := by simp; omega
      have HF := Lib.hid hf
      clear hf
      have hm : Hid (D.met = { D with ops := D.ops + 1, failing := D.failing - 1 }) := by unfold Hid RD.met downA downF; rw [if_neg (by have := HA.out; omega), if_pos (by have := HF.out; omega), if_neg (by have := HA.out; omega)]
      have he : Hid (D.err = 0) := by unfold Hid RD.err; rw [if_neg (by have := HA.out; omega), if_neg (by have := HF.out; omega)]
      go_upto_region 2 with fail
      go_quiet (fail)
      go_upto_region 12 with fail
      refine name_world (fun W => BoxR w w.heap.size { D with ops := D.ops + 1, failing := D.failing - 1 } W ∧ BoxR w (w.heap.size + 1) zeroR W) ⟨((H1.out.set (Nat.le_refl _) 17 _ (D' := { D with ops := D.ops + 1 }) rfl).drewN _).set (Nat.le_refl _) 19 _ (D' := { D with ops := D.ops + 1, failing := D.failing - 1 }) rfl, ((HR1.out.setOther (p := ⟨w.heap.size, 17, none⟩) (Nat.le_refl _) (by simp) _).drewN _).setOther (p := ⟨w.heap.size, 19, none⟩) (Nat.le_refl _) (by simp) _⟩ ?_
      rw [← hm.out]
      rintro W5 ⟨hD5, hR5⟩
      have HD5 := Lib.hid hD5
      have HR5 := Lib.hid hR5
      clear hD5 hR5 y17 z17 y18 z18 y19 z19 y20 z20 hm
      generalize D.met = E at *
      go_wp2_with (first | (refine wp_loadR rfl _ rfl rfl HD5.out ?_) | (refine wp_storeR rfl _ _ rfl rfl rfl HR5.out ?_))
      refine bodyPost_ret (v := .tuple #[.agg (rdA E), .int .i64 0]) (results_two rfl rfl (HR5.out.fill (Nat.le_succ _) E) rfl) rfl ⟨by rw [he.out], (HR5.out.fill (Nat.le_succ _) E).bel⟩
    · have t3 : (D.failing == 0) = false := by rw [beq_eq_false_iff_ne]; omega
      have t4 : decide (0 ≤ D.failing) = false := by simp; omega
      have HF := Lib.hid hf
      clear hf
      have hm : Hid (D.met = { D with ops := D.ops + 1 }) := by unfold Hid RD.met downA downF; rw [if_neg (by have := HA.out; omega), if_neg (by have := HF.out; omega), if_neg (by have := HA.out; omega)]
      have he : Hid (D.err = 0) := by unfold Hid RD.err; rw [if_neg (by have := HA.out; omega), if_neg (by have := HF.out; omega)]
      go_upto_region 2 with fail
      go_quiet (fail)
      go_upto_region 12 with fail
      refine name_world (fun W => BoxR w w.heap.size { D with ops := D.ops + 1 } W ∧ BoxR w (w.heap.size + 1) zeroR W) ⟨(H1.out.set (Nat.le_refl _) 17 _ (D' := { D with ops := D.ops + 1 }) rfl).drewN _, (HR1.out.setOther (p := ⟨w.heap.size, 17, none⟩) (Nat.le_refl _) (by simp) _).drewN _⟩ ?_
      rw [← hm.out]
      rintro W5 ⟨hD5, hR5⟩
      have HD5 := Lib.hid hD5
      have HR5 := Lib.hid hR5
      clear hD5 hR5 y17 z17 y18 z18 y19 z19 y20 z20 hm
      generalize D.met = E at *
      go_wp2_with (first | (refine wp_loadR rfl _ rfl rfl HD5.out ?_) | (refine wp_storeR rfl _ _ rfl rfl rfl HR5.out ?_))
      refine bodyPost_ret (v := .tuple #[.agg (rdA E), .int .i64 0]) (results_two rfl rfl (HR5.out.fill (Nat.le_succ _) E) rfl) rfl ⟨by rw [he.out], (HR5.out.fill (Nat.le_succ _) E).bel⟩

end Go.Proofs.Ythpbgejjfdgpaaa
