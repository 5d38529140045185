/-
  letIn: whether a hit is let in.
-/
import Derived.Test.YthobkakmjgmpcaaTopEmpty
import Derived.Deep.Cut
namespace Go.Proofs.Ythobkakmjgmpcaa
open Go.RowKit Go.Shelf
set_option linter.unusedVariables false
set_option linter.unusedSimpArgs false
set_option maxRecDepth 100000

set_option maxHeartbeats 1000000 in
theorem let_room (K : Nat) (A : Option Addr) (c kk : Nat) (l : List HitM) (h : HitM) (w : World) (hk : Keep w K A c l kk) (hl : l.length < kk) :
    Calls Try.prog 33 #[.agg #[.int .u64 h.1, .int .u64 h.2], .pointer (some ⟨K, 0, none⟩)] w fun e w' => e = .returned (.bool true) ∧ Below w.heap.size w w' := by
  have hb : Below w.heap.size w (w.alloc (.cells #[.int .u64 h.1, .int .u64 h.2] 32)) := (Below.refl _ w).alloc (Nat.le_refl _) _
  have hk1 := hk.below hb
  have hc := hk1.cell
  have hc1 := hk1.cell1
  have HB := Lib.hid hb
  have t1 : decide ((l.length : Int) < (kk : Int)) = true := by simp; omega
  generalize l.length = n at *
  obtain ⟨x, y⟩ := h
  dsimp only at *
  clear hk hb hk1
  go_enter Try.func33, Try.ntmps33
  go_wp2
  go_quiet ((go_at_call 34; with_reducible refine Calls.quiet_of_same (len_st _ _ _ _)))
  go_wp2
  go_ret
  exact ⟨rfl, below_drewN HB.out _⟩

theorem let_next {W0 W W' : World} {b K : Nat} {x1 x2 m : Int} {A : Option Addr} {n c : Nat} (h : W.cell? ⟨b, 0, none⟩ = some (.int .u64 x1) ∧ W.cell? ⟨b, 1, none⟩ = some (.int .u64 x2) ∧ W.cell? ⟨K, 0, none⟩ = some (.slice A n c) ∧ W.cell? ⟨K, 1, none⟩ = some (.int .i64 m) ∧ Below W0.heap.size W0 W)
    (hb : Below W.heap.size W W') : W'.cell? ⟨b, 0, none⟩ = some (.int .u64 x1) ∧ W'.cell? ⟨b, 1, none⟩ = some (.int .u64 x2) ∧ W'.cell? ⟨K, 0, none⟩ = some (.slice A n c) ∧ W'.cell? ⟨K, 1, none⟩ = some (.int .i64 m) ∧ Below W0.heap.size W0 W' := by
  obtain ⟨h1, h2, h3, h4, h5⟩ := h
  have hl1 := World.block_lt_of_cell? W _ h1
  have hl2 := World.block_lt_of_cell? W _ h3
  exact ⟨(hb.cell (p := ⟨b, 0, none⟩) hl1).trans h1, (hb.cell (p := ⟨b, 1, none⟩) hl1).trans h2, (hb.cell (p := ⟨K, 0, none⟩) hl2).trans h3, (hb.cell (p := ⟨K, 1, none⟩) hl2).trans h4, h5.trans (hb.mono h5.size)⟩

set_option maxHeartbeats 1000000 in
theorem let_full (K : Nat) (A : Option Addr) (c kk : Nat) (l : List HitM) (h : HitM) (w : World) (hk : Keep w K A c l kk) (hl : l.length = kk) (hpos : 0 < kk) :
    Calls Try.prog 33 #[.agg #[.int .u64 h.1, .int .u64 h.2], .pointer (some ⟨K, 0, none⟩)] w fun e w' => e = .returned (.bool (ahead h (l.getD 0 z2))) ∧ Below w.heap.size w w' := by
  have hb : Below w.heap.size w (w.alloc (.cells #[.int .u64 h.1, .int .u64 h.2] 32)) := (Below.refl _ w).alloc (Nat.le_refl _) _
  have hk1 := hk.below hb
  have hx := heap_alloc_new w (.cells #[.int .u64 h.1, .int .u64 h.2] 32)
  have HF := Lib.hid (fun (W : World) (hW : Hits W A c l) => furthest_any A c l W hW (by omega))
  have HG := Lib.hid (compare_lt h (l.getD 0 z2))
  have HC := Lib.hid (fun V => compare_any h.1 h.2 (l.getD 0 z2).1 (l.getD 0 z2).2 V)
  have t1 : decide ((l.length : Int) < (kk : Int)) = false := by simp; omega
  have HLN := Lib.hid (show (l.length : Int) = kk by omega)
  have hlt := hk.lt
  generalize ahead h (l.getD 0 z2) = R at *
  generalize (l.getD 0 z2).1 = y1 at *
  generalize (l.getD 0 z2).2 = y2 at *
  obtain ⟨x1, x2⟩ := h
  dsimp only at *
  generalize hcm : compareM x1 x2 y1 y2 = cm at *
  obtain ⟨W0, hW0⟩ : ∃ W0, W0 = w.alloc (.cells #[.int .u64 x1, .int .u64 x2] 32) := ⟨_, rfl⟩
  rw [← hW0] at hb hk1 hx
  have hc := hk1.cell
  have hc1 := hk1.cell1
  have g0 : W0.cell? ⟨w.heap.size, 0, none⟩ = some (.int .u64 x1) := (cell_of_row _ _ _ _ _ _ hx).trans rfl
  have g1 : W0.cell? ⟨w.heap.size, 1, none⟩ = some (.int .u64 x2) := (cell_of_row _ _ _ _ _ _ hx).trans rfl
  have HH := Lib.hid hk1.hits
  have HB := Lib.hid hb
  have HW := Lib.hid hW0
  have hzz : w.heap.size < W0.heap.size := by rw [hW0]; simp
  generalize hn : l.length = n at *
  subst hl
  clear hk hb hk1 hx hW0 hn hcm hpos
  go_enter Try.func33, Try.ntmps33
  go_wp2
  rw [← HW.out]
  have H0 : W0.drew.cell? ⟨w.heap.size, 0, none⟩ = some (.int .u64 x1) ∧ W0.drew.cell? ⟨w.heap.size, 1, none⟩ = some (.int .u64 x2) ∧ W0.drew.cell? ⟨K, 0, none⟩ = some (.slice A n c) ∧ W0.drew.cell? ⟨K, 1, none⟩ = some (.int .i64 n) ∧ Below W0.heap.size W0 W0.drew := ⟨g0, g1, hc, hc1, below_drew (Below.refl _ _)⟩
  have S0 := Lib.hid H0
  clear H0
  go_region_held3 (fun W => W.cell? ⟨w.heap.size, 0, none⟩ = some (.int .u64 x1) ∧ W.cell? ⟨w.heap.size, 1, none⟩ = some (.int .u64 x2) ∧ W.cell? ⟨K, 0, none⟩ = some (.slice A n c) ∧ W.cell? ⟨K, 1, none⟩ = some (.int .i64 n) ∧ Below W0.heap.size W0 W) (first | exact S0.out | exact S3.out | exact S2.out) (first
    | (go_at_call 34; refine (len_st _ _ _ _).mono ?_; rintro e w2 ⟨rfl, rfl⟩)
    | (go_at_call 35; refine (HF.out _ (HH.out.below S0.out.2.2.2.2)).mono ?_; rintro e w2 ⟨rfl, hb2⟩; have S2 := Lib.hid (let_next S0.out hb2); clear hb2)
    | (go_at_call 23; refine (HC.out _).mono ?_; rintro e w3 ⟨rfl, hb3⟩; have S3 := Lib.hid (let_next S2.out hb3); clear hb3))
  all_goals (
    go_wp2
    go_ret
    rw [← HG.out]
    exact ⟨rfl, HB.out.trans (S3.out.2.2.2.2.mono HB.out.size)⟩)

end Go.Proofs.Ythobkakmjgmpcaa
