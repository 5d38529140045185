/-
  Check, changes, Range, With, Without.
-/
import Derived.Test.YtkfgiedpnmpfgaaMskEq
namespace Go.Proofs.Ytkfgiedpnmpfgaa
open Go.RowKit Go.Shelf
set_option linter.unusedVariables false
set_option linter.unusedSimpArgs false
set_option maxRecDepth 100000

/-- A mask that may be. -/
def rightM (m : Mk) : Bool := decide (m = mk (has m))
def chkM (m : Mk) : Int := if rightM m then 0 else 200

set_option maxHeartbeats 1000000 in
theorem check_any (m : Mk) (w : World) (h : Fine m) :
    Calls Try.prog 13 #[mv m] w fun e w' => e = .returned (.int .i64 (chkM m)) ∧ Below w.heap.size w w' := by
  have HC := Lib.hid (fun W => clean_any m W h)
  unfold GivesM at HC
  obtain ⟨M, hM⟩ : ∃ M, M = mk (fun n => has m n) := ⟨_, rfl⟩
  have HM := Lib.hid hM
  rw [← hM] at HC
  clear h hM
  obtain ⟨a, b⟩ := m
  obtain ⟨c, d⟩ := M
  unfold mv at HC ⊢
  dsimp only at HC ⊢
  obtain ⟨W0, hW0⟩ : ∃ W0, W0 = w.alloc (.cells #[.int .u64 (a : Int), .int .u64 (b : Int)] 25) := ⟨_, rfl⟩
  have hb0 : Below w.heap.size w W0 := by rw [hW0]; exact (Below.refl _ w).alloc (Nat.le_refl _) _
  have hr0 : MRow W0 w.heap.size a b := by rw [hW0]; exact MRow.new w a b
  have HK := Lib.hid (fun (X : World) (hX : Below W0.heap.size W0 X) => And.intro (hr0.below hX hr0.lt).cell0 (hr0.below hX hr0.lt).cell1)
  have HW := Lib.hid hW0
  have HB0 := Lib.hid hb0
  clear hW0 hb0 hr0
  go_enter Try.func13, Try.ntmps13
  go_wp2_with (rw [← HW.out])
  refine region_quiet (fun X => Below W0.heap.size W0 X) (by kernel_rfl) (by kernel_rfl) (below_drew (Below.refl _ _)) ?_
  repeat (first | go_big_quiet_skip | (go_big_quiet_want; go_big_quiet_op; first | go_big_quiet_on | (refine ⟨_, fun _ _ => rfl, ?_⟩; go_big_quiet_on) | (refine ⟨_, fun W hW => (HC.out W).mono (fun _ _ h => ⟨h.1, hW.trans (h.2.mono hW.size)⟩), ?_⟩; go_big_quiet_on) | (refine ⟨_, fun W hW => (by obtain ⟨z0, z1⟩ := HK.out W hW; simp only [Result.andThen, z0, z1]; exact ⟨trivial, rfl⟩), ?_⟩; go_big_quiet_on)))
  go_big_quiet_want; go_big_quiet_op
  refine ⟨.bool (!decide (((a, b) : Mk) = (c, d))), fun W hW => ?_, ?_⟩
  · have := eqM (a, b) (c, d) W
    dsimp only at this
    rw [this]
    exact ⟨rfl, rfl⟩
  go_big_quiet_on
  refine wpQuiet_nil ?_
  intro w2 hq
  have HW2 := Lib.hid (HB0.out.trans (hq.mono HB0.out.size))
  clear hq
  have HE := Lib.hid (show (decide (((a, b) : Mk) = (c, d))) = rightM (a, b) from by rw [HM.out]; rfl)
  cases hd : decide (((a, b) : Mk) = (c, d)) with
  | true =>
    rw [hd] at HE
    go_wp2
    go_ret
    unfold chkM
    rw [← HE.out]
    exact ⟨rfl, HW2.out⟩
  | false =>
    rw [hd] at HE
    go_wp2
    go_ret
    unfold chkM
    rw [← HE.out]
    exact ⟨rfl, HW2.out⟩

end Go.Proofs.Ytkfgiedpnmpfgaa
