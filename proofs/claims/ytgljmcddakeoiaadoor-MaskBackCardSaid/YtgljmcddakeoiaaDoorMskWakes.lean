/-
  Does the layer do anything?
-/
import Derived.Test.YtgljmcddakeoiaaDoorMskO
import Derived.Test.YtgljmcddakeoiaaDoorMskP
namespace Go.Proofs.YtgljmcddakeoiaaDoor
open Go.RowKit Go.Shelf
set_option linter.unusedVariables false
set_option linter.unusedSimpArgs false
set_option maxRecDepth 100000

theorem vec_lit (w : World) (xs : List Int) (cs : Array Value) (t : TypeId) (hcs : cs = (xs.map (Value.int .i64)).toArray) (hm : xs.length ≤ 9223372036854775807) (hf : ∀ x ∈ xs, (Lit.int .i64 x).wf = true) :
    Vec .i64 (w.alloc (.cells cs t)) (some ⟨w.heap.size, 0, none⟩) xs.length xs := by
  refine ⟨Nat.le_refl _, hm, fun hp => ⟨w.heap.size, 0, rfl, by simp, fun j hj => ?_⟩, hf⟩
  rw [Nat.zero_add, cell_new, hcs]
  simp [List.getD, hj]

set_option maxHeartbeats 4000000 in
theorem wakes_any (w : World) : Calls Tryd.prog 4 #[] w fun e w' => e = .returned (.bool true) ∧ Below w.heap.size w w' := by
  obtain ⟨V1, hV1⟩ : ∃ V1, V1 = w.alloc (.cells #[.int .i64 0, .int .i64 64, .int .i64 3] 3) := ⟨_, rfl⟩
  have hb1 : Below w.heap.size w V1 := by rw [hV1]; exact (Below.refl _ w).alloc (Nat.le_refl _) _
  have hv1 : Vec .i64 V1 (some ⟨w.heap.size, 0, none⟩) 3 [0, 64, 3] := by rw [hV1]; exact vec_lit w [0, 64, 3] _ _ rfl (by decide) (by decide)
  have hO1 : Calls Tryd.prog 5 #[.slice (some ⟨w.heap.size, 0, none⟩) 3 3] V1 (GivesME V1 (9, 1) 0) := by
    have := of_any _ 3 [0, 64, 3] V1 hv1
    rw [show (if ofE [0, 64, 3] = 0 then ofM [0, 64, 3] else (0, 0)) = (9, 1) from by decide +kernel, show ofE [0, 64, 3] = 0 from by decide +kernel] at this
    exact this
  have HO1 := Lib.hid hO1
  have HB1 := Lib.hid hb1
  have HV1 := Lib.hid hV1
  have HO2 := Lib.hid (fun (W : World) => show Calls Tryd.prog 5 #[.slice (some ⟨W.heap.size, 0, none⟩) 1 1] (W.alloc (.cells #[.int .i64 96] 3)) (GivesME (W.alloc (.cells #[.int .i64 96] 3)) (0, 0) 2) from by
    have := of_any (some ⟨W.heap.size, 0, none⟩) 1 [96] (W.alloc (.cells #[.int .i64 96] 3)) (vec_lit W [96] _ _ rfl (by decide) (by decide))
    rw [show ofE [96] = 2 from by decide +kernel, if_neg (by decide)] at this
    exact this)
  have HC1 := Lib.hid (fun W => show Calls Tryd.prog 14 #[.agg #[.int .u64 9, .int .u64 1]] W (fun e w' => e = .returned (.int .i64 3) ∧ Below W.heap.size W w') from by
    have := count_any (9, 1) W (by unfold Fine; decide)
    rw [show cnt (has (9, 1)) 96 = 3 from by decide +kernel] at this
    exact this)
  obtain ⟨M, hM⟩ : ∃ M, M = mk (fun n => !has (0, 0) n) := ⟨_, rfl⟩
  have HNt := Lib.hid (fun W => show Calls Tryd.prog 15 #[.agg #[.int .u64 0, .int .u64 0]] W (fun e w' => e = .returned (mv M) ∧ Below W.heap.size W w') from by
    rw [hM]; exact not_any (0, 0) W (by unfold Fine; decide))
  have HC2 := Lib.hid (fun W => show Calls Tryd.prog 14 #[mv M] W (fun e w' => e = .returned (.int .i64 96) ∧ Below W.heap.size W w') from by
    have := count_any M W (by rw [hM]; exact mk_fine _)
    rw [show cnt (has M) 96 = 96 from by rw [hM]; decide +kernel] at this
    exact this)
  have heq : ∀ W, (Op.equalIn 10000 25 (.agg #[.int .u64 9, .int .u64 1]) (.agg #[.int .u64 9, .int .u64 1])).run Tryd.prog W = .ok true W := fun W => by
    rw [eqM0]; rfl
  clear hV1 hb1 hv1 hO1 hM
  unfold mv at HNt HC2
  go_enter Tryd.func4, Tryd.ntmps4
  go_wp2_with fail
  rw [← HV1.out]
  refine HO1.out.mono ?_
  rintro e w1 ⟨rfl, hb1⟩
  have HB2 := Lib.hid (HB1.out.trans (hb1.mono HB1.out.size))
  clear hb1
  unfold mv
  dsimp only
  go_wp2_with fail
  obtain ⟨V2, hV2⟩ : ∃ V2, V2 = w1.alloc (.cells #[.int .u64 9, .int .u64 1] 25) := ⟨_, rfl⟩
  have hb2 : Below w1.heap.size w1 V2 := by rw [hV2]; exact (Below.refl _ _).alloc (Nat.le_refl _) _
  have hm2 : MRow V2 w1.heap.size 9 1 := by rw [hV2]; exact MRow.new w1 9 1
  have hz2 : V2.heap.size = w1.heap.size + 1 := by rw [hV2]; simp
  have h2 := HO2.out V2
  rw [hz2] at h2
  rw [← hV2]
  refine h2.mono ?_
  rintro e w2 ⟨rfl, hb3⟩
  have hb4 : Below V2.heap.size V2 w2 := ((Below.refl _ V2).alloc (Nat.le_refl _) _).trans (hb3.mono (by simp))
  have HK := Lib.hid (fun (X : World) (hX : Below w2.heap.size w2 X) => show X.cell? ⟨w1.heap.size, 0, none⟩ = some (.int .u64 9) ∧ X.cell? ⟨w1.heap.size, 1, none⟩ = some (.int .u64 1) from by
    have h := (hm2.below hb4 hm2.lt).below hX (Nat.lt_of_lt_of_le hm2.lt hb4.size)
    exact ⟨h.cell0, h.cell1⟩)
  have HBx := Lib.hid (HB2.out.trans ((hb2.trans (hb4.mono hb2.size)).mono HB2.out.size))
  have hlt : w1.heap.size < w2.heap.size := Nat.lt_of_lt_of_le hm2.lt hb4.size
  obtain ⟨c0, c1⟩ := HK.out (w2.alloc (.cells #[.int .u64 0, .int .u64 0] 25)) ((Below.refl _ _).alloc (Nat.le_refl _) _)
  clear hb2 hm2 hz2 h2 hb3 hb4 hV2
  unfold mv
  dsimp only
  go_wp2_with fail
  refine (HC1.out _).mono ?_
  rintro e w3 ⟨rfl, hb3⟩
  have HB3 := Lib.hid (((Below.refl _ w2).alloc (Nat.le_refl _) _).trans (hb3.mono (by simp)))
  clear hb3
  go_wp2_with fail
  refine (HNt.out _).mono ?_
  rintro e w4 ⟨rfl, hb4⟩
  have HB4 := Lib.hid (HB3.out.trans (hb4.mono HB3.out.size))
  clear hb4
  go_wp2_with fail
  refine (HC2.out _).mono ?_
  rintro e w5 ⟨rfl, hb5⟩
  have HB5 := Lib.hid (HB4.out.trans (hb5.mono HB4.out.size))
  clear hb5
  go_wp2
  go_ret
  exact ⟨rfl, HBx.out.trans (HB5.out.mono HBx.out.size)⟩
end Go.Proofs.YtgljmcddakeoiaaDoor
