/-
  The document's Names.
-/
import Derived.Test.YthpbgejjfdgpaaaRefSame
namespace Go.Proofs.Ythpbgejjfdgpaaa
open Go.RowKit
set_option linter.unusedVariables false
set_option maxRecDepth 100000

set_option maxHeartbeats 2000000 in
theorem names_ref_any {w : World} {N : Nat → Prop} {D : RD} {M : AD} (h : RefIs w N D M) : Calls Try.prog 52 #[.agg (rdA D)] w (GivesI w M.names) := by
  obtain ⟨i0, hi, hz0, hz1, hz2⟩ := info_parts infoInt
  obtain ⟨W1, hW1⟩ : ∃ W1, W1 = w.alloc (.cells (rdA D) 33) := ⟨_, rfl⟩
  have hD : BoxR w w.heap.size D W1 := by rw [hW1]; exact BoxR.new w D
  have HW1 := Lib.hid hW1
  have HD := Lib.hid hD
  have HT := Lib.hid (fun k hk => (h.file k hk).there)
  clear hW1 hD h
  go_enter Try.func52, Try.ntmps52
  go_upto_region 1 with fail
  rw [← HW1.out]
  go_wp2_with (refine wpList_load_mid rfl 31 _ rfl _ 1 rfl (arrF D) _ HD.out.files Try.underlying31 rfl sizeA ?_)
  go_loopw [3, 8] (fun s i wr => ∃ k : Nat, i = .int .i64 k ∧ k ≤ 4 ∧ Hid (wr.ownsRow w.heap.size 3 1 s (M.below k).length ((M.below k).map (Value.int .i64)) ∧ Below w.heap.size w wr)) (fun s i _ => 4 - (intOf i).toNat)
  case atStart => exact ⟨0, rfl, by omega, Lib.hid ⟨World.ownsRow_nil _ _ _ _, HD.out.bel⟩⟩
  case round =>
    obtain ⟨k, rfl, hk, H⟩ := hrel
    by_cases hk4 : k < 4
    · have hkk : (k : Int) < 4 := by omega
      have ix := fun W => ix_file D k hk4 W
      have HBK := Lib.hid (HT.out k hk4)
      have HL := Lib.hid (below_length M k)
      generalize D.file k = Fk at *
      generalize (arrF D).toArray = AR at *
      go_upto_region 5 with fail
      refine name_world (fun W => W.cell? ⟨wr.heap.size, 0, none⟩ = some (.bool Fk.there) ∧ Below wr.heap.size wr W) (by
        have hx := heap_alloc_new wr (.cells (rfA Fk) 30)
        exact ⟨by simp only [World.cell?, hx]; rfl, (Below.refl _ wr).alloc (Nat.le_refl _) _⟩) ?_
      rintro w1 ⟨c0, hb1⟩
      have HB := Lib.hid hb1
      clear hb1
      have hb := HBK.out
      clear HBK
      rcases ht : Fk.there with _ | _
      · rw [ht] at c0 hb
        have HBB := Lib.hid hb.symm
        clear hb
        go_wp2
        go_round
        case rel =>
          refine ⟨k + 1, by go_num, by omega, Lib.hid ⟨?_, H.out.2.trans (HB.out.mono H.out.2.size)⟩⟩
          rw [below_succ, HBB.out]
          simpa using row_later H.out.1 HB.out
        case measure => simp [intOf]; omega
      · rw [ht] at c0 hb
        have HBB := Lib.hid hb.symm
        clear hb
        go_wp2_with (at_builtin; refine wpList_append_own _ rfl _ _ 48 rfl w.heap.size 3 i0 (.int .i64 0) 1 8 Try.underlying48 hi hz0 hz1 hz2 rfl (by decide) _ _ _ rfl ((row_later H.out.1 HB.out).alloc _) ⟨w1.heap.size, 0, none⟩ 1 1 [.int .i64 (k : Int)] rfl rfl (cell_one_new _ _ _) (by simp [Value.oneCell']) (by have := HL.out; unfold maxLen; omega) (by have := HL.out; omega) (by have := H.out.2.size; have := HB.out.size; simp; omega) ?_; intro v' w2 hown' hgrow _; have HO := Lib.hid hown'; have HG := Lib.hid hgrow; clear hown' hgrow)
        go_round
        case rel =>
          refine ⟨k + 1, by go_num, by omega, Lib.hid ⟨?_, ?_⟩⟩
          · rw [below_succ, HBB.out]
            simpa using HO.out
          · have hbb := H.out.2.trans (HB.out.mono H.out.2.size)
            exact (hbb.alloc hbb.size _).grown HG.out (by have := hbb.size; simp; omega) (fun k hk => (H.out.1.lt k hk).1)
        case measure => simp [intOf]; omega
    · obtain rfl : k = 4 := by omega
      go_wp2
      go_ret
      exact ⟨_, rfl, H.out.1, H.out.2⟩

end Go.Proofs.Ythpbgejjfdgpaaa
