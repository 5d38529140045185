/-
  The layer does something: wakes answers true, and leaves all that was there as it was.
-/
import Derived.Test.YtnpmdbcijaanjaaFieldAsk
namespace Go.Proofs.Ytnpmdbcijaanjaa
open Go.RowKit
set_option linter.unusedVariables false

theorem put_seven : ([7] : List Int) ++ fldOf 2 258 = [7, 1, 2] := by decide
theorem lay_two : ([7, 1, 2] : List Int) ++ fldOf 3 (unsg (-2)) = [7, 1, 2, 255, 255, 254] := by decide

set_option maxHeartbeats 1000000 in
set_option maxRecDepth 100000 in
theorem wakes_any (w : World) : Calls Try.prog 10 #[] w fun e w' => e = .returned (.bool true) ∧ Below w.heap.size w w' := by
  go_enter Try.func10, Try.ntmps10
  go_wp2_with fail
  have hb0 : Below w.heap.size w (w.alloc (.cells #[.int .u8 7] 5)) := (Below.refl _ w).alloc (Nat.le_refl _) _
  have hs0 : Sl (w.alloc (.cells #[.int .u8 7] 5)) (some ⟨w.heap.size, 0, none⟩) 1 [7] := by
    refine ⟨by simp, by omega, fun _ => ⟨w.heap.size, 0, rfl, by simp, fun j hj => ?_⟩⟩
    obtain rfl : j = 0 := by simpa using hj
    exact cell_of_one (box_one w _ _)
  have h1 := put_b (some ⟨w.heap.size, 0, none⟩) 1 [7] 2 258 _ hs0 (by decide) (by decide) (by decide)
  rw [put_seven] at h1
  have HB0 := Lib.hid hb0
  clear hb0 hs0
  generalize w.alloc (.cells #[.int .u8 7] 5) = W0 at *
  refine h1.mono ?_
  clear h1
  rintro e w1 ⟨A1, c1, rfl, hn1, hb1⟩
  have HB1 := Lib.hid (HB0.out.trans (hb1.mono HB0.out.size))
  have HN1 := Lib.hid hn1
  clear HB0 hn1 hb1
  go_wp2_with fail
  have h2 := lay_b A1 c1 [7, 1, 2] 3 (-2) w1 HN1.out.sl (by decide)
  rw [lay_two] at h2
  refine h2.mono ?_
  clear h2
  rintro e w2 ⟨A2, c2, rfl, hn2, hb2⟩
  have HB2 := Lib.hid (HB1.out.trans (hb2.mono HB1.out.size))
  have HN2 := Lib.hid hn2
  clear HB1 HN1 hn2 hb2
  go_wp2_with fail
  refine (read_b A2 c2 [7, 1, 2, 255, 255, 254] w2 HN2.out.sl (by unfold Oct; decide) (by decide)).mono ?_
  rintro e w3 ⟨g, A3, c3, rfl, hsc3, hg3, hb3⟩
  have HB3 := Lib.hid (HB2.out.trans (hb3.mono HB2.out.size))
  have HG := Lib.hid (Nat.le_trans HB2.out.size hg3)
  have HSl := Lib.hid (HN2.out.sl.below hb3)
  have HS3 := Lib.hid hsc3
  clear HB2 HN2 hsc3 hg3 hb3
  obtain ⟨b, o, rfl, _, hc⟩ := HSl.out.rd (by decide)
  have hc1 : w3.cell? ⟨b, o + 1, none⟩ = some (.int .u8 1) := hc 1 (by decide)
  have hc5 : w3.cell? ⟨b, o + 5, none⟩ = some (.int .u8 254) := hc 5 (by decide)
  clear hc HSl
  go_wp2_with fail
  have h3 := num_yes w3 g A3 c3 [7, 1, 2, 255, 255, 254] 0 1 HS3.out (by decide) (by decide) (by decide)
  rw [show val (([7, 1, 2, 255, 255, 254] : List Int).take 1) = 7 from by decide] at h3
  refine h3.mono ?_
  clear h3 hc1 hc5
  rintro e w4 ⟨rfl, ⟨A4, c4, hS4⟩, ho4⟩
  have HB4 := Lib.hid (HB3.out.trans (below_of_only ho4 HG.out HB3.out.size))
  have HS4 := Lib.hid hS4
  clear HB3 HS3 hS4 ho4
  go_wp2_with fail
  have h4 := num_yes w4 g A4 c4 [1, 2, 255, 255, 254] (0 + 1) 2 HS4.out (by decide) (by decide) (by decide)
  rw [show val (([1, 2, 255, 255, 254] : List Int).take 2) = 258 from by decide] at h4
  refine h4.mono ?_
  clear h4
  rintro e w5 ⟨rfl, ⟨A5, c5, hS5⟩, ho5⟩
  have HB5 := Lib.hid (HB4.out.trans (below_of_only ho5 HG.out HB4.out.size))
  have HS5 := Lib.hid hS5
  clear HB4 HS4 hS5 ho5
  go_wp2_with fail
  have h5 := int_yes w5 g A5 c5 [255, 255, 254] (0 + 1 + 2) 3 HS5.out (by decide) (by decide) (by decide)
  rw [show vali (([255, 255, 254] : List Int).take 3) = -2 from by decide] at h5
  refine h5.mono ?_
  clear h5
  rintro e w6 ⟨rfl, ⟨A6, c6, hS6⟩, ho6⟩
  have HB6 := Lib.hid (HB5.out.trans (below_of_only ho6 HG.out HB5.out.size))
  have hd2 := hS6.c2
  have hd0 : w6.cell? ⟨g, 0, none⟩ = some (.slice A6 0 c6) := hS6.c0
  clear HB5 HS5 hS6 ho6
  go_wp2_with fail
  refine (bad_any _ g false hd2).mono ?_
  rintro e w' ⟨rfl, rfl⟩
  go_wp2_with fail
  refine (left_any _ g 0 c6 A6 hd0).mono ?_
  rintro e w' ⟨rfl, rfl⟩
  go_wp2_with fail
  refine (fits_any 1 256 _ (by decide) (by decide)).mono ?_
  rw [show fitsB 1 256 = false from by decide]
  rintro e w' ⟨rfl, rfl⟩
  go_wp2_with fail
  refine (fitsInt_any 1 (-128) _ (by decide) (by decide)).mono ?_
  rw [show fitsIntB 1 (-128) = true from by decide]
  rintro e w' ⟨rfl, rfl⟩
  go_wp2
  go_ret
  exact ⟨rfl, HB6.out⟩

end Go.Proofs.Ytnpmdbcijaanjaa
