/-
  The layer does something: wakes answers true, and leaves all that was there as it was.
-/
import Derived.Test.YtnlhfnebbkpfgaaMarkSeal
namespace Go.Proofs.Ytnlhfnebbkpfgaa
open Go.RowKit
set_option linter.unusedVariables false

theorem open_seal (bs : List Int) : openM (sealM bs) = (bs, 0) := by
  have hu := onB_u bs
  have h1 : (sealM bs).take bs.length = bs := by rw [sealM_eq, List.take_left]
  have h2 : (sealM bs).drop bs.length = fld 8 (ofM bs) := by rw [sealM_eq, List.drop_left]
  rw [openM_yes (n := bs.length) (sealM_length bs) ?_, h1]
  rw [h1, h2]
  obtain ⟨x, hx⟩ := Int.eq_ofNat_of_zero_le hu.1
  have := hu.2
  rw [hx, val_fld]
  rw [hx] at this
  omega
theorem sl_nil (w : World) : Sl w none 0 [] := ⟨by simp, by omega, Rd.empty⟩
theorem sl_one (w : World) (x : Int) (t : TypeId) : Sl (w.alloc (.cells #[.int .u8 x] t)) (some ⟨w.heap.size, 0, none⟩) 1 [x] := by
  refine ⟨by simp, by omega, fun _ => ⟨w.heap.size, 0, rfl, by simp, fun j hj => ?_⟩⟩
  obtain rfl : j = 0 := by simpa using hj
  exact cell_of_one (box_one w _ _)
theorem sl_two (w : World) (x y : Int) (t : TypeId) : Sl (w.alloc (.cells #[.int .u8 x, .int .u8 y] t)) (some ⟨w.heap.size, 0, none⟩) 2 [x, y] := by
  refine ⟨by simp, by omega, fun _ => ⟨w.heap.size, 0, rfl, by simp, fun j hj => ?_⟩⟩
  rw [Nat.zero_add, cell_new]
  have hj2 : j < 2 := hj
  have : j = 0 ∨ j = 1 := by omega
  rcases this with rfl | rfl <;> rfl
theorem oct_one (x : Int) (h0 : 0 ≤ x) (h1 : x < 256) : Oct [x] := by
  intro b hb
  simp at hb
  subst hb
  exact ⟨h0, h1⟩

set_option maxHeartbeats 1000000 in
set_option maxRecDepth 100000 in
theorem wakes_any (w : World) : Calls Try.prog 10 #[] w fun e w' => e = .returned (.bool true) ∧ Below w.heap.size w w' := by
  have o7 := oct_one 7 (by omega) (by omega)
  have HO7 := Lib.hid o7
  clear o7
  go_enter Try.func10, Try.ntmps10
  go_wp2_with fail
  have hb0 : Below w.heap.size w (w.alloc (.cells #[.int .u8 7] 5)) := (Below.refl _ w).alloc (Nat.le_refl _) _
  have hs0 := sl_one w 7 5
  have h1 := seal_b (some ⟨w.heap.size, 0, none⟩) 1 [7] _ hs0 HO7.out (by decide)
  have HB0 := Lib.hid hb0
  clear hb0 hs0
  generalize w.alloc (.cells #[.int .u8 7] 5) = W0 at *
  refine h1.mono ?_
  clear h1
  rintro e w1 ⟨A1, c1, he, hn1, hb1⟩
  have hlen : (sealM [7]).length = 9 := sealM_length [7]
  rw [hlen] at he
  have ho := open_b A1 c1 (sealM [7]) w1 hn1.sl (sealM_oct HO7.out) (by rw [hlen]; decide)
  rw [hlen, open_seal] at ho
  subst he
  have H2 := Lib.hid ho
  have HB1 := Lib.hid (HB0.out.trans (hb1.mono HB0.out.size))
  clear HB0 hn1 hb1 ho hlen
  go_wp2_with fail
  refine H2.out.mono ?_
  clear H2
  rintro e w2 ⟨A2, c2, he, hn2, hb2⟩
  have he : e = .returned (.tuple #[.slice A2 1 c2, .int .i64 0]) := he
  subst he
  have HB2 := Lib.hid (HB1.out.trans (hb2.mono HB1.out.size))
  clear HB1 hn2 hb2
  go_wp2_with fail
  have hb0 : Below w.heap.size w (w2.alloc (.cells #[.int .u8 1] 5)) := HB2.out.alloc HB2.out.size _
  have hs0 := sl_one w2 1 5
  have h1 := open_b (some ⟨w2.heap.size, 0, none⟩) 1 [1] _ hs0 (oct_one 1 (by omega) (by omega)) (by decide)
  rw [show openM [1] = ([], 7) from openM_few (by decide)] at h1
  have HB0 := Lib.hid hb0
  clear hb0 hs0 HB2
  generalize w2.alloc (.cells #[.int .u8 1] 5) = W3 at *
  refine h1.mono ?_
  clear h1
  rintro e w3 ⟨A3, c3, he, hn3, hb3⟩
  have he : e = .returned (.tuple #[.slice A3 0 c3, .int .i64 7]) := he
  subst he
  have HB3 := Lib.hid (HB0.out.trans (hb3.mono HB0.out.size))
  clear HB0 hn3 hb3
  go_wp2_with fail
  have h1 := of_any none 0 [] w3 (sl_nil _) (by intro b hb; simp at hb) (by decide)
  rw [show ofM [] = 14695981039346656037 from rfl] at h1
  refine h1.mono ?_
  clear h1
  rintro e w4 ⟨rfl, hb4⟩
  have HB4 := Lib.hid (HB3.out.trans (hb4.mono HB3.out.size))
  clear HB3 hb4
  go_wp2_with fail
  have hb0 : Below w.heap.size w (w4.alloc (.cells #[.int .u8 7] 5)) := HB4.out.alloc HB4.out.size _
  have hs0 := sl_one w4 7 5
  have h1 := on_any (some ⟨w4.heap.size, 0, none⟩) 1 [7] 5 _ hs0 HO7.out (by unfold U; omega) (by decide)
  have HB0 := Lib.hid hb0
  clear hb0 hs0 HB4
  generalize w4.alloc (.cells #[.int .u8 7] 5) = W4 at *
  refine h1.mono ?_
  clear h1
  rintro e w5 ⟨he, hb5⟩
  have hz : Hid (backM (onM 5 [7]) [7] = 5) := back_on 5 [7] (by unfold U; omega) HO7.out
  have hu : Hid (U (onM 5 [7])) := onM_u 5 [7] (by unfold U; omega)
  generalize onM 5 [7] = z at *
  subst he
  have HB5 := Lib.hid (HB0.out.trans (hb5.mono HB0.out.size))
  clear HB0 hb5
  go_wp2_with fail
  have hb0 : Below w.heap.size w (w5.alloc (.cells #[.int .u8 7] 5)) := HB5.out.alloc HB5.out.size _
  have hs0 := sl_one w5 7 5
  have h1 := back_any (some ⟨w5.heap.size, 0, none⟩) 1 [7] z _ hs0 HO7.out hu.out (by decide)
  rw [hz.out] at h1
  have HB0 := Lib.hid hb0
  clear hb0 hs0 HB5
  generalize w5.alloc (.cells #[.int .u8 7] 5) = W5 at *
  refine h1.mono ?_
  clear h1
  rintro e w6 ⟨rfl, hb6⟩
  have HB6 := Lib.hid (HB0.out.trans (hb6.mono HB0.out.size))
  clear HB0 hb6
  go_wp2_with fail
  have hb0 : Below w.heap.size w ((w6.alloc (.cells #[.int .u8 1] 5)).alloc (.cells #[.int .u8 1, .int .u8 2] 5)) := (HB6.out.alloc HB6.out.size _).alloc (by have := HB6.out.size; simp; omega) _
  have hs0 := (sl_one w6 1 5).alloc (.cells #[.int .u8 1, .int .u8 2] 5)
  have hs1 := sl_two (w6.alloc (.cells #[.int .u8 1] 5)) 1 2 5
  simp only [World.size_alloc] at hs1
  have h1 := place_b (some ⟨w6.heap.size, 0, none⟩) (some ⟨w6.heap.size + 1, 0, none⟩) 1 2 [1] [1, 2] _ hs0 hs1
  rw [show placeM [1] [1, 2] = 1 from by decide] at h1
  have HB0 := Lib.hid hb0
  clear hb0 hs0 HB6 hs1
  generalize (w6.alloc (.cells #[.int .u8 1] 5)).alloc (.cells #[.int .u8 1, .int .u8 2] 5) = W6 at *
  refine h1.mono ?_
  clear h1
  rintro e w7 ⟨rfl, q, rfl⟩
  go_wp2
  go_ret
  exact ⟨rfl, below_drewN HB0.out q⟩

end Go.Proofs.Ytnlhfnebbkpfgaa
