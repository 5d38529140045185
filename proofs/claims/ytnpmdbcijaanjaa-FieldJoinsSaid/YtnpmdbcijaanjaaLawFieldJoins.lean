/-
  Proved: the law FieldJoins, two fields side by side are one of both sizes together, returns true for all bytes b and numbers m, n, and leaves all memory as it was. No condition.
-/
import Derived.Test.YtnpmdbcijaanjaaLawFrame
import Derived.Test.YtnpmdbcijaanjaaFieldWakes
import Derived.Test.YtnpmdbcijaanjaaFieldMath
import Derived.Test.YtnpmdbcijaanjaaFieldEqual
namespace Go.Proofs.Ytnpmdbcijaanjaa.fieldJoins
open Go.ChangeShapes Go.WideShapes Go.ChangeAt Go.RowKit
set_option linter.unusedVariables false

/-- The walk as far as the guard: it answers true at once. -/
theorem walk_out (A : Option Addr) (l c : Nat) (m n : Int) (w : World) (h : 5000 < l ∨ m < 1 ∨ n < 1 ∨ 8 < m ∨ 8 < n ∨ 8 < m + n) :
    Calls Try.prog 7 #[.slice A l c, .int .i64 m, .int .i64 n] w fun e w' => e = .returned (.bool true) ∧ Below w.heap.size w w' := by
  by_cases h1 : 5000 < l
  · have h1' : (5000 : Int) < (l : Int) := by omega
    go_enter Try.func7, Try.ntmps7
    go_wp2_with (go_at_call 10; refine (wakes_any w).mono ?_; rintro e w1 ⟨rfl, hb1⟩)
    go_ret
    exact ⟨rfl, hb1⟩
  have d1 : decide ((5000 : Int) < (l : Int)) = false := by simp; omega
  by_cases h2 : m < 1
  · go_enter Try.func7, Try.ntmps7
    go_wp2_with (go_at_call 10; refine (wakes_any w).mono ?_; rintro e w1 ⟨rfl, hb1⟩)
    go_ret
    exact ⟨rfl, hb1⟩
  have d2 : decide (m < 1) = false := by simp; omega
  by_cases h3 : n < 1
  · go_enter Try.func7, Try.ntmps7
    go_wp2_with (go_at_call 10; refine (wakes_any w).mono ?_; rintro e w1 ⟨rfl, hb1⟩)
    go_ret
    exact ⟨rfl, hb1⟩
  have d3 : decide (n < 1) = false := by simp; omega
  by_cases h4 : 8 < m
  · go_enter Try.func7, Try.ntmps7
    go_wp2_with (go_at_call 10; refine (wakes_any w).mono ?_; rintro e w1 ⟨rfl, hb1⟩)
    go_ret
    exact ⟨rfl, hb1⟩
  have d4 : decide (8 < m) = false := by simp; omega
  by_cases h5 : 8 < n
  · go_enter Try.func7, Try.ntmps7
    go_wp2_with (go_at_call 10; refine (wakes_any w).mono ?_; rintro e w1 ⟨rfl, hb1⟩)
    go_ret
    exact ⟨rfl, hb1⟩
  have d5 : decide (8 < n) = false := by simp; omega
  have h6 : 8 < m + n := by omega
  clear h
  go_enter Try.func7, Try.ntmps7
  go_wp2_with (go_at_call 10; refine (wakes_any w).mono ?_; rintro e w1 ⟨rfl, hb1⟩)
  go_ret
  exact ⟨rfl, hb1⟩

set_option maxHeartbeats 1000000 in
set_option maxRecDepth 100000 in
/-- Too few bytes for the first field. -/
theorem walk_few (A : Option Addr) (c : Nat) (bs : List Int) (m n : Nat) (w : World) (hs : Sl w A c bs) (ho : Oct bs) (hl : bs.length ≤ 5000) (h1 : 1 ≤ m) (h2 : 1 ≤ n) (h8 : m + n ≤ 8) (hL : bs.length < m) :
    Calls Try.prog 7 #[.slice A bs.length c, .int .i64 m, .int .i64 n] w fun e w' => e = .returned (.bool true) ∧ Below w.heap.size w w' := by
  have d1 : decide ((5000 : Int) < (bs.length : Int)) = false := by simp; omega
  have d2 : decide ((m : Int) < 1) = false := by simp; omega
  have d3 : decide ((n : Int) < 1) = false := by simp; omega
  have d4 : decide (8 < (m : Int)) = false := by simp; omega
  have d5 : decide (8 < (n : Int)) = false := by simp; omega
  have d6 : decide (8 < (m : Int) + (n : Int)) = false := by simp; omega
  have HS := Lib.hid hs
  have HO := Lib.hid ho
  clear hs ho
  go_enter Try.func7, Try.ntmps7
  go_wp2_with fail
  refine (wakes_any w).mono ?_
  rintro e w1 ⟨rfl, hb1⟩
  have HB1 := Lib.hid hb1
  clear hb1
  go_wp2_with fail
  refine (read_b A c bs w1 (HS.out.below HB1.out) HO.out (by omega)).mono ?_
  rintro e w2 ⟨g, As, cs, rfl, hs2, hg, hb2⟩
  have hgl := hs2.lt
  have HG := Lib.hid hg
  have HB2 := Lib.hid (HB1.out.trans (hb2.mono HB1.out.size))
  have HS2 := Lib.hid hs2
  clear hs2 hb2 hg
  go_wp2_with fail
  refine (read_b A c bs w2 (HS.out.below HB2.out) HO.out (by omega)).mono ?_
  rintro e w3 ⟨f, At, ct, rfl, ht3, hf, hb3⟩
  have hne : f ≠ g := by omega
  have HF := Lib.hid (Nat.le_trans HB2.out.size hf)
  have HGW := Lib.hid (Nat.le_trans HB1.out.size HG.out)
  have HB3 := Lib.hid (HB2.out.trans (hb3.mono HB2.out.size))
  have HS3 := Lib.hid (HS2.out.below hb3)
  have HT3 := Lib.hid ht3
  clear ht3 hb3 hf HB1 HB2 HS2 HG hgl
  go_wp2_with fail
  refine (num_no w3 g As cs bs 0 m HS3.out (.inr (by omega))).mono ?_
  rintro e w4 ⟨rfl, hs4, ho4⟩
  have HB4 := Lib.hid (HB3.out.trans (below_of_only ho4 HGW.out HB3.out.size))
  have HT4 := Lib.hid (HT3.out.far ho4 HS3.out.odd hne)
  have HS4 := Lib.hid hs4
  clear hs4 ho4 HB3 HT3 HS3
  go_wp2_with fail
  refine (num_bad w4 g As cs bs 0 n HS4.out).mono ?_
  rintro e w5 ⟨rfl, hs5, ho5⟩
  have HB5 := Lib.hid (HB4.out.trans (below_of_only ho5 HGW.out HB4.out.size))
  have HT5 := Lib.hid (HT4.out.far ho5 HS4.out.odd hne)
  have HS5 := Lib.hid hs5
  clear hs5 ho5 HB4 HT4 HS4
  go_wp2_with fail
  refine (num_no w5 f At ct bs 0 _ HT5.out (.inr (by omega))).mono ?_
  rintro e w6 ⟨rfl, ht6, ho6⟩
  have HB6 := Lib.hid (HB5.out.trans (below_of_only ho6 HF.out HB5.out.size))
  have HS6 := Lib.hid (HS5.out.far ho6 HT5.out.odd (Ne.symm hne))
  have HT6 := Lib.hid ht6
  clear ht6 ho6 HB5 HT5 HS5
  go_wp2_with fail
  refine (bad_any w6 g true HS6.out.c2).mono ?_
  rintro e w' ⟨rfl, rfl⟩
  go_wp2_with fail
  refine (bad_any w6 f true HT6.out.c2).mono ?_
  rintro e w' ⟨rfl, rfl⟩
  go_wp2_with fail
  refine (place_any w6 f 0 HT6.out.c1).mono ?_
  rintro e w' ⟨rfl, rfl⟩
  go_wp2
  go_ret
  exact ⟨rfl, HB6.out⟩

set_option maxHeartbeats 1000000 in
set_option maxRecDepth 100000 in
/-- Enough for the first field, too few for the second. -/
theorem walk_less (A : Option Addr) (c : Nat) (bs : List Int) (m n : Nat) (w : World) (hs : Sl w A c bs) (ho : Oct bs) (hl : bs.length ≤ 5000) (h1 : 1 ≤ m) (h2 : 1 ≤ n) (h8 : m + n ≤ 8) (hL : m ≤ bs.length) (hL2 : bs.length < m + n) :
    Calls Try.prog 7 #[.slice A bs.length c, .int .i64 m, .int .i64 n] w fun e w' => e = .returned (.bool true) ∧ Below w.heap.size w w' := by
  have d1 : decide ((5000 : Int) < (bs.length : Int)) = false := by simp; omega
  have d2 : decide ((m : Int) < 1) = false := by simp; omega
  have d3 : decide ((n : Int) < 1) = false := by simp; omega
  have d4 : decide (8 < (m : Int)) = false := by simp; omega
  have d5 : decide (8 < (n : Int)) = false := by simp; omega
  have d6 : decide (8 < (m : Int) + (n : Int)) = false := by simp; omega
  have HS := Lib.hid hs
  have HO := Lib.hid ho
  clear hs ho
  go_enter Try.func7, Try.ntmps7
  go_wp2_with fail
  refine (wakes_any w).mono ?_
  rintro e w1 ⟨rfl, hb1⟩
  have HB1 := Lib.hid hb1
  clear hb1
  go_wp2_with fail
  refine (read_b A c bs w1 (HS.out.below HB1.out) HO.out (by omega)).mono ?_
  rintro e w2 ⟨g, As, cs, rfl, hs2, hg, hb2⟩
  have hgl := hs2.lt
  have HG := Lib.hid hg
  have HB2 := Lib.hid (HB1.out.trans (hb2.mono HB1.out.size))
  have HS2 := Lib.hid hs2
  clear hs2 hb2 hg
  go_wp2_with fail
  refine (read_b A c bs w2 (HS.out.below HB2.out) HO.out (by omega)).mono ?_
  rintro e w3 ⟨f, At, ct, rfl, ht3, hf, hb3⟩
  have hne : f ≠ g := by omega
  have HF := Lib.hid (Nat.le_trans HB2.out.size hf)
  have HGW := Lib.hid (Nat.le_trans HB1.out.size HG.out)
  have HB3 := Lib.hid (HB2.out.trans (hb3.mono HB2.out.size))
  have HS3 := Lib.hid (HS2.out.below hb3)
  have HT3 := Lib.hid ht3
  clear ht3 hb3 hf HB1 HB2 HS2 HG hgl
  go_wp2_with fail
  refine (num_yes w3 g As cs bs 0 m HS3.out h1 (by omega) hL).mono ?_
  rintro e w4 ⟨rfl, ⟨A4, c4, hs4⟩, ho4⟩
  have HB4 := Lib.hid (HB3.out.trans (below_of_only ho4 HGW.out HB3.out.size))
  have HT4 := Lib.hid (HT3.out.far ho4 HS3.out.odd hne)
  have HS4 := Lib.hid hs4
  clear hs4 ho4 HB3 HT3 HS3
  generalize val (bs.take m) = X at *
  go_wp2_with fail
  refine (num_no w4 g A4 c4 (bs.drop m) (0 + m) n HS4.out (.inr (by simp; omega))).mono ?_
  rintro e w5 ⟨rfl, hs5, ho5⟩
  have HB5 := Lib.hid (HB4.out.trans (below_of_only ho5 HGW.out HB4.out.size))
  have HT5 := Lib.hid (HT4.out.far ho5 HS4.out.odd hne)
  have HS5 := Lib.hid hs5
  clear hs5 ho5 HB4 HT4 HS4
  go_wp2_with fail
  refine (num_no w5 f At ct bs 0 _ HT5.out (.inr (by omega))).mono ?_
  rintro e w6 ⟨rfl, ht6, ho6⟩
  have HB6 := Lib.hid (HB5.out.trans (below_of_only ho6 HF.out HB5.out.size))
  have HS6 := Lib.hid (HS5.out.far ho6 HT5.out.odd (Ne.symm hne))
  have HT6 := Lib.hid ht6
  clear ht6 ho6 HB5 HT5 HS5
  go_wp2_with fail
  refine (bad_any w6 g true HS6.out.c2).mono ?_
  rintro e w' ⟨rfl, rfl⟩
  go_wp2_with fail
  refine (bad_any w6 f true HT6.out.c2).mono ?_
  rintro e w' ⟨rfl, rfl⟩
  go_wp2_with fail
  refine (place_any w6 f 0 HT6.out.c1).mono ?_
  rintro e w' ⟨rfl, rfl⟩
  go_wp2
  go_ret
  exact ⟨rfl, HB6.out⟩

set_option maxHeartbeats 1000000 in
set_option maxRecDepth 100000 in
/-- Enough for both. -/
theorem walk_both (A : Option Addr) (c : Nat) (bs : List Int) (m n : Nat) (w : World) (hs : Sl w A c bs) (ho : Oct bs) (hl : bs.length ≤ 5000) (h1 : 1 ≤ m) (h2 : 1 ≤ n) (h8 : m + n ≤ 8) (hL : m + n ≤ bs.length) :
    Calls Try.prog 7 #[.slice A bs.length c, .int .i64 m, .int .i64 n] w fun e w' => e = .returned (.bool true) ∧ Below w.heap.size w w' := by
  have d1 : decide ((5000 : Int) < (bs.length : Int)) = false := by simp; omega
  have d2 : decide ((m : Int) < 1) = false := by simp; omega
  have d3 : decide ((n : Int) < 1) = false := by simp; omega
  have d4 : decide (8 < (m : Int)) = false := by simp; omega
  have d5 : decide (8 < (n : Int)) = false := by simp; omega
  have d6 : decide (8 < (m : Int) + (n : Int)) = false := by simp; omega
  have HS := Lib.hid hs
  have HO := Lib.hid ho
  clear hs ho
  go_enter Try.func7, Try.ntmps7
  go_wp2_with fail
  refine (wakes_any w).mono ?_
  rintro e w1 ⟨rfl, hb1⟩
  have HB1 := Lib.hid hb1
  clear hb1
  go_wp2_with fail
  refine (read_b A c bs w1 (HS.out.below HB1.out) HO.out (by omega)).mono ?_
  rintro e w2 ⟨g, As, cs, rfl, hs2, hg, hb2⟩
  have hgl := hs2.lt
  have HG := Lib.hid hg
  have HB2 := Lib.hid (HB1.out.trans (hb2.mono HB1.out.size))
  have HS2 := Lib.hid hs2
  clear hs2 hb2 hg
  go_wp2_with fail
  refine (read_b A c bs w2 (HS.out.below HB2.out) HO.out (by omega)).mono ?_
  rintro e w3 ⟨f, At, ct, rfl, ht3, hf, hb3⟩
  have hne : f ≠ g := by omega
  have HF := Lib.hid (Nat.le_trans HB2.out.size hf)
  have HGW := Lib.hid (Nat.le_trans HB1.out.size HG.out)
  have HB3 := Lib.hid (HB2.out.trans (hb3.mono HB2.out.size))
  have HS3 := Lib.hid (HS2.out.below hb3)
  have HT3 := Lib.hid ht3
  clear ht3 hb3 hf HB1 HB2 HS2 HG hgl
  go_wp2_with fail
  have hY : ((bs.drop m).take n).length = n := by simp; omega
  have hX : (bs.take m).length = m := by simp; omega
  have hZ : (bs.take (m + n)).length = m + n := by simp; omega
  have oX : Oct (bs.take m) := HO.out.take m
  have oY : Oct ((bs.drop m).take n) := (HO.out.drop m).take n
  have oZ : Oct (bs.take (m + n)) := HO.out.take _
  have eZ : bs.take (m + n) = bs.take m ++ (bs.drop m).take n := by rw [List.take_add]
  have eV := val_field bs m n hL HO.out
  have x0 := val_nonneg oX
  have y0 := val_nonneg oY
  have z0 := val_nonneg oZ
  have x1 := val_u64 oX (by omega)
  have y1 := val_u64 oY (by omega)
  have z1 := val_u64 oZ (by omega)
  have y2 := val_lt2 oY
  rw [hY] at y2
  have fX := fld_val m _ hX oX
  have fY := fld_val n _ hY oY
  have fZ := fld_val (m + n) _ hZ oZ
  have HD := Lib.hid (show (bs.drop m).length = bs.length - m by simp)
  have k1 := num_yes w3 g As cs bs 0 m HS3.out h1 (by omega) (by omega)
  have k2 := fun w4 A4 c4 (h : Sc w4 g A4 c4 (bs.drop m) (0 + m) false) => num_yes w4 g A4 c4 (bs.drop m) (0 + m) n h h2 (by omega) (by rw [HD.out]; omega)
  have k3 := fun w5 (h : Sc w5 f At ct bs 0 false) => num_yes w5 f At ct bs 0 (m + n) h (by omega) h8 hL
  obtain ⟨X, eX⟩ : ∃ X, X = val (bs.take m) := ⟨_, rfl⟩
  obtain ⟨Y, eY⟩ : ∃ Y, Y = val ((bs.drop m).take n) := ⟨_, rfl⟩
  obtain ⟨Z, eZZ⟩ : ∃ Z, Z = val (bs.take (m + n)) := ⟨_, rfl⟩
  rw [← eX] at k1 fX x0 x1 eV
  rw [← eY] at fY y0 y1 y2 eV
  rw [← eZZ] at fZ z0 z1 eV
  have hor : (Z == bits .or .u64 (IntKind.u64.wrap (X * 2 ^ (8 * n))) Y) = true := by
    have hm : X * 2 ^ (8 * n) < 18446744073709551616 := by omega
    have hp : (0 : Int) ≤ X * 2 ^ (8 * n) := Int.mul_nonneg x0 (Int.pow_nonneg (by omega))
    have hw : IntKind.u64.wrap (X * 2 ^ (8 * n)) = X * 2 ^ (8 * n) := by rw [IntKind.wrap_u64]; omega
    rw [hw, or_shift X Y n x0 hm y0 y2 y1, eV]
    simp
  have HK1 := Lib.hid k1
  have HK2 := Lib.hid k2
  have HK3 := Lib.hid k3
  have EX := Lib.hid eX
  have EY := Lib.hid eY
  have EZ := Lib.hid eZZ
  have FX := Lib.hid fX
  have FY := Lib.hid fY
  have FZ := Lib.hid fZ
  have ET := Lib.hid eZ
  have HX := Lib.hid hX
  have HY := Lib.hid hY
  have HZ := Lib.hid hZ
  clear hX hY hZ oX oY oZ eZ k1 k2 k3 eX eY eZZ fX fY fZ eV y2
  refine HK1.out.mono ?_
  rintro e w4 ⟨rfl, ⟨A4, c4, hs4⟩, ho4⟩
  have HB4 := Lib.hid (HB3.out.trans (below_of_only ho4 HGW.out HB3.out.size))
  have HT4 := Lib.hid (HT3.out.far ho4 HS3.out.odd hne)
  have HS4 := Lib.hid hs4
  clear hs4 ho4 HB3 HT3 HS3 HK1
  go_wp2_with fail
  have k := HK2.out w4 A4 c4 HS4.out
  rw [← EY.out] at k
  refine k.mono ?_
  clear k
  rintro e w5 ⟨rfl, ⟨A5, c5, hs5⟩, ho5⟩
  have HB5 := Lib.hid (HB4.out.trans (below_of_only ho5 HGW.out HB4.out.size))
  have HT5 := Lib.hid (HT4.out.far ho5 HS4.out.odd hne)
  have HS5 := Lib.hid hs5
  clear hs5 ho5 HB4 HT4 HS4 HK2
  go_wp2_with fail
  have k := HK3.out w5 HT5.out
  rw [← EZ.out, show ((m + n : Nat) : Int) = (m : Int) + (n : Int) from by omega] at k
  refine k.mono ?_
  clear k
  rintro e w6 ⟨rfl, ⟨A6, c6, ht6⟩, ho6⟩
  have HB6 := Lib.hid (HB5.out.trans (below_of_only ho6 HF.out HB5.out.size))
  have HS6 := Lib.hid (HS5.out.far ho6 HT5.out.odd (Ne.symm hne))
  have HT6 := Lib.hid ht6
  clear ht6 ho6 HB5 HT5 HS5 HK3
  go_wp2_with fail
  refine (bad_any w6 g false HS6.out.c2).mono ?_
  rintro e w' ⟨rfl, rfl⟩
  go_wp2_with fail
  refine (bad_any w6 f false HT6.out.c2).mono ?_
  rintro e w' ⟨rfl, rfl⟩
  clear HS6 HT6
  go_wp2_with fail
  clear hor
  obtain ⟨L1, e1⟩ : ∃ L, L = bs.take m := ⟨_, rfl⟩
  obtain ⟨L2, e2⟩ : ∃ L, L = bs.take (m + n) := ⟨_, rfl⟩
  have q1 : L1.length = m := by rw [e1]; exact HX.out
  have F1 := Lib.hid (show fld m X = L1 by rw [e1]; exact FX.out)
  have F2 := Lib.hid (show L1 ++ fld n Y = L2 by rw [e1, e2, FY.out]; exact ET.out.symm)
  have F3 := Lib.hid (show fld (m + n) Z = L2 by rw [e2]; exact FZ.out)
  have Q1 := Lib.hid q1
  clear q1 e1 e2
  have p1 := put_b none 0 [] m X w6 ⟨by simp, by omega, Rd.empty⟩ (by simp) x0 x1
  rw [List.nil_append, fldOf_yes X h1 (by omega), F1.out] at p1
  refine p1.mono ?_
  clear p1
  rintro e w7 ⟨A7, c7, rfl, hn7, hb7⟩
  have HB7 := Lib.hid (HB6.out.trans (hb7.mono HB6.out.size))
  have HN7 := Lib.hid hn7
  clear hn7 hb7 HB6
  go_wp2_with fail
  have p2 := put_b A7 c7 L1 n Y w7 HN7.out.sl (by rw [Q1.out]; omega) y0 y1
  rw [fldOf_yes Y h2 (by omega), F2.out] at p2
  refine p2.mono ?_
  clear p2
  rintro e w8 ⟨A8, c8, rfl, hn8, hb8⟩
  have HB8 := Lib.hid (HB7.out.trans (hb8.mono HB7.out.size))
  have HN8 := Lib.hid hn8
  clear hn8 hb8 HB7 HN7
  go_wp2_with fail
  have p3 := put_b none 0 [] ((m + n : Nat) : Int) Z w8 ⟨by simp, by omega, Rd.empty⟩ (by simp) z0 z1
  rw [List.nil_append, fldOf_yes Z (by omega) h8, F3.out, show ((m + n : Nat) : Int) = (m : Int) + (n : Int) from by omega] at p3
  refine p3.mono ?_
  clear p3
  rintro e w9 ⟨A9, c9, rfl, hn9, hb9⟩
  have HB9 := Lib.hid (HB8.out.trans (hb9.mono HB8.out.size))
  have HN9 := Lib.hid hn9
  have HN8' := Lib.hid (HN8.out.sl.below hb9)
  clear hn9 hb9 HB8 HN8
  go_wp2_with fail
  refine (equal_same A8 A9 c8 c9 L2 w9 HN8'.out HN9.out.sl).mono ?_
  rintro e w' ⟨rfl, rfl⟩
  go_wp2
  go_ret
  exact ⟨rfl, HB9.out⟩

theorem walk {w : World} (A : Option Addr) (c : Nat) (bs : List Int) (hs : Sl w A c bs) (ho : Oct bs) (m : Int) (wm : (Lit.int .i64 m).wf = true) (n : Int) (wn : (Lit.int .i64 n).wf = true) :
    Calls Try.prog 7 #[.slice A bs.length c, .int .i64 m, .int .i64 n] w fun e w' => e = .returned (.bool true) ∧ Below w.heap.size w w' := by
  by_cases h : 5000 < bs.length ∨ m < 1 ∨ n < 1 ∨ 8 < m ∨ 8 < n ∨ 8 < m + n
  · exact walk_out A _ c m n w h
  · obtain ⟨m', rfl⟩ := Int.eq_ofNat_of_zero_le (show 0 ≤ m by omega)
    obtain ⟨n', rfl⟩ := Int.eq_ofNat_of_zero_le (show 0 ≤ n by omega)
    by_cases h1 : bs.length < m'
    · exact walk_few A c bs m' n' w hs ho (by omega) (by omega) (by omega) (by omega) h1
    by_cases h2 : bs.length < m' + n'
    · exact walk_less A c bs m' n' w hs ho (by omega) (by omega) (by omega) (by omega) (by omega) h2
    · exact walk_both A c bs m' n' w hs ho (by omega) (by omega) (by omega) (by omega) (by omega)

set_option maxRecDepth 100000 in
theorem lifted (os : Os) (started : os.Started) (H : Type) (enc : TypeId × Value → H) :
    ReturnsInHanded {} Try.checked os 7 .any (Rows.fieldJoinsSpec.pre6 enc Try.prog Try.f7 Rows.fieldJoinsRow.domain false) (Rows.fieldJoinsSpec.post enc Try.prog Try.f7 false true false false) := by
  refine returnsInHanded_of_change (C := Try.checked) Try.own started (by kernel_rfl) Try.func7
    (ChangeSpec.witness6 (enc := enc) (C := Try.checked) false ⟨#[], #[.slice none 0 0, .int .i64 0, .int .i64 0], []⟩ 8 (by kernel_rfl) (by kernel_rfl) (by kernel_rfl) (by kernel_rfl)) ?_
  intro W base args ds gs before hval0 hW hcnd _
  have hval : ∀ (j : Nat) t v, Try.f7.params[j]? = some t → args[j]? = some v → Value.okWide Try.prog W .any base t v := hval0
  have hW' := hW
  obtain ⟨p, q, hA0, hV, rfl, hfz, hnd⟩ := hW
  have hA : DataW.TrodAll enc Try.prog W 0 (fun _ => true) true Try.f7.params.toList args.toList ds p := hA0
  rw [Try.params7] at hA hval
  have hA' := hA
  obtain ⟨v0, vs0, d0, ds0, p0, q0, hargs, rfl, rfl, h0, r0⟩ := trodAll_cons hA
  obtain ⟨v1, vs1, d1, ds1, p1, q1, rfl, rfl, rfl, h1, r1⟩ := trodAll_cons r0
  obtain ⟨v2, vs2, d2, ds2, p2, q2, rfl, rfl, rfl, h2, r2⟩ := trodAll_cons r1
  obtain ⟨rfl, rfl, rfl⟩ := trodAll_nil r2
  obtain rfl : args = #[v0, v1, v2] := by cases args; simp_all
  obtain ⟨rfl, rfl⟩ := trodVars_none hV
  obtain ⟨A0, len0, c0, rfl⟩ := okWide_slice Try.underlying22 (hval 0 22 v0 rfl rfl)
  obtain ⟨z0, rfl, sl0, oc0⟩ := open_bytes h0
  obtain ⟨a1, rfl, rfl, rfl, w1⟩ := open_int Try.underlying3 (hval 1 3 v1 rfl rfl) h1
  obtain ⟨a2, rfl, rfl, rfl, w2⟩ := open_int Try.underlying3 (hval 2 3 v2 rfl rfl) h2
  clear hA0 hval0
  refine (walk A0 c0 z0 sl0 oc0 a1 w1 a2 w2).mono fun e W' ⟨he, bel⟩ => ?_
  subst he
  exact ⟨_, rfl, _, _, _, [], _, [], hW', trodAll_mk1 (shut_bool Try.underlying4 _), trodAll_below bel _ _ _ _ (by kernel_rfl) hA', rfl, bel.frame _, fun h => by cases h⟩

theorem proved : Rows.FieldJoinsSaid :=
  OpenClaim.holds_of_wide 7 Try.f7 rfl rfl rfl rfl rfl rfl rfl ⟨rfl, rfl, rfl, rfl, rfl⟩ rfl rfl rfl rfl rfl (by kernel_rfl) Try.func7 (by kernel_rfl)
    (of_decide_eq_true (by kernel_rfl)) (by unfold Func.isWrapper; first | (rw [if_pos (by decide +kernel)]; kernel_rfl) | (rw [if_neg (by decide +kernel)]; exact ⟨rfl, rfl⟩))
    (fun os started H enc _ => lifted os started H enc)
#print axioms proved
end Go.Proofs.Ytnpmdbcijaanjaa.fieldJoins
