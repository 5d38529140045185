/-
  Proved: the law FieldOrders, fields of one size stand in the order of their numbers, those with a sign too if the highest bit of each is turned, returns true for every size and all numbers x, y, and leaves all memory as it was. No condition.
-/
import Derived.Test.YtnpmdbcijaanjaaLawFrame
import Derived.Test.YtnpmdbcijaanjaaFieldWakes
import Derived.Test.YtnpmdbcijaanjaaFieldCompare
namespace Go.Proofs.Ytnpmdbcijaanjaa.fieldOrders
open Go.ChangeShapes Go.WideShapes Go.ChangeAt Go.RowKit
set_option linter.unusedVariables false

theorem New.blk {B : Nat} {w : World} {A : Option Addr} {c : Nat} {bs : List Int} (h : New B w A c bs) (h0 : 0 < bs.length) : ∃ g, A = some ⟨g, 0, none⟩ ∧ B ≤ g ∧ g < w.heap.size := by
  rcases h.2 with ⟨_, hn⟩ | ⟨g, cap, cur, hv, hg, hh, _⟩
  · omega
  · injection hv with hA
    exact ⟨g, hA, hg, lt_of_block hh⟩
theorem New.set0 {B : Nat} {w : World} {g : Nat} {c : Nat} {bs : List Int} (h : New B w (some ⟨g, 0, none⟩) c bs) (x : Int) : New B (w.setCell ⟨g, 0, none⟩ (.int .u8 x)) (some ⟨g, 0, none⟩) c (bs.set 0 x) := by
  have := (World.ownsRow.stored h 0 (.int .u8 x)).1
  unfold New
  rw [List.length_set, List.map_set]
  exact this
theorem New.far {B : Nat} {w : World} {g : Nat} {A : Option Addr} {c : Nat} {bs : List Int} (h : New B w A c bs) {p : Addr} (hne : A ≠ some ⟨p.block, 0, none⟩) (u : Value) : New B (w.setCell p u) A c bs := by
  refine ownsRow_setCell_other h ?_ u
  intro e
  rcases h.2 with ⟨hv, _⟩ | ⟨g, cap, cur, hv, _⟩
  · injection hv with hA
    subst hA
    simp [Value.ownBlock] at e
  · injection hv with hA
    subst hA
    simp [Value.ownBlock] at e
    subst e
    exact hne rfl
theorem ord_add (x y h : Int) : ord (x + h) (y + h) = ord x y := by
  unfold ord
  split <;> split <;> first | rfl | omega | (split <;> first | rfl | omega) | (split <;> split <;> first | rfl | omega)
theorem set_oct {bs : List Int} (h : Oct bs) (x : Int) (hx : 0 ≤ x ∧ x < 256) : Oct (bs.set 0 x) := by
  intro b hb
  rcases List.mem_or_eq_of_mem_set hb with h' | rfl
  · exact h b h'
  · exact hx

/-- What is no size. -/
theorem walk_no (n x y : Int) (w : World) (hx : 0 ≤ x) (hx2 : x < 18446744073709551616) (h : n < 1 ∨ 8 < n) :
    Calls Try.prog 8 #[.int .i64 n, .int .u64 x, .int .u64 y] w fun e w' => e = .returned (.bool true) ∧ Below w.heap.size w w' := by
  have hno : Hid ([] ++ fldOf n x = []) := by unfold Hid; rw [fldOf_no x (size_no (by omega)), List.append_nil]
  by_cases h1 : n < 1
  · go_enter Try.func8, Try.ntmps8
    go_wp2_with fail
    refine (wakes_any w).mono ?_
    rintro e w1 ⟨rfl, hb1⟩
    go_wp2_with fail
    have k := put_b none 0 [] n x w1 ⟨by simp, by omega, Rd.empty⟩ (by simp) hx hx2
    rw [hno.out] at k
    refine k.mono ?_
    clear k
    rintro e w2 ⟨A2, c2, rfl, hn2, hb2⟩
    have HB2 := Lib.hid (hb1.trans (hb2.mono hb1.size))
    clear hn2 hb2 hb1
    go_wp2
    go_ret
    exact ⟨rfl, HB2.out⟩
  · have e1 : decide (n < 1) = false := by simp; omega
    have h2 : 8 < n := by omega
    clear h
    go_enter Try.func8, Try.ntmps8
    go_wp2_with fail
    refine (wakes_any w).mono ?_
    rintro e w1 ⟨rfl, hb1⟩
    go_wp2_with fail
    have k := put_b none 0 [] n x w1 ⟨by simp, by omega, Rd.empty⟩ (by simp) hx hx2
    rw [hno.out] at k
    refine k.mono ?_
    clear k
    rintro e w2 ⟨A2, c2, rfl, hn2, hb2⟩
    have HB2 := Lib.hid (hb1.trans (hb2.mono hb1.size))
    clear hn2 hb2 hb1
    go_wp2
    go_ret
    exact ⟨rfl, HB2.out⟩

set_option maxHeartbeats 1000000 in
set_option maxRecDepth 100000 in
theorem walk_ai (m : Nat) (x y x1 y1 : Int) (w : World) (h1 : 1 ≤ m) (h8 : m ≤ 8) (hx : 0 ≤ x) (hx2 : x < 18446744073709551616) (hy : 0 ≤ y) (hy2 : y < 18446744073709551616) (hxw : wrap64 x = x1) (hyw : wrap64 y = y1)
    (bx : -9223372036854775808 ≤ x1) (bx2 : x1 < 9223372036854775808) (by1 : -9223372036854775808 ≤ y1) (by2 : y1 < 9223372036854775808) (hfx : fitsB m x = false) (hix : fitsIntB m x1 = false) :
    Calls Try.prog 8 #[.int .i64 m, .int .u64 x, .int .u64 y] w fun e w' => e = .returned (.bool true) ∧ Below w.heap.size w w' := by
  have e1 : decide ((m : Int) < 1) = false := by simp; omega
  have e2 : decide (8 < (m : Int)) = false := by simp; omega
  have Ix := Lib.hid hix
  clear hix
  have Fx := Lib.hid hfx
  clear hfx
  go_enter Try.func8, Try.ntmps8
  go_wp2_with fail
  refine (wakes_any w).mono ?_
  rintro e w1 ⟨rfl, hb1⟩
  have HB1 := Lib.hid hb1
  clear hb1
  go_wp2_with fail
  have k := fits_any m x w1 (by omega) (by omega)
  rw [Fx.out] at k
  refine k.mono ?_
  clear k
  rintro e w' ⟨rfl, rfl⟩
  go_wp2_with fail
  have k := fitsInt_any m x1 w1 (by omega) (by omega)
  rw [Ix.out] at k
  refine k.mono ?_
  clear k
  rintro e w' ⟨rfl, rfl⟩
  go_wp2
  go_ret
  exact ⟨rfl, HB1.out⟩

set_option maxHeartbeats 1000000 in
set_option maxRecDepth 100000 in
theorem walk_aj (m : Nat) (x y x1 y1 : Int) (w : World) (h1 : 1 ≤ m) (h8 : m ≤ 8) (hx : 0 ≤ x) (hx2 : x < 18446744073709551616) (hy : 0 ≤ y) (hy2 : y < 18446744073709551616) (hxw : wrap64 x = x1) (hyw : wrap64 y = y1)
    (bx : -9223372036854775808 ≤ x1) (bx2 : x1 < 9223372036854775808) (by1 : -9223372036854775808 ≤ y1) (by2 : y1 < 9223372036854775808) (hfx : fitsB m x = false) (hix : fitsIntB m x1 = true) (hiy : fitsIntB m y1 = false) :
    Calls Try.prog 8 #[.int .i64 m, .int .u64 x, .int .u64 y] w fun e w' => e = .returned (.bool true) ∧ Below w.heap.size w w' := by
  have e1 : decide ((m : Int) < 1) = false := by simp; omega
  have e2 : decide (8 < (m : Int)) = false := by simp; omega
  have Ix := Lib.hid hix
  have Iy := Lib.hid hiy
  clear hix hiy
  have Fx := Lib.hid hfx
  clear hfx
  go_enter Try.func8, Try.ntmps8
  go_wp2_with fail
  refine (wakes_any w).mono ?_
  rintro e w1 ⟨rfl, hb1⟩
  have HB1 := Lib.hid hb1
  clear hb1
  go_wp2_with fail
  have k := fits_any m x w1 (by omega) (by omega)
  rw [Fx.out] at k
  refine k.mono ?_
  clear k
  rintro e w' ⟨rfl, rfl⟩
  go_wp2_with fail
  have k := fitsInt_any m x1 w1 (by omega) (by omega)
  rw [Ix.out] at k
  refine k.mono ?_
  clear k
  rintro e w' ⟨rfl, rfl⟩
  go_wp2_with fail
  have k := fitsInt_any m y1 w1 (by omega) (by omega)
  rw [Iy.out] at k
  refine k.mono ?_
  clear k
  rintro e w' ⟨rfl, rfl⟩
  go_wp2
  go_ret
  exact ⟨rfl, HB1.out⟩

set_option maxHeartbeats 1000000 in
set_option maxRecDepth 100000 in
theorem walk_ak (m : Nat) (x y x1 y1 : Int) (w : World) (h1 : 1 ≤ m) (h8 : m ≤ 8) (hx : 0 ≤ x) (hx2 : x < 18446744073709551616) (hy : 0 ≤ y) (hy2 : y < 18446744073709551616) (hxw : wrap64 x = x1) (hyw : wrap64 y = y1)
    (bx : -9223372036854775808 ≤ x1) (bx2 : x1 < 9223372036854775808) (by1 : -9223372036854775808 ≤ y1) (by2 : y1 < 9223372036854775808) (hfx : fitsB m x = false) (hix : fitsIntB m x1 = true) (hiy : fitsIntB m y1 = true) :
    Calls Try.prog 8 #[.int .i64 m, .int .u64 x, .int .u64 y] w fun e w' => e = .returned (.bool true) ∧ Below w.heap.size w w' := by
  have e1 : decide ((m : Int) < 1) = false := by simp; omega
  have e2 : decide (8 < (m : Int)) = false := by simp; omega
  have Ix := Lib.hid hix
  have Iy := Lib.hid hiy
  obtain ⟨K, hK⟩ : ∃ K, K = fld m (unsg x1) := ⟨_, rfl⟩
  obtain ⟨L, hL⟩ : ∃ L, L = fld m (unsg y1) := ⟨_, rfl⟩
  have KX := Lib.hid (show [] ++ fldOf m (unsg x1) = K by rw [fldOf_yes _ h1 h8, List.nil_append, hK])
  have LY := Lib.hid (show [] ++ fldOf m (unsg y1) = L by rw [fldOf_yes _ h1 h8, List.nil_append, hL])
  have oK : Oct K := by rw [hK]; exact fld_oct _ _
  have oL : Oct L := by rw [hL]; exact fld_oct _ _
  have lK : K.length = m := by rw [hK, fld_length]
  have lL : L.length = m := by rw [hL, fld_length]
  obtain ⟨hk, ehk⟩ : ∃ h, h = K.getD 0 0 := ⟨_, rfl⟩
  obtain ⟨hl, ehl⟩ : ∃ h, h = L.getD 0 0 := ⟨_, rfl⟩
  have bk : 0 ≤ hk ∧ hk < 256 := by rw [ehk]; exact oK.at_ 0
  have bl : 0 ≤ hl ∧ hl < 256 := by rw [ehl]; exact oL.at_ 0
  have fk := flip_bits hk bk.1 bk.2
  have fl := flip_bits hl bl.1 bl.2
  have vK := flip_val m x1 h1 h8 ⟨bx, bx2⟩ hix
  have vL := flip_val m y1 h1 h8 ⟨by1, by2⟩ hiy
  rw [← hK, ← ehk] at vK
  rw [← hL, ← ehl] at vL
  have ok := flip_oct hk bk.1 bk.2
  have ol := flip_oct hl bl.1 bl.2
  obtain ⟨tk, etk⟩ : ∃ t, t = flip hk := ⟨_, rfl⟩
  obtain ⟨tl, etl⟩ : ∃ t, t = flip hl := ⟨_, rfl⟩
  rw [← etk] at fk vK ok
  rw [← etl] at fl vL ol
  obtain ⟨r, hr⟩ : ∃ r, r = ord x1 y1 := ⟨_, rfl⟩
  have RR := Lib.hid hr
  have VK := Lib.hid vK
  have VL := Lib.hid vL
  have OK := Lib.hid (set_oct oK tk ok)
  have OL := Lib.hid (set_oct oL tl ol)
  have EHK := Lib.hid ehk
  have EHL := Lib.hid ehl
  have FK := Lib.hid fk
  have FL := Lib.hid fl
  have LK := Lib.hid lK
  have LL := Lib.hid lL
  clear hix hiy hK hL oK oL lK lL ehk ehl bk bl fk fl vK vL ok ol etk etl hr
  have Fx := Lib.hid hfx
  clear hfx
  go_enter Try.func8, Try.ntmps8
  go_wp2_with fail
  refine (wakes_any w).mono ?_
  rintro e w1 ⟨rfl, hb1⟩
  have HB1 := Lib.hid hb1
  clear hb1
  go_wp2_with fail
  have k := fits_any m x w1 (by omega) (by omega)
  rw [Fx.out] at k
  refine k.mono ?_
  clear k
  rintro e w' ⟨rfl, rfl⟩
  go_wp2_with fail
  have k := fitsInt_any m x1 w1 (by omega) (by omega)
  rw [Ix.out] at k
  refine k.mono ?_
  clear k
  rintro e w' ⟨rfl, rfl⟩
  go_wp2_with fail
  have k := fitsInt_any m y1 w1 (by omega) (by omega)
  rw [Iy.out] at k
  refine k.mono ?_
  clear k
  rintro e w' ⟨rfl, rfl⟩
  go_wp2_with fail
  have k := lay_b none 0 [] m x1 w1 ⟨by simp, by omega, Rd.empty⟩ (by simp)
  rw [KX.out] at k
  refine k.mono ?_
  clear k
  rintro e w5 ⟨A5, c5, rfl, hn5, hb5⟩
  have HB5 := Lib.hid (HB1.out.trans (hb5.mono HB1.out.size))
  obtain ⟨g, rfl, hg, hgl⟩ := New.blk hn5 (by rw [LK.out]; omega)
  have HG := Lib.hid (Nat.le_trans HB1.out.size hg)
  have HN5 := Lib.hid hn5
  clear hn5 hb5 hg
  go_wp2_with fail
  have k := lay_b none 0 [] m y1 w5 ⟨by simp, by omega, Rd.empty⟩ (by simp)
  rw [LY.out] at k
  refine k.mono ?_
  clear k
  rintro e w6 ⟨A6, c6, rfl, hn6, hb6⟩
  have HB6 := Lib.hid (HB5.out.trans (hb6.mono HB5.out.size))
  obtain ⟨f, rfl, hf, hfl⟩ := New.blk hn6 (by rw [LL.out]; omega)
  have hgf : ¬ g = f := by omega
  have hfg : ¬ f = g := by omega
  have HF := Lib.hid (Nat.le_trans HB5.out.size hf)
  have HN5' := Lib.hid (World.ownsRow.kept HN5.out (row := none) (World.grownBy.mk hb6.os hb6.tape hb6.output hb6.size (fun i hi _ => hb6.block i hi)) (.inr (by simp [Value.ownBlock])))
  have HN6 := Lib.hid hn6
  have c50 : w6.cell? ⟨g, 0, none⟩ = some (.int .u8 hk) := by
    have hlen := LK.out
    have := World.ownsRow.cellAt HN5'.out 0 (by omega)
    rw [this, EHK.out]
    simp [List.getD, show 0 < K.length by omega]
  have c60 : w6.cell? ⟨f, 0, none⟩ = some (.int .u8 hl) := by
    have hlen := LL.out
    have := World.ownsRow.cellAt HN6.out 0 (by omega)
    rw [this, EHL.out]
    simp [List.getD, show 0 < L.length by omega]
  have f50 : w6.frozen? ⟨g, 0, none⟩ = false := World.ownsRow.frozenAt HN5'.out 0
  have f60 : w6.frozen? ⟨f, 0, none⟩ = false := World.ownsRow.frozenAt HN6.out 0
  have pK : (0 : Int) < (K.length : Int) := by rw [LK.out]; omega
  have pL : (0 : Int) < (L.length : Int) := by rw [LL.out]; omega
  have fk := FK.out
  have fl := FL.out
  clear hn6 hb6 hf HN5 HB1 HB5 hgl hfl
  go_wp2_with fail
  have s5 : New w1.heap.size ((w6.setCell ⟨g, 0, none⟩ (.int .u8 tk)).setCell ⟨f, 0, none⟩ (.int .u8 tl)) (some ⟨g, 0, none⟩) c5 (K.set 0 tk) := New.far (g := 0) (New.set0 HN5'.out tk) (fun e => by injection e with e; exact hgf (congrArg Addr.block e)) _
  have s6 : New w5.heap.size ((w6.setCell ⟨g, 0, none⟩ (.int .u8 tk)).setCell ⟨f, 0, none⟩ (.int .u8 tl)) (some ⟨f, 0, none⟩) c6 (L.set 0 tl) := New.set0 (New.far (g := 0) HN6.out (p := ⟨g, 0, none⟩) (fun e => by injection e with e; exact hfg (congrArg Addr.block e)) _) tl
  have HB7 := Lib.hid (((HB6.out.setCell (p := ⟨g, 0, none⟩) HG.out (.int .u8 tk))).setCell (p := ⟨f, 0, none⟩) HF.out (.int .u8 tl))
  generalize (w6.setCell ⟨g, 0, none⟩ (.int .u8 tk)).setCell ⟨f, 0, none⟩ (.int .u8 tl) = w7 at *
  have k := compare_b _ _ c5 c6 (K.set 0 tk) (L.set 0 tl) w7 s5.sl s6.sl (by rw [List.length_set, List.length_set, LK.out, LL.out]) OK.out OL.out
  rw [List.length_set, List.length_set, VK.out, VL.out, ord_add, ← RR.out] at k
  refine k.mono ?_
  clear k s5 s6 c50 c60 f50 f60 fk fl
  rintro e w' ⟨rfl, rfl⟩
  go_wp2_with fail
  have k := cmp_i64 x1 y1 w7
  rw [← RR.out] at k
  refine k.mono ?_
  clear k
  rintro e w' ⟨rfl, rfl⟩
  go_wp2
  go_ret
  exact ⟨by simp, HB7.out⟩

set_option maxHeartbeats 1000000 in
set_option maxRecDepth 100000 in
theorem walk_bi (m : Nat) (x y x1 y1 : Int) (w : World) (h1 : 1 ≤ m) (h8 : m ≤ 8) (hx : 0 ≤ x) (hx2 : x < 18446744073709551616) (hy : 0 ≤ y) (hy2 : y < 18446744073709551616) (hxw : wrap64 x = x1) (hyw : wrap64 y = y1)
    (bx : -9223372036854775808 ≤ x1) (bx2 : x1 < 9223372036854775808) (by1 : -9223372036854775808 ≤ y1) (by2 : y1 < 9223372036854775808) (hfx : fitsB m x = true) (hfy : fitsB m y = false) (hix : fitsIntB m x1 = false) :
    Calls Try.prog 8 #[.int .i64 m, .int .u64 x, .int .u64 y] w fun e w' => e = .returned (.bool true) ∧ Below w.heap.size w w' := by
  have e1 : decide ((m : Int) < 1) = false := by simp; omega
  have e2 : decide (8 < (m : Int)) = false := by simp; omega
  have Ix := Lib.hid hix
  clear hix
  have Fx := Lib.hid hfx
  have Fy := Lib.hid hfy
  clear hfx hfy
  go_enter Try.func8, Try.ntmps8
  go_wp2_with fail
  refine (wakes_any w).mono ?_
  rintro e w1 ⟨rfl, hb1⟩
  have HB1 := Lib.hid hb1
  clear hb1
  go_wp2_with fail
  have k := fits_any m x w1 (by omega) (by omega)
  rw [Fx.out] at k
  refine k.mono ?_
  clear k
  rintro e w' ⟨rfl, rfl⟩
  go_wp2_with fail
  have k := fits_any m y w1 (by omega) (by omega)
  rw [Fy.out] at k
  refine k.mono ?_
  clear k
  rintro e w' ⟨rfl, rfl⟩
  go_wp2_with fail
  have k := fitsInt_any m x1 w1 (by omega) (by omega)
  rw [Ix.out] at k
  refine k.mono ?_
  clear k
  rintro e w' ⟨rfl, rfl⟩
  go_wp2
  go_ret
  exact ⟨rfl, HB1.out⟩

set_option maxHeartbeats 1000000 in
set_option maxRecDepth 100000 in
theorem walk_bj (m : Nat) (x y x1 y1 : Int) (w : World) (h1 : 1 ≤ m) (h8 : m ≤ 8) (hx : 0 ≤ x) (hx2 : x < 18446744073709551616) (hy : 0 ≤ y) (hy2 : y < 18446744073709551616) (hxw : wrap64 x = x1) (hyw : wrap64 y = y1)
    (bx : -9223372036854775808 ≤ x1) (bx2 : x1 < 9223372036854775808) (by1 : -9223372036854775808 ≤ y1) (by2 : y1 < 9223372036854775808) (hfx : fitsB m x = true) (hfy : fitsB m y = false) (hix : fitsIntB m x1 = true) (hiy : fitsIntB m y1 = false) :
    Calls Try.prog 8 #[.int .i64 m, .int .u64 x, .int .u64 y] w fun e w' => e = .returned (.bool true) ∧ Below w.heap.size w w' := by
  have e1 : decide ((m : Int) < 1) = false := by simp; omega
  have e2 : decide (8 < (m : Int)) = false := by simp; omega
  have Ix := Lib.hid hix
  have Iy := Lib.hid hiy
  clear hix hiy
  have Fx := Lib.hid hfx
  have Fy := Lib.hid hfy
  clear hfx hfy
  go_enter Try.func8, Try.ntmps8
  go_wp2_with fail
  refine (wakes_any w).mono ?_
  rintro e w1 ⟨rfl, hb1⟩
  have HB1 := Lib.hid hb1
  clear hb1
  go_wp2_with fail
  have k := fits_any m x w1 (by omega) (by omega)
  rw [Fx.out] at k
  refine k.mono ?_
  clear k
  rintro e w' ⟨rfl, rfl⟩
  go_wp2_with fail
  have k := fits_any m y w1 (by omega) (by omega)
  rw [Fy.out] at k
  refine k.mono ?_
  clear k
  rintro e w' ⟨rfl, rfl⟩
  go_wp2_with fail
  have k := fitsInt_any m x1 w1 (by omega) (by omega)
  rw [Ix.out] at k
  refine k.mono ?_
  clear k
  rintro e w' ⟨rfl, rfl⟩
  go_wp2_with fail
  have k := fitsInt_any m y1 w1 (by omega) (by omega)
  rw [Iy.out] at k
  refine k.mono ?_
  clear k
  rintro e w' ⟨rfl, rfl⟩
  go_wp2
  go_ret
  exact ⟨rfl, HB1.out⟩

set_option maxHeartbeats 1000000 in
set_option maxRecDepth 100000 in
theorem walk_bk (m : Nat) (x y x1 y1 : Int) (w : World) (h1 : 1 ≤ m) (h8 : m ≤ 8) (hx : 0 ≤ x) (hx2 : x < 18446744073709551616) (hy : 0 ≤ y) (hy2 : y < 18446744073709551616) (hxw : wrap64 x = x1) (hyw : wrap64 y = y1)
    (bx : -9223372036854775808 ≤ x1) (bx2 : x1 < 9223372036854775808) (by1 : -9223372036854775808 ≤ y1) (by2 : y1 < 9223372036854775808) (hfx : fitsB m x = true) (hfy : fitsB m y = false) (hix : fitsIntB m x1 = true) (hiy : fitsIntB m y1 = true) :
    Calls Try.prog 8 #[.int .i64 m, .int .u64 x, .int .u64 y] w fun e w' => e = .returned (.bool true) ∧ Below w.heap.size w w' := by
  have e1 : decide ((m : Int) < 1) = false := by simp; omega
  have e2 : decide (8 < (m : Int)) = false := by simp; omega
  have Ix := Lib.hid hix
  have Iy := Lib.hid hiy
  obtain ⟨K, hK⟩ : ∃ K, K = fld m (unsg x1) := ⟨_, rfl⟩
  obtain ⟨L, hL⟩ : ∃ L, L = fld m (unsg y1) := ⟨_, rfl⟩
  have KX := Lib.hid (show [] ++ fldOf m (unsg x1) = K by rw [fldOf_yes _ h1 h8, List.nil_append, hK])
  have LY := Lib.hid (show [] ++ fldOf m (unsg y1) = L by rw [fldOf_yes _ h1 h8, List.nil_append, hL])
  have oK : Oct K := by rw [hK]; exact fld_oct _ _
  have oL : Oct L := by rw [hL]; exact fld_oct _ _
  have lK : K.length = m := by rw [hK, fld_length]
  have lL : L.length = m := by rw [hL, fld_length]
  obtain ⟨hk, ehk⟩ : ∃ h, h = K.getD 0 0 := ⟨_, rfl⟩
  obtain ⟨hl, ehl⟩ : ∃ h, h = L.getD 0 0 := ⟨_, rfl⟩
  have bk : 0 ≤ hk ∧ hk < 256 := by rw [ehk]; exact oK.at_ 0
  have bl : 0 ≤ hl ∧ hl < 256 := by rw [ehl]; exact oL.at_ 0
  have fk := flip_bits hk bk.1 bk.2
  have fl := flip_bits hl bl.1 bl.2
  have vK := flip_val m x1 h1 h8 ⟨bx, bx2⟩ hix
  have vL := flip_val m y1 h1 h8 ⟨by1, by2⟩ hiy
  rw [← hK, ← ehk] at vK
  rw [← hL, ← ehl] at vL
  have ok := flip_oct hk bk.1 bk.2
  have ol := flip_oct hl bl.1 bl.2
  obtain ⟨tk, etk⟩ : ∃ t, t = flip hk := ⟨_, rfl⟩
  obtain ⟨tl, etl⟩ : ∃ t, t = flip hl := ⟨_, rfl⟩
  rw [← etk] at fk vK ok
  rw [← etl] at fl vL ol
  obtain ⟨r, hr⟩ : ∃ r, r = ord x1 y1 := ⟨_, rfl⟩
  have RR := Lib.hid hr
  have VK := Lib.hid vK
  have VL := Lib.hid vL
  have OK := Lib.hid (set_oct oK tk ok)
  have OL := Lib.hid (set_oct oL tl ol)
  have EHK := Lib.hid ehk
  have EHL := Lib.hid ehl
  have FK := Lib.hid fk
  have FL := Lib.hid fl
  have LK := Lib.hid lK
  have LL := Lib.hid lL
  clear hix hiy hK hL oK oL lK lL ehk ehl bk bl fk fl vK vL ok ol etk etl hr
  have Fx := Lib.hid hfx
  have Fy := Lib.hid hfy
  clear hfx hfy
  go_enter Try.func8, Try.ntmps8
  go_wp2_with fail
  refine (wakes_any w).mono ?_
  rintro e w1 ⟨rfl, hb1⟩
  have HB1 := Lib.hid hb1
  clear hb1
  go_wp2_with fail
  have k := fits_any m x w1 (by omega) (by omega)
  rw [Fx.out] at k
  refine k.mono ?_
  clear k
  rintro e w' ⟨rfl, rfl⟩
  go_wp2_with fail
  have k := fits_any m y w1 (by omega) (by omega)
  rw [Fy.out] at k
  refine k.mono ?_
  clear k
  rintro e w' ⟨rfl, rfl⟩
  go_wp2_with fail
  have k := fitsInt_any m x1 w1 (by omega) (by omega)
  rw [Ix.out] at k
  refine k.mono ?_
  clear k
  rintro e w' ⟨rfl, rfl⟩
  go_wp2_with fail
  have k := fitsInt_any m y1 w1 (by omega) (by omega)
  rw [Iy.out] at k
  refine k.mono ?_
  clear k
  rintro e w' ⟨rfl, rfl⟩
  go_wp2_with fail
  have k := lay_b none 0 [] m x1 w1 ⟨by simp, by omega, Rd.empty⟩ (by simp)
  rw [KX.out] at k
  refine k.mono ?_
  clear k
  rintro e w5 ⟨A5, c5, rfl, hn5, hb5⟩
  have HB5 := Lib.hid (HB1.out.trans (hb5.mono HB1.out.size))
  obtain ⟨g, rfl, hg, hgl⟩ := New.blk hn5 (by rw [LK.out]; omega)
  have HG := Lib.hid (Nat.le_trans HB1.out.size hg)
  have HN5 := Lib.hid hn5
  clear hn5 hb5 hg
  go_wp2_with fail
  have k := lay_b none 0 [] m y1 w5 ⟨by simp, by omega, Rd.empty⟩ (by simp)
  rw [LY.out] at k
  refine k.mono ?_
  clear k
  rintro e w6 ⟨A6, c6, rfl, hn6, hb6⟩
  have HB6 := Lib.hid (HB5.out.trans (hb6.mono HB5.out.size))
  obtain ⟨f, rfl, hf, hfl⟩ := New.blk hn6 (by rw [LL.out]; omega)
  have hgf : ¬ g = f := by omega
  have hfg : ¬ f = g := by omega
  have HF := Lib.hid (Nat.le_trans HB5.out.size hf)
  have HN5' := Lib.hid (World.ownsRow.kept HN5.out (row := none) (World.grownBy.mk hb6.os hb6.tape hb6.output hb6.size (fun i hi _ => hb6.block i hi)) (.inr (by simp [Value.ownBlock])))
  have HN6 := Lib.hid hn6
  have c50 : w6.cell? ⟨g, 0, none⟩ = some (.int .u8 hk) := by
    have hlen := LK.out
    have := World.ownsRow.cellAt HN5'.out 0 (by omega)
    rw [this, EHK.out]
    simp [List.getD, show 0 < K.length by omega]
  have c60 : w6.cell? ⟨f, 0, none⟩ = some (.int .u8 hl) := by
    have hlen := LL.out
    have := World.ownsRow.cellAt HN6.out 0 (by omega)
    rw [this, EHL.out]
    simp [List.getD, show 0 < L.length by omega]
  have f50 : w6.frozen? ⟨g, 0, none⟩ = false := World.ownsRow.frozenAt HN5'.out 0
  have f60 : w6.frozen? ⟨f, 0, none⟩ = false := World.ownsRow.frozenAt HN6.out 0
  have pK : (0 : Int) < (K.length : Int) := by rw [LK.out]; omega
  have pL : (0 : Int) < (L.length : Int) := by rw [LL.out]; omega
  have fk := FK.out
  have fl := FL.out
  clear hn6 hb6 hf HN5 HB1 HB5 hgl hfl
  go_wp2_with fail
  have s5 : New w1.heap.size ((w6.setCell ⟨g, 0, none⟩ (.int .u8 tk)).setCell ⟨f, 0, none⟩ (.int .u8 tl)) (some ⟨g, 0, none⟩) c5 (K.set 0 tk) := New.far (g := 0) (New.set0 HN5'.out tk) (fun e => by injection e with e; exact hgf (congrArg Addr.block e)) _
  have s6 : New w5.heap.size ((w6.setCell ⟨g, 0, none⟩ (.int .u8 tk)).setCell ⟨f, 0, none⟩ (.int .u8 tl)) (some ⟨f, 0, none⟩) c6 (L.set 0 tl) := New.set0 (New.far (g := 0) HN6.out (p := ⟨g, 0, none⟩) (fun e => by injection e with e; exact hfg (congrArg Addr.block e)) _) tl
  have HB7 := Lib.hid (((HB6.out.setCell (p := ⟨g, 0, none⟩) HG.out (.int .u8 tk))).setCell (p := ⟨f, 0, none⟩) HF.out (.int .u8 tl))
  generalize (w6.setCell ⟨g, 0, none⟩ (.int .u8 tk)).setCell ⟨f, 0, none⟩ (.int .u8 tl) = w7 at *
  have k := compare_b _ _ c5 c6 (K.set 0 tk) (L.set 0 tl) w7 s5.sl s6.sl (by rw [List.length_set, List.length_set, LK.out, LL.out]) OK.out OL.out
  rw [List.length_set, List.length_set, VK.out, VL.out, ord_add, ← RR.out] at k
  refine k.mono ?_
  clear k s5 s6 c50 c60 f50 f60 fk fl
  rintro e w' ⟨rfl, rfl⟩
  go_wp2_with fail
  have k := cmp_i64 x1 y1 w7
  rw [← RR.out] at k
  refine k.mono ?_
  clear k
  rintro e w' ⟨rfl, rfl⟩
  go_wp2
  go_ret
  exact ⟨by simp, HB7.out⟩

set_option maxHeartbeats 1000000 in
set_option maxRecDepth 100000 in
theorem walk_ci (m : Nat) (x y x1 y1 : Int) (w : World) (h1 : 1 ≤ m) (h8 : m ≤ 8) (hx : 0 ≤ x) (hx2 : x < 18446744073709551616) (hy : 0 ≤ y) (hy2 : y < 18446744073709551616) (hxw : wrap64 x = x1) (hyw : wrap64 y = y1)
    (bx : -9223372036854775808 ≤ x1) (bx2 : x1 < 9223372036854775808) (by1 : -9223372036854775808 ≤ y1) (by2 : y1 < 9223372036854775808) (hfx : fitsB m x = true) (hfy : fitsB m y = true) (hix : fitsIntB m x1 = false) :
    Calls Try.prog 8 #[.int .i64 m, .int .u64 x, .int .u64 y] w fun e w' => e = .returned (.bool true) ∧ Below w.heap.size w w' := by
  have e1 : decide ((m : Int) < 1) = false := by simp; omega
  have e2 : decide (8 < (m : Int)) = false := by simp; omega
  have Ix := Lib.hid hix
  clear hix
  have Fx := Lib.hid hfx
  have Fy := Lib.hid hfy
  have vx := (back_num m x h1 h8 hx hx2).2
  have vy := (back_num m y h1 h8 hy hy2).2
  rw [hfx] at vx
  rw [hfy] at vy
  obtain ⟨P, hP⟩ : ∃ P, P = fld m x := ⟨_, rfl⟩
  obtain ⟨Q, hQ⟩ : ∃ Q, Q = fld m y := ⟨_, rfl⟩
  have VP := Lib.hid (show val P = x by rw [hP]; simpa using vx)
  have VQ := Lib.hid (show val Q = y by rw [hQ]; simpa using vy)
  have OP := Lib.hid (show Oct P by rw [hP]; exact fld_oct m x)
  have OQ := Lib.hid (show Oct Q by rw [hQ]; exact fld_oct m y)
  have LP := Lib.hid (show P.length = Q.length by rw [hP, hQ, fld_length, fld_length])
  have PX := Lib.hid (show [] ++ fldOf m x = P by rw [fldOf_yes x h1 h8, List.nil_append, hP])
  have QY := Lib.hid (show [] ++ fldOf m y = Q by rw [fldOf_yes y h1 h8, List.nil_append, hQ])
  obtain ⟨r0, hr0⟩ : ∃ r, r = ord x y := ⟨_, rfl⟩
  have R0 := Lib.hid hr0
  clear hfx hfy vx vy hP hQ hr0
  go_enter Try.func8, Try.ntmps8
  go_wp2_with fail
  refine (wakes_any w).mono ?_
  rintro e w1 ⟨rfl, hb1⟩
  have HB1 := Lib.hid hb1
  clear hb1
  go_wp2_with fail
  have k := fits_any m x w1 (by omega) (by omega)
  rw [Fx.out] at k
  refine k.mono ?_
  clear k
  rintro e w' ⟨rfl, rfl⟩
  go_wp2_with fail
  have k := fits_any m y w1 (by omega) (by omega)
  rw [Fy.out] at k
  refine k.mono ?_
  clear k
  rintro e w' ⟨rfl, rfl⟩
  go_wp2_with fail
  have k := put_b none 0 [] m x w1 ⟨by simp, by omega, Rd.empty⟩ (by simp) hx hx2
  rw [PX.out] at k
  refine k.mono ?_
  clear k
  rintro e w2 ⟨A2, c2, rfl, hn2, hb2⟩
  have HB2 := Lib.hid (HB1.out.trans (hb2.mono HB1.out.size))
  have HN2 := Lib.hid hn2
  clear hn2 hb2 HB1
  go_wp2_with fail
  have k := put_b none 0 [] m y w2 ⟨by simp, by omega, Rd.empty⟩ (by simp) hy hy2
  rw [QY.out] at k
  refine k.mono ?_
  clear k
  rintro e w3 ⟨A3, c3, rfl, hn3, hb3⟩
  have HB3 := Lib.hid (HB2.out.trans (hb3.mono HB2.out.size))
  have HS2 := Lib.hid (HN2.out.sl.below hb3)
  have HN3 := Lib.hid hn3
  clear hn3 hb3 HB2 HN2
  go_wp2_with fail
  have k := compare_b A2 A3 c2 c3 P Q w3 HS2.out HN3.out.sl LP.out OP.out OQ.out
  rw [VP.out, VQ.out, ← R0.out] at k
  refine k.mono ?_
  clear k HS2 HN3
  rintro e w' ⟨rfl, rfl⟩
  go_wp2_with fail
  have k := cmp_u64 x y w3
  rw [← R0.out] at k
  refine k.mono ?_
  clear k
  rintro e w' ⟨rfl, rfl⟩
  go_wp2_with fail
  have k := fitsInt_any m x1 w3 (by omega) (by omega)
  rw [Ix.out] at k
  refine k.mono ?_
  clear k
  rintro e w' ⟨rfl, rfl⟩
  go_wp2
  go_ret
  exact ⟨rfl, HB3.out⟩

set_option maxHeartbeats 1000000 in
set_option maxRecDepth 100000 in
theorem walk_cj (m : Nat) (x y x1 y1 : Int) (w : World) (h1 : 1 ≤ m) (h8 : m ≤ 8) (hx : 0 ≤ x) (hx2 : x < 18446744073709551616) (hy : 0 ≤ y) (hy2 : y < 18446744073709551616) (hxw : wrap64 x = x1) (hyw : wrap64 y = y1)
    (bx : -9223372036854775808 ≤ x1) (bx2 : x1 < 9223372036854775808) (by1 : -9223372036854775808 ≤ y1) (by2 : y1 < 9223372036854775808) (hfx : fitsB m x = true) (hfy : fitsB m y = true) (hix : fitsIntB m x1 = true) (hiy : fitsIntB m y1 = false) :
    Calls Try.prog 8 #[.int .i64 m, .int .u64 x, .int .u64 y] w fun e w' => e = .returned (.bool true) ∧ Below w.heap.size w w' := by
  have e1 : decide ((m : Int) < 1) = false := by simp; omega
  have e2 : decide (8 < (m : Int)) = false := by simp; omega
  have Ix := Lib.hid hix
  have Iy := Lib.hid hiy
  clear hix hiy
  have Fx := Lib.hid hfx
  have Fy := Lib.hid hfy
  have vx := (back_num m x h1 h8 hx hx2).2
  have vy := (back_num m y h1 h8 hy hy2).2
  rw [hfx] at vx
  rw [hfy] at vy
  obtain ⟨P, hP⟩ : ∃ P, P = fld m x := ⟨_, rfl⟩
  obtain ⟨Q, hQ⟩ : ∃ Q, Q = fld m y := ⟨_, rfl⟩
  have VP := Lib.hid (show val P = x by rw [hP]; simpa using vx)
  have VQ := Lib.hid (show val Q = y by rw [hQ]; simpa using vy)
  have OP := Lib.hid (show Oct P by rw [hP]; exact fld_oct m x)
  have OQ := Lib.hid (show Oct Q by rw [hQ]; exact fld_oct m y)
  have LP := Lib.hid (show P.length = Q.length by rw [hP, hQ, fld_length, fld_length])
  have PX := Lib.hid (show [] ++ fldOf m x = P by rw [fldOf_yes x h1 h8, List.nil_append, hP])
  have QY := Lib.hid (show [] ++ fldOf m y = Q by rw [fldOf_yes y h1 h8, List.nil_append, hQ])
  obtain ⟨r0, hr0⟩ : ∃ r, r = ord x y := ⟨_, rfl⟩
  have R0 := Lib.hid hr0
  clear hfx hfy vx vy hP hQ hr0
  go_enter Try.func8, Try.ntmps8
  go_wp2_with fail
  refine (wakes_any w).mono ?_
  rintro e w1 ⟨rfl, hb1⟩
  have HB1 := Lib.hid hb1
  clear hb1
  go_wp2_with fail
  have k := fits_any m x w1 (by omega) (by omega)
  rw [Fx.out] at k
  refine k.mono ?_
  clear k
  rintro e w' ⟨rfl, rfl⟩
  go_wp2_with fail
  have k := fits_any m y w1 (by omega) (by omega)
  rw [Fy.out] at k
  refine k.mono ?_
  clear k
  rintro e w' ⟨rfl, rfl⟩
  go_wp2_with fail
  have k := put_b none 0 [] m x w1 ⟨by simp, by omega, Rd.empty⟩ (by simp) hx hx2
  rw [PX.out] at k
  refine k.mono ?_
  clear k
  rintro e w2 ⟨A2, c2, rfl, hn2, hb2⟩
  have HB2 := Lib.hid (HB1.out.trans (hb2.mono HB1.out.size))
  have HN2 := Lib.hid hn2
  clear hn2 hb2 HB1
  go_wp2_with fail
  have k := put_b none 0 [] m y w2 ⟨by simp, by omega, Rd.empty⟩ (by simp) hy hy2
  rw [QY.out] at k
  refine k.mono ?_
  clear k
  rintro e w3 ⟨A3, c3, rfl, hn3, hb3⟩
  have HB3 := Lib.hid (HB2.out.trans (hb3.mono HB2.out.size))
  have HS2 := Lib.hid (HN2.out.sl.below hb3)
  have HN3 := Lib.hid hn3
  clear hn3 hb3 HB2 HN2
  go_wp2_with fail
  have k := compare_b A2 A3 c2 c3 P Q w3 HS2.out HN3.out.sl LP.out OP.out OQ.out
  rw [VP.out, VQ.out, ← R0.out] at k
  refine k.mono ?_
  clear k HS2 HN3
  rintro e w' ⟨rfl, rfl⟩
  go_wp2_with fail
  have k := cmp_u64 x y w3
  rw [← R0.out] at k
  refine k.mono ?_
  clear k
  rintro e w' ⟨rfl, rfl⟩
  go_wp2_with fail
  have k := fitsInt_any m x1 w3 (by omega) (by omega)
  rw [Ix.out] at k
  refine k.mono ?_
  clear k
  rintro e w' ⟨rfl, rfl⟩
  go_wp2_with fail
  have k := fitsInt_any m y1 w3 (by omega) (by omega)
  rw [Iy.out] at k
  refine k.mono ?_
  clear k
  rintro e w' ⟨rfl, rfl⟩
  go_wp2
  go_ret
  exact ⟨rfl, HB3.out⟩

set_option maxHeartbeats 1000000 in
set_option maxRecDepth 100000 in
theorem walk_ck (m : Nat) (x y x1 y1 : Int) (w : World) (h1 : 1 ≤ m) (h8 : m ≤ 8) (hx : 0 ≤ x) (hx2 : x < 18446744073709551616) (hy : 0 ≤ y) (hy2 : y < 18446744073709551616) (hxw : wrap64 x = x1) (hyw : wrap64 y = y1)
    (bx : -9223372036854775808 ≤ x1) (bx2 : x1 < 9223372036854775808) (by1 : -9223372036854775808 ≤ y1) (by2 : y1 < 9223372036854775808) (hfx : fitsB m x = true) (hfy : fitsB m y = true) (hix : fitsIntB m x1 = true) (hiy : fitsIntB m y1 = true) :
    Calls Try.prog 8 #[.int .i64 m, .int .u64 x, .int .u64 y] w fun e w' => e = .returned (.bool true) ∧ Below w.heap.size w w' := by
  have e1 : decide ((m : Int) < 1) = false := by simp; omega
  have e2 : decide (8 < (m : Int)) = false := by simp; omega
  have Ix := Lib.hid hix
  have Iy := Lib.hid hiy
  obtain ⟨K, hK⟩ : ∃ K, K = fld m (unsg x1) := ⟨_, rfl⟩
  obtain ⟨L, hL⟩ : ∃ L, L = fld m (unsg y1) := ⟨_, rfl⟩
  have KX := Lib.hid (show [] ++ fldOf m (unsg x1) = K by rw [fldOf_yes _ h1 h8, List.nil_append, hK])
  have LY := Lib.hid (show [] ++ fldOf m (unsg y1) = L by rw [fldOf_yes _ h1 h8, List.nil_append, hL])
  have oK : Oct K := by rw [hK]; exact fld_oct _ _
  have oL : Oct L := by rw [hL]; exact fld_oct _ _
  have lK : K.length = m := by rw [hK, fld_length]
  have lL : L.length = m := by rw [hL, fld_length]
  obtain ⟨hk, ehk⟩ : ∃ h, h = K.getD 0 0 := ⟨_, rfl⟩
  obtain ⟨hl, ehl⟩ : ∃ h, h = L.getD 0 0 := ⟨_, rfl⟩
  have bk : 0 ≤ hk ∧ hk < 256 := by rw [ehk]; exact oK.at_ 0
  have bl : 0 ≤ hl ∧ hl < 256 := by rw [ehl]; exact oL.at_ 0
  have fk := flip_bits hk bk.1 bk.2
  have fl := flip_bits hl bl.1 bl.2
  have vK := flip_val m x1 h1 h8 ⟨bx, bx2⟩ hix
  have vL := flip_val m y1 h1 h8 ⟨by1, by2⟩ hiy
  rw [← hK, ← ehk] at vK
  rw [← hL, ← ehl] at vL
  have ok := flip_oct hk bk.1 bk.2
  have ol := flip_oct hl bl.1 bl.2
  obtain ⟨tk, etk⟩ : ∃ t, t = flip hk := ⟨_, rfl⟩
  obtain ⟨tl, etl⟩ : ∃ t, t = flip hl := ⟨_, rfl⟩
  rw [← etk] at fk vK ok
  rw [← etl] at fl vL ol
  obtain ⟨r, hr⟩ : ∃ r, r = ord x1 y1 := ⟨_, rfl⟩
  have RR := Lib.hid hr
  have VK := Lib.hid vK
  have VL := Lib.hid vL
  have OK := Lib.hid (set_oct oK tk ok)
  have OL := Lib.hid (set_oct oL tl ol)
  have EHK := Lib.hid ehk
  have EHL := Lib.hid ehl
  have FK := Lib.hid fk
  have FL := Lib.hid fl
  have LK := Lib.hid lK
  have LL := Lib.hid lL
  clear hix hiy hK hL oK oL lK lL ehk ehl bk bl fk fl vK vL ok ol etk etl hr
  have Fx := Lib.hid hfx
  have Fy := Lib.hid hfy
  have vx := (back_num m x h1 h8 hx hx2).2
  have vy := (back_num m y h1 h8 hy hy2).2
  rw [hfx] at vx
  rw [hfy] at vy
  obtain ⟨P, hP⟩ : ∃ P, P = fld m x := ⟨_, rfl⟩
  obtain ⟨Q, hQ⟩ : ∃ Q, Q = fld m y := ⟨_, rfl⟩
  have VP := Lib.hid (show val P = x by rw [hP]; simpa using vx)
  have VQ := Lib.hid (show val Q = y by rw [hQ]; simpa using vy)
  have OP := Lib.hid (show Oct P by rw [hP]; exact fld_oct m x)
  have OQ := Lib.hid (show Oct Q by rw [hQ]; exact fld_oct m y)
  have LP := Lib.hid (show P.length = Q.length by rw [hP, hQ, fld_length, fld_length])
  have PX := Lib.hid (show [] ++ fldOf m x = P by rw [fldOf_yes x h1 h8, List.nil_append, hP])
  have QY := Lib.hid (show [] ++ fldOf m y = Q by rw [fldOf_yes y h1 h8, List.nil_append, hQ])
  obtain ⟨r0, hr0⟩ : ∃ r, r = ord x y := ⟨_, rfl⟩
  have R0 := Lib.hid hr0
  clear hfx hfy vx vy hP hQ hr0
  go_enter Try.func8, Try.ntmps8
  go_wp2_with fail
  refine (wakes_any w).mono ?_
  rintro e w1 ⟨rfl, hb1⟩
  have HB1 := Lib.hid hb1
  clear hb1
  go_wp2_with fail
  have k := fits_any m x w1 (by omega) (by omega)
  rw [Fx.out] at k
  refine k.mono ?_
  clear k
  rintro e w' ⟨rfl, rfl⟩
  go_wp2_with fail
  have k := fits_any m y w1 (by omega) (by omega)
  rw [Fy.out] at k
  refine k.mono ?_
  clear k
  rintro e w' ⟨rfl, rfl⟩
  go_wp2_with fail
  have k := put_b none 0 [] m x w1 ⟨by simp, by omega, Rd.empty⟩ (by simp) hx hx2
  rw [PX.out] at k
  refine k.mono ?_
  clear k
  rintro e w2 ⟨A2, c2, rfl, hn2, hb2⟩
  have HB2 := Lib.hid (HB1.out.trans (hb2.mono HB1.out.size))
  have HN2 := Lib.hid hn2
  clear hn2 hb2 HB1
  go_wp2_with fail
  have k := put_b none 0 [] m y w2 ⟨by simp, by omega, Rd.empty⟩ (by simp) hy hy2
  rw [QY.out] at k
  refine k.mono ?_
  clear k
  rintro e w3 ⟨A3, c3, rfl, hn3, hb3⟩
  have HB3 := Lib.hid (HB2.out.trans (hb3.mono HB2.out.size))
  have HS2 := Lib.hid (HN2.out.sl.below hb3)
  have HN3 := Lib.hid hn3
  clear hn3 hb3 HB2 HN2
  go_wp2_with fail
  have k := compare_b A2 A3 c2 c3 P Q w3 HS2.out HN3.out.sl LP.out OP.out OQ.out
  rw [VP.out, VQ.out, ← R0.out] at k
  refine k.mono ?_
  clear k HS2 HN3
  rintro e w' ⟨rfl, rfl⟩
  go_wp2_with fail
  have k := cmp_u64 x y w3
  rw [← R0.out] at k
  refine k.mono ?_
  clear k
  rintro e w' ⟨rfl, rfl⟩
  go_wp2_with fail
  have k := fitsInt_any m x1 w3 (by omega) (by omega)
  rw [Ix.out] at k
  refine k.mono ?_
  clear k
  rintro e w' ⟨rfl, rfl⟩
  go_wp2_with fail
  have k := fitsInt_any m y1 w3 (by omega) (by omega)
  rw [Iy.out] at k
  refine k.mono ?_
  clear k
  rintro e w' ⟨rfl, rfl⟩
  go_wp2_with fail
  have k := lay_b none 0 [] m x1 w3 ⟨by simp, by omega, Rd.empty⟩ (by simp)
  rw [KX.out] at k
  refine k.mono ?_
  clear k
  rintro e w5 ⟨A5, c5, rfl, hn5, hb5⟩
  have HB5 := Lib.hid (HB3.out.trans (hb5.mono HB3.out.size))
  obtain ⟨g, rfl, hg, hgl⟩ := New.blk hn5 (by rw [LK.out]; omega)
  have HG := Lib.hid (Nat.le_trans HB3.out.size hg)
  have HN5 := Lib.hid hn5
  clear hn5 hb5 hg
  go_wp2_with fail
  have k := lay_b none 0 [] m y1 w5 ⟨by simp, by omega, Rd.empty⟩ (by simp)
  rw [LY.out] at k
  refine k.mono ?_
  clear k
  rintro e w6 ⟨A6, c6, rfl, hn6, hb6⟩
  have HB6 := Lib.hid (HB5.out.trans (hb6.mono HB5.out.size))
  obtain ⟨f, rfl, hf, hfl⟩ := New.blk hn6 (by rw [LL.out]; omega)
  have hgf : ¬ g = f := by omega
  have hfg : ¬ f = g := by omega
  have HF := Lib.hid (Nat.le_trans HB5.out.size hf)
  have HN5' := Lib.hid (World.ownsRow.kept HN5.out (row := none) (World.grownBy.mk hb6.os hb6.tape hb6.output hb6.size (fun i hi _ => hb6.block i hi)) (.inr (by simp [Value.ownBlock])))
  have HN6 := Lib.hid hn6
  have c50 : w6.cell? ⟨g, 0, none⟩ = some (.int .u8 hk) := by
    have hlen := LK.out
    have := World.ownsRow.cellAt HN5'.out 0 (by omega)
    rw [this, EHK.out]
    simp [List.getD, show 0 < K.length by omega]
  have c60 : w6.cell? ⟨f, 0, none⟩ = some (.int .u8 hl) := by
    have hlen := LL.out
    have := World.ownsRow.cellAt HN6.out 0 (by omega)
    rw [this, EHL.out]
    simp [List.getD, show 0 < L.length by omega]
  have f50 : w6.frozen? ⟨g, 0, none⟩ = false := World.ownsRow.frozenAt HN5'.out 0
  have f60 : w6.frozen? ⟨f, 0, none⟩ = false := World.ownsRow.frozenAt HN6.out 0
  have pK : (0 : Int) < (K.length : Int) := by rw [LK.out]; omega
  have pL : (0 : Int) < (L.length : Int) := by rw [LL.out]; omega
  have fk := FK.out
  have fl := FL.out
  clear hn6 hb6 hf HN5 HB3 HB5 hgl hfl
  go_wp2_with fail
  have s5 : New w3.heap.size ((w6.setCell ⟨g, 0, none⟩ (.int .u8 tk)).setCell ⟨f, 0, none⟩ (.int .u8 tl)) (some ⟨g, 0, none⟩) c5 (K.set 0 tk) := New.far (g := 0) (New.set0 HN5'.out tk) (fun e => by injection e with e; exact hgf (congrArg Addr.block e)) _
  have s6 : New w5.heap.size ((w6.setCell ⟨g, 0, none⟩ (.int .u8 tk)).setCell ⟨f, 0, none⟩ (.int .u8 tl)) (some ⟨f, 0, none⟩) c6 (L.set 0 tl) := New.set0 (New.far (g := 0) HN6.out (p := ⟨g, 0, none⟩) (fun e => by injection e with e; exact hfg (congrArg Addr.block e)) _) tl
  have HB7 := Lib.hid (((HB6.out.setCell (p := ⟨g, 0, none⟩) HG.out (.int .u8 tk))).setCell (p := ⟨f, 0, none⟩) HF.out (.int .u8 tl))
  generalize (w6.setCell ⟨g, 0, none⟩ (.int .u8 tk)).setCell ⟨f, 0, none⟩ (.int .u8 tl) = w7 at *
  have k := compare_b _ _ c5 c6 (K.set 0 tk) (L.set 0 tl) w7 s5.sl s6.sl (by rw [List.length_set, List.length_set, LK.out, LL.out]) OK.out OL.out
  rw [List.length_set, List.length_set, VK.out, VL.out, ord_add, ← RR.out] at k
  refine k.mono ?_
  clear k s5 s6 c50 c60 f50 f60 fk fl
  rintro e w' ⟨rfl, rfl⟩
  go_wp2_with fail
  have k := cmp_i64 x1 y1 w7
  rw [← RR.out] at k
  refine k.mono ?_
  clear k
  rintro e w' ⟨rfl, rfl⟩
  go_wp2
  go_ret
  exact ⟨by simp, HB7.out⟩

theorem walk {w : World} (n : Int) (wn : (Lit.int .i64 n).wf = true) (x : Int) (wx : (Lit.int .u64 x).wf = true) (y : Int) (wy : (Lit.int .u64 y).wf = true) :
    Calls Try.prog 8 #[.int .i64 n, .int .u64 x, .int .u64 y] w fun e w' => e = .returned (.bool true) ∧ Below w.heap.size w w' := by
  have b1 := bounds_u64 wx
  have b2 := bounds_u64 wy
  have hx : 0 ≤ x := b1.1
  have hy : 0 ≤ y := b2.1
  have hx2 : x < 18446744073709551616 := by omega
  have hy2 : y < 18446744073709551616 := by omega
  by_cases h : n < 1 ∨ 8 < n
  · exact walk_no n x y w hx hx2 h
  · obtain ⟨m, rfl⟩ := Int.eq_ofNat_of_zero_le (show 0 ≤ n by omega)
    have h1 : 1 ≤ m := by omega
    have h8 : m ≤ 8 := by omega
    have sx := sgn_bd x hx hx2
    have sy := sgn_bd y hy hy2
    rcases hfx : fitsB m x with _ | _
    · rcases hix : fitsIntB m (sgn x) with _ | _
      · exact walk_ai m x y _ _ w h1 h8 hx hx2 hy hy2 (sgn_wrap x hx hx2) (sgn_wrap y hy hy2) sx.1 sx.2 sy.1 sy.2 hfx hix
      · rcases hiy : fitsIntB m (sgn y) with _ | _
        · exact walk_aj m x y _ _ w h1 h8 hx hx2 hy hy2 (sgn_wrap x hx hx2) (sgn_wrap y hy hy2) sx.1 sx.2 sy.1 sy.2 hfx hix hiy
        · exact walk_ak m x y _ _ w h1 h8 hx hx2 hy hy2 (sgn_wrap x hx hx2) (sgn_wrap y hy hy2) sx.1 sx.2 sy.1 sy.2 hfx hix hiy
    · rcases hfy : fitsB m y with _ | _
      · rcases hix : fitsIntB m (sgn x) with _ | _
        · exact walk_bi m x y _ _ w h1 h8 hx hx2 hy hy2 (sgn_wrap x hx hx2) (sgn_wrap y hy hy2) sx.1 sx.2 sy.1 sy.2 hfx hfy hix
        · rcases hiy : fitsIntB m (sgn y) with _ | _
          · exact walk_bj m x y _ _ w h1 h8 hx hx2 hy hy2 (sgn_wrap x hx hx2) (sgn_wrap y hy hy2) sx.1 sx.2 sy.1 sy.2 hfx hfy hix hiy
          · exact walk_bk m x y _ _ w h1 h8 hx hx2 hy hy2 (sgn_wrap x hx hx2) (sgn_wrap y hy hy2) sx.1 sx.2 sy.1 sy.2 hfx hfy hix hiy
      · rcases hix : fitsIntB m (sgn x) with _ | _
        · exact walk_ci m x y _ _ w h1 h8 hx hx2 hy hy2 (sgn_wrap x hx hx2) (sgn_wrap y hy hy2) sx.1 sx.2 sy.1 sy.2 hfx hfy hix
        · rcases hiy : fitsIntB m (sgn y) with _ | _
          · exact walk_cj m x y _ _ w h1 h8 hx hx2 hy hy2 (sgn_wrap x hx hx2) (sgn_wrap y hy hy2) sx.1 sx.2 sy.1 sy.2 hfx hfy hix hiy
          · exact walk_ck m x y _ _ w h1 h8 hx hx2 hy hy2 (sgn_wrap x hx hx2) (sgn_wrap y hy hy2) sx.1 sx.2 sy.1 sy.2 hfx hfy hix hiy

set_option maxRecDepth 100000 in
theorem lifted (os : Os) (started : os.Started) (H : Type) (enc : TypeId × Value → H) :
    ReturnsInHanded {} Try.checked os 8 .any (Rows.fieldOrdersSpec.pre6 enc Try.prog Try.f8 Rows.fieldOrdersRow.domain false) (Rows.fieldOrdersSpec.post enc Try.prog Try.f8 false true false false) := by
  refine returnsInHanded_of_change (C := Try.checked) Try.own started (by kernel_rfl) Try.func8
    (ChangeSpec.witness6 (enc := enc) (C := Try.checked) false ⟨#[], #[.int .i64 0, .int .u64 0, .int .u64 0], []⟩ 8 (by kernel_rfl) (by kernel_rfl) (by kernel_rfl) (by kernel_rfl)) ?_
  intro W base args ds gs before hval0 hW hcnd _
  have hval : ∀ (j : Nat) t v, Try.f8.params[j]? = some t → args[j]? = some v → Value.okWide Try.prog W .any base t v := hval0
  have hW' := hW
  obtain ⟨p, q, hA0, hV, rfl, hfz, hnd⟩ := hW
  have hA : DataW.TrodAll enc Try.prog W 0 (fun _ => true) true Try.f8.params.toList args.toList ds p := hA0
  rw [Try.params8] at hA hval
  have hA' := hA
  obtain ⟨v0, vs0, d0, ds0, p0, q0, hargs, rfl, rfl, h0, r0⟩ := trodAll_cons hA
  obtain ⟨v1, vs1, d1, ds1, p1, q1, rfl, rfl, rfl, h1, r1⟩ := trodAll_cons r0
  obtain ⟨v2, vs2, d2, ds2, p2, q2, rfl, rfl, rfl, h2, r2⟩ := trodAll_cons r1
  obtain ⟨rfl, rfl, rfl⟩ := trodAll_nil r2
  obtain rfl : args = #[v0, v1, v2] := by cases args; simp_all
  obtain ⟨rfl, rfl⟩ := trodVars_none hV
  obtain ⟨a0, rfl, rfl, rfl, w0⟩ := open_int Try.underlying3 (hval 0 3 v0 rfl rfl) h0
  obtain ⟨a1, rfl, rfl, rfl, w1⟩ := open_int Try.underlying23 (hval 1 23 v1 rfl rfl) h1
  obtain ⟨a2, rfl, rfl, rfl, w2⟩ := open_int Try.underlying23 (hval 2 23 v2 rfl rfl) h2
  clear hA0 hval0
  refine (walk a0 w0 a1 w1 a2 w2).mono fun e W' ⟨he, bel⟩ => ?_
  subst he
  exact ⟨_, rfl, _, _, _, [], _, [], hW', trodAll_mk1 (shut_bool Try.underlying4 _), trodAll_below bel _ _ _ _ (by kernel_rfl) hA', rfl, bel.frame _, fun h => by cases h⟩

theorem proved : Rows.FieldOrdersSaid :=
  OpenClaim.holds_of_wide 8 Try.f8 rfl rfl rfl rfl rfl rfl rfl ⟨rfl, rfl, rfl, rfl, rfl⟩ rfl rfl rfl rfl rfl (by kernel_rfl) Try.func8 (by kernel_rfl)
    (of_decide_eq_true (by kernel_rfl)) (by unfold Func.isWrapper; first | (rw [if_pos (by decide +kernel)]; kernel_rfl) | (rw [if_neg (by decide +kernel)]; exact ⟨rfl, rfl⟩))
    (fun os started H enc _ => lifted os started H enc)
#print axioms proved
end Go.Proofs.Ytnpmdbcijaanjaa.fieldOrders
