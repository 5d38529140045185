/-
  Proved: the law FieldBack, what was put field by field is taken off, its lowest bytes if it does not fit, and nothing is left, with its sign too, returns true for all rows of fields, and leaves all memory as it was. No condition.
-/
import Derived.Test.YtnpmdbcijaanjaaLawPairs
import Derived.Test.YtnpmdbcijaanjaaFieldWakes
import Derived.Test.YtnpmdbcijaanjaaFieldMath
import Derived.Deep.RegionHeld3
namespace Go.Proofs.Ytnpmdbcijaanjaa.fieldBack
open Go.ChangeShapes Go.WideShapes Go.ChangeAt Go.RowKit
set_option linter.unusedVariables false

theorem walk_out (B : Option Addr) (k d : Nat) (w : World) (h : 300 < k) :
    Calls Try.prog 6 #[.slice B k d] w fun e w' => e = .returned (.bool true) ∧ Below w.heap.size w w' := by
  have h1' : (300 : Int) < (k : Int) := by omega
  go_enter Try.func6, Try.ntmps6
  go_wp2_with (go_at_call 10; refine (wakes_any w).mono ?_; rintro e w1 ⟨rfl, hb1⟩)
  go_ret
  exact ⟨rfl, hb1⟩

/-- The bytes of fields, one behind the other. -/
def laid (ps : List (Int × Int)) : List Int := ps.flatMap fun p => fldOf p.1 p.2
theorem laid_snoc (ps : List (Int × Int)) (k : Nat) (h : k < ps.length) : laid (ps.take (k + 1)) = laid (ps.take k) ++ fldOf (ps.getD k (0, 0)).1 (ps.getD k (0, 0)).2 := by
  rw [List.take_succ_eq_append_getElem h]
  unfold laid
  rw [List.flatMap_append]
  congr 1
  simp [List.getD, List.getElem?_eq_getElem h]
theorem laid_cons (ps : List (Int × Int)) (k : Nat) (h : k < ps.length) : laid (ps.drop k) = fldOf (ps.getD k (0, 0)).1 (ps.getD k (0, 0)).2 ++ laid (ps.drop (k + 1)) := by
  rw [List.drop_eq_getElem_cons h]
  unfold laid
  rw [List.flatMap_cons]
  congr 1
  simp [List.getD, List.getElem?_eq_getElem h]
theorem laid_le (ps : List (Int × Int)) : (laid ps).length ≤ 8 * ps.length := by
  induction ps with
  | nil => simp [laid]
  | cons p ps ih =>
    have : laid (p :: ps) = fldOf p.1 p.2 ++ laid ps := by simp [laid]
    rw [this, List.length_append, List.length_cons]
    have := fldOf_le p.1 p.2
    omega
theorem laid_oct (ps : List (Int × Int)) : Oct (laid ps) := by
  intro b hb
  obtain ⟨p, _, hp⟩ := List.mem_flatMap.1 hb
  unfold fldOf at hp
  split at hp
  · exact fld_oct _ _ b hp
  · simp at hp

/-- The first loop's relation. -/
def Laying (w : World) (ps : List (Int × Int)) (k : Nat) (v x : Value) (wr : World) : Prop :=
  ∃ A c, ∃ L : List Int, v = .slice A L.length c ∧ x = .int .i64 L.length ∧ L = laid (ps.take k) ∧ Sl wr A c L ∧ Below w.heap.size w wr

/-- The second loop's relation. -/
def Taking (w : World) (ps : List (Int × Int)) (T g f k : Nat) (wr : World) : Prop :=
  ∃ A c A' c', ∃ R : List Int, ∃ pl : Int, R = laid (ps.drop k) ∧ pl + R.length = T ∧ Sc wr g A c R pl false ∧ Sc wr f A' c' R pl false ∧ Below w.heap.size w wr

theorem fits_q (n x : Int) (w : World) (hx : 0 ≤ x) (hx2 : x < 18446744073709551616) :
    Calls Try.prog 16 #[.int .i64 n, .int .u64 x] w fun e w' => e = .returned (.bool (fitsB n x)) ∧ w' = w := (fits_any n x w hx hx2).mono fun _ _ ⟨a, b⟩ => ⟨a, b.symm⟩
theorem fitsInt_q (n x : Int) (w : World) (hx : -9223372036854775808 ≤ x) (hx2 : x < 9223372036854775808) :
    Calls Try.prog 18 #[.int .i64 n, .int .i64 x] w fun e w' => e = .returned (.bool (fitsIntB n x)) ∧ w' = w := (fitsInt_any n x w hx hx2).mono fun _ _ ⟨a, b⟩ => ⟨a, b.symm⟩

set_option maxHeartbeats 2000000 in
set_option maxRecDepth 100000 in
theorem walk_rows (B : Option Addr) (d : Nat) (ps : List (Int × Int)) (w : World) (hp : Pairs .i64 .u64 w B ps) (hk : ps.length ≤ 300) :
    Calls Try.prog 6 #[.slice B ps.length d] w fun e w' => e = .returned (.bool true) ∧ Below w.heap.size w w' := by
  have d2 : decide ((300 : Int) < (ps.length : Int)) = false := by simp; omega
  have HP := Lib.hid hp
  clear hp
  go_enter Try.func6, Try.ntmps6
  go_wp2_with fail
  refine (wakes_any w).mono ?_
  rintro e w1 ⟨rfl, hb1⟩
  have HB1 := Lib.hid hb1
  clear hb1
  go_wp2_with fail
  go_loopw [3, 4, 20] (fun v x i wr => ∃ k : Nat, k ≤ ps.length ∧ i = .int .i64 k ∧ Laying w ps k v x wr) (fun _ _ i _ => ps.length - (intOf i).toNat)
  case atStart => exact ⟨0, Nat.zero_le _, rfl, none, 0, [], rfl, rfl, by simp [laid], ⟨by simp, by omega, Rd.empty⟩, HB1.out⟩
  case round =>
    clear HB1
    obtain ⟨k, hkl, rfl, A1, c1, L, rfl, rfl, hL, hsl, hbr⟩ := hrel
    have HLl : L.length ≤ 8 * k := by have := laid_le (ps.take k); rw [← hL] at this; simp at this; omega
    have HL := Lib.hid hL
    have HSl := Lib.hid hsl
    have HBr := Lib.hid hbr
    clear hL hsl hbr
    by_cases hlt : k < ps.length
    · obtain ⟨b, o, rfl, hbl, hcell⟩ := (HP.out.below HBr.out) (by omega)
      obtain ⟨hc0, hc1, wf0, wf1⟩ := hcell k hlt
      have hsn := laid_snoc ps k hlt
      rw [← HL.out] at hsn
      clear hcell
      obtain ⟨N, hN⟩ : ∃ N, N = (ps.getD k (0, 0)).1 := ⟨_, rfl⟩
      obtain ⟨X, hX⟩ : ∃ X, X = (ps.getD k (0, 0)).2 := ⟨_, rfl⟩
      rw [← hN] at hc0 wf0 hsn
      rw [← hX] at hc1 wf1 hsn
      have bX := bounds_u64 wf1
      have bN := bounds_i64 wf0
      have hX0 : 0 ≤ X := bX.1
      have hX1 : X < 18446744073709551616 := by omega
      have hN0 : -9223372036854775808 ≤ N := bN.1
      have hN1 : N ≤ 9223372036854775807 := bN.2
      have HSN := Lib.hid hsn
      clear hX hN wf0 wf1 bX bN hsn
      go_wp2_with fail
      have hb5 : Below wr.heap.size wr (wr.alloc (.cells #[.int .i64 N, .int .u64 X] 53)) := (Below.refl _ wr).alloc (Nat.le_refl _) _
      have HB5 := Lib.hid (HBr.out.trans (hb5.mono HBr.out.size))
      have HS5 := Lib.hid (HSl.out.below hb5)
      have hz : wr.heap.size < (wr.alloc (.cells #[.int .i64 N, .int .u64 X] 53)).heap.size := by simp
      have hv0 : (wr.alloc (.cells #[.int .i64 N, .int .u64 X] 53)).cell? ⟨wr.heap.size, 0, none⟩ = some (.int .i64 N) := cell_new _ _ _ _
      clear hb5 hc0 hc1 HBr HSl
      generalize wr.alloc (.cells #[.int .i64 N, .int .u64 X] 53) = W5 at *
      have k1 := put_b A1 c1 L N X W5 HS5.out (by omega) hX0 hX1
      obtain ⟨L', hL'⟩ : ∃ L', L' = L ++ fldOf N X := ⟨_, rfl⟩
      rw [← hL'] at k1
      refine k1.mono ?_
      clear k1
      rintro e w6 ⟨A6, c6, rfl, hn6, hb6⟩
      have HB6 := Lib.hid (HB5.out.trans (hb6.mono HB5.out.size))
      have hv6 : w6.cell? ⟨wr.heap.size, 0, none⟩ = some (.int .i64 N) := (hb6.cell (p := ⟨wr.heap.size, 0, none⟩) hz).trans hv0
      have HN6 := Lib.hid hn6
      clear hn6 hb6 HB5 HS5 hv0 hz
      by_cases hsz : 1 ≤ N ∧ N ≤ 8
      · obtain ⟨hs1, hs8⟩ := hsz
        have hlen : (L'.length : Int) = L.length + N := by
          obtain ⟨m, rfl⟩ := Int.eq_ofNat_of_zero_le (show 0 ≤ N by omega)
          rw [hL', fldOf_yes X (by omega) (by omega), List.length_append, fld_length]
          omega
        have hle1 : (L'.length : Int) ≤ L.length + N := by omega
        have hle2 : (L.length : Int) + N ≤ L'.length := by omega
        have HLen := Lib.hid hlen
        have HL' := Lib.hid hL'
        clear hlen hL'
        go_wp2
        go_roundw
        case rel => exact ⟨k + 1, by omega, by go_num, A6, c6, L', rfl, by rw [HLen.out], by rw [HL'.out, HSN.out], HN6.out.sl, HB6.out⟩
        case measure => simp [intOf]; omega
      · have hno := fldOf_no X (size_no hsz)
        rw [hno, List.append_nil] at hL'
        have HL' := Lib.hid hL'
        have HNo := Lib.hid hno
        have hle1 : L'.length ≤ L.length := by rw [hL']; omega
        have hle2 : L.length ≤ L'.length := by rw [hL']; omega
        clear hL' hno
        by_cases h1 : N < 1
        · have e1 : decide (1 ≤ N) = false := by simp; omega
          clear hsz
          go_wp2
          go_roundw
          case rel => exact ⟨k + 1, by omega, by go_num, A6, c6, L', rfl, by rw [HL'.out], by rw [HL'.out, HSN.out, HNo.out, List.append_nil], HN6.out.sl, HB6.out⟩
          case measure => simp [intOf]; omega
        · have e1 : 1 ≤ N := by omega
          have e2 : decide (N ≤ 8) = false := by simp; omega
          clear hsz
          go_wp2
          go_roundw
          case rel => exact ⟨k + 1, by omega, by go_num, A6, c6, L', rfl, by rw [HL'.out], by rw [HL'.out, HSN.out, HNo.out, List.append_nil], HN6.out.sl, HB6.out⟩
          case measure => simp [intOf]; omega
    · obtain rfl : k = ps.length := by omega
      have HO := Lib.hid (show Oct L by rw [HL.out]; exact laid_oct _)
      have HT := Lib.hid (show L = laid (ps.drop 0) by rw [HL.out]; simp)
      go_wp2_with fail
      refine (read_b A1 c1 L wr HSl.out HO.out (by omega)).mono ?_
      rintro e w2 ⟨g, As, cs, rfl, hs2, hg, hb2⟩
      have hgl := hs2.lt
      have HG := Lib.hid (Nat.le_trans HBr.out.size hg)
      have HB2 := Lib.hid (HBr.out.trans (hb2.mono HBr.out.size))
      have HS2 := Lib.hid hs2
      have HSl2 := Lib.hid (HSl.out.below hb2)
      clear hs2 hb2 hg HBr HSl
      go_wp2_with fail
      refine (read_b A1 c1 L w2 HSl2.out HO.out (by omega)).mono ?_
      rintro e w3 ⟨f, At, ct, rfl, ht3, hf, hb3⟩
      have hne : f ≠ g := by omega
      have HF := Lib.hid (Nat.le_trans HB2.out.size hf)
      have HB3 := Lib.hid (HB2.out.trans (hb3.mono HB2.out.size))
      have HS3 := Lib.hid (HS2.out.below hb3)
      have HT3 := Lib.hid ht3
      clear ht3 hb3 hf HB2 HS2 HSl2 hgl
      go_wp2_with fail
      go_loopw [53] (fun i wq => ∃ k : Nat, k ≤ ps.length ∧ i = .int .i64 k ∧ Taking w ps L.length g f k wq) (fun i _ => ps.length - (intOf i).toNat)
      case atStart => exact ⟨0, Nat.zero_le _, rfl, As, cs, At, ct, L, 0, HT.out, by omega, HS3.out, HT3.out, HB3.out⟩
      case round =>
        clear HS3 HT3 HB3 HT HO
        obtain ⟨j, hjl, rfl, A4, c4, A5, c5, R, pl, hR, hpl, hs4, ht4, hb4⟩ := hrel
        by_cases hjt : j < ps.length
        · obtain ⟨b, o, rfl, hbl, hcell⟩ := (HP.out.below hb4) (by omega)
          obtain ⟨hc0, hc1, wf0, wf1⟩ := hcell j hjt
          have hsn := laid_cons ps j hjt
          rw [← hR] at hsn
          clear hcell
          obtain ⟨N, hN⟩ : ∃ N, N = (ps.getD j (0, 0)).1 := ⟨_, rfl⟩
          obtain ⟨X, hX⟩ : ∃ X, X = (ps.getD j (0, 0)).2 := ⟨_, rfl⟩
          obtain ⟨R', hR'⟩ : ∃ R', R' = laid (ps.drop (j + 1)) := ⟨_, rfl⟩
          rw [← hR'] at hsn
          rw [← hN] at hc0 wf0 hsn
          rw [← hX] at hc1 wf1 hsn
          have bX := bounds_u64 wf1
          have bN := bounds_i64 wf0
          have hX0 : 0 ≤ X := bX.1
          have hX1 : X < 18446744073709551616 := by omega
          have hN0 : -9223372036854775808 ≤ N := bN.1
          have hN1 : N ≤ 9223372036854775807 := bN.2
          have hb5 : Below wr.heap.size wr (wr.alloc (.cells #[.int .i64 N, .int .u64 X] 53)) := (Below.refl _ wr).alloc (Nat.le_refl _) _
          have HB5 := Lib.hid (hb4.trans (hb5.mono hb4.size))
          have HS5 := Lib.hid (hs4.below hb5)
          have HT5 := Lib.hid (ht4.below hb5)
          have hz : wr.heap.size < (wr.alloc (.cells #[.int .i64 N, .int .u64 X] 53)).heap.size := by simp
          have hv0 : (wr.alloc (.cells #[.int .i64 N, .int .u64 X] 53)).cell? ⟨wr.heap.size, 0, none⟩ = some (.int .i64 N) := cell_new _ _ _ _
          have hv1 : (wr.alloc (.cells #[.int .i64 N, .int .u64 X] 53)).cell? ⟨wr.heap.size, 1, none⟩ = some (.int .u64 X) := cell_new _ _ _ _
          have hgw : g < wr.heap.size := hs4.lt
          have hfw : f < wr.heap.size := ht4.lt
          have HSN := Lib.hid hsn
          have HR' := Lib.hid hR'
          have HPl := Lib.hid hpl
          have HB4 := Lib.hid hb4
          clear hX hN wf0 wf1 bX bN hsn hR hR' hpl hs4 ht4 hb4 hb5
          by_cases hsz : 1 ≤ N ∧ N ≤ 8
          · obtain ⟨hs1, hs8⟩ := hsz
            obtain ⟨m, rfl⟩ := Int.eq_ofNat_of_zero_le (show 0 ≤ N by omega)
            have e1 : decide ((m : Int) < 1) = false := by simp; omega
            have e2 : decide (8 < (m : Int)) = false := by simp; omega
            have hRm : R = fld m X ++ R' := by rw [HSN.out, fldOf_yes X (by omega) (by omega)]
            have htk : R.take m = fld m X := by rw [hRm, List.take_append_of_le_length (by rw [fld_length]; omega), List.take_of_length_le (by rw [fld_length]; omega)]
            have hdr : R.drop m = R' := by
              have : (fld m X).length = m := fld_length m X
              rw [hRm, List.drop_append_of_le_length (by omega), List.drop_of_length_le (by omega), List.nil_append]
            have hml : m ≤ R.length := by rw [hRm, List.length_append, fld_length]; omega
            have hlR : R.length = m + R'.length := by rw [hRm, List.length_append, fld_length]
            have bn := back_num m X (by omega) (by omega) hX0 hX1
            have bi := back_int m X (by omega) (by omega) hX0 hX1
            have oF := fld_oct m X
            have hV0 := val_nonneg oF
            have hV1 := val_u64 oF (by rw [fld_length]; omega)
            obtain ⟨V, hV⟩ : ∃ V, V = val (fld m X) := ⟨_, rfl⟩
            obtain ⟨U, hU⟩ : ∃ U, U = vali (fld m X) := ⟨_, rfl⟩
            obtain ⟨Y, hY⟩ : ∃ Y, Y = sgn X := ⟨_, rfl⟩
            have hU1 : -9223372036854775808 ≤ U ∧ U < 9223372036854775808 := by
              rw [hU]
              exact vali_i64 oF (by rw [fld_length]; omega) (by rw [fld_length]; omega)
            have hYw : wrap64 X = Y := by rw [hY]; exact sgn_wrap X hX0 hX1
            have hYb := sgn_bd X hX0 hX1
            rw [← hV] at bn hV0 hV1
            rw [← hU, ← hY] at bi
            rw [← hY] at hYb
            obtain ⟨f1, f2⟩ := bn
            obtain ⟨f3, f4⟩ := bi
            obtain ⟨u1, u2⟩ := hU1
            obtain ⟨y1, y2⟩ := hYb
            have K1 := Lib.hid (fun W (h : Sc W g A4 c4 R pl false) => num_yes W g A4 c4 R pl m h (by omega) (by omega) hml)
            have K2 := Lib.hid (fun W (h : Sc W f A5 c5 R pl false) => int_yes W f A5 c5 R pl m h (by omega) (by omega) hml)
            rw [htk, ← hV] at K1
            rw [htk, ← hU] at K2
            have HDr := Lib.hid hdr
            have HlR := Lib.hid hlR
            clear hRm htk hdr hml hlR oF hV hU hY
            have F1 := Lib.hid f1
            have F2 := Lib.hid f2
            have F3 := Lib.hid f3
            have F4 := Lib.hid f4
            have YW := Lib.hid hYw
            clear f1 f2 f3 f4 hYw
            go_wp2_with fail
            clear hc0 hc1
            generalize wr.alloc (.cells #[.int .i64 (m : Int), .int .u64 X] 53) = W5 at *
            go_region_held3 (fun w' => w'.cell? ⟨wr.heap.size, 0, none⟩ = some (.int .i64 (m : Int)))
              (first | go_keep | assumption)
              (first
                | (go_at_call 22; refine (K1.out _ HS5.out.drew).mono ?_; rintro e w6 ⟨rfl, ⟨A6, c6, hs6⟩, ho6⟩; have hv6 : w6.cell? ⟨wr.heap.size, 0, none⟩ = some (.int .i64 (m : Int)) := (World.cell?_of_block (a := ⟨wr.heap.size, 0, none⟩) (w := W5.drew) (ho6.block wr.heap.size hz (by simp; omega))).trans hv0)
                | (go_at_call 24; refine (K2.out _ (HT5.out.drew.far ho6 HS5.out.drew.odd hne)).mono ?_; rintro e w7 ⟨rfl, ⟨A7, c7, ht7⟩, ho7⟩; have hv7 : w7.cell? ⟨wr.heap.size, 0, none⟩ = some (.int .i64 (m : Int)) := (World.cell?_of_block (a := ⟨wr.heap.size, 0, none⟩) (w := w6) (ho7.block wr.heap.size (Nat.lt_of_lt_of_le hz ho6.size) (by simp; omega))).trans hv6))
            have hx6 : w6.cell? ⟨wr.heap.size, 1, none⟩ = some (.int .u64 X) := (World.cell?_of_block (a := ⟨wr.heap.size, 1, none⟩) (w := W5.drew) (ho6.block wr.heap.size hz (by simp; omega))).trans hv1
            have hx7 : w7.cell? ⟨wr.heap.size, 1, none⟩ = some (.int .u64 X) := (World.cell?_of_block (a := ⟨wr.heap.size, 1, none⟩) (w := w6) (ho7.block wr.heap.size (Nat.lt_of_lt_of_le hz ho6.size) (by simp; omega))).trans hx6
            have hot := (HT5.out.drew.far ho6 HS5.out.drew.odd hne).odd
            have HS7 := Lib.hid (hs6.far ho7 hot (Ne.symm hne))
            have HT7 := Lib.hid ht7
            have HB6 := HB5.out.drew.trans (below_of_only ho6 HG.out HB5.out.size)
            have HB7 := Lib.hid (HB6.trans (below_of_only ho7 HF.out HB6.size))
            clear hx6 hs6 ht7 ho6 ho7 hot HB6 hv0 hv1 hv6 hz HS5 HT5 HB5 K1 K2
            have f1 := F1.out
            have f2 := F2.out
            have f3 := F3.out
            have f4 := F4.out
            have hYw := YW.out
            go_wp2_with fail
            go_quiet ((first | (go_at_call 16; exact Calls.quiet_of_same (fits_q _ _ _ (by assumption) (by assumption))) | (go_at_call 18; exact Calls.quiet_of_same (fitsInt_q _ _ _ (by assumption) (by assumption)))))
            clear f1 f2 f3 f4 hYw hx7
            go_wp2
            go_roundw
            case rel =>
              have hs8 := HS7.out
              have ht8 := HT7.out
              rw [HDr.out] at hs8 ht8
              have hpl := HPl.out
              have hlR := HlR.out
              exact ⟨j + 1, by omega, by go_num, A6, _, A7, _, R', pl + m, HR'.out, by omega, hs8.drewN _, ht8.drewN _, below_drewN HB7.out _⟩
            case measure => simp [intOf]; omega
          · have hno : R = R' := by rw [HSN.out, fldOf_no X (size_no hsz), List.nil_append]
            have HNo := Lib.hid hno
            clear hno
            by_cases h1 : N < 1
            · clear hsz
              go_wp2
              go_roundw
              case rel => exact ⟨j + 1, by omega, by go_num, A4, c4, A5, c5, R, pl, by rw [HNo.out, HR'.out], HPl.out, HS5.out, HT5.out, HB5.out⟩
              case measure => simp [intOf]; omega
            · have e1 : decide (N < 1) = false := by simp; omega
              have e2 : 8 < N := by omega
              clear hsz
              go_wp2
              go_roundw
              case rel => exact ⟨j + 1, by omega, by go_num, A4, c4, A5, c5, R, pl, by rw [HNo.out, HR'.out], HPl.out, HS5.out, HT5.out, HB5.out⟩
              case measure => simp [intOf]; omega
        · obtain rfl : j = ps.length := by omega
          have hR0 : R = [] := by rw [hR]; simp [laid]
          subst hR0
          have q0 := hs4.c0
          have q2 := hs4.c2
          have r1 := ht4.c1
          have r2 := ht4.c2
          have hple : (pl == (L.length : Int)) = true := by simp at hpl; simp [hpl]
          have HB4 := Lib.hid hb4
          have hq0 : wr.cell? ⟨g, 0, none⟩ = some (.slice A4 0 c4) := q0
          clear hb4 hs4 ht4 hpl hR q0
          go_wp2_with fail
          refine (bad_any _ g false q2).mono ?_
          rintro e w' ⟨rfl, rfl⟩
          go_wp2_with fail
          refine (bad_any _ f false r2).mono ?_
          rintro e w' ⟨rfl, rfl⟩
          go_wp2_with fail
          refine (left_any _ g 0 _ _ hq0).mono ?_
          rintro e w' ⟨rfl, rfl⟩
          go_wp2_with fail
          refine (place_any _ f pl r1).mono ?_
          rintro e w' ⟨rfl, rfl⟩
          go_wp2
          go_ret
          exact ⟨rfl, HB4.out⟩

theorem walk {w : World} (B : Option Addr) (d : Nat) (ps : List (Int × Int)) (hp : Pairs .i64 .u64 w B ps) :
    Calls Try.prog 6 #[.slice B ps.length d] w fun e w' => e = .returned (.bool true) ∧ Below w.heap.size w w' := by
  by_cases h : 300 < ps.length
  · exact walk_out B _ d w h
  · exact walk_rows B d ps w hp (by omega)

set_option maxRecDepth 100000 in
theorem lifted (os : Os) (started : os.Started) (H : Type) (enc : TypeId × Value → H) :
    ReturnsInHanded {} Try.checked os 6 .any (Rows.fieldBackSpec.pre6 enc Try.prog Try.f6 Rows.fieldBackRow.domain false) (Rows.fieldBackSpec.post enc Try.prog Try.f6 false true false false) := by
  refine returnsInHanded_of_change (C := Try.checked) Try.own started (by kernel_rfl) Try.func6
    (ChangeSpec.witness6 (enc := enc) (C := Try.checked) false ⟨#[], #[.slice none 0 0], []⟩ 8 (by kernel_rfl) (by kernel_rfl) (by kernel_rfl) (by kernel_rfl)) ?_
  intro W base args ds gs before hval0 hW hcnd _
  have hval : ∀ (j : Nat) t v, Try.f6.params[j]? = some t → args[j]? = some v → Value.okWide Try.prog W .any base t v := hval0
  have hW' := hW
  obtain ⟨p, q, hA0, hV, rfl, hfz, hnd⟩ := hW
  have hA : DataW.TrodAll enc Try.prog W 0 (fun _ => true) true Try.f6.params.toList args.toList ds p := hA0
  rw [Try.params6] at hA hval
  have hA' := hA
  obtain ⟨v0, vs0, d0, ds0, p0, q0, hargs, rfl, rfl, h0, r0⟩ := trodAll_cons hA
  obtain ⟨rfl, rfl, rfl⟩ := trodAll_nil r0
  obtain rfl : args = #[v0] := by cases args; simp_all
  obtain ⟨rfl, rfl⟩ := trodVars_none hV
  obtain ⟨A0, len0, c0, rfl⟩ := okWide_slice Try.underlying51 (hval 0 51 v0 rfl rfl)
  obtain ⟨z0, rfl, sl0⟩ := open_parts h0
  clear hA0 hval0
  refine (walk A0 c0 z0 sl0).mono fun e W' ⟨he, bel⟩ => ?_
  subst he
  exact ⟨_, rfl, _, _, _, [], _, [], hW', trodAll_mk1 (shut_bool Try.underlying4 _), trodAll_below bel _ _ _ _ (by kernel_rfl) hA', rfl, bel.frame _, fun h => by cases h⟩

theorem proved : Rows.FieldBackSaid :=
  OpenClaim.holds_of_wide 6 Try.f6 rfl rfl rfl rfl rfl rfl rfl ⟨rfl, rfl, rfl, rfl, rfl⟩ rfl rfl rfl rfl rfl (by kernel_rfl) Try.func6 (by kernel_rfl)
    (of_decide_eq_true (by kernel_rfl)) (by unfold Func.isWrapper; first | (rw [if_pos (by decide +kernel)]; kernel_rfl) | (rw [if_neg (by decide +kernel)]; exact ⟨rfl, rfl⟩))
    (fun os started H enc _ => lifted os started H enc)
#print axioms proved
end Go.Proofs.Ytnpmdbcijaanjaa.fieldBack
