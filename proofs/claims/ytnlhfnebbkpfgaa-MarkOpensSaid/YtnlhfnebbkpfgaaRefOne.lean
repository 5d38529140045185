/-
  What the functions of package quiverref01 answer: Same, Size, Fits, FitsInt, Field, Put, Lay.
-/
import Derived.Test.YtnlhfnebbkpfgaaBytesApp
import Derived.Test.YtnlhfnebbkpfgaaFieldMath
namespace Go.Proofs.Ytnlhfnebbkpfgaa
open Go.RowKit
set_option linter.unusedVariables false

theorem rSize_any (n : Int) (w : World) :
    Calls Try.prog 38 #[.int .i64 n] w fun e w' => e = .returned (.bool (sizeB n)) ∧ w = w' := by
  by_cases h1 : 1 ≤ n
  · by_cases h2 : n ≤ 8
    · have hs : Hid (sizeB n = true) := by unfold Hid sizeB; simp [h1, h2]
      go_enter Try.func38, Try.ntmps38
      go_wp2
      go_ret
      rw [hs.out]
      exact ⟨rfl, rfl⟩
    · have hs : Hid (sizeB n = false) := by unfold Hid sizeB; simp [h2]
      have h2' : decide (n ≤ 8) = false := by simp [h2]
      go_enter Try.func38, Try.ntmps38
      go_wp2
      go_ret
      rw [hs.out]
      exact ⟨rfl, rfl⟩
  · have hs : Hid (sizeB n = false) := by unfold Hid sizeB; simp [h1]
    have h1' : decide (1 ≤ n) = false := by simp [h1]
    go_enter Try.func38, Try.ntmps38
    go_wp2
    go_ret
    rw [hs.out]
    exact ⟨rfl, rfl⟩

set_option maxHeartbeats 1000000 in
theorem same_b (A A' : Option Addr) (c c' : Nat) (bs : List Int) (w : World) (h : Sl w A c bs) (h' : Sl w A' c' bs) :
    Calls Try.prog 17 #[.slice A bs.length c, .slice A' bs.length c'] w fun e w' => e = .returned (.bool true) ∧ ∃ q, w' = w.drewN q := by
  have hm := h.most
  have hr := h.room
  have H := Lib.hid h
  have H' := Lib.hid h'
  clear h h'
  obtain ⟨n, hn⟩ : ∃ n, n = bs.length := ⟨_, rfl⟩
  rw [← hn] at hr ⊢
  have HN := Lib.hid hn
  clear hn
  have hne : ((n : Int) != (n : Int)) = false := by simp
  go_enter Try.func17, Try.ntmps17
  go_wp2
  go_loopw [5] (fun i wr => ∃ k : Nat, k ≤ n ∧ i = .int .i64 k ∧ ∃ q, wr = w.drewN q) (fun i _ => n - (intOf i).toNat)
  case atStart => exact ⟨0, Nat.zero_le _, rfl, 0, rfl⟩
  case round =>
    obtain ⟨k, hk, rfl, q, rfl⟩ := hrel
    by_cases hlt : k < n
    · obtain ⟨b, o, rfl, _, hc⟩ := H.out.rd (by rw [← HN.out]; omega)
      obtain ⟨b', o', rfl, _, hc'⟩ := H'.out.rd (by rw [← HN.out]; omega)
      have c1 := hc k (by rw [← HN.out]; omega)
      have c2 := hc' k (by rw [← HN.out]; omega)
      generalize bs.getD k 0 = x at *
      clear hc hc'
      have b1 : (0 : Int) ≤ (k : Int) := by omega
      have b2 : (k : Int) < (n : Int) := by omega
      have hxx : (x != x) = false := by simp
      go_wp2
      go_quiet (fail)
      go_wp2
      go_roundw
      case rel => exact ⟨k + 1, by omega, by go_num, _, by first | rfl | exact World.drewN_drewN _ _ _⟩
      case measure => simp [intOf]; omega
    · go_wp2
      go_ret
      exact ⟨rfl, q, rfl⟩

theorem two_le (a b : Nat) (h : a ≤ b) : (2 : Int) ^ a ≤ 2 ^ b := by
  have h := Nat.pow_le_pow_right (n := 2) (by omega) h
  rw [show (2 : Int) = ((2 : Nat) : Int) from rfl, ← Int.natCast_pow, ← Int.natCast_pow]
  exact Int.ofNat_le.2 h
theorem two_pos (a : Nat) : (1 : Int) ≤ 2 ^ a := by
  have := two_le 0 a (by omega)
  simpa using this

theorem fits_eight (y : Int) (h0 : -9223372036854775808 ≤ y) (h1 : y < 9223372036854775808) : fitsIntB 8 y = true := by
  unfold fitsIntB sizeB
  simp
  omega
theorem fits_half (m : Nat) (y : Int) (h1 : 1 ≤ m) (h7 : m ≤ 7) : fitsIntB m y = (decide (0 - 2 ^ (8 * m - 1) ≤ y) && decide (y < 2 ^ (8 * m - 1))) := by
  have hs : sizeB (m : Int) = true := by unfold sizeB; simp; omega
  unfold fitsIntB
  rw [hs, Bool.eq_iff_iff]
  rcases sizes h1 (by omega) with rfl | rfl | rfl | rfl | rfl | rfl | rfl | rfl <;> simp <;> omega

/-- Zeros, and the last bytes of a field behind them. -/
def part (m k : Nat) (X : Int) : List Int := List.replicate k 0 ++ (fld m X).drop k
theorem part_all (m : Nat) (X : Int) : part m m X = List.replicate m 0 := by
  unfold part
  rw [List.drop_of_length_le (by rw [fld_length]; omega), List.append_nil]
theorem part_none (m : Nat) (X : Int) : part m 0 X = fld m X := by simp [part]
theorem part_length (m k : Nat) (X : Int) (h : k ≤ m) : (part m k X).length = m := by simp [part, fld_length]; omega
theorem part_set (m k : Nat) (X : Int) (h : k < m) : (part m (k + 1) X).set k (X / 2 ^ (8 * (m - 1 - k)) % 256) = part m k X := by
  unfold part
  have e1 : (fld m X).drop k = (X / 2 ^ (8 * (m - 1 - k)) % 256) :: (fld m X).drop (k + 1) := by
    rw [List.drop_eq_getElem_cons (by rw [fld_length]; exact h)]
    congr 1
    simp [fld]
  rw [e1, List.replicate_succ', List.append_assoc, List.set_append_right _ _ (by simp)]
  simp

set_option maxHeartbeats 1000000 in
set_option maxRecDepth 100000 in
theorem rField_any (m : Nat) (X : Int) (w : World) (h1 : 1 ≤ m) (h8 : m ≤ 8) (hx : 0 ≤ X) (hx2 : X < 18446744073709551616) :
    Calls Try.prog 39 #[.int .i64 m, .int .u64 X] w (GivesB w (fld m X)) := by
  obtain ⟨i0, hi, hz0, hz1, hz2⟩ := info_parts info5
  go_enter Try.func39, Try.ntmps39
  go_wp2_with (refine wpList_make_full _ rfl (.tmp 7) (.tmp 7) 23 rfl w.heap.size 5 i0 (.int .u8 0) 1 Try.underlying23 hi hz0 hz1 .i64 .i64 m m m rfl rfl rfl rfl (by rw [hz2]; omega) (by unfold maxLen; omega) (Nat.le_refl _) ?_; intro w1 hown1 hg1)
  have hb1 : Below w.heap.size w w1 := (Below.refl _ w).grown hg1 (Nat.le_refl _) (by simp)
  have hst : w1.ownsRow w.heap.size 5 1 (.slice (some ⟨w.heap.size, 0, none⟩) m m) m ((part m m X).map (Value.int .u8)) := by
    rw [part_all]
    have e : (madeCells (Value.int .u8 0).cells (m * 1)).toList = (List.replicate m (0 : Int)).map (Value.int .u8) := by
      rw [Nat.mul_one]
      have := toList_madeCells_one (Value.int .u8 0) m
      rw [List.map_replicate]
      exact this
    rw [← e]
    exact hown1
  have HST := Lib.hid hst
  have HB1 := Lib.hid hb1
  clear hst hb1 hown1 hg1
  go_loopw [1, 6] (fun x i wr => ∃ k : Nat, ∃ Y : Int, k ≤ m ∧ i = .int .i64 ((k : Int) - 1) ∧ x = .int .u64 Y ∧ 0 ≤ Y ∧ Y < 18446744073709551616 ∧ Hid (Y = X / 2 ^ (8 * (m - k))) ∧
      Hid (wr.ownsRow w.heap.size 5 1 (.slice (some ⟨w.heap.size, 0, none⟩) m m) m ((part m k X).map (Value.int .u8))) ∧ Hid (Below w.heap.size w wr)) (fun _ i _ => (intOf i + 1).toNat)
  case atStart => exact ⟨m, X, Nat.le_refl _, rfl, rfl, hx, hx2, by unfold Hid; simp, HST, HB1⟩
  case round =>
    clear HST HB1
    obtain ⟨k, Y, hk, rfl, rfl, hY0, hY1, HY, HO, HB⟩ := hrel
    by_cases hlt : 1 ≤ k
    · obtain ⟨j, rfl⟩ : ∃ j, k = j + 1 := ⟨k - 1, by omega⟩
      have hj0 : (0 : Int) ≤ ((j + 1 : Nat) : Int) - 1 := by omega
      have hj1 : ((j + 1 : Nat) : Int) - 1 < (m : Int) := by omega
      have hlen := part_length m (j + 1) X hk
      have hc := World.ownsRow.cellAt HO.out j (by omega)
      have hfz := World.ownsRow.frozenAt HO.out j
      have hcl : wr.cell? ⟨w.heap.size, j, none⟩ = some (.int .u8 ((part m (j + 1) X).getD j 0)) := by
        rw [hc]
        simp [List.getD, show j < (part m (j + 1) X).length by omega]
      generalize (part m (j + 1) X).getD j 0 = z at hcl
      clear hc hlen
      have ej : ((j + 1 : Nat) : Int) - 1 = (j : Int) := by omega
      rw [ej] at hj0 hj1 ⊢
      clear ej
      go_wp2
      go_roundw
      case rel =>
        have hs := (World.ownsRow.stored HO.out j (.int .u8 (Y % 256))).1
        rw [← List.map_set] at hs
        have ey : Y % 256 = X / 2 ^ (8 * (m - 1 - j)) % 256 := by rw [HY.out, show m - (j + 1) = m - 1 - j by omega]
        have e2 : (part m (j + 1) X).set j (Y % 256) = part m j X := by rw [ey]; exact part_set m j X (by omega)
        rw [e2] at hs
        refine ⟨j, Y / 256, by omega, by go_num, rfl, by omega, by omega, ?_, ?_, ?_⟩
        · unfold Hid
          rw [HY.out, show 8 * (m - j) = 8 * (m - (j + 1)) + 8 by omega, pow_split]
          rfl
        · exact hs
        · exact HB.out.setCell (p := ⟨w.heap.size, j, none⟩) (Nat.le_refl _) _
      case measure => simp [intOf]
    · obtain rfl : k = 0 := by omega
      have ho := HO.out
      rw [part_none] at ho
      have hl := fld_length m X
      go_wp2
      go_ret
      refine ⟨some ⟨w.heap.size, 0, none⟩, m, by rw [hl]; rfl, ?_, HB.out⟩
      unfold New
      rw [hl]
      exact ho

set_option maxHeartbeats 1000000 in
set_option maxRecDepth 100000 in
theorem rPut_b (A : Option Addr) (c : Nat) (bs : List Int) (n X : Int) (w : World) (hr : Sl w A c bs) (hbig : bs.length + 8 ≤ 140737488355328) (hx : 0 ≤ X) (hx2 : X < 18446744073709551616) :
    Calls Try.prog 34 #[.slice A bs.length c, .int .i64 n, .int .u64 X] w (GivesB w (bs ++ fldOf n X)) := by
  have H := Lib.hid hr
  clear hr
  obtain ⟨l, hl⟩ : ∃ l, l = bs.length := ⟨_, rfl⟩
  rw [← hl] at hbig ⊢
  have HL := Lib.hid hl
  clear hl
  rcases hb : sizeB n with _ | _
  · have E := Lib.hid (show bs ++ fldOf n X = bs by rw [fldOf_no X hb, List.append_nil])
    have hs : Hid (sizeB n = false) := hb
    clear hb
    go_enter Try.func34, Try.ntmps34
    go_wp2_with (first
      | (at_builtin; refine app_b rfl (.tmp 8) (.tmp 9) rfl w.heap.size (.slice (some ⟨w.heap.size, 0, none⟩) 0 0) 0 [] rfl (World.ownsRow_made w #[] 0 (Nat.le_refl _) (Nat.zero_le _) rfl) A c l bs rfl HL.out.symm ((H.out.alloc _).rd) (by omega) (by simp) ?_; intro v1 w1 hown1 hg1)
      | (go_at_call 38; refine (rSize_any _ _).mono ?_; rw [hs.out]; rintro e w' ⟨rfl, rfl⟩))
    go_ret
    rw [E.out]
    obtain ⟨A1, c1, rfl, hn⟩ := new_of (bs := bs) hown1 (by simp) (by rw [HL.out]; omega)
    exact ⟨A1, c1, rfl, hn, ((Below.refl _ w).alloc (Nat.le_refl _) _).grown hg1 (by simp) (by intro k hk; simp [Value.ownBlock] at hk; omega)⟩
  · obtain ⟨m, rfl, h1, h8⟩ := size_nat hb
    have E := Lib.hid (show bs ++ fldOf m X = bs ++ fld m X by rw [fldOf_yes X h1 h8])
    have hs : Hid (sizeB (m : Int) = true) := hb
    clear hb
    go_enter Try.func34, Try.ntmps34
    go_wp2_with (first
      | (at_builtin; refine app_b rfl (.tmp 8) (.tmp 9) rfl w.heap.size (.slice (some ⟨w.heap.size, 0, none⟩) 0 0) 0 [] rfl (World.ownsRow_made w #[] 0 (Nat.le_refl _) (Nat.zero_le _) rfl) A c l bs rfl HL.out.symm ((H.out.alloc _).rd) (by omega) (by simp) ?_; intro v1 w1 hown1 hg1)
      | (go_at_call 38; refine (rSize_any _ _).mono ?_; rw [hs.out]; rintro e w' ⟨rfl, rfl⟩))
    have hb1 : Below w.heap.size w w1 := ((Below.refl _ w).alloc (Nat.le_refl _) _).grown hg1 (by simp) (by intro k hk; simp [Value.ownBlock] at hk; omega)
    have HB1 := Lib.hid hb1
    obtain ⟨A1, c1, hv1, hn1⟩ := new_of (bs := bs) hown1 (by simp) (by rw [HL.out]; omega)
    rw [← HL.out] at hv1
    rw [hv1]
    have HN1 := Lib.hid hn1
    clear hown1 hg1 hb1 hn1 hv1
    refine (rField_any m X w1 h1 h8 hx hx2).mono ?_
    rintro e w2 ⟨A2, c2, rfl, hn2, hb2⟩
    obtain ⟨F, hF⟩ : ∃ F, F = fld m X := ⟨_, rfl⟩
    have lF : F.length = m := by rw [hF, fld_length]
    rw [← hF] at hn2
    rw [← hF, lF]
    have HB2 := Lib.hid (HB1.out.trans (hb2.mono HB1.out.size))
    have HN2 := Lib.hid hn2
    have hk : w2.ownsRow w.heap.size 5 1 (.slice A1 l c1) l (bs.map (Value.int .u8)) := by
      rw [HL.out]
      exact World.ownsRow.kept HN1.out (row := none) (World.grownBy.mk hb2.os hb2.tape hb2.output hb2.size (fun i hi _ => hb2.block i hi)) (by rcases A1 with _ | a <;> simp [Value.ownBlock])
    have HK := Lib.hid hk
    have hw1 : w.heap.size ≤ w2.heap.size := HB2.out.size
    have HF := Lib.hid hF
    have LF := Lib.hid lF
    have hlt : ∀ k, (Value.slice A1 l c1).ownBlock = some k → w.heap.size ≤ k := fun k hk' => (World.ownsRow.lt HK.out k hk').1
    clear hn2 hb2 HB1 hk HN1 hF lF
    go_wp2_with (at_builtin; refine app_b rfl (.tmp 13) (.tmp 16) rfl w.heap.size (.slice A1 l c1) l (bs.map (Value.int .u8)) rfl HK.out A2 c2 m F rfl LF.out HN2.out.sl.rd (by omega) hw1 ?_; intro v3 w3 hown3 hg3)
    go_ret
    rw [E.out, ← HF.out]
    obtain ⟨A3, c3, rfl, hn⟩ := new_of (bs := bs ++ F) hown3 (by simp) (by rw [List.length_append, LF.out, HL.out])
    exact ⟨A3, c3, rfl, hn, HB2.out.grown hg3 hw1 hlt⟩

end Go.Proofs.Ytnlhfnebbkpfgaa
