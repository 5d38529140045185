/-
  What quiverref07's number, high and Vec answer.
-/
import Derived.Test.YthbpnngfdpdjkaaCodEq
import Derived.Test.YthbpnngfdpdjkaaBytesApp
namespace Go.Proofs.Ythbpnngfdpdjkaa
open Go.RowKit Go.Shelf
set_option linter.unusedVariables false
set_option linter.unusedSimpArgs false
set_option maxRecDepth 100000

theorem row_later {w w' : World} {base : Nat} {e : TypeId} {size : Nat} {v : Value} {n : Nat} {xs : List Value} (h : w.ownsRow base e size v n xs) (hb : Below w.heap.size w w') : w'.ownsRow base e size v n xs := by
  obtain ⟨h1, h2⟩ := h
  refine ⟨h1, ?_⟩
  rcases h2 with h2 | ⟨g, cap, cur, e1, hg, hx, rest⟩
  · exact .inl h2
  · exact .inr ⟨g, cap, cur, e1, hg, (hb.block g (lt_of_block hx)).trans hx, rest⟩

set_option maxHeartbeats 1000000 in
theorem rNumber_any (A : Option Addr) (c : Nat) (bs : List Int) (w : World) (h : Sl w A c bs) (ho : Oct bs) (h8 : bs.length ≤ 8) :
    Calls Try.prog 44 #[.slice A bs.length c] w fun e w' => e = .returned (.int .u64 (val bs)) ∧ w' = w := by
  have HS := Lib.hid h
  have HO := Lib.hid ho
  obtain ⟨n, hn⟩ : ∃ n, n = bs.length := ⟨_, rfl⟩
  rw [← hn] at h8 ⊢
  have HN := Lib.hid hn
  clear h ho hn
  go_enter Try.func44, Try.ntmps44
  go_wp2
  go_loopw [3, 4] (fun x i wr => ∃ k : Nat, k ≤ n ∧ i = .int .i64 k ∧ x = .int .u64 (val (bs.take k)) ∧ wr = w) (fun _ i _ => n - (intOf i).toNat)
  case atStart => exact ⟨0, Nat.zero_le _, rfl, rfl, rfl⟩
  case round =>
    obtain ⟨k, hk, rfl, rfl, rfl⟩ := hrel
    by_cases hkn : k < n
    · obtain ⟨b, o, rfl, hb, hc⟩ := HS.out.rd (by rw [← HN.out]; omega)
      have hcb := hc k (by rw [← HN.out]; exact hkn)
      have HE := Lib.hid (show val (bs.take (k + 1)) = val (bs.take k) * 256 + bs.getD k 0 by rw [take_snoc (by rw [← HN.out]; exact hkn), val_snoc])
      have hV0 : 0 ≤ val (bs.take k) := val_nonneg (HO.out.take k)
      have hV1 : val (bs.take k) < 72057594037927936 := val_seven (HO.out.take k) (by simp; omega)
      obtain ⟨hY1, hY2⟩ := HO.out.at_ k
      generalize val (bs.take k) = V at *
      generalize bs.getD k 0 = Y at *
      have HR := Lib.hid (or_u64 V Y hV0 hV1 hY1 hY2)
      have k0 : (0 : Int) ≤ k := by omega
      have kn : (k : Int) < n := by omega
      clear hc
      go_wp2
      go_roundw
      case rel => exact ⟨k + 1, by omega, by go_num, by rw [HE.out, ← HR.out], by first | rfl | trivial⟩
      case measure => simp [intOf]; omega
    · obtain rfl : k = n := by omega
      have HT := Lib.hid (show bs.take k = bs by rw [HN.out, List.take_length])
      go_wp2
      go_ret
      rw [HT.out]
      exact ⟨rfl, rfl⟩

set_option maxHeartbeats 1000000 in
theorem rHigh_any (m : Nat) (x : Int) (w : World) (h8 : m ≤ 8) (hx : 0 ≤ x) (hx2 : x < 18446744073709551616) :
    Calls Try.prog 40 #[.int .u64 x, .int .i64 m] w fun e w' => ∃ A c, e = .returned (.slice A m c) ∧ New w.heap.size w' A c (fld m x) ∧ Below w.heap.size w w' := by
  obtain ⟨i0, hi, hz0, hz1, hz2⟩ := info_parts info5
  go_enter Try.func40, Try.ntmps40
  go_wp2
  go_loopw [5, 6] (fun v i wr => ∃ j : Nat, j ≤ m ∧ i = .int .i64 ((j : Int) - 1) ∧ Hid (wr.ownsRow w.heap.size 5 1 v (m - j) (((fld m x).take (m - j)).map (Value.int .u8))) ∧ Hid (Below w.heap.size w wr)) (fun _ i _ => (intOf i + 1).toNat)
  case atStart => exact ⟨m, Nat.le_refl _, rfl, Lib.hid (by rw [Nat.sub_self]; exact World.ownsRow_nil _ _ _ _), Lib.hid (Below.refl _ _)⟩
  case round =>
    obtain ⟨j, hj, rfl, HV, HB⟩ := hrel
    by_cases hj0 : j = 0
    · subst hj0
      have HV2 := Lib.hid (show wr.ownsRow w.heap.size 5 1 _ (fld m x).length ((fld m x).map (Value.int .u8)) from by have h := HV.out; rw [Nat.sub_zero, List.take_of_length_le (by rw [fld_length]; omega)] at h; rw [fld_length]; exact h)
      obtain ⟨A, c, hv, hn⟩ := new_of HV2.out rfl rfl
      rw [fld_length] at hv
      subst hv
      have HNN := Lib.hid hn
      clear hn
      go_wp2
      go_ret
      exact ⟨A, c, rfl, HNN.out, HB.out⟩
    · obtain ⟨i, rfl⟩ : ∃ i, j = i + 1 := ⟨j - 1, by omega⟩
      have hii : ((i + 1 : Nat) : Int) - 1 = (i : Int) := by omega
      rw [hii]
      have i0' : (0 : Int) ≤ i := by omega
      have HE := Lib.hid (show (fld m x).take (m - i) = (fld m x).take (m - (i + 1)) ++ [x / 2 ^ (8 * i) % 256] from by
        have h := fld_take m (m - (i + 1)) x (by omega)
        rw [show m - (i + 1) + 1 = m - i by omega, show m - 1 - (m - (i + 1)) = i by omega] at h
        exact h)
      have HM := Lib.hid (show m - (i + 1) + 1 = m - i by omega)
      have hsz := HB.out.size
      go_wp2_with (at_builtin; refine wpList_append_own _ rfl _ _ 29 rfl w.heap.size 5 i0 (.int .u8 0) 1 1 Try.underlying29 hi hz0 hz1 hz2 rfl (by decide) _ _ _ rfl (HV.out.alloc _) ⟨wr.heap.size, 0, none⟩ 1 1 [.int .u8 (x / 2 ^ (8 * i) % 256)] rfl rfl ?c1 ?c2 ?c3 ?c4 ?c5 ?_)
      case c1 => exact cell_one_new _ _ _
      case c2 => intro u hu; simp at hu; subst hu; rfl
      case c3 => unfold maxLen; omega
      case c4 => omega
      case c5 => simp; omega
      · intro v' w2 hown' hgrow _
        have HB2 := Lib.hid ((HB.out.alloc hsz _).grown hgrow (by simp; omega) (fun k hk => (HV.out.lt k hk).1))
        have HV2 := Lib.hid (show w2.ownsRow w.heap.size 5 1 v' (m - i) (((fld m x).take (m - i)).map (Value.int .u8)) from by
          rw [HE.out, ← HM.out]
          simpa using hown')
        clear hown' hgrow
        go_wp2
        go_roundw
        case rel => exact ⟨i, by omega, by go_num, HV2, HB2⟩
        case measure => simp [intOf]

/-- The bytes of a component, as the reference spells them. -/
theorem comp_u32 (x : Int) : fld 4 (IntKind.u32.wrap x) = compB x := by
  unfold compB
  apply fld_shift
  intro j hj
  rw [unsg_eq, IntKind.wrap_u32]
  have hj' : j = 0 ∨ j = 1 ∨ j = 2 ∨ j = 3 := by omega
  rcases hj' with rfl | rfl | rfl | rfl <;> simp <;> try omega
theorem u32_in (x : Int) : 0 ≤ IntKind.u32.wrap x ∧ IntKind.u32.wrap x < 4294967296 := by rw [IntKind.wrap_u32]; omega
theorem u8_len (n : Nat) (h : n ≤ 255) : IntKind.u8.wrap (n : Int) = n := by rw [IntKind.wrap_u8]; omega

set_option maxHeartbeats 2000000 in
theorem rVec_any (A : Option Addr) (c : Nat) (xs : List Int) (w : World) (h : Vec .i32 w A c xs) (hl : xs.length ≤ 255) :
    Calls Try.prog 20 #[.slice A xs.length c] w (GivesB w (vecB xs)) := by
  obtain ⟨n, hn⟩ : ∃ n, n = xs.length := ⟨_, rfl⟩
  have HX := Lib.hid h
  have HN := Lib.hid hn
  have HV := Lib.hid (show vecB xs = (n : Int) :: xs.flatMap compB by rw [vecB_eq xs hl, hn])
  rw [← hn] at hl ⊢
  generalize vecB xs = R at *
  have hu8 := u8_len n hl
  clear h hn
  have HO0 := Lib.hid (show (w.alloc (.cells #[.int .u8 (n : Int)] 5)).ownsRow w.heap.size 5 1 (.slice (some ⟨w.heap.size, 0, none⟩) 1 1) 1 [.int .u8 (n : Int)] from World.ownsRow_lit w #[.int .u8 (n : Int)] 1 (Nat.le_refl _) (by decide) rfl)
  have HB0 := Lib.hid (show Below w.heap.size w (w.alloc (.cells #[.int .u8 (n : Int)] 5)) from (Below.refl _ w).alloc (Nat.le_refl _) _)
  go_enter Try.func20, Try.ntmps20
  go_wp2
  go_loopw [3, 4] (fun v i wr => ∃ (k : Nat) (A1 : Option Addr) (c1 : Nat), k ≤ n ∧ i = .int .i64 k ∧ v = .slice A1 (1 + 4 * k) c1 ∧ Hid (wr.ownsRow w.heap.size 5 1 (.slice A1 (1 + 4 * k) c1) (1 + 4 * k) (((n : Int) :: (xs.take k).flatMap compB).map (Value.int .u8))) ∧ Hid (Below w.heap.size w wr)) (fun _ i _ => n - (intOf i).toNat)
  case atStart => exact ⟨0, _, _, Nat.zero_le _, rfl, rfl, HO0, HB0⟩
  case round =>
    obtain ⟨k, A1, c1, hk, rfl, rfl, HW, HB⟩ := hrel
    by_cases hkn : k < n
    · obtain ⟨b, o, rfl, hb, hc⟩ := (HX.out.below HB.out).at_ (j := k) (by rw [← HN.out]; exact hkn)
      have hx : xs[k]? = some (xs.getD k 0) := getD_some (by rw [← HN.out]; exact hkn)
      have HE := Lib.hid (show (n : Int) :: (xs.take (k + 1)).flatMap compB = ((n : Int) :: (xs.take k).flatMap compB) ++ compB (xs.getD k 0) by rw [List.take_add_one, hx, List.flatMap_append]; simp)
      generalize xs.getD k 0 = x at *
      have k0 : (0 : Int) ≤ k := by omega
      have kn : (k : Int) < n := by omega
      have hU := u32_in x
      have HH := Lib.hid (fun (W : World) => show Calls Try.prog 40 #[.int .u64 (IntKind.u32.wrap x), .int .i64 4] W (fun e w' => ∃ A c, e = .returned (.slice A 4 c) ∧ New W.heap.size w' A c (compB x) ∧ Below W.heap.size W w') from by
        have h := rHigh_any 4 (IntKind.u32.wrap x) W (by omega) hU.1 (by omega)
        rw [comp_u32] at h
        exact h)
      obtain ⟨U, hUe⟩ : ∃ U, U = IntKind.u32.wrap x := ⟨_, rfl⟩
      rw [← hUe] at HH hU
      obtain ⟨hU0, hU1⟩ := hU
      have HUE := hUe.symm
      have HC4 := Lib.hid (comp_len x)
      have HLow := Lib.hid HB.out.size
      have HL5 := Lib.hid (show 1 + 4 * k + 4 = (((n : Int) :: (xs.take k).flatMap compB) ++ compB x).length by rw [List.length_append, List.length_cons, flat4_len, comp_len, List.length_take, ← HN.out]; omega)
      have hKm : (1 + 4 * k) + 4 ≤ 140737488355328 := by omega
      clear hx hUe
      go_wp2_with (first
        | (go_at_call 40; go_loud (refine (HH.out _).mono ?_); rintro e w2 ⟨A2, c2, rfl, hn2, hb2⟩; have HW2 := Lib.hid (row_later HW.out hb2); have HR2 := Lib.hid hn2.sl.rd; have HB2 := Lib.hid (HB.out.trans (hb2.mono HB.out.size)); clear hn2 hb2)
        | (at_builtin; refine app_b rfl (.tmp 15) (.tmp 22) rfl w.heap.size (.slice A1 (1 + 4 * k) c1) (1 + 4 * k) _ rfl HW2.out A2 c2 4 (compB x) rfl HC4.out HR2.out hKm HB2.out.size ?_; intro v5 w5 hown5 hg5; have HB5 := Lib.hid (HB2.out.grown hg5 HB2.out.size (fun j hj => (HW2.out.lt j hj).1)); obtain ⟨A5, c5, rfl, hn5⟩ := new_of (bs := ((n : Int) :: (xs.take k).flatMap compB) ++ compB x) hown5 (by simp) HL5.out; rw [← HL5.out]; have HN5 := Lib.hid hn5; clear hown5 hg5 hn5))
      go_roundw
      case rel => exact ⟨k + 1, A5, c5, by omega, by go_num, by rw [show 1 + 4 * (k + 1) = 1 + 4 * k + 4 by omega], Lib.hid (by rw [HE.out]; have h := HN5.out; unfold New at h; rw [← HL5.out] at h; rw [show 1 + 4 * (k + 1) = 1 + 4 * k + 4 by omega]; exact h), HB5⟩
      case measure => simp [intOf]; omega
    · obtain rfl : n = k := by omega
      have HT := Lib.hid (show ((n : Int) :: (xs.take n).flatMap compB) = R by rw [HV.out, HN.out, List.take_length])
      rw [HT.out] at HW
      have HRL := Lib.hid (show 1 + 4 * n = R.length by rw [HV.out, List.length_cons, flat4_len, ← HN.out]; omega)
      rw [HRL.out] at HW ⊢
      go_wp2
      go_ret
      exact ⟨A1, c1, rfl, HW.out, HB.out⟩

end Go.Proofs.Ythbpnngfdpdjkaa
