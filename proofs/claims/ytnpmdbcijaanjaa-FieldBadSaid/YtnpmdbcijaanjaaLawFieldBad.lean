/-
  Proved: the law FieldBad, once a scan is bad it stands where it stood and tells nothing any more, returns true for all bytes b, every number n and all rows of asks l, and leaves all memory as it was. No condition.
-/
import Derived.Test.YtnpmdbcijaanjaaLawPairs
import Derived.Test.YtnpmdbcijaanjaaFieldWakes
namespace Go.Proofs.Ytnpmdbcijaanjaa.fieldBad
open Go.ChangeShapes Go.WideShapes Go.ChangeAt Go.RowKit
set_option linter.unusedVariables false

theorem walk_out (A B : Option Addr) (l c k d : Nat) (n : Int) (w : World) (h : 5000 < l ∨ 100 < k) :
    Calls Try.prog 9 #[.slice A l c, .int .i64 n, .slice B k d] w fun e w' => e = .returned (.bool true) ∧ Below w.heap.size w w' := by
  by_cases h1 : 5000 < l
  · have h1' : (5000 : Int) < (l : Int) := by omega
    go_enter Try.func9, Try.ntmps9
    go_wp2_with (go_at_call 10; refine (wakes_any w).mono ?_; rintro e w1 ⟨rfl, hb1⟩)
    go_ret
    exact ⟨rfl, hb1⟩
  have d1 : decide ((5000 : Int) < (l : Int)) = false := by simp; omega
  have h2 : (100 : Int) < (k : Int) := by omega
  clear h
  go_enter Try.func9, Try.ntmps9
  go_wp2_with (go_at_call 10; refine (wakes_any w).mono ?_; rintro e w1 ⟨rfl, hb1⟩)
  go_ret
  exact ⟨rfl, hb1⟩

set_option maxHeartbeats 1000000 in
set_option maxRecDepth 100000 in
theorem walk_some (A B : Option Addr) (c d : Nat) (bs : List Int) (n : Int) (ps : List (Int × Int)) (w : World) (hs : Sl w A c bs) (ho : Oct bs) (hp : Pairs .i64 .i64 w B ps) (hl : bs.length ≤ 5000) (hk : ps.length ≤ 100) (hb0 : 0 < bs.length)
    (wn : -9223372036854775808 ≤ n ∧ n ≤ 9223372036854775807) :
    Calls Try.prog 9 #[.slice A bs.length c, .int .i64 n, .slice B ps.length d] w fun e w' => e = .returned (.bool true) ∧ Below w.heap.size w w' := by
  have d1 : decide ((5000 : Int) < (bs.length : Int)) = false := by simp; omega
  have d2 : decide ((100 : Int) < (ps.length : Int)) = false := by simp; omega
  have HS := Lib.hid hs
  have HO := Lib.hid ho
  have HP := Lib.hid hp
  clear hs ho hp
  go_enter Try.func9, Try.ntmps9
  go_wp2_with fail
  refine (wakes_any w).mono ?_
  rintro e w1 ⟨rfl, hb1⟩
  have HB1 := Lib.hid hb1
  clear hb1
  go_wp2_with fail
  refine (read_b A c bs w1 (HS.out.below HB1.out) HO.out (by omega)).mono ?_
  rintro e w2 ⟨g, As, cs, rfl, hs2, hg, hb2⟩
  have HGW := Lib.hid (Nat.le_trans HB1.out.size hg)
  have HB2 := Lib.hid (HB1.out.trans (hb2.mono HB1.out.size))
  have HS2 := Lib.hid hs2
  clear hs2 hb2 hg HB1
  go_wp2_with fail
  obtain ⟨K, hK, hKl⟩ : ∃ K : Nat, wrap64 ((IntKind.u64.wrap n).tmod ((bs.length : Int) + 1)) = (K : Int) ∧ K ≤ bs.length := by
    have h0 : 0 ≤ IntKind.u64.wrap n := by rw [IntKind.wrap_u64]; omega
    have h1 : (IntKind.u64.wrap n).tmod ((bs.length : Int) + 1) = IntKind.u64.wrap n % ((bs.length : Int) + 1) := Int.tmod_eq_emod_of_nonneg h0
    have h2 := Int.emod_nonneg (IntKind.u64.wrap n) (show (bs.length : Int) + 1 ≠ 0 by omega)
    have h3 := Int.emod_lt_of_pos (IntKind.u64.wrap n) (show 0 < (bs.length : Int) + 1 by omega)
    generalize IntKind.u64.wrap n % ((bs.length : Int) + 1) = r at *
    refine ⟨r.toNat, ?_, by omega⟩
    rw [h1, IntWalk.wrap64_in r ⟨by omega, by omega⟩]
    omega
  rw [hK]
  clear hK
  have HKL := Lib.hid hKl
  refine (bytes_yes w2 g As cs bs 0 K HS2.out HKL.out).mono ?_
  rintro e w3 ⟨A3, c3, rfl, hn3, ⟨As3, cs3, hs3⟩, ho3⟩
  have HB3 := Lib.hid (HB2.out.trans (below_of_only ho3 HGW.out HB2.out.size))
  obtain ⟨L, eL⟩ : ∃ L, L = bs.drop K := ⟨_, rfl⟩
  rw [← eL] at hs3
  have hL1 : L.length + K ≤ bs.length := by rw [eL]; simp; omega
  have hL2 : bs.length ≤ L.length + K := by rw [eL]; simp; omega
  have HS3 := Lib.hid hs3
  clear hn3 hs3 ho3 eL HB2 HS2
  go_wp2_with fail
  refine (bad_any w3 g false HS3.out.c2).mono ?_
  rintro e w' ⟨rfl, rfl⟩
  go_wp2_with fail
  refine (bytes_no w3 g As3 cs3 L (0 + K) _ HS3.out (.inr (by omega))).mono ?_
  rintro e w4 ⟨rfl, hs4, ho4⟩
  have HB4 := Lib.hid (HB3.out.trans (below_of_only ho4 HGW.out HB3.out.size))
  have HS4 := Lib.hid hs4
  clear hs4 ho4 HB3 HS3
  go_wp2_with fail
  refine (bad_any w4 g true HS4.out.c2).mono ?_
  rintro e w' ⟨rfl, rfl⟩
  go_wp2_with fail
  go_loopw [60] (fun i wr => ∃ k : Nat, k ≤ ps.length ∧ i = .int .i64 k ∧ Hid (Sc wr g As3 cs3 L (0 + K) true) ∧ Hid (Below w.heap.size w wr)) (fun i _ => ps.length - (intOf i).toNat)
  case atStart => exact ⟨0, Nat.zero_le _, rfl, HS4, HB4⟩
  case round =>
    clear HS4 HB4
    obtain ⟨k, hkl, rfl, HSr, HBr⟩ := hrel
    by_cases hlt : k < ps.length
    · obtain ⟨b, o, rfl, hbl, hcell⟩ := (HP.out.below HBr.out) (by omega)
      obtain ⟨hc0, hc1, _, _⟩ := hcell k hlt
      clear hcell
      obtain ⟨X, hX⟩ : ∃ X, X = (ps.getD k (0, 0)).1 := ⟨_, rfl⟩
      obtain ⟨N, hN⟩ : ∃ N, N = (ps.getD k (0, 0)).2 := ⟨_, rfl⟩
      rw [← hX] at hc0
      rw [← hN] at hc1
      clear hX hN
      go_wp2_with fail
      have hb5 : Below wr.heap.size wr (wr.alloc (.cells #[.int .i64 X, .int .i64 N] 37)) := (Below.refl _ wr).alloc (Nat.le_refl _) _
      have HB5 := Lib.hid (HBr.out.trans (hb5.mono HBr.out.size))
      have HS5 := Lib.hid (HSr.out.below hb5)
      have hz : wr.heap.size < (wr.alloc (.cells #[.int .i64 X, .int .i64 N] 37)).heap.size := by simp
      have hv1 : (wr.alloc (.cells #[.int .i64 X, .int .i64 N] 37)).cell? ⟨wr.heap.size, 1, none⟩ = some (.int .i64 N) := cell_new _ _ _ _
      have hgr : g < wr.heap.size := HSr.out.lt
      clear hb5 hc0 hc1 HBr HSr
      generalize wr.alloc (.cells #[.int .i64 X, .int .i64 N] 37) = W5 at *
      refine (num_bad W5 g As3 cs3 L (0 + K) N HS5.out).mono ?_
      rintro e w6 ⟨rfl, hs6, ho6⟩
      have HB6 := Lib.hid (HB5.out.trans (below_of_only ho6 HGW.out HB5.out.size))
      have HS6 := Lib.hid hs6
      have hv6 : w6.cell? ⟨wr.heap.size, 1, none⟩ = some (.int .i64 N) := (World.cell?_of_block (a := ⟨wr.heap.size, 1, none⟩) (w := W5) (ho6.block wr.heap.size hz (by simp; omega))).trans hv1
      have hz6 : wr.heap.size < w6.heap.size := Nat.lt_of_lt_of_le hz ho6.size
      clear hs6 ho6 HB5 HS5 hv1 hz
      go_wp2_with fail
      refine (int_bad w6 g As3 cs3 L (0 + K) N HS6.out).mono ?_
      rintro e w7 ⟨rfl, hs7, ho7⟩
      have HB7 := Lib.hid (HB6.out.trans (below_of_only ho7 HGW.out HB6.out.size))
      have HS7 := Lib.hid hs7
      have hv7 : w7.cell? ⟨wr.heap.size, 1, none⟩ = some (.int .i64 N) := (World.cell?_of_block (a := ⟨wr.heap.size, 1, none⟩) (w := w6) (ho7.block wr.heap.size hz6 (by simp; omega))).trans hv6
      clear hs7 ho7 HB6 HS6 hv6 hz6
      go_wp2_with fail
      refine (bytes_bad w7 g As3 cs3 L (0 + K) N HS7.out).mono ?_
      rintro e w8 ⟨rfl, hs8, ho8⟩
      have HB8 := Lib.hid (HB7.out.trans (below_of_only ho8 HGW.out HB7.out.size))
      have HS8 := Lib.hid hs8
      clear hs8 ho8 HB7 HS7 hv7
      go_wp2_with fail
      refine (bad_any w8 g true HS8.out.c2).mono ?_
      rintro e w' ⟨rfl, rfl⟩
      go_wp2_with fail
      refine (place_any w8 g _ HS8.out.c1).mono ?_
      rintro e w' ⟨rfl, rfl⟩
      go_wp2_with fail
      refine (left_any w8 g _ _ _ HS8.out.c0).mono ?_
      rintro e w' ⟨rfl, rfl⟩
      go_wp2
      go_roundw
      case rel => exact ⟨k + 1, by omega, by go_num, HS8, HB8⟩
      case measure => simp [intOf]; omega
    · go_wp2
      go_ret
      exact ⟨rfl, HBr.out⟩

set_option maxHeartbeats 1000000 in
set_option maxRecDepth 100000 in
theorem walk_none (A B : Option Addr) (c d : Nat) (bs : List Int) (n : Int) (ps : List (Int × Int)) (w : World) (hs : Sl w A c bs) (ho : Oct bs) (hp : Pairs .i64 .i64 w B ps) (hl : bs.length ≤ 5000) (hk : ps.length ≤ 100) (hb0 : bs.length ≤ 0)
    (wn : -9223372036854775808 ≤ n ∧ n ≤ 9223372036854775807) :
    Calls Try.prog 9 #[.slice A bs.length c, .int .i64 n, .slice B ps.length d] w fun e w' => e = .returned (.bool true) ∧ Below w.heap.size w w' := by
  have d1 : decide ((5000 : Int) < (bs.length : Int)) = false := by simp; omega
  have d2 : decide ((100 : Int) < (ps.length : Int)) = false := by simp; omega
  have HS := Lib.hid hs
  have HO := Lib.hid ho
  have HP := Lib.hid hp
  clear hs ho hp
  go_enter Try.func9, Try.ntmps9
  go_wp2_with fail
  refine (wakes_any w).mono ?_
  rintro e w1 ⟨rfl, hb1⟩
  have HB1 := Lib.hid hb1
  clear hb1
  go_wp2_with fail
  refine (read_b A c bs w1 (HS.out.below HB1.out) HO.out (by omega)).mono ?_
  rintro e w2 ⟨g, As, cs, rfl, hs2, hg, hb2⟩
  have HGW := Lib.hid (Nat.le_trans HB1.out.size hg)
  have HB2 := Lib.hid (HB1.out.trans (hb2.mono HB1.out.size))
  have HS2 := Lib.hid hs2
  clear hs2 hb2 hg HB1
  go_wp2_with fail
  have hKl : 0 ≤ bs.length := Nat.zero_le _
  have HKL := Lib.hid hKl
  refine (bytes_yes w2 g As cs bs 0 0 HS2.out HKL.out).mono ?_
  rintro e w3 ⟨A3, c3, rfl, hn3, ⟨As3, cs3, hs3⟩, ho3⟩
  have HB3 := Lib.hid (HB2.out.trans (below_of_only ho3 HGW.out HB2.out.size))
  obtain ⟨L, eL⟩ : ∃ L, L = bs.drop 0 := ⟨_, rfl⟩
  rw [← eL] at hs3
  have hL1 : L.length + 0 ≤ bs.length := by rw [eL]; simp
  have hL2 : bs.length ≤ L.length + 0 := by rw [eL]; simp
  have HS3 := Lib.hid hs3
  clear hn3 hs3 ho3 eL HB2 HS2
  go_wp2_with fail
  refine (bad_any w3 g false HS3.out.c2).mono ?_
  rintro e w' ⟨rfl, rfl⟩
  go_wp2_with fail
  refine (bytes_no w3 g As3 cs3 L (0 + ((0 : Nat) : Int)) _ HS3.out (.inr (by omega))).mono ?_
  rintro e w4 ⟨rfl, hs4, ho4⟩
  have HB4 := Lib.hid (HB3.out.trans (below_of_only ho4 HGW.out HB3.out.size))
  have HS4 := Lib.hid hs4
  clear hs4 ho4 HB3 HS3
  go_wp2_with fail
  refine (bad_any w4 g true HS4.out.c2).mono ?_
  rintro e w' ⟨rfl, rfl⟩
  go_wp2_with fail
  go_loopw [60] (fun i wr => ∃ k : Nat, k ≤ ps.length ∧ i = .int .i64 k ∧ Hid (Sc wr g As3 cs3 L (0 + ((0 : Nat) : Int)) true) ∧ Hid (Below w.heap.size w wr)) (fun i _ => ps.length - (intOf i).toNat)
  case atStart => exact ⟨0, Nat.zero_le _, rfl, HS4, HB4⟩
  case round =>
    clear HS4 HB4
    obtain ⟨k, hkl, rfl, HSr, HBr⟩ := hrel
    by_cases hlt : k < ps.length
    · obtain ⟨b, o, rfl, hbl, hcell⟩ := (HP.out.below HBr.out) (by omega)
      obtain ⟨hc0, hc1, _, _⟩ := hcell k hlt
      clear hcell
      obtain ⟨X, hX⟩ : ∃ X, X = (ps.getD k (0, 0)).1 := ⟨_, rfl⟩
      obtain ⟨N, hN⟩ : ∃ N, N = (ps.getD k (0, 0)).2 := ⟨_, rfl⟩
      rw [← hX] at hc0
      rw [← hN] at hc1
      clear hX hN
      go_wp2_with fail
      have hb5 : Below wr.heap.size wr (wr.alloc (.cells #[.int .i64 X, .int .i64 N] 37)) := (Below.refl _ wr).alloc (Nat.le_refl _) _
      have HB5 := Lib.hid (HBr.out.trans (hb5.mono HBr.out.size))
      have HS5 := Lib.hid (HSr.out.below hb5)
      have hz : wr.heap.size < (wr.alloc (.cells #[.int .i64 X, .int .i64 N] 37)).heap.size := by simp
      have hv1 : (wr.alloc (.cells #[.int .i64 X, .int .i64 N] 37)).cell? ⟨wr.heap.size, 1, none⟩ = some (.int .i64 N) := cell_new _ _ _ _
      have hgr : g < wr.heap.size := HSr.out.lt
      clear hb5 hc0 hc1 HBr HSr
      generalize wr.alloc (.cells #[.int .i64 X, .int .i64 N] 37) = W5 at *
      refine (num_bad W5 g As3 cs3 L (0 + ((0 : Nat) : Int)) N HS5.out).mono ?_
      rintro e w6 ⟨rfl, hs6, ho6⟩
      have HB6 := Lib.hid (HB5.out.trans (below_of_only ho6 HGW.out HB5.out.size))
      have HS6 := Lib.hid hs6
      have hv6 : w6.cell? ⟨wr.heap.size, 1, none⟩ = some (.int .i64 N) := (World.cell?_of_block (a := ⟨wr.heap.size, 1, none⟩) (w := W5) (ho6.block wr.heap.size hz (by simp; omega))).trans hv1
      have hz6 : wr.heap.size < w6.heap.size := Nat.lt_of_lt_of_le hz ho6.size
      clear hs6 ho6 HB5 HS5 hv1 hz
      go_wp2_with fail
      refine (int_bad w6 g As3 cs3 L (0 + ((0 : Nat) : Int)) N HS6.out).mono ?_
      rintro e w7 ⟨rfl, hs7, ho7⟩
      have HB7 := Lib.hid (HB6.out.trans (below_of_only ho7 HGW.out HB6.out.size))
      have HS7 := Lib.hid hs7
      have hv7 : w7.cell? ⟨wr.heap.size, 1, none⟩ = some (.int .i64 N) := (World.cell?_of_block (a := ⟨wr.heap.size, 1, none⟩) (w := w6) (ho7.block wr.heap.size hz6 (by simp; omega))).trans hv6
      clear hs7 ho7 HB6 HS6 hv6 hz6
      go_wp2_with fail
      refine (bytes_bad w7 g As3 cs3 L (0 + ((0 : Nat) : Int)) N HS7.out).mono ?_
      rintro e w8 ⟨rfl, hs8, ho8⟩
      have HB8 := Lib.hid (HB7.out.trans (below_of_only ho8 HGW.out HB7.out.size))
      have HS8 := Lib.hid hs8
      clear hs8 ho8 HB7 HS7 hv7
      go_wp2_with fail
      refine (bad_any w8 g true HS8.out.c2).mono ?_
      rintro e w' ⟨rfl, rfl⟩
      go_wp2_with fail
      refine (place_any w8 g _ HS8.out.c1).mono ?_
      rintro e w' ⟨rfl, rfl⟩
      go_wp2_with fail
      refine (left_any w8 g _ _ _ HS8.out.c0).mono ?_
      rintro e w' ⟨rfl, rfl⟩
      go_wp2
      go_roundw
      case rel => exact ⟨k + 1, by omega, by go_num, HS8, HB8⟩
      case measure => simp [intOf]; omega
    · go_wp2
      go_ret
      exact ⟨rfl, HBr.out⟩

theorem walk {w : World} (A : Option Addr) (c : Nat) (bs : List Int) (hs : Sl w A c bs) (ho : Oct bs) (n : Int) (wn : (Lit.int .i64 n).wf = true) (B : Option Addr) (d : Nat) (ps : List (Int × Int)) (hp : Pairs .i64 .i64 w B ps) :
    Calls Try.prog 9 #[.slice A bs.length c, .int .i64 n, .slice B ps.length d] w fun e w' => e = .returned (.bool true) ∧ Below w.heap.size w w' := by
  by_cases h : 5000 < bs.length ∨ 100 < ps.length
  · exact walk_out A B _ c _ d n w h
  · have hn := bounds_i64 wn
    by_cases h0 : 0 < bs.length
    · exact walk_some A B c d bs n ps w hs ho hp (by omega) (by omega) h0 (by omega)
    · exact walk_none A B c d bs n ps w hs ho hp (by omega) (by omega) (by omega) (by omega)

set_option maxRecDepth 100000 in
theorem lifted (os : Os) (started : os.Started) (H : Type) (enc : TypeId × Value → H) :
    ReturnsInHanded {} Try.checked os 9 .any (Rows.fieldBadSpec.pre6 enc Try.prog Try.f9 Rows.fieldBadRow.domain false) (Rows.fieldBadSpec.post enc Try.prog Try.f9 false true false false) := by
  refine returnsInHanded_of_change (C := Try.checked) Try.own started (by kernel_rfl) Try.func9
    (ChangeSpec.witness6 (enc := enc) (C := Try.checked) false ⟨#[], #[.slice none 0 0, .int .i64 0, .slice none 0 0], []⟩ 8 (by kernel_rfl) (by kernel_rfl) (by kernel_rfl) (by kernel_rfl)) ?_
  intro W base args ds gs before hval0 hW hcnd _
  have hval : ∀ (j : Nat) t v, Try.f9.params[j]? = some t → args[j]? = some v → Value.okWide Try.prog W .any base t v := hval0
  have hW' := hW
  obtain ⟨p, q, hA0, hV, rfl, hfz, hnd⟩ := hW
  have hA : DataW.TrodAll enc Try.prog W 0 (fun _ => true) true Try.f9.params.toList args.toList ds p := hA0
  rw [Try.params9] at hA hval
  have hA' := hA
  obtain ⟨v0, vs0, d0, ds0, p0, q0, hargs, rfl, rfl, h0, r0⟩ := trodAll_cons hA
  obtain ⟨v1, vs1, d1, ds1, p1, q1, rfl, rfl, rfl, h1, r1⟩ := trodAll_cons r0
  obtain ⟨v2, vs2, d2, ds2, p2, q2, rfl, rfl, rfl, h2, r2⟩ := trodAll_cons r1
  obtain ⟨rfl, rfl, rfl⟩ := trodAll_nil r2
  obtain rfl : args = #[v0, v1, v2] := by cases args; simp_all
  obtain ⟨rfl, rfl⟩ := trodVars_none hV
  obtain ⟨A0, len0, c0, rfl⟩ := okWide_slice Try.underlying22 (hval 0 22 v0 rfl rfl)
  obtain ⟨z0, rfl, sl0, oc0⟩ := open_bytes h0
  obtain ⟨a1, rfl, rfl, rfl, w1⟩ := open_int Try.underlying3 (hval 1 3 v1 rfl rfl) h1
  obtain ⟨A2, len2, c2, rfl⟩ := okWide_slice Try.underlying31 (hval 2 31 v2 rfl rfl)
  obtain ⟨z2, rfl, sl2⟩ := open_asks h2
  clear hA0 hval0
  refine (walk A0 c0 z0 sl0 oc0 a1 w1 A2 c2 z2 sl2).mono fun e W' ⟨he, bel⟩ => ?_
  subst he
  exact ⟨_, rfl, _, _, _, [], _, [], hW', trodAll_mk1 (shut_bool Try.underlying4 _), trodAll_below bel _ _ _ _ (by kernel_rfl) hA', rfl, bel.frame _, fun h => by cases h⟩

theorem proved : Rows.FieldBadSaid :=
  OpenClaim.holds_of_wide 9 Try.f9 rfl rfl rfl rfl rfl rfl rfl ⟨rfl, rfl, rfl, rfl, rfl⟩ rfl rfl rfl rfl rfl (by kernel_rfl) Try.func9 (by kernel_rfl)
    (of_decide_eq_true (by kernel_rfl)) (by unfold Func.isWrapper; first | (rw [if_pos (by decide +kernel)]; kernel_rfl) | (rw [if_neg (by decide +kernel)]; exact ⟨rfl, rfl⟩))
    (fun os started H enc _ => lifted os started H enc)
#print axioms proved
end Go.Proofs.Ytnpmdbcijaanjaa.fieldBad
