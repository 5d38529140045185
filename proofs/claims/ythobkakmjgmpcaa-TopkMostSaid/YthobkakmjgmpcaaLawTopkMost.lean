/-
  Proved: the law TopkMost, as many hits as there may be and one more, returns true for every two numbers, and leaves all memory as it was. No condition.
-/
import Derived.Test.YthobkakmjgmpcaaTopNum
import Derived.Test.YthobkakmjgmpcaaLawFrame
namespace Go.Proofs.Ythobkakmjgmpcaa.topkMost
open Go.ChangeShapes Go.WideShapes Go.ChangeAt Go.RowKit
set_option linter.unusedVariables false
set_option linter.unusedSimpArgs false
set_option maxRecDepth 100000

/-- The hits that the law lays: from the furthest on. -/
def manyM (N : Nat) : List HitM := (List.range N).map fun (i : Nat) => (((i : Int), (N : Int) - i) : HitM)
theorem many_length (N : Nat) : (manyM N).length = N := by simp [manyM]
theorem many_get (N i : Nat) (h : i < N) : (manyM N)[i]? = some ((i : Int), (N : Int) - i) := by simp [manyM, h]
theorem many_step (N j r : Nat) (h : j + r + 1 = N) : (((manyM N).take j) ++ List.replicate (r + 1) z2).set j ((j : Int), (N : Int) - j) = (manyM N).take (j + 1) ++ List.replicate r z2 := by
  have hl : ((manyM N).take j).length = j := by rw [List.length_take, many_length]; omega
  rw [List.take_add_one, many_get N j (by omega), List.set_append_right _ _ (by omega), hl, Nat.sub_self, List.replicate_succ, List.append_assoc]
  rfl
theorem many_first (N k : Nat) (hN : 0 < N) (hk : 1 ≤ k) : ((firstM k (manyM N)).getD 0 z2).1 = (N : Int) - 1 := by
  have hl : (firstM k (manyM N)).length = min k N := by rw [first_length, many_length]
  have h0 : 0 < (firstM k (manyM N)).length := by omega
  have hm := first_mem (getD_mem2 h0)
  obtain ⟨i, hi, e⟩ := mem_getD2 hm
  rw [many_length] at hi
  have e2 : (manyM N).getD i z2 = ((i : Int), (N : Int) - i) := by rw [List.getD_eq_getElem?_getD, many_get N i hi]; rfl
  have hs := sort_srt (manyM N)
  have hg : (firstM k (manyM N)).getD 0 z2 = (sortM (manyM N)).getD 0 z2 := by
    unfold firstM
    simp [List.getD, List.getElem?_take, show 0 < k by omega]
  have hx : (((N - 1 : Nat) : Int), (N : Int) - ((N - 1 : Nat) : Int)) ∈ sortM (manyM N) := (sort_perm _).mem_iff.2 (List.mem_of_getElem? (many_get N (N - 1) (by omega)))
  obtain ⟨m, hml, hme⟩ := mem_getD2 hx
  have hle : ahead ((sortM (manyM N)).getD m z2) ((sortM (manyM N)).getD 0 z2) = false := by
    rcases Nat.eq_zero_or_pos m with rfl | hp
    · exact ahead_irrefl _
    · exact srt_get hs hp hml
  rw [hme, ← hg, ← e, e2, ahead_not] at hle
  rw [← e, e2]
  dsimp only at hle ⊢
  omega

theorem parity (m : Int) : ∃ r : Nat, r ≤ 1 ∧ wrap64 (2000 + (wrap64 (m.tmod 2 + 2)).tmod 2) = ((2000 + r : Nat) : Int) := by
  have h1 : -2 < m.tmod 2 ∧ m.tmod 2 < 2 := tmod_in m 2 (by omega)
  have e1 : wrap64 (m.tmod 2 + 2) = m.tmod 2 + 2 := wrap64_fit (by omega)
  rw [e1]
  have h2 : -2 < (m.tmod 2 + 2).tmod 2 ∧ (m.tmod 2 + 2).tmod 2 < 2 := tmod_in (m.tmod 2 + 2) 2 (by omega)
  have h3 := Int.tmod_nonneg (2 : Int) (a := m.tmod 2 + 2) (by omega)
  have e2 : wrap64 (2000 + (m.tmod 2 + 2).tmod 2) = 2000 + (m.tmod 2 + 2).tmod 2 := wrap64_fit (by omega)
  rw [e2]
  exact ⟨((m.tmod 2 + 2).tmod 2).toNat, by omega, by omega⟩

set_option maxHeartbeats 4000000 in
theorem walk {w : World} (more : Int) (wm : (Lit.int .i64 more).wf = true) (k : Int) (wk : (Lit.int .i64 k).wf = true) :
    Calls Try.prog 7 #[.int .i64 more, .int .i64 k] w fun e w' => e = .returned (.bool true) ∧ Below w.heap.size w w' := by
  obtain ⟨kk, hk1, hk16, hkk⟩ := kmod k
  obtain ⟨rr, hrr, hN0⟩ := parity more
  obtain ⟨N, hN⟩ : ∃ N, N = 2000 + rr := ⟨_, rfl⟩
  rw [← hN] at hN0
  have hNb : N ≤ 2001 := by omega
  have hNa : 2000 ≤ N := by omega
  have HN0 := Lib.hid hN0
  clear hN hrr
  have HIK := Lib.hid (show isKM (kk : Int) = true from (isK_iff _).2 ⟨by omega, by omega⟩)
  obtain ⟨i0, hi, hz0, hz1, hz2⟩ := info_hit
  clear wm wk
  go_enter Try.func7, Try.ntmps7
  go_wp2_with fail
  refine (wakes_any w).mono ?_
  rintro e w1 ⟨rfl, hb1⟩
  have HB1 := Lib.hid hb1
  clear hb1
  go_wp2_with (refine wpList_make_full _ rfl _ _ _ rfl w1.heap.size 32 i0 _ 2 Try.underlying22 hi hz0 hz1 .i64 .i64 _ _ N rfl rfl HN0.out HN0.out (by rw [hz2]; omega) (by unfold maxLen; omega) (Nat.le_refl _) ?_; intro w2 hr2 hg2; have HR2 := Lib.hid hr2; have HG2 := Lib.hid hg2; clear hr2 hg2)
  have HL0 := Lib.hid (show w2.ownsRow w1.heap.size 32 2 (.slice (some ⟨w1.heap.size, 0, none⟩) N N) N (flat ((manyM N).take 0 ++ List.replicate N z2)) ∧ Below w1.heap.size w1 w2 from ⟨by rw [List.take_zero, List.nil_append, ← made_flat]; exact HR2.out, (Turn.of_grown (S := fun _ => False) HG2.out (by simp)).below (Nat.le_refl _) (by simp)⟩)
  generalize hg : w1.heap.size = g at *
  have HG := Lib.hid hg
  clear hg
  go_loopw [6, 23] (fun _ i wr => ∃ j : Nat, j ≤ N ∧ i = .int .i64 j ∧ Hid (wr.ownsRow g 32 2 (.slice (some ⟨g, 0, none⟩) N N) N (flat ((manyM N).take j ++ List.replicate (N - j) z2)) ∧ Below g w1 wr)) (fun _ i _ => N - (intOf i).toNat)
  case atStart => exact ⟨0, Nat.zero_le _, rfl, HL0⟩
  case round =>
    obtain ⟨j, hj, rfl, HJ⟩ := hrel
    by_cases hjN : j < N
    · obtain ⟨r, hr⟩ : ∃ r, j + r + 1 = N := ⟨N - 1 - j, by omega⟩
      have hrow := HJ.out.1
      rw [show N - j = r + 1 by omega] at hrow
      have hlj : ((manyM N).take j ++ List.replicate (r + 1) z2).length = N := by
        rw [List.length_append, List.length_take, many_length, List.length_replicate]; omega
      have hrow2 : wr.ownsRow g 32 2 (.slice (some ⟨g, 0, none⟩) ((manyM N).take j ++ List.replicate (r + 1) z2).length N) ((manyM N).take j ++ List.replicate (r + 1) z2).length (flat ((manyM N).take j ++ List.replicate (r + 1) z2)) := by rw [hlj]; exact hrow
      have hst := row_set hrow2 j ((j : Int), (N : Int) - j)
      rw [many_step N j r hr] at hst
      have hlj2 : ((manyM N).take (j + 1) ++ List.replicate r z2).length = N := by
        rw [List.length_append, List.length_take, many_length, List.length_replicate]; omega
      rw [hlj2] at hst
      have hgj := flat_get ((manyM N).take j ++ List.replicate (r + 1) z2) j (by omega)
      have u1 := (hrow2.cellAt (j * 2) (by omega)).trans hgj.1
      have u2 := (hrow2.cellAt (j * 2 + 1) (by omega)).trans hgj.2
      have f1 := hrow2.frozenAt (j * 2)
      have f2 := hrow2.frozenAt (j * 2 + 1)
      have HS := Lib.hid (And.intro hst.1 (HJ.out.2.trans (grown_below hst.2 (Nat.le_refl g) (by have := HJ.out.2.size; have := HG.out; omega))))
      rw [show r = N - (j + 1) by omega] at HS
      generalize ((manyM N).take j ++ List.replicate (r + 1) z2).getD j z2 = y at *
      obtain ⟨ya, yb⟩ := y
      dsimp only at *
      have hw1 : IntKind.u64.wrap (j : Int) = j := by rw [IntKind.wrap_u64]; omega
      have hw2 : IntKind.u64.wrap ((N : Int) - j) = (N : Int) - j := by rw [IntKind.wrap_u64]; omega
      have hw3 : IntKind.i64.wrap ((N : Int) - j) = (N : Int) - j := i64_fit (by omega)
      have j0 : (0 : Int) ≤ j := by omega
      have jN : (j : Int) < N := by omega
      clear hrow hrow2 hst hgj hlj hlj2 hr
      go_wp2
      go_roundw
      case rel => exact ⟨j + 1, by omega, by go_num, HS⟩
      case measure => simp [intOf]; omega
    · obtain rfl : j = N := by omega
      have hrow := HJ.out.1
      rw [Nat.sub_self, List.replicate_zero, List.append_nil, List.take_of_length_le (by rw [many_length]; exact Nat.le_refl _)] at hrow
      have hH : Hits wr (some ⟨g, 0, none⟩) j (manyM j) := Hits.ofRow (l := manyM j) (by rw [many_length]; exact hrow)
      have hml := many_length j
      have h5 : ((manyM j).take 5).length = 5 := by rw [List.length_take, hml]; omega
      have hd5 : ((manyM j).drop 5).length = j - 5 := by rw [List.length_drop, hml]
      have HWB := Lib.hid (HB1.out.trans (HJ.out.2.mono (by have := HG.out; omega) |>.mono HB1.out.size))
      have HF1 := Lib.hid (first_any kk (some ⟨g, 0, none⟩) j (manyM j) wr hH (by omega))
      have HT5 := Lib.hid (fun (V : World) (hV : Below wr.heap.size wr V) => (hH.below hV).take (n := 5) (c' := j) (by omega) (by omega))
      have HD5 := Lib.hid (fun (V : World) (hV : Below wr.heap.size wr V) => show Hits V (some ⟨g, 10, none⟩) (j - 5) ((manyM j).drop 5) from (hH.below hV).drop (t := 5))
      have hsum : sumL [(manyM j).take 5, (manyM j).drop 5] = j := by simp [sumL, hml]
      have hfl : [(manyM j).take 5, (manyM j).drop 5].flatten = manyM j := by simp
      have HMG := Lib.hid (fun (V : World) (hV : Below wr.heap.size wr V) => show Calls Try.prog 16 #[.int .i64 kk, .slice (some ⟨V.heap.size, 0, none⟩) 2 2] (V.alloc (.cells #[.slice (some ⟨g, 0, none⟩) 5 j, .slice (some ⟨g, 10, none⟩) (j - 5) (j - 5)] 22)) (fun e w' => Ans (V.alloc (.cells #[.slice (some ⟨g, 0, none⟩) 5 j, .slice (some ⟨g, 10, none⟩) (j - 5) (j - 5)] 22)) e w' (mergeL kk [(manyM j).take 5, (manyM j).drop 5]) (mergeE kk [(manyM j).take 5, (manyM j).drop 5])) from merge_any kk (some ⟨V.heap.size, 0, none⟩) 2 [(manyM j).take 5, (manyM j).drop 5] (V.alloc (.cells #[.slice (some ⟨g, 0, none⟩) 5 j, .slice (some ⟨g, 10, none⟩) (j - 5) (j - 5)] 22))
        (rows_two (by rw [h5]; exact cell_laid _ _ _ 0) (by rw [hd5]; exact cell_laid _ _ _ 1) ((HT5.out V hV).below ((Below.refl _ V).alloc (Nat.le_refl _) _)) ((HD5.out V hV).below ((Below.refl _ V).alloc (Nat.le_refl _) _))) (by rw [hsum]; omega))
      have HOF := Lib.hid (fun (V : World) (hV : Below wr.heap.size wr V) => offer_any kk none (some ⟨g, 0, none⟩) 0 j [] (manyM j) V (Hits.nil V) (hH.below hV) (by rw [hml]; omega))
      have htop : topB kk [] = true := by unfold topB; rw [HIK.out]; simp [srtB]
      rw [hml] at HF1 HOF
      have j5 : (5 : Int) ≤ j := by omega
      have j5n : ¬ j = 5 := by omega
      have j5m : 5 ≤ j := by omega
      by_cases hlong : 2000 < j
      · obtain ⟨a1, a2⟩ := merge_long (k := kk) (ls := [manyM j]) HIK.out (by rw [sumL_one, hml]; exact hlong)
        obtain ⟨b1, b2⟩ := merge_long (k := kk) (ls := [(manyM j).take 5, (manyM j).drop 5]) HIK.out (by rw [hsum]; exact hlong)
        obtain ⟨o1, o2, o3⟩ := off_long (k := kk) (t := []) (l := manyM j) htop (by rw [hml]; exact hlong)
        rw [a1, a2] at HF1
        rw [b1, b2] at HMG
        rw [o1, o2, o3] at HOF
        have t1 : decide ((2000 : Int) < (j : Int)) = true := by simp; omega
        clear a1 a2 b1 b2 o1 o2 o3 hrow hH h5 hd5 hsum hfl htop hml hlong
        go_wp2_with fail
        refine HF1.out.mono ?_
        rintro e w3 ⟨B3, c3, rfl, hr3, hb3⟩
        have HB3 := Lib.hid hb3
        clear hr3 hb3
        have hbm := HMG.out w3 HB3.out
        go_wp2
        have HB0 := Lib.hid (show Below wr.heap.size wr w3.drew from below_drew HB3.out)
        have HMD := Lib.hid (HMG.out w3.drew HB0.out)
        clear hbm
        go_region_held3 (fun _ => True) (first | exact trivial) (first
          | (go_at_call 16; refine HMD.out.mono ?_; rintro e w4 ⟨B4, c4, rfl, hr4, hb4⟩; have HB4 := Lib.hid (HB0.out.trans ((((Below.refl _ w3.drew).alloc (Nat.le_refl _) (.cells #[.slice (some ⟨g, 0, none⟩) 5 j, .slice (some ⟨g, 10, none⟩) (j - 5) (j - 5)] 22)).trans (hb4.mono (by rw [World.size_alloc]; omega))).mono HB0.out.size)); have HR4 := Lib.hid (Hits.ofRow hr4); have HB34 := Lib.hid (show Below w3.heap.size w3 w4 from (below_drew (Below.refl _ w3)).trans ((((Below.refl _ w3.drew).alloc (Nat.le_refl _) (.cells #[.slice (some ⟨g, 0, none⟩) 5 j, .slice (some ⟨g, 10, none⟩) (j - 5) (j - 5)] 22)).trans (hb4.mono (by rw [World.size_alloc]; omega))))); clear hr4 hb4))
        have HO4 := Lib.hid (HOF.out w4 HB4.out)
        go_wp2_with fail
        refine HO4.out.mono ?_
        rintro e w5 ⟨B5, c5, rfl, hr5, hb5⟩
        have HB5 := Lib.hid (HWB.out.trans (((HB4.out.trans (hb5.mono HB4.out.size))).mono HWB.out.size))
        have HB6 := Lib.hid (HB5.out.alloc HB5.out.size (.cells #[.int .i64 0, .slice B5 0 c5] 38))
        clear hr5 hb5
        go_wp2
        go_ret
        exact ⟨rfl, HB6.out⟩
      · obtain ⟨a1, a2⟩ := merge_ok (k := kk) (ls := [manyM j]) HIK.out (by rw [sumL_one, hml]; exact hlong)
        obtain ⟨b1, b2⟩ := merge_ok (k := kk) (ls := [(manyM j).take 5, (manyM j).drop 5]) HIK.out (by rw [hsum]; exact hlong)
        obtain ⟨o1, o2, o3⟩ := off_ok (k := kk) (t := []) (l := manyM j) htop (by rw [hml]; exact hlong)
        rw [Int.toNat_natCast, List.flatten_singleton] at a2
        rw [Int.toNat_natCast, hfl] at b2
        rw [Int.toNat_natCast, List.nil_append] at o2
        rw [a1, a2] at HF1
        rw [b1, b2] at HMG
        rw [o1, o2, o3] at HOF
        have t1 : decide ((2000 : Int) < (j : Int)) = false := by simp; omega
        have HYL := Lib.hid (show (firstM kk (manyM j)).length = kk by rw [first_length, hml]; omega)
        have HY0 := Lib.hid (many_first j kk (by omega) hk1)
        generalize firstM kk (manyM j) = Y at *
        clear a1 a2 b1 b2 o1 o2 o3 hrow hH h5 hd5 hsum hfl htop hml hlong
        go_wp2_with fail
        refine HF1.out.mono ?_
        rintro e w3 ⟨B3, c3, rfl, hr3, hb3⟩
        have HB3 := Lib.hid hb3
        have HY3 := Lib.hid (Hits.ofRow hr3)
        clear hr3 hb3
        have hbm := HMG.out w3 HB3.out
        go_wp2
        have HB0 := Lib.hid (show Below wr.heap.size wr w3.drew from below_drew HB3.out)
        have HMD := Lib.hid (HMG.out w3.drew HB0.out)
        clear hbm
        go_region_held3 (fun _ => True) (first | exact trivial) (first
          | (go_at_call 16; refine HMD.out.mono ?_; rintro e w4 ⟨B4, c4, rfl, hr4, hb4⟩; have HB4 := Lib.hid (HB0.out.trans ((((Below.refl _ w3.drew).alloc (Nat.le_refl _) (.cells #[.slice (some ⟨g, 0, none⟩) 5 j, .slice (some ⟨g, 10, none⟩) (j - 5) (j - 5)] 22)).trans (hb4.mono (by rw [World.size_alloc]; omega))).mono HB0.out.size)); have HR4 := Lib.hid (Hits.ofRow hr4); have HB34 := Lib.hid (show Below w3.heap.size w3 w4 from (below_drew (Below.refl _ w3)).trans ((((Below.refl _ w3.drew).alloc (Nat.le_refl _) (.cells #[.slice (some ⟨g, 0, none⟩) 5 j, .slice (some ⟨g, 10, none⟩) (j - 5) (j - 5)] 22)).trans (hb4.mono (by rw [World.size_alloc]; omega))))); clear hr4 hb4))
        have HO4 := Lib.hid (HOF.out w4 HB4.out)
        go_wp2_with fail
        refine HO4.out.mono ?_
        rintro e w5 ⟨B5, c5, rfl, hr5, hb5⟩
        have HB35 := Lib.hid (HB34.out.trans (hb5.mono HB34.out.size))
        have HB5 := Lib.hid (HWB.out.trans (((HB4.out.trans (hb5.mono HB4.out.size))).mono HWB.out.size))
        obtain ⟨W6, hW6⟩ : ∃ W6, W6 = w5.alloc (.cells #[.int .i64 kk, .slice B5 Y.length c5] 38) := ⟨_, rfl⟩
        have hb56 : Below w5.heap.size w5 W6 := by rw [hW6]; exact (Below.refl _ w5).alloc (Nat.le_refl _) _
        have x6 : W6.heap[w5.heap.size]? = some (.cells #[.int .i64 kk, .slice B5 Y.length c5] 38 (0, 0)) := by rw [hW6]; exact heap_alloc_new _ _
        have HY6 := Lib.hid (And.intro (HY3.out.below (HB35.out.trans (hb56.mono HB35.out.size))) (And.intro ((HR4.out.below hb5).below hb56) ((Hits.ofRow hr5).below hb56)))
        have HB6 := Lib.hid (HB5.out.trans (hb56.mono HB5.out.size))
        have HS1 := Lib.hid (rSame_yes B3 B4 c3 c4 Y W6 HY6.out.1 HY6.out.2.1)
        have HS2 := Lib.hid (fun (V : World) (hV : Below W6.heap.size W6 V) => rSame_yes B3 B5 c3 c5 Y V (HY6.out.1.below hV) (HY6.out.2.2.below hV))
        have HX6 := Lib.hid x6
        have HW6 := Lib.hid hW6
        obtain ⟨b3, o3, rfl, hb3l, y0, _⟩ := HY6.out.1.at_ (j := 0) (by rw [HYL.out]; omega)
        rw [HY0.out] at y0
        simp only [Nat.zero_mul, Nat.add_zero] at y0
        rw [HYL.out] at *
        have z0 : (w5.alloc (.cells #[.int .i64 kk, .slice B5 kk c5] 38)).cell? ⟨b3, o3, none⟩ = some (.int .u64 ((j : Int) - 1)) := by rw [← HW6.out]; exact y0
        have hwj : IntKind.u64.wrap (j : Int) = j := by rw [IntKind.wrap_u64]; omega
        have hwj1 : IntKind.u64.wrap ((j : Int) - 1) = (j : Int) - 1 := by rw [IntKind.wrap_u64]; omega
        have kk0 : (0 : Int) < kk := by omega
        clear hr5 hb5 hW6 hb56 x6 y0
        go_wp2_with fail
        rw [← HW6.out]
        refine HS1.out.mono ?_
        rintro e w7 ⟨rfl, hb7⟩
        have HB7 := Lib.hid (HB6.out.trans (hb7.mono HB6.out.size))
        have HS7 := Lib.hid (HS2.out w7 hb7)
        have x7 : w7.heap[w5.heap.size]? = some (.cells #[.int .i64 kk, .slice B5 kk c5] 38 (0, 0)) := (hb7.block _ (lt_of_block HX6.out)).trans HX6.out
        have q7 : w7.cell? ⟨w5.heap.size, 1, none⟩ = some (.slice B5 kk c5) := (cell_of_row _ _ _ _ _ _ x7).trans rfl
        clear hb7 x7 z0
        go_wp2_with fail
        refine HS7.out.mono ?_
        rintro e w8 ⟨rfl, hb8⟩
        have HB8 := Lib.hid (HB7.out.trans (hb8.mono HB7.out.size))
        clear hb8
        go_wp2
        go_ret
        exact ⟨rfl, HB8.out⟩

set_option maxRecDepth 100000 in
theorem lifted (os : Os) (started : os.Started) (H : Type) (enc : TypeId × Value → H) :
    ReturnsInHanded {} Try.checked os 7 .any (Rows.topkMostSpec.pre6 enc Try.prog Try.f7 Rows.topkMostRow.domain false) (Rows.topkMostSpec.post enc Try.prog Try.f7 false true false false) := by
  refine returnsInHanded_of_change (C := Try.checked) Try.own started (by kernel_rfl) Try.func7
    (ChangeSpec.witness6 (enc := enc) (C := Try.checked) false ⟨#[], #[.int .i64 0, .int .i64 0], []⟩ 8 (by kernel_rfl) (by kernel_rfl) (by kernel_rfl) (by kernel_rfl)) ?_
  intro W base args ds gs before hval0 hW hcnd _
  have hval : ∀ (j : Nat) t v, Try.f7.params[j]? = some t → args[j]? = some v → Value.okWide Try.prog W .any base t v := hval0
  have hW' := hW
  obtain ⟨p, q, hA0, hV, rfl, hfz, hnd⟩ := hW
  have hA : DataW.TrodAll enc Try.prog W 0 (fun _ => true) true Try.f7.params.toList args.toList ds p := hA0
  rw [Try.params7] at hA hval
  have hA' := hA
  obtain ⟨v0, vs0, d0, ds0, p0, q0, hargs, rfl, rfl, h0, r0⟩ := trodAll_cons hA
  obtain ⟨v1, vs1, d1, ds1, p1, q1, rfl, rfl, rfl, h1, r1⟩ := trodAll_cons r0
  obtain ⟨rfl, rfl, rfl⟩ := trodAll_nil r1
  obtain rfl : args = #[v0, v1] := by cases args; simp_all
  obtain ⟨rfl, rfl⟩ := trodVars_none hV
  obtain ⟨a0, rfl, w0⟩ := open_num (hval 0 3 v0 rfl rfl) h0
  obtain ⟨a1, rfl, w1⟩ := open_num (hval 1 3 v1 rfl rfl) h1
  clear hA0 hval0
  refine (walk a0 w0 a1 w1).mono fun e W' ⟨he, bel⟩ => ?_
  subst he
  exact ⟨_, rfl, _, _, _, [], _, [], hW', trodAll_mk1 (shut_bool Try.underlying4 _), trodAll_below bel _ _ _ _ (by kernel_rfl) hA', rfl, bel.frame _, fun h => by cases h⟩

theorem proved : Rows.TopkMostSaid :=
  OpenClaim.holds_of_wide 7 Try.f7 rfl rfl rfl rfl rfl rfl rfl ⟨rfl, rfl, rfl, rfl, rfl⟩ rfl rfl rfl rfl rfl (by kernel_rfl) Try.func7 (by kernel_rfl)
    (of_decide_eq_true (by kernel_rfl)) (by unfold Func.isWrapper; first | (rw [if_pos (by decide +kernel)]; kernel_rfl) | (rw [if_neg (by decide +kernel)]; exact ⟨rfl, rfl⟩))
    (fun os started H enc _ => lifted os started H enc)
#print axioms proved
end Go.Proofs.Ythobkakmjgmpcaa.topkMost
