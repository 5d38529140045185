/-
  Proved: the law TopkLeft, who is left out stands ahead of nobody who is in, returns true for every number and row of hits, and leaves all memory as it was. No condition.
-/
import Derived.Test.YthobkakmjgmpcaaTopFit
import Derived.Test.YthobkakmjgmpcaaTopRef2
import Derived.Test.YthobkakmjgmpcaaTopNum
import Derived.Test.YthobkakmjgmpcaaLawFrame
namespace Go.Proofs.Ythobkakmjgmpcaa.topkLeft
open Go.ChangeShapes Go.WideShapes Go.ChangeAt Go.RowKit Go.Maps Go.Deep
set_option linter.unusedVariables false
set_option linter.unusedSimpArgs false
set_option maxRecDepth 100000

theorem keepS {W W' : World} {b o : Nat} {v : Value} (h : W.cell? ⟨b, o, none⟩ = some v) (hb : Below W.heap.size W W') : W'.cell? ⟨b, o, none⟩ = some v := (hb.cell (p := ⟨b, o, none⟩) (World.block_lt_of_cell? W _ h)).trans h

set_option maxHeartbeats 8000000 in
theorem walk {w : World} (k : Int) (wk : (Lit.int .i64 k).wf = true) (A : Option Addr) (c : Nat) (l : List HitM) (hl : Hits w A c l) (hfit : ∀ x ∈ l, wfH x) :
    Calls Try.prog 9 #[.int .i64 k, .slice A l.length c] w fun e w' => e = .returned (.bool true) ∧ Below w.heap.size w w' := by
  have HO := Lib.hid (fun (V : World) (hV : Below w.heap.size w V) => own_lit A c 200 200 rfl l V (hl.below hV) (by omega))
  obtain ⟨X, hX⟩ : ∃ X, X = l.take 200 := ⟨_, rfl⟩
  have HXL := Lib.hid (show X.length ≤ 200 by rw [hX, List.length_take]; omega)
  have HXF := Lib.hid (show ∀ x ∈ X, wfH x from fun x hx => hfit x (by rw [hX] at hx; exact List.mem_of_mem_take hx))
  rw [← hX] at HO
  generalize l.length = n at *
  obtain ⟨kk, hk1, hk16, hkk⟩ := kmod k
  have HIK := Lib.hid (show isKM (kk : Int) = true from (isK_iff _).2 ⟨by omega, by omega⟩)
  have hk16' := Lib.hid hk16
  clear hl hX wk hfit hk16
  go_enter Try.func9, Try.ntmps9
  go_wp2_with fail
  refine (wakes_any w).mono ?_
  rintro e w1 ⟨rfl, hb1⟩
  have HB1 := Lib.hid hb1
  clear hb1
  go_wp2_with fail
  refine (HO.out w1 HB1.out).mono ?_
  rintro e w2 ⟨v, rfl, C2, d2, rfl, hr2, hb2⟩
  have HB2 := Lib.hid (HB1.out.trans (hb2.mono HB1.out.size))
  have HX2 := Lib.hid (Hits.ofRow hr2)
  have HF2 := Lib.hid (first_k HIK.out C2 d2 X w2 HX2.out (by have := HXL.out; omega))
  obtain ⟨xl, hxl⟩ : ∃ xl, xl = X.length := ⟨_, rfl⟩
  have HXN := Lib.hid hxl
  have hxb : xl ≤ 200 := by rw [hxl]; exact HXL.out
  rw [← hxl] at HF2 ⊢
  clear hr2 hb2 hxl
  go_wp2_with fail
  refine HF2.out.mono ?_
  rintro e w3 ⟨F3, f3, rfl, hr3, hb3⟩
  have HB3 := Lib.hid (HB2.out.trans (hb3.mono HB2.out.size))
  have HX3 := Lib.hid (HX2.out.below hb3)
  have HY3 := Lib.hid (Hits.ofRow hr3)
  obtain ⟨Y, hY⟩ : ∃ Y, Y = firstM kk X := ⟨_, rfl⟩
  obtain ⟨yl, hyl⟩ : ∃ yl, yl = Y.length := ⟨_, rfl⟩
  have HYN := Lib.hid hyl
  have hmin : yl = min kk xl := by rw [hyl, hY, first_length, ← HXN.out]
  have HYS := Lib.hid (show ∀ (j : Nat), j + 1 < yl → ahead (Y.getD (j + 1) z2) (Y.getD j z2) = false from fun j hj => srt_get (by rw [hY]; exact first_srt kk X) (Nat.lt_succ_self j) (by rw [← hyl]; exact hj))
  have HYF := Lib.hid (show ∀ (j : Nat), j < yl → wfH (Y.getD j z2) from fun j hj => fit_at (by rw [hY]; exact first_fit HXF.out) (by rw [← hyl]; exact hj))
  have HXE := Lib.hid (show ∀ (j : Nat), j < xl → wfH (X.getD j z2) from fun j hj => fit_at HXF.out (by rw [← HXN.out]; exact hj))
  have HUI := Lib.hid (show ∀ (j : Nat) (h : HitM), 0 ≤ upF X j h ∧ upF X j h ≤ 200 from fun j h => by have h1 := up_in X j h; have := HXL.out; omega)
  have HDI := Lib.hid (show ∀ (j : Nat) (h : HitM), 0 ≤ downF X Y j h ∧ downF X Y j h ≤ 200 from fun j h => by have h1 := down_in kk X j h; rw [← hY] at h1; have := HXL.out; omega)
  have HUS := Lib.hid (show ∀ (j : Nat), j < xl → updH (upF X j) (X.getD j z2) (upF X j (X.getD j z2) + 1) = upF X (j + 1) from fun j hj => up_step (by rw [← HXN.out]; exact hj))
  have HDS := Lib.hid (show ∀ (j : Nat), j < yl → updH (downF X Y j) (Y.getD j z2) (downF X Y j (Y.getD j z2) - 1) = downF X Y (j + 1) from fun j hj => down_step (by rw [← hyl]; exact hj))
  have HDZ := Lib.hid (show upF X xl = downF X Y 0 by rw [HXN.out]; exact (down_zero X Y).symm)
  have HLE := Lib.hid (show ∀ (h : HitM) (j : Nat), 0 < downF X Y yl h → j < yl → ahead h (Y.getD j z2) = false from fun h j h1 h2 => by
    rw [hyl, hY] at h1
    rw [hyl, hY] at h2
    rw [hY]
    exact down_left h1 h2)
  rw [← hY, ← hyl]
  have hr3' := Lib.hid hr3
  clear hr3 hb3 hyl
  rw [← hY] at HY3
  clear hr3' hY
  have hyb : yl ≤ 16 := by have := hk16'.out; omega
  have hyx : yl ≤ xl := by omega
  have hm1 : min (kk : Int) (xl : Int) = (yl : Int) := by omega
  have hm2 : min (xl : Int) (kk : Int) = (yl : Int) := by omega
  have HMN := Lib.hid hmin
  clear hmin
  go_wp2_with fail
  clear hm1 hm2
  go_loopw [7] (fun i wr => ∃ J : Nat, 1 ≤ J ∧ J ≤ yl + 1 ∧ i = .int .i64 J ∧ Hid (Below w3.heap.size w3 wr)) (fun i _ => yl + 1 - (intOf i).toNat)
  case atStart => exact ⟨1, by omega, by omega, rfl, Lib.hid (Below.refl _ _)⟩
  case round =>
    obtain ⟨J, hJ1, hJy, rfl, HK⟩ := hrel
    by_cases hJ : J < yl
    · obtain ⟨j, hJj⟩ : ∃ j, J = j + 1 := ⟨J - 1, by omega⟩
      have hix : (J : Int) - 1 = (j : Int) := by omega
      obtain ⟨g1, o1, hF, hg, hc1, hc2⟩ := HY3.out.at_ (j := J) (by rw [← HYN.out]; exact hJ)
      obtain ⟨g2, o2, hF2, _, hc3, hc4⟩ := HY3.out.at_ (j := j) (by rw [← HYN.out]; omega)
      subst hF
      injection hF2 with he
      injection he with he1 he2
      subst he1
      subst he2
      have e1 := (HK.out.cell (p := ⟨g1, o1 + J * 2, none⟩) hg).trans hc1
      have e2 := (HK.out.cell (p := ⟨g1, o1 + J * 2 + 1, none⟩) hg).trans hc2
      have e3 := (HK.out.cell (p := ⟨g1, o1 + j * 2, none⟩) hg).trans hc3
      have e4 := (HK.out.cell (p := ⟨g1, o1 + j * 2 + 1, none⟩) hg).trans hc4
      have hord := HYS.out j (by omega)
      rw [← hJj] at hord
      have HG := compare_gt (Y.getD j z2) (Y.getD J z2)
      rw [hord] at HG
      have HC := Lib.hid (fun V => compare_any (Y.getD j z2).1 (Y.getD j z2).2 (Y.getD J z2).1 (Y.getD J z2).2 V)
      generalize (Y.getD J z2).1 = x1 at *
      generalize (Y.getD J z2).2 = x2 at *
      generalize (Y.getD j z2).1 = y1 at *
      generalize (Y.getD j z2).2 = y2 at *
      generalize compareM y1 y2 x1 x2 = cm at *
      have hgt : ¬ 0 < cm := by simpa using HG
      have hwj : IntKind.i64.wrap (j : Int) = j := i64_fit (by omega)
      have j0 : (0 : Int) ≤ j := by omega
      have jn : (j : Int) < yl := by omega
      have j1 : (0 : Int) ≤ (J : Int) := by omega
      have jn1 : (J : Int) < yl := by omega
      have HIX := Lib.hid hJj
      clear hc1 hc2 hc3 hc4 hg hJj hord HG
      go_wp2
      refine wp_region_still_tail 9 (by kernel_rfl) (by kernel_rfl) ?_
      simp only [List.take_succ_cons, List.take_zero, List.drop_succ_cons, List.drop_zero]
      change wpStill _ _ wr.drew _ _ _
      still_step
      still_step
      still_step
      still_step
      still_step
      still_step
      still_step
      still_step
      still_step
      refine wpStill_nil ?_
      go_wp2_with fail
      refine (HC.out _).mono ?_
      rintro e w4 ⟨rfl, hb4⟩
      have HB := Lib.hid (HK.out.trans ((below_drew (Below.refl _ wr)).trans (hb4.mono (Nat.le_refl _)) |>.mono HK.out.size))
      clear hb4
      go_wp2
      go_roundw
      case rel => exact ⟨J + 1, by omega, by omega, by go_num, HB⟩
      case measure => simp [intOf]; omega
    · obtain ⟨wz, hwz⟩ : ∃ wz, wz = wr := ⟨_, rfl⟩
      rw [← hwz] at HK ⊢
      clear hwz
      obtain ⟨M, hM⟩ : ∃ M, M = wz.heap.size := ⟨_, rfl⟩
      obtain ⟨W4, hW4⟩ : ∃ W4, W4 = wz.alloc (.map #[] 0) := ⟨_, rfl⟩
      have HM4 := Lib.hid (show MapH W4 M 0 (upF X 0) by rw [hW4, hM, up_zero]; exact MapH.made wz)
      have HB4 := Lib.hid (show Below M wz W4 by rw [hW4, hM]; exact (Below.refl _ wz).alloc (Nat.le_refl _) _)
      have HXZ := Lib.hid (show Hits wz C2 d2 X from HX3.out.below HK.out)
      have HYZ := Lib.hid (show Hits wz F3 f3 Y from HY3.out.below HK.out)
      have HMB := Lib.hid (show w.heap.size ≤ M by rw [hM]; exact Nat.le_trans HB3.out.size HK.out.size)
      have HBZ := Lib.hid (show Below w.heap.size w wz from HB3.out.trans (HK.out.mono HB3.out.size))
      have HW4 := Lib.hid hW4
      have HM := Lib.hid hM
      clear hW4 hM
      have hmm := @run_makeMap Try.prog
      go_wp2
      rw [← HW4.out, ← HM.out]
      clear hmm
      go_loopw [10, 61] (fun _ i wv => ∃ j : Nat, j ≤ xl ∧ i = .int .i64 j ∧ Hid (MapH wv M j (upF X j) ∧ Below M wz wv)) (fun _ i _ => xl - (intOf i).toNat)
      case atStart => exact ⟨0, by omega, rfl, Lib.hid ⟨HM4.out, HB4.out⟩⟩
      case round =>
        obtain ⟨j, hj, rfl, HJ⟩ := hrel
        by_cases hjn : j < xl
        · obtain ⟨g1, o1, hF, hg, hc1, hc2⟩ := HXZ.out.at_ (j := j) (by rw [← HXN.out]; exact hjn)
          subst hF
          have e1 := (HJ.out.2.cell (p := ⟨g1, o1 + j * 2, none⟩) (by rw [HM.out]; exact hg)).trans hc1
          have e2 := (HJ.out.2.cell (p := ⟨g1, o1 + j * 2 + 1, none⟩) (by rw [HM.out]; exact hg)).trans hc2
          have hwx := HXE.out j hjn
          have hst := HUS.out j hjn
          have hu := HUI.out j (X.getD j z2)
          obtain ⟨x, hx⟩ : ∃ x, x = X.getD j z2 := ⟨_, rfl⟩
          rw [← hx] at hwx hst hu e1 e2
          obtain ⟨W5, hW5⟩ : ∃ W5, W5 = wr.alloc (.cells #[.int .u64 x.1, .int .u64 x.2] 32) := ⟨_, rfl⟩
          have hb5 : Below wr.heap.size wr W5 := by rw [hW5]; exact (Below.refl _ wr).alloc (Nat.le_refl _) _
          have hD5 : MapH W5.drew M j (upF X j) := (HJ.out.1.same (hb5.block _ HJ.out.1.lt)).same rfl
          obtain ⟨st, V1, V2, hl0, hen, hl1, hes, hl2, hM6, hg6⟩ := hD5.bump (by omega) hwx (upF X j x + 1) (WalkArith.wf_i64 (by omega))
          rw [hst] at hM6
          have hMr : M ≤ wr.heap.size := Nat.le_of_lt HJ.out.1.lt
          have HN := Lib.hid (show MapH V2 M (j + 1) (upF X (j + 1)) ∧ Below M wz V2 from ⟨hM6, (HJ.out.2.trans ((hb5.mono hMr).trans (below_drew (Below.refl _ W5)))).trans (below_grown hg6 (Nat.le_trans hMr hb5.size))⟩)
          have q1 : W5.cell? ⟨wr.heap.size, 0, none⟩ = some (.int .u64 x.1) := by rw [hW5]; exact cell_laid _ _ _ 0
          have q2 : W5.cell? ⟨wr.heap.size, 1, none⟩ = some (.int .u64 x.2) := by rw [hW5]; exact cell_laid _ _ _ 1
          have HW5 := Lib.hid hW5
          clear hW5 hb5 hD5 hM6 hg6 hst hwx hx hc1 hc2 hg hMr
          generalize upF X j x = u at *
          generalize x.1 = x1 at *
          generalize x.2 = x2 at *
          have wu : wrap64 (u + 1) = u + 1 := wrap64_fit (by omega)
          have wu2 : IntKind.i64.wrap (u + 1) = u + 1 := i64_fit (by omega)
          have j0 : (0 : Int) ≤ j := by omega
          have jn : (j : Int) < xl := by omega
          go_wp2
          rw [← HW5.out]
          go_region
          all_goals (
            go_wp2
            go_roundw
            case rel => exact ⟨j + 1, by omega, by go_num, HN⟩
            case measure => simp [intOf]; omega)
        · obtain rfl : j = xl := by omega
          obtain ⟨wy, hwy⟩ : ∃ wy, wy = wr := ⟨_, rfl⟩
          rw [← hwy] at HJ ⊢
          clear hwy
          have HM7 := Lib.hid (show MapH wy M (200 + 0) (downF X Y 0) by rw [← HDZ.out]; exact HJ.out.1.mono (by omega))
          go_wp2
          go_loopw [12, 74] (fun _ i wv => ∃ q : Nat, q ≤ yl ∧ i = .int .i64 q ∧ Hid (MapH wv M (200 + q) (downF X Y q) ∧ Below M wz wv)) (fun _ i _ => yl - (intOf i).toNat)
          case atStart => exact ⟨0, by omega, rfl, Lib.hid ⟨HM7.out, HJ.out.2⟩⟩
          case round =>
            obtain ⟨q, hq, rfl, HQ⟩ := hrel
            by_cases hqn : q < yl
            · obtain ⟨g1, o1, hF, hg, hc1, hc2⟩ := HYZ.out.at_ (j := q) (by rw [← HYN.out]; exact hqn)
              subst hF
              have e1 := (HQ.out.2.cell (p := ⟨g1, o1 + q * 2, none⟩) (by rw [HM.out]; exact hg)).trans hc1
              have e2 := (HQ.out.2.cell (p := ⟨g1, o1 + q * 2 + 1, none⟩) (by rw [HM.out]; exact hg)).trans hc2
              have hwx := HYF.out q hqn
              have hst := HDS.out q hqn
              have hu := HDI.out q (Y.getD q z2)
              have hu2 := HDI.out (q + 1) (Y.getD q z2)
              obtain ⟨x, hx⟩ : ∃ x, x = Y.getD q z2 := ⟨_, rfl⟩
              rw [← hx] at hwx hst hu hu2 e1 e2
              have hu3 : downF X Y (q + 1) x = downF X Y q x - 1 := by rw [← hst]; exact if_pos rfl
              rw [hu3] at hu2
              obtain ⟨W5, hW5⟩ : ∃ W5, W5 = wr.alloc (.cells #[.int .u64 x.1, .int .u64 x.2] 32) := ⟨_, rfl⟩
              have hb5 : Below wr.heap.size wr W5 := by rw [hW5]; exact (Below.refl _ wr).alloc (Nat.le_refl _) _
              have hD5 : MapH W5.drew M (200 + q) (downF X Y q) := (HQ.out.1.same (hb5.block _ HQ.out.1.lt)).same rfl
              obtain ⟨st, V1, V2, hl0, hen, hl1, hes, hl2, hM6, hg6⟩ := hD5.bump (by omega) hwx (downF X Y q x - 1) (WalkArith.wf_i64 (by omega))
              rw [hst] at hM6
              have hMr : M < wr.heap.size := HQ.out.1.lt
              have HN := Lib.hid (show MapH V2 M (200 + (q + 1)) (downF X Y (q + 1)) ∧ Below M wz V2 from ⟨hM6, (HQ.out.2.trans ((hb5.mono (Nat.le_of_lt hMr)).trans (below_drew (Below.refl _ W5)))).trans (below_grown hg6 (Nat.le_trans (Nat.le_of_lt hMr) hb5.size))⟩)
              have q1 : W5.cell? ⟨wr.heap.size, 0, none⟩ = some (.int .u64 x.1) := by rw [hW5]; exact cell_laid _ _ _ 0
              have q2 : W5.cell? ⟨wr.heap.size, 1, none⟩ = some (.int .u64 x.2) := by rw [hW5]; exact cell_laid _ _ _ 1
              have hz5 : wr.heap.size < W5.heap.size := by rw [hW5, World.size_alloc]; omega
              have hk : V2.heap[wr.heap.size]? = W5.heap[wr.heap.size]? := hg6.block _ hz5 (by simp; omega)
              have q3 : V2.cell? ⟨wr.heap.size, 0, none⟩ = some (.int .u64 x.1) := (World.cell?_of_block (w := W5) hk).trans q1
              have q4 : V2.cell? ⟨wr.heap.size, 1, none⟩ = some (.int .u64 x.2) := (World.cell?_of_block (w := W5) hk).trans q2
              have HW5 := Lib.hid hW5
              clear hW5 hb5 hD5 hM6 hg6 hst hwx hx hc1 hc2 hg hMr hu3 hk hz5
              generalize downF X Y q x = u at *
              generalize x.1 = x1 at *
              generalize x.2 = x2 at *
              have wu : wrap64 (u - 1) = u - 1 := wrap64_fit (by omega)
              have wu2 : IntKind.i64.wrap (u - 1) = u - 1 := i64_fit (by omega)
              have wu3 : ¬ (u - 1 < 0) := by omega
              have wu4 : decide (u - 1 < 0) = false := by simp; omega
              have j0 : (0 : Int) ≤ q := by omega
              have jn : (q : Int) < yl := by omega
              go_wp2
              rw [← HW5.out]
              go_region
              all_goals (
                go_wp2
                go_roundw
                case rel => exact ⟨q + 1, by omega, by go_num, HN⟩
                case measure => simp [intOf]; omega)
            · obtain rfl : yl = q := by omega
              obtain ⟨wx, hwx⟩ : ∃ wx, wx = wr := ⟨_, rfl⟩
              rw [← hwx] at HQ ⊢
              clear hwx
              have HBX := Lib.hid HQ.out.2
              obtain ⟨D, hown, htell⟩ := HQ.out.1
              have HT := Lib.hid htell
              have hMx : M < wx.heap.size := hown.lt
              clear htell HQ
              go_wp2_with (first
                | (at_range; refine wpList_range_own _ rfl _ 52 rfl 32 3 keyedHit Try.underlying52 Ri M (200 + yl) D rfl hown ?_; intro w0 hrg0 hg0 hs0)
                | go_in)
              go_frame
              go_loopw [13, 14] (fun _ _ wr => ∃ (left : Lit → Bool) (cnt : Nat), wr.ranges Try.prog 32 Ri M wx.heap.size (200 + yl) D left cnt ∧ Hid (Below M wz wr)) (fun _ _ wr => wr.rangeLeft M wx.heap.size)
              case atStart => exact ⟨_, _, hrg0, Lib.hid (HBX.out.trans (below_grown (hg0.but (some M)) (Nat.le_of_lt hMx)))⟩
              case round =>
                obtain ⟨left, cnt, hrg, HR⟩ := hrel
                go_wp2_with (first
                  | (at_next; refine wpList_next_ranges _ rfl _ rfl 32 keyedHit Ri hK (Value.int .i64) (fun key kl h => by obtain ⟨x, e, _⟩ := key_inv h; exact ⟨x, e⟩) (fun v y h => by obtain ⟨c, e, _⟩ := plainElem_int_inv Try.underlying3 h; exact ⟨c, e⟩) M wx.heap.size (200 + yl) D _ _ rfl hrg ?_ ?_)
                  | go_in)
                · intro hc0 hl0
                  clear hc0 hl0
                  go_wp2
                  go_ret
                  exact ⟨rfl, HBZ.out.trans (HR.out.mono HMB.out)⟩
                · intro xa xb c kl ya yb w1 cnt1 hkl hlk hy hat hrg1 hlt hg1 hs1 hen
                  obtain ⟨hcx, hwx⟩ := told (x := (xa, xb)) (y := (ya, yb)) HT.out hkl hy hat
                  have HML := Lib.hid hrg.left_eq
                  have hlr := hrg.lt
                  have hb1 : Below M wz w1 := HR.out.trans (grown_below hg1 (Nat.le_of_lt hMx) (by omega))
                  have hM1 : M ≤ w1.heap.size := by omega
                  obtain ⟨W6, hW6⟩ : ∃ W6, W6 = w1.alloc (.cells #[.int .u64 xa, .int .u64 xb] 32) := ⟨_, rfl⟩
                  have hrg6 := (show W6.ranges Try.prog 32 Ri M wx.heap.size (200 + yl) D (fun z => left z && !z.sameKey kl) cnt1 by rw [hW6]; exact hrg1.alloc _).kept (w' := W6.drew) (row := none) ⟨rfl, rfl, rfl, Nat.le_refl _, fun _ _ _ => rfl⟩ (by simp) (by simp)
                  have hb6 : Below M wz W6.drew := (by rw [hW6]; exact hb1.alloc hM1 _ : Below M wz W6).trans (below_drew (Below.refl _ W6))
                  have q1 : W6.cell? ⟨w1.heap.size, 0, none⟩ = some (.int .u64 xa) := by rw [hW6]; exact cell_laid _ _ _ 0
                  have q2 : W6.cell? ⟨w1.heap.size, 1, none⟩ = some (.int .u64 xb) := by rw [hW6]; exact cell_laid _ _ _ 1
                  have HW6 := Lib.hid hW6
                  have HRG6 := Lib.hid hrg6
                  have HB6 := Lib.hid hb6
                  have HLT := Lib.hid hlt
                  have hen' : (Instr.entry (.pointer (some ⟨wx.heap.size, 0, none⟩))).run Try.prog w1 = .ok (.tuple #[.agg #[.int .u64 xa, .int .u64 xb], .int .i64 c]) w1 := hen
                  have HCX := Lib.hid hcx
                  clear hkl hlk hy hat hrg1 hlt hg1 hen hrg6 hb6 hW6 hcx hrg hlr hb1 hM1 hs1
                  by_cases hc0 : 0 < c
                  · have hd1 : decide (0 < c) = true := by simpa using hc0
                    by_cases hy0 : 0 < yl
                    · have hd2 : decide ((0 : Int) < yl) = true := by simp; omega
                      have hy1 : (0 : Int) < yl := by omega
                      obtain ⟨j, hJj⟩ : ∃ j, yl = j + 1 := ⟨yl - 1, by omega⟩
                      obtain ⟨g1, o1, hF, hg, hc1, hc2⟩ := HYZ.out.at_ (j := j) (by rw [← HYN.out]; omega)
                      subst hF
                      have e3 := (HB6.out.cell (p := ⟨g1, o1 + j * 2, none⟩) (by rw [HM.out]; exact hg)).trans hc1
                      have e4 := (HB6.out.cell (p := ⟨g1, o1 + j * 2 + 1, none⟩) (by rw [HM.out]; exact hg)).trans hc2
                      have HG := compare_lt (xa, xb) (Y.getD j z2)
                      rw [HLE.out (xa, xb) j (by rw [← HCX.out]; exact hc0) (by omega)] at HG
                      have HC := Lib.hid (fun V => compare_any xa xb (Y.getD j z2).1 (Y.getD j z2).2 V)
                      clear HCX
                      generalize (Y.getD j z2).1 = y1 at *
                      generalize (Y.getD j z2).2 = y2 at *
                      dsimp only at HG
                      generalize compareM xa xb y1 y2 = cm at *
                      have hcm : ¬ cm < 0 := by simpa using HG
                      have hcm2 : decide (cm < 0) = false := by simpa using HG
                      have hix : (yl : Int) - 1 = (j : Int) := by omega
                      have hwj : IntKind.i64.wrap (j : Int) = j := i64_fit (by omega)
                      have j0 : (0 : Int) ≤ j := by omega
                      have jn : (j : Int) < yl := by omega
                      have S0 := Lib.hid (show W6.drew.cell? ⟨w1.heap.size, 0, none⟩ = some (.int .u64 xa) ∧ W6.drew.cell? ⟨w1.heap.size, 1, none⟩ = some (.int .u64 xb) ∧ W6.drew.cell? ⟨g1, o1 + j * 2, none⟩ = some (.int .u64 y1) ∧ W6.drew.cell? ⟨g1, o1 + j * 2 + 1, none⟩ = some (.int .u64 y2) from ⟨q1, q2, e3, e4⟩)
                      have HJJ := Lib.hid hJj
                      clear hc1 hc2 hg hJj HG e3 e4 q1 q2
                      go_wp2
                      rw [← HW6.out]
                      go_region_held3 (fun W => W.cell? ⟨w1.heap.size, 0, none⟩ = some (.int .u64 xa) ∧ W.cell? ⟨w1.heap.size, 1, none⟩ = some (.int .u64 xb) ∧ W.cell? ⟨g1, o1 + j * 2, none⟩ = some (.int .u64 y1) ∧ W.cell? ⟨g1, o1 + j * 2 + 1, none⟩ = some (.int .u64 y2)) (first | exact S0.out | exact S1.out) (first
                        | (go_at_call 23; (with_reducible refine (HC.out _).mono ?_); rintro e w5 ⟨rfl, hb5⟩; have S1 := Lib.hid (And.intro (keepS S0.out.1 hb5) (And.intro (keepS S0.out.2.1 hb5) (And.intro (keepS S0.out.2.2.1 hb5) (keepS S0.out.2.2.2 hb5)))); have HB5 := Lib.hid hb5; clear hb5))
                      all_goals (
                        go_wp2
                        go_roundw
                        case rel => exact ⟨_, cnt1, HRG6.out.kept (grownN_below HB5.out) (by simp) (by simp), Lib.hid (HB6.out.trans (HB5.out.mono (Nat.le_trans (Nat.le_of_lt hMx) (Nat.le_of_lt HRG6.out.lt))))⟩
                        case measure =>
                          rw [(HRG6.out.kept (grownN_below HB5.out) (by simp) (by simp)).left_eq, HML.out]
                          exact HLT.out)
                    · have hd2 : decide ((0 : Int) < yl) = false := by simp; omega
                      have hy1 : ¬ (0 : Int) < yl := by omega
                      clear HCX
                      go_wp2
                      rw [← HW6.out]
                      go_quiet (fail)
                      all_goals (
                        go_wp2
                        go_roundw
                        case rel => exact ⟨_, cnt1, HRG6.out.kept (row := none) ⟨rfl, rfl, rfl, Nat.le_refl _, fun _ _ _ => rfl⟩ (by simp) (by simp), Lib.hid (HB6.out.trans ⟨rfl, rfl, rfl, Nat.le_refl _, fun _ _ => rfl⟩)⟩
                        case measure =>
                          rw [(HRG6.out.kept (w' := W6.drewN nq) (row := none) ⟨rfl, rfl, rfl, Nat.le_refl _, fun _ _ _ => rfl⟩ (by simp) (by simp)).left_eq, HML.out]
                          exact HLT.out)
                  · have hd1 : decide (0 < c) = false := by simpa using hc0
                    clear HCX
                    go_wp2
                    rw [← HW6.out]
                    go_quiet (fail)
                    all_goals (
                      go_wp2
                      go_roundw
                      case rel => exact ⟨_, cnt1, HRG6.out.kept (row := none) ⟨rfl, rfl, rfl, Nat.le_refl _, fun _ _ _ => rfl⟩ (by simp) (by simp), Lib.hid (HB6.out.trans ⟨rfl, rfl, rfl, Nat.le_refl _, fun _ _ => rfl⟩)⟩
                      case measure =>
                        rw [(HRG6.out.kept (w' := W6.drewN nq) (row := none) ⟨rfl, rfl, rfl, Nat.le_refl _, fun _ _ _ => rfl⟩ (by simp) (by simp)).left_eq, HML.out]
                        exact HLT.out)

set_option maxRecDepth 100000 in
theorem lifted (os : Os) (started : os.Started) (H : Type) (enc : TypeId × Value → H) :
    ReturnsInHanded {} Try.checked os 9 .any (Rows.topkLeftSpec.pre6 enc Try.prog Try.f9 Rows.topkLeftRow.domain false) (Rows.topkLeftSpec.post enc Try.prog Try.f9 false true false false) := by
  refine returnsInHanded_of_change (C := Try.checked) Try.own started (by kernel_rfl) Try.func9
    (ChangeSpec.witness6 (enc := enc) (C := Try.checked) false ⟨#[], #[.int .i64 0, .slice none 0 0], []⟩ 8 (by kernel_rfl) (by kernel_rfl) (by kernel_rfl) (by kernel_rfl)) ?_
  intro W base args ds gs before hval0 hW hcnd _
  have hval : ∀ (j : Nat) t v, Try.f9.params[j]? = some t → args[j]? = some v → Value.okWide Try.prog W .any base t v := hval0
  have hW' := hW
  obtain ⟨p, q, hA0, hV, rfl, hfz, hnd⟩ := hW
  have hA : DataW.TrodAll enc Try.prog W 0 (fun _ => true) true Try.f9.params.toList args.toList ds p := hA0
  rw [Try.params9] at hA hval
  have hA' := hA
  obtain ⟨v0, vs0, d0, ds0, p0, q0, hargs, rfl, rfl, h0, r0⟩ := trodAll_cons hA
  obtain ⟨v1, vs1, d1, ds1, p1, q1, rfl, rfl, rfl, h1, r1⟩ := trodAll_cons r0
  obtain ⟨rfl, rfl, rfl⟩ := trodAll_nil r1
  obtain rfl : args = #[v0, v1] := by cases args; simp_all
  obtain ⟨rfl, rfl⟩ := trodVars_none hV
  obtain ⟨a0, rfl, w0⟩ := open_num (hval 0 3 v0 rfl rfl) h0
  obtain ⟨A1, len1, c1, rfl⟩ := okWide_slice Try.underlying22 (hval 1 22 v1 rfl rfl)
  obtain ⟨z1, rfl, sl1, fit1⟩ := open_hits_fit h1
  clear hA0 hval0
  refine (walk a0 w0 A1 c1 z1 sl1 fit1).mono fun e W' ⟨he, bel⟩ => ?_
  subst he
  exact ⟨_, rfl, _, _, _, [], _, [], hW', trodAll_mk1 (shut_bool Try.underlying4 _), trodAll_below bel _ _ _ _ (by kernel_rfl) hA', rfl, bel.frame _, fun h => by cases h⟩

theorem proved : Rows.TopkLeftSaid :=
  OpenClaim.holds_of_wide 9 Try.f9 rfl rfl rfl rfl rfl rfl rfl ⟨rfl, rfl, rfl, rfl, rfl⟩ rfl rfl rfl rfl rfl (by kernel_rfl) Try.func9 (by kernel_rfl)
    (of_decide_eq_true (by kernel_rfl)) (by unfold Func.isWrapper; first | (rw [if_pos (by decide +kernel)]; kernel_rfl) | (rw [if_neg (by decide +kernel)]; exact ⟨rfl, rfl⟩))
    (fun os started H enc _ => lifted os started H enc)
#print axioms proved
end Go.Proofs.Ythobkakmjgmpcaa.topkLeft
