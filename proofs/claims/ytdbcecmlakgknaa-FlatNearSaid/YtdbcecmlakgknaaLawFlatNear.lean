/-
  Proved: the law FlatNear, what is found has its true distance, stands in order, and nothing that is left out is nearer, returns true for every rows and query, and leaves all memory as it was. No condition.
-/
import Derived.Test.YtdbcecmlakgknaaMFla
import Derived.Test.YtdbcecmlakgknaaTopLeft
import Derived.Test.YtdbcecmlakgknaaTopFit
namespace Go.Proofs.Ytdbcecmlakgknaa.flatNear
open Go.ChangeShapes Go.WideShapes Go.ChangeAt Go.RowKit Go.Maps Go.Deep
open TopL (HitM firstM isKM z2 Hits wfH MapH upF downF updH up_step down_step down_zero up_zero down_left up_in down_in fit_at first_fit srt_get first_srt first_length compare_gt compare_lt compare_any compareM i64_fit below_grown grownN_below keyedHit hK key_inv told Ri)
set_option linter.unusedVariables false
set_option linter.unusedSimpArgs false
set_option maxRecDepth 100000

theorem keepS {W W' : World} {b o : Nat} {v : Value} (h : W.cell? ⟨b, o, none⟩ = some v) (hb : Below W.heap.size W W') : W'.cell? ⟨b, o, none⟩ = some v := (hb.cell (p := ⟨b, o, none⟩) (World.block_lt_of_cell? W _ h)).trans h
theorem grown_at {w w' : World} {g B : Nat} (h : w.grownBy w' (some g)) (hg : B ≤ g) (hB : B ≤ w.heap.size) : Below B w w' :=
  (Turn.of_grown (S := fun i => i = g) h (fun i hi => .inl (by simpa using hi.symm))).below hB (fun i hi => by omega)
theorem wrap64_fit {x : Int} (h : -9223372036854775808 ≤ x ∧ x < 9223372036854775808) : wrap64 x = x := by unfold wrap64; omega
theorem dist_fit {a b : List Int} (ha : right a = true) (hb : right b = true) : (Lit.int .u64 (distD a b)).wf = true := by
  have h : 0 ≤ distD a b ∧ distD a b < 18446744073709551616 := by
    unfold distD
    split
    · unfold distM
      have h1 := sumP_le _ (zip_in ha hb)
      have h2 : (a.zip b).length ≤ 4 := by rw [List.length_zip]; have := (right_len ha).2; omega
      have h3 : (4611686009837453316 : Int) * ((a.zip b).length : Int) ≤ 4611686009837453316 * 4 := Int.mul_le_mul_of_nonneg_left (by omega) (by decide)
      omega
    · omega
  simp [Lit.wf, IntKind.min, IntKind.max, IntKind.signed, IntKind.bits]
  omega
/-- What rows that are found among are. -/
theorem rows_ok {kq : Int} {l : List Rv} {v : List Int} (h : rowsE kq l v = 0) : isKM kq = true ∧ right v = true ∧ rightR l = true ∧ dimB l v = true ∧ rowsL kq l v = firstM kq.toNat (hitL l v) := by
  have hc : chkQ kq v = 0 := by
    unfold rowsE at h
    by_cases h1 : chkQ kq v = 0
    · exact h1
    · rw [if_neg h1] at h; exact absurd h h1
  have hr : refR l = 0 := by
    unfold rowsE at h
    rw [if_pos hc] at h
    by_cases h1 : refR l = 0
    · exact h1
    · rw [if_neg h1] at h; exact absurd h h1
  have hn : nearE l v = 0 := by unfold rowsE at h; rwa [if_pos hc, if_pos hr] at h
  refine ⟨(chkQ_ok hc).1, (chkQ_ok hc).2, (refR_ok hr).1, ?_, by unfold rowsL; rw [if_pos h]⟩
  unfold nearE at hn
  cases hd : dimB l v with
  | true => rfl
  | false => rw [hd] at hn; simp at hn

set_option maxHeartbeats 8000000 in
theorem walk {w : World} (A : Option Addr) (c : Nat) (q : List Pr) (H : Rws w A c q) (Av : Option Addr) (cv : Nat) (v : List Int) (kq : Int) (H2 : Vec .i32 w Av cv v) (wk : (Lit.int .i64 kq).wf = true) :
    Calls Try.prog 9 #[.slice A q.length c, .agg #[.slice Av v.length cv, .int .i64 kq]] w fun e w' => e = .returned (.bool true) ∧ Below w.heap.size w w' := by
  obtain ⟨W0, hW0⟩ : ∃ W0, W0 = w.alloc (.cells #[.slice Av v.length cv, .int .i64 kq] 50) := ⟨_, rfl⟩
  have hb0 : Below w.heap.size w W0 := by rw [hW0]; exact (Below.refl _ w).alloc (Nat.le_refl _) _
  have hx0 : W0.heap[w.heap.size]? = some (.cells #[.slice Av v.length cv, .int .i64 kq] 50 (0, 0)) := by rw [hW0]; exact heap_alloc_new _ _
  have HW := Lib.hid hW0
  have HB0 := Lib.hid hb0
  have HX := Lib.hid (fun (X : World) (hX : Below W0.heap.size W0 X) => show X.cell? ⟨w.heap.size, 0, none⟩ = some (.slice Av v.length cv) ∧ X.cell? ⟨w.heap.size, 1, none⟩ = some (.int .i64 kq) from by
    have X0 := (hX.block _ (lt_of_block hx0)).trans hx0
    exact ⟨(cell_of_row _ _ 0 _ _ _ X0).trans rfl, (cell_of_row _ _ 1 _ _ _ X0).trans rfl⟩)
  have HWk := Lib.hid (wakes11_any W0)
  have HOv := Lib.hid (fun (X : World) (hX : Below W0.heap.size W0 X) => overR_any A c q X ((H.below hb0).below hX))
  have HRw := Lib.hid (fun (X : World) (hX : Below W0.heap.size W0 X) => rowsQ_any v Av cv kq A c q X ((H2.below hb0).below hX) ((H.below hb0).below hX))
  have HQ := Lib.hid (H.below hb0)
  have HV := Lib.hid (H2.below hb0)
  obtain ⟨l, hl⟩ : ∃ l, l = rvs q := ⟨_, rfl⟩
  have HLl := Lib.hid hl
  rw [← hl] at HOv HRw
  obtain ⟨LS, hLS⟩ : ∃ L, L = rowsL kq l v := ⟨_, rfl⟩
  obtain ⟨ES, hES⟩ : ∃ L, L = rowsE kq l v := ⟨_, rfl⟩
  have HLS := Lib.hid hLS
  have HES := Lib.hid hES
  rw [← hLS, ← hES] at HRw
  obtain ⟨xl, hxl⟩ : ∃ n, n = q.length := ⟨_, rfl⟩
  obtain ⟨nv, hnv⟩ : ∃ n, n = v.length := ⟨_, rfl⟩
  have hxm : xl ≤ 9223372036854775807 := by rw [hxl]; exact H.many
  rw [← hxl] at HOv HRw ⊢
  rw [← hnv] at HW HX HRw ⊢
  have HNQ := Lib.hid hxl
  have HNV := Lib.hid hnv
  clear hl hLS hES hW0 hb0 hx0 H H2 wk hxl hnv
  cases hov : overR l with
  | true =>
    rw [hov] at HOv
    clear hov
    go_enter Try.func9, Try.ntmps9
    go_wp2_with fail
    rw [← HW.out]
    refine HWk.out.mono ?_
    rintro e w1 ⟨rfl, hb1⟩
    have HB1 := Lib.hid hb1
    have HO1 := Lib.hid (HOv.out w1 hb1)
    clear hb1
    go_wp2_with fail
    refine HO1.out.mono ?_
    rintro e w2 ⟨rfl, hb2⟩
    have HB2 := Lib.hid (HB1.out.trans (hb2.mono HB1.out.size))
    clear hb2
    go_wp2
    go_ret
    exact ⟨rfl, HB0.out.trans (HB2.out.mono HB0.out.size)⟩
  | false =>
    have hx300 : xl ≤ 300 := by have := (overR_no hov).1; rw [HLl.out, rvs_length] at this; rw [HNQ.out]; exact this
    rw [hov] at HOv
    clear hov
    by_cases h50 : 50 < nv
    · have t50 : decide ((50 : Int) < nv) = true := by simp; omega
      clear h50
      go_enter Try.func9, Try.ntmps9
      go_wp2_with fail
      rw [← HW.out]
      refine HWk.out.mono ?_
      rintro e w1 ⟨rfl, hb1⟩
      have HB1 := Lib.hid hb1
      have HO1 := Lib.hid (HOv.out w1 hb1)
      clear hb1
      go_wp2_with fail
      refine HO1.out.mono ?_
      rintro e w2 ⟨rfl, hb2⟩
      have HB2 := Lib.hid (HB1.out.trans (hb2.mono HB1.out.size))
      obtain ⟨e0, e1⟩ := HX.out w2 HB2.out
      clear hb2
      go_wp2
      go_ret
      exact ⟨rfl, HB0.out.trans (HB2.out.mono HB0.out.size)⟩
    · have t50 : decide ((50 : Int) < nv) = false := by simp; omega
      clear h50
      go_enter Try.func9, Try.ntmps9
      go_wp2_with fail
      rw [← HW.out]
      refine HWk.out.mono ?_
      rintro e w1 ⟨rfl, hb1⟩
      have HB1 := Lib.hid hb1
      have HO1 := Lib.hid (HOv.out w1 hb1)
      clear hb1
      go_wp2_with fail
      refine HO1.out.mono ?_
      rintro e w2 ⟨rfl, hb2⟩
      have HB2 := Lib.hid (HB1.out.trans (hb2.mono HB1.out.size))
      have HR2 := Lib.hid (HRw.out w2 HB2.out)
      obtain ⟨e0, e1⟩ := HX.out w2 HB2.out
      clear hb2
      go_wp2_with fail
      with_reducible refine HR2.out.mono ?_
      rintro e wz ⟨F3, f3, rfl, ho3, hb3⟩
      have HB3 := Lib.hid (HB2.out.trans (hb3.mono HB2.out.size))
      have HY3 := Lib.hid (OwnH.hits ho3)
      clear hb3 ho3 e0 e1
      by_cases hE0 : ES = 0
      · subst hE0
        obtain ⟨r1, r2, r3, r4, r5⟩ := rows_ok HES.out.symm
        obtain ⟨k1, k16⟩ := (TopL.isK_iff kq).1 r1
        obtain ⟨kk, rfl⟩ := Int.eq_ofNat_of_zero_le (show 0 ≤ kq by omega)
        obtain ⟨X, hX⟩ : ∃ X, X = hitL l v := ⟨_, rfl⟩
        have hXl : X.length = xl := by rw [hX, hit_length, HLl.out, rvs_length, ← HNQ.out]
        have hXg : ∀ j p, q[j]? = some p → X.getD j z2 = (p.i, distD p.x v) := fun j p hp => by
          rw [hX, HLl.out]; simp [hitL, hitM, rvs, List.getD, hp]
        have hXf : ∀ x ∈ X, wfH x := fun x hx => by
          rw [hX, HLl.out] at hx
          unfold hitL rvs at hx
          rw [List.map_map] at hx
          obtain ⟨p, hp, rfl⟩ := List.mem_map.1 hx
          exact ⟨HQ.out.fit p hp, dist_fit (by
            have := List.all_eq_true.1 r3 (p.i, p.x) (by rw [HLl.out]; exact List.mem_map.2 ⟨p, hp, rfl⟩)
            exact this) r2⟩
        have hXd : ∀ p ∈ q, distE p.x v = 0 := fun p hp => by
          have h1 : right p.x = true := List.all_eq_true.1 r3 (p.i, p.x) (by rw [HLl.out]; exact List.mem_map.2 ⟨p, hp, rfl⟩)
          have h2 : decide (p.x.length = v.length) = true := List.all_eq_true.1 r4 (p.i, p.x) (by rw [HLl.out]; exact List.mem_map.2 ⟨p, hp, rfl⟩)
          rw [dist_dim h1 r2, if_pos h2]
        obtain ⟨Y, hY⟩ : ∃ Y, Y = firstM kk X := ⟨_, rfl⟩
        have hLY : LS = Y := by rw [HLS.out, r5, hY, hX]; rfl
        subst hLY
        obtain ⟨yl, hyl⟩ : ∃ yl, yl = LS.length := ⟨_, rfl⟩
        have HXN := Lib.hid hXl.symm
        have HYN := Lib.hid hyl
        have hmin : yl = min kk xl := by rw [hyl, hY, first_length, hXl]
        have HYS := Lib.hid (show ∀ (j : Nat), j + 1 < yl → TopL.ahead (LS.getD (j + 1) z2) (LS.getD j z2) = false from fun j hj => srt_get (by rw [hY]; exact first_srt kk X) (Nat.lt_succ_self j) (by rw [← hyl]; exact hj))
        have HYF := Lib.hid (show ∀ (j : Nat), j < yl → wfH (LS.getD j z2) from fun j hj => fit_at (by rw [hY]; exact first_fit hXf) (by rw [← hyl]; exact hj))
        have HXE := Lib.hid (show ∀ (j : Nat), j < xl → wfH (X.getD j z2) from fun j hj => fit_at hXf (by rw [hXl]; exact hj))
        have HUI := Lib.hid (show ∀ (j : Nat) (h : HitM), 0 ≤ upF X j h ∧ upF X j h ≤ 300 from fun j h => by have h1 := up_in X j h; omega)
        have HDI := Lib.hid (show ∀ (j : Nat) (h : HitM), 0 ≤ downF X LS j h ∧ downF X LS j h ≤ 300 from fun j h => by have h1 := down_in kk X j h; rw [← hY] at h1; omega)
        have HUS := Lib.hid (show ∀ (j : Nat), j < xl → updH (upF X j) (X.getD j z2) (upF X j (X.getD j z2) + 1) = upF X (j + 1) from fun j hj => up_step (by rw [hXl]; exact hj))
        have HDS := Lib.hid (show ∀ (j : Nat), j < yl → updH (downF X LS j) (LS.getD j z2) (downF X LS j (LS.getD j z2) - 1) = downF X LS (j + 1) from fun j hj => down_step (by rw [← hyl]; exact hj))
        have HDZ := Lib.hid (show upF X xl = downF X LS 0 by rw [← hXl]; exact (down_zero X LS).symm)
        have HLE := Lib.hid (show ∀ (h : HitM) (j : Nat), 0 < downF X LS yl h → j < yl → TopL.ahead h (LS.getD j z2) = false from fun h j h1 h2 => by
          rw [hyl, hY] at h1
          rw [hyl, hY] at h2
          rw [hY]
          exact down_left h1 h2)
        have HXG := Lib.hid hXg
        have HXD := Lib.hid hXd
        rw [← hyl]
        have hyb : yl ≤ 16 := by omega
        have hyx : yl ≤ xl := by omega
        have hm1 : min (kk : Int) (xl : Int) = (yl : Int) := by omega
        have HMB0 := Lib.hid (show w.heap.size ≤ wz.heap.size from Nat.le_trans HB0.out.size HB3.out.size)
        clear r1 r2 r3 r4 r5 k1 hX hXl hXg hXf hXd hY hyl hmin
        obtain ⟨M, hM⟩ : ∃ M, M = wz.heap.size := ⟨_, rfl⟩
        obtain ⟨W4, hW4⟩ : ∃ W4, W4 = wz.alloc (.map #[] 0) := ⟨_, rfl⟩
        have HM4 := Lib.hid (show MapH W4 M 0 (upF X 0) by rw [hW4, hM, up_zero]; exact MapH.made wz)
        have HB4 := Lib.hid (show Below M wz W4 by rw [hW4, hM]; exact (Below.refl _ wz).alloc (Nat.le_refl _) _)
        have HRZ := Lib.hid (show Rws wz A c q from HQ.out.below HB3.out)
        have HVZ := Lib.hid (show Vec .i32 wz Av cv v from HV.out.below HB3.out)
        have HYZ := Lib.hid (show Hits wz F3 f3 LS from HY3.out)
        have HMB := Lib.hid (show w.heap.size ≤ M by rw [hM]; exact HMB0.out)
        have HBZ := Lib.hid (show Below w.heap.size w wz from HB0.out.trans (HB3.out.mono HB0.out.size))
        have HXM := Lib.hid (fun (Z : World) (hZ : Below M wz Z) => show Z.cell? ⟨w.heap.size, 0, none⟩ = some (.slice Av nv cv) from by
          have h := (HX.out wz HB3.out).1
          exact (hZ.cell (p := ⟨w.heap.size, 0, none⟩) (by rw [hM]; exact World.block_lt_of_cell? wz _ h)).trans h)
        have HW4 := Lib.hid hW4
        have HM := Lib.hid hM
        obtain ⟨e0, e1⟩ := HX.out wz HB3.out
        have hmm := @run_makeMap Try.prog
        clear hW4 hM
        go_wp2
        rw [← HW4.out, ← HM.out]
        clear hmm hm1 e0 e1
        go_loopw [48] (fun i wv => ∃ j : Nat, j ≤ xl ∧ i = .int .i64 j ∧ Hid (MapH wv M j (upF X j) ∧ Below M wz wv)) (fun i _ => xl - (intOf i).toNat)
        case atStart => exact ⟨0, by omega, rfl, Lib.hid ⟨HM4.out, HB4.out⟩⟩
        case round =>
          obtain ⟨j, hj, rfl, HJ⟩ := hrel
          by_cases hjn : j < xl
          · obtain ⟨b, o, p, hA, hp, hb, c0, c1, hv, hf⟩ := HRZ.out.at_ (i := j) (by rw [← HNQ.out]; exact hjn)
            subst hA
            have d0 := (HJ.out.2.cell (p := ⟨b, o + j * 2, none⟩) (by rw [HM.out]; exact hb)).trans c0
            have d1 := (HJ.out.2.cell (p := ⟨b, o + j * 2 + 1, none⟩) (by rw [HM.out]; exact hb)).trans c1
            have hbz : Below wz.heap.size wz wr := by rw [← HM.out]; exact HJ.out.2
            obtain ⟨W1, hW1⟩ : ∃ W1, W1 = wr.alloc (.cells #[.int .u64 p.i, .slice p.B p.x.length p.c] 64) := ⟨_, rfl⟩
            have hb1 : Below wr.heap.size wr W1 := by rw [hW1]; exact (Below.refl _ wr).alloc (Nat.le_refl _) _
            have hbz1 : Below wz.heap.size wz W1 := hbz.trans (hb1.mono hbz.size)
            have hD := dist_any p.B Av p.c cv p.x v W1 (hv.below hbz1) (HVZ.out.below hbz1)
            rw [HXD.out p (List.mem_of_getElem? hp), ← HNV.out] at hD
            have hx1 : W1.heap[wr.heap.size]? = some (.cells #[.int .u64 p.i, .slice p.B p.x.length p.c] 64 (0, 0)) := by rw [hW1]; exact heap_alloc_new _ _
            have hwx := HXE.out j hjn
            have hst := HUS.out j hjn
            have hu := HUI.out j (X.getD j z2)
            have hxg := HXG.out j p hp
            obtain ⟨x, hx⟩ : ∃ x, x = X.getD j z2 := ⟨_, rfl⟩
            rw [← hx] at hwx hst hu hxg
            obtain ⟨x1, x2⟩ := x
            injection hxg with g1 g2
            subst g1 g2
            have HD := Lib.hid hD
            have HX1 := Lib.hid hx1
            have HB1 := Lib.hid hb1
            have HST := Lib.hid hst
            have HWX := Lib.hid hwx
            have HHJ := Lib.hid (And.intro HJ.out.1 HJ.out.2)
            have z0 := (cell_of_row _ _ 0 _ _ _ hx1).trans rfl
            have z1 := (cell_of_row _ _ 1 _ _ _ hx1).trans rfl
            have e0 := HXM.out W1 (HJ.out.2.trans (hb1.mono (by have := HJ.out.1.lt; omega)))
            have HW1 := Lib.hid hW1
            have k0 : (0 : Int) ≤ j := by omega
            have kn : (j : Int) < xl := by omega
            generalize distD p.x v = D at *
            clear hx hp hb c0 c1 hv hf hbz hb1 hbz1 hD hx1 hst hwx hW1
            go_wp2_with (rw [← HW1.out])
            with_reducible refine HD.out.mono ?_
            rintro e w5 ⟨rfl, hb5⟩
            have hbr5 := HB1.out.trans (hb5.mono HB1.out.size)
            have hD5 : MapH w5.drew M j (upF X j) := (HHJ.out.1.same (hbr5.block _ HHJ.out.1.lt)).same rfl
            obtain ⟨st, V1, V2, hl0, hen, hl1, hes, hl2, hM6, hg6⟩ := hD5.bump (by omega) HWX.out (upF X j (p.i, D) + 1) (WalkArith.wf_i64 (by omega))
            rw [HST.out] at hM6
            have hMr : M ≤ wr.heap.size := Nat.le_of_lt HHJ.out.1.lt
            have HN := Lib.hid (show MapH V2 M (j + 1) (upF X (j + 1)) ∧ Below M wz V2 from ⟨hM6, (HHJ.out.2.trans ((hbr5.mono hMr).trans (below_drew (Below.refl _ w5)))).trans (below_grown hg6 (Nat.le_trans hMr hbr5.size))⟩)
            have X5 := (hb5.block _ (lt_of_block HX1.out)).trans HX1.out
            have y0 : w5.cell? ⟨wr.heap.size, 0, none⟩ = some (.int .u64 p.i) := (cell_of_row _ _ 0 _ _ _ X5).trans rfl
            clear hb5 hbr5 hD5 hM6 hg6 hMr X5 z0 z1 e0
            generalize upF X j (p.i, D) = u at *
            have wu : wrap64 (u + 1) = u + 1 := wrap64_fit (by omega)
            have wu2 : IntKind.i64.wrap (u + 1) = u + 1 := i64_fit (by omega)
            go_wp2
            go_region
            all_goals (
              go_wp2
              go_roundw
              case rel => exact ⟨j + 1, by omega, by go_num, HN⟩
              case measure => simp [intOf]; omega)
          · obtain rfl : j = xl := by omega
            obtain ⟨wy, hwy⟩ : ∃ wy, wy = wr := ⟨_, rfl⟩
            rw [← hwy] at HJ ⊢
            clear hwy
            have HM7 := Lib.hid (show MapH wy M (300 + 0) (downF X LS 0) by rw [← HDZ.out]; exact HJ.out.1.mono (by omega))
            go_wp2
            go_loopw [74] (fun i wv => ∃ q : Nat, q ≤ yl ∧ i = .int .i64 q ∧ Hid (MapH wv M (300 + q) (downF X LS q) ∧ Below M wz wv)) (fun i _ => yl - (intOf i).toNat)
            case atStart => exact ⟨0, by omega, rfl, Lib.hid ⟨HM7.out, HJ.out.2⟩⟩
            case round =>
              obtain ⟨q, hq, rfl, HQQ⟩ := hrel
              by_cases hqn : q < yl
              · obtain ⟨g1, o1, hF, hg, hc1, hc2⟩ := HYZ.out.at_ (j := q) (by rw [← HYN.out]; exact hqn)
                subst hF
                have e1 := (HQQ.out.2.cell (p := ⟨g1, o1 + q * 2, none⟩) (by rw [HM.out]; exact hg)).trans hc1
                have e2 := (HQQ.out.2.cell (p := ⟨g1, o1 + q * 2 + 1, none⟩) (by rw [HM.out]; exact hg)).trans hc2
                have hwx := HYF.out q hqn
                have hst := HDS.out q hqn
                have hu := HDI.out q (LS.getD q z2)
                have hu2 := HDI.out (q + 1) (LS.getD q z2)
                obtain ⟨x, hx⟩ : ∃ x, x = LS.getD q z2 := ⟨_, rfl⟩
                rw [← hx] at hwx hst hu hu2 e1 e2
                have hu3 : downF X LS (q + 1) x = downF X LS q x - 1 := by rw [← hst]; exact if_pos rfl
                rw [hu3] at hu2
                obtain ⟨W5, hW5⟩ : ∃ W5, W5 = wr.alloc (.cells #[.int .u64 x.1, .int .u64 x.2] 76) := ⟨_, rfl⟩
                have hb5 : Below wr.heap.size wr W5 := by rw [hW5]; exact (Below.refl _ wr).alloc (Nat.le_refl _) _
                have hD5 : MapH W5.drew M (300 + q) (downF X LS q) := (HQQ.out.1.same (hb5.block _ HQQ.out.1.lt)).same rfl
                obtain ⟨st, V1, V2, hl0, hen, hl1, hes, hl2, hM6, hg6⟩ := hD5.bump (by omega) hwx (downF X LS q x - 1) (WalkArith.wf_i64 (by omega))
                rw [hst] at hM6
                have hMr : M < wr.heap.size := HQQ.out.1.lt
                have hBV : Below M wz V2 := (HQQ.out.2.trans ((hb5.mono (Nat.le_of_lt hMr)).trans (below_drew (Below.refl _ W5)))).trans (below_grown hg6 (Nat.le_trans (Nat.le_of_lt hMr) hb5.size))
                have q1 : W5.cell? ⟨wr.heap.size, 0, none⟩ = some (.int .u64 x.1) := by rw [hW5]; exact cell_laid _ _ _ 0
                have q2 : W5.cell? ⟨wr.heap.size, 1, none⟩ = some (.int .u64 x.2) := by rw [hW5]; exact cell_laid _ _ _ 1
                have hz5 : wr.heap.size < W5.heap.size := by rw [hW5, World.size_alloc]; omega
                have hk : V2.heap[wr.heap.size]? = W5.heap[wr.heap.size]? := hg6.block _ hz5 (by simp; omega)
                have q3 : V2.cell? ⟨wr.heap.size, 0, none⟩ = some (.int .u64 x.1) := (World.cell?_of_block (w := W5) hk).trans q1
                have q4 : V2.cell? ⟨wr.heap.size, 1, none⟩ = some (.int .u64 x.2) := (World.cell?_of_block (w := W5) hk).trans q2
                have HMV := Lib.hid (fun (Z : World) (hZ : Below V2.heap.size V2 Z) => show MapH Z M (300 + (q + 1)) (downF X LS (q + 1)) ∧ Below M wz Z from
                  ⟨hM6.same (hZ.block _ hM6.lt), hBV.trans (hZ.mono (Nat.le_of_lt hM6.lt))⟩)
                have hux : downF X LS (q + 1) x = downF X LS q x - 1 := hu3
                have HLk := Lib.hid (fun (Z : World) (hZ : Below V2.heap.size V2 Z) => show (Instr.lookup 80 (.map (some M)) (.agg #[.int .u64 x.1, .int .u64 x.2]) false).run Try.prog Z = .ok (.int .i64 (downF X LS q x - 1)) Z from by
                  have := (HMV.out Z hZ).1.look (x := x) hwx
                  rw [hux] at this
                  exact this)
                have HCl := Lib.hid (fun (Z : World) (hZ : Below V2.heap.size V2 Z) => show Z.cell? ⟨wr.heap.size, 0, none⟩ = some (.int .u64 x.1) ∧ Z.cell? ⟨wr.heap.size, 1, none⟩ = some (.int .u64 x.2) from
                  ⟨(hZ.cell (p := ⟨wr.heap.size, 0, none⟩) (World.block_lt_of_cell? V2 _ q3)).trans q3, (hZ.cell (p := ⟨wr.heap.size, 1, none⟩) (World.block_lt_of_cell? V2 _ q4)).trans q4⟩)
                have HPrev := Lib.hid (fun (j : Nat) (hj : q = j + 1) => show compareM (LS.getD j z2).1 (LS.getD j z2).2 x.1 x.2 ≤ 0 ∧ ∀ (Z : World), Below V2.heap.size V2 Z → Z.cell? ⟨g1, o1 + j * 2, none⟩ = some (.int .u64 (LS.getD j z2).1) ∧ Z.cell? ⟨g1, o1 + j * 2 + 1, none⟩ = some (.int .u64 (LS.getD j z2).2) from by
                  have hord := HYS.out j (by omega)
                  rw [← hj, ← hx] at hord
                  have hcg := compare_gt (LS.getD j z2) x
                  rw [hord] at hcg
                  refine ⟨by have := of_decide_eq_false hcg; omega, fun Z hZ => ?_⟩
                  obtain ⟨g2, o2, hF2, hg2, hc3, hc4⟩ := HYZ.out.at_ (j := j) (by rw [← HYN.out]; omega)
                  injection hF2 with he
                  injection he with he1 he2
                  subst he1 he2
                  have hbZ := hBV.trans (hZ.mono (Nat.le_of_lt hM6.lt))
                  exact ⟨(hbZ.cell (p := ⟨g1, o1 + j * 2, none⟩) (by rw [HM.out]; exact hg2)).trans hc3, (hbZ.cell (p := ⟨g1, o1 + j * 2 + 1, none⟩) (by rw [HM.out]; exact hg2)).trans hc4⟩)
                have HW5 := Lib.hid hW5
                clear hW5 hb5 hD5 hM6 hg6 hst hwx hx hc1 hc2 hg hMr hu3 hux hk hz5 hBV q3 q4
                generalize downF X LS q x = u at *
                obtain ⟨x1, x2⟩ := x
                dsimp only at *
                have wu : wrap64 (u - 1) = u - 1 := wrap64_fit (by omega)
                have wu2 : IntKind.i64.wrap (u - 1) = u - 1 := i64_fit (by omega)
                have wu3 : ¬ (u - 1 < 0) := by omega
                have wu4 : decide (u - 1 < 0) = false := by simp; omega
                have j0 : (0 : Int) ≤ q := by omega
                have jn : (q : Int) < yl := by omega
                go_wp2
                rw [← HW5.out]
                go_region
                all_goals (
                  clear hl0 hen hl1 hes hl2 q1 q2 e1 e2
                  have HBd := Lib.hid (below_drew (Below.refl V2.heap.size V2))
                  rcases Nat.eq_zero_or_pos q with hq0 | hq0
                  · subst hq0
                    have tq : decide ((0 : Int) < ((0 : Nat) : Int)) = false := by simp
                    have l1 := HLk.out V2.drew HBd.out
                    obtain ⟨q5, q6⟩ := HCl.out V2.drew HBd.out
                    obtain ⟨q3, q4⟩ := HCl.out V2 (Below.refl _ _)
                    have l0 := HLk.out V2 (Below.refl _ _)
                    have HN := Lib.hid (HMV.out V2.drew HBd.out)
                    go_wp2
                    go_region
                    all_goals (
                      go_wp2
                      go_roundw
                      case rel => exact ⟨0 + 1, by omega, by go_num, HN⟩
                      case measure => simp [intOf]; omega)
                  · obtain ⟨j, hJj⟩ : ∃ j, q = j + 1 := ⟨q - 1, by omega⟩
                    obtain ⟨hcm, hpc⟩ := HPrev.out j hJj
                    have HPC := Lib.hid hpc
                    have HC := Lib.hid (fun V => compare_any (LS.getD j z2).1 (LS.getD j z2).2 x1 x2 V)
                    generalize (LS.getD j z2).1 = y1 at *
                    generalize (LS.getD j z2).2 = y2 at *
                    generalize compareM y1 y2 x1 x2 = cm at *
                    have hgt : decide (0 < cm) = false := by simp; omega
                    have hix : (q : Int) - 1 = (j : Int) := by omega
                    have hwj : IntKind.i64.wrap (j : Int) = j := i64_fit (by omega)
                    have tq : decide ((0 : Int) < (q : Int)) = true := by simp; omega
                    have tq2 : decide (0 < q) = true := by simp; omega
                    have jj0 : (0 : Int) ≤ j := by omega
                    have jjn : (j : Int) < yl := by omega
                    have HJJ := Lib.hid hJj
                    have HSS := Lib.hid (fun (Z : World) (hZ : Below V2.heap.size V2 Z) => show (Instr.lookup 80 (.map (some M)) (.agg #[.int .u64 x1, .int .u64 x2]) false).run Try.prog Z = .ok (.int .i64 (u - 1)) Z ∧ Z.cell? ⟨wr.heap.size, 0, none⟩ = some (.int .u64 x1) ∧ Z.cell? ⟨wr.heap.size, 1, none⟩ = some (.int .u64 x2) ∧ Z.cell? ⟨g1, o1 + j * 2, none⟩ = some (.int .u64 y1) ∧ Z.cell? ⟨g1, o1 + j * 2 + 1, none⟩ = some (.int .u64 y2) from
                      ⟨HLk.out Z hZ, (HCl.out Z hZ).1, (HCl.out Z hZ).2, (HPC.out Z hZ).1, (HPC.out Z hZ).2⟩)
                    obtain ⟨l0, q3, q4, q5, q6⟩ := HSS.out V2 (Below.refl _ _)
                    clear hJj hcm hpc
                    go_wp2
                    go_region_held3 (fun Z => (Instr.lookup 80 (.map (some M)) (.agg #[.int .u64 x1, .int .u64 x2]) false).run Try.prog Z = .ok (.int .i64 (u - 1)) Z ∧ Z.cell? ⟨wr.heap.size, 0, none⟩ = some (.int .u64 x1) ∧ Z.cell? ⟨wr.heap.size, 1, none⟩ = some (.int .u64 x2) ∧ Z.cell? ⟨g1, o1 + j * 2, none⟩ = some (.int .u64 y1) ∧ Z.cell? ⟨g1, o1 + j * 2 + 1, none⟩ = some (.int .u64 y2))
                      (first | (with_reducible exact HSS.out _ (Below.refl _ _)) | (with_reducible exact HSS.out _ HBd.out) | (with_reducible exact HSS.out _ HC6.out))
                      (first
                      | (go_at_call 43; (with_reducible refine (HC.out _).mono ?_); rintro e w6 ⟨rfl, hb6⟩; have HC6 := Lib.hid (show Below V2.heap.size V2 w6 from HBd.out.trans (hb6.mono HBd.out.size)); clear hb6))
                    all_goals (
                      have HN := Lib.hid (HMV.out w6 HC6.out)
                      go_wp2
                      go_roundw
                      case rel => exact ⟨q + 1, by omega, by go_num, HN⟩
                      case measure => simp [intOf]; omega))
              · obtain rfl : yl = q := by omega
                obtain ⟨wx, hwx⟩ : ∃ wx, wx = wr := ⟨_, rfl⟩
                rw [← hwx] at HQQ ⊢
                clear hwx
                have HBX := Lib.hid HQQ.out.2
                obtain ⟨D, hown, htell⟩ := HQQ.out.1
                have HT := Lib.hid htell
                have hMx : M < wx.heap.size := hown.lt
                clear htell HQQ
                go_wp2_with (first
                  | (at_range; refine wpList_range_own _ rfl _ 80 rfl 76 3 keyedHit Try.underlying80 Ri M (300 + yl) D rfl hown ?_; intro w0 hrg0 hg0 hs0)
                  | go_in)
                go_frame
                go_loopw [14, 15] (fun _ _ wr => ∃ (left : Lit → Bool) (cnt : Nat), wr.ranges Try.prog 76 Ri M wx.heap.size (300 + yl) D left cnt ∧ Hid (Below M wz wr)) (fun _ _ wr => wr.rangeLeft M wx.heap.size)
                case atStart => exact ⟨_, _, hrg0, Lib.hid (HBX.out.trans (below_grown (hg0.but (some M)) (Nat.le_of_lt hMx)))⟩
                case round =>
                  obtain ⟨left, cnt, hrg, HR⟩ := hrel
                  go_wp2_with (first
                    | (at_next; refine wpList_next_ranges _ rfl _ rfl 76 keyedHit Ri hK (Value.int .i64) (fun key kl h => by obtain ⟨x, e, _⟩ := key_inv h; exact ⟨x, e⟩) (fun v y h => by obtain ⟨c, e, _⟩ := plainElem_int_inv Try.underlying3 h; exact ⟨c, e⟩) M wx.heap.size (300 + yl) D _ _ rfl hrg ?_ ?_)
                    | go_in)
                  · intro hc0 hl0
                    clear hc0 hl0
                    go_wp2
                    go_ret
                    exact ⟨rfl, HBZ.out.trans (HR.out.mono HMB.out)⟩
                  · intro xa xb c kl ya yb w1 cnt1 hkl hlk hy hat hrg1 hlt hg1 hs1 hen
                    obtain ⟨hcx, hwx⟩ := told (x := (xa, xb)) (y := (ya, yb)) HT.out hkl hy hat
                    have HML := Lib.hid hrg.left_eq
                    have hlr := hrg.lt
                    have hb1 : Below M wz w1 := HR.out.trans (grown_at hg1 (Nat.le_of_lt hMx) (by omega))
                    have hM1 : M ≤ w1.heap.size := by omega
                    obtain ⟨W6, hW6⟩ : ∃ W6, W6 = w1.alloc (.cells #[.int .u64 xa, .int .u64 xb] 76) := ⟨_, rfl⟩
                    have hrg6 := (show W6.ranges Try.prog 76 Ri M wx.heap.size (300 + yl) D (fun z => left z && !z.sameKey kl) cnt1 by rw [hW6]; exact hrg1.alloc _).kept (w' := W6.drew) (row := none) ⟨rfl, rfl, rfl, Nat.le_refl _, fun _ _ _ => rfl⟩ (by simp) (by simp)
                    have hb6 : Below M wz W6.drew := (by rw [hW6]; exact hb1.alloc hM1 _ : Below M wz W6).trans (below_drew (Below.refl _ W6))
                    have q1 : W6.cell? ⟨w1.heap.size, 0, none⟩ = some (.int .u64 xa) := by rw [hW6]; exact cell_laid _ _ _ 0
                    have q2 : W6.cell? ⟨w1.heap.size, 1, none⟩ = some (.int .u64 xb) := by rw [hW6]; exact cell_laid _ _ _ 1
                    have HW6 := Lib.hid hW6
                    have HRG6 := Lib.hid hrg6
                    have HB6 := Lib.hid hb6
                    have HLT := Lib.hid hlt
                    have hen' : (Instr.entry (.pointer (some ⟨wx.heap.size, 0, none⟩))).run Try.prog w1 = .ok (.tuple #[.agg #[.int .u64 xa, .int .u64 xb], .int .i64 c]) w1 := hen
                    have HCX := Lib.hid hcx
                    clear hkl hlk hy hat hrg1 hlt hg1 hen hrg6 hb6 hW6 hcx hrg hlr hb1 hM1 hs1
                    by_cases hc0 : 0 < c
                    · have hd1 : decide (0 < c) = true := by simpa using hc0
                      by_cases hy0 : 0 < yl
                      · have hd2 : decide ((0 : Int) < yl) = true := by simp; omega
                        have hy1 : (0 : Int) < yl := by omega
                        obtain ⟨j, hJj⟩ : ∃ j, yl = j + 1 := ⟨yl - 1, by omega⟩
                        obtain ⟨g1, o1, hF, hg, hc1, hc2⟩ := HYZ.out.at_ (j := j) (by rw [← HYN.out]; omega)
                        subst hF
                        have e3 := (HB6.out.cell (p := ⟨g1, o1 + j * 2, none⟩) (by rw [HM.out]; exact hg)).trans hc1
                        have e4 := (HB6.out.cell (p := ⟨g1, o1 + j * 2 + 1, none⟩) (by rw [HM.out]; exact hg)).trans hc2
                        have HG := compare_lt (xa, xb) (LS.getD j z2)
                        rw [HLE.out (xa, xb) j (by rw [← HCX.out]; exact hc0) (by omega)] at HG
                        have HC := Lib.hid (fun V => compare_any xa xb (LS.getD j z2).1 (LS.getD j z2).2 V)
                        clear HCX
                        generalize (LS.getD j z2).1 = y1 at *
                        generalize (LS.getD j z2).2 = y2 at *
                        dsimp only at HG
                        generalize compareM xa xb y1 y2 = cm at *
                        have hcm : ¬ cm < 0 := by simpa using HG
                        have hcm2 : decide (cm < 0) = false := by simpa using HG
                        have hix : (yl : Int) - 1 = (j : Int) := by omega
                        have hwj : IntKind.i64.wrap (j : Int) = j := i64_fit (by omega)
                        have j0 : (0 : Int) ≤ j := by omega
                        have jn : (j : Int) < yl := by omega
                        have S0 := Lib.hid (show W6.drew.cell? ⟨w1.heap.size, 0, none⟩ = some (.int .u64 xa) ∧ W6.drew.cell? ⟨w1.heap.size, 1, none⟩ = some (.int .u64 xb) ∧ W6.drew.cell? ⟨g1, o1 + j * 2, none⟩ = some (.int .u64 y1) ∧ W6.drew.cell? ⟨g1, o1 + j * 2 + 1, none⟩ = some (.int .u64 y2) from ⟨q1, q2, e3, e4⟩)
                        have HJJ := Lib.hid hJj
                        clear hc1 hc2 hg hJj HG e3 e4 q1 q2
                        go_wp2
                        rw [← HW6.out]
                        go_region_held3 (fun W => W.cell? ⟨w1.heap.size, 0, none⟩ = some (.int .u64 xa) ∧ W.cell? ⟨w1.heap.size, 1, none⟩ = some (.int .u64 xb) ∧ W.cell? ⟨g1, o1 + j * 2, none⟩ = some (.int .u64 y1) ∧ W.cell? ⟨g1, o1 + j * 2 + 1, none⟩ = some (.int .u64 y2)) (first | exact S0.out | exact S1.out) (first
                          | (go_at_call 43; (with_reducible refine (HC.out _).mono ?_); rintro e w5 ⟨rfl, hb5⟩; have S1 := Lib.hid (And.intro (keepS S0.out.1 hb5) (And.intro (keepS S0.out.2.1 hb5) (And.intro (keepS S0.out.2.2.1 hb5) (keepS S0.out.2.2.2 hb5)))); have HB5 := Lib.hid hb5; clear hb5))
                        all_goals (
                          go_wp2
                          go_roundw
                          case rel => exact ⟨_, cnt1, HRG6.out.kept (grownN_below HB5.out) (by simp) (by simp), Lib.hid (HB6.out.trans (HB5.out.mono (Nat.le_trans (Nat.le_of_lt hMx) (Nat.le_of_lt HRG6.out.lt))))⟩
                          case measure =>
                            rw [(HRG6.out.kept (grownN_below HB5.out) (by simp) (by simp)).left_eq, HML.out]
                            exact HLT.out)
                      · have hd2 : decide ((0 : Int) < yl) = false := by simp; omega
                        have hy1 : ¬ (0 : Int) < yl := by omega
                        clear HCX
                        go_wp2
                        rw [← HW6.out]
                        go_quiet (fail)
                        all_goals (
                          go_wp2
                          go_roundw
                          case rel => exact ⟨_, cnt1, HRG6.out.kept (row := none) ⟨rfl, rfl, rfl, Nat.le_refl _, fun _ _ _ => rfl⟩ (by simp) (by simp), Lib.hid (HB6.out.trans ⟨rfl, rfl, rfl, Nat.le_refl _, fun _ _ => rfl⟩)⟩
                          case measure =>
                            rw [(HRG6.out.kept (w' := W6.drewN nq) (row := none) ⟨rfl, rfl, rfl, Nat.le_refl _, fun _ _ _ => rfl⟩ (by simp) (by simp)).left_eq, HML.out]
                            exact HLT.out)
                    · have hd1 : decide (0 < c) = false := by simpa using hc0
                      clear HCX
                      go_wp2
                      rw [← HW6.out]
                      go_quiet (fail)
                      all_goals (
                        go_wp2
                        go_roundw
                        case rel => exact ⟨_, cnt1, HRG6.out.kept (row := none) ⟨rfl, rfl, rfl, Nat.le_refl _, fun _ _ _ => rfl⟩ (by simp) (by simp), Lib.hid (HB6.out.trans ⟨rfl, rfl, rfl, Nat.le_refl _, fun _ _ => rfl⟩)⟩
                        case measure =>
                          rw [(HRG6.out.kept (w' := W6.drewN nq) (row := none) ⟨rfl, rfl, rfl, Nat.le_refl _, fun _ _ _ => rfl⟩ (by simp) (by simp)).left_eq, HML.out]
                          exact HLT.out)
      · have hL0 : LS = [] := by
          rw [HLS.out]
          unfold rowsL
          rw [← HES.out, if_neg hE0]
        subst hL0
        have t1 : (ES != 0) = true := by simpa using hE0
        clear hE0
        go_wp2
        go_ret
        exact ⟨rfl, HB0.out.trans (HB3.out.mono HB0.out.size)⟩

set_option maxRecDepth 100000 in
theorem lifted (os : Os) (started : os.Started) (H : Type) (enc : TypeId × Value → H) :
    ReturnsInHanded {} Try.checked os 9 .any (Rows.flatNearSpec.pre6 enc Try.prog Try.f9 Rows.flatNearRow.domain false) (Rows.flatNearSpec.post enc Try.prog Try.f9 false true false false) := by
  refine returnsInHanded_of_change (C := Try.checked) Try.own started (by kernel_rfl) Try.func9
    (ChangeSpec.witness6 (enc := enc) (C := Try.checked) false ⟨#[], #[.slice none 0 0, .agg #[.slice none 0 0, .int .i64 0]], []⟩ 8 (by kernel_rfl) (by kernel_rfl) (by kernel_rfl) (by kernel_rfl)) ?_
  intro W base args ds gs before hval0 hW hcnd _
  have hval : ∀ (j : Nat) t v, Try.f9.params[j]? = some t → args[j]? = some v → Value.okWide Try.prog W .any base t v := hval0
  have hW' := hW
  obtain ⟨p, q, hA0, hV, rfl, hfz, hnd⟩ := hW
  have hA : DataW.TrodAll enc Try.prog W 0 (fun _ => true) true Try.f9.params.toList args.toList ds p := hA0
  rw [Try.params9] at hA hval
  have hA' := hA
  obtain ⟨v0, vs0, d0, ds0, p0, q0, hargs, rfl, rfl, h0, r0⟩ := trodAll_cons hA
  obtain ⟨v1, vs1, d1, ds1, p1, q1, rfl, rfl, rfl, h1, r1⟩ := trodAll_cons r0
  obtain ⟨rfl, rfl, rfl⟩ := trodAll_nil r1
  obtain rfl : args = #[v0, v1] := by cases args; simp_all
  obtain ⟨rfl, rfl⟩ := trodVars_none hV
  obtain ⟨A0, len0, c0, rfl⟩ := okWide_slice Try.underlying57 (hval 0 57 v0 rfl rfl)
  obtain ⟨z0, rfl, sl0⟩ := open_rows h0
  obtain ⟨A1, c1, z1, k1, rfl, sl1, wk1⟩ := open_query (hval 1 50 v1 rfl rfl) h1
  clear hA0 hval0
  refine (walk A0 c0 z0 sl0 A1 c1 z1 k1 sl1 wk1).mono fun e W' ⟨he, bel⟩ => ?_
  subst he
  exact ⟨_, rfl, _, _, _, [], _, [], hW', trodAll_mk1 (shut_bool Try.underlying4 _), trodAll_below bel _ _ _ _ (by kernel_rfl) hA', rfl, bel.frame _, fun h => by cases h⟩

theorem proved : Rows.FlatNearSaid :=
  OpenClaim.holds_of_wide 9 Try.f9 rfl rfl rfl rfl rfl rfl rfl ⟨rfl, rfl, rfl, rfl, rfl⟩ rfl rfl rfl rfl rfl (by kernel_rfl) Try.func9 (by kernel_rfl)
    (of_decide_eq_true (by kernel_rfl)) (by unfold Func.isWrapper; first | (rw [if_pos (by decide +kernel)]; kernel_rfl) | (rw [if_neg (by decide +kernel)]; exact ⟨rfl, rfl⟩))
    (fun os started H enc _ => lifted os started H enc)
#print axioms proved
end Go.Proofs.Ytdbcecmlakgknaa.flatNear
