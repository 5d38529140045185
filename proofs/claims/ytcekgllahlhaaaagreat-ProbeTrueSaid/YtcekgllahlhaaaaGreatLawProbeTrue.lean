/-
  ProbeTrue: each hit is of a row of the nearest lists, at its true distance. Holds for all rows, centroids, probes and worlds; of these what the law goes through.
-/
import Derived.Test.YtcekgllahlhaaaaGreatMPrF
import Derived.Test.YtcekgllahlhaaaaGreatMPrM
namespace Go.Proofs.YtcekgllahlhaaaaGreat.probeTrue
open Go.ChangeShapes Go.WideShapes Go.ChangeAt Go.RowKit Go.Deep Go.Shelf Go.Maps
open TopL (HitM firstM isKM z2 Hits wfH MapH upF downF updH down_step fit_at first_fit first_length below_grown hK)
set_option linter.unusedVariables false
set_option linter.unusedSimpArgs false
set_option maxRecDepth 100000

theorem wrap64_fit {x : Int} (h : -9223372036854775808 ≤ x ∧ x < 9223372036854775808) : wrap64 x = x := by unfold wrap64; omega
theorem dist_fit {a b : List Int} (ha : right a = true) (hb : right b = true) : (Lit.int .u64 (distD a b)).wf = true := by
  have h : 0 ≤ distD a b ∧ distD a b < 18446744073709551616 := by
    unfold distD
    split
    · unfold distM
      have h1 := sumP_le _ (zip_in ha hb)
      have h2 : (a.zip b).length ≤ 4 := by rw [List.length_zip]; have := (right_len ha).2; omega
      have h3 : (4611686009837453316 : Int) * ((a.zip b).length : Int) ≤ 4611686009837453316 * 4 := Int.mul_le_mul_of_nonneg_left (by omega) (by decide)
      omega
    · omega
  simp [Lit.wf, IntKind.min, IntKind.max, IntKind.signed, IntKind.bits]
  omega
/-- What rows that are searched are. -/
theorem pr_ok {k N : Int} {R : List Rv} {C : List (List Int)} {v : List Int} (h : prE k N R C v = 0) :
    isKM k = true ∧ right v = true ∧ nB N = true ∧ cenE C = 0 ∧ dimC C = v.length ∧ rightR R = true ∧ (∀ p ∈ R, p.2.length = dimC C) ∧ prL k N R C v = TopL.firstM k.toNat (hitL (belL C (askM C v N) R) v) := by
  have hL : prL k N R C v = rowsL k (belL C (askM C v N) R) v := by unfold prL; rw [if_pos h]
  unfold prE at h
  split at h
  · rename_i h1
    obtain ⟨hcp, hce, hrr⟩ := rfE_ok h1
    obtain ⟨hN, hQ⟩ := chkP_ok hcp
    obtain ⟨hK, hvr⟩ := chkQ_ok hQ
    split at h
    · rename_i hd
      split at h
      · rename_i hbe
        refine ⟨hK, hvr, hN, hce, hd, hrr, fun p hp => ?_, by rw [hL]; unfold rowsL; rw [if_pos h]⟩
        unfold belE at hbe
        split at hbe
        · rename_i ha; exact of_decide_eq_true (List.all_eq_true.1 ha p hp)
        · omega
      · omega
    · omega
  · rename_i h1; exact absurd h h1

set_option maxHeartbeats 16000000 in
theorem walk {w : World} (Ax : Option Addr) (cx : Nat) (q0 : List Pr) (hx : Rws w Ax cx q0) (Ay : Option Addr) (cy : Nat) (Y : List (List Int)) (hy : Vecs .i32 w Ay cy Y) (P : Pb) (hp : Vec .i32 w P.B P.c P.x) :
    Calls Tryz.prog 8 #[.slice Ax q0.length cx, .slice Ay Y.length cy, pv P.B P.x.length P.c P.k P.t P.n] w fun e w' => e = .returned (.bool true) ∧ Below w.heap.size w w' := by
  obtain ⟨nx, hnx⟩ : ∃ k, k = q0.length := ⟨_, rfl⟩
  obtain ⟨ny, hny⟩ : ∃ k, k = Y.length := ⟨_, rfl⟩
  obtain ⟨np, hnp⟩ : ∃ k, k = P.x.length := ⟨_, rfl⟩
  obtain ⟨g0, hg0⟩ : ∃ g, g = w.heap.size := ⟨_, rfl⟩
  obtain ⟨W0, hW0⟩ : ∃ W0, W0 = w.alloc (.cells #[.slice P.B np P.c, .int .i64 P.k, .int .u64 P.t, .int .i64 P.n] 47) := ⟨_, rfl⟩
  obtain ⟨hp0, hb0⟩ := pbox w P.B np P.c P.k P.t P.n
  rw [← hW0] at hp0 hb0
  rw [← hg0] at hp0
  have HWk := Lib.hid (wakes_any W0)
  have HRs := Lib.hid (fun (X : World) (hX : Below W0.heap.size W0 X) => rowsO_any Ax cx q0 X ((hx.below hb0).below hX))
  have HVs := Lib.hid (fun (X : World) (hX : Below W0.heap.size W0 X) => vecsO_any Ay cy Y X ((hy.below hb0).below hX))
  have HSo := Lib.hid (fun (X : World) (hX : Below W0.heap.size W0 X) => someO_any P.B P.c P.x P.k P.t P.n X ((hp.below hb0).below hX))
  have HP := Lib.hid (fun (X : World) (hX : Below W0.heap.size W0 X) => hp0.below hX hp0.lt)
  rw [← hnx] at HRs
  rw [← hny] at HVs
  rw [← hnp] at HSo
  have HCl := Lib.hid (cutC_len Y)
  have HRl := Lib.hid (show (cutR (rvs q0)).length ≤ 60 by rw [cutR_len]; omega)
  generalize hR : cutR (rvs q0) = R at *
  generalize hC : cutC Y = C at *
  generalize hv : P.x.take 5 = v at *
  obtain ⟨n, hn⟩ : ∃ n, n = C.length := ⟨_, rfl⟩
  obtain ⟨nv, hnv⟩ : ∃ n, n = v.length := ⟨_, rfl⟩
  have HN := Lib.hid hn
  have HNv := Lib.hid hnv
  rw [← hn] at HVs HCl
  rw [← hnv] at HSo
  rw [← hnx, ← hny, ← hnp]
  have HB0 := Lib.hid hb0
  have HW0 := Lib.hid hW0
  have HG0 := Lib.hid hg0
  obtain ⟨x0, x1, x2, x3⟩ := hp0
  clear hx hy hp hb0 hW0 hg0 hnx hny hnp hR hC hv hn hnv
  unfold pv at *
  go_enter Tryz.func8, Tryz.ntmps8
  go_wp2_with (rw [← HW0.out, ← HG0.out])
  refine HWk.out.mono ?_
  rintro e w1 ⟨rfl, hb1⟩
  have HB1 := Lib.hid hb1
  obtain ⟨y0, y1, y2, y3⟩ := HP.out w1 hb1
  clear hb1 x0 x1 x2 x3
  go_upto_region 3 with fail
  refine MskL.region_relG (fun X => Below w1.heap.size w1 X) (r3 (.slice Ax nx cx) (.slice Ay ny cy) (.agg #[.slice P.B np P.c, .int .i64 P.k, .int .u64 P.t, .int .i64 P.n]) R C v P.k P.t P.n w1.heap.size) 7 3
    (r3_stable _ _ _ _ _ _ _ _ _ _) (by kernel_rfl) (below_drew (Below.refl _ _)) rfl (by decide) (by kernel_rfl) (by kernel_rfl) (by kernel_rfl) (by kernel_rfl) (by kernel_rfl) ?_ ?_
  · refine ⟨?_, ?_, ?_, ?_, ?_, ?_, ?_, trivial⟩
    · intro f w hw hd
      simp [MskL.fillR, Act.put, go_sem, MskL.relG, r3, hw, Below.refl]
    · intro f w hw hd
      have e0 : f 0 = .slice Ax nx cx := MskL.depG_of hd 0 (by kernel_rfl)
      simp [MskL.fillR, Act.put, go_sem, MskL.relG, r3, hw, Below.refl, e0]
      refine (HRs.out w (below_tr HB1.out hw)).mono ?_
      rintro e w2 ⟨A, c, q, rfl, hq, hr, hb⟩
      refine ⟨⟨A, c, q, rfl, hq, hr.mono hw.size⟩, hw.trans (hb.mono hw.size), hb⟩
    · intro f w hw hd
      simp [MskL.fillR, Act.put, go_sem, MskL.relG, r3, hw, Below.refl]
    · intro f w hw hd
      have e2 : f 2 = .slice Ay ny cy := MskL.depG_of hd 2 (by kernel_rfl)
      simp [MskL.fillR, Act.put, go_sem, MskL.relG, r3, hw, Below.refl, e2]
      refine (HVs.out w (below_tr HB1.out hw)).mono ?_
      rintro e w2 ⟨A, c, q, rfl, hq, hr, hb⟩
      refine ⟨⟨A, c, q, by rw [HN.out], hq, hr.mono hw.size⟩, hw.trans (hb.mono hw.size), hb⟩
    · intro f w hw hd
      obtain ⟨z0, z1, z2, z3⟩ := HP.out w (below_tr HB1.out hw)
      simp [MskL.fillR, Act.put, go_sem, MskL.relG, r3, hw, Below.refl, z0, z1, z2, z3]
    · intro f w hw hd
      have e4 : f 4 = .agg #[.slice P.B np P.c, .int .i64 P.k, .int .u64 P.t, .int .i64 P.n] := MskL.depG_of hd 4 (by kernel_rfl)
      simp [MskL.fillR, Act.put, go_sem, MskL.relG, r3, hw, Below.refl, e4]
      refine (HSo.out w (below_tr HB1.out hw)).mono ?_
      rintro e w2 ⟨A, c, rfl, hr, hb⟩
      refine ⟨⟨A, c, by rw [HNv.out]; rfl, World.ownsRow.mono hr.1 hw.size, hr.2⟩, hw.trans (hb.mono hw.size), hb⟩
    · intro f w hw hd
      simp [MskL.fillR, Act.put, go_sem, MskL.relG, r3, hw, Below.refl]
      refine ⟨⟨w.heap.size, rfl, hw.size, heap_alloc_new _ _⟩, hw.alloc hw.size _, bn1 _ _⟩
  intro f w3 hw hr
  obtain ⟨A1, c1, q1, e1, hq1, hr1⟩ : r3rows w1.heap.size R (f 1) w3 := hr 1 (by decide)
  obtain ⟨A2, c2, q2, e3, hq2, hr2⟩ : r3vecs w1.heap.size C (f 3) w3 := hr 3 (by decide)
  obtain ⟨A3, c3, e5, hr3⟩ : r3some w1.heap.size v P.k P.t P.n (f 5) w3 := hr 5 (by decide)
  obtain ⟨gq, e6, hgq, hbx⟩ : r3box w1.heap.size (f 6) w3 := hr 6 (by decide)
  rw [← HN.out] at e3
  rw [← HNv.out] at e5
  unfold pv at e5
  obtain ⟨n1, hn1⟩ : ∃ n1, n1 = q1.length := ⟨_, rfl⟩
  rw [← hn1] at e1
  have h4 := set4 hbx (.slice A3 nv c3) (.int .i64 P.k) (.int .u64 P.t) (.int .i64 P.n)
  have ht := put4_turn w3 gq (.slice A3 nv c3) (.int .i64 P.k) (.int .u64 P.t) (.int .i64 P.n)
  have k0 := (cell_of_row _ _ 0 _ _ _ hbx).trans rfl
  have k1 := (cell_of_row _ _ 1 _ _ _ hbx).trans rfl
  have k2 := (cell_of_row _ _ 2 _ _ _ hbx).trans rfl
  have k3 := (cell_of_row _ _ 3 _ _ _ hbx).trans rfl
  have f0 : w3.frozen? ⟨gq, 0, none⟩ = false := frozen_of_row _ _ _ _ _ hbx
  have f1 : w3.frozen? ⟨gq, 1, none⟩ = false := frozen_of_row _ _ _ _ _ hbx
  have f2 : w3.frozen? ⟨gq, 2, none⟩ = false := frozen_of_row _ _ _ _ _ hbx
  have f3 : w3.frozen? ⟨gq, 3, none⟩ = false := frozen_of_row _ _ _ _ _ hbx
  have hI : R3 w1 A1 c1 q1 A2 c2 q2 A3 c3 v gq P.k P.t P.n (put4 w3 gq (.slice A3 nv c3) (.int .i64 P.k) (.int .u64 P.t) (.int .i64 P.n)) :=
    ⟨hr1.box hbx ht, hr2.box hbx ht, hr3.box hbx ht, by rw [← HNv.out]; exact h4, hgq, hw.trans (ht.below hw.size (fun i hi => by omega))⟩
  obtain ⟨W4, hW4⟩ : ∃ W4, W4 = put4 w3 gq (.slice A3 nv c3) (.int .i64 P.k) (.int .u64 P.t) (.int .i64 P.n) := ⟨_, rfl⟩
  rw [← hW4] at hI
  unfold put4 at hW4
  have HI := Lib.hid hI
  have HQ1 := Lib.hid hq1
  have HQ2 := Lib.hid hq2
  have HN1 := Lib.hid hn1
  have HW4 := Lib.hid hW4
  clear hr hr1 hr2 hr3 h4 ht hI hW4 hq1 hq2 hn1 hbx hw y0 y1 y2 y3
  simp [MskL.fillR, Act.put, e1, e3, e5, e6, List.range_succ, wpOps_cons, wpOp, Region.wanted, Oper.wp, go_sem, k0, k1, k2, k3, f0, f1, f2, f3]
  refine .inl (.inl (.inl ?_))
  simp only [wpOps]
  rw [← HW4.out]
  clear e1 e3 e5 e6 k0 k1 k2 k3 f0 f1 f2 f3
  have HRo := Lib.hid (fun (M : Int) (X : World) (hX : R3 w1 A1 c1 q1 A2 c2 q2 A3 c3 v gq P.k P.t M X) => show Calls Tryz.prog 24 #[.slice A1 n1 c1, .slice A2 n c2, .agg #[.slice A3 nv c3, .int .i64 P.k, .int .u64 P.t, .int .i64 M]] X (GivesHE X (prL P.k M R C v) (prE P.k M R C v)) from by
    have hvs := hX.vs.vecs
    rw [HQ2.out] at hvs
    have h := rowsP_any A1 c1 q1 A2 c2 C v A3 c3 P.k P.t M X hX.rs.rws hvs hX.vv.vec (by have := HRl.out; rw [← HQ1.out, rvs_length] at this; omega)
    rw [HQ1.out, ← HN1.out, ← HN.out, ← HNv.out] at h
    exact h)
  have hro := HRo.out P.n W4 HI.out
  obtain ⟨E, hE⟩ : ∃ E, E = prE P.k P.n R C v := ⟨_, rfl⟩
  obtain ⟨GL, hGL⟩ : ∃ GL, GL = prL P.k P.n R C v := ⟨_, rfl⟩
  rw [← hE, ← hGL] at hro
  have HR5 := Lib.hid hro
  have HE := Lib.hid hE
  have HGL := Lib.hid hGL
  obtain ⟨hc4, hf4⟩ := HI.out.cells
  rw [← HNv.out] at hc4
  obtain ⟨k0, k1, k2, k3⟩ := hc4
  clear hro hE hGL hf4
  go_wp2_with fail
  refine HR5.out.mono ?_
  rintro e w6 ⟨A6, c6, he, ho6, hb6⟩
  obtain ⟨m6, hm6⟩ : ∃ m, m = GL.length := ⟨_, rfl⟩
  rw [← hm6] at he
  subst he
  have HO6 := Lib.hid ho6
  have HI6 := Lib.hid (fun (X : World) (hX : Below w6.heap.size w6 X) => HI.out.below (below_tr hb6 hX))
  have HM6 := Lib.hid hm6
  have HBF := Lib.hid (HB0.out.trans ((HB1.out.trans ((HI6.out w6 (Below.refl _ _)).bel.mono HB1.out.size)).mono HB0.out.size))
  clear ho6 hb6 hm6 k0 k1 k2 k3
  by_cases hE : E = 0
  · obtain ⟨r1, r2, r3, r4, r5, r6, r7, r8⟩ := pr_ok (HE.out.symm.trans hE)
    obtain ⟨K1, K16⟩ := (TopL.isK_iff P.k).1 r1
    obtain ⟨N1, N2⟩ := nB_iff.1 r3
    obtain ⟨c0, c6', call⟩ := cenE_ok r4
    obtain ⟨LN, hLN⟩ : ∃ L, L = askM C v P.n := ⟨_, rfl⟩
    obtain ⟨X, hX⟩ : ∃ X, X = hitL (belL C LN R) v := ⟨_, rfl⟩
    have hGX : GL = firstM P.k.toNat X := by rw [HGL.out, r8, hX, hLN]
    have hRl := HRl.out
    have hn1 : n1 = R.length := by rw [HN1.out, ← HQ1.out, rvs_length]
    have hXl : X.length ≤ 60 := by rw [hX, ← belH_all]; have := belH_len C LN R v R.length; omega
    have hmk : m6 ≤ P.k := by rw [HM6.out, hGX, first_length]; omega
    have hmx : m6 ≤ 60 := by have h1 : m6 ≤ X.length := by rw [HM6.out, hGX, first_length]; omega
                             omega
    have hn60 : n1 ≤ 60 := by omega
    have t3 : decide (P.k < (m6 : Int)) = false := by simp; omega
    have t4 : decide ((m6 : Int) > P.k) = false := by simp; omega
    have hne : nrE P.n C v = 0 := by unfold nrE dimE; rw [if_pos r3, if_pos r2, if_pos r4, if_pos r5]
    have hnl : nrL P.n C v = LN := by unfold nrL; rw [if_pos hne, hLN]; rfl
    have hdist : ∀ y, right y = true → y.length = dimC C → distE y v = 0 := fun y h1 h2 => by rw [dist_dim h1 r2, if_pos (decide_eq_true (by rw [h2, r5]))]
    have hzl : LN.length = min P.n.toNat C.length := by rw [hLN]; exact asked_len _ _ _
    obtain ⟨z, hz⟩ : ∃ z, z = LN.length := ⟨_, rfl⟩
    have hn0 : 0 < n := by rw [HN.out]; exact c0
    have hn6 : n ≤ 6 := by rw [HN.out]; exact c6'
    have hz0 : 0 < z := by rw [hz, hzl, ← HN.out]; omega
    have hzn : z ≤ 6 := by rw [hz, hzl, ← HN.out]; omega
    have hmin : min P.n (n : Int) = (z : Int) := by rw [hz, hzl, ← HN.out]; omega
    have HLm := Lib.hid (show ∀ y ∈ LN, y < n from fun y hy => by rw [hLN] at hy; rw [HN.out]; exact asked_mem hy)
    have HSrt := Lib.hid (show ∀ (i x y : Nat), LN[i]? = some x → LN[i + 1]? = some y → AhP (farM C v) x y from fun i x y h1 h2 => by
      obtain ⟨i1, e1⟩ := List.getElem?_eq_some_iff.1 h1
      obtain ⟨i2, e2⟩ := List.getElem?_eq_some_iff.1 h2
      have hs : LN.Pairwise (AhP (farM C v)) := by rw [hLN]; exact (places_srt (farM C v) C.length).sublist (List.take_sublist _ _)
      have := List.pairwise_iff_getElem.1 hs i (i + 1) i1 i2 (by omega)
      rw [e1, e2] at this
      exact this)
    have HRX := Lib.hid (show ∀ p ∈ q1, nearE C p.x = 0 ∧ nearN C p.x = nearM C p.x ∧ distE p.x v = 0 ∧ wfH (p.i, distD p.x v) from fun p hp => by
      have hm : (p.i, p.x) ∈ R := by rw [← HQ1.out]; exact List.mem_map.2 ⟨p, hp, rfl⟩
      have h1 : right p.x = true := List.all_eq_true.1 r6 (p.i, p.x) hm
      have h2 : p.x.length = dimC C := r7 (p.i, p.x) hm
      obtain ⟨h3, h4⟩ := near_dim c0 call h1
      refine ⟨by rw [h3, if_pos h2], h4 h2, hdist p.x h1 h2, (HI.out.rs.rws).fit p hp, dist_fit h1 r2⟩)
    have HXF := show ∀ x ∈ X, wfH x from fun x hx => by
      rw [hX] at hx
      obtain ⟨p, hp, rfl⟩ := List.mem_map.1 hx
      have hp := (List.mem_filter.1 hp).1
      rw [← HQ1.out] at hp
      obtain ⟨r, hr, rfl⟩ := List.mem_map.1 hp
      exact (HRX.out r hr).2.2.2
    have HYF := Lib.hid (show ∀ (j : Nat), j < m6 → wfH (GL.getD j z2) from fun j hj => fit_at (by rw [hGX]; exact first_fit HXF) (by rw [← HM6.out]; exact hj))
    have HDS := Lib.hid (show ∀ (j : Nat), j < m6 → updH (downF X GL j) (GL.getD j z2) (downF X GL j (GL.getD j z2) - 1) = downF X GL (j + 1) from fun j hj => down_step (by rw [← HM6.out]; exact hj))
    have HDI := Lib.hid (show ∀ (j : Nat) (h : HitM), 0 ≤ downF X GL j h ∧ downF X GL j h ≤ 60 from fun j h => by have h1 := TopL.down_in P.k.toNat X j h; rw [← hGX] at h1; omega)
    have HCI := Lib.hid (show ∀ (j : Nat) (h : HitM), 0 ≤ cntF (belH C LN R v j) h ∧ cntF (belH C LN R v j) h ≤ 60 from fun j h => by have h1 := cnt_in (belH C LN R v j) h; have h2 := belH_len C LN R v j; omega)
    have HXE := Lib.hid (show belH C LN R v n1 = X by rw [hn1, belH_all, hX])
    have HI64 := Lib.hid (show ∀ y : Nat, y < n → I64 (y : Int) from fun y hy => by simp [I64, Lit.wf, IntKind.min, IntKind.max, IntKind.signed, IntKind.bits]; omega)
    have HNMF := Lib.hid (show ∀ x, I64 ((nearM C x : Nat) : Int) from fun x => HI64.out _ (by rw [HN.out]; exact show nearF (farM C x) C.length < C.length from nearF_lt _ _ c0))
    have HInQ := Lib.hid (show ∀ x, decide (((nearM C x : Nat) : Int) ∈ LN.map fun k : Nat => (k : Int)) = inQ C LN x from fun x => by
      unfold inQ
      rw [decide_eq_decide, List.mem_map]
      refine ⟨fun ⟨a, h1, h2⟩ => ?_, fun h => ⟨_, h, rfl⟩⟩
      have h3 : a = nearM C x := by omega
      rw [← h3]
      exact h1)
    have HFar := Lib.hid (fun (y : Nat) (hy : y < n) => show distE (C.getD y []) v = 0 ∧ distD (C.getD y []) v = farM C v y from by
      have hg : C.getD y [] ∈ C := by rw [List.getD_eq_getElem?_getD, List.getElem?_eq_getElem (by rw [← HN.out]; exact hy)]; exact List.getElem_mem _
      have h := hdist _ (call _ hg).1 (call _ hg).2
      exact ⟨h, by unfold distD; rw [if_pos h]; rfl⟩)
    have HNr := Lib.hid (show Calls Tryz.prog 12 #[.slice A2 n c2, .slice A3 nv c3, .int .i64 P.n] w6 (GivesNr w6 LN 0) from by
      have hI := HI6.out w6 (Below.refl _ _)
      have hvs := hI.vs.vecs
      rw [HQ2.out] at hvs
      have h := nearP_any A2 A3 c2 c3 C v P.n w6 hvs hI.vv.vec
      rw [hne, hnl, ← HN.out, ← HNv.out] at h
      exact h)
    have HZ := Lib.hid hz
    obtain ⟨hc6, hf6⟩ := (HI6.out w6 (Below.refl _ _)).cells
    rw [← HNv.out] at hc6
    obtain ⟨k0, k1, k2, k3⟩ := hc6
    have HHX := Lib.hid hX
    subst hE
    clear r1 r2 r3 r4 r5 r6 r7 r8 c0 c6' call hLN hX hGX hRl hn1 hXl hmx hne hnl hdist hzl hz HXF hf6
    go_wp2_with fail
    refine HNr.out.mono ?_
    rintro e w7 ⟨B7, d7, he, ho7, hb7⟩
    rw [← HZ.out] at he
    subst he
    obtain ⟨b7, rfl, hb7l, hd7, hd7m, hc7⟩ := ho7.at_ (by rw [← HZ.out]; exact hz0)
    rw [← HZ.out] at hd7
    have HB7 := Lib.hid hb7l
    have HC7 := Lib.hid hc7
    obtain ⟨bm, hbm⟩ : ∃ b, b = w7.heap.size := ⟨_, rfl⟩
    obtain ⟨W8, hW8⟩ : ∃ W, W = w7.alloc (.map #[] 0) := ⟨_, rfl⟩
    have HMb := Lib.hid (show MapB W8 bm 0 ((LN.take 0).map fun k : Nat => (k : Int)) by rw [hW8, hbm]; exact MapB.made w7)
    have HBb := Lib.hid (show Below bm w7 W8 by rw [hW8, hbm]; exact (Below.refl _ w7).alloc (Nat.le_refl _) _)
    have HBW := Lib.hid (fun (X : World) (hX : Below bm w7 X) => show Below w6.heap.size w6 X from hb7.trans (hX.mono (by rw [hbm]; exact hb7.size)))
    obtain ⟨hc8, hf8⟩ := (HI6.out w7 hb7).cells
    rw [← HNv.out] at hc8
    obtain ⟨z0, z1, z2', z3⟩ := hc8
    have HW8 := Lib.hid hW8
    have HBm := Lib.hid hbm
    have hmm := @run_makeMap Tryz.prog
    clear ho7 hb7 hb7l hc7 hbm hW8 hf8 k0 k1 k2 k3
    go_wp2
    rw [← HW8.out, ← HBm.out]
    clear hmm z0 z1 z2' z3
    go_loopw [86] (fun i wv => ∃ j : Nat, j ≤ z ∧ i = .int .i64 j ∧ Hid (MapB wv bm j ((LN.take j).map fun k : Nat => (k : Int)) ∧ Below bm w7 wv)) (fun i _ => z - (intOf i).toNat)
    case atStart => exact ⟨0, by omega, rfl, Lib.hid ⟨HMb.out, HBb.out⟩⟩
    case round =>
      obtain ⟨j, hj, rfl, HJ1⟩ := hrel
      by_cases hjz : j < z
      · obtain ⟨y, hy⟩ : ∃ y, LN[j]? = some y := ⟨_, List.getElem?_eq_getElem (by rw [← HZ.out]; exact hjz)⟩
        have hyn : y < n := HLm.out y (List.mem_of_getElem? hy)
        have d0 := (HJ1.out.2.cell (p := ⟨b7, 0 + j, none⟩) (by rw [HBm.out]; exact HB7.out)).trans (HC7.out j y hy)
        have d1 : wr.cell? ⟨b7, j, none⟩ = some (.int .i64 (y : Int)) := by have := d0; rwa [Nat.zero_add] at this
        obtain ⟨V, hrun, hMV, hT⟩ := HJ1.out.1.store (s := (y : Int)) (by omega) (HI64.out y hyn)
        have hbV : Below bm w7 V := HJ1.out.2.trans (below_map hT (Nat.le_refl _) (Nat.le_of_lt HJ1.out.1.lt))
        rw [← List.map_singleton (f := fun k : Nat => (k : Int)), ← List.map_append, ← take_snocN hy] at hMV
        have HMV := Lib.hid (fun (X : World) (hX : Below V.heap.size V X) => show MapB X bm (j + 1) ((LN.take (j + 1)).map fun k : Nat => (k : Int)) ∧ Below bm w7 X from
          ⟨hMV.same (hX.block _ hMV.lt), hbV.trans (hX.mono (Nat.le_of_lt hMV.lt))⟩)
        have HBVb := Lib.hid hbV
        have j0 : (0 : Int) ≤ j := by omega
        have jz : (j : Int) < z := by omega
        have y0 : (0 : Int) ≤ y := by omega
        have yn : (y : Int) < n := by omega
        have HYj := Lib.hid hy
        clear hMV hbV hT hy
        by_cases h0 : j = 0
        · have t1 : ((j : Int) == 0) = true := by simp [h0]
          have t2 : (j == 0) = true := by simp [h0]
          have HNn := Lib.hid (HMV.out V (Below.refl _ _))
          clear h0
          go_wp2
          go_roundw
          case rel => exact ⟨j + 1, by omega, by go_num, HNn⟩
          case measure => simp [intOf]; omega
        · have t1 : ((j : Int) == 0) = false := by simp; omega
          have t2 : (j == 0) = false := by simp; omega
          obtain ⟨i, hi⟩ : ∃ i, j = i + 1 := ⟨j - 1, by omega⟩
          obtain ⟨x, hx⟩ : ∃ x, LN[i]? = some x := ⟨_, List.getElem?_eq_getElem (by rw [← HZ.out]; omega)⟩
          have hxn : x < n := HLm.out x (List.mem_of_getElem? hx)
          have hord : AhP (farM C v) x y := HSrt.out i x y hx (by rw [← hi]; exact HYj.out)
          have HV3 := Lib.hid (fun (X : World) (hX : Below V.heap.size V X) => show (Vecs .i32 X A2 c2 C ∧ Vec .i32 X A3 c3 v) ∧ PBox X gq A3 nv c3 P.k P.t P.n ∧ X.cell? ⟨b7, i, none⟩ = some (.int .i64 (x : Int)) from by
            have hbx := (HMV.out X hX).2
            have h := HI6.out X (HBW.out X hbx)
            have hvs := h.vs.vecs
            rw [HQ2.out] at hvs
            have hcl := h.cells.1
            rw [← HNv.out] at hcl
            have hx' := (hbx.cell (p := ⟨b7, 0 + i, none⟩) (by rw [HBm.out]; exact HB7.out)).trans (HC7.out i x hx)
            rw [Nat.zero_add] at hx'
            exact ⟨⟨hvs, h.vv.vec⟩, hcl, hx'⟩)
          obtain ⟨bc, oc, xv, Bx, cx', hA2, hgx, hbx, hcx, hvx⟩ := (HV3.out V (Below.refl _ _)).1.1.at_ (i := x) (by rw [← HN.out]; exact hxn)
          subst hA2
          have hxe : C.getD x [] = xv := by simp [List.getD, hgx]
          obtain ⟨bc', oc', yv, By, cy', hA2', hgy, hby, hcy, hvy⟩ := (HV3.out V (Below.refl _ _)).1.1.at_ (i := y) (by rw [← HN.out]; exact hyn)
          injection hA2' with hA2'
          injection hA2' with e1 e2
          subst e1 e2
          have hye : C.getD y [] = yv := by simp [List.getD, hgy]
          obtain ⟨hd1, hd2⟩ := HFar.out x hxn
          obtain ⟨hd3, hd4⟩ := HFar.out y hyn
          rw [hxe] at hd1 hd2
          rw [hye] at hd3 hd4
          obtain ⟨lx, hlx⟩ : ∃ l, l = xv.length := ⟨_, rfl⟩
          obtain ⟨ly, hly⟩ : ∃ l, l = yv.length := ⟨_, rfl⟩
          obtain ⟨a, ha⟩ : ∃ a, a = farM C v x := ⟨_, rfl⟩
          obtain ⟨b, hb⟩ : ∃ b, b = farM C v y := ⟨_, rfl⟩
          rw [← hlx] at hcx
          rw [← hly] at hcy
          have HRg := Lib.hid (fun (X : World) (hX : Below V.heap.size V X) => show (X.cell? ⟨b7, i, none⟩ = some (.int .i64 (x : Int)) ∧ X.cell? ⟨bc, oc + x, none⟩ = some (.slice Bx lx cx')) ∧ X.cell? ⟨bc, oc + y, none⟩ = some (.slice By ly cy') ∧ X.cell? ⟨gq, 0, none⟩ = some (.slice A3 nv c3) from
            ⟨⟨(HV3.out X hX).2.2, (hX.cell (p := ⟨bc, oc + x, none⟩) hbx).trans hcx⟩, (hX.cell (p := ⟨bc, oc + y, none⟩) hby).trans hcy, (HV3.out X hX).2.1.1⟩)
          have HDx := Lib.hid (fun (X : World) (hX : Below V.heap.size V X) => show Calls Tryz.prog 29 #[.slice Bx lx cx', .slice A3 nv c3] X (fun e w' => e = .returned (.tuple #[.int .u64 a, .int .i64 0]) ∧ Below X.heap.size X w') from by
            have h := dist_any Bx A3 cx' c3 xv v X (hvx.below hX) (HV3.out X hX).1.2
            rw [hd2, hd1, ← HNv.out, ← ha, ← hlx] at h
            exact h)
          have HDy := Lib.hid (fun (X : World) (hX : Below V.heap.size V X) => show Calls Tryz.prog 29 #[.slice By ly cy', .slice A3 nv c3] X (fun e w' => e = .returned (.tuple #[.int .u64 b, .int .i64 0]) ∧ Below X.heap.size X w') from by
            have h := dist_any By A3 cy' c3 yv v X (hvy.below hX) (HV3.out X hX).1.2
            rw [hd4, hd3, ← HNv.out, ← hb, ← hly] at h
            exact h)
          have hor : a < b ∨ a = b ∧ x < y := by rw [ha, hb]; exact hord
          have HOrd := Lib.hid (show (decide (b < a) = false ∧ ((a : Int) == b) = false ∧ decide (a = b) = false) ∨ (decide (b < a) = false ∧ ((a : Int) == b) = true ∧ decide (a = b) = true ∧ decide ((y : Int) < (x : Int)) = false ∧ decide (y < x) = false) from by
            rcases hor with h | ⟨h, h'⟩
            · exact .inl ⟨decide_eq_false (by omega), beq_eq_false_iff_ne.2 (by omega), decide_eq_false (by omega)⟩
            · exact .inr ⟨decide_eq_false (by omega), beq_iff_eq.2 h, decide_eq_true h, decide_eq_false (by omega), decide_eq_false (by omega)⟩)
          clear hor
          have i0 : (0 : Int) ≤ i := by omega
          have iz : (i : Int) < z := by omega
          have iz2 : i < z := by omega
          have x0 : (0 : Int) ≤ x := by omega
          have xn : (x : Int) < n := by omega
          have hix : (j : Int) - 1 = (i : Int) := by omega
          have hwi : IntKind.i64.wrap (i : Int) = i := TopL.i64_fit (by omega)
          have HI_ := Lib.hid hi
          clear hi h0 hx hord hgx hbx hcx hvx hxe hgy hby hcy hvy hye hd1 hd2 hd3 hd4 hlx hly ha hb d0
          go_upto_region 16 with fail
          go_region_held3 (fun X => (X.cell? ⟨b7, i, none⟩ = some (.int .i64 (x : Int)) ∧ X.cell? ⟨bc, oc + x, none⟩ = some (.slice Bx lx cx')) ∧ X.cell? ⟨bc, oc + y, none⟩ = some (.slice By ly cy') ∧ X.cell? ⟨gq, 0, none⟩ = some (.slice A3 nv c3))
            (first | (with_reducible exact HRg.out _ (Below.refl _ _)) | (with_reducible exact HRg.out _ (below_drew (Below.refl _ _))) | (with_reducible exact HRg.out _ HB9.out))
            (first | (go_at_call 29; (with_reducible refine (HDx.out _ (bd0 V)).mono ?_); rintro e w9 ⟨rfl, hb9⟩; have HB9 := Lib.hid ((bd0 V).trans hb9); clear hb9))
          all_goals (
            go_upto_region 17 with fail
            go_region_held3 (fun X => (X.cell? ⟨b7, i, none⟩ = some (.int .i64 (x : Int)) ∧ X.cell? ⟨bc, oc + x, none⟩ = some (.slice Bx lx cx')) ∧ X.cell? ⟨bc, oc + y, none⟩ = some (.slice By ly cy') ∧ X.cell? ⟨gq, 0, none⟩ = some (.slice A3 nv c3))
              (first | (with_reducible exact HRg.out _ HB9.out) | (with_reducible exact HRg.out _ (below_drew HB9.out)) | (with_reducible exact HRg.out _ HB10.out))
              (first | (go_at_call 29; (with_reducible refine (HDy.out _ (below_drew HB9.out)).mono ?_); rintro e w10 ⟨rfl, hb10⟩; have HB10 := Lib.hid ((below_drew HB9.out).trans (hb10.mono HB9.out.size)); clear hb10))
            all_goals (
              obtain ⟨⟨m0, m1⟩, m2, m3⟩ := HRg.out w10 HB10.out
              have HNn := Lib.hid (HMV.out w10 HB10.out)
              rcases HOrd.out with ⟨s1, s2, s3⟩ | ⟨s1, s2, s3, s4, s5⟩
              · clear hix hwi
                go_wp2
                go_roundw
                case rel => exact ⟨j + 1, by omega, by go_num, HNn⟩
                case measure => simp [intOf]; omega
              · go_wp2
                clear hix hwi
                go_roundw
                case rel => exact ⟨j + 1, by omega, by go_num, HNn⟩
                case measure => simp [intOf]; omega))
      · obtain rfl : z = j := by omega
        obtain ⟨wy, hwy⟩ : ∃ wy, wy = wr := ⟨_, rfl⟩
        rw [← hwy] at HJ1 ⊢
        clear hwy
        obtain ⟨M, hM⟩ : ∃ M, M = wy.heap.size := ⟨_, rfl⟩
        obtain ⟨W4', hW4'⟩ : ∃ W, W = wy.alloc (.map #[] 0) := ⟨_, rfl⟩
        have HM4 := Lib.hid (show MapH W4' M 0 (cntF (belH C LN R v 0)) by rw [hW4', hM, belH_zero, cnt_nil]; exact TopL.MapH.made wy)
        have HB4 := Lib.hid (show Below M wy W4' by rw [hW4', hM]; exact (Below.refl _ wy).alloc (Nat.le_refl _) _)
        have hwy1 : Below w6.heap.size w6 wy := HBW.out wy HJ1.out.2
        have HRZ := Lib.hid (show Rws wy A1 c1 q1 from (HI6.out wy hwy1).rs.rws)
        have HVZ := Lib.hid (fun (X : World) (hX : Below wy.heap.size wy X) => show Vecs .i32 X A2 c2 C ∧ Vec .i32 X A3 c3 v from by
          have h := HI6.out X (below_tr hwy1 hX)
          have hvs := h.vs.vecs
          rw [HQ2.out] at hvs
          exact ⟨hvs, h.vv.vec⟩)
        have HCZ := Lib.hid (fun (X : World) (hX : Below wy.heap.size wy X) => show PBox X gq A3 nv c3 P.k P.t P.n from by
          have h := (HI6.out X (below_tr hwy1 hX)).cells.1
          rw [← HNv.out] at h
          exact h)
        have HYZ := Lib.hid (show Hits wy A6 c6 GL from (HO6.out.below hwy1).hits)
        have HMB := Lib.hid (show w.heap.size ≤ M by rw [hM]; have := HBF.out.size; have := hwy1.size; omega)
        have HBY := Lib.hid (show Below w.heap.size w wy from HBF.out.trans (hwy1.mono HBF.out.size))
        have HIB := Lib.hid (fun (X : World) (hX : Below M wy X) => show MapB X bm z (LN.map fun k : Nat => (k : Int)) from by
          have h := HJ1.out.1
          rw [show LN.take z = LN by rw [HZ.out, List.take_length]] at h
          exact h.same (hX.block _ (by rw [hM]; exact h.lt)))
        have HW4' := Lib.hid hW4'
        have HM := Lib.hid hM
        have hmm := @run_makeMap Tryz.prog
        clear hW4' hM hwy1
        go_wp2
        rw [← HW4'.out, ← HM.out]
        clear hmm
        go_loopw [150] (fun i wv => ∃ j : Nat, j ≤ n1 ∧ i = .int .i64 j ∧ Hid (MapH wv M j (cntF (belH C LN R v j)) ∧ Below M wy wv)) (fun i _ => n1 - (intOf i).toNat)
        case atStart => exact ⟨0, by omega, rfl, Lib.hid ⟨HM4.out, HB4.out⟩⟩
        case round =>
          obtain ⟨j, hj, rfl, HJ⟩ := hrel
          by_cases hjn : j < n1
          · obtain ⟨b, o, p, hA, hp, hb, c0, c1', hv, hf⟩ := HRZ.out.at_ (i := j) (by rw [← HN1.out]; exact hjn)
            subst hA
            have d0 := (HJ.out.2.cell (p := ⟨b, o + j * 2, none⟩) (by rw [HM.out]; exact hb)).trans c0
            have d1 := (HJ.out.2.cell (p := ⟨b, o + j * 2 + 1, none⟩) (by rw [HM.out]; exact hb)).trans c1'
            have hbz : Below wy.heap.size wy wr := by rw [← HM.out]; exact HJ.out.2
            obtain ⟨W1, hW1⟩ : ∃ W1, W1 = wr.alloc (.cells #[.int .u64 p.i, .slice p.B p.x.length p.c] 69) := ⟨_, rfl⟩
            have hb1 : Below wr.heap.size wr W1 := by rw [hW1]; exact (Below.refl _ wr).alloc (Nat.le_refl _) _
            have hbz1 : Below wy.heap.size wy W1 := hbz.trans (hb1.mono hbz.size)
            have hRp : R[j]? = some (p.i, p.x) := by rw [← HQ1.out]; unfold rvs; rw [List.getElem?_map, hp]; rfl
            obtain ⟨hE1, hE2, hE3, hwf⟩ := HRX.out p (List.mem_of_getElem? hp)
            have HNe := Lib.hid (show Calls Tryz.prog 30 #[.slice A2 n c2, .slice p.B p.x.length p.c] W1 (fun e w' => e = .returned (.tuple #[.int .i64 (nearM C p.x : Nat), .int .i64 0]) ∧ Below W1.heap.size W1 w') from by
              have h := nearest_any A2 p.B c2 p.c C p.x W1 (HVZ.out W1 hbz1).1 (hv.below hbz1)
              rw [hE1, hE2, ← HN.out] at h
              exact h)
            have hx1 : W1.heap[wr.heap.size]? = some (.cells #[.int .u64 p.i, .slice p.B p.x.length p.c] 69 (0, 0)) := by rw [hW1]; exact heap_alloc_new _ _
            have HX1 := Lib.hid (fun (X : World) (hX : Below W1.heap.size W1 X) => show (X.cell? ⟨wr.heap.size, 0, none⟩ = some (.int .u64 p.i) ∧ X.cell? ⟨wr.heap.size, 1, none⟩ = some (.slice p.B p.x.length p.c)) ∧ Calls Tryz.prog 29 #[.slice p.B p.x.length p.c, .slice A3 nv c3] X (fun e w' => e = .returned (.tuple #[.int .u64 (distD p.x v), .int .i64 0]) ∧ Below X.heap.size X w') from by
              have X5 := (hX.block _ (lt_of_block hx1)).trans hx1
              refine ⟨⟨(cell_of_row _ _ 0 _ _ _ X5).trans rfl, (cell_of_row _ _ 1 _ _ _ X5).trans rfl⟩, ?_⟩
              have hbx := below_tr hbz1 hX
              have h := dist_any p.B A3 p.c c3 p.x v X (hv.below hbx) (HVZ.out X hbx).2
              rw [hE3, ← HNv.out] at h
              exact h)
            have HQC := Lib.hid (fun (X : World) (hX : Below W1.heap.size W1 X) => HCZ.out X (below_tr hbz1 hX))
            have hst := belH_step (C := C) (S := LN) (v := v) hRp
            have HB1 := Lib.hid hb1
            have HBZ1 := Lib.hid hbz1
            have HLT := Lib.hid HJ.out.1.lt
            have HHJ := Lib.hid (And.intro HJ.out.1 HJ.out.2)
            have HMB1 := Lib.hid (HIB.out wr HJ.out.2)
            have hu := HCI.out j (p.i, distD p.x v)
            have hq : decide (((nearM C p.x : Nat) : Int) ∈ LN.map fun k : Nat => (k : Int)) = inQ C LN p.x := HInQ.out p.x
            obtain ⟨z0, z1⟩ := (HX1.out W1 (Below.refl _ _)).1
            have HW1 := Lib.hid hW1
            have HWF := Lib.hid hwf
            have HQq := Lib.hid hq
            have HST := Lib.hid hst
            have k0 : (0 : Int) ≤ j := by omega
            have kn : (j : Int) < n1 := by omega
            have HNM := Lib.hid (HNMF.out p.x)
            generalize hnm : nearM C p.x = NM at *
            clear hnm
            generalize p.x.length = lx at *
            generalize distD p.x v = D at *
            generalize p.B = pB at *
            generalize p.c = pc at *
            clear hp hb c0 c1' hv hf hbz hb1 hbz1 hx1 hst hwf hW1 hE1 hE2 hE3 hRp hq
            go_wp2_with (rw [← HW1.out])
            with_reducible refine HNe.out.mono ?_
            rintro e w5 ⟨rfl, hb5⟩
            have HB5 := Lib.hid hb5
            obtain ⟨y0, y1⟩ := (HX1.out w5 hb5).1
            obtain ⟨k0', k1', k2', k3'⟩ := HQC.out w5 hb5
            clear hb5 z0 z1
            go_wp2_with fail
            with_reducible refine (HX1.out w5 HB5.out).2.mono ?_
            rintro e w6 ⟨rfl, hb6⟩
            have HB6 := Lib.hid (below_tr HB5.out hb6)
            obtain ⟨z0, z1⟩ := (HX1.out w6 HB6.out).1
            have hbr6 := below_tr HB1.out HB6.out
            have hin := (HMB1.out.below_ hbr6).look (s := (NM : Int)) HNM.out
            rw [HQq.out] at hin
            clear hb6 hbr6 y0 y1 k0' k1' k2' k3'
            cases hiq : inQ C LN p.x with
            | true =>
              have hbr6 := below_tr HB1.out HB6.out
              have hD5 : MapH w6.drew M j (cntF (belH C LN R v j)) := (HHJ.out.1.same (hbr6.block _ HHJ.out.1.lt)).same rfl
              obtain ⟨st, V1, V2, hl0, hen, hl1, hes, hl2, hM6, hg6⟩ := hD5.bump (by omega) HWF.out (cntF (belH C LN R v j) (p.i, D) + 1) (WalkArith.wf_i64 (by omega))
              have hst := HST.out
              rw [hiq, if_pos rfl] at hst
              rw [cnt_snoc, ← hst] at hM6
              have hMr : M ≤ wr.heap.size := Nat.le_of_lt HHJ.out.1.lt
              have HNn := Lib.hid (show MapH V2 M (j + 1) (cntF (belH C LN R v (j + 1))) ∧ Below M wy V2 from ⟨hM6, (HHJ.out.2.trans ((hbr6.mono hMr).trans (below_drew (Below.refl _ w6)))).trans (below_grown hg6 (Nat.le_trans hMr hbr6.size))⟩)
              rw [hiq] at hin
              clear hst hM6 hg6 hMr hbr6 hD5 hiq
              generalize cntF (belH C LN R v j) (p.i, D) = u at *
              have wu : wrap64 (u + 1) = u + 1 := wrap64_fit (by omega)
              have wu2 : IntKind.i64.wrap (u + 1) = u + 1 := TopL.i64_fit (by omega)
              go_wp2
              go_region
              all_goals (
                go_wp2
                go_roundw
                case rel => exact ⟨j + 1, by omega, by go_num, HNn⟩
                case measure => simp [intOf]; omega)
            | false =>
              have hbr6 := below_tr HB1.out HB6.out
              have hst := HST.out
              rw [hiq, if_neg (by simp)] at hst
              have hMr : M ≤ wr.heap.size := Nat.le_of_lt HHJ.out.1.lt
              have HNn := Lib.hid (show MapH w6 M (j + 1) (cntF (belH C LN R v (j + 1))) ∧ Below M wy w6 from ⟨by rw [hst]; exact (HHJ.out.1.same (hbr6.block _ HHJ.out.1.lt)).mono (by omega), HHJ.out.2.trans (hbr6.mono hMr)⟩)
              rw [hiq] at hin
              clear hst hbr6 hMr hiq
              go_wp2
              go_roundw
              case rel => exact ⟨j + 1, by omega, by go_num, HNn⟩
              case measure => simp [intOf]; omega
          · obtain rfl : j = n1 := by omega
            have HM7 := Lib.hid (show MapH wr M (100 + 0) (downF X GL 0) by rw [cnt_zero, ← HXE.out]; exact HJ.out.1.mono (by omega))
            go_wp2
            go_loopw [191] (fun i wv => ∃ t : Nat, t ≤ m6 ∧ i = .int .i64 t ∧ Hid (MapH wv M (100 + t) (downF X GL t) ∧ Below M wy wv)) (fun i _ => m6 - (intOf i).toNat)
            case atStart => exact ⟨0, by omega, rfl, Lib.hid ⟨HM7.out, HJ.out.2⟩⟩
            case round =>
              obtain ⟨t, ht, rfl, HQQ⟩ := hrel
              by_cases htn : t < m6
              · obtain ⟨g1, o1, hF, hg, hc1, hc2⟩ := HYZ.out.at_ (j := t) (by rw [← HM6.out]; exact htn)
                subst hF
                have e1 := (HQQ.out.2.cell (p := ⟨g1, o1 + t * 2, none⟩) (by rw [HM.out]; exact hg)).trans hc1
                have e2 := (HQQ.out.2.cell (p := ⟨g1, o1 + t * 2 + 1, none⟩) (by rw [HM.out]; exact hg)).trans hc2
                have hwx := HYF.out t htn
                have hst := HDS.out t htn
                have hu := HDI.out t (GL.getD t z2)
                have hu2 := HDI.out (t + 1) (GL.getD t z2)
                obtain ⟨x, hx⟩ : ∃ x, x = GL.getD t z2 := ⟨_, rfl⟩
                rw [← hx] at hwx hst hu hu2 e1 e2
                have hu3 : downF X GL (t + 1) x = downF X GL t x - 1 := by rw [← hst]; exact if_pos rfl
                rw [hu3] at hu2
                obtain ⟨W5, hW5⟩ : ∃ W5, W5 = wr.alloc (.cells #[.int .u64 x.1, .int .u64 x.2] 63) := ⟨_, rfl⟩
                have hb5 : Below wr.heap.size wr W5 := by rw [hW5]; exact (Below.refl _ wr).alloc (Nat.le_refl _) _
                have hD5 : MapH W5.drew M (100 + t) (downF X GL t) := (HQQ.out.1.same (hb5.block _ HQQ.out.1.lt)).same rfl
                obtain ⟨st, V1, V2, hl0, hen, hl1, hes, hl2, hM6, hg6⟩ := hD5.bump (by omega) hwx (downF X GL t x - 1) (WalkArith.wf_i64 (by omega))
                rw [hst] at hM6
                have hMr : M < wr.heap.size := HQQ.out.1.lt
                have hBV : Below M wy V2 := (HQQ.out.2.trans ((hb5.mono (Nat.le_of_lt hMr)).trans (below_drew (Below.refl _ W5)))).trans (below_grown hg6 (Nat.le_trans (Nat.le_of_lt hMr) hb5.size))
                have q1 : W5.cell? ⟨wr.heap.size, 0, none⟩ = some (.int .u64 x.1) := by rw [hW5]; exact cell_laid _ _ _ 0
                have q2 : W5.cell? ⟨wr.heap.size, 1, none⟩ = some (.int .u64 x.2) := by rw [hW5]; exact cell_laid _ _ _ 1
                have hz5 : wr.heap.size < W5.heap.size := by rw [hW5, World.size_alloc]; omega
                have hk : V2.heap[wr.heap.size]? = W5.heap[wr.heap.size]? := hg6.block _ hz5 (by simp; omega)
                have q3 : V2.cell? ⟨wr.heap.size, 0, none⟩ = some (.int .u64 x.1) := (World.cell?_of_block (w := W5) hk).trans q1
                have q4 : V2.cell? ⟨wr.heap.size, 1, none⟩ = some (.int .u64 x.2) := (World.cell?_of_block (w := W5) hk).trans q2
                have HMV := Lib.hid (fun (Z : World) (hZ : Below V2.heap.size V2 Z) => show MapH Z M (100 + (t + 1)) (downF X GL (t + 1)) ∧ Below M wy Z from
                  ⟨hM6.same (hZ.block _ hM6.lt), hBV.trans (hZ.mono (Nat.le_of_lt hM6.lt))⟩)
                have l0 : (Instr.lookup 67 (.map (some M)) (.agg #[.int .u64 x.1, .int .u64 x.2]) false).run Tryz.prog V2 = .ok (.int .i64 (downF X GL t x - 1)) V2 := by
                  have := hM6.look (x := x) hwx
                  rw [hu3] at this
                  exact this
                have HW5 := Lib.hid hW5
                clear hW5 hb5 hD5 hM6 hg6 hst hwx hx hc1 hc2 hg hMr hu3 hk hz5 hBV
                generalize downF X GL t x = u at *
                obtain ⟨x1, x2⟩ := x
                dsimp only at *
                have wu : wrap64 (u - 1) = u - 1 := wrap64_fit (by omega)
                have wu2 : IntKind.i64.wrap (u - 1) = u - 1 := TopL.i64_fit (by omega)
                have wu3 : ¬ (u - 1 < 0) := by omega
                have wu4 : decide (u - 1 < 0) = false := by simp; omega
                have j0 : (0 : Int) ≤ t := by omega
                have jn : (t : Int) < m6 := by omega
                go_wp2
                rw [← HW5.out]
                go_region
                all_goals (
                  clear hl0 hen hl1 hes hl2 q1 q2 e1 e2
                  go_wp2
                  go_roundw
                  case rel => exact ⟨t + 1, by omega, by go_num, Lib.hid (HMV.out _ (Below.refl _ _))⟩
                  case measure => simp [intOf]; omega)
              · obtain rfl : t = m6 := by omega
                have HBX := Lib.hid (HBY.out.trans (HQQ.out.2.mono HMB.out))
                go_wp2
                go_ret
                exact ⟨by first | rfl | simp, HBX.out⟩
  · have hGL : GL = [] := by rw [HGL.out]; unfold prL; rw [if_neg (by rw [← HE.out]; exact hE)]
    have hm0 : m6 = 0 := by rw [HM6.out, hGL]; rfl
    subst hm0
    have t1 : (E != 0) = true := by simpa using hE
    have t2 : (E == 0) = false := by simpa using hE
    clear hGL hE
    go_wp2
    go_ret
    exact ⟨by first | rfl | simp, HBF.out⟩

set_option maxRecDepth 100000 in
theorem lifted (os : Os) (started : os.Started) (H : Type) (enc : TypeId × Value → H) :
    ReturnsInHanded {} Tryz.checked os 8 .any (Rows.probeTrueSpec.pre6 enc Tryz.prog Tryz.f8 Rows.probeTrueRow.domain false) (Rows.probeTrueSpec.post enc Tryz.prog Tryz.f8 false true false false) := by
  refine returnsInHanded_of_change (C := Tryz.checked) Tryz.own started (by kernel_rfl) Tryz.func8
    (ChangeSpec.witness6 (enc := enc) (C := Tryz.checked) false ⟨#[], #[.slice none 0 0, .slice none 0 0, .agg #[.slice none 0 0, .int .i64 0, .int .u64 0, .int .i64 0]], []⟩ 8 (by kernel_rfl) (by kernel_rfl) (by kernel_rfl) (by kernel_rfl)) ?_
  intro W base args ds gs before hval0 hW hcnd _
  have hval : ∀ (j : Nat) t v, Tryz.f8.params[j]? = some t → args[j]? = some v → Value.okWide Tryz.prog W .any base t v := hval0
  have hW' := hW
  obtain ⟨p, q, hA0, hV, rfl, hfz, hnd⟩ := hW
  have hA : DataW.TrodAll enc Tryz.prog W 0 (fun _ => true) true Tryz.f8.params.toList args.toList ds p := hA0
  rw [Tryz.params8] at hA hval
  have hA' := hA
  obtain ⟨v0, vs0, d0, ds0, p0, q0, hargs, rfl, rfl, h0, r0⟩ := trodAll_cons hA
  obtain ⟨v1, vs1, d1, ds1, p1, q1, rfl, rfl, rfl, h1, r1⟩ := trodAll_cons r0
  obtain ⟨v2, vs2, d2, ds2, p2, q2, rfl, rfl, rfl, h2, r2⟩ := trodAll_cons r1
  obtain ⟨rfl, rfl, rfl⟩ := trodAll_nil r2
  obtain rfl : args = #[v0, v1, v2] := by cases args; simp_all
  obtain ⟨rfl, rfl⟩ := trodVars_none hV
  obtain ⟨A0, len0, c0, rfl⟩ := okWide_slice Tryz.underlying55 (hval 0 55 v0 rfl rfl)
  obtain ⟨z0, rfl, sl0⟩ := open_rows h0
  obtain ⟨A1, len1, c1, rfl⟩ := okWide_slice Tryz.underlying22 (hval 1 22 v1 rfl rfl)
  obtain ⟨z1, rfl, sl1⟩ := open_vecs h1
  obtain ⟨z2, rfl, sl2⟩ := open_probe (hval 2 47 v2 rfl rfl) h2
  clear hA0 hval0
  refine (walk A0 c0 z0 sl0 A1 c1 z1 sl1 z2 sl2).mono fun e W' ⟨he, bel⟩ => ?_
  subst he
  exact ⟨_, rfl, _, _, _, [], _, [], hW', trodAll_mk1 (shut_bool Tryz.underlying4 _), trodAll_below bel _ _ _ _ (by kernel_rfl) hA', rfl, bel.frame _, fun h => by cases h⟩

theorem proved : Rows.ProbeTrueSaid :=
  OpenClaim.holds_of_wide 8 Tryz.f8 rfl rfl rfl rfl rfl rfl rfl ⟨rfl, rfl, rfl, rfl, rfl⟩ rfl rfl rfl rfl rfl (by kernel_rfl) Tryz.func8 (by kernel_rfl)
    (of_decide_eq_true (by kernel_rfl)) (by unfold Func.isWrapper; first | (rw [if_pos (by decide +kernel)]; kernel_rfl) | (rw [if_neg (by decide +kernel)]; exact ⟨rfl, rfl⟩))
    (fun os started H enc _ => lifted os started H enc)
#print axioms proved
end Go.Proofs.YtcekgllahlhaaaaGreat.probeTrue
