/-
  ProbeAll: of all lists what flat finds. Holds for all rows, centroids, probes and worlds; of these what the law goes through.
-/
import Derived.Test.YtcekgllahlhaaaaGreatMPrF
namespace Go.Proofs.YtcekgllahlhaaaaGreat.probeAll
open Go.ChangeShapes Go.WideShapes Go.ChangeAt Go.RowKit Go.Deep Go.Shelf
set_option linter.unusedVariables false
set_option linter.unusedSimpArgs false
set_option maxRecDepth 100000

/-- What is told and found of all lists. -/
def prG (k : Int) (R : List Rv) (C : List (List Int)) (v : List Int) : Int :=
  if chkQ k v = 0 then (if cenE C = 0 then (if rightR R = true then (if dimC C = v.length then (if belE C R = 0 then rowsE k R v else 151) else 151) else 170) else cenE C) else chkQ k v
theorem bel_all {C : List (List Int)} {v : List Int} {N : Int} (h0 : 0 < C.length) (h : C.length ≤ N.toNat) (R : List Rv) : belL C (askM C v N) R = R := by
  unfold belL
  rw [List.filter_eq_self]
  intro p _
  unfold inQ askM
  rw [decide_eq_true_iff, asked_all h]
  exact nearF_lt _ _ h0
theorem all_same {k N : Int} {R : List Rv} {C : List (List Int)} {v : List Int} (hN : nB N = true) (h : C.length ≤ N.toNat) : prE k N R C v = prG k R C v ∧ prL k N R C v = if prG k R C v = 0 then rowsL k R v else [] := by
  have hc : chkP k N v = chkQ k v := by unfold chkP; rw [if_pos hN]
  have hE : prE k N R C v = prG k R C v := by
    unfold prE prG rfE
    rw [hc]
    by_cases h1 : chkQ k v = 0
    · rw [if_pos h1, if_pos h1]
      by_cases h2 : cenE C = 0
      · rw [if_pos h2, if_pos h2, bel_all (cenE_ok h2).1 h]
        cases rightR R <;> simp
      · rw [if_neg h2, if_neg h2, if_neg h2]
    · rw [if_neg h1, if_neg h1, if_neg h1]
  refine ⟨hE, ?_⟩
  unfold prL
  rw [hE]
  by_cases hG : prG k R C v = 0
  · rw [if_pos hG, if_pos hG]
    congr 1
    have h2 : cenE C = 0 := by
      unfold prG at hG
      split at hG
      · split at hG
        · assumption
        · rename_i h2; exact absurd hG h2
      · rename_i h1; exact absurd hG h1
    exact bel_all (cenE_ok h2).1 h R
  · rw [if_neg hG, if_neg hG]
theorem all_flat {k : Int} {R : List Rv} {C : List (List Int)} {v : List Int} (h : prG k R C v = 0) : rowsE k R v = 0 := by
  unfold prG at h
  split at h
  · split at h
    · split at h
      · split at h
        · split at h
          · exact h
          · omega
        · omega
      · omega
    · rename_i h2; exact absurd h h2
  · rename_i h1; exact absurd h h1
set_option maxHeartbeats 8000000 in
theorem walk {w : World} (Ax : Option Addr) (cx : Nat) (q0 : List Pr) (hx : Rws w Ax cx q0) (Ay : Option Addr) (cy : Nat) (Y : List (List Int)) (hy : Vecs .i32 w Ay cy Y) (P : Pb) (hp : Vec .i32 w P.B P.c P.x) :
    Calls Tryz.prog 6 #[.slice Ax q0.length cx, .slice Ay Y.length cy, pv P.B P.x.length P.c P.k P.t P.n] w fun e w' => e = .returned (.bool true) ∧ Below w.heap.size w w' := by
  obtain ⟨nx, hnx⟩ : ∃ k, k = q0.length := ⟨_, rfl⟩
  obtain ⟨ny, hny⟩ : ∃ k, k = Y.length := ⟨_, rfl⟩
  obtain ⟨np, hnp⟩ : ∃ k, k = P.x.length := ⟨_, rfl⟩
  obtain ⟨g0, hg0⟩ : ∃ g, g = w.heap.size := ⟨_, rfl⟩
  obtain ⟨W0, hW0⟩ : ∃ W0, W0 = w.alloc (.cells #[.slice P.B np P.c, .int .i64 P.k, .int .u64 P.t, .int .i64 P.n] 47) := ⟨_, rfl⟩
  obtain ⟨hp0, hb0⟩ := pbox w P.B np P.c P.k P.t P.n
  rw [← hW0] at hp0 hb0
  rw [← hg0] at hp0
  have HWk := Lib.hid (wakes_any W0)
  have HRs := Lib.hid (fun (X : World) (hX : Below W0.heap.size W0 X) => rowsO_any Ax cx q0 X ((hx.below hb0).below hX))
  have HVs := Lib.hid (fun (X : World) (hX : Below W0.heap.size W0 X) => vecsO_any Ay cy Y X ((hy.below hb0).below hX))
  have HSo := Lib.hid (fun (X : World) (hX : Below W0.heap.size W0 X) => someO_any P.B P.c P.x P.k P.t P.n X ((hp.below hb0).below hX))
  have HP := Lib.hid (fun (X : World) (hX : Below W0.heap.size W0 X) => hp0.below hX hp0.lt)
  rw [← hnx] at HRs
  rw [← hny] at HVs
  rw [← hnp] at HSo
  have HCl := Lib.hid (cutC_len Y)
  have HRl := Lib.hid (show (cutR (rvs q0)).length ≤ 60 by rw [cutR_len]; omega)
  generalize hR : cutR (rvs q0) = R at *
  generalize hC : cutC Y = C at *
  generalize hv : P.x.take 5 = v at *
  obtain ⟨n, hn⟩ : ∃ n, n = C.length := ⟨_, rfl⟩
  obtain ⟨nv, hnv⟩ : ∃ n, n = v.length := ⟨_, rfl⟩
  have HN := Lib.hid hn
  have HNv := Lib.hid hnv
  rw [← hn] at HVs HCl
  rw [← hnv] at HSo
  rw [← hnx, ← hny, ← hnp]
  have HB0 := Lib.hid hb0
  have HW0 := Lib.hid hW0
  have HG0 := Lib.hid hg0
  obtain ⟨x0, x1, x2, x3⟩ := hp0
  clear hx hy hp hb0 hW0 hg0 hnx hny hnp hR hC hv hn hnv
  unfold pv at *
  go_enter Tryz.func6, Tryz.ntmps6
  go_wp2_with (rw [← HW0.out, ← HG0.out])
  refine HWk.out.mono ?_
  rintro e w1 ⟨rfl, hb1⟩
  have HB1 := Lib.hid hb1
  obtain ⟨y0, y1, y2, y3⟩ := HP.out w1 hb1
  clear hb1 x0 x1 x2 x3
  go_upto_region 3 with fail
  refine MskL.region_relG (fun X => Below w1.heap.size w1 X) (r3 (.slice Ax nx cx) (.slice Ay ny cy) (.agg #[.slice P.B np P.c, .int .i64 P.k, .int .u64 P.t, .int .i64 P.n]) R C v P.k P.t P.n w1.heap.size) 7 3
    (r3_stable _ _ _ _ _ _ _ _ _ _) (by kernel_rfl) (below_drew (Below.refl _ _)) rfl (by decide) (by kernel_rfl) (by kernel_rfl) (by kernel_rfl) (by kernel_rfl) (by kernel_rfl) ?_ ?_
  · refine ⟨?_, ?_, ?_, ?_, ?_, ?_, ?_, trivial⟩
    · intro f w hw hd
      simp [MskL.fillR, Act.put, go_sem, MskL.relG, r3, hw, Below.refl]
    · intro f w hw hd
      have e0 : f 0 = .slice Ax nx cx := MskL.depG_of hd 0 (by kernel_rfl)
      simp [MskL.fillR, Act.put, go_sem, MskL.relG, r3, hw, Below.refl, e0]
      refine (HRs.out w (below_tr HB1.out hw)).mono ?_
      rintro e w2 ⟨A, c, q, rfl, hq, hr, hb⟩
      refine ⟨⟨A, c, q, rfl, hq, hr.mono hw.size⟩, hw.trans (hb.mono hw.size), hb⟩
    · intro f w hw hd
      simp [MskL.fillR, Act.put, go_sem, MskL.relG, r3, hw, Below.refl]
    · intro f w hw hd
      have e2 : f 2 = .slice Ay ny cy := MskL.depG_of hd 2 (by kernel_rfl)
      simp [MskL.fillR, Act.put, go_sem, MskL.relG, r3, hw, Below.refl, e2]
      refine (HVs.out w (below_tr HB1.out hw)).mono ?_
      rintro e w2 ⟨A, c, q, rfl, hq, hr, hb⟩
      refine ⟨⟨A, c, q, by rw [HN.out], hq, hr.mono hw.size⟩, hw.trans (hb.mono hw.size), hb⟩
    · intro f w hw hd
      obtain ⟨z0, z1, z2, z3⟩ := HP.out w (below_tr HB1.out hw)
      simp [MskL.fillR, Act.put, go_sem, MskL.relG, r3, hw, Below.refl, z0, z1, z2, z3]
    · intro f w hw hd
      have e4 : f 4 = .agg #[.slice P.B np P.c, .int .i64 P.k, .int .u64 P.t, .int .i64 P.n] := MskL.depG_of hd 4 (by kernel_rfl)
      simp [MskL.fillR, Act.put, go_sem, MskL.relG, r3, hw, Below.refl, e4]
      refine (HSo.out w (below_tr HB1.out hw)).mono ?_
      rintro e w2 ⟨A, c, rfl, hr, hb⟩
      refine ⟨⟨A, c, by rw [HNv.out]; rfl, World.ownsRow.mono hr.1 hw.size, hr.2⟩, hw.trans (hb.mono hw.size), hb⟩
    · intro f w hw hd
      simp [MskL.fillR, Act.put, go_sem, MskL.relG, r3, hw, Below.refl]
      refine ⟨⟨w.heap.size, rfl, hw.size, heap_alloc_new _ _⟩, hw.alloc hw.size _, bn1 _ _⟩
  intro f w3 hw hr
  obtain ⟨A1, c1, q1, e1, hq1, hr1⟩ : r3rows w1.heap.size R (f 1) w3 := hr 1 (by decide)
  obtain ⟨A2, c2, q2, e3, hq2, hr2⟩ : r3vecs w1.heap.size C (f 3) w3 := hr 3 (by decide)
  obtain ⟨A3, c3, e5, hr3⟩ : r3some w1.heap.size v P.k P.t P.n (f 5) w3 := hr 5 (by decide)
  obtain ⟨gq, e6, hgq, hbx⟩ : r3box w1.heap.size (f 6) w3 := hr 6 (by decide)
  rw [← HN.out] at e3
  rw [← HNv.out] at e5
  unfold pv at e5
  obtain ⟨n1, hn1⟩ : ∃ n1, n1 = q1.length := ⟨_, rfl⟩
  rw [← hn1] at e1
  have h4 := set4 hbx (.slice A3 nv c3) (.int .i64 P.k) (.int .u64 P.t) (.int .i64 P.n)
  have ht := put4_turn w3 gq (.slice A3 nv c3) (.int .i64 P.k) (.int .u64 P.t) (.int .i64 P.n)
  have k0 := (cell_of_row _ _ 0 _ _ _ hbx).trans rfl
  have k1 := (cell_of_row _ _ 1 _ _ _ hbx).trans rfl
  have k2 := (cell_of_row _ _ 2 _ _ _ hbx).trans rfl
  have k3 := (cell_of_row _ _ 3 _ _ _ hbx).trans rfl
  have f0 : w3.frozen? ⟨gq, 0, none⟩ = false := frozen_of_row _ _ _ _ _ hbx
  have f1 : w3.frozen? ⟨gq, 1, none⟩ = false := frozen_of_row _ _ _ _ _ hbx
  have f2 : w3.frozen? ⟨gq, 2, none⟩ = false := frozen_of_row _ _ _ _ _ hbx
  have f3 : w3.frozen? ⟨gq, 3, none⟩ = false := frozen_of_row _ _ _ _ _ hbx
  have hI : R3 w1 A1 c1 q1 A2 c2 q2 A3 c3 v gq P.k P.t P.n (put4 w3 gq (.slice A3 nv c3) (.int .i64 P.k) (.int .u64 P.t) (.int .i64 P.n)) :=
    ⟨hr1.box hbx ht, hr2.box hbx ht, hr3.box hbx ht, by rw [← HNv.out]; exact h4, hgq, hw.trans (ht.below hw.size (fun i hi => by omega))⟩
  obtain ⟨W4, hW4⟩ : ∃ W4, W4 = put4 w3 gq (.slice A3 nv c3) (.int .i64 P.k) (.int .u64 P.t) (.int .i64 P.n) := ⟨_, rfl⟩
  rw [← hW4] at hI
  unfold put4 at hW4
  have HI := Lib.hid hI
  have HQ1 := Lib.hid hq1
  have HQ2 := Lib.hid hq2
  have HN1 := Lib.hid hn1
  have HW4 := Lib.hid hW4
  clear hr hr1 hr2 hr3 h4 ht hI hW4 hq1 hq2 hn1 hbx hw y0 y1 y2 y3
  simp [MskL.fillR, Act.put, e1, e3, e5, e6, List.range_succ, wpOps_cons, wpOp, Region.wanted, Oper.wp, go_sem, k0, k1, k2, k3, f0, f1, f2, f3]
  refine .inl (.inl (.inl ?_))
  simp only [wpOps]
  rw [← HW4.out]
  clear e1 e3 e5 e6 k0 k1 k2 k3 f0 f1 f2 f3
  have HRo := Lib.hid (fun (M : Int) (X : World) (hX : R3 w1 A1 c1 q1 A2 c2 q2 A3 c3 v gq P.k P.t M X) => show Calls Tryz.prog 24 #[.slice A1 n1 c1, .slice A2 n c2, .agg #[.slice A3 nv c3, .int .i64 P.k, .int .u64 P.t, .int .i64 M]] X (GivesHE X (prL P.k M R C v) (prE P.k M R C v)) from by
    have hvs := hX.vs.vecs
    rw [HQ2.out] at hvs
    have h := rowsP_any A1 c1 q1 A2 c2 C v A3 c3 P.k P.t M X hX.rs.rws hvs hX.vv.vec (by have := HRl.out; rw [← HQ1.out, rvs_length] at this; omega)
    rw [HQ1.out, ← HN1.out, ← HN.out, ← HNv.out] at h
    exact h)
  have HFl := Lib.hid (fun (M : Int) (X : World) (hX : R3 w1 A1 c1 q1 A2 c2 q2 A3 c3 v gq P.k P.t M X) => show Calls Tryz.prog 26 #[.slice A1 n1 c1, .agg #[.slice A3 nv c3, .int .i64 P.k]] X (GivesHE X (rowsL P.k R v) (rowsE P.k R v)) from by
    have h := rowsQ_any v A3 c3 P.k A1 c1 q1 X hX.vv.vec hX.rs.rws
    rw [HQ1.out, ← HN1.out, ← HNv.out] at h
    exact h)
  have hmax : max (n : Int) 1 = ((max n 1 : Nat) : Int) := by omega
  have hn7 : n ≤ 7 := by have := HCl.out; omega
  have HA1 := Lib.hid (all_same (k := P.k) (R := R) (v := v) (N := ((max n 1 : Nat) : Int)) (C := C) (by rw [nB_iff]; omega) (by rw [← HN.out]; omega))
  have HA2 := Lib.hid (all_same (k := P.k) (R := R) (v := v) (N := 1048576) (C := C) (by decide) (by rw [← HN.out]; omega))
  have HG := Lib.hid (all_flat (k := P.k) (R := R) (C := C) (v := v))
  obtain ⟨M, hM⟩ : ∃ M : Int, M = ((max n 1 : Nat) : Int) := ⟨_, rfl⟩
  rw [← hM] at hmax HA1
  obtain ⟨hc4, hf4⟩ := HI.out.cells
  rw [← HNv.out] at hc4
  obtain ⟨k0, k1, k2, k3⟩ := hc4
  have f3 := hf4 3
  have hI5 := HI.out.set M
  obtain ⟨W5, hW5⟩ : ∃ W5, W5 = W4.setCell ⟨gq, 3, none⟩ (.int .i64 M) := ⟨_, rfl⟩
  rw [← hW5] at hI5
  obtain ⟨hc5, hf5⟩ := hI5.cells
  rw [← HNv.out] at hc5
  obtain ⟨l0, l1, l2, l3⟩ := hc5
  have hro := HRo.out M W5 hI5
  rw [HA1.out.1, HA1.out.2] at hro
  have HR5 := Lib.hid hro
  have HI5 := Lib.hid hI5
  have HW5 := Lib.hid hW5
  have HR6 := Lib.hid (fun (X : World) (hX : R3 w1 A1 c1 q1 A2 c2 q2 A3 c3 v gq P.k P.t 1048576 X) => by have h := HRo.out 1048576 X hX; rw [HA2.out.1, HA2.out.2] at h; exact h)
  generalize hGE : prG P.k R C v = G at *
  obtain ⟨GL, hGL⟩ : ∃ GL, GL = (if G = 0 then rowsL P.k R v else []) := ⟨_, rfl⟩
  rw [← hGL] at HR5 HR6
  have HGL := Lib.hid hGL
  clear hM hW5 hro hI5 hf4 hf5 hGE hGL hn7
  go_wp2_with (rw [← HW5.out])
  refine HR5.out.mono ?_
  rintro e w6 ⟨A6, c6, he, ho6, hb6⟩
  obtain ⟨m6, hm6⟩ : ∃ m, m = GL.length := ⟨_, rfl⟩
  rw [← hm6] at he
  subst he
  have HO6 := Lib.hid ho6
  have HI6 := Lib.hid (HI5.out.below hb6)
  have HM6 := Lib.hid hm6
  clear ho6 hb6 hm6 k0 k1 k2 k3 f3 l0 l1 l2 l3
  by_cases hG : G = 0
  · have hfe := HG.out hG
    have hGL : GL = rowsL P.k R v := by rw [HGL.out, if_pos hG]
    have HF6 := Lib.hid (HFl.out M w6 HI6.out)
    rw [hfe, ← hGL] at HF6
    subst hG
    obtain ⟨hc6, hf6⟩ := HI6.out.cells
    rw [← HNv.out] at hc6
    obtain ⟨k0, k1, k2, k3⟩ := hc6
    clear hfe hGL hf6
    go_wp2_with fail
    refine HF6.out.mono ?_
    rintro e w7 ⟨A7, c7, he, ho7, hb7⟩
    rw [← HM6.out] at he
    subst he
    have HI7 := Lib.hid (HI6.out.below hb7)
    have HO7 := Lib.hid ho7
    have HH6 := Lib.hid (HO6.out.below hb7)
    obtain ⟨hc7, hf7⟩ := HI7.out.cells
    rw [← HNv.out] at hc7
    obtain ⟨z0, z1, z2, z3⟩ := hc7
    have f3 := hf7 3
    have hI8 := HI7.out.set 1048576
    have hs8 := turn_set w7 gq 3 (.int .i64 1048576)
    obtain ⟨W8, hW8⟩ : ∃ W8, W8 = w7.setCell ⟨gq, 3, none⟩ (.int .i64 1048576) := ⟨_, rfl⟩
    rw [← hW8] at hI8 hs8
    obtain ⟨hc8, hf8⟩ := hI8.cells
    rw [← HNv.out] at hc8
    obtain ⟨y0, y1, y2, y3⟩ := hc8
    have HI8 := Lib.hid hI8
    have HO8 := Lib.hid (OwnH.probe HO7.out HI7.out.bx hs8)
    have HH8 := Lib.hid (OwnH.probe HH6.out HI7.out.bx hs8)
    have HR8 := Lib.hid (HR6.out W8 hI8)
    have HW8 := Lib.hid hW8
    clear ho7 hb7 k0 k1 k2 k3 hf7 hI8 hs8 hf8 hW8
    go_wp2_with (rw [← HW8.out])
    refine HR8.out.mono ?_
    rintro e w9 ⟨A9, c9, he, ho9, hb9⟩
    rw [← HM6.out] at he
    subst he
    have HO9 := Lib.hid ho9
    have hh6 := (HH8.out.below hb9).hits
    have hh7 := (HO8.out.below hb9).hits
    have hh9 := ho9.hits
    have HS1 := Lib.hid (fun (X : World) (hX : Below w9.heap.size w9 X) => TopL.same_yes A6 A7 c6 c7 GL X (hh6.below hX) (hh7.below hX))
    have HS2 := Lib.hid (fun (X : World) (hX : Below w9.heap.size w9 X) => TopL.same_yes A9 A7 c9 c7 GL X (hh9.below hX) (hh7.below hX))
    rw [← HM6.out] at HS1 HS2
    have HB9 := Lib.hid (HB0.out.trans ((HB1.out.trans ((HI8.out.below hb9).bel.mono HB1.out.size)).mono HB0.out.size))
    clear ho9 hb9 hh6 hh7 hh9 z0 z1 z2 z3 f3 y0 y1 y2 y3
    go_wp2_with fail
    refine (HS1.out w9 (Below.refl _ _)).mono ?_
    rintro e w10 ⟨rfl, hb10⟩
    have HB10 := Lib.hid hb10
    clear hb10
    go_wp2_with fail
    refine (HS2.out w10 HB10.out).mono ?_
    rintro e w11 ⟨rfl, hb11⟩
    have HB11 := Lib.hid (HB9.out.trans ((HB10.out.trans (hb11.mono HB10.out.size)).mono HB9.out.size))
    clear hb11
    go_wp2
    go_ret
    exact ⟨by first | rfl | simp, HB11.out⟩
  · have hGL : GL = [] := by rw [HGL.out, if_neg hG]
    have hm0 : m6 = 0 := by rw [HM6.out, hGL]; rfl
    subst hm0
    have t1 : (G != 0) = true := by simpa using hG
    have t2 : (G == 0) = false := by simpa using hG
    have HB9 := Lib.hid (HB0.out.trans ((HB1.out.trans (HI6.out.bel.mono HB1.out.size)).mono HB0.out.size))
    clear hGL hG
    go_wp2
    go_ret
    exact ⟨by first | rfl | simp, HB9.out⟩

set_option maxRecDepth 100000 in
theorem lifted (os : Os) (started : os.Started) (H : Type) (enc : TypeId × Value → H) :
    ReturnsInHanded {} Tryz.checked os 6 .any (Rows.probeAllSpec.pre6 enc Tryz.prog Tryz.f6 Rows.probeAllRow.domain false) (Rows.probeAllSpec.post enc Tryz.prog Tryz.f6 false true false false) := by
  refine returnsInHanded_of_change (C := Tryz.checked) Tryz.own started (by kernel_rfl) Tryz.func6
    (ChangeSpec.witness6 (enc := enc) (C := Tryz.checked) false ⟨#[], #[.slice none 0 0, .slice none 0 0, .agg #[.slice none 0 0, .int .i64 0, .int .u64 0, .int .i64 0]], []⟩ 8 (by kernel_rfl) (by kernel_rfl) (by kernel_rfl) (by kernel_rfl)) ?_
  intro W base args ds gs before hval0 hW hcnd _
  have hval : ∀ (j : Nat) t v, Tryz.f6.params[j]? = some t → args[j]? = some v → Value.okWide Tryz.prog W .any base t v := hval0
  have hW' := hW
  obtain ⟨p, q, hA0, hV, rfl, hfz, hnd⟩ := hW
  have hA : DataW.TrodAll enc Tryz.prog W 0 (fun _ => true) true Tryz.f6.params.toList args.toList ds p := hA0
  rw [Tryz.params6] at hA hval
  have hA' := hA
  obtain ⟨v0, vs0, d0, ds0, p0, q0, hargs, rfl, rfl, h0, r0⟩ := trodAll_cons hA
  obtain ⟨v1, vs1, d1, ds1, p1, q1, rfl, rfl, rfl, h1, r1⟩ := trodAll_cons r0
  obtain ⟨v2, vs2, d2, ds2, p2, q2, rfl, rfl, rfl, h2, r2⟩ := trodAll_cons r1
  obtain ⟨rfl, rfl, rfl⟩ := trodAll_nil r2
  obtain rfl : args = #[v0, v1, v2] := by cases args; simp_all
  obtain ⟨rfl, rfl⟩ := trodVars_none hV
  obtain ⟨A0, len0, c0, rfl⟩ := okWide_slice Tryz.underlying55 (hval 0 55 v0 rfl rfl)
  obtain ⟨z0, rfl, sl0⟩ := open_rows h0
  obtain ⟨A1, len1, c1, rfl⟩ := okWide_slice Tryz.underlying22 (hval 1 22 v1 rfl rfl)
  obtain ⟨z1, rfl, sl1⟩ := open_vecs h1
  obtain ⟨z2, rfl, sl2⟩ := open_probe (hval 2 47 v2 rfl rfl) h2
  clear hA0 hval0
  refine (walk A0 c0 z0 sl0 A1 c1 z1 sl1 z2 sl2).mono fun e W' ⟨he, bel⟩ => ?_
  subst he
  exact ⟨_, rfl, _, _, _, [], _, [], hW', trodAll_mk1 (shut_bool Tryz.underlying4 _), trodAll_below bel _ _ _ _ (by kernel_rfl) hA', rfl, bel.frame _, fun h => by cases h⟩

theorem proved : Rows.ProbeAllSaid :=
  OpenClaim.holds_of_wide 6 Tryz.f6 rfl rfl rfl rfl rfl rfl rfl ⟨rfl, rfl, rfl, rfl, rfl⟩ rfl rfl rfl rfl rfl (by kernel_rfl) Tryz.func6 (by kernel_rfl)
    (of_decide_eq_true (by kernel_rfl)) (by unfold Func.isWrapper; first | (rw [if_pos (by decide +kernel)]; kernel_rfl) | (rw [if_neg (by decide +kernel)]; exact ⟨rfl, rfl⟩))
    (fun os started H enc _ => lifted os started H enc)
#print axioms proved
end Go.Proofs.YtcekgllahlhaaaaGreat.probeAll
