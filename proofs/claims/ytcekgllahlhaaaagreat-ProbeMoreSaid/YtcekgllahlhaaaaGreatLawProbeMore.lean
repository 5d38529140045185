/-
  ProbeMore: with more lists nothing that is found comes later. Holds for all rows, centroids, probes and worlds; of these what the law goes through.
-/
import Derived.Test.YtcekgllahlhaaaaGreatMPrF
namespace Go.Proofs.YtcekgllahlhaaaaGreat.probeMore
open Go.ChangeShapes Go.WideShapes Go.ChangeAt Go.RowKit Go.Deep Go.Shelf
set_option linter.unusedVariables false
set_option linter.unusedSimpArgs false
set_option maxRecDepth 100000

/-! ### nothing comes later -/
def LeP (s t : List TopL.HitM) : Prop := t.length ≤ s.length ∧ ∀ i, i < t.length → TopL.ahead (t.getD i TopL.z2) (s.getD i TopL.z2) = false
theorem LeP.refl (s : List TopL.HitM) : LeP s s := ⟨Nat.le_refl _, fun i _ => TopL.ahead_irrefl _⟩
theorem LeP.trans {a b c : List TopL.HitM} (h : LeP a b) (k : LeP b c) : LeP a c := ⟨Nat.le_trans k.1 h.1, fun i hi => TopL.ahead_trans (k.2 i hi) (h.2 i (Nat.lt_of_lt_of_le hi k.1))⟩
theorem LeP.nil (s : List TopL.HitM) : LeP s [] := ⟨Nat.zero_le _, fun i hi => absurd hi (Nat.not_lt_zero i)⟩
theorem LeP.take {s t : List TopL.HitM} (h : LeP s t) (k : Nat) : LeP (s.take k) (t.take k) := by
  refine ⟨by rw [List.length_take, List.length_take]; have := h.1; omega, fun i hi => ?_⟩
  rw [List.length_take] at hi
  have e1 : (t.take k).getD i TopL.z2 = t.getD i TopL.z2 := by rw [List.getD_eq_getElem?_getD, List.getD_eq_getElem?_getD, List.getElem?_take_of_lt (by omega)]
  have e2 : (s.take k).getD i TopL.z2 = s.getD i TopL.z2 := by rw [List.getD_eq_getElem?_getD, List.getD_eq_getElem?_getD, List.getElem?_take_of_lt (by omega)]
  rw [e1, e2]
  exact h.2 i (by omega)
theorem LeP.ins (h : TopL.HitM) : ∀ {s : List TopL.HitM}, TopL.Srt s → LeP (TopL.ins h s) s
  | [], _ => LeP.nil _
  | x :: s, hs => by
    have hs' := List.pairwise_cons.1 hs
    refine ⟨by rw [TopL.ins_length]; omega, fun i hi => ?_⟩
    unfold TopL.ins
    split
    · rename_i ha
      cases i with
      | zero => simpa using TopL.ahead_asymm ha
      | succ i =>
        have hi' : i + 1 < (x :: s).length := hi
        simp only [List.length_cons] at hi'
        show TopL.ahead ((x :: s).getD (i + 1) TopL.z2) ((x :: s).getD i TopL.z2) = false
        have := List.pairwise_iff_getElem.1 hs i (i + 1) (by simp; omega) (by simp; omega) (by omega)
        rw [List.getD_eq_getElem?_getD, List.getD_eq_getElem?_getD, List.getElem?_eq_getElem (by simp; omega), List.getElem?_eq_getElem (by simp; omega)]
        exact this
    · cases i with
      | zero => simpa using TopL.ahead_irrefl x
      | succ i =>
        have := (LeP.ins h hs'.2).2 i (by simpa using hi)
        simpa using this
theorem LeP.more (l : List TopL.HitM) (r : List TopL.HitM) : LeP (TopL.sortM (l ++ r)) (TopL.sortM l) := by
  induction r using TopL.list_rev with
  | h0 => rw [List.append_nil]; exact LeP.refl _
  | hs r x ih =>
    rw [← List.append_assoc, TopL.sort_snoc]
    exact (LeP.ins x (TopL.sort_srt _)).trans ih
theorem LeP.filter {α : Type} (f : α → TopL.HitM) (P Q : α → Bool) (hPQ : ∀ a, P a = true → Q a = true) (l : List α) (k : Nat) : LeP (TopL.firstM k ((l.filter Q).map f)) (TopL.firstM k ((l.filter P).map f)) := by
  have h1 : (l.filter Q).filter P = l.filter P := by
    rw [List.filter_filter]
    congr 1
    funext a
    cases hp : P a with
    | false => rfl
    | true => rw [hPQ a hp]; rfl
  have h2 := List.filter_append_perm P (l.filter Q)
  rw [h1] at h2
  have h3 := h2.map f
  rw [List.map_append] at h3
  unfold TopL.firstM
  rw [← TopL.sort_of_perm h3]
  exact (LeP.more _ _).take k
theorem pr_more {k : Int} {m : Nat} {R : List Rv} {C : List (List Int)} {v : List Int} (h : prE k m R C v = 0) (h' : prE k (m + 1 : Nat) R C v = 0) : LeP (prL k (m + 1 : Nat) R C v) (prL k m R C v) := by
  unfold prL
  rw [if_pos h, if_pos h']
  have hr : ∀ {z : Int}, prE k z R C v = 0 → rowsE k (belL C (askM C v z) R) v = 0 := fun {z} h => by
    unfold prE at h
    split at h
    · split at h
      · split at h
        · exact h
        · omega
      · omega
    · rename_i h1; exact absurd h h1
  unfold rowsL
  rw [if_pos (hr h), if_pos (hr h')]
  unfold hitL belL
  refine LeP.filter (hitM v) _ _ (fun p hp => ?_) R k.toNat
  unfold inQ askM at *
  rw [decide_eq_true_iff] at *
  exact asked_more (by simp) hp
theorem cmp_le {a b : TopL.HitM} (h : TopL.ahead b a = false) : compareM a.1 a.2 b.1 b.2 ≤ 0 := by
  rw [TopL.ahead_not] at h
  unfold compareM orM cmpM
  split <;> split <;> omega

set_option maxHeartbeats 8000000 in
theorem walk {w : World} (Ax : Option Addr) (cx : Nat) (q0 : List Pr) (hx : Rws w Ax cx q0) (Ay : Option Addr) (cy : Nat) (Y : List (List Int)) (hy : Vecs .i32 w Ay cy Y) (P : Pb) (hp : Vec .i32 w P.B P.c P.x) :
    Calls Tryz.prog 7 #[.slice Ax q0.length cx, .slice Ay Y.length cy, pv P.B P.x.length P.c P.k P.t P.n] w fun e w' => e = .returned (.bool true) ∧ Below w.heap.size w w' := by
  obtain ⟨nx, hnx⟩ : ∃ k, k = q0.length := ⟨_, rfl⟩
  obtain ⟨ny, hny⟩ : ∃ k, k = Y.length := ⟨_, rfl⟩
  obtain ⟨np, hnp⟩ : ∃ k, k = P.x.length := ⟨_, rfl⟩
  obtain ⟨g0, hg0⟩ : ∃ g, g = w.heap.size := ⟨_, rfl⟩
  obtain ⟨W0, hW0⟩ : ∃ W0, W0 = w.alloc (.cells #[.slice P.B np P.c, .int .i64 P.k, .int .u64 P.t, .int .i64 P.n] 47) := ⟨_, rfl⟩
  obtain ⟨hp0, hb0⟩ := pbox w P.B np P.c P.k P.t P.n
  rw [← hW0] at hp0 hb0
  rw [← hg0] at hp0
  have HWk := Lib.hid (wakes_any W0)
  have HRs := Lib.hid (fun (X : World) (hX : Below W0.heap.size W0 X) => rowsO_any Ax cx q0 X ((hx.below hb0).below hX))
  have HVs := Lib.hid (fun (X : World) (hX : Below W0.heap.size W0 X) => vecsO_any Ay cy Y X ((hy.below hb0).below hX))
  have HSo := Lib.hid (fun (X : World) (hX : Below W0.heap.size W0 X) => someO_any P.B P.c P.x P.k P.t P.n X ((hp.below hb0).below hX))
  have HP := Lib.hid (fun (X : World) (hX : Below W0.heap.size W0 X) => hp0.below hX hp0.lt)
  rw [← hnx] at HRs
  rw [← hny] at HVs
  rw [← hnp] at HSo
  have HCl := Lib.hid (cutC_len Y)
  have HRl := Lib.hid (show (cutR (rvs q0)).length ≤ 60 by rw [cutR_len]; omega)
  generalize hR : cutR (rvs q0) = R at *
  generalize hC : cutC Y = C at *
  generalize hv : P.x.take 5 = v at *
  obtain ⟨n, hn⟩ : ∃ n, n = C.length := ⟨_, rfl⟩
  obtain ⟨nv, hnv⟩ : ∃ n, n = v.length := ⟨_, rfl⟩
  have HN := Lib.hid hn
  have HNv := Lib.hid hnv
  rw [← hn] at HVs HCl
  rw [← hnv] at HSo
  rw [← hnx, ← hny, ← hnp]
  have HB0 := Lib.hid hb0
  have HW0 := Lib.hid hW0
  have HG0 := Lib.hid hg0
  obtain ⟨x0, x1, x2, x3⟩ := hp0
  clear hx hy hp hb0 hW0 hg0 hnx hny hnp hR hC hv hn hnv
  unfold pv at *
  go_enter Tryz.func7, Tryz.ntmps7
  go_wp2_with (rw [← HW0.out, ← HG0.out])
  refine HWk.out.mono ?_
  rintro e w1 ⟨rfl, hb1⟩
  have HB1 := Lib.hid hb1
  obtain ⟨y0, y1, y2, y3⟩ := HP.out w1 hb1
  clear hb1 x0 x1 x2 x3
  go_upto_region 3 with fail
  refine MskL.region_relG (fun X => Below w1.heap.size w1 X) (r3 (.slice Ax nx cx) (.slice Ay ny cy) (.agg #[.slice P.B np P.c, .int .i64 P.k, .int .u64 P.t, .int .i64 P.n]) R C v P.k P.t P.n w1.heap.size) 7 3
    (r3_stable _ _ _ _ _ _ _ _ _ _) (by kernel_rfl) (below_drew (Below.refl _ _)) rfl (by decide) (by kernel_rfl) (by kernel_rfl) (by kernel_rfl) (by kernel_rfl) (by kernel_rfl) ?_ ?_
  · refine ⟨?_, ?_, ?_, ?_, ?_, ?_, ?_, trivial⟩
    · intro f w hw hd
      simp [MskL.fillR, Act.put, go_sem, MskL.relG, r3, hw, Below.refl]
    · intro f w hw hd
      have e0 : f 0 = .slice Ax nx cx := MskL.depG_of hd 0 (by kernel_rfl)
      simp [MskL.fillR, Act.put, go_sem, MskL.relG, r3, hw, Below.refl, e0]
      refine (HRs.out w (below_tr HB1.out hw)).mono ?_
      rintro e w2 ⟨A, c, q, rfl, hq, hr, hb⟩
      refine ⟨⟨A, c, q, rfl, hq, hr.mono hw.size⟩, hw.trans (hb.mono hw.size), hb⟩
    · intro f w hw hd
      simp [MskL.fillR, Act.put, go_sem, MskL.relG, r3, hw, Below.refl]
    · intro f w hw hd
      have e2 : f 2 = .slice Ay ny cy := MskL.depG_of hd 2 (by kernel_rfl)
      simp [MskL.fillR, Act.put, go_sem, MskL.relG, r3, hw, Below.refl, e2]
      refine (HVs.out w (below_tr HB1.out hw)).mono ?_
      rintro e w2 ⟨A, c, q, rfl, hq, hr, hb⟩
      refine ⟨⟨A, c, q, by rw [HN.out], hq, hr.mono hw.size⟩, hw.trans (hb.mono hw.size), hb⟩
    · intro f w hw hd
      obtain ⟨z0, z1, z2, z3⟩ := HP.out w (below_tr HB1.out hw)
      simp [MskL.fillR, Act.put, go_sem, MskL.relG, r3, hw, Below.refl, z0, z1, z2, z3]
    · intro f w hw hd
      have e4 : f 4 = .agg #[.slice P.B np P.c, .int .i64 P.k, .int .u64 P.t, .int .i64 P.n] := MskL.depG_of hd 4 (by kernel_rfl)
      simp [MskL.fillR, Act.put, go_sem, MskL.relG, r3, hw, Below.refl, e4]
      refine (HSo.out w (below_tr HB1.out hw)).mono ?_
      rintro e w2 ⟨A, c, rfl, hr, hb⟩
      refine ⟨⟨A, c, by rw [HNv.out]; rfl, World.ownsRow.mono hr.1 hw.size, hr.2⟩, hw.trans (hb.mono hw.size), hb⟩
    · intro f w hw hd
      simp [MskL.fillR, Act.put, go_sem, MskL.relG, r3, hw, Below.refl]
      refine ⟨⟨w.heap.size, rfl, hw.size, heap_alloc_new _ _⟩, hw.alloc hw.size _, bn1 _ _⟩
  intro f w3 hw hr
  obtain ⟨A1, c1, q1, e1, hq1, hr1⟩ : r3rows w1.heap.size R (f 1) w3 := hr 1 (by decide)
  obtain ⟨A2, c2, q2, e3, hq2, hr2⟩ : r3vecs w1.heap.size C (f 3) w3 := hr 3 (by decide)
  obtain ⟨A3, c3, e5, hr3⟩ : r3some w1.heap.size v P.k P.t P.n (f 5) w3 := hr 5 (by decide)
  obtain ⟨gq, e6, hgq, hbx⟩ : r3box w1.heap.size (f 6) w3 := hr 6 (by decide)
  rw [← HN.out] at e3
  rw [← HNv.out] at e5
  unfold pv at e5
  obtain ⟨n1, hn1⟩ : ∃ n1, n1 = q1.length := ⟨_, rfl⟩
  rw [← hn1] at e1
  have h4 := set4 hbx (.slice A3 nv c3) (.int .i64 P.k) (.int .u64 P.t) (.int .i64 P.n)
  have ht := put4_turn w3 gq (.slice A3 nv c3) (.int .i64 P.k) (.int .u64 P.t) (.int .i64 P.n)
  have k0 := (cell_of_row _ _ 0 _ _ _ hbx).trans rfl
  have k1 := (cell_of_row _ _ 1 _ _ _ hbx).trans rfl
  have k2 := (cell_of_row _ _ 2 _ _ _ hbx).trans rfl
  have k3 := (cell_of_row _ _ 3 _ _ _ hbx).trans rfl
  have f0 : w3.frozen? ⟨gq, 0, none⟩ = false := frozen_of_row _ _ _ _ _ hbx
  have f1 : w3.frozen? ⟨gq, 1, none⟩ = false := frozen_of_row _ _ _ _ _ hbx
  have f2 : w3.frozen? ⟨gq, 2, none⟩ = false := frozen_of_row _ _ _ _ _ hbx
  have f3 : w3.frozen? ⟨gq, 3, none⟩ = false := frozen_of_row _ _ _ _ _ hbx
  have hI : R3 w1 A1 c1 q1 A2 c2 q2 A3 c3 v gq P.k P.t P.n (put4 w3 gq (.slice A3 nv c3) (.int .i64 P.k) (.int .u64 P.t) (.int .i64 P.n)) :=
    ⟨hr1.box hbx ht, hr2.box hbx ht, hr3.box hbx ht, by rw [← HNv.out]; exact h4, hgq, hw.trans (ht.below hw.size (fun i hi => by omega))⟩
  obtain ⟨W4, hW4⟩ : ∃ W4, W4 = put4 w3 gq (.slice A3 nv c3) (.int .i64 P.k) (.int .u64 P.t) (.int .i64 P.n) := ⟨_, rfl⟩
  rw [← hW4] at hI
  unfold put4 at hW4
  have HI := Lib.hid hI
  have HQ1 := Lib.hid hq1
  have HQ2 := Lib.hid hq2
  have HN1 := Lib.hid hn1
  have HW4 := Lib.hid hW4
  clear hr hr1 hr2 hr3 h4 ht hI hW4 hq1 hq2 hn1 hbx hw y0 y1 y2 y3
  simp [MskL.fillR, Act.put, e1, e3, e5, e6, List.range_succ, wpOps_cons, wpOp, Region.wanted, Oper.wp, go_sem, k0, k1, k2, k3, f0, f1, f2, f3]
  refine .inl (.inl (.inl ?_))
  simp only [wpOps]
  rw [← HW4.out]
  clear e1 e3 e5 e6 k0 k1 k2 k3 f0 f1 f2 f3
  have HRo := Lib.hid (fun (M : Int) (X : World) (hX : R3 w1 A1 c1 q1 A2 c2 q2 A3 c3 v gq P.k P.t M X) => show Calls Tryz.prog 24 #[.slice A1 n1 c1, .slice A2 n c2, .agg #[.slice A3 nv c3, .int .i64 P.k, .int .u64 P.t, .int .i64 M]] X (GivesHE X (prL P.k M R C v) (prE P.k M R C v)) from by
    have hvs := hX.vs.vecs
    rw [HQ2.out] at hvs
    have h := rowsP_any A1 c1 q1 A2 c2 C v A3 c3 P.k P.t M X hX.rs.rws hvs hX.vv.vec (by have := HRl.out; rw [← HQ1.out, rvs_length] at this; omega)
    rw [HQ1.out, ← HN1.out, ← HN.out, ← HNv.out] at h
    exact h)
  have HMo := Lib.hid (fun (m : Nat) (h : prE P.k m R C v = 0) (h' : prE P.k (m + 1 : Nat) R C v = 0) => pr_more (k := P.k) (R := R) (C := C) (v := v) h h')
  have HBad := Lib.hid (fun (m : Nat) (h : prE P.k m R C v ≠ 0) => show prL P.k m R C v = [] from by unfold prL; rw [if_neg h])
  have hn7 : n ≤ 7 := by have := HCl.out; omega
  generalize hFE : (fun m : Nat => prE P.k m R C v) = FE at *
  generalize hFL : (fun m : Nat => prL P.k m R C v) = FL at *
  have HFE := Lib.hid (fun m : Nat => congrFun hFE m)
  have HFL := Lib.hid (fun m : Nat => congrFun hFL m)
  clear hFE hFL
  go_wp2
  go_loopw [10, 11] (fun lst i wr => ∃ (m : Nat) (A : Option Addr) (c : Nat) (LL : List TopL.HitM) (z : Nat), 1 ≤ m ∧ m ≤ n + 1 ∧ i = .int .i64 m ∧ lst = .slice A z c ∧ Hid (z = LL.length ∧ OwnH w1.heap.size wr A c LL) ∧ Hid (LL = [] ∨ ∃ r, m = r + 1 ∧ LL = FL r ∧ FE r = 0) ∧ Hid (∃ N, R3 w1 A1 c1 q1 A2 c2 q2 A3 c3 v gq P.k P.t N wr)) (fun _ i _ => n + 1 - (intOf i).toNat)
  case atStart => exact ⟨1, none, 0, [], 0, Nat.le_refl _, by omega, rfl, rfl, Lib.hid ⟨rfl, OwnH.nil _ _⟩, Lib.hid (.inl rfl), Lib.hid ⟨_, HI.out⟩⟩
  case round =>
    obtain ⟨m, A, c, LL, z, hm1, hm, rfl, rfl, HO, HS, HI3⟩ := hrel
    obtain ⟨N0, hI⟩ := HI3.out
    by_cases hmn : m ≤ n
    · have t1 : decide ((m : Int) ≤ (n : Int)) = true := by simp; omega
      have t2 : decide (m ≤ n) = true := by simpa using hmn
      have m0 : (0 : Int) ≤ m := by omega
      obtain ⟨hc4, hf4⟩ := hI.cells
      rw [← HNv.out] at hc4
      obtain ⟨k0, k1, k2, k3⟩ := hc4
      have f3 := hf4 3
      have hI5 := hI.set m
      have hs5 := turn_set wr gq 3 (.int .i64 (m : Int))
      obtain ⟨W5, hW5⟩ : ∃ W5, W5 = wr.setCell ⟨gq, 3, none⟩ (.int .i64 (m : Int)) := ⟨_, rfl⟩
      rw [← hW5] at hI5 hs5
      obtain ⟨hc5, hf5⟩ := hI5.cells
      rw [← HNv.out] at hc5
      obtain ⟨l0, l1, l2, l3⟩ := hc5
      have hro := HRo.out m W5 hI5
      rw [show prE P.k m R C v = FE m from HFE.out m, show prL P.k m R C v = FL m from HFL.out m] at hro
      have HR5 := Lib.hid hro
      have HI5 := Lib.hid hI5
      have HW5 := Lib.hid hW5
      have HO5 := Lib.hid (OwnH.probe HO.out.2 hI.bx hs5)
      obtain ⟨E, hE⟩ : ∃ E, E = FE m := ⟨_, rfl⟩
      obtain ⟨GL, hGL⟩ : ∃ GL, GL = FL m := ⟨_, rfl⟩
      rw [← hE, ← hGL] at HR5
      have HE := Lib.hid hE
      have HGL := Lib.hid hGL
      clear hW5 hro hI5 hs5 hf4 hf5 hE hGL hI
      go_wp2_with (rw [← HW5.out])
      refine HR5.out.mono ?_
      rintro e w6 ⟨A6, c6, he, ho6, hb6⟩
      obtain ⟨m6, hm6⟩ : ∃ m, m = GL.length := ⟨_, rfl⟩
      rw [← hm6] at he
      subst he
      have HO6 := Lib.hid (OwnH.mono (b := w1.heap.size) ho6 HI5.out.bel.size)
      have HH6 := Lib.hid (HO5.out.below hb6)
      have HI6 := Lib.hid (HI5.out.below hb6)
      have HM6 := Lib.hid hm6
      clear ho6 hb6 hm6 k0 k1 k2 k3 f3 l0 l1 l2 l3
      by_cases hE : E = 0
      · have hle : LeP GL LL := by
          rcases HS.out with h | ⟨r, h1, h2, h3⟩
          · rw [h]; exact LeP.nil _
          · subst h1
            rw [h2, HGL.out, ← HFL.out r, ← HFL.out (r + 1)]
            exact HMo.out r ((HFE.out r).trans h3) ((HFE.out (r + 1)).trans (by rw [← HE.out]; exact hE))
        have hzm : z ≤ m6 := by rw [HO.out.1, HM6.out]; exact hle.1
        have t3 : decide ((m6 : Int) < (z : Int)) = false := by simp; omega
        have t4 : decide (m6 < z) = false := by simp; omega
        have HS1 := Lib.hid (show GL = [] ∨ ∃ r, m + 1 = r + 1 ∧ GL = FL r ∧ FE r = 0 from .inr ⟨m, rfl, HGL.out, by rw [← HE.out]; exact hE⟩)
        have HLe := Lib.hid hle
        subst hE
        clear hle
        go_wp2
        go_loopw [50] (fun i wq => ∃ j : Nat, j ≤ z ∧ i = .int .i64 j ∧ Hid (Below w6.heap.size w6 wq)) (fun i _ => z - (intOf i).toNat)
        case atStart => exact ⟨0, Nat.zero_le _, rfl, Lib.hid (Below.refl _ _)⟩
        case round =>
          obtain ⟨j, hj, rfl, HW⟩ := hrel
          by_cases hjz : j < z
          · obtain ⟨b6, o6, rfl, _, d0, d1⟩ := (HO6.out.below HW.out).hits.at_ (j := j) (by rw [← HM6.out]; omega)
            obtain ⟨b7, o7, rfl, _, d2, d3⟩ := (HH6.out.below HW.out).hits.at_ (j := j) (by rw [← HO.out.1]; exact hjz)
            have h1 := (HO6.out.below HW.out).hits.room
            have h2 := (HO6.out.below HW.out).hits.most
            have h3 := (HH6.out.below HW.out).hits.room
            have h4 := (HH6.out.below HW.out).hits.most
            rw [← HM6.out] at h1
            rw [← HO.out.1] at h3
            have hah := cmp_le (HLe.out.2 j (by rw [← HO.out.1]; exact hjz))
            generalize GL.getD j TopL.z2 = a at *
            generalize LL.getD j TopL.z2 = b at *
            obtain ⟨a1, a2⟩ := a
            obtain ⟨b1, b2⟩ := b
            dsimp only at d0 d1 d2 d3 hah
            obtain ⟨cm, hcm⟩ : ∃ cm, cm = compareM a1 a2 b1 b2 := ⟨_, rfl⟩
            have HC := Lib.hid (fun X => compare_any a1 a2 b1 b2 X)
            rw [← hcm] at HC hah
            have t5 : decide (0 < cm) = false := by simp; omega
            have t6 : decide (cm > 0) = false := by simp; omega
            have HS2 := Lib.hid (fun (X : World) (hX : Below wr.heap.size wr X) => show (X.cell? ⟨b6, o6 + j * 2, none⟩ = some (.int .u64 a1) ∧ X.cell? ⟨b6, o6 + j * 2 + 1, none⟩ = some (.int .u64 a2)) ∧ X.cell? ⟨b7, o7 + j * 2, none⟩ = some (.int .u64 b1) ∧ X.cell? ⟨b7, o7 + j * 2 + 1, none⟩ = some (.int .u64 b2) from
              ⟨⟨(hX.cell (World.block_lt_of_cell? _ _ d0)).trans d0, (hX.cell (World.block_lt_of_cell? _ _ d1)).trans d1⟩, (hX.cell (World.block_lt_of_cell? _ _ d2)).trans d2, (hX.cell (World.block_lt_of_cell? _ _ d3)).trans d3⟩)
            have j0 : (0 : Int) ≤ j := by omega
            have jz : (j : Int) < z := by omega
            have jm : (j : Int) < m6 := by omega
            have jm2 : j < m6 := by omega
            clear hcm
            go_upto_region 17 with fail
            go_region_held3 (fun X => (X.cell? ⟨b6, o6 + j * 2, none⟩ = some (.int .u64 a1) ∧ X.cell? ⟨b6, o6 + j * 2 + 1, none⟩ = some (.int .u64 a2)) ∧ X.cell? ⟨b7, o7 + j * 2, none⟩ = some (.int .u64 b1) ∧ X.cell? ⟨b7, o7 + j * 2 + 1, none⟩ = some (.int .u64 b2))
              (first | (with_reducible exact ⟨⟨d0, d1⟩, d2, d3⟩) | (with_reducible exact HS2.out _ (below_drew (Below.refl _ _))) | (with_reducible exact HS2.out _ HB9.out))
              (first | (go_at_call 28; (with_reducible refine (HC.out _).mono ?_); rintro e w9 ⟨rfl, hb9⟩; have HB9 := Lib.hid ((bd0 wr).trans hb9); clear hb9))
            all_goals (
              go_wp2
              go_roundw
              case rel => exact ⟨j + 1, by omega, by go_num, Lib.hid (below_tr HW.out HB9.out)⟩
              case measure => simp [intOf]; omega)
          · obtain rfl : j = z := by omega
            have HO9 := Lib.hid (HO6.out.below HW.out)
            have HI9 := Lib.hid (HI6.out.below HW.out)
            go_wp2
            go_roundw
            case rel => exact ⟨m + 1, A6, c6, GL, m6, by omega, by omega, by go_num, rfl, Lib.hid ⟨HM6.out, HO9.out⟩, HS1, Lib.hid ⟨_, HI9.out⟩⟩
            case measure => simp [intOf]; omega
      · have hGL : GL = [] := by rw [HGL.out, ← HFL.out m]; exact HBad.out m (by rw [show prE P.k m R C v = FE m from HFE.out m, ← HE.out]; exact hE)
        have hm0 : m6 = 0 := by rw [HM6.out, hGL]; rfl
        subst hm0
        have t1 : (E != 0) = true := by simpa using hE
        have t2 : (E == 0) = false := by simpa using hE
        have HB9 := Lib.hid (HB0.out.trans ((HB1.out.trans (HI6.out.bel.mono HB1.out.size)).mono HB0.out.size))
        clear hGL hE
        go_wp2
        go_ret
        exact ⟨by first | rfl | simp, HB9.out⟩
    · obtain rfl : m = n + 1 := by omega
      have t1 : decide (((n + 1 : Nat) : Int) ≤ (n : Int)) = false := by simp; omega
      have t2 : decide (n + 1 ≤ n) = false := by simp
      have HB9 := Lib.hid (HB0.out.trans ((HB1.out.trans (hI.bel.mono HB1.out.size)).mono HB0.out.size))
      clear hI
      go_wp2
      go_ret
      exact ⟨by first | rfl | simp, HB9.out⟩

set_option maxRecDepth 100000 in
theorem lifted (os : Os) (started : os.Started) (H : Type) (enc : TypeId × Value → H) :
    ReturnsInHanded {} Tryz.checked os 7 .any (Rows.probeMoreSpec.pre6 enc Tryz.prog Tryz.f7 Rows.probeMoreRow.domain false) (Rows.probeMoreSpec.post enc Tryz.prog Tryz.f7 false true false false) := by
  refine returnsInHanded_of_change (C := Tryz.checked) Tryz.own started (by kernel_rfl) Tryz.func7
    (ChangeSpec.witness6 (enc := enc) (C := Tryz.checked) false ⟨#[], #[.slice none 0 0, .slice none 0 0, .agg #[.slice none 0 0, .int .i64 0, .int .u64 0, .int .i64 0]], []⟩ 8 (by kernel_rfl) (by kernel_rfl) (by kernel_rfl) (by kernel_rfl)) ?_
  intro W base args ds gs before hval0 hW hcnd _
  have hval : ∀ (j : Nat) t v, Tryz.f7.params[j]? = some t → args[j]? = some v → Value.okWide Tryz.prog W .any base t v := hval0
  have hW' := hW
  obtain ⟨p, q, hA0, hV, rfl, hfz, hnd⟩ := hW
  have hA : DataW.TrodAll enc Tryz.prog W 0 (fun _ => true) true Tryz.f7.params.toList args.toList ds p := hA0
  rw [Tryz.params7] at hA hval
  have hA' := hA
  obtain ⟨v0, vs0, d0, ds0, p0, q0, hargs, rfl, rfl, h0, r0⟩ := trodAll_cons hA
  obtain ⟨v1, vs1, d1, ds1, p1, q1, rfl, rfl, rfl, h1, r1⟩ := trodAll_cons r0
  obtain ⟨v2, vs2, d2, ds2, p2, q2, rfl, rfl, rfl, h2, r2⟩ := trodAll_cons r1
  obtain ⟨rfl, rfl, rfl⟩ := trodAll_nil r2
  obtain rfl : args = #[v0, v1, v2] := by cases args; simp_all
  obtain ⟨rfl, rfl⟩ := trodVars_none hV
  obtain ⟨A0, len0, c0, rfl⟩ := okWide_slice Tryz.underlying55 (hval 0 55 v0 rfl rfl)
  obtain ⟨z0, rfl, sl0⟩ := open_rows h0
  obtain ⟨A1, len1, c1, rfl⟩ := okWide_slice Tryz.underlying22 (hval 1 22 v1 rfl rfl)
  obtain ⟨z1, rfl, sl1⟩ := open_vecs h1
  obtain ⟨z2, rfl, sl2⟩ := open_probe (hval 2 47 v2 rfl rfl) h2
  clear hA0 hval0
  refine (walk A0 c0 z0 sl0 A1 c1 z1 sl1 z2 sl2).mono fun e W' ⟨he, bel⟩ => ?_
  subst he
  exact ⟨_, rfl, _, _, _, [], _, [], hW', trodAll_mk1 (shut_bool Tryz.underlying4 _), trodAll_below bel _ _ _ _ (by kernel_rfl) hA', rfl, bel.frame _, fun h => by cases h⟩

theorem proved : Rows.ProbeMoreSaid :=
  OpenClaim.holds_of_wide 7 Tryz.f7 rfl rfl rfl rfl rfl rfl rfl ⟨rfl, rfl, rfl, rfl, rfl⟩ rfl rfl rfl rfl rfl (by kernel_rfl) Tryz.func7 (by kernel_rfl)
    (of_decide_eq_true (by kernel_rfl)) (by unfold Func.isWrapper; first | (rw [if_pos (by decide +kernel)]; kernel_rfl) | (rw [if_neg (by decide +kernel)]; exact ⟨rfl, rfl⟩))
    (fun os started H enc _ => lifted os started H enc)
#print axioms proved
end Go.Proofs.YtcekgllahlhaaaaGreat.probeMore
