/-
  Proved: the law MeansRounds, whose centroid each is, and a round, is as the document says, returns true for every centroids and vectors, and leaves all memory as it was. No condition.
-/
import Derived.Test.YtgakfffkadaeeaaMnsLaw
namespace Go.Proofs.Ytgakfffkadaeeaa.meansRounds
open Go.ChangeShapes Go.WideShapes Go.ChangeAt Go.RowKit
set_option linter.unusedVariables false
set_option linter.unusedSimpArgs false
set_option maxRecDepth 100000

set_option maxHeartbeats 16000000 in
theorem walk {w : World} (A : Option Addr) (c : Nat) (x : List (List Int)) (H : Vecs .i32 w A c x) (A' : Option Addr) (c' : Nat) (l : List (List Int)) (H' : Vecs .i32 w A' c' l) :
    Calls Try.prog 4 #[.slice A x.length c, .slice A' l.length c'] w fun e w' => e = .returned (.bool true) ∧ Below w.heap.size w w' := by
  have HWk := Lib.hid (wakes_any w)
  have HFw := Lib.hid (fun (V : World) (hV : Below w.heap.size w V) => few_v A c x 7 V (H.below hV) (by omega))
  have HFl := Lib.hid (fun (V : World) (hV : Below w.heap.size w V) => few_v A' c' l 97 V (H'.below hV) (by omega))
  have HF6 := Lib.hid (fun (V : World) (hV : Below w.heap.size w V) => few_any A c x 6 V (H.below hV) (by omega))
  have HF6v := Lib.hid (fun (V : World) (hV : Below w.heap.size w V) => few_v A c x 6 V (H.below hV) (by omega))
  have HF96 := Lib.hid (fun (V : World) (hV : Below w.heap.size w V) => few_v A' c' l 96 V (H'.below hV) (by omega))
  have HMr := Lib.hid (fun (h : (fewM x 7).length ≤ 6) => few_more h (by omega : 6 ≤ 7))
  have HMl := Lib.hid (fun (h : (fewM l 97).length ≤ 96) => few_more h (by omega : 96 ≤ 97))
  obtain ⟨C, hC⟩ : ∃ C, C = fewM x 7 := ⟨_, rfl⟩
  obtain ⟨L, hL⟩ : ∃ L, L = fewM l 97 := ⟨_, rfl⟩
  rw [← hC] at HFw HMr
  rw [← hL] at HFl HMl
  have hn7 : C.length ≤ 7 := by rw [hC, few_length]; omega
  have hm97 : L.length ≤ 97 := by rw [hL, few_length]; omega
  generalize x.length = n0 at *
  generalize l.length = m0 at *
  obtain ⟨n, hn⟩ : ∃ n, n = C.length := ⟨_, rfl⟩
  obtain ⟨m, hm⟩ : ∃ m, m = L.length := ⟨_, rfl⟩
  obtain ⟨E, hE⟩ : ∃ E, E = partsE C L := ⟨_, rfl⟩
  have HPt := Lib.hid (fun (A1 A2 : Option Addr) (c1 c2 : Nat) (V : World) (h1 : Vecs .i32 V A1 c1 C) (h2 : Vecs .i32 V A2 c2 L) => show Calls Try.prog 22 #[.slice A1 n c1, .slice A2 m c2] V (GIE V (partsI C L) E) from by rw [hn, hm, hE]; exact parts_v A1 A2 c1 c2 C L V h1 h2)
  have HRd := Lib.hid (fun (A1 A2 : Option Addr) (c1 c2 : Nat) (V : World) (h1 : Vecs .i32 V A1 c1 C) (h2 : Vecs .i32 V A2 c2 L) => show Calls Try.prog 23 #[.slice A1 n c1, .slice A2 m c2] V (fun e w' => ∃ A3 c3 q, e = .returned (.tuple #[.slice A3 (roundV C L).length c3, .int .i64 E]) ∧ vals q = roundV C L ∧ OwnVs V.heap.size w' A3 c3 q ∧ Below V.heap.size V w') from by
    rw [hn, hm, hE]
    refine (round_any A1 A2 c1 c2 C L V h1 h2).mono ?_
    rintro e w' ⟨A3, c3, q, rfl, hq, ho, hb⟩
    exact ⟨A3, c3, q, by rw [← hq, vals_length], hq, ho, hb⟩)
  have HCt := Lib.hid (fun (A1 : Option Addr) (c1 : Nat) V => rCent_any A1 n c1 V)
  have HCe := Lib.hid (show centB n = true ↔ countE C = 0 from by rw [hn]; exact cent_count C)
  have HCn := Lib.hid (show centB n = true → 0 < n ∧ n ≤ 6 from fun h => by unfold centB at h; simp at h; omega)
  have HEq := Lib.hid (show E = if countE C ≠ 0 then countE C else if trainE L ≠ 0 then trainE L else allM (C ++ L) from hE)
  have HTe := Lib.hid (show trainE L = if m = 0 then 4 else if 96 < m then 3 else 0 from by rw [hm]; rfl)
  have HBad := Lib.hid (fun (h : E ≠ 0) => show (partsI C L).length = 0 ∧ (roundV C L).length = 0 from by
    rw [hE] at h
    exact ⟨by unfold partsI; rw [if_neg h]; rfl, by unfold roundV; rw [if_neg h]; rfl⟩)
  have HOk := Lib.hid (fun (h : E = 0) => show partsI C L = intsOf (partsM C L) ∧ roundV C L = roundM C L ∧ (partsI C L).length = m ∧ (roundV C L).length = n ∧ (∃ dim, Alike dim C ∧ Alike dim L) from by
    rw [hE] at h
    have e1 : partsI C L = intsOf (partsM C L) := by unfold partsI; rw [if_pos h]
    have e2 : roundV C L = roundM C L := by unfold roundV; rw [if_pos h]
    exact ⟨e1, e2, by rw [e1, parts_len, hm], by rw [e2, round_length, hn], parts_alike h⟩)
  have HN := Lib.hid hn
  have HM := Lib.hid hm
  unfold GV at HFw HFl HF96 HF6v
  unfold GIE at HPt
  rw [← hn] at HFw hn7 HMr
  rw [← hm] at HFl hm97 HMl
  clear H H' hC hL hn hm hE
  go_enter Try.func4, Try.ntmps4
  go_wp2_with fail
  refine HWk.out.mono ?_
  rintro e w1 ⟨rfl, hb1⟩
  have HB1 := Lib.hid hb1
  clear hb1
  go_wp2_with fail
  refine (HFw.out w1 HB1.out).mono ?_
  rintro e w2 ⟨A1, c1, rfl, hv, hb2⟩
  have HV := Lib.hid hv
  have HB2 := Lib.hid (below_tr HB1.out hb2)
  clear hv hb2
  go_wp2_with fail
  refine (HFl.out w2 HB2.out).mono ?_
  rintro e w3 ⟨A2, c2, rfl, hd, hb3⟩
  have HD := Lib.hid hd
  have HV3 := Lib.hid (HV.out.below hb3)
  have HB3 := Lib.hid (below_tr HB2.out hb3)
  clear hd hb3
  go_wp2_with fail
  refine (HPt.out A1 A2 c1 c2 w3 HV3.out HD.out).mono ?_
  rintro e w4 ⟨A3, c3, rfl, hp, hb4⟩
  have HPv := Lib.hid hp
  have HV4 := Lib.hid (HV3.out.below hb4)
  have HD4 := Lib.hid (HD.out.below hb4)
  have HB4 := Lib.hid (below_tr HB3.out hb4)
  clear hp hb4
  go_wp2_with fail
  refine (HRd.out A1 A2 c1 c2 w4 HV4.out HD4.out).mono ?_
  rintro e w5 ⟨A4, c4, q, rfl, hq, ho, hb5⟩
  have HRo := Lib.hid (And.intro hq ho)
  have HB45 := Lib.hid hb5
  have HV5 := Lib.hid (HV4.out.below hb5)
  have HD5 := Lib.hid (HD4.out.below hb5)
  have HP5 := Lib.hid (HPv.out.below hb5)
  have HB5 := Lib.hid (below_tr HB4.out hb5)
  clear hq ho hb5
  have HC5 := Lib.hid (HCt.out A1 c1 w5)
  cases hct : centB n with
  | false =>
    have hce : countE C = 2 := by
      have : ¬ countE C = 0 := fun h => by have := HCe.out.2 h; rw [hct] at this; cases this
      unfold countE at this ⊢
      split
      · rfl
      · rename_i h; rw [if_neg h] at this; exact absurd rfl this
    have hE : E = 2 := by rw [HEq.out, hce]; rfl
    obtain ⟨z1, z2⟩ := HBad.out (by rw [hE]; decide)
    rw [hct] at HC5
    rw [z1, z2, hE]
    clear hct hce hE z1 z2
    go_wp2_with fail
    refine HC5.out.mono ?_
    rintro e w6 ⟨rfl, rfl⟩
    go_wp2
    go_ret
    exact ⟨by simp, HB5.out⟩
  | true =>
    obtain ⟨n1, n6⟩ := HCn.out hct
    have hce : countE C = 0 := HCe.out.1 hct
    have hE1 : E = if trainE L ≠ 0 then trainE L else allM (C ++ L) := by rw [HEq.out, if_neg (by simpa using hce)]
    rw [hct] at HC5
    clear hct hce
    by_cases hm0 : m = 0
    · have hE : E = 4 := by rw [hE1, HTe.out, if_pos hm0]; rfl
      obtain ⟨z1, z2⟩ := HBad.out (by rw [hE]; decide)
      rw [z1, z2, hE, hm0]
      clear hE1 hE z1 z2
      go_wp2_with fail
      refine HC5.out.mono ?_
      rintro e w6 ⟨rfl, rfl⟩
      go_wp2
      go_ret
      exact ⟨by simp, HB5.out⟩
    · have tm1 : ((m : Int) == 0) = false := by simp; omega
      have tm2 : (m == 0) = false := by simpa using hm0
      by_cases hm96 : 96 < m
      · have hE : E = 3 := by rw [hE1, HTe.out, if_neg hm0, if_pos hm96]; rfl
        have tm3 : decide ((96 : Int) < (m : Int)) = true := by simp; omega
        obtain ⟨z1, z2⟩ := HBad.out (by rw [hE]; decide)
        rw [z1, z2, hE]
        clear hE1 hE z1 z2
        go_wp2_with fail
        refine HC5.out.mono ?_
        rintro e w6 ⟨rfl, rfl⟩
        go_wp2
        go_ret
        exact ⟨by simp, HB5.out⟩
      · have tm3 : decide ((96 : Int) < (m : Int)) = false := by simp; omega
        have hEA : E = allM (C ++ L) := by rw [hE1, HTe.out, if_neg hm0, if_neg hm96]; rfl
        have hmr := HMr.out n6
        have hml := HMl.out (by omega)
        rw [hmr] at HF6 HF6v
        rw [hml] at HF96
        have HF7 := Lib.hid (fun (V : World) (hV : Below w5.heap.size w5 V) => show Calls Try.prog 13 #[.slice A n0 c, .int .i64 6] V (fun e w1 => ∃ A6 c6 vs news, e = .returned (.slice A6 n c6) ∧ w1.ownsRow V.heap.size 35 1 (.slice A6 n c6) n vs ∧ Read w1 A2 m 1 news ∧ V.heap.size ≤ w1.heap.size ∧ ∀ A3 c3 W', W'.ownsRow V.heap.size 35 1 (.slice A3 (n + m) c3) (n + m) (vs ++ news) → w1.grownBy W' (blk A6) →
            Below V.heap.size V W' ∧ Calls Try.prog 25 #[.slice A3 (n + m) c3] W' (fun e w' => e = .returned (.int .i64 E) ∧ W' = w')) from by
          refine (HF6.out V (below_tr HB5.out hV)).mono ?_
          rintro e w1 ⟨A6, c6, q6, rfl, hq6, ho6, hb6⟩
          have hql : q6.length = n := by rw [← vals_length, hq6, HN.out]
          obtain ⟨r, rr1, rr2, rr3⟩ := (HD5.out.below hV).later
          have hrl : r.length = m := by rw [← vals_length, rr1, HM.out]
          obtain ⟨r1, r2, r3⟩ := own_append (r := r) ho6 hb6 (Below.refl _ w1) rr2
          rw [hql, hrl] at r3
          rw [hql] at r1
          have hrd := rr3 w1 hb6
          rw [hrl] at hrd
          refine ⟨A6, c6, flatV q6, flatV r, by rw [hql], r1, hrd, hb6.size, fun A3 c3 W' h1 h2 => ?_⟩
          obtain ⟨hvs, hbw⟩ := r3 A3 c3 W' h1 h2
          rw [hq6, rr1] at hvs
          refine ⟨hbw, ?_⟩
          have hal := rAll12_any A3 c3 (C ++ L) W' hvs
          rw [List.length_append, ← HN.out, ← HM.out] at hal
          rw [hEA]
          exact hal)
        have HF8 := Lib.hid (HF7.out w5 (Below.refl _ _))
        by_cases hE0 : E = 0
        · subst hE0
          obtain ⟨e1, e2, e3, e4, dim, a1, a2⟩ := HOk.out rfl
          have HRP := Lib.hid (fun (V : World) (hV : Below w5.heap.size w5 V) => show Calls Try.prog 26 #[.slice A1 n c1, .slice A2 m c2] V (fun e w' => ∃ A8 c8, e = .returned (.slice A8 m c8) ∧ Vec .i64 w' A8 c8 (partsI C L) ∧ Below V.heap.size V w') from by
            have := rParts_any A1 A2 c1 c2 C L V (HV5.out.below hV) (HD5.out.below hV) (by rw [← HN.out]; exact n1) (by rw [← HN.out]; omega) (by rw [← HM.out]; omega) a1 a2
            rw [← HN.out, ← HM.out] at this
            rw [e1]
            exact this)
          have HRR := Lib.hid (fun (V : World) (hV : Below w5.heap.size w5 V) => show Calls Try.prog 27 #[.slice A1 n c1, .slice A2 m c2] V (fun e w' => ∃ A8 c8, e = .returned (.slice A8 n c8) ∧ Vecs .i32 w' A8 c8 (roundV C L) ∧ Below V.heap.size V w') from by
            have := rRound_any A1 A2 c1 c2 C L V (HV5.out.below hV) (HD5.out.below hV) (by rw [← HN.out]; exact n1) (by rw [← HN.out]; exact n6) (by rw [← HM.out]; omega) a1 a2
            rw [← HN.out, ← HM.out] at this
            refine this.mono ?_
            rintro e w' hh
            obtain ⟨A8, c8, rfl, hv8, hb8⟩ := hh.v
            rw [← e2] at hv8
            exact ⟨A8, c8, by rw [← e2, e4], hv8, hb8⟩)
          have HSm := Lib.hid (fun (X : List (List Int)) (A8 A9 : Option Addr) (c8 c9 : Nat) (V : World) (h1 : Vecs .i32 V A8 c8 X) (h2 : Vecs .i32 V A9 c9 X) => show Calls Try.prog 19 #[.slice A8 X.length c8, .slice A9 X.length c9] V (fun e w' => e = .returned (.bool true) ∧ Below V.heap.size V w') from by
            have := rSame12_any A8 A9 c8 c9 X X V h1 h2
            rw [decide_eq_true rfl] at this
            exact this)
          have HPL := Lib.hid e3
          have HRL := Lib.hid e4
          have HQ := Lib.hid (show q.length = n ∧ vals q = roundV C L ∧ OwnVs w4.heap.size w5 A4 c4 q from ⟨by rw [← vals_length, HRo.out.1, e4], HRo.out.1, HRo.out.2⟩)
          have HSh := Lib.hid (show ∀ p ∈ q, p.x.length ≤ 4 from fun p hp => by
            have hal := round_alike a1 a2
            rw [← e2, ← HRo.out.1] at hal
            exact (right_len (hal p.x (List.mem_map.2 ⟨p, hp, rfl⟩)).1).2)
          rw [e3, e4]
          generalize partsI C L = P at *
          clear e1 e2 e3 e4 a1 a2 hE1 hEA hmr hml HF6 HF7 HPt HRd HCt HCe HCn HEq HTe HBad HOk HFw HFl HRo
          go_wp2_with fail
          refine HC5.out.mono ?_
          rintro e w6 ⟨rfl, rfl⟩
          go_wp2_with fail
          refine HF8.out.mono ?_
          rintro e w6 ⟨A6, c6, vs, news, rfl, ho6, hr6, hs6, hx6⟩
          have HO6 := Lib.hid ho6
          have HX6 := Lib.hid hx6
          have HR6 := Lib.hid hr6
          clear ho6 hx6 hr6
          go_wp2_with (first
            | (at_builtin; refine gapp_at rfl (.tmp 35) (.tmp 36) appV rfl w5.heap.size A6 c6 n vs rfl HO6.out A2 c2 m news rfl HR6.out (by omega) hs6 ?_; intro A7 c7 w7 ho hg _; have HA7 := Lib.hid (HX6.out A7 c7 w7 ho hg); clear ho hg)
            | fail)
          refine HA7.out.2.mono ?_
          rintro e w8 ⟨rfl, rfl⟩
          have HB7 := Lib.hid HA7.out.1
          have HRP7 := Lib.hid (HRP.out w7 HB7.out)
          go_wp2_with fail
          refine HRP7.out.mono ?_
          rintro e w8 ⟨A8, c8, rfl, hp8, hb8⟩
          have HP8 := Lib.hid hp8
          have HB8 := Lib.hid (below_tr HB7.out hb8)
          have HRR8 := Lib.hid (HRR.out w8 HB8.out)
          have tmm : ((m : Int) != (m : Int)) = false := by simp
          clear hp8 hb8
          go_wp2_with fail
          refine HRR8.out.mono ?_
          rintro e w9 ⟨A9, c9, rfl, hv9, hb9⟩
          have HB9 := Lib.hid (below_tr HB8.out hb9)
          have HP9 := Lib.hid (HP8.out.below hb9)
          have HS9 := Lib.hid (HSm.out (roundV C L) A4 A9 c4 c9 w9 (by rw [← HQ.out.2.1]; exact (HQ.out.2.2.below HB9.out).vecs) hv9)
          rw [HRL.out] at HS9
          clear hv9 hb9
          go_wp2_with fail
          refine HS9.out.mono ?_
          rintro e w10 ⟨rfl, hb10⟩
          have HB10 := Lib.hid (below_tr HB9.out hb10)
          have HP10 := Lib.hid (HP9.out.below hb10)
          have HPo := Lib.hid (HP5.out.below HB10.out)
          clear hb10
          go_wp2
          go_loopw [95] (fun i wr => ∃ k : Nat, k ≤ m ∧ i = .int .i64 k ∧ Hid (Below w10.heap.size w10 wr)) (fun i _ => m - (intOf i).toNat)
          case atStart => exact ⟨0, Nat.zero_le _, rfl, Lib.hid (Below.refl _ _)⟩
          case round =>
            obtain ⟨k, hk, rfl, HI⟩ := hrel
            by_cases hkm : k < m
            · obtain ⟨g1, p1, rfl, _, d1⟩ := (HPo.out.below HI.out).at_ (j := k) (by rw [HPL.out]; exact hkm)
              obtain ⟨g2, p2, rfl, _, d2⟩ := (HP10.out.below HI.out).at_ (j := k) (by rw [HPL.out]; exact hkm)
              generalize P.getD k 0 = y at *
              have k0 : (0 : Int) ≤ k := by omega
              have km : (k : Int) < m := by omega
              have ty : (y != y) = false := by simp
              go_wp2
              go_quiet (fail)
              go_wp2
              go_roundw
              case rel => exact ⟨k + 1, by omega, by go_num, Lib.hid (below_drewN HI.out nq)⟩
              case measure => simp [intOf]; omega
            · obtain rfl : k = m := by omega
              obtain ⟨wm, hwm⟩ : ∃ wm, wm = wr := ⟨_, rfl⟩
              rw [← hwm] at HI ⊢
              have HMu := Lib.hid (show Mut w4.heap.size wm A4 c4 q ∧ Below w4.heap.size w4 wm from ⟨((HQ.out.2.2.below HB10.out).below HI.out).mut, below_tr HB45.out (below_tr HB10.out HI.out)⟩)
              clear hwm
              go_wp2
              go_loopw [110] (fun i wv => ∃ j : Nat, j ≤ n ∧ i = .int .i64 j ∧ Hid (Mut w4.heap.size wv A4 c4 q ∧ Below w4.heap.size w4 wv)) (fun i _ => n - (intOf i).toNat)
              case atStart => exact ⟨0, Nat.zero_le _, rfl, HMu⟩
              case round =>
                obtain ⟨j, hj, rfl, HJ⟩ := hrel
                by_cases hjn : j < n
                · have hpq := List.getElem?_eq_getElem (show j < q.length by rw [HQ.out.1]; exact hjn)
                  have hpm := HSh.out _ (List.getElem_mem (show j < q.length by rw [HQ.out.1]; exact hjn))
                  generalize q[j]'(by rw [HQ.out.1]; exact hjn) = pj at hpq hpm
                  have HPq := Lib.hid hpq
                  obtain ⟨g, hgA, s0, _⟩ := HJ.out.1.at_ hpq
                  obtain ⟨pl, hpl⟩ : ∃ pl, pl = pj.x.length := ⟨_, rfl⟩
                  have HPl := Lib.hid hpl
                  rw [← hpl] at s0 hpm
                  subst hgA
                  have j0 : (0 : Int) ≤ j := by omega
                  have jn : (j : Int) < n := by omega
                  clear hpq hpl
                  go_wp2
                  clear s0
                  go_loopw [118] (fun i wv => ∃ t : Nat, t ≤ pl ∧ i = .int .i64 t ∧ Hid (Mut w4.heap.size wv (some ⟨g, 0, none⟩) c4 q ∧ Below w4.heap.size w4 wv)) (fun i _ => pl - (intOf i).toNat)
                  case atStart => exact ⟨0, Nat.zero_le _, rfl, HJ⟩
                  case round =>
                    obtain ⟨t, ht, rfl, HT⟩ := hrel
                    by_cases htp : t < pl
                    · obtain ⟨g', hgA', s0, hat⟩ := HT.out.1.at_ HPq.out
                      injection hgA' with hgA'
                      injection hgA' with hgA'
                      subst hgA'
                      obtain ⟨b, y, hB, hbb, s1, s2, hset⟩ := hat t (by rw [← HPl.out]; exact htp)
                      rw [hB, ← HPl.out] at s0
                      have HSet := Lib.hid (fun y' => show Mut w4.heap.size (World.setCell _ ⟨b, t, none⟩ (.int .i32 y')) (some ⟨g, 0, none⟩) c4 q ∧ Below w4.heap.size w4 (World.setCell _ ⟨b, t, none⟩ (.int .i32 y')) from ⟨hset y' _ _ _ HT.out.1, HT.out.2.setCell hbb _⟩)
                      have t0 : (0 : Int) ≤ t := by omega
                      have tp : (t : Int) < pl := by omega
                      clear hat hset hB hbb
                      go_wp2
                      go_roundw
                      case rel => exact ⟨t + 1, by omega, by go_num, Lib.hid (HSet.out _)⟩
                      case measure => simp [intOf]; omega
                    · obtain rfl : t = pl := by omega
                      go_wp2
                      go_roundw
                      case rel => exact ⟨j + 1, by omega, by go_num, HT⟩
                      case measure => simp [intOf]; omega
                · obtain rfl : j = n := by omega
                  obtain ⟨wx, hwx⟩ : ∃ wx, wx = wr := ⟨_, rfl⟩
                  rw [← hwx] at HJ ⊢
                  clear hwx
                  have HBx := Lib.hid (below_tr HB4.out HJ.out.2)
                  have HVx := Lib.hid (HV4.out.below HJ.out.2)
                  have HDx := Lib.hid (HD4.out.below HJ.out.2)
                  have HF9 := Lib.hid (HF6v.out wx HBx.out)
                  go_wp2_with fail
                  refine HF9.out.mono ?_
                  rintro e w11 ⟨A11, c11, rfl, hv11, hb11⟩
                  have HS11 := Lib.hid (HSm.out C A1 A11 c1 c11 w11 (HVx.out.below hb11) hv11)
                  rw [← HN.out] at HS11
                  have HB11 := Lib.hid hb11
                  have hCn : C.length = j := HN.out.symm
                  rw [hCn]
                  clear hv11 hb11 hCn
                  go_wp2_with fail
                  refine HS11.out.mono ?_
                  rintro e w12 ⟨rfl, hb12⟩
                  have HB12 := Lib.hid (below_tr HB11.out hb12)
                  have HF10 := Lib.hid (HF96.out w12 (below_tr HBx.out HB12.out))
                  clear hb12
                  go_wp2_with fail
                  refine HF10.out.mono ?_
                  rintro e w13 ⟨A13, c13, rfl, hv13, hb13⟩
                  have HS13 := Lib.hid (HSm.out L A2 A13 c2 c13 w13 ((HDx.out.below HB12.out).below hb13) hv13)
                  rw [← HM.out] at HS13
                  have HB13 := Lib.hid (below_tr HB12.out hb13)
                  have hLm : L.length = k := HM.out.symm
                  rw [hLm]
                  clear hv13 hb13 hLm
                  go_wp2_with fail
                  refine HS13.out.mono ?_
                  rintro e w14 ⟨rfl, hb14⟩
                  have HB14 := Lib.hid (below_tr HBx.out (below_tr HB13.out hb14))
                  clear hb14
                  go_wp2
                  go_ret
                  exact ⟨by simp, HB14.out⟩
        · obtain ⟨z1, z2⟩ := HBad.out hE0
          have t1 : (E == 0) = false := by simpa using hE0
          have t2 : (E != 0) = true := by simpa using hE0
          have t3 : (E == E) = true := by simp
          rw [z1, z2]
          clear z1 z2 hE1 hEA hmr hml HF6 HF7 HPt HRd HCt HCe HCn HEq HTe HBad HOk HFw HFl HRo
          go_wp2_with fail
          refine HC5.out.mono ?_
          rintro e w6 ⟨rfl, rfl⟩
          go_wp2_with fail
          refine HF8.out.mono ?_
          rintro e w6 ⟨A6, c6, vs, news, rfl, ho6, hr6, hs6, hx6⟩
          have HO6 := Lib.hid ho6
          have HX6 := Lib.hid hx6
          have HR6 := Lib.hid hr6
          clear ho6 hx6 hr6
          go_wp2_with (first
            | (at_builtin; refine gapp_at rfl (.tmp 35) (.tmp 36) appV rfl w5.heap.size A6 c6 n vs rfl HO6.out A2 c2 m news rfl HR6.out (by omega) hs6 ?_; intro A7 c7 w7 ho hg _; have HA7 := Lib.hid (HX6.out A7 c7 w7 ho hg); clear ho hg)
            | fail)
          refine HA7.out.2.mono ?_
          rintro e w8 ⟨rfl, rfl⟩
          have HB7 := Lib.hid (below_tr HB5.out HA7.out.1)
          go_wp2
          go_ret
          exact ⟨by simp, HB7.out⟩

set_option maxRecDepth 100000 in
theorem lifted (os : Os) (started : os.Started) (H : Type) (enc : TypeId × Value → H) :
    ReturnsInHanded {} Try.checked os 4 .any (Rows.meansRoundsSpec.pre6 enc Try.prog Try.f4 Rows.meansRoundsRow.domain false) (Rows.meansRoundsSpec.post enc Try.prog Try.f4 false true false false) := by
  refine returnsInHanded_of_change (C := Try.checked) Try.own started (by kernel_rfl) Try.func4
    (ChangeSpec.witness6 (enc := enc) (C := Try.checked) false ⟨#[], #[.slice none 0 0, .slice none 0 0], []⟩ 8 (by kernel_rfl) (by kernel_rfl) (by kernel_rfl) (by kernel_rfl)) ?_
  intro W base args ds gs before hval0 hW hcnd _
  have hval : ∀ (j : Nat) t v, Try.f4.params[j]? = some t → args[j]? = some v → Value.okWide Try.prog W .any base t v := hval0
  have hW' := hW
  obtain ⟨p, q, hA0, hV, rfl, hfz, hnd⟩ := hW
  have hA : DataW.TrodAll enc Try.prog W 0 (fun _ => true) true Try.f4.params.toList args.toList ds p := hA0
  rw [Try.params4] at hA hval
  have hA' := hA
  obtain ⟨v0, vs0, d0, ds0, p0, q0, hargs, rfl, rfl, h0, r0⟩ := trodAll_cons hA
  obtain ⟨v1, vs1, d1, ds1, p1, q1, rfl, rfl, rfl, h1, r1⟩ := trodAll_cons r0
  obtain ⟨rfl, rfl, rfl⟩ := trodAll_nil r1
  obtain rfl : args = #[v0, v1] := by cases args; simp_all
  obtain ⟨rfl, rfl⟩ := trodVars_none hV
  obtain ⟨A0, len0, c0, rfl⟩ := okWide_slice Try.underlying22 (hval 0 22 v0 rfl rfl)
  obtain ⟨z0, rfl, sl0⟩ := open_vecs h0
  obtain ⟨A1, len1, c1, rfl⟩ := okWide_slice Try.underlying22 (hval 1 22 v1 rfl rfl)
  obtain ⟨z1, rfl, sl1⟩ := open_vecs h1
  clear hA0 hval0
  refine (walk A0 c0 z0 sl0 A1 c1 z1 sl1).mono fun e W' ⟨he, bel⟩ => ?_
  subst he
  exact ⟨_, rfl, _, _, _, [], _, [], hW', trodAll_mk1 (shut_bool Try.underlying4 _), trodAll_below bel _ _ _ _ (by kernel_rfl) hA', rfl, bel.frame _, fun h => by cases h⟩

theorem proved : Rows.MeansRoundsSaid :=
  OpenClaim.holds_of_wide 4 Try.f4 rfl rfl rfl rfl rfl rfl rfl ⟨rfl, rfl, rfl, rfl, rfl⟩ rfl rfl rfl rfl rfl (by kernel_rfl) Try.func4 (by kernel_rfl)
    (of_decide_eq_true (by kernel_rfl)) (by unfold Func.isWrapper; first | (rw [if_pos (by decide +kernel)]; kernel_rfl) | (rw [if_neg (by decide +kernel)]; exact ⟨rfl, rfl⟩))
    (fun os started H enc _ => lifted os started H enc)
#print axioms proved
end Go.Proofs.Ytgakfffkadaeeaa.meansRounds
