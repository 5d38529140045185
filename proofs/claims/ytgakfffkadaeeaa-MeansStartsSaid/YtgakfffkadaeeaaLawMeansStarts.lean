/-
  Proved: the law MeansStarts, the first centroids, and what is trained, is as the document says, returns true for every vectors and draws, and leaves all memory as it was. No condition.
-/
import Derived.Test.YtgakfffkadaeeaaMnsLaw
namespace Go.Proofs.Ytgakfffkadaeeaa.meansStarts
open Go.ChangeShapes Go.WideShapes Go.ChangeAt Go.RowKit
set_option linter.unusedVariables false
set_option linter.unusedSimpArgs false
set_option maxRecDepth 100000

set_option maxHeartbeats 16000000 in
theorem walk {w : World} (A : Option Addr) (c : Nat) (l : List (List Int)) (H : Vecs .i32 w A c l) (A' : Option Addr) (c' : Nat) (d : List Int) (H' : Vec .i64 w A' c' d) :
    Calls Try.prog 3 #[.slice A l.length c, .slice A' d.length c'] w fun e w' => e = .returned (.bool true) ∧ Below w.heap.size w w' := by
  have HWk := Lib.hid (wakes_any w)
  have HFl := Lib.hid (fun (V : World) (hV : Below w.heap.size w V) => few_v A c l 97 V (H.below hV) (by omega))
  have HF96 := Lib.hid (fun (V : World) (hV : Below w.heap.size w V) => few_v A c l 96 V (H.below hV) (by omega))
  have HSm := Lib.hid (fun (V : World) (hV : Below w.heap.size w V) => some_any A' c' d V (H'.below hV))
  have HMl := Lib.hid (fun (h : (fewM l 97).length ≤ 96) => few_more h (by omega : 96 ≤ 97))
  obtain ⟨L, hL⟩ : ∃ L, L = fewM l 97 := ⟨_, rfl⟩
  obtain ⟨D, hD⟩ : ∃ D, D = d.take 7 := ⟨_, rfl⟩
  rw [← hL] at HFl HMl
  rw [← hD] at HSm
  generalize l.length = n0 at *
  generalize d.length = m0 at *
  obtain ⟨n, hn⟩ : ∃ n, n = L.length := ⟨_, rfl⟩
  obtain ⟨m, hm⟩ : ∃ m, m = D.length := ⟨_, rfl⟩
  obtain ⟨E, hE⟩ : ∃ E, E = startE L D := ⟨_, rfl⟩
  have HSt := Lib.hid (fun (A1 A2 : Option Addr) (c1 c2 : Nat) (V : World) (h1 : Vecs .i32 V A1 c1 L) (h2 : Vec .i64 V A2 c2 D) => show Calls Try.prog 15 #[.slice A1 n c1, .slice A2 m c2] V (fun e w' => ∃ A3 c3 q, e = .returned (.tuple #[.slice A3 (startV L D).length c3, .int .i64 E]) ∧ vals q = startV L D ∧ OwnVs V.heap.size w' A3 c3 q ∧ Below V.heap.size V w') from by
    rw [hn, hm, hE]
    refine (start_any A1 A2 c1 c2 L D V h1 h2).mono ?_
    rintro e w' ⟨A3, c3, q, rfl, hq, ho, hb⟩
    exact ⟨A3, c3, q, by rw [← hq, vals_length], hq, ho, hb⟩)
  have HTr := Lib.hid (fun (A1 A2 : Option Addr) (c1 c2 : Nat) (V : World) (h1 : Vecs .i32 V A1 c1 L) (h2 : Vec .i64 V A2 c2 D) => show Calls Try.prog 16 #[.slice A1 n c1, .slice A2 m c2] V (fun e w' => ∃ A3 c3 q, e = .returned (.tuple #[.slice A3 (trainV L D).length c3, .int .i64 E]) ∧ vals q = trainV L D ∧ OwnVs V.heap.size w' A3 c3 q ∧ Below V.heap.size V w') from by
    rw [hn, hm, hE]
    refine (train_any A1 A2 c1 c2 L D V h1 h2).mono ?_
    rintro e w' ⟨A3, c3, q, rfl, hq, ho, hb⟩
    exact ⟨A3, c3, q, by rw [← hq, vals_length], hq, ho, hb⟩)
  have HDr := Lib.hid (fun (A2 : Option Addr) (c2 : Nat) (V : World) (h2 : Vec .i64 V A2 c2 D) => show Calls Try.prog 17 #[.slice A2 m c2] V (fun e w' => e = .returned (.bool (drawsB D)) ∧ V = w') from by rw [hm]; exact rDraws_any A2 c2 D V h2)
  have HVe := Lib.hid (fun (A1 : Option Addr) (c1 : Nat) (V : World) (h1 : Vecs .i32 V A1 c1 L) => show Calls Try.prog 18 #[.slice A1 n c1] V (fun e w' => e = .returned (.int .i64 (vectE L)) ∧ V = w') from by rw [hn]; exact rVectors_any A1 c1 L V h1)
  have HEq := Lib.hid (show E = if drawsB D = true then vectE L else 2 from hE)
  have HBad := Lib.hid (fun (h : E ≠ 0) => show (startV L D).length = 0 ∧ (trainV L D).length = 0 from by
    rw [hE] at h
    exact ⟨by unfold startV; rw [if_neg h]; rfl, by unfold trainV; rw [if_neg h]; rfl⟩)
  have HE := Lib.hid hE
  have HN := Lib.hid hn
  have HM := Lib.hid hm
  unfold GV at HFl HF96
  rw [← hn] at HFl HMl
  rw [← hm] at HSm
  have ix0 : ∀ (a b : Option Addr) (n1 n2 k1 k2 : Nat) (w : World), (Instr.index 34 (.agg #[.slice a n1 k1, .slice b n2 k2]) (.int .i64 0)).run Try.prog w = .ok (.slice a n1 k1) w := by
    intro a b n1 n2 k1 k2 w
    have hu := Try.underlying34
    have h1 : Try.prog.cellsOf 22 = 1 := by kernel_rfl
    simp [Instr.index, run_underlying hu, go_sem]
  have ix1 : ∀ (a b : Option Addr) (n1 n2 k1 k2 : Nat) (w : World), (Instr.index 34 (.agg #[.slice a n1 k1, .slice b n2 k2]) (.int .i64 1)).run Try.prog w = .ok (.slice b n2 k2) w := by
    intro a b n1 n2 k1 k2 w
    have hu := Try.underlying34
    have h1 : Try.prog.cellsOf 22 = 1 := by kernel_rfl
    simp [Instr.index, run_underlying hu, go_sem]
  clear H H' hL hD hn hm hE
  go_enter Try.func3, Try.ntmps3
  go_wp2_with fail
  refine HWk.out.mono ?_
  rintro e w1 ⟨rfl, hb1⟩
  have HB1 := Lib.hid hb1
  clear hb1
  go_wp2_with fail
  refine (HFl.out w1 HB1.out).mono ?_
  rintro e w2 ⟨A1, c1, rfl, hv, hb2⟩
  have HV := Lib.hid hv
  have HB2 := Lib.hid (below_tr HB1.out hb2)
  clear hv hb2
  go_wp2_with fail
  refine (HSm.out w2 HB2.out).mono ?_
  rintro e w3 ⟨A2, c2, rfl, hd, hb3⟩
  have HD := Lib.hid hd
  have HV3 := Lib.hid (HV.out.below hb3)
  have HB3 := Lib.hid (below_tr HB2.out hb3)
  clear hd hb3
  go_wp2_with fail
  refine (HSt.out A1 A2 c1 c2 w3 HV3.out HD.out).mono ?_
  rintro e w4 ⟨A3, c3, q1, rfl, hq1, ho1, hb4⟩
  have HQ1 := Lib.hid (And.intro hq1 (And.intro ho1 hb4))
  have HV4 := Lib.hid (HV3.out.below hb4)
  have HD4 := Lib.hid (HD.out.below hb4)
  have HB4 := Lib.hid (below_tr HB3.out hb4)
  clear hq1 ho1 hb4
  go_wp2_with fail
  refine (HTr.out A1 A2 c1 c2 w4 HV4.out HD4.out).mono ?_
  rintro e w5 ⟨A4, c4, q2, rfl, hq2, ho2, hb5⟩
  have HQ2 := Lib.hid (And.intro hq2 (And.intro ho2 hb5))
  have HV5 := Lib.hid (HV4.out.below hb5)
  have HD5 := Lib.hid (HD4.out.below hb5)
  have HB5 := Lib.hid (below_tr HB4.out hb5)
  have HDr5 := Lib.hid (HDr.out A2 c2 w5 HD5.out)
  have HVe5 := Lib.hid (HVe.out A1 c1 w5 HV5.out)
  clear hq2 ho2 hb5
  cases hdr : drawsB D with
  | false =>
    have hE : E = 2 := by rw [HEq.out, hdr]; rfl
    obtain ⟨z1, z2⟩ := HBad.out (by rw [hE]; decide)
    rw [hdr] at HDr5
    rw [z1, z2, hE]
    clear hdr hE z1 z2
    go_wp2_with fail
    refine HDr5.out.mono ?_
    rintro e w6 ⟨rfl, rfl⟩
    go_wp2
    go_ret
    exact ⟨by simp, HB5.out⟩
  | true =>
    have hEv : vectE L = E := by rw [HEq.out, if_pos hdr]
    rw [hdr] at HDr5
    rw [hEv] at HVe5
    clear hdr hEv
    by_cases hE0 : E = 0
    · subst hE0
      obtain ⟨dim, a2, a1, ⟨l0, l96⟩, hdd⟩ := start_facts HE.out.symm
      rw [← HN.out] at l0 l96
      rw [← HM.out] at hdd
      have hm6 := hdd.2.1
      have hml := HMl.out l96
      rw [hml] at HF96
      have e1 : startV L D = startM L D := by unfold startV; rw [if_pos HE.out.symm]
      have e2 : trainV L D = trainM L D := by unfold trainV; rw [if_pos HE.out.symm]
      have f1 : (startV L D).length = m := by rw [e1, start_length, ← HM.out]
      have f2 : (trainV L D).length = m := by rw [e2]; unfold trainM; rw [rounds_length, start_length, ← HM.out]
      have HRS := Lib.hid (fun (A6 A7 : Option Addr) (c6 c7 : Nat) (V : World) (h1 : Vecs .i32 V A6 c6 L) (h2 : Vec .i64 V A7 c7 D) => show Calls Try.prog 20 #[.slice A6 n c6, .slice A7 m c7] V (fun e w' => ∃ A8 c8, e = .returned (.slice A8 m c8) ∧ Vecs .i32 w' A8 c8 (startV L D) ∧ Below V.heap.size V w') from by
        have := rStart_any A6 A7 c6 c7 L D V h1 h2 (by rw [← HN.out]; exact l0) (by rw [← HN.out]; omega) (fun x hx => by have := right_len (a2 x hx).1; omega) (by rw [← HM.out]; omega) (fun x hx => (hdd.2.2 x hx).1)
        rw [← HN.out, ← HM.out] at this
        refine this.mono ?_
        rintro e w' hh
        obtain ⟨A8, c8, rfl, hv8, hb8⟩ := hh.v
        rw [← e1] at hv8
        exact ⟨A8, c8, by rw [← e1, f1], hv8, hb8⟩)
      have HRT := Lib.hid (fun (A6 A7 : Option Addr) (c6 c7 : Nat) (V : World) (h1 : Vecs .i32 V A6 c6 L) (h2 : Vec .i64 V A7 c7 D) => show Calls Try.prog 21 #[.slice A6 n c6, .slice A7 m c7] V (fun e w' => ∃ A8 c8, e = .returned (.slice A8 m c8) ∧ Vecs .i32 w' A8 c8 (trainV L D) ∧ Below V.heap.size V w') from by
        have := rTrain_any A6 A7 c6 c7 L D V h1 h2 HE.out.symm
        rw [← HN.out, ← HM.out] at this
        refine this.mono ?_
        rintro e w' ⟨A8, c8, rfl, hv8, hb8⟩
        rw [← e2] at hv8
        exact ⟨A8, c8, by rw [← e2, f2], hv8, hb8⟩)
      have HSa := Lib.hid (fun (X : List (List Int)) (A8 A9 : Option Addr) (c8 c9 : Nat) (V : World) (h1 : Vecs .i32 V A8 c8 X) (h2 : Vecs .i32 V A9 c9 X) => show Calls Try.prog 19 #[.slice A8 X.length c8, .slice A9 X.length c9] V (fun e w' => e = .returned (.bool true) ∧ Below V.heap.size V w') from by
        have := rSame12_any A8 A9 c8 c9 X X V h1 h2
        rw [decide_eq_true rfl] at this
        exact this)
      have HF1 := Lib.hid f1
      have HF2 := Lib.hid f2
      have HL1 := Lib.hid (show q1.length = m from by rw [← vals_length, HQ1.out.1, f1])
      have HL2 := Lib.hid (show q2.length = m from by rw [← vals_length, HQ2.out.1, f2])
      have HS1 := Lib.hid (show ∀ p ∈ q1, p.x.length ≤ 4 from fun p hp => by
        have hal := a1
        rw [← e1, ← HQ1.out.1] at hal
        exact (right_len (hal p.x (List.mem_map.2 ⟨p, hp, rfl⟩)).1).2)
      have HS2 := Lib.hid (show ∀ p ∈ q2, p.x.length ≤ 4 from fun p hp => by
        have hal := rounds_alike a1 a2 4
        have : trainV L D = roundsM L 4 (startM L D) := e2
        rw [← this, ← HQ2.out.1] at hal
        exact (right_len (hal p.x (List.mem_map.2 ⟨p, hp, rfl⟩)).1).2)
      rw [f1, f2]
      clear a1 a2 hdd hml e1 e2 f1 f2 HSt HTr HDr HVe HEq HBad HE HMl HFl HSm
      go_wp2_with fail
      refine HDr5.out.mono ?_
      rintro e w6 ⟨rfl, rfl⟩
      go_wp2_with fail
      refine HVe5.out.mono ?_
      rintro e w6 ⟨rfl, rfl⟩
      have HF5 := Lib.hid (HF96.out w5 HB5.out)
      go_wp2_with fail
      refine HF5.out.mono ?_
      rintro e w6 ⟨A6, c6, rfl, hv6, hb6⟩
      have HLn := Lib.hid (show L.length = n from HN.out.symm)
      have HR6 := Lib.hid (HRS.out A6 A2 c6 c2 w6 hv6 (HD5.out.below hb6))
      have HB6 := Lib.hid hb6
      rw [HLn.out]
      clear hv6 hb6
      go_wp2_with fail
      refine HR6.out.mono ?_
      rintro e w7 ⟨A7, c7, rfl, hv7, hb7⟩
      have HB7 := Lib.hid (below_tr HB6.out hb7)
      have HS7 := Lib.hid (HSa.out (startV L D) A3 A7 c3 c7 w7 (by rw [← HQ1.out.1]; exact ((HQ1.out.2.1.below HQ2.out.2.2).below HB7.out).vecs) hv7)
      rw [HF1.out] at HS7
      clear hv7 hb7
      go_wp2_with fail
      refine HS7.out.mono ?_
      rintro e w8 ⟨rfl, hb8⟩
      have HB8 := Lib.hid (below_tr HB7.out hb8)
      have HF8 := Lib.hid (HF96.out w8 (below_tr HB5.out HB8.out))
      clear hb8
      go_wp2_with fail
      refine HF8.out.mono ?_
      rintro e w9 ⟨A9, c9, rfl, hv9, hb9⟩
      have HB9 := Lib.hid (below_tr HB8.out hb9)
      have HR9 := Lib.hid (HRT.out A9 A2 c9 c2 w9 hv9 (HD5.out.below HB9.out))
      rw [HLn.out]
      clear hv9 hb9
      go_wp2_with fail
      refine HR9.out.mono ?_
      rintro e w10 ⟨A10, c10, rfl, hv10, hb10⟩
      have HB10 := Lib.hid (below_tr HB9.out hb10)
      have HS10 := Lib.hid (HSa.out (trainV L D) A4 A10 c4 c10 w10 (by rw [← HQ2.out.1]; exact (HQ2.out.2.1.below HB10.out).vecs) hv10)
      rw [HF2.out] at HS10
      clear hv10 hb10
      go_wp2_with fail
      refine HS10.out.mono ?_
      rintro e w11 ⟨rfl, hb11⟩
      have HB11 := Lib.hid (below_tr HB10.out hb11)
      clear hb11
      have HMu := Lib.hid (show Mut w3.heap.size w11 A3 c3 q1 ∧ Mut w3.heap.size w11 A4 c4 q2 ∧ Below w3.heap.size w3 w11 from
        ⟨((HQ1.out.2.1.below HQ2.out.2.2).below HB11.out).mut, (HQ2.out.2.1.below HB11.out).mut.mono HQ1.out.2.2.size, below_tr HQ1.out.2.2 (below_tr HQ2.out.2.2 HB11.out)⟩)
      go_wp2
      go_loopw [98] (fun i wv => (i = .int .i64 0 ∨ i = .int .i64 1 ∨ i = .int .i64 2) ∧ Hid (Mut w3.heap.size wv A3 c3 q1 ∧ Mut w3.heap.size wv A4 c4 q2 ∧ Below w3.heap.size w3 wv)) (fun i _ => 2 - (intOf i).toNat)
      case atStart => exact ⟨.inl rfl, HMu⟩
      case round =>
        obtain ⟨hrel, HK⟩ := hrel
        rcases hrel with rfl | rfl | rfl
        · go_wp2
          go_loopw [103] (fun i wv => ∃ j : Nat, j ≤ m ∧ i = .int .i64 j ∧ Hid (Mut w3.heap.size wv A3 c3 q1 ∧ Mut w3.heap.size wv A4 c4 q2 ∧ Below w3.heap.size w3 wv)) (fun i _ => m - (intOf i).toNat)
          case atStart => exact ⟨0, Nat.zero_le _, rfl, HK⟩
          case round =>
            obtain ⟨j, hj, rfl, HJ⟩ := hrel
            by_cases hjn : j < m
            · have hpq := List.getElem?_eq_getElem (show j < q1.length by rw [HL1.out]; exact hjn)
              have hpm := HS1.out _ (List.getElem_mem (show j < q1.length by rw [HL1.out]; exact hjn))
              generalize q1[j]'(by rw [HL1.out]; exact hjn) = pj at hpq hpm
              have HPq := Lib.hid hpq
              obtain ⟨g, hgA, s0, _⟩ := HJ.out.1.at_ hpq
              obtain ⟨pl, hpl⟩ : ∃ pl, pl = pj.x.length := ⟨_, rfl⟩
              have HPl := Lib.hid hpl
              rw [← hpl] at s0 hpm
              subst hgA
              have j0 : (0 : Int) ≤ j := by omega
              have jn : (j : Int) < m := by omega
              clear hpq hpl
              go_wp2
              clear s0
              go_loopw [111] (fun i wv => ∃ t : Nat, t ≤ pl ∧ i = .int .i64 t ∧ Hid (Mut w3.heap.size wv (some ⟨g, 0, none⟩) c3 q1 ∧ Mut w3.heap.size wv A4 c4 q2 ∧ Below w3.heap.size w3 wv)) (fun i _ => pl - (intOf i).toNat)
              case atStart => exact ⟨0, Nat.zero_le _, rfl, HJ⟩
              case round =>
                obtain ⟨t, ht, rfl, HT⟩ := hrel
                by_cases htp : t < pl
                · obtain ⟨g', hgA', s0, hat⟩ := HT.out.1.at_ HPq.out
                  injection hgA' with hgA'
                  injection hgA' with hgA'
                  subst hgA'
                  obtain ⟨b, y, hB, hbb, s1, s2, hset⟩ := hat t (by rw [← HPl.out]; exact htp)
                  rw [hB, ← HPl.out] at s0
                  have HSet := Lib.hid (fun y' => And.intro (hset y' _ _ _ HT.out.1) (And.intro (hset y' _ _ _ HT.out.2.1) (show Below w3.heap.size w3 (World.setCell _ ⟨b, t, none⟩ (.int .i32 y')) from HT.out.2.2.setCell hbb _)))
                  have t0 : (0 : Int) ≤ t := by omega
                  have tp : (t : Int) < pl := by omega
                  clear hat hset hB hbb
                  go_wp2
                  go_roundw
                  case rel => exact ⟨t + 1, by omega, by go_num, Lib.hid (HSet.out _)⟩
                  case measure => simp [intOf]; omega
                · obtain rfl : t = pl := by omega
                  go_wp2
                  go_roundw
                  case rel => exact ⟨j + 1, by omega, by go_num, HT⟩
                  case measure => simp [intOf]; omega
            · obtain rfl : j = m := by omega
              go_wp2
              go_roundw
              case rel => exact ⟨.inr (.inl (by first | rfl | go_num | simp)), HJ⟩
              case measure => simp [intOf]
        · go_wp2
          go_loopw [103] (fun i wv => ∃ j : Nat, j ≤ m ∧ i = .int .i64 j ∧ Hid (Mut w3.heap.size wv A3 c3 q1 ∧ Mut w3.heap.size wv A4 c4 q2 ∧ Below w3.heap.size w3 wv)) (fun i _ => m - (intOf i).toNat)
          case atStart => exact ⟨0, Nat.zero_le _, rfl, HK⟩
          case round =>
            obtain ⟨j, hj, rfl, HJ⟩ := hrel
            by_cases hjn : j < m
            · have hpq := List.getElem?_eq_getElem (show j < q2.length by rw [HL2.out]; exact hjn)
              have hpm := HS2.out _ (List.getElem_mem (show j < q2.length by rw [HL2.out]; exact hjn))
              generalize q2[j]'(by rw [HL2.out]; exact hjn) = pj at hpq hpm
              have HPq := Lib.hid hpq
              obtain ⟨g, hgA, s0, _⟩ := HJ.out.2.1.at_ hpq
              obtain ⟨pl, hpl⟩ : ∃ pl, pl = pj.x.length := ⟨_, rfl⟩
              have HPl := Lib.hid hpl
              rw [← hpl] at s0 hpm
              subst hgA
              have j0 : (0 : Int) ≤ j := by omega
              have jn : (j : Int) < m := by omega
              clear hpq hpl
              go_wp2
              clear s0
              go_loopw [111] (fun i wv => ∃ t : Nat, t ≤ pl ∧ i = .int .i64 t ∧ Hid (Mut w3.heap.size wv A3 c3 q1 ∧ Mut w3.heap.size wv (some ⟨g, 0, none⟩) c4 q2 ∧ Below w3.heap.size w3 wv)) (fun i _ => pl - (intOf i).toNat)
              case atStart => exact ⟨0, Nat.zero_le _, rfl, HJ⟩
              case round =>
                obtain ⟨t, ht, rfl, HT⟩ := hrel
                by_cases htp : t < pl
                · obtain ⟨g', hgA', s0, hat⟩ := HT.out.2.1.at_ HPq.out
                  injection hgA' with hgA'
                  injection hgA' with hgA'
                  subst hgA'
                  obtain ⟨b, y, hB, hbb, s1, s2, hset⟩ := hat t (by rw [← HPl.out]; exact htp)
                  rw [hB, ← HPl.out] at s0
                  have HSet := Lib.hid (fun y' => And.intro (hset y' _ _ _ HT.out.1) (And.intro (hset y' _ _ _ HT.out.2.1) (show Below w3.heap.size w3 (World.setCell _ ⟨b, t, none⟩ (.int .i32 y')) from HT.out.2.2.setCell hbb _)))
                  have t0 : (0 : Int) ≤ t := by omega
                  have tp : (t : Int) < pl := by omega
                  clear hat hset hB hbb
                  go_wp2
                  go_roundw
                  case rel => exact ⟨t + 1, by omega, by go_num, Lib.hid (HSet.out _)⟩
                  case measure => simp [intOf]; omega
                · obtain rfl : t = pl := by omega
                  go_wp2
                  go_roundw
                  case rel => exact ⟨j + 1, by omega, by go_num, HT⟩
                  case measure => simp [intOf]; omega
            · obtain rfl : j = m := by omega
              go_wp2
              go_roundw
              case rel => exact ⟨.inr (.inr (by first | rfl | go_num | simp)), HJ⟩
              case measure => simp [intOf]
        · have HBx := Lib.hid (below_tr HB3.out HK.out.2.2)
          have HVx := Lib.hid (HV3.out.below HK.out.2.2)
          obtain ⟨wx, hwx⟩ : ∃ wx, wx = wr := ⟨_, rfl⟩
          rw [← hwx] at HBx HVx ⊢
          clear hwx
          have HF9 := Lib.hid (HF96.out wx HBx.out)
          go_wp2_with fail
          refine HF9.out.mono ?_
          rintro e w12 ⟨A12, c12, rfl, hv12, hb12⟩
          have HS12 := Lib.hid (HSa.out L A1 A12 c1 c12 w12 (HVx.out.below hb12) hv12)
          rw [HLn.out] at HS12
          have HB12 := Lib.hid (below_tr HBx.out hb12)
          rw [HLn.out]
          clear hv12 hb12
          go_wp2_with fail
          refine HS12.out.mono ?_
          rintro e w13 ⟨rfl, hb13⟩
          have HB13 := Lib.hid (below_tr HB12.out hb13)
          clear hb13
          go_wp2
          go_ret
          exact ⟨rfl, HB13.out⟩
    · obtain ⟨z1, z2⟩ := HBad.out hE0
      have t1 : (E == 0) = false := by simpa using hE0
      have t2 : (E != 0) = true := by simpa using hE0
      have t3 : (E == E) = true := by simp
      rw [z1, z2]
      clear z1 z2 HSt HTr HDr HVe HEq HBad HE HMl HFl HSm
      go_wp2_with fail
      refine HDr5.out.mono ?_
      rintro e w6 ⟨rfl, rfl⟩
      go_wp2_with fail
      refine HVe5.out.mono ?_
      rintro e w6 ⟨rfl, rfl⟩
      go_wp2
      go_ret
      exact ⟨by simp, HB5.out⟩

set_option maxRecDepth 100000 in
theorem lifted (os : Os) (started : os.Started) (H : Type) (enc : TypeId × Value → H) :
    ReturnsInHanded {} Try.checked os 3 .any (Rows.meansStartsSpec.pre6 enc Try.prog Try.f3 Rows.meansStartsRow.domain false) (Rows.meansStartsSpec.post enc Try.prog Try.f3 false true false false) := by
  refine returnsInHanded_of_change (C := Try.checked) Try.own started (by kernel_rfl) Try.func3
    (ChangeSpec.witness6 (enc := enc) (C := Try.checked) false ⟨#[], #[.slice none 0 0, .slice none 0 0], []⟩ 8 (by kernel_rfl) (by kernel_rfl) (by kernel_rfl) (by kernel_rfl)) ?_
  intro W base args ds gs before hval0 hW hcnd _
  have hval : ∀ (j : Nat) t v, Try.f3.params[j]? = some t → args[j]? = some v → Value.okWide Try.prog W .any base t v := hval0
  have hW' := hW
  obtain ⟨p, q, hA0, hV, rfl, hfz, hnd⟩ := hW
  have hA : DataW.TrodAll enc Try.prog W 0 (fun _ => true) true Try.f3.params.toList args.toList ds p := hA0
  rw [Try.params3] at hA hval
  have hA' := hA
  obtain ⟨v0, vs0, d0, ds0, p0, q0, hargs, rfl, rfl, h0, r0⟩ := trodAll_cons hA
  obtain ⟨v1, vs1, d1, ds1, p1, q1, rfl, rfl, rfl, h1, r1⟩ := trodAll_cons r0
  obtain ⟨rfl, rfl, rfl⟩ := trodAll_nil r1
  obtain rfl : args = #[v0, v1] := by cases args; simp_all
  obtain ⟨rfl, rfl⟩ := trodVars_none hV
  obtain ⟨A0, len0, c0, rfl⟩ := okWide_slice Try.underlying22 (hval 0 22 v0 rfl rfl)
  obtain ⟨z0, rfl, sl0⟩ := open_vecs h0
  obtain ⟨A1, len1, c1, rfl⟩ := okWide_slice Try.underlying23 (hval 1 23 v1 rfl rfl)
  obtain ⟨z1, rfl, sl1⟩ := open_nums h1
  clear hA0 hval0
  refine (walk A0 c0 z0 sl0 A1 c1 z1 sl1).mono fun e W' ⟨he, bel⟩ => ?_
  subst he
  exact ⟨_, rfl, _, _, _, [], _, [], hW', trodAll_mk1 (shut_bool Try.underlying4 _), trodAll_below bel _ _ _ _ (by kernel_rfl) hA', rfl, bel.frame _, fun h => by cases h⟩

theorem proved : Rows.MeansStartsSaid :=
  OpenClaim.holds_of_wide 3 Try.f3 rfl rfl rfl rfl rfl rfl rfl ⟨rfl, rfl, rfl, rfl, rfl⟩ rfl rfl rfl rfl rfl (by kernel_rfl) Try.func3 (by kernel_rfl)
    (of_decide_eq_true (by kernel_rfl)) (by unfold Func.isWrapper; first | (rw [if_pos (by decide +kernel)]; kernel_rfl) | (rw [if_neg (by decide +kernel)]; exact ⟨rfl, rfl⟩))
    (fun os started H enc _ => lifted os started H enc)
#print axioms proved
end Go.Proofs.Ytgakfffkadaeeaa.meansStarts
