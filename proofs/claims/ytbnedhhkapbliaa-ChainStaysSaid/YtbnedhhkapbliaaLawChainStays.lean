/-
  Proved: the law ChainStays, what was visible below what was done still is, and what was done is told, returns true for every chain and op, and leaves all memory as it was. No condition.
-/
import Derived.Test.YtbnedhhkapbliaaLawFrame
import Derived.Test.YtbnedhhkapbliaaChnStay
import Derived.BigQuiet
namespace Go.Proofs.Ytbnedhhkapbliaa.chainStays
open Go.ChangeShapes Go.WideShapes Go.ChangeAt Go.RowKit
set_option linter.unusedVariables false
set_option linter.unusedSimpArgs false
set_option maxRecDepth 100000

set_option maxHeartbeats 8000000 in
theorem walk {w : World} (A : Option Addr) (c : Nat) (q : List Pl) (h : Chn w A c q) (o : Opm) (hT : U64s o.T) (hv : Vec .i32 w o.B o.c o.x) :
    Calls Try.prog 6 #[.slice A q.length c, .agg #[.int .i64 o.K, .int .u64 o.T, .bool o.near, .slice o.B o.x.length o.c]] w fun e w' => e = .returned (.bool true) ∧ Below w.heap.size w w' := by
  obtain ⟨K, T, near, B, cb, x⟩ := o
  dsimp only at hT hv ⊢
  obtain ⟨nx, hnx⟩ : ∃ nx, nx = x.length := ⟨_, rfl⟩
  obtain ⟨y, hy⟩ : ∃ y, y = x.take 5 := ⟨_, rfl⟩
  obtain ⟨W1, hW1⟩ : ∃ W1, W1 = w.alloc (.cells #[.int .i64 K, .int .u64 T, .bool near, .slice B nx cb] 29) := ⟨_, rfl⟩
  have hb0 : Below w.heap.size w W1 := by rw [hW1]; exact (Below.refl _ w).alloc (Nat.le_refl _) _
  have hx0 : W1.heap[w.heap.size]? = some (.cells #[.int .i64 K, .int .u64 T, .bool near, .slice B nx cb] 29 (0, 0)) := by rw [hW1]; exact heap_alloc_new _ _
  have HWk := Lib.hid (wakes_any W1)
  have HFw := Lib.hid (fun (X : World) (hX : Below w.heap.size w X) => few_any A c q X (h.below hX))
  have HS := Lib.hid (fun (X : World) (hX : Below W1.heap.size W1 X) => show X.cell? ⟨w.heap.size, 0, none⟩ = some (.int .i64 K) ∧ X.cell? ⟨w.heap.size, 1, none⟩ = some (.int .u64 T) ∧ X.cell? ⟨w.heap.size, 2, none⟩ = some (.bool near) ∧ X.cell? ⟨w.heap.size, 3, none⟩ = some (.slice B nx cb) from by
    have hx2 := (hX.block _ (lt_of_block hx0)).trans hx0
    exact ⟨(cell_of_row _ _ 0 _ _ _ hx2).trans rfl, (cell_of_row _ _ 1 _ _ _ hx2).trans rfl, (cell_of_row _ _ 2 _ _ _ hx2).trans rfl, (cell_of_row _ _ 3 _ _ _ hx2).trans rfl⟩)
  have HRu := Lib.hid (fun (X : World) (hX : Below w.heap.size w X) (A2 : Option Addr) (c2 : Nat) (q2 : List Pl) (h2 : Chn X A2 c2 q2) (hs : Small q2) => run_any K T near B cb x A2 c2 q2 X h2 hs hT (hv.below hX))
  have HTs := Lib.hid (fun (X : World) (A2 : Option Addr) (c2 : Nat) (q2 : List Pl) (h2 : Chn X A2 c2 q2) => opts_any K T near B nx cb A2 c2 q2 X h2 hT)
  have HVc := Lib.hid (fun (X : World) (hX : Below w.heap.size w X) => opvec_any K T near B cb x X (hv.below hX))
  obtain ⟨l, hl⟩ : ∃ l, l = fewM (vals q) := ⟨_, rfl⟩
  have HL := Lib.hid hl
  have HB0 := Lib.hid hb0
  have HW1 := Lib.hid hW1
  have HTF := Lib.hid (fun (X : World) (A2 : Option Addr) (c2 : Nat) (q2 : List Pl) (h2 : Chn X A2 c2 q2) => ts_fit (K := K) (near := near) hT (rLast_fit h2.fit))
  rw [← hl] at HFw
  rw [← hnx, ← hy] at HRu HVc
  rw [← hnx]
  generalize q.length = nq0 at *
  clear h hT hv hb0 hx0 hW1 hl hnx hy
  go_enter Try.func6, Try.ntmps6
  go_wp2_with fail
  rw [← HW1.out]
  refine HWk.out.mono ?_
  rintro e w1 ⟨rfl, hb1⟩
  have HD1 := Lib.hid hb1
  clear hb1
  go_wp2_with fail
  refine (HFw.out _ (HB0.out.trans (HD1.out.mono HB0.out.size))).mono ?_
  rintro e w2 ⟨A2, c2, q2, rfl, hv2, ho2, hb2⟩
  have HD2 := Lib.hid (HD1.out.trans (hb2.mono HD1.out.size))
  have HB2 := Lib.hid (HB0.out.trans (HD2.out.mono HB0.out.size))
  have HO2 := Lib.hid ho2
  have hs2 := few_small (hv2.trans HL.out)
  have hq2 : q2.length ≤ 97 := by rw [← vals_length, hv2, HL.out]; exact few_le
  have hru := fun (X : World) (hX : Below w2.heap.size w2 X) => HRu.out X (HB2.out.trans (hX.mono HB2.out.size)) A2 c2 q2 (ho2.chn.below hX) hs2
  have hts := fun (X : World) (hX : Below w2.heap.size w2 X) => HTs.out X A2 c2 q2 (ho2.chn.below hX)
  have htf := HTF.out w2 A2 c2 q2 ho2.chn
  have hti := fun (X : World) (hX : Below w2.heap.size w2 X) => times_any A2 c2 q2 X (ho2.chn.below hX) hq2
  have hsh := fun (t : Int) (X : World) (hX : Below w2.heap.size w2 X) => shown_any A2 c2 q2 t X (ho2.chn.below hX)
  have hla := fun (X : World) (hX : Below w2.heap.size w2 X) => last_any A2 c2 q2 X (ho2.chn.below hX)
  rw [hv2] at hru hts htf hsh hla
  obtain ⟨ts, hts0⟩ : ∃ ts, ts = tsM K T near (rLast l) := ⟨_, rfl⟩
  rw [← hts0] at hru hts htf
  obtain ⟨RN, hRN⟩ : ∃ RN, RN = runN K ts l y := ⟨_, rfl⟩
  obtain ⟨RG, hRG⟩ : ∃ RG, RG = runG K ts l := ⟨_, rfl⟩
  obtain ⟨RE, hRE⟩ : ∃ RE, RE = runE K ts l y := ⟨_, rfl⟩
  have HBad := Lib.hid (show RE ≠ 0 → RN = [] ∧ RG = [] from fun hE => by rw [hRE] at hE; rw [hRN, hRG]; exact stay_bad hE)
  have HSty := Lib.hid (show RE = 0 → Stay K ts l RN RG y from fun hE => by rw [hRE] at hE; rw [hRN, hRG]; exact stay hE)
  rw [← hRN, ← hRG, ← hRE] at hru
  obtain ⟨n2, hn2⟩ : ∃ n2, n2 = q2.length := ⟨_, rfl⟩
  have HN2 := Lib.hid (show l.length = n2 by rw [← hv2, vals_length, hn2])
  rw [← hn2] at hru hts hti hsh hla hq2 ⊢
  have HRu2 := Lib.hid hru
  have HTs2 := Lib.hid hts
  have HTi := Lib.hid hti
  have HSh2 := Lib.hid hsh
  have HLa2 := Lib.hid hla
  have HTf := Lib.hid htf
  obtain ⟨y0, y1, y2, y3⟩ := HS.out _ HD2.out
  clear hv2 ho2 hb2 hs2 hru hts hti hsh hla htf hts0 hRN hRG hRE hn2
  go_wp2_with fail
  refine (HRu2.out _ (Below.refl _ _)).mono ?_
  rintro e w3 ⟨A3, c3, q3, B3, d3, g3, rfl, hv3, ho3, hg3, hog3, hb3⟩
  have HE3 := Lib.hid hb3
  have HD3 := Lib.hid (HD2.out.trans (hb3.mono HD2.out.size))
  obtain ⟨n3, hn3⟩ : ∃ n3, n3 = q3.length := ⟨_, rfl⟩
  obtain ⟨k3, hk3⟩ : ∃ k3, k3 = g3.length := ⟨_, rfl⟩
  have HN3 := Lib.hid (show RN.length = n3 by rw [← hv3, vals_length, hn3])
  have HK3 := Lib.hid (show RG.length = k3 by rw [← hg3, vals_length, hk3])
  have HQ3 := Lib.hid (And.intro hn3 (And.intro hv3 ho3))
  have HG3 := Lib.hid (And.intro hk3 (And.intro hg3 hog3))
  rw [← hn3, ← hk3]
  clear hv3 ho3 hg3 hog3 hb3 hn3 hk3 y0 y1 y2 y3
  by_cases hE : RE = 0
  · subst hE
    have hst := HSty.out rfl
    obtain ⟨y0, y1, y2, y3⟩ := HS.out _ HD3.out
    obtain ⟨kk, hkk⟩ : ∃ kk, kk = kM K := ⟨_, rfl⟩
    obtain ⟨pr, hpr⟩ : ∃ pr, pr = (kk == 4) := ⟨_, rfl⟩
    have HSt := Lib.hid hst
    have HKK := Lib.hid hkk
    have HPr := Lib.hid hpr
    clear hst hkk hpr
    go_wp2_with fail
    refine (HTs2.out _ HE3.out).mono ?_
    rintro e w4 ⟨rfl, hb4⟩
    have HF4 := Lib.hid hb4
    obtain ⟨y0, y1, y2, y3⟩ := HS.out _ (HD3.out.trans (hb4.mono HD3.out.size))
    have km : (IntKind.u64.wrap K).tmod 5 = kk := by rw [HKK.out]; exact kM_tmod K
    have e4 : (kk == 4) = pr := HPr.out.symm
    have HCk := Lib.hid (fun (X : World) (hX : Below w3.heap.size w3 X) => show Calls Try.prog 16 #[.slice A3 n3 c3] X (fun e w' => e = .returned (.int .i64 0) ∧ Below X.heap.size X w') from by
      have := check_any8 A3 c3 q3 X (HQ3.out.2.2.chn.below hX)
      rw [HQ3.out.2.1, chk_ok.2 HSt.out.gn, ← HQ3.out.1] at this
      exact this)
    have HCg := Lib.hid (fun (X : World) (hX : Below w3.heap.size w3 X) => show Calls Try.prog 16 #[.slice B3 k3 d3] X (fun e w' => e = .returned (.int .i64 0) ∧ Below X.heap.size X w') from by
      have := check_any8 B3 d3 g3 X (HG3.out.2.2.chn.below hX)
      rw [HG3.out.2.1, chk_ok.2 HSt.out.gg, ← HG3.out.1] at this
      exact this)
    clear hb4
    go_wp2_with fail
    refine (HCk.out _ HF4.out).mono ?_
    rintro e w5 ⟨rfl, hb5⟩
    have HF5 := Lib.hid (HF4.out.trans (hb5.mono HF4.out.size))
    clear hb5 y0 y1 y2 y3
    go_wp2_with fail
    refine (HCg.out _ HF5.out).mono ?_
    rintro e w6 ⟨rfl, hb6⟩
    have HF6 := Lib.hid (HF5.out.trans (hb6.mono HF5.out.size))
    clear hb6
    go_wp2_with fail
    refine (HTi.out _ (HE3.out.trans (HF6.out.mono HE3.out.size))).mono ?_
    rintro e w7 ⟨A7, c7, us, rfl, ho7, h37, h7l, hb7⟩
    obtain ⟨n7, hn7⟩ : ∃ n7, n7 = us.length := ⟨_, rfl⟩
    rw [← hn7] at h37 h7l ⊢
    obtain ⟨t1, ht1⟩ : ∃ t1, t1 = IntKind.u64.wrap (ts + 1) := ⟨_, rfl⟩
    have s1 : IntKind.u64.wrap (ts + 1) = t1 := ht1.symm
    have HRd := Lib.hid (read2 w7 ts t1)
    have hVb : Below w7.heap.size w7 (w7.alloc (.cells #[.int .u64 ts, .int .u64 t1] 26)) := (Below.refl _ _).alloc (Nat.le_refl _) _
    have HBs := Lib.hid (show w6.heap.size ≤ (w7.alloc (.cells #[.int .u64 ts, .int .u64 t1] 26)).heap.size from Nat.le_trans hb7.size hVb.size)
    have HO7 := Lib.hid (show (w7.alloc (.cells #[.int .u64 ts, .int .u64 t1] 26)).ownsRow w6.heap.size 26 1 (.slice A7 n7 c7) n7 (us.map (Value.int .u64)) from by
      have := (ho7.below hVb).1
      rw [← hn7] at this
      exact this)
    have HApp := Lib.hid (fun (A8 : Option Addr) (c8 : Nat) (w8 : World) (ho8 : w8.ownsRow w6.heap.size 26 1 (.slice A8 (n7 + 2) c8) (n7 + 2) (us.map (Value.int .u64) ++ [ts, t1].map (Value.int .u64))) (hg8 : (w7.alloc (.cells #[.int .u64 ts, .int .u64 t1] 26)).grownBy w8 (blk A7)) => show Vec .u64 w8 A8 c8 (us ++ [ts, t1]) ∧ Below w3.heap.size w3 w8 from by
      obtain ⟨r1, r2⟩ := ho7.app (us := [ts, t1]) hVb hb7.size (fun x hx => by
        simp at hx
        rcases hx with rfl | rfl
        · exact HTf.out
        · rw [ht1]; exact wrap_u64s _) hn7.symm rfl ho8 hg8
      exact ⟨r1.vec, HF6.out.trans ((hb7.trans r2).mono HF6.out.size)⟩)
    have HM8 := Lib.hid (show (us ++ [ts, t1]).length = n7 + 2 by rw [List.length_append, hn7]; rfl)
    clear ho7 hb7 hVb ht1 hn7
    go_wp2_with (at_builtin; refine gapp_at rfl (.tmp 54) (.tmp 58) appU rfl w6.heap.size A7 c7 n7 (us.map (Value.int .u64)) rfl HO7.out (some ⟨w7.heap.size, 0, none⟩) 2 2 ([ts, t1].map (Value.int .u64)) rfl HRd.out (by omega) HBs.out ?_; intro A8 c8 w8 ho8 hg8 _; have HX8 := Lib.hid (HApp.out A8 c8 w8 ho8 hg8); clear ho8 hg8)
    obtain ⟨m8, hm8⟩ : ∃ m8, m8 = n7 + 2 := ⟨_, rfl⟩
    have hsum : (n7 : Int) + 2 = (m8 : Int) := by omega
    have hm8b : m8 ≤ 1000 := by omega
    obtain ⟨us8, hus8⟩ : ∃ us8, us8 = us ++ [ts, t1] := ⟨_, rfl⟩
    have HXL := Lib.hid (show us8.length = m8 by rw [hus8, HM8.out, hm8])
    have HUV := Lib.hid (show Vec .u64 w8 A8 c8 us8 by rw [hus8]; exact HX8.out.1)
    have HE8 := Lib.hid HX8.out.2
    have HPru := Lib.hid (show pr = true → kM K = 4 from fun e => by have := HPr.out; rw [e, HKK.out] at this; simpa using this.symm)
    have HNot := Lib.hid (show pr = false → kM K ≠ 4 from fun e h4 => by have := HPr.out; rw [e, HKK.out, h4] at this; simp at this)
    have HEqT := Lib.hid (fun (t : Int) (hp : pr = true) (ht : ts ≤ t) => (HSt.out.pru (HPru.out hp)).2.2.2.2 t ht)
    have HEqF := Lib.hid (fun (t : Int) (hp : pr = false) (ht : t < ts) => HSt.out.low (HNot.out hp) t ht)
    have hsh3 := fun (t : Int) (X : World) (hX : Below w3.heap.size w3 X) => shown_any A3 c3 q3 t X (HQ3.out.2.2.chn.below hX)
    have hla3 := fun (X : World) (hX : Below w3.heap.size w3 X) => last_any A3 c3 q3 X (HQ3.out.2.2.chn.below hX)
    have hla2 := fun (X : World) (hX : Below w3.heap.size w3 X) => HLa2.out X (HE3.out.trans (hX.mono HE3.out.size))
    have hsh2 := fun (t : Int) (X : World) (hX : Below w3.heap.size w3 X) => HSh2.out t X (HE3.out.trans (hX.mono HE3.out.size))
    rw [HQ3.out.2.1, ← HQ3.out.1] at hsh3 hla3
    rw [if_pos ((chain_iff _).2 HSt.out.gn)] at hla3
    rw [if_pos ((chain_iff _).2 HSt.out.good)] at hla2
    have HSh3 := Lib.hid hsh3
    have HLn := Lib.hid hla3
    have HLc := Lib.hid hla2
    have HSc := Lib.hid hsh2
    rw [← hm8, hsum]
    clear hm8 hsum h37 h7l s1 hus8 hsh3 hla3 hla2 hsh2
    go_wp2
    go_loopw [61] (fun i wr => ∃ j : Nat, j ≤ m8 ∧ i = .int .i64 j ∧ Hid (Below w8.heap.size w8 wr)) (fun i _ => m8 - (intOf i).toNat)
    case atStart => exact ⟨0, Nat.zero_le _, rfl, Lib.hid (Below.refl _ _)⟩
    case round =>
      obtain ⟨j, hj, rfl, HB⟩ := hrel
      have HI := Lib.hid (HE8.out.trans (HB.out.mono HE8.out.size))
      by_cases hjm : j < m8
      · obtain ⟨g, og, rfl, hg, hcg⟩ := (HUV.out.below HB.out).at_ (j := j) (by rw [HXL.out]; exact hjm)
        have j0 : (0 : Int) ≤ j := by omega
        have jn : (j : Int) < m8 := by omega
        generalize us8.getD j 0 = t at *
        cases pr with
        | true =>
          by_cases hge : ts ≤ t
          · have tg : decide (ts ≤ t) = true := by simpa using hge
            have hS := HEqT.out t rfl hge
            obtain ⟨S, hS0⟩ : ∃ S, S = shownM l t := ⟨_, rfl⟩
            have h9 := HSc.out t
            have h10 := HSh3.out t
            rw [← hS0] at h9 hS
            rw [← hS] at h10
            have H9 := Lib.hid h9
            have H10 := Lib.hid h10
            clear hS hS0 h9 h10
            go_wp2_with fail
            refine (H9.out _ HI.out).mono ?_
            rintro e w9 ⟨B9, d9, rfl, hv9, _, hb9⟩
            have HI9 := Lib.hid (HI.out.trans (hb9.mono HI.out.size))
            have HB9 := Lib.hid (HB.out.trans (hb9.mono HB.out.size))
            have HV9 := Lib.hid hv9
            clear hv9 hb9
            go_wp2_with fail
            refine (H10.out _ HI9.out).mono ?_
            rintro e w10 ⟨B10, d10, rfl, hv10, _, hb10⟩
            have HB10 := Lib.hid (HB9.out.trans (hb10.mono HB9.out.size))
            have hsame := same_any B9 B10 d9 d10 S S w10 (HV9.out.below hb10) hv10
            rw [decide_eq_true rfl] at hsame
            have HSm := Lib.hid hsame
            generalize S.length = sl at *
            clear hv10 hb10 hsame
            go_wp2_with fail
            refine HSm.out.mono ?_
            rintro e w11 ⟨rfl, hb11⟩
            have HBZ := Lib.hid (HB10.out.trans (hb11.mono HB10.out.size))
            clear hb11
            go_wp2
            go_roundw
            case rel => exact ⟨j + 1, by omega, by go_num, HBZ⟩
            case measure => simp [intOf]; omega
          · have tg : decide (ts ≤ t) = false := by simpa using hge
            go_wp2
            go_roundw
            case rel => exact ⟨j + 1, by omega, by go_num, HB⟩
            case measure => simp [intOf]; omega
        | false =>
          by_cases hge : t < ts
          · have tg : decide (t < ts) = true := by simpa using hge
            have hS := HEqF.out t rfl hge
            obtain ⟨S, hS0⟩ : ∃ S, S = shownM l t := ⟨_, rfl⟩
            have h9 := HSc.out t
            have h10 := HSh3.out t
            rw [← hS0] at h9 hS
            rw [← hS] at h10
            have H9 := Lib.hid h9
            have H10 := Lib.hid h10
            clear hS hS0 h9 h10
            go_wp2_with fail
            refine (H9.out _ HI.out).mono ?_
            rintro e w9 ⟨B9, d9, rfl, hv9, _, hb9⟩
            have HI9 := Lib.hid (HI.out.trans (hb9.mono HI.out.size))
            have HB9 := Lib.hid (HB.out.trans (hb9.mono HB.out.size))
            have HV9 := Lib.hid hv9
            clear hv9 hb9
            go_wp2_with fail
            refine (H10.out _ HI9.out).mono ?_
            rintro e w10 ⟨B10, d10, rfl, hv10, _, hb10⟩
            have HB10 := Lib.hid (HB9.out.trans (hb10.mono HB9.out.size))
            have hsame := same_any B9 B10 d9 d10 S S w10 (HV9.out.below hb10) hv10
            rw [decide_eq_true rfl] at hsame
            have HSm := Lib.hid hsame
            generalize S.length = sl at *
            clear hv10 hb10 hsame
            go_wp2_with fail
            refine HSm.out.mono ?_
            rintro e w11 ⟨rfl, hb11⟩
            have HBZ := Lib.hid (HB10.out.trans (hb11.mono HB10.out.size))
            clear hb11
            go_wp2
            go_roundw
            case rel => exact ⟨j + 1, by omega, by go_num, HBZ⟩
            case measure => simp [intOf]; omega
          · have tg : decide (t < ts) = false := by simpa using hge
            go_wp2
            go_roundw
            case rel => exact ⟨j + 1, by omega, by go_num, HB⟩
            case measure => simp [intOf]; omega
      · obtain rfl : j = m8 := by omega
        have HBw := Lib.hid (HB2.out.trans ((HE3.out.trans (HI.out.mono HE3.out.size)).mono HB2.out.size))
        cases pr with
        | true =>
          have hst := HSt.out.pru (HPru.out rfl)
          have hlens : n3 + k3 = n2 := by rw [← HN3.out, ← HK3.out, ← HN2.out]; exact hst.2.2.2.1
          have HPN := Lib.hid hst.1
          have HPG := Lib.hid hst.2.1
          have HPL := Lib.hid hst.2.2.1
          clear hst
          go_wp2
          go_loopw [95] (fun i wx => ∃ k : Nat, k ≤ n3 ∧ i = .int .i64 k ∧ Hid (Below w3.heap.size w3 wx)) (fun i _ => n3 - (intOf i).toNat)
          case atStart => exact ⟨0, Nat.zero_le _, rfl, HI⟩
          case round =>
            obtain ⟨k, hk, rfl, HBK⟩ := hrel
            by_cases hkn : k < n3
            · obtain ⟨b, ob, p, rfl, hp, hb, d0, d1, d2, hv, hf⟩ := (HQ3.out.2.2.chn.below HBK.out).at_ (i := k) (by rw [← HQ3.out.1]; exact hkn)
              have hM : p.v ∈ RN := by rw [← HQ3.out.2.1]; exact List.mem_map_of_mem (f := fun p : Pl => p.v) (List.mem_of_getElem? hp)
              have HBX := Lib.hid (HBK.out.trans ((ver_alloc _ p.v.b p.v.f p.B p.v.x.length p.c).mono HBK.out.size))
              have hor := HPN.out p.v hM
              clear hp hv hf hM
              generalize p.v.b = pb at *
              generalize p.v.f = pf at *
              generalize p.v.x.length = pl at *
              have i0 : (0 : Int) ≤ k := by omega
              have kn : (k : Int) < n3 := by omega
              by_cases hf0 : pf = 0
              · subst hf0
                clear hor
                go_wp2
                go_roundw
                case rel => exact ⟨k + 1, by omega, by go_num, HBX⟩
                case measure => simp [intOf]; omega
              · have tf : (pf != 0) = true := by simpa using hf0
                have tg : decide (pf ≤ ts) = false := by simp; omega
                clear hor hf0
                go_wp2
                go_roundw
                case rel => exact ⟨k + 1, by omega, by go_num, HBX⟩
                case measure => simp [intOf]; omega
            · obtain rfl : k = n3 := by omega
              go_wp2
              go_loopw [111] (fun i wx => ∃ k : Nat, k ≤ k3 ∧ i = .int .i64 k ∧ Hid (Below w3.heap.size w3 wx)) (fun i _ => k3 - (intOf i).toNat)
              case atStart => exact ⟨0, Nat.zero_le _, rfl, HBK⟩
              case round =>
                obtain ⟨i, hi, rfl, HBI⟩ := hrel
                by_cases hin : i < k3
                · obtain ⟨b, ob, p, rfl, hp, hb, d0, d1, d2, hv, hf⟩ := (HG3.out.2.2.chn.below HBI.out).at_ (i := i) (by rw [← HG3.out.1]; exact hin)
                  have hM : p.v ∈ RG := by rw [← HG3.out.2.1]; exact List.mem_map_of_mem (f := fun p : Pl => p.v) (List.mem_of_getElem? hp)
                  have HBX := Lib.hid (HBI.out.trans ((ver_alloc _ p.v.b p.v.f p.B p.v.x.length p.c).mono HBI.out.size))
                  obtain ⟨hf0, hfl⟩ := HPG.out p.v hM
                  clear hp hv hf hM
                  generalize p.v.b = pb at *
                  generalize p.v.f = pf at *
                  generalize p.v.x.length = pl at *
                  have i0 : (0 : Int) ≤ i := by omega
                  have kn : (i : Int) < k3 := by omega
                  have tf : (pf == 0) = false := by simpa using hf0
                  have tg : decide (ts < pf) = false := by simp; omega
                  clear hf0 hfl
                  go_wp2
                  go_roundw
                  case rel => exact ⟨i + 1, by omega, by go_num, HBX⟩
                  case measure => simp [intOf]; omega
                · obtain rfl : i = k3 := by omega
                  have hls : (k : Int) + (i : Int) = (n2 : Int) := by omega
                  have hlc := fun (X : World) (hX : Below w3.heap.size w3 X) => HLc.out X hX
                  have hln := fun (X : World) (hX : Below w3.heap.size w3 X) => HLn.out X hX
                  have hpl := HPL.out
                  generalize lastM l = L at *
                  generalize lastM RN = LN at *
                  have HX1 := Lib.hid hlc
                  have HX2 := Lib.hid hln
                  clear hlc hln
                  by_cases hlt : ts < L
                  · obtain rfl := hpl hlt
                    have tl : decide (ts < LN) = true := by simpa using hlt
                    have LL : (LN != LN) = false := by simp
                    clear hpl
                    go_wp2_with fail
                    refine (HX1.out _ HBI.out).mono ?_
                    rintro e wa ⟨rfl, hba⟩
                    have HIa := Lib.hid (HBI.out.trans (hba.mono HBI.out.size))
                    clear hba
                    go_wp2_with fail
                    refine (HX2.out _ HIa.out).mono ?_
                    rintro e wb ⟨rfl, hbb⟩
                    have HIb := Lib.hid (HB2.out.trans ((HE3.out.trans ((HIa.out.trans (hbb.mono HIa.out.size)).mono HE3.out.size)).mono HB2.out.size))
                    clear hbb
                    go_wp2
                    go_ret
                    exact ⟨by simp [hls], HIb.out⟩
                  · have tl : decide (ts < L) = false := by simpa using hlt
                    clear hpl
                    go_wp2_with fail
                    refine (HX1.out _ HBI.out).mono ?_
                    rintro e wa ⟨rfl, hba⟩
                    have HIb := Lib.hid (HB2.out.trans ((HE3.out.trans ((HBI.out.trans (hba.mono HBI.out.size)).mono HE3.out.size)).mono HB2.out.size))
                    clear hba
                    go_wp2
                    go_ret
                    exact ⟨by simp [hls], HIb.out⟩
        | false =>
          obtain ⟨y0, y1, y2, y3⟩ := HS.out _ (HD3.out.trans (HI.out.mono HD3.out.size))
          by_cases hk3 : kk = 3
          · subst hk3
            have HDel := Lib.hid (HSt.out.del HKK.out.symm)
            have hls := fun (X : World) (hX : Below w3.heap.size w3 X) => HLn.out X hX
            have hsh := fun (X : World) (hX : Below w3.heap.size w3 X) => HSh3.out ts X hX
            rw [HDel.out.2.1] at hsh
            rw [HDel.out.2.2] at hls
            have HLs := Lib.hid hls
            have HSs := Lib.hid hsh
            clear hls hsh
            have q22 : ∀ (w : World) (a : Option Addr) (n c n' c' : Nat), (binOp .eql 27 (.slice a n c) (.slice none n' c')).run Try.prog w = .ok (.bool a.isNone) w := fun w a n c n' c' => Lib.run_eql_slice_nil w _ _ a n c n' c' Try.underlying27
            go_wp2_with fail
            refine (HSs.out _ HI.out).mono ?_
            rintro e wa ⟨Ba, da, rfl, _, hna, hba⟩
            obtain rfl := hna HDel.out.1
            have HIa := Lib.hid (HI.out.trans (hba.mono HI.out.size))
            clear hba hna y0 y1 y2 y3
            go_wp2_with fail
            refine (HLs.out _ HIa.out).mono ?_
            rintro e wb ⟨rfl, hbb⟩
            have HIb := Lib.hid (HB2.out.trans ((HE3.out.trans ((HIa.out.trans (hbb.mono HIa.out.size)).mono HE3.out.size)).mono HB2.out.size))
            clear hbb
            go_wp2
            go_ret
            exact ⟨by simp, HIb.out⟩
          · have HPut := Lib.hid (HSt.out.put (fun e => hk3 (HKK.out.trans e)) (HNot.out rfl))
            have u3 : (kk == 3) = false := by simpa using hk3
            have ht1 := fun (X : World) (hX : Below wr.heap.size wr X) => HSh3.out ts X (HI.out.trans (hX.mono HI.out.size))
            have ht2 := fun (X : World) (hX : Below wr.heap.size wr X) => HSh3.out 1099511627776 X (HI.out.trans (hX.mono HI.out.size))
            have hls := fun (X : World) (hX : Below wr.heap.size wr X) => HLn.out X (HI.out.trans (hX.mono HI.out.size))
            have hvc := fun (X : World) (hX : Below wr.heap.size wr X) => HVc.out X (HBw.out.trans (hX.mono HBw.out.size))
            rw [HPut.out.1] at ht1
            rw [HPut.out.2.1] at ht2
            rw [HPut.out.2.2] at hls
            have HT1 := Lib.hid ht1
            have HT2 := Lib.hid ht2
            have HLs := Lib.hid hls
            have HW := Lib.hid hvc
            have HS8 := Lib.hid (fun (X : World) (hX : Below wr.heap.size wr X) => HS.out X (HD3.out.trans ((HI.out.trans (hX.mono HI.out.size)).mono HD3.out.size)))
            clear ht1 ht2 hls hvc hk3
            go_wp2
            go_region_held3 (fun X => X.cell? ⟨w.heap.size, 0, none⟩ = some (.int .i64 K) ∧ X.cell? ⟨w.heap.size, 1, none⟩ = some (.int .u64 T) ∧ X.cell? ⟨w.heap.size, 2, none⟩ = some (.bool near) ∧ X.cell? ⟨w.heap.size, 3, none⟩ = some (.slice B nx cb)) (first | exact HS8.out _ (Below.refl _ _) | exact HS8.out _ (below_drew (Below.refl _ _)) | exact HS8.out _ HP1.out | exact HS8.out _ HP2.out | exact HS8.out _ HP3.out | exact HS8.out _ HP4.out | exact HS8.out _ HP5.out | exact HS8.out _ HP6.out | exact HS8.out _ HP7.out) (first
              | (go_at_call 25; (with_reducible refine (HT1.out wr.drew (below_drew (Below.refl _ _))).mono ?_); rintro e p1 ⟨B1, d1, rfl, hv1, _, hb1⟩; have HP1 := Lib.hid (show Below wr.heap.size wr p1 from (below_drew (Below.refl _ wr)).trans hb1); have HV1 := Lib.hid hv1; clear hv1 hb1)
              | (go_at_call 26; (with_reducible refine (HW.out _ HP1.out).mono ?_); rintro e p2 ⟨B2, d2, rfl, hv2, hb2⟩; have HP2 := Lib.hid (HP1.out.trans (hb2.mono HP1.out.size)); have HM1 := Lib.hid (show Calls Try.prog 24 #[.slice B1 y.length d1, .slice B2 y.length d2] p2 (fun e w' => e = .returned (.bool true) ∧ Below p2.heap.size p2 w') from by have := same_any B1 B2 d1 d2 y y p2 (HV1.out.below hb2) hv2.vec; rw [decide_eq_true rfl] at this; exact this); clear hv2 hb2)
              | (go_at_call 24; (with_reducible refine HM1.out.mono ?_); rintro e p3 ⟨rfl, hb3⟩; have HP3 := Lib.hid (HP2.out.trans (hb3.mono HP2.out.size)); clear hb3)
              | (go_at_call 25; (with_reducible refine (HT2.out _ HP3.out).mono ?_); rintro e p4 ⟨B4, d4, rfl, hv4, _, hb4⟩; have HP4 := Lib.hid (HP3.out.trans (hb4.mono HP3.out.size)); have HV4 := Lib.hid hv4; clear hv4 hb4)
              | (go_at_call 26; (with_reducible refine (HW.out _ HP4.out).mono ?_); rintro e p5 ⟨B5, d5, rfl, hv5, hb5⟩; have HP5 := Lib.hid (HP4.out.trans (hb5.mono HP4.out.size)); have HM2 := Lib.hid (show Calls Try.prog 24 #[.slice B4 y.length d4, .slice B5 y.length d5] p5 (fun e w' => e = .returned (.bool true) ∧ Below p5.heap.size p5 w') from by have := same_any B4 B5 d4 d5 y y p5 (HV4.out.below hb5) hv5.vec; rw [decide_eq_true rfl] at this; exact this); clear hv5 hb5)
              | (go_at_call 24; (with_reducible refine HM2.out.mono ?_); rintro e p6 ⟨rfl, hb6⟩; have HP6 := Lib.hid (HP5.out.trans (hb6.mono HP5.out.size)); clear hb6)
              | (go_at_call 19; (with_reducible refine (HLs.out _ HP6.out).mono ?_); rintro e p7 ⟨rfl, hb7⟩; have HP7 := Lib.hid (HP6.out.trans (hb7.mono HP6.out.size)); clear hb7))
            have HBz := Lib.hid (HBw.out.trans (HP7.out.mono HBw.out.size))
            go_wp2
            go_ret
            exact ⟨by simp, HBz.out⟩
  · obtain ⟨b1, b2⟩ := HBad.out hE
    have z1 : n3 = 0 := by rw [← HN3.out, b1]; rfl
    have z2 : k3 = 0 := by rw [← HK3.out, b2]; rfl
    subst z1
    subst z2
    have e0 : (RE != 0) = true := by simpa using hE
    have HX := Lib.hid (HB2.out.trans (HE3.out.mono HB2.out.size))
    clear hE b1 b2
    go_wp2
    go_ret
    exact ⟨rfl, HX.out⟩

set_option maxRecDepth 100000 in
theorem lifted (os : Os) (started : os.Started) (H : Type) (enc : TypeId × Value → H) :
    ReturnsInHanded {} Try.checked os 6 .any (Rows.chainStaysSpec.pre6 enc Try.prog Try.f6 Rows.chainStaysRow.domain false) (Rows.chainStaysSpec.post enc Try.prog Try.f6 false true false false) := by
  refine returnsInHanded_of_change (C := Try.checked) Try.own started (by kernel_rfl) Try.func6
    (ChangeSpec.witness6 (enc := enc) (C := Try.checked) false ⟨#[], #[.slice none 0 0, .agg #[.int .i64 0, .int .u64 0, .bool false, .slice none 0 0]], []⟩ 8 (by kernel_rfl) (by kernel_rfl) (by kernel_rfl) (by kernel_rfl)) ?_
  intro W base args ds gs before hval0 hW hcnd _
  have hval : ∀ (j : Nat) t v, Try.f6.params[j]? = some t → args[j]? = some v → Value.okWide Try.prog W .any base t v := hval0
  have hW' := hW
  obtain ⟨p, q, hA0, hV, rfl, hfz, hnd⟩ := hW
  have hA : DataW.TrodAll enc Try.prog W 0 (fun _ => true) true Try.f6.params.toList args.toList ds p := hA0
  rw [Try.params6] at hA hval
  have hA' := hA
  obtain ⟨v0, vs0, d0, ds0, p0, q0, hargs, rfl, rfl, h0, r0⟩ := trodAll_cons hA
  obtain ⟨v1, vs1, d1, ds1, p1, q1, rfl, rfl, rfl, h1, r1⟩ := trodAll_cons r0
  obtain ⟨rfl, rfl, rfl⟩ := trodAll_nil r1
  obtain rfl : args = #[v0, v1] := by cases args; simp_all
  obtain ⟨rfl, rfl⟩ := trodVars_none hV
  obtain ⟨A0, len0, c0, rfl⟩ := okWide_slice Try.underlying22 (hval 0 22 v0 rfl rfl)
  obtain ⟨z0, rfl, sl0⟩ := open_chain h0
  obtain ⟨o1, rfl, w1, x1⟩ := open_op (hval 1 29 v1 rfl rfl) h1
  clear hA0 hval0
  refine (walk A0 c0 z0 sl0 o1 w1 x1).mono fun e W' ⟨he, bel⟩ => ?_
  subst he
  exact ⟨_, rfl, _, _, _, [], _, [], hW', trodAll_mk1 (shut_bool Try.underlying4 _), trodAll_below bel _ _ _ _ (by kernel_rfl) hA', rfl, bel.frame _, fun h => by cases h⟩

theorem proved : Rows.ChainStaysSaid :=
  OpenClaim.holds_of_wide 6 Try.f6 rfl rfl rfl rfl rfl rfl rfl ⟨rfl, rfl, rfl, rfl, rfl⟩ rfl rfl rfl rfl rfl (by kernel_rfl) Try.func6 (by kernel_rfl)
    (of_decide_eq_true (by kernel_rfl)) (by unfold Func.isWrapper; first | (rw [if_pos (by decide +kernel)]; kernel_rfl) | (rw [if_neg (by decide +kernel)]; exact ⟨rfl, rfl⟩))
    (fun os started H enc _ => lifted os started H enc)
#print axioms proved
end Go.Proofs.Ytbnedhhkapbliaa.chainStays
