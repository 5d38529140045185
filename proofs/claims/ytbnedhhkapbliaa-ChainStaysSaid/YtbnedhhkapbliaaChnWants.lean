/-
  Op.wants: what the document says of an op is what is done.
-/
import Derived.Test.YtbnedhhkapbliaaChnRun
namespace Go.Proofs.Ytbnedhhkapbliaa
open Go.RowKit Go.Shelf
set_option linter.unusedVariables false
set_option linter.unusedSimpArgs false
set_option maxRecDepth 100000

set_option maxHeartbeats 2000000 in
theorem wants_any (K T : Int) (near : Bool) (B : Option Addr) (c : Nat) (x : List Int) (A : Option Addr) (cA : Nat) (q : List Pl) (w : World) (h : Chn w A cA q) (hs : Small q) (hT : U64s T) (hv : Vec .i32 w B c x) :
    Calls Try.prog 13 #[.agg #[.int .i64 K, .int .u64 T, .bool near, .slice B x.length c], .slice A q.length cA] w (GivesP w (runN K (tsM K T near (rLast (vals q))) (vals q) (x.take 5)) (runG K (tsM K T near (rLast (vals q))) (vals q)) (runE K (tsM K T near (rLast (vals q))) (vals q) (x.take 5))) := by
  obtain ⟨n, hn⟩ : ∃ n, n = x.length := ⟨_, rfl⟩
  obtain ⟨W1, hW1⟩ : ∃ W1, W1 = w.alloc (.cells #[.int .i64 K, .int .u64 T, .bool near, .slice B n c] 29) := ⟨_, rfl⟩
  have hb1 : Below w.heap.size w W1 := by rw [hW1]; exact (Below.refl _ w).alloc (Nat.le_refl _) _
  have hx1 : W1.heap[w.heap.size]? = some (.cells #[.int .i64 K, .int .u64 T, .bool near, .slice B n c] 29 (0, 0)) := by rw [hW1]; exact heap_alloc_new _ _
  have HTs := Lib.hid (fun (X : World) (hX : Below w.heap.size w X) => opts_any K T near B n c A cA q X (h.below hX) hT)
  have HVc := Lib.hid (fun (X : World) (hX : Below w.heap.size w X) => opvec_any K T near B c x X (hv.below hX))
  have HRt := Lib.hid (fun (X : World) (hX : Below w.heap.size w X) => rRight8_any A cA q X (h.below hX))
  have hts := ts_fit (K := K) (near := near) hT (rLast_fit h.fit)
  obtain ⟨y, hy⟩ : ∃ y, y = x.take 5 := ⟨_, rfl⟩
  have hy5 : y.length ≤ 5 := by rw [hy]; simp; omega
  obtain ⟨l, hl⟩ : ∃ l, l = vals q := ⟨_, rfl⟩
  rw [← hl] at HTs hts HRt ⊢
  rw [← hy] at HVc ⊢
  rw [← hn] at HVc ⊢
  generalize tsM K T near (rLast l) = ts at *
  obtain ⟨h1, h2, h3⟩ := want_eq K ts l y
  rw [← h1, ← h2, ← h3]
  have HS := Lib.hid (fun (X : World) (hX : Below W1.heap.size W1 X) => show X.cell? ⟨w.heap.size, 0, none⟩ = some (.int .i64 K) ∧ X.cell? ⟨w.heap.size, 1, none⟩ = some (.int .u64 T) ∧ X.cell? ⟨w.heap.size, 2, none⟩ = some (.bool near) ∧ X.cell? ⟨w.heap.size, 3, none⟩ = some (.slice B n c) from by
    have hx2 := (hX.block _ (lt_of_block hx1)).trans hx1
    exact ⟨(cell_of_row _ _ 0 _ _ _ hx2).trans rfl, (cell_of_row _ _ 1 _ _ _ hx2).trans rfl, (cell_of_row _ _ 2 _ _ _ hx2).trans rfl, (cell_of_row _ _ 3 _ _ _ hx2).trans rfl⟩)
  have HDel := Lib.hid (fun (X : World) (hX : Below w.heap.size w X) => rDel_any A cA q ts X (h.below hX) hs hts)
  have HPru := Lib.hid (fun (X : World) (hX : Below w.heap.size w X) => rPrune_any A cA q ts X (h.below hX) hs)
  have HPut := Lib.hid (fun (X : World) (A1 : Option Addr) (c1 : Nat) (hX : Below w.heap.size w X) (hv1 : Vec .i32 X A1 c1 y) => rPut_any A A1 cA c1 q y ts X (h.below hX) hs hv1 (by omega) hts)
  rw [← hl] at HDel HPru HPut
  generalize q.length = m at *
  obtain ⟨k5, hk5⟩ : ∃ k5, k5 = y.length := ⟨_, rfl⟩
  rw [← hk5] at HVc HPut hy5
  have HE := Lib.hid (show wantE K ts l y = if rightB l = true then (if kM K = 3 then rDelE l ts else if kM K = 4 then 0 else rPutE l ts y) else 180 from rfl)
  have HN := Lib.hid (show wantN K ts l y = if rightB l = true then (if kM K = 3 then rDelN l ts else if kM K = 4 then l.filter (lastsB · ts) else rPutN l ts y) else [] from rfl)
  have HG := Lib.hid (show wantG K ts l = if rightB l = true then (if kM K = 3 then [] else if kM K = 4 then l.filter (fun v => !lastsB v ts) else []) else [] from rfl)
  generalize wantE K ts l y = E at *
  generalize wantN K ts l y = N at *
  generalize wantG K ts l = G at *
  generalize rightB l = rb at *
  have HB1 := Lib.hid hb1
  have HW1 := Lib.hid hW1
  have HX1 := Lib.hid hx1
  clear hk5 hb1 hW1 hx1 h hs hT hv hn hy hl hts h1 h2 h3
  cases rb with
  | false =>
    have HE2 := Lib.hid (show E = 180 from HE.out)
    have HN2 := Lib.hid (show N = [] from HN.out)
    have HG2 := Lib.hid (show G = [] from HG.out)
    clear HE HN HG
    go_enter Try.func13, Try.ntmps13
    go_wp2_with fail
    rw [← HW1.out]
    refine (HRt.out _ HB1.out).mono ?_
    rintro e w2 ⟨rfl, hb2⟩
    have HB2 := Lib.hid (HB1.out.trans (hb2.mono HB1.out.size))
    clear hb2
    go_wp2
    go_ret3
    rw [HE2.out, HN2.out, HG2.out]
    exact ⟨none, 0, [], none, 0, [], rfl, rfl, OwnC.nil _ _, rfl, OwnC.nil _ _, HB2.out⟩
  | true =>
    have HE1 := Lib.hid (show E = (if kM K = 3 then rDelE l ts else if kM K = 4 then 0 else rPutE l ts y) from HE.out)
    have HN1 := Lib.hid (show N = (if kM K = 3 then rDelN l ts else if kM K = 4 then l.filter (lastsB · ts) else rPutN l ts y) from HN.out)
    have HG1 := Lib.hid (show G = (if kM K = 3 then [] else if kM K = 4 then l.filter (fun v => !lastsB v ts) else []) from HG.out)
    clear HE HN HG
    go_enter Try.func13, Try.ntmps13
    go_wp2_with fail
    rw [← HW1.out]
    refine (HRt.out _ HB1.out).mono ?_
    rintro e w2 ⟨rfl, hb2⟩
    have HC2 := Lib.hid hb2
    have HB2 := Lib.hid (HB1.out.trans (hb2.mono HB1.out.size))
    clear hb2
    obtain ⟨u0, u1, u2, u3⟩ := HS.out _ HC2.out
    go_wp2_with fail
    refine (HTs.out _ HB2.out).mono ?_
    rintro e w3 ⟨rfl, hb3⟩
    have HC3 := Lib.hid (HC2.out.trans (hb3.mono HC2.out.size))
    have HB3 := Lib.hid (HB2.out.trans (hb3.mono HB2.out.size))
    clear hb3 u0 u1 u2 u3
    obtain ⟨y0, y1, y2, y3⟩ := HS.out _ HC3.out
    have km := kM_tmod K
    by_cases hk3 : kM K = 3
    · have HE := Lib.hid (show E = rDelE l ts by rw [HE1.out, if_pos hk3])
      have HN := Lib.hid (show N = rDelN l ts by rw [HN1.out, if_pos hk3])
      have HG := Lib.hid (show G = [] by rw [HG1.out, if_pos hk3])
      rw [hk3] at km
      clear hk3
      go_wp2_with fail
      refine (HDel.out _ HB3.out).mono ?_
      rintro e w4 ⟨A4, c4, q4, rfl, hv4, ho4, hb4⟩
      have HX := Lib.hid (And.intro hv4 (And.intro (ho4.mono HB3.out.size) (HB3.out.trans (hb4.mono HB3.out.size))))
      clear hv4 ho4 hb4
      go_wp2
      go_ret3
      rw [HE.out, HN.out, HG.out]
      exact ⟨A4, c4, q4, none, 0, [], rfl, HX.out.1, HX.out.2.1, rfl, OwnC.nil _ _, HX.out.2.2⟩
    · by_cases hk4 : kM K = 4
      · have HE := Lib.hid (show E = 0 by rw [HE1.out, if_neg hk3, if_pos hk4])
        have HN := Lib.hid (show N = l.filter (lastsB · ts) by rw [HN1.out, if_neg hk3, if_pos hk4])
        have HG := Lib.hid (show G = l.filter (fun v => !lastsB v ts) by rw [HG1.out, if_neg hk3, if_pos hk4])
        rw [hk4] at km
        clear hk3 hk4
        go_wp2_with fail
        refine (HPru.out _ HB3.out).mono ?_
        rintro e w4 ⟨A4, c4, q4, A5, c5, q5, rfl, hv4, ho4, hv5, ho5, hb4⟩
        have HX := Lib.hid (And.intro hv4 (And.intro (ho4.mono HB3.out.size) (And.intro hv5 (And.intro (ho5.mono HB3.out.size) (HB3.out.trans (hb4.mono HB3.out.size))))))
        clear hv4 ho4 hb4 hv5 ho5
        go_wp2
        go_ret3
        rw [HE.out, HN.out, HG.out]
        exact ⟨A4, c4, q4, A5, c5, q5, rfl, HX.out.1, HX.out.2.1, HX.out.2.2.1, HX.out.2.2.2.1, HX.out.2.2.2.2⟩
      · have HE := Lib.hid (show E = rPutE l ts y by rw [HE1.out, if_neg hk3, if_neg hk4])
        have HN := Lib.hid (show N = rPutN l ts y by rw [HN1.out, if_neg hk3, if_neg hk4])
        have HG := Lib.hid (show G = [] by rw [HG1.out, if_neg hk3, if_neg hk4])
        generalize kM K = kk at *
        have u3 : (kk == 3) = false := by simpa using hk3
        have u4 : (kk == 4) = false := by simpa using hk4
        clear hk3 hk4
        go_wp2_with fail
        refine (HVc.out _ HB3.out).mono ?_
        rintro e w4 ⟨A4, c4, rfl, hv4, hb4⟩
        have hv5 := hv4.vec
        have HB4 := Lib.hid (HB3.out.trans (hb4.mono HB3.out.size))
        clear hv4 hb4
        go_wp2_with fail
        refine (HPut.out _ A4 c4 HB4.out hv5).mono ?_
        rintro e w5 ⟨A5, c5, q5, rfl, hv6, ho6, hb6⟩
        have HX := Lib.hid (And.intro hv6 (And.intro (ho6.mono HB4.out.size) (HB4.out.trans (hb6.mono HB4.out.size))))
        clear hv6 ho6 hb6 hv5
        go_wp2
        go_ret3
        rw [HE.out, HN.out, HG.out]
        exact ⟨A5, c5, q5, none, 0, [], rfl, HX.out.1, HX.out.2.1, rfl, OwnC.nil _ _, HX.out.2.2⟩

end Go.Proofs.Ytbnedhhkapbliaa
