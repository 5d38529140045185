/-
  Op.run and Op.wants.
-/
import Derived.Test.YtbnedhhkapbliaaChnOp
namespace Go.Proofs.Ytbnedhhkapbliaa
open Go.RowKit Go.Shelf
set_option linter.unusedVariables false
set_option linter.unusedSimpArgs false
set_option maxRecDepth 100000

def runE (K : Int) (ts : Int) (l : List Vr) (x : List Int) : Int := if kM K = 3 then delE l ts else if kM K = 4 then chkM l else putE l ts x
def runN (K : Int) (ts : Int) (l : List Vr) (x : List Int) : List Vr := if kM K = 3 then delN l ts else if kM K = 4 then pruN l ts else putN l ts x
def runG (K : Int) (ts : Int) (l : List Vr) : List Vr := if kM K = 3 then [] else if kM K = 4 then pruG l ts else []
def wantE (K : Int) (ts : Int) (l : List Vr) (x : List Int) : Int := if rightB l = true then (if kM K = 3 then rDelE l ts else if kM K = 4 then 0 else rPutE l ts x) else 180
def wantN (K : Int) (ts : Int) (l : List Vr) (x : List Int) : List Vr := if rightB l = true then (if kM K = 3 then rDelN l ts else if kM K = 4 then l.filter (lastsB · ts) else rPutN l ts x) else []
def wantG (K : Int) (ts : Int) (l : List Vr) : List Vr := if rightB l = true then (if kM K = 3 then [] else if kM K = 4 then l.filter (fun v => !lastsB v ts) else []) else []
theorem ref_time {l : List Vr} {ts : Int} (h : chainB l = true) : refM l ts = if (decide (rLast l < ts) && decide (ts ≤ 1099511627776)) = true then 0 else 181 := by
  have hg := (chain_iff l).1 h
  unfold refM
  rw [if_pos h, ← last_eq hg]
  by_cases h1 : ts ≤ rLast l <;> by_cases h2 : 1099511627776 < ts <;> simp [h1, h2] <;> omega
theorem del_same {l : List Vr} {ts : Int} (h : chainB l = true) : delE l ts = rDelE l ts ∧ delN l ts = rDelN l ts := by
  have hE : delE l ts = rDelE l ts := by
    unfold delE rDelE
    rw [ref_time h, open_any]
    by_cases h1 : (decide (rLast l < ts) && decide (ts ≤ 1099511627776)) = true
    · simp only [if_pos h1, if_true]
    · simp only [if_neg h1]; rw [if_neg (by decide)]
  refine ⟨hE, ?_⟩
  unfold delN rDelN
  rw [hE, end_eq ((chain_iff l).1 h)]
theorem refuse_one (d : Int) (x : List Int) : refuseM d [x] = if right x = true then (if (x.length : Int) = d then 0 else 151) else 150 := by
  unfold refuseM; simp
theorem put_same {l : List Vr} {ts : Int} {x : List Int} (h : chainB l = true) : putE l ts x = rPutE l ts x ∧ putN l ts x = rPutN l ts x := by
  have hE : putE l ts x = rPutE l ts x := by
    unfold putE rPutE
    rw [ref_time h, refuse_one]
    by_cases h1 : (decide (rLast l < ts) && decide (ts ≤ 1099511627776)) = true
    · simp only [if_pos h1, if_true]
      by_cases h2 : right x = true
      · simp only [if_pos h2]
        unfold dimM
        by_cases h3 : l.length = 0
        · simp [h3]
        · have h4 : 0 < l.length := by omega
          rw [if_neg h3]
          generalize (l.getD 0 zv).x.length = d
          rw [decide_eq_true h4]
          by_cases h5 : d = x.length
          · subst h5; simp
          · have h6 : ¬ (x.length : Int) = (d : Int) := by omega
            rw [if_neg h6]
            simp [h5]
      · simp only [if_neg h2]; rw [if_neg (by decide)]
    · simp only [if_neg h1]; rw [if_neg (by decide)]
  refine ⟨hE, ?_⟩
  unfold putN rPutN
  rw [hE, end_eq ((chain_iff l).1 h)]
theorem want_eq (K ts : Int) (l : List Vr) (x : List Int) : wantE K ts l x = runE K ts l x ∧ wantN K ts l x = runN K ts l x ∧ wantG K ts l = runG K ts l := by
  unfold wantE wantN wantG runE runN runG
  rw [right_eq]
  cases hc : chainB l with
  | true =>
    obtain ⟨d1, d2⟩ := del_same (ts := ts) hc
    obtain ⟨p1, p2⟩ := put_same (ts := ts) (x := x) hc
    rw [d1, d2, p1, p2]
    have h1 : chkM l = 0 := by unfold chkM; rw [if_pos hc]
    have h2 : pruN l ts = l.filter (lastsB · ts) := by unfold pruN; rw [if_pos hc]
    have h3 : pruG l ts = l.filter (fun v => !lastsB v ts) := by unfold pruG; rw [if_pos hc]
    rw [h1, h2, h3]
    simp
  | false =>
    have h1 : chkM l = 180 := by unfold chkM; rw [hc]; rfl
    have h2 : pruN l ts = [] := by unfold pruN; rw [hc]; rfl
    have h3 : pruG l ts = [] := by unfold pruG; rw [hc]; rfl
    have h4 : refM l ts = 180 := by unfold refM; rw [hc]; rfl
    have h5 : delE l ts = 180 := by unfold delE; rw [h4]; rfl
    have h6 : delN l ts = [] := by unfold delN; rw [h5]; rfl
    have h7 : putE l ts x = 180 := by unfold putE; rw [h4]; rfl
    have h8 : putN l ts x = [] := by unfold putN; rw [h7]; rfl
    rw [h1, h2, h3, h5, h6, h7, h8]
    simp

set_option maxHeartbeats 2000000 in
theorem run_any (K T : Int) (near : Bool) (B : Option Addr) (c : Nat) (x : List Int) (A : Option Addr) (cA : Nat) (q : List Pl) (w : World) (h : Chn w A cA q) (hs : Small q) (hT : U64s T) (hv : Vec .i32 w B c x) :
    Calls Try.prog 12 #[.agg #[.int .i64 K, .int .u64 T, .bool near, .slice B x.length c], .slice A q.length cA] w (GivesP w (runN K (tsM K T near (rLast (vals q))) (vals q) (x.take 5)) (runG K (tsM K T near (rLast (vals q))) (vals q)) (runE K (tsM K T near (rLast (vals q))) (vals q) (x.take 5))) := by
  obtain ⟨n, hn⟩ : ∃ n, n = x.length := ⟨_, rfl⟩
  obtain ⟨W1, hW1⟩ : ∃ W1, W1 = w.alloc (.cells #[.int .i64 K, .int .u64 T, .bool near, .slice B n c] 29) := ⟨_, rfl⟩
  have hb1 : Below w.heap.size w W1 := by rw [hW1]; exact (Below.refl _ w).alloc (Nat.le_refl _) _
  have hx1 : W1.heap[w.heap.size]? = some (.cells #[.int .i64 K, .int .u64 T, .bool near, .slice B n c] 29 (0, 0)) := by rw [hW1]; exact heap_alloc_new _ _
  have HTs := Lib.hid (fun (X : World) (hX : Below w.heap.size w X) => opts_any K T near B n c A cA q X (h.below hX) hT)
  have HVc := Lib.hid (fun (X : World) (hX : Below w.heap.size w X) => opvec_any K T near B c x X (hv.below hX))
  have hts := ts_fit (K := K) (near := near) hT (rLast_fit h.fit)
  obtain ⟨y, hy⟩ : ∃ y, y = x.take 5 := ⟨_, rfl⟩
  have hy5 : y.length ≤ 5 := by rw [hy]; simp; omega
  obtain ⟨l, hl⟩ : ∃ l, l = vals q := ⟨_, rfl⟩
  rw [← hl] at HTs hts ⊢
  rw [← hy] at HVc ⊢
  rw [← hn] at HVc ⊢
  generalize tsM K T near (rLast l) = ts at *
  have HS := Lib.hid (fun (X : World) (hX : Below W1.heap.size W1 X) => show X.cell? ⟨w.heap.size, 0, none⟩ = some (.int .i64 K) ∧ X.cell? ⟨w.heap.size, 1, none⟩ = some (.int .u64 T) ∧ X.cell? ⟨w.heap.size, 2, none⟩ = some (.bool near) ∧ X.cell? ⟨w.heap.size, 3, none⟩ = some (.slice B n c) from by
    have hx2 := (hX.block _ (lt_of_block hx1)).trans hx1
    exact ⟨(cell_of_row _ _ 0 _ _ _ hx2).trans rfl, (cell_of_row _ _ 1 _ _ _ hx2).trans rfl, (cell_of_row _ _ 2 _ _ _ hx2).trans rfl, (cell_of_row _ _ 3 _ _ _ hx2).trans rfl⟩)
  have HDel := Lib.hid (fun (X : World) (hX : Below w.heap.size w X) => del_any A cA q ts X (h.below hX) hs hts)
  have HPru := Lib.hid (fun (X : World) (hX : Below w.heap.size w X) => prune_any A cA q ts X (h.below hX) hs)
  have HPut := Lib.hid (fun (X : World) (A1 : Option Addr) (c1 : Nat) (hX : Below w.heap.size w X) (hv1 : Vec .i32 X A1 c1 y) => put_any A A1 cA c1 q y ts X (h.below hX) hs hv1 (by omega) hts)
  rw [← hl] at HDel HPru HPut
  generalize q.length = m at *
  obtain ⟨k5, hk5⟩ : ∃ k5, k5 = y.length := ⟨_, rfl⟩
  rw [← hk5] at HVc HPut hy5
  have HK5 := Lib.hid hk5
  have HB1 := Lib.hid hb1
  have HW1 := Lib.hid hW1
  have HX1 := Lib.hid hx1
  clear hk5 hb1 hW1 hx1 h hs hT hv hn hy hl hts
  go_enter Try.func12, Try.ntmps12
  go_wp2
  rw [← HW1.out]
  go_region_held3 (fun X => X.cell? ⟨w.heap.size, 0, none⟩ = some (.int .i64 K) ∧ X.cell? ⟨w.heap.size, 1, none⟩ = some (.int .u64 T) ∧ X.cell? ⟨w.heap.size, 2, none⟩ = some (.bool near) ∧ X.cell? ⟨w.heap.size, 3, none⟩ = some (.slice B n c)) (first | exact HS.out _ (Below.refl _ _) | exact HS.out _ (below_drew (Below.refl _ _)) | exact HS.out _ HC2.out | exact HS.out _ HC3.out) (first
    | (go_at_call 22; refine (HTs.out _ (below_drew HB1.out)).mono ?_; rintro e w2 ⟨rfl, hb2⟩; have HC2 := Lib.hid ((below_drew (Below.refl _ W1)).trans hb2); have HB2 := Lib.hid ((below_drew HB1.out).trans (hb2.mono HB1.out.size)); clear hb2)
    | (go_at_call 26; refine (HVc.out _ HB2.out).mono ?_; rintro e w3 ⟨A3, c3, rfl, hv3, hb3⟩; have HC3 := Lib.hid (HC2.out.trans (hb3.mono HC2.out.size)); have HB3 := Lib.hid (HB2.out.trans (hb3.mono HB2.out.size)); have HV3 := Lib.hid (hv3.mono HB2.out.size); clear hv3 hb3))
  have hx3 := (HC3.out.block _ (lt_of_block HX1.out)).trans HX1.out
  have y0 := (cell_of_row _ _ 0 _ _ _ hx3).trans rfl
  have km := kM_tmod K
  clear hx3
  by_cases hk3 : kM K = 3
  · have HE := Lib.hid (show runE K ts l y = delE l ts by unfold runE; rw [if_pos hk3])
    have HN := Lib.hid (show runN K ts l y = delN l ts by unfold runN; rw [if_pos hk3])
    have HG := Lib.hid (show runG K ts l = [] by unfold runG; rw [if_pos hk3])
    rw [hk3] at km
    clear hk3
    go_wp2_with fail
    refine (HDel.out _ HB3.out).mono ?_
    rintro e w4 ⟨A4, c4, q4, rfl, hv4, ho4, hb4⟩
    have HX := Lib.hid (And.intro hv4 (And.intro (ho4.mono HB3.out.size) (HB3.out.trans (hb4.mono HB3.out.size))))
    clear hv4 ho4 hb4
    go_wp2
    go_ret3
    rw [HE.out, HN.out, HG.out]
    exact ⟨A4, c4, q4, none, 0, [], rfl, HX.out.1, HX.out.2.1, rfl, OwnC.nil _ _, HX.out.2.2⟩
  · by_cases hk4 : kM K = 4
    · have HE := Lib.hid (show runE K ts l y = chkM l by unfold runE; rw [if_neg hk3, if_pos hk4])
      have HN := Lib.hid (show runN K ts l y = pruN l ts by unfold runN; rw [if_neg hk3, if_pos hk4])
      have HG := Lib.hid (show runG K ts l = pruG l ts by unfold runG; rw [if_neg hk3, if_pos hk4])
      rw [hk4] at km
      clear hk3 hk4
      go_wp2_with fail
      refine (HPru.out _ HB3.out).mono ?_
      rintro e w4 ⟨A4, c4, q4, A5, c5, q5, rfl, hv4, ho4, hv5, ho5, hb4⟩
      have HX := Lib.hid (And.intro hv4 (And.intro (ho4.mono HB3.out.size) (And.intro hv5 (And.intro (ho5.mono HB3.out.size) (HB3.out.trans (hb4.mono HB3.out.size))))))
      clear hv4 ho4 hb4 hv5 ho5
      go_wp2
      go_ret3
      rw [HE.out, HN.out, HG.out]
      exact ⟨A4, c4, q4, A5, c5, q5, rfl, HX.out.1, HX.out.2.1, HX.out.2.2.1, HX.out.2.2.2.1, HX.out.2.2.2.2⟩
    · have HE := Lib.hid (show runE K ts l y = putE l ts y by unfold runE; rw [if_neg hk3, if_neg hk4])
      have HN := Lib.hid (show runN K ts l y = putN l ts y by unfold runN; rw [if_neg hk3, if_neg hk4])
      have HG := Lib.hid (show runG K ts l = [] by unfold runG; rw [if_neg hk3, if_neg hk4])
      generalize kM K = kk at *
      have u3 : (kk == 3) = false := by simpa using hk3
      have u4 : (kk == 4) = false := by simpa using hk4
      clear hk3 hk4
      have hv3 := HV3.out.vec
      go_wp2_with fail
      refine (HPut.out _ A3 c3 HB3.out hv3).mono ?_
      rintro e w4 ⟨A4, c4, q4, rfl, hv4, ho4, hb4⟩
      have HX4 := Lib.hid (And.intro hv4 (And.intro ho4 hb4))
      have HV4 := Lib.hid (show ∃ us : List Value, w4.ownsRow w.heap.size 21 1 (.slice A3 k5 c3) k5 us ∧ ∀ u ∈ us, ∃ z, u = .int .i32 z from ⟨y.map (Value.int .i32), by have := (HV3.out.below hb4).1; rw [← HK5.out] at this; exact this, by simp⟩)
      have HLow := Lib.hid (fun (i : Nat) (hi : blk A3 = some i) => show w.heap.size ≤ i ∧ i < w3.heap.size from HV3.out.1.lt i (by rw [own_blk]; exact hi))
      clear hv4 ho4 hb4 hv3
      go_wp2
      go_loopw [28] (fun i wr => ∃ k : Nat, k ≤ k5 ∧ i = .int .i64 k ∧ Hid (∃ us : List Value, wr.ownsRow w.heap.size 21 1 (.slice A3 k5 c3) k5 us ∧ ∀ u ∈ us, ∃ z, u = .int .i32 z) ∧ Hid (Turn (fun i => blk A3 = some i) w4 wr)) (fun i _ => k5 - (intOf i).toNat)
      case atStart => exact ⟨0, Nat.zero_le _, rfl, HV4, Lib.hid (Turn.refl _ _)⟩
      case round =>
        obtain ⟨k, hk, rfl, HU, HT⟩ := hrel
        by_cases hkn : k < k5
        · obtain ⟨us, hu1, hu2⟩ := HU.out
          have k0 : (0 : Int) ≤ k := by omega
          have kn : (k : Int) < k5 := by omega
          obtain ⟨g, rfl⟩ : ∃ g, A3 = some ⟨g, 0, none⟩ := by
            rcases hu1.2 with ⟨e, h0⟩ | ⟨g, _, _, e, _⟩
            · omega
            · injection e with e1; exact ⟨g, e1⟩
          have hul : us.length = k5 := by have := hu1.1; omega
          obtain ⟨z, hz⟩ := hu2 us[k] (List.getElem_mem (by omega))
          have hc : wr.cell? ⟨g, k, none⟩ = some (.int .i32 z) := by rw [hu1.cellAt k (by omega), List.getElem?_eq_getElem (by omega), hz]
          have hf := hu1.frozenAt k
          have HSt := Lib.hid (fun (z2 : Int) => show (∃ us : List Value, (wr.setCell ⟨g, k, none⟩ (.int .i32 z2)).ownsRow w.heap.size 21 1 (.slice (some ⟨g, 0, none⟩) k5 c3) k5 us ∧ ∀ u ∈ us, ∃ z, u = .int .i32 z) ∧ Turn (fun i => blk (some (⟨g, 0, none⟩ : Addr)) = some i) w4 (wr.setCell ⟨g, k, none⟩ (.int .i32 z2)) from
            ⟨⟨us.set k (.int .i32 z2), (hu1.stored k _).1, fun u hu => (List.mem_or_eq_of_mem_set hu).elim (hu2 u) (fun e => ⟨z2, e⟩)⟩, HT.out.trans (turn_set _ _ _ _) (fun i hi => .inl (by rw [hi]; rfl))⟩)
          clear hu1 hu2 hz hul HU
          go_wp2
          go_roundw
          case rel => exact ⟨k + 1, by omega, by go_num, Lib.hid (HSt.out _).1, Lib.hid (HSt.out _).2⟩
          case measure => simp [intOf]; omega
        · obtain rfl : k = k5 := by omega
          have HX := Lib.hid (show OwnC w.heap.size wr A4 c4 q4 ∧ Below w.heap.size w wr from by
            refine ⟨(HX4.out.2.1.turn HT.out (fun i hi _ e => by have := HLow.out i e; omega)).mono HB3.out.size, (HB3.out.trans (HX4.out.2.2.mono HB3.out.size)).trans (HT.out.below (Nat.le_trans HB3.out.size HX4.out.2.2.size) (fun i hi => (HLow.out i hi).1))⟩)
          go_wp2
          go_ret3
          rw [HE.out, HN.out, HG.out]
          exact ⟨A4, c4, q4, none, 0, [], rfl, HX4.out.1, HX.out.1, rfl, OwnC.nil _ _, HX.out.2⟩

end Go.Proofs.Ytbnedhhkapbliaa
