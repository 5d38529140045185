/-
  Drop.
-/
import Derived.Test.YtpdebkpblpipcaaAreMap
namespace Go.Proofs.Ytpdebkpblpipcaa
open Go.RowKit Go.Shelf Go.Maps
set_option linter.unusedVariables false
set_option linter.unusedSimpArgs false
set_option maxRecDepth 100000

/-- What lies in the boxes of Drop. -/
structure DropB (w W0 : World) (A : Option Addr) (n c : Nat) : Prop where
  size : W0.heap.size = w.heap.size + 2
  below : Below w.heap.size w W0
  ar : Boxed W0 w.heap.size 24 (.slice A n c)
  res : Boxed W0 (w.heap.size + 1) 24 (.slice none 0 0)
theorem dropB (w : World) (A : Option Addr) (n c : Nat) : DropB w ((w.alloc (.cells #[.slice A n c] 24)).alloc (.cells #[.slice none 0 0] 24)) A n c := by
  refine ⟨by simp, ((Below.refl _ w).alloc (Nat.le_refl _) _).alloc (by simp) _, (Boxed.new w _ _).alloc _, ?_⟩
  have h := Boxed.new (w.alloc (.cells #[.slice A n c] 24)) 24 (.slice none 0 0)
  rw [World.size_alloc] at h
  exact h
theorem DropB.later {w W0 X : World} {A : Option Addr} {n c : Nat} (h : DropB w W0 A n c) (hX : Below W0.heap.size W0 X) :
    Below w.heap.size w X ∧ Boxed X w.heap.size 24 (.slice A n c) ∧ Boxed X (w.heap.size + 1) 24 (.slice none 0 0) :=
  ⟨h.below.trans (hX.mono h.below.size), (hX.block _ h.ar.lt).trans h.ar, (hX.block _ h.res.lt).trans h.res⟩

theorem owns_same {w w' : World} {b n : Nat} {D : DataW Value} (h : w.ownsMap Try.prog 3 unitElem b n D) (hb : w'.heap[b]? = w.heap[b]?) : w'.ownsMap Try.prog 3 unitElem b n D := by
  obtain ⟨es, clock, h1, h2⟩ := h
  exact ⟨es, clock, hb.trans h1, h2⟩
theorem below_map {w w' : World} {b B : Nat} (h : w.mapTurned w' b) (hb : B ≤ b) (hB : B ≤ w.heap.size) : Below B w w' :=
  (Turn.of_grown (S := fun i => i = b) h.grown (fun i hi => .inl (by injection hi with hi; exact hi.symm))).below hB (fun i hi => by omega)

/-- What lies while the map is gone through. -/
structure DrI (W0 V0 : World) (g r : Nat) (l : List Ce) (ss : List Int) (D : DataW Value) (left : Lit → Bool) (wr : World) : Prop where
  less : ∀ z, left z = true → has D z = true
  own : ∃ q', OwnA W0.heap.size wr (some ⟨g, 0, none⟩) 96 q' ∧ List.length q' = 96 ∧ ZTo l ss left (ces q')
  turn : Turn (fun i => i = g ∨ i = r) V0 wr
theorem grown_turn {w w' : World} {g : Nat} (h : Turn (fun i => i = g) w w') : w.grownBy w' (some g) := ⟨h.os, h.tape, h.output, h.size, fun i hi hn => h.block i hi (fun e => hn (by rw [e]))⟩

set_option maxHeartbeats 4000000 in
theorem drop_any (A : Option Addr) (c : Nat) (q : List Pa) (As : Option Addr) (cs : Nat) (ss : List Int) (w : World) (h : Are w A c q) (hs : Vec .i64 w As cs ss) :
    Calls Try.prog 28 #[.agg #[.slice A q.length c], .slice As ss.length cs] w (GivesAE w (dropL (ces q) ss) (dropE (ces q) ss)) := by
  obtain ⟨W0, hW0⟩ : ∃ W0, W0 = (w.alloc (.cells #[.slice A q.length c] 24)).alloc (.cells #[.slice none 0 0] 24) := ⟨_, rfl⟩
  have hP := dropB w A q.length c
  rw [← hW0] at hP
  have HW := Lib.hid hW0
  have HC := Lib.hid (checkA_any A c q W0 (h.below hP.below))
  have HX := Lib.hid (fun (X : World) (hX : Below W0.heap.size W0 X) => hP.later hX)
  cases hr : arB (ces q) with
  | false =>
    have hE : dropE (ces q) ss = 190 := by unfold dropE; rw [hr]; rfl
    have HF := Lib.hid (And.intro hE (drop_not hE (by decide)))
    rw [chkA_no hr] at HC
    generalize dropL (ces q) ss = L at *
    generalize dropE (ces q) ss = E at *
    generalize q.length = n at *
    generalize ss.length = m at *
    clear h hs hP hW0 hr hE
    go_enter Try.func28, Try.ntmps28
    go_wp2_with fail
    rw [← HW.out]
    refine HC.out.mono ?_
    rintro e w1 ⟨rfl, hb1⟩
    obtain ⟨hbw, x0, xr⟩ := HX.out w1 hb1
    obtain ⟨r0, hbR⟩ := res_set (.slice none 0 0) xr hbw (by omega)
    have c0 := xr.cell
    have f0 := xr.frozen
    have HB := Lib.hid hbR
    clear hb1 hbw x0 xr hbR
    go_wp2
    refine bodyPost_ret (v := .tuple #[.agg #[.slice none 0 0], .int .i64 190]) (by simp [results, Try.results28, go_sem, r0]) rfl ?_
    rw [HF.out.1, HF.out.2]
    exact ⟨none, 0, [], rfl, rfl, OwnA.nil _ _, HB.out⟩
  | true =>
    rw [chkA_ok hr] at HC
    have HBad := Lib.hid (fun (hb : dropOk (ces q) ss = false) => show dropE (ces q) ss = 191 ∧ dropL (ces q) ss = [] from ⟨drop_bad hr hb, drop_not (drop_bad hr hb) (by decide)⟩)
    have HGood := Lib.hid (fun (hb : dropOk (ces q) ss = true) => show dropE (ces q) ss = 0 ∧ dropL (ces q) ss = setZ (ces q) ss from ⟨drop_good hr hb, by unfold dropL; rw [drop_good hr hb, if_pos rfl]⟩)
    have HIs := Lib.hid (fun (s : Int) (X : World) (hX : Below W0.heap.size W0 X) => isUsed_any A c q s X ((h.below hP.below).below hX))
    have HCp := Lib.hid (fun (X : World) (hX : Below W0.heap.size W0 X) => copied_any A c q X ((h.below hP.below).below hX) (by rw [← ces_length, arB_len hr]; exact Nat.le_refl _) (fun p hp hu => by
      have := may_len (arB_may hr p.e (List.mem_map.2 ⟨p, hp, rfl⟩))
      omega))
    rw [pad_same hr] at HCp
    have HLn := Lib.hid (show (ces q).length = 96 from arB_len hr)
    have HSs := Lib.hid (fun (X : World) (hX : Below W0.heap.size W0 X) => (hs.below hP.below).below hX)
    have HSf := Lib.hid (show ∀ x ∈ ss, I64 x from hs.fit)
    have hmx := Nat.le_trans hs.room hs.most
    have HZ0 := Lib.hid hP.size
    generalize dropL (ces q) ss = L at *
    generalize dropE (ces q) ss = E at *
    generalize q.length = n at *
    obtain ⟨m, hm⟩ : ∃ m, m = ss.length := ⟨_, rfl⟩
    rw [← hm] at hmx ⊢
    have HM := Lib.hid hm
    clear h hs hP hW0 hr hm
    go_enter Try.func28, Try.ntmps28
    go_wp2_with fail
    rw [← HW.out]
    refine HC.out.mono ?_
    rintro e w1 ⟨rfl, hb1⟩
    have hmade := MapD.made w1
    have hbm : Below w1.heap.size w1 (w1.alloc (.map #[] 0)) := (Below.refl _ w1).alloc (Nat.le_refl _) _
    have HB1 := Lib.hid hb1
    have HBm := Lib.hid (hb1.trans (hbm.mono hb1.size))
    have HMd := Lib.hid hmade
    obtain ⟨bm, hbmm⟩ : ∃ bm, bm = w1.heap.size := ⟨_, rfl⟩
    have HBl := Lib.hid (show W0.heap.size ≤ bm by rw [hbmm]; exact hb1.size)
    have HBe := Lib.hid hbmm
    clear hb1 hmade hbm hbmm
    have hmm := @run_makeMap Try.prog
    go_wp2
    clear hmm
    rw [← HBe.out]
    go_loopw [23] (fun i wr => ∃ (k : Nat), k ≤ m ∧ i = .int .i64 k ∧ Hid (OkTo (ces q) ss k) ∧ Hid (MapD wr bm k (ss.take k)) ∧ Hid (Below W0.heap.size W0 wr)) (fun i _ => m - (intOf i).toNat)
    case atStart => exact ⟨0, Nat.zero_le _, rfl, Lib.hid ⟨by simp, by simp⟩, Lib.hid (by rw [HBe.out]; exact HMd.out), HBm⟩
    case round =>
      obtain ⟨k, hk, rfl, HOk, HMp, HB⟩ := hrel
      by_cases hkm : k < m
      · obtain ⟨x, hx⟩ : ∃ x, ss[k]? = some x := ⟨_, List.getElem?_eq_getElem (by rw [← HM.out]; exact hkm)⟩
        have hxi := HSf.out x (List.mem_of_getElem? hx)
        obtain ⟨b, o, hAs, hb, ci⟩ := (HSs.out _ HB.out).at_ (j := k) (by rw [← HM.out]; exact hkm)
        have hgx : ss.getD k 0 = x := by simp [List.getD, hx]
        rw [hgx] at ci
        subst hAs
        have k0 : (0 : Int) ≤ k := by omega
        have km : (k : Int) < m := by omega
        obtain ⟨D, hown, hset⟩ := HMp.out
        obtain ⟨hbw, x0, xr⟩ := HX.out _ HB.out
        have xr2 : Boxed (wr.alloc (.cells #[] 74)) (w.heap.size + 1) 24 (.slice none 0 0) := xr.alloc _
        have x02 : Boxed (wr.alloc (.cells #[] 74)) w.heap.size 24 (.slice A n c) := x0.alloc _
        have hbV : Below W0.heap.size W0 (wr.alloc (.cells #[] 74)) := HB.out.alloc HB.out.size _
        have HSet := Lib.hid hset
        have HIs1 := Lib.hid (HIs.out x _ hbV)
        have HBV := Lib.hid hbV
        have HXX := Lib.hid hx
        have HXI := Lib.hid hxi
        have hwV : Below w.heap.size w (wr.alloc (.cells #[] 74)) := hbw.alloc hbw.size _
        by_cases hdup : x ∈ ss.take k
        · have hh : has D (kl x) = true := by rw [HSet.out x HXI.out]; simpa using hdup
          have HF := Lib.hid (HBad.out (ok_dup HXX.out hdup))
          have HH := Lib.hid hh
          obtain ⟨r0, hbR⟩ := res_set (.slice none 0 0) xr2 hwV (by omega)
          have c0 := xr2.cell
          have f0 := xr2.frozen
          have HBR := Lib.hid hbR
          have a0 := x0.cell
          clear hdup hh hxi hset hx hgx hb hbw x0 xr xr2 x02 hbV hwV hbR
          go_wp2_with (at_lookup; refine wpList_lookup_own_unit _ rfl _ _ 73 rfl 3 74 keyed Try.underlying73 (zeroUnit _) bm k D rfl hown _ _ rfl (keyAt HXI.out) ?_; rw [HH.out])
          refine bodyPost_ret (v := .tuple #[.agg #[.slice none 0 0], .int .i64 191]) (by simp [results, Try.results28, go_sem, r0]) rfl ?_
          rw [HF.out.1, HF.out.2]
          exact ⟨none, 0, [], rfl, rfl, OwnA.nil _ _, HBR.out⟩
        · have hh : has D (kl x) = false := by rw [HSet.out x HXI.out]; simpa using hdup
          have HH := Lib.hid hh
          have HDup := Lib.hid hdup
          have a0 := x0.cell
          have a2 := x02.cell
          cases hu : usedB (ces q) x with
          | false =>
            have HF := Lib.hid (HBad.out (ok_free HXX.out hu))
            rw [hu] at HIs1
            clear hdup hh hxi hset hx hgx hb hbw x0 xr xr2 x02 hbV hwV hu
            go_wp2_with (first
              | (at_lookup; refine wpList_lookup_own_unit _ rfl _ _ 73 rfl 3 74 keyed Try.underlying73 (zeroUnit _) bm k D rfl hown _ _ rfl (keyAt HXI.out) ?_; rw [HH.out])
              | (go_at_call 48; refine HIs1.out.mono ?_; rintro e w5 ⟨rfl, hb5⟩; obtain ⟨hbw5, _, xr5⟩ := HX.out _ (HBV.out.trans (hb5.mono HBV.out.size)); obtain ⟨r0, hbR⟩ := res_set (.slice none 0 0) xr5 hbw5 (by omega); have c0 := xr5.cell; have f0 := xr5.frozen; have HBR := Lib.hid hbR; clear hb5 hbw5 xr5 hbR))
            refine bodyPost_ret (v := .tuple #[.agg #[.slice none 0 0], .int .i64 191]) (by simp [results, Try.results28, go_sem, r0]) rfl ?_
            rw [HF.out.1, HF.out.2]
            exact ⟨none, 0, [], rfl, rfl, OwnA.nil _ _, HBR.out⟩
          | true =>
            have HOk2 := Lib.hid (HOk.out.step HXX.out hu hdup)
            rw [hu] at HIs1
            have HT := Lib.hid (show ss.take (k + 1) = ss.take k ++ [x] by rw [List.take_add_one, HXX.out]; rfl)
            have hk9 : k < maxLen := by unfold maxLen; omega
            have HOw := Lib.hid hown
            have HMpL := Lib.hid (show bm < wr.heap.size from hown.lt)
            clear hdup hh hxi hset hx hgx hb hbw x0 xr xr2 x02 hbV hwV hu
            go_wp2_with (first
              | (at_lookup; refine wpList_lookup_own_unit _ rfl _ _ 73 rfl 3 74 keyed Try.underlying73 (zeroUnit _) bm k D rfl hown _ _ rfl (keyAt HXI.out) ?_; rw [HH.out])
              | (go_at_call 48; refine HIs1.out.mono ?_; rintro e w5 ⟨rfl, hb5⟩; have HB5 := Lib.hid (HBV.out.trans (hb5.mono HBV.out.size)); have hown5 : w5.ownsMap Try.prog 3 unitElem bm k D := owns_same hown ((hb5.block bm (Nat.lt_of_lt_of_le HMpL.out (by simp))).trans (Below.heap_alloc _ _ _ HMpL.out)); clear hb5)
              | (at_mapUpdate; refine wpList_mapUpdate_in _ rfl _ _ _ 73 rfl 3 74 keyed Try.underlying73 unitElem bm k D rfl hown5 hk9 _ _ _ rfl rfl (keyAt HXI.out) (.agg []) [] unitElem_mk ?_; intro w6 hown6 hturn6; have HM6 := Lib.hid (show MapD w6 bm (k + 1) (ss.take (k + 1)) from ⟨_, hown6, by rw [HT.out]; exact setD_put hown5.isMap HSet.out HXI.out _⟩); have HB6 := Lib.hid (HB5.out.trans ((below_map hturn6 HBl.out HB5.out.size))); clear hown6 hturn6))
            go_roundw
            case rel => exact ⟨k + 1, by omega, by go_num, HOk2, HM6, HB6⟩
            case measure => simp [intOf]; omega
      · obtain rfl : k = m := by omega
        have hk2 : k = ss.length := HM.out
        have hok : dropOk (ces q) ss = true := OkTo.all (by rw [← hk2]; exact HOk.out)
        have HF := Lib.hid (HGood.out hok)
        have hmp := HMp.out
        rw [hk2, List.take_length] at hmp
        have HMp2 := Lib.hid hmp
        have HLt := Lib.hid (show ∀ x ∈ ss, ∃ j : Nat, x = j ∧ j < 96 from fun x hx => by have := ok_lt hok x hx; rw [HLn.out] at this; exact this)
        have HCp1 := Lib.hid (HCp.out wr HB.out)
        obtain ⟨_, x0, _⟩ := HX.out _ HB.out
        have a0 := x0.cell
        clear hk2 hok hmp x0
        go_wp2_with fail
        refine HCp1.out.mono ?_
        rintro e w7 ⟨g, q7, rfl, hq7, hl7, ho7, hb7⟩
        have hB7 := HB.out.trans (hb7.mono HB.out.size)
        obtain ⟨z, hz⟩ : ∃ z, z = w7.heap.size := ⟨_, rfl⟩
        obtain ⟨V, hV⟩ : ∃ V, V = w7.alloc (.cells #[.slice (some ⟨g, 0, none⟩) 96 96] 24) := ⟨_, rfl⟩
        have hbV : Below w7.heap.size w7 V := by rw [hV]; exact (Below.refl _ w7).alloc (Nat.le_refl _) _
        have hBV : Below W0.heap.size W0 V := hB7.trans (hbV.mono hB7.size)
        have hx12 : Boxed V z 24 (.slice (some ⟨g, 0, none⟩) 96 96) := by rw [hV, hz]; exact Boxed.new w7 _ _
        have hoV : OwnA W0.heap.size V (some ⟨g, 0, none⟩) 96 q7 := (ho7.mono HB.out.size).below hbV
        have hgz : wr.heap.size ≤ g ∧ g < z := by rw [hz]; exact ho7.lo
        have hzV : V.heap.size = z + 1 := by rw [hV, hz]; simp
        have hml := HMp2.out.lt
        obtain ⟨D, hownV, hset⟩ := HMp2.out.same (w' := V) ((hbV.block _ (Nat.lt_of_lt_of_le hml hb7.size)).trans (hb7.block _ hml))
        have HSet := Lib.hid hset
        have HV := Lib.hid hV
        have HZZ := Lib.hid hz
        have HBV := Lib.hid hBV
        have HX12 := Lib.hid hx12
        have HOV := Lib.hid (And.intro hoV (And.intro hq7 hl7))
        have HGZ := Lib.hid (And.intro hgz hzV)
        have HML := Lib.hid hml
        have HBl2 := HBl
        clear hB7 hz hV hbV hBV hx12 hoV hgz hzV hml hset hq7 hl7 ho7 hb7 a0
        go_wp2_with (first
          | (rw [← HV.out])
          | (at_range; refine wpList_range_own _ rfl _ 73 rfl 3 74 keyed Try.underlying73 unitElem bm ss.length D rfl hownV ?_; intro V0 hrg0 hg0 hs0)
          | go_in)
        go_frame
        rw [← HZZ.out]
        have ht0 : Turn (fun i => i = g ∨ i = V.heap.size) V V0 := (Turn.of_grown (S := fun _ => False) hg0 (by simp)).mono (fun i hi => hi.elim)
        have HT0 := Lib.hid ht0
        have hb0 : Below V.heap.size V V0 := (Turn.of_grown (S := fun _ => False) hg0 (by simp)).below (Nat.le_refl _) (fun i hi => hi.elim)
        have HDr0 := Lib.hid (show DrI W0 V g V.heap.size (ces q) ss D (has D) V0 from ⟨fun z hz => hz, ⟨q7, HOV.out.1.below hb0, HOV.out.2.2, by rw [HOV.out.2.1]; exact ZTo.start (fun x hx => by rw [HSet.out x (HSf.out x hx)]; simpa using hx)⟩, ht0⟩)
        have HSz := Lib.hid hs0
        clear ht0 hb0 hg0 hs0
        go_loopw [13] (fun _ wr => ∃ (left : Lit → Bool) (cnt : Nat), wr.ranges Try.prog 3 unitElem bm V.heap.size ss.length D left cnt ∧ Hid (DrI W0 V g V.heap.size (ces q) ss D left wr)) (fun _ wr => wr.rangeLeft bm V.heap.size)
        case atStart => exact ⟨_, _, hrg0, HDr0⟩
        case round =>
          obtain ⟨left, cnt, hrg, HR⟩ := hrel
          go_wp2_with (first
            | (at_next; refine wpList_next_ranges _ rfl _ rfl 3 keyed unitElem (Value.int .i64) (fun _ : Unit => Value.agg #[]) (fun key kl h => by obtain ⟨x, e, _⟩ := Maps.keyOf_int_inv Try.underlying3 h; exact ⟨x, e⟩) (fun v y h => by obtain ⟨e, _⟩ := unitElem_inv h; exact ⟨(), e⟩) bm V.heap.size ss.length D _ _ rfl hrg ?_ ?_)
            | go_in)
          · intro hc0 hl0
            obtain ⟨q', h1, h2, h3⟩ := HR.out.own
            have hcs := h3.done hl0
            obtain ⟨⟨hg1, hg2⟩, hzV⟩ := HGZ.out
            have hz0 := HZ0.out
            have hw0 := HB.out.size
            obtain ⟨hbwV, _, xrV⟩ := HX.out V HBV.out
            have x12 : Boxed wr z 24 (.slice (some ⟨g, 0, none⟩) 96 96) := (HR.out.turn.block _ HX12.out.lt (fun e => by rcases e with e | e <;> omega)).trans HX12.out
            have xr : Boxed wr (w.heap.size + 1) 24 (.slice none 0 0) := (HR.out.turn.block _ xrV.lt (fun e => by have := xrV.lt; rcases e with e | e <;> omega)).trans xrV
            have hbw : Below w.heap.size w wr := hbwV.trans (HR.out.turn.below hbwV.size (fun i hi => by rcases hi with hi | hi <;> omega))
            obtain ⟨r0, hbR⟩ := res_set (.slice (some ⟨g, 0, none⟩) 96 96) xr hbw (by omega)
            have hO : OwnA w.heap.size (wr.setCell ⟨w.heap.size + 1, 0, none⟩ (.slice (some ⟨g, 0, none⟩) 96 96)) (some ⟨g, 0, none⟩) 96 q' := (h1.turn (turn_set _ _ _ _) (fun i hi _ e => by omega)).mono (by omega)
            have b12 := x12.cell
            have c0 := xr.cell
            have f0 := xr.frozen
            have HFin := Lib.hid (And.intro hcs (And.intro h2 (And.intro hO hbR)))
            clear hc0 hl0 h1 h2 h3 hcs hg1 hg2 hzV hz0 hw0 hbwV xrV x12 xr hbw hbR hO hrg hownV hrg0
            go_wp2
            refine bodyPost_ret (v := .tuple #[.agg #[.slice (some ⟨g, 0, none⟩) 96 96], .int .i64 0]) (by simp [results, Try.results28, go_sem, r0]) rfl ?_
            rw [HF.out.1, HF.out.2]
            exact ⟨some ⟨g, 0, none⟩, 96, q', by rw [HFin.out.2.1], HFin.out.1, HFin.out.2.2.1, HFin.out.2.2.2⟩
          · intro x u kl y w1 cnt1 hkl hlk hy hat hrg1 hlt hg1 hs1 hen
            obtain ⟨x', ex, hklx, hwx⟩ := Maps.keyOf_int_inv Try.underlying3 hkl
            injection ex with _ ex
            subst ex
            subst hklx
            have hx : x ∈ ss := by
              have := HR.out.less _ hlk
              rw [HSet.out x hwx] at this
              simpa using this
            obtain ⟨j, rfl, hj⟩ := HLt.out x hx
            obtain ⟨q', h1, h2, h3⟩ := HR.out.own
            obtain ⟨⟨hgw, hgz⟩, hzV⟩ := HGZ.out
            have hwW := HB.out.size
            have tn : Turn (fun i => i = V.heap.size) wr w1 := Turn.of_grown hg1 (fun i hi => .inl (by injection hi with hi; exact hi.symm))
            have h1' : OwnA W0.heap.size w1 (some ⟨g, 0, none⟩) 96 q' := by
              obtain ⟨hlo, hhi⟩ := h1.lo
              refine ⟨row_turn h1.row tn (fun i hi e => ?_), fun p hp => ⟨row_turn (h1.el p hp).1 tn (fun i hi e => ?_), (h1.el p hp).2⟩, h1.fit⟩
              · have : i = g := by simpa [Value.ownBlock] using hi.symm
                omega
              · obtain ⟨es, cl, since, seen, c0', _, _, _, _, hit, _⟩ := hrg
                subst e
                rcases (h1.el p hp).1.2 with ⟨e2, _⟩ | ⟨g2, cap, cur, e2, _, hh, _⟩
                · rw [e2] at hi; cases hi
                · rw [e2] at hi
                  have : g2 = V.heap.size := by simpa [Value.ownBlock] using hi
                  subst this
                  rw [hit] at hh; cases hh
            obtain ⟨p0, _, d0, d1, d2, d3, d4, f0, f1, f2, f3, f4⟩ := h1'.cells (i := j) (by omega)
            have htV : Turn (fun i => i = g ∨ i = V.heap.size) V w1 := HR.out.turn.trans tn (fun i hi => .inl (.inr hi))
            have x12 : Boxed w1 z 24 (.slice (some ⟨g, 0, none⟩) 96 96) := (htV.block _ HX12.out.lt (fun e => by rcases e with e | e <;> omega)).trans HX12.out
            have hgr := grown_turn (put5_turn w1 g (j * 5) pz)
            have hgb : g ≠ bm := by have := HML.out; omega
            have hrg2 := hrg1.kept hgr (by intro e; injection e with e; exact hgb e.symm) (by intro e; injection e with e; omega)
            have HRg2 := Lib.hid hrg2
            have HDr := Lib.hid (show DrI W0 V g V.heap.size (ces q) ss D (fun z => left z && !z.sameKey (.int .i64 (j : Int))) (put5 w1 g (j * 5) pz) from
              ⟨fun z hz => HR.out.less z (by simp at hz; exact hz.1), ⟨q'.set j pz, h1'.put (by omega) (OwnV.nil _ _) fit_zc, by simp [h2], by rw [ces_set]; exact h3.step hx (by rw [HLn.out]; exact hj)⟩, htV.trans (put5_turn _ _ _ _) (fun i hi => .inl (.inl hi))⟩)
            have HMs := Lib.hid (show (put5 w1 g (j * 5) pz).rangeLeft bm V.heap.size < wr.rangeLeft bm V.heap.size from by rw [hrg2.left_eq, hrg.left_eq]; exact hlt)
            have b12 := x12.cell
            have j0 : (0 : Int) ≤ j := by omega
            have j9 : (j : Int) < 96 := by omega
            have hen' : (Instr.entry (.pointer (some ⟨V.heap.size, 0, none⟩))).run Try.prog w1 = .ok (.tuple #[.int .i64 (j : Int), .agg #[]]) w1 := hen
            clear hkl hlk hy hat hrg1 hlt hg1 hs1 hen hwx hx h1 h2 h3 hgw hgz hzV hwW tn h1' htV x12 hgr hgb hrg2 hrg hownV hrg0
            go_wp2
            go_roundw
            case rel => exact ⟨_, _, HRg2.out, HDr⟩
            case measure => exact HMs.out

end Go.Proofs.Ytpdebkpblpipcaa
