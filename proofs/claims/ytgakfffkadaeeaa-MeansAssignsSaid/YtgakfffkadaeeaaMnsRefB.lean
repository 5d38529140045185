/-
  The document's answers for layer 12, walked: Start, Parts, Round, Train.
-/
import Derived.Test.YtgakfffkadaeeaaMnsRef
namespace Go.Proofs.Ytgakfffkadaeeaa
open Go.RowKit Go.Shelf
set_option linter.unusedVariables false
set_option linter.unusedSimpArgs false
set_option maxRecDepth 100000

set_option maxHeartbeats 2000000 in
theorem rStart_any (A A' : Option Addr) (c c' : Nat) (l : List (List Int)) (d : List Int) (w : World) (h : Vecs .i32 w A c l) (hd : Vec .i64 w A' c' d) (hn : 0 < l.length) (hl : l.length ≤ 1000000) (hs : ∀ x ∈ l, x.length ≤ 1000000) (hdl : d.length ≤ 1000000) (hd0 : ∀ x ∈ d, 0 ≤ x) :
    Calls Try.prog 20 #[.slice A l.length c, .slice A' d.length c'] w (GivesV w (startM l d)) := by
  obtain ⟨n, hnn⟩ : ∃ n, n = l.length := ⟨_, rfl⟩
  obtain ⟨m, hm⟩ : ∃ m, m = d.length := ⟨_, rfl⟩
  have HQ := Lib.hid h
  have HD := Lib.hid hd
  have HN := Lib.hid hnn
  have HM := Lib.hid hm
  have HS := Lib.hid hs
  have HD0 := Lib.hid hd0
  have HST := Lib.hid (fun k x (hx : d[k]? = some x) => show startM l (d.take (k + 1)) = startM l (d.take k) ++ [l.getD (x.toNat % l.length) []] by unfold startM; rw [List.take_add_one, hx, List.map_append]; rfl)
  rw [← hnn] at hn hl ⊢
  rw [← hm] at hdl ⊢
  have n0 : (0 : Int) < n := by omega
  have t0 : ((n : Int) == 0) = false := by simp; omega
  have t1 : (n == 0) = false := by simp; omega
  have H0 := Lib.hid (show FwI w (startM l (d.take 0)) 0 none 0 w from ⟨[], rfl, by simp [vals, startM], OwnVs.nil _ _, Below.refl _ _⟩)
  clear h hd hs hd0 hnn hm
  go_enter Try.func20, Try.ntmps20
  go_wp2
  go_loopw [5, 10] (fun s i wr => ∃ k A1 c1, k ≤ m ∧ i = .int .i64 (k : Nat) ∧ s = .slice A1 k c1 ∧ Hid (FwI w (startM l (d.take k)) k A1 c1 wr)) (fun _ i _ => m - (intOf i).toNat)
  case atStart => exact ⟨0, none, 0, Nat.zero_le _, rfl, rfl, H0⟩
  case round =>
    obtain ⟨k, A1, c1, hk, rfl, rfl, HI⟩ := hrel
    by_cases hkm : k < m
    · have hb := HI.out.len.2.1
      obtain ⟨b, o, rfl, hb1, c0⟩ := (HD.out.below hb).at_ (j := k) (by rw [← HM.out]; exact hkm)
      have hx := getD_some (a := d) (k := k) (by rw [← HM.out]; exact hkm)
      have hx0 := HD0.out _ (List.mem_of_getElem? hx)
      have hst := HST.out k _ hx
      generalize d.getD k 0 = x at *
      obtain ⟨y, rfl⟩ := Int.eq_ofNat_of_zero_le hx0
      have hym := Nat.mod_lt y hn
      obtain ⟨b2, o2, z, B, cb, rfl, hz, hb2, c2, hv⟩ := HQ.out.at_ (i := y % n) (by rw [← HN.out]; exact hym)
      have c3 := (hb.cell (p := ⟨b2, o2 + y % n, none⟩) hb2).trans c2
      have c4 := (((Below.refl wr.heap.size wr).alloc (Nat.le_refl _) (.cells #[] 21)).cell (p := ⟨b2, o2 + y % n, none⟩) (World.block_lt_of_cell? wr _ c3)).trans c3
      have hvb := hv.below hb
      have hzs := HS.out z (List.mem_of_getElem? hz)
      have HSZ := Lib.hid hb.size
      rw [← HN.out, Int.toNat_natCast, getD_at hz] at hst
      have HR := Lib.hid (Read.vec (hvb.below ((Below.refl _ wr).alloc (Nat.le_refl _) (.cells #[] 21))))
      have HO := Lib.hid (World.ownsRow_made (base := wr.heap.size) (size := 1) (e := 21) wr #[] 0 (Nat.le_refl _) (Nat.zero_le _) rfl)
      have HAp := Lib.hid (fun A5 c5 W' => own_app (w := w) (W := wr) (W' := W') (B := B) (A5 := A5) (cb := cb) (c5 := c5) (x := z) hb.size hvb.fit)
      have HSt := Lib.hid (fun (A5 : Option Addr) (c5 : Nat) (w4 : World) (hb4 : Below wr.heap.size wr w4) (hov : OwnV w.heap.size w4 A5 c5 z) => HI.out.step hb4 hov)
      rw [← hst] at HSt
      have k0 : (0 : Int) ≤ k := by omega
      have km : (k : Int) < m := by omega
      have m0 : (0 : Int) ≤ ((y % n : Nat) : Int) := by omega
      have m1 : ((y % n : Nat) : Int) < n := by omega
      have m2 : (y : Int) % (n : Int) = ((y % n : Nat) : Int) := by omega
      have m3 : (y : Int).tmod (n : Int) = ((y % n : Nat) : Int) := by rw [Int.tmod_eq_emod_of_nonneg (by omega)]; omega
      obtain ⟨zl, hzl⟩ : ∃ zl, zl = z.length := ⟨_, rfl⟩
      rw [← hzl] at c2 c3 c4 HR HAp HSt hzs
      obtain ⟨yn, hyn⟩ : ∃ yn, yn = y % n := ⟨_, rfl⟩
      rw [← hyn] at m0 m1 m2 m3 c3 c4
      clear hb hb1 hx hst hv hvb hb2 c2 hx0 hz hzl hyn
      go_wp2_with (first
        | (at_builtin; refine gapp_at rfl (.tmp 15) (.tmp 22) appI rfl wr.heap.size (some ⟨wr.heap.size, 0, none⟩) 0 0 [] rfl HO.out B cb zl (z.map (Value.int .i32)) rfl HR.out (by omega) (by simp) ?_; intro A5 c5 w4 ho hg _; obtain ⟨hov, hb4⟩ := HAp.out A5 c5 w4 ho hg; obtain ⟨vs, r1, r2, r3, r5⟩ := HSt.out A5 c5 w4 hb4 hov; have HR1 := Lib.hid r1; have HR2 := Lib.hid r2; have HR5 := Lib.hid r5; rw [Nat.zero_add]; clear ho hg hov hb4 r1 r2 r5)
        | (at_builtin; refine gapp_at rfl (.tmp 14) (.tmp 24) appV rfl w.heap.size A1 c1 k vs rfl HR2.out (some ⟨w4.heap.size, 0, none⟩) 1 1 [.slice A5 zl c5] rfl HR1.out (by omega) r3 ?_; intro A6 c6 w6 ho hg _; have HN4 := Lib.hid (HR5.out A6 c6 w6 ho hg); clear ho hg))
      go_roundw
      case rel => exact ⟨k + 1, A6, c6, by omega, by go_num, rfl, HN4⟩
      case measure => simp [intOf]; omega
    · obtain rfl : k = m := by omega
      have HT := Lib.hid (show d.take k = d by rw [HM.out, List.take_length])
      go_wp2
      go_ret
      obtain ⟨q, q1, q2, q3, q4⟩ := HI.out
      rw [HT.out] at q2
      refine ⟨A1, c1, q, ?_, q2, q3, q4⟩
      rw [q1]; rfl

set_option maxHeartbeats 1000000 in
theorem rParts_any (A A' : Option Addr) (c c' : Nat) (cs l : List (List Int)) (w : World) {dim : Nat} (h : Vecs .i32 w A c cs) (hl : Vecs .i32 w A' c' l) (n0 : 0 < cs.length) (n6 : cs.length ≤ 1000) (m96 : l.length ≤ 1000) (a1 : Alike dim cs) (a2 : Alike dim l) :
    Calls Try.prog 26 #[.slice A cs.length c, .slice A' l.length c'] w fun e w' => ∃ A1 c1, e = .returned (.slice A1 l.length c1) ∧ Vec .i64 w' A1 c1 (intsOf (partsM cs l)) ∧ Below w.heap.size w w' := by
  obtain ⟨n, hn⟩ : ∃ n, n = cs.length := ⟨_, rfl⟩
  obtain ⟨m, hm⟩ : ∃ m, m = l.length := ⟨_, rfl⟩
  have HM := Lib.hid hm
  have HQ := Lib.hid hl
  have HNr := Lib.hid (fun (k : Nat) (x : List Int) (hx : l[k]? = some x) (B : Option Addr) (cb : Nat) (V : World) (hV : Below w.heap.size w V) (hv : Vec .i32 V B cb x) => show Calls Try.prog 39 #[.slice A n c, .slice B x.length cb] V (fun e w' => e = .returned (.int .i64 ((nearM cs x : Nat) : Int)) ∧ Below V.heap.size V w') from by
    have hx2 := a2 x (List.mem_of_getElem? hx)
    have := rNearest_any A B c cb cs x V (h.below hV) hv n0 hx2.1 (fun y hy => ⟨(a1 y hy).1, by have := (a1 y hy).2; omega⟩)
    rw [hn]
    exact this)
  have HLt := Lib.hid (fun (x : List Int) => show nearM cs x < 1000 from by have := near_lt x n0; omega)
  have HPt := Lib.hid (fun k x (hx : l[k]? = some x) => parts_take cs l hx)
  have HPl := Lib.hid (fun k => parts_len cs (l.take k))
  have H0 := Lib.hid (show OwnN w.heap.size w none 0 (intsOf (partsM cs (l.take 0))) from OwnN.nil _ _)
  have HFin := Lib.hid (show intsOf (partsM cs (l.take m)) = intsOf (partsM cs l) by rw [hm, List.take_length])
  rw [← hn, ← hm]
  rw [← hm] at m96
  clear h hl n0 n6 a1 a2 hn hm
  go_enter Try.func26, Try.ntmps26
  go_wp2
  go_loopw [5, 10] (fun s i wr => ∃ k A1 c1, k ≤ m ∧ i = .int .i64 (k : Nat) ∧ s = .slice A1 k c1 ∧ Hid (OwnN w.heap.size wr A1 c1 (intsOf (partsM cs (l.take k))) ∧ Below w.heap.size w wr)) (fun _ i _ => m - (intOf i).toNat)
  case atStart => exact ⟨0, none, 0, Nat.zero_le _, rfl, rfl, Lib.hid ⟨H0.out, Below.refl _ _⟩⟩
  case round =>
    obtain ⟨k, A1, c1, hk, rfl, rfl, HI⟩ := hrel
    by_cases hkm : k < m
    · obtain ⟨b, o, x, B, cb, rfl, hx, hb, c0, hv⟩ := (HQ.out.below HI.out.2).at_ (i := k) (by rw [← HM.out]; exact hkm)
      have HC := Lib.hid (HNr.out k x hx B cb wr HI.out.2 hv)
      have HT := Lib.hid (HPt.out k x hx)
      have hlt := HLt.out x
      have HSZ := Lib.hid HI.out.2.size
      have hlk : k = (intsOf (partsM cs (l.take k))).length := by rw [HPl.out, List.length_take, ← HM.out]; omega
      have HLK := Lib.hid hlk
      have k0 : (0 : Int) ≤ k := by omega
      have km : (k : Int) < m := by omega
      generalize nearM cs x = y at *
      have hwf : (Lit.int .i64 (y : Int)).wf = true := WalkArith.wf_i64 (by omega)
      generalize x.length = xl at *
      clear hx hb hv hlk
      go_wp2_with fail
      refine HC.out.mono ?_
      rintro e w1 ⟨rfl, hb1⟩
      obtain ⟨r1, r2, r3, r4⟩ := HI.out.1.step HLK.out hb1 HSZ.out hwf
      have HR := Lib.hid r1
      have HO := Lib.hid r2
      have HX := Lib.hid r4
      rw [← HT.out] at HX
      clear hb1 r1 r2 r4
      go_wp2_with (at_builtin; refine gapp_at rfl (.tmp 14) (.tmp 18) appN rfl w.heap.size A1 c1 k ((intsOf (partsM cs (l.take k))).map (Value.int .i64)) rfl HO.out (some ⟨w1.heap.size, 0, none⟩) 1 1 [.int .i64 (y : Int)] rfl HR.out (by omega) r3 ?_; intro A5 c5 w4 ho hg _; have HN4 := Lib.hid (HX.out A5 c5 w4 ho hg); clear ho hg)
      go_roundw
      case rel => exact ⟨k + 1, A5, c5, by omega, by go_num, rfl, Lib.hid ⟨HN4.out.1, HI.out.2.trans HN4.out.2⟩⟩
      case measure => simp [intOf]; omega
    · obtain rfl : k = m := by omega
      go_wp2
      go_ret
      exact ⟨A1, c1, rfl, by rw [← HFin.out]; exact HI.out.1.vec, HI.out.2⟩

/-- The first k whose centroid stands at j. -/
theorem own_take (cs l : List (List Int)) (j : Nat) {k : Nat} {x : List Int} (hx : l[k]? = some x) : (nearM cs x = j → ownM cs (l.take (k + 1)) j = ownM cs (l.take k) j ++ [x]) ∧ (nearM cs x ≠ j → ownM cs (l.take (k + 1)) j = ownM cs (l.take k) j) := by
  unfold ownM
  rw [List.take_add_one, hx, List.filter_append]
  constructor
  · intro h; simp [h]
  · intro h; simp [h]

set_option maxHeartbeats 8000000 in
theorem rRound_any (A A' : Option Addr) (c c' : Nat) (cs l : List (List Int)) (w : World) {dim : Nat} (h : Vecs .i32 w A c cs) (hl : Vecs .i32 w A' c' l) (n0 : 0 < cs.length) (n6 : cs.length ≤ 6) (m96 : l.length ≤ 96) (a1 : Alike dim cs) (a2 : Alike dim l) :
    Calls Try.prog 27 #[.slice A cs.length c, .slice A' l.length c'] w (GivesV w (roundM cs l)) := by
  have HP := Lib.hid (rParts_any A A' c c' cs l w h hl n0 (by omega) (by omega) a1 a2)
  have HMn := Lib.hid (fun (j : Nat) (V : World) (A5 : Option Addr) (c5 : Nat) (hv : Vecs .i32 V A5 c5 (ownM cs l j)) (hj : (ownM cs l j).length ≠ 0) => show Calls Try.prog 40 #[.slice A5 (ownM cs l j).length c5] V (fun e w' => ∃ A6 c6, e = .returned (.slice A6 (stepM cs l j).length c6) ∧ Vec .i32 w' A6 c6 (stepM cs l j) ∧ Below V.heap.size V w') from by
    have hal := a2.sub (own_mem cs l j)
    have hs : stepM cs l j = meanM (ownM cs l j) := by unfold stepM; rw [if_neg hj]
    refine (rMean_any A5 c5 (ownM cs l j) V hv (by have : (ownM cs l j).length ≤ l.length := List.length_filter_le _ _; omega) hj (alike_all hal)).mono ?_
    rintro e w' ⟨⟨A6, c6, rfl, h2⟩, h3⟩
    rw [hs]
    exact ⟨A6, c6, rfl, h2, h3⟩)
  have HSl := Lib.hid (show ∀ j, j < cs.length → (stepM cs l j).length ≤ 4 from fun j hj => (right_len (step_alike a1 a2 hj).1).2)
  have HOl := Lib.hid (show ∀ j k, (ownM cs (l.take k) j).length ≤ 96 from fun j k => by have h1 : (ownM cs (l.take k) j).length ≤ (l.take k).length := List.length_filter_le _ _; rw [List.length_take] at h1; omega)
  have HRt := Lib.hid (fun j (hj : j < cs.length) => round_take cs l hj)
  have HPa := Lib.hid (fun (k : Nat) (x : List Int) (hx : l[k]? = some x) => show (intsOf (partsM cs l)).getD k 0 = ((nearM cs x : Nat) : Int) from by unfold intsOf partsM; simp [List.getD, hx])
  have HPl := Lib.hid (parts_len cs l)
  have HSk := Lib.hid (fun (j : Nat) (x : List Int) (hx : cs[j]? = some x) (hj : (ownM cs l j).length = 0) => show stepM cs l j = x from by unfold stepM; rw [if_pos hj, getD_at hx])
  obtain ⟨n, hn⟩ : ∃ n, n = cs.length := ⟨_, rfl⟩
  obtain ⟨m, hm⟩ : ∃ m, m = l.length := ⟨_, rfl⟩
  have HN := Lib.hid hn
  have HM := Lib.hid hm
  have HQ := Lib.hid h
  have HL := Lib.hid hl
  have HFin := Lib.hid (show (roundM cs l).take n = roundM cs l from List.take_of_length_le (by rw [round_length]; omega))
  have HTk := Lib.hid (show l.take m = l from by rw [hm, List.take_length])
  rw [← hn] at HP n6 n0 HSl HRt
  rw [← hm] at HP m96 HPl
  rw [← hn, ← hm]
  clear h hl a1 a2 hn hm
  go_enter Try.func27, Try.ntmps27
  go_wp2_with fail
  refine HP.out.mono ?_
  rintro e w1 ⟨A1, c1, rfl, hp, hb1⟩
  have HPv := Lib.hid hp
  have HB1 := Lib.hid hb1
  have H1 := Lib.hid (show FwI w1 ((roundM cs l).take 0) 0 none 0 w1 from ⟨[], rfl, by simp [vals], OwnVs.nil _ _, Below.refl _ _⟩)
  clear hp hb1
  go_wp2
  go_loopw [6, 17] (fun s i wr => ∃ k A2 c2, k ≤ n ∧ i = .int .i64 (k : Nat) ∧ s = .slice A2 k c2 ∧ Hid (FwI w1 ((roundM cs l).take k) k A2 c2 wr)) (fun _ i _ => n - (intOf i).toNat)
  case atStart => exact ⟨0, none, 0, Nat.zero_le _, rfl, rfl, H1⟩
  case round =>
    obtain ⟨k, A2, c2, hk, rfl, rfl, HI⟩ := hrel
    by_cases hkn : k < n
    · have HBw := Lib.hid (below_tr HB1.out HI.out.len.2.1)
      obtain ⟨b, o, x, B, cb, rfl, hx, _, q0, hv⟩ := (HQ.out.below HBw.out).at_ (i := k) (by rw [← HN.out]; exact hkn)
      have HX := Lib.hid hx
      have HV := Lib.hid hv
      have k0 : (0 : Int) ≤ k := by omega
      have kn : (k : Int) < n := by omega
      obtain ⟨xl, hxl⟩ : ∃ xl, xl = x.length := ⟨_, rfl⟩
      have HXL := Lib.hid hxl
      rw [← hxl] at q0
      obtain ⟨ws, hws⟩ : ∃ ws, ws = wr := ⟨_, rfl⟩
      rw [← hws] at HI HBw HV q0 ⊢
      have HB0 := Lib.hid (show BrI ws (ownM cs (l.take 0) k) 0 none 0 ws from by simpa [ownM] using BrI.nil ws)
      clear hx hv hxl hws
      go_wp2
      clear q0
      go_loopw [9, 24] (fun s i wv => ∃ t z A3 c3, t ≤ m ∧ i = .int .i64 (t : Nat) ∧ s = .slice A3 z c3 ∧ Hid (BrI ws (ownM cs (l.take t) k) z A3 c3 wv)) (fun _ i _ => m - (intOf i).toNat)
      case atStart => exact ⟨0, 0, none, 0, Nat.zero_le _, rfl, rfl, HB0⟩
      case round =>
        obtain ⟨t, z, A3, c3, ht, rfl, rfl, HJ⟩ := hrel
        by_cases htm : t < m
        · have HBv := Lib.hid HJ.out.vecs.2.1
          have hz96 : z ≤ 96 := by rw [HJ.out.vecs.2.2]; exact HOl.out k t
          obtain ⟨g1, p1, y, By, cy, hLA, hy, _, s1, hyv⟩ := ((HL.out.below HBw.out)).at_ (i := t) (by rw [← HM.out]; exact htm)
          subst hLA
          have s1' := (HBv.out.cell (p := ⟨g1, p1 + t, none⟩) (World.block_lt_of_cell? ws _ s1)).trans s1
          obtain ⟨g2, p2, hPA, _, s2⟩ := ((HPv.out.below HI.out.len.2.1).below HBv.out).at_ (j := t) (by rw [HPl.out]; exact htm)
          subst hPA
          rw [HPa.out t y hy] at s2
          have HOt := Lib.hid (own_take cs l k hy)
          have HSt := Lib.hid (HJ.out.step (Below.refl _ _) hyv)
          have t0 : (0 : Int) ≤ t := by omega
          have tm : (t : Int) < m := by omega
          by_cases he : nearM cs y = k
          · have HE := Lib.hid (HOt.out.1 he)
            rw [he] at s2
            obtain ⟨yl, hyl⟩ : ∃ yl, yl = y.length := ⟨_, rfl⟩
            rw [← hyl] at s1' HSt
            obtain ⟨vs, r1, r2, r3, r5⟩ := HSt.out
            rw [← HE.out] at r5
            have HR := Lib.hid r1
            have HO := Lib.hid r2
            have HX5 := Lib.hid r5
            clear he hy hyv s1 hyl r1 r2 r5 HSt
            go_wp2_with (at_builtin; refine gapp_at rfl (.tmp 32) (.tmp 37) appV rfl ws.heap.size A3 c3 z vs rfl HO.out (some ⟨wr.heap.size, 0, none⟩) 1 1 [.slice By yl cy] rfl HR.out (by omega) r3 ?_; intro A5 c5 w4 ho hg _; have HN4 := Lib.hid (HX5.out A5 c5 w4 ho hg); clear ho hg)
            go_roundw
            case rel => exact ⟨t + 1, z + 1, A5, c5, by omega, by go_num, rfl, HN4⟩
            case measure => simp [intOf]; omega
          · have HE := Lib.hid (HOt.out.2 he)
            have e1 : ((nearM cs y : Int) == (k : Int)) = false := by simp; omega
            have e2 : (nearM cs y == k) = false := by simpa using he
            generalize nearM cs y = py at *
            clear he hy hyv s1 HSt
            go_wp2
            go_roundw
            case rel => exact ⟨t + 1, z, A3, c3, by omega, by go_num, rfl, Lib.hid (by rw [HE.out]; exact HJ.out)⟩
            case measure => simp [intOf]; omega
        · obtain rfl : t = m := by omega
          rw [HTk.out] at HJ
          have HBv := Lib.hid HJ.out.vecs.2.1
          have hzl := HJ.out.vecs.2.2
          have HJv := Lib.hid HJ.out.vecs.1
          have HI2 := Lib.hid (HI.out.below HBv.out)
          have hk6 : k ≤ 1000 := by omega
          obtain ⟨wy, hwy⟩ : ∃ wy, wy = wr := ⟨_, rfl⟩
          rw [← hwy] at HJ HBv HJv HI2 ⊢
          clear hwy
          have HAdd := Lib.hid (fun (B1 : Option Addr) (k1 : Nat) (V : World) (hV : Below wy.heap.size wy V) (hvv : Vec .i32 V B1 k1 (stepM cs l k)) => show Read (V.alloc (.cells #[] 21)) B1 (stepM cs l k).length 1 ((stepM cs l k).map (Value.int .i32)) ∧ (∀ A5 c5 W', W'.ownsRow V.heap.size 21 1 (.slice A5 (0 + (stepM cs l k).length) c5) (0 + (stepM cs l k).length) ([] ++ (stepM cs l k).map (Value.int .i32)) → (V.alloc (.cells #[] 21)).grownBy W' (blk (some ⟨V.heap.size, 0, none⟩)) →
              ∃ vs, Read (W'.alloc (.cells #[.slice A5 (stepM cs l k).length c5] 35)) (some ⟨W'.heap.size, 0, none⟩) 1 1 [.slice A5 (stepM cs l k).length c5] ∧ (W'.alloc (.cells #[.slice A5 (stepM cs l k).length c5] 35)).ownsRow w1.heap.size 35 1 (.slice A2 k c2) k vs ∧ w1.heap.size ≤ (W'.alloc (.cells #[.slice A5 (stepM cs l k).length c5] 35)).heap.size ∧
                ∀ A6 c6 W6, W6.ownsRow w1.heap.size 35 1 (.slice A6 (k + 1) c6) (k + 1) (vs ++ [.slice A5 (stepM cs l k).length c5]) → (W'.alloc (.cells #[.slice A5 (stepM cs l k).length c5] 35)).grownBy W6 (blk A2) → Hid (FwI w1 ((roundM cs l).take (k + 1)) (k + 1) A6 c6 W6)) from by
            refine ⟨Read.vec (hvv.below ((Below.refl _ V).alloc (Nat.le_refl _) _)), fun A5 c5 W' ho hg => ?_⟩
            have hbwV : Below w1.heap.size w1 V := below_tr HI2.out.len.2.1 hV
            obtain ⟨hov, hb4⟩ := own_app (w := w1) (W := V) (W' := W') (B := B1) (A5 := A5) (cb := k1) (c5 := c5) (x := stepM cs l k) hbwV.size hvv.fit ho hg
            obtain ⟨vs, r1, r2, r3, r5⟩ := HI2.out.step (below_tr hV hb4) hov
            refine ⟨vs, r1, r2, r3, fun A6 c6 W6 h1 h2 => ?_⟩
            have hf := r5 A6 c6 W6 h1 h2
            rw [← HRt.out k hkn] at hf
            exact Lib.hid hf)
          have hsl := HSl.out k hkn
          by_cases hj : (ownM cs l k).length = 0
          · have hz0 : z = 0 := by rw [hzl, hj]
            have hxs := HSk.out k x HX.out hj
            have HA := Lib.hid (HAdd.out B cb wy (Below.refl _ _) (by rw [hxs]; exact HV.out.below HBv.out))
            have hlx : (stepM cs l k).length = xl := by rw [hxs, HXL.out]
            rw [hlx] at HA hsl
            have HO := Lib.hid (World.ownsRow_made (base := wy.heap.size) (size := 1) (e := 21) wy #[] 0 (Nat.le_refl _) (Nat.zero_le _) rfl)
            generalize (stepM cs l k).map (Value.int .i32) = nv at *
            subst hz0
            clear hzl hj hxs hlx
            go_wp2_with (first
              | (at_builtin; refine gapp_at rfl (.tmp 46) (.tmp 47) appI rfl wy.heap.size (some ⟨wy.heap.size, 0, none⟩) 0 0 [] rfl HO.out B cb xl nv rfl HA.out.1 (by omega) (by simp) ?_; intro A5 c5 w4 ho hg _; obtain ⟨vs, r1, r2, r3, r5⟩ := HA.out.2 A5 c5 w4 ho hg; have HR1 := Lib.hid r1; have HR2 := Lib.hid r2; have HR5 := Lib.hid r5; rw [Nat.zero_add]; clear ho hg r1 r2 r5)
              | (at_builtin; refine gapp_at rfl (.tmp 45) (.tmp 49) appV rfl w1.heap.size A2 c2 k vs rfl HR2.out (some ⟨w4.heap.size, 0, none⟩) 1 1 [.slice A5 xl c5] rfl HR1.out (by omega) r3 ?_; intro A6 c6 w6 ho hg _; have HN4 := HR5.out A6 c6 w6 ho hg; clear ho hg))
            go_roundw
            case rel => exact ⟨k + 1, A6, c6, by omega, by go_num, rfl, HN4⟩
            case measure => simp [intOf]; omega
          · have HM2 := Lib.hid (HMn.out k wy A3 c3 HJv.out hj)
            rw [← hzl] at HM2
            have hz1 : 0 < z := by omega
            have hz2 : (0 : Int) < (z : Int) := by omega
            clear hzl hj
            go_wp2_with fail
            refine HM2.out.mono ?_
            rintro e w5 ⟨A7, c7, rfl, hv7, hb7⟩
            have HA := Lib.hid (HAdd.out A7 c7 w5 hb7 hv7)
            have HO := Lib.hid (World.ownsRow_made (base := w5.heap.size) (size := 1) (e := 21) w5 #[] 0 (Nat.le_refl _) (Nat.zero_le _) rfl)
            generalize (stepM cs l k).map (Value.int .i32) = nv at *
            generalize (stepM cs l k).length = sl at *
            clear hv7 hb7
            go_wp2_with (first
              | (at_builtin; refine gapp_at rfl (.tmp 46) (.tmp 47) appI rfl w5.heap.size (some ⟨w5.heap.size, 0, none⟩) 0 0 [] rfl HO.out A7 c7 sl nv rfl HA.out.1 (by omega) (by simp) ?_; intro A5 c5 w4 ho hg _; obtain ⟨vs, r1, r2, r3, r5⟩ := HA.out.2 A5 c5 w4 ho hg; have HR1 := Lib.hid r1; have HR2 := Lib.hid r2; have HR5 := Lib.hid r5; rw [Nat.zero_add]; clear ho hg r1 r2 r5)
              | (at_builtin; refine gapp_at rfl (.tmp 45) (.tmp 49) appV rfl w1.heap.size A2 c2 k vs rfl HR2.out (some ⟨w4.heap.size, 0, none⟩) 1 1 [.slice A5 sl c5] rfl HR1.out (by omega) r3 ?_; intro A6 c6 w6 ho hg _; have HN4 := HR5.out A6 c6 w6 ho hg; clear ho hg))
            go_roundw
            case rel => exact ⟨k + 1, A6, c6, by omega, by go_num, rfl, HN4⟩
            case measure => simp [intOf]; omega
    · obtain rfl : k = n := by omega
      go_wp2
      go_ret
      obtain ⟨q, q1, q2, q3, q4⟩ := HI.out
      rw [HFin.out] at q2
      refine ⟨A2, c2, q, ?_, q2, q3.mono HB1.out.size, below_tr HB1.out q4⟩
      rw [q1]; rfl

set_option maxHeartbeats 2000000 in
theorem rTrain_any (A A' : Option Addr) (c c' : Nat) (l : List (List Int)) (d : List Int) (w : World) (h : Vecs .i32 w A c l) (hd : Vec .i64 w A' c' d) (h0 : startE l d = 0) :
    Calls Try.prog 21 #[.slice A l.length c, .slice A' d.length c'] w (GV w (trainM l d)) := by
  obtain ⟨dim, a2, a1, ⟨l0, l96⟩, hdr⟩ := start_facts h0
  have HS := Lib.hid (rStart_any A A' c c' l d w h hd l0 (by omega) (fun x hx => by have := right_len (a2 x hx).1; omega) (by omega) (fun x hx => (hdr.2.2 x hx).1))
  have HRd := Lib.hid (fun (k : Nat) (A1 : Option Addr) (c1 : Nat) (V : World) (hV : Below w.heap.size w V) (hq : Vecs .i32 V A1 c1 (roundsM l k (startM l d))) => show Calls Try.prog 27 #[.slice A1 d.length c1, .slice A l.length c] V (GV V (roundsM l (k + 1) (startM l d))) from by
    have hl1 : (roundsM l k (startM l d)).length = d.length := by rw [rounds_length, start_length]
    have := rRound_any A1 A c1 c (roundsM l k (startM l d)) l V hq (h.below hV) (by omega) (by omega) l96 (rounds_alike a1 a2 k) a2
    rw [hl1] at this
    exact this.mono (fun _ _ h => h.v))
  have HLn := Lib.hid (show ∀ k, (roundsM l k (startM l d)).length = d.length from fun k => by rw [rounds_length, start_length])
  obtain ⟨C, hC⟩ : ∃ C : Nat → List (List Int), C = fun k => roundsM l k (startM l d) := ⟨_, rfl⟩
  have hCk : ∀ k, roundsM l k (startM l d) = C k := fun k => by rw [hC]
  have hC0 : startM l d = C 0 := by rw [hC]; rfl
  have hC4 : trainM l d = C 4 := by rw [hC]; rfl
  rw [hC0] at HS
  rw [hC4]
  simp only [hCk] at HRd HLn
  obtain ⟨m, hm⟩ : ∃ m, m = d.length := ⟨_, rfl⟩
  rw [← hm] at HS HRd HLn ⊢
  generalize l.length = n at *
  unfold GV at HRd ⊢
  simp only [HLn.out] at HRd ⊢
  have HS2 := Lib.hid (show Calls Try.prog 20 #[.slice A n c, .slice A' m c'] w (fun e w' => ∃ A1 c1, e = .returned (.slice A1 m c1) ∧ Vecs .i32 w' A1 c1 (C 0) ∧ Below w.heap.size w w') from HS.out.mono (fun e w' hh => by
    obtain ⟨A1, c1, e1, e2, e3⟩ := hh.v
    rw [HLn.out] at e1
    exact ⟨A1, c1, e1, e2, e3⟩))
  clear h hd h0 a1 a2 l0 l96 hdr hC hCk hC0 hC4 hm HS
  go_enter Try.func21, Try.ntmps21
  go_wp2_with fail
  refine HS2.out.mono ?_
  rintro e w1 ⟨A1, c1, rfl, hv, hb1⟩
  have H0 := Lib.hid (And.intro hv hb1)
  clear hv hb1
  go_wp2
  go_loopw [5, 9] (fun s i wr => ∃ k A2 c2, k ≤ 4 ∧ i = .int .i64 (k : Nat) ∧ s = .slice A2 m c2 ∧ Hid (Vecs .i32 wr A2 c2 (C k) ∧ Below w.heap.size w wr)) (fun _ i _ => 4 - (intOf i).toNat)
  case atStart => exact ⟨0, A1, c1, Nat.zero_le _, rfl, rfl, H0⟩
  case round =>
    obtain ⟨k, A2, c2, hk, rfl, rfl, HI⟩ := hrel
    by_cases hk4 : k < 4
    · have HRk := Lib.hid (HRd.out k A2 c2 wr HI.out.2 HI.out.1)
      have k0 : (0 : Int) ≤ k := by omega
      have kn : (k : Int) < 4 := by omega
      go_wp2_with fail
      refine HRk.out.mono ?_
      rintro e w3 ⟨A3, c3, rfl, v3, b3⟩
      have HI3 := Lib.hid (And.intro v3 (below_tr HI.out.2 b3))
      clear v3 b3
      go_wp2
      go_roundw
      case rel => exact ⟨k + 1, A3, c3, by omega, by go_num, rfl, HI3⟩
      case measure => simp [intOf]; omega
    · obtain rfl : k = 4 := by omega
      go_wp2
      go_ret
      exact ⟨A2, c2, rfl, HI.out.1, HI.out.2⟩
end Go.Proofs.Ytgakfffkadaeeaa
