/-
  Proved: the law MeansTurned, in whatever order the vectors stand, it comes to the same, returns true for every rows of vectors, draws and number, and leaves all memory as it was. No condition.
-/
import Derived.Test.YtgakfffkadaeeaaMnsV
namespace Go.Proofs.Ytgakfffkadaeeaa.meansTurned
open Go.ChangeShapes Go.WideShapes Go.ChangeAt Go.RowKit
set_option linter.unusedVariables false
set_option linter.unusedSimpArgs false
set_option maxRecDepth 100000

theorem few_same {L : List (List Int)} {n : Nat} (h : L.length ≤ n) (hs : ∀ x ∈ L, x.length ≤ 5) : fewM L n = L := by
  unfold fewM
  rw [List.take_of_length_le h]
  conv => rhs; rw [← List.map_id L]
  exact List.map_congr_left fun x hx => List.take_of_length_le (hs x hx)
theorem Vecs.drop {w : World} {b o c : Nat} {l : List (List Int)} (h : Vecs .i32 w (some ⟨b, o, none⟩) c l) (k : Nat) (hk : k < l.length) : Vecs .i32 w (some ⟨b, o + k, none⟩) (c - k) (l.drop k) := by
  have hr := h.room
  have hm := h.most
  refine ⟨by rw [List.length_drop]; omega, by omega, fun hp => ?_⟩
  obtain ⟨b', o', e, hb, hc⟩ := h.rd (by omega)
  injection e with e
  injection e with e1 e2
  subst e1 e2
  refine ⟨b, o + k, rfl, hb, fun i x hx => ?_⟩
  rw [List.getElem?_drop] at hx
  obtain ⟨B, cb, h1, h2⟩ := hc (k + i) x hx
  exact ⟨B, cb, by rw [Nat.add_assoc]; exact h1, h2⟩

theorem facts {L : List (List Int)} {D : List Int} (h0 : startE L D = 0) {k : Nat} (hk : k < L.length) : startE (turnM L k) (D.map (turnD L.length k)) = 0 ∧ trainV (turnM L k) (D.map (turnD L.length k)) = trainV L D := by
  obtain ⟨dim, a2, a1, ⟨l0, l96⟩, hdr⟩ := start_facts h0
  have ha : Alike dim (turnM L k) := a2.sub fun x hx => (turn_perm L k).mem_iff.1 hx
  have hd : drawsB (D.map (turnD L.length k)) = true := by
    unfold drawsB
    rw [List.length_map]
    simp only [Bool.and_eq_true, decide_eq_true_eq, List.all_eq_true]
    refine ⟨⟨hdr.1, hdr.2.1⟩, fun x hx => ?_⟩
    obtain ⟨y, hy, rfl⟩ := List.mem_map.1 hx
    have := Nat.mod_lt (y.toNat % L.length + L.length - k) l0
    unfold drawB turnD
    simp only [Bool.and_eq_true, decide_eq_true_eq]
    omega
  have e0 : startE (turnM L k) (D.map (turnD L.length k)) = 0 := by
    unfold startE
    rw [if_pos hd]
    unfold vectE
    rw [train_of (by rw [turn_length]; omega) (by rw [turn_length]; omega)]
    simp only [ne_eq, not_true_eq_false, if_false]
    exact alike_all ha
  refine ⟨e0, ?_⟩
  unfold trainV
  rw [if_pos e0, if_pos h0]
  exact train_turned a2 hk D
theorem turn_num (y n kn : Nat) (hk : kn < n) (hn : n ≤ 96) : ∃ a t : Nat, (y : Int) % (n : Int) = a ∧ (y : Int).tmod (n : Int) = a ∧ wrap64 ((a : Int) + (n : Int)) = (a : Int) + (n : Int) ∧ wrap64 ((a : Int) + (n : Int) - (kn : Int)) = (a : Int) + (n : Int) - (kn : Int) ∧
    ((a : Int) + (n : Int) - (kn : Int)) % (n : Int) = t ∧ ((a : Int) + (n : Int) - (kn : Int)).tmod (n : Int) = t ∧ turnD n kn ((y : Nat) : Int) = (t : Int) ∧ (Lit.int .i64 (t : Int)).wf = true := by
  have ha := Nat.mod_lt y (show 0 < n by omega)
  have htl := Nat.mod_lt (y % n + n - kn) (show 0 < n by omega)
  have e1 : (y : Int) % (n : Int) = ((y % n : Nat) : Int) := (Int.natCast_emod y n).symm
  have ht : turnD n kn ((y : Nat) : Int) = (((y % n + n - kn) % n : Nat) : Int) := by unfold turnD; rw [Int.toNat_natCast]
  generalize y % n = a at *
  have e2 : (a : Int) + (n : Int) - (kn : Int) = ((a + n - kn : Nat) : Int) := by omega
  have e3 : ((a + n - kn : Nat) : Int) % (n : Int) = (((a + n - kn) % n : Nat) : Int) := (Int.natCast_emod _ n).symm
  refine ⟨a, (a + n - kn) % n, e1, by rw [Int.tmod_eq_emod_of_nonneg (by omega)]; exact e1, by unfold wrap64; omega, ?_, by rw [e2, e3], by rw [e2, Int.tmod_eq_emod_of_nonneg (by omega), e3], ht, WalkArith.wf_i64 (by omega)⟩
  rw [e2]
  generalize a + n - kn = s at *
  have : s ≤ 200 := by omega
  unfold wrap64
  omega
theorem u64_nonneg (x : Int) : 0 ≤ IntKind.u64.wrap x := by
  rw [IntKind.wrap_u64]; exact Int.emod_nonneg _ (by decide)

set_option maxHeartbeats 4000000 in
theorem walk {w : World} (A : Option Addr) (c : Nat) (l : List (List Int)) (H : Vecs .i32 w A c l) (A' : Option Addr) (c' : Nat) (d : List Int) (H' : Vec .i64 w A' c' d) (by_ : Int) (wby : (Lit.int .i64 by_).wf = true) :
    Calls Try.prog 11 #[.slice A l.length c, .slice A' d.length c', .int .i64 by_] w fun e w' => e = .returned (.bool true) ∧ Below w.heap.size w w' := by
  have HWk := Lib.hid (wakes_any w)
  have HFw := Lib.hid (fun (V : World) (hV : Below w.heap.size w V) => few_v A c l 96 V (H.below hV) (by omega))
  have HSm := Lib.hid (fun (V : World) (hV : Below w.heap.size w V) => some_any A' c' d V (H'.below hV))
  have HSh := Lib.hid (few_short l 96)
  obtain ⟨L, hL⟩ : ∃ L, L = fewM l 96 := ⟨_, rfl⟩
  obtain ⟨D, hD⟩ : ∃ D, D = d.take 7 := ⟨_, rfl⟩
  rw [← hL] at HFw HSh
  rw [← hD] at HSm
  generalize l.length = n0 at *
  generalize d.length = m0 at *
  obtain ⟨n, hn⟩ : ∃ n, n = L.length := ⟨_, rfl⟩
  obtain ⟨m, hm⟩ : ∃ m, m = D.length := ⟨_, rfl⟩
  have HTr := Lib.hid (fun (A1 A2 : Option Addr) (c1 c2 : Nat) (V : World) (h1 : Vecs .i32 V A1 c1 L) (h2 : Vec .i64 V A2 c2 D) => show Calls Try.prog 16 #[.slice A1 n c1, .slice A2 m c2] V (GVE V (trainV L D) (startE L D)) from by rw [hn, hm]; exact train_v A1 A2 c1 c2 L D V h1 h2)
  have HN := Lib.hid hn
  have HM := Lib.hid hm
  unfold GV at HFw
  unfold GVE at HTr
  rw [← hn] at HFw
  rw [← hm] at HSm
  by_cases h0 : startE L D = 0
  · obtain ⟨dim, a2, a1, ⟨l0, l96⟩, hdr⟩ := start_facts h0
    have hT : trainV L D = trainM L D := by unfold trainV; rw [if_pos h0]
    have hTl : (trainV L D).length = m := by rw [hT, hm]; unfold trainM; rw [rounds_length, start_length]
    rw [h0, hTl] at HTr
    rw [← hn] at l0 l96
    rw [← hm] at hdr
    obtain ⟨kn, hkn, hkk⟩ : ∃ kn : Nat, kn < n ∧ wrap64 ((IntKind.u64.wrap by_).tmod (n : Int)) = kn := by
      have hu := u64_nonneg by_
      generalize IntKind.u64.wrap by_ = u at *
      have h1 := Int.emod_nonneg u (show (n : Int) ≠ 0 by omega)
      have h2 := Int.emod_lt_of_pos u (show (0 : Int) < n by omega)
      rw [Int.tmod_eq_emod_of_nonneg hu]
      generalize u % (n : Int) = r at *
      refine ⟨r.toNat, by omega, ?_⟩
      unfold wrap64
      omega
    have HD0 := Lib.hid hdr.2.2
    have m6 := hdr.2.1
    have n0' : ((n : Int) == 0) = false := by simp; omega
    have n0'' : (n == 0) = false := by simp; omega
    have HFc := Lib.hid (facts h0 (k := kn) (by rw [← hn]; exact hkn))
    have HTt := Lib.hid (fun (A1 A2 : Option Addr) (c1 c2 : Nat) (V : World) (h1 : Vecs .i32 V A1 c1 (turnM L kn)) (h2 : Vec .i64 V A2 c2 (D.map (turnD n kn))) => show Calls Try.prog 16 #[.slice A1 n c1, .slice A2 m c2] V (GVE V (trainV L D) 0) from by
      have := train_v A1 A2 c1 c2 (turnM L kn) (D.map (turnD n kn)) V h1 h2
      rw [turn_length, List.length_map, ← hn, ← hm] at this
      have hf := HFc.out
      rw [← hn] at hf
      rw [hf.1, hf.2] at this
      exact this)
    have HSa := Lib.hid (fun (A1 A2 : Option Addr) (c1 c2 : Nat) (V : World) (h1 : Vecs .i32 V A1 c1 (trainV L D)) (h2 : Vecs .i32 V A2 c2 (trainV L D)) => show Calls Try.prog 29 #[.slice A1 m c1, .slice A2 m c2] V (fun e w' => e = .returned (.bool true) ∧ Below V.heap.size V w') from by
      have := sameV_any A1 A2 c1 c2 (trainV L D) (trainV L D) V h1 h2
      rw [hTl, decide_eq_true rfl] at this
      exact this)
    have HTk := Lib.hid (fun (i : Nat) (x : Int) (hx : D[i]? = some x) => show (D.take (i + 1)).map (turnD n kn) = (D.take i).map (turnD n kn) ++ [turnD n kn x] from by rw [List.take_add_one, hx, List.map_append]; rfl)
    have HTl := Lib.hid hTl
    unfold GVE at HTt
    rw [hTl] at HTt
    generalize hTT : trainV L D = T at *
    clear H H' hL hD hn hm h0 hT hTl hdr hTT HFc
    go_enter Try.func11, Try.ntmps11
    go_wp2_with fail
    refine HWk.out.mono ?_
    rintro e w1 ⟨rfl, hb1⟩
    have HB1 := Lib.hid hb1
    clear hb1
    go_wp2_with fail
    refine (HFw.out w1 HB1.out).mono ?_
    rintro e w2 ⟨A1, c1, rfl, hv, hb2⟩
    have HV := Lib.hid hv
    have HB2 := Lib.hid (below_tr HB1.out hb2)
    clear hv hb2
    go_wp2_with fail
    refine (HSm.out w2 HB2.out).mono ?_
    rintro e w3 ⟨A2, c2, rfl, hd, hb3⟩
    have HD := Lib.hid hd
    have HV3 := Lib.hid (HV.out.below hb3)
    have HB3 := Lib.hid (below_tr HB2.out hb3)
    clear hd hb3
    go_wp2_with fail
    refine (HTr.out A1 A2 c1 c2 w3 HV3.out HD.out).mono ?_
    rintro e w4 ⟨A3, c3, rfl, hc, hb4⟩
    have HC := Lib.hid hc
    have HV4 := Lib.hid (HV3.out.below hb4)
    have HD4 := Lib.hid (HD.out.below hb4)
    have HB4 := Lib.hid (below_tr HB3.out hb4)
    clear hc hb4
    obtain ⟨b0, o0, hA1, _⟩ := HV4.out.rd (by rw [← HN.out]; exact l0)
    subst hA1
    have HV4t := Lib.hid (HV4.out.take kn)
    have HV4d := Lib.hid (Vecs.drop HV4.out kn (by rw [← HN.out]; exact hkn))
    have HLd := Lib.hid (show (L.drop kn).length = n - kn ∧ (L.take kn).length = kn from ⟨by rw [List.length_drop, ← HN.out], by rw [List.length_take, ← HN.out]; omega⟩)
    have hcr := HV4.out.room
    have hcm := HV4.out.most
    rw [← HN.out] at hcr
    obtain ⟨r, hr1, hr2, hr3⟩ := HV4t.out.later
    have hrl : r.length = kn := by rw [← vals_length, hr1, HLd.out.2]
    rw [hrl] at hr3
    have HRr := Lib.hid (And.intro hr1 (And.intro hr2 hr3))
    have kn0 : (0 : Int) ≤ kn := by omega
    have knn : (kn : Int) ≤ n := by omega
    have kc : (kn : Int) ≤ c1 := by omega
    have nc : (n : Int) ≤ c1 := by omega
    have hck : ¬ c1 = kn := by omega
    have s1 : (((n : Int) - (kn : Int))).toNat = n - kn := by omega
    have s2 : (((c1 : Int) - (kn : Int))).toNat = c1 - kn := by omega
    have HRow := Lib.hid (fun (V : World) (A9 A10 : Option Addr) (c9 c10 : Nat) (q : List Pv) (W W' : World) (hV : Below w4.heap.size w4 V) (hq : vals q = L.drop kn) (ho : OwnVs V.heap.size W A9 c9 q) (hb : Below V.heap.size V W)
      (hr : W'.ownsRow V.heap.size 35 1 (.slice A10 (n - kn + kn) c10) (n - kn + kn) (flatV q ++ flatV r)) (hg : W.grownBy W' (blk A9)) => show Vecs .i32 W' A10 c10 (turnM L kn) ∧ Below V.heap.size V W' from by
      have hql : q.length = n - kn := by rw [← vals_length, hq, HLd.out.1]
      have hbw : Below V.heap.size V W' := hb.trans (grown_below hg hb.size (fun i hi => (ho.row.low i hi).1))
      have hrow : RowV V.heap.size W' A10 c10 (q ++ r) := by unfold RowV; rw [flatV_append, List.length_append, hql, hrl]; exact hr
      have hv := hrow.vecs (fun p hp => by
        rcases List.mem_append.1 hp with hp | hp
        · exact ((ho.el p hp).other ho.row (Turn.of_grown hg (fun i hi => .inl hi))).vec
        · exact (HRr.out.2.1 p hp).below (below_tr hV hbw))
      rw [vals_append, hq, HRr.out.1] at hv
      exact ⟨hv, hbw⟩)
    have HFd := Lib.hid (fun (V : World) (hV : Below w4.heap.size w4 V) => show Calls Try.prog 13 #[.slice (some ⟨b0, o0 + kn, none⟩) (n - kn) (c1 - kn), .int .i64 (n : Int)] V (fun e W => ∃ A9 c9 q9, e = .returned (.slice A9 (n - kn) c9) ∧ W.ownsRow V.heap.size 35 1 (.slice A9 (n - kn) c9) (n - kn) (flatV q9) ∧ Read W (some ⟨b0, o0, none⟩) kn 1 (flatV r) ∧ Below V.heap.size V W ∧
        ∀ A10 c10 W', W'.ownsRow V.heap.size 35 1 (.slice A10 (n - kn + kn) c10) (n - kn + kn) (flatV q9 ++ flatV r) → W.grownBy W' (blk A9) → Vecs .i32 W' A10 c10 (turnM L kn) ∧ Below V.heap.size V W') from by
      have := few_any (some ⟨b0, o0 + kn, none⟩) (c1 - kn) (L.drop kn) n V (HV4d.out.below hV) (by omega)
      rw [HLd.out.1, few_same (by rw [HLd.out.1]; omega) (fun x hx => HSh.out x (List.mem_of_mem_drop hx))] at this
      refine this.mono ?_
      rintro e W ⟨A9, c9, q9, rfl, hq, ho, hb⟩
      have hql : q9.length = n - kn := by rw [← vals_length, hq, HLd.out.1]
      refine ⟨A9, c9, q9, by rw [hql], ?_, HRr.out.2.2 _ (below_tr hV hb), hb, fun A10 c10 W' hr hg => HRow.out V A9 A10 c9 c10 q9 W W' hV hq ho hb hr hg⟩
      have := ho.row
      unfold RowV at this
      rw [hql] at this
      exact this)
    clear hr1 hr2 hr3 hrl
    go_wp2
    rw [hkk]
    have HBd := Lib.hid (show Below w4.heap.size w4 w4.drew from below_drew (Below.refl _ _))
    have HFe := Lib.hid (HFd.out _ HBd.out)
    go_region_held3 (fun _ => True) (first | exact trivial) (first
      | (go_at_call 13; (with_reducible refine HFe.out.mono ?_); rintro e w9 ⟨A9, c9, q9, rfl, ho9, hr9, hb9, hx9⟩; have HO9 := Lib.hid ho9; have HR9 := Lib.hid hr9; have HB9 := Lib.hid hb9; have HX9 := Lib.hid hx9; clear ho9 hr9 hb9 hx9)
      | (refine gapp_step (by rfl) _ _ appV (by rfl) w4.drew.heap.size A9 c9 (n - kn) (flatV q9) (by rfl) HO9.out (some ⟨b0, o0, none⟩) c1 kn (flatV r) (by rfl) HR9.out (by omega) HB9.out.size ?_; intro A10 c10 w10 ho10 hg10 _; have HW10 := Lib.hid (HX9.out A10 c10 w10 ho10 hg10); clear ho10 hg10))
    all_goals (
      rw [show n - kn + kn = n by omega]
      clear s1 s2 hck kn0 knn kc nc hcr hcm hkk
      have HB10 := Lib.hid (show Below w4.heap.size w4 w10 from below_tr HBd.out HW10.out.2)
      have HD10 := Lib.hid (HD4.out.below HB10.out)
      have H0 := Lib.hid (show OwnN w10.heap.size w10 none 0 ((D.take 0).map (turnD n kn)) from OwnN.nil _ _)
      go_wp2
      go_loopw [14, 51] (fun s j wr => ∃ i A5 c5, i ≤ m ∧ j = .int .i64 (i : Nat) ∧ s = .slice A5 i c5 ∧ Hid (OwnN w10.heap.size wr A5 c5 ((D.take i).map (turnD n kn)) ∧ Below w10.heap.size w10 wr)) (fun _ j _ => m - (intOf j).toNat)
      case atStart => exact ⟨0, none, 0, Nat.zero_le _, rfl, rfl, Lib.hid ⟨H0.out, Below.refl _ _⟩⟩
      case round =>
        obtain ⟨i, A5, c5, hi, rfl, rfl, HI⟩ := hrel
        by_cases him : i < m
        · obtain ⟨b, o, rfl, hb, q0⟩ := (HD10.out.below HI.out.2).at_ (j := i) (by rw [← HM.out]; exact him)
          have hx := getD_some (a := D) (k := i) (by rw [← HM.out]; exact him)
          have hx0 := HD0.out _ (List.mem_of_getElem? hx)
          have hst := HTk.out i _ hx
          generalize D.getD i 0 = x at *
          obtain ⟨y, rfl⟩ := Int.eq_ofNat_of_zero_le hx0.1
          obtain ⟨a, t, r1, r2, v1, v2, r3, r4, ht, hwf⟩ := turn_num y n kn hkn l96
          rw [ht] at hst
          have hlk : i = ((D.take i).map (turnD n kn)).length := by rw [List.length_map, List.length_take, ← HM.out]; omega
          obtain ⟨k1, k2, k3, k4⟩ := HI.out.1.step hlk (Below.refl _ _) HI.out.2.size hwf
          rw [← hst] at k4
          have HR := Lib.hid k1
          have HO := Lib.hid k2
          have HX := Lib.hid k4
          have i0 : (0 : Int) ≤ i := by omega
          have im : (i : Int) < m := by omega
          clear hx hb hst k1 k2 k4 hx0 ht hlk hwf
          go_wp2_with (at_builtin; refine gapp_at rfl (.tmp 55) (.tmp 65) appN rfl w10.heap.size A5 c5 i (((D.take i).map (turnD n kn)).map (Value.int .i64)) rfl HO.out (some ⟨wr.heap.size, 0, none⟩) 1 1 [.int .i64 (t : Int)] rfl HR.out (by omega) k3 ?_; intro A6 c6 w6 ho hg _; have HN4 := Lib.hid (HX.out A6 c6 w6 ho hg); clear ho hg)
          go_roundw
          case rel => exact ⟨i + 1, A6, c6, by omega, by go_num, rfl, Lib.hid ⟨HN4.out.1, HI.out.2.trans HN4.out.2⟩⟩
          case measure => simp [intOf]; omega
        · obtain rfl : i = m := by omega
          have htk : D.take i = D := by rw [HM.out, List.take_length]
          have hv := HI.out.1.vec
          rw [htk] at hv
          have HT2 := Lib.hid (HTt.out A10 A5 c10 c5 wr (HW10.out.1.below HI.out.2) hv)
          clear htk hv
          go_wp2_with fail
          refine HT2.out.mono ?_
          rintro e w11 ⟨A7, c7, rfl, ht, hb11⟩
          have HB11 := Lib.hid (below_tr HB10.out (below_tr HI.out.2 hb11))
          have HS := Lib.hid (HSa.out A7 A3 c7 c3 w11 ht (HC.out.below HB11.out))
          clear ht hb11
          go_wp2_with fail
          refine HS.out.mono ?_
          rintro e w12 ⟨rfl, hb12⟩
          have HB12 := Lib.hid (below_tr HB4.out (below_tr HB11.out hb12))
          clear hb12
          go_wp2
          go_ret
          exact ⟨by simp, HB12.out⟩)
  · have t1 : (startE L D == 0) = false := by simpa using h0
    have t2 : (startE L D != 0) = true := by simpa using h0
    generalize trainV L D = T at *
    generalize startE L D = E at *
    generalize T.length = tl at *
    clear H H' hL hD hn hm h0
    go_enter Try.func11, Try.ntmps11
    go_wp2_with fail
    refine HWk.out.mono ?_
    rintro e w1 ⟨rfl, hb1⟩
    have HB1 := Lib.hid hb1
    clear hb1
    go_wp2_with fail
    refine (HFw.out w1 HB1.out).mono ?_
    rintro e w2 ⟨A1, c1, rfl, hv, hb2⟩
    have HV := Lib.hid hv
    have HB2 := Lib.hid (below_tr HB1.out hb2)
    clear hv hb2
    go_wp2_with fail
    refine (HSm.out w2 HB2.out).mono ?_
    rintro e w3 ⟨A2, c2, rfl, hd, hb3⟩
    have HD := Lib.hid hd
    have HV3 := Lib.hid (HV.out.below hb3)
    have HB3 := Lib.hid (below_tr HB2.out hb3)
    clear hd hb3
    go_wp2_with fail
    refine (HTr.out A1 A2 c1 c2 w3 HV3.out HD.out).mono ?_
    rintro e w4 ⟨A3, c3, rfl, hc, hb4⟩
    have HB4 := Lib.hid (below_tr HB3.out hb4)
    clear hc hb4
    go_wp2
    go_ret
    exact ⟨by simp, HB4.out⟩

set_option maxRecDepth 100000 in
theorem lifted (os : Os) (started : os.Started) (H : Type) (enc : TypeId × Value → H) :
    ReturnsInHanded {} Try.checked os 11 .any (Rows.meansTurnedSpec.pre6 enc Try.prog Try.f11 Rows.meansTurnedRow.domain false) (Rows.meansTurnedSpec.post enc Try.prog Try.f11 false true false false) := by
  refine returnsInHanded_of_change (C := Try.checked) Try.own started (by kernel_rfl) Try.func11
    (ChangeSpec.witness6 (enc := enc) (C := Try.checked) false ⟨#[], #[.slice none 0 0, .slice none 0 0, .int .i64 0], []⟩ 8 (by kernel_rfl) (by kernel_rfl) (by kernel_rfl) (by kernel_rfl)) ?_
  intro W base args ds gs before hval0 hW hcnd _
  have hval : ∀ (j : Nat) t v, Try.f11.params[j]? = some t → args[j]? = some v → Value.okWide Try.prog W .any base t v := hval0
  have hW' := hW
  obtain ⟨p, q, hA0, hV, rfl, hfz, hnd⟩ := hW
  have hA : DataW.TrodAll enc Try.prog W 0 (fun _ => true) true Try.f11.params.toList args.toList ds p := hA0
  rw [Try.params11] at hA hval
  have hA' := hA
  obtain ⟨v0, vs0, d0, ds0, p0, q0, hargs, rfl, rfl, h0, r0⟩ := trodAll_cons hA
  obtain ⟨v1, vs1, d1, ds1, p1, q1, rfl, rfl, rfl, h1, r1⟩ := trodAll_cons r0
  obtain ⟨v2, vs2, d2, ds2, p2, q2, rfl, rfl, rfl, h2, r2⟩ := trodAll_cons r1
  obtain ⟨rfl, rfl, rfl⟩ := trodAll_nil r2
  obtain rfl : args = #[v0, v1, v2] := by cases args; simp_all
  obtain ⟨rfl, rfl⟩ := trodVars_none hV
  obtain ⟨A0, len0, c0, rfl⟩ := okWide_slice Try.underlying22 (hval 0 22 v0 rfl rfl)
  obtain ⟨z0, rfl, sl0⟩ := open_vecs h0
  obtain ⟨A1, len1, c1, rfl⟩ := okWide_slice Try.underlying23 (hval 1 23 v1 rfl rfl)
  obtain ⟨z1, rfl, sl1⟩ := open_nums h1
  obtain ⟨a2, rfl, w2⟩ := open_num (hval 2 3 v2 rfl rfl) h2
  clear hA0 hval0
  refine (walk A0 c0 z0 sl0 A1 c1 z1 sl1 a2 w2).mono fun e W' ⟨he, bel⟩ => ?_
  subst he
  exact ⟨_, rfl, _, _, _, [], _, [], hW', trodAll_mk1 (shut_bool Try.underlying4 _), trodAll_below bel _ _ _ _ (by kernel_rfl) hA', rfl, bel.frame _, fun h => by cases h⟩

theorem proved : Rows.MeansTurnedSaid :=
  OpenClaim.holds_of_wide 11 Try.f11 rfl rfl rfl rfl rfl rfl rfl ⟨rfl, rfl, rfl, rfl, rfl⟩ rfl rfl rfl rfl rfl (by kernel_rfl) Try.func11 (by kernel_rfl)
    (of_decide_eq_true (by kernel_rfl)) (by unfold Func.isWrapper; first | (rw [if_pos (by decide +kernel)]; kernel_rfl) | (rw [if_neg (by decide +kernel)]; exact ⟨rfl, rfl⟩))
    (fun os started H enc _ => lifted os started H enc)
#print axioms proved
end Go.Proofs.Ytgakfffkadaeeaa.meansTurned
