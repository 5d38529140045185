/-
  ProbeNearest: the nearest centroids, in order, or the error, as the document says. Holds for all centroids, vectors, numbers and worlds; of these what the law goes through.
-/
import Derived.Test.YtcekgllahlhaaaaGreatMPrF
import Derived.Test.YtcekgllahlhaaaaGreatMPrC
namespace Go.Proofs.YtcekgllahlhaaaaGreat.probeNearest
open Go.ChangeShapes Go.WideShapes Go.ChangeAt Go.RowKit Go.Deep Go.Shelf
set_option linter.unusedVariables false
set_option linter.unusedSimpArgs false
set_option maxRecDepth 100000

theorem near_ref (A Av : Option Addr) (c cv : Nat) (C : List (List Int)) (v : List Int) (N : Int) (w : World) (hc : Vecs .i32 w A c C) (hv : Vec .i32 w Av cv v) (h : nrE N C v = 0) :
    Calls Tryz.prog 14 #[.slice A C.length c, .slice Av v.length cv, .int .i64 N] w (GivesPl w (nrL N C v)) := by
  have hL : nrL N C v = askedP (farM C v) C.length N.toNat := by unfold nrL; rw [if_pos h]
  rw [hL]
  unfold nrE at h
  split at h
  · rename_i hN
    split at h
    · rename_i hr
      split at h
      · rename_i hce
        obtain ⟨c0, c6, call⟩ := cenE_ok hce
        unfold dimE at h
        split at h
        · rename_i hd
          exact rNearQ_any A Av c cv C v N w hc hv hr (fun x hx => by rw [← hd]; exact call x hx) c6 c0 (nB_iff.1 hN).1 (nB_iff.1 hN).2
        · omega
      · rename_i hce; exact absurd h hce
    · omega
  · omega

set_option maxHeartbeats 8000000 in
theorem walk {w : World} (Ax : Option Addr) (cx : Nat) (X : List (List Int)) (hX : Vecs .i32 w Ax cx X) (Al : Option Addr) (cl : Nat) (l : List (List Int)) (hl : Vecs .i32 w Al cl l) (An : Option Addr) (cn : Nat) (ns : List Int) (hn : Vec .i64 w An cn ns) :
    Calls Tryz.prog 3 #[.slice Ax X.length cx, .slice Al l.length cl, .slice An ns.length cn] w fun e w' => e = .returned (.bool true) ∧ Below w.heap.size w w' := by
  obtain ⟨nx, hnx⟩ : ∃ k, k = X.length := ⟨_, rfl⟩
  obtain ⟨nl, hnl⟩ : ∃ k, k = l.length := ⟨_, rfl⟩
  obtain ⟨nn, hnn⟩ : ∃ k, k = ns.length := ⟨_, rfl⟩
  have HWk := Lib.hid (wakes_any w)
  have HVs := Lib.hid (fun (Y : World) (hY : Below w.heap.size w Y) => vecsL_any Ax cx X Y (hX.below hY))
  have HL := Lib.hid (fun (Y : World) (hY : Below w.heap.size w Y) => hl.below hY)
  have HN := Lib.hid (fun (Y : World) (hY : Below w.heap.size w Y) => hn.below hY)
  have hlm := Nat.le_trans hl.room hl.most
  have hnm := Nat.le_trans hn.room hn.most
  have HNl := Lib.hid hnl
  have HNn := Lib.hid hnn
  rw [← hnx] at HVs
  rw [← hnl] at hlm
  rw [← hnn] at hnm
  rw [← hnx, ← hnl, ← hnn]
  clear hX hl hn hnx hnl hnn
  go_enter Tryz.func3, Tryz.ntmps3
  go_wp2_with fail
  refine HWk.out.mono ?_
  rintro e w1 ⟨rfl, hb1⟩
  have HB1 := Lib.hid hb1
  clear hb1
  go_wp2_with fail
  refine (HVs.out w1 HB1.out).mono ?_
  rintro e w2 ⟨A, c, he, hC, hb2⟩
  obtain ⟨C, hCd⟩ : ∃ C, C = cutC X := ⟨_, rfl⟩
  rw [← hCd] at hC he
  obtain ⟨n, hn⟩ : ∃ n, n = C.length := ⟨_, rfl⟩
  rw [← hn] at he
  subst he
  have HC := Lib.hid (fun (Y : World) (hY : Below w2.heap.size w2 Y) => hC.below hY)
  have HB2 := Lib.hid (HB1.out.trans (hb2.mono HB1.out.size))
  have HNc := Lib.hid hn
  clear hC hb2 hCd hn
  go_wp2
  go_loopw [23] (fun i wr => ∃ k : Nat, k ≤ nl ∧ i = .int .i64 k ∧ Hid (Below w2.heap.size w2 wr)) (fun i _ => nl - (intOf i).toNat)
  case atStart => exact ⟨0, Nat.zero_le _, rfl, Lib.hid (Below.refl _ _)⟩
  case round =>
    obtain ⟨k, hk, rfl, HB⟩ := hrel
    by_cases hkl : k < nl
    · obtain ⟨b, o, y, By, cy, rfl, hy, hb, cc, hvy⟩ := (HL.out wr (HB2.out.trans (HB.out.mono HB2.out.size))).at_ (i := k) (by rw [← HNl.out]; exact hkl)
      have k0 : (0 : Int) ≤ k := by omega
      have kl : (k : Int) < nl := by omega
      have HV := Lib.hid (vecL_any By cy y wr hvy)
      obtain ⟨yl, hyl⟩ : ∃ yl, yl = y.length := ⟨_, rfl⟩
      obtain ⟨v, hv⟩ : ∃ v, v = y.take 5 := ⟨_, rfl⟩
      obtain ⟨nv, hnv⟩ : ∃ nv, nv = v.length := ⟨_, rfl⟩
      rw [← hyl, ← hv, ← hnv] at HV
      rw [← hyl] at cc
      have HNv := Lib.hid hnv
      clear hy hb hvy hyl hv hnv
      by_cases h10 : k = 10
      · have t1 : ((k : Int) == 10) = true := by simp [h10]
        have t2 : (k == 10) = true := by simp [h10]
        have HBF := Lib.hid (HB2.out.trans (HB.out.mono HB2.out.size))
        clear h10
        go_wp2
        go_ret
        exact ⟨rfl, HBF.out⟩
      · have t1 : ((k : Int) == 10) = false := by simp; omega
        have t2 : (k == 10) = false := by simpa using h10
        by_cases hz : nn = 0
        · have t6 : decide ((0 : Int) < (nn : Int)) = false := by simp; omega
          have t7 : decide (0 < nn) = false := by simp; omega
          clear hz
          go_wp2_with fail
          refine HV.out.mono ?_
          rintro e w3 ⟨A3, c3, rfl, hv3, hb3⟩
          have HB3 := Lib.hid (HB.out.trans (hb3.mono HB.out.size))
          have HVr := Lib.hid (fun (Y : World) (hY : Below w3.heap.size w3 Y) => hv3.vec.below hY)
          have HCw := Lib.hid (fun (Y : World) (hY : Below w3.heap.size w3 Y) => HC.out Y (HB3.out.trans (hY.mono HB3.out.size)))
          have hg := nearP_any A A3 c c3 C v 1 w3 (HCw.out _ (Below.refl _ _)) (HVr.out _ (Below.refl _ _))
          have HEr := Lib.hid (fun (Y : World) (hY : Below w3.heap.size w3 Y) => rNearE_any A A3 c c3 C v 1 Y (HCw.out _ hY) (HVr.out _ hY))
          have HRf := Lib.hid (fun (Y : World) (hY : Below w3.heap.size w3 Y) (h0 : nrE 1 C v = 0) => near_ref A A3 c c3 C v 1 Y (HCw.out _ hY) (HVr.out _ hY) h0)
          have HLe := Lib.hid (fun (h : nrE 1 C v ≠ 0) => show nrL 1 C v = [] from by unfold nrL; rw [if_neg h])
          obtain ⟨L, hL⟩ : ∃ L, L = nrL 1 C v := ⟨_, rfl⟩
          obtain ⟨E, hE⟩ : ∃ E, E = nrE 1 C v := ⟨_, rfl⟩
          rw [← hL, ← hE] at hg
          rw [← hE] at HEr
          rw [← hL, ← hE] at HRf
          rw [← hE, ← hL] at HLe
          obtain ⟨m, hm⟩ : ∃ m, m = L.length := ⟨_, rfl⟩
          rw [← HNc.out, ← HNv.out] at hg HEr HRf
          have HG := Lib.hid hg
          have HM := Lib.hid hm
          clear hv3 hb3 hg hL hE hm
          go_wp2_with fail
          refine HG.out.mono ?_
          rintro e w4 ⟨B4, d4, he, ho4, hb4⟩
          rw [← HM.out] at he
          subst he
          have HO4 := Lib.hid ho4
          have HB4 := Lib.hid hb4
          clear ho4 hb4
          go_wp2_with fail
          refine (HEr.out w4 HB4.out).mono ?_
          rintro e w5 ⟨rfl, hb5⟩
          have HO5 := Lib.hid (HO4.out.below hb5)
          have HB5 := Lib.hid (HB4.out.trans (hb5.mono HB4.out.size))
          clear hb5
          by_cases hE : E = 0
          · subst hE
            go_wp2_with fail
            refine (HRf.out w5 HB5.out (by first | rfl | trivial)).mono ?_
            rintro e w6 ⟨B6, d6, he, ho6, hb6⟩
            rw [← HM.out] at he
            subst he
            have HO6 := Lib.hid ho6
            have HO7 := Lib.hid (HO5.out.below hb6)
            have HB6 := Lib.hid (HB3.out.trans ((HB5.out.trans (hb6.mono HB5.out.size)).mono HB3.out.size))
            clear ho6 hb6
            go_wp2
            go_loopw [78] (fun i wq => ∃ j : Nat, j ≤ m ∧ i = .int .i64 j ∧ Hid (∃ q, wq = w6.drewN q)) (fun i _ => m - (intOf i).toNat)
            case atStart => exact ⟨0, Nat.zero_le _, rfl, Lib.hid ⟨0, rfl⟩⟩
            case round =>
              obtain ⟨j, hj, rfl, HW⟩ := hrel
              by_cases hjm : j < m
              · obtain ⟨b4, rfl, _, h41, h42, h43⟩ := HO7.out.at_ (by rw [← HM.out]; omega)
                obtain ⟨b6, rfl, _, h61, h62, h63⟩ := HO6.out.at_ (by rw [← HM.out]; omega)
                obtain ⟨z, hz⟩ : ∃ z, L[j]? = some z := ⟨_, List.getElem?_eq_getElem (by rw [← HM.out]; exact hjm)⟩
                have x4 : wr.cell? ⟨b4, j, none⟩ = some (.int .i64 (z : Int)) := by obtain ⟨q, e⟩ := HW.out; rw [e]; have := h43 j z hz; rw [Nat.zero_add] at this; exact this
                have x6 : wr.cell? ⟨b6, j, none⟩ = some (.int .i64 (z : Int)) := by obtain ⟨q, e⟩ := HW.out; rw [e]; have := h63 j z hz; rw [Nat.zero_add] at this; exact this
                rw [← HM.out] at h41 h61
                have j0 : (0 : Int) ≤ j := by omega
                have jm : (j : Int) < m := by omega
                have jn := hjm
                clear h43 h63 hz
                go_wp2
                go_quiet (fail)
                go_wp2
                go_roundw
                case rel => exact ⟨j + 1, by omega, by go_num, Lib.hid (by obtain ⟨q, e⟩ := HW.out; exact ⟨q + nq, by rw [e, World.drewN_drewN]⟩)⟩
                case measure => simp [intOf]; omega
              · obtain rfl : j = m := by omega
                have HBz := Lib.hid (show Below w2.heap.size w2 wr from by obtain ⟨q, e⟩ := HW.out; rw [e]; exact below_drewN HB6.out _)
                go_wp2
                go_roundw
                case rel => exact ⟨k + 1, by omega, by go_num, HBz⟩
                case measure => simp [intOf]; omega
          · have hLn := HLe.out hE
            have hm0 : m = 0 := by rw [HM.out, hLn]; rfl
            subst hm0
            have t3 : (E != 0) = true := by simpa using hE
            have t4 : (E == 0) = false := by simpa using hE
            have t5 : (E != E) = false := by simp
            have HBz := Lib.hid (HB3.out.trans (HB5.out.mono HB3.out.size))
            clear hLn hE
            go_wp2
            go_roundw
            case rel => exact ⟨k + 1, by omega, by go_num, HBz⟩
            case measure => simp [intOf]; omega
        · obtain ⟨r, hr⟩ : ∃ r, r = k % nn := ⟨_, rfl⟩
          have hrn : r < nn := by rw [hr]; exact Nat.mod_lt _ (by omega)
          have hrem : (k : Int).tmod (nn : Int) = (r : Int) := by rw [hr, Int.ofNat_tmod]
          have t6 : decide ((0 : Int) < (nn : Int)) = true := by simp; omega
          have t7 : decide (0 < nn) = true := by simp; omega
          have t8 : ((nn : Int) == 0) = false := by simpa using hz
          have t9 : (nn == 0) = false := by simpa using hz
          obtain ⟨bn, on, rfl, _, cnn⟩ := (HN.out wr (HB2.out.trans (HB.out.mono HB2.out.size))).at_ (j := r) (by rw [← HNn.out]; exact hrn)
          obtain ⟨N, hN⟩ : ∃ N, N = ns.getD r 0 := ⟨_, rfl⟩
          rw [← hN] at cnn
          have r0 : (0 : Int) ≤ r := by omega
          have rn : (r : Int) < nn := by omega
          have hwr : IntKind.i64.wrap (r : Int) = r := by simp [IntKind.wrap, IntKind.signed, IntKind.bits]; omega
          clear hN hr
          go_wp2_with fail
          refine HV.out.mono ?_
          rintro e w3 ⟨A3, c3, rfl, hv3, hb3⟩
          have HB3 := Lib.hid (HB.out.trans (hb3.mono HB.out.size))
          have HVr := Lib.hid (fun (Y : World) (hY : Below w3.heap.size w3 Y) => hv3.vec.below hY)
          have HCw := Lib.hid (fun (Y : World) (hY : Below w3.heap.size w3 Y) => HC.out Y (HB3.out.trans (hY.mono HB3.out.size)))
          have hg := nearP_any A A3 c c3 C v N w3 (HCw.out _ (Below.refl _ _)) (HVr.out _ (Below.refl _ _))
          have HEr := Lib.hid (fun (Y : World) (hY : Below w3.heap.size w3 Y) => rNearE_any A A3 c c3 C v N Y (HCw.out _ hY) (HVr.out _ hY))
          have HRf := Lib.hid (fun (Y : World) (hY : Below w3.heap.size w3 Y) (h0 : nrE N C v = 0) => near_ref A A3 c c3 C v N Y (HCw.out _ hY) (HVr.out _ hY) h0)
          have HLe := Lib.hid (fun (h : nrE N C v ≠ 0) => show nrL N C v = [] from by unfold nrL; rw [if_neg h])
          obtain ⟨L, hL⟩ : ∃ L, L = nrL N C v := ⟨_, rfl⟩
          obtain ⟨E, hE⟩ : ∃ E, E = nrE N C v := ⟨_, rfl⟩
          rw [← hL, ← hE] at hg
          rw [← hE] at HEr
          rw [← hL, ← hE] at HRf
          rw [← hE, ← hL] at HLe
          obtain ⟨m, hm⟩ : ∃ m, m = L.length := ⟨_, rfl⟩
          rw [← HNc.out, ← HNv.out] at hg HEr HRf
          have HG := Lib.hid hg
          have HM := Lib.hid hm
          clear hv3 hb3 hg hL hE hm
          go_wp2_with fail
          refine HG.out.mono ?_
          rintro e w4 ⟨B4, d4, he, ho4, hb4⟩
          rw [← HM.out] at he
          subst he
          have HO4 := Lib.hid ho4
          have HB4 := Lib.hid hb4
          clear ho4 hb4
          go_wp2_with fail
          refine (HEr.out w4 HB4.out).mono ?_
          rintro e w5 ⟨rfl, hb5⟩
          have HO5 := Lib.hid (HO4.out.below hb5)
          have HB5 := Lib.hid (HB4.out.trans (hb5.mono HB4.out.size))
          clear hb5
          by_cases hE : E = 0
          · subst hE
            go_wp2_with fail
            refine (HRf.out w5 HB5.out (by first | rfl | trivial)).mono ?_
            rintro e w6 ⟨B6, d6, he, ho6, hb6⟩
            rw [← HM.out] at he
            subst he
            have HO6 := Lib.hid ho6
            have HO7 := Lib.hid (HO5.out.below hb6)
            have HB6 := Lib.hid (HB3.out.trans ((HB5.out.trans (hb6.mono HB5.out.size)).mono HB3.out.size))
            clear ho6 hb6
            go_wp2
            go_loopw [78] (fun i wq => ∃ j : Nat, j ≤ m ∧ i = .int .i64 j ∧ Hid (∃ q, wq = w6.drewN q)) (fun i _ => m - (intOf i).toNat)
            case atStart => exact ⟨0, Nat.zero_le _, rfl, Lib.hid ⟨0, rfl⟩⟩
            case round =>
              obtain ⟨j, hj, rfl, HW⟩ := hrel
              by_cases hjm : j < m
              · obtain ⟨b4, rfl, _, h41, h42, h43⟩ := HO7.out.at_ (by rw [← HM.out]; omega)
                obtain ⟨b6, rfl, _, h61, h62, h63⟩ := HO6.out.at_ (by rw [← HM.out]; omega)
                obtain ⟨z, hz⟩ : ∃ z, L[j]? = some z := ⟨_, List.getElem?_eq_getElem (by rw [← HM.out]; exact hjm)⟩
                have x4 : wr.cell? ⟨b4, j, none⟩ = some (.int .i64 (z : Int)) := by obtain ⟨q, e⟩ := HW.out; rw [e]; have := h43 j z hz; rw [Nat.zero_add] at this; exact this
                have x6 : wr.cell? ⟨b6, j, none⟩ = some (.int .i64 (z : Int)) := by obtain ⟨q, e⟩ := HW.out; rw [e]; have := h63 j z hz; rw [Nat.zero_add] at this; exact this
                rw [← HM.out] at h41 h61
                have j0 : (0 : Int) ≤ j := by omega
                have jm : (j : Int) < m := by omega
                have jn := hjm
                clear h43 h63 hz
                go_wp2
                go_quiet (fail)
                go_wp2
                go_roundw
                case rel => exact ⟨j + 1, by omega, by go_num, Lib.hid (by obtain ⟨q, e⟩ := HW.out; exact ⟨q + nq, by rw [e, World.drewN_drewN]⟩)⟩
                case measure => simp [intOf]; omega
              · obtain rfl : j = m := by omega
                have HBz := Lib.hid (show Below w2.heap.size w2 wr from by obtain ⟨q, e⟩ := HW.out; rw [e]; exact below_drewN HB6.out _)
                go_wp2
                go_roundw
                case rel => exact ⟨k + 1, by omega, by go_num, HBz⟩
                case measure => simp [intOf]; omega
          · have hLn := HLe.out hE
            have hm0 : m = 0 := by rw [HM.out, hLn]; rfl
            subst hm0
            have t3 : (E != 0) = true := by simpa using hE
            have t4 : (E == 0) = false := by simpa using hE
            have t5 : (E != E) = false := by simp
            have HBz := Lib.hid (HB3.out.trans (HB5.out.mono HB3.out.size))
            clear hLn hE
            go_wp2
            go_roundw
            case rel => exact ⟨k + 1, by omega, by go_num, HBz⟩
            case measure => simp [intOf]; omega
    · obtain rfl : k = nl := by omega
      have HBF := Lib.hid (HB2.out.trans (HB.out.mono HB2.out.size))
      go_wp2
      go_ret
      exact ⟨rfl, HBF.out⟩

set_option maxRecDepth 100000 in
theorem lifted (os : Os) (started : os.Started) (H : Type) (enc : TypeId × Value → H) :
    ReturnsInHanded {} Tryz.checked os 3 .any (Rows.probeNearestSpec.pre6 enc Tryz.prog Tryz.f3 Rows.probeNearestRow.domain false) (Rows.probeNearestSpec.post enc Tryz.prog Tryz.f3 false true false false) := by
  refine returnsInHanded_of_change (C := Tryz.checked) Tryz.own started (by kernel_rfl) Tryz.func3
    (ChangeSpec.witness6 (enc := enc) (C := Tryz.checked) false ⟨#[], #[.slice none 0 0, .slice none 0 0, .slice none 0 0], []⟩ 8 (by kernel_rfl) (by kernel_rfl) (by kernel_rfl) (by kernel_rfl)) ?_
  intro W base args ds gs before hval0 hW hcnd _
  have hval : ∀ (j : Nat) t v, Tryz.f3.params[j]? = some t → args[j]? = some v → Value.okWide Tryz.prog W .any base t v := hval0
  have hW' := hW
  obtain ⟨p, q, hA0, hV, rfl, hfz, hnd⟩ := hW
  have hA : DataW.TrodAll enc Tryz.prog W 0 (fun _ => true) true Tryz.f3.params.toList args.toList ds p := hA0
  rw [Tryz.params3] at hA hval
  have hA' := hA
  obtain ⟨v0, vs0, d0, ds0, p0, q0, hargs, rfl, rfl, h0, r0⟩ := trodAll_cons hA
  obtain ⟨v1, vs1, d1, ds1, p1, q1, rfl, rfl, rfl, h1, r1⟩ := trodAll_cons r0
  obtain ⟨v2, vs2, d2, ds2, p2, q2, rfl, rfl, rfl, h2, r2⟩ := trodAll_cons r1
  obtain ⟨rfl, rfl, rfl⟩ := trodAll_nil r2
  obtain rfl : args = #[v0, v1, v2] := by cases args; simp_all
  obtain ⟨rfl, rfl⟩ := trodVars_none hV
  obtain ⟨A0, len0, c0, rfl⟩ := okWide_slice Tryz.underlying22 (hval 0 22 v0 rfl rfl)
  obtain ⟨z0, rfl, sl0⟩ := open_vecs h0
  obtain ⟨A1, len1, c1, rfl⟩ := okWide_slice Tryz.underlying22 (hval 1 22 v1 rfl rfl)
  obtain ⟨z1, rfl, sl1⟩ := open_vecs h1
  obtain ⟨A2, len2, c2, rfl⟩ := okWide_slice Tryz.underlying23 (hval 2 23 v2 rfl rfl)
  obtain ⟨z2, rfl, sl2⟩ := open_slots h2
  clear hA0 hval0
  refine (walk A0 c0 z0 sl0 A1 c1 z1 sl1 A2 c2 z2 sl2).mono fun e W' ⟨he, bel⟩ => ?_
  subst he
  exact ⟨_, rfl, _, _, _, [], _, [], hW', trodAll_mk1 (shut_bool Tryz.underlying4 _), trodAll_below bel _ _ _ _ (by kernel_rfl) hA', rfl, bel.frame _, fun h => by cases h⟩

theorem proved : Rows.ProbeNearestSaid :=
  OpenClaim.holds_of_wide 3 Tryz.f3 rfl rfl rfl rfl rfl rfl rfl ⟨rfl, rfl, rfl, rfl, rfl⟩ rfl rfl rfl rfl rfl (by kernel_rfl) Tryz.func3 (by kernel_rfl)
    (of_decide_eq_true (by kernel_rfl)) (by unfold Func.isWrapper; first | (rw [if_pos (by decide +kernel)]; kernel_rfl) | (rw [if_neg (by decide +kernel)]; exact ⟨rfl, rfl⟩))
    (fun os started H enc _ => lifted os started H enc)
#print axioms proved
end Go.Proofs.YtcekgllahlhaaaaGreat.probeNearest
