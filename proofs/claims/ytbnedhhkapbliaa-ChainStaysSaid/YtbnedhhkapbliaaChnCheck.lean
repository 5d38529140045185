/-
  Check.
-/
import Derived.Test.YtbnedhhkapbliaaChnTell
namespace Go.Proofs.Ytbnedhhkapbliaa
open Go.RowKit Go.Shelf
set_option linter.unusedVariables false
set_option linter.unusedSimpArgs false
set_option maxRecDepth 100000

theorem chk_no {l : List Vr} {k : Nat} (hk : k < l.length) (h : okAt l k = false) : chkM l = 180 := by
  unfold chkM
  rw [if_neg]
  intro hc
  unfold chainB at hc
  rw [List.all_eq_true] at hc
  have := hc k (List.mem_range.2 hk)
  rw [h] at this; cases this
theorem chk_yes {l : List Vr} (h : ∀ j, j < l.length → okAt l j = true) : chkM l = 0 := by
  unfold chkM
  rw [if_pos]
  unfold chainB
  rw [List.all_eq_true]
  intro k hk
  exact h k (List.mem_range.1 hk)
theorem verE_ne {b f : Int} {x : List Int} : verE b f x = (if verR b f x = true then 0 else 171) := rfl

set_option maxHeartbeats 1000000 in
theorem check_any8 (A : Option Addr) (c : Nat) (q : List Pl) (w : World) (h : Chn w A c q) :
    Calls Try.prog 16 #[.slice A q.length c] w fun e w' => e = .returned (.int .i64 (chkM (vals q))) ∧ Below w.heap.size w w' := by
  obtain ⟨n, hn⟩ : ∃ n, n = q.length := ⟨_, rfl⟩
  have hmn : n ≤ 9223372036854775807 := by rw [hn]; exact h.many
  have HQ := Lib.hid h
  have HN := Lib.hid hn
  have HNo := Lib.hid (fun k (hk : k < n) (ho : okAt (vals q) k = false) => chk_no (l := vals q) (by rw [vals_length, ← hn]; exact hk) ho)
  have HYes := Lib.hid (fun (ho : ∀ j, j < n → okAt (vals q) j = true) => chk_yes (l := vals q) (by rw [vals_length, ← hn]; exact ho))
  rw [← hn]
  generalize chkM (vals q) = R at *
  clear h hn
  go_enter Try.func16, Try.ntmps16
  go_wp2
  go_step3
  go_wp2
  go_step3
  go_wp2
  go_loopw [3, 8] (fun s i wr => ∃ k : Nat, k ≤ n ∧ i = .int .i64 k ∧ s = .int .i64 k ∧ Hid (∀ j : Nat, j < k → okAt (vals q) j = true) ∧ Hid (Below w.heap.size w wr)) (fun _ i _ => n - (intOf i).toNat)
  case atStart => exact ⟨0, Nat.zero_le _, rfl, rfl, Lib.hid (fun j hj => by omega), Lib.hid (Below.refl _ _)⟩
  case round =>
    obtain ⟨k, hk, rfl, rfl, HK, HB⟩ := hrel
    by_cases hkn : k < n
    · obtain ⟨b, o, p, rfl, hp, hb, c0, c1, c2, hv, hf⟩ := (HQ.out.below HB.out).at_ (i := k) (by rw [← HN.out]; exact hkn)
      have k0 : (0 : Int) ≤ k := by omega
      have kn : (k : Int) < n := by omega
      by_cases h96 : k < 96
      · have t96 : decide ((96 : Int) ≤ (k : Int)) = false := by simp; omega
        have hg := vals_getD hp
        have HO := Lib.hid (show okAt (vals q) k = (okV p.v && (decide (k = 0) || folB ((vals q).getD (k - 1) zv) p.v)) by unfold okAt; rw [hg]; simp [h96])
        have HC := Lib.hid (fun (W : World) (hW : Below wr.heap.size wr W) => checkVersion_any p.v.b p.v.f p.B p.c p.v.x W (hv.below hW))
        have HBX := Lib.hid (ver_alloc wr p.v.b p.v.f p.B p.v.x.length p.c)
        have HWX := Lib.hid (heap_alloc_new wr (.cells #[.int .u64 p.v.b, .int .u64 p.v.f, .slice p.B p.v.x.length p.c] 35))
        have HVE := Lib.hid (show verE p.v.b p.v.f p.v.x = (if okV p.v = true then 0 else 171) from rfl)
        generalize verE p.v.b p.v.f p.v.x = E at *
        cases hok : okV p.v with
        | false =>
          have HE := Lib.hid (show E = 171 by rw [HVE.out, hok]; rfl)
          have HX := Lib.hid (HNo.out k hkn (by rw [HO.out, hok]; rfl))
          clear hv hg hok hp
          go_wp2_with fail
          refine (HC.out _ HBX.out).mono ?_
          rw [HE.out]
          rintro e w1 ⟨rfl, hb1⟩
          have HB1 := Lib.hid (HB.out.trans ((HBX.out.trans (hb1.mono HBX.out.size)).mono HB.out.size))
          clear hb1
          go_wp2
          rw [Exit.noGoto_ret]
          go_ret
          rw [HX.out]
          exact ⟨rfl, HB1.out⟩
        | true =>
          have HE := Lib.hid (show E = 0 by rw [HVE.out, hok]; rfl)
          rcases Nat.eq_zero_or_pos k with hz | hz
          · have hz0 : okAt (vals q) k = true := by rw [HO.out, hok]; simp [hz]
            have HX := Lib.hid (show ∀ j : Nat, j < k + 1 → okAt (vals q) j = true from fun j hj => (show k = j by omega) ▸ hz0)
            have tpos : decide ((0 : Int) < (k : Int)) = false := by simp; omega
            have tpo2 : decide (0 < k) = false := by simp; omega
            clear hz0 hz
            clear hv hg hok hp
            go_wp2_with fail
            refine (HC.out _ HBX.out).mono ?_
            rw [HE.out]
            rintro e w1 ⟨rfl, hb1⟩
            have HB1 := Lib.hid (HB.out.trans ((HBX.out.trans (hb1.mono HBX.out.size)).mono HB.out.size))
            clear hb1
            go_wp2
            go_quiet (fail)
            go_wp2
            go_roundw
            case rel => exact ⟨k + 1, by omega, by go_num, by go_num, HX, Lib.hid (below_drewN HB1.out _)⟩
            case measure => simp [intOf]; omega
          · obtain ⟨j, hj⟩ : ∃ j, k = j + 1 := ⟨k - 1, by omega⟩
            obtain ⟨b', o', p', e', hp', hb', d0, d1, d2, hv', hf'⟩ := (HQ.out.below HB.out).at_ (i := j) (by rw [← HN.out]; omega)
            injection e' with e'
            injection e' with e1 e2
            subst e1
            subst e2
            have HO2 := Lib.hid (show okAt (vals q) k = folF p'.v.f p.v.b p'.v.x.length p.v.x.length by rw [HO.out, hok, hj, Nat.add_sub_cancel, vals_getD hp']; simp [folB, folF])
            have hj1 : (k : Int) - 1 = (j : Int) := by omega
            have hj2 : IntKind.i64.wrap ((k : Int) - 1) = (j : Int) := by rw [IntKind.wrap_i64]; omega
            have hj0 : (0 : Int) ≤ j := by omega
            have hj5 : IntKind.i64.wrap (j : Int) = (j : Int) := by rw [IntKind.wrap_i64]; omega
            have hjn : (j : Int) < n := by omega
            have tpos : decide ((0 : Int) < (k : Int)) = true := by simp; omega
            have HFo := Lib.hid (fun (W : World) => follows_any p'.v.b p'.v.f p.v.b p.v.f p'.B p.B p'.v.x.length p.v.x.length p'.c p.c W)
            have HK2 := Lib.hid (fun (hh : folF p'.v.f p.v.b p'.v.x.length p.v.x.length = true) => show ∀ i : Nat, i < k + 1 → okAt (vals q) i = true from fun i hi => by
              by_cases hi2 : i < k
              · exact HK.out i hi2
              · have hik : i = k := (by omega)
                rw [hik, HO2.out, hh])
            have HX := Lib.hid (fun (hh : folF p'.v.f p.v.b p'.v.x.length p.v.x.length = false) => HNo.out k hkn (by rw [HO2.out, hh]))
            clear hv hv' hg hok hp hp' HO HO2 hj
            generalize folF p'.v.f p.v.b p'.v.x.length p.v.x.length = D at *
            go_wp2_with fail
            refine (HC.out _ HBX.out).mono ?_
            rw [HE.out]
            rintro e w1 ⟨rfl, hb1⟩
            have HB1 := Lib.hid (HB.out.trans ((HBX.out.trans (hb1.mono HBX.out.size)).mono HB.out.size))
            have X1 := (hb1.block wr.heap.size (by simp)).trans HWX.out
            have HS := Lib.hid (fun (X : World) (hX : Below w1.heap.size w1 X) => show X.cell? ⟨wr.heap.size, 0, none⟩ = some (.int .u64 p.v.b) ∧ X.cell? ⟨wr.heap.size, 1, none⟩ = some (.int .u64 p.v.f) ∧ X.cell? ⟨wr.heap.size, 2, none⟩ = some (.slice p.B p.v.x.length p.c) ∧ X.cell? ⟨b, o + j * 3, none⟩ = some (.int .u64 p'.v.b) ∧ X.cell? ⟨b, o + j * 3 + 1, none⟩ = some (.int .u64 p'.v.f) ∧ X.cell? ⟨b, o + j * 3 + 2, none⟩ = some (.slice p'.B p'.v.x.length p'.c) from by
              have X2 := (hX.block _ (lt_of_block X1)).trans X1
              have hbX := (HBX.out.trans (hb1.mono HBX.out.size)).trans (hX.mono (HBX.out.trans (hb1.mono HBX.out.size)).size)
              exact ⟨(cell_of_row _ _ 0 _ _ _ X2).trans rfl, (cell_of_row _ _ 1 _ _ _ X2).trans rfl, (cell_of_row _ _ 2 _ _ _ X2).trans rfl, (hbX.cell (p := ⟨b, o + j * 3, none⟩) hb').trans d0, (hbX.cell (p := ⟨b, o + j * 3 + 1, none⟩) hb').trans d1, (hbX.cell (p := ⟨b, o + j * 3 + 2, none⟩) hb').trans d2⟩)
            clear hb1 X1 d0 d1 d2 c0 c1 c2
            cases D
            · go_wp2
              go_region_held3 (fun X => X.cell? ⟨wr.heap.size, 0, none⟩ = some (.int .u64 p.v.b) ∧ X.cell? ⟨wr.heap.size, 1, none⟩ = some (.int .u64 p.v.f) ∧ X.cell? ⟨wr.heap.size, 2, none⟩ = some (.slice p.B p.v.x.length p.c) ∧ X.cell? ⟨b, o + j * 3, none⟩ = some (.int .u64 p'.v.b) ∧ X.cell? ⟨b, o + j * 3 + 1, none⟩ = some (.int .u64 p'.v.f) ∧ X.cell? ⟨b, o + j * 3 + 2, none⟩ = some (.slice p'.B p'.v.x.length p'.c)) (first | exact HS.out _ (Below.refl _ _) | exact HS.out _ (below_drew (Below.refl _ _)) | exact HS2.out) (first
                | (go_at_call 36; refine (HFo.out _).mono ?_; rintro e w2 ⟨rfl, hb2⟩; have HB2 := Lib.hid hb2; have HS2 := Lib.hid (HS.out w2 ((below_drew (Below.refl _ w1)).trans hb2)); clear hb2))
              all_goals (
                go_wp2
                rw [Exit.noGoto_ret]
                go_ret
                rw [HX.out (by first | rfl | trivial)]
                exact ⟨rfl, HB1.out.trans ((below_drew (Below.refl _ w1)).trans HB2.out |>.mono HB1.out.size)⟩)
            · go_wp2
              go_region_held3 (fun X => X.cell? ⟨wr.heap.size, 0, none⟩ = some (.int .u64 p.v.b) ∧ X.cell? ⟨wr.heap.size, 1, none⟩ = some (.int .u64 p.v.f) ∧ X.cell? ⟨wr.heap.size, 2, none⟩ = some (.slice p.B p.v.x.length p.c) ∧ X.cell? ⟨b, o + j * 3, none⟩ = some (.int .u64 p'.v.b) ∧ X.cell? ⟨b, o + j * 3 + 1, none⟩ = some (.int .u64 p'.v.f) ∧ X.cell? ⟨b, o + j * 3 + 2, none⟩ = some (.slice p'.B p'.v.x.length p'.c)) (first | exact HS.out _ (Below.refl _ _) | exact HS.out _ (below_drew (Below.refl _ _)) | exact HS2.out) (first
                | (go_at_call 36; refine (HFo.out _).mono ?_; rintro e w2 ⟨rfl, hb2⟩; have HB2 := Lib.hid hb2; have HS2 := Lib.hid (HS.out w2 ((below_drew (Below.refl _ w1)).trans hb2)); clear hb2))
              all_goals (
                go_wp2
                go_roundw
                case rel => exact ⟨k + 1, by omega, by go_num, by go_num, Lib.hid (HK2.out (by first | rfl | trivial)), Lib.hid (HB1.out.trans ((below_drew (Below.refl _ w1)).trans HB2.out |>.mono HB1.out.size))⟩
                case measure => simp [intOf]; omega)
      · have t96 : decide ((96 : Int) ≤ (k : Int)) = true := by simp; omega
        have HX := Lib.hid (HNo.out k hkn (by unfold okAt; simp [h96]))
        have HBX := Lib.hid (ver_alloc wr p.v.b p.v.f p.B p.v.x.length p.c)
        clear hv hp
        go_wp2
        rw [Exit.noGoto_ret]
        go_ret
        rw [HX.out]
        exact ⟨rfl, HB.out.trans (HBX.out.mono HB.out.size)⟩
    · obtain rfl : k = n := by omega
      have HX := Lib.hid (HYes.out HK.out)
      go_wp2
      rw [Exit.noGoto_ret]
      go_ret
      rw [HX.out]
      exact ⟨rfl, HB.out⟩

end Go.Proofs.Ytbnedhhkapbliaa
