/-
  Proved: the law WalLasts, behind a loss of power there is what was, or what was under way, whole, and the same once more, returns true for every row of events, and leaves all memory as it was. No condition.
-/
import Derived.Test.YtienabfilnpieaaGreatWalLastI
import Derived.Deep.Cut
import Derived.Deep.CutRange
import Derived.Deep.CutBlock
namespace Go.Proofs.YtienabfilnpieaaGreat.walLasts
open Go.ChangeShapes Go.WideShapes Go.ChangeAt Go.RowKit Go.Deep
set_option linter.unusedVariables false
set_option linter.unusedSimpArgs false
set_option maxRecDepth 100000

theorem RdB.take {w : World} {B : Nat} {A : Option Addr} {bs : List Bool} (h : RdB w B A bs) (n : Nat) : RdB w B A (bs.take n) := by
  intro hp
  rw [List.length_take] at hp
  obtain ⟨b, o, e, hl, hc⟩ := h (by omega)
  refine ⟨b, o, e, hl, fun j hj => ?_⟩
  rw [List.length_take] at hj
  rw [hc j (by omega)]
  simp only [List.getD, List.getElem?_take]
  rw [if_pos (by omega)]
theorem ev_cells {W : World} {b : Nat} {v0 v1 v2 v3 : Value} (h : W.heap[b]? = some (.cells #[v0, v1, v2, v3] 36 (0, 0))) :
    W.cell? ⟨b, 0, none⟩ = some v0 ∧ W.cell? ⟨b, 1, none⟩ = some v1 ∧ W.cell? ⟨b, 2, none⟩ = some v2 ∧ W.cell? ⟨b, 3, none⟩ = some v3 := by
  simp [World.cell?, h]

set_option maxHeartbeats 8000000 in
theorem walk {w : World} (EA : Option Addr) (ec : Nat) (es : List AE) (he : EvsAt w EA es) (hem : es.length ≤ 9223372036854775807) :
    Calls Tryz.prog 5 #[.slice EA es.length ec] w fun e w' => e = .returned (.bool true) ∧ Below w.heap.size w w' := by
  obtain ⟨i0, hi, hz0, hz1, hz2⟩ := info_parts infoBytes
  have HEV := Lib.hid he
  obtain ⟨n, hn⟩ : ∃ n, n = es.length := ⟨_, rfl⟩
  have HN := Lib.hid hn
  rw [← hn] at hem ⊢
  clear he hn
  go_enter Tryz.func5, Tryz.ntmps5
  go_wp2_with fail
  refine (wakes_any w).mono ?_
  rintro e w1 ⟨rfl, hb1⟩
  have HB1 := Lib.hid hb1
  clear hb1
  go_wp2_with fail
  refine (fresh_any w1).mono ?_
  rintro e w2 ⟨g, d, S, T, rfl, hp⟩
  have HL0 := Lib.hid (last_start hp)
  clear hp
  go_wp2_with fail
  go_loopw [3, 6, 7, 29] (fun lg sn rc i wr => ∃ (k g : Nat) (t : TL), lg = .pointer (some ⟨g, 0, none⟩) ∧ sn = .slice t.C t.s.length t.cc ∧ rc = .slice t.A t.rs.length t.c ∧ i = .int .i64 k ∧ k ≤ n ∧ k ≤ 40 ∧ Hid (LastI X0 w1 wr g d (10 * k) t)) (fun _ _ _ i _ => n - (match i with | .int _ k => k.toNat | _ => 0))
  case atStart => exact ⟨0, g, ⟨none, 0, [], none, 0, []⟩, rfl, rfl, rfl, rfl, Nat.zero_le _, Nat.zero_le _, HL0⟩
  case round =>
    clear HL0
    obtain ⟨k, g, t, rfl, rfl, rfl, rfl, hk, hk40, HA⟩ := hrel
    by_cases hkn : k < n
    · have hkk : (k : Int) < n := by omega
      have k0 : (0 : Int) ≤ (k : Int) := by omega
      obtain ⟨o, ho⟩ : ∃ o, es[k]? = some o := ⟨es[k]'(by rw [← HN.out]; exact hkn), List.getElem?_eq_getElem _⟩
      obtain ⟨b, off, B, cb, K, kc, rfl, hblt, y0, y1, y2, y3, hev0⟩ := HEV.out k o ho
      have hbw : Below w.heap.size w wr := HB1.out.trans (HA.out.bel.mono HB1.out.size)
      have y0 := (hbw.cell (p := ⟨b, _, none⟩) hblt).trans y0
      have y1 := (hbw.cell (p := ⟨b, _, none⟩) hblt).trans y1
      have y2 := (hbw.cell (p := ⟨b, _, none⟩) hblt).trans y2
      have y3 := (hbw.cell (p := ⟨b, _, none⟩) hblt).trans y3
      have hev := hev0.later hbw
      by_cases h40 : k = 40
      · subst h40
        generalize o.bs.length = bn at *
        generalize o.keep.length = kn at *
        generalize o.kind = kd at *
        generalize o.n = on at *
        have HAX := Lib.hid (HA.out.later ((Below.refl _ wr).alloc (Nat.le_refl _) (.cells #[.int .i64 kd, .int .i64 on, .slice B bn cb, .slice K kn kc] 36)))
        clear hev hev0 hbw ho HEV
        have HBRK := Lib.hid (last_broken HAX.out)
        have HHS := Lib.hid (last_has HAX.out)
        have HBL := Lib.hid (HB1.out.trans (HAX.out.bel.mono HB1.out.size))
        clear HAX
        go_wp2_with (first
          | (go_at_call 27; (with_reducible refine HBRK.out.mono ?_); rintro e w' ⟨rfl, rfl⟩)
          | (go_at_call 29; (with_reducible refine HHS.out.mono ?_); rintro e w9 ⟨rfl, hb9⟩; have HB9 := Lib.hid hb9; clear hb9))
        go_ret
        exact ⟨rfl, HBL.out.trans (HB9.out.mono HBL.out.size)⟩
      · have t40 : ((k : Int) == 40) = false := by simp; omega
        obtain ⟨Wx, hWx⟩ : ∃ Wx, Wx = wr.alloc (.cells #[.int .i64 o.kind, .int .i64 o.n, .slice B o.bs.length cb, .slice K o.keep.length kc] 36) := ⟨_, rfl⟩
        have HWX := Lib.hid hWx
        have hbx : Below wr.heap.size wr Wx := by rw [hWx]; exact (Below.refl _ wr).alloc (Nat.le_refl _) _
        have HLX := Lib.hid (HA.out.watch _ hWx (by rw [hWx]; exact heap_alloc_new wr _))
        have HSM := Lib.hid (some_any B cb o.bs Wx (hev.sl.below hbx))
        have HKP := Lib.hid (fun (W : World) (hW : Below w.heap.size w W) (q : Nat) => RdB.take (hev0.later hW).rk q)
        have kk1 := hev.k1
        have KK2 := Lib.hid hev.k2
        obtain ⟨bb, hbb⟩ : ∃ bb, bb = o.bs.take 300 := ⟨_, rfl⟩
        have hbl : bb.length ≤ 300 := by rw [hbb, List.length_take]; omega
        have hbo : Oct bb := by rw [hbb]; exact hev.oct.takeN 300
        rw [← hbb] at HSM
        have hx0 := Int.tmod_nonneg 12 (show 0 ≤ IntKind.u64.wrap o.kind by rw [IntKind.wrap_u64]; omega)
        have hx1 := Int.tmod_lt_of_pos (IntKind.u64.wrap o.kind) (b := 12) (by omega)
        obtain ⟨kp, hkp⟩ : ∃ kp, kp = o.keep := ⟨_, rfl⟩
        obtain ⟨bn, hbn⟩ : ∃ bn, bn = o.bs.length := ⟨_, rfl⟩
        obtain ⟨kd, hkd⟩ : ∃ kd, kd = o.kind := ⟨_, rfl⟩
        obtain ⟨on, hon⟩ : ∃ on, on = o.n := ⟨_, rfl⟩
        rw [← hkp] at y3 HWX HKP kk1 HLX
        obtain ⟨kn, hkn'⟩ : ∃ kn, kn = kp.length := ⟨_, rfl⟩
        have HKN := Lib.hid hkn'
        rw [← hbn] at y2 HWX HSM HLX
        rw [← hkn'] at y3 HWX kk1 HLX
        rw [← hkd] at y0 HWX hx0 hx1 HLX
        rw [← hon] at y1 HWX HLX
        have HAP := Lib.hid (fun (W : World) (hW : Below Wx.heap.size Wx W) (A3 : Option Addr) (c3 : Nat) (hn : New Wx.heap.size W A3 c3 bb) => last_append HLX.out (by omega) hW hbo hbl hn)
        have HCK := Lib.hid (fun (W : World) (hW : Below Wx.heap.size Wx W) (A3 : Option Addr) (c3 : Nat) (hn : New Wx.heap.size W A3 c3 bb) => last_check HLX.out (by omega) hW hbo hbl hn)
        have HBX := Lib.hid hbx
        clear ho hev hev0 hbw hbb hbn hkn' hkp hkd hon hWx hbx hbo
        rw [HWX.out] at HSM
        go_wp2_with fail
        refine HSM.out.mono ?_
        rintro e wa ⟨A3, c3, rfl, hn3, hb3⟩
        rw [← HWX.out] at hn3 hb3
        have HN3 := Lib.hid hn3
        have HB3 := Lib.hid hb3
        have HAX := Lib.hid (HLX.out.later hb3)
        obtain ⟨v0, v1, v2, v3⟩ := ev_cells HAX.out.box
        clear hn3 hb3 HSM y0 y1 y2 y3
        go_upto_block 2 with fail
        go_cut [11, 12, 13] from 34 to 173 (fun e ns nr wx => ∃ (x : Int) (t' : TL), e = .int .i64 x ∧ ns = .slice t'.C t'.s.length t'.cc ∧ nr = .slice t'.A t'.rs.length t'.c ∧ Hid (SwI (X1 wr.heap.size (.cells #[.int .i64 kd, .int .i64 on, .slice B bn cb, .slice K kn kc] 36)) w1 wx g d (10 * k + 4) ((IntKind.u64.wrap kd).tmod 12 < 9) t t' x))
        case first =>
          clear HEV HN HKP KK2
          by_cases h5 : (IntKind.u64.wrap kd).tmod 12 < 5
          · have d5 : decide ((IntKind.u64.wrap kd).tmod 12 < 5) = true := decide_eq_true h5
            have N9 := Lib.hid (show (IntKind.u64.wrap kd).tmod 12 < 9 by omega)
            clear h5 hx0 hx1 HCK
            go_wp2_with fail
            refine (HAP.out wa HB3.out A3 c3 HN3.out).mono ?_
            rintro e wb (⟨rfl, hl⟩ | ⟨x, V, P, rfl, x6, hcost, hmid, hfate⟩)
            · have HL6 := Lib.hid hl
              clear hl
              go_wp2
              go_meet
              case rel => exact ⟨6, t, rfl, rfl, rfl, Lib.hid (.inr (.inr (.inl ⟨rfl, N9.out, HL6.out⟩)))⟩
            · obtain ⟨vs, m1, m2, m3, m4, m5, m6⟩ := hmid.row
              have t6 : (x != 6) = true := by simp [x6]
              have HM6 := Lib.hid m6
              have HM2 := Lib.hid m2
              have HM3 := Lib.hid m3
              have HX := Lib.hid (And.intro x6 (And.intro hcost hfate))
              have r0 : (0 : Int) ≤ (t.rs.length : Int) := by omega
              have r1 : (t.rs.length : Int) ≤ (t.c : Int) := by omega
              clear x6 hcost hmid hfate m2 m3 m6 HAP HN3 HB3 HLX
              go_wp2_with (at_builtin; refine wpList_append_grows _ rfl (.tmp 58) (.tmp 60) 29 rfl 33 i0 (.slice none 0 0) 1 24 Tryz.underlying29 hi hz0 hz1 hz2 rfl (by decide) t.A t.rs.length t.rs.length vs rfl (fun e => ⟨HM2.out e, HM2.out e⟩) (by omega) (fun a ha j u hu => (((Below.refl _ wb).alloc (Nat.le_refl _) _).cell (World.block_lt_of_cell? wb _ (HM3.out a ha j u hu))).trans (HM3.out a ha j u hu)) ⟨wb.heap.size, 0, none⟩ 1 1 [.slice A3 bb.length c3] rfl rfl (cell_one_new _ _ _) (by simp [Value.oneCell']) (by omega) (by unfold maxLen; omega) (by omega) ?_; intro v' w4 hown hg; obtain ⟨A2, c2, rfl, _, _⟩ := own_form hown; have HP4 := Lib.hid (HM6.out _ w4 A2 c2 ((Below.refl _ wb).alloc (Nat.le_refl _) _) hown hg HX.out.2.1); clear hown hg)
              go_meet
              case rel => exact ⟨x, ⟨t.C, t.cc, t.s, A2, c2, t.rs ++ [bb]⟩, rfl, rfl, by simp, Lib.hid (HP4.out.fate HX.out.1 HX.out.2.2 N9.out)⟩
          · have d5 : decide ((IntKind.u64.wrap kd).tmod 12 < 5) = false := decide_eq_false h5
            by_cases h7 : (IntKind.u64.wrap kd).tmod 12 < 7
            · have d7 : decide ((IntKind.u64.wrap kd).tmod 12 < 7) = true := decide_eq_true h7
              have N9 := Lib.hid (show (IntKind.u64.wrap kd).tmod 12 < 9 by omega)
              clear h5 h7 hx0 hx1 HAP
              go_wp2_with fail
              refine (HCK.out wa HB3.out A3 c3 HN3.out).mono ?_
              rintro e wb ⟨x, V, P, rfl, x6, hmid, hfate⟩
              have t6 : (x != 6) = true := by simp [x6]
              have HP4 := Lib.hid ((hmid.snap hbl).fate x6 hfate N9.out)
              clear x6 hmid hfate HCK HN3 HB3 HLX
              go_wp2
              go_meet
              case rel => exact ⟨x, ⟨A3, c3, bb, none, 0, []⟩, rfl, rfl, rfl, HP4⟩
            · have d7 : decide ((IntKind.u64.wrap kd).tmod 12 < 7) = false := decide_eq_false h7
              have q0 : 0 ≤ max on 0 % 9 := by omega
              have q1 : max on 0 % 9 ≤ 8 := by omega
              have HST := Lib.hid (last_set HAX.out q0 q1)
              have N20 : (9 : Int) ≠ 0 := by decide
              clear HAP HCK HN3 HB3 HLX
              by_cases e7 : (IntKind.u64.wrap kd).tmod 12 = 7
              · have t7 : ((IntKind.u64.wrap kd).tmod 12 == 7) = true := by simp [e7]
                have t8 : ((IntKind.u64.wrap kd).tmod 12 == 8) = false := by simp [e7]
                clear h5 h7 hx0 hx1 e7
                go_wp2_with (go_at_call 25; (with_reducible refine HST.out.1.mono ?_); rintro e wb ⟨rfl, hl⟩; have HLS := Lib.hid hl; clear hl)
                go_roundw
                case rel => exact ⟨k + 1, g, t, rfl, rfl, rfl, by go_num, by omega, by omega, Lib.hid (HLS.out.forget.next (by omega))⟩
                case measure => simp; omega
              · have t7 : ((IntKind.u64.wrap kd).tmod 12 == 7) = false := by simp [e7]
                by_cases e8 : (IntKind.u64.wrap kd).tmod 12 = 8
                · have t8 : ((IntKind.u64.wrap kd).tmod 12 == 8) = true := by simp [e8]
                  clear h5 h7 hx0 hx1 e7 e8
                  go_wp2_with (go_at_call 26; (with_reducible refine HST.out.2.mono ?_); rintro e wb ⟨rfl, hl⟩; have HLS := Lib.hid hl; clear hl)
                  go_roundw
                  case rel => exact ⟨k + 1, g, t, rfl, rfl, rfl, by go_num, by omega, by omega, Lib.hid (HLS.out.forget.next (by omega))⟩
                  case measure => simp; omega
                · have t8 : ((IntKind.u64.wrap kd).tmod 12 == 8) = false := by simp [e8]
                  have N9 := Lib.hid (show ¬ (IntKind.u64.wrap kd).tmod 12 < 9 by omega)
                  have HL9 := Lib.hid (HAX.out.next (j := 10 * k + 4) (by omega))
                  clear h5 h7 hx0 hx1 e7 e8
                  go_wp2
                  go_meet
                  case rel => exact ⟨0, t, rfl, rfl, rfl, Lib.hid (.inr (.inl ⟨rfl, (fun e => by have := N9.out; omega), rfl, HL9.out⟩))⟩
        case rest =>
          clear HAP HCK HN3 HB3 HLX HAX v0 v1 v2 v3
          obtain ⟨x, t', rfl, rfl, rfl, HS⟩ := hcut
          rcases HS.out with ⟨rfl, h9, hp⟩ | ⟨rfl, h9, htt, hl⟩ | ⟨rfl, h9, hl⟩ | ⟨x0, x6, hp⟩
          · have d9 : decide ((IntKind.u64.wrap kd).tmod 12 < 9) = true := decide_eq_true h9
            obtain ⟨v0, v1, v2, v3⟩ := ev_cells hp.box
            have HBRK := Lib.hid (show Calls Tryz.prog 27 #[.pointer (some ⟨g, 0, none⟩)] wc (fun e w' => e = .returned (.bool false) ∧ wc = w') from pair_broken hp)
            have HP := Lib.hid hp
            clear HS h9 hp hx0 hx1
            go_wp2_with (go_at_call 27; (with_reducible refine HBRK.out.mono ?_); rintro e w' ⟨rfl, rfl⟩)
            go_roundw
            case rel => exact ⟨k + 1, g, t', rfl, rfl, rfl, by go_num, by omega, by omega, Lib.hid (HP.out.done.forget.next (by omega))⟩
            case measure => simp; omega
          · have d9 : decide ((IntKind.u64.wrap kd).tmod 12 < 9) = false := decide_eq_false h9
            have HPR := Lib.hid hl.pair
            clear HS h9 hl hx0 hx1
            obtain rfl := htt.symm
            obtain ⟨v0, v1, v2, v3⟩ := ev_cells HPR.out.box
            have HBRK := Lib.hid (pair_broken HPR.out)
            rw [show (⟨400, t.ps, false⟩ : AW).broken = false from rfl] at HBRK
            obtain ⟨q, hq⟩ : ∃ q, q = min kn 200 := ⟨_, rfl⟩
            have q1 : min (kn : Int) 200 = (q : Int) := by omega
            have q2 : min 200 (kn : Int) = (q : Int) := by omega
            have q0 : (0 : Int) ≤ (q : Int) := by omega
            have qc : (q : Int) ≤ (kc : Int) := by omega
            have HCR := Lib.hid (pair_crash HPR.out K q kc (kp.take q) (by rw [List.length_take, ← HKN.out]; omega) (HKP.out _ (HB1.out.trans (HPR.out.bel.mono HB1.out.size)) q) (by omega) KK2.out)
            clear hq HPR
            go_wp2_with (go_at_call 27; (with_reducible refine HBRK.out.mono ?_); rintro e w' ⟨rfl, rfl⟩)
            refine HCR.out.mono ?_
            rintro e wd ⟨rfl, hr⟩
            have HOP := Lib.hid (rise_open hr (by omega))
            clear hr HCR HBRK v0 v1 v2 v3
            go_wp2_with fail
            refine HOP.out.mono ?_
            rintro e we ⟨g1, rs, rfl, hrs, hpo⟩
            have HHS := Lib.hid (pair_has hpo hrs)
            by_cases hsame : rs = TL.ps t
            · subst hsame
              rw [decide_eq_true rfl] at HHS
              have HPO := Lib.hid hpo
              clear hpo hrs HOP
              go_wp2_with fail
              refine HHS.out.mono ?_
              rintro e wf ⟨rfl, hbf⟩
              have HO1 := Lib.hid (HPO.out.later hbf).one2
              clear hbf HPO
              clear HHS
              have HOP2 := Lib.hid (one_open HO1.out (by omega))
              clear HO1
              go_wp2_with fail
              refine HOP2.out.mono ?_
              rintro e wg ⟨g2, rfl, htw⟩
              have HT := Lib.hid htw
              clear htw HOP2
              go_wp2_with (first
                | (go_at_call 29; (with_reducible refine (twin_has HT.out).1.mono ?_); rintro e w5 ⟨rfl, hb5⟩; have HT5 := Lib.hid (HT.out.later hb5); clear hb5 HT)
                | (go_at_call 29; (with_reducible refine (twin_has HT5.out).2.mono ?_); rintro e w6 ⟨rfl, hb6⟩; have HT6 := Lib.hid (HT5.out.later hb6); clear hb6 HT5)
                | (go_at_call 30; (with_reducible refine (twin_left HT6.out).2.mono ?_); rintro e w7 ⟨rfl, hb7⟩; have HT7 := Lib.hid (HT6.out.later hb7); clear hb7 HT6)
                | (go_at_call 30; (with_reducible refine (twin_left HT7.out).1.mono ?_); rintro e w8 ⟨rfl, hb8⟩; have HT8 := Lib.hid (HT7.out.later hb8); clear hb8 HT7))
              go_roundw
              case rel => exact ⟨k + 1, g2, t, rfl, rfl, rfl, by go_num, by omega, by omega, Lib.hid (HT8.out.1.next (by omega))⟩
              case measure => simp; omega
            · rw [decide_eq_false hsame] at HHS
              obtain rfl : rs = TL.ps t := hrs.resolve_right hsame
              have HPO := Lib.hid hpo
              clear hpo hrs hsame HOP
              go_wp2_with fail
              refine HHS.out.mono ?_
              rintro e wf ⟨rfl, hbf⟩
              have HO1 := Lib.hid (HPO.out.later hbf).one1
              clear hbf HPO
              clear HHS
              have HOP2 := Lib.hid (one_open HO1.out (by omega))
              clear HO1
              go_wp2_with fail
              refine HOP2.out.mono ?_
              rintro e wg ⟨g2, rfl, htw⟩
              have HT := Lib.hid htw
              clear htw HOP2
              go_wp2_with (first
                | (go_at_call 29; (with_reducible refine (twin_has HT.out).1.mono ?_); rintro e w5 ⟨rfl, hb5⟩; have HT5 := Lib.hid (HT.out.later hb5); clear hb5 HT)
                | (go_at_call 29; (with_reducible refine (twin_has HT5.out).2.mono ?_); rintro e w6 ⟨rfl, hb6⟩; have HT6 := Lib.hid (HT5.out.later hb6); clear hb6 HT5)
                | (go_at_call 30; (with_reducible refine (twin_left HT6.out).2.mono ?_); rintro e w7 ⟨rfl, hb7⟩; have HT7 := Lib.hid (HT6.out.later hb7); clear hb7 HT6)
                | (go_at_call 30; (with_reducible refine (twin_left HT7.out).1.mono ?_); rintro e w8 ⟨rfl, hb8⟩; have HT8 := Lib.hid (HT7.out.later hb8); clear hb8 HT7))
              go_roundw
              case rel => exact ⟨k + 1, g2, t, rfl, rfl, rfl, by go_num, by omega, by omega, Lib.hid (HT8.out.1.next (by omega))⟩
              case measure => simp; omega
          · have d9 : decide ((IntKind.u64.wrap kd).tmod 12 < 9) = true := decide_eq_true h9
            obtain ⟨v0, v1, v2, v3⟩ := ev_cells hl.box
            have HBRK := Lib.hid (last_broken hl)
            have HP := Lib.hid hl
            clear HS h9 hl hx0 hx1
            go_wp2_with (go_at_call 27; (with_reducible refine HBRK.out.mono ?_); rintro e w' ⟨rfl, rfl⟩)
            go_roundw
            case rel => exact ⟨k + 1, g, t, rfl, rfl, rfl, by go_num, by omega, by omega, Lib.hid (HP.out.forget.next (by omega))⟩
            case measure => simp; omega
          · have t0 : (x == 0) = false := by simp [x0]
            have HPR := Lib.hid hp
            clear HS hp hx0 hx1 x0 x6
            obtain ⟨v0, v1, v2, v3⟩ := ev_cells HPR.out.box
            have HBRK := Lib.hid (pair_broken HPR.out)
            rw [show (⟨400, t.ps, true⟩ : AW).broken = true from rfl] at HBRK
            obtain ⟨q, hq⟩ : ∃ q, q = min kn 200 := ⟨_, rfl⟩
            have q1 : min (kn : Int) 200 = (q : Int) := by omega
            have q2 : min 200 (kn : Int) = (q : Int) := by omega
            have q0 : (0 : Int) ≤ (q : Int) := by omega
            have qc : (q : Int) ≤ (kc : Int) := by omega
            have HCR := Lib.hid (pair_crash HPR.out K q kc (kp.take q) (by rw [List.length_take, ← HKN.out]; omega) (HKP.out _ (HB1.out.trans (HPR.out.bel.mono HB1.out.size)) q) (by omega) KK2.out)
            clear hq HPR
            go_wp2_with (go_at_call 27; (with_reducible refine HBRK.out.mono ?_); rintro e w' ⟨rfl, rfl⟩)
            refine HCR.out.mono ?_
            rintro e wd ⟨rfl, hr⟩
            have HOP := Lib.hid (rise_open hr (by omega))
            clear hr HCR HBRK v0 v1 v2 v3
            go_wp2_with fail
            refine HOP.out.mono ?_
            rintro e we ⟨g1, rs, rfl, hrs, hpo⟩
            have HHS := Lib.hid (pair_has hpo hrs)
            by_cases hsame : rs = TL.ps t'
            · subst hsame
              rw [decide_eq_true rfl] at HHS
              have HPO := Lib.hid hpo
              clear hpo hrs HOP
              go_wp2_with fail
              refine HHS.out.mono ?_
              rintro e wf ⟨rfl, hbf⟩
              have HO1 := Lib.hid (HPO.out.later hbf).one2
              clear hbf HPO
              clear HHS
              have HOP2 := Lib.hid (one_open HO1.out (by omega))
              clear HO1
              go_wp2_with fail
              refine HOP2.out.mono ?_
              rintro e wg ⟨g2, rfl, htw⟩
              have HT := Lib.hid htw
              clear htw HOP2
              go_wp2_with (first
                | (go_at_call 29; (with_reducible refine (twin_has HT.out).1.mono ?_); rintro e w5 ⟨rfl, hb5⟩; have HT5 := Lib.hid (HT.out.later hb5); clear hb5 HT)
                | (go_at_call 29; (with_reducible refine (twin_has HT5.out).2.mono ?_); rintro e w6 ⟨rfl, hb6⟩; have HT6 := Lib.hid (HT5.out.later hb6); clear hb6 HT5)
                | (go_at_call 30; (with_reducible refine (twin_left HT6.out).2.mono ?_); rintro e w7 ⟨rfl, hb7⟩; have HT7 := Lib.hid (HT6.out.later hb7); clear hb7 HT6)
                | (go_at_call 30; (with_reducible refine (twin_left HT7.out).1.mono ?_); rintro e w8 ⟨rfl, hb8⟩; have HT8 := Lib.hid (HT7.out.later hb8); clear hb8 HT7))
              go_roundw
              case rel => exact ⟨k + 1, g2, t', rfl, rfl, rfl, by go_num, by omega, by omega, Lib.hid (HT8.out.1.next (by omega))⟩
              case measure => simp; omega
            · rw [decide_eq_false hsame] at HHS
              obtain rfl : rs = TL.ps t := hrs.resolve_right hsame
              have HPO := Lib.hid hpo
              clear hpo hrs hsame HOP
              go_wp2_with fail
              refine HHS.out.mono ?_
              rintro e wf ⟨rfl, hbf⟩
              have HO1 := Lib.hid (HPO.out.later hbf).one1
              clear hbf HPO
              clear HHS
              have HOP2 := Lib.hid (one_open HO1.out (by omega))
              clear HO1
              go_wp2_with fail
              refine HOP2.out.mono ?_
              rintro e wg ⟨g2, rfl, htw⟩
              have HT := Lib.hid htw
              clear htw HOP2
              go_wp2_with (first
                | (go_at_call 29; (with_reducible refine (twin_has HT.out).1.mono ?_); rintro e w5 ⟨rfl, hb5⟩; have HT5 := Lib.hid (HT.out.later hb5); clear hb5 HT)
                | (go_at_call 29; (with_reducible refine (twin_has HT5.out).2.mono ?_); rintro e w6 ⟨rfl, hb6⟩; have HT6 := Lib.hid (HT5.out.later hb6); clear hb6 HT5)
                | (go_at_call 30; (with_reducible refine (twin_left HT6.out).2.mono ?_); rintro e w7 ⟨rfl, hb7⟩; have HT7 := Lib.hid (HT6.out.later hb7); clear hb7 HT6)
                | (go_at_call 30; (with_reducible refine (twin_left HT7.out).1.mono ?_); rintro e w8 ⟨rfl, hb8⟩; have HT8 := Lib.hid (HT7.out.later hb8); clear hb8 HT7))
              go_roundw
              case rel => exact ⟨k + 1, g2, t, rfl, rfl, rfl, by go_num, by omega, by omega, Lib.hid (HT8.out.1.next (by omega))⟩
              case measure => simp; omega
    · obtain rfl : k = n := by omega
      clear HEV
      have HAX := Lib.hid (HA.out)
      have HBRK := Lib.hid (last_broken HAX.out)
      have HHS := Lib.hid (last_has HAX.out)
      have HBL := Lib.hid (HB1.out.trans (HAX.out.bel.mono HB1.out.size))
      clear HAX
      go_wp2_with (first
        | (go_at_call 27; (with_reducible refine HBRK.out.mono ?_); rintro e w' ⟨rfl, rfl⟩)
        | (go_at_call 29; (with_reducible refine HHS.out.mono ?_); rintro e w9 ⟨rfl, hb9⟩; have HB9 := Lib.hid hb9; clear hb9))
      go_ret
      exact ⟨rfl, HBL.out.trans (HB9.out.mono HBL.out.size)⟩

theorem lifted (os : Os) (started : os.Started) (H : Type) (enc : TypeId × Value → H) :
    ReturnsInHanded {} Tryz.checked os 5 .any (Rows.walLastsSpec.pre6 enc Tryz.prog Tryz.f5 Rows.walLastsRow.domain false) (Rows.walLastsSpec.post enc Tryz.prog Tryz.f5 false true false false) := by
  refine returnsInHanded_of_change (C := Tryz.checked) Tryz.own started (by kernel_rfl) Tryz.func5
    (ChangeSpec.witness6 (enc := enc) (C := Tryz.checked) false ⟨#[], #[.slice none 0 0], []⟩ 8 (by kernel_rfl) (by kernel_rfl) (by kernel_rfl) (by kernel_rfl)) ?_
  intro W base args ds gs before hval0 hW hcnd _
  have hval : ∀ (j : Nat) t v, Tryz.f5.params[j]? = some t → args[j]? = some v → Value.okWide Tryz.prog W .any base t v := hval0
  have hW' := hW
  obtain ⟨p, q, hA0, hV, rfl, hfz, hnd⟩ := hW
  have hA : DataW.TrodAll enc Tryz.prog W 0 (fun _ => true) true Tryz.f5.params.toList args.toList ds p := hA0
  rw [Tryz.params5] at hA hval
  have hA' := hA
  obtain ⟨v0, vs0, d0, ds0, p0, q0, hargs, rfl, rfl, h0, r0⟩ := trodAll_cons hA
  obtain ⟨rfl, rfl, rfl⟩ := trodAll_nil r0
  obtain rfl : args = #[v0] := by cases args; simp_all
  obtain ⟨rfl, rfl⟩ := trodVars_none hV
  obtain ⟨A0, len0, c0, rfl⟩ := okWide_slice Tryz.underlying22 (hval 0 22 v0 rfl rfl)
  obtain ⟨z0, rfl, sl0, ll0⟩ := open_evs h0
  clear hA0 hval0
  refine (walk A0 c0 z0 sl0 ll0).mono fun e W' ⟨he, bel⟩ => ?_
  subst he
  exact ⟨_, rfl, _, _, _, [], _, [], hW', trodAll_mk1 (shut_bool Tryz.underlying4 _), trodAll_below bel _ _ _ _ (by kernel_rfl) hA', rfl, bel.frame _, fun h => by cases h⟩

theorem proved : Rows.WalLastsSaid :=
  OpenClaim.holds_of_wide 5 Tryz.f5 rfl rfl rfl rfl rfl rfl rfl ⟨rfl, rfl, rfl, rfl, rfl⟩ rfl rfl rfl rfl rfl (by kernel_rfl) Tryz.func5 (by kernel_rfl)
    (of_decide_eq_true (by kernel_rfl)) (by unfold Func.isWrapper; first | (rw [if_pos (by decide +kernel)]; kernel_rfl) | (rw [if_neg (by decide +kernel)]; exact ⟨rfl, rfl⟩))
    (fun os started H enc _ => lifted os started H enc)
#print axioms proved
end Go.Proofs.YtienabfilnpieaaGreat.walLasts
