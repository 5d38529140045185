/-
  Proved: the law WalAlone, another file stays as it is, whatever is done to the log, returns true for every row of events and all bytes, and leaves all memory as it was. No condition.
-/
import Derived.Test.YtienabfilnpieaaWalAlone
namespace Go.Proofs.Ytienabfilnpieaa.walAlone
open Go.ChangeShapes Go.WideShapes Go.ChangeAt Go.RowKit Go.Deep
set_option linter.unusedVariables false
set_option linter.unusedSimpArgs false
set_option maxRecDepth 100000

theorem RdB.take {w : World} {B : Nat} {A : Option Addr} {bs : List Bool} (h : RdB w B A bs) (n : Nat) : RdB w B A (bs.take n) := by
  intro hp
  rw [List.length_take] at hp
  obtain ⟨b, o, e, hl, hc⟩ := h (by omega)
  refine ⟨b, o, e, hl, fun j hj => ?_⟩
  rw [List.length_take] at hj
  rw [hc j (by omega)]
  simp only [List.getD, List.getElem?_take]
  rw [if_pos (by omega)]

set_option maxHeartbeats 8000000 in
theorem walk {w : World} (EA : Option Addr) (ec : Nat) (es : List AE) (he : EvsAt w EA es) (hem : es.length ≤ 9223372036854775807) (ZA : Option Addr) (zc : Nat) (z : List Int) (hz : Sl w ZA zc z) (hoz : Oct z) :
    Calls Try.prog 5 #[.slice EA es.length ec, .slice ZA z.length zc] w fun e w' => e = .returned (.bool true) ∧ Below w.heap.size w w' := by
  have HEV := Lib.hid he
  obtain ⟨n, hn⟩ : ∃ n, n = es.length := ⟨_, rfl⟩
  have HN := Lib.hid hn
  rw [← hn] at hem ⊢
  have HSZ0 := Lib.hid (fun (W : World) (hW : Below w.heap.size w W) => some_any ZA zc z W (hz.below hW))
  obtain ⟨zl, hzl⟩ : ∃ zl, zl = z.length := ⟨_, rfl⟩
  obtain ⟨m, hm⟩ : ∃ m, m = min zl 60 := ⟨_, rfl⟩
  obtain ⟨own, hown⟩ : ∃ own, own = z.take m := ⟨_, rfl⟩
  have hol : own.length = m := by rw [hown, List.length_take]; omega
  have HOL := Lib.hid hol
  have HOO := Lib.hid (show Oct own by rw [hown]; exact hoz.takeN m)
  have HTT := Lib.hid (show (z.take 300).take m = own by rw [hown, List.take_take]; congr 1; omega)
  have HLZ := Lib.hid (show m ≤ (z.take 300).length by rw [List.length_take]; omega)
  rw [← hzl] at HSZ0 ⊢
  have hmin : min (zl : Int) 60 = (m : Int) := by omega
  have hmin2 : min 60 (zl : Int) = (m : Int) := by omega
  have m0 : (0 : Int) ≤ (m : Int) := by omega
  have m60 : m ≤ 60 := by omega
  obtain ⟨zz, hzz⟩ : ∃ zz, zz = z.take 300 := ⟨_, rfl⟩
  rw [← hzz] at HSZ0 HTT HLZ
  clear he hn hz hoz hzl hm hown hol hzz
  go_enter Try.func5, Try.ntmps5
  go_wp2_with fail
  refine (wakes_any w).mono ?_
  rintro e w1 ⟨rfl, hb1⟩
  have HB1 := Lib.hid hb1
  clear hb1
  go_wp2_with fail
  refine (fresh_any w1).mono ?_
  rintro e w2 ⟨g, d, S, T, rfl, hp⟩
  have HP := Lib.hid hp
  have HB2 := Lib.hid (HB1.out.trans (hp.bel.mono HB1.out.size))
  clear hp
  go_wp2_with fail
  refine (HSZ0.out w2 HB2.out).mono ?_
  rintro e w3 ⟨A1, c1, rfl, hn3, hb3⟩
  have hnl : ∀ q, blk A1 = some q → w2.heap.size ≤ q ∧ q < w3.heap.size := fun q hq => hn3.lt q (by cases A1 <;> simp_all [Value.ownBlock, blk])
  have hs3 : Sl w3 A1 c1 own := by rw [← HTT.out]; exact sl_take hn3.sl m
  have mc : (m : Int) ≤ (c1 : Int) := by have := hn3.sl.room; have := HLZ.out; omega
  have HAPP := Lib.hid (lay3_append HP.out hb3 A1 m c1 own HOL.out m60 hs3)
  have HSY := Lib.hid (fun W2 => lay3_sync (W2 := W2) HP.out hb3 (by rw [HOL.out]; exact m60) HOO.out hs3 hnl)
  clear hn3 hb3 hnl hs3
  go_wp2_with (first
    | (go_at_call 22; refine HAPP.out.mono ?_; rintro e w4 ⟨rfl, ha4⟩; have HS4 := Lib.hid (HSY.out w4 ha4); clear ha4)
    | (go_at_call 23; refine HS4.out.mono ?_; rintro e w5 ⟨rfl, ha5⟩; have HA5 := Lib.hid ha5; clear ha5))
  clear HSZ0 HAPP HSY HS4 HP HB2 HTT HLZ HOO
  go_loopw [5, 42] (fun lg i wr => ∃ (k g : Nat), lg = .pointer (some ⟨g, 0, none⟩) ∧ i = .int .i64 k ∧ k ≤ n ∧ k ≤ 30 ∧ Hid (AloneI w1 wr d g (3 * k) A1 c1 own)) (fun _ i _ => n - (match i with | .int _ k => k.toNat | _ => 0))
  case atStart => exact ⟨0, g, rfl, rfl, Nat.zero_le _, Nat.zero_le _, HA5⟩
  case round =>
    clear HA5
    obtain ⟨k, g, rfl, rfl, hk, hk30, HA⟩ := hrel
    by_cases hkn : k < n
    · have hkk : (k : Int) < n := by omega
      have k0 : (0 : Int) ≤ (k : Int) := by omega
      obtain ⟨o, ho⟩ : ∃ o, es[k]? = some o := ⟨es[k]'(by rw [← HN.out]; exact hkn), List.getElem?_eq_getElem _⟩
      obtain ⟨b, off, B, cb, K, kc, rfl, hblt, y0, y1, y2, y3, hev⟩ := (HEV.out.later (HB1.out.trans (HA.out.bel.mono HB1.out.size))) k o ho
      obtain ⟨Wx, hWx⟩ : ∃ Wx, Wx = wr.alloc (.cells #[.int .i64 o.kind, .int .i64 o.n, .slice B o.bs.length cb, .slice K o.keep.length kc] 51) := ⟨_, rfl⟩
      have HWX := Lib.hid hWx
      have hbx : Below wr.heap.size wr Wx := by rw [hWx]; exact (Below.refl _ wr).alloc (Nat.le_refl _) _
      have HAX := Lib.hid (HA.out.later hbx)
      have HSM := Lib.hid (some_any B cb o.bs Wx (hev.sl.below hbx))
      have HCR := Lib.hid (fun (q : Nat) (hq : q ≤ o.keep.length) => alone_crash HAX.out K q kc (o.keep.take q) (by rw [List.length_take]; omega) (RdB.take (hev.later hbx).rk q) (by have := hev.k1; omega) hev.k2)
      have kk1 := hev.k1
      obtain ⟨bb, hbb⟩ : ∃ bb, bb = o.bs.take 300 := ⟨_, rfl⟩
      have hbl : bb.length ≤ 300 := by rw [hbb, List.length_take]; omega
      have hbo : Oct bb := by rw [hbb]; exact hev.oct.takeN 300
      rw [← hbb] at HSM
      have hx0 := Int.tmod_nonneg 12 (show 0 ≤ IntKind.u64.wrap o.kind by rw [IntKind.wrap_u64]; omega)
      have hx1 := Int.tmod_lt_of_pos (IntKind.u64.wrap o.kind) (b := 12) (by omega)
      obtain ⟨bn, hbn⟩ : ∃ bn, bn = o.bs.length := ⟨_, rfl⟩
      obtain ⟨kn, hkn'⟩ : ∃ kn, kn = o.keep.length := ⟨_, rfl⟩
      obtain ⟨kd, hkd⟩ : ∃ kd, kd = o.kind := ⟨_, rfl⟩
      obtain ⟨on, hon⟩ : ∃ on, on = o.n := ⟨_, rfl⟩
      rw [← hbn] at y2 HWX HSM
      rw [← hkn'] at y3 HWX HCR kk1
      rw [← hkd] at y0 HWX hx0 hx1
      rw [← hon] at y1 HWX
      clear ho hev hbx hbb hbn hkn' hkd hon hWx
      by_cases h30 : k = 30
      · subst h30
        clear HSM HCR hbo hbl hx0 hx1
        clear HEV
        have HRD := Lib.hid (alone_read HAX.out (by omega))
        rw [HOL.out, HWX.out] at HRD
        go_wp2_with fail
        refine HRD.out.mono ?_
        rintro e w5 ⟨A5, c5, rfl, hs5, h5⟩
        have HEQ := Lib.hid (alone_equal h5 hs5)
        rw [HOL.out] at HEQ
        have HSZ := Lib.hid (alone_size h5)
        have HBE := Lib.hid (HB1.out.trans (h5.bel.mono HB1.out.size))
        clear hs5 h5 HRD
        go_wp2_with (first
          | (go_at_call 25; (with_reducible refine HEQ.out.mono ?_); rintro e w' ⟨rfl, rfl⟩)
          | (go_at_call 26; refine HSZ.out.mono ?_; rintro e w' ⟨rfl, rfl⟩))
        go_ret
        exact ⟨rfl, HBE.out⟩
      · have t30 : ((k : Int) == 30) = false := by simp; omega
        by_cases h5 : (IntKind.u64.wrap kd).tmod 12 < 5
        · have d5 : decide ((IntKind.u64.wrap kd).tmod 12 < 5) = true := decide_eq_true h5
          clear h5 hx0 hx1 HCR
          have HAP := Lib.hid (fun (W : World) (hW : Below Wx.heap.size Wx W) (A3 : Option Addr) (c3 : Nat) (hn : New Wx.heap.size W A3 c3 bb) => alone_append HAX.out (by omega) hW hbo hbl hn)
          clear hbo hbl
          rw [HWX.out] at HSM HAP
          go_wp2_with fail
          refine HSM.out.mono ?_
          rintro e wa ⟨A3, c3, rfl, hn3, hb3⟩
          have HN3 := Lib.hid hn3
          have HB3 := Lib.hid hb3
          clear hn3 hb3
          go_wp2_with fail
          refine (HAP.out wa HB3.out A3 c3 HN3.out).mono ?_
          rintro e wd ⟨⟨y, rfl⟩, hnx⟩
          have HNX := Lib.hid (hnx.next (j := 3 * (k + 1)) (by omega))
          clear hnx
          go_wp2
          go_roundw
          case rel => exact ⟨k + 1, g, rfl, by go_num, by omega, by omega, HNX⟩
          case measure => simp; omega
        · have d5 : decide ((IntKind.u64.wrap kd).tmod 12 < 5) = false := decide_eq_false h5
          clear h5
          by_cases h7 : (IntKind.u64.wrap kd).tmod 12 < 7
          · have d7 : decide ((IntKind.u64.wrap kd).tmod 12 < 7) = true := decide_eq_true h7
            clear h7 hx0 hx1 HCR
            have HAP := Lib.hid (fun (W : World) (hW : Below Wx.heap.size Wx W) (A3 : Option Addr) (c3 : Nat) (hn : New Wx.heap.size W A3 c3 bb) => alone_check HAX.out (by omega) hW hbo hbl hn)
            clear hbo hbl
            rw [HWX.out] at HSM HAP
            go_wp2_with fail
            refine HSM.out.mono ?_
            rintro e wa ⟨A3, c3, rfl, hn3, hb3⟩
            have HN3 := Lib.hid hn3
            have HB3 := Lib.hid hb3
            clear hn3 hb3
            go_wp2_with fail
            refine (HAP.out wa HB3.out A3 c3 HN3.out).mono ?_
            rintro e wd ⟨⟨y, rfl⟩, hnx⟩
            have HNX := Lib.hid (hnx.next (j := 3 * (k + 1)) (by omega))
            clear hnx
            go_wp2
            go_roundw
            case rel => exact ⟨k + 1, g, rfl, by go_num, by omega, by omega, HNX⟩
            case measure => simp; omega
          · have d7 : decide ((IntKind.u64.wrap kd).tmod 12 < 7) = false := decide_eq_false h7
            clear h7
            by_cases h9 : (IntKind.u64.wrap kd).tmod 12 = 9
            · have e9 : ((IntKind.u64.wrap kd).tmod 12 == 9) = true := by simp [h9]
              obtain ⟨q, hq⟩ : ∃ q, q = min kn 200 := ⟨_, rfl⟩
              have q1 : min (kn : Int) 200 = (q : Int) := by omega
              have q2 : min 200 (kn : Int) = (q : Int) := by omega
              have q0 : (0 : Int) ≤ (q : Int) := by omega
              have qc : (q : Int) ≤ (kc : Int) := by omega
              have HC9 := Lib.hid (HCR.out q (by omega))
              rw [HWX.out] at HC9
              clear h9 hx0 hx1 HCR hq HSM hbo hbl
              go_wp2_with fail
              refine HC9.out.mono ?_
              rintro e wc ⟨rfl, hac⟩
              have HAC := Lib.hid hac
              clear hac
              have HOP := Lib.hid (alone_open HAC.out (by omega))
              go_wp2_with fail
              refine HOP.out.mono ?_
              rintro e wd ⟨g', rfl, had⟩
              have HAD := Lib.hid (had.next (j := 3 * (k + 1)) (by omega))
              clear had
              go_wp2
              go_roundw
              case rel => exact ⟨k + 1, g', rfl, by go_num, by omega, by omega, HAD⟩
              case measure => simp; omega
            · have e9 : ((IntKind.u64.wrap kd).tmod 12 == 9) = false := by simp [h9]
              have HAD := Lib.hid (HAX.out.next (j := 3 * (k + 1)) (by omega))
              rw [HWX.out] at HAD
              clear h9 hx0 hx1 HCR HSM hbo hbl
              go_wp2
              go_roundw
              case rel => exact ⟨k + 1, g, rfl, by go_num, by omega, by omega, HAD⟩
              case measure => simp; omega
    · obtain rfl : k = n := by omega
      clear HEV
      have HRD := Lib.hid (alone_read HA.out (by omega))
      rw [HOL.out] at HRD
      go_wp2_with fail
      refine HRD.out.mono ?_
      rintro e w5 ⟨A5, c5, rfl, hs5, h5⟩
      have HEQ := Lib.hid (alone_equal h5 hs5)
      rw [HOL.out] at HEQ
      have HSZ := Lib.hid (alone_size h5)
      have HBE := Lib.hid (HB1.out.trans (h5.bel.mono HB1.out.size))
      clear hs5 h5 HRD
      go_wp2_with (first
        | (go_at_call 25; (with_reducible refine HEQ.out.mono ?_); rintro e w' ⟨rfl, rfl⟩)
        | (go_at_call 26; refine HSZ.out.mono ?_; rintro e w' ⟨rfl, rfl⟩))
      go_ret
      exact ⟨rfl, HBE.out⟩

theorem lifted (os : Os) (started : os.Started) (H : Type) (enc : TypeId × Value → H) :
    ReturnsInHanded {} Try.checked os 5 .any (Rows.walAloneSpec.pre6 enc Try.prog Try.f5 Rows.walAloneRow.domain false) (Rows.walAloneSpec.post enc Try.prog Try.f5 false true false false) := by
  refine returnsInHanded_of_change (C := Try.checked) Try.own started (by kernel_rfl) Try.func5
    (ChangeSpec.witness6 (enc := enc) (C := Try.checked) false ⟨#[], #[.slice none 0 0, .slice none 0 0], []⟩ 8 (by kernel_rfl) (by kernel_rfl) (by kernel_rfl) (by kernel_rfl)) ?_
  intro W base args ds gs before hval0 hW hcnd _
  have hval : ∀ (j : Nat) t v, Try.f5.params[j]? = some t → args[j]? = some v → Value.okWide Try.prog W .any base t v := hval0
  have hW' := hW
  obtain ⟨p, q, hA0, hV, rfl, hfz, hnd⟩ := hW
  have hA : DataW.TrodAll enc Try.prog W 0 (fun _ => true) true Try.f5.params.toList args.toList ds p := hA0
  rw [Try.params5] at hA hval
  have hA' := hA
  obtain ⟨v0, vs0, d0, ds0, p0, q0, hargs, rfl, rfl, h0, r0⟩ := trodAll_cons hA
  obtain ⟨v1, vs1, d1, ds1, p1, q1, rfl, rfl, rfl, h1, r1⟩ := trodAll_cons r0
  obtain ⟨rfl, rfl, rfl⟩ := trodAll_nil r1
  obtain rfl : args = #[v0, v1] := by cases args; simp_all
  obtain ⟨rfl, rfl⟩ := trodVars_none hV
  obtain ⟨A0, len0, c0, rfl⟩ := okWide_slice Try.underlying47 (hval 0 47 v0 rfl rfl)
  obtain ⟨z0, rfl, sl0, ll0⟩ := open_evs h0
  obtain ⟨A1, len1, c1, rfl⟩ := okWide_slice Try.underlying22 (hval 1 22 v1 rfl rfl)
  obtain ⟨z1, rfl, sl1, oc1⟩ := open_bytes h1
  clear hA0 hval0
  refine (walk A0 c0 z0 sl0 ll0 A1 c1 z1 sl1 oc1).mono fun e W' ⟨he, bel⟩ => ?_
  subst he
  exact ⟨_, rfl, _, _, _, [], _, [], hW', trodAll_mk1 (shut_bool Try.underlying4 _), trodAll_below bel _ _ _ _ (by kernel_rfl) hA', rfl, bel.frame _, fun h => by cases h⟩

theorem proved : Rows.WalAloneSaid :=
  OpenClaim.holds_of_wide 5 Try.f5 rfl rfl rfl rfl rfl rfl rfl ⟨rfl, rfl, rfl, rfl, rfl⟩ rfl rfl rfl rfl rfl (by kernel_rfl) Try.func5 (by kernel_rfl)
    (of_decide_eq_true (by kernel_rfl)) (by unfold Func.isWrapper; first | (rw [if_pos (by decide +kernel)]; kernel_rfl) | (rw [if_neg (by decide +kernel)]; exact ⟨rfl, rfl⟩))
    (fun os started H enc _ => lifted os started H enc)
#print axioms proved
end Go.Proofs.Ytienabfilnpieaa.walAlone
