/-
  DiskDies: so many operations are done, and not one more: for every room, row of operations, and number.
-/
import Derived.Test.YtlkcfdbhiifeaaaLawRun
namespace Go.Proofs.Ytlkcfdbhiifeaaa.diskDies
open Go.ChangeShapes Go.WideShapes Go.ChangeAt Go.RowKit
set_option linter.unusedVariables false
set_option maxRecDepth 100000

theorem ops_below {w w' : World} {A : Option Addr} {os : List AO} (h : OpsAt w A os) (hb : Below w.heap.size w w') : OpsAt w' A os := by
  intro hp
  obtain ⟨b, off, rfl, hi⟩ := h hp
  refine ⟨b, off, rfl, fun i hi' => ?_⟩
  obtain ⟨B, cb, K, kc, h0, h1, h2, h3, h4, hw, ho⟩ := hi i hi'
  have t : ∀ {x : Nat} {v : Value}, w.cell? ⟨b, x, none⟩ = some v → w'.cell? ⟨b, x, none⟩ = some v := fun {x v} hx => (hb.cell (p := ⟨b, x, none⟩) (cell_lt hx)).trans hx
  have ho' := ho.below hb
  exact ⟨B, cb, K, kc, t h0, t h1, t h2, t h3, t h4, hw, ⟨ho'.rd.wide hb.size, ho'.rk.wide hb.size, ho'.c1, ho'.c2, ho'.k1, ho'.k2, Nat.le_refl _⟩⟩

/-- How far an armed disk is. -/
structure Dy (b n : Int) (M : AD) : Prop where
  fail : M.failing = -1
  lo : b ≤ M.ops
  live : M.dead = false → M.armed = n - (M.ops - b) ∧ M.ops ≤ b + n
  gone : M.dead = true → M.ops = b + n + 1
theorem dy_run {b n : Int} {M : AD} (h : Dy b n M) (q : AO) (h9 : q.op < 9) : Dy b n (M.runM q) ∧ (M.dead = true → M.runC q = 9) ∧ (M.dead = false → (M.runM q).dead = true → M.runC q = 9) := by
  obtain ⟨h1, h2⟩ := head_run M q h9
  rcases hd : M.dead with _ | _
  · obtain ⟨ha, ho⟩ := h.live hd
    rcases h2 with ⟨a, b', c, d, e⟩ | ⟨⟨a, b', c, d, e⟩, hc⟩
    · have hnd : (M.runM q).dead = false := d.trans hd
      refine ⟨⟨b'.trans h.fail, (by rw [c]; exact h.lo), (fun _ => (by rw [a, c]; exact ⟨ha, ho⟩)), (fun hx => absurd hx (by simp [hnd]))⟩, (fun hx => absurd hx (by simp)), (fun _ hx => absurd hx (by simp [hnd]))⟩
    · have hlo := h.lo
      by_cases h0 : M.armed = 0
      · have hm : M.met = { M with ops := M.ops + 1, dead := true } := by unfold AD.met; rw [if_pos h0]
        have he : M.err = 9 := by simp [AD.err, h0]
        rw [hm] at a b' c d e
        simp only at a b' c d
        refine ⟨⟨b'.trans h.fail, (by rw [c]; omega), (fun hx => absurd hx (by simp [d])), (fun _ => (by rw [c]; omega))⟩, (fun hx => absurd hx (by simp)), (fun _ _ => (by rw [hc, he]))⟩
      · have hm : M.met = { M with ops := M.ops + 1, armed := stepC M.armed, failing := stepC M.failing } := by unfold AD.met; rw [if_neg h0]
        rw [hm] at a b' c d e
        simp only at a b' c d
        have hnd : (M.runM q).dead = false := d.trans hd
        have hs : stepC M.armed = M.armed - 1 := by unfold stepC; rw [if_neg (by omega)]
        refine ⟨⟨(by rw [b', h.fail]; rfl), (by rw [c]; omega), (fun _ => (by rw [a, c, hs]; omega)), (fun hx => absurd hx (by simp [hnd]))⟩, (fun hx => absurd hx (by simp)), (fun _ hx => absurd hx (by simp [hnd]))⟩
  · obtain ⟨e1, e2⟩ := h1 hd
    rw [e1]
    exact ⟨h, (fun _ => e2), (fun hx => absurd hx (by simp))⟩

def Mid (w1 : World) (d : Nat) (b n : Int) (wr : World) : Prop := ∃ M, Live w1 wr d M ∧ Dy b n M

theorem six (a : Int) : 0 ≤ (IntKind.u64.wrap a).tmod 6 ∧ (IntKind.u64.wrap a).tmod 6 < 6 := by
  have h : IntKind.u64.wrap a = a % 18446744073709551616 := by simp [IntKind.wrap, IntKind.bits, IntKind.signed]
  rw [h]
  have h0 : 0 ≤ a % 18446744073709551616 := Int.emod_nonneg _ (by omega)
  rw [Int.tmod_eq_emod_of_nonneg h0]
  omega

set_option maxHeartbeats 8000000 in
theorem walk {w : World} (r : Int) (hr : I64 r) (A : Option Addr) (c : Nat) (os : List AO) (ho : OpsAt w A os) (hc : os.length ≤ c) (hcm : c ≤ 9223372036854775807) (a : Int) (ha : I64 a) :
    Calls Try.prog 8 #[.int .i64 r, .slice A os.length c, .int .i64 a] w fun e w' => e = .returned (.bool true) ∧ Below w.heap.size w w' := by
  have HRL := Lib.hid (fun (W : World) (hb : Below w.heap.size w W) => run_law r hr A c os (ops_below ho hb) hc hcm)
  have HO := Lib.hid ho
  obtain ⟨n, hn⟩ : ∃ n, n = os.length := ⟨_, rfl⟩
  have HN := Lib.hid hn
  rw [← hn] at hc HRL ⊢
  obtain ⟨m1, m2⟩ := six a
  obtain ⟨nn, hnn⟩ : ∃ nn, (IntKind.u64.wrap a).tmod 6 = nn := ⟨_, rfl⟩
  rw [hnn] at m1 m2
  have hnw : IntKind.i64.wrap nn = nn := wrap_in (by omega)
  clear ho hn
  go_enter Try.func8, Try.ntmps8
  go_wp2_with (first
    | (go_at_call 9; refine (wakes_any _).mono ?_; rintro e w1 ⟨rfl, hb1⟩; have HB1 := Lib.hid hb1; clear hb1)
    | (go_at_call 25; refine (HRL.out w1 HB1.out).mono ?_; rintro e w2 ⟨d, M, rfl, ⟨S, hL⟩, hcalm⟩; have hco := hcalm.ops; have hcd : 0 ≤ M.ops := hL.at_.ok.ops0; have k4 : w2.cell? ⟨d, 4, none⟩ = some (.int .i64 M.ops) := (by obtain ⟨mb, f, A', c', hdd⟩ := hL.at_; exact hdd.c4); have HL := Lib.hid hL; have HC := Lib.hid hcalm; obtain ⟨bo, hbo⟩ : ∃ bo, bo = M.ops := ⟨_, rfl⟩; rw [← hbo] at hco hcd k4; have HBO := Lib.hid hbo; clear hL hcalm hbo)
    | (go_at_call 23; refine (ops_any _ d bo k4).mono ?_; rintro e w3 ⟨rfl, rfl⟩)
    | (go_at_call 35; have hset : M.setC nn = 0 := (by simp [AD.setC, HC.out.dead]; omega); refine (arm_any HL.out.at_ (n := nn) (WalkArith.wf_i64 (by omega))).mono ?_; rw [hset]; rintro e w3 ⟨rfl, hd3, hg3⟩; have harm : M.armM nn = { M with armed := nn } := (by simp [AD.armM, hset]); rw [harm] at hd3; have MID := Lib.hid (show Mid w1 d bo nn w3 from ⟨_, ⟨S, HL.out.turn (Turn.of_grown hg3 (fun i hi => by cases hi; exact .inl HL.out.at_.inS)) hd3⟩, ⟨HC.out.failing, by rw [HBO.out]; exact Int.le_refl _, fun _ => ⟨by rw [HBO.out]; simp, by rw [HBO.out]; simp; omega⟩, fun hx => absurd hx (by simp [HC.out.dead])⟩⟩); clear hset harm hd3 hg3 k4))
  have hbn : bo + nn + 1 ≤ 100 := by omega
  go_loopw [38] (fun i wr => ∃ k : Nat, i = .int .i64 k ∧ k ≤ n ∧ k ≤ 40 ∧ Hid (Mid w1 d bo nn wr)) (fun i _ => n - (match i with | .int _ k => k.toNat | _ => 0))
  case atStart => exact ⟨0, rfl, Nat.zero_le _, Nat.zero_le _, MID⟩
  case round =>
    obtain ⟨k, rfl, hk, hk40, H⟩ := hrel
    obtain ⟨M', ⟨S', hL'⟩, hdy⟩ := H.out
    by_cases hkn : k < n
    · have hkk : (k : Int) < n := by omega
      have k0 : (0 : Int) ≤ (k : Int) := by omega
      obtain ⟨b, off, o, B, cb, K, kc, hA, hcs, hw, hop⟩ := ops_at HO.out (HB1.out.trans (hL'.bel.mono HB1.out.size)) (k := k) (by rw [← HN.out]; exact hkn)
      subst hA
      obtain ⟨y0, y1, y2, y3, y4⟩ := hcs
      have hrg := op_range o
      have hopdef : o.op = (IntKind.u64.wrap o.kind).tmod 12 := rfl
      have hbx : Below wr.heap.size wr (wr.alloc (.cells #[.int .i64 o.kind, .int .i64 o.file, .int .i64 o.n, .slice B o.bs.length cb, .slice K o.keep.length kc] 37)) := (Below.refl _ wr).alloc (Nat.le_refl _) _
      have hLx := hL'.later hbx
      have hMo : M'.ops < 4611686018427387904 := by
        rcases hd : M'.dead with _ | _
        · have := (hdy.live hd).2; omega
        · have := hdy.gone hd; omega
      have HE := Lib.hid (run_any o hw B cb K kc (hop.below (hbx.mono (by have := HB1.out.size; have := hL'.bel.size; omega))) hLx.at_ hMo)
      have k5 : (wr.alloc (.cells #[.int .i64 o.kind, .int .i64 o.file, .int .i64 o.n, .slice B o.bs.length cb, .slice K o.keep.length kc] 37)).cell? ⟨d, 5, none⟩ = some (.bool M'.dead) := by obtain ⟨mb, f, A', c', hdd⟩ := hLx.at_; exact hdd.c5
      have HL2 := Lib.hid hL'
      have HLX := Lib.hid hLx
      have HDY := Lib.hid hdy
      have hfin : ∀ (w5 : World), After S' d wr (M'.crash []) w5 → Below w.heap.size w w5 := fun w5 haf => HB1.out.trans ((live_bel hL' haf.2).mono HB1.out.size)
      have FINB := Lib.hid hfin
      dsimp only [opV] at HE
      obtain ⟨bn, hbn'⟩ : ∃ bn, bn = o.bs.length := ⟨_, rfl⟩
      obtain ⟨kn, hkn'⟩ : ∃ kn, kn = o.keep.length := ⟨_, rfl⟩
      rw [← hbn'] at HE y3 HLX k5
      rw [← hkn'] at HE y4 HLX k5
      clear hL' hLx hdy hbx hop hw hbn' hkn' hMo hfin
      by_cases hk1 : k = 40
      · subst hk1
        have HCR := Lib.hid (crash_any HLX.out.at_ none 0 [] (fun hp => absurd hp (by simp)) (by simp) (by simp))
        dsimp only [List.length_nil] at HCR
        go_wp2_with (first
          | (go_at_call 27; refine HCR.out.mono ?_; rintro e w5 ⟨rfl, haf⟩; have kd : w5.cell? ⟨d, 5, none⟩ = some (.bool false) := (by obtain ⟨mb, f, A', c', hdd⟩ := haf.1; exact hdd.c5); have HAF := Lib.hid haf; clear haf)
          | (go_at_call 24; refine (dead_any _ d false kd).mono ?_; rintro e w6 ⟨rfl, rfl⟩))
        go_ret
        exact ⟨rfl, HB1.out.trans ((live_bel HLX.out HAF.out.2).mono HB1.out.size)⟩
      · have hk2 : ((k : Int) == 40) = false := by simp; omega
        have hk3 : k ≠ 40 := hk1
        by_cases h9 : o.op < 9
        · have h9' := h9
          rw [hopdef] at h9'
          have h9d : decide (9 ≤ (IntKind.u64.wrap o.kind).tmod 12) = false := by simp; omega
          clear hopdef hrg
          obtain ⟨hdy2, hc1, hc2⟩ := dy_run HDY.out o.few h9
          have HDY2 := Lib.hid hdy2
          obtain ⟨cc, hcc⟩ : ∃ cc, cc = M'.runC o.few := ⟨_, rfl⟩
          obtain ⟨M2, hM2⟩ : ∃ M2, M2 = M'.runM o.few := ⟨_, rfl⟩
          rw [← hcc, ← hM2] at hc2
          rw [← hcc] at hc1
          rw [← hM2] at HDY2
          have HCC := Lib.hid hcc
          have HM2 := Lib.hid hM2
          obtain ⟨o2, ho2⟩ : ∃ o2, o2 = M2.ops := ⟨_, rfl⟩
          have HO2 := Lib.hid ho2
          have tok : True := trivial
          rcases hD : M'.dead with _ | _
          · rw [hD] at k5
            rcases hD2 : M2.dead with _ | _
            · have hle := (HDY2.out.live hD2).2
              rw [← HO2.out] at hle
              have e1 : (o2 == bo + nn + 1) = false := by simp; omega
              have e2 : decide (bo + nn + 1 < o2) = false := by simp; omega
              clear hc1 hc2 ho2 hM2 hcc hdy2
              go_wp2_with (first
                | (go_at_call 24; have _t := tok; clear tok; refine (dead_any _ d false k5).mono ?_; rintro e w6 ⟨rfl, rfl⟩)
                | (go_at_call 12; refine HE.out.mono ?_; rintro e w2' ⟨v, S2, rfl, hown, hd2, ht2, hs2⟩; obtain ⟨vn, hvn⟩ : ∃ vn, vn = (M'.runB o.few).length := ⟨_, rfl⟩; rw [← hvn] at hown; obtain ⟨A5, c5, rfl, _, _⟩ := own_form hown; rw [← HCC.out]; rw [← HM2.out] at hd2; have q5 : w2'.cell? ⟨d, 5, none⟩ = some (.bool M2.dead) := (by obtain ⟨mb, f, A', c', hdd⟩ := hd2; exact hdd.c5); have q4 : w2'.cell? ⟨d, 4, none⟩ = some (.int .i64 o2) := (by rw [HO2.out]; obtain ⟨mb, f, A', c', hdd⟩ := hd2; exact hdd.c4); rw [hD2] at q5; have LL := Lib.hid (show Live w1 w2' d M2 from ⟨S2, live_ran HLX.out hd2 ht2 hs2⟩); clear hown hd2 ht2 hs2 hvn)
                | (go_at_call 24; refine (dead_any _ d false q5).mono ?_; rintro e w6 ⟨rfl, rfl⟩)
                | (go_at_call 23; refine (ops_any _ d _ q4).mono ?_; rintro e w6 ⟨rfl, rfl⟩))
              go_roundw
              case rel => exact ⟨k + 1, by simp, by omega, by omega, Lib.hid ⟨M2, LL.out, HDY2.out⟩⟩
              case measure => simp; omega
            · have hoe := HDY2.out.gone hD2
              rw [← HO2.out] at hoe
              have hc9 := hc2 hD hD2
              clear hc1 hc2 ho2 hM2 hcc hdy2
              subst hc9
              have HO2' := HO2
              rw [hoe] at HO2
              go_wp2_with (first
                | (go_at_call 24; have _t := tok; clear tok; refine (dead_any _ d false k5).mono ?_; rintro e w6 ⟨rfl, rfl⟩)
                | (go_at_call 12; refine HE.out.mono ?_; rintro e w2' ⟨v, S2, rfl, hown, hd2, ht2, hs2⟩; obtain ⟨vn, hvn⟩ : ∃ vn, vn = (M'.runB o.few).length := ⟨_, rfl⟩; rw [← hvn] at hown; obtain ⟨A5, c5, rfl, _, _⟩ := own_form hown; rw [← HCC.out]; rw [← HM2.out] at hd2; have q5 : w2'.cell? ⟨d, 5, none⟩ = some (.bool M2.dead) := (by obtain ⟨mb, f, A', c', hdd⟩ := hd2; exact hdd.c5); have q4 : w2'.cell? ⟨d, 4, none⟩ = some (.int .i64 (bo + nn + 1)) := (by rw [HO2.out]; obtain ⟨mb, f, A', c', hdd⟩ := hd2; exact hdd.c4); rw [hD2] at q5; have LL := Lib.hid (show Live w1 w2' d M2 from ⟨S2, live_ran HLX.out hd2 ht2 hs2⟩); clear hown hd2 ht2 hs2 hvn)
                | (go_at_call 24; refine (dead_any _ d true q5).mono ?_; rintro e w6 ⟨rfl, rfl⟩)
                | (go_at_call 23; refine (ops_any _ d _ q4).mono ?_; rintro e w6 ⟨rfl, rfl⟩))
              go_roundw
              case rel => exact ⟨k + 1, by simp, by omega, by omega, Lib.hid ⟨M2, LL.out, HDY2.out⟩⟩
              case measure => simp; omega
          · rw [hD] at k5
            have hc9 := hc1 hD
            have hM2d : M2 = M' := by rw [HM2.out]; exact ((head_run M' o.few h9).1 hD).1
            have hD2 : M2.dead = true := by rw [hM2d]; exact hD
            have hoe := HDY2.out.gone hD2
            rw [← HO2.out] at hoe
            clear hc1 hc2 ho2 hM2 hcc hdy2 hM2d
            subst hc9
            rw [hoe] at HO2
            go_wp2_with (first
              | (go_at_call 24; have _t := tok; clear tok; refine (dead_any _ d true k5).mono ?_; rintro e w6 ⟨rfl, rfl⟩)
              | (go_at_call 12; refine HE.out.mono ?_; rintro e w2' ⟨v, S2, rfl, hown, hd2, ht2, hs2⟩; obtain ⟨vn, hvn⟩ : ∃ vn, vn = (M'.runB o.few).length := ⟨_, rfl⟩; rw [← hvn] at hown; obtain ⟨A5, c5, rfl, _, _⟩ := own_form hown; rw [← HCC.out]; rw [← HM2.out] at hd2; have q5 : w2'.cell? ⟨d, 5, none⟩ = some (.bool M2.dead) := (by obtain ⟨mb, f, A', c', hdd⟩ := hd2; exact hdd.c5); have q4 : w2'.cell? ⟨d, 4, none⟩ = some (.int .i64 (bo + nn + 1)) := (by rw [HO2.out]; obtain ⟨mb, f, A', c', hdd⟩ := hd2; exact hdd.c4); rw [hD2] at q5; have LL := Lib.hid (show Live w1 w2' d M2 from ⟨S2, live_ran HLX.out hd2 ht2 hs2⟩); clear hown hd2 ht2 hs2 hvn)
              | (go_at_call 24; refine (dead_any _ d true q5).mono ?_; rintro e w6 ⟨rfl, rfl⟩)
              | (go_at_call 23; refine (ops_any _ d _ q4).mono ?_; rintro e w6 ⟨rfl, rfl⟩))
            go_roundw
            case rel => exact ⟨k + 1, by simp, by omega, by omega, Lib.hid ⟨M2, LL.out, HDY2.out⟩⟩
            case measure => simp; omega
        · have h9' : 9 ≤ o.op := by omega
          rw [hopdef] at h9'
          clear hopdef hrg h9
          go_wp2
          go_roundw
          case rel => exact ⟨k + 1, by simp, by omega, by omega, Lib.hid ⟨M', ⟨S', HLX.out⟩, HDY.out⟩⟩
          case measure => simp; omega
    · obtain rfl : k = n := by omega
      have HL2 := Lib.hid hL'
      clear hL' hdy
      have HCR := Lib.hid (crash_any HL2.out.at_ none 0 [] (fun hp => absurd hp (by simp)) (by simp) (by simp))
      dsimp only [List.length_nil] at HCR
      go_wp2_with (first
        | (go_at_call 27; refine HCR.out.mono ?_; rintro e w5 ⟨rfl, haf⟩; have kd : w5.cell? ⟨d, 5, none⟩ = some (.bool false) := (by obtain ⟨mb, f, A', c', hdd⟩ := haf.1; exact hdd.c5); have HAF := Lib.hid haf; clear haf)
        | (go_at_call 24; refine (dead_any _ d false kd).mono ?_; rintro e w6 ⟨rfl, rfl⟩))
      go_ret
      exact ⟨rfl, HB1.out.trans ((live_bel HL2.out HAF.out.2).mono HB1.out.size)⟩

set_option maxRecDepth 100000 in
theorem lifted (os : Os) (started : os.Started) (H : Type) (enc : TypeId × Value → H) :
    ReturnsInHanded {} Try.checked os 8 .any (Rows.diskDiesSpec.pre6 enc Try.prog Try.f8 Rows.diskDiesRow.domain false) (Rows.diskDiesSpec.post enc Try.prog Try.f8 false true false false) := by
  refine returnsInHanded_of_change (C := Try.checked) Try.own started (by kernel_rfl) Try.func8
    (ChangeSpec.witness6 (enc := enc) (C := Try.checked) false ⟨#[], #[.int .i64 0, .slice none 0 0, .int .i64 0], []⟩ 8 (by kernel_rfl) (by kernel_rfl) (by kernel_rfl) (by kernel_rfl)) ?_
  intro W base args ds gs before hval0 hW hcnd _
  have hval : ∀ (j : Nat) t v, Try.f8.params[j]? = some t → args[j]? = some v → Value.okWide Try.prog W .any base t v := hval0
  have hW' := hW
  obtain ⟨p, q, hA0, hV, rfl, hfz, hnd⟩ := hW
  have hA : DataW.TrodAll enc Try.prog W 0 (fun _ => true) true Try.f8.params.toList args.toList ds p := hA0
  rw [Try.params8] at hA hval
  have hA' := hA
  obtain ⟨v0, vs0, d0, ds0, p0, q0, hargs, rfl, rfl, h0, r0⟩ := trodAll_cons hA
  obtain ⟨v1, vs1, d1, ds1, p1, q1, rfl, rfl, rfl, h1, r1⟩ := trodAll_cons r0
  obtain ⟨v2, vs2, d2, ds2, p2, q2, rfl, rfl, rfl, h2, r2⟩ := trodAll_cons r1
  obtain ⟨rfl, rfl, rfl⟩ := trodAll_nil r2
  obtain rfl : args = #[v0, v1, v2] := by cases args; simp_all
  obtain ⟨rfl, rfl⟩ := trodVars_none hV
  obtain ⟨a0, rfl, rfl, rfl, w0⟩ := open_int Try.underlying3 (hval 0 3 v0 rfl rfl) h0
  obtain ⟨A1, len1, c1, rfl⟩ := okWide_slice Try.underlying22 (hval 1 22 v1 rfl rfl)
  obtain ⟨z1, rfl, sl1, le1, mx1⟩ := open_ops h1
  obtain ⟨a2, rfl, rfl, rfl, w2⟩ := open_int Try.underlying3 (hval 2 3 v2 rfl rfl) h2
  clear hA0 hval0
  refine (walk a0 w0 A1 c1 z1 sl1 le1 mx1 a2 w2).mono fun e W' ⟨he, bel⟩ => ?_
  subst he
  exact ⟨_, rfl, _, _, _, [], _, [], hW', trodAll_mk1 (shut_bool Try.underlying4 _), trodAll_below bel _ _ _ _ (by kernel_rfl) hA', rfl, bel.frame _, fun h => by cases h⟩

theorem proved : Rows.DiskDiesSaid :=
  OpenClaim.holds_of_wide 8 Try.f8 rfl rfl rfl rfl rfl rfl rfl ⟨rfl, rfl, rfl, rfl, rfl⟩ rfl rfl rfl rfl rfl (by kernel_rfl) Try.func8 (by kernel_rfl)
    (of_decide_eq_true (by kernel_rfl)) (by unfold Func.isWrapper; first | (rw [if_pos (by decide +kernel)]; kernel_rfl) | (rw [if_neg (by decide +kernel)]; exact ⟨rfl, rfl⟩))
    (fun os started H enc _ => lifted os started H enc)
#print axioms proved
end Go.Proofs.Ytlkcfdbhiifeaaa.diskDies
