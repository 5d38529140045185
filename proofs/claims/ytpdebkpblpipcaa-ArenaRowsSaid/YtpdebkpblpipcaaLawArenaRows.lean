/-
  Proved: the law ArenaRows, packed of the cells by rows has the same cells by rows, in the first slots, returns true for every arena, and leaves all memory as it was. No condition.
-/
import Derived.Test.YtpdebkpblpipcaaLawFrame
import Derived.Test.YtpdebkpblpipcaaAreRowsM
import Derived.Test.YtpdebkpblpipcaaArePack
import Derived.Deep.RegionHeld3
import Derived.BigQuiet
namespace Go.Proofs.Ytpdebkpblpipcaa.arenaRows
open Go.BigFrame Go.ChangeShapes Go.WideShapes Go.ChangeAt Go.RowKit
set_option linter.unusedVariables false
set_option linter.unusedSimpArgs false
set_option maxRecDepth 100000

theorem region_quiet {P : Program} {id : Nat} {Q : Exit → Act → World → Prop} {a : Act} {w : World} {l : List Oper} (C : World → Prop) (hm : P.follows .mixedOrders = true) (hB : Region.lexB .any l.toArray = true) (hC : C { w with drawn := w.drawn + 1 })
    (h : wpQuiet P l.toArray C (fun a' => ∀ w', C w' → Q .normal a' w') l a) : (Code.region id l.toArray true).wp P Q a w :=
  wp_region_quiet (C := C) hm hB hC (by simpa using h)
theorem at_cell {q : List Pa} {k : Nat} {p : Pa} {R : List Ce} (h : q[k]? = some p) (e : ces q = R) : ceAt R k = p.e := by rw [← e]; exact ces_ceAt h

set_option maxHeartbeats 8000000 in
theorem walk {w : World} (A : Option Addr) (c : Nat) (q : List Pa) (H : Are w A c q) :
    Calls Try.prog 6 #[.agg #[.slice A q.length c]] w fun e w' => e = .returned (.bool true) ∧ Below w.heap.size w w' := by
  obtain ⟨W0, hW0⟩ : ∃ W0, W0 = w.alloc (.cells #[.slice A q.length c] 24) := ⟨_, rfl⟩
  have hb0 : Below w.heap.size w W0 := by rw [hW0]; exact (Below.refl _ w).alloc (Nat.le_refl _) _
  have x0 : Boxed W0 w.heap.size 24 (.slice A q.length c) := by rw [hW0]; exact Boxed.new w _ _
  have HW := Lib.hid hW0
  have HB0 := Lib.hid hb0
  have HX := Lib.hid (fun (X : World) (hX : Below W0.heap.size W0 X) => show X.cell? ⟨w.heap.size, 0, none⟩ = some (.slice A q.length c) from Boxed.cell ((hX.block _ x0.lt).trans x0))
  have HWk := Lib.hid (wakes_any W0)
  have HOv := Lib.hid (fun (X : World) (hX : Below W0.heap.size W0 X) => over_any A c q X ((H.below hb0).below hX))
  have HBr := Lib.hid (fun (X : World) (hX : Below W0.heap.size W0 X) => byRows_any A c q X ((H.below hb0).below hX))
  have HFa := Lib.hid (fun (X : World) (hX : Below W0.heap.size W0 X) => free_any A c q X ((H.below hb0).below hX))
  obtain ⟨l, hl⟩ : ∃ l, l = ces q := ⟨_, rfl⟩
  rw [← hl] at HOv HBr HFa
  generalize q.length = n at *
  clear H hW0 hb0 x0 hl
  cases hov : overB l with
  | true =>
    rw [hov] at HOv
    clear hov
    go_enter Try.func6, Try.ntmps6
    go_wp2_with fail
    rw [← HW.out]
    refine HWk.out.mono ?_
    rintro e w1 ⟨rfl, hb1⟩
    have HB1 := Lib.hid hb1
    have c0 := HX.out w1 hb1
    clear hb1
    go_wp2_with fail
    refine (HOv.out w1 HB1.out).mono ?_
    rintro e w2 ⟨rfl, hb2⟩
    have HB2 := Lib.hid (HB0.out.trans ((HB1.out.trans (hb2.mono HB1.out.size)).mono HB0.out.size))
    clear hb2
    go_wp2
    go_ret
    exact ⟨rfl, HB2.out⟩
  | false =>
    rw [hov] at HOv
    clear hov
    cases hr : arB l with
    | false =>
      have hR : rowsA l = [] := by unfold rowsA; rw [hr]; rfl
      rw [chkA_no hr, hR] at HBr
      clear hr hR
      go_enter Try.func6, Try.ntmps6
      go_wp2_with fail
      rw [← HW.out]
      refine HWk.out.mono ?_
      rintro e w1 ⟨rfl, hb1⟩
      have HB1 := Lib.hid hb1
      have c0 := HX.out w1 hb1
      clear hb1
      go_wp2_with fail
      refine (HOv.out w1 HB1.out).mono ?_
      rintro e w2 ⟨rfl, hb2⟩
      have HB2 := Lib.hid (HB1.out.trans (hb2.mono HB1.out.size))
      have d0 := HX.out w2 HB2.out
      clear hb2 c0
      go_wp2_with fail
      refine (HBr.out w2 HB2.out).mono ?_
      rintro e w3 ⟨A3, c3, q3, rfl, hq3, ho3, hb3⟩
      have HB3 := Lib.hid (HB0.out.trans ((HB2.out.trans (hb3.mono HB2.out.size)).mono HB0.out.size))
      have hl3 : q3.length = 0 := by rw [← ces_length, hq3]; rfl
      rw [hl3]
      clear hb3 hq3 ho3 hl3
      go_wp2
      go_ret
      exact ⟨rfl, HB3.out⟩
    | true =>
      obtain ⟨hp1, hp2, hp3⟩ := rows_pack hr
      obtain ⟨_, hm96, hfr⟩ := rowsA_len hr
      have hsm := rows_same hr
      have hpf := pad_freeA hr
      have HSo := Lib.hid (rows_srt hr)
      have hsd := rows_sound hr
      rw [chkA_ok hr] at HBr
      rw [hfr] at HFa hpf
      generalize hR : rowsA l = R at *
      obtain ⟨m, hm⟩ : ∃ m, m = R.length := ⟨_, rfl⟩
      rw [← hm] at hm96 HFa hpf
      have HM := Lib.hid hm
      have HPk := Lib.hid (And.intro hp1 (And.intro hp2 hp3))
      have HSm := Lib.hid hsm
      have HPf := Lib.hid hpf
      have HSd := Lib.hid hsd
      clear hr hp1 hp2 hp3 hfr hsm hpf hsd hm hR
      go_enter Try.func6, Try.ntmps6
      go_wp2_with fail
      rw [← HW.out]
      refine HWk.out.mono ?_
      rintro e w1 ⟨rfl, hb1⟩
      have HB1 := Lib.hid hb1
      have c0 := HX.out w1 hb1
      clear hb1
      go_wp2_with fail
      refine (HOv.out w1 HB1.out).mono ?_
      rintro e w2 ⟨rfl, hb2⟩
      have HB2 := Lib.hid (HB1.out.trans (hb2.mono HB1.out.size))
      have d0 := HX.out w2 HB2.out
      clear hb2 c0
      go_wp2_with fail
      refine (HBr.out w2 HB2.out).mono ?_
      rintro e w3 ⟨A3, c3, q3, rfl, hq3, ho3, hb3⟩
      have HB3 := Lib.hid (HB2.out.trans (hb3.mono HB2.out.size))
      have hl3 : q3.length = m := by rw [← ces_length, hq3, HM.out]
      have HQ3 := Lib.hid hq3
      have HA3 := Lib.hid ho3.are
      have HPa := Lib.hid (show Calls Try.prog 23 #[.slice A3 m c3] w3 (GivesAE w3 (padL R) 0) from by
        have := packed_any A3 c3 q3 w3 ho3.are
        rw [hl3, hq3, HPk.out.1, HPk.out.2.1] at this
        exact this)
      have HL3 := Lib.hid hl3
      rw [hl3]
      clear hb3 hq3 ho3 hl3 d0
      go_wp2_with fail
      refine HPa.out.mono ?_
      rintro e w4 ⟨A4, c4, q4, rfl, hq4, ho4, hb4⟩
      have HB4 := Lib.hid (HB3.out.trans (hb4.mono HB3.out.size))
      have H34 := Lib.hid hb4
      have hl4 : q4.length = 96 := by rw [← ces_length, hq4]; exact arB_len HPk.out.2.2
      rw [hl4]
      obtain ⟨V, hV⟩ : ∃ V, V = w4.alloc (.cells #[.slice A4 96 c4] 24) := ⟨_, rfl⟩
      have hbV : Below w4.heap.size w4 V := by rw [hV]; exact (Below.refl _ w4).alloc (Nat.le_refl _) _
      have hxV : Boxed V w4.heap.size 24 (.slice A4 96 c4) := by rw [hV]; exact Boxed.new w4 _ _
      have HS := Lib.hid (fun (X : World) (hX : Below V.heap.size V X) => show X.cell? ⟨w4.heap.size, 0, none⟩ = some (.slice A4 96 c4) ∧ X.cell? ⟨w.heap.size, 0, none⟩ = some (.slice A n c) from by
        have hX4 : Below w4.heap.size w4 X := hbV.trans (hX.mono hbV.size)
        exact ⟨Boxed.cell ((hX.block _ hxV.lt).trans hxV), HX.out X (HB4.out.trans (hX4.mono HB4.out.size))⟩)
      have HFn := Lib.hid (fun (X : World) (hX : Below w4.heap.size w4 X) => show Calls Try.prog 18 #[.agg #[.slice A4 96 c4]] X (fun e w' => e = .returned (.int .i64 (96 - (m : Int))) ∧ Below X.heap.size X w') from by
        have := free_any _ c4 q4 X (ho4.are.below hX)
        rw [hl4, hq4, HPf.out] at this
        exact this)
      have HBr2 := Lib.hid (fun (X : World) (hX : Below w4.heap.size w4 X) => show Calls Try.prog 12 #[.agg #[.slice A4 96 c4]] X (GivesCE X R 0) from by
        have := byRows_any _ c4 q4 X (ho4.are.below hX)
        rw [hl4, hq4, chkA_ok HPk.out.2.2, HSm.out] at this
        exact this)
      have HA4 := Lib.hid ho4.are
      have HQ4 := Lib.hid hq4
      have HL4 := Lib.hid hl4
      have HBV := Lib.hid hbV
      have HV := Lib.hid hV
      have hw1 : IntKind.i64.wrap (96 - (96 - (m : Int))) = m := by rw [IntKind.wrap_i64, Int.emod_eq_of_lt (by omega) (by omega)]; omega
      have td1 : ((96 - (m : Int)) != 96 - (m : Int)) = false := by simp
      have td2 : ((m : Int) != IntKind.i64.wrap (96 - (96 - (m : Int)))) = false := by rw [hw1]; simp
      obtain ⟨v0, v1⟩ := HS.out V (Below.refl _ _)
      clear hV hbV hxV hb4 ho4 hq4 hl4
      go_wp2_with (rw [← HV.out])
      go_region_held3 (fun X => X.cell? ⟨w4.heap.size, 0, none⟩ = some (.slice A4 96 c4) ∧ X.cell? ⟨w.heap.size, 0, none⟩ = some (.slice A n c))
        (first | (with_reducible assumption) | (with_reducible exact HS.out _ (below_drew (Below.refl _ _))) | (with_reducible exact HS.out _ HC5.out) | (with_reducible exact HS.out _ HC6.out) | (with_reducible exact HS.out _ HC7.out))
        (first
        | (go_at_call 18; (with_reducible refine (HFn.out V.drew (below_drew HBV.out)).mono ?_); rintro e w5 ⟨rfl, hb5⟩; have HC5 := Lib.hid (show Below V.heap.size V w5 from (below_drew (Below.refl _ V)).trans hb5); clear hb5)
        | (go_at_call 18; (with_reducible refine (HFa.out w5 (HB4.out.trans ((HBV.out.trans (HC5.out.mono HBV.out.size)).mono HB4.out.size))).mono ?_); rintro e w6 ⟨rfl, hb6⟩; have HC6 := Lib.hid (HC5.out.trans (hb6.mono HC5.out.size)); clear hb6)
        | (go_at_call 18; (with_reducible refine (HFa.out w6 (HB4.out.trans ((HBV.out.trans (HC6.out.mono HBV.out.size)).mono HB4.out.size))).mono ?_); rintro e w7 ⟨rfl, hb7⟩; have HC7 := Lib.hid (HC6.out.trans (hb7.mono HC6.out.size)); clear hb7))
      obtain ⟨e0, e1⟩ := HS.out w7 HC7.out
      clear v0 v1
      go_wp2_with fail
      refine (HBr2.out w7 (HBV.out.trans (HC7.out.mono HBV.out.size))).mono ?_
      rintro e w8 ⟨A8, c8, q8, rfl, hq8, ho8, hb8⟩
      have HC8 := Lib.hid (HC7.out.trans (hb8.mono HC7.out.size))
      have hl8 : q8.length = m := by rw [← ces_length, hq8, HM.out]
      have HQ8 := Lib.hid hq8
      have HA8 := Lib.hid ho8.are
      have HL8 := Lib.hid hl8
      rw [hl8]
      have td3 : ((m : Int) != (m : Int)) = false := by simp
      clear hb8 hq8 ho8 hl8 e0 e1
      have HB8 := Lib.hid (HB0.out.trans ((HB4.out.trans ((HBV.out.trans (HC8.out.mono HBV.out.size)).mono HB4.out.size)).mono HB0.out.size))
      have H48 := Lib.hid (HBV.out.trans (HC8.out.mono HBV.out.size))
      have hmx : m ≤ 9223372036854775807 := by omega
      go_wp2
      go_loopw [60] (fun i wr => ∃ k : Nat, k ≤ m ∧ i = .int .i64 k ∧ Hid (Below w8.heap.size w8 wr)) (fun i _ => m - (intOf i).toNat)
      case atStart => exact ⟨0, Nat.zero_le _, rfl, Lib.hid (Below.refl _ _)⟩
      case round =>
        obtain ⟨k, hk, rfl, HWr⟩ := hrel
        by_cases hkm : k < m
        · obtain ⟨b1, o1, p1, rfl, hp1, hb1, a0, a1, a2, a3, a4, hv1, hf1⟩ := HA3.out.at_ (i := k) (by rw [HL3.out]; exact hkm)
          obtain ⟨b4, o4, p4, rfl, hp4, hb4, g0, g1, g2, g3, g4, hv4, hf4⟩ := HA4.out.at_ (i := k) (by rw [HL4.out]; omega)
          obtain ⟨b8, o8, p8, rfl, hp8, hb8, h0, h1, h2, h3, h4, hv8, hf8⟩ := HA8.out.at_ (i := k) (by rw [HL8.out]; exact hkm)
          have e1 : ceAt R k = p1.e := at_cell hp1 HQ3.out
          have e8 : p8.e = p1.e := by rw [← at_cell hp8 HQ8.out, e1]
          have e4 : p4.e = p1.e := by rw [← at_cell hp4 HQ4.out, pad_at HSd.out (by rw [← HM.out]; exact hkm), e1]
          have eu : p1.e.u = true := by
            have h2 : R[k]? = some (ceAt R k) := at_ce (by rw [← HM.out]; exact hkm)
            rw [← e1]; exact sound_used (List.all_eq_true.1 HSd.out _ (List.mem_of_getElem? h2))
          obtain ⟨y8, B8, d8⟩ := p8
          obtain ⟨y4, B4, d4⟩ := p4
          dsimp only at e8 e4 h0 h1 h2 h3 h4 g0 g1 g2 g3 g4 hv8
          subst e8 e4
          rw [eu] at g0
          have HKX := Lib.hid (fun (X : World) (hX : Below w8.heap.size w8 X) => show ((X.cell? ⟨w4.heap.size, 0, none⟩ = some (.slice (some ⟨b4, o4, none⟩) 96 c4) ∧ X.cell? ⟨b4, o4 + k * 5, none⟩ = some (.bool true)) ∧ (X.cell? ⟨b1, o1 + k * 5 + 1, none⟩ = some (.int .u64 p1.e.i) ∧ X.cell? ⟨b1, o1 + k * 5 + 2, none⟩ = some (.int .u64 p1.e.b) ∧ X.cell? ⟨b1, o1 + k * 5 + 3, none⟩ = some (.int .u64 p1.e.f) ∧ X.cell? ⟨b1, o1 + k * 5 + 4, none⟩ = some (.slice p1.B p1.e.x.length p1.c)) ∧ (X.cell? ⟨b8, o8 + k * 5 + 1, none⟩ = some (.int .u64 p1.e.i) ∧ X.cell? ⟨b8, o8 + k * 5 + 2, none⟩ = some (.int .u64 p1.e.b) ∧ X.cell? ⟨b8, o8 + k * 5 + 3, none⟩ = some (.int .u64 p1.e.f) ∧ X.cell? ⟨b8, o8 + k * 5 + 4, none⟩ = some (.slice B8 p1.e.x.length d8))) ∧ (Below w3.heap.size w3 X) from by
            have hXV : Below V.heap.size V X := HC8.out.trans (hX.mono HC8.out.size)
            have hX4 : Below w4.heap.size w4 X := HBV.out.trans (hXV.mono HBV.out.size)
            have hX3 : Below w3.heap.size w3 X := H34.out.trans (hX4.mono H34.out.size)
            exact ⟨⟨⟨(HS.out X hXV).1, (hX4.cell (p := ⟨b4, _, none⟩) hb4).trans g0⟩, ⟨(hX3.cell (p := ⟨b1, _, none⟩) hb1).trans a1, (hX3.cell (p := ⟨b1, _, none⟩) hb1).trans a2, (hX3.cell (p := ⟨b1, _, none⟩) hb1).trans a3, (hX3.cell (p := ⟨b1, _, none⟩) hb1).trans a4⟩, ⟨(hX.cell (p := ⟨b8, _, none⟩) hb8).trans h1, (hX.cell (p := ⟨b8, _, none⟩) hb8).trans h2, (hX.cell (p := ⟨b8, _, none⟩) hb8).trans h3, (hX.cell (p := ⟨b8, _, none⟩) hb8).trans h4⟩⟩, hX3⟩)
          have HSv := Lib.hid (fun (X : World) (hX : Below w8.heap.size w8 X) => show Calls Try.prog 27 #[.agg #[.int .u64 p1.e.b, .int .u64 p1.e.f, .slice B8 p1.e.x.length d8], .agg #[.int .u64 p1.e.b, .int .u64 p1.e.f, .slice p1.B p1.e.x.length p1.c]] X (fun e w' => e = .returned (.bool true) ∧ Below X.heap.size X w') from by
            have := sameVersion_any p1.e.b p1.e.b p1.e.f p1.e.f B8 p1.B d8 p1.c p1.e.x p1.e.x X (hv8.below hX) (hv1.below (HKX.out X hX).2)
            rw [show sameV p1.e.b p1.e.b p1.e.f p1.e.f p1.e.x p1.e.x = true by simp [sameV]] at this
            exact this)
          have k0 : (0 : Int) ≤ k := by omega
          have km : (k : Int) < m := by omega
          have k96 : (k : Int) < 96 := by omega
          have tz : (p1.e.i != p1.e.i) = false := by simp
          have HE1 := Lib.hid e1
          obtain ⟨⟨⟨u0, u1⟩, ⟨u2, u3, u4, u5⟩, ⟨u6, u7, u8, u9⟩⟩, _⟩ := HKX.out wr HWr.out
          clear hp1 hp4 hp8 hb4 hb8 a0 a1 a2 a3 a4 g0 g1 g2 g3 g4 h0 h1 h2 h3 h4 hv1 hv4 hv8 hf1 hf4 hf8 eu e1
          have HKA := Lib.hid (fun (X : World) (hX : Below w8.heap.size w8 X) => (HKX.out X hX).1)
          by_cases hk0 : k = 0
          · have tk : decide ((0 : Int) < k) = false := by simp; omega
            have tkn : decide (0 < k) = false := by simp; omega
            clear hk0 hb1
            go_wp2
            try simp only [List.append_eq, List.cons_append, List.nil_append]
            refine region_quiet (fun X => Below w8.heap.size w8 X) (by kernel_rfl) (by kernel_rfl) (below_drew HWr.out) ?_
            repeat (first | go_big_quiet_skip | (go_big_quiet_want; go_big_quiet_op; first | go_big_quiet_on | (refine ⟨_, fun _ _ => rfl, ?_⟩; go_big_quiet_on) | (refine ⟨_, fun W hW => (HSv.out W hW).mono (fun _ _ h => ⟨h.1, hW.trans (h.2.mono hW.size)⟩), ?_⟩; go_big_quiet_on) | (refine ⟨_, fun W hW => (by obtain ⟨⟨z0, z1⟩, ⟨z2, z3, z4, z5⟩, ⟨z6, z7, z8, z9⟩⟩ := HKA.out W hW; simp only [z0, z1, z2, z3, z4, z5, z6, z7, z8, z9]; exact ⟨rfl, rfl⟩), ?_⟩; go_big_quiet_on) | (refine ⟨_, fun W hW => (by obtain ⟨⟨z0, z1⟩, ⟨z2, z3, z4, z5⟩, ⟨z6, z7, z8, z9⟩⟩ := HKA.out W hW; have y4 : W.cell? ⟨b1, o1 + k * 5 + 2 + 1, none⟩ = some (.int .u64 p1.e.f) := z4; have y5 : W.cell? ⟨b1, o1 + k * 5 + 2 + 2, none⟩ = some (.slice p1.B p1.e.x.length p1.c) := z5; have y8 : W.cell? ⟨b8, o8 + k * 5 + 2 + 1, none⟩ = some (.int .u64 p1.e.f) := z8; have y9 : W.cell? ⟨b8, o8 + k * 5 + 2 + 2, none⟩ = some (.slice B8 p1.e.x.length d8) := z9; simp only [Result.andThen, z3, z7, y4, y5, y8, y9]; exact ⟨trivial, rfl⟩), ?_⟩; go_big_quiet_on)))
            refine wpQuiet_nil ?_
            intro w9 hq
            have HW9 := Lib.hid hq
            clear hq
            clear u0 u1 u2 u3 u4 u5 u6 u7 u8 u9
            go_wp2
            go_roundw
            case rel => exact ⟨k + 1, by omega, by go_num, HW9⟩
            case measure => simp [intOf]; omega
          · obtain ⟨j, hj⟩ : ∃ j, j + 1 = k := ⟨k - 1, by omega⟩
            obtain ⟨b0, o0, p0, heq, hp0, hb0, a0, a1, a2, a3, a4, hv0, hf0⟩ := HA3.out.at_ (i := j) (by rw [HL3.out]; omega)
            injection heq with heq
            injection heq with e2 e3
            subst e2 e3
            have hso := srt_at HSo.out (show j < k by omega) (by rw [← HM.out]; exact hkm)
            rw [at_cell hp0 HQ3.out, HE1.out] at hso
            have HK0 := Lib.hid (fun (X : World) (hX : Below w8.heap.size w8 X) => show X.cell? ⟨b1, o1 + j * 5 + 1, none⟩ = some (.int .u64 p0.e.i) ∧ X.cell? ⟨b1, o1 + j * 5 + 2, none⟩ = some (.int .u64 p0.e.b) from by
              have hX3 := (HKX.out X hX).2
              exact ⟨(hX3.cell (p := ⟨b1, _, none⟩) hb1).trans a1, (hX3.cell (p := ⟨b1, _, none⟩) hb1).trans a2⟩)
            have HKB := Lib.hid (fun (X : World) (hX : Below w8.heap.size w8 X) => And.intro (HKX.out X hX).1 (HK0.out X hX))
            have tk : decide ((0 : Int) < k) = true := by simp; omega
            have tkn : decide (0 < k) = true := by simp; omega
            have tk2 : (0 : Int) < k := by omega
            have hsub : (k : Int) - 1 = j := by omega
            have hw : IntKind.i64.wrap (j : Int) = j := by rw [IntKind.wrap_i64, Int.emod_eq_of_lt (by omega) (by omega)]; omega
            have j0 : (0 : Int) ≤ j := by omega
            have jm : (j : Int) < m := by omega
            have t1 : decide (p1.e.i < p0.e.i) = false := by simp; omega
            by_cases hi : p0.e.i = p1.e.i
            · have t2 : (p0.e.i == p1.e.i) = true := by simpa using hi
              have t3 : decide (p1.e.b < p0.e.b) = false := by simp; omega
              clear hi hso hj hp0 a0 a1 a2 a3 a4 hv0 hf0 hk0 hb1
              obtain ⟨u10, u11⟩ := HK0.out wr HWr.out
              go_wp2
              try simp only [List.append_eq, List.cons_append, List.nil_append]
              refine region_quiet (fun X => Below w8.heap.size w8 X) (by kernel_rfl) (by kernel_rfl) (below_drew HWr.out) ?_
              repeat (first | go_big_quiet_skip | (go_big_quiet_want; go_big_quiet_op; first | go_big_quiet_on | (refine ⟨_, fun _ _ => rfl, ?_⟩; go_big_quiet_on) | (refine ⟨_, fun W hW => (HSv.out W hW).mono (fun _ _ h => ⟨h.1, hW.trans (h.2.mono hW.size)⟩), ?_⟩; go_big_quiet_on) | (refine ⟨_, fun W hW => (by obtain ⟨⟨⟨z0, z1⟩, ⟨z2, z3, z4, z5⟩, ⟨z6, z7, z8, z9⟩⟩, z10, z11⟩ := HKB.out W hW; simp only [z0, z1, z2, z3, z4, z5, z6, z7, z8, z9, z10, z11]; exact ⟨rfl, rfl⟩), ?_⟩; go_big_quiet_on) | (refine ⟨_, fun W hW => (by obtain ⟨⟨⟨z0, z1⟩, ⟨z2, z3, z4, z5⟩, ⟨z6, z7, z8, z9⟩⟩, z10, z11⟩ := HKB.out W hW; have y4 : W.cell? ⟨b1, o1 + k * 5 + 2 + 1, none⟩ = some (.int .u64 p1.e.f) := z4; have y5 : W.cell? ⟨b1, o1 + k * 5 + 2 + 2, none⟩ = some (.slice p1.B p1.e.x.length p1.c) := z5; have y8 : W.cell? ⟨b8, o8 + k * 5 + 2 + 1, none⟩ = some (.int .u64 p1.e.f) := z8; have y9 : W.cell? ⟨b8, o8 + k * 5 + 2 + 2, none⟩ = some (.slice B8 p1.e.x.length d8) := z9; simp only [Result.andThen, z3, z7, y4, y5, y8, y9]; exact ⟨trivial, rfl⟩), ?_⟩; go_big_quiet_on)))
              refine wpQuiet_nil ?_
              intro w9 hq
              have HW9 := Lib.hid hq
              clear hq
              clear u0 u1 u2 u3 u4 u5 u6 u7 u8 u9 u10 u11
              go_wp2
              go_roundw
              case rel => exact ⟨k + 1, by omega, by go_num, HW9⟩
              case measure => simp [intOf]; omega
            · have t2 : (p0.e.i == p1.e.i) = false := by simpa using hi
              clear hi hso hj hp0 a0 a1 a2 a3 a4 hv0 hf0 hk0 hb1
              obtain ⟨u10, u11⟩ := HK0.out wr HWr.out
              go_wp2
              try simp only [List.append_eq, List.cons_append, List.nil_append]
              refine region_quiet (fun X => Below w8.heap.size w8 X) (by kernel_rfl) (by kernel_rfl) (below_drew HWr.out) ?_
              repeat (first | go_big_quiet_skip | (go_big_quiet_want; go_big_quiet_op; first | go_big_quiet_on | (refine ⟨_, fun _ _ => rfl, ?_⟩; go_big_quiet_on) | (refine ⟨_, fun W hW => (HSv.out W hW).mono (fun _ _ h => ⟨h.1, hW.trans (h.2.mono hW.size)⟩), ?_⟩; go_big_quiet_on) | (refine ⟨_, fun W hW => (by obtain ⟨⟨⟨z0, z1⟩, ⟨z2, z3, z4, z5⟩, ⟨z6, z7, z8, z9⟩⟩, z10, z11⟩ := HKB.out W hW; simp only [z0, z1, z2, z3, z4, z5, z6, z7, z8, z9, z10, z11]; exact ⟨rfl, rfl⟩), ?_⟩; go_big_quiet_on) | (refine ⟨_, fun W hW => (by obtain ⟨⟨⟨z0, z1⟩, ⟨z2, z3, z4, z5⟩, ⟨z6, z7, z8, z9⟩⟩, z10, z11⟩ := HKB.out W hW; have y4 : W.cell? ⟨b1, o1 + k * 5 + 2 + 1, none⟩ = some (.int .u64 p1.e.f) := z4; have y5 : W.cell? ⟨b1, o1 + k * 5 + 2 + 2, none⟩ = some (.slice p1.B p1.e.x.length p1.c) := z5; have y8 : W.cell? ⟨b8, o8 + k * 5 + 2 + 1, none⟩ = some (.int .u64 p1.e.f) := z8; have y9 : W.cell? ⟨b8, o8 + k * 5 + 2 + 2, none⟩ = some (.slice B8 p1.e.x.length d8) := z9; simp only [Result.andThen, z3, z7, y4, y5, y8, y9]; exact ⟨trivial, rfl⟩), ?_⟩; go_big_quiet_on)))
              refine wpQuiet_nil ?_
              intro w9 hq
              have HW9 := Lib.hid hq
              clear hq
              clear u0 u1 u2 u3 u4 u5 u6 u7 u8 u9 u10 u11
              go_wp2
              go_roundw
              case rel => exact ⟨k + 1, by omega, by go_num, HW9⟩
              case measure => simp [intOf]; omega
        · obtain rfl : k = m := by omega
          go_wp2
          go_ret
          exact ⟨rfl, HB8.out.trans (HWr.out.mono HB8.out.size)⟩

set_option maxRecDepth 100000 in
theorem lifted (os : Os) (started : os.Started) (H : Type) (enc : TypeId × Value → H) :
    ReturnsInHanded {} Try.checked os 6 .any (Rows.arenaRowsSpec.pre6 enc Try.prog Try.f6 Rows.arenaRowsRow.domain false) (Rows.arenaRowsSpec.post enc Try.prog Try.f6 false true false false) := by
  refine returnsInHanded_of_change (C := Try.checked) Try.own started (by kernel_rfl) Try.func6
    (ChangeSpec.witness6 (enc := enc) (C := Try.checked) false ⟨#[], #[.agg #[.slice none 0 0]], []⟩ 8 (by kernel_rfl) (by kernel_rfl) (by kernel_rfl) (by kernel_rfl)) ?_
  intro W base args ds gs before hval0 hW hcnd _
  have hval : ∀ (j : Nat) t v, Try.f6.params[j]? = some t → args[j]? = some v → Value.okWide Try.prog W .any base t v := hval0
  have hW' := hW
  obtain ⟨p, q, hA0, hV, rfl, hfz, hnd⟩ := hW
  have hA : DataW.TrodAll enc Try.prog W 0 (fun _ => true) true Try.f6.params.toList args.toList ds p := hA0
  rw [Try.params6] at hA hval
  have hA' := hA
  obtain ⟨v0, vs0, d0, ds0, p0, q0, hargs, rfl, rfl, h0, r0⟩ := trodAll_cons hA
  obtain ⟨rfl, rfl, rfl⟩ := trodAll_nil r0
  obtain rfl : args = #[v0] := by cases args; simp_all
  obtain ⟨rfl, rfl⟩ := trodVars_none hV
  obtain ⟨A0, c0, z0, rfl, sl0⟩ := open_arena (hval 0 24 v0 rfl rfl) h0
  clear hA0 hval0
  refine (walk A0 c0 z0 sl0).mono fun e W' ⟨he, bel⟩ => ?_
  subst he
  exact ⟨_, rfl, _, _, _, [], _, [], hW', trodAll_mk1 (shut_bool Try.underlying4 _), trodAll_below bel _ _ _ _ (by kernel_rfl) hA', rfl, bel.frame _, fun h => by cases h⟩

theorem proved : Rows.ArenaRowsSaid :=
  OpenClaim.holds_of_wide 6 Try.f6 rfl rfl rfl rfl rfl rfl rfl ⟨rfl, rfl, rfl, rfl, rfl⟩ rfl rfl rfl rfl rfl (by kernel_rfl) Try.func6 (by kernel_rfl)
    (of_decide_eq_true (by kernel_rfl)) (by unfold Func.isWrapper; first | (rw [if_pos (by decide +kernel)]; kernel_rfl) | (rw [if_neg (by decide +kernel)]; exact ⟨rfl, rfl⟩))
    (fun os started H enc _ => lifted os started H enc)
#print axioms proved
end Go.Proofs.Ytpdebkpblpipcaa.arenaRows
