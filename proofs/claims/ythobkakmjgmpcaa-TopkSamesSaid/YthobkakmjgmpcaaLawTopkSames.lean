/-
  Proved: the law TopkSames, which hits are the same and what new selections are, returns true for every rows of hits and numbers, and leaves all memory as it was. No condition.
-/
import Derived.Test.YthobkakmjgmpcaaTopRef2
import Derived.Test.YthobkakmjgmpcaaLawFrame
namespace Go.Proofs.Ythobkakmjgmpcaa.topkSames
open Go.ChangeShapes Go.WideShapes Go.ChangeAt Go.RowKit
set_option linter.unusedVariables false
set_option linter.unusedSimpArgs false
set_option maxRecDepth 100000

theorem new_yes {k : Int} (h : isKM k = true) (w : World) : Calls Try.prog 22 #[.int .i64 k] w fun e w' => e = .returned (.tuple #[.agg #[.int .i64 k, .slice none 0 0], .int .i64 0]) ∧ Below w.heap.size w w' := by
  have := new_any k w
  rw [h] at this
  exact this
theorem new_no {k : Int} (h : isKM k = false) (w : World) : Calls Try.prog 22 #[.int .i64 k] w fun e w' => e = .returned (.tuple #[.agg #[.int .i64 0, .slice none 0 0], .int .i64 2]) ∧ Below w.heap.size w w' := by
  have := new_any k w
  rw [h] at this
  exact this

theorem keepS {W W' : World} {b o : Nat} {v : Value} (h : W.cell? ⟨b, o, none⟩ = some v) (hb : Below W.heap.size W W') : W'.cell? ⟨b, o, none⟩ = some v := (hb.cell (p := ⟨b, o, none⟩) (World.block_lt_of_cell? W _ h)).trans h

set_option maxHeartbeats 4000000 in
theorem walk {w : World} (A : Option Addr) (c : Nat) (ls : List (List HitM)) (hl : Rows w A c ls) (A' : Option Addr) (c' : Nat) (ks : List Int) (hk : Vec .i64 w A' c' ks) :
    Calls Try.prog 6 #[.slice A ls.length c, .slice A' ks.length c'] w fun e w' => e = .returned (.bool true) ∧ Below w.heap.size w w' := by
  have HV := Lib.hid hl
  have HK := Lib.hid hk
  obtain ⟨n, hn⟩ : ∃ n, n = ls.length := ⟨_, rfl⟩
  obtain ⟨m, hm⟩ : ∃ m, m = ks.length := ⟨_, rfl⟩
  have hrn : n ≤ 9223372036854775807 := by rw [hn]; exact Nat.le_trans hl.room hl.most
  have hrm : m ≤ 9223372036854775807 := by rw [hm]; exact Nat.le_trans hk.room hk.most
  have HN := Lib.hid hn
  have HM := Lib.hid hm
  rw [← hn, ← hm]
  clear hl hk hn hm
  go_enter Try.func6, Try.ntmps6
  go_wp2_with fail
  refine (wakes_any w).mono ?_
  rintro e w1 ⟨rfl, hb1⟩
  have HB1 := Lib.hid hb1
  clear hb1
  go_wp2
  go_loopw [5, 6, 7, 8, 18] (fun _ _ _ _ i wr => ∃ k : Nat, k ≤ n ∧ k ≤ 8 ∧ i = .int .i64 k ∧ Hid (Below w.heap.size w wr)) (fun _ _ _ _ i _ => n - (intOf i).toNat)
  case atStart => exact ⟨0, Nat.zero_le _, Nat.zero_le _, rfl, HB1⟩
  case round =>
    obtain ⟨k, hk, hk8, rfl, HB⟩ := hrel
    by_cases hkn : k < n
    · obtain ⟨b, o, x, B, cb, hA, hx, hb, hcell, hrow⟩ := HV.out.at_ (i := k) (by rw [← HN.out]; exact hkn)
      obtain ⟨b', o', y, B', cb', he, hy, _, hcell0, hrow0⟩ := HV.out.at_ (i := 0) (by rw [← HN.out]; omega)
      rw [hA] at he
      injection he with he
      injection he with he1 he2
      subst he1
      subst he2
      subst hA
      have e1 := (HB.out.cell (p := ⟨b, o + k, none⟩) hb).trans hcell
      have e0 := (HB.out.cell (p := ⟨b, o, none⟩) hb).trans (by simpa using hcell0)
      have k0 : (0 : Int) ≤ k := by omega
      have kn : (k : Int) < n := by omega
      have n0 : (0 : Int) < n := by omega
      by_cases h8 : k = 8
      · subst h8
        have HB9 := HB
        clear e0 hcell hcell0 hrow hrow0
        go_wp2
        go_loopw [9, 10, 11, 12, 13, 48] (fun _ _ _ _ _ i wr => ∃ k : Nat, k ≤ m ∧ k ≤ 8 ∧ i = .int .i64 k ∧ Hid (Below w.heap.size w wr)) (fun _ _ _ _ _ i _ => m - (intOf i).toNat)
        case atStart => exact ⟨0, Nat.zero_le _, Nat.zero_le _, rfl, HB9⟩
        case round =>
          obtain ⟨k, hk, hk8, rfl, HB⟩ := hrel
          by_cases hkm : k < m
          · obtain ⟨b, o, rfl, hb, hc⟩ := HK.out.at_ (j := k) (by rw [← HM.out]; exact hkm)
            have e1 := (HB.out.cell (p := ⟨b, o + k, none⟩) hb).trans hc
            generalize ks.getD k 0 = x at *
            have k0 : (0 : Int) ≤ k := by omega
            have km : (k : Int) < m := by omega
            by_cases h8 : k = 8
            · subst h8
              go_wp2
              go_ret
              exact ⟨rfl, HB.out⟩
            · have t8 : ((k : Int) == 8) = false := by simp; omega
              have t81 : (k == 8) = false := by simp; omega
              have hk7 : k < 8 := by omega
              clear hc h8
              cases hx : isKM x with
              | true =>
                obtain ⟨h1, h2⟩ := (isK_iff x).1 hx
                have HN := Lib.hid (new_yes hx)
                have t1 : decide (1 ≤ x) = true := by simpa using h1
                have t2 : decide (x ≤ 16) = true := by simpa using h2
                clear hx
                go_wp2_with fail
                refine (HN.out _).mono ?_
                rintro e w5 ⟨rfl, hb5⟩
                have HB5 := Lib.hid (HB.out.trans (hb5.mono HB.out.size))
                have HB6 := Lib.hid (HB5.out.alloc HB5.out.size (.cells #[.int .i64 x, .slice none 0 0] 38))
                clear hb5
                go_wp2
                go_roundw
                case rel => exact ⟨k + 1, by omega, by omega, by go_num, HB6⟩
                case measure => simp [intOf]; omega
              | false =>
                have HN := Lib.hid (new_no hx)
                have hx2 : ¬ (1 ≤ x ∧ x ≤ 16) := fun e => by rw [(isK_iff x).2 e] at hx; cases hx
                clear hx
                by_cases h1 : 1 ≤ x
                · have h2 : ¬ x ≤ 16 := fun e => hx2 ⟨h1, e⟩
                  have t1 : decide (1 ≤ x) = true := by simpa using h1
                  have t2 : decide (x ≤ 16) = false := by simpa using h2
                  clear hx2
                  go_wp2_with fail
                  refine (HN.out _).mono ?_
                  rintro e w5 ⟨rfl, hb5⟩
                  have HB5 := Lib.hid (HB.out.trans (hb5.mono HB.out.size))
                  have HB6 := Lib.hid (HB5.out.alloc HB5.out.size (.cells #[.int .i64 0, .slice none 0 0] 38))
                  clear hb5
                  go_wp2
                  go_roundw
                  case rel => exact ⟨k + 1, by omega, by omega, by go_num, HB6⟩
                  case measure => simp [intOf]; omega
                · have t1 : decide (1 ≤ x) = false := by simpa using h1
                  clear hx2
                  go_wp2_with fail
                  refine (HN.out _).mono ?_
                  rintro e w5 ⟨rfl, hb5⟩
                  have HB5 := Lib.hid (HB.out.trans (hb5.mono HB.out.size))
                  have HB6 := Lib.hid (HB5.out.alloc HB5.out.size (.cells #[.int .i64 0, .slice none 0 0] 38))
                  clear hb5
                  go_wp2
                  go_roundw
                  case rel => exact ⟨k + 1, by omega, by omega, by go_num, HB6⟩
                  case measure => simp [intOf]; omega
          · obtain rfl : k = m := by omega
            go_wp2
            go_ret
            exact ⟨rfl, HB.out⟩
      · have t8 : ((k : Int) == 8) = false := by simp; omega
        have t81 : (k == 8) = false := by simp; omega
        have hk7 : k < 8 := by omega
        have hn0 : 0 < n := by omega
        have HO1 := Lib.hid (fun (V : World) (hV : Below w.heap.size w V) => own_lit B cb 50 50 rfl x V (hrow.below hV) (by omega))
        have HO0 := Lib.hid (fun (V : World) (hV : Below w.heap.size w V) => own_lit B' cb' 50 50 rfl y V (hrow0.below hV) (by omega))
        generalize hxl : x.length = xl at *
        generalize hyl : y.length = yl at *
        generalize x.take 50 = X at *
        generalize y.take 50 = Y at *
        clear hcell hcell0 hx hy h8 hrow hrow0 hxl hyl
        go_wp2
        have S0 := Lib.hid (show wr.drew.cell? ⟨b, o, none⟩ = some (.slice B' yl cb') from e0)
        have HB0 := Lib.hid (show Below w.heap.size w wr.drew from below_drew HB.out)
        go_region_held3 (fun W => W.cell? ⟨b, o, none⟩ = some (.slice B' yl cb')) (first | exact S0.out | exact S2.out | exact S3.out) (first
          | (go_at_call 12; (with_reducible refine (HO1.out _ HB0.out).mono ?_); rintro e w2 ⟨v, rfl, C2, d2, rfl, hr2, hb2⟩; have S2 := Lib.hid (keepS S0.out hb2); have H2 := Lib.hid (And.intro (Hits.ofRow hr2) (HB0.out.trans (hb2.mono HB0.out.size))); clear hr2 hb2)
          | (go_at_call 12; (with_reducible refine (HO0.out _ H2.out.2).mono ?_); rintro e w3 ⟨v, rfl, C3, d3, rfl, hr3, hb3⟩; have S3 := Lib.hid (keepS S2.out hb3); have H3 := Lib.hid (And.intro (H2.out.1.below hb3) (And.intro (Hits.ofRow hr3) (H2.out.2.trans (hb3.mono H2.out.2.size)))); clear hr3 hb3))
        have HD := H3
        obtain ⟨w4, hw4⟩ : ∃ w4, w4 = w3 := ⟨_, rfl⟩
        rw [← hw4] at HD ⊢
        clear hw4
        have HS1 := Lib.hid (same_any C2 C3 d2 d3 X Y w4 HD.out.1 HD.out.2.1)
        have HS2 := Lib.hid (fun (V : World) (hV : Below w4.heap.size w4 V) => rSame_any C2 C3 d2 d3 X Y V (HD.out.1.below hV) (HD.out.2.1.below hV))
        have HS3 := Lib.hid (fun (V V' : World) (C : Option Addr) (d : Nat) (hV : Below w4.heap.size w4 V) (hH : Hits V C d X) => same_any C2 C d2 d X X V (HD.out.1.below hV) hH)
        have hXX : decide (X = X) = true := by simp
        rw [hXX] at HS3
        generalize decide (X = Y) = R at *
        have tR : (R != R) = false := by simp
        clear hXX e0 e1
        go_wp2_with fail
        refine HS1.out.mono ?_
        rintro e w5 ⟨rfl, hb5⟩
        have HB5 := Lib.hid hb5
        clear hb5
        go_wp2_with fail
        refine (HS2.out w5 HB5.out).mono ?_
        rintro e w6 ⟨rfl, hb6⟩
        have HB6 := Lib.hid (HB5.out.trans (hb6.mono HB5.out.size))
        clear hb6
        go_wp2_with fail
        refine (HO1.out w6 (HD.out.2.2.trans (HB6.out.mono HD.out.2.2.size))).mono ?_
        rintro e w7 ⟨v, rfl, C7, d7, rfl, hr7, hb7⟩
        have HB7 := Lib.hid (HB6.out.trans (hb7.mono HB6.out.size))
        have HS4 := Lib.hid (HS3.out w7 w7 C7 d7 HB7.out (Hits.ofRow hr7))
        clear hr7 hb7
        go_wp2_with fail
        refine HS4.out.mono ?_
        rintro e w8 ⟨rfl, hb8⟩
        have HB8 := Lib.hid (HD.out.2.2.trans ((HB7.out.trans (hb8.mono HB7.out.size)).mono HD.out.2.2.size))
        clear hb8
        go_wp2
        go_roundw
        case rel => exact ⟨k + 1, by omega, by omega, by go_num, HB8⟩
        case measure => simp [intOf]; omega
    · obtain rfl : k = n := by omega
      have HB9 := HB
      go_wp2
      go_loopw [9, 10, 11, 12, 13, 48] (fun _ _ _ _ _ i wr => ∃ k : Nat, k ≤ m ∧ k ≤ 8 ∧ i = .int .i64 k ∧ Hid (Below w.heap.size w wr)) (fun _ _ _ _ _ i _ => m - (intOf i).toNat)
      case atStart => exact ⟨0, Nat.zero_le _, Nat.zero_le _, rfl, HB9⟩
      case round =>
        obtain ⟨k, hk, hk8, rfl, HB⟩ := hrel
        by_cases hkm : k < m
        · obtain ⟨b, o, rfl, hb, hc⟩ := HK.out.at_ (j := k) (by rw [← HM.out]; exact hkm)
          have e1 := (HB.out.cell (p := ⟨b, o + k, none⟩) hb).trans hc
          generalize ks.getD k 0 = x at *
          have k0 : (0 : Int) ≤ k := by omega
          have km : (k : Int) < m := by omega
          by_cases h8 : k = 8
          · subst h8
            go_wp2
            go_ret
            exact ⟨rfl, HB.out⟩
          · have t8 : ((k : Int) == 8) = false := by simp; omega
            have t81 : (k == 8) = false := by simp; omega
            have hk7 : k < 8 := by omega
            clear hc h8
            cases hx : isKM x with
            | true =>
              obtain ⟨h1, h2⟩ := (isK_iff x).1 hx
              have HN := Lib.hid (new_yes hx)
              have t1 : decide (1 ≤ x) = true := by simpa using h1
              have t2 : decide (x ≤ 16) = true := by simpa using h2
              clear hx
              go_wp2_with fail
              refine (HN.out _).mono ?_
              rintro e w5 ⟨rfl, hb5⟩
              have HB5 := Lib.hid (HB.out.trans (hb5.mono HB.out.size))
              have HB6 := Lib.hid (HB5.out.alloc HB5.out.size (.cells #[.int .i64 x, .slice none 0 0] 38))
              clear hb5
              go_wp2
              go_roundw
              case rel => exact ⟨k + 1, by omega, by omega, by go_num, HB6⟩
              case measure => simp [intOf]; omega
            | false =>
              have HN := Lib.hid (new_no hx)
              have hx2 : ¬ (1 ≤ x ∧ x ≤ 16) := fun e => by rw [(isK_iff x).2 e] at hx; cases hx
              clear hx
              by_cases h1 : 1 ≤ x
              · have h2 : ¬ x ≤ 16 := fun e => hx2 ⟨h1, e⟩
                have t1 : decide (1 ≤ x) = true := by simpa using h1
                have t2 : decide (x ≤ 16) = false := by simpa using h2
                clear hx2
                go_wp2_with fail
                refine (HN.out _).mono ?_
                rintro e w5 ⟨rfl, hb5⟩
                have HB5 := Lib.hid (HB.out.trans (hb5.mono HB.out.size))
                have HB6 := Lib.hid (HB5.out.alloc HB5.out.size (.cells #[.int .i64 0, .slice none 0 0] 38))
                clear hb5
                go_wp2
                go_roundw
                case rel => exact ⟨k + 1, by omega, by omega, by go_num, HB6⟩
                case measure => simp [intOf]; omega
              · have t1 : decide (1 ≤ x) = false := by simpa using h1
                clear hx2
                go_wp2_with fail
                refine (HN.out _).mono ?_
                rintro e w5 ⟨rfl, hb5⟩
                have HB5 := Lib.hid (HB.out.trans (hb5.mono HB.out.size))
                have HB6 := Lib.hid (HB5.out.alloc HB5.out.size (.cells #[.int .i64 0, .slice none 0 0] 38))
                clear hb5
                go_wp2
                go_roundw
                case rel => exact ⟨k + 1, by omega, by omega, by go_num, HB6⟩
                case measure => simp [intOf]; omega
        · obtain rfl : k = m := by omega
          go_wp2
          go_ret
          exact ⟨rfl, HB.out⟩

set_option maxRecDepth 100000 in
theorem lifted (os : Os) (started : os.Started) (H : Type) (enc : TypeId × Value → H) :
    ReturnsInHanded {} Try.checked os 6 .any (Rows.topkSamesSpec.pre6 enc Try.prog Try.f6 Rows.topkSamesRow.domain false) (Rows.topkSamesSpec.post enc Try.prog Try.f6 false true false false) := by
  refine returnsInHanded_of_change (C := Try.checked) Try.own started (by kernel_rfl) Try.func6
    (ChangeSpec.witness6 (enc := enc) (C := Try.checked) false ⟨#[], #[.slice none 0 0, .slice none 0 0], []⟩ 8 (by kernel_rfl) (by kernel_rfl) (by kernel_rfl) (by kernel_rfl)) ?_
  intro W base args ds gs before hval0 hW hcnd _
  have hval : ∀ (j : Nat) t v, Try.f6.params[j]? = some t → args[j]? = some v → Value.okWide Try.prog W .any base t v := hval0
  have hW' := hW
  obtain ⟨p, q, hA0, hV, rfl, hfz, hnd⟩ := hW
  have hA : DataW.TrodAll enc Try.prog W 0 (fun _ => true) true Try.f6.params.toList args.toList ds p := hA0
  rw [Try.params6] at hA hval
  have hA' := hA
  obtain ⟨v0, vs0, d0, ds0, p0, q0, hargs, rfl, rfl, h0, r0⟩ := trodAll_cons hA
  obtain ⟨v1, vs1, d1, ds1, p1, q1, rfl, rfl, rfl, h1, r1⟩ := trodAll_cons r0
  obtain ⟨rfl, rfl, rfl⟩ := trodAll_nil r1
  obtain rfl : args = #[v0, v1] := by cases args; simp_all
  obtain ⟨rfl, rfl⟩ := trodVars_none hV
  obtain ⟨A0, len0, c0, rfl⟩ := okWide_slice Try.underlying34 (hval 0 34 v0 rfl rfl)
  obtain ⟨z0, rfl, sl0⟩ := open_rows h0
  obtain ⟨A1, len1, c1, rfl⟩ := okWide_slice Try.underlying23 (hval 1 23 v1 rfl rfl)
  obtain ⟨z1, rfl, sl1⟩ := open_nums h1
  clear hA0 hval0
  refine (walk A0 c0 z0 sl0 A1 c1 z1 sl1).mono fun e W' ⟨he, bel⟩ => ?_
  subst he
  exact ⟨_, rfl, _, _, _, [], _, [], hW', trodAll_mk1 (shut_bool Try.underlying4 _), trodAll_below bel _ _ _ _ (by kernel_rfl) hA', rfl, bel.frame _, fun h => by cases h⟩

theorem proved : Rows.TopkSamesSaid :=
  OpenClaim.holds_of_wide 6 Try.f6 rfl rfl rfl rfl rfl rfl rfl ⟨rfl, rfl, rfl, rfl, rfl⟩ rfl rfl rfl rfl rfl (by kernel_rfl) Try.func6 (by kernel_rfl)
    (of_decide_eq_true (by kernel_rfl)) (by unfold Func.isWrapper; first | (rw [if_pos (by decide +kernel)]; kernel_rfl) | (rw [if_neg (by decide +kernel)]; exact ⟨rfl, rfl⟩))
    (fun os started H enc _ => lifted os started H enc)
#print axioms proved
end Go.Proofs.Ythobkakmjgmpcaa.topkSames
