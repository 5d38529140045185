/-
  Proved: the law FlatSees, the mask of what is visible is as the document says or the arena is refused, returns true for every arena and time, and leaves all memory as it was. No condition.
-/
import Derived.Test.YtdbcecmlakgknaaMFla
namespace Go.Proofs.Ytdbcecmlakgknaa.flatSees
open Go.BigFrame Go.ChangeShapes Go.WideShapes Go.ChangeAt Go.RowKit
set_option linter.unusedVariables false
set_option linter.unusedSimpArgs false
set_option maxRecDepth 100000

set_option maxHeartbeats 8000000 in
theorem walk {w : World} (A : Option Addr) (c : Nat) (q : List Pa) (H : Are w A c q) (t : Int) (wt : U64s t) :
    Calls Try.prog 6 #[.agg #[.slice A q.length c], .int .u64 t] w fun e w' => e = .returned (.bool true) ∧ Below w.heap.size w w' := by
  obtain ⟨W0, hW0⟩ : ∃ W0, W0 = w.alloc (.cells #[.slice A q.length c] 24) := ⟨_, rfl⟩
  have hb0 : Below w.heap.size w W0 := by rw [hW0]; exact (Below.refl _ w).alloc (Nat.le_refl _) _
  have x0 : Boxed W0 w.heap.size 24 (.slice A q.length c) := by rw [hW0]; exact Boxed.new w _ _
  have HW := Lib.hid hW0
  have HB0 := Lib.hid hb0
  have HX := Lib.hid (fun (X : World) (hX : Below W0.heap.size W0 X) => show X.cell? ⟨w.heap.size, 0, none⟩ = some (.slice A q.length c) from Boxed.cell ((hX.block _ x0.lt).trans x0))
  have HWk := Lib.hid (wakes11_any W0)
  have HOv := Lib.hid (fun (X : World) (hX : Below W0.heap.size W0 X) => over11_any A c q X ((H.below hb0).below hX))
  have HVi := Lib.hid (fun (X : World) (hX : Below W0.heap.size W0 X) => visible_any A c q t X ((H.below hb0).below hX))
  have HRi := Lib.hid (fun (X : World) (hX : Below W0.heap.size W0 X) => rRightA_any A c q X ((H.below hb0).below hX))
  have HQ := Lib.hid (H.below hb0)
  obtain ⟨n, hn⟩ : ∃ n, n = q.length := ⟨_, rfl⟩
  rw [← hn] at HW HX HOv HVi HRi ⊢
  have HN := Lib.hid hn
  clear H hW0 hb0 x0 hn
  cases hov : overB (ces q) with
  | true =>
    rw [hov] at HOv
    clear hov
    go_enter Try.func6, Try.ntmps6
    go_wp2_with fail
    rw [← HW.out]
    refine HWk.out.mono ?_
    rintro e w1 ⟨rfl, hb1⟩
    have HB1 := Lib.hid hb1
    have HO1 := Lib.hid (HOv.out w1 hb1)
    have e0 := HX.out w1 hb1
    clear hb1
    go_wp2_with fail
    refine HO1.out.mono ?_
    rintro e w2 ⟨rfl, hb2⟩
    have HB2 := Lib.hid (HB1.out.trans (hb2.mono HB1.out.size))
    clear hb2
    go_wp2
    go_ret
    exact ⟨rfl, HB0.out.trans (HB2.out.mono HB0.out.size)⟩
  | false =>
    rw [hov] at HOv
    clear hov
    cases hr : arB (ces q) with
    | false =>
      rw [hr] at HRi
      rw [chkA_no hr, if_neg (by decide)] at HVi
      clear hr
      go_enter Try.func6, Try.ntmps6
      go_wp2_with fail
      rw [← HW.out]
      refine HWk.out.mono ?_
      rintro e w1 ⟨rfl, hb1⟩
      have HB1 := Lib.hid hb1
      have HO1 := Lib.hid (HOv.out w1 hb1)
      have e0 := HX.out w1 hb1
      clear hb1
      go_wp2_with fail
      refine HO1.out.mono ?_
      rintro e w2 ⟨rfl, hb2⟩
      have HB2 := Lib.hid (HB1.out.trans (hb2.mono HB1.out.size))
      have HV2 := Lib.hid (HVi.out w2 HB2.out)
      have e0 := HX.out w2 HB2.out
      clear hb2
      go_wp2_with fail
      refine HV2.out.mono ?_
      rintro e w3 ⟨rfl, hb3⟩
      have hb4 : Below w2.heap.size w2 (w3.alloc (.cells #[.int .u64 0, .int .u64 0] 48)) := hb3.alloc hb3.size _
      have HB4 := Lib.hid (HB2.out.trans (hb4.mono HB2.out.size))
      have HR4 := Lib.hid (HRi.out _ HB4.out)
      have e0 := HX.out _ HB4.out
      have x4 : (w3.alloc (.cells #[.int .u64 0, .int .u64 0] 48)).heap[w3.heap.size]? = some (.cells #[.int .u64 0, .int .u64 0] 48 (0, 0)) := heap_alloc_new _ _
      have HX4 := Lib.hid x4
      clear hb3 hb4 x4
      go_wp2_with fail
      refine HR4.out.mono ?_
      rintro e w5 ⟨rfl, hb5⟩
      have X5 := (hb5.block _ (lt_of_block HX4.out)).trans HX4.out
      have y0 := (cell_of_row _ _ 0 _ _ _ X5).trans rfl
      have y1 := (cell_of_row _ _ 1 _ _ _ X5).trans rfl
      have HB5 := Lib.hid (HB4.out.trans (hb5.mono HB4.out.size))
      have q0 : (Op.equalIn 10000 48 (.agg #[.int .u64 0, .int .u64 0]) (.agg #[.int .u64 0, .int .u64 0])).run Try.prog w5 = .ok true w5 := MskL.eqM (0, 0) (0, 0) w5
      clear hb5 X5
      go_wp2
      go_ret
      exact ⟨by simp, HB0.out.trans (HB5.out.mono HB0.out.size)⟩
    | true =>
      rw [hr] at HRi
      rw [chkA_ok hr, if_pos rfl] at HVi
      have hq96 : n = 96 := by have := arB_len hr; rw [ces_length] at this; rw [HN.out]; exact this
      have HN96 := Lib.hid hq96
      obtain ⟨M, hM⟩ : ∃ M, M = visM (ces q) t := ⟨_, rfl⟩
      have HIn := Lib.hid (fun (k : Nat) (hk : k < 128) (X : World) => show Calls Try.prog 37 #[.agg #[.int .u64 M.1, .int .u64 M.2], .int .i64 k] X (fun e w' => e = .returned (.bool (decide (k < 96) && ((ceAt (ces q) k).u && visB (ceAt (ces q) k).b (ceAt (ces q) k).f t))) ∧ Below X.heap.size X w') from by
        have := rIn_any M k X (by rw [hM]; exact MskL.mk_fine _) hk
        rw [hM] at this ⊢
        unfold visM at this ⊢
        rw [inB_mk hk] at this
        exact this)
      rw [← hM] at HVi
      clear hr hM hq96
      go_enter Try.func6, Try.ntmps6
      go_wp2_with fail
      rw [← HW.out]
      refine HWk.out.mono ?_
      rintro e w1 ⟨rfl, hb1⟩
      have HB1 := Lib.hid hb1
      have HO1 := Lib.hid (HOv.out w1 hb1)
      have e0 := HX.out w1 hb1
      clear hb1
      go_wp2_with fail
      refine HO1.out.mono ?_
      rintro e w2 ⟨rfl, hb2⟩
      have HB2 := Lib.hid (HB1.out.trans (hb2.mono HB1.out.size))
      have HV2 := Lib.hid (HVi.out w2 HB2.out)
      have e0 := HX.out w2 HB2.out
      clear hb2
      go_wp2_with fail
      refine HV2.out.mono ?_
      rintro e w3 ⟨rfl, hb3⟩
      have hb4 : Below w2.heap.size w2 (w3.alloc (.cells #[.int .u64 M.1, .int .u64 M.2] 48)) := hb3.alloc hb3.size _
      have HB4 := Lib.hid (HB2.out.trans (hb4.mono HB2.out.size))
      have HR4 := Lib.hid (HRi.out _ HB4.out)
      have e0 := HX.out _ HB4.out
      have x4 : (w3.alloc (.cells #[.int .u64 M.1, .int .u64 M.2] 48)).heap[w3.heap.size]? = some (.cells #[.int .u64 M.1, .int .u64 M.2] 48 (0, 0)) := heap_alloc_new _ _
      have HX4 := Lib.hid x4
      clear hb3 hb4 x4
      go_wp2_with fail
      refine HR4.out.mono ?_
      rintro e w5 ⟨rfl, hb5⟩
      have HY := Lib.hid (fun (X : World) (hX : Below w5.heap.size w5 X) => show X.cell? ⟨w3.heap.size, 0, none⟩ = some (.int .u64 M.1) ∧ X.cell? ⟨w3.heap.size, 1, none⟩ = some (.int .u64 M.2) from by
        have X5 := (hX.block _ (Nat.lt_of_lt_of_le (lt_of_block HX4.out) hb5.size)).trans ((hb5.block _ (lt_of_block HX4.out)).trans HX4.out)
        exact ⟨(cell_of_row _ _ 0 _ _ _ X5).trans rfl, (cell_of_row _ _ 1 _ _ _ X5).trans rfl⟩)
      have HB5 := Lib.hid (HB4.out.trans (hb5.mono HB4.out.size))
      clear hb5 e0
      go_wp2
      go_loopw [29] (fun i wr => ∃ k : Nat, k ≤ 128 ∧ i = .int .i64 k ∧ Hid (Below w5.heap.size w5 wr)) (fun i _ => 128 - (intOf i).toNat)
      case atStart => exact ⟨0, by omega, rfl, Lib.hid (Below.refl _ _)⟩
      case round =>
        obtain ⟨k, hk, rfl, HBr⟩ := hrel
        have HBw := Lib.hid (HB5.out.trans (HBr.out.mono HB5.out.size))
        by_cases hk128 : k < 128
        · obtain ⟨y0, y1⟩ := HY.out wr HBr.out
          have e0 := HX.out wr HBw.out
          have HI := Lib.hid (HIn.out k hk128)
          have t1 : decide ((k : Int) < 128) = true := by simp; omega
          by_cases hk96 : k < 96
          · obtain ⟨b, o, p, rfl, hp, hb, d0, d1, d2, d3, d4, hv, hf⟩ := (HQ.out.below HBw.out).at_ (i := k) (by rw [← HN.out, HN96.out]; exact hk96)
            have hc := ces_ceAt hp
            rw [hc] at HI
            have k0 : (0 : Int) ≤ k := by omega
            have kn : (k : Int) < n := by have := HN96.out; omega
            have t2 : decide ((k : Int) < 96) = true := by simp; omega
            have t3 : decide (k < 96) = true := by simpa using hk96
            rw [t3] at HI
            clear hp hb hv hf hc hk96 t3
            cases hu : p.e.u with
            | false =>
              rw [hu] at d0 HI
              clear hu
              go_wp2_with fail
              refine (HI.out _).mono ?_
              rintro e w6 ⟨rfl, hb6⟩
              have HB6 := Lib.hid (HBr.out.trans (hb6.mono HBr.out.size))
              clear hb6
              go_wp2
              go_roundw
              case rel => exact ⟨k + 1, by omega, by go_num, HB6⟩
              case measure => simp [intOf]; omega
            | true =>
              rw [hu] at d0 HI
              have HVs := Lib.hid (rVis_any p.e.b p.e.f t p.B p.e.x.length p.c wr)
              generalize visB p.e.b p.e.f t = V at *
              clear hu
              go_wp2_with fail
              refine HVs.out.mono ?_
              rintro e w6 ⟨rfl, hb6⟩
              have HB6 := Lib.hid (HBr.out.trans (hb6.mono HBr.out.size))
              obtain ⟨y0, y1⟩ := HY.out w6 HB6.out
              clear hb6
              go_wp2_with fail
              refine (HI.out _).mono ?_
              rintro e w7 ⟨rfl, hb7⟩
              have HB7 := Lib.hid (HB6.out.trans (hb7.mono HB6.out.size))
              clear hb7
              cases V
              all_goals (
                go_wp2
                go_roundw
                case rel => exact ⟨k + 1, by omega, by go_num, HB7⟩
                case measure => simp [intOf]; omega)
          · have t2 : decide ((k : Int) < 96) = false := by simp; omega
            have t3 : decide (k < 96) = false := by simpa using hk96
            rw [t3] at HI
            clear hk96 t3
            go_wp2_with fail
            refine (HI.out _).mono ?_
            rintro e w6 ⟨rfl, hb6⟩
            have HB6 := Lib.hid (HBr.out.trans (hb6.mono HBr.out.size))
            clear hb6
            go_wp2
            go_roundw
            case rel => exact ⟨k + 1, by omega, by go_num, HB6⟩
            case measure => simp [intOf]; omega
        · obtain rfl : k = 128 := by omega
          go_wp2
          go_ret
          exact ⟨by simp, HB0.out.trans (HBw.out.mono HB0.out.size)⟩

set_option maxRecDepth 100000 in
theorem lifted (os : Os) (started : os.Started) (H : Type) (enc : TypeId × Value → H) :
    ReturnsInHanded {} Try.checked os 6 .any (Rows.flatSeesSpec.pre6 enc Try.prog Try.f6 Rows.flatSeesRow.domain false) (Rows.flatSeesSpec.post enc Try.prog Try.f6 false true false false) := by
  refine returnsInHanded_of_change (C := Try.checked) Try.own started (by kernel_rfl) Try.func6
    (ChangeSpec.witness6 (enc := enc) (C := Try.checked) false ⟨#[], #[.agg #[.slice none 0 0], .int .u64 0], []⟩ 8 (by kernel_rfl) (by kernel_rfl) (by kernel_rfl) (by kernel_rfl)) ?_
  intro W base args ds gs before hval0 hW hcnd _
  have hval : ∀ (j : Nat) t v, Try.f6.params[j]? = some t → args[j]? = some v → Value.okWide Try.prog W .any base t v := hval0
  have hW' := hW
  obtain ⟨p, q, hA0, hV, rfl, hfz, hnd⟩ := hW
  have hA : DataW.TrodAll enc Try.prog W 0 (fun _ => true) true Try.f6.params.toList args.toList ds p := hA0
  rw [Try.params6] at hA hval
  have hA' := hA
  obtain ⟨v0, vs0, d0, ds0, p0, q0, hargs, rfl, rfl, h0, r0⟩ := trodAll_cons hA
  obtain ⟨v1, vs1, d1, ds1, p1, q1, rfl, rfl, rfl, h1, r1⟩ := trodAll_cons r0
  obtain ⟨rfl, rfl, rfl⟩ := trodAll_nil r1
  obtain rfl : args = #[v0, v1] := by cases args; simp_all
  obtain ⟨rfl, rfl⟩ := trodVars_none hV
  obtain ⟨A0, c0, z0, rfl, sl0⟩ := open_arena (hval 0 24 v0 rfl rfl) h0
  obtain ⟨a1, rfl, w1⟩ := open_time (hval 1 25 v1 rfl rfl) h1
  clear hA0 hval0
  refine (walk A0 c0 z0 sl0 a1 w1).mono fun e W' ⟨he, bel⟩ => ?_
  subst he
  exact ⟨_, rfl, _, _, _, [], _, [], hW', trodAll_mk1 (shut_bool Try.underlying4 _), trodAll_below bel _ _ _ _ (by kernel_rfl) hA', rfl, bel.frame _, fun h => by cases h⟩

theorem proved : Rows.FlatSeesSaid :=
  OpenClaim.holds_of_wide 6 Try.f6 rfl rfl rfl rfl rfl rfl rfl ⟨rfl, rfl, rfl, rfl, rfl⟩ rfl rfl rfl rfl rfl (by kernel_rfl) Try.func6 (by kernel_rfl)
    (of_decide_eq_true (by kernel_rfl)) (by unfold Func.isWrapper; first | (rw [if_pos (by decide +kernel)]; kernel_rfl) | (rw [if_neg (by decide +kernel)]; exact ⟨rfl, rfl⟩))
    (fun os started H enc _ => lifted os started H enc)
#print axioms proved
end Go.Proofs.Ytdbcecmlakgknaa.flatSees
