/-
  DiskNils: which disks there are, and what nothing tells: for every row of rooms, and operation.
-/
import Derived.Test.YteknppfcndeooaaLawOps
namespace Go.Proofs.Yteknppfcndeooaa.diskNils
open Go.ChangeShapes Go.WideShapes Go.ChangeAt Go.RowKit
set_option linter.unusedVariables false
set_option maxRecDepth 100000

theorem copy_nil (w : World) : Calls Try.prog 14 #[.pointer none] w fun e w' => e = .returned (.pointer none) ∧ w = w' := by
  go_enter Try.func14, Try.ntmps14
  go_wp2
  go_ret
  exact ⟨rfl, rfl⟩

set_option maxHeartbeats 4000000 in
theorem walk {w : World} (A : Option Addr) (c : Nat) (xs : List Int) (hr : RdI w A xs) (hc : xs.length ≤ c) (hcm : c ≤ 9223372036854775807) (hwf : ∀ y ∈ xs, I64 y) (o : AO) (B : Option Addr) (cb : Nat) (K : Option Addr) (kc : Nat) (hw : o.Wf) (ho : OpAt w w.heap.size o B cb K kc) :
    Calls Try.prog 4 #[.slice A xs.length c, opV o B cb K kc] w fun e w' => e = .returned (.bool true) ∧ Below w.heap.size w w' := by
  obtain ⟨W0, hW0⟩ : ∃ W0, W0 = w.alloc (.cells #[.int .i64 o.kind, .int .i64 o.file, .int .i64 o.n, .slice B o.bs.length cb, .slice K o.keep.length kc] 37) := ⟨_, rfl⟩
  have hb0 : Below w.heap.size w W0 := by rw [hW0]; exact (Below.refl _ w).alloc (Nat.le_refl _) _
  have hs0 : w.heap.size < W0.heap.size := by rw [hW0]; simp
  have hx0 : W0.heap[w.heap.size]? = some (.cells #[.int .i64 o.kind, .int .i64 o.file, .int .i64 o.n, .slice B o.bs.length cb, .slice K o.keep.length kc] 37 (0, 0)) := by rw [hW0]; exact heap_alloc_new w _
  have HW0 := Lib.hid hW0
  have HB0 := Lib.hid hb0
  have HX0 := Lib.hid hx0
  have HO := Lib.hid ho
  have HR := Lib.hid hr
  have HWF := Lib.hid hwf
  obtain ⟨n, hn⟩ : ∃ n, n = xs.length := ⟨_, rfl⟩
  have HN := Lib.hid hn
  rw [← hn] at hc ⊢
  have hE := fun (W : World) (hb : Below w.heap.size w W) => run_nil o hw B cb K kc (HO.out.below hb)
  have HE := Lib.hid hE
  dsimp only [opV] at HE ⊢
  have hwq := hw.f
  generalize hob : o.bs.length = bn at *
  generalize hok : o.keep.length = kn at *
  clear hW0 hb0 hx0 ho hr hwf hn hE hob hok hw
  go_enter Try.func4, Try.ntmps4
  go_wp2_with (go_at_call 9; rw [← HW0.out]; refine (wakes_any _).mono ?_; rintro e w1 ⟨rfl, hb1⟩; have HB1 := Lib.hid hb1; clear hb1)
  go_loopw [17] (fun i wr => ∃ k : Nat, i = .int .i64 k ∧ k ≤ n ∧ k ≤ 10 ∧ Hid (Below W0.heap.size W0 wr)) (fun i _ => n - (match i with | .int _ k => k.toNat | _ => 0))
  case atStart => exact ⟨0, rfl, Nat.zero_le _, Nat.zero_le _, HB1⟩
  case round =>
    obtain ⟨k, rfl, hk, hk10, H⟩ := hrel
    have hbw := HB0.out.trans (H.out.mono (Nat.le_of_lt hs0))
    have hxw : wr.heap[w.heap.size]? = some (.cells #[.int .i64 o.kind, .int .i64 o.file, .int .i64 o.n, .slice B bn cb, .slice K kn kc] 37 (0, 0)) := (H.out.block _ hs0).trans HX0.out
    have y0 : wr.cell? ⟨w.heap.size, 0, none⟩ = some (.int .i64 o.kind) := by simp [World.cell?, hxw]
    have y1 : wr.cell? ⟨w.heap.size, 1, none⟩ = some (.int .i64 o.file) := by simp [World.cell?, hxw]
    have y2 : wr.cell? ⟨w.heap.size, 2, none⟩ = some (.int .i64 o.n) := by simp [World.cell?, hxw]
    have y3 : wr.cell? ⟨w.heap.size, 3, none⟩ = some (.slice B bn cb) := by simp [World.cell?, hxw]
    have y4 : wr.cell? ⟨w.heap.size, 4, none⟩ = some (.slice K kn kc) := by simp [World.cell?, hxw]
    have HBW := Lib.hid hbw
    have HXW := Lib.hid hxw
    clear hbw hxw
    by_cases hkn : k < n
    · have hkk : (k : Int) < n := by omega
      have k0 : (0 : Int) ≤ (k : Int) := by omega
      obtain ⟨b, of, hA, hcell⟩ := HR.out (by rw [← HN.out]; omega)
      subst hA
      have hcl : wr.cell? ⟨b, of + k, none⟩ = some (.int .i64 (xs.getD k 0)) := by
        have h1 := hcell k (by rw [← HN.out]; exact hkn)
        exact (HBW.out.cell (p := ⟨b, of + k, none⟩) (cell_lt h1)).trans h1
      have hy : I64 (xs.getD k 0) := by
        have hkx : k < xs.length := by rw [← HN.out]; exact hkn
        exact HWF.out _ (by simp [List.getD, List.getElem?_eq_getElem hkx])
      clear hcell
      generalize xs.getD k 0 = y at hcl hy
      have hbd := bounds_i64 hy
      by_cases hk1 : k = 10
      · subst hk1
        go_wp2_with (first
          | (go_at_call 12; refine (HE.out _ HBW.out).mono ?_; rintro e w4 ⟨rfl, hb4⟩; have y1' : w4.cell? ⟨w.heap.size, 1, none⟩ = some (.int .i64 o.file) := (by have := (hb4.block _ (lt_of_block HXW.out)).trans HXW.out; simp [World.cell?, this]); have HB4 := Lib.hid hb4; clear hb4)
          | (go_at_call 14; refine (copy_nil _).mono ?_; rintro e w5 ⟨rfl, rfl⟩)
          | (go_at_call 19; refine (room_nil _).mono ?_; rintro e w5 ⟨rfl, rfl⟩)
          | (go_at_call 20; refine (files_nil _).mono ?_; rintro e w5 ⟨rfl, rfl⟩)
          | (go_at_call 21; refine (size_nil _ _).mono ?_; rintro e w5 ⟨rfl, rfl⟩)
          | (go_at_call 22; refine (pending_nil _).mono ?_; rintro e w5 ⟨rfl, rfl⟩)
          | (go_at_call 23; refine (ops_nil _).mono ?_; rintro e w5 ⟨rfl, rfl⟩)
          | (go_at_call 24; refine (dead_nil _).mono ?_; rintro e w5 ⟨rfl, rfl⟩))
        go_ret
        exact ⟨rfl, HBW.out.trans (HB4.out.mono HBW.out.size)⟩
      · have hk2 : ((k : Int) == 10) = false := by simp; omega
        have hk3 : k ≠ 10 := hk1
        by_cases hin : 1 ≤ y ∧ y ≤ 65536
        · obtain ⟨i1, i2⟩ := hin
          have j1 : decide (y < 1) = false := by simp; omega
          go_wp2_with (first
            | (go_at_call 10; refine (new_yes _ y i1 i2).mono ?_; rintro e w2 ⟨rfl, hd2, hb2⟩; obtain ⟨mb, f, A', c', hdd⟩ := hd2; have kr := hdd.c0; have HB2 := Lib.hid hb2; clear hb2 hdd)
            | (go_at_call 19; refine (room_any _ _ y kr).mono ?_; rintro e w3 ⟨rfl, rfl⟩))
          go_roundw
          case rel => exact ⟨k + 1, by simp, by omega, by omega, Lib.hid (H.out.trans (HB2.out.mono H.out.size))⟩
          case measure => simp; omega
        · have hbad : y < 1 ∨ 65536 < y := by omega
          rcases hbad with hlo | hhi
          · go_wp2_with (go_at_call 10; refine (new_no _ y (.inl hlo)).mono ?_; rintro e w2 ⟨rfl, rfl⟩)
            go_roundw
            case rel => exact ⟨k + 1, by simp, by omega, by omega, H⟩
            case measure => simp; omega
          · have h1y : 1 ≤ y := by omega
            have j2 : decide (y ≤ 65536) = false := by simp; omega
            go_wp2_with (go_at_call 10; refine (new_no _ y (.inr hhi)).mono ?_; rintro e w2 ⟨rfl, rfl⟩)
            go_roundw
            case rel => exact ⟨k + 1, by simp, by omega, by omega, H⟩
            case measure => simp; omega
    · obtain rfl : k = n := by omega
      go_wp2_with (first
        | (go_at_call 12; refine (HE.out _ HBW.out).mono ?_; rintro e w4 ⟨rfl, hb4⟩; have y1' : w4.cell? ⟨w.heap.size, 1, none⟩ = some (.int .i64 o.file) := (by have := (hb4.block _ (lt_of_block HXW.out)).trans HXW.out; simp [World.cell?, this]); have HB4 := Lib.hid hb4; clear hb4)
        | (go_at_call 14; refine (copy_nil _).mono ?_; rintro e w5 ⟨rfl, rfl⟩)
        | (go_at_call 19; refine (room_nil _).mono ?_; rintro e w5 ⟨rfl, rfl⟩)
        | (go_at_call 20; refine (files_nil _).mono ?_; rintro e w5 ⟨rfl, rfl⟩)
        | (go_at_call 21; refine (size_nil _ _).mono ?_; rintro e w5 ⟨rfl, rfl⟩)
        | (go_at_call 22; refine (pending_nil _).mono ?_; rintro e w5 ⟨rfl, rfl⟩)
        | (go_at_call 23; refine (ops_nil _).mono ?_; rintro e w5 ⟨rfl, rfl⟩)
        | (go_at_call 24; refine (dead_nil _).mono ?_; rintro e w5 ⟨rfl, rfl⟩))
      go_ret
      exact ⟨rfl, HBW.out.trans (HB4.out.mono HBW.out.size)⟩

set_option maxRecDepth 100000 in
theorem lifted (os : Os) (started : os.Started) (H : Type) (enc : TypeId × Value → H) :
    ReturnsInHanded {} Try.checked os 4 .any (Rows.diskNilsSpec.pre6 enc Try.prog Try.f4 Rows.diskNilsRow.domain false) (Rows.diskNilsSpec.post enc Try.prog Try.f4 false true false false) := by
  refine returnsInHanded_of_change (C := Try.checked) Try.own started (by kernel_rfl) Try.func4
    (ChangeSpec.witness6 (enc := enc) (C := Try.checked) false ⟨#[], #[.slice none 0 0, .agg #[.int .i64 0, .int .i64 0, .int .i64 0, .slice none 0 0, .slice none 0 0]], []⟩ 8 (by kernel_rfl) (by kernel_rfl) (by kernel_rfl) (by kernel_rfl)) ?_
  intro W base args ds gs before hval0 hW hcnd _
  have hval : ∀ (j : Nat) t v, Try.f4.params[j]? = some t → args[j]? = some v → Value.okWide Try.prog W .any base t v := hval0
  have hW' := hW
  obtain ⟨p, q, hA0, hV, rfl, hfz, hnd⟩ := hW
  have hA : DataW.TrodAll enc Try.prog W 0 (fun _ => true) true Try.f4.params.toList args.toList ds p := hA0
  rw [Try.params4] at hA hval
  have hA' := hA
  obtain ⟨v0, vs0, d0, ds0, p0, q0, hargs, rfl, rfl, h0, r0⟩ := trodAll_cons hA
  obtain ⟨v1, vs1, d1, ds1, p1, q1, rfl, rfl, rfl, h1, r1⟩ := trodAll_cons r0
  obtain ⟨rfl, rfl, rfl⟩ := trodAll_nil r1
  obtain rfl : args = #[v0, v1] := by cases args; simp_all
  obtain ⟨rfl, rfl⟩ := trodVars_none hV
  obtain ⟨A0, len0, c0, rfl⟩ := okWide_slice Try.underlying48 (hval 0 48 v0 rfl rfl)
  obtain ⟨z0, rfl, sl0, le0, mx0, wx0⟩ := open_rooms h0
  obtain ⟨o1, B1, cb1, K1, kc1, rfl, wf1, op1⟩ := open_op (hval 1 37 v1 rfl rfl) h1
  clear hA0 hval0
  refine (walk A0 c0 z0 sl0 le0 mx0 wx0 o1 B1 cb1 K1 kc1 wf1 op1).mono fun e W' ⟨he, bel⟩ => ?_
  subst he
  exact ⟨_, rfl, _, _, _, [], _, [], hW', trodAll_mk1 (shut_bool Try.underlying4 _), trodAll_below bel _ _ _ _ (by kernel_rfl) hA', rfl, bel.frame _, fun h => by cases h⟩

theorem proved : Rows.DiskNilsSaid :=
  OpenClaim.holds_of_wide 4 Try.f4 rfl rfl rfl rfl rfl rfl rfl ⟨rfl, rfl, rfl, rfl, rfl⟩ rfl rfl rfl rfl rfl (by kernel_rfl) Try.func4 (by kernel_rfl)
    (of_decide_eq_true (by kernel_rfl)) (by unfold Func.isWrapper; first | (rw [if_pos (by decide +kernel)]; kernel_rfl) | (rw [if_neg (by decide +kernel)]; exact ⟨rfl, rfl⟩))
    (fun os started H enc _ => lifted os started H enc)
#print axioms proved
end Go.Proofs.Yteknppfcndeooaa.diskNils
