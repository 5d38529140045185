/-
  Proved: the law CodecTakes, whatever bytes begin with is taken as the document says, or it is refused, returns true for every bytes, and leaves all memory as it was. No condition.
-/
import Derived.Test.YthbpnngfdpdjkaaCodRefE
import Derived.Test.YthbpnngfdpdjkaaLawFrame
import Derived.Deep.Cut
namespace Go.Proofs.Ythbpnngfdpdjkaa.codecTakes
open Go.ChangeShapes Go.WideShapes Go.ChangeAt Go.RowKit
set_option linter.unusedVariables false
set_option linter.unusedSimpArgs false
set_option maxRecDepth 100000

theorem walk_big {w : World} (A : Option Addr) (c n : Nat) (hn : 400 < n) :
    Calls Try.prog 4 #[.slice A n c] w fun e w' => e = .returned (.bool true) ∧ Below w.heap.size w w' := by
  have t1 : decide ((400 : Int) < (n : Int)) = true := by simp; omega
  go_enter Try.func4, Try.ntmps4
  go_wp2_with fail
  refine (wakes_any w).mono ?_
  rintro e w1 ⟨rfl, hb1⟩
  have HB1 := Lib.hid hb1
  clear hb1
  go_wp2
  go_ret
  exact ⟨rfl, HB1.out⟩

set_option maxHeartbeats 4000000 in
theorem walk_small {w : World} (A : Option Addr) (c : Nat) (bs : List Int) (hs : Sl w A c bs) (ho : Oct bs) (hn : bs.length ≤ 400) :
    Calls Try.prog 4 #[.slice A bs.length c] w fun e w' => e = .returned (.bool true) ∧ Below w.heap.size w w' := by
  have HV := Lib.hid (fun (W : World) (hb : Below w.heap.size w W) => takeVec_any A c bs W (hs.below hb) ho (by omega))
  have HR := Lib.hid (fun (W : World) (hb : Below w.heap.size w W) => takeRow_any A c bs W (hs.below hb) ho (by omega))
  have HW := Lib.hid (fun (W : World) (hb : Below w.heap.size w W) => takeVersion_any A c bs W (hs.below hb) ho (by omega))
  have HV' := Lib.hid (fun (W : World) (hb : Below w.heap.size w W) => show Calls Try.prog 25 #[.slice A bs.length c, .int .i64 0] W (GivesT W (tvM 0 bs)) from rTakeVec_any A c bs 0 W (hs.below hb) ho (by omega) (by omega))
  have HR' := Lib.hid (fun (W : World) (hb : Below w.heap.size w W) => rTakeRow_any A c bs W (hs.below hb) ho (by omega))
  have HW' := Lib.hid (fun (W : World) (hb : Below w.heap.size w W) => rTakeVersion_any A c bs W (hs.below hb) ho (by omega))
  rw [tkV_eq bs ho] at HV
  rw [tkR_eq bs ho] at HR
  rw [tkW_eq bs ho] at HW
  obtain ⟨n, hN⟩ : ∃ n, n = bs.length := ⟨_, rfl⟩
  rw [← hN] at hn HV HR HW HV' HR' HW' ⊢
  have t1 : decide ((400 : Int) < (n : Int)) = false := by simp; omega
  obtain ⟨E0, N0, X0, hT0⟩ : ∃ E N X, tvM 0 bs = (E, N, X) := ⟨_, _, _, rfl⟩
  obtain ⟨E1, N1, i1, X1, hT1⟩ : ∃ E N i X, trM bs = (E, N, i, X) := ⟨_, _, _, _, rfl⟩
  obtain ⟨E2, N2, b2, f2, X2, hT2⟩ : ∃ E N b f X, twM bs = (E, N, b, f, X) := ⟨_, _, _, _, _, rfl⟩
  rw [hT0] at HV HV'
  rw [hT1] at HR HR'
  rw [hT2] at HW HW'
  clear hs ho hN hT0 hT1 hT2
  obtain ⟨k0, hk0⟩ : ∃ k, k = X0.length := ⟨_, rfl⟩
  obtain ⟨k1, hk1⟩ : ∃ k, k = X1.length := ⟨_, rfl⟩
  obtain ⟨k2, hk2⟩ : ∃ k, k = X2.length := ⟨_, rfl⟩
  have HS0 := Lib.hid (fun (W : World) (A B : Option Addr) (c d : Nat) (h : Vec .i32 W A c X0) (h' : Vec .i32 W B d X0) => show Calls Try.prog 17 #[.slice A k0 c, .slice B k0 d] W fun e w' => e = .returned (.bool true) ∧ Below W.heap.size W w' from by
    have k := rSame_any A B c d X0 X0 W h h'
    rw [← hk0, decide_eq_true rfl] at k
    exact k)
  have HS1 := Lib.hid (fun (W : World) (A B : Option Addr) (c d : Nat) (h : Vec .i32 W A c X1) (h' : Vec .i32 W B d X1) => show Calls Try.prog 28 #[.agg #[.int .u64 i1, .slice A k1 c], .agg #[.int .u64 i1, .slice B k1 d]] W fun e w' => e = .returned (.bool true) ∧ Below W.heap.size W w' from by
    have k := rSameRow_any i1 i1 A B c d X1 X1 W h h'
    rw [← hk1, show sameR i1 i1 X1 X1 = true by simp [sameR]] at k
    exact k)
  have HS2 := Lib.hid (fun (W : World) (A B : Option Addr) (c d : Nat) (h : Vec .i32 W A c X2) (h' : Vec .i32 W B d X2) => show Calls Try.prog 15 #[.agg #[.int .u64 b2, .int .u64 f2, .slice A k2 c], .agg #[.int .u64 b2, .int .u64 f2, .slice B k2 d]] W fun e w' => e = .returned (.bool true) ∧ Below W.heap.size W w' from by
    have k := rSameVersion_any b2 b2 f2 f2 A B c d X2 X2 W h h'
    rw [← hk2, show sameV b2 b2 f2 f2 X2 X2 = true by simp [sameV]] at k
    exact k)
  have HK0 := Lib.hid hk0
  have HK1 := Lib.hid hk1
  have HK2 := Lib.hid hk2
  have e0 : (E0 != E0) = false := by simp
  have m0 : (N0 != N0) = false := by simp
  have e1 : (E1 != E1) = false := by simp
  have m1 : (N1 != N1) = false := by simp
  have e2 : (E2 == E2) = true := by simp
  have m2 : (N2 == N2) = true := by simp
  clear hk0 hk1 hk2
  go_enter Try.func4, Try.ntmps4
  go_upto_region 9 with (first
    | (go_at_call 8; refine (wakes_any w).mono ?_; rintro e w1 ⟨rfl, hb1⟩; have HB1 := Lib.hid hb1; clear hb1)
    | (go_at_call 24; refine (HV.out w1 HB1.out).mono ?_; rintro e w2 ⟨A2, c2, rfl, hv2, hb2⟩; dsimp only at hv2 ⊢; rw [← HK0.out]; have HV2 := Lib.hid hv2; have HB2 := Lib.hid (HB1.out.trans (hb2.mono HB1.out.size)); clear hv2 hb2)
    | (go_at_call 25; refine (HV'.out w2 HB2.out).mono ?_; rintro e w3 ⟨A3, c3, rfl, hv3, hb3⟩; dsimp only at hv3 ⊢; rw [← HK0.out]; have HV3 := Lib.hid hv3; have HV2b := Lib.hid (HV2.out.below hb3); have HB3 := Lib.hid (HB2.out.trans (hb3.mono HB2.out.size)); clear hv3 hb3)
    | (go_at_call 17; refine (HS0.out w3 A2 A3 c2 c3 HV2b.out HV3.out).mono ?_; rintro e w4 ⟨rfl, hb4⟩; have HB4 := Lib.hid (HB3.out.trans (hb4.mono HB3.out.size)); clear hb4))
  clear HV2 HV3 HV2b HB3 HB2 HB1 HS0 HV HV'
  go_upto_region 13 with (first
    | (go_at_call 26; refine (HR.out w4 HB4.out).mono ?_; rintro e w5 ⟨A5, c5, rfl, hv5, hb5⟩; dsimp only at hv5 ⊢; rw [← HK1.out]; have x5 := (Below.refl w5.heap.size w5).alloc (Nat.le_refl _) (.cells #[.int .u64 i1, .slice A5 k1 c5] 25); have HV5 := Lib.hid (hv5.below x5); have HB5' := HB4.out.trans (hb5.mono HB4.out.size); have HB5 := Lib.hid (HB5'.trans (x5.mono HB5'.size)); have HX5 := Lib.hid (heap_alloc_new w5 (.cells #[.int .u64 i1, .slice A5 k1 c5] 25)); clear hv5 hb5 x5 HB5')
    | (go_at_call 27; refine (HR'.out _ HB5.out).mono ?_; rintro e w6 ⟨A6, c6, rfl, hv6, hb6⟩; dsimp only at hv6 ⊢; rw [← HK1.out]; have x6 := (Below.refl w6.heap.size w6).alloc (Nat.le_refl _) (.cells #[.int .u64 i1, .slice A6 k1 c6] 25); have hb6' := hb6.trans (x6.mono hb6.size); have HV6 := Lib.hid (hv6.below x6); have HV5b := Lib.hid (HV5.out.below hb6'); have HB6 := Lib.hid (HB5.out.trans (hb6'.mono HB5.out.size)); have y5 := (hb6'.block w5.heap.size (lt_of_block HX5.out)).trans HX5.out; have y6 := heap_alloc_new w6 (.cells #[.int .u64 i1, .slice A6 k1 c6] 25); have q0 := (cell_of_row _ _ 0 _ _ _ y5).trans rfl; have q1 := (cell_of_row _ _ 1 _ _ _ y5).trans rfl; have q2 := (cell_of_row _ _ 0 _ _ _ y6).trans rfl; have q3 := (cell_of_row _ _ 1 _ _ _ y6).trans rfl; clear hv6 hb6 x6 hb6' y5 y6)
    | (go_at_call 28; refine (HS1.out _ A5 A6 c5 c6 HV5b.out HV6.out).mono ?_; rintro e w7 ⟨rfl, hb7⟩; have HB7 := Lib.hid (HB6.out.trans (hb7.mono HB6.out.size)); clear hb7 q0 q1 q2 q3))
  clear HV5 HV6 HV5b HB4 HB5 HB6 HS1 HR HR' HX5
  go_wp2_with (first
    | (go_at_call 29; refine (HW.out w7 HB7.out).mono ?_; rintro e w5 ⟨A5, c5, rfl, hv5, hb5⟩; dsimp only at hv5 ⊢; rw [← HK2.out]; have x5 := (Below.refl w5.heap.size w5).alloc (Nat.le_refl _) (.cells #[.int .u64 b2, .int .u64 f2, .slice A5 k2 c5] 27); have HV5 := Lib.hid (hv5.below x5); have HB5' := HB7.out.trans (hb5.mono HB7.out.size); have HB5 := Lib.hid (HB5'.trans (x5.mono HB5'.size)); have HX5 := Lib.hid (heap_alloc_new w5 (.cells #[.int .u64 b2, .int .u64 f2, .slice A5 k2 c5] 27)); clear hv5 hb5 x5 HB5')
    | (go_at_call 30; refine (HW'.out _ HB5.out).mono ?_; rintro e w6 ⟨A6, c6, rfl, hv6, hb6⟩; dsimp only at hv6 ⊢; rw [← HK2.out]; have x6 := (Below.refl w6.heap.size w6).alloc (Nat.le_refl _) (.cells #[.int .u64 b2, .int .u64 f2, .slice A6 k2 c6] 27); have hb6' := hb6.trans (x6.mono hb6.size); have HV6 := Lib.hid (hv6.below x6); have HV5b := Lib.hid (HV5.out.below hb6'); have HB6 := Lib.hid (HB5.out.trans (hb6'.mono HB5.out.size)); have y5 := (hb6'.block w5.heap.size (lt_of_block HX5.out)).trans HX5.out; have y6 := heap_alloc_new w6 (.cells #[.int .u64 b2, .int .u64 f2, .slice A6 k2 c6] 27); have q0 := (cell_of_row _ _ 0 _ _ _ y5).trans rfl; have q1 := (cell_of_row _ _ 1 _ _ _ y5).trans rfl; have q4 := (cell_of_row _ _ 2 _ _ _ y5).trans rfl; have q2 := (cell_of_row _ _ 0 _ _ _ y6).trans rfl; have q3 := (cell_of_row _ _ 1 _ _ _ y6).trans rfl; have q5 := (cell_of_row _ _ 2 _ _ _ y6).trans rfl; clear hv6 hb6 x6 hb6' y5 y6)
    | (go_at_call 15; refine (HS2.out _ A5 A6 c5 c6 HV5b.out HV6.out).mono ?_; rintro e w8 ⟨rfl, hb8⟩; have HB8 := Lib.hid (HB6.out.trans (hb8.mono HB6.out.size)); clear hb8))
  go_ret
  exact ⟨rfl, HB8.out⟩

theorem walk {w : World} (A : Option Addr) (c : Nat) (bs : List Int) (hs : Sl w A c bs) (ho : Oct bs) :
    Calls Try.prog 4 #[.slice A bs.length c] w fun e w' => e = .returned (.bool true) ∧ Below w.heap.size w w' := by
  by_cases hn : bs.length ≤ 400
  · exact walk_small A c bs hs ho hn
  · exact walk_big A c bs.length (by omega)

set_option maxRecDepth 100000 in
theorem lifted (os : Os) (started : os.Started) (H : Type) (enc : TypeId × Value → H) :
    ReturnsInHanded {} Try.checked os 4 .any (Rows.codecTakesSpec.pre6 enc Try.prog Try.f4 Rows.codecTakesRow.domain false) (Rows.codecTakesSpec.post enc Try.prog Try.f4 false true false false) := by
  refine returnsInHanded_of_change (C := Try.checked) Try.own started (by kernel_rfl) Try.func4
    (ChangeSpec.witness6 (enc := enc) (C := Try.checked) false ⟨#[], #[.slice none 0 0], []⟩ 8 (by kernel_rfl) (by kernel_rfl) (by kernel_rfl) (by kernel_rfl)) ?_
  intro W base args ds gs before hval0 hW hcnd _
  have hval : ∀ (j : Nat) t v, Try.f4.params[j]? = some t → args[j]? = some v → Value.okWide Try.prog W .any base t v := hval0
  have hW' := hW
  obtain ⟨p, q, hA0, hV, rfl, hfz, hnd⟩ := hW
  have hA : DataW.TrodAll enc Try.prog W 0 (fun _ => true) true Try.f4.params.toList args.toList ds p := hA0
  rw [Try.params4] at hA hval
  have hA' := hA
  obtain ⟨v0, vs0, d0, ds0, p0, q0, hargs, rfl, rfl, h0, r0⟩ := trodAll_cons hA
  obtain ⟨rfl, rfl, rfl⟩ := trodAll_nil r0
  obtain rfl : args = #[v0] := by cases args; simp_all
  obtain ⟨rfl, rfl⟩ := trodVars_none hV
  obtain ⟨A0, len0, c0, rfl⟩ := okWide_slice Try.underlying29 (hval 0 29 v0 rfl rfl)
  obtain ⟨z0, rfl, sl0, oc0⟩ := open_bytes h0
  clear hA0 hval0
  refine (walk A0 c0 z0 sl0 oc0).mono fun e W' ⟨he, bel⟩ => ?_
  subst he
  exact ⟨_, rfl, _, _, _, [], _, [], hW', trodAll_mk1 (shut_bool Try.underlying4 _), trodAll_below bel _ _ _ _ (by kernel_rfl) hA', rfl, bel.frame _, fun h => by cases h⟩

theorem proved : Rows.CodecTakesSaid :=
  OpenClaim.holds_of_wide 4 Try.f4 rfl rfl rfl rfl rfl rfl rfl ⟨rfl, rfl, rfl, rfl, rfl⟩ rfl rfl rfl rfl rfl (by kernel_rfl) Try.func4 (by kernel_rfl)
    (of_decide_eq_true (by kernel_rfl)) (by unfold Func.isWrapper; first | (rw [if_pos (by decide +kernel)]; kernel_rfl) | (rw [if_neg (by decide +kernel)]; exact ⟨rfl, rfl⟩))
    (fun os started H enc _ => lifted os started H enc)
#print axioms proved
end Go.Proofs.Ythbpnngfdpdjkaa.codecTakes

