/-
  Proved: the law CodecTaken, the bytes of what was taken are those that were taken, returns true for every bytes, and leaves all memory as it was. No condition.
-/
import Derived.Test.YthbpnngfdpdjkaaCodEq
import Derived.Test.YthbpnngfdpdjkaaLawFrame
import Derived.Deep.Cut
namespace Go.Proofs.Ythbpnngfdpdjkaa.codecTaken
open Go.ChangeShapes Go.WideShapes Go.ChangeAt Go.RowKit
set_option linter.unusedVariables false
set_option linter.unusedSimpArgs false
set_option maxRecDepth 100000

theorem walk_big {w : World} (A : Option Addr) (c n : Nat) (hn : 400 < n) :
    Calls Try.prog 6 #[.slice A n c] w fun e w' => e = .returned (.bool true) ∧ Below w.heap.size w w' := by
  have t1 : decide ((400 : Int) < (n : Int)) = true := by simp; omega
  go_enter Try.func6, Try.ntmps6
  go_wp2_with fail
  refine (wakes_any w).mono ?_
  rintro e w1 ⟨rfl, hb1⟩
  have HB1 := Lib.hid hb1
  clear hb1
  go_wp2
  go_ret
  exact ⟨rfl, HB1.out⟩

/-- What Vec, Row, Version give of what was taken, as bytes that begin the others. -/
theorem same_begin {bs P : List Int} (h : bs.take P.length = P) : decide (P = bs.take P.length) = true := decide_eq_true h.symm

set_option maxHeartbeats 4000000 in
theorem walk_small {w : World} (A : Option Addr) (c : Nat) (bs : List Int) (hs : Sl w A c bs) (ho : Oct bs) (hn : bs.length ≤ 400) :
    Calls Try.prog 6 #[.slice A bs.length c] w fun e w' => e = .returned (.bool true) ∧ Below w.heap.size w w' := by
  have HV := Lib.hid (fun (W : World) (hb : Below w.heap.size w W) => takeVec_any A c bs W (hs.below hb) ho (by omega))
  have HR := Lib.hid (fun (W : World) (hb : Below w.heap.size w W) => takeRow_any A c bs W (hs.below hb) ho (by omega))
  have HW := Lib.hid (fun (W : World) (hb : Below w.heap.size w W) => takeVersion_any A c bs W (hs.below hb) ho (by omega))
  rw [tkV_eq bs ho] at HV
  rw [tkR_eq bs ho] at HR
  rw [tkW_eq bs ho] at HW
  have HE := Lib.hid (fun (W : World) (hb : Below w.heap.size w W) (B : Option Addr) (d : Nat) (P : List Int) (hP : Vec .u8 W B d P) (hl : P.length ≤ bs.length) (ht : bs.take P.length = P) => show Calls Try.prog 32 #[.slice B P.length d, .slice A P.length c] W fun e w' => e = .returned (.bool true) ∧ Below W.heap.size W w' from by
    have h := eqB_any B A d c P (bs.take P.length) W hP ((vec8 (hs.below hb) ho).begin P.length)
    rw [same_begin ht, List.length_take, Nat.min_eq_left hl] at h
    exact h)
  obtain ⟨n, hN⟩ : ∃ n, n = bs.length := ⟨_, rfl⟩
  have hroom := hs.room
  have hmost := hs.most
  rw [← hN] at hroom hn HV HR HW HE ⊢
  have HN := Lib.hid hN
  have t1 : decide ((400 : Int) < (n : Int)) = false := by simp; omega
  obtain ⟨E0, N0, X0, hT0⟩ : ∃ E N X, tvM 0 bs = (E, N, X) := ⟨_, _, _, rfl⟩
  obtain ⟨E1, N1, i1, X1, hT1⟩ : ∃ E N i X, trM bs = (E, N, i, X) := ⟨_, _, _, _, rfl⟩
  obtain ⟨E2, N2, b2, f2, X2, hT2⟩ : ∃ E N b f X, twM bs = (E, N, b, f, X) := ⟨_, _, _, _, _, rfl⟩
  rw [hT0] at HV
  rw [hT1] at HR
  rw [hT2] at HW
  have HO := Lib.hid ho
  have K0 := Lib.hid (fun (h : E0 = 0) => tv_taken (a := 0) (n := N0) (xs := X0) ho (by rw [hT0, h]))
  have K1 := Lib.hid (fun (h : E1 = 0) => tr_taken (n := N1) (i := i1) (xs := X1) ho (by rw [hT1, h]))
  have K2 := Lib.hid (fun (h : E2 = 0) => tw_taken (n := N2) (b := b2) (f := f2) (xs := X2) ho (by rw [hT2, h]))
  have KN := Lib.hid (fun (h : E2 ≠ 0) => tw_none (bs := bs) hT2 h)
  clear hs ho hN hT0 hT1 hT2
  go_enter Try.func6, Try.ntmps6
  go_upto_if 30 with (first
    | (go_at_call 8; refine (wakes_any w).mono ?_; rintro e w1 ⟨rfl, hb1⟩; have HB1 := Lib.hid hb1; clear hb1)
    | (go_at_call 24; refine (HV.out w1 HB1.out).mono ?_; rintro e w2 ⟨A2, c2, rfl, hv2, hb2⟩; dsimp only at hv2 ⊢; have HV2 := Lib.hid hv2; have HB2 := Lib.hid (HB1.out.trans (hb2.mono HB1.out.size)); clear hv2 hb2))
  go_cut [] from 18 (fun wx => Hid (Below w.heap.size w wx))
  case first =>
    by_cases h0 : E0 = 0
    · have K := K0.out h0
      subst h0
      obtain ⟨P, hP⟩ : ∃ P, P = vecB X0 := ⟨_, rfl⟩
      have HVE := Lib.hid (vec_any A2 c2 X0 w2 HV2.out)
      have e1 : vecE X0 = 0 := by unfold vecE; rw [if_pos K.1]
      have e2 : vecO X0 = P := by unfold vecO; rw [if_pos K.1, hP]
      rw [e1, e2] at HVE
      rw [← hP, List.drop_zero] at K
      have HK := Lib.hid K
      have HPO := Lib.hid (show Oct P by rw [hP]; exact vecB_oct _)
      have hNp : N0 = ((P.length : Nat) : Int) := by have := K.2.1; simpa using this
      have hpn : P.length ≤ n := by rw [HN.out]; have := K.2.2.1; simpa using this
      subst hNp
      clear K hP e1 e2
      generalize hpl : P.length = p at *
      have HPL := Lib.hid hpl
      clear hpl
      go_wp2_with (first
        | (go_at_call 9; refine HVE.out.mono ?_; rintro e w3 ⟨A3, c3, rfl, hs3, hb3⟩; rw [HPL.out]; have HS3 := Lib.hid (vec8 hs3 HPO.out); have HB3 := Lib.hid (HB2.out.trans (hb3.mono HB2.out.size)); have HE3 := Lib.hid (HE.out w3 HB3.out A3 c3 P HS3.out (by rw [HPL.out]; exact hpn) (by rw [HPL.out]; exact HK.out.2.2.2)); rw [HPL.out] at HE3; clear hs3 hb3)
        | (go_at_call 32; refine HE3.out.mono ?_; rintro e w4 ⟨rfl, hb4⟩; have HB4 := Lib.hid (HB3.out.trans (hb4.mono HB3.out.size)); clear hb4))
      go_meet
      case rel => exact HB4
    · have t2 : (E0 == 0) = false := by simpa using h0
      go_wp2
      go_meet
      case rel => exact HB2
  have HBc := Lib.hid hcut.out
  clear hcut HV2 HB1 HB2
  go_upto_if 53 with (go_at_call 26; refine (HR.out wc HBc.out).mono ?_; rintro e w5 ⟨A5, c5, rfl, hv5, hb5⟩; dsimp only at hv5 ⊢; have HV5 := Lib.hid hv5; have HB5 := Lib.hid (HBc.out.trans (hb5.mono HBc.out.size)); clear hv5 hb5)
  have hbx5 : Below w5.heap.size w5 (w5.alloc (.cells #[.int .u64 i1, .slice A5 X1.length c5] 25)) := (Below.refl _ w5).alloc (Nat.le_refl _) _
  have HB6 := Lib.hid (HB5.out.trans (hbx5.mono HB5.out.size))
  have HV6 := Lib.hid (HV5.out.below hbx5)
  clear hbx5
  go_cut [] from 18 (fun wx => Hid (Below w.heap.size w wx))
  case first =>
    by_cases h0 : E1 = 0
    · have K := K1.out h0
      subst h0
      obtain ⟨P, hP⟩ : ∃ P, P = rowB i1 X1 := ⟨_, rfl⟩
      have HVE := Lib.hid (row_any i1 A5 c5 X1 _ (u64_wf K.2.2.2.2) HV6.out)
      have e1 : rowE X1 = 0 := by unfold rowE; rw [if_pos K.1]
      have e2 : rowO i1 X1 = P := by unfold rowO; rw [if_pos K.1, hP]
      rw [e1, e2] at HVE
      rw [← hP] at K
      have HK := Lib.hid K
      have HPO := Lib.hid (show Oct P by rw [hP]; exact rowB_oct _ _)
      have hNp : N1 = ((P.length : Nat) : Int) := K.2.1
      have hpn : P.length ≤ n := by rw [HN.out]; exact K.2.2.1
      subst hNp
      clear K hP e1 e2
      generalize hpl : P.length = p at *
      have HPL := Lib.hid hpl
      clear hpl
      generalize X1.length = k1 at *
      go_wp2_with (first
        | (go_at_call 10; refine HVE.out.mono ?_; rintro e w3 ⟨A3, c3, rfl, hs3, hb3⟩; rw [HPL.out]; have HS3 := Lib.hid (vec8 hs3 HPO.out); have HB3 := Lib.hid (HB6.out.trans (hb3.mono HB6.out.size)); have HE3 := Lib.hid (HE.out w3 HB3.out A3 c3 P HS3.out (by rw [HPL.out]; exact hpn) (by rw [HPL.out]; exact HK.out.2.2.2.1)); rw [HPL.out] at HE3; clear hs3 hb3)
        | (go_at_call 32; refine HE3.out.mono ?_; rintro e w4 ⟨rfl, hb4⟩; have HB4 := Lib.hid (HB3.out.trans (hb4.mono HB3.out.size)); clear hb4))
      go_meet
      case rel => exact HB4
    · have t2 : (E1 == 0) = false := by simpa using h0
      go_wp2
      go_meet
      case rel => exact HB6
  have HBd := Lib.hid hcut.out
  clear hcut HV5 HB5 HV6 HB6 HBc
  go_upto_if 76 with (go_at_call 29; refine (HW.out _ HBd.out).mono ?_; rintro e w7 ⟨A7, c7, rfl, hv7, hb7⟩; dsimp only at hv7 ⊢; have HV7 := Lib.hid hv7; have HB7 := Lib.hid (HBd.out.trans (hb7.mono HBd.out.size)); clear hv7 hb7)
  have hbx7 : Below w7.heap.size w7 (w7.alloc (.cells #[.int .u64 b2, .int .u64 f2, .slice A7 X2.length c7] 27)) := (Below.refl _ w7).alloc (Nat.le_refl _) _
  have HB8 := Lib.hid (HB7.out.trans (hbx7.mono HB7.out.size))
  have HV8 := Lib.hid (HV7.out.below hbx7)
  clear hbx7
  by_cases h0 : E2 = 0
  · have K := K2.out h0
    subst h0
    obtain ⟨P, hP⟩ : ∃ P, P = verB b2 f2 X2 := ⟨_, rfl⟩
    have HVE := Lib.hid (ver_any b2 f2 A7 c7 X2 _ (u64_wf K.2.2.2.2.1) (u64_wf K.2.2.2.2.2) HV8.out)
    have e1 : verE b2 f2 X2 = 0 := by unfold verE; rw [if_pos K.1]
    have e2 : verO b2 f2 X2 = P := by unfold verO; rw [if_pos K.1, hP]
    rw [e1, e2] at HVE
    rw [← hP] at K
    have HK := Lib.hid K
    have HPO := Lib.hid (show Oct P by rw [hP]; exact verB_oct _ _ _)
    have hNp : N2 = ((P.length : Nat) : Int) := K.2.1
    have hpn : P.length ≤ n := by rw [HN.out]; exact K.2.2.1
    subst hNp
    clear K hP e1 e2
    generalize hpl : P.length = p at *
    have HPL := Lib.hid hpl
    clear hpl
    generalize X2.length = k2 at *
    go_wp2_with (first
      | (go_at_call 11; refine HVE.out.mono ?_; rintro e w3 ⟨A3, c3, rfl, hs3, hb3⟩; rw [HPL.out]; have HS3 := Lib.hid (vec8 hs3 HPO.out); have HB3 := Lib.hid (HB8.out.trans (hb3.mono HB8.out.size)); have HE3 := Lib.hid (HE.out w3 HB3.out A3 c3 P HS3.out (by rw [HPL.out]; exact hpn) (by rw [HPL.out]; exact HK.out.2.2.2.1)); rw [HPL.out] at HE3; clear hs3 hb3)
      | (go_at_call 32; refine HE3.out.mono ?_; rintro e w4 ⟨rfl, hb4⟩; have HB4 := Lib.hid (HB3.out.trans (hb4.mono HB3.out.size)); clear hb4))
    go_ret
    exact ⟨rfl, HB4.out⟩
  · obtain ⟨rfl, rfl⟩ := KN.out h0
    have t2 : (E2 == 0) = false := by simpa using h0
    have t3 : (E2 != 0) = true := by simpa using h0
    go_wp2
    go_ret
    exact ⟨rfl, HB8.out⟩

theorem walk {w : World} (A : Option Addr) (c : Nat) (bs : List Int) (hs : Sl w A c bs) (ho : Oct bs) :
    Calls Try.prog 6 #[.slice A bs.length c] w fun e w' => e = .returned (.bool true) ∧ Below w.heap.size w w' := by
  by_cases hn : bs.length ≤ 400
  · exact walk_small A c bs hs ho hn
  · exact walk_big A c bs.length (by omega)

set_option maxRecDepth 100000 in
theorem lifted (os : Os) (started : os.Started) (H : Type) (enc : TypeId × Value → H) :
    ReturnsInHanded {} Try.checked os 6 .any (Rows.codecTakenSpec.pre6 enc Try.prog Try.f6 Rows.codecTakenRow.domain false) (Rows.codecTakenSpec.post enc Try.prog Try.f6 false true false false) := by
  refine returnsInHanded_of_change (C := Try.checked) Try.own started (by kernel_rfl) Try.func6
    (ChangeSpec.witness6 (enc := enc) (C := Try.checked) false ⟨#[], #[.slice none 0 0], []⟩ 8 (by kernel_rfl) (by kernel_rfl) (by kernel_rfl) (by kernel_rfl)) ?_
  intro W base args ds gs before hval0 hW hcnd _
  have hval : ∀ (j : Nat) t v, Try.f6.params[j]? = some t → args[j]? = some v → Value.okWide Try.prog W .any base t v := hval0
  have hW' := hW
  obtain ⟨p, q, hA0, hV, rfl, hfz, hnd⟩ := hW
  have hA : DataW.TrodAll enc Try.prog W 0 (fun _ => true) true Try.f6.params.toList args.toList ds p := hA0
  rw [Try.params6] at hA hval
  have hA' := hA
  obtain ⟨v0, vs0, d0, ds0, p0, q0, hargs, rfl, rfl, h0, r0⟩ := trodAll_cons hA
  obtain ⟨rfl, rfl, rfl⟩ := trodAll_nil r0
  obtain rfl : args = #[v0] := by cases args; simp_all
  obtain ⟨rfl, rfl⟩ := trodVars_none hV
  obtain ⟨A0, len0, c0, rfl⟩ := okWide_slice Try.underlying29 (hval 0 29 v0 rfl rfl)
  obtain ⟨z0, rfl, sl0, oc0⟩ := open_bytes h0
  clear hA0 hval0
  refine (walk A0 c0 z0 sl0 oc0).mono fun e W' ⟨he, bel⟩ => ?_
  subst he
  exact ⟨_, rfl, _, _, _, [], _, [], hW', trodAll_mk1 (shut_bool Try.underlying4 _), trodAll_below bel _ _ _ _ (by kernel_rfl) hA', rfl, bel.frame _, fun h => by cases h⟩

theorem proved : Rows.CodecTakenSaid :=
  OpenClaim.holds_of_wide 6 Try.f6 rfl rfl rfl rfl rfl rfl rfl ⟨rfl, rfl, rfl, rfl, rfl⟩ rfl rfl rfl rfl rfl (by kernel_rfl) Try.func6 (by kernel_rfl)
    (of_decide_eq_true (by kernel_rfl)) (by unfold Func.isWrapper; first | (rw [if_pos (by decide +kernel)]; kernel_rfl) | (rw [if_neg (by decide +kernel)]; exact ⟨rfl, rfl⟩))
    (fun os started H enc _ => lifted os started H enc)
#print axioms proved
end Go.Proofs.Ythbpnngfdpdjkaa.codecTaken
