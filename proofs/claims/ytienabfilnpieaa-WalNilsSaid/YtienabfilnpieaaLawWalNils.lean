/-
  Proved: the law WalNils, what the calls of layer 4 answer of no disk and of no log, returns true for every number and bytes, and leaves all memory as it was. No condition.
-/
import Derived.Test.YtienabfilnpieaaWalWakes
import Derived.Test.YtienabfilnpieaaLawFrame
namespace Go.Proofs.Ytienabfilnpieaa.walNils
open Go.ChangeShapes Go.WideShapes Go.ChangeAt Go.RowKit
set_option linter.unusedVariables false
set_option maxRecDepth 100000

set_option maxHeartbeats 2000000 in
theorem walk {w : World} (n : Int) (wn : (Lit.int .i64 n).wf = true) (A : Option Addr) (c : Nat) (bs : List Int) (hs : Sl w A c bs) (ho : Oct bs) :
    Calls Try.prog 3 #[.int .i64 n, .slice A bs.length c] w fun e w' => e = .returned (.bool true) ∧ Below w.heap.size w w' := by
  obtain ⟨l, hl⟩ : ∃ l, l = bs.length := ⟨_, rfl⟩
  have HSM := Lib.hid (fun (W : World) (hW : Below w.heap.size w W) => some_any A c bs W (hs.below hW))
  obtain ⟨R, hR⟩ : ∃ R, R = bs.take 300 := ⟨_, rfl⟩
  rw [← hR, ← hl] at HSM
  rw [← hl]
  clear hs ho hl hR wn
  go_enter Try.func3, Try.ntmps3
  go_wp2_with (first
    | (go_at_call 6; refine (wakes_any _).mono ?_; rintro e w1 ⟨rfl, hb1⟩; have HB1 := Lib.hid hb1; have HOP := Lib.hid (open_nilW w1); clear hb1)
    | (go_at_call 7; refine (format_nil _ _).mono ?_; rintro e w' ⟨rfl, rfl⟩)
    | (go_at_call 8; refine HOP.out.mono ?_; rintro e w2 ⟨rfl, hb2⟩; have HB2 := Lib.hid (HB1.out.trans (hb2.mono HB1.out.size)); have HS2 := Lib.hid (HSM.out w2 (HB1.out.trans (hb2.mono HB1.out.size))); clear hb2)
    | (go_at_call 10; (with_reducible refine HS2.out.mono ?_); rintro e w3 ⟨A3, c3, rfl, _, hb3⟩; have hb3' := HB2.out.trans (hb3.mono HB2.out.size); have HB3 := Lib.hid hb3'; clear hb3 hb3')
    | (go_at_call 9; refine (append_nilW _ _ _ _).mono ?_; rintro e w4 ⟨rfl, hb4⟩; have hb4' := HB3.out.trans (hb4.mono HB3.out.size); have HB4 := Lib.hid hb4'; have HS4 := Lib.hid (HSM.out w4 hb4'); clear hb4 hb4')
    | (go_at_call 10; (with_reducible refine HS4.out.mono ?_); rintro e w5 ⟨A5, c5, rfl, _, hb5⟩; have hb5' := HB4.out.trans (hb5.mono HB4.out.size); have HB5 := Lib.hid hb5'; clear hb5 hb5')
    | (go_at_call 11; refine (check_nil _ _ _ _).mono ?_; rintro e w' ⟨rfl, rfl⟩)
    | (go_at_call 12; refine (snap_nil _).mono ?_; rintro e w' ⟨rfl, rfl⟩)
    | (go_at_call 13; refine (all_nil _).mono ?_; rintro e w' ⟨rfl, rfl⟩)
    | (go_at_call 14; refine (len_nil _).mono ?_; rintro e w' ⟨rfl, rfl⟩)
    | (go_at_call 15; refine (left_nilW _).mono ?_; rintro e w' ⟨rfl, rfl⟩)
    | (go_at_call 16; refine (most_nil _).mono ?_; rintro e w' ⟨rfl, rfl⟩)
    | (go_at_call 17; refine (broken_nil _).mono ?_; rintro e w' ⟨rfl, rfl⟩))
  go_ret
  exact ⟨rfl, HB5.out⟩

set_option maxRecDepth 100000 in
theorem lifted (os : Os) (started : os.Started) (H : Type) (enc : TypeId × Value → H) :
    ReturnsInHanded {} Try.checked os 3 .any (Rows.walNilsSpec.pre6 enc Try.prog Try.f3 Rows.walNilsRow.domain false) (Rows.walNilsSpec.post enc Try.prog Try.f3 false true false false) := by
  refine returnsInHanded_of_change (C := Try.checked) Try.own started (by kernel_rfl) Try.func3
    (ChangeSpec.witness6 (enc := enc) (C := Try.checked) false ⟨#[], #[.int .i64 0, .slice none 0 0], []⟩ 8 (by kernel_rfl) (by kernel_rfl) (by kernel_rfl) (by kernel_rfl)) ?_
  intro W base args ds gs before hval0 hW hcnd _
  have hval : ∀ (j : Nat) t v, Try.f3.params[j]? = some t → args[j]? = some v → Value.okWide Try.prog W .any base t v := hval0
  have hW' := hW
  obtain ⟨p, q, hA0, hV, rfl, hfz, hnd⟩ := hW
  have hA : DataW.TrodAll enc Try.prog W 0 (fun _ => true) true Try.f3.params.toList args.toList ds p := hA0
  rw [Try.params3] at hA hval
  have hA' := hA
  obtain ⟨v0, vs0, d0, ds0, p0, q0, hargs, rfl, rfl, h0, r0⟩ := trodAll_cons hA
  obtain ⟨v1, vs1, d1, ds1, p1, q1, rfl, rfl, rfl, h1, r1⟩ := trodAll_cons r0
  obtain ⟨rfl, rfl, rfl⟩ := trodAll_nil r1
  obtain rfl : args = #[v0, v1] := by cases args; simp_all
  obtain ⟨rfl, rfl⟩ := trodVars_none hV
  obtain ⟨a0, rfl, rfl, rfl, w0⟩ := open_int Try.underlying3 (hval 0 3 v0 rfl rfl) h0
  obtain ⟨A1, len1, c1, rfl⟩ := okWide_slice Try.underlying22 (hval 1 22 v1 rfl rfl)
  obtain ⟨z1, rfl, sl1, oc1⟩ := open_bytes h1
  clear hA0 hval0
  refine (walk a0 w0 A1 c1 z1 sl1 oc1).mono fun e W' ⟨he, bel⟩ => ?_
  subst he
  exact ⟨_, rfl, _, _, _, [], _, [], hW', trodAll_mk1 (shut_bool Try.underlying4 _), trodAll_below bel _ _ _ _ (by kernel_rfl) hA', rfl, bel.frame _, fun h => by cases h⟩

theorem proved : Rows.WalNilsSaid :=
  OpenClaim.holds_of_wide 3 Try.f3 rfl rfl rfl rfl rfl rfl rfl ⟨rfl, rfl, rfl, rfl, rfl⟩ rfl rfl rfl rfl rfl (by kernel_rfl) Try.func3 (by kernel_rfl)
    (of_decide_eq_true (by kernel_rfl)) (by unfold Func.isWrapper; first | (rw [if_pos (by decide +kernel)]; kernel_rfl) | (rw [if_neg (by decide +kernel)]; exact ⟨rfl, rfl⟩))
    (fun os started H enc _ => lifted os started H enc)
#print axioms proved
end Go.Proofs.Ytienabfilnpieaa.walNils
