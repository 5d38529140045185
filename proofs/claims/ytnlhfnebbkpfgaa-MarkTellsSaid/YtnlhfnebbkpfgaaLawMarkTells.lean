/-
  Proved: the law MarkTells, the mark of whatever bytes, on and back from whatever mark, is as the document says, returns true for every mark and all bytes, and leaves all memory as it was. No condition.
-/
import Derived.Test.YtnlhfnebbkpfgaaLawFrame
import Derived.Test.YtnlhfnebbkpfgaaMarkWakes
namespace Go.Proofs.Ytnlhfnebbkpfgaa.markTells
open Go.ChangeShapes Go.WideShapes Go.ChangeAt Go.RowKit
set_option linter.unusedVariables false

theorem walk_out (m : Int) (A : Option Addr) (l c : Nat) (w : World) (h : 20000 < l) :
    Calls Try.prog 3 #[.int .u64 m, .slice A l c] w fun e w' => e = .returned (.bool true) ∧ Below w.heap.size w w' := by
  have d1 : decide ((20000 : Int) < (l : Int)) = true := by simp; omega
  clear h
  go_enter Try.func3, Try.ntmps3
  go_wp2_with (go_at_call 10; refine (wakes_any w).mono ?_; rintro e w1 ⟨rfl, hb1⟩)
  go_ret
  exact ⟨rfl, hb1⟩

set_option maxHeartbeats 1000000 in
set_option maxRecDepth 100000 in
theorem walk {w : World} (m : Int) (wm : (Lit.int .u64 m).wf = true) (A : Option Addr) (c : Nat) (bs : List Int) (hs : Sl w A c bs) (ho : Oct bs) :
    Calls Try.prog 3 #[.int .u64 m, .slice A bs.length c] w fun e w' => e = .returned (.bool true) ∧ Below w.heap.size w w' := by
  by_cases h : 20000 < bs.length
  · exact walk_out m A _ c w h
  have b1 := bounds_u64 wm
  have hu : U m := ⟨b1.1, by omega⟩
  have d1 : decide ((20000 : Int) < (bs.length : Int)) = false := by simp; omega
  obtain ⟨l, hl⟩ : ∃ l, l = bs.length := ⟨_, rfl⟩
  have H1 := Lib.hid (fun W B d (hb : Sl W B d bs) => of_any B d bs W hb ho (by omega))
  have H2 := Lib.hid (fun W B d (hb : Sl W B d bs) => rOf_any B d bs W hb ho)
  have H3 := Lib.hid (fun W B d (hb : Sl W B d bs) => on_any B d bs m W hb ho hu (by omega))
  have H4 := Lib.hid (fun W B d (hb : Sl W B d bs) => rOn_any B d bs m W hb ho hu)
  have H5 := Lib.hid (fun W B d (hb : Sl W B d bs) => back_any B d bs m W hb ho hu (by omega))
  have H6 := Lib.hid (fun W B d (hb : Sl W B d bs) => rBack_any B d bs m W hb ho hu)
  have H7 := Lib.hid (fun W B d B' d' (hb : Sl W B d bs) (hb' : Sl W B' d' bs) => same_true B B' d d' bs W hb hb')
  rw [← hl] at H1 H2 H3 H4 H5 H6 H7 d1 ⊢
  generalize ofM bs = z1 at *
  generalize onM m bs = z2 at *
  generalize backM m bs = z3 at *
  have e1 : (z1 == z1) = true := by simp
  have e2 : (z2 == z2) = true := by simp
  have e3 : (z3 == z3) = true := by simp
  have HS := Lib.hid hs
  have HL := Lib.hid hl
  have hlb : l ≤ 20000 := by omega
  clear hs ho hl h hu b1 wm
  go_enter Try.func3, Try.ntmps3
  go_wp2_with fail
  refine (wakes_any w).mono ?_
  rintro e w1 ⟨rfl, hb1⟩
  have HB1 := Lib.hid hb1
  have HS1 := Lib.hid (HS.out.below hb1)
  clear hb1
  go_wp2_with (at_builtin; refine app_b rfl (.tmp 11) (.tmp 12) rfl w1.heap.size (.slice (some ⟨w1.heap.size, 0, none⟩) 0 0) 0 [] rfl (World.ownsRow_made w1 #[] 0 (Nat.le_refl _) (Nat.zero_le _) rfl) A c l bs rfl HL.out.symm ((HS1.out.alloc _).rd) (by omega) (by simp) ?_; intro v2 w2 hown2 hg2; have hb2 : Below w1.heap.size w1 w2 := ((Below.refl _ w1).alloc (Nat.le_refl _) _).grown hg2 (by simp) (by intro k hk; simp [Value.ownBlock] at hk; omega); obtain ⟨A2, c2, rfl, hn2⟩ := new_of (bs := bs) hown2 (by simp) (by rw [← HL.out]; omega); have HN2 := Lib.hid hn2.sl; have HB2 := Lib.hid hb2; clear hown2 hg2 hb2 hn2)
  have HS2 := Lib.hid (HS1.out.below HB2.out)
  have HC2 := Lib.hid (HB1.out.trans (HB2.out.mono HB1.out.size))
  clear HB1 HB2 HS1
  refine (H1.out w2 A c HS2.out).mono ?_
  rintro e w3 ⟨rfl, hb3⟩
  have HS3 := Lib.hid (HS2.out.below hb3)
  have HN3 := Lib.hid (HN2.out.below hb3)
  have HC3 := Lib.hid (HC2.out.trans (hb3.mono HC2.out.size))
  have hq := HL.out
  clear hb3 HS2 HN2 HC2 H1
  rw [← hq]
  clear hq
  go_wp2_with fail
  refine (H2.out w3 A2 c2 HN3.out).mono ?_
  rintro e w' ⟨rfl, rfl⟩
  go_wp2_with fail
  refine (H3.out w3 A c HS3.out).mono ?_
  rintro e w4 ⟨rfl, hb3⟩
  have HS4 := Lib.hid (HS3.out.below hb3)
  have HN4 := Lib.hid (HN3.out.below hb3)
  have HC4 := Lib.hid (HC3.out.trans (hb3.mono HC3.out.size))
  clear hb3 HS3 HN3 HC3 H2 H3
  go_wp2_with fail
  refine (H4.out w4 A2 c2 HN4.out).mono ?_
  rintro e w' ⟨rfl, rfl⟩
  go_wp2_with fail
  refine (H5.out w4 A c HS4.out).mono ?_
  rintro e w5 ⟨rfl, hb3⟩
  have HS5 := Lib.hid (HS4.out.below hb3)
  have HN5 := Lib.hid (HN4.out.below hb3)
  have HC5 := Lib.hid (HC4.out.trans (hb3.mono HC4.out.size))
  clear hb3 HS4 HN4 HC4 H4 H5
  go_wp2_with fail
  refine (H6.out w5 A2 c2 HN5.out).mono ?_
  rintro e w' ⟨rfl, rfl⟩
  go_wp2_with fail
  refine (H7.out w5 A c A2 c2 HS5.out HN5.out).mono ?_
  rintro e w6 ⟨rfl, q, rfl⟩
  go_wp2
  go_ret
  exact ⟨rfl, below_drewN HC5.out q⟩

set_option maxRecDepth 100000 in
theorem lifted (os : Os) (started : os.Started) (H : Type) (enc : TypeId × Value → H) :
    ReturnsInHanded {} Try.checked os 3 .any (Rows.markTellsSpec.pre6 enc Try.prog Try.f3 Rows.markTellsRow.domain false) (Rows.markTellsSpec.post enc Try.prog Try.f3 false true false false) := by
  refine returnsInHanded_of_change (C := Try.checked) Try.own started (by kernel_rfl) Try.func3
    (ChangeSpec.witness6 (enc := enc) (C := Try.checked) false ⟨#[], #[.int .u64 0, .slice none 0 0], []⟩ 8 (by kernel_rfl) (by kernel_rfl) (by kernel_rfl) (by kernel_rfl)) ?_
  intro W base args ds gs before hval0 hW hcnd _
  have hval : ∀ (j : Nat) t v, Try.f3.params[j]? = some t → args[j]? = some v → Value.okWide Try.prog W .any base t v := hval0
  have hW' := hW
  obtain ⟨p, q, hA0, hV, rfl, hfz, hnd⟩ := hW
  have hA : DataW.TrodAll enc Try.prog W 0 (fun _ => true) true Try.f3.params.toList args.toList ds p := hA0
  rw [Try.params3] at hA hval
  have hA' := hA
  obtain ⟨v0, vs0, d0, ds0, p0, q0, hargs, rfl, rfl, h0, r0⟩ := trodAll_cons hA
  obtain ⟨v1, vs1, d1, ds1, p1, q1, rfl, rfl, rfl, h1, r1⟩ := trodAll_cons r0
  obtain ⟨rfl, rfl, rfl⟩ := trodAll_nil r1
  obtain rfl : args = #[v0, v1] := by cases args; simp_all
  obtain ⟨rfl, rfl⟩ := trodVars_none hV
  obtain ⟨a0, rfl, rfl, rfl, w0⟩ := open_int Try.underlying22 (hval 0 22 v0 rfl rfl) h0
  obtain ⟨A1, len1, c1, rfl⟩ := okWide_slice Try.underlying23 (hval 1 23 v1 rfl rfl)
  obtain ⟨z1, rfl, sl1, oc1⟩ := open_bytes h1
  clear hA0 hval0
  refine (walk a0 w0 A1 c1 z1 sl1 oc1).mono fun e W' ⟨he, bel⟩ => ?_
  subst he
  exact ⟨_, rfl, _, _, _, [], _, [], hW', trodAll_mk1 (shut_bool Try.underlying4 _), trodAll_below bel _ _ _ _ (by kernel_rfl) hA', rfl, bel.frame _, fun h => by cases h⟩

theorem proved : Rows.MarkTellsSaid :=
  OpenClaim.holds_of_wide 3 Try.f3 rfl rfl rfl rfl rfl rfl rfl ⟨rfl, rfl, rfl, rfl, rfl⟩ rfl rfl rfl rfl rfl (by kernel_rfl) Try.func3 (by kernel_rfl)
    (of_decide_eq_true (by kernel_rfl)) (by unfold Func.isWrapper; first | (rw [if_pos (by decide +kernel)]; kernel_rfl) | (rw [if_neg (by decide +kernel)]; exact ⟨rfl, rfl⟩))
    (fun os started H enc _ => lifted os started H enc)
#print axioms proved
end Go.Proofs.Ytnlhfnebbkpfgaa.markTells
