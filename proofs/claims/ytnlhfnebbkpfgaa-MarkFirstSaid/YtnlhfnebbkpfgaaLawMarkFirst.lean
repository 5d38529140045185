/-
  Proved: the law MarkFirst, up to the place at which they differ both are the same, there they are not, whichever comes first, returns true for all bytes a and b, and leaves all memory as it was. No condition.
-/
import Derived.Test.YtnlhfnebbkpfgaaLawFrame
import Derived.Test.YtnlhfnebbkpfgaaMarkWakes
namespace Go.Proofs.Ytnlhfnebbkpfgaa.markFirst
open Go.ChangeShapes Go.WideShapes Go.ChangeAt Go.RowKit
set_option linter.unusedVariables false

set_option maxHeartbeats 1000000 in
set_option maxRecDepth 100000 in
/-- Both are the same. -/
theorem walk_same {w : World} (A : Option Addr) (c : Nat) (bs : List Int) (hs : Sl w A c bs) (ho : Oct bs) (A' : Option Addr) (c' : Nat) (hs' : Sl w A' c' bs) :
    Calls Try.prog 9 #[.slice A bs.length c, .slice A' bs.length c'] w fun e w' => e = .returned (.bool true) ∧ Below w.heap.size w w' := by
  have hbig : bs.length ≤ 9223372036854775807 := by have := hs.room; have := hs.most; omega
  have H1 := Lib.hid (fun W (h1 : Sl W A c bs) (h2 : Sl W A' c' bs) => place_b A A' c c' bs bs W h1 h2)
  have H2 := Lib.hid (fun W (h1 : Sl W A c bs) (h2 : Sl W A' c' bs) => place_b A' A c' c bs bs W h2 h1)
  have H3 := Lib.hid (fun W (h1 : Sl W A c bs) (h2 : Sl W A' c' bs) => equal_any A A' c c' bs bs W h1 h2 ho ho)
  have H4 := Lib.hid (fun W B d (h : Sl W B d bs) => of_any B d bs W h ho hbig)
  rw [show decide (bs = bs) = true from by simp] at H3
  rw [place_same bs] at H1 H2
  have HS := Lib.hid hs
  have HS' := Lib.hid hs'
  generalize ofM bs = z at *
  have hzz : (z == z) = true := by simp
  generalize bs.length = l at *
  clear hs hs' ho
  go_enter Try.func9, Try.ntmps9
  go_wp2_with fail
  refine (wakes_any w).mono ?_
  rintro e w1 ⟨rfl, hb1⟩
  have HB1 := Lib.hid hb1
  have S1 := Lib.hid (HS.out.below hb1)
  have T1 := Lib.hid (HS'.out.below hb1)
  clear hb1
  go_wp2_with fail
  refine (H1.out w1 S1.out T1.out).mono ?_
  rintro e w' ⟨rfl, q, rfl⟩
  go_wp2_with fail
  refine (H2.out _ (S1.out.drewN q) (T1.out.drewN q)).mono ?_
  rintro e w' ⟨rfl, q2, hq2⟩
  have HB2 := Lib.hid (show Below w.heap.size w w' by rw [hq2]; exact below_drewN (below_drewN HB1.out q) q2)
  have S2 := Lib.hid (show Sl w' A c bs by rw [hq2]; exact (S1.out.drewN q).drewN q2)
  have T2 := Lib.hid (show Sl w' A' c' bs by rw [hq2]; exact (T1.out.drewN q).drewN q2)
  clear hq2 HB1 S1 T1
  go_wp2_with fail
  refine (H3.out _ S2.out T2.out).mono ?_
  rintro e w'' ⟨rfl, rfl⟩
  go_wp2_with fail
  refine (H4.out _ A c S2.out).mono ?_
  rintro e w3 ⟨rfl, hb3⟩
  have HB3 := Lib.hid (HB2.out.trans (hb3.mono HB2.out.size))
  have T3 := Lib.hid (T2.out.below hb3)
  clear hb3 HB2
  go_wp2_with fail
  refine (H4.out _ A' c' T3.out).mono ?_
  rintro e w4 ⟨rfl, hb3⟩
  have HB4 := Lib.hid (HB3.out.trans (hb3.mono HB3.out.size))
  clear hb3 HB3
  go_wp2
  go_ret
  exact ⟨by simp, HB4.out⟩

set_option maxHeartbeats 1000000 in
set_option maxRecDepth 100000 in
/-- They differ. -/
theorem walk_other {w : World} (A : Option Addr) (c : Nat) (bs : List Int) (hs : Sl w A c bs) (ho : Oct bs) (A' : Option Addr) (c' : Nat) (cs : List Int) (hs' : Sl w A' c' cs) (ho' : Oct cs) (hne : bs ≠ cs) :
    Calls Try.prog 9 #[.slice A bs.length c, .slice A' cs.length c'] w fun e w' => e = .returned (.bool true) ∧ Below w.heap.size w w' := by
  have hr := hs.room
  have hm := hs.most
  have hr' := hs'.room
  have hm' := hs'.most
  obtain ⟨k1, k2, k3, k4⟩ := cp_spec bs cs
  have hp : placeM bs cs = (cp bs cs : Int) := by simp [placeM, hne]
  have hp' : placeM cs bs = (cp bs cs : Int) := by rw [cp_comm]; simp [placeM, Ne.symm hne]
  have H1 := Lib.hid (fun W (h1 : Sl W A c bs) (h2 : Sl W A' c' cs) => place_b A A' c c' bs cs W h1 h2)
  have H2 := Lib.hid (fun W (h1 : Sl W A c bs) (h2 : Sl W A' c' cs) => place_b A' A c' c cs bs W h2 h1)
  have H3 := Lib.hid (fun W (h1 : Sl W A c bs) (h2 : Sl W A' c' cs) => equal_any A A' c c' bs cs W h1 h2 ho ho')
  rw [hp] at H1
  rw [hp'] at H2
  rw [show decide (bs = cs) = false from decide_eq_false hne] at H3
  clear hp hp'
  generalize cp bs cs = k at *
  have hT : bs.take k = cs.take k := list_eq (by simp; omega) (fun j hj => by
    have hj' : j < k := by simp at hj; omega
    have := k3 j hj'
    simpa [List.getD, List.getElem?_take, hj'] using this)
  have hlk : (bs.take k).length = k := by simp; omega
  have H4 := Lib.hid (fun W (h1 : Sl W A c bs) (h2 : Sl W A' c' cs) => equal_any A A' c c' (bs.take k) (bs.take k) W (h1.first_ k k1) (by rw [hT]; exact h2.first_ k k2) (ho.take k) (ho.take k))
  rw [hlk, show decide (bs.take k = bs.take k) = true from by simp] at H4
  have HS := Lib.hid hs
  have HS' := Lib.hid hs'
  have K4 := Lib.hid k4
  obtain ⟨l, hl⟩ : ∃ l, l = bs.length := ⟨_, rfl⟩
  obtain ⟨l', hl'⟩ : ∃ l, l = cs.length := ⟨_, rfl⟩
  rw [← hl] at H1 H2 H3 hr k1 K4 ⊢
  rw [← hl'] at H1 H2 H3 hr' k2 K4 ⊢
  have HL := Lib.hid hl
  have HL' := Lib.hid hl'
  clear hs hs' ho ho' hT hlk hl hl' k3 k4 hne
  have hkk : ((k : Int) != (k : Int)) = false := by simp
  go_enter Try.func9, Try.ntmps9
  go_wp2_with fail
  refine (wakes_any w).mono ?_
  rintro e w1 ⟨rfl, hb1⟩
  have HB1 := Lib.hid hb1
  have S1 := Lib.hid (HS.out.below hb1)
  have T1 := Lib.hid (HS'.out.below hb1)
  clear hb1
  go_wp2_with fail
  refine (H1.out w1 S1.out T1.out).mono ?_
  rintro e w' ⟨rfl, q, rfl⟩
  go_wp2_with fail
  refine (H2.out _ (S1.out.drewN q) (T1.out.drewN q)).mono ?_
  rintro e w' ⟨rfl, q2, hq2⟩
  have HB2 := Lib.hid (show Below w.heap.size w w' by rw [hq2]; exact below_drewN (below_drewN HB1.out q) q2)
  have S2 := Lib.hid (show Sl w' A c bs by rw [hq2]; exact (S1.out.drewN q).drewN q2)
  have T2 := Lib.hid (show Sl w' A' c' cs by rw [hq2]; exact (T1.out.drewN q).drewN q2)
  clear hq2 HB1 S1 T1
  go_wp2_with fail
  refine (H3.out _ S2.out T2.out).mono ?_
  rintro e w'' ⟨rfl, rfl⟩
  obtain ⟨t, ht⟩ : ∃ t, t = min l l' := ⟨_, rfl⟩
  have hti : min (l : Int) (l' : Int) = (t : Int) := by omega
  have HT := Lib.hid ht
  have k1' : (k : Int) ≤ (l : Int) := by omega
  clear ht
  have g1 : decide ((l : Int) < (k : Int)) = false := by simp; omega
  have g2 : decide ((l' : Int) < (k : Int)) = false := by simp; omega
  have p0 : (0 : Int) ≤ (k : Int) := by omega
  have p1 : (k : Int) ≤ (c : Int) := by omega
  have p2 : (k : Int) ≤ (c' : Int) := by omega
  have HQ := Lib.hid (fun q => H4.out (w'.drewN q) (S2.out.drewN q) (T2.out.drewN q))
  go_wp2
  go_quiet ((go_at_call 25; with_reducible refine Calls.quiet_of_same ((HQ.out _).mono fun _ _ h => ⟨h.1, h.2.symm⟩)))
  have n0 : ¬ ((k : Int) < 0) := by omega
  by_cases e : k = t
  · have hkt : ((k : Int) == (t : Int)) = true := by simp [e]
    clear e
    go_wp2
    go_quiet (fail)
    go_wp2
    go_ret
    exact ⟨rfl, by first | exact below_drewN HB2.out _ | exact below_drewN (below_drewN HB2.out _) _⟩
  · have hkt : ((k : Int) == (t : Int)) = false := by simp; omega
    have hkl : k < l := by have := HT.out; omega
    have hkl' : k < l' := by have := HT.out; omega
    have q1 : (k : Int) < (l : Int) := by omega
    have q2 : (k : Int) < (l' : Int) := by omega
    have hd : bs.getD k 0 ≠ cs.getD k 0 := by
      rcases K4.out with h | h | h
      · omega
      · omega
      · exact h
    obtain ⟨b, o, rfl, hc⟩ := S2.out.at_ k (by rw [← HL.out]; omega)
    obtain ⟨b', o', rfl, hc'⟩ := T2.out.at_ k (by rw [← HL'.out]; omega)
    generalize bs.getD k 0 = x at *
    generalize cs.getD k 0 = y at *
    have hxy : (x != y) = true := by simp [hd]
    clear e hd
    go_wp2
    go_quiet (fail)
    go_wp2
    go_ret
    exact ⟨rfl, by first | exact below_drewN HB2.out _ | exact below_drewN (below_drewN HB2.out _) _⟩

theorem walk {w : World} (A : Option Addr) (c : Nat) (bs : List Int) (hs : Sl w A c bs) (ho : Oct bs) (A' : Option Addr) (c' : Nat) (cs : List Int) (hs' : Sl w A' c' cs) (ho' : Oct cs) :
    Calls Try.prog 9 #[.slice A bs.length c, .slice A' cs.length c'] w fun e w' => e = .returned (.bool true) ∧ Below w.heap.size w w' := by
  by_cases e : bs = cs
  · subst e
    exact walk_same A c bs hs ho A' c' hs'
  · exact walk_other A c bs hs ho A' c' cs hs' ho' e

set_option maxRecDepth 100000 in
theorem lifted (os : Os) (started : os.Started) (H : Type) (enc : TypeId × Value → H) :
    ReturnsInHanded {} Try.checked os 9 .any (Rows.markFirstSpec.pre6 enc Try.prog Try.f9 Rows.markFirstRow.domain false) (Rows.markFirstSpec.post enc Try.prog Try.f9 false true false false) := by
  refine returnsInHanded_of_change (C := Try.checked) Try.own started (by kernel_rfl) Try.func9
    (ChangeSpec.witness6 (enc := enc) (C := Try.checked) false ⟨#[], #[.slice none 0 0, .slice none 0 0], []⟩ 8 (by kernel_rfl) (by kernel_rfl) (by kernel_rfl) (by kernel_rfl)) ?_
  intro W base args ds gs before hval0 hW hcnd _
  have hval : ∀ (j : Nat) t v, Try.f9.params[j]? = some t → args[j]? = some v → Value.okWide Try.prog W .any base t v := hval0
  have hW' := hW
  obtain ⟨p, q, hA0, hV, rfl, hfz, hnd⟩ := hW
  have hA : DataW.TrodAll enc Try.prog W 0 (fun _ => true) true Try.f9.params.toList args.toList ds p := hA0
  rw [Try.params9] at hA hval
  have hA' := hA
  obtain ⟨v0, vs0, d0, ds0, p0, q0, hargs, rfl, rfl, h0, r0⟩ := trodAll_cons hA
  obtain ⟨v1, vs1, d1, ds1, p1, q1, rfl, rfl, rfl, h1, r1⟩ := trodAll_cons r0
  obtain ⟨rfl, rfl, rfl⟩ := trodAll_nil r1
  obtain rfl : args = #[v0, v1] := by cases args; simp_all
  obtain ⟨rfl, rfl⟩ := trodVars_none hV
  obtain ⟨A0, len0, c0, rfl⟩ := okWide_slice Try.underlying23 (hval 0 23 v0 rfl rfl)
  obtain ⟨z0, rfl, sl0, oc0⟩ := open_bytes h0
  obtain ⟨A1, len1, c1, rfl⟩ := okWide_slice Try.underlying23 (hval 1 23 v1 rfl rfl)
  obtain ⟨z1, rfl, sl1, oc1⟩ := open_bytes h1
  clear hA0 hval0
  refine (walk A0 c0 z0 sl0 oc0 A1 c1 z1 sl1 oc1).mono fun e W' ⟨he, bel⟩ => ?_
  subst he
  exact ⟨_, rfl, _, _, _, [], _, [], hW', trodAll_mk1 (shut_bool Try.underlying4 _), trodAll_below bel _ _ _ _ (by kernel_rfl) hA', rfl, bel.frame _, fun h => by cases h⟩

theorem proved : Rows.MarkFirstSaid :=
  OpenClaim.holds_of_wide 9 Try.f9 rfl rfl rfl rfl rfl rfl rfl ⟨rfl, rfl, rfl, rfl, rfl⟩ rfl rfl rfl rfl rfl (by kernel_rfl) Try.func9 (by kernel_rfl)
    (of_decide_eq_true (by kernel_rfl)) (by unfold Func.isWrapper; first | (rw [if_pos (by decide +kernel)]; kernel_rfl) | (rw [if_neg (by decide +kernel)]; exact ⟨rfl, rfl⟩))
    (fun os started H enc _ => lifted os started H enc)
#print axioms proved
end Go.Proofs.Ytnlhfnebbkpfgaa.markFirst
