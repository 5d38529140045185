/-
  Proved: the law ChainLater, pruned twice a chain is pruned at the greater floor, and a lesser floor does nothing more, returns true for every chain and two floors, and leaves all memory as it was. No condition.
-/
import Derived.Test.YtbnedhhkapbliaaLawFrame
import Derived.BigQuiet
namespace Go.Proofs.Ytbnedhhkapbliaa.chainLater
open Go.ChangeShapes Go.WideShapes Go.ChangeAt Go.RowKit
set_option linter.unusedVariables false
set_option linter.unusedSimpArgs false
set_option maxRecDepth 100000

theorem good_sub {l : List Vr} (P : Vr → Bool) (h : Good l) : Good (l.filter P) :=
  ⟨Nat.le_trans (List.length_filter_le _ _) h.few, fun v hv => h.ok v ((List.mem_filter.1 hv).1), h.ord.filter _⟩
theorem pru_good {l : List Vr} {t : Int} (h : Good l) : pruN l t = l.filter (lastsB · t) ∧ pruG l t = l.filter (fun v => !lastsB v t) := by
  have hc := (chain_iff l).2 h
  unfold pruN pruG
  rw [if_pos hc, if_pos hc]
  exact ⟨rfl, rfl⟩
theorem later {l : List Vr} {lo hi : Int} (h : Good l) (hle : lo ≤ hi) :
    pruN (pruN l lo) hi = pruN l hi ∧ pruN (pruN l hi) lo = pruN l hi ∧ pruG (pruN l hi) lo = [] ∧ chkM (pruN l lo) = 0 ∧ chkM (pruN l hi) = 0 := by
  have g1 : Good (pruN l lo) := by rw [(pru_good h).1]; exact good_sub _ h
  have g2 : Good (pruN l hi) := by rw [(pru_good h).1]; exact good_sub _ h
  have key : ∀ v : Vr, lastsB v hi = true → lastsB v lo = true := fun v hv => by
    unfold lastsB at hv ⊢
    simp only [Bool.or_eq_true, decide_eq_true_eq] at hv ⊢
    exact hv.elim .inl (fun h => .inr (by omega))
  refine ⟨?_, ?_, ?_, chk_ok.2 g1, chk_ok.2 g2⟩
  · rw [(pru_good g1).1, (pru_good h).1, (pru_good h).1, List.filter_filter]
    refine List.filter_congr fun v _ => ?_
    cases hv : lastsB v hi with
    | false => simp
    | true => simp [key v hv]
  · rw [(pru_good g2).1, (pru_good h).1, List.filter_filter]
    refine List.filter_congr fun v _ => ?_
    cases hv : lastsB v hi with
    | false => simp
    | true => simp [key v hv]
  · rw [(pru_good g2).2, (pru_good h).1, List.filter_filter]
    refine List.filter_eq_nil_iff.2 fun v _ => ?_
    cases hv : lastsB v hi with
    | false => simp
    | true => simp [key v hv]
theorem small_filter {q r : List Pl} {P : Vr → Bool} (h : Small q) (e : vals r = (vals q).filter P) : Small r :=
  small_of e (by have := List.length_filter_le P (vals q); rw [vals_length] at this; have := h.few; omega) (fun v hv => by
    obtain ⟨p, hp, rfl⟩ := List.mem_map.1 ((List.mem_filter.1 hv).1)
    exact h.dims p hp)

set_option maxHeartbeats 4000000 in
theorem walk {w : World} (A : Option Addr) (c : Nat) (q : List Pl) (h : Chn w A c q) (x y : Int) (hx : U64s x) (hy : U64s y) :
    Calls Try.prog 8 #[.slice A q.length c, .agg #[.int .u64 x, .int .u64 y]] w fun e w' => e = .returned (.bool true) ∧ Below w.heap.size w w' := by
  obtain ⟨W0, hW0⟩ : ∃ W0, W0 = w.alloc (.cells #[.int .u64 x, .int .u64 y] 53) := ⟨_, rfl⟩
  have hb0 : Below w.heap.size w W0 := by rw [hW0]; exact (Below.refl _ w).alloc (Nat.le_refl _) _
  have hx0 : W0.heap[w.heap.size]? = some (.cells #[.int .u64 x, .int .u64 y] 53 (0, 0)) := by rw [hW0]; exact heap_alloc_new _ _
  have HWk := Lib.hid (wakes_any W0)
  have HFw := Lib.hid (fun (X : World) (hX : Below w.heap.size w X) => few_any A c q X (h.below hX))
  obtain ⟨lo, hlo⟩ : ∃ lo, lo = min x y := ⟨_, rfl⟩
  obtain ⟨hi, hhi⟩ : ∃ hi, hi = max x y := ⟨_, rfl⟩
  have hle : lo ≤ hi := by omega
  have m1 : min x y = lo := hlo.symm
  have m2 : max x y = hi := hhi.symm
  have m3 : (if x < y then y else x) = hi := by rw [hhi]; split <;> omega
  have HB0 := Lib.hid hb0
  have HX0 := Lib.hid hx0
  have HW0 := Lib.hid hW0
  generalize q.length = n at *
  obtain ⟨l, hl⟩ : ∃ l, l = fewM (vals q) := ⟨_, rfl⟩
  have HL := Lib.hid hl
  rw [← hl] at HFw
  have HLe := Lib.hid hle
  clear h hx hy hlo hhi hb0 hx0 hW0 hl hle
  go_enter Try.func8, Try.ntmps8
  go_wp2_with fail
  rw [← HW0.out]
  refine HWk.out.mono ?_
  rintro e w1 ⟨rfl, hb1⟩
  have HB1 := Lib.hid (HB0.out.trans (hb1.mono HB0.out.size))
  have HX1 := Lib.hid ((hb1.block _ (lt_of_block HX0.out)).trans HX0.out)
  clear hb1
  go_wp2_with fail
  refine (HFw.out _ HB1.out).mono ?_
  rintro e w2 ⟨A2, c2, q2, rfl, hv2, ho2, hb2⟩
  have HB2 := Lib.hid (HB1.out.trans (hb2.mono HB1.out.size))
  have hx2 := (hb2.block _ (lt_of_block HX1.out)).trans HX1.out
  have y0 := (cell_of_row _ _ 0 _ _ _ hx2).trans rfl
  have y1 := (cell_of_row _ _ 1 _ _ _ hx2).trans rfl
  have HS2 := Lib.hid (few_small (hv2.trans HL.out))
  have HV2 := Lib.hid hv2
  have HO2 := Lib.hid ho2
  have HPr := Lib.hid (fun (t : Int) (X : World) (hX : Below w2.heap.size w2 X) => prune_any A2 c2 q2 t X (ho2.chn.below hX) HS2.out)
  rw [hv2] at HPr
  generalize q2.length = n2 at *
  clear hv2 ho2 hb2 hx2
  go_wp2
  go_quiet (fail)
  obtain ⟨w3, hw3⟩ : ∃ w3, w3 = w2.drewN nq := ⟨_, rfl⟩
  rw [← hw3]
  have HD3 := Lib.hid (show Below w2.heap.size w2 w3 by rw [hw3]; exact below_drewN (Below.refl _ _) _)
  clear hw3 y0 y1
  go_wp2_with fail
  refine (HPr.out _ _ HD3.out).mono ?_
  rintro e w4 ⟨A4, c4, q4, A5, c5, q5, rfl, hv4, ho4, hv5, _, hb4⟩
  have HD4 := Lib.hid (HD3.out.trans (hb4.mono HD3.out.size))
  have HV4 := Lib.hid hv4
  have HO4 := Lib.hid ho4
  generalize hn4 : q4.length = n4 at *
  have HN4 := Lib.hid hn4
  generalize q5.length = n5 at *
  clear hv4 ho4 hv5 hb4 hn4
  go_wp2_with fail
  refine (HPr.out _ _ HD4.out).mono ?_
  rintro e w6 ⟨A6, c6, q6, A7, c7, q7, rfl, hv6, ho6, hv7, _, hb6⟩
  have HD6 := Lib.hid (HD4.out.trans (hb6.mono HD4.out.size))
  have HV6 := Lib.hid hv6
  have HO6 := Lib.hid ho6
  have HC6 := Lib.hid (HO4.out.chn.below hb6)
  generalize hn6 : q6.length = n6 at *
  have HN6 := Lib.hid hn6
  generalize q7.length = n7 at *
  clear hv6 ho6 hv7 hb6 hn6
  cases hc : chainB l with
  | false =>
    have HE := Lib.hid (show chkM l = 180 by unfold chkM; rw [hc]; rfl)
    rw [HE.out]
    clear hc
    go_wp2
    go_ret
    exact ⟨rfl, HB2.out.trans (HD6.out.mono HB2.out.size)⟩
  | true =>
    have hg := (chain_iff l).1 hc
    have HE := Lib.hid (show chkM l = 0 by unfold chkM; rw [hc]; rfl)
    obtain ⟨e1, e2, e3, e4, e5⟩ := later hg HLe.out
    have HS4 := small_filter (P := (lastsB · lo)) HS2.out (by rw [HV4.out, HV2.out, (pru_good hg).1])
    have HS6 := small_filter (P := (lastsB · hi)) HS2.out (by rw [HV6.out, HV2.out, (pru_good hg).1])
    have hp4 := fun (X : World) (hX : Below w6.heap.size w6 X) => prune_any A4 c4 q4 hi X (HC6.out.below hX) HS4
    have hp6 := fun (X : World) (hX : Below w6.heap.size w6 X) => prune_any A6 c6 q6 lo X (HO6.out.chn.below hX) HS6
    rw [HV4.out, HN4.out, e1, e4] at hp4
    rw [HV6.out, HN6.out, e2, e3, e5] at hp6
    have HP4 := Lib.hid hp4
    have HP6 := Lib.hid hp6
    rw [HE.out]
    clear hc hg e1 e2 e3 e4 e5 HS4 HS6 hp4 hp6
    go_wp2_with fail
    refine (HP4.out _ (Below.refl _ _)).mono ?_
    rintro e w8 ⟨A8, c8, q8, A9, c9, q9, rfl, hv8, ho8, hv9, _, hb8⟩
    have HF8 := Lib.hid hb8
    have HV8 := Lib.hid hv8
    have HO8 := Lib.hid ho8
    generalize hn8 : q8.length = n8 at *
    have HN8 := Lib.hid hn8
    generalize q9.length = n9 at *
    clear hv8 ho8 hv9 hb8 hn8
    go_wp2_with fail
    refine (HP6.out _ HF8.out).mono ?_
    rintro e w10 ⟨A10, c10, q10, A11, c11, q11, rfl, hv10, ho10, hv11, _, hb10⟩
    have HF10 := Lib.hid (HF8.out.trans (hb10.mono HF8.out.size))
    have hl11 : q11.length = 0 := by have := len_of hv11; exact this
    have hsame1 := fun (X : World) (hX : Below w10.heap.size w10 X) => same8_any A8 A6 c8 c6 q8 q6 X ((HO8.out.chn.below hb10).below hX) ((HO6.out.chn.below HF10.out).below hX)
    have hsame2 := fun (X : World) (hX : Below w10.heap.size w10 X) => same8_any A10 A6 c10 c6 q10 q6 X (ho10.chn.below hX) ((HO6.out.chn.below HF10.out).below hX)
    rw [HV8.out, HV6.out, HN8.out, HN6.out, decide_eq_true rfl] at hsame1
    rw [hv10, HV6.out, HN6.out, decide_eq_true rfl] at hsame2
    rw [hl11]
    have H1 := Lib.hid hsame1
    have H2 := Lib.hid hsame2
    generalize q10.length = n10 at *
    clear hsame1 hsame2 hv10 ho10 hv11 hb10 hl11
    go_wp2_with fail
    refine (H1.out _ (Below.refl _ _)).mono ?_
    rintro e w12 ⟨rfl, hb12⟩
    have HF12 := Lib.hid hb12
    clear hb12
    go_wp2_with fail
    refine (H2.out _ HF12.out).mono ?_
    rintro e w13 ⟨rfl, hb13⟩
    have HF13 := Lib.hid (HF10.out.trans ((HF12.out.trans (hb13.mono HF12.out.size)).mono HF10.out.size))
    clear hb13
    go_wp2
    go_ret
    exact ⟨rfl, HB2.out.trans ((HD6.out.trans (HF13.out.mono HD6.out.size)).mono HB2.out.size)⟩

set_option maxRecDepth 100000 in
theorem lifted (os : Os) (started : os.Started) (H : Type) (enc : TypeId × Value → H) :
    ReturnsInHanded {} Try.checked os 8 .any (Rows.chainLaterSpec.pre6 enc Try.prog Try.f8 Rows.chainLaterRow.domain false) (Rows.chainLaterSpec.post enc Try.prog Try.f8 false true false false) := by
  refine returnsInHanded_of_change (C := Try.checked) Try.own started (by kernel_rfl) Try.func8
    (ChangeSpec.witness6 (enc := enc) (C := Try.checked) false ⟨#[], #[.slice none 0 0, .agg #[.int .u64 0, .int .u64 0]], []⟩ 8 (by kernel_rfl) (by kernel_rfl) (by kernel_rfl) (by kernel_rfl)) ?_
  intro W base args ds gs before hval0 hW hcnd _
  have hval : ∀ (j : Nat) t v, Try.f8.params[j]? = some t → args[j]? = some v → Value.okWide Try.prog W .any base t v := hval0
  have hW' := hW
  obtain ⟨p, q, hA0, hV, rfl, hfz, hnd⟩ := hW
  have hA : DataW.TrodAll enc Try.prog W 0 (fun _ => true) true Try.f8.params.toList args.toList ds p := hA0
  rw [Try.params8] at hA hval
  have hA' := hA
  obtain ⟨v0, vs0, d0, ds0, p0, q0, hargs, rfl, rfl, h0, r0⟩ := trodAll_cons hA
  obtain ⟨v1, vs1, d1, ds1, p1, q1, rfl, rfl, rfl, h1, r1⟩ := trodAll_cons r0
  obtain ⟨rfl, rfl, rfl⟩ := trodAll_nil r1
  obtain rfl : args = #[v0, v1] := by cases args; simp_all
  obtain ⟨rfl, rfl⟩ := trodVars_none hV
  obtain ⟨A0, len0, c0, rfl⟩ := okWide_slice Try.underlying22 (hval 0 22 v0 rfl rfl)
  obtain ⟨z0, rfl, sl0⟩ := open_chain h0
  obtain ⟨x1, y1, rfl, w1, u1⟩ := open_two (hval 1 53 v1 rfl rfl) h1
  clear hA0 hval0
  refine (walk A0 c0 z0 sl0 x1 y1 w1 u1).mono fun e W' ⟨he, bel⟩ => ?_
  subst he
  exact ⟨_, rfl, _, _, _, [], _, [], hW', trodAll_mk1 (shut_bool Try.underlying4 _), trodAll_below bel _ _ _ _ (by kernel_rfl) hA', rfl, bel.frame _, fun h => by cases h⟩

theorem proved : Rows.ChainLaterSaid :=
  OpenClaim.holds_of_wide 8 Try.f8 rfl rfl rfl rfl rfl rfl rfl ⟨rfl, rfl, rfl, rfl, rfl⟩ rfl rfl rfl rfl rfl (by kernel_rfl) Try.func8 (by kernel_rfl)
    (of_decide_eq_true (by kernel_rfl)) (by unfold Func.isWrapper; first | (rw [if_pos (by decide +kernel)]; kernel_rfl) | (rw [if_neg (by decide +kernel)]; exact ⟨rfl, rfl⟩))
    (fun os started H enc _ => lifted os started H enc)
#print axioms proved
end Go.Proofs.Ytbnedhhkapbliaa.chainLater
