/-
  The statement MaskSets: And, Or, Minus and Not of masks answer what the document says; for every row of masks, with no condition.
-/
import Derived.Test.YtkfgiedpnmpfgaaMskApp2
import Derived.Deep.Cut
namespace Go.Proofs.Ytkfgiedpnmpfgaa.maskSets
open Go.ChangeShapes Go.WideShapes Go.ChangeAt Go.RowKit Go.Deep
set_option linter.unusedVariables false
set_option linter.unusedSimpArgs false
set_option maxRecDepth 100000

set_option maxHeartbeats 8000000 in
theorem walk {w : World} (A : Option Addr) (c : Nat) (q : List Mk) (H : Ms w A c q) :
    Calls Try.prog 5 #[.slice A q.length c] w fun e w' => e = .returned (.bool true) ∧ Below w.heap.size w w' := by
  have HWk := Lib.hid (wakes_any w)
  have HA := Lib.hid H
  obtain ⟨n, hn⟩ : ∃ n, n = q.length := ⟨_, rfl⟩
  have hmn : (n : Int) ≤ 9223372036854775807 := by have := H.room; have := H.most; omega
  have hnc : n ≤ c := by have := H.room; omega
  have hcm : (c : Int) ≤ 9223372036854775807 := by have := H.most; omega
  obtain ⟨k, hk⟩ : ∃ k, k = min n 8 := ⟨_, rfl⟩
  obtain ⟨l, hl⟩ : ∃ l, l = q.take k := ⟨_, rfl⟩
  have hlk : l.length = k := by rw [hl, List.length_take, hk]; omega
  have hmin : min (n : Int) 8 = k := by omega
  have hk8 : k ≤ 8 := by omega
  have hkn : k ≤ n := by omega
  have hkc : k ≤ c := by omega
  have k0 : (0 : Int) ≤ k := by omega
  have kc : (k : Int) ≤ c := by omega
  have HL := Lib.hid hl
  have HLK := Lib.hid hlk
  have HF := Lib.hid (show ∀ m ∈ l, Fine m from fun m hm => H.fine m (by rw [hl] at hm; exact List.mem_of_mem_take hm))
  have hrd : ∀ X, Below w.heap.size w X → Read X A k 2 (flatM l) := fun X hX => by
    have := Read.masks ((H.below hX).take k)
    rw [← hl, hlk] at this
    exact this
  have HRd := Lib.hid hrd
  obtain ⟨M1, hM1⟩ : ∃ M, M = mk (fun n => l.all (fun m => has m n)) := ⟨_, rfl⟩
  obtain ⟨M2, hM2⟩ : ∃ M, M = mk (fun n => l.any (fun m => has m n)) := ⟨_, rfl⟩
  obtain ⟨All, hAll⟩ : ∃ M, M = mk (fun n => true) := ⟨_, rfl⟩
  have HAn := Lib.hid (fun (W : World) (A : Option Addr) (c : Nat) (h : Ms W A c l) => show Calls Try.prog 19 #[.slice A k c] W (fun e w' => e = .returned (mv M1) ∧ Below W.heap.size W w') from by have := and_any A c l W h; rw [hlk] at this; rw [hM1]; exact this)
  have HRAn := Lib.hid (fun (W : World) (A : Option Addr) (c : Nat) (h : Ms W A c l) => show Calls Try.prog 20 #[.slice A k c] W (fun e w' => e = .returned (mv M1) ∧ Below W.heap.size W w') from by have := rAnd_any A c l W h; rw [hlk] at this; rw [hM1]; exact this)
  have HOr := Lib.hid (fun (W : World) (A : Option Addr) (c : Nat) (h : Ms W A c l) => show Calls Try.prog 21 #[.slice A k c] W (fun e w' => e = .returned (mv M2) ∧ Below W.heap.size W w') from by have := or_any A c l W h; rw [hlk] at this; rw [hM2]; exact this)
  have HROr := Lib.hid (fun (W : World) (A : Option Addr) (c : Nat) (h : Ms W A c l) => show Calls Try.prog 22 #[.slice A k c] W (fun e w' => e = .returned (mv M2) ∧ Below W.heap.size W w') from by have := rOr_any A c l W h; rw [hlk] at this; rw [hM2]; exact this)
  have HNil := Lib.hid (fun W => show Calls Try.prog 20 #[.slice none 0 0] W (fun e w' => e = .returned (mv All) ∧ Below W.heap.size W w') from by
    have := rAnd_any none 0 [] W (Ms.nil W)
    unfold GivesM at this
    rw [show mk (fun n => ([] : List Mk).all fun m => has m n) = All from by rw [hAll]; exact mk_congr (fun k hk => by simp)] at this
    exact this)
  have HMi := Lib.hid (fun (a b : Mk) (ha : Fine a) (hb : Fine b) => show ∃ M : Mk, (∀ W, Calls Try.prog 23 #[mv a, mv b] W (fun e w' => e = .returned (mv M) ∧ Below W.heap.size W w')) ∧ (∀ W, Calls Try.prog 24 #[mv a, mv b] W (fun e w' => e = .returned (mv M) ∧ Below W.heap.size W w')) from ⟨_, fun W => minus_any a b W ha hb, fun W => rMinus_any a b W ha hb⟩)
  have HNt := Lib.hid (fun (a : Mk) (ha : Fine a) => show ∃ M : Mk, (∀ W, Calls Try.prog 25 #[mv a] W (fun e w' => e = .returned (mv M) ∧ Below W.heap.size W w')) ∧ (∀ W, Calls Try.prog 24 #[mv All, mv a] W (fun e w' => e = .returned (mv M) ∧ Below W.heap.size W w')) from ⟨_, fun W => not_any a W ha, fun W => by
    have := rMinus_any All a W (by rw [hAll]; exact mk_fine _) ha
    rw [show mk (fun k => has All k && !has a k) = mk (fun n => !has a n) from mk_congr (fun k hk => by rw [hAll, has_mk]; simp [hk])] at this
    exact this⟩)
  have hq1 := fun W => eqM M1 M1 W
  have hq2 := fun W => eqM M2 M2 W
  rw [show decide (M1 = M1) = true from by simp] at hq1
  rw [show decide (M2 = M2) = true from by simp] at hq2
  have heqq := fun (M : Mk) W => eqM M M W
  have HEq := Lib.hid (fun (M : Mk) W => show (Op.equalIn 10000 25 (.agg #[.int .u64 M.1, .int .u64 M.2]) (.agg #[.int .u64 M.1, .int .u64 M.2])).run Try.prog W = .ok true W from by rw [eqM]; simp)
  clear hM1 hM2 hAll heqq
  rw [← hn]
  clear hrd H hn hl hlk hk
  rcases A with _ | ad
  · have hk0 : k = 0 := (HRd.out w (Below.refl _ _)).2.2.1 rfl
    subst hk0
    have hn0 : n = 0 := by omega
    subst hn0
    obtain rfl : l = [] := List.eq_nil_of_length_eq_zero HLK.out
    go_enter Try.func5, Try.ntmps5
    go_wp2_with fail
    refine HWk.out.mono ?_
    rintro e w1 ⟨rfl, hb1⟩
    have HB1 := Lib.hid hb1
    clear hb1
    go_upto_region 4 with fail
    obtain ⟨w5, hw5⟩ : ∃ w5, w5 = w1.alloc (.cells #[] 25) := ⟨_, rfl⟩
    rw [← hw5]
    have HB5 := Lib.hid (show Below w.heap.size w w5 from by rw [hw5]; exact HB1.out.alloc HB1.out.size _)
    obtain ⟨A5, hA5⟩ : ∃ A5 : Option Addr, A5 = some ⟨w1.heap.size, 0, none⟩ := ⟨_, rfl⟩
    rw [← hA5]
    obtain ⟨c5, hc50⟩ : ∃ c5 : Nat, c5 = 0 := ⟨_, rfl⟩
    have HM5 := Lib.hid (show Ms w5 (some ⟨w1.heap.size, 0, none⟩) 0 [] from ⟨by simp, by omega, fun h => absurd h (by simp), by simp⟩)
    simp only [show (min (0 : Int) 8).toNat = 0 from rfl]
    rw [← hA5, show (0 : Nat) = c5 from hc50.symm] at HM5
    clear hw5 hA5
    unfold mv at HAn HRAn HOr HROr
    subst hc50
    go_wp2_with fail
    refine (HAn.out _ _ _ HM5.out).mono ?_
    rintro e w6 ⟨rfl, hb6⟩
    have HB6 := Lib.hid hb6
    clear hb6
    go_wp2_with fail
    refine (HRAn.out _ _ _ (HM5.out.below HB6.out)).mono ?_
    rintro e w7 ⟨rfl, hb7⟩
    have HB7 := Lib.hid (HB6.out.trans (hb7.mono HB6.out.size))
    clear hb7
    go_wp2_with fail
    refine (HOr.out _ _ _ (HM5.out.below HB7.out)).mono ?_
    rintro e w8 ⟨rfl, hb8⟩
    have HB8 := Lib.hid (HB7.out.trans (hb8.mono HB7.out.size))
    clear hb8
    go_wp2_with fail
    refine (HROr.out _ _ _ (HM5.out.below HB8.out)).mono ?_
    rintro e w9 ⟨rfl, hb9⟩
    have HB9 := Lib.hid (HB8.out.trans (hb9.mono HB8.out.size))
    clear hb9
    go_wp2
    go_loopw [28] (fun i wr => i = .int .i64 0 ∧ Hid (Below w5.heap.size w5 wr)) (fun i _ => 0)
    case atStart => exact ⟨rfl, HB9⟩
    case round =>
      obtain ⟨rfl, HW⟩ := hrel
      go_wp2
      go_ret
      exact ⟨rfl, HB5.out.trans (HW.out.mono HB5.out.size)⟩
  · go_enter Try.func5, Try.ntmps5
    go_wp2_with fail
    refine HWk.out.mono ?_
    rintro e w1 ⟨rfl, hb1⟩
    have HB1 := Lib.hid hb1
    clear hb1
    go_upto_region 4 with (at_builtin; refine gapp_at rfl (.tmp 7) (.tmp 12) appM rfl w1.heap.size (some ⟨w1.heap.size, 0, none⟩) 0 0 [] rfl (World.ownsRow_made w1 #[] 0 (Nat.le_refl _) (by decide) rfl) (some ad) c k (flatM l) rfl (HRd.out _ (HB1.out.alloc HB1.out.size _)) (by omega) (by simp) ?_; intro A5 c5 w5 ho5 hg5 _)
    rw [Nat.zero_add, List.nil_append] at ho5
    have HM5 := Lib.hid (show Ms w5 A5 c5 l from own_ms (base := w1.heap.size) (by rw [HLK.out]; exact ho5) HF.out)
    have HB5 := Lib.hid (show Below w.heap.size w w5 from (HB1.out.alloc HB1.out.size _).grown hg5 (by have := HB1.out.size; simp; omega) (fun i hi => Nat.le_trans HB1.out.size (Nat.le_of_eq (show w1.heap.size = i by simpa [blk] using hi))))
    clear ho5 hg5
    try simp only [Nat.zero_add]
    have hk5 : k ≤ c5 := by have := HM5.out.room; rw [HLK.out] at this; exact this
    have hc5 : (c5 : Int) ≤ 9223372036854775807 := by have := HM5.out.most; omega
    unfold mv at HAn HRAn HOr HROr
    go_wp2_with fail
    refine (HAn.out _ _ _ HM5.out).mono ?_
    rintro e w6 ⟨rfl, hb6⟩
    have HB6 := Lib.hid hb6
    clear hb6
    go_wp2_with fail
    refine (HRAn.out _ _ _ (HM5.out.below HB6.out)).mono ?_
    rintro e w7 ⟨rfl, hb7⟩
    have HB7 := Lib.hid (HB6.out.trans (hb7.mono HB6.out.size))
    clear hb7
    go_wp2_with fail
    refine (HOr.out _ _ _ (HM5.out.below HB7.out)).mono ?_
    rintro e w8 ⟨rfl, hb8⟩
    have HB8 := Lib.hid (HB7.out.trans (hb8.mono HB7.out.size))
    clear hb8
    go_wp2_with fail
    refine (HROr.out _ _ _ (HM5.out.below HB8.out)).mono ?_
    rintro e w9 ⟨rfl, hb9⟩
    have HB9 := Lib.hid (HB8.out.trans (hb9.mono HB8.out.size))
    clear hb9
    go_wp2
    clear hq1 hq2
    go_loopw [28] (fun i wr => ∃ (j : Nat), j ≤ k ∧ i = .int .i64 j ∧ Hid (Below w5.heap.size w5 wr)) (fun i _ => k - (intOf i).toNat)
    case atStart => exact ⟨0, by omega, rfl, HB9⟩
    case round =>
      obtain ⟨j, hj, rfl, HW⟩ := hrel
      by_cases hjk : j < k
      · obtain ⟨b, o, x, y, rfl, hb, hx, hx1, hx2, d0, d1⟩ := (HM5.out.below HW.out).at_ (k := j) (by rw [HLK.out]; exact hjk)
        obtain ⟨b', o', x0, y0, heq, hb0, hx0, hx01, hx02, e0, e1⟩ := (HM5.out.below HW.out).at_ (k := 0) (by rw [HLK.out]; omega)
        injection heq with heq
        injection heq with e2 e3
        subst e2 e3
        rw [Nat.zero_mul, Nat.add_zero] at e0 e1
        obtain ⟨W1, hW1⟩ : ∃ W1, W1 = wr.alloc (.cells #[.int .u64 x, .int .u64 y] 25) := ⟨_, rfl⟩
        have hm1 : MRow W1 wr.heap.size x y := by rw [hW1]; exact MRow.new wr x y
        have hbW : Below wr.heap.size wr W1 := by rw [hW1]; exact (Below.refl _ _).alloc (Nat.le_refl _) _
        have HK := Lib.hid (fun (X : World) (hX : Below W1.heap.size W1 X) => show (X.cell? ⟨b, o, none⟩ = some (.int .u64 x0) ∧ X.cell? ⟨b, o + 1, none⟩ = some (.int .u64 y0)) ∧ (X.cell? ⟨wr.heap.size, 0, none⟩ = some (.int .u64 x) ∧ X.cell? ⟨wr.heap.size, 1, none⟩ = some (.int .u64 y)) from by
          have h1 := hm1.below hX hm1.lt
          have h2 := hbW.trans (hX.mono hbW.size)
          exact ⟨⟨(h2.cell (p := ⟨b, o, none⟩) hb).trans e0, (h2.cell (p := ⟨b, o + 1, none⟩) hb).trans e1⟩, h1.cell0, h1.cell1⟩)
        have HBW := Lib.hid (HW.out.trans (hbW.mono HW.out.size))
        have HW1 := Lib.hid hW1
        obtain ⟨M3, hm3a, hm3b⟩ := HMi.out (x0, y0) (x, y) ⟨hx01, hx02⟩ ⟨hx1, hx2⟩
        obtain ⟨M4, hm4a, hm4b⟩ := HNt.out (x, y) ⟨hx1, hx2⟩
        have H3a := Lib.hid hm3a
        have H3b := Lib.hid hm3b
        have H4a := Lib.hid hm4a
        have H4b := Lib.hid hm4b
        have hq3 := HEq.out M3
        have hq4 := HEq.out M4
        have j0 : (0 : Int) ≤ j := by omega
        have jk : (j : Int) < k := by omega
        have kp : (0 : Int) < k := by omega
        have kp2 : 0 < k := by omega
        unfold mv at H3a H3b H4a H4b HNil
        clear hx hx0 hx1 hx2 hx01 hx02 hb hb0 hW1 hm1 hbW hm3a hm3b hm4a hm4b e0 e1
        go_upto_region 9 with fail
        rw [← HW1.out]
        refine region_quiet (fun X => Below W1.heap.size W1 X) (by kernel_rfl) (by kernel_rfl) (below_drew (Below.refl _ _)) ?_
        repeat (first | go_big_quiet_skip | (go_big_quiet_want; go_big_quiet_op; first | go_big_quiet_on | (refine ⟨_, fun _ _ => rfl, ?_⟩; go_big_quiet_on) | (apply Exists.intro; refine ⟨fun W hW => ?_, ?_⟩; (focus (obtain ⟨⟨z0, z1⟩, ⟨z2, z3⟩⟩ := HK.out W hW; simp only [Result.andThen, z0, z1, z2, z3]; exact ⟨trivial, rfl⟩)); go_big_quiet_on) | (apply Exists.intro; refine ⟨fun W hW => ?_, ?_⟩; (focus ((with_reducible refine (H3a.out W).mono ?_); intro _ _ h; exact ⟨h.1, hW.trans (h.2.mono hW.size)⟩)); go_big_quiet_on) | (apply Exists.intro; refine ⟨fun W hW => ?_, ?_⟩; (focus ((with_reducible refine (H3b.out W).mono ?_); intro _ _ h; exact ⟨h.1, hW.trans (h.2.mono hW.size)⟩)); go_big_quiet_on) | (apply Exists.intro; refine ⟨fun W hW => ?_, ?_⟩; (focus ((with_reducible refine (H4a.out W).mono ?_); intro _ _ h; exact ⟨h.1, hW.trans (h.2.mono hW.size)⟩)); go_big_quiet_on) | (apply Exists.intro; refine ⟨fun W hW => ?_, ?_⟩; (focus ((with_reducible refine (H4b.out W).mono ?_); intro _ _ h; exact ⟨h.1, hW.trans (h.2.mono hW.size)⟩)); go_big_quiet_on) | (apply Exists.intro; refine ⟨fun W hW => ?_, ?_⟩; (focus ((with_reducible refine (HNil.out W).mono ?_); intro _ _ h; exact ⟨h.1, hW.trans (h.2.mono hW.size)⟩)); go_big_quiet_on) | (refine ⟨_, fun _ _ => rfl, ?_⟩; go_big_quiet_on)))
        refine wpQuiet_nil ?_
        intro w3 hq
        have HW3 := Lib.hid (HBW.out.trans (hq.mono HBW.out.size))
        clear hq hq3 hq4
        go_wp2
        go_roundw
        case rel => exact ⟨j + 1, by omega, by go_num, HW3⟩
        case measure => simp [intOf]; omega
      · obtain rfl : j = k := by omega
        go_wp2
        go_ret
        exact ⟨rfl, HB5.out.trans (HW.out.mono HB5.out.size)⟩

set_option maxRecDepth 100000 in
theorem lifted (os : Os) (started : os.Started) (H : Type) (enc : TypeId × Value → H) :
    ReturnsInHanded {} Try.checked os 5 .any (Rows.maskSetsSpec.pre6 enc Try.prog Try.f5 Rows.maskSetsRow.domain false) (Rows.maskSetsSpec.post enc Try.prog Try.f5 false true false false) := by
  refine returnsInHanded_of_change (C := Try.checked) Try.own started (by kernel_rfl) Try.func5
    (ChangeSpec.witness6 (enc := enc) (C := Try.checked) false ⟨#[], #[.slice none 0 0], []⟩ 8 (by kernel_rfl) (by kernel_rfl) (by kernel_rfl) (by kernel_rfl)) ?_
  intro W base args ds gs before hval0 hW hcnd _
  have hval : ∀ (j : Nat) t v, Try.f5.params[j]? = some t → args[j]? = some v → Value.okWide Try.prog W .any base t v := hval0
  have hW' := hW
  obtain ⟨p, q, hA0, hV, rfl, hfz, hnd⟩ := hW
  have hA : DataW.TrodAll enc Try.prog W 0 (fun _ => true) true Try.f5.params.toList args.toList ds p := hA0
  rw [Try.params5] at hA hval
  have hA' := hA
  obtain ⟨v0, vs0, d0, ds0, p0, q0, hargs, rfl, rfl, h0, r0⟩ := trodAll_cons hA
  obtain ⟨rfl, rfl, rfl⟩ := trodAll_nil r0
  obtain rfl : args = #[v0] := by cases args; simp_all
  obtain ⟨rfl, rfl⟩ := trodVars_none hV
  obtain ⟨A0, len0, c0, rfl⟩ := okWide_slice Try.underlying41 (hval 0 41 v0 rfl rfl)
  obtain ⟨z0, rfl, sl0⟩ := open_masks h0
  clear hA0 hval0
  refine (walk A0 c0 z0 sl0).mono fun e W' ⟨he, bel⟩ => ?_
  subst he
  exact ⟨_, rfl, _, _, _, [], _, [], hW', trodAll_mk1 (shut_bool Try.underlying4 _), trodAll_below bel _ _ _ _ (by kernel_rfl) hA', rfl, bel.frame _, fun h => by cases h⟩

theorem proved : Rows.MaskSetsSaid :=
  OpenClaim.holds_of_wide 5 Try.f5 rfl rfl rfl rfl rfl rfl rfl ⟨rfl, rfl, rfl, rfl, rfl⟩ rfl rfl rfl rfl rfl (by kernel_rfl) Try.func5 (by kernel_rfl)
    (of_decide_eq_true (by kernel_rfl)) (by unfold Func.isWrapper; first | (rw [if_pos (by decide +kernel)]; kernel_rfl) | (rw [if_neg (by decide +kernel)]; exact ⟨rfl, rfl⟩))
    (fun os started H enc _ => lifted os started H enc)
#print axioms proved
end Go.Proofs.Ytkfgiedpnmpfgaa.maskSets
