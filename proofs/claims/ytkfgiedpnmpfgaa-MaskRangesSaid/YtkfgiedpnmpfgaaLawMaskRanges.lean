/-
  The statement MaskRanges: Range answers the mask of just the slots from a to b less 1, or ErrArg; for every row of pairs, with no condition.
-/
import Derived.Test.YtkfgiedpnmpfgaaMskApp2
import Derived.Deep.Cut
namespace Go.Proofs.Ytkfgiedpnmpfgaa.maskRanges
open Go.ChangeShapes Go.WideShapes Go.ChangeAt Go.RowKit Go.Deep
set_option linter.unusedVariables false
set_option linter.unusedSimpArgs false
set_option maxRecDepth 100000

theorem Prs.at_ {w : World} {A : Option Addr} {c : Nat} {l : List (Int × Int)} (h : Prs w A c l) {k : Nat} (hk : k < l.length) : ∃ b o x y, A = some ⟨b, o, none⟩ ∧ b < w.heap.size ∧ (-9223372036854775808 ≤ x ∧ x ≤ 9223372036854775807) ∧ (-9223372036854775808 ≤ y ∧ y ≤ 9223372036854775807) ∧ w.cell? ⟨b, o + k * 2, none⟩ = some (.int .i64 x) ∧ w.cell? ⟨b, o + k * 2 + 1, none⟩ = some (.int .i64 y) := by
  obtain ⟨b, o, e, hb, hc⟩ := h.rd (by omega)
  have hm := List.getElem?_eq_getElem hk
  have hf := h.fit _ (List.getElem_mem hk)
  exact ⟨b, o, (l[k]).1, (l[k]).2, e, hb, hf.1, hf.2, (hc k _ hm).1, (hc k _ hm).2⟩
theorem ofM_range (p L : Nat) : ofM ((List.range' p L).map fun (k : Nat) => (k : Int)) = rangeM p (p + L : Nat) := by
  unfold ofM rangeM
  refine mk_congr (fun k hk => ?_)
  rw [Bool.eq_iff_iff]
  simp only [decide_eq_true_iff, Bool.and_eq_true, List.mem_map]
  constructor
  · rintro ⟨a, h, e⟩
    have := List.mem_range'_1.1 h
    omega
  · rintro ⟨h1, h2⟩
    exact ⟨k, List.mem_range'_1.2 (by omega), rfl⟩

set_option maxHeartbeats 8000000 in
theorem walk {w : World} (A : Option Addr) (c : Nat) (q : List (Int × Int)) (H : Prs w A c q) :
    Calls Try.prog 4 #[.slice A q.length c] w fun e w' => e = .returned (.bool true) ∧ Below w.heap.size w w' := by
  have HWk := Lib.hid (wakes_any w)
  have HA := Lib.hid H
  obtain ⟨n, hn⟩ : ∃ n, n = q.length := ⟨_, rfl⟩
  have hmn : (n : Int) ≤ 9223372036854775807 := by have := H.room; have := H.most; omega
  have hnc : n ≤ c := by have := H.room; omega
  have hcm : (c : Int) ≤ 9223372036854775807 := by have := H.most; omega
  have HN := Lib.hid hn
  have hq0 : ∀ W, (Op.equalIn 10000 25 (.agg #[.int .u64 0, .int .u64 0]) (.agg #[.int .u64 0, .int .u64 0])).run Try.prog W = .ok true W := fun W => by rw [eqM0]; rfl
  have HEq := Lib.hid (fun (M : Mk) W => show (Op.equalIn 10000 25 (.agg #[.int .u64 M.1, .int .u64 M.2]) (.agg #[.int .u64 M.1, .int .u64 M.2])).run Try.prog W = .ok true W from by rw [eqM]; simp)
  rw [← hn]
  clear hn H
  go_enter Try.func4, Try.ntmps4
  go_wp2_with fail
  refine HWk.out.mono ?_
  rintro e w1 ⟨rfl, hb1⟩
  have HB1 := Lib.hid hb1
  clear hb1
  go_wp2
  go_loopw [13] (fun i wr => ∃ (j : Nat), j ≤ n ∧ i = .int .i64 j ∧ Hid (Below w.heap.size w wr)) (fun i _ => n - (intOf i).toNat)
  case atStart => exact ⟨0, by omega, rfl, HB1⟩
  case round =>
    rename World => wo
    obtain ⟨j, hj, rfl, HW⟩ := hrel
    by_cases hjn : j < n
    · obtain ⟨b, o, x, y, rfl, hb, hxr, hyr, d0, d1⟩ := Prs.at_ (HA.out.below HW.out) (k := j) (by rw [← HN.out]; exact hjn)
      have j0 : (0 : Int) ≤ j := by omega
      have jn : (j : Int) < n := by omega
      obtain ⟨g, hg⟩ : ∃ g, g = wo.heap.size := ⟨_, rfl⟩
      obtain ⟨W1, hW1⟩ : ∃ W1, W1 = wo.alloc (.cells #[.int .i64 x, .int .i64 y] 38) := ⟨_, rfl⟩
      have hbW : Below wo.heap.size wo W1 := by rw [hW1]; exact (Below.refl _ _).alloc (Nat.le_refl _) _
      have hz1 : W1.heap.size = g + 1 := by rw [hW1, hg]; simp
      have hc0 : W1.cell? ⟨g, 0, none⟩ = some (.int .i64 x) := by rw [hW1, hg]; exact cell_new wo _ _ 0
      have hc1 : W1.cell? ⟨g, 1, none⟩ = some (.int .i64 y) := by rw [hW1, hg]; exact cell_new wo _ _ 1
      have HK := Lib.hid (fun (X : World) (hX : Below W1.heap.size W1 X) => show X.cell? ⟨g, 0, none⟩ = some (.int .i64 x) ∧ X.cell? ⟨g, 1, none⟩ = some (.int .i64 y) from ⟨(hX.cell (p := ⟨g, 0, none⟩) (by rw [hz1]; simp)).trans hc0, (hX.cell (p := ⟨g, 1, none⟩) (by rw [hz1]; simp)).trans hc1⟩)
      have HBW := Lib.hid (HW.out.trans (hbW.mono HW.out.size))
      have HW1 := Lib.hid hW1
      have HG := Lib.hid hg
      by_cases hj20 : j = 20
      · subst hj20
        have HBx := Lib.hid (HW.out.alloc HW.out.size (.cells #[.int .i64 x, .int .i64 y] 38))
        clear hb hbW hz1 hc0 hc1 hW1 hg
        go_wp2
        go_ret
        exact ⟨rfl, HBx.out⟩
      · have t20 : ((j : Int) == 20) = false := by simp; omega
        obtain ⟨e0, he0⟩ : ∃ e, e = rangeE x y := ⟨_, rfl⟩
        obtain ⟨M0, hM0⟩ : ∃ M, M = if rangeE x y = 0 then rangeM x y else (0, 0) := ⟨_, rfl⟩
        have HRg := Lib.hid (fun W => show Calls Try.prog 18 #[.int .i64 x, .int .i64 y] W (fun e w' => e = .returned (.tuple #[mv M0, .int .i64 e0]) ∧ Below W.heap.size W w') from by rw [he0, hM0]; exact range_any x y W hxr hyr)
        have HE := Lib.hid he0
        have HM := Lib.hid hM0
        obtain ⟨c0, c1⟩ := HK.out W1 (Below.refl _ _)
        clear hb hbW hz1 hc0 hc1 hW1 hg hj20 he0 hM0
        unfold mv at HRg
        go_wp2_with fail
        rw [← HW1.out]
        refine (HRg.out _).mono ?_
        rintro e w2 ⟨rfl, hb2⟩
        obtain ⟨W2, hW2⟩ : ∃ W2, W2 = w2.alloc (.cells #[.int .u64 M0.1, .int .u64 M0.2] 25) := ⟨_, rfl⟩
        obtain ⟨g2, hg2⟩ : ∃ g, g = w2.heap.size := ⟨_, rfl⟩
        have hm2 : MRow W2 g2 M0.1 M0.2 := by rw [hW2, hg2]; exact MRow.new w2 _ _
        have hbW2 : Below W1.heap.size W1 W2 := by rw [hW2]; exact hb2.alloc hb2.size _
        have HK2 := Lib.hid (fun (X : World) (hX : Below W2.heap.size W2 X) => show (X.cell? ⟨g, 0, none⟩ = some (.int .i64 x) ∧ X.cell? ⟨g, 1, none⟩ = some (.int .i64 y)) ∧ (X.cell? ⟨g2, 0, none⟩ = some (.int .u64 M0.1) ∧ X.cell? ⟨g2, 1, none⟩ = some (.int .u64 M0.2)) from ⟨HK.out X (hbW2.trans (hX.mono hbW2.size)), (hm2.below hX hm2.lt).cell0, (hm2.below hX hm2.lt).cell1⟩)
        have HB2 := Lib.hid (HBW.out.trans (hbW2.mono HBW.out.size))
        have HW2 := Lib.hid hW2
        have HG2 := Lib.hid hg2
        clear c0 c1 hb2 hW2 hg2 hm2 hbW2
        obtain ⟨⟨c0, c1⟩, ⟨c2, c3⟩⟩ := HK2.out W2 (Below.refl _ _)
        go_upto_region 8 with fail
        rw [← HW2.out, ← HG2.out, ← HG.out]
        by_cases hbad : x < 0 ∨ 96 < y ∨ y < x
        · obtain rfl : e0 = 2 := by rw [HE.out]; unfold rangeE; rw [if_neg (by omega)]
          obtain rfl : M0 = (0, 0) := by rw [HM.out]; rw [if_neg (by rw [← HE.out]; decide)]
          by_cases h1 : x < 0
          · have t1 : decide (x < 0) = true := by simpa using h1
            clear hbad
            go_wp2
            go_roundw
            case rel => exact ⟨j + 1, by omega, by go_num, HB2⟩
            case measure => simp [intOf]; omega
          · have t1 : decide (x < 0) = false := by simpa using h1
            by_cases h2 : 96 < y
            · have t2 : decide (96 < y) = true := by simpa using h2
              clear hbad
              go_wp2
              go_roundw
              case rel => exact ⟨j + 1, by omega, by go_num, HB2⟩
              case measure => simp [intOf]; omega
            · have t2 : decide (96 < y) = false := by simpa using h2
              have t3 : decide (y < x) = true := by simp; omega
              clear hbad
              go_wp2
              go_roundw
              case rel => exact ⟨j + 1, by omega, by go_num, HB2⟩
              case measure => simp [intOf]; omega
        · obtain rfl : e0 = 0 := by rw [HE.out]; unfold rangeE; rw [if_pos (by omega)]
          have hMr : M0 = rangeM x y := by rw [HM.out]; rw [if_pos (by rw [← HE.out])]
          have t1 : decide (x < 0) = false := by simp; omega
          have t2 : decide (96 < y) = false := by simp; omega
          have t3 : decide (y < x) = false := by simp; omega
          obtain ⟨p, rfl⟩ := Int.eq_ofNat_of_zero_le (show 0 ≤ x by omega)
          obtain ⟨r, rfl⟩ := Int.eq_ofNat_of_zero_le (show 0 ≤ y by omega)
          have hpr : p ≤ r := by omega
          have hr96 : r ≤ 96 := by omega
          have HMr := Lib.hid hMr
          have t4 : decide (r < p) = false := by simp; omega
          clear hbad hMr
          go_wp2
          go_loopw [7, 8] (fun v i wr => ∃ (k : Nat) (A1 : Option Addr) (c1 L : Nat), k ≤ r ∧ i = .int .i64 k ∧ v = .slice A1 L c1 ∧ p + L = k ∧ Hid (OwnN W2.heap.size wr A1 c1 (List.range' p L)) ∧ Hid (Below W2.heap.size W2 wr)) (fun _ i _ => r - (intOf i).toNat)
          case atStart => exact ⟨p, none, 0, 0, by omega, rfl, rfl, by omega, Lib.hid (OwnN.nil _ _), Lib.hid (Below.refl _ _)⟩
          case round =>
            obtain ⟨k, A1, c1', L, hk, rfl, rfl, hL, HO, HBi⟩ := hrel
            clear c0 c1 c2 c3
            obtain ⟨⟨c0, c1⟩, ⟨c2, c3⟩⟩ := HK2.out wr HBi.out
            by_cases hkr : k < r
            · have kr : (k : Int) < r := by omega
              have HRow := Lib.hid (show wr.ownsRow W2.heap.size 3 1 (.slice A1 L c1') L ((List.range' p L).map fun (k : Nat) => Value.int .i64 (k : Int)) from by have := HO.out; unfold OwnN at this; rw [List.length_range'] at this; exact this)
              have hpL := Lib.hid hL
              go_wp2_with (at_builtin; refine gapp_at rfl (.tmp 58) (.tmp 60) appN rfl W2.heap.size A1 c1' L _ rfl (HRow.out.alloc _) (some ⟨wr.heap.size, 0, none⟩) 1 1 [.int .i64 (k : Int)] rfl (Read.int (cell_new _ _ _ 0)) (by omega) (by have := HBi.out.size; simp; omega) ?_; intro A5 c5 w5 ho5 hg5 _; have HX := Lib.hid (HO.out.app (k := k) ((Below.refl _ _).alloc (Nat.le_refl _) _) HBi.out.size List.length_range' ho5 hg5); have HG5 := Lib.hid (show Below W2.heap.size W2 w5 from (HBi.out.alloc HBi.out.size _).grown hg5 (by have := HBi.out.size; simp; omega) (fun q hq => (HO.out.low q hq).1)); clear ho5 hg5)
              go_roundw
              case rel => exact ⟨k + 1, A5, c5, L + 1, by omega, by go_num, rfl, by omega, Lib.hid (by rw [List.range'_1_concat, hL]; exact HX.out.1), HG5⟩
              case measure => simp [intOf]; omega
            · obtain rfl : k = r := by omega
              have hvec := HO.out.vec (fun z hz => by have := List.mem_range'_1.1 hz; omega)
              have HOf := Lib.hid (fun (W : World) (hW : Below wr.heap.size wr W) => show Calls Try.prog 11 #[.slice A1 L c1'] W (fun e w' => e = .returned (mv M0) ∧ Below W.heap.size W w') from by
                have := rOf_any A1 c1' ((List.range' p L).map fun (k : Nat) => (k : Int)) W (hvec.below hW) (by
                  rw [List.all_eq_true]
                  intro z hz
                  obtain ⟨a, ha, rfl⟩ := List.mem_map.1 hz
                  have := List.mem_range'_1.1 ha
                  unfold slotB
                  simp; omega)
                rw [List.length_map, List.length_range', ofM_range, hL, ← HMr.out] at this
                exact this)
              have HKw := Lib.hid (fun (X : World) (hX : Below wr.heap.size wr X) => (HK2.out X (HBi.out.trans (hX.mono HBi.out.size))).2)
              have hqM := HEq.out M0
              have HBe := Lib.hid (HB2.out.trans (HBi.out.mono HB2.out.size))
              unfold mv at HOf
              clear hvec
              go_upto_region 16 with fail
              refine region_quiet (fun X => Below wr.heap.size wr X) (by kernel_rfl) (by kernel_rfl) (below_drew (Below.refl _ _)) ?_
              repeat (first | go_big_quiet_skip | (go_big_quiet_want; go_big_quiet_op; first | go_big_quiet_on | (refine ⟨_, fun _ _ => rfl, ?_⟩; go_big_quiet_on) | (apply Exists.intro; refine ⟨fun W hW => ?_, ?_⟩; (focus (obtain ⟨z0, z1⟩ := HKw.out W hW; simp only [Result.andThen, z0, z1]; exact ⟨trivial, rfl⟩)); go_big_quiet_on) | (apply Exists.intro; refine ⟨fun W hW => ?_, ?_⟩; (focus ((with_reducible refine (HOf.out W hW).mono ?_); intro _ _ h; exact ⟨h.1, hW.trans (h.2.mono hW.size)⟩)); go_big_quiet_on)))
              refine wpQuiet_nil ?_
              intro w3 hq
              have HW3 := Lib.hid (HBe.out.trans (hq.mono HBe.out.size))
              clear hq hqM
              go_wp2
              go_roundw
              case rel => exact ⟨j + 1, by omega, by go_num, HW3⟩
              case measure => simp [intOf]; omega
    · obtain rfl : j = n := by omega
      go_wp2
      go_ret
      exact ⟨rfl, HW.out⟩

set_option maxRecDepth 100000 in
theorem lifted (os : Os) (started : os.Started) (H : Type) (enc : TypeId × Value → H) :
    ReturnsInHanded {} Try.checked os 4 .any (Rows.maskRangesSpec.pre6 enc Try.prog Try.f4 Rows.maskRangesRow.domain false) (Rows.maskRangesSpec.post enc Try.prog Try.f4 false true false false) := by
  refine returnsInHanded_of_change (C := Try.checked) Try.own started (by kernel_rfl) Try.func4
    (ChangeSpec.witness6 (enc := enc) (C := Try.checked) false ⟨#[], #[.slice none 0 0], []⟩ 8 (by kernel_rfl) (by kernel_rfl) (by kernel_rfl) (by kernel_rfl)) ?_
  intro W base args ds gs before hval0 hW hcnd _
  have hval : ∀ (j : Nat) t v, Try.f4.params[j]? = some t → args[j]? = some v → Value.okWide Try.prog W .any base t v := hval0
  have hW' := hW
  obtain ⟨p, q, hA0, hV, rfl, hfz, hnd⟩ := hW
  have hA : DataW.TrodAll enc Try.prog W 0 (fun _ => true) true Try.f4.params.toList args.toList ds p := hA0
  rw [Try.params4] at hA hval
  have hA' := hA
  obtain ⟨v0, vs0, d0, ds0, p0, q0, hargs, rfl, rfl, h0, r0⟩ := trodAll_cons hA
  obtain ⟨rfl, rfl, rfl⟩ := trodAll_nil r0
  obtain rfl : args = #[v0] := by cases args; simp_all
  obtain ⟨rfl, rfl⟩ := trodVars_none hV
  obtain ⟨A0, len0, c0, rfl⟩ := okWide_slice Try.underlying37 (hval 0 37 v0 rfl rfl)
  obtain ⟨z0, rfl, sl0⟩ := open_pairs h0
  clear hA0 hval0
  refine (walk A0 c0 z0 sl0).mono fun e W' ⟨he, bel⟩ => ?_
  subst he
  exact ⟨_, rfl, _, _, _, [], _, [], hW', trodAll_mk1 (shut_bool Try.underlying4 _), trodAll_below bel _ _ _ _ (by kernel_rfl) hA', rfl, bel.frame _, fun h => by cases h⟩

theorem proved : Rows.MaskRangesSaid :=
  OpenClaim.holds_of_wide 4 Try.f4 rfl rfl rfl rfl rfl rfl rfl ⟨rfl, rfl, rfl, rfl, rfl⟩ rfl rfl rfl rfl rfl (by kernel_rfl) Try.func4 (by kernel_rfl)
    (of_decide_eq_true (by kernel_rfl)) (by unfold Func.isWrapper; first | (rw [if_pos (by decide +kernel)]; kernel_rfl) | (rw [if_neg (by decide +kernel)]; exact ⟨rfl, rfl⟩))
    (fun os started H enc _ => lifted os started H enc)
#print axioms proved
end Go.Proofs.Ytkfgiedpnmpfgaa.maskRanges
