/-
  The statement MaskBack: Slots, Next and Place tell the same, a mask is that of its slots; for every numbers and mask.
-/
import Derived.Test.YtgljmcddakeoiaaDoorMskBackO
import Derived.Test.YtgljmcddakeoiaaDoorMskBackM
import Derived.Test.YtgljmcddakeoiaaDoorMskBackN
import Derived.Test.YtgljmcddakeoiaaDoorMskHas
import Derived.Test.YtgljmcddakeoiaaDoorMskP
import Derived.Test.YtgljmcddakeoiaaDoorMskRel
import Derived.Test.YtgljmcddakeoiaaDoorMskWakes
import Derived.Deep.Cut
import Derived.Test.YtgljmcddakeoiaaDoorLawFrame
import Derived.Test.YtgljmcddakeoiaaDoorCards
import Derived.Test.YtgljmcddakeoiaaDoorTie
import Derived.ProofKit
import Derived.LaidMore
import Derived.OpenShut
import Derived.Stop.Joined
import Derived.SevenTiedAt
namespace Go.Proofs.YtgljmcddakeoiaaDoor.maskBack
open Go.RowKit Go.Shelf
set_option linter.unusedVariables false
set_option linter.unusedSimpArgs false
set_option maxRecDepth 100000

open Go.ChangeShapes Go.WideShapes Go.ChangeAt in
theorem tab_of_laid {W : World} (h : laidMetH Tryd.prog Rows.maskBackRow.laid W) : Tab W := by
  rw [MakeChecks.laidMetH_plain _ _ _ (by kernel_rfl)] at h
  obtain ⟨ps, ⟨g0, t0, cs0, f0, p0, q0, hg0, ht0, hv0, hd0, _, _⟩, _, _⟩ := h
  obtain rfl := Option.some.inj ((show Tryd.prog.globalNamed "math/bits.deBruijn64tab" = some 0 by kernel_rfl).symm.trans hg0)
  obtain rfl := Option.some.inj ((show (Tryd.prog.globals[0]?).map (·.type) = some 73 by kernel_rfl).symm.trans ht0)
  obtain ⟨xs, m1, rfl, hx1, hlen, hn, hel⟩ := DataW.trod_array Tryd.underlying73 hd0
  have c5 : Tryd.prog.cellsOf 5 = 1 := by kernel_rfl
  have hdat : (DataW.agg (Lib.deBruijn64tab.map fun (n : Nat) => (DataW.lit (.int .u8 (n : Int)) : DataW Unit))) = .agg (xs.map (·.1)) := (show DataW.agg (Lib.deBruijn64tab.map fun (n : Nat) => (DataW.lit (.int .u8 (n : Int)) : DataW Unit)) = Rows.laid_math_bits_deBruijn64tab from rfl).trans (Prod.mk.inj hx1).1
  intro j hj
  have hj' : j < 64 := hj
  have h0 := hel j hj'
  have hxj : xs[j]? = some (xs[j]'(by omega)) := List.getElem?_eq_getElem (by omega)
  rw [hxj] at h0
  obtain ⟨k, e1, e2, _⟩ := DataW.trod_int Tryd.underlying5 h0
  injection hdat with hdat
  have e3 := congrArg (fun l => l[j]?) hdat
  rw [List.getElem?_map, List.getElem?_map, hxj, e2, List.getElem?_eq_getElem hj] at e3
  simp only [Option.map_some, Option.some.injEq, DataW.lit.injEq, Lit.int.injEq, true_and] at e3
  have hc := World.var?_cell hg0 hv0 j
  rw [hc]
  rw [c5, Nat.mul_one] at e1
  have e4 : (cs0.toList.drop j)[0]? = some (.int .u8 k) := by
    have := congrArg (fun l => l[0]?) e1
    simpa [List.getElem?_take] using this
  rw [List.getElem?_drop, Nat.add_zero] at e4
  simp [List.getD, List.getElem?_eq_getElem hj, e3]
  simpa using e4
set_option maxHeartbeats 16000000 in
theorem walk {w : World} (A : Option Addr) (c : Nat) (xs : List Int) (H : Vec .i64 w A c xs) (M : Mk) (hM : Fine M) (hT : Tab w) :
    Calls Tryd.prog 3 #[.slice A xs.length c, .agg #[.int .u64 M.1, .int .u64 M.2]] w fun e w' => e = .returned (.bool true) ∧ Below w.heap.size w w' := by
  obtain ⟨W1, hW1⟩ : ∃ W1, W1 = w.alloc (.cells #[.int .u64 M.1, .int .u64 M.2] 25) := ⟨_, rfl⟩
  obtain ⟨b0, r0⟩ := mbox_world w M
  rw [← hW1] at b0 r0
  have HK := Lib.hid (fun (X : World) (hX : Below W1.heap.size W1 X) => show X.cell? ⟨w.heap.size, 0, none⟩ = some (.int .u64 M.1) ∧ X.cell? ⟨w.heap.size, 1, none⟩ = some (.int .u64 M.2) from by
    have h := r0.below hX r0.lt
    exact ⟨h.cell0, h.cell1⟩)
  have HA := Lib.hid (fun (X : World) (hX : Below W1.heap.size W1 X) => show Vec .i64 X A c xs from (H.below b0).below hX)
  have HT := Lib.hid (fun (X : World) (hX : Below W1.heap.size W1 X) => show Tab X from (hT.below b0).below hX)
  have HB1 := Lib.hid (fun (X : World) (hX : Below W1.heap.size W1 X) => show Below w.heap.size w X from b0.trans (hX.mono b0.size))
  obtain ⟨N, hN⟩ : ∃ N, N = xs.length := ⟨_, rfl⟩
  have hmn : (N : Int) ≤ 9223372036854775807 := by have := H.room; have := H.most; omega
  have hnc : N ≤ c := by have := H.room; omega
  have hcm : (c : Int) ≤ 9223372036854775807 := by have := H.most; omega
  have HM := Lib.hid hM
  have HN := Lib.hid hN
  have HW1 := Lib.hid hW1
  rw [← hN]
  clear H hM hT hN hW1 b0 r0
  go_enter Tryd.func3, Tryd.ntmps3
  go_wp2_with fail
  rw [← HW1.out]
  refine (wakes_any W1).mono ?_
  rintro e w1 ⟨rfl, hb1⟩
  have HX1 := Lib.hid hb1
  clear hb1
  go_wp2
  go_loopw [5, 23] (fun v i wr => ∃ (j : Nat) (A1 : Option Addr) (c1 L : Nat) (l : List Int), j ≤ N ∧ i = .int .i64 j ∧ v = .slice A1 L c1 ∧ L ≤ j ∧ L ≤ 60 ∧ Hid (l.length = L) ∧ Hid (l.all slotB = true) ∧ Hid (OwnZ W1.heap.size wr A1 c1 l) ∧ Hid (Below W1.heap.size W1 wr)) (fun _ i _ => N - (intOf i).toNat)
  case atStart => exact ⟨0, none, 0, 0, [], by omega, rfl, rfl, by omega, by omega, Lib.hid rfl, Lib.hid rfl, Lib.hid (OwnZ.nil _ _), HX1⟩
  case round =>
    obtain ⟨j, A1, c1, L, l, hj, rfl, rfl, hLj, hL60, HL, HAl, HO, HX⟩ := hrel
    by_cases hjn : j < N
    · obtain ⟨b, o, e1, hb, d0⟩ := (HA.out wr HX.out).at_ (j := j) (by rw [← HN.out]; exact hjn)
      have hfx := (HA.out wr HX.out).fit (xs.getD j 0) (by
        have h2 : j < xs.length := by rw [← HN.out]; exact hjn
        rw [List.getD_eq_getElem?_getD, List.getElem?_eq_getElem h2]
        exact List.getElem_mem h2)
      subst e1
      obtain ⟨x, hx⟩ : ∃ x, x = xs.getD j 0 := ⟨_, rfl⟩
      rw [← hx] at d0 hfx
      have j0 : (0 : Int) ≤ j := by omega
      have jn : (j : Int) < N := by omega
      clear hb hx hfx
      by_cases h0 : 0 ≤ x
      · have t0 : decide (0 ≤ x) = true := by simpa using h0
        by_cases h1 : x < 96
        · have t1 : decide (x < 96) = true := by simpa using h1
          by_cases h2 : (j : Int) < 60
          · have t2 : decide ((j : Int) < 60) = true := by simpa using h2
            have HS := Lib.hid (show slotB x = true by unfold slotB; simp [h0, h1])
            have HRow := Lib.hid (show wr.ownsRow W1.heap.size 3 1 (.slice A1 L c1) L (l.map (Value.int .i64)) from by have := HO.out; unfold OwnZ at this; rw [HL.out] at this; exact this)
            go_wp2_with (at_builtin; refine gapp_at rfl (.tmp 38) (.tmp 40) appN rfl W1.heap.size A1 c1 L _ rfl (HRow.out.alloc _) (some ⟨wr.heap.size, 0, none⟩) 1 1 [.int .i64 x] rfl (Read.int (cell_new _ _ _ 0)) (by omega) (by have := HX.out.size; simp; omega) ?_; intro A5 c5 w5 ho5 hg5 _; have HX5 := Lib.hid (HO.out.app (x := x) ((Below.refl _ _).alloc (Nat.le_refl _) _) HX.out.size HL.out ho5 hg5); clear ho5 hg5)
            go_roundw
            case rel => exact ⟨j + 1, A5, c5, L + 1, l ++ [x], by omega, by go_num, rfl, by omega, by omega, Lib.hid (by rw [List.length_append, HL.out]; rfl), Lib.hid (by rw [List.all_append, HAl.out]; simp [HS.out]), Lib.hid HX5.out.1, Lib.hid (HX.out.trans HX5.out.2)⟩
            case measure => simp [intOf]; omega
          · have t2 : decide ((j : Int) < 60) = false := by simpa using h2
            go_wp2
            go_roundw
            case rel => exact ⟨j + 1, A1, c1, L, l, by omega, by go_num, rfl, by omega, by omega, HL, HAl, HO, HX⟩
            case measure => simp [intOf]; omega
        · have t1 : decide (x < 96) = false := by simpa using h1
          go_wp2
          go_roundw
          case rel => exact ⟨j + 1, A1, c1, L, l, by omega, by go_num, rfl, by omega, by omega, HL, HAl, HO, HX⟩
          case measure => simp [intOf]; omega
      · have t0 : decide (0 ≤ x) = false := by simpa using h0
        go_wp2
        go_roundw
        case rel => exact ⟨j + 1, A1, c1, L, l, by omega, by go_num, rfl, by omega, by omega, HL, HAl, HO, HX⟩
        case measure => simp [intOf]; omega
    · obtain rfl : j = N := by omega
      have hvec := HO.out.vec (fun x hx => by have := slotB_yes (List.all_eq_true.1 HAl.out x hx); omega)
      obtain ⟨Q, hQ⟩ : ∃ Q, Q = ofM l := ⟨_, rfl⟩
      have HQ := Lib.hid hQ
      have HOf := Lib.hid (show Calls Tryd.prog 5 #[.slice A1 L c1] wr (fun e w' => e = .returned (.tuple #[.agg #[.int .u64 Q.1, .int .u64 Q.2], .int .i64 0]) ∧ Below wr.heap.size wr w') from by
        have := of_any A1 c1 l wr hvec
        have e0 : ofE l = 0 := by unfold ofE; rw [if_pos HAl.out]
        rw [e0, if_pos rfl, HL.out, ← hQ] at this
        exact this)
      clear hvec hQ
      go_wp2_with fail
      refine HOf.out.mono ?_
      rintro e w2 ⟨rfl, hb2⟩
      have HX2 := Lib.hid (HX.out.trans (hb2.mono HX.out.size))
      have HO2 := Lib.hid (HO.out.below hb2)
      have HZ2 := Lib.hid (show wr.heap.size ≤ w2.heap.size from hb2.size)
      clear hb2
      go_wp2_with fail
      obtain ⟨W3, hW3⟩ : ∃ W3, W3 = w2.alloc (.cells #[.int .u64 Q.1, .int .u64 Q.2] 25) := ⟨_, rfl⟩
      obtain ⟨b3, r3⟩ := mbox_world w2 Q
      rw [← hW3] at b3 r3
      rw [← hW3]
      have hso := sort_any A1 c1 l W3 (HO2.out.below b3) (by rw [HL.out]; omega)
      rw [HL.out] at hso
      refine hso.mono ?_
      rintro e w4 ⟨rfl, ho4, hb4, hg4⟩
      obtain ⟨l2, hl2⟩ : ∃ l2, l2 = l.mergeSort fun x y => decide (x ≤ y) := ⟨_, rfl⟩
      rw [← hl2] at ho4
      have hl2L : l2.length = L := by rw [hl2, List.length_mergeSort, HL.out]
      have hin : ∀ x ∈ l2, 0 ≤ x ∧ x < 96 := fun x hx => slotB_yes (List.all_eq_true.1 HAl.out x (by rw [hl2] at hx; exact List.mem_mergeSort.1 hx))
      have hC : Lib.compact l2 = slotsI Q := by rw [hl2, HQ.out]; exact (back_slots l HAl.out).symm
      have hX4 : Below W1.heap.size W1 w4 := HX2.out.trans ((b3.mono HX2.out.size).trans hb4)
      have r4 : MRow w4 w2.heap.size Q.1 Q.2 := (hg4.block w2.heap.size r3.lt (fun e => by have := (HO2.out.low _ e.symm).2; omega)).trans r3
      obtain ⟨z0, z1⟩ : w4.cell? ⟨w2.heap.size, 0, none⟩ = some (.int .u64 Q.1) ∧ w4.cell? ⟨w2.heap.size, 1, none⟩ = some (.int .u64 Q.2) := ⟨r4.cell0, r4.cell1⟩
      obtain ⟨K, hK⟩ : ∃ K, K = (slots Q).length := ⟨_, rfl⟩
      have HSl := Lib.hid (show Calls Tryd.prog 8 #[.agg #[.int .u64 Q.1, .int .u64 Q.2]] w4 (fun e w' => ∃ A2 c2, e = .returned (.slice A2 K c2) ∧ OwnN w4.heap.size w' A2 c2 (slots Q) ∧ Below w4.heap.size w4 w') from by
        rw [hK]
        exact slots_any Q w4 (by rw [HQ.out]; exact ofM_fine l) (HT.out w4 hX4))
      have HO4 := Lib.hid ho4
      have HX4 := Lib.hid hX4
      have HC := Lib.hid hC
      have HI := Lib.hid hin
      have HK2 := Lib.hid hK
      have HL2 := Lib.hid hl2L
      clear hso b3 r3 hW3 hl2 hl2L hin hC hX4 r4 hK ho4 hb4 hg4
      go_wp2_with fail
      refine HSl.out.mono ?_
      rintro e w5 ⟨A2, c2, rfl, ho5, hb5⟩
      have HCo := Lib.hid (show Calls Tryd.prog 9 #[.slice A1 L c1] w5 (fun e w' => e = .returned (.slice A1 K c1) ∧ Vec .i64 w' A1 c1 (slotsI Q) ∧ Below W1.heap.size w5 w' ∧ w5.grownBy w' (blk A1)) from by
        have := compact_any A1 c1 l2 w5 (HO4.out.below hb5) HI.out
        rw [HL2.out, HC.out, slotsI_len, ← HK2.out] at this
        exact this)
      have HO5 := Lib.hid ho5
      have HX5 := Lib.hid (HX4.out.trans (hb5.mono HX4.out.size))
      clear ho5 hb5 z0 z1
      go_wp2_with fail
      refine HCo.out.mono ?_
      rintro e w6 ⟨rfl, hv6, hb6, hg6⟩
      have HEq := Lib.hid (show Calls Tryd.prog 7 #[.slice A2 K c2, .slice A1 K c1] w6 (fun e w' => e = .returned (.bool true) ∧ Below w6.heap.size w6 w') from by
        have := equal_any A2 A1 c2 c1 (slotsI Q) (slotsI Q) w6 (HO5.out.grown hg6 (fun i hi => (HO4.out.low i hi).2)).slots hv6
        rw [slotsI_len, ← HK2.out, beq_self_eq_true] at this
        exact this)
      have HX6 := Lib.hid (HX5.out.trans hb6)
      clear hv6 hb6 hg6
      go_wp2_with fail
      refine HEq.out.mono ?_
      rintro e w7 ⟨rfl, hb7⟩
      have HX7 := Lib.hid (HX6.out.trans (hb7.mono HX6.out.size))
      clear hb7
      obtain ⟨z0, z1⟩ := HK.out w7 HX7.out
      obtain ⟨T, hT3⟩ : ∃ T, T = (slots M).length := ⟨_, rfl⟩
      have hT96 : T ≤ 96 := by rw [hT3]; exact slotsTo_len M 96
      have HTl := Lib.hid hT3
      have HSM := Lib.hid (show Calls Tryd.prog 8 #[.agg #[.int .u64 M.1, .int .u64 M.2]] w7 (fun e w' => ∃ A3 c3, e = .returned (.slice A3 T c3) ∧ OwnN w7.heap.size w' A3 c3 (slots M) ∧ Below w7.heap.size w7 w') from by
        rw [hT3]
        exact slots_any M w7 HM.out (HT.out w7 HX7.out))
      clear hT3
      go_wp2_with fail
      refine HSM.out.mono ?_
      rintro e w8 ⟨A3, c3, rfl, ho8, hb8⟩
      have HX8 := Lib.hid (HX7.out.trans (hb8.mono HX7.out.size))
      have hv8 : Vec .i64 w8 A3 c3 (slotsI M) := ho8.slots
      have HV8 := Lib.hid (fun (X : World) (hX : Below w8.heap.size w8 X) => hv8.below hX)
      obtain ⟨R, hR⟩ : ∃ R, R = mk (has M) := ⟨_, rfl⟩
      have HR := Lib.hid hR
      have HOM := Lib.hid (show Calls Tryd.prog 5 #[.slice A3 T c3] w8 (fun e w' => e = .returned (.tuple #[.agg #[.int .u64 R.1, .int .u64 R.2], .int .i64 0]) ∧ Below w8.heap.size w8 w') from by
        have := of_any A3 c3 (slotsI M) w8 hv8
        have e0 : ofE (slotsI M) = 0 := by unfold ofE; rw [if_pos (slotsI_all M)]
        rw [e0, if_pos rfl, slotsI_len, ← HTl.out, ofM_slots, ← hR] at this
        exact this)
      clear hb8 ho8 hv8 hR z0 z1
      go_wp2_with fail
      refine HOM.out.mono ?_
      rintro e w9 ⟨rfl, hb9⟩
      have HX9 := Lib.hid (HX8.out.trans (hb9.mono HX8.out.size))
      have HB89 := Lib.hid hb9
      clear hb9
      go_upto_region 16 with fail
      obtain ⟨W10, hW10⟩ : ∃ W10, W10 = w9.alloc (.cells #[.int .u64 R.1, .int .u64 R.2] 25) := ⟨_, rfl⟩
      obtain ⟨b10, r10⟩ := mbox_world w9 R
      rw [← hW10] at b10 r10
      rw [← hW10]
      have hX10 : Below W1.heap.size W1 W10 := HX9.out.trans (b10.mono HX9.out.size)
      have HX10 := Lib.hid hX10
      have HB810 := Lib.hid (show Below w8.heap.size w8 W10 from HB89.out.trans (b10.mono HB89.out.size))
      have HKR := Lib.hid (fun (X : World) (hX : Below W10.heap.size W10 X) => show (X.cell? ⟨w9.heap.size, 0, none⟩ = some (.int .u64 R.1) ∧ X.cell? ⟨w9.heap.size, 1, none⟩ = some (.int .u64 R.2)) ∧ X.cell? ⟨w.heap.size, 0, none⟩ = some (.int .u64 M.1) ∧ X.cell? ⟨w.heap.size, 1, none⟩ = some (.int .u64 M.2) from by
        have h := r10.below hX r10.lt
        exact ⟨⟨h.cell0, h.cell1⟩, HK.out X (hX10.trans (hX.mono hX10.size))⟩)
      have HMs1 := Lib.hid (fun (W : World) => show Ms (W.alloc (.cells #[.int .u64 M.1, .int .u64 M.2] 25)) (some ⟨W.heap.size, 0, none⟩) 1 [M] from Ms.one W M HM.out)
      have HAn := Lib.hid (fun (W : World) (B : Option Addr) (hB : Ms W B 1 [M]) => show Calls Tryd.prog 10 #[.slice B 1 1] W (fun e w' => e = .returned (.agg #[.int .u64 R.1, .int .u64 R.2]) ∧ Below W.heap.size W w') from by
        have := and_any B 1 [M] W hB
        unfold GivesM at this
        rw [show mk (fun n => [M].all (fun m => has m n)) = R from by rw [HR.out]; exact mk_congr (fun k _ => by simp)] at this
        exact this)
      have heq := fun (W : World) => show (Op.equalIn 10000 25 (.agg #[.int .u64 R.1, .int .u64 R.2]) (.agg #[.int .u64 R.1, .int .u64 R.2])).run Tryd.prog W = .ok true W from by rw [eqM]; simp
      clear hW10 b10 r10 hX10
      refine region_rel2 (fun X => Below W10.heap.size W10 X) [.v (.int .i64 0), .v (.bool false), .v (.bool false), .v (.agg #[.int .u64 R.1, .int .u64 R.2]), .v (.agg #[.int .u64 M.1, .int .u64 M.2]), .m 1 [M], .v (.agg #[.int .u64 R.1, .int .u64 R.2]), .v (.bool false), .v (.bool false)]
        (by kernel_rfl) (below_drew (Below.refl _ _)) (by kernel_rfl) (by kernel_rfl) (by kernel_rfl) (by
          refine ⟨?_, ?_, ?_, ?_, ?_, ?_, ?_, ?_, ?_, trivial⟩
          · intro f w hw hd
            simp [fillR, Act.put, go_sem, relOf, Rk.sat, hw, Below.refl]
          · intro f w hw hd
            have e0 : f 0 = .int .i64 0 := dep_of hd 0 (by kernel_rfl)
            simp [fillR, Act.put, go_sem, relOf, Rk.sat, hw, Below.refl, e0]
          · intro f w hw hd
            have e1 : f 1 = .bool false := dep_of hd 1 (by kernel_rfl)
            simp [fillR, Act.put, go_sem, relOf, Rk.sat, hw, Below.refl, e1]
          · intro f w hw hd
            have e2 : f 2 = .bool false := dep_of hd 2 (by kernel_rfl)
            obtain ⟨⟨z0, z1⟩, z2, z3⟩ := HKR.out w hw
            simp [fillR, Act.put, go_sem, relOf, Rk.sat, hw, Below.refl, e2, z0, z1]
          · intro f w hw hd
            have e2 : f 2 = .bool false := dep_of hd 2 (by kernel_rfl)
            obtain ⟨⟨z0, z1⟩, z2, z3⟩ := HKR.out w hw
            simp [fillR, Act.put, go_sem, relOf, Rk.sat, hw, Below.refl, e2, z2, z3]
          · intro f w hw hd
            have e4 : f 4 = .agg #[.int .u64 M.1, .int .u64 M.2] := dep_of hd 4 (by kernel_rfl)
            have e2 : f 2 = .bool false := dep_of hd 2 (by kernel_rfl)
            simp [fillR, Act.put, go_sem, relOf, Rk.sat, hw, Below.refl, e4, e2]
            exact ⟨HMs1.out w, hw.alloc hw.size _, (Below.refl _ _).alloc (Nat.le_refl _) _⟩
          · intro f w hw hd
            obtain ⟨g5, e5, ms5⟩ : ∃ g, f 5 = .slice (some ⟨g, 0, none⟩) 1 1 ∧ Ms w (some ⟨g, 0, none⟩) 1 [M] := dep_of hd 5 (by kernel_rfl)
            have e2 : f 2 = .bool false := dep_of hd 2 (by kernel_rfl)
            simp [fillR, Act.put, go_sem, relOf, Rk.sat, hw, Below.refl, e5, e2]
            refine (HAn.out w _ ms5).mono ?_
            rintro e w2 ⟨rfl, hb⟩
            simp
            exact ⟨hw.trans (hb.mono hw.size), hb⟩
          · intro f w hw hd
            have e3 : f 3 = .agg #[.int .u64 R.1, .int .u64 R.2] := dep_of hd 3 (by kernel_rfl)
            have e6 : f 6 = .agg #[.int .u64 R.1, .int .u64 R.2] := dep_of hd 6 (by kernel_rfl)
            have e2 : f 2 = .bool false := dep_of hd 2 (by kernel_rfl)
            simp [fillR, Act.put, go_sem, relOf, Rk.sat, hw, Below.refl, e3, e6, e2, heq]
          · intro f w hw hd
            have e2 : f 2 = .bool false := dep_of hd 2 (by kernel_rfl)
            have e7 : f 7 = .bool false := dep_of hd 7 (by kernel_rfl)
            simp [fillR, Act.put, go_sem, relOf, Rk.sat, hw, Below.refl, e2, e7]
        ) ?_
      intro f11 w11 hw11 hr11
      have ef : f11 8 = .bool false := hr11 8 (by simp)
      have HX11 := Lib.hid (HX10.out.trans (hw11.mono HX10.out.size))
      have HB811 := Lib.hid (HB810.out.trans (hw11.mono HB810.out.size))
      clear hr11 hw11 heq
      simp [fillR, Act.put, ef]
      clear ef
      go_wp2
      go_loopw [12, 78] (fun v i wr => ∃ (k p : Nat), k ≤ T ∧ p ≤ 96 ∧ i = .int .i64 k ∧ v = .int .i64 p ∧ Hid (p = atI (slots M) k) ∧ Hid (Below w11.heap.size w11 wr)) (fun _ i _ => T - (intOf i).toNat)
      case atStart => exact ⟨0, 0, by omega, by omega, rfl, rfl, Lib.hid rfl, Lib.hid (Below.refl _ _)⟩
      case round =>
        rename World => wo
        obtain ⟨k, p, hk, hp96, rfl, rfl, HP, HW⟩ := hrel
        have HXo := Lib.hid (HX11.out.trans (HW.out.mono HX11.out.size))
        obtain ⟨z0, z1⟩ := HK.out wo HXo.out
        have p0 : (0 : Int) ≤ p := by omega
        have p1 : (p : Int) ≤ 96 := by omega
        by_cases hkT : k < T
        · obtain ⟨y, hy⟩ : ∃ y, (slots M)[k]? = some y := ⟨_, List.getElem?_eq_getElem (by rw [← HTl.out]; exact hkT)⟩
          have hyh : has M y = true := slots_mem.1 (List.mem_of_getElem? hy)
          have hy96 : y < 96 := has_lt hyh
          obtain ⟨b, o, e1, hb, d0⟩ := (HV8.out wo (HB811.out.trans (HW.out.mono HB811.out.size))).at_ (j := k) (by rw [slotsI_len, ← HTl.out]; exact hkT)
          have eg : (slotsI M).getD k 0 = (y : Int) := by
            unfold slotsI
            rw [List.getD_eq_getElem?_getD, List.getElem?_map, hy]
            rfl
          rw [eg] at d0
          subst e1
          have k0 : (0 : Int) ≤ k := by omega
          have kT : (k : Int) < T := by omega
          have y0 : (0 : Int) ≤ y := by omega
          have y1 : (y : Int) < 96 := by omega
          have HNx := Lib.hid (show Calls Tryd.prog 11 #[.agg #[.int .u64 M.1, .int .u64 M.2], .int .i64 p] wo (fun e w' => e = .returned (.tuple #[.int .i64 y, .bool true]) ∧ Below wo.heap.size wo w') from by
            have := next_any M p wo HM.out (by omega) (HT.out wo HXo.out)
            rw [HP.out, (next_yes hy).1, (next_yes hy).2] at this
            rw [HP.out]
            exact this)
          have HPl := Lib.hid (fun W => show Calls Tryd.prog 12 #[.agg #[.int .u64 M.1, .int .u64 M.2], .int .i64 y] W (fun e w' => e = .returned (.int .i64 k) ∧ Below W.heap.size W w') from by
            have := place_any M y W HM.out (by omega)
            rw [place_at hy] at this
            exact this)
          have HHa := Lib.hid (fun W => show Calls Tryd.prog 13 #[.agg #[.int .u64 M.1, .int .u64 M.2], .int .i64 y] W (fun e w' => e = .returned (.bool true) ∧ Below W.heap.size W w') from by
            have := has_any M y W HM.out (by omega)
            rw [show hasB M y = true from by unfold hasB slotB; simp [hyh, y0, y1]; try omega] at this
            exact this)
          have HS := Lib.hid (at_succ hy)
          have tn : ((y : Int) != (y : Int)) = false := by simp
          have tk : ((k : Int) != (k : Int)) = false := by simp
          clear hy hyh hb eg
          go_wp2_with fail
          refine HNx.out.mono ?_
          rintro e w12 ⟨rfl, hb⟩
          have HW12 := Lib.hid (HW.out.trans (hb.mono HW.out.size))
          clear hb z0 z1
          obtain ⟨z0, z1⟩ := HK.out w12 (HX11.out.trans (HW12.out.mono HX11.out.size))
          go_wp2_with fail
          refine (HPl.out w12).mono ?_
          rintro e w13 ⟨rfl, hb⟩
          have HW13 := Lib.hid (HW12.out.trans (hb.mono HW12.out.size))
          clear hb z0 z1
          obtain ⟨z0, z1⟩ := HK.out w13 (HX11.out.trans (HW13.out.mono HX11.out.size))
          go_wp2_with fail
          refine (HHa.out w13).mono ?_
          rintro e w14 ⟨rfl, hb⟩
          have HW14 := Lib.hid (HW13.out.trans (hb.mono HW13.out.size))
          clear hb z0 z1
          go_wp2
          go_roundw
          case rel => exact ⟨k + 1, y + 1, by omega, by omega, by go_num, by go_num, Lib.hid HS.out.symm, HW14⟩
          case measure => simp [intOf]; omega
        · obtain rfl : k = T := by omega
          obtain ⟨v, hv⟩ : ∃ v, v = nextK M p := ⟨_, rfl⟩
          have HNx := Lib.hid (show Calls Tryd.prog 11 #[.agg #[.int .u64 M.1, .int .u64 M.2], .int .i64 p] wo (fun e w' => e = .returned (.tuple #[.int .i64 v, .bool false]) ∧ Below wo.heap.size wo w') from by
            have := next_any M p wo HM.out (by omega) (HT.out wo HXo.out)
            rw [show nextB M p = false from by rw [HP.out, HTl.out]; exact next_end M, ← hv] at this
            exact this)
          have HPl := Lib.hid (fun W => show Calls Tryd.prog 12 #[.agg #[.int .u64 M.1, .int .u64 M.2], .int .i64 96] W (fun e w' => e = .returned (.int .i64 k) ∧ Below W.heap.size W w') from by
            have := place_any M 96 W HM.out (by omega)
            rw [place_end M, ← HTl.out] at this
            exact this)
          have tk : ((k : Int) == (k : Int)) = true := by simp
          clear hv
          go_wp2_with fail
          refine HNx.out.mono ?_
          rintro e w12 ⟨rfl, hb⟩
          have HW12 := Lib.hid (HW.out.trans (hb.mono HW.out.size))
          clear hb z0 z1
          obtain ⟨z0, z1⟩ := HK.out w12 (HX11.out.trans (HW12.out.mono HX11.out.size))
          go_wp2_with fail
          refine (HPl.out w12).mono ?_
          rintro e w13 ⟨rfl, hb⟩
          have HW13 := Lib.hid (HW12.out.trans (hb.mono HW12.out.size))
          clear hb z0 z1
          go_wp2
          go_ret
          exact ⟨rfl, HB1.out _ (HX11.out.trans (HW13.out.mono HX11.out.size))⟩

open Go.ChangeShapes Go.WideShapes Go.ChangeAt
theorem door_met (os : Os) (args : Array Value) : laidMetH Tryd.prog Rows.maskBackRow.laid ((World.doorLaid Tryd.prog 400 os).forCall (fun _ _ => 0) ⟨#[], args, []⟩).memory :=
  laidMetH_of_parts3 (fuel := 8) (laidMet_of_run' 8 (by kernel_rfl) (by kernel_rfl)) (by kernel_rfl) (by kernel_rfl)

set_option maxRecDepth 100000 in
theorem lifted (os : Os) (started : os.Started) (H : Type) (enc : TypeId × Value → H) :
    ReturnsInHanded {} Tryd.checked os 3 .any (fun w args => (Rows.maskBackSpec.pre enc Tryd.prog Tryd.f3 [] false w args ∧ laidMetH Tryd.prog Rows.maskBackRow.laid w) ∧ sizedMet enc Tryd.prog Tryd.f3 (OpenSpec.ofChange Rows.maskBackSpec) false w args)
      (Rows.maskBackSpec.post enc Tryd.prog Tryd.f3 false true false false) := by
  refine returnsInHanded_of_change_and (C := Tryd.checked) (X := fun w _ => laidMetH Tryd.prog Rows.maskBackRow.laid w) (fun _ _ _ hh h => h.of_heap hh) Tryd.own started (by kernel_rfl) Tryd.func3
    (ChangeSpec.witness_shaped (enc := enc) (C := Tryd.checked) (os := os) (X := fun w _ => laidMetH Tryd.prog Rows.maskBackRow.laid w) false (World.doorLaid Tryd.prog 400 os) #[.slice none 0 0, .agg #[.int .u64 0, .int .u64 0]] 8 rfl (World.shaped_of_RefB (by kernel_rfl) (by kernel_rfl)) (by kernel_rfl) (by kernel_rfl) (by kernel_rfl) (door_met os _)) ?_
  intro W base args ds gs before hval0 hW _ _ hL _
  have hval : ∀ (j : Nat) t v, Tryd.f3.params[j]? = some t → args[j]? = some v → Value.okWide Tryd.prog W .any base t v := hval0
  have hW' := hW
  obtain ⟨p, q, hA0, hV, rfl, hfz, hnd⟩ := hW
  have hA : DataW.TrodAll enc Tryd.prog W 0 (fun _ => true) true Tryd.f3.params.toList args.toList ds p := hA0
  rw [Tryd.params3] at hA hval
  have hA' := hA
  obtain ⟨v0, vs0, d0, ds0, p0, q0, hargs, rfl, rfl, h0, r0⟩ := trodAll_cons hA
  obtain ⟨v1, vs1, d1, ds1, p1, q1, rfl, rfl, rfl, h1, r1⟩ := trodAll_cons r0
  obtain ⟨rfl, rfl, rfl⟩ := trodAll_nil r1
  obtain rfl : args = #[v0, v1] := by cases args; simp_all
  obtain ⟨rfl, rfl⟩ := trodVars_none hV
  obtain ⟨A0, len0, c0, rfl⟩ := okWide_slice Tryd.underlying22 (hval 0 22 v0 rfl rfl)
  obtain ⟨z0, rfl, sl0⟩ := open_slots h0
  obtain ⟨z1, rfl, sl1⟩ := open_mask (hval 1 25 v1 rfl rfl) h1
  clear hA0 hval0
  refine (walk A0 c0 z0 sl0 z1 sl1 (tab_of_laid hL)).mono fun e W' ⟨he, bel⟩ => ?_
  subst he
  exact ⟨_, rfl, _, _, _, [], _, [], hW', trodAll_mk1 (shut_bool Tryd.underlying4 _), trodAll_below bel _ _ _ _ (by kernel_rfl) hA', rfl, bel.frame _, fun h => by cases h⟩

theorem row_holds : Rows.MaskBackSaid :=
  OpenClaim.holds_of_wide 3 Tryd.f3 rfl rfl rfl rfl rfl rfl rfl ⟨rfl, rfl, rfl, rfl, rfl⟩ rfl rfl rfl rfl rfl (by kernel_rfl) Tryd.func3 (by kernel_rfl)
    (of_decide_eq_true (by kernel_rfl)) (by unfold Func.isWrapper; first | (rw [if_pos (by decide +kernel)]; kernel_rfl) | (rw [if_neg (by decide +kernel)]; exact ⟨rfl, rfl⟩))
    (fun os started H enc _ => lifted os started H enc)

theorem proved : Rows.MaskBackCardSaid :=
  Claim7.holds_tied_plain_at .later [] [.data] true Rows.maskBackCard.stood.harness false
    row_holds (fun _ h => by cases h) (by kernel_rfl) (fun _ h => by cases h) maskBack_row_tie rfl ⟨rfl, rfl⟩ (by kernel_rfl) rfl
    (fun f fn hf hfn => by
      obtain rfl : f = 3 := Option.some.inj ((show Tryd.prog.funcNamed "quiver/quiverlaw10.MaskBack" = some 3 by kernel_rfl).symm.trans hf) |>.symm
      obtain rfl : fn = Tryd.f3 := (Option.some.inj (Tryd.func3.symm.trans hfn)).symm
      exact ⟨by kernel_rfl, fun j t ht => by
        rw [Tryd.params3] at ht
        have hm : t ∈ [22, 25] := by simpa using Array.mem_of_getElem? ht
        have hall : ([22, 25].all fun u => !Tryd.prog.wantsStandIn u) = true := by kernel_rfl
        exact (show Tryd.prog.wantsStandIn t = false by simpa using List.all_eq_true.1 hall t hm)⟩)
    (by kernel_rfl)
#print axioms proved
end Go.Proofs.YtgljmcddakeoiaaDoor.maskBack
