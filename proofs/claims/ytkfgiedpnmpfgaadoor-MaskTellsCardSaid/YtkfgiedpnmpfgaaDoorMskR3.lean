/-
  The document's Slots.
-/
import Derived.Test.YtkfgiedpnmpfgaaDoorMskR2
import Derived.Test.YtkfgiedpnmpfgaaDoorMskApp
namespace Go.Proofs.YtkfgiedpnmpfgaaDoor
open Go.RowKit Go.Shelf
set_option linter.unusedVariables false
set_option linter.unusedSimpArgs false
set_option maxRecDepth 100000

def slotsTo (m : Mk) (k : Nat) : List Nat := (List.range k).filter (has m)
theorem slotsTo_succ (m : Mk) (k : Nat) : slotsTo m (k + 1) = slotsTo m k ++ (if has m k then [k] else []) := by
  unfold slotsTo
  rw [List.range_succ, List.filter_append]
  cases h : has m k <;> simp [h]
theorem slotsTo_len (m : Mk) (k : Nat) : (slotsTo m k).length ≤ k := by
  unfold slotsTo
  exact Nat.le_trans (List.length_filter_le _ _) (by simp)
theorem hasI_nat (m : Mk) {k : Nat} (h : k < 96) : hasI m k = has m k := by
  unfold hasI slotB
  have h1 : (0 : Int) ≤ k := by omega
  have h2 : (k : Int) < 96 := by omega
  simp [h1, h2]

set_option maxHeartbeats 2000000 in
theorem rSlots_any (m : Mk) (w : World) (h : Fine m) :
    Calls Tryd.prog 8 #[mv m] w fun e w' => ∃ A c, e = .returned (.slice A (slots m).length c) ∧ OwnN w.heap.size w' A c (slots m) ∧ Below w.heap.size w w' := by
  have HH := Lib.hid (fun (k : Nat) (hk : k < 96) W => show Calls Tryd.prog 13 #[mv m, .int .i64 k] W (fun e w' => e = .returned (.bool (has m k)) ∧ Below W.heap.size W w') from by
    have := rHas_any m k W h (by omega)
    rw [hasI_nat m hk] at this
    exact this)
  obtain ⟨hb0, hm0⟩ := mbox_world w m
  obtain ⟨W0, hW0⟩ : ∃ W0, W0 = w.alloc (.cells #[.int .u64 m.1, .int .u64 m.2] 27) := ⟨_, rfl⟩
  rw [← hW0] at hb0 hm0
  have HK := Lib.hid (fun (X : World) (hX : Below W0.heap.size W0 X) => show X.cell? ⟨w.heap.size, 0, none⟩ = some (.int .u64 m.1) ∧ X.cell? ⟨w.heap.size, 1, none⟩ = some (.int .u64 m.2) from by
    have h := hm0.below hX hm0.lt
    exact ⟨h.cell0, h.cell1⟩)
  have HB0 := Lib.hid hb0
  have HW := Lib.hid hW0
  clear h hb0 hm0 hW0
  unfold mv at *
  go_enter Tryd.func8, Tryd.ntmps8
  go_wp2
  rw [show w.alloc (.cells #[.int .u64 m.1, .int .u64 m.2] 27) = W0 from HW.out.symm]
  go_loopw [3, 5] (fun v i wr => ∃ (k : Nat) (A1 : Option Addr) (c1 L : Nat), k ≤ 96 ∧ i = .int .i64 k ∧ v = .slice A1 L c1 ∧ L ≤ k ∧ Hid ((slotsTo m k).length = L ∧ OwnN W0.heap.size wr A1 c1 (slotsTo m k)) ∧ Hid (Below W0.heap.size W0 wr)) (fun _ i _ => 96 - (intOf i).toNat)
  case atStart => exact ⟨0, none, 0, 0, by omega, rfl, rfl, by omega, Lib.hid ⟨rfl, OwnN.nil _ _⟩, Lib.hid (Below.refl _ _)⟩
  case round =>
    obtain ⟨k, A1, c1, L, hk, rfl, rfl, hL, HO, HBr⟩ := hrel
    by_cases hkn : k < 96
    · obtain ⟨c0, c1'⟩ := HK.out wr HBr.out
      have HHk := Lib.hid (fun W => HH.out k hkn W)
      have hsucc := slotsTo_succ m k
      cases hh : has m k with
      | false =>
        rw [hh] at HHk hsucc
        have HS := Lib.hid (show slotsTo m (k + 1) = slotsTo m k by rw [hsucc]; simp)
        clear hh hsucc
        go_wp2_with fail
        refine (HHk.out _).mono ?_
        rintro e w2 ⟨rfl, hb2⟩
        have HB2 := Lib.hid (HBr.out.trans (hb2.mono HBr.out.size))
        have HO2 := Lib.hid (HO.out.2.below hb2)
        clear hb2
        go_wp2
        go_roundw
        case rel => exact ⟨k + 1, A1, c1, L, by omega, by go_num, rfl, by omega, Lib.hid (by rw [HS.out]; exact ⟨HO.out.1, HO2.out⟩), HB2⟩
        case measure => simp [intOf]; omega
      | true =>
        rw [hh] at HHk hsucc
        have HS := Lib.hid (show slotsTo m (k + 1) = slotsTo m k ++ [k] by rw [hsucc]; simp)
        clear hh hsucc
        go_wp2_with fail
        refine (HHk.out _).mono ?_
        rintro e w2 ⟨rfl, hb2⟩
        have HB2 := Lib.hid (HBr.out.trans (hb2.mono HBr.out.size))
        have HO2 := Lib.hid (HO.out.2.below hb2)
        have HL2 := Lib.hid HO.out.1
        have HBw := Lib.hid (HB0.out.trans (HB2.out.mono HB0.out.size))
        have HRow := Lib.hid (show w2.ownsRow W0.heap.size 3 1 (.slice A1 L c1) L ((slotsTo m k).map fun (k : Nat) => Value.int .i64 (k : Int)) from by have := HO2.out; unfold OwnN at this; rw [HL2.out] at this; exact this)
        clear hb2
        go_wp2_with (at_builtin; refine gapp_at rfl (.tmp 11) (.tmp 13) appN rfl W0.heap.size A1 c1 L _ rfl (HRow.out.alloc _) (some ⟨w2.heap.size, 0, none⟩) 1 1 [.int .i64 (k : Int)] rfl (Read.int (cell_new _ _ _ 0)) (by omega) (by have := HB2.out.size; simp; omega) ?_; intro A5 c5 w5 ho5 hg5 _; have HX := Lib.hid (HO2.out.app (k := k) ((Below.refl _ _).alloc (Nat.le_refl _) _) HB2.out.size HL2.out ho5 hg5); have HG5 := Lib.hid (show Below W0.heap.size W0 w5 from (HB2.out.alloc HB2.out.size _).grown hg5 (by have := HB2.out.size; simp; omega) (fun q hq => (HO2.out.low q hq).1)); clear ho5 hg5)
        go_roundw
        case rel => exact ⟨k + 1, A5, c5, L + 1, by omega, by go_num, rfl, by omega, Lib.hid (by rw [HS.out]; exact ⟨by rw [List.length_append, HL2.out]; rfl, HX.out.1⟩), HG5⟩
        case measure => simp [intOf]; omega
    · obtain rfl : k = 96 := by omega
      have HF := Lib.hid (show slotsTo m 96 = slots m from rfl)
      go_wp2
      go_ret
      have h1 := HO.out
      rw [HF.out] at h1
      exact ⟨A1, c1, by rw [h1.1]; rfl, h1.2.mono HB0.out.size, HB0.out.trans (HBr.out.mono HB0.out.size)⟩
end Go.Proofs.YtkfgiedpnmpfgaaDoor
