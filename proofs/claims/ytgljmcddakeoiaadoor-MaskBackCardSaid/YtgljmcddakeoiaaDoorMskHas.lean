/-
  Has.
-/
import Derived.Test.YtgljmcddakeoiaaDoorMskG
import Derived.Test.YtgljmcddakeoiaaDoorMskRel
namespace Go.Proofs.YtgljmcddakeoiaaDoor
open Go.RowKit Go.Shelf
set_option linter.unusedVariables false
set_option linter.unusedSimpArgs false
set_option maxRecDepth 100000

/-- Whether the slot is in the mask. -/
def hasB (m : Mk) (n : Int) : Bool := slotB n && has m n.toNat
theorem mk_empty : mk (fun _ => false) = (0, 0) := by decide +kernel
theorem one_in (m : Mk) (k : Nat) (hk : k < 96) : decide (mk (fun j => has m j && decide (j = k)) = (0, 0)) = !has m k := by
  rw [← mk_empty, Bool.eq_iff_iff, decide_eq_true_iff]
  constructor
  · intro h
    have := mk_inj h k hk
    simpa using this
  · intro h
    refine mk_congr (fun j hj => ?_)
    by_cases hjk : j = k
    · subst hjk; simpa using h
    · simp [hjk]

set_option maxHeartbeats 4000000 in
theorem has_any (m : Mk) (n : Int) (w : World) (h : Fine m) (hn : -9223372036854775808 ≤ n ∧ n ≤ 9223372036854775807) :
    Calls Tryd.prog 13 #[mv m, .int .i64 n] w fun e w' => e = .returned (.bool (hasB m n)) ∧ Below w.heap.size w w' := by
  have HI := Lib.hid (fun (W : World) => (isSlot_any n W hn).mono (fun e w' (q : e = .returned (.bool (slotB n)) ∧ W = w') => show e = .returned (.bool (slotB n)) ∧ Below W.heap.size W w' from ⟨q.1, q.2 ▸ Below.refl _ _⟩))
  obtain ⟨hb0, hm0⟩ := mbox_world w m
  obtain ⟨w1, hw1⟩ : ∃ w1, w1 = w.alloc (.cells #[.int .u64 m.1, .int .u64 m.2] 25) := ⟨_, rfl⟩
  rw [← hw1] at hb0 hm0
  have HK := Lib.hid (fun (X : World) (hX : Below w1.heap.size w1 X) => show X.cell? ⟨w.heap.size, 0, none⟩ = some (.int .u64 m.1) ∧ X.cell? ⟨w.heap.size, 1, none⟩ = some (.int .u64 m.2) from by
    have h := hm0.below hX hm0.lt
    exact ⟨h.cell0, h.cell1⟩)
  have HB0 := Lib.hid hb0
  have HW1 := Lib.hid hw1
  clear hb0 hm0 hw1
  cases hs : slotB n with
  | false =>
    have HF := Lib.hid (show hasB m n = false by unfold hasB; rw [hs]; rfl)
    rw [hs] at HI
    clear hs h hn
    unfold mv
    go_enter Tryd.func13, Tryd.ntmps13
    go_wp2_with (rw [← HW1.out])
    refine region_rel2 (fun X => Below w1.heap.size w1 X) [.v (.int .i64 n), .v (.bool false), .v (.bool false), .u, .u, .u, .u, .u, .u, .u, .v (.bool false), .v (.bool false)]
      (by kernel_rfl) (below_drew (Below.refl _ _)) (by kernel_rfl) (by kernel_rfl) (by kernel_rfl) ?_ ?_
    · refine ⟨?_, ?_, ?_, ?_, ?_, ?_, ?_, ?_, ?_, ?_, ?_, ?_, trivial⟩
      · intro f w hw hd
        simp [fillR, Act.put, go_sem, relOf, Rk.sat, hw, Below.refl]
      · intro f w hw hd
        have e0 : f 0 = .int .i64 n := dep_of hd 0 (by kernel_rfl)
        simp [fillR, Act.put, go_sem, relOf, Rk.sat, hw, Below.refl, e0]
        refine (HI.out w).mono ?_
        rintro e w2 ⟨rfl, hb⟩
        simp
        exact ⟨hw.trans (hb.mono hw.size), hb⟩
      · intro f w hw hd
        have e1 : f 1 = .bool false := dep_of hd 1 (by kernel_rfl)
        simp [fillR, Act.put, go_sem, relOf, Rk.sat, hw, Below.refl, e1]
      · intro f w hw hd
        have e2 : f 2 = .bool false := dep_of hd 2 (by kernel_rfl)
        simp [fillR, Act.put, go_sem, relOf, Rk.sat, hw, Below.refl, e2]
      · intro f w hw hd
        have e2 : f 2 = .bool false := dep_of hd 2 (by kernel_rfl)
        simp [fillR, Act.put, go_sem, relOf, Rk.sat, hw, Below.refl, e2]
      · intro f w hw hd
        have e2 : f 2 = .bool false := dep_of hd 2 (by kernel_rfl)
        simp [fillR, Act.put, go_sem, relOf, Rk.sat, hw, Below.refl, e2]
      · intro f w hw hd
        have e2 : f 2 = .bool false := dep_of hd 2 (by kernel_rfl)
        simp [fillR, Act.put, go_sem, relOf, Rk.sat, hw, Below.refl, e2]
      · intro f w hw hd
        have e2 : f 2 = .bool false := dep_of hd 2 (by kernel_rfl)
        simp [fillR, Act.put, go_sem, relOf, Rk.sat, hw, Below.refl, e2]
      · intro f w hw hd
        have e2 : f 2 = .bool false := dep_of hd 2 (by kernel_rfl)
        simp [fillR, Act.put, go_sem, relOf, Rk.sat, hw, Below.refl, e2]
      · intro f w hw hd
        have e2 : f 2 = .bool false := dep_of hd 2 (by kernel_rfl)
        simp [fillR, Act.put, go_sem, relOf, Rk.sat, hw, Below.refl, e2]
      · intro f w hw hd
        have e2 : f 2 = .bool false := dep_of hd 2 (by kernel_rfl)
        simp [fillR, Act.put, go_sem, relOf, Rk.sat, hw, Below.refl, e2]
      · intro f w hw hd
        have e10 : f 10 = .bool false := dep_of hd 10 (by kernel_rfl)
        simp [fillR, Act.put, go_sem, relOf, Rk.sat, hw, Below.refl, e10]
    intro f w2 hw hr
    have ef : f 11 = .bool false := hr 11 (by simp)
    have HW2 := Lib.hid (HB0.out.trans (hw.mono HB0.out.size))
    clear hr hw HK
    simp [fillR, Act.put, ef]
    go_wp2
    go_ret
    rw [HF.out]
    exact ⟨rfl, HW2.out⟩
  | true =>
    obtain ⟨h0, h96⟩ := slotB_yes hs
    obtain ⟨k, rfl⟩ := Int.eq_ofNat_of_zero_le h0
    rw [hs] at HI
    obtain ⟨S, hS⟩ : ∃ S, S = mk fun j => decide ((j : Int) = (k : Int)) := ⟨_, rfl⟩
    obtain ⟨M, hM⟩ : ∃ M, M = mk fun j => has m j && decide (j = k) := ⟨_, rfl⟩
    have HSg := Lib.hid (fun W => show Calls Tryd.prog 18 #[.int .i64 k] W (fun e w' => e = .returned (mv S) ∧ Below W.heap.size W w') from by rw [hS]; exact single_any k W ⟨h0, h96⟩)
    have HAn := Lib.hid (fun (W : World) (A : Option Addr) (hA : Ms W A 2 [m, S]) => show Calls Tryd.prog 10 #[.slice A 2 2] W (fun e w' => e = .returned (mv M) ∧ Below W.heap.size W w') from by
      have := and_any A 2 [m, S] W hA
      unfold GivesM at this
      rw [show mk (fun n => [m, S].all fun m => has m n) = M from by rw [hM, hS]; exact mk_congr (fun j hj => by rw [Bool.eq_iff_iff]; simp [has_mk, hj]; omega)] at this
      exact this)
    have HOr := Lib.hid (fun (W : World) => show Calls Tryd.prog 17 #[.slice none 0 0] W (fun e w' => e = .returned (.agg #[.int .u64 0, .int .u64 0]) ∧ Below W.heap.size W w') from by
      have := or_any none 0 [] W (Ms.nil W)
      unfold GivesM at this
      rw [show mk (fun n => ([] : List Mk).any fun m => has m n) = (0, 0) from mk_empty] at this
      exact this)
    have HMs := Lib.hid (fun (W : World) => Ms.two W m S h (by rw [hS]; exact mk_fine _))
    obtain ⟨b, hb⟩ : ∃ b, b = hasB m k := ⟨_, rfl⟩
    have HE := Lib.hid (fun (W : World) => show (Op.equalIn 10000 25 (.agg #[.int .u64 M.1, .int .u64 M.2]) (.agg #[.int .u64 0, .int .u64 0])).run Tryd.prog W = .ok (!b) W from by
      have := eqM M (0, 0) W
      rw [show decide (M = (0, 0)) = !b from by rw [hM, one_in m k (by omega), hb]; unfold hasB; rw [hs]; rfl] at this
      exact this)
    have HF := Lib.hid hb
    clear hS hM h hn hb h0 h96 hs
    unfold mv at *
    go_enter Tryd.func13, Tryd.ntmps13
    go_wp2_with (rw [← HW1.out])
    refine region_rel2 (fun X => Below w1.heap.size w1 X) [.v (.int .i64 k), .v (.bool true), .v (.bool true), .v (.agg #[.int .u64 m.1, .int .u64 m.2]), .v (.int .i64 k), .v (.agg #[.int .u64 S.1, .int .u64 S.2]), .m 2 [m, S], .v (.agg #[.int .u64 M.1, .int .u64 M.2]), .v (.agg #[.int .u64 0, .int .u64 0]), .v (.bool b), .v (.bool b), .v (.bool b)]
      (by kernel_rfl) (below_drew (Below.refl _ _)) (by kernel_rfl) (by kernel_rfl) (by kernel_rfl) ?_ ?_
    · refine ⟨?_, ?_, ?_, ?_, ?_, ?_, ?_, ?_, ?_, ?_, ?_, ?_, trivial⟩
      · intro f w hw hd
        simp [fillR, Act.put, go_sem, relOf, Rk.sat, hw, Below.refl]
      · intro f w hw hd
        have e0 : f 0 = .int .i64 k := dep_of hd 0 (by kernel_rfl)
        simp [fillR, Act.put, go_sem, relOf, Rk.sat, hw, Below.refl, e0]
        refine (HI.out w).mono ?_
        rintro e w2 ⟨rfl, hb⟩
        simp
        exact ⟨hw.trans (hb.mono hw.size), hb⟩
      · intro f w hw hd
        have e1 : f 1 = .bool true := dep_of hd 1 (by kernel_rfl)
        simp [fillR, Act.put, go_sem, relOf, Rk.sat, hw, Below.refl, e1]
      · intro f w hw hd
        have e2 : f 2 = .bool true := dep_of hd 2 (by kernel_rfl)
        obtain ⟨z0, z1⟩ := HK.out w hw
        simp [fillR, Act.put, go_sem, relOf, Rk.sat, hw, Below.refl, e2, z0, z1]
      · intro f w hw hd
        have e2 : f 2 = .bool true := dep_of hd 2 (by kernel_rfl)
        simp [fillR, Act.put, go_sem, relOf, Rk.sat, hw, Below.refl, e2]
      · intro f w hw hd
        have e4 : f 4 = .int .i64 k := dep_of hd 4 (by kernel_rfl)
        have e2 : f 2 = .bool true := dep_of hd 2 (by kernel_rfl)
        simp [fillR, Act.put, go_sem, relOf, Rk.sat, hw, Below.refl, e4, e2]
        refine (HSg.out w).mono ?_
        rintro e w2 ⟨rfl, hb⟩
        simp
        exact ⟨hw.trans (hb.mono hw.size), hb⟩
      · intro f w hw hd
        have e3 : f 3 = .agg #[.int .u64 m.1, .int .u64 m.2] := dep_of hd 3 (by kernel_rfl)
        have e5 : f 5 = .agg #[.int .u64 S.1, .int .u64 S.2] := dep_of hd 5 (by kernel_rfl)
        have e2 : f 2 = .bool true := dep_of hd 2 (by kernel_rfl)
        simp [fillR, Act.put, go_sem, relOf, Rk.sat, hw, Below.refl, e3, e5, e2]
        exact ⟨HMs.out w, hw.alloc hw.size _, (Below.refl _ _).alloc (Nat.le_refl _) _⟩
      · intro f w hw hd
        obtain ⟨g6, e6, ms6⟩ : ∃ g, f 6 = .slice (some ⟨g, 0, none⟩) 2 2 ∧ Ms w (some ⟨g, 0, none⟩) 2 [m, S] := dep_of hd 6 (by kernel_rfl)
        have e2 : f 2 = .bool true := dep_of hd 2 (by kernel_rfl)
        simp [fillR, Act.put, go_sem, relOf, Rk.sat, hw, Below.refl, e6, e2]
        refine (HAn.out w _ ms6).mono ?_
        rintro e w2 ⟨rfl, hb⟩
        simp
        exact ⟨hw.trans (hb.mono hw.size), hb⟩
      · intro f w hw hd
        have e2 : f 2 = .bool true := dep_of hd 2 (by kernel_rfl)
        simp [fillR, Act.put, go_sem, relOf, Rk.sat, hw, Below.refl, e2]
        refine (HOr.out w).mono ?_
        rintro e w2 ⟨rfl, hb⟩
        simp
        exact ⟨hw.trans (hb.mono hw.size), hb⟩
      · intro f w hw hd
        have e7 : f 7 = .agg #[.int .u64 M.1, .int .u64 M.2] := dep_of hd 7 (by kernel_rfl)
        have e8 : f 8 = .agg #[.int .u64 0, .int .u64 0] := dep_of hd 8 (by kernel_rfl)
        have e2 : f 2 = .bool true := dep_of hd 2 (by kernel_rfl)
        simp [fillR, Act.put, go_sem, relOf, Rk.sat, hw, Below.refl, e7, e8, e2, HE.out w]
      · intro f w hw hd
        have e2 : f 2 = .bool true := dep_of hd 2 (by kernel_rfl)
        have e9 : f 9 = .bool b := dep_of hd 9 (by kernel_rfl)
        simp [fillR, Act.put, go_sem, relOf, Rk.sat, hw, Below.refl, e2, e9]
      · intro f w hw hd
        have e10 : f 10 = .bool b := dep_of hd 10 (by kernel_rfl)
        simp [fillR, Act.put, go_sem, relOf, Rk.sat, hw, Below.refl, e10]
    intro f w2 hw hr
    have ef : f 11 = .bool b := hr 11 (by simp)
    have HW2 := Lib.hid (HB0.out.trans (hw.mono HB0.out.size))
    clear hr hw HK
    simp [fillR, Act.put, ef]
    go_wp2
    go_ret
    rw [← HF.out]
    exact ⟨rfl, HW2.out⟩
end Go.Proofs.YtgljmcddakeoiaaDoor
