/-
  Place.
-/
import Derived.Test.YtgljmcddakeoiaaDoorMskH
namespace Go.Proofs.YtgljmcddakeoiaaDoor
open Go.RowKit Go.Shelf
set_option linter.unusedVariables false
set_option linter.unusedSimpArgs false
set_option maxRecDepth 100000

set_option maxHeartbeats 2000000 in
theorem place_any (m : Mk) (n : Int) (w : World) (h : Fine m) (hn : -9223372036854775808 ≤ n ∧ n ≤ 9223372036854775807) :
    Calls Tryd.prog 12 #[mv m, .int .i64 n] w fun e w' => e = .returned (.int .i64 (cnt (fun k => has m k && decide ((k : Int) < n)) 96)) ∧ Below w.heap.size w w' := by
  obtain ⟨S, hS⟩ : ∃ S, S = mk fun k => decide ((k : Int) < n) := ⟨_, rfl⟩
  obtain ⟨M, hM⟩ : ∃ M, M = mk fun k => has m k && decide ((k : Int) < n) := ⟨_, rfl⟩
  have HSg := Lib.hid (fun W => show Calls Tryd.prog 26 #[.int .i64 n] W (fun e w' => e = .returned (mv S) ∧ Below W.heap.size W w') from by rw [hS]; exact below_any n W hn)
  have HAn := Lib.hid (fun (W : World) (A : Option Addr) (hA : Ms W A 2 [m, S]) => show Calls Tryd.prog 10 #[.slice A 2 2] W (fun e w' => e = .returned (mv M) ∧ Below W.heap.size W w') from by
    have := and_any A 2 [m, S] W hA
    unfold GivesM at this
    rw [show mk (fun n => [m, S].all fun m => has m n) = M from by rw [hM, hS]; exact mk_congr (fun k hk => by simp [has_mk, hk])] at this
    exact this)
  have HCn := Lib.hid (fun (W : World) => show Calls Tryd.prog 14 #[mv M] W (fun e w' => e = .returned (.int .i64 (cnt (fun k => has m k && decide ((k : Int) < n)) 96)) ∧ Below W.heap.size W w') from by
    have := count_any M W (by rw [hM]; exact mk_fine _)
    rw [show cnt (has M) 96 = cnt (fun k => has m k && decide ((k : Int) < n)) 96 from cnt_congr (fun k hk => by rw [hM, has_mk]; simp [hk])] at this
    exact this)
  have HMs := Lib.hid (fun (W : World) => Ms.two W m S h (by rw [hS]; exact mk_fine _))
  obtain ⟨hb0, hm0⟩ := mbox_world w m
  obtain ⟨w1, hw1⟩ : ∃ w1, w1 = w.alloc (.cells #[.int .u64 m.1, .int .u64 m.2] 25) := ⟨_, rfl⟩
  rw [← hw1] at hb0 hm0
  have HK := Lib.hid (fun (X : World) (hX : Below w1.heap.size w1 X) => show X.cell? ⟨w.heap.size, 0, none⟩ = some (.int .u64 m.1) ∧ X.cell? ⟨w.heap.size, 1, none⟩ = some (.int .u64 m.2) from by
    have h := hm0.below hX hm0.lt
    exact ⟨h.cell0, h.cell1⟩)
  have HB0 := Lib.hid hb0
  have HW1 := Lib.hid hw1
  clear hS hM hb0 hm0 hw1 h hn
  unfold mv at *
  generalize cnt (fun k => has m k && decide ((k : Int) < n)) 96 = R at *
  obtain ⟨c0, c1⟩ := HK.out w1 (Below.refl _ _)
  go_enter Tryd.func12, Tryd.ntmps12
  go_wp2_with (rw [← HW1.out])
  go_region_held3 (fun X => X.cell? ⟨w.heap.size, 0, none⟩ = some (.int .u64 m.1) ∧ X.cell? ⟨w.heap.size, 1, none⟩ = some (.int .u64 m.2))
    (first | (with_reducible assumption) | (with_reducible exact HK.out _ (below_drew (Below.refl _ _))) | (with_reducible exact HK.out _ HC2.out) | (with_reducible exact HK.out _ (HC2.out.alloc HC2.out.size _)) | (with_reducible exact HK.out _ HC3.out) | (with_reducible exact HK.out _ HC4.out))
    (first
    | (go_at_call 26; (with_reducible refine (HSg.out w1.drew).mono ?_); rintro e w2 ⟨rfl, hb2⟩; have HC2 := Lib.hid (show Below w1.heap.size w1 w2 from (below_drew (Below.refl _ w1)).trans hb2); clear hb2)
    | (go_at_call 10; (refine (HAn.out _ _ (HMs.out w2)).mono ?_); rintro e w3 ⟨rfl, hb3⟩; have HC3 := Lib.hid (show Below w1.heap.size w1 w3 from (HC2.out.alloc HC2.out.size _).trans (hb3.mono (HC2.out.alloc HC2.out.size _).size)); clear hb3)
    | (go_at_call 14; (with_reducible refine (HCn.out w3).mono ?_); rintro e w4 ⟨rfl, hb4⟩; have HC4 := Lib.hid (HC3.out.trans (hb4.mono HC3.out.size)); clear hb4))
  go_wp2
  go_ret
  exact ⟨rfl, HB0.out.trans (HC4.out.mono HB0.out.size)⟩
end Go.Proofs.YtgljmcddakeoiaaDoor
