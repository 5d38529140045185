/-
  The document's Same (of rows that are alike), New.
-/
import Derived.Test.YthpbgejjfdgpaaaRefApp
namespace Go.Proofs.Ythpbgejjfdgpaaa
open Go.RowKit
set_option linter.unusedVariables false
set_option maxRecDepth 100000

set_option maxHeartbeats 400000 in
theorem same_ref (A A' : Option Addr) (c c' : Nat) (xs : List Int) (w : World) {B B' : Nat} (h : Rd w B A xs) (h' : Rd w B' A' xs) (hs : xs.length ≤ 1000000) :
    Calls Try.prog 15 #[.slice A xs.length c, .slice A' xs.length c'] w fun e w' => e = .returned (.bool true) ∧ Below w.heap.size w w' := by
  rcases Nat.eq_zero_or_pos xs.length with h0 | h0
  · obtain rfl : xs = [] := List.eq_nil_of_length_eq_zero h0
    go_enter Try.func15, Try.ntmps15
    go_wp2
    go_loopw [13] (fun i wr => i = .int .i64 0 ∧ wr = w) (fun _ _ => 0)
    case atStart => exact ⟨rfl, rfl⟩
    case round =>
      obtain ⟨rfl, rfl⟩ := hrel
      go_wp2
      go_ret
      exact ⟨rfl, Below.refl _ _⟩
  · obtain ⟨b, o, rfl, _, h1⟩ := h h0
    obtain ⟨b', o', rfl, _, h1'⟩ := h' h0
    obtain ⟨n, hn⟩ : ∃ n, n = xs.length := ⟨_, rfl⟩
    rw [← hn] at h1 h1' hs ⊢
    have H1 := Lib.hid h1
    have H1' := Lib.hid h1'
    clear h h' h1 h1' hn h0
    go_enter Try.func15, Try.ntmps15
    go_wp2
    go_loopw [13] (fun i wr => ∃ k q : Nat, i = .int .i64 k ∧ k ≤ n ∧ wr = w.drewN q) (fun i _ => n - (match i with | .int _ k => k.toNat | _ => 0))
    case atStart => exact ⟨0, 0, rfl, Nat.zero_le _, rfl⟩
    case round =>
      obtain ⟨k, q, rfl, hk, rfl⟩ := hrel
      by_cases hkn : k < n
      · have hkk : (k : Int) < n := by omega
        have k0 : (0 : Int) ≤ (k : Int) := by omega
        have c1 := H1.out k hkn
        have c2 := H1'.out k hkn
        generalize xs.getD k 0 = x at c1 c2
        go_wp2
        go_quiet (fail)
        go_wp2
        go_roundw
        case rel => exact ⟨k + 1, q + nq, by simp, by omega, by simp [World.drewN]⟩
        case measure => simp; omega
      · obtain rfl : k = n := by omega
        go_wp2
        go_ret
        exact ⟨rfl, below_drewN (Below.refl _ _) _⟩

/-- The document's disk without files. -/
def newR (room : Int) : RD := ⟨room, RF.none, RF.none, RF.none, RF.none, 0, -1, -1, false⟩
set_option maxHeartbeats 2000000 in
theorem new_ref (room : Int) (w : World) : Calls Try.prog 11 #[.int .i64 room] w fun e w' => e = .returned (.agg (rdA (newR room))) ∧ Below w.heap.size w w' := by
  go_enter Try.func11, Try.ntmps11
  go_upto_region 1 with fail
  refine name_world (fun W => BoxR w w.heap.size zeroR W) (BoxR.new w zeroR) ?_
  rintro W1 hR
  have HR := Lib.hid hR
  clear hR
  go_wp2_with (refine wp_storeR (D' := newR room) rfl _ _ rfl rfl rfl HR.out ?_)
  exact bodyPost_ret (v := .agg (rdA (newR room))) (results_oneR rfl rfl (HR.out.fill (Nat.le_refl _) (newR room))) rfl ⟨rfl, (HR.out.fill (Nat.le_refl _) (newR room)).bel⟩

end Go.Proofs.Ythpbgejjfdgpaaa
