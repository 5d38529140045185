/-
  Format; refuse; lay.
-/
import Derived.Test.YtienabfilnpieaaWalForm
namespace Go.Proofs.Ytienabfilnpieaa
open Go.RowKit
set_option linter.unusedVariables false
set_option maxRecDepth 100000

/-- The disk went on: where it lies now. -/
structure Went (S S' : Nat → Prop) (d : Nat) (w : World) (M : AD) (w' : World) : Prop where
  at_ : DiskAt w' S' d M
  turn : Turn S w w'
  grow : ∀ k, S' k → S k ∨ w.heap.size ≤ k
theorem Went.of {S : Nat → Prop} {d : Nat} {w w' : World} {M : AD} (h : After S d w M w') : Went S (grew S w w') d w M w' := ⟨h.1, h.2, fun k hk => hk.imp id (fun e => e.1)⟩
theorem Went.later {S S' : Nat → Prop} {d : Nat} {w w' w'' : World} {M : AD} (h : Went S S' d w M w') (hb : Below w'.heap.size w' w'') : Went S S' d w M w'' :=
  ⟨h.at_.later hb, h.turn.trans (Turn.of_below (S := fun _ => False) hb) (fun _ e => e.elim), h.grow⟩
theorem room_at {w : World} {S : Nat → Prop} {d : Nat} {M : AD} (h : DiskAt w S d M) : Calls Try.prog 28 #[.pointer (some ⟨d, 0, none⟩)] w fun e w' => e = .returned (.int .i64 M.room) ∧ w = w' := by
  obtain ⟨mb, f, A, c, h⟩ := h
  exact room_any w d _ h.c0

theorem format_nil (n : Int) (w : World) : Calls Try.prog 7 #[.pointer none, .int .i64 n] w fun e w' => e = .returned (.tuple #[.pointer none, .int .i64 1]) ∧ w = w' := by
  go_enter Try.func7, Try.ntmps7
  go_wp2
  go_ret2
  exact ⟨rfl, rfl⟩

/-- May a log of that limit not be laid? -/
def BadF (M : AD) (n : Int) : Prop := ¬ Lim n ∨ M.room < 2 * (n + 20)
instance (M : AD) (n : Int) : Decidable (BadF M n) := by unfold BadF; infer_instance
def newW (n : Int) : AW := ⟨n, [[]], false⟩
def FormatAs (S : Nat → Prop) (d : Nat) (w : World) (M : AD) (n : Int) (e : Ending) (w' : World) : Prop :=
  (BadF M n ∧ e = .returned (.tuple #[.pointer none, .int .i64 2]) ∧ Went S S d w M w') ∨
  (¬ BadF M n ∧ M.makeC (fileM n []) ≠ 0 ∧ e = .returned (.tuple #[.pointer none, .int .i64 (M.makeC (fileM n []))]) ∧ ∃ S', Went S S' d w (M.makeM (fileM n [])) w') ∨
  (¬ BadF M n ∧ M.makeC (fileM n []) = 0 ∧ ∃ g S' T, e = .returned (.tuple #[.pointer (some ⟨g, 0, none⟩), .int .i64 0]) ∧ Went S S' d w (M.makeM (fileM n [])) w' ∧ WalAt w' T g d (newW n) ∧ (∀ k, T k → w.heap.size ≤ k ∧ ¬ S' k))

theorem wal_new (W : World) (n : Int) (d : Nat) : WalAt ((W.alloc (.cells #[.slice none 0 0] 22)).alloc (.cells #[.int .i64 n, .slice (some ⟨W.heap.size, 0, none⟩) 1 1, .pointer (some ⟨d, 0, none⟩), .bool false] 63)) (fun k => W.heap.size ≤ k ∧ k < W.heap.size + 2) (W.heap.size + 1) d (newW n) := by
  obtain ⟨W1, hW1⟩ : ∃ W1, W1 = W.alloc (.cells #[.slice none 0 0] 22) := ⟨_, rfl⟩
  have s1 : W1.heap.size = W.heap.size + 1 := by rw [hW1]; simp
  have hrow : W1.ownsRow 0 22 1 (.slice (some ⟨W.heap.size, 0, none⟩) 1 1) 1 [.slice none 0 0] := by rw [hW1]; exact World.ownsRow_lit W _ 1 (Nat.zero_le _) (by simp [maxLen]) rfl
  rw [← hW1]
  have hbox := heap_alloc_new W1 (.cells #[.int .i64 n, .slice (some ⟨W.heap.size, 0, none⟩) 1 1, .pointer (some ⟨d, 0, none⟩), .bool false] 63)
  rw [s1] at hbox
  refine ⟨some ⟨W.heap.size, 0, none⟩, 1, [.slice none 0 0], hbox, ⟨hrow.alloc _, fun i p hp => ?_, fun q hq => ?_⟩, ⟨by omega, by omega⟩, fun k hk => by simp [s1]; omega⟩
  · have hp' : ([[]] : List (List Int))[i]? = some p := hp
    rcases i with _ | i
    · have : p = [] := by simpa using hp'.symm
      subst this
      exact ⟨none, 0, rfl, World.ownsRow_nil _ _ _ _, fun q hq => by simp [blk] at hq, fun b hb => by simp at hb⟩
    · simp at hp'
  · have : q = W.heap.size := by simpa [blk] using hq.symm
    subst this
    exact ⟨Nat.le_refl _, by omega⟩

set_option maxHeartbeats 1000000 in
theorem format_any {w : World} {S : Nat → Prop} {d : Nat} {M : AD} (h : DiskAt w S d M) (hops : M.ops < 4611686018427387000) (n : Int) :
    Calls Try.prog 7 #[.pointer (some ⟨d, 0, none⟩), .int .i64 n] w (FormatAs S d w M n) := by
  have H := Lib.hid h
  have HRM := Lib.hid (room_at h)
  have hr2 := h.ok.room2
  have hr1 := h.ok.room1
  by_cases hl : Lim n
  · have HLM := Lib.hid (fun W => isLimit_any n W)
    rw [decide_eq_true hl] at HLM
    have hl' := hl
    obtain ⟨l1, l2⟩ := hl'
    have w1 : IntKind.i64.wrap (n + 20) = n + 20 := i64_fit (by omega)
    have w2 : IntKind.i64.wrap (2 * (n + 20)) = 2 * (n + 20) := i64_fit (by omega)
    by_cases hb : M.room < 2 * (n + 20)
    · have t1 : decide (M.room < 2 * (n + 20)) = true := decide_eq_true hb
      have HB := Lib.hid (show BadF M n from .inr hb)
      clear hb hl h
      go_enter Try.func7, Try.ntmps7
      go_wp2_with (first | (go_at_call 27; refine (HLM.out _).mono ?_; rintro e w' ⟨rfl, rfl⟩) | (go_at_call 28; refine HRM.out.mono ?_; rintro e w' ⟨rfl, rfl⟩))
      go_ret2
      exact .inl ⟨HB.out, rfl, ⟨H.out, Turn.refl _ _, fun k hk => .inl hk⟩⟩
    · have t1 : decide (M.room < 2 * (n + 20)) = false := decide_eq_false hb
      have HB := Lib.hid (show ¬ BadF M n from fun e => e.elim (fun e => e hl) hb)
      have HRN := Lib.hid (renewing_any w d n none 0 0)
      have HMK := Lib.hid (fun (W : World) (hR : Renewed W w.heap.size d n none 0 0) (hW : Below w.heap.size w W) => make_any (H.out.later hW) hops (n := n) (by omega) (l := 0) (s := []) rfl ⟨by simp, by simp, Rd.empty⟩ (fun b hb => by simp at hb) (by simp) (fun q hq => by simp [blk] at hq) hR (fun j hj e => by have := H.out.low e; omega))
      clear hb hl h
      go_enter Try.func7, Try.ntmps7
      obtain ⟨cc, hcc⟩ : ∃ cc, cc = M.makeC (fileM n []) := ⟨_, rfl⟩
      have HCC := Lib.hid hcc
      rw [← hcc] at HMK
      clear hcc
      go_upto_region 6 with (first
        | (go_at_call 27; refine (HLM.out _).mono ?_; rintro e w' ⟨rfl, rfl⟩)
        | (go_at_call 28; refine HRM.out.mono ?_; rintro e w' ⟨rfl, rfl⟩)
        | (go_at_call 30; refine HRN.out.mono ?_; rintro e w2 ⟨rfl, hR, hb2⟩; have HB2 := Lib.hid hb2; have HM2 := Lib.hid (HMK.out w2 hR hb2); clear hR hb2)
        | (go_at_call 29; refine HM2.out.mono ?_; rintro e w3 ⟨rfl, ha⟩; have HA := Lib.hid (After.then H.out (Turn.of_below HB2.out) ha); clear ha))
      by_cases hz : cc = 0
      · have t2 : (cc != 0) = false := by simp [hz]
        have HZ := Lib.hid hz
        clear hz
        go_wp2
        go_ret2
        have hw3 := HA.out.2.size
        have hnew := wal_new w3 n d
        refine .inr (.inr ⟨HB.out, by rw [← HCC.out]; exact HZ.out, w3.heap.size + 1, grew S w w3, _, ?_, (Went.of HA.out).later (((Below.refl _ w3).alloc (Nat.le_refl _) _).alloc (by simp) _), hnew, fun k hk => ⟨by omega, fun e => ?_⟩⟩)
        · simp
        · rcases e with e | e
          · have := H.out.low e; omega
          · omega
      · have t2 : (cc != 0) = true := by simp [hz]
        have HZ := Lib.hid hz
        clear hz
        go_wp2
        go_ret2
        exact .inr (.inl ⟨HB.out, by rw [← HCC.out]; exact HZ.out, by rw [← HCC.out]; rfl, _, Went.of HA.out⟩)
  · have HLM := Lib.hid (fun W => isLimit_any n W)
    rw [decide_eq_false hl] at HLM
    have HB := Lib.hid (show BadF M n from .inl hl)
    clear hl h
    go_enter Try.func7, Try.ntmps7
    go_wp2_with (first | (go_at_call 27; refine (HLM.out _).mono ?_; rintro e w' ⟨rfl, rfl⟩))
    go_ret2
    exact .inl ⟨HB.out, rfl, ⟨H.out, Turn.refl _ _, fun k hk => .inl hk⟩⟩

end Go.Proofs.Ytienabfilnpieaa
