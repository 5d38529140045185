/-
  What ops do to a disk's counts; a disk on which ops were done (the laws' own run).
-/
import Derived.Test.YthpbgejjfdgpaaaLawOps
namespace Go.Proofs.Ythpbgejjfdgpaaa
open Go.RowKit
set_option linter.unusedVariables false
set_option maxRecDepth 100000

theorem op_range (o : AO) : 0 ≤ o.op ∧ o.op < 12 := by
  have h : IntKind.u64.wrap o.kind = o.kind % 18446744073709551616 := by simp [IntKind.wrap, IntKind.bits, IntKind.signed]
  unfold AO.op
  rw [h]
  have h0 : 0 ≤ o.kind % 18446744073709551616 := Int.emod_nonneg _ (by omega)
  rw [Int.tmod_eq_emod_of_nonneg h0]
  omega
theorem few_op (o : AO) : o.few.op = o.op := rfl

/-- The counts are the same. -/
def SameHead (M M' : AD) : Prop := M'.armed = M.armed ∧ M'.failing = M.failing ∧ M'.ops = M.ops ∧ M'.dead = M.dead ∧ M'.room = M.room
theorem SameHead.refl (M : AD) : SameHead M M := ⟨rfl, rfl, rfl, rfl, rfl⟩
theorem head_put (M : AD) (k : Int) (F : AF) : SameHead M (M.put k F) := ⟨rfl, rfl, rfl, rfl, rfl⟩
theorem head_drop (M : AD) (k : Int) : SameHead M (M.drop k) := ⟨rfl, rfl, rfl, rfl, rfl⟩
theorem head_move (M : AD) (k j : Int) : SameHead M (M.move k j) := by
  unfold AD.move
  split
  · exact SameHead.refl M
  · exact ⟨rfl, rfl, rfl, rfl, rfl⟩
theorem head_op {M M' : AD} (k : Int) (xs : List Int) (h : SameHead M.met M') : (M.dead = true → M.opM k xs M' = M ∧ M.opC k xs = 9) ∧ (SameHead M (M.opM k xs M') ∨ (SameHead M.met (M.opM k xs M') ∧ M.opC k xs = M.err)) := by
  unfold AD.opM AD.opC
  refine ⟨fun hd => ?_, ?_⟩
  · have : M.ask k xs = 9 := by simp [AD.ask, hd]
    simp [this]
  · by_cases ha : M.ask k xs = 0
    · rw [if_pos ha, if_pos ha]
      by_cases he : M.err = 0
      · rw [if_pos he]; exact .inr ⟨h, rfl⟩
      · rw [if_neg he]; exact .inr ⟨SameHead.refl _, rfl⟩
    · rw [if_neg ha]; exact .inl (SameHead.refl _)
/-- Of an op below Arm, Fail and Crash. -/
theorem head_run (M : AD) (q : AO) (h9 : q.op < 9) : (M.dead = true → M.runM q = M ∧ M.runC q = 9) ∧ (SameHead M (M.runM q) ∨ (SameHead M.met (M.runM q) ∧ M.runC q = M.err)) := by
  unfold AD.runM AD.runC
  have n9 : ¬ q.op = 9 := by omega
  have n10 : ¬ q.op = 10 := by omega
  have n11 : ¬ q.op = 11 := by omega
  by_cases h3 : q.op = 3
  · simp only [h3, if_true]; exact head_op _ _ (head_put _ _ _)
  by_cases h4 : q.op = 4
  · simp only [h4, if_true]; simp only [show ¬ (4 : Int) = 3 by omega, if_false]; exact head_op _ _ (head_put _ _ _)
  by_cases h5 : q.op = 5
  · simp only [if_neg h3, if_neg h4, if_pos h5]; exact head_op _ _ (SameHead.refl _)
  by_cases h6 : q.op = 6
  · simp only [if_neg h3, if_neg h4, if_neg h5, if_pos h6]
    unfold AD.truncM AD.truncC
    refine ⟨fun hd => ?_, ?_⟩
    · have : M.ask q.file [] = 9 := by simp [AD.ask, hd]
      simp [this]
    · by_cases ha : M.ask q.file [] = 0
      · rw [if_pos ha, if_pos ha]
        by_cases hb : q.n < 0 ∨ (M.len q.file : Int) < q.n
        · rw [if_pos hb]; exact .inl (SameHead.refl _)
        · rw [if_neg hb, if_neg hb]
          by_cases he : M.err = 0
          · rw [if_pos he]; exact .inr ⟨head_put _ _ _, rfl⟩
          · rw [if_neg he]; exact .inr ⟨SameHead.refl _, rfl⟩
      · rw [if_neg ha]; exact .inl (SameHead.refl _)
  by_cases h7 : q.op = 7
  · simp only [if_neg h3, if_neg h4, if_neg h5, if_neg h6, if_pos h7]; exact head_op _ _ (head_move _ _ _)
  by_cases h8 : q.op = 8
  · simp only [if_neg h3, if_neg h4, if_neg h5, if_neg h6, if_neg h7, if_pos h8]; exact head_op _ _ (head_drop _ _)
  simp only [if_neg h3, if_neg h4, if_neg h5, if_neg h6, if_neg h7, if_neg h8, if_neg n9, if_neg n10, if_neg n11]
  unfold AD.appendM AD.appendC
  refine ⟨fun hd => by simp [hd], ?_⟩
  by_cases hd : M.dead = true
  · simp only [hd, if_true]; exact .inl (SameHead.refl _)
  · simp only [hd]
    by_cases hn : Name q.file
    · rw [if_pos hn, if_pos hn]
      by_cases hf : M.room - (M.total : Int) < (q.bs.length : Int)
      · rw [if_pos hf]; exact .inl (SameHead.refl _)
      · rw [if_neg hf, if_neg hf]
        by_cases he : M.err = 8
        · rw [if_pos he]; exact .inr ⟨SameHead.refl _, rfl⟩
        · rw [if_neg he]; exact .inr ⟨head_put _ _ _, rfl⟩
    · rw [if_neg hn]; exact .inl (SameHead.refl _)

/-- Neither armed nor set to fail, nor dead; at most n operations. -/
structure Calm (n : Nat) (M : AD) : Prop where
  armed : M.armed = -1
  failing : M.failing = -1
  dead : M.dead = false
  ops : M.ops ≤ n
  room : M.room ≤ 400
theorem calm_run {n : Nat} {M : AD} (h : Calm n M) (q : AO) (h9 : q.op < 9) : Calm (n + 1) (M.runM q) := by
  have h1 := h.ops
  rcases (head_run M q h9).2 with ⟨a, b, c, d, e⟩ | ⟨⟨a, b, c, d, e⟩, _⟩
  · exact ⟨a.trans h.armed, b.trans h.failing, d.trans h.dead, by rw [c]; omega, by rw [e]; exact h.room⟩
  · have hm : M.met = { M with ops := M.ops + 1, armed := stepC M.armed, failing := stepC M.failing } := by unfold AD.met; rw [if_neg (by rw [h.armed]; omega)]
    rw [hm] at a b c d e
    exact ⟨by rw [a]; simp [stepC, h.armed], by rw [b]; simp [stepC, h.failing], d.trans h.dead, by rw [c]; simp; omega, by rw [e]; exact h.room⟩
theorem Calm.mono {n m : Nat} {M : AD} (h : Calm n M) (hm : n ≤ m) : Calm m M := ⟨h.armed, h.failing, h.dead, by have := h.ops; omega, h.room⟩

def RunsTo (w : World) (e : Ending) (w' : World) : Prop := ∃ d M, e = .returned (.tuple #[.pointer (some ⟨d, 0, none⟩), .bool true]) ∧ Live w w' d M ∧ Calm 40 M

theorem room_bounds (r : Int) : -399 ≤ r.tmod 400 ∧ r.tmod 400 ≤ 399 := by
  have h1 := Int.tmod_lt_of_pos r (show (0 : Int) < 400 by omega)
  have h2 := Int.lt_tmod_of_pos r (show (0 : Int) < 400 by omega)
  omega
theorem room_bounds2 {x : Int} (h : 0 ≤ x) : 0 ≤ x.tmod 400 ∧ x.tmod 400 ≤ 399 := by
  rw [Int.tmod_eq_emod_of_nonneg h]
  omega

theorem live_bel {w0 w w' : World} {S : Nat → Prop} {d : Nat} {M : AD} (h : LiveS w0 S w d M) (ht : Turn S w w') : Below w0.heap.size w0 w' := by
  have hb := h.bel.size
  exact ⟨ht.os.trans h.bel.os, ht.tape.trans h.bel.tape, ht.output.trans h.bel.output, Nat.le_trans hb ht.size, fun k hk => (ht.block k (by omega) (fun e => by have := h.up k e; omega)).trans (h.bel.block k hk)⟩
/-- A disk of the call's own behind an op. -/
theorem live_ran {w0 w w' : World} {S S' : Nat → Prop} {d : Nat} {M M' : AD} (h : LiveS w0 S w d M) (hd : DiskAt w' S' d M') (ht : Turn S w w') (hs : ∀ k, S' k → S k ∨ w.heap.size ≤ k) : LiveS w0 S' w' d M' :=
  ⟨hd, fun j hj => (hs j hj).elim (h.up j) (fun e => by have := h.bel.size; omega), live_bel h ht⟩
def RunMid (w : World) (d k : Nat) (wr : World) : Prop := ∃ M, Live w wr d M ∧ Calm (min k 40) M
/-- One op of a row, in a world behind. -/
structure OpCells (wr : World) (b off k : Nat) (o : AO) (B : Option Addr) (cb : Nat) (K : Option Addr) (kc : Nat) : Prop where
  y0 : wr.cell? ⟨b, off + k * 5, none⟩ = some (.int .i64 o.kind)
  y1 : wr.cell? ⟨b, off + k * 5 + 1, none⟩ = some (.int .i64 o.file)
  y2 : wr.cell? ⟨b, off + k * 5 + 2, none⟩ = some (.int .i64 o.n)
  y3 : wr.cell? ⟨b, off + k * 5 + 3, none⟩ = some (.slice B o.bs.length cb)
  y4 : wr.cell? ⟨b, off + k * 5 + 4, none⟩ = some (.slice K o.keep.length kc)
theorem ops_at {w wr : World} {A : Option Addr} {os : List AO} (h : OpsAt w A os) (hb : Below w.heap.size w wr) {k : Nat} (hk : k < os.length) :
    ∃ b off o B cb K kc, A = some ⟨b, off, none⟩ ∧ OpCells wr b off k o B cb K kc ∧ o.Wf ∧ OpAt wr w.heap.size o B cb K kc := by
  obtain ⟨b, off, rfl, hi⟩ := h (by omega)
  obtain ⟨B, cb, K, kc, h0, h1, h2, h3, h4, hw, ho⟩ := hi k hk
  have t : ∀ {x : Nat} {v : Value}, w.cell? ⟨b, x, none⟩ = some v → wr.cell? ⟨b, x, none⟩ = some v := fun {x v} hx => (hb.cell (p := ⟨b, x, none⟩) (cell_lt hx)).trans hx
  exact ⟨b, off, _, B, cb, K, kc, rfl, ⟨t h0, t h1, t h2, t h3, t h4⟩, hw, ho.below hb⟩

set_option maxHeartbeats 4000000 in
theorem run_law {w : World} (r : Int) (hr : I64 r) (A : Option Addr) (c : Nat) (os : List AO) (ho : OpsAt w A os) (hc : os.length ≤ c) (hcm : c ≤ 9223372036854775807) :
    Calls Try.prog 25 #[.int .i64 r, .slice A os.length c] w (RunsTo w) := by
  have hb1 := room_bounds r
  obtain ⟨t, ht⟩ : ∃ t, t = r.tmod 400 := ⟨_, rfl⟩
  rw [← ht] at hb1
  have hb2 := room_bounds2 (x := t + 400) (by omega)
  obtain ⟨t2, ht2⟩ : ∃ t2, t2 = (t + 400).tmod 400 := ⟨_, rfl⟩
  rw [← ht2] at hb2
  have HO := Lib.hid ho
  obtain ⟨n, hn⟩ : ∃ n, n = os.length := ⟨_, rfl⟩
  have HN := Lib.hid hn
  rw [← hn] at hc ⊢
  have ht' := ht.symm
  have ht2' := ht2.symm
  clear ho hn ht ht2
  go_enter Try.func25, Try.ntmps25
  go_wp2_with (go_at_call 10; refine (new_yes _ (t2 + 1) (by omega) (by omega)).mono ?_; rintro e w1 ⟨rfl, hd1, hb1'⟩; obtain ⟨d, hd⟩ : ∃ d, d = w.heap.size + 1 := ⟨_, rfl⟩; rw [← hd] at hd1 ⊢; have L1 := Lib.hid (show Live w w1 d (AD.new (t2 + 1)) from ⟨_, hd1, fun k hk => (by rcases hk with e | e <;> omega), hb1'⟩); clear hd1 hb1' hd)
  go_loopw [23] (fun i wr => ∃ k : Nat, i = .int .i64 k ∧ k ≤ n ∧ Hid (RunMid w d k wr)) (fun i _ => n - (match i with | .int _ k => k.toNat | _ => 0))
  case atStart => exact ⟨0, rfl, Nat.zero_le _, Lib.hid ⟨_, L1.out, rfl, rfl, rfl, by simp [AD.new], by simp [AD.new]; omega⟩⟩
  case round =>
    obtain ⟨k, rfl, hk, H⟩ := hrel
    obtain ⟨M, ⟨S, hL⟩, hcalm⟩ := H.out
    by_cases hkn : k < n
    · have hkk : (k : Int) < n := by omega
      have k0 : (0 : Int) ≤ (k : Int) := by omega
      obtain ⟨b, off, o, B, cb, K, kc, hA, hcs, hw, hop⟩ := ops_at HO.out hL.bel (k := k) (by rw [← HN.out]; exact hkn)
      subst hA
      obtain ⟨y0, y1, y2, y3, y4⟩ := hcs
      have hrg := op_range o
      have hopdef : o.op = (IntKind.u64.wrap o.kind).tmod 12 := rfl
      have hbx : Below wr.heap.size wr (wr.alloc (.cells #[.int .i64 o.kind, .int .i64 o.file, .int .i64 o.n, .slice B o.bs.length cb, .slice K o.keep.length kc] 37)) := (Below.refl _ wr).alloc (Nat.le_refl _) _
      have hLx := hL.later hbx
      have hO := hcalm.ops
      have HE := Lib.hid (run_any o hw B cb K kc (hop.below (hbx.mono hL.bel.size)) hLx.at_ (by omega))
      have HL := Lib.hid hL
      have HLX := Lib.hid hLx
      have HC := Lib.hid hcalm
      have HBX := Lib.hid hbx
      dsimp only [opV] at HE
      obtain ⟨bn, hbn⟩ : ∃ bn, bn = o.bs.length := ⟨_, rfl⟩
      obtain ⟨kn, hkn'⟩ : ∃ kn, kn = o.keep.length := ⟨_, rfl⟩
      rw [← hbn] at HE y3 HBX HLX
      rw [← hkn'] at HE y4 HBX HLX
      clear hL hLx hcalm hbx hop hw hbn hkn'
      by_cases h40 : k < 40
      · have h40' : (k : Int) < 40 := by omega
        by_cases h9 : o.op < 9
        · have h9' := h9
          rw [hopdef] at h9'
          clear hopdef hrg
          go_wp2_with (go_at_call 12; refine HE.out.mono ?_; rintro e w2 ⟨v, S', rfl, hown, hd2, ht2, hs2⟩; have LL := Lib.hid (show Live w w2 d (M.runM o.few) from ⟨S', live_ran HLX.out hd2 ht2 hs2⟩); clear hown hd2 ht2 hs2)
          go_roundw
          case rel => exact ⟨k + 1, by simp, by omega, Lib.hid ⟨_, LL.out, (calm_run HC.out o.few h9).mono (by omega)⟩⟩
          case measure => simp; omega
        · have h9' : 9 ≤ o.op := by omega
          rw [hopdef] at h9'
          have h9d : decide ((IntKind.u64.wrap o.kind).tmod 12 < 9) = false := by simp; omega
          clear hopdef hrg h9
          go_wp2
          go_roundw
          case rel => exact ⟨k + 1, by simp, by omega, Lib.hid ⟨M, ⟨S, HLX.out⟩, HC.out.mono (by omega)⟩⟩
          case measure => simp; omega
      · have h40' : (40 : Int) ≤ k := by omega
        have h40d : decide ((k : Int) < 40) = false := by simp; omega
        have h40e : decide (k < 40) = false := by simp; omega
        clear hopdef hrg
        go_wp2
        go_roundw
        case rel => exact ⟨k + 1, by simp, by omega, Lib.hid ⟨M, ⟨S, HLX.out⟩, HC.out.mono (by omega)⟩⟩
        case measure => simp; omega
    · obtain rfl : k = n := by omega
      have HL := Lib.hid (show Live w wr d M from ⟨S, hL⟩)
      have HC := Lib.hid (hcalm.mono (m := 40) (by omega))
      clear hL hcalm
      go_wp2
      go_ret2
      exact ⟨d, M, rfl, HL.out, HC.out⟩

end Go.Proofs.Ythpbgejjfdgpaaa
