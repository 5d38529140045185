/-
  MskTz, MskAll, MskSeq, MskSlots.
-/
import Derived.Test.YtcekgllahlhaaaaGreatDoorMMsk
import Derived.Shelf.Spec.TrailingZeros
import Derived.Test.YtcekgllahlhaaaaGreatDoorMVec
import Derived.Test.YtcekgllahlhaaaaGreatDoorMMsr
import Derived.RangeFuncBox
import Derived.OwnWalkIn
namespace Go.Proofs.YtcekgllahlhaaaaGreatDoor
namespace MskL
open Go.RowKit Go.Shelf
set_option linter.unusedVariables false
set_option linter.unusedSimpArgs false
set_option maxRecDepth 100000

/-- The table of math/bits lies in its variable. -/
abbrev Tab (w : World) : Prop := TabAt 0 Lib.deBruijn64tab w
theorem Tab.below {w w' : World} (h : Tab w) (hb : Below w.heap.size w w') : Tab w' := fun j hj =>
  (hb.cell (p := ⟨0, j, none⟩) (World.block_lt_of_cell? w _ (h j hj))).trans (h j hj)

set_option maxHeartbeats 1000000 in
theorem tz_core (x k idx : Nat) (w : World) (hx0 : ((x : Int) == 0) = false)
    (key : IntKind.u64.wrap (bits BinOp.and IntKind.u64 (x : Int) (IntKind.u64.wrap (-(x : Int))) * 285870213051353865) / 288230376151711744 = (idx : Int))
    (hi : idx < 64) (hk : k < 64) (hcell : w.cell? ⟨0, idx, none⟩ = some (.int .u8 k)) :
    Calls Tryz.prog 94 #[.int .u64 x] w fun e w' => e = .returned (.int .i64 k) ∧ w' = w := by
  go_enter Tryz.func94, Tryz.ntmps94
  go_wp2_with (simp only [key])
  go_ret
  exact ⟨rfl, rfl⟩

theorem tz_any (x : Nat) (hx : x < 18446744073709551616) (hx0 : x ≠ 0) (w : World) (hT : Tab w) :
    Calls Tryz.prog 94 #[.int .u64 x] w fun e w' => e = .returned (.int .i64 (Lib.ctz 64 x)) ∧ w' = w := by
  obtain ⟨hlow, hk⟩ := Lib.lowest_bit 64 x hx0 hx
  obtain ⟨hi, htab⟩ := Lib.deBruijn64_at _ hk
  have hcell := hT _ hi
  rw [htab] at hcell
  exact tz_core x _ _ w (by simp; omega) (tz64_key x _ hx hx0 hlow) hi hk hcell
end MskL
end Go.Proofs.YtcekgllahlhaaaaGreatDoor

namespace Go.Proofs.YtcekgllahlhaaaaGreatDoor
namespace MskL
open Go.RowKit Go.Shelf
set_option linter.unusedVariables false
set_option linter.unusedSimpArgs false
set_option maxRecDepth 100000
attribute [local go_sem] Oper.semAt_some

/-- The lowest bit, and the word without it. -/
theorem low_bits (x : Nat) (hx0 : x ≠ 0) (hx : x < 18446744073709551616) : ∃ c, Lib.ctz 64 x = c ∧ c < 64 ∧ (∀ j, j < c → x.testBit j = false) ∧ x.testBit c = true ∧ ∀ j, (x &&& (x - 1)).testBit j = (x.testBit j && !decide (j = c)) := by
  obtain ⟨m, hm, hc⟩ := Lib.ctzFrom_spec 64 x (by omega) hx
  have he : Lib.ctz 64 x = Lib.ctzFrom 64 x := by unfold Lib.ctz; rw [if_neg hx0]
  obtain ⟨c, hcc⟩ : ∃ c, c = Lib.ctzFrom 64 x := ⟨_, rfl⟩
  rw [← hcc] at hm hc he
  have hb : ∀ j, x.testBit j = (decide (c ≤ j) && (2 * m + 1).testBit (j - c)) := fun j => by rw [hm, Nat.testBit_two_pow_mul]
  have hpos : 0 < 2 ^ c := Nat.two_pow_pos c
  have h1 : x - 1 = 2 ^ c * (2 * m) + (2 ^ c - 1) := by rw [hm, Nat.mul_add, Nat.mul_one]; omega
  have hb1 : ∀ j, (x - 1).testBit j = if j < c then true else (2 * m).testBit (j - c) := fun j => by
    rw [h1, Nat.testBit_two_pow_mul_add _ (by omega)]
    split
    · rename_i hj; rw [Nat.testBit_two_pow_sub_one]; simpa using hj
    · rfl
  refine ⟨c, he, hc, fun j hj => by rw [hb]; simp; omega, by rw [hb]; simp, fun j => ?_⟩
  rw [Nat.testBit_and, hb, hb1]
  rcases Nat.lt_trichotomy j c with h | h | h
  · have : ¬ c ≤ j := by omega
    simp [this]
  · subst h; simp
  · obtain ⟨k, hk⟩ : ∃ k, j - c = k + 1 := ⟨j - c - 1, by omega⟩
    have h2 : ¬ j < c := by omega
    have h3 : ¬ j = c := by omega
    rw [hk, if_neg h2, Nat.testBit_succ, Nat.testBit_succ, show (2 * m + 1) / 2 = m by omega, show 2 * m / 2 = m by omega]
    simp [h3]

def upto (m : Mk) (k : Nat) : List Nat := (List.range k).filter (has m)
theorem upto_succ (m : Mk) (k : Nat) : upto m (k + 1) = upto m k ++ (if has m k then [k] else []) := by
  unfold upto
  rw [List.range_succ, List.filter_append]
  cases h : has m k <;> simp [h]
theorem upto_skip (m : Mk) (a : Nat) : ∀ b, a ≤ b → (∀ n, a ≤ n → n < b → has m n = false) → upto m b = upto m a
  | 0, h, _ => by rw [show a = 0 by omega]
  | b + 1, h, hn => by
    by_cases hb : a = b + 1
    · rw [hb]
    · rw [upto_succ, hn b (by omega) (by omega), upto_skip m a b (by omega) (fun n h1 h2 => hn n h1 (by omega))]
      simp
theorem upto_end (m : Mk) : upto m 128 = slots m := upto_skip m 96 128 (by omega) (fun n h _ => has_ge h)

/-- What a round of a loop over the slots keeps. -/
def KpT (_ : Nat) (W W' : World) : Prop := W.heap.size ≤ W'.heap.size ∧ (Tab W → Tab W')
theorem KpT.trans {B : Nat} {X Y Z : World} (h : KpT B X Y) (k : KpT B Y Z) : KpT B X Z := ⟨Nat.le_trans h.1 k.1, fun t => k.2 (h.2 t)⟩
theorem KpT.below {B : Nat} {W W' : World} (h : Below W.heap.size W W') : KpT B W W' := ⟨h.size, fun t => t.below h⟩
def NxT (m : Mk) (pre : List Nat) (x : Nat) : Prop := has m x = true ∧ pre = upto m x
def encN (x : Nat) : Array Value := #[.int .i64 x]

/-- What stands of the word w, of which the bits from 64 * i on are looked at, once those below p are told. -/
structure Left (m : Mk) (i x p : Nat) : Prop where
  le : p ≤ 64
  lt : x < 18446744073709551616
  bit : ∀ j, x.testBit j = (decide (p ≤ j) && (decide (j < 64) && has m (64 * i + j)))
theorem Left.first (m : Mk) (i x : Nat) (hx : x < 18446744073709551616) (h : ∀ j, x.testBit j = (decide (j < 64) && has m (64 * i + j))) : Left m i x 0 := ⟨by omega, hx, fun j => by rw [h]; simp⟩
theorem Left.done {m : Mk} {i p : Nat} (h : Left m i 0 p) : upto m (64 * i + 64) = upto m (64 * i + p) := by
  refine upto_skip m _ _ (by have := h.le; omega) (fun n h1 h2 => ?_)
  obtain ⟨j, rfl⟩ : ∃ j, n = 64 * i + j := ⟨n - 64 * i, by omega⟩
  have := h.bit j
  rw [Nat.zero_testBit, decide_eq_true (show p ≤ j by omega), decide_eq_true (show j < 64 by omega)] at this
  simpa using this.symm
theorem Left.step {m : Mk} {i x p : Nat} (h : Left m i x p) (hx : x ≠ 0) : ∃ c, Lib.ctz 64 x = c ∧ c < 64 ∧ has m (64 * i + c) = true ∧ upto m (64 * i + p) = upto m (64 * i + c) ∧ upto m (64 * i + (c + 1)) = upto m (64 * i + c) ++ [64 * i + c] ∧ Left m i (x &&& (x - 1)) (c + 1) ∧ (x &&& (x - 1)) < x := by
  obtain ⟨c, h1, h2, h3, h4, h5⟩ := low_bits x hx h.lt
  have hp := h4
  rw [h.bit] at hp
  simp only [Bool.and_eq_true, decide_eq_true_eq] at hp
  have hle : (x &&& (x - 1)) ≤ x - 1 := Nat.and_le_right
  refine ⟨c, h1, h2, hp.2.2, (upto_skip m _ _ (by omega) (fun n q1 q2 => ?_)).symm, ?_, ⟨by omega, by have := h.lt; omega, fun j => ?_⟩, by omega⟩
  · obtain ⟨j, rfl⟩ : ∃ j, n = 64 * i + j := ⟨n - 64 * i, by omega⟩
    have := h.bit j
    rw [h3 j (by omega), decide_eq_true (show p ≤ j by omega), decide_eq_true (show j < 64 by omega)] at this
    simpa using this.symm
  · rw [show 64 * i + (c + 1) = 64 * i + c + 1 by omega, upto_succ, hp.2.2]; rfl
  · rw [h5]
    by_cases hj : j < c
    · rw [h3 j hj]
      have : ¬ c + 1 ≤ j := by omega
      simp [this]
    · by_cases hjc : j = c
      · subst hjc
        have : ¬ j + 1 ≤ j := by omega
        simp [this]
      · rw [h.bit, decide_eq_true (show p ≤ j by omega), decide_eq_true (show c + 1 ≤ j by omega)]
        simp [hjc]
theorem word0 (m : Mk) (j : Nat) : (mk (has m)).1.testBit j = (decide (j < 64) && has m (64 * 0 + j)) := by
  show (wd (has m) 64).testBit j = _
  rw [wd_bit]; simp
theorem word1 (m : Mk) (j : Nat) : (mk (has m)).2.testBit j = (decide (j < 64) && has m (64 * 1 + j)) := by
  show (wd (fun j => has m (64 + j)) 32).testBit j = _
  rw [wd_bit]
  by_cases h : j < 32
  · have : j < 64 := by omega
    simp [h, this]
  · rw [show 64 * 1 + j = 64 + j by omega, has_ge (n := 64 + j) (by omega)]
    simp

set_option maxHeartbeats 4000000 in
theorem all1_in (m : Mk) (hm : Fine m) (n ba : Nat) (hn : 1 ≤ n) {w : World} (c0 : w.cell? ⟨ba, 0, none⟩ = some (.int .u64 m.1)) (c1 : w.cell? ⟨ba, 1, none⟩ = some (.int .u64 m.2)) (hT : Tab w) :
    SeqOwn Fence.wide n Tryz.prog 92 #[.pointer (some ⟨ba, 0, none⟩)] encN (fun _ _ => False) (fun _ _ _ => True) KpT (NxT m) (fun xs => xs = slots m) (fun _ => True) w := by
  intro l J Jx W hW hJ hJx hY h0
  have a0 : W.cell? ⟨ba, 0, none⟩ = some (.int .u64 m.1) := (hW.cell (p := ⟨ba, 0, none⟩) (World.block_lt_of_cell? w _ c0)).trans c0
  have a1 : W.cell? ⟨ba, 1, none⟩ = some (.int .u64 m.2) := (hW.cell (p := ⟨ba, 1, none⟩) (World.block_lt_of_cell? w _ c1)).trans c1
  have hTW : Tab W := hT.below hW
  obtain ⟨M, hM⟩ : ∃ M, M = mk (has m) := ⟨_, rfl⟩
  have HCl := Lib.hid (fun W => show Calls Tryz.prog 93 #[mv m] W (fun e w' => e = .returned (mv M) ∧ Below W.heap.size W w') from by rw [hM]; exact clean_any m W hm)
  have HL0 := Lib.hid (Left.first m 0 M.1 (by rw [hM]; exact (mk_fine _).1) (fun j => by rw [hM]; exact word0 m j))
  have HL1 := Lib.hid (Left.first m 1 M.2 (by rw [hM]; exact (mk_fine _).2) (fun j => by rw [hM]; exact word1 m j))
  have HJ := Lib.hid hJ
  have HY := Lib.hid hY
  have H0 := Lib.hid h0
  have HTW := Lib.hid hTW
  obtain ⟨s, hs⟩ : ∃ s, s = W.heap.size := ⟨_, rfl⟩
  have HS := Lib.hid hs
  have HTz := Lib.hid (fun (x : Nat) (hx : x < 18446744073709551616) (hx0 : x ≠ 0) (w : World) (hT : Tab w) => tz_any x hx hx0 w hT)
  clear c0 c1 hT hm hM hJ hJx hY h0 hTW hW hs
  have ix0 : ∀ (a b : Int) (w : World), (Instr.index 70 (.agg #[.int .u64 a, .int .u64 b]) (.int .i64 0)).run Tryz.prog w = .ok (.int .u64 a) w := by
    intro a b w
    have hu := Tryz.underlying70
    have h1 : Tryz.prog.cellsOf 29 = 1 := by kernel_rfl
    simp [Instr.index, run_underlying hu, go_sem]
  have ix1 : ∀ (a b : Int) (w : World), (Instr.index 70 (.agg #[.int .u64 a, .int .u64 b]) (.int .i64 1)).run Tryz.prog w = .ok (.int .u64 b) w := by
    intro a b w
    have hu := Tryz.underlying70
    have h1 : Tryz.prog.cellsOf 29 = 1 := by kernel_rfl
    simp [Instr.index, run_underlying hu, go_sem]
  unfold mv at *
  refine callsIn_of_wp Tryz.func92 rfl trivial ?_ rfl
  simp only [Tryz.ntmps92, List.size_toArray, List.length_cons, List.length_nil, Nat.reduceAdd, Nat.reduceSub, Array.replicate_succ, Array.replicate_zero, List.push_toArray, List.append_toArray, List.nil_append, List.cons_append]
  gi_wp2
  refine ⟨trivial, (callsIn_wide.2 (HCl.out _)).mono ?_⟩
  rintro e w2 ⟨rfl, hb2⟩
  have HB2 := Lib.hid (show J [] w2 ∧ s ≤ w2.heap.size ∧ Tab w2 from ⟨HJ.out _ W w2 H0.out (Turn.of_below (hb2.mono (Nat.le_refl _))), by rw [HS.out]; exact hb2.size, HTW.out.below hb2⟩)
  clear hb2
  gi_wp2
  gi_loopw [7] (fun i wr => ∃ k : Nat, i = .int .i64 k ∧ k ≤ 2 ∧ Hid (J (upto m (64 * k)) wr ∧ s ≤ wr.heap.size ∧ Tab wr)) (fun i _ => 2 - (match i with | .int _ k => k.toNat | _ => 0))
  case atStart => exact ⟨0, rfl, by omega, Lib.hid HB2.out⟩
  case round =>
    obtain ⟨k, rfl, hk, HH⟩ := hrel
    clear HB2
    by_cases hk2 : k = 2
    · subst hk2
      have HF := Lib.hid (show J (slots m) wr by rw [← upto_end]; exact HH.out.1)
      gi_wp2
      go_end0
      exact ⟨⟨_, rfl⟩, .inl ⟨_, rfl, HF.out⟩⟩
    · by_cases hk1 : k = 1
      · subst hk1
        clear hk hk2
        rw [show ((1 : Nat) : Int) = (1 : Int) from rfl]
        gi_wp2
        gi_loopw [4] (fun v wr => ∃ x p : Nat, v = .int .u64 x ∧ Hid (Left m 1 x p ∧ J (upto m (64 * 1 + p)) wr ∧ s ≤ wr.heap.size ∧ Tab wr)) (fun v _ => match v with | .int _ x => x.toNat | _ => 0)
        case atStart => exact ⟨M.2, 0, rfl, Lib.hid ⟨HL1.out, HH.out.1, HH.out.2.1, HH.out.2.2⟩⟩
        case round =>
          obtain ⟨x, p, rfl, HI⟩ := hrel
          by_cases hx : x = 0
          · subst hx
            have HE := Lib.hid (show J (upto m (64 * 2)) wr ∧ s ≤ wr.heap.size ∧ Tab wr from ⟨by have := HI.out.1.done; rw [show 64 * 2 = 64 * 1 + 64 from rfl, this]; exact HI.out.2.1, HI.out.2.2⟩)
            gi_wp2
            go_roundw
            case rel => exact ⟨2, by simp, by omega, HE⟩
            case measure => simp
          · have hx' : ((x : Int) != 0) = true := by simpa using hx
            obtain ⟨c, hc, hc64, hin, hpre, hnext, hleft, hless⟩ := HI.out.1.step hx
            have hlt := HI.out.1.lt
            have HTa := Lib.hid (show Tab wr from HI.out.2.2.2)
            have HTc := Lib.hid (HTz.out x hlt hx wr HTa.out)
            rw [hc] at HTc
            obtain ⟨v, hv⟩ : ∃ v : Nat, v = 64 * 1 + c := ⟨_, rfl⟩
            have hvw : IntKind.i64.wrap (64 + (c : Int)) = (v : Int) := by rw [IntKind.wrap_i64, hv]; omega
            have hsub : IntKind.u64.wrap ((x : Int) - 1) = ((x - 1 : Nat) : Int) := by rw [IntKind.wrap_u64]; omega
            have hand : bits .and .u64 (x : Int) ((x - 1 : Nat) : Int) = ((x &&& (x - 1) : Nat) : Int) := u64_and_nat x (x - 1) hlt (by omega)
            obtain ⟨fn, tmps, assign, body, hy, hR⟩ := HY.out (upto m v) v wr (by rw [hv, ← hpre]; exact HI.out.2.1) (by rw [← HS.out]; exact HI.out.2.2.1) trivial ⟨by rw [hv]; exact hin, rfl⟩
            rw [show upto m v ++ [v] = upto m (64 * 1 + (c + 1)) from by rw [hv, hnext]] at hR
            have HR := Lib.hid hR
            have HLf := Lib.hid (And.intro hleft (And.intro hless HI.out.2.2.1))
            unfold encN at hy
            try dsimp only at hy
            generalize (x - 1 : Nat) = x1 at *
            generalize (x &&& x1 : Nat) = x2 at *
            clear hR hc hc64 hin hpre hnext hleft hless hv hlt
            gi_wp2
            refine ⟨trivial, (callsIn_wide.2 HTc.out).mono ?_⟩
            rintro e w5 ⟨rfl, rfl⟩
            gi_wp2
            refine HR.out.mono ?_
            rintro e W3 (⟨rfl, hJ3, hk3⟩ | ⟨rfl, hJx3⟩)
            · have HH3 := Lib.hid (show Left m 1 x2 (c + 1) ∧ J (upto m (64 * 1 + (c + 1))) W3 ∧ s ≤ W3.heap.size ∧ Tab W3 from ⟨HLf.out.1, hJ3, Nat.le_trans HLf.out.2.2 hk3.1, hk3.2 HTa.out⟩)
              clear hJ3 hk3
              gi_wp2
              go_roundw
              case rel => exact ⟨x2, c + 1, by simp, HH3⟩
              case measure => have := HLf.out.2.1; simp; omega
            · have HX3 := Lib.hid hJx3
              clear hJx3
              gi_wp2
              refine bodyPost_ret (results_none rfl _ _ _) rfl ?_
              exact ⟨⟨_, rfl⟩, .inr ⟨_, trivial, HX3.out⟩⟩
      · obtain rfl : k = 0 := by omega
        clear hk hk2 hk1
        rw [show ((0 : Nat) : Int) = (0 : Int) from rfl]
        gi_wp2
        gi_loopw [4] (fun v wr => ∃ x p : Nat, v = .int .u64 x ∧ Hid (Left m 0 x p ∧ J (upto m (64 * 0 + p)) wr ∧ s ≤ wr.heap.size ∧ Tab wr)) (fun v _ => match v with | .int _ x => x.toNat | _ => 0)
        case atStart => exact ⟨M.1, 0, rfl, Lib.hid ⟨HL0.out, HH.out.1, HH.out.2.1, HH.out.2.2⟩⟩
        case round =>
          obtain ⟨x, p, rfl, HI⟩ := hrel
          by_cases hx : x = 0
          · subst hx
            have HE := Lib.hid (show J (upto m (64 * 1)) wr ∧ s ≤ wr.heap.size ∧ Tab wr from ⟨by have := HI.out.1.done; rw [show 64 * 1 = 64 * 0 + 64 from rfl, this]; exact HI.out.2.1, HI.out.2.2⟩)
            gi_wp2
            go_roundw
            case rel => exact ⟨1, by simp, by omega, HE⟩
            case measure => simp
          · have hx' : ((x : Int) != 0) = true := by simpa using hx
            obtain ⟨c, hc, hc64, hin, hpre, hnext, hleft, hless⟩ := HI.out.1.step hx
            have hlt := HI.out.1.lt
            have HTa := Lib.hid (show Tab wr from HI.out.2.2.2)
            have HTc := Lib.hid (HTz.out x hlt hx wr HTa.out)
            rw [hc] at HTc
            obtain ⟨v, hv⟩ : ∃ v : Nat, v = 64 * 0 + c := ⟨_, rfl⟩
            have hvw : wrap64 (c : Int) = (v : Int) := by unfold wrap64; omega
            have hsub : IntKind.u64.wrap ((x : Int) - 1) = ((x - 1 : Nat) : Int) := by rw [IntKind.wrap_u64]; omega
            have hand : bits .and .u64 (x : Int) ((x - 1 : Nat) : Int) = ((x &&& (x - 1) : Nat) : Int) := u64_and_nat x (x - 1) hlt (by omega)
            obtain ⟨fn, tmps, assign, body, hy, hR⟩ := HY.out (upto m v) v wr (by rw [hv, ← hpre]; exact HI.out.2.1) (by rw [← HS.out]; exact HI.out.2.2.1) trivial ⟨by rw [hv]; exact hin, rfl⟩
            rw [show upto m v ++ [v] = upto m (64 * 0 + (c + 1)) from by rw [hv, hnext]] at hR
            have HR := Lib.hid hR
            have HLf := Lib.hid (And.intro hleft (And.intro hless HI.out.2.2.1))
            unfold encN at hy
            try dsimp only at hy
            generalize (x - 1 : Nat) = x1 at *
            generalize (x &&& x1 : Nat) = x2 at *
            clear hR hc hc64 hin hpre hnext hleft hless hv hlt
            gi_wp2
            refine ⟨trivial, (callsIn_wide.2 HTc.out).mono ?_⟩
            rintro e w5 ⟨rfl, rfl⟩
            gi_wp2
            refine HR.out.mono ?_
            rintro e W3 (⟨rfl, hJ3, hk3⟩ | ⟨rfl, hJx3⟩)
            · have HH3 := Lib.hid (show Left m 0 x2 (c + 1) ∧ J (upto m (64 * 0 + (c + 1))) W3 ∧ s ≤ W3.heap.size ∧ Tab W3 from ⟨HLf.out.1, hJ3, Nat.le_trans HLf.out.2.2 hk3.1, hk3.2 HTa.out⟩)
              clear hJ3 hk3
              gi_wp2
              go_roundw
              case rel => exact ⟨x2, c + 1, by simp, HH3⟩
              case measure => have := HLf.out.2.1; simp; omega
            · have HX3 := Lib.hid hJx3
              clear hJx3
              gi_wp2
              refine bodyPost_ret (results_none rfl _ _ _) rfl ?_
              exact ⟨⟨_, rfl⟩, .inr ⟨_, trivial, HX3.out⟩⟩
end MskL
end Go.Proofs.YtcekgllahlhaaaaGreatDoor

namespace Go.Proofs.YtcekgllahlhaaaaGreatDoor
namespace MskL
open Go.RowKit Go.Shelf
set_option linter.unusedVariables false
set_option linter.unusedSimpArgs false
set_option maxRecDepth 100000
attribute [local go_sem] Oper.semAt_some

theorem put_other {W : World} {k i : Nat} {o o' o2 : Obj} (h : W.heap[k]? = some o) (ho : o.isCells = false) (hi : W.heap[i]? = some o2) (h2 : o2.isCells = true) : (W.putObj k o').heap[i]? = some o2 := by
  rw [World.putObj_heap_other (fun e => ?_)]
  · exact hi
  · subst e; rw [h] at hi; cases hi; rw [ho] at h2; cases h2
theorem below_put {W : World} {k : Nat} {o : Obj} {B : Nat} (hk : B ≤ k) (hB : B ≤ W.heap.size) : Below B W (W.putObj k o) :=
  ⟨rfl, rfl, rfl, by simp [World.putObj], fun i hi => World.putObj_heap_other (by omega)⟩
theorem turn_set (W : World) (g j : Nat) (u : Value) : Turn (fun i => i = g) W (W.setCell ⟨g, j, none⟩ u) := ⟨rfl, rfl, rfl, by simp [World.setCell], fun k _ hk => Below.heap_setCell _ _ _ _ hk⟩
theorem keeps_turn {B0 : Nat} {S : Nat → Prop} {W W' : World} (h : Turn S W W') (hc : ∀ i, S i → ∃ o, W.heap[i]? = some o ∧ o.isCells = true) : KeepsFrom B0 W W' :=
  ⟨h.size, fun k o _ hk ho => (h.block k (lt_of_block hk) (fun e => by obtain ⟨o2, h2, h3⟩ := hc k e; rw [hk] at h2; cases h2; rw [ho] at h3; cases h3)).trans hk⟩
theorem row_put {w : World} {base : Nat} {e : TypeId} {size : Nat} {v : Value} {n : Nat} {xs : List Value} (h : w.ownsRow base e size v n xs) {k : Nat} {o : Obj} (o' : Obj) (hk : w.heap[k]? = some o) (ho : o.isCells = false) : (w.putObj k o').ownsRow base e size v n xs := by
  rcases h.2 with ⟨e', h0⟩ | ⟨g, cap, cur, e', hg, hh, hnc, hcm, hsz, hcs⟩
  · exact ⟨h.1, .inl ⟨e', h0⟩⟩
  · exact ⟨h.1, .inr ⟨g, cap, cur, e', hg, put_other hk ho hh rfl, hnc, hcm, hsz, hcs⟩⟩
theorem OwnN.put {base : Nat} {w : World} {A : Option Addr} {c : Nat} {l : List Nat} (h : OwnN base w A c l) {k : Nat} {o : Obj} (o' : Obj) (hk : w.heap[k]? = some o) (ho : o.isCells = false) : OwnN base (w.putObj k o') A c l := row_put h o' hk ho
theorem OwnN.isCells {base : Nat} {w : World} {A : Option Addr} {c : Nat} {l : List Nat} (h : OwnN base w A c l) {i : Nat} (hi : blk A = some i) : ∃ o, w.heap[i]? = some o ∧ o.isCells = true := by
  rcases h.2 with ⟨e, h0⟩ | ⟨g, cap, cur, e, hg, hh, _⟩
  · injection e with e1; subst e1; cases hi
  · injection e with e1; subst e1
    have : g = i := by simpa [blk] using hi
    subst this
    exact ⟨_, hh, rfl⟩
theorem KpT.put {B : Nat} {W : World} {k : Nat} {o o' : Obj} (hk : W.heap[k]? = some o) (ho : o.isCells = false) : KpT B W (W.putObj k o') := by
  refine ⟨by simp [World.putObj], fun t j hj => ?_⟩
  have h := t j hj
  by_cases hk0 : k = 0
  · subst hk0
    exfalso
    unfold World.cell? at h
    rw [hk] at h
    cases o <;> simp_all [Obj.isCells]
  · rw [← h]
    unfold World.cell?
    rw [show (W.putObj k o').heap[(0 : Nat)]? = W.heap[(0 : Nat)]? from World.putObj_heap_other (fun e => hk0 (by omega))]
theorem KpT.turn {B : Nat} {S : Nat → Prop} {W W' : World} (h : Turn S W W') (h0 : ¬ S 0) : KpT B W W' := by
  refine ⟨h.size, fun t j hj => ?_⟩
  have hc := t j hj
  rw [← hc]
  unfold World.cell?
  rw [h.block 0 (World.block_lt_of_cell? W _ hc) h0]

/-- What is collected so far. -/
def SqI (w : World) (pre : List Nat) (W : World) : Prop := ∃ A c, Boxed W w.heap.size 53 (.slice A (List.length pre) c) ∧ OwnN (w.heap.size + 1) W A c pre ∧ Below w.heap.size w W
theorem SqI.below {w W W' : World} {pre : List Nat} (h : SqI w pre W) (hb : Below W.heap.size W W') : SqI w pre W' := by
  obtain ⟨A, c, h1, h2, h3⟩ := h
  exact ⟨A, c, (hb.block _ h1.lt).trans h1, h2.below hb, h3.trans (hb.mono h3.size)⟩
theorem SqI.put {w W : World} {pre : List Nat} (h : SqI w pre W) {k : Nat} {o : Obj} (o' : Obj) (hk0 : w.heap.size ≤ k) (hk : W.heap[k]? = some o) (ho : o.isCells = false) : SqI w pre (W.putObj k o') := by
  obtain ⟨A, c, h1, h2, h3⟩ := h
  exact ⟨A, c, put_other hk ho h1 rfl, h2.put o' hk ho, h3.trans (below_put hk0 h3.size)⟩
theorem sq_last {w W V w4 : World} {A A5 : Option Addr} {c c5 x B : Nat} {pre : List Nat} (h0 : 0 < w.heap.size) (h1 : Boxed W w.heap.size 53 (.slice A pre.length c)) (h2 : OwnN (w.heap.size + 1) W A c pre) (h3 : Below w.heap.size w W)
    (hV : V = W.alloc (.cells #[.int .i64 (x : Int)] 3))
    (ho : w4.ownsRow (w.heap.size + 1) 3 1 (.slice A5 (pre.length + 1) c5) (pre.length + 1) ((pre.map fun (k : Nat) => Value.int .i64 (k : Int)) ++ [.int .i64 (x : Int)])) (hgr : V.grownBy w4 (blk A)) :
    w4.cell? ⟨w.heap.size, 0, none⟩ = some (.slice A pre.length c) ∧ w4.frozen? ⟨w.heap.size, 0, none⟩ = false ∧ KeepsFrom (w.heap.size + 1) W (w4.setCell ⟨w.heap.size, 0, none⟩ (.slice A5 (pre.length + 1) c5)) ∧ KpT B W (w4.setCell ⟨w.heap.size, 0, none⟩ (.slice A5 (pre.length + 1) c5)) ∧ SqI w (pre ++ [x]) (w4.setCell ⟨w.heap.size, 0, none⟩ (.slice A5 (pre.length + 1) c5)) := by
  have hA : ∀ i, blk A = some i → w.heap.size + 1 ≤ i ∧ i < W.heap.size := fun i hi => h2.low i hi
  have hbV : Below W.heap.size W V := by rw [hV]; exact (Below.refl _ W).alloc (Nat.le_refl _) _
  have hs1 := h1.lt
  obtain ⟨hN, hbw⟩ := h2.app (k := x) hbV (by omega) rfl ho hgr
  have t4 : Turn (fun i => blk A = some i) W w4 := (Turn.of_below (S := fun i => blk A = some i) hbV).trans (Turn.of_grown hgr (fun i hi => .inl hi)) (fun i hi => .inl hi)
  have hd4 : Boxed w4 w.heap.size 53 (.slice A pre.length c) := (t4.block _ h1.lt (fun e => by have := hA _ e; omega)).trans h1
  have t5 := turn_set w4 w.heap.size 0 (.slice A5 (pre.length + 1) c5)
  have tt : Turn (fun i => blk A = some i ∨ i = w.heap.size) W (w4.setCell ⟨w.heap.size, 0, none⟩ (.slice A5 (pre.length + 1) c5)) :=
    (t4.mono (S' := fun i => blk A = some i ∨ i = w.heap.size) (fun i hi => .inl hi)).trans t5 (fun i hi => .inl (.inr hi))
  refine ⟨hd4.cell, hd4.frozen, keeps_turn tt ?_, KpT.turn tt ?_, A5, c5, ?_, ?_, ?_⟩
  · rintro i (hi | rfl)
    · exact h2.isCells hi
    · exact ⟨_, h1, rfl⟩
  · rintro (hi | hi)
    · have := hA _ hi; omega
    · omega
  · rw [List.length_append]; exact hd4.set _
  · exact row_turn hN t5 (fun i hi e => by have := hN.low i (by rw [← own_blk A5 (pre ++ [x]).length c5]; exact hi); omega)
  · exact h3.trans (tt.below h3.size (fun i hi => hi.elim (fun hi => by have := hA _ hi; omega) (fun hi => by omega)))

def GivesN (w : World) (l : List Nat) (e : Ending) (w' : World) : Prop := ∃ A c, e = .returned (.slice A l.length c) ∧ OwnN w.heap.size w' A c l ∧ Below w.heap.size w w'

set_option maxHeartbeats 4000000 in
theorem appendSeq_any (gf : FuncId) (lb : Array Value) (m : Mk) (w : World) (h0 : 0 < w.heap.size) (hgf : ∀ args W, (callFunc gf args).run Tryz.prog W = .ok (.enter gf args) W)
    (hseq : ∀ W0, Below w.heap.size w W0 → SeqOwn Fence.wide 2 Tryz.prog gf lb encN (fun _ _ => False) (fun _ _ _ => True) KpT (NxT m) (fun xs => xs = slots m) (fun _ => True) W0) :
    Calls Tryz.prog 65 #[.slice none 0 0, .func (.func gf) #[] lb] w (GivesN w (slots m)) := by
  refine (callsIn_wide (n := 3)).1 ?_
  refine callsIn_of_wp_marks Tryz.func65 rfl trivial ?_ rfl
  simp only [Tryz.ntmps65, List.size_toArray, List.length_cons, List.length_nil, Nat.reduceAdd, Nat.reduceSub, Array.replicate_succ, Array.replicate_zero, List.push_toArray, List.append_toArray, List.nil_append, List.cons_append]
  have HGF := Lib.hid hgf
  have HSeq := Lib.hid hseq
  have H0 := Lib.hid h0
  clear hgf hseq h0
  obtain ⟨W0, hW0⟩ : ∃ W0, W0 = w.alloc (.cells #[.slice none 0 0] 53) := ⟨_, rfl⟩
  have hz0 : W0.heap.size = w.heap.size + 1 := by rw [hW0]; simp
  have hb0 : Below w.heap.size w W0 := by rw [hW0]; exact (Below.refl _ w).alloc (Nat.le_refl _) _
  have hd0 : Boxed W0 w.heap.size 53 (.slice none 0 0) := by rw [hW0]; exact heap_alloc_new _ _
  have HW0 := Lib.hid hW0
  have HZ0 := Lib.hid hz0
  have HB0 := Lib.hid hb0
  have HD0 := Lib.hid hd0
  clear hW0 hz0 hb0 hd0
  gi_wp2
  rw [← HW0.out]
  refine range_own rfl (by omega) (gf := gf) (lb := lb) rfl trivial HGF.out (HSeq.out W0 HB0.out)
    (fun W k h => h.elim) KpT.trans (fun B W k o o' _ hk ho => KpT.put hk ho) (fun _ => rfl) (fun _ _ _ _ _ _ _ _ _ => trivial)
    (SqI w) (fun _ _ _ => False) ?io ?ixo ?ip ?ixp ?h0
    (fun x => { tmps := #[.slice none 0 0, .func (.func gf) #[] lb, .pointer (some ⟨w.heap.size, 0, none⟩), undef, .slice none 0 0, .int .i64 x, .func (.func gf) #[] lb, .int .i64 x, undef, undef, undef, undef, undef], defers := [] }) ?assign ?body ?done ?stop
  case io => exact fun s X Y h ht => h.below (Turn.below ht (Nat.le_refl _) (fun i e => e.2.elim))
  case ixo => exact fun _ _ _ _ h _ => h
  case ip => exact fun s X k o o' h hk ho hc => h.put o' (by have := HZ0.out; omega) ho hc
  case ixp => exact fun _ _ _ _ _ _ h _ _ _ => h
  case h0 =>
    intro W hb _
    exact SqI.below (W := W0) ⟨none, 0, HD0.out, OwnN.nil _ _, HB0.out⟩ hb
  case assign =>
    intro l x W K hK
    dsimp only [encN]
    gi_wp2
    exact hK
  case body =>
    rintro l pre x W ⟨A0, c0, h1, h2, h3⟩ hsz _ ⟨hin, hpre⟩
    rw [HZ0.out] at hsz ⊢
    have hrl : pre.length ≤ 96 := by
      rw [hpre]
      have := has_lt hin
      exact Nat.le_trans (Nat.le_trans (List.length_filter_le _ _) (by simp)) (Nat.le_of_lt this)
    have hc := h1.cell
    obtain ⟨V, hV⟩ : ∃ V, V = W.alloc (.cells #[.int .i64 (x : Int)] 3) := ⟨_, rfl⟩
    have hbV : Below W.heap.size W V := by rw [hV]; exact (Below.refl _ W).alloc (Nat.le_refl _) _
    have HO := Lib.hid (h2.below hbV)
    have HR := Lib.hid (show Read V (some ⟨W.heap.size, 0, none⟩) 1 1 [.int .i64 (x : Int)] from Read.int (by rw [hV]; exact cell_new W _ _ 0))
    have HSW := Lib.hid (show w.heap.size + 1 ≤ V.heap.size by have := hbV.size; omega)
    have HL := Lib.hid (fun (A5 : Option Addr) (c5 : Nat) (w4 : World) (ho : w4.ownsRow (w.heap.size + 1) 3 1 (.slice A5 (pre.length + 1) c5) (pre.length + 1) ((pre.map fun (k : Nat) => Value.int .i64 (k : Int)) ++ [.int .i64 (x : Int)])) (hgr : V.grownBy w4 (blk A0)) => sq_last (B := w.heap.size + 1 + 2) H0.out h1 h2 h3 hV ho hgr)
    have HV := Lib.hid hV
    have HRL := Lib.hid hrl
    generalize hrn : pre.length = rn at *
    have HRN := Lib.hid hrn
    clear h1 h2 h3 hin hpre hrl hbV hV hsz hrn
    gi_wp2_with (gi_at_builtin; rw [← HV.out]; refine gapp_in rfl (.tmp 8) (.tmp 10) appN rfl (w.heap.size + 1) A0 c0 rn (pre.map fun (k : Nat) => Value.int .i64 (k : Int)) rfl (by have := HO.out; unfold OwnN at this; rw [HRN.out] at this; exact this) (some ⟨W.heap.size, 0, none⟩) 1 1 [.int .i64 (x : Int)] rfl HR.out (by have := HRL.out; omega) HSW.out ?_; intro A5 c5 w4 ho5 hg5 _; obtain ⟨v4, f4, hX1, hX2, hX3⟩ := HL.out A5 c5 w4 ho5 hg5; have HX := Lib.hid (And.intro hX1 (And.intro hX2 hX3)); clear ho5 hg5 hX1 hX2 hX3)
    exact HX.out
  case done =>
    rintro xs W rfl ⟨A0, c0, h1, h2, h3⟩ hK
    rw [HZ0.out] at hK
    have hc := h1.cell
    have HX := Lib.hid (And.intro h2 h3)
    clear h1 h2 h3
    gi_wp2
    refine ⟨by simp, .inl ⟨_, _, rfl, run_takeDeferred (by rw [HZ0.out]; exact hK), ?_⟩⟩
    refine ⟨_, results_tmp rfl _ _ _, A0, c0, rfl, ?_, ?_⟩
    · exact (HX.out.1.mono (by omega)).put _ (by rw [HZ0.out]; exact hK) rfl
    · exact HX.out.2.trans (below_put (by rw [HZ0.out]; omega) HX.out.2.size)
  case stop =>
    rintro _ _ _ _ h _
    exact h.elim
end MskL
end Go.Proofs.YtcekgllahlhaaaaGreatDoor

namespace Go.Proofs.YtcekgllahlhaaaaGreatDoor
namespace MskL
open Go.RowKit Go.Shelf
set_option linter.unusedVariables false
set_option linter.unusedSimpArgs false
set_option maxRecDepth 100000

theorem Tab.pos {w : World} (h : Tab w) : 0 < w.heap.size := World.block_lt_of_cell? w _ (h 0 (by decide))

theorem collect_any (gf : FuncId) (lb : Array Value) (m : Mk) (w : World) (h0 : 0 < w.heap.size) (hgf : ∀ args W, (callFunc gf args).run Tryz.prog W = .ok (.enter gf args) W)
    (hseq : ∀ W0, Below w.heap.size w W0 → SeqOwn Fence.wide 2 Tryz.prog gf lb encN (fun _ _ => False) (fun _ _ _ => True) KpT (NxT m) (fun xs => xs = slots m) (fun _ => True) W0) :
    Calls Tryz.prog 34 #[.func (.func gf) #[] lb] w (GivesN w (slots m)) := by
  have HA := Lib.hid (appendSeq_any gf lb m w h0 hgf hseq)
  clear h0 hgf hseq
  go_enter Tryz.func34, Tryz.ntmps34
  go_wp2_with fail
  refine HA.out.mono ?_
  rintro e w2 ⟨A, c, rfl, hO, hB⟩
  have HX := Lib.hid (And.intro hO hB)
  clear hO hB
  go_wp2
  go_ret
  exact ⟨A, c, rfl, HX.out.1, HX.out.2⟩

theorem all_any (m : Mk) (w : World) : Calls Tryz.prog 59 #[mv m] w fun e w' => e = .returned (.func (.func 92) #[] #[.pointer (some ⟨w.heap.size, 0, none⟩)]) ∧ w' = w.alloc (.cells #[.int .u64 m.1, .int .u64 m.2] 70) := by
  unfold mv
  go_enter Tryz.func59, Tryz.ntmps59
  go_wp2
  go_ret
  exact ⟨rfl, rfl⟩

set_option maxHeartbeats 2000000 in
theorem slots_any (m : Mk) (w : World) (h : Fine m) (hT : Tab w) : Calls Tryz.prog 26 #[mv m] w (GivesN w (slots m)) := by
  obtain ⟨hb0, hm0⟩ := mbox_world w m
  obtain ⟨w1, hw1⟩ : ∃ w1, w1 = w.alloc (.cells #[.int .u64 m.1, .int .u64 m.2] 70) := ⟨_, rfl⟩
  rw [← hw1] at hb0 hm0
  obtain ⟨hb1, hm1⟩ := mbox_world w1 m
  obtain ⟨w2, hw2⟩ : ∃ w2, w2 = w1.alloc (.cells #[.int .u64 m.1, .int .u64 m.2] 70) := ⟨_, rfl⟩
  rw [← hw2] at hb1 hm1
  have hb2 : Below w.heap.size w w2 := hb0.trans (hb1.mono hb0.size)
  have HAl := Lib.hid (all_any m w1)
  have HCo := Lib.hid (collect_any 92 #[.pointer (some ⟨w1.heap.size, 0, none⟩)] m w2 (hT.below hb2).pos (fun args W => enters_of Tryz.func92 (by kernel_rfl) rfl args W)
    (fun W0 hW0 => all1_in m h 2 w1.heap.size (by omega) ((hm1.below hW0 hm1.lt).cell0) ((hm1.below hW0 hm1.lt).cell1) ((hT.below hb2).below hW0)))
  rw [← hw2] at HAl
  have HB2 := Lib.hid hb2
  have HW1 := Lib.hid hw1
  have z0 := hm0.cell0
  have z1 := hm0.cell1
  clear h hT hb0 hm0 hb1 hm1 hb2 hw1 hw2
  unfold mv at *
  go_enter Tryz.func26, Tryz.ntmps26
  go_wp2_with (rw [← HW1.out])
  refine HAl.out.mono ?_
  rintro e w3 ⟨rfl, rfl⟩
  go_wp2_with fail
  refine HCo.out.mono ?_
  rintro e w4 ⟨A, c, rfl, hO, hB⟩
  have HX := Lib.hid (And.intro (hO.mono HB2.out.size) (HB2.out.trans (hB.mono HB2.out.size)))
  clear hO hB
  go_wp2
  go_ret
  exact ⟨A, c, rfl, HX.out.1, HX.out.2⟩
end MskL
end Go.Proofs.YtcekgllahlhaaaaGreatDoor
