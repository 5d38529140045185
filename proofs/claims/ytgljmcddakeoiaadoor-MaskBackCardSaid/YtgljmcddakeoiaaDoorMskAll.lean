/-
  The iterator that all answers: the slots of a mask, rising.
-/
import Derived.Test.YtgljmcddakeoiaaDoorMskTz
import Derived.Test.YtgljmcddakeoiaaDoorMskD
import Derived.Test.YtgljmcddakeoiaaDoorMskG
import Derived.Test.YtgljmcddakeoiaaDoorVecSeq
namespace Go.Proofs.YtgljmcddakeoiaaDoor
open Go.RowKit Go.Shelf
set_option linter.unusedVariables false
set_option linter.unusedSimpArgs false
set_option maxRecDepth 100000
attribute [local go_sem] Oper.semAt_some

/-- The lowest bit, and the word without it. -/
theorem low_bits (x : Nat) (hx0 : x ≠ 0) (hx : x < 18446744073709551616) : ∃ c, Lib.ctz 64 x = c ∧ c < 64 ∧ (∀ j, j < c → x.testBit j = false) ∧ x.testBit c = true ∧ ∀ j, (x &&& (x - 1)).testBit j = (x.testBit j && !decide (j = c)) := by
  obtain ⟨m, hm, hc⟩ := Lib.ctzFrom_spec 64 x (by omega) hx
  have he : Lib.ctz 64 x = Lib.ctzFrom 64 x := by unfold Lib.ctz; rw [if_neg hx0]
  obtain ⟨c, hcc⟩ : ∃ c, c = Lib.ctzFrom 64 x := ⟨_, rfl⟩
  rw [← hcc] at hm hc he
  have hb : ∀ j, x.testBit j = (decide (c ≤ j) && (2 * m + 1).testBit (j - c)) := fun j => by rw [hm, Nat.testBit_two_pow_mul]
  have hpos : 0 < 2 ^ c := Nat.two_pow_pos c
  have h1 : x - 1 = 2 ^ c * (2 * m) + (2 ^ c - 1) := by rw [hm, Nat.mul_add, Nat.mul_one]; omega
  have hb1 : ∀ j, (x - 1).testBit j = if j < c then true else (2 * m).testBit (j - c) := fun j => by
    rw [h1, Nat.testBit_two_pow_mul_add _ (by omega)]
    split
    · rename_i hj; rw [Nat.testBit_two_pow_sub_one]; simpa using hj
    · rfl
  refine ⟨c, he, hc, fun j hj => by rw [hb]; simp; omega, by rw [hb]; simp, fun j => ?_⟩
  rw [Nat.testBit_and, hb, hb1]
  rcases Nat.lt_trichotomy j c with h | h | h
  · have : ¬ c ≤ j := by omega
    simp [this]
  · subst h; simp
  · obtain ⟨k, hk⟩ : ∃ k, j - c = k + 1 := ⟨j - c - 1, by omega⟩
    have h2 : ¬ j < c := by omega
    have h3 : ¬ j = c := by omega
    rw [hk, if_neg h2, Nat.testBit_succ, Nat.testBit_succ, show (2 * m + 1) / 2 = m by omega, show 2 * m / 2 = m by omega]
    simp [h3]

def upto (m : Mk) (k : Nat) : List Nat := (List.range k).filter (has m)
theorem upto_succ (m : Mk) (k : Nat) : upto m (k + 1) = upto m k ++ (if has m k then [k] else []) := by
  unfold upto
  rw [List.range_succ, List.filter_append]
  cases h : has m k <;> simp [h]
theorem upto_skip (m : Mk) (a : Nat) : ∀ b, a ≤ b → (∀ n, a ≤ n → n < b → has m n = false) → upto m b = upto m a
  | 0, h, _ => by rw [show a = 0 by omega]
  | b + 1, h, hn => by
    by_cases hb : a = b + 1
    · rw [hb]
    · rw [upto_succ, hn b (by omega) (by omega), upto_skip m a b (by omega) (fun n h1 h2 => hn n h1 (by omega))]
      simp
theorem upto_end (m : Mk) : upto m 128 = slots m := upto_skip m 96 128 (by omega) (fun n h _ => has_ge h)

/-- What a round of a loop over the slots keeps. -/
def KpT (_ : Nat) (W W' : World) : Prop := W.heap.size ≤ W'.heap.size ∧ (Tab W → Tab W')
theorem KpT.trans {B : Nat} {X Y Z : World} (h : KpT B X Y) (k : KpT B Y Z) : KpT B X Z := ⟨Nat.le_trans h.1 k.1, fun t => k.2 (h.2 t)⟩
theorem KpT.below {B : Nat} {W W' : World} (h : Below W.heap.size W W') : KpT B W W' := ⟨h.size, fun t => t.below h⟩
def NxT (m : Mk) (pre : List Nat) (x : Nat) : Prop := has m x = true ∧ pre = upto m x
def encN (x : Nat) : Array Value := #[.int .i64 x]

/-- What stands of the word w, of which the bits from 64 * i on are looked at, once those below p are told. -/
structure Left (m : Mk) (i x p : Nat) : Prop where
  le : p ≤ 64
  lt : x < 18446744073709551616
  bit : ∀ j, x.testBit j = (decide (p ≤ j) && (decide (j < 64) && has m (64 * i + j)))
theorem Left.first (m : Mk) (i x : Nat) (hx : x < 18446744073709551616) (h : ∀ j, x.testBit j = (decide (j < 64) && has m (64 * i + j))) : Left m i x 0 := ⟨by omega, hx, fun j => by rw [h]; simp⟩
theorem Left.done {m : Mk} {i p : Nat} (h : Left m i 0 p) : upto m (64 * i + 64) = upto m (64 * i + p) := by
  refine upto_skip m _ _ (by have := h.le; omega) (fun n h1 h2 => ?_)
  obtain ⟨j, rfl⟩ : ∃ j, n = 64 * i + j := ⟨n - 64 * i, by omega⟩
  have := h.bit j
  rw [Nat.zero_testBit, decide_eq_true (show p ≤ j by omega), decide_eq_true (show j < 64 by omega)] at this
  simpa using this.symm
theorem Left.step {m : Mk} {i x p : Nat} (h : Left m i x p) (hx : x ≠ 0) : ∃ c, Lib.ctz 64 x = c ∧ c < 64 ∧ has m (64 * i + c) = true ∧ upto m (64 * i + p) = upto m (64 * i + c) ∧ upto m (64 * i + (c + 1)) = upto m (64 * i + c) ++ [64 * i + c] ∧ Left m i (x &&& (x - 1)) (c + 1) ∧ (x &&& (x - 1)) < x := by
  obtain ⟨c, h1, h2, h3, h4, h5⟩ := low_bits x hx h.lt
  have hp := h4
  rw [h.bit] at hp
  simp only [Bool.and_eq_true, decide_eq_true_eq] at hp
  have hle : (x &&& (x - 1)) ≤ x - 1 := Nat.and_le_right
  refine ⟨c, h1, h2, hp.2.2, (upto_skip m _ _ (by omega) (fun n q1 q2 => ?_)).symm, ?_, ⟨by omega, by have := h.lt; omega, fun j => ?_⟩, by omega⟩
  · obtain ⟨j, rfl⟩ : ∃ j, n = 64 * i + j := ⟨n - 64 * i, by omega⟩
    have := h.bit j
    rw [h3 j (by omega), decide_eq_true (show p ≤ j by omega), decide_eq_true (show j < 64 by omega)] at this
    simpa using this.symm
  · rw [show 64 * i + (c + 1) = 64 * i + c + 1 by omega, upto_succ, hp.2.2]; rfl
  · rw [h5]
    by_cases hj : j < c
    · rw [h3 j hj]
      have : ¬ c + 1 ≤ j := by omega
      simp [this]
    · by_cases hjc : j = c
      · subst hjc
        have : ¬ j + 1 ≤ j := by omega
        simp [this]
      · rw [h.bit, decide_eq_true (show p ≤ j by omega), decide_eq_true (show c + 1 ≤ j by omega)]
        simp [hjc]
theorem word0 (m : Mk) (j : Nat) : (mk (has m)).1.testBit j = (decide (j < 64) && has m (64 * 0 + j)) := by
  show (wd (has m) 64).testBit j = _
  rw [wd_bit]; simp
theorem word1 (m : Mk) (j : Nat) : (mk (has m)).2.testBit j = (decide (j < 64) && has m (64 * 1 + j)) := by
  show (wd (fun j => has m (64 + j)) 32).testBit j = _
  rw [wd_bit]
  by_cases h : j < 32
  · have : j < 64 := by omega
    simp [h, this]
  · rw [show 64 * 1 + j = 64 + j by omega, has_ge (n := 64 + j) (by omega)]
    simp

set_option maxHeartbeats 4000000 in
theorem all1_in (m : Mk) (hm : Fine m) (n ba : Nat) (hn : 1 ≤ n) {w : World} (c0 : w.cell? ⟨ba, 0, none⟩ = some (.int .u64 m.1)) (c1 : w.cell? ⟨ba, 1, none⟩ = some (.int .u64 m.2)) (hT : Tab w) :
    SeqOwn Fence.wide n Tryd.prog 43 #[.pointer (some ⟨ba, 0, none⟩)] encN (fun _ _ => False) (fun _ _ _ => True) KpT (NxT m) (fun xs => xs = slots m) (fun _ => True) w := by
  intro l J Jx W hW hJ hJx hY h0
  have a0 : W.cell? ⟨ba, 0, none⟩ = some (.int .u64 m.1) := (hW.cell (p := ⟨ba, 0, none⟩) (World.block_lt_of_cell? w _ c0)).trans c0
  have a1 : W.cell? ⟨ba, 1, none⟩ = some (.int .u64 m.2) := (hW.cell (p := ⟨ba, 1, none⟩) (World.block_lt_of_cell? w _ c1)).trans c1
  have hTW : Tab W := hT.below hW
  obtain ⟨M, hM⟩ : ∃ M, M = mk (has m) := ⟨_, rfl⟩
  have HCl := Lib.hid (fun W => show Calls Tryd.prog 27 #[mv m] W (fun e w' => e = .returned (mv M) ∧ Below W.heap.size W w') from by rw [hM]; exact clean_any m W hm)
  have HL0 := Lib.hid (Left.first m 0 M.1 (by rw [hM]; exact (mk_fine _).1) (fun j => by rw [hM]; exact word0 m j))
  have HL1 := Lib.hid (Left.first m 1 M.2 (by rw [hM]; exact (mk_fine _).2) (fun j => by rw [hM]; exact word1 m j))
  have HJ := Lib.hid hJ
  have HY := Lib.hid hY
  have H0 := Lib.hid h0
  have HTW := Lib.hid hTW
  obtain ⟨s, hs⟩ : ∃ s, s = W.heap.size := ⟨_, rfl⟩
  have HS := Lib.hid hs
  have HTz := Lib.hid (fun (x : Nat) (hx : x < 18446744073709551616) (hx0 : x ≠ 0) (w : World) (hT : Tab w) => tz_any x hx hx0 w hT)
  clear c0 c1 hT hm hM hJ hJx hY h0 hTW hW hs
  have ix0 : ∀ (a b : Int) (w : World), (Instr.index 25 (.agg #[.int .u64 a, .int .u64 b]) (.int .i64 0)).run Tryd.prog w = .ok (.int .u64 a) w := by
    intro a b w
    have hu := Tryd.underlying25
    have h1 : Tryd.prog.cellsOf 23 = 1 := by kernel_rfl
    simp [Instr.index, run_underlying hu, go_sem]
  have ix1 : ∀ (a b : Int) (w : World), (Instr.index 25 (.agg #[.int .u64 a, .int .u64 b]) (.int .i64 1)).run Tryd.prog w = .ok (.int .u64 b) w := by
    intro a b w
    have hu := Tryd.underlying25
    have h1 : Tryd.prog.cellsOf 23 = 1 := by kernel_rfl
    simp [Instr.index, run_underlying hu, go_sem]
  unfold mv at *
  refine callsIn_of_wp Tryd.func43 rfl trivial ?_ rfl
  simp only [Tryd.ntmps43, List.size_toArray, List.length_cons, List.length_nil, Nat.reduceAdd, Nat.reduceSub, Array.replicate_succ, Array.replicate_zero, List.push_toArray, List.append_toArray, List.nil_append, List.cons_append]
  gi_wp2
  refine ⟨trivial, (callsIn_wide.2 (HCl.out _)).mono ?_⟩
  rintro e w2 ⟨rfl, hb2⟩
  have HB2 := Lib.hid (show J [] w2 ∧ s ≤ w2.heap.size ∧ Tab w2 from ⟨HJ.out _ W w2 H0.out (Turn.of_below (hb2.mono (Nat.le_refl _))), by rw [HS.out]; exact hb2.size, HTW.out.below hb2⟩)
  clear hb2
  gi_wp2
  gi_loopw [7] (fun i wr => ∃ k : Nat, i = .int .i64 k ∧ k ≤ 2 ∧ Hid (J (upto m (64 * k)) wr ∧ s ≤ wr.heap.size ∧ Tab wr)) (fun i _ => 2 - (match i with | .int _ k => k.toNat | _ => 0))
  case atStart => exact ⟨0, rfl, by omega, Lib.hid HB2.out⟩
  case round =>
    obtain ⟨k, rfl, hk, HH⟩ := hrel
    clear HB2
    by_cases hk2 : k = 2
    · subst hk2
      have HF := Lib.hid (show J (slots m) wr by rw [← upto_end]; exact HH.out.1)
      gi_wp2
      go_end0
      exact ⟨⟨_, rfl⟩, .inl ⟨_, rfl, HF.out⟩⟩
    · by_cases hk1 : k = 1
      · subst hk1
        clear hk hk2
        rw [show ((1 : Nat) : Int) = (1 : Int) from rfl]
        gi_wp2
        gi_loopw [4] (fun v wr => ∃ x p : Nat, v = .int .u64 x ∧ Hid (Left m 1 x p ∧ J (upto m (64 * 1 + p)) wr ∧ s ≤ wr.heap.size ∧ Tab wr)) (fun v _ => match v with | .int _ x => x.toNat | _ => 0)
        case atStart => exact ⟨M.2, 0, rfl, Lib.hid ⟨HL1.out, HH.out.1, HH.out.2.1, HH.out.2.2⟩⟩
        case round =>
          obtain ⟨x, p, rfl, HI⟩ := hrel
          by_cases hx : x = 0
          · subst hx
            have HE := Lib.hid (show J (upto m (64 * 2)) wr ∧ s ≤ wr.heap.size ∧ Tab wr from ⟨by have := HI.out.1.done; rw [show 64 * 2 = 64 * 1 + 64 from rfl, this]; exact HI.out.2.1, HI.out.2.2⟩)
            gi_wp2
            go_roundw
            case rel => exact ⟨2, by simp, by omega, HE⟩
            case measure => simp
          · have hx' : ((x : Int) != 0) = true := by simpa using hx
            obtain ⟨c, hc, hc64, hin, hpre, hnext, hleft, hless⟩ := HI.out.1.step hx
            have hlt := HI.out.1.lt
            have HTa := Lib.hid (show Tab wr from HI.out.2.2.2)
            have HTc := Lib.hid (HTz.out x hlt hx wr HTa.out)
            rw [hc] at HTc
            obtain ⟨v, hv⟩ : ∃ v : Nat, v = 64 * 1 + c := ⟨_, rfl⟩
            have hvw : IntKind.i64.wrap (64 + (c : Int)) = (v : Int) := by rw [IntKind.wrap_i64, hv]; omega
            have hsub : IntKind.u64.wrap ((x : Int) - 1) = ((x - 1 : Nat) : Int) := by rw [IntKind.wrap_u64]; omega
            have hand : bits .and .u64 (x : Int) ((x - 1 : Nat) : Int) = ((x &&& (x - 1) : Nat) : Int) := u64_and_nat x (x - 1) hlt (by omega)
            obtain ⟨fn, tmps, assign, body, hy, hR⟩ := HY.out (upto m v) v wr (by rw [hv, ← hpre]; exact HI.out.2.1) (by rw [← HS.out]; exact HI.out.2.2.1) trivial ⟨by rw [hv]; exact hin, rfl⟩
            rw [show upto m v ++ [v] = upto m (64 * 1 + (c + 1)) from by rw [hv, hnext]] at hR
            have HR := Lib.hid hR
            have HLf := Lib.hid (And.intro hleft (And.intro hless HI.out.2.2.1))
            unfold encN at hy
            try dsimp only at hy
            generalize (x - 1 : Nat) = x1 at *
            generalize (x &&& x1 : Nat) = x2 at *
            clear hR hc hc64 hin hpre hnext hleft hless hv hlt
            gi_wp2
            refine ⟨trivial, (callsIn_wide.2 HTc.out).mono ?_⟩
            rintro e w5 ⟨rfl, rfl⟩
            gi_wp2
            refine HR.out.mono ?_
            rintro e W3 (⟨rfl, hJ3, hk3⟩ | ⟨rfl, hJx3⟩)
            · have HH3 := Lib.hid (show Left m 1 x2 (c + 1) ∧ J (upto m (64 * 1 + (c + 1))) W3 ∧ s ≤ W3.heap.size ∧ Tab W3 from ⟨HLf.out.1, hJ3, Nat.le_trans HLf.out.2.2 hk3.1, hk3.2 HTa.out⟩)
              clear hJ3 hk3
              gi_wp2
              go_roundw
              case rel => exact ⟨x2, c + 1, by simp, HH3⟩
              case measure => have := HLf.out.2.1; simp; omega
            · have HX3 := Lib.hid hJx3
              clear hJx3
              gi_wp2
              refine bodyPost_ret (results_none rfl _ _ _) rfl ?_
              exact ⟨⟨_, rfl⟩, .inr ⟨_, trivial, HX3.out⟩⟩
      · obtain rfl : k = 0 := by omega
        clear hk hk2 hk1
        rw [show ((0 : Nat) : Int) = (0 : Int) from rfl]
        gi_wp2
        gi_loopw [4] (fun v wr => ∃ x p : Nat, v = .int .u64 x ∧ Hid (Left m 0 x p ∧ J (upto m (64 * 0 + p)) wr ∧ s ≤ wr.heap.size ∧ Tab wr)) (fun v _ => match v with | .int _ x => x.toNat | _ => 0)
        case atStart => exact ⟨M.1, 0, rfl, Lib.hid ⟨HL0.out, HH.out.1, HH.out.2.1, HH.out.2.2⟩⟩
        case round =>
          obtain ⟨x, p, rfl, HI⟩ := hrel
          by_cases hx : x = 0
          · subst hx
            have HE := Lib.hid (show J (upto m (64 * 1)) wr ∧ s ≤ wr.heap.size ∧ Tab wr from ⟨by have := HI.out.1.done; rw [show 64 * 1 = 64 * 0 + 64 from rfl, this]; exact HI.out.2.1, HI.out.2.2⟩)
            gi_wp2
            go_roundw
            case rel => exact ⟨1, by simp, by omega, HE⟩
            case measure => simp
          · have hx' : ((x : Int) != 0) = true := by simpa using hx
            obtain ⟨c, hc, hc64, hin, hpre, hnext, hleft, hless⟩ := HI.out.1.step hx
            have hlt := HI.out.1.lt
            have HTa := Lib.hid (show Tab wr from HI.out.2.2.2)
            have HTc := Lib.hid (HTz.out x hlt hx wr HTa.out)
            rw [hc] at HTc
            obtain ⟨v, hv⟩ : ∃ v : Nat, v = 64 * 0 + c := ⟨_, rfl⟩
            have hvw : wrap64 (c : Int) = (v : Int) := by unfold wrap64; omega
            have hsub : IntKind.u64.wrap ((x : Int) - 1) = ((x - 1 : Nat) : Int) := by rw [IntKind.wrap_u64]; omega
            have hand : bits .and .u64 (x : Int) ((x - 1 : Nat) : Int) = ((x &&& (x - 1) : Nat) : Int) := u64_and_nat x (x - 1) hlt (by omega)
            obtain ⟨fn, tmps, assign, body, hy, hR⟩ := HY.out (upto m v) v wr (by rw [hv, ← hpre]; exact HI.out.2.1) (by rw [← HS.out]; exact HI.out.2.2.1) trivial ⟨by rw [hv]; exact hin, rfl⟩
            rw [show upto m v ++ [v] = upto m (64 * 0 + (c + 1)) from by rw [hv, hnext]] at hR
            have HR := Lib.hid hR
            have HLf := Lib.hid (And.intro hleft (And.intro hless HI.out.2.2.1))
            unfold encN at hy
            try dsimp only at hy
            generalize (x - 1 : Nat) = x1 at *
            generalize (x &&& x1 : Nat) = x2 at *
            clear hR hc hc64 hin hpre hnext hleft hless hv hlt
            gi_wp2
            refine ⟨trivial, (callsIn_wide.2 HTc.out).mono ?_⟩
            rintro e w5 ⟨rfl, rfl⟩
            gi_wp2
            refine HR.out.mono ?_
            rintro e W3 (⟨rfl, hJ3, hk3⟩ | ⟨rfl, hJx3⟩)
            · have HH3 := Lib.hid (show Left m 0 x2 (c + 1) ∧ J (upto m (64 * 0 + (c + 1))) W3 ∧ s ≤ W3.heap.size ∧ Tab W3 from ⟨HLf.out.1, hJ3, Nat.le_trans HLf.out.2.2 hk3.1, hk3.2 HTa.out⟩)
              clear hJ3 hk3
              gi_wp2
              go_roundw
              case rel => exact ⟨x2, c + 1, by simp, HH3⟩
              case measure => have := HLf.out.2.1; simp; omega
            · have HX3 := Lib.hid hJx3
              clear hJx3
              gi_wp2
              refine bodyPost_ret (results_none rfl _ _ _) rfl ?_
              exact ⟨⟨_, rfl⟩, .inr ⟨_, trivial, HX3.out⟩⟩
end Go.Proofs.YtgljmcddakeoiaaDoor
