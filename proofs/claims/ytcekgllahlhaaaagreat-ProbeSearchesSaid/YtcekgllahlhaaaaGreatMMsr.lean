/-
  MskApp, MskR, MskR2, MskR3, MskR4, MskR5, MskR6.
-/
import Derived.Test.YtcekgllahlhaaaaGreatMMsk
import Derived.Deep.RegionLaw
import Derived.Deep.Onto
import Derived.Maps.AppendAt
import Derived.Deep.RegionHeld3
namespace Go.Proofs.YtcekgllahlhaaaaGreat
namespace MskL
open Go.RowKit Go.Shelf
set_option linter.unusedVariables false
set_option linter.unusedSimpArgs false
set_option maxRecDepth 100000

theorem row_turn {S : Nat → Prop} {w w' : World} {base : Nat} {e : TypeId} {size : Nat} {v : Value} {n : Nat} {xs : List Value} (h : w.ownsRow base e size v n xs) (ht : Turn S w w') (hS : ∀ i, v.ownBlock = some i → ¬ S i) : w'.ownsRow base e size v n xs := by
  rcases h.2 with ⟨e', h0⟩ | ⟨g, cap, cur, e', hg, hh, hnc, hcm, hsz, hcs⟩
  · exact ⟨h.1, .inl ⟨e', h0⟩⟩
  · refine ⟨h.1, .inr ⟨g, cap, cur, e', hg, (ht.block _ (lt_of_block hh) (hS g ?_)).trans hh, hnc, hcm, hsz, hcs⟩⟩
    rw [e']; rfl
/-! ### append -/
def blk (A : Option Addr) : Option Nat := A.map (·.block)
theorem own_blk (A : Option Addr) (n c : Nat) : (Value.slice A n c).ownBlock = blk A := by cases A <;> rfl
theorem own_form2 {w : World} {base : Nat} {e : TypeId} {size : Nat} {v : Value} {n : Nat} {xs : List Value} (h : w.ownsRow base e size v n xs) : ∃ A c, v = .slice A n c ∧ (A = none ∨ ∃ g, A = some ⟨g, 0, none⟩ ∧ base ≤ g ∧ g < w.heap.size) := by
  rcases h.2 with ⟨rfl, h0⟩ | ⟨g, cap, cur, rfl, hg, hh, _⟩
  · exact ⟨none, 0, by rw [h0], .inl rfl⟩
  · exact ⟨_, cap, rfl, .inr ⟨g, rfl, hg, lt_of_block hh⟩⟩
/-- A slice's type to which one appends: its element, that one's size in cells, its bytes. -/
def AppT (P : Program) (t e : TypeId) (size bytes : Nat) : Prop := P.underlying t = some (.slice e) ∧ ∃ i z, P.info? e = some i ∧ i.zero = some z ∧ i.size = size ∧ i.bytes = bytes ∧ z.cells.size = size ∧ 0 < size ∧ bytes ≤ 100
theorem appN : AppT Tryz.prog 23 3 1 8 := ⟨Tryz.underlying23, (Tryz.prog.info? 3).get (by kernel_rfl), .int .i64 0, (Option.some_get _).symm, by kernel_rfl, by kernel_rfl, by kernel_rfl, rfl, by decide, by decide⟩

/-- What is appended can be read. -/
def Read (w : World) (A : Option Addr) (m size : Nat) (news : List Value) : Prop := news.length = m * size ∧ (∀ u ∈ news, u.oneCell' = true) ∧ (A = none → m = 0) ∧ ∀ b, A = some b → ∀ j u, news[j]? = some u → w.cell? (b.add j) = some u
theorem Read.vec {w : World} {A : Option Addr} {c : Nat} {xs : List Int} {k : IntKind} (h : Vec k w A c xs) : Read w A xs.length 1 (xs.map (Value.int k)) := by
  refine ⟨by simp, by simp; intro x _; rfl, fun e => ?_, fun b e j u hj => ?_⟩
  · rcases Nat.eq_zero_or_pos xs.length with h0 | h0
    · exact h0
    · obtain ⟨b, o, e', _⟩ := h.rd h0; rw [e] at e'; cases e'
  · have hl : j < xs.length := by have := (List.getElem?_eq_some_iff.1 hj).1; simpa using this
    obtain ⟨b', o, e', _, hc⟩ := h.rd (by omega)
    rw [e] at e'
    injection e' with e'
    subst e'
    rw [Addr.add_lit, hc j hl, ← hj]
    simp [List.getD, hl]
theorem Read.int {w : World} {g o : Nat} {k : Int} (h0 : w.cell? ⟨g, o, none⟩ = some (.int .i64 k)) : Read w (some ⟨g, o, none⟩) 1 1 [.int .i64 k] := by
  refine ⟨rfl, by simp; rfl, (fun e => by cases e), fun b e j u hj => ?_⟩
  injection e with e
  subst e
  rw [Addr.add_lit]
  match j, hj with
  | 0, hj => simp at hj; rw [Nat.add_zero, h0, hj]
  | j + 1, hj => simp at hj

theorem run_gapp {w : World} {t e : TypeId} {size bytes : Nat} (hT : AppT Tryz.prog t e size bytes) (ty : TypeId) (base : Nat) (A0 : Option Addr) (c0 n : Nat) (xs : List Value) (hown : w.ownsRow base e size (.slice A0 n c0) n xs)
    (A : Option Addr) (c m : Nat) (news : List Value) (hr : Read w A m size news) (hbig : n + m ≤ 1099511627776) (hbase : base ≤ w.heap.size) :
    ∃ A1 c1 w', (Builtin.append_ #[t, t] ty #[.slice A0 n c0, .slice A m c]).run Tryz.prog w = .ok (.slice A1 (n + m) c1) w' ∧ w'.ownsRow base e size (.slice A1 (n + m) c1) (n + m) (xs ++ news) ∧ w.grownBy w' (blk A0) ∧ (blk A1 = blk A0 ∨ blk A1 = some w.heap.size) := by
  obtain ⟨ht, i0, z, hi, hz0, hz1, hz2, hz3, hz4, hz5⟩ := hT
  obtain ⟨hl, h1, hn, hrd⟩ := hr
  have hb : (n + m) * bytes ≤ 140737488355328 := by
    have : (n + m) * bytes ≤ 1099511627776 * 100 := Nat.mul_le_mul hbig hz5
    omega
  rcases A with _ | ad
  · obtain rfl := hn rfl
    obtain rfl : news = [] := List.eq_nil_of_length_eq_zero (by simpa using hl)
    refine ⟨A0, c0, w, ?_, by simpa using hown, World.grownBy.refl _ _, .inl rfl⟩
    rcases hown.2 with ⟨e1, rfl⟩ | ⟨g, cap, cur, e1, _, _, hnc, _⟩
    · injection e1 with e1 _ e3
      subst e1
      subst e3
      simp [Builtin.append_, run_underlying ht, sizeOf, typeInfo, hi, Builtin.lenOf, Builtin.firstCells]
    · injection e1 with e1 _ e3
      subst e1
      subst e3
      simp [Builtin.append_, run_underlying ht, sizeOf, typeInfo, hi, Builtin.lenOf, Builtin.firstCells, hnc, storeCells]
  · obtain ⟨v', w', hrun, h1, h2, h3, h4⟩ := run_append_own_at (P := Tryz.prog) w base t ty e i0 z size bytes ht hi hz0 hz1 hz2 hz3 hz4 _ n xs hown ad m c news hl (hrd ad rfl) h1 (by unfold maxLen; omega) hb hbase
    obtain ⟨A1, c1, rfl, _⟩ := own_form2 h1
    rw [own_blk] at h2 h4
    rw [own_blk] at h4
    exact ⟨A1, c1, w', hrun, h1, h2, h4⟩

theorem gapp_at {w : World} {ops : Array Oper} {rest : List Oper} {o : Oper} {a : Act} {Q : Exit → Act → World → Prop} (hgd : o.guard = none) (s x : Operand) {t e : TypeId} {size bytes : Nat} (hT : AppT Tryz.prog t e size bytes)
    (ho : o.op = .call { callee := .builtin .append, args := #[s, x], argTypes := #[t, t] })
    (base : Nat) (A0 : Option Addr) (c0 n : Nat) (xs : List Value) (hs : a.eval s = .slice A0 n c0) (hown : w.ownsRow base e size (.slice A0 n c0) n xs)
    (A : Option Addr) (c m : Nat) (news : List Value) (hx : a.eval x = .slice A m c) (hr : Read w A m size news) (hbig : n + m ≤ 1099511627776) (hbase : base ≤ w.heap.size)
    (h : ∀ A1 c1 w', w'.ownsRow base e size (.slice A1 (n + m) c1) (n + m) (xs ++ news) → w.grownBy w' (blk A0) → (blk A1 = blk A0 ∨ blk A1 = some w.heap.size) → wpList Tryz.prog ops Q rest (a.put o.dst (.slice A1 (n + m) c1)) w') : wpList Tryz.prog ops Q (o :: rest) a w := by
  refine wpList_plain hgd fun K hK => ?_
  obtain ⟨A1, c1, w', hrun, h1, h2, h3⟩ := run_gapp hT o.type base A0 c0 n xs hown A c m news hr hbig hbase
  unfold Oper.wp
  simp [execOp, ho, resolve, invoke, builtin, hs, hx, hrun, Result.andThen]
  exact hK _ _ (h A1 c1 w' h1 h2 h3)

/-- .. as a step of a region that draws. -/
theorem gapp_step {w : World} {ops : Array Oper} {o : Oper} {a : Act} {K : Act → World → Prop} {Q : Exit → Act → World → Prop} {E : Prop} (hgd : o.guard = none) (s x : Operand) {t e : TypeId} {size bytes : Nat} (hT : AppT Tryz.prog t e size bytes)
    (ho : o.op = .call { callee := .builtin .append, args := #[s, x], argTypes := #[t, t] })
    (base : Nat) (A0 : Option Addr) (c0 n : Nat) (xs : List Value) (hs : a.eval s = .slice A0 n c0) (hown : w.ownsRow base e size (.slice A0 n c0) n xs)
    (A : Option Addr) (c m : Nat) (news : List Value) (hx : a.eval x = .slice A m c) (hr : Read w A m size news) (hbig : n + m ≤ 1099511627776) (hbase : base ≤ w.heap.size)
    (h : ∀ A1 c1 w', w'.ownsRow base e size (.slice A1 (n + m) c1) (n + m) (xs ++ news) → w.grownBy w' (blk A0) → (blk A1 = blk A0 ∨ blk A1 = some w.heap.size) → K (a.put o.dst (.slice A1 (n + m) c1)) w') :
    if Region.wanted o (yielded ops a.tmps) = true then Oper.wp Tryz.prog o a w K Q else E := by
  have hw : Region.wanted o (yielded ops a.tmps) = true := by simp [Region.wanted, hgd]
  rw [if_pos hw]
  obtain ⟨A1, c1, w', hrun, h1, h2, h3⟩ := run_gapp hT o.type base A0 c0 n xs hown A c m news hr hbig hbase
  unfold Oper.wp
  simp [execOp, ho, resolve, invoke, builtin, hs, hx, hrun, Result.andThen]
  exact h A1 c1 w' h1 h2 h3

/-- .. in a fenced walk. -/
theorem gapp_in {F : Fence} {nn : Nat} {w : World} {ops : Array Oper} {rest : List Oper} {o : Oper} {a : Act} {Q : Exit → Act → World → Prop} (hgd : o.guard = none) (s x : Operand) {t e : TypeId} {size bytes : Nat} (hT : AppT Tryz.prog t e size bytes)
    (ho : o.op = .call { callee := .builtin .append, args := #[s, x], argTypes := #[t, t] })
    (base : Nat) (A0 : Option Addr) (c0 n : Nat) (xs : List Value) (hs : a.eval s = .slice A0 n c0) (hown : w.ownsRow base e size (.slice A0 n c0) n xs)
    (A : Option Addr) (c m : Nat) (news : List Value) (hx : a.eval x = .slice A m c) (hr : Read w A m size news) (hbig : n + m ≤ 1099511627776) (hbase : base ≤ w.heap.size)
    (h : ∀ A1 c1 w', w'.ownsRow base e size (.slice A1 (n + m) c1) (n + m) (xs ++ news) → w.grownBy w' (blk A0) → (blk A1 = blk A0 ∨ blk A1 = some w.heap.size) → wpListIn F nn Tryz.prog ops Q rest (a.put o.dst (.slice A1 (n + m) c1)) w') : wpListIn F nn Tryz.prog ops Q (o :: rest) a w := by
  refine wpListIn_plain hgd fun K hK' => ?_
  obtain ⟨A1, c1, w', hrun, h1, h2, h3⟩ := run_gapp hT o.type base A0 c0 n xs hown A c m news hr hbig hbase
  unfold Oper.wpIn
  refine ⟨?_, ?_⟩
  · simp [Oper.about, ho, resolve, Target.leads, Sem.run_pure]
  · rw [Oper.semAt_plain F _ _ (by rw [ho]; intro c hc'; cases hc')]
    simp [execOp, ho, resolve, invoke, builtin, hs, hx, hrun, Result.andThen]
    exact hK' _ _ (h A1 c1 w' h1 h2 h3)

set_option maxHeartbeats 400000 in

theorem grown_below {w w' : World} {B : Nat} {A : Option Addr} (hg : w.grownBy w' (blk A)) (hb : B ≤ w.heap.size) (hA : ∀ i, blk A = some i → B ≤ i) : Below B w w' :=
  (Turn.of_grown (S := fun i => blk A = some i) hg (fun i hi => .inl hi)).below hb hA
/-- Numbers of the call's own. -/
def OwnN (base : Nat) (w : World) (A : Option Addr) (c : Nat) (l : List Nat) : Prop := w.ownsRow base 3 1 (.slice A l.length c) l.length (l.map fun (k : Nat) => Value.int .i64 (k : Int))
theorem OwnN.nil (base : Nat) (w : World) : OwnN base w none 0 [] := World.ownsRow_nil _ _ _ _
theorem OwnN.below {base : Nat} {w w' : World} {A : Option Addr} {c : Nat} {l : List Nat} (h : OwnN base w A c l) (hb : Below w.heap.size w w') : OwnN base w' A c l := row_turn h (Turn.of_below (S := fun _ => False) hb) (fun _ _ e => e)
theorem OwnN.mono {base b : Nat} {w : World} {A : Option Addr} {c : Nat} {l : List Nat} (h : OwnN base w A c l) (hb : b ≤ base) : OwnN b w A c l := World.ownsRow.mono h hb
theorem OwnN.vec {base : Nat} {w : World} {A : Option Addr} {c : Nat} {l : List Nat} (h : OwnN base w A c l) (hl : ∀ k ∈ l, k < 9223372036854775808) : Vec .i64 w A c (l.map fun (k : Nat) => (k : Int)) := by
  have h1 := h
  unfold OwnN at h1
  obtain ⟨A', c', e, hv⟩ := Vec.own (m := 0) (k := .i64) (xs := l.map fun (k : Nat) => (k : Int)) (v := .slice A l.length c) (e := 3) (base := base) (w := w) (by simpa [List.map_map, Function.comp_def] using h1) (fun x hx => by
    obtain ⟨k, hk, rfl⟩ := List.mem_map.1 hx
    have := hl k hk
    simp [Lit.wf, IntKind.min, IntKind.max, IntKind.signed, IntKind.bits]
    omega)
  injection e with e1 _ e2
  subst e1
  subst e2
  exact hv
theorem OwnN.low {base : Nat} {w : World} {A : Option Addr} {c : Nat} {l : List Nat} (h : OwnN base w A c l) : ∀ i, blk A = some i → base ≤ i ∧ i < w.heap.size := fun i hi => h.lt i (by rw [own_blk]; exact hi)
theorem OwnN.app {base c c5 n : Nat} {w V w' : World} {A A5 : Option Addr} {l : List Nat} {k : Nat} (h : OwnN base w A c l) (hV : Below w.heap.size w V) (hbs : base ≤ w.heap.size) (hn : l.length = n)
    (ho : w'.ownsRow base 3 1 (.slice A5 (n + 1) c5) (n + 1) ((l.map fun (k : Nat) => Value.int .i64 (k : Int)) ++ [.int .i64 (k : Int)])) (hg : V.grownBy w' (blk A)) : OwnN base w' A5 c5 (l ++ [k]) ∧ Below base w w' := by
  subst hn
  refine ⟨?_, (hV.mono hbs).trans (grown_below hg (Nat.le_trans hbs hV.size) (fun i hi => (h.low i hi).1))⟩
  unfold OwnN
  rw [List.length_append, List.map_append]
  exact ho
end MskL
end Go.Proofs.YtcekgllahlhaaaaGreat

namespace Go.Proofs.YtcekgllahlhaaaaGreat
namespace MskL
open Go.RowKit Go.Shelf
set_option linter.unusedVariables false
set_option linter.unusedSimpArgs false
set_option maxRecDepth 100000

theorem rSlot_any (n : Int) (w : World) :
    Calls Tryz.prog 109 #[.int .i64 n] w fun e w' => e = .returned (.bool (slotB n)) ∧ w = w' := by
  by_cases h0 : 0 ≤ n
  · go_enter Tryz.func109, Tryz.ntmps109
    go_wp2
    go_ret
    refine ⟨?_, rfl⟩
    simp [slotB, h0]
  · have t0 : decide (0 ≤ n) = false := by simpa using h0
    go_enter Tryz.func109, Tryz.ntmps109
    go_wp2
    go_ret
    refine ⟨?_, rfl⟩
    simp [slotB, h0]
    omega

/-- A mask and a slot, word by word. -/
def withW (m : Mk) (n : Nat) : Mk := if n < 64 then (m.1 ||| 2 ^ n, m.2) else (m.1, m.2 ||| 2 ^ (n - 64))
theorem withW_fine {m : Mk} (h : Fine m) {n : Nat} (hn : n < 96) : Fine (withW m n) := by
  unfold withW
  split
  · exact ⟨Nat.or_lt_two_pow (n := 64) h.1 (Nat.pow_lt_pow_right (by decide) (by omega)), h.2⟩
  · exact ⟨h.1, Nat.or_lt_two_pow (n := 64) h.2 (Nat.pow_lt_pow_right (by decide) (by omega))⟩
theorem withW_mk (f : Nat → Bool) {n : Nat} (hn : n < 96) : withW (mk f) n = mk (fun k => f k || decide (k = n)) := by
  unfold withW
  by_cases h : n < 64
  · rw [if_pos h]
    have e1 : (mk f).1 ||| 2 ^ n = wd (fun k => f k || decide (k = n)) 64 := by
      apply Nat.eq_of_testBit_eq
      intro i
      rw [Nat.testBit_or, Nat.testBit_two_pow, wd_bit]
      show ((wd f 64).testBit i || _) = _
      rw [wd_bit]
      by_cases hi : i < 64
      · simp [hi, eq_comm]
        try (congr 1; rw [Bool.eq_iff_iff]; simp; omega)
      · have hne : ¬ n = i := by omega
        simp [hi, hne]
        try omega
    have e2 : (mk f).2 = wd (fun j => f (64 + j) || decide (64 + j = n)) 32 := wd_congr (fun j hj => by
      have : decide (64 + j = n) = false := by simp; omega
      rw [this, Bool.or_false])
    rw [e1, e2]
    rfl
  · rw [if_neg h]
    have e1 : (mk f).1 = wd (fun k => f k || decide (k = n)) 64 := wd_congr (fun j hj => by
      have : decide (j = n) = false := by simp; omega
      rw [this, Bool.or_false])
    have e2 : (mk f).2 ||| 2 ^ (n - 64) = wd (fun j => f (64 + j) || decide (64 + j = n)) 32 := by
      apply Nat.eq_of_testBit_eq
      intro i
      rw [Nat.testBit_or, Nat.testBit_two_pow, wd_bit]
      show ((wd _ 32).testBit i || _) = _
      rw [wd_bit]
      by_cases hi : i < 32
      · simp [hi, eq_comm]
        try (congr 1; rw [Bool.eq_iff_iff]; simp; omega)
      · have hne : ¬ n = 64 + i := by omega
        simp [hi, hne]
        try omega
    rw [e1, e2]
    rfl

set_option maxHeartbeats 2000000 in
theorem rwith_any (m : Mk) (n : Nat) (w : World) (h : Fine m) (hn : n < 96) :
    Calls Tryz.prog 132 #[mv m, .int .i64 n] w fun e w' => e = .returned (mv (withW m n)) ∧ Below w.heap.size w w' := by
  obtain ⟨a, b⟩ := m
  unfold mv
  by_cases h64 : n < 64
  · skip
    have q0 : (n : Int).tdiv 64 = 0 := by rw [Int.tdiv_eq_ediv_of_nonneg (by omega)]; omega
    have q1 : (n : Int).tmod 64 = n := by rw [Int.tmod_eq_emod_of_nonneg (by omega)]; omega
    have hw0 : IntKind.i64.wrap 0 = 0 := rfl
    have hwn : IntKind.i64.wrap (n : Int) = n := by rw [IntKind.wrap_i64, Int.emod_eq_of_lt (by omega) (by omega)]; omega
    have n0 : (0 : Int) ≤ n := by omega
    obtain ⟨P, hP⟩ : ∃ P, P = 2 ^ n := ⟨_, rfl⟩
    have hP64 : P < 18446744073709551616 := by rw [hP]; exact Nat.pow_lt_pow_right (a := 2) (n := 64) (by decide) (by omega)
    have hsh : IntKind.u64.wrap ((2 : Int) ^ n) = (P : Int) := by
      have e : (2 : Int) ^ n = (P : Int) := by rw [hP]; simp
      rw [e, IntKind.wrap_u64]
      exact Int.emod_eq_of_lt (by omega) (by omega)
    have hor := u64_or_nat a P h.1 hP64
    have HF := Lib.hid (show withW (a, b) n = ((a ||| P), b) from by unfold withW; rw [if_pos h64, hP])
    obtain ⟨R, hR0⟩ : ∃ R, R = a ||| P := ⟨_, rfl⟩
    rw [← hR0] at hor HF
    have hmin : min n 64 = n := Nat.min_eq_left (by omega)
    clear hP hP64 hR0 
    obtain ⟨s, hs⟩ : ∃ s, s = w.heap.size := ⟨_, rfl⟩
    obtain ⟨W0, hW0⟩ : ∃ W0, W0 = (w.alloc (.cells #[.int .u64 (a : Int), .int .u64 (b : Int)] 93)).alloc (.cells #[.int .u64 (0 : Nat), .int .u64 (0 : Nat)] 93) := ⟨_, rfl⟩
    have hB : Below w.heap.size w W0 := by rw [hW0]; exact ((Below.refl _ w).alloc (Nat.le_refl _) _).alloc (by simp) _
    have hm0 : MRow W0 s a b := by rw [hW0, hs]; exact (MRow.new w a b).below ((Below.refl _ _).alloc (Nat.le_refl _) _) (by simp)
    have hR : MRow W0 (s + 1) 0 0 := by
      rw [hW0, hs]; have := MRow.new (w.alloc (.cells #[.int .u64 (a : Int), .int .u64 (b : Int)] 93)) 0 0
      rwa [World.size_alloc] at this
    obtain ⟨V, hV⟩ : ∃ V, V = (W0.setCell ⟨s, 0, none⟩ (.int .u64 (R : Int))).drew := ⟨_, rfl⟩
    have hmV : MRow V s R b := by rw [hV]; exact MRow.set0 hm0 R
    have hRV : MRow V (s + 1) 0 0 := by rw [hV]; exact MRow.other hR _ _ (by simp)
    have hBV : Below w.heap.size w V := by rw [hV]; exact below_drew (below_set hB _ _ (by rw [hs]; exact Nat.le_refl _))
    have HW0 := Lib.hid hW0
    have HS := Lib.hid hs
    have HV := Lib.hid hV
    have c0 := hm0.cell0
    have f0 := hm0.frozen 0
    have v0 := hmV.cell0
    have v1 := hmV.cell1
    have r0 := hRV.cell0
    have r1 := hRV.cell1
    have g0 := hRV.frozen 0
    have g1 := hRV.frozen 1
    obtain ⟨e0, e1, hbE⟩ := res2 R b hRV hBV (by omega)
    have HBE := Lib.hid hbE
    clear hs hW0 hB hm0 hR h hV hmV hRV hBV hbE
    go_enter Tryz.func132, Tryz.ntmps132
    go_wp2
    rw [show (w.alloc (.cells #[.int .u64 (a : Int), .int .u64 (b : Int)] 93)).alloc (.cells #[.int .u64 0, .int .u64 0] 93) = W0 from HW0.out.symm, ← HS.out]
    refine wp_region_still_tail 9 (by kernel_rfl) (by kernel_rfl) ?_
    simp only [List.take_succ_cons, List.take_zero, List.drop_succ_cons, List.drop_zero]
    change wpStill _ _ W0.drew _ _ _
    still_step
    still_step
    still_step
    still_step
    still_step
    still_step
    still_step
    still_step
    still_step
    refine wpStill_nil ?_
    change wpList _ _ _ _ _ W0.drew
    go_wp2_with (rw [← HV.out])
    go_wp2
    refine bodyPost_ret (v := .agg #[.int .u64 (R : Nat), .int .u64 (b : Nat)]) (by simp [results, Tryz.results132, go_sem, e0, e1]) rfl ?_
    rw [HF.out]
    exact ⟨rfl, HBE.out⟩
  · skip
    obtain ⟨r, hr⟩ : ∃ r, r = n - 64 := ⟨_, rfl⟩
    have q0 : (n : Int).tdiv 64 = 1 := by rw [Int.tdiv_eq_ediv_of_nonneg (by omega)]; omega
    have q1 : (n : Int).tmod 64 = r := by rw [Int.tmod_eq_emod_of_nonneg (by omega)]; omega
    have hw0 : IntKind.i64.wrap 1 = 1 := rfl
    have hr64 : r < 64 := by omega
    have hwn : IntKind.i64.wrap (r : Int) = r := by rw [IntKind.wrap_i64, Int.emod_eq_of_lt (by omega) (by omega)]; omega
    have n0 : (0 : Int) ≤ r := by omega
    obtain ⟨P, hP⟩ : ∃ P, P = 2 ^ r := ⟨_, rfl⟩
    have hP64 : P < 18446744073709551616 := by rw [hP]; exact Nat.pow_lt_pow_right (a := 2) (n := 64) (by decide) (by omega)
    have hsh : IntKind.u64.wrap ((2 : Int) ^ r) = (P : Int) := by
      have e : (2 : Int) ^ r = (P : Int) := by rw [hP]; simp
      rw [e, IntKind.wrap_u64]
      exact Int.emod_eq_of_lt (by omega) (by omega)
    have hor := u64_or_nat b P h.2 hP64
    have HF := Lib.hid (show withW (a, b) n = (a, (b ||| P)) from by unfold withW; rw [if_neg h64, hP, hr])
    obtain ⟨R, hR0⟩ : ∃ R, R = b ||| P := ⟨_, rfl⟩
    rw [← hR0] at hor HF
    have hmin : min r 64 = r := Nat.min_eq_left (by omega)
    clear hP hP64 hR0 h64 hr
    obtain ⟨s, hs⟩ : ∃ s, s = w.heap.size := ⟨_, rfl⟩
    obtain ⟨W0, hW0⟩ : ∃ W0, W0 = (w.alloc (.cells #[.int .u64 (a : Int), .int .u64 (b : Int)] 93)).alloc (.cells #[.int .u64 (0 : Nat), .int .u64 (0 : Nat)] 93) := ⟨_, rfl⟩
    have hB : Below w.heap.size w W0 := by rw [hW0]; exact ((Below.refl _ w).alloc (Nat.le_refl _) _).alloc (by simp) _
    have hm0 : MRow W0 s a b := by rw [hW0, hs]; exact (MRow.new w a b).below ((Below.refl _ _).alloc (Nat.le_refl _) _) (by simp)
    have hR : MRow W0 (s + 1) 0 0 := by
      rw [hW0, hs]; have := MRow.new (w.alloc (.cells #[.int .u64 (a : Int), .int .u64 (b : Int)] 93)) 0 0
      rwa [World.size_alloc] at this
    obtain ⟨V, hV⟩ : ∃ V, V = (W0.setCell ⟨s, 1, none⟩ (.int .u64 (R : Int))).drew := ⟨_, rfl⟩
    have hmV : MRow V s a R := by rw [hV]; exact MRow.set1 hm0 R
    have hRV : MRow V (s + 1) 0 0 := by rw [hV]; exact MRow.other hR _ _ (by simp)
    have hBV : Below w.heap.size w V := by rw [hV]; exact below_drew (below_set hB _ _ (by rw [hs]; exact Nat.le_refl _))
    have HW0 := Lib.hid hW0
    have HS := Lib.hid hs
    have HV := Lib.hid hV
    have c0 := hm0.cell1
    have f0 := hm0.frozen 1
    have v0 := hmV.cell0
    have v1 := hmV.cell1
    have r0 := hRV.cell0
    have r1 := hRV.cell1
    have g0 := hRV.frozen 0
    have g1 := hRV.frozen 1
    obtain ⟨e0, e1, hbE⟩ := res2 a R hRV hBV (by omega)
    have HBE := Lib.hid hbE
    clear hs hW0 hB hm0 hR h hV hmV hRV hBV hbE
    go_enter Tryz.func132, Tryz.ntmps132
    go_wp2
    rw [show (w.alloc (.cells #[.int .u64 (a : Int), .int .u64 (b : Int)] 93)).alloc (.cells #[.int .u64 0, .int .u64 0] 93) = W0 from HW0.out.symm, ← HS.out]
    refine wp_region_still_tail 9 (by kernel_rfl) (by kernel_rfl) ?_
    simp only [List.take_succ_cons, List.take_zero, List.drop_succ_cons, List.drop_zero]
    change wpStill _ _ W0.drew _ _ _
    still_step
    still_step
    still_step
    still_step
    still_step
    still_step
    still_step
    still_step
    still_step
    refine wpStill_nil ?_
    change wpList _ _ _ _ _ W0.drew
    go_wp2_with (rw [← HV.out])
    go_wp2
    refine bodyPost_ret (v := .agg #[.int .u64 (a : Nat), .int .u64 (R : Nat)]) (by simp [results, Tryz.results132, go_sem, e0, e1]) rfl ?_
    rw [HF.out]
    exact ⟨rfl, HBE.out⟩

end MskL
end Go.Proofs.YtcekgllahlhaaaaGreat

namespace Go.Proofs.YtcekgllahlhaaaaGreat
namespace MskL
open Go.RowKit Go.Shelf
set_option linter.unusedVariables false
set_option linter.unusedSimpArgs false
set_option maxRecDepth 100000

def hasI (m : Mk) (n : Int) : Bool := slotB n && has m n.toNat
theorem bit_and (a r : Nat) : (a / 2 ^ r &&& 1 = 1) = (a.testBit r = true) := by
  rw [nat_mask1]
  have : a.testBit r = decide (a / 2 ^ r % 2 = 1) := by rw [Nat.testBit_eq_decide_div_mod_eq]
  rw [this]
  simp

set_option maxHeartbeats 2000000 in
theorem rHas_any (m : Mk) (n : Int) (w : World) (h : Fine m) (hn : -9223372036854775808 ≤ n ∧ n ≤ 9223372036854775807) :
    Calls Tryz.prog 74 #[mv m, .int .i64 n] w fun e w' => e = .returned (.bool (hasI m n)) ∧ Below w.heap.size w w' := by
  have HI := Lib.hid (fun W => rSlot_any n W)
  have HB := Lib.hid (mbox_world w m).1
  cases hs : slotB n with
  | false =>
    have HF := Lib.hid (show hasI m n = false by unfold hasI; rw [hs]; rfl)
    rw [hs] at HI
    clear hs h
    unfold mv
    go_enter Tryz.func74, Tryz.ntmps74
    go_wp2_with fail
    refine (HI.out _).mono ?_
    rintro e w2 ⟨rfl, rfl⟩
    go_wp2
    go_ret
    rw [HF.out]
    exact ⟨rfl, HB.out⟩
  | true =>
    obtain ⟨h0, h96⟩ := slotB_yes hs
    obtain ⟨k, rfl⟩ := Int.eq_ofNat_of_zero_le h0
    rw [hs] at HI
    obtain ⟨a, b⟩ := m
    by_cases h64 : k < 64
    · have q0 : (k : Int).tdiv 64 = 0 := by rw [Int.tdiv_eq_ediv_of_nonneg (by omega)]; omega
      have q1 : (k : Int).tmod 64 = k := by rw [Int.tmod_eq_emod_of_nonneg (by omega)]; omega
      have hw0 : IntKind.i64.wrap 0 = 0 := rfl
      have hmin : min k 64 = k := Nat.min_eq_left (by omega)
      obtain ⟨Q, hQ⟩ : ∃ Q, Q = (a / 2 ^ k &&& 1) := ⟨_, rfl⟩
      have hand : bits .and .u64 ((a : Int) / 2 ^ k) 1 = (Q : Int) := by
        have := u64_and_nat (a / 2 ^ k) 1 (Nat.lt_of_le_of_lt (Nat.div_le_self _ _) h.1) (by decide)
        rw [← hQ] at this
        simpa using this
      have HF := Lib.hid (show hasI (a, b) k = decide (Q = 1) by
        unfold hasI has
        rw [hs, if_pos (by omega), Bool.eq_iff_iff, decide_eq_true_iff, hQ, bit_and]
        simp)
      clear hs h hQ hn
      unfold mv
      go_enter Tryz.func74, Tryz.ntmps74
      go_wp2_with fail
      refine (HI.out _).mono ?_
      rintro e w2 ⟨rfl, rfl⟩
      go_wp2
      go_ret
      rw [HF.out]
      refine ⟨?_, HB.out⟩
      show Ending.returned (Value.bool ((Q : Int) == 1)) = _
      congr 2
      rw [Bool.eq_iff_iff]
      simp
      omega
    · obtain ⟨r, hr⟩ : ∃ r, r = k - 64 := ⟨_, rfl⟩
      have hr64 : r < 64 := by omega
      have q0 : (k : Int).tdiv 64 = 1 := by rw [Int.tdiv_eq_ediv_of_nonneg (by omega)]; omega
      have q1 : (k : Int).tmod 64 = r := by rw [Int.tmod_eq_emod_of_nonneg (by omega)]; omega
      have hw0 : IntKind.i64.wrap 1 = 1 := rfl
      have hmin : min r 64 = r := Nat.min_eq_left (by omega)
      obtain ⟨Q, hQ⟩ : ∃ Q, Q = (b / 2 ^ r &&& 1) := ⟨_, rfl⟩
      have hand : bits .and .u64 ((b : Int) / 2 ^ r) 1 = (Q : Int) := by
        have := u64_and_nat (b / 2 ^ r) 1 (Nat.lt_of_le_of_lt (Nat.div_le_self _ _) h.2) (by decide)
        rw [← hQ] at this
        simpa using this
      have HF := Lib.hid (show hasI (a, b) k = decide (Q = 1) by
        unfold hasI has
        rw [hs, if_neg (by omega), Bool.eq_iff_iff, decide_eq_true_iff, hQ, bit_and, hr]
        simp; omega)
      clear hs h hQ hn h64 hr
      unfold mv
      go_enter Tryz.func74, Tryz.ntmps74
      go_wp2_with fail
      refine (HI.out _).mono ?_
      rintro e w2 ⟨rfl, rfl⟩
      go_wp2
      go_ret
      rw [HF.out]
      refine ⟨?_, HB.out⟩
      show Ending.returned (Value.bool ((Q : Int) == 1)) = _
      congr 2
      rw [Bool.eq_iff_iff]
      simp
      omega
end MskL
end Go.Proofs.YtcekgllahlhaaaaGreat

namespace Go.Proofs.YtcekgllahlhaaaaGreat
namespace MskL
open Go.RowKit Go.Shelf
set_option linter.unusedVariables false
set_option linter.unusedSimpArgs false
set_option maxRecDepth 100000

def slotsTo (m : Mk) (k : Nat) : List Nat := (List.range k).filter (has m)
theorem slotsTo_succ (m : Mk) (k : Nat) : slotsTo m (k + 1) = slotsTo m k ++ (if has m k then [k] else []) := by
  unfold slotsTo
  rw [List.range_succ, List.filter_append]
  cases h : has m k <;> simp [h]
theorem slotsTo_len (m : Mk) (k : Nat) : (slotsTo m k).length ≤ k := by
  unfold slotsTo
  exact Nat.le_trans (List.length_filter_le _ _) (by simp)
theorem hasI_nat (m : Mk) {k : Nat} (h : k < 96) : hasI m k = has m k := by
  unfold hasI slotB
  have h1 : (0 : Int) ≤ k := by omega
  have h2 : (k : Int) < 96 := by omega
  simp [h1, h2]

set_option maxHeartbeats 2000000 in
theorem rSlots_any (m : Mk) (w : World) (h : Fine m) :
    Calls Tryz.prog 108 #[mv m] w fun e w' => ∃ A c, e = .returned (.slice A (slots m).length c) ∧ OwnN w.heap.size w' A c (slots m) ∧ Below w.heap.size w w' := by
  have HH := Lib.hid (fun (k : Nat) (hk : k < 96) W => show Calls Tryz.prog 74 #[mv m, .int .i64 k] W (fun e w' => e = .returned (.bool (has m k)) ∧ Below W.heap.size W w') from by
    have := rHas_any m k W h (by omega)
    rw [hasI_nat m hk] at this
    exact this)
  obtain ⟨hb0, hm0⟩ := mbox_world w m
  obtain ⟨W0, hW0⟩ : ∃ W0, W0 = w.alloc (.cells #[.int .u64 m.1, .int .u64 m.2] 93) := ⟨_, rfl⟩
  rw [← hW0] at hb0 hm0
  have HK := Lib.hid (fun (X : World) (hX : Below W0.heap.size W0 X) => show X.cell? ⟨w.heap.size, 0, none⟩ = some (.int .u64 m.1) ∧ X.cell? ⟨w.heap.size, 1, none⟩ = some (.int .u64 m.2) from by
    have h := hm0.below hX hm0.lt
    exact ⟨h.cell0, h.cell1⟩)
  have HB0 := Lib.hid hb0
  have HW := Lib.hid hW0
  clear h hb0 hm0 hW0
  unfold mv at *
  go_enter Tryz.func108, Tryz.ntmps108
  go_wp2
  rw [show w.alloc (.cells #[.int .u64 m.1, .int .u64 m.2] 93) = W0 from HW.out.symm]
  go_loopw [3, 5] (fun v i wr => ∃ (k : Nat) (A1 : Option Addr) (c1 L : Nat), k ≤ 96 ∧ i = .int .i64 k ∧ v = .slice A1 L c1 ∧ L ≤ k ∧ Hid ((slotsTo m k).length = L ∧ OwnN W0.heap.size wr A1 c1 (slotsTo m k)) ∧ Hid (Below W0.heap.size W0 wr)) (fun _ i _ => 96 - (intOf i).toNat)
  case atStart => exact ⟨0, none, 0, 0, by omega, rfl, rfl, by omega, Lib.hid ⟨rfl, OwnN.nil _ _⟩, Lib.hid (Below.refl _ _)⟩
  case round =>
    obtain ⟨k, A1, c1, L, hk, rfl, rfl, hL, HO, HBr⟩ := hrel
    by_cases hkn : k < 96
    · obtain ⟨c0, c1'⟩ := HK.out wr HBr.out
      have HHk := Lib.hid (fun W => HH.out k hkn W)
      have hsucc := slotsTo_succ m k
      cases hh : has m k with
      | false =>
        rw [hh] at HHk hsucc
        have HS := Lib.hid (show slotsTo m (k + 1) = slotsTo m k by rw [hsucc]; simp)
        clear hh hsucc
        go_wp2_with fail
        refine (HHk.out _).mono ?_
        rintro e w2 ⟨rfl, hb2⟩
        have HB2 := Lib.hid (HBr.out.trans (hb2.mono HBr.out.size))
        have HO2 := Lib.hid (HO.out.2.below hb2)
        clear hb2
        go_wp2
        go_roundw
        case rel => exact ⟨k + 1, A1, c1, L, by omega, by go_num, rfl, by omega, Lib.hid (by rw [HS.out]; exact ⟨HO.out.1, HO2.out⟩), HB2⟩
        case measure => simp [intOf]; omega
      | true =>
        rw [hh] at HHk hsucc
        have HS := Lib.hid (show slotsTo m (k + 1) = slotsTo m k ++ [k] by rw [hsucc]; simp)
        clear hh hsucc
        go_wp2_with fail
        refine (HHk.out _).mono ?_
        rintro e w2 ⟨rfl, hb2⟩
        have HB2 := Lib.hid (HBr.out.trans (hb2.mono HBr.out.size))
        have HO2 := Lib.hid (HO.out.2.below hb2)
        have HL2 := Lib.hid HO.out.1
        have HBw := Lib.hid (HB0.out.trans (HB2.out.mono HB0.out.size))
        have HRow := Lib.hid (show w2.ownsRow W0.heap.size 3 1 (.slice A1 L c1) L ((slotsTo m k).map fun (k : Nat) => Value.int .i64 (k : Int)) from by have := HO2.out; unfold OwnN at this; rw [HL2.out] at this; exact this)
        clear hb2
        go_wp2_with (at_builtin; refine gapp_at rfl (.tmp 11) (.tmp 13) appN rfl W0.heap.size A1 c1 L _ rfl (HRow.out.alloc _) (some ⟨w2.heap.size, 0, none⟩) 1 1 [.int .i64 (k : Int)] rfl (Read.int (cell_new _ _ _ 0)) (by omega) (by have := HB2.out.size; simp; omega) ?_; intro A5 c5 w5 ho5 hg5 _; have HX := Lib.hid (HO2.out.app (k := k) ((Below.refl _ _).alloc (Nat.le_refl _) _) HB2.out.size HL2.out ho5 hg5); have HG5 := Lib.hid (show Below W0.heap.size W0 w5 from (HB2.out.alloc HB2.out.size _).grown hg5 (by have := HB2.out.size; simp; omega) (fun q hq => (HO2.out.low q hq).1)); clear ho5 hg5)
        go_roundw
        case rel => exact ⟨k + 1, A5, c5, L + 1, by omega, by go_num, rfl, by omega, Lib.hid (by rw [HS.out]; exact ⟨by rw [List.length_append, HL2.out]; rfl, HX.out.1⟩), HG5⟩
        case measure => simp [intOf]; omega
    · obtain rfl : k = 96 := by omega
      have HF := Lib.hid (show slotsTo m 96 = slots m from rfl)
      go_wp2
      go_ret
      have h1 := HO.out
      rw [HF.out] at h1
      exact ⟨A1, c1, by rw [h1.1]; rfl, h1.2.mono HB0.out.size, HB0.out.trans (HBr.out.mono HB0.out.size)⟩
end MskL
end Go.Proofs.YtcekgllahlhaaaaGreat

namespace Go.Proofs.YtcekgllahlhaaaaGreat
namespace MskL
open Go.RowKit Go.Shelf
set_option linter.unusedVariables false
set_option linter.unusedSimpArgs false
set_option maxRecDepth 100000

theorem ofM_with (l : List Int) {k : Nat} {x : Nat} (h : l[k]? = some (x : Int)) (hx : x < 96) : withW (ofM (l.take k)) x = ofM (l.take (k + 1)) := by
  have e : l.take (k + 1) = l.take k ++ [(x : Int)] := by rw [List.take_add_one, h]; rfl
  rw [e]
  unfold ofM
  rw [withW_mk _ hx]
  exact mk_congr (fun j hj => by
    rw [Bool.eq_iff_iff]
    simp only [Bool.or_eq_true, decide_eq_true_iff, List.mem_append, List.mem_singleton]
    exact or_congr Iff.rfl (by omega))

theorem two_world (w : World) : Below w.heap.size w ((w.alloc (.cells #[.int .u64 (0 : Nat), .int .u64 (0 : Nat)] 93)).alloc (.cells #[.int .u64 (0 : Nat), .int .u64 (0 : Nat)] 93)) ∧
    MRow ((w.alloc (.cells #[.int .u64 (0 : Nat), .int .u64 (0 : Nat)] 93)).alloc (.cells #[.int .u64 (0 : Nat), .int .u64 (0 : Nat)] 93)) w.heap.size 0 0 ∧ MRow ((w.alloc (.cells #[.int .u64 (0 : Nat), .int .u64 (0 : Nat)] 93)).alloc (.cells #[.int .u64 (0 : Nat), .int .u64 (0 : Nat)] 93)) (w.heap.size + 1) 0 0 := by
  refine ⟨((Below.refl _ w).alloc (Nat.le_refl _) _).alloc (by simp) _, (MRow.new w 0 0).below ((Below.refl _ _).alloc (Nat.le_refl _) _) (by simp), ?_⟩
  have := MRow.new (w.alloc (.cells #[.int .u64 (0 : Nat), .int .u64 (0 : Nat)] 93)) 0 0
  rwa [World.size_alloc] at this

set_option maxHeartbeats 4000000 in
theorem rOf_any (A : Option Addr) (c : Nat) (l : List Int) (w : World) (h : Vec .i64 w A c l) (hall : l.all slotB = true) :
    Calls Tryz.prog 107 #[.slice A l.length c] w fun e w' => e = .returned (mv (ofM l)) ∧ Below w.heap.size w w' := by
  obtain ⟨s, hs⟩ : ∃ s, s = w.heap.size := ⟨_, rfl⟩
  obtain ⟨n, hn⟩ : ∃ n, n = l.length := ⟨_, rfl⟩
  have hmn : (n : Int) ≤ 9223372036854775807 := by have := h.room; have := h.most; omega
  have hnc : n ≤ c := by have := h.room; omega
  have hcm : (c : Int) ≤ 9223372036854775807 := by have := h.most; omega
  obtain ⟨hB, hR, hm0⟩ := two_world w
  obtain ⟨W0, hW0⟩ : ∃ W0, W0 = (w.alloc (.cells #[.int .u64 (0 : Nat), .int .u64 (0 : Nat)] 93)).alloc (.cells #[.int .u64 (0 : Nat), .int .u64 (0 : Nat)] 93) := ⟨_, rfl⟩
  rw [← hW0] at hB hR hm0
  rw [← hs] at hR hm0
  have HA := Lib.hid h
  have HN := Lib.hid hn
  have HS := Lib.hid hs
  have HB := Lib.hid hB
  have HR := Lib.hid hR
  have HM0 := Lib.hid (show MRow W0 (s + 1) (ofM (l.take 0)).1 (ofM (l.take 0)).2 from by rw [List.take_zero, ofM_nil]; exact hm0)
  have HW0 := Lib.hid hW0
  have HAll := Lib.hid hall
  obtain ⟨MF, hMF⟩ : ∃ M, M = ofM l := ⟨_, rfl⟩
  rw [← hn, ← hMF]
  have HMF := Lib.hid hMF
  clear hMF h hn hB hR hm0 hs hW0 hall
  go_enter Tryz.func107, Tryz.ntmps107
  go_wp2
  rw [show (w.alloc (.cells #[.int .u64 0, .int .u64 0] 93)).alloc (.cells #[.int .u64 0, .int .u64 0] 93) = W0 from HW0.out.symm, ← HS.out]
  go_loopw [8] (fun i wr => ∃ (k : Nat), k ≤ n ∧ i = .int .i64 k ∧ Hid (Below w.heap.size w wr) ∧ Hid (MRow wr s 0 0) ∧ Hid (MRow wr (s + 1) (ofM (l.take k)).1 (ofM (l.take k)).2)) (fun i _ => n - (intOf i).toNat)
  case atStart => exact ⟨0, by omega, rfl, HB, HR, HM0⟩
  case round =>
    obtain ⟨k, hk, rfl, HW, HRr, HMr⟩ := hrel
    by_cases hkn : k < n
    · obtain ⟨b, o, rfl, hb, hcell⟩ := (HA.out.below HW.out).at_ (j := k) (by rw [← HN.out]; exact hkn)
      obtain ⟨x, hx⟩ : ∃ x, l[k]? = some x := ⟨_, List.getElem?_eq_getElem (by rw [← HN.out]; exact hkn)⟩
      have hxg : l.getD k 0 = x := by simp [List.getD, hx]
      rw [hxg] at hcell
      obtain ⟨hx0, hx96⟩ := slotB_yes (List.all_eq_true.1 HAll.out x (List.mem_of_getElem? hx))
      obtain ⟨y, rfl⟩ := Int.eq_ofNat_of_zero_le hx0
      obtain ⟨Mk0, hMk0⟩ : ∃ M, M = ofM (l.take k) := ⟨_, rfl⟩
      obtain ⟨Mk1, hMk1⟩ : ∃ M, M = ofM (l.take (k + 1)) := ⟨_, rfl⟩
      have hm := HMr.out
      have hr := HRr.out
      rw [← hMk0] at hm
      have HWi := Lib.hid (fun W => show Calls Tryz.prog 132 #[mv Mk0, .int .i64 y] W (fun e w' => e = .returned (mv Mk1) ∧ Below W.heap.size W w') from by
        have := rwith_any Mk0 y W (by rw [hMk0]; exact mk_fine _) (by omega)
        rw [show withW Mk0 y = Mk1 from by rw [hMk0, hMk1]; exact ofM_with l hx (by omega)] at this
        exact this)
      have c0 := hm.cell0
      have c1 := hm.cell1
      have HG := Lib.hid (fun (X : World) (hX : Below wr.heap.size wr X) => And.intro (hm.below hX hm.lt) (And.intro (hr.below hX hr.lt) (HW.out.trans (hX.mono HW.out.size))))
      have HMk1 := Lib.hid hMk1
      have k0 : (0 : Int) ≤ k := by omega
      have kn : (k : Int) < n := by omega
      clear hx hxg hx0 hx96 hMk0 hMk1 hm hr hb
      unfold mv at HWi
      go_wp2_with fail
      refine (HWi.out _).mono ?_
      rintro e w2 ⟨rfl, hb2⟩
      obtain ⟨hm3, hr3, hbw3⟩ := HG.out w2 hb2
      have HM3 := Lib.hid hm3
      have HR3 := Lib.hid hr3
      have HB3 := Lib.hid hbw3
      have r0 := hm3.cell0
      have r1 := hm3.cell1
      have f0 := hm3.frozen 0
      have f1 := hm3.frozen 1
      clear hm3 hr3 hbw3 hb2
      go_wp2
      go_roundw
      case rel =>
        refine ⟨k + 1, by omega, by go_num, Lib.hid (below_set (below_set HB3.out _ _ (by rw [HS.out]; simp)) _ _ (by rw [HS.out]; simp)), Lib.hid ((HR3.out.other _ _ (by simp)).other _ _ (by simp)), Lib.hid ?_⟩
        rw [← HMk1.out]
        exact (HM3.out.set0 _).set1 _
      case measure => simp [intOf]; omega
    · obtain rfl : k = n := by omega
      have hm := HMr.out
      rw [show l.take k = l by rw [HN.out, List.take_length]] at hm
      have hr := HRr.out
      rw [← HMF.out] at hm
      obtain ⟨⟨c0, c1, f0, f1⟩, e0', e1', hbE⟩ := mask_end (M := MF) hr HW.out (by rw [HS.out]; exact Nat.le_refl _)
      have m0 := hm.cell0
      have m1 := hm.cell1
      have HBE := Lib.hid hbE
      clear hm hr hbE
      go_wp2
      refine bodyPost_ret (v := .agg #[.int .u64 MF.1, .int .u64 MF.2]) (by simp [results, Tryz.results107, go_sem, e0', e1']) rfl ?_
      exact ⟨rfl, HBE.out⟩

/-- The slots of a mask, as numbers. -/
def slotsI (m : Mk) : List Int := (slots m).map fun (k : Nat) => (k : Int)
theorem slots_mem {m : Mk} {k : Nat} : k ∈ slots m ↔ has m k = true := by
  unfold slots
  rw [List.mem_filter, List.mem_range]
  exact ⟨fun h => h.2, fun h => ⟨has_lt h, h⟩⟩
theorem slotsI_len (m : Mk) : (slotsI m).length = (slots m).length := by simp [slotsI]
theorem slotsI_all (m : Mk) : (slotsI m).all slotB = true := by
  rw [List.all_eq_true]
  intro x hx
  obtain ⟨k, hk, rfl⟩ := List.mem_map.1 hx
  have := has_lt (slots_mem.1 hk)
  unfold slotB
  simp; omega
theorem ofM_slots (m : Mk) : ofM (slotsI m) = mk (has m) := by
  unfold ofM
  refine mk_congr (fun k hk => ?_)
  rw [Bool.eq_iff_iff, decide_eq_true_iff, ← slots_mem]
  simp only [slotsI, List.mem_map]
  refine ⟨fun ⟨a, h, e⟩ => ?_, fun h => ⟨k, h, rfl⟩⟩
  have : a = k := by omega
  subst this
  exact h
theorem OwnN.slots {base : Nat} {w : World} {A : Option Addr} {c : Nat} {m : Mk} (h : OwnN base w A c (slots m)) : Vec .i64 w A c (slotsI m) :=
  h.vec (fun k hk => by have := has_lt (slots_mem.1 hk); omega)

set_option maxHeartbeats 2000000 in
theorem rRight_any (m : Mk) (w : World) (h : Fine m) :
    Calls Tryz.prog 73 #[mv m] w fun e w' => e = .returned (.bool (rightM m)) ∧ Below w.heap.size w w' := by
  obtain ⟨M, hM⟩ : ∃ M, M = mk (has m) := ⟨_, rfl⟩
  have HSl := Lib.hid (fun W => rSlots_any m W h)
  have HOf := Lib.hid (fun (W : World) (A : Option Addr) (c : Nat) (hv : Vec .i64 W A c (slotsI m)) => show Calls Tryz.prog 107 #[.slice A (slots m).length c] W (fun e w' => e = .returned (mv M) ∧ Below W.heap.size W w') from by
    have := rOf_any A c (slotsI m) W hv (slotsI_all m)
    rw [slotsI_len, ofM_slots, ← hM] at this
    exact this)
  obtain ⟨hb0, hm0⟩ := mbox_world w m
  obtain ⟨w1, hw1⟩ : ∃ w1, w1 = w.alloc (.cells #[.int .u64 m.1, .int .u64 m.2] 93) := ⟨_, rfl⟩
  rw [← hw1] at hb0 hm0
  have HK := Lib.hid (fun (X : World) (hX : Below w1.heap.size w1 X) => show X.cell? ⟨w.heap.size, 0, none⟩ = some (.int .u64 m.1) ∧ X.cell? ⟨w.heap.size, 1, none⟩ = some (.int .u64 m.2) from by
    have h := hm0.below hX hm0.lt
    exact ⟨h.cell0, h.cell1⟩)
  have HB0 := Lib.hid hb0
  have HW1 := Lib.hid hw1
  have HE := Lib.hid (show decide (M = m) = rightM m from by unfold rightM; rw [hM, Bool.eq_iff_iff]; simp [eq_comm])
  have heq := fun W => eqM M m W
  clear hM hb0 hm0 hw1 h
  unfold mv at *
  generalize decide (M = m) = R at *
  generalize (slots m).length = n at *
  obtain ⟨c0, c1⟩ := HK.out w1 (Below.refl _ _)
  go_enter Tryz.func73, Tryz.ntmps73
  go_wp2_with (rw [← HW1.out])
  go_region_held3 (fun X => X.cell? ⟨w.heap.size, 0, none⟩ = some (.int .u64 m.1) ∧ X.cell? ⟨w.heap.size, 1, none⟩ = some (.int .u64 m.2))
    (first | (with_reducible assumption) | (with_reducible exact HK.out _ (below_drew (Below.refl _ _))) | (with_reducible exact HK.out _ HC2.out) | (with_reducible exact HK.out _ HC3.out))
    (first
    | (go_at_call 108; (with_reducible refine (HSl.out w1.drew).mono ?_); rintro e w2 ⟨A2, c2, rfl, ho2, hb2⟩; have HC2 := Lib.hid (show Below w1.heap.size w1 w2 from (below_drew (Below.refl _ w1)).trans hb2); have HO2 := Lib.hid ho2.slots; clear hb2 ho2)
    | (go_at_call 107; (refine (HOf.out w2 _ _ HO2.out).mono ?_); rintro e w3 ⟨rfl, hb3⟩; have HC3 := Lib.hid (HC2.out.trans (hb3.mono HC2.out.size)); clear hb3))
  go_wp2
  go_ret
  rw [← HE.out]
  exact ⟨rfl, HB0.out.trans (HC3.out.mono HB0.out.size)⟩
end MskL
end Go.Proofs.YtcekgllahlhaaaaGreat

namespace Go.Proofs.YtcekgllahlhaaaaGreat
namespace MskL
open Go.RowKit Go.Shelf
set_option linter.unusedVariables false
set_option linter.unusedSimpArgs false
set_option maxRecDepth 100000

theorem withW_right {m : Mk} (h : rightM m = true) {n : Nat} (hn : n < 96) : withW m n = withM m n := by
  have e : m = mk (has m) := by unfold rightM at h; exact of_decide_eq_true h
  unfold withM
  rw [e, withW_mk _ hn]
  refine mk_congr (fun k hk => ?_)
  have e2 : has (mk (has m)) k = has m k := by rw [has_mk]; simp [hk]
  rw [e2, Bool.eq_iff_iff]
  simp only [Bool.or_eq_true, decide_eq_true_iff]
  exact or_congr Iff.rfl (by omega)

theorem slotsI_get (m : Mk) {k : Nat} (hk : k < (slots m).length) : ∃ x, (slots m)[k]? = some x ∧ (slotsI m).getD k 0 = (x : Int) ∧ x < 96 ∧ has m x = true := by
  have h := List.getElem?_eq_getElem hk
  refine ⟨(slots m)[k], h, ?_, has_lt (slots_mem.1 (List.getElem_mem hk)), slots_mem.1 (List.getElem_mem hk)⟩
  simp [slotsI, List.getD, List.getElem?_map, h]
theorem take_mem_snoc {l : List Nat} {k x j : Nat} (h : l[k]? = some x) : j ∈ l.take (k + 1) ↔ (j ∈ l.take k ∨ j = x) := by
  rw [List.take_add_one, h]; simp

theorem turn_sets {g : Nat} {w W : World} (h : Turn (fun i => i = g) w W) (u v : Value) : Turn (fun i => i = g) w ((W.setCell ⟨g, 0, none⟩ u).setCell ⟨g, 1, none⟩ v) := by
  refine ⟨h.os, h.tape, h.output, by have := h.size; simp [World.setCell]; exact this, fun k hk hn => ?_⟩
  rw [Below.heap_setCell _ _ _ _ hn, Below.heap_setCell _ _ _ _ hn]
  exact h.block k hk hn
theorem _root_.Go.Proofs.YtcekgllahlhaaaaGreat.Turn.then_below {S : Nat → Prop} {w W W' : World} (h : Turn S w W) (hb : Below W.heap.size W W') : Turn S w W' := h.trans (Turn.of_below (S := fun _ => False) hb) (fun i hi => hi.elim)
theorem MRow.turn {S : Nat → Prop} {w W : World} {g a b : Nat} (h : MRow w g a b) (ht : Turn S w W) (hg : ¬ S g) : MRow W g a b := (ht.block g h.lt hg).trans h
theorem OwnN.turn {S : Nat → Prop} {base : Nat} {w w' : World} {A : Option Addr} {c : Nat} {l : List Nat} (h : OwnN base w A c l) (ht : Turn S w w') (hS : ∀ i, base ≤ i → ¬ S i) : OwnN base w' A c l := row_turn h ht (fun i hi => hS i (h.lt i hi).1)
theorem mk_none (f : Nat → Bool) (h : ∀ k, f k = false) : mk f = (0, 0) := by rw [← ofM_nil]; exact mk_congr (fun k hk => by rw [h]; simp)
/-- What answers a mask: a round of 'out = with(out, n)'. -/
theorem with_step (f : Nat → Bool) (x : Nat) (hx : x < 96) (W : World) : Calls Tryz.prog 132 #[mv (mk f), .int .i64 x] W (fun e w' => e = .returned (mv (mk fun k => f k || decide (k = x))) ∧ Below W.heap.size W w') := by
  have := rwith_any (mk f) x W (mk_fine _) hx
  rw [withW_mk f hx] at this
  exact this

end MskL
end Go.Proofs.YtcekgllahlhaaaaGreat

namespace Go.Proofs.YtcekgllahlhaaaaGreat
namespace MskL
open Go.RowKit Go.Shelf
set_option linter.unusedVariables false
set_option linter.unusedSimpArgs false
set_option maxRecDepth 100000

theorem all_snoc {α : Type} (p : α → Bool) (l : List α) {k : Nat} {x : α} (h : l[k]? = some x) : (l.take (k + 1)).all p = ((l.take k).all p && p x) := all_take_snoc p l h
theorem any_snoc {α : Type} (p : α → Bool) (l : List α) {k : Nat} {x : α} (h : l[k]? = some x) : (l.take (k + 1)).any p = ((l.take k).any p || p x) := by
  rw [List.take_add_one, h]; simp

end MskL
end Go.Proofs.YtcekgllahlhaaaaGreat
