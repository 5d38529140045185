/-
  MskApp, MskR, MskR2, MskR3, MskR4, MskR5, MskR6.
-/
import Derived.Test.YtcekgllahlhaaaaGreatDoorMMsk
import Derived.Deep.RegionLaw
import Derived.Deep.Onto
import Derived.Maps.AppendAt
import Derived.Deep.RegionHeld3
namespace Go.Proofs.YtcekgllahlhaaaaGreatDoor
namespace MskL
open Go.RowKit Go.Shelf
set_option linter.unusedVariables false
set_option linter.unusedSimpArgs false
set_option maxRecDepth 100000

theorem row_turn {S : Nat → Prop} {w w' : World} {base : Nat} {e : TypeId} {size : Nat} {v : Value} {n : Nat} {xs : List Value} (h : w.ownsRow base e size v n xs) (ht : Turn S w w') (hS : ∀ i, v.ownBlock = some i → ¬ S i) : w'.ownsRow base e size v n xs := by
  rcases h.2 with ⟨e', h0⟩ | ⟨g, cap, cur, e', hg, hh, hnc, hcm, hsz, hcs⟩
  · exact ⟨h.1, .inl ⟨e', h0⟩⟩
  · refine ⟨h.1, .inr ⟨g, cap, cur, e', hg, (ht.block _ (lt_of_block hh) (hS g ?_)).trans hh, hnc, hcm, hsz, hcs⟩⟩
    rw [e']; rfl
/-! ### append -/
def blk (A : Option Addr) : Option Nat := A.map (·.block)
theorem own_blk (A : Option Addr) (n c : Nat) : (Value.slice A n c).ownBlock = blk A := by cases A <;> rfl
theorem own_form2 {w : World} {base : Nat} {e : TypeId} {size : Nat} {v : Value} {n : Nat} {xs : List Value} (h : w.ownsRow base e size v n xs) : ∃ A c, v = .slice A n c ∧ (A = none ∨ ∃ g, A = some ⟨g, 0, none⟩ ∧ base ≤ g ∧ g < w.heap.size) := by
  rcases h.2 with ⟨rfl, h0⟩ | ⟨g, cap, cur, rfl, hg, hh, _⟩
  · exact ⟨none, 0, by rw [h0], .inl rfl⟩
  · exact ⟨_, cap, rfl, .inr ⟨g, rfl, hg, lt_of_block hh⟩⟩
/-- A slice's type to which one appends: its element, that one's size in cells, its bytes. -/
def AppT (P : Program) (t e : TypeId) (size bytes : Nat) : Prop := P.underlying t = some (.slice e) ∧ ∃ i z, P.info? e = some i ∧ i.zero = some z ∧ i.size = size ∧ i.bytes = bytes ∧ z.cells.size = size ∧ 0 < size ∧ bytes ≤ 100
theorem appN : AppT Tryz.prog 53 3 1 8 := ⟨Tryz.underlying53, (Tryz.prog.info? 3).get (by kernel_rfl), .int .i64 0, (Option.some_get _).symm, by kernel_rfl, by kernel_rfl, by kernel_rfl, rfl, by decide, by decide⟩

/-- What is appended can be read. -/
def Read (w : World) (A : Option Addr) (m size : Nat) (news : List Value) : Prop := news.length = m * size ∧ (∀ u ∈ news, u.oneCell' = true) ∧ (A = none → m = 0) ∧ ∀ b, A = some b → ∀ j u, news[j]? = some u → w.cell? (b.add j) = some u
theorem Read.vec {w : World} {A : Option Addr} {c : Nat} {xs : List Int} {k : IntKind} (h : Vec k w A c xs) : Read w A xs.length 1 (xs.map (Value.int k)) := by
  refine ⟨by simp, by simp; intro x _; rfl, fun e => ?_, fun b e j u hj => ?_⟩
  · rcases Nat.eq_zero_or_pos xs.length with h0 | h0
    · exact h0
    · obtain ⟨b, o, e', _⟩ := h.rd h0; rw [e] at e'; cases e'
  · have hl : j < xs.length := by have := (List.getElem?_eq_some_iff.1 hj).1; simpa using this
    obtain ⟨b', o, e', _, hc⟩ := h.rd (by omega)
    rw [e] at e'
    injection e' with e'
    subst e'
    rw [Addr.add_lit, hc j hl, ← hj]
    simp [List.getD, hl]
theorem Read.int {w : World} {g o : Nat} {k : Int} (h0 : w.cell? ⟨g, o, none⟩ = some (.int .i64 k)) : Read w (some ⟨g, o, none⟩) 1 1 [.int .i64 k] := by
  refine ⟨rfl, by simp; rfl, (fun e => by cases e), fun b e j u hj => ?_⟩
  injection e with e
  subst e
  rw [Addr.add_lit]
  match j, hj with
  | 0, hj => simp at hj; rw [Nat.add_zero, h0, hj]
  | j + 1, hj => simp at hj

theorem run_gapp {w : World} {t e : TypeId} {size bytes : Nat} (hT : AppT Tryz.prog t e size bytes) (ty : TypeId) (base : Nat) (A0 : Option Addr) (c0 n : Nat) (xs : List Value) (hown : w.ownsRow base e size (.slice A0 n c0) n xs)
    (A : Option Addr) (c m : Nat) (news : List Value) (hr : Read w A m size news) (hbig : n + m ≤ 1099511627776) (hbase : base ≤ w.heap.size) :
    ∃ A1 c1 w', (Builtin.append_ #[t, t] ty #[.slice A0 n c0, .slice A m c]).run Tryz.prog w = .ok (.slice A1 (n + m) c1) w' ∧ w'.ownsRow base e size (.slice A1 (n + m) c1) (n + m) (xs ++ news) ∧ w.grownBy w' (blk A0) ∧ (blk A1 = blk A0 ∨ blk A1 = some w.heap.size) := by
  obtain ⟨ht, i0, z, hi, hz0, hz1, hz2, hz3, hz4, hz5⟩ := hT
  obtain ⟨hl, h1, hn, hrd⟩ := hr
  have hb : (n + m) * bytes ≤ 140737488355328 := by
    have : (n + m) * bytes ≤ 1099511627776 * 100 := Nat.mul_le_mul hbig hz5
    omega
  rcases A with _ | ad
  · obtain rfl := hn rfl
    obtain rfl : news = [] := List.eq_nil_of_length_eq_zero (by simpa using hl)
    refine ⟨A0, c0, w, ?_, by simpa using hown, World.grownBy.refl _ _, .inl rfl⟩
    rcases hown.2 with ⟨e1, rfl⟩ | ⟨g, cap, cur, e1, _, _, hnc, _⟩
    · injection e1 with e1 _ e3
      subst e1
      subst e3
      simp [Builtin.append_, run_underlying ht, sizeOf, typeInfo, hi, Builtin.lenOf, Builtin.firstCells]
    · injection e1 with e1 _ e3
      subst e1
      subst e3
      simp [Builtin.append_, run_underlying ht, sizeOf, typeInfo, hi, Builtin.lenOf, Builtin.firstCells, hnc, storeCells]
  · obtain ⟨v', w', hrun, h1, h2, h3, h4⟩ := run_append_own_at (P := Tryz.prog) w base t ty e i0 z size bytes ht hi hz0 hz1 hz2 hz3 hz4 _ n xs hown ad m c news hl (hrd ad rfl) h1 (by unfold maxLen; omega) hb hbase
    obtain ⟨A1, c1, rfl, _⟩ := own_form2 h1
    rw [own_blk] at h2 h4
    rw [own_blk] at h4
    exact ⟨A1, c1, w', hrun, h1, h2, h4⟩

theorem gapp_at {w : World} {ops : Array Oper} {rest : List Oper} {o : Oper} {a : Act} {Q : Exit → Act → World → Prop} (hgd : o.guard = none) (s x : Operand) {t e : TypeId} {size bytes : Nat} (hT : AppT Tryz.prog t e size bytes)
    (ho : o.op = .call { callee := .builtin .append, args := #[s, x], argTypes := #[t, t] })
    (base : Nat) (A0 : Option Addr) (c0 n : Nat) (xs : List Value) (hs : a.eval s = .slice A0 n c0) (hown : w.ownsRow base e size (.slice A0 n c0) n xs)
    (A : Option Addr) (c m : Nat) (news : List Value) (hx : a.eval x = .slice A m c) (hr : Read w A m size news) (hbig : n + m ≤ 1099511627776) (hbase : base ≤ w.heap.size)
    (h : ∀ A1 c1 w', w'.ownsRow base e size (.slice A1 (n + m) c1) (n + m) (xs ++ news) → w.grownBy w' (blk A0) → (blk A1 = blk A0 ∨ blk A1 = some w.heap.size) → wpList Tryz.prog ops Q rest (a.put o.dst (.slice A1 (n + m) c1)) w') : wpList Tryz.prog ops Q (o :: rest) a w := by
  refine wpList_plain hgd fun K hK => ?_
  obtain ⟨A1, c1, w', hrun, h1, h2, h3⟩ := run_gapp hT o.type base A0 c0 n xs hown A c m news hr hbig hbase
  unfold Oper.wp
  simp [execOp, ho, resolve, invoke, builtin, hs, hx, hrun, Result.andThen]
  exact hK _ _ (h A1 c1 w' h1 h2 h3)

/-- .. as a step of a region that draws. -/
theorem gapp_step {w : World} {ops : Array Oper} {o : Oper} {a : Act} {K : Act → World → Prop} {Q : Exit → Act → World → Prop} {E : Prop} (hgd : o.guard = none) (s x : Operand) {t e : TypeId} {size bytes : Nat} (hT : AppT Tryz.prog t e size bytes)
    (ho : o.op = .call { callee := .builtin .append, args := #[s, x], argTypes := #[t, t] })
    (base : Nat) (A0 : Option Addr) (c0 n : Nat) (xs : List Value) (hs : a.eval s = .slice A0 n c0) (hown : w.ownsRow base e size (.slice A0 n c0) n xs)
    (A : Option Addr) (c m : Nat) (news : List Value) (hx : a.eval x = .slice A m c) (hr : Read w A m size news) (hbig : n + m ≤ 1099511627776) (hbase : base ≤ w.heap.size)
    (h : ∀ A1 c1 w', w'.ownsRow base e size (.slice A1 (n + m) c1) (n + m) (xs ++ news) → w.grownBy w' (blk A0) → (blk A1 = blk A0 ∨ blk A1 = some w.heap.size) → K (a.put o.dst (.slice A1 (n + m) c1)) w') :
    if Region.wanted o (yielded ops a.tmps) = true then Oper.wp Tryz.prog o a w K Q else E := by
  have hw : Region.wanted o (yielded ops a.tmps) = true := by simp [Region.wanted, hgd]
  rw [if_pos hw]
  obtain ⟨A1, c1, w', hrun, h1, h2, h3⟩ := run_gapp hT o.type base A0 c0 n xs hown A c m news hr hbig hbase
  unfold Oper.wp
  simp [execOp, ho, resolve, invoke, builtin, hs, hx, hrun, Result.andThen]
  exact h A1 c1 w' h1 h2 h3

/-- .. in a fenced walk. -/
theorem gapp_in {F : Fence} {nn : Nat} {w : World} {ops : Array Oper} {rest : List Oper} {o : Oper} {a : Act} {Q : Exit → Act → World → Prop} (hgd : o.guard = none) (s x : Operand) {t e : TypeId} {size bytes : Nat} (hT : AppT Tryz.prog t e size bytes)
    (ho : o.op = .call { callee := .builtin .append, args := #[s, x], argTypes := #[t, t] })
    (base : Nat) (A0 : Option Addr) (c0 n : Nat) (xs : List Value) (hs : a.eval s = .slice A0 n c0) (hown : w.ownsRow base e size (.slice A0 n c0) n xs)
    (A : Option Addr) (c m : Nat) (news : List Value) (hx : a.eval x = .slice A m c) (hr : Read w A m size news) (hbig : n + m ≤ 1099511627776) (hbase : base ≤ w.heap.size)
    (h : ∀ A1 c1 w', w'.ownsRow base e size (.slice A1 (n + m) c1) (n + m) (xs ++ news) → w.grownBy w' (blk A0) → (blk A1 = blk A0 ∨ blk A1 = some w.heap.size) → wpListIn F nn Tryz.prog ops Q rest (a.put o.dst (.slice A1 (n + m) c1)) w') : wpListIn F nn Tryz.prog ops Q (o :: rest) a w := by
  refine wpListIn_plain hgd fun K hK' => ?_
  obtain ⟨A1, c1, w', hrun, h1, h2, h3⟩ := run_gapp hT o.type base A0 c0 n xs hown A c m news hr hbig hbase
  unfold Oper.wpIn
  refine ⟨?_, ?_⟩
  · simp [Oper.about, ho, resolve, Target.leads, Sem.run_pure]
  · rw [Oper.semAt_plain F _ _ (by rw [ho]; intro c hc'; cases hc')]
    simp [execOp, ho, resolve, invoke, builtin, hs, hx, hrun, Result.andThen]
    exact hK' _ _ (h A1 c1 w' h1 h2 h3)

set_option maxHeartbeats 400000 in

theorem grown_below {w w' : World} {B : Nat} {A : Option Addr} (hg : w.grownBy w' (blk A)) (hb : B ≤ w.heap.size) (hA : ∀ i, blk A = some i → B ≤ i) : Below B w w' :=
  (Turn.of_grown (S := fun i => blk A = some i) hg (fun i hi => .inl hi)).below hb hA
/-- Numbers of the call's own. -/
def OwnN (base : Nat) (w : World) (A : Option Addr) (c : Nat) (l : List Nat) : Prop := w.ownsRow base 3 1 (.slice A l.length c) l.length (l.map fun (k : Nat) => Value.int .i64 (k : Int))
theorem OwnN.nil (base : Nat) (w : World) : OwnN base w none 0 [] := World.ownsRow_nil _ _ _ _
theorem OwnN.below {base : Nat} {w w' : World} {A : Option Addr} {c : Nat} {l : List Nat} (h : OwnN base w A c l) (hb : Below w.heap.size w w') : OwnN base w' A c l := row_turn h (Turn.of_below (S := fun _ => False) hb) (fun _ _ e => e)
theorem OwnN.mono {base b : Nat} {w : World} {A : Option Addr} {c : Nat} {l : List Nat} (h : OwnN base w A c l) (hb : b ≤ base) : OwnN b w A c l := World.ownsRow.mono h hb
theorem OwnN.vec {base : Nat} {w : World} {A : Option Addr} {c : Nat} {l : List Nat} (h : OwnN base w A c l) (hl : ∀ k ∈ l, k < 9223372036854775808) : Vec .i64 w A c (l.map fun (k : Nat) => (k : Int)) := by
  have h1 := h
  unfold OwnN at h1
  obtain ⟨A', c', e, hv⟩ := Vec.own (m := 0) (k := .i64) (xs := l.map fun (k : Nat) => (k : Int)) (v := .slice A l.length c) (e := 3) (base := base) (w := w) (by simpa [List.map_map, Function.comp_def] using h1) (fun x hx => by
    obtain ⟨k, hk, rfl⟩ := List.mem_map.1 hx
    have := hl k hk
    simp [Lit.wf, IntKind.min, IntKind.max, IntKind.signed, IntKind.bits]
    omega)
  injection e with e1 _ e2
  subst e1
  subst e2
  exact hv
theorem OwnN.low {base : Nat} {w : World} {A : Option Addr} {c : Nat} {l : List Nat} (h : OwnN base w A c l) : ∀ i, blk A = some i → base ≤ i ∧ i < w.heap.size := fun i hi => h.lt i (by rw [own_blk]; exact hi)
theorem OwnN.app {base c c5 n : Nat} {w V w' : World} {A A5 : Option Addr} {l : List Nat} {k : Nat} (h : OwnN base w A c l) (hV : Below w.heap.size w V) (hbs : base ≤ w.heap.size) (hn : l.length = n)
    (ho : w'.ownsRow base 3 1 (.slice A5 (n + 1) c5) (n + 1) ((l.map fun (k : Nat) => Value.int .i64 (k : Int)) ++ [.int .i64 (k : Int)])) (hg : V.grownBy w' (blk A)) : OwnN base w' A5 c5 (l ++ [k]) ∧ Below base w w' := by
  subst hn
  refine ⟨?_, (hV.mono hbs).trans (grown_below hg (Nat.le_trans hbs hV.size) (fun i hi => (h.low i hi).1))⟩
  unfold OwnN
  rw [List.length_append, List.map_append]
  exact ho
end MskL
end Go.Proofs.YtcekgllahlhaaaaGreatDoor

namespace Go.Proofs.YtcekgllahlhaaaaGreatDoor
namespace MskL
open Go.RowKit Go.Shelf
set_option linter.unusedVariables false
set_option linter.unusedSimpArgs false
set_option maxRecDepth 100000

/-- A mask and a slot, word by word. -/
def withW (m : Mk) (n : Nat) : Mk := if n < 64 then (m.1 ||| 2 ^ n, m.2) else (m.1, m.2 ||| 2 ^ (n - 64))
theorem withW_fine {m : Mk} (h : Fine m) {n : Nat} (hn : n < 96) : Fine (withW m n) := by
  unfold withW
  split
  · exact ⟨Nat.or_lt_two_pow (n := 64) h.1 (Nat.pow_lt_pow_right (by decide) (by omega)), h.2⟩
  · exact ⟨h.1, Nat.or_lt_two_pow (n := 64) h.2 (Nat.pow_lt_pow_right (by decide) (by omega))⟩
theorem withW_mk (f : Nat → Bool) {n : Nat} (hn : n < 96) : withW (mk f) n = mk (fun k => f k || decide (k = n)) := by
  unfold withW
  by_cases h : n < 64
  · rw [if_pos h]
    have e1 : (mk f).1 ||| 2 ^ n = wd (fun k => f k || decide (k = n)) 64 := by
      apply Nat.eq_of_testBit_eq
      intro i
      rw [Nat.testBit_or, Nat.testBit_two_pow, wd_bit]
      show ((wd f 64).testBit i || _) = _
      rw [wd_bit]
      by_cases hi : i < 64
      · simp [hi, eq_comm]
        try (congr 1; rw [Bool.eq_iff_iff]; simp; omega)
      · have hne : ¬ n = i := by omega
        simp [hi, hne]
        try omega
    have e2 : (mk f).2 = wd (fun j => f (64 + j) || decide (64 + j = n)) 32 := wd_congr (fun j hj => by
      have : decide (64 + j = n) = false := by simp; omega
      rw [this, Bool.or_false])
    rw [e1, e2]
    rfl
  · rw [if_neg h]
    have e1 : (mk f).1 = wd (fun k => f k || decide (k = n)) 64 := wd_congr (fun j hj => by
      have : decide (j = n) = false := by simp; omega
      rw [this, Bool.or_false])
    have e2 : (mk f).2 ||| 2 ^ (n - 64) = wd (fun j => f (64 + j) || decide (64 + j = n)) 32 := by
      apply Nat.eq_of_testBit_eq
      intro i
      rw [Nat.testBit_or, Nat.testBit_two_pow, wd_bit]
      show ((wd _ 32).testBit i || _) = _
      rw [wd_bit]
      by_cases hi : i < 32
      · simp [hi, eq_comm]
        try (congr 1; rw [Bool.eq_iff_iff]; simp; omega)
      · have hne : ¬ n = 64 + i := by omega
        simp [hi, hne]
        try omega
    rw [e1, e2]
    rfl

end MskL
end Go.Proofs.YtcekgllahlhaaaaGreatDoor

namespace Go.Proofs.YtcekgllahlhaaaaGreatDoor
namespace MskL
open Go.RowKit Go.Shelf
set_option linter.unusedVariables false
set_option linter.unusedSimpArgs false
set_option maxRecDepth 100000

def hasI (m : Mk) (n : Int) : Bool := slotB n && has m n.toNat
theorem bit_and (a r : Nat) : (a / 2 ^ r &&& 1 = 1) = (a.testBit r = true) := by
  rw [nat_mask1]
  have : a.testBit r = decide (a / 2 ^ r % 2 = 1) := by rw [Nat.testBit_eq_decide_div_mod_eq]
  rw [this]
  simp

end MskL
end Go.Proofs.YtcekgllahlhaaaaGreatDoor

namespace Go.Proofs.YtcekgllahlhaaaaGreatDoor
namespace MskL
open Go.RowKit Go.Shelf
set_option linter.unusedVariables false
set_option linter.unusedSimpArgs false
set_option maxRecDepth 100000

def slotsTo (m : Mk) (k : Nat) : List Nat := (List.range k).filter (has m)
theorem slotsTo_succ (m : Mk) (k : Nat) : slotsTo m (k + 1) = slotsTo m k ++ (if has m k then [k] else []) := by
  unfold slotsTo
  rw [List.range_succ, List.filter_append]
  cases h : has m k <;> simp [h]
theorem slotsTo_len (m : Mk) (k : Nat) : (slotsTo m k).length ≤ k := by
  unfold slotsTo
  exact Nat.le_trans (List.length_filter_le _ _) (by simp)
theorem hasI_nat (m : Mk) {k : Nat} (h : k < 96) : hasI m k = has m k := by
  unfold hasI slotB
  have h1 : (0 : Int) ≤ k := by omega
  have h2 : (k : Int) < 96 := by omega
  simp [h1, h2]

end MskL
end Go.Proofs.YtcekgllahlhaaaaGreatDoor

namespace Go.Proofs.YtcekgllahlhaaaaGreatDoor
namespace MskL
open Go.RowKit Go.Shelf
set_option linter.unusedVariables false
set_option linter.unusedSimpArgs false
set_option maxRecDepth 100000

theorem ofM_with (l : List Int) {k : Nat} {x : Nat} (h : l[k]? = some (x : Int)) (hx : x < 96) : withW (ofM (l.take k)) x = ofM (l.take (k + 1)) := by
  have e : l.take (k + 1) = l.take k ++ [(x : Int)] := by rw [List.take_add_one, h]; rfl
  rw [e]
  unfold ofM
  rw [withW_mk _ hx]
  exact mk_congr (fun j hj => by
    rw [Bool.eq_iff_iff]
    simp only [Bool.or_eq_true, decide_eq_true_iff, List.mem_append, List.mem_singleton]
    exact or_congr Iff.rfl (by omega))

theorem two_world (w : World) : Below w.heap.size w ((w.alloc (.cells #[.int .u64 (0 : Nat), .int .u64 (0 : Nat)] 70)).alloc (.cells #[.int .u64 (0 : Nat), .int .u64 (0 : Nat)] 70)) ∧
    MRow ((w.alloc (.cells #[.int .u64 (0 : Nat), .int .u64 (0 : Nat)] 70)).alloc (.cells #[.int .u64 (0 : Nat), .int .u64 (0 : Nat)] 70)) w.heap.size 0 0 ∧ MRow ((w.alloc (.cells #[.int .u64 (0 : Nat), .int .u64 (0 : Nat)] 70)).alloc (.cells #[.int .u64 (0 : Nat), .int .u64 (0 : Nat)] 70)) (w.heap.size + 1) 0 0 := by
  refine ⟨((Below.refl _ w).alloc (Nat.le_refl _) _).alloc (by simp) _, (MRow.new w 0 0).below ((Below.refl _ _).alloc (Nat.le_refl _) _) (by simp), ?_⟩
  have := MRow.new (w.alloc (.cells #[.int .u64 (0 : Nat), .int .u64 (0 : Nat)] 70)) 0 0
  rwa [World.size_alloc] at this

/-- The slots of a mask, as numbers. -/
def slotsI (m : Mk) : List Int := (slots m).map fun (k : Nat) => (k : Int)
theorem slots_mem {m : Mk} {k : Nat} : k ∈ slots m ↔ has m k = true := by
  unfold slots
  rw [List.mem_filter, List.mem_range]
  exact ⟨fun h => h.2, fun h => ⟨has_lt h, h⟩⟩
theorem slotsI_len (m : Mk) : (slotsI m).length = (slots m).length := by simp [slotsI]
theorem slotsI_all (m : Mk) : (slotsI m).all slotB = true := by
  rw [List.all_eq_true]
  intro x hx
  obtain ⟨k, hk, rfl⟩ := List.mem_map.1 hx
  have := has_lt (slots_mem.1 hk)
  unfold slotB
  simp; omega
theorem ofM_slots (m : Mk) : ofM (slotsI m) = mk (has m) := by
  unfold ofM
  refine mk_congr (fun k hk => ?_)
  rw [Bool.eq_iff_iff, decide_eq_true_iff, ← slots_mem]
  simp only [slotsI, List.mem_map]
  refine ⟨fun ⟨a, h, e⟩ => ?_, fun h => ⟨k, h, rfl⟩⟩
  have : a = k := by omega
  subst this
  exact h
theorem OwnN.slots {base : Nat} {w : World} {A : Option Addr} {c : Nat} {m : Mk} (h : OwnN base w A c (slots m)) : Vec .i64 w A c (slotsI m) :=
  h.vec (fun k hk => by have := has_lt (slots_mem.1 hk); omega)

end MskL
end Go.Proofs.YtcekgllahlhaaaaGreatDoor

namespace Go.Proofs.YtcekgllahlhaaaaGreatDoor
namespace MskL
open Go.RowKit Go.Shelf
set_option linter.unusedVariables false
set_option linter.unusedSimpArgs false
set_option maxRecDepth 100000

theorem withW_right {m : Mk} (h : rightM m = true) {n : Nat} (hn : n < 96) : withW m n = withM m n := by
  have e : m = mk (has m) := by unfold rightM at h; exact of_decide_eq_true h
  unfold withM
  rw [e, withW_mk _ hn]
  refine mk_congr (fun k hk => ?_)
  have e2 : has (mk (has m)) k = has m k := by rw [has_mk]; simp [hk]
  rw [e2, Bool.eq_iff_iff]
  simp only [Bool.or_eq_true, decide_eq_true_iff]
  exact or_congr Iff.rfl (by omega)

theorem slotsI_get (m : Mk) {k : Nat} (hk : k < (slots m).length) : ∃ x, (slots m)[k]? = some x ∧ (slotsI m).getD k 0 = (x : Int) ∧ x < 96 ∧ has m x = true := by
  have h := List.getElem?_eq_getElem hk
  refine ⟨(slots m)[k], h, ?_, has_lt (slots_mem.1 (List.getElem_mem hk)), slots_mem.1 (List.getElem_mem hk)⟩
  simp [slotsI, List.getD, List.getElem?_map, h]
theorem take_mem_snoc {l : List Nat} {k x j : Nat} (h : l[k]? = some x) : j ∈ l.take (k + 1) ↔ (j ∈ l.take k ∨ j = x) := by
  rw [List.take_add_one, h]; simp

theorem turn_sets {g : Nat} {w W : World} (h : Turn (fun i => i = g) w W) (u v : Value) : Turn (fun i => i = g) w ((W.setCell ⟨g, 0, none⟩ u).setCell ⟨g, 1, none⟩ v) := by
  refine ⟨h.os, h.tape, h.output, by have := h.size; simp [World.setCell]; exact this, fun k hk hn => ?_⟩
  rw [Below.heap_setCell _ _ _ _ hn, Below.heap_setCell _ _ _ _ hn]
  exact h.block k hk hn
theorem _root_.Go.Proofs.YtcekgllahlhaaaaGreatDoor.Turn.then_below {S : Nat → Prop} {w W W' : World} (h : Turn S w W) (hb : Below W.heap.size W W') : Turn S w W' := h.trans (Turn.of_below (S := fun _ => False) hb) (fun i hi => hi.elim)
theorem MRow.turn {S : Nat → Prop} {w W : World} {g a b : Nat} (h : MRow w g a b) (ht : Turn S w W) (hg : ¬ S g) : MRow W g a b := (ht.block g h.lt hg).trans h
theorem OwnN.turn {S : Nat → Prop} {base : Nat} {w w' : World} {A : Option Addr} {c : Nat} {l : List Nat} (h : OwnN base w A c l) (ht : Turn S w w') (hS : ∀ i, base ≤ i → ¬ S i) : OwnN base w' A c l := row_turn h ht (fun i hi => hS i (h.lt i hi).1)
theorem mk_none (f : Nat → Bool) (h : ∀ k, f k = false) : mk f = (0, 0) := by rw [← ofM_nil]; exact mk_congr (fun k hk => by rw [h]; simp)

end MskL
end Go.Proofs.YtcekgllahlhaaaaGreatDoor

namespace Go.Proofs.YtcekgllahlhaaaaGreatDoor
namespace MskL
open Go.RowKit Go.Shelf
set_option linter.unusedVariables false
set_option linter.unusedSimpArgs false
set_option maxRecDepth 100000

theorem all_snoc {α : Type} (p : α → Bool) (l : List α) {k : Nat} {x : α} (h : l[k]? = some x) : (l.take (k + 1)).all p = ((l.take k).all p && p x) := all_take_snoc p l h
theorem any_snoc {α : Type} (p : α → Bool) (l : List α) {k : Nat} {x : α} (h : l[k]? = some x) : (l.take (k + 1)).any p = ((l.take k).any p || p x) := by
  rw [List.take_add_one, h]; simp

end MskL
end Go.Proofs.YtcekgllahlhaaaaGreatDoor
