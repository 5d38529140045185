/-
  What is done to a file that was handed to a function: settled, bytes laid behind, cut, copied.
-/
import Derived.Test.YtienabfilnpieaaGreatDiskChange
import Derived.Laws.AppendOwnNone
import Derived.Maps.AppendAt
import Derived.Deep.RegionLaw
namespace Go.Proofs.YtienabfilnpieaaGreat
open Go.RowKit
set_option linter.unusedVariables false
set_option maxRecDepth 100000

section
variable {W : World} {q n c : Nat} {A : Option Addr} {s : Int} {k : Bool}
theorem BoxAt.c0 (h : BoxAt W q A n c s k) : W.cell? ⟨q, 0, none⟩ = some (.slice A n c) := by simp [World.cell?, show W.heap[q]? = _ from h]
theorem BoxAt.c1 (h : BoxAt W q A n c s k) : W.cell? ⟨q, 1, none⟩ = some (.int .i64 s) := by simp [World.cell?, show W.heap[q]? = _ from h]
theorem BoxAt.c2 (h : BoxAt W q A n c s k) : W.cell? ⟨q, 2, none⟩ = some (.bool k) := by simp [World.cell?, show W.heap[q]? = _ from h]
theorem BoxAt.fz (h : BoxAt W q A n c s k) (i : Nat) : W.frozen? ⟨q, i, none⟩ = false := by simp [World.frozen?, show W.heap[q]? = _ from h]
theorem BoxAt.new (w : World) (A : Option Addr) (n c : Nat) (s : Int) (k : Bool) : BoxAt (w.alloc (.cells #[.slice A n c, .int .i64 s, .bool k] 98)) w.heap.size A n c s k := heap_alloc_new w _
end

theorem settle_any {W : World} {q n c : Nat} {A : Option Addr} {s : Int} {k : Bool} (h : BoxAt W q A n c s k) : Calls Tryz.prog 51 #[.pointer (some ⟨q, 0, none⟩)] W fun e W' => e = .returned (.tuple #[]) ∧ BoxAt W' q A n c n true ∧ W.grownBy W' (some q) := by
  have h0 := h.c0
  have h1 := h.c1
  have h2 := h.c2
  have f1 := h.fz 1
  have f2 := h.fz 2
  have HB := Lib.hid h
  clear h
  go_enter Tryz.func51, Tryz.ntmps51
  go_wp2
  go_end0
  refine ⟨rfl, ?_, ((Only.refl q W).set (.inl rfl) _).set (.inl rfl) _⟩
  have := heap_set (heap_set (show W.heap[q]? = _ from HB.out) 1 (.int .i64 n)) 2 (.bool true)
  exact this

theorem run_app_nil (w : World) (base : Nat) (v : Value) (n : Nat) (xs : List Value) (hown : w.ownsRow base 5 1 v n xs) (ty : TypeId) (c : Nat) :
    (Builtin.append_ #[33, 33] ty #[v, .slice none 0 c]).run Tryz.prog w = .ok v w := by
  obtain ⟨i0, hi, hz0, hz1, hz2⟩ := info_parts info5
  rcases hown.2 with ⟨rfl, rfl⟩ | ⟨g, cap, cur, rfl, _, _, hnc, _⟩
  · simp [Builtin.append_, run_underlying Tryz.underlying33, sizeOf, typeInfo, hi, Builtin.lenOf, Builtin.firstCells]
  · simp [Builtin.append_, run_underlying Tryz.underlying33, sizeOf, typeInfo, hi, Builtin.lenOf, Builtin.firstCells, hnc, storeCells]

/-- 'append(v, x...)', v the call's own, x a slice of bytes: and where the new slice lies. -/
theorem run_app {w : World} (ty : TypeId) (base : Nat) (A0 : Option Addr) (c0 n : Nat) (xs : List Value) (hown : w.ownsRow base 5 1 (.slice A0 n c0) n xs)
    (A : Option Addr) (c m : Nat) (bs : List Int) (hm : bs.length = m) (hr : Rd w w.heap.size A bs) (hbig : n + m ≤ 140737488355328) (hbase : base ≤ w.heap.size) :
    ∃ A1 c1 w', (Builtin.append_ #[33, 33] ty #[.slice A0 n c0, .slice A m c]).run Tryz.prog w = .ok (.slice A1 (n + m) c1) w' ∧ w'.ownsRow base 5 1 (.slice A1 (n + m) c1) (n + m) (xs ++ bs.map (Value.int .u8)) ∧ w.grownBy w' (blk A0) ∧ (blk A1 = blk A0 ∨ blk A1 = some w.heap.size) := by
  obtain ⟨i0, hi, hz0, hz1, hz2⟩ := info_parts info5
  subst hm
  have hob : ∀ (A : Option Addr) n c, (Value.slice A n c).ownBlock = blk A := fun A n c => by cases A <;> rfl
  rcases A with _ | ad
  · obtain rfl : bs = [] := by
      rcases bs with _ | ⟨b, bs⟩
      · rfl
      · obtain ⟨_, _, e, _⟩ := hr (by simp)
        cases e
    exact ⟨A0, c0, w, run_app_nil w base _ n xs hown ty c, by simpa using hown, World.grownBy.refl _ _, .inl rfl⟩
  · obtain ⟨v', w', hrun, h1, h2, h3, h4⟩ := run_append_own_at (P := Tryz.prog) w base 33 ty 5 i0 (.int .u8 0) 1 1 Tryz.underlying33 hi hz0 hz1 hz2 rfl (by decide) _ n xs hown ad bs.length c (bs.map (Value.int .u8)) (by simp) (by
        intro j u hj
        have hjn : j < bs.length := by
          have := (List.getElem?_eq_some_iff.1 hj).1
          simpa using this
        obtain ⟨b, o', he, hb, hc⟩ := hr (by omega)
        injection he with he
        subst he
        rw [Addr.add_lit, hc j hjn]
        simpa [List.getD, List.getElem?_eq_getElem hjn] using hj) (by
        intro u hu
        obtain ⟨z, _, rfl⟩ := List.mem_map.1 hu
        rfl) (by unfold maxLen; omega) (by omega) hbase
    obtain ⟨A1, c1, rfl, _, _⟩ := own_form h1
    rw [hob] at h2 h4
    rw [hob] at h4
    exact ⟨A1, c1, w', hrun, h1, h2, h4⟩

theorem app_at {w : World} {ops : Array Oper} {rest : List Oper} {o : Oper} {a : Act} {Q : Exit → Act → World → Prop} (hgd : o.guard = none) (s x : Operand)
    (ho : o.op = .call { callee := .builtin .append, args := #[s, x], argTypes := #[33, 33] })
    (base : Nat) (A0 : Option Addr) (c0 n : Nat) (xs : List Value) (hs : a.eval s = .slice A0 n c0) (hown : w.ownsRow base 5 1 (.slice A0 n c0) n xs)
    (A : Option Addr) (c m : Nat) (bs : List Int) (hx : a.eval x = .slice A m c) (hm : bs.length = m) (hr : Rd w w.heap.size A bs)
    (hbig : n + m ≤ 140737488355328) (hbase : base ≤ w.heap.size)
    (h : ∀ A1 c1 w', w'.ownsRow base 5 1 (.slice A1 (n + m) c1) (n + m) (xs ++ bs.map (Value.int .u8)) → w.grownBy w' (blk A0) → (blk A1 = blk A0 ∨ blk A1 = some w.heap.size) → wpList Tryz.prog ops Q rest (a.put o.dst (.slice A1 (n + m) c1)) w') : wpList Tryz.prog ops Q (o :: rest) a w := by
  refine wpList_plain hgd fun K hK => ?_
  obtain ⟨A1, c1, w', hrun, h1, h2, h3⟩ := run_app o.type base A0 c0 n xs hown A c m bs hm hr hbig hbase
  unfold Oper.wp
  simp [execOp, ho, resolve, invoke, builtin, hs, hx, hrun, Result.andThen]
  exact hK _ _ (h A1 c1 w' h1 h2 h3)

/-- .. as a step of a region that draws. -/
theorem step_app {w : World} {ops : Array Oper} {o : Oper} {a : Act} {K : Act → World → Prop} {Q : Exit → Act → World → Prop} {E : Prop} (hgd : o.guard = none) (s x : Operand)
    (ho : o.op = .call { callee := .builtin .append, args := #[s, x], argTypes := #[33, 33] })
    (base : Nat) (A0 : Option Addr) (c0 n : Nat) (xs : List Value) (hs : a.eval s = .slice A0 n c0) (hown : w.ownsRow base 5 1 (.slice A0 n c0) n xs)
    (A : Option Addr) (c m : Nat) (bs : List Int) (hx : a.eval x = .slice A m c) (hm : bs.length = m) (hr : Rd w w.heap.size A bs)
    (hbig : n + m ≤ 140737488355328) (hbase : base ≤ w.heap.size)
    (h : ∀ A1 c1 w', w'.ownsRow base 5 1 (.slice A1 (n + m) c1) (n + m) (xs ++ bs.map (Value.int .u8)) → w.grownBy w' (blk A0) → (blk A1 = blk A0 ∨ blk A1 = some w.heap.size) → K (a.put o.dst (.slice A1 (n + m) c1)) w') :
    if Region.wanted o (yielded ops a.tmps) = true then Oper.wp Tryz.prog o a w K Q else E := by
  have hw : Region.wanted o (yielded ops a.tmps) = true := by simp [Region.wanted, hgd]
  rw [if_pos hw]
  obtain ⟨A1, c1, w', hrun, h1, h2, h3⟩ := run_app o.type base A0 c0 n xs hown A c m bs hm hr hbig hbase
  unfold Oper.wp
  simp [execOp, ho, resolve, invoke, builtin, hs, hx, hrun, Result.andThen]
  exact h A1 c1 w' h1 h2 h3

theorem layBehind_any (B : Option Addr) (m c : Nat) (w : World) : Calls Tryz.prog 47 #[.slice B m c] w fun e w' => e = .returned (.func (.func 95) #[] #[.pointer (some ⟨w.heap.size, 0, none⟩)]) ∧ w' = w.alloc (.cells #[.slice B m c] 33) := by
  go_enter Tryz.func47, Tryz.ntmps47
  go_wp2
  go_ret
  exact ⟨rfl, rfl⟩
theorem cutAt_any (n : Int) (w : World) : Calls Tryz.prog 118 #[.int .i64 n] w fun e w' => e = .returned (.func (.func 132) #[] #[.pointer (some ⟨w.heap.size, 0, none⟩)]) ∧ w' = w.alloc (.cells #[.int .i64 n] 3) := by
  go_enter Tryz.func118, Tryz.ntmps118
  go_wp2
  go_ret
  exact ⟨rfl, rfl⟩

/-- Bytes are laid behind those of the box's file. -/
def LaidBox (W : World) (q : Nat) (A : Option Addr) (n m : Nat) (s : Int) (k : Bool) (xs bs : List Int) (W' : World) : Prop :=
  ∃ A1 c1 W1, BoxAt W' q A1 (n + m) c1 s k ∧ W1.ownsRow 0 5 1 (.slice A1 (n + m) c1) (n + m) ((xs ++ bs).map (Value.int .u8)) ∧ W.grownBy W1 (blk A) ∧ (blk A1 = blk A ∨ blk A1 = some W.heap.size) ∧ W1.grownBy W' (some q)

set_option maxHeartbeats 400000 in
theorem lay_any {W : World} {q b n c m cb : Nat} {A B : Option Addr} {s : Int} {k : Bool} {xs bs : List Int} (h : BoxAt W q A n c s k) (hb : W.cell? ⟨b, 0, none⟩ = some (.slice B m cb)) (hrow : W.ownsRow 0 5 1 (.slice A n c) n (xs.map (Value.int .u8)))
    (hm : bs.length = m) (hr : Rd W W.heap.size B bs) (hbig : n + m ≤ 140737488355328) (hq : some q ≠ blk A) :
    Calls Tryz.prog 95 #[.pointer (some ⟨q, 0, none⟩), .pointer (some ⟨b, 0, none⟩)] W fun e W' => e = .returned (.tuple #[]) ∧ LaidBox W q A n m s k xs bs W' := by
  have h0 := h.c0
  have f0 := h.fz 0
  have hlt : q < W.heap.size := lt_of_block h
  have HB := Lib.hid h
  have HR := Lib.hid hrow
  have HD := Lib.hid hr
  have HN := Lib.hid hm
  have HQ := Lib.hid hq
  clear h hrow hr hm hq
  go_enter Tryz.func95, Tryz.ntmps95
  go_wp2
  go_region_law ((refine step_app (by rfl) _ _ (by rfl) 0 A c n _ (by rfl) HR.out.drew B cb m bs (by rfl) HN.out HD.out.drew hbig (Nat.zero_le _) ?_; intro A1 c1 W1 hown hgrow hloc; have g0 : W.grownBy W1 (blk A) := ⟨hgrow.os, hgrow.tape, hgrow.output, hgrow.size, hgrow.block⟩; have b0 : BoxAt W1 q A n c s k := (hgrow.block q hlt HQ.out).trans HB.out; have h0' := b0.c0; have f0' := b0.fz 0; have HO := Lib.hid hown; have HG := Lib.hid g0; have HL := Lib.hid hloc; have B0 := Lib.hid b0; clear hown hgrow hloc g0 b0))
  all_goals go_wp2
  all_goals go_end0
  all_goals refine ⟨rfl, A1, c1, W1, ?_, by simpa using HO.out, HG.out, HL.out, (Only.refl q W1).set (.inl rfl) _⟩
  all_goals exact heap_set B0.out 0 _

end Go.Proofs.YtienabfilnpieaaGreat
