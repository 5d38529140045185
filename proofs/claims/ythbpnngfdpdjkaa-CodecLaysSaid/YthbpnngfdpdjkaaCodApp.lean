/-
  'append' of bytes behind a row of the call's own, as a step of a region that draws its order.
-/
import Derived.Test.YthbpnngfdpdjkaaCodRefA
import Derived.Laws.AppendOwnNone
import Derived.Maps.AppendAt
import Derived.Deep.RegionLaw
namespace Go.Proofs.Ythbpnngfdpdjkaa
open Go.RowKit
set_option linter.unusedVariables false
set_option linter.unusedSimpArgs false
set_option maxRecDepth 100000

def blk : Option Addr → Option Nat := fun A => A.map (·.block)

/-- 'append(v, x...)', v the call's own, x a slice of bytes: and where the new slice lies. -/
theorem run_app {w : World} (ty : TypeId) (base : Nat) (A0 : Option Addr) (c0 n : Nat) (xs : List Value) (hown : w.ownsRow base 5 1 (.slice A0 n c0) n xs)
    (A : Option Addr) (c m : Nat) (bs : List Int) (hm : bs.length = m) (hr : Rd w w.heap.size A bs) (hbig : n + m ≤ 140737488355328) (hbase : base ≤ w.heap.size) :
    ∃ A1 c1 w', (Builtin.append_ #[29, 29] ty #[.slice A0 n c0, .slice A m c]).run Try.prog w = .ok (.slice A1 (n + m) c1) w' ∧ w'.ownsRow base 5 1 (.slice A1 (n + m) c1) (n + m) (xs ++ bs.map (Value.int .u8)) ∧ w.grownBy w' (blk A0) ∧ (blk A1 = blk A0 ∨ blk A1 = some w.heap.size) := by
  obtain ⟨i0, hi, hz0, hz1, hz2⟩ := info_parts info5
  subst hm
  have hob : ∀ (A : Option Addr) n c, (Value.slice A n c).ownBlock = blk A := fun A n c => by cases A <;> rfl
  rcases A with _ | ad
  · obtain rfl : bs = [] := by
      rcases bs with _ | ⟨b, bs⟩
      · rfl
      · obtain ⟨_, _, e, _⟩ := hr (by simp)
        cases e
    exact ⟨A0, c0, w, run_app_nil w base _ n xs hown ty c, by simpa using hown, World.grownBy.refl _ _, .inl rfl⟩
  · obtain ⟨v', w', hrun, h1, h2, h3, h4⟩ := run_append_own_at (P := Try.prog) w base 29 ty 5 i0 (.int .u8 0) 1 1 Try.underlying29 hi hz0 hz1 hz2 rfl (by decide) _ n xs hown ad bs.length c (bs.map (Value.int .u8)) (by simp) (by
        intro j u hj
        have hjn : j < bs.length := by
          have := (List.getElem?_eq_some_iff.1 hj).1
          simpa using this
        obtain ⟨b, o', he, hb, hc⟩ := hr (by omega)
        injection he with he
        subst he
        rw [Addr.add_lit, hc j hjn]
        simpa [List.getD, List.getElem?_eq_getElem hjn] using hj) (by
        intro u hu
        obtain ⟨z, _, rfl⟩ := List.mem_map.1 hu
        rfl) (by unfold maxLen; omega) (by omega) hbase
    obtain ⟨A1, c1, rfl, _, _⟩ := own_form h1
    rw [hob] at h2 h4
    rw [hob] at h4
    exact ⟨A1, c1, w', hrun, h1, h2, h4⟩

/-- .. as a step of a region that draws. -/
theorem step_app {w : World} {ops : Array Oper} {o : Oper} {a : Act} {K : Act → World → Prop} {Q : Exit → Act → World → Prop} {E : Prop} (hgd : o.guard = none) (s x : Operand)
    (ho : o.op = .call { callee := .builtin .append, args := #[s, x], argTypes := #[29, 29] })
    (base : Nat) (A0 : Option Addr) (c0 n : Nat) (xs : List Value) (hs : a.eval s = .slice A0 n c0) (hown : w.ownsRow base 5 1 (.slice A0 n c0) n xs)
    (A : Option Addr) (c m : Nat) (bs : List Int) (hx : a.eval x = .slice A m c) (hm : bs.length = m) (hr : Rd w w.heap.size A bs)
    (hbig : n + m ≤ 140737488355328) (hbase : base ≤ w.heap.size)
    (h : ∀ A1 c1 w', w'.ownsRow base 5 1 (.slice A1 (n + m) c1) (n + m) (xs ++ bs.map (Value.int .u8)) → w.grownBy w' (blk A0) → (blk A1 = blk A0 ∨ blk A1 = some w.heap.size) → K (a.put o.dst (.slice A1 (n + m) c1)) w') :
    if Region.wanted o (yielded ops a.tmps) = true then Oper.wp Try.prog o a w K Q else E := by
  have hw : Region.wanted o (yielded ops a.tmps) = true := by simp [Region.wanted, hgd]
  rw [if_pos hw]
  obtain ⟨A1, c1, w', hrun, h1, h2, h3⟩ := run_app o.type base A0 c0 n xs hown A c m bs hm hr hbig hbase
  unfold Oper.wp
  simp [execOp, ho, resolve, invoke, builtin, hs, hx, hrun, Result.andThen]
  exact h A1 c1 w' h1 h2 h3

end Go.Proofs.Ythbpnngfdpdjkaa
