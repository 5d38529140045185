/-
  append onto a slice that is full (out[:at:at]): what is read of both comes into a new row. Parts of cells, parts of numbers.
-/
import Derived.Test.YtdbcecmlakgknaaAreIns
namespace Go.Proofs.Ytdbcecmlakgknaa
open Go.RowKit Go.Shelf
set_option linter.unusedVariables false
set_option linter.unusedSimpArgs false
set_option maxRecDepth 100000

theorem flatA_take (q : List Pa) : ∀ n, flatA (q.take n) = (flatA q).take (n * 5) := by
  induction q with
  | nil => intro n; simp [flatA]
  | cons x q ih =>
    intro n
    cases n with
    | zero => simp [flatA]
    | succ n => rw [List.take_succ_cons, flatA_cons, flatA_cons, ih, show (n + 1) * 5 = n * 5 + 1 + 1 + 1 + 1 + 1 by omega]; rfl
theorem flatA_drop (q : List Pa) : ∀ n, flatA (q.drop n) = (flatA q).drop (n * 5) := by
  induction q with
  | nil => intro n; simp [flatA]
  | cons x q ih =>
    intro n
    cases n with
    | zero => simp
    | succ n => rw [List.drop_succ_cons, flatA_cons, ih, show (n + 1) * 5 = n * 5 + 1 + 1 + 1 + 1 + 1 by omega]; rfl
theorem addr_add (b : Addr) (i j : Nat) : (b.add i).add j = b.add (i + j) := by
  by_cases hi : i = 0
  · subst hi; simp [Addr.add]
  · by_cases hj : j = 0
    · subst hj; simp [Addr.add]
    · simp [Addr.add, hi, hj, Nat.add_assoc]
/-- The first ones of what can be read. -/
theorem Read.first {w : World} {A : Option Addr} {m k size : Nat} {news : List Value} (h : Read w A m size news) (hk : k ≤ m) : Read w A k size (news.take (k * size)) := by
  obtain ⟨h1, h2, h3, h4⟩ := h
  have hm : k * size ≤ m * size := Nat.mul_le_mul_right _ hk
  refine ⟨by rw [List.length_take, h1]; omega, fun u hu => h2 u (List.mem_of_mem_take hu), fun e => by have := h3 e; omega, fun b hb j u hj => h4 b hb j u ?_⟩
  rw [List.getElem?_take] at hj
  split at hj
  · exact hj
  · cases hj
/-- The last ones. -/
theorem Read.last {w : World} {b : Addr} {m k size : Nat} {news : List Value} (h : Read w (some b) m size news) (hk : k ≤ m) : Read w (some (b.add (k * size))) (m - k) size (news.drop (k * size)) := by
  obtain ⟨h1, h2, h3, h4⟩ := h
  refine ⟨by rw [List.length_drop, h1, Nat.sub_mul], fun u hu => h2 u (List.mem_of_mem_drop hu), fun e => (by cases e), fun b' hb j u hj => ?_⟩
  injection hb with hb
  subst hb
  rw [List.getElem?_drop] at hj
  rw [addr_add]
  exact h4 b rfl _ u hj
/-- append onto a full slice: a new row. -/
theorem run_cut {w : World} {t e : TypeId} {size bytes : Nat} (hT : AppT Try.prog t e size bytes) (ty : TypeId) (A0 : Option Addr) (n : Nat) (xs : List Value) (h0 : Read w A0 n size xs)
    (b : Addr) (c m : Nat) (news : List Value) (hr : Read w (some b) m size news) (hm : 0 < m) (hbig : n + m ≤ 1099511627776) :
    ∃ A1 c1 w', (Builtin.append_ #[t, t] ty #[.slice A0 n (if A0.isSome then n else 0), .slice (some b) m c]).run Try.prog w = .ok (.slice A1 (n + m) c1) w' ∧ w'.ownsRow w.heap.size e size (.slice A1 (n + m) c1) (n + m) (xs ++ news) ∧ Below w.heap.size w w' := by
  cases A0 with
  | none =>
    obtain rfl := h0.2.2.1 rfl
    have hx : xs = [] := List.eq_nil_of_length_eq_zero (by rw [h0.1]; simp)
    subst hx
    obtain ⟨A1, c1, w', hrun, h1, h2, h3⟩ := run_gapp hT ty w.heap.size none 0 0 [] (World.ownsRow_nil _ _ _ _) (some b) c m news hr hbig (Nat.le_refl _)
    exact ⟨A1, c1, w', hrun, h1, (Turn.of_grown (S := fun _ => False) h2 (fun i hi => by cases hi)).below (Nat.le_refl _) (fun i hi => hi.elim)⟩
  | some a =>
    obtain ⟨ht, i0, z, hi, hz0, hz1, hz2, hz3, hz4, hz5⟩ := hT
    subst hz1 hz2
    have hb : (n + m) * i0.bytes ≤ 140737488355328 := by
      have : (n + m) * i0.bytes ≤ 1099511627776 * 100 := Nat.mul_le_mul hbig hz5
      omega
    have hrun := run_append_grow (P := Try.prog) w t ty e i0 z ht hi hz0 a n n xs h0.1 (h0.2.2.2 a rfl) b m c news hr.1 (hr.2.2.2 b rfl) (by omega) (by omega) (growslice_fits (by omega) hb)
    have h63 : n + m ≤ maxLen := by unfold maxLen; omega
    have hge := grownCap_ge w (n + m) n e
    have hcm : grownCap w (n + m) n e ≤ maxLen := grownCap_le_maxLen w (n + m) n e h63
    refine ⟨_, _, _, hrun, ⟨by rw [List.length_append, h0.1, hr.1, Nat.add_mul], .inr ⟨w.heap.size, _, _, rfl, Nat.le_refl _, heap_alloc_new w.drew _, hge, hcm, ?_, ?_⟩⟩, (below_drew (Below.refl _ w)).alloc (Nat.le_refl _) _⟩
    · simp only [Array.size_append, List.size_toArray, size_zeroCells, hz3, h0.1, hr.1, ← Nat.add_mul]
      congr 1
      omega
    · simp only [Array.toList_append, List.append_assoc]
      rw [← List.append_assoc, show (n + m) * i0.size = (xs ++ news).length by rw [List.length_append, h0.1, hr.1, Nat.add_mul]]
      exact List.take_left

/-- .. as a step of a region that draws. -/
theorem cut_step {w : World} {ops : Array Oper} {o : Oper} {a : Act} {K : Act → World → Prop} {Q : Exit → Act → World → Prop} {E : Prop} (hgd : o.guard = none) (s x : Operand) {t e : TypeId} {size bytes : Nat} (hT : AppT Try.prog t e size bytes)
    (ho : o.op = .call { callee := .builtin .append, args := #[s, x], argTypes := #[t, t] })
    (A0 : Option Addr) (n c0 : Nat) (xs : List Value) (hc0 : c0 = if A0.isSome then n else 0) (hs : a.eval s = .slice A0 n c0) (h0 : Read w A0 n size xs)
    (b : Addr) (c m : Nat) (news : List Value) (hx : a.eval x = .slice (some b) m c) (hr : Read w (some b) m size news) (hm : 0 < m) (hbig : n + m ≤ 1099511627776)
    (h : ∀ A1 c1 w', w'.ownsRow w.heap.size e size (.slice A1 (n + m) c1) (n + m) (xs ++ news) → Below w.heap.size w w' → K (a.put o.dst (.slice A1 (n + m) c1)) w') :
    if Region.wanted o (yielded ops a.tmps) = true then Oper.wp Try.prog o a w K Q else E := by
  have hw : Region.wanted o (yielded ops a.tmps) = true := by simp [Region.wanted, hgd]
  rw [if_pos hw]
  subst hc0
  obtain ⟨A1, c1, w', hrun, h1, h2⟩ := run_cut hT o.type A0 n xs h0 b c m news hr hm hbig
  unfold Oper.wp
  simp [execOp, ho, resolve, invoke, builtin, hs, hx, hrun, Result.andThen]
  exact h A1 c1 w' h1 h2

end Go.Proofs.Ytdbcecmlakgknaa
