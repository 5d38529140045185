/-
  append of hits to a slice of the call's own: and where the new one lies.
-/
import Derived.Test.YthobkakmjgmpcaaTopPile
import Derived.Deep.RegionLaw
import Derived.Maps.AppendAt
namespace Go.Proofs.Ythobkakmjgmpcaa
open Go.RowKit Go.Shelf
set_option linter.unusedVariables false
set_option linter.unusedSimpArgs false
set_option maxRecDepth 100000

def blk (A : Option Addr) : Option Nat := A.map (·.block)
theorem own_blk (A : Option Addr) (n c : Nat) : (Value.slice A n c).ownBlock = blk A := by cases A <;> rfl
theorem own_form {w : World} {base : Nat} {e : TypeId} {size : Nat} {v : Value} {n : Nat} {xs : List Value} (h : w.ownsRow base e size v n xs) : ∃ A c, v = .slice A n c ∧ (A = none ∨ ∃ g, A = some ⟨g, 0, none⟩ ∧ base ≤ g ∧ g < w.heap.size) ∧ (A = none → n = 0) := by
  rcases h.2 with ⟨rfl, h0⟩ | ⟨g, cap, cur, rfl, hg, hh, _⟩
  · exact ⟨none, 0, by rw [h0], .inl rfl, fun _ => h0⟩
  · exact ⟨_, cap, rfl, .inr ⟨g, rfl, hg, lt_of_block hh⟩, fun h => by cases h⟩

theorem info_hit : ∃ i, Try.prog.info? 32 = some i ∧ i.zero = some (.agg #[.int .u64 0, .int .u64 0]) ∧ i.size = 2 ∧ i.bytes = 16 :=
  ⟨(Try.prog.info? 32).get (by kernel_rfl), (Option.some_get _).symm, by kernel_rfl, by kernel_rfl, by kernel_rfl⟩

theorem flat_read {w : World} {b o : Nat} {l : List HitM} (h : ∀ j, j < l.length → w.cell? ⟨b, o + j * 2, none⟩ = some (.int .u64 (l.getD j z2).1) ∧ w.cell? ⟨b, o + j * 2 + 1, none⟩ = some (.int .u64 (l.getD j z2).2)) :
    ∀ j u, (flat l)[j]? = some u → w.cell? ((⟨b, o, none⟩ : Addr).add j) = some u := by
  intro j u hu
  have hj : j < l.length * 2 := by
    have := (List.getElem?_eq_some_iff.1 hu).1
    rwa [flat_length] at this
  rw [Addr.add_lit]
  rcases Nat.mod_two_eq_zero_or_one j with hp | hp
  · obtain ⟨q, rfl⟩ : ∃ q, j = q * 2 := ⟨j / 2, by omega⟩
    rw [(h q (by omega)).1, ← (flat_get l q (by omega)).1, hu]
  · obtain ⟨q, rfl⟩ : ∃ q, j = q * 2 + 1 := ⟨j / 2, by omega⟩
    rw [← Nat.add_assoc, (h q (by omega)).2, ← (flat_get l q (by omega)).2, hu]

theorem run_happ_nil (w : World) (t : TypeId) (ht : Try.prog.underlying t = some (.slice 32)) (base : Nat) (v : Value) (n : Nat) (xs : List Value) (hown : w.ownsRow base 32 2 v n xs) (ty : TypeId) (c : Nat) :
    (Builtin.append_ #[t, t] ty #[v, .slice none 0 c]).run Try.prog w = .ok v w := by
  obtain ⟨i0, hi, hz0, hz1, hz2⟩ := info_hit
  rcases hown.2 with ⟨rfl, rfl⟩ | ⟨g, cap, cur, rfl, _, _, hnc, _⟩
  · simp [Builtin.append_, run_underlying ht, sizeOf, typeInfo, hi, Builtin.lenOf, Builtin.firstCells]
  · simp [Builtin.append_, run_underlying ht, sizeOf, typeInfo, hi, Builtin.lenOf, Builtin.firstCells, hnc, storeCells]

theorem run_happ {w : World} (t : TypeId) (ht : Try.prog.underlying t = some (.slice 32)) (ty : TypeId) (base : Nat) (A0 : Option Addr) (c0 n : Nat) (xs : List Value) (hown : w.ownsRow base 32 2 (.slice A0 n c0) n xs)
    (A : Option Addr) (c m : Nat) (hs : List HitM) (hm : hs.length = m) (hr : Hits w A c hs) (hbig : n + m ≤ 1099511627776) (hbase : base ≤ w.heap.size) :
    ∃ A1 c1 w', (Builtin.append_ #[t, t] ty #[.slice A0 n c0, .slice A m c]).run Try.prog w = .ok (.slice A1 (n + m) c1) w' ∧ w'.ownsRow base 32 2 (.slice A1 (n + m) c1) (n + m) (xs ++ flat hs) ∧ w.grownBy w' (blk A0) ∧ (blk A1 = blk A0 ∨ blk A1 = some w.heap.size) ∧ (A1 = none → A0 = none ∧ m = 0) := by
  obtain ⟨i0, hi, hz0, hz1, hz2⟩ := info_hit
  subst hm
  rcases A with _ | ad
  · obtain rfl : hs = [] := by
      rcases hs with _ | ⟨b, hs⟩
      · rfl
      · obtain ⟨_, _, e, _⟩ := hr.rd (by simp)
        cases e
    exact ⟨A0, c0, w, run_happ_nil w t ht base _ n xs hown ty c, by simpa [flat] using hown, World.grownBy.refl _ _, .inl rfl, fun h => ⟨h, rfl⟩⟩
  · obtain ⟨v', w', hrun, h1, h2, h3, h4⟩ := run_append_own_at (P := Try.prog) w base t ty 32 i0 (.agg #[.int .u64 0, .int .u64 0]) 2 16 ht hi hz0 hz1 hz2 rfl (by decide) _ n xs hown ad hs.length c (flat hs) (flat_length hs) (by
        intro j u hj
        have hpos : 0 < hs.length := by
          have := (List.getElem?_eq_some_iff.1 hj).1
          rw [flat_length] at this
          omega
        obtain ⟨b, o', he, hb, hc⟩ := hr.rd hpos
        injection he with he
        subst he
        exact flat_read hc j u hj) (flat_cell hs) (by unfold maxLen; omega) (by omega) hbase
    obtain ⟨A1, c1, rfl, _, _⟩ := own_form h1
    rw [own_blk] at h2 h4
    rw [own_blk] at h4
    refine ⟨A1, c1, w', hrun, h1, h2, h4, fun hn => ?_⟩
    subst hn
    have h1z : n + hs.length = 0 := by
      rcases h1.2 with ⟨_, h0⟩ | ⟨g, cap, cur, h', _⟩
      · exact h0
      · simp at h'
    have e : Value.slice none (n + hs.length) c1 = .slice none 0 0 := by
      rcases h1.2 with ⟨h', _⟩ | ⟨g, cap, cur, h', _⟩
      · exact h'
      · simp at h'
    have := h3.1 e
    refine ⟨?_, this.2⟩
    have h' := this.1
    injection h'

theorem happ_at {w : World} {ops : Array Oper} {rest : List Oper} {o : Oper} {a : Act} {Q : Exit → Act → World → Prop} (hgd : o.guard = none) (s x : Operand) (t : TypeId) (ht : Try.prog.underlying t = some (.slice 32))
    (ho : o.op = .call { callee := .builtin .append, args := #[s, x], argTypes := #[t, t] })
    (base : Nat) (A0 : Option Addr) (c0 n : Nat) (xs : List Value) (hs : a.eval s = .slice A0 n c0) (hown : w.ownsRow base 32 2 (.slice A0 n c0) n xs)
    (A : Option Addr) (c m : Nat) (l : List HitM) (hx : a.eval x = .slice A m c) (hm : l.length = m) (hr : Hits w A c l)
    (hbig : n + m ≤ 1099511627776) (hbase : base ≤ w.heap.size)
    (h : ∀ A1 c1 w', w'.ownsRow base 32 2 (.slice A1 (n + m) c1) (n + m) (xs ++ flat l) → w.grownBy w' (blk A0) → (blk A1 = blk A0 ∨ blk A1 = some w.heap.size) → (A1 = none → A0 = none ∧ m = 0) → wpList Try.prog ops Q rest (a.put o.dst (.slice A1 (n + m) c1)) w') : wpList Try.prog ops Q (o :: rest) a w := by
  refine wpList_plain hgd fun K hK => ?_
  obtain ⟨A1, c1, w', hrun, h1, h2, h3, h4⟩ := run_happ t ht o.type base A0 c0 n xs hown A c m l hm hr hbig hbase
  unfold Oper.wp
  simp [execOp, ho, resolve, invoke, builtin, hs, hx, hrun, Result.andThen]
  exact hK _ _ (h A1 c1 w' h1 h2 h3 h4)

/-- .. as a step of a region that draws. -/
theorem step_happ {w : World} {ops : Array Oper} {o : Oper} {a : Act} {K : Act → World → Prop} {Q : Exit → Act → World → Prop} {E : Prop} (hgd : o.guard = none) (s x : Operand) (t : TypeId) (ht : Try.prog.underlying t = some (.slice 32))
    (ho : o.op = .call { callee := .builtin .append, args := #[s, x], argTypes := #[t, t] })
    (base : Nat) (A0 : Option Addr) (c0 n : Nat) (xs : List Value) (hs : a.eval s = .slice A0 n c0) (hown : w.ownsRow base 32 2 (.slice A0 n c0) n xs)
    (A : Option Addr) (c m : Nat) (l : List HitM) (hx : a.eval x = .slice A m c) (hm : l.length = m) (hr : Hits w A c l)
    (hbig : n + m ≤ 1099511627776) (hbase : base ≤ w.heap.size)
    (h : ∀ A1 c1 w', w'.ownsRow base 32 2 (.slice A1 (n + m) c1) (n + m) (xs ++ flat l) → w.grownBy w' (blk A0) → (blk A1 = blk A0 ∨ blk A1 = some w.heap.size) → (A1 = none → A0 = none ∧ m = 0) → K (a.put o.dst (.slice A1 (n + m) c1)) w') :
    if Region.wanted o (yielded ops a.tmps) = true then Oper.wp Try.prog o a w K Q else E := by
  have hw : Region.wanted o (yielded ops a.tmps) = true := by simp [Region.wanted, hgd]
  rw [if_pos hw]
  obtain ⟨A1, c1, w', hrun, h1, h2, h3, h4⟩ := run_happ t ht o.type base A0 c0 n xs hown A c m l hm hr hbig hbase
  unfold Oper.wp
  simp [execOp, ho, resolve, invoke, builtin, hs, hx, hrun, Result.andThen]
  exact h A1 c1 w' h1 h2 h3 h4

/-- One hit, just laid. -/
theorem hits_one {W : World} {g : Nat} {h : HitM} (h1 : W.cell? ⟨g, 0, none⟩ = some (.int .u64 h.1)) (h2 : W.cell? ⟨g, 1, none⟩ = some (.int .u64 h.2)) : Hits W (some ⟨g, 0, none⟩) 1 [h] :=
  ⟨by simp, by omega, fun _ => ⟨g, 0, rfl, World.block_lt_of_cell? W _ h1, fun j hj => by
    obtain rfl : j = 0 := by simpa using hj
    exact ⟨h1, h2⟩⟩⟩

end Go.Proofs.Ythobkakmjgmpcaa
