/-
  append of a slice that may be as long as any that came in.
-/
import Derived.Test.YtbnedhhkapbliaaChnTimes
namespace Go.Proofs.Ytbnedhhkapbliaa
open Go.RowKit Go.Shelf
set_option linter.unusedVariables false
set_option linter.unusedSimpArgs false
set_option maxRecDepth 100000

theorem grow_le (need old : Nat) (h : old < need) (h2 : need ≤ 2 * old) (h3 : 256 ≤ old) : Builtin.growBy need 4 old ≤ need + need / 4 + 768 := by
  unfold Builtin.growBy
  split
  · omega
  · unfold Builtin.growBy
    split
    · omega
    · unfold Builtin.growBy
      split
      · omega
      · unfold Builtin.growBy
        split
        · omega
        · unfold Builtin.growBy
          omega
theorem nextcap_le {need old : Nat} (h : old < need) : Builtin.nextslicecap need old ≤ need + need / 4 + 768 := by
  unfold Builtin.nextslicecap
  split
  · omega
  · split
    · omega
    · exact grow_le need old h (by omega) (by omega)

theorem run_long {w : World} {t e : TypeId} {size bytes : Nat} (hT : AppT Try.prog t e size bytes) (ty : TypeId) (base : Nat) (A0 : Option Addr) (c0 n : Nat) (hn0 : 0 < n) (xs : List Value) (hown : w.ownsRow base e size (.slice A0 n c0) n xs)
    (A : Option Addr) (c m : Nat) (news : List Value) (hr : Read w A m size news) (hbig : n + m ≤ maxLen) (hfit : (n + m + (n + m) / 4 + 768) * bytes ≤ 281474976710656) (hbase : base ≤ w.heap.size) :
    ∃ A1 c1 w', (Builtin.append_ #[t, t] ty #[.slice A0 n c0, .slice A m c]).run Try.prog w = .ok (.slice A1 (n + m) c1) w' ∧ w'.ownsRow base e size (.slice A1 (n + m) c1) (n + m) (xs ++ news) ∧ w.grownBy w' (blk A0) := by
  obtain ⟨ht, i0, z, hi, hz, hsize, hby, hzs, hsz, _⟩ := hT
  obtain ⟨hl, h1, hn, hrd⟩ := hr
  subst hsize
  subst hby
  have hlen : (xs ++ news).length = (n + m) * i0.size := by rw [List.length_append, hown.1, hl, Nat.add_mul]
  have hh63 : ((n + m : Nat) : Int) ≤ 9223372036854775807 := by simp only [maxLen] at hbig; omega
  rcases hown.2 with ⟨e1, h0⟩ | ⟨g, cap, cur, e1, hbg, hg, hnc, hcm, hcs, htake⟩
  · omega
  · injection e1 with e1 _ e3
    subst e1
    subst e3
    rcases A with _ | ad
    · obtain rfl := hn rfl
      obtain rfl : news = [] := List.eq_nil_of_length_eq_zero (by simpa using hl)
      refine ⟨some ⟨g, 0, none⟩, c0, w, ?_, by simpa using hown, World.grownBy.refl _ _⟩
      simp [Builtin.append_, run_underlying ht, sizeOf, typeInfo, hi, Builtin.lenOf, Builtin.firstCells, hnc, storeCells]
    · have hnews := hrd ad rfl
      by_cases hroom : n + m ≤ c0
      · have hfit2 : n * i0.size + news.length ≤ cur.size := by rw [hl, hcs, ← Nat.add_mul]; exact Nat.mul_le_mul_right _ hroom
        have hr := run_append_room (P := Try.prog) w t ty e i0 ht hi g n c0 cur hg ad m c news hl hnews h1 hroom hfit2
        refine ⟨_, _, _, hr, ⟨hlen, .inr ⟨g, c0, _, rfl, hbg, setRow_heap w g cur _ e _ hg, hroom, hcm, ?_, ?_⟩⟩, ⟨rfl, rfl, rfl, by simp, fun k _ hk => setRow_other w g k _ (fun e => hk (by simp [blk, e]))⟩⟩
        · simp only [List.size_toArray, List.length_append, List.length_take, List.length_drop, Array.length_toList]
          omega
        · rw [htake, ← hlen]
          exact List.take_left
      · have holds : ∀ j u, xs[j]? = some u → w.cell? ((⟨g, 0, none⟩ : Addr).add j) = some u := hown.cells (g := g) rfl
        have hr := run_append_grow (P := Try.prog) w t ty e i0 z ht hi hz ⟨g, 0, none⟩ n c0 xs hown.1 holds ad m c news hl hnews (by omega) hh63 (Nat.le_trans (Nat.mul_le_mul_right _ (nextcap_le (by omega))) hfit)
        have hge := grownCap_ge w (n + m) c0 e
        have hcm2 : grownCap w (n + m) c0 e ≤ maxLen := grownCap_le_maxLen w (n + m) c0 e hbig
        refine ⟨_, _, _, hr, ⟨hlen, .inr ⟨w.heap.size, _, _, rfl, hbase, heap_alloc_new w.drew _, hge, hcm2, ?_, ?_⟩⟩, ⟨rfl, rfl, rfl, by simp, fun k hk _ => Below.heap_alloc w.drew _ k hk⟩⟩
        · simp only [Array.size_append, List.size_toArray, size_zeroCells, hzs, hown.1, hl, ← Nat.add_mul]
          congr 1
          omega
        · simp only [Array.toList_append, List.append_assoc]
          rw [← List.append_assoc, ← hlen]
          exact List.take_left

theorem long_at {w : World} {ops : Array Oper} {rest : List Oper} {o : Oper} {a : Act} {Q : Exit → Act → World → Prop} (hgd : o.guard = none) (s x : Operand) {t e : TypeId} {size bytes : Nat} (hT : AppT Try.prog t e size bytes)
    (ho : o.op = .call { callee := .builtin .append, args := #[s, x], argTypes := #[t, t] })
    (base : Nat) (A0 : Option Addr) (c0 n : Nat) (hn0 : 0 < n) (xs : List Value) (hs : a.eval s = .slice A0 n c0) (hown : w.ownsRow base e size (.slice A0 n c0) n xs)
    (A : Option Addr) (c m : Nat) (news : List Value) (hx : a.eval x = .slice A m c) (hr : Read w A m size news) (hbig : n + m ≤ maxLen) (hfit : (n + m + (n + m) / 4 + 768) * bytes ≤ 281474976710656) (hbase : base ≤ w.heap.size)
    (h : ∀ A1 c1 w', w'.ownsRow base e size (.slice A1 (n + m) c1) (n + m) (xs ++ news) → w.grownBy w' (blk A0) → wpList Try.prog ops Q rest (a.put o.dst (.slice A1 (n + m) c1)) w') : wpList Try.prog ops Q (o :: rest) a w := by
  refine wpList_plain hgd fun K hK => ?_
  obtain ⟨A1, c1, w', hrun, h1, h2⟩ := run_long hT o.type base A0 c0 n hn0 xs hown A c m news hr hbig hfit hbase
  unfold Oper.wp
  simp [execOp, ho, resolve, invoke, builtin, hs, hx, hrun, Result.andThen]
  exact hK _ _ (h A1 c1 w' h1 h2)

end Go.Proofs.Ytbnedhhkapbliaa
