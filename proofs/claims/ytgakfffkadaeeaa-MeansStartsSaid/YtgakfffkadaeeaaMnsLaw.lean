/-
  For the laws that ask the document's answer: a row of the call's own with more behind it; numbers that are turned.
-/
import Derived.Test.YtgakfffkadaeeaaMnsRefB
namespace Go.Proofs.Ytgakfffkadaeeaa
open Go.RowKit Go.Shelf
set_option linter.unusedVariables false
set_option linter.unusedSimpArgs false
set_option maxRecDepth 100000

theorem own_append {w0 w1 W : World} {A : Option Addr} {c : Nat} {q r : List Pv} (ho : OwnVs w0.heap.size w1 A c q) (hb : Below w0.heap.size w0 w1) (hW : Below w1.heap.size w1 W) (hr : ∀ p ∈ r, Vec .i32 w0 p.B p.c p.x) :
    W.ownsRow w0.heap.size 35 1 (.slice A q.length c) q.length (flatV q) ∧ w0.heap.size ≤ W.heap.size ∧ ∀ A3 c3 W', W'.ownsRow w0.heap.size 35 1 (.slice A3 (q.length + r.length) c3) (q.length + r.length) (flatV q ++ flatV r) → W.grownBy W' (blk A) → Vecs .i32 W' A3 c3 (vals q ++ vals r) ∧ Below w0.heap.size w0 W' := by
  have ho2 := ho.below hW
  have hb2 := below_tr hb hW
  refine ⟨ho2.row, hb2.size, fun A3 c3 W' h1 hg => ?_⟩
  have hbw : Below w0.heap.size w0 W' := hb2.trans (grown_below hg hb2.size (fun i hi => (ho2.row.low i hi).1))
  have hrow : RowV w0.heap.size W' A3 c3 (q ++ r) := by unfold RowV; rw [flatV_append, List.length_append]; exact h1
  have hv := hrow.vecs (fun p hp => by
    rcases List.mem_append.1 hp with hp | hp
    · exact ((ho2.el p hp).other ho2.row (Turn.of_grown hg (fun i hi => .inl hi))).vec
    · exact (hr p hp).below hbw)
  rw [vals_append] at hv
  exact ⟨hv, hbw⟩

/-! ### numbers that are turned -/
/-- So many numbers, whatever they are, in a block from base on. -/
def IntsAt (base : Nat) (W : World) (B : Option Addr) (n : Nat) : Prop := n = 0 ∨ ∃ b cur, B = some ⟨b, 0, none⟩ ∧ base ≤ b ∧ W.heap[b]? = some (.cells cur 21 (0, 0)) ∧ ∀ k, k < n → ∃ y, cur[k]? = some (.int .i32 y)
structure Mut (base : Nat) (W : World) (A : Option Addr) (c : Nat) (q : List Pv) : Prop where
  row : RowV base W A c q
  el : ∀ p ∈ q, IntsAt base W p.B p.x.length
theorem OwnV.ints {base : Nat} {W : World} {B : Option Addr} {c : Nat} {xs : List Int} (h : OwnV base W B c xs) : IntsAt base W B xs.length := by
  rcases h.1.2 with ⟨e, h0⟩ | ⟨g, cap, cur, e, hg, hh, hnc, hcm, hsz, hcs⟩
  · exact .inl h0
  · injection e with e1
    refine .inr ⟨g, cur, e1, hg, hh, fun k hk => ?_⟩
    rw [Nat.mul_one] at hcs
    have : cur[k]? = (cur.toList.take xs.length)[k]? := by rw [List.getElem?_take, if_pos hk, Array.getElem?_toList]
    rw [this, hcs, List.getElem?_map, List.getElem?_eq_getElem hk]
    exact ⟨_, rfl⟩
theorem OwnVs.mut {base : Nat} {W : World} {A : Option Addr} {c : Nat} {q : List Pv} (h : OwnVs base W A c q) : Mut base W A c q := ⟨h.row, fun p hp => (h.el p hp).ints⟩
theorem IntsAt.below {base : Nat} {W W' : World} {B : Option Addr} {n : Nat} (h : IntsAt base W B n) (hb : Below W.heap.size W W') : IntsAt base W' B n := by
  rcases h with h | ⟨b, cur, h1, h2, h3, h4⟩
  · exact .inl h
  · exact .inr ⟨b, cur, h1, h2, (hb.block _ (lt_of_block h3)).trans h3, h4⟩
theorem Mut.below {base : Nat} {W W' : World} {A : Option Addr} {c : Nat} {q : List Pv} (h : Mut base W A c q) (hb : Below W.heap.size W W') : Mut base W' A c q := ⟨h.row.below hb, fun p hp => (h.el p hp).below hb⟩
theorem Mut.mono {base b : Nat} {W : World} {A : Option Addr} {c : Nat} {q : List Pv} (h : Mut base W A c q) (hb : b ≤ base) : Mut b W A c q := ⟨h.row.mono hb, fun p hp => by
  rcases h.el p hp with h0 | ⟨g, cur, h1, h2, h3, h4⟩
  · exact .inl h0
  · exact .inr ⟨g, cur, h1, by omega, h3, h4⟩⟩
/-- A number is turned. -/
theorem Mut.set {base : Nat} {W : World} {A : Option Addr} {c : Nat} {q : List Pv} (h : Mut base W A c q) {b k : Nat} {cur : Array Value} (h3 : W.heap[b]? = some (.cells cur 21 (0, 0))) (y' : Int) : Mut base (W.setCell ⟨b, k, none⟩ (.int .i32 y')) A c q := by
  have ht : Turn (fun i => i = b) W (W.setCell ⟨b, k, none⟩ (.int .i32 y')) := turn_set W b k _
  have hset : (W.setCell ⟨b, k, none⟩ (.int .i32 y')).heap[b]? = some (.cells (cur.setIfInBounds k (.int .i32 y')) 21 (0, 0)) := heap_set h3 k _
  refine ⟨h.row.turn ht (fun i hi e => ?_), fun p' hp' => ?_⟩
  · subst e
    rcases h.row.2 with ⟨e, h0⟩ | ⟨g', cap, cur', e, _, hh, _⟩
    · injection e with e1; rw [e1] at hi; cases hi
    · injection e with e1
      rw [e1] at hi
      have : g' = i := by simpa [blk] using hi
      subst this
      rw [h3] at hh
      injection hh with hh
      injection hh with _ ht _
      exact absurd ht (by decide)
  · rcases h.el p' hp' with h0 | ⟨b', cur', k1, k2, k3, k4⟩
    · exact .inl h0
    · by_cases hb : b' = b
      · subst hb
        rw [h3] at k3
        injection k3 with k3
        injection k3 with k3
        subst k3
        refine .inr ⟨b', _, k1, k2, hset, fun j hj => ?_⟩
        rw [Array.getElem?_setIfInBounds]
        by_cases hkj : k = j
        · subst hkj
          obtain ⟨y2, hy2⟩ := k4 k hj
          have : k < cur.size := (Array.getElem?_eq_some_iff.1 hy2).1
          simp [this]
        · rw [if_neg hkj]; exact k4 j hj
      · exact .inr ⟨b', cur', k1, k2, (ht.block _ (lt_of_block k3) hb).trans k3, k4⟩
theorem Mut.at_ {base : Nat} {W : World} {A : Option Addr} {c : Nat} {q : List Pv} (h : Mut base W A c q) {i : Nat} {p : Pv} (hp : q[i]? = some p) : ∃ g, A = some ⟨g, 0, none⟩ ∧ W.cell? ⟨g, i, none⟩ = some (.slice p.B p.x.length p.c) ∧
    ∀ k, k < p.x.length → ∃ b y, p.B = some ⟨b, 0, none⟩ ∧ base ≤ b ∧ W.cell? ⟨b, k, none⟩ = some (.int .i32 y) ∧ W.frozen? ⟨b, k, none⟩ = false ∧ ∀ y' A' c' q', Mut base W A' c' q' → Mut base (W.setCell ⟨b, k, none⟩ (.int .i32 y')) A' c' q' := by
  obtain ⟨g, hg, hbg, hgl, hc, hf⟩ := h.row.at_ hp
  refine ⟨g, hg, hc, fun k hk => ?_⟩
  rcases h.el p (List.mem_of_getElem? hp) with h0 | ⟨b, cur, h1, h2, h3, h4⟩
  · omega
  · obtain ⟨y, hy⟩ := h4 k hk
    exact ⟨b, y, h1, h2, by simp [World.cell?, h3, hy], by simp [World.frozen?, h3], fun y' A' c' q' h' => h'.set h3 y'⟩
end Go.Proofs.Ytgakfffkadaeeaa
