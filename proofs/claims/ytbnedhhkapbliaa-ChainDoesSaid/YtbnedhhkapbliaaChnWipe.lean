/-
  What a law writes into a chain that was handed out: its Ends and its vectors, whatever they hold; chains that are few.
-/
import Derived.Test.YtbnedhhkapbliaaChnWakes
namespace Go.Proofs.Ytbnedhhkapbliaa
open Go.RowKit Go.Shelf
set_option linter.unusedVariables false
set_option linter.unusedSimpArgs false
set_option maxRecDepth 100000

structure Few (l : List Vr) : Prop where
  few : l.length ≤ 97
  dims : ∀ v ∈ l, v.x.length ≤ 5
theorem few_few (l : List Vr) : Few (fewM l) := ⟨few_le, fun v hv => by
  unfold fewM at hv
  obtain ⟨u, _, rfl⟩ := List.mem_map.1 hv
  unfold v5; simp; omega⟩
theorem Few.small {q : List Pl} {l : List Vr} (h : Few l) (e : vals q = l) : Small q := small_of e (by have := h.few; omega) (fun v hv => by have := h.dims v hv; omega)
theorem few_nil : Few [] := ⟨by simp, by simp⟩
theorem few_end {ts : Int} {l : List Vr} (h : Few l) : Few (endM ts l) := ⟨by unfold endM; rw [List.length_map]; exact h.few, fun v hv => by
  unfold endM at hv
  obtain ⟨u, hu, rfl⟩ := List.mem_map.1 hv
  unfold endV
  split <;> exact h.dims u hu⟩
theorem few_filter {P : Vr → Bool} {l : List Vr} (h : Few l) : Few (l.filter P) := ⟨Nat.le_trans (List.length_filter_le _ _) h.few, fun v hv => h.dims v (List.mem_filter.1 hv).1⟩
theorem run_few {K ts : Int} {l : List Vr} {x : List Int} (h : Few l) (hx : x.length ≤ 5) : Few (runN K ts l x) ∧ Few (runG K ts l) := by
  have h1 : Few (delN l ts) := by unfold delN; split <;> first | exact few_end h | exact few_nil
  have h2 : Few (pruN l ts) := by unfold pruN; split <;> first | exact few_filter h | exact few_nil
  have h3 : Few (pruG l ts) := by unfold pruG; split <;> first | exact few_filter h | exact few_nil
  have h4 : Few (putN l ts x) := by
    unfold putN
    split
    · rename_i he
      have hr : refM l ts = 0 := by
        unfold putE at he
        split at he
        · assumption
        · assumption
      have hg := ref_good hr
      refine ⟨?_, fun v hv => ?_⟩
      · have := hg.few; unfold endM; simp; omega
      · rcases List.mem_append.1 hv with hv | hv
        · exact (few_end h).dims v hv
        · obtain rfl : v = ⟨ts, 0, x⟩ := by simpa using hv
          exact hx
    · exact few_nil
  unfold runN runG
  split
  · exact ⟨h1, few_nil⟩
  · split
    · exact ⟨h2, h3⟩
    · exact ⟨h4, few_nil⟩

def VecW (base : Nat) (W : World) (y : Option Addr × Nat × Nat) : Prop := ∃ ys : List Value, W.ownsRow base 21 1 (.slice y.1 y.2.1 y.2.2) y.2.1 ys ∧ ∀ u ∈ ys, ∃ z, u = .int .i32 z
def Wipe (base : Nat) (W : World) (A : Option Addr) (c m : Nat) (hd : Nat → Option Addr × Nat × Nat) : Prop :=
  ∃ us : List Value, W.ownsRow base 35 3 (.slice A m c) m us ∧ ∀ k, k < m → (∃ f, us[k * 3 + 1]? = some (.int .u64 f)) ∧ us[k * 3 + 2]? = some (.slice (hd k).1 (hd k).2.1 (hd k).2.2) ∧ VecW base W (hd k)
theorem OwnC.wipe {base : Nat} {W : World} {A : Option Addr} {c : Nat} {q : List Pl} (h : OwnC base W A c q) : ∃ hd, Wipe base W A c q.length hd := by
  refine ⟨fun k => match q[k]? with | some p => (p.B, p.v.x.length, p.c) | none => (none, 0, 0), flatC q, h.row, fun k hk => ?_⟩
  have hp := List.getElem?_eq_getElem hk
  obtain ⟨h0, h1, h2⟩ := flatC_get q k _ hp
  dsimp only
  rw [hp]
  exact ⟨⟨_, h1⟩, h2, _, (h.el _ (List.getElem_mem hk)).1, by simp⟩
theorem ver_apart {base b2 n n2 : Nat} {W : World} {g b c c2 : Nat} {xs ys : List Value} (h : W.ownsRow base 35 3 (.slice (some ⟨g, 0, none⟩) n c) n xs) (k : W.ownsRow b2 21 1 (.slice (some ⟨b, 0, none⟩) n2 c2) n2 ys) : g ≠ b := by
  rintro rfl
  rcases h.2 with ⟨e, _⟩ | ⟨g1, _, _, e, _, hh, _⟩
  · injection e with e1; cases e1
  · injection e with e1; injection e1 with e1; injection e1 with e1; subst e1
    rcases k.2 with ⟨e, _⟩ | ⟨g2, _, _, e, _, hk, _⟩
    · injection e with e1; cases e1
    · injection e with e1; injection e1 with e1; injection e1 with e1; subst e1
      rw [hh] at hk
      injection hk with hk
      injection hk with _ ht _
      exact absurd ht (by decide)
theorem row_form {base n c : Nat} {W : World} {e : TypeId} {s : Nat} {A : Option Addr} {xs : List Value} (h : W.ownsRow base e s (.slice A n c) n xs) (hn : 0 < n) : ∃ g, A = some ⟨g, 0, none⟩ ∧ base ≤ g ∧ g < W.heap.size := by
  rcases h.2 with ⟨e, h0⟩ | ⟨g, _, _, e, hb, hh, _⟩
  · omega
  · injection e with e1; exact ⟨g, e1, hb, lt_of_block hh⟩
theorem own_none {base n c : Nat} {W W' : World} {e : TypeId} {s : Nat} {xs : List Value} (h : W.ownsRow base e s (.slice none n c) n xs) : W'.ownsRow base e s (.slice none n c) n xs := by
  rcases h.2 with ⟨e, h0⟩ | ⟨g, _, _, e, _⟩
  · exact ⟨h.1, .inl ⟨e, h0⟩⟩
  · injection e with e1; cases e1
theorem own_some {base n c : Nat} {W : World} {e : TypeId} {s : Nat} {A : Option Addr} {xs : List Value} (h : W.ownsRow base e s (.slice A n c) n xs) : A = none ∨ ∃ g, A = some ⟨g, 0, none⟩ := by
  rcases h.2 with ⟨e, h0⟩ | ⟨g, _, _, e, hb, hh, _⟩
  · injection e with e1; exact .inl e1
  · injection e with e1; exact .inr ⟨g, e1⟩
theorem VecW.set {base : Nat} {W : World} {y : Option Addr × Nat × Nat} {b c2 n2 j : Nat} {zs : List Value} {v : Value} (h : VecW base W y) (hv : W.ownsRow base 21 1 (.slice (some ⟨b, 0, none⟩) n2 c2) n2 zs ∧ (∃ z, v = .int .i32 z) ∨ W.ownsRow base 35 3 (.slice (some ⟨b, 0, none⟩) n2 c2) n2 zs) : VecW base (W.setCell ⟨b, j, none⟩ v) y := by
  obtain ⟨ys, h1, h2⟩ := h
  obtain ⟨A, m, d⟩ := y
  dsimp only at h1
  rcases own_some h1 with rfl | ⟨g, rfl⟩
  · exact ⟨ys, own_none h1, h2⟩
  · by_cases hg : g = b
    · subst hg
      rcases hv with ⟨hv, z, rfl⟩ | hv
      · exact ⟨ys.set j (.int .i32 z), (h1.stored j _).1, fun u hu => (List.mem_or_eq_of_mem_set hu).elim (h2 u) (fun e => ⟨z, e⟩)⟩
      · exact absurd rfl (ver_apart hv h1)
    · exact ⟨ys, row_turn h1 (turn_set W b j v) (fun i hi e => by have h9 : g = i := (by simpa [Value.ownBlock] using hi); omega), h2⟩
theorem Wipe.setEnd {base g c m k : Nat} {W : World} {hd : Nat → Option Addr × Nat × Nat} {t : Int} (h : Wipe base W (some ⟨g, 0, none⟩) c m hd) (hk : k < m) : Wipe base (W.setCell ⟨g, k * 3 + 1, none⟩ (.int .u64 t)) (some ⟨g, 0, none⟩) c m hd := by
  obtain ⟨us, h1, h2⟩ := h
  refine ⟨us.set (k * 3 + 1) (.int .u64 t), (h1.stored _ _).1, fun i hi => ?_⟩
  obtain ⟨⟨f, e1⟩, e2, e3⟩ := h2 i hi
  refine ⟨?_, ?_, e3.set (.inr h1)⟩
  · rw [List.getElem?_set]
    by_cases he : k * 3 + 1 = i * 3 + 1
    · rw [if_pos he]
      have := h1.1
      rw [if_pos (by omega)]
      exact ⟨_, rfl⟩
    · rw [if_neg he]; exact ⟨f, e1⟩
  · rw [List.getElem?_set, if_neg (by omega)]; exact e2
theorem Wipe.setVec {base g c m k b j n cb : Nat} {W : World} {hd : Nat → Option Addr × Nat × Nat} {z : Int} (h : Wipe base W (some ⟨g, 0, none⟩) c m hd) (hk : k < m) (hh : hd k = (some ⟨b, 0, none⟩, n, cb)) : Wipe base (W.setCell ⟨b, j, none⟩ (.int .i32 z)) (some ⟨g, 0, none⟩) c m hd := by
  obtain ⟨us, h1, h2⟩ := h
  obtain ⟨ys, h3, _⟩ := (h2 k hk).2.2
  rw [hh] at h3
  dsimp only at h3
  have hne := ver_apart h1 h3
  refine ⟨us, row_turn h1 (turn_set W b j _) (fun i hi e => by have h9 : g = i := (by simpa [Value.ownBlock] using hi); omega), fun i hi => ?_⟩
  obtain ⟨e1, e2, e3⟩ := h2 i hi
  exact ⟨e1, e2, e3.set (.inl ⟨h3, z, rfl⟩)⟩
theorem Wipe.cells {base g c m k : Nat} {W : World} {hd : Nat → Option Addr × Nat × Nat} (h : Wipe base W (some ⟨g, 0, none⟩) c m hd) (hk : k < m) :
    (∃ f, W.cell? ⟨g, k * 3 + 1, none⟩ = some (.int .u64 f)) ∧ W.frozen? ⟨g, k * 3 + 1, none⟩ = false ∧ W.cell? ⟨g, k * 3 + 2, none⟩ = some (.slice (hd k).1 (hd k).2.1 (hd k).2.2) ∧ VecW base W (hd k) := by
  obtain ⟨us, h1, h2⟩ := h
  obtain ⟨⟨f, e1⟩, e2, e3⟩ := h2 k hk
  exact ⟨⟨f, (h1.cellAt _ (by omega)).trans e1⟩, h1.frozenAt _, (h1.cellAt _ (by omega)).trans e2, e3⟩
theorem VecW.at_ {base : Nat} {W : World} {A : Option Addr} {n c : Nat} (h : VecW base W (A, n, c)) {j : Nat} (hj : j < n) : ∃ b z, A = some ⟨b, 0, none⟩ ∧ base ≤ b ∧ b < W.heap.size ∧ W.cell? ⟨b, j, none⟩ = some (.int .i32 z) ∧ W.frozen? ⟨b, j, none⟩ = false := by
  obtain ⟨ys, h1, h2⟩ := h
  dsimp only at h1
  obtain ⟨b, rfl, hb, hbl⟩ := row_form h1 (by omega)
  have hl := h1.1
  obtain ⟨z, hz⟩ := h2 ys[j] (List.getElem_mem (by omega))
  exact ⟨b, z, rfl, hb, hbl, by rw [h1.cellAt j (by omega), List.getElem?_eq_getElem (by omega), hz], h1.frozenAt j⟩
theorem Wipe.turn {base c m : Nat} {W W' : World} {A : Option Addr} {hd : Nat → Option Addr × Nat × Nat} {S : Nat → Prop} (h : Wipe base W A c m hd) (ht : Turn S W W') (hS : ∀ i, base ≤ i → i < W.heap.size → ¬ S i) : Wipe base W' A c m hd := by
  obtain ⟨us, h1, h2⟩ := h
  refine ⟨us, row_turn h1 ht (fun i hi => hS i (h1.lt i hi).1 (h1.lt i hi).2), fun k hk => ?_⟩
  obtain ⟨e1, e2, ys, e3, e4⟩ := h2 k hk
  exact ⟨e1, e2, ys, row_turn e3 ht (fun i hi => hS i (e3.lt i hi).1 (e3.lt i hi).2), e4⟩
theorem Wipe.below {base c m : Nat} {W W' : World} {A : Option Addr} {hd : Nat → Option Addr × Nat × Nat} (h : Wipe base W A c m hd) (hb : Below W.heap.size W W') : Wipe base W' A c m hd := h.turn (Turn.of_below (S := fun _ => False) hb) (fun _ _ _ e => e)
theorem VecW.size {base : Nat} {W : World} {y : Option Addr × Nat × Nat} (h : VecW base W y) : y.2.1 ≤ y.2.2 ∧ y.2.2 ≤ 9223372036854775807 := by
  obtain ⟨ys, h1, _⟩ := h
  rcases h1.2 with ⟨e, h0⟩ | ⟨g, cap, _, e, _, _, hnc, hcm, _⟩
  · injection e with _ e2 e3; omega
  · injection e with _ e2 e3; unfold maxLen at hcm; omega

end Go.Proofs.Ytbnedhhkapbliaa
