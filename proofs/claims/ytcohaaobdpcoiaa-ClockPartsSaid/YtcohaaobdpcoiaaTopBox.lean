/-
  A range over a function whose round's variable lies in a box. No program is named here.
-/
import Derived.Test.YtcohaaobdpcoiaaVecSeq
namespace Go.Proofs.Ytcohaaobdpcoiaa
open Go.RowKit
set_option linter.unusedVariables false
set_option linter.unusedSimpArgs false
section
variable {α : Type} {F : Fence} {n : Nat} {P : Program}
/-- .. where the round's variable is laid in a box. -/
theorem range_box {g : Operand} {ps : Array Tmp} {assign body : Code} {Q : Exit → Act → World → Prop} {a : Act} {w : World}
    (hro : F.round = none) (h1 : 1 ≤ n) {gf : Nat} {lb : Array Value} (hg : a.eval g = .func (.func gf) #[] lb) (hFg : F.fn gf) (eg : ∀ args w, (callFunc gf args).run P w = .ok (.enter gf args) w)
    {encs : α → Array Value} {Own : World → Nat → Prop} {Fact : Nat → α → World → Prop} {Kp : Nat → World → World → Prop} {Nx : List α → α → Prop} {S Sp : List α → Prop} (hseq : SeqOwn F (n - 1) P gf lb encs Own Fact Kp Nx S Sp w)
    (hown : ∀ W k, Own W k → ∃ o, W.heap[k]? = some o ∧ o.isCells = true)
    (hKt : ∀ {B : Nat} {X Y Z : World}, Kp B X Y → Kp B Y Z → Kp B X Z) (hKp : ∀ (B : Nat) (W : World) (k : Nat) (o o' : Obj), k < B → W.heap[k]? = some o → o.isCells = false → Kp B W (W.putObj k o')) (hps : ∀ x, (encs x).size = ps.size) (box : α → Obj) (hbc : ∀ x, (box x).isCells = true) (hKa : ∀ (B : Nat) (W : World) (o : Obj), Kp B W (W.alloc o)) (hFa : ∀ (B : Nat) (x : α) (W : World) (o : Obj), Fact B x W → Fact B x (W.alloc o))
    (hFp : ∀ (B : Nat) (x : α) (W : World) (k : Nat) (o o' : Obj), Fact B x W → W.heap[k]? = some o → o.isCells = false → Fact B x (W.putObj k o'))
    (I : List α → World → Prop) (Ix : Code → List α → World → Prop)
    (hIo : AbideOwn Own (w.heap.size + 2) I) (hIxo : ∀ c, AbideOwn Own (w.heap.size + 2) (Ix c))
    (hIp : ∀ s W k o o', I s W → w.heap.size ≤ k → W.heap[k]? = some o → o.isCells = false → I s (W.putObj k o'))
    (hIxp : ∀ c s W k o o', Ix c s W → w.heap.size ≤ k → W.heap[k]? = some o → o.isCells = false → Ix c s (W.putObj k o'))
    (h0 : ∀ W, Below w.heap.size w W → W.heap.size = w.heap.size + 2 → I [] W) (a₁ : α → Nat → Act)
    (hassign : ∀ (l : Nat) (x : α) (W : World) (K : Act → World → Prop), K (a₁ x W.heap.size) (W.alloc (box x)) →
      assign.wpIn (F.inRound l) (n - 1 - 1) P (Exit.then K (fun _ _ _ => False)) { tmps := (ps.zip (encs x)).foldl (fun t (p, v) => t.setIfInBounds p v) a.tmps, defers := [] } W)
    (hbody : ∀ (l : Nat) (pre : List α) (x : α) (g : Nat) (W : World), I pre W → w.heap.size + 2 ≤ W.heap.size → w.heap.size + 2 ≤ g → W.heap[g]? = some (box x) → Fact (w.heap.size + 2) x W → Nx pre x → body.wpIn (F.inRound l) (n - 1 - 1) P (roundOwn w.heap.size (w.heap.size + 2) Kp I Ix (pre ++ [x]) W) (a₁ x g) W)
    (hdone : ∀ (xs : List α) (W : World), S xs → I xs W → W.heap[w.heap.size]? = some (.deferred (some [])) → Q .normal { a with defers := { target := .collected w.heap.size, args := #[] } :: a.defers } W)
    (hstop : ∀ (c : Code) (pre : List α) (W : World), Sp pre → Ix c pre W → W.heap[w.heap.size]? = some (.deferred (some [])) → c.wpIn F n P Q { a with defers := { target := .collected w.heap.size, args := #[] } :: a.defers } W) :
    (Code.rangeFunc g ps assign body).wpIn F n P Q a w := by
  refine wpIn_rangeFunc fun fn hfn => ?_
  rw [hro]
  let r : LoopState → Option Code → Obj := fun st pe => .loop { state := st, pending := pe, fn, tmps := a.tmps, params := ps, assign, body, defers := w.heap.size }
  obtain ⟨W1, hW1⟩ : ∃ W1, W1 = (w.alloc (.deferred (some []))).alloc (r .ready none) := ⟨_, rfl⟩
  have hz1 : W1.heap.size = w.heap.size + 2 := by rw [hW1]; simp
  have hb1 : Below w.heap.size w W1 := by rw [hW1]; exact ((Below.refl _ w).alloc (Nat.le_refl _) _).alloc (by simp) _
  have hl1 : W1.heap[w.heap.size + 1]? = some (r .ready none) := by
    rw [hW1]; have := heap_alloc_new (w.alloc (.deferred (some []))) (r .ready none); rwa [World.size_alloc] at this
  have hd1 : W1.heap[w.heap.size]? = some (.deferred (some [])) := by
    rw [hW1]; exact (Below.heap_alloc _ _ _ (by simp)).trans (heap_alloc_new w _)
  refine ⟨w.heap.size + 1, [{ target := .collected w.heap.size, args := #[] }], W1, { target := .fn (.func gf) lb, args := #[.func (.yield (w.heap.size + 1)) #[] #[]] }, W1, gf, #[.func (.yield (w.heap.size + 1)) #[] #[]] ++ lb, W1, ?_, ?_, fun f' hf' => ?_, ?_, fun _ => h1, ?_⟩
  · rw [hW1]; exact run_enterLoop_outer _ _ _ _ _
  · simp only [resolve, hg]
    simp [go_sem]
  · simp [Target.leads] at hf'; subst hf'; exact hFg
  · simp [invoke, go_sem, eg]
  · refine (hseq (w.heap.size + 1)
      (fun pre W => I pre W ∧ W.heap[w.heap.size + 1]? = some (r .ready none) ∧ W.heap[w.heap.size]? = some (.deferred (some [])))
      (fun pre W => ∃ c, Ix c pre W ∧ W.heap[w.heap.size + 1]? = some (r .done (some c)) ∧ W.heap[w.heap.size]? = some (.deferred (some []))) W1 hb1
      (fun s X Y ⟨k1, k2, k3⟩ ht => ⟨hIo s X Y k1 (by rw [← hz1]; exact ht), turn_own hown ht k2 rfl, turn_own hown ht k3 rfl⟩)
      (fun s X Y ⟨c, k1, k2, k3⟩ ht => ⟨c, hIxo c s X Y k1 (by rw [← hz1]; exact ht), turn_own hown ht k2 rfl, turn_own hown ht k3 rfl⟩) ?_ ⟨h0 W1 hb1 hz1, hl1, hd1⟩).mono ?_
    · rintro pre x W ⟨hi, hl, hd⟩ hsz hf hnx
      rw [hz1] at hf hsz
      have hlt := lt_of_block hl
      have hy := run_yield (P := P) (args := encs x) hl (hps x)
      have hlA : (W.alloc (box x)).heap[w.heap.size + 1]? = some (r .ready none) := (Below.heap_alloc _ _ _ hlt).trans hl
      have hdA : (W.alloc (box x)).heap[w.heap.size]? = some (.deferred (some [])) := (Below.heap_alloc _ _ _ (lt_of_block hd)).trans hd
      have hiA : I pre (W.alloc (box x)) := hIo _ _ _ hi (Turn.of_below (S := fun _ => False) ((Below.refl _ W).alloc (Nat.le_refl _) _) |>.mono (fun i h => h.elim))
      have hgA : (W.alloc (box x)).heap[W.heap.size]? = some (box x) := heap_alloc_new W _
      refine ⟨fn, _, assign, body, hy, roundIn_of_wpIn hfn (hassign _ x W _ ⟨_, run_beginRound hlA rfl, ?_⟩)⟩
      obtain ⟨V, hV⟩ : ∃ V, V = (W.alloc (box x)).putObj (w.heap.size + 1) (r .busy none) := ⟨_, rfl⟩
      have hlV : V.heap[w.heap.size + 1]? = some (r .busy none) := by rw [hV]; exact World.putObj_heap_same (lt_of_block hlA)
      have hdV : V.heap[w.heap.size]? = some (.deferred (some [])) := by rw [hV]; exact (World.putObj_heap_other (by omega)).trans hdA
      have hkV : Kp W1.heap.size W V := by rw [hV]; exact hKt (hKa _ W (box x)) (hKp _ _ _ _ _ (by omega) hlA rfl)
      have hzV : w.heap.size + 2 ≤ V.heap.size := by rw [hV]; simp; omega
      have hiV : I pre V := by rw [hV]; exact hIp _ _ _ _ _ hiA (by omega) hlA rfl
      have hgV : V.heap[W.heap.size]? = some (box x) := by rw [hV]; exact (World.putObj_heap_other (by omega)).trans hgA
      have hfV : Fact (w.heap.size + 2) x V := by rw [hV]; exact hFp _ _ _ _ _ _ (hFa _ _ _ (box x) hf) hlA rfl
      have hgo : body.wpIn (F.inRound (w.heap.size + 1)) (n - 1 - 1) P (roundOwn w.heap.size (w.heap.size + 2) Kp I Ix (pre ++ [x]) V) (a₁ x W.heap.size) V := hbody _ pre x _ V hiV hzV hsz hgV hfV hnx
      rw [hV] at hgo
      refine wpIn_mono hgo ?_
      rw [← hV]
      have fin : ∀ (jump : Option Code) (X : World), KeepsFrom w.heap.size V X → (Instr.endRound (w.heap.size + 1) jump).run P X = .ok (.bool jump.isNone) (X.putObj (w.heap.size + 1) (r (if jump.isNone then .ready else .done) jump)) ∧ X.heap[w.heap.size + 1]? = some (r .busy none) ∧ X.heap[w.heap.size]? = some (.deferred (some [])) := fun jump X hk => by
        have hlX := hk.same _ _ (by omega) hlV rfl
        exact ⟨run_endRound (P := P) jump hlX, hlX, hk.same _ _ (Nat.le_refl _) hdV rfl⟩
      rintro e a3 X hp
      cases e with
      | normal =>
        obtain ⟨hk, hkp, hiX⟩ := hp
        obtain ⟨hr, hlX, hdX⟩ := fin none X hk
        exact ⟨_, _, hr, .inl ⟨rfl, ⟨hIp _ _ _ _ _ hiX (by omega) hlX rfl, World.putObj_heap_same (lt_of_block hlX), (World.putObj_heap_other (by omega)).trans hdX⟩, hKt (hKt hkV (by rw [hz1]; exact hkp)) (hKp _ _ _ _ _ (by omega) hlX rfl)⟩⟩
      | exit id =>
        obtain ⟨hk, hiX⟩ := hp
        obtain ⟨hr, hlX, hdX⟩ := fin (some (.exit id)) X hk
        exact ⟨_, _, hr, .inr ⟨rfl, .exit id, hIxp _ _ _ _ _ _ hiX (by omega) hlX rfl, World.putObj_heap_same (lt_of_block hlX), (World.putObj_heap_other (by omega)).trans hdX⟩⟩
      | ret =>
        obtain ⟨hk, hiX⟩ := hp
        obtain ⟨hr, hlX, hdX⟩ := fin (some .ret) X hk
        exact ⟨_, _, hr, .inr ⟨rfl, .ret, hIxp _ _ _ _ _ _ hiX (by omega) hlX rfl, World.putObj_heap_same (lt_of_block hlX), (World.putObj_heap_other (by omega)).trans hdX⟩⟩
      | goto t => exact hp.elim
      | panic ch => exact hp.elim
      | outgrown => exact hp.elim
    · rintro e W2 ⟨⟨v, rfl⟩, (⟨xs, hS, hi, hl, hd⟩ | ⟨pre, hSp, c, hi, hl, hd⟩)⟩
      · exact ⟨none, _, run_endLoop (P := P) hl (by simp), hdone xs _ hS (hIp _ _ _ _ _ hi (by omega) hl rfl) ((World.putObj_heap_other (by omega)).trans hd)⟩
      · exact ⟨some c, _, run_endLoop (P := P) hl (by simp), hstop c pre _ hSp (hIxp _ _ _ _ _ _ hi (by omega) hl rfl) ((World.putObj_heap_other (by omega)).trans hd)⟩
end
end Go.Proofs.Ytcohaaobdpcoiaa
