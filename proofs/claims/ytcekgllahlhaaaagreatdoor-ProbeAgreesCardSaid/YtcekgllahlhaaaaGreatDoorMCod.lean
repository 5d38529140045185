/-
  TopBox, ChnBox, CodCheck, CodSame, CodRefC.
-/
import Derived.Test.YtcekgllahlhaaaaGreatDoorMVec
namespace Go.Proofs.YtcekgllahlhaaaaGreatDoor
open Go.RowKit
set_option linter.unusedVariables false
set_option linter.unusedSimpArgs false
section
variable {α : Type} {F : Fence} {n : Nat} {P : Program}
/-- .. where the round's variable is laid in a box. -/
theorem range_box {g : Operand} {ps : Array Tmp} {assign body : Code} {Q : Exit → Act → World → Prop} {a : Act} {w : World}
    (hro : F.round = none) (h1 : 1 ≤ n) {gf : Nat} {lb : Array Value} (hg : a.eval g = .func (.func gf) #[] lb) (hFg : F.fn gf) (eg : ∀ args w, (callFunc gf args).run P w = .ok (.enter gf args) w)
    {encs : α → Array Value} {Own : World → Nat → Prop} {Fact : Nat → α → World → Prop} {Kp : Nat → World → World → Prop} {Nx : List α → α → Prop} {S Sp : List α → Prop} (hseq : SeqOwn F (n - 1) P gf lb encs Own Fact Kp Nx S Sp w)
    (hown : ∀ W k, Own W k → ∃ o, W.heap[k]? = some o ∧ o.isCells = true)
    (hKt : ∀ {B : Nat} {X Y Z : World}, Kp B X Y → Kp B Y Z → Kp B X Z) (hKp : ∀ (B : Nat) (W : World) (k : Nat) (o o' : Obj), k < B → W.heap[k]? = some o → o.isCells = false → Kp B W (W.putObj k o')) (hps : ∀ x, (encs x).size = ps.size) (box : α → Obj) (hbc : ∀ x, (box x).isCells = true) (hKa : ∀ (B : Nat) (W : World) (o : Obj), Kp B W (W.alloc o)) (hFa : ∀ (B : Nat) (x : α) (W : World) (o : Obj), Fact B x W → Fact B x (W.alloc o))
    (hFp : ∀ (B : Nat) (x : α) (W : World) (k : Nat) (o o' : Obj), Fact B x W → W.heap[k]? = some o → o.isCells = false → Fact B x (W.putObj k o'))
    (I : List α → World → Prop) (Ix : Code → List α → World → Prop)
    (hIo : AbideOwn Own (w.heap.size + 2) I) (hIxo : ∀ c, AbideOwn Own (w.heap.size + 2) (Ix c))
    (hIp : ∀ s W k o o', I s W → w.heap.size ≤ k → W.heap[k]? = some o → o.isCells = false → I s (W.putObj k o'))
    (hIxp : ∀ c s W k o o', Ix c s W → w.heap.size ≤ k → W.heap[k]? = some o → o.isCells = false → Ix c s (W.putObj k o'))
    (h0 : ∀ W, Below w.heap.size w W → W.heap.size = w.heap.size + 2 → I [] W) (a₁ : α → Nat → Act)
    (hassign : ∀ (l : Nat) (x : α) (W : World) (K : Act → World → Prop), K (a₁ x W.heap.size) (W.alloc (box x)) →
      assign.wpIn (F.inRound l) (n - 1 - 1) P (Exit.then K (fun _ _ _ => False)) { tmps := (ps.zip (encs x)).foldl (fun t (p, v) => t.setIfInBounds p v) a.tmps, defers := [] } W)
    (hbody : ∀ (l : Nat) (pre : List α) (x : α) (g : Nat) (W : World), I pre W → w.heap.size + 2 ≤ W.heap.size → w.heap.size + 2 ≤ g → W.heap[g]? = some (box x) → Fact (w.heap.size + 2) x W → Nx pre x → body.wpIn (F.inRound l) (n - 1 - 1) P (roundOwn w.heap.size (w.heap.size + 2) Kp I Ix (pre ++ [x]) W) (a₁ x g) W)
    (hdone : ∀ (xs : List α) (W : World), S xs → I xs W → W.heap[w.heap.size]? = some (.deferred (some [])) → Q .normal { a with defers := { target := .collected w.heap.size, args := #[] } :: a.defers } W)
    (hstop : ∀ (c : Code) (pre : List α) (W : World), Sp pre → Ix c pre W → W.heap[w.heap.size]? = some (.deferred (some [])) → c.wpIn F n P Q { a with defers := { target := .collected w.heap.size, args := #[] } :: a.defers } W) :
    (Code.rangeFunc g ps assign body).wpIn F n P Q a w := by
  refine wpIn_rangeFunc fun fn hfn => ?_
  rw [hro]
  let r : LoopState → Option Code → Obj := fun st pe => .loop { state := st, pending := pe, fn, tmps := a.tmps, params := ps, assign, body, defers := w.heap.size }
  obtain ⟨W1, hW1⟩ : ∃ W1, W1 = (w.alloc (.deferred (some []))).alloc (r .ready none) := ⟨_, rfl⟩
  have hz1 : W1.heap.size = w.heap.size + 2 := by rw [hW1]; simp
  have hb1 : Below w.heap.size w W1 := by rw [hW1]; exact ((Below.refl _ w).alloc (Nat.le_refl _) _).alloc (by simp) _
  have hl1 : W1.heap[w.heap.size + 1]? = some (r .ready none) := by
    rw [hW1]; have := heap_alloc_new (w.alloc (.deferred (some []))) (r .ready none); rwa [World.size_alloc] at this
  have hd1 : W1.heap[w.heap.size]? = some (.deferred (some [])) := by
    rw [hW1]; exact (Below.heap_alloc _ _ _ (by simp)).trans (heap_alloc_new w _)
  refine ⟨w.heap.size + 1, [{ target := .collected w.heap.size, args := #[] }], W1, { target := .fn (.func gf) lb, args := #[.func (.yield (w.heap.size + 1)) #[] #[]] }, W1, gf, #[.func (.yield (w.heap.size + 1)) #[] #[]] ++ lb, W1, ?_, ?_, fun f' hf' => ?_, ?_, fun _ => h1, ?_⟩
  · rw [hW1]; exact run_enterLoop_outer _ _ _ _ _
  · simp only [resolve, hg]
    simp [go_sem]
  · simp [Target.leads] at hf'; subst hf'; exact hFg
  · simp [invoke, go_sem, eg]
  · refine (hseq (w.heap.size + 1)
      (fun pre W => I pre W ∧ W.heap[w.heap.size + 1]? = some (r .ready none) ∧ W.heap[w.heap.size]? = some (.deferred (some [])))
      (fun pre W => ∃ c, Ix c pre W ∧ W.heap[w.heap.size + 1]? = some (r .done (some c)) ∧ W.heap[w.heap.size]? = some (.deferred (some []))) W1 hb1
      (fun s X Y ⟨k1, k2, k3⟩ ht => ⟨hIo s X Y k1 (by rw [← hz1]; exact ht), turn_own hown ht k2 rfl, turn_own hown ht k3 rfl⟩)
      (fun s X Y ⟨c, k1, k2, k3⟩ ht => ⟨c, hIxo c s X Y k1 (by rw [← hz1]; exact ht), turn_own hown ht k2 rfl, turn_own hown ht k3 rfl⟩) ?_ ⟨h0 W1 hb1 hz1, hl1, hd1⟩).mono ?_
    · rintro pre x W ⟨hi, hl, hd⟩ hsz hf hnx
      rw [hz1] at hf hsz
      have hlt := lt_of_block hl
      have hy := run_yield (P := P) (args := encs x) hl (hps x)
      have hlA : (W.alloc (box x)).heap[w.heap.size + 1]? = some (r .ready none) := (Below.heap_alloc _ _ _ hlt).trans hl
      have hdA : (W.alloc (box x)).heap[w.heap.size]? = some (.deferred (some [])) := (Below.heap_alloc _ _ _ (lt_of_block hd)).trans hd
      have hiA : I pre (W.alloc (box x)) := hIo _ _ _ hi (Turn.of_below (S := fun _ => False) ((Below.refl _ W).alloc (Nat.le_refl _) _) |>.mono (fun i h => h.elim))
      have hgA : (W.alloc (box x)).heap[W.heap.size]? = some (box x) := heap_alloc_new W _
      refine ⟨fn, _, assign, body, hy, roundIn_of_wpIn hfn (hassign _ x W _ ⟨_, run_beginRound hlA rfl, ?_⟩)⟩
      obtain ⟨V, hV⟩ : ∃ V, V = (W.alloc (box x)).putObj (w.heap.size + 1) (r .busy none) := ⟨_, rfl⟩
      have hlV : V.heap[w.heap.size + 1]? = some (r .busy none) := by rw [hV]; exact World.putObj_heap_same (lt_of_block hlA)
      have hdV : V.heap[w.heap.size]? = some (.deferred (some [])) := by rw [hV]; exact (World.putObj_heap_other (by omega)).trans hdA
      have hkV : Kp W1.heap.size W V := by rw [hV]; exact hKt (hKa _ W (box x)) (hKp _ _ _ _ _ (by omega) hlA rfl)
      have hzV : w.heap.size + 2 ≤ V.heap.size := by rw [hV]; simp; omega
      have hiV : I pre V := by rw [hV]; exact hIp _ _ _ _ _ hiA (by omega) hlA rfl
      have hgV : V.heap[W.heap.size]? = some (box x) := by rw [hV]; exact (World.putObj_heap_other (by omega)).trans hgA
      have hfV : Fact (w.heap.size + 2) x V := by rw [hV]; exact hFp _ _ _ _ _ _ (hFa _ _ _ (box x) hf) hlA rfl
      have hgo : body.wpIn (F.inRound (w.heap.size + 1)) (n - 1 - 1) P (roundOwn w.heap.size (w.heap.size + 2) Kp I Ix (pre ++ [x]) V) (a₁ x W.heap.size) V := hbody _ pre x _ V hiV hzV hsz hgV hfV hnx
      rw [hV] at hgo
      refine wpIn_mono hgo ?_
      rw [← hV]
      have fin : ∀ (jump : Option Code) (X : World), KeepsFrom w.heap.size V X → (Instr.endRound (w.heap.size + 1) jump).run P X = .ok (.bool jump.isNone) (X.putObj (w.heap.size + 1) (r (if jump.isNone then .ready else .done) jump)) ∧ X.heap[w.heap.size + 1]? = some (r .busy none) ∧ X.heap[w.heap.size]? = some (.deferred (some [])) := fun jump X hk => by
        have hlX := hk.same _ _ (by omega) hlV rfl
        exact ⟨run_endRound (P := P) jump hlX, hlX, hk.same _ _ (Nat.le_refl _) hdV rfl⟩
      rintro e a3 X hp
      cases e with
      | normal =>
        obtain ⟨hk, hkp, hiX⟩ := hp
        obtain ⟨hr, hlX, hdX⟩ := fin none X hk
        exact ⟨_, _, hr, .inl ⟨rfl, ⟨hIp _ _ _ _ _ hiX (by omega) hlX rfl, World.putObj_heap_same (lt_of_block hlX), (World.putObj_heap_other (by omega)).trans hdX⟩, hKt (hKt hkV (by rw [hz1]; exact hkp)) (hKp _ _ _ _ _ (by omega) hlX rfl)⟩⟩
      | exit id =>
        obtain ⟨hk, hiX⟩ := hp
        obtain ⟨hr, hlX, hdX⟩ := fin (some (.exit id)) X hk
        exact ⟨_, _, hr, .inr ⟨rfl, .exit id, hIxp _ _ _ _ _ _ hiX (by omega) hlX rfl, World.putObj_heap_same (lt_of_block hlX), (World.putObj_heap_other (by omega)).trans hdX⟩⟩
      | ret =>
        obtain ⟨hk, hiX⟩ := hp
        obtain ⟨hr, hlX, hdX⟩ := fin (some .ret) X hk
        exact ⟨_, _, hr, .inr ⟨rfl, .ret, hIxp _ _ _ _ _ _ hiX (by omega) hlX rfl, World.putObj_heap_same (lt_of_block hlX), (World.putObj_heap_other (by omega)).trans hdX⟩⟩
      | goto t => exact hp.elim
      | panic ch => exact hp.elim
      | outgrown => exact hp.elim
    · rintro e W2 ⟨⟨v, rfl⟩, (⟨xs, hS, hi, hl, hd⟩ | ⟨pre, hSp, c, hi, hl, hd⟩)⟩
      · exact ⟨none, _, run_endLoop (P := P) hl (by simp), hdone xs _ hS (hIp _ _ _ _ _ hi (by omega) hl rfl) ((World.putObj_heap_other (by omega)).trans hd)⟩
      · exact ⟨some c, _, run_endLoop (P := P) hl (by simp), hstop c pre _ hSp (hIxp _ _ _ _ _ _ hi (by omega) hl rfl) ((World.putObj_heap_other (by omega)).trans hd)⟩
end
end Go.Proofs.YtcekgllahlhaaaaGreatDoor

namespace Go.Proofs.YtcekgllahlhaaaaGreatDoor
open Go.RowKit
set_option linter.unusedVariables false
set_option linter.unusedSimpArgs false
section
variable {α : Type} {F : Fence} {n : Nat} {P : Program}
/-- .. where the round's variable is laid in a box. -/
theorem range_box2 {g : Operand} {ps : Array Tmp} {assign body : Code} {Q : Exit → Act → World → Prop} {a : Act} {w : World}
    (hro : F.round = none) (h1 : 1 ≤ n) {gf : Nat} {lb : Array Value} (hg : a.eval g = .func (.func gf) #[] lb) (hFg : F.fn gf) (eg : ∀ args w, (callFunc gf args).run P w = .ok (.enter gf args) w)
    {encs : α → Array Value} {Own : World → Nat → Prop} {Fact : Nat → α → World → Prop} {Kp : Nat → World → World → Prop} {Nx : List α → α → Prop} {S Sp : List α → Prop} (hseq : SeqOwn F (n - 1) P gf lb encs Own Fact Kp Nx S Sp w)
    (hown : ∀ W k, Own W k → ∃ o, W.heap[k]? = some o ∧ o.isCells = true)
    (hKt : ∀ {B : Nat} {X Y Z : World}, Kp B X Y → Kp B Y Z → Kp B X Z) (hKp : ∀ (B : Nat) (W : World) (k : Nat) (o o' : Obj), k < B → W.heap[k]? = some o → o.isCells = false → Kp B W (W.putObj k o')) (hps : ∀ x, (encs x).size = ps.size) (box : α → Obj) (hbc : ∀ x, (box x).isCells = true) (hKa : ∀ (B : Nat) (W : World) (o : Obj), Kp B W (W.alloc o)) (hFa : ∀ (B : Nat) (x : α) (W : World) (o : Obj), Fact B x W → Fact B x (W.alloc o))
    (hFp : ∀ (B : Nat) (x : α) (W : World) (k : Nat) (o o' : Obj), Fact B x W → W.heap[k]? = some o → o.isCells = false → Fact B x (W.putObj k o'))
    (I : List α → World → Prop) (Ix : Code → List α → World → Prop)
    (hIo : AbideOwn Own (w.heap.size + 2) I) (hIxo : ∀ c, AbideOwn Own (w.heap.size + 2) (Ix c))
    (hIp : ∀ s W k o o', I s W → w.heap.size ≤ k → W.heap[k]? = some o → o.isCells = false → I s (W.putObj k o'))
    (hIxp : ∀ c s W k o o', Ix c s W → w.heap.size ≤ k → W.heap[k]? = some o → o.isCells = false → Ix c s (W.putObj k o'))
    (h0 : ∀ W, Below w.heap.size w W → W.heap.size = w.heap.size + 2 → I [] W) (a₁ : α → Nat → Act)
    (hassign : ∀ (l : Nat) (x : α) (W : World) (K : Act → World → Prop), K (a₁ x W.heap.size) (W.alloc (box x)) →
      assign.wpIn (F.inRound l) (n - 1 - 1) P (Exit.then K (fun _ _ _ => False)) { tmps := (ps.zip (encs x)).foldl (fun t (p, v) => t.setIfInBounds p v) a.tmps, defers := [] } W)
    (hbody : ∀ (l : Nat) (pre : List α) (x : α) (g : Nat) (W W0 : World) (o o' : Obj), I pre W0 → W0.heap.size = g → W = (W0.alloc (box x)).putObj (w.heap.size + 1) o' → (W0.alloc (box x)).heap[w.heap.size + 1]? = some o → o.isCells = false → w.heap.size + 2 ≤ W.heap.size → w.heap.size + 2 ≤ g → W.heap[g]? = some (box x) → Fact (w.heap.size + 2) x W → Nx pre x → body.wpIn (F.inRound l) (n - 1 - 1) P (roundOwn w.heap.size (w.heap.size + 2) Kp I Ix (pre ++ [x]) W) (a₁ x g) W)
    (hdone : ∀ (xs : List α) (W : World), S xs → I xs W → W.heap[w.heap.size]? = some (.deferred (some [])) → Q .normal { a with defers := { target := .collected w.heap.size, args := #[] } :: a.defers } W)
    (hstop : ∀ (c : Code) (pre : List α) (W : World), Sp pre → Ix c pre W → W.heap[w.heap.size]? = some (.deferred (some [])) → c.wpIn F n P Q { a with defers := { target := .collected w.heap.size, args := #[] } :: a.defers } W) :
    (Code.rangeFunc g ps assign body).wpIn F n P Q a w := by
  refine wpIn_rangeFunc fun fn hfn => ?_
  rw [hro]
  let r : LoopState → Option Code → Obj := fun st pe => .loop { state := st, pending := pe, fn, tmps := a.tmps, params := ps, assign, body, defers := w.heap.size }
  obtain ⟨W1, hW1⟩ : ∃ W1, W1 = (w.alloc (.deferred (some []))).alloc (r .ready none) := ⟨_, rfl⟩
  have hz1 : W1.heap.size = w.heap.size + 2 := by rw [hW1]; simp
  have hb1 : Below w.heap.size w W1 := by rw [hW1]; exact ((Below.refl _ w).alloc (Nat.le_refl _) _).alloc (by simp) _
  have hl1 : W1.heap[w.heap.size + 1]? = some (r .ready none) := by
    rw [hW1]; have := heap_alloc_new (w.alloc (.deferred (some []))) (r .ready none); rwa [World.size_alloc] at this
  have hd1 : W1.heap[w.heap.size]? = some (.deferred (some [])) := by
    rw [hW1]; exact (Below.heap_alloc _ _ _ (by simp)).trans (heap_alloc_new w _)
  refine ⟨w.heap.size + 1, [{ target := .collected w.heap.size, args := #[] }], W1, { target := .fn (.func gf) lb, args := #[.func (.yield (w.heap.size + 1)) #[] #[]] }, W1, gf, #[.func (.yield (w.heap.size + 1)) #[] #[]] ++ lb, W1, ?_, ?_, fun f' hf' => ?_, ?_, fun _ => h1, ?_⟩
  · rw [hW1]; exact run_enterLoop_outer _ _ _ _ _
  · simp only [resolve, hg]
    simp [go_sem]
  · simp [Target.leads] at hf'; subst hf'; exact hFg
  · simp [invoke, go_sem, eg]
  · refine (hseq (w.heap.size + 1)
      (fun pre W => I pre W ∧ W.heap[w.heap.size + 1]? = some (r .ready none) ∧ W.heap[w.heap.size]? = some (.deferred (some [])))
      (fun pre W => ∃ c, Ix c pre W ∧ W.heap[w.heap.size + 1]? = some (r .done (some c)) ∧ W.heap[w.heap.size]? = some (.deferred (some []))) W1 hb1
      (fun s X Y ⟨k1, k2, k3⟩ ht => ⟨hIo s X Y k1 (by rw [← hz1]; exact ht), turn_own hown ht k2 rfl, turn_own hown ht k3 rfl⟩)
      (fun s X Y ⟨c, k1, k2, k3⟩ ht => ⟨c, hIxo c s X Y k1 (by rw [← hz1]; exact ht), turn_own hown ht k2 rfl, turn_own hown ht k3 rfl⟩) ?_ ⟨h0 W1 hb1 hz1, hl1, hd1⟩).mono ?_
    · rintro pre x W ⟨hi, hl, hd⟩ hsz hf hnx
      rw [hz1] at hf hsz
      have hlt := lt_of_block hl
      have hy := run_yield (P := P) (args := encs x) hl (hps x)
      have hlA : (W.alloc (box x)).heap[w.heap.size + 1]? = some (r .ready none) := (Below.heap_alloc _ _ _ hlt).trans hl
      have hdA : (W.alloc (box x)).heap[w.heap.size]? = some (.deferred (some [])) := (Below.heap_alloc _ _ _ (lt_of_block hd)).trans hd
      have hiA : I pre (W.alloc (box x)) := hIo _ _ _ hi (Turn.of_below (S := fun _ => False) ((Below.refl _ W).alloc (Nat.le_refl _) _) |>.mono (fun i h => h.elim))
      have hgA : (W.alloc (box x)).heap[W.heap.size]? = some (box x) := heap_alloc_new W _
      refine ⟨fn, _, assign, body, hy, roundIn_of_wpIn hfn (hassign _ x W _ ⟨_, run_beginRound hlA rfl, ?_⟩)⟩
      obtain ⟨V, hV⟩ : ∃ V, V = (W.alloc (box x)).putObj (w.heap.size + 1) (r .busy none) := ⟨_, rfl⟩
      have hlV : V.heap[w.heap.size + 1]? = some (r .busy none) := by rw [hV]; exact World.putObj_heap_same (lt_of_block hlA)
      have hdV : V.heap[w.heap.size]? = some (.deferred (some [])) := by rw [hV]; exact (World.putObj_heap_other (by omega)).trans hdA
      have hkV : Kp W1.heap.size W V := by rw [hV]; exact hKt (hKa _ W (box x)) (hKp _ _ _ _ _ (by omega) hlA rfl)
      have hzV : w.heap.size + 2 ≤ V.heap.size := by rw [hV]; simp; omega
      have hiV : I pre V := by rw [hV]; exact hIp _ _ _ _ _ hiA (by omega) hlA rfl
      have hgV : V.heap[W.heap.size]? = some (box x) := by rw [hV]; exact (World.putObj_heap_other (by omega)).trans hgA
      have hfV : Fact (w.heap.size + 2) x V := by rw [hV]; exact hFp _ _ _ _ _ _ (hFa _ _ _ (box x) hf) hlA rfl
      have hgo : body.wpIn (F.inRound (w.heap.size + 1)) (n - 1 - 1) P (roundOwn w.heap.size (w.heap.size + 2) Kp I Ix (pre ++ [x]) V) (a₁ x W.heap.size) V := hbody _ pre x _ V W _ _ hi rfl hV hlA rfl hzV hsz hgV hfV hnx
      rw [hV] at hgo
      refine wpIn_mono hgo ?_
      rw [← hV]
      have fin : ∀ (jump : Option Code) (X : World), KeepsFrom w.heap.size V X → (Instr.endRound (w.heap.size + 1) jump).run P X = .ok (.bool jump.isNone) (X.putObj (w.heap.size + 1) (r (if jump.isNone then .ready else .done) jump)) ∧ X.heap[w.heap.size + 1]? = some (r .busy none) ∧ X.heap[w.heap.size]? = some (.deferred (some [])) := fun jump X hk => by
        have hlX := hk.same _ _ (by omega) hlV rfl
        exact ⟨run_endRound (P := P) jump hlX, hlX, hk.same _ _ (Nat.le_refl _) hdV rfl⟩
      rintro e a3 X hp
      cases e with
      | normal =>
        obtain ⟨hk, hkp, hiX⟩ := hp
        obtain ⟨hr, hlX, hdX⟩ := fin none X hk
        exact ⟨_, _, hr, .inl ⟨rfl, ⟨hIp _ _ _ _ _ hiX (by omega) hlX rfl, World.putObj_heap_same (lt_of_block hlX), (World.putObj_heap_other (by omega)).trans hdX⟩, hKt (hKt hkV (by rw [hz1]; exact hkp)) (hKp _ _ _ _ _ (by omega) hlX rfl)⟩⟩
      | exit id =>
        obtain ⟨hk, hiX⟩ := hp
        obtain ⟨hr, hlX, hdX⟩ := fin (some (.exit id)) X hk
        exact ⟨_, _, hr, .inr ⟨rfl, .exit id, hIxp _ _ _ _ _ _ hiX (by omega) hlX rfl, World.putObj_heap_same (lt_of_block hlX), (World.putObj_heap_other (by omega)).trans hdX⟩⟩
      | ret =>
        obtain ⟨hk, hiX⟩ := hp
        obtain ⟨hr, hlX, hdX⟩ := fin (some .ret) X hk
        exact ⟨_, _, hr, .inr ⟨rfl, .ret, hIxp _ _ _ _ _ _ hiX (by omega) hlX rfl, World.putObj_heap_same (lt_of_block hlX), (World.putObj_heap_other (by omega)).trans hdX⟩⟩
      | goto t => exact hp.elim
      | panic ch => exact hp.elim
      | outgrown => exact hp.elim
    · rintro e W2 ⟨⟨v, rfl⟩, (⟨xs, hS, hi, hl, hd⟩ | ⟨pre, hSp, c, hi, hl, hd⟩)⟩
      · exact ⟨none, _, run_endLoop (P := P) hl (by simp), hdone xs _ hS (hIp _ _ _ _ _ hi (by omega) hl rfl) ((World.putObj_heap_other (by omega)).trans hd)⟩
      · exact ⟨some c, _, run_endLoop (P := P) hl (by simp), hstop c pre _ hSp (hIxp _ _ _ _ _ _ hi (by omega) hl rfl) ((World.putObj_heap_other (by omega)).trans hd)⟩
end
end Go.Proofs.YtcekgllahlhaaaaGreatDoor

namespace Go.Proofs.YtcekgllahlhaaaaGreatDoor
open Go.RowKit Go.Shelf
set_option linter.unusedVariables false
set_option linter.unusedSimpArgs false
set_option maxRecDepth 100000

theorem checkM_eq (xs : List Int) : checkM xs = if right xs = true then 0 else 150 := by
  unfold checkM refuseM
  simp

def timeB (t : Int) : Bool := decide (1 ≤ t) && decide (t ≤ 1099511627776)
def endB (b e : Int) : Bool := decide (e = 0) || (decide (b < e) && timeB e)
def rowE (xs : List Int) : Int := if right xs = true then 0 else 170
def verR (b e : Int) (xs : List Int) : Bool := right xs && (timeB b && endB b e)
def verE (b e : Int) (xs : List Int) : Int := if verR b e xs = true then 0 else 171

theorem isTime_any (t : Int) (w : World) : Calls Tryz.prog 116 #[.int .u64 t] w fun e w' => e = .returned (.bool (timeB t)) ∧ w = w' := by
  by_cases h1 : 1 ≤ t
  · have HF := Lib.hid (show timeB t = decide (t ≤ 1099511627776) by unfold timeB; simp [h1])
    go_enter Tryz.func116, Tryz.ntmps116
    go_wp2
    go_ret
    rw [HF.out]
    exact ⟨rfl, rfl⟩
  · have HF := Lib.hid (show timeB t = false by unfold timeB; simp [h1])
    have t1 : decide (1 ≤ t) = false := by simp [h1]
    go_enter Tryz.func116, Tryz.ntmps116
    go_wp2
    go_ret
    rw [HF.out]
    exact ⟨rfl, rfl⟩

theorem isEnd_any (b e : Int) (A : Option Addr) (n c : Nat) (w : World) :
    Calls Tryz.prog 117 #[.agg #[.int .u64 b, .int .u64 e, .slice A n c]] w fun x w' => x = .returned (.bool (endB b e)) ∧ Below w.heap.size w w' := by
  have HB := Lib.hid (show Below w.heap.size w (w.alloc (.cells #[.int .u64 b, .int .u64 e, .slice A n c] 59)) from (Below.refl _ w).alloc (Nat.le_refl _) _)
  by_cases h0 : e = 0
  · subst h0
    have HF := Lib.hid (show endB b 0 = true by unfold endB; simp)
    go_enter Tryz.func117, Tryz.ntmps117
    go_wp2
    go_ret
    rw [HF.out]
    exact ⟨rfl, HB.out⟩
  · have t1 : (e == 0) = false := by simpa using h0
    by_cases h1 : b < e
    · have HF := Lib.hid (show endB b e = timeB e by unfold endB; simp [h0, h1])
      go_enter Tryz.func117, Tryz.ntmps117
      go_wp2_with (go_at_call 116; refine (isTime_any _ _).mono ?_; rintro e w' ⟨rfl, rfl⟩)
      go_ret
      rw [HF.out]
      exact ⟨rfl, HB.out⟩
    · have HF := Lib.hid (show endB b e = false by unfold endB; simp [h0, h1])
      have t2 : decide (b < e) = false := by simpa using h1
      go_enter Tryz.func117, Tryz.ntmps117
      go_wp2
      go_ret
      rw [HF.out]
      exact ⟨rfl, HB.out⟩

set_option maxHeartbeats 1000000 in
theorem checkVersion_any (b e : Int) (A : Option Addr) (c : Nat) (xs : List Int) (w : World) (h : Vec .i32 w A c xs) :
    Calls Tryz.prog 101 #[.agg #[.int .u64 b, .int .u64 e, .slice A xs.length c]] w fun x w' => x = .returned (.int .i64 (verE b e xs)) ∧ Below w.heap.size w w' := by
  have hB : Below w.heap.size w (w.alloc (.cells #[.int .u64 b, .int .u64 e, .slice A xs.length c] 59)) := (Below.refl _ w).alloc (Nat.le_refl _) _
  have HC := Lib.hid (check_any A c xs _ (h.below hB))
  have HB := Lib.hid hB
  have HW := Lib.hid (fun i => cell_laid w #[.int .u64 b, .int .u64 e, .slice A xs.length c] 59 i)
  rw [checkM_eq] at HC
  have HR := Lib.hid (show verE b e xs = if (right xs && (timeB b && endB b e)) = true then 0 else 171 from rfl)
  generalize verE b e xs = R at *
  clear h hB
  generalize xs.length = n at *
  cases hr : right xs
  · rw [hr] at HC HR
    have HR2 := Lib.hid (show R = 171 by rw [HR.out]; rfl)
    simp only [Bool.false_eq_true, if_false] at HC
    clear hr HR
    go_enter Tryz.func101, Tryz.ntmps101
    go_wp2_with fail
    refine HC.out.mono ?_
    rintro x w1 ⟨rfl, hb1⟩
    have HB1 := Lib.hid (HB.out.trans (hb1.mono HB.out.size))
    clear hb1
    go_wp2
    go_ret
    rw [HR2.out]
    exact ⟨rfl, HB1.out⟩
  · rw [hr] at HC HR
    simp only [if_true] at HC
    simp only [Bool.true_and] at HR
    clear hr
    cases ht : timeB b
    · rw [ht] at HR
      have HT := Lib.hid ht
      have HR2 := Lib.hid (show R = 171 by rw [HR.out]; rfl)
      clear ht HR
      go_enter Tryz.func101, Tryz.ntmps101
      go_wp2_with fail
      refine HC.out.mono ?_
      rintro x w1 ⟨rfl, hb1⟩
      have HB1 := Lib.hid (HB.out.trans (hb1.mono HB.out.size))
      have q0 := (hb1.cell (p := ⟨w.heap.size, 0, none⟩) (by simp)).trans (HW.out 0)
      clear hb1
      simp at q0
      go_wp2_with fail
      refine (isTime_any _ _).mono ?_
      rw [HT.out]
      rintro x w2 ⟨rfl, rfl⟩
      go_wp2
      go_ret
      rw [HR2.out]
      exact ⟨rfl, HB1.out⟩
    · rw [ht] at HR
      have HT := Lib.hid ht
      simp only [Bool.true_and] at HR
      clear ht
      cases hen : endB b e
      · rw [hen] at HR
        have HEn := Lib.hid hen
        have HR2 := Lib.hid (show R = 171 by rw [HR.out]; rfl)
        clear hen HR
        go_enter Tryz.func101, Tryz.ntmps101
        go_wp2_with fail
        refine HC.out.mono ?_
        rintro x w1 ⟨rfl, hb1⟩
        have HB1 := Lib.hid (HB.out.trans (hb1.mono HB.out.size))
        have q0 := (hb1.cell (p := ⟨w.heap.size, 0, none⟩) (by simp)).trans (HW.out 0)
        have q1 := (hb1.cell (p := ⟨w.heap.size, 1, none⟩) (by simp)).trans (HW.out 1)
        have q2 := (hb1.cell (p := ⟨w.heap.size, 2, none⟩) (by simp)).trans (HW.out 2)
        clear hb1
        simp at q0 q1 q2
        go_wp2_with fail
        refine (isTime_any _ _).mono ?_
        rw [HT.out]
        rintro x w2 ⟨rfl, rfl⟩
        go_wp2_with fail
        refine (isEnd_any _ _ _ _ _ _).mono ?_
        rw [HEn.out]
        rintro x w2 ⟨rfl, hb2⟩
        have HB2 := Lib.hid (HB1.out.trans (hb2.mono HB1.out.size))
        clear hb2
        go_wp2
        go_ret
        rw [HR2.out]
        exact ⟨rfl, HB2.out⟩
      · rw [hen] at HR
        have HEn := Lib.hid hen
        have HR2 := Lib.hid (show R = 0 by rw [HR.out]; rfl)
        clear hen HR
        go_enter Tryz.func101, Tryz.ntmps101
        go_wp2_with fail
        refine HC.out.mono ?_
        rintro x w1 ⟨rfl, hb1⟩
        have HB1 := Lib.hid (HB.out.trans (hb1.mono HB.out.size))
        have q0 := (hb1.cell (p := ⟨w.heap.size, 0, none⟩) (by simp)).trans (HW.out 0)
        have q1 := (hb1.cell (p := ⟨w.heap.size, 1, none⟩) (by simp)).trans (HW.out 1)
        have q2 := (hb1.cell (p := ⟨w.heap.size, 2, none⟩) (by simp)).trans (HW.out 2)
        clear hb1
        simp at q0 q1 q2
        go_wp2_with fail
        refine (isTime_any _ _).mono ?_
        rw [HT.out]
        rintro x w2 ⟨rfl, rfl⟩
        go_wp2_with fail
        refine (isEnd_any _ _ _ _ _ _).mono ?_
        rw [HEn.out]
        rintro x w2 ⟨rfl, hb2⟩
        have HB2 := Lib.hid (HB1.out.trans (hb2.mono HB1.out.size))
        clear hb2
        go_wp2
        go_ret
        rw [HR2.out]
        exact ⟨rfl, HB2.out⟩

end Go.Proofs.YtcekgllahlhaaaaGreatDoor

namespace Go.Proofs.YtcekgllahlhaaaaGreatDoor
open Go.RowKit Go.Shelf
set_option linter.unusedVariables false
set_option linter.unusedSimpArgs false
set_option maxRecDepth 100000

def sameR (i j : Int) (xs ys : List Int) : Bool := decide (i = j) && decide (xs = ys)
def sameV (b b' e e' : Int) (xs ys : List Int) : Bool := decide (b = b') && (decide (e = e') && decide (xs = ys))

set_option maxHeartbeats 1000000 in
theorem sameVersion_any (b b' f f' : Int) (A A' : Option Addr) (c c' : Nat) (xs ys : List Int) (w : World) (h : Vec .i32 w A c xs) (h' : Vec .i32 w A' c' ys) :
    Calls Tryz.prog 102 #[.agg #[.int .u64 b, .int .u64 f, .slice A xs.length c], .agg #[.int .u64 b', .int .u64 f', .slice A' ys.length c']] w fun e w' => e = .returned (.bool (sameV b b' f f' xs ys)) ∧ Below w.heap.size w w' := by
  have hB : Below w.heap.size w ((w.alloc (.cells #[.int .u64 b, .int .u64 f, .slice A xs.length c] 59)).alloc (.cells #[.int .u64 b', .int .u64 f', .slice A' ys.length c'] 59)) := ((Below.refl _ w).alloc (Nat.le_refl _) _).alloc (by simp) _
  have HC := Lib.hid (same_any A A' c c' xs ys _ (h.below hB) (h'.below hB))
  have HB := Lib.hid hB
  have HR := Lib.hid (show sameV b b' f f' xs ys = (decide (b = b') && (decide (f = f') && decide (xs = ys))) from rfl)
  generalize sameV b b' f f' xs ys = R at *
  generalize decide (xs = ys) = D at *
  generalize xs.length = n at *
  generalize ys.length = m at *
  clear h h' hB
  by_cases hij : b = b'
  · subst hij
    by_cases hf : f = f'
    · subst hf
      have HR2 := Lib.hid (show R = D by rw [HR.out]; simp)
      clear HR
      go_enter Tryz.func102, Tryz.ntmps102
      go_wp2_with fail
      refine HC.out.mono ?_
      rintro e w1 ⟨rfl, hb1⟩
      have HB1 := Lib.hid (HB.out.trans (hb1.mono HB.out.size))
      clear hb1
      go_wp2
      go_ret
      rw [HR2.out]
      exact ⟨rfl, HB1.out⟩
    · have HR2 := Lib.hid (show R = false by rw [HR.out]; simp [hf])
      have t1 : (f == f') = false := by simpa using hf
      clear HR hf
      go_enter Tryz.func102, Tryz.ntmps102
      go_wp2
      go_ret
      rw [HR2.out]
      exact ⟨rfl, HB.out⟩
  · have HR2 := Lib.hid (show R = false by rw [HR.out]; simp [hij])
    have t1 : (b == b') = false := by simpa using hij
    clear HR hij
    go_enter Tryz.func102, Tryz.ntmps102
    go_wp2
    go_ret
    rw [HR2.out]
    exact ⟨rfl, HB.out⟩

end Go.Proofs.YtcekgllahlhaaaaGreatDoor

namespace Go.Proofs.YtcekgllahlhaaaaGreatDoor
open Go.RowKit Go.Shelf
set_option linter.unusedVariables false
set_option linter.unusedSimpArgs false
set_option maxRecDepth 100000

theorem layu_fit {x : Int} (h : (Lit.int .u64 x).wf = true) : 0 ≤ x ∧ x < 18446744073709551616 := by
  simp [Lit.wf, IntKind.min, IntKind.max, IntKind.signed, IntKind.bits] at h; omega

theorem verR_num (b f : Int) (xs : List Int) : verR b f xs = (right xs && decide (1 ≤ b ∧ b ≤ 1099511627776 ∧ (f = 0 ∨ (b < f ∧ 1 ≤ f ∧ f ≤ 1099511627776)))) := by
  unfold verR timeB endB timeB
  congr 1
  rw [Bool.eq_iff_iff]
  simp
  omega

end Go.Proofs.YtcekgllahlhaaaaGreatDoor
