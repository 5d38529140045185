/-
  A range over a function: the iterator makes memory between two rounds and may turn blocks of its own; the loop's body keeps what the iterator wants kept. No program is named here.
-/
import Derived.Test.YtcohaaobdpcoiaaVecBase
import Derived.Shelf.Abstract
import Derived.Shelf.RegionOpen
import Derived.RangeFuncWrites
import Derived.RangeFuncNested
import Derived.RangeFuncBox
import Derived.RangeFuncLeaves
import Derived.RangeFuncCalls
import Derived.OwnWalkIn
import Derived.TacticsInMore
import Derived.LoopNIn
import Derived.LoopIn
namespace Go.Proofs.Ytcohaaobdpcoiaa
open Go.RowKit
set_option linter.unusedVariables false

/-- Only blocks of S, and new ones, have turned. -/
structure Turn (S : Nat → Prop) (w w' : World) : Prop where
  os : w'.os = w.os
  tape : w'.tape = w.tape
  output : w'.output = w.output
  size : w.heap.size ≤ w'.heap.size
  block : ∀ k, k < w.heap.size → ¬ S k → w'.heap[k]? = w.heap[k]?

section
variable {S S' : Nat → Prop} {w w' w'' : World}
theorem Turn.refl (S : Nat → Prop) (w : World) : Turn S w w := ⟨rfl, rfl, rfl, Nat.le_refl _, fun _ _ _ => rfl⟩
theorem Turn.trans (h : Turn S w w') (k : Turn S' w' w'') (hs : ∀ i, S' i → S i ∨ w.heap.size ≤ i) : Turn S w w'' :=
  ⟨k.os.trans h.os, k.tape.trans h.tape, k.output.trans h.output, Nat.le_trans h.size k.size, fun i hi hn =>
    (k.block i (Nat.lt_of_lt_of_le hi h.size) (fun e => (hs i e).elim hn (fun e => by omega))).trans (h.block i hi hn)⟩
theorem Turn.of_grown {row : Option Nat} (h : w.grownBy w' row) (hr : ∀ i, row = some i → S i ∨ w.heap.size ≤ i) : Turn S w w' :=
  ⟨h.os, h.tape, h.output, h.size, fun i hi hn => h.block i hi (fun e => (hr i e.symm).elim hn (fun e => by omega))⟩
theorem Turn.of_below (h : Below w.heap.size w w') : Turn S w w' := ⟨h.os, h.tape, h.output, h.size, fun i hi _ => h.block i hi⟩
theorem Turn.below {B : Nat} (h : Turn S w w') (hB : B ≤ w.heap.size) (hs : ∀ i, S i → B ≤ i) : Below B w w' :=
  ⟨h.os, h.tape, h.output, h.size, fun i hi => h.block i (by omega) (fun e => by have := hs i e; omega)⟩
theorem Turn.mono (h : Turn S w w') (hs : ∀ i, S i → S' i) : Turn S' w w' := ⟨h.os, h.tape, h.output, h.size, fun i hi hn => h.block i hi (fun e => hn (hs i e))⟩
theorem Turn.drew (h : Turn S w w') : Turn S w w'.drew := ⟨h.os, h.tape, h.output, h.size, h.block⟩
theorem Turn.alloc (h : Turn S w w') (o : Obj) : Turn S w (w'.alloc o) := h.trans (Turn.of_grown (S := fun _ => False) (World.grownBy_alloc w' o Option.none) (by simp)) (by simp)
end

section
variable {α : Type} {F : Fence} {n : Nat} {P : Program}
/-- J stands whatever the iterator does between two rounds: it makes memory, and turns blocks of its own. -/
def AbideOwn (Own : World → Nat → Prop) (B : Nat) (J : List α → World → Prop) : Prop := ∀ s W W', J s W → Turn (fun k => B ≤ k ∧ Own W k) W W' → J s W'
/-- An iterator: what it hands out is so (Fact) where it hands it out; what a round keeps (Kp) is what it wants kept. -/
def SeqOwn (F : Fence) (n : Nat) (P : Program) (g : Nat) (lb : Array Value) (encs : α → Array Value) (Own : World → Nat → Prop) (Fact : Nat → α → World → Prop) (Kp : Nat → World → World → Prop) (Nx : List α → α → Prop) (S Sp : List α → Prop) (w : World) : Prop :=
  ∀ (l : Nat) (J Jx : List α → World → Prop) (W : World), Below w.heap.size w W → AbideOwn Own W.heap.size J → AbideOwn Own W.heap.size Jx →
    (∀ pre x W1, J pre W1 → W.heap.size ≤ W1.heap.size → Fact W.heap.size x W1 → Nx pre x → YieldAt F (n - 1) P l (encs x) W1 fun e W' => (e = .returned (.bool true) ∧ J (pre ++ [x]) W' ∧ Kp W.heap.size W1 W') ∨ (e = .returned (.bool false) ∧ Jx (pre ++ [x]) W')) →
    J [] W →
    CallsIn F n P g (#[.func (.yield l) #[] #[]] ++ lb) W fun e W' => (∃ v, e = .returned v) ∧ ((∃ xs, S xs ∧ J xs W') ∨ (∃ pre, Sp pre ∧ Jx pre W'))

/-- How a round's body may be left: it keeps what is no cells from B0 on; where it goes on, Kp is paid. -/
def roundOwn (B0 B : Nat) (Kp : Nat → World → World → Prop) (I : List α → World → Prop) (Ix : Code → List α → World → Prop) (xs : List α) (W : World) : Exit → Act → World → Prop
  | .normal, _, W' => KeepsFrom B0 W W' ∧ Kp B W W' ∧ I xs W'
  | .exit id, _, W' => KeepsFrom B0 W W' ∧ Ix (.exit id) xs W'
  | .ret, _, W' => KeepsFrom B0 W W' ∧ Ix .ret xs W'
  | _, _, _ => False

/-- What a block of the loop's own keeps: it is no cells. -/
theorem turn_own {Own : World → Nat → Prop} (hown : ∀ W k, Own W k → ∃ o, W.heap[k]? = some o ∧ o.isCells = true) {B k : Nat} {W W' : World} {o : Obj} (ht : Turn (fun k => B ≤ k ∧ Own W k) W W') (hk : W.heap[k]? = some o) (ho : o.isCells = false) : W'.heap[k]? = some o := by
  rw [ht.block k (lt_of_block hk) (fun h => by obtain ⟨o', h1, h2⟩ := hown W k h.2; rw [hk] at h1; cases h1; rw [ho] at h2; cases h2), hk]

theorem range_own {g : Operand} {ps : Array Tmp} {assign body : Code} {Q : Exit → Act → World → Prop} {a : Act} {w : World}
    (hro : F.round = none) (h1 : 1 ≤ n) {gf : Nat} {lb : Array Value} (hg : a.eval g = .func (.func gf) #[] lb) (hFg : F.fn gf) (eg : ∀ args w, (callFunc gf args).run P w = .ok (.enter gf args) w)
    {encs : α → Array Value} {Own : World → Nat → Prop} {Fact : Nat → α → World → Prop} {Kp : Nat → World → World → Prop} {Nx : List α → α → Prop} {S Sp : List α → Prop} (hseq : SeqOwn F (n - 1) P gf lb encs Own Fact Kp Nx S Sp w)
    (hown : ∀ W k, Own W k → ∃ o, W.heap[k]? = some o ∧ o.isCells = true)
    (hKt : ∀ {B : Nat} {X Y Z : World}, Kp B X Y → Kp B Y Z → Kp B X Z) (hKp : ∀ (B : Nat) (W : World) (k : Nat) (o o' : Obj), k < B → W.heap[k]? = some o → o.isCells = false → Kp B W (W.putObj k o')) (hps : ∀ x, (encs x).size = ps.size)
    (hFp : ∀ (B : Nat) (x : α) (W : World) (k : Nat) (o o' : Obj), Fact B x W → W.heap[k]? = some o → o.isCells = false → Fact B x (W.putObj k o'))
    (I : List α → World → Prop) (Ix : Code → List α → World → Prop)
    (hIo : AbideOwn Own (w.heap.size + 2) I) (hIxo : ∀ c, AbideOwn Own (w.heap.size + 2) (Ix c))
    (hIp : ∀ s W k o o', I s W → w.heap.size ≤ k → W.heap[k]? = some o → o.isCells = false → I s (W.putObj k o'))
    (hIxp : ∀ c s W k o o', Ix c s W → w.heap.size ≤ k → W.heap[k]? = some o → o.isCells = false → Ix c s (W.putObj k o'))
    (h0 : ∀ W, Below w.heap.size w W → W.heap.size = w.heap.size + 2 → I [] W) (a₁ : α → Act)
    (hassign : ∀ (l : Nat) (x : α) (W : World) (K : Act → World → Prop), K (a₁ x) W →
      assign.wpIn (F.inRound l) (n - 1 - 1) P (Exit.then K (fun _ _ _ => False)) { tmps := (ps.zip (encs x)).foldl (fun t (p, v) => t.setIfInBounds p v) a.tmps, defers := [] } W)
    (hbody : ∀ (l : Nat) (pre : List α) (x : α) (W : World), I pre W → w.heap.size + 2 ≤ W.heap.size → Fact (w.heap.size + 2) x W → Nx pre x → body.wpIn (F.inRound l) (n - 1 - 1) P (roundOwn w.heap.size (w.heap.size + 2) Kp I Ix (pre ++ [x]) W) (a₁ x) W)
    (hdone : ∀ (xs : List α) (W : World), S xs → I xs W → W.heap[w.heap.size]? = some (.deferred (some [])) → Q .normal { a with defers := { target := .collected w.heap.size, args := #[] } :: a.defers } W)
    (hstop : ∀ (c : Code) (pre : List α) (W : World), Sp pre → Ix c pre W → W.heap[w.heap.size]? = some (.deferred (some [])) → c.wpIn F n P Q { a with defers := { target := .collected w.heap.size, args := #[] } :: a.defers } W) :
    (Code.rangeFunc g ps assign body).wpIn F n P Q a w := by
  refine wpIn_rangeFunc fun fn hfn => ?_
  rw [hro]
  let r : LoopState → Option Code → Obj := fun st pe => .loop { state := st, pending := pe, fn, tmps := a.tmps, params := ps, assign, body, defers := w.heap.size }
  obtain ⟨W1, hW1⟩ : ∃ W1, W1 = (w.alloc (.deferred (some []))).alloc (r .ready none) := ⟨_, rfl⟩
  have hz1 : W1.heap.size = w.heap.size + 2 := by rw [hW1]; simp
  have hb1 : Below w.heap.size w W1 := by rw [hW1]; exact ((Below.refl _ w).alloc (Nat.le_refl _) _).alloc (by simp) _
  have hl1 : W1.heap[w.heap.size + 1]? = some (r .ready none) := by
    rw [hW1]; have := heap_alloc_new (w.alloc (.deferred (some []))) (r .ready none); rwa [World.size_alloc] at this
  have hd1 : W1.heap[w.heap.size]? = some (.deferred (some [])) := by
    rw [hW1]; exact (Below.heap_alloc _ _ _ (by simp)).trans (heap_alloc_new w _)
  refine ⟨w.heap.size + 1, [{ target := .collected w.heap.size, args := #[] }], W1, { target := .fn (.func gf) lb, args := #[.func (.yield (w.heap.size + 1)) #[] #[]] }, W1, gf, #[.func (.yield (w.heap.size + 1)) #[] #[]] ++ lb, W1, ?_, ?_, fun f' hf' => ?_, ?_, fun _ => h1, ?_⟩
  · rw [hW1]; exact run_enterLoop_outer _ _ _ _ _
  · simp only [resolve, hg]
    simp [go_sem]
  · simp [Target.leads] at hf'; subst hf'; exact hFg
  · simp [invoke, go_sem, eg]
  · refine (hseq (w.heap.size + 1)
      (fun pre W => I pre W ∧ W.heap[w.heap.size + 1]? = some (r .ready none) ∧ W.heap[w.heap.size]? = some (.deferred (some [])))
      (fun pre W => ∃ c, Ix c pre W ∧ W.heap[w.heap.size + 1]? = some (r .done (some c)) ∧ W.heap[w.heap.size]? = some (.deferred (some []))) W1 hb1
      (fun s X Y ⟨k1, k2, k3⟩ ht => ⟨hIo s X Y k1 (by rw [← hz1]; exact ht), turn_own hown ht k2 rfl, turn_own hown ht k3 rfl⟩)
      (fun s X Y ⟨c, k1, k2, k3⟩ ht => ⟨c, hIxo c s X Y k1 (by rw [← hz1]; exact ht), turn_own hown ht k2 rfl, turn_own hown ht k3 rfl⟩) ?_ ⟨h0 W1 hb1 hz1, hl1, hd1⟩).mono ?_
    · rintro pre x W ⟨hi, hl, hd⟩ hsz hf hnx
      rw [hz1] at hf hsz
      have hlt := lt_of_block hl
      have hy := run_yield (P := P) (args := encs x) hl (hps x)
      refine ⟨fn, _, assign, body, hy, roundIn_of_wpIn hfn (hassign _ x W _ ⟨_, run_beginRound hl rfl, ?_⟩)⟩
      obtain ⟨V, hV⟩ : ∃ V, V = W.putObj (w.heap.size + 1) (r .busy none) := ⟨_, rfl⟩
      have hlV : V.heap[w.heap.size + 1]? = some (r .busy none) := by rw [hV]; exact World.putObj_heap_same hlt
      have hdV : V.heap[w.heap.size]? = some (.deferred (some [])) := by rw [hV]; exact (World.putObj_heap_other (by omega)).trans hd
      have hkV : Kp W1.heap.size W V := by rw [hV]; exact hKp _ _ _ _ _ (by omega) hl rfl
      have hzV : w.heap.size + 2 ≤ V.heap.size := by rw [hV]; simpa using hsz
      have hiV : I pre V := by rw [hV]; exact hIp _ _ _ _ _ hi (by omega) hl rfl
      have hfV : Fact (w.heap.size + 2) x V := by rw [hV]; exact hFp _ _ _ _ _ _ hf hl rfl
      have hgo : body.wpIn (F.inRound (w.heap.size + 1)) (n - 1 - 1) P (roundOwn w.heap.size (w.heap.size + 2) Kp I Ix (pre ++ [x]) V) (a₁ x) V := hbody _ pre x V hiV hzV hfV hnx
      rw [hV] at hgo
      refine wpIn_mono hgo ?_
      rw [← hV]
      have fin : ∀ (jump : Option Code) (X : World), KeepsFrom w.heap.size V X → (Instr.endRound (w.heap.size + 1) jump).run P X = .ok (.bool jump.isNone) (X.putObj (w.heap.size + 1) (r (if jump.isNone then .ready else .done) jump)) ∧ X.heap[w.heap.size + 1]? = some (r .busy none) ∧ X.heap[w.heap.size]? = some (.deferred (some [])) := fun jump X hk => by
        have hlX := hk.same _ _ (by omega) hlV rfl
        exact ⟨run_endRound (P := P) jump hlX, hlX, hk.same _ _ (Nat.le_refl _) hdV rfl⟩
      rintro e a3 X hp
      cases e with
      | normal =>
        obtain ⟨hk, hkp, hiX⟩ := hp
        obtain ⟨hr, hlX, hdX⟩ := fin none X hk
        exact ⟨_, _, hr, .inl ⟨rfl, ⟨hIp _ _ _ _ _ hiX (by omega) hlX rfl, World.putObj_heap_same (lt_of_block hlX), (World.putObj_heap_other (by omega)).trans hdX⟩, hKt (hKt hkV (by rw [hz1]; exact hkp)) (hKp _ _ _ _ _ (by omega) hlX rfl)⟩⟩
      | exit id =>
        obtain ⟨hk, hiX⟩ := hp
        obtain ⟨hr, hlX, hdX⟩ := fin (some (.exit id)) X hk
        exact ⟨_, _, hr, .inr ⟨rfl, .exit id, hIxp _ _ _ _ _ _ hiX (by omega) hlX rfl, World.putObj_heap_same (lt_of_block hlX), (World.putObj_heap_other (by omega)).trans hdX⟩⟩
      | ret =>
        obtain ⟨hk, hiX⟩ := hp
        obtain ⟨hr, hlX, hdX⟩ := fin (some .ret) X hk
        exact ⟨_, _, hr, .inr ⟨rfl, .ret, hIxp _ _ _ _ _ _ hiX (by omega) hlX rfl, World.putObj_heap_same (lt_of_block hlX), (World.putObj_heap_other (by omega)).trans hdX⟩⟩
      | goto t => exact hp.elim
      | panic ch => exact hp.elim
      | outgrown => exact hp.elim
    · rintro e W2 ⟨⟨v, rfl⟩, (⟨xs, hS, hi, hl, hd⟩ | ⟨pre, hSp, c, hi, hl, hd⟩)⟩
      · exact ⟨none, _, run_endLoop (P := P) hl (by simp), hdone xs _ hS (hIp _ _ _ _ _ hi (by omega) hl rfl) ((World.putObj_heap_other (by omega)).trans hd)⟩
      · exact ⟨some c, _, run_endLoop (P := P) hl (by simp), hstop c pre _ hSp (hIxp _ _ _ _ _ _ hi (by omega) hl rfl) ((World.putObj_heap_other (by omega)).trans hd)⟩
end

/-! ### what a loop's body keeps: all cells that lie below B, but for those of one block -/
structure KpD (d B : Nat) (W W' : World) : Prop where
  size : W.heap.size ≤ W'.heap.size
  keep : ∀ (k : Nat) (o : Obj), k < B → k ≠ d → W.heap[k]? = some o → o.isCells = true → W'.heap[k]? = some o
theorem KpD.refl (d B : Nat) (W : World) : KpD d B W W := ⟨Nat.le_refl _, fun _ _ _ _ h _ => h⟩
theorem KpD.trans {d B : Nat} {X Y Z : World} (h : KpD d B X Y) (k : KpD d B Y Z) : KpD d B X Z := ⟨Nat.le_trans h.size k.size, fun i o hi hd ho hc => k.keep i o hi hd (h.keep i o hi hd ho hc) hc⟩
theorem KpD.put {d B : Nat} {W : World} {k : Nat} {o o' : Obj} (hk : W.heap[k]? = some o) (ho : o.isCells = false) : KpD d B W (W.putObj k o') := by
  refine ⟨by simp [World.putObj], fun i o2 _ _ hi hc => ?_⟩
  rw [World.putObj_heap_other (fun e => ?_)]
  · exact hi
  · subst e; rw [hk] at hi; cases hi; rw [ho] at hc; cases hc
theorem KpD.below {d B : Nat} {W W' : World} (hb : Below W.heap.size W W') : KpD d B W W' := ⟨hb.size, fun i o _ _ hi _ => (hb.block i (lt_of_block hi)).trans hi⟩
theorem KpD.drew {d B : Nat} {W W' : World} (h : KpD d B W W') : KpD d B W W'.drew := ⟨h.size, h.keep⟩
theorem KpD.set {d B : Nat} (W : World) (i : Nat) (v : Value) : KpD d B W (W.setCell ⟨d, i, none⟩ v) := by
  refine ⟨by simp [World.setCell], fun k o _ hd hk _ => ?_⟩
  rw [Below.heap_setCell W ⟨d, i, none⟩ v k hd]
  exact hk
theorem KpD.cell {d B : Nat} {W W' : World} (h : KpD d B W W') {p : Addr} {v : Value} (hv : W.cell? p = some v) (hp : p.block < B) (hd : p.block ≠ d) : W'.cell? p = some v := by
  obtain ⟨b, i, s⟩ := p
  have hb : ∃ o, W.heap[b]? = some o ∧ o.isCells = true := by
    unfold World.cell? at hv
    cases ho : W.heap[b]? with
    | none => simp [ho] at hv
    | some o => cases o <;> simp_all [Obj.isCells]
  obtain ⟨o, ho, hc⟩ := hb
  exact (World.cell?_of_block (a := ⟨b, i, s⟩) ((h.keep b o hp hd ho hc).trans ho.symm)).trans hv
theorem KpD.boxed {d B : Nat} {W W' : World} (h : KpD d B W W') {i : Nat} {o : Obj} (hi : W.heap[i]? = some o) (ho : o.isCells = true) (hB : i < B) (hd : i ≠ d) : W'.heap[i]? = some o := h.keep i o hB hd hi ho
end Go.Proofs.Ytcohaaobdpcoiaa
