/-
  WalLasts: the log, and the snapshot and the records that are looked for, as calls meet them.
-/
import Derived.Test.YtienabfilnpieaaGreatWalLast
import Derived.ArgAppend
namespace Go.Proofs.YtienabfilnpieaaGreat
open Go.RowKit
set_option linter.unusedVariables false
set_option linter.unusedSimpArgs false
set_option maxRecDepth 100000

/-! ### has, of any two -/
set_option maxHeartbeats 1000000 in
theorem has_snap {w : World} {T : Nat → Prop} {g d : Nat} {V : AW} (h : WalAt w T g d V) {p s : List Int} {rs recs : List (List Int)} (hp : V.parts = p :: rs) (hb : costM V.parts ≤ 1000000) (C A : Option Addr) (cc c : Nat) (hsn : Sl w C cc s) (hos : Oct s) (hne : p ≠ s) :
    Calls Tryz.prog 29 #[.pointer (some ⟨g, 0, none⟩), .slice C s.length cc, .slice A recs.length c] w (HasAs w false) := by
  have hoct : ∀ q ∈ V.parts, Oct q := fun q hm => by
    obtain ⟨A1, c1, vs, hi⟩ := h
    obtain ⟨i, hi'⟩ := List.mem_iff_getElem?.1 hm
    obtain ⟨_, _, _, _, _, ho⟩ := hi.parts.each i q hi'
    exact ho
  have hpl : p.length ≤ 1000000 := by
    have := costM_mem (ps := V.parts) (k := 0) (p := p) (by rw [hp]; rfl)
    omega
  have HAL := Lib.hid (all_any h (by rw [hp]; simp) hb)
  have hd1 : V.parts.drop 1 = rs := by rw [hp]; rfl
  rw [hd1] at HAL
  have HSN := Lib.hid (fun (W : World) (hW : Below w.heap.size w W) => snap_any (h.later hW) (s := p) (by rw [hp]; rfl) hpl)
  have HEQ := Lib.hid (fun (W : World) (hW : Below w.heap.size w W) (B : Option Addr) (cb : Nat) (hN : Sl W B cb p) => equalAny B C cb cc p s W hN.rd (hsn.below hW).rd (hoct p (by rw [hp]; simp)) hos)
  rw [decide_eq_false hne] at HEQ
  have HO := Lib.hid (fun q (hm : q ∈ rs) => hoct q (by rw [hp]; simp [hm]))
  generalize recs.length = n at *
  generalize s.length = sl at *
  clear h hp hb hsn hos hoct hpl hd1 hne
  go_enter Tryz.func29, Tryz.ntmps29
  go_wp2_with fail
  refine HAL.out.mono ?_
  rintro e w1 ⟨v, vs1, rfl, hrows, hb1⟩
  obtain ⟨A1, c1, rfl, hrecs⟩ := hrows.recs HO.out
  have HB1 := Lib.hid hb1
  generalize rs.length = rn at *
  clear hrows hb1 hrecs
  go_wp2_with fail
  refine (HSN.out _ HB1.out).mono ?_
  rintro e w2 ⟨A2, c2, rfl, hn2, hb2⟩
  have HB2 := Lib.hid (HB1.out.trans (hb2.mono HB1.out.size))
  have HE := Lib.hid (HEQ.out w2 (HB1.out.trans (hb2.mono HB1.out.size)) A2 c2 hn2.sl)
  generalize p.length = pl at *
  clear hn2 hb2
  go_wp2_with (go_at_call 17; (with_reducible refine HE.out.mono ?_); rintro e w' ⟨rfl, rfl⟩)
  go_ret
  exact ⟨rfl, HB2.out⟩
set_option maxHeartbeats 1000000 in
theorem has_len {w : World} {T : Nat → Prop} {g d : Nat} {V : AW} (h : WalAt w T g d V) {s : List Int} {rs recs : List (List Int)} (hp : V.parts = s :: rs) (hb : costM V.parts ≤ 1000000) (C A : Option Addr) (cc c : Nat) (hsn : Sl w C cc s) (hl : rs.length ≠ recs.length) :
    Calls Tryz.prog 29 #[.pointer (some ⟨g, 0, none⟩), .slice C s.length cc, .slice A recs.length c] w (HasAs w false) := by
  have hoct : ∀ q ∈ V.parts, Oct q := fun q hm => by
    obtain ⟨A1, c1, vs, hi⟩ := h
    obtain ⟨i, hi'⟩ := List.mem_iff_getElem?.1 hm
    obtain ⟨_, _, _, _, _, ho⟩ := hi.parts.each i q hi'
    exact ho
  have hpl : s.length ≤ 1000000 := by
    have := costM_mem (ps := V.parts) (k := 0) (p := s) (by rw [hp]; rfl)
    omega
  have HAL := Lib.hid (all_any h (by rw [hp]; simp) hb)
  have hd1 : V.parts.drop 1 = rs := by rw [hp]; rfl
  rw [hd1] at HAL
  have HSN := Lib.hid (fun (W : World) (hW : Below w.heap.size w W) => snap_any (h.later hW) (s := s) (by rw [hp]; rfl) hpl)
  have HEQ := Lib.hid (fun (W : World) (hW : Below w.heap.size w W) (B : Option Addr) (cb : Nat) (hN : Sl W B cb s) => equalAny B C cb cc s s W hN.rd (hsn.below hW).rd (hoct s (by rw [hp]; simp)) (hoct s (by rw [hp]; simp)))
  rw [show decide (s = s) = true from decide_eq_true rfl] at HEQ
  have HO := Lib.hid (fun q (hm : q ∈ rs) => hoct q (by rw [hp]; simp [hm]))
  obtain ⟨n, hn⟩ : ∃ n, n = recs.length := ⟨_, rfl⟩
  obtain ⟨m, hm⟩ : ∃ m, m = rs.length := ⟨_, rfl⟩
  have HM := Lib.hid hm
  rw [← hn, ← hm] at hl
  rw [← hn]
  have t1 : ((m : Int) != (n : Int)) = true := by simp; omega
  have t2 : ((m : Int) == (n : Int)) = false := by simp; omega
  clear h hp hb hsn hoct hpl hd1 hl hn hm
  go_enter Tryz.func29, Tryz.ntmps29
  go_wp2_with fail
  refine HAL.out.mono ?_
  rintro e w1 ⟨v, vs1, rfl, hrows, hb1⟩
  obtain ⟨A1, c1, rfl, hrecs⟩ := hrows.recs HO.out
  rw [← HM.out]
  have HB1 := Lib.hid hb1
  clear hrows hb1 hrecs
  go_wp2_with fail
  refine (HSN.out _ HB1.out).mono ?_
  rintro e w2 ⟨A2, c2, rfl, hn2, hb2⟩
  have HB2 := Lib.hid (HB1.out.trans (hb2.mono HB1.out.size))
  have HE := Lib.hid (HEQ.out w2 (HB1.out.trans (hb2.mono HB1.out.size)) A2 c2 hn2.sl)
  clear hn2 hb2 HSN HEQ
  generalize s.length = sl at *
  go_wp2_with (go_at_call 17; (with_reducible refine HE.out.mono ?_); rintro e w' ⟨rfl, rfl⟩)
  go_ret
  exact ⟨rfl, HB2.out⟩
theorem has_gen {w : World} {T : Nat → Prop} {g d : Nat} {V : AW} (h : WalAt w T g d V) {p s : List Int} {rs recs : List (List Int)} (hp : V.parts = p :: rs) (hb : costM V.parts ≤ 1000000) (C A : Option Addr) (cc c : Nat) (hsn : Sl w C cc s) (hos : Oct s) (hr : Recs w A recs) :
    Calls Tryz.prog 29 #[.pointer (some ⟨g, 0, none⟩), .slice C s.length cc, .slice A recs.length c] w (HasAs w (decide (V.parts = s :: recs))) := by
  by_cases h1 : p = s
  · subst h1
    by_cases h2 : rs.length = recs.length
    · have key := has_same h hp hb C A cc c hsn hr h2
      have e : decide (V.parts = p :: recs) = decide (rs = recs) := by rw [hp]; simp
      rw [e]
      exact key
    · have e : decide (V.parts = p :: recs) = false := decide_eq_false (fun e => h2 (by rw [hp] at e; injection e with _ e; rw [e]))
      rw [e]
      exact has_len h hp hb C A cc c hsn h2
  · have e : decide (V.parts = s :: recs) = false := decide_eq_false (fun e => h1 (by rw [hp] at e; injection e))
    rw [e]
    exact has_snap h hp hb C A cc c hsn hos h1

/-! ### what is looked for -/
/-- A snapshot and records, and where they lie. -/
structure TL where
  C : Option Addr
  cc : Nat
  s : List Int
  A : Option Addr
  c : Nat
  rs : List (List Int)
def TL.ps (t : TL) : List (List Int) := t.s :: t.rs
structure TellsL (W : World) (S T : Nat → Prop) (t : TL) : Prop where
  sl : Sl W t.C t.cc t.s
  slq : ∀ q, blk t.C = some q → q < W.heap.size ∧ ¬ S q ∧ ¬ T q
  rows : ∃ R vs, PartsAt W R t.A t.c t.rs vs ∧ ∀ q, R q → q < W.heap.size ∧ ¬ S q ∧ ¬ T q
  oct : Oct t.s
  cost : (costM t.ps : Int) ≤ 400
section
variable {X : Nat → Option Obj} {W W' w1 : World} {S T S' T' : Nat → Prop} {t t' u : TL} {g d k : Nat} {V : AW} {M M' : AD}
theorem TellsL.later (h : TellsL W S T t) (hb : Below W.heap.size W W') : TellsL W' S T t := by
  obtain ⟨R, vs, h1, h2⟩ := h.rows
  exact ⟨h.sl.below hb, fun q hq => ⟨Nat.lt_of_lt_of_le (h.slq q hq).1 hb.size, (h.slq q hq).2⟩, ⟨R, vs, h1.turn (fun q hq => hb.block q (h2 q hq).1), fun q hq => ⟨Nat.lt_of_lt_of_le (h2 q hq).1 hb.size, (h2 q hq).2⟩⟩, h.oct, h.cost⟩
theorem TellsL.moved (h : TellsL W S T t) (hm : Moved S T S' T' W W') : TellsL W' S' T' t := by
  obtain ⟨R, vs, h1, h2⟩ := h.rows
  have key : ∀ q, q < W.heap.size ∧ ¬ S q ∧ ¬ T q → q < W'.heap.size ∧ ¬ S' q ∧ ¬ T' q := fun q hq => ⟨Nat.lt_of_lt_of_le hq.1 hm.turn.size, fun e => (hm.s q e).elim hq.2.1 (fun e => by omega), fun e => (hm.t q e).elim hq.2.2 (fun e => by omega)⟩
  exact ⟨h.sl.turn hm.turn (fun q hq e => e.elim (h.slq q hq).2.1 (h.slq q hq).2.2), fun q hq => key q (h.slq q hq), ⟨R, vs, h1.turn (fun q hq => hm.turn.block q (h2 q hq).1 (fun e => e.elim (h2 q hq).2.1 (h2 q hq).2.2)), fun q hq => key q (h2 q hq)⟩, h.oct, h.cost⟩
theorem TellsL.fewer (h : TellsL W S T t) (hT : ∀ q, T' q → q < W.heap.size → T q) : TellsL W S T' t := by
  obtain ⟨R, vs, h1, h2⟩ := h.rows
  exact ⟨h.sl, fun q hq => ⟨(h.slq q hq).1, (h.slq q hq).2.1, fun e => (h.slq q hq).2.2 (hT q e (h.slq q hq).1)⟩, ⟨R, vs, h1, fun q hq => ⟨(h2 q hq).1, (h2 q hq).2.1, fun e => (h2 q hq).2.2 (hT q e (h2 q hq).1)⟩⟩, h.oct, h.cost⟩
theorem TellsL.recs (h : TellsL W S T t) : Recs W t.A t.rs := by
  obtain ⟨R, vs, h1, h2⟩ := h.rows
  exact h1.recs
theorem TellsL.room (h : TellsL W S T t) : t.rs.length ≤ t.c ∧ t.c ≤ 9223372036854775807 ∧ t.rs.length ≤ 40 := by
  obtain ⟨R, vs, h1, h2⟩ := h.rows
  obtain ⟨A', c', e, e1, e2⟩ := own_form h1.row
  injection e with _ _ e
  subst e
  have h3 := h.cost
  have h4 := costM_len t.ps
  have h5 : t.ps.length = t.rs.length + 1 := rfl
  refine ⟨e1, ?_, by omega⟩
  unfold maxLen at e2
  omega
theorem TellsL.octs (h : TellsL W S T t) : ∀ p ∈ t.ps, Oct p := by
  obtain ⟨R, vs, h1, h2⟩ := h.rows
  intro p hp
  rcases List.mem_cons.1 hp with e | e
  · rw [e]; exact h.oct
  · obtain ⟨i, hi⟩ := List.mem_iff_getElem?.1 e
    obtain ⟨_, _, _, _, _, ho⟩ := h1.each i p hi
    exact ho

/-- The log and its disk; all since w1. -/
structure Core (X : Nat → Option Obj) (w1 W : World) (S T : Nat → Prop) (g d k : Nat) (V : AW) (M : AD) : Prop where
  log : Log W S T g d V M
  oct : ∀ p ∈ V.parts, Oct p
  bel : Below w1.heap.size w1 W
  up : ∀ q, S q ∨ T q → w1.heap.size ≤ q
  ops : M.ops ≤ 20 + (k : Int)
  quiet : ∀ q o, X q = some o → W.heap[q]? = some o ∧ ¬ S q ∧ ¬ T q
theorem Core.later (h : Core X w1 W S T g d k V M) (hb : Below W.heap.size W W') : Core X w1 W' S T g d k V M :=
  ⟨⟨h.log.wal.later hb, h.log.disk.later hb, h.log.sep, h.log.ok⟩, h.oct, h.bel.trans (hb.mono h.bel.size), h.up, h.ops, fun q o hq => ⟨(hb.block q (lt_of_block (h.quiet q o hq).1)).trans (h.quiet q o hq).1, (h.quiet q o hq).2⟩⟩
theorem quiet_moved {X : Nat → Option Obj} {W W' : World} {S T S' T' : Nat → Prop} (h : ∀ q o, X q = some o → W.heap[q]? = some o ∧ ¬ S q ∧ ¬ T q) (hm : Moved S T S' T' W W') : ∀ q o, X q = some o → W'.heap[q]? = some o ∧ ¬ S' q ∧ ¬ T' q := fun q o hq => by
  obtain ⟨a1, a2, a3⟩ := h q o hq
  have hl := lt_of_block a1
  exact ⟨(hm.turn.block q hl (fun e => e.elim a2 a3)).trans a1, fun e => (hm.s q e).elim a2 (fun e => by omega), fun e => (hm.t q e).elim a3 (fun e => by omega)⟩
abbrev X0 : Nat → Option Obj := fun _ => none
/-- A block that nobody turns. -/
abbrev X1 (b : Nat) (o : Obj) : Nat → Option Obj := fun q => if q = b then some o else none
def LastI (X : Nat → Option Obj) (w1 W : World) (g d k : Nat) (t : TL) : Prop := ∃ S T M, Core X w1 W S T g d k ⟨400, t.ps, false⟩ M ∧ Steady M t.ps ∧ TellsL W S T t
def PairI (X : Nat → Option Obj) (w1 W : World) (g d k : Nat) (V : AW) (P : AD → Prop) (t t' : TL) : Prop := ∃ S T M, Core X w1 W S T g d k V M ∧ P M ∧ TellsL W S T t ∧ TellsL W S T t'
theorem LastI.later (h : LastI X w1 W g d k t) (hb : Below W.heap.size W W') : LastI X w1 W' g d k t := by
  obtain ⟨S, T, M, h1, h2, h3⟩ := h
  exact ⟨S, T, M, h1.later hb, h2, h3.later hb⟩
theorem LastI.bel (h : LastI X w1 W g d k t) : Below w1.heap.size w1 W := by
  obtain ⟨S, T, M, h1, h2, h3⟩ := h
  exact h1.bel
theorem LastI.room (h : LastI X w1 W g d k t) : t.rs.length ≤ t.c ∧ t.c ≤ 9223372036854775807 ∧ t.rs.length ≤ 40 := by
  obtain ⟨S, T, M, h1, h2, h3⟩ := h
  exact h3.room
theorem LastI.next (h : LastI X w1 W g d k t) {j : Nat} (hj : k ≤ j) : LastI X w1 W g d j t := by
  obtain ⟨S, T, M, h1, h2, h3⟩ := h
  exact ⟨S, T, M, ⟨h1.log, h1.oct, h1.bel, h1.up, by have := h1.ops; omega, h1.quiet⟩, h2, h3⟩
theorem own_low0 {w : World} {b1 : Nat} {e : TypeId} {v : Value} {n : Nat} {xs : List Value} (h : w.ownsRow b1 e 1 v n xs) : w.ownsRow 0 e 1 v n xs := by
  refine ⟨h.1, ?_⟩
  rcases h.2 with h0 | ⟨g, cap, cur, e1, hg, r⟩
  · exact .inl h0
  · exact .inr ⟨g, cap, cur, e1, Nat.zero_le _, r⟩
theorem grown_below {w w' : World} (hg : w.grownBy w' none) : Below w.heap.size w w' := ⟨hg.os, hg.tape, hg.output, hg.size, fun i hi => hg.block i hi (by simp)⟩
theorem last_start {g d : Nat} (h : Play w1 W S T g d (newW 400) fm1 none) : LastI X0 w1 W g d 0 ⟨none, 0, [], none, 0, []⟩ := by
  refine ⟨S, T, fm1, ⟨h.log, h.oct, h.bel, h.up, by have := fm_ops; omega, fun q o e => by cases e⟩, h.calm.steady, ?_⟩
  refine ⟨⟨by simp, by simp, fun hp => by simp at hp⟩, fun q hq => by simp [blk] at hq, ⟨fun _ => False, [], ⟨World.ownsRow_nil _ _ _ _, fun i p hp => by simp at hp, fun q hq => by simp [blk] at hq⟩, fun q hq => hq.elim⟩, fun b hb => by simp at hb, ?_⟩
  show (costM [[]] : Int) ≤ 400
  simp [costM]
theorem LastI.forget (h : LastI X w1 W g d k t) : LastI X0 w1 W g d k t := by
  obtain ⟨S, T, M, h1, h2, h3⟩ := h
  exact ⟨S, T, M, ⟨h1.log, h1.oct, h1.bel, h1.up, h1.ops, fun q o e => by cases e⟩, h2, h3⟩
theorem LastI.watch (h : LastI X w1 W g d k t) (o : Obj) (hW : W' = W.alloc o) (ho : W'.heap[W.heap.size]? = some o) : LastI (X1 W.heap.size o) w1 W' g d k t := by
  obtain ⟨S, T, M, h1, h2, h3⟩ := h
  have hb : Below W.heap.size W W' := by rw [hW]; exact (Below.refl _ W).alloc (Nat.le_refl _) o
  have h1' := h1.later hb
  refine ⟨S, T, M, ⟨h1'.log, h1'.oct, h1'.bel, h1'.up, h1'.ops, fun q o' e => ?_⟩, h2, h3.later hb⟩
  have e2 : (if q = W.heap.size then some o else none) = some o' := e
  by_cases hq : q = W.heap.size
  · rw [if_pos hq] at e2
    injection e2 with e2
    subst e2
    subst hq
    exact ⟨ho, fun e => by have := h1.log.disk.low e; omega, fun e => by have := h1.log.wal.low e; omega⟩
  · rw [if_neg hq] at e2
    cases e2
theorem LastI.box {b : Nat} {o : Obj} (h : LastI (X1 b o) w1 W g d k t) : W.heap[b]? = some o := by
  obtain ⟨S, T, M, h1, h2, h3⟩ := h
  exact (h1.quiet b o (by show (if b = b then some o else none) = some o; rw [if_pos rfl])).1
theorem last_broken (h : LastI X w1 W g d k t) : Calls Tryz.prog 27 #[.pointer (some ⟨g, 0, none⟩)] W fun e w' => e = .returned (.bool false) ∧ W = w' := by
  obtain ⟨S, T, M, h1, h2, h3⟩ := h
  exact broken_any h1.log.wal
theorem last_has (h : LastI X w1 W g d k t) : Calls Tryz.prog 29 #[.pointer (some ⟨g, 0, none⟩), .slice t.C t.s.length t.cc, .slice t.A t.rs.length t.c] W (HasAs W true) := by
  obtain ⟨S, T, M, h1, h2, h3⟩ := h
  have key := has_gen h1.log.wal (p := t.s) (rs := t.rs) rfl (by have := h3.cost; show costM t.ps ≤ _; omega) t.C t.A t.cc t.c h3.sl h3.oct h3.recs
  rw [decide_eq_true (show (⟨400, t.ps, false⟩ : AW).parts = t.s :: t.rs from rfl)] at key
  exact key

/-! ### Append, Checkpoint -/
/-- The log with bytes that were handed in. -/
def MidI (X : Nat → Option Obj) (w1 W : World) (g d k : Nat) (V : AW) (P : AD → Prop) (t : TL) (B : Option Addr) (cb : Nat) (b : List Int) : Prop :=
  ∃ S T M, Core X w1 W S T g d k V M ∧ P M ∧ TellsL W S T t ∧ W.ownsRow 0 5 1 (.slice B b.length cb) b.length (b.map (Value.int .u8)) ∧ (∀ q, blk B = some q → q < W.heap.size ∧ ¬ S q ∧ ¬ T q) ∧ Oct b
/-- What an operation comes to: done, or the log is broken. -/
def Fate (x : Int) (V : AW) (P : AD → Prop) (ps qs : List (List Int)) : Prop :=
  (x = 0 ∧ V = ⟨400, qs, false⟩ ∧ P = fun M => Steady M qs) ∨ (x ≠ 0 ∧ V = ⟨400, ps, true⟩ ∧ P = fun M => Shaken M ps qs)
theorem mid_of {W1 W2 : World} {P : AD → Prop} {B : Option Addr} {cb : Nat} {b : List Int} (h : Core X w1 W S T g d k V M) (ht : TellsL W S T t) (hb : Below W.heap.size W W1) (ho : Oct b) (hn : New W.heap.size W1 B cb b) {V' : AW} (hoV : ∀ p ∈ V'.parts, Oct p) (hlog : Log W2 S' T' g d V' M') (hm : Moved S T S' T' W1 W2) (hops : M'.ops ≤ M.ops + 4) (hP : P M') :
    MidI X w1 W2 g d (k + 4) V' P t B cb b := by
  have hnl : ∀ q, blk B = some q → W.heap.size ≤ q ∧ q < W1.heap.size := fun q hq => hn.lt q (by cases B <;> simp_all [Value.ownBlock, blk])
  have hz := hb.size
  have h1 := h.later hb
  obtain ⟨u1, u2⟩ := moved_up hm h1.bel h1.up
  have key : ∀ q, blk B = some q → q < W1.heap.size ∧ ¬ S q ∧ ¬ T q := fun q hq => ⟨(hnl q hq).2, fun e => by have := (hnl q hq).1; have := h.log.disk.low e; omega, fun e => by have := (hnl q hq).1; have := h.log.wal.low e; omega⟩
  refine ⟨S', T', M', ⟨hlog, hoV, u1, u2, by have := h.ops; omega, quiet_moved h1.quiet hm⟩, hP, (ht.later hb).moved hm, row_same (New.low (A := B) (bs := b) hn (Nat.zero_le _)) (fun q hq => hm.turn.block q (key q hq).1 (fun e => e.elim (key q hq).2.1 (key q hq).2.2)), fun q hq => ?_, ho⟩
  obtain ⟨a1, a2, a3⟩ := key q hq
  exact ⟨Nat.lt_of_lt_of_le a1 hm.turn.size, fun e => (hm.s q e).elim a2 (fun e => by omega), fun e => (hm.t q e).elim a3 (fun e => by omega)⟩
theorem last_append (h : LastI X w1 W g d k t) (hk : k ≤ 100000) {W1 : World} (hb : Below W.heap.size W W1) {b : List Int} (ho : Oct b) (hl : b.length ≤ 300) {B : Option Addr} {cb : Nat} (hn : New W.heap.size W1 B cb b) :
    Calls Tryz.prog 23 #[.pointer (some ⟨g, 0, none⟩), .slice B b.length cb] W1 fun e W2 =>
      (e = .returned (.int .i64 6) ∧ LastI X w1 W2 g d (k + 4) t) ∨
      (∃ x V P, e = .returned (.int .i64 x) ∧ x ≠ 6 ∧ (costM (t.ps ++ [b]) : Int) ≤ 400 ∧ MidI X w1 W2 g d (k + 4) V P t B cb b ∧ Fate x V P t.ps (t.ps ++ [b])) := by
  obtain ⟨S, T, M, h1, h2, h3⟩ := h
  have hnl : ∀ q, blk B = some q → W.heap.size ≤ q := fun q hq => (hn.lt q (by cases B <;> simp_all [Value.ownBlock, blk])).1
  have hops := h1.ops
  have key := append_anyW (h1.later hb).log (by omega) rfl hn.sl ho (by omega) (fun q hq e => by have := hnl q hq; have := h1.log.disk.low e; omega)
  have hcost := h3.cost
  have hca : costM (t.ps ++ [b]) = costM t.ps + (b.length + 12) := by simp [costM]
  have hroom : AW.room ⟨400, t.ps, false⟩ = 400 - (costM t.ps : Int) := rfl
  by_cases hf : (400 : Int) - (costM t.ps : Int) < (b.length : Int) + 12
  · have hr : AW.refC ⟨400, t.ps, false⟩ b.length (AW.room ⟨400, t.ps, false⟩) = 6 := by
      unfold AW.refC fitsC
      rw [hroom, if_neg (by show ¬ (false = true); simp), if_neg (by omega), if_pos hf]
    have e1 : AW.appC ⟨400, t.ps, false⟩ M b = 6 := by unfold AW.appC; rw [hr]; rfl
    have e2 : AW.appV ⟨400, t.ps, false⟩ M b = ⟨400, t.ps, false⟩ := by unfold AW.appV; rw [hr]; rfl
    have e3 : AW.appD ⟨400, t.ps, false⟩ M b = M := by unfold AW.appD; rw [hr]; rfl
    rw [e1, e2, e3] at key
    refine key.mono ?_
    rintro e W2 ⟨rfl, S', T', hlog, hm⟩
    obtain ⟨S2, T2, M2, g1, g2, g3, _⟩ := mid_of (P := fun M => Steady M t.ps) h1 h3 hb ho hn h1.oct hlog hm (by omega) h2
    exact .inl ⟨rfl, S2, T2, M2, g1, g2, g3⟩
  · have hr : AW.refC ⟨400, t.ps, false⟩ b.length (AW.room ⟨400, t.ps, false⟩) = 0 := by
      unfold AW.refC fitsC
      rw [hroom, if_neg (by show ¬ (false = true); simp), if_neg (by omega), if_neg hf]
    have e1 : AW.appC ⟨400, t.ps, false⟩ M b = M.layC (frameM t.ps.length b) := by unfold AW.appC; rw [hr]; rfl
    have e2 : AW.appV ⟨400, t.ps, false⟩ M b = if M.layC (frameM t.ps.length b) ≠ 0 then ⟨400, t.ps, true⟩ else ⟨400, t.ps ++ [b], false⟩ := by unfold AW.appV; rw [hr]; rfl
    have e3 : AW.appD ⟨400, t.ps, false⟩ M b = M.layM (frameM t.ps.length b) := by unfold AW.appD; rw [hr]; rfl
    rw [e1, e2, e3] at key
    refine key.mono ?_
    have hoq : ∀ p ∈ t.ps ++ [b], Oct p := fun p hp => by
      rcases List.mem_append.1 hp with e | e
      · exact h3.octs p e
      · have : p = b := by simpa using e
        rw [this]; exact ho
    have hlo := layM_ops M (frameM t.ps.length b)
    rintro e W2 ⟨rfl, S', T', hlog, hm⟩
    rcases h2.lay b (by omega) with ⟨x0, x1⟩ | ⟨x0, x6, x1⟩
    · rw [x0, if_neg (by simp)] at hlog
      exact .inr ⟨_, _, fun M => Steady M (t.ps ++ [b]), rfl, by rw [x0]; decide, by omega, mid_of h1 h3 hb ho hn hoq hlog hm (by omega) x1, .inl ⟨x0, rfl, rfl⟩⟩
    · rw [if_pos x0] at hlog
      exact .inr ⟨_, (⟨400, t.ps, true⟩ : AW), fun M => Shaken M t.ps (t.ps ++ [b]), rfl, x6, by omega, mid_of h1 h3 hb ho hn h1.oct hlog hm (by omega) x1, .inr ⟨x0, rfl, rfl⟩⟩
theorem last_check (h : LastI X w1 W g d k t) (hk : k ≤ 100000) {W1 : World} (hb : Below W.heap.size W W1) {b : List Int} (ho : Oct b) (hl : b.length ≤ 300) {B : Option Addr} {cb : Nat} (hn : New W.heap.size W1 B cb b) :
    Calls Tryz.prog 24 #[.pointer (some ⟨g, 0, none⟩), .slice B b.length cb] W1 fun e W2 =>
      ∃ x V P, e = .returned (.int .i64 x) ∧ x ≠ 6 ∧ MidI X w1 W2 g d (k + 4) V P t B cb b ∧ Fate x V P t.ps [b] := by
  obtain ⟨S, T, M, h1, h2, h3⟩ := h
  have hnl : ∀ q, blk B = some q → W.heap.size ≤ q := fun q hq => (hn.lt q (by cases B <;> simp_all [Value.ownBlock, blk])).1
  have hops := h1.ops
  have key := check_anyW (h1.later hb).log (by omega) rfl hn.sl ho (by omega) (fun q hq e => by have := hnl q hq; have := h1.log.disk.low e; omega)
  have hcost := h3.cost
  have hr : AW.refC ⟨400, t.ps, false⟩ b.length 400 = 0 := by
    unfold AW.refC fitsC
    rw [if_neg (by show ¬ (false = true); simp), if_neg (by omega), if_neg (by omega)]
  have e1 : AW.chkC ⟨400, t.ps, false⟩ M b = M.makeC (fileM 400 b) := by unfold AW.chkC; rw [hr]; rfl
  have e2 : AW.chkV ⟨400, t.ps, false⟩ M b = if M.makeC (fileM 400 b) ≠ 0 then ⟨400, t.ps, true⟩ else ⟨400, [b], false⟩ := by unfold AW.chkV; rw [hr]; rfl
  have e3 : AW.chkD ⟨400, t.ps, false⟩ M b = M.makeM (fileM 400 b) := by unfold AW.chkD; rw [hr]; rfl
  rw [e1, e2, e3] at key
  refine key.mono ?_
  have hoq : ∀ p ∈ [b], Oct p := fun p hp => by
    have : p = b := by simpa using hp
    rw [this]; exact ho
  have hlo := makeM_ops M (fileM 400 b)
  rintro e W2 ⟨rfl, S', T', hlog, hm⟩
  rcases h2.make b hcost (by omega) with ⟨x0, x1⟩ | ⟨x0, x6, x1⟩
  · rw [x0, if_neg (by simp)] at hlog
    exact ⟨_, _, fun M => Steady M [b], rfl, by rw [x0]; decide, mid_of h1 h3 hb ho hn hoq hlog hm (by omega) x1, .inl ⟨x0, rfl, rfl⟩⟩
  · rw [if_pos x0] at hlog
    exact ⟨_, (⟨400, t.ps, true⟩ : AW), fun M => Shaken M t.ps [b], rfl, x6, mid_of h1 h3 hb ho hn h1.oct hlog hm (by omega) x1, .inr ⟨x0, rfl, rfl⟩⟩
/-- A record more: in a row of its own. -/
theorem MidI.row {P : AD → Prop} {B : Option Addr} {cb : Nat} {b : List Int} (h : MidI X w1 W g d k V P t B cb b) : ∃ vs, vs.length = t.rs.length ∧ (t.A = none → t.rs.length = 0) ∧ (∀ a, t.A = some a → ∀ j u, vs[j]? = some u → W.cell? (a.add j) = some u) ∧ t.rs.length ≤ t.c ∧ t.rs.length ≤ 40 ∧
    ∀ W3 W4 A2 c2, Below W.heap.size W W3 → W4.ownsRow W3.heap.size 33 1 (.slice A2 (t.rs.length + 1) c2) (t.rs.length + 1) (vs ++ [.slice B b.length cb]) → W3.grownBy W4 none → (costM (t.ps ++ [b]) : Int) ≤ 400 → PairI X w1 W4 g d k V P t ⟨t.C, t.cc, t.s, A2, c2, t.rs ++ [b]⟩ := by
  obtain ⟨S, T, M, h1, hP, h3, h4, h5, h6⟩ := h
  obtain ⟨r1, r2, r3⟩ := h3.room
  obtain ⟨R, vs, p1, p2⟩ := h3.rows
  have hvl : vs.length = t.rs.length := by have := p1.row.1; omega
  refine ⟨vs, hvl, fun e => ?_, fun a ha j u hu => ?_, r1, r3, fun W3 W4 A2 c2 hb hrow hg hc => ?_⟩
  · rcases p1.row.2 with ⟨_, e2⟩ | ⟨b', cap, cur, e2, _⟩
    · exact e2
    · rw [e] at e2; cases e2
  · have hj := (List.getElem?_eq_some_iff.1 hu).1
    rcases p1.row.2 with ⟨e2, e3⟩ | ⟨b', cap, cur, e2, _⟩
    · rw [ha] at e2; cases e2
    · injection e2 with e2
      have hrow := p1.row
      rw [e2] at hrow
      have hc := hrow.cellAt j (by omega)
      rw [ha] at e2
      injection e2 with e2
      subst e2
      rw [Addr.add_lit, Nat.zero_add]
      exact hc.trans hu
  · have hb4 : Below W.heap.size W W4 := hb.trans ((grown_below hg).mono hb.size)
    have hW34 : Below W3.heap.size W3 W4 := grown_below hg
    refine ⟨S, T, M, h1.later hb4, hP, h3.later hb4, ?_⟩
    have hz := hb.size
    have hlA : ∀ q, blk A2 = some q → W3.heap.size ≤ q ∧ q < W4.heap.size := fun q hq => hrow.lt q (by cases A2 <;> simp_all [Value.ownBlock, blk])
    refine ⟨h3.sl.below hb4, fun q hq => ⟨Nat.lt_of_lt_of_le (h3.slq q hq).1 hb4.size, (h3.slq q hq).2⟩, ⟨fun q => R q ∨ blk B = some q ∨ blk A2 = some q, vs ++ [.slice B b.length cb], ⟨?_, fun i p hp => ?_, fun q hq => .inr (.inr hq)⟩, fun q hq => ?_⟩, h3.oct, hc⟩
    · show W4.ownsRow 0 33 1 (.slice A2 (t.rs ++ [b]).length c2) (t.rs ++ [b]).length _
      rw [List.length_append, List.length_singleton]
      exact own_low0 hrow
    · by_cases hi : i < t.rs.length
      · rw [List.getElem?_append_left hi] at hp
        obtain ⟨B', cb', q1, q2, q3, q4⟩ := p1.each i p hp
        exact ⟨B', cb', by rw [List.getElem?_append_left (by omega)]; exact q1, row_same q2 (fun q hq => hb4.block q (p2 q (q3 q hq)).1), fun q hq => .inl (q3 q hq), q4⟩
      · rw [List.getElem?_append_right (by omega)] at hp
        have hi0 : i - t.rs.length = 0 := by
          rcases hd : i - t.rs.length with _ | j
          · rfl
          · rw [hd] at hp; simp at hp
        rw [hi0] at hp
        have hp : b = p := by simpa using hp
        subst hp
        exact ⟨B, cb, by rw [List.getElem?_append_right (by omega), hvl, hi0]; rfl, row_same h4 (fun q hq => hb4.block q (h5 q hq).1), fun q hq => .inr (.inl hq), h6⟩
    · rcases hq with e | e | e
      · exact ⟨Nat.lt_of_lt_of_le (p2 q e).1 hb4.size, (p2 q e).2⟩
      · exact ⟨Nat.lt_of_lt_of_le (h5 q e).1 hb4.size, (h5 q e).2⟩
      · obtain ⟨a1, a2⟩ := hlA q e
        exact ⟨a2, fun e => by have := h1.log.disk.low e; omega, fun e => by have := h1.log.wal.low e; omega⟩
/-- A new snapshot, without records. -/
theorem MidI.snap {P : AD → Prop} {B : Option Addr} {cb : Nat} {b : List Int} (h : MidI X w1 W g d k V P t B cb b) (hl : b.length ≤ 300) : PairI X w1 W g d k V P t ⟨B, cb, b, none, 0, []⟩ := by
  obtain ⟨S, T, M, h1, hP, h3, h4, h5, h6⟩ := h
  refine ⟨S, T, M, h1, hP, h3, ⟨Sl.ofRow h4 rfl, h5, ⟨fun _ => False, [], ⟨World.ownsRow_nil _ _ _ _, fun i p hp => by simp at hp, fun q hq => by simp [blk] at hq⟩, fun q hq => hq.elim⟩, h6, ?_⟩⟩
  show (costM [b] : Int) ≤ 400
  simp [costM]
  omega
/-- What an event's first part comes to. -/
def SwI (X : Nat → Option Obj) (w1 W : World) (g d k : Nat) (nine : Prop) (t t' : TL) (x : Int) : Prop :=
  (x = 0 ∧ nine ∧ PairI X w1 W g d k ⟨400, t'.ps, false⟩ (fun M => Steady M t'.ps) t t') ∨ (x = 0 ∧ ¬ nine ∧ t' = t ∧ LastI X w1 W g d k t) ∨ (x = 6 ∧ nine ∧ LastI X w1 W g d k t) ∨ (x ≠ 0 ∧ x ≠ 6 ∧ PairI X w1 W g d k ⟨400, t.ps, true⟩ (fun M => Shaken M t.ps t'.ps) t t')
theorem PairI.fate {P : AD → Prop} {x : Int} {nine : Prop} (h : PairI X w1 W g d k V P t t') (hx : x ≠ 6) (hf : Fate x V P t.ps t'.ps) (h9 : nine) : SwI X w1 W g d k nine t t' x := by
  rcases hf with ⟨h1, rfl, rfl⟩ | ⟨h1, rfl, rfl⟩
  · exact .inl ⟨h1, h9, h⟩
  · exact .inr (.inr (.inr ⟨h1, hx, h⟩))
theorem PairI.done (h : PairI X w1 W g d k ⟨400, t'.ps, false⟩ (fun M => Steady M t'.ps) t t') : LastI X w1 W g d k t' := by
  obtain ⟨S, T, M, h1, h2, _, h3⟩ := h
  exact ⟨S, T, M, h1, h2, h3⟩
theorem LastI.pair (h : LastI X w1 W g d k t) : PairI X w1 W g d k ⟨400, t.ps, false⟩ (fun M => Shaken M t.ps t.ps) t t := by
  obtain ⟨S, T, M, h1, h2, h3⟩ := h
  exact ⟨S, T, M, h1, h2.shaken _, h3, h3⟩
theorem pair_broken {P : AD → Prop} (h : PairI X w1 W g d k V P t t') : Calls Tryz.prog 27 #[.pointer (some ⟨g, 0, none⟩)] W fun e w' => e = .returned (.bool V.broken) ∧ W = w' := by
  obtain ⟨S, T, M, h1, h2, h3⟩ := h
  exact broken_any h1.log.wal
theorem PairI.box {P : AD → Prop} {b : Nat} {o : Obj} (h : PairI (X1 b o) w1 W g d k V P t t') : W.heap[b]? = some o := by
  obtain ⟨S, T, M, h1, h2, h3⟩ := h
  exact (h1.quiet b o (by show (if b = b then some o else none) = some o; rw [if_pos rfl])).1
theorem PairI.room {P : AD → Prop} (h : PairI X w1 W g d k V P t t') : t.rs.length ≤ t.c ∧ t'.rs.length ≤ t'.c := by
  obtain ⟨S, T, M, h1, h2, h3, h4⟩ := h
  exact ⟨h3.room.1, h4.room.1⟩
theorem PairI.bel {P : AD → Prop} (h : PairI X w1 W g d k V P t t') : Below w1.heap.size w1 W := by
  obtain ⟨S, T, M, h1, _⟩ := h
  exact h1.bel
theorem PairI.later {P : AD → Prop} (h : PairI X w1 W g d k V P t t') (hb : Below W.heap.size W W') : PairI X w1 W' g d k V P t t' := by
  obtain ⟨S, T, M, h1, h2, h3, h4⟩ := h
  exact ⟨S, T, M, h1.later hb, h2, h3.later hb, h4.later hb⟩

/-! ### Arm, Fail -/
theorem last_set (h : LastI X w1 W g d k t) {n : Int} (h0 : 0 ≤ n) (h8 : n ≤ 8) :
    (Calls Tryz.prog 25 #[.pointer (some ⟨d, 0, none⟩), .int .i64 n] W fun e W2 => e = .returned (.int .i64 0) ∧ LastI X w1 W2 g d k t) ∧
    (Calls Tryz.prog 26 #[.pointer (some ⟨d, 0, none⟩), .int .i64 n] W fun e W2 => e = .returned (.int .i64 0) ∧ LastI X w1 W2 g d k t) := by
  obtain ⟨S, T, M, h1, h2, h3⟩ := h
  have hc : M.setC n = 0 := by unfold AD.setC; rw [h2.live, if_neg (by simp), if_neg (by omega)]
  have fin : ∀ (M' : AD) (W2 : World), M'.ops = M.ops → Steady M' t.ps → DiskAt W2 S d M' → W.grownBy W2 (some d) → LastI X w1 W2 g d k t := fun M' W2 ho hs hd hg => by
    have ht : Turn S W W2 := Turn.of_grown hg (fun i e => by injection e with e; subst e; exact .inl h1.log.disk.inS)
    have hm : Moved S T S T W W2 := ⟨ht.mono (fun q hq => .inl hq), fun q hq => .inl hq, fun q hq => .inl hq⟩
    obtain ⟨u1, u2⟩ := moved_up hm h1.bel h1.up
    exact ⟨S, T, M', ⟨⟨h1.log.wal.other ht h1.log.sep, hd, h1.log.sep, h1.log.ok⟩, h1.oct, u1, u2, by rw [ho]; exact h1.ops, quiet_moved h1.quiet hm⟩, hs, h3.moved hm⟩
  constructor
  · have key := arm_any h1.log.disk (n := n) (WalkArith.wf_i64 (by omega))
    rw [hc] at key
    refine key.mono ?_
    rintro e W2 ⟨rfl, hd, hg⟩
    have e : M.armM n = { M with armed := n } := by unfold AD.armM; rw [if_pos hc]
    rw [e] at hd
    exact ⟨rfl, fin { M with armed := n } W2 rfl ⟨h2.f0, h2.f1, h2.f2, h2.f3, h2.room_, h2.live⟩ hd hg⟩
  · have key := fail_any h1.log.disk (n := n) (WalkArith.wf_i64 (by omega))
    rw [hc] at key
    refine key.mono ?_
    rintro e W2 ⟨rfl, hd, hg⟩
    have e : M.failM n = { M with failing := n } := by unfold AD.failM; rw [if_pos hc]
    rw [e] at hd
    exact ⟨rfl, fin { M with failing := n } W2 rfl ⟨h2.f0, h2.f1, h2.f2, h2.f3, h2.room_, h2.live⟩ hd hg⟩

/-! ### the loss of power, and Open -/
def RiseI (w1 W : World) (d k : Nat) (t t' : TL) : Prop :=
  ∃ S M bs rs, DiskAt W S d M ∧ (rs = t.ps ∨ rs = t'.ps) ∧ Risen M bs rs ∧ TellsL W S (fun _ => False) t ∧ TellsL W S (fun _ => False) t' ∧ Below w1.heap.size w1 W ∧ (∀ q, S q → w1.heap.size ≤ q) ∧ M.ops ≤ 20 + (k : Int)
theorem pair_crash (h : PairI X w1 W g d k V (fun M => Shaken M t.ps t'.ps) t t') (K : Option Addr) (kn kc : Nat) (keep : List Bool) (hkl : keep.length = kn) (hK : RdB W W.heap.size K keep) (hkn : kn ≤ kc) (hkc : kc ≤ 9223372036854775807) :
    Calls Tryz.prog 28 #[.pointer (some ⟨d, 0, none⟩), .slice K kn kc] W fun e W2 => e = .returned (.int .i64 0) ∧ RiseI w1 W2 d k t t' := by
  subst hkl
  obtain ⟨S, T, M, h1, h2, h3, h4⟩ := h
  have key := crash_any h1.log.disk K kc keep hK hkn hkc
  refine key.mono ?_
  rintro e W2 ⟨rfl, ha⟩
  have hm : Moved S T (grew S W W2) T W W2 := after_moved ha
  obtain ⟨u1, u2⟩ := moved_up hm h1.bel h1.up
  obtain ⟨bs, rs, hrs, hris⟩ := h2.crash h1.log.disk.ok (by simp [TL.ps]) h3.cost h4.cost h3.octs h4.octs keep
  exact ⟨rfl, _, _, bs, rs, ha.1, hrs, hris, (h3.moved hm).fewer (fun q e _ => e.elim), (h4.moved hm).fewer (fun q e _ => e.elim), u1, fun q hq => u2 q (.inl hq), h1.ops⟩
theorem rise_open (h : RiseI w1 W d k t t') (hk : k ≤ 100000) :
    Calls Tryz.prog 13 #[.pointer (some ⟨d, 0, none⟩)] W fun e W2 => ∃ g' rs, e = .returned (.tuple #[.pointer (some ⟨g', 0, none⟩), .int .i64 0]) ∧ (rs = t.ps ∨ rs = t'.ps) ∧ PairI X0 w1 W2 g' d (k + 3) ⟨400, rs, false⟩ (fun M => Calm M 940 (setF (logB 400 rs)) none) t t' := by
  obtain ⟨S, M, bs, rs, h1, hrs, h2, h3, h4, h5, h6, h7⟩ := h
  have hne : rs ≠ [] := by rcases hrs with e | e <;> (rw [e]; simp [TL.ps])
  have hone : 1 ≤ rs.length := List.length_pos_iff.2 hne
  have hcost : (costM rs : Int) ≤ 400 := by
    rcases hrs with e | e
    · rw [e]; exact h3.cost
    · rw [e]; exact h4.cost
  have hoct : ∀ p ∈ rs, Oct p := by
    rcases hrs with e | e
    · rw [e]; exact h3.octs
    · rw [e]; exact h4.octs
  obtain ⟨o1, o2, o3, o4⟩ := h2.open_ hne
  have key := open_any h1 (by omega) (by rw [o1]; exact h2.oct) (by rw [o1]; have := h2.short; omega)
  refine key.mono ?_
  rintro e W2 (⟨hn, _⟩ | ⟨_, g', S', T', rfl, hw, hwal, hT⟩)
  · exact absurd o2 hn
  · rw [o4] at hwal
    have hops := openM_ops M
    have hm : Moved S (fun _ => False) S' T' W W2 := ⟨hw.turn.mono (fun q hq => .inl hq), hw.grow, fun q hq => .inr (hT q hq).1⟩
    obtain ⟨u1, u2⟩ := moved_up (T := fun _ => False) hm h5 (fun q hq => hq.elim (fun e => h6 q e) (fun e => e.elim))
    exact ⟨g', rs, rfl, hrs, S', T', M.openM, ⟨⟨hwal, hw.at_, fun q hq => (hT q hq).2, ⟨(show Lim 400 from ⟨by omega, by omega⟩), hone, hcost⟩⟩, hoct, u1, u2, by omega, fun q o e => by cases e⟩, o3, h3.moved hm, h4.moved hm⟩
theorem pair_has {P : AD → Prop} {rs : List (List Int)} (h : PairI X w1 W g d k ⟨400, rs, false⟩ P t t') (hrs : rs = t.ps ∨ rs = t'.ps) :
    Calls Tryz.prog 29 #[.pointer (some ⟨g, 0, none⟩), .slice t'.C t'.s.length t'.cc, .slice t'.A t'.rs.length t'.c] W (HasAs W (decide (rs = t'.ps))) := by
  obtain ⟨S, T, M, h1, h2, h3, h4⟩ := h
  have hcost : costM rs ≤ 1000000 := by have := h3.cost; have := h4.cost; rcases hrs with e | e <;> rw [e] <;> omega
  obtain ⟨p, r, hpr⟩ : ∃ p r, rs = p :: r := by
    rcases hrs with e | e
    · exact ⟨t.s, t.rs, e⟩
    · exact ⟨t'.s, t'.rs, e⟩
  exact has_gen h1.log.wal (p := p) (rs := r) hpr hcost t'.C t'.A t'.cc t'.c h4.sl h4.oct h4.recs
def OneI (w1 W : World) (g d k : Nat) (u : TL) : Prop := ∃ S T M, Core X0 w1 W S T g d k ⟨400, u.ps, false⟩ M ∧ Calm M 940 (setF (logB 400 u.ps)) none ∧ TellsL W S T u
theorem PairI.one1 (h : PairI X0 w1 W g d k ⟨400, t.ps, false⟩ (fun M => Calm M 940 (setF (logB 400 t.ps)) none) t t') : OneI w1 W g d k t := by
  obtain ⟨S, T, M, h1, h2, h3, h4⟩ := h
  exact ⟨S, T, M, h1, h2, h3⟩
theorem PairI.one2 (h : PairI X0 w1 W g d k ⟨400, t'.ps, false⟩ (fun M => Calm M 940 (setF (logB 400 t'.ps)) none) t t') : OneI w1 W g d k t' := by
  obtain ⟨S, T, M, h1, h2, h3, h4⟩ := h
  exact ⟨S, T, M, h1, h2, h4⟩
/-- The log, and the one that was opened ahead of it. -/
def TwinI (w1 W : World) (g1 g2 d k : Nat) (u : TL) : Prop := LastI X0 w1 W g2 d k u ∧ (∃ T, WalAt W T g1 d ⟨400, u.ps, false⟩) ∧ ∃ T, WalAt W T g2 d ⟨400, u.ps, false⟩
theorem TwinI.later {g1 g2 : Nat} (h : TwinI w1 W g1 g2 d k u) (hb : Below W.heap.size W W') : TwinI w1 W' g1 g2 d k u := by
  obtain ⟨h1, ⟨T, h2⟩, T2, h3⟩ := h
  exact ⟨h1.later hb, ⟨T, h2.later hb⟩, T2, h3.later hb⟩
theorem one_open (h : OneI w1 W g d k u) (hk : k ≤ 100000) :
    Calls Tryz.prog 13 #[.pointer (some ⟨d, 0, none⟩)] W fun e W2 => ∃ g', e = .returned (.tuple #[.pointer (some ⟨g', 0, none⟩), .int .i64 0]) ∧ TwinI w1 W2 g g' d (k + 3) u := by
  obtain ⟨S, T, M, h1, h2, h3⟩ := h
  have hcost := h3.cost
  have hops0 := h1.ops
  obtain ⟨p1, p2⟩ := hear_full (ps := u.ps) (by simp [TL.ps]) hcost
  have hr : M.readB 0 = logB 400 u.ps := h2.read (by decide) h2.f0
  have hll := logB_len 400 u.ps
  have hh : hearC (logB 400 u.ps) = 0 := by
    unfold hearC
    rw [if_neg]
    rw [p1, p2]
    rintro (e | e)
    · omega
    · simp [TL.ps] at e
  obtain ⟨o1, F', o2, o3, o4, o5⟩ := h2.open_ hh (by rw [p2]; show _ ≤ ((logB 400 u.ps).length : Int); omega)
  have hF' : F' = ⟨logB 400 u.ps, (logB 400 u.ps).length, true⟩ := by
    have hb : F'.bs = logB 400 u.ps := by
      rw [o3, p2]
      exact List.take_of_length_le (by show (logB 400 u.ps).length ≤ _; omega)
    have hs : F'.syn = F'.bs.length := o4 rfl
    obtain ⟨b, s, kp⟩ := F'
    dsimp only at hb hs o5
    subst hb
    rw [hs, o5]
  rw [hF'] at o2
  have key := open_any h1.log.disk (by omega) (by rw [hr]; exact logB_oct 400 h1.oct) (by rw [hr]; omega)
  refine key.mono ?_
  rintro e W2 (⟨hn, _⟩ | ⟨_, g', S', T', rfl, hw, hwal, hT⟩)
  · exact absurd o1 hn
  · have hv : openV M = ⟨400, u.ps, false⟩ := by unfold openV; rw [hr, p1, p2]
    rw [hv] at hwal
    have hops := openM_ops M
    have hm : Moved S (fun _ => False) S' T' W W2 := ⟨hw.turn.mono (fun q hq => .inl hq), hw.grow, fun q hq => .inr (hT q hq).1⟩
    obtain ⟨u1, u2⟩ := moved_up (T := fun _ => False) hm h1.bel (fun q hq => hq.elim (fun e => h1.up q (.inl e)) (fun e => e.elim))
    refine ⟨g', rfl, ⟨S', T', M.openM, ⟨⟨hwal, hw.at_, fun q hq => (hT q hq).2, ⟨(show Lim 400 from ⟨by omega, by omega⟩), by simp [TL.ps], hcost⟩⟩, h1.oct, u1, u2, by omega, fun q o e => by cases e⟩, o2.steady, (h3.fewer (T' := fun _ => False) (fun q e _ => e.elim)).moved hm⟩, ⟨T, h1.log.wal.other hw.turn (fun q hq => h1.log.sep q hq)⟩, T', hwal⟩
theorem twin_has {g1 g2 : Nat} (h : TwinI w1 W g1 g2 d k u) :
    (Calls Tryz.prog 29 #[.pointer (some ⟨g1, 0, none⟩), .slice u.C u.s.length u.cc, .slice u.A u.rs.length u.c] W (HasAs W true)) ∧ (Calls Tryz.prog 29 #[.pointer (some ⟨g2, 0, none⟩), .slice u.C u.s.length u.cc, .slice u.A u.rs.length u.c] W (HasAs W true)) := by
  obtain ⟨h1, ⟨T1, h2⟩, T2, h3⟩ := h
  obtain ⟨S, T, M, k1, k2, k3⟩ := h1
  have hcost := k3.cost
  have e := decide_eq_true (show (⟨400, u.ps, false⟩ : AW).parts = u.s :: u.rs from rfl)
  have a1 := has_gen h2 (p := u.s) (rs := u.rs) rfl (by show costM u.ps ≤ _; omega) u.C u.A u.cc u.c k3.sl k3.oct k3.recs
  have a2 := has_gen h3 (p := u.s) (rs := u.rs) rfl (by show costM u.ps ≤ _; omega) u.C u.A u.cc u.c k3.sl k3.oct k3.recs
  rw [e] at a1 a2
  exact ⟨a1, a2⟩
def leftOf (u : TL) : Int := 400 - (costM u.ps : Int)
theorem twin_left {g1 g2 : Nat} (h : TwinI w1 W g1 g2 d k u) :
    (Calls Tryz.prog 30 #[.pointer (some ⟨g1, 0, none⟩)] W fun e w' => e = .returned (.int .i64 (leftOf u)) ∧ Below W.heap.size W w') ∧ (Calls Tryz.prog 30 #[.pointer (some ⟨g2, 0, none⟩)] W fun e w' => e = .returned (.int .i64 (leftOf u)) ∧ Below W.heap.size W w') := by
  obtain ⟨h1, ⟨T1, h2⟩, T2, h3⟩ := h
  obtain ⟨S, T, M, k1, k2, k3⟩ := h1
  have hcost := k3.cost
  exact ⟨left_any' h2 ⟨by show (64 : Int) ≤ 400; omega, by show (400 : Int) ≤ 16000; omega⟩ (by show costM u.ps ≤ _; omega), left_any' h3 ⟨by show (64 : Int) ≤ 400; omega, by show (400 : Int) ≤ 16000; omega⟩ (by show costM u.ps ≤ _; omega)⟩
end

end Go.Proofs.YtienabfilnpieaaGreat
