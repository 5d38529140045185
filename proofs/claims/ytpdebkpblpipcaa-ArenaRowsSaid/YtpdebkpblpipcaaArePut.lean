/-
  A cell stored whole in a row of the call's own; what is copied so far.
-/
import Derived.Test.YtpdebkpblpipcaaAreOwned
namespace Go.Proofs.Ytpdebkpblpipcaa
open Go.RowKit Go.Shelf
set_option linter.unusedVariables false
set_option linter.unusedSimpArgs false
set_option maxRecDepth 100000

def put5 (w : World) (g o : Nat) (p : Pa) : World := ((((w.setCell ⟨g, o, none⟩ (.bool p.e.u)).setCell ⟨g, o + 1, none⟩ (.int .u64 p.e.i)).setCell ⟨g, o + 2, none⟩ (.int .u64 p.e.b)).setCell ⟨g, o + 3, none⟩ (.int .u64 p.e.f)).setCell ⟨g, o + 4, none⟩ (.slice p.B p.e.x.length p.c)
theorem put5_turn (w : World) (g o : Nat) (p : Pa) : Turn (fun i => i = g) w (put5 w g o p) :=
  ((((turn_set w g o _).trans (turn_set _ g (o + 1) _) (fun i hi => .inl hi)).trans (turn_set _ g (o + 2) _) (fun i hi => .inl hi)).trans (turn_set _ g (o + 3) _) (fun i hi => .inl hi)).trans (turn_set _ g (o + 4) _) (fun i hi => .inl hi)
/-- Numbers do not lie in a row of cells. -/
theorem OwnV.apart {base b' : Nat} {w w' : World} {g c n : Nat} {l : List Value} {B : Option Addr} {cb : Nat} {xs : List Int} (hr : w.ownsRow base 45 5 (.slice (some ⟨g, 0, none⟩) n c) n l) (ht : Turn (fun i => i = g) w w') (hB : OwnV b' w B cb xs) : OwnV b' w' B cb xs := by
  refine ⟨row_turn hB.1 ht (fun k hk e => ?_), hB.2⟩
  subst e
  rcases hr.2 with ⟨e', _⟩ | ⟨g', cap', cur', e', _, hh', _⟩
  · injection e' with e1; cases e1
  · injection e' with e1
    injection e1 with e1
    injection e1 with e1
    subst e1
    rcases hB.1.2 with ⟨e, h0⟩ | ⟨g2, cap, cur, e, hg, hh, _⟩
    · rw [e] at hk; cases hk
    · rw [e] at hk
      have : g2 = k := by simpa [Value.ownBlock] using hk
      subst this
      rw [hh] at hh'
      injection hh' with hh'
      injection hh' with _ ht _
      exact absurd ht (by decide)
theorem OwnA.put {base g c : Nat} {w : World} {q : List Pa} {i : Nat} {p : Pa} (h : OwnA base w (some ⟨g, 0, none⟩) c q) (hi : i < q.length) (hp : OwnV base w p.B p.c p.e.x) (hf : Fit p.e) : OwnA base (put5 w g (i * 5) p) (some ⟨g, 0, none⟩) c (q.set i p) := by
  have hs := (((((h.row.stored (i * 5) (.bool p.e.u)).1.stored (i * 5 + 1) (.int .u64 p.e.i)).1.stored (i * 5 + 2) (.int .u64 p.e.b)).1.stored (i * 5 + 3) (.int .u64 p.e.f)).1.stored (i * 5 + 4) (.slice p.B p.e.x.length p.c)).1
  rw [flatA_set q i p hi] at hs
  have hmem : ∀ r, r ∈ q.set i p → r ∈ q ∨ r = p := fun r hr => List.mem_or_eq_of_mem_set hr
  have ht := put5_turn w g (i * 5) p
  refine ⟨by rw [List.length_set]; exact hs, fun r hr => ?_, fun r hr => ?_⟩
  · rcases hmem r hr with hr | rfl
    · exact (h.el r hr).apart h.row ht
    · exact hp.apart h.row ht
  · rcases hmem r hr with hr | rfl
    · exact h.fit r hr
    · exact hf
/-- The facts that a store of a whole cell asks. -/
theorem OwnA.cells {base g c : Nat} {w : World} {q : List Pa} {i : Nat} (h : OwnA base w (some ⟨g, 0, none⟩) c q) (hi : i < q.length) : ∃ p, q[i]? = some p ∧ w.cell? ⟨g, i * 5, none⟩ = some (.bool p.e.u) ∧ w.cell? ⟨g, i * 5 + 1, none⟩ = some (.int .u64 p.e.i) ∧ w.cell? ⟨g, i * 5 + 2, none⟩ = some (.int .u64 p.e.b) ∧ w.cell? ⟨g, i * 5 + 3, none⟩ = some (.int .u64 p.e.f) ∧ w.cell? ⟨g, i * 5 + 4, none⟩ = some (.slice p.B p.e.x.length p.c) ∧
    w.frozen? ⟨g, i * 5, none⟩ = false ∧ w.frozen? ⟨g, i * 5 + 1, none⟩ = false ∧ w.frozen? ⟨g, i * 5 + 2, none⟩ = false ∧ w.frozen? ⟨g, i * 5 + 3, none⟩ = false ∧ w.frozen? ⟨g, i * 5 + 4, none⟩ = false := by
  obtain ⟨p, hp⟩ : ∃ p, q[i]? = some p := ⟨_, List.getElem?_eq_getElem hi⟩
  obtain ⟨f0, f1, f2, f3, f4⟩ := flatA_get q i p hp
  exact ⟨p, hp, (h.row.cellAt _ (by omega)).trans f0, (h.row.cellAt _ (by omega)).trans f1, (h.row.cellAt _ (by omega)).trans f2, (h.row.cellAt _ (by omega)).trans f3, (h.row.cellAt _ (by omega)).trans f4, h.row.frozenAt _, h.row.frozenAt _, h.row.frozenAt _, h.row.frozenAt _, h.row.frozenAt _⟩

/-- What lies in the slots when those of pre are copied. -/
def fillL (pre : List (Nat × Pa)) : List Ce := pre.foldl (fun l x => l.set x.1 x.2.e) (List.replicate 96 zc)
theorem fill_snoc (pre : List (Nat × Pa)) (x : Nat × Pa) : fillL (pre ++ [x]) = (fillL pre).set x.1 x.2.e := by simp [fillL, List.foldl_append]
theorem pad_snoc {l : List Ce} {e : Ce} (h : l.length < 96) : padL (l ++ [e]) = (padL l).set l.length (useE e) := by
  unfold padL
  rw [List.map_append, List.append_assoc, List.length_append]
  have h2 : List.replicate (96 - l.length) zc = zc :: List.replicate (96 - (l.length + 1)) zc := by rw [show 96 - l.length = (96 - (l.length + 1)) + 1 by omega, List.replicate_succ]
  rw [h2, List.set_append_right _ _ (by simp)]
  simp
theorem pad_nil : padL [] = List.replicate 96 zc := by simp [padL]
theorem fill_sel (q : List Pa) (hq : q.length ≤ 96) : ∀ k, k ≤ q.length → fillL (selU q k) = padL ((ces q).take k) := by
  intro k
  induction k with
  | zero => intro _; simp [selU, fillL, pad_nil]
  | succ k ih =>
    intro hk
    obtain ⟨p, hp⟩ : ∃ p, q[k]? = some p := ⟨_, List.getElem?_eq_getElem (by omega)⟩
    have hl : ((ces q).take k).length = k := by rw [List.length_take, ces_length]; omega
    rw [List.take_add_one, ces_at hp, Option.toList_some, pad_snoc (by omega), ← ih (by omega), hl]
    cases hu : p.e.u with
    | true => rw [sel_yes hp hu, fill_snoc]; simp [useE, hu]
    | false =>
      rw [sel_no hp hu, ih (by omega)]
      have h2 : (padL ((ces q).take k))[k]? = some (useE p.e) := by
        unfold padL
        rw [List.getElem?_append_right (by simp; omega), hl]
        rw [List.length_map, hl, List.getElem?_replicate, if_pos (by omega)]
        simp [useE, hu]
      exact (List.ext_getElem? fun j => by
        rw [List.getElem?_set]
        split
        · rename_i e; subst e
          have hkl : k < (padL ((ces q).take k)).length := (List.getElem?_eq_some_iff.1 h2).1
          rw [if_pos hkl, h2]
        · rfl)
theorem fill_all (q : List Pa) (hq : q.length ≤ 96) : fillL (selU q q.length) = padL (ces q) := by
  rw [fill_sel q hq _ (Nat.le_refl _), ← ces_length, List.take_length]

/-- What is copied so far. -/
def CpA (base g : Nat) (W0 : World) (pre : List (Nat × Pa)) (W : World) : Prop := ∃ q', OwnA base W (some ⟨g, 0, none⟩) 96 q' ∧ q'.length = 96 ∧ ces q' = fillL pre ∧ Turn (fun i => i = g) W0 W
theorem turn_put (W : World) (k : Nat) (o : Obj) : Turn (fun i => i = k) W (W.putObj k o) := ⟨rfl, rfl, rfl, by simp [World.putObj], fun i _ hn => World.putObj_heap_other hn⟩
theorem row_put {w : World} {base : Nat} {e : TypeId} {size : Nat} {v : Value} {n : Nat} {xs : List Value} (h : w.ownsRow base e size v n xs) {k : Nat} {o : Obj} (o' : Obj) (hk : w.heap[k]? = some o) (ho : o.isCells = false) : (w.putObj k o').ownsRow base e size v n xs := by
  rcases h.2 with ⟨e', h0⟩ | ⟨g, cap, cur, e', hg, hh, hnc, hcm, hsz, hcs⟩
  · exact ⟨h.1, .inl ⟨e', h0⟩⟩
  · exact ⟨h.1, .inr ⟨g, cap, cur, e', hg, put_other hk ho hh rfl, hnc, hcm, hsz, hcs⟩⟩
theorem OwnA.putO {base : Nat} {w : World} {A : Option Addr} {c : Nat} {q : List Pa} (h : OwnA base w A c q) {k : Nat} {o : Obj} (o' : Obj) (hk : w.heap[k]? = some o) (ho : o.isCells = false) : OwnA base (w.putObj k o') A c q :=
  ⟨row_put h.row o' hk ho, fun p hp => ⟨row_put (h.el p hp).1 o' hk ho, (h.el p hp).2⟩, h.fit⟩
theorem CpA.below {base g : Nat} {W0 W W' : World} {pre : List (Nat × Pa)} (h : CpA base g W0 pre W) (hb : Below W.heap.size W W') : CpA base g W0 pre W' := by
  obtain ⟨q', h1, h2, h3, h4⟩ := h
  exact ⟨q', h1.below hb, h2, h3, h4.trans (Turn.of_below (S := fun _ => False) hb) (by simp)⟩
theorem CpA.put {base g : Nat} {W0 W : World} {pre : List (Nat × Pa)} (h : CpA base g W0 pre W) {k : Nat} {o : Obj} (o' : Obj) (hk0 : W0.heap.size ≤ k) (hk : W.heap[k]? = some o) (ho : o.isCells = false) : CpA base g W0 pre (W.putObj k o') := by
  obtain ⟨q', h1, h2, h3, h4⟩ := h
  exact ⟨q', h1.putO o' hk ho, h2, h3, h4.trans (turn_put _ _ _) (fun i hi => .inr (by omega))⟩
theorem keeps_turn {B0 : Nat} {S : Nat → Prop} {W W' : World} (h : Turn S W W') (hc : ∀ i, S i → ∃ o, W.heap[i]? = some o ∧ o.isCells = true) : KeepsFrom B0 W W' :=
  ⟨h.size, fun k o _ hk ho => (h.block k (lt_of_block hk) (fun e => by obtain ⟨o2, h2, h3⟩ := hc k e; rw [hk] at h2; cases h2; rw [ho] at h3; cases h3)).trans hk⟩
theorem kpd_turn {d B : Nat} {S : Nat → Prop} {W W' : World} (h : Turn S W W') (hS : ∀ i, S i → i = d ∨ B ≤ i) : KpD d B W W' :=
  ⟨h.size, fun k o hk hd ho _ => (h.block k (lt_of_block ho) (fun e => (hS k e).elim hd (fun e => by omega))).trans ho⟩
theorem OwnA.isCells {base : Nat} {w : World} {g c : Nat} {q : List Pa} (h : OwnA base w (some ⟨g, 0, none⟩) c q) : ∃ o, w.heap[g]? = some o ∧ o.isCells = true := by
  rcases h.row.2 with ⟨e, h0⟩ | ⟨g', cap, cur, e, hg, hh, _⟩
  · injection e with e1; cases e1
  · injection e with e1; injection e1 with e1; injection e1 with e1; subst e1
    exact ⟨_, hh, rfl⟩
theorem OwnA.lo {base : Nat} {w : World} {g c : Nat} {q : List Pa} (h : OwnA base w (some ⟨g, 0, none⟩) c q) : base ≤ g ∧ g < w.heap.size := h.row.lt g rfl

/-- One more cell is copied: all that the round asks, and leaves. -/
theorem cp_step {base g B0 B : Nat} {W0 W w1 : World} {pre : List (Nat × Pa)} {k : Nat} {p : Pa} {A1 : Option Addr} {c1 : Nat} (h : CpA base g W0 pre W) (hk : k < 96) (hf : Fit p.e) (hB : base ≤ W.heap.size)
    (hv : OwnV W.heap.size w1 A1 c1 p.e.x) (hb : Below W.heap.size W w1) :
    (∃ p0 : Pa, w1.cell? ⟨g, k * 5, none⟩ = some (.bool p0.e.u) ∧ w1.cell? ⟨g, k * 5 + 1, none⟩ = some (.int .u64 p0.e.i) ∧ w1.cell? ⟨g, k * 5 + 2, none⟩ = some (.int .u64 p0.e.b) ∧ w1.cell? ⟨g, k * 5 + 3, none⟩ = some (.int .u64 p0.e.f) ∧ w1.cell? ⟨g, k * 5 + 4, none⟩ = some (.slice p0.B p0.e.x.length p0.c)) ∧
    (w1.frozen? ⟨g, k * 5, none⟩ = false ∧ w1.frozen? ⟨g, k * 5 + 1, none⟩ = false ∧ w1.frozen? ⟨g, k * 5 + 2, none⟩ = false ∧ w1.frozen? ⟨g, k * 5 + 3, none⟩ = false ∧ w1.frozen? ⟨g, k * 5 + 4, none⟩ = false) ∧
    (KeepsFrom B0 W (put5 w1 g (k * 5) ⟨p.e, A1, c1⟩) ∧ KpD g B W (put5 w1 g (k * 5) ⟨p.e, A1, c1⟩) ∧ CpA base g W0 (pre ++ [(k, p)]) (put5 w1 g (k * 5) ⟨p.e, A1, c1⟩)) := by
  obtain ⟨q', h1, h2, h3, h4⟩ := h
  have h1' := h1.below hb
  obtain ⟨p0, _, c0, c1', c2, c3, c4, f0, f1, f2, f3, f4⟩ := h1'.cells (i := k) (by omega)
  have ht : Turn (fun i => i = g) W (put5 w1 g (k * 5) ⟨p.e, A1, c1⟩) := (Turn.of_below (S := fun i => i = g) hb).trans (put5_turn w1 g (k * 5) ⟨p.e, A1, c1⟩) (fun i hi => .inl hi)
  refine ⟨⟨p0, c0, c1', c2, c3, c4⟩, ⟨f0, f1, f2, f3, f4⟩, keeps_turn ht (fun i hi => by subst hi; exact h1.isCells), kpd_turn ht (fun i hi => .inl hi), q'.set k ⟨p.e, A1, c1⟩, ?_, by simp [h2], ?_, h4.trans ht (fun i hi => .inl hi)⟩
  · exact h1'.put (by omega) (hv.mono hB) hf
  · rw [ces_set, h3, fill_snoc]

end Go.Proofs.Ytpdebkpblpipcaa
