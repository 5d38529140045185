/-
  LisBase, LisMath, LisTell, LisApart, LisCheck, LisWhere, LisUnion, LisRef.
-/
import Derived.Test.YtcekgllahlhaaaaGreatDoorMAre
import Derived.Test.YtcekgllahlhaaaaGreatDoorMVec
import Derived.Test.YtcekgllahlhaaaaGreatDoorMMsk
import Derived.Test.YtcekgllahlhaaaaGreatDoorMMsr
import Derived.Deep.Cut
import Derived.Deep.RegionHeld3
import Derived.RangeFuncBox
import Derived.OwnWalkIn
namespace Go.Proofs.YtcekgllahlhaaaaGreatDoor
open Go.RowKit Go.Shelf
open MskL (Mk Ms mv has mk Fine MRow MBox)
set_option linter.unusedVariables false
set_option linter.unusedSimpArgs false
set_option maxRecDepth 100000

theorem appV : AppT Tryz.prog 25 26 1 24 := ⟨Tryz.underlying25, (Tryz.prog.info? 26).get (by kernel_rfl), .slice none 0 0, (Option.some_get _).symm, by kernel_rfl, by kernel_rfl, by kernel_rfl, rfl, by decide, by decide⟩
theorem Read.one {w : World} {g o : Nat} {v : Value} (h1 : v.oneCell' = true) (h0 : w.cell? ⟨g, o, none⟩ = some v) : Read w (some ⟨g, o, none⟩) 1 1 [v] := by
  refine ⟨rfl, by simpa using h1, (fun e => by cases e), fun b e j u hj => ?_⟩
  injection e with e
  subst e
  rw [Addr.add_lit]
  match j, hj with
  | 0, hj => simp at hj; rw [Nat.add_zero, h0, hj]
  | j + 1, hj => simp at hj

/-! ### rows of vectors -/
/-- A vector, and where it lies. -/
structure Pv where
  x : List Int
  B : Option Addr
  c : Nat
def vals (q : List Pv) : List (List Int) := q.map (·.x)
def flatV (q : List Pv) : List Value := q.map fun p => .slice p.B p.x.length p.c
theorem vals_length (q : List Pv) : (vals q).length = q.length := by simp [vals]
theorem flatV_length (q : List Pv) : (flatV q).length = q.length := by simp [flatV]
theorem vals_append (q r : List Pv) : vals (q ++ r) = vals q ++ vals r := by simp [vals]
theorem flatV_append (q r : List Pv) : flatV (q ++ r) = flatV q ++ flatV r := by simp [flatV]
theorem vals_set (q : List Pv) (k : Nat) (p : Pv) : vals (q.set k p) = (vals q).set k p.x := by simp [vals, List.map_set]
theorem flatV_set (q : List Pv) (k : Nat) (p : Pv) : flatV (q.set k p) = (flatV q).set k (.slice p.B p.x.length p.c) := by simp [flatV, List.map_set]
theorem vals_at {q : List Pv} {i : Nat} {p : Pv} (h : q[i]? = some p) : (vals q)[i]? = some p.x := by simp [vals, h]
theorem flatV_at {q : List Pv} {i : Nat} {p : Pv} (h : q[i]? = some p) : (flatV q)[i]? = some (.slice p.B p.x.length p.c) := by simp [flatV, h]
theorem flatV_cell (q : List Pv) : ∀ u ∈ flatV q, u.oneCell' = true := by
  intro u hu
  unfold flatV at hu
  obtain ⟨p, _, rfl⟩ := List.mem_map.1 hu
  rfl
/-- A row of the call's own; its vectors lie wherever. -/
def RowV (base : Nat) (w : World) (A : Option Addr) (c : Nat) (q : List Pv) : Prop := w.ownsRow base 26 1 (.slice A q.length c) q.length (flatV q)
/-- .. with vectors of its own. -/
structure OwnVs (base : Nat) (w : World) (A : Option Addr) (c : Nat) (q : List Pv) : Prop where
  row : RowV base w A c q
  el : ∀ p ∈ q, OwnV base w p.B p.c p.x
section
variable {base : Nat} {w w' : World} {A : Option Addr} {c : Nat} {q : List Pv}
theorem RowV.vecs (h : RowV base w A c q) (he : ∀ p ∈ q, Vec .i32 w p.B p.c p.x) : Vecs .i32 w A c (vals q) := by
  rcases h.2 with ⟨e, h0⟩ | ⟨g, cap, cur, e, hg, hh, hnc, hcm, hsz, hcs⟩
  · injection e with e1 _ e3
    have : q = [] := List.eq_nil_of_length_eq_zero h0
    subst this e1 e3
    exact Vecs.nil _ _
  · injection e with e1 _ e3
    subst e1
    subst e3
    refine ⟨by rw [vals_length]; exact hnc, by unfold maxLen at hcm; omega, fun hp => ⟨g, 0, rfl, lt_of_block hh, fun i x hx => ?_⟩⟩
    have hl : i < q.length := by have := (List.getElem?_eq_some_iff.1 hx).1; rw [vals_length] at this; exact this
    have hp := List.getElem?_eq_getElem hl
    have hv := vals_at hp
    rw [hx] at hv
    injection hv with hv
    rw [Nat.zero_add, World.ownsRow.cellAt h i (by omega), flatV_at hp, hv]
    exact ⟨_, _, rfl, he _ (List.getElem_mem hl)⟩
theorem RowV.turn {S : Nat → Prop} (h : RowV base w A c q) (ht : Turn S w w') (hS : ∀ i, blk A = some i → ¬ S i) : RowV base w' A c q := row_turn h ht (fun i hi => hS i (by rw [own_blk] at hi; exact hi))
theorem RowV.below (h : RowV base w A c q) (hb : Below w.heap.size w w') : RowV base w' A c q := h.turn (Turn.of_below (S := fun _ => False) hb) (fun _ _ e => e)
theorem RowV.mono {b : Nat} (h : RowV base w A c q) (hb : b ≤ base) : RowV b w A c q := World.ownsRow.mono h hb
theorem RowV.low (h : RowV base w A c q) : ∀ i, blk A = some i → base ≤ i ∧ i < w.heap.size := fun i hi => World.ownsRow.lt h i (by rw [own_blk]; exact hi)
theorem RowV.nil (base : Nat) (w : World) : RowV base w none 0 [] := World.ownsRow_nil _ _ _ _
theorem OwnVs.vecs (h : OwnVs base w A c q) : Vecs .i32 w A c (vals q) := h.row.vecs (fun p hp => (h.el p hp).vec)
theorem OwnVs.turn {S : Nat → Prop} (h : OwnVs base w A c q) (ht : Turn S w w') (hS : ∀ i, base ≤ i → i < w.heap.size → ¬ S i) : OwnVs base w' A c q :=
  ⟨h.row.turn ht (fun i hi => hS i (h.row.low i hi).1 (h.row.low i hi).2), fun p hp => (h.el p hp).turn ht hS⟩
theorem OwnVs.below (h : OwnVs base w A c q) (hb : Below w.heap.size w w') : OwnVs base w' A c q := h.turn (Turn.of_below (S := fun _ => False) hb) (fun _ _ _ e => e)
theorem OwnVs.mono {b : Nat} (h : OwnVs base w A c q) (hb : b ≤ base) : OwnVs b w A c q := ⟨h.row.mono hb, fun p hp => (h.el p hp).mono hb⟩
theorem OwnVs.nil (base : Nat) (w : World) : OwnVs base w none 0 [] := ⟨RowV.nil _ _, by simp⟩
end
theorem grown_below {w w' : World} {B : Nat} {A : Option Addr} (hg : w.grownBy w' (blk A)) (hb : B ≤ w.heap.size) (hA : ∀ i, blk A = some i → B ≤ i) : Below B w w' :=
  (Turn.of_grown (S := fun i => blk A = some i) hg (fun i hi => .inl hi)).below hb hA
/-- Numbers lie in no row of vectors. -/
theorem apart_row {base base' : Nat} {w : World} {A B : Option Addr} {c cb : Nat} {q : List Pv} {xs : List Int} (h : RowV base w A c q) (hB : OwnV base' w B cb xs) : ∀ i, blk B = some i → blk A ≠ some i := by
  intro i hi ha
  rcases hB.1.2 with ⟨e, h0⟩ | ⟨g, cap, cur, e, hg, hh, _⟩
  · injection e with e1; rw [e1] at hi; cases hi
  · injection e with e1
    rw [e1] at hi
    rcases h.2 with ⟨e', _⟩ | ⟨g', cap', cur', e', _, hh', _⟩
    · injection e' with e1'; rw [e1'] at ha; cases ha
    · injection e' with e1'
      rw [e1'] at ha
      have h1 : g = i := by simpa [blk] using hi
      have h2 : g' = i := by simpa [blk] using ha
      subst h1 h2
      rw [hh] at hh'
      injection hh' with hh'
      injection hh' with _ ht _
      exact absurd ht (by decide)
theorem OwnV.other {base base' : Nat} {w w' : World} {A B : Option Addr} {c cb : Nat} {q : List Pv} {xs : List Int} (h : RowV base w A c q) (hB : OwnV base' w B cb xs) (ht : Turn (fun i => blk A = some i) w w') : OwnV base' w' B cb xs :=
  ⟨row_turn hB.1 ht (fun i hi => by rw [own_blk] at hi; exact apart_row h hB i hi), hB.2⟩
/-- One more vector of the call's own. -/
theorem OwnVs.snoc {base : Nat} {w w' : World} {A A1 : Option Addr} {c c1 : Nat} {q : List Pv} {p : Pv} (h : OwnVs base w A c q) (hp : OwnV base w p.B p.c p.x)
    (hr : w'.ownsRow base 26 1 (.slice A1 (q.length + 1) c1) (q.length + 1) (flatV q ++ [.slice p.B p.x.length p.c])) (hg : w.grownBy w' (blk A)) : OwnVs base w' A1 c1 (q ++ [p]) := by
  have ht : Turn (fun i => blk A = some i) w w' := Turn.of_grown hg (fun i hi => .inl hi)
  refine ⟨by unfold RowV; rw [flatV_append, List.length_append]; exact hr, fun r hr => ?_⟩
  rcases List.mem_append.1 hr with hr | hr
  · exact (h.el r hr).other h.row ht
  · obtain rfl : r = p := by simpa using hr
    exact hp.other h.row ht
theorem RowV.snoc {base : Nat} {w' : World} {A1 : Option Addr} {c1 : Nat} {q : List Pv} {p : Pv}
    (hr : w'.ownsRow base 26 1 (.slice A1 (q.length + 1) c1) (q.length + 1) (flatV q ++ [.slice p.B p.x.length p.c])) : RowV base w' A1 c1 (q ++ [p]) := by
  unfold RowV; rw [flatV_append, List.length_append]; exact hr
/-- A vector at its place. -/
theorem RowV.at_ {base : Nat} {w : World} {A : Option Addr} {c : Nat} {q : List Pv} (h : RowV base w A c q) {i : Nat} {p : Pv} (hp : q[i]? = some p) : ∃ g, A = some ⟨g, 0, none⟩ ∧ base ≤ g ∧ g < w.heap.size ∧ w.cell? ⟨g, i, none⟩ = some (.slice p.B p.x.length p.c) ∧ w.frozen? ⟨g, i, none⟩ = false := by
  have hl := (List.getElem?_eq_some_iff.1 hp).1
  rcases h.2 with ⟨e, h0⟩ | ⟨g, cap, cur, e, hg, hh, hnc, hcm, hsz, hcs⟩
  · omega
  · injection e with e1 _ e3
    subst e1
    exact ⟨g, rfl, hg, lt_of_block hh, by rw [World.ownsRow.cellAt h i (by omega), flatV_at hp], World.ownsRow.frozenAt h i⟩
/-- .. and put there. -/
theorem OwnVs.put {base : Nat} {w : World} {g c : Nat} {q : List Pv} {p : Pv} (h : OwnVs base w (some ⟨g, 0, none⟩) c q) (hp : OwnV base w p.B p.c p.x) (i : Nat) (hi : i < q.length) : OwnVs base (w.setCell ⟨g, i, none⟩ (.slice p.B p.x.length p.c)) (some ⟨g, 0, none⟩) c (q.set i p) := by
  have ht : Turn (fun k => blk (some (⟨g, 0, none⟩ : Addr)) = some k) w (w.setCell ⟨g, i, none⟩ (.slice p.B p.x.length p.c)) :=
    ⟨rfl, rfl, rfl, by simp [World.setCell], fun k _ hk => Below.heap_setCell _ _ _ _ (fun e => hk (by simp [blk, e]))⟩
  refine ⟨?_, fun r hr => ?_⟩
  · unfold RowV
    rw [flatV_set, List.length_set]
    exact (World.ownsRow.stored h.row i _).1
  · rcases List.mem_or_eq_of_mem_set hr with hr | rfl
    · exact (h.el r hr).other h.row ht
    · exact hp.other h.row ht
theorem Read.rows {base : Nat} {w : World} {A : Option Addr} {c : Nat} {q : List Pv} (h : RowV base w A c q) : Read w A q.length 1 (flatV q) := by
  refine ⟨by rw [flatV_length, Nat.mul_one], flatV_cell q, fun e => ?_, fun b e j u hj => ?_⟩
  · rcases h.2 with ⟨_, h0⟩ | ⟨g, cap, cur, e', _⟩
    · exact h0
    · injection e' with e1; rw [e] at e1; cases e1
  · have hl : j < q.length := by have := (List.getElem?_eq_some_iff.1 hj).1; rw [flatV_length] at this; exact this
    rcases h.2 with ⟨_, h0⟩ | ⟨g, cap, cur, e', _⟩
    · omega
    · injection e' with e1
      subst e1
      injection e with e
      subst e
      rw [Addr.add_lit, Nat.zero_add, World.ownsRow.cellAt h j (by omega), hj]
/-- Rows that can be read, with the places of their vectors. -/
theorem Vecs.placed {w : World} {A : Option Addr} {c : Nat} {l : List (List Int)} (h : Vecs .i32 w A c l) : ∃ q : List Pv, vals q = l ∧ (∀ p ∈ q, Vec .i32 w p.B p.c p.x) ∧ Read w A q.length 1 (flatV q) ∧ ∀ i p, q[i]? = some p → ∃ b o, A = some ⟨b, o, none⟩ ∧ b < w.heap.size ∧ w.cell? ⟨b, o + i, none⟩ = some (.slice p.B p.x.length p.c) := by
  rcases Nat.eq_zero_or_pos l.length with h0 | h0
  · obtain rfl := List.eq_nil_of_length_eq_zero h0
    refine ⟨[], rfl, by simp, ⟨rfl, by simp [flatV], fun _ => rfl, fun b e j u hj => by simp [flatV] at hj⟩, by simp⟩
  · obtain ⟨b, o, e, hb, hc⟩ := h.rd h0
    subst e
    have key : ∀ (n : Nat), n ≤ l.length → ∃ q : List Pv, vals q = l.take n ∧ (∀ p ∈ q, Vec .i32 w p.B p.c p.x) ∧ ∀ i p, q[i]? = some p → w.cell? ⟨b, o + i, none⟩ = some (.slice p.B p.x.length p.c) := by
      intro n
      induction n with
      | zero => exact fun _ => ⟨[], rfl, by simp, by simp⟩
      | succ n ih =>
        intro hn
        obtain ⟨q, h1, h2, h3⟩ := ih (by omega)
        have hx := List.getElem?_eq_getElem (show n < l.length by omega)
        obtain ⟨B, cb, k1, k2⟩ := hc n _ hx
        have hql : q.length = n := by rw [← vals_length, h1, List.length_take]; omega
        refine ⟨q ++ [⟨l[n], B, cb⟩], ?_, fun p hp => ?_, fun i p hp => ?_⟩
        · rw [vals_append, h1, List.take_add_one, hx]; rfl
        · rcases List.mem_append.1 hp with hp | hp
          · exact h2 p hp
          · obtain rfl : p = ⟨l[n], B, cb⟩ := by simpa using hp
            exact k2
        · rcases Nat.lt_or_ge i n with hi | hi
          · rw [List.getElem?_append_left (by omega)] at hp
            exact h3 i p hp
          · rw [List.getElem?_append_right (by omega), hql] at hp
            have : i - n = 0 := by
              rcases Nat.eq_zero_or_pos (i - n) with h | h
              · exact h
              · rw [List.getElem?_eq_none (by simp; omega)] at hp; cases hp
            obtain rfl : i = n := by omega
            simp at hp
            subst hp
            exact k1
    obtain ⟨q, h1, h2, h3⟩ := key l.length (Nat.le_refl _)
    rw [List.take_length] at h1
    refine ⟨q, h1, h2, ⟨by rw [flatV_length, Nat.mul_one], flatV_cell q, fun e => (by cases e), fun b' e j u hj => ?_⟩, fun i p hp => ⟨b, o, rfl, hb, h3 i p hp⟩⟩
    injection e with e
    subst e
    have hl : j < q.length := by have := (List.getElem?_eq_some_iff.1 hj).1; rw [flatV_length] at this; exact this
    rw [Addr.add_lit, h3 j _ (List.getElem?_eq_getElem hl), ← hj, flatV_at (List.getElem?_eq_getElem hl)]

/-- What is copied so far. -/
def CpI (w : World) (l : List (List Int)) (k n : Nat) (A1 : Option Addr) (c1 : Nat) (wr : World) : Prop := ∃ q, List.length q = n ∧ vals q = l.take k ∧ OwnVs w.heap.size wr A1 c1 q ∧ Below w.heap.size w wr
theorem CpI.zero (w : World) (l : List (List Int)) : CpI w l 0 0 none 0 w := ⟨[], rfl, by simp [vals], OwnVs.nil _ _, Below.refl _ _⟩
/-- .. and one more. -/
theorem CpI.step {w wr W V : World} {l : List (List Int)} {k n : Nat} {A1 B : Option Addr} {c1 cb : Nat} {x : List Int} (h : CpI w l k n A1 c1 wr) (hx : l[k]? = some x) (hW : Below wr.heap.size wr W) (hv : OwnV w.heap.size W B cb x)
    (hV : V = W.alloc (.cells #[.slice B x.length cb] 26)) :
    ∃ vs, Read V (some ⟨W.heap.size, 0, none⟩) 1 1 [.slice B x.length cb] ∧ V.ownsRow w.heap.size 26 1 (.slice A1 n c1) n vs ∧ w.heap.size ≤ V.heap.size ∧ n ≤ k ∧
      ∀ A2 c2 W', W'.ownsRow w.heap.size 26 1 (.slice A2 (n + 1) c2) (n + 1) (vs ++ [.slice B x.length cb]) → V.grownBy W' (blk A1) → CpI w l (k + 1) (n + 1) A2 c2 W' := by
  obtain ⟨q, h1, h2, h3, h4⟩ := h
  subst h1
  have hbV : Below W.heap.size W V := by rw [hV]; exact (Below.refl _ W).alloc (Nat.le_refl _) _
  have hb := hW.trans (hbV.mono hW.size)
  have hs := h4.size
  have hs1 := hW.size
  have hs2 := hbV.size
  refine ⟨flatV q, Read.one rfl (by rw [hV]; exact cell_laid _ _ _ 0), h3.row.below hb, by omega, ?_, fun A2 c2 W' hr hg => ?_⟩
  · rw [← vals_length, h2, List.length_take]; omega
  · refine ⟨q ++ [⟨x, B, cb⟩], by simp, ?_, (h3.below hb).snoc (p := ⟨x, B, cb⟩) (hv.below hbV) hr hg, ?_⟩
    · rw [vals_append, h2, List.take_add_one, hx]; rfl
    · exact (h4.trans (hb.mono hs)).trans (grown_below hg (by omega) (fun i hi => (h3.row.low i hi).1))

/-! ### numbers of the call's own -/
def OwnN (base : Nat) (w : World) (A : Option Addr) (c : Nat) (xs : List Int) : Prop := w.ownsRow base 3 1 (.slice A xs.length c) xs.length (xs.map (Value.int .i64)) ∧ ∀ x ∈ xs, (Lit.int .i64 x).wf = true
theorem OwnN.vec {base : Nat} {w : World} {A : Option Addr} {c : Nat} {xs : List Int} (h : OwnN base w A c xs) : Vec .i64 w A c xs := by
  obtain ⟨A', c', e, hv⟩ := Vec.own (m := 0) h.1 h.2
  injection e with e1 _ e2
  subst e1
  subst e2
  exact hv
theorem OwnN.nil (base : Nat) (w : World) : OwnN base w none 0 [] := ⟨World.ownsRow_nil _ _ _ _, by simp⟩
theorem OwnN.low {base : Nat} {w : World} {A : Option Addr} {c : Nat} {xs : List Int} (h : OwnN base w A c xs) : ∀ i, blk A = some i → base ≤ i ∧ i < w.heap.size := fun i hi => h.1.lt i (by rw [own_blk]; exact hi)
theorem OwnN.below {base : Nat} {w w' : World} {A : Option Addr} {c : Nat} {xs : List Int} (h : OwnN base w A c xs) (hb : Below w.heap.size w w') : OwnN base w' A c xs := ⟨row_turn h.1 (Turn.of_below (S := fun _ => False) hb) (fun _ _ e => e), h.2⟩
/-- One more number. -/
theorem OwnN.step {base : Nat} {w W : World} {A1 : Option Addr} {c1 n : Nat} {xs : List Int} {x : Int} (h : OwnN base w A1 c1 xs) (hn : n = xs.length) (hW : Below w.heap.size w W) (hB : base ≤ w.heap.size) (hx : (Lit.int .i64 x).wf = true) :
    Read (W.alloc (.cells #[.int .i64 x] 3)) (some ⟨W.heap.size, 0, none⟩) 1 1 [.int .i64 x] ∧ (W.alloc (.cells #[.int .i64 x] 3)).ownsRow base 3 1 (.slice A1 n c1) n (xs.map (Value.int .i64)) ∧ base ≤ (W.alloc (.cells #[.int .i64 x] 3)).heap.size ∧
      ∀ A2 c2 W', W'.ownsRow base 3 1 (.slice A2 (n + 1) c2) (n + 1) (xs.map (Value.int .i64) ++ [.int .i64 x]) → (W.alloc (.cells #[.int .i64 x] 3)).grownBy W' (blk A1) → OwnN base W' A2 c2 (xs ++ [x]) ∧ Below base w W' := by
  subst hn
  obtain ⟨V, hV⟩ : ∃ V, V = W.alloc (.cells #[.int .i64 x] 3) := ⟨_, rfl⟩
  rw [← hV]
  have hbV : Below W.heap.size W V := by rw [hV]; exact (Below.refl _ W).alloc (Nat.le_refl _) _
  have hb := hW.trans (hbV.mono hW.size)
  have hs1 := hW.size
  have hs2 := hbV.size
  refine ⟨Read.int (by rw [hV]; exact cell_laid _ _ _ 0), (h.below hb).1, by omega, fun A2 c2 W' hr hg => ⟨⟨by rw [List.length_append, List.map_append]; exact hr, fun y hy => ?_⟩, ?_⟩⟩
  · rcases List.mem_append.1 hy with hy | hy
    · exact h.2 y hy
    · obtain rfl : y = x := by simpa using hy
      exact hx
  · exact (hb.mono hB).trans (grown_below hg (by omega) (fun i hi => (h.low i hi).1))

/-! ### masks -/
theorem appM : AppT Tryz.prog 35 70 2 16 := ⟨Tryz.underlying35, (Tryz.prog.info? 70).get (by kernel_rfl), .agg #[.int .u64 0, .int .u64 0], (Option.some_get _).symm, by kernel_rfl, by kernel_rfl, by kernel_rfl, rfl, by decide, by decide⟩
def flatM (l : List Mk) : List Value := l.flatMap fun m => [.int .u64 (m.1 : Int), .int .u64 (m.2 : Int)]
theorem flatM_length (l : List Mk) : (flatM l).length = l.length * 2 := by
  induction l with
  | nil => rfl
  | cons x l ih => simp only [flatM, List.flatMap_cons, List.length_append] at ih ⊢; rw [ih]; simp; omega
theorem flatM_get : ∀ (l : List Mk) (i : Nat) (m : Mk), l[i]? = some m → (flatM l)[i * 2]? = some (.int .u64 (m.1 : Int)) ∧ (flatM l)[i * 2 + 1]? = some (.int .u64 (m.2 : Int))
  | [], i, m, h => by simp at h
  | x :: l, 0, m, h => by simp at h; subst h; exact ⟨rfl, rfl⟩
  | x :: l, i + 1, m, h => by
    have ih := flatM_get l i m (by simpa using h)
    have e : (i + 1) * 2 = i * 2 + 1 + 1 := by omega
    have e2 : flatM (x :: l) = .int .u64 (x.1 : Int) :: .int .u64 (x.2 : Int) :: flatM l := rfl
    rw [e, e2]
    simpa using ih
theorem flatM_cell (l : List Mk) : ∀ u ∈ flatM l, u.oneCell' = true := by
  intro u hu
  obtain ⟨m, _, h⟩ := List.mem_flatMap.1 hu
  simp at h
  rcases h with rfl | rfl <;> rfl
theorem Read.masks {w : World} {A : Option Addr} {c : Nat} {l : List Mk} (h : Ms w A c l) : Read w A l.length 2 (flatM l) := by
  refine ⟨flatM_length l, flatM_cell l, fun e => ?_, fun b e j u hj => ?_⟩
  · rcases Nat.eq_zero_or_pos l.length with h0 | h0
    · exact h0
    · obtain ⟨b, o, e', _⟩ := h.rd h0; rw [e] at e'; cases e'
  · have hl : j < l.length * 2 := by have := (List.getElem?_eq_some_iff.1 hj).1; rw [flatM_length] at this; exact this
    obtain ⟨b', o, e', _, hc⟩ := h.rd (by omega)
    rw [e] at e'
    injection e' with e'
    subst e'
    have hk : j / 2 < l.length := by omega
    have hm := List.getElem?_eq_getElem hk
    obtain ⟨c0, c1⟩ := hc _ _ hm
    obtain ⟨f0, f1⟩ := flatM_get l _ _ hm
    rw [Addr.add_lit]
    rcases Nat.mod_two_eq_zero_or_one j with h2 | h2
    · have e : j / 2 * 2 = j := by omega
      rw [e] at c0 f0
      rw [c0, ← hj, f0]
    · have e : j / 2 * 2 + 1 = j := by omega
      rw [show o + j / 2 * 2 + 1 = o + j by omega] at c1
      rw [e] at f1
      rw [c1, ← hj, f1]
theorem own_ms {base : Nat} {w : World} {A : Option Addr} {c : Nat} {l : List Mk} (hr : w.ownsRow base 70 2 (.slice A l.length c) l.length (flatM l)) (hf : ∀ m ∈ l, Fine m) : Ms w A c l := by
  rcases hr.2 with ⟨e, h0⟩ | ⟨g, cap, cur, e, hg, hh, hnc, hcm, hsz, hcs⟩
  · injection e with e1 _ e3
    have : l = [] := List.eq_nil_of_length_eq_zero h0
    subst this e1 e3
    exact Ms.nil _
  · injection e with e1 _ e3
    subst e1
    subst e3
    refine ⟨hnc, by unfold maxLen at hcm; omega, fun hp => ⟨g, 0, rfl, lt_of_block hh, fun i m hi => ?_⟩, hf⟩
    have hl : i < l.length := (List.getElem?_eq_some_iff.1 hi).1
    rw [Nat.zero_add, hr.cellAt (i * 2) (by omega), hr.cellAt (i * 2 + 1) (by omega)]
    exact flatM_get l i m hi
theorem Ms.take {w : World} {A : Option Addr} {c : Nat} {l : List Mk} (h : Ms w A c l) (n : Nat) : Ms w A c (l.take n) := by
  have hl : (l.take n).length ≤ l.length := by simp; omega
  refine ⟨Nat.le_trans hl h.room, h.most, fun hp => ?_, fun m hm => h.fine m (List.mem_of_mem_take hm)⟩
  obtain ⟨b, o, e, hb, hc⟩ := h.rd (by omega)
  refine ⟨b, o, e, hb, fun j m hm => hc j m ?_⟩
  rw [List.getElem?_take] at hm
  split at hm
  · exact hm
  · cases hm

/-! ### masks of the call's own -/
def OwnM (base : Nat) (w : World) (A : Option Addr) (c : Nat) (l : List Mk) : Prop := w.ownsRow base 70 2 (.slice A l.length c) l.length (flatM l) ∧ ∀ m ∈ l, Fine m
section
variable {base : Nat} {w w' : World} {A : Option Addr} {c : Nat} {l : List Mk}
theorem OwnM.ms (h : OwnM base w A c l) : Ms w A c l := own_ms h.1 h.2
theorem OwnM.low (h : OwnM base w A c l) : ∀ i, blk A = some i → base ≤ i ∧ i < w.heap.size := fun i hi => h.1.lt i (by rw [own_blk]; exact hi)
theorem OwnM.turn {S : Nat → Prop} (h : OwnM base w A c l) (ht : Turn S w w') (hS : ∀ i, blk A = some i → ¬ S i) : OwnM base w' A c l := ⟨row_turn h.1 ht (fun i hi => hS i (by rw [own_blk] at hi; exact hi)), h.2⟩
theorem OwnM.below (h : OwnM base w A c l) (hb : Below w.heap.size w w') : OwnM base w' A c l := h.turn (Turn.of_below (S := fun _ => False) hb) (fun _ _ e => e)
theorem OwnM.mono {b : Nat} (h : OwnM base w A c l) (hb : b ≤ base) : OwnM b w A c l := ⟨h.1.mono hb, h.2⟩
theorem OwnM.nil (base : Nat) (w : World) : OwnM base w none 0 [] := ⟨World.ownsRow_nil _ _ _ _, by simp⟩
end
theorem flatM_append (q r : List Mk) : flatM (q ++ r) = flatM q ++ flatM r := by simp [flatM]
theorem flatM_cons (x : Mk) (q : List Mk) : flatM (x :: q) = .int .u64 (x.1 : Int) :: .int .u64 (x.2 : Int) :: flatM q := rfl
theorem flatM_set : ∀ (q : List Mk) (i : Nat) (m : Mk), i < q.length → ((flatM q).set (i * 2) (.int .u64 (m.1 : Int))).set (i * 2 + 1) (.int .u64 (m.2 : Int)) = flatM (q.set i m)
  | [], i, m, h => by simp at h
  | x :: q, 0, m, _ => by simp [flatM_cons]
  | x :: q, i + 1, m, h => by
    have ih := flatM_set q i m (by simpa using h)
    have e : (i + 1) * 2 = i * 2 + 1 + 1 := by omega
    rw [flatM_cons, List.set_cons_succ, flatM_cons, ← ih]
    simp only [e, List.set_cons_succ]
/-- A mask stored in the row. -/
theorem OwnM.put {base g c : Nat} {w : World} {l : List Mk} (h : OwnM base w (some ⟨g, 0, none⟩) c l) (i : Nat) (m : Mk) (hi : i < l.length) (hm : Fine m) :
    OwnM base ((w.setCell ⟨g, i * 2, none⟩ (.int .u64 m.1)).setCell ⟨g, i * 2 + 1, none⟩ (.int .u64 m.2)) (some ⟨g, 0, none⟩) c (l.set i m) := by
  refine ⟨?_, fun x hx => ?_⟩
  · rw [← flatM_set l i m hi, List.length_set]
    exact ((h.1.stored (i * 2) (.int .u64 m.1)).1.stored (i * 2 + 1) (.int .u64 m.2)).1
  · rcases List.mem_or_eq_of_mem_set hx with hx | rfl
    · exact h.2 x hx
    · exact hm
theorem OwnM.at_ {base c : Nat} {w : World} {A : Option Addr} {l : List Mk} (h : OwnM base w A c l) {i : Nat} {m : Mk} (hm : l[i]? = some m) : ∃ g, A = some ⟨g, 0, none⟩ ∧ base ≤ g ∧ g < w.heap.size ∧ l.length ≤ c ∧ w.cell? ⟨g, i * 2, none⟩ = some (.int .u64 m.1) ∧ w.cell? ⟨g, i * 2 + 1, none⟩ = some (.int .u64 m.2) ∧ w.frozen? ⟨g, i * 2, none⟩ = false ∧ w.frozen? ⟨g, i * 2 + 1, none⟩ = false := by
  have hl := (List.getElem?_eq_some_iff.1 hm).1
  obtain ⟨f0, f1⟩ := flatM_get l i m hm
  have h1 := h.1
  rcases h1.2 with ⟨e, h0⟩ | ⟨g, cap, cur, e, hg, hh, hnc, hcm, hsz, hcs⟩
  · omega
  · injection e with e1 _ e3
    subst e1
    subst e3
    exact ⟨g, rfl, hg, lt_of_block hh, hnc, by rw [h1.cellAt (i * 2) (by omega), f0], by rw [h1.cellAt (i * 2 + 1) (by omega), f1], h1.frozenAt _, h1.frozenAt _⟩
theorem set2_turn (w : World) (g i k : Nat) (u v : Value) : Turn (fun j => j = g) w ((w.setCell ⟨g, i, none⟩ u).setCell ⟨g, k, none⟩ v) :=
  (⟨rfl, rfl, rfl, by simp [World.setCell], fun j _ hj => Below.heap_setCell _ _ _ _ hj⟩ : Turn (fun j => j = g) w (w.setCell ⟨g, i, none⟩ u)).trans ⟨rfl, rfl, rfl, by simp [World.setCell], fun j _ hj => Below.heap_setCell _ _ _ _ hj⟩ (fun j hj => .inl hj)
end Go.Proofs.YtcekgllahlhaaaaGreatDoor

namespace Go.Proofs.YtcekgllahlhaaaaGreatDoor
open Go.RowKit Go.Shelf
open MskL (Mk Ms mv has mk Fine MRow MBox rightM slotB hasB cnt has_mk mk_congr mk_fine ofM ofE withM withW GivesM GivesME)
set_option linter.unusedVariables false
set_option linter.unusedSimpArgs false
set_option maxRecDepth 100000

def mz : Mk := (0, 0)
/-! ### what may be -/
def cenB (C : List (List Int)) : Bool := decide (C.length ≤ 6) && decide (allM C = 0)
def meet (a b : Mk) : Bool := (List.range 96).any fun s => has a s && has b s
/-- All masks up to one may be, and have no slot in common. -/
def apTo (M : List Mk) (k : Nat) : Bool := (List.range k).all fun i => rightM (M.getD i mz) && (List.range i).all fun j => !meet (M.getD i mz) (M.getD j mz)
def apartB (M : List Mk) : Bool := apTo M M.length
def okB (C : List (List Int)) (M : List Mk) : Bool := cenB C && decide (M.length = C.length) && apartB M
def chkL (C : List (List Int)) (M : List Mk) : Int := if okB C M = true then 0 else 230
theorem meet_iff (a b : Mk) : meet a b = true ↔ ∃ s, has a s = true ∧ has b s = true := by
  unfold meet
  rw [List.any_eq_true]
  constructor
  · rintro ⟨s, _, h⟩
    simp at h
    exact ⟨s, h⟩
  · rintro ⟨s, h1, h2⟩
    exact ⟨s, List.mem_range.2 (MskL.has_lt h1), by simp [h1, h2]⟩
theorem apTo_succ (M : List Mk) (k : Nat) : apTo M (k + 1) = (apTo M k && (rightM (M.getD k mz) && (List.range k).all fun j => !meet (M.getD k mz) (M.getD j mz))) := by
  unfold apTo
  rw [List.range_succ, List.all_append]
  simp
theorem apTo_le {M : List Mk} {k n : Nat} (h : apTo M n = true) (hk : k ≤ n) : apTo M k = true := by
  unfold apTo at *
  rw [List.all_eq_true] at *
  intro i hi
  exact h i (List.mem_range.2 (by have := List.mem_range.1 hi; omega))
theorem apTo_right {M : List Mk} {n : Nat} (h : apTo M n = true) {i : Nat} (hi : i < n) : rightM (M.getD i mz) = true := by
  unfold apTo at h
  rw [List.all_eq_true] at h
  have := h i (List.mem_range.2 hi)
  simp at this
  exact this.1
theorem apTo_meet {M : List Mk} {n : Nat} (h : apTo M n = true) {i j : Nat} (hi : i < n) (hj : j < i) {s : Nat} (h1 : has (M.getD i mz) s = true) : has (M.getD j mz) s = false := by
  unfold apTo at h
  rw [List.all_eq_true] at h
  have h2 := h i (List.mem_range.2 hi)
  rw [Bool.and_eq_true, List.all_eq_true] at h2
  have h3 := h2.2 j (List.mem_range.2 hj)
  cases h4 : has (M.getD j mz) s with
  | false => rfl
  | true =>
    rw [(meet_iff _ _).2 ⟨s, h1, h4⟩] at h3
    simp at h3
theorem mgetD {M : List Mk} {k : Nat} {m : Mk} (h : M[k]? = some m) : M.getD k mz = m := by simp [List.getD, h]
/-- What has been seen of the masks. -/
def seenM (M : List Mk) (k : Nat) : Mk := mk fun n => (M.take k).any fun m => has m n
theorem any_take {M : List Mk} (P : Mk → Bool) : ∀ {k : Nat}, k ≤ M.length → ((M.take k).any P = (List.range k).any fun j => P (M.getD j mz)) := by
  intro k hk
  induction k with
  | zero => rfl
  | succ k ih =>
    have hm := List.getElem?_eq_getElem (show k < M.length by omega)
    rw [List.take_add_one, hm, List.any_append, ih (by omega), List.range_succ, List.any_append, List.any_cons, List.any_nil, mgetD hm]
    rfl
theorem cnt_pos (f : Nat → Bool) : ∀ k, 0 < cnt f k ↔ ∃ n, n < k ∧ f n = true
  | 0 => by simp [cnt]
  | k + 1 => by
    rw [MskL.cnt_succ]
    constructor
    · intro h
      cases hf : f k with
      | true => exact ⟨k, by omega, hf⟩
      | false =>
        rw [hf] at h
        obtain ⟨n, hn, h1⟩ := (cnt_pos f k).1 (by simpa using h)
        exact ⟨n, by omega, h1⟩
    · rintro ⟨n, hn, h1⟩
      by_cases e : n = k
      · subst e; rw [h1]; simp
      · have := (cnt_pos f k).2 ⟨n, by omega, h1⟩; omega
/-- The masks meet one ahead, told by counting. -/
theorem seen_cnt {M : List Mk} {k : Nat} {m : Mk} (hm : M[k]? = some m) : decide (0 < cnt (has (mk fun n => [seenM M k, m].all fun x => has x n)) 96) = !(List.range k).all fun j => !meet m (M.getD j mz) := by
  have hk : k < M.length := (List.getElem?_eq_some_iff.1 hm).1
  rw [Bool.eq_iff_iff, decide_eq_true_iff, cnt_pos]
  have e : (!(List.range k).all fun j => !meet m (M.getD j mz)) = true ↔ ∃ j, j < k ∧ meet m (M.getD j mz) = true := by
    rw [Bool.not_eq_true', List.all_eq_false]
    constructor
    · rintro ⟨j, hj, h⟩; exact ⟨j, List.mem_range.1 hj, by simpa [-List.getD_eq_getElem?_getD] using h⟩
    · rintro ⟨j, hj, h⟩; exact ⟨j, List.mem_range.2 hj, by rw [h]; simp⟩
  rw [e]
  have hsn : ∀ n, n < 96 → has (mk fun n => [seenM M k, m].all fun x => has x n) n = (((List.range k).any fun j => has (M.getD j mz) n) && has m n) := by
    intro n hn
    unfold seenM
    rw [has_mk, List.all_cons, List.all_cons, List.all_nil, has_mk, any_take (fun m => has m n) (by omega)]
    simp [hn]
  constructor
  · rintro ⟨n, hn, h⟩
    rw [hsn n hn, Bool.and_eq_true, List.any_eq_true] at h
    obtain ⟨⟨j, hj, h1⟩, h2⟩ := h
    exact ⟨j, List.mem_range.1 hj, (meet_iff _ _).2 ⟨n, h2, h1⟩⟩
  · rintro ⟨j, hj, h⟩
    obtain ⟨n, h1, h2⟩ := (meet_iff _ _).1 h
    have hn := MskL.has_lt h1
    exact ⟨n, hn, by rw [hsn n hn, Bool.and_eq_true, List.any_eq_true]; exact ⟨⟨j, List.mem_range.2 hj, h2⟩, h1⟩⟩
theorem seen_succ {M : List Mk} {k : Nat} {m : Mk} (hm : M[k]? = some m) : mk (fun n => [seenM M k, m].any fun x => has x n) = seenM M (k + 1) := by
  unfold seenM
  rw [List.take_add_one, hm]
  exact mk_congr (fun n hn => by simp [has_mk, hn])
theorem seen_zero (M : List Mk) : seenM M 0 = mz := by unfold seenM; exact MskL.mk_none _ (by simp)
theorem ap_step {M : List Mk} {k : Nat} {m : Mk} (hm : M[k]? = some m) (h : apTo M k = true) : apTo M (k + 1) = (rightM m && !decide (0 < cnt (has (mk fun n => [seenM M k, m].all fun x => has x n)) 96)) := by
  rw [apTo_succ, h, mgetD hm, seen_cnt hm, Bool.true_and, Bool.not_not]
theorem ap_false {M : List Mk} {k : Nat} (h : apTo M (k + 1) = false) (hk : k < M.length) : apartB M = false := by
  cases h2 : apartB M with
  | false => rfl
  | true => rw [apTo_le (n := M.length) h2 hk] at h; cases h
theorem okB_iff {C : List (List Int)} {M : List Mk} (h : okB C M = true) : C.length ≤ 6 ∧ allM C = 0 ∧ M.length = C.length ∧ apTo M M.length = true := by
  unfold okB cenB apartB at h
  simp at h
  exact ⟨h.1.1.1, h.1.1.2, h.1.2, h.2⟩
theorem allM_all {C : List (List Int)} (h : allM C = 0) : ∀ x ∈ C, right x = true ∧ x.length = (C.getD 0 []).length := by
  intro x hx
  have := refuse_ok h x hx
  exact ⟨this.1, by omega⟩
theorem cen_small {C : List (List Int)} (h : cenB C = true) : C.length ≤ 6 ∧ ∀ x ∈ C, x.length ≤ 4 := by
  unfold cenB at h
  simp at h
  exact ⟨h.1, fun x hx => (right_len (allM_all h.2 x hx).1).2⟩

/-! ### where -/
def whereK (M : List Mk) (s : Int) : Int := idxK (M.findIdx? fun m => hasB m s)
def whereI (C : List (List Int)) (M : List Mk) (s : Int) : Int := if okB C M = true then max (whereK M s) 0 else 0
def whereB (C : List (List Int)) (M : List Mk) (s : Int) : Bool := okB C M && decide (0 ≤ whereK M s)

/-! ### put together -/
def unionM (M : List Mk) (ps : List Int) : Mk := mk fun n => ps.any fun p => has (M.getD p.toNat mz) n
def inB (n : Nat) (p : Int) : Bool := decide (0 ≤ p) && decide (p < n)
def unionE (C : List (List Int)) (M : List Mk) (ps : List Int) : Int := if okB C M = true then (if ps.all (inB M.length) = true then 0 else 2) else 230
def unionR (C : List (List Int)) (M : List Mk) (ps : List Int) : Mk := if unionE C M ps = 0 then unionM M ps else mz

/-! ### built -/
def dimC (C : List (List Int)) : Nat := (C.getD 0 []).length
def fitsE (C : List (List Int)) (e : Ce) : Bool := !e.u || decide (e.x.length = dimC C)
def inP (C : List (List Int)) (l : List Ce) (p k : Nat) : Bool := (ceAt l k).u && decide (nearM C (ceAt l k).x = p)
def maskOf (C : List (List Int)) (l : List Ce) (p : Nat) : Mk := mk fun k => inP C l p k
def masksOf (C : List (List Int)) (l : List Ce) : List Mk := (List.range C.length).map (maskOf C l)
def buildE (C : List (List Int)) (l : List Ce) : Int := if arB l = true then (if cenB C = true then (if C.length = 0 then 0 else if l.all (fitsE C) = true then 0 else 151) else 230) else 190
def buildC (C : List (List Int)) (l : List Ce) : List (List Int) := if buildE C l = 0 then C else []
def buildM (C : List (List Int)) (l : List Ce) : List Mk := if buildE C l = 0 then masksOf C l else []
def agreeB (C : List (List Int)) (M : List Mk) (l : List Ce) : Bool := decide (buildE C l = 0) && decide (masksOf C l = M)

/-! ### added, removed -/
def addE (C : List (List Int)) (M : List Mk) (s : Int) (v : List Int) : Int :=
  if okB C M = true then (if slotB s = true then (if 0 ≤ whereK M s then 2 else if right v = true then (if C.length = 0 then 0 else if v.length = dimC C then 0 else 151) else 150) else 2) else 230
def addM (C : List (List Int)) (M : List Mk) (s : Int) (v : List Int) : List Mk := if C.length = 0 then M else M.set (nearM C v) (withM (M.getD (nearM C v) mz) s)
def remE (C : List (List Int)) (M : List Mk) (ss : List Int) : Int := if okB C M = true then ofE ss else 230
def remM (M : List Mk) (ss : List Int) : List Mk := M.map fun m => mk fun n => has m n && !has (ofM ss) n
def ifC (e : Int) (C : List (List Int)) : List (List Int) := if e = 0 then C else []
def ifM (e : Int) (M : List Mk) : List Mk := if e = 0 then M else []

/-- Lists that can be read. -/
structure Lis (w : World) (A : Option Addr) (c : Nat) (C : List (List Int)) (B : Option Addr) (d : Nat) (M : List Mk) : Prop where
  cs : Vecs .i32 w A c C
  ms : Ms w B d M
theorem Lis.below {w w' : World} {A B : Option Addr} {c d : Nat} {C : List (List Int)} {M : List Mk} (h : Lis w A c C B d M) (hb : Below w.heap.size w w') : Lis w' A c C B d M := ⟨h.cs.below hb, h.ms.below hb⟩
def lv (A : Option Addr) (c n : Nat) (B : Option Addr) (d m : Nat) : Value := .agg #[.slice A n c, .slice B m d]
/-- What answers lists; and with an error. -/
def GivesL (w : World) (C : List (List Int)) (M : List Mk) (e : Ending) (w' : World) : Prop := ∃ A c B d, e = .returned (lv A c C.length B d M.length) ∧ Lis w' A c C B d M ∧ Below w.heap.size w w'
def GivesLE (w : World) (C : List (List Int)) (M : List Mk) (E : Int) (e : Ending) (w' : World) : Prop := ∃ A c B d, e = .returned (.tuple #[lv A c C.length B d M.length, .int .i64 E]) ∧ Lis w' A c C B d M ∧ Below w.heap.size w w'
theorem Lis.nil (w : World) : Lis w none 0 [] none 0 [] := ⟨Vecs.nil _ _, Ms.nil _⟩
end Go.Proofs.YtcekgllahlhaaaaGreatDoor

namespace Go.Proofs.YtcekgllahlhaaaaGreatDoor
open Go.RowKit Go.Shelf
open MskL (Mk Ms mv has mk Fine MRow MBox rightM slotB hasB cnt has_mk mk_congr mk_fine ofM ofE withM withW GivesM GivesME chkM)
set_option linter.unusedVariables false
set_option linter.unusedSimpArgs false
set_option maxRecDepth 100000

/-- None of the first k is such. -/
def NoneK {α : Type} (P : α → Bool) (l : List α) (k : Nat) : Prop := ∀ j u, j < k → l[j]? = some u → P u = false
theorem NoneK.step {α : Type} {P : α → Bool} {l : List α} {k : Nat} {v : α} (h : NoneK P l k) (hk : l[k]? = some v) (hv : P v = false) : NoneK P l (k + 1) := by
  intro j u hj hu
  by_cases e : j = k
  · subst e; rw [hk] at hu; cases hu; exact hv
  · exact h j u (by omega) hu
theorem NoneK.all {α : Type} {P : α → Bool} {l : List α} (h : NoneK P l l.length) : l.findIdx? P = none := by
  rw [List.findIdx?_eq_none_iff]
  intro x hx
  obtain ⟨i, hi, rfl⟩ := List.getElem_of_mem hx
  exact h i _ hi (List.getElem?_eq_getElem hi)
theorem NoneK.at_ {α : Type} {P : α → Bool} {l : List α} {k : Nat} {v : α} (h : NoneK P l k) (hk : l[k]? = some v) (hv : P v = true) : l.findIdx? P = some k := by
  rw [List.findIdx?_eq_some_iff_getElem]
  obtain ⟨hl, e⟩ := List.getElem?_eq_some_iff.1 hk
  refine ⟨hl, by rw [e]; exact hv, fun j hj => ?_⟩
  have := h j _ hj (List.getElem?_eq_getElem (by omega))
  rw [this]; simp

/-- A function handed in that tells of a vector, and of a number. -/
def PredV (l : List (List Int)) (fid : FuncId) (cap : Array Value) (P : List Int → Bool) (w : World) : Prop := ∀ (B : Option Addr) (cb : Nat) (x : List Int) (W : World), Below w.heap.size w W → Vec .i32 W B cb x → x ∈ l → Calls Tryz.prog fid (#[.slice B x.length cb] ++ cap) W fun e w' => e = .returned (.bool (P x)) ∧ Below W.heap.size W w'

set_option maxHeartbeats 1000000 in
theorem indexV_any (A : Option Addr) (c : Nat) (l : List (List Int)) (fid : FuncId) (cap : Array Value) (P : List Int → Bool) (w : World) (h : Vecs .i32 w A c l)
    (hen : ∀ v W, (callFunc fid (#[v] ++ cap)).run Tryz.prog W = .ok (.enter fid (#[v] ++ cap)) W) (hp : PredV l fid cap P w) :
    Calls Tryz.prog 71 #[.slice A l.length c, .func (.func fid) #[] cap] w fun e w' => e = .returned (.int .i64 (idxK (l.findIdx? P))) ∧ Below w.heap.size w w' := by
  obtain ⟨n, hn⟩ : ∃ n, n = l.length := ⟨_, rfl⟩
  have hmn : n ≤ 9223372036854775807 := by rw [hn]; exact Nat.le_trans h.room h.most
  have HQ := Lib.hid h
  have HN := Lib.hid hn
  have HPr := Lib.hid hp
  generalize hR : idxK (l.findIdx? P) = R at *
  have HR := Lib.hid hR
  rw [← hn]
  clear h hn hp hR
  go_enter Tryz.func71, Tryz.ntmps71
  go_wp2
  go_loopw [8] (fun i wr => ∃ k : Nat, k ≤ n ∧ i = .int .i64 k ∧ Hid (NoneK P l k) ∧ Hid (Below w.heap.size w wr)) (fun i _ => n - (intOf i).toNat)
  case atStart => exact ⟨0, Nat.zero_le _, rfl, Lib.hid (fun j u hj => by omega), Lib.hid (Below.refl _ _)⟩
  case round =>
    obtain ⟨k, hk, rfl, HK, HB⟩ := hrel
    by_cases hkn : k < n
    · obtain ⟨b, o, x, B, cb, rfl, hx, hb, c0, hv⟩ := (HQ.out.below HB.out).at_ (i := k) (by rw [← HN.out]; exact hkn)
      have HP := Lib.hid hx
      have k0 : (0 : Int) ≤ k := by omega
      have kn : (k : Int) < n := by omega
      have HV := Lib.hid (HPr.out B cb x wr HB.out hv (List.mem_of_getElem? hx))
      clear hv hx hb
      cases hvis : P x with
      | true =>
        have HF := Lib.hid (show R = k by rw [← HR.out, HK.out.at_ HP.out hvis]; rfl)
        rw [hvis] at HV
        clear hvis
        go_wp2_with fail
        refine HV.out.mono ?_
        rintro e w1 ⟨rfl, hb1⟩
        have HB1 := Lib.hid (HB.out.trans (hb1.mono HB.out.size))
        clear hb1
        go_wp2
        go_ret
        rw [HF.out]
        exact ⟨rfl, HB1.out⟩
      | false =>
        have HK2 := Lib.hid (HK.out.step HP.out hvis)
        rw [hvis] at HV
        clear hvis
        go_wp2_with fail
        refine HV.out.mono ?_
        rintro e w1 ⟨rfl, hb1⟩
        have HB1 := Lib.hid (HB.out.trans (hb1.mono HB.out.size))
        clear hb1
        go_wp2
        go_roundw
        case rel => exact ⟨k + 1, by omega, by go_num, HK2, HB1⟩
        case measure => simp [intOf]; omega
    · obtain rfl : k = n := by omega
      have HF := Lib.hid (show R = -1 by rw [← HR.out, NoneK.all (l := l) (P := P) (by rw [← HN.out]; exact HK.out)]; rfl)
      go_wp2
      go_ret
      rw [HF.out]
      exact ⟨rfl, HB.out⟩
theorem containsV_any (A : Option Addr) (c : Nat) (l : List (List Int)) (fid : FuncId) (cap : Array Value) (P : List Int → Bool) (w : World) (h : Vecs .i32 w A c l)
    (hen : ∀ v W, (callFunc fid (#[v] ++ cap)).run Tryz.prog W = .ok (.enter fid (#[v] ++ cap)) W) (hp : PredV l fid cap P w) :
    Calls Tryz.prog 40 #[.slice A l.length c, .func (.func fid) #[] cap] w fun e w' => e = .returned (.bool (l.any P)) ∧ Below w.heap.size w w' := by
  have HC := Lib.hid (indexV_any A c l fid cap P w h hen hp)
  have HR := Lib.hid (idx_ge l P)
  generalize l.any P = R at *
  generalize idxK (l.findIdx? P) = K at *
  generalize l.length = n at *
  clear h hen hp
  go_enter Tryz.func40, Tryz.ntmps40
  go_wp2_with fail
  refine HC.out.mono ?_
  rintro e w1 ⟨rfl, hb1⟩
  have HB1 := Lib.hid hb1
  clear hb1
  go_wp2
  go_ret
  rw [HR.out]
  exact ⟨rfl, HB1.out⟩

theorem not_all {α : Type} (l : List α) (P : α → Bool) : (l.any fun x => !P x) = !l.all P := by
  induction l with
  | nil => rfl
  | cons x l ih => rw [List.any_cons, List.all_cons, ih]; cases P x <;> cases l.all P <;> rfl
/-! ### Same -/
theorem cen_any (d : Nat) (C : List (List Int)) : (C.any fun x => !decide (refuseM d [x] = 0)) = !decide (refuseM d C = 0) := by
  have h1 : ∀ x, refuseM d [x] = 0 ↔ right x = true ∧ x.length = d := by
    intro x
    constructor
    · intro h
      have := refuse_ok h x (by simp)
      exact ⟨this.1, by omega⟩
    · rintro ⟨h, e⟩
      unfold refuseM
      simp [h, e]
  rw [not_all]
  congr 1
  rw [Bool.eq_iff_iff, decide_eq_true_iff, List.all_eq_true]
  constructor
  · intro h
    unfold refuseM
    have e1 : C.all right = true := List.all_eq_true.2 (fun x hx => ((h1 x).1 (by simpa using h x hx)).1)
    have e2 : (C.all fun x => decide ((x.length : Int) = (d : Nat))) = true := List.all_eq_true.2 (fun x hx => by have := ((h1 x).1 (by simpa using h x hx)).2; simp; omega)
    rw [e1, e2]; rfl
  · intro h x hx
    have := refuse_ok h x hx
    rw [decide_eq_true_iff]
    exact (h1 x).2 ⟨this.1, by omega⟩

theorem mayNotBe_any (B : Option Addr) (cb : Nat) (x : List Int) (g b o N cN d cd : Nat) (D : Option Addr) (W : World) (hv : Vec .i32 W B cb x) (hg : W.cell? ⟨g, 0, none⟩ = some (.slice (some ⟨b, o, none⟩) N cN)) (hN : 0 < N) (h0 : W.cell? ⟨b, o, none⟩ = some (.slice D d cd)) :
    Calls Tryz.prog 38 #[.slice B x.length cb, .pointer (some ⟨g, 0, none⟩)] W fun e w' => e = .returned (.bool (!decide (refuseM d [x] = 0))) ∧ Below W.heap.size W w' := by
  have n0 : (0 : Int) < N := by omega
  have HC := Lib.hid (of_any B cb x d W hv)
  by_cases hE : refuseM d [x] = 0
  · rw [hE] at HC
    rw [decide_eq_true hE]
    generalize x.length = n at *
    clear hv hE
    go_enter Tryz.func38, Tryz.ntmps38
    go_wp2_with fail
    refine HC.out.mono ?_
    rintro e w1 ⟨rfl, hb1⟩
    have HB1 := Lib.hid hb1
    clear hb1
    go_wp2
    go_ret
    exact ⟨rfl, HB1.out⟩
  · have t1 : (refuseM d [x] == 0) = false := by simpa using hE
    have t2 : (refuseM d [x] != 0) = true := by simpa using hE
    rw [decide_eq_false hE]
    generalize refuseM d [x] = E at *
    generalize x.length = n at *
    clear hv hE
    go_enter Tryz.func38, Tryz.ntmps38
    go_wp2_with fail
    refine HC.out.mono ?_
    rintro e w1 ⟨rfl, hb1⟩
    have HB1 := Lib.hid hb1
    clear hb1
    go_wp2
    go_ret
    exact ⟨by first | rfl | simp [t1, t2], HB1.out⟩

set_option maxHeartbeats 1000000 in
theorem areCen_any (A : Option Addr) (c : Nat) (C : List (List Int)) (w : World) (h : Vecs .i32 w A c C) :
    Calls Tryz.prog 16 #[.slice A C.length c] w fun e w' => e = .returned (.bool (cenB C)) ∧ Below w.heap.size w w' := by
  obtain ⟨W0, hW0⟩ : ∃ W0, W0 = w.alloc (.cells #[.slice A C.length c] 25) := ⟨_, rfl⟩
  have hb0 : Below w.heap.size w W0 := by rw [hW0]; exact (Below.refl _ w).alloc (Nat.le_refl _) _
  have x0 : W0.cell? ⟨w.heap.size, 0, none⟩ = some (.slice A C.length c) := by rw [hW0]; exact cell_laid _ _ _ 0
  have hz0 : W0.heap.size = w.heap.size + 1 := by rw [hW0]; simp
  have hX := fun (V : World) (hV : Below W0.heap.size W0 V) => show V.cell? ⟨w.heap.size, 0, none⟩ = some (.slice A C.length c) from (hV.cell (p := ⟨w.heap.size, 0, none⟩) (by show w.heap.size < W0.heap.size; omega)).trans x0
  have HC1 := Lib.hid (containsV_any A c C 38 #[.pointer (some ⟨w.heap.size, 0, none⟩)] (fun x => !decide (refuseM ((C.getD 0 []).length : Nat) [x] = 0)) W0 (h.below hb0) (fun v W => enters_of Tryz.func38 (by kernel_rfl) rfl _ W)
    (fun B cb x W hW hv hx => by
      obtain ⟨b, o, x1, D, cd, hA, hx1, _, hc, _⟩ := ((h.below hb0).below hW).at_ (i := 0) (by have := List.length_pos_of_mem hx; exact this)
      have hx := hX W hW
      rw [hA] at hx
      rw [Nat.add_zero] at hc
      rw [getD_at hx1]
      exact mayNotBe_any B cb x w.heap.size b o C.length c x1.length cd D W hv hx (by have := (List.getElem?_eq_some_iff.1 hx1).1; omega) hc))
  rw [cen_any] at HC1
  have HF := Lib.hid (show cenB C = (decide (C.length ≤ 6) && decide (allM C = 0)) from rfl)
  unfold allM at HF
  have HB0 := Lib.hid hb0
  have HW0 := Lib.hid hW0
  generalize cenB C = R at *
  generalize decide (refuseM ((C.getD 0 []).length : Nat) C = 0) = P at *
  generalize C.length = n at *
  clear h hX hz0 hb0 hW0
  by_cases h6 : n ≤ 6
  · have t1 : decide ((n : Int) ≤ 6) = true := by simp; omega
    have HG := Lib.hid (show R = P by rw [HF.out, decide_eq_true h6]; simp)
    go_enter Tryz.func16, Tryz.ntmps16
    go_wp2_with (rw [← HW0.out])
    refine HC1.out.mono ?_
    rintro e w1 ⟨rfl, hb1⟩
    have HB1 := Lib.hid (HB0.out.trans (hb1.mono HB0.out.size))
    clear hb1
    go_wp2
    go_ret
    rw [HG.out]
    exact ⟨by first | rfl | simp, HB1.out⟩
  · have t1 : decide ((n : Int) ≤ 6) = false := by simp; omega
    have HG := Lib.hid (show R = false by rw [HF.out, decide_eq_false h6]; simp)
    go_enter Tryz.func16, Tryz.ntmps16
    go_wp2_with (rw [← HW0.out])
    go_ret
    rw [HG.out]
    exact ⟨rfl, HB0.out⟩
end Go.Proofs.YtcekgllahlhaaaaGreatDoor

namespace Go.Proofs.YtcekgllahlhaaaaGreatDoor
open Go.RowKit Go.Shelf
open MskL (Mk Ms mv has mk Fine MRow MBox rightM slotB hasB cnt has_mk mk_congr mk_fine ofM ofE withM withW GivesM GivesME chkM)
set_option linter.unusedVariables false
set_option linter.unusedSimpArgs false
set_option maxRecDepth 100000

theorem take_eq_step {α : Type} {q r : List α} {k : Nat} {x y : α} (h : q.take k = r.take k) (hx : q[k]? = some x) (hy : r[k]? = some y) (e : x = y) : q.take (k + 1) = r.take (k + 1) := by
  rw [List.take_add_one, List.take_add_one, h, hx, hy, e]

set_option maxHeartbeats 8000000 in
theorem apart_any (A : Option Addr) (c : Nat) (M : List Mk) (w : World) (h : Ms w A c M) :
    Calls Tryz.prog 79 #[.slice A M.length c] w fun e w' => e = .returned (.bool (apartB M)) ∧ Below w.heap.size w w' := by
  obtain ⟨n, hn⟩ : ∃ n, n = M.length := ⟨_, rfl⟩
  have hmn : (n : Int) ≤ 9223372036854775807 := by have := h.room; have := h.most; omega
  have hnc : n ≤ c := by have := h.room; omega
  have hcm : (c : Int) ≤ 9223372036854775807 := by have := h.most; omega
  have HM := Lib.hid h
  have HN := Lib.hid hn
  obtain ⟨R, hR⟩ : ∃ R, R = apartB M := ⟨_, rfl⟩
  have HR := Lib.hid hR
  rw [← hR, ← hn]
  have HOr0 := Lib.hid (show Calls Tryz.prog 44 #[.slice none 0 0] w (fun e w' => e = .returned (.agg #[.int .u64 (seenM M 0).1, .int .u64 (seenM M 0).2]) ∧ Below w.heap.size w w') from by
    have := MskL.or_any none 0 [] w (Ms.nil w)
    unfold GivesM at this
    rw [show mk (fun n => ([] : List Mk).any fun m => has m n) = seenM M 0 from by unfold seenM; rw [List.take_zero]] at this
    exact this)
  obtain ⟨S0, hS0⟩ : ∃ S, S = seenM M 0 := ⟨_, rfl⟩
  rw [← hS0] at HOr0
  have HS0 := Lib.hid hS0
  clear h hn hR hS0
  go_enter Tryz.func79, Tryz.ntmps79
  go_wp2_with fail
  refine HOr0.out.mono ?_
  rintro e w1 ⟨rfl, hb1⟩
  obtain ⟨s, hs⟩ : ∃ s, s = w1.heap.size := ⟨_, rfl⟩
  obtain ⟨V1, hV1⟩ : ∃ V1, V1 = w1.alloc (.cells #[.int .u64 S0.1, .int .u64 S0.2] 70) := ⟨_, rfl⟩
  have HB1 := Lib.hid (show Below w.heap.size w V1 by rw [hV1]; exact hb1.alloc hb1.size _)
  have HX1 := Lib.hid (show MRow V1 s (seenM M 0).1 (seenM M 0).2 by rw [hV1, hs, ← HS0.out]; exact MRow.new w1 S0.1 S0.2)
  have HSs := Lib.hid (show w.heap.size ≤ s by rw [hs]; exact hb1.size)
  have HV1 := Lib.hid hV1
  have HsE := Lib.hid hs
  clear hb1 hV1 hs
  go_wp2_with (rw [← HV1.out, ← HsE.out])
  go_loopw [9] (fun i wr => ∃ k : Nat, k ≤ n ∧ i = .int .i64 k ∧ Hid (Below w.heap.size w wr) ∧ Hid (MRow wr s (seenM M k).1 (seenM M k).2) ∧ Hid (apTo M k = true)) (fun i _ => n - (intOf i).toNat)
  case atStart => exact ⟨0, Nat.zero_le _, rfl, HB1, HX1, Lib.hid rfl⟩
  case round =>
    obtain ⟨k, hk, rfl, HW, HX, HAp⟩ := hrel
    by_cases hkn : k < n
    · obtain ⟨b, o, x, y, rfl, hb, hx, hx1, hx2, d0, d1⟩ := (HM.out.below HW.out).at_ (k := k) (by rw [← HN.out]; exact hkn)
      have k0 : (0 : Int) ≤ k := by omega
      have kn : (k : Int) < n := by omega
      obtain ⟨S, hS⟩ : ∃ S, S = seenM M k := ⟨_, rfl⟩
      obtain ⟨t, ht⟩ : ∃ t, t = wr.heap.size := ⟨_, rfl⟩
      obtain ⟨V, hV⟩ : ∃ V, V = wr.alloc (.cells #[.int .u64 x, .int .u64 y] 70) := ⟨_, rfl⟩
      have hbV : Below wr.heap.size wr V := by rw [hV]; exact (Below.refl _ _).alloc (Nat.le_refl _) _
      have hXs : MRow V s S.1 S.2 := by rw [hS]; exact HX.out.below hbV HX.out.lt
      have hXm : MRow V t x y := by rw [hV, ht]; exact MRow.new wr x y
      have hst : s < t := by rw [ht]; exact HX.out.lt
      have hKx := fun (X : World) (hX : Below V.heap.size V X) => And.intro (hXs.below hX hXs.lt) (hXm.below hX hXm.lt)
      have HK := Lib.hid (fun (X : World) (hX : Below V.heap.size V X) => show (X.cell? ⟨s, 0, none⟩ = some (.int .u64 S.1) ∧ X.cell? ⟨s, 1, none⟩ = some (.int .u64 S.2)) ∧ (X.cell? ⟨t, 0, none⟩ = some (.int .u64 x) ∧ X.cell? ⟨t, 1, none⟩ = some (.int .u64 y)) from
        ⟨⟨(hKx X hX).1.cell0, (hKx X hX).1.cell1⟩, ⟨(hKx X hX).2.cell0, (hKx X hX).2.cell1⟩⟩)
      have HKs := Lib.hid (fun (X : World) (hX : Below V.heap.size V X) => (hKx X hX).1)
      have HBV := Lib.hid (HW.out.trans (hbV.mono HW.out.size))
      have HCh := Lib.hid (fun (W : World) => MskL.check_any (x, y) W ⟨hx1, hx2⟩)
      have HMs := Lib.hid (fun (W : World) => MskL.Ms.two W S (x, y) (by rw [hS]; exact mk_fine _) ⟨hx1, hx2⟩)
      obtain ⟨N, hN⟩ : ∃ N, N = mk fun n => [seenM M k, (x, y)].all fun m => has m n := ⟨_, rfl⟩
      obtain ⟨S2, hS2⟩ : ∃ S2, S2 = seenM M (k + 1) := ⟨_, rfl⟩
      have HAn := Lib.hid (fun (W : World) (A : Option Addr) (hA : Ms W A 2 [S, (x, y)]) => show Calls Tryz.prog 50 #[.slice A 2 2] W (fun e w' => e = .returned (mv N) ∧ Below W.heap.size W w') from by
        have := MskL.and_any A 2 [S, (x, y)] W hA
        unfold GivesM at this
        rw [hN, ← hS]
        exact this)
      have HOr := Lib.hid (fun (W : World) (A : Option Addr) (hA : Ms W A 2 [S, (x, y)]) => show Calls Tryz.prog 44 #[.slice A 2 2] W (fun e w' => e = .returned (mv S2) ∧ Below W.heap.size W w') from by
        have := MskL.or_any A 2 [S, (x, y)] W hA
        unfold GivesM at this
        rw [hS2, ← seen_succ hx, ← hS]
        exact this)
      have HCn := Lib.hid (fun (W : World) => MskL.count_any N W (by rw [hN]; exact mk_fine _))
      have HSt := Lib.hid (show apTo M (k + 1) = (rightM (x, y) && !decide (0 < cnt (has N) 96)) by rw [hN]; exact ap_step hx HAp.out)
      have HNo := Lib.hid (fun (hh : apTo M (k + 1) = false) => show R = false by rw [HR.out]; exact ap_false hh (by rw [← HN.out]; exact hkn))
      have HS2 := Lib.hid hS2
      have HVe := Lib.hid hV
      have HTe := Lib.hid ht
      have HSl := Lib.hid hst
      clear hx hx1 hx2 hb hS hbV hXs hXm hst hKx hN hS2 hV ht
      unfold mv at HAn HOr HCn HCh
      dsimp only at HMs
      cases hr : rightM (x, y) with
      | false =>
        have HF := Lib.hid (HNo.out (by rw [HSt.out, hr]; rfl))
        have hc2 : chkM (x, y) = 200 := by unfold chkM; rw [hr]; rfl
        rw [hc2] at HCh
        obtain ⟨⟨z0, z1⟩, ⟨z2, z3⟩⟩ := HK.out V (Below.refl _ _)
        clear hr hc2
        go_wp2_with (rw [← HVe.out, ← HTe.out])
        refine (HCh.out V).mono ?_
        rintro e w2 ⟨rfl, hb2⟩
        have HB2 := Lib.hid (HBV.out.trans (hb2.mono HBV.out.size))
        clear hb2
        go_wp2
        go_ret
        rw [HF.out]
        exact ⟨rfl, HB2.out⟩
      | true =>
        rw [hr, Bool.true_and] at HSt
        have hc2 : chkM (x, y) = 0 := by unfold chkM; rw [hr]; rfl
        rw [hc2] at HCh
        obtain ⟨⟨z0, z1⟩, ⟨z2, z3⟩⟩ := HK.out V (Below.refl _ _)
        clear hr hc2
        generalize cnt (has N) 96 = K at *
        go_wp2_with (rw [← HVe.out, ← HTe.out])
        refine (HCh.out V).mono ?_
        rintro e w2 ⟨rfl, hb2⟩
        have HB2 := Lib.hid hb2
        obtain ⟨⟨y0, y1⟩, ⟨y2, y3⟩⟩ := HK.out w2 hb2
        clear hb2 z0 z1 z2 z3
        go_wp2_with fail
        refine (HAn.out _ _ (HMs.out w2)).mono ?_
        rintro e w3 ⟨rfl, hb3⟩
        have HB3 := Lib.hid (show Below V.heap.size V w3 from (HB2.out.alloc HB2.out.size _).trans (hb3.mono (HB2.out.alloc HB2.out.size _).size))
        clear hb3 y0 y1 y2 y3
        go_wp2_with fail
        refine (HCn.out w3).mono ?_
        rintro e w4 ⟨rfl, hb4⟩
        have HB4 := Lib.hid (HB3.out.trans (hb4.mono HB3.out.size))
        obtain ⟨⟨y0, y1⟩, ⟨y2, y3⟩⟩ := HK.out w4 HB4.out
        clear hb4
        by_cases hK : 0 < K
        · have HF := Lib.hid (HNo.out (by rw [HSt.out, decide_eq_true hK]; rfl))
          have t1 : decide ((0 : Int) < (K : Int)) = true := by simp; omega
          go_wp2
          go_ret
          rw [HF.out]
          exact ⟨rfl, HBV.out.trans (HB4.out.mono HBV.out.size)⟩
        · have HF := Lib.hid (show apTo M (k + 1) = true by rw [HSt.out, decide_eq_false hK]; rfl)
          have t1 : decide ((0 : Int) < (K : Int)) = false := by simp; omega
          go_wp2_with fail
          refine (HOr.out _ _ (HMs.out w4)).mono ?_
          rintro e w5 ⟨rfl, hb5⟩
          have HB5 := Lib.hid (show Below V.heap.size V w5 from (HB4.out.alloc HB4.out.size _).trans (hb5.mono (HB4.out.alloc HB4.out.size _).size))
          have hm5 := HKs.out w5 HB5.out
          have r0 := hm5.cell0
          have r1 := hm5.cell1
          have f0 := hm5.frozen 0
          have f1 := hm5.frozen 1
          have HM5 := Lib.hid hm5
          clear hb5 hm5 y0 y1 y2 y3
          go_wp2
          go_roundw
          case rel =>
            have hbb := HBV.out.trans (HB5.out.mono HBV.out.size)
            refine ⟨k + 1, by omega, by go_num, Lib.hid (MskL.below_set (MskL.below_set hbb _ _ HSs.out) _ _ HSs.out), Lib.hid ?_, HF⟩
            rw [← HS2.out]
            exact (HM5.out.set0 _).set1 _
          case measure => simp [intOf]; omega
    · obtain rfl : k = n := by omega
      have HF := Lib.hid (show R = true by rw [HR.out]; unfold apartB; rw [← HN.out]; exact HAp.out)
      go_wp2
      go_ret
      rw [HF.out]
      exact ⟨rfl, HW.out⟩
end Go.Proofs.YtcekgllahlhaaaaGreatDoor

namespace Go.Proofs.YtcekgllahlhaaaaGreatDoor
open Go.RowKit Go.Shelf
open MskL (Mk Ms mv has mk Fine MRow MBox rightM slotB hasB cnt has_mk mk_congr mk_fine ofM ofE withM withW GivesM GivesME chkM)
set_option linter.unusedVariables false
set_option linter.unusedSimpArgs false
set_option maxRecDepth 100000

/-- Lists in a box. -/
structure LBox (w : World) (g : Nat) (A : Option Addr) (n c : Nat) (B : Option Addr) (m d : Nat) : Prop where
  c0 : w.cell? ⟨g, 0, none⟩ = some (.slice A n c)
  c1 : w.cell? ⟨g, 1, none⟩ = some (.slice B m d)
theorem LBox.lt {w : World} {g n c m d : Nat} {A B : Option Addr} (h : LBox w g A n c B m d) : g < w.heap.size := World.block_lt_of_cell? w _ h.c0
theorem LBox.below {w w' : World} {g n c m d b : Nat} {A B : Option Addr} (h : LBox w g A n c B m d) (hb : Below b w w') (hg : g < b) : LBox w' g A n c B m d := ⟨(hb.cell (p := ⟨g, 0, none⟩) hg).trans h.c0, (hb.cell (p := ⟨g, 1, none⟩) hg).trans h.c1⟩
theorem lbox (w : World) (A : Option Addr) (n c : Nat) (B : Option Addr) (m d : Nat) : LBox (w.alloc (.cells #[.slice A n c, .slice B m d] 37)) w.heap.size A n c B m d ∧ Below w.heap.size w (w.alloc (.cells #[.slice A n c, .slice B m d] 37)) :=
  ⟨⟨cell_laid _ _ _ 0, cell_laid _ _ _ 1⟩, (Below.refl _ w).alloc (Nat.le_refl _) _⟩

set_option maxHeartbeats 1000000 in
theorem checkL_any (A : Option Addr) (c : Nat) (C : List (List Int)) (B : Option Addr) (d : Nat) (M : List Mk) (w : World) (h : Lis w A c C B d M) :
    Calls Tryz.prog 47 #[lv A c C.length B d M.length] w fun e w' => e = .returned (.int .i64 (chkL C M)) ∧ Below w.heap.size w w' := by
  obtain ⟨W0, hW0⟩ : ∃ W0, W0 = w.alloc (.cells #[.slice A C.length c, .slice B M.length d] 37) := ⟨_, rfl⟩
  obtain ⟨hl0, hb0⟩ := lbox w A C.length c B M.length d
  rw [← hW0] at hl0 hb0
  obtain ⟨g, hg⟩ : ∃ g, g = w.heap.size := ⟨_, rfl⟩
  rw [← hg] at hl0
  have HL := Lib.hid (fun (X : World) (hX : Below W0.heap.size W0 X) => hl0.below hX hl0.lt)
  have HCe := Lib.hid (areCen_any A c C W0 (h.cs.below hb0))
  have HAp := Lib.hid (fun (X : World) (hX : Below W0.heap.size W0 X) => apart_any B d M X ((h.ms.below hb0).below hX))
  have HR := Lib.hid (show chkL C M = if (cenB C && decide (M.length = C.length) && apartB M) = true then 0 else 230 from rfl)
  have HB0 := Lib.hid hb0
  have HW0 := Lib.hid hW0
  have HG := Lib.hid hg
  obtain ⟨x0, x1⟩ := hl0
  generalize chkL C M = R at *
  generalize cenB C = P1 at *
  generalize apartB M = P2 at *
  generalize C.length = n at *
  generalize M.length = m at *
  clear h hb0 hW0 hg
  unfold lv
  cases P1 with
  | false =>
    have HF := Lib.hid (show R = 230 by rw [HR.out]; rfl)
    go_enter Tryz.func47, Tryz.ntmps47
    go_wp2_with (rw [← HW0.out, ← HG.out])
    refine HCe.out.mono ?_
    rintro e w1 ⟨rfl, hb1⟩
    have HB1 := Lib.hid (HB0.out.trans (hb1.mono HB0.out.size))
    clear hb1
    go_wp2
    go_ret
    rw [HF.out]
    exact ⟨rfl, HB1.out⟩
  | true =>
    by_cases hl : m = n
    · subst hl
      have HF := Lib.hid (show R = if P2 = true then 0 else 230 by rw [HR.out]; simp)
      cases P2 with
      | true =>
        have HF := Lib.hid (show R = 0 by rw [HF.out]; rfl)
        go_enter Tryz.func47, Tryz.ntmps47
        go_wp2_with (rw [← HW0.out, ← HG.out])
        refine HCe.out.mono ?_
        rintro e w1 ⟨rfl, hb1⟩
        have HB1 := Lib.hid hb1
        obtain ⟨z0, z1⟩ := HL.out w1 hb1
        clear hb1 x0 x1
        go_wp2_with fail
        refine (HAp.out w1 HB1.out).mono ?_
        rintro e w2 ⟨rfl, hb2⟩
        have HB2 := Lib.hid (HB0.out.trans ((HB1.out.trans (hb2.mono HB1.out.size)).mono HB0.out.size))
        clear hb2
        go_wp2
        go_ret
        rw [HF.out]
        exact ⟨rfl, HB2.out⟩
      | false =>
        have HF := Lib.hid (show R = 230 by rw [HF.out]; rfl)
        go_enter Tryz.func47, Tryz.ntmps47
        go_wp2_with (rw [← HW0.out, ← HG.out])
        refine HCe.out.mono ?_
        rintro e w1 ⟨rfl, hb1⟩
        have HB1 := Lib.hid hb1
        obtain ⟨z0, z1⟩ := HL.out w1 hb1
        clear hb1 x0 x1
        go_wp2_with fail
        refine (HAp.out w1 HB1.out).mono ?_
        rintro e w2 ⟨rfl, hb2⟩
        have HB2 := Lib.hid (HB0.out.trans ((HB1.out.trans (hb2.mono HB1.out.size)).mono HB0.out.size))
        clear hb2
        go_wp2
        go_ret
        rw [HF.out]
        exact ⟨rfl, HB2.out⟩
    · have HF := Lib.hid (show R = 230 by rw [HR.out, decide_eq_false hl]; rfl)
      have t1 : ((m : Int) == (n : Int)) = false := by simp; omega
      have t2 : ((m : Int) != (n : Int)) = true := by simp; omega
      have t3 : (m == n) = false := by simpa using hl
      clear hl
      go_enter Tryz.func47, Tryz.ntmps47
      go_wp2_with (rw [← HW0.out, ← HG.out])
      refine HCe.out.mono ?_
      rintro e w1 ⟨rfl, hb1⟩
      have HB1 := Lib.hid (HB0.out.trans (hb1.mono HB0.out.size))
      obtain ⟨z0, z1⟩ := HL.out w1 hb1
      clear hb1 x0 x1
      go_wp2
      go_ret
      rw [HF.out]
      exact ⟨rfl, HB1.out⟩

end Go.Proofs.YtcekgllahlhaaaaGreatDoor

namespace Go.Proofs.YtcekgllahlhaaaaGreatDoor
open Go.RowKit Go.Shelf
open MskL (Mk Ms mv has mk Fine MRow MBox rightM slotB hasB cnt has_mk mk_congr mk_fine ofM ofE withM withW GivesM GivesME chkM)
set_option linter.unusedVariables false
set_option linter.unusedSimpArgs false
set_option maxRecDepth 100000
attribute [local go_sem] Oper.semAt_some

/-- The places below k of the masks that have the slot. -/
def selW (M : List Mk) (s : Int) (k : Nat) : List Nat := (List.range k).filter fun j => hasB (M.getD j mz) s
theorem selW_yes {M : List Mk} {s : Int} {k : Nat} {m : Mk} (h : M[k]? = some m) (hs : hasB m s = true) : selW M s (k + 1) = selW M s k ++ [k] := by
  unfold selW
  rw [List.range_succ, List.filter_append]
  simp [-List.getD_eq_getElem?_getD, mgetD h, hs]
theorem selW_no {M : List Mk} {s : Int} {k : Nat} {m : Mk} (h : M[k]? = some m) (hs : hasB m s = false) : selW M s (k + 1) = selW M s k := by
  unfold selW
  rw [List.range_succ, List.filter_append]
  simp [-List.getD_eq_getElem?_getD, mgetD h, hs]
theorem selW_none {M : List Mk} {s : Int} {k : Nat} (h : selW M s k = []) {j : Nat} (hj : j < k) : hasB (M.getD j mz) s = false := by
  cases h1 : hasB (M.getD j mz) s with
  | false => rfl
  | true =>
    have : j ∈ selW M s k := by unfold selW; rw [List.mem_filter]; exact ⟨List.mem_range.2 hj, h1⟩
    rw [h] at this
    cases this
theorem where_at {M : List Mk} {s : Int} {k : Nat} {m : Mk} (h : M[k]? = some m) (hs : hasB m s = true) (h0 : selW M s k = []) : whereK M s = k := by
  unfold whereK
  rw [NoneK.at_ (fun j u hj hu => by have := selW_none h0 hj; rw [mgetD hu] at this; exact this) h hs]
  rfl
theorem where_none {M : List Mk} {s : Int} (h0 : selW M s M.length = []) : whereK M s = -1 := by
  unfold whereK
  rw [NoneK.all (fun j u hj hu => by have := selW_none h0 hj; rw [mgetD hu] at this; exact this)]
  rfl

/-- What a round keeps: all cells. -/
def KpC (_ : Nat) (W W' : World) : Prop := W.heap.size ≤ W'.heap.size ∧ ∀ (k : Nat) (o : Obj), W.heap[k]? = some o → o.isCells = true → W'.heap[k]? = some o
theorem KpC.refl (B : Nat) (W : World) : KpC B W W := ⟨Nat.le_refl _, fun _ _ h _ => h⟩
theorem KpC.trans {B : Nat} {X Y Z : World} (h : KpC B X Y) (k : KpC B Y Z) : KpC B X Z := ⟨Nat.le_trans h.1 k.1, fun i o ho hc => k.2 i o (h.2 i o ho hc) hc⟩
theorem KpC.put {B : Nat} {W : World} {k : Nat} {o o' : Obj} (hk : W.heap[k]? = some o) (ho : o.isCells = false) : KpC B W (W.putObj k o') := ⟨by simp [World.putObj], fun i o2 hi hc => put_other hk ho hi hc⟩
theorem KpC.below {B : Nat} {W W' : World} (hb : Below W.heap.size W W') : KpC B W W' := ⟨hb.size, fun i o ho _ => (hb.block i (lt_of_block ho)).trans ho⟩
theorem KpC.cell {B : Nat} {W W' : World} (h : KpC B W W') {p : Addr} {v : Value} (hv : W.cell? p = some v) : W'.cell? p = some v := by
  obtain ⟨b, i, s⟩ := p
  have hb : ∃ o, W.heap[b]? = some o ∧ o.isCells = true := by
    unfold World.cell? at hv
    cases ho : W.heap[b]? with
    | none => simp [ho] at hv
    | some o => cases o <;> simp_all [Obj.isCells]
  obtain ⟨o, ho, hc⟩ := hb
  exact (World.cell?_of_block (a := ⟨b, i, s⟩) ((h.2 b o ho hc).trans ho.symm)).trans hv
theorem Ms.kept {B : Nat} {w w' : World} {A : Option Addr} {c : Nat} {l : List Mk} (h : Ms w A c l) (hk : KpC B w w') : Ms w' A c l := by
  refine ⟨h.room, h.most, fun hp => ?_, h.fine⟩
  obtain ⟨b, o, e, hlt, hc⟩ := h.rd hp
  exact ⟨b, o, e, Nat.lt_of_lt_of_le hlt hk.1, fun j m hm => ⟨hk.cell (p := ⟨b, o + j * 2, none⟩) (hc j m hm).1, hk.cell (p := ⟨b, o + j * 2 + 1, none⟩) (hc j m hm).2⟩⟩
def encW (x : Nat) : Array Value := #[.int .i64 x]
def NxW (M : List Mk) (s : Int) (pre : List Nat) (x : Nat) : Prop := (∃ m, M[x]? = some m ∧ hasB m s = true) ∧ pre = selW M s x

end Go.Proofs.YtcekgllahlhaaaaGreatDoor

namespace Go.Proofs.YtcekgllahlhaaaaGreatDoor
open Go.RowKit Go.Shelf
open MskL (Mk Ms mv has mk Fine MRow MBox rightM slotB hasB cnt has_mk mk_congr mk_fine ofM ofE withM withW GivesM GivesME chkM region_rel3 relOf Rk fillR dep_of)
set_option linter.unusedVariables false
set_option linter.unusedSimpArgs false
set_option maxRecDepth 100000

theorem LBox.set {w : World} {g n c m d s i : Nat} {A B : Option Addr} {v : Value} (h : LBox w g A n c B m d) (hg : g ≠ s) : LBox (w.setCell ⟨s, i, none⟩ v) g A n c B m d :=
  ⟨(World.cell?_of_block (a := ⟨g, 0, none⟩) (Below.heap_setCell _ _ _ _ hg)).trans h.c0, (World.cell?_of_block (a := ⟨g, 1, none⟩) (Below.heap_setCell _ _ _ _ hg)).trans h.c1⟩
theorem union_step {M : List Mk} {ps : List Int} {k j : Nat} {m : Mk} (hp : ps[k]? = some (j : Int)) (hm : M[j]? = some m) : mk (fun n => [unionM M (ps.take k), m].any fun x => has x n) = unionM M (ps.take (k + 1)) := by
  unfold unionM
  rw [List.take_add_one, hp]
  exact mk_congr (fun n hn => by simp [-List.getD_eq_getElem?_getD, has_mk, hn, mgetD hm])
theorem union_nil (M : List Mk) : unionM M [] = mz := by unfold unionM; exact MskL.mk_none _ (by simp)
theorem inB_yes {n : Nat} {p : Int} (h : inB n p = true) : ∃ j : Nat, p = (j : Int) ∧ j < n := by
  unfold inB at h
  simp at h
  obtain ⟨j, rfl⟩ := Int.eq_ofNat_of_zero_le h.1
  exact ⟨j, rfl, by omega⟩

set_option maxHeartbeats 8000000 in
theorem union_any (A : Option Addr) (c : Nat) (C : List (List Int)) (B : Option Addr) (d : Nat) (M : List Mk) (Pa : Option Addr) (e : Nat) (ps : List Int) (w : World) (h : Lis w A c C B d M) (hp : Vec .i64 w Pa e ps) :
    Calls Tryz.prog 49 #[lv A c C.length B d M.length, .slice Pa ps.length e] w (GivesME w (unionR C M ps) (unionE C M ps)) := by
  obtain ⟨g, hg⟩ : ∃ g, g = w.heap.size := ⟨_, rfl⟩
  obtain ⟨n, hn⟩ : ∃ n, n = C.length := ⟨_, rfl⟩
  obtain ⟨m, hm⟩ : ∃ m, m = M.length := ⟨_, rfl⟩
  obtain ⟨q, hq⟩ : ∃ q, q = ps.length := ⟨_, rfl⟩
  have hqm : (q : Int) ≤ 9223372036854775807 := by have := hp.room; have := hp.most; omega
  have hqe : q ≤ e := by have := hp.room; omega
  have hem : (e : Int) ≤ 9223372036854775807 := by have := hp.most; omega
  have hmd : m ≤ d := by rw [hm]; exact h.ms.room
  have hmm : (m : Int) ≤ 9223372036854775807 := by have := h.ms.room; have := h.ms.most; omega
  obtain ⟨W0, hW0⟩ : ∃ W0, W0 = (w.alloc (.cells #[.slice A n c, .slice B m d] 37)).alloc (.cells #[.int .u64 (0 : Nat), .int .u64 (0 : Nat)] 70) := ⟨_, rfl⟩
  have hb0 : Below w.heap.size w W0 := by rw [hW0]; exact ((Below.refl _ w).alloc (Nat.le_refl _) _).alloc (by simp) _
  have hl0 : LBox W0 g A n c B m d := by rw [hW0, hg]; exact (lbox w A n c B m d).1.below ((Below.refl _ _).alloc (Nat.le_refl _) _) (by simp)
  have hr0 : MRow W0 (g + 1) 0 0 := by
    rw [hW0, hg]; have := MRow.new (w.alloc (.cells #[.slice A n c, .slice B m d] 37)) 0 0
    rwa [World.size_alloc] at this
  have HCk := Lib.hid (checkL_any A c C B d M W0 (h.below hb0))
  rw [← hn, ← hm] at HCk
  have HMs := Lib.hid h.ms
  have HP := Lib.hid hp
  have HM := Lib.hid hm
  have HQ := Lib.hid hq
  have HG := Lib.hid hg
  have HB0 := Lib.hid hb0
  have HK0 := Lib.hid (fun (X : World) (hX : Below W0.heap.size W0 X) => And.intro (hl0.below hX hl0.lt) (hr0.below hX hr0.lt))
  have HW0 := Lib.hid hW0
  have HOk := Lib.hid (show chkL C M = if okB C M = true then 0 else 230 from rfl)
  have HUE := Lib.hid (show unionE C M ps = if okB C M = true then (if ps.all (inB M.length) = true then 0 else 2) else 230 from rfl)
  have HUR := Lib.hid (show unionR C M ps = if unionE C M ps = 0 then unionM M ps else mz from rfl)
  obtain ⟨UE, hUE⟩ : ∃ U, U = unionE C M ps := ⟨_, rfl⟩
  obtain ⟨UR, hUR⟩ : ∃ U, U = unionR C M ps := ⟨_, rfl⟩
  rw [← hUE] at HUE HUR ⊢
  rw [← hUR] at HUR ⊢
  rw [← hn, ← hm, ← hq]
  generalize chkL C M = E at *
  generalize okB C M = K at *
  obtain ⟨y0, y1⟩ := hl0
  have z0 := hr0.cell0
  have z1 := hr0.cell1
  clear h hp hg hn hm hq hb0 hr0 hW0 hUE hUR
  unfold lv at *
  cases K with
  | false =>
    have HE := Lib.hid (show E = 230 by rw [HOk.out]; rfl)
    have HF := Lib.hid (show UE = 230 ∧ UR = mz by
      have h1 : UE = 230 := by rw [HUE.out]; rfl
      exact ⟨h1, by rw [HUR.out, h1]; rfl⟩)
    rw [HE.out] at HCk
    go_enter Tryz.func49, Tryz.ntmps49
    go_wp2_with (rw [show (w.alloc (.cells #[.slice A n c, .slice B m d] 37)).alloc (.cells #[.int .u64 0, .int .u64 0] 70) = W0 from HW0.out.symm, ← HG.out])
    refine HCk.out.mono ?_
    rintro e w1 ⟨rfl, hb1⟩
    have hr1 := (HK0.out w1 hb1).2
    have r0 := hr1.cell0
    have r1 := hr1.cell1
    have f0 := hr1.frozen 0
    have f1 := hr1.frozen 1
    obtain ⟨u0, u1, hbZ⟩ := MskL.res2 0 0 hr1 (HB0.out.trans (hb1.mono HB0.out.size)) (by rw [HG.out]; omega)
    have HBZ := Lib.hid hbZ
    clear hr1 hb1 hbZ y0 y1 z0 z1
    go_wp2
    refine bodyPost_ret (v := .tuple #[.agg #[.int .u64 (0 : Nat), .int .u64 (0 : Nat)], .int .i64 230]) (by simp [results, Tryz.results49, go_sem] at u0 u1 ⊢; simp [u0, u1]) rfl ?_
    rw [HF.out.1, HF.out.2]
    exact ⟨rfl, HBZ.out⟩
  | true =>
    have HE := Lib.hid (show E = 0 by rw [HOk.out]; rfl)
    have HUE2 := Lib.hid (show UE = if ps.all (inB m) = true then 0 else 2 by rw [HUE.out, HM.out]; rfl)
    rw [HE.out] at HCk
    have HOr0 := Lib.hid (fun (W : World) => show Calls Tryz.prog 44 #[.slice none 0 0] W (fun e w' => e = .returned (.agg #[.int .u64 (unionM M (ps.take 0)).1, .int .u64 (unionM M (ps.take 0)).2]) ∧ Below W.heap.size W w') from by
      have := MskL.or_any none 0 [] W (Ms.nil W)
      unfold GivesM at this
      rw [show mk (fun n => ([] : List Mk).any fun m => has m n) = unionM M (ps.take 0) from by rw [List.take_zero, union_nil]; exact MskL.mk_none _ (by simp)] at this
      exact this)
    obtain ⟨S0, hS0⟩ : ∃ S, S = unionM M (ps.take 0) := ⟨_, rfl⟩
    rw [← hS0] at HOr0
    have HS0 := Lib.hid hS0
    clear hS0
    go_enter Tryz.func49, Tryz.ntmps49
    go_wp2_with (rw [show (w.alloc (.cells #[.slice A n c, .slice B m d] 37)).alloc (.cells #[.int .u64 0, .int .u64 0] 70) = W0 from HW0.out.symm, ← HG.out])
    refine HCk.out.mono ?_
    rintro e' w1 ⟨rfl, hb1⟩
    have HB1 := Lib.hid hb1
    clear hb1 y0 y1 z0 z1
    go_wp2_with fail
    refine (HOr0.out w1).mono ?_
    rintro e' w2 ⟨rfl, hb2⟩
    have hb12 := HB1.out.trans (hb2.mono HB1.out.size)
    obtain ⟨s, hs⟩ : ∃ s, s = w2.heap.size := ⟨_, rfl⟩
    obtain ⟨V1, hV1⟩ : ∃ V1, V1 = w2.alloc (.cells #[.int .u64 S0.1, .int .u64 S0.2] 70) := ⟨_, rfl⟩
    have hbV1 : Below W0.heap.size W0 V1 := by rw [hV1]; exact hb12.alloc hb12.size _
    have HBV := Lib.hid (HB0.out.trans (hbV1.mono HB0.out.size))
    have HX1 := Lib.hid (show MRow V1 s (unionM M (ps.take 0)).1 (unionM M (ps.take 0)).2 by rw [hV1, hs, ← HS0.out]; exact MRow.new w2 S0.1 S0.2)
    have HLV := Lib.hid (HK0.out V1 hbV1)
    have HGs := Lib.hid (show g + 1 < s by have := (HK0.out W0 (Below.refl _ _)).2.lt; rw [hs]; exact Nat.lt_of_lt_of_le this hb12.size)
    have HV1 := Lib.hid hV1
    have HsE := Lib.hid hs
    clear hb2 hb12 hV1 hs hbV1
    go_wp2_with (rw [← HV1.out, ← HsE.out])
    go_loopw [9, 19] (fun v i wr => ∃ k : Nat, k ≤ q ∧ i = .int .i64 k ∧ Hid (Below w.heap.size w wr) ∧ Hid (MRow wr s (unionM M (ps.take k)).1 (unionM M (ps.take k)).2) ∧ Hid (LBox wr g A n c B m d ∧ MRow wr (g + 1) 0 0) ∧ Hid ((ps.take k).all (inB m) = true)) (fun _ i _ => q - (intOf i).toNat)
    case atStart => exact ⟨0, Nat.zero_le _, rfl, HBV, HX1, HLV, Lib.hid rfl⟩
    case round =>
      obtain ⟨k, hk, rfl, HW, HX, HL, HA⟩ := hrel
      by_cases hkq : k < q
      · obtain ⟨b, o, rfl, hb, hcell⟩ := (HP.out.below HW.out).at_ (j := k) (by rw [← HQ.out]; exact hkq)
        obtain ⟨x, hx⟩ : ∃ x, ps[k]? = some x := ⟨_, List.getElem?_eq_getElem (by rw [← HQ.out]; exact hkq)⟩
        have hxg : ps.getD k 0 = x := by simp [List.getD, hx]
        rw [hxg] at hcell
        have k0 : (0 : Int) ≤ k := by omega
        have kq : (k : Int) < q := by omega
        obtain ⟨y0, y1⟩ := HL.out.1
        have HX0 := Lib.hid hx
        cases hin : inB m x with
        | false =>
          have HF := Lib.hid (show UE = 2 ∧ UR = mz by
            have h1 : UE = 2 := by rw [HUE2.out, all_no (inB m) ps hx hin]; rfl
            exact ⟨h1, by rw [HUR.out, h1]; rfl⟩)
          have hr1 := HL.out.2
          have r0 := hr1.cell0
          have r1 := hr1.cell1
          have f0 := hr1.frozen 0
          have f1 := hr1.frozen 1
          obtain ⟨u0, u1, hbZ⟩ := MskL.res2 0 0 hr1 HW.out (by rw [HG.out]; omega)
          have HBZ := Lib.hid hbZ
          clear hxg hx hr1 hbZ
          by_cases hx0 : x < 0
          · have t1 : decide (x < 0) = true := by simpa using hx0
            clear hin hx0
            go_wp2
            refine bodyPost_ret (v := .tuple #[.agg #[.int .u64 (0 : Nat), .int .u64 (0 : Nat)], .int .i64 2]) (by simp [results, Tryz.results49, go_sem] at u0 u1 ⊢; simp [u0, u1]) rfl ?_
            rw [HF.out.1, HF.out.2]
            exact ⟨rfl, HBZ.out⟩
          · have t1 : decide (x < 0) = false := by simpa using hx0
            have t2 : decide ((m : Int) ≤ x) = true := by unfold inB at hin; simp at hin ⊢; omega
            clear hin
            go_wp2
            refine bodyPost_ret (v := .tuple #[.agg #[.int .u64 (0 : Nat), .int .u64 (0 : Nat)], .int .i64 2]) (by simp [results, Tryz.results49, go_sem] at u0 u1 ⊢; simp [u0, u1]) rfl ?_
            rw [HF.out.1, HF.out.2]
            exact ⟨rfl, HBZ.out⟩
        | true =>
          have HAl := Lib.hid (show (ps.take (k + 1)).all (inB m) = true by rw [all_take_snoc (inB m) ps hx, HA.out, hin]; rfl)
          obtain ⟨j, rfl, hj⟩ := inB_yes hin
          have j0 : (0 : Int) ≤ j := by omega
          have jm : (j : Int) < m := by omega
          have t1 : decide ((j : Int) < 0) = false := by simp
          have t2 : decide ((m : Int) ≤ (j : Int)) = false := by simp; omega
          obtain ⟨b2, o2, mx, my, rfl, hb2, hm2, hx1, hx2, d0, d1⟩ := (HMs.out.below HW.out).at_ (k := j) (by rw [← HM.out]; exact hj)
          obtain ⟨S, hS⟩ : ∃ S, S = unionM M (ps.take k) := ⟨_, rfl⟩
          obtain ⟨S2, hS2⟩ : ∃ S2, S2 = unionM M (ps.take (k + 1)) := ⟨_, rfl⟩
          have hXs : MRow wr s S.1 S.2 := by rw [hS]; exact HX.out
          have HXs := Lib.hid (fun (X : World) (hX : Below wr.heap.size wr X) => hXs.below hX hXs.lt)
          have HLs := Lib.hid (fun (X : World) (hX : Below wr.heap.size wr X) => And.intro (HL.out.1.below hX HL.out.1.lt) (HL.out.2.below hX HL.out.2.lt))
          have HK := Lib.hid (fun (X : World) (hX : Below wr.heap.size wr X) => show ((X.cell? ⟨s, 0, none⟩ = some (.int .u64 S.1) ∧ X.cell? ⟨s, 1, none⟩ = some (.int .u64 S.2)) ∧ (X.cell? ⟨b2, o2 + j * 2, none⟩ = some (.int .u64 mx) ∧ X.cell? ⟨b2, o2 + j * 2 + 1, none⟩ = some (.int .u64 my))) ∧ X.cell? ⟨g, 1, none⟩ = some (.slice (some ⟨b2, o2, none⟩) m d) from
            ⟨⟨⟨(hXs.below hX hXs.lt).cell0, (hXs.below hX hXs.lt).cell1⟩, ⟨(hX.cell (p := ⟨b2, o2 + j * 2, none⟩) hb2).trans d0, (hX.cell (p := ⟨b2, o2 + j * 2 + 1, none⟩) hb2).trans d1⟩⟩, (HLs.out X hX).1.c1⟩)
          have HMt := Lib.hid (fun (W : World) => MskL.Ms.two W S (mx, my) (by rw [hS]; exact mk_fine _) ⟨hx1, hx2⟩)
          dsimp only at HMt
          have HOr := Lib.hid (fun (W : World) (A : Option Addr) (hA : Ms W A 2 [S, (mx, my)]) => show Calls Tryz.prog 44 #[.slice A 2 2] W (fun e w' => e = .returned (.agg #[.int .u64 S2.1, .int .u64 S2.2]) ∧ Below W.heap.size W w') from by
            have := MskL.or_any A 2 [S, (mx, my)] W hA
            unfold GivesM at this
            rw [hS2, ← union_step hx hm2, ← hS]
            exact this)
          have HS2 := Lib.hid hS2
          clear hxg hx hS hS2 hXs hin hb hb2 hm2 hx1 hx2 d0 d1 HX HX0
          go_upto_region 10 with fail
          refine region_rel3 (fun X => Below wr.heap.size wr X) [.v (.agg #[.int .u64 S.1, .int .u64 S.2]), .v (.pointer (some ⟨g, 1, none⟩)), .v (.slice (some ⟨b2, o2, none⟩) m d), .v (.int .i64 j), .v (.pointer (some ⟨b2, o2 + j * 2, none⟩)), .v (.agg #[.int .u64 mx, .int .u64 my]), .m 2 [S, (mx, my)], .v (.agg #[.int .u64 S2.1, .int .u64 S2.2]), .u] 8 1
            (by kernel_rfl) (below_drew (Below.refl _ _)) rfl (by decide) (by kernel_rfl) (by kernel_rfl) (by kernel_rfl) (by kernel_rfl) (by kernel_rfl) ?_ ?_
          · refine ⟨?_, ?_, ?_, ?_, ?_, ?_, ?_, ?_, trivial⟩
            · intro f w hw hd
              obtain ⟨⟨⟨z0, z1⟩, ⟨z2, z3⟩⟩, z4⟩ := HK.out w hw
              simp [fillR, Act.put, go_sem, relOf, Rk.sat, hw, Below.refl, z0, z1]
            · intro f w hw hd
              simp [fillR, Act.put, go_sem, relOf, Rk.sat, hw, Below.refl]
            · intro f w hw hd
              obtain ⟨⟨⟨z0, z1⟩, ⟨z2, z3⟩⟩, z4⟩ := HK.out w hw
              have e1 : f 1 = .pointer (some ⟨g, 1, none⟩) := dep_of hd 1 (by kernel_rfl)
              simp [fillR, Act.put, go_sem, relOf, Rk.sat, hw, Below.refl, e1, z4]
            · intro f w hw hd
              simp [fillR, Act.put, go_sem, relOf, Rk.sat, hw, Below.refl]
            · intro f w hw hd
              have e2 : f 2 = .slice (some ⟨b2, o2, none⟩) m d := dep_of hd 2 (by kernel_rfl)
              have e3 : f 3 = .int .i64 j := dep_of hd 3 (by kernel_rfl)
              simp [fillR, Act.put, go_sem, relOf, Rk.sat, hw, Below.refl, e2, e3, j0, jm, hj]
            · intro f w hw hd
              obtain ⟨⟨⟨z0, z1⟩, ⟨z2, z3⟩⟩, z4⟩ := HK.out w hw
              have e4 : f 4 = .pointer (some ⟨b2, o2 + j * 2, none⟩) := dep_of hd 4 (by kernel_rfl)
              simp [fillR, Act.put, go_sem, relOf, Rk.sat, hw, Below.refl, e4, z2, z3]
            · intro f w hw hd
              have e0 : f 0 = .agg #[.int .u64 S.1, .int .u64 S.2] := dep_of hd 0 (by kernel_rfl)
              have e5 : f 5 = .agg #[.int .u64 mx, .int .u64 my] := dep_of hd 5 (by kernel_rfl)
              simp [fillR, Act.put, go_sem, relOf, Rk.sat, hw, Below.refl, e0, e5]
              exact ⟨HMt.out w, hw.alloc hw.size _, (Below.refl _ _).alloc (Nat.le_refl _) _⟩
            · intro f w hw hd
              obtain ⟨g6, e6, ms6⟩ : ∃ g, f 6 = .slice (some ⟨g, 0, none⟩) 2 2 ∧ Ms w (some ⟨g, 0, none⟩) 2 [S, (mx, my)] := dep_of hd 6 (by kernel_rfl)
              simp [fillR, Act.put, go_sem, relOf, Rk.sat, hw, Below.refl, e6]
              refine (HOr.out w _ ms6).mono ?_
              rintro e w2 ⟨rfl, hb⟩
              simp
              exact ⟨hw.trans (hb.mono hw.size), hb⟩
          intro f w4 hw hr
          have e7 : f 7 = .agg #[.int .u64 S2.1, .int .u64 S2.2] := hr 7 (by simp)
          have hm5 := HXs.out w4 hw
          have r0 := hm5.cell0
          have r1 := hm5.cell1
          have f0 := hm5.frozen 0
          have f1 := hm5.frozen 1
          have HM5 := Lib.hid hm5
          have HL5 := Lib.hid (HLs.out w4 hw)
          have HB5 := Lib.hid (HW.out.trans (hw.mono HW.out.size))
          clear hm5 hw hr y0 y1
          simp [fillR, Act.put, e7, List.range_succ, wpOps_cons, wpOp, Region.wanted, Oper.wp, go_sem, r0, r1, f0, f1]
          refine .inl ?_
          simp only [wpOps]
          clear r0 r1 f0 f1 e7
          go_wp2
          go_roundw
          case rel =>
            have hgs := HGs.out
            refine ⟨k + 1, by omega, by go_num, Lib.hid (MskL.below_set (MskL.below_set HB5.out _ _ (by show w.heap.size ≤ s; rw [← HG.out]; omega)) _ _ (by show w.heap.size ≤ s; rw [← HG.out]; omega)), Lib.hid ?_, Lib.hid ⟨(HL5.out.1.set (by omega)).set (by omega), (HL5.out.2.other _ _ (by simp; omega)).other _ _ (by simp; omega)⟩, HAl⟩
            rw [← HS2.out]
            exact (HM5.out.set0 _).set1 _
          case measure => simp [intOf]; omega
      · obtain rfl : k = q := by omega
        have hall : ps.take k = ps := by rw [HQ.out, List.take_length]
        have hE : UE = 0 := by have := HA.out; rw [hall] at this; rw [HUE2.out, this]; rfl
        have HF := Lib.hid (show UE = 0 ∧ UR = unionM M ps from ⟨hE, by rw [HUR.out, hE]; rfl⟩)
        have hm := HX.out
        rw [hall] at hm
        obtain ⟨U, hU⟩ : ∃ U, U = unionM M ps := ⟨_, rfl⟩
        rw [← hU] at hm
        have HU := Lib.hid hU
        obtain ⟨⟨c0, c1, f0, f1⟩, e0', e1', hbE⟩ := MskL.mask_end (M := U) HL.out.2 HW.out (by rw [HG.out]; omega)
        have m0 := hm.cell0
        have m1 := hm.cell1
        have HBE := Lib.hid hbE
        clear hbE hm hall hE hU
        go_wp2
        refine bodyPost_ret (v := .tuple #[.agg #[.int .u64 U.1, .int .u64 U.2], .int .i64 0]) (by simp [results, Tryz.results49, go_sem, e0', e1']) rfl ?_
        rw [HF.out.1, HF.out.2, ← HU.out]
        exact ⟨rfl, HBE.out⟩
end Go.Proofs.YtcekgllahlhaaaaGreatDoor

namespace Go.Proofs.YtcekgllahlhaaaaGreatDoor
open Go.RowKit Go.Shelf
open MskL (Mk Ms mv has mk Fine MRow MBox rightM slotB hasB cnt has_mk mk_congr mk_fine ofM ofE withM withW GivesM GivesME chkM hasI)
set_option linter.unusedVariables false
set_option linter.unusedSimpArgs false
set_option maxRecDepth 100000

theorem hasI_nat (m : Mk) (u : Nat) (hu : u < 96) : hasI m u = has m u := by
  have h1 : slotB (u : Int) = true := by unfold slotB; simp; omega
  unfold hasI
  rw [h1, Int.toNat_natCast, Bool.true_and]
/-- Two masks have no slot in common below u. -/
def noMeet (a b : Mk) (u : Nat) : Prop := ∀ v, v < u → ¬ (has a v = true ∧ has b v = true)
theorem noMeet_all {a b : Mk} (h : noMeet a b 96) : meet a b = false := by
  cases hm : meet a b with
  | false => rfl
  | true =>
    obtain ⟨s, h1, h2⟩ := (meet_iff a b).1 hm
    exact absurd ⟨h1, h2⟩ (h s (MskL.has_lt h1))

end Go.Proofs.YtcekgllahlhaaaaGreatDoor
