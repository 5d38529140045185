/-
  FlaBase, FlaHit, FlaRows, FlaSeq, FlaScan, FlaFind, FlaVis, FlaRef.
-/
import Derived.Test.YtcekgllahlhaaaaGreatDoorMAre
import Derived.Test.YtcekgllahlhaaaaGreatDoorMTop
import Derived.Deep.RegionHeld3
import Derived.Test.YtcekgllahlhaaaaGreatDoorMMsk
namespace Go.Proofs.YtcekgllahlhaaaaGreatDoor
open Go.RowKit Go.Shelf
open TopL (HitM z2 flat flat_length flat_append flat_cons flat_get flat_cell firstM Hits isKM)
set_option linter.unusedVariables false
set_option linter.unusedSimpArgs false
set_option maxRecDepth 100000

/-- A row, and where its vector lies. -/
structure Pr where
  i : Int
  x : List Int
  B : Option Addr
  c : Nat
/-- A row as a value. -/
abbrev Rv := Int × List Int
def rvs (q : List Pr) : List Rv := q.map fun p => (p.i, p.x)
theorem rvs_length (q : List Pr) : (rvs q).length = q.length := by simp [rvs]
theorem rvs_append (q r : List Pr) : rvs (q ++ r) = rvs q ++ rvs r := by simp [rvs]
theorem rvs_take (q : List Pr) (k : Nat) : rvs (q.take k) = (rvs q).take k := by simp [rvs, List.map_take]

structure Rws (w : World) (A : Option Addr) (c : Nat) (q : List Pr) : Prop where
  room : q.length ≤ c
  most : c ≤ 9223372036854775807
  rd : 0 < q.length → ∃ b o, A = some ⟨b, o, none⟩ ∧ b < w.heap.size ∧ ∀ i p, q[i]? = some p → w.cell? ⟨b, o + i * 2, none⟩ = some (.int .u64 p.i) ∧ w.cell? ⟨b, o + i * 2 + 1, none⟩ = some (.slice p.B p.x.length p.c)
  el : ∀ p ∈ q, Vec .i32 w p.B p.c p.x
  fit : ∀ p ∈ q, U64s p.i

section
variable {w w' : World} {A : Option Addr} {c : Nat} {q : List Pr}
theorem Rws.keep (h : Rws w A c q) (hs : w.heap.size ≤ w'.heap.size) (hk : ∀ p : Addr, p.block < w.heap.size → w'.cell? p = w.cell? p) : Rws w' A c q := by
  refine ⟨h.room, h.most, fun hp => ?_, fun p hp => (h.el p hp).keep hs hk, h.fit⟩
  obtain ⟨b, o, e, hb, hc⟩ := h.rd hp
  refine ⟨b, o, e, by omega, fun i p hi => ?_⟩
  obtain ⟨h0, h1⟩ := hc i p hi
  exact ⟨(hk _ hb).trans h0, (hk _ hb).trans h1⟩
theorem Rws.below (h : Rws w A c q) (hb : Below w.heap.size w w') : Rws w' A c q := h.keep hb.size fun _ hp => hb.cell hp
theorem Rws.drew (h : Rws w A c q) : Rws w.drew A c q := h.keep (Nat.le_refl _) fun _ _ => rfl
theorem Rws.drewN (h : Rws w A c q) (n : Nat) : Rws (w.drewN n) A c q := h.keep (Nat.le_refl _) fun _ _ => rfl
theorem Rws.at_ (h : Rws w A c q) {i : Nat} (hi : i < q.length) : ∃ b o p, A = some ⟨b, o, none⟩ ∧ q[i]? = some p ∧ b < w.heap.size ∧ w.cell? ⟨b, o + i * 2, none⟩ = some (.int .u64 p.i) ∧ w.cell? ⟨b, o + i * 2 + 1, none⟩ = some (.slice p.B p.x.length p.c) ∧ Vec .i32 w p.B p.c p.x ∧ U64s p.i := by
  obtain ⟨b, o, e, hb, hc⟩ := h.rd (by omega)
  have hp := List.getElem?_eq_getElem hi
  obtain ⟨h0, h1⟩ := hc i _ hp
  have hm := List.getElem_mem hi
  exact ⟨b, o, _, e, hp, hb, h0, h1, h.el _ hm, h.fit _ hm⟩
theorem Rws.nil (w : World) : Rws w none 0 [] := ⟨by simp, by omega, fun h => absurd h (by simp), by simp, by simp⟩
theorem Rws.many (h : Rws w A c q) : q.length ≤ 9223372036854775807 := Nat.le_trans h.room h.most
end

/-- The cells of rows, one behind the other. -/
def flatR (q : List Pr) : List Value := q.flatMap fun p => [.int .u64 p.i, .slice p.B p.x.length p.c]
theorem flatR_length (q : List Pr) : (flatR q).length = q.length * 2 := by
  induction q with
  | nil => rfl
  | cons x q ih => show (flatR q).length + 1 + 1 = (q.length + 1) * 2; omega
theorem flatR_append (q r : List Pr) : flatR (q ++ r) = flatR q ++ flatR r := by simp [flatR]
theorem flatR_cons (x : Pr) (q : List Pr) : flatR (x :: q) = .int .u64 x.i :: .slice x.B x.x.length x.c :: flatR q := rfl
theorem flatR_get (q : List Pr) (i : Nat) (p : Pr) (h : q[i]? = some p) : (flatR q)[i * 2]? = some (.int .u64 p.i) ∧ (flatR q)[i * 2 + 1]? = some (.slice p.B p.x.length p.c) := by
  induction q generalizing i with
  | nil => simp at h
  | cons x q ih =>
    rw [flatR_cons]
    cases i with
    | zero => simp at h; subst h; simp
    | succ i =>
      have := ih i (by simpa using h)
      rw [show (i + 1) * 2 = i * 2 + 1 + 1 by omega]
      simpa using this
theorem flatR_cell (q : List Pr) : ∀ u ∈ flatR q, u.oneCell' = true := by
  intro u hu
  unfold flatR at hu
  rw [List.mem_flatMap] at hu
  obtain ⟨h, _, hu⟩ := hu
  simp at hu
  rcases hu with rfl | rfl <;> rfl

/-- Rows of the call's own, whose vectors may be another's. -/
def OwnR (base : Nat) (w : World) (A : Option Addr) (c : Nat) (q : List Pr) : Prop := w.ownsRow base 52 2 (.slice A q.length c) q.length (flatR q)
theorem own_rws {base : Nat} {w : World} {A : Option Addr} {c : Nat} {q : List Pr} (hr : OwnR base w A c q) (hel : ∀ p ∈ q, Vec .i32 w p.B p.c p.x) (hf : ∀ p ∈ q, U64s p.i) : Rws w A c q := by
  rcases (show w.ownsRow base 52 2 (.slice A q.length c) q.length (flatR q) from hr).2 with ⟨e, h0⟩ | ⟨g, cap, cur, e, hg, hh, hnc, hcm, hsz, hcs⟩
  · injection e with e1 _ e3
    have : q = [] := List.eq_nil_of_length_eq_zero h0
    subst this e1 e3
    exact Rws.nil _
  · injection e with e1 _ e3
    subst e1
    subst e3
    refine ⟨hnc, by unfold maxLen at hcm; omega, fun hp => ⟨g, 0, rfl, lt_of_block hh, fun i p hi => ?_⟩, hel, hf⟩
    have hl : i < q.length := (List.getElem?_eq_some_iff.1 hi).1
    rw [Nat.zero_add, World.ownsRow.cellAt hr (i * 2) (by omega), World.ownsRow.cellAt hr (i * 2 + 1) (by omega)]
    exact flatR_get q i p hi
theorem OwnR.low {base : Nat} {w : World} {A : Option Addr} {c : Nat} {q : List Pr} (h : OwnR base w A c q) : ∀ i, blk A = some i → base ≤ i ∧ i < w.heap.size := fun i hi => World.ownsRow.lt h i (by rw [own_blk]; exact hi)
theorem OwnR.turn {S : Nat → Prop} {base : Nat} {w w' : World} {A : Option Addr} {c : Nat} {q : List Pr} (h : OwnR base w A c q) (ht : Turn S w w') (hS : ∀ i, blk A = some i → ¬ S i) : OwnR base w' A c q := row_turn h ht (fun i hi => hS i (by rw [own_blk] at hi; exact hi))
theorem OwnR.below {base : Nat} {w w' : World} {A : Option Addr} {c : Nat} {q : List Pr} (h : OwnR base w A c q) (hb : Below w.heap.size w w') : OwnR base w' A c q := h.turn (Turn.of_below (S := fun _ => False) hb) (fun _ _ e => e)

/-- Hits of the call's own. -/
def OwnH (base : Nat) (w : World) (A : Option Addr) (c : Nat) (l : List HitM) : Prop := w.ownsRow base 57 2 (.slice A l.length c) l.length (flat l)
theorem OwnH.hits {base : Nat} {w : World} {A : Option Addr} {c : Nat} {l : List HitM} (h : OwnH base w A c l) : Hits w A c l := by
  obtain ⟨A', c', e, hv, _⟩ := TopL.Hits.own h
  injection e with e1 _ e2
  subst e1
  subst e2
  exact hv
theorem OwnH.low {base : Nat} {w : World} {A : Option Addr} {c : Nat} {l : List HitM} (h : OwnH base w A c l) : ∀ i, blk A = some i → base ≤ i ∧ i < w.heap.size := fun i hi => World.ownsRow.lt h i (by rw [own_blk]; exact hi)
theorem OwnH.below {base : Nat} {w w' : World} {A : Option Addr} {c : Nat} {l : List HitM} (h : OwnH base w A c l) (hb : Below w.heap.size w w') : OwnH base w' A c l := row_turn h (Turn.of_below (S := fun _ => False) hb) (fun _ _ e => e)
theorem OwnH.mono {base b : Nat} {w : World} {A : Option Addr} {c : Nat} {l : List HitM} (h : OwnH base w A c l) (hb : b ≤ base) : OwnH b w A c l := World.ownsRow.mono h hb
theorem OwnH.nil (base : Nat) (w : World) : OwnH base w none 0 [] := World.ownsRow_nil _ _ _ _

theorem grown_bel {w w' : World} {B : Nat} {A : Option Addr} (hg : w.grownBy w' (blk A)) (hb : B ≤ w.heap.size) (hA : ∀ i, blk A = some i → B ≤ i) : Below B w w' :=
  (Turn.of_grown (S := fun i => blk A = some i) hg (fun i hi => .inl hi)).below hb hA
theorem appR : AppT Tryz.prog 45 52 2 32 := ⟨Tryz.underlying45, (Tryz.prog.info? 52).get (by kernel_rfl), .agg #[.int .u64 0, .slice none 0 0], (Option.some_get _).symm, by kernel_rfl, by kernel_rfl, by kernel_rfl, rfl, by decide, by decide⟩
theorem appH : AppT Tryz.prog 42 57 2 16 := ⟨Tryz.underlying42, (Tryz.prog.info? 57).get (by kernel_rfl), .agg #[.int .u64 0, .int .u64 0], (Option.some_get _).symm, by kernel_rfl, by kernel_rfl, by kernel_rfl, rfl, by decide, by decide⟩
theorem Read.two {w : World} {g o : Nat} {a b : Value} (ha : a.oneCell' = true) (hb : b.oneCell' = true) (h0 : w.cell? ⟨g, o, none⟩ = some a) (h1 : w.cell? ⟨g, o + 1, none⟩ = some b) : Read w (some ⟨g, o, none⟩) 1 2 [a, b] := by
  refine ⟨rfl, by simp [ha, hb], (fun e => by cases e), fun b' e j u hj => ?_⟩
  injection e with e
  subst e
  rw [Addr.add_lit]
  match j, hj with
  | 0, hj => simp at hj; rw [Nat.add_zero, h0, hj]
  | 1, hj => simp at hj; rw [h1, hj]
  | j + 2, hj => simp at hj

/-! ### hits of rows -/
def hitM (v : List Int) (p : Rv) : HitM := (p.1, distD p.2 v)
def hitL (l : List Rv) (v : List Int) : List HitM := l.map (hitM v)
def dimB (l : List Rv) (v : List Int) : Bool := l.all fun p => decide (p.2.length = v.length)
def rightR (l : List Rv) : Bool := l.all fun p => right p.2
/-- What is told of rows that may be. -/
def fnearE (l : List Rv) (v : List Int) : Int := if dimB l v = true then 0 else 151
def nearL (k : Nat) (l : List Rv) (v : List Int) : List HitM := if dimB l v = true then firstM k (hitL l v) else []
def refR (l : List Rv) : Int := if rightR l = true then (if 2000 < l.length then 3 else 0) else 170
def chkQ (k : Int) (v : List Int) : Int := if isKM k = true then (if right v = true then 0 else 150) else 2
theorem check_right (v : List Int) : checkM v = if right v = true then 0 else 150 := by
  unfold checkM refuseM
  simp
theorem dist_dim {a b : List Int} (ha : right a = true) (hb : right b = true) : distE a b = if decide (a.length = b.length) = true then 0 else 151 := by
  unfold distE refuseM
  by_cases h : a.length = b.length
  · simp [ha, hb, h]
  · have h2 : ¬ ((b.length : Int) = (a.length : Int)) := by omega
    simp [ha, hb, h, h2]
theorem hit_length (l : List Rv) (v : List Int) : (hitL l v).length = l.length := by simp [hitL]

end Go.Proofs.YtcekgllahlhaaaaGreatDoor

namespace Go.Proofs.YtcekgllahlhaaaaGreatDoor
open Go.RowKit Go.Shelf
open TopL (HitM z2 flat flat_length flat_append flat_cons flat_get flat_cell firstM Hits isKM)
set_option linter.unusedVariables false
set_option linter.unusedSimpArgs false
set_option maxRecDepth 100000

theorem store2 {w w1 : World} {g : Nat} {a b : Value} {t : TypeId} (hx : w1.heap[g + 2]? = some (.cells #[a, b] t (0, 0))) (hb : Below g w w1) (x y : Value) :
    ((w1.setCell ⟨g + 2, 0, none⟩ x).setCell ⟨g + 2, 1, none⟩ y).cell? ⟨g + 2, 0, none⟩ = some x ∧ ((w1.setCell ⟨g + 2, 0, none⟩ x).setCell ⟨g + 2, 1, none⟩ y).cell? ⟨g + 2, 1, none⟩ = some y ∧ Below g w ((w1.setCell ⟨g + 2, 0, none⟩ x).setCell ⟨g + 2, 1, none⟩ y) := by
  have h := TopL.set2 hx x y
  exact ⟨(cell_of_row _ _ 0 _ _ _ h).trans rfl, (cell_of_row _ _ 1 _ _ _ h).trans rfl, (hb.setCell (by simp) _).setCell (by simp) _⟩

set_option maxHeartbeats 1000000 in
theorem hit_any (v : List Int) (Av : Option Addr) (cv : Nat) (k : Int) (i : Int) (x : List Int) (B : Option Addr) (c : Nat) (w : World) (hv : Vec .i32 w Av cv v) (hp : Vec .i32 w B c x) :
    Calls Tryz.prog 89 #[.agg #[.slice Av v.length cv, .int .i64 k], .agg #[.int .u64 i, .slice B x.length c]] w fun e w' => e = .returned (.tuple #[.agg #[.int .u64 i, .int .u64 (distD x v)], .int .i64 (distE x v)]) ∧ Below w.heap.size w w' := by
  obtain ⟨W0, hW0⟩ : ∃ W0, W0 = ((w.alloc (.cells #[.slice Av v.length cv, .int .i64 k] 147)).alloc (.cells #[.int .u64 i, .slice B x.length c] 52)).alloc (.cells #[.int .u64 0, .int .u64 0] 57) := ⟨_, rfl⟩
  have hb : Below w.heap.size w W0 := by rw [hW0]; exact (((Below.refl _ w).alloc (Nat.le_refl _) _).alloc (by simp) _).alloc (by simp; omega) _
  have hx : W0.heap[w.heap.size + 2]? = some (.cells #[.int .u64 0, .int .u64 0] 57 (0, 0)) := by
    rw [hW0]
    have h := heap_alloc_new ((w.alloc (.cells #[.slice Av v.length cv, .int .i64 k] 147)).alloc (.cells #[.int .u64 i, .slice B x.length c] 52)) (.cells #[.int .u64 0, .int .u64 0] 57)
    rw [World.size_alloc, World.size_alloc] at h; exact h
  have hy : W0.heap[w.heap.size + 1]? = some (.cells #[.int .u64 i, .slice B x.length c] 52 (0, 0)) := by
    rw [hW0]
    have h := heap_alloc_new (w.alloc (.cells #[.slice Av v.length cv, .int .i64 k] 147)) (.cells #[.int .u64 i, .slice B x.length c] 52)
    rw [World.size_alloc] at h
    exact (Below.heap_alloc _ _ _ (by simp)).trans h
  have HD := Lib.hid (dist_any B Av c cv x v W0 (hp.below hb) (hv.below hb))
  have HB := Lib.hid hb
  have HX := Lib.hid hx
  have HY := Lib.hid hy
  have HW := Lib.hid hW0
  generalize distD x v = D at *
  generalize distE x v = E at *
  generalize x.length = n at *
  generalize v.length = m at *
  clear hv hp hb hx hy hW0
  go_enter Tryz.func89, Tryz.ntmps89
  go_wp2_with fail
  rw [← HW.out]
  refine HD.out.mono ?_
  rintro e w1 ⟨rfl, hb1⟩
  have X1 := (hb1.block (w.heap.size + 2) (lt_of_block HX.out)).trans HX.out
  have Y1 := (hb1.block (w.heap.size + 1) (lt_of_block HY.out)).trans HY.out
  have x0 := (cell_of_row _ _ 0 _ _ _ X1).trans rfl
  have x1 := (cell_of_row _ _ 1 _ _ _ X1).trans rfl
  have y0 := (cell_of_row _ _ 0 _ _ _ Y1).trans rfl
  have f0 : w1.frozen? ⟨w.heap.size + 2, 0, none⟩ = false := frozen_of_row _ _ _ _ _ X1
  have f1 : w1.frozen? ⟨w.heap.size + 2, 1, none⟩ = false := frozen_of_row _ _ _ _ _ X1
  have HB1 := Lib.hid (HB.out.trans (hb1.mono HB.out.size))
  have HX1 := Lib.hid X1
  clear hb1 X1 Y1
  go_wp2
  have HZ := Lib.hid (store2 HX1.out HB1.out)
  refine bodyPost_ret (v := .tuple #[.agg #[.int .u64 i, .int .u64 D], .int .i64 E]) (by simp [results, Tryz.results89, go_sem, (HZ.out (.int .u64 i) (.int .u64 D)).1, (HZ.out (.int .u64 i) (.int .u64 D)).2.1]) rfl ?_
  exact ⟨rfl, (HZ.out _ _).2.2⟩

/-! ### hits of many -/
def hitsL (l : List Rv) (v : List Int) : List HitM := if dimB l v = true then hitL l v else []
theorem dim_snoc {l : List Rv} {v : List Int} {k : Nat} {p : Rv} (h : l[k]? = some p) : dimB (l.take (k + 1)) v = (dimB (l.take k) v && decide (p.2.length = v.length)) := by
  unfold dimB; rw [List.take_add_one, h]; simp
theorem dim_no {l : List Rv} {v : List Int} {k : Nat} {p : Rv} (h : l[k]? = some p) (hp : ¬ p.2.length = v.length) : dimB l v = false := all_no _ _ h (by simpa using hp)
theorem hitL_snoc {l : List Rv} {v : List Int} {k : Nat} {p : Rv} (h : l[k]? = some p) : hitL (l.take (k + 1)) v = hitL (l.take k) v ++ [hitM v p] := by
  unfold hitL; rw [List.take_add_one, h]; simp
/-- Hits of the call's own, and an error. -/
def GivesHE (w : World) (l : List HitM) (er : Int) (e : Ending) (w' : World) : Prop := ∃ A c, e = .returned (.tuple #[.slice A l.length c, .int .i64 er]) ∧ OwnH w.heap.size w' A c l ∧ Below w.heap.size w w'

set_option maxHeartbeats 4000000 in
theorem hitsOf_any (v : List Int) (Av : Option Addr) (cv : Nat) (kq : Int) (A : Option Addr) (c : Nat) (q : List Pr) (w : World) (hv : Vec .i32 w Av cv v) (h : Rws w A c q) (hr : rightR (rvs q) = true) (hvr : right v = true) (hq : q.length ≤ 100000) :
    Calls Tryz.prog 88 #[.slice A q.length c, .func (.func 89) #[.agg #[.slice Av v.length cv, .int .i64 kq]] #[]] w (GivesHE w (hitsL (rvs q) v) (fnearE (rvs q) v)) := by
  obtain ⟨m, hm⟩ : ∃ m, m = q.length := ⟨_, rfl⟩
  have hml : m ≤ 9223372036854775807 := by rw [hm]; exact h.many
  have HV := Lib.hid hv
  have HQ := Lib.hid h
  have HR := Lib.hid hr
  have HVR := Lib.hid hvr
  have HM := Lib.hid hm
  rw [← hm] at hq ⊢
  obtain ⟨n, hn⟩ : ∃ n, n = v.length := ⟨_, rfl⟩
  have HN := Lib.hid hn
  rw [← hn]
  obtain ⟨L, hL⟩ : ∃ L, L = hitsL (rvs q) v := ⟨_, rfl⟩
  obtain ⟨E, hE⟩ : ∃ E, E = fnearE (rvs q) v := ⟨_, rfl⟩
  have HL := Lib.hid hL
  have HE := Lib.hid hE
  rw [← hL, ← hE]
  clear hv h hr hvr hm hn hL hE
  go_enter Tryz.func88, Tryz.ntmps88
  go_wp2
  go_loopw [6, 13] (fun hs i wr => ∃ (k : Nat) (A1 : Option Addr) (c1 : Nat), k ≤ m ∧ i = .int .i64 k ∧ hs = .slice A1 k c1 ∧ Hid (OwnH w.heap.size wr A1 c1 (hitL ((rvs q).take k) v)) ∧ Hid (dimB ((rvs q).take k) v = true) ∧ Hid (Below w.heap.size w wr)) (fun _ i _ => m - (intOf i).toNat)
  case atStart => exact ⟨0, none, 0, Nat.zero_le _, rfl, rfl, Lib.hid (OwnH.nil _ _), Lib.hid rfl, Lib.hid (Below.refl _ _)⟩
  case round =>
    obtain ⟨k, A1, c1, hk, rfl, rfl, HO, HD, HB⟩ := hrel
    by_cases hkm : k < m
    · obtain ⟨b, o, p, rfl, hp, hb, d0, d1, hv, hf⟩ := (HQ.out.below HB.out).at_ (i := k) (by rw [← HM.out]; exact hkm)
      obtain ⟨i, x, B, cb⟩ := p
      dsimp only at d0 d1 hv hf
      have hpr : (rvs q)[k]? = some (i, x) := by simp [rvs, hp]
      have hrx : right x = true := by have := List.all_eq_true.1 HR.out _ (List.mem_of_getElem? hpr); exact this
      have k0 : (0 : Int) ≤ k := by omega
      have km : (k : Int) < m := by omega
      have hkl : (hitL ((rvs q).take k) v).length = k := by rw [hit_length, List.length_take, rvs_length, ← HM.out]; omega
      obtain ⟨W1, hW1⟩ : ∃ W1, W1 = wr.alloc (.cells #[.int .u64 i, .slice B x.length cb] 52) := ⟨_, rfl⟩
      have hb1 : Below wr.heap.size wr W1 := by rw [hW1]; exact (Below.refl _ wr).alloc (Nat.le_refl _) _
      have HBr1 := Lib.hid (HB.out.trans (hb1.mono HB.out.size))
      have HC := Lib.hid (hit_any v Av cv kq i x B cb W1 (HV.out.below HBr1.out) (hv.below hb1))
      have HO1 := Lib.hid (HO.out.below hb1)
      have HKL := Lib.hid hkl
      have HW1 := Lib.hid hW1
      have HP := Lib.hid hpr
      have hdd := dist_dim hrx HVR.out
      rw [← HN.out] at HC
      obtain ⟨D, hD⟩ : ∃ D, D = distD x v := ⟨_, rfl⟩
      have HHL := Lib.hid (show hitL ((rvs q).take (k + 1)) v = hitL ((rvs q).take k) v ++ [(i, D)] from by rw [hitL_snoc hpr, hD]; rfl)
      have HDS := Lib.hid (dim_snoc (v := v) hpr)
      rw [← hD] at HC
      by_cases hxl : x.length = v.length
      · have e0 : distE x v = 0 := by rw [hdd]; simp [hxl]
        have HD1 := Lib.hid (show dimB ((rvs q).take (k + 1)) v = true by rw [HDS.out, HD.out]; simpa using hxl)
        rw [e0] at HC
        generalize x.length = nx at *
        clear hp hb hv hf hpr hrx hkl hW1 hb1 hdd hD hxl e0
        go_wp2_with fail
        rw [← HW1.out]
        refine HC.out.mono ?_
        rintro e w2 ⟨rfl, hb2⟩
        have hb3 : Below W1.heap.size W1 ((w2.alloc (.cells #[.int .u64 i, .int .u64 D] 57)).alloc (.cells #[.int .u64 i, .int .u64 D] 57)) := (hb2.alloc hb2.size _).alloc (by simp; have := hb2.size; omega) _
        have HB3 := Lib.hid (HBr1.out.trans (hb3.mono HBr1.out.size))
        have ho3 := HO1.out.below hb3
        unfold OwnH at ho3
        rw [HKL.out] at ho3
        have HO3 := Lib.hid ho3
        have HRd := Lib.hid (show Read ((w2.alloc (.cells #[.int .u64 i, .int .u64 D] 57)).alloc (.cells #[.int .u64 i, .int .u64 D] 57)) (some ⟨(w2.alloc (.cells #[.int .u64 i, .int .u64 D] 57)).heap.size, 0, none⟩) 1 2 (flat [(i, D)]) from Read.two rfl rfl (cell_laid _ _ _ 0) (cell_laid _ _ _ 1))
        rw [World.size_alloc] at HRd
        clear hb2 hb3 ho3
        go_wp2_with (at_builtin; refine gapp_at rfl (.tmp 26) (.tmp 28) appH rfl w.heap.size A1 c1 k (flat (hitL ((rvs q).take k) v)) rfl HO3.out (some ⟨w2.heap.size + 1, 0, none⟩) 1 1 (flat [(i, D)]) rfl HRd.out (by omega) HB3.out.size ?_; intro A5 c5 w5 ho5 hg5 _; have HG5 := Lib.hid (HB3.out.trans (grown_bel (B := w.heap.size) hg5 HB3.out.size (fun i hi => (World.ownsRow.lt HO3.out i (by rw [own_blk]; exact hi)).1))); have HO5 := Lib.hid ho5; clear ho5 hg5)
        go_roundw
        case rel => exact ⟨k + 1, A5, c5, by omega, by go_num, rfl, Lib.hid (by unfold OwnH; rw [HHL.out, flat_append, List.length_append, HKL.out]; exact HO5.out), HD1, HG5⟩
        case measure => simp [intOf]; omega
      · have e0 : distE x v = 151 := by rw [hdd]; simp [hxl]
        have hdn := dim_no (v := v) HP.out hxl
        have HLx := Lib.hid (show L = [] by rw [HL.out]; unfold hitsL; rw [hdn]; rfl)
        have HEx := Lib.hid (show E = 151 by rw [HE.out]; unfold fnearE; rw [hdn]; rfl)
        rw [e0] at HC
        generalize x.length = nx at *
        clear hp hb hv hf hpr hrx hkl hW1 hb1 hdd hD hxl e0 hdn
        go_wp2_with fail
        rw [← HW1.out]
        refine HC.out.mono ?_
        rintro e w2 ⟨rfl, hb2⟩
        have HB2 := Lib.hid (HBr1.out.trans ((hb2.alloc hb2.size (.cells #[.int .u64 i, .int .u64 D] 57)).mono HBr1.out.size))
        clear hb2
        go_wp2
        go_ret2
        rw [HLx.out, HEx.out]
        exact ⟨none, 0, rfl, OwnH.nil _ _, HB2.out⟩
    · obtain rfl : k = m := by omega
      have hdd : dimB (rvs q) v = true := by have := HD.out; rwa [List.take_of_length_le (by rw [rvs_length, ← HM.out]; exact Nat.le_refl _)] at this
      have ht : (rvs q).take k = rvs q := List.take_of_length_le (by rw [rvs_length, ← HM.out]; exact Nat.le_refl _)
      have HLx := Lib.hid (show L = hitL (rvs q) v by rw [HL.out]; unfold hitsL; rw [hdd]; rfl)
      have HEx := Lib.hid (show E = 0 by rw [HE.out]; unfold fnearE; rw [hdd]; rfl)
      have hlen : (hitL (rvs q) v).length = k := by rw [hit_length, rvs_length, HM.out]
      rw [ht] at HO
      have HLn := Lib.hid hlen
      clear hdd ht hlen
      go_wp2
      go_ret2
      rw [HLx.out, HEx.out]
      exact ⟨A1, c1, by rw [HLn.out]; rfl, HO.out, HB.out⟩

end Go.Proofs.YtcekgllahlhaaaaGreatDoor

namespace Go.Proofs.YtcekgllahlhaaaaGreatDoor
open Go.RowKit Go.Shelf
open TopL (HitM z2 flat flat_length flat_append flat_cons flat_get flat_cell firstM Hits isKM)
set_option linter.unusedVariables false
set_option linter.unusedSimpArgs false
set_option maxRecDepth 100000

theorem OwnH.nils {w w' : World} (hb : Below w.heap.size w w') (E : Int) : GivesHE w [] E (.returned (.tuple #[.slice none 0 0, .int .i64 E])) w' := ⟨none, 0, rfl, OwnH.nil _ _, hb⟩

set_option maxHeartbeats 1000000 in
theorem fnearest_any (v : List Int) (Av : Option Addr) (cv : Nat) (kq : Int) (A : Option Addr) (c : Nat) (q : List Pr) (w : World) (hv : Vec .i32 w Av cv v) (h : Rws w A c q) (hr : rightR (rvs q) = true) (hvr : right v = true) (hq : q.length ≤ 2000) (hk : isKM kq = true) :
    Calls Tryz.prog 54 #[.slice A q.length c, .agg #[.slice Av v.length cv, .int .i64 kq]] w (GivesHE w (nearL kq.toNat (rvs q) v) (fnearE (rvs q) v)) := by
  obtain ⟨W0, hW0⟩ : ∃ W0, W0 = w.alloc (.cells #[.slice Av v.length cv, .int .i64 kq] 28) := ⟨_, rfl⟩
  have hb : Below w.heap.size w W0 := by rw [hW0]; exact (Below.refl _ w).alloc (Nat.le_refl _) _
  have hx : W0.heap[w.heap.size]? = some (.cells #[.slice Av v.length cv, .int .i64 kq] 28 (0, 0)) := by rw [hW0]; exact heap_alloc_new _ _
  have HC := Lib.hid (hitsOf_any v Av cv kq A c q W0 (hv.below hb) (h.below hb) hr hvr (by omega))
  have HB := Lib.hid hb
  have HX := Lib.hid hx
  have HW := Lib.hid hW0
  cases hd : dimB (rvs q) v with
  | false =>
    have HE := Lib.hid (show fnearE (rvs q) v = 151 by unfold fnearE; rw [hd]; rfl)
    have HL := Lib.hid (show nearL kq.toNat (rvs q) v = [] by unfold nearL; rw [hd]; rfl)
    rw [HL.out]
    rw [HE.out] at HC ⊢
    generalize hitsL (rvs q) v = L at *
    generalize q.length = n at *
    generalize v.length = m at *
    clear hv h hr hvr hb hx hW0 hd
    go_enter Tryz.func54, Tryz.ntmps54
    go_wp2_with fail
    rw [← HW.out]
    refine HC.out.mono ?_
    rintro e w1 ⟨A1, c1, rfl, ho1, hb1⟩
    have HB1 := Lib.hid (HB.out.trans (hb1.mono HB.out.size))
    clear ho1 hb1
    go_wp2
    go_ret2
    exact OwnH.nils HB1.out _
  | true =>
    have HE := Lib.hid (show fnearE (rvs q) v = 0 by unfold fnearE; rw [hd]; rfl)
    have HL := Lib.hid (show nearL kq.toNat (rvs q) v = firstM kq.toNat (hitL (rvs q) v) by unfold nearL; rw [hd]; rfl)
    have hl : (hitL (rvs q) v).length ≤ 2000 := by rw [hit_length, rvs_length]; exact hq
    have hHL : hitsL (rvs q) v = hitL (rvs q) v := by unfold hitsL; rw [hd]; rfl
    rw [hHL] at HC
    obtain ⟨e1, e2⟩ := TopL.merge_ok (ls := [hitL (rvs q) v]) hk (by rw [TopL.sumL_one]; omega)
    have HF := Lib.hid (fun (X : World) (A1 : Option Addr) (c1 : Nat) (hh : Hits X A1 c1 (hitL (rvs q) v)) => show Calls Tryz.prog 90 #[.slice A1 (hitL (rvs q) v).length c1, .int .i64 kq] X fun e w' => TopL.Ans X e w' (firstM kq.toNat (hitL (rvs q) v)) 0 from by
      have := TopL.first_any kq A1 c1 (hitL (rvs q) v) X hh (by omega)
      rw [e1, e2] at this
      simpa using this)
    rw [HL.out]
    rw [HE.out] at HC ⊢
    generalize hitL (rvs q) v = L at *
    generalize firstM kq.toNat L = L2 at *
    generalize q.length = n at *
    generalize v.length = m at *
    clear hv h hr hvr hb hx hW0 hd e1 e2 hHL
    go_enter Tryz.func54, Tryz.ntmps54
    go_wp2_with fail
    rw [← HW.out]
    refine HC.out.mono ?_
    rintro e w1 ⟨A1, c1, rfl, ho1, hb1⟩
    have X1 := (hb1.block w.heap.size (lt_of_block HX.out)).trans HX.out
    have x1 := (cell_of_row _ _ 1 _ _ _ X1).trans rfl
    have HB1 := Lib.hid (HB.out.trans (hb1.mono HB.out.size))
    have HF1 := Lib.hid (HF.out w1 A1 c1 ho1.hits)
    clear ho1 hb1 X1
    go_wp2_with fail
    refine HF1.out.mono ?_
    rintro e w2 ⟨A2, c2, rfl, ho2, hb2⟩
    have HX2 := Lib.hid (And.intro (World.ownsRow.mono ho2 HB1.out.size) (HB1.out.trans (hb2.mono HB1.out.size)))
    clear ho2 hb2
    go_wp2
    go_ret2
    exact ⟨A2, c2, rfl, HX2.out.1, HX2.out.2⟩

/-! ### slices.ContainsFunc at rows -/
/-- A function of rows that only reads. -/
def PredR (fid : FuncId) (P : Rv → Bool) (w : World) : Prop := ∀ (p : Pr) (X : World), Below w.heap.size w X → Vec .i32 X p.B p.c p.x →
  Calls Tryz.prog fid #[.agg #[.int .u64 p.i, .slice p.B p.x.length p.c]] X fun e w' => e = .returned (.bool (P (p.i, p.x))) ∧ Below X.heap.size X w'
def NoneR (P : Rv → Bool) (l : List Rv) (k : Nat) : Prop := ∀ (j : Nat) (u : Rv), j < k → l[j]? = some u → P u = false
theorem NoneR.step {P : Rv → Bool} {l : List Rv} {k : Nat} {v : Rv} (h : NoneR P l k) (hk : l[k]? = some v) (hv : P v = false) : NoneR P l (k + 1) := by
  intro j u hj hu
  by_cases e : j = k
  · subst e; rw [hk] at hu; cases hu; exact hv
  · exact h j u (by omega) hu
theorem NoneR.all {P : Rv → Bool} {l : List Rv} (h : NoneR P l l.length) : l.findIdx? P = none :=
  idx_no fun j u hu => h j u (List.getElem?_eq_some_iff.1 hu).1 hu
theorem rvs_at {q : List Pr} {i : Nat} {p : Pr} (h : q[i]? = some p) : (rvs q)[i]? = some (p.i, p.x) := by simp [rvs, h]

set_option maxHeartbeats 1000000 in
theorem indexR_any (A : Option Addr) (c : Nat) (q : List Pr) (fid : FuncId) (P : Rv → Bool) (w : World) (h : Rws w A c q)
    (hen : ∀ v W, (callFunc fid #[v]).run Tryz.prog W = .ok (.enter fid #[v]) W) (hp : PredR fid P w) :
    Calls Tryz.prog 95 #[.slice A q.length c, .func (.func fid) #[] #[]] w fun e w' => e = .returned (.int .i64 (idxK ((rvs q).findIdx? P))) ∧ Below w.heap.size w w' := by
  obtain ⟨n, hn⟩ : ∃ n, n = q.length := ⟨_, rfl⟩
  have hmn : n ≤ 9223372036854775807 := by rw [hn]; exact h.many
  have HQ := Lib.hid h
  have HN := Lib.hid hn
  have HPr := Lib.hid hp
  generalize hR : idxK ((rvs q).findIdx? P) = R at *
  have HR := Lib.hid hR
  rw [← hn]
  clear h hn hp hR
  go_enter Tryz.func95, Tryz.ntmps95
  go_wp2
  go_loopw [8] (fun i wr => ∃ k : Nat, k ≤ n ∧ i = .int .i64 k ∧ Hid (NoneR P (rvs q) k) ∧ Hid (Below w.heap.size w wr)) (fun i _ => n - (intOf i).toNat)
  case atStart => exact ⟨0, Nat.zero_le _, rfl, Lib.hid (fun j u hj => by omega), Lib.hid (Below.refl _ _)⟩
  case round =>
    obtain ⟨k, hk, rfl, HK, HB⟩ := hrel
    by_cases hkn : k < n
    · obtain ⟨b, o, p, rfl, hp, hb, c0, c1, hv, hf⟩ := (HQ.out.below HB.out).at_ (i := k) (by rw [← HN.out]; exact hkn)
      have HP := Lib.hid (rvs_at hp)
      have k0 : (0 : Int) ≤ k := by omega
      have kn : (k : Int) < n := by omega
      have HV := Lib.hid (HPr.out p wr HB.out hv)
      clear hv hp hf
      cases hvis : P (p.i, p.x) with
      | true =>
        have HF := Lib.hid (show R = k by rw [← HR.out, idx_at HP.out hvis HK.out]; rfl)
        rw [hvis] at HV
        clear hvis
        go_wp2_with fail
        refine HV.out.mono ?_
        rintro e w1 ⟨rfl, hb1⟩
        have HB1 := Lib.hid (HB.out.trans (hb1.mono HB.out.size))
        clear hb1
        go_wp2
        go_ret
        rw [HF.out]
        exact ⟨rfl, HB1.out⟩
      | false =>
        have HK2 := Lib.hid (HK.out.step HP.out hvis)
        rw [hvis] at HV
        clear hvis
        go_wp2_with fail
        refine HV.out.mono ?_
        rintro e w1 ⟨rfl, hb1⟩
        have HB1 := Lib.hid (HB.out.trans (hb1.mono HB.out.size))
        clear hb1
        go_wp2
        go_roundw
        case rel => exact ⟨k + 1, by omega, by go_num, HK2, HB1⟩
        case measure => simp [intOf]; omega
    · obtain rfl : k = n := by omega
      have HF := Lib.hid (show R = -1 by rw [← HR.out, NoneR.all (l := rvs q) (P := P) (by rw [rvs_length, ← HN.out]; exact HK.out)]; rfl)
      go_wp2
      go_ret
      rw [HF.out]
      exact ⟨rfl, HB.out⟩
theorem containsR_any (A : Option Addr) (c : Nat) (q : List Pr) (fid : FuncId) (P : Rv → Bool) (w : World) (h : Rws w A c q)
    (hen : ∀ v W, (callFunc fid #[v]).run Tryz.prog W = .ok (.enter fid #[v]) W) (hp : PredR fid P w) :
    Calls Tryz.prog 62 #[.slice A q.length c, .func (.func fid) #[] #[]] w fun e w' => e = .returned (.bool ((rvs q).any P)) ∧ Below w.heap.size w w' := by
  have HC := Lib.hid (indexR_any A c q fid P w h hen hp)
  have HR := Lib.hid (idx_ge (rvs q) P)
  generalize (rvs q).any P = R at *
  generalize idxK ((rvs q).findIdx? P) = K at *
  generalize q.length = n at *
  clear h hen hp
  go_enter Tryz.func62, Tryz.ntmps62
  go_wp2_with fail
  refine HC.out.mono ?_
  rintro e w1 ⟨rfl, hb1⟩
  have HB1 := Lib.hid hb1
  clear hb1
  go_wp2
  go_ret
  rw [HR.out]
  exact ⟨rfl, HB1.out⟩

theorem refuse1R_any (p : Pr) (w : World) (hv : Vec .i32 w p.B p.c p.x) :
    Calls Tryz.prog 96 #[.agg #[.int .u64 p.i, .slice p.B p.x.length p.c]] w fun e w' => e = .returned (.bool (!right p.x)) ∧ Below w.heap.size w w' := by
  have hb : Below w.heap.size w (w.alloc (.cells #[.int .u64 p.i, .slice p.B p.x.length p.c] 52)) := (Below.refl _ w).alloc (Nat.le_refl _) _
  have HC := Lib.hid (check_any p.B p.c p.x _ (hv.below hb))
  have HB := Lib.hid hb
  have HR := Lib.hid (show (checkM p.x != 0) = !right p.x by rw [check_right]; cases right p.x <;> rfl)
  generalize checkM p.x = E at *
  generalize right p.x = R at *
  generalize p.x.length = n at *
  clear hv hb
  go_enter Tryz.func96, Tryz.ntmps96
  go_wp2_with fail
  refine HC.out.mono ?_
  rintro e w1 ⟨rfl, hb1⟩
  have HB1 := Lib.hid (HB.out.trans (hb1.mono HB.out.size))
  clear hb1
  go_wp2
  go_ret
  rw [← HR.out]
  exact ⟨rfl, HB1.out⟩

theorem any_notR (l : List Rv) : (l.any fun p => !right p.2) = !rightR l := by
  unfold rightR
  induction l with
  | nil => rfl
  | cons a l ih => simp only [List.any_cons, List.all_cons, ih]; cases right a.2 <;> simp

theorem refuseR_any (A : Option Addr) (c : Nat) (q : List Pr) (w : World) (h : Rws w A c q) :
    Calls Tryz.prog 63 #[.slice A q.length c] w fun e w' => e = .returned (.int .i64 (refR (rvs q))) ∧ Below w.heap.size w w' := by
  have HC := Lib.hid (containsR_any A c q 96 (fun p => !right p.2) w h (fun v W => enters_of Tryz.func96 (by kernel_rfl) rfl _ W) (fun p X _ hv => refuse1R_any p X hv))
  rw [any_notR] at HC
  have hmn := h.many
  have HR := Lib.hid (show refR (rvs q) = if rightR (rvs q) = true then (if 2000 < q.length then 3 else 0) else 170 from by unfold refR; rw [rvs_length])
  generalize refR (rvs q) = R at *
  generalize rightR (rvs q) = S at *
  generalize q.length = n at *
  clear h
  cases S with
  | false =>
    have HF := Lib.hid (show R = 170 by rw [HR.out]; rfl)
    clear HR
    go_enter Tryz.func63, Tryz.ntmps63
    go_wp2_with fail
    refine HC.out.mono ?_
    rintro e w1 ⟨rfl, hb1⟩
    have HB1 := Lib.hid hb1
    clear hb1
    go_wp2
    go_ret
    rw [HF.out]
    exact ⟨rfl, HB1.out⟩
  | true =>
    by_cases hn : 2000 < n
    · have HF := Lib.hid (show R = 3 by rw [HR.out]; simp [hn])
      have t1 : decide ((2000 : Int) < (n : Int)) = true := by simp; omega
      clear HR hn
      go_enter Tryz.func63, Tryz.ntmps63
      go_wp2_with fail
      refine HC.out.mono ?_
      rintro e w1 ⟨rfl, hb1⟩
      have HB1 := Lib.hid hb1
      clear hb1
      go_wp2
      go_ret
      rw [HF.out]
      exact ⟨rfl, HB1.out⟩
    · have HF := Lib.hid (show R = 0 by rw [HR.out]; simp [hn])
      have t1 : decide ((2000 : Int) < (n : Int)) = false := by simp; omega
      clear HR hn
      go_enter Tryz.func63, Tryz.ntmps63
      go_wp2_with fail
      refine HC.out.mono ?_
      rintro e w1 ⟨rfl, hb1⟩
      have HB1 := Lib.hid hb1
      clear hb1
      go_wp2
      go_ret
      rw [HF.out]
      exact ⟨rfl, HB1.out⟩

/-! ### Check and Rows -/
theorem checkQ_any (v : List Int) (Av : Option Addr) (cv : Nat) (kq : Int) (w : World) (hv : Vec .i32 w Av cv v) :
    Calls Tryz.prog 51 #[.agg #[.slice Av v.length cv, .int .i64 kq]] w fun e w' => e = .returned (.int .i64 (chkQ kq v)) ∧ Below w.heap.size w w' := by
  obtain ⟨W0, hW0⟩ : ∃ W0, W0 = w.alloc (.cells #[.slice Av v.length cv, .int .i64 kq] 28) := ⟨_, rfl⟩
  have hb : Below w.heap.size w W0 := by rw [hW0]; exact (Below.refl _ w).alloc (Nat.le_refl _) _
  have hx : W0.heap[w.heap.size]? = some (.cells #[.slice Av v.length cv, .int .i64 kq] 28 (0, 0)) := by rw [hW0]; exact heap_alloc_new _ _
  have HN := Lib.hid (TopL.new_any kq W0)
  have HC := Lib.hid (fun (X : World) (hX : Below W0.heap.size W0 X) => check_any Av cv v X ((hv.below hb).below hX))
  have HB := Lib.hid hb
  have HX := Lib.hid hx
  have HW := Lib.hid hW0
  have HR := Lib.hid (show chkQ kq v = if isKM kq = true then checkM v else 2 by unfold chkQ; rw [check_right])
  generalize chkQ kq v = R at *
  generalize checkM v = E at *
  generalize v.length = m at *
  clear hv hb hx hW0
  cases hk : isKM kq with
  | false =>
    have HF := Lib.hid (show R = 2 by rw [HR.out, hk]; rfl)
    rw [hk] at HN
    clear HR hk
    go_enter Tryz.func51, Tryz.ntmps51
    go_wp2_with fail
    rw [← HW.out]
    refine HN.out.mono ?_
    rintro e w1 ⟨rfl, hb1⟩
    have HB1 := Lib.hid (HB.out.trans ((hb1.alloc hb1.size (.cells #[.int .i64 0, .slice none 0 0] 141)).mono HB.out.size))
    clear hb1
    go_wp2
    go_ret
    rw [HF.out]
    exact ⟨rfl, HB1.out⟩
  | true =>
    have HF := Lib.hid (show R = E by rw [HR.out, hk]; rfl)
    rw [hk] at HN
    clear HR hk
    go_enter Tryz.func51, Tryz.ntmps51
    go_wp2_with fail
    rw [← HW.out]
    refine HN.out.mono ?_
    rintro e w1 ⟨rfl, hb1⟩
    have hb2 := hb1.alloc hb1.size (.cells #[.int .i64 kq, .slice none 0 0] 141)
    have X1 := (hb2.block w.heap.size (lt_of_block HX.out)).trans HX.out
    have x0 := (cell_of_row _ _ 0 _ _ _ X1).trans rfl
    have HC1 := Lib.hid (HC.out _ hb2)
    have HB1 := Lib.hid (HB.out.trans (hb2.mono HB.out.size))
    clear hb1 hb2 X1
    go_wp2_with fail
    refine HC1.out.mono ?_
    rintro e w2 ⟨rfl, hb2⟩
    have HB2 := Lib.hid (HB1.out.trans (hb2.mono HB1.out.size))
    clear hb2
    go_wp2
    go_ret
    rw [HF.out]
    exact ⟨rfl, HB2.out⟩

/-- What Rows tells. -/
def rowsE (kq : Int) (l : List Rv) (v : List Int) : Int := if chkQ kq v = 0 then (if refR l = 0 then fnearE l v else refR l) else chkQ kq v
def rowsL (kq : Int) (l : List Rv) (v : List Int) : List HitM := if rowsE kq l v = 0 then firstM kq.toNat (hitL l v) else []
theorem chkQ_ok {kq : Int} {v : List Int} (h : chkQ kq v = 0) : isKM kq = true ∧ right v = true := by
  unfold chkQ at h
  cases h1 : isKM kq <;> cases h2 : right v <;> simp [h1, h2] at h
  exact ⟨rfl, rfl⟩
theorem refR_ok {l : List Rv} (h : refR l = 0) : rightR l = true ∧ l.length ≤ 2000 := by
  unfold refR at h
  cases h1 : rightR l with
  | false => simp [h1] at h
  | true =>
    by_cases h2 : 2000 < l.length
    · simp [h1, h2] at h
    · exact ⟨rfl, by omega⟩
theorem nearL_E {k : Nat} {l : List Rv} {v : List Int} : nearL k l v = if fnearE l v = 0 then firstM k (hitL l v) else [] := by
  unfold nearL fnearE
  cases dimB l v <;> simp

set_option maxHeartbeats 1000000 in
theorem rowsQ_any (v : List Int) (Av : Option Addr) (cv : Nat) (kq : Int) (A : Option Addr) (c : Nat) (q : List Pr) (w : World) (hv : Vec .i32 w Av cv v) (h : Rws w A c q) :
    Calls Tryz.prog 29 #[.slice A q.length c, .agg #[.slice Av v.length cv, .int .i64 kq]] w (GivesHE w (rowsL kq (rvs q) v) (rowsE kq (rvs q) v)) := by
  obtain ⟨W0, hW0⟩ : ∃ W0, W0 = w.alloc (.cells #[.slice Av v.length cv, .int .i64 kq] 28) := ⟨_, rfl⟩
  have hb : Below w.heap.size w W0 := by rw [hW0]; exact (Below.refl _ w).alloc (Nat.le_refl _) _
  have hx : W0.heap[w.heap.size]? = some (.cells #[.slice Av v.length cv, .int .i64 kq] 28 (0, 0)) := by rw [hW0]; exact heap_alloc_new _ _
  have HCk := Lib.hid (checkQ_any v Av cv kq W0 (hv.below hb))
  have HRf := Lib.hid (fun (X : World) (hX : Below W0.heap.size W0 X) => refuseR_any A c q X ((h.below hb).below hX))
  have HNr := Lib.hid (fun (X : World) (hX : Below W0.heap.size W0 X) (h1 : chkQ kq v = 0) (h2 : refR (rvs q) = 0) => fnearest_any v Av cv kq A c q X ((hv.below hb).below hX) ((h.below hb).below hX) (refR_ok h2).1 (chkQ_ok h1).2 (by have := (refR_ok h2).2; rw [rvs_length] at this; exact this) (chkQ_ok h1).1)
  have HXb := Lib.hid (fun (X : World) (hX : Below W0.heap.size W0 X) => show X.cell? ⟨w.heap.size, 0, none⟩ = some (.slice Av v.length cv) ∧ X.cell? ⟨w.heap.size, 1, none⟩ = some (.int .i64 kq) from by
    have X1 := (hX.block w.heap.size (lt_of_block hx)).trans hx
    exact ⟨(cell_of_row _ _ 0 _ _ _ X1).trans rfl, (cell_of_row _ _ 1 _ _ _ X1).trans rfl⟩)
  have HB := Lib.hid hb
  have HW := Lib.hid hW0
  have HE := Lib.hid (show rowsE kq (rvs q) v = if chkQ kq v = 0 then (if refR (rvs q) = 0 then fnearE (rvs q) v else refR (rvs q)) else chkQ kq v from rfl)
  have HL := Lib.hid (show rowsL kq (rvs q) v = if rowsE kq (rvs q) v = 0 then firstM kq.toNat (hitL (rvs q) v) else [] from rfl)
  have HLn := Lib.hid (nearL_E (k := kq.toNat) (l := rvs q) (v := v))
  obtain ⟨L, hL⟩ : ∃ L, L = rowsL kq (rvs q) v := ⟨_, rfl⟩
  obtain ⟨E, hE⟩ : ∃ E, E = rowsE kq (rvs q) v := ⟨_, rfl⟩
  rw [← hL, ← hE] at HL
  rw [← hE] at HE
  rw [← hL, ← hE]
  generalize nearL kq.toNat (rvs q) v = NL at *
  generalize fnearE (rvs q) v = NE at *
  generalize firstM kq.toNat (hitL (rvs q) v) = FL at *
  generalize chkQ kq v = CQ at *
  generalize refR (rvs q) = RR at *
  generalize q.length = n at *
  generalize v.length = m at *
  clear hv h hb hx hW0 hL hE
  by_cases hc : CQ = 0
  · subst hc
    by_cases hr : RR = 0
    · subst hr
      have hE := HE.out
      have hL := HL.out
      simp at hE
      have HN := Lib.hid (show NL = L ∧ NE = E from ⟨by rw [hL, hE, HLn.out], hE.symm⟩)
      clear hE hL
      go_enter Tryz.func29, Tryz.ntmps29
      go_wp2_with fail
      rw [← HW.out]
      refine HCk.out.mono ?_
      rintro e w1 ⟨rfl, hb1⟩
      have HB1 := Lib.hid hb1
      have HR1 := Lib.hid (HRf.out w1 hb1)
      clear hb1
      go_wp2_with fail
      refine HR1.out.mono ?_
      rintro e w2 ⟨rfl, hb2⟩
      have hb02 := HB1.out.trans (hb2.mono HB1.out.size)
      have HB2 := Lib.hid hb02
      have HN2 := Lib.hid (HNr.out w2 hb02 (by simp) (by simp))
      obtain ⟨x0, x1⟩ := HXb.out w2 hb02
      clear hb2 hb02
      go_wp2_with fail
      refine HN2.out.mono ?_
      rintro e w3 ⟨A1, c1, rfl, ho, hb3⟩
      have hbb := HB.out.trans (HB2.out.mono HB.out.size)
      have HX3 := Lib.hid (And.intro (OwnH.mono ho hbb.size) (hbb.trans (hb3.mono hbb.size)))
      clear ho hb3 hbb
      go_wp2
      go_ret2
      obtain ⟨n1, n2⟩ := HN.out
      rw [← n1, ← n2]
      exact ⟨A1, c1, rfl, HX3.out.1, HX3.out.2⟩
    · have HF := Lib.hid (show E = RR ∧ L = [] from by
        have e1 : E = RR := by rw [HE.out]; simp [hr]
        exact ⟨e1, by rw [HL.out, e1, if_neg hr]⟩)
      have t1 : (RR != 0) = true := by simpa using hr
      clear HE HL
      go_enter Tryz.func29, Tryz.ntmps29
      go_wp2_with fail
      rw [← HW.out]
      refine HCk.out.mono ?_
      rintro e w1 ⟨rfl, hb1⟩
      have HB1 := Lib.hid hb1
      have HR1 := Lib.hid (HRf.out w1 hb1)
      clear hb1
      go_wp2_with fail
      refine HR1.out.mono ?_
      rintro e w2 ⟨rfl, hb2⟩
      have hb02 := HB1.out.trans (hb2.mono HB1.out.size)
      have HB2 := Lib.hid (HB.out.trans (hb02.mono HB.out.size))
      clear hb2 hb02
      go_wp2
      go_ret2
      rw [HF.out.1, HF.out.2]
      exact OwnH.nils HB2.out _
  · have HF := Lib.hid (show E = CQ ∧ L = [] from by
      have e1 : E = CQ := by rw [HE.out, if_neg hc]
      exact ⟨e1, by rw [HL.out, e1, if_neg hc]⟩)
    have t1 : (CQ != 0) = true := by simpa using hc
    clear HE HL
    go_enter Tryz.func29, Tryz.ntmps29
    go_wp2_with fail
    rw [← HW.out]
    refine HCk.out.mono ?_
    rintro e w1 ⟨rfl, hb1⟩
    have HB1 := Lib.hid (HB.out.trans (hb1.mono HB.out.size))
    clear hb1
    go_wp2
    go_ret2
    rw [HF.out.1, HF.out.2]
    exact OwnH.nils HB1.out _

end Go.Proofs.YtcekgllahlhaaaaGreatDoor

namespace Go.Proofs.YtcekgllahlhaaaaGreatDoor
open Go.RowKit Go.Shelf
set_option linter.unusedVariables false
set_option linter.unusedSimpArgs false
set_option maxRecDepth 100000
attribute [local go_sem] Oper.semAt_some

/-- The used ones of the first k cells whose slots are in. -/
def selI (f : Nat → Bool) (q : List Pa) : Nat → List (Nat × Pa)
  | 0 => []
  | k + 1 => selI f q k ++ (match q[k]? with | some p => if (p.e.u && f k) = true then [(k, p)] else [] | none => [])
theorem selI_yes {f : Nat → Bool} {q : List Pa} {k : Nat} {p : Pa} (h : q[k]? = some p) (hp : p.e.u = true) (hf : f k = true) : selI f q (k + 1) = selI f q k ++ [(k, p)] := by simp [selI, h, hp, hf]
theorem selI_no {f : Nat → Bool} {q : List Pa} {k : Nat} {p : Pa} (h : q[k]? = some p) (hp : (p.e.u && f k) = false) : selI f q (k + 1) = selI f q k := by simp [selI, h, hp]
def NxI (f : Nat → Bool) (q : List Pa) (pre : List (Nat × Pa)) (x : Nat × Pa) : Prop := q[x.1]? = some x.2 ∧ (x.2.e.u = true ∧ f x.1 = true) ∧ pre = selI f q x.1
theorem selI_len (f : Nat → Bool) (q : List Pa) (k : Nat) : (selI f q k).length ≤ k := by
  induction k with
  | zero => simp [selI]
  | succ k ih =>
    show (selI f q k ++ _).length ≤ k + 1
    rw [List.length_append]
    have : (match q[k]? with | some p => if (p.e.u && f k) = true then [(k, p)] else [] | none => []).length ≤ 1 := by
      split
      · split <;> simp
      · simp
    omega
theorem KpD.later {d : Nat} {w W X : World} (hb : Below w.heap.size w W) (hk : KpD d W.heap.size W X) : KpD d w.heap.size w X := (KpD.below hb).trans (hk.mono hb.size)

set_option maxHeartbeats 4000000 in
theorem usedI_in {w w0 : World} {A : Option Addr} {c : Nat} {q : List Pa} (f : Nat → Bool) (fid : FuncId) (cap : Array Value) (n d ba bh : Nat) (hn : 1 ≤ n)
    (hba : w.cell? ⟨ba, 0, none⟩ = some (.slice A q.length c)) (hbh : w.cell? ⟨bh, 0, none⟩ = some (.func (.func fid) #[] cap)) (h : Are w0 A c q) (hw0 : Below w0.heap.size w0 w) (hd1 : ba ≠ d) (hd2 : bh ≠ d) (hd : w0.heap.size ≤ d)
    (hen : ∀ v W, (callFunc fid (#[v] ++ cap)).run Tryz.prog W = .ok (.enter fid (#[v] ++ cap)) W)
    (hcl : ∀ k < q.length, ∀ X, KpD d w.heap.size w X → Calls Tryz.prog fid (#[.int .i64 k] ++ cap) X fun e w' => e = .returned (.bool (f k)) ∧ Below X.heap.size X w') :
    SeqOwn Fence.wide n Tryz.prog 91 #[.pointer (some ⟨ba, 0, none⟩), .pointer (some ⟨bh, 0, none⟩)] encC (fun _ _ => False) (fun _ _ _ => True) (KpD d) (NxI f q) (fun xs => xs = selI f q q.length) (fun _ => True) w := by
  intro l J Jx W hW hJ hJx hY h0
  have hca : W.cell? ⟨ba, 0, none⟩ = some (.slice A q.length c) := (hW.cell (p := ⟨ba, 0, none⟩) (World.block_lt_of_cell? w _ hba)).trans hba
  have hch : W.cell? ⟨bh, 0, none⟩ = some (.func (.func fid) #[] cap) := (hW.cell (p := ⟨bh, 0, none⟩) (World.block_lt_of_cell? w _ hbh)).trans hbh
  have hbh' : bh < W.heap.size := World.block_lt_of_cell? W _ hch
  have hwW : Below w0.heap.size w0 W := hw0.trans (hW.mono hw0.size)
  obtain ⟨m, hm⟩ : ∃ m, m = q.length := ⟨_, rfl⟩
  have hmx : m ≤ 9223372036854775807 := by rw [hm]; exact h.many
  have HQ := Lib.hid h
  have HWW := Lib.hid hwW
  have HJ := Lib.hid hJ
  have HY := Lib.hid hY
  have H0 := Lib.hid h0
  have HM := Lib.hid hm
  have HCL := Lib.hid hcl
  have HW := Lib.hid hW
  have HD := Lib.hid hd
  rw [← hm] at hca
  clear hba hbh h hW hJ hJx hY h0 hm hw0 hwW hcl hd
  refine callsIn_of_wp Tryz.func91 rfl trivial ?_ rfl
  simp only [Tryz.ntmps91, List.size_toArray, List.length_cons, List.length_nil, Nat.reduceAdd, Nat.reduceSub, Array.replicate_succ, Array.replicate_zero, List.push_toArray, List.append_toArray, List.nil_append, List.cons_append]
  gi_wp2
  gi_loopw [9] (fun i wr => ∃ k : Nat, i = .int .i64 k ∧ k ≤ m ∧ Hid (J (selI f q k) wr ∧ KpD d W.heap.size W wr)) (fun i _ => m - (match i with | .int _ k => k.toNat | _ => 0))
  case atStart => exact ⟨0, rfl, Nat.zero_le _, Lib.hid ⟨H0.out, KpD.refl _ _ _⟩⟩
  case round =>
    obtain ⟨k, rfl, hk, HH⟩ := hrel
    by_cases hkm : k < m
    · have hkk : (k : Int) < m := by omega
      have k0 : (0 : Int) ≤ (k : Int) := by omega
      obtain ⟨b, o, p, rfl, hp, hb, d0, d1, d2, d3, d4, hv, hf⟩ := HQ.out.at_ (i := k) (by rw [← HM.out]; exact hkm)
      have hne : b ≠ d := by have := HD.out; omega
      have HE := Lib.hid (KpD.are HWW.out HWW.out.size HH.out.2)
      have e0 : wr.cell? ⟨b, o + k * 5, none⟩ = some _ := HE.out ⟨b, o + k * 5, none⟩ hb hne _ d0
      have e1 : wr.cell? ⟨b, o + k * 5 + 1, none⟩ = some _ := HE.out ⟨b, o + k * 5 + 1, none⟩ hb hne _ d1
      have e2 : wr.cell? ⟨b, o + k * 5 + 2, none⟩ = some _ := HE.out ⟨b, o + k * 5 + 2, none⟩ hb hne _ d2
      have e3 : wr.cell? ⟨b, o + k * 5 + 3, none⟩ = some _ := HE.out ⟨b, o + k * 5 + 3, none⟩ hb hne _ d3
      have e4 : wr.cell? ⟨b, o + k * 5 + 4, none⟩ = some _ := HE.out ⟨b, o + k * 5 + 4, none⟩ hb hne _ d4
      have hba1 := cel_alloc wr p.e.u p.e.i p.e.b p.e.f p.B p.e.x.length p.c
      obtain ⟨W1, hW1⟩ : ∃ W1, W1 = wr.alloc (.cells #[.bool p.e.u, .int .u64 p.e.i, .int .u64 p.e.b, .int .u64 p.e.f, .slice p.B p.e.x.length p.c] 61) := ⟨_, rfl⟩
      rw [← hW1] at hba1
      have hk1 : KpD d W.heap.size W W1 := HH.out.2.trans ((KpD.below (d := d) hba1).mono HH.out.2.size)
      have hx1 : W1.heap[wr.heap.size]? = some (.cells #[.bool p.e.u, .int .u64 p.e.i, .int .u64 p.e.b, .int .u64 p.e.f, .slice p.B p.e.x.length p.c] 61 (0, 0)) := by rw [hW1]; exact heap_alloc_new _ _
      have hfn : W1.cell? ⟨bh, 0, none⟩ = some (.func (.func fid) #[] cap) := hk1.cell hch hbh' hd2
      have HC := Lib.hid (HCL.out k (by rw [← HM.out]; exact hkm) W1 (KpD.later HW.out hk1))
      have HJ1 := Lib.hid (HJ.out _ wr W1 HH.out.1 (Turn.of_below hba1))
      have HK1 := Lib.hid hk1
      have HX1 := Lib.hid hx1
      have HW1 := Lib.hid hW1
      have HP := Lib.hid hp
      clear hv hf hp d0 d1 d2 d3 d4 hba1 hk1 HE
      cases hP : p.e.u with
      | false =>
        have HS := Lib.hid (selI_no (f := f) HP.out (by rw [hP]; rfl))
        have HH2 := Lib.hid (show J (selI f q (k + 1)) W1 ∧ KpD d W.heap.size W W1 from by rw [HS.out]; exact ⟨HJ1.out, HK1.out⟩)
        rw [hP] at e0 HW1 hx1
        have x0 := (cell_of_row _ _ 0 _ _ _ hx1).trans rfl
        clear hP hW1 hx1
        gi_wp2_with (rw [← HW1.out])
        refine ⟨fun f h => (by cases h), ?_⟩
        gi_wp2
        refine ⟨fun f h => (by cases h), ?_⟩
        gi_wp2
        go_roundw
        case rel => exact ⟨k + 1, by simp, by omega, HH2⟩
        case measure => simp; omega
      | true =>
        rw [hP] at e0 HW1 hx1
        have x0 := (cell_of_row _ _ 0 _ _ _ hx1).trans rfl
        have x1 := (cell_of_row _ _ 1 _ _ _ hx1).trans rfl
        have x2 := (cell_of_row _ _ 2 _ _ _ hx1).trans rfl
        have x3 := (cell_of_row _ _ 3 _ _ _ hx1).trans rfl
        have x4 := (cell_of_row _ _ 4 _ _ _ hx1).trans rfl
        have HPu := Lib.hid hP
        cases hF : f k with
        | false =>
          have HS := Lib.hid (selI_no (f := f) HP.out (by rw [hP, hF]; rfl))
          rw [hF] at HC
          clear hP hW1 hx1 hF
          gi_wp2_with (rw [← HW1.out])
          refine ⟨trivial, (callsIn_wide.2 HC.out).mono ?_⟩
          rintro e w2 ⟨rfl, hb2⟩
          have HH2 := Lib.hid (show J (selI f q (k + 1)) w2 ∧ KpD d W.heap.size W w2 from by
            rw [HS.out]
            exact ⟨HJ.out _ W1 w2 HJ1.out (Turn.of_below (hb2.mono (Nat.le_refl _))), HK1.out.trans ((KpD.below (d := d) hb2).mono HK1.out.size)⟩)
          clear hb2
          gi_wp2
          refine ⟨fun f h => (by cases h), ?_⟩
          gi_wp2
          go_roundw
          case rel => exact ⟨k + 1, by simp, by omega, HH2⟩
          case measure => simp; omega
        | true =>
          have HS := Lib.hid (selI_yes (f := f) HP.out hP hF)
          have HN := Lib.hid (show NxI f q (selI f q k) (k, p) from ⟨HP.out, ⟨hP, hF⟩, rfl⟩)
          rw [hF] at HC
          clear hP hW1 hx1 hF
          gi_wp2_with (rw [← HW1.out])
          refine ⟨trivial, (callsIn_wide.2 HC.out).mono ?_⟩
          rintro e w2 ⟨rfl, hb2⟩
          have hx2 := (hb2.block _ (lt_of_block HX1.out)).trans HX1.out
          rw [HPu.out] at hx2
          have y0 := (cell_of_row _ _ 0 _ _ _ hx2).trans rfl
          have y1 := (cell_of_row _ _ 1 _ _ _ hx2).trans rfl
          have y2 := (cell_of_row _ _ 2 _ _ _ hx2).trans rfl
          have y3 := (cell_of_row _ _ 3 _ _ _ hx2).trans rfl
          have y4 := (cell_of_row _ _ 4 _ _ _ hx2).trans rfl
          have hk2 : KpD d W.heap.size W w2 := HK1.out.trans ((KpD.below (d := d) hb2).mono HK1.out.size)
          obtain ⟨fn, tmps, assign, body, hy, hR⟩ := HY.out (selI f q k) (k, p) w2 (HJ.out _ W1 w2 HJ1.out (Turn.of_below (hb2.mono (Nat.le_refl _)))) hk2.size trivial HN.out
          rw [← HS.out] at hR
          have HK2 := Lib.hid hk2
          have HR := Lib.hid hR
          unfold encC at hy
          dsimp only at hy
          rw [HPu.out] at hy
          clear hR hb2 hx2 hk2 x0 x1 x2 x3 x4
          gi_wp2
          refine HR.out.mono ?_
          rintro e W3 (⟨rfl, hJ3, hk3⟩ | ⟨rfl, hJx3⟩)
          · have HH3 := Lib.hid (And.intro hJ3 (HK2.out.trans hk3))
            clear hJ3 hk3
            gi_wp2
            go_roundw
            case rel => exact ⟨k + 1, by simp, by omega, HH3⟩
            case measure => simp; omega
          · have HX3 := Lib.hid hJx3
            clear hJx3
            gi_wp2
            refine bodyPost_ret (results_none rfl _ _ _) rfl ?_
            exact ⟨⟨_, rfl⟩, .inr ⟨_, trivial, HX3.out⟩⟩
    · obtain rfl : k = m := by omega
      have HF := Lib.hid (show J (selI f q q.length) wr by rw [← HM.out]; exact HH.out.1)
      gi_wp2
      go_end0
      exact ⟨⟨_, rfl⟩, .inl ⟨_, rfl, HF.out⟩⟩

theorem usedF_any (A : Option Addr) (n c : Nat) (fid : FuncId) (cap : Array Value) (w : World) : Calls Tryz.prog 56 #[.agg #[.slice A n c], .func (.func fid) #[] cap] w fun e w' => e = .returned (.func (.func 91) #[] #[.pointer (some ⟨w.heap.size, 0, none⟩), .pointer (some ⟨w.heap.size + 1, 0, none⟩)]) ∧ w' = (w.alloc (.cells #[.slice A n c] 24)).alloc (.cells #[.func (.func fid) #[] cap] 87) := by
  go_enter Tryz.func56, Tryz.ntmps56
  go_wp2
  go_ret
  exact ⟨rfl, rfl⟩

end Go.Proofs.YtcekgllahlhaaaaGreatDoor

namespace Go.Proofs.YtcekgllahlhaaaaGreatDoor
open Go.RowKit Go.Shelf
open TopL (HitM z2 flat flat_length flat_append flat_cons flat_get flat_cell firstM Hits isKM)
set_option linter.unusedVariables false
set_option linter.unusedSimpArgs false
set_option maxRecDepth 100000
attribute [local go_sem] Oper.semAt_some

/-- What is laid so far, in a slice whose variable is block d. -/
def GrI (tl te : TypeId) (size base d : Nat) (val : List (Nat × Pa) → List Value) (W0 : World) (pre : List (Nat × Pa)) (W : World) : Prop :=
  ∃ A c, Boxed W d tl (.slice A pre.length c) ∧ W.ownsRow base te size (.slice A pre.length c) pre.length (val pre) ∧ Turn (fun i => i = d) W0 W
section
variable {tl te : TypeId} {size base d : Nat} {val : List (Nat × Pa) → List Value} {W0 W W' : World} {pre : List (Nat × Pa)}
theorem GrI.below (h : GrI tl te size base d val W0 pre W) (hb : Below W.heap.size W W') : GrI tl te size base d val W0 pre W' := by
  obtain ⟨A, c, h1, h3, h4⟩ := h
  exact ⟨A, c, (hb.block _ h1.lt).trans h1, row_turn h3 (Turn.of_below (S := fun _ => False) hb) (fun _ _ e => e), h4.trans (Turn.of_below (S := fun _ => False) hb) (by simp)⟩
theorem GrI.put (h : GrI tl te size base d val W0 pre W) {k : Nat} {o : Obj} (o' : Obj) (hk0 : W0.heap.size ≤ k) (hk : W.heap[k]? = some o) (ho : o.isCells = false) : GrI tl te size base d val W0 pre (W.putObj k o') := by
  obtain ⟨A, c, h1, h3, h4⟩ := h
  exact ⟨A, c, put_other hk ho h1 rfl, row_put h3 o' hk ho, h4.trans (turn_put _ _ _) (fun i hi => .inr (by omega))⟩
/-- One more is laid: all that the round leaves. -/
theorem gr_step {W3 w4 : World} {x : Nat × Pa} {A0 A1 : Option Addr} {c0 c1 : Nat} {one : List Value} (h1 : Boxed W d tl (.slice A0 pre.length c0)) (h3 : W.ownsRow base te size (.slice A0 pre.length c0) pre.length (val pre)) (h4 : Turn (fun i => i = d) W0 W) (hz : W0.heap.size + 2 ≤ base) (hd : d < W0.heap.size) (hv : val (pre ++ [x]) = val pre ++ one)
    (hb : Below W.heap.size W W3) (ho : w4.ownsRow base te size (.slice A1 (pre.length + 1) c1) (pre.length + 1) (val pre ++ one)) (hg : W3.grownBy w4 (blk A0)) :
    w4.cell? ⟨d, 0, none⟩ = some (.slice A0 pre.length c0) ∧ w4.frozen? ⟨d, 0, none⟩ = false ∧
    (KeepsFrom W0.heap.size W (w4.setCell ⟨d, 0, none⟩ (.slice A1 (pre.length + 1) c1)) ∧ KpD d (W0.heap.size + 2) W (w4.setCell ⟨d, 0, none⟩ (.slice A1 (pre.length + 1) c1)) ∧ GrI tl te size base d val W0 (pre ++ [x]) (w4.setCell ⟨d, 0, none⟩ (.slice A1 (pre.length + 1) c1))) := by
  have hA : ∀ i, blk A0 = some i → base ≤ i ∧ i < W.heap.size := fun i hi => World.ownsRow.lt h3 i (by rw [own_blk]; exact hi)
  have h1l := h1.lt
  have t4 : Turn (fun i => blk A0 = some i) W3 w4 := Turn.of_grown hg (fun i hi => .inl hi)
  have tW : Turn (fun i => blk A0 = some i) W w4 := (Turn.of_below (S := fun i => blk A0 = some i) hb).trans t4 (fun i hi => .inl hi)
  have hd4 : Boxed w4 d tl (.slice A0 pre.length c0) := (tW.block _ h1l (fun e => by have := hA _ e; omega)).trans h1
  have t5 : Turn (fun i => i = d) w4 (w4.setCell ⟨d, 0, none⟩ (.slice A1 (pre.length + 1) c1)) := ⟨rfl, rfl, rfl, by simp [World.setCell], fun k _ hk => Below.heap_setCell _ _ _ _ hk⟩
  have tt : Turn (fun i => blk A0 = some i ∨ i = d) W (w4.setCell ⟨d, 0, none⟩ (.slice A1 (pre.length + 1) c1)) :=
    (tW.mono (S' := fun i => blk A0 = some i ∨ i = d) (fun i hi => .inl hi)).trans t5 (fun i hi => .inl (.inr hi))
  refine ⟨hd4.cell, hd4.frozen, keeps_turn tt ?_, kpd_turn tt ?_, A1, c1, ?_, ?_, ?_⟩
  · rintro i (hi | rfl)
    · rcases h3.2 with ⟨e, _⟩ | ⟨g', cap, cur, e, _, hh, _⟩
      · injection e with e1; rw [e1] at hi; cases hi
      · injection e with e1
        rw [e1] at hi
        have : g' = i := by simpa [blk] using hi
        subst this
        exact ⟨_, hh, rfl⟩
    · exact ⟨_, h1, rfl⟩
  · rintro i (hi | rfl)
    · exact .inr (by have := hA i hi; omega)
    · exact .inl rfl
  · rw [List.length_append]; exact hd4.set _
  · rw [List.length_append, hv]
    refine row_turn ho t5 (fun i hi e => ?_)
    have := (World.ownsRow.lt ho i hi).1
    omega
  · refine h4.trans tt ?_
    rintro i (hi | rfl)
    · exact .inr (by have := hA i hi; omega)
    · exact .inl rfl
end

/-- The row of a cell. -/
def toPr (x : Nat × Pa) : Pr := ⟨x.2.e.i, x.2.e.x, x.2.B, x.2.c⟩
def valR (pre : List (Nat × Pa)) : List Value := flatR (pre.map toPr)
theorem valR_snoc (pre : List (Nat × Pa)) (x : Nat × Pa) : valR (pre ++ [x]) = valR pre ++ [.int .u64 x.2.e.i, .slice x.2.B x.2.e.x.length x.2.c] := by
  unfold valR; rw [List.map_append, flatR_append]; rfl

set_option maxHeartbeats 4000000 in
theorem rowsOf_any {w w0 : World} {A : Option Addr} {c : Nat} {q : List Pa} (f : Nat → Bool) (fid : FuncId) (cap : Array Value) (ba bh : Nat)
    (hba : w.cell? ⟨ba, 0, none⟩ = some (.slice A q.length c)) (hbh : w.cell? ⟨bh, 0, none⟩ = some (.func (.func fid) #[] cap)) (h : Are w0 A c q) (hw0 : Below w0.heap.size w0 w) (hq : q.length ≤ 100000)
    (hen : ∀ v W, (callFunc fid (#[v] ++ cap)).run Tryz.prog W = .ok (.enter fid (#[v] ++ cap)) W)
    (hcl : ∀ k < q.length, ∀ X, KpD w.heap.size w.heap.size w X → Calls Tryz.prog fid (#[.int .i64 k] ++ cap) X fun e w' => e = .returned (.bool (f k)) ∧ Below X.heap.size X w') :
    Calls Tryz.prog 55 #[.func (.func 91) #[] #[.pointer (some ⟨ba, 0, none⟩), .pointer (some ⟨bh, 0, none⟩)]] w fun e w' => ∃ A1 c1, e = .returned (.slice A1 ((selI f q q.length).map toPr).length c1) ∧ OwnR w.heap.size w' A1 c1 ((selI f q q.length).map toPr) ∧ Below w.heap.size w w' := by
  refine (callsIn_wide (n := 3)).1 ?_
  refine callsIn_of_wp_marks Tryz.func55 rfl trivial ?_ rfl
  simp only [Tryz.ntmps55, List.size_toArray, List.length_cons, List.length_nil, Nat.reduceAdd, Nat.reduceSub, Array.replicate_succ, Array.replicate_zero, List.push_toArray, List.append_toArray, List.nil_append, List.cons_append]
  obtain ⟨W0, hW0⟩ : ∃ W0, W0 = w.alloc (.cells #[.slice none 0 0] 45) := ⟨_, rfl⟩
  have hz0 : W0.heap.size = w.heap.size + 1 := by rw [hW0]; simp
  have hb0 : Below w.heap.size w W0 := by rw [hW0]; exact (Below.refl _ w).alloc (Nat.le_refl _) _
  have x0 : Boxed W0 w.heap.size 45 (.slice none 0 0) := by rw [hW0]; exact Boxed.new w _ _
  have lba := World.block_lt_of_cell? w _ hba
  have lbh := World.block_lt_of_cell? w _ hbh
  dsimp only at lba lbh
  have hseq := usedI_in (w := W0) (w0 := w0) f fid cap 2 w.heap.size ba bh (by omega) ((hb0.cell (p := ⟨ba, 0, none⟩) lba).trans hba) ((hb0.cell (p := ⟨bh, 0, none⟩) lbh).trans hbh) h (hw0.trans (hb0.mono hw0.size)) (by omega) (by omega) hw0.size hen
    (fun k hk X hX => hcl k hk X (KpD.later hb0 hX))
  have HZ0 := Lib.hid hz0
  have HX := Lib.hid (And.intro x0 hb0)
  have HSeq := Lib.hid hseq
  have HQl := Lib.hid hq
  have HW0 := Lib.hid hW0
  clear h hq hz0 hb0 x0 hseq hW0 hba hbh hw0 hen hcl lba lbh
  gi_wp2_with (rw [← HW0.out])
  obtain ⟨x0, hb0⟩ := HX.out
  refine range_box2 rfl (by omega) (gf := 91) (lb := #[.pointer (some ⟨ba, 0, none⟩), .pointer (some ⟨bh, 0, none⟩)]) rfl trivial (enters_of Tryz.func91 (by kernel_rfl) rfl) HSeq.out
    (fun W k h => h.elim) KpD.trans (fun B W k o o' _ hk ho => KpD.put hk ho) (fun _ => rfl) (fun x => .cells #[.bool x.2.e.u, .int .u64 x.2.e.i, .int .u64 x.2.e.b, .int .u64 x.2.e.f, .slice x.2.B x.2.e.x.length x.2.c] 61) (fun _ => rfl) (fun B W o => ⟨((Below.refl _ W).alloc (Nat.le_refl _) o).size, fun i o2 _ _ hi _ => (Below.heap_alloc W o i (lt_of_block hi)).trans hi⟩) (fun _ _ _ _ _ => trivial) (fun _ _ _ _ _ _ _ _ _ => trivial)
    (GrI 45 52 2 (w.heap.size + 3) w.heap.size valR W0) (fun _ _ _ => False) ?io ?ixo ?ip ?ixp ?h0
    (fun x gb => { tmps := #[.func (.func 91) #[] #[.pointer (some ⟨ba, 0, none⟩), .pointer (some ⟨bh, 0, none⟩)], undef, .slice none 0 0, .pointer (some ⟨w.heap.size, 0, none⟩), undef, .pointer (some ⟨gb, 0, none⟩), .func (.func 91) #[] #[.pointer (some ⟨ba, 0, none⟩), .pointer (some ⟨bh, 0, none⟩)], .int .i64 x.1, .agg #[.bool x.2.e.u, .int .u64 x.2.e.i, .int .u64 x.2.e.b, .int .u64 x.2.e.f, .slice x.2.B x.2.e.x.length x.2.c], undef, undef, undef, undef, undef, undef, undef, undef, undef, undef], defers := [] }) ?assign ?body ?done ?stop
  case io => exact fun s X Y h ht => h.below (Turn.below ht (Nat.le_refl _) (fun i e => e.2.elim))
  case ixo => exact fun _ _ _ _ h _ => h
  case ip => exact fun s X k o o' h hk ho hc => h.put o' hk ho hc
  case ixp => exact fun _ _ _ _ _ _ h _ _ _ => h
  case h0 =>
    intro W hb _
    exact GrI.below (W := W0) ⟨none, 0, x0, World.ownsRow_nil _ _ _ _, Turn.refl _ _⟩ hb
  case assign =>
    intro l x W K hK
    dsimp only [encC]
    gi_wp2
    exact hK
  case body =>
    rintro l pre ⟨k, p⟩ gb W V o o' hI hzg hWV hlo hoc hsz hgg hg _ ⟨hk, hPu, hpre⟩
    dsimp only at hk hPu hpre hWV hlo hg ⊢
    have hkl : k < q.length := (List.getElem?_eq_some_iff.1 hk).1
    have hb1 : Below V.heap.size V (V.alloc (.cells #[.bool p.e.u, .int .u64 p.e.i, .int .u64 p.e.b, .int .u64 p.e.f, .slice p.B p.e.x.length p.c] 61)) := cel_alloc _ _ _ _ _ _ _ _
    have hIW : GrI 45 52 2 (w.heap.size + 3) w.heap.size valR W0 pre W := by rw [hWV]; exact (hI.below hb1).put o' (by omega) hlo hoc
    obtain ⟨A0, c0, h1, h3, h4⟩ := hIW
    have hz0 := HZ0.out
    have hsl : pre.length ≤ 100000 := by
      have e2 := selI_len f q k
      rw [← hpre] at e2
      have e3 := HQl.out
      omega
    have hWs : w.heap.size + 3 ≤ W.heap.size := by omega
    have b1 := (cell_of_row _ _ 1 _ _ _ hg).trans rfl
    have b4 := (cell_of_row _ _ 4 _ _ _ hg).trans rfl
    have c0' := h1.cell
    have HSt := Lib.hid (fun (A1 : Option Addr) (c1 : Nat) (W3 w4 : World) (hb : Below W.heap.size W W3) (ho : w4.ownsRow (w.heap.size + 3) 52 2 (.slice A1 (pre.length + 1) c1) (pre.length + 1) (valR pre ++ [.int .u64 p.e.i, .slice p.B p.e.x.length p.c])) (hg : W3.grownBy w4 (blk A0)) => gr_step (x := (k, p)) h1 h3 h4 (by omega) (by omega) (valR_snoc pre (k, p)) hb ho hg)
    have HOw := Lib.hid (fun (X : World) (hX : Below W.heap.size W X) => show X.ownsRow (w.heap.size + 3) 52 2 (.slice A0 pre.length c0) pre.length (valR pre) from row_turn h3 (Turn.of_below (S := fun _ => False) hX) (fun _ _ e => e))
    have HSL := Lib.hid hsl
    have HWS := Lib.hid hWs
    clear hI hzg hWV hlo hoc hsz hgg hg hk hPu hpre hkl hb1 h1 h3 h4 hz0 hsl hWs
    generalize hsn : pre.length = sn at *
    have HSN := Lib.hid hsn
    clear hsn
    gi_wp2_with (gi_at_builtin; have HB3 := Lib.hid (show Below W.heap.size W (W.alloc (.cells #[.int .u64 p.e.i, .slice p.B p.e.x.length p.c] 52)) from (Below.refl _ W).alloc (Nat.le_refl _) _); refine gapp_in rfl (.tmp 9) (.tmp 16) appR rfl (w.heap.size + 3) A0 c0 sn (valR pre) rfl (HOw.out _ HB3.out) (some ⟨W.heap.size, 0, none⟩) 1 1 [.int .u64 p.e.i, .slice p.B p.e.x.length p.c] rfl (Read.two rfl rfl (cell_laid _ _ _ 0) (cell_laid _ _ _ 1)) (by have := HSL.out; omega) (Nat.le_trans HWS.out HB3.out.size) ?_; intro A5 c5 w4 ho5 hg5 _; obtain ⟨v4, f4, hX4⟩ := HSt.out A5 c5 _ w4 HB3.out ho5 hg5; have HX4 := Lib.hid hX4; clear ho5 hg5 hX4)
    exact HX4.out
  case done =>
    rintro xs W rfl ⟨A0, c0, h1, h3, h4⟩ hK
    have hz0 := HZ0.out
    have hbw : Below w.heap.size w W := hb0.trans (h4.below hb0.size (fun i hi => by omega))
    have c0' := h1.cell
    have HF := Lib.hid (show OwnR w.heap.size (W.putObj W0.heap.size (.deferred none)) A0 c0 ((selI f q q.length).map toPr) ∧ Below w.heap.size w (W.putObj W0.heap.size (.deferred none)) from
      ⟨by unfold OwnR; rw [List.length_map]; exact World.ownsRow.mono (row_put h3 _ hK rfl) (by omega), hbw.trans ((turn_put _ _ _).below hbw.size (fun i hi => by omega))⟩)
    have HK := Lib.hid hK
    have HLn := Lib.hid (show ((selI f q q.length).map toPr).length = (selI f q q.length).length from List.length_map _)
    generalize (selI f q q.length).length = sn at *
    clear h1 h3 h4 hK hz0 hbw
    gi_wp2
    refine ⟨by simp, .inl ⟨_, _, rfl, run_takeDeferred HK.out, ?_⟩⟩
    refine ⟨_, results_tmp rfl _ _ _, A0, c0, ?_, HF.out.1, HF.out.2⟩
    rw [HLn.out]; rfl
  case stop =>
    rintro c pre W _ h _
    exact h.elim

end Go.Proofs.YtcekgllahlhaaaaGreatDoor

namespace Go.Proofs.YtcekgllahlhaaaaGreatDoor
open Go.RowKit Go.Shelf
open TopL (HitM z2 flat flat_length flat_append flat_cons flat_get flat_cell firstM Hits isKM)
set_option linter.unusedVariables false
set_option linter.unusedSimpArgs false
set_option maxRecDepth 100000

/-- The rows of the used ones of the first k cells whose slots are in. -/
def inK (f : Nat → Bool) (l : List Ce) : Nat → List Rv
  | 0 => []
  | k + 1 => inK f l k ++ (if ((ceAt l k).u && f k) = true then [((ceAt l k).i, (ceAt l k).x)] else [])
theorem selI_rvs (f : Nat → Bool) (q : List Pa) : ∀ k, k ≤ q.length → rvs ((selI f q k).map toPr) = inK f (ces q) k := by
  intro k
  induction k with
  | zero => intro _; rfl
  | succ k ih =>
    intro hk
    obtain ⟨p, hp⟩ : ∃ p, q[k]? = some p := ⟨_, List.getElem?_eq_getElem (by omega)⟩
    have hc := ces_ceAt hp
    show rvs ((selI f q k ++ _).map toPr) = inK f (ces q) k ++ _
    rw [List.map_append, rvs_append, ih (by omega), hc, hp]
    congr 1
    by_cases h : (p.e.u && f k) = true
    · simp [h, rvs, toPr]
    · simp [h, rvs]
theorem inK_congr {f g : Nat → Bool} {l : List Ce} : ∀ k, (∀ j, j < k → f j = g j) → inK f l k = inK g l k := by
  intro k
  induction k with
  | zero => intro _; rfl
  | succ k ih =>
    intro h
    show inK f l k ++ _ = inK g l k ++ _
    rw [ih (fun j hj => h j (by omega)), h k (by omega)]
theorem inK_len (f : Nat → Bool) (l : List Ce) (k : Nat) : (inK f l k).length ≤ k := by
  induction k with
  | zero => simp [inK]
  | succ k ih =>
    show (inK f l k ++ _).length ≤ k + 1
    rw [List.length_append]
    split
    · simp; omega
    · simp; omega
theorem inK_right {f : Nat → Bool} {l : List Ce} (hr : arB l = true) : ∀ k, k ≤ l.length → rightR (inK f l k) = true := by
  intro k
  induction k with
  | zero => intro _; rfl
  | succ k ih =>
    intro hk
    unfold rightR at *
    show (inK f l k ++ _).all _ = true
    rw [List.all_append, ih (by omega)]
    split
    · rename_i h
      have hu : (ceAt l k).u = true := by simp at h; exact h.1
      have hm := may_used (arB_may hr (ceAt l k) (List.mem_of_getElem? (at_ce (by omega)))) hu
      have hv := sound_ver hm
      unfold verR at hv
      simp at hv
      simp [hv.1]
    · rfl
theorem selI_mem {f : Nat → Bool} {q : List Pa} {x : Nat × Pa} : ∀ k, x ∈ selI f q k → x.2 ∈ q := by
  intro k
  induction k with
  | zero => intro h; simp [selI] at h
  | succ k ih =>
    intro h
    change x ∈ selI f q k ++ _ at h
    rcases List.mem_append.1 h with h | h
    · exact ih h
    · split at h
      · rename_i p hp
        split at h
        · obtain rfl : x = (k, p) := by simpa using h
          exact List.mem_of_getElem? hp
        · simp at h
      · simp at h

/-- What Scan tells of an arena. -/
def scanE (kq : Int) (l : List Ce) (f : Nat → Bool) (v : List Int) : Int := if chkQ kq v = 0 then (if chkA l = 0 then fnearE (inK f l l.length) v else chkA l) else chkQ kq v
def scanL (kq : Int) (l : List Ce) (f : Nat → Bool) (v : List Int) : List HitM := if scanE kq l f v = 0 then firstM kq.toNat (hitL (inK f l l.length) v) else []

/-! ### the mask's closure -/
open MskL (Mk Fine hasB mv) in
theorem scan1_any (k : Int) (m : Mk) (g : Nat) (w : World) (hm : Fine m) (hk : -9223372036854775808 ≤ k ∧ k ≤ 9223372036854775807) (h0 : w.cell? ⟨g, 0, none⟩ = some (.int .u64 m.1)) (h1 : w.cell? ⟨g, 1, none⟩ = some (.int .u64 m.2)) :
    Calls Tryz.prog 52 #[.int .i64 k, .pointer (some ⟨g, 0, none⟩)] w fun e w' => e = .returned (.bool (hasB m k)) ∧ Below w.heap.size w w' := by
  have HC := Lib.hid (MskL.has_any m k w hm hk)
  unfold MskL.mv at HC
  generalize hasB m k = R at *
  clear hm hk
  go_enter Tryz.func52, Tryz.ntmps52
  go_wp2_with fail
  refine HC.out.mono ?_
  rintro e w1 ⟨rfl, hb1⟩
  have HB1 := Lib.hid hb1
  clear hb1
  go_wp2
  go_ret
  exact ⟨rfl, HB1.out⟩

theorem usedG_any (A : Option Addr) (n c : Nat) (fid : FuncId) (cap : Array Value) (w : World) : Calls Tryz.prog 56 #[.agg #[.slice A n c], .func (.func fid) #[] cap] w fun e w' => e = .returned (.func (.func 91) #[] #[.pointer (some ⟨w.heap.size, 0, none⟩), .pointer (some ⟨w.heap.size + 1, 0, none⟩)]) ∧ w'.cell? ⟨w.heap.size, 0, none⟩ = some (.slice A n c) ∧ w'.cell? ⟨w.heap.size + 1, 0, none⟩ = some (.func (.func fid) #[] cap) ∧ Below w.heap.size w w' := by
  refine (usedF_any A n c fid cap w).mono ?_
  rintro e w' ⟨rfl, rfl⟩
  refine ⟨rfl, ?_, ?_, ((Below.refl _ w).alloc (Nat.le_refl _) _).alloc (by simp) _⟩
  · exact Boxed.cell ((Boxed.new w 24 (.slice A n c)).alloc _)
  · have h := Boxed.new (w.alloc (.cells #[.slice A n c] 24)) 87 (.func (.func fid) #[] cap)
    rw [World.size_alloc] at h; exact Boxed.cell h

open MskL (Mk Fine hasB) in
set_option maxHeartbeats 2000000 in
theorem scan_any (v : List Int) (Av : Option Addr) (cv : Nat) (kq : Int) (A : Option Addr) (c : Nat) (q : List Pa) (m : Mk) (w : World) (hv : Vec .i32 w Av cv v) (h : Are w A c q) (hm : Fine m) :
    Calls Tryz.prog 24 #[.agg #[.slice A q.length c], .agg #[.int .u64 m.1, .int .u64 m.2], .agg #[.slice Av v.length cv, .int .i64 kq]] w (GivesHE w (scanL kq (ces q) (fun (k : Nat) => hasB m (k : Int)) v) (scanE kq (ces q) (fun (k : Nat) => hasB m (k : Int)) v)) := by
  obtain ⟨W0, hW0⟩ : ∃ W0, W0 = ((w.alloc (.cells #[.slice A q.length c] 24)).alloc (.cells #[.int .u64 m.1, .int .u64 m.2] 70)).alloc (.cells #[.slice Av v.length cv, .int .i64 kq] 28) := ⟨_, rfl⟩
  have hb : Below w.heap.size w W0 := by rw [hW0]; exact (((Below.refl _ w).alloc (Nat.le_refl _) _).alloc (by simp) _).alloc (by simp; omega) _
  have hz : W0.heap.size = w.heap.size + 3 := by rw [hW0]; simp
  have hx0 : W0.heap[w.heap.size]? = some (.cells #[.slice A q.length c] 24 (0, 0)) := by
    rw [hW0]
    exact (Below.heap_alloc _ _ _ (by simp; omega)).trans ((Below.heap_alloc _ _ _ (by simp)).trans (heap_alloc_new w _))
  have hx1 : W0.heap[w.heap.size + 1]? = some (.cells #[.int .u64 m.1, .int .u64 m.2] 70 (0, 0)) := by
    rw [hW0]
    have h := heap_alloc_new (w.alloc (.cells #[.slice A q.length c] 24)) (.cells #[.int .u64 m.1, .int .u64 m.2] 70)
    rw [World.size_alloc] at h
    exact (Below.heap_alloc _ _ _ (by simp)).trans h
  have hx2 : W0.heap[w.heap.size + 2]? = some (.cells #[.slice Av v.length cv, .int .i64 kq] 28 (0, 0)) := by
    rw [hW0]
    have h := heap_alloc_new ((w.alloc (.cells #[.slice A q.length c] 24)).alloc (.cells #[.int .u64 m.1, .int .u64 m.2] 70)) (.cells #[.slice Av v.length cv, .int .i64 kq] 28)
    rw [World.size_alloc, World.size_alloc] at h; exact h
  have HCk := Lib.hid (checkQ_any v Av cv kq W0 (hv.below hb))
  have HCa := Lib.hid (fun (X : World) (hX : Below W0.heap.size W0 X) => checkA_any A c q X ((h.below hb).below hX))
  have HXb := Lib.hid (fun (X : World) (hX : Below W0.heap.size W0 X) => show X.cell? ⟨w.heap.size, 0, none⟩ = some (.slice A q.length c) ∧ X.cell? ⟨w.heap.size + 2, 0, none⟩ = some (.slice Av v.length cv) ∧ X.cell? ⟨w.heap.size + 2, 1, none⟩ = some (.int .i64 kq) from by
    have X0 := (hX.block w.heap.size (lt_of_block hx0)).trans hx0
    have X2 := (hX.block (w.heap.size + 2) (lt_of_block hx2)).trans hx2
    exact ⟨(cell_of_row _ _ 0 _ _ _ X0).trans rfl, (cell_of_row _ _ 0 _ _ _ X2).trans rfl, (cell_of_row _ _ 1 _ _ _ X2).trans rfl⟩)
  have HB := Lib.hid hb
  have HW := Lib.hid hW0
  have HE := Lib.hid (show scanE kq (ces q) (fun (k : Nat) => hasB m (k : Int)) v = if chkQ kq v = 0 then (if chkA (ces q) = 0 then fnearE (inK (fun (k : Nat) => hasB m (k : Int)) (ces q) (ces q).length) v else chkA (ces q)) else chkQ kq v from rfl)
  have HL := Lib.hid (show scanL kq (ces q) (fun (k : Nat) => hasB m (k : Int)) v = if scanE kq (ces q) (fun (k : Nat) => hasB m (k : Int)) v = 0 then firstM kq.toNat (hitL (inK (fun (k : Nat) => hasB m (k : Int)) (ces q) (ces q).length) v) else [] from rfl)
  obtain ⟨L, hL⟩ : ∃ L, L = scanL kq (ces q) (fun (k : Nat) => hasB m (k : Int)) v := ⟨_, rfl⟩
  obtain ⟨E, hE⟩ : ∃ E, E = scanE kq (ces q) (fun (k : Nat) => hasB m (k : Int)) v := ⟨_, rfl⟩
  rw [← hL, ← hE] at HL
  rw [← hE] at HE
  rw [← hL, ← hE]
  -- rows of the cells, then hits of these
  obtain ⟨f, hf⟩ : ∃ f : Nat → Bool, f = fun (k : Nat) => hasB m (k : Int) := ⟨_, rfl⟩
  have HRo := Lib.hid (fun (hA : chkA (ces q) = 0) (X : World) (hX : Below W0.heap.size W0 X) (g : Nat) (h0 : X.cell? ⟨g, 0, none⟩ = some (.slice A q.length c)) (h1 : X.cell? ⟨g + 1, 0, none⟩ = some (.func (.func 52) #[] #[.pointer (some ⟨w.heap.size + 1, 0, none⟩)])) =>
    rowsOf_any (w := X) (w0 := W0) f 52 #[.pointer (some ⟨w.heap.size + 1, 0, none⟩)] g (g + 1) h0 h1 (h.below hb) hX (by have := arB_len ((chkA_iff _).1 hA); rw [ces_length] at this; omega) (fun v W => enters_of Tryz.func52 (by kernel_rfl) rfl _ W)
      (fun k hk Y hY => by
        have Z1 := (hX.block (w.heap.size + 1) (lt_of_block hx1)).trans hx1
        have l1 := lt_of_block Z1
        have c0 := hY.cell ((cell_of_row _ _ 0 _ _ _ Z1).trans rfl) l1 (by dsimp only; have := hX.size; omega)
        have c1 := hY.cell ((cell_of_row _ _ 1 _ _ _ Z1).trans rfl) l1 (by dsimp only; have := hX.size; omega)
        have hq := arB_len ((chkA_iff _).1 hA)
        rw [ces_length] at hq
        rw [hf]
        exact scan1_any k m (w.heap.size + 1) Y hm (by omega) c0 c1))
  have HNr := Lib.hid (fun (hA : chkA (ces q) = 0) (hQ : chkQ kq v = 0) (X Y : World) (hX : Below W0.heap.size W0 X) (A1 : Option Addr) (c1 : Nat) (ho : OwnR X.heap.size Y A1 c1 ((selI f q q.length).map toPr)) (hY : Below X.heap.size X Y) => show Calls Tryz.prog 54 #[.slice A1 ((selI f q q.length).map toPr).length c1, .agg #[.slice Av v.length cv, .int .i64 kq]] Y (GivesHE Y L E) from by
    have hr := (chkA_iff _).1 hA
    have hq := arB_len hr
    rw [ces_length] at hq
    have hXY := hX.trans (hY.mono hX.size)
    have he := selI_rvs f q q.length (Nat.le_refl _)
    have hrw : Rws Y A1 c1 ((selI f q q.length).map toPr) := own_rws ho (fun p hp => by
        obtain ⟨x, hx, rfl⟩ := List.mem_map.1 hp
        exact ((h.below hb).below hXY).el _ (selI_mem _ hx)) (fun p hp => by
        obtain ⟨x, hx, rfl⟩ := List.mem_map.1 hp
        exact (h.fit _ (selI_mem _ hx)).1)
    have hN := fnearest_any v Av cv kq A1 c1 _ Y ((hv.below hb).below hXY) hrw (by rw [he]; exact inK_right hr _ (by rw [ces_length]; exact Nat.le_refl _)) (chkQ_ok hQ).2 (by rw [List.length_map]; have := selI_len f q q.length; omega) (chkQ_ok hQ).1
    rw [he, nearL_E] at hN
    have e1 : E = fnearE (inK f (ces q) q.length) v := by rw [HE.out, if_pos hQ, if_pos hA, hf, ces_length]
    have e2 : L = if fnearE (inK f (ces q) q.length) v = 0 then firstM kq.toNat (hitL (inK f (ces q) q.length) v) else [] := by rw [HL.out, ← e1, hf, ces_length]
    rw [e1, e2]
    exact hN)
  generalize hRL : ((selI f q q.length).map toPr) = RL at *
  generalize hCQ : chkQ kq v = CQ at *
  generalize hCA : chkA (ces q) = CA at *
  generalize fnearE (inK (fun (k : Nat) => hasB m (k : Int)) (ces q) (ces q).length) v = NE at *
  generalize firstM kq.toNat (hitL (inK (fun (k : Nat) => hasB m (k : Int)) (ces q) (ces q).length) v) = FL at *
  generalize q.length = n at *
  generalize v.length = nv at *
  clear hv h hm hb hz hx0 hx1 hx2 hW0 hL hE hf hRL hCQ hCA
  by_cases hc : CQ = 0
  · subst hc
    by_cases hr : CA = 0
    · subst hr
      have HRo1 := Lib.hid (HRo.out (by simp))
      have HNr1 := Lib.hid (HNr.out (by simp) (by simp))
      clear HE HL HRo HNr
      go_enter Tryz.func24, Tryz.ntmps24
      go_wp2_with fail
      rw [← HW.out]
      refine HCk.out.mono ?_
      rintro e w1 ⟨rfl, hb1⟩
      have HB1 := Lib.hid hb1
      have HA1 := Lib.hid (HCa.out w1 hb1)
      obtain ⟨x0, -, -⟩ := HXb.out w1 hb1
      clear hb1
      go_wp2_with fail
      refine HA1.out.mono ?_
      rintro e w2 ⟨rfl, hb2⟩
      have HB2 := Lib.hid (HB1.out.trans (hb2.mono HB1.out.size))
      have HBd := Lib.hid (below_drew HB2.out)
      obtain ⟨x0, x1, x2⟩ := HXb.out w2 HB2.out
      clear hb2
      go_wp2
      go_region_held3 (fun X => X.cell? ⟨w.heap.size, 0, none⟩ = some (.slice A n c) ∧ X.cell? ⟨w.heap.size + 2, 0, none⟩ = some (.slice Av nv cv) ∧ X.cell? ⟨w.heap.size + 2, 1, none⟩ = some (.int .i64 kq))
        (first | (with_reducible exact HXb.out _ HB2.out) | (with_reducible exact HXb.out _ HBd.out) | (with_reducible exact HXb.out _ HB5.out) | (with_reducible exact HXb.out _ HB6.out) | (with_reducible exact HXb.out _ HB7.out))
        (first
        | (go_at_call 56; (with_reducible refine (usedG_any A n c 52 #[.pointer (some ⟨w.heap.size + 1, 0, none⟩)] w2.drew).mono ?_); rintro e w5 ⟨rfl, g0, g1, hb5⟩; have HB5 := Lib.hid (HBd.out.trans (hb5.mono HBd.out.size)); have HRo5 := Lib.hid (HRo1.out w5 HB5.out w2.heap.size g0 g1); clear hb5 g0 g1)
        | (go_at_call 55; (with_reducible refine HRo5.out.mono ?_); rintro e w6 ⟨A1, c1, rfl, ho, hb6⟩; have HB6 := Lib.hid (HB5.out.trans (hb6.mono HB5.out.size)); have HN6 := Lib.hid (HNr1.out w5 w6 HB5.out A1 c1 ho hb6); clear hb6 ho)
        | (go_at_call 54; (with_reducible refine HN6.out.mono ?_); rintro e w7 ⟨A2, c2, rfl, ho, hb7⟩; have HB7 := Lib.hid (HB6.out.trans (hb7.mono HB6.out.size)); have HO7 := Lib.hid (OwnH.mono ho (Nat.le_trans HB.out.size HB6.out.size)); clear hb7 ho))
      all_goals (
        go_wp2
        go_ret2
        exact ⟨A2, c2, rfl, HO7.out, HB.out.trans (HB7.out.mono HB.out.size)⟩)
    · have HF := Lib.hid (show E = CA ∧ L = [] from by
        have e1 : E = CA := by rw [HE.out]; simp [hr]
        exact ⟨e1, by rw [HL.out, e1, if_neg hr]⟩)
      have t1 : (CA != 0) = true := by simpa using hr
      clear HE HL HRo HNr
      go_enter Tryz.func24, Tryz.ntmps24
      go_wp2_with fail
      rw [← HW.out]
      refine HCk.out.mono ?_
      rintro e w1 ⟨rfl, hb1⟩
      have HB1 := Lib.hid hb1
      have HA1 := Lib.hid (HCa.out w1 hb1)
      obtain ⟨x0, -, -⟩ := HXb.out w1 hb1
      clear hb1
      go_wp2_with fail
      refine HA1.out.mono ?_
      rintro e w2 ⟨rfl, hb2⟩
      have hb02 := HB1.out.trans (hb2.mono HB1.out.size)
      have HB2 := Lib.hid (HB.out.trans (hb02.mono HB.out.size))
      clear hb2 hb02
      go_wp2
      go_ret2
      rw [HF.out.1, HF.out.2]
      exact OwnH.nils HB2.out _
  · have HF := Lib.hid (show E = CQ ∧ L = [] from by
      have e1 : E = CQ := by rw [HE.out, if_neg hc]
      exact ⟨e1, by rw [HL.out, e1, if_neg hc]⟩)
    have t1 : (CQ != 0) = true := by simpa using hc
    clear HE HL HRo HNr
    go_enter Tryz.func24, Tryz.ntmps24
    go_wp2_with fail
    rw [← HW.out]
    refine HCk.out.mono ?_
    rintro e w1 ⟨rfl, hb1⟩
    have HB1 := Lib.hid (HB.out.trans (hb1.mono HB.out.size))
    clear hb1
    go_wp2
    go_ret2
    rw [HF.out.1, HF.out.2]
    exact OwnH.nils HB1.out _

end Go.Proofs.YtcekgllahlhaaaaGreatDoor

namespace Go.Proofs.YtcekgllahlhaaaaGreatDoor
open Go.RowKit Go.Shelf
set_option linter.unusedVariables false
set_option linter.unusedSimpArgs false
set_option maxRecDepth 100000
attribute [local go_sem] Oper.semAt_some

/-- Whether what begins at b and ends at f is visible at t. -/
def visB (b f t : Int) : Bool := decide (b ≤ t) && (decide (f = 0) || decide (t < f))

theorem isVis_any (b f t : Int) (B : Option Addr) (n c : Nat) (w : World) :
    Calls Tryz.prog 58 #[.agg #[.int .u64 b, .int .u64 f, .slice B n c], .int .u64 t] w fun e w' => e = .returned (.bool (visB b f t)) ∧ Below w.heap.size w w' := by
  have HB := Lib.hid (show Below w.heap.size w (w.alloc (.cells #[.int .u64 b, .int .u64 f, .slice B n c] 59)) from (Below.refl _ w).alloc (Nat.le_refl _) _)
  by_cases h1 : b ≤ t
  · have t1 : decide (b ≤ t) = true := by simpa using h1
    by_cases h2 : f = 0
    · have HR := Lib.hid (show visB b f t = true by unfold visB; simp [h1, h2])
      subst h2
      generalize visB b 0 t = R at *
      clear h1
      go_enter Tryz.func58, Tryz.ntmps58
      go_wp2
      go_ret
      rw [HR.out]
      exact ⟨by simp, HB.out⟩
    · have t2 : (f == 0) = false := by simpa using h2
      by_cases h3 : t < f
      · have HR := Lib.hid (show visB b f t = true by unfold visB; simp [h1, h3])
        have t3 : decide (t < f) = true := by simpa using h3
        generalize visB b f t = R at *
        clear h1 h2 h3
        go_enter Tryz.func58, Tryz.ntmps58
        go_wp2
        go_ret
        rw [HR.out]
        exact ⟨by simp, HB.out⟩
      · have HR := Lib.hid (show visB b f t = false by unfold visB; simp [h1, h2, h3])
        have t3 : decide (t < f) = false := by simpa using h3
        generalize visB b f t = R at *
        clear h1 h2 h3
        go_enter Tryz.func58, Tryz.ntmps58
        go_wp2
        go_ret
        rw [HR.out]
        exact ⟨by simp, HB.out⟩
  · have HR := Lib.hid (show visB b f t = false by unfold visB; simp [h1])
    have t1 : decide (b ≤ t) = false := by simpa using h1
    generalize visB b f t = R at *
    clear h1
    go_enter Tryz.func58, Tryz.ntmps58
    go_wp2
    go_ret
    rw [HR.out]
    exact ⟨by simp, HB.out⟩

set_option maxHeartbeats 1000000 in
theorem vis1_any (k n c : Nat) (b o : Nat) (b' f t : Int) (B : Option Addr) (nx cx ga gt : Nat) (w : World) (hk : k < n) (hn : n ≤ 1000000)
    (h0 : w.cell? ⟨ga, 0, none⟩ = some (.slice (some ⟨b, o, none⟩) n c)) (h1 : w.cell? ⟨gt, 0, none⟩ = some (.int .u64 t))
    (h2 : w.cell? ⟨b, o + k * 5 + 2, none⟩ = some (.int .u64 b')) (h3 : w.cell? ⟨b, o + k * 5 + 3, none⟩ = some (.int .u64 f)) (h4 : w.cell? ⟨b, o + k * 5 + 4, none⟩ = some (.slice B nx cx)) :
    Calls Tryz.prog 57 #[.int .i64 k, .pointer (some ⟨ga, 0, none⟩), .pointer (some ⟨gt, 0, none⟩)] w fun e w' => e = .returned (.bool (visB b' f t)) ∧ Below w.heap.size w w' := by
  have k0 : (0 : Int) ≤ k := by omega
  have kn : (k : Int) < n := by omega
  have HC := Lib.hid (fun X => isVis_any b' f t B nx cx X)
  have HS := Lib.hid (fun (X : World) (hX : Below w.heap.size w X) => show X.cell? ⟨ga, 0, none⟩ = some (.slice (some ⟨b, o, none⟩) n c) ∧ X.cell? ⟨gt, 0, none⟩ = some (.int .u64 t) ∧ X.cell? ⟨b, o + k * 5 + 2, none⟩ = some (.int .u64 b') ∧ X.cell? ⟨b, o + k * 5 + 3, none⟩ = some (.int .u64 f) ∧ X.cell? ⟨b, o + k * 5 + 4, none⟩ = some (.slice B nx cx) from
    ⟨(hX.cell (p := ⟨ga, 0, none⟩) (World.block_lt_of_cell? w _ h0)).trans h0, (hX.cell (p := ⟨gt, 0, none⟩) (World.block_lt_of_cell? w _ h1)).trans h1, (hX.cell (p := ⟨b, o + k * 5 + 2, none⟩) (World.block_lt_of_cell? w _ h2)).trans h2, (hX.cell (p := ⟨b, o + k * 5 + 3, none⟩) (World.block_lt_of_cell? w _ h3)).trans h3, (hX.cell (p := ⟨b, o + k * 5 + 4, none⟩) (World.block_lt_of_cell? w _ h4)).trans h4⟩)
  generalize visB b' f t = R at *
  go_enter Tryz.func57, Tryz.ntmps57
  go_wp2
  go_region_held3 (fun X => X.cell? ⟨ga, 0, none⟩ = some (.slice (some ⟨b, o, none⟩) n c) ∧ X.cell? ⟨gt, 0, none⟩ = some (.int .u64 t) ∧ X.cell? ⟨b, o + k * 5 + 2, none⟩ = some (.int .u64 b') ∧ X.cell? ⟨b, o + k * 5 + 3, none⟩ = some (.int .u64 f) ∧ X.cell? ⟨b, o + k * 5 + 4, none⟩ = some (.slice B nx cx))
    (first | (with_reducible exact HS.out _ (Below.refl _ _)) | (with_reducible exact HS.out _ (below_drew (Below.refl _ _))) | (with_reducible exact HS.out _ HB5.out))
    (first
    | (go_at_call 58; (with_reducible refine (HC.out _).mono ?_); rintro e w5 ⟨rfl, hb5⟩; have HB5 := Lib.hid (show Below w.heap.size w w5 from (below_drew (Below.refl _ w)).trans hb5); clear hb5))
  all_goals (
    go_wp2
    go_ret
    exact ⟨rfl, HB5.out⟩)

/-- The slots of what is told. -/
def valS (pre : List (Nat × Pa)) : List Value := pre.map fun x => .int .i64 (x.1 : Int)
theorem valS_snoc (pre : List (Nat × Pa)) (x : Nat × Pa) : valS (pre ++ [x]) = valS pre ++ [.int .i64 (x.1 : Int)] := by simp [valS]

theorem selI_slot {f : Nat → Bool} {q : List Pa} {j : Nat} : ∀ k, k ≤ q.length → (j ∈ (selI f q k).map (fun x => x.1) ↔ j < k ∧ (ceAt (ces q) j).u = true ∧ f j = true) := by
  intro k
  induction k with
  | zero => intro _; simp [selI]
  | succ k ih =>
    intro hk
    obtain ⟨p, hp⟩ : ∃ p, q[k]? = some p := ⟨_, List.getElem?_eq_getElem (by omega)⟩
    have hc := ces_ceAt hp
    have ih := ih (by omega)
    show j ∈ (selI f q k ++ _).map (fun x => x.1) ↔ _
    rw [List.map_append, List.mem_append, ih, hp]
    by_cases h : (p.e.u && f k) = true
    · simp only [h, if_true, List.map_cons, List.map_nil, List.mem_singleton]
      simp at h
      constructor
      · rintro (h2 | rfl)
        · exact ⟨by omega, h2.2⟩
        · exact ⟨by omega, by rw [hc]; exact h⟩
      · rintro ⟨h1, h2⟩
        by_cases hj : j = k
        · exact .inr hj
        · exact .inl ⟨by omega, h2⟩
    · simp only [h]
      simp at h
      constructor
      · rintro (h2 | h2)
        · exact ⟨by omega, h2.2⟩
        · simp at h2
      · rintro ⟨h1, h2, h3⟩
        by_cases hj : j = k
        · subst hj
          rw [hc] at h2
          have := h h2
          rw [h3] at this
          cases this
        · exact .inl ⟨by omega, h2, h3⟩

theorem done2 {w w5 : World} {g K : Nat} {a b x y : Value} {t : TypeId} (hx : w5.heap[g + 2]? = some (.cells #[a, b] t (0, 0))) (hb : Below g w w5) (hk : w5.heap[K]? = some (.deferred (some []))) (hK : g + 2 < K) :
    ((w5.setCell ⟨g + 2, 0, none⟩ x).setCell ⟨g + 2, 1, none⟩ y).heap[K]? = some (.deferred (some [])) ∧ (((w5.setCell ⟨g + 2, 0, none⟩ x).setCell ⟨g + 2, 1, none⟩ y).putObj K (.deferred none)).cell? ⟨g + 2, 0, none⟩ = some x ∧ (((w5.setCell ⟨g + 2, 0, none⟩ x).setCell ⟨g + 2, 1, none⟩ y).putObj K (.deferred none)).cell? ⟨g + 2, 1, none⟩ = some y ∧ Below g w (((w5.setCell ⟨g + 2, 0, none⟩ x).setCell ⟨g + 2, 1, none⟩ y).putObj K (.deferred none)) := by
  have h := TopL.set2 hx x y
  have hb2 : Below g w ((w5.setCell ⟨g + 2, 0, none⟩ x).setCell ⟨g + 2, 1, none⟩ y) := (hb.setCell (by simp) _).setCell (by simp) _
  have h2 : (((w5.setCell ⟨g + 2, 0, none⟩ x).setCell ⟨g + 2, 1, none⟩ y).putObj K (.deferred none)).heap[g + 2]? = some (.cells #[x, y] t (0, 0)) := (World.putObj_heap_other (by omega)).trans h
  refine ⟨?_, (cell_of_row _ _ 0 _ _ _ h2).trans rfl, (cell_of_row _ _ 1 _ _ _ h2).trans rfl, ?_⟩
  · exact (Below.heap_setCell _ _ _ _ (by dsimp only; omega)).trans ((Below.heap_setCell _ _ _ _ (by dsimp only; omega)).trans hk)
  · exact ⟨hb2.os, hb2.tape, hb2.output, by have := hb2.size; simpa [World.putObj] using this, fun i hi => (World.putObj_heap_other (by omega)).trans (hb2.block i hi)⟩

/-- The mask of what is visible. -/
def visM (l : List Ce) (t : Int) : MskL.Mk := MskL.mk fun k => (ceAt l k).u && visB (ceAt l k).b (ceAt l k).f t

set_option maxHeartbeats 4000000 in
theorem visible_any (A : Option Addr) (c : Nat) (q : List Pa) (t : Int) (w : World) (h : Are w A c q) :
    Calls Tryz.prog 25 #[.agg #[.slice A q.length c], .int .u64 t] w fun e w' => e = .returned (.tuple #[.agg #[.int .u64 (if chkA (ces q) = 0 then visM (ces q) t else (0, 0)).1, .int .u64 (if chkA (ces q) = 0 then visM (ces q) t else (0, 0)).2], .int .i64 (chkA (ces q))]) ∧ Below w.heap.size w w' := by
  refine (callsIn_wide (n := 3)).1 ?_
  refine callsIn_of_wp_marks Tryz.func25 rfl trivial ?_ rfl
  simp only [Tryz.ntmps25, List.size_toArray, List.length_cons, List.length_nil, Nat.reduceAdd, Nat.reduceSub, Array.replicate_succ, Array.replicate_zero, List.push_toArray, List.append_toArray, List.nil_append, List.cons_append]
  obtain ⟨m, hm⟩ : ∃ m, m = q.length := ⟨_, rfl⟩
  rw [← hm]
  obtain ⟨W0, hW0⟩ : ∃ W0, W0 = ((w.alloc (.cells #[.slice A m c] 24)).alloc (.cells #[.int .u64 t] 29)).alloc (.cells #[.int .u64 0, .int .u64 0] 70) := ⟨_, rfl⟩
  have hz0 : W0.heap.size = w.heap.size + 3 := by rw [hW0]; simp
  have hb0 : Below w.heap.size w W0 := by rw [hW0]; exact (((Below.refl _ w).alloc (Nat.le_refl _) _).alloc (by simp) _).alloc (by simp; omega) _
  have x0 : Boxed W0 w.heap.size 24 (.slice A m c) := by rw [hW0]; exact ((Boxed.new w _ _).alloc _).alloc _
  have x1 : Boxed W0 (w.heap.size + 1) 29 (.int .u64 t) := by
    rw [hW0]
    have h := (Boxed.new (w.alloc (.cells #[.slice A m c] 24)) 29 (.int .u64 t)).alloc (.cells #[.int .u64 0, .int .u64 0] 70)
    rw [World.size_alloc] at h; exact h
  have x2 : W0.heap[w.heap.size + 2]? = some (.cells #[.int .u64 0, .int .u64 0] 70 (0, 0)) := by
    rw [hW0]
    have h := heap_alloc_new ((w.alloc (.cells #[.slice A m c] 24)).alloc (.cells #[.int .u64 t] 29)) (.cells #[.int .u64 0, .int .u64 0] 70)
    rw [World.size_alloc, World.size_alloc] at h; exact h
  have HC := Lib.hid (checkA_any A c q W0 (h.below hb0))
  rw [← hm] at HC
  have HM := Lib.hid hm
  have HZ0 := Lib.hid hz0
  have HX := Lib.hid (And.intro x0 (And.intro x1 (And.intro x2 hb0)))
  have HQ := Lib.hid h
  have HW0 := Lib.hid hW0
  cases hr : arB (ces q) with
  | false =>
    have HE := Lib.hid (chkA_no hr)
    rw [HE.out] at HC ⊢
    clear h hm hz0 hb0 x0 x1 x2 hW0 hr
    gi_wp2_with (refine ⟨trivial, ?_⟩; gi_at_call 15; rw [← HW0.out]; refine (callsIn_wide.2 HC.out).mono ?_; rintro e w1 ⟨rfl, hb1⟩; obtain ⟨x0, x1, x2, hb0⟩ := HX.out; have X2 := (hb1.block _ (lt_of_block x2)).trans x2; have r0 := (cell_of_row _ _ 0 _ _ _ X2).trans rfl; have r1 := (cell_of_row _ _ 1 _ _ _ X2).trans rfl; have f0 : w1.frozen? ⟨w.heap.size + 2, 0, none⟩ = false := frozen_of_row _ _ _ _ _ X2; have f1 : w1.frozen? ⟨w.heap.size + 2, 1, none⟩ = false := frozen_of_row _ _ _ _ _ X2; have HX2 := Lib.hid (And.intro X2 (hb0.trans (hb1.mono hb0.size))); clear hb1 X2 x0 x1 x2 hb0)
    have HZ := Lib.hid (store2 HX2.out.1 HX2.out.2 (.int .u64 0) (.int .u64 0))
    refine ⟨.tuple #[.agg #[.int .u64 0, .int .u64 0], .int .i64 190], by simp [results, Tryz.results25, go_sem, HZ.out.1, HZ.out.2.1], rfl, HZ.out.2.2⟩
  | true =>
    have HE := Lib.hid (chkA_ok hr)
    have hq := arB_len hr
    rw [ces_length] at hq
    rw [HE.out] at HC ⊢
    obtain ⟨f, hf⟩ : ∃ f : Nat → Bool, f = fun (k : Nat) => visB (ceAt (ces q) k).b (ceAt (ces q) k).f t := ⟨_, rfl⟩
    obtain ⟨S, hS⟩ : ∃ S : List Int, S = (selI f q q.length).map (fun x => (x.1 : Int)) := ⟨_, rfl⟩
    have hSm : ∀ j : Nat, (j : Int) ∈ S ↔ j < 96 ∧ (ceAt (ces q) j).u = true ∧ f j = true := by
      intro j
      rw [hS, ← hq, ← selI_slot (f := f) (q := q) q.length (Nat.le_refl _)]
      simp only [List.mem_map]
      constructor
      · rintro ⟨x, hx, e⟩; exact ⟨x, hx, by omega⟩
      · rintro ⟨x, hx, e⟩; exact ⟨x, hx, by omega⟩
    have hSa : ∀ x ∈ S, 0 ≤ x ∧ x < 96 := by
      intro x hx
      obtain ⟨y, hy, rfl⟩ : ∃ y ∈ selI f q q.length, (y.1 : Int) = x := by rw [hS] at hx; simpa using hx
      have := ((hSm y.1).1 hx).1
      omega
    have hoe : MskL.ofE S = 0 := by
      unfold MskL.ofE
      rw [if_pos]
      rw [List.all_eq_true]
      intro x hx
      have := hSa x hx
      unfold MskL.slotB
      simp [this]
    have hom : MskL.ofM S = visM (ces q) t := by
      unfold MskL.ofM visM
      refine MskL.mk_congr (fun k hk => ?_)
      rw [Bool.eq_iff_iff]
      simp only [decide_eq_true_iff, hSm, Bool.and_eq_true, hf]
      constructor
      · rintro ⟨_, h⟩; exact h
      · intro h; exact ⟨hk, h⟩
    have HOf := Lib.hid (fun (X : World) (A1 : Option Addr) (c1 : Nat) (hX : Vec .i64 X A1 c1 S) => show Calls Tryz.prog 20 #[.slice A1 S.length c1] X (fun e w' => e = .returned (.tuple #[.agg #[.int .u64 (visM (ces q) t).1, .int .u64 (visM (ces q) t).2], .int .i64 0]) ∧ Below X.heap.size X w') from by
      have := MskL.of_any A1 c1 S X hX
      rw [hoe, hom] at this
      exact this)
    have HSa := Lib.hid hSa
    have HSl := Lib.hid (show S.length = (selI f q q.length).length ∧ S.map (Value.int .i64) = valS (selI f q q.length) from by rw [hS]; exact ⟨List.length_map _, by unfold valS; rw [List.map_map]; rfl⟩)
    have HHq := Lib.hid hq
    have HFf := Lib.hid hf
    rw [if_pos rfl]
    generalize visM (ces q) t = VM at *
    clear hS hSm hSa hoe hom hf
    clear h hm hz0 hb0 x0 x1 x2 hW0 hr hq
    gi_wp2_with (first
      | (refine ⟨trivial, ?_⟩; gi_at_call 15; rw [← HW0.out]; refine (callsIn_wide.2 HC.out).mono ?_; rintro e w1 ⟨rfl, hb1⟩; have c1 := (hb1.cell (p := ⟨w.heap.size, 0, none⟩) (by rw [HZ0.out]; simp)).trans HX.out.1.cell; have c2 := (((Below.refl _ w1).alloc (Nat.le_refl _) (.cells #[.slice none 0 0] 53)).cell (p := ⟨w.heap.size, 0, none⟩) (World.block_lt_of_cell? w1 _ c1)).trans c1; have HB1 := Lib.hid hb1; clear hb1)
      | (refine ⟨trivial, ?_⟩; gi_at_call 56; refine (callsIn_wide.2 (usedF_any _ _ _ _ _ _)).mono ?_; rintro e w' ⟨rfl, rfl⟩))
    simp only [Nat.add_assoc, Nat.reduceAdd]
    obtain ⟨x0, x1, x2, hb0⟩ := HX.out
    obtain ⟨D, hD⟩ : ∃ D, D = w1.heap.size := ⟨_, rfl⟩
    obtain ⟨W3, hW3⟩ : ∃ W3, W3 = ((w1.alloc (.cells #[.slice none 0 0] 53)).alloc (.cells #[.slice A m c] 24)).alloc (.cells #[.func (.func 57) #[] #[.pointer (some ⟨w.heap.size, 0, none⟩), .pointer (some ⟨w.heap.size + 1, 0, none⟩)]] 87) := ⟨_, rfl⟩
    have hz3 : W3.heap.size = D + 3 := by rw [hW3, hD]; simp
    have hb3 : Below w1.heap.size w1 W3 := by rw [hW3]; exact (((Below.refl _ w1).alloc (Nat.le_refl _) _).alloc (by simp) _).alloc (by simp; omega) _
    have y0 : Boxed W3 D 53 (.slice none 0 0) := by rw [hW3, hD]; exact ((Boxed.new w1 _ _).alloc _).alloc _
    have y1 : Boxed W3 (D + 1) 24 (.slice A m c) := by
      rw [hW3, hD]
      have h := (Boxed.new (w1.alloc (.cells #[.slice none 0 0] 53)) 24 (.slice A m c)).alloc (.cells #[.func (.func 57) #[] #[.pointer (some ⟨w.heap.size, 0, none⟩), .pointer (some ⟨w.heap.size + 1, 0, none⟩)]] 87)
      rw [World.size_alloc] at h; exact h
    have y2 : Boxed W3 (D + 2) 87 (.func (.func 57) #[] #[.pointer (some ⟨w.heap.size, 0, none⟩), .pointer (some ⟨w.heap.size + 1, 0, none⟩)]) := by
      rw [hW3, hD]
      have h := Boxed.new ((w1.alloc (.cells #[.slice none 0 0] 53)).alloc (.cells #[.slice A m c] 24)) 87 (.func (.func 57) #[] #[.pointer (some ⟨w.heap.size, 0, none⟩), .pointer (some ⟨w.heap.size + 1, 0, none⟩)])
      rw [World.size_alloc, World.size_alloc] at h; exact h
    have hw1s : w.heap.size + 3 ≤ D := by rw [hD, ← HZ0.out]; exact HB1.out.size
    have hbw : Below w.heap.size w W3 := hb0.trans ((HB1.out.trans (hb3.mono HB1.out.size)).mono hb0.size)
    have x0W : Boxed W3 w.heap.size 24 (.slice A m c) := ((HB1.out.trans (hb3.mono HB1.out.size)).block _ x0.lt).trans x0
    have x1W : Boxed W3 (w.heap.size + 1) 29 (.int .u64 t) := ((HB1.out.trans (hb3.mono HB1.out.size)).block _ x1.lt).trans x1
    have x2W : W3.heap[w.heap.size + 2]? = some (.cells #[.int .u64 0, .int .u64 0] 70 (0, 0)) := ((HB1.out.trans (hb3.mono HB1.out.size)).block _ (lt_of_block x2)).trans x2
    have hseq := usedI_in (w := W3) (w0 := w) (A := A) (c := c) (q := q) f 57 #[.pointer (some ⟨w.heap.size, 0, none⟩), .pointer (some ⟨w.heap.size + 1, 0, none⟩)] 2 D (D + 1) (D + 2) (by omega) (by rw [← HM.out]; exact y1.cell) y2.cell HQ.out hbw (by omega) (by omega) (by omega) (fun v W => enters_of Tryz.func57 (by kernel_rfl) rfl _ W)
      (fun k hk X hX => by
        obtain ⟨b, o, p, e, hp, hb, d0, d1, d2, d3, d4, hv, hf⟩ := HQ.out.at_ hk
        have hlt : w.heap.size ≤ W3.heap.size := hbw.size
        have g : ∀ (P : Addr) (u : Value), P.block < w.heap.size → w.cell? P = some u → X.cell? P = some u := fun P u hP hu => hX.cell ((hbw.cell hP).trans hu) (by omega) (by omega)
        have c0 := hX.cell x0W.cell x0W.lt (by dsimp only; omega)
        have c1 := hX.cell x1W.cell x1W.lt (by dsimp only; omega)
        rw [e, HM.out] at c0
        rw [HFf.out]
        dsimp only
        rw [ces_ceAt hp]
        exact vis1_any k q.length c b o p.e.b p.e.f t p.B p.e.x.length p.c w.heap.size (w.heap.size + 1) X hk (by have := HHq.out; omega) c0 c1 (g _ _ hb d2) (g _ _ hb d3) (g _ _ hb d4))
    have HZ3 := Lib.hid hz3
    have HSeq := Lib.hid hseq
    have HY0 := Lib.hid y0
    have HBW := Lib.hid hbw
    have HX2W := Lib.hid x2W
    have HDs := Lib.hid hw1s
    rw [← hW3, hD.symm]
    clear hb3 hz3 y0 y1 y2 hw1s hbw x0W x1W x2W hseq hW3 hD HB1 x0 x1 x2 hb0 c1 c2
    refine range_own rfl (by omega) (gf := 91) (lb := #[.pointer (some ⟨D + 1, 0, none⟩), .pointer (some ⟨D + 2, 0, none⟩)]) rfl trivial (enters_of Tryz.func91 (by kernel_rfl) rfl) HSeq.out
      (fun W k h => h.elim) KpD.trans (fun B W k o o' _ hk ho => KpD.put hk ho) (fun _ => rfl) (fun _ _ _ _ _ _ _ _ _ => trivial)
      (GrI 53 3 1 (D + 5) D valS W3) (fun _ _ _ => False) ?io ?ixo ?ip ?ixp ?h0
      (fun x => { tmps := #[.agg #[.slice A m c], .int .u64 t, .pointer (some ⟨w.heap.size, 0, none⟩), .pointer (some ⟨w.heap.size + 1, 0, none⟩), .pointer (some ⟨w.heap.size + 2, 0, none⟩), .int .i64 0, .int .i64 0, .func (.func 57) #[] #[.pointer (some ⟨w.heap.size, 0, none⟩), .pointer (some ⟨w.heap.size + 1, 0, none⟩)], .pointer (some ⟨D, 0, none⟩), .int .i64 x.1, .agg #[.slice A m c], .int .i64 0, .int .i64 0, .bool false, undef, undef, .func (.func 57) #[] #[.pointer (some ⟨w.heap.size, 0, none⟩), .pointer (some ⟨w.heap.size + 1, 0, none⟩)], .agg #[.slice A m c], .func (.func 57) #[] #[.pointer (some ⟨w.heap.size, 0, none⟩), .pointer (some ⟨w.heap.size + 1, 0, none⟩)], .func (.func 91) #[] #[.pointer (some ⟨D + 1, 0, none⟩), .pointer (some ⟨D + 2, 0, none⟩)], .int .i64 x.1, .agg #[.bool x.2.e.u, .int .u64 x.2.e.i, .int .u64 x.2.e.b, .int .u64 x.2.e.f, .slice x.2.B x.2.e.x.length x.2.c], undef, undef, undef, undef, undef, undef, undef, undef], defers := [] }) ?assign ?body ?done ?stop
    case io => exact fun s X Y h ht => h.below (Turn.below ht (Nat.le_refl _) (fun i e => e.2.elim))
    case ixo => exact fun _ _ _ _ h _ => h
    case ip => exact fun s X k o o' h hk ho hc => h.put o' hk ho hc
    case ixp => exact fun _ _ _ _ _ _ h _ _ _ => h
    case h0 =>
      intro W hb _
      exact GrI.below (W := W3) ⟨none, 0, HY0.out, World.ownsRow_nil _ _ _ _, Turn.refl _ _⟩ hb
    case assign =>
      intro l x W K hK
      dsimp only [encC]
      gi_wp2
      simpa using hK
    case body =>
      rintro l pre ⟨k, p⟩ W ⟨A0, c0, h1, h3, h4⟩ hsz _ ⟨hk, hP, hpre⟩
      dsimp only at hk hP hpre ⊢
      have hz3 := HZ3.out
      have hkl : k < q.length := (List.getElem?_eq_some_iff.1 hk).1
      have hsl : pre.length ≤ 96 := by
        have e2 := selI_len f q k
        rw [← hpre] at e2
        have e3 := HHq.out
        omega
      have hWs : D + 5 ≤ W.heap.size := by omega
      have c0' := h1.cell
      have HSt := Lib.hid (fun (A1 : Option Addr) (c1 : Nat) (V3 w4 : World) (hb : Below W.heap.size W V3) (ho : w4.ownsRow (D + 5) 3 1 (.slice A1 (pre.length + 1) c1) (pre.length + 1) (valS pre ++ [.int .i64 (k : Int)])) (hg : V3.grownBy w4 (blk A0)) => gr_step (x := (k, p)) h1 h3 h4 (by omega) (by omega) (valS_snoc pre (k, p)) hb ho hg)
      have HOw := Lib.hid (fun (X : World) (hX : Below W.heap.size W X) => show X.ownsRow (D + 5) 3 1 (.slice A0 pre.length c0) pre.length (valS pre) from row_turn h3 (Turn.of_below (S := fun _ => False) hX) (fun _ _ e => e))
      have HSL := Lib.hid hsl
      have HWS := Lib.hid hWs
      clear hsz hk hP hpre hkl h1 h3 h4 hz3 hsl hWs
      generalize hsn : pre.length = sn at *
      have HSN := Lib.hid hsn
      clear hsn
      gi_wp2_with (gi_at_builtin; have HB3 := Lib.hid (show Below W.heap.size W (W.alloc (.cells #[.int .i64 (k : Int)] 3)) from (Below.refl _ W).alloc (Nat.le_refl _) _); refine gapp_in rfl (.tmp 22) (.tmp 24) appN rfl (D + 5) A0 c0 sn (valS pre) rfl (HOw.out _ HB3.out) (some ⟨W.heap.size, 0, none⟩) 1 1 [.int .i64 (k : Int)] rfl (Read.int (cell_laid _ _ _ 0)) (by have := HSL.out; omega) (Nat.le_trans HWS.out HB3.out.size) ?_; intro A5 c5 w4 ho5 hg5 _; obtain ⟨v4, f4, hX4⟩ := HSt.out A5 c5 _ w4 HB3.out ho5 hg5; have HX4 := Lib.hid hX4; clear ho5 hg5 hX4)
      exact HX4.out
    case done =>
      rintro xs W rfl ⟨A0, c0, h1, h3, h4⟩ hK
      have hz3 := HZ3.out
      have hDs := HDs.out
      have hbw : Below w.heap.size w W := HBW.out.trans (h4.below HBW.out.size (fun i hi => by have := HBW.out.size; omega))
      have c0' := h1.cell
      have hfit : ∀ x ∈ S, (Lit.int .i64 x).wf = true := by
        intro x hx
        have := HSa.out x hx
        simp [Lit.wf, IntKind.min, IntKind.max, IntKind.signed, IntKind.bits]
        omega
      have h3' := h3
      rw [← HSl.out.2, ← HSl.out.1] at h3'
      obtain ⟨A1, c1, e1, hv1⟩ := Vec.own (m := 0) h3' hfit
      injection e1 with e2 _ e3
      subst e2
      subst e3
      have HOf1 := Lib.hid (HOf.out W A0 c0 hv1)
      have hx2 : W.heap[w.heap.size + 2]? = some (.cells #[.int .u64 0, .int .u64 0] 70 (0, 0)) := (h4.block _ (lt_of_block HX2W.out) (by omega)).trans HX2W.out
      have HX2 := Lib.hid hx2
      have HK := Lib.hid hK
      have HBd := Lib.hid hbw
      rw [HSl.out.1] at HOf1
      generalize (selI f q q.length).length = sn at *
      clear h1 h3 h3' h4 hK hz3 hDs hbw hfit hv1 hx2
      gi_wp2_with (refine ⟨trivial, ?_⟩; gi_at_call 20; refine (callsIn_wide.2 HOf1.out).mono ?_; rintro e w5 ⟨rfl, hb5⟩; have X2 := (hb5.block _ (lt_of_block HX2.out)).trans HX2.out; have r0 := (cell_of_row _ _ 0 _ _ _ X2).trans rfl; have r1 := (cell_of_row _ _ 1 _ _ _ X2).trans rfl; have f0 : w5.frozen? ⟨w.heap.size + 2, 0, none⟩ = false := frozen_of_row _ _ _ _ _ X2; have f1 : w5.frozen? ⟨w.heap.size + 2, 1, none⟩ = false := frozen_of_row _ _ _ _ _ X2; have HK5 := Lib.hid ((hb5.block _ (lt_of_block HK.out)).trans HK.out); have HX5 := Lib.hid (And.intro X2 (HBd.out.trans (hb5.mono HBd.out.size))); clear hb5 X2)
      have HZ := Lib.hid (done2 (x := .int .u64 VM.1) (y := .int .u64 VM.2) HX5.out.1 HX5.out.2 HK5.out (by have := HBW.out.size; have := HZ3.out; have := HDs.out; omega))
      refine ⟨by simp, .inl ⟨_, _, rfl, run_takeDeferred HZ.out.1, ?_⟩⟩
      refine ⟨.tuple #[.agg #[.int .u64 VM.1, .int .u64 VM.2], .int .i64 0], by simp [results, Tryz.results25, go_sem, HZ.out.2.1, HZ.out.2.2.1], rfl, HZ.out.2.2.2⟩
    case stop =>
      rintro c pre W _ h _
      exact h.elim

end Go.Proofs.YtcekgllahlhaaaaGreatDoor

namespace Go.Proofs.YtcekgllahlhaaaaGreatDoor
open Go.RowKit Go.Shelf
open MskL (Mk Fine)
open TopL (isKM)
set_option linter.unusedVariables false
set_option linter.unusedSimpArgs false
set_option maxRecDepth 100000

theorem bit_and11 (a r : Nat) : (a / 2 ^ r &&& 1 = 1) = (a.testBit r = true) := by
  rw [Nat.and_one_is_mod]
  have : a.testBit r = decide (a / 2 ^ r % 2 = 1) := by rw [Nat.testBit_eq_decide_div_mod_eq]
  rw [this]
  simp
/-- A mask's bit. -/
def fInB (m : Mk) (k : Nat) : Bool := if k < 64 then m.1.testBit k else m.2.testBit (k - 64)
theorem inB_has {m : Mk} {k : Nat} (h : k < 96) : MskL.hasB m (k : Int) = fInB m k := by
  unfold MskL.hasB MskL.slotB fInB MskL.has
  by_cases h64 : k < 64
  · simp [h64]; omega
  · simp [h64, h]
    intro _
    omega
theorem inB_mk {f : Nat → Bool} {k : Nat} (hk : k < 128) : fInB (MskL.mk f) k = (decide (k < 96) && f k) := by
  by_cases h96 : k < 96
  · rw [← inB_has h96]
    unfold MskL.hasB MskL.slotB
    have : (((k : Int)).toNat) = k := rfl
    rw [this, MskL.has_mk]
    simp [h96]
    omega
  · unfold fInB MskL.mk
    rw [if_neg (by omega)]
    dsimp only
    rw [MskL.wd_bit]
    have : decide (k - 64 < 32) = false := by simp; omega
    rw [this]
    simp [h96]

end Go.Proofs.YtcekgllahlhaaaaGreatDoor
