/-
  The statement ProbeAgrees: in an arena, by lists that were built from it, just what is found among the rows that are visible.
-/
import Derived.Test.YtcekgllahlhaaaaGreatDoorMPrF
import Derived.Test.YtcekgllahlhaaaaGreatDoorMPrT
import Derived.Test.YtcekgllahlhaaaaGreatDoorMPrS
import Derived.Test.YtcekgllahlhaaaaGreatDoorMPrB
import Derived.Test.YtcekgllahlhaaaaGreatDoorMLib
import Derived.Test.YtcekgllahlhaaaaGreatDoorMFrm
import Derived.Test.YtcekgllahlhaaaaGreatDoorCards
import Derived.Test.YtcekgllahlhaaaaGreatDoorTie
import Derived.ProofKit
import Derived.LaidMore
import Derived.OpenShut
import Derived.Stop.Joined
import Derived.SevenTiedAt
namespace Go.Proofs.YtcekgllahlhaaaaGreatDoor.probeAgrees
open Go.ChangeShapes Go.WideShapes Go.ChangeAt Go.RowKit Go.Deep Go.Shelf
open MskL (Mk Ms Tab)
set_option linter.unusedVariables false
set_option linter.unusedSimpArgs false
set_option maxRecDepth 100000
open Go.ChangeShapes Go.WideShapes Go.ChangeAt in
theorem tab_of_laid {W : World} (h : laidMetH Tryz.prog Rows.probeAgreesRow.laid W) : Tab W := by
  rw [MakeChecks.laidMetH_plain _ _ _ (by kernel_rfl)] at h
  obtain ⟨ps, ⟨g0, t0, cs0, f0, p0, q0, hg0, ht0, hv0, hd0, _, _⟩, _, _⟩ := h
  obtain rfl := Option.some.inj ((show Tryz.prog.globalNamed "math/bits.deBruijn64tab" = some 0 by kernel_rfl).symm.trans hg0)
  obtain rfl := Option.some.inj ((show (Tryz.prog.globals[0]?).map (·.type) = some 168 by kernel_rfl).symm.trans ht0)
  obtain ⟨xs, m1, rfl, hx1, hlen, hn, hel⟩ := DataW.trod_array Tryz.underlying168 hd0
  have c5 : Tryz.prog.cellsOf 5 = 1 := by kernel_rfl
  have hdat : (DataW.agg (Lib.deBruijn64tab.map fun (n : Nat) => (DataW.lit (.int .u8 (n : Int)) : DataW Unit))) = .agg (xs.map (·.1)) := (show DataW.agg (Lib.deBruijn64tab.map fun (n : Nat) => (DataW.lit (.int .u8 (n : Int)) : DataW Unit)) = Rows.laid_math_bits_deBruijn64tab from rfl).trans (Prod.mk.inj hx1).1
  intro j hj
  have hj' : j < 64 := hj
  have h0 := hel j hj'
  have hxj : xs[j]? = some (xs[j]'(by omega)) := List.getElem?_eq_getElem (by omega)
  rw [hxj] at h0
  obtain ⟨k, e1, e2, _⟩ := DataW.trod_int Tryz.underlying5 h0
  injection hdat with hdat
  have e3 := congrArg (fun l => l[j]?) hdat
  rw [List.getElem?_map, List.getElem?_map, hxj, e2, List.getElem?_eq_getElem hj] at e3
  simp only [Option.map_some, Option.some.injEq, DataW.lit.injEq, Lit.int.injEq, true_and] at e3
  have hc := World.var?_cell hg0 hv0 j
  rw [hc]
  rw [c5, Nat.mul_one] at e1
  have e4 : (cs0.toList.drop j)[0]? = some (.int .u8 k) := by
    have := congrArg (fun l => l[0]?) e1
    simpa [List.getElem?_take] using this
  rw [List.getElem?_drop, Nat.add_zero] at e4
  simp [List.getD, List.getElem?_eq_getElem hj, e3]
  simpa using e4

def sArn (b : Nat) (R : List Ce) (v : Value) (w : World) : Prop := ∃ A c q, v = .agg #[.slice A (List.length q) c] ∧ ces q = R ∧ OwnA b w A c q
def sBxA (b : Nat) (v : Value) (w : World) : Prop := ∃ g, v = .pointer (some ⟨g, 0, none⟩) ∧ b ≤ g ∧ w.heap[g]? = some (.cells #[.slice none 0 0] 24 (0, 0))
def sBxL (b : Nat) (v : Value) (w : World) : Prop := ∃ g, v = .pointer (some ⟨g, 0, none⟩) ∧ b ≤ g ∧ w.heap[g]? = some (.cells #[.slice none 0 0, .slice none 0 0] 37 (0, 0))
theorem ownA_box {base g : Nat} {w w' : World} {A : Option Addr} {c : Nat} {q : List Pa} {cs : Array Value} {t : TypeId} (h : OwnA base w A c q) (hx : w.heap[g]? = some (.cells cs t (0, 0))) (h1 : t ≠ 61) (h2 : t ≠ 21) (ht : Turn (fun i => i = g) w w') : OwnA base w' A c q :=
  ⟨row_turn h.row ht (row_apart h.row hx h1), fun p hp => ⟨row_turn (h.el p hp).1 ht (row_apart (h.el p hp).1 hx h2), (h.el p hp).2⟩, h.fit⟩
theorem ownVs_box {base g : Nat} {w w' : World} {A : Option Addr} {c : Nat} {q : List Pv} {cs : Array Value} {t : TypeId} (h : OwnVs base w A c q) (hx : w.heap[g]? = some (.cells cs t (0, 0))) (h1 : t ≠ 26) (h2 : t ≠ 21) (ht : Turn (fun i => i = g) w w') : OwnVs base w' A c q :=
  ⟨row_turn h.row ht (row_apart h.row hx h1), fun p hp => ⟨row_turn (h.el p hp).1 ht (row_apart (h.el p hp).1 hx h2), (h.el p hp).2⟩⟩
theorem ownM_box {base g : Nat} {w w' : World} {A : Option Addr} {c : Nat} {q : List Mk} {cs : Array Value} {t : TypeId} (h : OwnM base w A c q) (hx : w.heap[g]? = some (.cells cs t (0, 0))) (h1 : t ≠ 70) (ht : Turn (fun i => i = g) w w') : OwnM base w' A c q :=
  ⟨row_turn h.1 ht (row_apart h.1 hx h1), h.2⟩
def pD1 (w1 : World) (gp : Nat) (cp : Array Value) (R : List Ce) (v : List Int) (kq ts N : Int) (f : Nat → Value) (w : World) : Prop :=
  ∃ gA A1 c1 q1, f 4 = .pointer (some ⟨gA, 0, none⟩) ∧ w1.heap.size ≤ gA ∧ w.heap[gA]? = some (.cells #[.slice A1 (List.length q1) c1] 24 (0, 0)) ∧ ces q1 = R ∧ OwnA w1.heap.size w A1 c1 q1 ∧ r3some w1.heap.size v kq ts N (f 3) w ∧ w.heap[gp]? = some (.cells cp 31 (0, 0)) ∧ Below w1.heap.size w1 w
def pD2 (w0 w1 : World) (gp : Nat) (R : List Ce) (v : List Int) (kq ts N : Int) (f : Nat → Value) (w : World) : Prop :=
  ∃ gA A1 c1 q1 A3 c3, f 4 = .pointer (some ⟨gA, 0, none⟩) ∧ w.heap[gA]? = some (.cells #[.slice A1 (List.length q1) c1] 24 (0, 0)) ∧ ces q1 = R ∧ OwnA w1.heap.size w A1 c1 q1 ∧ OwnV w1.heap.size w A3 c3 v ∧ w.heap[gp]? = some (.cells #[.slice A3 (List.length v) c3, .int .i64 kq, .int .u64 ts, .int .i64 N] 31 (0, 0)) ∧ Below w0.heap.size w0 w
def pTup (b : Nat) (C : List (List Int)) (M : List Mk) (E : Int) (v : Value) (w : World) : Prop := ∃ A c q B d, v = .tuple #[lv A c (List.length q) B d M.length, .int .i64 E] ∧ vals q = C ∧ OwnVs b w A c q ∧ OwnM b w B d M
def pLis (b : Nat) (C : List (List Int)) (M : List Mk) (v : Value) (w : World) : Prop := ∃ A c q B d, v = lv A c (List.length q) B d M.length ∧ vals q = C ∧ OwnVs b w A c q ∧ OwnM b w B d M
def pZ (E : Int) (j : Nat) (v : Value) : Prop := (j = 4 → ∃ x, v = .tuple #[x, .int .i64 E]) ∧ (j = 6 ∨ j = 9 → v = .int .i64 E)
def pD4 (w3 : World) (C : List (List Int)) (M : List Mk) (f : Nat → Value) (w : World) : Prop :=
  ∃ gL A2 c2 q2 B2 d2, f 7 = .pointer (some ⟨gL, 0, none⟩) ∧ w.heap[gL]? = some (.cells #[.slice A2 (List.length q2) c2, .slice B2 M.length d2] 37 (0, 0)) ∧ vals q2 = C ∧ OwnVs w3.heap.size w A2 c2 q2 ∧ OwnM w3.heap.size w B2 d2 M ∧ Below w3.heap.size w3 w

set_option maxHeartbeats 8000000 in
theorem walk {w : World} (Aa : Option Addr) (ca : Nat) (qa : List Pa) (ha : Are w Aa ca qa) (Ay : Option Addr) (cy : Nat) (Y : List (List Int)) (hy : Vecs .i32 w Ay cy Y) (P : Pb) (hp : Vec .i32 w P.B P.c P.x) (hT : Tab w) :
    Calls Tryz.prog 3 #[.agg #[.slice Aa qa.length ca], .slice Ay Y.length cy, pv P.B P.x.length P.c P.k P.t P.n] w fun e w' => e = .returned (.bool true) ∧ Below w.heap.size w w' := by
  obtain ⟨na, hna⟩ : ∃ k, k = qa.length := ⟨_, rfl⟩
  obtain ⟨ny, hny⟩ : ∃ k, k = Y.length := ⟨_, rfl⟩
  obtain ⟨xl, hxl⟩ : ∃ k, k = P.x.length := ⟨_, rfl⟩
  have HWk := Lib.hid (fun (X : World) => wakes_any X)
  have HAr := Lib.hid (fun (X : World) (hX : Below w.heap.size w X) => arenaO_any Aa ca qa X (ha.below hX))
  have HVs := Lib.hid (fun (X : World) (hX : Below w.heap.size w X) => vecsO_any Ay cy Y X (hy.below hX))
  have HSo := Lib.hid (fun (X : World) (hX : Below w.heap.size w X) => someO_any P.B P.c P.x P.k P.t P.n X (hp.below hX))
  have HT := Lib.hid (fun (X : World) (hX : Below w.heap.size w X) => hT.below hX)
  rw [← hna] at HAr
  rw [← hny] at HVs
  rw [← hxl] at HSo
  have HLc := Lib.hid (show (cutA (ces qa)).length ≤ 97 by rw [cutA_len]; omega)
  generalize hR : cutA (ces qa) = R at *
  generalize hC : cutC Y = C1 at *
  obtain ⟨v, hv⟩ : ∃ v, v = P.x.take 5 := ⟨_, rfl⟩
  rw [← hv] at HSo
  obtain ⟨W1, hW1⟩ : ∃ W1, W1 = w.alloc (.cells #[.slice Aa na ca] 24) := ⟨_, rfl⟩
  obtain ⟨W0, hW0⟩ : ∃ W0, W0 = W1.alloc (.cells #[.slice P.B xl P.c, .int .i64 P.k, .int .u64 P.t, .int .i64 P.n] 31) := ⟨_, rfl⟩
  have hb1 : Below w.heap.size w W1 := by rw [hW1]; exact bn1 _ _
  have hb01 : Below W1.heap.size W1 W0 := by rw [hW0]; exact bn1 _ _
  have hxa0 : W1.heap[w.heap.size]? = some (.cells #[.slice Aa na ca] 24 (0, 0)) := by rw [hW1]; exact heap_alloc_new _ _
  have hxa : W0.heap[w.heap.size]? = some (.cells #[.slice Aa na ca] 24 (0, 0)) := (hb01.block _ (lt_of_block hxa0)).trans hxa0
  have hxp : W0.heap[W1.heap.size]? = some (.cells #[.slice P.B xl P.c, .int .i64 P.k, .int .u64 P.t, .int .i64 P.n] 31 (0, 0)) := by rw [hW0]; exact heap_alloc_new _ _
  have HBX := Lib.hid (fun (X : World) (hX : Below W0.heap.size W0 X) => And.intro ((hX.block _ (lt_of_block hxa)).trans hxa) ((hX.block _ (lt_of_block hxp)).trans hxp))
  have HPl := Lib.hid (lt_of_block hxp)
  have HB0 := Lib.hid (hb1.trans (hb01.mono hb1.size))
  have HW1z := Lib.hid hb1.size
  have HW1 := Lib.hid hW1
  have HW0 := Lib.hid hW0
  rw [← hna, ← hny, ← hxl]
  clear ha hy hp hT hna hny hxl hR hC hv hW1 hW0 hb1 hb01 hxa0 hxa hxp
  unfold pv
  go_enter Tryz.func3, Tryz.ntmps3
  go_wp2_with (first | (rw [← HW1.out]) | (rw [← HW0.out]) | fail)
  refine (HWk.out W0).mono ?_
  rintro e w1 ⟨rfl, hb1⟩
  have HB1 := Lib.hid hb1
  have HC1 := Lib.hid (Below.refl w1.heap.size w1)
  clear hb1
  go_upto_region 3 with fail
  refine MskL.region_relS2 5 rfl (fun X => Below w1.heap.size w1 X) (pD1 w1 W1.heap.size #[.slice P.B xl P.c, .int .i64 P.k, .int .u64 P.t, .int .i64 P.n] R v P.k P.t P.n) (pD2 w w1 W1.heap.size R v P.k P.t P.n) [fun v _ => v = .agg #[.slice Aa na ca], sArn w1.heap.size R, fun v _ => v = .agg #[.slice P.B xl P.c, .int .i64 P.k, .int .u64 P.t, .int .i64 P.n], r3some w1.heap.size v P.k P.t P.n, sBxA w1.heap.size]
    (fun r hr v2 w7 w8 h hb => by
      simp only [List.mem_cons, List.mem_nil_iff, or_false] at hr
      rcases hr with rfl | rfl | rfl | rfl | rfl
      · exact h
      · obtain ⟨A, c, q, h1, h2, h3⟩ := h; exact ⟨A, c, q, h1, h2, h3.below hb⟩
      · exact h
      · obtain ⟨A, c, h1, h2⟩ := h; exact ⟨A, c, h1, h2.below hb⟩
      · obtain ⟨g, h1, h2, h3⟩ := h; exact ⟨g, h1, h2, (hb.block _ (lt_of_block h3)).trans h3⟩)
    (by kernel_rfl) (below_drew HC1.out) (by kernel_rfl) (by kernel_rfl) (by kernel_rfl) (by kernel_rfl) (by kernel_rfl) ?_ ?_ ?_ ?_
  · refine ⟨.inr ?_, .inr ?_, .inr ?_, .inr ?_, .inr ?_, .inl (by decide), .inl (by decide), trivial⟩
    · intro f w2 hw hd
      have z0 := (cell_of_row _ _ 0 _ _ _ (HBX.out w2 (below_tr HB1.out hw)).1).trans rfl
      simp [MskL.fillR, Act.put, go_sem, MskL.relG, hw, Below.refl, z0]
    · intro f w2 hw hd
      have e0 : f 0 = .agg #[.slice Aa na ca] := MskL.depG_of hd 0 (by kernel_rfl)
      simp [MskL.fillR, Act.put, go_sem, MskL.relG, hw, Below.refl, e0]
      refine (HAr.out w2 (HB0.out.trans ((below_tr HB1.out hw).mono HB0.out.size))).mono ?_
      rintro e w3 ⟨A', c', q, rfl, hq, hr, hb⟩
      exact ⟨⟨A', c', q, rfl, hq, hr.mono hw.size⟩, hw.trans (hb.mono hw.size), hb⟩
    · intro f w2 hw hd
      have hx := (HBX.out w2 (below_tr HB1.out hw)).2
      have z0 := (cell_of_row _ _ 0 _ _ _ hx).trans rfl
      have z1 := (cell_of_row _ _ 1 _ _ _ hx).trans rfl
      have z2 := (cell_of_row _ _ 2 _ _ _ hx).trans rfl
      have z3 := (cell_of_row _ _ 3 _ _ _ hx).trans rfl
      simp [MskL.fillR, Act.put, go_sem, MskL.relG, hw, Below.refl, z0, z1, z2, z3]
    · intro f w2 hw hd
      have e0 : f 2 = .agg #[.slice P.B xl P.c, .int .i64 P.k, .int .u64 P.t, .int .i64 P.n] := MskL.depG_of hd 2 (by kernel_rfl)
      simp [MskL.fillR, Act.put, go_sem, MskL.relG, hw, Below.refl, e0]
      refine (HSo.out w2 (HB0.out.trans ((below_tr HB1.out hw).mono HB0.out.size))).mono ?_
      rintro e w3 ⟨A', c', rfl, hr, hb⟩
      exact ⟨⟨A', c', rfl, World.ownsRow.mono hr.1 hw.size, hr.2⟩, hw.trans (hb.mono hw.size), hb⟩
    · intro f w2 hw hd
      simp [MskL.fillR, Act.put, go_sem, MskL.relG, hw, Below.refl]
      exact ⟨⟨_, rfl, hw.size, heap_alloc_new _ _⟩, hw.alloc hw.size _, bn1 _ _⟩
  · intro o ho f w2 hw hr
    obtain rfl : _ = o := Option.some.inj ho
    obtain ⟨A1, c1, q1, e1, hq1, ho1⟩ : sArn w1.heap.size R (f 1) w2 := hr 1 (by decide)
    obtain ⟨A3, c3, e3, hv3⟩ : r3some w1.heap.size v P.k P.t P.n (f 3) w2 := hr 3 (by decide)
    obtain ⟨gA, e4, hgA, hxA⟩ : sBxA w1.heap.size (f 4) w2 := hr 4 (by decide)
    have hxP := (HBX.out w2 (below_tr HB1.out hw)).2
    have k0 := (cell_of_row _ _ 0 _ _ _ hxA).trans rfl
    have f0 : w2.frozen? ⟨gA, 0, none⟩ = false := frozen_of_row _ _ _ _ _ hxA
    have t := turn_set w2 gA 0 (.slice A1 (List.length q1) c1)
    have hne : W1.heap.size ≠ gA := fun e => by rw [e, hxA] at hxP; injection hxP with hxP; injection hxP with _ h2 _; exact absurd h2 (by decide)
    have hD : pD1 w1 W1.heap.size #[.slice P.B xl P.c, .int .i64 P.k, .int .u64 P.t, .int .i64 P.n] R v P.k P.t P.n (MskL.setF f 5 undef) (w2.setCell ⟨gA, 0, none⟩ (.slice A1 (List.length q1) c1)) := by
      refine ⟨gA, A1, c1, q1, (MskL.setF_other _ _ (by decide)).trans e4, hgA, heap_setCell_same _ gA 0 _ _ _ hxA, hq1, ownA_box ho1 hxA (by decide) (by decide) t, ?_, (Below.heap_setCell _ _ _ _ hne).trans hxP, hw.trans (t.below hw.size (fun i hi => by omega))⟩
      exact ⟨A3, c3, (MskL.setF_other _ _ (by decide)).trans e3, row_turn hv3.1 t (row_apart hv3.1 hxA (by decide)), hv3.2⟩
    simp [MskL.fillR, Act.put, go_sem, e1, e4, k0, f0, -getElem?_eq_none_iff]
    exact ⟨_, hD⟩
  · intro o ho f w2 hD
    obtain rfl : _ = o := Option.some.inj ho
    obtain ⟨gA, A1, c1, q1, e4, hgA, hxA, hq1, ho1, ⟨A3, c3, e3, hv3⟩, hxP, hw⟩ := hD
    unfold pv at e3
    have k0 := (cell_of_row _ _ 0 _ _ _ hxP).trans rfl
    have k1 := (cell_of_row _ _ 1 _ _ _ hxP).trans rfl
    have k2 := (cell_of_row _ _ 2 _ _ _ hxP).trans rfl
    have k3 := (cell_of_row _ _ 3 _ _ _ hxP).trans rfl
    have fz : ∀ j, w2.frozen? ⟨W1.heap.size, j, none⟩ = false := fun j => frozen_of_row _ _ _ _ _ hxP
    have f0 := fz 0
    have f1 := fz 1
    have f2 := fz 2
    have f3 := fz 3
    have hne : gA ≠ W1.heap.size := fun e => by rw [← e, hxA] at hxP; injection hxP with hxP; injection hxP with _ h2 _; exact absurd h2 (by decide)
    have y := set4 hxP (.slice A3 v.length c3) (.int .i64 P.k) (.int .u64 P.t) (.int .i64 P.n)
    have t := put4_turn w2 W1.heap.size (.slice A3 v.length c3) (.int .i64 P.k) (.int .u64 P.t) (.int .i64 P.n)
    have hw0 : Below w.heap.size w w2 := HB0.out.trans ((below_tr HB1.out hw).mono HB0.out.size)
    have hD : pD2 w w1 W1.heap.size R v P.k P.t P.n (MskL.setF f 6 undef) (put4 w2 W1.heap.size (.slice A3 v.length c3) (.int .i64 P.k) (.int .u64 P.t) (.int .i64 P.n)) :=
      ⟨gA, A1, c1, q1, A3, c3, (MskL.setF_other _ _ (by decide)).trans e4, (t.block _ (lt_of_block hxA) hne).trans hxA, hq1, ownA_box ho1 hxP (by decide) (by decide) t, hv3.box hxP t, y, hw0.trans (t.below hw0.size (fun i hi => by have := HW1z.out; omega))⟩
    unfold put4 at hD
    simp [MskL.fillR, Act.put, go_sem, e3, k0, k1, k2, k3, f0, f1, f2, f3, -getElem?_eq_none_iff]
    exact ⟨_, hD⟩
  intro f w3 hD
  obtain ⟨gA, A1, c1, q1, A3, c3, e4, hxA, hq1, ho1, hv3, hxP, hb3⟩ := hD
  simp only [MskL.fillR, Act.put, List.size_toArray, List.length_cons, List.length_nil, List.setIfInBounds_toArray, List.set_cons_succ, List.set_cons_zero, e4]
  generalize f 0 = u0
  generalize f 1 = u1
  generalize f 2 = u2
  generalize f 3 = u3
  obtain ⟨n3, hn3⟩ : ∃ k, k = q1.length := ⟨_, rfl⟩
  obtain ⟨nv, hnv⟩ : ∃ k, k = v.length := ⟨_, rfl⟩
  rw [← hn3] at hxA
  rw [← hnv] at hxP
  have HN3 := Lib.hid hn3
  have HNv := Lib.hid hnv
  have HQ1 := Lib.hid hq1
  have HR3 := Lib.hid (show R.length = n3 from by rw [← hq1, ces_length, hn3])
  have HXA := Lib.hid (fun (X : World) (hX : Below w3.heap.size w3 X) => And.intro ((hX.block _ (lt_of_block hxA)).trans hxA) ((hX.block _ (lt_of_block hxP)).trans hxP))
  have HB3 := Lib.hid hb3
  have HC3 := Lib.hid (Below.refl w3.heap.size w3)
  have HA3 := Lib.hid (fun (X : World) (hX : Below w3.heap.size w3 X) => ho1.are.below hX)
  have HV3 := Lib.hid (fun (X : World) (hX : Below w3.heap.size w3 X) => hv3.vec.below hX)
  have HBu := Lib.hid (fun (X : World) (hX : Below w3.heap.size w3 X) (A : Option Addr) (c : Nat) (hc : Vecs .i32 X A c C1) => by
    have h1 := build_any A1 c1 q1 A c C1 X (ho1.are.below hX) hc
    rw [hq1, ← hn3] at h1
    exact h1)
  clear e4 hxA hxP hq1 ho1 hv3 hb3 hn3 hnv
  obtain ⟨E, hE⟩ : ∃ E, E = buildE C1 R := ⟨_, rfl⟩
  obtain ⟨CB, hCB⟩ : ∃ x, x = buildC C1 R := ⟨_, rfl⟩
  obtain ⟨MB, hMB⟩ : ∃ x, x = buildM C1 R := ⟨_, rfl⟩
  rw [← hE, ← hCB, ← hMB] at HBu
  go_upto_region 4 with fail
  refine MskL.region_relZ 8 10 (fun j => j == 6 || j == 9) (fun j => j == 9) (fun X => Below w3.heap.size w3 X) (pD4 w3 CB MB) [fun v _ => v = .agg #[.slice A1 n3 c1], fun v _ => v = .slice Ay ny cy, r3vecs w3.heap.size C1, pTup w3.heap.size CB MB E, pTup w3.heap.size CB MB E, pLis w3.heap.size CB MB, fun v _ => v = .int .i64 E, sBxL w3.heap.size, fun _ _ => True, fun v _ => v = .int .i64 E] (pZ E)
    (fun r hr v2 w7 w8 h hb => by
      simp only [List.mem_cons, List.mem_nil_iff, or_false] at hr
      rcases hr with rfl | rfl | rfl | rfl | rfl | rfl | rfl | rfl | rfl | rfl
      · exact h
      · exact h
      · obtain ⟨A, c, q, h1, h2, h3⟩ := h; exact ⟨A, c, q, h1, h2, h3.below hb⟩
      · obtain ⟨A, c, q, B, d, h1, h2, h3, h4⟩ := h; exact ⟨A, c, q, B, d, h1, h2, h3.below hb, h4.below hb⟩
      · obtain ⟨A, c, q, B, d, h1, h2, h3, h4⟩ := h; exact ⟨A, c, q, B, d, h1, h2, h3.below hb, h4.below hb⟩
      · obtain ⟨A, c, q, B, d, h1, h2, h3, h4⟩ := h; exact ⟨A, c, q, B, d, h1, h2, h3.below hb, h4.below hb⟩
      · exact h
      · obtain ⟨g, h1, h2, h3⟩ := h; exact ⟨g, h1, h2, (hb.block _ (lt_of_block h3)).trans h3⟩
      · trivial
      · exact h)
    (fun j v2 w7 h => by
      refine ⟨fun e => ?_, fun e => ?_⟩
      · subst e
        obtain ⟨A, c, q, B, d, h1, _⟩ : pTup w3.heap.size CB MB E v2 w7 := h
        exact ⟨_, h1⟩
      · rcases e with e | e <;> subst e <;> exact h)
    (by kernel_rfl) (below_drew HC3.out) (by kernel_rfl) (by kernel_rfl) (by kernel_rfl) (by decide) (by kernel_rfl) (by kernel_rfl) rfl ?_ ?_ ?_ ?_
  · refine ⟨.inr (.inr ?_), .inr (.inr ?_), .inr (.inr ?_), .inr (.inr ?_), .inr (.inr ?_), .inr (.inr ?_), .inr (.inr ?_), .inr (.inr ?_), .inl rfl, .inr (.inl rfl), trivial⟩
    · intro f w2 hw hd
      have z0 := (cell_of_row _ _ 0 _ _ _ (HXA.out w2 hw).1).trans rfl
      simp [MskL.fillR, Act.put, go_sem, MskL.relG, hw, Below.refl, z0]
    · intro f w2 hw hd
      simp [MskL.fillR, Act.put, go_sem, MskL.relG, hw, Below.refl]
    · intro f w2 hw hd
      have e1 : f 1 = .slice Ay ny cy := MskL.depG_of hd 1 (by kernel_rfl)
      simp [MskL.fillR, Act.put, go_sem, MskL.relG, hw, Below.refl, e1]
      refine (HVs.out w2 (HB3.out.trans (hw.mono HB3.out.size))).mono ?_
      rintro e w5 ⟨A', c', q, rfl, hq, hr, hb⟩
      exact ⟨⟨A', c', q, rfl, hq, hr.mono hw.size⟩, hw.trans (hb.mono hw.size), hb⟩
    · intro f w2 hw hd
      have e0 : f 0 = .agg #[.slice A1 n3 c1] := MskL.depG_of hd 0 (by kernel_rfl)
      obtain ⟨A2, c2, q, e2, hq, ho⟩ : r3vecs w3.heap.size C1 (f 2) w2 := MskL.depG_of hd 2 (by kernel_rfl)
      simp [MskL.fillR, Act.put, go_sem, MskL.relG, hw, Below.refl, e0, e2]
      have hvs := ho.vecs
      rw [hq] at hvs
      refine (HBu.out w2 hw A2 c2 hvs).mono ?_
      rintro e w5 ⟨A', c', q, B', d', rfl, hq, hr, hm, hb⟩
      exact ⟨⟨A', c', q, B', d', rfl, hq, hr.mono hw.size, hm.mono hw.size⟩, hw.trans (hb.mono hw.size), hb⟩
    · intro f w2 hw hd
      obtain ⟨A2, c2, q, B2, d2, e3, hr⟩ : pTup w3.heap.size CB MB E (f 3) w2 := MskL.depG_of hd 3 (by kernel_rfl)
      simp [MskL.fillR, Act.put, go_sem, MskL.relG, hw, Below.refl, e3]
      exact ⟨A2, c2, q, B2, d2, rfl, hr⟩
    · intro f w2 hw hd
      obtain ⟨A2, c2, q, B2, d2, e3, hr⟩ : pTup w3.heap.size CB MB E (f 4) w2 := MskL.depG_of hd 4 (by kernel_rfl)
      simp [MskL.fillR, Act.put, go_sem, MskL.relG, hw, Below.refl, e3]
      exact ⟨A2, c2, q, B2, d2, rfl, hr⟩
    · intro f w2 hw hd
      obtain ⟨A2, c2, q, B2, d2, e3, hr⟩ : pTup w3.heap.size CB MB E (f 4) w2 := MskL.depG_of hd 4 (by kernel_rfl)
      simp [MskL.fillR, Act.put, go_sem, MskL.relG, hw, Below.refl, e3]
    · intro f w2 hw hd
      simp [MskL.fillR, Act.put, go_sem, MskL.relG, hw, Below.refl]
      exact ⟨⟨_, rfl, hw.size, heap_alloc_new _ _⟩, hw.alloc hw.size _, bn1 _ _⟩
  · intro j o hz ho f w2 hD hd
    obtain ⟨gL, A2, c2, q2, B2, d2, e7, hr⟩ := hD
    simp only [Bool.or_eq_true, beq_iff_eq] at hz
    rcases hz with rfl | rfl
    · obtain rfl : _ = o := Option.some.inj ho
      obtain ⟨x, e4⟩ := (hd ⟨4, .data⟩ (by simp) rfl (by decide)).1 rfl
      simp [MskL.fillR, Act.put, go_sem, e4]
      exact ⟨⟨(fun e => by cases e), fun _ => rfl⟩, gL, A2, c2, q2, B2, d2, (MskL.setF_other _ _ (by decide)).trans e7, hr⟩
    · obtain rfl : _ = o := Option.some.inj ho
      have e6 := (hd ⟨6, .data⟩ (by simp) rfl (by decide)).2 (.inl rfl)
      simp [MskL.fillR, Act.put, go_sem, e6]
      exact ⟨⟨(fun e => by cases e), fun _ => rfl⟩, gL, A2, c2, q2, B2, d2, (MskL.setF_other _ _ (by decide)).trans e7, hr⟩
  · intro o ho f w2 hw hr
    obtain rfl : _ = o := Option.some.inj ho
    obtain ⟨A2, c2, q2, B2, d2, e5, hq2, hv2, hm2⟩ : pLis w3.heap.size CB MB (f 5) w2 := hr 5 (by decide) (by decide) rfl
    obtain ⟨gL, e7, hgL, hxL⟩ : sBxL w3.heap.size (f 7) w2 := hr 7 (by decide) (by decide) rfl
    unfold lv at e5
    have k0 := (cell_of_row _ _ 0 _ _ _ hxL).trans rfl
    have k1 := (cell_of_row _ _ 1 _ _ _ hxL).trans rfl
    have f0 : w2.frozen? ⟨gL, 0, none⟩ = false := frozen_of_row _ _ _ _ _ hxL
    have f1 : w2.frozen? ⟨gL, 1, none⟩ = false := frozen_of_row _ _ _ _ _ hxL
    have y1 := heap_setCell_same _ gL 0 _ _ (.slice A2 (List.length q2) c2) hxL
    have y2 := heap_setCell_same _ gL 1 _ _ (.slice B2 MB.length d2) y1
    have t : Turn (fun i => i = gL) w2 ((w2.setCell ⟨gL, 0, none⟩ (.slice A2 (List.length q2) c2)).setCell ⟨gL, 1, none⟩ (.slice B2 MB.length d2)) := (turn_set _ _ _ _).trans (turn_set _ _ _ _) (fun i hi => .inl hi)
    have hD : pD4 w3 CB MB (MskL.setF f 8 undef) ((w2.setCell ⟨gL, 0, none⟩ (.slice A2 (List.length q2) c2)).setCell ⟨gL, 1, none⟩ (.slice B2 MB.length d2)) :=
      ⟨gL, A2, c2, q2, B2, d2, (MskL.setF_other _ _ (by decide)).trans e7, y2, hq2, ownVs_box hv2 hxL (by decide) (by decide) t, ownM_box hm2 hxL (by decide) t, hw.trans (t.below hw.size (fun i hi => by omega))⟩
    simp [MskL.fillR, Act.put, go_sem, e5, e7, k0, k1, f0, f1, -getElem?_eq_none_iff]
    exact ⟨_, hD⟩
  intro f w4 hD hP
  have e9 : f 9 = .int .i64 E := (hP 9 (by decide) (by decide)).2 (.inr rfl)
  obtain ⟨gL, A2, c2, q2, B2, d2, e7, hxL, hq2, hv2, hm2, hb4⟩ := hD
  simp only [MskL.fillR, Act.put, List.size_toArray, List.length_cons, List.length_nil, List.setIfInBounds_toArray, List.set_cons_succ, List.set_cons_zero, e7, e9]
  generalize f 0 = x0
  generalize f 1 = x1
  generalize f 2 = x2
  generalize f 3 = x3
  generalize f 4 = x4
  generalize f 5 = x5
  generalize f 6 = x6
  obtain ⟨n2, hn2⟩ : ∃ k, k = q2.length := ⟨_, rfl⟩
  obtain ⟨m2, hm2'⟩ : ∃ k, k = MB.length := ⟨_, rfl⟩
  rw [← hn2, ← hm2'] at hxL
  have HXL := Lib.hid (fun (X : World) (hX : Below w4.heap.size w4 X) => (hX.block _ (lt_of_block hxL)).trans hxL)
  have HLs := Lib.hid (fun (X : World) (hX : Below w4.heap.size w4 X) => show Lis X A2 c2 CB B2 d2 MB from ⟨by rw [← hq2]; exact hv2.vecs.below hX, hm2.ms.below hX⟩)
  have HN2 := Lib.hid (show CB.length = n2 from by rw [← hq2, hn2]; simp [vals])
  have HM2 := Lib.hid hm2'
  have HB4 := Lib.hid hb4
  have HW4 := Lib.hid (HB3.out.trans (hb4.mono HB3.out.size))
  have HEs := Lib.hid (And.intro hE (And.intro hCB hMB))
  clear e7 e9 hP hxL hq2 hv2 hm2 hb4 hn2 hm2' hE hCB hMB
  by_cases hE0 : E = 0
  rotate_left
  · have t1 : (E != 0) = true := by simpa using hE0
    have HF := Lib.hid hE0
    clear hE0
    go_wp2
    go_ret
    exact ⟨rfl, HW4.out⟩
  have HC1 := Lib.hid (show CB = C1 ∧ MB = masksOf C1 R from by
    obtain ⟨h1, h2, h3⟩ := HEs.out
    rw [hE0] at h1
    unfold buildC at h2
    unfold buildM at h3
    rw [if_pos h1.symm] at h2 h3
    exact ⟨h2, h3⟩)
  have HBE := Lib.hid (show buildE C1 R = 0 from by rw [← HEs.out.1, hE0])
  subst hE0
  have a0 := (cell_of_row _ _ 0 _ _ _ (HXA.out w4 HB4.out).1).trans rfl
  have p0 := (cell_of_row _ _ 0 _ _ _ (HXA.out w4 HB4.out).2).trans rfl
  have p1 := (cell_of_row _ _ 1 _ _ _ (HXA.out w4 HB4.out).2).trans rfl
  have p2 := (cell_of_row _ _ 2 _ _ _ (HXA.out w4 HB4.out).2).trans rfl
  have p3 := (cell_of_row _ _ 3 _ _ _ (HXA.out w4 HB4.out).2).trans rfl
  have l0 := (cell_of_row _ _ 0 _ _ _ (HXL.out w4 (Below.refl _ _))).trans rfl
  have l1 := (cell_of_row _ _ 1 _ _ _ (HXL.out w4 (Below.refl _ _))).trans rfl
  obtain ⟨SE, hSE⟩ : ∃ x, x = srE P.k P.t P.n v C1 (masksOf C1 R) R := ⟨_, rfl⟩
  obtain ⟨SL, hSL⟩ : ∃ x, x = srL P.k P.t P.n v C1 (masksOf C1 R) R := ⟨_, rfl⟩
  obtain ⟨ml, hml⟩ : ∃ x, x = SL.length := ⟨_, rfl⟩
  have hse := searchP_any A1 c1 q1 A2 c2 CB B2 d2 MB A3 c3 v P.k P.t P.n w4 (HA3.out w4 HB4.out) (HLs.out w4 (Below.refl _ _)) (HV3.out w4 HB4.out)
  rw [HQ1.out, ← HN3.out, HN2.out, ← HM2.out, ← HNv.out, HC1.out.1, HC1.out.2, ← hSE, ← hSL] at hse
  have HSE := Lib.hid hse
  have HSS := Lib.hid (And.intro hSE (And.intro hSL hml))
  clear hse hSE hSL hml
  unfold lv pv at HSE
  go_wp2_with fail
  refine HSE.out.mono ?_
  rintro e w5 ⟨A6, c6, he, ho6, hb5⟩
  rw [← HSS.out.2.2] at he
  subst he
  have HB5 := Lib.hid (below_tr HB4.out (hb5 : Below w4.heap.size w4 w5))
  have HL5 := Lib.hid hb5
  have HO6 := Lib.hid ho6
  have HW5 := Lib.hid (HW4.out.trans (hb5.mono HW4.out.size))
  clear hb5 ho6 a0 p0 p1 p2 p3 l0 l1
  by_cases hS0 : SE = 0
  rotate_left
  · have hm0 : ml = 0 := by
      obtain ⟨h1, h2, h3⟩ := HSS.out
      unfold srL at h2
      rw [← h1, if_neg hS0] at h2
      rw [h3, h2]
      rfl
    have t1 : (SE != 0) = true := by simpa using hS0
    subst hm0
    clear hS0
    go_wp2
    go_ret
    exact ⟨rfl, HW5.out⟩
  obtain ⟨hpe, hpl⟩ := agrees HBE.out (by rw [← HSS.out.1]; exact hS0)
  rw [← HSS.out.2.1] at hpl
  have HPE := Lib.hid hpe
  have HPL := Lib.hid hpl
  have hsr : srE P.k P.t P.n v C1 (masksOf C1 R) R = 0 := by rw [← HSS.out.1]; exact hS0
  have HCA := Lib.hid (show chkA R = 0 from by
    have h := hsr
    unfold srE at h
    by_cases h1 : rsE P.k P.n v C1 (masksOf C1 R) R = 0
    · exact (rsE_ok h1).2.2.1
    · rw [if_neg h1] at h; exact absurd h h1)
  subst hS0
  clear hpe hpl hsr
  have a0 := (cell_of_row _ _ 0 _ _ _ (HXA.out w5 HB5.out).1).trans rfl
  have p0 := (cell_of_row _ _ 0 _ _ _ (HXA.out w5 HB5.out).2).trans rfl
  have p1 := (cell_of_row _ _ 1 _ _ _ (HXA.out w5 HB5.out).2).trans rfl
  have p2 := (cell_of_row _ _ 2 _ _ _ (HXA.out w5 HB5.out).2).trans rfl
  have p3 := (cell_of_row _ _ 3 _ _ _ (HXA.out w5 HB5.out).2).trans rfl
  have hsn := seen_any A1 c1 q1 P.t w5 (HA3.out w5 HB5.out) (HT.out w5 HW5.out) (by rw [HQ1.out]; exact HCA.out)
  rw [HQ1.out, ← HN3.out] at hsn
  have HSN := Lib.hid hsn
  clear hsn
  go_wp2_with fail
  refine HSN.out.mono ?_
  rintro e w6 ⟨A7, c7, r7, he, hr7, hw7, hb6⟩
  obtain ⟨n7, hn7⟩ : ∃ x, x = r7.length := ⟨_, rfl⟩
  rw [← hn7] at he
  subst he
  have HB6 := Lib.hid (below_tr HB5.out hb6)
  have HL6 := Lib.hid (below_tr HL5.out hb6)
  have HW6 := Lib.hid (HW5.out.trans (hb6.mono HW5.out.size))
  have HO62 := Lib.hid (HO6.out.below hb6)
  have h97 : n7 ≤ 100000 := by
    have h1 := inK_len (fun k : Nat => MskL.hasB (visM R P.t) (k : Int)) R R.length
    have h2 := arB_len ((chkA_iff R).1 HCA.out)
    have h3 : (rvs r7).length = n7 := by rw [rvs_length, hn7]
    rw [hr7] at h3
    unfold visR at h3
    omega
  have hro := rowsP_any A7 c7 r7 A2 c2 CB v A3 c3 P.k P.t P.n w6 hw7 (HLs.out w6 HL6.out).cs (HV3.out w6 HB6.out) (by rw [← hn7]; exact h97)
  rw [hr7, ← hn7, HN2.out, ← HNv.out, HC1.out.1, HPE.out, HPL.out] at hro
  have HRO := Lib.hid hro
  clear hro hr7 hw7 hb6 hn7 h97 a0 p0 p1 p2 p3
  have p0 := (cell_of_row _ _ 0 _ _ _ (HXA.out w6 HB6.out).2).trans rfl
  have p1 := (cell_of_row _ _ 1 _ _ _ (HXA.out w6 HB6.out).2).trans rfl
  have p2 := (cell_of_row _ _ 2 _ _ _ (HXA.out w6 HB6.out).2).trans rfl
  have p3 := (cell_of_row _ _ 3 _ _ _ (HXA.out w6 HB6.out).2).trans rfl
  have l0 := (cell_of_row _ _ 0 _ _ _ (HXL.out w6 HL6.out)).trans rfl
  unfold pv at HRO
  go_wp2_with fail
  refine HRO.out.mono ?_
  rintro e w7 ⟨A8, c8, he, ho8, hb7⟩
  rw [← HSS.out.2.2] at he
  subst he
  have hsm := TopL.same_any A6 A8 c6 c8 SL SL w7 (HO62.out.below hb7).hits ho8.hits
  rw [← HSS.out.2.2, decide_eq_true rfl] at hsm
  have HSM := Lib.hid hsm
  have HW7 := Lib.hid (HW6.out.trans (hb7.mono HW6.out.size))
  clear hsm hb7 ho8 p0 p1 p2 p3 l0
  go_wp2_with fail
  refine HSM.out.mono ?_
  rintro e w8 ⟨rfl, hb8⟩
  have HW8 := Lib.hid (HW7.out.trans (hb8.mono HW7.out.size))
  clear hb8
  go_wp2
  go_ret
  exact ⟨rfl, HW8.out⟩

theorem door_met (os : Os) (args : Array Value) : laidMetH Tryz.prog Rows.probeAgreesRow.laid ((World.doorLaid Tryz.prog 400 os).forCall (fun _ _ => 0) ⟨#[], args, []⟩).memory :=
  laidMetH_of_parts3 (fuel := 8) (laidMet_of_run' 8 (by kernel_rfl) (by kernel_rfl)) (by kernel_rfl) (by kernel_rfl)

set_option maxRecDepth 100000 in
theorem lifted (os : Os) (started : os.Started) (H : Type) (enc : TypeId × Value → H) :
    ReturnsInHanded {} Tryz.checked os 3 .any (fun w args => (Rows.probeAgreesSpec.pre enc Tryz.prog Tryz.f3 [] false w args ∧ laidMetH Tryz.prog Rows.probeAgreesRow.laid w) ∧ sizedMet enc Tryz.prog Tryz.f3 (OpenSpec.ofChange Rows.probeAgreesSpec) false w args)
      (Rows.probeAgreesSpec.post enc Tryz.prog Tryz.f3 false true false false) := by
  refine returnsInHanded_of_change_and (C := Tryz.checked) (X := fun w _ => laidMetH Tryz.prog Rows.probeAgreesRow.laid w) (fun _ _ _ hh h => h.of_heap hh) Tryz.own started (by kernel_rfl) Tryz.func3
    (ChangeSpec.witness_shaped (enc := enc) (C := Tryz.checked) (os := os) (X := fun w _ => laidMetH Tryz.prog Rows.probeAgreesRow.laid w) false (World.doorLaid Tryz.prog 400 os) #[.agg #[.slice none 0 0], .slice none 0 0, .agg #[.slice none 0 0, .int .i64 0, .int .u64 0, .int .i64 0]] 8 rfl (World.shaped_of_RefB (by kernel_rfl) (by kernel_rfl)) (by kernel_rfl) (by kernel_rfl) (by kernel_rfl) (door_met os _)) ?_
  intro W base args ds gs before hval0 hW _ _ hL _
  have hval : ∀ (j : Nat) t v, Tryz.f3.params[j]? = some t → args[j]? = some v → Value.okWide Tryz.prog W .any base t v := hval0
  have hW' := hW
  obtain ⟨p, q, hA0, hV, rfl, hfz, hnd⟩ := hW
  have hA : DataW.TrodAll enc Tryz.prog W 0 (fun _ => true) true Tryz.f3.params.toList args.toList ds p := hA0
  rw [Tryz.params3] at hA hval
  have hA' := hA
  obtain ⟨v0, vs0, d0, ds0, p0, q0, hargs, rfl, rfl, h0, r0⟩ := trodAll_cons hA
  obtain ⟨v1, vs1, d1, ds1, p1, q1, rfl, rfl, rfl, h1, r1⟩ := trodAll_cons r0
  obtain ⟨v2, vs2, d2, ds2, p2, q2, rfl, rfl, rfl, h2, r2⟩ := trodAll_cons r1
  obtain ⟨rfl, rfl, rfl⟩ := trodAll_nil r2
  obtain rfl : args = #[v0, v1, v2] := by cases args; simp_all
  obtain ⟨rfl, rfl⟩ := trodVars_none hV
  obtain ⟨A0, c0, z0, rfl, sl0⟩ := open_arena (hval 0 24 v0 rfl rfl) h0
  obtain ⟨A1, len1, c1, rfl⟩ := okWide_slice Tryz.underlying25 (hval 1 25 v1 rfl rfl)
  obtain ⟨z1, rfl, sl1⟩ := open_vecs h1
  obtain ⟨z2, rfl, sl2⟩ := open_probe (hval 2 31 v2 rfl rfl) h2
  clear hA0 hval0
  refine (walk A0 c0 z0 sl0 A1 c1 z1 sl1 z2 sl2 (tab_of_laid hL)).mono fun e W' ⟨he, bel⟩ => ?_
  subst he
  exact ⟨_, rfl, _, _, _, [], _, [], hW', trodAll_mk1 (shut_bool Tryz.underlying4 _), trodAll_below bel _ _ _ _ (by kernel_rfl) hA', rfl, bel.frame _, fun h => by cases h⟩

theorem row_holds : Rows.ProbeAgreesSaid :=
  OpenClaim.holds_of_wide 3 Tryz.f3 rfl rfl rfl rfl rfl rfl rfl ⟨rfl, rfl, rfl, rfl, rfl⟩ rfl rfl rfl rfl rfl (by kernel_rfl) Tryz.func3 (by kernel_rfl)
    (of_decide_eq_true (by kernel_rfl)) (by unfold Func.isWrapper; first | (rw [if_pos (by decide +kernel)]; kernel_rfl) | (rw [if_neg (by decide +kernel)]; exact ⟨rfl, rfl⟩))
    (fun os started H enc _ => lifted os started H enc)

theorem proved : Rows.ProbeAgreesCardSaid :=
  Claim7.holds_tied_plain_at .later [] [.data] true Rows.probeAgreesCard.stood.harness true
    row_holds (fun _ h => by cases h) (by kernel_rfl) (fun _ h => by cases h) probeAgrees_row_tie rfl ⟨rfl, rfl⟩ (by kernel_rfl) rfl
    (fun f fn hf hfn => by
      obtain rfl : f = 3 := Option.some.inj ((show Tryz.prog.funcNamed "quiver/quiverlaw14.ProbeAgrees" = some 3 by kernel_rfl).symm.trans hf) |>.symm
      obtain rfl : fn = Tryz.f3 := (Option.some.inj (Tryz.func3.symm.trans hfn)).symm
      exact ⟨by kernel_rfl, fun j t ht => by
        rw [Tryz.params3] at ht
        have hm : t ∈ [24, 25, 31] := by simpa using Array.mem_of_getElem? ht
        have hall : ([24, 25, 31].all fun u => !Tryz.prog.wantsStandIn u) = true := by kernel_rfl
        exact (show Tryz.prog.wantsStandIn t = false by simpa using List.all_eq_true.1 hall t hm)⟩)
    (by kernel_rfl)
#print axioms proved
end Go.Proofs.YtcekgllahlhaaaaGreatDoor.probeAgrees
