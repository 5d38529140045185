/-
  ProbeSearches: what is found in an arena, or the error, as the document says. Holds for all arenas, lists, probes and worlds; of these what the law goes through.
-/
import Derived.Test.YtcekgllahlhaaaaGreatMPrF
import Derived.Test.YtcekgllahlhaaaaGreatMPrC
import Derived.Test.YtcekgllahlhaaaaGreatMPrT
import Derived.Test.YtcekgllahlhaaaaGreatMPrS
import Derived.Test.YtcekgllahlhaaaaGreatMFrm
namespace Go.Proofs.YtcekgllahlhaaaaGreat.probeSearches
open Go.ChangeShapes Go.WideShapes Go.ChangeAt Go.RowKit Go.Deep Go.Shelf
open MskL (Mk Ms)
set_option linter.unusedVariables false
set_option linter.unusedSimpArgs false
set_option maxRecDepth 100000

def sArn (b : Nat) (R : List Ce) (v : Value) (w : World) : Prop := ∃ A c q, v = .agg #[.slice A (List.length q) c] ∧ ces q = R ∧ OwnA b w A c q
def sBxA (b : Nat) (v : Value) (w : World) : Prop := ∃ g, v = .pointer (some ⟨g, 0, none⟩) ∧ b ≤ g ∧ w.heap[g]? = some (.cells #[.slice none 0 0] 36 (0, 0))
def sBxL (b : Nat) (v : Value) (w : World) : Prop := ∃ g, v = .pointer (some ⟨g, 0, none⟩) ∧ b ≤ g ∧ w.heap[g]? = some (.cells #[.slice none 0 0, .slice none 0 0] 39 (0, 0))
theorem ownA_box {base g : Nat} {w w' : World} {A : Option Addr} {c : Nat} {q : List Pa} {cs : Array Value} {t : TypeId} (h : OwnA base w A c q) (hx : w.heap[g]? = some (.cells cs t (0, 0))) (h1 : t ≠ 90) (h2 : t ≠ 21) (ht : Turn (fun i => i = g) w w') : OwnA base w' A c q :=
  ⟨row_turn h.row ht (row_apart h.row hx h1), fun p hp => ⟨row_turn (h.el p hp).1 ht (row_apart (h.el p hp).1 hx h2), (h.el p hp).2⟩, h.fit⟩
theorem ownVs_box {base g : Nat} {w w' : World} {A : Option Addr} {c : Nat} {q : List Pv} {cs : Array Value} {t : TypeId} (h : OwnVs base w A c q) (hx : w.heap[g]? = some (.cells cs t (0, 0))) (h1 : t ≠ 26) (h2 : t ≠ 21) (ht : Turn (fun i => i = g) w w') : OwnVs base w' A c q :=
  ⟨row_turn h.row ht (row_apart h.row hx h1), fun p hp => ⟨row_turn (h.el p hp).1 ht (row_apart (h.el p hp).1 hx h2), (h.el p hp).2⟩⟩
theorem ownM_box {base g : Nat} {w w' : World} {A : Option Addr} {c : Nat} {q : List Mk} {cs : Array Value} {t : TypeId} (h : OwnM base w A c q) (hx : w.heap[g]? = some (.cells cs t (0, 0))) (h1 : t ≠ 93) (ht : Turn (fun i => i = g) w w') : OwnM base w' A c q :=
  ⟨row_turn h.1 ht (row_apart h.1 hx h1), h.2⟩
/-- The arena is laid in its box; the lists not yet. -/
def sD1 (w1 : World) (R : List Ce) (C : List (List Int)) (M : List Mk) (f : Nat → Value) (w : World) : Prop :=
  ∃ gA gL A1 c1 q1, f 4 = .pointer (some ⟨gA, 0, none⟩) ∧ f 5 = .pointer (some ⟨gL, 0, none⟩) ∧ w1.heap.size ≤ gA ∧ w1.heap.size ≤ gL ∧ w.heap[gA]? = some (.cells #[.slice A1 (List.length q1) c1] 36 (0, 0)) ∧ w.heap[gL]? = some (.cells #[.slice none 0 0, .slice none 0 0] 39 (0, 0)) ∧ ces q1 = R ∧ OwnA w1.heap.size w A1 c1 q1 ∧ r3lis w1.heap.size C M (f 3) w ∧ Below w1.heap.size w1 w
/-- Both are laid. -/
def sD2 (w1 : World) (R : List Ce) (C : List (List Int)) (M : List Mk) (f : Nat → Value) (w : World) : Prop :=
  ∃ gA gL A1 c1 q1 A2 c2 q2 B2 d2, f 4 = .pointer (some ⟨gA, 0, none⟩) ∧ f 5 = .pointer (some ⟨gL, 0, none⟩) ∧ w.heap[gA]? = some (.cells #[.slice A1 (List.length q1) c1] 36 (0, 0)) ∧ w.heap[gL]? = some (.cells #[.slice A2 C.length c2, .slice B2 M.length d2] 39 (0, 0)) ∧ ces q1 = R ∧ OwnA w1.heap.size w A1 c1 q1 ∧ vals q2 = C ∧ OwnVs w1.heap.size w A2 c2 q2 ∧ OwnM w1.heap.size w B2 d2 M ∧ Below w1.heap.size w1 w

set_option maxHeartbeats 8000000 in
theorem walk {w : World} (Aa : Option Addr) (ca : Nat) (qa : List Pa) (ha : Are w Aa ca qa) (A : Option Addr) (c : Nat) (C : List (List Int)) (B : Option Addr) (d : Nat) (M : List Mk) (hl : Lis w A c C B d M) (Ap : Option Addr) (cp : Nat) (ps : List Pb) (hp : Pbs w Ap cp ps) :
    Calls Tryz.prog 4 #[.agg #[.slice Aa qa.length ca], lv A c C.length B d M.length, .slice Ap ps.length cp] w fun e w' => e = .returned (.bool true) ∧ Below w.heap.size w w' := by
  obtain ⟨na, hna⟩ : ∃ k, k = qa.length := ⟨_, rfl⟩
  obtain ⟨n, hn⟩ : ∃ k, k = C.length := ⟨_, rfl⟩
  obtain ⟨m, hm⟩ : ∃ k, k = M.length := ⟨_, rfl⟩
  obtain ⟨np, hnp⟩ : ∃ k, k = ps.length := ⟨_, rfl⟩
  have HWk := Lib.hid (fun (X : World) => wakes_any X)
  have HAr := Lib.hid (fun (X : World) (hX : Below w.heap.size w X) => arenaO_any Aa ca qa X (ha.below hX))
  have HLi := Lib.hid (fun (X : World) (hX : Below w.heap.size w X) => listsO_any A c C B d M X (hl.below hX))
  have HPs := Lib.hid (fun (X : World) (hX : Below w.heap.size w X) => hp.below hX)
  have hpm := Nat.le_trans hp.room hp.most
  rw [← hna] at HAr
  rw [← hn, ← hm] at HLi
  rw [← hnp] at hpm
  have HNp := Lib.hid hnp
  have HLc := Lib.hid (show (cutA (ces qa)).length ≤ 97 by rw [cutA_len]; omega)
  generalize hR : cutA (ces qa) = R at *
  generalize hC : cutC C = C1 at *
  generalize hM : M.take 7 = M1 at *
  obtain ⟨n1, hn1⟩ : ∃ k, k = C1.length := ⟨_, rfl⟩
  obtain ⟨m1, hm1⟩ : ∃ k, k = M1.length := ⟨_, rfl⟩
  have HN1 := Lib.hid hn1
  have HM1 := Lib.hid hm1

  obtain ⟨W1, hW1⟩ : ∃ W1, W1 = w.alloc (.cells #[.slice Aa na ca] 36) := ⟨_, rfl⟩
  obtain ⟨W0, hW0⟩ : ∃ W0, W0 = W1.alloc (.cells #[.slice A n c, .slice B m d] 39) := ⟨_, rfl⟩
  have hb1 : Below w.heap.size w W1 := by rw [hW1]; exact bn1 _ _
  have hb01 : Below W1.heap.size W1 W0 := by rw [hW0]; exact bn1 _ _
  have hxa0 : W1.heap[w.heap.size]? = some (.cells #[.slice Aa na ca] 36 (0, 0)) := by rw [hW1]; exact heap_alloc_new _ _
  have hxa : W0.heap[w.heap.size]? = some (.cells #[.slice Aa na ca] 36 (0, 0)) := (hb01.block _ (lt_of_block hxa0)).trans hxa0
  have hxl : W0.heap[W1.heap.size]? = some (.cells #[.slice A n c, .slice B m d] 39 (0, 0)) := by rw [hW0]; exact heap_alloc_new _ _
  have HBX := Lib.hid (fun (X : World) (hX : Below W0.heap.size W0 X) => And.intro ((hX.block _ (lt_of_block hxa)).trans hxa) ((hX.block _ (lt_of_block hxl)).trans hxl))
  have HB0 := Lib.hid (hb1.trans (hb01.mono hb1.size))
  have HC0 := Lib.hid (Below.refl W0.heap.size W0)
  have HW1 := Lib.hid hW1
  have HW0 := Lib.hid hW0
  rw [← hna, ← hn, ← hm, ← hnp]
  clear ha hl hp hna hn hm hnp hR hC hM hn1 hm1 hW1 hW0 hb1 hb01 hxa0 hxa hxl
  unfold lv at *
  go_enter Tryz.func4, Tryz.ntmps4
  go_wp2_with (first | (rw [← HW1.out]) | (rw [← HW0.out]) | fail)
  refine (HWk.out W0).mono ?_
  rintro e w1 ⟨rfl, hb1⟩
  have HB1 := Lib.hid hb1
  have HC1 := Lib.hid (Below.refl w1.heap.size w1)
  clear hb1
  go_upto_region 3 with fail
  refine MskL.region_relS2 6 rfl (fun X => Below w1.heap.size w1 X) (sD1 w1 R C1 M1) (sD2 w1 R C1 M1) [fun v _ => v = .agg #[.slice Aa na ca], sArn w1.heap.size R, fun v _ => v = .agg #[.slice A n c, .slice B m d], r3lis w1.heap.size C1 M1, sBxA w1.heap.size, sBxL w1.heap.size]
    (fun r hr v2 w7 w8 h hb => by
      simp only [List.mem_cons, List.mem_nil_iff, or_false] at hr
      rcases hr with rfl | rfl | rfl | rfl | rfl | rfl
      · exact h
      · obtain ⟨A, c, q, h1, h2, h3⟩ := h; exact ⟨A, c, q, h1, h2, h3.below hb⟩
      · exact h
      · obtain ⟨A, c, q, B, d, h1, h2, h3, h4⟩ := h; exact ⟨A, c, q, B, d, h1, h2, h3.below hb, h4.below hb⟩
      · obtain ⟨g, h1, h2, h3⟩ := h; exact ⟨g, h1, h2, (hb.block _ (lt_of_block h3)).trans h3⟩
      · obtain ⟨g, h1, h2, h3⟩ := h; exact ⟨g, h1, h2, (hb.block _ (lt_of_block h3)).trans h3⟩)
    (by kernel_rfl) (below_drew HC1.out) (by kernel_rfl) (by kernel_rfl) (by kernel_rfl) (by kernel_rfl) (by kernel_rfl) ?_ ?_ ?_ ?_
  · refine ⟨.inr ?_, .inr ?_, .inr ?_, .inr ?_, .inr ?_, .inr ?_, .inl (by decide), .inl (by decide), trivial⟩
    · intro f w2 hw hd
      have z0 := (cell_of_row _ _ 0 _ _ _ (HBX.out w2 (below_tr HB1.out hw)).1).trans rfl
      simp [MskL.fillR, Act.put, go_sem, MskL.relG, hw, Below.refl, z0]
    · intro f w2 hw hd
      have e0 : f 0 = .agg #[.slice Aa na ca] := MskL.depG_of hd 0 (by kernel_rfl)
      simp [MskL.fillR, Act.put, go_sem, MskL.relG, hw, Below.refl, e0]
      refine (HAr.out w2 (HB0.out.trans ((below_tr HB1.out hw).mono HB0.out.size))).mono ?_
      rintro e w3 ⟨A', c', q, rfl, hq, hr, hb⟩
      exact ⟨⟨A', c', q, rfl, hq, hr.mono hw.size⟩, hw.trans (hb.mono hw.size), hb⟩
    · intro f w2 hw hd
      have z0 := (cell_of_row _ _ 0 _ _ _ (HBX.out w2 (below_tr HB1.out hw)).2).trans rfl
      have z1 := (cell_of_row _ _ 1 _ _ _ (HBX.out w2 (below_tr HB1.out hw)).2).trans rfl
      simp [MskL.fillR, Act.put, go_sem, MskL.relG, hw, Below.refl, z0, z1]
    · intro f w2 hw hd
      have e0 : f 2 = .agg #[.slice A n c, .slice B m d] := MskL.depG_of hd 2 (by kernel_rfl)
      simp [MskL.fillR, Act.put, go_sem, MskL.relG, hw, Below.refl, e0]
      refine (HLi.out w2 (HB0.out.trans ((below_tr HB1.out hw).mono HB0.out.size))).mono ?_
      rintro e w3 ⟨⟨A', c', q, B', d', rfl, hq, hr, hm⟩, hb⟩
      exact ⟨⟨A', c', q, B', d', rfl, hq, hr.mono hw.size, hm.mono hw.size⟩, hw.trans (hb.mono hw.size), hb⟩
    · intro f w2 hw hd
      simp [MskL.fillR, Act.put, go_sem, MskL.relG, hw, Below.refl]
      exact ⟨⟨_, rfl, hw.size, heap_alloc_new _ _⟩, hw.alloc hw.size _, bn1 _ _⟩
    · intro f w2 hw hd
      simp [MskL.fillR, Act.put, go_sem, MskL.relG, hw, Below.refl]
      exact ⟨⟨_, rfl, hw.size, heap_alloc_new _ _⟩, hw.alloc hw.size _, bn1 _ _⟩
  · intro o ho f w2 hw hr
    obtain rfl : _ = o := Option.some.inj ho
    obtain ⟨A1, c1, q1, e1, hq1, ho1⟩ : sArn w1.heap.size R (f 1) w2 := hr 1 (by decide)
    obtain ⟨A2, c2, q2, B2, d2, e3, hq2, hv2, hm2⟩ : r3lis w1.heap.size C1 M1 (f 3) w2 := hr 3 (by decide)
    obtain ⟨gA, e4, hgA, hxA⟩ : sBxA w1.heap.size (f 4) w2 := hr 4 (by decide)
    obtain ⟨gL, e5, hgL, hxL⟩ : sBxL w1.heap.size (f 5) w2 := hr 5 (by decide)
    have k0 := (cell_of_row _ _ 0 _ _ _ hxA).trans rfl
    have f0 : w2.frozen? ⟨gA, 0, none⟩ = false := frozen_of_row _ _ _ _ _ hxA
    have t := turn_set w2 gA 0 (.slice A1 (List.length q1) c1)
    have hne : gL ≠ gA := fun e => by rw [e, hxA] at hxL; injection hxL with hxL; injection hxL with _ h2 _; exact absurd h2 (by decide)
    have hD : sD1 w1 R C1 M1 (MskL.setF f 6 undef) (w2.setCell ⟨gA, 0, none⟩ (.slice A1 (List.length q1) c1)) := by
      refine ⟨gA, gL, A1, c1, q1, (MskL.setF_other _ _ (by decide)).trans e4, (MskL.setF_other _ _ (by decide)).trans e5, hgA, hgL, heap_setCell_same _ gA 0 _ _ _ hxA, (Below.heap_setCell _ _ _ _ hne).trans hxL, hq1, ownA_box ho1 hxA (by decide) (by decide) t, ?_, hw.trans (t.below hw.size (fun i hi => by omega) |>.mono (Nat.le_refl _))⟩
      exact ⟨A2, c2, q2, B2, d2, (MskL.setF_other _ _ (by decide)).trans e3, hq2, ownVs_box hv2 hxA (by decide) (by decide) t, ownM_box hm2 hxA (by decide) t⟩
    simp [MskL.fillR, Act.put, go_sem, e1, e4, k0, f0, -getElem?_eq_none_iff]
    exact ⟨_, hD⟩
  · intro o ho f w2 hD
    obtain rfl : _ = o := Option.some.inj ho
    obtain ⟨gA, gL, A1, c1, q1, e4, e5, hgA, hgL, hxA, hxL, hq1, ho1, ⟨A2, c2, q2, B2, d2, e3, hq2, hv2, hm2⟩, hw⟩ := hD
    unfold lv at e3
    have k0 := (cell_of_row _ _ 0 _ _ _ hxL).trans rfl
    have k1 := (cell_of_row _ _ 1 _ _ _ hxL).trans rfl
    have f0 : w2.frozen? ⟨gL, 0, none⟩ = false := frozen_of_row _ _ _ _ _ hxL
    have f1 : w2.frozen? ⟨gL, 1, none⟩ = false := frozen_of_row _ _ _ _ _ hxL
    have hne : gA ≠ gL := fun e => by rw [← e, hxA] at hxL; injection hxL with hxL; injection hxL with _ h2 _; exact absurd h2 (by decide)
    have y1 := heap_setCell_same _ gL 0 _ _ (.slice A2 C1.length c2) hxL
    have y2 := heap_setCell_same _ gL 1 _ _ (.slice B2 M1.length d2) y1
    have t : Turn (fun i => i = gL) w2 ((w2.setCell ⟨gL, 0, none⟩ (.slice A2 C1.length c2)).setCell ⟨gL, 1, none⟩ (.slice B2 M1.length d2)) := (turn_set _ _ _ _).trans (turn_set _ _ _ _) (fun i hi => .inl hi)
    have hD : sD2 w1 R C1 M1 (MskL.setF f 7 undef) ((w2.setCell ⟨gL, 0, none⟩ (.slice A2 C1.length c2)).setCell ⟨gL, 1, none⟩ (.slice B2 M1.length d2)) :=
      ⟨gA, gL, A1, c1, q1, A2, c2, q2, B2, d2, (MskL.setF_other _ _ (by decide)).trans e4, (MskL.setF_other _ _ (by decide)).trans e5, (t.block _ (lt_of_block hxA) hne).trans hxA, y2, hq1, ownA_box ho1 hxL (by decide) (by decide) t, hq2, ownVs_box hv2 hxL (by decide) (by decide) t, ownM_box hm2 hxL (by decide) t, hw.trans (t.below hw.size (fun i hi => by omega))⟩
    simp [MskL.fillR, Act.put, go_sem, e3, e5, k0, k1, f0, f1, -getElem?_eq_none_iff]
    exact ⟨_, hD⟩
  intro f w3 hD
  obtain ⟨gA, gL, A1, c1, q1, A2, c2, q2, B2, d2, e4, e5, hxA, hxL, hq1, ho1, hq2, hv2, hm2, hb3⟩ := hD
  simp only [MskL.fillR, Act.put, List.size_toArray, List.length_cons, List.length_nil, List.setIfInBounds_toArray, List.set_cons_succ, List.set_cons_zero, e4, e5]
  generalize f 0 = u0
  generalize f 1 = u1
  generalize f 2 = u2
  generalize f 3 = u3
  obtain ⟨n3, hn3⟩ : ∃ k, k = q1.length := ⟨_, rfl⟩
  have hn97 : n3 ≤ 97 := by have := HLc.out; rw [← hq1, ces_length] at this; omega
  rw [← hn3] at hxA
  rw [← HN1.out, ← HM1.out] at hxL
  have hlis : Lis w3 A2 c2 C1 B2 d2 M1 := ⟨by rw [← hq2]; exact hv2.vecs, hm2.ms⟩
  have HXA := Lib.hid (fun (X : World) (hX : Below w3.heap.size w3 X) => And.intro ((hX.block _ (lt_of_block hxA)).trans hxA) ((hX.block _ (lt_of_block hxL)).trans hxL))
  have HB3 := Lib.hid (HB0.out.trans ((below_tr HB1.out hb3).mono HB0.out.size))
  have HC3 := Lib.hid (Below.refl w3.heap.size w3)
  have HSe := Lib.hid (fun (X : World) (hX : Below w3.heap.size w3 X) (Av : Option Addr) (cv : Nat) (v : List Int) (kq ts N : Int) (hv : Vec .i32 X Av cv v) => show Calls Tryz.prog 18 #[.agg #[.slice A1 n3 c1], .agg #[.slice A2 n1 c2, .slice B2 m1 d2], pv Av v.length cv kq ts N] X (GivesHE X (srL kq ts N v C1 M1 R) (srE kq ts N v C1 M1 R)) from by
    have h := searchP_any A1 c1 q1 A2 c2 C1 B2 d2 M1 Av cv v kq ts N X (ho1.are.below hX) (hlis.below hX) hv
    rw [hq1, ← hn3, ← HN1.out, ← HM1.out] at h
    exact h)
  have HRe := Lib.hid (fun (X : World) (hX : Below w3.heap.size w3 X) (Av : Option Addr) (cv : Nat) (v : List Int) (kq ts N : Int) (hv : Vec .i32 X Av cv v) => show Calls Tryz.prog 19 #[.agg #[.slice A1 n3 c1], .agg #[.slice A2 n1 c2, .slice B2 m1 d2], pv Av v.length cv kq ts N] X (GivesHE X (srL kq ts N v C1 M1 R) (srE kq ts N v C1 M1 R)) from by
    have h := rSearch_any A1 c1 q1 A2 c2 C1 B2 d2 M1 Av cv v kq ts N X (ho1.are.below hX) (hlis.below hX) hv (by omega)
    rw [hq1, ← hn3, ← HN1.out, ← HM1.out] at h
    exact h)
  clear e4 e5 hxA hxL hq1 ho1 hq2 hv2 hm2 hb3 hn3 hn97 hlis
  go_wp2
  go_loopw [24] (fun i wr => ∃ k : Nat, k ≤ np ∧ i = .int .i64 k ∧ Hid (Below w3.heap.size w3 wr)) (fun i _ => np - (intOf i).toNat)
  case atStart => exact ⟨0, Nat.zero_le _, rfl, Lib.hid (Below.refl _ _)⟩
  case round =>
    obtain ⟨k, hk, rfl, HB⟩ := hrel
    by_cases hkp : k < np
    · obtain ⟨b, o, P, rfl, hP, hb, ⟨d0, d1, d2', d3⟩, hvp⟩ := (HPs.out wr (HB3.out.trans (HB.out.mono HB3.out.size))).at_ (i := k) (by rw [← HNp.out]; exact hkp)
      have k0 : (0 : Int) ≤ k := by omega
      have kp : (k : Int) < np := by omega
      obtain ⟨xl, hxl⟩ : ∃ xl, xl = P.x.length := ⟨_, rfl⟩
      rw [← hxl] at d0
      obtain ⟨V, hV⟩ : ∃ V, V = wr.alloc (.cells #[.slice P.B xl P.c, .int .i64 P.k, .int .u64 P.t, .int .i64 P.n] 47) := ⟨_, rfl⟩
      have hxV : V.heap[wr.heap.size]? = some (.cells #[.slice P.B xl P.c, .int .i64 P.k, .int .u64 P.t, .int .i64 P.n] 47 (0, 0)) := by rw [hV]; exact heap_alloc_new _ _
      have hbV : Below wr.heap.size wr V := by rw [hV]; exact bn1 _ _
      have HBV := Lib.hid (HB.out.trans (hbV.mono HB.out.size))
      have HPB := Lib.hid (fun (X : World) (hX : Below V.heap.size V X) => (hX.block _ (lt_of_block hxV)).trans hxV)
      have HSo2 := Lib.hid (fun (X : World) (hX : Below V.heap.size V X) => someO_any P.B P.c P.x P.k P.t P.n X ((hvp.below hbV).below hX))
      rw [← hxl] at HSo2
      obtain ⟨v, hv⟩ : ∃ v, v = P.x.take 5 := ⟨_, rfl⟩
      rw [← hv] at HSo2
      obtain ⟨nv, hnv⟩ : ∃ n, n = v.length := ⟨_, rfl⟩
      rw [← hnv] at HSo2
      have HNv := Lib.hid hnv
      have HVV := Lib.hid hV
      have HWs := Lib.hid HB.out.size
      have x0 := (cell_of_row _ _ 0 _ _ _ hxV).trans rfl
      have x1 := (cell_of_row _ _ 1 _ _ _ hxV).trans rfl
      have x2 := (cell_of_row _ _ 2 _ _ _ hxV).trans rfl
      have x3 := (cell_of_row _ _ 3 _ _ _ hxV).trans rfl
      obtain ⟨E, hE⟩ : ∃ E, E = srE P.k P.t P.n v C1 M1 R := ⟨_, rfl⟩
      obtain ⟨L, hL⟩ : ∃ L, L = srL P.k P.t P.n v C1 M1 R := ⟨_, rfl⟩
      obtain ⟨ml, hml⟩ : ∃ m, m = L.length := ⟨_, rfl⟩
      have HEL := Lib.hid (And.intro hE (And.intro hL hml))
      by_cases h8 : k = 8
      · have t1 : ((k : Int) == 8) = true := by simp [h8]
        have t2 : (k == 8) = true := by simp [h8]
        have HBF := Lib.hid (HB3.out.trans (HBV.out.mono HB3.out.size))
        clear h8 hP hb hvp hxl hV hxV hbV hv hnv hE hL hml
        go_wp2_with (rw [← HVV.out])
        go_ret
        exact ⟨rfl, HBF.out⟩
      · have t1 : ((k : Int) == 8) = false := by simp; omega
        have t2 : (k == 8) = false := by simpa using h8
        clear h8 hP hb hvp hxl hV hxV hbV hv hnv hE hL hml
        unfold pv at *
        go_wp2_with (rw [← HVV.out])
        refine (HSo2.out V (Below.refl _ _)).mono ?_
        rintro e w5 ⟨A3, c3, rfl, hv3, hb5⟩
        have hx5 := HPB.out w5 hb5
        obtain ⟨W5, hW5⟩ : ∃ W, W = put4 w5 wr.heap.size (.slice A3 nv c3) (.int .i64 P.k) (.int .u64 P.t) (.int .i64 P.n) := ⟨_, rfl⟩
        have hx6 : W5.heap[wr.heap.size]? = some (.cells #[.slice A3 nv c3, .int .i64 P.k, .int .u64 P.t, .int .i64 P.n] 47 (0, 0)) := by rw [hW5]; exact set4 hx5 _ _ _ _
        have t5 : Turn (fun i => i = wr.heap.size) w5 W5 := by rw [hW5]; exact put4_turn _ _ _ _ _ _
        have hv5 := (hv3.box hx5 t5).vec
        have hB5 : Below w3.heap.size w3 w5 := HBV.out.trans (hb5.mono HBV.out.size)
        have hB6 : Below w3.heap.size w3 W5 := hB5.trans (t5.below hB5.size (fun i hi => by have := HWs.out; omega))
        have HP6 := Lib.hid (fun (X : World) (hX : Below W5.heap.size W5 X) => And.intro ((hX.block _ (lt_of_block hx6)).trans hx6) (hv5.below hX))
        have HB6 := Lib.hid hB6
        have y0 := (cell_of_row _ _ 0 _ _ _ hx5).trans rfl
        have y1 := (cell_of_row _ _ 1 _ _ _ hx5).trans rfl
        have y2 := (cell_of_row _ _ 2 _ _ _ hx5).trans rfl
        have y3 := (cell_of_row _ _ 3 _ _ _ hx5).trans rfl
        have fz : ∀ j, w5.frozen? ⟨wr.heap.size, j, none⟩ = false := fun j => frozen_of_row _ _ _ _ _ hx5
        have fz0 := fz 0
        have fz1 := fz 1
        have fz2 := fz 2
        have fz3 := fz 3
        unfold put4 at hW5
        have HW5 := Lib.hid hW5
        have z0 := (cell_of_row _ _ 0 _ _ _ hx6).trans rfl
        have z1 := (cell_of_row _ _ 1 _ _ _ hx6).trans rfl
        have z2 := (cell_of_row _ _ 2 _ _ _ hx6).trans rfl
        have z3 := (cell_of_row _ _ 3 _ _ _ hx6).trans rfl
        have a0 := (cell_of_row _ _ 0 _ _ _ (HXA.out W5 hB6).1).trans rfl
        have b0 := (cell_of_row _ _ 0 _ _ _ (HXA.out W5 hB6).2).trans rfl
        have b1 := (cell_of_row _ _ 1 _ _ _ (HXA.out W5 hB6).2).trans rfl
        have hse := HSe.out W5 hB6 A3 c3 v P.k P.t P.n hv5
        rw [← HNv.out, ← HEL.out.1, ← HEL.out.2.1] at hse
        have HSE := Lib.hid hse
        clear hW5 hx6 t5 hv5 hB5 hB6 hx5 hb5 hv3 hse fz x0 x1 x2 x3
        unfold pv at *
        go_wp2_with (rw [← HW5.out])
        refine HSE.out.mono ?_
        rintro e w6 ⟨A6, c6, he, ho6, hb6⟩
        rw [← HEL.out.2.2] at he
        subst he
        have hB7 : Below w3.heap.size w3 w6 := HB6.out.trans (hb6.mono HB6.out.size)
        have HB7 := Lib.hid hB7
        have HO6 := Lib.hid ho6
        have HV6 := Lib.hid hb6
        clear z0 z1 z2 z3 a0 b0 b1 y0 y1 y2 y3 fz0 fz1 fz2 fz3
        have z0 := (cell_of_row _ _ 0 _ _ _ (HP6.out w6 hb6).1).trans rfl
        have z1 := (cell_of_row _ _ 1 _ _ _ (HP6.out w6 hb6).1).trans rfl
        have z2 := (cell_of_row _ _ 2 _ _ _ (HP6.out w6 hb6).1).trans rfl
        have z3 := (cell_of_row _ _ 3 _ _ _ (HP6.out w6 hb6).1).trans rfl
        have a0 := (cell_of_row _ _ 0 _ _ _ (HXA.out w6 hB7).1).trans rfl
        have b0 := (cell_of_row _ _ 0 _ _ _ (HXA.out w6 hB7).2).trans rfl
        have b1 := (cell_of_row _ _ 1 _ _ _ (HXA.out w6 hB7).2).trans rfl
        have hre := HRe.out w6 hB7 A3 c3 v P.k P.t P.n (HP6.out w6 hb6).2
        rw [← HNv.out, ← HEL.out.1, ← HEL.out.2.1] at hre
        have HRE := Lib.hid hre
        clear hB7 hb6 ho6 hre
        unfold pv at *
        go_wp2_with fail
        refine HRE.out.mono ?_
        rintro e w7 ⟨A7, c7, he, ho7, hb7⟩
        rw [← HEL.out.2.2] at he
        subst he
        have HB8 := Lib.hid (HB7.out.trans (hb7.mono HB7.out.size))
        have HV7 := Lib.hid (HV6.out.trans (hb7.mono HV6.out.size))
        have hsm := TopL.rSame_any A6 A7 c6 c7 L L w7 (HO6.out.below hb7).hits ho7.hits
        rw [← HEL.out.2.2, decide_eq_true rfl] at hsm
        have HSM := Lib.hid hsm
        have t3 : (E != E) = false := by simp
        clear z0 z1 z2 z3 a0 b0 b1 hb7 ho7 hsm
        go_wp2_with fail
        refine HSM.out.mono ?_
        rintro e w8 ⟨rfl, hb8⟩
        have HB9 := Lib.hid (HB8.out.trans (hb8.mono HB8.out.size))
        have HV8 := Lib.hid (HV7.out.trans (hb8.mono HV7.out.size))
        have z0 := (cell_of_row _ _ 0 _ _ _ (HP6.out w8 HV8.out).1).trans rfl
        have z1 := (cell_of_row _ _ 1 _ _ _ (HP6.out w8 HV8.out).1).trans rfl
        have z2 := (cell_of_row _ _ 2 _ _ _ (HP6.out w8 HV8.out).1).trans rfl
        have z3 := (cell_of_row _ _ 3 _ _ _ (HP6.out w8 HV8.out).1).trans rfl
        have hck := checkP_any v A3 c3 P.k P.t P.n w8 (HP6.out w8 HV8.out).2
        obtain ⟨F, hF⟩ : ∃ F, F = chkP P.k P.n v := ⟨_, rfl⟩
        rw [← HNv.out, ← hF] at hck
        have HCK := Lib.hid hck
        have HF := Lib.hid hF
        clear hb8 hck hF
        unfold pv at *
        go_wp2_with fail
        refine HCK.out.mono ?_
        rintro e w9 ⟨rfl, hb9⟩
        have HB10 := Lib.hid (HB9.out.trans (hb9.mono HB9.out.size))
        have HV9 := Lib.hid (HV8.out.trans (hb9.mono HV8.out.size))
        clear z0 z1 z2 z3
        have z0 := (cell_of_row _ _ 0 _ _ _ (HP6.out w9 HV9.out).1).trans rfl
        have z1 := (cell_of_row _ _ 1 _ _ _ (HP6.out w9 HV9.out).1).trans rfl
        have z2 := (cell_of_row _ _ 2 _ _ _ (HP6.out w9 HV9.out).1).trans rfl
        have z3 := (cell_of_row _ _ 3 _ _ _ (HP6.out w9 HV9.out).1).trans rfl
        have hck := rErrP_any v A3 c3 P.k P.t P.n w9 (HP6.out w9 HV9.out).2
        rw [← HNv.out, ← HF.out] at hck
        have HCK2 := Lib.hid hck
        have t4 : (F != F) = false := by simp
        clear hb9 hck
        unfold pv at *
        go_wp2_with fail
        refine HCK2.out.mono ?_
        rintro e w10 ⟨rfl, hb10⟩
        have HB11 := Lib.hid (HB10.out.trans (hb10.mono HB10.out.size))
        clear hb10
        go_wp2
        go_roundw
        case rel => exact ⟨k + 1, by omega, by go_num, HB11⟩
        case measure => simp [intOf]; omega
    · obtain rfl : k = np := by omega
      have HBF := Lib.hid (HB3.out.trans (HB.out.mono HB3.out.size))
      go_wp2
      go_ret
      exact ⟨rfl, HBF.out⟩

set_option maxRecDepth 100000 in
theorem lifted (os : Os) (started : os.Started) (H : Type) (enc : TypeId × Value → H) :
    ReturnsInHanded {} Tryz.checked os 4 .any (Rows.probeSearchesSpec.pre6 enc Tryz.prog Tryz.f4 Rows.probeSearchesRow.domain false) (Rows.probeSearchesSpec.post enc Tryz.prog Tryz.f4 false true false false) := by
  refine returnsInHanded_of_change (C := Tryz.checked) Tryz.own started (by kernel_rfl) Tryz.func4
    (ChangeSpec.witness6 (enc := enc) (C := Tryz.checked) false ⟨#[], #[.agg #[.slice none 0 0], .agg #[.slice none 0 0, .slice none 0 0], .slice none 0 0], []⟩ 8 (by kernel_rfl) (by kernel_rfl) (by kernel_rfl) (by kernel_rfl)) ?_
  intro W base args ds gs before hval0 hW hcnd _
  have hval : ∀ (j : Nat) t v, Tryz.f4.params[j]? = some t → args[j]? = some v → Value.okWide Tryz.prog W .any base t v := hval0
  have hW' := hW
  obtain ⟨p, q, hA0, hV, rfl, hfz, hnd⟩ := hW
  have hA : DataW.TrodAll enc Tryz.prog W 0 (fun _ => true) true Tryz.f4.params.toList args.toList ds p := hA0
  rw [Tryz.params4] at hA hval
  have hA' := hA
  obtain ⟨v0, vs0, d0, ds0, p0, q0, hargs, rfl, rfl, h0, r0⟩ := trodAll_cons hA
  obtain ⟨v1, vs1, d1, ds1, p1, q1, rfl, rfl, rfl, h1, r1⟩ := trodAll_cons r0
  obtain ⟨v2, vs2, d2, ds2, p2, q2, rfl, rfl, rfl, h2, r2⟩ := trodAll_cons r1
  obtain ⟨rfl, rfl, rfl⟩ := trodAll_nil r2
  obtain rfl : args = #[v0, v1, v2] := by cases args; simp_all
  obtain ⟨rfl, rfl⟩ := trodVars_none hV
  obtain ⟨A0, c0, z0, rfl, sl0⟩ := open_arena (hval 0 36 v0 rfl rfl) h0
  obtain ⟨A1, c1, C1, B1, k1, M1, rfl, sl1⟩ := open_lists (hval 1 39 v1 rfl rfl) h1
  obtain ⟨A2, len2, c2, rfl⟩ := okWide_slice Tryz.underlying40 (hval 2 40 v2 rfl rfl)
  obtain ⟨z2, rfl, sl2⟩ := open_probes h2
  clear hA0 hval0
  refine (walk A0 c0 z0 sl0 A1 c1 C1 B1 k1 M1 sl1 A2 c2 z2 sl2).mono fun e W' ⟨he, bel⟩ => ?_
  subst he
  exact ⟨_, rfl, _, _, _, [], _, [], hW', trodAll_mk1 (shut_bool Tryz.underlying4 _), trodAll_below bel _ _ _ _ (by kernel_rfl) hA', rfl, bel.frame _, fun h => by cases h⟩

theorem proved : Rows.ProbeSearchesSaid :=
  OpenClaim.holds_of_wide 4 Tryz.f4 rfl rfl rfl rfl rfl rfl rfl ⟨rfl, rfl, rfl, rfl, rfl⟩ rfl rfl rfl rfl rfl (by kernel_rfl) Tryz.func4 (by kernel_rfl)
    (of_decide_eq_true (by kernel_rfl)) (by unfold Func.isWrapper; first | (rw [if_pos (by decide +kernel)]; kernel_rfl) | (rw [if_neg (by decide +kernel)]; exact ⟨rfl, rfl⟩))
    (fun os started H enc _ => lifted os started H enc)
#print axioms proved
end Go.Proofs.YtcekgllahlhaaaaGreat.probeSearches
