/-
  The document's answers for layer 6: First, Right.
-/
import Derived.Test.YthobkakmjgmpcaaTopSort
namespace Go.Proofs.Ythobkakmjgmpcaa
open Go.RowKit Go.Shelf
set_option linter.unusedVariables false
set_option linter.unusedSimpArgs false
set_option maxRecDepth 100000

theorem row_cut {w : World} {base : Nat} {A : Option Addr} {c m q : Nat} {l : List HitM} (h : w.ownsRow base 32 2 (.slice A m c) m (flat l)) (hm : l.length = m) (hq : q ≤ m) : w.ownsRow base 32 2 (.slice A q c) q (flat (l.take q)) := by
  have hl : (l.take q).length = q := by simp; omega
  rcases h.2 with ⟨e, h0⟩ | ⟨g, cap, cur, e, hg, hh, hnc, hcm, hsz, hcs⟩
  · injection e with e1 e2 e3
    subst h0
    obtain rfl : q = 0 := by omega
    subst e1 e3
    exact ⟨by rw [flat_length, hl], .inl ⟨rfl, rfl⟩⟩
  · injection e with e1 _ e3
    subst e1
    subst e3
    refine ⟨by rw [flat_length, hl], .inr ⟨g, c, cur, rfl, hg, hh, by omega, hcm, hsz, ?_⟩⟩
    have h2 : cur.toList.take (q * 2) = (cur.toList.take (m * 2)).take (q * 2) := by rw [List.take_take]; congr 1; omega
    have h3 : flat l = flat (l.take q) ++ flat (l.drop q) := by rw [← flat_append, List.take_append_drop]
    rw [h2, hcs, h3, List.take_append_of_le_length (by rw [flat_length, hl]; omega), List.take_of_length_le (by rw [flat_length, hl]; omega)]

set_option maxHeartbeats 1000000 in
theorem rFirst_any (A : Option Addr) (c k : Nat) (l : List HitM) (w : World) (h : Hits w A c l) (hbig : l.length ≤ 1000000000) (hk : k ≤ 1000000000) :
    Calls Try.prog 15 #[.slice A l.length c, .int .i64 k] w fun e w' => ∃ v, e = .returned v ∧ OwnH w v w' (firstM k l) := by
  have HS := Lib.hid (rSorted_any A c l w h hbig)
  have HM := Lib.hid (sort_length l)
  have HF := Lib.hid (show firstM k l = (sortM l).take k from rfl)
  have HFL := Lib.hid (first_length k l)
  obtain ⟨m, hm⟩ : ∃ m, m = l.length := ⟨_, rfl⟩
  obtain ⟨q, hq⟩ : ∃ q, q = min k m := ⟨_, rfl⟩
  have HQ := Lib.hid hq
  have HMM := Lib.hid hm
  have hmin : min (k : Int) (m : Int) = (q : Int) := by omega
  have hqm : q ≤ m := by omega
  have q0 : (0 : Int) ≤ q := by omega
  rw [← hm] at hbig ⊢
  clear h hq hm
  go_enter Try.func15, Try.ntmps15
  go_wp2_with fail
  rw [HMM.out]
  refine HS.out.mono ?_
  rintro e w1 ⟨v, rfl, B, cb, rfl, hr, hb⟩
  rw [HM.out, ← HMM.out] at hr ⊢
  have hnc : m ≤ cb := by
    rcases hr.2 with ⟨e, h0⟩ | ⟨g, cap, cur, e, hg, hh, hnc, _⟩
    · omega
    · injection e with _ _ e3; omega
  have qc : q ≤ cb := by omega
  have qci : (q : Int) ≤ cb := by omega
  have HR := Lib.hid (show w1.ownsRow w.heap.size 32 2 (.slice B q cb) q (flat (firstM k l)) by
    have h2 := row_cut hr (by rw [HM.out, ← HMM.out]) hqm
    have h3 : (sortM l).take q = firstM k l := by
      rw [HF.out, HQ.out, HMM.out]
      conv => lhs; rw [← HM.out]
      rw [← List.take_take, List.take_length]
    rw [h3] at h2
    exact h2)
  have HQL := Lib.hid (show (firstM k l).length = q by rw [HFL.out, HQ.out, HMM.out])
  have HB := Lib.hid hb
  clear hr hb
  go_wp2
  go_ret
  exact ⟨_, rfl, B, cb, (by rw [HQL.out]; rfl), (by rw [HQL.out]; exact HR.out), HB.out⟩

set_option maxHeartbeats 1000000 in
theorem rRight_any (k : Int) (A : Option Addr) (c : Nat) (l : List HitM) (w : World) (h : Hits w A c l) :
    Calls Try.prog 17 #[.agg #[.int .i64 k, .slice A l.length c]] w fun e w' => e = .returned (.bool (topB k l)) ∧ Below w.heap.size w w' := by
  obtain ⟨W, hW⟩ : ∃ W, W = w.alloc (.cells #[.int .i64 k, .slice A l.length c] 38) := ⟨_, rfl⟩
  have hb : Below w.heap.size w W := by rw [hW]; exact (Below.refl _ w).alloc (Nat.le_refl _) _
  have hg : W.heap[w.heap.size]? = some (.cells #[.int .i64 k, .slice A l.length c] 38 (0, 0)) := by rw [hW]; exact heap_alloc_new _ _
  have HT := Lib.hid (show topB k l = (isKM k && decide ((l.length : Int) ≤ k) && srtB l) from rfl)
  have HK := Lib.hid (show isKM k = (decide (1 ≤ k) && decide (k ≤ 16)) from rfl)
  have HI := Lib.hid (srtB_iff l)
  have HNO := Lib.hid (fun (i : Nat) (hi : i + 1 < l.length) (h : ahead (l.getD (i + 1) z2) (l.getD i z2) = true) => srtB_no hi h)
  have HH := Lib.hid h
  have hmx := h.most
  have hrm := h.room
  generalize topB k l = R at *
  generalize srtB l = s at *
  generalize isKM k = ik at *
  have s0 : W.cell? ⟨w.heap.size, 0, none⟩ = some (.int .i64 k) := (cell_of_row _ _ _ _ _ _ hg).trans rfl
  have s1 : W.cell? ⟨w.heap.size, 1, none⟩ = some (.slice A l.length c) := (cell_of_row _ _ _ _ _ _ hg).trans rfl
  have HW := Lib.hid hW
  have HB := Lib.hid hb
  have HG := Lib.hid hg
  obtain ⟨n, hn⟩ : ∃ n, n = l.length := ⟨_, rfl⟩
  have HN := Lib.hid hn
  rw [← hn] at hrm s1 HW HG ⊢
  clear h hb hg hW hn
  by_cases h1 : 1 ≤ k
  · by_cases h2 : k ≤ 16
    · by_cases h3 : (n : Int) ≤ k
      · have HRS := Lib.hid (show R = s by rw [HT.out, HK.out, ← HN.out]; simp [h1, h2, h3])
        have t1 : decide (k < 1) = false := by simp; omega
        have t2 : decide (16 < k) = false := by simp; omega
        have t3 : decide (k < (n : Int)) = false := by simp; omega
        have H0 := Lib.hid (show Below w.heap.size w W ∧ W.heap[w.heap.size]? = some (.cells #[.int .i64 k, .slice A n c] 38 (0, 0)) ∧ ∀ i : Nat, i + 1 < 1 → ahead (l.getD (i + 1) z2) (l.getD i z2) = false from ⟨HB.out, HG.out, fun i hi => by omega⟩)
        clear h3
        go_enter Try.func17, Try.ntmps17
        go_wp2_with fail
        rw [← HW.out]
        clear s0 s1
        obtain ⟨A0, hA0⟩ : ∃ A0, A0 = A := ⟨_, rfl⟩
        have HA0 := Lib.hid hA0
        rw [← hA0] at H0 ⊢
        clear hA0
        go_loopw [3] (fun i wr => ∃ J : Nat, 1 ≤ J ∧ (J ≤ n ∨ J = 1) ∧ i = .int .i64 J ∧ Hid (Below w.heap.size w wr ∧ wr.heap[w.heap.size]? = some (.cells #[.int .i64 k, .slice A0 n c] 38 (0, 0)) ∧ ∀ i : Nat, i + 1 < J → ahead (l.getD (i + 1) z2) (l.getD i z2) = false)) (fun i _ => n - (intOf i).toNat)
        case atStart => exact ⟨1, Nat.le_refl _, .inr rfl, rfl, H0⟩
        case round =>
          obtain ⟨J, hJ1, hJn, rfl, HKK⟩ := hrel
          have z1 : wr.cell? ⟨w.heap.size, 1, none⟩ = some (.slice A0 n c) := (cell_of_row _ _ _ _ _ _ HKK.out.2.1).trans rfl
          by_cases hlt : J < n
          · obtain ⟨j, hJ⟩ : ∃ j, J = j + 1 := ⟨J - 1, by omega⟩
            have hix : (J : Int) - 1 = (j : Int) := by omega
            obtain ⟨g1, o1, hA1, hgl, hc1, hc2⟩ := HH.out.at_ (j := J) (by rw [← HN.out]; exact hlt)
            obtain ⟨g2, o2, he, _, hc3, hc4⟩ := HH.out.at_ (j := j) (by rw [← HN.out]; omega)
            rw [hA1] at he
            injection he with he
            injection he with he1 he2
            subst he1
            subst he2
            have hA2 := HA0.out.trans hA1
            clear HA0 HH hA1 H0
            subst hA2
            have e1 := (HKK.out.1.cell (p := ⟨g1, o1 + J * 2, none⟩) hgl).trans hc1
            have e2 := (HKK.out.1.cell (p := ⟨g1, o1 + J * 2 + 1, none⟩) hgl).trans hc2
            have e3 := (HKK.out.1.cell (p := ⟨g1, o1 + j * 2, none⟩) hgl).trans hc3
            have e4 := (HKK.out.1.cell (p := ⟨g1, o1 + j * 2 + 1, none⟩) hgl).trans hc4
            have HC := Lib.hid (fun V => rAhead_any (l.getD J z2) (l.getD j z2) V)
            have HNX := Lib.hid (fun (hb : ahead (l.getD J z2) (l.getD j z2) = false) => show ∀ i : Nat, i + 1 < J + 1 → ahead (l.getD (i + 1) z2) (l.getD i z2) = false from fun i h2 => by
              by_cases e : i = j
              · subst e; rw [← hJ]; exact hb
              · exact HKK.out.2.2 i (by omega))
            have HNJ := Lib.hid (HNO.out j (by rw [← HN.out]; omega))
            rw [← hJ] at HNJ
            generalize (l.getD J z2) = x at *
            generalize (l.getD j z2) = y at *
            obtain ⟨x1, x2⟩ := x
            obtain ⟨y1, y2⟩ := y
            dsimp only at e1 e2 e3 e4 HC
            have hwj : IntKind.i64.wrap (j : Int) = j := i64_fit (by omega)
            have j0 : (0 : Int) ≤ j := by omega
            have jn : (j : Int) < n := by omega
            have j1 : (0 : Int) ≤ (J : Int) := by omega
            have jn1 : (J : Int) < n := by omega
            have t9 : decide ((J : Int) < (n : Int)) = true := by simp; omega
            clear hc1 hc2 hc3 hc4 hgl hJ
            obtain ⟨A0, hA0⟩ : ∃ A0, A0 = (some ⟨g1, o1, none⟩ : Option Addr) := ⟨_, rfl⟩
            rw [← hA0] at HKK
            cases hah : ahead (x1, x2) (y1, y2) with
            | true =>
              rw [hah] at HC
              have HF := Lib.hid (HNJ.out hah)
              clear hah
              have HA9 := Lib.hid hA0
              clear hA0
              go_wp2
              refine wp_region_still_tail 11 (by kernel_rfl) (by kernel_rfl) ?_
              simp only [List.take_succ_cons, List.take_zero, List.drop_succ_cons, List.drop_zero]
              change wpStill _ _ wr.drew _ _ _
              still_step
              still_step
              still_step
              still_step
              still_step
              still_step
              still_step
              still_step
              still_step
              still_step
              still_step
              refine wpStill_nil ?_
              go_wp2_with fail
              refine (HC.out _).mono ?_
              rintro e w1 ⟨rfl, hb1⟩
              have hbw := (below_drew (Below.refl wr.heap.size wr)).trans hb1
              have HX := Lib.hid (show Below w.heap.size w w1 ∧ w1.heap[w.heap.size]? = some (.cells #[.int .i64 k, .slice A0 n c] 38 (0, 0)) from ⟨HKK.out.1.trans (hbw.mono HKK.out.1.size), (hbw.block _ (lt_of_block HKK.out.2.1)).trans HKK.out.2.1⟩)
              clear hb1 hbw
              go_wp2
              go_ret
              rw [HRS.out, HF.out]
              exact ⟨rfl, HX.out.1⟩
            | false =>
              rw [hah] at HC
              have HF := Lib.hid (HNX.out hah)
              clear hah
              have HA9 := Lib.hid hA0
              clear hA0
              go_wp2
              refine wp_region_still_tail 11 (by kernel_rfl) (by kernel_rfl) ?_
              simp only [List.take_succ_cons, List.take_zero, List.drop_succ_cons, List.drop_zero]
              change wpStill _ _ wr.drew _ _ _
              still_step
              still_step
              still_step
              still_step
              still_step
              still_step
              still_step
              still_step
              still_step
              still_step
              still_step
              refine wpStill_nil ?_
              go_wp2_with fail
              refine (HC.out _).mono ?_
              rintro e w1 ⟨rfl, hb1⟩
              have hbw := (below_drew (Below.refl wr.heap.size wr)).trans hb1
              have HX := Lib.hid (show Below w.heap.size w w1 ∧ w1.heap[w.heap.size]? = some (.cells #[.int .i64 k, .slice A0 n c] 38 (0, 0)) from ⟨HKK.out.1.trans (hbw.mono HKK.out.1.size), (hbw.block _ (lt_of_block HKK.out.2.1)).trans HKK.out.2.1⟩)
              clear hb1 hbw
              go_wp2
              go_roundw
              case rel => exact ⟨J + 1, by omega, .inl (by omega), by go_num, Lib.hid ⟨HX.out.1, by rw [← HA9.out]; exact HX.out.2, HF.out⟩⟩
              case measure => simp [intOf]; omega
          · have HT9 := Lib.hid (show s = true from HI.out.2 fun i hi => HKK.out.2.2 i (by rw [← HN.out] at hi; omega))
            have t9 : decide ((J : Int) < (n : Int)) = false := by simp; omega
            go_wp2
            go_ret
            rw [HRS.out, HT9.out]
            exact ⟨rfl, HKK.out.1⟩
      · have HF := Lib.hid (show R = false by rw [HT.out, ← HN.out]; simp [h3])
        have HBX := Lib.hid (show Below w.heap.size w (w.alloc (.cells #[.int .i64 k, .slice A n c] 38)) from (Below.refl _ w).alloc (Nat.le_refl _) _)
        have t1 : decide (k < 1) = false := by simp; omega
        have t2 : decide (16 < k) = false := by simp; omega
        have t3 : decide (k < (n : Int)) = true := by simp; omega
        clear h3 s0 s1
        go_enter Try.func17, Try.ntmps17
        go_wp2_with fail
        go_ret
        rw [HF.out]
        exact ⟨rfl, HBX.out⟩
    · have HF := Lib.hid (show R = false by rw [HT.out, HK.out]; simp [h2])
      have HBX := Lib.hid (show Below w.heap.size w (w.alloc (.cells #[.int .i64 k, .slice A n c] 38)) from (Below.refl _ w).alloc (Nat.le_refl _) _)
      have t1 : decide (k < 1) = false := by simp; omega
      have t2 : decide (16 < k) = true := by simp; omega
      clear s0 s1
      go_enter Try.func17, Try.ntmps17
      go_wp2_with fail
      go_ret
      rw [HF.out]
      exact ⟨rfl, HBX.out⟩
  · have HF := Lib.hid (show R = false by rw [HT.out, HK.out]; simp [h1])
    have HBX := Lib.hid (show Below w.heap.size w (w.alloc (.cells #[.int .i64 k, .slice A n c] 38)) from (Below.refl _ w).alloc (Nat.le_refl _) _)
    have t1 : decide (k < 1) = true := by simp; omega
    clear s0 s1
    go_enter Try.func17, Try.ntmps17
    go_wp2_with fail
    go_ret
    rw [HF.out]
    exact ⟨rfl, HBX.out⟩

end Go.Proofs.Ythobkakmjgmpcaa
