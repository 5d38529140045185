/-
  Check, Last, tooMany, Merge, First, Offer.
-/
import Derived.Test.YthobkakmjgmpcaaTopAsk2
namespace Go.Proofs.Ythobkakmjgmpcaa
open Go.RowKit Go.Shelf
set_option linter.unusedVariables false
set_option linter.unusedSimpArgs false
set_option maxRecDepth 100000

/-- A selection that may be. -/
def topB (k : Int) (l : List HitM) : Bool := isKM k && decide ((l.length : Int) ≤ k) && srtB l
def topE (k : Int) (l : List HitM) : Int := if topB k l = true then 0 else 160
theorem topE_yes {k : Int} {l : List HitM} (h : topB k l = true) : topE k l = 0 := by unfold topE; rw [if_pos h]
theorem topE_no {k : Int} {l : List HitM} (h : topB k l = false) : topE k l = 160 := by unfold topE; rw [if_neg (by rw [h]; simp)]
theorem set2 {w : World} {g : Nat} {a b : Value} {t : TypeId} (h : w.heap[g]? = some (.cells #[a, b] t (0, 0))) (x y : Value) : ((w.setCell ⟨g, 0, none⟩ x).setCell ⟨g, 1, none⟩ y).heap[g]? = some (.cells #[x, y] t (0, 0)) := by
  have h1 := heap_setCell_same w g 0 _ _ x h
  have h2 := heap_setCell_same _ g 1 _ _ y h1
  exact h2
theorem box2 (w : World) (a b : Value) (t : TypeId) : (w.alloc (.cells #[a, b] t)).cell? ⟨w.heap.size, 0, none⟩ = some a ∧ (w.alloc (.cells #[a, b] t)).cell? ⟨w.heap.size, 1, none⟩ = some b := ⟨cell_laid _ _ _ 0, cell_laid _ _ _ 1⟩

set_option maxHeartbeats 1000000 in
theorem check_any (k : Int) (A : Option Addr) (c : Nat) (l : List HitM) (w : World) (h : Hits w A c l) :
    Calls Try.prog 18 #[.agg #[.int .i64 k, .slice A l.length c]] w fun e w' => e = .returned (.int .i64 (topE k l)) ∧ Below w.heap.size w w' := by
  have hb : Below w.heap.size w (w.alloc (.cells #[.int .i64 k, .slice A l.length c] 38)) := (Below.refl _ w).alloc (Nat.le_refl _) _
  have HS := Lib.hid (isSorted_any A c l _ (h.below hb))
  have HI := Lib.hid (fun V => isK_any k V)
  have HB := Lib.hid hb
  have HT := Lib.hid (show topB k l = (isKM k && decide ((l.length : Int) ≤ k) && srtB l) from rfl)
  have HY := Lib.hid (fun e => topE_yes (k := k) (l := l) e)
  have HN := Lib.hid (fun e => topE_no (k := k) (l := l) e)
  generalize topE k l = E at *
  generalize topB k l = R at *
  generalize srtB l = s at *
  generalize hn : l.length = n at *
  clear h hb hn
  cases hk : isKM k with
  | false =>
    rw [hk] at HI HT
    have HF := Lib.hid (HN.out (show R = false by rw [HT.out]; rfl))
    clear hk
    go_enter Try.func18, Try.ntmps18
    go_wp2_with (go_at_call 25; refine (HI.out _).mono ?_; rintro e w' ⟨rfl, rfl⟩)
    go_ret
    rw [HF.out]
    exact ⟨rfl, HB.out⟩
  | true =>
    have hk2 := (isK_iff k).1 hk
    rw [hk] at HI HT
    by_cases hl : (n : Int) ≤ k
    · have t1 : decide (k < (n : Int)) = false := by simp; omega
      cases s with
      | false =>
        have HF := Lib.hid (HN.out (show R = false by rw [HT.out]; simp))
        clear hk hk2 hl
        go_enter Try.func18, Try.ntmps18
        go_wp2_with (go_at_call 25; refine (HI.out _).mono ?_; rintro e w' ⟨rfl, rfl⟩)
        refine HS.out.mono ?_
        rintro e w1 ⟨rfl, hb1⟩
        have HB1 := Lib.hid (HB.out.trans (hb1.mono HB.out.size))
        clear hb1
        go_wp2
        go_ret
        rw [HF.out]
        exact ⟨rfl, HB1.out⟩
      | true =>
        have HF := Lib.hid (HY.out (show R = true by rw [HT.out]; simp [hl]))
        clear hk hk2 hl
        go_enter Try.func18, Try.ntmps18
        go_wp2_with (go_at_call 25; refine (HI.out _).mono ?_; rintro e w' ⟨rfl, rfl⟩)
        refine HS.out.mono ?_
        rintro e w1 ⟨rfl, hb1⟩
        have HB1 := Lib.hid (HB.out.trans (hb1.mono HB.out.size))
        clear hb1
        go_wp2
        go_ret
        rw [HF.out]
        exact ⟨rfl, HB1.out⟩
    · have t1 : decide (k < (n : Int)) = true := by simp; omega
      have HF := Lib.hid (HN.out (show R = false by rw [HT.out]; simp [hl]))
      clear hk hk2 hl
      go_enter Try.func18, Try.ntmps18
      go_wp2_with (go_at_call 25; refine (HI.out _).mono ?_; rintro e w' ⟨rfl, rfl⟩)
      go_ret
      rw [HF.out]
      exact ⟨rfl, HB.out⟩

/-- What Last answers: the last hit of one that is full. -/
def fullB (k : Int) (l : List HitM) : Bool := topB k l && decide ((l.length : Int) = k)
def lastM (k : Int) (l : List HitM) : HitM := if fullB k l = true then l.getD (l.length - 1) z2 else z2
theorem topB_k {k : Int} {l : List HitM} (h : topB k l = true) : 1 ≤ k ∧ k ≤ 16 ∧ (l.length : Int) ≤ k ∧ srtB l = true := by
  unfold topB at h
  simp only [Bool.and_eq_true, decide_eq_true_eq] at h
  exact ⟨((isK_iff k).1 h.1.1).1, ((isK_iff k).1 h.1.1).2, h.1.2, h.2⟩

set_option maxHeartbeats 1000000 in
theorem last_any (k : Int) (A : Option Addr) (c : Nat) (l : List HitM) (w : World) (h : Hits w A c l) :
    Calls Try.prog 19 #[.agg #[.int .i64 k, .slice A l.length c]] w fun e w' => e = .returned (.tuple #[.agg #[.int .u64 (lastM k l).1, .int .u64 (lastM k l).2], .bool (fullB k l)]) ∧ Below w.heap.size w w' := by
  obtain ⟨W, hW⟩ : ∃ W, W = (w.alloc (.cells #[.int .i64 k, .slice A l.length c] 38)).alloc (.cells #[.int .u64 0, .int .u64 0] 32) := ⟨_, rfl⟩
  have hb : Below w.heap.size w W := by rw [hW]; exact ((Below.refl _ w).alloc (Nat.le_refl _) _).alloc (by simp) _
  have hz : W.heap.size = w.heap.size + 2 := by rw [hW]; simp
  have hh1 : W.heap[w.heap.size]? = some (.cells #[.int .i64 k, .slice A l.length c] 38 (0, 0)) := by rw [hW]; exact heap_alloc2_old _ _ _
  have hh2 : W.heap[w.heap.size + 1]? = some (.cells #[.int .u64 0, .int .u64 0] 32 (0, 0)) := by rw [hW]; exact heap_alloc2_new _ _ _
  have HC := Lib.hid (check_any k A c l W (h.below hb))
  have HY := Lib.hid (fun e => topE_yes (k := k) (l := l) e)
  have HN := Lib.hid (fun e => topE_no (k := k) (l := l) e)
  have HTF := Lib.hid (show fullB k l = (topB k l && decide ((l.length : Int) = k)) from rfl)
  have HLM := Lib.hid (show lastM k l = if fullB k l = true then l.getD (l.length - 1) z2 else z2 from rfl)
  have HTK := Lib.hid (fun (e : topB k l = true) => topB_k e)
  have HL := Lib.hid (fun (e : 0 < l.length) => h.at_ (j := l.length - 1) (by omega))
  generalize l.getD (l.length - 1) z2 = x at *
  generalize topE k l = E at *
  generalize lastM k l = M at *
  generalize fullB k l = F at *
  generalize topB k l = T at *
  generalize hn : l.length = n at *
  have s1 : W.cell? ⟨w.heap.size, 0, none⟩ = some (.int .i64 k) := (cell_of_row _ _ _ _ _ _ hh1).trans rfl
  have s2 : W.cell? ⟨w.heap.size, 1, none⟩ = some (.slice A n c) := (cell_of_row _ _ _ _ _ _ hh1).trans rfl
  have H1 := Lib.hid hh1
  have H2 := Lib.hid hh2
  have HB := Lib.hid hb
  have HW := Lib.hid hW
  have HZ := Lib.hid hz
  have KE := Lib.hid (fun (w1 : World) (hb1 : Below W.heap.size W w1) => show w1.cell? ⟨w.heap.size, 0, none⟩ = some (.int .i64 k) ∧ w1.cell? ⟨w.heap.size, 1, none⟩ = some (.slice A n c) ∧ w1.heap[w.heap.size + 1]? = some (.cells #[.int .u64 0, .int .u64 0] 32 (0, 0)) from
    ⟨(hb1.cell (p := ⟨w.heap.size, 0, none⟩) (show w.heap.size < W.heap.size by omega)).trans s1, (hb1.cell (p := ⟨w.heap.size, 1, none⟩) (show w.heap.size < W.heap.size by omega)).trans s2, (hb1.block _ (by omega)).trans hh2⟩)
  have HAT := Lib.hid (fun (w1 : World) (hb1 : Below W.heap.size W w1) (b : Nat) (i : Nat) (v : Value) (hlt : b < w.heap.size) (hv : w.cell? ⟨b, i, none⟩ = some v) => show w1.cell? ⟨b, i, none⟩ = some v from
    (hb1.cell (p := ⟨b, i, none⟩) (show b < W.heap.size by omega)).trans ((hb.cell (p := ⟨b, i, none⟩) hlt).trans hv))
  clear h hb hh1 hh2 hW hn hz s1 s2
  cases T with
  | false =>
    have hF : F = false := by rw [HTF.out]; rfl
    subst hF
    have hE := HN.out rfl
    have hM : M = z2 := by rw [HLM.out]; rfl
    subst hE hM
    go_enter Try.func19, Try.ntmps19
    go_wp2_with fail
    rw [← HW.out]
    refine HC.out.mono ?_
    rintro e w1 ⟨rfl, hb1⟩
    obtain ⟨k0, k1, k2⟩ := KE.out w1 hb1
    have HB1 := Lib.hid (HB.out.trans (hb1.mono HB.out.size))
    have q0 : w1.cell? ⟨w.heap.size + 1, 0, none⟩ = some (.int .u64 0) := (cell_of_row _ _ _ _ _ _ k2).trans rfl
    have q1 : w1.cell? ⟨w.heap.size + 1, 1, none⟩ = some (.int .u64 0) := (cell_of_row _ _ _ _ _ _ k2).trans rfl
    have f0 : w1.frozen? ⟨w.heap.size + 1, 0, none⟩ = false := frozen_of_row _ _ _ _ _ k2
    have f1 : w1.frozen? ⟨w.heap.size + 1, 1, none⟩ = false := frozen_of_row _ _ _ _ _ k2
    have HX := Lib.hid (set2 k2 (.int .u64 0) (.int .u64 0))
    clear hb1 k2
    go_wp2
    have r0 := (cell_of_row _ _ 0 _ _ _ HX.out).trans rfl
    have r1 := (cell_of_row _ _ 1 _ _ _ HX.out).trans rfl
    exact bodyPost_ret (v := .tuple #[.agg #[.int .u64 0, .int .u64 0], .bool false]) (by simp [results, Try.results19, go_sem, r0, r1]) rfl ⟨rfl, (HB1.out.setCell (by simp) _).setCell (by simp) _⟩
  | true =>
    have hE := HY.out rfl
    subst hE
    obtain ⟨k1, k16, hlk, _⟩ := HTK.out rfl
    by_cases hnk : (n : Int) = k
    · subst hnk
      have hF : F = true := by rw [HTF.out]; simp
      subst hF
      have hM : M = x := by rw [HLM.out]; rfl
      subst hM
      obtain ⟨b, o, rfl, hlt, hc1, hc2⟩ := HL.out (by omega)
      obtain ⟨r, hr⟩ : ∃ r, r = n - 1 := ⟨n - 1, rfl⟩
      rw [← hr] at hc1 hc2
      have hix : (n : Int) - 1 = (r : Int) := by omega
      obtain ⟨x1, x2⟩ := M
      dsimp only at *
      have r0 : (0 : Int) ≤ r := by omega
      have rn : (r : Int) < (n : Int) := by omega
      have hw : IntKind.i64.wrap (r : Int) = r := i64_fit (by omega)
      clear hr
      go_enter Try.func19, Try.ntmps19
      go_wp2_with fail
      rw [← HW.out]
      refine HC.out.mono ?_
      rintro e w1 ⟨rfl, hb1⟩
      obtain ⟨k0, kk1, k2⟩ := KE.out w1 hb1
      have HB1 := Lib.hid (HB.out.trans (hb1.mono HB.out.size))
      have d1 := HAT.out w1 hb1 _ _ _ hlt hc1
      have d2 := HAT.out w1 hb1 _ _ _ hlt hc2
      have q0 : w1.cell? ⟨w.heap.size + 1, 0, none⟩ = some (.int .u64 0) := (cell_of_row _ _ _ _ _ _ k2).trans rfl
      have q1 : w1.cell? ⟨w.heap.size + 1, 1, none⟩ = some (.int .u64 0) := (cell_of_row _ _ _ _ _ _ k2).trans rfl
      have f0 : w1.frozen? ⟨w.heap.size + 1, 0, none⟩ = false := frozen_of_row _ _ _ _ _ k2
      have f1 : w1.frozen? ⟨w.heap.size + 1, 1, none⟩ = false := frozen_of_row _ _ _ _ _ k2
      have HX := Lib.hid (set2 k2 (.int .u64 x1) (.int .u64 x2))
      clear hb1 k2 hc1 hc2
      go_wp2
      have r0 := (cell_of_row _ _ 0 _ _ _ HX.out).trans rfl
      have r1 := (cell_of_row _ _ 1 _ _ _ HX.out).trans rfl
      exact bodyPost_ret (v := .tuple #[.agg #[.int .u64 x1, .int .u64 x2], .bool true]) (by simp [results, Try.results19, go_sem, r0, r1]) rfl ⟨rfl, (HB1.out.setCell (by simp) _).setCell (by simp) _⟩
    · have hF : F = false := by rw [HTF.out]; simp [hnk]
      subst hF
      have hM : M = z2 := by rw [HLM.out]; rfl
      subst hM
      have t1 : decide ((n : Int) < k) = true := by simp; omega
      clear hnk hlk
      go_enter Try.func19, Try.ntmps19
      go_wp2_with fail
      rw [← HW.out]
      refine HC.out.mono ?_
      rintro e w1 ⟨rfl, hb1⟩
      obtain ⟨k0, kk1, k2⟩ := KE.out w1 hb1
      have HB1 := Lib.hid (HB.out.trans (hb1.mono HB.out.size))
      have q0 : w1.cell? ⟨w.heap.size + 1, 0, none⟩ = some (.int .u64 0) := (cell_of_row _ _ _ _ _ _ k2).trans rfl
      have q1 : w1.cell? ⟨w.heap.size + 1, 1, none⟩ = some (.int .u64 0) := (cell_of_row _ _ _ _ _ _ k2).trans rfl
      have f0 : w1.frozen? ⟨w.heap.size + 1, 0, none⟩ = false := frozen_of_row _ _ _ _ _ k2
      have f1 : w1.frozen? ⟨w.heap.size + 1, 1, none⟩ = false := frozen_of_row _ _ _ _ _ k2
      have HX := Lib.hid (set2 k2 (.int .u64 0) (.int .u64 0))
      clear hb1 k2
      go_wp2
      have r0 := (cell_of_row _ _ 0 _ _ _ HX.out).trans rfl
      have r1 := (cell_of_row _ _ 1 _ _ _ HX.out).trans rfl
      exact bodyPost_ret (v := .tuple #[.agg #[.int .u64 0, .int .u64 0], .bool false]) (by simp [results, Try.results19, go_sem, r0, r1]) rfl ⟨rfl, (HB1.out.setCell (by simp) _).setCell (by simp) _⟩

/-! ### how many -/
def sumL (ls : List (List HitM)) : Nat := ls.flatten.length
theorem sumL_snoc {ls : List (List HitM)} {k : Nat} {x : List HitM} (h : ls[k]? = some x) : sumL (ls.take (k + 1)) = sumL (ls.take k) + x.length := by
  unfold sumL; rw [flatten_take h, List.length_append]
theorem sumL_le (ls : List (List HitM)) (k : Nat) : sumL (ls.take k) ≤ sumL ls := by
  have h : ls.flatten = (ls.take k).flatten ++ (ls.drop k).flatten := by rw [← List.flatten_append, List.take_append_drop]
  unfold sumL
  rw [h, List.length_append]
  omega

set_option maxHeartbeats 1000000 in
theorem tooMany_any (A : Option Addr) (c : Nat) (ls : List (List HitM)) (w : World) (h : Rows w A c ls) (hb : sumL ls ≤ 1000000000) :
    Calls Try.prog 26 #[.slice A ls.length c] w fun e w' => e = .returned (.bool (decide (2000 < sumL ls))) ∧ w = w' := by
  obtain ⟨n, hn⟩ : ∃ n, n = ls.length := ⟨_, rfl⟩
  have hmost := h.most
  have hroom := h.room
  have HV := Lib.hid h
  have HN := Lib.hid hn
  have HS := Lib.hid (sumL_le ls)
  have HSS := Lib.hid (fun (k : Nat) (x : List HitM) (hx : ls[k]? = some x) => sumL_snoc hx)
  have HF := Lib.hid (show sumL (ls.take n) = sumL ls by rw [hn, List.take_length])
  have H0 := Lib.hid (show sumL (ls.take 0) = 0 from rfl)
  rw [← hn] at hroom ⊢
  clear h hn
  obtain ⟨R, hR⟩ : ∃ R, R = decide (2000 < sumL ls) := ⟨_, rfl⟩
  rw [← hR]
  have HR := Lib.hid hR
  clear hR
  go_enter Try.func26, Try.ntmps26
  go_wp2
  go_loop [3, 5, 8] (fun s _ i => ∃ k : Nat, k ≤ n ∧ i = .int .i64 k ∧ s = .int .i64 (sumL (ls.take k))) (fun _ _ i => n - (intOf i).toNat)
  case atStart => exact ⟨0, Nat.zero_le _, rfl, rfl⟩
  case round =>
    obtain ⟨k, hk, rfl, rfl⟩ := hrel
    by_cases hkn : k < n
    · obtain ⟨b, o, x, B, cb, rfl, hx, hb2, hcell, hrow⟩ := HV.out.at_ (i := k) (by rw [← HN.out]; exact hkn)
      have HX := Lib.hid (HSS.out k x hx)
      have h1 := HS.out (k + 1)
      rw [HX.out] at h1
      generalize sumL (ls.take k) = s at *
      generalize x.length = xl at *
      have s0 : (s : Int) + (xl : Int) ≤ 1000000000 := by omega
      clear hx hrow
      go_wp2
      go_round
      case rel => exact ⟨k + 1, by omega, by go_num, by rw [HX.out]; go_num⟩
      case measure => simp [intOf]; omega
    · obtain rfl : k = n := by omega
      have e : R = decide ((2000 : Int) < (sumL (ls.take k) : Int)) := by rw [HR.out, ← HF.out, Bool.eq_iff_iff]; simp; omega
      have HE := Lib.hid e
      clear e
      go_wp2
      go_ret
      rw [HE.out]
      exact ⟨rfl, rfl⟩

end Go.Proofs.Ythobkakmjgmpcaa
