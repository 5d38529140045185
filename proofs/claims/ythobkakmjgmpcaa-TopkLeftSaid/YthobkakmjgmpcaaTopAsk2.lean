/-
  Same, IsSortedFunc, Check, Last, tooMany.
-/
import Derived.Test.YthobkakmjgmpcaaTopAsk
namespace Go.Proofs.Ythobkakmjgmpcaa
open Go.RowKit Go.Shelf
set_option linter.unusedVariables false
set_option linter.unusedSimpArgs false
set_option maxRecDepth 100000

theorem i64_fit {n : Int} (h : -9223372036854775808 ≤ n ∧ n < 9223372036854775808) : IntKind.i64.wrap n = n := by
  rw [IntKind.wrap_i64]; omega

theorem same_any (A A' : Option Addr) (c c' : Nat) (a b : List HitM) (w : World) (ha : Hits w A c a) (hb : Hits w A' c' b) :
    Calls Try.prog 21 #[.slice A a.length c, .slice A' b.length c'] w fun e w' => e = .returned (.bool (decide (a = b))) ∧ Below w.heap.size w w' := by
  have HE := Lib.hid (equal_any A A' c c' a b w ha hb)
  generalize decide (a = b) = R at *
  generalize a.length = n at *
  generalize b.length = m at *
  clear ha hb
  go_enter Try.func21, Try.ntmps21
  go_wp2_with fail
  refine HE.out.mono ?_
  rintro e w1 ⟨rfl, hb1⟩
  have HB := Lib.hid hb1
  clear hb1
  go_wp2
  go_ret
  exact ⟨rfl, HB.out⟩

/-! ### in order -/
def srtB (l : List HitM) : Bool := (List.range (l.length - 1)).all fun i => !ahead (l.getD (i + 1) z2) (l.getD i z2)
theorem srtB_iff (l : List HitM) : srtB l = true ↔ ∀ i, i + 1 < l.length → ahead (l.getD (i + 1) z2) (l.getD i z2) = false := by
  unfold srtB
  simp only [List.all_eq_true, List.mem_range, Bool.not_eq_true']
  exact ⟨fun h i hi => h i (by omega), fun h i hi => h i (by omega)⟩
theorem srtB_no {l : List HitM} {i : Nat} (hi : i + 1 < l.length) (h : ahead (l.getD (i + 1) z2) (l.getD i z2) = true) : srtB l = false := by
  rw [Bool.eq_false_iff]
  intro e
  have := (srtB_iff l).1 e i hi
  rw [this] at h; cases h
theorem srt_get {l : List HitM} (h : Srt l) {i j : Nat} (hij : i < j) (hj : j < l.length) : ahead (l.getD j z2) (l.getD i z2) = false := by
  have e1 : l.getD j z2 = l[j] := by simp [List.getD, hj]
  have e2 : l.getD i z2 = l[i] := by simp [List.getD, show i < l.length by omega]
  rw [e1, e2]
  exact List.pairwise_iff_getElem.1 h i j (by omega) hj hij
theorem srtB_srt {l : List HitM} (h : Srt l) : srtB l = true := (srtB_iff l).2 fun i hi => srt_get h (Nat.lt_succ_self i) hi

set_option maxHeartbeats 1000000 in
theorem isSorted_any (A : Option Addr) (c : Nat) (l : List HitM) (w : World) (h : Hits w A c l) :
    Calls Try.prog 29 #[.slice A l.length c, .func (.func 23) #[] #[]] w fun e w' => e = .returned (.bool (srtB l)) ∧ Below w.heap.size w w' := by
  have HH := Lib.hid h
  have hmx := h.most
  have hrm := h.room
  have HI := Lib.hid (srtB_iff l)
  have HNO := Lib.hid (fun (i : Nat) (hi : i + 1 < l.length) (h : ahead (l.getD (i + 1) z2) (l.getD i z2) = true) => srtB_no hi h)
  generalize srtB l = R at *
  obtain ⟨n, hn⟩ : ∃ n, n = l.length := ⟨_, rfl⟩
  have HN := Lib.hid hn
  rw [← hn] at hrm ⊢
  have H0 := Lib.hid (show Below w.heap.size w w ∧ ∀ i, n - 1 < i + 1 → i + 1 < n → ahead (l.getD (i + 1) z2) (l.getD i z2) = false from ⟨Below.refl _ _, fun i h1 h2 => by omega⟩)
  clear h hn
  go_enter Try.func29, Try.ntmps29
  go_wp2
  go_loopw [5] (fun i wr => ∃ k : Int, -1 ≤ k ∧ k < n ∧ i = .int .i64 k ∧ Hid (Below w.heap.size w wr ∧ ∀ i : Nat, k < i + 1 → i + 1 < n → ahead (l.getD (i + 1) z2) (l.getD i z2) = false)) (fun i _ => (intOf i + 1).toNat)
  case atStart =>
    refine ⟨n - 1, by omega, by omega, by go_num, Lib.hid ⟨H0.out.1, fun i h1 h2 => by omega⟩⟩
  case round =>
    obtain ⟨k, hk, hkn, rfl, HK⟩ := hrel
    by_cases hk0 : 0 < k
    · obtain ⟨j, J, hJ, rfl⟩ : ∃ j J : Nat, J = j + 1 ∧ k = J := ⟨(k - 1).toNat, k.toNat, by omega, by omega⟩
      have hj : j + 1 < n := by omega
      have hix : (J : Int) - 1 = (j : Int) := by omega
      obtain ⟨g1, o1, rfl, hg, hc1, hc2⟩ := HH.out.at_ (j := j + 1) (by rw [← HN.out]; exact hj)
      obtain ⟨g2, o2, he, _, hc3, hc4⟩ := HH.out.at_ (j := j) (by rw [← HN.out]; omega)
      injection he with he
      injection he with he1 he2
      subst he1
      subst he2
      rw [← hJ] at hc1 hc2
      have e1 := (HK.out.1.cell (p := ⟨g1, o1 + J * 2, none⟩) hg).trans hc1
      have e2 := (HK.out.1.cell (p := ⟨g1, o1 + J * 2 + 1, none⟩) hg).trans hc2
      have e3 := (HK.out.1.cell (p := ⟨g1, o1 + j * 2, none⟩) hg).trans hc3
      have e4 := (HK.out.1.cell (p := ⟨g1, o1 + j * 2 + 1, none⟩) hg).trans hc4
      have HG := Lib.hid (compare_lt (l.getD J z2) (l.getD j z2))
      have HC := Lib.hid (fun V => compare_any (l.getD J z2).1 (l.getD J z2).2 (l.getD j z2).1 (l.getD j z2).2 V)
      have HNX := Lib.hid (fun (hb : ahead (l.getD J z2) (l.getD j z2) = false) => show ∀ i : Nat, (j : Int) < i + 1 → i + 1 < n → ahead (l.getD (i + 1) z2) (l.getD i z2) = false from fun i h1 h2 => by
        by_cases e : i = j
        · subst e; rw [← hJ]; exact hb
        · exact HK.out.2 i (by omega) h2)
      have HNJ := Lib.hid (HNO.out j (by rw [← HN.out]; exact hj))
      rw [← hJ] at HNJ
      generalize (l.getD J z2).1 = x1 at *
      generalize (l.getD J z2).2 = x2 at *
      generalize (l.getD j z2).1 = y1 at *
      generalize (l.getD j z2).2 = y2 at *
      generalize compareM x1 x2 y1 y2 = cm at *
      have hwj : IntKind.i64.wrap (j : Int) = j := i64_fit (by omega)
      have j0 : (0 : Int) ≤ j := by omega
      have jn : (j : Int) < n := by omega
      have j1 : (0 : Int) ≤ (J : Int) := by omega
      have jn1 : (J : Int) < n := by omega
      have HIX := Lib.hid hJ
      clear hc1 hc2 hc3 hc4 hg hJ
      cases hah : ahead (l.getD J z2) (l.getD j z2) with
      | true =>
        have HF := Lib.hid (HNJ.out hah)
        rw [hah] at HG
        have hlt : cm < 0 := by simpa using HG.out
        clear hah
        go_wp2
        refine wp_region_still_tail 10 (by kernel_rfl) (by kernel_rfl) ?_
        simp only [List.take_succ_cons, List.take_zero, List.drop_succ_cons, List.drop_zero]
        change wpStill _ _ wr.drew _ _ _
        still_step
        still_step
        still_step
        still_step
        still_step
        still_step
        still_step
        still_step
        still_step
        still_step
        refine wpStill_nil ?_
        go_wp2_with fail
        refine (HC.out _).mono ?_
        rintro e w1 ⟨rfl, hb1⟩
        have HB := Lib.hid (HK.out.1.trans ((below_drew (Below.refl _ wr)).trans (hb1.mono (Nat.le_refl _)) |>.mono HK.out.1.size))
        clear hb1
        go_wp2
        go_ret
        rw [HF.out]
        exact ⟨rfl, HB.out⟩
      | false =>
        have HF := Lib.hid (HNX.out hah)
        rw [hah] at HG
        have hlt : ¬ cm < 0 := by simpa using HG.out
        clear hah
        go_wp2
        refine wp_region_still_tail 10 (by kernel_rfl) (by kernel_rfl) ?_
        simp only [List.take_succ_cons, List.take_zero, List.drop_succ_cons, List.drop_zero]
        change wpStill _ _ wr.drew _ _ _
        still_step
        still_step
        still_step
        still_step
        still_step
        still_step
        still_step
        still_step
        still_step
        still_step
        refine wpStill_nil ?_
        go_wp2_with fail
        refine (HC.out _).mono ?_
        rintro e w1 ⟨rfl, hb1⟩
        have HB := Lib.hid (HK.out.1.trans ((below_drew (Below.refl _ wr)).trans (hb1.mono (Nat.le_refl _)) |>.mono HK.out.1.size))
        clear hb1
        go_wp2
        go_roundw
        case rel => exact ⟨j, by omega, by omega, by go_num, Lib.hid ⟨HB.out, HF.out⟩⟩
        case measure => simp [intOf]; omega
    · have HT := Lib.hid (show R = true from HI.out.2 fun i hi => HK.out.2 i (by omega) (by rw [HN.out]; exact hi))
      go_wp2
      go_ret
      rw [HT.out]
      exact ⟨rfl, HK.out.1⟩

end Go.Proofs.Ythobkakmjgmpcaa
