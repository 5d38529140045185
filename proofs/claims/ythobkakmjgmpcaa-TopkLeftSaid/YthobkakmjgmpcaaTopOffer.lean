/-
  Offer.
-/
import Derived.Test.YthobkakmjgmpcaaTopDoes
namespace Go.Proofs.Ythobkakmjgmpcaa
open Go.RowKit Go.Shelf
set_option linter.unusedVariables false
set_option linter.unusedSimpArgs false
set_option maxRecDepth 100000

def offE (k : Int) (t l : List HitM) : Int := if topB k t = true then (if 2000 < l.length then 3 else 0) else 160
def offL (k : Int) (t l : List HitM) : List HitM := if offE k t l = 0 then firstM k.toNat (t ++ l) else []
def offK (k : Int) (t l : List HitM) : Int := if offE k t l = 0 then k else 0
theorem off_bad {k : Int} {t l : List HitM} (h : topB k t = false) : offE k t l = 160 ∧ offL k t l = [] ∧ offK k t l = 0 := by
  have e : offE k t l = 160 := by unfold offE; rw [if_neg (by rw [h]; simp)]
  exact ⟨e, by unfold offL; rw [e]; rfl, by unfold offK; rw [e]; rfl⟩
theorem off_long {k : Int} {t l : List HitM} (h : topB k t = true) (h2 : 2000 < l.length) : offE k t l = 3 ∧ offL k t l = [] ∧ offK k t l = 0 := by
  have e : offE k t l = 3 := by unfold offE; rw [if_pos h, if_pos h2]
  exact ⟨e, by unfold offL; rw [e]; rfl, by unfold offK; rw [e]; rfl⟩
theorem off_ok {k : Int} {t l : List HitM} (h : topB k t = true) (h2 : ¬ 2000 < l.length) : offE k t l = 0 ∧ offL k t l = firstM k.toNat (t ++ l) ∧ offK k t l = k := by
  have e : offE k t l = 0 := by unfold offE; rw [if_pos h, if_neg h2]
  exact ⟨e, by unfold offL; rw [e]; rfl, by unfold offK; rw [e]; rfl⟩
def AnsT (w : World) (e : Ending) (w' : World) (K : Int) (L : List HitM) (E : Int) : Prop :=
  ∃ B cb, e = .returned (.tuple #[.agg #[.int .i64 K, .slice B L.length cb], .int .i64 E]) ∧ w'.ownsRow w.heap.size 32 2 (.slice B L.length cb) L.length (flat L) ∧ Below w.heap.size w w'

/-- The box of the selection and that of the answer. -/
def OffS (w W : World) (k : Int) (A : Option Addr) (n c : Nat) : Prop :=
  W.heap[w.heap.size]? = some (.cells #[.int .i64 k, .slice A n c] 38 (0, 0)) ∧ W.heap[w.heap.size + 1]? = some (.cells #[.int .i64 0, .slice none 0 0] 38 (0, 0)) ∧ Below w.heap.size w W ∧ w.heap.size + 2 ≤ W.heap.size
theorem OffS.next {w W W' : World} {k : Int} {A : Option Addr} {n c : Nat} (h : OffS w W k A n c) (hb : Below W.heap.size W W') : OffS w W' k A n c :=
  ⟨(hb.block _ (lt_of_block h.1)).trans h.1, (hb.block _ (lt_of_block h.2.1)).trans h.2.1, h.2.2.1.trans (hb.mono h.2.2.1.size), Nat.le_trans h.2.2.2 hb.size⟩

set_option maxHeartbeats 1000000 in
theorem offer_any (k : Int) (A A' : Option Addr) (c c' : Nat) (t l : List HitM) (w : World) (h : Hits w A c t) (hl : Hits w A' c' l) (hb : l.length ≤ 1000000000) :
    Calls Try.prog 20 #[.agg #[.int .i64 k, .slice A t.length c], .slice A' l.length c'] w fun e w' => AnsT w e w' (offK k t l) (offL k t l) (offE k t l) := by
  obtain ⟨W, hW⟩ : ∃ W, W = (w.alloc (.cells #[.int .i64 k, .slice A t.length c] 38)).alloc (.cells #[.int .i64 0, .slice none 0 0] 38) := ⟨_, rfl⟩
  have hS : OffS w W k A t.length c := ⟨by rw [hW]; exact heap_alloc2_old _ _ _, by rw [hW]; exact heap_alloc2_new _ _ _, by rw [hW]; exact ((Below.refl _ w).alloc (Nat.le_refl _) _).alloc (by simp) _, by rw [hW]; simp⟩
  have HC := Lib.hid (check_any k A c t W (h.below hS.2.2.1))
  have HS := Lib.hid hS
  have HW := Lib.hid hW
  have s1 : W.cell? ⟨w.heap.size, 0, none⟩ = some (.int .i64 k) := (cell_of_row _ _ _ _ _ _ hS.1).trans rfl
  have s2 : W.cell? ⟨w.heap.size, 1, none⟩ = some (.slice A t.length c) := (cell_of_row _ _ _ _ _ _ hS.1).trans rfl
  have HH := Lib.hid h
  have HL := Lib.hid hl
  cases hk : topB k t with
  | false =>
    obtain ⟨h1, h2, h3⟩ := off_bad (l := l) hk
    rw [h1, h2, h3]
    rw [topE_no hk] at HC
    generalize t.length = n at *
    generalize l.length = m at *
    clear h hl hb hk h1 h2 h3 hW hS
    go_enter Try.func20, Try.ntmps20
    go_wp2_with fail
    rw [← HW.out]
    refine HC.out.mono ?_
    rintro e w1 ⟨rfl, hb1⟩
    have hS1 := HS.out.next hb1
    have HB1 := Lib.hid hS1.2.2.1
    have q0 : w1.cell? ⟨w.heap.size + 1, 0, none⟩ = some (.int .i64 0) := (cell_of_row _ _ _ _ _ _ hS1.2.1).trans rfl
    have q1 : w1.cell? ⟨w.heap.size + 1, 1, none⟩ = some (.slice none 0 0) := (cell_of_row _ _ _ _ _ _ hS1.2.1).trans rfl
    have f0 : w1.frozen? ⟨w.heap.size + 1, 0, none⟩ = false := frozen_of_row _ _ _ _ _ hS1.2.1
    have f1 : w1.frozen? ⟨w.heap.size + 1, 1, none⟩ = false := frozen_of_row _ _ _ _ _ hS1.2.1
    have HX := Lib.hid (set2 hS1.2.1 (.int .i64 0) (.slice none 0 0))
    clear hb1 hS1
    go_wp2
    have r0 := (cell_of_row _ _ 0 _ _ _ HX.out).trans rfl
    have r1 := (cell_of_row _ _ 1 _ _ _ HX.out).trans rfl
    exact bodyPost_ret (v := .tuple #[.agg #[.int .i64 0, .slice none 0 0], .int .i64 160]) (by simp [results, Try.results20, go_sem, r0, r1]) rfl ⟨none, 0, rfl, World.ownsRow_nil _ _ _ _, (HB1.out.setCell (by simp) _).setCell (by simp) _⟩
  | true =>
    rw [topE_yes hk] at HC
    have HT := Lib.hid (fun (V : World) (hV : Below w.heap.size w V) => tooMany_any (some ⟨V.heap.size, 0, none⟩) 1 [l] (V.alloc (.cells #[.slice A' l.length c'] 22)) (rows_one (w := w) (cell_laid _ _ _ 0) ((hl.below hV).below ((Below.refl _ V).alloc (Nat.le_refl _) _))) (by rw [sumL_one]; exact hb))
    by_cases hm : 2000 < l.length
    · obtain ⟨h1, h2, h3⟩ := off_long hk hm
      rw [h1, h2, h3]
      rw [sumL_one, decide_eq_true hm] at HT
      generalize t.length = n at *
      generalize l.length = m at *
      clear h hl hb hk h1 h2 h3 hW hS hm
      go_enter Try.func20, Try.ntmps20
      go_wp2_with fail
      rw [← HW.out]
      refine HC.out.mono ?_
      rintro e w1 ⟨rfl, hb1⟩
      have hS1 := HS.out.next hb1
      have HS1 := Lib.hid hS1
      have HB1 := Lib.hid (hS1.2.2.1.alloc hS1.2.2.1.size (.cells #[.slice A' m c'] 22))
      have HT1 := Lib.hid (HT.out w1 hS1.2.2.1)
      have hS2 := hS1.next ((Below.refl _ w1).alloc (Nat.le_refl _) (.cells #[.slice A' m c'] 22))
      have q0 := (cell_of_row _ _ 0 _ _ _ hS2.2.1).trans rfl
      have q1 := (cell_of_row _ _ 1 _ _ _ hS2.2.1).trans rfl
      have f0 : World.frozen? _ ⟨w.heap.size + 1, 0, none⟩ = false := frozen_of_row _ _ _ _ _ hS2.2.1
      have f1 : World.frozen? _ ⟨w.heap.size + 1, 1, none⟩ = false := frozen_of_row _ _ _ _ _ hS2.2.1
      have HX := Lib.hid (set2 hS2.2.1 (.int .i64 0) (.slice none 0 0))
      clear hb1 hS1 hS2
      go_wp2_with (go_at_call 26; refine HT1.out.mono ?_; rintro e w' ⟨rfl, rfl⟩)
      have r0 := (cell_of_row _ _ 0 _ _ _ HX.out).trans rfl
      have r1 := (cell_of_row _ _ 1 _ _ _ HX.out).trans rfl
      exact bodyPost_ret (v := .tuple #[.agg #[.int .i64 0, .slice none 0 0], .int .i64 3]) (by simp [results, Try.results20, go_sem, r0, r1]) rfl ⟨none, 0, rfl, World.ownsRow_nil _ _ _ _, (HB1.out.setCell (by simp) _).setCell (by simp) _⟩
    · obtain ⟨h1, h2, h3⟩ := off_ok hk hm
      obtain ⟨k1, k16, _, _⟩ := topB_k hk
      obtain ⟨kk, rfl⟩ : ∃ kk : Nat, k = kk := ⟨k.toNat, by omega⟩
      rw [Int.toNat_natCast] at h2
      rw [h1, h2, h3]
      rw [sumL_one, decide_eq_false hm] at HT
      have HF := Lib.hid (fun (V : World) (hV : Below w.heap.size w V) => firstOf_any (some ⟨V.heap.size, 0, none⟩) 2 kk [t, l] (V.alloc (.cells #[.slice A t.length c, .slice A' l.length c'] 22)) (rows_two (cell_laid _ _ _ 0) (cell_laid _ _ _ 1) ((h.below hV).below ((Below.refl _ V).alloc (Nat.le_refl _) _)) ((hl.below hV).below ((Below.refl _ V).alloc (Nat.le_refl _) _))) (by omega) (by omega))
      have hfl : [t, l].flatten = t ++ l := by simp
      rw [hfl] at HF
      generalize firstM kk (t ++ l) = R at *
      generalize t.length = n at *
      generalize l.length = m at *
      clear h hl hb hk h1 h2 h3 hW hS hm hfl
      go_enter Try.func20, Try.ntmps20
      go_wp2_with fail
      rw [← HW.out]
      refine HC.out.mono ?_
      rintro e w1 ⟨rfl, hb1⟩
      have hS1 := HS.out.next hb1
      have HT1 := Lib.hid (HT.out w1 hS1.2.2.1)
      have hS2 := hS1.next ((Below.refl _ w1).alloc (Nat.le_refl _) (.cells #[.slice A' m c'] 22))
      obtain ⟨W2, hW2⟩ : ∃ W2, W2 = w1.alloc (.cells #[.slice A' m c'] 22) := ⟨_, rfl⟩
      have HW2 := Lib.hid hW2
      rw [← hW2] at hS2 HT1
      have HS2 := Lib.hid hS2
      have g0 : W2.cell? ⟨w.heap.size, 0, none⟩ = some (.int .i64 kk) := (cell_of_row _ _ _ _ _ _ hS2.1).trans rfl
      have g1 : W2.cell? ⟨w.heap.size, 1, none⟩ = some (.slice A n c) := (cell_of_row _ _ _ _ _ _ hS2.1).trans rfl
      clear hb1 hS1 hS2 hW2 s1 s2
      go_wp2_with (go_at_call 26; rw [← HW2.out]; refine HT1.out.mono ?_; rintro e w' ⟨rfl, rfl⟩)
      have hS2 := HS2.out
      have h20 : OffS w W2.drew kk A n c := ⟨hS2.1, hS2.2.1, below_drew hS2.2.2.1, hS2.2.2.2⟩
      have h2A := h20.next ((Below.refl _ W2.drew).alloc (Nat.le_refl _) (.cells #[.slice A n c, .slice A' m c'] 22))
      have S0 := Lib.hid (show W2.drew.cell? ⟨w.heap.size, 0, none⟩ = some (.int .i64 kk) ∧ W2.drew.cell? ⟨w.heap.size, 1, none⟩ = some (.slice A n c) from ⟨g0, g1⟩)
      have SA := Lib.hid (show (W2.drew.alloc (.cells #[.slice A n c, .slice A' m c'] 22)).cell? ⟨w.heap.size, 0, none⟩ = some (.int .i64 kk) ∧ (W2.drew.alloc (.cells #[.slice A n c, .slice A' m c'] 22)).cell? ⟨w.heap.size, 1, none⟩ = some (.slice A n c) from ⟨(cell_of_row _ _ _ _ _ _ h2A.1).trans rfl, (cell_of_row _ _ _ _ _ _ h2A.1).trans rfl⟩)
      have HF1 := Lib.hid (HF.out W2.drew h20.2.2.1)
      have H2A := Lib.hid h2A
      clear hS2 h20 h2A HF HT HT1
      go_region_held3 (fun W => W.cell? ⟨w.heap.size, 0, none⟩ = some (.int .i64 kk) ∧ W.cell? ⟨w.heap.size, 1, none⟩ = some (.slice A n c)) (first | exact S0.out | exact SA.out | exact S3.out | exact S4.out) (first
        | (go_at_call 27; refine HF1.out.mono ?_; rintro e w3 ⟨B, cb, rfl, hr, hb3⟩; have h3 := H2A.out.next hb3; have S3 := Lib.hid (show w3.cell? ⟨w.heap.size, 0, none⟩ = some (.int .i64 kk) ∧ w3.cell? ⟨w.heap.size, 1, none⟩ = some (.slice A n c) from ⟨(cell_of_row _ _ _ _ _ _ h3.1).trans rfl, (cell_of_row _ _ _ _ _ _ h3.1).trans rfl⟩); have q0 : w3.cell? ⟨w.heap.size + 1, 0, none⟩ = some (.int .i64 0) := (cell_of_row _ _ _ _ _ _ h3.2.1).trans rfl; have q1 : w3.cell? ⟨w.heap.size + 1, 1, none⟩ = some (.slice none 0 0) := (cell_of_row _ _ _ _ _ _ h3.2.1).trans rfl; have f0 : w3.frozen? ⟨w.heap.size + 1, 0, none⟩ = false := frozen_of_row _ _ _ _ _ h3.2.1; have f1 : w3.frozen? ⟨w.heap.size + 1, 1, none⟩ = false := frozen_of_row _ _ _ _ _ h3.2.1; have h1' := (Below.heap_setCell (w3.setCell ⟨w.heap.size + 1, 0, none⟩ (.int .i64 kk)) ⟨w.heap.size + 1, 1, none⟩ (.slice B R.length cb) w.heap.size (by simp)).trans ((Below.heap_setCell w3 ⟨w.heap.size + 1, 0, none⟩ (.int .i64 kk) w.heap.size (by simp)).trans h3.1); have S4 := Lib.hid (show ((w3.setCell ⟨w.heap.size + 1, 0, none⟩ (.int .i64 kk)).setCell ⟨w.heap.size + 1, 1, none⟩ (.slice B R.length cb)).cell? ⟨w.heap.size, 0, none⟩ = some (.int .i64 kk) ∧ ((w3.setCell ⟨w.heap.size + 1, 0, none⟩ (.int .i64 kk)).setCell ⟨w.heap.size + 1, 1, none⟩ (.slice B R.length cb)).cell? ⟨w.heap.size, 1, none⟩ = some (.slice A n c) from ⟨(cell_of_row _ _ _ _ _ _ h1').trans rfl, (cell_of_row _ _ _ _ _ _ h1').trans rfl⟩); have HR3 := Lib.hid hr; have H3 := Lib.hid h3; have HX := Lib.hid (set2 h3.2.1 (.int .i64 kk) (.slice B R.length cb)); clear hr hb3 h3 h1'))
      all_goals (
        go_wp2
        have r0 := (cell_of_row _ _ 0 _ _ _ HX.out).trans rfl
        have r1 := (cell_of_row _ _ 1 _ _ _ HX.out).trans rfl
        have hlo : w.heap.size + 1 < (W2.drew.alloc (.cells #[.slice A n c, .slice A' m c'] 22)).heap.size := by have := H2A.out.2.2.2; omega
        exact bodyPost_ret (v := .tuple #[.agg #[.int .i64 kk, .slice B R.length cb], .int .i64 0]) (by simp [results, Try.results20, go_sem, r0, r1]) rfl ⟨B, cb, rfl, (ownsRow_setCell_below (ownsRow_setCell_below HR3.out (a := ⟨w.heap.size + 1, 0, none⟩) hlo _) (a := ⟨w.heap.size + 1, 1, none⟩) hlo _).mono (by omega), (H3.out.2.2.1.setCell (by simp) _).setCell (by simp) _⟩)

end Go.Proofs.Ythobkakmjgmpcaa
