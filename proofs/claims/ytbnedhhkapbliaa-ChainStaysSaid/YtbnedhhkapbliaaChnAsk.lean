/-
  Versions asked: isOpen, lasts, follows, Visible, the closures of At and Prune; where, slices.All; dimension, lastTrace.
-/
import Derived.Test.YtbnedhhkapbliaaChnBase
import Derived.Deep.RegionHeld3
namespace Go.Proofs.Ytbnedhhkapbliaa
open Go.RowKit Go.Shelf
set_option linter.unusedVariables false
set_option linter.unusedSimpArgs false
set_option maxRecDepth 100000

def verA (b f : Int) (B : Option Addr) (n c : Nat) : Value := .agg #[.int .u64 b, .int .u64 f, .slice B n c]
theorem ver_alloc (w : World) (b f : Int) (B : Option Addr) (n c : Nat) : Below w.heap.size w (w.alloc (.cells #[.int .u64 b, .int .u64 f, .slice B n c] 35)) := (Below.refl _ w).alloc (Nat.le_refl _) _

theorem isOpen_any (b f : Int) (B : Option Addr) (n c : Nat) (w : World) : Calls Try.prog 56 #[.agg #[.int .u64 b, .int .u64 f, .slice B n c]] w fun e w' => e = .returned (.bool (decide (f = 0))) ∧ Below w.heap.size w w' := by
  have HB := Lib.hid (ver_alloc w b f B n c)
  by_cases h0 : f = 0
  · subst h0
    go_enter Try.func56, Try.ntmps56
    go_wp2
    go_ret
    exact ⟨rfl, HB.out⟩
  · have t1 : (f == 0) = false := by simpa using h0
    have HF := Lib.hid (show decide (f = 0) = false by simpa using h0)
    go_enter Try.func56, Try.ntmps56
    go_wp2
    go_ret
    rw [HF.out]
    exact ⟨rfl, HB.out⟩

def lastsF (f t : Int) : Bool := decide (f = 0) || decide (t < f)
theorem lasts_any (b f : Int) (B : Option Addr) (n c : Nat) (t : Int) (w : World) : Calls Try.prog 41 #[.agg #[.int .u64 b, .int .u64 f, .slice B n c], .int .u64 t] w fun e w' => e = .returned (.bool (lastsF f t)) ∧ Below w.heap.size w w' := by
  have HB := Lib.hid (ver_alloc w b f B n c)
  have HC := Lib.hid (isOpen_any b f B n c (w.alloc (.cells #[.int .u64 b, .int .u64 f, .slice B n c] 35)))
  have HW := Lib.hid (fun i => cell_laid w #[.int .u64 b, .int .u64 f, .slice B n c] 35 i)
  by_cases h0 : f = 0
  · have HF := Lib.hid (show lastsF f t = true by unfold lastsF; simp [h0])
    have HD := Lib.hid (show decide (f = 0) = true by simpa using h0)
    clear h0
    go_enter Try.func41, Try.ntmps41
    go_wp2_with fail
    refine HC.out.mono ?_
    rw [HD.out]
    rintro e w1 ⟨rfl, hb1⟩
    have HB1 := Lib.hid (HB.out.trans (hb1.mono HB.out.size))
    clear hb1
    go_wp2
    go_ret
    rw [HF.out]
    exact ⟨rfl, HB1.out⟩
  · have HF := Lib.hid (show lastsF f t = decide (t < f) by unfold lastsF; simp [h0])
    have HD := Lib.hid (show decide (f = 0) = false by simpa using h0)
    clear h0
    go_enter Try.func41, Try.ntmps41
    go_wp2_with fail
    refine HC.out.mono ?_
    rw [HD.out]
    rintro e w1 ⟨rfl, hb1⟩
    have HB1 := Lib.hid (HB.out.trans (hb1.mono HB.out.size))
    have q1 := (hb1.cell (p := ⟨w.heap.size, 1, none⟩) (by simp)).trans (HW.out 1)
    simp at q1
    clear hb1
    go_wp2
    go_ret
    rw [HF.out]
    exact ⟨rfl, HB1.out⟩

def folF (f b' : Int) (n n' : Nat) : Bool := !decide (f = 0) && (decide (f ≤ b') && decide (n = n'))
set_option maxHeartbeats 400000 in
theorem follows_any (b f b' f' : Int) (B B' : Option Addr) (n n' c c' : Nat) (w : World) : Calls Try.prog 36 #[.agg #[.int .u64 b, .int .u64 f, .slice B n c], .agg #[.int .u64 b', .int .u64 f', .slice B' n' c']] w fun e w' => e = .returned (.bool (folF f b' n n')) ∧ Below w.heap.size w w' := by
  obtain ⟨W, hW⟩ : ∃ W, W = (w.alloc (.cells #[.int .u64 b, .int .u64 f, .slice B n c] 35)).alloc (.cells #[.int .u64 b', .int .u64 f', .slice B' n' c'] 35) := ⟨_, rfl⟩
  have hB : Below w.heap.size w W := by rw [hW]; exact ((Below.refl _ w).alloc (Nat.le_refl _) _).alloc (by simp) _
  have hz : W.heap.size = w.heap.size + 2 := by rw [hW]; simp
  have hx : W.heap[w.heap.size]? = some (.cells #[.int .u64 b, .int .u64 f, .slice B n c] 35 (0, 0)) := by rw [hW]; exact (Below.heap_alloc _ _ _ (by simp)).trans (heap_alloc_new _ _)
  have hy : W.heap[w.heap.size + 1]? = some (.cells #[.int .u64 b', .int .u64 f', .slice B' n' c'] 35 (0, 0)) := by rw [hW]; have := heap_alloc_new (w.alloc (.cells #[.int .u64 b, .int .u64 f, .slice B n c] 35)) (.cells #[.int .u64 b', .int .u64 f', .slice B' n' c'] 35); rwa [World.size_alloc] at this
  have HC := Lib.hid (isOpen_any b f B n c W)
  have HB := Lib.hid hB
  have HR := Lib.hid (show folF f b' n n' = (!decide (f = 0) && (decide (f ≤ b') && decide (n = n'))) from rfl)
  generalize folF f b' n n' = R at *
  have HX := Lib.hid hx
  have HY := Lib.hid hy
  have HZ := Lib.hid hz
  have HW := Lib.hid hW
  clear hB hz hx hy hW
  by_cases h0 : f = 0
  · have HF := Lib.hid (show R = false by rw [HR.out]; simp [h0])
    have HD := Lib.hid (show decide (f = 0) = true by simpa using h0)
    clear h0 HR
    go_enter Try.func36, Try.ntmps36
    go_wp2_with fail
    rw [← HW.out]
    refine HC.out.mono ?_
    rw [HD.out]
    rintro e w1 ⟨rfl, hb1⟩
    have HB1 := Lib.hid (HB.out.trans (hb1.mono HB.out.size))
    clear hb1
    go_wp2
    go_ret
    rw [HF.out]
    exact ⟨rfl, HB1.out⟩
  · have HF := Lib.hid (show R = (decide (f ≤ b') && decide (n = n')) by rw [HR.out]; simp [h0])
    have HD := Lib.hid (show decide (f = 0) = false by simpa using h0)
    clear h0 HR
    by_cases h1 : f ≤ b'
    · have HF1 := Lib.hid (show R = decide (n = n') by rw [HF.out]; simp [h1])
      by_cases h2 : n = n'
      · subst h2
        have HF2 := Lib.hid (show R = true by rw [HF1.out]; simp)
        go_enter Try.func36, Try.ntmps36
        go_wp2_with fail
        rw [← HW.out]
        refine HC.out.mono ?_
        rw [HD.out]
        rintro e w1 ⟨rfl, hb1⟩
        have HB1 := Lib.hid (HB.out.trans (hb1.mono HB.out.size))
        have X1 := (hb1.block w.heap.size (by rw [HZ.out]; omega)).trans HX.out
        have Y1 := (hb1.block (w.heap.size + 1) (by rw [HZ.out]; omega)).trans HY.out
        have x1 := (cell_of_row _ _ 1 _ _ _ X1).trans rfl
        have x2 := (cell_of_row _ _ 2 _ _ _ X1).trans rfl
        have y0 := (cell_of_row _ _ 0 _ _ _ Y1).trans rfl
        have y2 := (cell_of_row _ _ 2 _ _ _ Y1).trans rfl
        clear hb1 X1 Y1
        go_wp2
        go_ret
        rw [HF2.out]
        exact ⟨rfl, HB1.out⟩
      · have HF2 := Lib.hid (show R = false by rw [HF1.out]; simp [h2])
        have t2 : ((n : Int) == (n' : Int)) = false := by simp; omega
        go_enter Try.func36, Try.ntmps36
        go_wp2_with fail
        rw [← HW.out]
        refine HC.out.mono ?_
        rw [HD.out]
        rintro e w1 ⟨rfl, hb1⟩
        have HB1 := Lib.hid (HB.out.trans (hb1.mono HB.out.size))
        have X1 := (hb1.block w.heap.size (by rw [HZ.out]; omega)).trans HX.out
        have Y1 := (hb1.block (w.heap.size + 1) (by rw [HZ.out]; omega)).trans HY.out
        have x1 := (cell_of_row _ _ 1 _ _ _ X1).trans rfl
        have x2 := (cell_of_row _ _ 2 _ _ _ X1).trans rfl
        have y0 := (cell_of_row _ _ 0 _ _ _ Y1).trans rfl
        have y2 := (cell_of_row _ _ 2 _ _ _ Y1).trans rfl
        clear hb1 X1 Y1
        go_wp2
        go_ret
        rw [HF2.out]
        exact ⟨rfl, HB1.out⟩
    · have HF1 := Lib.hid (show R = false by rw [HF.out]; simp [h1])
      have t1 : decide (f ≤ b') = false := by simpa using h1
      go_enter Try.func36, Try.ntmps36
      go_wp2_with fail
      rw [← HW.out]
      refine HC.out.mono ?_
      rw [HD.out]
      rintro e w1 ⟨rfl, hb1⟩
      have HB1 := Lib.hid (HB.out.trans (hb1.mono HB.out.size))
      have X1 := (hb1.block w.heap.size (by rw [HZ.out]; omega)).trans HX.out
      have Y1 := (hb1.block (w.heap.size + 1) (by rw [HZ.out]; omega)).trans HY.out
      have x1 := (cell_of_row _ _ 1 _ _ _ X1).trans rfl
      have y0 := (cell_of_row _ _ 0 _ _ _ Y1).trans rfl
      clear hb1 X1 Y1
      go_wp2
      go_ret
      rw [HF1.out]
      exact ⟨rfl, HB1.out⟩

def visF (b f t : Int) : Bool := decide (b ≤ t) && lastsF f t
theorem visible_any (b f : Int) (B : Option Addr) (n c : Nat) (t : Int) (w : World) : Calls Try.prog 43 #[.agg #[.int .u64 b, .int .u64 f, .slice B n c], .int .u64 t] w fun e w' => e = .returned (.bool (visF b f t)) ∧ Below w.heap.size w w' := by
  have HB := Lib.hid (ver_alloc w b f B n c)
  have HR := Lib.hid (show visF b f t = (decide (b ≤ t) && (decide (f = 0) || decide (t < f))) from rfl)
  generalize visF b f t = R at *
  by_cases hb : b ≤ t
  · by_cases h0 : f = 0
    · subst h0
      have HF := Lib.hid (show R = true by rw [HR.out]; simp [hb])
      clear HR
      go_enter Try.func43, Try.ntmps43
      go_wp2
      go_ret
      rw [HF.out]
      exact ⟨rfl, HB.out⟩
    · have HF := Lib.hid (show R = decide (t < f) by rw [HR.out]; simp [hb, h0])
      have t0 : (f == 0) = false := by simpa using h0
      clear HR h0
      go_enter Try.func43, Try.ntmps43
      go_wp2
      go_ret
      rw [HF.out]
      exact ⟨rfl, HB.out⟩
  · have HF := Lib.hid (show R = false by rw [HR.out]; simp [hb])
    have t0 : decide (b ≤ t) = false := by simpa using hb
    clear HR
    go_enter Try.func43, Try.ntmps43
    go_wp2
    go_ret
    rw [HF.out]
    exact ⟨rfl, HB.out⟩

theorem at1_any (b f : Int) (B : Option Addr) (n c : Nat) (t : Int) (g : Nat) (w : World) (hg : w.cell? ⟨g, 0, none⟩ = some (.int .u64 t)) : Calls Try.prog 40 #[.agg #[.int .u64 b, .int .u64 f, .slice B n c], .pointer (some ⟨g, 0, none⟩)] w fun e w' => e = .returned (.bool (visF b f t)) ∧ Below w.heap.size w w' := by
  have hB := ver_alloc w b f B n c
  have HC := Lib.hid (lasts_any b f B n c t (w.alloc (.cells #[.int .u64 b, .int .u64 f, .slice B n c] 35)))
  have hg2 : (w.alloc (.cells #[.int .u64 b, .int .u64 f, .slice B n c] 35)).cell? ⟨g, 0, none⟩ = some (.int .u64 t) := (hB.cell (p := ⟨g, 0, none⟩) (World.block_lt_of_cell? w _ hg)).trans hg
  have hne : g ≠ w.heap.size := by have := World.block_lt_of_cell? w _ hg; simp at this; omega
  have HB := Lib.hid hB
  have HR := Lib.hid (show visF b f t = (decide (b ≤ t) && lastsF f t) from rfl)
  generalize visF b f t = R at *
  generalize lastsF f t = D at *
  clear hB
  by_cases hb : b ≤ t
  · have HF := Lib.hid (show R = D by rw [HR.out]; simp [hb])
    clear HR
    go_enter Try.func40, Try.ntmps40
    go_wp2_with fail
    refine HC.out.mono ?_
    rintro e w1 ⟨rfl, hb1⟩
    have HB1 := Lib.hid (HB.out.trans (hb1.mono HB.out.size))
    clear hb1
    go_wp2
    go_ret
    rw [HF.out]
    exact ⟨rfl, HB1.out⟩
  · have HF := Lib.hid (show R = false by rw [HR.out]; simp [hb])
    have t0 : decide (b ≤ t) = false := by simpa using hb
    clear HR
    go_enter Try.func40, Try.ntmps40
    go_wp2
    go_ret
    rw [HF.out]
    exact ⟨rfl, HB.out⟩

theorem prune1_any (b f : Int) (B : Option Addr) (n c : Nat) (t : Int) (g : Nat) (w : World) (hg : w.cell? ⟨g, 0, none⟩ = some (.int .u64 t)) : Calls Try.prog 45 #[.agg #[.int .u64 b, .int .u64 f, .slice B n c], .pointer (some ⟨g, 0, none⟩)] w fun e w' => e = .returned (.bool (lastsF f t)) ∧ Below w.heap.size w w' := by
  have hB := ver_alloc w b f B n c
  have HC := Lib.hid (lasts_any b f B n c t (w.alloc (.cells #[.int .u64 b, .int .u64 f, .slice B n c] 35)))
  have hg2 : (w.alloc (.cells #[.int .u64 b, .int .u64 f, .slice B n c] 35)).cell? ⟨g, 0, none⟩ = some (.int .u64 t) := (hB.cell (p := ⟨g, 0, none⟩) (World.block_lt_of_cell? w _ hg)).trans hg
  have hne : g ≠ w.heap.size := by have := World.block_lt_of_cell? w _ hg; simp at this; omega
  have HB := Lib.hid hB
  generalize lastsF f t = D at *
  clear hB
  go_enter Try.func45, Try.ntmps45
  go_wp2_with fail
  refine HC.out.mono ?_
  rintro e w1 ⟨rfl, hb1⟩
  have HB1 := Lib.hid (HB.out.trans (hb1.mono HB.out.size))
  clear hb1
  go_wp2
  go_ret
  exact ⟨rfl, HB1.out⟩

theorem prune2_any (b f : Int) (B : Option Addr) (n c : Nat) (t : Int) (g h : Nat) (w : World) (hg : w.cell? ⟨g, 0, none⟩ = some (.int .u64 t)) (hh : w.cell? ⟨h, 0, none⟩ = some (.func (.func 45) #[] #[.pointer (some ⟨g, 0, none⟩)])) : Calls Try.prog 46 #[.agg #[.int .u64 b, .int .u64 f, .slice B n c], .pointer (some ⟨h, 0, none⟩)] w fun e w' => e = .returned (.bool (!lastsF f t)) ∧ Below w.heap.size w w' := by
  have hB := ver_alloc w b f B n c
  have hg2 : (w.alloc (.cells #[.int .u64 b, .int .u64 f, .slice B n c] 35)).cell? ⟨g, 0, none⟩ = some (.int .u64 t) := (hB.cell (p := ⟨g, 0, none⟩) (World.block_lt_of_cell? w _ hg)).trans hg
  have HC := Lib.hid (prune1_any b f B n c t g (w.alloc (.cells #[.int .u64 b, .int .u64 f, .slice B n c] 35)) hg2)
  have hh2 : (w.alloc (.cells #[.int .u64 b, .int .u64 f, .slice B n c] 35)).cell? ⟨h, 0, none⟩ = some _ := (hB.cell (p := ⟨h, 0, none⟩) (World.block_lt_of_cell? w _ hh)).trans hh
  have hne : h ≠ w.heap.size := by have := World.block_lt_of_cell? w _ hh; simp at this; omega
  have HB := Lib.hid hB
  generalize lastsF f t = D at *
  clear hB hg2 hg
  go_enter Try.func46, Try.ntmps46
  go_wp2_with fail
  refine HC.out.mono ?_
  rintro e w1 ⟨rfl, hb1⟩
  have HB1 := Lib.hid (HB.out.trans (hb1.mono HB.out.size))
  clear hb1
  go_wp2
  go_ret
  exact ⟨rfl, HB1.out⟩

theorem where_any (A : Option Addr) (n c : Nat) (fv : Value) (w : World) (hf : ∃ a b d, fv = .func a b d) : Calls Try.prog 42 #[.slice A n c, fv] w fun e w' => e = .returned (.func (.func 63) #[] #[.pointer (some ⟨w.heap.size, 0, none⟩), .pointer (some ⟨w.heap.size + 1, 0, none⟩)]) ∧ w' = (w.alloc (.cells #[.slice A n c] 22)).alloc (.cells #[fv] 66) := by
  obtain ⟨a, b, d, rfl⟩ := hf
  go_enter Try.func42, Try.ntmps42
  go_wp2
  go_ret
  exact ⟨rfl, rfl⟩

theorem all_any (A : Option Addr) (n c : Nat) (w : World) : Calls Try.prog 66 #[.slice A n c] w fun e w' => e = .returned (.func (.func 71) #[] #[.pointer (some ⟨w.heap.size, 0, none⟩)]) ∧ w' = w.alloc (.cells #[.slice A n c] 22) := by
  go_enter Try.func66, Try.ntmps66
  go_wp2
  go_ret
  exact ⟨rfl, rfl⟩

end Go.Proofs.Ytbnedhhkapbliaa
