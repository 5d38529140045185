/-
  Cells asked: isSound, sameCell, mayBe, the closures of Put, Of and ByRows.
-/
import Derived.Test.YtpdebkpblpipcaaAreBase
import Derived.Deep.RegionHeld3
namespace Go.Proofs.Ytpdebkpblpipcaa
open Go.RowKit Go.Shelf
set_option linter.unusedVariables false
set_option linter.unusedSimpArgs false
set_option maxRecDepth 100000

theorem cel_alloc (w : World) (u : Bool) (i b f : Int) (B : Option Addr) (n c : Nat) : Below w.heap.size w (w.alloc (.cells #[.bool u, .int .u64 i, .int .u64 b, .int .u64 f, .slice B n c] 45)) := (Below.refl _ w).alloc (Nat.le_refl _) _
theorem same_ce (u u' : Bool) (i i' b b' f f' : Int) (x x' : List Int) : decide ((⟨u, i, b, f, x⟩ : Ce) = ⟨u', i', b', f', x'⟩) = (decide (u = u') && (decide (i = i') && sameV b b' f f' x x')) := by
  unfold sameV
  rw [Bool.eq_iff_iff]
  simp

set_option maxHeartbeats 1000000 in
theorem isSound_any (p : Pa) (w : World) (h : Vec .i32 w p.B p.c p.e.x) :
    Calls Try.prog 42 #[.agg #[.bool p.e.u, .int .u64 p.e.i, .int .u64 p.e.b, .int .u64 p.e.f, .slice p.B p.e.x.length p.c]] w fun y w' => y = .returned (.bool (soundE p.e)) ∧ Below w.heap.size w w' := by
  obtain ⟨⟨u, i, b, f, x⟩, B, c⟩ := p
  dsimp only at h ⊢
  have hB := cel_alloc w u i b f B x.length c
  have HC := Lib.hid (checkVersion_any b f B c x _ (h.below hB))
  have HB := Lib.hid hB
  have HR := Lib.hid (show soundE ⟨u, i, b, f, x⟩ = (u && verR b f x) from rfl)
  have HE := Lib.hid (show verE b f x = if verR b f x = true then 0 else 171 from rfl)
  generalize soundE ⟨u, i, b, f, x⟩ = R at *
  generalize verE b f x = E at *
  generalize verR b f x = V at *
  generalize x.length = n at *
  clear h hB
  cases u
  · have HF := Lib.hid (show R = false from HR.out)
    clear HR HE
    go_enter Try.func42, Try.ntmps42
    go_wp2
    go_ret
    rw [HF.out]
    exact ⟨rfl, HB.out⟩
  · cases V
    · have HF := Lib.hid (show R = false from HR.out)
      have HE2 := Lib.hid (show E = 171 from HE.out)
      rw [HE2.out] at HC
      clear HR HE HE2
      go_enter Try.func42, Try.ntmps42
      go_wp2_with fail
      refine HC.out.mono ?_
      rintro y w1 ⟨rfl, hb1⟩
      have HB1 := Lib.hid (HB.out.trans (hb1.mono HB.out.size))
      clear hb1
      go_wp2
      go_ret
      rw [HF.out]
      exact ⟨rfl, HB1.out⟩
    · have HF := Lib.hid (show R = true from HR.out)
      have HE2 := Lib.hid (show E = 0 from HE.out)
      rw [HE2.out] at HC
      clear HR HE HE2
      go_enter Try.func42, Try.ntmps42
      go_wp2_with fail
      refine HC.out.mono ?_
      rintro y w1 ⟨rfl, hb1⟩
      have HB1 := Lib.hid (HB.out.trans (hb1.mono HB.out.size))
      clear hb1
      go_wp2
      go_ret
      rw [HF.out]
      exact ⟨rfl, HB1.out⟩

set_option maxHeartbeats 1000000 in
theorem sameCell_any (p p' : Pa) (w : World) (h : Vec .i32 w p.B p.c p.e.x) (h' : Vec .i32 w p'.B p'.c p'.e.x) :
    Calls Try.prog 38 #[.agg #[.bool p.e.u, .int .u64 p.e.i, .int .u64 p.e.b, .int .u64 p.e.f, .slice p.B p.e.x.length p.c], .agg #[.bool p'.e.u, .int .u64 p'.e.i, .int .u64 p'.e.b, .int .u64 p'.e.f, .slice p'.B p'.e.x.length p'.c]] w fun y w' => y = .returned (.bool (decide (p.e = p'.e))) ∧ Below w.heap.size w w' := by
  obtain ⟨⟨u, i, b, f, x⟩, B, c⟩ := p
  obtain ⟨⟨u', i', b', f', x'⟩, B', c'⟩ := p'
  dsimp only at h h' ⊢
  rw [same_ce]
  have hB : Below w.heap.size w ((w.alloc (.cells #[.bool u, .int .u64 i, .int .u64 b, .int .u64 f, .slice B x.length c] 45)).alloc (.cells #[.bool u', .int .u64 i', .int .u64 b', .int .u64 f', .slice B' x'.length c'] 45)) := ((Below.refl _ w).alloc (Nat.le_refl _) _).alloc (by simp) _
  have HC := Lib.hid (sameVersion_any b b' f f' B B' c c' x x' _ (h.below hB) (h'.below hB))
  have HB := Lib.hid hB
  have HR := Lib.hid (show (decide (u = u') && (decide (i = i') && sameV b b' f f' x x')) = (decide (u = u') && (decide (i = i') && sameV b b' f f' x x')) from rfl)
  generalize hR : (decide (u = u') && (decide (i = i') && sameV b b' f f' x x')) = R at *
  generalize sameV b b' f f' x x' = V at *
  have HR := Lib.hid hR
  generalize x.length = n at *
  generalize x'.length = n' at *
  clear h h' hB hR
  by_cases hu : u = u'
  · subst hu
    by_cases hi : i = i'
    · subst hi
      have HF := Lib.hid (show R = V by rw [← HR.out]; simp)
      have tu : (u == u) = true := by simp
      clear HR
      go_enter Try.func38, Try.ntmps38
      go_wp2_with fail
      refine HC.out.mono ?_
      rintro y w1 ⟨rfl, hb1⟩
      have HB1 := Lib.hid (HB.out.trans (hb1.mono HB.out.size))
      clear hb1
      go_wp2
      go_ret
      rw [HF.out]
      exact ⟨rfl, HB1.out⟩
    · have HF := Lib.hid (show R = false by rw [← HR.out]; simp [hi])
      have ti : (i == i') = false := by simpa using hi
      have tu : (u == u) = true := by simp
      clear HR hi
      go_enter Try.func38, Try.ntmps38
      go_wp2
      go_ret
      rw [HF.out]
      exact ⟨rfl, HB.out⟩
  · have HF := Lib.hid (show R = false by rw [← HR.out]; simp [hu])
    have tu : (u == u') = false := by simpa using hu
    clear HR hu
    go_enter Try.func38, Try.ntmps38
    go_wp2
    go_ret
    rw [HF.out]
    exact ⟨rfl, HB.out⟩

set_option maxHeartbeats 1000000 in
theorem mayCell_any (p : Pa) (w : World) (h : Vec .i32 w p.B p.c p.e.x) :
    Calls Try.prog 32 #[.agg #[.bool p.e.u, .int .u64 p.e.i, .int .u64 p.e.b, .int .u64 p.e.f, .slice p.B p.e.x.length p.c]] w fun y w' => y = .returned (.bool (mayE p.e)) ∧ Below w.heap.size w w' := by
  have hB := cel_alloc w p.e.u p.e.i p.e.b p.e.f p.B p.e.x.length p.c
  obtain ⟨W, hW⟩ : ∃ W, W = w.alloc (.cells #[.bool p.e.u, .int .u64 p.e.i, .int .u64 p.e.b, .int .u64 p.e.f, .slice p.B p.e.x.length p.c] 45) := ⟨_, rfl⟩
  rw [← hW] at hB
  have hx : W.heap[w.heap.size]? = some (.cells #[.bool p.e.u, .int .u64 p.e.i, .int .u64 p.e.b, .int .u64 p.e.f, .slice p.B p.e.x.length p.c] 45 (0, 0)) := by rw [hW]; exact heap_alloc_new _ _
  have hz : W.heap.size = w.heap.size + 1 := by rw [hW]; simp
  have HC := Lib.hid (isSound_any p W (h.below hB))
  have HS := Lib.hid (fun (X : World) (hX : Below W.heap.size W X) => sameCell_any p pz X ((h.below hB).below hX) (Vec.nil _ _))
  have HB := Lib.hid hB
  have HX := Lib.hid hx
  have HZ := Lib.hid hz
  have HW := Lib.hid hW
  have HR := Lib.hid (show mayE p.e = (soundE p.e || decide (p.e = zc)) from rfl)
  generalize mayE p.e = R at *
  generalize soundE p.e = S at *
  clear h hB hx hW hz
  cases S with
  | true =>
    have HF := Lib.hid (show R = true from HR.out)
    clear HR
    go_enter Try.func32, Try.ntmps32
    go_wp2_with fail
    rw [← HW.out]
    refine HC.out.mono ?_
    rintro y w1 ⟨rfl, hb1⟩
    have HB1 := Lib.hid (HB.out.trans (hb1.mono HB.out.size))
    clear hb1
    go_wp2
    go_ret
    rw [HF.out]
    exact ⟨rfl, HB1.out⟩
  | false =>
    have HF := Lib.hid (show R = decide (p.e = zc) from HR.out)
    clear HR
    go_enter Try.func32, Try.ntmps32
    go_wp2_with fail
    rw [← HW.out]
    refine HC.out.mono ?_
    rintro y w1 ⟨rfl, hb1⟩
    have HB01 := Lib.hid hb1
    have HB1 := Lib.hid (HB.out.trans (hb1.mono HB.out.size))
    have X1 := (hb1.block w.heap.size (by rw [HZ.out]; omega)).trans HX.out
    have x0 := (cell_of_row _ _ 0 _ _ _ X1).trans rfl
    have x1 := (cell_of_row _ _ 1 _ _ _ X1).trans rfl
    have x2 := (cell_of_row _ _ 2 _ _ _ X1).trans rfl
    have x3 := (cell_of_row _ _ 3 _ _ _ X1).trans rfl
    have x4 := (cell_of_row _ _ 4 _ _ _ X1).trans rfl
    have HS1 := Lib.hid (HS.out w1 HB01.out)
    clear hb1 X1
    go_wp2_with fail
    refine HS1.out.mono ?_
    rintro y w2 ⟨rfl, hb2⟩
    have HB2 := Lib.hid (HB1.out.trans (hb2.mono HB1.out.size))
    clear hb2
    go_wp2
    go_ret
    rw [HF.out]
    exact ⟨rfl, HB2.out⟩

theorem put1_any (p : Pa) (w : World) :
    Calls Try.prog 46 #[.agg #[.bool p.e.u, .int .u64 p.e.i, .int .u64 p.e.b, .int .u64 p.e.f, .slice p.B p.e.x.length p.c]] w fun y w' => y = .returned (.bool (!p.e.u)) ∧ Below w.heap.size w w' := by
  have HB := Lib.hid (cel_alloc w p.e.u p.e.i p.e.b p.e.f p.B p.e.x.length p.c)
  go_enter Try.func46, Try.ntmps46
  go_wp2
  go_ret
  exact ⟨rfl, HB.out⟩
theorem rows1_any (p : Pa) (w : World) :
    Calls Try.prog 35 #[.agg #[.bool p.e.u, .int .u64 p.e.i, .int .u64 p.e.b, .int .u64 p.e.f, .slice p.B p.e.x.length p.c]] w fun y w' => y = .returned (.bool true) ∧ Below w.heap.size w w' := by
  have HB := Lib.hid (cel_alloc w p.e.u p.e.i p.e.b p.e.f p.B p.e.x.length p.c)
  go_enter Try.func35, Try.ntmps35
  go_wp2
  go_ret
  exact ⟨rfl, HB.out⟩
theorem of1_any (p : Pa) (g : Nat) (id : Int) (w : World) (hg : w.cell? ⟨g, 0, none⟩ = some (.int .u64 id)) :
    Calls Try.prog 34 #[.agg #[.bool p.e.u, .int .u64 p.e.i, .int .u64 p.e.b, .int .u64 p.e.f, .slice p.B p.e.x.length p.c], .pointer (some ⟨g, 0, none⟩)] w fun y w' => y = .returned (.bool (decide (p.e.i = id))) ∧ Below w.heap.size w w' := by
  have hB := cel_alloc w p.e.u p.e.i p.e.b p.e.f p.B p.e.x.length p.c
  have hg2 : (w.alloc (.cells #[.bool p.e.u, .int .u64 p.e.i, .int .u64 p.e.b, .int .u64 p.e.f, .slice p.B p.e.x.length p.c] 45)).cell? ⟨g, 0, none⟩ = some (.int .u64 id) := (hB.cell (p := ⟨g, 0, none⟩) (World.block_lt_of_cell? w _ hg)).trans hg
  have hne : g ≠ w.heap.size := by have := World.block_lt_of_cell? w _ hg; simp at this; omega
  have HB := Lib.hid hB
  have HF := Lib.hid (show decide (p.e.i = id) = (p.e.i == id) from by rw [Bool.eq_iff_iff]; simp)
  rw [HF.out]
  clear hB HF
  go_enter Try.func34, Try.ntmps34
  go_wp2
  go_ret
  exact ⟨rfl, HB.out⟩

end Go.Proofs.Ytpdebkpblpipcaa
