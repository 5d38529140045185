/-
  The order of slots by rows: the comparison that ordered hands to slices.SortFunc.
-/
import Derived.Test.YtpdebkpblpipcaaArePut
import Derived.Sort.Grow
namespace Go.Proofs.Ytpdebkpblpipcaa
open Go.RowKit Go.Shelf
set_option linter.unusedVariables false
set_option linter.unusedSimpArgs false
set_option maxRecDepth 100000

/-- How two slots stand: by Id, by Begin, by slot. -/
def cfS (l : List Ce) (x y : Nat) : Int := or3 (cmp3 (ceAt l x).i (ceAt l y).i) (cmp3 (ceAt l x).b (ceAt l y).b) (cmp3 x y)

/-- What grows and turns nothing. -/
theorem grow_of {W W' : World} (hb : Below W.heap.size W W') (q : Nat) (hd : W'.drawn = W.drawn + q) : ∃ os, W' = Go.Sort.grow (W.drewN q) os := by
  refine ⟨W'.heap.extract W.heap.size W'.heap.size, ?_⟩
  have h1 := hb.os
  have h2 := hb.tape
  have h3 := hb.output
  have hh : W'.heap = W.heap ++ W'.heap.extract W.heap.size W'.heap.size := by
    apply Array.ext_getElem?
    intro k
    by_cases hk : k < W.heap.size
    · rw [Array.getElem?_append_left hk]; exact hb.block k hk
    · rw [Array.getElem?_append_right (by omega), Array.getElem?_extract]
      have hs := hb.size
      by_cases hk2 : k < W'.heap.size
      · rw [if_pos (by omega)]; congr 1; omega
      · rw [if_neg (by omega), Array.getElem?_eq_none (by omega)]
  rcases W' with ⟨h', t', d', o', u'⟩
  dsimp only at h1 h2 h3 hd hh
  subst h1 h2 h3 hd
  exact congrArg (fun h => World.mk h W.tape (W.drawn + q) W.os W.output) hh

/-- Two boxes of cells, laid one behind the other. -/
theorem two_cells (w : World) (u u' : Bool) (i i' b b' f f' : Int) (y y' : Value) :
    Below w.heap.size w ((w.alloc (.cells #[.bool u, .int .u64 i, .int .u64 b, .int .u64 f, y] 45)).alloc (.cells #[.bool u', .int .u64 i', .int .u64 b', .int .u64 f', y'] 45)).drew ∧ ((w.alloc (.cells #[.bool u, .int .u64 i, .int .u64 b, .int .u64 f, y] 45)).alloc (.cells #[.bool u', .int .u64 i', .int .u64 b', .int .u64 f', y'] 45)).drew.drawn = w.drawn + 1 ∧
    ((w.alloc (.cells #[.bool u, .int .u64 i, .int .u64 b, .int .u64 f, y] 45)).alloc (.cells #[.bool u', .int .u64 i', .int .u64 b', .int .u64 f', y'] 45)).drew.heap.size = w.heap.size + 2 ∧
    ∀ X, Below ((w.alloc (.cells #[.bool u, .int .u64 i, .int .u64 b, .int .u64 f, y] 45)).alloc (.cells #[.bool u', .int .u64 i', .int .u64 b', .int .u64 f', y'] 45)).drew.heap.size ((w.alloc (.cells #[.bool u, .int .u64 i, .int .u64 b, .int .u64 f, y] 45)).alloc (.cells #[.bool u', .int .u64 i', .int .u64 b', .int .u64 f', y'] 45)).drew X →
      (X.cell? ⟨w.heap.size, 1, none⟩ = some (.int .u64 i) ∧ X.cell? ⟨w.heap.size, 2, none⟩ = some (.int .u64 b)) ∧ X.cell? ⟨w.heap.size + 1, 1, none⟩ = some (.int .u64 i') ∧ X.cell? ⟨w.heap.size + 1, 2, none⟩ = some (.int .u64 b') := by
  obtain ⟨V, hV⟩ : ∃ V, V = ((w.alloc (.cells #[.bool u, .int .u64 i, .int .u64 b, .int .u64 f, y] 45)).alloc (.cells #[.bool u', .int .u64 i', .int .u64 b', .int .u64 f', y'] 45)).drew := ⟨_, rfl⟩
  rw [← hV]
  have hz : V.heap.size = w.heap.size + 2 := by rw [hV]; show ((w.alloc _).alloc _).heap.size = _; simp
  have hx : V.heap[w.heap.size]? = some (.cells #[.bool u, .int .u64 i, .int .u64 b, .int .u64 f, y] 45 (0, 0)) := by rw [hV]; exact (Below.heap_alloc _ _ _ (by simp)).trans (heap_alloc_new _ _)
  have hy : V.heap[w.heap.size + 1]? = some (.cells #[.bool u', .int .u64 i', .int .u64 b', .int .u64 f', y'] 45 (0, 0)) := by
    rw [hV]
    have h := heap_alloc_new (w.alloc (.cells #[.bool u, .int .u64 i, .int .u64 b, .int .u64 f, y] 45)) (.cells #[.bool u', .int .u64 i', .int .u64 b', .int .u64 f', y'] 45)
    rw [World.size_alloc] at h
    exact h
  refine ⟨by rw [hV]; exact below_drew (((Below.refl _ w).alloc (Nat.le_refl _) _).alloc (by simp) _), by rw [hV]; rfl, hz, fun X hX => ?_⟩
  have hX1 := (hX.block w.heap.size (by omega)).trans hx
  have hX2 := (hX.block (w.heap.size + 1) (by omega)).trans hy
  exact ⟨⟨(cell_of_row _ _ 1 _ _ _ hX1).trans rfl, (cell_of_row _ _ 2 _ _ _ hX1).trans rfl⟩, (cell_of_row _ _ 1 _ _ _ hX2).trans rfl, (cell_of_row _ _ 2 _ _ _ hX2).trans rfl⟩

set_option maxHeartbeats 4000000 in
theorem ord1_any (A : Option Addr) (c : Nat) (q : List Pa) (g x y : Nat) (w : World) (h : Are w A c q) (hg : w.cell? ⟨g, 0, none⟩ = some (.slice A q.length c)) (hx : x < q.length) (hy : y < q.length) :
    Calls Try.prog 55 #[.int .i64 x, .int .i64 y, .pointer (some ⟨g, 0, none⟩)] w fun e w' => e = .returned (.int .i64 (cfS (ces q) x y)) ∧ ∃ k os, w' = Go.Sort.grow (w.drewN k) os := by
  obtain ⟨b, o, p, rfl, hp, hb, c0, c1, c2, c3, c4, _, _⟩ := h.at_ hx
  obtain ⟨b', o', p', e', hp', hb', d0, d1, d2, d3, d4, _, _⟩ := h.at_ hy
  injection e' with e'
  injection e' with e1 e2
  subst e1
  subst e2
  have hR : cfS (ces q) x y = or3 (cmp3 p.e.i p'.e.i) (cmp3 p.e.b p'.e.b) (cmp3 x y) := by unfold cfS; rw [ces_ceAt hp, ces_ceAt hp']
  have hmx := h.many
  have HS := Lib.hid (fun (X : World) (hX : Below w.heap.size w X) => show X.cell? ⟨g, 0, none⟩ = some (.slice (some ⟨b, o, none⟩) q.length c) ∧ X.cell? ⟨b, o + x * 5, none⟩ = some (.bool p.e.u) ∧ X.cell? ⟨b, o + x * 5 + 1, none⟩ = some (.int .u64 p.e.i) ∧ X.cell? ⟨b, o + x * 5 + 2, none⟩ = some (.int .u64 p.e.b) ∧ X.cell? ⟨b, o + x * 5 + 3, none⟩ = some (.int .u64 p.e.f) ∧ X.cell? ⟨b, o + x * 5 + 4, none⟩ = some (.slice p.B p.e.x.length p.c) ∧
      X.cell? ⟨b, o + y * 5, none⟩ = some (.bool p'.e.u) ∧ X.cell? ⟨b, o + y * 5 + 1, none⟩ = some (.int .u64 p'.e.i) ∧ X.cell? ⟨b, o + y * 5 + 2, none⟩ = some (.int .u64 p'.e.b) ∧ X.cell? ⟨b, o + y * 5 + 3, none⟩ = some (.int .u64 p'.e.f) ∧ X.cell? ⟨b, o + y * 5 + 4, none⟩ = some (.slice p'.B p'.e.x.length p'.c) from
    ⟨(hX.cell (p := ⟨g, 0, none⟩) (World.block_lt_of_cell? w _ hg)).trans hg, (hX.cell (p := ⟨b, o + x * 5, none⟩) hb).trans c0, (hX.cell (p := ⟨b, o + x * 5 + 1, none⟩) hb).trans c1, (hX.cell (p := ⟨b, o + x * 5 + 2, none⟩) hb).trans c2, (hX.cell (p := ⟨b, o + x * 5 + 3, none⟩) hb).trans c3, (hX.cell (p := ⟨b, o + x * 5 + 4, none⟩) hb).trans c4,
     (hX.cell (p := ⟨b, o + y * 5, none⟩) hb).trans d0, (hX.cell (p := ⟨b, o + y * 5 + 1, none⟩) hb).trans d1, (hX.cell (p := ⟨b, o + y * 5 + 2, none⟩) hb).trans d2, (hX.cell (p := ⟨b, o + y * 5 + 3, none⟩) hb).trans d3, (hX.cell (p := ⟨b, o + y * 5 + 4, none⟩) hb).trans d4⟩)
  rw [hR]
  have x0 : (0 : Int) ≤ x := by omega
  have y0 : (0 : Int) ≤ y := by omega
  have xn : (x : Int) < q.length := by omega
  have yn : (y : Int) < q.length := by omega
  have hbl : b < w.heap.size := hb
  have hgl : g < w.heap.size := World.block_lt_of_cell? w _ hg
  obtain ⟨z, hz⟩ : ∃ z, z = w.heap.size := ⟨_, rfl⟩
  clear h hg c0 c1 c2 c3 c4 d0 d1 d2 d3 d4 hp hp' hR hb hb'
  generalize q.length = n at *
  generalize p.e.x.length = nx at *
  generalize p'.e.x.length = ny at *
  go_enter Try.func55, Try.ntmps55
  go_wp2
  go_region_held3 (fun X => X.cell? ⟨g, 0, none⟩ = some (.slice (some ⟨b, o, none⟩) n c) ∧ X.cell? ⟨b, o + x * 5, none⟩ = some (.bool p.e.u) ∧ X.cell? ⟨b, o + x * 5 + 1, none⟩ = some (.int .u64 p.e.i) ∧ X.cell? ⟨b, o + x * 5 + 2, none⟩ = some (.int .u64 p.e.b) ∧ X.cell? ⟨b, o + x * 5 + 3, none⟩ = some (.int .u64 p.e.f) ∧ X.cell? ⟨b, o + x * 5 + 4, none⟩ = some (.slice p.B nx p.c) ∧
      X.cell? ⟨b, o + y * 5, none⟩ = some (.bool p'.e.u) ∧ X.cell? ⟨b, o + y * 5 + 1, none⟩ = some (.int .u64 p'.e.i) ∧ X.cell? ⟨b, o + y * 5 + 2, none⟩ = some (.int .u64 p'.e.b) ∧ X.cell? ⟨b, o + y * 5 + 3, none⟩ = some (.int .u64 p'.e.f) ∧ X.cell? ⟨b, o + y * 5 + 4, none⟩ = some (.slice p'.B ny p'.c))
    ((refine HS.out _ ?_; repeat (first | exact Below.refl _ _ | refine below_drew ?_ | refine Below.alloc ?_ (by simp [World.setCell]; try omega) _ | refine Below.setCell ?_ (by simp [World.setCell]) _))) (fail)
  · have hT := two_cells w p.e.u p'.e.u p.e.i p'.e.i p.e.b p'.e.b p.e.f p'.e.f (.slice p.B nx p.c) (.slice p'.B ny p'.c)
    obtain ⟨V, hV⟩ : ∃ V, V = ((w.alloc (.cells #[.bool p.e.u, .int .u64 p.e.i, .int .u64 p.e.b, .int .u64 p.e.f, .slice p.B nx p.c] 45)).alloc (.cells #[.bool p'.e.u, .int .u64 p'.e.i, .int .u64 p'.e.b, .int .u64 p'.e.f, .slice p'.B ny p'.c] 45)).drew := ⟨_, rfl⟩
    rw [← hV] at hT
    rw [← hV]
    have HT := Lib.hid hT
    have HZ := Lib.hid hz
    clear hV hT HS hz
    go_wp2
    go_region_held3 (fun X => (X.cell? ⟨w.heap.size, 1, none⟩ = some (.int .u64 p.e.i) ∧ X.cell? ⟨w.heap.size, 2, none⟩ = some (.int .u64 p.e.b)) ∧ X.cell? ⟨w.heap.size + 1, 1, none⟩ = some (.int .u64 p'.e.i) ∧ X.cell? ⟨w.heap.size + 1, 2, none⟩ = some (.int .u64 p'.e.b))
      (first | assumption | exact HT.out.2.2.2 _ (below_drew (Below.refl _ _)) | exact HT.out.2.2.2 _ (Below.refl _ _) | (refine HT.out.2.2.2 _ ?_; repeat (first | exact Below.refl _ _ | refine below_drew ?_ | refine Below.alloc ?_ (by simp) _)))
      (first
      | (go_at_call 57; refine (cmpU_any _ _ _).mono ?_; rintro e w' ⟨rfl, rfl⟩)
      | (go_at_call 58; refine (cmpI_any _ _ _).mono ?_; rintro e w' ⟨rfl, rfl⟩)
      | (go_at_call 56; refine (cmpOr_any _ _ _ _ _ (cell_laid _ _ _ 0) (cell_laid _ _ _ 1) (cell_laid _ _ _ 2)).mono ?_; rintro e w' ⟨rfl, rfl⟩))
    go_wp2
    go_ret
    refine ⟨rfl, 2, grow_of (HT.out.1.trans (Below.mono (B := V.heap.size) ?_ HT.out.1.size)) 2 ?_⟩
    · repeat (first | exact Below.refl _ _ | refine below_drew ?_ | refine Below.alloc ?_ (by simp) _)
    · show V.drawn + 1 = w.drawn + 2
      have := HT.out.2.1
      omega
  · have hT := two_cells w p'.e.u p.e.u p'.e.i p.e.i p'.e.b p.e.b p'.e.f p.e.f (.slice p'.B ny p'.c) (.slice p.B nx p.c)
    obtain ⟨V, hV⟩ : ∃ V, V = ((w.alloc (.cells #[.bool p'.e.u, .int .u64 p'.e.i, .int .u64 p'.e.b, .int .u64 p'.e.f, .slice p'.B ny p'.c] 45)).alloc (.cells #[.bool p.e.u, .int .u64 p.e.i, .int .u64 p.e.b, .int .u64 p.e.f, .slice p.B nx p.c] 45)).drew := ⟨_, rfl⟩
    rw [← hV] at hT
    rw [← hV]
    have HT := Lib.hid hT
    have HZ := Lib.hid hz
    clear hV hT HS hz
    go_wp2
    go_region_held3 (fun X => (X.cell? ⟨w.heap.size, 1, none⟩ = some (.int .u64 p'.e.i) ∧ X.cell? ⟨w.heap.size, 2, none⟩ = some (.int .u64 p'.e.b)) ∧ X.cell? ⟨w.heap.size + 1, 1, none⟩ = some (.int .u64 p.e.i) ∧ X.cell? ⟨w.heap.size + 1, 2, none⟩ = some (.int .u64 p.e.b))
      (first | assumption | exact HT.out.2.2.2 _ (below_drew (Below.refl _ _)) | exact HT.out.2.2.2 _ (Below.refl _ _) | (refine HT.out.2.2.2 _ ?_; repeat (first | exact Below.refl _ _ | refine below_drew ?_ | refine Below.alloc ?_ (by simp) _)))
      (first
      | (go_at_call 57; refine (cmpU_any _ _ _).mono ?_; rintro e w' ⟨rfl, rfl⟩)
      | (go_at_call 58; refine (cmpI_any _ _ _).mono ?_; rintro e w' ⟨rfl, rfl⟩)
      | (go_at_call 56; refine (cmpOr_any _ _ _ _ _ (cell_laid _ _ _ 0) (cell_laid _ _ _ 1) (cell_laid _ _ _ 2)).mono ?_; rintro e w' ⟨rfl, rfl⟩))
    go_wp2
    go_ret
    refine ⟨rfl, 2, grow_of (HT.out.1.trans (Below.mono (B := V.heap.size) ?_ HT.out.1.size)) 2 ?_⟩
    · repeat (first | exact Below.refl _ _ | refine below_drew ?_ | refine Below.alloc ?_ (by simp) _)
    · show V.drawn + 1 = w.drawn + 2
      have := HT.out.2.1
      omega

end Go.Proofs.Ytpdebkpblpipcaa
