/-
  AreOrd, AreLay, AreSort, AreSort2, AreOrdered, AreRows, AreDoPut, AreWakes, LawFrame.
-/
import Derived.Test.YtdbcecmlakgknaaMAre
import Derived.Sort.Grow
import Derived.Test.YtdbcecmlakgknaaRows
import Derived.Shelf.SlSortCmp.NoneTotal
import Derived.ProofKit
import Derived.OpenShut
import Derived.ChangeOld
import Derived.Deep.Matrix
import Derived.Deep.SlicePairs
import Derived.Deep.Fields
namespace Go.Proofs.Ytdbcecmlakgknaa
open Go.RowKit Go.Shelf
set_option linter.unusedVariables false
set_option linter.unusedSimpArgs false
set_option maxRecDepth 100000

/-- How two slots stand: by Id, by Begin, by slot. -/
def cfS (l : List Ce) (x y : Nat) : Int := or3 (cmp3 (ceAt l x).i (ceAt l y).i) (cmp3 (ceAt l x).b (ceAt l y).b) (cmp3 x y)

/-- What grows and turns nothing. -/
theorem grow_of {W W' : World} (hb : Below W.heap.size W W') (q : Nat) (hd : W'.drawn = W.drawn + q) : ∃ os, W' = Go.Sort.grow (W.drewN q) os := by
  refine ⟨W'.heap.extract W.heap.size W'.heap.size, ?_⟩
  have h1 := hb.os
  have h2 := hb.tape
  have h3 := hb.output
  have hh : W'.heap = W.heap ++ W'.heap.extract W.heap.size W'.heap.size := by
    apply Array.ext_getElem?
    intro k
    by_cases hk : k < W.heap.size
    · rw [Array.getElem?_append_left hk]; exact hb.block k hk
    · rw [Array.getElem?_append_right (by omega), Array.getElem?_extract]
      have hs := hb.size
      by_cases hk2 : k < W'.heap.size
      · rw [if_pos (by omega)]; congr 1; omega
      · rw [if_neg (by omega), Array.getElem?_eq_none (by omega)]
  rcases W' with ⟨h', t', d', o', u'⟩
  dsimp only at h1 h2 h3 hd hh
  subst h1 h2 h3 hd
  exact congrArg (fun h => World.mk h W.tape (W.drawn + q) W.os W.output) hh

/-- Two boxes of cells, laid one behind the other. -/
theorem two_cells (w : World) (u u' : Bool) (i i' b b' f f' : Int) (y y' : Value) :
    Below w.heap.size w ((w.alloc (.cells #[.bool u, .int .u64 i, .int .u64 b, .int .u64 f, y] 45)).alloc (.cells #[.bool u', .int .u64 i', .int .u64 b', .int .u64 f', y'] 45)).drew ∧ ((w.alloc (.cells #[.bool u, .int .u64 i, .int .u64 b, .int .u64 f, y] 45)).alloc (.cells #[.bool u', .int .u64 i', .int .u64 b', .int .u64 f', y'] 45)).drew.drawn = w.drawn + 1 ∧
    ((w.alloc (.cells #[.bool u, .int .u64 i, .int .u64 b, .int .u64 f, y] 45)).alloc (.cells #[.bool u', .int .u64 i', .int .u64 b', .int .u64 f', y'] 45)).drew.heap.size = w.heap.size + 2 ∧
    ∀ X, Below ((w.alloc (.cells #[.bool u, .int .u64 i, .int .u64 b, .int .u64 f, y] 45)).alloc (.cells #[.bool u', .int .u64 i', .int .u64 b', .int .u64 f', y'] 45)).drew.heap.size ((w.alloc (.cells #[.bool u, .int .u64 i, .int .u64 b, .int .u64 f, y] 45)).alloc (.cells #[.bool u', .int .u64 i', .int .u64 b', .int .u64 f', y'] 45)).drew X →
      (X.cell? ⟨w.heap.size, 1, none⟩ = some (.int .u64 i) ∧ X.cell? ⟨w.heap.size, 2, none⟩ = some (.int .u64 b)) ∧ X.cell? ⟨w.heap.size + 1, 1, none⟩ = some (.int .u64 i') ∧ X.cell? ⟨w.heap.size + 1, 2, none⟩ = some (.int .u64 b') := by
  obtain ⟨V, hV⟩ : ∃ V, V = ((w.alloc (.cells #[.bool u, .int .u64 i, .int .u64 b, .int .u64 f, y] 45)).alloc (.cells #[.bool u', .int .u64 i', .int .u64 b', .int .u64 f', y'] 45)).drew := ⟨_, rfl⟩
  rw [← hV]
  have hz : V.heap.size = w.heap.size + 2 := by rw [hV]; show ((w.alloc _).alloc _).heap.size = _; simp
  have hx : V.heap[w.heap.size]? = some (.cells #[.bool u, .int .u64 i, .int .u64 b, .int .u64 f, y] 45 (0, 0)) := by rw [hV]; exact (Below.heap_alloc _ _ _ (by simp)).trans (heap_alloc_new _ _)
  have hy : V.heap[w.heap.size + 1]? = some (.cells #[.bool u', .int .u64 i', .int .u64 b', .int .u64 f', y'] 45 (0, 0)) := by
    rw [hV]
    have h := heap_alloc_new (w.alloc (.cells #[.bool u, .int .u64 i, .int .u64 b, .int .u64 f, y] 45)) (.cells #[.bool u', .int .u64 i', .int .u64 b', .int .u64 f', y'] 45)
    rw [World.size_alloc] at h
    exact h
  refine ⟨by rw [hV]; exact below_drew (((Below.refl _ w).alloc (Nat.le_refl _) _).alloc (by simp) _), by rw [hV]; rfl, hz, fun X hX => ?_⟩
  have hX1 := (hX.block w.heap.size (by omega)).trans hx
  have hX2 := (hX.block (w.heap.size + 1) (by omega)).trans hy
  exact ⟨⟨(cell_of_row _ _ 1 _ _ _ hX1).trans rfl, (cell_of_row _ _ 2 _ _ _ hX1).trans rfl⟩, (cell_of_row _ _ 1 _ _ _ hX2).trans rfl, (cell_of_row _ _ 2 _ _ _ hX2).trans rfl⟩

set_option maxHeartbeats 4000000 in
theorem ord1_any (A : Option Addr) (c : Nat) (q : List Pa) (g x y : Nat) (w : World) (h : Are w A c q) (hg : w.cell? ⟨g, 0, none⟩ = some (.slice A q.length c)) (hx : x < q.length) (hy : y < q.length) :
    Calls Try.prog 88 #[.int .i64 x, .int .i64 y, .pointer (some ⟨g, 0, none⟩)] w fun e w' => e = .returned (.int .i64 (cfS (ces q) x y)) ∧ ∃ k os, w' = Go.Sort.grow (w.drewN k) os := by
  obtain ⟨b, o, p, rfl, hp, hb, c0, c1, c2, c3, c4, _, _⟩ := h.at_ hx
  obtain ⟨b', o', p', e', hp', hb', d0, d1, d2, d3, d4, _, _⟩ := h.at_ hy
  injection e' with e'
  injection e' with e1 e2
  subst e1
  subst e2
  have hR : cfS (ces q) x y = or3 (cmp3 p.e.i p'.e.i) (cmp3 p.e.b p'.e.b) (cmp3 x y) := by unfold cfS; rw [ces_ceAt hp, ces_ceAt hp']
  have hmx := h.many
  have HS := Lib.hid (fun (X : World) (hX : Below w.heap.size w X) => show X.cell? ⟨g, 0, none⟩ = some (.slice (some ⟨b, o, none⟩) q.length c) ∧ X.cell? ⟨b, o + x * 5, none⟩ = some (.bool p.e.u) ∧ X.cell? ⟨b, o + x * 5 + 1, none⟩ = some (.int .u64 p.e.i) ∧ X.cell? ⟨b, o + x * 5 + 2, none⟩ = some (.int .u64 p.e.b) ∧ X.cell? ⟨b, o + x * 5 + 3, none⟩ = some (.int .u64 p.e.f) ∧ X.cell? ⟨b, o + x * 5 + 4, none⟩ = some (.slice p.B p.e.x.length p.c) ∧
      X.cell? ⟨b, o + y * 5, none⟩ = some (.bool p'.e.u) ∧ X.cell? ⟨b, o + y * 5 + 1, none⟩ = some (.int .u64 p'.e.i) ∧ X.cell? ⟨b, o + y * 5 + 2, none⟩ = some (.int .u64 p'.e.b) ∧ X.cell? ⟨b, o + y * 5 + 3, none⟩ = some (.int .u64 p'.e.f) ∧ X.cell? ⟨b, o + y * 5 + 4, none⟩ = some (.slice p'.B p'.e.x.length p'.c) from
    ⟨(hX.cell (p := ⟨g, 0, none⟩) (World.block_lt_of_cell? w _ hg)).trans hg, (hX.cell (p := ⟨b, o + x * 5, none⟩) hb).trans c0, (hX.cell (p := ⟨b, o + x * 5 + 1, none⟩) hb).trans c1, (hX.cell (p := ⟨b, o + x * 5 + 2, none⟩) hb).trans c2, (hX.cell (p := ⟨b, o + x * 5 + 3, none⟩) hb).trans c3, (hX.cell (p := ⟨b, o + x * 5 + 4, none⟩) hb).trans c4,
     (hX.cell (p := ⟨b, o + y * 5, none⟩) hb).trans d0, (hX.cell (p := ⟨b, o + y * 5 + 1, none⟩) hb).trans d1, (hX.cell (p := ⟨b, o + y * 5 + 2, none⟩) hb).trans d2, (hX.cell (p := ⟨b, o + y * 5 + 3, none⟩) hb).trans d3, (hX.cell (p := ⟨b, o + y * 5 + 4, none⟩) hb).trans d4⟩)
  rw [hR]
  have x0 : (0 : Int) ≤ x := by omega
  have y0 : (0 : Int) ≤ y := by omega
  have xn : (x : Int) < q.length := by omega
  have yn : (y : Int) < q.length := by omega
  have hbl : b < w.heap.size := hb
  have hgl : g < w.heap.size := World.block_lt_of_cell? w _ hg
  obtain ⟨z, hz⟩ : ∃ z, z = w.heap.size := ⟨_, rfl⟩
  clear h hg c0 c1 c2 c3 c4 d0 d1 d2 d3 d4 hp hp' hR hb hb'
  generalize q.length = n at *
  generalize p.e.x.length = nx at *
  generalize p'.e.x.length = ny at *
  go_enter Try.func88, Try.ntmps88
  go_wp2
  go_region_held3 (fun X => X.cell? ⟨g, 0, none⟩ = some (.slice (some ⟨b, o, none⟩) n c) ∧ X.cell? ⟨b, o + x * 5, none⟩ = some (.bool p.e.u) ∧ X.cell? ⟨b, o + x * 5 + 1, none⟩ = some (.int .u64 p.e.i) ∧ X.cell? ⟨b, o + x * 5 + 2, none⟩ = some (.int .u64 p.e.b) ∧ X.cell? ⟨b, o + x * 5 + 3, none⟩ = some (.int .u64 p.e.f) ∧ X.cell? ⟨b, o + x * 5 + 4, none⟩ = some (.slice p.B nx p.c) ∧
      X.cell? ⟨b, o + y * 5, none⟩ = some (.bool p'.e.u) ∧ X.cell? ⟨b, o + y * 5 + 1, none⟩ = some (.int .u64 p'.e.i) ∧ X.cell? ⟨b, o + y * 5 + 2, none⟩ = some (.int .u64 p'.e.b) ∧ X.cell? ⟨b, o + y * 5 + 3, none⟩ = some (.int .u64 p'.e.f) ∧ X.cell? ⟨b, o + y * 5 + 4, none⟩ = some (.slice p'.B ny p'.c))
    ((refine HS.out _ ?_; repeat (first | exact Below.refl _ _ | refine below_drew ?_ | refine Below.alloc ?_ (by simp [World.setCell]; try omega) _ | refine Below.setCell ?_ (by simp [World.setCell]) _))) (fail)
  · have hT := two_cells w p.e.u p'.e.u p.e.i p'.e.i p.e.b p'.e.b p.e.f p'.e.f (.slice p.B nx p.c) (.slice p'.B ny p'.c)
    obtain ⟨V, hV⟩ : ∃ V, V = ((w.alloc (.cells #[.bool p.e.u, .int .u64 p.e.i, .int .u64 p.e.b, .int .u64 p.e.f, .slice p.B nx p.c] 45)).alloc (.cells #[.bool p'.e.u, .int .u64 p'.e.i, .int .u64 p'.e.b, .int .u64 p'.e.f, .slice p'.B ny p'.c] 45)).drew := ⟨_, rfl⟩
    rw [← hV] at hT
    rw [← hV]
    have HT := Lib.hid hT
    have HZ := Lib.hid hz
    clear hV hT HS hz
    go_wp2
    go_region_held3 (fun X => (X.cell? ⟨w.heap.size, 1, none⟩ = some (.int .u64 p.e.i) ∧ X.cell? ⟨w.heap.size, 2, none⟩ = some (.int .u64 p.e.b)) ∧ X.cell? ⟨w.heap.size + 1, 1, none⟩ = some (.int .u64 p'.e.i) ∧ X.cell? ⟨w.heap.size + 1, 2, none⟩ = some (.int .u64 p'.e.b))
      (first | assumption | exact HT.out.2.2.2 _ (below_drew (Below.refl _ _)) | exact HT.out.2.2.2 _ (Below.refl _ _) | (refine HT.out.2.2.2 _ ?_; repeat (first | exact Below.refl _ _ | refine below_drew ?_ | refine Below.alloc ?_ (by simp) _)))
      (first
      | (go_at_call 81; refine (cmpU_any _ _ _).mono ?_; rintro e w' ⟨rfl, rfl⟩)
      | (go_at_call 89; refine (cmpI_any _ _ _).mono ?_; rintro e w' ⟨rfl, rfl⟩)
      | (go_at_call 80; refine (cmpOr_any _ _ _ _ _ (cell_laid _ _ _ 0) (cell_laid _ _ _ 1) (cell_laid _ _ _ 2)).mono ?_; rintro e w' ⟨rfl, rfl⟩))
    go_wp2
    go_ret
    refine ⟨rfl, 2, grow_of (HT.out.1.trans (Below.mono (B := V.heap.size) ?_ HT.out.1.size)) 2 ?_⟩
    · repeat (first | exact Below.refl _ _ | refine below_drew ?_ | refine Below.alloc ?_ (by simp) _)
    · show V.drawn + 1 = w.drawn + 2
      have := HT.out.2.1
      omega
  · have hT := two_cells w p'.e.u p.e.u p'.e.i p.e.i p'.e.b p.e.b p'.e.f p.e.f (.slice p'.B ny p'.c) (.slice p.B nx p.c)
    obtain ⟨V, hV⟩ : ∃ V, V = ((w.alloc (.cells #[.bool p'.e.u, .int .u64 p'.e.i, .int .u64 p'.e.b, .int .u64 p'.e.f, .slice p'.B ny p'.c] 45)).alloc (.cells #[.bool p.e.u, .int .u64 p.e.i, .int .u64 p.e.b, .int .u64 p.e.f, .slice p.B nx p.c] 45)).drew := ⟨_, rfl⟩
    rw [← hV] at hT
    rw [← hV]
    have HT := Lib.hid hT
    have HZ := Lib.hid hz
    clear hV hT HS hz
    go_wp2
    go_region_held3 (fun X => (X.cell? ⟨w.heap.size, 1, none⟩ = some (.int .u64 p'.e.i) ∧ X.cell? ⟨w.heap.size, 2, none⟩ = some (.int .u64 p'.e.b)) ∧ X.cell? ⟨w.heap.size + 1, 1, none⟩ = some (.int .u64 p.e.i) ∧ X.cell? ⟨w.heap.size + 1, 2, none⟩ = some (.int .u64 p.e.b))
      (first | assumption | exact HT.out.2.2.2 _ (below_drew (Below.refl _ _)) | exact HT.out.2.2.2 _ (Below.refl _ _) | (refine HT.out.2.2.2 _ ?_; repeat (first | exact Below.refl _ _ | refine below_drew ?_ | refine Below.alloc ?_ (by simp) _)))
      (first
      | (go_at_call 81; refine (cmpU_any _ _ _).mono ?_; rintro e w' ⟨rfl, rfl⟩)
      | (go_at_call 89; refine (cmpI_any _ _ _).mono ?_; rintro e w' ⟨rfl, rfl⟩)
      | (go_at_call 80; refine (cmpOr_any _ _ _ _ _ (cell_laid _ _ _ 0) (cell_laid _ _ _ 1) (cell_laid _ _ _ 2)).mono ?_; rintro e w' ⟨rfl, rfl⟩))
    go_wp2
    go_ret
    refine ⟨rfl, 2, grow_of (HT.out.1.trans (Below.mono (B := V.heap.size) ?_ HT.out.1.size)) 2 ?_⟩
    · repeat (first | exact Below.refl _ _ | refine below_drew ?_ | refine Below.alloc ?_ (by simp) _)
    · show V.drawn + 1 = w.drawn + 2
      have := HT.out.2.1
      omega

end Go.Proofs.Ytdbcecmlakgknaa

namespace Go.Proofs.Ytdbcecmlakgknaa
open Go.RowKit Go.Shelf
set_option maxRecDepth 100000

def sortIren : Go.Shelf.Ren := ⟨fun | 6 => 87 | 15 => 120 | 14 => 119 | 28 => 142 | 29 => 143 | 20 => 134 | 21 => 135 | 22 => 136 | 23 => 137 | 24 => 138 | 25 => 139 | 26 => 140 | 27 => 141 | 46 => 149 | 47 => 150 | 48 => 151 | 49 => 152 | 50 => 153 | 57 => 154 | n => n, fun | 22 => 30 | 24 => 3 | 25 => 120 | 3 => 3 | 39 => 154 | 0 => 0 | 53 => 175 | 55 => 25 | 4 => 4 | 46 => 168 | 45 => 167 | 50 => 172 | 5 => 5 | 9 => 9 | 66 => 183 | 70 => 187 | 76 => 190 | 77 => 191 | n => n, fun | n => n⟩
set_option maxHeartbeats 1000000 in
theorem sortI : Go.Proofs.SlLaysF.n6 Try.prog sortIren := {
  mixed := by kernel_rfl,
  f6 := ⟨Try.f87.name, by decide, Try.func87.trans (congrArg some (by kernel_rfl))⟩,
  f14 := ⟨Try.f119.name, by decide, Try.func119.trans (congrArg some (by kernel_rfl))⟩,
  f15 := Try.func120.trans (congrArg some (by kernel_rfl)),
  f20 := ⟨Try.f134.name, by decide, Try.func134.trans (congrArg some (by kernel_rfl))⟩,
  f21 := ⟨Try.f135.name, by decide, Try.func135.trans (congrArg some (by kernel_rfl))⟩,
  f22 := ⟨Try.f136.name, by decide, Try.func136.trans (congrArg some (by kernel_rfl))⟩,
  f23 := ⟨Try.f137.name, by decide, Try.func137.trans (congrArg some (by kernel_rfl))⟩,
  f24 := ⟨Try.f138.name, by decide, Try.func138.trans (congrArg some (by kernel_rfl))⟩,
  f25 := ⟨Try.f139.name, by decide, Try.func139.trans (congrArg some (by kernel_rfl))⟩,
  f26 := ⟨Try.f140.name, by decide, Try.func140.trans (congrArg some (by kernel_rfl))⟩,
  f27 := ⟨Try.f141.name, by decide, Try.func141.trans (congrArg some (by kernel_rfl))⟩,
  f28 := Try.func142.trans (congrArg some (by kernel_rfl)),
  f29 := Try.func143.trans (congrArg some (by kernel_rfl)),
  f46 := ⟨Try.f149.name, by decide, Try.func149.trans (congrArg some (by kernel_rfl))⟩,
  f47 := Try.func150.trans (congrArg some (by kernel_rfl)),
  f48 := Try.func151.trans (congrArg some (by kernel_rfl)),
  f49 := ⟨Try.f152.name, by decide, Try.func152.trans (congrArg some (by kernel_rfl))⟩,
  f50 := ⟨Try.f153.name, by decide, Try.func153.trans (congrArg some (by kernel_rfl))⟩,
  f57 := ⟨Try.f154.name, by decide, Try.func154.trans (congrArg some (by kernel_rfl))⟩,
  t0 := Try.underlying0,
  a0 := Try.isAgg0,
  z0 := Try.sizeOf0,
  v0 := Try.zeroValue0,
  t3 := Try.underlying3,
  a3 := Try.isAgg3,
  z3 := Try.sizeOf3,
  v3 := Try.zeroValue3,
  t4 := Try.underlying4,
  a4 := Try.isAgg4,
  z4 := Try.sizeOf4,
  v4 := Try.zeroValue4,
  t5 := Try.underlying5,
  a5 := Try.isAgg5,
  z5 := Try.sizeOf5,
  v5 := Try.zeroValue5,
  t9 := Try.underlying9,
  a9 := Try.isAgg9,
  z9 := Try.sizeOf9,
  v9 := Try.zeroValue9,
  t22 := Try.underlying30,
  a22 := Try.isAgg30,
  z22 := Try.sizeOf30,
  v22 := Try.zeroValue30,
  a24 := Try.isAgg3,
  z24 := Try.sizeOf3,
  t25 := Try.underlying120,
  a25 := Try.isAgg120,
  z25 := Try.sizeOf120,
  v25 := Try.zeroValue120,
  t39 := Try.underlying154,
  a39 := Try.isAgg154,
  z39 := Try.sizeOf154,
  v39 := Try.zeroValue154,
  t45 := Try.underlying167,
  a45 := Try.isAgg167,
  z45 := Try.sizeOf167,
  v45 := Try.zeroValue167,
  t46 := Try.underlying168,
  a46 := Try.isAgg168,
  z46 := Try.sizeOf168,
  v46 := Try.zeroValue168,
  t50 := Try.underlying172,
  a50 := Try.isAgg172,
  z50 := Try.sizeOf172,
  v50 := Try.zeroValue172,
  t53 := Try.underlying175,
  a53 := Try.isAgg175,
  z53 := Try.sizeOf175,
  v53 := Try.zeroValue175,
  t55 := Try.underlying25,
  a55 := Try.isAgg25,
  z55 := Try.sizeOf25,
  v55 := Try.zeroValue25,
  t66 := Try.underlying183,
  a66 := Try.isAgg183,
  z66 := Try.sizeOf183,
  v66 := Try.zeroValue183,
  t70 := Try.underlying187,
  a70 := Try.isAgg187,
  z70 := Try.sizeOf187,
  v70 := Try.zeroValue187,
  t76 := Try.underlying190,
  a76 := Try.isAgg190,
  z76 := Try.sizeOf190,
  v76 := Try.zeroValue190,
  t77 := Try.underlying191,
  a77 := Try.isAgg191,
  z77 := Try.sizeOf191,
  v77 := Try.zeroValue191 }

end Go.Proofs.Ytdbcecmlakgknaa

namespace Go.Proofs.Ytdbcecmlakgknaa
open Go.RowKit Go.Shelf
set_option linter.unusedVariables false
set_option linter.unusedSimpArgs false
set_option maxRecDepth 100000

/-- The slot x stands ahead of the slot y, by rows. -/
def Ahd (l : List Ce) (x y : Nat) : Prop := (ceAt l x).i < (ceAt l y).i ∨ (ceAt l x).i = (ceAt l y).i ∧ ((ceAt l x).b < (ceAt l y).b ∨ (ceAt l x).b = (ceAt l y).b ∧ x < y)
instance (l : List Ce) (x y : Nat) : Decidable (Ahd l x y) := by unfold Ahd; infer_instance
theorem cf_neg (l : List Ce) (x y : Nat) : cfS l x y < 0 ↔ Ahd l x y := by
  unfold cfS or3 cmp3 Ahd
  by_cases h1 : (ceAt l x).i < (ceAt l y).i
  · simp [h1]
  · by_cases h2 : (ceAt l y).i < (ceAt l x).i
    · simp [h1, h2]; omega
    · have e : (ceAt l x).i = (ceAt l y).i := by omega
      by_cases h3 : (ceAt l x).b < (ceAt l y).b
      · simp [e, h3]
      · by_cases h4 : (ceAt l y).b < (ceAt l x).b
        · simp [e, h3, h4]; omega
        · have e2 : (ceAt l x).b = (ceAt l y).b := by omega
          by_cases h5 : x < y
          · simp [e, e2, h5]
          · by_cases h6 : y < x <;> simp [e, e2, h5, h6]
theorem ahd_irrefl (l : List Ce) (x : Nat) : ¬ Ahd l x x := by unfold Ahd; omega
theorem ahd_trans {l : List Ce} {x y z : Nat} (h : Ahd l x y) (k : Ahd l y z) : Ahd l x z := by unfold Ahd at *; omega
theorem ahd_tri {l : List Ce} {x y : Nat} (h : ¬ Ahd l x y) (k : ¬ Ahd l y x) : x = y := by unfold Ahd at *; omega
theorem ahd_asym {l : List Ce} {x y : Nat} (h : Ahd l x y) : ¬ Ahd l y x := by unfold Ahd at *; omega

/-- In order, each once. -/
def Srt (l : List Ce) (s : List Nat) : Prop := s.Pairwise (Ahd l)
theorem srt_eq {l : List Ce} {s s' : List Nat} (p : s.Perm s') (h : Srt l s) (h' : Srt l s') : s = s' :=
  List.Perm.eq_of_pairwise (le := Ahd l) (fun a b _ _ h1 h2 => absurd h2 (ahd_asym h1)) h h' p
def ordL (l : List Ce) (s : List Nat) : List Nat := s.mergeSort fun x y => !decide (cfS l y x < 0)
theorem ord_perm (l : List Ce) (s : List Nat) : (ordL l s).Perm s := List.mergeSort_perm _ _
theorem ord_srt (l : List Ce) {s : List Nat} (hn : s.Nodup) : Srt l (ordL l s) := by
  have h1 : (ordL l s).Pairwise (fun x y => (!decide (cfS l y x < 0)) = true) := by
    unfold ordL
    apply List.pairwise_mergeSort
    · intro a b c h1 h2
      simp only [Bool.not_eq_true', decide_eq_false_iff_not, cf_neg] at h1 h2 ⊢
      intro h3
      have := @ahd_tri l b a
      by_cases hab : Ahd l a b
      · exact h2 (ahd_trans h3 hab)
      · have := ahd_tri h1 hab
        subst this
        exact h2 h3
    · intro a b
      simp only [Bool.or_eq_true, Bool.not_eq_true', decide_eq_false_iff_not, cf_neg]
      by_cases h : Ahd l b a
      · exact .inr (ahd_asym h)
      · exact .inl h
  have h2 : (ordL l s).Nodup := (ord_perm l s).nodup_iff.2 hn
  refine (List.pairwise_and_iff.2 ⟨h1, h2⟩).imp fun {x y} h => ?_
  have h3 := h.1
  simp only [Bool.not_eq_true', decide_eq_false_iff_not, cf_neg] at h3
  by_cases h4 : Ahd l x y
  · exact h4
  · exact absurd (ahd_tri h4 h3) h.2
theorem ord_of {l : List Ce} {s r : List Nat} (p : r.Perm s) (h : Srt l r) (hn : s.Nodup) : ordL l s = r := srt_eq ((ord_perm l s).trans p.symm) (ord_srt l hn) h

def encF (x : Fin 96) : Value := .int .i64 (x.val : Int)
def cfF (l : List Ce) (x y : Fin 96) : Int := cfS l x.val y.val
theorem ltF (l : List Ce) (x y : Fin 96) : Go.Proofs.ltOf (cfF l) x y = decide (Ahd l x.val y.val) := by
  unfold Go.Proofs.ltOf cfF
  rw [Bool.eq_iff_iff]
  simp [cf_neg]
theorem swoF (l : List Ce) : Go.Sort.SWO (Go.Proofs.ltOf (cfF l)) where
  irrefl x := by rw [ltF]; simpa using ahd_irrefl l x.val
  trans x y z h1 h2 := by rw [ltF] at *; simp only [decide_eq_true_eq] at *; exact ahd_trans h1 h2
  ntrans x y z h1 h2 := by
    rw [ltF] at *
    simp only [decide_eq_false_iff_not] at *
    intro h3
    by_cases hyx : Ahd l y.val x.val
    · exact h2 (ahd_trans hyx h3)
    · have := ahd_tri h1 hyx
      rw [this] at h3
      exact h2 h3
theorem totF (l : List Ce) (x y : Fin 96) (h1 : Go.Proofs.ltOf (cfF l) x y = false) (h2 : Go.Proofs.ltOf (cfF l) y x = false) : x = y := by
  rw [ltF] at *
  simp only [decide_eq_false_iff_not] at *
  exact Fin.ext (ahd_tri h1 h2)
theorem merge_val (l : List Ce) (d : List (Fin 96)) : (d.mergeSort fun x y => !(Go.Proofs.ltOf (cfF l)) y x).map (fun x => x.val) = ordL l (d.map fun x => x.val) := by
  unfold ordL
  exact List.map_mergeSort (fun a _ b _ => by rw [ltF]; congr 1; rw [Bool.eq_iff_iff]; simp [cf_neg])

/-- Slots of the call's own. -/
def OwnS (base : Nat) (w : World) (A : Option Addr) (c : Nat) (s : List Nat) : Prop := w.ownsRow base 3 1 (.slice A s.length c) s.length (s.map fun (k : Nat) => Value.int .i64 (k : Int))
theorem OwnS.nil (base : Nat) (w : World) : OwnS base w none 0 [] := World.ownsRow_nil _ _ _ _
theorem OwnS.mono {base b : Nat} {w : World} {A : Option Addr} {c : Nat} {s : List Nat} (h : OwnS base w A c s) (hb : b ≤ base) : OwnS b w A c s := World.ownsRow.mono h hb
theorem OwnS.turn {base : Nat} {w w' : World} {A : Option Addr} {c : Nat} {s : List Nat} {S : Nat → Prop} (h : OwnS base w A c s) (ht : Turn S w w') (hS : ∀ i, base ≤ i → i < w.heap.size → ¬ S i) : OwnS base w' A c s :=
  row_turn h ht (fun i hi => hS i (World.ownsRow.lt h i hi).1 (World.ownsRow.lt h i hi).2)
theorem OwnS.below {base : Nat} {w w' : World} {A : Option Addr} {c : Nat} {s : List Nat} (h : OwnS base w A c s) (hb : Below w.heap.size w w') : OwnS base w' A c s := h.turn (Turn.of_below (S := fun _ => False) hb) (fun _ _ _ e => e)
theorem OwnS.vec {base : Nat} {w : World} {A : Option Addr} {c : Nat} {s : List Nat} (h : OwnS base w A c s) (hs : ∀ k ∈ s, k < 9223372036854775807) : Vec .i64 w A c (s.map fun (k : Nat) => (k : Int)) := by
  have h' : w.ownsRow base 3 1 (.slice A (s.map fun (k : Nat) => (k : Int)).length c) (s.map fun (k : Nat) => (k : Int)).length ((s.map fun (k : Nat) => (k : Int)).map (Value.int .i64)) := by
    rw [List.length_map, List.map_map]; exact h
  obtain ⟨A', c', e, hv⟩ := Vec.own (m := 0) h' (fun x hx => by
    obtain ⟨k, hk, rfl⟩ := List.mem_map.1 hx
    have := hs k hk
    simp [Lit.wf, IntKind.min, IntKind.max, IntKind.signed, IntKind.bits]; omega)
  injection e with e1 _ e2
  subst e1
  subst e2
  exact hv

/-- What the sort leaves: the row's cells, and nothing else turned. -/
theorem sort_turn (W : World) (g m : Nat) (d : Array (Fin 96)) (os : Array Obj) (hg : g < W.heap.size) : Turn (fun i => i = g) W (Go.Proofs.sortWorld encF W g 0 m d os) := by
  refine ⟨rfl, rfl, rfl, ?_, fun k hk hn => ?_⟩
  · unfold Go.Proofs.sortWorld
    rw [Go.Sort.size_grow, Go.Proofs.size_putRow]
    exact Nat.le_add_right _ _
  · unfold Go.Proofs.sortWorld
    rw [Go.Sort.heap_grow_old _ _ (by rw [Go.Proofs.size_putRow]; exact hk)]
    unfold Go.Sort.putRow Go.Sort.mapBlock
    simp only [Array.getElem?_modify]
    rw [if_neg (fun e => hn e.symm)]
    rfl
theorem sort_cells (W : World) (g m : Nat) (d : Array (Fin 96)) (os : Array Obj) (hg : g < W.heap.size) {cur : Array Value} {e : TypeId} (hc : W.heap[g]? = some (.cells cur e (0, 0))) : (Go.Proofs.sortWorld encF W g 0 m d os).heap[g]? = some (.cells (Go.Sort.putCells encF 0 d cur) e (0, 0)) := by
  unfold Go.Proofs.sortWorld
  rw [Go.Sort.heap_grow_old _ _ (by rw [Go.Proofs.size_putRow]; exact hg)]
  unfold Go.Sort.putRow Go.Sort.mapBlock
  simp only [Array.getElem?_modify, if_true]
  show (W.heap[g]?).map _ = _
  rw [hc]
  rfl
theorem put_take (d : Array (Fin 96)) (cur : Array Value) (h : d.size ≤ cur.size) : (Go.Sort.putCells encF 0 d cur).toList.take d.size = d.toList.map encF := by
  apply List.ext_getElem?
  intro k
  by_cases hk : k < d.size
  · rw [List.getElem?_take_of_lt hk, List.getElem?_map, Array.getElem?_toList, Array.getElem?_toList]
    unfold Go.Sort.putCells
    rw [Array.getElem?_mapIdx, Array.getElem?_eq_getElem (show k < cur.size by omega), Array.getElem?_eq_getElem hk]
    simp only [Option.map_some]
    rw [if_pos ⟨Nat.zero_le _, by omega⟩, Nat.sub_zero, getElem!_pos d k hk]
  · rw [List.getElem?_eq_none (by simp; omega), List.getElem?_eq_none (by simp; omega)]
theorem sort_own {base g c m : Nat} {W : World} {s : List Nat} (h : OwnS base W (some ⟨g, 0, none⟩) c s) (d : Array (Fin 96)) (hd : d.size = s.length) (os : Array Obj) : OwnS base (Go.Proofs.sortWorld encF W g 0 m d os) (some ⟨g, 0, none⟩) c (d.toList.map fun x => x.val) := by
  rcases h.2 with ⟨e, _⟩ | ⟨g', cap, cur, e, hg, hh, hnc, hcm, hsz, hcs⟩
  · injection e with e1; cases e1
  · injection e with e1 _ e3
    injection e1 with e1
    injection e1 with e1
    subst e1
    subst e3
    have hl : (d.toList.map fun x => x.val).length = s.length := by simp [hd]
    refine ⟨by simp, .inr ⟨g, c, _, by rw [hl], hg, sort_cells W g m d os (lt_of_block hh) hh, by rw [hl]; exact hnc, hcm, by simp [Go.Sort.putCells, hsz], ?_⟩⟩
    rw [hl, Nat.mul_one, ← hd, put_take d cur (by omega), List.map_map]
    rfl
theorem holdsF {base g c : Nat} {W : World} {s : List Nat} (h : OwnS base W (some ⟨g, 0, none⟩) c s) (d : Array (Fin 96)) (hd : d.toList.map (fun x => x.val) = s) : Go.Sort.Holds encF W g 0 d := by
  intro j hj
  have hl : s.length = d.size := by rw [← hd]; simp
  refine ⟨?_, World.ownsRow.frozenAt h _⟩
  have := World.ownsRow.cellAt h j (by rw [Nat.mul_one]; omega)
  rw [Nat.zero_add, this, ← hd]
  simp [encF, hj]

end Go.Proofs.Ytdbcecmlakgknaa

namespace Go.Proofs.Ytdbcecmlakgknaa
open Go.RowKit Go.Shelf
set_option linter.unusedVariables false
set_option linter.unusedSimpArgs false
set_option maxRecDepth 100000

def toF (s : List Nat) : Array (Fin 96) := (s.map fun (k : Nat) => Fin.ofNat 96 k).toArray
theorem toF_val {s : List Nat} (h : ∀ k ∈ s, k < 96) : (toF s).toList.map (fun x => x.val) = s := by
  unfold toF
  rw [List.map_map]
  conv => rhs; rw [← List.map_id s]
  refine List.map_congr_left fun k hk => ?_
  exact Nat.mod_eq_of_lt (h k hk)
theorem toF_size (s : List Nat) : (toF s).size = s.length := by simp [toF]

theorem sortS_any {base : Nat} {W W0 : World} {A : Option Addr} {c c0 g : Nat} {A0 : Option Addr} {q : List Pa} {s : List Nat} (ho : OwnS base W A c s) (hs : ∀ k ∈ s, k < 96) (hls : s.length ≤ 96) (h : Are W0 A0 c0 q) (hq : q.length = 96) (hb : Below W0.heap.size W0 W) (hB : W0.heap.size ≤ base)
    (hg : W.cell? ⟨g, 0, none⟩ = some (.slice A0 q.length c0)) (hgb : g < base) :
    Calls Try.prog 87 #[.slice A s.length c, .func (.func 88) #[] #[.pointer (some ⟨g, 0, none⟩)]] W fun e w' => e = .returned (.tuple #[]) ∧ OwnS base w' A c (ordL (ces q) s) ∧ Turn (fun i => blk A = some i) W w' := by
  by_cases h0 : s = []
  · subst h0
    have hcon := Go.Proofs.AnyF.slices_SortFunc_none (P := Try.prog) (ρ := sortIren) { sortI with } A c (.func (.func 88) #[] #[.pointer (some ⟨g, 0, none⟩)]) W
    refine Calls.mono hcon ?_
    rintro e w' ⟨rfl, rfl⟩
    exact ⟨rfl, by unfold ordL; simpa using ho, Turn.refl _ _⟩
  · obtain ⟨g1, rfl, hg1, hg2⟩ : ∃ g1, A = some ⟨g1, 0, none⟩ ∧ base ≤ g1 ∧ g1 < W.heap.size := by
      rcases ho.2 with ⟨e, hn⟩ | ⟨g1, cap, cur, e, hg, hh, _⟩
      · exact absurd (List.eq_nil_of_length_eq_zero hn) h0
      · injection e with e1; exact ⟨g1, e1, hg, lt_of_block hh⟩
    have hcmp : Go.Proofs.CmpLays1 Try.prog 88 #[.pointer (some ⟨g, 0, none⟩)] encF (cfF (ces q)) g1 0 (toF s).size W := by
      intro m os dk hdk x y
      have ht := sort_turn W g1 m dk os hg2
      have hb2 : Below W0.heap.size W0 (Go.Proofs.sortWorld encF W g1 0 m dk os) := hb.trans (ht.below hb.size (fun i hi => by omega))
      have hg3 : (Go.Proofs.sortWorld encF W g1 0 m dk os).cell? ⟨g, 0, none⟩ = some (.slice A0 q.length c0) :=
        (World.cell?_of_block (a := ⟨g, 0, none⟩) (ht.block g (World.block_lt_of_cell? W _ hg) (by omega))).trans hg
      exact ord1_any A0 c0 q g x.val y.val _ (h.below hb2) hg3 (by rw [hq]; exact x.isLt) (by rw [hq]; exact y.isLt)
    have hv := toF_val hs
    have hz := toF_size s
    have hcon := Go.Proofs.Any.slices_SortFunc_total (P := Try.prog) (ρ := sortIren) sortI encF (fun _ => rfl) (cfF (ces q)) (swoF (ces q)) 88 #[.pointer (some ⟨g, 0, none⟩)] g1 0 c (toF s) W
      (fun args w => enters_of Try.func88 (by kernel_rfl) rfl args w) hcmp (holdsF ho (toF s) hv) hg2 (by omega) (totF (ces q))
    rw [hz] at hcon
    refine Calls.mono hcon ?_
    rintro e w' ⟨rfl, n, os, rfl⟩
    refine ⟨rfl, ?_, (sort_turn W g1 n _ os hg2).mono (fun i hi => by subst hi; rfl)⟩
    have hm := merge_val (ces q) (toF s).toList
    have hl : (ordL (ces q) s).length = s.length := (ord_perm _ _).length_eq
    have hd : ((toF s).toList.mergeSort fun x y => !(Go.Proofs.ltOf (cfF (ces q))) y x).toArray.size = s.length := by
      rw [List.size_toArray, (List.mergeSort_perm _ _).length_eq, Array.length_toList, hz]
    have := sort_own (m := n) ho ((toF s).toList.mergeSort fun x y => !(Go.Proofs.ltOf (cfF (ces q))) y x).toArray hd os
    rw [hm, hv] at this
    exact this

end Go.Proofs.Ytdbcecmlakgknaa

namespace Go.Proofs.Ytdbcecmlakgknaa
open Go.RowKit Go.Shelf
set_option linter.unusedVariables false
set_option linter.unusedSimpArgs false
set_option maxRecDepth 100000
attribute [local go_sem] Oper.semAt_some

/-- The slots of the used cells of which P holds. -/
def pickL (l : List Ce) (P : Ce → Bool) : List Nat := (List.range l.length).filter fun k => (ceAt l k).u && P (ceAt l k)
theorem pick_sel (q : List Pa) (P : Ce → Bool) : ∀ k, k ≤ q.length → ((selU q k).filter fun x => P x.2.e).map (fun x => x.1) = (List.range k).filter fun j => (ceAt (ces q) j).u && P (ceAt (ces q) j) := by
  intro k
  induction k with
  | zero => intro _; simp [selU]
  | succ k ih =>
    intro hk
    obtain ⟨p, hp⟩ : ∃ p, q[k]? = some p := ⟨_, List.getElem?_eq_getElem (by omega)⟩
    have hc := ces_ceAt hp
    rw [List.range_succ, List.filter_append, ← ih (by omega)]
    cases h : p.e.u
    · rw [sel_no hp h]; simp [hc, h]
    · rw [sel_yes hp h, List.filter_append, List.map_append]
      congr 1
      cases h2 : P p.e <;> simp [hc, h, h2]
theorem pick_all (q : List Pa) (P : Ce → Bool) : ((selU q q.length).filter fun x => P x.2.e).map (fun x => x.1) = pickL (ces q) P := by
  unfold pickL
  rw [pick_sel q P _ (Nat.le_refl _), ces_length]
theorem pick_nodup (l : List Ce) (P : Ce → Bool) : (pickL l P).Nodup := List.Pairwise.filter _ List.nodup_range
theorem pick_lt (l : List Ce) (P : Ce → Bool) : ∀ k ∈ pickL l P, k < l.length := by
  intro k hk
  unfold pickL at hk
  exact List.mem_range.1 (List.mem_filter.1 hk).1
theorem pick_le (l : List Ce) (P : Ce → Bool) : (pickL l P).length ≤ l.length := by
  unfold pickL
  exact Nat.le_trans (List.length_filter_le _ _) (by simp)
/-- The slots of the used cells of which P holds, by rows. -/
def ordS (l : List Ce) (P : Ce → Bool) : List Nat := ordL l (pickL l P)
theorem ordS_lt (l : List Ce) (P : Ce → Bool) : ∀ k ∈ ordS l P, k < l.length := fun k hk => pick_lt l P k ((ord_perm _ _).mem_iff.1 hk)
theorem ordS_le (l : List Ce) (P : Ce → Bool) : (ordS l P).length ≤ l.length := by
  rw [show (ordS l P).length = (pickL l P).length from (ord_perm _ _).length_eq]; exact pick_le l P

/-- A call that answers slots of the call's own. -/
def GivesS (w : World) (s : List Nat) (e : Ending) (w' : World) : Prop := ∃ A c, e = .returned (.slice A s.length c) ∧ OwnS w.heap.size w' A c s ∧ Below w.heap.size w w'

/-- What is picked so far. -/
def PkI (w : World) (P : Ce → Bool) (W0 : World) (pre : List (Nat × Pa)) (W : World) : Prop := ∃ A c s, Boxed W (w.heap.size + 2) 30 (.slice A (List.length s) c) ∧ s = (pre.filter fun x => P x.2.e).map (fun x => x.1) ∧ OwnS (w.heap.size + 6) W A c s ∧ Turn (fun i => i = w.heap.size + 2) W0 W
theorem PkI.below {w W0 W W' : World} {P : Ce → Bool} {pre : List (Nat × Pa)} (h : PkI w P W0 pre W) (hb : Below W.heap.size W W') : PkI w P W0 pre W' := by
  obtain ⟨A, c, s, h1, h2, h3, h4⟩ := h
  exact ⟨A, c, s, (hb.block _ h1.lt).trans h1, h2, h3.below hb, h4.trans (Turn.of_below (S := fun _ => False) hb) (by simp)⟩
theorem PkI.put {w W0 W : World} {P : Ce → Bool} {pre : List (Nat × Pa)} (h : PkI w P W0 pre W) {k : Nat} {o : Obj} (o' : Obj) (hk0 : W0.heap.size ≤ k) (hk : W.heap[k]? = some o) (ho : o.isCells = false) : PkI w P W0 pre (W.putObj k o') := by
  obtain ⟨A, c, s, h1, h2, h3, h4⟩ := h
  exact ⟨A, c, s, put_other hk ho h1 rfl, h2, row_put h3 o' hk ho, h4.trans (turn_put _ _ _) (fun i hi => .inr (by omega))⟩

theorem slots_box {w w4 : World} {A1 : Option Addr} {c1 : Nat} {s : List Nat} {k : Nat} (ho : w4.ownsRow (w.heap.size + 6) 3 1 (.slice A1 (s.length + 1) c1) (s.length + 1) ((s.map fun (k : Nat) => Value.int .i64 (k : Int)) ++ [.int .i64 (k : Int)])) : OwnS (w.heap.size + 6) w4 A1 c1 (s ++ [k]) := by
  unfold OwnS
  rw [List.length_append, List.map_append]
  exact ho

/-- One more slot is picked: all that the round leaves. -/
theorem pk_step {w W0 W W3 w4 : World} {P : Ce → Bool} {pre : List (Nat × Pa)} {k : Nat} {p : Pa} {A0 A1 : Option Addr} {c0 c1 : Nat} {s : List Nat} (h1 : Boxed W (w.heap.size + 2) 30 (.slice A0 s.length c0)) (h2 : s = (pre.filter fun x => P x.2.e).map (fun x => x.1)) (h3 : OwnS (w.heap.size + 6) W A0 c0 s) (h4 : Turn (fun i => i = w.heap.size + 2) W0 W) (hz : W0.heap.size = w.heap.size + 4) (hP : P p.e = true)
    (hb : Below W.heap.size W W3) (ho : w4.ownsRow (w.heap.size + 6) 3 1 (.slice A1 (s.length + 1) c1) (s.length + 1) ((s.map fun (k : Nat) => Value.int .i64 (k : Int)) ++ [.int .i64 (k : Int)])) (hg : W3.grownBy w4 (blk A0)) :
    w4.cell? ⟨w.heap.size + 2, 0, none⟩ = some (.slice A0 s.length c0) ∧ w4.frozen? ⟨w.heap.size + 2, 0, none⟩ = false ∧
    (KeepsFrom W0.heap.size W (w4.setCell ⟨w.heap.size + 2, 0, none⟩ (.slice A1 (s.length + 1) c1)) ∧ KpD (w.heap.size + 2) (W0.heap.size + 2) W (w4.setCell ⟨w.heap.size + 2, 0, none⟩ (.slice A1 (s.length + 1) c1)) ∧ PkI w P W0 (pre ++ [(k, p)]) (w4.setCell ⟨w.heap.size + 2, 0, none⟩ (.slice A1 (s.length + 1) c1))) := by
  have hA : ∀ i, blk A0 = some i → w.heap.size + 6 ≤ i ∧ i < W.heap.size := fun i hi => World.ownsRow.lt h3 i (by rw [own_blk]; exact hi)
  have h1l := h1.lt
  have t4 : Turn (fun i => blk A0 = some i) W3 w4 := Turn.of_grown hg (fun i hi => .inl hi)
  have tW : Turn (fun i => blk A0 = some i) W w4 := (Turn.of_below (S := fun i => blk A0 = some i) hb).trans t4 (fun i hi => .inl hi)
  have hd4 : Boxed w4 (w.heap.size + 2) 30 (.slice A0 s.length c0) := (tW.block _ h1l (fun e => by have := hA _ e; omega)).trans h1
  have t5 := turn_set w4 (w.heap.size + 2) 0 (.slice A1 (s.length + 1) c1)
  have tt : Turn (fun i => blk A0 = some i ∨ i = w.heap.size + 2) W (w4.setCell ⟨w.heap.size + 2, 0, none⟩ (.slice A1 (s.length + 1) c1)) :=
    (tW.mono (S' := fun i => blk A0 = some i ∨ i = w.heap.size + 2) (fun i hi => .inl hi)).trans t5 (fun i hi => .inl (.inr hi))
  refine ⟨hd4.cell, hd4.frozen, keeps_turn tt ?_, kpd_turn tt ?_, A1, c1, s ++ [k], ?_, ?_, ?_, ?_⟩
  · rintro i (hi | rfl)
    · rcases h3.2 with ⟨e, _⟩ | ⟨g', cap, cur, e, _, hh, _⟩
      · injection e with e1; rw [e1] at hi; cases hi
      · injection e with e1
        rw [e1] at hi
        have : g' = i := by simpa [blk] using hi
        subst this
        exact ⟨_, hh, rfl⟩
    · exact ⟨_, h1, rfl⟩
  · rintro i (hi | rfl)
    · exact .inr (by have := hA i hi; omega)
    · exact .inl rfl
  · rw [List.length_append]; exact hd4.set _
  · rw [h2, List.filter_append, List.map_append]; simp [hP]
  · exact (slots_box ho).turn t5 (fun i hi _ e => by omega)
  · refine h4.trans tt ?_
    rintro i (hi | rfl)
    · exact .inr (by have := hA i hi; omega)
    · exact .inl rfl

set_option maxHeartbeats 4000000 in
theorem ordered_any (A : Option Addr) (c : Nat) (q : List Pa) (fid : FuncId) (cap : Array Value) (P : Ce → Bool) (w : World) (h : Are w A c q) (hq : q.length = 96)
    (hen : ∀ v W, (callFunc fid (#[v] ++ cap)).run Try.prog W = .ok (.enter fid (#[v] ++ cap)) W) (hp : PredC fid cap P w) :
    Calls Try.prog 49 #[.agg #[.slice A q.length c], .func (.func fid) #[] cap] w (GivesS w (ordS (ces q) P)) := by
  refine (callsIn_wide (n := 3)).1 ?_
  refine callsIn_of_wp_marks Try.func49 rfl trivial ?_ rfl
  simp only [Try.ntmps49, List.size_toArray, List.length_cons, List.length_nil, Nat.reduceAdd, Nat.reduceSub, Array.replicate_succ, Array.replicate_zero, List.push_toArray, List.append_toArray, List.nil_append, List.cons_append]
  obtain ⟨m, hm⟩ : ∃ m, m = q.length := ⟨_, rfl⟩
  rw [← hm]
  obtain ⟨W0, hW0⟩ : ∃ W0, W0 = (((w.alloc (.cells #[.slice A m c] 24)).alloc (.cells #[.func (.func fid) #[] cap] 89)).alloc (.cells #[.slice none 0 0] 30)).alloc (.cells #[.slice A m c] 22) := ⟨_, rfl⟩
  have hz0 : W0.heap.size = w.heap.size + 4 := by rw [hW0]; simp
  have hb0 : Below w.heap.size w W0 := by rw [hW0]; exact ((((Below.refl _ w).alloc (Nat.le_refl _) _).alloc (by simp) _).alloc (by simp; omega) _).alloc (by simp; omega) _
  have x0 : Boxed W0 w.heap.size 24 (.slice A m c) := by rw [hW0]; exact (((Boxed.new w _ _).alloc _).alloc _).alloc _
  have x1 : Boxed W0 (w.heap.size + 1) 89 (.func (.func fid) #[] cap) := by
    rw [hW0]
    have h := ((Boxed.new (w.alloc (.cells #[.slice A m c] 24)) 89 (.func (.func fid) #[] cap)).alloc (.cells #[.slice none 0 0] 30)).alloc (.cells #[.slice A m c] 22)
    rw [World.size_alloc] at h; exact h
  have x2 : Boxed W0 (w.heap.size + 2) 30 (.slice none 0 0) := by
    rw [hW0]
    have h := (Boxed.new ((w.alloc (.cells #[.slice A m c] 24)).alloc (.cells #[.func (.func fid) #[] cap] 89)) 30 (.slice none 0 0)).alloc (.cells #[.slice A m c] 22)
    rw [World.size_alloc, World.size_alloc] at h; exact h
  have x3 : Boxed W0 (w.heap.size + 3) 22 (.slice A m c) := by
    rw [hW0]
    have h := Boxed.new (((w.alloc (.cells #[.slice A m c] 24)).alloc (.cells #[.func (.func fid) #[] cap] 89)).alloc (.cells #[.slice none 0 0] 30)) 22 (.slice A m c)
    rw [World.size_alloc, World.size_alloc, World.size_alloc] at h; exact h
  have hseq := used1_in (w := W0) (w0 := w) (A := A) (c := c) (q := q) 2 (w.heap.size + 2) (w.heap.size + 3) (by omega) (by rw [← hm]; exact x3.cell) h hb0 (by omega)
  have HM := Lib.hid hm
  have HZ0 := Lib.hid hz0
  have HX := Lib.hid (And.intro x0 (And.intro x1 (And.intro x2 hb0)))
  have HSeq := Lib.hid hseq
  have HQ := Lib.hid h
  have HQl := Lib.hid hq
  have HP := Lib.hid hp
  have HW0 := Lib.hid hW0
  clear h hq hm hz0 hb0 x0 x1 x2 x3 hseq hp hW0
  gi_wp2_with (refine ⟨trivial, ?_⟩; gi_at_call 56; refine (callsIn_wide.2 (used_any _ _ _ _)).mono ?_; rintro e w' ⟨rfl, rfl⟩)
  simp only [Nat.add_assoc, Nat.reduceAdd]
  rw [← HW0.out]
  obtain ⟨x0, x1, x2, hb0⟩ := HX.out
  refine range_box2 rfl (by omega) (gf := 93) (lb := #[.pointer (some ⟨w.heap.size + 3, 0, none⟩)]) rfl trivial (enters_of Try.func93 (by kernel_rfl) rfl) HSeq.out
    (fun W k h => h.elim) KpD.trans (fun B W k o o' _ hk ho => KpD.put hk ho) (fun _ => rfl) (fun x => .cells #[.bool x.2.e.u, .int .u64 x.2.e.i, .int .u64 x.2.e.b, .int .u64 x.2.e.f, .slice x.2.B x.2.e.x.length x.2.c] 45) (fun _ => rfl) (fun B W o => ⟨((Below.refl _ W).alloc (Nat.le_refl _) o).size, fun i o2 _ _ hi _ => (Below.heap_alloc W o i (lt_of_block hi)).trans hi⟩) (fun _ _ _ _ _ => trivial) (fun _ _ _ _ _ _ _ _ _ => trivial)
    (PkI w P W0) (fun _ _ _ => False) ?io ?ixo ?ip ?ixp ?h0
    (fun x gb => { tmps := #[.agg #[.slice A m c], .func (.func fid) #[] cap, .pointer (some ⟨w.heap.size, 0, none⟩), .pointer (some ⟨w.heap.size + 1, 0, none⟩), .slice none 0 0, .pointer (some ⟨w.heap.size + 2, 0, none⟩), .int .i64 x.1, .pointer (some ⟨gb, 0, none⟩), .pointer (some ⟨w.heap.size, 0, none⟩), .slice A m c, .func (.func 93) #[] #[.pointer (some ⟨w.heap.size + 3, 0, none⟩)], .int .i64 x.1, .agg #[.bool x.2.e.u, .int .u64 x.2.e.i, .int .u64 x.2.e.b, .int .u64 x.2.e.f, .slice x.2.B x.2.e.x.length x.2.c], undef, undef, undef, undef, undef, undef, undef, undef, undef, undef, undef], defers := [] }) ?assign ?body ?done ?stop
  case io => exact fun s X Y h ht => h.below (Turn.below ht (Nat.le_refl _) (fun i e => e.2.elim))
  case ixo => exact fun _ _ _ _ h _ => h
  case ip => exact fun s X k o o' h hk ho hc => h.put o' hk ho hc
  case ixp => exact fun _ _ _ _ _ _ h _ _ _ => h
  case h0 =>
    intro W hb _
    exact PkI.below (W := W0) ⟨none, 0, [], x2, rfl, OwnS.nil _ _, Turn.refl _ _⟩ hb
  case assign =>
    intro l x W K hK
    dsimp only [encC]
    gi_wp2
    exact hK
  case body =>
    rintro l pre ⟨k, p⟩ gb W V o o' hI hzg hWV hlo hoc hsz hgg hg _ ⟨hk, hPu, hpre⟩
    dsimp only at hk hPu hpre hWV hlo hg ⊢
    have hkl : k < q.length := (List.getElem?_eq_some_iff.1 hk).1
    have hpm := List.mem_of_getElem? hk
    have hb1 : Below V.heap.size V (V.alloc (.cells #[.bool p.e.u, .int .u64 p.e.i, .int .u64 p.e.b, .int .u64 p.e.f, .slice p.B p.e.x.length p.c] 45)) := cel_alloc _ _ _ _ _ _ _ _
    have hIW : PkI w P W0 pre W := by rw [hWV]; exact (hI.below hb1).put o' (by omega) hlo hoc
    obtain ⟨A0, c0, s, h1, h2, h3, h4⟩ := hIW
    have hz0 := HZ0.out
    have x1W : Boxed W (w.heap.size + 1) 89 (.func (.func fid) #[] cap) := (h4.block _ x1.lt (by omega)).trans x1
    have hbw : Below w.heap.size w W := hb0.trans (h4.below hb0.size (fun i hi => by omega))
    have hsl : s.length ≤ 96 := by
      have e1 : s.length ≤ pre.length := by rw [h2, List.length_map]; exact List.length_filter_le _ _
      have e2 := sel_len q k
      rw [← hpre] at e2
      have e3 := HQl.out
      omega
    have HC := Lib.hid (HP.out p W hbw ((HQ.out.el p hpm).below hbw) (HQ.out.fit p hpm))
    have hWs : w.heap.size + 6 ≤ W.heap.size := by omega
    have b0 := (cell_of_row _ _ 0 _ _ _ hg).trans rfl
    have b1 := (cell_of_row _ _ 1 _ _ _ hg).trans rfl
    have b2 := (cell_of_row _ _ 2 _ _ _ hg).trans rfl
    have b3 := (cell_of_row _ _ 3 _ _ _ hg).trans rfl
    have b4 := (cell_of_row _ _ 4 _ _ _ hg).trans rfl
    have cf := x1W.cell
    have HI := Lib.hid (And.intro h1 (And.intro h2 (And.intro h3 h4)))
    have HSL := Lib.hid hsl
    have HWS := Lib.hid hWs
    clear hI hzg hWV hlo hoc hsz hgg hg hk hPu hpre hkl hpm hb1 h1 h2 h3 h4 hz0 x1W hbw hsl hWs
    cases hP : P p.e with
    | false =>
      rw [hP] at HC
      have HN := Lib.hid hP
      clear hP
      gi_wp2_with (refine ⟨trivial, (callsIn_wide.2 HC.out).mono ?_⟩; rintro e w1 ⟨rfl, hb1⟩; have HX1 := Lib.hid (show KeepsFrom W0.heap.size W w1 ∧ KpD (w.heap.size + 2) (W0.heap.size + 2) W w1 ∧ PkI w P W0 (pre ++ [(k, p)]) w1 from by
        obtain ⟨h1, h2, h3, h4⟩ := HI.out
        have hI2 : PkI w P W0 pre w1 := PkI.below ⟨A0, c0, s, h1, h2, h3, h4⟩ hb1
        obtain ⟨A0', c0', s', k1, k2, k3, k4⟩ := hI2
        exact ⟨keeps_turn (Turn.of_below (S := fun _ => False) hb1) (fun _ e => e.elim), KpD.below hb1, A0', c0', s', k1, by rw [k2, List.filter_append]; simp [HN.out], k3, k4⟩); clear hb1)
      exact HX1.out
    | true =>
      rw [hP] at HC
      have HSt := Lib.hid (fun (A1 : Option Addr) (c1 : Nat) (W3 w4 : World) (hb : Below W.heap.size W W3) (ho : w4.ownsRow (w.heap.size + 6) 3 1 (.slice A1 (s.length + 1) c1) (s.length + 1) ((s.map fun (k : Nat) => Value.int .i64 (k : Int)) ++ [.int .i64 (k : Int)])) (hg : W3.grownBy w4 (blk A0)) => pk_step (P := P) HI.out.1 HI.out.2.1 HI.out.2.2.1 HI.out.2.2.2 HZ0.out hP hb ho hg)
      have HOw := Lib.hid (fun (X : World) (hX : Below W.heap.size W X) => show X.ownsRow (w.heap.size + 6) 3 1 (.slice A0 s.length c0) s.length (s.map fun (k : Nat) => Value.int .i64 (k : Int)) from HI.out.2.2.1.below hX)
      clear hP
      generalize hsn : s.length = sn at *
      have HSN := Lib.hid hsn
      clear hsn
      gi_wp2_with (first
        | (refine ⟨trivial, (callsIn_wide.2 HC.out).mono ?_⟩; rintro e w1 ⟨rfl, hb1⟩; have c2 : w1.cell? ⟨w.heap.size + 2, 0, none⟩ = some (.slice A0 sn c0) := (hb1.cell (p := ⟨w.heap.size + 2, 0, none⟩) HI.out.1.lt).trans HI.out.1.cell; have HB1 := Lib.hid hb1; clear hb1)
        | (gi_at_builtin; have HB3 := Lib.hid (HB1.out.alloc HB1.out.size (.cells #[.int .i64 (k : Int)] 3)); refine gapp_in rfl (.tmp 16) (.tmp 18) appN rfl (w.heap.size + 6) A0 c0 sn (s.map fun (k : Nat) => Value.int .i64 (k : Int)) rfl (HOw.out _ HB3.out) (some ⟨w1.heap.size, 0, none⟩) 1 1 [.int .i64 (k : Int)] rfl (Read.int (cell_laid _ _ _ 0)) (by have := HSL.out; omega) (Nat.le_trans HWS.out HB3.out.size) ?_; intro A5 c5 w4 ho5 hg5 _; obtain ⟨v4, f4, hX4⟩ := HSt.out A5 c5 _ w4 HB3.out ho5 hg5; have HX4 := Lib.hid hX4; clear ho5 hg5 hX4))
      exact HX4.out
  case done =>
    rintro xs W rfl ⟨A0, c0, s, h1, h2, h3, h4⟩ hK
    rw [pick_all] at h2
    have hz0 := HZ0.out
    have hq := HQl.out
    have hbw : Below w.heap.size w W := hb0.trans (h4.below hb0.size (fun i hi => by omega))
    have x0W : Boxed W w.heap.size 24 (.slice A m c) := (h4.block _ x0.lt (by omega)).trans x0
    have hls : s.length ≤ 96 := by rw [h2]; have := pick_le (ces q) P; rw [ces_length] at this; omega
    have hs : ∀ k ∈ s, k < 96 := by rw [h2]; intro k hk; have := pick_lt (ces q) P k hk; rw [ces_length] at this; omega
    have hS := sortS_any (g := w.heap.size) h3 hs hls HQ.out hq hbw (by omega) (by rw [← HM.out]; exact x0W.cell) (by omega)
    have ho : ordL (ces q) s = ordS (ces q) P := by rw [h2]; rfl
    have hl : (ordS (ces q) P).length = s.length := by rw [← ho]; exact (ord_perm _ _).length_eq
    rw [ho] at hS
    have hA : ∀ i, blk A0 = some i → w.heap.size + 6 ≤ i := fun i hi => (World.ownsRow.lt h3 i (by rw [own_blk]; exact hi)).1
    have hlt := h1.lt
    have HF := Lib.hid (fun (w' : World) (k1 : OwnS (w.heap.size + 6) w' A0 c0 (ordS (ces q) P)) (k2 : Turn (fun i => blk A0 = some i) W w') => show w'.cell? ⟨w.heap.size + 2, 0, none⟩ = some (.slice A0 s.length c0) ∧ w'.heap[W0.heap.size]? = some (.deferred (some [])) ∧ OwnS w.heap.size (w'.putObj W0.heap.size (.deferred none)) A0 c0 (ordS (ces q) P) ∧ Below w.heap.size w (w'.putObj W0.heap.size (.deferred none)) from by
      have e1 : w'.heap[W0.heap.size]? = some (.deferred (some [])) := (k2.block _ (lt_of_block hK) (fun e => by have := hA _ e; omega)).trans hK
      have e2 : Below w.heap.size w w' := hbw.trans (k2.below hbw.size (fun i hi => by have := hA i hi; omega))
      exact ⟨(Boxed.cell ((k2.block _ hlt (fun e => by have := hA _ e; omega)).trans h1)), e1, (row_put (World.ownsRow.mono k1 (by omega)) _ e1 rfl), e2.trans ((turn_put _ _ _).below e2.size (fun i hi => by omega))⟩)
    have c2 := h1.cell
    have HSo := Lib.hid hS
    generalize hsn : s.length = sn at *
    have HL := Lib.hid hl
    clear h1 h2 h3 h4 hK hz0 hq hbw x0W hls hs hS ho hl hA hlt hsn
    gi_wp2_with (refine ⟨trivial, ?_⟩; gi_at_call 87; refine (callsIn_wide.2 HSo.out).mono ?_; rintro e w' ⟨rfl, k1, k2⟩; obtain ⟨d2, hd, hO, hB⟩ := HF.out w' k1 k2; have HD := Lib.hid (And.intro hd (And.intro hO hB)); clear k1 k2 hd hO hB)
    refine ⟨by simp, .inl ⟨_, _, rfl, run_takeDeferred HD.out.1, ?_⟩⟩
    refine ⟨_, results_tmp rfl _ _ _, A0, c0, ?_, HD.out.2.1, HD.out.2.2⟩
    rw [HL.out]; rfl
  case stop =>
    rintro c pre W _ h _
    exact h.elim

end Go.Proofs.Ytdbcecmlakgknaa

namespace Go.Proofs.Ytdbcecmlakgknaa
open Go.RowKit Go.Shelf
set_option linter.unusedVariables false
set_option linter.unusedSimpArgs false
set_option maxRecDepth 100000

def ofA (l : List Ce) (id : Int) : List Nat := if arB l = true then ordS l (fun e => decide (e.i = id)) else []
def rowsS (l : List Ce) : List Nat := ordS l (fun _ => true)
def rowsA (l : List Ce) : List Ce := if arB l = true then (rowsS l).map (ceAt l) else []
/-- A call that answers slots of the call's own, and an error. -/
def GivesSE (w : World) (s : List Nat) (er : Int) (e : Ending) (w' : World) : Prop := ∃ A c, e = .returned (.tuple #[.slice A s.length c, .int .i64 er]) ∧ OwnS w.heap.size w' A c s ∧ Below w.heap.size w w'
/-- A call that answers cells of the call's own, and an error. -/
def GivesCE (w : World) (l : List Ce) (er : Int) (e : Ending) (w' : World) : Prop := ∃ A c q, e = .returned (.tuple #[.slice A (List.length q) c, .int .i64 er]) ∧ ces q = l ∧ OwnA w.heap.size w' A c q ∧ Below w.heap.size w w'

set_option maxHeartbeats 1000000 in
theorem of_any9 (A : Option Addr) (c : Nat) (q : List Pa) (id : Int) (w : World) (h : Are w A c q) :
    Calls Try.prog 13 #[.agg #[.slice A q.length c], .int .u64 id] w (GivesSE w (ofA (ces q) id) (chkA (ces q))) := by
  obtain ⟨W0, hW0⟩ : ∃ W0, W0 = (w.alloc (.cells #[.slice A q.length c] 24)).alloc (.cells #[.int .u64 id] 25) := ⟨_, rfl⟩
  have hb0 : Below w.heap.size w W0 := by rw [hW0]; exact ((Below.refl _ w).alloc (Nat.le_refl _) _).alloc (by simp) _
  have hz0 : W0.heap.size = w.heap.size + 2 := by rw [hW0]; simp
  have x0 : Boxed W0 w.heap.size 24 (.slice A q.length c) := by rw [hW0]; exact (Boxed.new w _ _).alloc _
  have x1 : Boxed W0 (w.heap.size + 1) 25 (.int .u64 id) := by
    rw [hW0]
    have h := Boxed.new (w.alloc (.cells #[.slice A q.length c] 24)) 25 (.int .u64 id)
    rw [World.size_alloc] at h; exact h
  have HC := Lib.hid (checkA_any A c q W0 (h.below hb0))
  have HB := Lib.hid hb0
  have HW := Lib.hid hW0
  cases hr : arB (ces q) with
  | false =>
    have HF := Lib.hid (show ofA (ces q) id = [] by unfold ofA; rw [hr]; rfl)
    have HE := Lib.hid (chkA_no hr)
    generalize ofA (ces q) id = s at *
    generalize chkA (ces q) = E at *
    generalize q.length = n at *
    clear h hW0 hb0 hz0 x0 x1 hr
    go_enter Try.func13, Try.ntmps13
    go_wp2_with fail
    rw [← HW.out]
    refine HC.out.mono ?_
    rw [HE.out]
    rintro e w1 ⟨rfl, hb1⟩
    have HB1 := Lib.hid (HB.out.trans (hb1.mono HB.out.size))
    clear hb1
    go_wp2
    go_ret2
    exact ⟨none, 0, by rw [HF.out, HE.out]; rfl, by rw [HF.out]; exact OwnS.nil _ _, HB1.out⟩
  | true =>
    have HF := Lib.hid (show ofA (ces q) id = ordS (ces q) (fun e => decide (e.i = id)) by unfold ofA; rw [if_pos hr])
    have HE := Lib.hid (chkA_ok hr)
    have HO := Lib.hid (fun (X : World) (hX : Below W0.heap.size W0 X) => ordered_any A c q 50 #[.pointer (some ⟨w.heap.size + 1, 0, none⟩)] (fun e => decide (e.i = id)) X ((h.below hb0).below hX) (by rw [← ces_length]; exact arB_len hr) (fun v Y => enters_of Try.func50 (by kernel_rfl) rfl _ Y)
      (fun p Y hY hv hf => of1_any p (w.heap.size + 1) id Y (Boxed.cell ((hY.block (w.heap.size + 1) (Nat.lt_of_lt_of_le x1.lt hX.size)).trans ((hX.block _ x1.lt).trans x1)))))
    have HX0 := Lib.hid (fun (X : World) (hX : Below W0.heap.size W0 X) => show X.cell? ⟨w.heap.size, 0, none⟩ = some (.slice A q.length c) from Boxed.cell ((hX.block _ x0.lt).trans x0))
    generalize ofA (ces q) id = s at *
    generalize ordS (ces q) (fun e => decide (e.i = id)) = s2 at *
    generalize chkA (ces q) = E at *
    generalize q.length = n at *
    clear h hW0 hb0 hz0 x0 x1 hr
    go_enter Try.func13, Try.ntmps13
    go_wp2_with fail
    rw [← HW.out]
    refine HC.out.mono ?_
    rw [HE.out]
    rintro e w1 ⟨rfl, hb1⟩
    have HB1 := Lib.hid (HB.out.trans (hb1.mono HB.out.size))
    have HO1 := Lib.hid (HO.out w1 hb1)
    have cbx := HX0.out w1 hb1
    clear hb1
    go_wp2_with fail
    refine HO1.out.mono ?_
    rintro e w2 ⟨A2, c2, rfl, ho2, hb2⟩
    have HB2 := Lib.hid (And.intro (World.ownsRow.mono ho2 HB1.out.size) (HB1.out.trans (hb2.mono HB1.out.size)))
    clear ho2 hb2
    go_wp2
    go_ret2
    exact ⟨A2, c2, by rw [HF.out, HE.out]; rfl, by rw [HF.out]; exact HB2.out.1, HB2.out.2⟩

/-- One more cell of the call's own. -/
theorem OwnA.snoc {base : Nat} {w w' : World} {A A1 : Option Addr} {c c1 : Nat} {q : List Pa} {p : Pa} (h : OwnA base w A c q) (hp : OwnV base w p.B p.c p.e.x) (hf : Fit p.e)
    (hr : w'.ownsRow base 45 5 (.slice A1 (q.length + 1) c1) (q.length + 1) (flatA q ++ flatA [p])) (hg : w.grownBy w' (blk A)) : OwnA base w' A1 c1 (q ++ [p]) := by
  have hne : ∀ (B : Option Addr) (cb : Nat) (xs : List Int), OwnV base w B cb xs → OwnV base w' B cb xs := by
    intro B cb xs hB
    refine ⟨hB.1.kept hg ?_, hB.2⟩
    rcases hB.1.2 with ⟨e, h0⟩ | ⟨g, cap, cur, e, hg, hh, _⟩
    · left; rw [e]; rfl
    · right
      rw [e, own_blk]
      intro hbb
      rcases h.row.2 with ⟨e', _⟩ | ⟨g', cap', cur', e', _, hh', _⟩
      · injection e' with e1; rw [e1] at hbb; cases hbb
      · injection e' with e1
        rw [e1] at hbb
        have : g = g' := by simpa [blk] using hbb
        subst this
        rw [hh] at hh'
        injection hh' with hh'
        injection hh' with _ ht _
        exact absurd ht (by decide)
  refine ⟨by rw [flatA_append, List.length_append]; exact hr, fun r hr => ?_, fun r hr => ?_⟩
  · rcases List.mem_append.1 hr with hr | hr
    · exact hne _ _ _ (h.el r hr)
    · obtain rfl : r = p := by simpa using hr
      exact hne _ _ _ hp
  · rcases List.mem_append.1 hr with hr | hr
    · exact h.fit r hr
    · obtain rfl : r = p := by simpa using hr
      exact hf
theorem grown_below {w w' : World} {B : Nat} {A : Option Addr} (hg : w.grownBy w' (blk A)) (hb : B ≤ w.heap.size) (hA : ∀ i, blk A = some i → B ≤ i) : Below B w w' :=
  (Turn.of_grown (S := fun i => blk A = some i) hg (fun i hi => .inl hi)).below hb hA
theorem OwnA.low {base : Nat} {w : World} {A : Option Addr} {c : Nat} {q : List Pa} (h : OwnA base w A c q) : ∀ i, blk A = some i → base ≤ i ∧ i < w.heap.size := fun i hi => h.row.lt i (by rw [own_blk]; exact hi)

/-- The cells told so far. -/
def RwI (w : World) (l : List Ce) (s : List Nat) (k : Nat) (A1 : Option Addr) (c1 : Nat) (wr : World) : Prop := ∃ r, List.length r = k ∧ ces r = (s.take k).map (ceAt l) ∧ OwnA w.heap.size wr A1 c1 r

set_option maxHeartbeats 4000000 in
theorem byRows_any (A : Option Addr) (c : Nat) (q : List Pa) (w : World) (h : Are w A c q) :
    Calls Try.prog 14 #[.agg #[.slice A q.length c]] w (GivesCE w (rowsA (ces q)) (chkA (ces q))) := by
  obtain ⟨W0, hW0⟩ : ∃ W0, W0 = w.alloc (.cells #[.slice A q.length c] 24) := ⟨_, rfl⟩
  have hb0 : Below w.heap.size w W0 := by rw [hW0]; exact (Below.refl _ w).alloc (Nat.le_refl _) _
  have x0 : Boxed W0 w.heap.size 24 (.slice A q.length c) := by rw [hW0]; exact Boxed.new w _ _
  have HC := Lib.hid (checkA_any A c q W0 (h.below hb0))
  have HB := Lib.hid hb0
  have HW := Lib.hid hW0
  cases hr : arB (ces q) with
  | false =>
    have HF := Lib.hid (show rowsA (ces q) = [] by unfold rowsA; rw [hr]; rfl)
    have HE := Lib.hid (chkA_no hr)
    generalize rowsA (ces q) = s at *
    generalize chkA (ces q) = E at *
    generalize q.length = n at *
    clear h hW0 hb0 x0 hr
    go_enter Try.func14, Try.ntmps14
    go_wp2_with fail
    rw [← HW.out]
    refine HC.out.mono ?_
    rw [HE.out]
    rintro e w1 ⟨rfl, hb1⟩
    have HB1 := Lib.hid (HB.out.trans (hb1.mono HB.out.size))
    clear hb1
    go_wp2
    go_ret2
    exact ⟨none, 0, [], by rw [HE.out]; rfl, by rw [HF.out]; rfl, OwnA.nil _ _, HB1.out⟩
  | true =>
    have hl96 : q.length = 96 := by rw [← ces_length]; exact arB_len hr
    have HF := Lib.hid (show rowsA (ces q) = (rowsS (ces q)).map (ceAt (ces q)) by unfold rowsA; rw [if_pos hr])
    have HE := Lib.hid (chkA_ok hr)
    have HO := Lib.hid (fun (X : World) (hX : Below W0.heap.size W0 X) => ordered_any A c q 51 #[] (fun _ => true) X ((h.below hb0).below hX) hl96 (fun v Y => enters_of Try.func51 (by kernel_rfl) rfl _ Y)
      (fun p Y hY hv hf => by rw [Array.append_empty]; exact rows1_any p Y))
    have HX0 := Lib.hid (fun (X : World) (hX : Below W0.heap.size W0 X) => show X.cell? ⟨w.heap.size, 0, none⟩ = some (.slice A q.length c) from Boxed.cell ((hX.block _ x0.lt).trans x0))
    have HSl := Lib.hid (show ∀ k ∈ rowsS (ces q), k < 96 from fun k hk => by have := ordS_lt (ces q) _ k hk; rw [ces_length, hl96] at this; exact this)
    have HSn := Lib.hid (show (rowsS (ces q)).length ≤ 96 from by have := ordS_le (ces q) (fun _ => true); rw [ces_length, hl96] at this; exact this)
    have HMay := Lib.hid (show ∀ p ∈ q, p.e.x.length ≤ 4 from fun p hp => may_len (arB_may hr p.e (List.mem_map.2 ⟨p, hp, rfl⟩)))
    have HQ := Lib.hid h
    have HL96 := Lib.hid hl96
    change Hid (∀ (X : World) (hX : Below W0.heap.size W0 X), Calls Try.prog 49 #[.agg #[.slice A q.length c], .func (.func 51) #[] #[]] X (GivesS X (rowsS (ces q)))) at HO
    generalize hs : rowsS (ces q) = s at *
    clear hs
    generalize chkA (ces q) = E at *
    obtain ⟨n, hn⟩ : ∃ n, n = q.length := ⟨_, rfl⟩
    have n96 : n = 96 := by rw [hn]; exact hl96
    rw [← hn] at HC HO HX0 HW ⊢
    have HN := Lib.hid hn
    have HN96 := Lib.hid n96
    have hn96 : n ≤ 9223372036854775807 := by omega
    clear n96
    obtain ⟨m, hm⟩ : ∃ m, m = s.length := ⟨_, rfl⟩
    have hm96 : m ≤ 96 := by rw [hm]; exact HSn.out
    have HM := Lib.hid hm
    clear h hW0 hb0 x0 hr hn hm hl96
    go_enter Try.func14, Try.ntmps14
    go_wp2_with fail
    rw [← HW.out]
    refine HC.out.mono ?_
    rw [HE.out]
    rintro e w1 ⟨rfl, hb1⟩
    have HB01 := Lib.hid hb1
    have HB1 := Lib.hid (HB.out.trans (hb1.mono HB.out.size))
    have HO1 := Lib.hid (HO.out w1 hb1)
    have cbx := HX0.out w1 hb1
    clear hb1
    go_wp2_with fail
    refine HO1.out.mono ?_
    rintro e w2 ⟨A2, c2, rfl, ho2, hb2⟩
    have hv2 := OwnS.vec ho2 (fun k hk => by have := HSl.out k hk; omega)
    have HV := Lib.hid hv2
    have HB02 := Lib.hid (HB01.out.trans (hb2.mono HB01.out.size))
    have HB2 := Lib.hid (HB1.out.trans (hb2.mono HB1.out.size))
    rw [← HM.out]
    clear ho2 hb2 hv2
    go_wp2
    go_loopw [5, 16] (fun v i wr => ∃ (k : Nat) (A1 : Option Addr) (c1 : Nat), k ≤ m ∧ i = .int .i64 k ∧ v = .slice A1 k c1 ∧ Hid (RwI w2 (ces q) s k A1 c1 wr) ∧ Hid (Below w2.heap.size w2 wr)) (fun _ i _ => m - (intOf i).toNat)
    case atStart => exact ⟨0, none, 0, Nat.zero_le _, rfl, rfl, Lib.hid ⟨[], rfl, rfl, OwnA.nil _ _⟩, Lib.hid (Below.refl _ _)⟩
    case round =>
      obtain ⟨k, A1, c1, hk, rfl, rfl, HR, HBr⟩ := hrel
      by_cases hkm : k < m
      · obtain ⟨x, hx⟩ : ∃ x, s[k]? = some x := ⟨_, List.getElem?_eq_getElem (by rw [← HM.out]; exact hkm)⟩
        have hx96 := HSl.out x (List.mem_of_getElem? hx)
        obtain ⟨b, o, rfl, hb, ci⟩ := HV.out.at_ (j := k) (by rw [List.length_map, ← HM.out]; exact hkm)
        have hgx : (s.map fun (k : Nat) => (k : Int)).getD k 0 = (x : Int) := by simp [List.getD, hx]
        rw [hgx] at ci
        have ci := (HBr.out.cell (p := ⟨b, o + k, none⟩) hb).trans ci
        have hbw := HB2.out.trans (HBr.out.mono HB2.out.size)
        obtain ⟨b', o', p, e', hp, hb', d0, d1, d2, d3, d4, hv, hf⟩ := (HQ.out.below hbw).at_ (i := x) (by rw [HL96.out]; exact hx96)
        subst e'
        have ca := HX0.out wr (HB02.out.trans (HBr.out.mono HB02.out.size))
        have HC := Lib.hid (owned_any p wr hv (by have := HMay.out p (List.mem_of_getElem? hp); omega))
        obtain ⟨r, hr1, hr2, hr3⟩ := HR.out
        have HT := Lib.hid (show (s.take (k + 1)).map (ceAt (ces q)) = ces r ++ [p.e] by rw [List.take_add_one, hx, List.map_append, ← hr2]; simp [ces_ceAt hp])
        have k0 : (0 : Int) ≤ k := by omega
        have km : (k : Int) < m := by omega
        have x00 : (0 : Int) ≤ x := by omega
        have xn : (x : Int) < n := by have := HN96.out; omega
        have HR1 := Lib.hid hr1
        have HR3 := Lib.hid hr3
        have HFi := Lib.hid hf
        have HBW := Lib.hid hbw
        clear hx hx96 hgx hbw hp hv hf hr1 hr2 hr3 hb hb'
        go_wp2_with (first
          | (go_at_call 52; refine HC.out.mono ?_; rintro e w3 ⟨B3, c3, rfl, hv3, hb3⟩; have HB4 := Lib.hid (hb3.alloc hb3.size (.cells #[.bool p.e.u, .int .u64 p.e.i, .int .u64 p.e.b, .int .u64 p.e.f, .slice B3 p.e.x.length c3] 45)); have HO4 := Lib.hid (HR3.out.below HB4.out); have HV4 := Lib.hid ((hv3.below ((Below.refl _ w3).alloc (Nat.le_refl _) (.cells #[.bool p.e.u, .int .u64 p.e.i, .int .u64 p.e.b, .int .u64 p.e.f, .slice B3 p.e.x.length c3] 45))).mono HBr.out.size); clear hv3 hb3)
          | (at_builtin; refine gapp_at rfl (.tmp 20) (.tmp 27) appA rfl w2.heap.size A1 c1 k (flatA r) rfl (by have := HO4.out.row; rw [HR1.out] at this; exact this) (some ⟨w3.heap.size, 0, none⟩) 1 1 (flatA [⟨p.e, B3, c3⟩]) rfl (Read.cell (p := ⟨p.e, B3, c3⟩) (cell_laid _ _ _ 0) (cell_laid _ _ _ 1) (cell_laid _ _ _ 2) (cell_laid _ _ _ 3) (cell_laid _ _ _ 4)) (by omega) (Nat.le_trans HBr.out.size HB4.out.size) ?_; intro A5 c5 w5 ho5 hg5 _; have HO5 := Lib.hid (HO4.out.snoc (p := ⟨p.e, B3, c3⟩) HV4.out HFi.out (by rw [HR1.out]; exact ho5) hg5); have HG5 := Lib.hid (HBr.out.trans ((HB4.out.mono HBr.out.size).trans (grown_below (B := w2.heap.size) hg5 (Nat.le_trans HBr.out.size HB4.out.size) (fun i hi => (HO4.out.low i hi).1)))); clear ho5 hg5))
        go_roundw
        case rel => exact ⟨k + 1, A5, c5, by omega, by go_num, rfl, Lib.hid ⟨r ++ [⟨p.e, B3, c3⟩], by rw [List.length_append, HR1.out]; rfl, by rw [HT.out, ces_append]; rfl, HO5.out⟩, HG5⟩
        case measure => simp [intOf]; omega
      · obtain rfl : k = m := by omega
        have HT := Lib.hid (show s.take k = s by rw [HM.out]; exact List.take_length)
        go_wp2
        go_ret2
        obtain ⟨r, h1, h2, h3⟩ := HR.out
        exact ⟨A1, c1, r, by rw [h1, HE.out]; rfl, by rw [h2, HT.out, HF.out], h3.mono HB2.out.size, HB2.out.trans (HBr.out.mono HB2.out.size)⟩

end Go.Proofs.Ytdbcecmlakgknaa

namespace Go.Proofs.Ytdbcecmlakgknaa
open Go.RowKit Go.Shelf
set_option linter.unusedVariables false
set_option linter.unusedSimpArgs false
set_option maxRecDepth 100000

def putE (l : List Ce) (b f : Int) (x : List Int) : Int := if arB l = true then (if verR b f x = true then (match leastO l with | some _ => 0 | none => 6) else 171) else 190
def putK (l : List Ce) (b f : Int) (x : List Int) : Int := if putE l b f x = 0 then idxK (leastO l) else 0
def putL (l : List Ce) (id b f : Int) (x : List Int) : List Ce := if putE l b f x = 0 then (match leastO l with | some k => l.set k ⟨true, id, b, f, x⟩ | none => []) else []
theorem put_no {l : List Ce} {b f : Int} {x : List Int} {E : Int} (h : putE l b f x = E) (hE : E ≠ 0) (id : Int) : putK l b f x = 0 ∧ putL l id b f x = [] := by unfold putK putL; rw [h, if_neg hE, if_neg hE]; exact ⟨rfl, rfl⟩
/-- A call that answers an arena of the call's own, a slot and an error. -/
def GivesP (w : World) (l : List Ce) (k er : Int) (e : Ending) (w' : World) : Prop := ∃ A c q, e = .returned (.tuple #[.agg #[.slice A (List.length q) c], .int .i64 k, .int .i64 er]) ∧ ces q = l ∧ OwnA w.heap.size w' A c q ∧ Below w.heap.size w w'
theorem verE_iff (b f : Int) (x : List Int) : verE b f x = if verR b f x = true then 0 else 171 := rfl

/-- What lies in the boxes of Put. -/
structure PutB (w W0 : World) (A : Option Addr) (n c : Nat) (b f : Int) (B : Option Addr) (nx cx : Nat) : Prop where
  size : W0.heap.size = w.heap.size + 3
  below : Below w.heap.size w W0
  ar : Boxed W0 w.heap.size 24 (.slice A n c)
  ver : W0.heap[w.heap.size + 1]? = some (.cells #[.int .u64 b, .int .u64 f, .slice B nx cx] 43 (0, 0))
  res : Boxed W0 (w.heap.size + 2) 24 (.slice none 0 0)
theorem putB (w : World) (A : Option Addr) (n c : Nat) (b f : Int) (B : Option Addr) (nx cx : Nat) : PutB w (((w.alloc (.cells #[.slice A n c] 24)).alloc (.cells #[.int .u64 b, .int .u64 f, .slice B nx cx] 43)).alloc (.cells #[.slice none 0 0] 24)) A n c b f B nx cx := by
  refine ⟨by simp, (((Below.refl _ w).alloc (Nat.le_refl _) _).alloc (by simp) _).alloc (by simp; omega) _, ((Boxed.new w _ _).alloc _).alloc _, ?_, ?_⟩
  · have h := heap_alloc_new (w.alloc (.cells #[.slice A n c] 24)) (.cells #[.int .u64 b, .int .u64 f, .slice B nx cx] 43)
    rw [World.size_alloc] at h
    exact (Below.heap_alloc _ _ _ (by simp)).trans h
  · have h := Boxed.new ((w.alloc (.cells #[.slice A n c] 24)).alloc (.cells #[.int .u64 b, .int .u64 f, .slice B nx cx] 43)) 24 (.slice none 0 0)
    rw [World.size_alloc, World.size_alloc] at h
    exact h
theorem PutB.later {w W0 X : World} {A : Option Addr} {n c : Nat} {b f : Int} {B : Option Addr} {nx cx : Nat} (h : PutB w W0 A n c b f B nx cx) (hX : Below W0.heap.size W0 X) :
    Below w.heap.size w X ∧ Boxed X w.heap.size 24 (.slice A n c) ∧ X.heap[w.heap.size + 1]? = some (.cells #[.int .u64 b, .int .u64 f, .slice B nx cx] 43 (0, 0)) ∧ Boxed X (w.heap.size + 2) 24 (.slice none 0 0) :=
  ⟨h.below.trans (hX.mono h.below.size), (hX.block _ h.ar.lt).trans h.ar, (hX.block _ (lt_of_block h.ver)).trans h.ver, (hX.block _ h.res.lt).trans h.res⟩

set_option maxHeartbeats 4000000 in
theorem put_any (A : Option Addr) (c : Nat) (q : List Pa) (id b f : Int) (B : Option Addr) (cx : Nat) (x : List Int) (w : World) (h : Are w A c q) (hv : Vec .i32 w B cx x) (hid : U64s id) (hb : U64s b) (hf : U64s f) :
    Calls Try.prog 44 #[.agg #[.slice A q.length c], .int .u64 id, .agg #[.int .u64 b, .int .u64 f, .slice B x.length cx]] w (GivesP w (putL (ces q) id b f x) (putK (ces q) b f x) (putE (ces q) b f x)) := by
  obtain ⟨W0, hW0⟩ : ∃ W0, W0 = ((w.alloc (.cells #[.slice A q.length c] 24)).alloc (.cells #[.int .u64 b, .int .u64 f, .slice B x.length cx] 43)).alloc (.cells #[.slice none 0 0] 24) := ⟨_, rfl⟩
  have hP := putB w A q.length c b f B x.length cx
  rw [← hW0] at hP
  have HP := Lib.hid hP
  have HW := Lib.hid hW0
  have HC := Lib.hid (checkA_any A c q W0 (h.below hP.below))
  have HV := Lib.hid (fun (X : World) (hX : Below W0.heap.size W0 X) => checkVersion_any b f B cx x X ((hv.below hP.below).below hX))
  have HI := Lib.hid (fun (X : World) (hX : Below W0.heap.size W0 X) => indexC_any A c q 84 #[] (fun e => !e.u) X ((h.below hP.below).below hX) (fun v Y => enters_of Try.func84 (by kernel_rfl) rfl _ Y) (fun p Y _ _ _ => by rw [Array.append_empty]; exact put1_any p Y))
  change Hid (∀ (X : World) (hX : Below W0.heap.size W0 X), Calls Try.prog 83 #[.slice A q.length c, .func (.func 84) #[] #[]] X fun e w' => e = .returned (.int .i64 (idxK (leastO (ces q)))) ∧ Below X.heap.size X w') at HI
  have HX := Lib.hid (fun (X : World) (hX : Below W0.heap.size W0 X) => hP.later hX)
  cases hr : arB (ces q) with
  | false =>
    have hE : putE (ces q) b f x = 190 := by unfold putE; rw [hr]; rfl
    obtain ⟨hK, hL⟩ := put_no hE (by decide) id
    rw [chkA_no hr] at HC
    have HF := Lib.hid (And.intro hE (And.intro hK hL))
    generalize putL (ces q) id b f x = L at *
    generalize putK (ces q) b f x = K0 at *
    generalize putE (ces q) b f x = E at *
    generalize q.length = n at *
    generalize x.length = nx at *
    clear h hv hid hb hf hP hW0 hr hE hK hL HV HI
    go_enter Try.func44, Try.ntmps44
    go_wp2_with fail
    rw [← HW.out]
    refine HC.out.mono ?_
    rintro e w1 ⟨rfl, hb1⟩
    obtain ⟨hbw, x0, xv, xr⟩ := HX.out w1 hb1
    obtain ⟨r0, hbR⟩ := res_set (.slice none 0 0) xr hbw (by omega)
    have c0 := xr.cell
    have f0 := xr.frozen
    have HB := Lib.hid hbR
    clear hb1 hbw x0 xv xr hbR
    go_wp2
    refine bodyPost_ret (v := .tuple #[.agg #[.slice none 0 0], .int .i64 0, .int .i64 190]) (by simp [results, Try.results44, go_sem, r0]) rfl ?_
    rw [HF.out.1, HF.out.2.1, HF.out.2.2]
    exact ⟨none, 0, [], rfl, rfl, OwnA.nil _ _, HB.out⟩
  | true =>
    rw [chkA_ok hr] at HC
    cases hvr : verR b f x with
    | false =>
      have hE : putE (ces q) b f x = 171 := by unfold putE; rw [hr, hvr]; rfl
      obtain ⟨hK, hL⟩ := put_no hE (by decide) id
      have HV2 := Lib.hid (show verE b f x = 171 by rw [verE_iff, hvr]; rfl)
      rw [HV2.out] at HV
      have HF := Lib.hid (And.intro hE (And.intro hK hL))
      generalize putL (ces q) id b f x = L at *
      generalize putK (ces q) b f x = K0 at *
      generalize putE (ces q) b f x = E at *
      generalize q.length = n at *
      generalize x.length = nx at *
      clear h hv hid hb hf hP hW0 hr hE hK hL HI hvr HV2
      go_enter Try.func44, Try.ntmps44
      go_wp2_with fail
      rw [← HW.out]
      refine HC.out.mono ?_
      rintro e w1 ⟨rfl, hb1⟩
      have HV1 := Lib.hid (HV.out w1 hb1)
      have HB1 := Lib.hid hb1
      obtain ⟨hbw, x0, xv, xr⟩ := HX.out w1 hb1
      have v0 := (cell_of_row _ _ 0 _ _ _ xv).trans rfl
      have v1 := (cell_of_row _ _ 1 _ _ _ xv).trans rfl
      have v2 := (cell_of_row _ _ 2 _ _ _ xv).trans rfl
      clear hb1 hbw x0 xv xr
      go_wp2_with fail
      refine HV1.out.mono ?_
      rintro e w2 ⟨rfl, hb2⟩
      obtain ⟨hbw, x0, xv, xr⟩ := HX.out w2 (HB1.out.trans (hb2.mono HB1.out.size))
      obtain ⟨r0, hbR⟩ := res_set (.slice none 0 0) xr hbw (by omega)
      have c0 := xr.cell
      have f0 := xr.frozen
      have HB := Lib.hid hbR
      clear hb2 hbw x0 xv xr hbR
      go_wp2
      refine bodyPost_ret (v := .tuple #[.agg #[.slice none 0 0], .int .i64 0, .int .i64 171]) (by simp [results, Try.results44, go_sem, r0]) rfl ?_
      rw [HF.out.1, HF.out.2.1, HF.out.2.2]
      exact ⟨none, 0, [], rfl, rfl, OwnA.nil _ _, HB.out⟩
    | true =>
      have HV2 := Lib.hid (show verE b f x = 0 by rw [verE_iff, hvr]; rfl)
      rw [HV2.out] at HV
      clear HV2
      cases hlo : leastO (ces q) with
      | none =>
        have hE : putE (ces q) b f x = 6 := by unfold putE; rw [hr, hvr, hlo]; rfl
        obtain ⟨hK, hL⟩ := put_no hE (by decide) id
        have HF := Lib.hid (And.intro hE (And.intro hK hL))
        rw [hlo] at HI
        generalize putL (ces q) id b f x = L at *
        generalize putK (ces q) b f x = K0 at *
        generalize putE (ces q) b f x = E at *
        generalize q.length = n at *
        generalize x.length = nx at *
        clear h hv hid hb hf hP hW0 hr hE hK hL hvr hlo
        go_enter Try.func44, Try.ntmps44
        go_wp2_with fail
        rw [← HW.out]
        refine HC.out.mono ?_
        rintro e w1 ⟨rfl, hb1⟩
        have HV1 := Lib.hid (HV.out w1 hb1)
        have HB1 := Lib.hid hb1
        obtain ⟨hbw, x0, xv, xr⟩ := HX.out w1 hb1
        have v0 := (cell_of_row _ _ 0 _ _ _ xv).trans rfl
        have v1 := (cell_of_row _ _ 1 _ _ _ xv).trans rfl
        have v2 := (cell_of_row _ _ 2 _ _ _ xv).trans rfl
        clear hb1 hbw x0 xv xr
        go_wp2_with fail
        refine HV1.out.mono ?_
        rintro e w2 ⟨rfl, hb2⟩
        have HB2 := Lib.hid (HB1.out.trans (hb2.mono HB1.out.size))
        obtain ⟨hbw, x0, xv, xr⟩ := HX.out w2 HB2.out
        have a0 := x0.cell
        have HI1 := Lib.hid (HI.out w2 HB2.out)
        clear hb2 hbw x0 xv xr
        go_wp2_with fail
        refine HI1.out.mono ?_
        rintro e w3 ⟨rfl, hb3⟩
        obtain ⟨hbw, x0, xv, xr⟩ := HX.out w3 (HB2.out.trans (hb3.mono HB2.out.size))
        obtain ⟨r0, hbR⟩ := res_set (.slice none 0 0) xr hbw (by omega)
        have c0 := xr.cell
        have f0 := xr.frozen
        have HB := Lib.hid hbR
        have HM1 := Lib.hid (show idxK none = -1 from rfl)
        rw [HM1.out]
        clear hb3 hbw x0 xv xr hbR
        go_wp2
        refine bodyPost_ret (v := .tuple #[.agg #[.slice none 0 0], .int .i64 0, .int .i64 6]) (by simp [results, Try.results44, go_sem, r0]) rfl ?_
        rw [HF.out.1, HF.out.2.1, HF.out.2.2]
        exact ⟨none, 0, [], rfl, rfl, OwnA.nil _ _, HB.out⟩
      | some s =>
        have hE : putE (ces q) b f x = 0 := by unfold putE; rw [hr, hvr, hlo]; rfl
        have hK : putK (ces q) b f x = (s : Int) := by unfold putK; rw [hE, if_pos rfl, hlo]; rfl
        have hL : putL (ces q) id b f x = (ces q).set s ⟨true, id, b, f, x⟩ := by unfold putL; rw [hE, if_pos rfl, hlo]
        have hs96 : s < 96 := by have := (least_some hlo).1; rw [arB_len hr] at this; exact this
        have hxl := (ver_len hvr).2
        have HF := Lib.hid (And.intro hE (And.intro hK hL))
        have HM1 := Lib.hid (show idxK (leastO (ces q)) = (s : Int) by rw [hlo]; rfl)
        rw [HM1.out] at HI
        have HCp := Lib.hid (fun (X : World) (hX : Below W0.heap.size W0 X) => copied_any A c q X ((h.below hP.below).below hX) (by rw [← ces_length, arB_len hr]; exact Nat.le_refl _) (fun p hp hu => by
          have := may_len (arB_may hr p.e (List.mem_map.2 ⟨p, hp, rfl⟩))
          omega))
        rw [pad_same hr] at HCp
        have HOw := Lib.hid (fun (X : World) (hX : Below W0.heap.size W0 X) => owned_any ⟨⟨true, id, b, f, x⟩, B, cx⟩ X ((hv.below hP.below).below hX) (by show x.length ≤ 1000000; omega))
        have HFit := Lib.hid (show Fit ⟨true, id, b, f, x⟩ from ⟨hid, hb, hf⟩)
        have HZ0 := Lib.hid hP.size
        generalize putL (ces q) id b f x = L at *
        generalize putK (ces q) b f x = K0 at *
        generalize putE (ces q) b f x = E at *
        generalize q.length = n at *
        dsimp only at HOw
        generalize hnx : x.length = nx at *
        have HNX := Lib.hid hnx
        have s0 : (0 : Int) ≤ s := by omega
        have s9 : (s : Int) < 96 := by omega
        have ts : decide ((s : Int) < 0) = false := by simp
        clear h hv hid hb hf hP hW0 hr hE hK hL hvr hlo hxl HM1 hnx
        go_enter Try.func44, Try.ntmps44
        go_wp2_with fail
        rw [← HW.out]
        refine HC.out.mono ?_
        rintro e w1 ⟨rfl, hb1⟩
        have HV1 := Lib.hid (HV.out w1 hb1)
        have HB1 := Lib.hid hb1
        obtain ⟨hbw, x0, xv, xr⟩ := HX.out w1 hb1
        have v0 := (cell_of_row _ _ 0 _ _ _ xv).trans rfl
        have v1 := (cell_of_row _ _ 1 _ _ _ xv).trans rfl
        have v2 := (cell_of_row _ _ 2 _ _ _ xv).trans rfl
        clear hb1 hbw x0 xv xr
        go_wp2_with fail
        refine HV1.out.mono ?_
        rintro e w2 ⟨rfl, hb2⟩
        have HB2 := Lib.hid (HB1.out.trans (hb2.mono HB1.out.size))
        obtain ⟨hbw, x0, xv, xr⟩ := HX.out w2 HB2.out
        have a0 := x0.cell
        have HI1 := Lib.hid (HI.out w2 HB2.out)
        clear hb2 hbw x0 xv xr v0 v1 v2
        go_wp2_with fail
        refine HI1.out.mono ?_
        rintro e w3 ⟨rfl, hb3⟩
        have HB3 := Lib.hid (HB2.out.trans (hb3.mono HB2.out.size))
        obtain ⟨hbw, x0, xv, xr⟩ := HX.out w3 HB3.out
        have a1 := x0.cell
        have HCp1 := Lib.hid (HCp.out w3 HB3.out)
        clear hb3 hbw x0 xv xr a0
        go_wp2_with fail
        refine HCp1.out.mono ?_
        rintro e w4 ⟨g, q4, rfl, hq4, hl4, ho4, hb4⟩
        have hB4 := HB3.out.trans (hb4.mono HB3.out.size)
        obtain ⟨z, hz⟩ : ∃ z, z = w4.heap.size := ⟨_, rfl⟩
        obtain ⟨V, hV⟩ : ∃ V, V = w4.alloc (.cells #[.slice (some ⟨g, 0, none⟩) 96 96] 24) := ⟨_, rfl⟩
        have hbV : Below w4.heap.size w4 V := by rw [hV]; exact (Below.refl _ w4).alloc (Nat.le_refl _) _
        have hB5 : Below W0.heap.size W0 V := hB4.trans (hbV.mono hB4.size)
        have hx12 : Boxed V z 24 (.slice (some ⟨g, 0, none⟩) 96 96) := by rw [hV, hz]; exact Boxed.new w4 _ _
        have hoV : OwnA W0.heap.size V (some ⟨g, 0, none⟩) 96 q4 := (ho4.mono HB3.out.size).below hbV
        have hgz : W0.heap.size ≤ g ∧ g < z := by rw [hz]; exact (ho4.mono HB3.out.size).lo
        have HS := Lib.hid (fun (X : World) (hX : Turn (fun i => i = g) V X) => show X.cell? ⟨z, 0, none⟩ = some (.slice (some ⟨g, 0, none⟩) 96 96) ∧ X.cell? ⟨w.heap.size + 1, 0, none⟩ = some (.int .u64 b) ∧ X.cell? ⟨w.heap.size + 1, 1, none⟩ = some (.int .u64 f) ∧ X.cell? ⟨w.heap.size + 1, 2, none⟩ = some (.slice B nx cx) from by
          obtain ⟨_, _, xv, _⟩ := HX.out V hB5
          have hz0 := HZ0.out
          have e1 := (hX.block z hx12.lt (by omega)).trans hx12
          have e2 := (hX.block (w.heap.size + 1) (lt_of_block xv) (by omega)).trans xv
          exact ⟨Boxed.cell e1, (cell_of_row _ _ 0 _ _ _ e2).trans rfl, (cell_of_row _ _ 1 _ _ _ e2).trans rfl, (cell_of_row _ _ 2 _ _ _ e2).trans rfl⟩)
        have HPt := Lib.hid (fun (X : World) (A1 : Option Addr) (c1 : Nat) (hX : Below V.heap.size V X) (hvX : OwnV V.heap.size X A1 c1 x) => show (∃ p0 : Pa, X.cell? ⟨g, s * 5, none⟩ = some (.bool p0.e.u) ∧ X.cell? ⟨g, s * 5 + 1, none⟩ = some (.int .u64 p0.e.i) ∧ X.cell? ⟨g, s * 5 + 2, none⟩ = some (.int .u64 p0.e.b) ∧ X.cell? ⟨g, s * 5 + 3, none⟩ = some (.int .u64 p0.e.f) ∧ X.cell? ⟨g, s * 5 + 4, none⟩ = some (.slice p0.B p0.e.x.length p0.c)) ∧
            (X.frozen? ⟨g, s * 5, none⟩ = false ∧ X.frozen? ⟨g, s * 5 + 1, none⟩ = false ∧ X.frozen? ⟨g, s * 5 + 2, none⟩ = false ∧ X.frozen? ⟨g, s * 5 + 3, none⟩ = false ∧ X.frozen? ⟨g, s * 5 + 4, none⟩ = false) ∧
            (OwnA W0.heap.size (put5 X g (s * 5) ⟨⟨true, id, b, f, x⟩, A1, c1⟩) (some ⟨g, 0, none⟩) 96 (q4.set s ⟨⟨true, id, b, f, x⟩, A1, c1⟩) ∧ Turn (fun i => i = g) V (put5 X g (s * 5) ⟨⟨true, id, b, f, x⟩, A1, c1⟩)) from by
          have ho := hoV.below hX
          obtain ⟨p0, _, d0, d1, d2, d3, d4, f0, f1, f2, f3, f4⟩ := ho.cells (i := s) (by omega)
          exact ⟨⟨p0, d0, d1, d2, d3, d4⟩, ⟨f0, f1, f2, f3, f4⟩, ho.put (by omega) (hvX.mono hB5.size) HFit.out, (Turn.of_below (S := fun i => i = g) hX).trans (put5_turn _ _ _ _) (fun i hi => .inl hi)⟩)
        have HOw1 := Lib.hid (fun (X : World) (hX : Below V.heap.size V X) => HOw.out X (hB5.trans (hX.mono hB5.size)))
        have HV := Lib.hid hV
        have HQ4 := Lib.hid (And.intro hq4 hl4)
        have HB5 := Lib.hid hB5
        have HGZ := Lib.hid hgz
        have HZZ := Lib.hid (show w4.heap.size = z from hz.symm)
        clear hb4 hB4 hbV hB5 hx12 hoV hgz ho4 hq4 hl4 hV a1 hz
        go_wp2_with (rw [← HV.out])
        rw [HZZ.out]
        go_region_held3 (fun X => X.cell? ⟨z, 0, none⟩ = some (.slice (some ⟨g, 0, none⟩) 96 96) ∧ X.cell? ⟨w.heap.size + 1, 0, none⟩ = some (.int .u64 b) ∧ X.cell? ⟨w.heap.size + 1, 1, none⟩ = some (.int .u64 f) ∧ X.cell? ⟨w.heap.size + 1, 2, none⟩ = some (.slice B nx cx))
          (first | (with_reducible assumption) | (with_reducible exact HS.out _ (Turn.of_below (below_drew (Below.refl _ _)))) | (with_reducible exact HS.out _ HT0.out) | (with_reducible exact HS.out _ HT6.out))
          (first | (go_at_call 52; refine (HOw1.out _ (below_drew (Below.refl _ _))).mono ?_; rintro e w6 ⟨A6, c6, rfl, hv6, hb6⟩; have HB6 := Lib.hid (show Below V.heap.size V w6 from (below_drew (Below.refl _ V)).trans hb6); have HT0 := Lib.hid (show Turn (fun i => i = g) V w6 from Turn.of_below HB6.out); have HP6 := Lib.hid (HPt.out w6 A6 c6 HB6.out hv6); have HT6 := Lib.hid (show Turn (fun i => i = g) V (((((w6.setCell ⟨g, s * 5, none⟩ (.bool true)).setCell ⟨g, s * 5 + 1, none⟩ (.int .u64 id)).setCell ⟨g, s * 5 + 2, none⟩ (.int .u64 b)).setCell ⟨g, s * 5 + 3, none⟩ (.int .u64 f)).setCell ⟨g, s * 5 + 4, none⟩ (.slice A6 nx c6)) from by rw [← HNX.out]; exact HP6.out.2.2.2); obtain ⟨⟨p0, d0, d1, d2, d3, d4⟩, ⟨f0, f1, f2, f3, f4⟩, _⟩ := HP6.out; clear hv6 hb6))
        obtain ⟨W6, hW6⟩ : ∃ W6, W6 = (((((w6.setCell ⟨g, s * 5, none⟩ (.bool true)).setCell ⟨g, s * 5 + 1, none⟩ (.int .u64 id)).setCell ⟨g, s * 5 + 2, none⟩ (.int .u64 b)).setCell ⟨g, s * 5 + 3, none⟩ (.int .u64 f)).setCell ⟨g, s * 5 + 4, none⟩ (.slice A6 nx c6)) := ⟨_, rfl⟩
        have hO6 : OwnA W0.heap.size W6 (some ⟨g, 0, none⟩) 96 (q4.set s ⟨⟨true, id, b, f, x⟩, A6, c6⟩) := by rw [hW6, ← HNX.out]; exact HP6.out.2.2.1
        have hT6 : Turn (fun i => i = g) V W6 := by rw [hW6]; exact HT6.out
        have e12 := (HS.out W6 hT6).1
        rw [← hW6]
        obtain ⟨_, _, _, xrV⟩ := HX.out V HB5.out
        have hz0 := HZ0.out
        have xr : Boxed W6 (w.heap.size + 2) 24 (.slice none 0 0) := (hT6.block _ xrV.lt (by have := HGZ.out; omega)).trans xrV
        have hbV : Below w.heap.size w V := (HX.out V HB5.out).1
        have hb6 : Below w.heap.size w W6 := hbV.trans (hT6.below hbV.size (fun i hi => by have := HGZ.out; omega))
        obtain ⟨r0, hbR⟩ := res_set (.slice (some ⟨g, 0, none⟩) 96 96) xr hb6 (by omega)
        have hO7 : OwnA w.heap.size (W6.setCell ⟨w.heap.size + 2, 0, none⟩ (.slice (some ⟨g, 0, none⟩) 96 96)) (some ⟨g, 0, none⟩) 96 (q4.set s ⟨⟨true, id, b, f, x⟩, A6, c6⟩) := (hO6.turn (turn_set _ _ _ _) (fun i hi _ e => by omega)).mono (by omega)
        have c0 := xr.cell
        have f0 := xr.frozen
        have HB := Lib.hid (And.intro hO7 hbR)
        clear hW6 hO6 hT6 xrV hz0 xr hbV hb6 hbR hO7 d0 d1 d2 d3 d4 f1 f2 f3 f4 HT6 HP6
        go_wp2
        refine bodyPost_ret (v := .tuple #[.agg #[.slice (some ⟨g, 0, none⟩) 96 96], .int .i64 s, .int .i64 0]) (by simp [results, Try.results44, go_sem, r0]) rfl ?_
        rw [HF.out.1, HF.out.2.1, HF.out.2.2]
        exact ⟨some ⟨g, 0, none⟩, 96, q4.set s ⟨⟨true, id, b, f, x⟩, A6, c6⟩, by rw [List.length_set, HQ4.out.2], by rw [ces_set, HQ4.out.1], HB.out.1, HB.out.2⟩

end Go.Proofs.Ytdbcecmlakgknaa

namespace Go.Proofs.Ytdbcecmlakgknaa
open Go.RowKit Go.Shelf
set_option linter.unusedVariables false
set_option linter.unusedSimpArgs false
set_option maxRecDepth 100000

theorem one_any (b : Int) (w : World) : Calls Try.prog 45 #[.int .u64 b] w fun e w' => ∃ g, e = .returned (.agg #[.int .u64 b, .int .u64 0, .slice (some ⟨g, 0, none⟩) 1 1]) ∧ Vec .i32 w' (some ⟨g, 0, none⟩) 1 [5] ∧ Below w.heap.size w w' := by
  obtain ⟨W, hW⟩ : ∃ W, W = (w.alloc (.cells #[.int .u64 0, .int .u64 0, .slice none 0 0] 43)).alloc (.cells #[.int .i32 5] 21) := ⟨_, rfl⟩
  have hb : Below w.heap.size w W := by rw [hW]; exact ((Below.refl _ w).alloc (Nat.le_refl _) _).alloc (by simp) _
  have hx : W.heap[w.heap.size]? = some (.cells #[.int .u64 0, .int .u64 0, .slice none 0 0] 43 (0, 0)) := by rw [hW]; exact (Below.heap_alloc _ _ _ (by simp)).trans (heap_alloc_new _ _)
  have hy : W.heap[w.heap.size + 1]? = some (.cells #[.int .i32 5] 21 (0, 0)) := by
    rw [hW]; have := heap_alloc_new (w.alloc (.cells #[.int .u64 0, .int .u64 0, .slice none 0 0] 43)) (.cells #[.int .i32 5] 21); rwa [World.size_alloc] at this
  obtain ⟨W3, hW3⟩ : ∃ W3, W3 = W.setRow w.heap.size #[.int .u64 b, .int .u64 0, .slice (some ⟨w.heap.size + 1, 0, none⟩) 1 1] := ⟨_, rfl⟩
  have hx3 := setRow_heap W w.heap.size _ #[.int .u64 b, .int .u64 0, .slice (some ⟨w.heap.size + 1, 0, none⟩) 1 1] _ _ hx
  rw [← hW3] at hx3
  have r0 := (cell_of_row _ _ 0 _ _ _ hx3).trans rfl
  have r1 := (cell_of_row _ _ 1 _ _ _ hx3).trans rfl
  have r2 := (cell_of_row _ _ 2 _ _ _ hx3).trans rfl
  have hy3 : W3.heap[w.heap.size + 1]? = some (.cells #[.int .i32 5] 21 (0, 0)) := by rw [hW3]; exact (setRow_other _ _ _ _ (by omega)).trans hy
  have HF := Lib.hid (show Vec .i32 W3 (some ⟨w.heap.size + 1, 0, none⟩) 1 [5] ∧ Below w.heap.size w W3 from
    ⟨⟨by simp, by omega, fun _ => ⟨w.heap.size + 1, 0, rfl, lt_of_block hy3, fun j hj => by
        obtain rfl : j = 0 := by simp at hj; omega
        exact (cell_of_row _ _ 0 _ _ _ hy3).trans rfl⟩, fun x hx => by simp at hx; subst hx; decide⟩, by rw [hW3]; exact hb.trans ((turn_row _ _ _).below hb.size (fun i hi => by omega))⟩)
  have HX := Lib.hid hx
  have HW := Lib.hid hW
  have HW3 := Lib.hid hW3
  clear hb hx hy hx3 hy3 hW hW3
  go_enter Try.func45, Try.ntmps45
  go_wp2_with (first | (rw [← HW.out]) | (refine wpList_store_row rfl 43 _ _ rfl w.heap.size _ rfl rfl 43 _ HX.out (by kernel_rfl) rfl (by simp [Value.oneCell']) ?_; rw [← HW3.out]))
  exact bodyPost_ret (v := .agg #[.int .u64 b, .int .u64 0, .slice (some ⟨w.heap.size + 1, 0, none⟩) 1 1]) (by simp [results, Try.results45, go_sem, r0, r1, r2]) rfl ⟨w.heap.size + 1, rfl, HF.out.1, HF.out.2⟩

/-- More than is gone through. -/
def overB (l : List Ce) : Bool := decide (120 < l.length) || l.any fun e => decide (50 < e.x.length)
theorem over_no {l : List Ce} (h : overB l = false) : l.length ≤ 120 ∧ ∀ e ∈ l, e.x.length ≤ 50 := by
  unfold overB at h
  rw [Bool.or_eq_false_iff] at h
  obtain ⟨h1, h2⟩ := h
  refine ⟨by simpa using h1, fun e he => ?_⟩
  rw [List.any_eq_false] at h2
  have := h2 e he
  simp at this
  omega

set_option maxHeartbeats 1000000 in
theorem overC_any (A : Option Addr) (c : Nat) (q : List Pa) (w : World) (h : Are w A c q) :
    Calls Try.prog 46 #[.slice A q.length c] w fun e w' => e = .returned (.bool (overB (ces q))) ∧ Below w.heap.size w w' := by
  obtain ⟨n, hn⟩ : ∃ n, n = q.length := ⟨_, rfl⟩
  have hmn : n ≤ 9223372036854775807 := by rw [hn]; exact h.many
  rw [← hn]
  generalize hR : overB (ces q) = R at *
  have HR := Lib.hid hR
  have HQ := Lib.hid h
  have HN := Lib.hid hn
  have hlen : (ces q).length = n := by rw [ces_length, hn]
  by_cases h120 : 120 < n
  · have HF := Lib.hid (show R = true by rw [← hR]; unfold overB; rw [hlen]; simp [h120])
    have t : (120 : Int) < n := by omega
    clear h hn hR hlen h120
    go_enter Try.func46, Try.ntmps46
    go_wp2
    go_ret
    rw [HF.out]
    exact ⟨rfl, Below.refl _ _⟩
  · have t : decide ((120 : Int) < n) = false := by simp; omega
    have HAny := Lib.hid (show (ces q).any (fun e => decide (50 < e.x.length)) = R by rw [← hR]; unfold overB; rw [hlen]; simp [h120])
    clear h hn hR h120
    have HLen := Lib.hid hlen
    clear hlen
    go_enter Try.func46, Try.ntmps46
    go_wp2
    go_loopw [10] (fun i wr => ∃ k : Nat, k ≤ n ∧ i = .int .i64 k ∧ Hid (NoneC (fun e => decide (50 < e.x.length)) (ces q) k) ∧ Hid (Below w.heap.size w wr)) (fun i _ => n - (intOf i).toNat)
    case atStart => exact ⟨0, Nat.zero_le _, rfl, Lib.hid (fun j u hj => by omega), Lib.hid (Below.refl _ _)⟩
    case round =>
      obtain ⟨k, hk, rfl, HK, HB⟩ := hrel
      by_cases hkn : k < n
      · obtain ⟨b, o, p, rfl, hp, hbb, c0, c1, c2, c3, c4, hv, hf⟩ := (HQ.out.below HB.out).at_ (i := k) (by rw [← HN.out]; exact hkn)
        have HP := Lib.hid (ces_at hp)
        have k0 : (0 : Int) ≤ k := by omega
        have kn : (k : Int) < n := by omega
        have HB1 := Lib.hid (HB.out.trans ((cel_alloc wr p.e.u p.e.i p.e.b p.e.f p.B p.e.x.length p.c).mono HB.out.size))
        clear hv hp hf
        by_cases h50 : 50 < p.e.x.length
        · have HF := Lib.hid (show R = true by rw [← HAny.out]; exact List.any_eq_true.2 ⟨p.e, List.mem_of_getElem? HP.out, by simpa using h50⟩)
          have t5 : (50 : Int) < p.e.x.length := by omega
          generalize p.e.x.length = nx at *
          clear h50
          go_wp2
          go_ret
          rw [HF.out]
          exact ⟨rfl, HB1.out⟩
        · have HK2 := Lib.hid (HK.out.step HP.out (by simpa using h50))
          have t5 : decide ((50 : Int) < p.e.x.length) = false := by simp; omega
          generalize p.e.x.length = nx at *
          clear h50
          go_wp2
          go_roundw
          case rel => exact ⟨k + 1, by omega, by go_num, HK2, HB1⟩
          case measure => simp [intOf]; omega
      · obtain rfl : k = n := by omega
        have HF := Lib.hid (show R = false by
          rw [← HAny.out, List.any_eq_false]
          intro e he
          obtain ⟨j, hj, rfl⟩ := List.getElem_of_mem he
          have h5 : decide (50 < ((ces q)[j]).x.length) = false := HK.out j _ (by rw [HLen.out] at hj; exact hj) (List.getElem?_eq_getElem hj)
          rw [h5]; simp)
        go_wp2
        go_ret
        rw [HF.out]
        exact ⟨rfl, HB.out⟩
theorem over_any (A : Option Addr) (c : Nat) (q : List Pa) (w : World) (h : Are w A c q) :
    Calls Try.prog 11 #[.agg #[.slice A q.length c]] w fun e w' => e = .returned (.bool (overB (ces q))) ∧ Below w.heap.size w w' := by
  have hb : Below w.heap.size w (w.alloc (.cells #[.slice A q.length c] 24)) := (Below.refl _ w).alloc (Nat.le_refl _) _
  have HC := Lib.hid (overC_any A c q _ (h.below hb))
  have HB := Lib.hid hb
  generalize overB (ces q) = R at *
  generalize q.length = n at *
  clear h hb
  go_enter Try.func11, Try.ntmps11
  go_wp2_with fail
  refine HC.out.mono ?_
  rintro e w1 ⟨rfl, hb1⟩
  have HB1 := Lib.hid (HB.out.trans (hb1.mono HB.out.size))
  clear hb1
  go_wp2
  go_ret
  exact ⟨rfl, HB1.out⟩

/-! ### wakes -/
def a0 : List Ce := List.replicate 96 zc
def a1 : List Ce := a0.set 0 ⟨true, 7, 1, 0, [5]⟩
def a2 : List Ce := a1.set 1 ⟨true, 2, 3, 0, [5]⟩
theorem wk1 : putE a0 1 0 [5] = 0 := by decide +kernel
theorem wk2 : putK a0 1 0 [5] = 0 := by decide +kernel
theorem wk3 : putL a0 7 1 0 [5] = a1 := by decide +kernel
theorem wk4 : putE a1 3 0 [5] = 0 := by decide +kernel
theorem wk5 : putK a1 3 0 [5] = 1 := by decide +kernel
theorem wk6 : putL a1 2 3 0 [5] = a2 := by decide +kernel
theorem wk7 : arB a2 = true := by decide +kernel
theorem wk8 : freeA a2 = 94 := by decide +kernel
theorem wk9 : pickL a2 (fun _ => true) = [0, 1] := by decide +kernel
instance (l : List Ce) (s : List Nat) : Decidable (Srt l s) := by unfold Srt; infer_instance
theorem wk10 : rowsS a2 = [1, 0] := by
  unfold rowsS ordS
  rw [wk9]
  exact ord_of (List.Perm.swap 0 1 []) (by decide +kernel) (by decide)
theorem wk11 : rowsA a2 = [⟨true, 2, 3, 0, [5]⟩, ⟨true, 7, 1, 0, [5]⟩] := by
  unfold rowsA
  rw [if_pos wk7, wk10]
  decide +kernel

set_option maxHeartbeats 4000000 in
theorem wakes_any (w : World) : Calls Try.prog 10 #[] w fun e w' => e = .returned (.bool true) ∧ Below w.heap.size w w' := by
  have HN := Lib.hid (newA_any w)
  go_enter Try.func10, Try.ntmps10
  go_wp2_with fail
  refine HN.out.mono ?_
  rintro e w1 ⟨g, q0, rfl, hq0, hl0, ho0, hb1⟩
  have HA0 := Lib.hid (show Are w1 (some ⟨g, 0, none⟩) 96 q0 from ho0.are)
  have HB1 := Lib.hid hb1
  have HO1 := Lib.hid (one_any 1 w1)
  have HQ0 := Lib.hid (show ces q0 = a0 from hq0)
  have HL0 := Lib.hid hl0
  clear hq0 hl0 ho0 hb1
  go_wp2_with fail
  refine HO1.out.mono ?_
  rintro e w2 ⟨g1, rfl, hv1, hb2⟩
  have hp := put_any (some ⟨g, 0, none⟩) 96 q0 7 1 0 (some ⟨g1, 0, none⟩) 1 [5] w2 (HA0.out.below hb2) hv1 (by unfold U64s; decide) (by unfold U64s; decide) u64_0
  rw [HQ0.out, HL0.out, wk1, wk2, wk3] at hp
  have HP1 := Lib.hid hp
  have HB2 := Lib.hid (HB1.out.trans (hb2.mono HB1.out.size))
  clear hv1 hb2 hp
  go_wp2_with fail
  refine HP1.out.mono ?_
  rintro e w3 ⟨A3, c3, q3, rfl, hq3, ho3, hb3⟩
  have HB3 := Lib.hid (HB2.out.trans (hb3.mono HB2.out.size))
  have hl3 : q3.length = 96 := by rw [← ces_length, hq3]; decide +kernel
  have HA3 := Lib.hid ho3.are
  have HQ3 := Lib.hid hq3
  obtain ⟨z, hz⟩ : ∃ z, z = w3.heap.size := ⟨_, rfl⟩
  obtain ⟨V, hV⟩ : ∃ V, V = w3.alloc (.cells #[.slice A3 q3.length c3] 24) := ⟨_, rfl⟩
  have hbV : Below w3.heap.size w3 V := by rw [hV]; exact (Below.refl _ w3).alloc (Nat.le_refl _) _
  have hxV : Boxed V z 24 (.slice A3 q3.length c3) := by rw [hV, hz]; exact Boxed.new w3 _ _
  have HX := Lib.hid hxV
  have HBV := Lib.hid (HB3.out.trans (hbV.mono HB3.out.size))
  have HAV := Lib.hid (HA3.out.below hbV)
  have HV := Lib.hid hV
  have HZ := Lib.hid hz
  have HWz := Lib.hid (show w.heap.size ≤ z by rw [hz]; exact HB3.out.size)
  have cz := hxV.cell
  have fz := hxV.frozen
  rw [hl3] at HX HV cz ⊢
  have HL3 := Lib.hid hl3
  clear hq3 ho3 hb3 hl3 hbV hV hxV hz
  go_wp2_with (rw [← HV.out])
  rw [← HZ.out]
  go_region_with (first
    | (go_at_call 45; refine (one_any 3 _).mono ?_; rintro e w4 ⟨g4, rfl, hv4, hb4⟩; have hb4' : Below V.heap.size V w4 := (below_drew (Below.refl _ V)).trans hb4; have x4 : Boxed w4 z 24 (.slice A3 96 c3) := (hb4'.block _ HX.out.lt).trans HX.out; have cz4 := x4.cell; have hp4 := put_any A3 c3 q3 2 3 0 (some ⟨g4, 0, none⟩) 1 [5] w4 (HAV.out.below hb4') hv4 (by unfold U64s; decide) (by unfold U64s; decide) u64_0; rw [HQ3.out, HL3.out, wk4, wk5, wk6] at hp4; have HP4 := Lib.hid hp4; have HB4 := Lib.hid hb4'; have HX4 := Lib.hid x4; clear hv4 hb4 hb4' x4 hp4)
    | (go_at_call 44; refine HP4.out.mono ?_; rintro e w5 ⟨A5, c5, q5, rfl, hq5, ho5, hb5⟩; have x5 : Boxed w5 z 24 (.slice A3 96 c3) := (hb5.block _ HX4.out.lt).trans HX4.out; have cz5 := x5.cell; have fz5 := x5.frozen; have hl5 : q5.length = 96 := (by rw [← ces_length, hq5]; decide +kernel); have t5 := turn_set w5 z 0 (.slice A5 q5.length c5); have hbz := HB4.out.trans (hb5.mono HB4.out.size); have HL5 := Lib.hid hl5; have hF5 := (show ces q5 = a2 ∧ True ∧ Are (w5.setCell ⟨z, 0, none⟩ (.slice A5 q5.length c5)) A5 c5 q5 ∧ Boxed (w5.setCell ⟨z, 0, none⟩ (.slice A5 q5.length c5)) z 24 (.slice A5 q5.length c5) ∧ Below w.heap.size w (w5.setCell ⟨z, 0, none⟩ (.slice A5 q5.length c5)) from ⟨hq5, trivial, (ho5.turn t5 (fun i hi _ e => by have := HX4.out.lt; omega)).are, x5.set _, ((HBV.out.trans (hbz.mono HBV.out.size)).setCell HWz.out _)⟩); rw [hl5] at hF5 ⊢; have HF5 := Lib.hid hF5; clear hq5 ho5 hb5 x5 hl5 t5 hbz hF5))
  all_goals (
    obtain ⟨W6, hW6⟩ : ∃ W6, W6 = w5.setCell ⟨z, 0, none⟩ (.slice A5 96 c5) := ⟨_, rfl⟩
    rw [← hW6]
    rw [← hW6] at HF5
    have cz6 := HF5.out.2.2.2.1.cell
    have hb := byRows_any A5 c5 q5 W6 HF5.out.2.2.1
    have HFr := Lib.hid (fun (X : World) (hX : Below W6.heap.size W6 X) => free_any A5 c5 q5 X (HF5.out.2.2.1.below hX))
    rw [HF5.out.1, HL5.out, wk11, chkA_ok wk7] at hb
    rw [HF5.out.1, HL5.out, wk8] at HFr
    have HBR := Lib.hid hb
    clear hb hW6
    go_wp2_with fail
    refine HBR.out.mono ?_
    rintro e w7 ⟨A7, c7, q7, rfl, hq7, ho7, hb7⟩
    have hl7 : q7.length = 2 := by rw [← ces_length, hq7]; rfl
    have x7 : Boxed w7 z 24 (.slice A5 96 c5) := (hb7.block _ HF5.out.2.2.2.1.lt).trans HF5.out.2.2.2.1
    have cz7 := x7.cell
    obtain ⟨b, o, p, rfl, hp, hbb, d0, d1, d2, d3, d4, _, _⟩ := ho7.are.at_ (i := 0) (by omega)
    have hpi : p.e.i = 2 := by
      have := ces_at hp
      rw [hq7] at this
      injection this with this
      rw [← this]
    rw [hpi] at d1
    simp only [Nat.zero_mul, Nat.add_zero] at d1
    rw [hl7]
    have HFr7 := Lib.hid (HFr.out w7 hb7)
    have HB7 := Lib.hid (HF5.out.2.2.2.2.trans (hb7.mono HF5.out.2.2.2.2.size))
    clear hq7 ho7 hb7 hl7 x7 hp hbb d0 d2 d3 d4 hpi
    go_wp2_with fail
    refine HFr7.out.mono ?_
    rintro e w8 ⟨rfl, hb8⟩
    have HB8 := Lib.hid (HB7.out.trans (hb8.mono HB7.out.size))
    clear hb8
    go_wp2
    go_ret
    exact ⟨rfl, HB8.out⟩)

end Go.Proofs.Ytdbcecmlakgknaa

namespace Go.Proofs.Ytdbcecmlakgknaa
open Go.ChangeShapes Go.WideShapes Go.ChangeAt Go.RowKit Go.Deep
set_option linter.unusedVariables false
set_option linter.unusedSimpArgs false
set_option maxRecDepth 100000

theorem Try.own : ownKnob Try.prog.godebug = none := by kernel_rfl
theorem Try.laidOut : laidOutB Try.prog = true := by kernel_rfl

/-- All arguments at once: below the heap's old size nothing has turned, so each reads as it did. -/
theorem trodAll_kept {H : Type} {enc : TypeId × Value → H} {P : Program} {W W' : World} (hl : laidOutB P = true) (hb : Below W.heap.size W W') (ts : List TypeId) :
    ∀ (vs : List Value) (ds : List (DataW H)) (ps : List MemPlace), (ts.all fun t => P.readableRec t && decide (t < P.types.size)) = true →
      DataW.TrodAll enc P W 0 (fun _ => true) true ts vs ds ps → DataW.TrodAll enc P W' 0 (fun b => decide (b < W.heap.size)) true ts vs ds ps := by
  induction ts with
  | nil =>
    intro vs ds ps _ h
    rcases vs with _ | ⟨v, vs⟩ <;> rcases ds with _ | ⟨d, ds⟩ <;> simp [DataW.TrodAll] at h ⊢
    exact h
  | cons t ts ih =>
    intro vs ds ps ht h
    rcases vs with _ | ⟨v, vs⟩
    · simp [DataW.TrodAll] at h
    rcases ds with _ | ⟨d, ds⟩
    · simp [DataW.TrodAll] at h
    obtain ⟨p, q, h1, h2, rfl⟩ := h
    simp only [List.all_cons, Bool.and_eq_true, decide_eq_true_eq] at ht
    have lt : ∀ x ∈ p, x.block < W.heap.size := by obtain ⟨m, hm⟩ := h1; exact DataW.trod_lt m _ _ _ hm
    exact ⟨p, q, Below.trod hl ht.1.1 ht.1.2 h1 hb lt, ih vs ds q ht.2 h2, rfl⟩
theorem trodAll_below {H : Type} {enc : TypeId × Value → H} {W W' : World} (hb : Below W.heap.size W W') (ts : List TypeId) (vs : List Value) (ds : List (DataW H)) (ps : List MemPlace)
    (ht : (ts.all fun t => Try.prog.readableRec t && decide (t < Try.prog.types.size)) = true) (h : DataW.TrodAll enc Try.prog W 0 (fun _ => true) true ts vs ds ps) :
    DataW.TrodAll enc Try.prog W' 0 (fun b => decide (b < W.heap.size)) true ts vs ds ps := trodAll_kept Try.laidOut hb ts vs ds ps ht h

/-- Numbers that came in. -/
theorem vec_core {H : Type} {enc : TypeId × Value → H} {W : World} {fuel : Nat} {cs : List Value} {x : DataW H × List MemPlace} (h : DataW.trod enc Try.prog W 0 (fun _ => true) true fuel 41 cs = some x) :
    ∃ A c xs, cs = [.slice A (List.length xs) c] ∧ Vec .i32 W A c xs := by
  rcases open_ints Try.underlying41 Try.underlying21 (by kernel_rfl) h with ⟨hcs, _⟩ | ⟨x, len, cap, zs, hcs, _, hl, hm, hz, _, hcell, hwz⟩
  · exact ⟨none, 0, [], hcs, Vec.nil _ _⟩
  · have hz' : zs.length = cap := by simpa using hz
    have hlen : (zs.take len).length = len := by simp; omega
    refine ⟨some x, cap, zs.take len, by rw [hlen]; exact hcs, ⟨by omega, by unfold maxLen at hm; omega, fun hp => ?_, fun b hb => hwz b (List.mem_of_mem_take hb)⟩⟩
    obtain ⟨b, off, spot⟩ := x
    have hc := hcell 0 (by omega)
    have hspot : spot = none := by simpa [Addr.add] using World.cell?_spot hc
    subst hspot
    have hc' : W.cell? ⟨b, off, none⟩ = some (.int .i32 (zs.getD 0 0)) := by simpa [Addr.add] using hc
    refine ⟨b, off, rfl, World.block_lt_of_cell? W _ hc', fun j hj => ?_⟩
    have h1 := hcell j (by omega)
    rw [Addr.add_lit] at h1
    rw [h1]
    have : j < len := by omega
    simp [List.getD, this]
theorem ver_core {H : Type} {enc : TypeId × Value → H} {W : World} {fuel : Nat} {cs : List Value} {x : DataW H × List MemPlace} (h : DataW.trod enc Try.prog W 0 (fun _ => true) true fuel 43 cs = some x) :
    ∃ b f A c xs, cs = [.int .u64 b, .int .u64 f, .slice A (List.length xs) c] ∧ (Lit.int .u64 b).wf = true ∧ (Lit.int .u64 f).wf = true ∧ Vec .i32 W A c xs := by
  have hu := Try.underlying43
  have hone := fun i f => hone_of (P := Try.prog) (fs := (match Try.prog.underlying 43 with | some (.struct fs) => fs | _ => #[])) (by kernel_rfl) i f
  rw [hu] at hone
  obtain ⟨ys, n, _, _, hlen, hy, hf⟩ := DataW.trod_struct hu h
  have h2 : Try.prog.cellsOf 43 = 3 := by kernel_rfl
  rw [h2] at hlen
  match cs, hlen with
  | [v0, v1, v2], _ =>
    have f0 : DataW.trod enc Try.prog W 0 (fun _ => true) true n 25 [v0] = ys[0]? := by have h1 := hf 0 _ rfl; obtain ⟨o1, k1⟩ := hone 0 _ rfl; rw [o1, k1] at h1; exact h1
    have f1 : DataW.trod enc Try.prog W 0 (fun _ => true) true n 25 [v1] = ys[1]? := by have h1 := hf 1 _ rfl; obtain ⟨o1, k1⟩ := hone 1 _ rfl; rw [o1, k1] at h1; exact h1
    have f2 : DataW.trod enc Try.prog W 0 (fun _ => true) true n 41 [v2] = ys[2]? := by have h1 := hf 2 _ rfl; obtain ⟨o1, k1⟩ := hone 2 _ rfl; rw [o1, k1] at h1; exact h1
    have g : ∀ (i : Nat) (hi : i < 3), ∃ y, ys[i]? = some y := fun i hi => ⟨_, List.getElem?_eq_getElem (by rw [hy]; exact hi)⟩
    obtain ⟨y0, e0⟩ := g 0 (by omega)
    obtain ⟨y1, e1⟩ := g 1 (by omega)
    obtain ⟨y2, e2⟩ := g 2 (by omega)
    rw [e0] at f0
    rw [e1] at f1
    rw [e2] at f2
    obtain ⟨a, ha, _, wa⟩ := DataW.trod_int Try.underlying25 f0
    obtain ⟨b, hb, _, wb⟩ := DataW.trod_int Try.underlying25 f1
    obtain ⟨A, c, xs, hc, hv⟩ := vec_core f2
    simp at ha hb hc
    subst ha
    subst hb
    subst hc
    exact ⟨a, b, A, c, xs, rfl, wa, wb, hv⟩


theorem open_ver {H : Type} {enc : TypeId × Value → H} {r : Reach} {b0 : Nat} {v : Value} {W : World} {d : DataW H} {p : List MemPlace} (hv : Value.okWide Try.prog W r b0 43 v) (h : DataW.Trod enc Try.prog W 0 (fun _ => true) true 43 v d p) :
    ∃ b f A c xs, v = .agg #[.int .u64 b, .int .u64 f, .slice A (List.length xs) c] ∧ U64s b ∧ U64s f ∧ Vec .i32 W A c xs := by
  obtain ⟨cs, rfl, _⟩ := okWide_struct Try.underlying43 hv
  obtain ⟨fuel, hf⟩ := h
  obtain ⟨b, f, A, c, xs, e, wb, wf, hx⟩ := ver_core (cs := cs.toList) (by simpa [Value.cells] using hf)
  exact ⟨b, f, A, c, xs, by congr 1; exact Array.toList_inj.1 e, wb, wf, hx⟩

theorem cell_core {H : Type} {enc : TypeId × Value → H} {W : World} {fuel : Nat} {cs : List Value} {x : DataW H × List MemPlace} (h : DataW.trod enc Try.prog W 0 (fun _ => true) true fuel 45 cs = some x) :
    ∃ p : Pa, cs = [.bool p.e.u, .int .u64 p.e.i, .int .u64 p.e.b, .int .u64 p.e.f, .slice p.B p.e.x.length p.c] ∧ Fit p.e ∧ Vec .i32 W p.B p.c p.e.x := by
  have hu := Try.underlying45
  obtain ⟨ys, n, _, _, hlen, hy, hf⟩ := DataW.trod_struct hu h
  have h5 : Try.prog.cellsOf 45 = 5 := by kernel_rfl
  have h3 : Try.prog.cellsOf 43 = 3 := by kernel_rfl
  have h1b : Try.prog.cellsOf 4 = 1 := by kernel_rfl
  have h1u : Try.prog.cellsOf 25 = 1 := by kernel_rfl
  rw [h5] at hlen
  match cs, hlen with
  | [v0, v1, v2, v3, v4], _ =>
    have f0 : DataW.trod enc Try.prog W 0 (fun _ => true) true n 4 [v0] = ys[0]? := by have h1 : DataW.trod enc Try.prog W 0 (fun _ => true) true n 4 (([v0, v1, v2, v3, v4].drop 0).take (Try.prog.cellsOf 4)) = ys[0]? := hf 0 _ rfl; rw [h1b] at h1; exact h1
    have f1 : DataW.trod enc Try.prog W 0 (fun _ => true) true n 25 [v1] = ys[1]? := by have h1 : DataW.trod enc Try.prog W 0 (fun _ => true) true n 25 (([v0, v1, v2, v3, v4].drop 1).take (Try.prog.cellsOf 25)) = ys[1]? := hf 1 _ rfl; rw [h1u] at h1; exact h1
    have f2 : DataW.trod enc Try.prog W 0 (fun _ => true) true n 43 [v2, v3, v4] = ys[2]? := by have h1 : DataW.trod enc Try.prog W 0 (fun _ => true) true n 43 (([v0, v1, v2, v3, v4].drop 2).take (Try.prog.cellsOf 43)) = ys[2]? := hf 2 _ rfl; rw [h3] at h1; exact h1
    have g : ∀ (i : Nat) (hi : i < 3), ∃ y, ys[i]? = some y := fun i hi => ⟨_, List.getElem?_eq_getElem (by rw [hy]; exact hi)⟩
    obtain ⟨y0, e0⟩ := g 0 (by omega)
    obtain ⟨y1, e1⟩ := g 1 (by omega)
    obtain ⟨y2, e2⟩ := g 2 (by omega)
    rw [e0] at f0
    rw [e1] at f1
    rw [e2] at f2
    obtain ⟨u, hu0, _⟩ := DataW.trod_bool Try.underlying4 f0
    obtain ⟨i, hi, _, wi⟩ := DataW.trod_int Try.underlying25 f1
    obtain ⟨b, f, A, c, xs, hc, wb, wf, hv⟩ := ver_core f2
    simp at hu0 hi hc
    obtain ⟨rfl, rfl, rfl⟩ := hc
    subst hu0
    subst hi
    exact ⟨⟨⟨u, i, b, f, xs⟩, A, c⟩, rfl, ⟨wi, wb, wf⟩, hv⟩

/-- Cells that came in. -/
theorem cells_core {H : Type} {enc : TypeId × Value → H} {W : World} {fuel : Nat} {cs : List Value} {x : DataW H × List MemPlace} (h : DataW.trod enc Try.prog W 0 (fun _ => true) true fuel 22 cs = some x) :
    ∃ A c q, cs = [.slice A (List.length q) c] ∧ Are W A c q := by
  have h5 : Try.prog.cellsOf 45 = 5 := by kernel_rfl
  rcases open_slice Try.underlying22 h with ⟨hcs, _⟩ | ⟨a, len, cap, m, nn, D, Ps, hcs, _, hl, hm, hmm, _, hi⟩
  · exact ⟨none, 0, [], hcs, Are.nil _⟩
  · have hmc : m = cap := by simpa using hmm
    subst hmc
    rw [h5] at hi
    have each : ∀ i, i < len → ∃ p : Pa, W.cell? (a.add (i * 5)) = some (.bool p.e.u) ∧ W.cell? ((a.add (i * 5)).add 1) = some (.int .u64 p.e.i) ∧ W.cell? ((a.add (i * 5)).add 2) = some (.int .u64 p.e.b) ∧ W.cell? ((a.add (i * 5)).add 3) = some (.int .u64 p.e.f) ∧ W.cell? ((a.add (i * 5)).add 4) = some (.slice p.B p.e.x.length p.c) ∧ Vec .i32 W p.B p.c p.e.x ∧ Fit p.e := fun i him => by
      obtain ⟨cs', hc, ht⟩ := hi i (by omega)
      obtain ⟨p, hcs', hfit, hv⟩ := cell_core ht
      obtain ⟨_, _, hat⟩ := World.cells?_some hc
      subst hcs'
      refine ⟨p, ?_, ?_, ?_, ?_, ?_, hv, hfit⟩
      · have := hat 0 (by omega); simpa [Addr.add] using this
      · simpa using hat 1 (by omega)
      · simpa using hat 2 (by omega)
      · simpa using hat 3 (by omega)
      · simpa using hat 4 (by omega)
    haveI : Inhabited Pa := ⟨pz⟩
    obtain ⟨f, hf⟩ := choose_lt each
    refine ⟨some a, m, (List.range len).map f, by simpa using hcs, by simpa using hl, by unfold maxLen at hm; omega, fun hp => ?_, fun p hp => ?_, fun p hp => ?_⟩
    · have hp' : 0 < len := by simpa using hp
      obtain ⟨b, off, spot⟩ := a
      obtain ⟨hc0, _⟩ := hf 0 hp'
      have hspot : spot = none := by simpa [Addr.add] using World.cell?_spot hc0
      subst hspot
      refine ⟨b, off, rfl, World.block_lt_of_cell? W _ (by simpa [Addr.add] using hc0), fun i p hip => ?_⟩
      have hil : i < len := by have := (List.getElem?_eq_some_iff.1 hip).1; simpa using this
      have hpe : f i = p := by simpa [hil] using hip
      obtain ⟨g0, g1, g2, g3, g4, _⟩ := hf i hil
      simp only [Addr.add_lit] at g0 g1 g2 g3 g4
      rw [hpe] at g0 g1 g2 g3 g4
      exact ⟨g0, g1, g2, g3, g4⟩
    · obtain ⟨i, hi', rfl⟩ := List.mem_map.1 hp
      exact (hf i (List.mem_range.1 hi')).2.2.2.2.2.1
    · obtain ⟨i, hi', rfl⟩ := List.mem_map.1 hp
      exact (hf i (List.mem_range.1 hi')).2.2.2.2.2.2
theorem open_cells {H : Type} {enc : TypeId × Value → H} {W : World} {a : Option Addr} {len cap : Nat} {d : DataW H} {p : List MemPlace}
    (h : DataW.Trod enc Try.prog W 0 (fun _ => true) true 22 (.slice a len cap) d p) : ∃ q : List Pa, q.length = len ∧ Are W a cap q := by
  obtain ⟨fuel, hf⟩ := h
  obtain ⟨A, c, l, hcs, hh⟩ := cells_core hf
  simp [Value.cells] at hcs
  obtain ⟨rfl, e, rfl⟩ := hcs
  exact ⟨l, e.symm, hh⟩
theorem open_arena {H : Type} {enc : TypeId × Value → H} {r : Reach} {b0 : Nat} {v : Value} {W : World} {d : DataW H} {p : List MemPlace} (hv : Value.okWide Try.prog W r b0 24 v) (h : DataW.Trod enc Try.prog W 0 (fun _ => true) true 24 v d p) :
    ∃ A c q, v = .agg #[.slice A (List.length q) c] ∧ Are W A c q := by
  obtain ⟨cs, rfl, _⟩ := okWide_struct Try.underlying24 hv
  obtain ⟨fuel, hf⟩ := h
  have hf' : DataW.trod enc Try.prog W 0 (fun _ => true) true fuel 24 cs.toList = some (d, p) := by simpa [Value.cells] using hf
  obtain ⟨ys, n, _, _, hlen, hy, hg⟩ := DataW.trod_struct Try.underlying24 hf'
  have h1 : Try.prog.cellsOf 24 = 1 := by kernel_rfl
  have h1s : Try.prog.cellsOf 22 = 1 := by kernel_rfl
  rw [h1] at hlen
  obtain ⟨l, hl⟩ : ∃ l, l = cs.toList := ⟨_, rfl⟩
  rw [← hl] at hlen hg
  match l, hlen with
  | [v0], _ =>
    have f0 : DataW.trod enc Try.prog W 0 (fun _ => true) true n 22 [v0] = ys[0]? := by have h1 : DataW.trod enc Try.prog W 0 (fun _ => true) true n 22 (([v0].drop 0).take (Try.prog.cellsOf 22)) = ys[0]? := hg 0 _ rfl; rw [h1s] at h1; exact h1
    obtain ⟨y0, e0⟩ : ∃ y, ys[0]? = some y := ⟨_, List.getElem?_eq_getElem (by rw [hy]; exact Nat.zero_lt_one)⟩
    rw [e0] at f0
    obtain ⟨A, c, q, hc, hh⟩ := cells_core f0
    refine ⟨A, c, q, ?_, hh⟩
    congr 1
    apply Array.toList_inj.1
    rw [← hl, hc]

theorem open_slots {H : Type} {enc : TypeId × Value → H} {W : World} {a : Option Addr} {len cap : Nat} {d : DataW H} {p : List MemPlace}
    (h : DataW.Trod enc Try.prog W 0 (fun _ => true) true 30 (.slice a len cap) d p) : ∃ xs : List Int, xs.length = len ∧ Vec .i64 W a cap xs := by
  obtain ⟨fuel, hf⟩ := h
  rcases open_ints Try.underlying30 Try.underlying3 (by kernel_rfl) hf with ⟨hcs, _⟩ | ⟨x, l, c, zs, hcs, _, hl, hm, hz, _, hcell, hwz⟩
  · simp [Value.cells] at hcs
    obtain ⟨rfl, rfl, rfl⟩ := hcs
    exact ⟨[], rfl, Vec.nil _ _⟩
  · simp [Value.cells] at hcs
    obtain ⟨rfl, rfl, rfl⟩ := hcs
    have hz' : zs.length = cap := by simpa using hz
    have hlen : (zs.take len).length = len := by simp; omega
    refine ⟨zs.take len, hlen, by omega, by unfold maxLen at hm; omega, fun hp => ?_, fun b hb => hwz b (List.mem_of_mem_take hb)⟩
    obtain ⟨b, off, spot⟩ := x
    have hc := hcell 0 (by omega)
    have hspot : spot = none := by simpa [Addr.add] using World.cell?_spot hc
    subst hspot
    have hc' : W.cell? ⟨b, off, none⟩ = some (.int .i64 (zs.getD 0 0)) := by simpa [Addr.add] using hc
    refine ⟨b, off, rfl, World.block_lt_of_cell? W _ hc', fun j hj => ?_⟩
    have h1 := hcell j (by omega)
    rw [Addr.add_lit] at h1
    rw [h1]
    have : j < len := by omega
    simp [List.getD, this]
theorem open_time {H : Type} {enc : TypeId × Value → H} {r : Reach} {b0 : Nat} {v : Value} {W : World} {d : DataW H} {p : List MemPlace} (hv : Value.okWide Try.prog W r b0 25 v) (h : DataW.Trod enc Try.prog W 0 (fun _ => true) true 25 v d p) :
    ∃ a, v = .int .u64 a ∧ U64s a := by
  obtain ⟨a, e, _, _, w⟩ := open_int Try.underlying25 hv h
  exact ⟨a, e, w⟩

end Go.Proofs.Ytdbcecmlakgknaa
