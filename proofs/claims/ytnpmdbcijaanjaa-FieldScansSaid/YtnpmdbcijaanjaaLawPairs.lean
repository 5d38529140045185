/-
  A slice of structs of two numbers that came in, for the rows of laws.
-/
import Derived.Test.YtnpmdbcijaanjaaLawFrame
import Derived.Deep.SlicePairs
namespace Go.Proofs.Ytnpmdbcijaanjaa
open Go.ChangeShapes Go.WideShapes Go.ChangeAt Go.RowKit Go.Deep
set_option linter.unusedVariables false

/-- At A the pairs ps can be read: numbers of the kinds k1, k2, two cells each. -/
def Pairs (k1 k2 : IntKind) (w : World) (A : Option Addr) (ps : List (Int × Int)) : Prop :=
  0 < ps.length → ∃ b o, A = some ⟨b, o, none⟩ ∧ b < w.heap.size ∧ ∀ j, j < ps.length → w.cell? ⟨b, o + j * 2, none⟩ = some (.int k1 (ps.getD j (0, 0)).1) ∧ w.cell? ⟨b, o + j * 2 + 1, none⟩ = some (.int k2 (ps.getD j (0, 0)).2) ∧
    (Lit.int k1 (ps.getD j (0, 0)).1).wf = true ∧ (Lit.int k2 (ps.getD j (0, 0)).2).wf = true

theorem Pairs.below {k1 k2 : IntKind} {w w' : World} {A : Option Addr} {ps : List (Int × Int)} (h : Pairs k1 k2 w A ps) (hb : Below w.heap.size w w') : Pairs k1 k2 w' A ps := by
  intro hp
  obtain ⟨b, o, rfl, hl, hc⟩ := h hp
  refine ⟨b, o, rfl, Nat.lt_of_lt_of_le hl hb.size, fun j hj => ?_⟩
  obtain ⟨h1, h2, h3, h4⟩ := hc j hj
  exact ⟨(hb.cell (p := ⟨b, o + j * 2, none⟩) hl).trans h1, (hb.cell (p := ⟨b, o + j * 2 + 1, none⟩) hl).trans h2, h3, h4⟩

theorem open_pairs_of {H : Type} {enc : TypeId × Value → H} {P : Program} {W : World} {t e t0 t1 : TypeId} {f0 f1 : Field} {k1 k2 : IntKind} {a : Option Addr} {len cap : Nat} {d : DataW H} {p : List MemPlace} (ht : P.underlying t = some (.slice e)) (he : P.underlying e = some (.struct #[f0, f1]))
    (ce : P.cellsOf e = 2) (o0 : f0.offset = 0) (o1 : f1.offset = 1) (c0 : P.cellsOf f0.type = 1) (c1 : P.cellsOf f1.type = 1) (u0 : P.underlying f0.type = some (.int k1)) (u1 : P.underlying f1.type = some (.int k2))
    (h : DataW.Trod enc P W 0 (fun _ => true) true t (.slice a len cap) d p) : ∃ ps : List (Int × Int), ps.length = len ∧ Pairs k1 k2 W a ps := by
  obtain ⟨fuel, hf⟩ := h
  rcases open_slice_pairs ht he ce o0 o1 c0 c1 hf with ⟨hcs, _⟩ | ⟨x, l, c, m, n, V0, V1, D0, D1, P0, P1, hcs, _, hl, hm, hmm, _, hcell⟩
  · simp [Value.cells] at hcs
    obtain ⟨rfl, rfl, rfl⟩ := hcs
    exact ⟨[], rfl, fun h => absurd h (by simp)⟩
  · simp [Value.cells] at hcs
    obtain ⟨rfl, rfl, rfl⟩ := hcs
    have hm' : m = cap := by simpa using hmm
    subst hm'
    refine ⟨(List.range len).map fun i => (intOf (V0 i), intOf (V1 i)), by simp, fun hp => ?_⟩
    have hlen : 0 < len := by simpa using hp
    obtain ⟨b, off, spot⟩ := x
    have hc0 := (hcell 0 (by omega)).1
    have hspot : spot = none := by simpa [Addr.add] using World.cell?_spot hc0
    subst hspot
    have hbl : b < W.heap.size := by
      have hc' : W.cell? ⟨b, off, none⟩ = some (V0 0) := by simpa [Addr.add] using hc0
      rcases Nat.lt_or_ge b W.heap.size with h | h
      · exact h
      · simp [World.cell?, Array.getElem?_eq_none h] at hc'
    refine ⟨b, off, rfl, hbl, fun j hj => ?_⟩
    have hj' : j < len := by simpa using hj
    obtain ⟨h1, h2, h3, h4⟩ := hcell j (by omega)
    obtain ⟨y0, e0, _, wf0⟩ := DataW.trod_int u0 h3
    obtain ⟨y1, e1, _, wf1⟩ := DataW.trod_int u1 h4
    have e0' : V0 j = .int k1 y0 := by simpa using e0
    have e1' : V1 j = .int k2 y1 := by simpa using e1
    rw [Addr.add_lit] at h1 h2
    have hg : ((List.range len).map fun i => (intOf (V0 i), intOf (V1 i))).getD j (0, 0) = (y0, y1) := by
      simp [List.getD, hj', e0', e1', intOf]
    rw [hg]
    exact ⟨by rw [h1, e0'], h2.trans (by rw [e1']), wf0, wf1⟩

theorem open_asks {H : Type} {enc : TypeId × Value → H} {W : World} {a : Option Addr} {len cap : Nat} {d : DataW H} {p : List MemPlace} (h : DataW.Trod enc Try.prog W 0 (fun _ => true) true 31 (.slice a len cap) d p) : ∃ ps : List (Int × Int), ps.length = len ∧ Pairs .i64 .i64 W a ps :=
  open_pairs_of (t0 := 0) (t1 := 0) Try.underlying31 Try.underlying37 (by kernel_rfl) rfl rfl (by kernel_rfl) (by kernel_rfl) Try.underlying3 Try.underlying3 h
theorem open_parts {H : Type} {enc : TypeId × Value → H} {W : World} {a : Option Addr} {len cap : Nat} {d : DataW H} {p : List MemPlace} (h : DataW.Trod enc Try.prog W 0 (fun _ => true) true 51 (.slice a len cap) d p) : ∃ ps : List (Int × Int), ps.length = len ∧ Pairs .i64 .u64 W a ps :=
  open_pairs_of (t0 := 0) (t1 := 0) Try.underlying51 Try.underlying53 (by kernel_rfl) rfl rfl (by kernel_rfl) (by kernel_rfl) Try.underlying3 Try.underlying23 h

end Go.Proofs.Ytnpmdbcijaanjaa
