/-
  For the rows of laws: arguments read behind a call as they read before it; ops, rows of ops, of numbers and of bools that came in.
-/
import Derived.Test.YtienabfilnpieaaGreatRows
import Derived.Test.YtienabfilnpieaaGreatDiskEq
import Derived.Test.YtienabfilnpieaaGreatDiskCopy
import Derived.ProofKit
import Derived.OpenShut
import Derived.ChangeOld
import Derived.Deep.Slices
import Derived.Deep.Fields
import Derived.Deep.Grids
namespace Go.Proofs.YtienabfilnpieaaGreat
open Go.ChangeShapes Go.WideShapes Go.ChangeAt Go.RowKit Go.Deep
set_option linter.unusedVariables false
set_option maxRecDepth 100000

theorem Tryz.own : ownKnob Tryz.prog.godebug = none := by kernel_rfl
theorem Tryz.laidOut : laidOutB Tryz.prog = true := by kernel_rfl

/-- All arguments at once: below the heap's old size nothing has turned, so each reads as it did. -/
theorem trodAll_kept {H : Type} {enc : TypeId × Value → H} {P : Program} {W W' : World} (hl : laidOutB P = true) (hb : Below W.heap.size W W') (ts : List TypeId) :
    ∀ (vs : List Value) (ds : List (DataW H)) (ps : List MemPlace), (ts.all fun t => P.readableRec t && decide (t < P.types.size)) = true →
      DataW.TrodAll enc P W 0 (fun _ => true) true ts vs ds ps → DataW.TrodAll enc P W' 0 (fun b => decide (b < W.heap.size)) true ts vs ds ps := by
  induction ts with
  | nil =>
    intro vs ds ps _ h
    rcases vs with _ | ⟨v, vs⟩ <;> rcases ds with _ | ⟨d, ds⟩ <;> simp [DataW.TrodAll] at h ⊢
    exact h
  | cons t ts ih =>
    intro vs ds ps ht h
    rcases vs with _ | ⟨v, vs⟩
    · simp [DataW.TrodAll] at h
    rcases ds with _ | ⟨d, ds⟩
    · simp [DataW.TrodAll] at h
    obtain ⟨p, q, h1, h2, rfl⟩ := h
    simp only [List.all_cons, Bool.and_eq_true, decide_eq_true_eq] at ht
    have lt : ∀ x ∈ p, x.block < W.heap.size := by obtain ⟨m, hm⟩ := h1; exact DataW.trod_lt m _ _ _ hm
    exact ⟨p, q, Below.trod hl ht.1.1 ht.1.2 h1 hb lt, ih vs ds q ht.2 h2, rfl⟩
theorem trodAll_below {H : Type} {enc : TypeId × Value → H} {W W' : World} (hb : Below W.heap.size W W') (ts : List TypeId) (vs : List Value) (ds : List (DataW H)) (ps : List MemPlace)
    (ht : (ts.all fun t => Tryz.prog.readableRec t && decide (t < Tryz.prog.types.size)) = true) (h : DataW.TrodAll enc Tryz.prog W 0 (fun _ => true) true ts vs ds ps) :
    DataW.TrodAll enc Tryz.prog W' 0 (fun b => decide (b < W.heap.size)) true ts vs ds ps := trodAll_kept Tryz.laidOut hb ts vs ds ps ht h

section
variable {H : Type} {enc : TypeId × Value → H} {W : World}
theorem cell_lt {b o : Nat} {v : Value} (h : W.cell? ⟨b, o, none⟩ = some v) : b < W.heap.size := by
  rcases Nat.lt_or_ge b W.heap.size with h1 | h1
  · exact h1
  · simp [World.cell?, Array.getElem?_eq_none h1] at h

/-- Bytes, told by the cells of a slice. -/
theorem cells_bytes {fuel : Nat} {v : Value} {x : DataW H × List MemPlace} (h : DataW.trod enc Tryz.prog W 0 (fun _ => true) true fuel 33 [v] = some x) :
    ∃ A c bs, v = .slice A bs.length c ∧ Rd W W.heap.size A bs ∧ bs.length ≤ c ∧ c ≤ 9223372036854775807 := by
  rcases open_ints Tryz.underlying33 Tryz.underlying5 (by kernel_rfl) h with ⟨hcs, _⟩ | ⟨a, l, c, zs, hcs, _, hl, hm, hz, _, hcell, hwz⟩
  · simp only [List.cons.injEq, and_true] at hcs
    subst hcs
    exact ⟨none, 0, [], rfl, Rd.empty, by simp, by omega⟩
  · simp only [List.cons.injEq, and_true] at hcs
    subst hcs
    have hz' : zs.length = c := by simpa using hz
    have hlen : (zs.take l).length = l := by simp; omega
    refine ⟨some a, c, zs.take l, by rw [hlen], fun hp => ?_, by omega, by unfold maxLen at hm; omega⟩
    obtain ⟨b, off, spot⟩ := a
    have hc := hcell 0 (by omega)
    have hspot : spot = none := by simpa [Addr.add] using World.cell?_spot hc
    subst hspot
    have hc' : W.cell? ⟨b, off, none⟩ = some (.int .u8 (zs.getD 0 0)) := by simpa [Addr.add] using hc
    refine ⟨b, off, rfl, cell_lt hc', fun j hj => ?_⟩
    have h1 := hcell j (by omega)
    rw [Addr.add_lit] at h1
    rw [h1]
    have : j < l := by omega
    simp [List.getD, this]
theorem cells_bools {fuel : Nat} {v : Value} {x : DataW H × List MemPlace} (h : DataW.trod enc Tryz.prog W 0 (fun _ => true) true fuel 34 [v] = some x) :
    ∃ A c bs, v = .slice A bs.length c ∧ RdB W W.heap.size A bs ∧ bs.length ≤ c ∧ c ≤ 9223372036854775807 := by
  rcases open_bools Tryz.underlying34 Tryz.underlying4 (by kernel_rfl) h with ⟨hcs, _⟩ | ⟨a, l, c, Bf, hcs, _, hl, hm, _, hcell⟩
  · simp only [List.cons.injEq, and_true] at hcs
    subst hcs
    exact ⟨none, 0, [], rfl, fun hp => absurd hp (by simp), by simp, by omega⟩
  · simp only [List.cons.injEq, and_true] at hcs
    subst hcs
    have hlen : ((List.range l).map Bf).length = l := by simp
    refine ⟨some a, c, (List.range l).map Bf, by rw [hlen], fun hp => ?_, by omega, by unfold maxLen at hm; omega⟩
    obtain ⟨b, off, spot⟩ := a
    have hc := hcell 0 (by omega)
    have hspot : spot = none := by simpa [Addr.add] using World.cell?_spot hc
    subst hspot
    have hc' : W.cell? ⟨b, off, none⟩ = some (.bool (Bf 0)) := by simpa [Addr.add] using hc
    refine ⟨b, off, rfl, cell_lt hc', fun j hj => ?_⟩
    have h1 := hcell j (by omega)
    rw [Addr.add_lit] at h1
    rw [h1]
    have : j < l := by omega
    simp [List.getD, this]
theorem cells_ints {fuel : Nat} {v : Value} {x : DataW H × List MemPlace} (h : DataW.trod enc Tryz.prog W 0 (fun _ => true) true fuel 105 [v] = some x) :
    ∃ A c xs, v = .slice A xs.length c ∧ RdI W A xs ∧ xs.length ≤ c ∧ c ≤ 9223372036854775807 ∧ ∀ y ∈ xs, I64 y := by
  rcases open_ints Tryz.underlying105 Tryz.underlying3 (by kernel_rfl) h with ⟨hcs, _⟩ | ⟨a, l, c, zs, hcs, _, hl, hm, hz, _, hcell, hwz⟩
  · simp only [List.cons.injEq, and_true] at hcs
    subst hcs
    exact ⟨none, 0, [], rfl, fun hp => absurd hp (by simp), by simp, by omega, by simp⟩
  · simp only [List.cons.injEq, and_true] at hcs
    subst hcs
    have hz' : zs.length = c := by simpa using hz
    have hlen : (zs.take l).length = l := by simp; omega
    refine ⟨some a, c, zs.take l, by rw [hlen], fun hp => ?_, by omega, by unfold maxLen at hm; omega, fun y hy => hwz y (List.mem_of_mem_take hy)⟩
    obtain ⟨b, off, spot⟩ := a
    have hc := hcell 0 (by omega)
    have hspot : spot = none := by simpa [Addr.add] using World.cell?_spot hc
    subst hspot
    refine ⟨b, off, rfl, fun j hj => ?_⟩
    have h1 := hcell j (by omega)
    rw [Addr.add_lit] at h1
    rw [h1]
    have : j < l := by omega
    simp [List.getD, this]

theorem open_rooms {A : Option Addr} {len c : Nat} {d : DataW H} {p : List MemPlace} (h : DataW.Trod enc Tryz.prog W 0 (fun _ => true) true 105 (.slice A len c) d p) :
    ∃ xs : List Int, xs.length = len ∧ RdI W A xs ∧ len ≤ c ∧ c ≤ 9223372036854775807 ∧ ∀ y ∈ xs, I64 y := by
  obtain ⟨fuel, hf⟩ := h
  obtain ⟨A', c', xs, hv, h1, h2, h3, h4⟩ := cells_ints (v := .slice A len c) (by simpa [Value.cells] using hf)
  injection hv with e1 e2 e3
  subst e1; subst e3
  exact ⟨xs, e2.symm, h1, by omega, h3, h4⟩
theorem open_keep {A : Option Addr} {len c : Nat} {d : DataW H} {p : List MemPlace} (h : DataW.Trod enc Tryz.prog W 0 (fun _ => true) true 34 (.slice A len c) d p) :
    ∃ bs : List Bool, bs.length = len ∧ RdB W W.heap.size A bs ∧ len ≤ c ∧ c ≤ 9223372036854775807 := by
  obtain ⟨fuel, hf⟩ := h
  obtain ⟨A', c', xs, hv, h1, h2, h3⟩ := cells_bools (v := .slice A len c) (by simpa [Value.cells] using hf)
  injection hv with e1 e2 e3
  subst e1; subst e3
  exact ⟨xs, e2.symm, h1, by omega, h3⟩
end

end Go.Proofs.YtienabfilnpieaaGreat
