/-
  Hits that came in: their numbers fit.
-/
import Derived.Test.YtdbcecmlakgknaaTopLeft
import Derived.Test.YtdbcecmlakgknaaMArf
namespace Go.Proofs.Ytdbcecmlakgknaa
namespace TopL
open Go.ChangeShapes Go.WideShapes Go.ChangeAt Go.RowKit Go.Maps Go.Deep
set_option linter.unusedVariables false
set_option linter.unusedSimpArgs false
set_option maxRecDepth 100000

theorem below_grown {W W' : World} {M : Nat} (h : W.grownBy W' (some M)) (hM : M ≤ W.heap.size) : Below M W W' := ⟨h.os, h.tape, h.output, h.size, fun i hi => h.block i (by omega) (by simp; omega)⟩
theorem grownN_below {W W' : World} (h : Below W.heap.size W W') : W.grownBy W' none := ⟨h.os, h.tape, h.output, h.size, fun i hi _ => h.block i hi⟩
theorem MapH.bump {w : World} {b n : Nat} {f : HitM → Int} (h : MapH w b n f) (hn : n < 1000000) {x : HitM} (hx : wfH x) (c : Int) (hc : (Lit.int .i64 c).wf = true) :
    ∃ (st : Nat) (w1 w2 : World), (Instr.lookup 80 (.map (some b)) (.agg #[.int .u64 x.1, .int .u64 x.2]) false).run Try.prog w = .ok (.int .i64 (f x)) w ∧
      (Instr.mapEntry 80 (.map (some b)) (.agg #[.int .u64 x.1, .int .u64 x.2])).run Try.prog w = .ok (.tuple #[.int .i64 (f x), .int .i64 (st : Int)]) w1 ∧
      (Instr.lookup 80 (.map (some b)) (.agg #[.int .u64 x.1, .int .u64 x.2]) false).run Try.prog w1 = .ok (.int .i64 (f x)) w1 ∧
      (Instr.entryStore 80 (.map (some b)) (.int .i64 (st : Int)) (.int .i64 c)).run Try.prog w1 = .ok () w2 ∧
      (Instr.lookup 80 (.map (some b)) (.agg #[.int .u64 x.1, .int .u64 x.2]) false).run Try.prog w2 = .ok (.int .i64 c) w2 ∧
      MapH w2 b (n + 1) (updH f x c) ∧ w.grownBy w2 (some b) := by
  obtain ⟨st, w1, h1, h2, h3, h4⟩ := h.entry hn hx
  obtain ⟨w2, h5, h6, h7⟩ := h4 c hc
  refine ⟨st, w1, w2, h.look hx, h1, h2.look hx, h5, ?_, h6, h7⟩
  have := h6.look hx
  rw [show updH f x c x = c from if_pos rfl] at this
  exact this

theorem hits_fit_core {H : Type} {enc : TypeId × Value → H} {W : World} {fuel : Nat} {cs : List Value} {x : DataW H × List MemPlace} (h : DataW.trod enc Try.prog W 0 (fun _ => true) true fuel 51 cs = some x) :
    ∃ A c l, cs = [.slice A (List.length l) c] ∧ Hits W A c l ∧ ∀ x ∈ l, wfH x := by
  rcases open_slice_pairs (f0 := (match Try.prog.underlying 76 with | some (.struct fs) => fs.getD 0 default | _ => default)) (f1 := (match Try.prog.underlying 76 with | some (.struct fs) => fs.getD 1 default | _ => default)) Try.underlying51 (by kernel_rfl) (by kernel_rfl) (by kernel_rfl) (by kernel_rfl) (by kernel_rfl) (by kernel_rfl) h with ⟨hcs, _⟩ | ⟨a, len, cap, m, n, V0, V1, D0, D1, P0, P1, hcs, _, hl, hm, hmm, _, hcell⟩
  · exact ⟨none, 0, [], hcs, Hits.nil _, fun x hx => by cases hx⟩
  · simp only [if_true] at hmm
    subst hmm
    have each : ∀ j, j < len → ∃ y0 y1, V0 j = .int .u64 y0 ∧ V1 j = .int .u64 y1 ∧ wfH (y0, y1) := fun j hj => by
      obtain ⟨h1, h2, h3, h4⟩ := hcell j (by omega)
      obtain ⟨y0, e0, _, wf0⟩ := DataW.trod_int (k := .u64) (by kernel_rfl) h3
      obtain ⟨y1, e1, _, wf1⟩ := DataW.trod_int (k := .u64) (by kernel_rfl) h4
      exact ⟨y0, y1, by simpa using e0, by simpa using e1, wf0, wf1⟩
    refine ⟨some a, m, (List.range len).map fun i => (intOf (V0 i), intOf (V1 i)), by simpa using hcs, ⟨by simpa using hl, by unfold maxLen at hm; omega, fun hp => ?_⟩, fun x hx => ?_⟩
    · have hlen : 0 < len := by simpa using hp
      obtain ⟨b, off, spot⟩ := a
      have hc0 := (hcell 0 (by omega)).1
      have hspot : spot = none := by simpa [Addr.add] using World.cell?_spot hc0
      subst hspot
      have hbl : b < W.heap.size := by
        have hc' : W.cell? ⟨b, off, none⟩ = some (V0 0) := by simpa [Addr.add] using hc0
        exact World.block_lt_of_cell? W _ hc'
      refine ⟨b, off, rfl, hbl, fun j hj => ?_⟩
      have hj' : j < len := by simpa using hj
      obtain ⟨h1, h2, _, _⟩ := hcell j (by omega)
      obtain ⟨y0, y1, e0', e1', _⟩ := each j hj'
      rw [Addr.add_lit] at h1 h2
      have hg : ((List.range len).map fun i => (intOf (V0 i), intOf (V1 i))).getD j z2 = (y0, y1) := by
        simp [List.getD, hj', e0', e1', intOf]
      rw [hg]
      exact ⟨by rw [h1, e0'], h2.trans (by rw [e1'])⟩
    · obtain ⟨i, hi, rfl⟩ := List.mem_map.1 hx
      obtain ⟨y0, y1, e0, e1, hw⟩ := each i (List.mem_range.1 hi)
      rw [e0, e1]
      exact hw
theorem open_hits_fit {H : Type} {enc : TypeId × Value → H} {W : World} {a : Option Addr} {len cap : Nat} {d : DataW H} {p : List MemPlace}
    (h : DataW.Trod enc Try.prog W 0 (fun _ => true) true 51 (.slice a len cap) d p) : ∃ l : List HitM, l.length = len ∧ Hits W a cap l ∧ ∀ x ∈ l, wfH x := by
  obtain ⟨fuel, hf⟩ := h
  obtain ⟨A, c, l, hcs, hh, hw⟩ := hits_fit_core hf
  simp [Value.cells] at hcs
  obtain ⟨rfl, e, rfl⟩ := hcs
  exact ⟨l, e.symm, hh, hw⟩
end TopL
end Go.Proofs.Ytdbcecmlakgknaa
