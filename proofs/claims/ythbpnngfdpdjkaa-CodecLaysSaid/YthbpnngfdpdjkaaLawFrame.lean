/-
  For the rows of laws: arguments read behind a call that left all that was there as they read before it; bytes, rows, versions that came in.
-/
import Derived.Test.YthbpnngfdpdjkaaRows
import Derived.Test.YthbpnngfdpdjkaaCodWakes
import Derived.ProofKit
import Derived.OpenShut
import Derived.ChangeOld
import Derived.Deep.Matrix
import Derived.Deep.SlicePairs
import Derived.Deep.Fields
namespace Go.Proofs.Ythbpnngfdpdjkaa
open Go.ChangeShapes Go.WideShapes Go.ChangeAt Go.RowKit Go.Deep
set_option linter.unusedVariables false
set_option linter.unusedSimpArgs false
set_option maxRecDepth 100000

theorem Try.own : ownKnob Try.prog.godebug = none := by kernel_rfl
theorem Try.laidOut : laidOutB Try.prog = true := by kernel_rfl

/-- All arguments at once: below the heap's old size nothing has turned, so each reads as it did. -/
theorem trodAll_kept {H : Type} {enc : TypeId × Value → H} {P : Program} {W W' : World} (hl : laidOutB P = true) (hb : Below W.heap.size W W') (ts : List TypeId) :
    ∀ (vs : List Value) (ds : List (DataW H)) (ps : List MemPlace), (ts.all fun t => P.readableRec t && decide (t < P.types.size)) = true →
      DataW.TrodAll enc P W 0 (fun _ => true) true ts vs ds ps → DataW.TrodAll enc P W' 0 (fun b => decide (b < W.heap.size)) true ts vs ds ps := by
  induction ts with
  | nil =>
    intro vs ds ps _ h
    rcases vs with _ | ⟨v, vs⟩ <;> rcases ds with _ | ⟨d, ds⟩ <;> simp [DataW.TrodAll] at h ⊢
    exact h
  | cons t ts ih =>
    intro vs ds ps ht h
    rcases vs with _ | ⟨v, vs⟩
    · simp [DataW.TrodAll] at h
    rcases ds with _ | ⟨d, ds⟩
    · simp [DataW.TrodAll] at h
    obtain ⟨p, q, h1, h2, rfl⟩ := h
    simp only [List.all_cons, Bool.and_eq_true, decide_eq_true_eq] at ht
    have lt : ∀ x ∈ p, x.block < W.heap.size := by obtain ⟨m, hm⟩ := h1; exact DataW.trod_lt m _ _ _ hm
    exact ⟨p, q, Below.trod hl ht.1.1 ht.1.2 h1 hb lt, ih vs ds q ht.2 h2, rfl⟩
theorem trodAll_below {H : Type} {enc : TypeId × Value → H} {W W' : World} (hb : Below W.heap.size W W') (ts : List TypeId) (vs : List Value) (ds : List (DataW H)) (ps : List MemPlace)
    (ht : (ts.all fun t => Try.prog.readableRec t && decide (t < Try.prog.types.size)) = true) (h : DataW.TrodAll enc Try.prog W 0 (fun _ => true) true ts vs ds ps) :
    DataW.TrodAll enc Try.prog W' 0 (fun b => decide (b < W.heap.size)) true ts vs ds ps := trodAll_kept Try.laidOut hb ts vs ds ps ht h

/-- A slice of bytes that came in. -/
theorem open_bytes {H : Type} {enc : TypeId × Value → H} {W : World} {a : Option Addr} {len cap : Nat} {d : DataW H} {p : List MemPlace}
    (h : DataW.Trod enc Try.prog W 0 (fun _ => true) true 29 (.slice a len cap) d p) : ∃ bs : List Int, bs.length = len ∧ Sl W a cap bs ∧ Oct bs := by
  obtain ⟨fuel, hf⟩ := h
  rcases open_ints Try.underlying29 Try.underlying5 (by kernel_rfl) hf with ⟨hcs, _⟩ | ⟨x, l, c, zs, hcs, _, hl, hm, hz, _, hcell, hwz⟩
  · simp [Value.cells] at hcs
    obtain ⟨rfl, rfl, rfl⟩ := hcs
    exact ⟨[], rfl, ⟨by simp, by omega, Rd.empty⟩, by simp [Oct]⟩
  · simp [Value.cells] at hcs
    obtain ⟨rfl, rfl, rfl⟩ := hcs
    have hz' : zs.length = cap := by simpa using hz
    have hlen : (zs.take len).length = len := by simp; omega
    refine ⟨zs.take len, hlen, ⟨by omega, by unfold maxLen at hm; omega, fun hp => ?_⟩, fun b hb => ?_⟩
    · obtain ⟨b, off, spot⟩ := x
      have hc := hcell 0 (by omega)
      have hspot : spot = none := by simpa [Addr.add] using World.cell?_spot hc
      subst hspot
      have hbl : b < W.heap.size := by
        have hc' : W.cell? ⟨b, off, none⟩ = some (.int .u8 (zs.getD 0 0)) := by simpa [Addr.add] using hc
        rcases Nat.lt_or_ge b W.heap.size with h | h
        · exact h
        · simp [World.cell?, Array.getElem?_eq_none h] at hc'
      refine ⟨b, off, rfl, hbl, fun j hj => ?_⟩
      have h1 := hcell j (by omega)
      rw [Addr.add_lit] at h1
      rw [h1]
      have : j < len := by omega
      simp [List.getD, this]
    · have := hwz b (List.mem_of_mem_take hb)
      have := bounds_u8 this
      omega

/-- Numbers that came in. -/
theorem vec_core {H : Type} {enc : TypeId × Value → H} {W : World} {fuel : Nat} {cs : List Value} {x : DataW H × List MemPlace} (h : DataW.trod enc Try.prog W 0 (fun _ => true) true fuel 23 cs = some x) :
    ∃ A c xs, cs = [.slice A (List.length xs) c] ∧ Vec .i32 W A c xs := by
  rcases open_ints Try.underlying23 Try.underlying21 (by kernel_rfl) h with ⟨hcs, _⟩ | ⟨x, len, cap, zs, hcs, _, hl, hm, hz, _, hcell, hwz⟩
  · exact ⟨none, 0, [], hcs, Vec.nil _ _⟩
  · have hz' : zs.length = cap := by simpa using hz
    have hlen : (zs.take len).length = len := by simp; omega
    refine ⟨some x, cap, zs.take len, by rw [hlen]; exact hcs, ⟨by omega, by unfold maxLen at hm; omega, fun hp => ?_, fun b hb => hwz b (List.mem_of_mem_take hb)⟩⟩
    obtain ⟨b, off, spot⟩ := x
    have hc := hcell 0 (by omega)
    have hspot : spot = none := by simpa [Addr.add] using World.cell?_spot hc
    subst hspot
    have hc' : W.cell? ⟨b, off, none⟩ = some (.int .i32 (zs.getD 0 0)) := by simpa [Addr.add] using hc
    refine ⟨b, off, rfl, World.block_lt_of_cell? W _ hc', fun j hj => ?_⟩
    have h1 := hcell j (by omega)
    rw [Addr.add_lit] at h1
    rw [h1]
    have : j < len := by omega
    simp [List.getD, this]
theorem row_core {H : Type} {enc : TypeId × Value → H} {W : World} {fuel : Nat} {cs : List Value} {x : DataW H × List MemPlace} (h : DataW.trod enc Try.prog W 0 (fun _ => true) true fuel 25 cs = some x) :
    ∃ i A c xs, cs = [.int .u64 i, .slice A (List.length xs) c] ∧ (Lit.int .u64 i).wf = true ∧ Vec .i32 W A c xs := by
  have hu := Try.underlying25
  have hone := fun i f => hone_of (P := Try.prog) (fs := (match Try.prog.underlying 25 with | some (.struct fs) => fs | _ => #[])) (by kernel_rfl) i f
  rw [hu] at hone
  obtain ⟨ys, n, _, _, hlen, hy, hf⟩ := DataW.trod_struct hu h
  have h2 : Try.prog.cellsOf 25 = 2 := by kernel_rfl
  rw [h2] at hlen
  match cs, hlen with
  | [v0, v1], _ =>
    have f0 : DataW.trod enc Try.prog W 0 (fun _ => true) true n 22 [v0] = ys[0]? := by have h1 := hf 0 _ rfl; obtain ⟨o1, k1⟩ := hone 0 _ rfl; rw [o1, k1] at h1; exact h1
    have f1 : DataW.trod enc Try.prog W 0 (fun _ => true) true n 23 [v1] = ys[1]? := by have h1 := hf 1 _ rfl; obtain ⟨o1, k1⟩ := hone 1 _ rfl; rw [o1, k1] at h1; exact h1
    have g : ∀ (i : Nat) (hi : i < 2), ∃ y, ys[i]? = some y := fun i hi => ⟨_, List.getElem?_eq_getElem (by rw [hy]; exact hi)⟩
    obtain ⟨y0, e0⟩ := g 0 (by omega)
    obtain ⟨y1, e1⟩ := g 1 (by omega)
    rw [e0] at f0
    rw [e1] at f1
    obtain ⟨a, ha, _, wa⟩ := DataW.trod_int Try.underlying22 f0
    obtain ⟨A, c, xs, hb, hv⟩ := vec_core f1
    simp at ha hb
    subst ha
    subst hb
    exact ⟨a, A, c, xs, rfl, wa, hv⟩
theorem ver_core {H : Type} {enc : TypeId × Value → H} {W : World} {fuel : Nat} {cs : List Value} {x : DataW H × List MemPlace} (h : DataW.trod enc Try.prog W 0 (fun _ => true) true fuel 27 cs = some x) :
    ∃ b f A c xs, cs = [.int .u64 b, .int .u64 f, .slice A (List.length xs) c] ∧ (Lit.int .u64 b).wf = true ∧ (Lit.int .u64 f).wf = true ∧ Vec .i32 W A c xs := by
  have hu := Try.underlying27
  have hone := fun i f => hone_of (P := Try.prog) (fs := (match Try.prog.underlying 27 with | some (.struct fs) => fs | _ => #[])) (by kernel_rfl) i f
  rw [hu] at hone
  obtain ⟨ys, n, _, _, hlen, hy, hf⟩ := DataW.trod_struct hu h
  have h2 : Try.prog.cellsOf 27 = 3 := by kernel_rfl
  rw [h2] at hlen
  match cs, hlen with
  | [v0, v1, v2], _ =>
    have f0 : DataW.trod enc Try.prog W 0 (fun _ => true) true n 22 [v0] = ys[0]? := by have h1 := hf 0 _ rfl; obtain ⟨o1, k1⟩ := hone 0 _ rfl; rw [o1, k1] at h1; exact h1
    have f1 : DataW.trod enc Try.prog W 0 (fun _ => true) true n 22 [v1] = ys[1]? := by have h1 := hf 1 _ rfl; obtain ⟨o1, k1⟩ := hone 1 _ rfl; rw [o1, k1] at h1; exact h1
    have f2 : DataW.trod enc Try.prog W 0 (fun _ => true) true n 23 [v2] = ys[2]? := by have h1 := hf 2 _ rfl; obtain ⟨o1, k1⟩ := hone 2 _ rfl; rw [o1, k1] at h1; exact h1
    have g : ∀ (i : Nat) (hi : i < 3), ∃ y, ys[i]? = some y := fun i hi => ⟨_, List.getElem?_eq_getElem (by rw [hy]; exact hi)⟩
    obtain ⟨y0, e0⟩ := g 0 (by omega)
    obtain ⟨y1, e1⟩ := g 1 (by omega)
    obtain ⟨y2, e2⟩ := g 2 (by omega)
    rw [e0] at f0
    rw [e1] at f1
    rw [e2] at f2
    obtain ⟨a, ha, _, wa⟩ := DataW.trod_int Try.underlying22 f0
    obtain ⟨b, hb, _, wb⟩ := DataW.trod_int Try.underlying22 f1
    obtain ⟨A, c, xs, hc, hv⟩ := vec_core f2
    simp at ha hb hc
    subst ha
    subst hb
    subst hc
    exact ⟨a, b, A, c, xs, rfl, wa, wb, hv⟩
theorem open_row {H : Type} {enc : TypeId × Value → H} {r : Reach} {b0 : Nat} {v : Value} {W : World} {d : DataW H} {p : List MemPlace} (hv : Value.okWide Try.prog W r b0 25 v) (h : DataW.Trod enc Try.prog W 0 (fun _ => true) true 25 v d p) :
    ∃ i A c xs, v = .agg #[.int .u64 i, .slice A (List.length xs) c] ∧ (Lit.int .u64 i).wf = true ∧ Vec .i32 W A c xs := by
  obtain ⟨cs, rfl, _⟩ := okWide_struct Try.underlying25 hv
  obtain ⟨fuel, hf⟩ := h
  obtain ⟨i, A, c, xs, e, w, hx⟩ := row_core (cs := cs.toList) (by simpa [Value.cells] using hf)
  exact ⟨i, A, c, xs, by congr 1; exact Array.toList_inj.1 e, w, hx⟩
theorem open_ver {H : Type} {enc : TypeId × Value → H} {r : Reach} {b0 : Nat} {v : Value} {W : World} {d : DataW H} {p : List MemPlace} (hv : Value.okWide Try.prog W r b0 27 v) (h : DataW.Trod enc Try.prog W 0 (fun _ => true) true 27 v d p) :
    ∃ b f A c xs, v = .agg #[.int .u64 b, .int .u64 f, .slice A (List.length xs) c] ∧ (Lit.int .u64 b).wf = true ∧ (Lit.int .u64 f).wf = true ∧ Vec .i32 W A c xs := by
  obtain ⟨cs, rfl, _⟩ := okWide_struct Try.underlying27 hv
  obtain ⟨fuel, hf⟩ := h
  obtain ⟨b, f, A, c, xs, e, w, w', hx⟩ := ver_core (cs := cs.toList) (by simpa [Value.cells] using hf)
  exact ⟨b, f, A, c, xs, by congr 1; exact Array.toList_inj.1 e, w, w', hx⟩
theorem okWide_array {P : Program} {w : World} {r : Reach} {base n : Nat} {t e : TypeId} {v : Value} (ht : P.underlying t = some (.array n e)) (h : Value.okWide P w r base t v) : ∃ cs, v = .agg cs ∧ cs.size = P.cellsOf t := by
  simp only [Value.okWide, ht] at h
  obtain ⟨cs, h1, h2, _⟩ := h
  exact ⟨cs, h1, h2⟩
theorem open_vers {H : Type} {enc : TypeId × Value → H} {r : Reach} {b0 : Nat} {v : Value} {W : World} {d : DataW H} {p : List MemPlace} (hv : Value.okWide Try.prog W r b0 57 v) (h : DataW.Trod enc Try.prog W 0 (fun _ => true) true 57 v d p) :
    ∃ b f A c xs b' f' A' c' ys, v = .agg #[.int .u64 b, .int .u64 f, .slice A (List.length xs) c, .int .u64 b', .int .u64 f', .slice A' (List.length ys) c'] ∧ ((Lit.int .u64 b).wf = true ∧ (Lit.int .u64 f).wf = true ∧ Vec .i32 W A c xs) ∧ ((Lit.int .u64 b').wf = true ∧ (Lit.int .u64 f').wf = true ∧ Vec .i32 W A' c' ys) := by
  obtain ⟨cs, rfl, _⟩ := okWide_array Try.underlying57 hv
  obtain ⟨fuel, hf⟩ := h
  obtain ⟨zs, n, _, _, hlen, hy, hf⟩ := DataW.trod_array (cs := cs.toList) Try.underlying57 (by simpa [Value.cells] using hf)
  have h6 : Try.prog.cellsOf 57 = 6 := by kernel_rfl
  have h3 : Try.prog.cellsOf 27 = 3 := by kernel_rfl
  rw [h6] at hlen
  rw [h3] at hf
  obtain ⟨l, hl⟩ : ∃ l, l = cs.toList := ⟨_, rfl⟩
  rw [← hl] at hlen hf
  match l, hlen with
  | [v0, v1, v2, v3, v4, v5], _ =>
    have f0 := hf 0 (by omega)
    have f1 := hf 1 (by omega)
    have g : ∀ (i : Nat) (hi : i < 2), ∃ y, zs[i]? = some y := fun i hi => ⟨_, List.getElem?_eq_getElem (by rw [hy]; exact hi)⟩
    obtain ⟨y0, e0⟩ := g 0 (by omega)
    obtain ⟨y1, e1⟩ := g 1 (by omega)
    rw [e0] at f0
    rw [e1] at f1
    obtain ⟨b, f, A, c, xs, k0, w, w', hx⟩ := ver_core f0
    obtain ⟨b', f', A', c', ys, k1, u, u', hx'⟩ := ver_core f1
    simp at k0 k1
    obtain ⟨rfl, rfl, rfl⟩ := k0
    obtain ⟨rfl, rfl, rfl⟩ := k1
    exact ⟨b, f, A, c, xs, b', f', A', c', ys, by congr 1; exact Array.toList_inj.1 hl.symm, ⟨w, w', hx⟩, ⟨u, u', hx'⟩⟩

end Go.Proofs.Ythbpnngfdpdjkaa
