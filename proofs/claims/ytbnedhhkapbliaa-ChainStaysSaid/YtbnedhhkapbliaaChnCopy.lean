/-
  The document's Copy.
-/
import Derived.Test.YtbnedhhkapbliaaChnRef
namespace Go.Proofs.Ytbnedhhkapbliaa
open Go.RowKit Go.Shelf
set_option linter.unusedVariables false
set_option linter.unusedSimpArgs false
set_option maxRecDepth 100000

/-- Chains that can be copied. -/
structure Small (q : List Pl) : Prop where
  few : q.length ≤ 100000
  dims : ∀ p ∈ q, p.v.x.length ≤ 100000
/-- A call that answers a chain of the call's own. -/
def GivesC (w : World) (l : List Vr) (e : Ending) (w' : World) : Prop := ∃ A c q, e = .returned (.slice A q.length c) ∧ vals q = l ∧ OwnC w.heap.size w' A c q ∧ Below w.heap.size w w'

theorem grown_below {w w' : World} {B : Nat} {A : Option Addr} (hg : w.grownBy w' (blk A)) (hb : B ≤ w.heap.size) (hA : ∀ i, blk A = some i → B ≤ i) : Below B w w' :=
  (Turn.of_grown (S := fun i => blk A = some i) hg (fun i hi => .inl hi)).below hb hA
theorem OwnC.low {base : Nat} {w : World} {A : Option Addr} {c : Nat} {q : List Pl} (h : OwnC base w A c q) : ∀ i, blk A = some i → base ≤ i ∧ i < w.heap.size := fun i hi => h.row.lt i (by rw [own_blk]; exact hi)

/-- A box of a version whose vector was replaced. -/
theorem box_set {w : World} {g : Nat} {b f : Int} {u : Value} {B : Option Addr} {n c : Nat} (h : w.heap[g]? = some (.cells #[.int .u64 b, .int .u64 f, u] 35 (0, 0))) :
    (w.setCell ⟨g, 2, none⟩ (.slice B n c)).heap[g]? = some (.cells #[.int .u64 b, .int .u64 f, .slice B n c] 35 (0, 0)) := by
  rw [heap_setCell_same _ _ 2 _ _ _ h]; rfl

/-- A version in a box whose vector was copied: the box, and the version laid to be appended. -/
theorem ver_step {wr W1 w2 : World} {p : Pl} {A2 : Option Addr} {c2 : Nat} (hx : W1.heap[wr.heap.size]? = some (.cells #[.int .u64 p.v.b, .int .u64 p.v.f, .slice p.B p.v.x.length p.c] 35 (0, 0))) (hb : Below wr.heap.size wr W1) (hz : W1.heap.size = wr.heap.size + 2)
    (hf : ∀ x ∈ p.v.x, (Lit.int .i32 x).wf = true) (ho : w2.ownsRow (wr.heap.size + 1) 21 1 (.slice A2 p.v.x.length c2) p.v.x.length (p.v.x.map (Value.int .i32))) (hg : W1.grownBy w2 (blk (some (⟨wr.heap.size + 1, 0, none⟩ : Addr)))) :
    w2.cell? ⟨wr.heap.size, 2, none⟩ = some (.slice p.B p.v.x.length p.c) ∧ w2.frozen? ⟨wr.heap.size, 2, none⟩ = false ∧
    (w2.setCell ⟨wr.heap.size, 2, none⟩ (.slice A2 p.v.x.length c2)).cell? ⟨wr.heap.size, 0, none⟩ = some (.int .u64 p.v.b) ∧ (w2.setCell ⟨wr.heap.size, 2, none⟩ (.slice A2 p.v.x.length c2)).cell? ⟨wr.heap.size, 1, none⟩ = some (.int .u64 p.v.f) ∧ (w2.setCell ⟨wr.heap.size, 2, none⟩ (.slice A2 p.v.x.length c2)).cell? ⟨wr.heap.size, 2, none⟩ = some (.slice A2 p.v.x.length c2) ∧
    Below wr.heap.size wr ((w2.setCell ⟨wr.heap.size, 2, none⟩ (.slice A2 p.v.x.length c2)).alloc (.cells #[.int .u64 p.v.b, .int .u64 p.v.f, .slice A2 p.v.x.length c2] 35)) ∧
    OwnV wr.heap.size ((w2.setCell ⟨wr.heap.size, 2, none⟩ (.slice A2 p.v.x.length c2)).alloc (.cells #[.int .u64 p.v.b, .int .u64 p.v.f, .slice A2 p.v.x.length c2] 35)) A2 c2 p.v.x ∧
    Read ((w2.setCell ⟨wr.heap.size, 2, none⟩ (.slice A2 p.v.x.length c2)).alloc (.cells #[.int .u64 p.v.b, .int .u64 p.v.f, .slice A2 p.v.x.length c2] 35)) (some ⟨w2.heap.size, 0, none⟩) 1 3 (flatC [⟨p.v, A2, c2⟩]) := by
  have hb2 : Below (wr.heap.size + 1) W1 w2 := grown_below hg (by omega) (fun i hi => Nat.le_of_eq (by simpa [blk] using hi))
  have hx2 := (hb2.block wr.heap.size (by omega)).trans hx
  have hx3 := box_set (B := A2) (n := p.v.x.length) (c := c2) hx2
  have hz2 : wr.heap.size ≤ w2.heap.size := by have := hb2.size; omega
  have hbw2 : Below wr.heap.size wr w2 := hb.trans (hb2.mono (by omega))
  have hb3 : Below wr.heap.size wr (w2.setCell ⟨wr.heap.size, 2, none⟩ (.slice A2 p.v.x.length c2)) := hbw2.setCell (Nat.le_refl _) _
  have hz3 : (w2.setCell ⟨wr.heap.size, 2, none⟩ (.slice A2 p.v.x.length c2)).heap.size = w2.heap.size := by simp [World.setCell]
  refine ⟨(cell_of_row _ _ 2 _ _ _ hx2).trans rfl, frozen_of_row _ _ _ _ _ hx2, (cell_of_row _ _ 0 _ _ _ hx3).trans rfl, (cell_of_row _ _ 1 _ _ _ hx3).trans rfl, (cell_of_row _ _ 2 _ _ _ hx3).trans rfl, hb3.alloc hb3.size _, ?_, ?_⟩
  · have h1 : OwnV (wr.heap.size + 1) w2 A2 c2 p.v.x := ⟨ho, hf⟩
    have h2 := h1.turn (S := fun i => i = wr.heap.size) (w' := w2.setCell ⟨wr.heap.size, 2, none⟩ (.slice A2 p.v.x.length c2)) ⟨rfl, rfl, rfl, by simp [World.setCell], fun k _ hk => Below.heap_setCell _ _ _ _ hk⟩ (fun i hi _ e => by omega)
    exact (h2.below ((Below.refl _ _).alloc (Nat.le_refl _) _)).mono (by omega)
  · rw [← hz3]
    have hc := fun i => cell_laid (w2.setCell ⟨wr.heap.size, 2, none⟩ (.slice A2 p.v.x.length c2)) #[.int .u64 p.v.b, .int .u64 p.v.f, .slice A2 p.v.x.length c2] 35 i
    exact Read.one (p := ⟨p.v, A2, c2⟩) (hc 0) (hc 1) (hc 2)

set_option maxHeartbeats 2000000 in
theorem rCopy_any (A : Option Addr) (c : Nat) (q : List Pl) (w : World) (h : Chn w A c q) (hs : Small q) :
    Calls Try.prog 11 #[.slice A q.length c] w (GivesC w (vals q)) := by
  obtain ⟨n, hn⟩ : ∃ n, n = q.length := ⟨_, rfl⟩
  have hmn : n ≤ 100000 := by rw [hn]; exact hs.few
  have HQ := Lib.hid h
  have HN := Lib.hid hn
  have HSm := Lib.hid hs
  rw [← hn]
  clear h hn hs
  go_enter Try.func11, Try.ntmps11
  go_wp2
  go_loopw [3, 8] (fun v i wr => ∃ (k : Nat) (A1 : Option Addr) (c1 : Nat), k ≤ n ∧ i = .int .i64 k ∧ v = .slice A1 k c1 ∧ Hid (∃ r, r.length = k ∧ vals r = (vals q).take k ∧ OwnC w.heap.size wr A1 c1 r) ∧ Hid (Below w.heap.size w wr)) (fun _ i _ => n - (intOf i).toNat)
  case atStart => exact ⟨0, none, 0, Nat.zero_le _, rfl, rfl, Lib.hid ⟨[], rfl, rfl, OwnC.nil _ _⟩, Lib.hid (Below.refl _ _)⟩
  case round =>
    obtain ⟨k, A1, c1, hk, rfl, rfl, HO, HB⟩ := hrel
    by_cases hkn : k < n
    · obtain ⟨b, o, p, rfl, hp, hb, d0, d1, d2, hv, hf⟩ := (HQ.out.below HB.out).at_ (i := k) (by rw [← HN.out]; exact hkn)
      have k0 : (0 : Int) ≤ k := by omega
      have kn : (k : Int) < n := by omega
      have hpm : p.v.x.length ≤ 100000 := HSm.out.dims p (List.mem_of_getElem? hp)
      obtain ⟨r, hr1, hr2, hr3⟩ := HO.out
      have HT := Lib.hid (show (vals q).take (k + 1) = vals r ++ [p.v] by rw [List.take_add_one, vals_at hp, ← hr2]; rfl)
      have HBX := Lib.hid (ver_alloc wr p.v.b p.v.f p.B p.v.x.length p.c)
      obtain ⟨W1, hW1⟩ : ∃ W1, W1 = (wr.alloc (.cells #[.int .u64 p.v.b, .int .u64 p.v.f, .slice p.B p.v.x.length p.c] 35)).alloc (.cells #[] 21) := ⟨_, rfl⟩
      have hzb : (wr.alloc (.cells #[.int .u64 p.v.b, .int .u64 p.v.f, .slice p.B p.v.x.length p.c] 35)).heap.size = wr.heap.size + 1 := World.size_alloc _ _
      have hz1 : W1.heap.size = wr.heap.size + 2 := by rw [hW1]; simp
      have hb1 : Below wr.heap.size wr W1 := by rw [hW1]; exact HBX.out.alloc (by simp) _
      have hx1 : W1.heap[wr.heap.size]? = some (.cells #[.int .u64 p.v.b, .int .u64 p.v.f, .slice p.B p.v.x.length p.c] 35 (0, 0)) := by rw [hW1]; exact (Below.heap_alloc _ _ _ (by simp)).trans (heap_alloc_new _ _)
      have x0 := (cell_of_row _ _ 0 _ _ _ hx1).trans rfl
      have x1 := (cell_of_row _ _ 1 _ _ _ hx1).trans rfl
      have x2 := (cell_of_row _ _ 2 _ _ _ hx1).trans rfl
      have HO1 := Lib.hid (show W1.ownsRow (wr.heap.size + 1) 21 1 (.slice (some ⟨wr.heap.size + 1, 0, none⟩) 0 0) 0 [] from by
        rw [hW1, ← hzb]; exact World.ownsRow_made (base := (wr.alloc (.cells #[.int .u64 p.v.b, .int .u64 p.v.f, .slice p.B p.v.x.length p.c] 35)).heap.size) (size := 1) (e := 21) _ #[] 0 (Nat.le_refl _) (Nat.zero_le _) rfl)
      have HRd := Lib.hid (Read.vec (hv.below hb1))
      have HFx := Lib.hid hv.fit
      have HX1 := Lib.hid hx1
      have HB1 := Lib.hid hb1
      have HZ1 := Lib.hid hz1
      have HW1 := Lib.hid hW1
      have HR1 := Lib.hid hr1
      have HR3 := Lib.hid hr3
      have HF := Lib.hid hf
      have HM := Lib.hid hpm
      have HP := Lib.hid hp
      clear hb1 hx1 hW1 hzb hv hf hp hr1 hr2 hr3 hpm hz1
      have HStep := Lib.hid (fun (A2 : Option Addr) (c2 : Nat) (w2 : World) (ho : w2.ownsRow (wr.heap.size + 1) 21 1 (.slice A2 p.v.x.length c2) p.v.x.length (p.v.x.map (Value.int .i32))) (hg : W1.grownBy w2 (blk (some (⟨wr.heap.size + 1, 0, none⟩ : Addr)))) => ver_step (p := p) HX1.out HB1.out HZ1.out HFx.out ho hg)
      go_wp2_with (first
        | (at_builtin; rw [← HW1.out]; refine gapp_at rfl (.tmp 12) (.tmp 14) appI rfl (wr.heap.size + 1) (some ⟨wr.heap.size + 1, 0, none⟩) 0 0 [] rfl HO1.out p.B p.c p.v.x.length (p.v.x.map (Value.int .i32)) rfl HRd.out (by have := HM.out; omega) (by rw [HZ1.out]; omega) ?_; intro A2 c2 w2 ho hg _; rw [Nat.zero_add, List.nil_append] at ho; obtain ⟨y2, k2, z0, z1, z2, hb4, hv4, hrd4⟩ := HStep.out A2 c2 w2 ho hg; have HB4 := Lib.hid hb4; have HV4 := Lib.hid hv4; have HRd4 := Lib.hid hrd4; have HO4 := Lib.hid (HR3.out.below HB4.out); clear hb4 hv4 hrd4 ho hg)
        | (at_builtin; refine gapp_at rfl (.tmp 17) (.tmp 19) appV rfl w.heap.size A1 c1 k (flatC r) rfl (by have := HO4.out.row; rw [HR1.out] at this; exact this) (some ⟨w2.heap.size, 0, none⟩) 1 1 (flatC [⟨p.v, A2, c2⟩]) rfl HRd4.out (by omega) (Nat.le_trans HB.out.size HB4.out.size) ?_; intro A5 c5 w5 ho5 hg5 _; have HO5 := Lib.hid (HO4.out.snoc (p := ⟨p.v, A2, c2⟩) (HV4.out.mono HB.out.size) HF.out (by rw [HR1.out]; exact ho5) hg5); have HB5 := Lib.hid ((HB.out.trans (HB4.out.mono HB.out.size)).trans (grown_below hg5 (Nat.le_trans HB.out.size HB4.out.size) (fun i hi => (HO4.out.low i hi).1))); clear ho5 hg5))
      go_roundw
      case rel => exact ⟨k + 1, A5, c5, by omega, by go_num, rfl, Lib.hid ⟨r ++ [⟨p.v, A2, c2⟩], by rw [List.length_append, HR1.out]; rfl, by rw [HT.out, vals_append]; rfl, HO5.out⟩, HB5⟩
      case measure => simp [intOf]; omega
    · obtain rfl : k = n := by omega
      have HT := Lib.hid (show (vals q).take k = vals q by rw [HN.out, ← vals_length, List.take_length])
      go_wp2
      go_ret
      obtain ⟨r, h1, h2, h3⟩ := HO.out
      exact ⟨A1, c1, r, by rw [h1]; rfl, by rw [h2, HT.out], h3, HB.out⟩

end Go.Proofs.Ytbnedhhkapbliaa
