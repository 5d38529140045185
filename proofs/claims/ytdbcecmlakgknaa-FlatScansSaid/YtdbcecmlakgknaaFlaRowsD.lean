/-
  The document's Rows: the rows of the used cells whose slots are in a mask.
-/
import Derived.Test.YtdbcecmlakgknaaMFla
import Derived.Deep.RegionHeld3
namespace Go.Proofs.Ytdbcecmlakgknaa
open Go.RowKit Go.Shelf
open MskL (Mk Fine)
set_option linter.unusedVariables false
set_option linter.unusedSimpArgs false
set_option maxRecDepth 100000

def RdI (W0 : World) (f : Nat → Bool) (q : List Pa) (k n : Nat) (A1 : Option Addr) (c1 : Nat) (wr : World) : Prop := n = (selI f q k).length ∧ OwnR W0.heap.size wr A1 c1 ((selI f q k).map toPr) ∧ Below W0.heap.size W0 wr
theorem RdI.no {W0 wr X : World} {f : Nat → Bool} {q : List Pa} {k n : Nat} {A1 : Option Addr} {c1 : Nat} {p : Pa} (h : RdI W0 f q k n A1 c1 wr) (hX : Below wr.heap.size wr X) (hp : q[k]? = some p) (hs : (p.e.u && f k) = false) : RdI W0 f q (k + 1) n A1 c1 X := by
  obtain ⟨h1, h2, h3⟩ := h
  unfold RdI
  rw [selI_no (f := f) hp hs]
  exact ⟨h1, h2.below hX, h3.trans (hX.mono h3.size)⟩
theorem RdI.own {W0 wr X : World} {f : Nat → Bool} {q : List Pa} {k n : Nat} {A1 : Option Addr} {c1 : Nat} (h : RdI W0 f q k n A1 c1 wr) (hX : Below wr.heap.size wr X) : X.ownsRow W0.heap.size 64 2 (.slice A1 n c1) n (flatR ((selI f q k).map toPr)) := by
  have := h.2.1.below hX
  unfold OwnR at this
  rwa [List.length_map, ← h.1] at this
theorem RdI.yes {W0 wr X X' : World} {f : Nat → Bool} {q : List Pa} {k n : Nat} {A1 A5 : Option Addr} {c1 c5 : Nat} {p : Pa} (h : RdI W0 f q k n A1 c1 wr) (hX : Below wr.heap.size wr X) (hp : q[k]? = some p) (hu : p.e.u = true) (hf : f k = true)
    (ho : X'.ownsRow W0.heap.size 64 2 (.slice A5 (n + 1) c5) (n + 1) (flatR ((selI f q k).map toPr) ++ [.int .u64 p.e.i, .slice p.B p.e.x.length p.c])) (hg : X.grownBy X' (blk A1)) : RdI W0 f q (k + 1) (n + 1) A5 c5 X' := by
  have hb : Below W0.heap.size W0 X := h.2.2.trans (hX.mono h.2.2.size)
  have hlow := (h.2.1.below hX).low
  unfold RdI
  rw [selI_yes (f := f) hp hu hf]
  refine ⟨by rw [List.length_append, ← h.1]; rfl, ?_, hb.trans (grown_bel (B := W0.heap.size) hg hb.size (fun i hi => (hlow i hi).1))⟩
  unfold OwnR
  rw [List.map_append, flatR_append, List.length_append, List.length_map, ← h.1]
  exact ho

set_option maxHeartbeats 8000000 in
theorem rRowsA_any (A : Option Addr) (c : Nat) (q : List Pa) (m : Mk) (w : World) (h : Are w A c q) (hm : Fine m) (hl : q.length ≤ 120) :
    Calls Try.prog 30 #[.agg #[.slice A q.length c], .agg #[.int .u64 m.1, .int .u64 m.2]] w fun e w' => ∃ A' c' s, e = .returned (.slice A' (List.length s) c') ∧ rvs s = inK (inB m) (ces q) (ces q).length ∧ Rws w' A' c' s ∧ Below w.heap.size w w' := by
  obtain ⟨m0, m1⟩ := m
  dsimp only
  obtain ⟨xl, hxl⟩ : ∃ n, n = q.length := ⟨_, rfl⟩
  obtain ⟨W0, hW0⟩ : ∃ W0, W0 = (w.alloc (.cells #[.slice A xl c] 24)).alloc (.cells #[.int .u64 m0, .int .u64 m1] 48) := ⟨_, rfl⟩
  have hb0 : Below w.heap.size w W0 := by rw [hW0]; exact ((Below.refl _ w).alloc (Nat.le_refl _) _).alloc (by simp) _
  have hx0 : W0.heap[w.heap.size]? = some (.cells #[.slice A xl c] 24 (0, 0)) := by
    rw [hW0]
    exact (Below.heap_alloc _ _ _ (by simp)).trans (heap_alloc_new w _)
  have hx1 : W0.heap[w.heap.size + 1]? = some (.cells #[.int .u64 m0, .int .u64 m1] 48 (0, 0)) := by
    rw [hW0]
    have h := heap_alloc_new (w.alloc (.cells #[.slice A xl c] 24)) (.cells #[.int .u64 m0, .int .u64 m1] 48)
    rw [World.size_alloc] at h; exact h
  have HX := Lib.hid (fun (X : World) (hX : Below W0.heap.size W0 X) => show X.cell? ⟨w.heap.size, 0, none⟩ = some (.slice A xl c) ∧ X.cell? ⟨w.heap.size + 1, 0, none⟩ = some (.int .u64 m0) ∧ X.cell? ⟨w.heap.size + 1, 1, none⟩ = some (.int .u64 m1) from by
    have X0 := (hX.block _ (lt_of_block hx0)).trans hx0
    have X1 := (hX.block _ (lt_of_block hx1)).trans hx1
    exact ⟨(cell_of_row _ _ 0 _ _ _ X0).trans rfl, (cell_of_row _ _ 0 _ _ _ X1).trans rfl, (cell_of_row _ _ 1 _ _ _ X1).trans rfl⟩)
  have HW := Lib.hid hW0
  have HQ := Lib.hid (h.below hb0)
  have HB0 := Lib.hid hb0
  have HIn := Lib.hid (fun (X : World) (k : Nat) (hk : k < 128) => rIn_any (m0, m1) k X hm hk)
  have HXL := Lib.hid hxl
  obtain ⟨f, hf⟩ : ∃ f : Nat → Bool, f = inB (m0, m1) := ⟨_, rfl⟩
  have HFf := Lib.hid hf
  rw [← hf]
  have hIn2 : ∀ (X : World) (k : Nat), k < 128 → Calls Try.prog 37 #[.agg #[.int .u64 m0, .int .u64 m1], .int .i64 k] X fun e w' => e = .returned (.bool (f k)) ∧ Below X.heap.size X w' := by rw [hf]; exact HIn.out
  have HIn := Lib.hid hIn2
  rw [← hxl] at hl ⊢
  have HI0 := Lib.hid (show RdI W0 f q 0 0 none 0 W0 from ⟨rfl, World.ownsRow_nil _ _ _ _, Below.refl _ _⟩)
  clear h hm hW0 hb0 hx0 hx1 hf hIn2 hxl
  go_enter Try.func30, Try.ntmps30
  go_wp2_with (rw [← HW.out])
  go_loopw [5, 6] (fun o i wr => ∃ (k n : Nat) (A1 : Option Addr) (c1 : Nat), k ≤ xl ∧ n ≤ k ∧ o = .slice A1 n c1 ∧ i = .int .i64 k ∧ Hid (RdI W0 f q k n A1 c1 wr)) (fun _ i _ => xl - (intOf i).toNat)
  case atStart => exact ⟨0, 0, none, 0, Nat.zero_le _, Nat.zero_le _, rfl, rfl, HI0⟩
  case round =>
    obtain ⟨k, n, A1, c1, hk, hnk, rfl, rfl, HI⟩ := hrel
    rename World => wo
    obtain ⟨e0, e1, e2⟩ := HX.out wo HI.out.2.2
    by_cases hkm : k < xl
    · obtain ⟨b, o, p, rfl, hp, hb, a0, a1, a2, a3, a4, hv, hf⟩ := HQ.out.at_ (i := k) (by rw [← HXL.out]; exact hkm)
      have k0 : (0 : Int) ≤ k := by omega
      have km : (k : Int) < xl := by omega
      have HC := Lib.hid (fun (X : World) (hX : Below W0.heap.size W0 X) => show X.cell? ⟨w.heap.size, 0, none⟩ = some (.slice (some ⟨b, o, none⟩) xl c) ∧ X.cell? ⟨b, o + k * 5 + 1, none⟩ = some (.int .u64 p.e.i) ∧ X.cell? ⟨b, o + k * 5 + 4, none⟩ = some (.slice p.B p.e.x.length p.c) from
        ⟨(HX.out X hX).1, (hX.cell (p := ⟨b, _, none⟩) hb).trans a1, (hX.cell (p := ⟨b, _, none⟩) hb).trans a4⟩)
      have HP := Lib.hid hp
      replace a0 := (HI.out.2.2.cell (p := ⟨b, _, none⟩) hb).trans a0
      cases hu : p.e.u with
      | false =>
        have HI2 := Lib.hid (HI.out.no (Below.refl _ _) hp (by rw [hu]; rfl))
        rw [hu] at a0
        clear hu hp hv hf hb a1 a2 a3 a4
        go_wp2
        go_roundw
        case rel => exact ⟨k + 1, n, A1, c1, by omega, by omega, rfl, by go_num, HI2⟩
        case measure => simp [intOf]; omega
      | true =>
        have HU := Lib.hid hu
        rw [hu] at a0
        cases hfk : f k with
        | false =>
          have HInk := Lib.hid (HIn.out wo k (by omega))
          rw [hfk] at HInk
          have HNo := Lib.hid (fun (X : World) (hX : Below wo.heap.size wo X) => HI.out.no hX HP.out (show (p.e.u && f k) = false by rw [hfk]; simp))
          clear hu hp hv hf hb a1 a2 a3 a4 hfk
          go_wp2_with fail
          refine HInk.out.mono ?_
          rintro e w5 ⟨rfl, hb5⟩
          have HI2 := Lib.hid (HNo.out w5 hb5)
          clear hb5
          go_wp2
          go_roundw
          case rel => exact ⟨k + 1, n, A1, c1, by omega, by omega, rfl, by go_num, HI2⟩
          case measure => simp [intOf]; omega
        | true =>
          have HInk := Lib.hid (HIn.out wo k (by omega))
          rw [hfk] at HInk
          have HFk := Lib.hid hfk
          clear hu hp hv hf hb a1 a2 a3 a4 hfk
          go_wp2_with fail
          refine HInk.out.mono ?_
          rintro e w5 ⟨rfl, hb5⟩
          have HB5 := Lib.hid hb5
          have HT := Lib.hid (fun (X : World) (hX : Below w5.heap.size w5 X) => HC.out X (HI.out.2.2.trans ((HB5.out.trans (hX.mono HB5.out.size)).mono HI.out.2.2.size)))
          obtain ⟨t0, t1, t4⟩ := HT.out w5 (Below.refl _ _)
          have hba : Below w5.heap.size w5 ((w5.alloc (.cells #[.int .u64 p.e.i, .slice p.B p.e.x.length p.c] 64)).drew) := below_drew ((Below.refl _ _).alloc (Nat.le_refl _) _)
          have HBA := Lib.hid (HB5.out.trans (hba.mono HB5.out.size))
          have HOw := Lib.hid (HI.out.own HBA.out)
          have HRd := Lib.hid (show Read ((w5.alloc (.cells #[.int .u64 p.e.i, .slice p.B p.e.x.length p.c] 64)).drew) (some ⟨w5.heap.size, 0, none⟩) 1 2 [.int .u64 p.e.i, .slice p.B p.e.x.length p.c] from Read.two rfl rfl (cell_laid w5 _ _ 0) (cell_laid w5 _ _ 1))
          have HYs := Lib.hid (fun (X' : World) (A5 : Option Addr) (c5 : Nat) ho hg => HI.out.yes (X' := X') (A5 := A5) (c5 := c5) HBA.out HP.out HU.out HFk.out ho hg)
          have hsz : W0.heap.size ≤ ((w5.alloc (.cells #[.int .u64 p.e.i, .slice p.B p.e.x.length p.c] 64)).drew).heap.size := Nat.le_trans HI.out.2.2.size HBA.out.size
          have HSZ := Lib.hid hsz
          clear hb5 hba hsz e0 e1 e2
          generalize p.e.x.length = nx at *
          go_wp2
          go_region_held3 (fun X => X.cell? ⟨w.heap.size, 0, none⟩ = some (.slice (some ⟨b, o, none⟩) xl c) ∧ X.cell? ⟨b, o + k * 5 + 1, none⟩ = some (.int .u64 p.e.i) ∧ X.cell? ⟨b, o + k * 5 + 4, none⟩ = some (.slice p.B nx p.c))
            (first | (with_reducible assumption) | (with_reducible exact HT.out _ (below_drew (Below.refl _ _))) | (with_reducible exact HT.out _ (below_drew ((Below.refl _ _).alloc (Nat.le_refl _) _))) | (with_reducible exact HC.out _ HB6.out))
            (first
            | (refine gapp_step (by rfl) _ _ appR (by rfl) W0.heap.size A1 c1 n _ (by rfl) HOw.out (some ⟨w5.heap.size, 0, none⟩) 1 1 _ (by rfl) HRd.out (by omega) HSZ.out ?_; intro A5 c5 w6 ho6 hg6 _; have HY6 := Lib.hid (HYs.out w6 A5 c5 ho6 hg6); have HB6 := Lib.hid (show Below W0.heap.size W0 w6 from HY6.out.2.2); clear ho6 hg6))
          go_wp2
          go_roundw
          case rel => exact ⟨k + 1, n + 1, A5, c5, by omega, by omega, rfl, by go_num, HY6⟩
          case measure => simp [intOf]; omega
    · obtain rfl : k = xl := by omega
      have HF := Lib.hid (show OwnR W0.heap.size wo A1 c1 ((selI f q q.length).map toPr) ∧ n = ((selI f q q.length).map toPr).length ∧ Below W0.heap.size W0 wo from by
        rw [List.length_map, ← HXL.out]; exact ⟨HI.out.2.1, HI.out.1, HI.out.2.2⟩)
      have hrv : rvs ((selI f q q.length).map toPr) = inK f (ces q) (ces q).length := by rw [ces_length]; exact selI_rvs f q _ (Nat.le_refl _)
      have hrw : Rws wo A1 c1 ((selI f q q.length).map toPr) := own_rws HF.out.1 (fun p hp => by
        obtain ⟨x, hx, rfl⟩ := List.mem_map.1 hp
        exact (HQ.out.below HF.out.2.2).el _ (selI_mem _ hx)) (fun p hp => by
        obtain ⟨x, hx, rfl⟩ := List.mem_map.1 hp
        exact (HQ.out.fit _ (selI_mem _ hx)).1)
      have HR := Lib.hid (And.intro hrv hrw)
      clear hrv hrw
      go_wp2
      go_ret
      exact ⟨A1, c1, _, by rw [← HF.out.2.1]; rfl, HR.out.1, HR.out.2, HB0.out.trans (HF.out.2.2.mono HB0.out.size)⟩

end Go.Proofs.Ytdbcecmlakgknaa
