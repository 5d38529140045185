/-
  The laws' few: a chain that can be gone through; Op.vec, Op.ts.
-/
import Derived.Test.YtbnedhhkapbliaaChnRefPrune
import Derived.Test.YtbnedhhkapbliaaChnSame
import Derived.Test.YtbnedhhkapbliaaChnRight
namespace Go.Proofs.Ytbnedhhkapbliaa
open Go.RowKit Go.Shelf
set_option linter.unusedVariables false
set_option linter.unusedSimpArgs false
set_option maxRecDepth 100000

def v5 (v : Vr) : Vr := ⟨v.b, v.f, v.x.take 5⟩
def fewM (l : List Vr) : List Vr := (l.take 97).map v5
theorem few_small {q : List Pl} {l : List Vr} (h : vals q = fewM l) : Small q := by
  refine ⟨?_, fun p hp => ?_⟩
  · rw [← vals_length, h]; unfold fewM; simp; omega
  · have hm : p.v ∈ vals q := List.mem_map_of_mem (f := fun p : Pl => p.v) hp
    rw [h] at hm
    obtain ⟨v, _, hv⟩ := List.mem_map.1 hm
    rw [← hv]; unfold v5; simp; omega

theorem Vec.begin {k : IntKind} {w : World} {A : Option Addr} {c : Nat} {bs : List Int} (h : Vec k w A c bs) (n : Nat) : Vec k w A c (bs.take n) := by
  refine ⟨by have := h.room; simp; omega, h.most, fun hp => ?_, fun x hx => h.fit x (List.mem_of_mem_take hx)⟩
  have hl : (bs.take n).length ≤ bs.length := by simp; omega
  obtain ⟨b, o, e, hb, hc⟩ := h.rd (by omega)
  refine ⟨b, o, e, hb, fun j hj => ?_⟩
  have hjn : j < n := by simp at hj; omega
  rw [hc j (by omega)]
  simp [List.getD, hjn]

theorem ver_step2 {wr W1 w2 : World} {b f : Int} {u : Value} {y : List Int} {m : Nat} {A2 : Option Addr} {c2 : Nat} (hx : W1.heap[wr.heap.size]? = some (.cells #[.int .u64 b, .int .u64 f, u] 35 (0, 0))) (hb : Below wr.heap.size wr W1) (hz : W1.heap.size = wr.heap.size + 2)
    (hf : ∀ x ∈ y, (Lit.int .i32 x).wf = true) (hm : m = y.length) (ho : w2.ownsRow (wr.heap.size + 1) 21 1 (.slice A2 m c2) m (y.map (Value.int .i32))) (hg : W1.grownBy w2 (blk (some (⟨wr.heap.size + 1, 0, none⟩ : Addr)))) :
    w2.cell? ⟨wr.heap.size, 2, none⟩ = some u ∧ w2.frozen? ⟨wr.heap.size, 2, none⟩ = false ∧
    (w2.setCell ⟨wr.heap.size, 2, none⟩ (.slice A2 m c2)).cell? ⟨wr.heap.size, 0, none⟩ = some (.int .u64 b) ∧ (w2.setCell ⟨wr.heap.size, 2, none⟩ (.slice A2 m c2)).cell? ⟨wr.heap.size, 1, none⟩ = some (.int .u64 f) ∧ (w2.setCell ⟨wr.heap.size, 2, none⟩ (.slice A2 m c2)).cell? ⟨wr.heap.size, 2, none⟩ = some (.slice A2 m c2) ∧
    Below wr.heap.size wr ((w2.setCell ⟨wr.heap.size, 2, none⟩ (.slice A2 m c2)).alloc (.cells #[.int .u64 b, .int .u64 f, .slice A2 m c2] 35)) ∧
    OwnV wr.heap.size ((w2.setCell ⟨wr.heap.size, 2, none⟩ (.slice A2 m c2)).alloc (.cells #[.int .u64 b, .int .u64 f, .slice A2 m c2] 35)) A2 c2 y ∧
    Read ((w2.setCell ⟨wr.heap.size, 2, none⟩ (.slice A2 m c2)).alloc (.cells #[.int .u64 b, .int .u64 f, .slice A2 m c2] 35)) (some ⟨w2.heap.size, 0, none⟩) 1 3 (flatC [⟨⟨b, f, y⟩, A2, c2⟩]) := by
  subst hm
  have hb2 : Below (wr.heap.size + 1) W1 w2 := grown_below hg (by omega) (fun i hi => Nat.le_of_eq (by simpa [blk] using hi))
  have hx2 := (hb2.block wr.heap.size (by omega)).trans hx
  have hx3 := box_set (B := A2) (n := y.length) (c := c2) hx2
  have hz2 : wr.heap.size ≤ w2.heap.size := by have := hb2.size; omega
  have hbw2 : Below wr.heap.size wr w2 := hb.trans (hb2.mono (by omega))
  have hb3 : Below wr.heap.size wr (w2.setCell ⟨wr.heap.size, 2, none⟩ (.slice A2 y.length c2)) := hbw2.setCell (Nat.le_refl _) _
  have hz3 : (w2.setCell ⟨wr.heap.size, 2, none⟩ (.slice A2 y.length c2)).heap.size = w2.heap.size := by simp [World.setCell]
  refine ⟨(cell_of_row _ _ 2 _ _ _ hx2).trans rfl, frozen_of_row _ _ _ _ _ hx2, (cell_of_row _ _ 0 _ _ _ hx3).trans rfl, (cell_of_row _ _ 1 _ _ _ hx3).trans rfl, (cell_of_row _ _ 2 _ _ _ hx3).trans rfl, hb3.alloc hb3.size _, ?_, ?_⟩
  · have h1 : OwnV (wr.heap.size + 1) w2 A2 c2 y := ⟨ho, hf⟩
    have h2 := h1.turn (turn_set w2 wr.heap.size 2 (.slice A2 y.length c2)) (fun i hi _ e => by omega)
    exact (h2.below ((Below.refl _ _).alloc (Nat.le_refl _) _)).mono (by omega)
  · rw [← hz3]
    have hc := fun i => cell_laid (w2.setCell ⟨wr.heap.size, 2, none⟩ (.slice A2 y.length c2)) #[.int .u64 b, .int .u64 f, .slice A2 y.length c2] 35 i
    exact Read.one (p := ⟨⟨b, f, y⟩, A2, c2⟩) (hc 0) (hc 1) (hc 2)

theorem few_more {l : List Vr} {k : Nat} {v : Vr} (h : l[k]? = some v) (hk : k ≤ 96) : fewM (l.take (k + 1)) = fewM (l.take k) ++ [v5 v] := by
  unfold fewM
  rw [List.take_take, List.take_take, Nat.min_eq_right (by omega), Nat.min_eq_right (by omega), List.take_add_one, h]
  simp
theorem few_same {l : List Vr} {k : Nat} (hk : ¬ k ≤ 96) : fewM (l.take (k + 1)) = fewM (l.take k) := by
  unfold fewM
  rw [List.take_take, List.take_take, Nat.min_eq_left (by omega), Nat.min_eq_left (by omega)]
theorem few_le {l : List Vr} : (fewM l).length ≤ 97 := by unfold fewM; simp; omega

set_option maxHeartbeats 2000000 in
theorem few_any (A : Option Addr) (c : Nat) (q : List Pl) (w : World) (h : Chn w A c q) :
    Calls Try.prog 10 #[.slice A q.length c] w (GivesC w (fewM (vals q))) := by
  obtain ⟨n, hn⟩ : ∃ n, n = q.length := ⟨_, rfl⟩
  have hmn : n ≤ 9223372036854775807 := by rw [hn]; exact h.many
  have HQ := Lib.hid h
  have HN := Lib.hid hn
  rw [← hn]
  clear h hn
  go_enter Try.func10, Try.ntmps10
  go_wp2
  go_loopw [3, 8] (fun v i wr => ∃ (k : Nat) (A1 : Option Addr) (c1 m : Nat), k ≤ n ∧ i = .int .i64 k ∧ v = .slice A1 m c1 ∧ Hid (∃ r, r.length = m ∧ vals r = fewM ((vals q).take k) ∧ OwnC w.heap.size wr A1 c1 r) ∧ Hid (Below w.heap.size w wr)) (fun _ i _ => n - (intOf i).toNat)
  case atStart => exact ⟨0, none, 0, 0, Nat.zero_le _, rfl, rfl, Lib.hid ⟨[], rfl, by simp [fewM, vals], OwnC.nil _ _⟩, Lib.hid (Below.refl _ _)⟩
  case round =>
    obtain ⟨k, A1, c1, m, hk, rfl, rfl, HO, HB⟩ := hrel
    by_cases hkn : k < n
    · obtain ⟨b, o, p, rfl, hp, hb, d0, d1, d2, hv, hf⟩ := (HQ.out.below HB.out).at_ (i := k) (by rw [← HN.out]; exact hkn)
      have k0 : (0 : Int) ≤ k := by omega
      have kn : (k : Int) < n := by omega
      obtain ⟨r, hr1, hr2, hr3⟩ := HO.out
      have HBX := Lib.hid (ver_alloc wr p.v.b p.v.f p.B p.v.x.length p.c)
      by_cases h96 : k ≤ 96
      · have t96 : decide ((k : Int) ≤ 96) = true := by simp; omega
        have hm97 : m ≤ 97 := by rw [← hr1, ← vals_length, hr2]; exact few_le
        have HT := Lib.hid (show fewM ((vals q).take (k + 1)) = vals r ++ [v5 p.v] by rw [few_more (vals_at hp) h96, ← hr2])
        obtain ⟨y, hy⟩ : ∃ y, y = p.v.x.take 5 := ⟨_, rfl⟩
        obtain ⟨l5, hl5⟩ : ∃ l5, l5 = y.length := ⟨_, rfl⟩
        have hl5m : l5 = min p.v.x.length 5 := by rw [hl5, hy]; simp [Nat.min_comm]
        have hvr := hv.room
        have hvm := hv.most
        have hmin : min ((p.v.x.length : Int)) 5 = (l5 : Int) := by omega
        have l50 : (0 : Int) ≤ l5 := by omega
        have l51 : (l5 : Int) ≤ p.v.x.length := by omega
        have l52 : (l5 : Int) ≤ p.c := by omega
        have l53 : l5 ≤ 5 := by omega
        obtain ⟨W1, hW1⟩ : ∃ W1, W1 = (wr.alloc (.cells #[.int .u64 p.v.b, .int .u64 p.v.f, .slice p.B p.v.x.length p.c] 35)).alloc (.cells #[] 21) := ⟨_, rfl⟩
        have hzb : (wr.alloc (.cells #[.int .u64 p.v.b, .int .u64 p.v.f, .slice p.B p.v.x.length p.c] 35)).heap.size = wr.heap.size + 1 := World.size_alloc _ _
        have hz1 : W1.heap.size = wr.heap.size + 2 := by rw [hW1]; simp
        have hb1 : Below wr.heap.size wr W1 := by rw [hW1]; exact HBX.out.alloc (by simp) _
        have hx1 : W1.heap[wr.heap.size]? = some (.cells #[.int .u64 p.v.b, .int .u64 p.v.f, .slice p.B p.v.x.length p.c] 35 (0, 0)) := by rw [hW1]; exact (Below.heap_alloc _ _ _ (by simp)).trans (heap_alloc_new _ _)
        have x0 := (cell_of_row _ _ 0 _ _ _ hx1).trans rfl
        have x1 := (cell_of_row _ _ 1 _ _ _ hx1).trans rfl
        have x2 := (cell_of_row _ _ 2 _ _ _ hx1).trans rfl
        have HO1 := Lib.hid (show W1.ownsRow (wr.heap.size + 1) 21 1 (.slice (some ⟨wr.heap.size + 1, 0, none⟩) 0 0) 0 [] from by
          rw [hW1, ← hzb]; exact World.ownsRow_made (base := (wr.alloc (.cells #[.int .u64 p.v.b, .int .u64 p.v.f, .slice p.B p.v.x.length p.c] 35)).heap.size) (size := 1) (e := 21) _ #[] 0 (Nat.le_refl _) (Nat.zero_le _) rfl)
        have hvy : Vec .i32 W1 p.B p.c y := by rw [hy]; exact (hv.below hb1).begin 5
        have HRd := Lib.hid (show Read W1 p.B l5 1 (y.map (Value.int .i32)) from by have := Read.vec hvy; rw [← hl5] at this; exact this)
        have HFx := Lib.hid hvy.fit
        have HX1 := Lib.hid hx1
        have HB1 := Lib.hid hb1
        have HZ1 := Lib.hid hz1
        have HW1 := Lib.hid hW1
        have HR1 := Lib.hid hr1
        have HR3 := Lib.hid hr3
        have HF := Lib.hid hf
        have HL5 := Lib.hid hl5
        have HV5 := Lib.hid (show v5 p.v = ⟨p.v.b, p.v.f, y⟩ by unfold v5; rw [hy])
        have HStep := Lib.hid (fun (A2 : Option Addr) (c2 : Nat) (w2 : World) (ho : w2.ownsRow (wr.heap.size + 1) 21 1 (.slice A2 l5 c2) l5 (y.map (Value.int .i32))) (hg : W1.grownBy w2 (blk (some (⟨wr.heap.size + 1, 0, none⟩ : Addr)))) => ver_step2 (y := y) HX1.out HB1.out HZ1.out HFx.out HL5.out ho hg)
        clear hb1 hx1 hW1 hzb hv hf hp hr1 hr2 hr3 hz1 hvy hl5 hl5m hy HO
        go_wp2_with (first
          | (at_builtin; rw [← HW1.out]; refine gapp_at rfl (.tmp 15) (.tmp 22) appI rfl (wr.heap.size + 1) (some ⟨wr.heap.size + 1, 0, none⟩) 0 0 [] rfl HO1.out p.B p.c l5 (y.map (Value.int .i32)) rfl HRd.out (by omega) (by rw [HZ1.out]; omega) ?_; intro A2 c2 w2 ho hg _; rw [Nat.zero_add, List.nil_append] at ho; obtain ⟨y2, k2, z0, z1, z2, hb4, hv4, hrd4⟩ := HStep.out A2 c2 w2 ho hg; have HB4 := Lib.hid hb4; have HV4 := Lib.hid hv4; have HRd4 := Lib.hid hrd4; have HO4 := Lib.hid (HR3.out.below HB4.out); clear hb4 hv4 hrd4 ho hg)
          | (at_builtin; refine gapp_at rfl (.tmp 25) (.tmp 27) appV rfl w.heap.size A1 c1 m (flatC r) rfl (by have := HO4.out.row; rw [HR1.out] at this; exact this) (some ⟨w2.heap.size, 0, none⟩) 1 1 (flatC [⟨⟨p.v.b, p.v.f, y⟩, A2, c2⟩]) rfl HRd4.out (by omega) (Nat.le_trans HB.out.size HB4.out.size) ?_; intro A5 c5 w5 ho5 hg5 _; have HO5 := Lib.hid (HO4.out.snoc (p := ⟨⟨p.v.b, p.v.f, y⟩, A2, c2⟩) (HV4.out.mono HB.out.size) HF.out (by rw [HR1.out]; exact ho5) hg5); have HB5 := Lib.hid ((HB.out.trans (HB4.out.mono HB.out.size)).trans (grown_below hg5 (Nat.le_trans HB.out.size HB4.out.size) (fun i hi => (HO4.out.low i hi).1))); clear ho5 hg5))
        go_roundw
        case rel => exact ⟨k + 1, A5, c5, m + 1, by omega, by go_num, rfl, Lib.hid ⟨r ++ [⟨⟨p.v.b, p.v.f, y⟩, A2, c2⟩], by rw [List.length_append, HR1.out]; rfl, by rw [HT.out, vals_append, HV5.out]; rfl, HO5.out⟩, HB5⟩
        case measure => simp [intOf]; omega
      · have t96 : decide ((k : Int) ≤ 96) = false := by simp; omega
        have HX := Lib.hid (show ∃ r, r.length = m ∧ vals r = fewM ((vals q).take (k + 1)) ∧ OwnC w.heap.size (wr.alloc (.cells #[.int .u64 p.v.b, .int .u64 p.v.f, .slice p.B p.v.x.length p.c] 35)) A1 c1 r from ⟨r, hr1, by rw [few_same h96]; exact hr2, hr3.below HBX.out⟩)
        clear hv hf hp hr1 hr2 hr3 h96 HO
        go_wp2
        go_roundw
        case rel => exact ⟨k + 1, A1, c1, m, by omega, by go_num, rfl, HX, Lib.hid (HB.out.trans (HBX.out.mono HB.out.size))⟩
        case measure => simp [intOf]; omega
    · obtain rfl : k = n := by omega
      have HT := Lib.hid (show (vals q).take k = vals q by rw [HN.out, ← vals_length, List.take_length])
      go_wp2
      go_ret
      obtain ⟨r, h1, h2, h3⟩ := HO.out
      exact ⟨A1, c1, r, by rw [h1]; rfl, by rw [h2, HT.out], h3, HB.out⟩

end Go.Proofs.Ytbnedhhkapbliaa
