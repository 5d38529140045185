/-
  The laws' wakes and own.
-/
import Derived.Test.YthobkakmjgmpcaaTopOffer
namespace Go.Proofs.Ythobkakmjgmpcaa
open Go.RowKit Go.Shelf
set_option linter.unusedVariables false
set_option linter.unusedSimpArgs false
set_option maxRecDepth 100000

/-- Hits in memory of their own. -/
def OwnH (w : World) (v : Value) (w' : World) (L : List HitM) : Prop := ∃ B cb, v = .slice B L.length cb ∧ w'.ownsRow w.heap.size 32 2 (.slice B L.length cb) L.length (flat L) ∧ Below w.heap.size w w'

theorem Hits.ofRow {w : World} {base : Nat} {e : TypeId} {B : Option Addr} {c : Nat} {l : List HitM} (h : w.ownsRow base e 2 (.slice B l.length c) l.length (flat l)) : Hits w B c l := by
  obtain ⟨A', c', e1, h1, _⟩ := Hits.own h
  injection e1 with e1 _ e3
  subst e1
  subst e3
  exact h1

set_option maxHeartbeats 1000000 in
theorem own_any (A : Option Addr) (c m : Nat) (l : List HitM) (w : World) (h : Hits w A c l) (hm : m ≤ 1000000000) :
    Calls Try.prog 12 #[.slice A l.length c, .int .i64 m] w fun e w' => ∃ v, e = .returned v ∧ OwnH w v w' (l.take m) := by
  have hroom := h.room
  have hmost := h.most
  have hlt : (l.take m).length = min l.length m := by rw [List.length_take]; omega
  have hT := h.take (n := m) (c' := c) (by omega) hmost
  have hO : (w.alloc (.cells #[] 32)).ownsRow w.heap.size 32 2 (.slice (some ⟨w.heap.size, 0, none⟩) 0 0) 0 [] := World.ownsRow_made w #[] 0 (Nat.le_refl _) (by unfold maxLen; omega) rfl
  have HO := Lib.hid hO
  have HT := Lib.hid (hT.below ((Below.refl _ w).alloc (Nat.le_refl _) (.cells #[] 32)))
  generalize hL : l.take m = L at *
  generalize hq : L.length = q at *
  have HQ := Lib.hid hq
  generalize l.length = n at *
  have hmin : min (n : Int) (m : Int) = (q : Int) := by omega
  have q0 : (0 : Int) ≤ q := by omega
  have qc : (q : Int) ≤ c := by omega
  have qcn : q ≤ c := by omega
  have hbq : q ≤ 1000000000 := by omega
  clear h hT hO hL hq hlt
  go_enter Try.func12, Try.ntmps12
  go_wp2_with (refine happ_at rfl _ _ 22 Try.underlying22 rfl w.heap.size (some ⟨w.heap.size, 0, none⟩) 0 0 [] rfl HO.out A c q L rfl HQ.out HT.out (by omega) (by show w.heap.size ≤ (w.alloc _).heap.size; rw [World.size_alloc]; omega) ?_; intro A1 c1 W1 hown hgrow hloc hnil; have HW := Lib.hid (And.intro hown hgrow); clear hown hgrow hloc hnil)
  go_ret
  refine ⟨_, rfl, A1, c1, by rw [HQ.out]; rfl, by rw [HQ.out]; have := HW.out.1; rw [Nat.zero_add] at this; exact this, ?_⟩
  refine ((Below.refl _ w).alloc (Nat.le_refl _) (.cells #[] 32)).trans ?_
  exact ⟨HW.out.2.os, HW.out.2.tape, HW.out.2.output, HW.out.2.size, fun i hi => HW.out.2.block i (by show i < (w.alloc _).heap.size; rw [World.size_alloc]; omega) (by simp [blk]; omega)⟩

theorem own_lit (A : Option Addr) (c m : Nat) (M : Int) (hM : M = m) (l : List HitM) (w : World) (h : Hits w A c l) (hm : m ≤ 1000000000) :
    Calls Try.prog 12 #[.slice A l.length c, .int .i64 M] w fun e w' => ∃ v, e = .returned v ∧ OwnH w v w' (l.take m) := by
  subst hM
  exact own_any A c m l w h hm

def three : List HitM := [(7, 3), (2, 4), (1, 3)]
theorem three_first : mergeE 2 [three] = 0 ∧ mergeL 2 [three] = [(1, 3), (7, 3)] := by
  obtain ⟨h1, h2⟩ := merge_ok (k := 2) (ls := [three]) rfl (by decide)
  exact ⟨h1, by rw [h2]; rfl⟩

set_option maxHeartbeats 1000000 in
theorem wakes_any (w : World) : Calls Try.prog 11 #[] w fun e w' => e = .returned (.bool true) ∧ Below w.heap.size w w' := by
  obtain ⟨W, hW⟩ : ∃ W, W = w.alloc (.cells #[.int .u64 7, .int .u64 3, .int .u64 2, .int .u64 4, .int .u64 1, .int .u64 3] 32) := ⟨_, rfl⟩
  have hb : Below w.heap.size w W := by rw [hW]; exact (Below.refl _ w).alloc (Nat.le_refl _) _
  have hg : W.heap[w.heap.size]? = some (.cells #[.int .u64 7, .int .u64 3, .int .u64 2, .int .u64 4, .int .u64 1, .int .u64 3] 32 (0, 0)) := by rw [hW]; exact heap_alloc_new _ _
  have hH : Hits W (some ⟨w.heap.size, 0, none⟩) 3 three := ⟨by decide, by omega, fun _ => ⟨_, 0, rfl, lt_of_block hg, fun j hj => by
    match j, hj with
    | 0, _ => exact ⟨(cell_of_row _ _ _ _ _ _ hg).trans rfl, (cell_of_row _ _ _ _ _ _ hg).trans rfl⟩
    | 1, _ => exact ⟨(cell_of_row _ _ _ _ _ _ hg).trans rfl, (cell_of_row _ _ _ _ _ _ hg).trans rfl⟩
    | 2, _ => exact ⟨(cell_of_row _ _ _ _ _ _ hg).trans rfl, (cell_of_row _ _ _ _ _ _ hg).trans rfl⟩
    | j + 3, hj => exact absurd hj (by simp [three])⟩⟩
  have HF := first_any 2 (some ⟨w.heap.size, 0, none⟩) 3 three W hH (by decide)
  rw [three_first.1, three_first.2] at HF
  have HF := Lib.hid HF
  have HB := Lib.hid hb
  have HW := Lib.hid hW
  have HN := Lib.hid (fun V => new_any 17 V)
  clear hW hb hg hH
  go_enter Try.func11, Try.ntmps11
  go_wp2_with fail
  rw [← HW.out]
  refine HF.out.mono ?_
  rintro e w1 ⟨B, cb, rfl, hr, hb1⟩
  obtain ⟨A, c, e1, hh, _⟩ := Hits.own hr
  injection e1 with e1 _ e3
  subst e1
  subst e3
  obtain ⟨b, o, rfl, hlt, hc⟩ := hh.rd (by simp)
  have hc0 := (hc 0 (by simp)).1
  have hc1 := (hc 1 (by simp)).1
  have hmx := hh.most
  have hrm := hh.room
  have HB1 := Lib.hid (HB.out.trans (hb1.mono HB.out.size))
  have HC := Lib.hid (And.intro hc0 hc1)
  clear hr hb1 hh hc hc0 hc1
  go_wp2_with fail
  refine (HN.out _).mono ?_
  rintro e w2 ⟨rfl, hb2⟩
  have HB2 := Lib.hid (HB1.out.trans (hb2.mono HB1.out.size))
  have c0 : w2.cell? ⟨b, o, none⟩ = some (.int .u64 1) := (hb2.cell (p := ⟨b, o, none⟩) hlt).trans (by simpa using HC.out.1)
  have c1 : w2.cell? ⟨b, o + 2, none⟩ = some (.int .u64 7) := (hb2.cell (p := ⟨b, o + 2, none⟩) hlt).trans (by simpa using HC.out.2)
  have hlt2 : b < w2.heap.size := Nat.lt_of_lt_of_le hlt hb2.size
  have hba := (Below.refl w2.heap.size w2).alloc (Nat.le_refl _) (.cells #[.int .i64 0, .slice none 0 0] 38)
  have d0 := (hba.cell (p := ⟨b, o, none⟩) hlt2).trans c0
  have d1 := (hba.cell (p := ⟨b, o + 2, none⟩) hlt2).trans c1
  have HBA := Lib.hid (HB2.out.trans (hba.mono HB2.out.size))
  clear hb2 hba
  go_wp2
  go_ret
  exact ⟨rfl, HBA.out⟩

end Go.Proofs.Ythobkakmjgmpcaa
