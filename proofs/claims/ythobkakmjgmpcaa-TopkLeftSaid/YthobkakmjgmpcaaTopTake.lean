/-
  take and empty.
-/
import Derived.Test.YthobkakmjgmpcaaTopDo
namespace Go.Proofs.Ythobkakmjgmpcaa
open Go.RowKit Go.Shelf
set_option linter.unusedVariables false
set_option linter.unusedSimpArgs false
set_option maxRecDepth 100000

theorem len_st (A : Option Addr) (n c : Nat) (w : World) : Calls Try.prog 34 #[.slice A n c] w fun e w' => e = .returned (.int .i64 n) ∧ w' = w := (len_any A n c w).mono fun _ _ ⟨a, b⟩ => ⟨a, b.symm⟩

theorem Keep.drewN {w : World} {K : Nat} {A : Option Addr} {c : Nat} {l : List HitM} {k : Int} (h : Keep w K A c l k) (n : Nat) : Keep (w.drewN n) K A c l k := ⟨h.head, h.row⟩
theorem Keep.zero {w : World} {K g : Nat} {c : Nat} {l : List HitM} {k : Int} (hk : Keep w K (some ⟨g, 0, none⟩) c l k) (h : HitM) :
    Keep ((w.setCell ⟨g, 0, none⟩ (.int .u64 h.1)).setCell ⟨g, 1, none⟩ (.int .u64 h.2)) K (some ⟨g, 0, none⟩) c (l.set 0 h) k ∧
    Turn (own K (some ⟨g, 0, none⟩)) w ((w.setCell ⟨g, 0, none⟩ (.int .u64 h.1)).setCell ⟨g, 1, none⟩ (.int .u64 h.2)) := by
  obtain ⟨h1, h2⟩ := row_set hk.row 0 h
  refine ⟨⟨?_, h1⟩, Turn.of_grown h2 (fun i hi => .inl (.inr hi))⟩
  rw [List.length_set]
  exact (h2.block K hk.lt hk.blk_ne).trans hk.head

set_option maxHeartbeats 1000000 in
theorem take_room (K : Nat) (A : Option Addr) (c kk : Nat) (l : List HitM) (h : HitM) (w : World) (hk : Keep w K A c l kk) (hp : Heap l.length l) (hkk : kk < 1099511627770) (hl : l.length < kk) :
    Calls Try.prog 37 #[.pointer (some ⟨K, 0, none⟩), .agg #[.int .u64 h.1, .int .u64 h.2]] w fun e w' => e = .returned (.tuple #[]) ∧
      ∃ A' c' p, p.Perm (l ++ [h]) ∧ Heap p.length p ∧ Keep w' K A' c' p kk ∧ (∀ i, blk A' = some i → blk A = some i ∨ w.heap.size ≤ i) ∧ Turn (own K A) w w' := by
  have hb : Below w.heap.size w (w.alloc (.cells #[.int .u64 h.1, .int .u64 h.2] 32)) := (Below.refl _ w).alloc (Nat.le_refl _) _
  have hk1 := hk.below hb
  have hc := hk1.cell
  have hc1 := hk1.cell1
  have HP := Lib.hid (fun (W : World) (hW : Keep W K A c l kk) => hpush_any K A c l kk h W hW hp (by omega))
  have HK := Lib.hid hk1
  have HB := Lib.hid hb
  have HLT := Lib.hid hk.lt
  have t1 : decide ((l.length : Int) < (kk : Int)) = true := by simp; omega
  generalize hn : l.length = n at *
  have HN := Lib.hid hn
  obtain ⟨x, y⟩ := h
  dsimp only at *
  clear hk hp hb hk1 hn
  go_enter Try.func37, Try.ntmps37
  go_wp2
  go_quiet ((go_at_call 34; with_reducible refine Calls.quiet_of_same (len_st _ _ _ _)))
  go_wp2_with fail
  refine (HP.out _ (HK.out.drewN nq)).mono ?_
  rintro e w1 ⟨rfl, A1, c1, p, hp1, hh1, hk1, hb1, ht1⟩
  have H1 := Lib.hid (show ∃ A' c' p, p.Perm (l ++ [(x, y)]) ∧ Heap p.length p ∧ Keep w1 K A' c' p kk ∧ (∀ i, blk A' = some i → blk A = some i ∨ w.heap.size ≤ i) ∧ Turn (own K A) w w1 from
    ⟨A1, c1, p, hp1, hh1, hk1, fun i hi => (hb1 i hi).elim .inl (fun h => .inr (Nat.le_trans HB.out.size h)), (Turn.of_below (S := own K A) (below_drewN HB.out nq)).trans ht1 (fun i hi => .inl hi)⟩)
  clear hp1 hh1 hk1 hb1 ht1
  go_wp2
  refine bodyPost_ret (results_none rfl _ _ _) rfl ?_
  exact ⟨rfl, H1.out⟩

set_option maxHeartbeats 1000000 in
theorem take_full (K : Nat) (A : Option Addr) (c kk : Nat) (l : List HitM) (h : HitM) (w : World) (hk : Keep w K A c l kk) (hp : Heap l.length l) (hkk : kk < 1099511627770) (hl : l.length = kk) (hpos : 0 < kk) :
    Calls Try.prog 37 #[.pointer (some ⟨K, 0, none⟩), .agg #[.int .u64 h.1, .int .u64 h.2]] w fun e w' => e = .returned (.tuple #[]) ∧
      ∃ A' c' p, p.Perm (l.set 0 h) ∧ Heap p.length p ∧ Keep w' K A' c' p kk ∧ (∀ i, blk A' = some i → blk A = some i ∨ w.heap.size ≤ i) ∧ Turn (own K A) w w' := by
  obtain ⟨g, rfl, _, hglt⟩ := hk.form (by omega)
  have hb : Below w.heap.size w (w.alloc (.cells #[.int .u64 h.1, .int .u64 h.2] 32)) := (Below.refl _ w).alloc (Nat.le_refl _) _
  have hk1 := hk.below hb
  have hc := hk1.cell
  have hc1 := hk1.cell1
  have hhd := down_start (n := l.length) h hp
  have hsl : (l.set 0 h).length = l.length := List.length_set
  have HP := Lib.hid (fun (W : World) (hW : Keep W K (some ⟨g, 0, none⟩) c (l.set 0 h) kk) => hfix_any K (some ⟨g, 0, none⟩) c (l.set 0 h) kk W hW (by omega) (by rw [hsl]; exact hhd) (by omega))
  have HK := Lib.hid hk1
  have HB := Lib.hid hb
  have HLT := Lib.hid hk.lt
  have t1 : decide ((l.length : Int) < (kk : Int)) = false := by simp; omega
  generalize hn : l.length = n at *
  have HN := Lib.hid hn
  have HZ := Lib.hid (fun (W : World) (hW : Keep W K (some ⟨g, 0, none⟩) c l kk) => hW.zero h)
  generalize hs : l.set 0 h = s at *
  have n0 : (0 : Int) < n := by omega
  obtain ⟨x, y⟩ := h
  dsimp only at *
  have hx := Lib.hid (heap_alloc_new w (.cells #[.int .u64 x, .int .u64 y] 32))
  clear hk hp hb hk1 hn hsl hs hhd
  go_enter Try.func37, Try.ntmps37
  go_wp2
  go_quiet ((go_at_call 34; with_reducible refine Calls.quiet_of_same (len_st _ _ _ _)))
  obtain ⟨W, hW⟩ : ∃ W, W = (w.alloc (.cells #[.int .u64 x, .int .u64 y] 32)).drewN nq := ⟨_, rfl⟩
  have hkW : Keep W K (some ⟨g, 0, none⟩) c l kk := by rw [hW]; exact HK.out.drewN nq
  have hbW : Below w.heap.size w W := by rw [hW]; exact below_drewN HB.out nq
  have hxW : W.heap[w.heap.size]? = some (.cells #[.int .u64 x, .int .u64 y] 32 (0, 0)) := by rw [hW]; exact hx.out
  have cW := hkW.cell
  have x0 : W.cell? ⟨w.heap.size, 0, none⟩ = some (.int .u64 x) := (cell_of_row _ _ _ _ _ _ hxW).trans rfl
  have x1 : W.cell? ⟨w.heap.size, 1, none⟩ = some (.int .u64 y) := (cell_of_row _ _ _ _ _ _ hxW).trans rfl
  obtain ⟨b, o, he, _, g0, g1⟩ := hkW.hits.at_ (j := 0) (by have := HN.out; omega)
  injection he with he
  injection he with he1 he2
  subst he1
  subst he2
  simp only [Nat.zero_mul, Nat.zero_add] at g0 g1
  have f0 := hkW.row.frozenAt 0
  have f1 := hkW.row.frozenAt 1
  have HKW := Lib.hid (And.intro hkW hbW)
  have HZW := Lib.hid (HZ.out W hkW)
  rw [HN.out] at cW
  rw [← hW]
  clear hW hkW hbW hxW hx hc hc1 HK HZ
  go_wp2
  go_region
  all_goals go_wp2_with fail
  all_goals refine (HP.out _ (Keep.drew HZW.out.1)).mono ?_
  all_goals rintro e w1 ⟨rfl, p, hp1, hh1, hk1, ht1⟩
  all_goals have H1 := Lib.hid (show ∃ A' c' q, List.Perm q s ∧ Heap q.length q ∧ Keep w1 K A' c' q kk ∧ (∀ i, blk A' = some i → blk (some (⟨g, 0, none⟩ : Addr)) = some i ∨ w.heap.size ≤ i) ∧ Turn (own K (some ⟨g, 0, none⟩)) w w1 from
    ⟨_, c, p, hp1, hh1, hk1, fun i hi => .inl hi, ((Turn.of_below (S := own K (some ⟨g, 0, none⟩)) HKW.out.2).trans HZW.out.2.drew (fun i hi => .inl hi)).trans ht1 (fun i hi => .inl hi)⟩)
  all_goals clear hp1 hh1 hk1 ht1
  all_goals go_wp2
  all_goals go_end0
  all_goals exact ⟨rfl, H1.out⟩

end Go.Proofs.Ythobkakmjgmpcaa
