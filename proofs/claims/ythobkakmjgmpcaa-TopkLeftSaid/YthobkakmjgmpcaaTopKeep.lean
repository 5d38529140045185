/-
  A keeper in memory: its pile pushed and popped.
-/
import Derived.Test.YthobkakmjgmpcaaTopApp
import Derived.Test.YthobkakmjgmpcaaVecSeq
import Derived.OneCell
namespace Go.Proofs.Ythobkakmjgmpcaa
open Go.RowKit Go.Shelf
set_option linter.unusedVariables false
set_option linter.unusedSimpArgs false
set_option maxRecDepth 100000

/-- Block K is a keeper that keeps the hits l, in this order, and has room for k. -/
structure Keep (w : World) (K : Nat) (A : Option Addr) (c : Nat) (l : List HitM) (k : Int) : Prop where
  head : w.heap[K]? = some (.cells #[.slice A l.length c, .int .i64 k] 65 (0, 0))
  row : w.ownsRow (K + 1) 32 2 (.slice A l.length c) l.length (flat l)
def own (K : Nat) (A : Option Addr) (i : Nat) : Prop := i = K ∨ blk A = some i

section
variable {w w' : World} {K : Nat} {A : Option Addr} {c : Nat} {l : List HitM} {k : Int}
theorem Keep.cell (h : Keep w K A c l k) : w.cell? ⟨K, 0, none⟩ = some (.slice A l.length c) := by simp [World.cell?, h.head]
theorem Keep.cell1 (h : Keep w K A c l k) : w.cell? ⟨K, 1, none⟩ = some (.int .i64 k) := by simp [World.cell?, h.head]
theorem Keep.frz (h : Keep w K A c l k) (j : Nat) : w.frozen? ⟨K, j, none⟩ = false := frozen_of_row w K j _ _ h.head
theorem Keep.lt (h : Keep w K A c l k) : K < w.heap.size := lt_of_block h.head
theorem Keep.hits (h : Keep w K A c l k) : Hits w A c l := by
  obtain ⟨A', c', e, h1, _⟩ := Hits.own h.row
  injection e with e1 _ e3
  subst e1
  subst e3
  exact h1
theorem Keep.far (h : Keep w K A c l k) {i : Nat} (hi : blk A = some i) : K < i ∧ i < w.heap.size := by
  have := h.row.lt i (by rw [own_blk]; exact hi)
  omega
theorem Keep.blk_ne (h : Keep w K A c l k) : some K ≠ blk A := fun e => by have := h.far e.symm; omega
theorem Keep.form (h : Keep w K A c l k) (hl : 0 < l.length) : ∃ g, A = some ⟨g, 0, none⟩ ∧ K < g ∧ g < w.heap.size := by
  obtain ⟨g, cap, e, h1, h2⟩ := h.row.form hl
  injection e with e1 _ e3
  exact ⟨g, e1, h1, h2⟩
/-- Others have turned. -/
theorem Keep.turn {S : Nat → Prop} (h : Keep w K A c l k) (ht : Turn S w w') (h1 : ¬ S K) (h2 : ∀ i, blk A = some i → ¬ S i) : Keep w' K A c l k := by
  refine ⟨(ht.block _ h.lt h1).trans h.head, ?_⟩
  rcases h.row.2 with ⟨e, h0⟩ | ⟨g, cap, cur, e, hg, hh, hnc, hcm, hsz, hcs⟩
  · exact ⟨h.row.1, .inl ⟨e, h0⟩⟩
  · refine ⟨h.row.1, .inr ⟨g, cap, cur, e, hg, (ht.block _ (lt_of_block hh) (h2 g ?_)).trans hh, hnc, hcm, hsz, hcs⟩⟩
    injection e with e1
    rw [e1]; rfl
theorem Keep.below (h : Keep w K A c l k) (hb : Below w.heap.size w w') : Keep w' K A c l k := h.turn (S := fun _ => False) (Turn.of_below hb) (by simp) (by simp)
theorem Keep.drew (h : Keep w K A c l k) : Keep w.drew K A c l k := ⟨h.head, h.row⟩
end

@[go_sem] theorem as_hit (v : Value) (w : World) : (Instr.typeAssert (.iface 32 v) 20 32 false).run Try.prog w = .ok v w := by kernel_rfl
@[go_sem] theorem mk_hit (x : Value) (w : World) : (Instr.makeInterface 32 x).run Try.prog w = .ok (.iface 32 x) w := run_makeInterface w 32 x (by kernel_rfl)
@[go_sem] theorem mk_keeper (x : Value) (w : World) : (Instr.makeInterface 75 x).run Try.prog w = .ok (.iface 75 x) w := run_makeInterface w 75 x (by kernel_rfl)
theorem under_pile : Try.prog.underlying 63 = some (.slice 32) := by kernel_rfl

theorem turn_set {S : Nat → Prop} {w W : World} (h : Turn S w W) {p : Addr} (hp : S p.block ∨ w.heap.size ≤ p.block) (v : Value) : Turn S w (W.setCell p v) :=
  ⟨h.os, h.tape, h.output, by simpa [World.setCell] using h.size, fun k hk hn => (Below.heap_setCell W p v k (fun e => by subst e; rcases hp with hp | hp; exact hn hp; omega)).trans (h.block k hk hn)⟩
/-- The keeper's slice is another one. -/
theorem keep_set {W1 : World} {K n : Nat} {A1 : Option Addr} {c1 : Nat} {l : List HitM} {k : Int} {v : Value} (hb : W1.heap[K]? = some (.cells #[v, .int .i64 k] 65 (0, 0))) (hn : n = l.length)
    (ho : W1.ownsRow (K + 1) 32 2 (.slice A1 n c1) n (flat l)) : Keep (W1.setCell ⟨K, 0, none⟩ (.slice A1 n c1)) K A1 c1 l k := by
  subst hn
  refine ⟨heap_setCell_same W1 K 0 _ _ _ hb, ownsRow_setCell_other ho (fun e => ?_) _⟩
  have := ho.lt K e
  omega

set_option maxHeartbeats 1000000 in
theorem pilePush_any (K : Nat) (A : Option Addr) (c : Nat) (l : List HitM) (k : Int) (h : HitM) (w : World) (hk : Keep w K A c l k) (hbig : l.length < 1099511627776) :
    Calls Try.prog 65 #[.pointer (some ⟨K, 0, none⟩), .iface 32 (.agg #[.int .u64 h.1, .int .u64 h.2])] w fun e w' => e = .returned (.tuple #[]) ∧
      ∃ A' c', Keep w' K A' c' (l ++ [h]) k ∧ (∀ i, blk A' = some i → blk A = some i ∨ w.heap.size ≤ i) ∧ Turn (own K A) w w' := by
  have hc := hk.cell
  have hf := hk.frz 0
  have hlt := hk.lt
  have HK := Lib.hid hk
  obtain ⟨x, y⟩ := h
  dsimp only
  have HL := Lib.hid (show (l ++ [((x, y) : HitM)]).length = l.length + 1 by simp)
  obtain ⟨n, hn⟩ : ∃ n, n = l.length := ⟨_, rfl⟩
  have HN := Lib.hid hn
  rw [← hn] at hc hbig
  have HT := Lib.hid (hits_one (W := w.alloc (.cells #[.int .u64 x, .int .u64 y] 32)) (g := w.heap.size) (h := (x, y)) (cell_laid _ _ _ 0) (cell_laid _ _ _ 1))
  have HE := Lib.hid hk.blk_ne
  have HFX := Lib.hid (fun i => hk.far (i := i))
  have HR := Lib.hid (show w.ownsRow (K + 1) 32 2 (.slice A n c) n (flat l) by rw [hn]; exact hk.row)
  clear hk hn
  go_enter Try.func65, Try.ntmps65
  go_wp2
  go_region_law ((refine step_happ (by rfl) _ _ 63 under_pile (by rfl) (K + 1) A c n (flat l) (by rfl) (HR.out.alloc _).drew (some ⟨w.heap.size, 0, none⟩) 1 1 [(x, y)] (by rfl) rfl HT.out.drew (by omega) (by show K + 1 ≤ (w.alloc _).heap.size; rw [World.size_alloc]; omega) ?_; intro A1 c1 W1 hown hgrow hloc hnil; have hz : (w.alloc (.cells #[.int .u64 x, .int .u64 y] 32)).heap.size = w.heap.size + 1 := World.size_alloc _ _; have b0 : W1.heap[K]? = some (.cells #[.slice A n c, .int .i64 k] 65 (0, 0)) := (hgrow.block K (show K < (w.alloc _).heap.size by rw [World.size_alloc]; omega) HE.out).trans ((Below.heap_alloc _ _ _ hlt).trans (by rw [HN.out]; exact HK.out.head)); have h0' : W1.cell? ⟨K, 0, none⟩ = some (.slice A n c) := (cell_of_row _ _ _ _ _ _ b0).trans rfl; have f0' : W1.frozen? ⟨K, 0, none⟩ = false := frozen_of_row _ _ _ _ _ b0; have HO := Lib.hid hown; have HG := Lib.hid hgrow; have HL1 := Lib.hid hloc; have B0 := Lib.hid b0; clear hown hgrow hloc b0 hz hnil))
  all_goals go_wp2
  all_goals go_end0
  all_goals exact ⟨rfl, A1, c1, keep_set B0.out (by rw [HL.out, HN.out]) (by rw [flat_append]; exact HO.out), fun i hi => HL1.out.elim (fun e => .inl (by rw [← e]; exact hi)) (fun e => .inr (by
    rw [e] at hi
    injection hi with hi
    rw [← hi]
    show w.heap.size ≤ (w.alloc _).heap.size
    rw [World.size_alloc]; omega)),
    turn_set (((Turn.refl (own K A) w).alloc _).drew.trans (S' := own K A) (Turn.of_grown HG.out (fun i hi => .inl (.inr hi))) (fun i hi => .inl hi)) (.inl (.inl rfl)) _⟩

/-- One less, at the end. -/
theorem row_less {w : World} {base : Nat} {A : Option Addr} {c n : Nat} {l : List HitM} {x : HitM} (h : w.ownsRow base 32 2 (.slice A (n + 1) c) (n + 1) (flat (l ++ [x]))) (hn : l.length = n) : w.ownsRow base 32 2 (.slice A n c) n (flat l) := by
  rcases h.2 with ⟨_, h0⟩ | ⟨g, cap, cur, e, hg, hh, hnc, hcm, hsz, hcs⟩
  · omega
  · injection e with e1 _ e3
    subst e1
    subst e3
    refine ⟨by rw [flat_length, hn], .inr ⟨g, c, cur, rfl, hg, hh, by omega, hcm, hsz, ?_⟩⟩
    have h2 : cur.toList.take (n * 2) = (cur.toList.take ((n + 1) * 2)).take (n * 2) := by rw [List.take_take]; congr 1; omega
    rw [h2, hcs, flat_append, List.take_append_of_le_length (by rw [flat_length]; omega), List.take_of_length_le (by rw [flat_length]; omega)]

set_option maxHeartbeats 1000000 in
theorem pilePop_any (K : Nat) (A : Option Addr) (c : Nat) (l : List HitM) (x : HitM) (k : Int) (w : World) (hk : Keep w K A c (l ++ [x]) k) :
    Calls Try.prog 64 #[.pointer (some ⟨K, 0, none⟩)] w fun e w' => (∃ v, e = .returned v) ∧ Keep w' K A c l k ∧ Turn (own K A) w w' := by
  have hl : (l ++ [x]).length = l.length + 1 := by simp
  obtain ⟨b, hA, _, hb⟩ := hk.form (by omega)
  have hrow := hk.row
  have hroom := hk.hits.room
  have hmost := hk.hits.most
  have hhead := hk.head
  have hf := hk.frz 0
  have hlt := hk.lt
  have hgx := flat_get (l ++ [x]) l.length (by omega)
  rw [hl] at hrow hhead hroom
  subst hA
  have c1 := (hrow.cellAt (l.length * 2) (by omega)).trans hgx.1
  have c2 := (hrow.cellAt (l.length * 2 + 1) (by omega)).trans hgx.2
  have HLS := Lib.hid (row_less hrow rfl)
  have hKb : K < b := (hk.far rfl).1
  generalize ((l ++ [x]).getD l.length z2).1 = x1 at *
  generalize ((l ++ [x]).getD l.length z2).2 = x2 at *
  generalize hn : l.length = n at *
  have HN := Lib.hid hn
  have hc : w.cell? ⟨K, 0, none⟩ = some (.slice (some ⟨b, 0, none⟩) (n + 1) c) := (cell_of_row _ _ _ _ _ _ hhead).trans rfl
  have n0 : (0 : Int) ≤ n := by omega
  have nn : (n : Int) < ((n + 1 : Nat) : Int) := by omega
  have nc : n ≤ c := by omega
  have nci : (n : Int) ≤ c := by omega
  have HH := Lib.hid hhead
  have e1 : ((n + 1 : Nat) : Int) - 1 = n := by omega
  clear hk hl hn hgx hrow hhead
  go_enter Try.func64, Try.ntmps64
  go_wp2
  go_ret
  exact ⟨⟨_, rfl⟩, (keep_set HH.out HN.out.symm HLS.out).below ((Below.refl _ _).alloc (Nat.le_refl _) _), (turn_set (Turn.refl _ w) (.inl (.inl rfl)) _).alloc _⟩

/-- The root, read. -/
theorem furthest_any (A : Option Addr) (c : Nat) (l : List HitM) (w : World) (h : Hits w A c l) (hl : 0 < l.length) :
    Calls Try.prog 35 #[.slice A l.length c] w fun e w' => e = .returned (.agg #[.int .u64 (l.getD 0 z2).1, .int .u64 (l.getD 0 z2).2]) ∧ Below w.heap.size w w' := by
  obtain ⟨b, o, rfl, hb, c1, c2⟩ := h.at_ hl
  simp only [Nat.zero_mul, Nat.add_zero] at c1 c2
  generalize (l.getD 0 z2).1 = x1 at *
  generalize (l.getD 0 z2).2 = x2 at *
  generalize l.length = n at *
  have n0 : (0 : Int) < n := by omega
  clear h
  go_enter Try.func35, Try.ntmps35
  go_wp2
  exact bodyPost_ret (v := .agg #[.int .u64 x1, .int .u64 x2]) (by simp [results, Try.results35, go_sem]) rfl ⟨rfl, (Below.refl _ w).alloc (Nat.le_refl _) _⟩
end Go.Proofs.Ythobkakmjgmpcaa
