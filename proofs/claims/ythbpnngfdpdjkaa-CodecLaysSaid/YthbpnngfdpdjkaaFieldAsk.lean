/-
  What Num, Int and Bytes answer of a scan, and what the scan is then.
-/
import Derived.Test.YthbpnngfdpdjkaaFieldTold
import Derived.StillTailTactics
import Derived.Deep.RegionWith
namespace Go.Proofs.Ythbpnngfdpdjkaa
open Go.RowKit
set_option linter.unusedVariables false
set_option maxRecDepth 100000

theorem isSize_st (n : Int) (w : World) :
    Calls Try.prog 60 #[.int .i64 n] w fun e w' => e = .returned (.bool (sizeB n)) ∧ w' = w := (isSize_any n w).mono fun _ _ ⟨a, b⟩ => ⟨a, b.symm⟩

/-- The world of a call that has boxed its size and its answer. -/
theorem box_two (w : World) (n : Int) (z : Value) (t : TypeId) : ((w.alloc (.cells #[.int .i64 n] 3)).alloc (.cells #[z] t)).heap[w.heap.size]? = some (.cells #[.int .i64 n] 3 (0, 0)) ∧
    ((w.alloc (.cells #[.int .i64 n] 3)).alloc (.cells #[z] t)).heap[w.heap.size + 1]? = some (.cells #[z] t (0, 0)) := by
  constructor
  · rw [Below.heap_alloc _ _ _ (by simp)]
    exact heap_alloc_new w _
  · have := heap_alloc_new (w.alloc (.cells #[.int .i64 n] 3)) (.cells #[z] t)
    simpa using this

section
variable {a w w' : World} {g x : Nat} {A A' : Option Addr} {c c' : Nat} {bs bs' : List Int} {pl pl' : Int} {bd bd' : Bool}
theorem Only.other (h : Only g a w) (k : Only x w w') (hx : a.heap.size ≤ x) : Only g a w' := by
  refine ⟨k.os.trans h.os, k.tape.trans h.tape, k.output.trans h.output, Nat.le_trans h.size k.size, fun i hi hne => ?_⟩
  rw [k.block i (Nat.lt_of_lt_of_le hi h.size) (by simp; omega)]
  exact h.block i hi hne
theorem Sl.only (h : Sl w A c bs) (ho : Only g w w') (hg : ∀ o z, w.cell? ⟨g, o, none⟩ ≠ some (.int .u8 z)) : Sl w' A c bs := ⟨h.room, h.most, h.rd.only ho hg⟩
theorem one_odd {v : Value} {t : TypeId} (h : w.heap[g]? = some (.cells #[v] t (0, 0))) (hv : ∀ z, v ≠ .int .u8 z) : ∀ o z, w.cell? ⟨g, o, none⟩ ≠ some (.int .u8 z) :=
  fun o z hc => one_ne h hv hc rfl
theorem Sc.far (h : Sc w g A c bs pl bd) (ho : Only x w w') (hx : ∀ o z, w.cell? ⟨x, o, none⟩ ≠ some (.int .u8 z)) (hne : g ≠ x) : Sc w' g A c bs pl bd :=
  ⟨(ho.block g h.lt (by simpa using hne)).trans h.blk, h.sl.only ho hx, h.oct, h.lo, h.hi⟩
theorem Sc.below (h : Sc w g A c bs pl bd) (hb : Below w.heap.size w w') : Sc w' g A c bs pl bd :=
  ⟨(hb.block g h.lt).trans h.blk, h.sl.below hb, h.oct, h.lo, h.hi⟩
theorem Sc.drewN (h : Sc w g A c bs pl bd) (q : Nat) : Sc (w.drewN q) g A c bs pl bd := ⟨h.blk, ⟨h.sl.room, h.sl.most, h.sl.rd⟩, h.oct, h.lo, h.hi⟩
theorem Sc.drew (h : Sc w g A c bs pl bd) : Sc w.drew g A c bs pl bd := ⟨h.blk, ⟨h.sl.room, h.sl.most, h.sl.rd⟩, h.oct, h.lo, h.hi⟩
theorem Sc.turn (h : Sc w g A c bs pl bd) (ho : Only g w w') (hb : w'.heap[g]? = some (.cells #[.slice A' bs'.length c', .int .i64 pl', .bool bd'] 99 (0, 0))) (hs : Sl w A' c' bs') (hoct : Oct bs')
    (lo : 0 ≤ pl') (hi : pl' + bs'.length ≤ 140737488355328) : Sc w' g A' c' bs' pl' bd' := ⟨hb, hs.only ho h.odd, hoct, lo, hi⟩
theorem Sc.bad (h : Sc w g A c bs pl bd) : Sc (w.setCell ⟨g, 2, none⟩ (.bool true)) g A c bs pl true := by
  refine h.turn ((Only.refl g w).set (.inl rfl) _) ?_ h.sl h.oct h.lo h.hi
  simp [World.setCell, Array.getElem?_modify, h.blk]
theorem Sc.took (h : Sc w g A c bs pl false) {m : Nat} (hm : m ≤ bs.length) :
    Sc ((w.setCell ⟨g, 0, none⟩ (.slice (behind A c m) (bs.length - m) (c - m))).setCell ⟨g, 1, none⟩ (.int .i64 (pl + m))) g (behind A c m) (c - m) (bs.drop m) (pl + m) false := by
  have h1 := h.lo
  have h2 := h.hi
  refine h.turn (((Only.refl g w).set (.inl rfl) _).set (.inl rfl) _) ?_ (h.sl.cut m hm) (h.oct.drop m) (by omega) (by simp; omega)
  simp [World.setCell, Array.getElem?_modify, h.blk]
end

/-- What could not be taken off: nothing is told, the scan stands where it stood, and is bad. -/
def Refused (w : World) (g : Nat) (A : Option Addr) (c : Nat) (bs : List Int) (pl : Int) (w' : World) : Prop := Sc w' g A c bs pl true ∧ Only g w w'
/-- What was taken off: the scan stands m bytes further on. -/
def Taken (w : World) (g : Nat) (A : Option Addr) (c : Nat) (bs : List Int) (pl : Int) (m : Nat) (w' : World) : Prop := Sc w' g (behind A c m) (c - m) (bs.drop m) (pl + m) false ∧ Only g w w'

set_option maxHeartbeats 400000 in
theorem num_nil (w : World) (n : Int) : Calls Try.prog 47 #[.pointer none, .int .i64 n] w fun e w' => e = .returned (.int .u64 0) ∧ Below w.heap.size w w' := by
  go_enter Try.func47, Try.ntmps47
  go_wp2
  obtain ⟨hs, hx⟩ := box_two w n (.int .u64 0) 22
  have hb : Below w.heap.size w ((w.alloc (.cells #[.int .i64 n] 3)).alloc (.cells #[.int .u64 0] 22)) := ((Below.refl _ w).alloc (Nat.le_refl _) _).alloc (by simp) _
  generalize (w.alloc (.cells #[.int .i64 n] 3)).alloc (.cells #[.int .u64 0] 22) = W at *
  have hcs := cell_of_one hs
  have hcx := cell_of_one hx
  have HB := Lib.hid hb
  clear hs hx hb
  refine wp_region_still_tail 5 (by kernel_rfl) (by kernel_rfl) ?_
  simp only [List.take_succ_cons, List.take_zero, List.drop_succ_cons, List.drop_zero]
  change wpStill _ _ W.drew _ _ _
  still_step
  still_step
  still_call (isSize_st n _)
  still_step
  still_step
  refine wpStill_nil ?_
  go_wp2_with (go_at_call 59; refine (take_nil _ _ _ _).mono ?_; rintro e w' ⟨rfl, rfl⟩)
  go_ret
  exact ⟨rfl, HB.out.drew⟩

set_option maxHeartbeats 400000 in
theorem num_bad (w : World) (g : Nat) (A : Option Addr) (c : Nat) (bs : List Int) (pl n : Int) (hsc : Sc w g A c bs pl true) :
    Calls Try.prog 47 #[.pointer (some ⟨g, 0, none⟩), .int .i64 n] w fun e w' => e = .returned (.int .u64 0) ∧ Refused w g A c bs pl w' := by
  have HSc := Lib.hid hsc
  clear hsc
  go_enter Try.func47, Try.ntmps47
  go_wp2
  obtain ⟨hs, hx⟩ := box_two w n (.int .u64 0) 22
  have hb : Below w.heap.size w ((w.alloc (.cells #[.int .i64 n] 3)).alloc (.cells #[.int .u64 0] 22)) := ((Below.refl _ w).alloc (Nat.le_refl _) _).alloc (by simp) _
  generalize (w.alloc (.cells #[.int .i64 n] 3)).alloc (.cells #[.int .u64 0] 22) = W at *
  have hcs := cell_of_one hs
  have hcx := cell_of_one hx
  have HB := Lib.hid hb
  clear hs hx hb
  refine wp_region_still_tail 5 (by kernel_rfl) (by kernel_rfl) ?_
  simp only [List.take_succ_cons, List.take_zero, List.drop_succ_cons, List.drop_zero]
  change wpStill _ _ W.drew _ _ _
  still_step
  still_step
  still_call (isSize_st n _)
  still_step
  still_step
  refine wpStill_nil ?_
  go_wp2_with (go_at_call 59; refine (take_bad W.drew g _ _ _ (HSc.out.below HB.out).c2).mono ?_; rintro e w' ⟨rfl, rfl⟩)
  go_ret
  exact ⟨rfl, (HSc.out.below HB.out).drew, ((Only.refl g w).below HB.out).drew⟩

set_option maxHeartbeats 400000 in
theorem num_no (w : World) (g : Nat) (A : Option Addr) (c : Nat) (bs : List Int) (pl n : Int) (hsc : Sc w g A c bs pl false) (hno : sizeB n = false ∨ (bs.length : Int) < n) :
    Calls Try.prog 47 #[.pointer (some ⟨g, 0, none⟩), .int .i64 n] w fun e w' => e = .returned (.int .u64 0) ∧ Refused w g A c bs pl w' := by
  have HSc := Lib.hid hsc
  have hlt := hsc.lt
  have HNo := Lib.hid hno
  clear hsc hno
  go_enter Try.func47, Try.ntmps47
  go_wp2
  obtain ⟨hs, hx⟩ := box_two w n (.int .u64 0) 22
  have hb : Below w.heap.size w ((w.alloc (.cells #[.int .i64 n] 3)).alloc (.cells #[.int .u64 0] 22)) := ((Below.refl _ w).alloc (Nat.le_refl _) _).alloc (by simp) _
  generalize (w.alloc (.cells #[.int .i64 n] 3)).alloc (.cells #[.int .u64 0] 22) = W at *
  have hcs := cell_of_one hs
  have hcx : (W.setCell ⟨g, 2, none⟩ (.bool true)).cell? ⟨w.heap.size + 1, 0, none⟩ = some (.int .u64 0) := by
    rw [World.cell?_setCell_other _ _ _ _ (fun e => by have := congrArg Addr.block e; simp at this; omega)]
    exact cell_of_one hx
  have HB := Lib.hid hb
  have HW := Lib.hid (HSc.out.below HB.out).drew
  clear hs hx hb
  refine wp_region_still_tail 5 (by kernel_rfl) (by kernel_rfl) ?_
  simp only [List.take_succ_cons, List.take_zero, List.drop_succ_cons, List.drop_zero]
  change wpStill _ _ W.drew _ _ _
  still_step
  still_step
  still_call (isSize_st n _)
  still_step
  still_step
  refine wpStill_nil ?_
  go_wp2_with fail
  have hrest : ∀ f, Calls Try.prog 59 #[.pointer (some ⟨g, 0, none⟩), .bool (sizeB n), .int .i64 n, f] W.drew fun e w' => e = .returned (.tuple #[]) ∧ W.drew.setCell ⟨g, 2, none⟩ (.bool true) = w' := by
    intro f
    rcases hsz : sizeB n with _ | _
    · exact take_may W.drew g bs.length c A n f HW.out.c2 HW.out.c0 (HW.out.fz 2)
    · exact take_more W.drew g bs.length c A n f HW.out.c2 HW.out.c0 (HW.out.fz 2) (by have h := HNo.out; rw [hsz] at h; simpa using h)
  refine (hrest _).mono ?_
  clear hrest
  rintro e w' ⟨rfl, rfl⟩
  go_wp2
  go_ret
  exact ⟨rfl, HW.out.bad, (((Only.refl g w).below HB.out).drew).set (.inl rfl) _⟩

set_option maxHeartbeats 400000 in
theorem num_yes (w : World) (g : Nat) (A : Option Addr) (c : Nat) (bs : List Int) (pl : Int) (m : Nat) (hsc : Sc w g A c bs pl false) (h1 : 1 ≤ m) (h8 : m ≤ 8) (hm : m ≤ bs.length) :
    Calls Try.prog 47 #[.pointer (some ⟨g, 0, none⟩), .int .i64 m] w fun e w' => e = .returned (.int .u64 (val (bs.take m))) ∧ Taken w g A c bs pl m w' := by
  have HSc := Lib.hid hsc
  have hlt := hsc.lt
  have HM := Lib.hid hm
  have hsz : Hid (sizeB (m : Int) = true) := by unfold Hid sizeB; simp; omega
  clear hsc hm
  go_enter Try.func47, Try.ntmps47
  go_wp2
  obtain ⟨hs, hx⟩ := box_two w m (.int .u64 0) 22
  have hb : Below w.heap.size w ((w.alloc (.cells #[.int .i64 m] 3)).alloc (.cells #[.int .u64 0] 22)) := ((Below.refl _ w).alloc (Nat.le_refl _) _).alloc (by simp) _
  generalize (w.alloc (.cells #[.int .i64 m] 3)).alloc (.cells #[.int .u64 0] 22) = W at *
  have hcs := cell_of_one hs
  have HB := Lib.hid hb
  have HW := Lib.hid (HSc.out.below HB.out).drew
  have HS := Lib.hid hs
  have HX := Lib.hid hx
  clear hs hx hb
  refine wp_region_still_tail 5 (by kernel_rfl) (by kernel_rfl) ?_
  simp only [List.take_succ_cons, List.take_zero, List.drop_succ_cons, List.drop_zero]
  change wpStill _ _ W.drew _ _ _
  still_step
  still_step
  still_call (isSize_st m _)
  still_step
  still_step
  refine wpStill_nil ?_
  go_wp2_with fail
  rw [hsz.out]
  refine (take_yes _ _ _ W.drew g c A bs pl m HW.out HM.out (fun w' => w'.heap[w.heap.size + 1]? = some (.cells #[.int .u64 (val (bs.take m))] 22 (0, 0)) ∧ Taken w g A c bs pl m w') (enter_num _ _ _) ?_).mono ?_
  · intro q
    have hS := (HW.out.drewN q).took HM.out
    have hO : Only g W.drew (((W.drew.drewN q).setCell ⟨g, 0, none⟩ (.slice (behind A c m) (bs.length - m) (c - m))).setCell ⟨g, 1, none⟩ (.int .i64 (pl + m))) := (((Only.refl g W.drew).drewN q).set (.inl rfl) _).set (.inl rfl) _
    have hR : Rd W.drew W.drew.heap.size A (bs.take m) := HW.out.sl.rd.take m
    have hR2 := hR.only hO HW.out.odd
    have hs2 := (hO.block w.heap.size (lt_of_block HS.out) (by simp; omega)).trans HS.out
    have hx2 := (hO.block (w.heap.size + 1) (lt_of_block HX.out) (by simp; omega)).trans HX.out
    generalize ((W.drew.drewN q).setCell ⟨g, 0, none⟩ (.slice (behind A c m) (bs.length - m) (c - m))).setCell ⟨g, 1, none⟩ (.int .i64 (pl + m)) = D at *
    refine (num1_any A m (bs.take m) w.heap.size (w.heap.size + 1) D (by have := HM.out; simp; omega) h1 h8 hR2 (HW.out.oct.take m) hs2 hx2).mono ?_
    rintro e w' ⟨rfl, hv, ho⟩
    refine ⟨rfl, hv, hS.far ho (one_odd hx2 (by simp)) (by omega), ?_⟩
    have hO1 : Only g w D := ((Only.refl g w).below HB.out).drew.trans hO
    exact hO1.other ho (by omega)
  · rintro e w' ⟨rfl, hv, ht⟩
    have hcv := cell_of_one hv
    have HT := Lib.hid ht
    clear hv ht
    go_wp2
    go_ret
    exact ⟨rfl, HT.out⟩

set_option maxHeartbeats 400000 in
theorem int_nil (w : World) (n : Int) : Calls Try.prog 58 #[.pointer none, .int .i64 n] w fun e w' => e = .returned (.int .i64 0) ∧ Below w.heap.size w w' := by
  go_enter Try.func58, Try.ntmps58
  go_wp2
  obtain ⟨hs, hx⟩ := box_two w n (.int .i64 0) 2
  have hb : Below w.heap.size w ((w.alloc (.cells #[.int .i64 n] 3)).alloc (.cells #[.int .i64 0] 2)) := ((Below.refl _ w).alloc (Nat.le_refl _) _).alloc (by simp) _
  generalize (w.alloc (.cells #[.int .i64 n] 3)).alloc (.cells #[.int .i64 0] 2) = W at *
  have hcs := cell_of_one hs
  have hcx := cell_of_one hx
  have HB := Lib.hid hb
  clear hs hx hb
  refine wp_region_still_tail 5 (by kernel_rfl) (by kernel_rfl) ?_
  simp only [List.take_succ_cons, List.take_zero, List.drop_succ_cons, List.drop_zero]
  change wpStill _ _ W.drew _ _ _
  still_step
  still_step
  still_call (isSize_st n _)
  still_step
  still_step
  refine wpStill_nil ?_
  go_wp2_with (go_at_call 59; refine (take_nil _ _ _ _).mono ?_; rintro e w' ⟨rfl, rfl⟩)
  go_ret
  exact ⟨rfl, HB.out.drew⟩

set_option maxHeartbeats 400000 in
theorem int_bad (w : World) (g : Nat) (A : Option Addr) (c : Nat) (bs : List Int) (pl n : Int) (hsc : Sc w g A c bs pl true) :
    Calls Try.prog 58 #[.pointer (some ⟨g, 0, none⟩), .int .i64 n] w fun e w' => e = .returned (.int .i64 0) ∧ Refused w g A c bs pl w' := by
  have HSc := Lib.hid hsc
  clear hsc
  go_enter Try.func58, Try.ntmps58
  go_wp2
  obtain ⟨hs, hx⟩ := box_two w n (.int .i64 0) 2
  have hb : Below w.heap.size w ((w.alloc (.cells #[.int .i64 n] 3)).alloc (.cells #[.int .i64 0] 2)) := ((Below.refl _ w).alloc (Nat.le_refl _) _).alloc (by simp) _
  generalize (w.alloc (.cells #[.int .i64 n] 3)).alloc (.cells #[.int .i64 0] 2) = W at *
  have hcs := cell_of_one hs
  have hcx := cell_of_one hx
  have HB := Lib.hid hb
  clear hs hx hb
  refine wp_region_still_tail 5 (by kernel_rfl) (by kernel_rfl) ?_
  simp only [List.take_succ_cons, List.take_zero, List.drop_succ_cons, List.drop_zero]
  change wpStill _ _ W.drew _ _ _
  still_step
  still_step
  still_call (isSize_st n _)
  still_step
  still_step
  refine wpStill_nil ?_
  go_wp2_with (go_at_call 59; refine (take_bad W.drew g _ _ _ (HSc.out.below HB.out).c2).mono ?_; rintro e w' ⟨rfl, rfl⟩)
  go_ret
  exact ⟨rfl, (HSc.out.below HB.out).drew, ((Only.refl g w).below HB.out).drew⟩

set_option maxHeartbeats 400000 in
theorem int_no (w : World) (g : Nat) (A : Option Addr) (c : Nat) (bs : List Int) (pl n : Int) (hsc : Sc w g A c bs pl false) (hno : sizeB n = false ∨ (bs.length : Int) < n) :
    Calls Try.prog 58 #[.pointer (some ⟨g, 0, none⟩), .int .i64 n] w fun e w' => e = .returned (.int .i64 0) ∧ Refused w g A c bs pl w' := by
  have HSc := Lib.hid hsc
  have hlt := hsc.lt
  have HNo := Lib.hid hno
  clear hsc hno
  go_enter Try.func58, Try.ntmps58
  go_wp2
  obtain ⟨hs, hx⟩ := box_two w n (.int .i64 0) 2
  have hb : Below w.heap.size w ((w.alloc (.cells #[.int .i64 n] 3)).alloc (.cells #[.int .i64 0] 2)) := ((Below.refl _ w).alloc (Nat.le_refl _) _).alloc (by simp) _
  generalize (w.alloc (.cells #[.int .i64 n] 3)).alloc (.cells #[.int .i64 0] 2) = W at *
  have hcs := cell_of_one hs
  have hcx : (W.setCell ⟨g, 2, none⟩ (.bool true)).cell? ⟨w.heap.size + 1, 0, none⟩ = some (.int .i64 0) := by
    rw [World.cell?_setCell_other _ _ _ _ (fun e => by have := congrArg Addr.block e; simp at this; omega)]
    exact cell_of_one hx
  have HB := Lib.hid hb
  have HW := Lib.hid (HSc.out.below HB.out).drew
  clear hs hx hb
  refine wp_region_still_tail 5 (by kernel_rfl) (by kernel_rfl) ?_
  simp only [List.take_succ_cons, List.take_zero, List.drop_succ_cons, List.drop_zero]
  change wpStill _ _ W.drew _ _ _
  still_step
  still_step
  still_call (isSize_st n _)
  still_step
  still_step
  refine wpStill_nil ?_
  go_wp2_with fail
  have hrest : ∀ f, Calls Try.prog 59 #[.pointer (some ⟨g, 0, none⟩), .bool (sizeB n), .int .i64 n, f] W.drew fun e w' => e = .returned (.tuple #[]) ∧ W.drew.setCell ⟨g, 2, none⟩ (.bool true) = w' := by
    intro f
    rcases hsz : sizeB n with _ | _
    · exact take_may W.drew g bs.length c A n f HW.out.c2 HW.out.c0 (HW.out.fz 2)
    · exact take_more W.drew g bs.length c A n f HW.out.c2 HW.out.c0 (HW.out.fz 2) (by have h := HNo.out; rw [hsz] at h; simpa using h)
  refine (hrest _).mono ?_
  clear hrest
  rintro e w' ⟨rfl, rfl⟩
  go_wp2
  go_ret
  exact ⟨rfl, HW.out.bad, (((Only.refl g w).below HB.out).drew).set (.inl rfl) _⟩

set_option maxHeartbeats 400000 in
theorem int_yes (w : World) (g : Nat) (A : Option Addr) (c : Nat) (bs : List Int) (pl : Int) (m : Nat) (hsc : Sc w g A c bs pl false) (h1 : 1 ≤ m) (h8 : m ≤ 8) (hm : m ≤ bs.length) :
    Calls Try.prog 58 #[.pointer (some ⟨g, 0, none⟩), .int .i64 m] w fun e w' => e = .returned (.int .i64 (vali (bs.take m))) ∧ Taken w g A c bs pl m w' := by
  have HSc := Lib.hid hsc
  have hlt := hsc.lt
  have HM := Lib.hid hm
  have hsz : Hid (sizeB (m : Int) = true) := by unfold Hid sizeB; simp; omega
  clear hsc hm
  go_enter Try.func58, Try.ntmps58
  go_wp2
  obtain ⟨hs, hx⟩ := box_two w m (.int .i64 0) 2
  have hb : Below w.heap.size w ((w.alloc (.cells #[.int .i64 m] 3)).alloc (.cells #[.int .i64 0] 2)) := ((Below.refl _ w).alloc (Nat.le_refl _) _).alloc (by simp) _
  generalize (w.alloc (.cells #[.int .i64 m] 3)).alloc (.cells #[.int .i64 0] 2) = W at *
  have hcs := cell_of_one hs
  have HB := Lib.hid hb
  have HW := Lib.hid (HSc.out.below HB.out).drew
  have HS := Lib.hid hs
  have HX := Lib.hid hx
  clear hs hx hb
  refine wp_region_still_tail 5 (by kernel_rfl) (by kernel_rfl) ?_
  simp only [List.take_succ_cons, List.take_zero, List.drop_succ_cons, List.drop_zero]
  change wpStill _ _ W.drew _ _ _
  still_step
  still_step
  still_call (isSize_st m _)
  still_step
  still_step
  refine wpStill_nil ?_
  go_wp2_with fail
  rw [hsz.out]
  refine (take_yes _ _ _ W.drew g c A bs pl m HW.out HM.out (fun w' => w'.heap[w.heap.size + 1]? = some (.cells #[.int .i64 (vali (bs.take m))] 2 (0, 0)) ∧ Taken w g A c bs pl m w') (enter_int _ _ _) ?_).mono ?_
  · intro q
    have hS := (HW.out.drewN q).took HM.out
    have hO : Only g W.drew (((W.drew.drewN q).setCell ⟨g, 0, none⟩ (.slice (behind A c m) (bs.length - m) (c - m))).setCell ⟨g, 1, none⟩ (.int .i64 (pl + m))) := (((Only.refl g W.drew).drewN q).set (.inl rfl) _).set (.inl rfl) _
    have hR : Rd W.drew W.drew.heap.size A (bs.take m) := HW.out.sl.rd.take m
    have hR2 := hR.only hO HW.out.odd
    have hs2 := (hO.block w.heap.size (lt_of_block HS.out) (by simp; omega)).trans HS.out
    have hx2 := (hO.block (w.heap.size + 1) (lt_of_block HX.out) (by simp; omega)).trans HX.out
    generalize ((W.drew.drewN q).setCell ⟨g, 0, none⟩ (.slice (behind A c m) (bs.length - m) (c - m))).setCell ⟨g, 1, none⟩ (.int .i64 (pl + m)) = D at *
    refine (int1_any A m (bs.take m) w.heap.size (w.heap.size + 1) D (by have := HM.out; simp; omega) h1 h8 hR2 (HW.out.oct.take m) hs2 hx2).mono ?_
    rintro e w' ⟨rfl, hv, ho⟩
    refine ⟨rfl, hv, hS.far ho (one_odd hx2 (by simp)) (by omega), ?_⟩
    have hO1 : Only g w D := ((Only.refl g w).below HB.out).drew.trans hO
    exact hO1.other ho (by omega)
  · rintro e w' ⟨rfl, hv, ht⟩
    have hcv := cell_of_one hv
    have HT := Lib.hid ht
    clear hv ht
    go_wp2
    go_ret
    exact ⟨rfl, HT.out⟩

theorem New.low {B B' : Nat} {w : World} {A : Option Addr} {c : Nat} {bs : List Int} (h : New B w A c bs) (hB : B' ≤ B) : New B' w A c bs := by
  obtain ⟨h1, h2⟩ := h
  refine ⟨h1, ?_⟩
  rcases h2 with h2 | ⟨g, cap, cur, hv, hg, r⟩
  · exact .inl h2
  · exact .inr ⟨g, cap, cur, hv, by omega, r⟩

theorem box_one (w : World) (z : Value) (t : TypeId) : (w.alloc (.cells #[z] t)).heap[w.heap.size]? = some (.cells #[z] t (0, 0)) := heap_alloc_new w _

end Go.Proofs.Ythbpnngfdpdjkaa
