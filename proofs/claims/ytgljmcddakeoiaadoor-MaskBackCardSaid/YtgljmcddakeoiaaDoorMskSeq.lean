/-
  slices.AppendSeq and slices.Collect of the iterator all; Slots.
-/
import Derived.Test.YtgljmcddakeoiaaDoorMskAll
import Derived.Test.YtgljmcddakeoiaaDoorMskApp
import Derived.RangeFuncBox
import Derived.OwnWalkIn
namespace Go.Proofs.YtgljmcddakeoiaaDoor
open Go.RowKit Go.Shelf
set_option linter.unusedVariables false
set_option linter.unusedSimpArgs false
set_option maxRecDepth 100000
attribute [local go_sem] Oper.semAt_some

theorem put_other {W : World} {k i : Nat} {o o' o2 : Obj} (h : W.heap[k]? = some o) (ho : o.isCells = false) (hi : W.heap[i]? = some o2) (h2 : o2.isCells = true) : (W.putObj k o').heap[i]? = some o2 := by
  rw [World.putObj_heap_other (fun e => ?_)]
  · exact hi
  · subst e; rw [h] at hi; cases hi; rw [ho] at h2; cases h2
theorem below_put {W : World} {k : Nat} {o : Obj} {B : Nat} (hk : B ≤ k) (hB : B ≤ W.heap.size) : Below B W (W.putObj k o) :=
  ⟨rfl, rfl, rfl, by simp [World.putObj], fun i hi => World.putObj_heap_other (by omega)⟩
theorem turn_set (W : World) (g j : Nat) (u : Value) : Turn (fun i => i = g) W (W.setCell ⟨g, j, none⟩ u) := ⟨rfl, rfl, rfl, by simp [World.setCell], fun k _ hk => Below.heap_setCell _ _ _ _ hk⟩
theorem keeps_turn {B0 : Nat} {S : Nat → Prop} {W W' : World} (h : Turn S W W') (hc : ∀ i, S i → ∃ o, W.heap[i]? = some o ∧ o.isCells = true) : KeepsFrom B0 W W' :=
  ⟨h.size, fun k o _ hk ho => (h.block k (lt_of_block hk) (fun e => by obtain ⟨o2, h2, h3⟩ := hc k e; rw [hk] at h2; cases h2; rw [ho] at h3; cases h3)).trans hk⟩
theorem row_put {w : World} {base : Nat} {e : TypeId} {size : Nat} {v : Value} {n : Nat} {xs : List Value} (h : w.ownsRow base e size v n xs) {k : Nat} {o : Obj} (o' : Obj) (hk : w.heap[k]? = some o) (ho : o.isCells = false) : (w.putObj k o').ownsRow base e size v n xs := by
  rcases h.2 with ⟨e', h0⟩ | ⟨g, cap, cur, e', hg, hh, hnc, hcm, hsz, hcs⟩
  · exact ⟨h.1, .inl ⟨e', h0⟩⟩
  · exact ⟨h.1, .inr ⟨g, cap, cur, e', hg, put_other hk ho hh rfl, hnc, hcm, hsz, hcs⟩⟩
theorem OwnN.put {base : Nat} {w : World} {A : Option Addr} {c : Nat} {l : List Nat} (h : OwnN base w A c l) {k : Nat} {o : Obj} (o' : Obj) (hk : w.heap[k]? = some o) (ho : o.isCells = false) : OwnN base (w.putObj k o') A c l := row_put h o' hk ho
theorem OwnN.isCells {base : Nat} {w : World} {A : Option Addr} {c : Nat} {l : List Nat} (h : OwnN base w A c l) {i : Nat} (hi : blk A = some i) : ∃ o, w.heap[i]? = some o ∧ o.isCells = true := by
  rcases h.2 with ⟨e, h0⟩ | ⟨g, cap, cur, e, hg, hh, _⟩
  · injection e with e1; subst e1; cases hi
  · injection e with e1; subst e1
    have : g = i := by simpa [blk] using hi
    subst this
    exact ⟨_, hh, rfl⟩
theorem KpT.put {B : Nat} {W : World} {k : Nat} {o o' : Obj} (hk : W.heap[k]? = some o) (ho : o.isCells = false) : KpT B W (W.putObj k o') := by
  refine ⟨by simp [World.putObj], fun t j hj => ?_⟩
  have h := t j hj
  by_cases hk0 : k = 0
  · subst hk0
    exfalso
    unfold World.cell? at h
    rw [hk] at h
    cases o <;> simp_all [Obj.isCells]
  · rw [← h]
    unfold World.cell?
    rw [show (W.putObj k o').heap[(0 : Nat)]? = W.heap[(0 : Nat)]? from World.putObj_heap_other (fun e => hk0 (by omega))]
theorem KpT.turn {B : Nat} {S : Nat → Prop} {W W' : World} (h : Turn S W W') (h0 : ¬ S 0) : KpT B W W' := by
  refine ⟨h.size, fun t j hj => ?_⟩
  have hc := t j hj
  rw [← hc]
  unfold World.cell?
  rw [h.block 0 (World.block_lt_of_cell? W _ hc) h0]

/-- What is collected so far. -/
def SqI (w : World) (pre : List Nat) (W : World) : Prop := ∃ A c, Boxed W w.heap.size 22 (.slice A (List.length pre) c) ∧ OwnN (w.heap.size + 1) W A c pre ∧ Below w.heap.size w W
theorem SqI.below {w W W' : World} {pre : List Nat} (h : SqI w pre W) (hb : Below W.heap.size W W') : SqI w pre W' := by
  obtain ⟨A, c, h1, h2, h3⟩ := h
  exact ⟨A, c, (hb.block _ h1.lt).trans h1, h2.below hb, h3.trans (hb.mono h3.size)⟩
theorem SqI.put {w W : World} {pre : List Nat} (h : SqI w pre W) {k : Nat} {o : Obj} (o' : Obj) (hk0 : w.heap.size ≤ k) (hk : W.heap[k]? = some o) (ho : o.isCells = false) : SqI w pre (W.putObj k o') := by
  obtain ⟨A, c, h1, h2, h3⟩ := h
  exact ⟨A, c, put_other hk ho h1 rfl, h2.put o' hk ho, h3.trans (below_put hk0 h3.size)⟩
theorem sq_last {w W V w4 : World} {A A5 : Option Addr} {c c5 x B : Nat} {pre : List Nat} (h0 : 0 < w.heap.size) (h1 : Boxed W w.heap.size 22 (.slice A pre.length c)) (h2 : OwnN (w.heap.size + 1) W A c pre) (h3 : Below w.heap.size w W)
    (hV : V = W.alloc (.cells #[.int .i64 (x : Int)] 3))
    (ho : w4.ownsRow (w.heap.size + 1) 3 1 (.slice A5 (pre.length + 1) c5) (pre.length + 1) ((pre.map fun (k : Nat) => Value.int .i64 (k : Int)) ++ [.int .i64 (x : Int)])) (hgr : V.grownBy w4 (blk A)) :
    w4.cell? ⟨w.heap.size, 0, none⟩ = some (.slice A pre.length c) ∧ w4.frozen? ⟨w.heap.size, 0, none⟩ = false ∧ KeepsFrom (w.heap.size + 1) W (w4.setCell ⟨w.heap.size, 0, none⟩ (.slice A5 (pre.length + 1) c5)) ∧ KpT B W (w4.setCell ⟨w.heap.size, 0, none⟩ (.slice A5 (pre.length + 1) c5)) ∧ SqI w (pre ++ [x]) (w4.setCell ⟨w.heap.size, 0, none⟩ (.slice A5 (pre.length + 1) c5)) := by
  have hA : ∀ i, blk A = some i → w.heap.size + 1 ≤ i ∧ i < W.heap.size := fun i hi => h2.low i hi
  have hbV : Below W.heap.size W V := by rw [hV]; exact (Below.refl _ W).alloc (Nat.le_refl _) _
  have hs1 := h1.lt
  obtain ⟨hN, hbw⟩ := h2.app (k := x) hbV (by omega) rfl ho hgr
  have t4 : Turn (fun i => blk A = some i) W w4 := (Turn.of_below (S := fun i => blk A = some i) hbV).trans (Turn.of_grown hgr (fun i hi => .inl hi)) (fun i hi => .inl hi)
  have hd4 : Boxed w4 w.heap.size 22 (.slice A pre.length c) := (t4.block _ h1.lt (fun e => by have := hA _ e; omega)).trans h1
  have t5 := turn_set w4 w.heap.size 0 (.slice A5 (pre.length + 1) c5)
  have tt : Turn (fun i => blk A = some i ∨ i = w.heap.size) W (w4.setCell ⟨w.heap.size, 0, none⟩ (.slice A5 (pre.length + 1) c5)) :=
    (t4.mono (S' := fun i => blk A = some i ∨ i = w.heap.size) (fun i hi => .inl hi)).trans t5 (fun i hi => .inl (.inr hi))
  refine ⟨hd4.cell, hd4.frozen, keeps_turn tt ?_, KpT.turn tt ?_, A5, c5, ?_, ?_, ?_⟩
  · rintro i (hi | rfl)
    · exact h2.isCells hi
    · exact ⟨_, h1, rfl⟩
  · rintro (hi | hi)
    · have := hA _ hi; omega
    · omega
  · rw [List.length_append]; exact hd4.set _
  · exact row_turn hN t5 (fun i hi e => by have := hN.low i (by rw [← own_blk A5 (pre ++ [x]).length c5]; exact hi); omega)
  · exact h3.trans (tt.below h3.size (fun i hi => hi.elim (fun hi => by have := hA _ hi; omega) (fun hi => by omega)))

def GivesN (w : World) (l : List Nat) (e : Ending) (w' : World) : Prop := ∃ A c, e = .returned (.slice A l.length c) ∧ OwnN w.heap.size w' A c l ∧ Below w.heap.size w w'

set_option maxHeartbeats 4000000 in
theorem appendSeq_any (gf : FuncId) (lb : Array Value) (m : Mk) (w : World) (h0 : 0 < w.heap.size) (hgf : ∀ args W, (callFunc gf args).run Tryd.prog W = .ok (.enter gf args) W)
    (hseq : ∀ W0, Below w.heap.size w W0 → SeqOwn Fence.wide 2 Tryd.prog gf lb encN (fun _ _ => False) (fun _ _ _ => True) KpT (NxT m) (fun xs => xs = slots m) (fun _ => True) W0) :
    Calls Tryd.prog 42 #[.slice none 0 0, .func (.func gf) #[] lb] w (GivesN w (slots m)) := by
  refine (callsIn_wide (n := 3)).1 ?_
  refine callsIn_of_wp_marks Tryd.func42 rfl trivial ?_ rfl
  simp only [Tryd.ntmps42, List.size_toArray, List.length_cons, List.length_nil, Nat.reduceAdd, Nat.reduceSub, Array.replicate_succ, Array.replicate_zero, List.push_toArray, List.append_toArray, List.nil_append, List.cons_append]
  have HGF := Lib.hid hgf
  have HSeq := Lib.hid hseq
  have H0 := Lib.hid h0
  clear hgf hseq h0
  obtain ⟨W0, hW0⟩ : ∃ W0, W0 = w.alloc (.cells #[.slice none 0 0] 22) := ⟨_, rfl⟩
  have hz0 : W0.heap.size = w.heap.size + 1 := by rw [hW0]; simp
  have hb0 : Below w.heap.size w W0 := by rw [hW0]; exact (Below.refl _ w).alloc (Nat.le_refl _) _
  have hd0 : Boxed W0 w.heap.size 22 (.slice none 0 0) := by rw [hW0]; exact heap_alloc_new _ _
  have HW0 := Lib.hid hW0
  have HZ0 := Lib.hid hz0
  have HB0 := Lib.hid hb0
  have HD0 := Lib.hid hd0
  clear hW0 hz0 hb0 hd0
  gi_wp2
  rw [← HW0.out]
  refine range_own rfl (by omega) (gf := gf) (lb := lb) rfl trivial HGF.out (HSeq.out W0 HB0.out)
    (fun W k h => h.elim) KpT.trans (fun B W k o o' _ hk ho => KpT.put hk ho) (fun _ => rfl) (fun _ _ _ _ _ _ _ _ _ => trivial)
    (SqI w) (fun _ _ _ => False) ?io ?ixo ?ip ?ixp ?h0
    (fun x => { tmps := #[.slice none 0 0, .func (.func gf) #[] lb, .pointer (some ⟨w.heap.size, 0, none⟩), undef, .slice none 0 0, .int .i64 x, .func (.func gf) #[] lb, .int .i64 x, undef, undef, undef, undef, undef], defers := [] }) ?assign ?body ?done ?stop
  case io => exact fun s X Y h ht => h.below (Turn.below ht (Nat.le_refl _) (fun i e => e.2.elim))
  case ixo => exact fun _ _ _ _ h _ => h
  case ip => exact fun s X k o o' h hk ho hc => h.put o' (by have := HZ0.out; omega) ho hc
  case ixp => exact fun _ _ _ _ _ _ h _ _ _ => h
  case h0 =>
    intro W hb _
    exact SqI.below (W := W0) ⟨none, 0, HD0.out, OwnN.nil _ _, HB0.out⟩ hb
  case assign =>
    intro l x W K hK
    dsimp only [encN]
    gi_wp2
    exact hK
  case body =>
    rintro l pre x W ⟨A0, c0, h1, h2, h3⟩ hsz _ ⟨hin, hpre⟩
    rw [HZ0.out] at hsz ⊢
    have hrl : pre.length ≤ 96 := by
      rw [hpre]
      have := has_lt hin
      exact Nat.le_trans (Nat.le_trans (List.length_filter_le _ _) (by simp)) (Nat.le_of_lt this)
    have hc := h1.cell
    obtain ⟨V, hV⟩ : ∃ V, V = W.alloc (.cells #[.int .i64 (x : Int)] 3) := ⟨_, rfl⟩
    have hbV : Below W.heap.size W V := by rw [hV]; exact (Below.refl _ W).alloc (Nat.le_refl _) _
    have HO := Lib.hid (h2.below hbV)
    have HR := Lib.hid (show Read V (some ⟨W.heap.size, 0, none⟩) 1 1 [.int .i64 (x : Int)] from Read.int (by rw [hV]; exact cell_new W _ _ 0))
    have HSW := Lib.hid (show w.heap.size + 1 ≤ V.heap.size by have := hbV.size; omega)
    have HL := Lib.hid (fun (A5 : Option Addr) (c5 : Nat) (w4 : World) (ho : w4.ownsRow (w.heap.size + 1) 3 1 (.slice A5 (pre.length + 1) c5) (pre.length + 1) ((pre.map fun (k : Nat) => Value.int .i64 (k : Int)) ++ [.int .i64 (x : Int)])) (hgr : V.grownBy w4 (blk A0)) => sq_last (B := w.heap.size + 1 + 2) H0.out h1 h2 h3 hV ho hgr)
    have HV := Lib.hid hV
    have HRL := Lib.hid hrl
    generalize hrn : pre.length = rn at *
    have HRN := Lib.hid hrn
    clear h1 h2 h3 hin hpre hrl hbV hV hsz hrn
    gi_wp2_with (gi_at_builtin; rw [← HV.out]; refine gapp_in rfl (.tmp 8) (.tmp 10) appN rfl (w.heap.size + 1) A0 c0 rn (pre.map fun (k : Nat) => Value.int .i64 (k : Int)) rfl (by have := HO.out; unfold OwnN at this; rw [HRN.out] at this; exact this) (some ⟨W.heap.size, 0, none⟩) 1 1 [.int .i64 (x : Int)] rfl HR.out (by have := HRL.out; omega) HSW.out ?_; intro A5 c5 w4 ho5 hg5 _; obtain ⟨v4, f4, hX1, hX2, hX3⟩ := HL.out A5 c5 w4 ho5 hg5; have HX := Lib.hid (And.intro hX1 (And.intro hX2 hX3)); clear ho5 hg5 hX1 hX2 hX3)
    exact HX.out
  case done =>
    rintro xs W rfl ⟨A0, c0, h1, h2, h3⟩ hK
    rw [HZ0.out] at hK
    have hc := h1.cell
    have HX := Lib.hid (And.intro h2 h3)
    clear h1 h2 h3
    gi_wp2
    refine ⟨by simp, .inl ⟨_, _, rfl, run_takeDeferred (by rw [HZ0.out]; exact hK), ?_⟩⟩
    refine ⟨_, results_tmp rfl _ _ _, A0, c0, rfl, ?_, ?_⟩
    · exact (HX.out.1.mono (by omega)).put _ (by rw [HZ0.out]; exact hK) rfl
    · exact HX.out.2.trans (below_put (by rw [HZ0.out]; omega) HX.out.2.size)
  case stop =>
    rintro _ _ _ _ h _
    exact h.elim
end Go.Proofs.YtgljmcddakeoiaaDoor
