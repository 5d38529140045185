/-
  Free: how many cells are free.
-/
import Derived.Test.YtpdebkpblpipcaaArePut
namespace Go.Proofs.Ytpdebkpblpipcaa
open Go.RowKit Go.Shelf
set_option linter.unusedVariables false
set_option linter.unusedSimpArgs false
set_option maxRecDepth 100000
attribute [local go_sem] Oper.semAt_some

/-- What is counted so far. -/
def CntI (g : Nat) (W0 : World) (pre : List (Nat × Pa)) (W : World) : Prop := Boxed W g 3 (.int .i64 (96 - (pre.length : Int))) ∧ Turn (fun i => i = g) W0 W
theorem CntI.below {g : Nat} {W0 W W' : World} {pre : List (Nat × Pa)} (h : CntI g W0 pre W) (hb : Below W.heap.size W W') : CntI g W0 pre W' :=
  ⟨(hb.block _ h.1.lt).trans h.1, h.2.trans (Turn.of_below (S := fun _ => False) hb) (by simp)⟩
theorem CntI.put {g : Nat} {W0 W : World} {pre : List (Nat × Pa)} (h : CntI g W0 pre W) {k : Nat} {o : Obj} (o' : Obj) (hk0 : W0.heap.size ≤ k) (hk : W.heap[k]? = some o) (ho : o.isCells = false) : CntI g W0 pre (W.putObj k o') :=
  ⟨put_other hk ho h.1 rfl, h.2.trans (turn_put _ _ _) (fun i hi => .inr (by omega))⟩
theorem freeA_eq {l : List Ce} (h : arB l = true) : freeA l = 96 - (usedN l : Int) := by
  unfold freeA
  rw [h, if_pos rfl]
  have := used_free l
  have := arB_len h
  omega

set_option maxHeartbeats 4000000 in
theorem free_any (A : Option Addr) (c : Nat) (q : List Pa) (w : World) (h : Are w A c q) :
    Calls Try.prog 18 #[.agg #[.slice A q.length c]] w fun e w' => e = .returned (.int .i64 (freeA (ces q))) ∧ Below w.heap.size w w' := by
  obtain ⟨m, hm⟩ : ∃ m, m = q.length := ⟨_, rfl⟩
  obtain ⟨V0, hV0⟩ : ∃ V0, V0 = w.alloc (.cells #[.slice A m c] 24) := ⟨_, rfl⟩
  have hbV : Below w.heap.size w V0 := by rw [hV0]; exact (Below.refl _ w).alloc (Nat.le_refl _) _
  have hzV : V0.heap.size = w.heap.size + 1 := by rw [hV0]; simp
  have hrV : Boxed V0 w.heap.size 24 (.slice A m c) := by rw [hV0]; exact heap_alloc_new _ _
  have HC := Lib.hid (checkA_any A c q V0 (h.below hbV))
  rw [← hm] at HC ⊢
  have HM := Lib.hid hm
  have HV0 := Lib.hid hV0
  have HBV := Lib.hid hbV
  have HZV := Lib.hid hzV
  have HRV := Lib.hid hrV
  have HQ := Lib.hid h
  clear h hm hV0 hbV hzV hrV
  refine (callsIn_wide (n := 3)).1 ?_
  refine callsIn_of_wp_marks Try.func18 rfl trivial ?_ rfl
  simp only [Try.ntmps18, List.size_toArray, List.length_cons, List.length_nil, Nat.reduceAdd, Nat.reduceSub, Array.replicate_succ, Array.replicate_zero, List.push_toArray, List.append_toArray, List.nil_append, List.cons_append]
  cases hr : arB (ces q) with
  | false =>
    have HF := Lib.hid (show freeA (ces q) = 0 by unfold freeA; rw [hr]; rfl)
    rw [chkA_no hr] at HC
    clear hr
    gi_wp2_with (refine ⟨trivial, ?_⟩; gi_at_call 10; rw [← HV0.out]; refine (callsIn_wide.2 HC.out).mono ?_; rintro e w1 ⟨rfl, hb1⟩; have HB1 := Lib.hid (HBV.out.trans (hb1.mono HBV.out.size)); clear hb1)
    refine ⟨_, results_tmp rfl _ _ _, ?_⟩
    rw [HF.out]
    exact ⟨rfl, HB1.out⟩
  | true =>
    have HF := Lib.hid (show freeA (ces q) = 96 - ((selU q q.length).length : Int) by rw [freeA_eq hr, sel_used])
    rw [chkA_ok hr] at HC
    clear hr
    gi_wp2_with (first
      | (refine ⟨trivial, ?_⟩; gi_at_call 10; rw [← HV0.out]; refine (callsIn_wide.2 HC.out).mono ?_; rintro e w1 ⟨rfl, hb1⟩; have c1 := (hb1.cell (p := ⟨w.heap.size, 0, none⟩) (by rw [HZV.out]; simp)).trans HRV.out.cell; have c2 := (((Below.refl _ w1).alloc (Nat.le_refl _) (.cells #[.int .i64 96] 3)).cell (p := ⟨w.heap.size, 0, none⟩) (World.block_lt_of_cell? w1 _ c1)).trans c1; have HB1 := Lib.hid hb1; clear hb1)
      | (refine ⟨trivial, ?_⟩; gi_at_call 39; refine (callsIn_wide.2 (used_any _ _ _ _)).mono ?_; rintro e w' ⟨rfl, rfl⟩))
    obtain ⟨g, hg⟩ : ∃ g, g = w1.heap.size := ⟨_, rfl⟩
    obtain ⟨W0, hW0⟩ : ∃ W0, W0 = (w1.alloc (.cells #[.int .i64 96] 3)).alloc (.cells #[.slice A m c] 22) := ⟨_, rfl⟩
    have hb2 : Below w1.heap.size w1 W0 := by rw [hW0]; exact ((Below.refl _ w1).alloc (Nat.le_refl _) _).alloc (by simp) _
    have hz0 : W0.heap.size = g + 2 := by rw [hW0, hg]; simp
    have hxg : Boxed W0 g 3 (.int .i64 96) := by rw [hW0, hg]; exact (Boxed.new w1 _ _).alloc _
    have hxl : Boxed W0 (g + 1) 22 (.slice A m c) := by
      rw [hW0, hg]
      have h := Boxed.new (w1.alloc (.cells #[.int .i64 96] 3)) 22 (.slice A m c)
      rw [World.size_alloc] at h; exact h
    have hbw1 : Below w.heap.size w w1 := HBV.out.trans (HB1.out.mono HBV.out.size)
    have hgw : w.heap.size ≤ g := by rw [hg]; exact hbw1.size
    have hbW : Below w.heap.size w W0 := hbw1.trans (hb2.mono hbw1.size)
    have hcp : CntI g W0 [] W0 := ⟨hxg, Turn.refl _ _⟩
    have hseq := used1_in (w := W0) (w0 := w) (A := A) (c := c) (q := q) 2 g (g + 1) (by omega) (by rw [← HM.out]; exact hxl.cell) HQ.out hbW hgw
    have HZ0 := Lib.hid hz0
    have HSeq := Lib.hid hseq
    have HCp := Lib.hid hcp
    have HX := Lib.hid (And.intro hbW hgw)
    rw [← hW0, hg.symm]
    clear hb2 hz0 hxg hxl hbw1 hgw hbW hcp hseq hW0 hg HB1
    refine range_own rfl (by omega) (gf := 60) (lb := #[.pointer (some ⟨g + 1, 0, none⟩)]) rfl trivial (enters_of Try.func60 (by kernel_rfl) rfl) HSeq.out
      (fun W k h => h.elim) KpD.trans (fun B W k o o' _ hk ho => KpD.put hk ho) (fun _ => rfl) (fun _ _ _ _ _ _ _ _ _ => trivial)
      (CntI g W0) (fun _ _ _ => False) ?io ?ixo ?ip ?ixp ?h0
      (fun x => { tmps := #[.agg #[.slice A m c], .pointer (some ⟨w.heap.size, 0, none⟩), .int .i64 0, .pointer (some ⟨g, 0, none⟩), .agg #[.slice A m c], .int .i64 0, .bool false, .pointer (some ⟨w.heap.size, 0, none⟩), .slice A m c, .func (.func 60) #[] #[.pointer (some ⟨g + 1, 0, none⟩)], .int .i64 x.1, .agg #[.bool x.2.e.u, .int .u64 x.2.e.i, .int .u64 x.2.e.b, .int .u64 x.2.e.f, .slice x.2.B x.2.e.x.length x.2.c], undef, undef, undef], defers := [] }) ?assign ?body ?done ?stop
    case io => exact fun s X Y h ht => h.below (Turn.below ht (Nat.le_refl _) (fun i e => e.2.elim))
    case ixo => exact fun _ _ _ _ h _ => h
    case ip => exact fun s X k o o' h hk ho hc => h.put o' hk ho hc
    case ixp => exact fun _ _ _ _ _ _ h _ _ _ => h
    case h0 =>
      intro W hb _
      exact HCp.out.below hb
    case assign =>
      intro l x W K hK
      dsimp only [encC]
      gi_wp2
      simpa using hK
    case body =>
      rintro l pre x W ⟨h1, h2⟩ hsz _ ⟨hk, hP, hpre⟩
      have hlp : (pre.length : Int) ≤ 9223372036854775807 := by
        have := sel_len q x.1
        have h3 : x.1 < q.length := (List.getElem?_eq_some_iff.1 hk).1
        have := HQ.out.many
        rw [hpre]; omega
      have hc := h1.cell
      have hf := h1.frozen
      have HXX := Lib.hid (show KeepsFrom W0.heap.size W (W.setCell ⟨g, 0, none⟩ (.int .i64 (96 - (pre.length : Int) - 1))) ∧ KpD g (W0.heap.size + 2) W (W.setCell ⟨g, 0, none⟩ (.int .i64 (96 - (pre.length : Int) - 1))) ∧ CntI g W0 (pre ++ [x]) (W.setCell ⟨g, 0, none⟩ (.int .i64 (96 - (pre.length : Int) - 1))) from
        ⟨(KeepsOthers.setCell _ _ _).from _, KpD.set _ _ _, by rw [show 96 - (pre.length : Int) - 1 = 96 - ((pre ++ [x]).length : Int) by simp; omega]; exact h1.set _, h2.trans (turn_set _ _ _ _) (fun i hi => .inl hi)⟩)
      clear h1 h2 hk hP hpre hsz
      gi_wp2
      exact HXX.out
    case done =>
      rintro xs W rfl ⟨h1, h2⟩ hK
      have hc := h1.cell
      obtain ⟨hbW, hgw⟩ := HX.out
      have HB := Lib.hid (And.intro (hbW.trans (h2.below hbW.size (fun i hi => by omega))) hK)
      clear h1 h2 hbW hgw hK
      gi_wp2
      refine ⟨by simp, .inl ⟨_, _, rfl, run_takeDeferred HB.out.2, ?_⟩⟩
      refine ⟨_, results_tmp rfl _ _ _, ?_, ?_⟩
      · rw [HF.out]; rfl
      · exact HB.out.1.trans ((turn_put _ _ _).below HB.out.1.size (fun i hi => by have := HX.out.1.size; omega))
    case stop =>
      rintro c pre W _ h _
      exact h.elim

end Go.Proofs.Ytpdebkpblpipcaa
