/-
  copied: an arena of the call's own that has the used cells.
-/
import Derived.Test.YtpdebkpblpipcaaArePut
namespace Go.Proofs.Ytpdebkpblpipcaa
open Go.RowKit Go.Shelf
set_option linter.unusedVariables false
set_option linter.unusedSimpArgs false
set_option maxRecDepth 100000
attribute [local go_sem] Oper.semAt_some

theorem below_putO {B k : Nat} {w : World} {o : Obj} (hk : B ≤ k) (hB : B ≤ w.heap.size) : Below B w (w.putObj k o) := (turn_put w k o).below hB (fun i hi => by omega)
set_option maxHeartbeats 4000000 in
theorem copied_any (A : Option Addr) (c : Nat) (q : List Pa) (w : World) (h : Are w A c q) (hq : q.length ≤ 96) (hs : ∀ p ∈ q, p.e.u = true → p.e.x.length ≤ 1000000) :
    Calls Try.prog 43 #[.slice A q.length c] w (GivesA w (padL (ces q))) := by
  refine (callsIn_wide (n := 3)).1 ?_
  refine callsIn_of_wp_marks Try.func43 rfl trivial ?_ rfl
  simp only [Try.ntmps43, List.size_toArray, List.length_cons, List.length_nil, Nat.reduceAdd, Nat.reduceSub, Array.replicate_succ, Array.replicate_zero, List.push_toArray, List.append_toArray, List.nil_append, List.cons_append]
  obtain ⟨m, hm⟩ : ∃ m, m = q.length := ⟨_, rfl⟩
  obtain ⟨V0, hV0⟩ : ∃ V0, V0 = w.alloc (.cells #[.slice none 0 0] 24) := ⟨_, rfl⟩
  have hbV : Below w.heap.size w V0 := by rw [hV0]; exact (Below.refl _ w).alloc (Nat.le_refl _) _
  have hzV : V0.heap.size = w.heap.size + 1 := by rw [hV0]; simp
  have hrV : Boxed V0 w.heap.size 24 (.slice none 0 0) := by rw [hV0]; exact heap_alloc_new _ _
  have HN := Lib.hid (newA_any V0)
  have HV0 := Lib.hid hV0
  have HBV := Lib.hid hbV
  have HZV := Lib.hid hzV
  have HRV := Lib.hid hrV
  have HQ := Lib.hid h
  have HQl := Lib.hid hq
  have HS := Lib.hid hs
  have HM := Lib.hid hm
  rw [← hm]
  clear h hq hs hm hV0 hbV hzV hrV
  gi_wp2_with (first
    | (refine ⟨trivial, ?_⟩; gi_at_call 15; rw [← HV0.out]; refine (callsIn_wide.2 HN.out).mono ?_; rintro e w1 ⟨g, q0, rfl, hq0, hl0, ho0, hb1⟩; have HO0 := Lib.hid (And.intro hq0 (And.intro hl0 (And.intro ho0 hb1))); clear hq0 hl0 ho0 hb1)
    | (refine ⟨trivial, ?_⟩; gi_at_call 39; refine (callsIn_wide.2 (used_any _ _ _ _)).mono ?_; rintro e w' ⟨rfl, rfl⟩))
  obtain ⟨hq0, hl0, ho0, hb1⟩ := HO0.out
  obtain ⟨s, hs⟩ : ∃ s, s = w1.heap.size := ⟨_, rfl⟩
  obtain ⟨W0, hW0⟩ : ∃ W0, W0 = (w1.alloc (.cells #[.slice (some ⟨g, 0, none⟩) 96 96] 24)).alloc (.cells #[.slice A m c] 22) := ⟨_, rfl⟩
  have hb2 : Below w1.heap.size w1 W0 := by rw [hW0]; exact ((Below.refl _ w1).alloc (Nat.le_refl _) _).alloc (by simp) _
  have hzs : w.heap.size + 1 ≤ s := by rw [hs, ← HZV.out]; exact hb1.size
  have hz0 : W0.heap.size = s + 2 := by rw [hW0, hs]; simp
  have hx3 : Boxed W0 s 24 (.slice (some ⟨g, 0, none⟩) 96 96) := by rw [hW0, hs]; exact (Boxed.new w1 _ _).alloc _
  have hxl : Boxed W0 (s + 1) 22 (.slice A m c) := by
    rw [hW0, hs]
    have h := Boxed.new (w1.alloc (.cells #[.slice (some ⟨g, 0, none⟩) 96 96] 24)) 22 (.slice A m c)
    rw [World.size_alloc] at h; exact h
  have hrb : Boxed W0 w.heap.size 24 (.slice none 0 0) := (hb2.block _ (by omega)).trans ((hb1.block _ (by rw [HZV.out]; omega)).trans HRV.out)
  have hbw1 : Below w.heap.size w w1 := HBV.out.trans (hb1.mono HBV.out.size)
  have hbW : Below w.heap.size w W0 := hbw1.trans (hb2.mono hbw1.size)
  rw [HZV.out] at ho0
  have hcp : CpA (w.heap.size + 1) g W0 [] W0 := ⟨q0, ho0.below hb2, hl0, by rw [hq0]; rfl, Turn.refl _ _⟩
  have hglo := ho0.lo
  have hseq := used1_in (w := W0) (w0 := w) (A := A) (c := c) (q := q) 2 g (s + 1) (by omega) (by rw [← HM.out]; exact hxl.cell) HQ.out hbW (by omega)
  have HG := Lib.hid hglo
  have HZ0 := Lib.hid hz0
  have HX := Lib.hid (And.intro hx3 (And.intro hrb hbW))
  have HSeq := Lib.hid hseq
  have HCp := Lib.hid hcp
  have HSs := Lib.hid hs
  have HZs := Lib.hid hzs
  rw [← hW0]
  have hrw : w1.heap.size = s := hs.symm
  rw [hrw]
  clear hq0 hl0 ho0 hb1 hb2 hx3 hxl hrb hbw1 hbW hcp hglo hseq hW0 hrw hs HO0
  refine range_box2 rfl (by omega) (gf := 60) (lb := #[.pointer (some ⟨s + 1, 0, none⟩)]) rfl trivial (enters_of Try.func60 (by kernel_rfl) rfl) HSeq.out
    (fun W k h => h.elim) KpD.trans (fun B W k o o' _ hk ho => KpD.put hk ho) (fun _ => rfl) (fun x => .cells #[.bool x.2.e.u, .int .u64 x.2.e.i, .int .u64 x.2.e.b, .int .u64 x.2.e.f, .slice x.2.B x.2.e.x.length x.2.c] 45) (fun _ => rfl) (fun B W o => ⟨((Below.refl _ W).alloc (Nat.le_refl _) o).size, fun i o2 _ _ hi _ => (Below.heap_alloc W o i (lt_of_block hi)).trans hi⟩) (fun _ _ _ _ _ => trivial) (fun _ _ _ _ _ _ _ _ _ => trivial)
    (CpA (w.heap.size + 1) g W0) (fun _ _ _ => False) ?io ?ixo ?ip ?ixp ?h0
    (fun x gb => { tmps := #[.slice A m c, undef, .pointer (some ⟨w.heap.size, 0, none⟩), .pointer (some ⟨s, 0, none⟩), .int .i64 x.1, .pointer (some ⟨gb, 0, none⟩), .agg #[.slice (some ⟨g, 0, none⟩) 96 96], .slice A m c, .func (.func 60) #[] #[.pointer (some ⟨s + 1, 0, none⟩)], .int .i64 x.1, .agg #[.bool x.2.e.u, .int .u64 x.2.e.i, .int .u64 x.2.e.b, .int .u64 x.2.e.f, .slice x.2.B x.2.e.x.length x.2.c], undef, undef, undef, undef, undef, undef, undef], defers := [] }) ?assign ?body ?done ?stop
  case io => exact fun s X Y h ht => h.below (Turn.below ht (Nat.le_refl _) (fun i e => e.2.elim))
  case ixo => exact fun _ _ _ _ h _ => h
  case ip => exact fun s X k o o' h hk ho hc => h.put o' hk ho hc
  case ixp => exact fun _ _ _ _ _ _ h _ _ _ => h
  case h0 =>
    intro W hb _
    exact HCp.out.below hb
  case assign =>
    intro l x W K hK
    dsimp only [encC]
    gi_wp2
    exact hK
  case body =>
    rintro l pre ⟨k, p⟩ gb W V o o' hI hzg hWV hlo hoc hsz hgg hg _ ⟨hk, hP, hpre⟩
    dsimp only at hk hP hpre hWV hlo hg ⊢
    have hkl : k < q.length := (List.getElem?_eq_some_iff.1 hk).1
    have hpm := List.mem_of_getElem? hk
    have hb1 : Below V.heap.size V (V.alloc (.cells #[.bool p.e.u, .int .u64 p.e.i, .int .u64 p.e.b, .int .u64 p.e.f, .slice p.B p.e.x.length p.c] 45)) := cel_alloc _ _ _ _ _ _ _ _
    have hIW : CpA (w.heap.size + 1) g W0 pre W := by rw [hWV]; exact (hI.below hb1).put o' (by omega) hlo hoc
    obtain ⟨hx3, hrb, hbW⟩ := HX.out
    have hst : Turn (fun i => i = g) W0 W := hIW.choose_spec.2.2.2
    have hx3W : Boxed W s 24 (.slice (some ⟨g, 0, none⟩) 96 96) := (hst.block _ hx3.lt (by have := HG.out; have := HSs.out; omega)).trans hx3
    have hbw : Below w.heap.size w W := hbW.trans (hst.below (by omega) (fun i hi => by have := HG.out; omega))
    have hvW := (HQ.out.el p hpm).below hbw
    have HC := Lib.hid (fun (X : World) (hX : Below W.heap.size W X) => owned_any p X (hvW.below hX) (HS.out p hpm hP))
    have hB : w.heap.size + 1 ≤ W.heap.size := by rw [HZ0.out] at hsz; omega
    have HSt := Lib.hid (fun (A1 : Option Addr) (c1 : Nat) (w1 : World) (hv : OwnV W.heap.size w1 A1 c1 p.e.x) (hb : Below W.heap.size W w1) => cp_step (B0 := W0.heap.size) (B := W0.heap.size + 2) (k := k) hIW (by have := HQl.out; omega) (HQ.out.fit p hpm) hB hv hb)
    have b0 := (cell_of_row _ _ 0 _ _ _ hg).trans rfl
    have b1 := (cell_of_row _ _ 1 _ _ _ hg).trans rfl
    have b2 := (cell_of_row _ _ 2 _ _ _ hg).trans rfl
    have b3 := (cell_of_row _ _ 3 _ _ _ hg).trans rfl
    have b4 := (cell_of_row _ _ 4 _ _ _ hg).trans rfl
    have hc3 := hx3W.cell
    have hk96 : (k : Int) < 96 := by have := HQl.out; omega
    have k0 : (0 : Int) ≤ k := by omega
    have HC3 := Lib.hid (fun (X : World) (hX : Below W.heap.size W X) => show X.cell? ⟨s, 0, none⟩ = some (.slice (some ⟨g, 0, none⟩) 96 96) from (hX.cell (p := ⟨s, 0, none⟩) hx3W.lt).trans hc3)
    clear hI hzg hWV hlo hoc hsz hg hk hpre hkl hpm hb1 hIW hx3 hrb hbW hst hx3W hbw hvW hB hP
    gi_wp2
    gi_region_with (refine ⟨trivial, ?_⟩; gi_at_call 36; refine (callsIn_wide.2 (HC.out _ (below_drew (Below.refl _ _)))).mono ?_; rintro e w2 ⟨A1, c1, rfl, hv2, hb2⟩; obtain ⟨⟨p0, d0, d1, d2, d3, d4⟩, ⟨f0, f1, f2, f3, f4⟩, hX⟩ := HSt.out A1 c1 w2 hv2 ((below_drew (Below.refl _ _)).trans hb2); have c3 := HC3.out w2 ((below_drew (Below.refl _ _)).trans hb2); have HXX := Lib.hid hX; clear hv2 hb2 hX)
    all_goals (
      gi_wp2
      exact HXX.out)
  case done =>
    rintro xs W rfl ⟨q', h1, h2, h3, h4⟩ hK
    rw [fill_all q HQl.out] at h3
    obtain ⟨hx3, hrb, hbW⟩ := HX.out
    have hg := HG.out
    have hss := HSs.out
    have hz0 := HZ0.out
    have hx3W : Boxed W s 24 (.slice (some ⟨g, 0, none⟩) 96 96) := (h4.block _ hx3.lt (by omega)).trans hx3
    have hrbW : Boxed W w.heap.size 24 (.slice none 0 0) := (h4.block _ hrb.lt (by omega)).trans hrb
    have hbw : Below w.heap.size w W := hbW.trans (h4.below (by omega) (fun i hi => by omega))
    obtain ⟨W5, hW5⟩ : ∃ W5, W5 = W.setCell ⟨w.heap.size, 0, none⟩ (.slice (some ⟨g, 0, none⟩) 96 96) := ⟨_, rfl⟩
    have t5 : Turn (fun i => i = w.heap.size) W W5 := by rw [hW5]; exact turn_set _ _ _ _
    have h15 : OwnA (w.heap.size + 1) W5 (some ⟨g, 0, none⟩) 96 q' := h1.turn t5 (fun i hi _ e => by omega)
    have hK5 : W5.heap[W0.heap.size]? = some (.deferred (some [])) := (t5.block _ (lt_of_block hK) (by omega)).trans hK
    have hb5 : Below w.heap.size w W5 := hbw.trans (t5.below hbw.size (fun i hi => by omega))
    have hr5 : Boxed W5 w.heap.size 24 (.slice (some ⟨g, 0, none⟩) 96 96) := by rw [hW5]; exact hrbW.set _
    have c3 := hx3W.cell
    have cr := hrbW.cell
    have fr := hrbW.frozen
    have HF := Lib.hid (And.intro h3 (And.intro h2 (And.intro h15 (And.intro hb5 (And.intro hr5 hK5)))))
    have HW5 := Lib.hid hW5
    clear h1 h2 h3 h4 hx3 hrb hbW hg hss hz0 hx3W hrbW hbw t5 h15 hK5 hb5 hr5 hW5 hK
    gi_wp2_with (rw [← HW5.out])
    refine ⟨by simp, .inl ⟨_, _, rfl, run_takeDeferred HF.out.2.2.2.2.2, ?_⟩⟩
    have r0 := (put_other (o' := .deferred none) HF.out.2.2.2.2.2 rfl HF.out.2.2.2.2.1 rfl)
    refine ⟨.agg #[.slice (some ⟨g, 0, none⟩) 96 96], ?_, g, q', rfl, HF.out.1, HF.out.2.1, ?_, ?_⟩
    · have r1 := Boxed.cell r0
      simp [results, Try.results43, go_sem, r1]
    · exact (HF.out.2.2.1.mono (by omega)).putO _ HF.out.2.2.2.2.2 rfl
    · exact HF.out.2.2.2.1.trans (below_putO (by have := HZ0.out; have := HZs.out; omega) HF.out.2.2.2.1.size)
  case stop =>
    rintro c pre W _ h _
    exact h.elim

end Go.Proofs.Ytpdebkpblpipcaa
