/-
  The law's own sets and wants: what the document says of an op, on its own disk.
-/
import Derived.Test.YthpbgejjfdgpaaaRefCrash
namespace Go.Proofs.Ythpbgejjfdgpaaa
open Go.RowKit
set_option linter.unusedVariables false
set_option maxRecDepth 100000

def RD.setC (D : RD) (n : Int) : Int := if D.dead then 9 else if n < -1 then 2 else 0
set_option maxHeartbeats 1000000 in
theorem sets_ref (D : RD) (n : Int) (w : World) : Calls Try.prog 46 #[.agg (rdA D), .int .i64 n] w fun e w' => e = .returned (.int .i64 (D.setC n)) ∧ Below w.heap.size w w' := by
  obtain ⟨W1, hW1⟩ : ∃ W1, W1 = w.alloc (.cells (rdA D) 33) := ⟨_, rfl⟩
  have hD : BoxR w w.heap.size D W1 := by rw [hW1]; exact BoxR.new w D
  have HW1 := Lib.hid hW1
  have HD := Lib.hid hD
  have y20 := hD.c20
  clear hW1 hD
  go_enter Try.func46, Try.ntmps46
  go_upto_region 1 with fail
  rw [← HW1.out]
  rcases hd : D.dead with _ | _
  · rw [hd] at y20
    by_cases hn : n < -1
    · have ha : Hid (D.setC n = 2) := by unfold Hid RD.setC; rw [hd, if_neg (by simp), if_pos hn]
      go_wp2
      go_ret
      rw [ha.out]
      exact ⟨rfl, HD.out.bel⟩
    · have ha : Hid (D.setC n = 0) := by unfold Hid RD.setC; rw [hd, if_neg (by simp), if_neg hn]
      have hn' : decide (n < -1) = false := by simp; omega
      go_wp2
      go_ret
      rw [ha.out]
      exact ⟨rfl, HD.out.bel⟩
  · rw [hd] at y20
    have ha : Hid (D.setC n = 9) := by unfold Hid RD.setC; rw [hd, if_pos rfl]
    go_wp2
    go_ret
    rw [ha.out]
    exact ⟨rfl, HD.out.bel⟩

/-- What wants answers: the document's disk behind the op, bytes, an error. -/
def WantsAs (w : World) (N : Nat → Prop) (M : AD) (q : AO) (e : Ending) (w' : World) : Prop := ∃ D' A n cp, e = .returned (.tuple #[.agg (rdA D'), .slice A n cp, .int .i64 (M.runC q)]) ∧ RefIs w' N D' (M.runM q) ∧ SlN w' (fun _ => False) A n cp (M.runB q) ∧ Below w.heap.size w w'

/-- The op's box, the disk's, the result's. -/
structure WB (w : World) (o : AO) (A : Option Addr) (bn c : Nat) (K : Option Addr) (kn kc : Nat) (D R : RD) (W : World) : Prop where
  op : W.heap[w.heap.size]? = some (.cells #[.int .i64 o.kind, .int .i64 o.file, .int .i64 o.n, .slice A bn c, .slice K kn kc] 37 (0, 0))
  d : BoxR w (w.heap.size + 1) D W
  r : BoxR w (w.heap.size + 2) R W
theorem wb_new (w : World) (o : AO) (A : Option Addr) (bn c : Nat) (K : Option Addr) (kn kc : Nat) (D : RD) :
    WB w o A bn c K kn kc D zeroR (((w.alloc (.cells #[.int .i64 o.kind, .int .i64 o.file, .int .i64 o.n, .slice A bn c, .slice K kn kc] 37)).alloc (.cells (rdA D) 33)).alloc (.cells (rdA zeroR) 33)) := by
  obtain ⟨Wa, hWa⟩ : ∃ Wa, Wa = w.alloc (.cells #[.int .i64 o.kind, .int .i64 o.file, .int .i64 o.n, .slice A bn c, .slice K kn kc] 37) := ⟨_, rfl⟩
  have hb : Below w.heap.size w Wa := by rw [hWa]; exact (Below.refl _ w).alloc (Nat.le_refl _) _
  have hs : Wa.heap.size = w.heap.size + 1 := by rw [hWa]; simp
  have hx : Wa.heap[w.heap.size]? = some (.cells #[.int .i64 o.kind, .int .i64 o.file, .int .i64 o.n, .slice A bn c, .slice K kn kc] 37 (0, 0)) := by rw [hWa]; exact heap_alloc_new w _
  rw [← hWa]
  obtain ⟨h1, h2⟩ := two_boxes Wa D
  rw [hs] at h1 h2
  exact ⟨(h1.bel.block _ (by omega)).trans hx, ⟨h1.box, hb.trans (h1.bel.mono hb.size)⟩, ⟨h2.box, hb.trans (h2.bel.mono hb.size)⟩⟩
theorem WB.later {w W W' : World} {o : AO} {A : Option Addr} {bn c : Nat} {K : Option Addr} {kn kc : Nat} {D R : RD} (h : WB w o A bn c K kn kc D R W) (hb : Below W.heap.size W W') : WB w o A bn c K kn kc D R W' :=
  ⟨(hb.block _ (lt_of_block h.op)).trans h.op, h.d.later hb, h.r.later hb⟩
/-- The op's box gets the op that can be gone through. -/
theorem WB.few {w w1 : World} {o q : AO} {A A1 : Option Addr} {bn c c1 bn1 : Nat} {K K1 : Option Addr} {kn kc kc1 kn1 : Nat} {D R : RD} (h : WB w o A bn c K kn kc D R w1) :
    WB w q A1 bn1 c1 K1 kn1 kc1 D R (((((w1.setCell ⟨w.heap.size, 0, none⟩ (.int .i64 q.kind)).setCell ⟨w.heap.size, 1, none⟩ (.int .i64 q.file)).setCell ⟨w.heap.size, 2, none⟩ (.int .i64 q.n)).setCell ⟨w.heap.size, 3, none⟩ (.slice A1 bn1 c1)).setCell ⟨w.heap.size, 4, none⟩ (.slice K1 kn1 kc1)) := by
  have h5 := heap_set (heap_set (heap_set (heap_set (heap_set h.op 0 (.int .i64 q.kind)) 1 (.int .i64 q.file)) 2 (.int .i64 q.n)) 3 (.slice A1 bn1 c1)) 4 (.slice K1 kn1 kc1)
  have t : ∀ (b : Nat) (D : RD) (W : World), b ≠ w.heap.size → BoxR w b D W → ∀ (i : Nat) (v : Value), BoxR w b D (W.setCell ⟨w.heap.size, i, none⟩ v) := fun b D W hne hx i v => hx.setOther (p := ⟨w.heap.size, i, none⟩) (Nat.le_refl _) (Ne.symm hne) v
  have n1 : w.heap.size + 1 ≠ w.heap.size := by omega
  have n2 : w.heap.size + 2 ≠ w.heap.size := by omega
  exact ⟨h5, t _ _ _ n1 (t _ _ _ n1 (t _ _ _ n1 (t _ _ _ n1 (t _ _ _ n1 h.d 0 _) 1 _) 2 _) 3 _) 4 _, t _ _ _ n2 (t _ _ _ n2 (t _ _ _ n2 (t _ _ _ n2 (t _ _ _ n2 h.r 0 _) 1 _) 2 _) 3 _) 4 _⟩
section
variable {w W : World} {o : AO} {A : Option Addr} {bn c : Nat} {K : Option Addr} {kn kc : Nat} {D R : RD}
theorem WB.y0 (h : WB w o A bn c K kn kc D R W) : W.cell? ⟨w.heap.size, 0, none⟩ = some (.int .i64 o.kind) := by simp [World.cell?, h.op]
theorem WB.y1 (h : WB w o A bn c K kn kc D R W) : W.cell? ⟨w.heap.size, 1, none⟩ = some (.int .i64 o.file) := by simp [World.cell?, h.op]
theorem WB.y2 (h : WB w o A bn c K kn kc D R W) : W.cell? ⟨w.heap.size, 2, none⟩ = some (.int .i64 o.n) := by simp [World.cell?, h.op]
theorem WB.y3 (h : WB w o A bn c K kn kc D R W) : W.cell? ⟨w.heap.size, 3, none⟩ = some (.slice A bn c) := by simp [World.cell?, h.op]
theorem WB.y4 (h : WB w o A bn c K kn kc D R W) : W.cell? ⟨w.heap.size, 4, none⟩ = some (.slice K kn kc) := by simp [World.cell?, h.op]
theorem WB.fz (h : WB w o A bn c K kn kc D R W) (i : Nat) : W.frozen? ⟨w.heap.size, i, none⟩ = false := by simp [World.frozen?, h.op]
end
/-- The op's own rows, whatever was done to the op's box. -/
theorem slices_few {w w1 W2 W1 : World} {q : AO} {A1 K1 : Option Addr} {c1 kc1 : Nat} (hlt : w.heap.size < W1.heap.size) (hf : FewAt W1.heap.size w1 q A1 c1 K1 kc1)
    (hne : ∀ g, g ≠ w.heap.size → W2.heap[g]? = w1.heap[g]?) : FewAt (w.heap.size + 1) W2 q A1 c1 K1 kc1 := by
  obtain ⟨h1, h2⟩ := hf
  have k1 := row_same h1 (w' := W2) (fun g hg => hne g (by have := (World.ownsRow.lt h1 g (by cases hh : A1 <;> simp_all [Value.ownBlock, blk])).1; omega))
  have k2 := row_same h2 (w' := W2) (fun g hg => hne g (by have := (World.ownsRow.lt h2 g (by cases hh : K1 <;> simp_all [Value.ownBlock, blk])).1; omega))
  exact ⟨row_base k1 (by omega), row_base k2 (by omega)⟩
theorem not_u8 (D : RD) (x : Int) (i : Nat) : (rdA D)[i]? ≠ some (.int .u8 x) := by
  intro h
  rcases i with _ | _ | _ | _ | _ | _ | _ | _ | _ | _ | _ | _ | _ | _ | _ | _ | _ | _ | _ | _ | _ | i <;> simp at h
/-- Bytes lie in no box of the document's disk. -/
theorem bytes_apart {W : World} {A : Option Addr} {B g : Nat} {D : RD} {xs : List Int} (h : Rd W B A xs) (hp : 0 < xs.length) (hg : W.heap[g]? = some (.cells (rdA D) 33 (0, 0))) : blk A ≠ some g := by
  obtain ⟨b, o, rfl, _, hc⟩ := h hp
  intro e
  have e : b = g := by simpa [blk] using e
  subst e
  have := hc 0 hp
  simp only [World.cell?, hg] at this
  exact not_u8 D _ _ this
theorem SlN.row {W : World} {N : Nat → Prop} {A : Option Addr} {n c g : Nat} {D : RD} {xs : List Int} (h : SlN W N A n c xs) (hg : W.heap[g]? = some (.cells (rdA D) 33 (0, 0))) (cs : Array Value) : SlN (W.setRow g cs) N A n c xs := by
  have ht := turn_row W g cs
  refine ⟨h.len, h.le, h.mx, ?_, h.far⟩
  intro hp
  have hne := bytes_apart h.rd hp hg
  obtain ⟨b, o, rfl, hb, hc⟩ := h.rd hp
  have hb' : b ≠ g := fun e => hne (by simp [blk, e])
  refine ⟨b, o, rfl, Nat.lt_of_lt_of_le hb ht.size, fun j hj => ?_⟩
  have := hc j hj
  simp only [World.cell?] at this ⊢
  rw [ht.block b hb hb']
  exact this
theorem RefIs.arm {W : World} {N : Nat → Prop} {D : RD} {M : AD} (h : RefIs W N D M) {n : Int} (hn : M.setC n = 0) (wn : I64 n) : RefIs W N { D with armed := n } (M.armM n) := by
  have h1 : ¬ n < -1 := by intro e; unfold AD.setC at hn; rw [if_pos e] at hn; split at hn <;> simp at hn
  obtain ⟨a1, a2, a3, a4, a5, a6⟩ := h.small
  have hf : ∀ k, RD.file { D with armed := n } k = D.file k := fun k => rfl
  have wn2 : n ≤ 9223372036854775807 := by have := bounds_i64 wn; omega
  unfold AD.armM
  rw [if_pos hn]
  exact ⟨h.room, h.ops, h.dead, fun _ => rfl, h.failing, ⟨a1, a2, by show -1 ≤ n; omega, wn2, a5, a6⟩, fun k hk => by rw [hf]; exact h.file k hk⟩
theorem RefIs.fail {W : World} {N : Nat → Prop} {D : RD} {M : AD} (h : RefIs W N D M) {n : Int} (hn : M.setC n = 0) (wn : I64 n) : RefIs W N { D with failing := n } (M.failM n) := by
  have h1 : ¬ n < -1 := by intro e; unfold AD.setC at hn; rw [if_pos e] at hn; split at hn <;> simp at hn
  obtain ⟨a1, a2, a3, a4, a5, a6⟩ := h.small
  have hf : ∀ k, RD.file { D with failing := n } k = D.file k := fun k => rfl
  have wn2 : n ≤ 9223372036854775807 := by have := bounds_i64 wn; omega
  unfold AD.failM
  rw [if_pos hn]
  exact ⟨h.room, h.ops, h.dead, h.armed, fun _ => rfl, ⟨a1, a2, a3, a4, by show -1 ≤ n; omega, wn2⟩, fun k hk => by rw [hf]; exact h.file k hk⟩


set_option maxHeartbeats 4000000 in
theorem wants_sync3 {w : World} {N : Nat → Prop} {D : RD} {M : AD} (h : RefIs w N D M) (hok : M.Ok) (hN : ∀ g, N g → g < w.heap.size) (hops : M.ops < 4000000000000000000) {B : Nat} (o : AO) (hw : o.Wf) (A : Option Addr) (c : Nat) (K : Option Addr) (kc : Nat) (ho : OpAt w B o A c K kc) (hop : o.op = 3) :
    Calls Try.prog 13 #[opV o A c K kc, .agg (rdA D)] w (WantsAs w N M o.few) := by
  have H := Lib.hid h
  have HOK := Lib.hid hok
  have HN := Lib.hid hN
  have HO := Lib.hid ho
  have HOPS := Lib.hid hops
  obtain ⟨q, hq⟩ : ∃ q, q = o.few := ⟨_, rfl⟩
  have HQ := Lib.hid hq
  have hk : q.kind = o.kind := by rw [hq]; rfl
  have wq : Hid (I64 q.file ∧ I64 q.n) := by unfold Hid; rw [hq]; exact ⟨hw.f, hw.n⟩
  have hbl : Hid (q.bs.length ≤ 300) := by unfold Hid; rw [hq]; simp [AO.few]; omega
  have hkl : Hid (q.keep.length ≤ 200) := by unfold Hid; rw [hq]; simp [AO.few]; omega
  rw [← hq]
  have hop' : q.op = o.op := by unfold AO.op; rw [hk]
  have hop2 : q.op = 3 := hop'.trans hop
  have HC0 := Lib.hid (show M.runC q = M.opC q.file [] by simp [AD.runC, hop2])
  have HM0 := Lib.hid (show M.runM q = M.opM q.file [] (M.met.put q.file (M.file q.file).settled) by simp [AD.runM, hop2])
  have HBB0 := Lib.hid (show M.runB q = [] by simp [AD.runB, hop2])
  obtain ⟨cc, hcc⟩ : ∃ cc, cc = M.opC q.file [] := ⟨_, rfl⟩
  obtain ⟨MM, hMM⟩ : ∃ MM, MM = M.opM q.file [] (M.met.put q.file (M.file q.file).settled) := ⟨_, rfl⟩
  obtain ⟨BB, hBB⟩ : ∃ BB : List Int, BB = [] := ⟨_, rfl⟩
  have HC := Lib.hid (HC0.out.trans hcc.symm)
  have HM := Lib.hid (HM0.out.trans hMM.symm)
  have HBB := Lib.hid (HBB0.out.trans hBB.symm)
  have HCC := Lib.hid hcc
  have HMM := Lib.hid hMM
  have HBX := Lib.hid hBB
  clear hcc hMM hBB HC0 HM0 HBB0
  unfold AO.op at hop2
  clear h hok hN ho hops hw hq hop'
  dsimp only [opV] at *
  obtain ⟨bn, hbn⟩ : ∃ bn, bn = o.bs.length := ⟨_, rfl⟩
  obtain ⟨kn, hkn⟩ : ∃ kn, kn = o.keep.length := ⟨_, rfl⟩
  have HBN := Lib.hid hbn
  have HKN := Lib.hid hkn
  rw [← hbn, ← hkn]
  have HK := Lib.hid hk
  clear hbn hkn hk
  go_enter Try.func13, Try.ntmps13
  go_upto_region 1 with fail
  refine name_world (fun W => WB w o A bn c K kn kc D zeroR W) (wb_new w o A bn c K kn kc D) ?_
  intro W1 hb1
  have WB1 := Lib.hid hb1
  have y0 := hb1.y0
  have y1 := hb1.y1
  have y2 := hb1.y2
  have y3 := hb1.y3
  have y4 := hb1.y4
  clear hb1
  have HF := Lib.hid (few_any o A c K kc (HO.out.below (WB1.out.d.bel.mono HO.out.low)))
  dsimp only [opV] at HF
  rw [← HBN.out, ← HKN.out, ← HQ.out] at HF

  go_upto_region 2 with (go_at_call 33; refine HF.out.mono ?_; rintro e w1 ⟨A1, c1, K1, kc1, rfl, hfw, hb1⟩; dsimp only [opV]; have WB2 := Lib.hid (WB1.out.later hb1); have x0 := WB2.out.y0; have x1 := WB2.out.y1; have x2 := WB2.out.y2; have x3 := WB2.out.y3; have x4 := WB2.out.y4; have z0 := WB2.out.fz 0; have z1 := WB2.out.fz 1; have z2 := WB2.out.fz 2; have z3 := WB2.out.fz 3; have z4 := WB2.out.fz 4; have HFW := Lib.hid hfw; have HB1 := Lib.hid hb1; clear hfw hb1 y0 y1 y2 y3 y4)
  refine name_world (fun W => WB w q A1 q.bs.length c1 K1 q.keep.length kc1 D zeroR W ∧ FewAt (w.heap.size + 1) W q A1 c1 K1 kc1) ⟨WB2.out.few, slices_few (lt_of_block WB1.out.op) HFW.out (fun g hg => by rw [Below.heap_setCell _ _ _ _ hg, Below.heap_setCell _ _ _ _ hg, Below.heap_setCell _ _ _ _ hg, Below.heap_setCell _ _ _ _ hg, Below.heap_setCell _ _ _ _ hg])⟩ ?_
  clear x0 x1 x2 x3 x4 z0 z1 z2 z3 z4
  rintro W3 ⟨hwb, hfew⟩
  obtain ⟨NN, hNN⟩ : ∃ NN : Nat → Prop, NN = fun g => N g ∨ g = w.heap.size + 1 ∨ g = w.heap.size + 2 := ⟨_, rfl⟩
  have hsz3 : w.heap.size + 2 < W3.heap.size := lt_of_block hwb.r.box
  have hr3 : RefIs W3 NN D M := H.out.turn (S := fun _ => False) (Turn.of_below hwb.d.bel) (fun _ _ e => e.elim) (fun g hg e => by rw [hNN] at e; rcases e with e | e | e; exact e; exact (by omega); exact (by omega))
  have HR3 := Lib.hid hr3
  have HNN := Lib.hid (show ∀ g, NN g → g < W3.heap.size from fun g e => by rw [hNN] at e; have hh := HN.out g; rcases e with e | e | e; exact (by have := hh e; omega); exact (by omega); exact (by omega))
  have NN1 := Lib.hid (show NN (w.heap.size + 1) from by rw [hNN]; exact .inr (.inl rfl))
  have NN2 := Lib.hid (show NN (w.heap.size + 2) from by rw [hNN]; exact .inr (.inr rfl))
  have NNN := Lib.hid (show ∀ g, N g → NN g from fun g e => by rw [hNN]; exact .inl e)
  have WB3 := Lib.hid hwb
  have FW3 := Lib.hid hfew
  have y0 := hwb.y0
  have y1 := hwb.y1
  have y2 := hwb.y2
  have y3 := hwb.y3
  have y4 := hwb.y4
  clear hwb hfew hr3 hNN hsz3
  generalize hbn : q.bs.length = bn1 at *
  generalize hkn : q.keep.length = kn1 at *
  have HB1' := Lib.hid hbn
  have HK1' := Lib.hid hkn
  clear hbn hkn WB1 WB2 HF HFW HB1
  go_wp2_with (refine wp_loadR rfl _ rfl rfl WB3.out.d ?_)
  refine (sync_ref HR3.out HOK.out HNN.out HOPS.out q.file).mono ?_
  rw [← HMM.out, ← HCC.out]
  rintro e w4 ⟨D4, rfl, hr4, hb4⟩
  have WB4 := Lib.hid (WB3.out.later hb4)
  have RI4 := Lib.hid hr4
  clear hr4 hb4 y0 y1 y2 y3 y4
  go_upto_region 27 with (refine wp_storeR rfl _ _ rfl rfl rfl WB4.out.d ?_)
  refine name_world (fun W => BoxR w (w.heap.size + 1) D4 W ∧ BoxR w (w.heap.size + 2) zeroR W ∧ RefIs W NN D4 MM) ⟨WB4.out.d.fill (by omega) _, WB4.out.r.fillOther (by omega) (by omega), RI4.out.turn (N' := NN) (turn_row w4 (w.heap.size + 1) (rdA D4)) (fun g _ e => by have e : g = _ := e; rw [e]; exact NN1.out) (fun g _ e => e)⟩ ?_
  rintro W5 ⟨hd5, hr5, hi5⟩

  have HD5 := Lib.hid hd5
  have HR5 := Lib.hid hr5
  have HI5 := Lib.hid hi5
  clear hd5 hr5 hi5
  go_wp2_with (first | (refine wp_loadR rfl _ rfl rfl HD5.out ?_) | (refine wp_storeR rfl _ _ rfl rfl rfl HR5.out ?_))
  refine bodyPost_ret (v := .tuple #[.agg (rdA D4), .slice none 0 0, .int .i64 cc]) (results_three rfl rfl (HR5.out.fill (by omega) D4) rfl rfl) rfl ⟨D4, none, 0, 0, by rw [HC.out], ?_, ?_, (HR5.out.fill (by omega) D4).bel⟩
  · rw [HM.out]
    exact HI5.out.turn (N' := N) (turn_row W5 (w.heap.size + 2) (rdA D4)) (fun g _ e => by have e : g = _ := e; rw [e]; exact NN2.out) (fun g _ e => NNN.out g e)
  · rw [HBB.out]
    exact by rw [HBX.out]; exact SlN.none _ _


set_option maxHeartbeats 4000000 in
theorem wants_sync4 {w : World} {N : Nat → Prop} {D : RD} {M : AD} (h : RefIs w N D M) (hok : M.Ok) (hN : ∀ g, N g → g < w.heap.size) (hops : M.ops < 4000000000000000000) {B : Nat} (o : AO) (hw : o.Wf) (A : Option Addr) (c : Nat) (K : Option Addr) (kc : Nat) (ho : OpAt w B o A c K kc) (hop : o.op = 4) :
    Calls Try.prog 13 #[opV o A c K kc, .agg (rdA D)] w (WantsAs w N M o.few) := by
  have H := Lib.hid h
  have HOK := Lib.hid hok
  have HN := Lib.hid hN
  have HO := Lib.hid ho
  have HOPS := Lib.hid hops
  obtain ⟨q, hq⟩ : ∃ q, q = o.few := ⟨_, rfl⟩
  have HQ := Lib.hid hq
  have hk : q.kind = o.kind := by rw [hq]; rfl
  have wq : Hid (I64 q.file ∧ I64 q.n) := by unfold Hid; rw [hq]; exact ⟨hw.f, hw.n⟩
  have hbl : Hid (q.bs.length ≤ 300) := by unfold Hid; rw [hq]; simp [AO.few]; omega
  have hkl : Hid (q.keep.length ≤ 200) := by unfold Hid; rw [hq]; simp [AO.few]; omega
  rw [← hq]
  have hop' : q.op = o.op := by unfold AO.op; rw [hk]
  have hop2 : q.op = 4 := hop'.trans hop
  have HC0 := Lib.hid (show M.runC q = M.opC q.file [] by simp [AD.runC, hop2])
  have HM0 := Lib.hid (show M.runM q = M.opM q.file [] (M.met.put q.file (M.file q.file).settled) by simp [AD.runM, hop2])
  have HBB0 := Lib.hid (show M.runB q = [] by simp [AD.runB, hop2])
  obtain ⟨cc, hcc⟩ : ∃ cc, cc = M.opC q.file [] := ⟨_, rfl⟩
  obtain ⟨MM, hMM⟩ : ∃ MM, MM = M.opM q.file [] (M.met.put q.file (M.file q.file).settled) := ⟨_, rfl⟩
  obtain ⟨BB, hBB⟩ : ∃ BB : List Int, BB = [] := ⟨_, rfl⟩
  have HC := Lib.hid (HC0.out.trans hcc.symm)
  have HM := Lib.hid (HM0.out.trans hMM.symm)
  have HBB := Lib.hid (HBB0.out.trans hBB.symm)
  have HCC := Lib.hid hcc
  have HMM := Lib.hid hMM
  have HBX := Lib.hid hBB
  clear hcc hMM hBB HC0 HM0 HBB0
  unfold AO.op at hop2
  clear h hok hN ho hops hw hq hop'
  dsimp only [opV] at *
  obtain ⟨bn, hbn⟩ : ∃ bn, bn = o.bs.length := ⟨_, rfl⟩
  obtain ⟨kn, hkn⟩ : ∃ kn, kn = o.keep.length := ⟨_, rfl⟩
  have HBN := Lib.hid hbn
  have HKN := Lib.hid hkn
  rw [← hbn, ← hkn]
  have HK := Lib.hid hk
  clear hbn hkn hk
  go_enter Try.func13, Try.ntmps13
  go_upto_region 1 with fail
  refine name_world (fun W => WB w o A bn c K kn kc D zeroR W) (wb_new w o A bn c K kn kc D) ?_
  intro W1 hb1
  have WB1 := Lib.hid hb1
  have y0 := hb1.y0
  have y1 := hb1.y1
  have y2 := hb1.y2
  have y3 := hb1.y3
  have y4 := hb1.y4
  clear hb1
  have HF := Lib.hid (few_any o A c K kc (HO.out.below (WB1.out.d.bel.mono HO.out.low)))
  dsimp only [opV] at HF
  rw [← HBN.out, ← HKN.out, ← HQ.out] at HF

  go_upto_region 2 with (go_at_call 33; refine HF.out.mono ?_; rintro e w1 ⟨A1, c1, K1, kc1, rfl, hfw, hb1⟩; dsimp only [opV]; have WB2 := Lib.hid (WB1.out.later hb1); have x0 := WB2.out.y0; have x1 := WB2.out.y1; have x2 := WB2.out.y2; have x3 := WB2.out.y3; have x4 := WB2.out.y4; have z0 := WB2.out.fz 0; have z1 := WB2.out.fz 1; have z2 := WB2.out.fz 2; have z3 := WB2.out.fz 3; have z4 := WB2.out.fz 4; have HFW := Lib.hid hfw; have HB1 := Lib.hid hb1; clear hfw hb1 y0 y1 y2 y3 y4)
  refine name_world (fun W => WB w q A1 q.bs.length c1 K1 q.keep.length kc1 D zeroR W ∧ FewAt (w.heap.size + 1) W q A1 c1 K1 kc1) ⟨WB2.out.few, slices_few (lt_of_block WB1.out.op) HFW.out (fun g hg => by rw [Below.heap_setCell _ _ _ _ hg, Below.heap_setCell _ _ _ _ hg, Below.heap_setCell _ _ _ _ hg, Below.heap_setCell _ _ _ _ hg, Below.heap_setCell _ _ _ _ hg])⟩ ?_
  clear x0 x1 x2 x3 x4 z0 z1 z2 z3 z4
  rintro W3 ⟨hwb, hfew⟩
  obtain ⟨NN, hNN⟩ : ∃ NN : Nat → Prop, NN = fun g => N g ∨ g = w.heap.size + 1 ∨ g = w.heap.size + 2 := ⟨_, rfl⟩
  have hsz3 : w.heap.size + 2 < W3.heap.size := lt_of_block hwb.r.box
  have hr3 : RefIs W3 NN D M := H.out.turn (S := fun _ => False) (Turn.of_below hwb.d.bel) (fun _ _ e => e.elim) (fun g hg e => by rw [hNN] at e; rcases e with e | e | e; exact e; exact (by omega); exact (by omega))
  have HR3 := Lib.hid hr3
  have HNN := Lib.hid (show ∀ g, NN g → g < W3.heap.size from fun g e => by rw [hNN] at e; have hh := HN.out g; rcases e with e | e | e; exact (by have := hh e; omega); exact (by omega); exact (by omega))
  have NN1 := Lib.hid (show NN (w.heap.size + 1) from by rw [hNN]; exact .inr (.inl rfl))
  have NN2 := Lib.hid (show NN (w.heap.size + 2) from by rw [hNN]; exact .inr (.inr rfl))
  have NNN := Lib.hid (show ∀ g, N g → NN g from fun g e => by rw [hNN]; exact .inl e)
  have WB3 := Lib.hid hwb
  have FW3 := Lib.hid hfew
  have y0 := hwb.y0
  have y1 := hwb.y1
  have y2 := hwb.y2
  have y3 := hwb.y3
  have y4 := hwb.y4
  clear hwb hfew hr3 hNN hsz3
  generalize hbn : q.bs.length = bn1 at *
  generalize hkn : q.keep.length = kn1 at *
  have HB1' := Lib.hid hbn
  have HK1' := Lib.hid hkn
  clear hbn hkn WB1 WB2 HF HFW HB1
  go_wp2_with (refine wp_loadR rfl _ rfl rfl WB3.out.d ?_)
  refine (sync_ref HR3.out HOK.out HNN.out HOPS.out q.file).mono ?_
  rw [← HMM.out, ← HCC.out]
  rintro e w4 ⟨D4, rfl, hr4, hb4⟩
  have WB4 := Lib.hid (WB3.out.later hb4)
  have RI4 := Lib.hid hr4
  clear hr4 hb4 y0 y1 y2 y3 y4
  go_upto_region 27 with (refine wp_storeR rfl _ _ rfl rfl rfl WB4.out.d ?_)
  refine name_world (fun W => BoxR w (w.heap.size + 1) D4 W ∧ BoxR w (w.heap.size + 2) zeroR W ∧ RefIs W NN D4 MM) ⟨WB4.out.d.fill (by omega) _, WB4.out.r.fillOther (by omega) (by omega), RI4.out.turn (N' := NN) (turn_row w4 (w.heap.size + 1) (rdA D4)) (fun g _ e => by have e : g = _ := e; rw [e]; exact NN1.out) (fun g _ e => e)⟩ ?_
  rintro W5 ⟨hd5, hr5, hi5⟩

  have HD5 := Lib.hid hd5
  have HR5 := Lib.hid hr5
  have HI5 := Lib.hid hi5
  clear hd5 hr5 hi5
  go_wp2_with (first | (refine wp_loadR rfl _ rfl rfl HD5.out ?_) | (refine wp_storeR rfl _ _ rfl rfl rfl HR5.out ?_))
  refine bodyPost_ret (v := .tuple #[.agg (rdA D4), .slice none 0 0, .int .i64 cc]) (results_three rfl rfl (HR5.out.fill (by omega) D4) rfl rfl) rfl ⟨D4, none, 0, 0, by rw [HC.out], ?_, ?_, (HR5.out.fill (by omega) D4).bel⟩
  · rw [HM.out]
    exact HI5.out.turn (N' := N) (turn_row W5 (w.heap.size + 2) (rdA D4)) (fun g _ e => by have e : g = _ := e; rw [e]; exact NN2.out) (fun g _ e => NNN.out g e)
  · rw [HBB.out]
    exact by rw [HBX.out]; exact SlN.none _ _


set_option maxHeartbeats 4000000 in
theorem wants_read {w : World} {N : Nat → Prop} {D : RD} {M : AD} (h : RefIs w N D M) (hok : M.Ok) (hN : ∀ g, N g → g < w.heap.size) (hops : M.ops < 4000000000000000000) {B : Nat} (o : AO) (hw : o.Wf) (A : Option Addr) (c : Nat) (K : Option Addr) (kc : Nat) (ho : OpAt w B o A c K kc) (hop : o.op = 5) :
    Calls Try.prog 13 #[opV o A c K kc, .agg (rdA D)] w (WantsAs w N M o.few) := by
  have H := Lib.hid h
  have HOK := Lib.hid hok
  have HN := Lib.hid hN
  have HO := Lib.hid ho
  have HOPS := Lib.hid hops
  obtain ⟨q, hq⟩ : ∃ q, q = o.few := ⟨_, rfl⟩
  have HQ := Lib.hid hq
  have hk : q.kind = o.kind := by rw [hq]; rfl
  have wq : Hid (I64 q.file ∧ I64 q.n) := by unfold Hid; rw [hq]; exact ⟨hw.f, hw.n⟩
  have hbl : Hid (q.bs.length ≤ 300) := by unfold Hid; rw [hq]; simp [AO.few]; omega
  have hkl : Hid (q.keep.length ≤ 200) := by unfold Hid; rw [hq]; simp [AO.few]; omega
  rw [← hq]
  have hop' : q.op = o.op := by unfold AO.op; rw [hk]
  have hop2 : q.op = 5 := hop'.trans hop
  have HC0 := Lib.hid (show M.runC q = M.opC q.file [] by simp [AD.runC, hop2])
  have HM0 := Lib.hid (show M.runM q = M.opM q.file [] M.met by simp [AD.runM, hop2])
  have HBB0 := Lib.hid (show M.runB q = M.readB q.file by simp [AD.runB, hop2])
  obtain ⟨cc, hcc⟩ : ∃ cc, cc = M.opC q.file [] := ⟨_, rfl⟩
  obtain ⟨MM, hMM⟩ : ∃ MM, MM = M.opM q.file [] M.met := ⟨_, rfl⟩
  obtain ⟨BB, hBB⟩ : ∃ BB : List Int, BB = M.readB q.file := ⟨_, rfl⟩
  have HC := Lib.hid (HC0.out.trans hcc.symm)
  have HM := Lib.hid (HM0.out.trans hMM.symm)
  have HBB := Lib.hid (HBB0.out.trans hBB.symm)
  have HCC := Lib.hid hcc
  have HMM := Lib.hid hMM
  have HBX := Lib.hid hBB
  clear hcc hMM hBB HC0 HM0 HBB0
  unfold AO.op at hop2
  clear h hok hN ho hops hw hq hop'
  dsimp only [opV] at *
  obtain ⟨bn, hbn⟩ : ∃ bn, bn = o.bs.length := ⟨_, rfl⟩
  obtain ⟨kn, hkn⟩ : ∃ kn, kn = o.keep.length := ⟨_, rfl⟩
  have HBN := Lib.hid hbn
  have HKN := Lib.hid hkn
  rw [← hbn, ← hkn]
  have HK := Lib.hid hk
  clear hbn hkn hk
  go_enter Try.func13, Try.ntmps13
  go_upto_region 1 with fail
  refine name_world (fun W => WB w o A bn c K kn kc D zeroR W) (wb_new w o A bn c K kn kc D) ?_
  intro W1 hb1
  have WB1 := Lib.hid hb1
  have y0 := hb1.y0
  have y1 := hb1.y1
  have y2 := hb1.y2
  have y3 := hb1.y3
  have y4 := hb1.y4
  clear hb1
  have HF := Lib.hid (few_any o A c K kc (HO.out.below (WB1.out.d.bel.mono HO.out.low)))
  dsimp only [opV] at HF
  rw [← HBN.out, ← HKN.out, ← HQ.out] at HF

  go_upto_region 2 with (go_at_call 33; refine HF.out.mono ?_; rintro e w1 ⟨A1, c1, K1, kc1, rfl, hfw, hb1⟩; dsimp only [opV]; have WB2 := Lib.hid (WB1.out.later hb1); have x0 := WB2.out.y0; have x1 := WB2.out.y1; have x2 := WB2.out.y2; have x3 := WB2.out.y3; have x4 := WB2.out.y4; have z0 := WB2.out.fz 0; have z1 := WB2.out.fz 1; have z2 := WB2.out.fz 2; have z3 := WB2.out.fz 3; have z4 := WB2.out.fz 4; have HFW := Lib.hid hfw; have HB1 := Lib.hid hb1; clear hfw hb1 y0 y1 y2 y3 y4)
  refine name_world (fun W => WB w q A1 q.bs.length c1 K1 q.keep.length kc1 D zeroR W ∧ FewAt (w.heap.size + 1) W q A1 c1 K1 kc1) ⟨WB2.out.few, slices_few (lt_of_block WB1.out.op) HFW.out (fun g hg => by rw [Below.heap_setCell _ _ _ _ hg, Below.heap_setCell _ _ _ _ hg, Below.heap_setCell _ _ _ _ hg, Below.heap_setCell _ _ _ _ hg, Below.heap_setCell _ _ _ _ hg])⟩ ?_
  clear x0 x1 x2 x3 x4 z0 z1 z2 z3 z4
  rintro W3 ⟨hwb, hfew⟩
  obtain ⟨NN, hNN⟩ : ∃ NN : Nat → Prop, NN = fun g => N g ∨ g = w.heap.size + 1 ∨ g = w.heap.size + 2 := ⟨_, rfl⟩
  have hsz3 : w.heap.size + 2 < W3.heap.size := lt_of_block hwb.r.box
  have hr3 : RefIs W3 NN D M := H.out.turn (S := fun _ => False) (Turn.of_below hwb.d.bel) (fun _ _ e => e.elim) (fun g hg e => by rw [hNN] at e; rcases e with e | e | e; exact e; exact (by omega); exact (by omega))
  have HR3 := Lib.hid hr3
  have HNN := Lib.hid (show ∀ g, NN g → g < W3.heap.size from fun g e => by rw [hNN] at e; have hh := HN.out g; rcases e with e | e | e; exact (by have := hh e; omega); exact (by omega); exact (by omega))
  have NN1 := Lib.hid (show NN (w.heap.size + 1) from by rw [hNN]; exact .inr (.inl rfl))
  have NN2 := Lib.hid (show NN (w.heap.size + 2) from by rw [hNN]; exact .inr (.inr rfl))
  have NNN := Lib.hid (show ∀ g, N g → NN g from fun g e => by rw [hNN]; exact .inl e)
  have WB3 := Lib.hid hwb
  have FW3 := Lib.hid hfew
  have y0 := hwb.y0
  have y1 := hwb.y1
  have y2 := hwb.y2
  have y3 := hwb.y3
  have y4 := hwb.y4
  clear hwb hfew hr3 hNN hsz3
  generalize hbn : q.bs.length = bn1 at *
  generalize hkn : q.keep.length = kn1 at *
  have HB1' := Lib.hid hbn
  have HK1' := Lib.hid hkn
  clear hbn hkn WB1 WB2 HF HFW HB1
  go_wp2_with (refine wp_loadR rfl _ rfl rfl WB3.out.d ?_)
  refine (read_ref HR3.out HOK.out HOPS.out q.file).mono ?_
  rw [← HMM.out, ← HCC.out, ← HBX.out]
  rintro e w4 ⟨D4, A4, n4, c4, rfl, hr4, sl4, hb4⟩
  have SL4 := Lib.hid sl4
  clear sl4
  have WB4 := Lib.hid (WB3.out.later hb4)
  have RI4 := Lib.hid hr4
  clear hr4 hb4 y0 y1 y2 y3 y4
  go_upto_region 27 with (refine wp_storeR rfl _ _ rfl rfl rfl WB4.out.d ?_)
  refine name_world (fun W => BoxR w (w.heap.size + 1) D4 W ∧ BoxR w (w.heap.size + 2) zeroR W ∧ RefIs W NN D4 MM ∧ SlN W (fun _ => False) A4 n4 c4 BB) ⟨WB4.out.d.fill (by omega) _, WB4.out.r.fillOther (by omega) (by omega), RI4.out.turn (N' := NN) (turn_row w4 (w.heap.size + 1) (rdA D4)) (fun g _ e => by have e : g = _ := e; rw [e]; exact NN1.out) (fun g _ e => e), SL4.out.row WB4.out.d.box _⟩ ?_
  rintro W5 ⟨hd5, hr5, hi5, sl5⟩
  have SL5 := Lib.hid sl5
  clear sl5
  have HD5 := Lib.hid hd5
  have HR5 := Lib.hid hr5
  have HI5 := Lib.hid hi5
  clear hd5 hr5 hi5
  go_wp2_with (first | (refine wp_loadR rfl _ rfl rfl HD5.out ?_) | (refine wp_storeR rfl _ _ rfl rfl rfl HR5.out ?_))
  refine bodyPost_ret (v := .tuple #[.agg (rdA D4), .slice A4 n4 c4, .int .i64 cc]) (results_three rfl rfl (HR5.out.fill (by omega) D4) rfl rfl) rfl ⟨D4, A4, n4, c4, by rw [HC.out], ?_, ?_, (HR5.out.fill (by omega) D4).bel⟩
  · rw [HM.out]
    exact HI5.out.turn (N' := N) (turn_row W5 (w.heap.size + 2) (rdA D4)) (fun g _ e => by have e : g = _ := e; rw [e]; exact NN2.out) (fun g _ e => NNN.out g e)
  · rw [HBB.out]
    exact SL5.out.row HR5.out.box _


set_option maxHeartbeats 4000000 in
theorem wants_trunc {w : World} {N : Nat → Prop} {D : RD} {M : AD} (h : RefIs w N D M) (hok : M.Ok) (hN : ∀ g, N g → g < w.heap.size) (hops : M.ops < 4000000000000000000) {B : Nat} (o : AO) (hw : o.Wf) (A : Option Addr) (c : Nat) (K : Option Addr) (kc : Nat) (ho : OpAt w B o A c K kc) (hop : o.op = 6) :
    Calls Try.prog 13 #[opV o A c K kc, .agg (rdA D)] w (WantsAs w N M o.few) := by
  have H := Lib.hid h
  have HOK := Lib.hid hok
  have HN := Lib.hid hN
  have HO := Lib.hid ho
  have HOPS := Lib.hid hops
  obtain ⟨q, hq⟩ : ∃ q, q = o.few := ⟨_, rfl⟩
  have HQ := Lib.hid hq
  have hk : q.kind = o.kind := by rw [hq]; rfl
  have wq : Hid (I64 q.file ∧ I64 q.n) := by unfold Hid; rw [hq]; exact ⟨hw.f, hw.n⟩
  have hbl : Hid (q.bs.length ≤ 300) := by unfold Hid; rw [hq]; simp [AO.few]; omega
  have hkl : Hid (q.keep.length ≤ 200) := by unfold Hid; rw [hq]; simp [AO.few]; omega
  rw [← hq]
  have hop' : q.op = o.op := by unfold AO.op; rw [hk]
  have hop2 : q.op = 6 := hop'.trans hop
  have HC0 := Lib.hid (show M.runC q = M.truncC q.file q.n by simp [AD.runC, hop2])
  have HM0 := Lib.hid (show M.runM q = M.truncM q.file q.n by simp [AD.runM, hop2])
  have HBB0 := Lib.hid (show M.runB q = [] by simp [AD.runB, hop2])
  obtain ⟨cc, hcc⟩ : ∃ cc, cc = M.truncC q.file q.n := ⟨_, rfl⟩
  obtain ⟨MM, hMM⟩ : ∃ MM, MM = M.truncM q.file q.n := ⟨_, rfl⟩
  obtain ⟨BB, hBB⟩ : ∃ BB : List Int, BB = [] := ⟨_, rfl⟩
  have HC := Lib.hid (HC0.out.trans hcc.symm)
  have HM := Lib.hid (HM0.out.trans hMM.symm)
  have HBB := Lib.hid (HBB0.out.trans hBB.symm)
  have HCC := Lib.hid hcc
  have HMM := Lib.hid hMM
  have HBX := Lib.hid hBB
  clear hcc hMM hBB HC0 HM0 HBB0
  unfold AO.op at hop2
  clear h hok hN ho hops hw hq hop'
  dsimp only [opV] at *
  obtain ⟨bn, hbn⟩ : ∃ bn, bn = o.bs.length := ⟨_, rfl⟩
  obtain ⟨kn, hkn⟩ : ∃ kn, kn = o.keep.length := ⟨_, rfl⟩
  have HBN := Lib.hid hbn
  have HKN := Lib.hid hkn
  rw [← hbn, ← hkn]
  have HK := Lib.hid hk
  clear hbn hkn hk
  go_enter Try.func13, Try.ntmps13
  go_upto_region 1 with fail
  refine name_world (fun W => WB w o A bn c K kn kc D zeroR W) (wb_new w o A bn c K kn kc D) ?_
  intro W1 hb1
  have WB1 := Lib.hid hb1
  have y0 := hb1.y0
  have y1 := hb1.y1
  have y2 := hb1.y2
  have y3 := hb1.y3
  have y4 := hb1.y4
  clear hb1
  have HF := Lib.hid (few_any o A c K kc (HO.out.below (WB1.out.d.bel.mono HO.out.low)))
  dsimp only [opV] at HF
  rw [← HBN.out, ← HKN.out, ← HQ.out] at HF

  go_upto_region 2 with (go_at_call 33; refine HF.out.mono ?_; rintro e w1 ⟨A1, c1, K1, kc1, rfl, hfw, hb1⟩; dsimp only [opV]; have WB2 := Lib.hid (WB1.out.later hb1); have x0 := WB2.out.y0; have x1 := WB2.out.y1; have x2 := WB2.out.y2; have x3 := WB2.out.y3; have x4 := WB2.out.y4; have z0 := WB2.out.fz 0; have z1 := WB2.out.fz 1; have z2 := WB2.out.fz 2; have z3 := WB2.out.fz 3; have z4 := WB2.out.fz 4; have HFW := Lib.hid hfw; have HB1 := Lib.hid hb1; clear hfw hb1 y0 y1 y2 y3 y4)
  refine name_world (fun W => WB w q A1 q.bs.length c1 K1 q.keep.length kc1 D zeroR W ∧ FewAt (w.heap.size + 1) W q A1 c1 K1 kc1) ⟨WB2.out.few, slices_few (lt_of_block WB1.out.op) HFW.out (fun g hg => by rw [Below.heap_setCell _ _ _ _ hg, Below.heap_setCell _ _ _ _ hg, Below.heap_setCell _ _ _ _ hg, Below.heap_setCell _ _ _ _ hg, Below.heap_setCell _ _ _ _ hg])⟩ ?_
  clear x0 x1 x2 x3 x4 z0 z1 z2 z3 z4
  rintro W3 ⟨hwb, hfew⟩
  obtain ⟨NN, hNN⟩ : ∃ NN : Nat → Prop, NN = fun g => N g ∨ g = w.heap.size + 1 ∨ g = w.heap.size + 2 := ⟨_, rfl⟩
  have hsz3 : w.heap.size + 2 < W3.heap.size := lt_of_block hwb.r.box
  have hr3 : RefIs W3 NN D M := H.out.turn (S := fun _ => False) (Turn.of_below hwb.d.bel) (fun _ _ e => e.elim) (fun g hg e => by rw [hNN] at e; rcases e with e | e | e; exact e; exact (by omega); exact (by omega))
  have HR3 := Lib.hid hr3
  have HNN := Lib.hid (show ∀ g, NN g → g < W3.heap.size from fun g e => by rw [hNN] at e; have hh := HN.out g; rcases e with e | e | e; exact (by have := hh e; omega); exact (by omega); exact (by omega))
  have NN1 := Lib.hid (show NN (w.heap.size + 1) from by rw [hNN]; exact .inr (.inl rfl))
  have NN2 := Lib.hid (show NN (w.heap.size + 2) from by rw [hNN]; exact .inr (.inr rfl))
  have NNN := Lib.hid (show ∀ g, N g → NN g from fun g e => by rw [hNN]; exact .inl e)
  have WB3 := Lib.hid hwb
  have FW3 := Lib.hid hfew
  have y0 := hwb.y0
  have y1 := hwb.y1
  have y2 := hwb.y2
  have y3 := hwb.y3
  have y4 := hwb.y4
  clear hwb hfew hr3 hNN hsz3
  generalize hbn : q.bs.length = bn1 at *
  generalize hkn : q.keep.length = kn1 at *
  have HB1' := Lib.hid hbn
  have HK1' := Lib.hid hkn
  clear hbn hkn WB1 WB2 HF HFW HB1
  go_wp2_with (refine wp_loadR rfl _ rfl rfl WB3.out.d ?_)
  refine (truncate_ref HR3.out HOK.out HOPS.out q.file q.n).mono ?_
  rw [← HMM.out, ← HCC.out]
  rintro e w4 ⟨D4, rfl, hr4, hb4⟩
  have WB4 := Lib.hid (WB3.out.later hb4)
  have RI4 := Lib.hid hr4
  clear hr4 hb4 y0 y1 y2 y3 y4
  go_upto_region 27 with (refine wp_storeR rfl _ _ rfl rfl rfl WB4.out.d ?_)
  refine name_world (fun W => BoxR w (w.heap.size + 1) D4 W ∧ BoxR w (w.heap.size + 2) zeroR W ∧ RefIs W NN D4 MM) ⟨WB4.out.d.fill (by omega) _, WB4.out.r.fillOther (by omega) (by omega), RI4.out.turn (N' := NN) (turn_row w4 (w.heap.size + 1) (rdA D4)) (fun g _ e => by have e : g = _ := e; rw [e]; exact NN1.out) (fun g _ e => e)⟩ ?_
  rintro W5 ⟨hd5, hr5, hi5⟩

  have HD5 := Lib.hid hd5
  have HR5 := Lib.hid hr5
  have HI5 := Lib.hid hi5
  clear hd5 hr5 hi5
  go_wp2_with (first | (refine wp_loadR rfl _ rfl rfl HD5.out ?_) | (refine wp_storeR rfl _ _ rfl rfl rfl HR5.out ?_))
  refine bodyPost_ret (v := .tuple #[.agg (rdA D4), .slice none 0 0, .int .i64 cc]) (results_three rfl rfl (HR5.out.fill (by omega) D4) rfl rfl) rfl ⟨D4, none, 0, 0, by rw [HC.out], ?_, ?_, (HR5.out.fill (by omega) D4).bel⟩
  · rw [HM.out]
    exact HI5.out.turn (N' := N) (turn_row W5 (w.heap.size + 2) (rdA D4)) (fun g _ e => by have e : g = _ := e; rw [e]; exact NN2.out) (fun g _ e => NNN.out g e)
  · rw [HBB.out]
    exact by rw [HBX.out]; exact SlN.none _ _


set_option maxHeartbeats 4000000 in
theorem wants_ren {w : World} {N : Nat → Prop} {D : RD} {M : AD} (h : RefIs w N D M) (hok : M.Ok) (hN : ∀ g, N g → g < w.heap.size) (hops : M.ops < 4000000000000000000) {B : Nat} (o : AO) (hw : o.Wf) (A : Option Addr) (c : Nat) (K : Option Addr) (kc : Nat) (ho : OpAt w B o A c K kc) (hop : o.op = 7) :
    Calls Try.prog 13 #[opV o A c K kc, .agg (rdA D)] w (WantsAs w N M o.few) := by
  have H := Lib.hid h
  have HOK := Lib.hid hok
  have HN := Lib.hid hN
  have HO := Lib.hid ho
  have HOPS := Lib.hid hops
  obtain ⟨q, hq⟩ : ∃ q, q = o.few := ⟨_, rfl⟩
  have HQ := Lib.hid hq
  have hk : q.kind = o.kind := by rw [hq]; rfl
  have wq : Hid (I64 q.file ∧ I64 q.n) := by unfold Hid; rw [hq]; exact ⟨hw.f, hw.n⟩
  have hbl : Hid (q.bs.length ≤ 300) := by unfold Hid; rw [hq]; simp [AO.few]; omega
  have hkl : Hid (q.keep.length ≤ 200) := by unfold Hid; rw [hq]; simp [AO.few]; omega
  rw [← hq]
  have hop' : q.op = o.op := by unfold AO.op; rw [hk]
  have hop2 : q.op = 7 := hop'.trans hop
  have HC0 := Lib.hid (show M.runC q = M.opC q.file [q.n] by simp [AD.runC, hop2])
  have HM0 := Lib.hid (show M.runM q = M.renM q.file q.n by simp [AD.runM, hop2, AD.renM])
  have HBB0 := Lib.hid (show M.runB q = [] by simp [AD.runB, hop2])
  obtain ⟨cc, hcc⟩ : ∃ cc, cc = M.opC q.file [q.n] := ⟨_, rfl⟩
  obtain ⟨MM, hMM⟩ : ∃ MM, MM = M.renM q.file q.n := ⟨_, rfl⟩
  obtain ⟨BB, hBB⟩ : ∃ BB : List Int, BB = [] := ⟨_, rfl⟩
  have HC := Lib.hid (HC0.out.trans hcc.symm)
  have HM := Lib.hid (HM0.out.trans hMM.symm)
  have HBB := Lib.hid (HBB0.out.trans hBB.symm)
  have HCC := Lib.hid hcc
  have HMM := Lib.hid hMM
  have HBX := Lib.hid hBB
  clear hcc hMM hBB HC0 HM0 HBB0
  unfold AO.op at hop2
  clear h hok hN ho hops hw hq hop'
  dsimp only [opV] at *
  obtain ⟨bn, hbn⟩ : ∃ bn, bn = o.bs.length := ⟨_, rfl⟩
  obtain ⟨kn, hkn⟩ : ∃ kn, kn = o.keep.length := ⟨_, rfl⟩
  have HBN := Lib.hid hbn
  have HKN := Lib.hid hkn
  rw [← hbn, ← hkn]
  have HK := Lib.hid hk
  clear hbn hkn hk
  go_enter Try.func13, Try.ntmps13
  go_upto_region 1 with fail
  refine name_world (fun W => WB w o A bn c K kn kc D zeroR W) (wb_new w o A bn c K kn kc D) ?_
  intro W1 hb1
  have WB1 := Lib.hid hb1
  have y0 := hb1.y0
  have y1 := hb1.y1
  have y2 := hb1.y2
  have y3 := hb1.y3
  have y4 := hb1.y4
  clear hb1
  have HF := Lib.hid (few_any o A c K kc (HO.out.below (WB1.out.d.bel.mono HO.out.low)))
  dsimp only [opV] at HF
  rw [← HBN.out, ← HKN.out, ← HQ.out] at HF

  go_upto_region 2 with (go_at_call 33; refine HF.out.mono ?_; rintro e w1 ⟨A1, c1, K1, kc1, rfl, hfw, hb1⟩; dsimp only [opV]; have WB2 := Lib.hid (WB1.out.later hb1); have x0 := WB2.out.y0; have x1 := WB2.out.y1; have x2 := WB2.out.y2; have x3 := WB2.out.y3; have x4 := WB2.out.y4; have z0 := WB2.out.fz 0; have z1 := WB2.out.fz 1; have z2 := WB2.out.fz 2; have z3 := WB2.out.fz 3; have z4 := WB2.out.fz 4; have HFW := Lib.hid hfw; have HB1 := Lib.hid hb1; clear hfw hb1 y0 y1 y2 y3 y4)
  refine name_world (fun W => WB w q A1 q.bs.length c1 K1 q.keep.length kc1 D zeroR W ∧ FewAt (w.heap.size + 1) W q A1 c1 K1 kc1) ⟨WB2.out.few, slices_few (lt_of_block WB1.out.op) HFW.out (fun g hg => by rw [Below.heap_setCell _ _ _ _ hg, Below.heap_setCell _ _ _ _ hg, Below.heap_setCell _ _ _ _ hg, Below.heap_setCell _ _ _ _ hg, Below.heap_setCell _ _ _ _ hg])⟩ ?_
  clear x0 x1 x2 x3 x4 z0 z1 z2 z3 z4
  rintro W3 ⟨hwb, hfew⟩
  obtain ⟨NN, hNN⟩ : ∃ NN : Nat → Prop, NN = fun g => N g ∨ g = w.heap.size + 1 ∨ g = w.heap.size + 2 := ⟨_, rfl⟩
  have hsz3 : w.heap.size + 2 < W3.heap.size := lt_of_block hwb.r.box
  have hr3 : RefIs W3 NN D M := H.out.turn (S := fun _ => False) (Turn.of_below hwb.d.bel) (fun _ _ e => e.elim) (fun g hg e => by rw [hNN] at e; rcases e with e | e | e; exact e; exact (by omega); exact (by omega))
  have HR3 := Lib.hid hr3
  have HNN := Lib.hid (show ∀ g, NN g → g < W3.heap.size from fun g e => by rw [hNN] at e; have hh := HN.out g; rcases e with e | e | e; exact (by have := hh e; omega); exact (by omega); exact (by omega))
  have NN1 := Lib.hid (show NN (w.heap.size + 1) from by rw [hNN]; exact .inr (.inl rfl))
  have NN2 := Lib.hid (show NN (w.heap.size + 2) from by rw [hNN]; exact .inr (.inr rfl))
  have NNN := Lib.hid (show ∀ g, N g → NN g from fun g e => by rw [hNN]; exact .inl e)
  have WB3 := Lib.hid hwb
  have FW3 := Lib.hid hfew
  have y0 := hwb.y0
  have y1 := hwb.y1
  have y2 := hwb.y2
  have y3 := hwb.y3
  have y4 := hwb.y4
  clear hwb hfew hr3 hNN hsz3
  generalize hbn : q.bs.length = bn1 at *
  generalize hkn : q.keep.length = kn1 at *
  have HB1' := Lib.hid hbn
  have HK1' := Lib.hid hkn
  clear hbn hkn WB1 WB2 HF HFW HB1
  go_wp2_with (refine wp_loadR rfl _ rfl rfl WB3.out.d ?_)
  refine (rename_ref HR3.out HOPS.out q.file q.n).mono ?_
  rw [← HMM.out, ← HCC.out]
  rintro e w4 ⟨D4, rfl, hr4, hb4⟩
  have WB4 := Lib.hid (WB3.out.later hb4)
  have RI4 := Lib.hid hr4
  clear hr4 hb4 y0 y1 y2 y3 y4
  go_upto_region 27 with (refine wp_storeR rfl _ _ rfl rfl rfl WB4.out.d ?_)
  refine name_world (fun W => BoxR w (w.heap.size + 1) D4 W ∧ BoxR w (w.heap.size + 2) zeroR W ∧ RefIs W NN D4 MM) ⟨WB4.out.d.fill (by omega) _, WB4.out.r.fillOther (by omega) (by omega), RI4.out.turn (N' := NN) (turn_row w4 (w.heap.size + 1) (rdA D4)) (fun g _ e => by have e : g = _ := e; rw [e]; exact NN1.out) (fun g _ e => e)⟩ ?_
  rintro W5 ⟨hd5, hr5, hi5⟩

  have HD5 := Lib.hid hd5
  have HR5 := Lib.hid hr5
  have HI5 := Lib.hid hi5
  clear hd5 hr5 hi5
  go_wp2_with (first | (refine wp_loadR rfl _ rfl rfl HD5.out ?_) | (refine wp_storeR rfl _ _ rfl rfl rfl HR5.out ?_))
  refine bodyPost_ret (v := .tuple #[.agg (rdA D4), .slice none 0 0, .int .i64 cc]) (results_three rfl rfl (HR5.out.fill (by omega) D4) rfl rfl) rfl ⟨D4, none, 0, 0, by rw [HC.out], ?_, ?_, (HR5.out.fill (by omega) D4).bel⟩
  · rw [HM.out]
    exact HI5.out.turn (N' := N) (turn_row W5 (w.heap.size + 2) (rdA D4)) (fun g _ e => by have e : g = _ := e; rw [e]; exact NN2.out) (fun g _ e => NNN.out g e)
  · rw [HBB.out]
    exact by rw [HBX.out]; exact SlN.none _ _


set_option maxHeartbeats 4000000 in
theorem wants_rem {w : World} {N : Nat → Prop} {D : RD} {M : AD} (h : RefIs w N D M) (hok : M.Ok) (hN : ∀ g, N g → g < w.heap.size) (hops : M.ops < 4000000000000000000) {B : Nat} (o : AO) (hw : o.Wf) (A : Option Addr) (c : Nat) (K : Option Addr) (kc : Nat) (ho : OpAt w B o A c K kc) (hop : o.op = 8) :
    Calls Try.prog 13 #[opV o A c K kc, .agg (rdA D)] w (WantsAs w N M o.few) := by
  have H := Lib.hid h
  have HOK := Lib.hid hok
  have HN := Lib.hid hN
  have HO := Lib.hid ho
  have HOPS := Lib.hid hops
  obtain ⟨q, hq⟩ : ∃ q, q = o.few := ⟨_, rfl⟩
  have HQ := Lib.hid hq
  have hk : q.kind = o.kind := by rw [hq]; rfl
  have wq : Hid (I64 q.file ∧ I64 q.n) := by unfold Hid; rw [hq]; exact ⟨hw.f, hw.n⟩
  have hbl : Hid (q.bs.length ≤ 300) := by unfold Hid; rw [hq]; simp [AO.few]; omega
  have hkl : Hid (q.keep.length ≤ 200) := by unfold Hid; rw [hq]; simp [AO.few]; omega
  rw [← hq]
  have hop' : q.op = o.op := by unfold AO.op; rw [hk]
  have hop2 : q.op = 8 := hop'.trans hop
  have HC0 := Lib.hid (show M.runC q = M.opC q.file [] by simp [AD.runC, hop2])
  have HM0 := Lib.hid (show M.runM q = M.opM q.file [] (M.met.drop q.file) by simp [AD.runM, hop2])
  have HBB0 := Lib.hid (show M.runB q = [] by simp [AD.runB, hop2])
  obtain ⟨cc, hcc⟩ : ∃ cc, cc = M.opC q.file [] := ⟨_, rfl⟩
  obtain ⟨MM, hMM⟩ : ∃ MM, MM = M.opM q.file [] (M.met.drop q.file) := ⟨_, rfl⟩
  obtain ⟨BB, hBB⟩ : ∃ BB : List Int, BB = [] := ⟨_, rfl⟩
  have HC := Lib.hid (HC0.out.trans hcc.symm)
  have HM := Lib.hid (HM0.out.trans hMM.symm)
  have HBB := Lib.hid (HBB0.out.trans hBB.symm)
  have HCC := Lib.hid hcc
  have HMM := Lib.hid hMM
  have HBX := Lib.hid hBB
  clear hcc hMM hBB HC0 HM0 HBB0
  unfold AO.op at hop2
  clear h hok hN ho hops hw hq hop'
  dsimp only [opV] at *
  obtain ⟨bn, hbn⟩ : ∃ bn, bn = o.bs.length := ⟨_, rfl⟩
  obtain ⟨kn, hkn⟩ : ∃ kn, kn = o.keep.length := ⟨_, rfl⟩
  have HBN := Lib.hid hbn
  have HKN := Lib.hid hkn
  rw [← hbn, ← hkn]
  have HK := Lib.hid hk
  clear hbn hkn hk
  go_enter Try.func13, Try.ntmps13
  go_upto_region 1 with fail
  refine name_world (fun W => WB w o A bn c K kn kc D zeroR W) (wb_new w o A bn c K kn kc D) ?_
  intro W1 hb1
  have WB1 := Lib.hid hb1
  have y0 := hb1.y0
  have y1 := hb1.y1
  have y2 := hb1.y2
  have y3 := hb1.y3
  have y4 := hb1.y4
  clear hb1
  have HF := Lib.hid (few_any o A c K kc (HO.out.below (WB1.out.d.bel.mono HO.out.low)))
  dsimp only [opV] at HF
  rw [← HBN.out, ← HKN.out, ← HQ.out] at HF

  go_upto_region 2 with (go_at_call 33; refine HF.out.mono ?_; rintro e w1 ⟨A1, c1, K1, kc1, rfl, hfw, hb1⟩; dsimp only [opV]; have WB2 := Lib.hid (WB1.out.later hb1); have x0 := WB2.out.y0; have x1 := WB2.out.y1; have x2 := WB2.out.y2; have x3 := WB2.out.y3; have x4 := WB2.out.y4; have z0 := WB2.out.fz 0; have z1 := WB2.out.fz 1; have z2 := WB2.out.fz 2; have z3 := WB2.out.fz 3; have z4 := WB2.out.fz 4; have HFW := Lib.hid hfw; have HB1 := Lib.hid hb1; clear hfw hb1 y0 y1 y2 y3 y4)
  refine name_world (fun W => WB w q A1 q.bs.length c1 K1 q.keep.length kc1 D zeroR W ∧ FewAt (w.heap.size + 1) W q A1 c1 K1 kc1) ⟨WB2.out.few, slices_few (lt_of_block WB1.out.op) HFW.out (fun g hg => by rw [Below.heap_setCell _ _ _ _ hg, Below.heap_setCell _ _ _ _ hg, Below.heap_setCell _ _ _ _ hg, Below.heap_setCell _ _ _ _ hg, Below.heap_setCell _ _ _ _ hg])⟩ ?_
  clear x0 x1 x2 x3 x4 z0 z1 z2 z3 z4
  rintro W3 ⟨hwb, hfew⟩
  obtain ⟨NN, hNN⟩ : ∃ NN : Nat → Prop, NN = fun g => N g ∨ g = w.heap.size + 1 ∨ g = w.heap.size + 2 := ⟨_, rfl⟩
  have hsz3 : w.heap.size + 2 < W3.heap.size := lt_of_block hwb.r.box
  have hr3 : RefIs W3 NN D M := H.out.turn (S := fun _ => False) (Turn.of_below hwb.d.bel) (fun _ _ e => e.elim) (fun g hg e => by rw [hNN] at e; rcases e with e | e | e; exact e; exact (by omega); exact (by omega))
  have HR3 := Lib.hid hr3
  have HNN := Lib.hid (show ∀ g, NN g → g < W3.heap.size from fun g e => by rw [hNN] at e; have hh := HN.out g; rcases e with e | e | e; exact (by have := hh e; omega); exact (by omega); exact (by omega))
  have NN1 := Lib.hid (show NN (w.heap.size + 1) from by rw [hNN]; exact .inr (.inl rfl))
  have NN2 := Lib.hid (show NN (w.heap.size + 2) from by rw [hNN]; exact .inr (.inr rfl))
  have NNN := Lib.hid (show ∀ g, N g → NN g from fun g e => by rw [hNN]; exact .inl e)
  have WB3 := Lib.hid hwb
  have FW3 := Lib.hid hfew
  have y0 := hwb.y0
  have y1 := hwb.y1
  have y2 := hwb.y2
  have y3 := hwb.y3
  have y4 := hwb.y4
  clear hwb hfew hr3 hNN hsz3
  generalize hbn : q.bs.length = bn1 at *
  generalize hkn : q.keep.length = kn1 at *
  have HB1' := Lib.hid hbn
  have HK1' := Lib.hid hkn
  clear hbn hkn WB1 WB2 HF HFW HB1
  go_wp2_with (refine wp_loadR rfl _ rfl rfl WB3.out.d ?_)
  refine (remove_ref HR3.out HOPS.out q.file).mono ?_
  rw [← HMM.out, ← HCC.out]
  rintro e w4 ⟨D4, rfl, hr4, hb4⟩
  have WB4 := Lib.hid (WB3.out.later hb4)
  have RI4 := Lib.hid hr4
  clear hr4 hb4 y0 y1 y2 y3 y4
  go_upto_region 27 with (refine wp_storeR rfl _ _ rfl rfl rfl WB4.out.d ?_)
  refine name_world (fun W => BoxR w (w.heap.size + 1) D4 W ∧ BoxR w (w.heap.size + 2) zeroR W ∧ RefIs W NN D4 MM) ⟨WB4.out.d.fill (by omega) _, WB4.out.r.fillOther (by omega) (by omega), RI4.out.turn (N' := NN) (turn_row w4 (w.heap.size + 1) (rdA D4)) (fun g _ e => by have e : g = _ := e; rw [e]; exact NN1.out) (fun g _ e => e)⟩ ?_
  rintro W5 ⟨hd5, hr5, hi5⟩

  have HD5 := Lib.hid hd5
  have HR5 := Lib.hid hr5
  have HI5 := Lib.hid hi5
  clear hd5 hr5 hi5
  go_wp2_with (first | (refine wp_loadR rfl _ rfl rfl HD5.out ?_) | (refine wp_storeR rfl _ _ rfl rfl rfl HR5.out ?_))
  refine bodyPost_ret (v := .tuple #[.agg (rdA D4), .slice none 0 0, .int .i64 cc]) (results_three rfl rfl (HR5.out.fill (by omega) D4) rfl rfl) rfl ⟨D4, none, 0, 0, by rw [HC.out], ?_, ?_, (HR5.out.fill (by omega) D4).bel⟩
  · rw [HM.out]
    exact HI5.out.turn (N' := N) (turn_row W5 (w.heap.size + 2) (rdA D4)) (fun g _ e => by have e : g = _ := e; rw [e]; exact NN2.out) (fun g _ e => NNN.out g e)
  · rw [HBB.out]
    exact by rw [HBX.out]; exact SlN.none _ _


set_option maxHeartbeats 4000000 in
theorem wants_arm {w : World} {N : Nat → Prop} {D : RD} {M : AD} (h : RefIs w N D M) (hok : M.Ok) (hN : ∀ g, N g → g < w.heap.size) (hops : M.ops < 4000000000000000000) {B : Nat} (o : AO) (hw : o.Wf) (A : Option Addr) (c : Nat) (K : Option Addr) (kc : Nat) (ho : OpAt w B o A c K kc) (hop : o.op = 9) :
    Calls Try.prog 13 #[opV o A c K kc, .agg (rdA D)] w (WantsAs w N M o.few) := by
  have H := Lib.hid h
  have HOK := Lib.hid hok
  have HN := Lib.hid hN
  have HO := Lib.hid ho
  have HOPS := Lib.hid hops
  obtain ⟨q, hq⟩ : ∃ q, q = o.few := ⟨_, rfl⟩
  have HQ := Lib.hid hq
  have hk : q.kind = o.kind := by rw [hq]; rfl
  have wq : Hid (I64 q.file ∧ I64 q.n) := by unfold Hid; rw [hq]; exact ⟨hw.f, hw.n⟩
  have hbl : Hid (q.bs.length ≤ 300) := by unfold Hid; rw [hq]; simp [AO.few]; omega
  have hkl : Hid (q.keep.length ≤ 200) := by unfold Hid; rw [hq]; simp [AO.few]; omega
  rw [← hq]
  have hop' : q.op = o.op := by unfold AO.op; rw [hk]
  have hop2 : q.op = 9 := hop'.trans hop
  have HC0 := Lib.hid (show M.runC q = M.setC q.n by simp [AD.runC, hop2])
  have HM0 := Lib.hid (show M.runM q = M.armM q.n by simp [AD.runM, hop2])
  have HBB0 := Lib.hid (show M.runB q = [] by simp [AD.runB, hop2])
  obtain ⟨cc, hcc⟩ : ∃ cc, cc = M.setC q.n := ⟨_, rfl⟩
  obtain ⟨MM, hMM⟩ : ∃ MM, MM = M.armM q.n := ⟨_, rfl⟩
  obtain ⟨BB, hBB⟩ : ∃ BB : List Int, BB = [] := ⟨_, rfl⟩
  have HC := Lib.hid (HC0.out.trans hcc.symm)
  have HM := Lib.hid (HM0.out.trans hMM.symm)
  have HBB := Lib.hid (HBB0.out.trans hBB.symm)
  have HCC := Lib.hid hcc
  have HMM := Lib.hid hMM
  have HBX := Lib.hid hBB
  clear hcc hMM hBB HC0 HM0 HBB0
  unfold AO.op at hop2
  clear h hok hN ho hops hw hq hop'
  dsimp only [opV] at *
  obtain ⟨bn, hbn⟩ : ∃ bn, bn = o.bs.length := ⟨_, rfl⟩
  obtain ⟨kn, hkn⟩ : ∃ kn, kn = o.keep.length := ⟨_, rfl⟩
  have HBN := Lib.hid hbn
  have HKN := Lib.hid hkn
  rw [← hbn, ← hkn]
  have HK := Lib.hid hk
  clear hbn hkn hk
  go_enter Try.func13, Try.ntmps13
  go_upto_region 1 with fail
  refine name_world (fun W => WB w o A bn c K kn kc D zeroR W) (wb_new w o A bn c K kn kc D) ?_
  intro W1 hb1
  have WB1 := Lib.hid hb1
  have y0 := hb1.y0
  have y1 := hb1.y1
  have y2 := hb1.y2
  have y3 := hb1.y3
  have y4 := hb1.y4
  clear hb1
  have HF := Lib.hid (few_any o A c K kc (HO.out.below (WB1.out.d.bel.mono HO.out.low)))
  dsimp only [opV] at HF
  rw [← HBN.out, ← HKN.out, ← HQ.out] at HF

  go_upto_region 2 with (go_at_call 33; refine HF.out.mono ?_; rintro e w1 ⟨A1, c1, K1, kc1, rfl, hfw, hb1⟩; dsimp only [opV]; have WB2 := Lib.hid (WB1.out.later hb1); have x0 := WB2.out.y0; have x1 := WB2.out.y1; have x2 := WB2.out.y2; have x3 := WB2.out.y3; have x4 := WB2.out.y4; have z0 := WB2.out.fz 0; have z1 := WB2.out.fz 1; have z2 := WB2.out.fz 2; have z3 := WB2.out.fz 3; have z4 := WB2.out.fz 4; have HFW := Lib.hid hfw; have HB1 := Lib.hid hb1; clear hfw hb1 y0 y1 y2 y3 y4)
  refine name_world (fun W => WB w q A1 q.bs.length c1 K1 q.keep.length kc1 D zeroR W ∧ FewAt (w.heap.size + 1) W q A1 c1 K1 kc1) ⟨WB2.out.few, slices_few (lt_of_block WB1.out.op) HFW.out (fun g hg => by rw [Below.heap_setCell _ _ _ _ hg, Below.heap_setCell _ _ _ _ hg, Below.heap_setCell _ _ _ _ hg, Below.heap_setCell _ _ _ _ hg, Below.heap_setCell _ _ _ _ hg])⟩ ?_
  clear x0 x1 x2 x3 x4 z0 z1 z2 z3 z4
  rintro W3 ⟨hwb, hfew⟩
  obtain ⟨NN, hNN⟩ : ∃ NN : Nat → Prop, NN = fun g => N g ∨ g = w.heap.size + 1 ∨ g = w.heap.size + 2 := ⟨_, rfl⟩
  have hsz3 : w.heap.size + 2 < W3.heap.size := lt_of_block hwb.r.box
  have hr3 : RefIs W3 NN D M := H.out.turn (S := fun _ => False) (Turn.of_below hwb.d.bel) (fun _ _ e => e.elim) (fun g hg e => by rw [hNN] at e; rcases e with e | e | e; exact e; exact (by omega); exact (by omega))
  have HR3 := Lib.hid hr3
  have HNN := Lib.hid (show ∀ g, NN g → g < W3.heap.size from fun g e => by rw [hNN] at e; have hh := HN.out g; rcases e with e | e | e; exact (by have := hh e; omega); exact (by omega); exact (by omega))
  have NN1 := Lib.hid (show NN (w.heap.size + 1) from by rw [hNN]; exact .inr (.inl rfl))
  have NN2 := Lib.hid (show NN (w.heap.size + 2) from by rw [hNN]; exact .inr (.inr rfl))
  have NNN := Lib.hid (show ∀ g, N g → NN g from fun g e => by rw [hNN]; exact .inl e)
  have WB3 := Lib.hid hwb
  have FW3 := Lib.hid hfew
  have y0 := hwb.y0
  have y1 := hwb.y1
  have y2 := hwb.y2
  have y3 := hwb.y3
  have y4 := hwb.y4
  clear hwb hfew hr3 hNN hsz3
  generalize hbn : q.bs.length = bn1 at *
  generalize hkn : q.keep.length = kn1 at *
  have HB1' := Lib.hid hbn
  have HK1' := Lib.hid hkn
  clear hbn hkn WB1 WB2 HF HFW HB1
  have hsc : D.setC q.n = M.setC q.n := by unfold RD.setC AD.setC; rw [H.out.dead]
  have ST := Lib.hid (fun W => sets_ref D q.n W)
  rw [hsc, ← HCC.out] at ST
  clear hsc
  go_wp2_with (refine wp_loadR rfl _ rfl rfl WB3.out.d ?_)
  refine (ST.out W3).mono ?_
  rintro e w4 ⟨rfl, hb4⟩
  have WB4 := Lib.hid (WB3.out.later hb4)
  have RI4 := Lib.hid (HR3.out.below hb4)
  clear hb4 y0 y1 y2 y3 y4
  have y2 := WB4.out.y2
  have z18 := WB4.out.d.fz 18
  have x18 := WB4.out.d.c18
  by_cases hz : cc = 0
  · have t1 : (cc == 0) = true := by simp [hz]
    obtain ⟨D4, hD4⟩ : ∃ D4 : RD, D4 = { D with armed := q.n } := ⟨_, rfl⟩
    have HZ := Lib.hid hz
    clear hz
    go_upto_region 27 with fail
    refine name_world (fun W => BoxR w (w.heap.size + 1) D4 W ∧ BoxR w (w.heap.size + 2) zeroR W ∧ RefIs W NN D4 MM) ⟨?_, WB4.out.r.setOther (p := ⟨w.heap.size + 1, 18, none⟩) (by simp) (by simp) _, ?_⟩ ?_
    · rw [hD4]
      exact WB4.out.d.set (by omega) 18 _ rfl
    · rw [hD4, HMM.out]
      have hw := RI4.out.turn (N' := NN) (S := fun g => g = w.heap.size + 1) (W' := w4.setCell ⟨w.heap.size + 1, 18, none⟩ (.int .i64 q.n)) ⟨rfl, rfl, rfl, by simp [World.setCell], fun k hk hn => Below.heap_setCell _ _ _ _ hn⟩ (fun g _ e => by have e : g = _ := e; rw [e]; exact NN1.out) (fun g _ e => e)
      exact hw.arm (HCC.out.symm.trans HZ.out) wq.out.2
    rintro W5 ⟨hd5, hr5, hi5⟩
    clear t1 hD4 y2 z18 x18
    have HD5 := Lib.hid hd5
    have HR5 := Lib.hid hr5
    have HI5 := Lib.hid hi5
    clear hd5 hr5 hi5
    go_wp2_with (first | (refine wp_loadR rfl _ rfl rfl HD5.out ?_) | (refine wp_storeR rfl _ _ rfl rfl rfl HR5.out ?_))
    refine bodyPost_ret (v := .tuple #[.agg (rdA D4), .slice none 0 0, .int .i64 cc]) (results_three rfl rfl (HR5.out.fill (by omega) D4) rfl rfl) rfl ⟨D4, none, 0, 0, by rw [HC.out], ?_, ?_, (HR5.out.fill (by omega) D4).bel⟩
    · rw [HM.out]
      exact HI5.out.turn (N' := N) (turn_row W5 (w.heap.size + 2) (rdA D4)) (fun g _ e => by have e : g = _ := e; rw [e]; exact NN2.out) (fun g _ e => NNN.out g e)
    · rw [HBB.out]
      exact by rw [HBX.out]; exact SlN.none _ _
  · have t1 : (cc == 0) = false := by simp [hz]
    obtain ⟨D4, hD4⟩ : ∃ D4 : RD, D4 = D := ⟨_, rfl⟩
    have HZ := Lib.hid hz
    clear hz
    go_upto_region 27 with fail
    refine name_world (fun W => BoxR w (w.heap.size + 1) D4 W ∧ BoxR w (w.heap.size + 2) zeroR W ∧ RefIs W NN D4 MM) ⟨?_, WB4.out.r, ?_⟩ ?_
    · rw [hD4]
      exact WB4.out.d
    · rw [hD4, HMM.out, show M.armM q.n = M by unfold AD.armM; rw [if_neg (by rw [← HCC.out]; exact HZ.out)]]
      exact RI4.out
    rintro W5 ⟨hd5, hr5, hi5⟩
    clear t1 hD4 y2 z18 x18
    have HD5 := Lib.hid hd5
    have HR5 := Lib.hid hr5
    have HI5 := Lib.hid hi5
    clear hd5 hr5 hi5
    go_wp2_with (first | (refine wp_loadR rfl _ rfl rfl HD5.out ?_) | (refine wp_storeR rfl _ _ rfl rfl rfl HR5.out ?_))
    refine bodyPost_ret (v := .tuple #[.agg (rdA D4), .slice none 0 0, .int .i64 cc]) (results_three rfl rfl (HR5.out.fill (by omega) D4) rfl rfl) rfl ⟨D4, none, 0, 0, by rw [HC.out], ?_, ?_, (HR5.out.fill (by omega) D4).bel⟩
    · rw [HM.out]
      exact HI5.out.turn (N' := N) (turn_row W5 (w.heap.size + 2) (rdA D4)) (fun g _ e => by have e : g = _ := e; rw [e]; exact NN2.out) (fun g _ e => NNN.out g e)
    · rw [HBB.out]
      exact by rw [HBX.out]; exact SlN.none _ _


set_option maxHeartbeats 4000000 in
theorem wants_fail {w : World} {N : Nat → Prop} {D : RD} {M : AD} (h : RefIs w N D M) (hok : M.Ok) (hN : ∀ g, N g → g < w.heap.size) (hops : M.ops < 4000000000000000000) {B : Nat} (o : AO) (hw : o.Wf) (A : Option Addr) (c : Nat) (K : Option Addr) (kc : Nat) (ho : OpAt w B o A c K kc) (hop : o.op = 10) :
    Calls Try.prog 13 #[opV o A c K kc, .agg (rdA D)] w (WantsAs w N M o.few) := by
  have H := Lib.hid h
  have HOK := Lib.hid hok
  have HN := Lib.hid hN
  have HO := Lib.hid ho
  have HOPS := Lib.hid hops
  obtain ⟨q, hq⟩ : ∃ q, q = o.few := ⟨_, rfl⟩
  have HQ := Lib.hid hq
  have hk : q.kind = o.kind := by rw [hq]; rfl
  have wq : Hid (I64 q.file ∧ I64 q.n) := by unfold Hid; rw [hq]; exact ⟨hw.f, hw.n⟩
  have hbl : Hid (q.bs.length ≤ 300) := by unfold Hid; rw [hq]; simp [AO.few]; omega
  have hkl : Hid (q.keep.length ≤ 200) := by unfold Hid; rw [hq]; simp [AO.few]; omega
  rw [← hq]
  have hop' : q.op = o.op := by unfold AO.op; rw [hk]
  have hop2 : q.op = 10 := hop'.trans hop
  have HC0 := Lib.hid (show M.runC q = M.setC q.n by simp [AD.runC, hop2])
  have HM0 := Lib.hid (show M.runM q = M.failM q.n by simp [AD.runM, hop2])
  have HBB0 := Lib.hid (show M.runB q = [] by simp [AD.runB, hop2])
  obtain ⟨cc, hcc⟩ : ∃ cc, cc = M.setC q.n := ⟨_, rfl⟩
  obtain ⟨MM, hMM⟩ : ∃ MM, MM = M.failM q.n := ⟨_, rfl⟩
  obtain ⟨BB, hBB⟩ : ∃ BB : List Int, BB = [] := ⟨_, rfl⟩
  have HC := Lib.hid (HC0.out.trans hcc.symm)
  have HM := Lib.hid (HM0.out.trans hMM.symm)
  have HBB := Lib.hid (HBB0.out.trans hBB.symm)
  have HCC := Lib.hid hcc
  have HMM := Lib.hid hMM
  have HBX := Lib.hid hBB
  clear hcc hMM hBB HC0 HM0 HBB0
  unfold AO.op at hop2
  clear h hok hN ho hops hw hq hop'
  dsimp only [opV] at *
  obtain ⟨bn, hbn⟩ : ∃ bn, bn = o.bs.length := ⟨_, rfl⟩
  obtain ⟨kn, hkn⟩ : ∃ kn, kn = o.keep.length := ⟨_, rfl⟩
  have HBN := Lib.hid hbn
  have HKN := Lib.hid hkn
  rw [← hbn, ← hkn]
  have HK := Lib.hid hk
  clear hbn hkn hk
  go_enter Try.func13, Try.ntmps13
  go_upto_region 1 with fail
  refine name_world (fun W => WB w o A bn c K kn kc D zeroR W) (wb_new w o A bn c K kn kc D) ?_
  intro W1 hb1
  have WB1 := Lib.hid hb1
  have y0 := hb1.y0
  have y1 := hb1.y1
  have y2 := hb1.y2
  have y3 := hb1.y3
  have y4 := hb1.y4
  clear hb1
  have HF := Lib.hid (few_any o A c K kc (HO.out.below (WB1.out.d.bel.mono HO.out.low)))
  dsimp only [opV] at HF
  rw [← HBN.out, ← HKN.out, ← HQ.out] at HF

  go_upto_region 2 with (go_at_call 33; refine HF.out.mono ?_; rintro e w1 ⟨A1, c1, K1, kc1, rfl, hfw, hb1⟩; dsimp only [opV]; have WB2 := Lib.hid (WB1.out.later hb1); have x0 := WB2.out.y0; have x1 := WB2.out.y1; have x2 := WB2.out.y2; have x3 := WB2.out.y3; have x4 := WB2.out.y4; have z0 := WB2.out.fz 0; have z1 := WB2.out.fz 1; have z2 := WB2.out.fz 2; have z3 := WB2.out.fz 3; have z4 := WB2.out.fz 4; have HFW := Lib.hid hfw; have HB1 := Lib.hid hb1; clear hfw hb1 y0 y1 y2 y3 y4)
  refine name_world (fun W => WB w q A1 q.bs.length c1 K1 q.keep.length kc1 D zeroR W ∧ FewAt (w.heap.size + 1) W q A1 c1 K1 kc1) ⟨WB2.out.few, slices_few (lt_of_block WB1.out.op) HFW.out (fun g hg => by rw [Below.heap_setCell _ _ _ _ hg, Below.heap_setCell _ _ _ _ hg, Below.heap_setCell _ _ _ _ hg, Below.heap_setCell _ _ _ _ hg, Below.heap_setCell _ _ _ _ hg])⟩ ?_
  clear x0 x1 x2 x3 x4 z0 z1 z2 z3 z4
  rintro W3 ⟨hwb, hfew⟩
  obtain ⟨NN, hNN⟩ : ∃ NN : Nat → Prop, NN = fun g => N g ∨ g = w.heap.size + 1 ∨ g = w.heap.size + 2 := ⟨_, rfl⟩
  have hsz3 : w.heap.size + 2 < W3.heap.size := lt_of_block hwb.r.box
  have hr3 : RefIs W3 NN D M := H.out.turn (S := fun _ => False) (Turn.of_below hwb.d.bel) (fun _ _ e => e.elim) (fun g hg e => by rw [hNN] at e; rcases e with e | e | e; exact e; exact (by omega); exact (by omega))
  have HR3 := Lib.hid hr3
  have HNN := Lib.hid (show ∀ g, NN g → g < W3.heap.size from fun g e => by rw [hNN] at e; have hh := HN.out g; rcases e with e | e | e; exact (by have := hh e; omega); exact (by omega); exact (by omega))
  have NN1 := Lib.hid (show NN (w.heap.size + 1) from by rw [hNN]; exact .inr (.inl rfl))
  have NN2 := Lib.hid (show NN (w.heap.size + 2) from by rw [hNN]; exact .inr (.inr rfl))
  have NNN := Lib.hid (show ∀ g, N g → NN g from fun g e => by rw [hNN]; exact .inl e)
  have WB3 := Lib.hid hwb
  have FW3 := Lib.hid hfew
  have y0 := hwb.y0
  have y1 := hwb.y1
  have y2 := hwb.y2
  have y3 := hwb.y3
  have y4 := hwb.y4
  clear hwb hfew hr3 hNN hsz3
  generalize hbn : q.bs.length = bn1 at *
  generalize hkn : q.keep.length = kn1 at *
  have HB1' := Lib.hid hbn
  have HK1' := Lib.hid hkn
  clear hbn hkn WB1 WB2 HF HFW HB1
  have hsc : D.setC q.n = M.setC q.n := by unfold RD.setC AD.setC; rw [H.out.dead]
  have ST := Lib.hid (fun W => sets_ref D q.n W)
  rw [hsc, ← HCC.out] at ST
  clear hsc
  go_wp2_with (refine wp_loadR rfl _ rfl rfl WB3.out.d ?_)
  refine (ST.out W3).mono ?_
  rintro e w4 ⟨rfl, hb4⟩
  have WB4 := Lib.hid (WB3.out.later hb4)
  have RI4 := Lib.hid (HR3.out.below hb4)
  clear hb4 y0 y1 y2 y3 y4
  have y2 := WB4.out.y2
  have z19 := WB4.out.d.fz 19
  have x19 := WB4.out.d.c19
  by_cases hz : cc = 0
  · have t1 : (cc == 0) = true := by simp [hz]
    obtain ⟨D4, hD4⟩ : ∃ D4 : RD, D4 = { D with failing := q.n } := ⟨_, rfl⟩
    have HZ := Lib.hid hz
    clear hz
    go_upto_region 27 with fail
    refine name_world (fun W => BoxR w (w.heap.size + 1) D4 W ∧ BoxR w (w.heap.size + 2) zeroR W ∧ RefIs W NN D4 MM) ⟨?_, WB4.out.r.setOther (p := ⟨w.heap.size + 1, 19, none⟩) (by simp) (by simp) _, ?_⟩ ?_
    · rw [hD4]
      exact WB4.out.d.set (by omega) 19 _ rfl
    · rw [hD4, HMM.out]
      have hw := RI4.out.turn (N' := NN) (S := fun g => g = w.heap.size + 1) (W' := w4.setCell ⟨w.heap.size + 1, 19, none⟩ (.int .i64 q.n)) ⟨rfl, rfl, rfl, by simp [World.setCell], fun k hk hn => Below.heap_setCell _ _ _ _ hn⟩ (fun g _ e => by have e : g = _ := e; rw [e]; exact NN1.out) (fun g _ e => e)
      exact hw.fail (HCC.out.symm.trans HZ.out) wq.out.2
    rintro W5 ⟨hd5, hr5, hi5⟩
    clear t1 hD4 y2 z19 x19
    have HD5 := Lib.hid hd5
    have HR5 := Lib.hid hr5
    have HI5 := Lib.hid hi5
    clear hd5 hr5 hi5
    go_wp2_with (first | (refine wp_loadR rfl _ rfl rfl HD5.out ?_) | (refine wp_storeR rfl _ _ rfl rfl rfl HR5.out ?_))
    refine bodyPost_ret (v := .tuple #[.agg (rdA D4), .slice none 0 0, .int .i64 cc]) (results_three rfl rfl (HR5.out.fill (by omega) D4) rfl rfl) rfl ⟨D4, none, 0, 0, by rw [HC.out], ?_, ?_, (HR5.out.fill (by omega) D4).bel⟩
    · rw [HM.out]
      exact HI5.out.turn (N' := N) (turn_row W5 (w.heap.size + 2) (rdA D4)) (fun g _ e => by have e : g = _ := e; rw [e]; exact NN2.out) (fun g _ e => NNN.out g e)
    · rw [HBB.out]
      exact by rw [HBX.out]; exact SlN.none _ _
  · have t1 : (cc == 0) = false := by simp [hz]
    obtain ⟨D4, hD4⟩ : ∃ D4 : RD, D4 = D := ⟨_, rfl⟩
    have HZ := Lib.hid hz
    clear hz
    go_upto_region 27 with fail
    refine name_world (fun W => BoxR w (w.heap.size + 1) D4 W ∧ BoxR w (w.heap.size + 2) zeroR W ∧ RefIs W NN D4 MM) ⟨?_, WB4.out.r, ?_⟩ ?_
    · rw [hD4]
      exact WB4.out.d
    · rw [hD4, HMM.out, show M.failM q.n = M by unfold AD.failM; rw [if_neg (by rw [← HCC.out]; exact HZ.out)]]
      exact RI4.out
    rintro W5 ⟨hd5, hr5, hi5⟩
    clear t1 hD4 y2 z19 x19
    have HD5 := Lib.hid hd5
    have HR5 := Lib.hid hr5
    have HI5 := Lib.hid hi5
    clear hd5 hr5 hi5
    go_wp2_with (first | (refine wp_loadR rfl _ rfl rfl HD5.out ?_) | (refine wp_storeR rfl _ _ rfl rfl rfl HR5.out ?_))
    refine bodyPost_ret (v := .tuple #[.agg (rdA D4), .slice none 0 0, .int .i64 cc]) (results_three rfl rfl (HR5.out.fill (by omega) D4) rfl rfl) rfl ⟨D4, none, 0, 0, by rw [HC.out], ?_, ?_, (HR5.out.fill (by omega) D4).bel⟩
    · rw [HM.out]
      exact HI5.out.turn (N' := N) (turn_row W5 (w.heap.size + 2) (rdA D4)) (fun g _ e => by have e : g = _ := e; rw [e]; exact NN2.out) (fun g _ e => NNN.out g e)
    · rw [HBB.out]
      exact by rw [HBX.out]; exact SlN.none _ _


set_option maxHeartbeats 4000000 in
theorem wants_crash {w : World} {N : Nat → Prop} {D : RD} {M : AD} (h : RefIs w N D M) (hok : M.Ok) (hN : ∀ g, N g → g < w.heap.size) (hops : M.ops < 4000000000000000000) {B : Nat} (o : AO) (hw : o.Wf) (A : Option Addr) (c : Nat) (K : Option Addr) (kc : Nat) (ho : OpAt w B o A c K kc) (hop : o.op = 11) :
    Calls Try.prog 13 #[opV o A c K kc, .agg (rdA D)] w (WantsAs w N M o.few) := by
  have H := Lib.hid h
  have HOK := Lib.hid hok
  have HN := Lib.hid hN
  have HO := Lib.hid ho
  have HOPS := Lib.hid hops
  obtain ⟨q, hq⟩ : ∃ q, q = o.few := ⟨_, rfl⟩
  have HQ := Lib.hid hq
  have hk : q.kind = o.kind := by rw [hq]; rfl
  have wq : Hid (I64 q.file ∧ I64 q.n) := by unfold Hid; rw [hq]; exact ⟨hw.f, hw.n⟩
  have hbl : Hid (q.bs.length ≤ 300) := by unfold Hid; rw [hq]; simp [AO.few]; omega
  have hkl : Hid (q.keep.length ≤ 200) := by unfold Hid; rw [hq]; simp [AO.few]; omega
  rw [← hq]
  have hop' : q.op = o.op := by unfold AO.op; rw [hk]
  have hop2 : q.op = 11 := hop'.trans hop
  have HC0 := Lib.hid (show M.runC q = (0 : Int) by simp [AD.runC, hop2])
  have HM0 := Lib.hid (show M.runM q = M.crash q.keep by simp [AD.runM, hop2])
  have HBB0 := Lib.hid (show M.runB q = [] by simp [AD.runB, hop2])
  obtain ⟨cc, hcc⟩ : ∃ cc, cc = (0 : Int) := ⟨_, rfl⟩
  obtain ⟨MM, hMM⟩ : ∃ MM, MM = M.crash q.keep := ⟨_, rfl⟩
  obtain ⟨BB, hBB⟩ : ∃ BB : List Int, BB = [] := ⟨_, rfl⟩
  have HC := Lib.hid (HC0.out.trans hcc.symm)
  have HM := Lib.hid (HM0.out.trans hMM.symm)
  have HBB := Lib.hid (HBB0.out.trans hBB.symm)
  have HCC := Lib.hid hcc
  have HMM := Lib.hid hMM
  have HBX := Lib.hid hBB
  clear hcc hMM hBB HC0 HM0 HBB0
  unfold AO.op at hop2
  clear h hok hN ho hops hw hq hop'
  dsimp only [opV] at *
  obtain ⟨bn, hbn⟩ : ∃ bn, bn = o.bs.length := ⟨_, rfl⟩
  obtain ⟨kn, hkn⟩ : ∃ kn, kn = o.keep.length := ⟨_, rfl⟩
  have HBN := Lib.hid hbn
  have HKN := Lib.hid hkn
  rw [← hbn, ← hkn]
  have HK := Lib.hid hk
  clear hbn hkn hk
  go_enter Try.func13, Try.ntmps13
  go_upto_region 1 with fail
  refine name_world (fun W => WB w o A bn c K kn kc D zeroR W) (wb_new w o A bn c K kn kc D) ?_
  intro W1 hb1
  have WB1 := Lib.hid hb1
  have y0 := hb1.y0
  have y1 := hb1.y1
  have y2 := hb1.y2
  have y3 := hb1.y3
  have y4 := hb1.y4
  clear hb1
  have HF := Lib.hid (few_any o A c K kc (HO.out.below (WB1.out.d.bel.mono HO.out.low)))
  dsimp only [opV] at HF
  rw [← HBN.out, ← HKN.out, ← HQ.out] at HF

  go_upto_region 2 with (go_at_call 33; refine HF.out.mono ?_; rintro e w1 ⟨A1, c1, K1, kc1, rfl, hfw, hb1⟩; dsimp only [opV]; have WB2 := Lib.hid (WB1.out.later hb1); have x0 := WB2.out.y0; have x1 := WB2.out.y1; have x2 := WB2.out.y2; have x3 := WB2.out.y3; have x4 := WB2.out.y4; have z0 := WB2.out.fz 0; have z1 := WB2.out.fz 1; have z2 := WB2.out.fz 2; have z3 := WB2.out.fz 3; have z4 := WB2.out.fz 4; have HFW := Lib.hid hfw; have HB1 := Lib.hid hb1; clear hfw hb1 y0 y1 y2 y3 y4)
  refine name_world (fun W => WB w q A1 q.bs.length c1 K1 q.keep.length kc1 D zeroR W ∧ FewAt (w.heap.size + 1) W q A1 c1 K1 kc1) ⟨WB2.out.few, slices_few (lt_of_block WB1.out.op) HFW.out (fun g hg => by rw [Below.heap_setCell _ _ _ _ hg, Below.heap_setCell _ _ _ _ hg, Below.heap_setCell _ _ _ _ hg, Below.heap_setCell _ _ _ _ hg, Below.heap_setCell _ _ _ _ hg])⟩ ?_
  clear x0 x1 x2 x3 x4 z0 z1 z2 z3 z4
  rintro W3 ⟨hwb, hfew⟩
  obtain ⟨NN, hNN⟩ : ∃ NN : Nat → Prop, NN = fun g => N g ∨ g = w.heap.size + 1 ∨ g = w.heap.size + 2 := ⟨_, rfl⟩
  have hsz3 : w.heap.size + 2 < W3.heap.size := lt_of_block hwb.r.box
  have hr3 : RefIs W3 NN D M := H.out.turn (S := fun _ => False) (Turn.of_below hwb.d.bel) (fun _ _ e => e.elim) (fun g hg e => by rw [hNN] at e; rcases e with e | e | e; exact e; exact (by omega); exact (by omega))
  have HR3 := Lib.hid hr3
  have HNN := Lib.hid (show ∀ g, NN g → g < W3.heap.size from fun g e => by rw [hNN] at e; have hh := HN.out g; rcases e with e | e | e; exact (by have := hh e; omega); exact (by omega); exact (by omega))
  have NN1 := Lib.hid (show NN (w.heap.size + 1) from by rw [hNN]; exact .inr (.inl rfl))
  have NN2 := Lib.hid (show NN (w.heap.size + 2) from by rw [hNN]; exact .inr (.inr rfl))
  have NNN := Lib.hid (show ∀ g, N g → NN g from fun g e => by rw [hNN]; exact .inl e)
  have WB3 := Lib.hid hwb
  have FW3 := Lib.hid hfew
  have y0 := hwb.y0
  have y1 := hwb.y1
  have y2 := hwb.y2
  have y3 := hwb.y3
  have y4 := hwb.y4
  clear hwb hfew hr3 hNN hsz3
  generalize hbn : q.bs.length = bn1 at *
  generalize hkn : q.keep.length = kn1 at *
  have HB1' := Lib.hid hbn
  have HK1' := Lib.hid hkn
  clear hbn hkn WB1 WB2 HF HFW HB1
  go_wp2_with (refine wp_loadR rfl _ rfl rfl WB3.out.d ?_)
  refine (crash_ref HR3.out HOK.out HNN.out (by rw [used_total HR3.out]; have h1 := HOK.out.tot; have h2 := HOK.out.room2; omega) K1 kn1 kc1 q.keep HK1'.out (RdB.own FW3.out.2) (by have := hkl.out; have := HK1'.out; omega)).mono ?_
  rw [← HMM.out]
  rintro e w4 ⟨D4, rfl, hr4, hb4⟩
  have WB4 := Lib.hid (WB3.out.later hb4)
  have RI4 := Lib.hid hr4
  clear hr4 hb4 y0 y1 y2 y3 y4
  go_upto_region 27 with (refine wp_storeR rfl _ _ rfl rfl rfl WB4.out.d ?_)
  refine name_world (fun W => BoxR w (w.heap.size + 1) D4 W ∧ BoxR w (w.heap.size + 2) zeroR W ∧ RefIs W NN D4 MM) ⟨WB4.out.d.fill (by omega) _, WB4.out.r.fillOther (by omega) (by omega), RI4.out.turn (N' := NN) (turn_row w4 (w.heap.size + 1) (rdA D4)) (fun g _ e => by have e : g = _ := e; rw [e]; exact NN1.out) (fun g _ e => e)⟩ ?_
  rintro W5 ⟨hd5, hr5, hi5⟩

  have HD5 := Lib.hid hd5
  have HR5 := Lib.hid hr5
  have HI5 := Lib.hid hi5
  clear hd5 hr5 hi5
  go_wp2_with (first | (refine wp_loadR rfl _ rfl rfl HD5.out ?_) | (refine wp_storeR rfl _ _ rfl rfl rfl HR5.out ?_))
  refine bodyPost_ret (v := .tuple #[.agg (rdA D4), .slice none 0 0, .int .i64 0]) (results_three rfl rfl (HR5.out.fill (by omega) D4) rfl rfl) rfl ⟨D4, none, 0, 0, by rw [HC.out]; rw [HCC.out], ?_, ?_, (HR5.out.fill (by omega) D4).bel⟩
  · rw [HM.out]
    exact HI5.out.turn (N' := N) (turn_row W5 (w.heap.size + 2) (rdA D4)) (fun g _ e => by have e : g = _ := e; rw [e]; exact NN2.out) (fun g _ e => NNN.out g e)
  · rw [HBB.out]
    exact by rw [HBX.out]; exact SlN.none _ _


set_option maxHeartbeats 4000000 in
theorem wants_app {w : World} {N : Nat → Prop} {D : RD} {M : AD} (h : RefIs w N D M) (hok : M.Ok) (hN : ∀ g, N g → g < w.heap.size) (hops : M.ops < 4000000000000000000) {B : Nat} (o : AO) (hw : o.Wf) (A : Option Addr) (c : Nat) (K : Option Addr) (kc : Nat) (ho : OpAt w B o A c K kc) (hop : ∀ k : Int, 3 ≤ k → k ≤ 11 → o.op ≠ k) :
    Calls Try.prog 13 #[opV o A c K kc, .agg (rdA D)] w (WantsAs w N M o.few) := by
  have H := Lib.hid h
  have HOK := Lib.hid hok
  have HN := Lib.hid hN
  have HO := Lib.hid ho
  have HOPS := Lib.hid hops
  obtain ⟨q, hq⟩ : ∃ q, q = o.few := ⟨_, rfl⟩
  have HQ := Lib.hid hq
  have hk : q.kind = o.kind := by rw [hq]; rfl
  have wq : Hid (I64 q.file ∧ I64 q.n) := by unfold Hid; rw [hq]; exact ⟨hw.f, hw.n⟩
  have hbl : Hid (q.bs.length ≤ 300) := by unfold Hid; rw [hq]; simp [AO.few]; omega
  have hkl : Hid (q.keep.length ≤ 200) := by unfold Hid; rw [hq]; simp [AO.few]; omega
  rw [← hq]
  have hop' : q.op = o.op := by unfold AO.op; rw [hk]
  have n3 : q.op ≠ 3 := by rw [hop']; exact hop 3 (by omega) (by omega)
  have n4 : q.op ≠ 4 := by rw [hop']; exact hop 4 (by omega) (by omega)
  have n5 : q.op ≠ 5 := by rw [hop']; exact hop 5 (by omega) (by omega)
  have n6 : q.op ≠ 6 := by rw [hop']; exact hop 6 (by omega) (by omega)
  have n7 : q.op ≠ 7 := by rw [hop']; exact hop 7 (by omega) (by omega)
  have n8 : q.op ≠ 8 := by rw [hop']; exact hop 8 (by omega) (by omega)
  have n9 : q.op ≠ 9 := by rw [hop']; exact hop 9 (by omega) (by omega)
  have n10 : q.op ≠ 10 := by rw [hop']; exact hop 10 (by omega) (by omega)
  have n11 : q.op ≠ 11 := by rw [hop']; exact hop 11 (by omega) (by omega)
  have HC0 := Lib.hid (show M.runC q = M.appendC q.file q.bs.length by simp [AD.runC, n3, n4, n5, n6, n7, n8, n9, n10, n11])
  have HM0 := Lib.hid (show M.runM q = M.appendM q.file q.bs by simp [AD.runM, n3, n4, n5, n6, n7, n8, n9, n10, n11])
  have HBB0 := Lib.hid (show M.runB q = [] by simp [AD.runB, n5])
  have m3 : (q.op == 3) = false := by simpa using n3
  have m4 : (q.op == 4) = false := by simpa using n4
  have m5 : (q.op == 5) = false := by simpa using n5
  have m6 : (q.op == 6) = false := by simpa using n6
  have m7 : (q.op == 7) = false := by simpa using n7
  have m8 : (q.op == 8) = false := by simpa using n8
  have m9 : (q.op == 9) = false := by simpa using n9
  have m10 : (q.op == 10) = false := by simpa using n10
  have m11 : (q.op == 11) = false := by simpa using n11
  clear n3 n4 n5 n6 n7 n8 n9 n10 n11
  obtain ⟨cc, hcc⟩ : ∃ cc, cc = M.appendC q.file q.bs.length := ⟨_, rfl⟩
  obtain ⟨MM, hMM⟩ : ∃ MM, MM = M.appendM q.file q.bs := ⟨_, rfl⟩
  obtain ⟨BB, hBB⟩ : ∃ BB : List Int, BB = [] := ⟨_, rfl⟩
  have HC := Lib.hid (HC0.out.trans hcc.symm)
  have HM := Lib.hid (HM0.out.trans hMM.symm)
  have HBB := Lib.hid (HBB0.out.trans hBB.symm)
  have HCC := Lib.hid hcc
  have HMM := Lib.hid hMM
  have HBX := Lib.hid hBB
  clear hcc hMM hBB HC0 HM0 HBB0
  unfold AO.op at m3 m4 m5 m6 m7 m8 m9 m10 m11
  clear h hok hN ho hops hw hq hop'
  dsimp only [opV] at *
  obtain ⟨bn, hbn⟩ : ∃ bn, bn = o.bs.length := ⟨_, rfl⟩
  obtain ⟨kn, hkn⟩ : ∃ kn, kn = o.keep.length := ⟨_, rfl⟩
  have HBN := Lib.hid hbn
  have HKN := Lib.hid hkn
  rw [← hbn, ← hkn]
  have HK := Lib.hid hk
  clear hbn hkn hk
  go_enter Try.func13, Try.ntmps13
  go_upto_region 1 with fail
  refine name_world (fun W => WB w o A bn c K kn kc D zeroR W) (wb_new w o A bn c K kn kc D) ?_
  intro W1 hb1
  have WB1 := Lib.hid hb1
  have y0 := hb1.y0
  have y1 := hb1.y1
  have y2 := hb1.y2
  have y3 := hb1.y3
  have y4 := hb1.y4
  clear hb1
  have HF := Lib.hid (few_any o A c K kc (HO.out.below (WB1.out.d.bel.mono HO.out.low)))
  dsimp only [opV] at HF
  rw [← HBN.out, ← HKN.out, ← HQ.out] at HF

  go_upto_region 2 with (go_at_call 33; refine HF.out.mono ?_; rintro e w1 ⟨A1, c1, K1, kc1, rfl, hfw, hb1⟩; dsimp only [opV]; have WB2 := Lib.hid (WB1.out.later hb1); have x0 := WB2.out.y0; have x1 := WB2.out.y1; have x2 := WB2.out.y2; have x3 := WB2.out.y3; have x4 := WB2.out.y4; have z0 := WB2.out.fz 0; have z1 := WB2.out.fz 1; have z2 := WB2.out.fz 2; have z3 := WB2.out.fz 3; have z4 := WB2.out.fz 4; have HFW := Lib.hid hfw; have HB1 := Lib.hid hb1; clear hfw hb1 y0 y1 y2 y3 y4)
  refine name_world (fun W => WB w q A1 q.bs.length c1 K1 q.keep.length kc1 D zeroR W ∧ FewAt (w.heap.size + 1) W q A1 c1 K1 kc1) ⟨WB2.out.few, slices_few (lt_of_block WB1.out.op) HFW.out (fun g hg => by rw [Below.heap_setCell _ _ _ _ hg, Below.heap_setCell _ _ _ _ hg, Below.heap_setCell _ _ _ _ hg, Below.heap_setCell _ _ _ _ hg, Below.heap_setCell _ _ _ _ hg])⟩ ?_
  clear x0 x1 x2 x3 x4 z0 z1 z2 z3 z4
  rintro W3 ⟨hwb, hfew⟩
  obtain ⟨NN, hNN⟩ : ∃ NN : Nat → Prop, NN = fun g => N g ∨ g = w.heap.size + 1 ∨ g = w.heap.size + 2 := ⟨_, rfl⟩
  have hsz3 : w.heap.size + 2 < W3.heap.size := lt_of_block hwb.r.box
  have hr3 : RefIs W3 NN D M := H.out.turn (S := fun _ => False) (Turn.of_below hwb.d.bel) (fun _ _ e => e.elim) (fun g hg e => by rw [hNN] at e; rcases e with e | e | e; exact e; exact (by omega); exact (by omega))
  have HR3 := Lib.hid hr3
  have HNN := Lib.hid (show ∀ g, NN g → g < W3.heap.size from fun g e => by rw [hNN] at e; have hh := HN.out g; rcases e with e | e | e; exact (by have := hh e; omega); exact (by omega); exact (by omega))
  have NN1 := Lib.hid (show NN (w.heap.size + 1) from by rw [hNN]; exact .inr (.inl rfl))
  have NN2 := Lib.hid (show NN (w.heap.size + 2) from by rw [hNN]; exact .inr (.inr rfl))
  have NNN := Lib.hid (show ∀ g, N g → NN g from fun g e => by rw [hNN]; exact .inl e)
  have WB3 := Lib.hid hwb
  have FW3 := Lib.hid hfew
  have y0 := hwb.y0
  have y1 := hwb.y1
  have y2 := hwb.y2
  have y3 := hwb.y3
  have y4 := hwb.y4
  clear hwb hfew hr3 hNN hsz3
  generalize hbn : q.bs.length = bn1 at *
  generalize hkn : q.keep.length = kn1 at *
  have HB1' := Lib.hid hbn
  have HK1' := Lib.hid hkn
  clear hbn hkn WB1 WB2 HF HFW HB1
  go_wp2_with (refine wp_loadR rfl _ rfl rfl WB3.out.d ?_)
  refine (append_ref HR3.out HOK.out HNN.out HOPS.out q.file A1 c1 bn1 q.bs HB1'.out (Rd.own FW3.out.1) (by have := hbl.out; have := HB1'.out; omega)).mono ?_
  rw [← HMM.out, ← HCC.out]
  rintro e w4 ⟨D4, rfl, hr4, hb4⟩
  have WB4 := Lib.hid (WB3.out.later hb4)
  have RI4 := Lib.hid hr4
  clear hr4 hb4 y0 y1 y2 y3 y4
  go_upto_region 27 with (refine wp_storeR rfl _ _ rfl rfl rfl WB4.out.d ?_)
  refine name_world (fun W => BoxR w (w.heap.size + 1) D4 W ∧ BoxR w (w.heap.size + 2) zeroR W ∧ RefIs W NN D4 MM) ⟨WB4.out.d.fill (by omega) _, WB4.out.r.fillOther (by omega) (by omega), RI4.out.turn (N' := NN) (turn_row w4 (w.heap.size + 1) (rdA D4)) (fun g _ e => by have e : g = _ := e; rw [e]; exact NN1.out) (fun g _ e => e)⟩ ?_
  rintro W5 ⟨hd5, hr5, hi5⟩

  have HD5 := Lib.hid hd5
  have HR5 := Lib.hid hr5
  have HI5 := Lib.hid hi5
  clear hd5 hr5 hi5
  go_wp2_with (first | (refine wp_loadR rfl _ rfl rfl HD5.out ?_) | (refine wp_storeR rfl _ _ rfl rfl rfl HR5.out ?_))
  refine bodyPost_ret (v := .tuple #[.agg (rdA D4), .slice none 0 0, .int .i64 cc]) (results_three rfl rfl (HR5.out.fill (by omega) D4) rfl rfl) rfl ⟨D4, none, 0, 0, by rw [HC.out], ?_, ?_, (HR5.out.fill (by omega) D4).bel⟩
  · rw [HM.out]
    exact HI5.out.turn (N' := N) (turn_row W5 (w.heap.size + 2) (rdA D4)) (fun g _ e => by have e : g = _ := e; rw [e]; exact NN2.out) (fun g _ e => NNN.out g e)
  · rw [HBB.out]
    exact by rw [HBX.out]; exact SlN.none _ _


theorem wants_any {w : World} {N : Nat → Prop} {D : RD} {M : AD} (h : RefIs w N D M) (hok : M.Ok) (hN : ∀ g, N g → g < w.heap.size) (hops : M.ops < 4000000000000000000) {B : Nat} (o : AO) (hw : o.Wf) (A : Option Addr) (c : Nat) (K : Option Addr) (kc : Nat) (ho : OpAt w B o A c K kc) :
    Calls Try.prog 13 #[opV o A c K kc, .agg (rdA D)] w (WantsAs w N M o.few) := by
  by_cases h3 : o.op = 3
  · exact wants_sync3 h hok hN hops o hw A c K kc ho h3
  by_cases h4 : o.op = 4
  · exact wants_sync4 h hok hN hops o hw A c K kc ho h4
  by_cases h5 : o.op = 5
  · exact wants_read h hok hN hops o hw A c K kc ho h5
  by_cases h6 : o.op = 6
  · exact wants_trunc h hok hN hops o hw A c K kc ho h6
  by_cases h7 : o.op = 7
  · exact wants_ren h hok hN hops o hw A c K kc ho h7
  by_cases h8 : o.op = 8
  · exact wants_rem h hok hN hops o hw A c K kc ho h8
  by_cases h9 : o.op = 9
  · exact wants_arm h hok hN hops o hw A c K kc ho h9
  by_cases h10 : o.op = 10
  · exact wants_fail h hok hN hops o hw A c K kc ho h10
  by_cases h11 : o.op = 11
  · exact wants_crash h hok hN hops o hw A c K kc ho h11
  exact wants_app h hok hN hops o hw A c K kc ho (fun k h1 h2 e => by
    have ht : k = 3 ∨ k = 4 ∨ k = 5 ∨ k = 6 ∨ k = 7 ∨ k = 8 ∨ k = 9 ∨ k = 10 ∨ k = 11 := by omega
    rcases ht with rfl | rfl | rfl | rfl | rfl | rfl | rfl | rfl | rfl <;> contradiction)

end Go.Proofs.Ythpbgejjfdgpaaa
