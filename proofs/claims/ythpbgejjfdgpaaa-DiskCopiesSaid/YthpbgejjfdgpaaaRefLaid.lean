/-
  The document's laid: bytes loose behind a file.
-/
import Derived.Test.YthpbgejjfdgpaaaRefTrunc
namespace Go.Proofs.Ythpbgejjfdgpaaa
open Go.RowKit
set_option linter.unusedVariables false
set_option maxRecDepth 100000

theorem BoxF.later {w W W' : World} {g : Nat} {F : RF} (h : BoxF w g F W) (hb : Below W.heap.size W W') : BoxF w g F W' := ⟨(hb.block g (lt_of_block h.box)).trans h.box, h.bel.trans (hb.mono h.bel.size)⟩
theorem BoxF.c3 {w W : World} {g : Nat} {F : RF} (h : BoxF w g F W) : W.cell? ⟨g, 3, none⟩ = some (.slice F.B F.m F.d) := by simp [World.cell?, h.box]
theorem BoxF.fz {w W : World} {g : Nat} {F : RF} (h : BoxF w g F W) (i : Nat) : W.frozen? ⟨g, i, none⟩ = false := by simp [World.frozen?, h.box]
theorem BoxF.set {w W : World} {g : Nat} {F F' : RF} (h : BoxF w g F W) (hb : w.heap.size ≤ g) (i : Nat) (v : Value) (e : (rfA F).setIfInBounds i v = rfA F') : BoxF w g F' (W.setCell ⟨g, i, none⟩ v) :=
  ⟨by rw [← e]; exact heap_set h.box i v, h.bel.setCell (p := ⟨g, i, none⟩) hb v⟩
theorem at_app0 {w : World} {ops : Array Oper} {rest : List Oper} {o : Oper} {a : Act} {Q : Exit → Act → World → Prop} (hgd : o.guard = none) (s x : Operand)
    (ho : o.op = .call { callee := .builtin .append, args := #[s, x], argTypes := #[28, 28] })
    (base : Nat) (A0 : Option Addr) (c0 : Nat) (hs : a.eval s = .slice A0 0 c0) (hown : w.ownsRow base 5 1 (.slice A0 0 c0) 0 [])
    (A : Option Addr) (c m : Nat) (bs : List Int) (hx : a.eval x = .slice A m c) (hm : bs.length = m) (hr : Rd w w.heap.size A bs)
    (hbig : m ≤ 140737488355328) (hbase : base ≤ w.heap.size)
    (h : ∀ A1 c1 w', w'.ownsRow base 5 1 (.slice A1 m c1) m (bs.map (Value.int .u8)) → Below base w w' → wpList Try.prog ops Q rest (a.put o.dst (.slice A1 m c1)) w') : wpList Try.prog ops Q (o :: rest) a w :=
  app_at hgd s x ho base A0 c0 0 [] hs hown A c m bs hx hm hr (by omega) hbase (fun A1 c1 w' h1 h2 _ => by
    simp only [Nat.zero_add, List.nil_append] at h1 ⊢
    exact h A1 c1 w' h1 ((Below.refl _ w).grown h2 hbase (fun k hk => (World.ownsRow.lt hown k (by cases hh : A0 <;> simp_all [Value.ownBlock, blk])).1)))
theorem at_app1 {w : World} {ops : Array Oper} {rest : List Oper} {o : Oper} {a : Act} {Q : Exit → Act → World → Prop} (hgd : o.guard = none) (s x : Operand)
    (ho : o.op = .call { callee := .builtin .append, args := #[s, x], argTypes := #[28, 28] })
    (base : Nat) (A0 : Option Addr) (c0 n : Nat) (xs : List Int) (hs : a.eval s = .slice A0 n c0) (hown : w.ownsRow base 5 1 (.slice A0 n c0) n (xs.map (Value.int .u8)))
    (A : Option Addr) (c m : Nat) (bs : List Int) (hx : a.eval x = .slice A m c) (hm : bs.length = m) (hr : Rd w w.heap.size A bs)
    (hbig : n + m ≤ 140737488355328) (hbase : base ≤ w.heap.size)
    (h : ∀ A1 c1 w', w'.ownsRow base 5 1 (.slice A1 (n + m) c1) (n + m) ((xs ++ bs).map (Value.int .u8)) → Below base w w' → wpList Try.prog ops Q rest (a.put o.dst (.slice A1 (n + m) c1)) w') : wpList Try.prog ops Q (o :: rest) a w :=
  app_at hgd s x ho base A0 c0 n (xs.map (Value.int .u8)) hs hown A c m bs hx hm hr hbig hbase (fun A1 c1 w' h1 h2 _ => by
    rw [← List.map_append] at h1
    exact h A1 c1 w' h1 ((Below.refl _ w).grown h2 hbase (fun k hk => (World.ownsRow.lt hown k (by cases hh : A0 <;> simp_all [Value.ownBlock, blk])).1)))
def LaidAs (w : World) (N : Nat → Prop) (M' : AD) (e : Ending) (w' : World) : Prop := ∃ D', e = .returned (.agg (rdA D')) ∧ RefIs w' N D' M' ∧ Below w.heap.size w w'

set_option maxHeartbeats 2000000 in
theorem laid_ref {w : World} {N : Nat → Prop} {D : RD} {M : AD} (h : RefIs w N D M) (hN : ∀ g, N g → g < w.heap.size) {n : Nat} (hn4 : n < 4) (A : Option Addr) (c m : Nat) (bs : List Int) (hbs : bs.length = m) (hr : Rd w w.heap.size A bs) (hsyn : (M.file (n : Int)).syn ≤ (M.file (n : Int)).bs.length) (hbig : (M.file (n : Int)).bs.length + m ≤ 140737488355328) :
    Calls Try.prog 79 #[.agg (rdA D), .int .i64 n, .slice A m c] w (LaidAs w N (M.put (n : Int) ((M.file (n : Int)).lay bs))) := by
  have H := Lib.hid h
  have HN := Lib.hid hN
  have HRB := Lib.hid hr
  have HBS := Lib.hid hbs
  have HSY := Lib.hid hsyn
  obtain ⟨Fn, hFn⟩ : ∃ Fn, Fn = D.file n := ⟨_, rfl⟩
  have hF := h.file n hn4
  rw [← hFn] at hF
  have hl2 := hF.loose.len
  have hm2 : Fn.m + m ≤ 140737488355328 := by rw [← hl2, List.length_drop]; omega
  obtain ⟨ys, hys⟩ : ∃ ys, ys = (M.file (n : Int)).bs.drop (M.file (n : Int)).syn := ⟨_, rfl⟩
  have hly : ys.length = Fn.m := by rw [hys]; exact hl2
  have HLY := Lib.hid hly
  have HYS := Lib.hid hys
  have HFL := Lib.hid (show Rd w w.heap.size Fn.B ys by rw [hys]; exact hF.loose.rd)
  have HFI := Lib.hid hF
  have HFN := Lib.hid hFn
  have HM2 := Lib.hid hm2
  obtain ⟨MM, hMM⟩ : ∃ MM, MM = M.put (n : Int) ((M.file (n : Int)).lay bs) := ⟨_, rfl⟩
  rw [← hMM]
  have HMM := Lib.hid hMM
  have z0 : (0 : Int) ≤ (n : Int) := by omega
  have z1 : (n : Int) < 4 := by omega
  clear h hN hr hbs hsyn hbig hFn hF hl2 hm2 hys hly hMM
  go_enter Try.func79, Try.ntmps79
  go_upto_region 1 with fail
  refine name_world (fun W => BoxR w w.heap.size D W ∧ BoxR w (w.heap.size + 1) zeroR W) (two_boxes w D) ?_
  rintro W1 ⟨hD, hR⟩
  have HD := Lib.hid hD
  have HR := Lib.hid hR
  clear hD hR
  have LF := Lib.hid (fun W (hW : BoxR w w.heap.size D W) => by have := hW.range hn4; rw [← HFN.out] at this; exact this)
  go_upto_region 2 with (first | (refine wpList_load_mid rfl 30 _ rfl _ _ rfl (rfA Fn).toList _ (LF.out _ HD.out) Try.underlying30 rfl sizeF ?_) | (refine wpList_store_row rfl 30 _ _ rfl W1.heap.size (rfA Fn) rfl rfl 30 _ (heap_alloc_new W1 _) sizeF rfl (by simp [Value.oneCell']) ?_))
  obtain ⟨g, hg⟩ : ∃ g, g = W1.heap.size := ⟨_, rfl⟩
  have hgl : w.heap.size + 1 < g := by rw [hg]; exact lt_of_block HR.out.box
  refine name_world (fun W => BoxR w w.heap.size D W ∧ BoxR w (w.heap.size + 1) zeroR W ∧ BoxF w g Fn W) (by
    have b1 := Below.refl W1.heap.size W1 |>.alloc (Nat.le_refl _) (.cells #[.bool false, .bool false, .slice none 0 0, .slice none 0 0] 30)
    have b2 := b1.trans ((turn_row (W1.alloc (.cells #[.bool false, .bool false, .slice none 0 0, .slice none 0 0] 30)) W1.heap.size (rfA Fn)).below b1.size (fun i hi => by omega))
    exact ⟨HD.out.later b2, HR.out.later b2, ⟨by rw [hg]; exact setRow_box _ _ _ _ _ (heap_alloc_new W1 _), HD.out.bel.trans (b2.mono HD.out.bel.size)⟩⟩) ?_
  rintro W2 ⟨hD2, hR2, hF2⟩
  rw [← hg]
  have HD2 := Lib.hid hD2
  have HR2 := Lib.hid hR2
  have HF2 := Lib.hid hF2
  have g0 : W2.cell? ⟨g, 0, none⟩ = some (.bool Fn.there) := by simp [World.cell?, hF2.box]
  have f0 := hF2.fz 0
  have HGL := Lib.hid hgl
  have HGB := Lib.hid (show w.heap.size ≤ g by omega)
  have HGN := Lib.hid (show g ≠ w.heap.size by omega)
  have HGN1 := Lib.hid (show g ≠ w.heap.size + 1 by omega)
  clear hD2 hR2 hF2 HD HR hg LF hgl
  go_upto_region 3 with fail
  refine name_world (fun W => BoxR w w.heap.size D W ∧ BoxR w (w.heap.size + 1) zeroR W ∧ BoxF w g { Fn with there := true } W) ⟨HD2.out.setOther (p := ⟨g, 0, none⟩) HGB.out HGN.out _, HR2.out.setOther (p := ⟨g, 0, none⟩) HGB.out HGN1.out _, HF2.out.set HGB.out 0 _ rfl⟩ ?_
  rintro W3 ⟨hD3, hR3, hF3⟩
  have HD3 := Lib.hid hD3
  have HR3 := Lib.hid hR3
  have HF3 := Lib.hid hF3
  clear hD3 hR3 hF3 HD2 HR2 HF2 g0 f0
  have OM := Lib.hid (show (W3.alloc (.cells #[] 5)).ownsRow W3.heap.size 5 1 (.slice (some ⟨W3.heap.size, 0, none⟩) 0 0) 0 [] from World.ownsRow_made W3 #[] 0 (Nat.le_refl _) (Nat.zero_le _) rfl)
  have hba : Below W3.heap.size W3 (W3.alloc (.cells #[] 5)) := (Below.refl _ W3).alloc (Nat.le_refl _) _
  have HBA := Lib.hid hba
  have rx : Rd W3 W3.heap.size Fn.B ys := (HFL.out.below HF3.out.bel).wide HF3.out.bel.size
  have rb : Rd W3 W3.heap.size A bs := (HRB.out.below HF3.out.bel).wide HF3.out.bel.size
  have RX := Lib.hid (show Rd (W3.alloc (.cells #[] 5)) (W3.alloc (.cells #[] 5)).heap.size Fn.B ys from (rx.below hba).wide hba.size)
  have RB := Lib.hid (fun W' (hb : Below W3.heap.size W3 W') => (rb.below hb).wide hb.size)
  have k3 : W3.cell? ⟨g, 3, none⟩ = some (.slice Fn.B Fn.m Fn.d) := HF3.out.c3
  have k3' : (W3.alloc (.cells #[] 5)).cell? ⟨g, 3, none⟩ = some (.slice Fn.B Fn.m Fn.d) := (HF3.out.later hba).c3
  clear hba rx rb
  go_upto_region 4 with (at_builtin; first
    | (refine at_app0 rfl _ _ rfl W3.heap.size (some ⟨W3.heap.size, 0, none⟩) 0 rfl OM.out Fn.B Fn.d Fn.m ys rfl HLY.out RX.out (Nat.le_trans (Nat.le_add_right _ _) HM2.out) HBA.out.size ?_; intro A2 c2' W4 hown2 hb2; have B2 := Lib.hid (HBA.out.trans hb2); have O2 := Lib.hid hown2; clear hown2 hb2)
    | (refine at_app1 rfl _ _ rfl W3.heap.size A2 c2' Fn.m ys rfl O2.out A c m bs rfl HBS.out (RB.out _ B2.out) HM2.out B2.out.size ?_; intro A3 c3' W5 hown3 hb3; have B3 := Lib.hid (B2.out.trans hb3); have F5 := Lib.hid (HF3.out.later B3.out); have k5 := F5.out.c3; have l5 := F5.out.fz 3; have O3 := Lib.hid hown3; clear hown3 hb3))
  obtain ⟨Fc, hFc⟩ : ∃ Fc : RF, Fc = ⟨true, Fn.kept, Fn.A, Fn.n, Fn.c, A3, Fn.m + m, c3'⟩ := ⟨_, rfl⟩
  have SL := Lib.hid (SlN.own (N := N) (base := W3.heap.size) O3.out (fun g hg => Nat.lt_of_lt_of_le (HN.out g hg) HF3.out.bel.size))
  have hA3 : ∀ q, blk A3 = some q → W3.heap.size ≤ q := fun q hq => (World.ownsRow.lt O3.out q (by cases hh : A3 <;> simp_all [Value.ownBlock, blk])).1
  have HA3 := Lib.hid hA3
  have HG3 := Lib.hid (lt_of_block HF3.out.box)
  refine name_world (fun W => BoxR w w.heap.size D W ∧ BoxR w (w.heap.size + 1) zeroR W ∧ BoxF w g Fc W ∧ SlN W N A3 (Fn.m + m) c3' (ys ++ bs)) ⟨(HD3.out.later B3.out).setOther (p := ⟨g, 3, none⟩) HGB.out HGN.out _, (HR3.out.later B3.out).setOther (p := ⟨g, 3, none⟩) HGB.out HGN1.out _, F5.out.set HGB.out 3 _ (by rw [hFc]; rfl),
    SL.out.turnX (S := fun i => i = g) ⟨rfl, rfl, rfl, by simp [World.setCell], fun k hk hn => Below.heap_setCell _ _ _ _ hn⟩ HA3.out (fun i hi e => by have := HG3.out; omega)⟩ ?_
  rintro W6 ⟨hD6, hR6, hF6, hS6⟩
  have HD6 := Lib.hid hD6
  have HR6 := Lib.hid hR6
  have HF6 := Lib.hid hF6
  have HS6 := Lib.hid hS6
  have HFC := Lib.hid hFc
  clear hD6 hR6 hF6 hS6 hFc hA3 k3 k3' k5 l5 HD3 HR3
  go_upto_region 5 with (first | (refine wpList_load_row rfl 30 _ rfl g rfl 30 (rfA Fc) (0, 0) _ HF6.out.box Try.underlying30 rfl sizeF ?_) | (refine wp_storeF (F := Fc) rfl _ _ rfl hn4 rfl rfl HD6.out ?_))
  obtain ⟨E, hE⟩ : ∃ E, E = D.put n Fc := ⟨_, rfl⟩
  refine name_world (fun W => BoxR w w.heap.size E W ∧ BoxR w (w.heap.size + 1) zeroR W ∧ SlN W N A3 (Fn.m + m) c3' (ys ++ bs)) (by rw [hE]; exact ⟨setCells_put hn4 (Nat.le_refl _) HD6.out Fc, setCells_other (Nat.le_refl _) (by omega) HR6.out Fc, HS6.out.turnX (turn_setCells _ _ _ _) HA3.out (fun i hi e => by have := HF3.out.bel.size; have := HG3.out; have := HGL.out; omega)⟩) ?_
  rintro W7 ⟨hD7, hR7, hS7⟩
  have HD7 := Lib.hid hD7
  have HR7 := Lib.hid hR7
  have HS7 := Lib.hid (hS7.turnX (turn_row W7 (w.heap.size + 1) (rdA E)) HA3.out (fun i hi e => by have := HF3.out.bel.size; have := HG3.out; have := HGL.out; omega))
  have HE := Lib.hid hE
  clear hD7 hR7 hS7 HD6 HR6 HF6 hE
  go_wp2_with (first | (refine wp_loadR rfl _ rfl rfl HD7.out ?_) | (refine wp_storeR rfl _ _ rfl rfl rfl HR7.out ?_))
  refine bodyPost_ret (v := .agg (rdA E)) (results_oneR rfl rfl (HR7.out.fill (Nat.le_succ _) E)) rfl ⟨E, rfl, ?_, (HR7.out.fill (Nat.le_succ _) E).bel⟩
  rw [HMM.out, HE.out]
  have hI := H.out.below (HR7.out.fill (Nat.le_succ _) E).bel
  have hf := HFI.out.below (HR7.out.fill (Nat.le_succ _) E).bel
  have hs := HS7.out
  rw [HE.out] at hI hf hs
  refine hI.put hn4 ?_
  rw [HFC.out]
  refine ⟨rfl, hf.kept, ?_, ?_⟩
  · show SlN _ N Fn.A Fn.n Fn.c (((M.file (n : Int)).bs ++ bs).take (M.file (n : Int)).syn)
    rw [List.take_append_of_le_length HSY.out, ← HFC.out]
    exact hf.syn
  · show SlN _ N A3 (Fn.m + m) c3' (((M.file (n : Int)).bs ++ bs).drop (M.file (n : Int)).syn)
    rw [List.drop_append_of_le_length HSY.out, ← HYS.out, ← HFC.out]
    exact hs

end Go.Proofs.Ythpbgejjfdgpaaa
