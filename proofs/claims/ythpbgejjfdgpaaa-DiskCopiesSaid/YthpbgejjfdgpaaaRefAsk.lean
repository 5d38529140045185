/-
  The document's asked, All, Used.
-/
import Derived.Test.YthpbgejjfdgpaaaRefMeet
import Derived.Deep.RegionHeld3
namespace Go.Proofs.Ythpbgejjfdgpaaa
open Go.RowKit
set_option linter.unusedVariables false
set_option maxRecDepth 100000

theorem BoxR.file0 {w W : World} {b : Nat} {D : RD} (h : BoxR w b D W) {k : Nat} (hk : k < 4) : W.cell? ⟨b, 1 + k * 4, none⟩ = some (.bool (D.file k).there) := by
  have : k = 0 ∨ k = 1 ∨ k = 2 ∨ k = 3 := by omega
  rcases this with rfl | rfl | rfl | rfl <;> exact (h.cell _).trans rfl
theorem BoxR.file1 {w W : World} {b : Nat} {D : RD} (h : BoxR w b D W) {k : Nat} (hk : k < 4) : W.cell? ⟨b, 1 + k * 4 + 1, none⟩ = some (.bool (D.file k).kept) := by
  have : k = 0 ∨ k = 1 ∨ k = 2 ∨ k = 3 := by omega
  rcases this with rfl | rfl | rfl | rfl <;> exact (h.cell _).trans rfl
theorem BoxR.file2 {w W : World} {b : Nat} {D : RD} (h : BoxR w b D W) {k : Nat} (hk : k < 4) : W.cell? ⟨b, 1 + k * 4 + 2, none⟩ = some (.slice (D.file k).A (D.file k).n (D.file k).c) := by
  have : k = 0 ∨ k = 1 ∨ k = 2 ∨ k = 3 := by omega
  rcases this with rfl | rfl | rfl | rfl <;> exact (h.cell _).trans rfl
theorem BoxR.file3 {w W : World} {b : Nat} {D : RD} (h : BoxR w b D W) {k : Nat} (hk : k < 4) : W.cell? ⟨b, 1 + k * 4 + 3, none⟩ = some (.slice (D.file k).B (D.file k).m (D.file k).d) := by
  have : k = 0 ∨ k = 1 ∨ k = 2 ∨ k = 3 := by omega
  rcases this with rfl | rfl | rfl | rfl <;> exact (h.cell _).trans rfl

/-- Why something is refused of a file that has to be there. -/
def RD.ask (D : RD) (k : Int) : Int := if D.dead then 9 else if Name k then (if (D.file k.toNat).there then 0 else 4) else 120

set_option maxHeartbeats 2000000 in
theorem asked_ref (D : RD) (k : Int) (w : World) : Calls Try.prog 75 #[.agg (rdA D), .int .i64 k] w fun e w' => e = .returned (.int .i64 (D.ask k)) ∧ Below w.heap.size w w' := by
  obtain ⟨W1, hW1⟩ : ∃ W1, W1 = w.alloc (.cells (rdA D) 33) := ⟨_, rfl⟩
  have hD : BoxR w w.heap.size D W1 := by rw [hW1]; exact BoxR.new w D
  have HW1 := Lib.hid hW1
  have HD := Lib.hid hD
  have y20 := hD.c20
  clear hW1 hD
  go_enter Try.func75, Try.ntmps75
  go_upto_region 1 with fail
  rw [← HW1.out]
  rcases hd : D.dead with _ | _
  · rw [hd] at y20
    by_cases hn : Name k
    · obtain ⟨n, hk⟩ : ∃ n : Nat, k = (n : Int) := ⟨k.toNat, by have := hn.1; omega⟩
      subst hk
      have hn4 : n < 4 := by have := hn.2; omega
      have c0 := HD.out.file0 hn4
      have z0 : (0 : Int) ≤ (n : Int) := by omega
      have z1 : (n : Int) < 4 := by omega
      have ha : Hid (D.ask (n : Int) = if (D.file n).there then 0 else 4) := by unfold Hid RD.ask; rw [hd, if_neg (by simp), if_pos hn]; rfl
      rcases ht : (D.file n).there with _ | _
      · rw [ht] at c0
        go_wp2_with (go_at_call 77; refine (name_ref _ _).mono ?_; rw [show decide (Name (n : Int)) = true from decide_eq_true hn]; rintro e w' ⟨rfl, rfl⟩)
        go_ret
        rw [ha.out, ht]
        exact ⟨rfl, HD.out.bel⟩
      · rw [ht] at c0
        go_wp2_with (go_at_call 77; refine (name_ref _ _).mono ?_; rw [show decide (Name (n : Int)) = true from decide_eq_true hn]; rintro e w' ⟨rfl, rfl⟩)
        go_ret
        rw [ha.out, ht]
        exact ⟨rfl, HD.out.bel⟩
    · have ha : Hid (D.ask k = 120) := by unfold Hid RD.ask; rw [hd, if_neg (by simp), if_neg hn]
      go_wp2_with (go_at_call 77; refine (name_ref _ _).mono ?_; rw [show decide (Name k) = false from decide_eq_false hn]; rintro e w' ⟨rfl, rfl⟩)
      go_ret
      rw [ha.out]
      exact ⟨rfl, HD.out.bel⟩
  · rw [hd] at y20
    have ha : Hid (D.ask k = 9) := by unfold Hid RD.ask; rw [hd, if_pos rfl]
    go_wp2
    go_ret
    rw [ha.out]
    exact ⟨rfl, HD.out.bel⟩

/-- Bytes in memory of the call's own. -/
def GivesBs (w : World) (bs : List Int) (e : Ending) (w' : World) : Prop := ∃ A c, e = .returned (.slice A bs.length c) ∧ w'.ownsRow w.heap.size 5 1 (.slice A bs.length c) bs.length (bs.map (Value.int .u8)) ∧ Below w.heap.size w w'

/-- 'append([]byte{}, x...)', as a step of a region that draws, and of a plain one. -/
theorem step_app0 {w : World} {ops : Array Oper} {o : Oper} {a : Act} {K : Act → World → Prop} {Q : Exit → Act → World → Prop} {E : Prop} (hgd : o.guard = none) (s x : Operand)
    (ho : o.op = .call { callee := .builtin .append, args := #[s, x], argTypes := #[28, 28] })
    (base : Nat) (A0 : Option Addr) (c0 : Nat) (hs : a.eval s = .slice A0 0 c0) (hown : w.ownsRow base 5 1 (.slice A0 0 c0) 0 [])
    (A : Option Addr) (c m : Nat) (bs : List Int) (hx : a.eval x = .slice A m c) (hm : bs.length = m) (hr : Rd w w.heap.size A bs)
    (hbig : m ≤ 140737488355328) (hbase : base ≤ w.heap.size)
    (h : ∀ A1 c1 w', w'.ownsRow base 5 1 (.slice A1 m c1) m (bs.map (Value.int .u8)) → Below base w w' → K (a.put o.dst (.slice A1 m c1)) w') :
    if Region.wanted o (yielded ops a.tmps) = true then Oper.wp Try.prog o a w K Q else E :=
  step_app hgd s x ho base A0 c0 0 [] hs hown A c m bs hx hm hr (by omega) hbase (fun A1 c1 w' h1 h2 _ => by
    simp only [Nat.zero_add, List.nil_append] at h1 ⊢
    exact h A1 c1 w' h1 ((Below.refl _ w).grown h2 hbase (fun k hk => (World.ownsRow.lt hown k (by cases hh : A0 <;> simp_all [Value.ownBlock, blk])).1)))
theorem step_app1 {w : World} {ops : Array Oper} {o : Oper} {a : Act} {K : Act → World → Prop} {Q : Exit → Act → World → Prop} {E : Prop} (hgd : o.guard = none) (s x : Operand)
    (ho : o.op = .call { callee := .builtin .append, args := #[s, x], argTypes := #[28, 28] })
    (base : Nat) (A0 : Option Addr) (c0 n : Nat) (xs : List Int) (hs : a.eval s = .slice A0 n c0) (hown : w.ownsRow base 5 1 (.slice A0 n c0) n (xs.map (Value.int .u8)))
    (A : Option Addr) (c m : Nat) (bs : List Int) (hx : a.eval x = .slice A m c) (hm : bs.length = m) (hr : Rd w w.heap.size A bs)
    (hbig : n + m ≤ 140737488355328) (hbase : base ≤ w.heap.size)
    (h : ∀ A1 c1 w', w'.ownsRow base 5 1 (.slice A1 (n + m) c1) (n + m) ((xs ++ bs).map (Value.int .u8)) → Below base w w' → K (a.put o.dst (.slice A1 (n + m) c1)) w') :
    if Region.wanted o (yielded ops a.tmps) = true then Oper.wp Try.prog o a w K Q else E :=
  step_app hgd s x ho base A0 c0 n (xs.map (Value.int .u8)) hs hown A c m bs hx hm hr hbig hbase (fun A1 c1 w' h1 h2 _ => by
    rw [← List.map_append] at h1
    exact h A1 c1 w' h1 ((Below.refl _ w).grown h2 hbase (fun k hk => (World.ownsRow.lt hown k (by cases hh : A0 <;> simp_all [Value.ownBlock, blk])).1)))

set_option maxHeartbeats 2000000 in
theorem all_ref (F : RF) (xs ys : List Int) (w : World) (hx : Rd w w.heap.size F.A xs) (hy : Rd w w.heap.size F.B ys) (lx : xs.length = F.n) (ly : ys.length = F.m) (hb : F.n + F.m ≤ 140737488355328) :
    Calls Try.prog 18 #[.agg (rfA F)] w (GivesBs w (xs ++ ys)) := by
  obtain ⟨W1, hW1⟩ : ∃ W1, W1 = w.alloc (.cells (rfA F) 30) := ⟨_, rfl⟩
  have hb1 : Below w.heap.size w W1 := by rw [hW1]; exact (Below.refl _ w).alloc (Nat.le_refl _) _
  have hx1 : W1.heap[w.heap.size]? = some (.cells (rfA F) 30 (0, 0)) := by rw [hW1]; exact heap_alloc_new w _
  have c2 : W1.cell? ⟨w.heap.size, 2, none⟩ = some (.slice F.A F.n F.c) := by simp [World.cell?, hx1]
  have c3 : W1.cell? ⟨w.heap.size, 3, none⟩ = some (.slice F.B F.m F.d) := by simp [World.cell?, hx1]
  have HW1 := Lib.hid hW1
  have HB1 := Lib.hid hb1
  have HRX := Lib.hid hx
  have HRY := Lib.hid hy
  have LX := Lib.hid lx
  have LY := Lib.hid ly
  clear hW1 hb1 hx1 hx hy lx ly
  go_enter Try.func18, Try.ntmps18
  go_upto_region 1 with fail
  rw [← HW1.out]
  have OM := Lib.hid (show (W1.drew.alloc (.cells #[] 5)).ownsRow W1.heap.size 5 1 (.slice (some ⟨W1.heap.size, 0, none⟩) 0 0) 0 [] from World.ownsRow_made W1.drew #[] 0 (Nat.le_refl _) (Nat.zero_le _) rfl)
  have hdr : Below W1.heap.size W1 W1.drew := ⟨rfl, rfl, rfl, Nat.le_refl _, fun _ _ => rfl⟩
  have hba : Below W1.heap.size W1 (W1.drew.alloc (.cells #[] 5)) := hdr.alloc (Nat.le_refl _) _
  have HBA := Lib.hid hba
  have RX := Lib.hid (show Rd (W1.drew.alloc (.cells #[] 5)) (W1.drew.alloc (.cells #[] 5)).heap.size F.A xs from ((HRX.out.below HB1.out).wide HB1.out.size |>.below hba).wide hba.size)
  have gl := Lib.hid (World.block_lt_of_cell? _ _ c2)
  clear hba hdr
  go_region_held3 (fun W => W.cell? ⟨w.heap.size, 2, none⟩ = some (.slice F.A F.n F.c) ∧ W.cell? ⟨w.heap.size, 3, none⟩ = some (.slice F.B F.m F.d)) (first | exact ⟨c2, c3⟩ | exact ⟨(HBA.out.cell (p := ⟨w.heap.size, 2, none⟩) gl.out).trans c2, (HBA.out.cell (p := ⟨w.heap.size, 3, none⟩) gl.out).trans c3⟩ | exact ⟨d2, d3⟩ | exact ⟨e2, e3⟩) (first
    | (refine step_app0 (by rfl) _ _ (by rfl) W1.heap.size (some ⟨W1.heap.size, 0, none⟩) 0 (by rfl) OM.out F.A F.c F.n xs (by rfl) LX.out RX.out (by omega) HBA.out.size ?_; intro A2 c2' W2 hown2 hb2; have B2 := Lib.hid (HBA.out.trans hb2); have d2 := (B2.out.cell (p := ⟨w.heap.size, 2, none⟩) gl.out).trans c2; have d3 := (B2.out.cell (p := ⟨w.heap.size, 3, none⟩) gl.out).trans c3; have O2 := Lib.hid hown2; have RY := Lib.hid (((HRY.out.below HB1.out).wide HB1.out.size |>.below B2.out).wide B2.out.size); clear hown2 hb2)
    | (refine step_app1 (by rfl) _ _ (by rfl) W1.heap.size A2 c2' F.n xs (by rfl) O2.out F.B F.d F.m ys (by rfl) LY.out RY.out hb B2.out.size ?_; intro A3 c3' W3 hown3 hb3; have B3 := Lib.hid (B2.out.trans hb3); have e2 := (B3.out.cell (p := ⟨w.heap.size, 2, none⟩) gl.out).trans c2; have e3 := (B3.out.cell (p := ⟨w.heap.size, 3, none⟩) gl.out).trans c3; have O3 := Lib.hid hown3; clear hown3 hb3))
  go_wp2
  go_ret
  have hl : (xs ++ ys).length = F.n + F.m := by rw [List.length_append, LX.out, LY.out]
  refine ⟨A3, c3', by rw [hl]; rfl, ?_, HB1.out.trans (B3.out.mono HB1.out.size)⟩
  rw [hl]
  exact row_base O3.out HB1.out.size

end Go.Proofs.Ythpbgejjfdgpaaa
