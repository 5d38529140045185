/-
  What bytes begin with: the version's closure.
-/
import Derived.Test.YthbpnngfdpdjkaaCodTake
namespace Go.Proofs.Ythbpnngfdpdjkaa
open Go.RowKit Go.Shelf
set_option linter.unusedVariables false
set_option linter.unusedSimpArgs false
set_option maxRecDepth 100000

/-- A version is told, and the scan stands where it says. -/
def GivesW1 (w : World) (g B : Nat) (b f : Int) (r : List Int × St) (e : Ending) (w' : World) : Prop := ∃ A c, e = .returned (.agg #[.int .u64 b, .int .u64 f, .slice A r.1.length c]) ∧ Vec .i32 w' A c r.1 ∧ Sst w' g B r.2 ∧ Only g w w'

set_option maxHeartbeats 1000000 in
theorem tw1_any (w : World) (g B : Nat) (s : St) (h : Sst w g B s) (hB : B ≤ w.heap.size) :
    Calls Try.prog 49 #[.agg #[.pointer (some ⟨g, 0, none⟩)]] w (GivesW1 w g B (numV 8 s) (numV 8 (stepS 8 s)) (vecS (stepS 8 (stepS 8 s)))) := by
  obtain ⟨W, hW⟩ : ∃ W, W = (w.alloc (.cells #[.pointer (some ⟨g, 0, none⟩)] 68)).alloc (.cells #[.int .u64 0, .int .u64 0, .slice none 0 0] 27) := ⟨_, rfl⟩
  have hb : Below w.heap.size w W := by rw [hW]; exact ((Below.refl _ w).alloc (Nat.le_refl _) _).alloc (by simp) _
  have hz : W.heap.size = w.heap.size + 2 := by rw [hW]; simp
  have hbox : W.cell? ⟨w.heap.size, 0, none⟩ = some (.pointer (some ⟨g, 0, none⟩)) := by
    rw [hW]
    exact (((Below.refl _ _).alloc (Nat.le_refl _) _).cell (p := ⟨w.heap.size, 0, none⟩) (by simp)).trans (cell_laid w _ _ 0)
  have hres : W.heap[w.heap.size + 1]? = some (.cells #[.int .u64 0, .int .u64 0, .slice none 0 0] 27 (0, 0)) := by
    rw [hW]
    have := heap_alloc_new (w.alloc (.cells #[.pointer (some ⟨g, 0, none⟩)] 68)) (.cells #[.int .u64 0, .int .u64 0, .slice none 0 0] 27)
    rwa [World.size_alloc] at this
  have hgl := h.lt
  have HN := Lib.hid (show Calls Try.prog 47 #[.pointer (some ⟨g, 0, none⟩), .int .i64 8] W.drew fun e w' => e = .returned (.int .u64 (numV 8 s)) ∧ Sst w' g B (stepS 8 s) ∧ Only g W.drew w' from num_gen W.drew g B 8 s (h.below hb).drew (by omega) (by omega))
  have HN2 := Lib.hid (fun (V : World) (hV : Sst V g B (stepS 8 s)) => show Calls Try.prog 47 #[.pointer (some ⟨g, 0, none⟩), .int .i64 8] V fun e w' => e = .returned (.int .u64 (numV 8 (stepS 8 s))) ∧ Sst w' g B (stepS 8 (stepS 8 s)) ∧ Only g V w' from num_gen V g B 8 _ hV (by omega) (by omega))
  have HL := Lib.hid (fun (V : World) (hV : Sst V g B (stepS 8 (stepS 8 s))) (hs : W.heap.size ≤ V.heap.size) => rvec_any V g B _ hV (by omega))
  have HK := Lib.hid (fun (V : World) (hV : Only g W V) => show V.cell? ⟨w.heap.size, 0, none⟩ = some (.pointer (some ⟨g, 0, none⟩)) ∧ V.heap[w.heap.size + 1]? = some (.cells #[.int .u64 0, .int .u64 0, .slice none 0 0] 27 (0, 0)) from
    ⟨(World.cell?_of_block (a := ⟨w.heap.size, 0, none⟩) (hV.block w.heap.size (by omega) (by simp; omega))).trans hbox, (hV.block (w.heap.size + 1) (by omega) (by simp; omega)).trans hres⟩)
  have HB0 := Lib.hid hb
  have HB := Lib.hid (show B < w.heap.size + 1 by omega)
  have S0 := Lib.hid (show W.drew.cell? ⟨w.heap.size, 0, none⟩ = some (.pointer (some ⟨g, 0, none⟩)) from hbox)
  have HG := Lib.hid hgl
  have HW := Lib.hid hW
  have HZ := Lib.hid hz
  generalize numV 8 (stepS 8 s) = f0 at *
  generalize vecS (stepS 8 (stepS 8 s)) = R at *
  generalize stepS 8 (stepS 8 s) = s2 at *
  generalize numV 8 s = b0 at *
  generalize stepS 8 s = s1 at *
  clear h hb hz hbox hres hgl hW hB
  go_enter Try.func49, Try.ntmps49
  go_wp2
  rw [← HW.out]
  go_region_held3 (fun V => V.cell? ⟨w.heap.size, 0, none⟩ = some (.pointer (some ⟨g, 0, none⟩))) (first | exact S0.out | exact S3.out | exact S4.out | exact S5.out | exact S6.out) (first
    | (go_at_call 47; refine HN.out.mono ?_; rintro e w3 ⟨rfl, hs3, ho3⟩; have HO3 := Lib.hid ((Only.refl g W).drew.trans ho3); have S3 := Lib.hid (HK.out w3 HO3.out).1; have HS3 := Lib.hid hs3; clear hs3 ho3)
    | (go_at_call 47; refine (HN2.out w3 HS3.out).mono ?_; rintro e w5 ⟨rfl, hs5, ho5⟩; have HO5 := Lib.hid (HO3.out.trans ho5); have S5 := Lib.hid (HK.out w5 HO5.out).1; have HS5 := Lib.hid hs5; clear hs5 ho5)
    | (go_at_call 43; refine (HL.out w5 HS5.out HO5.out.size).mono ?_; rintro e w4 ⟨A4, c4, rfl, hv4, hs4, ho4⟩; have HO4 := Lib.hid (HO5.out.trans ho4); have S4 := Lib.hid (HK.out w4 HO4.out).1; have r4 := (HK.out w4 HO4.out).2; have HV4 := Lib.hid hv4; have HS4 := Lib.hid hs4; have q0 : w4.cell? ⟨w.heap.size + 1, 0, none⟩ = some (.int .u64 0) := (cell_of_row _ _ _ _ _ _ r4).trans rfl; have q1 : w4.cell? ⟨w.heap.size + 1, 1, none⟩ = some (.int .u64 0) := (cell_of_row _ _ _ _ _ _ r4).trans rfl; have q2 : w4.cell? ⟨w.heap.size + 1, 2, none⟩ = some (.slice none 0 0) := (cell_of_row _ _ _ _ _ _ r4).trans rfl; have k0 : w4.frozen? ⟨w.heap.size + 1, 0, none⟩ = false := frozen_of_row _ _ _ _ _ r4; have k1 : w4.frozen? ⟨w.heap.size + 1, 1, none⟩ = false := frozen_of_row _ _ _ _ _ r4; have k2 : w4.frozen? ⟨w.heap.size + 1, 2, none⟩ = false := frozen_of_row _ _ _ _ _ r4; have S6 := Lib.hid (show (((w4.setCell ⟨w.heap.size + 1, 0, none⟩ (.int .u64 b0)).setCell ⟨w.heap.size + 1, 1, none⟩ (.int .u64 f0)).setCell ⟨w.heap.size + 1, 2, none⟩ (.slice A4 R.1.length c4)).cell? ⟨w.heap.size, 0, none⟩ = some (.pointer (some ⟨g, 0, none⟩)) by rw [World.cell?_setCell_other _ _ _ _ (fun e => by have := congrArg Addr.block e; simp at this), World.cell?_setCell_other _ _ _ _ (fun e => by have := congrArg Addr.block e; simp at this), World.cell?_setCell_other _ _ _ _ (fun e => by have := congrArg Addr.block e; simp at this)]; exact S4.out); have HX := Lib.hid (set3 r4 (.int .u64 b0) (.int .u64 f0) (.slice A4 R.1.length c4)); have HOX := Lib.hid ((((Only.refl (w.heap.size + 1) w4).set (p := ⟨w.heap.size + 1, 0, none⟩) (.inl rfl) (.int .u64 b0)).set (p := ⟨w.heap.size + 1, 1, none⟩) (.inl rfl) (.int .u64 f0)).set (p := ⟨w.heap.size + 1, 2, none⟩) (.inl rfl) (.slice A4 R.1.length c4)); have HOD := Lib.hid (odd3 r4); have HZ4 := Lib.hid (((Only.refl g w).below HB0.out).trans HO4.out); clear hv4 hs4 ho4 r4))
  all_goals (
    have r0 := (cell_of_row _ _ 0 _ _ _ HX.out).trans rfl
    have r1 := (cell_of_row _ _ 1 _ _ _ HX.out).trans rfl
    have r2 := (cell_of_row _ _ 2 _ _ _ HX.out).trans rfl
    go_wp2
    exact bodyPost_ret (v := .agg #[.int .u64 b0, .int .u64 f0, .slice A4 R.1.length c4]) (by simp [results, Try.results49, go_sem, r0, r1, r2]) rfl ⟨A4, c4, rfl, HV4.out.turned HOX.out HOD.out, HS4.out.far HOX.out (by have := HB.out; omega) (by have := HG.out; omega), HZ4.out.other HOX.out (by omega)⟩)

end Go.Proofs.Ythbpnngfdpdjkaa
