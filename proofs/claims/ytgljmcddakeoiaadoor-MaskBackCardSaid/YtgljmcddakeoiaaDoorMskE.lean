/-
  below, single, Check, changes.
-/
import Derived.Test.YtgljmcddakeoiaaDoorMskD
namespace Go.Proofs.YtgljmcddakeoiaaDoor
open Go.RowKit Go.Shelf
set_option linter.unusedVariables false
set_option linter.unusedSimpArgs false
set_option maxRecDepth 100000

theorem mask_end {M : Mk} {s a b : Nat} {w w1 : World} (h : MRow w1 s a b) (hb : Below w.heap.size w w1) (hs : w.heap.size ≤ s) :
    (w1.cell? ⟨s, 0, none⟩ = some (.int .u64 a) ∧ w1.cell? ⟨s, 1, none⟩ = some (.int .u64 b) ∧ w1.frozen? ⟨s, 0, none⟩ = false ∧ w1.frozen? ⟨s, 1, none⟩ = false) ∧
    ((w1.setCell ⟨s, 0, none⟩ (.int .u64 M.1)).setCell ⟨s, 1, none⟩ (.int .u64 M.2)).cell? ⟨s, 0, none⟩ = some (.int .u64 M.1) ∧ ((w1.setCell ⟨s, 0, none⟩ (.int .u64 M.1)).setCell ⟨s, 1, none⟩ (.int .u64 M.2)).cell? ⟨s, 1, none⟩ = some (.int .u64 M.2) ∧ Below w.heap.size w ((w1.setCell ⟨s, 0, none⟩ (.int .u64 M.1)).setCell ⟨s, 1, none⟩ (.int .u64 M.2)) :=
  ⟨⟨h.cell0, h.cell1, h.frozen 0, h.frozen 1⟩, res2 M.1 M.2 h hb hs⟩

set_option maxHeartbeats 1000000 in
theorem below_any (n : Int) (w : World) (hn : -9223372036854775808 ≤ n ∧ n ≤ 9223372036854775807) :
    Calls Tryd.prog 26 #[.int .i64 n] w (GivesM w fun k => decide ((k : Int) < n)) := by
  obtain ⟨q, hq⟩ : ∃ q, q = min (max n 0) 96 := ⟨_, rfl⟩
  have hq0 : 0 ≤ q := by omega
  have hq1 : q ≤ 96 := by omega
  have hM : mk (fun k => decide ((k : Int) < q)) = mk (fun k => decide ((k : Int) < n)) := mk_congr (fun k hk => by simp; omega)
  obtain ⟨s, hs⟩ : ∃ s, s = w.heap.size := ⟨_, rfl⟩
  obtain ⟨W2, hW2⟩ : ∃ W2, W2 = (w.alloc (.cells #[.int .i64 q] 3)).alloc (.cells #[.int .u64 (0 : Nat), .int .u64 (0 : Nat)] 25) := ⟨_, rfl⟩
  have hB2 : Below w.heap.size w W2 := by rw [hW2]; exact ((Below.refl _ w).alloc (Nat.le_refl _) _).alloc (by simp) _
  have hX2 : Boxed W2 s 3 (.int .i64 q) := by rw [hW2, hs]; exact (Boxed.new w _ _).alloc _
  have hR2 : MRow W2 (s + 1) 0 0 := by
    rw [hW2, hs]; have := MRow.new (w.alloc (.cells #[.int .i64 q] 3)) 0 0
    rwa [World.size_alloc] at this
  have HC := Lib.hid (byWord_any 47 #[.pointer (some ⟨s, 0, none⟩)] (lowW (q - 64 * (0 : Nat))) (lowW (q - 64 * (1 : Nat))) W2 (lowW_lt _) (lowW_lt _) (fun v W => enters_of Tryd.func47 (by kernel_rfl) rfl _ _)
    (fun W hW => (below1_any 0 s q W (by omega) ((hW.block _ hX2.lt).trans hX2 |> Boxed.cell) ⟨hq0, hq1⟩).mono (fun e w2 ⟨h1, h2⟩ => ⟨h1, by rw [← h2]; exact Below.refl _ _⟩))
    (fun W hW => (below1_any 1 s q W (by omega) ((hW.block _ hX2.lt).trans hX2 |> Boxed.cell) ⟨hq0, hq1⟩).mono (fun e w2 ⟨h1, h2⟩ => ⟨h1, by rw [← h2]; exact Below.refl _ _⟩)))
  rw [below_mk, hM] at HC
  obtain ⟨M, hMd⟩ : ∃ M, M = mk (fun k => decide ((k : Int) < n)) := ⟨_, rfl⟩
  rw [← hMd] at HC
  have HM := Lib.hid hMd
  have HR := Lib.hid hR2
  have HB := Lib.hid hB2
  have HS := Lib.hid hs
  have HW2 := Lib.hid hW2
  have HSL := Lib.hid (show w.heap.size ≤ s + 1 by omega)
  have hqe : min (max n 0) 96 = q := hq.symm
  clear hM hMd hs hW2 hX2 hR2 hB2 hq
  go_enter Tryd.func26, Tryd.ntmps26
  go_wp2_with fail
  have hcall := HC.out
  rw [HW2.out, HS.out] at hcall
  refine hcall.mono ?_
  rintro e w1 ⟨rfl, hb1⟩
  rw [← HW2.out] at hb1
  obtain ⟨⟨c0, c1, f0, f1⟩, e0, e1, hbE⟩ := mask_end (M := M) (HR.out.below hb1 HR.out.lt) (HB.out.trans (hb1.mono HB.out.size)) HSL.out
  rw [HS.out] at c0 c1 f0 f1 e0 e1 hbE
  have HBE := Lib.hid hbE
  clear hbE hb1 hcall
  dsimp only [mv]
  go_wp2
  refine bodyPost_ret (v := .agg #[.int .u64 M.1, .int .u64 M.2]) (by simp [results, Tryd.results26, go_sem, e0, e1]) rfl ?_
  exact ⟨by rw [← HM.out]; rfl, HBE.out⟩

theorem single_mk (n : Int) : mk (fun k => has (mk fun k => decide ((k : Int) < n + 1)) k && !has (mk fun k => decide ((k : Int) < n)) k) = mk (fun k => decide ((k : Int) = n)) :=
  mk_congr (fun k hk => by rw [has_mk, has_mk, Bool.eq_iff_iff]; simp [hk]; omega)

set_option maxHeartbeats 1000000 in
theorem single_any (n : Int) (w : World) (hn : 0 ≤ n ∧ n < 96) :
    Calls Tryd.prog 18 #[.int .i64 n] w (GivesM w fun k => decide ((k : Int) = n)) := by
  obtain ⟨s, hs⟩ : ∃ s, s = w.heap.size := ⟨_, rfl⟩
  obtain ⟨W1, hW1⟩ : ∃ W1, W1 = w.alloc (.cells #[.int .u64 (0 : Nat), .int .u64 (0 : Nat)] 25) := ⟨_, rfl⟩
  have hB1 : Below w.heap.size w W1 := by rw [hW1]; exact (Below.refl _ w).alloc (Nat.le_refl _) _
  have hR1 : MRow W1 s 0 0 := by rw [hW1, hs]; exact MRow.new w 0 0
  obtain ⟨M1, hM1⟩ : ∃ M1, M1 = mk (fun k => decide ((k : Int) < n + 1)) := ⟨_, rfl⟩
  obtain ⟨M0, hM0⟩ : ∃ M0, M0 = mk (fun k => decide ((k : Int) < n)) := ⟨_, rfl⟩
  obtain ⟨M, hMd⟩ : ∃ M, M = mk (fun k => decide ((k : Int) = n)) := ⟨_, rfl⟩
  have HC1 := Lib.hid (fun W => show Calls Tryd.prog 26 #[.int .i64 (n + 1)] W (fun e w' => e = .returned (mv M1) ∧ Below W.heap.size W w') from by rw [hM1]; exact below_any (n + 1) W (by omega))
  have HC0 := Lib.hid (fun W => show Calls Tryd.prog 26 #[.int .i64 n] W (fun e w' => e = .returned (mv M0) ∧ Below W.heap.size W w') from by rw [hM0]; exact below_any n W (by omega))
  have HC := Lib.hid (fun W => show Calls Tryd.prog 25 #[mv M1, mv M0] W (fun e w' => e = .returned (mv M) ∧ Below W.heap.size W w') from by
    have := minus_any M1 M0 W (by rw [hM1]; exact mk_fine _) (by rw [hM0]; exact mk_fine _)
    rw [hM1, hM0] at this ⊢
    unfold GivesM at this
    rw [single_mk, ← hMd] at this
    exact this)
  have HM := Lib.hid hMd
  have HR := Lib.hid hR1
  have HB := Lib.hid hB1
  have HS := Lib.hid hs
  have HW1 := Lib.hid hW1
  have HSL := Lib.hid (show w.heap.size ≤ s by omega)
  clear hM1 hM0 hMd hs hW1 hB1 hR1
  go_enter Tryd.func18, Tryd.ntmps18
  go_wp2_with fail
  refine (HC1.out _).mono ?_
  rintro e w2 ⟨rfl, hb2⟩
  have HB2 := Lib.hid hb2
  clear hb2
  go_wp2_with fail
  refine (HC0.out _).mono ?_
  rintro e w3 ⟨rfl, hb3⟩
  have HB3 := Lib.hid (HB2.out.trans (hb3.mono HB2.out.size))
  clear hb3
  go_wp2_with fail
  refine (HC.out _).mono ?_
  rintro e w4 ⟨rfl, hb4⟩
  have hb5 := HB3.out.trans (hb4.mono HB3.out.size)
  have HW := HW1.out
  rw [show w.alloc (.cells #[.int .u64 0, .int .u64 0] 25) = W1 from HW.symm] at hb5
  obtain ⟨⟨c0, c1, f0, f1⟩, e0, e1, hbE⟩ := mask_end (M := M) (HR.out.below hb5 HR.out.lt) (HB.out.trans (hb5.mono HB.out.size)) HSL.out
  rw [HS.out] at c0 c1 f0 f1 e0 e1 hbE
  have HBE := Lib.hid hbE
  clear hbE hb4 hb5 HW
  dsimp only [mv]
  go_wp2
  refine bodyPost_ret (v := .agg #[.int .u64 M.1, .int .u64 M.2]) (by simp [results, Tryd.results18, go_sem, e0, e1]) rfl ?_
  exact ⟨by rw [← HM.out]; rfl, HBE.out⟩

end Go.Proofs.YtgljmcddakeoiaaDoor
