/-
  TakeVec, TakeRow, TakeVersion.
-/
import Derived.Test.YthbpnngfdpdjkaaCodTakeW
namespace Go.Proofs.Ythbpnngfdpdjkaa
open Go.RowKit Go.Shelf
set_option linter.unusedVariables false
set_option linter.unusedSimpArgs false
set_option maxRecDepth 100000

set_option maxHeartbeats 400000 in
theorem takeVec_any (A : Option Addr) (c : Nat) (bs : List Int) (w : World) (h : Sl w A c bs) (ho : Oct bs) (hbig : bs.length ≤ 1000000) :
    Calls Try.prog 24 #[.slice A bs.length c] w (GivesT w (tkV bs)) := by
  have HC := Lib.hid (takeV_any A c bs w h ho hbig)
  obtain ⟨er, n, xs, hR⟩ : ∃ er n xs, tkV bs = (er, n, xs) := ⟨_, _, _, rfl⟩
  rw [hR] at HC ⊢
  generalize bs.length = m at *
  clear h ho hbig hR
  go_enter Try.func24, Try.ntmps24
  go_wp2_with fail
  refine HC.out.mono ?_
  rintro e w1 ⟨A1, c1, rfl, hv, hb⟩
  dsimp only at hv ⊢
  generalize hk : xs.length = k at *
  have HK := Lib.hid hk
  have HV := Lib.hid hv
  have HB := Lib.hid hb
  clear hv hb hk
  go_wp2
  go_ret3
  exact ⟨A1, c1, by rw [← HK.out]; rfl, HV.out, HB.out⟩

set_option maxHeartbeats 400000 in
theorem takeRow_any (A : Option Addr) (c : Nat) (bs : List Int) (w : World) (h : Sl w A c bs) (ho : Oct bs) (hbig : bs.length ≤ 1000000) :
    Calls Try.prog 26 #[.slice A bs.length c] w (GivesTR w (tkR bs)) := by
  have hb0 : Below w.heap.size w (w.alloc (.cells #[.int .u64 0, .slice none 0 0] 25)) := (Below.refl _ w).alloc (Nat.le_refl _) _
  have HC := Lib.hid (takeR_any A c bs _ (h.below hb0) ho hbig)
  have HB0 := Lib.hid hb0
  have HRes := Lib.hid (heap_alloc_new w (.cells #[.int .u64 0, .slice none 0 0] 25))
  obtain ⟨er, n, i, xs, hR⟩ : ∃ er n i xs, tkR bs = (er, n, i, xs) := ⟨_, _, _, _, rfl⟩
  rw [hR] at HC ⊢
  generalize bs.length = m at *
  clear h ho hbig hR hb0
  go_enter Try.func26, Try.ntmps26
  go_wp2_with fail
  refine HC.out.mono ?_
  rintro e w1 ⟨A1, c1, rfl, hv, hb⟩
  dsimp only at hv ⊢
  generalize hk : xs.length = k at *
  have HK := Lib.hid hk
  have HV := Lib.hid hv
  have F6 := (hb.block w.heap.size (by simp)).trans HRes.out
  have HB := Lib.hid (HB0.out.trans (hb.mono HB0.out.size))
  have HX := Lib.hid (set2 F6 (.int .u64 i) (.slice A1 k c1))
  have HOX := Lib.hid ((((Only.refl w.heap.size w1).set (p := ⟨w.heap.size, 0, none⟩) (.inl rfl) (.int .u64 i)).set (p := ⟨w.heap.size, 1, none⟩) (.inl rfl) (.slice A1 k c1)))
  have HOD := Lib.hid (odd2 F6)
  have q0 : w1.cell? ⟨w.heap.size, 0, none⟩ = some (.int .u64 0) := (cell_of_row _ _ 0 _ _ _ F6).trans rfl
  have k0 : w1.frozen? ⟨w.heap.size, 0, none⟩ = false := frozen_of_row _ _ _ _ _ F6
  have r0 := (cell_of_row _ _ 0 _ _ _ HX.out).trans rfl
  have q1 : w1.cell? ⟨w.heap.size, 1, none⟩ = some (.slice none 0 0) := (cell_of_row _ _ 1 _ _ _ F6).trans rfl
  have k1 : w1.frozen? ⟨w.heap.size, 1, none⟩ = false := frozen_of_row _ _ _ _ _ F6
  have r1 := (cell_of_row _ _ 1 _ _ _ HX.out).trans rfl
  clear hv hb hk F6
  go_wp2
  exact bodyPost_ret (v := .tuple #[.agg #[.int .u64 i, .slice A1 k c1], .int .i64 n, .int .i64 er]) (by simp [results, Try.results26, go_sem, r0, r1]) rfl ⟨A1, c1, by rw [← HK.out], HV.out.turned HOX.out HOD.out, HB.out.trans (below_of_only HOX.out (Nat.le_refl _) HB.out.size)⟩

set_option maxHeartbeats 400000 in
theorem takeVersion_any (A : Option Addr) (c : Nat) (bs : List Int) (w : World) (h : Sl w A c bs) (ho : Oct bs) (hbig : bs.length ≤ 1000000) :
    Calls Try.prog 29 #[.slice A bs.length c] w (GivesTW w (tkW bs)) := by
  have hb0 : Below w.heap.size w (w.alloc (.cells #[.int .u64 0, .int .u64 0, .slice none 0 0] 27)) := (Below.refl _ w).alloc (Nat.le_refl _) _
  have HC := Lib.hid (takeW_any A c bs _ (h.below hb0) ho hbig)
  have HB0 := Lib.hid hb0
  have HRes := Lib.hid (heap_alloc_new w (.cells #[.int .u64 0, .int .u64 0, .slice none 0 0] 27))
  obtain ⟨er, n, b, f, xs, hR⟩ : ∃ er n b f xs, tkW bs = (er, n, b, f, xs) := ⟨_, _, _, _, _, rfl⟩
  rw [hR] at HC ⊢
  generalize bs.length = m at *
  clear h ho hbig hR hb0
  go_enter Try.func29, Try.ntmps29
  go_wp2_with fail
  refine HC.out.mono ?_
  rintro e w1 ⟨A1, c1, rfl, hv, hb⟩
  dsimp only at hv ⊢
  generalize hk : xs.length = k at *
  have HK := Lib.hid hk
  have HV := Lib.hid hv
  have F6 := (hb.block w.heap.size (by simp)).trans HRes.out
  have HB := Lib.hid (HB0.out.trans (hb.mono HB0.out.size))
  have HX := Lib.hid (set3 F6 (.int .u64 b) (.int .u64 f) (.slice A1 k c1))
  have HOX := Lib.hid (((((Only.refl w.heap.size w1).set (p := ⟨w.heap.size, 0, none⟩) (.inl rfl) (.int .u64 b)).set (p := ⟨w.heap.size, 1, none⟩) (.inl rfl) (.int .u64 f)).set (p := ⟨w.heap.size, 2, none⟩) (.inl rfl) (.slice A1 k c1)))
  have HOD := Lib.hid (odd3 F6)
  have q0 : w1.cell? ⟨w.heap.size, 0, none⟩ = some (.int .u64 0) := (cell_of_row _ _ 0 _ _ _ F6).trans rfl
  have k0 : w1.frozen? ⟨w.heap.size, 0, none⟩ = false := frozen_of_row _ _ _ _ _ F6
  have r0 := (cell_of_row _ _ 0 _ _ _ HX.out).trans rfl
  have q1 : w1.cell? ⟨w.heap.size, 1, none⟩ = some (.int .u64 0) := (cell_of_row _ _ 1 _ _ _ F6).trans rfl
  have k1 : w1.frozen? ⟨w.heap.size, 1, none⟩ = false := frozen_of_row _ _ _ _ _ F6
  have r1 := (cell_of_row _ _ 1 _ _ _ HX.out).trans rfl
  have q2 : w1.cell? ⟨w.heap.size, 2, none⟩ = some (.slice none 0 0) := (cell_of_row _ _ 2 _ _ _ F6).trans rfl
  have k2 : w1.frozen? ⟨w.heap.size, 2, none⟩ = false := frozen_of_row _ _ _ _ _ F6
  have r2 := (cell_of_row _ _ 2 _ _ _ HX.out).trans rfl
  clear hv hb hk F6
  go_wp2
  exact bodyPost_ret (v := .tuple #[.agg #[.int .u64 b, .int .u64 f, .slice A1 k c1], .int .i64 n, .int .i64 er]) (by simp [results, Try.results29, go_sem, r0, r1, r2]) rfl ⟨A1, c1, by rw [← HK.out], HV.out.turned HOX.out HOD.out, HB.out.trans (below_of_only HOX.out (Nat.le_refl _) HB.out.size)⟩

end Go.Proofs.Ythbpnngfdpdjkaa
