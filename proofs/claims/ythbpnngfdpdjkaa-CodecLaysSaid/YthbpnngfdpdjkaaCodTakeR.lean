/-
  What bytes begin with: take of a row.
-/
import Derived.Test.YthbpnngfdpdjkaaCodTake2
namespace Go.Proofs.Ythbpnngfdpdjkaa
open Go.RowKit Go.Shelf
set_option linter.unusedVariables false
set_option linter.unusedSimpArgs false
set_option maxRecDepth 100000

/-- What a call answers that takes one off. -/
def GivesTR (w : World) (r : Int × Int × Int × List Int) (e : Ending) (w' : World) : Prop := ∃ A c, e = .returned (.tuple #[.agg #[.int .u64 r.2.2.1, .slice A r.2.2.2.length c], .int .i64 r.2.1, .int .i64 r.1]) ∧ Vec .i32 w' A c r.2.2.2 ∧ Below w.heap.size w w'
def tkR (bs : List Int) : Int × Int × Int × List Int :=
  if (vecS (stepS 8 (bs.take 33, 0, false))).2.2.2 = true then (7, 0, 0, []) else if right (vecS (stepS 8 (bs.take 33, 0, false))).1 = true then (0, (vecS (stepS 8 (bs.take 33, 0, false))).2.2.1, numV 8 (bs.take 33, 0, false), (vecS (stepS 8 (bs.take 33, 0, false))).1) else (172, 0, 0, [])

set_option maxHeartbeats 2000000 in
theorem takeR_any (A : Option Addr) (c : Nat) (bs : List Int) (w : World) (h : Sl w A c bs) (ho : Oct bs) (hbig : bs.length ≤ 1000000) :
    Calls Try.prog 45 #[.slice A bs.length c, .func (.func 12) #[] #[], .func (.func 46) #[] #[]] w (GivesTR w (tkR bs)) := by
  have hroom := h.room
  have hmost := h.most
  obtain ⟨W0, hW0⟩ : ∃ W0, W0 = w.alloc (.cells #[.int .u64 0, .slice none 0 0] 25) := ⟨_, rfl⟩
  have hb0 : Below w.heap.size w W0 := by rw [hW0]; exact (Below.refl _ w).alloc (Nat.le_refl _) _
  have hres : W0.heap[w.heap.size]? = some (.cells #[.int .u64 0, .slice none 0 0] 25 (0, 0)) := by rw [hW0]; exact heap_alloc_new w _
  have hz0 : W0.heap.size = w.heap.size + 1 := by rw [hW0]; simp
  have HRd := Lib.hid (read_n A c (bs.take 33) W0 ((h.below hb0).begin 33) (ho.take 33) (by simp; omega))
  obtain ⟨m, hm⟩ : ∃ m, m = (bs.take 33).length := ⟨_, rfl⟩
  have HR := Lib.hid (show tkR bs = if (vecS (stepS 8 (bs.take 33, 0, false))).2.2.2 = true then (7, 0, 0, []) else if right (vecS (stepS 8 (bs.take 33, 0, false))).1 = true then (0, (vecS (stepS 8 (bs.take 33, 0, false))).2.2.1, numV 8 (bs.take 33, 0, false), (vecS (stepS 8 (bs.take 33, 0, false))).1) else (172, 0, 0, []) from rfl)
  have hml : m = min 33 bs.length := by rw [hm]; simp
  generalize tkR bs = R at *
  generalize bs.take 33 = l at *
  obtain ⟨xs, s', hV⟩ : ∃ xs s', vecS (stepS 8 (l, 0, false)) = (xs, s') := ⟨_, _, rfl⟩
  obtain ⟨i, hi⟩ : ∃ i, i = numV 8 (l, 0, false) := ⟨_, rfl⟩
  rw [hV, ← hi] at HR
  rw [← hm] at HRd
  rw [hW0] at HRd
  generalize bs.length = n at *
  have hmin : min (n : Int) 33 = (m : Int) := by omega
  have hmn : m ≤ n := by omega
  have HV := Lib.hid hV
  have Hi := Lib.hid hi
  have HM := Lib.hid hm
  have HW0 := Lib.hid hW0
  have HB0 := Lib.hid hb0
  have HRes := Lib.hid hres
  have HZ0 := Lib.hid hz0
  clear h ho hm hml hV hW0 hb0 hres hz0 hi
  go_enter Try.func45, Try.ntmps45
  go_wp2_with fail
  refine HRd.out.mono ?_
  rw [← HW0.out]
  rintro e w1 ⟨g, A1, c1, rfl, hs1, hg1, hb1, hnew⟩
  have HS1 := Lib.hid (read_st hs1 hnew)
  have HG := Lib.hid hg1
  have HB1 := Lib.hid (HB0.out.trans (hb1.mono HB0.out.size))
  have HRes1 := Lib.hid ((hb1.block w.heap.size (by have := HZ0.out; omega)).trans HRes.out)
  have hbx : Below w1.heap.size w1 (w1.alloc (.cells #[.pointer (some ⟨g, 0, none⟩)] 68)) := (Below.refl _ w1).alloc (Nat.le_refl _) _
  have HT := Lib.hid (tr1_any _ g w1.heap.size (l, 0, false) (HS1.out.below hbx) hbx.size)
  rw [← Hi.out, HV.out] at HT
  have hcx := cell_laid w1 #[.pointer (some ⟨g, 0, none⟩)] 68 0
  have hgl := HS1.out.lt
  have hlt1 := lt_of_block HRes1.out
  have HCX := Lib.hid (fun (V : World) (hV : Only g (w1.alloc (.cells #[.pointer (some ⟨g, 0, none⟩)] 68)) V) => show V.cell? ⟨w1.heap.size, 0, none⟩ = some (.pointer (some ⟨g, 0, none⟩)) from (World.cell?_of_block (a := ⟨w1.heap.size, 0, none⟩) (hV.block w1.heap.size (by simp) (by simp; omega))).trans hcx)
  have HBX := Lib.hid (fun (V : World) (hV : Only g (w1.alloc (.cells #[.pointer (some ⟨g, 0, none⟩)] 68)) V) => show Below w.heap.size w V from (HB1.out.trans (hbx.mono HB1.out.size)).trans (below_of_only hV (by have := HG.out; have := HZ0.out; omega) (Nat.le_trans HB1.out.size hbx.size)))
  have HRX := Lib.hid (fun (V : World) (hV : Only g (w1.alloc (.cells #[.pointer (some ⟨g, 0, none⟩)] 68)) V) => show V.heap[w.heap.size]? = some (.cells #[.int .u64 0, .slice none 0 0] 25 (0, 0)) from (hV.block w.heap.size (by simp; omega) (by have := HG.out; have := HZ0.out; simp; omega)).trans ((hbx.block w.heap.size hlt1).trans HRes1.out))
  clear hbx hcx hgl hlt1 hs1 hg1 hb1 hnew
  go_wp2_with fail
  refine HT.out.mono ?_
  rintro e w3 ⟨A3, c3, rfl, hv, hs, ho⟩
  dsimp only at hv hs
  obtain ⟨V, hVV⟩ : ∃ V, V = (w3.alloc (.cells #[.int .u64 i, .slice A3 xs.length c3] 25)).alloc (.cells #[.int .u64 0, .slice none 0 0] 25) := ⟨_, rfl⟩
  have hb3 : Below w3.heap.size w3 V := by rw [hVV]; exact ((Below.refl _ w3).alloc (Nat.le_refl _) _).alloc (by simp) _
  have F10 : V.heap[w3.heap.size]? = some (.cells #[.int .u64 i, .slice A3 xs.length c3] 25 (0, 0)) := by
    rw [hVV]; exact (Below.heap_alloc _ _ _ (by simp)).trans (heap_alloc_new w3 _)
  have F11 : V.heap[w3.heap.size + 1]? = some (.cells #[.int .u64 0, .slice none 0 0] 25 (0, 0)) := by
    rw [hVV]
    have := heap_alloc_new (w3.alloc (.cells #[.int .u64 i, .slice A3 xs.length c3] 25)) (.cells #[.int .u64 0, .slice none 0 0] 25)
    rwa [World.size_alloc] at this
  have hs3 := hs.below hb3
  have hbd := hs3.bad
  have hpl := hs3.place
  have hv3 := HCX.out w3 ho
  have hcx : V.cell? ⟨w1.heap.size, 0, none⟩ = some (.pointer (some ⟨g, 0, none⟩)) := (hb3.cell (p := ⟨w1.heap.size, 0, none⟩) (World.block_lt_of_cell? w3 _ hv3)).trans hv3
  have hcxE := hcx
  rw [hVV] at hcxE
  have hr3 := HRX.out w3 ho
  have F6 : V.heap[w.heap.size]? = some (.cells #[.int .u64 0, .slice none 0 0] 25 (0, 0)) := (hb3.block w.heap.size (lt_of_block hr3)).trans hr3
  have hBV : Below w.heap.size w V := (HBX.out w3 ho).trans (hb3.mono (HBX.out w3 ho).size)
  have hv := hv.below hb3
  have HC := Lib.hid (checkRow_any i A3 c3 xs V hv)
  have HVX := Lib.hid hv
  have HSL := Lib.hid hs3.lt
  have HLT3 := Lib.hid (show w.heap.size < w3.heap.size from lt_of_block hr3)
  have HBV := Lib.hid hBV
  have HVV := Lib.hid hVV
  have HF6 := Lib.hid F6
  have HF10 := Lib.hid F10
  have HF11 := Lib.hid F11
  have p0 : V.cell? ⟨w3.heap.size, 0, none⟩ = some (.int .u64 i) := (cell_of_row _ _ 0 _ _ _ F10).trans rfl
  have z0 : V.cell? ⟨w3.heap.size + 1, 0, none⟩ = some (.int .u64 0) := (cell_of_row _ _ 0 _ _ _ F11).trans rfl
  have q0 : V.cell? ⟨w.heap.size, 0, none⟩ = some (.int .u64 0) := (cell_of_row _ _ 0 _ _ _ F6).trans rfl
  have k0 : V.frozen? ⟨w.heap.size, 0, none⟩ = false := frozen_of_row _ _ _ _ _ F6
  have p1 : V.cell? ⟨w3.heap.size, 1, none⟩ = some (.slice A3 xs.length c3) := (cell_of_row _ _ 1 _ _ _ F10).trans rfl
  have z1 : V.cell? ⟨w3.heap.size + 1, 1, none⟩ = some (.slice none 0 0) := (cell_of_row _ _ 1 _ _ _ F11).trans rfl
  have q1 : V.cell? ⟨w.heap.size, 1, none⟩ = some (.slice none 0 0) := (cell_of_row _ _ 1 _ _ _ F6).trans rfl
  have k1 : V.frozen? ⟨w.heap.size, 1, none⟩ = false := frozen_of_row _ _ _ _ _ F6
  clear hv hs ho HCX HBX HT HRX F6 F10 F11 hs3 hv3 hr3 hBV hb3 hVV
  obtain ⟨sl, pl, bd⟩ := s'
  dsimp only at hbd hpl HR ⊢
  cases bd with
  | true =>
    have HR2 := Lib.hid (show R = (7, 0, 0, []) by rw [HR.out]; rfl)
    generalize xs.length = k at *
    have HX := Lib.hid (set2 HF6.out (.int .u64 0) (.slice none 0 0))
    have HOX := Lib.hid ((((Only.refl w.heap.size V).set (p := ⟨w.heap.size, 0, none⟩) (.inl rfl) (.int .u64 0)).set (p := ⟨w.heap.size, 1, none⟩) (.inl rfl) (.slice none 0 0)))
    have r0 := (cell_of_row _ _ 0 _ _ _ HX.out).trans rfl
    have r1 := (cell_of_row _ _ 1 _ _ _ HX.out).trans rfl
    go_wp2_with (go_at_call 56; rw [← HVV.out]; refine (bad_any _ g true hbd).mono ?_; rintro e w' ⟨rfl, rfl⟩)
    exact bodyPost_ret (v := .tuple #[.agg #[.int .u64 0, .slice none 0 0], .int .i64 0, .int .i64 7]) (by simp [results, Try.results45, go_sem, r0, r1]) rfl (by rw [HR2.out]; exact ⟨none, 0, rfl, Vec.nil _ _, HBV.out.trans (below_of_only HOX.out (Nat.le_refl _) HBV.out.size)⟩)
  | false =>
    simp only [Bool.false_eq_true, if_false] at HR
    have HCE := Lib.hid (show rowE xs = if right xs = true then 0 else 170 from rfl)
    rw [HCE.out] at HC
    cases hr : right xs with
    | false =>
      rw [hr] at HC HR
      simp only [Bool.false_eq_true, if_false] at HR HC
      generalize xs.length = k at *
      clear hr HCE
      go_wp2_with (go_at_call 56; rw [← HVV.out]; refine (bad_any _ g false hbd).mono ?_; rintro e w' ⟨rfl, rfl⟩)
      refine HC.out.mono ?_
      rintro e w4 ⟨rfl, hb4⟩
      have F6 := (hb4.block w.heap.size (lt_of_block HF6.out)).trans HF6.out
      have F11 := (hb4.block (w3.heap.size + 1) (lt_of_block HF11.out)).trans HF11.out
      have HB4 := Lib.hid (HBV.out.trans (hb4.mono HBV.out.size))
      have HX := Lib.hid (set2 F6 (.int .u64 0) (.slice none 0 0))
      have HOX := Lib.hid ((((Only.refl w.heap.size w4).set (p := ⟨w.heap.size, 0, none⟩) (.inl rfl) (.int .u64 0)).set (p := ⟨w.heap.size, 1, none⟩) (.inl rfl) (.slice none 0 0)))
      have z0 : w4.cell? ⟨w3.heap.size + 1, 0, none⟩ = some (.int .u64 0) := (cell_of_row _ _ 0 _ _ _ F11).trans rfl
      have q0 : w4.cell? ⟨w.heap.size, 0, none⟩ = some (.int .u64 0) := (cell_of_row _ _ 0 _ _ _ F6).trans rfl
      have k0 : w4.frozen? ⟨w.heap.size, 0, none⟩ = false := frozen_of_row _ _ _ _ _ F6
      have r0 := (cell_of_row _ _ 0 _ _ _ HX.out).trans rfl
      have z1 : w4.cell? ⟨w3.heap.size + 1, 1, none⟩ = some (.slice none 0 0) := (cell_of_row _ _ 1 _ _ _ F11).trans rfl
      have q1 : w4.cell? ⟨w.heap.size, 1, none⟩ = some (.slice none 0 0) := (cell_of_row _ _ 1 _ _ _ F6).trans rfl
      have k1 : w4.frozen? ⟨w.heap.size, 1, none⟩ = false := frozen_of_row _ _ _ _ _ F6
      have r1 := (cell_of_row _ _ 1 _ _ _ HX.out).trans rfl
      clear hb4 F6 F11
      go_wp2
      exact bodyPost_ret (v := .tuple #[.agg #[.int .u64 0, .slice none 0 0], .int .i64 0, .int .i64 172]) (by simp [results, Try.results45, go_sem, r0, r1]) rfl (by rw [HR.out]; exact ⟨none, 0, rfl, Vec.nil _ _, HB4.out.trans (below_of_only HOX.out (Nat.le_refl _) HB4.out.size)⟩)
    | true =>
      rw [hr] at HC HR
      simp only [if_true] at HR HC
      generalize hk : xs.length = k at *
      have HK := Lib.hid hk
      clear hr hk HCE
      go_wp2_with (go_at_call 56; rw [← HVV.out]; refine (bad_any _ g false hbd).mono ?_; rintro e w' ⟨rfl, rfl⟩)
      refine HC.out.mono ?_
      rintro e w4 ⟨rfl, hb4⟩
      have F6 := (hb4.block w.heap.size (lt_of_block HF6.out)).trans HF6.out
      have F10 := (hb4.block w3.heap.size (lt_of_block HF10.out)).trans HF10.out
      have HB4 := Lib.hid (HBV.out.trans (hb4.mono HBV.out.size))
      have HV4 := Lib.hid (HVX.out.below hb4)
      have HX := Lib.hid (set2 F6 (.int .u64 i) (.slice A3 k c3))
      have HOX := Lib.hid (((((Only.refl w.heap.size w4).set (p := ⟨w.heap.size, 0, none⟩) (.inl rfl) (.int .u64 i)).set (p := ⟨w.heap.size, 1, none⟩) (.inl rfl) (.slice A3 k c3))).drew)
      have hox := (((Only.refl w.heap.size w4.drew).set (p := ⟨w.heap.size, 0, none⟩) (.inl rfl) (.int .u64 i)).set (p := ⟨w.heap.size, 1, none⟩) (.inl rfl) (.slice A3 k c3))
      have hne3 : w3.heap.size ≠ w.heap.size := by have := HB1.out.size; have := HSL.out; have h6 := lt_of_block HRes1.out; intro e; have := HLT3.out; omega
      have hne1 : w1.heap.size ≠ w.heap.size := by have h6 := lt_of_block HRes1.out; omega
      have hneg : g ≠ w.heap.size := by have := HG.out; have := HZ0.out; omega
      have hcx4 : w4.drew.cell? ⟨w1.heap.size, 0, none⟩ = some (.pointer (some ⟨g, 0, none⟩)) := (hb4.cell (p := ⟨w1.heap.size, 0, none⟩) (World.block_lt_of_cell? V _ hcx)).trans hcx
      have hpl4 : w4.drew.cell? ⟨g, 1, none⟩ = some (.int .i64 pl) := (hb4.cell (p := ⟨g, 1, none⟩) HSL.out).trans hpl
      have hpl5 : ((w4.drew.setCell ⟨w.heap.size, 0, none⟩ (.int .u64 i)).setCell ⟨w.heap.size, 1, none⟩ (.slice A3 k c3)).cell? ⟨g, 1, none⟩ = some (.int .i64 pl) := (World.cell?_of_block (a := ⟨g, 1, none⟩) (hox.block g (World.block_lt_of_cell? w4 _ hpl4) (by simp; omega))).trans hpl4
      have hcx5 : ((w4.drew.setCell ⟨w.heap.size, 0, none⟩ (.int .u64 i)).setCell ⟨w.heap.size, 1, none⟩ (.slice A3 k c3)).cell? ⟨w1.heap.size, 0, none⟩ = some (.pointer (some ⟨g, 0, none⟩)) := (World.cell?_of_block (a := ⟨w1.heap.size, 0, none⟩) (hox.block w1.heap.size (World.block_lt_of_cell? w4 _ hcx4) (by simp; omega))).trans hcx4
      have F105 := (hox.block w3.heap.size (lt_of_block (w := w4) F10) (by simp; omega)).trans F10
      have S0 := Lib.hid (show w4.drew.cell? ⟨w3.heap.size, 0, none⟩ = some (.int .u64 i) ∧ w4.drew.cell? ⟨w3.heap.size, 1, none⟩ = some (.slice A3 k c3) ∧ w4.drew.cell? ⟨w1.heap.size, 0, none⟩ = some (.pointer (some ⟨g, 0, none⟩)) from ⟨(cell_of_row _ _ 0 _ _ _ F10).trans rfl, (cell_of_row _ _ 1 _ _ _ F10).trans rfl, hcx4⟩)
      have S1 := Lib.hid (show ((w4.drew.setCell ⟨w.heap.size, 0, none⟩ (.int .u64 i)).setCell ⟨w.heap.size, 1, none⟩ (.slice A3 k c3)).cell? ⟨w3.heap.size, 0, none⟩ = some (.int .u64 i) ∧ ((w4.drew.setCell ⟨w.heap.size, 0, none⟩ (.int .u64 i)).setCell ⟨w.heap.size, 1, none⟩ (.slice A3 k c3)).cell? ⟨w3.heap.size, 1, none⟩ = some (.slice A3 k c3) ∧ ((w4.drew.setCell ⟨w.heap.size, 0, none⟩ (.int .u64 i)).setCell ⟨w.heap.size, 1, none⟩ (.slice A3 k c3)).cell? ⟨w1.heap.size, 0, none⟩ = some (.pointer (some ⟨g, 0, none⟩)) from ⟨(cell_of_row _ _ 0 _ _ _ F105).trans rfl, (cell_of_row _ _ 1 _ _ _ F105).trans rfl, hcx5⟩)
      have q0 : w4.drew.cell? ⟨w.heap.size, 0, none⟩ = some (.int .u64 0) := (cell_of_row w4.drew _ 0 _ _ _ F6).trans rfl
      have k0 : w4.drew.frozen? ⟨w.heap.size, 0, none⟩ = false := frozen_of_row w4.drew _ _ _ _ F6
      have qq0 : w4.cell? ⟨w.heap.size, 0, none⟩ = some (.int .u64 0) := q0
      have kk0 : w4.frozen? ⟨w.heap.size, 0, none⟩ = false := k0
      have r0 := (cell_of_row _ _ 0 _ _ _ HX.out).trans rfl
      have q1 : w4.drew.cell? ⟨w.heap.size, 1, none⟩ = some (.slice none 0 0) := (cell_of_row w4.drew _ 1 _ _ _ F6).trans rfl
      have k1 : w4.drew.frozen? ⟨w.heap.size, 1, none⟩ = false := frozen_of_row w4.drew _ _ _ _ F6
      have qq1 : w4.cell? ⟨w.heap.size, 1, none⟩ = some (.slice none 0 0) := q1
      have kk1 : w4.frozen? ⟨w.heap.size, 1, none⟩ = false := k1
      have r1 := (cell_of_row _ _ 1 _ _ _ HX.out).trans rfl
      have HOD := Lib.hid (odd2 F6)
      clear hb4 F6 F10 F105 hox hcx hbd hpl hcx4 hcx5
      go_wp2
      go_region_held3 (fun V => V.cell? ⟨w3.heap.size, 0, none⟩ = some (.int .u64 i) ∧ V.cell? ⟨w3.heap.size, 1, none⟩ = some (.slice A3 k c3) ∧ V.cell? ⟨w1.heap.size, 0, none⟩ = some (.pointer (some ⟨g, 0, none⟩))) (first | exact S0.out | exact S1.out) (first
        | (go_at_call 57; refine (place_any _ g pl hpl4).mono ?_; rintro e w' ⟨rfl, rfl⟩)
        | (go_at_call 57; refine (place_any _ g pl hpl5).mono ?_; rintro e w' ⟨rfl, rfl⟩))
      all_goals (
        go_wp2
        exact bodyPost_ret (v := .tuple #[.agg #[.int .u64 i, .slice A3 k c3], .int .i64 pl, .int .i64 0]) (by simp [results, Try.results45, go_sem, r0, r1]) rfl (by rw [HR.out]; exact ⟨A3, c3, by rw [← HK.out], HV4.out.turned HOX.out HOD.out, HB4.out.trans (below_of_only HOX.out (Nat.le_refl _) HB4.out.size)⟩))

end Go.Proofs.Ythbpnngfdpdjkaa
