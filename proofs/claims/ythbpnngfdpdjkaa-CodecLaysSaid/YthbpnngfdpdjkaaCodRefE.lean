/-
  What quiverref07's TakeRow and TakeVersion answer.
-/
import Derived.Test.YthbpnngfdpdjkaaCodRefD
namespace Go.Proofs.Ythbpnngfdpdjkaa
open Go.RowKit Go.Shelf
set_option linter.unusedVariables false
set_option linter.unusedSimpArgs false
set_option maxRecDepth 100000

theorem tv_yes_len {p : Nat} {bs xs : List Int} {n : Int} (ho : Oct bs) (h : tvM p bs = (0, n, xs)) : p ≤ bs.length := by
  have := (tv_taken ho h).2.2.1
  omega
theorem tr_of {bs xs : List Int} {E N : Int} (h : tvM 8 bs = (E, N, xs)) : trM bs = if E = 0 then (0, N, val (bs.take 8), xs) else (E, 0, 0, []) := by unfold trM; rw [h]
theorem tw_of {bs xs : List Int} {E N : Int} (h : tvM 16 bs = (E, N, xs)) : twM bs = if E = 0 then (if verR (val (bs.take 8)) (val ((bs.drop 8).take 8)) xs = true then (0, N, val (bs.take 8), val ((bs.drop 8).take 8), xs) else (172, 0, 0, 0, [])) else (E, 0, 0, 0, []) := by unfold twM; rw [h]

set_option maxHeartbeats 2000000 in
theorem rTakeRow_any (A : Option Addr) (c : Nat) (bs : List Int) (w : World) (h : Sl w A c bs) (ho : Oct bs) (hbig : bs.length ≤ 1000000) :
    Calls Try.prog 27 #[.slice A bs.length c] w (GivesTR w (trM bs)) := by
  have hb0 : Below w.heap.size w (w.alloc (.cells #[.int .u64 0, .slice none 0 0] 25)) := (Below.refl _ w).alloc (Nat.le_refl _) _
  have HC := Lib.hid (rTakeVec_any A c bs 8 _ (h.below hb0) ho (by omega) hbig)
  have HB0 := Lib.hid hb0
  have HRes := Lib.hid (heap_alloc_new w (.cells #[.int .u64 0, .slice none 0 0] 25))
  obtain ⟨E, N, xs, hT⟩ : ∃ E N xs, tvM 8 bs = (E, N, xs) := ⟨_, _, _, rfl⟩
  have HR := Lib.hid (tr_of hT)
  have HL8 := Lib.hid (fun (e : E = 0) => tv_yes_len (n := N) (xs := xs) ho (by rw [hT, e]))
  have HNu := Lib.hid (fun (X : World) (hX : Below w.heap.size w X) (hl : 8 ≤ bs.length) => show Calls Try.prog 44 #[.slice A 8 c] X fun e w' => e = .returned (.int .u64 (val (bs.take 8))) ∧ w' = X from by
    have h := rNumber_any A c (bs.take 8) X ((h.below hX).begin 8) (ho.take 8) (by simp; omega)
    rw [List.length_take, Nat.min_eq_left hl] at h
    exact h)
  rw [hT] at HC
  have hroom := h.room
  generalize trM bs = R at *
  generalize val (bs.take 8) = I at *
  generalize bs.length = m at *
  clear h ho hbig hT hb0
  go_enter Try.func27, Try.ntmps27
  go_wp2_with fail
  refine HC.out.mono ?_
  rintro e w1 ⟨A1, c1, rfl, hv, hb⟩
  dsimp only at hv ⊢
  generalize hk : xs.length = k at *
  have HK := Lib.hid hk
  have HV := Lib.hid hv
  have F6 := (hb.block w.heap.size (by simp)).trans HRes.out
  have HB := Lib.hid (HB0.out.trans (hb.mono HB0.out.size))
  have HOD := Lib.hid (odd2 F6)
  have q0 : w1.cell? ⟨w.heap.size, 0, none⟩ = some (.int .u64 0) := (cell_of_row _ _ 0 _ _ _ F6).trans rfl
  have k0 : w1.frozen? ⟨w.heap.size, 0, none⟩ = false := frozen_of_row _ _ _ _ _ F6
  have q1 : w1.cell? ⟨w.heap.size, 1, none⟩ = some (.slice none 0 0) := (cell_of_row _ _ 1 _ _ _ F6).trans rfl
  have k1 : w1.frozen? ⟨w.heap.size, 1, none⟩ = false := frozen_of_row _ _ _ _ _ F6
  have HF6 := Lib.hid F6
  clear hv hb hk F6
  by_cases h0 : E = 0
  · have h8 := HL8.out h0
    have HR2 := Lib.hid (show R = (0, N, I, xs) by rw [HR.out, if_pos h0])
    have HN1 := Lib.hid (HNu.out w1 HB.out h8)
    subst h0
    have hc8 : (8 : Int) ≤ (c : Int) := by omega
    have hm8 : (8 : Int) ≤ (m : Int) := by omega
    clear HR HL8 HNu
    have HX := Lib.hid (set2 HF6.out (.int .u64 I) (.slice A1 k c1))
    have HOX := Lib.hid ((((Only.refl w.heap.size w1).set (p := ⟨w.heap.size, 0, none⟩) (.inl rfl) (.int .u64 I)).set (p := ⟨w.heap.size, 1, none⟩) (.inl rfl) (.slice A1 k c1)))
    have r0 := (cell_of_row _ _ 0 _ _ _ HX.out).trans rfl
    have r1 := (cell_of_row _ _ 1 _ _ _ HX.out).trans rfl
    go_wp2_with (go_at_call 44; refine HN1.out.mono ?_; rintro e w2 ⟨rfl, rfl⟩)
    rw [HR2.out]
    exact bodyPost_ret (v := .tuple #[.agg #[.int .u64 I, .slice A1 k c1], .int .i64 N, .int .i64 0]) (by simp [results, Try.results27, go_sem, r0, r1]) rfl ⟨A1, c1, by rw [← HK.out], HV.out.turned HOX.out HOD.out, HB.out.trans (below_of_only HOX.out (Nat.le_refl _) HB.out.size)⟩
  · have HR2 := Lib.hid (show R = (E, 0, 0, []) by rw [HR.out, if_neg h0])
    have t0 : (E != 0) = true := by simpa using h0
    clear HR HL8 HNu
    have HX := Lib.hid (set2 HF6.out (.int .u64 0) (.slice none 0 0))
    have HOX := Lib.hid ((((Only.refl w.heap.size w1).set (p := ⟨w.heap.size, 0, none⟩) (.inl rfl) (.int .u64 0)).set (p := ⟨w.heap.size, 1, none⟩) (.inl rfl) (.slice none 0 0)))
    have r0 := (cell_of_row _ _ 0 _ _ _ HX.out).trans rfl
    have r1 := (cell_of_row _ _ 1 _ _ _ HX.out).trans rfl
    go_wp2
    rw [HR2.out]
    exact bodyPost_ret (v := .tuple #[.agg #[.int .u64 0, .slice none 0 0], .int .i64 0, .int .i64 E]) (by simp [results, Try.results27, go_sem, r0, r1]) rfl ⟨none, 0, rfl, Vec.nil _ _, HB.out.trans (below_of_only HOX.out (Nat.le_refl _) HB.out.size)⟩

set_option maxHeartbeats 2000000 in
theorem rTakeVersion_any (A : Option Addr) (c : Nat) (bs : List Int) (w : World) (h : Sl w A c bs) (ho : Oct bs) (hbig : bs.length ≤ 1000000) :
    Calls Try.prog 30 #[.slice A bs.length c] w (GivesTW w (twM bs)) := by
  have hb0 : Below w.heap.size w (w.alloc (.cells #[.int .u64 0, .int .u64 0, .slice none 0 0] 27)) := (Below.refl _ w).alloc (Nat.le_refl _) _
  have HC := Lib.hid (rTakeVec_any A c bs 16 _ (h.below hb0) ho (by omega) hbig)
  have HB0 := Lib.hid hb0
  have HRes := Lib.hid (heap_alloc_new w (.cells #[.int .u64 0, .int .u64 0, .slice none 0 0] 27))
  obtain ⟨E, N, xs, hT⟩ : ∃ E N xs, tvM 16 bs = (E, N, xs) := ⟨_, _, _, rfl⟩
  have HR := Lib.hid (tw_of hT)
  have HL16 := Lib.hid (fun (e : E = 0) => tv_yes_len (n := N) (xs := xs) ho (by rw [hT, e]))
  have HNu := Lib.hid (fun (X : World) (hX : Below w.heap.size w X) (hl : 16 ≤ bs.length) => show Calls Try.prog 44 #[.slice A 8 c] X fun e w' => e = .returned (.int .u64 (val (bs.take 8))) ∧ w' = X from by
    have h := rNumber_any A c (bs.take 8) X ((h.below hX).begin 8) (ho.take 8) (by simp; omega)
    rw [List.length_take, Nat.min_eq_left (by omega)] at h
    exact h)
  have HNv := Lib.hid (fun (X : World) (hX : Below w.heap.size w X) (hl : 16 ≤ bs.length) (b o : Nat) (hA : A = some ⟨b, o, none⟩) => show Calls Try.prog 44 #[.slice (some ⟨b, o + 8, none⟩) 8 (c - 8)] X fun e w' => e = .returned (.int .u64 (val ((bs.drop 8).take 8))) ∧ w' = X from by
    have hroom := h.room
    have h := rNumber_any (behind A c 8) (c - 8) ((bs.drop 8).take 8) X (((h.below hX).cut 8 (by omega)).begin 8) ((ho.drop 8).take 8) (by simp; omega)
    have hl8 : ((bs.drop 8).take 8).length = 8 := by rw [List.length_take, List.length_drop]; omega
    have hbe : behind A c 8 = some ⟨b, o + 8, none⟩ := by unfold behind; rw [if_neg (by omega), hA]; simp [Addr.add_lit]
    rw [hl8, hbe] at h
    exact h)
  have HU0 := Lib.hid (fun hl => show (Lit.int .u64 (val (bs.take 8))).wf = true from u64_wf ⟨val_nonneg (ho.take 8), val_u64 (ho.take 8) (by simp; omega)⟩)
  have HU1 := Lib.hid (show (Lit.int .u64 (val (bs.take 8))).wf = true from u64_wf ⟨val_nonneg (ho.take 8), val_u64 (ho.take 8) (by simp; omega)⟩)
  have HU2 := Lib.hid (show (Lit.int .u64 (val ((bs.drop 8).take 8))).wf = true from u64_wf ⟨val_nonneg ((ho.drop 8).take 8), val_u64 ((ho.drop 8).take 8) (by simp; omega)⟩)
  rw [hT] at HC
  have hroom := h.room
  have HSome := Lib.hid (fun (hl : 16 ≤ bs.length) => show ∃ b o, A = some ⟨b, o, none⟩ from by obtain ⟨b, o, e, _⟩ := h.rd (by omega); exact ⟨b, o, e⟩)
  clear HU0
  generalize twM bs = R at *
  generalize val (bs.take 8) = I at *
  generalize val ((bs.drop 8).take 8) = J at *
  generalize bs.length = m at *
  clear h ho hbig hT hb0
  by_cases h0 : E = 0
  · have h16 := HL16.out h0
    obtain ⟨b, o, rfl⟩ := HSome.out h16
    have HNw := Lib.hid (fun X hX => HNv.out X hX h16 b o rfl)
    have HNz := Lib.hid (fun X hX => HNu.out X hX h16)
    have HR1 := Lib.hid (show R = if verR I J xs = true then (0, N, I, J, xs) else (172, 0, 0, 0, []) by rw [HR.out, if_pos h0])
    subst h0
    have hc16 : (16 : Int) ≤ (c : Int) := by omega
    have hm16 : (16 : Int) ≤ (m : Int) := by omega
    have hc8i : (8 : Int) ≤ (c : Int) := by omega
    have hm8i : (8 : Int) ≤ (m : Int) := by omega
    have hc8 : ¬ c = 8 := by omega
    clear HR HL16 HNu HNv HSome
    go_enter Try.func30, Try.ntmps30
    go_upto_region 4 with (go_at_call 25; refine HC.out.mono ?_; rintro e w1 ⟨A1, c1, rfl, hv, hb⟩; dsimp only at hv ⊢)
    generalize hk : xs.length = k at *
    have HK := Lib.hid hk
    have HV := Lib.hid hv
    have HF6 := Lib.hid ((hb.block w.heap.size (by simp)).trans HRes.out)
    have HB := Lib.hid (HB0.out.trans (hb.mono HB0.out.size))
    have HBd := Lib.hid (below_drew HB.out)
    have HBe := Lib.hid (below_drew (HB.out.alloc HB.out.size (.cells #[.int .u64 0, .int .u64 0, .slice none 0 0] 27)))
    clear hv hb hk
    go_region_held3 (fun _ => True) (exact trivial) (first
      | (go_at_call 44; (with_reducible refine (HNz.out _ HBd.out).mono ?_); rintro e w2 ⟨rfl, rfl⟩)
      | (go_at_call 44; (with_reducible refine (HNz.out _ HBe.out).mono ?_); rintro e w2 ⟨rfl, rfl⟩)
      | (go_at_call 44; (with_reducible refine (HNw.out _ HBd.out).mono ?_); rintro e w2 ⟨rfl, rfl⟩)
      | (go_at_call 44; (with_reducible refine (HNw.out _ HBe.out).mono ?_); rintro e w2 ⟨rfl, rfl⟩))
    all_goals (
      obtain ⟨W2, hW2⟩ : ∃ W2, W2 = (w1.alloc (.cells #[.int .u64 I, .int .u64 J, .slice A1 k c1] 27)).drew := ⟨_, rfl⟩
      have hbw : Below w1.heap.size w1 W2 := by rw [hW2]; exact below_drew ((Below.refl _ w1).alloc (Nat.le_refl _) _)
      have HF7 := Lib.hid ((hbw.block w.heap.size (lt_of_block HF6.out)).trans HF6.out)
      have HB2 := Lib.hid (HB.out.trans (hbw.mono HB.out.size))
      have x7 : W2.heap[w1.heap.size]? = some (.cells #[.int .u64 I, .int .u64 J, .slice A1 k c1] 27 (0, 0)) := by rw [hW2]; exact heap_alloc_new w1 _
      have HX7 := Lib.hid x7
      have HV2 := Lib.hid (HV.out.below hbw)
      have HRV := Lib.hid (rRightVersion_any I J A1 c1 xs W2 HU1.out HU2.out HV2.out)
      rw [HK.out] at HRV
      have b0 := (cell_of_row _ _ 0 _ _ _ x7).trans rfl
      have b1 := (cell_of_row _ _ 1 _ _ _ x7).trans rfl
      have b2 := (cell_of_row _ _ 2 _ _ _ x7).trans rfl
      obtain ⟨V, hV⟩ : ∃ V, verR I J xs = V := ⟨_, rfl⟩
      rw [hV] at HRV HR1
      rw [← hW2]
      clear hW2 hbw x7 HNw HNz HV HF6 HB HBd HBe HU1 HU2 hV
      go_upto_if 29 with (go_at_call 22; refine HRV.out.mono ?_; rintro e w3 ⟨rfl, hb3⟩)
      have HF8 := Lib.hid ((hb3.block w.heap.size (lt_of_block HF7.out)).trans HF7.out)
      have HOD := Lib.hid (odd3 HF8.out)
      have HV3 := Lib.hid (HV2.out.below hb3)
      have HB3 := Lib.hid (HB2.out.trans (hb3.mono HB2.out.size))
      have x8 := (hb3.block w1.heap.size (lt_of_block HX7.out)).trans HX7.out
      have d0 := (cell_of_row _ _ 0 _ _ _ x8).trans rfl
      have d1 := (cell_of_row _ _ 1 _ _ _ x8).trans rfl
      have d2 := (cell_of_row _ _ 2 _ _ _ x8).trans rfl
      have q0 : w3.cell? ⟨w.heap.size, 0, none⟩ = some (.int .u64 0) := (cell_of_row _ _ 0 _ _ _ HF8.out).trans rfl
      have k0 : w3.frozen? ⟨w.heap.size, 0, none⟩ = false := frozen_of_row _ _ _ _ _ HF8.out
      have q1 : w3.cell? ⟨w.heap.size, 1, none⟩ = some (.int .u64 0) := (cell_of_row _ _ 1 _ _ _ HF8.out).trans rfl
      have k1 : w3.frozen? ⟨w.heap.size, 1, none⟩ = false := frozen_of_row _ _ _ _ _ HF8.out
      have q2 : w3.cell? ⟨w.heap.size, 2, none⟩ = some (.slice none 0 0) := (cell_of_row _ _ 2 _ _ _ HF8.out).trans rfl
      have k2 : w3.frozen? ⟨w.heap.size, 2, none⟩ = false := frozen_of_row _ _ _ _ _ HF8.out
      clear hb3 x8 b0 b1 b2 HV2 HRV
      cases V
      · have HR2 := Lib.hid (show R = (172, 0, 0, 0, []) by rw [HR1.out]; rfl)
        clear HR1
        have HX := Lib.hid (set3 HF8.out (.int .u64 0) (.int .u64 0) (.slice none 0 0))
        have HOX := Lib.hid (((((Only.refl w.heap.size w3).set (p := ⟨w.heap.size, 0, none⟩) (.inl rfl) (.int .u64 0)).set (p := ⟨w.heap.size, 1, none⟩) (.inl rfl) (.int .u64 0)).set (p := ⟨w.heap.size, 2, none⟩) (.inl rfl) (.slice none 0 0)))
        have r0 := (cell_of_row _ _ 0 _ _ _ HX.out).trans rfl
        have r1 := (cell_of_row _ _ 1 _ _ _ HX.out).trans rfl
        have r2 := (cell_of_row _ _ 2 _ _ _ HX.out).trans rfl
        go_wp2
        rw [HR2.out]
        exact bodyPost_ret (v := .tuple #[.agg #[.int .u64 0, .int .u64 0, .slice none 0 0], .int .i64 0, .int .i64 172]) (by simp [results, Try.results30, go_sem, r0, r1, r2]) rfl ⟨none, 0, rfl, Vec.nil _ _, HB3.out.trans (below_of_only HOX.out (Nat.le_refl _) HB3.out.size)⟩
      · have HR2 := Lib.hid (show R = (0, N, I, J, xs) by rw [HR1.out]; rfl)
        clear HR1
        have HX := Lib.hid (set3 HF8.out (.int .u64 I) (.int .u64 J) (.slice A1 k c1))
        have HOX := Lib.hid (((((Only.refl w.heap.size w3).set (p := ⟨w.heap.size, 0, none⟩) (.inl rfl) (.int .u64 I)).set (p := ⟨w.heap.size, 1, none⟩) (.inl rfl) (.int .u64 J)).set (p := ⟨w.heap.size, 2, none⟩) (.inl rfl) (.slice A1 k c1)))
        have r0 := (cell_of_row _ _ 0 _ _ _ HX.out).trans rfl
        have r1 := (cell_of_row _ _ 1 _ _ _ HX.out).trans rfl
        have r2 := (cell_of_row _ _ 2 _ _ _ HX.out).trans rfl
        go_wp2
        rw [HR2.out]
        exact bodyPost_ret (v := .tuple #[.agg #[.int .u64 I, .int .u64 J, .slice A1 k c1], .int .i64 N, .int .i64 0]) (by simp [results, Try.results30, go_sem, r0, r1, r2]) rfl ⟨A1, c1, by rw [← HK.out], HV3.out.turned HOX.out HOD.out, HB3.out.trans (below_of_only HOX.out (Nat.le_refl _) HB3.out.size)⟩)
  · have HR2 := Lib.hid (show R = (E, 0, 0, 0, []) by rw [HR.out, if_neg h0])
    have t0 : (E != 0) = true := by simpa using h0
    clear HR HL16 HNu HNv HSome
    go_enter Try.func30, Try.ntmps30
    go_wp2_with fail
    refine HC.out.mono ?_
    rintro e w1 ⟨A1, c1, rfl, hv, hb⟩
    dsimp only at hv ⊢
    have HF6 := Lib.hid ((hb.block w.heap.size (by simp)).trans HRes.out)
    have HB := Lib.hid (HB0.out.trans (hb.mono HB0.out.size))
    have q0 : w1.cell? ⟨w.heap.size, 0, none⟩ = some (.int .u64 0) := (cell_of_row _ _ 0 _ _ _ HF6.out).trans rfl
    have k0 : w1.frozen? ⟨w.heap.size, 0, none⟩ = false := frozen_of_row _ _ _ _ _ HF6.out
    have q1 : w1.cell? ⟨w.heap.size, 1, none⟩ = some (.int .u64 0) := (cell_of_row _ _ 1 _ _ _ HF6.out).trans rfl
    have k1 : w1.frozen? ⟨w.heap.size, 1, none⟩ = false := frozen_of_row _ _ _ _ _ HF6.out
    have q2 : w1.cell? ⟨w.heap.size, 2, none⟩ = some (.slice none 0 0) := (cell_of_row _ _ 2 _ _ _ HF6.out).trans rfl
    have k2 : w1.frozen? ⟨w.heap.size, 2, none⟩ = false := frozen_of_row _ _ _ _ _ HF6.out
    clear hv hb
    have HX := Lib.hid (set3 HF6.out (.int .u64 0) (.int .u64 0) (.slice none 0 0))
    have HOX := Lib.hid (((((Only.refl w.heap.size w1).set (p := ⟨w.heap.size, 0, none⟩) (.inl rfl) (.int .u64 0)).set (p := ⟨w.heap.size, 1, none⟩) (.inl rfl) (.int .u64 0)).set (p := ⟨w.heap.size, 2, none⟩) (.inl rfl) (.slice none 0 0)))
    have r0 := (cell_of_row _ _ 0 _ _ _ HX.out).trans rfl
    have r1 := (cell_of_row _ _ 1 _ _ _ HX.out).trans rfl
    have r2 := (cell_of_row _ _ 2 _ _ _ HX.out).trans rfl
    go_wp2
    rw [HR2.out]
    exact bodyPost_ret (v := .tuple #[.agg #[.int .u64 0, .int .u64 0, .slice none 0 0], .int .i64 0, .int .i64 E]) (by simp [results, Try.results30, go_sem, r0, r1, r2]) rfl ⟨none, 0, rfl, Vec.nil _ _, HB.out.trans (below_of_only HOX.out (Nat.le_refl _) HB.out.size)⟩

end Go.Proofs.Ythbpnngfdpdjkaa
