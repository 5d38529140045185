/-
  Proved: the law CodecLays, whatever vector, row and version is laid as the document says, or it is refused, returns true for every row and two versions, and leaves all memory as it was. No condition.
-/
import Derived.Test.YthbpnngfdpdjkaaCodRefE
import Derived.Test.YthbpnngfdpdjkaaLawFrame
import Derived.Deep.Cut
namespace Go.Proofs.Ythbpnngfdpdjkaa.codecLays
open Go.ChangeShapes Go.WideShapes Go.ChangeAt Go.RowKit
set_option linter.unusedVariables false
set_option linter.unusedSimpArgs false
set_option maxRecDepth 100000

/-- What the arguments' boxes hold, in every later memory. -/
theorem boxes {w W0 : World} (i : Int) (A : Option Addr) (c n : Nat) (b f : Int) (B : Option Addr) (d u : Nat) (b' f' : Int) (B1 : Option Addr) (d1 v : Nat) (h : W0 = (((w.alloc (.cells #[.int .u64 i, .slice A n c] 25)).alloc (.cells #[.int .u64 b, .int .u64 f, .slice B u d] 27)).alloc (.cells #[.int .u64 b', .int .u64 f', .slice B1 v d1] 27))) : Below w.heap.size w W0 ∧ ∀ X : World, Below W0.heap.size W0 X → X.cell? ⟨w.heap.size, 0, none⟩ = some (.int .u64 i) ∧ X.cell? ⟨w.heap.size, 1, none⟩ = some (.slice A n c) ∧ X.cell? ⟨w.heap.size + 1, 0, none⟩ = some (.int .u64 b) ∧ X.cell? ⟨w.heap.size + 1, 1, none⟩ = some (.int .u64 f) ∧ X.cell? ⟨w.heap.size + 1, 2, none⟩ = some (.slice B u d) ∧ X.cell? ⟨w.heap.size + 1 + 1, 0, none⟩ = some (.int .u64 b') ∧ X.cell? ⟨w.heap.size + 1 + 1, 1, none⟩ = some (.int .u64 f') ∧ X.cell? ⟨w.heap.size + 1 + 1, 2, none⟩ = some (.slice B1 v d1) := by
  have q0 : W0.heap[w.heap.size]? = some (.cells #[.int .u64 i, .slice A n c] 25 (0, 0)) := by
    rw [h]; exact (Below.heap_alloc _ _ _ (by simp; omega)).trans ((Below.heap_alloc _ _ _ (by simp)).trans (heap_alloc_new w _))
  have q1 : W0.heap[w.heap.size + 1]? = some (.cells #[.int .u64 b, .int .u64 f, .slice B u d] 27 (0, 0)) := by
    rw [h]
    have := heap_alloc_new (w.alloc (.cells #[.int .u64 i, .slice A n c] 25)) (.cells #[.int .u64 b, .int .u64 f, .slice B u d] 27)
    rw [World.size_alloc] at this
    exact (Below.heap_alloc _ _ _ (by simp)).trans this
  have q2 : W0.heap[w.heap.size + 1 + 1]? = some (.cells #[.int .u64 b', .int .u64 f', .slice B1 v d1] 27 (0, 0)) := by
    rw [h]
    have := heap_alloc_new ((w.alloc (.cells #[.int .u64 i, .slice A n c] 25)).alloc (.cells #[.int .u64 b, .int .u64 f, .slice B u d] 27)) (.cells #[.int .u64 b', .int .u64 f', .slice B1 v d1] 27)
    rwa [World.size_alloc, World.size_alloc] at this
  refine ⟨by rw [h]; exact (((Below.refl _ w).alloc (Nat.le_refl _) _).alloc (by simp) _).alloc (by simp; omega) _, fun X hX => ?_⟩
  have r0 := (hX.block _ (lt_of_block q0)).trans q0
  have r1 := (hX.block _ (lt_of_block q1)).trans q1
  have r2 := (hX.block _ (lt_of_block q2)).trans q2
  exact ⟨(cell_of_row _ _ 0 _ _ _ r0).trans rfl, (cell_of_row _ _ 1 _ _ _ r0).trans rfl, (cell_of_row _ _ 0 _ _ _ r1).trans rfl, (cell_of_row _ _ 1 _ _ _ r1).trans rfl, (cell_of_row _ _ 2 _ _ _ r1).trans rfl, (cell_of_row _ _ 0 _ _ _ r2).trans rfl, (cell_of_row _ _ 1 _ _ _ r2).trans rfl, (cell_of_row _ _ 2 _ _ _ r2).trans rfl⟩

theorem walk_big {w : World} (i : Int) (A : Option Addr) (c n : Nat) (b f : Int) (B : Option Addr) (d u : Nat) (b' f' : Int) (B1 : Option Addr) (d1 v : Nat) (hbig : 100 < n ∨ 100 < u ∨ 100 < v) :
    Calls Try.prog 3 #[.agg #[.int .u64 i, .slice A n c], .agg #[.int .u64 b, .int .u64 f, .slice B u d], .agg #[.int .u64 b', .int .u64 f', .slice B1 v d1]] w fun e w' => e = .returned (.bool true) ∧ Below w.heap.size w w' := by
  obtain ⟨W0, hW0⟩ : ∃ W0, W0 = (((w.alloc (.cells #[.int .u64 i, .slice A n c] 25)).alloc (.cells #[.int .u64 b, .int .u64 f, .slice B u d] 27)).alloc (.cells #[.int .u64 b', .int .u64 f', .slice B1 v d1] 27)) := ⟨_, rfl⟩
  obtain ⟨hb0, hk⟩ := boxes i A c n b f B d u b' f' B1 d1 v hW0
  have HK := Lib.hid hk
  have HW0 := Lib.hid hW0
  have HB0 := Lib.hid hb0
  clear hk hW0 hb0
  by_cases g0 : 100 < n
  · have t0 : decide ((100 : Int) < (n : Int)) = true := by simp; omega
    clear hbig
    go_enter Try.func3, Try.ntmps3
    go_wp2_with (go_at_call 8; rw [← HW0.out]; refine (wakes_any W0).mono ?_; rintro e w1 ⟨rfl, hb1⟩; have HB1 := Lib.hid hb1; obtain ⟨s0, s1, s2, s3, s4, s5, s6, s7⟩ := HK.out w1 hb1; clear hb1)
    go_ret
    exact ⟨rfl, HB0.out.trans (HB1.out.mono HB0.out.size)⟩
  have t0 : decide ((100 : Int) < (n : Int)) = false := by simp; omega
  by_cases g1 : 100 < u
  · have t1 : decide ((100 : Int) < (u : Int)) = true := by simp; omega
    clear hbig
    go_enter Try.func3, Try.ntmps3
    go_wp2_with (go_at_call 8; rw [← HW0.out]; refine (wakes_any W0).mono ?_; rintro e w1 ⟨rfl, hb1⟩; have HB1 := Lib.hid hb1; obtain ⟨s0, s1, s2, s3, s4, s5, s6, s7⟩ := HK.out w1 hb1; clear hb1)
    go_ret
    exact ⟨rfl, HB0.out.trans (HB1.out.mono HB0.out.size)⟩
  have t1 : decide ((100 : Int) < (u : Int)) = false := by simp; omega
  by_cases g2 : 100 < v
  · have t2 : decide ((100 : Int) < (v : Int)) = true := by simp; omega
    clear hbig
    go_enter Try.func3, Try.ntmps3
    go_wp2_with (go_at_call 8; rw [← HW0.out]; refine (wakes_any W0).mono ?_; rintro e w1 ⟨rfl, hb1⟩; have HB1 := Lib.hid hb1; obtain ⟨s0, s1, s2, s3, s4, s5, s6, s7⟩ := HK.out w1 hb1; clear hb1)
    go_ret
    exact ⟨rfl, HB0.out.trans (HB1.out.mono HB0.out.size)⟩
  omega

set_option maxHeartbeats 8000000 in
theorem walk_small {w : World} (i : Int) (A : Option Addr) (c : Nat) (xs : List Int) (wi : (Lit.int .u64 i).wf = true) (hx : Vec .i32 w A c xs) (b f : Int) (B : Option Addr) (d : Nat) (us : List Int) (wb : (Lit.int .u64 b).wf = true) (wf : (Lit.int .u64 f).wf = true) (hu : Vec .i32 w B d us) (b' f' : Int) (B1 : Option Addr) (d1 : Nat) (vs : List Int) (wb' : (Lit.int .u64 b').wf = true) (wf' : (Lit.int .u64 f').wf = true) (hv : Vec .i32 w B1 d1 vs)
    (h1 : xs.length ≤ 100) (h2 : us.length ≤ 100) (h3 : vs.length ≤ 100) :
    Calls Try.prog 3 #[.agg #[.int .u64 i, .slice A xs.length c], .agg #[.int .u64 b, .int .u64 f, .slice B us.length d], .agg #[.int .u64 b', .int .u64 f', .slice B1 vs.length d1]] w fun e w' => e = .returned (.bool true) ∧ Below w.heap.size w w' := by
  obtain ⟨n, hn⟩ : ∃ n, n = xs.length := ⟨_, rfl⟩
  obtain ⟨u, hul⟩ : ∃ u, u = us.length := ⟨_, rfl⟩
  obtain ⟨v, hvl⟩ : ∃ v, v = vs.length := ⟨_, rfl⟩
  rw [← hn, ← hul, ← hvl]
  obtain ⟨W0, hW0⟩ : ∃ W0, W0 = (((w.alloc (.cells #[.int .u64 i, .slice A n c] 25)).alloc (.cells #[.int .u64 b, .int .u64 f, .slice B u d] 27)).alloc (.cells #[.int .u64 b', .int .u64 f', .slice B1 v d1] 27)) := ⟨_, rfl⟩
  obtain ⟨hb0, hk⟩ := boxes i A c n b f B d u b' f' B1 d1 v hW0
  have HK := Lib.hid hk
  have HW0 := Lib.hid hW0
  have HB0 := Lib.hid hb0
  have HX := Lib.hid (fun (X : World) (hX : Below W0.heap.size W0 X) => (hx.below hb0).below hX)
  have HU := Lib.hid (fun (X : World) (hX : Below W0.heap.size W0 X) => (hu.below hb0).below hX)
  have HV := Lib.hid (fun (X : World) (hX : Below W0.heap.size W0 X) => (hv.below hb0).below hX)
  have HCV := Lib.hid (fun (X : World) (hX : Below W0.heap.size W0 X) => vec_any A c xs X (HX.out X hX))
  have HCR := Lib.hid (fun (X : World) (hX : Below W0.heap.size W0 X) => row_any i A c xs X wi (HX.out X hX))
  have HCW := Lib.hid (fun (X : World) (hX : Below W0.heap.size W0 X) => ver_any b f B d us X wb wf (HU.out X hX))
  have HKR := Lib.hid (fun (X : World) (hX : Below W0.heap.size W0 X) => checkRow_any i A c xs X (HX.out X hX))
  have HKW := Lib.hid (fun (X : World) (hX : Below W0.heap.size W0 X) => checkVersion_any b f B d us X (HU.out X hX))
  have HSVW := Lib.hid (fun (X : World) (hX : Below W0.heap.size W0 X) => sameVersion_any b b' f f' B B1 d d1 us vs X (HU.out X hX) (HV.out X hX))
  have HRVW := Lib.hid (fun (X : World) (hX : Below W0.heap.size W0 X) => rSameVersion_any b b' f f' B B1 d d1 us vs X (HU.out X hX) (HV.out X hX))
  have HSVV := Lib.hid (fun (X : World) (hX : Below W0.heap.size W0 X) => sameVersion_any b b f f B B d d us us X (HU.out X hX) (HU.out X hX))
  have HSRR := Lib.hid (fun (X : World) (hX : Below W0.heap.size W0 X) => sameRow_any i i A A c c xs xs X (HX.out X hX) (HX.out X hX))
  have HSRV := Lib.hid (fun (X : World) (hX : Below W0.heap.size W0 X) => sameRow_any i i A B c d xs us X (HX.out X hX) (HU.out X hX))
  have HRS := Lib.hid (fun (X : World) (hX : Below W0.heap.size W0 X) => rSame_any A B c d xs us X (HX.out X hX) (HU.out X hX))
  have HRR := Lib.hid (fun (X : World) (hX : Below W0.heap.size W0 X) => rRight_any A c xs X (HX.out X hX))
  have HRVe := Lib.hid (fun (X : World) (hX : Below W0.heap.size W0 X) => rRightVersion_any b f B d us X wb wf (HU.out X hX))
  have HQV := Lib.hid (fun (X : World) (hX : Below W0.heap.size W0 X) => rVec_any A c xs X (HX.out X hX) (by omega))
  have HQR := Lib.hid (fun (X : World) (hX : Below W0.heap.size W0 X) => rRow_any i A c xs X wi (HX.out X hX) (by omega))
  have HQW := Lib.hid (fun (X : World) (hX : Below W0.heap.size W0 X) => rVersion_any b f B d us X wb wf (HU.out X hX) (by omega))
  rw [show sameV b b f f us us = true by simp [sameV]] at HSVV
  rw [show sameR i i xs xs = true by simp [sameR]] at HSRR
  rw [show sameR i i xs us = decide (xs = us) by simp [sameR]] at HSRV
  obtain ⟨SV, hSV⟩ : ∃ S, sameV b b' f f' us vs = S := ⟨_, rfl⟩
  obtain ⟨SR, hSR⟩ : ∃ S, decide (xs = us) = S := ⟨_, rfl⟩
  rw [hSV] at HSVW HRVW
  rw [hSR] at HSRV HRS
  rw [← hn] at HCV HCR HKR HSRR HSRV HRS HRR HQV HQR
  rw [← hul] at HCW HKW HSVW HRVW HSVV HSRV HRS HRVe HQW
  rw [← hvl] at HSVW HRVW
  have t0 : decide ((100 : Int) < (n : Int)) = false := by simp; omega
  have t1 : decide ((100 : Int) < (u : Int)) = false := by simp; omega
  have t2 : decide ((100 : Int) < (v : Int)) = false := by simp; omega
  have g0 : (SV != SV) = false := by simp
  have g1 : (SR != SR) = false := by simp
  obtain ⟨E1, hE1⟩ : ∃ E1, E1 = vecE xs := ⟨_, rfl⟩
  obtain ⟨O1, hO1⟩ : ∃ O1, O1 = vecO xs := ⟨_, rfl⟩
  obtain ⟨p1, hp1⟩ : ∃ p1, p1 = O1.length := ⟨_, rfl⟩
  have HE1 := Lib.hid hE1
  have HO1 := Lib.hid hO1
  have Hp1 := Lib.hid hp1
  rw [← hE1, ← hO1] at HCV
  obtain ⟨E2, hE2⟩ : ∃ E2, E2 = rowE xs := ⟨_, rfl⟩
  obtain ⟨O2, hO2⟩ : ∃ O2, O2 = rowO i xs := ⟨_, rfl⟩
  obtain ⟨p2, hp2⟩ : ∃ p2, p2 = O2.length := ⟨_, rfl⟩
  have HE2 := Lib.hid hE2
  have HO2 := Lib.hid hO2
  have Hp2 := Lib.hid hp2
  rw [← hE2, ← hO2] at HCR
  obtain ⟨E3, hE3⟩ : ∃ E3, E3 = verE b f us := ⟨_, rfl⟩
  obtain ⟨O3, hO3⟩ : ∃ O3, O3 = verO b f us := ⟨_, rfl⟩
  obtain ⟨p3, hp3⟩ : ∃ p3, p3 = O3.length := ⟨_, rfl⟩
  have HE3 := Lib.hid hE3
  have HO3 := Lib.hid hO3
  have Hp3 := Lib.hid hp3
  rw [← hE3, ← hO3] at HCW
  rw [← hE2] at HKR
  rw [← hE3] at HKW
  clear hn hul hvl hk hW0 hb0 hx hu hv h1 h2 h3 hSV hSR hE1 hE2 hE3 hO1 hO2 hO3 hp1 hp2 hp3 wi wb wf wb' wf'
  go_enter Try.func3, Try.ntmps3
  go_upto_region 8 with (first
    | (go_at_call 8; rw [← HW0.out]; refine (wakes_any W0).mono ?_; rintro e w1 ⟨rfl, hb1⟩; have HB1 := Lib.hid hb1; obtain ⟨s0, s1, s2, s3, s4, s5, s6, s7⟩ := HK.out w1 hb1; clear hb1)
    | (go_at_call 9; (with_reducible refine (HCV.out w1 HB1.out).mono ?_); rintro e w2 ⟨A2, c2, rfl, hs2, hb2⟩; rw [← Hp1.out]; have HS2 := Lib.hid hs2; have HB2 := Lib.hid (HB1.out.trans (hb2.mono HB1.out.size)); obtain ⟨z0, z1, z2, z3, z4, z5, z6, z7⟩ := HK.out w2 HB2.out; clear hs2 hb2)
    | (go_at_call 10; (with_reducible refine (HCR.out w2 HB2.out).mono ?_); rintro e w3 ⟨A3, c3, rfl, hs3, hb3⟩; rw [← Hp2.out]; have HS3 := Lib.hid hs3; have HB3 := Lib.hid (HB2.out.trans (hb3.mono HB2.out.size)); obtain ⟨y0, y1, y2, y3, y4, y5, y6, y7⟩ := HK.out w3 HB3.out; have HS2b := Lib.hid (HS2.out.below hb3); clear hs3 hb3)
    | (go_at_call 11; (with_reducible refine (HCW.out w3 HB3.out).mono ?_); rintro e w4 ⟨A4, c4, rfl, hs4, hb4⟩; rw [← Hp3.out]; have HS4 := Lib.hid hs4; have HB4 := Lib.hid (HB3.out.trans (hb4.mono HB3.out.size)); have HS2c := Lib.hid (HS2b.out.below hb4); have HS3c := Lib.hid (HS3.out.below hb4); clear hs4 hb4))
  clear s0 s1 s2 s3 s4 s5 s6 s7 z0 z1 z2 z3 z4 z5 z6 z7 y0 y1 y2 y3 y4 y5 y6 y7
  have HB4d := Lib.hid (below_drew HB4.out)
  have HD4d := Lib.hid (below_drew (Below.refl w4.heap.size w4))
  have S4 := Lib.hid (HK.out _ HB4d.out)
  go_region_held3 (fun X => X.cell? ⟨w.heap.size, 0, none⟩ = some (.int .u64 i) ∧ X.cell? ⟨w.heap.size, 1, none⟩ = some (.slice A n c) ∧ X.cell? ⟨w.heap.size + 1, 0, none⟩ = some (.int .u64 b) ∧ X.cell? ⟨w.heap.size + 1, 1, none⟩ = some (.int .u64 f) ∧ X.cell? ⟨w.heap.size + 1, 2, none⟩ = some (.slice B u d) ∧ X.cell? ⟨w.heap.size + 1 + 1, 0, none⟩ = some (.int .u64 b') ∧ X.cell? ⟨w.heap.size + 1 + 1, 1, none⟩ = some (.int .u64 f') ∧ X.cell? ⟨w.heap.size + 1 + 1, 2, none⟩ = some (.slice B1 v d1)) (first | exact S4.out | exact S5.out | exact S6.out) (first
    | (go_at_call 12; (with_reducible refine (HKR.out w4.drew HB4d.out).mono ?_); rintro e w5 ⟨rfl, hb5⟩; have HB5 := Lib.hid (HB4d.out.trans (hb5.mono HB4d.out.size)); have HD5 := Lib.hid (HD4d.out.trans (hb5.mono HD4d.out.size)); have S5 := Lib.hid (HK.out w5 HB5.out); clear hb5)
    | (go_at_call 13; (with_reducible refine (HKW.out w5 HB5.out).mono ?_); rintro e w6 ⟨rfl, hb6⟩; have HB6 := Lib.hid (HB5.out.trans (hb6.mono HB5.out.size)); have HD6 := Lib.hid (HD5.out.trans (hb6.mono HD5.out.size)); have S6 := Lib.hid (HK.out w6 HB6.out); clear hb6))
  have HB6d := Lib.hid (below_drew HB6.out)
  have HD6d := Lib.hid (below_drew HD6.out)
  have S6d := Lib.hid (HK.out _ HB6d.out)
  clear S4 S5 S6 HB1 HB2 HB3 HS2 HS2b HS3
  go_upto_region 9 with (fail)
  go_region_held3 (fun X => X.cell? ⟨w.heap.size, 0, none⟩ = some (.int .u64 i) ∧ X.cell? ⟨w.heap.size, 1, none⟩ = some (.slice A n c) ∧ X.cell? ⟨w.heap.size + 1, 0, none⟩ = some (.int .u64 b) ∧ X.cell? ⟨w.heap.size + 1, 1, none⟩ = some (.int .u64 f) ∧ X.cell? ⟨w.heap.size + 1, 2, none⟩ = some (.slice B u d) ∧ X.cell? ⟨w.heap.size + 1 + 1, 0, none⟩ = some (.int .u64 b') ∧ X.cell? ⟨w.heap.size + 1 + 1, 1, none⟩ = some (.int .u64 f') ∧ X.cell? ⟨w.heap.size + 1 + 1, 2, none⟩ = some (.slice B1 v d1)) (first | exact S6d.out | exact S7.out | exact S8.out | exact S9.out | exact S10.out | exact S11.out | exact S12.out) (first
    | (go_at_call 14; (with_reducible refine (HSVW.out w6.drew HB6d.out).mono ?_); rintro e w7 ⟨rfl, hb7⟩; have HB7 := Lib.hid (HB6d.out.trans (hb7.mono HB6d.out.size)); have HD7 := Lib.hid (HD6d.out.trans (hb7.mono HD6d.out.size)); have S7 := Lib.hid (HK.out w7 HB7.out); clear hb7)
    | (go_at_call 15; (with_reducible refine (HRVW.out w7 HB7.out).mono ?_); rintro e w8 ⟨rfl, hb8⟩; have HB8 := Lib.hid (HB7.out.trans (hb8.mono HB7.out.size)); have HD8 := Lib.hid (HD7.out.trans (hb8.mono HD7.out.size)); have S8 := Lib.hid (HK.out w8 HB8.out); clear hb8)
    | (go_at_call 14; (with_reducible refine (HSVV.out w8 HB8.out).mono ?_); rintro e w9 ⟨rfl, hb9⟩; have HB9 := Lib.hid (HB8.out.trans (hb9.mono HB8.out.size)); have HD9 := Lib.hid (HD8.out.trans (hb9.mono HD8.out.size)); have S9 := Lib.hid (HK.out w9 HB9.out); clear hb9)
    | (go_at_call 16; (with_reducible refine (HSRR.out w9 HB9.out).mono ?_); rintro e w10 ⟨rfl, hb10⟩; have HB10 := Lib.hid (HB9.out.trans (hb10.mono HB9.out.size)); have HD10 := Lib.hid (HD9.out.trans (hb10.mono HD9.out.size)); have S10 := Lib.hid (HK.out w10 HB10.out); clear hb10)
    | (go_at_call 16; (with_reducible refine (HSRV.out w10 HB10.out).mono ?_); rintro e w11 ⟨rfl, hb11⟩; have HB11 := Lib.hid (HB10.out.trans (hb11.mono HB10.out.size)); have HD11 := Lib.hid (HD10.out.trans (hb11.mono HD10.out.size)); have S11 := Lib.hid (HK.out w11 HB11.out); clear hb11)
    | (go_at_call 17; (with_reducible refine (HRS.out w11 HB11.out).mono ?_); rintro e w12 ⟨rfl, hb12⟩; have HB12 := Lib.hid (HB11.out.trans (hb12.mono HB11.out.size)); have HD12 := Lib.hid (HD11.out.trans (hb12.mono HD11.out.size)); have S12 := Lib.hid (HK.out w12 HB12.out); clear hb12))
  obtain ⟨s0, s1, s2, s3, s4, s5, s6, s7⟩ := S12.out
  clear S6d S7 S8 S9 S10 S11 S12
  go_upto_if 90 with (go_at_call 18; refine (HRR.out w12 HB12.out).mono ?_; rintro e w13 ⟨rfl, rfl⟩)
  go_cut [] from 15 (fun wx => Hid (Below W0.heap.size W0 wx) ∧ Hid (Below w4.heap.size w4 wx))
  case first =>
    cases hr : right xs with
    | true =>
      have e1 : E1 = 0 := by rw [HE1.out]; unfold vecE; rw [if_pos hr]
      have e2 : E2 = 0 := by rw [HE2.out]; unfold rowE; rw [if_pos hr]
      have o1 : O1 = vecB xs := by rw [HO1.out]; unfold vecO; rw [if_pos hr]
      have o2 : O2 = rowB i xs := by rw [HO2.out]; unfold rowO; rw [if_pos hr]
      rw [← o1] at HQV
      rw [← o2] at HQR
      have HA1 := Lib.hid (show Oct O1 by rw [o1]; exact vecB_oct xs)
      have HA2 := Lib.hid (show Oct O2 by rw [o2]; exact rowB_oct i xs)
      have HT1 := Lib.hid (fun (X : World) (hX : Below w4.heap.size w4 X) (A' : Option Addr) (c' : Nat) (h' : Sl X A' c' O1) => show Calls Try.prog 19 #[.slice A2 p1 c2, .slice A' p1 c'] X fun e w' => e = .returned (.bool true) ∧ Below X.heap.size X w' from by
        have k := rSameB_any A2 A' c2 c' O1 O1 X (vec8 (HS2c.out.below hX) HA1.out) (vec8 h' HA1.out)
        rw [← Hp1.out, decide_eq_true rfl] at k
        exact k)
      have HT2 := Lib.hid (fun (X : World) (hX : Below w4.heap.size w4 X) (A' : Option Addr) (c' : Nat) (h' : Sl X A' c' O2) => show Calls Try.prog 19 #[.slice A3 p2 c3, .slice A' p2 c'] X fun e w' => e = .returned (.bool true) ∧ Below X.heap.size X w' from by
        have k := rSameB_any A3 A' c3 c' O2 O2 X (vec8 (HS3c.out.below hX) HA2.out) (vec8 h' HA2.out)
        rw [← Hp2.out, decide_eq_true rfl] at k
        exact k)
      subst e1
      subst e2
      clear hr o1 o2
      go_wp2_with (first
        | (go_at_call 20; refine (HQV.out w12 HB12.out).mono ?_; rintro e w14 ⟨Aq, cq, rfl, hnq, hbq⟩; rw [← Hp1.out]; have HSq := Lib.hid hnq.sl; have HB14 := Lib.hid (HB12.out.trans (hbq.mono HB12.out.size)); have HD14 := Lib.hid (HD12.out.trans (hbq.mono HD12.out.size)); clear hnq hbq)
        | (go_at_call 19; (with_reducible refine (HT1.out w14 HD14.out Aq cq HSq.out).mono ?_); rintro e w15 ⟨rfl, hbq⟩; have HB15 := Lib.hid (HB14.out.trans (hbq.mono HB14.out.size)); have HD15 := Lib.hid (HD14.out.trans (hbq.mono HD14.out.size)); obtain ⟨z0, z1, z2, z3, z4, z5, z6, z7⟩ := HK.out w15 HB15.out; clear hbq)
        | (go_at_call 21; refine (HQR.out w15 HB15.out).mono ?_; rintro e w16 ⟨Ar, cr, rfl, hnq, hbq⟩; rw [← Hp2.out]; have HSr := Lib.hid hnq.sl; have HB16 := Lib.hid (HB15.out.trans (hbq.mono HB15.out.size)); have HD16 := Lib.hid (HD15.out.trans (hbq.mono HD15.out.size)); clear hnq hbq)
        | (go_at_call 19; (with_reducible refine (HT2.out w16 HD16.out Ar cr HSr.out).mono ?_); rintro e w17 ⟨rfl, hbq⟩; have HB17 := Lib.hid (HB16.out.trans (hbq.mono HB16.out.size)); have HD17 := Lib.hid (HD16.out.trans (hbq.mono HD16.out.size)); clear hbq))
      go_meet
      case rel => exact ⟨HB17, HD17⟩
    | false =>
      have e1 : E1 = 150 := by rw [HE1.out]; unfold vecE; rw [hr]; rfl
      have e2 : E2 = 170 := by rw [HE2.out]; unfold rowE; rw [hr]; rfl
      have o1 : p1 = 0 := by rw [Hp1.out, HO1.out]; unfold vecO; rw [hr]; rfl
      have o2 : p2 = 0 := by rw [Hp2.out, HO2.out]; unfold rowO; rw [hr]; rfl
      subst e1
      subst e2
      subst o1
      subst o2
      clear hr
      go_wp2
      go_meet
      case rel => exact ⟨HB12, HD12⟩
  obtain ⟨HBc, HDc⟩ := hcut
  clear s0 s1 s2 s3 s4 s5 s6 s7 HB12 HD12
  obtain ⟨s0, s1, s2, s3, s4, s5, s6, s7⟩ := HK.out wc HBc.out
  go_upto_if 138 with (go_at_call 22; refine (HRVe.out wc HBc.out).mono ?_; rintro e w5 ⟨rfl, hb5⟩; have HB5 := Lib.hid (HBc.out.trans (hb5.mono HBc.out.size)); have HD5 := Lib.hid (HDc.out.trans (hb5.mono HDc.out.size)); obtain ⟨z0, z1, z2, z3, z4, z5, z6, z7⟩ := HK.out w5 HB5.out; clear hb5)
  cases hr : verR b f us with
  | true =>
    have e1 : E3 = 0 := by rw [HE3.out]; unfold verE; rw [if_pos hr]
    have o1 : O3 = verB b f us := by rw [HO3.out]; unfold verO; rw [if_pos hr]
    rw [← o1] at HQW
    have HA1 := Lib.hid (show Oct O3 by rw [o1]; exact verB_oct b f us)
    have HT1 := Lib.hid (fun (X : World) (hX : Below w4.heap.size w4 X) (A' : Option Addr) (c' : Nat) (h' : Sl X A' c' O3) => show Calls Try.prog 19 #[.slice A4 p3 c4, .slice A' p3 c'] X fun e w' => e = .returned (.bool true) ∧ Below X.heap.size X w' from by
      have k := rSameB_any A4 A' c4 c' O3 O3 X (vec8 (HS4.out.below hX) HA1.out) (vec8 h' HA1.out)
      rw [← Hp3.out, decide_eq_true rfl] at k
      exact k)
    subst e1
    clear hr o1
    go_wp2_with (first
      | (go_at_call 23; refine (HQW.out w5 HB5.out).mono ?_; rintro e w14 ⟨Aq, cq, rfl, hnq, hbq⟩; rw [← Hp3.out]; have HSq := Lib.hid hnq.sl; have HB14 := Lib.hid (HB5.out.trans (hbq.mono HB5.out.size)); have HD14 := Lib.hid (HD5.out.trans (hbq.mono HD5.out.size)); clear hnq hbq)
      | (go_at_call 19; (with_reducible refine (HT1.out w14 HD14.out Aq cq HSq.out).mono ?_); rintro e w15 ⟨rfl, hbq⟩; have HB15 := Lib.hid (HB14.out.trans (hbq.mono HB14.out.size)); clear hbq))
    go_ret
    exact ⟨rfl, HB0.out.trans (HB15.out.mono HB0.out.size)⟩
  | false =>
    have e1 : E3 = 171 := by rw [HE3.out]; unfold verE; rw [hr]; rfl
    have o1 : p3 = 0 := by rw [Hp3.out, HO3.out]; unfold verO; rw [hr]; rfl
    subst e1
    subst o1
    clear hr
    go_wp2
    go_ret
    exact ⟨rfl, HB0.out.trans (HB5.out.mono HB0.out.size)⟩

theorem walk {w : World} (i : Int) (A : Option Addr) (c : Nat) (xs : List Int) (wi : (Lit.int .u64 i).wf = true) (hx : Vec .i32 w A c xs) (b f : Int) (B : Option Addr) (d : Nat) (us : List Int) (wb : (Lit.int .u64 b).wf = true) (wf : (Lit.int .u64 f).wf = true) (hu : Vec .i32 w B d us) (b' f' : Int) (B1 : Option Addr) (d1 : Nat) (vs : List Int) (wb' : (Lit.int .u64 b').wf = true) (wf' : (Lit.int .u64 f').wf = true) (hv : Vec .i32 w B1 d1 vs) :
    Calls Try.prog 3 #[.agg #[.int .u64 i, .slice A xs.length c], .agg #[.int .u64 b, .int .u64 f, .slice B us.length d], .agg #[.int .u64 b', .int .u64 f', .slice B1 vs.length d1]] w fun e w' => e = .returned (.bool true) ∧ Below w.heap.size w w' := by
  by_cases h : 100 < xs.length ∨ 100 < us.length ∨ 100 < vs.length
  · exact walk_big i A c xs.length b f B d us.length b' f' B1 d1 vs.length h
  · exact walk_small i A c xs wi hx b f B d us wb wf hu b' f' B1 d1 vs wb' wf' hv (by omega) (by omega) (by omega)

set_option maxRecDepth 100000 in
theorem lifted (os : Os) (started : os.Started) (H : Type) (enc : TypeId × Value → H) :
    ReturnsInHanded {} Try.checked os 3 .any (Rows.codecLaysSpec.pre6 enc Try.prog Try.f3 Rows.codecLaysRow.domain false) (Rows.codecLaysSpec.post enc Try.prog Try.f3 false true false false) := by
  refine returnsInHanded_of_change (C := Try.checked) Try.own started (by kernel_rfl) Try.func3
    (ChangeSpec.witness6 (enc := enc) (C := Try.checked) false ⟨#[], #[.agg #[.int .u64 0, .slice none 0 0], .agg #[.int .u64 0, .int .u64 0, .slice none 0 0], .agg #[.int .u64 0, .int .u64 0, .slice none 0 0]], []⟩ 8 (by kernel_rfl) (by kernel_rfl) (by kernel_rfl) (by kernel_rfl)) ?_
  intro W base args ds gs before hval0 hW hcnd _
  have hval : ∀ (j : Nat) t v, Try.f3.params[j]? = some t → args[j]? = some v → Value.okWide Try.prog W .any base t v := hval0
  have hW' := hW
  obtain ⟨p, q, hA0, hV, rfl, hfz, hnd⟩ := hW
  have hA : DataW.TrodAll enc Try.prog W 0 (fun _ => true) true Try.f3.params.toList args.toList ds p := hA0
  rw [Try.params3] at hA hval
  have hA' := hA
  obtain ⟨v0, vs0, d0, ds0, p0, q0, hargs, rfl, rfl, h0, r0⟩ := trodAll_cons hA
  obtain ⟨v1, vs1, d1, ds1, p1, q1, rfl, rfl, rfl, h1, r1⟩ := trodAll_cons r0
  obtain ⟨v2, vs2, d2, ds2, p2, q2, rfl, rfl, rfl, h2, r2⟩ := trodAll_cons r1
  obtain ⟨rfl, rfl, rfl⟩ := trodAll_nil r2
  obtain rfl : args = #[v0, v1, v2] := by cases args; simp_all
  obtain ⟨rfl, rfl⟩ := trodVars_none hV
  obtain ⟨i0, A0, c0, l0, rfl, w0, H0⟩ := open_row (hval 0 25 v0 rfl rfl) h0
  obtain ⟨b1, f1, A1, c1, l1, rfl, w1, u1, H1⟩ := open_ver (hval 1 27 v1 rfl rfl) h1
  obtain ⟨b2, f2, A2, c2, l2, rfl, w2, u2, H2⟩ := open_ver (hval 2 27 v2 rfl rfl) h2
  clear hA0 hval0
  refine (walk i0 A0 c0 l0 w0 H0 b1 f1 A1 c1 l1 w1 u1 H1 b2 f2 A2 c2 l2 w2 u2 H2).mono fun e W' ⟨he, bel⟩ => ?_
  subst he
  exact ⟨_, rfl, _, _, _, [], _, [], hW', trodAll_mk1 (shut_bool Try.underlying4 _), trodAll_below bel _ _ _ _ (by kernel_rfl) hA', rfl, bel.frame _, fun h => by cases h⟩

theorem proved : Rows.CodecLaysSaid :=
  OpenClaim.holds_of_wide 3 Try.f3 rfl rfl rfl rfl rfl rfl rfl ⟨rfl, rfl, rfl, rfl, rfl⟩ rfl rfl rfl rfl rfl (by kernel_rfl) Try.func3 (by kernel_rfl)
    (of_decide_eq_true (by kernel_rfl)) (by unfold Func.isWrapper; first | (rw [if_pos (by decide +kernel)]; kernel_rfl) | (rw [if_neg (by decide +kernel)]; exact ⟨rfl, rfl⟩))
    (fun os started H enc _ => lifted os started H enc)
#print axioms proved
end Go.Proofs.Ythbpnngfdpdjkaa.codecLays

