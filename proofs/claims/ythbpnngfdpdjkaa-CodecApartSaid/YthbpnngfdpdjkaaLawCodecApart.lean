/-
  Proved: the law CodecApart, unlike rows, and unlike versions, have unlike bytes, of which none begin with those of another one, returns true for every two rows and two versions, and leaves all memory as it was. No condition.
-/
import Derived.Test.YthbpnngfdpdjkaaCodEq
import Derived.Test.YthbpnngfdpdjkaaLawFrame
import Derived.Deep.Cut
namespace Go.Proofs.Ythbpnngfdpdjkaa.codecApart
open Go.ChangeShapes Go.WideShapes Go.ChangeAt Go.RowKit
set_option linter.unusedVariables false
set_option linter.unusedSimpArgs false
set_option maxRecDepth 100000

/-- What the arguments' boxes hold, in every later memory. -/
theorem boxes {w W0 : World} (i : Int) (A : Option Addr) (c n : Nat) (j : Int) (A1 : Option Addr) (c1 m : Nat) (b f : Int) (B : Option Addr) (d u : Nat) (b' f' : Int) (B1 : Option Addr) (d1 v : Nat) (h : W0 = (((w.alloc (.cells #[.int .u64 i, .slice A n c] 25)).alloc (.cells #[.int .u64 j, .slice A1 m c1] 25)).alloc (.cells #[.int .u64 b, .int .u64 f, .slice B u d, .int .u64 b', .int .u64 f', .slice B1 v d1] 57))) : Below w.heap.size w W0 ∧ ∀ X : World, Below W0.heap.size W0 X → (X.cell? ⟨w.heap.size, 0, none⟩ = some (.int .u64 i) ∧ X.cell? ⟨w.heap.size, 1, none⟩ = some (.slice A n c) ∧ X.cell? ⟨w.heap.size + 1, 0, none⟩ = some (.int .u64 j) ∧ X.cell? ⟨w.heap.size + 1, 1, none⟩ = some (.slice A1 m c1)) ∧ (X.cell? ⟨w.heap.size + 1 + 1, 0, none⟩ = some (.int .u64 b) ∧ X.cell? ⟨w.heap.size + 1 + 1, 1, none⟩ = some (.int .u64 f) ∧ X.cell? ⟨w.heap.size + 1 + 1, 2, none⟩ = some (.slice B u d) ∧ X.cell? ⟨w.heap.size + 1 + 1, 3, none⟩ = some (.int .u64 b') ∧ X.cell? ⟨w.heap.size + 1 + 1, 4, none⟩ = some (.int .u64 f') ∧ X.cell? ⟨w.heap.size + 1 + 1, 5, none⟩ = some (.slice B1 v d1)) := by
  have q0 : W0.heap[w.heap.size]? = some (.cells #[.int .u64 i, .slice A n c] 25 (0, 0)) := by
    rw [h]; exact (Below.heap_alloc _ _ _ (by simp; omega)).trans ((Below.heap_alloc _ _ _ (by simp)).trans (heap_alloc_new w _))
  have q1 : W0.heap[w.heap.size + 1]? = some (.cells #[.int .u64 j, .slice A1 m c1] 25 (0, 0)) := by
    rw [h]
    have := heap_alloc_new (w.alloc (.cells #[.int .u64 i, .slice A n c] 25)) (.cells #[.int .u64 j, .slice A1 m c1] 25)
    rw [World.size_alloc] at this
    exact (Below.heap_alloc _ _ _ (by simp)).trans this
  have q2 : W0.heap[w.heap.size + 1 + 1]? = some (.cells #[.int .u64 b, .int .u64 f, .slice B u d, .int .u64 b', .int .u64 f', .slice B1 v d1] 57 (0, 0)) := by
    rw [h]
    have := heap_alloc_new ((w.alloc (.cells #[.int .u64 i, .slice A n c] 25)).alloc (.cells #[.int .u64 j, .slice A1 m c1] 25)) (.cells #[.int .u64 b, .int .u64 f, .slice B u d, .int .u64 b', .int .u64 f', .slice B1 v d1] 57)
    rwa [World.size_alloc, World.size_alloc] at this
  refine ⟨by rw [h]; exact (((Below.refl _ w).alloc (Nat.le_refl _) _).alloc (by simp) _).alloc (by simp; omega) _, fun X hX => ?_⟩
  have r0 := (hX.block _ (lt_of_block q0)).trans q0
  have r1 := (hX.block _ (lt_of_block q1)).trans q1
  have r2 := (hX.block _ (lt_of_block q2)).trans q2
  exact ⟨⟨(cell_of_row _ _ 0 _ _ _ r0).trans rfl, (cell_of_row _ _ 1 _ _ _ r0).trans rfl, (cell_of_row _ _ 0 _ _ _ r1).trans rfl, (cell_of_row _ _ 1 _ _ _ r1).trans rfl⟩, (cell_of_row _ _ 0 _ _ _ r2).trans rfl, (cell_of_row _ _ 1 _ _ _ r2).trans rfl, (cell_of_row _ _ 2 _ _ _ r2).trans rfl, (cell_of_row _ _ 3 _ _ _ r2).trans rfl, (cell_of_row _ _ 4 _ _ _ r2).trans rfl, (cell_of_row _ _ 5 _ _ _ r2).trans rfl⟩

theorem walk_big {w : World} (i : Int) (A : Option Addr) (c n : Nat) (j : Int) (A1 : Option Addr) (c1 m : Nat) (b f : Int) (B : Option Addr) (d u : Nat) (b' f' : Int) (B1 : Option Addr) (d1 v : Nat) (hbig : 100 < n ∨ 100 < m ∨ 100 < u ∨ 100 < v) :
    Calls Try.prog 7 #[.agg #[.int .u64 i, .slice A n c], .agg #[.int .u64 j, .slice A1 m c1], .agg #[.int .u64 b, .int .u64 f, .slice B u d, .int .u64 b', .int .u64 f', .slice B1 v d1]] w fun e w' => e = .returned (.bool true) ∧ Below w.heap.size w w' := by
  obtain ⟨W0, hW0⟩ : ∃ W0, W0 = (((w.alloc (.cells #[.int .u64 i, .slice A n c] 25)).alloc (.cells #[.int .u64 j, .slice A1 m c1] 25)).alloc (.cells #[.int .u64 b, .int .u64 f, .slice B u d, .int .u64 b', .int .u64 f', .slice B1 v d1] 57)) := ⟨_, rfl⟩
  obtain ⟨hb0, hk⟩ := boxes i A c n j A1 c1 m b f B d u b' f' B1 d1 v hW0
  have HK := Lib.hid hk
  have HW0 := Lib.hid hW0
  have HB0 := Lib.hid hb0
  clear hk hW0 hb0
  by_cases g0 : 100 < n
  · have t0 : decide ((100 : Int) < (n : Int)) = true := by simp; omega
    clear hbig
    go_enter Try.func7, Try.ntmps7
    go_wp2_with (go_at_call 8; rw [← HW0.out]; refine (wakes_any W0).mono ?_; rintro e w1 ⟨rfl, hb1⟩; have HB1 := Lib.hid hb1; obtain ⟨⟨s0, s1, s2, s3⟩, s4, s5, s6, s7, s8, s9⟩ := HK.out w1 hb1; clear hb1)
    go_ret
    exact ⟨rfl, HB0.out.trans (HB1.out.mono HB0.out.size)⟩
  have t0 : decide ((100 : Int) < (n : Int)) = false := by simp; omega
  by_cases g1 : 100 < m
  · have t1 : decide ((100 : Int) < (m : Int)) = true := by simp; omega
    clear hbig
    go_enter Try.func7, Try.ntmps7
    go_wp2_with (go_at_call 8; rw [← HW0.out]; refine (wakes_any W0).mono ?_; rintro e w1 ⟨rfl, hb1⟩; have HB1 := Lib.hid hb1; obtain ⟨⟨s0, s1, s2, s3⟩, s4, s5, s6, s7, s8, s9⟩ := HK.out w1 hb1; clear hb1)
    go_ret
    exact ⟨rfl, HB0.out.trans (HB1.out.mono HB0.out.size)⟩
  have t1 : decide ((100 : Int) < (m : Int)) = false := by simp; omega
  by_cases g2 : 100 < u
  · have t2 : decide ((100 : Int) < (u : Int)) = true := by simp; omega
    clear hbig
    go_enter Try.func7, Try.ntmps7
    go_wp2_with (go_at_call 8; rw [← HW0.out]; refine (wakes_any W0).mono ?_; rintro e w1 ⟨rfl, hb1⟩; have HB1 := Lib.hid hb1; obtain ⟨⟨s0, s1, s2, s3⟩, s4, s5, s6, s7, s8, s9⟩ := HK.out w1 hb1; clear hb1)
    go_ret
    exact ⟨rfl, HB0.out.trans (HB1.out.mono HB0.out.size)⟩
  have t2 : decide ((100 : Int) < (u : Int)) = false := by simp; omega
  by_cases g3 : 100 < v
  · have t3 : decide ((100 : Int) < (v : Int)) = true := by simp; omega
    clear hbig
    go_enter Try.func7, Try.ntmps7
    go_wp2_with (go_at_call 8; rw [← HW0.out]; refine (wakes_any W0).mono ?_; rintro e w1 ⟨rfl, hb1⟩; have HB1 := Lib.hid hb1; obtain ⟨⟨s0, s1, s2, s3⟩, s4, s5, s6, s7, s8, s9⟩ := HK.out w1 hb1; clear hb1)
    go_ret
    exact ⟨rfl, HB0.out.trans (HB1.out.mono HB0.out.size)⟩
  omega

set_option maxHeartbeats 4000000 in
theorem walk_small {w : World} (i : Int) (A : Option Addr) (c : Nat) (xs : List Int) (wi : (Lit.int .u64 i).wf = true) (hx : Vec .i32 w A c xs) (j : Int) (A1 : Option Addr) (c1 : Nat) (ys : List Int) (wj : (Lit.int .u64 j).wf = true) (hy : Vec .i32 w A1 c1 ys) (b f : Int) (B : Option Addr) (d : Nat) (us : List Int) (wb : (Lit.int .u64 b).wf = true) (wf : (Lit.int .u64 f).wf = true) (hu : Vec .i32 w B d us) (b' f' : Int) (B1 : Option Addr) (d1 : Nat) (vs : List Int) (wb' : (Lit.int .u64 b').wf = true) (wf' : (Lit.int .u64 f').wf = true) (hv : Vec .i32 w B1 d1 vs)
    (h1 : xs.length ≤ 100) (h2 : ys.length ≤ 100) (h3 : us.length ≤ 100) (h4 : vs.length ≤ 100) :
    Calls Try.prog 7 #[.agg #[.int .u64 i, .slice A xs.length c], .agg #[.int .u64 j, .slice A1 ys.length c1], .agg #[.int .u64 b, .int .u64 f, .slice B us.length d, .int .u64 b', .int .u64 f', .slice B1 vs.length d1]] w fun e w' => e = .returned (.bool true) ∧ Below w.heap.size w w' := by
  obtain ⟨n, hn⟩ : ∃ n, n = xs.length := ⟨_, rfl⟩
  obtain ⟨m, hm⟩ : ∃ m, m = ys.length := ⟨_, rfl⟩
  obtain ⟨u, hul⟩ : ∃ u, u = us.length := ⟨_, rfl⟩
  obtain ⟨v, hvl⟩ : ∃ v, v = vs.length := ⟨_, rfl⟩
  rw [← hn, ← hm, ← hul, ← hvl]
  obtain ⟨W0, hW0⟩ : ∃ W0, W0 = (((w.alloc (.cells #[.int .u64 i, .slice A n c] 25)).alloc (.cells #[.int .u64 j, .slice A1 m c1] 25)).alloc (.cells #[.int .u64 b, .int .u64 f, .slice B u d, .int .u64 b', .int .u64 f', .slice B1 v d1] 57)) := ⟨_, rfl⟩
  obtain ⟨hb0, hk⟩ := boxes i A c n j A1 c1 m b f B d u b' f' B1 d1 v hW0
  have HK := Lib.hid hk
  have HW0 := Lib.hid hW0
  have HB0 := Lib.hid hb0
  have hi := layu_fit wi
  have hj := layu_fit wj
  have hb := layu_fit wb
  have hf := layu_fit wf
  have hb' := layu_fit wb'
  have hf' := layu_fit wf'
  have HRA := Lib.hid (fun (X : World) (hX : Below W0.heap.size W0 X) => row_any i A c xs X wi ((hx.below hb0).below hX))
  have HRB := Lib.hid (fun (X : World) (hX : Below W0.heap.size W0 X) => row_any j A1 c1 ys X wj ((hy.below hb0).below hX))
  have HVA := Lib.hid (fun (X : World) (hX : Below W0.heap.size W0 X) => ver_any b f B d us X wb wf ((hu.below hb0).below hX))
  have HVB := Lib.hid (fun (X : World) (hX : Below W0.heap.size W0 X) => ver_any b' f' B1 d1 vs X wb' wf' ((hv.below hb0).below hX))
  have HSR := Lib.hid (fun (X : World) (hX : Below W0.heap.size W0 X) => sameRow_any i j A A1 c c1 xs ys X ((hx.below hb0).below hX) ((hy.below hb0).below hX))
  have HSV := Lib.hid (fun (X : World) (hX : Below W0.heap.size W0 X) => sameVersion_any b b' f f' B B1 d d1 us vs X ((hu.below hb0).below hX) ((hv.below hb0).below hX))
  rw [← hn] at HRA HSR
  rw [← hm] at HRB HSR
  rw [← hul] at HVA HSV
  rw [← hvl] at HVB HSV
  have t0 : decide ((100 : Int) < (n : Int)) = false := by simp; omega
  have t1 : decide ((100 : Int) < (m : Int)) = false := by simp; omega
  have t2 : decide ((100 : Int) < (u : Int)) = false := by simp; omega
  have t3 : decide ((100 : Int) < (v : Int)) = false := by simp; omega
  obtain ⟨E1, hE1⟩ : ∃ E1, E1 = rowE xs := ⟨_, rfl⟩
  obtain ⟨O1, hO1⟩ : ∃ O1, O1 = rowO i xs := ⟨_, rfl⟩
  obtain ⟨p1, hp1⟩ : ∃ p1, p1 = O1.length := ⟨_, rfl⟩
  have HE1 := Lib.hid hE1
  have HO1 := Lib.hid hO1
  have Hp1 := Lib.hid hp1
  rw [← hE1, ← hO1] at HRA
  clear hE1 hO1 hp1
  obtain ⟨E2, hE2⟩ : ∃ E2, E2 = rowE ys := ⟨_, rfl⟩
  obtain ⟨O2, hO2⟩ : ∃ O2, O2 = rowO j ys := ⟨_, rfl⟩
  obtain ⟨p2, hp2⟩ : ∃ p2, p2 = O2.length := ⟨_, rfl⟩
  have HE2 := Lib.hid hE2
  have HO2 := Lib.hid hO2
  have Hp2 := Lib.hid hp2
  rw [← hE2, ← hO2] at HRB
  clear hE2 hO2 hp2
  obtain ⟨E3, hE3⟩ : ∃ E3, E3 = verE b f us := ⟨_, rfl⟩
  obtain ⟨O3, hO3⟩ : ∃ O3, O3 = verO b f us := ⟨_, rfl⟩
  obtain ⟨p3, hp3⟩ : ∃ p3, p3 = O3.length := ⟨_, rfl⟩
  have HE3 := Lib.hid hE3
  have HO3 := Lib.hid hO3
  have Hp3 := Lib.hid hp3
  rw [← hE3, ← hO3] at HVA
  clear hE3 hO3 hp3
  obtain ⟨E4, hE4⟩ : ∃ E4, E4 = verE b' f' vs := ⟨_, rfl⟩
  obtain ⟨O4, hO4⟩ : ∃ O4, O4 = verO b' f' vs := ⟨_, rfl⟩
  obtain ⟨p4, hp4⟩ : ∃ p4, p4 = O4.length := ⟨_, rfl⟩
  have HE4 := Lib.hid hE4
  have HO4 := Lib.hid hO4
  have Hp4 := Lib.hid hp4
  rw [← hE4, ← hO4] at HVB
  clear hE4 hO4 hp4
  clear hn hm hul hvl hk hW0 hb0 hx hy hu hv h1 h2 h3 h4
  go_enter Try.func7, Try.ntmps7
  go_upto_region 8 with (first
    | (go_at_call 8; rw [← HW0.out]; refine (wakes_any W0).mono ?_; rintro e w1 ⟨rfl, hb1⟩; have HB1 := Lib.hid hb1; obtain ⟨⟨s0, s1, s2, s3⟩, s4, s5, s6, s7, s8, s9⟩ := HK.out w1 hb1; clear hb1)
    | (go_at_call 10; (with_reducible refine (HRA.out w1 HB1.out).mono ?_); rintro e w3 ⟨A3, cA3, rfl, hs3, hb3⟩; rw [← Hp1.out]; have HS3 := Lib.hid hs3; have HB3 := Lib.hid (HB1.out.trans (hb3.mono HB1.out.size)); obtain ⟨z0, z1, z2, z3⟩ := (HK.out w3 HB3.out).1; clear hs3 hb3)
    | (go_at_call 10; (with_reducible refine (HRB.out w3 HB3.out).mono ?_); rintro e w4 ⟨A4, cA4, rfl, hs4, hb4⟩; rw [← Hp2.out]; have HS4 := Lib.hid hs4; have HB4 := Lib.hid (HB3.out.trans (hb4.mono HB3.out.size)); have HS3b := Lib.hid (HS3.out.below hb4); clear hs4 hb4))
  clear s0 s1 s2 s3 s4 s5 s6 s7 s8 s9
  try clear z0 z1 z2 z3
  go_cut [63] from 12 (fun x wx => x = .bool false ∧ Hid (Below W0.heap.size W0 wx))
  case first =>
    by_cases hr1 : right xs = true
    · have e1 : E1 = 0 := by rw [HE1.out]; unfold rowE; rw [if_pos hr1]
      by_cases hr2 : right ys = true
      · have e2 : E2 = 0 := by rw [HE2.out]; unfold rowE; rw [if_pos hr2]
        have o1 : O1 = rowB i xs := by rw [HO1.out]; unfold rowO; rw [if_pos hr1]
        have o2 : O2 = rowB j ys := by rw [HO2.out]; unfold rowO; rw [if_pos hr2]
        have HOa := Lib.hid (show Oct O1 by rw [o1]; exact rowB_oct i xs)
        have HOb := Lib.hid (show Oct O2 by rw [o2]; exact rowB_oct j ys)
        have HSa := HS3b
        have HSb := HS4
        obtain ⟨S, hS⟩ : ∃ S, sameR i j xs ys = S := ⟨_, rfl⟩
        have HSS := Lib.hid hS
        have HM := Lib.hid (show apartM O1 O2 = !S by rw [o1, o2, ← hS]; exact apartM_iff (row_meet hr1 hr2 hi hj))
        have hq : ((!S) == S) = false := by cases S <;> rfl
        subst e1
        subst e2
        clear hr1 hr2 o1 o2 hS
        have HAP := Lib.hid (fun (X : World) (hX : Below w4.heap.size w4 X) => show Calls Try.prog 33 #[.slice A3 p1 cA3, .slice A4 p2 cA4] X fun e w' => e = .returned (.bool (!S)) ∧ Below X.heap.size X w' from by
          have h := apart_any A3 A4 cA3 cA4 O1 O2 X (vec8 (HSa.out.below hX) HOa.out) (vec8 (HSb.out.below hX) HOb.out)
          rw [HM.out, ← Hp1.out, ← Hp2.out] at h
          exact h)
        have HSM := Lib.hid (fun (X : World) (hX : Below W0.heap.size W0 X) => show Calls Try.prog 16 #[.agg #[.int .u64 i, .slice A n c], .agg #[.int .u64 j, .slice A1 m c1]] X fun e w' => e = .returned (.bool S) ∧ Below X.heap.size X w' from by
          have h := HSR.out X hX
          rw [HSS.out] at h
          exact h)
        have HBd := Lib.hid (below_drew HB4.out)
        have HDd := Lib.hid (below_drew (Below.refl w4.heap.size w4))
        have SA := Lib.hid (HK.out _ HBd.out).1
        clear HSS HM HSa HSb HOa HOb
        go_region_held3 (fun X => X.cell? ⟨w.heap.size, 0, none⟩ = some (.int .u64 i) ∧ X.cell? ⟨w.heap.size, 1, none⟩ = some (.slice A n c) ∧ X.cell? ⟨w.heap.size + 1, 0, none⟩ = some (.int .u64 j) ∧ X.cell? ⟨w.heap.size + 1, 1, none⟩ = some (.slice A1 m c1)) (first | exact SA.out | exact SB.out | exact SC.out) (first
          | (go_at_call 33; (with_reducible refine (HAP.out w4.drew HDd.out).mono ?_); rintro e wy ⟨rfl, hby⟩; have HBy := Lib.hid (HBd.out.trans (hby.mono HBd.out.size)); have SB := Lib.hid (HK.out wy HBy.out).1; clear hby)
          | (go_at_call 16; (with_reducible refine (HSM.out wy HBy.out).mono ?_); rintro e wz ⟨rfl, hbz⟩; have HBz := Lib.hid (HBy.out.trans (hbz.mono HBy.out.size)); have SC := Lib.hid (HK.out wz HBz.out).1; clear hbz)
          | (go_at_call 16; (with_reducible refine (HSM.out w4.drew HBd.out).mono ?_); rintro e wy ⟨rfl, hby⟩; have HBy := Lib.hid (HBd.out.trans (hby.mono HBd.out.size)); have HDy := Lib.hid (HDd.out.trans (hby.mono HDd.out.size)); have SB := Lib.hid (HK.out wy HBy.out).1; clear hby)
          | (go_at_call 33; (with_reducible refine (HAP.out wy HDy.out).mono ?_); rintro e wz ⟨rfl, hbz⟩; have HBz := Lib.hid (HBy.out.trans (hbz.mono HBy.out.size)); have SC := Lib.hid (HK.out wz HBz.out).1; clear hbz))
        all_goals (
          go_wp2
          go_meet
          case rel => exact ⟨by simp [hq], HBz⟩)
      · have e2 : E2 = 170 := by rw [HE2.out]; unfold rowE; rw [if_neg hr2]
        subst e1
        subst e2
        clear hr1 hr2
        go_wp2
        go_quiet (fail)
        go_wp2
        go_meet
        case rel => exact ⟨rfl, Lib.hid (below_drewN HB4.out _)⟩
    · have e1 : E1 = 170 := by rw [HE1.out]; unfold rowE; rw [if_neg hr1]
      subst e1
      clear hr1
      go_wp2
      go_quiet (fail)
      go_wp2
      go_meet
      case rel => exact ⟨rfl, Lib.hid (below_drewN HB4.out _)⟩
  obtain ⟨rfl, HBc⟩ := hcut
  clear HB3 HS3 HS3b HB1 HB4 HS4
  obtain ⟨⟨s0, s1, s2, s3⟩, s4, s5, s6, s7, s8, s9⟩ := HK.out wc HBc.out
  go_upto_region 12 with (first
    | (go_at_call 11; (with_reducible refine (HVA.out wc HBc.out).mono ?_); rintro e w3 ⟨A3, cA3, rfl, hs3, hb3⟩; rw [← Hp3.out]; have HS3 := Lib.hid hs3; have HB3 := Lib.hid (HBc.out.trans (hb3.mono HBc.out.size)); obtain ⟨z0, z1, z2, z3, z4, z5⟩ := (HK.out w3 HB3.out).2; clear hs3 hb3)
    | (go_at_call 11; (with_reducible refine (HVB.out w3 HB3.out).mono ?_); rintro e w4 ⟨A4, cA4, rfl, hs4, hb4⟩; rw [← Hp4.out]; have HS4 := Lib.hid hs4; have HB4 := Lib.hid (HB3.out.trans (hb4.mono HB3.out.size)); have HS3b := Lib.hid (HS3.out.below hb4); clear hs4 hb4))
  clear s0 s1 s2 s3 s4 s5 s6 s7 s8 s9
  try clear z0 z1 z2 z3 z4 z5
  by_cases hr1 : verR b f us = true
  · have e1 : E3 = 0 := by rw [HE3.out]; unfold verE; rw [if_pos hr1]
    by_cases hr2 : verR b' f' vs = true
    · have e2 : E4 = 0 := by rw [HE4.out]; unfold verE; rw [if_pos hr2]
      have o1 : O3 = verB b f us := by rw [HO3.out]; unfold verO; rw [if_pos hr1]
      have o2 : O4 = verB b' f' vs := by rw [HO4.out]; unfold verO; rw [if_pos hr2]
      have HOa := Lib.hid (show Oct O3 by rw [o1]; exact verB_oct b f us)
      have HOb := Lib.hid (show Oct O4 by rw [o2]; exact verB_oct b' f' vs)
      have HSa := HS3b
      have HSb := HS4
      obtain ⟨S, hS⟩ : ∃ S, sameV b b' f f' us vs = S := ⟨_, rfl⟩
      have HSS := Lib.hid hS
      have HM := Lib.hid (show apartM O3 O4 = !S by rw [o1, o2, ← hS]; exact apartM_iff (ver_meet hr1 hr2 hb hb' hf hf'))
      have hq : ((!S) != S) = true := by cases S <;> rfl
      subst e1
      subst e2
      clear hr1 hr2 o1 o2 hS
      have HAP := Lib.hid (fun (X : World) (hX : Below w4.heap.size w4 X) => show Calls Try.prog 33 #[.slice A3 p3 cA3, .slice A4 p4 cA4] X fun e w' => e = .returned (.bool (!S)) ∧ Below X.heap.size X w' from by
        have h := apart_any A3 A4 cA3 cA4 O3 O4 X (vec8 (HSa.out.below hX) HOa.out) (vec8 (HSb.out.below hX) HOb.out)
        rw [HM.out, ← Hp3.out, ← Hp4.out] at h
        exact h)
      have HSM := Lib.hid (fun (X : World) (hX : Below W0.heap.size W0 X) => show Calls Try.prog 14 #[.agg #[.int .u64 b, .int .u64 f, .slice B u d], .agg #[.int .u64 b', .int .u64 f', .slice B1 v d1]] X fun e w' => e = .returned (.bool S) ∧ Below X.heap.size X w' from by
        have h := HSV.out X hX
        rw [HSS.out] at h
        exact h)
      have HBd := Lib.hid (below_drew HB4.out)
      have HDd := Lib.hid (below_drew (Below.refl w4.heap.size w4))
      have SA := Lib.hid (HK.out _ HBd.out).2
      clear HSS HM HSa HSb HOa HOb
      go_region_held3 (fun X => X.cell? ⟨w.heap.size + 1 + 1, 0, none⟩ = some (.int .u64 b) ∧ X.cell? ⟨w.heap.size + 1 + 1, 1, none⟩ = some (.int .u64 f) ∧ X.cell? ⟨w.heap.size + 1 + 1, 2, none⟩ = some (.slice B u d) ∧ X.cell? ⟨w.heap.size + 1 + 1, 3, none⟩ = some (.int .u64 b') ∧ X.cell? ⟨w.heap.size + 1 + 1, 4, none⟩ = some (.int .u64 f') ∧ X.cell? ⟨w.heap.size + 1 + 1, 5, none⟩ = some (.slice B1 v d1)) (first | exact SA.out | exact SB.out | exact SC.out) (first
        | (go_at_call 33; (with_reducible refine (HAP.out w4.drew HDd.out).mono ?_); rintro e wy ⟨rfl, hby⟩; have HBy := Lib.hid (HBd.out.trans (hby.mono HBd.out.size)); have SB := Lib.hid (HK.out wy HBy.out).2; clear hby)
        | (go_at_call 14; (with_reducible refine (HSM.out wy HBy.out).mono ?_); rintro e wz ⟨rfl, hbz⟩; have HBz := Lib.hid (HBy.out.trans (hbz.mono HBy.out.size)); have SC := Lib.hid (HK.out wz HBz.out).2; clear hbz)
        | (go_at_call 14; (with_reducible refine (HSM.out w4.drew HBd.out).mono ?_); rintro e wy ⟨rfl, hby⟩; have HBy := Lib.hid (HBd.out.trans (hby.mono HBd.out.size)); have HDy := Lib.hid (HDd.out.trans (hby.mono HDd.out.size)); have SB := Lib.hid (HK.out wy HBy.out).2; clear hby)
        | (go_at_call 33; (with_reducible refine (HAP.out wy HDy.out).mono ?_); rintro e wz ⟨rfl, hbz⟩; have HBz := Lib.hid (HBy.out.trans (hbz.mono HBy.out.size)); have SC := Lib.hid (HK.out wz HBz.out).2; clear hbz))
      all_goals (
        go_wp2
        go_ret
        exact ⟨by simp [hq], HB0.out.trans (HBz.out.mono HB0.out.size)⟩)
    · have e2 : E4 = 171 := by rw [HE4.out]; unfold verE; rw [if_neg hr2]
      subst e1
      subst e2
      clear hr1 hr2
      go_wp2
      go_quiet (fail)
      go_wp2
      go_ret
      exact ⟨rfl, below_drewN (HB0.out.trans (HB4.out.mono HB0.out.size)) _⟩
  · have e1 : E3 = 171 := by rw [HE3.out]; unfold verE; rw [if_neg hr1]
    subst e1
    clear hr1
    go_wp2
    go_quiet (fail)
    go_wp2
    go_ret
    exact ⟨rfl, below_drewN (HB0.out.trans (HB4.out.mono HB0.out.size)) _⟩

theorem walk {w : World} (i : Int) (A : Option Addr) (c : Nat) (xs : List Int) (wi : (Lit.int .u64 i).wf = true) (hx : Vec .i32 w A c xs) (j : Int) (A1 : Option Addr) (c1 : Nat) (ys : List Int) (wj : (Lit.int .u64 j).wf = true) (hy : Vec .i32 w A1 c1 ys) (b f : Int) (B : Option Addr) (d : Nat) (us : List Int) (wb : (Lit.int .u64 b).wf = true) (wf : (Lit.int .u64 f).wf = true) (hu : Vec .i32 w B d us) (b' f' : Int) (B1 : Option Addr) (d1 : Nat) (vs : List Int) (wb' : (Lit.int .u64 b').wf = true) (wf' : (Lit.int .u64 f').wf = true) (hv : Vec .i32 w B1 d1 vs) :
    Calls Try.prog 7 #[.agg #[.int .u64 i, .slice A xs.length c], .agg #[.int .u64 j, .slice A1 ys.length c1], .agg #[.int .u64 b, .int .u64 f, .slice B us.length d, .int .u64 b', .int .u64 f', .slice B1 vs.length d1]] w fun e w' => e = .returned (.bool true) ∧ Below w.heap.size w w' := by
  by_cases h : 100 < xs.length ∨ 100 < ys.length ∨ 100 < us.length ∨ 100 < vs.length
  · exact walk_big i A c xs.length j A1 c1 ys.length b f B d us.length b' f' B1 d1 vs.length h
  · exact walk_small i A c xs wi hx j A1 c1 ys wj hy b f B d us wb wf hu b' f' B1 d1 vs wb' wf' hv (by omega) (by omega) (by omega) (by omega)

set_option maxRecDepth 100000 in
theorem lifted (os : Os) (started : os.Started) (H : Type) (enc : TypeId × Value → H) :
    ReturnsInHanded {} Try.checked os 7 .any (Rows.codecApartSpec.pre6 enc Try.prog Try.f7 Rows.codecApartRow.domain false) (Rows.codecApartSpec.post enc Try.prog Try.f7 false true false false) := by
  refine returnsInHanded_of_change (C := Try.checked) Try.own started (by kernel_rfl) Try.func7
    (ChangeSpec.witness6 (enc := enc) (C := Try.checked) false ⟨#[], #[.agg #[.int .u64 0, .slice none 0 0], .agg #[.int .u64 0, .slice none 0 0], .agg #[.int .u64 0, .int .u64 0, .slice none 0 0, .int .u64 0, .int .u64 0, .slice none 0 0]], []⟩ 8 (by kernel_rfl) (by kernel_rfl) (by kernel_rfl) (by kernel_rfl)) ?_
  intro W base args ds gs before hval0 hW hcnd _
  have hval : ∀ (j : Nat) t v, Try.f7.params[j]? = some t → args[j]? = some v → Value.okWide Try.prog W .any base t v := hval0
  have hW' := hW
  obtain ⟨p, q, hA0, hV, rfl, hfz, hnd⟩ := hW
  have hA : DataW.TrodAll enc Try.prog W 0 (fun _ => true) true Try.f7.params.toList args.toList ds p := hA0
  rw [Try.params7] at hA hval
  have hA' := hA
  obtain ⟨v0, vs0, d0, ds0, p0, q0, hargs, rfl, rfl, h0, r0⟩ := trodAll_cons hA
  obtain ⟨v1, vs1, d1, ds1, p1, q1, rfl, rfl, rfl, h1, r1⟩ := trodAll_cons r0
  obtain ⟨v2, vs2, d2, ds2, p2, q2, rfl, rfl, rfl, h2, r2⟩ := trodAll_cons r1
  obtain ⟨rfl, rfl, rfl⟩ := trodAll_nil r2
  obtain rfl : args = #[v0, v1, v2] := by cases args; simp_all
  obtain ⟨rfl, rfl⟩ := trodVars_none hV
  obtain ⟨i0, A0, c0, l0, rfl, w0, H0⟩ := open_row (hval 0 25 v0 rfl rfl) h0
  obtain ⟨i1, A1, c1, l1, rfl, w1, H1⟩ := open_row (hval 1 25 v1 rfl rfl) h1
  obtain ⟨b, f, A, c, l, b', f', A', c', l', rfl, ⟨wa, wb, hx⟩, ⟨ua, ub, hy⟩⟩ := open_vers (hval 2 57 v2 rfl rfl) h2
  clear hA0 hval0
  refine (walk i0 A0 c0 l0 w0 H0 i1 A1 c1 l1 w1 H1 b f A c l wa wb hx b' f' A' c' l' ua ub hy).mono fun e W' ⟨he, bel⟩ => ?_
  subst he
  exact ⟨_, rfl, _, _, _, [], _, [], hW', trodAll_mk1 (shut_bool Try.underlying4 _), trodAll_below bel _ _ _ _ (by kernel_rfl) hA', rfl, bel.frame _, fun h => by cases h⟩

theorem proved : Rows.CodecApartSaid :=
  OpenClaim.holds_of_wide 7 Try.f7 rfl rfl rfl rfl rfl rfl rfl ⟨rfl, rfl, rfl, rfl, rfl⟩ rfl rfl rfl rfl rfl (by kernel_rfl) Try.func7 (by kernel_rfl)
    (of_decide_eq_true (by kernel_rfl)) (by unfold Func.isWrapper; first | (rw [if_pos (by decide +kernel)]; kernel_rfl) | (rw [if_neg (by decide +kernel)]; exact ⟨rfl, rfl⟩))
    (fun os started H enc _ => lifted os started H enc)
#print axioms proved
end Go.Proofs.Ythbpnngfdpdjkaa.codecApart

