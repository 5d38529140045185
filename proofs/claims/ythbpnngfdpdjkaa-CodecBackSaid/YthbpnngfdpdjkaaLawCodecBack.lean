/-
  Proved: the law CodecBack, what is taken from bytes of something, and whatever stands behind them, is that, and as many bytes, and less of them is too short, returns true for every row, version and bytes, and leaves all memory as it was. No condition.
-/
import Derived.Test.YthbpnngfdpdjkaaCodEq
import Derived.Test.YthbpnngfdpdjkaaLawFrame
import Derived.Deep.Cut
namespace Go.Proofs.Ythbpnngfdpdjkaa.codecBack
open Go.ChangeShapes Go.WideShapes Go.ChangeAt Go.RowKit
set_option linter.unusedVariables false
set_option linter.unusedSimpArgs false
set_option maxRecDepth 100000

/-- Less of the bytes is too short. -/
def ShortR (V : World) (e : Ending) (w' : World) : Prop := ∃ N I X A c, e = .returned (.tuple #[.agg #[.int .u64 I, .slice A X c], .int .i64 N, .int .i64 7]) ∧ Below V.heap.size V w'
def ShortW (V : World) (e : Ending) (w' : World) : Prop := ∃ N I J X A c, e = .returned (.tuple #[.agg #[.int .u64 I, .int .u64 J, .slice A X c], .int .i64 N, .int .i64 7]) ∧ Below V.heap.size V w'

theorem walk_big {w : World} (i : Int) (A : Option Addr) (c n : Nat) (b f : Int) (A1 : Option Addr) (c1 m : Nat) (A2 : Option Addr) (c2 k : Nat) (hbig : 100 < n ∨ 100 < m ∨ 100 < k) :
    Calls Try.prog 5 #[.agg #[.int .u64 i, .slice A n c], .agg #[.int .u64 b, .int .u64 f, .slice A1 m c1], .slice A2 k c2] w fun e w' => e = .returned (.bool true) ∧ Below w.heap.size w w' := by
  obtain ⟨W0, hW0⟩ : ∃ W0, W0 = ((w.alloc (.cells #[.int .u64 i, .slice A n c] 25)).alloc (.cells #[.int .u64 b, .int .u64 f, .slice A1 m c1] 27)) := ⟨_, rfl⟩
  have hb0 : Below w.heap.size w W0 := by rw [hW0]; exact ((Below.refl _ w).alloc (Nat.le_refl _) _).alloc (by simp) _
  have hk : ∀ V : World, Below W0.heap.size W0 V → (V.cell? ⟨w.heap.size, 0, none⟩ = some (.int .u64 i) ∧ V.cell? ⟨w.heap.size, 1, none⟩ = some (.slice A n c)) ∧ (V.cell? ⟨w.heap.size + 1, 0, none⟩ = some (.int .u64 b) ∧ V.cell? ⟨w.heap.size + 1, 1, none⟩ = some (.int .u64 f) ∧ V.cell? ⟨w.heap.size + 1, 2, none⟩ = some (.slice A1 m c1)) := by
    have q0 : W0.heap[w.heap.size]? = some (.cells #[.int .u64 i, .slice A n c] 25 (0, 0)) := by rw [hW0]; exact (Below.heap_alloc _ _ _ (by simp)).trans (heap_alloc_new w _)
    have q1 : W0.heap[w.heap.size + 1]? = some (.cells #[.int .u64 b, .int .u64 f, .slice A1 m c1] 27 (0, 0)) := by
      rw [hW0]
      have := heap_alloc_new (w.alloc (.cells #[.int .u64 i, .slice A n c] 25)) (.cells #[.int .u64 b, .int .u64 f, .slice A1 m c1] 27)
      rwa [World.size_alloc] at this
    intro V hV
    have r0 := (hV.block _ (lt_of_block q0)).trans q0
    have r1 := (hV.block _ (lt_of_block q1)).trans q1
    exact ⟨⟨(cell_of_row _ _ 0 _ _ _ r0).trans rfl, (cell_of_row _ _ 1 _ _ _ r0).trans rfl⟩, (cell_of_row _ _ 0 _ _ _ r1).trans rfl, (cell_of_row _ _ 1 _ _ _ r1).trans rfl, (cell_of_row _ _ 2 _ _ _ r1).trans rfl⟩
  have HK := Lib.hid hk
  have HW0 := Lib.hid hW0
  have HB0 := Lib.hid hb0
  clear hk hW0 hb0
  have go : ∀ (x y z : Bool), decide ((100 : Int) < (n : Int)) = x → decide ((100 : Int) < (m : Int)) = y → decide ((100 : Int) < (k : Int)) = z → (x || y || z) = true →
      Calls Try.prog 5 #[.agg #[.int .u64 i, .slice A n c], .agg #[.int .u64 b, .int .u64 f, .slice A1 m c1], .slice A2 k c2] w fun e w' => e = .returned (.bool true) ∧ Below w.heap.size w w' := by
    intro x y z hx hy hz hor
    clear hbig
    cases x <;> cases y <;> cases z <;> first
      | (exfalso; simp at hor; done)
      | (clear hor
         go_enter Try.func5, Try.ntmps5
         go_wp2_with (go_at_call 8; rw [← HW0.out]; refine (wakes_any W0).mono ?_; rintro e w1 ⟨rfl, hb1⟩; have HB1 := Lib.hid hb1; obtain ⟨⟨r0, r1⟩, s0, s1, s2⟩ := HK.out w1 hb1; clear hb1)
         go_ret
         exact ⟨rfl, HB0.out.trans (HB1.out.mono HB0.out.size)⟩)
  exact go _ _ _ rfl rfl rfl (by simp; omega)

set_option maxHeartbeats 4000000 in
theorem walk_small {w : World} (i : Int) (A : Option Addr) (c : Nat) (xs : List Int) (wi : (Lit.int .u64 i).wf = true) (hx : Vec .i32 w A c xs) (b f : Int) (A1 : Option Addr) (c1 : Nat) (ys : List Int) (wb : (Lit.int .u64 b).wf = true) (wf : (Lit.int .u64 f).wf = true) (hy : Vec .i32 w A1 c1 ys) (A2 : Option Addr) (c2 : Nat) (tl : List Int) (ht : Sl w A2 c2 tl) (ho : Oct tl)
    (h1 : xs.length ≤ 100) (h2 : ys.length ≤ 100) (h3 : tl.length ≤ 100) :
    Calls Try.prog 5 #[.agg #[.int .u64 i, .slice A xs.length c], .agg #[.int .u64 b, .int .u64 f, .slice A1 ys.length c1], .slice A2 tl.length c2] w fun e w' => e = .returned (.bool true) ∧ Below w.heap.size w w' := by
  obtain ⟨n, hn⟩ : ∃ n, n = xs.length := ⟨_, rfl⟩
  obtain ⟨m, hm⟩ : ∃ m, m = ys.length := ⟨_, rfl⟩
  obtain ⟨k, hkk⟩ : ∃ k, k = tl.length := ⟨_, rfl⟩
  rw [← hn, ← hm, ← hkk]
  obtain ⟨W0, hW0⟩ : ∃ W0, W0 = ((w.alloc (.cells #[.int .u64 i, .slice A n c] 25)).alloc (.cells #[.int .u64 b, .int .u64 f, .slice A1 m c1] 27)) := ⟨_, rfl⟩
  have hb0 : Below w.heap.size w W0 := by rw [hW0]; exact ((Below.refl _ w).alloc (Nat.le_refl _) _).alloc (by simp) _
  have hk : ∀ V : World, Below W0.heap.size W0 V → (V.cell? ⟨w.heap.size, 0, none⟩ = some (.int .u64 i) ∧ V.cell? ⟨w.heap.size, 1, none⟩ = some (.slice A n c)) ∧ (V.cell? ⟨w.heap.size + 1, 0, none⟩ = some (.int .u64 b) ∧ V.cell? ⟨w.heap.size + 1, 1, none⟩ = some (.int .u64 f) ∧ V.cell? ⟨w.heap.size + 1, 2, none⟩ = some (.slice A1 m c1)) := by
    have q0 : W0.heap[w.heap.size]? = some (.cells #[.int .u64 i, .slice A n c] 25 (0, 0)) := by rw [hW0]; exact (Below.heap_alloc _ _ _ (by simp)).trans (heap_alloc_new w _)
    have q1 : W0.heap[w.heap.size + 1]? = some (.cells #[.int .u64 b, .int .u64 f, .slice A1 m c1] 27 (0, 0)) := by
      rw [hW0]
      have := heap_alloc_new (w.alloc (.cells #[.int .u64 i, .slice A n c] 25)) (.cells #[.int .u64 b, .int .u64 f, .slice A1 m c1] 27)
      rwa [World.size_alloc] at this
    intro V hV
    have r0 := (hV.block _ (lt_of_block q0)).trans q0
    have r1 := (hV.block _ (lt_of_block q1)).trans q1
    exact ⟨⟨(cell_of_row _ _ 0 _ _ _ r0).trans rfl, (cell_of_row _ _ 1 _ _ _ r0).trans rfl⟩, (cell_of_row _ _ 0 _ _ _ r1).trans rfl, (cell_of_row _ _ 1 _ _ _ r1).trans rfl, (cell_of_row _ _ 2 _ _ _ r1).trans rfl⟩
  have HK := Lib.hid hk
  have HW0 := Lib.hid hW0
  have HB0 := Lib.hid hb0
  have HXR := Lib.hid (fun (V : World) (hV : Below W0.heap.size W0 V) => (hx.below hb0).below hV)
  have HXW := Lib.hid (fun (V : World) (hV : Below W0.heap.size W0 V) => (hy.below hb0).below hV)
  have HTS := Lib.hid (fun (V : World) (hV : Below W0.heap.size W0 V) => (ht.below hb0).below hV)
  have HTO := Lib.hid ho
  have HTL := Lib.hid hkk.symm
  have HNR := Lib.hid hn
  have HNW := Lib.hid hm
  have hi := layu_fit wi
  have hbb := layu_fit wb
  have hff := layu_fit wf
  have HRow := Lib.hid (fun (V : World) (hV : Below W0.heap.size W0 V) => row_any i A c xs V wi (HXR.out V hV))
  have HVer := Lib.hid (fun (V : World) (hV : Below W0.heap.size W0 V) => ver_any b f A1 c1 ys V wb wf (HXW.out V hV))
  rw [← hn] at HRow
  rw [← hm] at HVer
  have t1 : decide ((100 : Int) < (n : Int)) = false := by simp; omega
  have t2 : decide ((100 : Int) < (m : Int)) = false := by simp; omega
  have t3 : decide ((100 : Int) < (k : Int)) = false := by simp; omega
  have hk100 : k ≤ 100 := by omega
  obtain ⟨E1, hE1⟩ : ∃ E1, E1 = rowE xs := ⟨_, rfl⟩
  obtain ⟨E2, hE2⟩ : ∃ E2, E2 = verE b f ys := ⟨_, rfl⟩
  obtain ⟨O1, hO1⟩ : ∃ O1, O1 = rowO i xs := ⟨_, rfl⟩
  obtain ⟨O2, hO2⟩ : ∃ O2, O2 = verO b f ys := ⟨_, rfl⟩
  rw [← hE1, ← hO1] at HRow
  rw [← hE2, ← hO2] at HVer
  have HER := Lib.hid hE1
  have HEW := Lib.hid hE2
  have HOR := Lib.hid hO1
  have HOW := Lib.hid hO2
  obtain ⟨p, hp⟩ : ∃ p, p = O1.length := ⟨_, rfl⟩
  have HP := Lib.hid hp
  clear hn hm hkk hk hW0 hb0 hx hy ht ho h1 h2 h3 hE1 hE2 hO1 hO2 hp
  go_enter Try.func5, Try.ntmps5
  go_upto_if 48 with (first
    | (go_at_call 8; rw [← HW0.out]; refine (wakes_any W0).mono ?_; rintro e w1 ⟨rfl, hb1⟩; have HB1 := Lib.hid hb1; obtain ⟨⟨r0, r1⟩, s0, s1, s2⟩ := HK.out w1 hb1; clear hb1)
    | (go_at_call 10; refine (HRow.out w1 HB1.out).mono ?_; rintro e w3 ⟨A3, c3, rfl, hs3, hb3⟩; rw [← HP.out]; have HS3 := Lib.hid hs3; have HB3 := Lib.hid (HB1.out.trans (hb3.mono HB1.out.size)); clear hs3 hb3))
  clear r0 r1 s0 s1 s2
  go_cut [] from 25 (fun wx => Hid (Below W0.heap.size W0 wx))
  case first =>
    cases hr : right xs with
    | true =>
      have e1 : E1 = 0 := by rw [HER.out]; unfold rowE; rw [if_pos hr]
      have e2 : O1 = rowB i xs := by rw [HOR.out]; unfold rowO; rw [if_pos hr]
      subst e1
      have hoP : Oct O1 := by rw [e2]; exact rowB_oct i xs
      have hlP : O1.length ≤ 500 := by rw [e2]; have := right_len hr; unfold rowB; simp [numB_len, vecB_len]; omega
      have hp := HP.out
      have hq : p + k = (O1 ++ tl).length := by rw [hp, List.length_append, HTL.out]
      have HQ := Lib.hid hq
      have HT := Lib.hid (fun (V : World) (A4 : Option Addr) (c4 : Nat) (hs : Sl V A4 c4 (O1 ++ tl)) => show Calls Try.prog 26 #[.slice A4 (p + k) c4] V (GivesTR V (0, (p : Int), i, xs)) from by
        have h := takeRow_any A4 c4 (O1 ++ tl) V hs (hoP.append HTO.out) (by rw [← hq]; omega)
        rw [tkR_eq _ (hoP.append HTO.out), e2, tr_back i xs tl hr hi, ← e2, ← hp, ← hq] at h
        exact h)
      have HTs := Lib.hid (fun (V : World) (j : Nat) (hj : j < p) (hs : Sl V A3 c3 O1) => show Calls Try.prog 26 #[.slice A3 j c3] V (ShortR V) from by
        have h := takeRow_any A3 c3 (O1.take j) V (hs.begin j) (hoP.take j) (by simp; omega)
        have h7 : (tkR (O1.take j)).1 = 7 := by rw [tkR_eq _ (hoP.take j), e2]; exact tr_short i xs hr j (by rw [← e2]; omega)
        rw [List.length_take, Nat.min_eq_left (by omega)] at h
        refine h.mono ?_
        rintro e w' ⟨A', c', rfl, _, hb⟩
        rw [h7]
        exact ⟨_, _, _, _, _, rfl, hb⟩)
      have HC := Lib.hid (fun (V : World) (hs : Sl V A3 c3 O1) => show Calls Try.prog 31 #[.slice A3 p c3] V (GivesB V O1) from by rw [hp]; exact clone_b A3 c3 O1 V hs (by omega))
      have HSM := Lib.hid (fun (V : World) (A5 : Option Addr) (c5 : Nat) (hv : Vec .i32 V A5 c5 xs) (hv' : Vec .i32 V A c xs) => sameRow_any i i A5 A c5 c xs xs V hv hv')
      rw [show sameR i i xs xs = true from by simp [sameR]] at HSM
      rw [← HNR.out] at HSM
      have hpb : p ≤ 500 := by omega
      have hroom := HS3.out.room
      have hmost := HS3.out.most
      rw [← hp] at hroom
      clear hr e2 hoP hlP hp hq
      go_wp2_with (first
        | (go_at_call 31; refine (HC.out w3 HS3.out).mono ?_; rintro e w4 ⟨A4, c4, rfl, hn4, hb4⟩; rw [← HP.out]; have HN4 := Lib.hid (show w4.ownsRow w3.heap.size 5 1 (.slice A4 p c4) p (O1.map (Value.int .u8)) from by have h := hn4; unfold New at h; rw [← HP.out] at h; exact h); have HB4 := Lib.hid hb4; have HR4 := Lib.hid ((HTS.out w4 (HB3.out.trans (hb4.mono HB3.out.size))).rd); clear hn4 hb4)
        | (at_builtin; refine app_b rfl (.tmp 51) (.tmp 52) rfl w3.heap.size (.slice A4 p c4) p (O1.map (Value.int .u8)) rfl HN4.out A2 c2 k tl rfl HTL.out HR4.out (by omega) HB4.out.size ?_; intro v5 w5 hown5 hg5; have hB5 : Below w3.heap.size w3 w5 := HB4.out.grown hg5 HB4.out.size (by intro j hj; exact (HN4.out.lt j hj).1); obtain ⟨A5, c5, rfl, hn5⟩ := new_of (bs := O1 ++ tl) hown5 (by simp) HQ.out; rw [← HQ.out]; have HB5 := Lib.hid (HB3.out.trans (hB5.mono HB3.out.size)); have HC5 := Lib.hid hB5; have HT5 := Lib.hid (HT.out w5 A5 c5 hn5.sl); clear hown5 hg5 hB5 hn5)
        | (go_at_call 26; refine HT5.out.mono ?_; rintro e w6 ⟨A6, c6, rfl, hv6, hb6⟩; dsimp only at hv6 ⊢; rw [← HNR.out]; have hB6 := HB5.out.trans (hb6.mono HB5.out.size); have hbx6 : Below w6.heap.size w6 (w6.alloc (.cells #[.int .u64 i, .slice A6 n c6] 25)) := (Below.refl _ w6).alloc (Nat.le_refl _) _; have hB7 := hB6.trans (hbx6.mono hB6.size); obtain ⟨⟨r0, r1⟩, s0, s1, s2⟩ := HK.out _ hB7; have HSM7 := Lib.hid (HSM.out _ A6 c6 (hv6.below hbx6) ((HXR.out _ hB7))); have HB7 := Lib.hid hB7; have hC6 := HC5.out.trans (hb6.mono HC5.out.size); have HC7 := Lib.hid (hC6.trans (hbx6.mono hC6.size)); clear hC6 hv6 hb6 hB6 hbx6 hB7)
        | (go_at_call 16; refine HSM7.out.mono ?_; rintro e w8 ⟨rfl, hb8⟩; have HB8 := Lib.hid (HB7.out.trans (hb8.mono HB7.out.size)); have HC8 := Lib.hid (HC7.out.trans (hb8.mono HC7.out.size)); clear hb8))
      go_loopw [74] (fun x wr => ∃ j : Nat, j ≤ p ∧ x = .int .i64 j ∧ Hid (Below W0.heap.size W0 wr) ∧ Hid (Below w3.heap.size w3 wr)) (fun x _ => p - (intOf x).toNat)
      case atStart => exact ⟨0, Nat.zero_le _, rfl, HB8, HC8⟩
      case round =>
        obtain ⟨j, hj, rfl, HBr, HCr⟩ := hrel
        by_cases hjp : j < p
        · have HTj := Lib.hid (HTs.out wr j hjp (HS3.out.below HCr.out))
          go_wp2_with fail
          refine HTj.out.mono ?_
          rintro e wt ⟨N, I, X, Ax, cx, rfl, hbt⟩
          have HBt := Lib.hid (HBr.out.trans (hbt.mono HBr.out.size)); have HCt := Lib.hid (HCr.out.trans (hbt.mono HCr.out.size))
          clear hbt
          go_wp2
          go_roundw
          case rel => exact ⟨j + 1, by omega, by go_num, Lib.hid (HBt.out.alloc HBt.out.size _), Lib.hid (HCt.out.alloc HCt.out.size _)⟩
          case measure => simp [intOf]; omega
        · obtain rfl : j = p := by omega
          go_wp2
          go_meet
          case rel => exact HBr
    | false =>
      have e1 : E1 = 170 := by rw [HER.out]; unfold rowE; rw [hr]; rfl
      subst e1
      clear hr
      go_wp2
      go_meet
      case rel => exact HB3
  have HBc := Lib.hid hcut.out
  clear hcut HB3 HS3 HB1
  obtain ⟨⟨r0, r1⟩, s0, s1, s2⟩ := HK.out wc HBc.out
  go_upto_if 94 with (go_at_call 11; refine (HVer.out wc HBc.out).mono ?_; rintro e w3 ⟨A3, c3, rfl, hs3, hb3⟩; have HS3 := Lib.hid hs3; have HB3 := Lib.hid (HBc.out.trans (hb3.mono HBc.out.size)); clear hs3 hb3)
  clear r0 r1 s0 s1 s2
  cases hr : verR b f ys with
  | true =>
    have e1 : E2 = 0 := by rw [HEW.out]; unfold verE; rw [if_pos hr]
    have e2 : O2 = verB b f ys := by rw [HOW.out]; unfold verO; rw [if_pos hr]
    subst e1
    have hoP : Oct O2 := by rw [e2]; exact verB_oct b f ys
    have hlP : O2.length ≤ 500 := by rw [e2]; have := right_len (verR_right hr); unfold verB; simp [numB_len, vecB_len]; omega
    obtain ⟨p, hp⟩ : ∃ p, p = O2.length := ⟨_, rfl⟩
    have hq : p + k = (O2 ++ tl).length := by rw [hp, List.length_append, HTL.out]
    have HQ := Lib.hid hq
    have HP := Lib.hid hp
    have HT := Lib.hid (fun (V : World) (A4 : Option Addr) (c4 : Nat) (hs : Sl V A4 c4 (O2 ++ tl)) => show Calls Try.prog 29 #[.slice A4 (p + k) c4] V (GivesTW V (0, (p : Int), b, f, ys)) from by
      have h := takeVersion_any A4 c4 (O2 ++ tl) V hs (hoP.append HTO.out) (by rw [← hq]; omega)
      rw [tkW_eq _ (hoP.append HTO.out), e2, tw_back b f ys tl hr hbb hff, ← e2, ← hp, ← hq] at h
      exact h)
    have HTs := Lib.hid (fun (V : World) (j : Nat) (hj : j < p) (hs : Sl V A3 c3 O2) => show Calls Try.prog 29 #[.slice A3 j c3] V (ShortW V) from by
      have h := takeVersion_any A3 c3 (O2.take j) V (hs.begin j) (hoP.take j) (by simp; omega)
      have h7 : (tkW (O2.take j)).1 = 7 := by rw [tkW_eq _ (hoP.take j), e2]; exact tw_short b f ys hr j (by rw [← e2]; omega)
      rw [List.length_take, Nat.min_eq_left (by omega)] at h
      refine h.mono ?_
      rintro e w' ⟨A', c', rfl, _, hb⟩
      rw [h7]
      exact ⟨_, _, _, _, _, _, rfl, hb⟩)
    have HC := Lib.hid (fun (V : World) (hs : Sl V A3 c3 O2) => show Calls Try.prog 31 #[.slice A3 p c3] V (GivesB V O2) from by rw [hp]; exact clone_b A3 c3 O2 V hs (by omega))
    have HSM := Lib.hid (fun (V : World) (A5 : Option Addr) (c5 : Nat) (hv : Vec .i32 V A5 c5 ys) (hv' : Vec .i32 V A1 c1 ys) => sameVersion_any b b f f A5 A1 c5 c1 ys ys V hv hv')
    rw [show sameV b b f f ys ys = true from by simp [sameV]] at HSM
    rw [← HNW.out] at HSM
    have hpb : p ≤ 500 := by omega
    have hroom := HS3.out.room
    have hmost := HS3.out.most
    rw [← hp] at hroom
    clear hr e2 hoP hlP hp hq
    rw [← HP.out]
    go_wp2_with (first
      | (go_at_call 31; refine (HC.out w3 HS3.out).mono ?_; rintro e w4 ⟨A4, c4, rfl, hn4, hb4⟩; rw [← HP.out]; have HN4 := Lib.hid (show w4.ownsRow w3.heap.size 5 1 (.slice A4 p c4) p (O2.map (Value.int .u8)) from by have h := hn4; unfold New at h; rw [← HP.out] at h; exact h); have HB4 := Lib.hid hb4; have HR4 := Lib.hid ((HTS.out w4 (HB3.out.trans (hb4.mono HB3.out.size))).rd); clear hn4 hb4)
      | (at_builtin; refine app_b rfl (.tmp 100) (.tmp 101) rfl w3.heap.size (.slice A4 p c4) p (O2.map (Value.int .u8)) rfl HN4.out A2 c2 k tl rfl HTL.out HR4.out (by omega) HB4.out.size ?_; intro v5 w5 hown5 hg5; have hB5 : Below w3.heap.size w3 w5 := HB4.out.grown hg5 HB4.out.size (by intro j hj; exact (HN4.out.lt j hj).1); obtain ⟨A5, c5, rfl, hn5⟩ := new_of (bs := O2 ++ tl) hown5 (by simp) HQ.out; rw [← HQ.out]; have HB5 := Lib.hid (HB3.out.trans (hB5.mono HB3.out.size)); have HC5 := Lib.hid hB5; have HT5 := Lib.hid (HT.out w5 A5 c5 hn5.sl); clear hown5 hg5 hB5 hn5)
      | (go_at_call 29; refine HT5.out.mono ?_; rintro e w6 ⟨A6, c6, rfl, hv6, hb6⟩; dsimp only at hv6 ⊢; rw [← HNW.out]; have hB6 := HB5.out.trans (hb6.mono HB5.out.size); have hbx6 : Below w6.heap.size w6 (w6.alloc (.cells #[.int .u64 b, .int .u64 f, .slice A6 m c6] 27)) := (Below.refl _ w6).alloc (Nat.le_refl _) _; have hB7 := hB6.trans (hbx6.mono hB6.size); obtain ⟨⟨r0, r1⟩, s0, s1, s2⟩ := HK.out _ hB7; have HSM7 := Lib.hid (HSM.out _ A6 c6 (hv6.below hbx6) ((HXW.out _ hB7))); have HB7 := Lib.hid hB7; have hC6 := HC5.out.trans (hb6.mono HC5.out.size); have HC7 := Lib.hid (hC6.trans (hbx6.mono hC6.size)); clear hC6 hv6 hb6 hB6 hbx6 hB7)
      | (go_at_call 14; refine HSM7.out.mono ?_; rintro e w8 ⟨rfl, hb8⟩; have HB8 := Lib.hid (HB7.out.trans (hb8.mono HB7.out.size)); have HC8 := Lib.hid (HC7.out.trans (hb8.mono HC7.out.size)); clear hb8))
    go_loopw [123] (fun x wr => ∃ j : Nat, j ≤ p ∧ x = .int .i64 j ∧ Hid (Below W0.heap.size W0 wr) ∧ Hid (Below w3.heap.size w3 wr)) (fun x _ => p - (intOf x).toNat)
    case atStart => exact ⟨0, Nat.zero_le _, rfl, HB8, HC8⟩
    case round =>
      obtain ⟨j, hj, rfl, HBr, HCr⟩ := hrel
      by_cases hjp : j < p
      · have HTj := Lib.hid (HTs.out wr j hjp (HS3.out.below HCr.out))
        go_wp2_with fail
        refine HTj.out.mono ?_
        rintro e wt ⟨N, I, J, X, Ax, cx, rfl, hbt⟩
        have HBt := Lib.hid (HBr.out.trans (hbt.mono HBr.out.size)); have HCt := Lib.hid (HCr.out.trans (hbt.mono HCr.out.size))
        clear hbt
        go_wp2
        go_roundw
        case rel => exact ⟨j + 1, by omega, by go_num, Lib.hid (HBt.out.alloc HBt.out.size _), Lib.hid (HCt.out.alloc HCt.out.size _)⟩
        case measure => simp [intOf]; omega
      · obtain rfl : j = p := by omega
        go_wp2
        go_ret
        exact ⟨rfl, HB0.out.trans (HBr.out.mono HB0.out.size)⟩
  | false =>
    have e1 : E2 = 171 := by rw [HEW.out]; unfold verE; rw [hr]; rfl
    have e2 : O2 = [] := by rw [HOW.out]; unfold verO; rw [hr]; rfl
    subst e1
    subst e2
    clear hr
    go_wp2
    go_ret
    exact ⟨rfl, HB0.out.trans (HB3.out.mono HB0.out.size)⟩

theorem walk {w : World} (i : Int) (A : Option Addr) (c : Nat) (xs : List Int) (wi : (Lit.int .u64 i).wf = true) (hx : Vec .i32 w A c xs) (b f : Int) (A1 : Option Addr) (c1 : Nat) (ys : List Int) (wb : (Lit.int .u64 b).wf = true) (wf : (Lit.int .u64 f).wf = true) (hy : Vec .i32 w A1 c1 ys) (A2 : Option Addr) (c2 : Nat) (tl : List Int) (ht : Sl w A2 c2 tl) (ho : Oct tl) :
    Calls Try.prog 5 #[.agg #[.int .u64 i, .slice A xs.length c], .agg #[.int .u64 b, .int .u64 f, .slice A1 ys.length c1], .slice A2 tl.length c2] w fun e w' => e = .returned (.bool true) ∧ Below w.heap.size w w' := by
  by_cases h : 100 < xs.length ∨ 100 < ys.length ∨ 100 < tl.length
  · exact walk_big i A c xs.length b f A1 c1 ys.length A2 c2 tl.length h
  · exact walk_small i A c xs wi hx b f A1 c1 ys wb wf hy A2 c2 tl ht ho (by omega) (by omega) (by omega)

set_option maxRecDepth 100000 in
theorem lifted (os : Os) (started : os.Started) (H : Type) (enc : TypeId × Value → H) :
    ReturnsInHanded {} Try.checked os 5 .any (Rows.codecBackSpec.pre6 enc Try.prog Try.f5 Rows.codecBackRow.domain false) (Rows.codecBackSpec.post enc Try.prog Try.f5 false true false false) := by
  refine returnsInHanded_of_change (C := Try.checked) Try.own started (by kernel_rfl) Try.func5
    (ChangeSpec.witness6 (enc := enc) (C := Try.checked) false ⟨#[], #[.agg #[.int .u64 0, .slice none 0 0], .agg #[.int .u64 0, .int .u64 0, .slice none 0 0], .slice none 0 0], []⟩ 8 (by kernel_rfl) (by kernel_rfl) (by kernel_rfl) (by kernel_rfl)) ?_
  intro W base args ds gs before hval0 hW hcnd _
  have hval : ∀ (j : Nat) t v, Try.f5.params[j]? = some t → args[j]? = some v → Value.okWide Try.prog W .any base t v := hval0
  have hW' := hW
  obtain ⟨p, q, hA0, hV, rfl, hfz, hnd⟩ := hW
  have hA : DataW.TrodAll enc Try.prog W 0 (fun _ => true) true Try.f5.params.toList args.toList ds p := hA0
  rw [Try.params5] at hA hval
  have hA' := hA
  obtain ⟨v0, vs0, d0, ds0, p0, q0, hargs, rfl, rfl, h0, r0⟩ := trodAll_cons hA
  obtain ⟨v1, vs1, d1, ds1, p1, q1, rfl, rfl, rfl, h1, r1⟩ := trodAll_cons r0
  obtain ⟨v2, vs2, d2, ds2, p2, q2, rfl, rfl, rfl, h2, r2⟩ := trodAll_cons r1
  obtain ⟨rfl, rfl, rfl⟩ := trodAll_nil r2
  obtain rfl : args = #[v0, v1, v2] := by cases args; simp_all
  obtain ⟨rfl, rfl⟩ := trodVars_none hV
  obtain ⟨i0, A0, c0, l0, rfl, w0, H0⟩ := open_row (hval 0 25 v0 rfl rfl) h0
  obtain ⟨b1, f1, A1, c1, l1, rfl, w1, u1, H1⟩ := open_ver (hval 1 27 v1 rfl rfl) h1
  obtain ⟨A2, len2, c2, rfl⟩ := okWide_slice Try.underlying29 (hval 2 29 v2 rfl rfl)
  obtain ⟨z2, rfl, sl2, oc2⟩ := open_bytes h2
  clear hA0 hval0
  refine (walk i0 A0 c0 l0 w0 H0 b1 f1 A1 c1 l1 w1 u1 H1 A2 c2 z2 sl2 oc2).mono fun e W' ⟨he, bel⟩ => ?_
  subst he
  exact ⟨_, rfl, _, _, _, [], _, [], hW', trodAll_mk1 (shut_bool Try.underlying4 _), trodAll_below bel _ _ _ _ (by kernel_rfl) hA', rfl, bel.frame _, fun h => by cases h⟩

theorem proved : Rows.CodecBackSaid :=
  OpenClaim.holds_of_wide 5 Try.f5 rfl rfl rfl rfl rfl rfl rfl ⟨rfl, rfl, rfl, rfl, rfl⟩ rfl rfl rfl rfl rfl (by kernel_rfl) Try.func5 (by kernel_rfl)
    (of_decide_eq_true (by kernel_rfl)) (by unfold Func.isWrapper; first | (rw [if_pos (by decide +kernel)]; kernel_rfl) | (rw [if_neg (by decide +kernel)]; exact ⟨rfl, rfl⟩))
    (fun os started H enc _ => lifted os started H enc)
#print axioms proved
end Go.Proofs.Ythbpnngfdpdjkaa.codecBack
