/-
  Proved: the law FlatRowsAlike, what is found hangs on no slots but is found among the rows of these cells wherever they are packed, returns true for every arena, mask and query, and leaves all memory as it was. No condition.
-/
import Derived.Test.YtdbcecmlakgknaaMFla
import Derived.Test.YtdbcecmlakgknaaFlaAlike
namespace Go.Proofs.Ytdbcecmlakgknaa.flatRowsAlike
open Go.BigFrame Go.ChangeShapes Go.WideShapes Go.ChangeAt Go.RowKit
open MskL (Mk Fine hasB)
open TopL (HitM firstM isKM)
set_option linter.unusedVariables false
set_option linter.unusedSimpArgs false
set_option maxRecDepth 100000

/-- Rows and cells that are laid so far. -/
def Inv (w3 : World) (f : Nat → Bool) (q : List Pa) (k : Nat) (A1 : Option Addr) (c1 : Nat) (A2 : Option Addr) (c2 n : Nat) (wr : World) : Prop :=
  n = (selI f q k).length ∧ n ≤ k ∧ OwnR w3.heap.size wr A1 c1 ((selI f q k).map toPr) ∧ RowA w3.heap.size wr A2 c2 ((selI f q k).map (fun x => x.2)) ∧ Below w3.heap.size w3 wr

set_option maxHeartbeats 8000000 in
theorem walk {w : World} (A : Option Addr) (c : Nat) (q : List Pa) (H : Are w A c q) (m : Mk) (hm : Fine m) (Av : Option Addr) (cv : Nat) (v : List Int) (kq : Int) (H2 : Vec .i32 w Av cv v) (wk : (Lit.int .i64 kq).wf = true) :
    Calls Try.prog 7 #[.agg #[.slice A q.length c], .agg #[.int .u64 m.1, .int .u64 m.2], .agg #[.slice Av v.length cv, .int .i64 kq]] w fun e w' => e = .returned (.bool true) ∧ Below w.heap.size w w' := by
  obtain ⟨W0, hW0⟩ : ∃ W0, W0 = ((w.alloc (.cells #[.slice A q.length c] 24)).alloc (.cells #[.int .u64 m.1, .int .u64 m.2] 48)).alloc (.cells #[.slice Av v.length cv, .int .i64 kq] 50) := ⟨_, rfl⟩
  have hb0 : Below w.heap.size w W0 := by rw [hW0]; exact (((Below.refl _ w).alloc (Nat.le_refl _) _).alloc (by simp) _).alloc (by simp; omega) _
  have hx0 : W0.heap[w.heap.size]? = some (.cells #[.slice A q.length c] 24 (0, 0)) := by
    rw [hW0]
    exact (Below.heap_alloc _ _ _ (by simp; omega)).trans ((Below.heap_alloc _ _ _ (by simp)).trans (heap_alloc_new w _))
  have hx1 : W0.heap[w.heap.size + 1]? = some (.cells #[.int .u64 m.1, .int .u64 m.2] 48 (0, 0)) := by
    rw [hW0]
    have h := heap_alloc_new (w.alloc (.cells #[.slice A q.length c] 24)) (.cells #[.int .u64 m.1, .int .u64 m.2] 48)
    rw [World.size_alloc] at h
    exact (Below.heap_alloc _ _ _ (by simp)).trans h
  have hx2 : W0.heap[w.heap.size + 2]? = some (.cells #[.slice Av v.length cv, .int .i64 kq] 50 (0, 0)) := by
    rw [hW0]
    have h := heap_alloc_new ((w.alloc (.cells #[.slice A q.length c] 24)).alloc (.cells #[.int .u64 m.1, .int .u64 m.2] 48)) (.cells #[.slice Av v.length cv, .int .i64 kq] 50)
    rw [World.size_alloc, World.size_alloc] at h; exact h
  have HW := Lib.hid hW0
  have HB0 := Lib.hid hb0
  have HX := Lib.hid (fun (X : World) (hX : Below W0.heap.size W0 X) => show (X.cell? ⟨w.heap.size, 0, none⟩ = some (.slice A q.length c) ∧ X.cell? ⟨w.heap.size + 2, 0, none⟩ = some (.slice Av v.length cv) ∧ X.cell? ⟨w.heap.size + 2, 1, none⟩ = some (.int .i64 kq)) ∧
      X.cell? ⟨w.heap.size + 1, 0, none⟩ = some (.int .u64 m.1) ∧ X.cell? ⟨w.heap.size + 1, 1, none⟩ = some (.int .u64 m.2) from by
    have X0 := (hX.block _ (lt_of_block hx0)).trans hx0
    have X1 := (hX.block _ (lt_of_block hx1)).trans hx1
    have X2 := (hX.block _ (lt_of_block hx2)).trans hx2
    exact ⟨⟨(cell_of_row _ _ 0 _ _ _ X0).trans rfl, (cell_of_row _ _ 0 _ _ _ X2).trans rfl, (cell_of_row _ _ 1 _ _ _ X2).trans rfl⟩, (cell_of_row _ _ 0 _ _ _ X1).trans rfl, (cell_of_row _ _ 1 _ _ _ X1).trans rfl⟩)
  have HWk := Lib.hid (wakes11_any W0)
  have HOv := Lib.hid (fun (X : World) (hX : Below W0.heap.size W0 X) => over11_any A c q X ((H.below hb0).below hX))
  obtain ⟨l, hl⟩ : ∃ l, l = ces q := ⟨_, rfl⟩
  obtain ⟨f, hf⟩ : ∃ f : Nat → Bool, f = fun (k : Nat) => hasB m (k : Int) := ⟨_, rfl⟩
  have HSc := Lib.hid (fun (X : World) (hX : Below W0.heap.size W0 X) => show Calls Try.prog 26 #[.agg #[.slice A q.length c], .agg #[.int .u64 m.1, .int .u64 m.2], .agg #[.slice Av v.length cv, .int .i64 kq]] X (GivesHE X (scanL kq l f v) (scanE kq l f v)) from by
    rw [hf, hl]; exact scan_any v Av cv kq A c q m X ((H2.below hb0).below hX) ((H.below hb0).below hX) hm)
  rw [← hl] at HOv
  have HNo := Lib.hid (scan_none (kq := kq) (l := l) (f := f) (v := v))
  have HQ := Lib.hid (H.below hb0)
  have HV := Lib.hid (H2.below hb0)
  have HLl := Lib.hid hl
  have HM := Lib.hid hm
  have HFf := Lib.hid (show ∀ (k : Nat), k < 96 → f k = inB m k from fun k hk => by rw [hf]; exact inB_has hk)
  obtain ⟨LS, hLS⟩ : ∃ L, L = scanL kq l f v := ⟨_, rfl⟩
  obtain ⟨ES, hES⟩ : ∃ L, L = scanE kq l f v := ⟨_, rfl⟩
  have HLS := Lib.hid hLS
  have HES := Lib.hid hES
  rw [← hLS, ← hES] at HSc HNo
  obtain ⟨nq, hnq⟩ : ∃ n, n = q.length := ⟨_, rfl⟩
  obtain ⟨nv, hnv⟩ : ∃ n, n = v.length := ⟨_, rfl⟩
  rw [← hnq] at HW HX HOv HSc ⊢
  rw [← hnv] at HW HX HSc ⊢
  have HNQ := Lib.hid hnq
  have HNV := Lib.hid hnv
  clear hl hf hLS hES hW0 hb0 hx0 hx1 hx2 H H2 hm wk hnq hnv
  obtain ⟨m0, m1⟩ := m
  cases hov : overB l with
  | true =>
    rw [hov] at HOv
    clear hov
    go_enter Try.func7, Try.ntmps7
    go_wp2_with fail
    rw [← HW.out]
    refine HWk.out.mono ?_
    rintro e w1 ⟨rfl, hb1⟩
    have HB1 := Lib.hid hb1
    have HO1 := Lib.hid (HOv.out w1 hb1)
    obtain ⟨⟨e0, -, -⟩, -⟩ := HX.out w1 hb1
    clear hb1
    go_wp2_with fail
    refine HO1.out.mono ?_
    rintro e w2 ⟨rfl, hb2⟩
    have HB2 := Lib.hid (HB1.out.trans (hb2.mono HB1.out.size))
    clear hb2
    go_wp2
    go_ret
    exact ⟨rfl, HB0.out.trans (HB2.out.mono HB0.out.size)⟩
  | false =>
    rw [hov] at HOv
    clear hov
    by_cases h50 : 50 < nv
    · have t50 : decide ((50 : Int) < nv) = true := by simp; omega
      clear h50
      go_enter Try.func7, Try.ntmps7
      go_wp2_with fail
      rw [← HW.out]
      refine HWk.out.mono ?_
      rintro e w1 ⟨rfl, hb1⟩
      have HB1 := Lib.hid hb1
      have HO1 := Lib.hid (HOv.out w1 hb1)
      obtain ⟨⟨e0, -, -⟩, -⟩ := HX.out w1 hb1
      clear hb1
      go_wp2_with fail
      refine HO1.out.mono ?_
      rintro e w2 ⟨rfl, hb2⟩
      have HB2 := Lib.hid (HB1.out.trans (hb2.mono HB1.out.size))
      obtain ⟨⟨e0, e1, -⟩, -⟩ := HX.out w2 HB2.out
      clear hb2
      go_wp2
      go_ret
      exact ⟨rfl, HB0.out.trans (HB2.out.mono HB0.out.size)⟩
    · have t50 : decide ((50 : Int) < nv) = false := by simp; omega
      clear h50
      go_enter Try.func7, Try.ntmps7
      go_wp2_with fail
      rw [← HW.out]
      refine HWk.out.mono ?_
      rintro e w1 ⟨rfl, hb1⟩
      have HB1 := Lib.hid hb1
      have HO1 := Lib.hid (HOv.out w1 hb1)
      obtain ⟨⟨e0, -, -⟩, -⟩ := HX.out w1 hb1
      clear hb1
      go_wp2_with fail
      refine HO1.out.mono ?_
      rintro e w2 ⟨rfl, hb2⟩
      have HB2 := Lib.hid (HB1.out.trans (hb2.mono HB1.out.size))
      obtain ⟨⟨e0, e1, e2⟩, x0, x1⟩ := HX.out w2 HB2.out
      clear hb2
      go_wp2_with fail
      refine (HSc.out w2 HB2.out).mono ?_
      rintro e w3 ⟨A3, c3, rfl, ho3, hb3⟩
      have HB3 := Lib.hid (HB2.out.trans (hb3.mono HB2.out.size))
      have HO3 := Lib.hid ho3
      clear hb3 ho3 e0 e1 e2 x0 x1
      by_cases hE0 : ES = 0
      · subst hE0
        clear HNo
        generalize hnS : LS.length = nS at *
        have HNS := Lib.hid hnS
        clear hnS
        have hcha : chkA l = 0 := by
          have he := HES.out
          unfold scanE at he
          by_cases h1 : chkQ kq v = 0
          · rw [if_pos h1] at he
            by_cases h2 : chkA l = 0
            · exact h2
            · rw [if_neg h2] at he; exact absurd he.symm h2
          · rw [if_neg h1] at he; exact absurd he.symm h1
        have har := (chkA_iff _).1 hcha
        have h96 : nq = 96 := by have := arB_len har; rw [HLl.out, ces_length] at this; rw [HNQ.out]; exact this
        have HAR := Lib.hid har
        have HN96 := Lib.hid h96
        clear hcha har h96
        obtain ⟨⟨e0, e1, e2⟩, x0, x1⟩ := HX.out w3 HB3.out
        go_wp2
        go_loopw [9, 10, 42] (fun rv cvv i wr => ∃ (k n : Nat) (A1 : Option Addr) (c1 : Nat) (A2 : Option Addr) (c2 : Nat), k ≤ nq ∧ i = .int .i64 k ∧ rv = .slice A1 n c1 ∧ cvv = .slice A2 n c2 ∧ Hid (Inv w3 f q k A1 c1 A2 c2 n wr)) (fun _ _ i _ => nq - (intOf i).toNat)
        case atStart => exact ⟨0, 0, none, 0, none, 0, Nat.zero_le _, rfl, rfl, rfl, Lib.hid ⟨rfl, Nat.le_refl _, World.ownsRow_nil _ _ _ _, World.ownsRow_nil _ _ _ _, Below.refl _ _⟩⟩
        case round =>
          obtain ⟨k, n, A1, c1, A2, c2, hk, rfl, rfl, rfl, HI⟩ := hrel
          have HBr := Lib.hid (show Below W0.heap.size W0 wr from HB3.out.trans (HI.out.2.2.2.2.mono HB3.out.size))
          by_cases hkn : k < nq
          · obtain ⟨b, o, p, rfl, hp0, hb, d0, d1, d2, d3, d4, hv, hf⟩ := (HQ.out.below HBr.out).at_ (i := k) (by rw [← HNQ.out]; exact hkn)
            have k0 : (0 : Int) ≤ k := by omega
            have kn : (k : Int) < nq := by omega
            have hk96 : k < 96 := by have := HN96.out; omega
            have hba1 := cel_alloc wr p.e.u p.e.i p.e.b p.e.f p.B p.e.x.length p.c
            obtain ⟨W1, hW1⟩ : ∃ W1, W1 = wr.alloc (.cells #[.bool p.e.u, .int .u64 p.e.i, .int .u64 p.e.b, .int .u64 p.e.f, .slice p.B p.e.x.length p.c] 45) := ⟨_, rfl⟩
            rw [← hW1] at hba1
            have hx1 : W1.heap[wr.heap.size]? = some (.cells #[.bool p.e.u, .int .u64 p.e.i, .int .u64 p.e.b, .int .u64 p.e.f, .slice p.B p.e.x.length p.c] 45 (0, 0)) := by rw [hW1]; exact heap_alloc_new _ _
            have HB1 := Lib.hid (HBr.out.trans (hba1.mono HBr.out.size))
            obtain ⟨-, y0, y1⟩ := HX.out W1 HB1.out
            have hI0 := HI.out
            obtain ⟨i1, i2, i3, i4, i5⟩ := hI0
            have HIB := Lib.hid (show Below w3.heap.size w3 W1 from i5.trans (hba1.mono i5.size))
            have HP := Lib.hid hp0
            have HFk := Lib.hid (HFf.out k hk96)
            have HW1 := Lib.hid hW1
            have HNo := Lib.hid (fun (X : World) (hX : Below wr.heap.size wr X) (hs : (p.e.u && f k) = false) => show Inv w3 f q (k + 1) A1 c1 A2 c2 n X from by
              have e := selI_no (f := f) HP.out hs
              unfold Inv
              rw [e]
              exact ⟨i1, by omega, i3.below hX, RowA.turn i4 (Turn.of_below (S := fun _ => False) hX) (fun _ _ h => h), i5.trans (hX.mono i5.size)⟩)
            have HYes := Lib.hid (fun (hu : p.e.u = true) (hF : f k = true) => show (∀ (w5 : World) (A5 : Option Addr) (c5 : Nat), (W1.alloc (.cells #[.int .u64 p.e.i, .slice p.B p.e.x.length p.c] 64)).grownBy w5 (blk A1) → w5.ownsRow w3.heap.size 64 2 (.slice A5 (n + 1) c5) (n + 1) (flatR ((selI f q k).map toPr) ++ [.int .u64 p.e.i, .slice p.B p.e.x.length p.c]) →
                w5.heap[wr.heap.size]? = some (.cells #[.bool p.e.u, .int .u64 p.e.i, .int .u64 p.e.b, .int .u64 p.e.f, .slice p.B p.e.x.length p.c] 45 (0, 0)) ∧ w3.heap.size ≤ w5.heap.size ∧ (w5.alloc (.cells #[.bool p.e.u, .int .u64 p.e.i, .int .u64 p.e.b, .int .u64 p.e.f, .slice p.B p.e.x.length p.c] 45)).ownsRow w3.heap.size 45 5 (.slice A2 n c2) n (flatA ((selI f q k).map (fun x => x.2))) ∧
                (∀ (w7 : World) (A7 : Option Addr) (c7 : Nat), (w5.alloc (.cells #[.bool p.e.u, .int .u64 p.e.i, .int .u64 p.e.b, .int .u64 p.e.f, .slice p.B p.e.x.length p.c] 45)).grownBy w7 (blk A2) → w7.ownsRow w3.heap.size 45 5 (.slice A7 (n + 1) c7) (n + 1) (flatA ((selI f q k).map (fun x => x.2)) ++ flatA [p]) → Inv w3 f q (k + 1) A5 c5 A7 c7 (n + 1) w7)) ∧
                (W1.alloc (.cells #[.int .u64 p.e.i, .slice p.B p.e.x.length p.c] 64)).ownsRow w3.heap.size 64 2 (.slice A1 n c1) n (flatR ((selI f q k).map toPr)) from by
              have e := selI_yes (f := f) HP.out hu hF
              refine ⟨fun w5 A5 c5 hg5 ho5 => ?_, ?_⟩
              · rw [hW1] at hg5
                obtain ⟨a1, a2, a3⟩ := al_one i3 i4 i5 hg5
                refine ⟨a1, a3.size, ?_, fun w7 A7 c7 hg7 ho7 => ?_⟩
                · have := row_turn (show w5.ownsRow w3.heap.size 45 5 (.slice A2 ((selI f q k).map (fun x => x.2)).length c2) _ _ from a2) (Turn.of_below (S := fun _ => False) ((Below.refl _ w5).alloc (Nat.le_refl _) (.cells #[.bool p.e.u, .int .u64 p.e.i, .int .u64 p.e.b, .int .u64 p.e.f, .slice p.B p.e.x.length p.c] 45))) (fun _ _ h => h)
                  rwa [List.length_map, ← i1] at this
                · obtain ⟨b1, b2⟩ := al_two ho5 a2 a3 hg7
                  unfold Inv
                  rw [e]
                  refine ⟨by rw [List.length_append, ← i1]; rfl, by omega, ?_, ?_, b2⟩
                  · unfold OwnR
                    rw [List.map_append, flatR_append, List.length_append, List.length_map, ← i1]
                    exact b1
                  · unfold RowA
                    rw [List.map_append, flatA_append, List.length_append, List.length_map, ← i1]
                    exact ho7
              · have := row_turn (show wr.ownsRow w3.heap.size 64 2 (.slice A1 ((selI f q k).map toPr).length c1) _ _ from i3) (Turn.of_below (S := fun _ => False) (hba1.alloc hba1.size (.cells #[.int .u64 p.e.i, .slice p.B p.e.x.length p.c] 64))) (fun _ _ h => h)
                rwa [List.length_map, ← i1] at this)
            have hn96 : n ≤ 96 := by omega
            have HBa := Lib.hid hba1
            have HSz := Lib.hid (show w3.heap.size ≤ (W1.alloc (.cells #[.int .u64 p.e.i, .slice p.B p.e.x.length p.c] 64)).heap.size from by rw [World.size_alloc]; exact Nat.le_succ_of_le HIB.out.size)
            clear hp0 hb hv hf hba1 hW1 i1 i2 i3 i4 i5
            cases hu : p.e.u with
            | false =>
              have HN2 := Lib.hid (HNo.out W1 HBa.out (by rw [hu]; rfl))
              rw [hu] at d0 HW1 hx1
              have z0 := (cell_of_row _ _ 0 _ _ _ hx1).trans rfl
              clear hu hx1 HYes HNo
              go_wp2_with (rw [← HW1.out])
              go_roundw
              case rel => exact ⟨k + 1, n, A1, c1, A2, c2, by omega, by go_num, rfl, rfl, HN2⟩
              case measure => simp [intOf]; omega
            | true =>
              have hx2 := hx1
              rw [hu] at d0 HW1 hx1
              have z0 := (cell_of_row _ _ 0 _ _ _ hx1).trans rfl
              have z1 := (cell_of_row _ _ 1 _ _ _ hx1).trans rfl
              have z4 := (cell_of_row _ _ 4 _ _ _ hx1).trans rfl
              have HU := Lib.hid hu
              clear hx1 hx2
              by_cases h64 : k < 64
              · have q0 : (k : Int).tdiv 64 = 0 := by rw [Int.tdiv_eq_ediv_of_nonneg (by omega)]; omega
                have q1 : (k : Int).tmod 64 = k := by rw [Int.tmod_eq_emod_of_nonneg (by omega)]; omega
                have hw0 : IntKind.i64.wrap 0 = 0 := rfl
                have hmin : min k 64 = k := Nat.min_eq_left (by omega)
                have hand := bit_val (k := k) HM.out.1
                have hfk : f k = m0.testBit k := by rw [HFk.out]; unfold inB; rw [if_pos h64]
                cases htb : m0.testBit k with
                | false =>
                  rw [htb] at hand
                  simp only [Bool.false_eq_true, if_false] at hand
                  have HN2 := Lib.hid (HNo.out W1 HBa.out (by rw [hfk, htb]; simp))
                  clear htb hfk hu h64 HYes HNo
                  go_wp2_with (rw [← HW1.out])
                  go_roundw
                  case rel => exact ⟨k + 1, n, A1, c1, A2, c2, by omega, by go_num, rfl, rfl, HN2⟩
                  case measure => simp [intOf]; omega
                | true =>
                  rw [htb] at hand
                  simp only [if_true] at hand
                  obtain ⟨hY1, hY2⟩ := HYes.out hu (by rw [hfk, htb])
                  have HY1 := Lib.hid hY1
                  have HY2 := Lib.hid hY2
                  clear htb hfk hu h64 HYes HNo hY1 hY2
                  go_wp2_with (first
                    | (rw [← HW1.out])
                    | (at_builtin; refine gapp_at rfl (.tmp 60) (.tmp 67) appR rfl w3.heap.size A1 c1 n (flatR ((selI f q k).map toPr)) rfl HY2.out (some ⟨W1.heap.size, 0, none⟩) 1 1 [.int .u64 p.e.i, .slice p.B p.e.x.length p.c] rfl (Read.two rfl rfl (cell_laid _ _ _ 0) (cell_laid _ _ _ 1)) (by omega) HSz.out ?_; intro A5 c5 w5 ho5 hg5 _; obtain ⟨s1, s2, s3, s4⟩ := HY1.out w5 A5 c5 hg5 ho5; rw [HU.out] at s1 s3 s4; have v0 := (cell_of_row _ _ 0 _ _ _ s1).trans rfl; have v1 := (cell_of_row _ _ 1 _ _ _ s1).trans rfl; have v2 := (cell_of_row _ _ 2 _ _ _ s1).trans rfl; have v3 := (cell_of_row _ _ 3 _ _ _ s1).trans rfl; have v4 := (cell_of_row _ _ 4 _ _ _ s1).trans rfl; have S2 := Lib.hid s2; have S3 := Lib.hid s3; have S4 := Lib.hid s4; clear ho5 hg5 s1 s2 s3 s4)
                    | (at_builtin; refine gapp_at rfl (.tmp 69) (.tmp 71) appA rfl w3.heap.size A2 c2 n (flatA ((selI f q k).map (fun x => x.2))) rfl S3.out (some ⟨w5.heap.size, 0, none⟩) 1 1 (flatA [p]) rfl (Read.cell (p := p) (by rw [HU.out]; exact cell_laid _ _ _ 0) (cell_laid _ _ _ 1) (cell_laid _ _ _ 2) (cell_laid _ _ _ 3) (cell_laid _ _ _ 4)) (by omega) (by have := S2.out; rw [World.size_alloc]; omega) ?_; intro A7 c7 w7 ho7 hg7 _; have HI7 := Lib.hid (S4.out w7 A7 c7 hg7 ho7); clear ho7 hg7))
                  go_roundw
                  case rel => exact ⟨k + 1, n + 1, A5, c5, A7, c7, by omega, by go_num, rfl, rfl, HI7⟩
                  case measure => simp [intOf]; omega
              · obtain ⟨r, hr⟩ : ∃ r, r = k - 64 := ⟨_, rfl⟩
                have hr64 : r < 64 := by omega
                have q0 : (k : Int).tdiv 64 = 1 := by rw [Int.tdiv_eq_ediv_of_nonneg (by omega)]; omega
                have q1 : (k : Int).tmod 64 = r := by rw [Int.tmod_eq_emod_of_nonneg (by omega)]; omega
                have hw0 : IntKind.i64.wrap 1 = 1 := rfl
                have hmin : min r 64 = r := Nat.min_eq_left (by omega)
                have hand := bit_val (k := r) HM.out.2
                have hfk : f k = m1.testBit r := by rw [HFk.out]; unfold inB; rw [if_neg h64, hr]
                cases htb : m1.testBit r with
                | false =>
                  rw [htb] at hand
                  simp only [Bool.false_eq_true, if_false] at hand
                  have HN2 := Lib.hid (HNo.out W1 HBa.out (by rw [hfk, htb]; simp))
                  clear htb hfk hu h64 hr HYes HNo
                  go_wp2_with (rw [← HW1.out])
                  go_roundw
                  case rel => exact ⟨k + 1, n, A1, c1, A2, c2, by omega, by go_num, rfl, rfl, HN2⟩
                  case measure => simp [intOf]; omega
                | true =>
                  rw [htb] at hand
                  simp only [if_true] at hand
                  obtain ⟨hY1, hY2⟩ := HYes.out hu (by rw [hfk, htb])
                  have HY1 := Lib.hid hY1
                  have HY2 := Lib.hid hY2
                  clear htb hfk hu h64 hr HYes HNo hY1 hY2
                  go_wp2_with (first
                    | (rw [← HW1.out])
                    | (at_builtin; refine gapp_at rfl (.tmp 60) (.tmp 67) appR rfl w3.heap.size A1 c1 n (flatR ((selI f q k).map toPr)) rfl HY2.out (some ⟨W1.heap.size, 0, none⟩) 1 1 [.int .u64 p.e.i, .slice p.B p.e.x.length p.c] rfl (Read.two rfl rfl (cell_laid _ _ _ 0) (cell_laid _ _ _ 1)) (by omega) HSz.out ?_; intro A5 c5 w5 ho5 hg5 _; obtain ⟨s1, s2, s3, s4⟩ := HY1.out w5 A5 c5 hg5 ho5; rw [HU.out] at s1 s3 s4; have v0 := (cell_of_row _ _ 0 _ _ _ s1).trans rfl; have v1 := (cell_of_row _ _ 1 _ _ _ s1).trans rfl; have v2 := (cell_of_row _ _ 2 _ _ _ s1).trans rfl; have v3 := (cell_of_row _ _ 3 _ _ _ s1).trans rfl; have v4 := (cell_of_row _ _ 4 _ _ _ s1).trans rfl; have S2 := Lib.hid s2; have S3 := Lib.hid s3; have S4 := Lib.hid s4; clear ho5 hg5 s1 s2 s3 s4)
                    | (at_builtin; refine gapp_at rfl (.tmp 69) (.tmp 71) appA rfl w3.heap.size A2 c2 n (flatA ((selI f q k).map (fun x => x.2))) rfl S3.out (some ⟨w5.heap.size, 0, none⟩) 1 1 (flatA [p]) rfl (Read.cell (p := p) (by rw [HU.out]; exact cell_laid _ _ _ 0) (cell_laid _ _ _ 1) (cell_laid _ _ _ 2) (cell_laid _ _ _ 3) (cell_laid _ _ _ 4)) (by omega) (by have := S2.out; rw [World.size_alloc]; omega) ?_; intro A7 c7 w7 ho7 hg7 _; have HI7 := Lib.hid (S4.out w7 A7 c7 hg7 ho7); clear ho7 hg7))
                  go_roundw
                  case rel => exact ⟨k + 1, n + 1, A5, c5, A7, c7, by omega, by go_num, rfl, rfl, HI7⟩
                  case measure => simp [intOf]; omega
          · obtain rfl : k = nq := by omega
            obtain ⟨i1, i2, i3, i4, i5⟩ := HI.out
            have hkq : k = q.length := HNQ.out
            rw [hkq] at i1 i3 i4
            have hes : scanE kq l f v = 0 := HES.out.symm
            -- the rows, among which it is found
            have hrv : rvs ((selI f q q.length).map toPr) = inK f l l.length := by rw [HLl.out, ces_length]; exact selI_rvs f q _ (Nat.le_refl _)
            have hrw : Rws wr A1 c1 ((selI f q q.length).map toPr) := own_rws i3 (fun p hp => by
              obtain ⟨x, hx, rfl⟩ := List.mem_map.1 hp
              exact (HQ.out.below HBr.out).el _ (selI_mem _ hx)) (fun p hp => by
              obtain ⟨x, hx, rfl⟩ := List.mem_map.1 hp
              exact (HQ.out.fit _ (selI_mem _ hx)).1)
            have hso : ∀ x ∈ selI f q q.length, soundE x.2.e = true := sel_sound (by rw [← HLl.out]; exact HAR.out) _ (Nat.le_refl _)
            have hAl := fun (R : List Ce) (hR : (R.map cr).Perm (inK f l l.length)) (hs : R.all soundE = true) => alike hes hR hs
            have hcr : ((ces ((selI f q q.length).map (fun x => x.2))).map cr) = inK f l l.length := by rw [← hrv, rvs_cr]
            have hs0 : (ces ((selI f q q.length).map (fun x => x.2))).all soundE = true := by
              rw [List.all_eq_true]
              intro e he
              unfold ces at he
              rw [List.map_map] at he
              obtain ⟨x, hx, rfl⟩ := List.mem_map.1 he
              exact hso x hx
            obtain ⟨g1, g2, -⟩ := hAl _ (by rw [hcr]) hs0
            have hR4 := rowsQ_any v Av cv kq A1 c1 _ wr (HV.out.below HBr.out) hrw
            rw [hrv, g1, g2, ← HLS.out, List.length_map, ← i1, ← HNV.out] at hR4
            have HR4 := Lib.hid hR4
            have HRow := Lib.hid i4
            have HI5 := Lib.hid i5
            have HN1 := Lib.hid i1
            have HAl := Lib.hid hAl
            have HCr := Lib.hid hcr
            have HS0 := Lib.hid hs0
            have HO3r := Lib.hid (OwnH.below HO3.out i5)
            have hn96 : n ≤ 96 := by have := HN96.out; omega
            obtain ⟨⟨e0, e1, e2⟩, -⟩ := HX.out wr HBr.out
            clear i1 i2 i3 i4 i5 hkq hes hrv hrw hso hAl hcr hs0 g1 g2 hR4
            go_wp2_with fail
            with_reducible refine HR4.out.mono ?_
            rintro e w4 ⟨A4, c4, rfl, ho4, hb4⟩
            have HB4 := Lib.hid (HBr.out.trans (hb4.mono HBr.out.size))
            have HB34 := Lib.hid (HI5.out.trans (hb4.mono HI5.out.size))
            have hrow4 := RowA.turn HRow.out (Turn.of_below (S := fun _ => False) hb4) (fun _ _ h => h)
            have hrv4 := reverse_any w3.heap.size A2 c2 _ w4 hrow4
            rw [List.length_map, ← HN1.out] at hrv4
            have HRv := Lib.hid hrv4
            have HRow4 := Lib.hid hrow4
            have HO4 := Lib.hid ho4
            have HO34 := Lib.hid (OwnH.below HO3r.out hb4)
            have HA2 := Lib.hid (show ∀ i, blk A2 = some i → w3.heap.size ≤ i ∧ i < wr.heap.size from fun i hi => RowA.lo HRow.out i hi)
            have HA3 := Lib.hid (show ∀ i, blk A3 = some i → i < w3.heap.size from fun i hi => (OwnH.low HO3.out i hi).2)
            clear hb4 hrow4 hrv4 ho4 e0 e1 e2
            go_wp2_with fail
            with_reducible refine HRv.out.mono ?_
            rintro e w5 ⟨rfl, r, hp, hrow5, ht5⟩
            have hb5 : Below w3.heap.size w4 w5 := ht5.below HB34.out.size (fun i hi => (HA2.out i hi).1)
            have HB5 := Lib.hid (HB4.out.trans (hb5.mono HB3.out.size))
            have hrl : r.length = n := by rw [hp.length_eq, List.length_map, ← HN1.out]
            have hcp : (ces r).Perm (ces ((selI f q q.length).map (fun x => x.2))) := hp.map _
            have hsr : (ces r).all soundE = true := by
              rw [List.all_eq_true]
              intro e he
              exact List.all_eq_true.1 HS0.out e (hcp.mem_iff.1 he)
            obtain ⟨-, -, g3, g4, g5, g6, g7⟩ := HAl.out (ces r) ((hcp.map cr).trans (by rw [HCr.out])) hsr
            have har : Are w5 A2 c2 r := own_are hrow5 (fun p hp' => by
              obtain ⟨x, hx, rfl⟩ := List.mem_map.1 (hp.mem_iff.1 hp')
              exact (HQ.out.below HB5.out).el _ (selI_mem _ hx)) (fun p hp' => by
              obtain ⟨x, hx, rfl⟩ := List.mem_map.1 (hp.mem_iff.1 hp')
              exact HQ.out.fit _ (selI_mem _ hx))
            have hPk := packed_any A2 c2 r w5 har
            rw [g3, g5, hrl] at hPk
            have HPk := Lib.hid hPk
            have HG6 := Lib.hid (And.intro g6 g7)
            have HPl := Lib.hid (pad_length g4)
            have HO45 := Lib.hid (show OwnH wr.heap.size w5 A4 c4 LS from row_turn HO4.out ht5 (fun i hi e => by
              rw [own_blk] at hi
              have := (OwnH.low HO4.out i hi).1
              have := (HA2.out i e).2
              omega))
            have HO35 := Lib.hid (show OwnH w2.heap.size w5 A3 c3 LS from row_turn HO34.out ht5 (fun i hi e => by
              rw [own_blk] at hi
              have := HA3.out i hi
              have := (HA2.out i e).1
              omega))
            generalize padL (ces r) = PL at *
            clear hp hrow5 ht5 hb5 hrl hcp hsr g3 g4 g5 g6 g7 har hPk
            go_wp2_with fail
            with_reducible refine HPk.out.mono ?_
            rintro e w6 ⟨A6, c6, q6, rfl, hq6, ho6, hb6⟩
            have hl6 : q6.length = 96 := by rw [← ces_length, hq6]; exact HPl.out
            obtain ⟨W7, hW7⟩ : ∃ W7, W7 = w6.alloc (.cells #[.slice A6 96 c6] 24) := ⟨_, rfl⟩
            have hb7 : Below w5.heap.size w5 W7 := by rw [hW7]; exact hb6.alloc hb6.size _
            have HB7 := Lib.hid (HB5.out.trans (hb7.mono HB5.out.size))
            have hx7 : Boxed W7 w6.heap.size 24 (.slice A6 96 c6) := by rw [hW7]; exact Boxed.new w6 _ _
            have HX7 := Lib.hid (fun (Y : World) (hY : Below W7.heap.size W7 Y) => show Y.cell? ⟨w6.heap.size, 0, none⟩ = some (.slice A6 96 c6) from Boxed.cell ((hY.block _ hx7.lt).trans hx7))
            have ha7 : Are W7 A6 c6 q6 := by rw [hW7]; exact ho6.are.below ((Below.refl _ w6).alloc (Nat.le_refl _) _)
            have HSc7 := Lib.hid (fun (Y : World) (hY : Below W7.heap.size W7 Y) => show Calls Try.prog 26 #[.agg #[.slice A6 96 c6], .agg #[.int .u64 18446744073709551615, .int .u64 18446744073709551615], .agg #[.slice Av nv cv, .int .i64 kq]] Y (GivesHE Y LS 0) from by
              have := scan_any v Av cv kq A6 c6 q6 fullM Y (HV.out.below (HB7.out.trans (hY.mono HB7.out.size))) (ha7.below hY) full_fine
              rw [hq6, HG6.out.1, HG6.out.2, ← HLS.out, hl6, ← HNV.out] at this
              exact this)
            have HO47 := Lib.hid (OwnH.below HO45.out hb7)
            have HO37 := Lib.hid (OwnH.below HO35.out hb7)
            have hEq := TopL.equal_any A3 A4 c3 c4 LS LS W7 HO37.out.hits HO47.out.hits
            rw [decide_eq_true (rfl : LS = LS), HNS.out] at hEq
            have HEq := Lib.hid hEq
            have HW7 := Lib.hid hW7
            rw [hl6]
            rw [HNS.out]
            clear hq6 ho6 hb6 hl6 hb7 hx7 ha7 hEq hW7
            go_wp2_with fail
            rw [← HW7.out]
            with_reducible refine HEq.out.mono ?_
            rintro e w8 ⟨rfl, hb8⟩
            have HB8 := Lib.hid (HB7.out.trans (hb8.mono HB7.out.size))
            have HSc8 := Lib.hid (HSc7.out w8 hb8)
            have HO38 := Lib.hid (OwnH.below HO37.out hb8)
            have z0 := HX7.out w8 hb8
            obtain ⟨⟨e0, e1, e2⟩, -⟩ := HX.out w8 HB8.out
            clear hb8
            go_wp2_with fail
            with_reducible refine HSc8.out.mono ?_
            rintro e w9 ⟨A9, c9, rfl, ho9, hb9⟩
            have HB9 := Lib.hid (HB8.out.trans (hb9.mono HB8.out.size))
            have HO39 := Lib.hid (OwnH.below HO38.out hb9)
            have hEq := TopL.equal_any A3 A9 c3 c9 LS LS w9 HO39.out.hits (OwnH.hits ho9)
            rw [decide_eq_true (rfl : LS = LS), HNS.out] at hEq
            have HEq9 := Lib.hid hEq
            rw [HNS.out]
            clear hb9 ho9 hEq z0 e0 e1 e2
            go_wp2_with fail
            with_reducible refine HEq9.out.mono ?_
            rintro e w10 ⟨rfl, hb10⟩
            have HB10 := Lib.hid (HB9.out.trans (hb10.mono HB9.out.size))
            clear hb10
            go_wp2
            go_ret
            exact ⟨rfl, HB0.out.trans (HB10.out.mono HB0.out.size)⟩
      · have hL0 := HNo.out hE0
        subst hL0
        have t1 : (ES != 0) = true := by simpa using hE0
        clear hE0
        go_wp2
        go_ret
        exact ⟨rfl, HB0.out.trans (HB3.out.mono HB0.out.size)⟩

set_option maxRecDepth 100000 in
theorem lifted (os : Os) (started : os.Started) (H : Type) (enc : TypeId × Value → H) :
    ReturnsInHanded {} Try.checked os 7 .any (Rows.flatRowsAlikeSpec.pre6 enc Try.prog Try.f7 Rows.flatRowsAlikeRow.domain false) (Rows.flatRowsAlikeSpec.post enc Try.prog Try.f7 false true false false) := by
  refine returnsInHanded_of_change (C := Try.checked) Try.own started (by kernel_rfl) Try.func7
    (ChangeSpec.witness6 (enc := enc) (C := Try.checked) false ⟨#[], #[.agg #[.slice none 0 0], .agg #[.int .u64 0, .int .u64 0], .agg #[.slice none 0 0, .int .i64 0]], []⟩ 8 (by kernel_rfl) (by kernel_rfl) (by kernel_rfl) (by kernel_rfl)) ?_
  intro W base args ds gs before hval0 hW hcnd _
  have hval : ∀ (j : Nat) t v, Try.f7.params[j]? = some t → args[j]? = some v → Value.okWide Try.prog W .any base t v := hval0
  have hW' := hW
  obtain ⟨p, q, hA0, hV, rfl, hfz, hnd⟩ := hW
  have hA : DataW.TrodAll enc Try.prog W 0 (fun _ => true) true Try.f7.params.toList args.toList ds p := hA0
  rw [Try.params7] at hA hval
  have hA' := hA
  obtain ⟨v0, vs0, d0, ds0, p0, q0, hargs, rfl, rfl, h0, r0⟩ := trodAll_cons hA
  obtain ⟨v1, vs1, d1, ds1, p1, q1, rfl, rfl, rfl, h1, r1⟩ := trodAll_cons r0
  obtain ⟨v2, vs2, d2, ds2, p2, q2, rfl, rfl, rfl, h2, r2⟩ := trodAll_cons r1
  obtain ⟨rfl, rfl, rfl⟩ := trodAll_nil r2
  obtain rfl : args = #[v0, v1, v2] := by cases args; simp_all
  obtain ⟨rfl, rfl⟩ := trodVars_none hV
  obtain ⟨A0, c0, z0, rfl, sl0⟩ := open_arena (hval 0 24 v0 rfl rfl) h0
  obtain ⟨m1, rfl, sl1⟩ := open_mask (hval 1 48 v1 rfl rfl) h1
  obtain ⟨A2, c2, z2, k2, rfl, sl2, wk2⟩ := open_query (hval 2 50 v2 rfl rfl) h2
  clear hA0 hval0
  refine (walk A0 c0 z0 sl0 m1 sl1 A2 c2 z2 k2 sl2 wk2).mono fun e W' ⟨he, bel⟩ => ?_
  subst he
  exact ⟨_, rfl, _, _, _, [], _, [], hW', trodAll_mk1 (shut_bool Try.underlying4 _), trodAll_below bel _ _ _ _ (by kernel_rfl) hA', rfl, bel.frame _, fun h => by cases h⟩

theorem proved : Rows.FlatRowsAlikeSaid :=
  OpenClaim.holds_of_wide 7 Try.f7 rfl rfl rfl rfl rfl rfl rfl ⟨rfl, rfl, rfl, rfl, rfl⟩ rfl rfl rfl rfl rfl (by kernel_rfl) Try.func7 (by kernel_rfl)
    (of_decide_eq_true (by kernel_rfl)) (by unfold Func.isWrapper; first | (rw [if_pos (by decide +kernel)]; kernel_rfl) | (rw [if_neg (by decide +kernel)]; exact ⟨rfl, rfl⟩))
    (fun os started H enc _ => lifted os started H enc)
#print axioms proved
end Go.Proofs.Ytdbcecmlakgknaa.flatRowsAlike
