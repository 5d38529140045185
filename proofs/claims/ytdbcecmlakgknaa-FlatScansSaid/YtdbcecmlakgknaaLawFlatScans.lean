/-
  Proved: the law FlatScans, what is found in whatever arena is as the document says, or it is refused, returns true for every arena, mask and query, and leaves all memory as it was. No condition.
-/
import Derived.Test.YtdbcecmlakgknaaMFla
import Derived.Test.YtdbcecmlakgknaaFlaFound
import Derived.Test.YtdbcecmlakgknaaFlaSameH
import Derived.Test.YtdbcecmlakgknaaFlaRowsD
namespace Go.Proofs.Ytdbcecmlakgknaa.flatScans
open Go.BigFrame Go.ChangeShapes Go.WideShapes Go.ChangeAt Go.RowKit
open MskL (Mk Fine hasB)
open TopL (HitM firstM isKM Hits)
set_option linter.unusedVariables false
set_option linter.unusedSimpArgs false
set_option maxRecDepth 100000

theorem scan_refused {kq : Int} {l : List Ce} {f : Nat → Bool} {v : List Int} (h : ¬ chkQ kq v = 0) : scanE kq l f v = chkQ kq v ∧ scanL kq l f v = [] := by
  have e : scanE kq l f v = chkQ kq v := by unfold scanE; rw [if_neg h]
  exact ⟨e, by unfold scanL; rw [e, if_neg h]⟩
theorem scan_arena {kq : Int} {l : List Ce} {f : Nat → Bool} {v : List Int} (h : chkQ kq v = 0) (ha : arB l = false) : scanE kq l f v = 190 ∧ scanL kq l f v = [] := by
  have e : scanE kq l f v = 190 := by unfold scanE; rw [if_pos h, chkA_no ha]; rfl
  exact ⟨e, by unfold scanL; rw [e]; rfl⟩
theorem scan_found {kq : Int} {l : List Ce} {f : Nat → Bool} {v : List Int} (h : chkQ kq v = 0) (ha : arB l = true) : scanE kq l f v = nearE (inK f l l.length) v ∧ scanL kq l f v = nearL kq.toNat (inK f l l.length) v := by
  have e : scanE kq l f v = nearE (inK f l l.length) v := by unfold scanE; rw [if_pos h, chkA_ok ha]; rfl
  exact ⟨e, by unfold scanL; rw [e, nearL_E]⟩

set_option maxHeartbeats 8000000 in
theorem walk {w : World} (A : Option Addr) (c : Nat) (q : List Pa) (H : Are w A c q) (m : Mk) (hm : Fine m) (Av : Option Addr) (cv : Nat) (v : List Int) (kq : Int) (H2 : Vec .i32 w Av cv v) (wk : (Lit.int .i64 kq).wf = true) :
    Calls Try.prog 4 #[.agg #[.slice A q.length c], .agg #[.int .u64 m.1, .int .u64 m.2], .agg #[.slice Av v.length cv, .int .i64 kq]] w fun e w' => e = .returned (.bool true) ∧ Below w.heap.size w w' := by
  obtain ⟨W0, hW0⟩ : ∃ W0, W0 = ((w.alloc (.cells #[.slice A q.length c] 24)).alloc (.cells #[.int .u64 m.1, .int .u64 m.2] 48)).alloc (.cells #[.slice Av v.length cv, .int .i64 kq] 50) := ⟨_, rfl⟩
  have hb0 : Below w.heap.size w W0 := by rw [hW0]; exact (((Below.refl _ w).alloc (Nat.le_refl _) _).alloc (by simp) _).alloc (by simp; omega) _
  have hx0 : W0.heap[w.heap.size]? = some (.cells #[.slice A q.length c] 24 (0, 0)) := by
    rw [hW0]
    exact (Below.heap_alloc _ _ _ (by simp; omega)).trans ((Below.heap_alloc _ _ _ (by simp)).trans (heap_alloc_new w _))
  have hx1 : W0.heap[w.heap.size + 1]? = some (.cells #[.int .u64 m.1, .int .u64 m.2] 48 (0, 0)) := by
    rw [hW0]
    have h := heap_alloc_new (w.alloc (.cells #[.slice A q.length c] 24)) (.cells #[.int .u64 m.1, .int .u64 m.2] 48)
    rw [World.size_alloc] at h
    exact (Below.heap_alloc _ _ _ (by simp)).trans h
  have hx2 : W0.heap[w.heap.size + 2]? = some (.cells #[.slice Av v.length cv, .int .i64 kq] 50 (0, 0)) := by
    rw [hW0]
    have h := heap_alloc_new ((w.alloc (.cells #[.slice A q.length c] 24)).alloc (.cells #[.int .u64 m.1, .int .u64 m.2] 48)) (.cells #[.slice Av v.length cv, .int .i64 kq] 50)
    rw [World.size_alloc, World.size_alloc] at h; exact h
  have HW := Lib.hid hW0
  have HB0 := Lib.hid hb0
  have HX := Lib.hid (fun (X : World) (hX : Below W0.heap.size W0 X) => show (X.cell? ⟨w.heap.size, 0, none⟩ = some (.slice A q.length c) ∧ X.cell? ⟨w.heap.size + 2, 0, none⟩ = some (.slice Av v.length cv) ∧ X.cell? ⟨w.heap.size + 2, 1, none⟩ = some (.int .i64 kq)) ∧
      X.cell? ⟨w.heap.size + 1, 0, none⟩ = some (.int .u64 m.1) ∧ X.cell? ⟨w.heap.size + 1, 1, none⟩ = some (.int .u64 m.2) from by
    have X0 := (hX.block _ (lt_of_block hx0)).trans hx0
    have X1 := (hX.block _ (lt_of_block hx1)).trans hx1
    have X2 := (hX.block _ (lt_of_block hx2)).trans hx2
    exact ⟨⟨(cell_of_row _ _ 0 _ _ _ X0).trans rfl, (cell_of_row _ _ 0 _ _ _ X2).trans rfl, (cell_of_row _ _ 1 _ _ _ X2).trans rfl⟩, (cell_of_row _ _ 0 _ _ _ X1).trans rfl, (cell_of_row _ _ 1 _ _ _ X1).trans rfl⟩)
  have HWk := Lib.hid (wakes11_any W0)
  have HOv := Lib.hid (fun (X : World) (hX : Below W0.heap.size W0 X) => over11_any A c q X ((H.below hb0).below hX))
  obtain ⟨l, hl⟩ : ∃ l, l = ces q := ⟨_, rfl⟩
  obtain ⟨f, hf⟩ : ∃ f : Nat → Bool, f = fun (k : Nat) => hasB m (k : Int) := ⟨_, rfl⟩
  have HSc := Lib.hid (fun (X : World) (hX : Below W0.heap.size W0 X) => show Calls Try.prog 26 #[.agg #[.slice A q.length c], .agg #[.int .u64 m.1, .int .u64 m.2], .agg #[.slice Av v.length cv, .int .i64 kq]] X (GivesHE X (scanL kq l f v) (scanE kq l f v)) from by
    rw [hf, hl]; exact scan_any v Av cv kq A c q m X ((H2.below hb0).below hX) ((H.below hb0).below hX) hm)
  have HQu := Lib.hid (fun (X : World) (hX : Below W0.heap.size W0 X) => rQuery_any v Av cv kq X ((H2.below hb0).below hX))
  have HCh := Lib.hid (fun (X : World) (hX : Below W0.heap.size W0 X) => checkQ_any v Av cv kq X ((H2.below hb0).below hX))
  have HRi := Lib.hid (fun (X : World) (hX : Below W0.heap.size W0 X) => rRightA_any A c q X ((H.below hb0).below hX))
  have HRo := Lib.hid (fun (X : World) (hX : Below W0.heap.size W0 X) (h0 : chkQ kq v = 0) (ha : arB (ces q) = true) => show Calls Try.prog 30 #[.agg #[.slice A q.length c], .agg #[.int .u64 m.1, .int .u64 m.2]] X (fun e w' => ∃ A' ns c', e = .returned (.slice A' ns c') ∧ Below X.heap.size X w' ∧
      (∀ Y, Below w'.heap.size w' Y → Calls Try.prog 29 #[.slice A' ns c', .agg #[.slice Av v.length cv, .int .i64 kq]] Y (fun e w' => ∃ A' c', e = .returned (.tuple #[.slice A' (scanL kq (ces q) (fun (k : Nat) => hasB m (k : Int)) v).length c', .bool (dimB (inK (fun (k : Nat) => hasB m (k : Int)) (ces q) (ces q).length) v)]) ∧ Hits w' A' c' (scanL kq (ces q) (fun (k : Nat) => hasB m (k : Int)) v) ∧ Below Y.heap.size Y w'))) from by
    have h96 := arB_len ha
    have hl96 : q.length = 96 := by rw [← ces_length]; exact h96
    refine (rRowsA_any A c q m X ((H.below hb0).below hX) hm (by omega)).mono ?_
    rintro e w' ⟨A', c', s, rfl, hrv, hrws, hbw⟩
    refine ⟨A', s.length, c', rfl, hbw, fun Y hY => ?_⟩
    obtain ⟨h1, h2⟩ := chkQ_ok h0
    obtain ⟨k1, k16⟩ := (TopL.isK_iff kq).1 h1
    obtain ⟨kk, rfl⟩ := Int.eq_ofNat_of_zero_le (show 0 ≤ kq by omega)
    have hce : inK (inB m) (ces q) (ces q).length = inK (fun (k : Nat) => hasB m (k : Int)) (ces q) (ces q).length := inK_congr _ (fun j hj => (inB_has (by omega)).symm)
    have hR : rvs s = inK (fun (k : Nat) => hasB m (k : Int)) (ces q) (ces q).length := hrv.trans hce
    have := found_any v Av cv kk A' c' s Y ((H2.below hb0).below (hX.trans ((hbw.trans (hY.mono hbw.size)).mono hX.size))) (hrws.below hY) (by rw [hR]; exact inK_right ha _ (Nat.le_refl _)) h2 (by omega) (by omega)
    rw [hR] at this
    rw [(scan_found h0 ha).2]
    exact this)
  rw [← hl] at HOv HRi HRo
  rw [← hf] at HRo
  have HQ := Lib.hid (H.below hb0)
  have HV := Lib.hid (H2.below hb0)
  have HLl := Lib.hid hl
  have HM := Lib.hid hm
  have HFf := Lib.hid (show ∀ (k : Nat), k < 96 → f k = inB m k from fun k hk => by rw [hf]; exact inB_has hk)
  obtain ⟨LS, hLS⟩ : ∃ L, L = scanL kq l f v := ⟨_, rfl⟩
  obtain ⟨ES, hES⟩ : ∃ L, L = scanE kq l f v := ⟨_, rfl⟩
  have HLS := Lib.hid hLS
  have HES := Lib.hid hES
  rw [← hLS, ← hES] at HSc
  rw [← hLS] at HRo
  obtain ⟨nq, hnq⟩ : ∃ n, n = q.length := ⟨_, rfl⟩
  obtain ⟨nv, hnv⟩ : ∃ n, n = v.length := ⟨_, rfl⟩
  rw [← hnq] at HW HX HOv HSc HRi HRo ⊢
  rw [← hnv] at HW HX HSc HQu HCh HRo ⊢
  have HNQ := Lib.hid hnq
  have HNV := Lib.hid hnv
  clear hl hf hLS hES hW0 hb0 hx0 hx1 hx2 H H2 hm wk hnq hnv
  obtain ⟨m0, m1⟩ := m
  cases hov : overB l with
  | true =>
    rw [hov] at HOv
    clear hov
    go_enter Try.func4, Try.ntmps4
    go_wp2_with fail
    rw [← HW.out]
    refine HWk.out.mono ?_
    rintro e w1 ⟨rfl, hb1⟩
    have HB1 := Lib.hid hb1
    have HO1 := Lib.hid (HOv.out w1 hb1)
    obtain ⟨⟨e0, -, -⟩, -⟩ := HX.out w1 hb1
    clear hb1
    go_wp2_with fail
    refine HO1.out.mono ?_
    rintro e w2 ⟨rfl, hb2⟩
    have HB2 := Lib.hid (HB1.out.trans (hb2.mono HB1.out.size))
    clear hb2
    go_wp2
    go_ret
    exact ⟨rfl, HB0.out.trans (HB2.out.mono HB0.out.size)⟩
  | false =>
    rw [hov] at HOv
    clear hov
    by_cases h50 : 50 < nv
    · have t50 : decide ((50 : Int) < nv) = true := by simp; omega
      clear h50
      go_enter Try.func4, Try.ntmps4
      go_wp2_with fail
      rw [← HW.out]
      refine HWk.out.mono ?_
      rintro e w1 ⟨rfl, hb1⟩
      have HB1 := Lib.hid hb1
      have HO1 := Lib.hid (HOv.out w1 hb1)
      obtain ⟨⟨e0, -, -⟩, -⟩ := HX.out w1 hb1
      clear hb1
      go_wp2_with fail
      refine HO1.out.mono ?_
      rintro e w2 ⟨rfl, hb2⟩
      have HB2 := Lib.hid (HB1.out.trans (hb2.mono HB1.out.size))
      obtain ⟨⟨e0, e1, -⟩, -⟩ := HX.out w2 HB2.out
      clear hb2
      go_wp2
      go_ret
      exact ⟨rfl, HB0.out.trans (HB2.out.mono HB0.out.size)⟩
    · have t50 : decide ((50 : Int) < nv) = false := by simp; omega
      clear h50
      go_enter Try.func4, Try.ntmps4
      go_wp2_with fail
      rw [← HW.out]
      refine HWk.out.mono ?_
      rintro e w1 ⟨rfl, hb1⟩
      have HB1 := Lib.hid hb1
      have HO1 := Lib.hid (HOv.out w1 hb1)
      obtain ⟨⟨e0, -, -⟩, -⟩ := HX.out w1 hb1
      clear hb1
      go_wp2_with fail
      refine HO1.out.mono ?_
      rintro e w2 ⟨rfl, hb2⟩
      have HB2 := Lib.hid (HB1.out.trans (hb2.mono HB1.out.size))
      obtain ⟨⟨e0, e1, e2⟩, x0, x1⟩ := HX.out w2 HB2.out
      clear hb2
      go_wp2_with fail
      refine (HSc.out w2 HB2.out).mono ?_
      rintro e w3 ⟨A3, c3, rfl, ho3, hb3⟩
      have HB3 := Lib.hid (HB2.out.trans (hb3.mono HB2.out.size))
      have HO3 := Lib.hid ho3
      clear hb3 ho3 e0 e1 e2 x0 x1
      have HY3 := Lib.hid (OwnH.hits HO3.out)
      obtain ⟨⟨e0, e1, e2⟩, x0, x1⟩ := HX.out w3 HB3.out
      go_wp2_with fail
      with_reducible refine (HQu.out w3 HB3.out).mono ?_
      rintro e w4 ⟨rfl, hb4⟩
      have HB4 := Lib.hid (HB3.out.trans (hb4.mono HB3.out.size))
      have HY4 := Lib.hid (HY3.out.below hb4)
      clear hb4 e0 e1 e2 x0 x1
      obtain ⟨⟨e0, e1, e2⟩, x0, x1⟩ := HX.out w4 HB4.out
      go_wp2_with fail
      with_reducible refine (HCh.out w4 HB4.out).mono ?_
      rintro e w5 ⟨rfl, hb5⟩
      have HB5 := Lib.hid (HB4.out.trans (hb5.mono HB4.out.size))
      have HY5 := Lib.hid (HY4.out.below hb5)
      clear hb5 e0 e1 e2 x0 x1
      obtain ⟨⟨e0, e1, e2⟩, x0, x1⟩ := HX.out w5 HB5.out
      by_cases hq0 : chkQ kq v = 0
      · cases har : arB l with
        | false =>
          obtain ⟨s1, s2⟩ := scan_arena (f := f) hq0 har
          have hE : ES = 190 := by rw [HES.out, s1]
          have hz : LS.length = 0 := by rw [HLS.out, s2]; rfl
          have HR5 := Lib.hid (HRi.out w5 HB5.out)
          rw [har] at HR5
          rw [hq0, hz]
          subst hE
          clear s1 s2 hq0 har hz
          go_wp2_with fail
          with_reducible refine HR5.out.mono ?_
          rintro e w6 ⟨rfl, hb6⟩
          have HB6 := Lib.hid (HB5.out.trans (hb6.mono HB5.out.size))
          clear hb6 e0 e1 e2 x0 x1
          go_wp2
          go_ret
          exact ⟨rfl, HB0.out.trans (HB6.out.mono HB0.out.size)⟩
        | true =>
          obtain ⟨s1, s2⟩ := scan_found (f := f) hq0 har
          have HR5 := Lib.hid (HRi.out w5 HB5.out)
          rw [har] at HR5
          have HG := Lib.hid (fun (X : World) (hX : Below W0.heap.size W0 X) => HRo.out X hX hq0 har)
          have HS1 := Lib.hid (HES.out.trans s1)
          have HS2 := Lib.hid (HLS.out.trans s2)
          rw [hq0]
          clear s1 s2 hq0 har
          obtain ⟨ny, hny⟩ : ∃ n, n = LS.length := ⟨_, rfl⟩
          have HSm := Lib.hid (fun (X : World) (A' : Option Addr) (c' : Nat) (h1 : Hits X A3 c3 LS) (h2 : Hits X A' c' LS) => sameHits_any A3 A' c3 c' LS LS X h1 h2)
          rw [← hny] at HSm HG ⊢
          have HNY := Lib.hid hny
          clear hny
          go_wp2_with fail
          with_reducible refine HR5.out.mono ?_
          rintro e w6 ⟨rfl, hb6⟩
          have HB6 := Lib.hid (HB5.out.trans (hb6.mono HB5.out.size))
          have HY6 := Lib.hid (HY5.out.below hb6)
          clear hb6 e0 e1 e2 x0 x1
          obtain ⟨⟨e0, e1, e2⟩, x0, x1⟩ := HX.out w6 HB6.out
          obtain ⟨Dm, hDm⟩ : ∃ D, D = dimB (inK f l l.length) v := ⟨_, rfl⟩
          have HDm := Lib.hid hDm
          rw [← hDm] at HG
          clear hDm
          have HX6 := Lib.hid (fun (X : World) (hX : Below w6.heap.size w6 X) => HX.out X (HB6.out.trans (hX.mono HB6.out.size)))
          have HG6 := Lib.hid (fun (X : World) (hX : Below w6.heap.size w6 X) => HG.out X (HB6.out.trans (hX.mono HB6.out.size)))
          go_wp2
          go_region_held3 (fun X => (X.cell? ⟨w.heap.size, 0, none⟩ = some (.slice A nq c) ∧ X.cell? ⟨w.heap.size + 2, 0, none⟩ = some (.slice Av nv cv) ∧ X.cell? ⟨w.heap.size + 2, 1, none⟩ = some (.int .i64 kq)) ∧ X.cell? ⟨w.heap.size + 1, 0, none⟩ = some (.int .u64 m0) ∧ X.cell? ⟨w.heap.size + 1, 1, none⟩ = some (.int .u64 m1))
            (first | (with_reducible assumption) | (with_reducible exact HX6.out _ (below_drew (Below.refl _ _))) | (with_reducible exact HX6.out _ HB7.out) | (with_reducible exact HX6.out _ HB8.out))
            (first
            | (go_at_call 30; refine (HG6.out _ (below_drew (Below.refl _ _))).mono ?_; rintro e w7 ⟨A7, n7, c7, rfl, hb7, hF7⟩; have HB7 := Lib.hid (show Below w6.heap.size w6 w7 from (below_drew (Below.refl _ _)).trans hb7); have HF7 := Lib.hid (hF7 w7 (Below.refl _ _)); clear hb7 hF7)
            | (go_at_call 29; refine HF7.out.mono ?_; rintro e w8 ⟨A8, c8, rfl, hh8, hb8⟩; have HB8 := Lib.hid (show Below w6.heap.size w6 w8 from HB7.out.trans (hb8.mono HB7.out.size)); have HH8 := Lib.hid hh8; clear hh8 hb8))
          have HBz := Lib.hid (HB6.out.trans (HB8.out.mono HB6.out.size))
          have HY8 := Lib.hid (HY6.out.below HB8.out)
          cases Dm with
          | true =>
            have hE : ES = 0 := by rw [HS1.out]; unfold nearE; rw [← HDm.out]; rfl
            have HS9 := Lib.hid (HSm.out w8 A8 c8 HY8.out HH8.out)
            subst hE
            clear e0 e1 e2 x0 x1
            go_wp2_with fail
            refine HS9.out.mono ?_
            rintro e w9 ⟨rfl, hb9⟩
            have HB9 := Lib.hid (HBz.out.trans (hb9.mono HBz.out.size))
            clear hb9
            go_wp2
            go_ret
            exact ⟨by simp, HB0.out.trans (HB9.out.mono HB0.out.size)⟩
          | false =>
            have hE : ES = 151 := by rw [HS1.out]; unfold nearE; rw [← HDm.out]; rfl
            have hz : ny = 0 := by rw [HNY.out, HS2.out]; unfold nearL; rw [← HDm.out]; rfl
            subst hE hz
            clear e0 e1 e2 x0 x1
            go_wp2
            go_ret
            exact ⟨rfl, HB0.out.trans (HBz.out.mono HB0.out.size)⟩
      · obtain ⟨s1, s2⟩ := scan_refused (l := l) (f := f) hq0
        have hE : ES = chkQ kq v := by rw [HES.out, s1]
        have hz : LS.length = 0 := by rw [HLS.out, s2]; rfl
        rw [hz]
        obtain ⟨N, hN⟩ : ∃ N, N = chkQ kq v := ⟨_, rfl⟩
        rw [← hN] at hE hq0 ⊢
        subst hE
        have t1 : (ES != 0) = true := by simpa using hq0
        have t2 : (ES == 0) = false := by simpa using hq0
        clear s1 s2 hz hN hq0
        go_wp2
        go_ret
        exact ⟨by simp, HB0.out.trans (HB5.out.mono HB0.out.size)⟩

set_option maxRecDepth 100000 in
theorem lifted (os : Os) (started : os.Started) (H : Type) (enc : TypeId × Value → H) :
    ReturnsInHanded {} Try.checked os 4 .any (Rows.flatScansSpec.pre6 enc Try.prog Try.f4 Rows.flatScansRow.domain false) (Rows.flatScansSpec.post enc Try.prog Try.f4 false true false false) := by
  refine returnsInHanded_of_change (C := Try.checked) Try.own started (by kernel_rfl) Try.func4
    (ChangeSpec.witness6 (enc := enc) (C := Try.checked) false ⟨#[], #[.agg #[.slice none 0 0], .agg #[.int .u64 0, .int .u64 0], .agg #[.slice none 0 0, .int .i64 0]], []⟩ 8 (by kernel_rfl) (by kernel_rfl) (by kernel_rfl) (by kernel_rfl)) ?_
  intro W base args ds gs before hval0 hW hcnd _
  have hval : ∀ (j : Nat) t v, Try.f4.params[j]? = some t → args[j]? = some v → Value.okWide Try.prog W .any base t v := hval0
  have hW' := hW
  obtain ⟨p, q, hA0, hV, rfl, hfz, hnd⟩ := hW
  have hA : DataW.TrodAll enc Try.prog W 0 (fun _ => true) true Try.f4.params.toList args.toList ds p := hA0
  rw [Try.params4] at hA hval
  have hA' := hA
  obtain ⟨v0, vs0, d0, ds0, p0, q0, hargs, rfl, rfl, h0, r0⟩ := trodAll_cons hA
  obtain ⟨v1, vs1, d1, ds1, p1, q1, rfl, rfl, rfl, h1, r1⟩ := trodAll_cons r0
  obtain ⟨v2, vs2, d2, ds2, p2, q2, rfl, rfl, rfl, h2, r2⟩ := trodAll_cons r1
  obtain ⟨rfl, rfl, rfl⟩ := trodAll_nil r2
  obtain rfl : args = #[v0, v1, v2] := by cases args; simp_all
  obtain ⟨rfl, rfl⟩ := trodVars_none hV
  obtain ⟨A0, c0, z0, rfl, sl0⟩ := open_arena (hval 0 24 v0 rfl rfl) h0
  obtain ⟨m1, rfl, sl1⟩ := open_mask (hval 1 48 v1 rfl rfl) h1
  obtain ⟨A2, c2, z2, k2, rfl, sl2, wk2⟩ := open_query (hval 2 50 v2 rfl rfl) h2
  clear hA0 hval0
  refine (walk A0 c0 z0 sl0 m1 sl1 A2 c2 z2 k2 sl2 wk2).mono fun e W' ⟨he, bel⟩ => ?_
  subst he
  exact ⟨_, rfl, _, _, _, [], _, [], hW', trodAll_mk1 (shut_bool Try.underlying4 _), trodAll_below bel _ _ _ _ (by kernel_rfl) hA', rfl, bel.frame _, fun h => by cases h⟩

theorem proved : Rows.FlatScansSaid :=
  OpenClaim.holds_of_wide 4 Try.f4 rfl rfl rfl rfl rfl rfl rfl ⟨rfl, rfl, rfl, rfl, rfl⟩ rfl rfl rfl rfl rfl (by kernel_rfl) Try.func4 (by kernel_rfl)
    (of_decide_eq_true (by kernel_rfl)) (by unfold Func.isWrapper; first | (rw [if_pos (by decide +kernel)]; kernel_rfl) | (rw [if_neg (by decide +kernel)]; exact ⟨rfl, rfl⟩))
    (fun os started H enc _ => lifted os started H enc)
#print axioms proved
end Go.Proofs.Ytdbcecmlakgknaa.flatScans
