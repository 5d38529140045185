/-
  Proved: the law FlatRows, what is found among whatever rows is as the document says, or it is refused, returns true for every rows and query, and leaves all memory as it was. No condition.
-/
import Derived.Test.YtdbcecmlakgknaaMFla
import Derived.Test.YtdbcecmlakgknaaFlaFound
import Derived.Test.YtdbcecmlakgknaaFlaSameH
namespace Go.Proofs.Ytdbcecmlakgknaa.flatRows
open Go.ChangeShapes Go.WideShapes Go.ChangeAt Go.RowKit Go.Maps Go.Deep
open TopL (HitM firstM isKM z2 Hits)
set_option linter.unusedVariables false
set_option linter.unusedSimpArgs false
set_option maxRecDepth 100000

/-- Why rows are refused, when the first k are gone through. -/
def noK (kq : Int) (v : List Int) (l : List Rv) (k : Nat) : Int := if chkQ kq v = 0 then (if rightR (l.take k) = true then 0 else 170) else chkQ kq v
theorem right_snoc {l : List Rv} {k : Nat} {p : Rv} (h : l[k]? = some p) : rightR (l.take (k + 1)) = (rightR (l.take k) && right p.2) := by
  unfold rightR; rw [List.take_add_one, h]; simp
theorem no_zero (kq : Int) (v : List Int) (l : List Rv) : noK kq v l 0 = chkQ kq v := by
  unfold noK
  by_cases h : chkQ kq v = 0
  · rw [if_pos h, h]; rfl
  · rw [if_neg h]
theorem no_yes {kq : Int} {v : List Int} {l : List Rv} {k : Nat} {p : Rv} (h : l[k]? = some p) (h0 : noK kq v l k = 0) : noK kq v l (k + 1) = if right p.2 = true then 0 else 170 := by
  unfold noK at *
  by_cases hc : chkQ kq v = 0
  · rw [if_pos hc] at h0 ⊢
    by_cases hr : rightR (l.take k) = true
    · rw [right_snoc h, hr]; simp
    · rw [if_neg hr] at h0; exact absurd h0 (by decide)
  · rw [if_neg hc] at h0; exact absurd h0 hc
theorem no_no {kq : Int} {v : List Int} {l : List Rv} {k : Nat} {p : Rv} (h : l[k]? = some p) (h0 : ¬ noK kq v l k = 0) : noK kq v l (k + 1) = noK kq v l k := by
  unfold noK at *
  by_cases hc : chkQ kq v = 0
  · rw [if_pos hc] at h0 ⊢
    rw [if_pos hc]
    by_cases hr : rightR (l.take k) = true
    · rw [if_pos hr] at h0; exact absurd rfl h0
    · have hr2 : rightR (l.take k) = false := by simpa using hr
      rw [right_snoc h, hr2]; simp
  · rw [if_neg hc, if_neg hc]
theorem no_end {kq : Int} {v : List Int} {l : List Rv} (h : ¬ noK kq v l l.length = 0) : rowsE kq l v = noK kq v l l.length ∧ rowsL kq l v = [] := by
  have e : rowsE kq l v = noK kq v l l.length := by
    unfold noK rowsE at *
    rw [List.take_length] at *
    by_cases hc : chkQ kq v = 0
    · rw [if_pos hc] at h ⊢
      rw [if_pos hc]
      by_cases hr : rightR l = true
      · rw [if_pos hr] at h; exact absurd rfl h
      · have : refR l = 170 := by unfold refR; rw [if_neg hr]
        rw [this, if_neg (by decide), if_neg hr]
    · rw [if_neg hc, if_neg hc]
  exact ⟨e, by unfold rowsL; rw [e, if_neg h]⟩
theorem yes_end {kq : Int} {v : List Int} {l : List Rv} (h : noK kq v l l.length = 0) (hl : l.length ≤ 300) : chkQ kq v = 0 ∧ rightR l = true ∧ rowsE kq l v = nearE l v ∧ rowsL kq l v = nearL kq.toNat l v := by
  unfold noK at h
  rw [List.take_length] at h
  by_cases hc : chkQ kq v = 0
  · rw [if_pos hc] at h
    by_cases hr : rightR l = true
    · have h2 : refR l = 0 := by unfold refR; rw [if_pos hr, if_neg (by omega)]
      have e : rowsE kq l v = nearE l v := by unfold rowsE; rw [if_pos hc, if_pos h2]
      exact ⟨hc, hr, e, by unfold rowsL; rw [e, nearL_E]⟩
    · rw [if_neg hr] at h; exact absurd h (by decide)
  · rw [if_neg hc] at h; exact absurd h hc

set_option maxHeartbeats 8000000 in
theorem walk {w : World} (A : Option Addr) (c : Nat) (q : List Pr) (H : Rws w A c q) (Av : Option Addr) (cv : Nat) (v : List Int) (kq : Int) (H2 : Vec .i32 w Av cv v) (wk : (Lit.int .i64 kq).wf = true) :
    Calls Try.prog 5 #[.slice A q.length c, .agg #[.slice Av v.length cv, .int .i64 kq]] w fun e w' => e = .returned (.bool true) ∧ Below w.heap.size w w' := by
  obtain ⟨W0, hW0⟩ : ∃ W0, W0 = w.alloc (.cells #[.slice Av v.length cv, .int .i64 kq] 50) := ⟨_, rfl⟩
  have hb0 : Below w.heap.size w W0 := by rw [hW0]; exact (Below.refl _ w).alloc (Nat.le_refl _) _
  have hx0 : W0.heap[w.heap.size]? = some (.cells #[.slice Av v.length cv, .int .i64 kq] 50 (0, 0)) := by rw [hW0]; exact heap_alloc_new _ _
  have HW := Lib.hid hW0
  have HB0 := Lib.hid hb0
  have HX := Lib.hid (fun (X : World) (hX : Below W0.heap.size W0 X) => show X.cell? ⟨w.heap.size, 0, none⟩ = some (.slice Av v.length cv) ∧ X.cell? ⟨w.heap.size, 1, none⟩ = some (.int .i64 kq) from by
    have X0 := (hX.block _ (lt_of_block hx0)).trans hx0
    exact ⟨(cell_of_row _ _ 0 _ _ _ X0).trans rfl, (cell_of_row _ _ 1 _ _ _ X0).trans rfl⟩)
  have HWk := Lib.hid (wakes11_any W0)
  have HOv := Lib.hid (fun (X : World) (hX : Below W0.heap.size W0 X) => overR_any A c q X ((H.below hb0).below hX))
  have HRw := Lib.hid (fun (X : World) (hX : Below W0.heap.size W0 X) => rowsQ_any v Av cv kq A c q X ((H2.below hb0).below hX) ((H.below hb0).below hX))
  have HQu := Lib.hid (fun (X : World) (hX : Below W0.heap.size W0 X) => rQuery_any v Av cv kq X ((H2.below hb0).below hX))
  have HFo := Lib.hid (fun (X : World) (hX : Below W0.heap.size W0 X) (h1 : isKM kq = true) (h2 : right v = true) (h3 : rightR (rvs q) = true) => show Calls Try.prog 29 #[.slice A q.length c, .agg #[.slice Av v.length cv, .int .i64 kq]] X (fun e w' => ∃ A' c', e = .returned (.tuple #[.slice A' (nearL kq.toNat (rvs q) v).length c', .bool (dimB (rvs q) v)]) ∧ Hits w' A' c' (nearL kq.toNat (rvs q) v) ∧ Below X.heap.size X w') from by
    obtain ⟨k1, k16⟩ := (TopL.isK_iff kq).1 h1
    obtain ⟨kk, rfl⟩ := Int.eq_ofNat_of_zero_le (show 0 ≤ kq by omega)
    exact found_any v Av cv kk A c q X ((H2.below hb0).below hX) ((H.below hb0).below hX) h3 h2 (by omega) (by omega))
  have HQ := Lib.hid (H.below hb0)
  have HV := Lib.hid (H2.below hb0)
  obtain ⟨l, hl⟩ : ∃ l, l = rvs q := ⟨_, rfl⟩
  have HLl := Lib.hid hl
  rw [← hl] at HOv HRw HFo
  obtain ⟨LS, hLS⟩ : ∃ L, L = rowsL kq l v := ⟨_, rfl⟩
  obtain ⟨ES, hES⟩ : ∃ L, L = rowsE kq l v := ⟨_, rfl⟩
  have HLS := Lib.hid hLS
  have HES := Lib.hid hES
  rw [← hLS, ← hES] at HRw
  obtain ⟨xl, hxl⟩ : ∃ n, n = q.length := ⟨_, rfl⟩
  obtain ⟨nv, hnv⟩ : ∃ n, n = v.length := ⟨_, rfl⟩
  have hxm : xl ≤ 9223372036854775807 := by rw [hxl]; exact H.many
  rw [← hxl] at HOv HRw HFo ⊢
  rw [← hnv] at HW HX HRw HQu HFo ⊢
  have HNQ := Lib.hid hxl
  have HNV := Lib.hid hnv
  clear hl hLS hES hW0 hb0 hx0 H H2 wk hxl hnv
  cases hov : overR l with
  | true =>
    rw [hov] at HOv
    clear hov
    go_enter Try.func5, Try.ntmps5
    go_wp2_with fail
    rw [← HW.out]
    refine HWk.out.mono ?_
    rintro e w1 ⟨rfl, hb1⟩
    have HB1 := Lib.hid hb1
    have HO1 := Lib.hid (HOv.out w1 hb1)
    clear hb1
    go_wp2_with fail
    refine HO1.out.mono ?_
    rintro e w2 ⟨rfl, hb2⟩
    have HB2 := Lib.hid (HB1.out.trans (hb2.mono HB1.out.size))
    clear hb2
    go_wp2
    go_ret
    exact ⟨rfl, HB0.out.trans (HB2.out.mono HB0.out.size)⟩
  | false =>
    have hx300 : xl ≤ 300 := by have := (overR_no hov).1; rw [HLl.out, rvs_length] at this; rw [HNQ.out]; exact this
    rw [hov] at HOv
    clear hov
    by_cases h50 : 50 < nv
    · have t50 : decide ((50 : Int) < nv) = true := by simp; omega
      clear h50
      go_enter Try.func5, Try.ntmps5
      go_wp2_with fail
      rw [← HW.out]
      refine HWk.out.mono ?_
      rintro e w1 ⟨rfl, hb1⟩
      have HB1 := Lib.hid hb1
      have HO1 := Lib.hid (HOv.out w1 hb1)
      clear hb1
      go_wp2_with fail
      refine HO1.out.mono ?_
      rintro e w2 ⟨rfl, hb2⟩
      have HB2 := Lib.hid (HB1.out.trans (hb2.mono HB1.out.size))
      obtain ⟨e0, e1⟩ := HX.out w2 HB2.out
      clear hb2
      go_wp2
      go_ret
      exact ⟨rfl, HB0.out.trans (HB2.out.mono HB0.out.size)⟩
    · have t50 : decide ((50 : Int) < nv) = false := by simp; omega
      clear h50
      go_enter Try.func5, Try.ntmps5
      go_wp2_with fail
      rw [← HW.out]
      refine HWk.out.mono ?_
      rintro e w1 ⟨rfl, hb1⟩
      have HB1 := Lib.hid hb1
      have HO1 := Lib.hid (HOv.out w1 hb1)
      clear hb1
      go_wp2_with fail
      refine HO1.out.mono ?_
      rintro e w2 ⟨rfl, hb2⟩
      have HB2 := Lib.hid (HB1.out.trans (hb2.mono HB1.out.size))
      have HR2 := Lib.hid (HRw.out w2 HB2.out)
      obtain ⟨e0, e1⟩ := HX.out w2 HB2.out
      clear hb2
      go_wp2_with fail
      with_reducible refine HR2.out.mono ?_
      rintro e wz ⟨F3, f3, rfl, ho3, hb3⟩
      have HB3 := Lib.hid (HB2.out.trans (hb3.mono HB2.out.size))
      have HY3 := Lib.hid (OwnH.hits ho3)
      have HU3 := Lib.hid (HQu.out wz HB3.out)
      clear hb3 ho3 e0 e1
      obtain ⟨e0, e1⟩ := HX.out wz HB3.out
      have hxL : xl = l.length := by rw [HLl.out, rvs_length, HNQ.out]
      have HXL := Lib.hid hxL
      clear hxL
      have HN0 := Lib.hid (no_zero kq v l)
      go_wp2_with fail
      with_reducible refine HU3.out.mono ?_
      rintro e w4 ⟨rfl, hb4⟩
      have HB4 := Lib.hid (HB3.out.trans (hb4.mono HB3.out.size))
      have HY4 := Lib.hid (HY3.out.below hb4)
      clear hb4 e0 e1
      go_wp2
      go_loopw [7, 32] (fun no i wr => ∃ k : Nat, k ≤ xl ∧ i = .int .i64 k ∧ no = .int .i64 (noK kq v l k) ∧ Hid (Below w4.heap.size w4 wr)) (fun _ i _ => xl - (intOf i).toNat)
      case atStart => exact ⟨0, Nat.zero_le _, rfl, by rw [HN0.out], Lib.hid (Below.refl _ _)⟩
      case round =>
        obtain ⟨k, hk, rfl, rfl, HI⟩ := hrel
        have HBr := Lib.hid (HB4.out.trans (HI.out.mono HB4.out.size))
        by_cases hkm : k < xl
        · obtain ⟨b, o, p, rfl, hp, hb, d0, d1, hvx, hf⟩ := (HQ.out.below HBr.out).at_ (i := k) (by rw [← HNQ.out]; exact hkm)
          obtain ⟨i, x, B, cb⟩ := p
          dsimp only at d0 d1 hvx hf
          have hpr : l[k]? = some (i, x) := by rw [HLl.out]; simp [rvs, hp]
          have k0 : (0 : Int) ≤ k := by omega
          have km : (k : Int) < xl := by omega
          obtain ⟨W1, hW1⟩ : ∃ W1, W1 = wr.alloc (.cells #[.int .u64 i, .slice B x.length cb] 64) := ⟨_, rfl⟩
          have hba1 : Below wr.heap.size wr W1 := by rw [hW1]; exact (Below.refl _ wr).alloc (Nat.le_refl _) _
          have hx1 : W1.heap[wr.heap.size]? = some (.cells #[.int .u64 i, .slice B x.length cb] 64 (0, 0)) := by rw [hW1]; exact heap_alloc_new wr _
          have HI1 := Lib.hid (HI.out.trans (hba1.mono HI.out.size))
          have HRi := Lib.hid (rRight_any B cb x W1 (hvx.below hba1))
          have HW1 := Lib.hid hW1
          have z1 := (cell_of_row _ _ 1 _ _ _ hx1).trans rfl
          have HYs := Lib.hid (fun (h : noK kq v l k = 0) => no_yes (kq := kq) (v := v) hpr h)
          have HNs := Lib.hid (fun (h : ¬ noK kq v l k = 0) => no_no (kq := kq) (v := v) hpr h)
          clear hp hb hvx hf hpr hba1 hW1 hx1
          obtain ⟨N, hN⟩ : ∃ N, N = noK kq v l k := ⟨_, rfl⟩
          have HNN := Lib.hid hN
          rw [← hN] at HYs HNs ⊢
          clear hN
          generalize x.length = nx at *
          by_cases hN0 : N = 0
          · subst hN0
            have hst := HYs.out rfl
            dsimp only at hst
            have HST := Lib.hid hst
            clear hst
            cases hrx : right x with
            | true =>
              rw [hrx] at HRi
              have HS2 := Lib.hid (show noK kq v l (k + 1) = 0 by rw [HST.out, hrx]; rfl)
              clear hrx HST HYs HNs
              go_wp2_with (rw [← HW1.out])
              refine HRi.out.mono ?_
              rintro e w5 ⟨rfl, rfl⟩
              go_wp2
              go_roundw
              case rel => exact ⟨k + 1, by omega, by go_num, by rw [HS2.out], HI1⟩
              case measure => simp [intOf]; omega
            | false =>
              rw [hrx] at HRi
              have HS2 := Lib.hid (show noK kq v l (k + 1) = 170 by rw [HST.out, hrx]; rfl)
              clear hrx HST HYs HNs
              go_wp2_with (rw [← HW1.out])
              refine HRi.out.mono ?_
              rintro e w5 ⟨rfl, rfl⟩
              go_wp2
              go_roundw
              case rel => exact ⟨k + 1, by omega, by go_num, by rw [HS2.out], HI1⟩
              case measure => simp [intOf]; omega
          · have t1 : (N == 0) = false := by simpa using hN0
            have HS2 := Lib.hid (show noK kq v l (k + 1) = N from HNs.out hN0)
            clear hN0 HYs HNs
            go_wp2_with (rw [← HW1.out])
            go_roundw
            case rel => exact ⟨k + 1, by omega, by go_num, by rw [HS2.out], HI1⟩
            case measure => simp [intOf]; omega
        · obtain rfl : k = xl := by omega
          obtain ⟨N, hN⟩ : ∃ N, N = noK kq v l k := ⟨_, rfl⟩
          have HNN := Lib.hid hN
          rw [← hN]
          clear hN
          have HYr := Lib.hid (HY4.out.below HI.out)
          by_cases hN0 : N = 0
          · obtain ⟨q1, q2, q3, q4⟩ := yes_end (kq := kq) (v := v) (l := l) (by rw [← HXL.out, ← HNN.out]; exact hN0) (by rw [← HXL.out]; exact hx300)
            subst hN0
            have HF5 := Lib.hid (HFo.out wr HBr.out (chkQ_ok q1).1 (chkQ_ok q1).2 q2)
            have hLn : LS = nearL kq.toNat l v := by rw [HLS.out, q4]
            rw [← hLn] at HF5
            obtain ⟨e0, e1⟩ := HX.out wr HBr.out
            obtain ⟨ny, hny⟩ : ∃ n, n = LS.length := ⟨_, rfl⟩
            have HSm := Lib.hid (fun (X : World) (A' : Option Addr) (c' : Nat) (h1 : Hits X F3 f3 LS) (h2 : Hits X A' c' LS) => sameHits_any F3 A' f3 c' LS LS X h1 h2)
            rw [← hny] at HSm HF5 ⊢
            cases hd : dimB l v with
            | true =>
              have hE : ES = 0 := by rw [HES.out, q3]; unfold nearE; rw [hd]; rfl
              rw [hd] at HF5
              subst hE
              clear q1 q2 q3 q4 hLn hd hny
              go_wp2_with fail
              refine HF5.out.mono ?_
              rintro e w6 ⟨A6, c6, rfl, hh6, hb6⟩
              have HS6 := Lib.hid (HSm.out w6 A6 c6 (HYr.out.below hb6) hh6)
              have HB6 := Lib.hid (HBr.out.trans (hb6.mono HBr.out.size))
              clear hh6 hb6 e0 e1
              go_wp2_with fail
              refine HS6.out.mono ?_
              rintro e w7 ⟨rfl, hb7⟩
              have HB7 := Lib.hid (HB6.out.trans (hb7.mono HB6.out.size))
              clear hb7
              go_wp2
              go_ret
              exact ⟨by simp, HB0.out.trans (HB7.out.mono HB0.out.size)⟩
            | false =>
              have hE : ES = 151 := by rw [HES.out, q3]; unfold nearE; rw [hd]; rfl
              have hz : ny = 0 := by rw [hny, hLn]; unfold nearL; rw [hd]; rfl
              rw [hd] at HF5
              subst hE hz
              clear q1 q2 q3 q4 hLn hd hny
              go_wp2_with fail
              refine HF5.out.mono ?_
              rintro e w6 ⟨A6, c6, rfl, hh6, hb6⟩
              have HB6 := Lib.hid (HBr.out.trans (hb6.mono HBr.out.size))
              clear hh6 hb6 e0 e1
              go_wp2
              go_ret
              exact ⟨rfl, HB0.out.trans (HB6.out.mono HB0.out.size)⟩
          · obtain ⟨q1, q2⟩ := no_end (kq := kq) (v := v) (l := l) (by rw [← HXL.out, ← HNN.out]; exact hN0)
            have hE : ES = N := by rw [HES.out, q1, HNN.out, HXL.out]
            have hz : LS.length = 0 := by rw [HLS.out, q2]; rfl
            have t1 : (N != 0) = true := by simpa using hN0
            have t2 : (N == 0) = false := by simpa using hN0
            subst hE
            rw [hz]
            clear q1 q2 hN0 hz
            go_wp2
            go_ret
            exact ⟨by simp, HB0.out.trans (HBr.out.mono HB0.out.size)⟩

set_option maxRecDepth 100000 in
theorem lifted (os : Os) (started : os.Started) (H : Type) (enc : TypeId × Value → H) :
    ReturnsInHanded {} Try.checked os 5 .any (Rows.flatRowsSpec.pre6 enc Try.prog Try.f5 Rows.flatRowsRow.domain false) (Rows.flatRowsSpec.post enc Try.prog Try.f5 false true false false) := by
  refine returnsInHanded_of_change (C := Try.checked) Try.own started (by kernel_rfl) Try.func5
    (ChangeSpec.witness6 (enc := enc) (C := Try.checked) false ⟨#[], #[.slice none 0 0, .agg #[.slice none 0 0, .int .i64 0]], []⟩ 8 (by kernel_rfl) (by kernel_rfl) (by kernel_rfl) (by kernel_rfl)) ?_
  intro W base args ds gs before hval0 hW hcnd _
  have hval : ∀ (j : Nat) t v, Try.f5.params[j]? = some t → args[j]? = some v → Value.okWide Try.prog W .any base t v := hval0
  have hW' := hW
  obtain ⟨p, q, hA0, hV, rfl, hfz, hnd⟩ := hW
  have hA : DataW.TrodAll enc Try.prog W 0 (fun _ => true) true Try.f5.params.toList args.toList ds p := hA0
  rw [Try.params5] at hA hval
  have hA' := hA
  obtain ⟨v0, vs0, d0, ds0, p0, q0, hargs, rfl, rfl, h0, r0⟩ := trodAll_cons hA
  obtain ⟨v1, vs1, d1, ds1, p1, q1, rfl, rfl, rfl, h1, r1⟩ := trodAll_cons r0
  obtain ⟨rfl, rfl, rfl⟩ := trodAll_nil r1
  obtain rfl : args = #[v0, v1] := by cases args; simp_all
  obtain ⟨rfl, rfl⟩ := trodVars_none hV
  obtain ⟨A0, len0, c0, rfl⟩ := okWide_slice Try.underlying57 (hval 0 57 v0 rfl rfl)
  obtain ⟨z0, rfl, sl0⟩ := open_rows h0
  obtain ⟨A1, c1, z1, k1, rfl, sl1, wk1⟩ := open_query (hval 1 50 v1 rfl rfl) h1
  clear hA0 hval0
  refine (walk A0 c0 z0 sl0 A1 c1 z1 k1 sl1 wk1).mono fun e W' ⟨he, bel⟩ => ?_
  subst he
  exact ⟨_, rfl, _, _, _, [], _, [], hW', trodAll_mk1 (shut_bool Try.underlying4 _), trodAll_below bel _ _ _ _ (by kernel_rfl) hA', rfl, bel.frame _, fun h => by cases h⟩

theorem proved : Rows.FlatRowsSaid :=
  OpenClaim.holds_of_wide 5 Try.f5 rfl rfl rfl rfl rfl rfl rfl ⟨rfl, rfl, rfl, rfl, rfl⟩ rfl rfl rfl rfl rfl (by kernel_rfl) Try.func5 (by kernel_rfl)
    (of_decide_eq_true (by kernel_rfl)) (by unfold Func.isWrapper; first | (rw [if_pos (by decide +kernel)]; kernel_rfl) | (rw [if_neg (by decide +kernel)]; exact ⟨rfl, rfl⟩))
    (fun os started H enc _ => lifted os started H enc)
#print axioms proved
end Go.Proofs.Ytdbcecmlakgknaa.flatRows
