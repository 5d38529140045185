/-
  Proved: the law VecNears, which one is nearest, and the mean, is as the document says, or it is refused, returns true for every row of vectors and vector, and leaves all memory as it was. No condition.
-/
import Derived.Test.YtdfpiipnpaknaaaVecWakes
import Derived.Test.YtdfpiipnpaknaaaLawFrame
namespace Go.Proofs.Ytdfpiipnpaknaaa.vecNears
open Go.ChangeShapes Go.WideShapes Go.ChangeAt Go.RowKit
set_option linter.unusedVariables false
set_option maxRecDepth 100000

theorem infoVec : (Try.prog.info? 22).map (fun i => (i.zero, i.size, i.bytes)) = some (some (.slice none 0 0), 1, 24) := by kernel_rfl

/-- Rows of the call's own whose parts can be read. -/
theorem vecs_own {w : World} {base m : Nat} {v : Value} {vs : List Value} {l : List (List Int)} (h : w.ownsRow base 22 1 v m vs) (hm : m = l.length) (he : ∀ (i : Nat) x, l[i]? = some x → ∃ B cb, vs[i]? = some (Value.slice B x.length cb) ∧ Vec .i32 w B cb x) : ∃ A c, v = .slice A l.length c ∧ Vecs .i32 w A c l := by
  subst hm
  rcases h.2 with ⟨rfl, h0⟩ | ⟨g, cap, cur, rfl, hg, hh, hnc, hcm, hsz, hcs⟩
  · obtain rfl : l = [] := List.eq_nil_of_length_eq_zero h0
    exact ⟨none, 0, rfl, Vecs.nil _ w⟩
  · refine ⟨_, cap, rfl, hnc, by unfold maxLen at hcm; omega, fun hp => ⟨g, 0, rfl, lt_of_block hh, fun i x hx => ?_⟩⟩
    obtain ⟨B, cb, h1, h2⟩ := he i x hx
    have hi := (List.getElem?_eq_some_iff.1 hx).1
    have hl := h.1
    have := h.cellAt i (by omega)
    rw [Nat.zero_add, this, h1]
    exact ⟨B, cb, rfl, h2⟩

theorem near_ok {l : List (List Int)} {v : List Int} (h : nearE l v = 0) : 0 < l.length ∧ right v = true ∧ (∀ x ∈ l, right x = true ∧ x.length = v.length) := by
  unfold nearE at h
  split at h
  · omega
  · split at h
    · rename_i h2; exact absurd h h2
    · rename_i h1 h2
      have hc : checkM v = 0 := by simpa using h2
      refine ⟨by omega, (refuse_ok hc v (by simp)).1, fun x hx => ?_⟩
      have := refuse_ok h x hx
      exact ⟨this.1, by omega⟩
theorem check_of {v : List Int} : checkM v = if right v then 0 else 150 := by
  unfold checkM refuseM
  cases h : right v <;> simp [h]
/-- All of them, the vector ahead. -/
theorem all_near (l : List (List Int)) (v : List Int) (hl : l.length ≠ 0) : nearE l v = allM (v :: l) := by
  unfold nearE allM
  rw [if_neg hl, check_of]
  have e0 : (v :: l).getD 0 [] = v := rfl
  rw [e0]
  unfold refuseM
  rw [List.all_cons, List.all_cons, decide_eq_true rfl, Bool.true_and]
  cases right v <;> simp
theorem meanE_all (l : List (List Int)) (hl : l.length ≠ 0) : meanE l = allM l := by unfold meanE allM; rw [if_neg hl]
theorem near_err (l : List (List Int)) (v : List Int) (h : nearE l v ≠ 0) : nearN l v = 0 := by unfold nearN; rw [if_neg h]

theorem walk_over {w : World} (A : Option Addr) (c : Nat) (l : List (List Int)) (hl : Vecs .i32 w A c l) (A' : Option Addr) (c' : Nat) (v : List Int) (hv : Vec .i32 w A' c' v) (ho : overM l = true) :
    Calls Try.prog 4 #[.slice A l.length c, .slice A' v.length c'] w fun e w' => e = .returned (.bool true) ∧ Below w.heap.size w w' := by
  have HO := Lib.hid (fun (V : World) (hV : Below w.heap.size w V) => over_any A c l V (hl.below hV))
  rw [ho] at HO
  generalize l.length = n at *
  generalize v.length = m at *
  clear hl hv ho
  go_enter Try.func4, Try.ntmps4
  go_wp2_with fail
  refine (wakes_any w).mono ?_
  rintro e w1 ⟨rfl, hb1⟩
  have HB1 := Lib.hid hb1
  clear hb1
  go_wp2_with fail
  refine (HO.out _ HB1.out).mono ?_
  rintro e w' ⟨rfl, rfl⟩
  go_wp2
  go_ret
  exact ⟨rfl, HB1.out⟩

theorem walk_long {w : World} (A : Option Addr) (c : Nat) (l : List (List Int)) (hl : Vecs .i32 w A c l) (A' : Option Addr) (c' : Nat) (v : List Int) (hv : Vec .i32 w A' c' v) (ho : overM l = false) (h100 : 100 < v.length) :
    Calls Try.prog 4 #[.slice A l.length c, .slice A' v.length c'] w fun e w' => e = .returned (.bool true) ∧ Below w.heap.size w w' := by
  have HO := Lib.hid (fun (V : World) (hV : Below w.heap.size w V) => over_any A c l V (hl.below hV))
  rw [ho] at HO
  generalize l.length = n at *
  generalize v.length = m at *
  have t1 : decide ((100 : Int) < (m : Int)) = true := by simp; omega
  clear hl hv ho
  go_enter Try.func4, Try.ntmps4
  go_wp2_with fail
  refine (wakes_any w).mono ?_
  rintro e w1 ⟨rfl, hb1⟩
  have HB1 := Lib.hid hb1
  clear hb1
  go_wp2_with fail
  refine (HO.out _ HB1.out).mono ?_
  rintro e w' ⟨rfl, rfl⟩
  go_wp2
  go_ret
  exact ⟨rfl, HB1.out⟩

theorem over_len {l : List (List Int)} (h : overM l = false) : l.length ≤ 80 := by
  unfold overM at h
  simp at h
  omega

theorem walk_none {w : World} (A : Option Addr) (c : Nat) (l : List (List Int)) (hl : Vecs .i32 w A c l) (A' : Option Addr) (c' : Nat) (v : List Int) (hv : Vec .i32 w A' c' v) (ho : overM l = false) (h100 : ¬ 100 < v.length) (h0 : l.length = 0) :
    Calls Try.prog 4 #[.slice A l.length c, .slice A' v.length c'] w fun e w' => e = .returned (.bool true) ∧ Below w.heap.size w w' := by
  have HO := Lib.hid (fun (V : World) (hV : Below w.heap.size w V) => over_any A c l V (hl.below hV))
  rw [ho] at HO
  have HNR := Lib.hid (fun (V : World) (hV : Below w.heap.size w V) => nearest_any A A' c c' l v V (hl.below hV) (hv.below hV))
  have HM := Lib.hid (fun (V : World) (hV : Below w.heap.size w V) => mean_any A c l V (hl.below hV) (by have := over_len ho; omega))
  have hE : nearE l v = 4 := by unfold nearE; rw [if_pos h0]
  have hME : meanE l = 4 := by unfold meanE; rw [if_pos h0]
  rw [near_err l v (by omega), hE] at HNR
  rw [h0] at HO HNR HM ⊢
  have HM := Lib.hid (fun (V : World) (hV : Below w.heap.size w V) => (HM.out V hV).mono (R' := fun e w' => e = .returned (.tuple #[.slice none 0 0, .int .i64 4]) ∧ Below V.heap.size V w') (fun e w' h => by
    obtain ⟨g1, _, g3⟩ := h
    rw [hME] at g1
    exact ⟨g1 (by omega), g3⟩))
  generalize v.length = m at *
  have t1 : decide ((100 : Int) < (m : Int)) = false := by simp; omega
  clear hl hv ho hE hME h0
  go_enter Try.func4, Try.ntmps4
  go_wp2_with fail
  refine (wakes_any w).mono ?_
  rintro e w1 ⟨rfl, hb1⟩
  have HB1 := Lib.hid hb1
  clear hb1
  go_wp2_with fail
  refine (HO.out _ HB1.out).mono ?_
  rintro e w' ⟨rfl, rfl⟩
  go_wp2_with fail
  refine (HNR.out _ HB1.out).mono ?_
  rintro e w2 ⟨rfl, hb2⟩
  have HB2 := Lib.hid (HB1.out.trans (hb2.mono HB1.out.size))
  clear hb2
  go_wp2_with fail
  refine (HM.out _ HB2.out).mono ?_
  rintro e w3 ⟨rfl, hb3⟩
  have HB3 := Lib.hid (HB2.out.trans (hb3.mono HB2.out.size))
  clear hb3
  go_wp2
  go_ret
  exact ⟨by simp, HB3.out⟩

theorem own_one {w : World} {base : Nat} (v : Value) (hb : base ≤ w.heap.size) : (w.alloc (.cells #[v] 22)).ownsRow base 22 1 (.slice (some ⟨w.heap.size, 0, none⟩) 1 1) 1 [v] :=
  ⟨rfl, .inr ⟨w.heap.size, 1, #[v], rfl, hb, heap_alloc_new w _, Nat.le_refl _, by simp [maxLen], rfl, rfl⟩⟩
/-- The cells of rows that came in. -/
theorem rows_cells {w : World} {A : Option Addr} {c : Nat} {l : List (List Int)} (h : Vecs .i32 w A c l) (h0 : 0 < l.length) : ∃ (b o : Nat) (vs : List Value), A = some ⟨b, o, none⟩ ∧ b < w.heap.size ∧ vs.length = l.length ∧ (∀ j u, vs[j]? = some u → w.cell? ⟨b, o + j, none⟩ = some u ∧ u.oneCell' = true) ∧
    ∀ (i : Nat) x, l[i]? = some x → ∃ B cb, vs[i]? = some (Value.slice B x.length cb) ∧ Vec .i32 w B cb x := by
  obtain ⟨b, o, e, hb, hc⟩ := h.rd h0
  have hx : ∀ i, i < l.length → ∃ B cb x, l[i]? = some x ∧ w.cell? ⟨b, o + i, none⟩ = some (.slice B x.length cb) ∧ Vec .i32 w B cb x := fun i hi => by
    obtain ⟨B, cb, h1, h2⟩ := hc i _ (List.getElem?_eq_getElem hi)
    exact ⟨B, cb, _, List.getElem?_eq_getElem hi, h1, h2⟩
  refine ⟨b, o, (List.range l.length).map (fun i => (w.cell? ⟨b, o + i, none⟩).getD undef), e, hb, by simp, fun j u hu => ?_, fun i x hi => ?_⟩
  · have hj : j < l.length := by have := (List.getElem?_eq_some_iff.1 hu).1; simpa using this
    obtain ⟨B, cb, x, _, h1, _⟩ := hx j hj
    simp [hj, h1] at hu
    subst hu
    exact ⟨h1, rfl⟩
  · have hil := (List.getElem?_eq_some_iff.1 hi).1
    obtain ⟨B, cb, y, hy, h1, h2⟩ := hx i hil
    rw [hi] at hy
    cases hy
    exact ⟨B, cb, by simp [hil, h1], h2⟩

/-- What comes of the vector ahead of the rows. -/
theorem all_rows {w V W' : World} {A' : Option Addr} {c c' n : Nat} {l : List (List Int)} {v : List Int} {v' : Value} {vs : List Value} (hv : Vec .i32 w A' c' v) (hV : Below w.heap.size w W') (hn : n = l.length) (hlen : vs.length = n)
    (hvs : ∀ (i : Nat) x, l[i]? = some x → ∃ B cb, vs[i]? = some (Value.slice B x.length cb) ∧ Vec .i32 w B cb x) (ho : W'.ownsRow w.heap.size 22 1 v' (1 + n) ([.slice A' v.length c'] ++ vs)) : ∃ X cx, v' = .slice X (1 + n) cx ∧ Vecs .i32 W' X cx (v :: l) := by
  obtain ⟨X, cx, e, h⟩ := vecs_own (l := v :: l) ho (by simp; omega) (fun i x hx => by
    cases i with
    | zero => simp at hx; subst hx; exact ⟨A', c', rfl, hv.below hV⟩
    | succ i =>
      obtain ⟨B, cb, h1, h2⟩ := hvs i x (by simpa using hx)
      exact ⟨B, cb, by simpa using h1, h2.below hV⟩)
  exact ⟨X, cx, by rw [e, List.length_cons]; congr 1; omega, h⟩

theorem no_near {l : List (List Int)} {v : List Int} (h : allM l ≠ 0) (h0 : l.length ≠ 0) : nearE l v ≠ 0 := fun e => by
  obtain ⟨h1, h2, h3⟩ := near_ok e
  apply h
  unfold allM refuseM
  have e1 : l.all right = true := by rw [List.all_eq_true]; exact fun x hx => (h3 x hx).1
  have e2 : l.all (fun x => decide ((x.length : Int) = ((l.getD 0 []).length : Nat))) = true := by
    rw [List.all_eq_true]
    intro x hx
    have hm : l.getD 0 [] ∈ l := by
      have : l.getD 0 [] = l[0]'h1 := by simp [List.getD, List.getElem?_eq_getElem h1]
      rw [this]
      exact List.getElem_mem _
    have := (h3 x hx).2
    have := (h3 _ hm).2
    rw [decide_eq_true_eq]
    omega
  rw [e1, e2]; rfl

set_option maxHeartbeats 2000000 in
theorem walk_bad {w : World} (A : Option Addr) (c : Nat) (l : List (List Int)) (hl : Vecs .i32 w A c l) (A' : Option Addr) (c' : Nat) (v : List Int) (hv : Vec .i32 w A' c' v) (ho : overM l = false) (h100 : ¬ 100 < v.length) (h0 : l.length ≠ 0) (hA : allM l ≠ 0) :
    Calls Try.prog 4 #[.slice A l.length c, .slice A' v.length c'] w fun e w' => e = .returned (.bool true) ∧ Below w.heap.size w w' := by
  obtain ⟨i0, hi, hz0, hz1, hz2⟩ := info_parts infoVec
  have HO := Lib.hid (fun (V : World) (hV : Below w.heap.size w V) => over_any A c l V (hl.below hV))
  rw [ho] at HO
  have HNR := Lib.hid (fun (V : World) (hV : Below w.heap.size w V) => nearest_any A A' c c' l v V (hl.below hV) (hv.below hV))
  have HM := Lib.hid (fun (V : World) (hV : Below w.heap.size w V) => mean_any A c l V (hl.below hV) (by have := over_len ho; omega))
  have HAL := Lib.hid (fun (V : World) (hV : Below w.heap.size w V) => rAll_any A c l V (hl.below hV))
  have HA2 := Lib.hid (fun (V : World) (X : Option Addr) (cx : Nat) (hx : Vecs .i32 V X cx (v :: l)) => rAll_any X cx (v :: l) V hx)
  rw [← all_near l v h0] at HA2
  have hnl : l.length ≤ 80 := over_len ho
  have hmE := meanE_all l h0
  obtain ⟨b, o, vs, rfl, hblt, hvl, hvc, hvx⟩ := rows_cells hl (by omega)
  have HVL := Lib.hid hvl
  have HVC := Lib.hid hvc
  have HALLR := Lib.hid (fun (W' : World) (v' : Value) (hW : Below w.heap.size w W') (ho : W'.ownsRow w.heap.size 22 1 v' (1 + l.length) ([.slice A' v.length c'] ++ vs)) => all_rows (V := w) (c := c) hv hW rfl hvl hvx ho)
  have HLEN := Lib.hid (show (v :: l).length = 1 + l.length by simp; omega)
  rw [HLEN.out] at HA2
  have hE := no_near (v := v) hA h0
  rw [near_err l v hE] at HNR
  have HM := Lib.hid (fun (V : World) (hV : Below w.heap.size w V) => (HM.out V hV).mono (R' := fun e w' => e = .returned (.tuple #[.slice none 0 0, .int .i64 (allM l)]) ∧ Below V.heap.size V w') (fun e w' h => by
    obtain ⟨g1, _, g3⟩ := h
    rw [hmE] at g1
    exact ⟨g1 hA, g3⟩))
  obtain ⟨n, hn⟩ : ∃ n, n = l.length := ⟨_, rfl⟩
  have HN := Lib.hid hn
  obtain ⟨m, hm⟩ : ∃ m, m = v.length := ⟨_, rfl⟩
  rw [← hn] at h0 hnl HO HNR HM HAL HA2 HALLR HVL ⊢
  rw [← hm] at h100 HNR HALLR ⊢
  have t1 : decide ((100 : Int) < (m : Int)) = false := by simp; omega
  have t2 : ((n : Int) == 0) = false := by simp; omega
  have t3 : (n == 0) = false := by simp; omega
  generalize nearE l v = E at *
  generalize allM l = F at *
  have t4 : (E == 0) = false := by simpa using hE
  have t5 : (E != 0) = true := by simpa using hE
  have t6 : (F == 0) = false := by simpa using hA
  have t7 : (F != 0) = true := by simpa using hA
  clear hl hv ho hmE hvl hvc hvx hn hm hE hA
  go_enter Try.func4, Try.ntmps4
  go_wp2_with fail
  refine (wakes_any w).mono ?_
  rintro e w1 ⟨rfl, hb1⟩
  have HB1 := Lib.hid hb1
  clear hb1
  go_wp2_with fail
  refine (HO.out _ HB1.out).mono ?_
  rintro e w' ⟨rfl, rfl⟩
  go_wp2_with fail
  refine (HNR.out _ HB1.out).mono ?_
  rintro e w2 ⟨rfl, hb2⟩
  have HB2 := Lib.hid (HB1.out.trans (hb2.mono HB1.out.size))
  clear hb2
  go_wp2_with fail
  refine (HM.out _ HB2.out).mono ?_
  rintro e w3 ⟨rfl, hb3⟩
  have HB3 := Lib.hid (HB2.out.trans (hb3.mono HB2.out.size))
  clear hb3
  go_wp2_with fail
  refine (HAL.out _ HB3.out).mono ?_
  rintro e w4 ⟨rfl, hb4⟩
  have HB4 := Lib.hid (HB3.out.trans (hb4.mono HB3.out.size))
  clear hb4
  have HKP := Lib.hid (show Below w.heap.size w (w4.alloc (.cells #[.slice A' m c'] 22)) from HB4.out.alloc HB4.out.size _)
  have HLEB := Lib.hid HB4.out.size
  go_wp2_with (at_builtin; refine wpList_append_own _ rfl (.tmp 72) (.tmp 73) 34 rfl w.heap.size 22 i0 (.slice none 0 0) 1 24 Try.underlying34 hi hz0 hz1 hz2 rfl (by decide) _ 1 [.slice A' m c'] rfl (own_one _ HLEB.out) ⟨b, o, none⟩ n c vs rfl (by rw [HVL.out]; omega) (fun j u hu => by rw [Addr.add_lit]; exact (HKP.out.cell (p := ⟨b, o + j, none⟩) hblt).trans (HVC.out j u hu).1) (fun u hu => by obtain ⟨j, hj⟩ := List.getElem?_of_mem hu; exact (HVC.out j u hj).2) (by unfold maxLen; omega) (by omega) (by have := HKP.out.size; exact this) ?_; intro v' w5 hown' hgrow _; have hb5 := HKP.out.grown hgrow HKP.out.size (fun q hq => ((own_one (base := w.heap.size) (.slice A' m c') HLEB.out).lt q hq).1); obtain ⟨X, cx, hve, hvecs⟩ := HALLR.out w5 v' hb5 hown'; subst hve; have HB5 := Lib.hid hb5; have HA3 := Lib.hid (HA2.out w5 X cx hvecs); clear hown' hgrow hb5 hvecs)
  refine HA3.out.mono ?_
  rintro e w6 ⟨rfl, hb6⟩
  have HB6 := Lib.hid (HB5.out.trans (hb6.mono HB5.out.size))
  clear hb6
  go_wp2
  go_ret
  exact ⟨by simp, HB6.out⟩

set_option maxHeartbeats 2000000 in
theorem walk_far {w : World} (A : Option Addr) (c : Nat) (l : List (List Int)) (hl : Vecs .i32 w A c l) (A' : Option Addr) (c' : Nat) (v : List Int) (hv : Vec .i32 w A' c' v) (ho : overM l = false) (h100 : ¬ 100 < v.length) (h0 : l.length ≠ 0) (hA : allM l = 0) (hE : nearE l v ≠ 0) :
    Calls Try.prog 4 #[.slice A l.length c, .slice A' v.length c'] w fun e w' => e = .returned (.bool true) ∧ Below w.heap.size w w' := by
  obtain ⟨i0, hi, hz0, hz1, hz2⟩ := info_parts infoVec
  have HO := Lib.hid (fun (V : World) (hV : Below w.heap.size w V) => over_any A c l V (hl.below hV))
  rw [ho] at HO
  have HNR := Lib.hid (fun (V : World) (hV : Below w.heap.size w V) => nearest_any A A' c c' l v V (hl.below hV) (hv.below hV))
  have HM := Lib.hid (fun (V : World) (hV : Below w.heap.size w V) => mean_any A c l V (hl.below hV) (by have := over_len ho; omega))
  have HAL := Lib.hid (fun (V : World) (hV : Below w.heap.size w V) => rAll_any A c l V (hl.below hV))
  have HA2 := Lib.hid (fun (V : World) (X : Option Addr) (cx : Nat) (hx : Vecs .i32 V X cx (v :: l)) => rAll_any X cx (v :: l) V hx)
  rw [← all_near l v h0] at HA2
  have hnl : l.length ≤ 80 := over_len ho
  have hmE := meanE_all l h0
  have HRM := Lib.hid (fun (V : World) (hV : Below w.heap.size w V) => rMean_any A c l V (hl.below hV) (by omega) h0 hA)
  have HSM := Lib.hid (fun (V : World) (Am : Option Addr) (cm : Nat) (h1 : Vec .i32 V Am cm (meanM l)) (Ar : Option Addr) (cr : Nat) (h2 : Vec .i32 V Ar cr (meanM l)) => show Calls Try.prog 14 #[.slice Am (meanM l).length cm, .slice Ar (meanM l).length cr] V (fun e w' => e = .returned (.bool true) ∧ Below V.heap.size V w') from by
    have h := rSame_any Am Ar cm cr (meanM l) (meanM l) V h1 h2
    rw [decide_eq_true rfl] at h
    exact h)
  have HM := Lib.hid (fun (V : World) (hV : Below w.heap.size w V) => (HM.out V hV).mono (R' := fun e w' => (∃ A c, e = .returned (.tuple #[.slice A (meanM l).length c, .int .i64 0]) ∧ NewVec V A c (meanM l) w') ∧ Below V.heap.size V w') (fun e w' h => by
    obtain ⟨_, g2, g3⟩ := h
    rw [hmE] at g2
    exact ⟨g2 hA, g3⟩))
  rw [hA] at HAL
  obtain ⟨b, o, vs, rfl, hblt, hvl, hvc, hvx⟩ := rows_cells hl (by omega)
  have HVL := Lib.hid hvl
  have HVC := Lib.hid hvc
  have HALLR := Lib.hid (fun (W' : World) (v' : Value) (hW : Below w.heap.size w W') (ho : W'.ownsRow w.heap.size 22 1 v' (1 + l.length) ([.slice A' v.length c'] ++ vs)) => all_rows (V := w) (c := c) hv hW rfl hvl hvx ho)
  have HLEN := Lib.hid (show (v :: l).length = 1 + l.length by simp; omega)
  rw [HLEN.out] at HA2
  rw [near_err l v hE] at HNR
  obtain ⟨n, hn⟩ : ∃ n, n = l.length := ⟨_, rfl⟩
  have HN := Lib.hid hn
  obtain ⟨m, hm⟩ : ∃ m, m = v.length := ⟨_, rfl⟩
  rw [← hn] at h0 hnl HO HNR HM HAL HA2 HALLR HVL HRM ⊢
  rw [← hm] at h100 HNR HALLR ⊢
  have t1 : decide ((100 : Int) < (m : Int)) = false := by simp; omega
  have t2 : ((n : Int) == 0) = false := by simp; omega
  have t3 : (n == 0) = false := by simp; omega
  generalize nearE l v = E at *
  have t4 : (E == 0) = false := by simpa using hE
  have t5 : (E != 0) = true := by simpa using hE
  generalize meanM l = MM at *
  generalize MM.length = ml at *
  clear hl hv ho hmE hvl hvc hvx hn hm hE hA
  go_enter Try.func4, Try.ntmps4
  go_wp2_with fail
  refine (wakes_any w).mono ?_
  rintro e w1 ⟨rfl, hb1⟩
  have HB1 := Lib.hid hb1
  clear hb1
  go_wp2_with fail
  refine (HO.out _ HB1.out).mono ?_
  rintro e w' ⟨rfl, rfl⟩
  go_wp2_with fail
  refine (HNR.out _ HB1.out).mono ?_
  rintro e w2 ⟨rfl, hb2⟩
  have HB2 := Lib.hid (HB1.out.trans (hb2.mono HB1.out.size))
  clear hb2
  go_wp2_with fail
  refine (HM.out _ HB2.out).mono ?_
  rintro e w3 ⟨⟨Am, cm, rfl, hnv⟩, hb3⟩
  have HNV := Lib.hid hnv.1
  clear hnv
  have HB3 := Lib.hid (HB2.out.trans (hb3.mono HB2.out.size))
  clear hb3
  go_wp2_with fail
  refine (HAL.out _ HB3.out).mono ?_
  rintro e w4 ⟨rfl, hb4⟩
  have HB4 := Lib.hid (HB3.out.trans (hb4.mono HB3.out.size))
  have HB34 := Lib.hid hb4
  clear hb4
  go_wp2_with fail
  refine (HRM.out _ HB4.out).mono ?_
  rintro e w4b ⟨⟨Ar, cr, rfl, hrv⟩, hb4b⟩
  have HB4b := Lib.hid (HB4.out.trans (hb4b.mono HB4.out.size))
  have HSS := Lib.hid (HSM.out w4b Am cm ((HNV.out.below HB34.out).below hb4b) Ar cr hrv)
  clear hb4b hrv
  go_wp2_with fail
  refine HSS.out.mono ?_
  rintro e w4c ⟨rfl, hb4c⟩
  have HB4c := Lib.hid (HB4b.out.trans (hb4c.mono HB4b.out.size))
  clear hb4c
  have HKP := Lib.hid (show Below w.heap.size w (w4c.alloc (.cells #[.slice A' m c'] 22)) from HB4c.out.alloc HB4c.out.size _)
  have HLEB := Lib.hid HB4c.out.size
  go_wp2_with (at_builtin; refine wpList_append_own _ rfl (.tmp 72) (.tmp 73) 34 rfl w.heap.size 22 i0 (.slice none 0 0) 1 24 Try.underlying34 hi hz0 hz1 hz2 rfl (by decide) _ 1 [.slice A' m c'] rfl (own_one _ HLEB.out) ⟨b, o, none⟩ n c vs rfl (by rw [HVL.out]; omega) (fun j u hu => by rw [Addr.add_lit]; exact (HKP.out.cell (p := ⟨b, o + j, none⟩) hblt).trans (HVC.out j u hu).1) (fun u hu => by obtain ⟨j, hj⟩ := List.getElem?_of_mem hu; exact (HVC.out j u hj).2) (by unfold maxLen; omega) (by omega) (by have := HKP.out.size; exact this) ?_; intro v' w5 hown' hgrow _; have hb5 := HKP.out.grown hgrow HKP.out.size (fun q hq => ((own_one (base := w.heap.size) (.slice A' m c') HLEB.out).lt q hq).1); obtain ⟨X, cx, hve, hvecs⟩ := HALLR.out w5 v' hb5 hown'; subst hve; have HB5 := Lib.hid hb5; have HA3 := Lib.hid (HA2.out w5 X cx hvecs); clear hown' hgrow hb5 hvecs)
  refine HA3.out.mono ?_
  rintro e w6 ⟨rfl, hb6⟩
  have HB6 := Lib.hid (HB5.out.trans (hb6.mono HB5.out.size))
  clear hb6
  go_wp2
  go_ret
  exact ⟨by simp, HB6.out⟩

set_option maxHeartbeats 2000000 in
theorem walk_near {w : World} (A : Option Addr) (c : Nat) (l : List (List Int)) (hl : Vecs .i32 w A c l) (A' : Option Addr) (c' : Nat) (v : List Int) (hv : Vec .i32 w A' c' v) (ho : overM l = false) (h100 : ¬ 100 < v.length) (h0 : l.length ≠ 0) (hA : allM l = 0) (hE : nearE l v = 0) :
    Calls Try.prog 4 #[.slice A l.length c, .slice A' v.length c'] w fun e w' => e = .returned (.bool true) ∧ Below w.heap.size w w' := by
  obtain ⟨i0, hi, hz0, hz1, hz2⟩ := info_parts infoVec
  have HO := Lib.hid (fun (V : World) (hV : Below w.heap.size w V) => over_any A c l V (hl.below hV))
  rw [ho] at HO
  have HNR := Lib.hid (fun (V : World) (hV : Below w.heap.size w V) => nearest_any A A' c c' l v V (hl.below hV) (hv.below hV))
  have HM := Lib.hid (fun (V : World) (hV : Below w.heap.size w V) => mean_any A c l V (hl.below hV) (by have := over_len ho; omega))
  have HAL := Lib.hid (fun (V : World) (hV : Below w.heap.size w V) => rAll_any A c l V (hl.below hV))
  have HA2 := Lib.hid (fun (V : World) (X : Option Addr) (cx : Nat) (hx : Vecs .i32 V X cx (v :: l)) => rAll_any X cx (v :: l) V hx)
  rw [← all_near l v h0] at HA2
  have hnl : l.length ≤ 80 := over_len ho
  have hmE := meanE_all l h0
  have HRM := Lib.hid (fun (V : World) (hV : Below w.heap.size w V) => rMean_any A c l V (hl.below hV) (by omega) h0 hA)
  have HSM := Lib.hid (fun (V : World) (Am : Option Addr) (cm : Nat) (h1 : Vec .i32 V Am cm (meanM l)) (Ar : Option Addr) (cr : Nat) (h2 : Vec .i32 V Ar cr (meanM l)) => show Calls Try.prog 14 #[.slice Am (meanM l).length cm, .slice Ar (meanM l).length cr] V (fun e w' => e = .returned (.bool true) ∧ Below V.heap.size V w') from by
    have h := rSame_any Am Ar cm cr (meanM l) (meanM l) V h1 h2
    rw [decide_eq_true rfl] at h
    exact h)
  have HM := Lib.hid (fun (V : World) (hV : Below w.heap.size w V) => (HM.out V hV).mono (R' := fun e w' => (∃ A c, e = .returned (.tuple #[.slice A (meanM l).length c, .int .i64 0]) ∧ NewVec V A c (meanM l) w') ∧ Below V.heap.size V w') (fun e w' h => by
    obtain ⟨_, g2, g3⟩ := h
    rw [hmE] at g2
    exact ⟨g2 hA, g3⟩))
  rw [hA] at HAL
  obtain ⟨b, o, vs, rfl, hblt, hvl, hvc, hvx⟩ := rows_cells hl (by omega)
  have HVL := Lib.hid hvl
  have HVC := Lib.hid hvc
  have HALLR := Lib.hid (fun (W' : World) (v' : Value) (hW : Below w.heap.size w W') (ho : W'.ownsRow w.heap.size 22 1 v' (1 + l.length) ([.slice A' v.length c'] ++ vs)) => all_rows (V := w) (c := c) hv hW rfl hvl hvx ho)
  have HLEN := Lib.hid (show (v :: l).length = 1 + l.length by simp; omega)
  rw [HLEN.out] at HA2
  have hok := near_ok hE
  have hN : nearN l v = nearM l v := by unfold nearN; rw [if_pos hE]
  have HRN := Lib.hid (fun (V : World) (hV : Below w.heap.size w V) => rNearest_any (some ⟨b, o, none⟩) A' c c' l v V (hl.below hV) (hv.below hV) hok.1 hok.2.1 hok.2.2)
  rw [hN, hE] at HNR
  rw [hE] at HA2
  obtain ⟨n, hn⟩ : ∃ n, n = l.length := ⟨_, rfl⟩
  have HN := Lib.hid hn
  obtain ⟨m, hm⟩ : ∃ m, m = v.length := ⟨_, rfl⟩
  rw [← hn] at h0 hnl HO HNR HM HAL HA2 HALLR HVL HRM HRN ⊢
  rw [← hm] at h100 HNR HALLR HRN ⊢
  have t1 : decide ((100 : Int) < (m : Int)) = false := by simp; omega
  have t2 : ((n : Int) == 0) = false := by simp; omega
  have t3 : (n == 0) = false := by simp; omega
  generalize nearM l v = R at *
  generalize meanM l = MM at *
  generalize MM.length = ml at *
  clear hl hv ho hmE hvl hvc hvx hn hm hE hA hN hok
  go_enter Try.func4, Try.ntmps4
  go_wp2_with fail
  refine (wakes_any w).mono ?_
  rintro e w1 ⟨rfl, hb1⟩
  have HB1 := Lib.hid hb1
  clear hb1
  go_wp2_with fail
  refine (HO.out _ HB1.out).mono ?_
  rintro e w' ⟨rfl, rfl⟩
  go_wp2_with fail
  refine (HNR.out _ HB1.out).mono ?_
  rintro e w2 ⟨rfl, hb2⟩
  have HB2 := Lib.hid (HB1.out.trans (hb2.mono HB1.out.size))
  clear hb2
  go_wp2_with fail
  refine (HM.out _ HB2.out).mono ?_
  rintro e w3 ⟨⟨Am, cm, rfl, hnv⟩, hb3⟩
  have HNV := Lib.hid hnv.1
  clear hnv
  have HB3 := Lib.hid (HB2.out.trans (hb3.mono HB2.out.size))
  clear hb3
  go_wp2_with fail
  refine (HAL.out _ HB3.out).mono ?_
  rintro e w4 ⟨rfl, hb4⟩
  have HB4 := Lib.hid (HB3.out.trans (hb4.mono HB3.out.size))
  have HB34 := Lib.hid hb4
  clear hb4
  go_wp2_with fail
  refine (HRM.out _ HB4.out).mono ?_
  rintro e w4b ⟨⟨Ar, cr, rfl, hrv⟩, hb4b⟩
  have HB4b := Lib.hid (HB4.out.trans (hb4b.mono HB4.out.size))
  have HSS := Lib.hid (HSM.out w4b Am cm ((HNV.out.below HB34.out).below hb4b) Ar cr hrv)
  clear hb4b hrv
  go_wp2_with fail
  refine HSS.out.mono ?_
  rintro e w4c ⟨rfl, hb4c⟩
  have HB4c := Lib.hid (HB4b.out.trans (hb4c.mono HB4b.out.size))
  clear hb4c
  have HKP := Lib.hid (show Below w.heap.size w (w4c.alloc (.cells #[.slice A' m c'] 22)) from HB4c.out.alloc HB4c.out.size _)
  have HLEB := Lib.hid HB4c.out.size
  go_wp2_with (at_builtin; refine wpList_append_own _ rfl (.tmp 72) (.tmp 73) 34 rfl w.heap.size 22 i0 (.slice none 0 0) 1 24 Try.underlying34 hi hz0 hz1 hz2 rfl (by decide) _ 1 [.slice A' m c'] rfl (own_one _ HLEB.out) ⟨b, o, none⟩ n c vs rfl (by rw [HVL.out]; omega) (fun j u hu => by rw [Addr.add_lit]; exact (HKP.out.cell (p := ⟨b, o + j, none⟩) hblt).trans (HVC.out j u hu).1) (fun u hu => by obtain ⟨j, hj⟩ := List.getElem?_of_mem hu; exact (HVC.out j u hj).2) (by unfold maxLen; omega) (by omega) (by have := HKP.out.size; exact this) ?_; intro v' w5 hown' hgrow _; have hb5 := HKP.out.grown hgrow HKP.out.size (fun q hq => ((own_one (base := w.heap.size) (.slice A' m c') HLEB.out).lt q hq).1); obtain ⟨X, cx, hve, hvecs⟩ := HALLR.out w5 v' hb5 hown'; subst hve; have HB5 := Lib.hid hb5; have HA3 := Lib.hid (HA2.out w5 X cx hvecs); clear hown' hgrow hb5 hvecs)
  refine HA3.out.mono ?_
  rintro e w6 ⟨rfl, hb6⟩
  have HB6 := Lib.hid (HB5.out.trans (hb6.mono HB5.out.size))
  clear hb6
  go_wp2_with fail
  refine (HRN.out _ HB6.out).mono ?_
  rintro e w7 ⟨rfl, hb7⟩
  have HB7 := Lib.hid (HB6.out.trans (hb7.mono HB6.out.size))
  clear hb7
  go_wp2
  go_ret
  exact ⟨by simp, HB7.out⟩

theorem walk {w : World} (A : Option Addr) (c : Nat) (l : List (List Int)) (hl : Vecs .i32 w A c l) (A' : Option Addr) (c' : Nat) (v : List Int) (hv : Vec .i32 w A' c' v) :
    Calls Try.prog 4 #[.slice A l.length c, .slice A' v.length c'] w fun e w' => e = .returned (.bool true) ∧ Below w.heap.size w w' := by
  cases ho : overM l with
  | true => exact walk_over A c l hl A' c' v hv ho
  | false =>
    by_cases h100 : 100 < v.length
    · exact walk_long A c l hl A' c' v hv ho h100
    · by_cases h0 : l.length = 0
      · exact walk_none A c l hl A' c' v hv ho h100 h0
      · by_cases hA : allM l = 0
        · by_cases hE : nearE l v = 0
          · exact walk_near A c l hl A' c' v hv ho h100 h0 hA hE
          · exact walk_far A c l hl A' c' v hv ho h100 h0 hA hE
        · exact walk_bad A c l hl A' c' v hv ho h100 h0 hA

set_option maxRecDepth 100000 in
theorem lifted (os : Os) (started : os.Started) (H : Type) (enc : TypeId × Value → H) :
    ReturnsInHanded {} Try.checked os 4 .any (Rows.vecNearsSpec.pre6 enc Try.prog Try.f4 Rows.vecNearsRow.domain false) (Rows.vecNearsSpec.post enc Try.prog Try.f4 false true false false) := by
  refine returnsInHanded_of_change (C := Try.checked) Try.own started (by kernel_rfl) Try.func4
    (ChangeSpec.witness6 (enc := enc) (C := Try.checked) false ⟨#[], #[.slice none 0 0, .slice none 0 0], []⟩ 8 (by kernel_rfl) (by kernel_rfl) (by kernel_rfl) (by kernel_rfl)) ?_
  intro W base args ds gs before hval0 hW hcnd _
  have hval : ∀ (j : Nat) t v, Try.f4.params[j]? = some t → args[j]? = some v → Value.okWide Try.prog W .any base t v := hval0
  have hW' := hW
  obtain ⟨p, q, hA0, hV, rfl, hfz, hnd⟩ := hW
  have hA : DataW.TrodAll enc Try.prog W 0 (fun _ => true) true Try.f4.params.toList args.toList ds p := hA0
  rw [Try.params4] at hA hval
  have hA' := hA
  obtain ⟨v0, vs0, d0, ds0, p0, q0, hargs, rfl, rfl, h0, r0⟩ := trodAll_cons hA
  obtain ⟨v1, vs1, d1, ds1, p1, q1, rfl, rfl, rfl, h1, r1⟩ := trodAll_cons r0
  obtain ⟨rfl, rfl, rfl⟩ := trodAll_nil r1
  obtain rfl : args = #[v0, v1] := by cases args; simp_all
  obtain ⟨rfl, rfl⟩ := trodVars_none hV
  obtain ⟨A0, len0, c0, rfl⟩ := okWide_slice Try.underlying34 (hval 0 34 v0 rfl rfl)
  obtain ⟨z0, rfl, sl0⟩ := open_vecs h0
  obtain ⟨A1, len1, c1, rfl⟩ := okWide_slice Try.underlying22 (hval 1 22 v1 rfl rfl)
  obtain ⟨z1, rfl, sl1⟩ := open_vec h1
  clear hA0 hval0
  refine (walk A0 c0 z0 sl0 A1 c1 z1 sl1).mono fun e W' ⟨he, bel⟩ => ?_
  subst he
  exact ⟨_, rfl, _, _, _, [], _, [], hW', trodAll_mk1 (shut_bool Try.underlying4 _), trodAll_below bel _ _ _ _ (by kernel_rfl) hA', rfl, bel.frame _, fun h => by cases h⟩

theorem proved : Rows.VecNearsSaid :=
  OpenClaim.holds_of_wide 4 Try.f4 rfl rfl rfl rfl rfl rfl rfl ⟨rfl, rfl, rfl, rfl, rfl⟩ rfl rfl rfl rfl rfl (by kernel_rfl) Try.func4 (by kernel_rfl)
    (of_decide_eq_true (by kernel_rfl)) (by unfold Func.isWrapper; first | (rw [if_pos (by decide +kernel)]; kernel_rfl) | (rw [if_neg (by decide +kernel)]; exact ⟨rfl, rfl⟩))
    (fun os started H enc _ => lifted os started H enc)
#print axioms proved
end Go.Proofs.Ytdfpiipnpaknaaa.vecNears
