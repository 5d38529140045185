/-
  Proved: the law TopkMerges, the first ones of rows, returns true for every number and rows of hits, and leaves all memory as it was. No condition.
-/
import Derived.Test.YthobkakmjgmpcaaTopRows
import Derived.Test.YthobkakmjgmpcaaLawFrame
namespace Go.Proofs.Ythobkakmjgmpcaa.topkMerges
open Go.ChangeShapes Go.WideShapes Go.ChangeAt Go.RowKit
set_option linter.unusedVariables false
set_option linter.unusedSimpArgs false
set_option maxRecDepth 100000

/-- The rows that are handed in: so many, 60 of each at most. -/
def rowsM (ls : List (List HitM)) (k : Nat) : List (List HitM) := (ls.take k).map (·.take 60)
theorem rowsM_length (ls : List (List HitM)) (k : Nat) (h : k ≤ ls.length) : (rowsM ls k).length = k := by simp [rowsM]; omega
theorem rowsM_snoc {ls : List (List HitM)} {k : Nat} {x : List HitM} (h : ls[k]? = some x) : rowsM ls (k + 1) = rowsM ls k ++ [x.take 60] := by
  unfold rowsM
  rw [List.take_add_one, h]
  simp
theorem sum_le60 (ls : List (List HitM)) (h : ∀ x ∈ ls, x.length ≤ 60) : sumL ls ≤ 60 * ls.length := by
  unfold sumL
  induction ls with
  | nil => simp
  | cons x ls ih =>
    have h1 := h x (by simp)
    have h2 := ih (fun y hy => h y (by simp [hy]))
    simp only [List.flatten_cons, List.length_append, List.length_cons]
    omega
theorem rowsM_sum (ls : List (List HitM)) (k : Nat) : sumL (rowsM ls k) ≤ 60 * k := by
  refine Nat.le_trans (sum_le60 _ (fun x hx => ?_)) (Nat.mul_le_mul_left _ (by simp [rowsM]; omega))
  obtain ⟨y, _, rfl⟩ := List.mem_map.1 hx
  simp; omega

set_option maxHeartbeats 4000000 in
theorem walk {w : World} (k : Int) (wk : (Lit.int .i64 k).wf = true) (A : Option Addr) (c : Nat) (ls : List (List HitM)) (hl : Rows w A c ls) :
    Calls Try.prog 4 #[.int .i64 k, .slice A ls.length c] w fun e w' => e = .returned (.bool true) ∧ Below w.heap.size w w' := by
  have HV := Lib.hid hl
  obtain ⟨n, hn⟩ : ∃ n, n = ls.length := ⟨_, rfl⟩
  have hrn : n ≤ 9223372036854775807 := by rw [hn]; exact Nat.le_trans hl.room hl.most
  have HN := Lib.hid hn
  have HRL := Lib.hid (fun (k : Nat) (h : k ≤ n) => rowsM_length ls k (by rw [← hn]; exact h))
  have HSL := Lib.hid (rowsM_sum ls)
  rw [← hn]
  clear hl hn
  go_enter Try.func4, Try.ntmps4
  go_wp2_with fail
  refine (wakes_any w).mono ?_
  rintro e w1 ⟨rfl, hb1⟩
  have HB1 := Lib.hid hb1
  clear hb1
  go_wp2
  go_loopw [5, 6, 7, 8, 15] (fun r a _ _ i wr => ∃ (j : Nat) (A1 A2 : Option Addr) (c1 c2 : Nat) (vs : List Value), j ≤ n ∧ j ≤ 6 ∧ i = .int .i64 j ∧ r = .slice A1 j c1 ∧ a = .slice A2 (sumL (rowsM ls j)) c2 ∧ Hid (Two w.heap.size wr (rowsM ls j) A1 c1 vs A2 c2 ∧ Below w.heap.size w wr)) (fun _ _ _ _ i _ => n - (intOf i).toNat)
  case atStart => exact ⟨0, none, none, 0, 0, [], Nat.zero_le _, Nat.zero_le _, rfl, rfl, rfl, Lib.hid ⟨Two.start _ _, HB1.out⟩⟩
  case round =>
    obtain ⟨j, A1, A2, c1, c2, vs, hj, hj6, rfl, rfl, rfl, HT9⟩ := hrel
    by_cases hjn : j < n
    · obtain ⟨b, o, x, B, cb, rfl, hx, hb, hcell, hrow⟩ := HV.out.at_ (i := j) (by rw [← HN.out]; exact hjn)
      have e1 := (HT9.out.2.cell (p := ⟨b, o + j, none⟩) hb).trans hcell
      have j0 : (0 : Int) ≤ j := by omega
      have jn : (j : Int) < n := by omega
      by_cases h6 : j = 6
      · subst h6
        skip
        have HRW := Lib.hid HT9.out.1.rows_in
        have HSM := Lib.hid (HSL.out 6)
        have HLN := Lib.hid (HRL.out 6 (by omega))
        have HAL := Lib.hid (Hits.ofRow (l := (rowsM ls 6).flatten) (w := wr) HT9.out.1.all)
        have HB9 := Lib.hid HT9.out.2
        have HME := Lib.hid (merge_any k A1 c1 (rowsM ls 6) wr HRW.out (by have := HSM.out; omega))
        rw [HLN.out] at HME
        cases hx : isKM k with
        | false =>
          obtain ⟨h1, h2⟩ := merge_bad (ls := rowsM ls 6) hx
          rw [h1, h2] at HME
          have hx2 : ¬ (1 ≤ k ∧ k ≤ 16) := fun e => by rw [(isK_iff k).2 e] at hx; cases hx
          clear hx h1 h2
          generalize rowsM ls 6 = rws at *
          by_cases h1 : 1 ≤ k
          · have h2 : ¬ k ≤ 16 := fun e => hx2 ⟨h1, e⟩
            have t1 : decide (k < 1) = false := by simp; omega
            have t2 : decide (16 < k) = true := by simp; omega
            clear hx2
            go_wp2_with fail
            refine HME.out.mono ?_
            rintro e w3 ⟨B3, c3, rfl, hr3, hb3⟩
            have HB3 := Lib.hid (HB9.out.trans (hb3.mono HB9.out.size))
            clear hr3 hb3
            go_wp2
            go_ret
            exact ⟨rfl, HB3.out⟩
          · have t1 : decide (k < 1) = true := by simp; omega
            clear hx2
            go_wp2_with fail
            refine HME.out.mono ?_
            rintro e w3 ⟨B3, c3, rfl, hr3, hb3⟩
            have HB3 := Lib.hid (HB9.out.trans (hb3.mono HB9.out.size))
            clear hr3 hb3
            go_wp2
            go_ret
            exact ⟨rfl, HB3.out⟩
        | true =>
          obtain ⟨h1, h2⟩ := (isK_iff k).1 hx
          obtain ⟨kk, hkk⟩ : ∃ kk : Nat, k = kk := ⟨k.toNat, by omega⟩
          have t1 : decide (k < 1) = false := by simp; omega
          have t2 : decide (16 < k) = false := by simp; omega
          obtain ⟨e1, e2⟩ := merge_ok (ls := rowsM ls 6) hx (by have := HSM.out; omega)
          rw [e1, e2, hkk, Int.toNat_natCast] at HME
          have HRF := Lib.hid (fun (V : World) (hV : Below wr.heap.size wr V) => rFirst_any A2 c2 kk (rowsM ls 6).flatten V (HAL.out.below hV) (by have := HSM.out; unfold sumL at this; omega) (by omega))
          rw [← hkk] at HME HRF
          rw [show (rowsM ls 6).flatten.length = sumL (rowsM ls 6) from rfl] at HRF
          generalize firstM kk (rowsM ls 6).flatten = Y at *
          clear hx e1 e2 h1 h2 hkk
          generalize sumL (rowsM ls 6) = sm at *
          go_wp2_with fail
          refine HME.out.mono ?_
          rintro e w3 ⟨B3, c3, rfl, hr3, hb3⟩
          have HB3 := Lib.hid hb3
          have HY3 := Lib.hid (Hits.ofRow hr3)
          clear hr3 hb3
          go_wp2_with fail
          refine (HRF.out w3 HB3.out).mono ?_
          rintro e w5 ⟨v, rfl, C5, d5, rfl, hr5, hb5⟩
          have HB5 := Lib.hid (HB3.out.trans (hb5.mono HB3.out.size))
          have HS5 := Lib.hid (rSame_yes B3 C5 c3 d5 Y w5 (HY3.out.below hb5) (Hits.ofRow hr5))
          clear hr5 hb5
          go_wp2_with fail
          refine HS5.out.mono ?_
          rintro e w6 ⟨rfl, hb6⟩
          have HB6 := Lib.hid (HB9.out.trans ((HB5.out.trans (hb6.mono HB5.out.size)).mono HB9.out.size))
          clear hb6
          go_wp2
          go_ret
          exact ⟨rfl, HB6.out⟩
      · have t8 : ((j : Int) == 6) = false := by simp; omega
        have t81 : (j == 6) = false := by simp; omega
        have hj5 : j < 6 := by omega
        have HO := Lib.hid (fun (V : World) (hV : Below w.heap.size w V) => own_lit B cb 60 60 rfl x V (hrow.below hV) (by omega))
        have HSN := Lib.hid (rowsM_snoc hx)
        have HLN := Lib.hid (HRL.out j (by omega))
        have HSM := Lib.hid (HSL.out j)
        have HX60 := Lib.hid (show (x.take 60).length ≤ 60 by simp; omega)
        generalize x.take 60 = X at *
        generalize x.length = xl at *
        clear hx hcell hrow h6
        go_wp2_with fail
        refine (HO.out wr HT9.out.2).mono ?_
        rintro e w2 ⟨v, rfl, C2, d2, rfl, o2, b2⟩
        have HO2 := Lib.hid (And.intro o2 b2)
        have HR2 := Lib.hid (show (w2.alloc (.cells #[.slice C2 X.length d2] 22)).ownsRow w.heap.size 22 1 (.slice A1 j c1) j vs by
          have := (HT9.out.1.below b2).rows
          rw [HLN.out] at this
          exact this.alloc _)
        have hz2 : w.heap.size ≤ (w2.alloc (.cells #[.slice C2 X.length d2] 22)).heap.size := by
          rw [World.size_alloc]; have := HT9.out.2.size; have := b2.size; omega
        clear o2 b2 e1
        go_wp2_with (refine rapp_at rfl _ _ rfl w.heap.size A1 c1 j vs rfl HR2.out w2.heap.size (.slice C2 X.length d2) rfl (cell_laid _ _ _ 0) rfl (by omega) hz2 ?_; intro A1' c1' W3 o3 g3 l3; have H3 := Lib.hid (And.intro o3 (And.intro g3 l3)); clear o3 g3 l3)
        refine (HO.out W3 (HT9.out.2.trans ((HO2.out.2.mono HT9.out.2.size).trans (two_low3 HT9.out.1 HO2.out.2 H3.out.2.1 HT9.out.2.size)))).mono ?_
        rintro e w4 ⟨v, rfl, C4, d4, rfl, o4, b4⟩
        have HA4 := Lib.hid (two_all4 HT9.out.1 HO2.out.2 H3.out.2.1 b4)
        have HX4 := Lib.hid (Hits.ofRow o4)
        have HB4 := Lib.hid b4
        have hz4 : w.heap.size ≤ w4.heap.size := by
          have h1 := HT9.out.2.size
          have h2 := HO2.out.2.size
          have h3 := H3.out.2.1.size
          have h4 := b4.size
          rw [World.size_alloc] at h3
          omega
        have hsm := HSM.out
        have hx60 := HX60.out
        clear o4 b4 hz2
        go_wp2_with (refine happ_at rfl _ _ 22 Try.underlying22 rfl w.heap.size A2 c2 (sumL (rowsM ls j)) (flat (rowsM ls j).flatten) rfl HA4.out C4 d4 X.length X rfl rfl HX4.out (by omega) hz4 ?_; intro A2' c2' W5 o5 g5 l5 hnil; have H5 := Lib.hid (And.intro o5 (And.intro g5 l5)); clear o5 g5 l5 hnil)
        have HF := Lib.hid (show Two w.heap.size W5 (rowsM ls (j + 1)) A1' c1' (vs ++ [.slice C2 X.length d2]) A2' c2' ∧ Below w.heap.size w W5 ∧ sumL (rowsM ls (j + 1)) = sumL (rowsM ls j) + X.length from by
          rw [HSN.out]
          refine ⟨two_step HT9.out.1 HO2.out.1 HO2.out.2 (by rw [HLN.out]; exact H3.out.1) H3.out.2.1 H3.out.2.2 HB4.out H5.out.1 H5.out.2.1 H5.out.2.2, HT9.out.2.trans (two_bel HT9.out.1 HT9.out.2.size HO2.out.2 H3.out.2.1 HB4.out H5.out.2.1), by simp [sumL]⟩)
        go_roundw
        case rel => exact ⟨j + 1, A1', A2', c1', c2', vs ++ [.slice C2 X.length d2], by omega, by omega, by go_num, rfl, by rw [HF.out.2.2], Lib.hid ⟨HF.out.1, HF.out.2.1⟩⟩
        case measure => simp [intOf]; omega
    · obtain rfl : j = n := by omega
      have HRW := Lib.hid HT9.out.1.rows_in
      have HSM := Lib.hid (HSL.out j)
      have HLN := Lib.hid (HRL.out j (by omega))
      have HAL := Lib.hid (Hits.ofRow (l := (rowsM ls j).flatten) (w := wr) HT9.out.1.all)
      have HB9 := Lib.hid HT9.out.2
      have HME := Lib.hid (merge_any k A1 c1 (rowsM ls j) wr HRW.out (by have := HSM.out; omega))
      rw [HLN.out] at HME
      cases hx : isKM k with
      | false =>
        obtain ⟨h1, h2⟩ := merge_bad (ls := rowsM ls j) hx
        rw [h1, h2] at HME
        have hx2 : ¬ (1 ≤ k ∧ k ≤ 16) := fun e => by rw [(isK_iff k).2 e] at hx; cases hx
        clear hx h1 h2
        generalize rowsM ls j = rws at *
        by_cases h1 : 1 ≤ k
        · have h2 : ¬ k ≤ 16 := fun e => hx2 ⟨h1, e⟩
          have t1 : decide (k < 1) = false := by simp; omega
          have t2 : decide (16 < k) = true := by simp; omega
          clear hx2
          go_wp2_with fail
          refine HME.out.mono ?_
          rintro e w3 ⟨B3, c3, rfl, hr3, hb3⟩
          have HB3 := Lib.hid (HB9.out.trans (hb3.mono HB9.out.size))
          clear hr3 hb3
          go_wp2
          go_ret
          exact ⟨rfl, HB3.out⟩
        · have t1 : decide (k < 1) = true := by simp; omega
          clear hx2
          go_wp2_with fail
          refine HME.out.mono ?_
          rintro e w3 ⟨B3, c3, rfl, hr3, hb3⟩
          have HB3 := Lib.hid (HB9.out.trans (hb3.mono HB9.out.size))
          clear hr3 hb3
          go_wp2
          go_ret
          exact ⟨rfl, HB3.out⟩
      | true =>
        obtain ⟨h1, h2⟩ := (isK_iff k).1 hx
        obtain ⟨kk, hkk⟩ : ∃ kk : Nat, k = kk := ⟨k.toNat, by omega⟩
        have t1 : decide (k < 1) = false := by simp; omega
        have t2 : decide (16 < k) = false := by simp; omega
        obtain ⟨e1, e2⟩ := merge_ok (ls := rowsM ls j) hx (by have := HSM.out; omega)
        rw [e1, e2, hkk, Int.toNat_natCast] at HME
        have HRF := Lib.hid (fun (V : World) (hV : Below wr.heap.size wr V) => rFirst_any A2 c2 kk (rowsM ls j).flatten V (HAL.out.below hV) (by have := HSM.out; unfold sumL at this; omega) (by omega))
        rw [← hkk] at HME HRF
        rw [show (rowsM ls j).flatten.length = sumL (rowsM ls j) from rfl] at HRF
        generalize firstM kk (rowsM ls j).flatten = Y at *
        clear hx e1 e2 h1 h2 hkk
        generalize sumL (rowsM ls j) = sm at *
        go_wp2_with fail
        refine HME.out.mono ?_
        rintro e w3 ⟨B3, c3, rfl, hr3, hb3⟩
        have HB3 := Lib.hid hb3
        have HY3 := Lib.hid (Hits.ofRow hr3)
        clear hr3 hb3
        go_wp2_with fail
        refine (HRF.out w3 HB3.out).mono ?_
        rintro e w5 ⟨v, rfl, C5, d5, rfl, hr5, hb5⟩
        have HB5 := Lib.hid (HB3.out.trans (hb5.mono HB3.out.size))
        have HS5 := Lib.hid (rSame_yes B3 C5 c3 d5 Y w5 (HY3.out.below hb5) (Hits.ofRow hr5))
        clear hr5 hb5
        go_wp2_with fail
        refine HS5.out.mono ?_
        rintro e w6 ⟨rfl, hb6⟩
        have HB6 := Lib.hid (HB9.out.trans ((HB5.out.trans (hb6.mono HB5.out.size)).mono HB9.out.size))
        clear hb6
        go_wp2
        go_ret
        exact ⟨rfl, HB6.out⟩

set_option maxRecDepth 100000 in
theorem lifted (os : Os) (started : os.Started) (H : Type) (enc : TypeId × Value → H) :
    ReturnsInHanded {} Try.checked os 4 .any (Rows.topkMergesSpec.pre6 enc Try.prog Try.f4 Rows.topkMergesRow.domain false) (Rows.topkMergesSpec.post enc Try.prog Try.f4 false true false false) := by
  refine returnsInHanded_of_change (C := Try.checked) Try.own started (by kernel_rfl) Try.func4
    (ChangeSpec.witness6 (enc := enc) (C := Try.checked) false ⟨#[], #[.int .i64 0, .slice none 0 0], []⟩ 8 (by kernel_rfl) (by kernel_rfl) (by kernel_rfl) (by kernel_rfl)) ?_
  intro W base args ds gs before hval0 hW hcnd _
  have hval : ∀ (j : Nat) t v, Try.f4.params[j]? = some t → args[j]? = some v → Value.okWide Try.prog W .any base t v := hval0
  have hW' := hW
  obtain ⟨p, q, hA0, hV, rfl, hfz, hnd⟩ := hW
  have hA : DataW.TrodAll enc Try.prog W 0 (fun _ => true) true Try.f4.params.toList args.toList ds p := hA0
  rw [Try.params4] at hA hval
  have hA' := hA
  obtain ⟨v0, vs0, d0, ds0, p0, q0, hargs, rfl, rfl, h0, r0⟩ := trodAll_cons hA
  obtain ⟨v1, vs1, d1, ds1, p1, q1, rfl, rfl, rfl, h1, r1⟩ := trodAll_cons r0
  obtain ⟨rfl, rfl, rfl⟩ := trodAll_nil r1
  obtain rfl : args = #[v0, v1] := by cases args; simp_all
  obtain ⟨rfl, rfl⟩ := trodVars_none hV
  obtain ⟨a0, rfl, w0⟩ := open_num (hval 0 3 v0 rfl rfl) h0
  obtain ⟨A1, len1, c1, rfl⟩ := okWide_slice Try.underlying34 (hval 1 34 v1 rfl rfl)
  obtain ⟨z1, rfl, sl1⟩ := open_rows h1
  clear hA0 hval0
  refine (walk a0 w0 A1 c1 z1 sl1).mono fun e W' ⟨he, bel⟩ => ?_
  subst he
  exact ⟨_, rfl, _, _, _, [], _, [], hW', trodAll_mk1 (shut_bool Try.underlying4 _), trodAll_below bel _ _ _ _ (by kernel_rfl) hA', rfl, bel.frame _, fun h => by cases h⟩

theorem proved : Rows.TopkMergesSaid :=
  OpenClaim.holds_of_wide 4 Try.f4 rfl rfl rfl rfl rfl rfl rfl ⟨rfl, rfl, rfl, rfl, rfl⟩ rfl rfl rfl rfl rfl (by kernel_rfl) Try.func4 (by kernel_rfl)
    (of_decide_eq_true (by kernel_rfl)) (by unfold Func.isWrapper; first | (rw [if_pos (by decide +kernel)]; kernel_rfl) | (rw [if_neg (by decide +kernel)]; exact ⟨rfl, rfl⟩))
    (fun os started H enc _ => lifted os started H enc)
#print axioms proved
end Go.Proofs.Ythobkakmjgmpcaa.topkMerges
