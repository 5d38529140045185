/-
  The document's Right.
-/
import Derived.Test.YtbnedhhkapbliaaChnAt
namespace Go.Proofs.Ytbnedhhkapbliaa
open Go.RowKit Go.Shelf
set_option linter.unusedVariables false
set_option linter.unusedSimpArgs false
set_option maxRecDepth 100000

theorem rRight_st (A : Option Addr) (c : Nat) (xs : List Int) (w : World) (h : Vec .i32 w A c xs) :
    Calls Try.prog 34 #[.slice A xs.length c] w fun e w' => e = .returned (.bool (right xs)) ∧ w' = w := (rRight_any A c xs w h).mono fun _ _ ⟨a, b⟩ => ⟨a, b.symm⟩

/-- What is told of a version, where it may not be. -/
def RFail (b f : Int) (r : Bool) (n n0 : Nat) : Prop :=
  decide (b < 1) = true ∨ (decide (b < 1) = false ∧ decide (1099511627776 < b) = true) ∨ (decide (b < 1) = false ∧ decide (1099511627776 < b) = false ∧ decide (1099511627776 < f) = true) ∨
  (decide (b < 1) = false ∧ decide (1099511627776 < b) = false ∧ decide (1099511627776 < f) = false ∧ (f != 0) = true ∧ decide (f ≤ b) = true) ∨
  (decide (b < 1) = false ∧ decide (1099511627776 < b) = false ∧ decide (1099511627776 < f) = false ∧ (f != 0) = false ∧ r = false) ∨
  (decide (b < 1) = false ∧ decide (1099511627776 < b) = false ∧ decide (1099511627776 < f) = false ∧ (f != 0) = true ∧ decide (f ≤ b) = false ∧ r = false) ∨
  (decide (b < 1) = false ∧ decide (1099511627776 < b) = false ∧ decide (1099511627776 < f) = false ∧ (f != 0) = false ∧ r = true ∧ ((n : Int) != (n0 : Int)) = true) ∨
  (decide (b < 1) = false ∧ decide (1099511627776 < b) = false ∧ decide (1099511627776 < f) = false ∧ (f != 0) = true ∧ decide (f ≤ b) = false ∧ r = true ∧ ((n : Int) != (n0 : Int)) = true)
def RPass (b f : Int) (r : Bool) (n n0 : Nat) : Prop :=
  (decide (b < 1) = false ∧ decide (1099511627776 < b) = false ∧ decide (1099511627776 < f) = false ∧ (f != 0) = false ∧ r = true ∧ ((n : Int) != (n0 : Int)) = false) ∨
  (decide (b < 1) = false ∧ decide (1099511627776 < b) = false ∧ decide (1099511627776 < f) = false ∧ (f != 0) = true ∧ decide (f ≤ b) = false ∧ r = true ∧ ((n : Int) != (n0 : Int)) = false)
def rOne (v : Vr) (n0 : Nat) : Bool :=
  !(decide (v.b < 1) || decide (1099511627776 < v.b) || decide (1099511627776 < v.f) || (!decide (v.f = 0) && decide (v.f ≤ v.b)) || !right v.x || !decide (v.x.length = n0))
theorem rOne_cases (v : Vr) (n0 : Nat) : (rOne v n0 = false ∧ RFail v.b v.f (right v.x) v.x.length n0) ∨ (rOne v n0 = true ∧ RPass v.b v.f (right v.x) v.x.length n0) := by
  unfold rOne RFail RPass
  by_cases h1 : v.b < 1 <;> by_cases h2 : 1099511627776 < v.b <;> by_cases h3 : 1099511627776 < v.f <;> by_cases h4 : v.f = 0 <;> by_cases h5 : v.f ≤ v.b <;> by_cases h6 : v.x.length = n0 <;> cases h7 : right v.x <;> simp_all <;> omega
def rNext (f b' : Int) (more : Bool) : Bool := !(more && (decide (f = 0) || decide (b' < f)))
theorem rAt_eq (l : List Vr) (k : Nat) (v v0 : Vr) (hk : l.getD k zv = v) (h0 : l.getD 0 zv = v0) : rAt l k = (rOne v v0.x.length && rNext v.f (l.getD (k + 1) zv).b (decide (k + 1 < l.length))) := by
  unfold rAt rOne rNext; rw [hk, h0]
theorem right_no {l : List Vr} {k : Nat} (hk : k < l.length) (h : rAt l k = false) : rightB l = false := by
  unfold rightB
  rw [Bool.and_eq_false_iff]
  exact .inr (List.all_eq_false.2 ⟨k, List.mem_range.2 hk, by simp [h]⟩)
theorem right_yes {l : List Vr} (hl : l.length ≤ 96) (h : ∀ k, k < l.length → rAt l k = true) : rightB l = true := by
  unfold rightB
  rw [Bool.and_eq_true, decide_eq_true_eq, List.all_eq_true]
  exact ⟨hl, fun k hk => h k (List.mem_range.1 hk)⟩
theorem right_many {l : List Vr} (hl : ¬ l.length ≤ 96) : rightB l = false := by unfold rightB; simp; intro h; omega

set_option maxHeartbeats 4000000 in
theorem rRight8_any (A : Option Addr) (c : Nat) (q : List Pl) (w : World) (h : Chn w A c q) :
    Calls Try.prog 15 #[.slice A q.length c] w fun e w' => e = .returned (.bool (rightB (vals q))) ∧ Below w.heap.size w w' := by
  obtain ⟨n, hn⟩ : ∃ n, n = q.length := ⟨_, rfl⟩
  have hmn : n ≤ 9223372036854775807 := by rw [hn]; exact h.many
  have HQ := Lib.hid h
  have HN := Lib.hid hn
  have HNo := Lib.hid (fun k (hk : k < n) (ho : rAt (vals q) k = false) => right_no (l := vals q) (by rw [vals_length, ← hn]; exact hk) ho)
  have HYes := Lib.hid (fun (hm : n ≤ 96) (ho : ∀ j, j < n → rAt (vals q) j = true) => right_yes (l := vals q) (by rw [vals_length, ← hn]; exact hm) (by rw [vals_length, ← hn]; exact ho))
  have HMany := Lib.hid (fun (hm : ¬ n ≤ 96) => right_many (l := vals q) (by rw [vals_length, ← hn]; exact hm))
  rw [← hn]
  have HRB := Lib.hid (show (vals q).length = n by rw [vals_length, hn])
  generalize rightB (vals q) = R at *
  clear h hn
  by_cases h96 : n ≤ 96
  · have t96 : decide ((96 : Int) < (n : Int)) = false := by simp; omega
    have H96 := Lib.hid h96
    go_enter Try.func15, Try.ntmps15
    go_wp2
    go_loopw [10] (fun i wr => ∃ k : Nat, k ≤ n ∧ i = .int .i64 k ∧ Hid (∀ j : Nat, j < k → rAt (vals q) j = true) ∧ Hid (Below w.heap.size w wr)) (fun i _ => n - (intOf i).toNat)
    case atStart => exact ⟨0, Nat.zero_le _, rfl, Lib.hid (fun j hj => by omega), Lib.hid (Below.refl _ _)⟩
    case round =>
      obtain ⟨k, hk, rfl, HK, HB⟩ := hrel
      by_cases hkn : k < n
      · obtain ⟨b, o, p, rfl, hp, hb, c0, c1, c2, hv, hf⟩ := (HQ.out.below HB.out).at_ (i := k) (by rw [← HN.out]; exact hkn)
        obtain ⟨b', o', p0, e', hp0, hb0, d0, d1, d2, hv0, hf0⟩ := (HQ.out.below HB.out).at_ (i := 0) (by rw [← HN.out]; omega)
        injection e' with e'
        injection e' with e1 e2
        subst e1
        subst e2
        simp only [Nat.zero_mul, Nat.add_zero] at d0 d1 d2
        have k0 : (0 : Int) ≤ k := by omega
        have kn : (k : Int) < n := by omega
        have n0 : (0 : Int) < n := by omega
        obtain ⟨W1, hW1⟩ : ∃ W1, W1 = wr.alloc (.cells #[.int .u64 p.v.b, .int .u64 p.v.f, .slice p.B p.v.x.length p.c] 35) := ⟨_, rfl⟩
        have hb1 : Below wr.heap.size wr W1 := by rw [hW1]; exact ver_alloc _ _ _ _ _ _
        have hx1 : W1.heap[wr.heap.size]? = some (.cells #[.int .u64 p.v.b, .int .u64 p.v.f, .slice p.B p.v.x.length p.c] 35 (0, 0)) := by rw [hW1]; exact heap_alloc_new _ _
        have x0 := (cell_of_row _ _ 0 _ _ _ hx1).trans rfl
        have x1 := (cell_of_row _ _ 1 _ _ _ hx1).trans rfl
        have x2 := (cell_of_row _ _ 2 _ _ _ hx1).trans rfl
        have y2 : W1.cell? ⟨b, o + 2, none⟩ = some (.slice p0.B p0.v.x.length p0.c) := (hb1.cell (p := ⟨b, o + 2, none⟩) hb).trans d2
        have HRt := Lib.hid (fun (m : Nat) => rRight_st p.B p.c p.v.x (W1.drewN m) ((hv.below hb1).drewN m))
        have HWB := Lib.hid (HB.out.trans (hb1.mono HB.out.size))
        have HW1 := Lib.hid hW1
        have HAt := Lib.hid (rAt_eq (vals q) k p.v p0.v (vals_getD hp) (vals_getD hp0))
        have HNx := Lib.hid (fun (hk1 : k + 1 < n) => (HQ.out.below HWB.out).at_ (i := k + 1) (by rw [← HN.out]; exact hk1))
        clear hv hf hp hv0 hf0 hp0 hb0 d0 d1 hb1 hx1 hW1
        rcases rOne_cases p.v p0.v.x.length with ⟨hr, hfail⟩ | ⟨hr, hpass⟩
        · have HF := Lib.hid (HNo.out k hkn (by rw [HAt.out, hr]; rfl))
          clear hr
          unfold RFail at hfail
          generalize p.v.x.length = m at *
          generalize p0.v.x.length = m0 at *
          generalize right p.v.x = rt at *
          rcases hfail with s1 | ⟨s1, s2⟩ | ⟨s1, s2, s3⟩ | ⟨s1, s2, s3, s4, s5⟩ | ⟨s1, s2, s3, s4, rfl⟩ | ⟨s1, s2, s3, s4, s5, rfl⟩ | ⟨s1, s2, s3, s4, rfl, s6⟩ | ⟨s1, s2, s3, s4, s5, rfl, s6⟩
          all_goals (
            go_wp2
            rw [← HW1.out]
            go_quiet ((go_at_call 34; with_reducible refine Calls.quiet_of_same (HRt.out _)))
            go_wp2
            go_ret
            rw [HF.out]
            exact ⟨rfl, below_drewN HWB.out _⟩)
        · obtain ⟨m1, hm1⟩ : ∃ m1, n = m1 + 1 := ⟨n - 1, by omega⟩
          have q1 : (n : Int) - 1 = (m1 : Int) := by omega
          have q2 : IntKind.i64.wrap ((n : Int) - 1) = (m1 : Int) := by rw [IntKind.wrap_i64]; omega
          have q3 : IntKind.i64.wrap (m1 : Int) = (m1 : Int) := by rw [IntKind.wrap_i64]; omega
          have HM1 := Lib.hid hm1
          have HStep := Lib.hid (fun (ho : rAt (vals q) k = true) => show ∀ i : Nat, i < k + 1 → rAt (vals q) i = true from fun i hi => by
            by_cases hi2 : i < k
            · exact HK.out i hi2
            · have hik : i = k := (by omega)
              rw [hik, ho])
          by_cases hl : k + 1 < n
          · obtain ⟨b3, o3, pn, e3, hpn, hb3, f0, _, _, _, hfn⟩ := HNx.out hl
            injection e3 with e3
            injection e3 with e4 e5
            subst e4
            subst e5
            obtain ⟨j, hj⟩ : ∃ j, j = k + 1 := ⟨_, rfl⟩
            rw [← hj] at f0
            have j1 : (k : Int) + 1 = (j : Int) := by omega
            have j2 : IntKind.i64.wrap ((k : Int) + 1) = (j : Int) := by rw [IntKind.wrap_i64]; omega
            have j3 : IntKind.i64.wrap (j : Int) = (j : Int) := by rw [IntKind.wrap_i64]; omega
            have j4 : (0 : Int) ≤ j := by omega
            have j5 : (j : Int) < n := by omega
            have l1 : decide ((k : Int) < (m1 : Int)) = true := by simp; omega
            have l2 : decide (k < m1) = true := by simp; omega
            have HA2 := Lib.hid (show rAt (vals q) k = rNext p.v.f pn.v.b true by rw [HAt.out, hr, vals_getD hpn, HRB.out, decide_eq_true hl]; rfl)
            clear hr hpn hfn hb3 hm1 hj hl
            unfold RPass at hpass
            generalize p.v.x.length = m at *
            generalize p0.v.x.length = m0 at *
            generalize right p.v.x = rt at *
            generalize pn.v.b = nb at *
            rcases hpass with ⟨s1, s2, s3, s4, rfl, s6⟩ | ⟨s1, s2, s3, s4, s5, rfl, s6⟩
            · have s7 : (p.v.f == 0) = true := by simpa using s4
              have HF := Lib.hid (HNo.out k hkn (by rw [HA2.out]; unfold rNext; simp at s7; simp [s7]))
              go_wp2
              rw [← HW1.out]
              go_quiet ((go_at_call 34; with_reducible refine Calls.quiet_of_same (HRt.out _)))
              go_wp2
              go_quiet (fail)
              go_wp2
              go_ret
              rw [HF.out]
              exact ⟨rfl, below_drewN (below_drewN HWB.out _) _⟩
            · have s7 : (p.v.f == 0) = false := by simpa using s4
              by_cases s8 : nb < p.v.f
              · have HF := Lib.hid (HNo.out k hkn (by rw [HA2.out]; unfold rNext; simp [s8]))
                have s9 : decide (nb < p.v.f) = true := by simpa using s8
                clear s8
                go_wp2
                rw [← HW1.out]
                go_quiet ((go_at_call 34; with_reducible refine Calls.quiet_of_same (HRt.out _)))
                go_wp2
                go_quiet (fail)
                go_wp2
                go_ret
                rw [HF.out]
                exact ⟨rfl, below_drewN (below_drewN HWB.out _) _⟩
              · have HK2 := Lib.hid (HStep.out (by rw [HA2.out]; unfold rNext; simp at s7; simp [s7, s8]))
                have s9 : decide (nb < p.v.f) = false := by simpa using s8
                clear s8
                go_wp2
                rw [← HW1.out]
                go_quiet ((go_at_call 34; with_reducible refine Calls.quiet_of_same (HRt.out _)))
                go_wp2
                go_quiet (fail)
                go_wp2
                go_roundw
                case rel => exact ⟨k + 1, by omega, by go_num, HK2, Lib.hid (by first | exact below_drewN HWB.out _ | exact below_drewN (below_drewN HWB.out _) _)⟩
                case measure => simp [intOf]; omega
          · have l1 : decide ((k : Int) < (m1 : Int)) = false := by simp; omega
            have l2 : decide (k < m1) = false := by simp; omega
            have HK2 := Lib.hid (HStep.out (by rw [HAt.out, hr, HRB.out, decide_eq_false hl]; rfl))
            clear hr hm1
            unfold RPass at hpass
            generalize p.v.x.length = m at *
            generalize p0.v.x.length = m0 at *
            generalize right p.v.x = rt at *
            rcases hpass with ⟨s1, s2, s3, s4, rfl, s6⟩ | ⟨s1, s2, s3, s4, s5, rfl, s6⟩
            · go_wp2
              rw [← HW1.out]
              go_quiet ((go_at_call 34; with_reducible refine Calls.quiet_of_same (HRt.out _)))
              go_wp2
              go_quiet (fail)
              go_wp2
              go_roundw
              case rel => exact ⟨k + 1, by omega, by go_num, HK2, Lib.hid (by first | exact below_drewN HWB.out _ | exact below_drewN (below_drewN HWB.out _) _)⟩
              case measure => simp [intOf]; omega
            · go_wp2
              rw [← HW1.out]
              go_quiet ((go_at_call 34; with_reducible refine Calls.quiet_of_same (HRt.out _)))
              go_wp2
              go_quiet (fail)
              go_wp2
              go_roundw
              case rel => exact ⟨k + 1, by omega, by go_num, HK2, Lib.hid (by first | exact below_drewN HWB.out _ | exact below_drewN (below_drewN HWB.out _) _)⟩
              case measure => simp [intOf]; omega
      · obtain rfl : k = n := by omega
        have HT := Lib.hid (HYes.out h96 HK.out)
        go_wp2
        go_ret
        rw [HT.out]
        exact ⟨rfl, HB.out⟩
  · have t96 : decide ((96 : Int) < (n : Int)) = true := by simp; omega
    have HF := Lib.hid (HMany.out h96)
    go_enter Try.func15, Try.ntmps15
    go_wp2
    go_ret
    rw [HF.out]
    exact ⟨rfl, Below.refl _ _⟩

end Go.Proofs.Ytbnedhhkapbliaa
