/-
  The document's answers for layer 12, walked: Draws, Vectors, All, Centroids, Same, Start, Parts.
-/
import Derived.Test.YtgakfffkadaeeaaMnsV
namespace Go.Proofs.Ytgakfffkadaeeaa
open Go.RowKit Go.Shelf
set_option linter.unusedVariables false
set_option linter.unusedSimpArgs false
set_option maxRecDepth 100000

set_option maxHeartbeats 1000000 in
theorem rDraws_any (A : Option Addr) (c : Nat) (d : List Int) (w : World) (h : Vec .i64 w A c d) : Calls Try.prog 17 #[.slice A d.length c] w fun e w' => e = .returned (.bool (drawsB d)) ∧ w = w' := by
  obtain ⟨n, hn⟩ : ∃ n, n = d.length := ⟨_, rfl⟩
  have hmx : n ≤ 9223372036854775807 := by rw [hn]; exact Nat.le_trans h.room h.most
  have HF := Lib.hid (fun (hh : d.all drawB = false) => show drawsB d = false by unfold drawsB; rw [hh, Bool.and_false])
  have HT := Lib.hid (fun (hh : d.all drawB = true) => show drawsB d = (decide (1 ≤ n) && decide (n ≤ 6)) by unfold drawsB; rw [hh, Bool.and_true, hn])
  generalize drawsB d = R at *
  rw [← hn]
  have HV := Lib.hid h
  have HN := Lib.hid hn
  clear h hn
  go_enter Try.func17, Try.ntmps17
  go_wp2
  go_loop [7] (fun i => ∃ k : Nat, k ≤ n ∧ i = .int .i64 k ∧ Hid ((d.take k).all drawB = true)) (fun i => n - (intOf i).toNat)
  case atStart => exact ⟨0, Nat.zero_le _, rfl, Lib.hid (by simp)⟩
  case round =>
    obtain ⟨k, hk, rfl, HK⟩ := hrel
    by_cases hkn : k < n
    · obtain ⟨b, o, rfl, _, c1⟩ := HV.out.at_ (j := k) (by rw [← HN.out]; exact hkn)
      have hx := getD_some (a := d) (k := k) (by rw [← HN.out]; exact hkn)
      generalize d.getD k 0 = x at *
      have HX := Lib.hid hx
      clear hx
      cases hcx : drawB x with
      | true =>
        have HS := Lib.hid (show (d.take (k + 1)).all drawB = true by rw [all_take_snoc drawB d HX.out, HK.out, hcx]; rfl)
        have hc2 : 0 ≤ x ∧ x ≤ 1073741824 := by unfold drawB at hcx; simpa using hcx
        have e1 : ¬ x < 0 := by omega
        have e2 : ¬ 1073741824 < x := by omega
        clear hcx
        go_wp2
        go_round
        case rel => exact ⟨k + 1, by omega, by go_num, HS⟩
        case measure => simp [intOf]; omega
      | false =>
        have HFF := Lib.hid (HF.out (all_no drawB d HX.out hcx))
        by_cases hlo : x < 0
        · clear hcx
          go_wp2
          go_ret
          rw [HFF.out]
          exact ⟨rfl, rfl⟩
        · have hhi : 1073741824 < x := by unfold drawB at hcx; simp at hcx; omega
          clear hcx
          go_wp2
          go_ret
          rw [HFF.out]
          exact ⟨rfl, rfl⟩
    · obtain rfl : k = n := by omega
      have HTT := Lib.hid (HT.out (by have := HK.out; rw [HN.out, List.take_length] at this; exact this))
      by_cases h1 : 1 ≤ k
      · have i1 : decide ((1 : Int) ≤ (k : Int)) = true := by simp; omega
        by_cases h4 : k ≤ 6
        · have i2 : decide ((k : Int) ≤ 6) = true := by simp; omega
          have HT3 := Lib.hid (show R = true by rw [HTT.out]; simp [h1, h4])
          go_wp2
          go_ret
          rw [HT3.out]
          exact ⟨rfl, rfl⟩
        · have i2 : decide ((k : Int) ≤ 6) = false := by simp; omega
          have HT3 := Lib.hid (show R = false by rw [HTT.out]; simp [h4])
          go_wp2
          go_ret
          rw [HT3.out]
          exact ⟨rfl, rfl⟩
      · obtain rfl : k = 0 := by omega
        have HT3 := Lib.hid (show R = false by rw [HTT.out]; simp)
        go_wp2
        go_ret
        rw [HT3.out]
        exact ⟨rfl, rfl⟩

set_option maxHeartbeats 1000000 in
theorem rAll12_any (A : Option Addr) (c : Nat) (l : List (List Int)) (w : World) (h : Vecs .i32 w A c l) : Calls Try.prog 25 #[.slice A l.length c] w fun e w' => e = .returned (.int .i64 (allM l)) ∧ w = w' := by
  obtain ⟨n, hn⟩ : ∃ n, n = l.length := ⟨_, rfl⟩
  have hmx : n ≤ 9223372036854775807 := by rw [hn]; exact Nat.le_trans h.room h.most
  have HF := Lib.hid (fun (hh : l.all right = false) => show allM l = 150 by unfold allM refuseM; rw [hh]; rfl)
  have HT := Lib.hid (fun (hh : l.all right = true) => show allM l = if l.all (fun x => decide ((x.length : Int) = ((l.getD 0 []).length : Nat))) then 0 else 151 by unfold allM refuseM; rw [hh]; rfl)
  generalize allM l = R at *
  rw [← hn]
  have HV := Lib.hid h
  have HN := Lib.hid hn
  clear h hn
  go_enter Try.func25, Try.ntmps25
  go_wp2
  go_loop [9] (fun i => ∃ k : Nat, k ≤ n ∧ i = .int .i64 k ∧ Hid ((l.take k).all right = true)) (fun i => n - (intOf i).toNat)
  case atStart => exact ⟨0, Nat.zero_le _, rfl, Lib.hid (by simp)⟩
  case round =>
    obtain ⟨k, hk, rfl, HK⟩ := hrel
    by_cases hkn : k < n
    · obtain ⟨b, o, x, B, cb, rfl, hx, hb, hcell, hvec⟩ := HV.out.at_ (i := k) (by rw [← HN.out]; exact hkn)
      have HE := Lib.hid (rRight_any B cb x w hvec)
      have HX := Lib.hid hx
      obtain ⟨xl, hxl⟩ : ∃ xl, xl = x.length := ⟨_, rfl⟩
      rw [← hxl] at HE hcell
      clear hx hb hvec hxl
      cases hp : right x with
      | true =>
        have HS := Lib.hid (show (l.take (k + 1)).all right = true by rw [all_take_snoc right l HX.out, HK.out, hp]; rfl)
        rw [hp] at HE
        go_wp2_with fail
        refine HE.out.mono ?_
        rintro e w' ⟨rfl, rfl⟩
        go_wp2
        go_round
        case rel => exact ⟨k + 1, by omega, by go_num, HS⟩
        case measure => simp [intOf]; omega
      | false =>
        have HFF := Lib.hid (HF.out (all_no right l HX.out hp))
        rw [hp] at HE
        go_wp2_with fail
        refine HE.out.mono ?_
        rintro e w' ⟨rfl, rfl⟩
        go_wp2
        go_ret
        rw [HFF.out]
        exact ⟨rfl, rfl⟩
    · obtain rfl : k = n := by omega
      have hall : l.all right = true := by have := HK.out; rw [HN.out, List.take_length] at this; exact this
      have HTT := Lib.hid (HT.out hall)
      clear HF HT hall HK
      by_cases hk0 : k = 0
      · subst hk0
        have HZ := Lib.hid (show R = 0 by rw [HTT.out, List.eq_nil_of_length_eq_zero HN.out.symm]; rfl)
        go_wp2
        go_loopw [19] (fun i wr => i = .int .i64 0 ∧ wr = w) (fun _ _ => 0)
        case atStart => exact ⟨rfl, rfl⟩
        case round =>
          obtain ⟨rfl, rfl⟩ := hrel
          go_wp2
          go_ret
          rw [HZ.out]
          exact ⟨rfl, rfl⟩
      · obtain ⟨b, o, x0, B0, cb0, rfl, hx0, _, hc0, _⟩ := HV.out.at_ (i := 0) (by rw [← HN.out]; omega)
        rw [Nat.add_zero] at hc0
        rw [getD_at hx0] at HTT
        obtain ⟨d, hd⟩ : ∃ d, d = x0.length := ⟨_, rfl⟩
        rw [← hd] at HTT hc0
        have p0 : 0 < k := by omega
        have p1 : (0 : Int) < k := by omega
        clear hx0 hd hk0
        go_wp2
        go_loopw [19] (fun i wr => ∃ t : Nat, t ≤ k ∧ i = .int .i64 t ∧ w = wr ∧ Hid ((l.take t).all (fun x => decide ((x.length : Int) = (d : Nat))) = true)) (fun i _ => k - (intOf i).toNat)
        case atStart => exact ⟨0, Nat.zero_le _, rfl, rfl, Lib.hid (by simp)⟩
        case round =>
          obtain ⟨t, ht, rfl, rfl, HK⟩ := hrel
          by_cases htk : t < k
          · obtain ⟨b1, o1, x, B, cb, hA1, hx, hb, hcell, _⟩ := HV.out.at_ (i := t) (by rw [← HN.out]; exact htk)
            injection hA1 with hA1
            injection hA1 with hA2 hA3
            subst hA2 hA3
            have HX := Lib.hid hx
            obtain ⟨xl, hxl⟩ : ∃ xl, xl = x.length := ⟨_, rfl⟩
            have HXL := Lib.hid hxl
            rw [← hxl] at hcell
            have t0 : (0 : Int) ≤ t := by omega
            have tk : (t : Int) < k := by omega
            clear hx hb hxl
            by_cases he : xl = d
            · have HS := Lib.hid (show (l.take (t + 1)).all (fun x => decide ((x.length : Int) = (d : Nat))) = true by rw [all_take_snoc _ l HX.out, HK.out]; simp; rw [← HXL.out, he])
              subst he
              go_wp2
              go_roundw
              case rel => exact ⟨t + 1, by omega, by go_num, by first | rfl | trivial, HS⟩
              case measure => simp [intOf]; omega
            · have HFF := Lib.hid (show R = 151 by
                rw [HTT.out, all_no _ l HX.out (by rw [← HXL.out]; simp; omega)]; rfl)
              have t1 : ((xl : Int) == (d : Int)) = false := by simp; omega
              have t2 : ((xl : Int) != (d : Int)) = true := by simp; omega
              have t3 : (xl == d) = false := by simpa using he
              go_wp2
              go_ret
              rw [HFF.out]
              exact ⟨rfl, by first | rfl | trivial⟩
          · obtain rfl : t = k := by omega
            have HFF := Lib.hid (show R = 0 by rw [HTT.out]; have := HK.out; rw [HN.out, List.take_length] at this; rw [this]; rfl)
            go_wp2
            go_ret
            rw [HFF.out]
            exact ⟨rfl, by first | rfl | trivial⟩

theorem rVectors_any (A : Option Addr) (c : Nat) (l : List (List Int)) (w : World) (h : Vecs .i32 w A c l) : Calls Try.prog 18 #[.slice A l.length c] w fun e w' => e = .returned (.int .i64 (vectE l)) ∧ w = w' := by
  have HA := Lib.hid (rAll12_any A c l w h)
  by_cases h0 : l.length = 0
  · have HF := Lib.hid (show vectE l = 4 by unfold vectE trainE; rw [if_pos h0]; rfl)
    generalize vectE l = R at *
    rw [h0]
    clear h HA
    go_enter Try.func18, Try.ntmps18
    go_wp2
    go_ret
    rw [HF.out]
    exact ⟨rfl, rfl⟩
  · have t1 : ((l.length : Int) == 0) = false := by simp; intro e; rw [e] at h0; simp at h0
    have t2 : (l.length == 0) = false := by simpa using h0
    by_cases h96 : 96 < l.length
    · have HF := Lib.hid (show vectE l = 3 by unfold vectE trainE; rw [if_neg h0, if_pos h96]; rfl)
      have t3 : decide ((96 : Int) < (l.length : Int)) = true := by simp; omega
      generalize vectE l = R at *
      generalize l.length = n at *
      clear h HA h0
      go_enter Try.func18, Try.ntmps18
      go_wp2
      go_ret
      rw [HF.out]
      exact ⟨rfl, rfl⟩
    · have HF := Lib.hid (show vectE l = allM l by unfold vectE trainE; rw [if_neg h0, if_neg h96]; rfl)
      have t3 : decide ((96 : Int) < (l.length : Int)) = false := by simp; omega
      generalize vectE l = R at *
      generalize allM l = R2 at *
      generalize l.length = n at *
      clear h h0
      go_enter Try.func18, Try.ntmps18
      go_wp2_with fail
      refine HA.out.mono ?_
      rintro e w' ⟨rfl, rfl⟩
      go_wp2
      go_ret
      rw [HF.out]
      exact ⟨rfl, rfl⟩

def centB (n : Nat) : Bool := decide (1 ≤ n) && decide (n ≤ 6)
theorem cent_count (c : List (List Int)) : centB c.length = true ↔ countE c = 0 := by
  unfold centB countE
  simp only [Bool.and_eq_true, decide_eq_true_eq]
  constructor
  · intro h; rw [if_neg (by omega)]
  · intro h; split at h <;> omega
theorem rCent_any (A : Option Addr) (n c : Nat) (w : World) : Calls Try.prog 24 #[.slice A n c] w fun e w' => e = .returned (.bool (centB n)) ∧ w = w' := by
  by_cases h1 : 1 ≤ n
  · have i1 : decide ((1 : Int) ≤ (n : Int)) = true := by simp; omega
    by_cases h4 : n ≤ 6
    · have i2 : decide ((n : Int) ≤ 6) = true := by simp; omega
      have HF := Lib.hid (show centB n = true by unfold centB; simp [h1, h4])
      generalize centB n = R at *
      go_enter Try.func24, Try.ntmps24
      go_wp2
      go_ret
      rw [HF.out]
      exact ⟨rfl, rfl⟩
    · have i2 : decide ((n : Int) ≤ 6) = false := by simp; omega
      have HF := Lib.hid (show centB n = false by unfold centB; simp [h4])
      generalize centB n = R at *
      go_enter Try.func24, Try.ntmps24
      go_wp2
      go_ret
      rw [HF.out]
      exact ⟨rfl, rfl⟩
  · obtain rfl : n = 0 := by omega
    go_enter Try.func24, Try.ntmps24
    go_wp2
    go_ret
    exact ⟨rfl, rfl⟩

set_option maxHeartbeats 4000000 in
theorem rSame12_any (A A' : Option Addr) (c c' : Nat) (q r : List (List Int)) (w : World) (h : Vecs .i32 w A c q) (h' : Vecs .i32 w A' c' r) :
    Calls Try.prog 19 #[.slice A q.length c, .slice A' r.length c'] w fun e w' => e = .returned (.bool (decide (q = r))) ∧ Below w.heap.size w w' := by
  by_cases hl : r.length = q.length
  · obtain ⟨R, hR⟩ : ∃ R, R = decide (q = r) := ⟨_, rfl⟩
    rw [hl, ← hR]
    obtain ⟨m, hm⟩ : ∃ m, m = q.length := ⟨_, rfl⟩
    have hmx : m ≤ 9223372036854775807 := by rw [hm]; exact Nat.le_trans h.room h.most
    rw [← hm]
    have HA := Lib.hid h
    have HB := Lib.hid h'
    have HM := Lib.hid hm
    have HL := Lib.hid hl
    have HR := Lib.hid hR
    clear h h' hm hl hR
    go_enter Try.func19, Try.ntmps19
    go_wp2
    go_loopw [13] (fun i wr => ∃ k : Nat, k ≤ m ∧ i = .int .i64 k ∧ Hid (q.take k = r.take k) ∧ Hid (Below w.heap.size w wr)) (fun i _ => m - (intOf i).toNat)
    case atStart => exact ⟨0, Nat.zero_le _, rfl, Lib.hid rfl, Lib.hid (Below.refl _ _)⟩
    case round =>
      obtain ⟨k, hk, rfl, HK, HW⟩ := hrel
      by_cases hkm : k < m
      · obtain ⟨b1, o1, x, B1, cb1, rfl, hp, hb1, c0, hv⟩ := (HA.out.below HW.out).at_ (i := k) (by rw [← HM.out]; exact hkm)
        obtain ⟨b2, o2, x', B2, cb2, rfl, hp', hb2, d0, hv'⟩ := (HB.out.below HW.out).at_ (i := k) (by rw [HL.out, ← HM.out]; exact hkm)
        have k0 : (0 : Int) ≤ k := by omega
        have km : (k : Int) < m := by omega
        have HP := Lib.hid hp
        have HP' := Lib.hid hp'
        have HBd := Lib.hid (show Below wr.heap.size wr wr.drew from below_drew (Below.refl _ _))
        have HC := Lib.hid (rSame_any B1 B2 cb1 cb2 x x' wr.drew (hv.below HBd.out) (hv'.below HBd.out))
        have HWd := Lib.hid (show Below w.heap.size w wr.drew from below_drew HW.out)
        obtain ⟨xl, hxl⟩ : ∃ xl, xl = x.length := ⟨_, rfl⟩
        obtain ⟨yl, hyl⟩ : ∃ yl, yl = x'.length := ⟨_, rfl⟩
        rw [← hxl] at HC c0
        rw [← hyl] at HC d0
        have HLB1 := Lib.hid (show b1 < wr.drew.heap.size from hb1)
        have HLB2 := Lib.hid (show b2 < wr.drew.heap.size from hb2)
        clear hv hv' hp hp' hb1 hb2 hxl hyl
        by_cases he : x = x'
        · have HS := Lib.hid (show q.take (k + 1) = r.take (k + 1) by rw [List.take_add_one, List.take_add_one, HK.out, HP.out, HP'.out, he])
          rw [decide_eq_true he] at HC
          clear he
          go_wp2
          go_region_held3 (fun W => W.cell? ⟨b1, o1 + k, none⟩ = some (.slice B1 xl cb1) ∧ W.cell? ⟨b2, o2 + k, none⟩ = some (.slice B2 yl cb2)) (first | exact ⟨c0, d0⟩ | exact ⟨by assumption, by assumption⟩) (first
            | (go_at_call 34; (with_reducible refine HC.out.mono ?_); rintro e w6 ⟨rfl, hb6⟩; have HB6 := Lib.hid (below_tr HWd.out hb6); have f1 : w6.cell? ⟨b1, o1 + k, none⟩ = some (.slice B1 xl cb1) := (hb6.cell (p := ⟨b1, o1 + k, none⟩) HLB1.out).trans c0; have f2 : w6.cell? ⟨b2, o2 + k, none⟩ = some (.slice B2 yl cb2) := (hb6.cell (p := ⟨b2, o2 + k, none⟩) HLB2.out).trans d0; clear hb6))
          all_goals (
            go_wp2
            go_roundw
            case rel => exact ⟨k + 1, by omega, by go_num, HS, HB6⟩
            case measure => simp [intOf]; omega)
        · have HF := Lib.hid (show R = false by rw [HR.out]; exact decide_eq_false (fun e => he (by have h1 := HP.out; rw [e, HP'.out] at h1; exact (Option.some.inj h1).symm)))
          rw [decide_eq_false he] at HC
          clear he
          go_wp2
          go_region_held3 (fun W => W.cell? ⟨b1, o1 + k, none⟩ = some (.slice B1 xl cb1) ∧ W.cell? ⟨b2, o2 + k, none⟩ = some (.slice B2 yl cb2)) (first | exact ⟨c0, d0⟩ | exact ⟨by assumption, by assumption⟩) (first
            | (go_at_call 34; (with_reducible refine HC.out.mono ?_); rintro e w6 ⟨rfl, hb6⟩; have HB6 := Lib.hid (below_tr HWd.out hb6); have f1 : w6.cell? ⟨b1, o1 + k, none⟩ = some (.slice B1 xl cb1) := (hb6.cell (p := ⟨b1, o1 + k, none⟩) HLB1.out).trans c0; have f2 : w6.cell? ⟨b2, o2 + k, none⟩ = some (.slice B2 yl cb2) := (hb6.cell (p := ⟨b2, o2 + k, none⟩) HLB2.out).trans d0; clear hb6))
          all_goals (
            go_wp2
            go_ret
            rw [HF.out]
            exact ⟨rfl, HB6.out⟩)
      · obtain rfl : k = m := by omega
        have HT := Lib.hid (show R = true by
          rw [HR.out]
          refine decide_eq_true ?_
          have := HK.out
          rw [HM.out, List.take_length, ← HL.out, List.take_length] at this
          exact this)
        go_wp2
        go_ret
        rw [HT.out]
        exact ⟨rfl, HW.out⟩
  · have HT := Lib.hid (show decide (q = r) = false from decide_eq_false (fun e => hl (by rw [e])))
    generalize decide (q = r) = R at *
    generalize q.length = n at *
    generalize r.length = m at *
    have t2 : ((n : Int) != (m : Int)) = true := by simp; omega
    have t3 : ((n : Int) == (m : Int)) = false := by simp; omega
    have t4 : (n == m) = false := by simp; omega
    clear hl h h'
    go_enter Try.func19, Try.ntmps19
    go_wp2
    go_ret
    rw [HT.out]
    exact ⟨rfl, Below.refl _ _⟩
end Go.Proofs.Ytgakfffkadaeeaa
