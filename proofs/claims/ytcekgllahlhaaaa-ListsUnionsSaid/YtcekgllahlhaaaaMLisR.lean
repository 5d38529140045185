/-
  LisRef, LisRef2, LisRef3, LisRef4, LisRef5.
-/
import Derived.Test.YtcekgllahlhaaaaMLisA
import Derived.Test.YtcekgllahlhaaaaMLisB
import Derived.Deep.RegionHeld3
import Derived.Deep.Cut
import Derived.BigQuiet
namespace Go.Proofs.Ytcekgllahlhaaaa
open Go.RowKit Go.Shelf
open MskL (Mk Ms mv has mk Fine MRow MBox rightM slotB hasB cnt has_mk mk_congr mk_fine ofM ofE withM withW GivesM GivesME chkM hasI)
set_option linter.unusedVariables false
set_option linter.unusedSimpArgs false
set_option maxRecDepth 100000

theorem rCenL_any (A : Option Addr) (c : Nat) (C : List (List Int)) (w : World) (h : Vecs .i32 w A c C) :
    Calls Try.prog 35 #[.slice A C.length c] w fun e w' => e = .returned (.bool (cenB C)) ∧ Below w.heap.size w w' := by
  have HA := Lib.hid (rAll_any A c C w h)
  have HF := Lib.hid (show cenB C = (decide (C.length ≤ 6) && decide (allM C = 0)) from rfl)
  generalize cenB C = R at *
  by_cases h6 : C.length ≤ 6
  · have t1 : decide ((C.length : Int) ≤ 6) = true := by simp; omega
    have HF1 := Lib.hid (show R = decide (allM C = 0) by rw [HF.out, decide_eq_true h6]; simp)
    by_cases h0 : allM C = 0
    · have HF2 := Lib.hid (show R = true by rw [HF1.out, decide_eq_true h0])
      rw [h0] at HA
      generalize C.length = n at *
      clear h h0 h6
      go_enter Try.func35, Try.ntmps35
      go_wp2_with fail
      refine HA.out.mono ?_
      rintro e w1 ⟨rfl, hb1⟩
      have HB1 := Lib.hid hb1
      clear hb1
      go_wp2
      go_ret
      rw [HF2.out]
      exact ⟨rfl, HB1.out⟩
    · have HF2 := Lib.hid (show R = false by rw [HF1.out, decide_eq_false h0])
      have t2 : (allM C == 0) = false := by simpa using h0
      generalize allM C = E at *
      generalize C.length = n at *
      clear h h0 h6
      go_enter Try.func35, Try.ntmps35
      go_wp2_with fail
      refine HA.out.mono ?_
      rintro e w1 ⟨rfl, hb1⟩
      have HB1 := Lib.hid hb1
      clear hb1
      go_wp2
      go_ret
      rw [HF2.out]
      exact ⟨rfl, HB1.out⟩
  · have t1 : decide ((C.length : Int) ≤ 6) = false := by simp; omega
    have HF2 := Lib.hid (show R = false by rw [HF.out, decide_eq_false h6]; simp)
    generalize C.length = n at *
    clear h h6 HA
    go_enter Try.func35, Try.ntmps35
    go_wp2
    go_ret
    rw [HF2.out]
    exact ⟨rfl, Below.refl _ _⟩

theorem hasI_nat (m : Mk) (u : Nat) (hu : u < 96) : hasI m u = has m u := by
  have h1 : slotB (u : Int) = true := by unfold slotB; simp; omega
  unfold hasI
  rw [h1, Int.toNat_natCast, Bool.true_and]
/-- Two masks have no slot in common below u. -/
def noMeet (a b : Mk) (u : Nat) : Prop := ∀ v, v < u → ¬ (has a v = true ∧ has b v = true)
theorem noMeet_all {a b : Mk} (h : noMeet a b 96) : meet a b = false := by
  cases hm : meet a b with
  | false => rfl
  | true =>
    obtain ⟨s, h1, h2⟩ := (meet_iff a b).1 hm
    exact absurd ⟨h1, h2⟩ (h s (MskL.has_lt h1))

set_option maxHeartbeats 4000000 in
theorem rRightL_any (A : Option Addr) (c : Nat) (C : List (List Int)) (B : Option Addr) (d : Nat) (M : List Mk) (w : World) (h : Lis w A c C B d M) :
    Calls Try.prog 10 #[lv A c C.length B d M.length] w fun e w' => e = .returned (.bool (okB C M)) ∧ Below w.heap.size w w' := by
  obtain ⟨g, hg⟩ : ∃ g, g = w.heap.size := ⟨_, rfl⟩
  obtain ⟨n, hn⟩ : ∃ n, n = C.length := ⟨_, rfl⟩
  obtain ⟨m, hm⟩ : ∃ m, m = M.length := ⟨_, rfl⟩
  obtain ⟨W0, hW0⟩ : ∃ W0, W0 = w.alloc (.cells #[.slice A n c, .slice B m d] 25) := ⟨_, rfl⟩
  obtain ⟨hl0, hb0⟩ := lbox w A n c B m d
  rw [← hW0] at hl0 hb0
  rw [← hg] at hl0
  have hmd : m ≤ d := by rw [hm]; exact h.ms.room
  have hmm : (m : Int) ≤ 9223372036854775807 := by have := h.ms.room; have := h.ms.most; omega
  have HCe := Lib.hid (rCenL_any A c C W0 (h.cs.below hb0))
  rw [← hn] at HCe
  have HX := Lib.hid (fun (X : World) (hX : Below W0.heap.size W0 X) => hl0.below hX hl0.lt)
  have HMs := Lib.hid (fun (X : World) (hX : Below W0.heap.size W0 X) => (h.ms.below hb0).below hX)
  have HR := Lib.hid (show okB C M = (cenB C && decide (M.length = C.length) && apartB M) from rfl)
  have HB0 := Lib.hid hb0
  have HW0 := Lib.hid hW0
  have HG := Lib.hid hg
  have HM := Lib.hid hm
  have HN := Lib.hid hn
  obtain ⟨x0, x1⟩ := hl0
  rw [← hn, ← hm] at HR ⊢
  generalize okB C M = R at *
  generalize cenB C = P1 at *
  clear h hb0 hW0 hg hm hn
  unfold lv
  cases P1 with
  | false =>
    have HF := Lib.hid (show R = false by rw [HR.out]; simp)
    go_enter Try.func10, Try.ntmps10
    go_wp2_with (rw [← HW0.out, ← HG.out])
    refine HCe.out.mono ?_
    rintro e w1 ⟨rfl, hb1⟩
    have HB1 := Lib.hid (HB0.out.trans (hb1.mono HB0.out.size))
    clear hb1
    go_wp2
    go_ret
    rw [HF.out]
    exact ⟨rfl, HB1.out⟩
  | true =>
    by_cases hl : m = n
    · have HF := Lib.hid (show R = apartB M by rw [HR.out, decide_eq_true hl]; simp)
      have HNo := Lib.hid (fun (k : Nat) (hk : k < m) (hh : apTo M (k + 1) = false) => show R = false by rw [HF.out]; exact ap_false hh (by rw [← HM.out]; exact hk))
      subst hl
      go_enter Try.func10, Try.ntmps10
      go_wp2_with (rw [← HW0.out, ← HG.out])
      refine HCe.out.mono ?_
      rintro e w1 ⟨rfl, hb1⟩
      have HB1 := Lib.hid hb1
      obtain ⟨y0, y1⟩ := HX.out w1 hb1
      clear hb1 x0 x1
      go_wp2
      clear y0 y1
      go_loopw [3] (fun i wr => ∃ k : Nat, k ≤ m ∧ i = .int .i64 k ∧ Hid (Below W0.heap.size W0 wr) ∧ Hid (apTo M k = true)) (fun i _ => m - (intOf i).toNat)
      case atStart => exact ⟨0, Nat.zero_le _, rfl, HB1, Lib.hid rfl⟩
      case round =>
        obtain ⟨k, hk, rfl, HW, HAp⟩ := hrel
        obtain ⟨x0, x1⟩ := HX.out wr HW.out
        by_cases hkm : k < m
        · obtain ⟨b, o, x, y, rfl, hb, hx, hx1, hx2, d0, d1⟩ := (HMs.out wr HW.out).at_ (k := k) (by rw [← HM.out]; exact hkm)
          have k0 : (0 : Int) ≤ k := by omega
          have km : (k : Int) < m := by omega
          have HRt := Lib.hid (MskL.rRight_any (x, y) wr ⟨hx1, hx2⟩)
          have HSt := Lib.hid (show apTo M (k + 1) = (rightM (x, y) && (List.range k).all fun j => !meet (x, y) (M.getD j mz)) by rw [apTo_succ, HAp.out, mgetD hx]; rfl)
          have HHk := Lib.hid (fun (u : Nat) (hu : u < 96) (X : World) => show Calls Try.prog 37 #[mv (x, y), .int .i64 u] X (fun e w' => e = .returned (.bool (has (x, y) u)) ∧ Below X.heap.size X w') from by
            have := MskL.rHas_any (x, y) u X ⟨hx1, hx2⟩ (by omega)
            rwa [hasI_nat _ u hu] at this)
          have HCk := Lib.hid (fun (X : World) (hX : Below wr.heap.size wr X) => show X.cell? ⟨b, o + k * 2, none⟩ = some (.int .u64 x) ∧ X.cell? ⟨b, o + k * 2 + 1, none⟩ = some (.int .u64 y) from ⟨(hX.cell (p := ⟨b, o + k * 2, none⟩) hb).trans d0, (hX.cell (p := ⟨b, o + k * 2 + 1, none⟩) hb).trans d1⟩)
          unfold mv at HRt HHk
          clear hx hx1 hx2 hb
          cases hr : rightM (x, y) with
          | false =>
            have HFF := Lib.hid (HNo.out k hkm (by rw [HSt.out, hr]; rfl))
            rw [hr] at HRt
            clear hr
            go_wp2_with fail
            refine HRt.out.mono ?_
            rintro e w2 ⟨rfl, hb2⟩
            have HB2 := Lib.hid (HB0.out.trans ((HW.out.trans (hb2.mono HW.out.size)).mono HB0.out.size))
            clear hb2
            go_wp2
            go_ret
            rw [HFF.out]
            exact ⟨rfl, HB2.out⟩
          | true =>
            rw [hr, Bool.true_and] at HSt
            rw [hr] at HRt
            clear hr
            go_wp2_with fail
            refine HRt.out.mono ?_
            rintro e w2 ⟨rfl, hb2⟩
            have HB2 := Lib.hid hb2
            clear hb2 x0 x1 d0 d1
            go_wp2
            go_loopw [4] (fun i w3 => ∃ t : Nat, t ≤ k ∧ i = .int .i64 t ∧ Hid (Below wr.heap.size wr w3) ∧ Hid (∀ j, j < t → meet (x, y) (M.getD j mz) = false)) (fun i _ => k - (intOf i).toNat)
            case atStart => exact ⟨0, Nat.zero_le _, rfl, HB2, Lib.hid (fun j hj => absurd hj (Nat.not_lt_zero _))⟩
            case round =>
              clear HB2
              obtain ⟨t, ht, rfl, HW3, HNm⟩ := hrel
              have HW03 := Lib.hid (HW.out.trans (HW3.out.mono HW.out.size))
              by_cases htk : t < k
              · obtain ⟨b2, o2, x', y', hA2, hb2, hx', hx1', hx2', e0, e1⟩ := (HMs.out _ HW03.out).at_ (k := t) (by rw [← HM.out]; omega)
                injection hA2 with hA2
                injection hA2 with eb eo
                subst eb eo
                have t0 : (0 : Int) ≤ t := by omega
                have tk : (t : Int) < k := by omega
                have tm : (t : Int) < m := by omega
                have tmn : t < m := by omega
                have HHt := Lib.hid (fun (u : Nat) (hu : u < 96) (X : World) => show Calls Try.prog 37 #[mv (x', y'), .int .i64 u] X (fun e w' => e = .returned (.bool (has (x', y') u)) ∧ Below X.heap.size X w') from by
                  have := MskL.rHas_any (x', y') u X ⟨hx1', hx2'⟩ (by omega)
                  rwa [hasI_nat _ u hu] at this)
                have HCt := Lib.hid (fun (X : World) (hX : Below wr.heap.size wr X) => show X.cell? ⟨b, o + t * 2, none⟩ = some (.int .u64 x') ∧ X.cell? ⟨b, o + t * 2 + 1, none⟩ = some (.int .u64 y') from ⟨(hX.cell (p := ⟨b, o + t * 2, none⟩) hb2).trans e0, (hX.cell (p := ⟨b, o + t * 2 + 1, none⟩) hb2).trans e1⟩)
                have HD := Lib.hid (mgetD hx')
                unfold mv at HHt
                clear hx' hx1' hx2' hb2 e0 e1
                go_wp2
                go_loopw [5] (fun i w4 => ∃ u : Nat, u ≤ 96 ∧ i = .int .i64 u ∧ Hid (Below wr.heap.size wr w4) ∧ Hid (noMeet (x, y) (x', y') u)) (fun i _ => 96 - (intOf i).toNat)
                case atStart => exact ⟨0, by omega, rfl, Lib.hid (Below.refl _ _), Lib.hid (fun j hj => absurd hj (Nat.not_lt_zero _))⟩
                case round =>
                  obtain ⟨u, hu, rfl, HW4, HNu⟩ := hrel
                  have HB34 := Lib.hid (HW3.out.trans (HW4.out.mono HW3.out.size))
                  by_cases hu96 : u < 96
                  · have u0 : (0 : Int) ≤ u := by omega
                    have u96 : (u : Int) < 96 := by omega
                    obtain ⟨d0, d1⟩ := HCk.out wr HB34.out
                    obtain ⟨x0, x1⟩ := HX.out wr (HW.out.trans (HB34.out.mono HW.out.size))
                    have HC1 := Lib.hid (HHk.out u hu96 wr)
                    cases h1 : has (x, y) u with
                    | false =>
                      have HS := Lib.hid (show noMeet (x, y) (x', y') (u + 1) from fun v hv hh => by
                        by_cases e : v = u
                        · subst e; rw [h1] at hh; exact Bool.false_ne_true hh.1
                        · exact HNu.out v (by omega) hh)
                      rw [h1] at HC1
                      clear h1
                      go_wp2_with fail
                      refine HC1.out.mono ?_
                      rintro e w5 ⟨rfl, hb5⟩
                      have HB5 := Lib.hid (HW4.out.trans (hb5.mono HW4.out.size))
                      clear hb5 d0 d1 x0 x1
                      go_wp2
                      go_roundw
                      case rel => exact ⟨u + 1, by omega, by go_num, HB5, HS⟩
                      case measure => simp [intOf]; omega
                    | true =>
                      rw [h1] at HC1
                      go_wp2_with fail
                      refine HC1.out.mono ?_
                      rintro e w5 ⟨rfl, hb5⟩
                      have hb35 := HW4.out.trans (hb5.mono HW4.out.size)
                      have HB5 := Lib.hid hb35
                      obtain ⟨e0, e1⟩ := HCt.out w5 hb35
                      obtain ⟨x2, x3⟩ := HX.out w5 (HW03.out.trans (hb35.mono HW03.out.size))
                      have HC2 := Lib.hid (HHt.out u hu96 w5)
                      clear hb5 hb35 d0 d1 x0 x1
                      cases h2 : has (x', y') u with
                      | false =>
                        have HS := Lib.hid (show noMeet (x, y) (x', y') (u + 1) from fun v hv hh => by
                          by_cases e : v = u
                          · subst e; rw [h2] at hh; exact Bool.false_ne_true hh.2
                          · exact HNu.out v (by omega) hh)
                        rw [h2] at HC2
                        clear h1 h2
                        go_wp2_with fail
                        refine HC2.out.mono ?_
                        rintro e w6 ⟨rfl, hb6⟩
                        have HB6 := Lib.hid (HB5.out.trans (hb6.mono HB5.out.size))
                        clear hb6 e0 e1 x2 x3
                        go_wp2
                        go_roundw
                        case rel => exact ⟨u + 1, by omega, by go_num, HB6, HS⟩
                        case measure => simp [intOf]; omega
                      | true =>
                        have HFF := Lib.hid (HNo.out k hkm (by
                          rw [HSt.out, List.all_eq_false]
                          refine ⟨t, List.mem_range.2 htk, ?_⟩
                          rw [HD.out, (meet_iff _ _).2 ⟨u, h1, h2⟩]
                          simp))
                        rw [h2] at HC2
                        clear h1 h2
                        go_wp2_with fail
                        refine HC2.out.mono ?_
                        rintro e w6 ⟨rfl, hb6⟩
                        have HB6 := Lib.hid (HB0.out.trans ((HW03.out.trans ((HB5.out.trans (hb6.mono HB5.out.size)).mono HW03.out.size)).mono HB0.out.size))
                        clear hb6 e0 e1 x2 x3
                        go_wp2
                        go_ret
                        rw [HFF.out]
                        exact ⟨rfl, HB6.out⟩
                  · obtain rfl : u = 96 := by omega
                    have HS := Lib.hid (show ∀ j, j < t + 1 → meet (x, y) (M.getD j mz) = false from fun j hj => by
                      by_cases e : j = t
                      · subst e; rw [HD.out]; exact noMeet_all HNu.out
                      · exact HNm.out j (by omega))
                    go_wp2
                    go_roundw
                    case rel => exact ⟨t + 1, by omega, by go_num, HB34, HS⟩
                    case measure => simp [intOf]; omega
              · obtain rfl : t = k := by omega
                have HS := Lib.hid (show apTo M (t + 1) = true by
                  rw [HSt.out, List.all_eq_true]
                  intro j hj
                  rw [HNm.out j (List.mem_range.1 hj)]; rfl)
                go_wp2
                go_roundw
                case rel => exact ⟨t + 1, by omega, by go_num, HW03, HS⟩
                case measure => simp [intOf]; omega
        · obtain rfl : k = m := by omega
          have HFF := Lib.hid (show R = true by rw [HF.out]; unfold apartB; rw [← HM.out]; exact HAp.out)
          have HBF := Lib.hid (HB0.out.trans (HW.out.mono HB0.out.size))
          go_wp2
          go_ret
          rw [HFF.out]
          exact ⟨rfl, HBF.out⟩
    · have HF := Lib.hid (show R = false by rw [HR.out, decide_eq_false hl]; simp)
      have t1 : ((m : Int) == (n : Int)) = false := by simp; omega
      have t2 : ((m : Int) != (n : Int)) = true := by simp; omega
      have t3 : (m == n) = false := by simpa using hl
      clear hl
      go_enter Try.func10, Try.ntmps10
      go_wp2_with (rw [← HW0.out, ← HG.out])
      refine HCe.out.mono ?_
      rintro e w1 ⟨rfl, hb1⟩
      have HB1 := Lib.hid (HB0.out.trans (hb1.mono HB0.out.size))
      obtain ⟨z0, z1⟩ := HX.out w1 hb1
      clear hb1 x0 x1
      go_wp2
      go_ret
      rw [HF.out]
      exact ⟨rfl, HB1.out⟩
end Go.Proofs.Ytcekgllahlhaaaa

namespace Go.Proofs.Ytcekgllahlhaaaa
open Go.RowKit Go.Shelf
open MskL (Mk Ms mv has mk Fine MRow MBox rightM slotB hasB cnt has_mk mk_congr mk_fine ofM ofE withM withW GivesM GivesME chkM hasI)
set_option linter.unusedVariables false
set_option linter.unusedSimpArgs false
set_option maxRecDepth 100000

set_option maxHeartbeats 2000000 in
theorem rWhereL_any (A : Option Addr) (c : Nat) (C : List (List Int)) (B : Option Addr) (d : Nat) (M : List Mk) (s : Int) (w : World) (h : Lis w A c C B d M) (hs : -9223372036854775808 ≤ s ∧ s ≤ 9223372036854775807) :
    Calls Try.prog 13 #[lv A c C.length B d M.length, .int .i64 s] w fun e w' => e = .returned (.int .i64 (whereK M s)) ∧ Below w.heap.size w w' := by
  obtain ⟨g, hg⟩ : ∃ g, g = w.heap.size := ⟨_, rfl⟩
  obtain ⟨n, hn⟩ : ∃ n, n = C.length := ⟨_, rfl⟩
  obtain ⟨m, hm⟩ : ∃ m, m = M.length := ⟨_, rfl⟩
  obtain ⟨W0, hW0⟩ : ∃ W0, W0 = w.alloc (.cells #[.slice A n c, .slice B m d] 25) := ⟨_, rfl⟩
  obtain ⟨hl0, hb0⟩ := lbox w A n c B m d
  rw [← hW0] at hl0 hb0
  rw [← hg] at hl0
  have hmd : m ≤ d := by rw [hm]; exact h.ms.room
  have hmm : (m : Int) ≤ 9223372036854775807 := by have := h.ms.room; have := h.ms.most; omega
  have HX := Lib.hid (fun (X : World) (hX : Below W0.heap.size W0 X) => hl0.below hX hl0.lt)
  have HMs := Lib.hid (fun (X : World) (hX : Below W0.heap.size W0 X) => (h.ms.below hb0).below hX)
  have HHas := Lib.hid (fun (m : Mk) (hm : Fine m) (X : World) => show Calls Try.prog 37 #[mv m, .int .i64 s] X (fun e w' => e = .returned (.bool (hasB m s)) ∧ Below X.heap.size X w') from MskL.rHas_any m s X hm hs)
  obtain ⟨R, hR⟩ : ∃ R, R = whereK M s := ⟨_, rfl⟩
  rw [← hR]
  have HR := Lib.hid hR
  have HB0 := Lib.hid hb0
  have HW0 := Lib.hid hW0
  have HG := Lib.hid hg
  have HM := Lib.hid hm
  rw [← hn, ← hm]
  clear h hb0 hW0 hg hm hn hs hR
  unfold lv
  obtain ⟨x0, x1⟩ := hl0
  go_enter Try.func13, Try.ntmps13
  go_wp2_with (rw [← HW0.out, ← HG.out])
  clear x0 x1
  go_loopw [5] (fun i wr => ∃ k : Nat, k ≤ m ∧ i = .int .i64 k ∧ Hid (Below W0.heap.size W0 wr) ∧ Hid (NoneK (fun x => hasB x s) M k)) (fun i _ => m - (intOf i).toNat)
  case atStart => exact ⟨0, Nat.zero_le _, rfl, by rw [HW0.out]; exact Lib.hid (Below.refl _ _), Lib.hid (fun j u hj => absurd hj (Nat.not_lt_zero _))⟩
  case round =>
    obtain ⟨k, hk, rfl, HW, HK⟩ := hrel
    obtain ⟨x0, x1⟩ := HX.out wr HW.out
    by_cases hkm : k < m
    · obtain ⟨b, o, x, y, rfl, hb, hx, hx1, hx2, d0, d1⟩ := (HMs.out wr HW.out).at_ (k := k) (by rw [← HM.out]; exact hkm)
      have k0 : (0 : Int) ≤ k := by omega
      have km : (k : Int) < m := by omega
      have HC := Lib.hid (HHas.out (x, y) ⟨hx1, hx2⟩ wr)
      have HXX := Lib.hid hx
      unfold mv at HC
      clear hx hx1 hx2 hb
      cases hh : hasB (x, y) s with
      | false =>
        have HS := Lib.hid (HK.out.step HXX.out hh)
        rw [hh] at HC
        clear hh
        go_wp2_with fail
        refine HC.out.mono ?_
        rintro e w2 ⟨rfl, hb2⟩
        have HB2 := Lib.hid (HW.out.trans (hb2.mono HW.out.size))
        clear hb2
        go_wp2
        go_roundw
        case rel => exact ⟨k + 1, by omega, by go_num, HB2, HS⟩
        case measure => simp [intOf]; omega
      | true =>
        have HF := Lib.hid (show R = k by rw [HR.out]; unfold whereK; rw [HK.out.at_ HXX.out hh]; rfl)
        rw [hh] at HC
        clear hh
        go_wp2_with fail
        refine HC.out.mono ?_
        rintro e w2 ⟨rfl, hb2⟩
        have HB2 := Lib.hid (HB0.out.trans ((HW.out.trans (hb2.mono HW.out.size)).mono HB0.out.size))
        clear hb2
        go_wp2
        go_ret
        rw [HF.out]
        exact ⟨rfl, HB2.out⟩
    · obtain rfl : k = m := by omega
      have HF := Lib.hid (show R = -1 by rw [HR.out]; unfold whereK; rw [NoneK.all (l := M) (P := fun x => hasB x s) (by rw [← HM.out]; exact HK.out)]; rfl)
      have HBF := Lib.hid (HB0.out.trans (HW.out.mono HB0.out.size))
      go_wp2
      go_ret
      rw [HF.out]
      exact ⟨rfl, HBF.out⟩

/-- Lists whose centroids stay where they are, with masks of their own. -/
def GivesW (w : World) (A : Option Addr) (c n : Nat) (M : List Mk) (e : Ending) (w' : World) : Prop := ∃ B d, e = .returned (lv A c n B d M.length) ∧ OwnM w.heap.size w' B d M ∧ Below w.heap.size w w'
/-- Lists are laid into the block of a result: the centroids where they are. -/
theorem ret_low {w X : World} {g base n m c d c' d' n' m' : Nat} {A B A' B' : Option Addr} {M : List Mk} (h : LRow X g A' n' c' B' m' d') (hb : Below w.heap.size w X) (hg : w.heap.size ≤ g) (hm : OwnM base X B d M) (hgb : ∀ i, blk B = some i → i ≠ g) (hbs : w.heap.size ≤ base) (hM : m = M.length) :
    (X.cell? ⟨g, 0, none⟩ = some (.slice A' n' c') ∧ X.cell? ⟨g, 1, none⟩ = some (.slice B' m' d') ∧ X.frozen? ⟨g, 0, none⟩ = false ∧ X.frozen? ⟨g, 1, none⟩ = false) ∧
    ((X.setCell ⟨g, 0, none⟩ (.slice A n c)).setCell ⟨g, 1, none⟩ (.slice B m d)).cell? ⟨g, 0, none⟩ = some (.slice A n c) ∧ ((X.setCell ⟨g, 0, none⟩ (.slice A n c)).setCell ⟨g, 1, none⟩ (.slice B m d)).cell? ⟨g, 1, none⟩ = some (.slice B m d) ∧
    GivesW w A c n M (.returned (.agg #[.slice A n c, .slice B m d])) ((X.setCell ⟨g, 0, none⟩ (.slice A n c)).setCell ⟨g, 1, none⟩ (.slice B m d)) := by
  subst hM
  have h2 := (h.set0 A n c).set1 B M.length d
  have ts := (turn_set X g 0 (.slice A n c)).trans (turn_set (X.setCell ⟨g, 0, none⟩ (.slice A n c)) g 1 (.slice B M.length d)) (fun i hi => .inl hi)
  exact ⟨⟨h.box.c0, h.box.c1, h.frozen 0, h.frozen 1⟩, h2.box.c0, h2.box.c1, B, d, rfl, (hm.turn ts (fun i hi e => hgb i hi e)).mono hbs, hb.trans (ts.below hb.size (fun i hi => by omega))⟩

set_option maxHeartbeats 2000000 in
theorem rWithL_any (A : Option Addr) (c n : Nat) (B : Option Addr) (d : Nat) (M : List Mk) (P s : Nat) (w : World) (h : Ms w B d M) (hP : P < M.length) (hs : s < 96) (hMl : M.length ≤ 1000000) :
    Calls Try.prog 15 #[lv A c n B d M.length, .int .i64 P, .int .i64 s] w (GivesW w A c n (M.set P (withW (M.getD P mz) s))) := by
  obtain ⟨g, hg⟩ : ∃ g, g = w.heap.size := ⟨_, rfl⟩
  obtain ⟨m, hm⟩ : ∃ m, m = M.length := ⟨_, rfl⟩
  obtain ⟨W0, hW0⟩ : ∃ W0, W0 = (w.alloc (.cells #[.slice A n c, .slice B m d] 25)).alloc (.cells #[.slice none 0 0, .slice none 0 0] 25) := ⟨_, rfl⟩
  have hb0 : Below w.heap.size w W0 := by rw [hW0]; exact ((Below.refl _ w).alloc (Nat.le_refl _) _).alloc (by simp) _
  have hl0 : LRow W0 g A n c B m d := by rw [hW0, hg]; exact (LRow.new w A n c B m d).below ((Below.refl _ _).alloc (Nat.le_refl _) _) (by simp)
  have hr0 : LRow W0 (g + 1) none 0 0 none 0 0 := by
    rw [hW0, hg]; have := LRow.new (w.alloc (.cells #[.slice A n c, .slice B m d] 25)) none 0 0 none 0 0
    rwa [World.size_alloc] at this
  obtain ⟨V, hV⟩ : ∃ V, V = W0.alloc (.cells #[] 38) := ⟨_, rfl⟩
  have hbV : Below W0.heap.size W0 V := by rw [hV]; exact (Below.refl _ _).alloc (Nat.le_refl _) _
  have hsz : g + 1 + 1 = W0.heap.size := by rw [hW0, hg]; simp
  have HR := Lib.hid (Read.masks ((h.below hb0).below hbV))
  have HO := Lib.hid (show V.ownsRow W0.heap.size 38 2 (.slice (some ⟨W0.heap.size, 0, none⟩) 0 0) 0 [] by rw [hV]; exact World.ownsRow_made (base := W0.heap.size) (size := 2) (e := 38) W0 #[] 0 (Nat.le_refl _) (Nat.zero_le _) rfl)
  obtain ⟨x, hx⟩ : ∃ x, M[P]? = some x := ⟨_, List.getElem?_eq_getElem hP⟩
  have hfx := h.fine x (List.mem_of_getElem? hx)
  rw [mgetD hx]
  have HWi := Lib.hid (fun (X : World) => MskL.rWith_any x s X hfx hs)
  have HFin := Lib.hid (MskL.withW_fine hfx hs)
  have HX := Lib.hid (fun (X : World) (hX : Below W0.heap.size W0 X) => show LBox X g A n c B m d ∧ LRow X (g + 1) none 0 0 none 0 0 from ⟨(hl0.below hX hl0.lt).box, hr0.below hX hr0.lt⟩)
  have HXx := Lib.hid hx
  have hfi := h.fine
  have HFi := Lib.hid hfi
  rw [← hm] at HR hP hMl ⊢
  generalize hY : withW x s = Y at *
  have HNx := Lib.hid (fun (A1 : Option Addr) (c1 : Nat) (w1 : World) (ho : w1.ownsRow W0.heap.size 38 2 (.slice A1 (0 + m) c1) (0 + m) ([] ++ flatM M)) (hg1 : V.grownBy w1 (blk (some ⟨W0.heap.size, 0, none⟩))) =>
    show ∃ gB, A1 = some ⟨gB, 0, none⟩ ∧ W0.heap.size ≤ gB ∧ w1.cell? ⟨gB, P * 2, none⟩ = some (.int .u64 x.1) ∧ w1.cell? ⟨gB, P * 2 + 1, none⟩ = some (.int .u64 x.2) ∧ w1.frozen? ⟨gB, P * 2, none⟩ = false ∧ w1.frozen? ⟨gB, P * 2 + 1, none⟩ = false ∧ Below W0.heap.size W0 w1 ∧ OwnM W0.heap.size w1 (some ⟨gB, 0, none⟩) c1 M from by
      rw [Nat.zero_add, List.nil_append] at ho
      have hB : Below W0.heap.size W0 w1 := hbV.grown hg1 hbV.size (fun k hk => Nat.le_of_eq (show W0.heap.size = k by simpa [blk] using hk))
      have hM : OwnM W0.heap.size w1 A1 c1 M := ⟨by rw [← hm]; exact ho, hfi⟩
      obtain ⟨gB, e1, h1, _, _, h2, h3, h4, h5⟩ := hM.at_ hx
      exact ⟨gB, e1, h1, h2, h3, h4, h5, hB, by rw [← e1]; exact hM⟩)
  have hbs := hbV.size
  rw [← hsz] at HO HNx hbs
  have HBs := Lib.hid hbs
  have HB0 := Lib.hid hb0
  have HW0 := Lib.hid hW0
  have HV := Lib.hid hV
  have HBV := Lib.hid hbV
  have HG := Lib.hid hg
  have HM := Lib.hid hm
  have HSz := Lib.hid hsz
  obtain ⟨x0, x1⟩ := hl0.box
  obtain ⟨v0, v1⟩ := (HX.out V hbV).1
  have P0 : (0 : Int) ≤ P := by omega
  have Pm : (P : Int) < m := by omega
  clear h hb0 hl0 hr0 hbV hx hfx hW0 hV hg hm hY hsz hfi hbs
  unfold lv mv at *
  go_enter Try.func15, Try.ntmps15
  go_wp2_with (first | (rw [← HW0.out, ← HG.out, ← HV.out]) | (at_builtin; refine gapp_at rfl (.tmp 8) (.tmp 10) appM rfl (g + 1 + 1) (some ⟨g + 1 + 1, 0, none⟩) 0 0 [] rfl HO.out B d m (flatM M) rfl HR.out (by omega) HBs.out ?_; intro A1 c1 w1 ho hg1 _; have HO1 := Lib.hid ho; have HB1 := Lib.hid (HNx.out A1 c1 w1 ho hg1); clear ho hg1; obtain ⟨gB, rfl, hgB, d0, d1, f0, f1, hbw, hom⟩ := HB1.out; have HBw := Lib.hid hbw; have HOm := Lib.hid hom; have HgB := Lib.hid hgB; clear hbw hgB hom))
  clear d0 d1 f0 f1
  refine (HWi.out w1).mono ?_
  rintro e w2 ⟨rfl, hb2⟩
  have hbw := HBw.out
  rw [HSz.out] at hbw
  have hb12 := hbw.trans (hb2.mono hbw.size)
  have hO2 := HOm.out.below hb2
  obtain ⟨gB', e1, _, _, _, d0, d1, f0, f1⟩ := hO2.at_ HXx.out
  injection e1 with e1
  injection e1 with e1
  subst e1
  have hgB := HgB.out
  obtain ⟨X, hX⟩ : ∃ X, X = (w2.setCell ⟨gB, P * 2, none⟩ (.int .u64 Y.1)).setCell ⟨gB, P * 2 + 1, none⟩ (.int .u64 Y.2) := ⟨_, rfl⟩
  have hO3 := hO2.put P Y (by rw [← HM.out]; exact hP) HFin.out
  obtain ⟨hl2, hr2⟩ := HX.out w2 hb12
  have hl3 : LBox X g A n c B m d := by rw [hX]; exact ⟨(World.cell?_of_block (a := ⟨g, 0, none⟩) (Below.heap_setCell _ _ _ _ (by show g ≠ gB; omega))).trans ((World.cell?_of_block (a := ⟨g, 0, none⟩) (Below.heap_setCell _ _ _ _ (by show g ≠ gB; omega))).trans hl2.c0), (World.cell?_of_block (a := ⟨g, 1, none⟩) (Below.heap_setCell _ _ _ _ (by show g ≠ gB; omega))).trans ((World.cell?_of_block (a := ⟨g, 1, none⟩) (Below.heap_setCell _ _ _ _ (by show g ≠ gB; omega))).trans hl2.c1)⟩
  have hr3 : LRow X (g + 1) none 0 0 none 0 0 := by rw [hX]; exact (hr2.other _ _ (by show g + 1 ≠ gB; omega)).other _ _ (by show g + 1 ≠ gB; omega)
  have hb3 : Below w.heap.size w X := by
    rw [hX]
    have h1 := HB0.out.trans (hb12.mono HB0.out.size)
    exact h1.trans ((set2_turn w2 gB (P * 2) (P * 2 + 1) _ _).below h1.size (fun i hi => by rw [hi, ← HG.out]; omega))
  rw [← hX] at hO3
  obtain ⟨⟨r0, r1, q0, q1⟩, u0, u1, hR⟩ := ret_low (w := w) (A := A) (n := n) (c := c) hr3 hb3 (by rw [HG.out]; omega) hO3 (fun i hi => by
    have : gB = i := by simpa [blk] using hi
    omega) (by rw [← HG.out]; omega) (m := m) (by rw [List.length_set, HM.out])
  have HRt := Lib.hid hR
  have HXe := Lib.hid hX
  have z0 := hl3.c0
  have z1 := hl3.c1
  clear hb2 hbw hb12 hO2 hgB hO3 hl2 hr2 hl3 hr3 hb3 hR hX x0 x1 v0 v1
  go_wp2_with (rw [← HXe.out])
  exact bodyPost_ret (v := .agg #[.slice A n c, .slice (some ⟨gB, 0, none⟩) m c1]) (by simp [results, Try.results15, go_sem, u0, u1]) rfl HRt.out
end Go.Proofs.Ytcekgllahlhaaaa

namespace Go.Proofs.Ytcekgllahlhaaaa
open Go.RowKit Go.Shelf
open MskL (Mk Ms mv has mk Fine MRow MBox rightM slotB hasB cnt has_mk mk_congr mk_fine ofM ofE withM withW GivesM GivesME chkM hasI)
set_option linter.unusedVariables false
set_option linter.unusedSimpArgs false
set_option maxRecDepth 100000

theorem below_tr {a b c : World} (h : Below a.heap.size a b) (k : Below b.heap.size b c) : Below a.heap.size a c := h.trans (k.mono h.size)
theorem OwnM.step {base : Nat} {w W : World} {A1 : Option Addr} {c1 n : Nat} {xs : List Mk} {y : Mk} (h : OwnM base w A1 c1 xs) (hn : n = xs.length) (hW : Below w.heap.size w W) (hB : base ≤ w.heap.size) (hy : Fine y) :
    Read (W.alloc (.cells #[.int .u64 y.1, .int .u64 y.2] 38)) (some ⟨W.heap.size, 0, none⟩) 1 2 [.int .u64 y.1, .int .u64 y.2] ∧ (W.alloc (.cells #[.int .u64 y.1, .int .u64 y.2] 38)).ownsRow base 38 2 (.slice A1 n c1) n (flatM xs) ∧ base ≤ (W.alloc (.cells #[.int .u64 y.1, .int .u64 y.2] 38)).heap.size ∧
      ∀ A2 c2 W', W'.ownsRow base 38 2 (.slice A2 (n + 1) c2) (n + 1) (flatM xs ++ [.int .u64 y.1, .int .u64 y.2]) → (W.alloc (.cells #[.int .u64 y.1, .int .u64 y.2] 38)).grownBy W' (blk A1) → OwnM base W' A2 c2 (xs ++ [y]) ∧ Below base w W' := by
  subst hn
  obtain ⟨V, hV⟩ : ∃ V, V = W.alloc (.cells #[.int .u64 y.1, .int .u64 y.2] 38) := ⟨_, rfl⟩
  rw [← hV]
  have hbV : Below W.heap.size W V := by rw [hV]; exact (Below.refl _ W).alloc (Nat.le_refl _) _
  have hb := hW.trans (hbV.mono hW.size)
  have hs1 := hW.size
  have hs2 := hbV.size
  have hr : MRow V W.heap.size y.1 y.2 := by rw [hV]; exact MRow.new W _ _
  refine ⟨⟨rfl, by simp; exact ⟨rfl, rfl⟩, fun e => (by cases e), fun b e j u hj => ?_⟩, (h.below hb).1, by omega, fun A2 c2 W' hr hg => ⟨⟨by rw [List.length_append, flatM_append]; exact hr, fun z hz => ?_⟩, ?_⟩⟩
  · injection e with e
    subst e
    rw [Addr.add_lit, Nat.zero_add]
    match j, hj with
    | 0, hj => simp at hj; rw [hr.cell0, hj]
    | 1, hj => simp at hj; rw [hr.cell1, hj]
    | j + 2, hj => simp at hj
  · rcases List.mem_append.1 hz with hz | hz
    · exact h.2 z hz
    · obtain rfl : z = y := by simpa using hz
      exact hy
  · exact (hb.mono hB).trans (grown_below hg (by omega) (fun i hi => (h.low i hi).1))

set_option maxHeartbeats 2000000 in
theorem rWithoutL_any (A : Option Addr) (c n : Nat) (B : Option Addr) (d : Nat) (M : List Mk) (s : Nat) (w : World) (h : Ms w B d M) (hs : s < 96) (hMl : M.length ≤ 1000000) :
    Calls Try.prog 17 #[lv A c n B d M.length, .int .i64 s] w (GivesW w A c n (M.map fun m => mk fun k => has m k && !decide (k = s))) := by
  obtain ⟨g, hg⟩ : ∃ g, g = w.heap.size := ⟨_, rfl⟩
  obtain ⟨m, hm⟩ : ∃ m, m = M.length := ⟨_, rfl⟩
  obtain ⟨W0, hW0⟩ : ∃ W0, W0 = (w.alloc (.cells #[.slice A n c, .slice B m d] 25)).alloc (.cells #[.slice none 0 0, .slice none 0 0] 25) := ⟨_, rfl⟩
  have hb0 : Below w.heap.size w W0 := by rw [hW0]; exact ((Below.refl _ w).alloc (Nat.le_refl _) _).alloc (by simp) _
  have hl0 : LRow W0 g A n c B m d := by rw [hW0, hg]; exact (LRow.new w A n c B m d).below ((Below.refl _ _).alloc (Nat.le_refl _) _) (by simp)
  have hr0 : LRow W0 (g + 1) none 0 0 none 0 0 := by
    rw [hW0, hg]; have := LRow.new (w.alloc (.cells #[.slice A n c, .slice B m d] 25)) none 0 0 none 0 0
    rwa [World.size_alloc] at this
  have hsz : W0.heap.size = g + 2 := by rw [hW0, hg]; simp
  have hmd : m ≤ d := by rw [hm]; exact h.room
  obtain ⟨F, hF⟩ : ∃ F : Mk → Mk, F = fun m => mk fun k => has m k && !decide (k = s) := ⟨_, rfl⟩
  have HX := Lib.hid (fun (X : World) (hX : Below W0.heap.size W0 X) => show LBox X g A n c B m d ∧ LRow X (g + 1) none 0 0 none 0 0 from ⟨(hl0.below hX hl0.lt).box, hr0.below hX hr0.lt⟩)
  have HMs := Lib.hid (fun (X : World) (hX : Below W0.heap.size W0 X) => (h.below hb0).below hX)
  have HWo := Lib.hid (fun (m : Mk) (hm : Fine m) (X : World) => show Calls Try.prog 41 #[mv m, .int .i64 s] X (fun e w' => e = .returned (mv (F m)) ∧ Below X.heap.size X w') from by rw [hF]; exact MskL.rWithout_any m s X hm hs)
  have HFf := Lib.hid (fun (m : Mk) => show Fine (F m) from by rw [hF]; exact mk_fine _)
  rw [← hF]
  rw [← hm] at hMl ⊢
  have H0 := Lib.hid (show OwnM W0.heap.size W0 none 0 ((M.take 0).map F) ∧ Below W0.heap.size W0 W0 from ⟨OwnM.nil _ _, Below.refl _ _⟩)
  have HSt := Lib.hid (fun (k : Nat) (x : Mk) (hx : M[k]? = some x) => show (M.take (k + 1)).map F = (M.take k).map F ++ [F x] from by rw [List.take_add_one, hx, List.map_append]; rfl)
  have HLn := Lib.hid (fun (k : Nat) (hk : k ≤ m) => show k = ((M.take k).map F).length from by rw [List.length_map, List.length_take]; omega)
  have HB0 := Lib.hid hb0
  have HW0 := Lib.hid hW0
  have HG := Lib.hid hg
  have HM := Lib.hid hm
  have HSz := Lib.hid hsz
  obtain ⟨x0, x1⟩ := hl0.box
  clear h hb0 hl0 hr0 hW0 hg hm hF hsz hs
  unfold lv mv at *
  go_enter Try.func17, Try.ntmps17
  go_wp2_with (rw [← HW0.out, ← HG.out])
  clear x0 x1
  go_loopw [5, 6] (fun s i wr => ∃ k A1 c1, k ≤ m ∧ i = .int .i64 (k : Nat) ∧ s = .slice A1 k c1 ∧ Hid (OwnM W0.heap.size wr A1 c1 ((M.take k).map F) ∧ Below W0.heap.size W0 wr)) (fun _ i _ => m - (intOf i).toNat)
  case atStart => exact ⟨0, none, 0, Nat.zero_le _, rfl, rfl, H0⟩
  case round =>
    obtain ⟨k, A1, c1, hk, rfl, rfl, HI⟩ := hrel
    obtain ⟨x0, x1⟩ := (HX.out wr HI.out.2).1
    by_cases hkm : k < m
    · obtain ⟨b, o, x, y, rfl, hb, hx, hx1, hx2, d0, d1⟩ := (HMs.out wr HI.out.2).at_ (k := k) (by rw [← HM.out]; exact hkm)
      have k0 : (0 : Int) ≤ k := by omega
      have km : (k : Int) < m := by omega
      have hdm : (d : Int) ≤ 9223372036854775807 := by have := (HMs.out wr HI.out.2).most; omega
      have HC := Lib.hid (HWo.out (x, y) ⟨hx1, hx2⟩ wr)
      have HS := Lib.hid (HSt.out k _ hx)
      have HFy := Lib.hid (HFf.out (x, y))
      generalize F (x, y) = Y at *
      dsimp only at HC
      clear hx hx1 hx2 hb
      go_wp2_with fail
      refine HC.out.mono ?_
      rintro e w2 ⟨rfl, hb2⟩
      obtain ⟨r1, r2, r3, r4⟩ := HI.out.1.step (HLn.out k hk) hb2 HI.out.2.size HFy.out
      have HR := Lib.hid r1
      have HO := Lib.hid r2
      have H4 := Lib.hid r4
      clear hb2 r1 r2 r4 x0 x1 d0 d1
      go_wp2_with (at_builtin; refine gapp_at rfl (.tmp 14) (.tmp 22) appM rfl W0.heap.size A1 c1 k (flatM ((M.take k).map F)) rfl HO.out (some ⟨w2.heap.size, 0, none⟩) 1 1 [.int .u64 Y.1, .int .u64 Y.2] rfl HR.out (by omega) r3 ?_; intro A5 c5 w4 ho hg _; have HN4 := Lib.hid (H4.out A5 c5 w4 ho hg); clear ho hg)
      go_roundw
      case rel => exact ⟨k + 1, A5, c5, by omega, by go_num, rfl, Lib.hid ⟨by rw [HS.out]; exact HN4.out.1, HI.out.2.trans HN4.out.2⟩⟩
      case measure => simp [intOf]; omega
    · obtain rfl : k = m := by omega
      have hom := HI.out.1
      rw [HM.out, List.take_length] at hom
      obtain ⟨⟨r0, r1, q0, q1⟩, u0, u1, hR⟩ := ret_low (w := w) (A := A) (n := n) (c := c) (m := k) (HX.out wr HI.out.2).2 (HB0.out.trans (HI.out.2.mono HB0.out.size)) (by rw [HG.out]; omega) hom (fun i hi => by have := (hom.low i hi).1; have := HSz.out; omega) HB0.out.size (by rw [List.length_map, HM.out])
      have HRt := Lib.hid hR
      clear hom hR
      go_wp2
      exact bodyPost_ret (v := .agg #[.slice A n c, .slice A1 k c1]) (by simp [results, Try.results17, go_sem, u0, u1]) rfl HRt.out

/-! ### Same -/
set_option maxHeartbeats 4000000 in
theorem rSameL_any (A A' : Option Addr) (c c' : Nat) (C C' : List (List Int)) (B B' : Option Addr) (d d' : Nat) (M M' : List Mk) (w : World) (h : Lis w A c C B d M) (h' : Lis w A' c' C' B' d' M') :
    Calls Try.prog 11 #[lv A c C.length B d M.length, lv A' c' C'.length B' d' M'.length] w fun e w' => e = .returned (.bool (decide (C = C') && decide (M = M'))) ∧ Below w.heap.size w w' := by
  obtain ⟨g, hg⟩ : ∃ g, g = w.heap.size := ⟨_, rfl⟩
  obtain ⟨n, hn⟩ : ∃ n, n = C.length := ⟨_, rfl⟩
  obtain ⟨m, hm⟩ : ∃ m, m = M.length := ⟨_, rfl⟩
  obtain ⟨n', hn'⟩ : ∃ n', n' = C'.length := ⟨_, rfl⟩
  obtain ⟨m', hm'⟩ : ∃ m', m' = M'.length := ⟨_, rfl⟩
  obtain ⟨W0, hW0⟩ : ∃ W0, W0 = (w.alloc (.cells #[.slice A n c, .slice B m d] 25)).alloc (.cells #[.slice A' n' c', .slice B' m' d'] 25) := ⟨_, rfl⟩
  have hb0 : Below w.heap.size w W0 := by rw [hW0]; exact ((Below.refl _ w).alloc (Nat.le_refl _) _).alloc (by simp) _
  have hl0 : LRow W0 g A n c B m d := by rw [hW0, hg]; exact (LRow.new w A n c B m d).below ((Below.refl _ _).alloc (Nat.le_refl _) _) (by simp)
  have hr0 : LRow W0 (g + 1) A' n' c' B' m' d' := by
    rw [hW0, hg]; have := LRow.new (w.alloc (.cells #[.slice A n c, .slice B m d] 25)) A' n' c' B' m' d'
    rwa [World.size_alloc] at this
  obtain ⟨R, hR⟩ : ∃ R, R = (decide (C = C') && decide (M = M')) := ⟨_, rfl⟩
  have HX := Lib.hid (fun (X : World) (hX : Below W0.heap.size W0 X) => show LBox X g A n c B m d ∧ LBox X (g + 1) A' n' c' B' m' d' from ⟨(hl0.below hX hl0.lt).box, (hr0.below hX hr0.lt).box⟩)
  have HLi := Lib.hid (fun (X : World) (hX : Below W0.heap.size W0 X) => And.intro ((h.below hb0).below hX) ((h'.below hb0).below hX))
  have hnm : n ≤ 9223372036854775807 := by rw [hn]; exact Nat.le_trans h.cs.room h.cs.most
  have hmm : m ≤ 9223372036854775807 := by rw [hm]; exact Nat.le_trans h.ms.room h.ms.most
  have hcd : n ≤ c ∧ m ≤ d ∧ n' ≤ c' ∧ m' ≤ d' := by rw [hn, hm, hn', hm']; exact ⟨h.cs.room, h.ms.room, h'.cs.room, h'.ms.room⟩
  obtain ⟨hc1, hc2, hc3, hc4⟩ := hcd
  have HB0 := Lib.hid hb0
  have HW0 := Lib.hid hW0
  have HG := Lib.hid hg
  have HN := Lib.hid hn
  have HM := Lib.hid hm
  have HN' := Lib.hid hn'
  have HM' := Lib.hid hm'
  have HR := Lib.hid hR
  rw [← hR, ← hn, ← hm, ← hn', ← hm']
  obtain ⟨x0, x1⟩ := hl0.box
  obtain ⟨x2, x3⟩ := hr0.box
  clear h h' hb0 hl0 hr0 hW0 hg hn hm hn' hm' hR
  unfold lv
  by_cases hl1 : n = n'
  · by_cases hl2 : m = m'
    · subst hl1 hl2
      go_enter Try.func11, Try.ntmps11
      go_wp2_with (rw [← HW0.out, ← HG.out])
      clear x0 x1 x2 x3
      go_loopw [5] (fun i wr => ∃ k : Nat, k ≤ n ∧ i = .int .i64 k ∧ Hid (C.take k = C'.take k) ∧ Hid (Below W0.heap.size W0 wr)) (fun i _ => n - (intOf i).toNat)
      case atStart => exact ⟨0, Nat.zero_le _, rfl, Lib.hid rfl, Lib.hid (Below.refl _ _)⟩
      case round =>
        obtain ⟨k, hk, rfl, HK, HW⟩ := hrel
        obtain ⟨⟨x0, x1⟩, ⟨x2, x3⟩⟩ := HX.out wr HW.out
        by_cases hkm : k < n
        · obtain ⟨b1, o1, x, B1, cb1, rfl, hp, hb1, c0, hv⟩ := (HLi.out wr HW.out).1.cs.at_ (i := k) (by rw [← HN.out]; exact hkm)
          obtain ⟨b2, o2, x', B2, cb2, rfl, hp', hb2, d0, hv'⟩ := (HLi.out wr HW.out).2.cs.at_ (i := k) (by rw [← HN'.out]; exact hkm)
          have k0 : (0 : Int) ≤ k := by omega
          have km : (k : Int) < n := by omega
          have HP := Lib.hid hp
          have HP' := Lib.hid hp'
          have HBd := Lib.hid (show Below wr.heap.size wr wr.drew from below_drew (Below.refl _ _))
          have HC := Lib.hid (rSame_any B1 B2 cb1 cb2 x x' wr.drew (hv.below HBd.out) (hv'.below HBd.out))
          have HWd := Lib.hid (show Below W0.heap.size W0 wr.drew from below_drew HW.out)
          obtain ⟨xl, hxl⟩ : ∃ xl, xl = x.length := ⟨_, rfl⟩
          obtain ⟨yl, hyl⟩ : ∃ yl, yl = x'.length := ⟨_, rfl⟩
          rw [← hxl] at HC c0
          rw [← hyl] at HC d0
          have HSx := Lib.hid (fun (X : World) (hX : Below wr.heap.size wr X) => show (X.cell? ⟨g, 0, none⟩ = some (.slice (some ⟨b1, o1, none⟩) n c) ∧ X.cell? ⟨g + 1, 0, none⟩ = some (.slice (some ⟨b2, o2, none⟩) n c')) ∧ (X.cell? ⟨b1, o1 + k, none⟩ = some (.slice B1 xl cb1) ∧ X.cell? ⟨b2, o2 + k, none⟩ = some (.slice B2 yl cb2)) from
            ⟨⟨(HX.out X (HW.out.trans (hX.mono HW.out.size))).1.c0, (HX.out X (HW.out.trans (hX.mono HW.out.size))).2.c0⟩, ⟨(hX.cell (p := ⟨b1, o1 + k, none⟩) hb1).trans c0, (hX.cell (p := ⟨b2, o2 + k, none⟩) hb2).trans d0⟩⟩)
          clear hv hv' hp hp' hb1 hb2 hxl hyl
          by_cases he : x = x'
          · have HS := Lib.hid (take_eq_step HK.out HP.out HP'.out he)
            rw [decide_eq_true he] at HC
            clear he
            go_upto_region 6 with fail
            go_region_held3 (fun X => (X.cell? ⟨g, 0, none⟩ = some (.slice (some ⟨b1, o1, none⟩) n c) ∧ X.cell? ⟨g + 1, 0, none⟩ = some (.slice (some ⟨b2, o2, none⟩) n c')) ∧ (X.cell? ⟨b1, o1 + k, none⟩ = some (.slice B1 xl cb1) ∧ X.cell? ⟨b2, o2 + k, none⟩ = some (.slice B2 yl cb2)))
              (first | (with_reducible exact ⟨⟨x0, x2⟩, ⟨c0, d0⟩⟩) | (with_reducible exact HSx.out _ (below_drew (Below.refl _ _))) | (with_reducible exact HSx.out _ HB6r.out)) (first
              | (go_at_call 38; (with_reducible refine HC.out.mono ?_); rintro e w6 ⟨rfl, hb6⟩; have HB6r := Lib.hid (below_tr HBd.out hb6); have HB6 := Lib.hid (below_tr HWd.out hb6); clear hb6))
            all_goals (
              clear x0 x1 x2 x3 c0 d0
              go_wp2
              go_roundw
              case rel => exact ⟨k + 1, by omega, by go_num, HS, HB6⟩
              case measure => simp [intOf]; omega)
          · have HF := Lib.hid (show R = false by
              rw [HR.out, decide_eq_false (fun e => he (by have h1 := HP.out; rw [e, HP'.out] at h1; exact (Option.some.inj h1).symm))]; rfl)
            rw [decide_eq_false he] at HC
            clear he
            go_upto_region 6 with fail
            go_region_held3 (fun X => (X.cell? ⟨g, 0, none⟩ = some (.slice (some ⟨b1, o1, none⟩) n c) ∧ X.cell? ⟨g + 1, 0, none⟩ = some (.slice (some ⟨b2, o2, none⟩) n c')) ∧ (X.cell? ⟨b1, o1 + k, none⟩ = some (.slice B1 xl cb1) ∧ X.cell? ⟨b2, o2 + k, none⟩ = some (.slice B2 yl cb2)))
              (first | (with_reducible exact ⟨⟨x0, x2⟩, ⟨c0, d0⟩⟩) | (with_reducible exact HSx.out _ (below_drew (Below.refl _ _))) | (with_reducible exact HSx.out _ HB6r.out)) (first
              | (go_at_call 38; (with_reducible refine HC.out.mono ?_); rintro e w6 ⟨rfl, hb6⟩; have HB6r := Lib.hid (below_tr HBd.out hb6); have HB6 := Lib.hid (HB0.out.trans ((below_tr HWd.out hb6).mono HB0.out.size)); clear hb6))
            all_goals (
              clear x0 x1 x2 x3 c0 d0
              go_wp2
              go_ret
              rw [HF.out]
              exact ⟨rfl, HB6.out⟩)
        · obtain rfl : k = n := by omega
          have HCe := Lib.hid (show C = C' by
            have := HK.out
            rw [HN.out, List.take_length, ← HN.out, HN'.out, List.take_length] at this
            exact this)
          have HR2 := Lib.hid (show R = decide (M = M') by rw [HR.out, decide_eq_true HCe.out]; rfl)
          go_wp2
          clear x0 x1 x2 x3
          go_loopw [6] (fun i wt => ∃ k : Nat, k ≤ m ∧ i = .int .i64 k ∧ Hid (M.take k = M'.take k) ∧ Hid (Below W0.heap.size W0 wt)) (fun i _ => m - (intOf i).toNat)
          case atStart => exact ⟨0, Nat.zero_le _, rfl, Lib.hid rfl, HW⟩
          case round =>
            obtain ⟨t, ht, rfl, HKm, HWm⟩ := hrel
            obtain ⟨⟨x0, x1⟩, ⟨x2, x3⟩⟩ := HX.out wr HWm.out
            by_cases htm : t < m
            · obtain ⟨b1, o1, x, y, rfl, hb1, hp, hx1, hx2, c0, c1⟩ := (HLi.out wr HWm.out).1.ms.at_ (k := t) (by rw [← HM.out]; exact htm)
              obtain ⟨b2, o2, x', y', rfl, hb2, hp', hy1, hy2, d0, d1⟩ := (HLi.out wr HWm.out).2.ms.at_ (k := t) (by rw [← HM'.out]; exact htm)
              have k0 : (0 : Int) ≤ t := by omega
              have km : (t : Int) < m := by omega
              have HP := Lib.hid hp
              have HP' := Lib.hid hp'
              have HC := Lib.hid (fun (X : World) (hX : Below wr.heap.size wr X) => show ((X.cell? ⟨b1, o1 + t * 2, none⟩ = some (.int .u64 x) ∧ X.cell? ⟨b1, o1 + t * 2 + 1, none⟩ = some (.int .u64 y)) ∧ (X.cell? ⟨b2, o2 + t * 2, none⟩ = some (.int .u64 x') ∧ X.cell? ⟨b2, o2 + t * 2 + 1, none⟩ = some (.int .u64 y'))) ∧ (X.cell? ⟨g, 1, none⟩ = some (.slice (some ⟨b1, o1, none⟩) m d) ∧ X.cell? ⟨g + 1, 1, none⟩ = some (.slice (some ⟨b2, o2, none⟩) m d')) from
                ⟨⟨⟨(hX.cell (p := ⟨b1, o1 + t * 2, none⟩) hb1).trans c0, (hX.cell (p := ⟨b1, o1 + t * 2 + 1, none⟩) hb1).trans c1⟩, ⟨(hX.cell (p := ⟨b2, o2 + t * 2, none⟩) hb2).trans d0, (hX.cell (p := ⟨b2, o2 + t * 2 + 1, none⟩) hb2).trans d1⟩⟩, ⟨(HX.out X (HWm.out.trans (hX.mono HWm.out.size))).1.c1, (HX.out X (HWm.out.trans (hX.mono HWm.out.size))).2.c1⟩⟩)
              clear hp hp' hb1 hb2 hx1 hx2 hy1 hy2 c0 c1 d0 d1
              obtain ⟨P, hP⟩ : ∃ P, P = decide (((x, y) : Mk) = (x', y')) := ⟨_, rfl⟩
              have HPe := Lib.hid hP
              clear hP
              go_upto_region 11 with fail
              refine MskL.region_quiet (fun X => Below wr.heap.size wr X) (by kernel_rfl) (by kernel_rfl) (below_drew (Below.refl _ _)) ?_
              repeat (first | go_big_quiet_skip | (go_big_quiet_want; go_big_quiet_op; first | go_big_quiet_on | (refine ⟨_, fun _ _ => rfl, ?_⟩; go_big_quiet_on) | (apply Exists.intro; refine ⟨fun W hW => ?_, ?_⟩; (focus (obtain ⟨⟨⟨z0, z1⟩, ⟨z2, z3⟩⟩, ⟨z4, z5⟩⟩ := HC.out W hW; simp only [Result.andThen, z0, z1, z2, z3, z4, z5]; exact ⟨trivial, rfl⟩)); go_big_quiet_on)))
              go_big_quiet_want; go_big_quiet_op
              refine ⟨.bool (!P), fun W hW => ?_, ?_⟩
              · have := MskL.eqM (x, y) (x', y') W
                dsimp only at this
                rw [this, HPe.out]
                exact ⟨rfl, rfl⟩
              go_big_quiet_on
              refine wpQuiet_nil ?_
              intro w3 hq
              have HW3 := Lib.hid (HWm.out.trans (hq.mono HWm.out.size))
              clear hq x0 x1 x2 x3
              cases hPb : P with
              | true =>
                have HS := Lib.hid (take_eq_step HKm.out HP.out HP'.out (of_decide_eq_true (by rw [← HPe.out, hPb])))
                subst hPb
                go_wp2
                go_roundw
                case rel => exact ⟨t + 1, by omega, by go_num, HS, HW3⟩
                case measure => simp [intOf]; omega
              | false =>
                have HF := Lib.hid (show R = false by
                  rw [HR2.out]
                  refine decide_eq_false (fun e => ?_)
                  have h1 := HP.out
                  rw [e, HP'.out] at h1
                  have h2 : decide (((x, y) : Mk) = (x', y')) = true := decide_eq_true (Option.some.inj h1).symm
                  rw [← HPe.out, hPb] at h2
                  cases h2)
                have HW4 := Lib.hid (HB0.out.trans (HW3.out.mono HB0.out.size))
                subst hPb
                go_wp2
                go_ret
                rw [HF.out]
                exact ⟨rfl, HW4.out⟩
            · obtain rfl : t = m := by omega
              have HT := Lib.hid (show R = true by
                rw [HR2.out]
                refine decide_eq_true ?_
                have := HKm.out
                rw [HM.out, List.take_length, ← HM.out, HM'.out, List.take_length] at this
                exact this)
              have HW4 := Lib.hid (HB0.out.trans (HWm.out.mono HB0.out.size))
              go_wp2
              go_ret
              rw [HT.out]
              exact ⟨rfl, HW4.out⟩
    · have HF := Lib.hid (show R = false by rw [HR.out, decide_eq_false (fun e : M = M' => hl2 (by rw [HM.out, HM'.out, e]))]; simp)
      have t1 : ((m : Int) == (m' : Int)) = false := by simp; omega
      have t2 : ((m : Int) != (m' : Int)) = true := by simp; omega
      have t3 : (m == m') = false := by simpa using hl2
      subst hl1
      clear hl2
      go_enter Try.func11, Try.ntmps11
      go_wp2_with (rw [← HW0.out, ← HG.out])
      go_ret
      rw [HF.out]
      exact ⟨rfl, HB0.out⟩
  · have HF := Lib.hid (show R = false by rw [HR.out, decide_eq_false (fun e : C = C' => hl1 (by rw [HN.out, HN'.out, e]))]; rfl)
    have t1 : ((n : Int) == (n' : Int)) = false := by simp; omega
    have t2 : ((n : Int) != (n' : Int)) = true := by simp; omega
    have t3 : (n == n') = false := by simpa using hl1
    clear hl1
    go_enter Try.func11, Try.ntmps11
    go_wp2_with (rw [← HW0.out, ← HG.out])
    go_ret
    rw [HF.out]
    exact ⟨rfl, HB0.out⟩
end Go.Proofs.Ytcekgllahlhaaaa

namespace Go.Proofs.Ytcekgllahlhaaaa
open Go.RowKit Go.Shelf
open MskL (Mk Ms mv has mk Fine MRow MBox rightM slotB hasB cnt has_mk mk_congr mk_fine ofM ofE withM withW GivesM GivesME chkM hasI region_rel3 relOf Rk fillR dep_of)
set_option linter.unusedVariables false
set_option linter.unusedSimpArgs false
set_option maxRecDepth 100000

def masksTo (C : List (List Int)) (l : List Ce) (k : Nat) : List Mk := (List.range C.length).map fun p => mk fun j => decide (j < k) && inP C l p j
theorem masksTo_len (C : List (List Int)) (l : List Ce) (k : Nat) : (masksTo C l k).length = C.length := by simp [masksTo]
theorem masksTo_get (C : List (List Int)) (l : List Ce) (k : Nat) {p : Nat} (hp : p < C.length) : (masksTo C l k)[p]? = some (mk fun j => decide (j < k) && inP C l p j) := by unfold masksTo; simp [hp]
theorem masksTo_zero (C : List (List Int)) (l : List Ce) : masksTo C l 0 = List.replicate C.length mz := by
  refine List.ext_getElem? (fun p => ?_)
  by_cases hp : p < C.length
  · rw [masksTo_get C l 0 hp, MskL.mk_none _ (by simp)]; simp [hp, mz]
  · rw [List.getElem?_eq_none (by rw [masksTo_len]; omega), List.getElem?_eq_none (by simp; omega)]
theorem masksTo_end (C : List (List Int)) (l : List Ce) : masksTo C l 96 = masksOf C l := by
  unfold masksTo masksOf maskOf
  refine List.map_congr_left (fun p _ => mk_congr (fun j hj => by simp [hj]))
theorem masksTo_no {C : List (List Int)} {l : List Ce} {k : Nat} (h : (ceAt l k).u = false) : masksTo C l (k + 1) = masksTo C l k := by
  unfold masksTo
  refine List.map_congr_left (fun p _ => mk_congr (fun j hj => ?_))
  by_cases e : j = k
  · subst e; simp [inP, h]
  · have : j < k + 1 ↔ j < k := by omega
    simp [this]
theorem masksTo_yes {C : List (List Int)} {l : List Ce} {k P : Nat} (h : (ceAt l k).u = true) (hP : nearM C (ceAt l k).x = P) (hPc : P < C.length) (hk : k < 96) : masksTo C l (k + 1) = (masksTo C l k).set P (withW ((masksTo C l k).getD P mz) k) := by
  refine List.ext_getElem? (fun p => ?_)
  by_cases hp : p < C.length
  · rw [masksTo_get C l (k + 1) hp, List.getElem?_set, masksTo_len, mgetD (masksTo_get C l k hPc), MskL.withW_mk _ hk]
    by_cases e : P = p
    · subst e
      rw [if_pos rfl, if_pos hp]
      congr 1
      refine mk_congr (fun j hj => ?_)
      by_cases e2 : j = k
      · subst e2; simp [inP, h, hP]
      · have : j < k + 1 ↔ j < k := by omega
        simp [this, e2]
    · rw [if_neg e, masksTo_get C l k hp]
      congr 1
      refine mk_congr (fun j hj => ?_)
      by_cases e2 : j = k
      · subst e2; simp [inP, h, hP, e]
      · have : j < k + 1 ↔ j < k := by omega
        simp [this]
  · rw [List.getElem?_eq_none (by rw [masksTo_len]; omega), List.getElem?_eq_none (by rw [List.length_set, masksTo_len]; omega)]
def fitsB (C : List (List Int)) (l : List Ce) : Bool := decide (C.length = 0) || l.all (fitsE C)
theorem nil_masks {C : List (List Int)} (l : List Ce) (k : Nat) (h : C.length = 0) : masksTo C l k = [] := by unfold masksTo; rw [h]; rfl
theorem madeM_own (n : Nat) (h : n ≤ 1000) (W : World) : OwnM W.heap.size (W.alloc (.cells (madeCells #[.int .u64 0, .int .u64 0] (n * 2)) 38)) (some ⟨W.heap.size, 0, none⟩) n (List.replicate n mz) := by
  refine ⟨⟨flatM_length _, .inr ⟨W.heap.size, n, madeCells #[.int .u64 0, .int .u64 0] (n * 2), by simp, Nat.le_refl _, heap_alloc_new W _, by simp, by unfold maxLen; omega, by rw [size_madeCells], ?_⟩⟩, fun m hm => by rw [List.eq_of_mem_replicate hm]; exact ⟨by decide, by decide⟩⟩
  rw [List.length_replicate]
  have hr : ∀ i, i < n * 2 → (Array.range (n * 2))[i]? = some i := fun i hi => Array.getElem?_eq_some_iff.2 ⟨by simpa using hi, by simp⟩
  have hf : ∀ n, flatM (List.replicate n mz) = List.replicate (n * 2) (.int .u64 0) := by
    intro n
    induction n with
    | zero => rfl
    | succ n ih => rw [List.replicate_succ, flatM_cons, ih, show (n + 1) * 2 = n * 2 + 1 + 1 by omega, List.replicate_succ, List.replicate_succ]; rfl
  have ht : (madeCells (#[.int .u64 0, .int .u64 0] : Array Value) (n * 2)).toList = List.replicate (n * 2) (.int .u64 0) := by
    refine List.ext_getElem? (fun j => ?_)
    rw [Array.getElem?_toList]
    unfold madeCells
    rw [Array.getElem?_map]
    by_cases hj : j < n * 2
    · rw [hr j hj]
      have h2 : j % 2 = 0 ∨ j % 2 = 1 := by omega
      rcases h2 with h2 | h2 <;> simp [hj, h2]
    · simp [hj]
  rw [hf, ht]
  simp
end Go.Proofs.Ytcekgllahlhaaaa

namespace Go.Proofs.Ytcekgllahlhaaaa
open Go.RowKit Go.Shelf
open MskL (Mk Ms mv has mk Fine MRow MBox rightM slotB hasB cnt has_mk mk_congr mk_fine ofM ofE withM withW GivesM GivesME chkM hasI region_rel3 relOf Rk fillR dep_of)
set_option linter.unusedVariables false
set_option linter.unusedSimpArgs false
set_option maxRecDepth 100000

def GivesB (w : World) (Ac : Option Addr) (cc n : Nat) (C : List (List Int)) (l : List Ce) (e : Ending) (w' : World) : Prop := Below w.heap.size w w' ∧
  ((fitsB C l = true ∧ ∃ B d, e = .returned (.tuple #[lv Ac cc n B d n, .bool true]) ∧ Ms w' B d (masksOf C l)) ∨ (fitsB C l = false ∧ e = .returned (.tuple #[lv none 0 0 none 0 0, .bool false])))
/-- The boxes of Build. -/
theorem bbox {w W0 : World} {g0 : Nat} {A : Option Addr} {c : Nat} (hg0 : g0 = w.heap.size) (hW0 : W0 = (w.alloc (.cells #[.slice A 96 c] 55)).alloc (.cells #[.slice none 0 0, .slice none 0 0] 25)) :
    Below w.heap.size w W0 ∧ W0.heap.size = g0 + 2 ∧ ∀ X, Below W0.heap.size W0 X → X.cell? ⟨g0, 0, none⟩ = some (.slice A 96 c) ∧ LRow X (g0 + 1) none 0 0 none 0 0 := by
  have h1 : (w.alloc (.cells #[.slice A 96 c] 55)).cell? ⟨g0, 0, none⟩ = some (.slice A 96 c) := by rw [hg0]; exact cell_laid _ _ _ 0
  have hx0 : W0.cell? ⟨g0, 0, none⟩ = some (.slice A 96 c) := by
    rw [hW0]
    exact (((Below.refl _ _).alloc (Nat.le_refl _) _).cell (p := ⟨g0, 0, none⟩) (World.block_lt_of_cell? _ _ h1)).trans h1
  have hr0 : LRow W0 (g0 + 1) none 0 0 none 0 0 := by
    rw [hW0, hg0]; have := LRow.new (w.alloc (.cells #[.slice A 96 c] 55)) none 0 0 none 0 0
    rwa [World.size_alloc] at this
  refine ⟨by rw [hW0]; exact ((Below.refl _ w).alloc (Nat.le_refl _) _).alloc (by simp) _, by rw [hW0, hg0]; simp, fun X hX => ⟨(hX.cell (p := ⟨g0, 0, none⟩) (World.block_lt_of_cell? _ _ hx0)).trans hx0, hr0.below hX hr0.lt⟩⟩
/-- The answer is laid into its block. -/
theorem ret_built {w X : World} {g base n c d c' d' n' m' : Nat} {A B A' B' : Option Addr} {C : List (List Int)} {l : List Ce} (h : LRow X g A' n' c' B' m' d') (hb : Below w.heap.size w X) (hg : w.heap.size ≤ g) (hm : OwnM base X B d (masksOf C l)) (hgb : g < base) (hf : fitsB C l = true) :
    (X.cell? ⟨g, 0, none⟩ = some (.slice A' n' c') ∧ X.cell? ⟨g, 1, none⟩ = some (.slice B' m' d') ∧ X.frozen? ⟨g, 0, none⟩ = false ∧ X.frozen? ⟨g, 1, none⟩ = false) ∧
    ((X.setCell ⟨g, 0, none⟩ (.slice A n c)).setCell ⟨g, 1, none⟩ (.slice B n d)).cell? ⟨g, 0, none⟩ = some (.slice A n c) ∧ ((X.setCell ⟨g, 0, none⟩ (.slice A n c)).setCell ⟨g, 1, none⟩ (.slice B n d)).cell? ⟨g, 1, none⟩ = some (.slice B n d) ∧
    GivesB w A c n C l (.returned (.tuple #[.agg #[.slice A n c, .slice B n d], .bool true])) ((X.setCell ⟨g, 0, none⟩ (.slice A n c)).setCell ⟨g, 1, none⟩ (.slice B n d)) := by
  have h2 := (h.set0 A n c).set1 B n d
  have ts := (turn_set X g 0 (.slice A n c)).trans (turn_set (X.setCell ⟨g, 0, none⟩ (.slice A n c)) g 1 (.slice B n d)) (fun i hi => .inl hi)
  exact ⟨⟨h.box.c0, h.box.c1, h.frozen 0, h.frozen 1⟩, h2.box.c0, h2.box.c1, hb.trans (ts.below hb.size (fun i hi => by omega)), .inl ⟨hf, B, d, rfl, (hm.turn ts (fun i hi e => by have := (hm.low i hi).1; omega)).ms⟩⟩
theorem ret_unbuilt {w X : World} {g cc n c' d' n' m' : Nat} {Ac A' B' : Option Addr} {C : List (List Int)} {l : List Ce} (h : LRow X g A' n' c' B' m' d') (hb : Below w.heap.size w X) (hg : w.heap.size ≤ g) (hf : fitsB C l = false) :
    (X.cell? ⟨g, 0, none⟩ = some (.slice A' n' c') ∧ X.cell? ⟨g, 1, none⟩ = some (.slice B' m' d') ∧ X.frozen? ⟨g, 0, none⟩ = false ∧ X.frozen? ⟨g, 1, none⟩ = false) ∧
    ((X.setCell ⟨g, 0, none⟩ (.slice none 0 0)).setCell ⟨g, 1, none⟩ (.slice none 0 0)).cell? ⟨g, 0, none⟩ = some (.slice none 0 0) ∧ ((X.setCell ⟨g, 0, none⟩ (.slice none 0 0)).setCell ⟨g, 1, none⟩ (.slice none 0 0)).cell? ⟨g, 1, none⟩ = some (.slice none 0 0) ∧
    GivesB w Ac cc n C l (.returned (.tuple #[.agg #[.slice none 0 0, .slice none 0 0], .bool false])) ((X.setCell ⟨g, 0, none⟩ (.slice none 0 0)).setCell ⟨g, 1, none⟩ (.slice none 0 0)) := by
  have h2 := (h.set0 none 0 0).set1 none 0 0
  have ts := (turn_set X g 0 (.slice none 0 0)).trans (turn_set (X.setCell ⟨g, 0, none⟩ (.slice none 0 0)) g 1 (.slice none 0 0)) (fun i hi => .inl hi)
  exact ⟨⟨h.box.c0, h.box.c1, h.frozen 0, h.frozen 1⟩, h2.box.c0, h2.box.c1, hb.trans (ts.below hb.size (fun i hi => by omega)), .inr ⟨hf, rfl⟩⟩

/-- What lies while cells are gone through: out in the block g2. -/
def BuI (W0 : World) (g2 : Nat) (Ac : Option Addr) (n cc : Nat) (M : List Mk) (wr : World) : Prop := ∃ B d, LRow wr g2 Ac n cc B n d ∧ OwnM W0.heap.size wr B d M ∧ Below W0.heap.size W0 wr

end Go.Proofs.Ytcekgllahlhaaaa
