/-
  Proved: the law WalCuts, a file that is cut anywhere says just the records that are whole, returns true for every row of records and every place, and leaves all memory as it was. No condition.
-/
import Derived.Test.YtienabfilnpieaaWalCutI
import Derived.Test.YtienabfilnpieaaLawFrame
import Derived.Deep.Matrix
import Derived.Deep.Cut
import Derived.Deep.CutRange
namespace Go.Proofs.Ytienabfilnpieaa.walCuts
open Go.ChangeShapes Go.WideShapes Go.ChangeAt Go.RowKit Go.Deep
set_option linter.unusedVariables false
set_option maxRecDepth 100000

theorem open_rows {H : Type} {enc : TypeId × Value → H} {W : World} {a : Option Addr} {len cap : Nat} {d : DataW H} {p : List MemPlace}
    (h : DataW.Trod enc Try.prog W 0 (fun _ => true) true 32 (.slice a len cap) d p) : ∃ l : List (List Int), l.length = len ∧ Recs W a l ∧ len ≤ 9223372036854775807 := by
  obtain ⟨fuel, hf⟩ := h
  rcases open_int_rows Try.underlying32 Try.underlying22 Try.underlying5 (by kernel_rfl) (by kernel_rfl) hf with ⟨hcs, _⟩ | ⟨x, l, c, A, L, C, Z, hcs, _, hl, hm, _, hrow⟩
  · simp [Value.cells] at hcs
    obtain ⟨rfl, rfl, rfl⟩ := hcs
    exact ⟨[], rfl, fun i p hp => by simp at hp, by omega⟩
  · simp [Value.cells] at hcs
    obtain ⟨rfl, rfl, rfl⟩ := hcs
    refine ⟨(List.range len).map (fun r => (Z r).take (L r)), by simp, fun i y hy => ?_, by unfold maxLen at hm; omega⟩
    have hi : i < len := by have := (List.getElem?_eq_some_iff.1 hy).1; simpa using this
    simp [hi] at hy
    subst hy
    obtain ⟨h1, h2, h3, h4, h5, h6, h7⟩ := hrow i (by omega)
    obtain ⟨b, off, spot⟩ := x
    have hc0 := (hrow 0 (by omega)).1
    have hspot : spot = none := by simpa [Addr.add] using World.cell?_spot hc0
    subst hspot
    rw [Addr.add_lit] at h1
    have hc' : W.cell? ⟨b, off + i, none⟩ = some (.slice (A i) (L i) (C i)) := h1
    have hzl : ((Z i).take (L i)).length = L i := by simp; omega
    refine ⟨b, off, A i, C i, rfl, World.block_lt_of_cell? W _ hc', by rw [hzl]; exact hc', ⟨by omega, by unfold maxLen at h3; omega, fun hp => ?_⟩, fun z hz => ?_⟩
    · rw [hzl] at hp
      cases hA : A i with
      | none => have := h6 hA; omega
      | some a' =>
        obtain ⟨b', off', spot'⟩ := a'
        have hx := (h7 _ hA).2
        have hx0 := hx 0 (by omega)
        have hspot : spot' = none := by simpa [Addr.add] using World.cell?_spot hx0
        subst hspot
        have hx0' : W.cell? ⟨b', off', none⟩ = some (.int .u8 ((Z i).getD 0 0)) := by simpa [Addr.add] using hx0
        refine ⟨b', off', rfl, World.block_lt_of_cell? W _ hx0', fun j hj => ?_⟩
        rw [hzl] at hj
        have h9 := hx j (by omega)
        rw [Addr.add_lit] at h9
        rw [h9]
        simp [List.getD, hj]
    · have := h5 z (List.mem_of_mem_take hz)
      have := bounds_u8 this
      omega

set_option maxHeartbeats 8000000 in
theorem walk {w : World} (LA : Option Addr) (lc : Nat) (l : List (List Int)) (hl : Recs w LA l) (hlm : l.length ≤ 9223372036854775807) (at_ : Int) (wat : (Lit.int .i64 at_).wf = true) :
    Calls Try.prog 4 #[.slice LA l.length lc, .int .i64 at_] w fun e w' => e = .returned (.bool true) ∧ Below w.heap.size w w' := by
  obtain ⟨i0, hi, hz0, hz1, hz2⟩ := info_parts infoBytes
  have HL := Lib.hid hl
  obtain ⟨n, hn⟩ : ∃ n, n = l.length := ⟨_, rfl⟩
  have HN := Lib.hid hn
  rw [← hn] at hlm ⊢
  have HLM := Lib.hid hlm
  clear hl hn hlm
  go_enter Try.func4, Try.ntmps4
  go_wp2_with fail
  refine (wakes_any w).mono ?_
  rintro e w1 ⟨rfl, hb1⟩
  have HB1 := Lib.hid hb1
  clear hb1
  go_wp2_with fail
  refine (fresh_any w1).mono ?_
  rintro e w2 ⟨g, d, S, T, rfl, hp⟩
  have HC := Lib.hid (cutI_start hp)
  clear hp
  go_upto_region 6 with fail
  iterate 8 (first | go_step | go_simp)
  go_cut [8] from 30 to 67 (fun r wx => ∃ A c recs, r = .slice A (List.length recs) c ∧ Hid (CutI w1 wx g d 20 A c recs))
  case first =>
    go_wp2_with fail
    go_loopw [8, 32] (fun r i wr => ∃ (k : Nat) (A : Option Addr) (c : Nat) (recs : List (List Int)), r = .slice A recs.length c ∧ i = .int .i64 k ∧ k ≤ n ∧ k ≤ 20 ∧ Hid (CutI w1 wr g d k A c recs)) (fun _ i _ => n - (match i with | .int _ k => k.toNat | _ => 0))
    case atStart => exact ⟨0, none, 0, [], rfl, rfl, Nat.zero_le _, Nat.zero_le _, HC⟩
    case round =>
      clear HC
      obtain ⟨k, A, c, recs, rfl, rfl, hk, hk20, HC⟩ := hrel
      have hbel := HB1.out.trans (HC.out.bel.mono HB1.out.size)
      obtain ⟨f1, f2, f3, f4, f5, f6⟩ := HC.out.few
      by_cases hkn : k < n
      · have hkk : (k : Int) < n := by omega
        have k0 : (0 : Int) ≤ (k : Int) := by omega
        obtain ⟨p, hp⟩ : ∃ p, l[k]? = some p := ⟨l[k]'(by rw [← HN.out]; exact hkn), List.getElem?_eq_getElem _⟩
        obtain ⟨b, o, B, cb, rfl, hblt, hcell, hsl, hoct⟩ := HL.out k p hp
        have hcell := (hbel.cell (p := ⟨b, o + k, none⟩) hblt).trans hcell
        have hsl := hsl.below hbel
        by_cases h20 : k = 20
        · subst h20
          generalize p.length = pl at *
          clear hsl hbel f1 f2 f3 f4 f5 f6 hp
          go_wp2
          go_meet
          case rel => exact ⟨A, c, recs, rfl, HC⟩
        · have t20 : ((k : Int) == 20) = false := by simp; omega
          have HSM := Lib.hid (some_any B cb p wr hsl)
          obtain ⟨bb, hbb⟩ : ∃ bb, bb = p.take 300 := ⟨_, rfl⟩
          have hbl : bb.length ≤ 300 := by rw [hbb, List.length_take]; omega
          have hbo : Oct bb := by rw [hbb]; exact hoct.takeN 300
          rw [← hbb] at HSM
          have HLF := Lib.hid (fun (W : World) (hW : Below wr.heap.size wr W) => cutI_left (HC.out.later hW))
          have HAP := Lib.hid (fun (W : World) (hW : Below wr.heap.size wr W) (A1 : Option Addr) (c1 : Nat) (hn : New wr.heap.size W A1 c1 bb) => cutI_append HC.out (by omega) hW hbo hbl hn)
          have HSN := Lib.hid (lf_snoc recs bb)
          have hx0 : 0 ≤ lf recs ∧ lf recs ≤ 388 := by unfold lf; omega
          obtain ⟨x, hx⟩ : ∃ x, x = lf recs := ⟨_, rfl⟩
          rw [← hx] at HLF HAP HSN hx0
          obtain ⟨x0, x1⟩ := hx0
          obtain ⟨rn, hrn⟩ : ∃ rn, rn = recs.length := ⟨_, rfl⟩
          have HRN := Lib.hid hrn
          rw [← hrn] at f2 ⊢
          generalize p.length = pl at *
          have w1' : IntKind.i64.wrap (x - 12) = x - 12 := i64_fit (by omega)
          have w2' : IntKind.i64.wrap (x - 12 - (bb.length : Int)) = x - 12 - (bb.length : Int) := i64_fit (by omega)
          have w3' : IntKind.i64.wrap (12 + (bb.length : Int)) = 12 + (bb.length : Int) := i64_fit (by omega)
          clear hsl hbel hp hbb hbo f1 f3 f4 f5 f6 hx hrn hoct
          by_cases hf : x < (bb.length : Int) + 12
          · have t6 : decide (12 + (bb.length : Int) ≤ x) = false := by simp; omega
            go_wp2_with fail
            refine HSM.out.mono ?_
            rintro e wa ⟨A1, c1, rfl, hn, hba⟩
            have HNA := Lib.hid hn
            have HBA := Lib.hid hba
            clear hn hba
            go_wp2_with fail
            refine (HLF.out wa HBA.out).mono ?_
            rintro e wb ⟨rfl, hbb⟩
            have HBB := Lib.hid hbb
            clear hbb
            go_wp2_with fail
            refine (HAP.out wb (HBA.out.trans (HBB.out.mono HBA.out.size)) A1 c1 (row_later HNA.out HBB.out)).mono ?_
            rintro e wd ⟨rfl, hno, _⟩
            rw [if_pos hf]
            have HC1 := Lib.hid (hno hf)
            clear hno
            go_wp2
            go_roundw
            case rel => exact ⟨k + 1, A, c, recs, by rw [HRN.out], by go_num, by omega, by omega, HC1⟩
            case measure => simp; omega
          · have HFN := Lib.hid hf
            clear hf
            go_wp2_with fail
            refine HSM.out.mono ?_
            rintro e wa ⟨A1, c1, rfl, hn, hba⟩
            have HNA := Lib.hid hn
            have HBA := Lib.hid hba
            clear hn hba
            go_wp2_with fail
            refine (HLF.out wa HBA.out).mono ?_
            rintro e wb ⟨rfl, hbb⟩
            have HBB := Lib.hid hbb
            clear hbb
            go_wp2_with fail
            refine (HAP.out wb (HBA.out.trans (HBB.out.mono HBA.out.size)) A1 c1 (row_later HNA.out HBB.out)).mono ?_
            rintro e wd ⟨rfl, _, hyes⟩
            have hfn : ¬ x < (bb.length : Int) + 12 := by have := HFN.out; omega
            rw [if_neg hfn]
            obtain ⟨vs, hrow, hmid⟩ := hyes (by omega)
            clear hfn
            rw [← HRN.out] at hrow
            have HRW := Lib.hid hrow
            have HMD := Lib.hid hmid
            clear hyes hrow hmid
            go_wp2_with (first
              | (at_builtin; refine wpList_append_own_at _ rfl (.tmp 48) (.tmp 50) 32 rfl 0 22 i0 (.slice none 0 0) 1 24 Try.underlying32 hi hz0 hz1 hz2 rfl (by decide) (.slice A rn c) rn vs rfl (HRW.out.alloc _) ⟨wd.heap.size, 0, none⟩ 1 1 [.slice A1 bb.length c1] rfl rfl (cell_one_new _ _ _) (by simp [Value.oneCell']) (by unfold maxLen; omega) (by omega) (Nat.zero_le _) ?_; intro v' w4 hown hg _ hlo; obtain ⟨A2, c2, rfl, _, _⟩ := own_form hown; rw [ob_eq] at hg hlo; rw [ob_eq] at hlo; have hc4 := HMD.out (wd.alloc (.cells #[.slice A1 bb.length c1] 22)) w4 A2 c2 ((Below.refl _ wd).alloc (Nat.le_refl _) _) (by rw [← HRN.out]; exact hown) hg hlo; have hl4 := cutI_left hc4; rw [HSN.out] at hl4; have HC4 := Lib.hid hc4; have HL4 := Lib.hid hl4; clear hown hg hlo hc4 hl4)
              | (go_at_call 15; (with_reducible refine HL4.out.mono ?_); rintro e w5 ⟨rfl, hb5⟩; have HB5 := Lib.hid hb5; clear hb5))
            go_roundw
            case rel => exact ⟨k + 1, A2, c2, recs ++ [bb], by rw [List.length_append, ← HRN.out]; rfl, by go_num, by omega, by omega, Lib.hid (HC4.out.later HB5.out)⟩
            case measure => simp; omega
      · obtain rfl : k = n := by omega
        clear hbel f1 f2 f3 f4 f5 f6
        go_wp2
        go_meet
        case rel =>
          obtain ⟨S', T', V', M', R', vs', a1, a2, a3, a4, a5⟩ := HC.out
          exact ⟨A, c, recs, rfl, Lib.hid ⟨S', T', V', M', R', vs', a1, a2, a3, a4, by omega⟩⟩
  case rest =>
    clear HC
    obtain ⟨A, c, recs, rfl, HC⟩ := hcut
    obtain ⟨f1, f2, f3, f4, f5, f6⟩ := HC.out.few
    have HRD := Lib.hid (cutI_read HC.out (by omega))
    have HAO := Lib.hid (allB_oct f3)
    have HF := Lib.hid (And.intro f1 f4)
    have hbel := HB1.out.trans (HC.out.bel.mono HB1.out.size)
    have HBC := Lib.hid hbel
    obtain ⟨N, hN⟩ : ∃ N, N = (allB recs).length := ⟨_, rfl⟩
    have hN2 : N ≤ 420 := by rw [hN, allB_len]; omega
    have HNE := Lib.hid hN
    obtain ⟨nn, hnn, hpl⟩ := place_of at_ N (by omega)
    have v1 : IntKind.i64.wrap ((N : Int) + 1) = (N : Int) + 1 := i64_fit (by omega)
    have v2 : IntKind.u64.wrap ((N : Int) + 1) = (N : Int) + 1 := by rw [IntKind.wrap_u64]; omega
    have v3 : ¬ ((N : Int) + 1 = 0) := by omega
    have n0 : (0 : Int) ≤ (nn : Int) := by omega
    rw [← hN] at HRD
    obtain ⟨rn, hrn⟩ : ∃ rn, rn = recs.length := ⟨_, rfl⟩
    have HRN := Lib.hid hrn
    rw [← hrn] at f2 f5 ⊢
    clear f1 f3 f4 hbel hN hrn
    go_wp2_with fail
    refine HRD.out.mono ?_
    rintro e w3 ⟨A1, c1, rfl, hsl, hA1, hc3⟩
    have hroom := hsl.room
    have hmost := hsl.most
    rw [← HNE.out] at hroom
    have HSL := Lib.hid hsl
    have HC3 := Lib.hid hc3
    have HH := Lib.hid (cutI_has hc3)
    rw [← HRN.out] at HH
    have n1 : (nn : Int) ≤ (c1 : Int) := by omega
    clear hsl hA1 hc3
    go_wp2_with fail
    refine HH.out.mono ?_
    rintro e w4 ⟨rfl, hb4⟩
    have HB4 := Lib.hid hb4
    clear hb4
    go_wp2_with fail
    refine (new_yes w4 65536 (by omega) (by omega)).mono ?_
    rintro e w5 ⟨rfl, hd5, hb5⟩
    have hap := append_any hd5 (k := 0) (by decide) (by decide) A1 nn c1 ((allB recs).take nn) (by rw [List.length_take, ← HNE.out]; omega) (by omega) ((HSL.out.below (HB4.out.trans (hb5.mono HB4.out.size))).rd.take nn)
    have hz : (AD.new 65536).appendC 0 nn = 0 := by
      have := (cutD_calm ((allB recs).take nn) (by rw [List.length_take, ← HNE.out]; omega)).1
      rwa [List.length_take, ← HNE.out, Nat.min_eq_left hnn] at this
    rw [hz] at hap
    have HAP := Lib.hid hap
    have HB5 := Lib.hid hb5
    have HBW := Lib.hid ((HB1.out.trans (HC3.out.bel.mono HB1.out.size)).trans (HB4.out.mono ((HB1.out.trans (HC3.out.bel.mono HB1.out.size)).size)))
    have HC4 := Lib.hid (HC3.out.later HB4.out)
    clear hd5 hb5 hap hz HC3 HC HH HRD HBC HSL HB4
    go_wp2_with fail
    refine HAP.out.mono ?_
    rintro e w6 ⟨rfl, ha⟩
    have hb6 : Below w4.heap.size w4 w6 := HB5.out.trans (ha.2.below HB5.out.size (fun k hk => by rcases hk with e | e <;> omega))
    have hs6 : ∀ k, grew (fun k => k = w4.heap.size ∨ k = w4.heap.size + 1) w5 w6 k → w4.heap.size ≤ k := fun k hk => by
      have := HB5.out.size
      rcases hk with (e | e) | e <;> omega
    have HB6 := Lib.hid hb6
    have HW0 := Lib.hid HBW.out.size
    by_cases h32 : nn < 32
    · have h32' : (nn : Int) < 32 := by omega
      have HO := Lib.hid (cutOpen_short HF.out.1 (by rw [← HNE.out]; exact hnn) h32 ha.1 HAO.out hb6.size hs6)
      clear ha hb6 hs6 HAP
      go_wp2_with fail
      refine HO.out.mono ?_
      rintro e w7 ⟨rfl, hb7⟩
      have HB7 := Lib.hid hb7
      clear hb7
      go_wp2
      go_ret
      exact ⟨rfl, HBW.out.trans ((HB6.out.trans HB7.out).mono HW0.out)⟩
    · have h32' : ¬ (nn : Int) < 32 := by omega
      have HO := Lib.hid (cutOpen_whole HF.out.1 (by rw [← HNE.out]; exact hnn) (by omega) ha.1 HAO.out hb6.size hs6)
      obtain ⟨wm, hwm⟩ : ∃ wm, wm = wholeM (nn - 32) recs := ⟨_, rfl⟩
      have HWI := Lib.hid (fun (j : Nat) (hj : j < recs.length) => whole_iff (nn - 32) recs j hj)
      have hwl : wm ≤ rn := by rw [hwm, HRN.out]; exact whole_le _ _
      rw [← hwm] at HO HWI
      clear ha hb6 hs6 HAP hwm h32
      go_wp2_with fail
      refine HO.out.mono ?_
      rintro e w7 ⟨g2, T2, rfl, hwal, hb7⟩
      have HB7 := Lib.hid (HB6.out.trans hb7)
      have hc7 := HC4.out.later (HB6.out.trans hb7)
      have hrecs := hc7.few.2.2.2.1
      have hhas := has_same hwal (s := []) (rs := recs.take wm) rfl (by
        show costM ([] :: recs.take wm) ≤ 1000000
        rw [costM_cons]
        have h1 := costM_take recs wm
        have h2 := HF.out.1
        simp
        omega) none A 0 c (recs := recs.take wm) ⟨Nat.le_refl _, by omega, Rd.empty⟩ (hrecs.take wm) rfl
      rw [decide_eq_true rfl, List.length_take, Nat.min_eq_left (by rw [← HRN.out]; exact hwl)] at hhas
      have hhas : Calls Try.prog 20 #[.pointer (some ⟨g2, 0, none⟩), .slice none 0 0, .slice A wm c] w7 (HasAs w7 true) := hhas
      have HHS := Lib.hid hhas
      have HRC := Lib.hid hrecs
      clear hwal hb7 hc7 hrecs hhas
      go_wp2_with fail
      go_loopw [17, 18, 118] (fun en wh i wr => ∃ k : Nat, i = .int .i64 k ∧ en = .int .i64 ((32 + costM (recs.take k) : Nat) : Int) ∧ wh = .int .i64 ((min k wm : Nat) : Int) ∧ k ≤ rn ∧ wr = w7) (fun _ _ i _ => rn - (match i with | .int _ k => k.toNat | _ => 0))
      case atStart => exact ⟨0, rfl, by simp [costM_nil], by simp, Nat.zero_le _, rfl⟩
      case round =>
        obtain ⟨k, rfl, rfl, rfl, hk, rfl⟩ := hrel
        by_cases hkn : k < rn
        · have hkk : (k : Int) < rn := by omega
          have k0 : (0 : Int) ≤ (k : Int) := by omega
          obtain ⟨p, hp⟩ : ∃ p, recs[k]? = some p := ⟨recs[k]'(by rw [← HRN.out]; exact hkn), List.getElem?_eq_getElem _⟩
          obtain ⟨b, o, B, cb, rfl, hblt, hcell, _, _⟩ := HRC.out k p hp
          have hcs := costM_snoc hp
          have hct := costM_take recs (k + 1)
          have hf1 := HF.out.1
          have hwi := HWI.out k (by rw [← HRN.out]; exact hkn)
          obtain ⟨c1', hc1'⟩ : ∃ q, q = costM (recs.take (k + 1)) := ⟨_, rfl⟩
          have HCQ := Lib.hid hc1'
          rw [← hc1'] at hcs hct hwi
          obtain ⟨c0', hc0'⟩ : ∃ q, q = 32 + costM (recs.take k) := ⟨_, rfl⟩
          rw [← hc0']
          have hcs' : 32 + c1' = c0' + (p.length + 12) := by omega
          have hlo : c1' ≤ 400 := by omega
          generalize p.length = pl at *
          have z1 : IntKind.i64.wrap (12 + (pl : Int)) = 12 + (pl : Int) := i64_fit (by omega)
          have z2 : IntKind.i64.wrap ((c0' : Int) + (12 + (pl : Int))) = (c0' : Int) + (12 + (pl : Int)) := i64_fit (by omega)
          have hen : (c0' : Int) + (12 + (pl : Int)) = ((32 + c1' : Nat) : Int) := by omega
          have HEN := Lib.hid hen
          clear hp hcs hct hf1 hc1' hc0'
          by_cases hle : 32 + c1' ≤ nn
          · have t1 : decide ((c0' : Int) + (12 + (pl : Int)) ≤ (nn : Int)) = true := by simp; omega
            have hw := hwi.1 (by omega)
            have hmin : min k wm = k := by omega
            have hmin2 : min (k + 1) wm = k + 1 := by omega
            have HM2 := Lib.hid hmin2
            rw [hmin]
            have z3 : IntKind.i64.wrap ((k : Int) + 1) = (k : Int) + 1 := i64_fit (by omega)
            clear hwi hcs' hle hw hmin hmin2 hen
            go_wp2
            go_roundw
            case rel => exact ⟨k + 1, by go_num, by rw [HEN.out, HCQ.out], by rw [HM2.out]; go_num, by omega, trivial⟩
            case measure => simp; omega
          · have t1 : decide ((c0' : Int) + (12 + (pl : Int)) ≤ (nn : Int)) = false := by simp; omega
            have hw : ¬ k + 1 ≤ wm := fun e => hle (by have := hwi.2 e; omega)
            have hmin : min k wm = wm := by omega
            have hmin2 : min (k + 1) wm = wm := by omega
            have HM2 := Lib.hid hmin2
            rw [hmin]
            clear hwi hcs' hle hw hmin hmin2 hen
            go_wp2
            go_roundw
            case rel => exact ⟨k + 1, by go_num, by rw [HEN.out, HCQ.out], by rw [HM2.out], by omega, trivial⟩
            case measure => simp; omega
        · obtain rfl : k = rn := by omega
          have hmin : min k wm = wm := by omega
          rw [hmin]
          have wm0 : (0 : Int) ≤ (wm : Int) := by omega
          have wmc : (wm : Int) ≤ (c : Int) := by omega
          generalize costM (recs.take k) = cz at *
          clear hmin
          go_wp2_with fail
          refine HHS.out.mono ?_
          rintro e w8 ⟨rfl, hb8⟩
          have HB8 := Lib.hid hb8
          clear hb8
          go_wp2
          go_ret
          exact ⟨rfl, (HBW.out.trans (HB7.out.mono HW0.out)).trans (HB8.out.mono (Nat.le_trans HW0.out HB7.out.size))⟩

theorem lifted (os : Os) (started : os.Started) (H : Type) (enc : TypeId × Value → H) :
    ReturnsInHanded {} Try.checked os 4 .any (Rows.walCutsSpec.pre6 enc Try.prog Try.f4 Rows.walCutsRow.domain false) (Rows.walCutsSpec.post enc Try.prog Try.f4 false true false false) := by
  refine returnsInHanded_of_change (C := Try.checked) Try.own started (by kernel_rfl) Try.func4
    (ChangeSpec.witness6 (enc := enc) (C := Try.checked) false ⟨#[], #[.slice none 0 0, .int .i64 0], []⟩ 8 (by kernel_rfl) (by kernel_rfl) (by kernel_rfl) (by kernel_rfl)) ?_
  intro W base args ds gs before hval0 hW hcnd _
  have hval : ∀ (j : Nat) t v, Try.f4.params[j]? = some t → args[j]? = some v → Value.okWide Try.prog W .any base t v := hval0
  have hW' := hW
  obtain ⟨p, q, hA0, hV, rfl, hfz, hnd⟩ := hW
  have hA : DataW.TrodAll enc Try.prog W 0 (fun _ => true) true Try.f4.params.toList args.toList ds p := hA0
  rw [Try.params4] at hA hval
  have hA' := hA
  obtain ⟨v0, vs0, d0, ds0, p0, q0, hargs, rfl, rfl, h0, r0⟩ := trodAll_cons hA
  obtain ⟨v1, vs1, d1, ds1, p1, q1, rfl, rfl, rfl, h1, r1⟩ := trodAll_cons r0
  obtain ⟨rfl, rfl, rfl⟩ := trodAll_nil r1
  obtain rfl : args = #[v0, v1] := by cases args; simp_all
  obtain ⟨rfl, rfl⟩ := trodVars_none hV
  obtain ⟨A0, len0, c0, rfl⟩ := okWide_slice Try.underlying32 (hval 0 32 v0 rfl rfl)
  obtain ⟨z0, rfl, sl0, ll0⟩ := open_rows h0
  obtain ⟨a1, rfl, rfl, rfl, w1⟩ := open_int Try.underlying3 (hval 1 3 v1 rfl rfl) h1
  clear hA0 hval0
  refine (walk A0 c0 z0 sl0 ll0 a1 w1).mono fun e W' ⟨he, bel⟩ => ?_
  subst he
  exact ⟨_, rfl, _, _, _, [], _, [], hW', trodAll_mk1 (shut_bool Try.underlying4 _), trodAll_below bel _ _ _ _ (by kernel_rfl) hA', rfl, bel.frame _, fun h => by cases h⟩

theorem proved : Rows.WalCutsSaid :=
  OpenClaim.holds_of_wide 4 Try.f4 rfl rfl rfl rfl rfl rfl rfl ⟨rfl, rfl, rfl, rfl, rfl⟩ rfl rfl rfl rfl rfl (by kernel_rfl) Try.func4 (by kernel_rfl)
    (of_decide_eq_true (by kernel_rfl)) (by unfold Func.isWrapper; first | (rw [if_pos (by decide +kernel)]; kernel_rfl) | (rw [if_neg (by decide +kernel)]; exact ⟨rfl, rfl⟩))
    (fun os started H enc _ => lifted os started H enc)
#print axioms proved
end Go.Proofs.Ytienabfilnpieaa.walCuts
