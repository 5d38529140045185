/-
  The document's And, Or.
-/
import Derived.Test.YtkfgiedpnmpfgaaMskR5
namespace Go.Proofs.Ytkfgiedpnmpfgaa
open Go.RowKit Go.Shelf
set_option linter.unusedVariables false
set_option linter.unusedSimpArgs false
set_option maxRecDepth 100000

theorem all_snoc {α : Type} (p : α → Bool) (l : List α) {k : Nat} {x : α} (h : l[k]? = some x) : (l.take (k + 1)).all p = ((l.take k).all p && p x) := all_take_snoc p l h
theorem any_snoc {α : Type} (p : α → Bool) (l : List α) {k : Nat} {x : α} (h : l[k]? = some x) : (l.take (k + 1)).any p = ((l.take k).any p || p x) := by
  rw [List.take_add_one, h]; simp

set_option maxHeartbeats 4000000 in
theorem rAnd_any (A : Option Addr) (c : Nat) (l : List Mk) (w : World) (h : Ms w A c l) :
    Calls Try.prog 20 #[.slice A l.length c] w (GivesM w fun k => l.all (fun m => has m k)) := by
  obtain ⟨s, hs⟩ : ∃ s, s = w.heap.size := ⟨_, rfl⟩
  obtain ⟨L, hL⟩ : ∃ L, L = l.length := ⟨_, rfl⟩
  have hmn : (L : Int) ≤ 9223372036854775807 := by have := h.room; have := h.most; omega
  have hnc : L ≤ c := by have := h.room; omega
  have hcm : (c : Int) ≤ 9223372036854775807 := by have := h.most; omega
  obtain ⟨hB, hR, hm0⟩ := two_world w
  obtain ⟨W0, hW0⟩ : ∃ W0, W0 = (w.alloc (.cells #[.int .u64 (0 : Nat), .int .u64 (0 : Nat)] 25)).alloc (.cells #[.int .u64 (0 : Nat), .int .u64 (0 : Nat)] 25) := ⟨_, rfl⟩
  rw [← hW0] at hB hR hm0
  rw [← hs] at hR hm0
  obtain ⟨pm, hpm⟩ : ∃ pm : Nat → Mk, ∀ n, pm n = mk (fun k => decide (k < n) && l.all (fun m => has m k)) := ⟨_, fun _ => rfl⟩
  have hP0 : pm 0 = (0, 0) := by rw [hpm]; exact mk_none _ (fun k => by simp)
  obtain ⟨MF, hMF⟩ : ∃ M, M = mk (fun k => l.all (fun m => has m k)) := ⟨_, rfl⟩
  have hF : pm 96 = MF := by rw [hpm, hMF]; exact mk_congr (fun k hk => by simp [hk])
  have hyes : ∀ (n : Nat), n < 96 → l.all (fun m => has m n) = true → ∀ W, Calls Try.prog 30 #[mv (pm n), .int .i64 n] W (fun e w' => e = .returned (mv (pm (n + 1))) ∧ Below W.heap.size W w') := by
    intro n hn ht W
    rw [hpm, hpm]
    have := with_step (fun k => decide (k < n) && l.all (fun m => has m k)) n hn W
    rw [show mk (fun k => (decide (k < n) && l.all (fun m => has m k)) || decide (k = n)) = mk (fun k => decide (k < n + 1) && l.all (fun m => has m k)) from ?_] at this
    · exact this
    · refine mk_congr (fun k hk => ?_)
      by_cases h1 : k = n
      · subst h1; rw [ht]; simp
      · have : decide (k < n) = decide (k < n + 1) := by simp; omega
        rw [this]; simp [h1]
  have hno : ∀ (n : Nat), l.all (fun m => has m n) = false → pm (n + 1) = pm n := by
    intro n ht
    rw [hpm, hpm]
    refine mk_congr (fun k hk => ?_)
    by_cases h1 : k = n
    · subst h1; rw [ht]; simp
    · have : decide (k < n) = decide (k < n + 1) := by simp; omega
      rw [this]
  unfold GivesM
  rw [← hMF]
  have HYes := Lib.hid hyes
  have HNo := Lib.hid hno
  have HF := Lib.hid hF
  have HA := Lib.hid h
  have HL := Lib.hid hL
  have HS := Lib.hid hs
  have HB := Lib.hid hB
  have HR := Lib.hid hR
  have HM0 := Lib.hid (show MRow W0 (s + 1) (pm 0).1 (pm 0).2 from by rw [hP0]; exact hm0)
  have HW0 := Lib.hid hW0
  have HZ := Lib.hid (show W0.heap.size = s + 2 from by rw [hW0, hs]; simp)
  rw [← hL]
  clear h hL hB hR hm0 hs hW0 hyes hno hF hP0 hMF hpm
  go_enter Try.func20, Try.ntmps20
  go_wp2
  rw [show (w.alloc (.cells #[.int .u64 0, .int .u64 0] 25)).alloc (.cells #[.int .u64 0, .int .u64 0] 25) = W0 from HW0.out.symm, ← HS.out]
  go_loopw [8] (fun i wr => ∃ (n : Nat), n ≤ 96 ∧ i = .int .i64 n ∧ Hid (Turn (fun i => i = s + 1) W0 wr) ∧ Hid (MRow wr (s + 1) (pm n).1 (pm n).2)) (fun i _ => 96 - (intOf i).toNat)
  case atStart => exact ⟨0, by omega, rfl, Lib.hid (Turn.refl _ _), HM0⟩
  case round =>
    rename World => wo
    obtain ⟨n, hn, rfl, HT, HMr⟩ := hrel
    by_cases hn96 : n < 96
    · have HHas := Lib.hid (fun (m : Mk) (hm : Fine m) W => show Calls Try.prog 37 #[mv m, .int .i64 n] W (fun e w' => e = .returned (.bool (has m n)) ∧ Below W.heap.size W w') from by
        have := rHas_any m n W hm (by omega)
        rw [hasI_nat m hn96] at this
        exact this)
      have n0 : (0 : Int) ≤ n := by omega
      have n96 : (n : Int) < 96 := by omega
      go_wp2
      go_loopw [5, 13] (fun v i wr => ∃ (j : Nat) (fb : Bool), j ≤ L ∧ i = .int .i64 j ∧ v = .bool fb ∧ Hid (fb = (l.take j).all (fun m => has m n)) ∧ Hid (Below wo.heap.size wo wr)) (fun _ i _ => L - (intOf i).toNat)
      case atStart => exact ⟨0, true, by omega, rfl, rfl, Lib.hid rfl, Lib.hid (Below.refl _ _)⟩
      case round =>
        obtain ⟨j, fb, hj, rfl, rfl, HFb, HBi⟩ := hrel
        by_cases hjL : j < L
        · have HTi := Lib.hid (HT.out.then_below HBi.out)
          have hbA := (Turn.of_below (S := fun i => i = s + 1) HB.out).trans HTi.out (fun i hi => .inl hi) |>.below (Nat.le_refl _) (fun i hi => by have := HS.out; omega)
          obtain ⟨b, o, x, y, rfl, hb, hx, hx1, hx2, d0, d1⟩ := (HA.out.below hbA).at_ (k := j) (by rw [← HL.out]; exact hjL)
          have HHx := Lib.hid (fun W => HHas.out (x, y) ⟨hx1, hx2⟩ W)
          have hsn := all_snoc (fun m => has m n) l hx
          have HB1 := Lib.hid (HBi.out.alloc HBi.out.size (.cells #[.int .u64 x, .int .u64 y] 25))
          have j0 : (0 : Int) ≤ j := by omega
          have jL : (j : Int) < L := by omega
          cases hfb : fb with
          | false =>
            have HS1 := Lib.hid (show false = (l.take (j + 1)).all (fun m => has m n) from by rw [hsn, ← HFb.out, hfb]; rfl)
            subst hfb
            clear hx hx1 hx2 hsn hb hbA
            go_wp2
            go_roundw
            case rel => exact ⟨j + 1, false, by omega, by go_num, rfl, HS1, HB1⟩
            case measure => simp [intOf]; omega
          | true =>
            have HS1 := Lib.hid (show has (x, y) n = (l.take (j + 1)).all (fun m => has m n) from by rw [hsn, ← HFb.out, hfb]; rfl)
            subst hfb
            unfold mv at HHx
            generalize has (x, y) n = R at *
            clear hx hx1 hx2 hsn hb hbA
            go_wp2_with fail
            refine (HHx.out _).mono ?_
            rintro e w3 ⟨rfl, hb3⟩
            have HB3 := Lib.hid (HB1.out.trans (hb3.mono HB1.out.size))
            clear hb3
            go_wp2
            go_roundw
            case rel => exact ⟨j + 1, R, by omega, by go_num, rfl, HS1, HB3⟩
            case measure => simp [intOf]; omega
        · obtain rfl : j = L := by omega
          have hall := HFb.out
          rw [show l.take j = l by rw [HL.out, List.take_length]] at hall
          have HTi := Lib.hid (HT.out.then_below HBi.out)
          have HMi := Lib.hid (HMr.out.below HBi.out HMr.out.lt)
          cases hfb : fb with
          | false =>
            have HN := Lib.hid (HNo.out n (by rw [← hall, hfb]))
            subst hfb
            clear hall
            go_wp2
            go_roundw
            case rel => exact ⟨n + 1, by omega, by go_num, HTi, Lib.hid (by rw [HN.out]; exact HMi.out)⟩
            case measure => simp [intOf]; omega
          | true =>
            have HWi := Lib.hid (fun W => HYes.out n hn96 (by rw [← hall, hfb]) W)
            obtain ⟨Ma, hMa⟩ : ∃ M, M = pm n := ⟨_, rfl⟩
            obtain ⟨Mb, hMb⟩ : ∃ M, M = pm (n + 1) := ⟨_, rfl⟩
            rw [← hMa, ← hMb] at HWi
            have hm := HMi.out
            rw [← hMa] at hm
            have HMb := Lib.hid hMb
            have HMw := Lib.hid hm
            have c0 := hm.cell0
            have c1 := hm.cell1
            subst hfb
            clear hall hMa hMb hm
            unfold mv at HWi
            go_wp2_with fail
            refine (HWi.out _).mono ?_
            rintro e w3 ⟨rfl, hb3⟩
            have HT3 := Lib.hid (HTi.out.then_below hb3)
            have HM3 := Lib.hid (HMw.out.below hb3 HMw.out.lt)
            have r0 := HM3.out.cell0
            have r1 := HM3.out.cell1
            have f0 := HM3.out.frozen 0
            have f1 := HM3.out.frozen 1
            clear hb3
            go_wp2
            go_roundw
            case rel =>
              refine ⟨n + 1, by omega, by go_num, Lib.hid (turn_sets HT3.out _ _), Lib.hid ?_⟩
              rw [← HMb.out]
              exact (HM3.out.set0 _).set1 _
            case measure => simp [intOf]; omega
    · obtain rfl : n = 96 := by omega
      have hm := HMr.out
      rw [HF.out] at hm
      have hr := HR.out.turn HT.out (by omega)
      obtain ⟨⟨c0, c1', f0, f1⟩, e0', e1', hbE⟩ := mask_end (M := MF) hr ((Turn.of_below (S := fun i => i = s + 1) HB.out).trans HT.out (fun i hi => .inl hi) |>.below (Nat.le_refl _) (fun i hi => by have := HS.out; omega)) (by rw [HS.out]; omega)
      have m0 := hm.cell0
      have m1 := hm.cell1
      have HBE := Lib.hid hbE
      clear hm hr hbE
      go_wp2
      refine bodyPost_ret (v := .agg #[.int .u64 MF.1, .int .u64 MF.2]) (by simp [results, Try.results20, go_sem, e0', e1']) rfl ?_
      exact ⟨rfl, HBE.out⟩

set_option maxHeartbeats 4000000 in
theorem rOr_any (A : Option Addr) (c : Nat) (l : List Mk) (w : World) (h : Ms w A c l) :
    Calls Try.prog 22 #[.slice A l.length c] w (GivesM w fun k => l.any (fun m => has m k)) := by
  obtain ⟨s, hs⟩ : ∃ s, s = w.heap.size := ⟨_, rfl⟩
  obtain ⟨L, hL⟩ : ∃ L, L = l.length := ⟨_, rfl⟩
  have hmn : (L : Int) ≤ 9223372036854775807 := by have := h.room; have := h.most; omega
  have hnc : L ≤ c := by have := h.room; omega
  have hcm : (c : Int) ≤ 9223372036854775807 := by have := h.most; omega
  obtain ⟨hB, hR, hm0⟩ := two_world w
  obtain ⟨W0, hW0⟩ : ∃ W0, W0 = (w.alloc (.cells #[.int .u64 (0 : Nat), .int .u64 (0 : Nat)] 25)).alloc (.cells #[.int .u64 (0 : Nat), .int .u64 (0 : Nat)] 25) := ⟨_, rfl⟩
  rw [← hW0] at hB hR hm0
  rw [← hs] at hR hm0
  obtain ⟨pm, hpm⟩ : ∃ pm : Nat → Mk, ∀ i, pm i = mk (fun k => (l.take i).any (fun m => has m k)) := ⟨_, fun _ => rfl⟩
  have hP0 : pm 0 = (0, 0) := by rw [hpm]; exact mk_none _ (fun k => by simp)
  obtain ⟨MF, hMF⟩ : ∃ M, M = mk (fun k => l.any (fun m => has m k)) := ⟨_, rfl⟩
  have hF : pm L = MF := by rw [hpm, hMF, hL, List.take_length]
  have hin : ∀ (i : Nat) (x : Mk), l[i]? = some x → ∃ qm : Nat → Mk, qm 0 = pm i ∧ qm (slots x).length = pm (i + 1) ∧
      ∀ (j y : Nat), (slots x)[j]? = some y → y < 96 → ∀ W, Calls Try.prog 30 #[mv (qm j), .int .i64 y] W (fun e w' => e = .returned (mv (qm (j + 1))) ∧ Below W.heap.size W w') := by
    intro i x hx
    refine ⟨fun j => mk (fun k => (l.take i).any (fun m => has m k) || decide (k ∈ (slots x).take j)), ?_, ?_, fun j y hy hy96 W => ?_⟩
    · rw [hpm]; exact mk_congr (fun k hk => by simp)
    · rw [hpm]
      refine mk_congr (fun k hk => ?_)
      rw [any_snoc _ l hx, List.take_length]
      congr 1
      rw [Bool.eq_iff_iff, decide_eq_true_iff, slots_mem]
    · have := with_step (fun k => (l.take i).any (fun m => has m k) || decide (k ∈ (slots x).take j)) y hy96 W
      rw [show mk (fun k => ((l.take i).any (fun m => has m k) || decide (k ∈ (slots x).take j)) || decide (k = y)) = mk (fun k => (l.take i).any (fun m => has m k) || decide (k ∈ (slots x).take (j + 1))) from mk_congr (fun k hk => by
        rw [Bool.or_assoc]
        congr 1
        rw [Bool.eq_iff_iff]
        simp only [Bool.or_eq_true, decide_eq_true_iff, take_mem_snoc hy])] at this
      exact this
  unfold GivesM
  rw [← hMF]
  have HIn := Lib.hid hin
  have HF := Lib.hid hF
  have HA := Lib.hid h
  have HL := Lib.hid hL
  have HS := Lib.hid hs
  have HB := Lib.hid hB
  have HR := Lib.hid hR
  have HM0 := Lib.hid (show MRow W0 (s + 1) (pm 0).1 (pm 0).2 from by rw [hP0]; exact hm0)
  have HW0 := Lib.hid hW0
  have HZ := Lib.hid (show W0.heap.size = s + 2 from by rw [hW0, hs]; simp)
  rw [← hL]
  clear h hL hB hR hm0 hs hW0 hin hF hP0 hMF hpm
  go_enter Try.func22, Try.ntmps22
  go_wp2
  rw [show (w.alloc (.cells #[.int .u64 0, .int .u64 0] 25)).alloc (.cells #[.int .u64 0, .int .u64 0] 25) = W0 from HW0.out.symm, ← HS.out]
  go_loopw [10] (fun i wr => ∃ (k : Nat), k ≤ L ∧ i = .int .i64 k ∧ Hid (Turn (fun i => i = s + 1) W0 wr) ∧ Hid (MRow wr (s + 1) (pm k).1 (pm k).2)) (fun i _ => L - (intOf i).toNat)
  case atStart => exact ⟨0, by omega, rfl, Lib.hid (Turn.refl _ _), HM0⟩
  case round =>
    rename World => wo
    obtain ⟨k, hk, rfl, HT, HMr⟩ := hrel
    by_cases hkL : k < L
    · have hbA := (Turn.of_below (S := fun i => i = s + 1) HB.out).trans HT.out (fun i hi => .inl hi) |>.below (Nat.le_refl _) (fun i hi => by have := HS.out; omega)
      obtain ⟨b, o, x, y, rfl, hb, hx, hx1, hx2, d0, d1⟩ := (HA.out.below hbA).at_ (k := k) (by rw [← HL.out]; exact hkL)
      obtain ⟨qm, hq0, hqN, hqs⟩ := HIn.out k (x, y) hx
      have HSl := Lib.hid (fun W => rSlots_any (x, y) W ⟨hx1, hx2⟩)
      obtain ⟨n0, hn0⟩ : ∃ n, n = (slots (x, y)).length := ⟨_, rfl⟩
      have hn96 : n0 ≤ 96 := by rw [hn0]; exact slotsTo_len (x, y) 96
      have HN := Lib.hid hn0
      have HQ0 := Lib.hid hq0
      have HQN := Lib.hid hqN
      have HQs := Lib.hid hqs
      have HB1 := Lib.hid ((Below.refl _ wo).alloc (Nat.le_refl _) (.cells #[.int .u64 x, .int .u64 y] 25))
      have k0 : (0 : Int) ≤ k := by omega
      have kL : (k : Int) < L := by omega
      clear hx hx1 hx2 hb hbA hq0 hqN hqs
      unfold mv at HSl
      go_wp2_with fail
      refine (HSl.out _).mono ?_
      rintro e w2 ⟨A2, c2, rfl, ho2, hb2⟩
      have HB2 := Lib.hid (HB1.out.trans (hb2.mono HB1.out.size))
      have HO2 := Lib.hid ho2
      have hnc2 : n0 ≤ c2 := by have := ho2.slots.room; rw [slotsI_len, ← HN.out] at this; exact this
      have hcm2 : (c2 : Int) ≤ 9223372036854775807 := by have := ho2.slots.most; omega
      have HT2 := Lib.hid (HT.out.then_below HB2.out)
      have HM2 := Lib.hid (show MRow w2 (s + 1) (qm 0).1 (qm 0).2 from by rw [HQ0.out]; exact HMr.out.below HB2.out HMr.out.lt)
      rw [← hn0]
      have HZ2 := Lib.hid (show s + 1 < (wo.alloc (.cells #[.int .u64 x, .int .u64 y] 25)).heap.size from by have h1 := HMr.out.lt; have h2 := HB1.out.size; omega)
      clear ho2 hb2 hn0
      go_wp2
      go_loopw [17] (fun i wr => ∃ (j : Nat), j ≤ n0 ∧ i = .int .i64 j ∧ Hid (Turn (fun i => i = s + 1) w2 wr) ∧ Hid (MRow wr (s + 1) (qm j).1 (qm j).2)) (fun i _ => n0 - (intOf i).toNat)
      case atStart => exact ⟨0, by omega, rfl, Lib.hid (Turn.refl _ _), HM2⟩
      case round =>
        obtain ⟨j, hj, rfl, HTi, HMi⟩ := hrel
        by_cases hjn : j < n0
        · obtain ⟨z, hz, hzg, hz96, hzh⟩ := slotsI_get (x, y) (k := j) (by rw [← HN.out]; exact hjn)
          obtain ⟨b2, o2, rfl, hb2, hcell⟩ := (HO2.out.turn HTi.out (fun i hi e => by have := HZ2.out; omega)).slots.at_ (j := j) (by rw [slotsI_len, ← HN.out]; exact hjn)
          rw [hzg] at hcell
          have HWi := Lib.hid (fun W => HQs.out j z hz hz96 W)
          obtain ⟨Ma, hMa⟩ : ∃ M, M = qm j := ⟨_, rfl⟩
          obtain ⟨Mb, hMb⟩ : ∃ M, M = qm (j + 1) := ⟨_, rfl⟩
          rw [← hMa, ← hMb] at HWi
          have hm := HMi.out
          rw [← hMa] at hm
          have HMb := Lib.hid hMb
          have HMw := Lib.hid hm
          have c0 := hm.cell0
          have c1 := hm.cell1
          have j0 : (0 : Int) ≤ j := by omega
          have jn : (j : Int) < n0 := by omega
          clear hz hzg hz96 hzh hMa hMb hm hb2
          unfold mv at HWi
          go_wp2_with fail
          refine (HWi.out _).mono ?_
          rintro e w3 ⟨rfl, hb3⟩
          have HT3 := Lib.hid (HTi.out.then_below hb3)
          have HM3 := Lib.hid (HMw.out.below hb3 HMw.out.lt)
          have r0 := HM3.out.cell0
          have r1 := HM3.out.cell1
          have f0 := HM3.out.frozen 0
          have f1 := HM3.out.frozen 1
          clear hb3
          go_wp2
          go_roundw
          case rel =>
            refine ⟨j + 1, by omega, by go_num, Lib.hid (turn_sets HT3.out _ _), Lib.hid ?_⟩
            rw [← HMb.out]
            exact (HM3.out.set0 _).set1 _
          case measure => simp [intOf]; omega
        · obtain rfl : j = n0 := by omega
          have hm := HMi.out
          rw [HN.out, HQN.out] at hm
          have HMn := Lib.hid hm
          have HTn := Lib.hid (HT2.out.trans HTi.out (fun i hi => .inl hi))
          clear hm
          go_wp2
          go_roundw
          case rel => exact ⟨k + 1, by omega, by go_num, HTn, HMn⟩
          case measure => simp [intOf]; omega
    · obtain rfl : k = L := by omega
      have hm := HMr.out
      rw [HF.out] at hm
      have hr := HR.out.turn HT.out (by omega)
      obtain ⟨⟨c0, c1', f0, f1⟩, e0', e1', hbE⟩ := mask_end (M := MF) hr ((Turn.of_below (S := fun i => i = s + 1) HB.out).trans HT.out (fun i hi => .inl hi) |>.below (Nat.le_refl _) (fun i hi => by have := HS.out; omega)) (by rw [HS.out]; omega)
      have m0 := hm.cell0
      have m1 := hm.cell1
      have HBE := Lib.hid hbE
      clear hm hr hbE
      go_wp2
      refine bodyPost_ret (v := .agg #[.int .u64 MF.1, .int .u64 MF.2]) (by simp [results, Try.results22, go_sem, e0', e1']) rfl ?_
      exact ⟨rfl, HBE.out⟩
end Go.Proofs.Ytkfgiedpnmpfgaa
