/-
  Proved: the law VecOrder, hits stand in order as the document says, each to each, returns true for every row of hits, and leaves all memory as it was. No condition.
-/
import Derived.Test.YtdfpiipnpaknaaaVecWakes
import Derived.Test.YtdfpiipnpaknaaaLawFrame
namespace Go.Proofs.Ytdfpiipnpaknaaa.vecOrder
open Go.ChangeShapes Go.WideShapes Go.ChangeAt Go.RowKit
set_option linter.unusedVariables false
set_option maxRecDepth 100000

def beforeM (i d i' d' : Int) : Bool := decide (d < d') || (decide (d = d') && decide (i < i'))

set_option maxHeartbeats 400000 in
theorem before_any (i d i' d' : Int) (w : World) : Calls Try.prog 23 #[.agg #[.int .u64 i, .int .u64 d], .agg #[.int .u64 i', .int .u64 d']] w fun e w' => e = .returned (.bool (beforeM i d i' d')) ∧ Below w.heap.size w w' := by
  have hb : Below w.heap.size w ((w.alloc (.cells #[.int .u64 i, .int .u64 d] 46)).alloc (.cells #[.int .u64 i', .int .u64 d'] 46)) := ((Below.refl _ w).alloc (Nat.le_refl _) _).alloc (by simp) _
  have HB := Lib.hid hb
  clear hb
  by_cases h1 : d < d'
  · have HF := Lib.hid (show beforeM i d i' d' = true by unfold beforeM; simp [h1])
    go_enter Try.func23, Try.ntmps23
    go_wp2
    go_ret
    rw [HF.out]
    exact ⟨rfl, HB.out⟩
  · by_cases h2 : d = d'
    · subst h2
      by_cases h3 : i < i'
      · have HF := Lib.hid (show beforeM i d i' d = true by unfold beforeM; simp [h3])
        have t1 : (d == d) = true := by simp
        go_enter Try.func23, Try.ntmps23
        go_wp2
        go_ret
        rw [HF.out]
        exact ⟨rfl, HB.out⟩
      · have HF := Lib.hid (show beforeM i d i' d = false by unfold beforeM; simp [h3])
        have t1 : (d == d) = true := by simp
        go_enter Try.func23, Try.ntmps23
        go_wp2
        go_ret
        rw [HF.out]
        exact ⟨rfl, HB.out⟩
    · have HF := Lib.hid (show beforeM i d i' d' = false by unfold beforeM; simp [h1, h2])
      have t1 : (d == d') = false := by simpa using h2
      go_enter Try.func23, Try.ntmps23
      go_wp2
      go_ret
      rw [HF.out]
      exact ⟨rfl, HB.out⟩

theorem cmp_yes {i d i' d' : Int} (h : beforeM i d i' d' = true) : compareM i d i' d' = -1 := by
  unfold beforeM at h
  simp at h
  unfold compareM orM cmpM
  rcases h with h | ⟨rfl, h⟩
  · simp [h]
  · simp [h]
theorem cmp_back {i d i' d' : Int} (h0 : beforeM i d i' d' = false) (h : beforeM i' d' i d = true) : compareM i d i' d' = 1 := by
  unfold beforeM at h h0
  simp at h h0
  unfold compareM orM cmpM
  rcases h with h | ⟨rfl, h⟩
  · have : ¬ d < d' := by omega
    simp [h, this]
  · have : ¬ i < i' := by omega
    simp [h, this]
theorem cmp_no {i d i' d' : Int} (h0 : beforeM i d i' d' = false) (h : beforeM i' d' i d = false) : compareM i d i' d' = 0 := by
  unfold beforeM at h h0
  simp at h h0
  unfold compareM orM cmpM
  have e : d = d' := by omega
  subst e
  have e2 : i = i' := by have := h.2 rfl; have := h0.2 rfl; omega
  subst e2
  simp

/-- Two hits in boxes. -/
def Two (W : World) (g h : Nat) (i d i' d' : Int) : Prop := W.heap[g]? = some (.cells #[.int .u64 i, .int .u64 d] 46 (0, 0)) ∧ W.heap[h]? = some (.cells #[.int .u64 i', .int .u64 d'] 46 (0, 0))
theorem Two.later {W W' : World} {g h : Nat} {i d i' d' : Int} (k : Two W g h i d i' d') (hb : Below W.heap.size W W') : Two W' g h i d i' d' := ⟨(hb.block _ (lt_of_block k.1)).trans k.1, (hb.block _ (lt_of_block k.2)).trans k.2⟩
theorem Two.c1 {W : World} {g h : Nat} {i d i' d' : Int} (k : Two W g h i d i' d') : W.cell? ⟨g, 0, none⟩ = some (.int .u64 i) := by simp [World.cell?, k.1]
theorem Two.c2 {W : World} {g h : Nat} {i d i' d' : Int} (k : Two W g h i d i' d') : W.cell? ⟨g, 1, none⟩ = some (.int .u64 d) := by simp [World.cell?, k.1]
theorem Two.c3 {W : World} {g h : Nat} {i d i' d' : Int} (k : Two W g h i d i' d') : W.cell? ⟨h, 0, none⟩ = some (.int .u64 i') := by simp [World.cell?, k.2]
theorem Two.c4 {W : World} {g h : Nat} {i d i' d' : Int} (k : Two W g h i d i' d') : W.cell? ⟨h, 1, none⟩ = some (.int .u64 d') := by simp [World.cell?, k.2]

theorem pairs_at {w : World} {A : Option Addr} {ps : List (Int × Int)} (h : Pairs .u64 .u64 w A ps) {j : Nat} (hj : j < ps.length) : ∃ b o, A = some ⟨b, o, none⟩ ∧ b < w.heap.size ∧ ∃ i d, w.cell? ⟨b, o + j * 2, none⟩ = some (.int .u64 i) ∧ w.cell? ⟨b, o + j * 2 + 1, none⟩ = some (.int .u64 d) := by
  obtain ⟨b, o, e, hb, hc⟩ := h (by omega)
  exact ⟨b, o, e, hb, _, _, (hc j hj).1, (hc j hj).2.1⟩

set_option maxHeartbeats 2000000 in
theorem walk {w : World} (A : Option Addr) (c : Nat) (ps : List (Int × Int)) (h : Pairs .u64 .u64 w A ps ∧ ps.length ≤ c ∧ c ≤ 9223372036854775807) :
    Calls Try.prog 5 #[.slice A ps.length c] w fun e w' => e = .returned (.bool true) ∧ Below w.heap.size w w' := by
  obtain ⟨h, hroom, hmost⟩ := h
  have HP := Lib.hid (fun (j : Nat) (hj : j < ps.length) => pairs_at h hj)
  generalize ps.length = n at *
  clear h
  by_cases h30 : 30 < n
  · have t1 : decide ((30 : Int) < (n : Int)) = true := by simp; omega
    have HP := Lib.hid (fun (j : Nat) (hj : j < 30) => HP.out j (by omega))
    have c30 : (30 : Int) ≤ (c : Int) := by omega
    have c30n : 30 ≤ c := by omega
    have t2 : decide (30 ≤ c) = true := by simp; omega
    go_enter Try.func5, Try.ntmps5
    go_wp2_with fail
    refine (wakes_any w).mono ?_
    rintro e w1 ⟨rfl, hb1⟩
    have HB1 := Lib.hid hb1
    clear hb1
    go_wp2
    go_loopw [4, 6, 7, 17, 23] (fun _ _ _ i _ wr => ∃ k : Nat, k ≤ 30 ∧ i = .int .i64 k ∧ Hid (Below w.heap.size w wr)) (fun _ _ _ i _ _ => 30 - (intOf i).toNat)
    case atStart => exact ⟨0, Nat.zero_le _, rfl, HB1⟩
    case round =>
      obtain ⟨k, hk, rfl, HB⟩ := hrel
      by_cases hkn : k < 30
      · obtain ⟨b, o, rfl, hb, i, d, hc1, hc2⟩ := HP.out k hkn
        have HC := Lib.hid (And.intro hc1 hc2)
        have e1 := (HB.out.cell (p := ⟨b, o + k * 2, none⟩) hb).trans hc1
        have e2 := (HB.out.cell (p := ⟨b, o + k * 2 + 1, none⟩) hb).trans hc2
        have k0 : (0 : Int) ≤ k := by omega
        have kn : (k : Int) < 30 := by omega
        clear hc1 hc2
        go_wp2
        obtain ⟨wo, hwo⟩ : ∃ wo : World, wo = wr.alloc (.cells #[.int .u64 i, .int .u64 d] 46) := ⟨_, rfl⟩
        have hbo : Below w.heap.size w wo := by rw [hwo]; exact HB.out.alloc HB.out.size _
        have hgo : wo.heap[wr.heap.size]? = some (.cells #[.int .u64 i, .int .u64 d] 46 (0, 0)) := by rw [hwo]; exact heap_alloc_new _ _
        have HO := Lib.hid (And.intro hbo hgo)
        rw [← hwo]
        generalize wr.heap.size = g at *
        clear hwo e1 e2 hbo hgo
        go_loopw [6, 7, 23] (fun _ _ z ws => ∃ t : Nat, t ≤ 30 ∧ z = .int .i64 t ∧ Hid (Below w.heap.size w ws ∧ ws.heap[g]? = some (.cells #[.int .u64 i, .int .u64 d] 46 (0, 0)))) (fun _ _ z _ => 30 - (intOf z).toNat)
        case atStart => exact ⟨0, Nat.zero_le _, rfl, HO⟩
        case round =>
          obtain ⟨t, ht, rfl, HT⟩ := hrel
          by_cases htn : t < 30
          · obtain ⟨b', o', he, _, i', d', hc1', hc2'⟩ := HP.out t htn
            injection he with he
            injection he with he1 he2
            subst he1
            subst he2
            have e1 := (HT.out.1.cell (p := ⟨b, o + t * 2, none⟩) hb).trans hc1'
            have e2 := (HT.out.1.cell (p := ⟨b, o + t * 2 + 1, none⟩) hb).trans hc2'
            have t0 : (0 : Int) ≤ t := by omega
            have tn : (t : Int) < 30 := by omega
            clear hc1' hc2'
            obtain ⟨W2, hW2⟩ : ∃ W2, W2 = wr.alloc (.cells #[.int .u64 i', .int .u64 d'] 46) := ⟨_, rfl⟩
            have hb2 : Below w.heap.size w W2 := by rw [hW2]; exact HT.out.1.alloc HT.out.1.size _
            have h2 : Two W2 g wr.heap.size i d i' d' := ⟨by rw [hW2]; exact (Below.heap_alloc _ _ _ (lt_of_block HT.out.2)).trans HT.out.2, by rw [hW2]; exact heap_alloc_new _ _⟩
            have hgl := lt_of_block HT.out.2
            have g1 : (wr.alloc (.cells #[.int .u64 i', .int .u64 d'] 46)).cell? ⟨g, 0, none⟩ = some (.int .u64 i) := by rw [← hW2]; exact h2.c1
            have g2 : (wr.alloc (.cells #[.int .u64 i', .int .u64 d'] 46)).cell? ⟨g, 1, none⟩ = some (.int .u64 d) := by rw [← hW2]; exact h2.c2
            have g3 : wr.cell? ⟨g, 0, none⟩ = some (.int .u64 i) := by simp [World.cell?, HT.out.2]
            have g4 : wr.cell? ⟨g, 1, none⟩ = some (.int .u64 d) := by simp [World.cell?, HT.out.2]
            have H2 := Lib.hid h2
            have HB2 := Lib.hid hb2
            have HW2 := Lib.hid hW2
            clear hb2 h2 hW2
            cases hyes : beforeM i d i' d' with
            | true =>
              have HC1 := Lib.hid (fun V => before_any i d i' d' V)
              rw [hyes] at HC1
              have HCM := Lib.hid (fun V => compare_any i d i' d' V)
              rw [cmp_yes hyes] at HCM
              clear hyes
              go_wp2_with fail
              rw [← HW2.out]
              refine (HC1.out W2).mono ?_
              rintro e w3 ⟨rfl, hb3⟩
              have H3 := Lib.hid (H2.out.later hb3)
              have HB3 := Lib.hid (HB2.out.trans (hb3.mono HB2.out.size))
              clear hb3 g1 g2 g3 g4 e1 e2
              have g1 := H3.out.c1
              have g2 := H3.out.c2
              have g3 := H3.out.c3
              have g4 := H3.out.c4
              go_wp2_with fail
              refine (HCM.out w3).mono ?_
              rintro e w4 ⟨rfl, hb4⟩
              have H4 := Lib.hid (H3.out.later hb4)
              have HB4 := Lib.hid (HB3.out.trans (hb4.mono HB3.out.size))
              clear hb4 g1 g2 g3 g4
              go_wp2
              go_roundw
              case rel => exact ⟨t + 1, by omega, by go_num, Lib.hid ⟨HB4.out, H4.out.1⟩⟩
              case measure => simp [intOf]; omega
            | false =>
              have HC1 := Lib.hid (fun V => before_any i d i' d' V)
              rw [hyes] at HC1
              have HC2 := Lib.hid (fun V => before_any i' d' i d V)
              have HCM := Lib.hid (fun V => compare_any i d i' d' V)
              have HYN := Lib.hid hyes
              clear hyes
              cases hback : beforeM i' d' i d with
              | true =>
                rw [hback] at HC2
                rw [cmp_back HYN.out hback] at HCM
                clear hback
                go_wp2_with fail
                rw [← HW2.out]
                refine (HC1.out W2).mono ?_
                rintro e w3 ⟨rfl, hb3⟩
                have H3 := Lib.hid (H2.out.later hb3)
                have HB3 := Lib.hid (HB2.out.trans (hb3.mono HB2.out.size))
                clear hb3 g1 g2 g3 g4 e1 e2
                have g1 := H3.out.c1
                have g2 := H3.out.c2
                have g3 := H3.out.c3
                have g4 := H3.out.c4
                go_wp2_with fail
                refine (HC2.out w3).mono ?_
                rintro e w4 ⟨rfl, hb4⟩
                have H4 := Lib.hid (H3.out.later hb4)
                have HB4 := Lib.hid (HB3.out.trans (hb4.mono HB3.out.size))
                clear hb4 g1 g2 g3 g4
                have g1 := H4.out.c1
                have g2 := H4.out.c2
                have g3 := H4.out.c3
                have g4 := H4.out.c4
                go_wp2_with fail
                refine (HCM.out w4).mono ?_
                rintro e w5 ⟨rfl, hb5⟩
                have H5 := Lib.hid (H4.out.later hb5)
                have HB5 := Lib.hid (HB4.out.trans (hb5.mono HB4.out.size))
                clear hb5 g1 g2 g3 g4
                go_wp2
                go_roundw
                case rel => exact ⟨t + 1, by omega, by go_num, Lib.hid ⟨HB5.out, H5.out.1⟩⟩
                case measure => simp [intOf]; omega
              | false =>
                rw [hback] at HC2
                rw [cmp_no HYN.out hback] at HCM
                clear hback
                go_wp2_with fail
                rw [← HW2.out]
                refine (HC1.out W2).mono ?_
                rintro e w3 ⟨rfl, hb3⟩
                have H3 := Lib.hid (H2.out.later hb3)
                have HB3 := Lib.hid (HB2.out.trans (hb3.mono HB2.out.size))
                clear hb3 g1 g2 g3 g4 e1 e2
                have g1 := H3.out.c1
                have g2 := H3.out.c2
                have g3 := H3.out.c3
                have g4 := H3.out.c4
                go_wp2_with fail
                refine (HC2.out w3).mono ?_
                rintro e w4 ⟨rfl, hb4⟩
                have H4 := Lib.hid (H3.out.later hb4)
                have HB4 := Lib.hid (HB3.out.trans (hb4.mono HB3.out.size))
                clear hb4 g1 g2 g3 g4
                have g1 := H4.out.c1
                have g2 := H4.out.c2
                have g3 := H4.out.c3
                have g4 := H4.out.c4
                go_wp2_with fail
                refine (HCM.out w4).mono ?_
                rintro e w5 ⟨rfl, hb5⟩
                have H5 := Lib.hid (H4.out.later hb5)
                have HB5 := Lib.hid (HB4.out.trans (hb5.mono HB4.out.size))
                clear hb5 g1 g2 g3 g4
                go_wp2
                go_roundw
                case rel => exact ⟨t + 1, by omega, by go_num, Lib.hid ⟨HB5.out, H5.out.1⟩⟩
                case measure => simp [intOf]; omega
          · obtain rfl : t = 30 := by omega
            go_wp2
            go_roundw
            case rel => exact ⟨k + 1, by omega, by go_num, Lib.hid HT.out.1⟩
            case measure => simp [intOf]; omega
      · obtain rfl : k = 30 := by omega
        go_wp2
        go_ret
        exact ⟨rfl, HB.out⟩
  · have t1 : decide ((30 : Int) < (n : Int)) = false := by simp; omega
    go_enter Try.func5, Try.ntmps5
    go_wp2_with fail
    refine (wakes_any w).mono ?_
    rintro e w1 ⟨rfl, hb1⟩
    have HB1 := Lib.hid hb1
    clear hb1
    go_wp2
    go_loopw [4, 6, 7, 17, 23] (fun _ _ _ i _ wr => ∃ k : Nat, k ≤ n ∧ i = .int .i64 k ∧ Hid (Below w.heap.size w wr)) (fun _ _ _ i _ _ => n - (intOf i).toNat)
    case atStart => exact ⟨0, Nat.zero_le _, rfl, HB1⟩
    case round =>
      obtain ⟨k, hk, rfl, HB⟩ := hrel
      by_cases hkn : k < n
      · obtain ⟨b, o, rfl, hb, i, d, hc1, hc2⟩ := HP.out k hkn
        have HC := Lib.hid (And.intro hc1 hc2)
        have e1 := (HB.out.cell (p := ⟨b, o + k * 2, none⟩) hb).trans hc1
        have e2 := (HB.out.cell (p := ⟨b, o + k * 2 + 1, none⟩) hb).trans hc2
        have k0 : (0 : Int) ≤ k := by omega
        have kn : (k : Int) < (n : Nat) := by omega
        clear hc1 hc2
        go_wp2
        obtain ⟨wo, hwo⟩ : ∃ wo : World, wo = wr.alloc (.cells #[.int .u64 i, .int .u64 d] 46) := ⟨_, rfl⟩
        have hbo : Below w.heap.size w wo := by rw [hwo]; exact HB.out.alloc HB.out.size _
        have hgo : wo.heap[wr.heap.size]? = some (.cells #[.int .u64 i, .int .u64 d] 46 (0, 0)) := by rw [hwo]; exact heap_alloc_new _ _
        have HO := Lib.hid (And.intro hbo hgo)
        rw [← hwo]
        generalize wr.heap.size = g at *
        clear hwo e1 e2 hbo hgo
        go_loopw [6, 7, 23] (fun _ _ z ws => ∃ t : Nat, t ≤ n ∧ z = .int .i64 t ∧ Hid (Below w.heap.size w ws ∧ ws.heap[g]? = some (.cells #[.int .u64 i, .int .u64 d] 46 (0, 0)))) (fun _ _ z _ => n - (intOf z).toNat)
        case atStart => exact ⟨0, Nat.zero_le _, rfl, HO⟩
        case round =>
          obtain ⟨t, ht, rfl, HT⟩ := hrel
          by_cases htn : t < n
          · obtain ⟨b', o', he, _, i', d', hc1', hc2'⟩ := HP.out t htn
            injection he with he
            injection he with he1 he2
            subst he1
            subst he2
            have e1 := (HT.out.1.cell (p := ⟨b, o + t * 2, none⟩) hb).trans hc1'
            have e2 := (HT.out.1.cell (p := ⟨b, o + t * 2 + 1, none⟩) hb).trans hc2'
            have t0 : (0 : Int) ≤ t := by omega
            have tn : (t : Int) < (n : Nat) := by omega
            clear hc1' hc2'
            obtain ⟨W2, hW2⟩ : ∃ W2, W2 = wr.alloc (.cells #[.int .u64 i', .int .u64 d'] 46) := ⟨_, rfl⟩
            have hb2 : Below w.heap.size w W2 := by rw [hW2]; exact HT.out.1.alloc HT.out.1.size _
            have h2 : Two W2 g wr.heap.size i d i' d' := ⟨by rw [hW2]; exact (Below.heap_alloc _ _ _ (lt_of_block HT.out.2)).trans HT.out.2, by rw [hW2]; exact heap_alloc_new _ _⟩
            have hgl := lt_of_block HT.out.2
            have g1 : (wr.alloc (.cells #[.int .u64 i', .int .u64 d'] 46)).cell? ⟨g, 0, none⟩ = some (.int .u64 i) := by rw [← hW2]; exact h2.c1
            have g2 : (wr.alloc (.cells #[.int .u64 i', .int .u64 d'] 46)).cell? ⟨g, 1, none⟩ = some (.int .u64 d) := by rw [← hW2]; exact h2.c2
            have g3 : wr.cell? ⟨g, 0, none⟩ = some (.int .u64 i) := by simp [World.cell?, HT.out.2]
            have g4 : wr.cell? ⟨g, 1, none⟩ = some (.int .u64 d) := by simp [World.cell?, HT.out.2]
            have H2 := Lib.hid h2
            have HB2 := Lib.hid hb2
            have HW2 := Lib.hid hW2
            clear hb2 h2 hW2
            cases hyes : beforeM i d i' d' with
            | true =>
              have HC1 := Lib.hid (fun V => before_any i d i' d' V)
              rw [hyes] at HC1
              have HCM := Lib.hid (fun V => compare_any i d i' d' V)
              rw [cmp_yes hyes] at HCM
              clear hyes
              go_wp2_with fail
              rw [← HW2.out]
              refine (HC1.out W2).mono ?_
              rintro e w3 ⟨rfl, hb3⟩
              have H3 := Lib.hid (H2.out.later hb3)
              have HB3 := Lib.hid (HB2.out.trans (hb3.mono HB2.out.size))
              clear hb3 g1 g2 g3 g4 e1 e2
              have g1 := H3.out.c1
              have g2 := H3.out.c2
              have g3 := H3.out.c3
              have g4 := H3.out.c4
              go_wp2_with fail
              refine (HCM.out w3).mono ?_
              rintro e w4 ⟨rfl, hb4⟩
              have H4 := Lib.hid (H3.out.later hb4)
              have HB4 := Lib.hid (HB3.out.trans (hb4.mono HB3.out.size))
              clear hb4 g1 g2 g3 g4
              go_wp2
              go_roundw
              case rel => exact ⟨t + 1, by omega, by go_num, Lib.hid ⟨HB4.out, H4.out.1⟩⟩
              case measure => simp [intOf]; omega
            | false =>
              have HC1 := Lib.hid (fun V => before_any i d i' d' V)
              rw [hyes] at HC1
              have HC2 := Lib.hid (fun V => before_any i' d' i d V)
              have HCM := Lib.hid (fun V => compare_any i d i' d' V)
              have HYN := Lib.hid hyes
              clear hyes
              cases hback : beforeM i' d' i d with
              | true =>
                rw [hback] at HC2
                rw [cmp_back HYN.out hback] at HCM
                clear hback
                go_wp2_with fail
                rw [← HW2.out]
                refine (HC1.out W2).mono ?_
                rintro e w3 ⟨rfl, hb3⟩
                have H3 := Lib.hid (H2.out.later hb3)
                have HB3 := Lib.hid (HB2.out.trans (hb3.mono HB2.out.size))
                clear hb3 g1 g2 g3 g4 e1 e2
                have g1 := H3.out.c1
                have g2 := H3.out.c2
                have g3 := H3.out.c3
                have g4 := H3.out.c4
                go_wp2_with fail
                refine (HC2.out w3).mono ?_
                rintro e w4 ⟨rfl, hb4⟩
                have H4 := Lib.hid (H3.out.later hb4)
                have HB4 := Lib.hid (HB3.out.trans (hb4.mono HB3.out.size))
                clear hb4 g1 g2 g3 g4
                have g1 := H4.out.c1
                have g2 := H4.out.c2
                have g3 := H4.out.c3
                have g4 := H4.out.c4
                go_wp2_with fail
                refine (HCM.out w4).mono ?_
                rintro e w5 ⟨rfl, hb5⟩
                have H5 := Lib.hid (H4.out.later hb5)
                have HB5 := Lib.hid (HB4.out.trans (hb5.mono HB4.out.size))
                clear hb5 g1 g2 g3 g4
                go_wp2
                go_roundw
                case rel => exact ⟨t + 1, by omega, by go_num, Lib.hid ⟨HB5.out, H5.out.1⟩⟩
                case measure => simp [intOf]; omega
              | false =>
                rw [hback] at HC2
                rw [cmp_no HYN.out hback] at HCM
                clear hback
                go_wp2_with fail
                rw [← HW2.out]
                refine (HC1.out W2).mono ?_
                rintro e w3 ⟨rfl, hb3⟩
                have H3 := Lib.hid (H2.out.later hb3)
                have HB3 := Lib.hid (HB2.out.trans (hb3.mono HB2.out.size))
                clear hb3 g1 g2 g3 g4 e1 e2
                have g1 := H3.out.c1
                have g2 := H3.out.c2
                have g3 := H3.out.c3
                have g4 := H3.out.c4
                go_wp2_with fail
                refine (HC2.out w3).mono ?_
                rintro e w4 ⟨rfl, hb4⟩
                have H4 := Lib.hid (H3.out.later hb4)
                have HB4 := Lib.hid (HB3.out.trans (hb4.mono HB3.out.size))
                clear hb4 g1 g2 g3 g4
                have g1 := H4.out.c1
                have g2 := H4.out.c2
                have g3 := H4.out.c3
                have g4 := H4.out.c4
                go_wp2_with fail
                refine (HCM.out w4).mono ?_
                rintro e w5 ⟨rfl, hb5⟩
                have H5 := Lib.hid (H4.out.later hb5)
                have HB5 := Lib.hid (HB4.out.trans (hb5.mono HB4.out.size))
                clear hb5 g1 g2 g3 g4
                go_wp2
                go_roundw
                case rel => exact ⟨t + 1, by omega, by go_num, Lib.hid ⟨HB5.out, H5.out.1⟩⟩
                case measure => simp [intOf]; omega
          · obtain rfl : t = n := by omega
            go_wp2
            go_roundw
            case rel => exact ⟨k + 1, by omega, by go_num, Lib.hid HT.out.1⟩
            case measure => simp [intOf]; omega
      · obtain rfl : k = n := by omega
        go_wp2
        go_ret
        exact ⟨rfl, HB.out⟩

set_option maxRecDepth 100000 in
theorem lifted (os : Os) (started : os.Started) (H : Type) (enc : TypeId × Value → H) :
    ReturnsInHanded {} Try.checked os 5 .any (Rows.vecOrderSpec.pre6 enc Try.prog Try.f5 Rows.vecOrderRow.domain false) (Rows.vecOrderSpec.post enc Try.prog Try.f5 false true false false) := by
  refine returnsInHanded_of_change (C := Try.checked) Try.own started (by kernel_rfl) Try.func5
    (ChangeSpec.witness6 (enc := enc) (C := Try.checked) false ⟨#[], #[.slice none 0 0], []⟩ 8 (by kernel_rfl) (by kernel_rfl) (by kernel_rfl) (by kernel_rfl)) ?_
  intro W base args ds gs before hval0 hW hcnd _
  have hval : ∀ (j : Nat) t v, Try.f5.params[j]? = some t → args[j]? = some v → Value.okWide Try.prog W .any base t v := hval0
  have hW' := hW
  obtain ⟨p, q, hA0, hV, rfl, hfz, hnd⟩ := hW
  have hA : DataW.TrodAll enc Try.prog W 0 (fun _ => true) true Try.f5.params.toList args.toList ds p := hA0
  rw [Try.params5] at hA hval
  have hA' := hA
  obtain ⟨v0, vs0, d0, ds0, p0, q0, hargs, rfl, rfl, h0, r0⟩ := trodAll_cons hA
  obtain ⟨rfl, rfl, rfl⟩ := trodAll_nil r0
  obtain rfl : args = #[v0] := by cases args; simp_all
  obtain ⟨rfl, rfl⟩ := trodVars_none hV
  obtain ⟨A0, len0, c0, rfl⟩ := okWide_slice Try.underlying44 (hval 0 44 v0 rfl rfl)
  obtain ⟨z0, rfl, sl0⟩ := open_hits h0
  clear hA0 hval0
  refine (walk A0 c0 z0 sl0).mono fun e W' ⟨he, bel⟩ => ?_
  subst he
  exact ⟨_, rfl, _, _, _, [], _, [], hW', trodAll_mk1 (shut_bool Try.underlying4 _), trodAll_below bel _ _ _ _ (by kernel_rfl) hA', rfl, bel.frame _, fun h => by cases h⟩

theorem proved : Rows.VecOrderSaid :=
  OpenClaim.holds_of_wide 5 Try.f5 rfl rfl rfl rfl rfl rfl rfl ⟨rfl, rfl, rfl, rfl, rfl⟩ rfl rfl rfl rfl rfl (by kernel_rfl) Try.func5 (by kernel_rfl)
    (of_decide_eq_true (by kernel_rfl)) (by unfold Func.isWrapper; first | (rw [if_pos (by decide +kernel)]; kernel_rfl) | (rw [if_neg (by decide +kernel)]; exact ⟨rfl, rfl⟩))
    (fun os started H enc _ => lifted os started H enc)
#print axioms proved
end Go.Proofs.Ytdfpiipnpaknaaa.vecOrder
