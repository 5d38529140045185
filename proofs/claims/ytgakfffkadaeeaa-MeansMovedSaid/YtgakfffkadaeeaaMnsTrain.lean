/-
  Train.
-/
import Derived.Test.YtgakfffkadaeeaaMnsRound
import Derived.WalkMore
namespace Go.Proofs.Ytgakfffkadaeeaa
open Go.RowKit Go.Shelf
set_option linter.unusedVariables false
set_option linter.unusedSimpArgs false
set_option maxRecDepth 100000

/-! ### Train -/
def trainV (l : List (List Int)) (d : List Int) : List (List Int) := if startE l d = 0 then trainM l d else []

set_option maxHeartbeats 2000000 in
theorem train_any (A A' : Option Addr) (c c' : Nat) (l : List (List Int)) (d : List Int) (w : World) (h : Vecs .i32 w A c l) (hd : Vec .i64 w A' c' d) :
    Calls Try.prog 16 #[.slice A l.length c, .slice A' d.length c'] w (GivesVE w (trainV l d) (startE l d)) := by
  have HR := Lib.hid (start_any A A' c c' l d w h hd)
  by_cases h0 : startE l d = 0
  · have HF := Lib.hid (show trainV l d = roundsM l 4 (startM l d) by unfold trainV; rw [if_pos h0]; rfl)
    have HS := Lib.hid (show startV l d = startM l d by unfold startV; rw [if_pos h0])
    have hv := vect_ok (start_ok h0).2
    have hdd := draws_ok (start_ok h0).1
    have a2 := allM_ok hv.2
    have a1 := a2.sub (start_mem hv.1.1 d)
    have HRd := Lib.hid (fun (k : Nat) (A1 : Option Addr) (c1 : Nat) (V : World) (hV : Below w.heap.size w V) (hq : Vecs .i32 V A1 c1 (roundsM l k (startM l d))) => show Calls Try.prog 23 #[.slice A1 d.length c1, .slice A l.length c] V (GivesVE V (roundsM l (k + 1) (startM l d)) 0) from by
      have hl1 : (roundsM l k (startM l d)).length = d.length := by rw [rounds_length, start_length]
      have hp : partsE (roundsM l k (startM l d)) l = 0 := parts_of (by omega) (by omega) hv.1.1 hv.1.2 (rounds_alike a1 a2 k) a2
      have := round_any A1 A c1 c (roundsM l k (startM l d)) l V hq (h.below hV)
      rw [hp, hl1] at this
      have e : roundV (roundsM l k (startM l d)) l = roundsM l (k + 1) (startM l d) := by unfold roundV; rw [if_pos hp]; rfl
      rw [e] at this
      exact this)
    have HSm := Lib.hid (fun (a b : List (List Int)) (A1 A2 : Option Addr) (c1 c2 : Nat) (V : World) (ha : a.length = d.length) (hb : b.length = d.length) (h1 : Vecs .i32 V A1 c1 a) (h2 : Vecs .i32 V A2 c2 b) => show Calls Try.prog 29 #[.slice A1 d.length c1, .slice A2 d.length c2] V (fun e w' => e = .returned (.bool (decide (a = b))) ∧ Below V.heap.size V w') from by
      have := sameV_any A1 A2 c1 c2 a b V h1 h2
      rw [ha, hb] at this
      exact this)
    have HLn := Lib.hid (show ∀ k, (roundsM l k (startM l d)).length = d.length from fun k => by rw [rounds_length, start_length])
    have HSt := Lib.hid (fun (k : Nat) (hk : k ≤ 4) (he : roundsM l k (startM l d) = roundsM l (k + 1) (startM l d)) => show roundsM l 4 (startM l d) = roundsM l k (startM l d) from rounds_rest (i := k) he.symm hk)
    rw [h0, HS.out] at HR
    rw [h0, HF.out]
    obtain ⟨C, hC⟩ : ∃ C : Nat → List (List Int), C = fun k => roundsM l k (startM l d) := ⟨_, rfl⟩
    have hCk : ∀ k, roundsM l k (startM l d) = C k := fun k => by rw [hC]
    have hC0 : startM l d = C 0 := by rw [hC]; rfl
    rw [hC0] at HR
    simp only [hCk] at HRd HLn HSt ⊢
    generalize l.length = n at *
    obtain ⟨m, hm⟩ : ∃ m, m = d.length := ⟨_, rfl⟩
    rw [← hm] at HR HRd HSm HLn ⊢
    clear h hd h0 HF HS hv hdd a1 a2 hC hCk hC0 hm
    go_enter Try.func16, Try.ntmps16
    go_wp2
    go_step3
    go_wp2_with fail
    refine HR.out.mono ?_
    rintro e w1 ⟨A1, c1, q, rfl, hq, ho, hb1⟩
    have hql : q.length = m := by rw [← vals_length, hq, HLn.out]
    have H0 := Lib.hid (show vals q = C 0 ∧ OwnVs w.heap.size w1 A1 c1 q ∧ Below w.heap.size w w1 ∧ q.length = m from ⟨hq, ho, hb1, hql⟩)
    rw [hql]
    clear hq ho hb1 hql
    go_wp2
    go_step3
    go_wp2
    go_loopw [6, 19] (fun s i wr => ∃ k A1 c1, k ≤ 4 ∧ i = .int .i64 (k : Nat) ∧ s = .slice A1 m c1 ∧ Hid (∃ q, vals q = C k ∧ OwnVs w.heap.size wr A1 c1 q ∧ Below w.heap.size w wr ∧ List.length q = m)) (fun _ i _ => 4 - (intOf i).toNat)
    case atStart => exact ⟨0, A1, c1, Nat.zero_le _, rfl, rfl, Lib.hid ⟨q, H0.out⟩⟩
    case round =>
      obtain ⟨k, A2, c2, hk, rfl, rfl, HI⟩ := hrel
      by_cases hk4 : k < 4
      · obtain ⟨q2, v2, o2, b2, l2⟩ := HI.out
        have HRk := Lib.hid (HRd.out k A2 c2 wr b2 (by rw [← v2]; exact o2.vecs))
        have HOK := Lib.hid (And.intro v2 (And.intro o2 (And.intro b2 l2)))
        have k0 : (0 : Int) ≤ k := by omega
        have kn : (k : Int) < 4 := by omega
        clear v2 o2 b2 l2
        go_wp2_with fail
        refine HRk.out.mono ?_
        rintro e w3 ⟨A3, c3, q3, rfl, v3, o3, b3⟩
        obtain ⟨v2, o2, b2, l2⟩ := HOK.out
        have l3 : q3.length = m := by rw [← vals_length, v3, HLn.out]
        have HSk := Lib.hid (HSm.out (C k) (C (k + 1)) A2 A3 c2 c3 w3 (HLn.out k) (HLn.out (k + 1)) (by rw [← v2]; exact (o2.below b3).vecs) (by rw [← v3]; exact o3.vecs))
        have HO3 := Lib.hid (show vals q3 = C (k + 1) ∧ OwnVs w.heap.size w3 A3 c3 q3 ∧ Below w.heap.size w w3 ∧ q3.length = m from ⟨v3, o3.mono b2.size, below_tr b2 b3, l3⟩)
        have HO2 := Lib.hid (show OwnVs w.heap.size w3 A2 c2 q2 from o2.below b3)
        rw [l3]
        clear v2 o2 b2 l2 v3 o3 b3 l3
        by_cases he : C k = C (k + 1)
        · rw [decide_eq_true he] at HSk
          have HE := Lib.hid (HSt.out k (by omega) he)
          clear he
          go_wp2_with fail
          refine HSk.out.mono ?_
          rintro e w4 ⟨rfl, hb4⟩
          have HO4 := Lib.hid (show vals q2 = C 4 ∧ OwnVs w.heap.size w4 A2 c2 q2 ∧ Below w.heap.size w w4 ∧ q2.length = m from ⟨by rw [HOK.out.1, HE.out], HO2.out.below hb4, below_tr HO3.out.2.2.1 hb4, HOK.out.2.2.2⟩)
          clear hb4
          go_wp2
          try rw [Exit.noGoto_ret]
          go_ret2
          exact ⟨A2, c2, q2, by rw [HO4.out.2.2.2]; rfl, HO4.out.1, HO4.out.2.1, HO4.out.2.2.1⟩
        · rw [decide_eq_false he] at HSk
          clear he
          go_wp2_with fail
          refine HSk.out.mono ?_
          rintro e w4 ⟨rfl, hb4⟩
          have HO4 := Lib.hid (show vals q3 = C (k + 1) ∧ OwnVs w.heap.size w4 A3 c3 q3 ∧ Below w.heap.size w w4 ∧ q3.length = m from ⟨HO3.out.1, HO3.out.2.1.below hb4, below_tr HO3.out.2.2.1 hb4, HO3.out.2.2.2⟩)
          clear hb4
          go_wp2
          go_roundw
          case rel => exact ⟨k + 1, A3, c3, by omega, by go_num, rfl, Lib.hid ⟨q3, HO4.out⟩⟩
          case measure => simp [intOf]; omega
      · obtain rfl : k = 4 := by omega
        go_wp2
        try rw [Exit.noGoto_ret]
        go_ret2
        obtain ⟨q2, v2, o2, b2, l2⟩ := HI.out
        exact ⟨A2, c2, q2, by rw [l2]; rfl, v2, o2, b2⟩
  · have HF := Lib.hid (show trainV l d = [] by unfold trainV; rw [if_neg h0])
    have HS := Lib.hid (show startV l d = [] by unfold startV; rw [if_neg h0])
    have t1 : (startE l d == 0) = false := by simpa using h0
    have t2 : (startE l d != 0) = true := by simpa using h0
    rw [HF.out]
    rw [HS.out] at HR
    generalize startE l d = E at *
    generalize l.length = n at *
    generalize d.length = m at *
    clear h hd h0 HF HS
    go_enter Try.func16, Try.ntmps16
    go_wp2
    go_step3
    go_wp2_with fail
    refine HR.out.mono ?_
    rintro e w1 ⟨A1, c1, q, rfl, hq, ho, hb1⟩
    have HB1 := Lib.hid hb1
    generalize q.length = z at *
    clear hb1 hq ho
    go_wp2
    try rw [Exit.noGoto_ret]
    go_ret2
    exact ⟨none, 0, [], rfl, rfl, OwnVs.nil _ _, HB1.out⟩
end Go.Proofs.Ytgakfffkadaeeaa
