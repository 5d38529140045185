/-
  Proved: the law ClockRuns, whatever ticks lead to the timestamps that the document says, or it is refused, returns true for every clock and row of ticks, and leaves all memory as it was. No condition.
-/
import Derived.Test.YtcohaaobdpcoiaaLawFrame
namespace Go.Proofs.Ytcohaaobdpcoiaa.clockRuns
open Go.ChangeShapes Go.WideShapes Go.ChangeAt Go.RowKit
set_option linter.unusedVariables false
set_option linter.unusedSimpArgs false
set_option maxRecDepth 100000

theorem vec_take {k : IntKind} {w : World} {A : Option Addr} {c : Nat} {xs : List Int} (h : Vec k w A c xs) (n : Nat) : Vec k w A c (xs.take n) := by
  have hl : (xs.take n).length ≤ xs.length := by simp; omega
  refine ⟨Nat.le_trans hl h.room, h.most, fun hp => ?_, fun x hx => h.fit x (List.mem_of_mem_take hx)⟩
  obtain ⟨b, o, e, hb, hc⟩ := h.rd (by omega)
  refine ⟨b, o, e, hb, fun j hj => ?_⟩
  rw [hc j (by omega)]
  have : j < n := by simp at hj; omega
  simp [List.getD, List.getElem?_take, this]

set_option maxHeartbeats 4000000 in
theorem walk {w : World} (N L : Int) (hN : U6 N) (hL : U6 L) (A : Option Addr) (ca : Nat) (xs : List Int) (H : Vec .i64 w A ca xs) :
    Calls Try.prog 4 #[.agg #[.int .u64 N, .int .u64 L], .slice A xs.length ca] w fun e w' => e = .returned (.bool true) ∧ Below w.heap.size w w' := by
  obtain ⟨W0, hW0⟩ : ∃ W0, W0 = w.alloc (.cells #[.int .u64 N, .int .u64 L] 24) := ⟨_, rfl⟩
  have hb0 : Below w.heap.size w W0 := by rw [hW0]; exact bel1 _ _
  have hc0 : CB W0 w.heap.size N L := by rw [hW0]; exact CB.new _ _ _
  have HW := Lib.hid hW0
  have HB0 := Lib.hid hb0
  have HC0 := Lib.hid hc0
  have hHt := vec_take H 100
  obtain ⟨ys, hys⟩ : ∃ ys, ys = xs.take 100 := ⟨_, rfl⟩
  rw [← hys] at hHt
  obtain ⟨m, hm⟩ : ∃ m, m = ys.length := ⟨_, rfl⟩
  have hm100 : m ≤ 100 := by rw [hm, hys]; simp; omega
  obtain ⟨n, hn⟩ : ∃ n, n = xs.length := ⟨_, rfl⟩
  have hmn : m = min 100 n := by rw [hm, hys, hn]; simp
  have hroom : n ≤ ca := by rw [hn]; exact H.room
  have hmost : ca ≤ 9223372036854775807 := H.most
  have hnil : 0 < n → ∃ b o, A = some ⟨b, o, none⟩ := fun h => by obtain ⟨b, o, e, _⟩ := H.rd (by omega); exact ⟨b, o, e⟩
  have HRun := Lib.hid (fun (X : World) (hX : Below w.heap.size w X) => show Calls Try.prog 16 #[.agg #[.int .u64 N, .int .u64 L], .slice A m ca] X (GivesR ys (N, L) X) from by
    have := run_any (N, L) hN hL (hHt.below hX) (by omega)
    rw [← hm] at this
    exact this)
  have HRr := Lib.hid (fun (hok : okC N L = true) (X : World) (hX : Below w.heap.size w X) => show Calls Try.prog 17 #[.agg #[.int .u64 N, .int .u64 L], .slice A m ca] X (fun e w' => ∃ A1 c1, e = .returned (.tuple #[.agg #[.int .u64 (rn ys (N, L) m).1.1, .int .u64 (rn ys (N, L) m).1.2], .slice A1 (rn ys (N, L) m).2.1.length c1, .bool (rn ys (N, L) m).2.2]) ∧ OwnK .u64 22 X.heap.size w' A1 c1 (rn ys (N, L) m).2.1 ∧ Below X.heap.size X w') from by
    have := rRun_any (N, L) ⟨hN.1, (okC_iff.1 hok).1, hL.1, (okC_iff.1 hok).2⟩ (hHt.below hX) (by omega)
    rw [← hm] at this
    exact this)
  have HRg := Lib.hid (fun (X : World) => rRight_any N L X hN hL)
  have HFl := Lib.hid (show rnC ys (N, L) = (if okC N L = true then (rn ys (N, L) m).1 else (0, 0)) ∧ rnL ys (N, L) = (if okC N L = true then (rn ys (N, L) m).2.1 else []) ∧ rnE ys (N, L) = (if okC N L = true then (if (rn ys (N, L) m).2.2 = true then 0 else 251) else 250) from by
    unfold rnC rnL rnE
    rw [hm]
    exact ⟨rfl, rfl, rfl⟩)
  unfold GivesR at HRun
  have hq := eqC
  have bz := bldZ
  rw [← hn]
  clear H hHt hys hm hn hb0 hc0 hW0 hN hL
  by_cases hle : n ≤ 100
  · obtain rfl : m = n := by omega
    have t1 : decide ((100 : Int) < (m : Int)) = false := by simp; omega
    clear hle hmn hnil
    go_enter Try.func4, Try.ntmps4
    go_wp2_with (rw [← HW.out])
    refine (wakes_any _).mono ?_
    rintro e w1 ⟨rfl, hb1⟩
    have hcb := HC0.out.below hb1
    have c0 := hcb.c0
    have c1 := hcb.c1
    have HB1 := Lib.hid (And.intro hcb (HB0.out.trans (hb1.mono HB0.out.size)))
    clear hb1 hcb
    go_wp2_with fail
    refine (HRun.out _ HB1.out.2).mono ?_
    rintro e w2 ⟨A1, d1, rfl, ho, hb2⟩
    obtain ⟨f1, f2, f3⟩ := HFl.out
    cases hok : okC N L with
    | false =>
      rw [hok, if_neg (by simp)] at f1 f2 f3
      rw [f1, f2, f3]
      obtain ⟨hcb, hbw⟩ := HB1.out
      have hb3 := below_tr hb2 (bel1 w2 (.cells #[.int .u64 0, .int .u64 0] 24))
      have h3 := hcb.below hb3
      have e0 := h3.c0
      have e1 := h3.c1
      have hx := CB.new w2 0 0
      have HB3 := Lib.hid (And.intro hx (hbw.trans (hb3.mono hbw.size)))
      have HRg1 := Lib.hid (fun (X : World) => show Calls Try.prog 13 #[.agg #[.int .u64 N, .int .u64 L]] X (fun e w' => e = .returned (.bool false) ∧ Below X.heap.size X w') from by rw [← hok]; exact HRg.out X)
      clear f1 f2 f3 hok ho hb2 hcb hbw hb3 h3 hx
      go_wp2_with fail
      refine (HRg1.out _).mono ?_
      rintro e w4 ⟨rfl, hb4⟩
      obtain ⟨hx, hbw⟩ := HB3.out
      have hx := hx.below hb4
      have y0 := hx.c0
      have y1 := hx.c1
      have HB4 := Lib.hid (hbw.trans (hb4.mono hbw.size))
      clear hx hbw hb4
      go_wp2
      go_ret
      exact ⟨by simp, HB4.out⟩
    | true =>
      rw [hok, if_pos rfl] at f1 f2 f3
      rw [f1, f2, f3]
      rw [f2] at ho
      have HRr1 := Lib.hid (HRr.out hok)
      have HRg1 := Lib.hid (fun (X : World) => show Calls Try.prog 13 #[.agg #[.int .u64 N, .int .u64 L]] X (fun e w' => e = .returned (.bool true) ∧ Below X.heap.size X w') from by rw [← hok]; exact HRg.out X)
      clear f1 f2 f3 hok
      generalize rn ys (N, L) m = r at *
      obtain ⟨⟨R1, R2⟩, RL, rb⟩ := r
      dsimp only at ho HRr1 ⊢
      obtain ⟨hcb, hbw⟩ := HB1.out
      have hb3 := below_tr hb2 (bel1 w2 (.cells #[.int .u64 R1, .int .u64 R2] 24))
      have h3 := hcb.below hb3
      have e0 := h3.c0
      have e1 := h3.c1
      have hx := CB.new w2 R1 R2
      have HB3 := Lib.hid (And.intro hx (And.intro (ho.below (bel1 w2 (.cells #[.int .u64 R1, .int .u64 R2] 24))) (And.intro h3 (hbw.trans (hb3.mono hbw.size)))))
      clear ho hb2 hcb hbw hb3 h3 hx
      cases rb with
      | true =>
        rw [if_pos rfl]
        go_wp2_with fail
        refine (HRg1.out _).mono ?_
        rintro e w4 ⟨rfl, hb4⟩
        obtain ⟨hx, ho, hcb, hbw⟩ := HB3.out
        have hx := hx.below hb4
        have hcb := hcb.below hb4
        have ho := ho.below hb4
        have y0 := hcb.c0
        have y1 := hcb.c1
        have HB4 := Lib.hid (And.intro hx (And.intro ho (hbw.trans (hb4.mono hbw.size))))
        clear hx hbw hb4 ho hcb
        go_wp2_with fail
        refine (HRr1.out _ HB4.out.2.2).mono ?_
        rintro e w5 ⟨A2, d2, rfl, ho2, hb5⟩
        obtain ⟨hx, ho, hbw⟩ := HB4.out
        have hb6 := below_tr hb5 (bel1 w5 (.cells #[.int .u64 R1, .int .u64 R2] 24))
        have hx := hx.below hb6
        have hw := CB.new w5 R1 R2
        have u0 := hx.c0
        have u1 := hx.c1
        have u2 := hw.c0
        have u3 := hw.c1
        have hE := eqU_any A1 A2 d1 d2 RL RL _ (ho.below hb6).vec (ho2.below (bel1 w5 (.cells #[.int .u64 R1, .int .u64 R2] 24))).vec
        rw [decide_eq_true (rfl : RL = RL)] at hE
        have HE := Lib.hid hE
        have HB6 := Lib.hid (hbw.trans (hb6.mono hbw.size))
        have q1 : (R1 == R1) = true := by simp
        have q2 : (R2 == R2) = true := by simp
        clear hx ho ho2 hbw hb5 hb6 hw hE
        generalize RL.length = rl at *
        go_wp2_with fail
        refine HE.out.mono ?_
        rintro e w7 ⟨rfl, hb7⟩
        have HB7 := Lib.hid (HB6.out.trans (hb7.mono HB6.out.size))
        clear hb7
        go_wp2
        go_ret
        exact ⟨by simp, HB7.out⟩
      | false =>
        rw [if_neg (by simp)]
        go_wp2_with fail
        refine (HRg1.out _).mono ?_
        rintro e w4 ⟨rfl, hb4⟩
        obtain ⟨hx, ho, hcb, hbw⟩ := HB3.out
        have hx := hx.below hb4
        have hcb := hcb.below hb4
        have ho := ho.below hb4
        have y0 := hcb.c0
        have y1 := hcb.c1
        have HB4 := Lib.hid (And.intro hx (And.intro ho (hbw.trans (hb4.mono hbw.size))))
        clear hx hbw hb4 ho hcb
        go_wp2_with fail
        refine (HRr1.out _ HB4.out.2.2).mono ?_
        rintro e w5 ⟨A2, d2, rfl, ho2, hb5⟩
        obtain ⟨hx, ho, hbw⟩ := HB4.out
        have hb6 := below_tr hb5 (bel1 w5 (.cells #[.int .u64 R1, .int .u64 R2] 24))
        have hx := hx.below hb6
        have hw := CB.new w5 R1 R2
        have u0 := hx.c0
        have u1 := hx.c1
        have u2 := hw.c0
        have u3 := hw.c1
        have hE := eqU_any A1 A2 d1 d2 RL RL _ (ho.below hb6).vec (ho2.below (bel1 w5 (.cells #[.int .u64 R1, .int .u64 R2] 24))).vec
        rw [decide_eq_true (rfl : RL = RL)] at hE
        have HE := Lib.hid hE
        have HB6 := Lib.hid (hbw.trans (hb6.mono hbw.size))
        have q1 : (R1 == R1) = true := by simp
        have q2 : (R2 == R2) = true := by simp
        clear hx ho ho2 hbw hb5 hb6 hw hE
        generalize RL.length = rl at *
        go_wp2_with fail
        refine HE.out.mono ?_
        rintro e w7 ⟨rfl, hb7⟩
        have HB7 := Lib.hid (HB6.out.trans (hb7.mono HB6.out.size))
        clear hb7
        go_wp2
        go_ret
        exact ⟨by simp, HB7.out⟩
  · obtain ⟨b1, o1, rfl⟩ := hnil (by omega)
    obtain rfl : m = 100 := by omega
    have t1 : decide ((100 : Int) < (n : Int)) = true := by simp; omega
    have t2 : decide ((100 : Int) ≤ (ca : Int)) = true := by simp; omega
    have t3 : (100 : Int) ≤ (ca : Int) := by omega
    clear hle hmn hnil
    go_enter Try.func4, Try.ntmps4
    go_wp2_with (rw [← HW.out])
    refine (wakes_any _).mono ?_
    rintro e w1 ⟨rfl, hb1⟩
    have hcb := HC0.out.below hb1
    have c0 := hcb.c0
    have c1 := hcb.c1
    have HB1 := Lib.hid (And.intro hcb (HB0.out.trans (hb1.mono HB0.out.size)))
    clear hb1 hcb
    go_wp2_with fail
    refine (HRun.out _ HB1.out.2).mono ?_
    rintro e w2 ⟨A1, d1, rfl, ho, hb2⟩
    obtain ⟨f1, f2, f3⟩ := HFl.out
    cases hok : okC N L with
    | false =>
      rw [hok, if_neg (by simp)] at f1 f2 f3
      rw [f1, f2, f3]
      obtain ⟨hcb, hbw⟩ := HB1.out
      have hb3 := below_tr hb2 (bel1 w2 (.cells #[.int .u64 0, .int .u64 0] 24))
      have h3 := hcb.below hb3
      have e0 := h3.c0
      have e1 := h3.c1
      have hx := CB.new w2 0 0
      have HB3 := Lib.hid (And.intro hx (hbw.trans (hb3.mono hbw.size)))
      have HRg1 := Lib.hid (fun (X : World) => show Calls Try.prog 13 #[.agg #[.int .u64 N, .int .u64 L]] X (fun e w' => e = .returned (.bool false) ∧ Below X.heap.size X w') from by rw [← hok]; exact HRg.out X)
      clear f1 f2 f3 hok ho hb2 hcb hbw hb3 h3 hx
      go_wp2_with fail
      refine (HRg1.out _).mono ?_
      rintro e w4 ⟨rfl, hb4⟩
      obtain ⟨hx, hbw⟩ := HB3.out
      have hx := hx.below hb4
      have y0 := hx.c0
      have y1 := hx.c1
      have HB4 := Lib.hid (hbw.trans (hb4.mono hbw.size))
      clear hx hbw hb4
      go_wp2
      go_ret
      exact ⟨by simp, HB4.out⟩
    | true =>
      rw [hok, if_pos rfl] at f1 f2 f3
      rw [f1, f2, f3]
      rw [f2] at ho
      have HRr1 := Lib.hid (HRr.out hok)
      have HRg1 := Lib.hid (fun (X : World) => show Calls Try.prog 13 #[.agg #[.int .u64 N, .int .u64 L]] X (fun e w' => e = .returned (.bool true) ∧ Below X.heap.size X w') from by rw [← hok]; exact HRg.out X)
      clear f1 f2 f3 hok
      generalize rn ys (N, L) 100 = r at *
      obtain ⟨⟨R1, R2⟩, RL, rb⟩ := r
      dsimp only at ho HRr1 ⊢
      obtain ⟨hcb, hbw⟩ := HB1.out
      have hb3 := below_tr hb2 (bel1 w2 (.cells #[.int .u64 R1, .int .u64 R2] 24))
      have h3 := hcb.below hb3
      have e0 := h3.c0
      have e1 := h3.c1
      have hx := CB.new w2 R1 R2
      have HB3 := Lib.hid (And.intro hx (And.intro (ho.below (bel1 w2 (.cells #[.int .u64 R1, .int .u64 R2] 24))) (And.intro h3 (hbw.trans (hb3.mono hbw.size)))))
      clear ho hb2 hcb hbw hb3 h3 hx
      cases rb with
      | true =>
        rw [if_pos rfl]
        go_wp2_with fail
        refine (HRg1.out _).mono ?_
        rintro e w4 ⟨rfl, hb4⟩
        obtain ⟨hx, ho, hcb, hbw⟩ := HB3.out
        have hx := hx.below hb4
        have hcb := hcb.below hb4
        have ho := ho.below hb4
        have y0 := hcb.c0
        have y1 := hcb.c1
        have HB4 := Lib.hid (And.intro hx (And.intro ho (hbw.trans (hb4.mono hbw.size))))
        clear hx hbw hb4 ho hcb
        go_wp2_with fail
        refine (HRr1.out _ HB4.out.2.2).mono ?_
        rintro e w5 ⟨A2, d2, rfl, ho2, hb5⟩
        obtain ⟨hx, ho, hbw⟩ := HB4.out
        have hb6 := below_tr hb5 (bel1 w5 (.cells #[.int .u64 R1, .int .u64 R2] 24))
        have hx := hx.below hb6
        have hw := CB.new w5 R1 R2
        have u0 := hx.c0
        have u1 := hx.c1
        have u2 := hw.c0
        have u3 := hw.c1
        have hE := eqU_any A1 A2 d1 d2 RL RL _ (ho.below hb6).vec (ho2.below (bel1 w5 (.cells #[.int .u64 R1, .int .u64 R2] 24))).vec
        rw [decide_eq_true (rfl : RL = RL)] at hE
        have HE := Lib.hid hE
        have HB6 := Lib.hid (hbw.trans (hb6.mono hbw.size))
        have q1 : (R1 == R1) = true := by simp
        have q2 : (R2 == R2) = true := by simp
        clear hx ho ho2 hbw hb5 hb6 hw hE
        generalize RL.length = rl at *
        go_wp2_with fail
        refine HE.out.mono ?_
        rintro e w7 ⟨rfl, hb7⟩
        have HB7 := Lib.hid (HB6.out.trans (hb7.mono HB6.out.size))
        clear hb7
        go_wp2
        go_ret
        exact ⟨by simp, HB7.out⟩
      | false =>
        rw [if_neg (by simp)]
        go_wp2_with fail
        refine (HRg1.out _).mono ?_
        rintro e w4 ⟨rfl, hb4⟩
        obtain ⟨hx, ho, hcb, hbw⟩ := HB3.out
        have hx := hx.below hb4
        have hcb := hcb.below hb4
        have ho := ho.below hb4
        have y0 := hcb.c0
        have y1 := hcb.c1
        have HB4 := Lib.hid (And.intro hx (And.intro ho (hbw.trans (hb4.mono hbw.size))))
        clear hx hbw hb4 ho hcb
        go_wp2_with fail
        refine (HRr1.out _ HB4.out.2.2).mono ?_
        rintro e w5 ⟨A2, d2, rfl, ho2, hb5⟩
        obtain ⟨hx, ho, hbw⟩ := HB4.out
        have hb6 := below_tr hb5 (bel1 w5 (.cells #[.int .u64 R1, .int .u64 R2] 24))
        have hx := hx.below hb6
        have hw := CB.new w5 R1 R2
        have u0 := hx.c0
        have u1 := hx.c1
        have u2 := hw.c0
        have u3 := hw.c1
        have hE := eqU_any A1 A2 d1 d2 RL RL _ (ho.below hb6).vec (ho2.below (bel1 w5 (.cells #[.int .u64 R1, .int .u64 R2] 24))).vec
        rw [decide_eq_true (rfl : RL = RL)] at hE
        have HE := Lib.hid hE
        have HB6 := Lib.hid (hbw.trans (hb6.mono hbw.size))
        have q1 : (R1 == R1) = true := by simp
        have q2 : (R2 == R2) = true := by simp
        clear hx ho ho2 hbw hb5 hb6 hw hE
        generalize RL.length = rl at *
        go_wp2_with fail
        refine HE.out.mono ?_
        rintro e w7 ⟨rfl, hb7⟩
        have HB7 := Lib.hid (HB6.out.trans (hb7.mono HB6.out.size))
        clear hb7
        go_wp2
        go_ret
        exact ⟨by simp, HB7.out⟩

set_option maxRecDepth 100000 in
theorem lifted (os : Os) (started : os.Started) (H : Type) (enc : TypeId × Value → H) :
    ReturnsInHanded {} Try.checked os 4 .any (Rows.clockRunsSpec.pre6 enc Try.prog Try.f4 Rows.clockRunsRow.domain false) (Rows.clockRunsSpec.post enc Try.prog Try.f4 false true false false) := by
  refine returnsInHanded_of_change (C := Try.checked) Try.own started (by kernel_rfl) Try.func4
    (ChangeSpec.witness6 (enc := enc) (C := Try.checked) false ⟨#[], #[.agg #[.int .u64 0, .int .u64 0], .slice none 0 0], []⟩ 8 (by kernel_rfl) (by kernel_rfl) (by kernel_rfl) (by kernel_rfl)) ?_
  intro W base args ds gs before hval0 hW hcnd _
  have hval : ∀ (j : Nat) t v, Try.f4.params[j]? = some t → args[j]? = some v → Value.okWide Try.prog W .any base t v := hval0
  have hW' := hW
  obtain ⟨p, q, hA0, hV, rfl, hfz, hnd⟩ := hW
  have hA : DataW.TrodAll enc Try.prog W 0 (fun _ => true) true Try.f4.params.toList args.toList ds p := hA0
  rw [Try.params4] at hA hval
  have hA' := hA
  obtain ⟨v0, vs0, d0, ds0, p0, q0, hargs, rfl, rfl, h0, r0⟩ := trodAll_cons hA
  obtain ⟨v1, vs1, d1, ds1, p1, q1, rfl, rfl, rfl, h1, r1⟩ := trodAll_cons r0
  obtain ⟨rfl, rfl, rfl⟩ := trodAll_nil r1
  obtain rfl : args = #[v0, v1] := by cases args; simp_all
  obtain ⟨rfl, rfl⟩ := trodVars_none hV
  obtain ⟨a0, b0, rfl, ua0, ub0⟩ := open_clock (hval 0 24 v0 rfl rfl) h0
  obtain ⟨A1, len1, c1, rfl⟩ := okWide_slice Try.underlying40 (hval 1 40 v1 rfl rfl)
  obtain ⟨z1, rfl, sl1⟩ := open_nums h1
  clear hA0 hval0
  refine (walk a0 b0 ua0 ub0 A1 c1 z1 sl1).mono fun e W' ⟨he, bel⟩ => ?_
  subst he
  exact ⟨_, rfl, _, _, _, [], _, [], hW', trodAll_mk1 (shut_bool Try.underlying4 _), trodAll_below bel _ _ _ _ (by kernel_rfl) hA', rfl, bel.frame _, fun h => by cases h⟩

theorem proved : Rows.ClockRunsSaid :=
  OpenClaim.holds_of_wide 4 Try.f4 rfl rfl rfl rfl rfl rfl rfl ⟨rfl, rfl, rfl, rfl, rfl⟩ rfl rfl rfl rfl rfl (by kernel_rfl) Try.func4 (by kernel_rfl)
    (of_decide_eq_true (by kernel_rfl)) (by unfold Func.isWrapper; first | (rw [if_pos (by decide +kernel)]; kernel_rfl) | (rw [if_neg (by decide +kernel)]; exact ⟨rfl, rfl⟩))
    (fun os started H enc _ => lifted os started H enc)
#print axioms proved
end Go.Proofs.Ytcohaaobdpcoiaa.clockRuns
