/-
  LisWakes, LisWake, LisFrame.
-/
import Derived.Test.YtcekgllahlhaaaaMLisB
import Derived.Test.YtcekgllahlhaaaaMLisA
import Derived.Test.YtcekgllahlhaaaaMAre
import Derived.Test.YtcekgllahlhaaaaMLisR
import Derived.Deep.RegionHeld3
import Derived.Deep.Cut
import Derived.Test.YtcekgllahlhaaaaMArf
namespace Go.Proofs.Ytcekgllahlhaaaa
open Go.RowKit Go.Shelf
open MskL (Mk Ms mv has mk Fine MRow MBox rightM slotB hasB cnt has_mk mk_congr mk_fine ofM ofE withM withW GivesM GivesME chkM)
set_option linter.unusedVariables false
set_option linter.unusedSimpArgs false
set_option maxRecDepth 100000

/-- More than is gone through. -/
def overB (l : List Ce) : Bool := decide (120 < l.length) || l.any fun e => decide (50 < e.x.length)
theorem over_no {l : List Ce} (h : overB l = false) : l.length ≤ 120 ∧ ∀ e ∈ l, e.x.length ≤ 50 := by
  unfold overB at h
  rw [Bool.or_eq_false_iff] at h
  obtain ⟨h1, h2⟩ := h
  refine ⟨by simpa using h1, fun e he => ?_⟩
  rw [List.any_eq_false] at h2
  have := h2 e he
  simp at this
  omega

def overV (C : List (List Int)) : Bool := decide (20 < C.length) || C.any fun x => decide (50 < x.length)
def overL (C : List (List Int)) (M : List Mk) : Bool := overV C || decide (20 < M.length)
theorem overV_no {C : List (List Int)} (h : overV C = false) : C.length ≤ 20 ∧ ∀ x ∈ C, x.length ≤ 50 := by
  unfold overV at h
  rw [Bool.or_eq_false_iff] at h
  obtain ⟨h1, h2⟩ := h
  refine ⟨by simpa using h1, fun e he => ?_⟩
  rw [List.any_eq_false] at h2
  have := h2 e he
  simp at this
  omega
theorem overL_no {C : List (List Int)} {M : List Mk} (h : overL C M = false) : (C.length ≤ 20 ∧ ∀ x ∈ C, x.length ≤ 50) ∧ M.length ≤ 20 := by
  unfold overL at h
  rw [Bool.or_eq_false_iff] at h
  exact ⟨overV_no h.1, by simpa using h.2⟩

set_option maxHeartbeats 1000000 in
theorem overV_any (A : Option Addr) (c : Nat) (C : List (List Int)) (w : World) (h : Vecs .i32 w A c C) :
    Calls Try.prog 24 #[.slice A C.length c] w fun e w' => e = .returned (.bool (overV C)) ∧ w = w' := by
  obtain ⟨n, hn⟩ : ∃ n, n = C.length := ⟨_, rfl⟩
  have hmn : n ≤ 9223372036854775807 := by rw [hn]; exact Nat.le_trans h.room h.most
  have hnc : n ≤ c := by rw [hn]; exact h.room
  have hcm := h.most
  rw [← hn]
  obtain ⟨R, hR⟩ : ∃ R, R = overV C := ⟨_, rfl⟩
  rw [← hR]
  have HQ := Lib.hid h
  have HN := Lib.hid hn
  by_cases h20 : 20 < n
  · have HF := Lib.hid (show R = true by rw [hR]; unfold overV; rw [← hn]; simp [h20])
    have t : decide ((20 : Int) < n) = true := by simp; omega
    clear h hn hR h20
    go_enter Try.func24, Try.ntmps24
    go_wp2
    go_ret
    rw [HF.out]
    exact ⟨rfl, rfl⟩
  · have t : decide ((20 : Int) < n) = false := by simp; omega
    have HAny := Lib.hid (show C.any (fun x => decide (50 < x.length)) = R by rw [hR]; unfold overV; rw [← hn]; simp [h20])
    clear h hn hR h20
    go_enter Try.func24, Try.ntmps24
    go_wp2
    go_loopw [10] (fun i wr => ∃ k : Nat, k ≤ n ∧ i = .int .i64 k ∧ w = wr ∧ Hid (NoneK (fun x : List Int => decide (50 < x.length)) C k)) (fun i _ => n - (intOf i).toNat)
    case atStart => exact ⟨0, Nat.zero_le _, rfl, rfl, Lib.hid (fun j u hj => absurd hj (Nat.not_lt_zero _))⟩
    case round =>
      obtain ⟨k, hk, rfl, rfl, HK⟩ := hrel
      by_cases hkn : k < n
      · obtain ⟨b, o, x, B, cb, rfl, hx, hb, c0, hv⟩ := HQ.out.at_ (i := k) (by rw [← HN.out]; exact hkn)
        have HP := Lib.hid hx
        have k0 : (0 : Int) ≤ k := by omega
        have kn : (k : Int) < n := by omega
        clear hv hx hb
        by_cases h50 : 50 < x.length
        · have HF := Lib.hid (show R = true by rw [← HAny.out]; exact List.any_eq_true.2 ⟨x, List.mem_of_getElem? HP.out, by simpa using h50⟩)
          have t5 : decide ((50 : Int) < x.length) = true := by simp; omega
          generalize x.length = nx at *
          clear h50
          go_wp2
          go_ret
          rw [HF.out]
          exact ⟨rfl, by first | rfl | trivial⟩
        · have HK2 := Lib.hid (HK.out.step HP.out (by simpa using h50))
          have t5 : decide ((50 : Int) < x.length) = false := by simp; omega
          generalize x.length = nx at *
          clear h50
          go_wp2
          go_roundw
          case rel => exact ⟨k + 1, by omega, by go_num, by first | rfl | trivial, HK2⟩
          case measure => simp [intOf]; omega
      · obtain rfl : k = n := by omega
        have HF := Lib.hid (show R = false by
          rw [← HAny.out, List.any_eq_false]
          intro e he
          obtain ⟨j, hj, rfl⟩ := List.getElem_of_mem he
          have h5 : decide (50 < (C[j]).length) = false := HK.out j _ (by rw [HN.out]; exact hj) (List.getElem?_eq_getElem hj)
          rw [h5]; simp)
        go_wp2
        go_ret
        rw [HF.out]
        exact ⟨rfl, by first | rfl | trivial⟩
theorem overL_any (A : Option Addr) (c : Nat) (C : List (List Int)) (B : Option Addr) (d : Nat) (M : List Mk) (w : World) (h : Lis w A c C B d M) :
    Calls Try.prog 6 #[lv A c C.length B d M.length] w fun e w' => e = .returned (.bool (overL C M)) ∧ Below w.heap.size w w' := by
  obtain ⟨W0, hW0⟩ : ∃ W0, W0 = w.alloc (.cells #[.slice A C.length c, .slice B M.length d] 25) := ⟨_, rfl⟩
  obtain ⟨hl0, hb0⟩ := lbox w A C.length c B M.length d
  rw [← hW0] at hl0 hb0
  have HC := Lib.hid (overV_any A c C W0 (h.cs.below hb0))
  have HF := Lib.hid (show overL C M = (overV C || decide (20 < M.length)) from rfl)
  have HB := Lib.hid hb0
  have HW0 := Lib.hid hW0
  obtain ⟨x0, x1⟩ := hl0
  generalize overL C M = R at *
  generalize overV C = P at *
  generalize C.length = n at *
  generalize M.length = m at *
  clear h hb0 hW0
  unfold lv
  cases P with
  | true =>
    have HF2 := Lib.hid (show R = true by rw [HF.out]; rfl)
    go_enter Try.func6, Try.ntmps6
    go_wp2_with (rw [← HW0.out])
    refine HC.out.mono ?_
    rintro e w1 ⟨rfl, rfl⟩
    go_wp2
    go_ret
    rw [HF2.out]
    exact ⟨rfl, HB.out⟩
  | false =>
    by_cases h20 : 20 < m
    · have HF2 := Lib.hid (show R = true by rw [HF.out, decide_eq_true h20]; rfl)
      have t : decide ((20 : Int) < m) = true := by simp; omega
      go_enter Try.func6, Try.ntmps6
      go_wp2_with (rw [← HW0.out])
      refine HC.out.mono ?_
      rintro e w1 ⟨rfl, rfl⟩
      go_wp2
      go_ret
      rw [HF2.out]
      exact ⟨rfl, HB.out⟩
    · have HF2 := Lib.hid (show R = false by rw [HF.out, decide_eq_false h20]; rfl)
      have t : decide ((20 : Int) < m) = false := by simp; omega
      go_enter Try.func6, Try.ntmps6
      go_wp2_with (rw [← HW0.out])
      refine HC.out.mono ?_
      rintro e w1 ⟨rfl, rfl⟩
      go_wp2
      go_ret
      rw [HF2.out]
      exact ⟨rfl, HB.out⟩

def b1 : List Ce := (List.replicate 96 zc).set 0 ⟨true, 2, 1, 0, [4]⟩
def b2 : List Ce := b1.set 1 ⟨true, 7, 1, 0, [9]⟩
theorem u64_lit (n : Int) (h0 : 0 ≤ n) (h1 : n ≤ 1000) : U64s n := by
  unfold U64s
  simp [Lit.wf, IntKind.min, IntKind.max, IntKind.signed, IntKind.bits]
  omega
theorem own_one (w : World) (x : Int) (hx : (Lit.int .i32 x).wf = true) {base : Nat} (hb : base ≤ w.heap.size) : OwnV base (w.alloc (.cells #[.int .i32 x] 21)) (some ⟨w.heap.size, 0, none⟩) 1 [x] :=
  ⟨⟨rfl, .inr ⟨w.heap.size, 1, #[.int .i32 x], rfl, hb, heap_alloc_new _ _, Nat.le_refl 1, by unfold maxLen; omega, rfl, rfl⟩⟩, fun y hy => by simp at hy; subst hy; exact hx⟩
theorem vec_one32 (w : World) (x : Int) (hx : (Lit.int .i32 x).wf = true) : Vec .i32 (w.alloc (.cells #[.int .i32 x] 21)) (some ⟨w.heap.size, 0, none⟩) 1 [x] :=
  ⟨by simp, by omega, fun _ => ⟨w.heap.size, 0, rfl, by simp, fun j hj => by
    obtain rfl : j = 0 := by simp at hj; omega
    exact cell_laid _ _ _ 0⟩, fun y hy => by simp at hy; subst hy; exact hx⟩

set_option maxHeartbeats 2000000 in
theorem two_any (w : World) : Calls Try.prog 21 #[] w fun e w' => ∃ A c q, e = .returned (.agg #[.slice A 96 c]) ∧ List.length q = 96 ∧ ces q = b2 ∧ Are w' A c q ∧ Below w.heap.size w w' := by
  obtain ⟨W0, hW0⟩ : ∃ W0, W0 = w.alloc (.cells #[.slice none 0 0] 55) := ⟨_, rfl⟩
  have hb0 : Below w.heap.size w W0 := by rw [hW0]; exact (Below.refl _ w).alloc (Nat.le_refl _) _
  have hx0 : Boxed W0 w.heap.size 55 (.slice none 0 0) := by rw [hW0]; exact Boxed.new w _ _
  have HB0 := Lib.hid hb0
  have HX0 := Lib.hid hx0
  have HW0 := Lib.hid hW0
  have HN := Lib.hid (rNewA_any W0)
  clear hb0 hx0 hW0
  go_enter Try.func21, Try.ntmps21
  go_wp2_with fail
  rw [← HW0.out]
  refine HN.out.mono ?_
  rintro e w1 ⟨g, q0, rfl, hq0, hl0, ho0, hb1⟩
  have hbA : Below w1.heap.size w1 (w1.alloc (.cells #[.int .i32 4] 21)) := (Below.refl _ w1).alloc (Nat.le_refl _) _
  have hv5 := vec_one32 w1 4 (by decide)
  have ha0 := ho0.are.below hbA
  have hw := rWith_any (some ⟨g, 0, none⟩) 96 q0 0 ⟨⟨true, 2, 1, 0, [4]⟩, some ⟨w1.heap.size, 0, none⟩, 1⟩ _ ha0 (by rw [hl0]; omega) (by rw [hl0]; omega)
  have HB1 := Lib.hid (hb1.trans (hbA.mono hb1.size))
  have HV0 := Lib.hid (show ∀ p ∈ q0.set 0 ⟨⟨true, 2, 1, 0, [4]⟩, some ⟨w1.heap.size, 0, none⟩, 1⟩, OwnV W0.heap.size (w1.alloc (.cells #[.int .i32 4] 21)) p.B p.c p.e.x from fun p hp => by
    rcases List.mem_or_eq_of_mem_set hp with hp | rfl
    · exact (ho0.el p hp).below hbA
    · exact own_one w1 4 (by decide) hb1.size)
  have HF0 := Lib.hid (show ∀ p ∈ q0.set 0 ⟨⟨true, 2, 1, 0, [4]⟩, some ⟨w1.heap.size, 0, none⟩, 1⟩, Fit p.e from fun p hp => by
    rcases List.mem_or_eq_of_mem_set hp with hp | rfl
    · exact ha0.fit p hp
    · exact ⟨u64_lit 2 (by decide) (by decide), u64_lit 1 (by decide) (by decide), u64_0⟩)
  have HQ0 := Lib.hid hq0
  have HL0 := Lib.hid hl0
  rw [hl0] at hw
  have HWi := Lib.hid hw
  clear hq0 hl0 ho0 hb1 hbA hv5 ha0 hw
  go_wp2_with fail
  refine HWi.out.mono ?_
  rintro e w2 ⟨A2, c2, rfl, hr2, hb2⟩
  have hq1 : ces (q0.set 0 ⟨⟨true, 2, 1, 0, [4]⟩, some ⟨w1.heap.size, 0, none⟩, 1⟩) = b1 := by rw [ces_set, HQ0.out]; rfl
  have hl1 : (q0.set 0 (⟨⟨true, 2, 1, 0, [4]⟩, some ⟨w1.heap.size, 0, none⟩, 1⟩ : Pa)).length = 96 := by rw [List.length_set, HL0.out]
  have ha1 : Are w2 A2 c2 (q0.set 0 ⟨⟨true, 2, 1, 0, [4]⟩, some ⟨w1.heap.size, 0, none⟩, 1⟩) := RowA.are hr2 (fun p hp => (HV0.out p hp).vec) HF0.out hb2
  have hv1 := fun p hp => (HV0.out p hp).below hb2
  have hf1 := HF0.out
  generalize (q0.set 0 (⟨⟨true, 2, 1, 0, [4]⟩, some ⟨w1.heap.size, 0, none⟩, 1⟩ : Pa)) = q1 at *
  have HQ1 := Lib.hid hq1
  have HL1 := Lib.hid hl1
  obtain ⟨W3, hW3⟩ : ∃ W3, W3 = (w2.alloc (.cells #[.slice A2 96 c2] 55)).alloc (.cells #[.int .i32 9] 21) := ⟨_, rfl⟩
  have hb3 : Below w2.heap.size w2 W3 := by rw [hW3]; exact ((Below.refl _ w2).alloc (Nat.le_refl _) _).alloc (by simp) _
  have hv9 : Vec .i32 W3 (some ⟨w2.heap.size + 1, 0, none⟩) 1 [9] := by
    rw [hW3]
    have := vec_one32 (w2.alloc (.cells #[.slice A2 96 c2] 55)) 9 (by decide)
    rw [World.size_alloc] at this; exact this
  have ha1' := ha1.below hb3
  have hw := rWith_any A2 c2 q1 1 ⟨⟨true, 7, 1, 0, [9]⟩, some ⟨w2.heap.size + 1, 0, none⟩, 1⟩ W3 ha1' (by rw [hl1]; omega) (by rw [hl1]; omega)
  rw [hl1] at hw
  have HW2 := Lib.hid hw
  have HV1 := Lib.hid (show ∀ p ∈ q1.set 1 ⟨⟨true, 7, 1, 0, [9]⟩, some ⟨w2.heap.size + 1, 0, none⟩, 1⟩, OwnV W0.heap.size W3 p.B p.c p.e.x from fun p hp => by
    rcases List.mem_or_eq_of_mem_set hp with hp | rfl
    · exact (hv1 p hp).below hb3
    · rw [hW3]
      have := own_one (w2.alloc (.cells #[.slice A2 96 c2] 55)) 9 (by decide) (base := W0.heap.size) (by have := HB1.out.size; have := hb2.size; rw [World.size_alloc]; omega)
      rw [World.size_alloc] at this; exact this)
  have HF1 := Lib.hid (show ∀ p ∈ q1.set 1 ⟨⟨true, 7, 1, 0, [9]⟩, some ⟨w2.heap.size + 1, 0, none⟩, 1⟩, Fit p.e from fun p hp => by
    rcases List.mem_or_eq_of_mem_set hp with hp | rfl
    · exact hf1 p hp
    · exact ⟨u64_lit 7 (by decide) (by decide), u64_lit 1 (by decide) (by decide), u64_0⟩)
  have HB3 := Lib.hid (HB1.out.trans ((hb2.trans (hb3.mono hb2.size)).mono HB1.out.size))
  have HW3 := Lib.hid hW3
  clear hq1 hl1 ha1 hb3 hv9 ha1' hw hr2 hb2 hW3 hv1 hf1
  go_wp2_with fail
  rw [← HW3.out]
  refine HW2.out.mono ?_
  rintro e w4 ⟨A4, c4, rfl, hr4, hb4⟩
  have hq2 : ces (q1.set 1 ⟨⟨true, 7, 1, 0, [9]⟩, some ⟨w2.heap.size + 1, 0, none⟩, 1⟩) = b2 := by rw [ces_set, HQ1.out]; rfl
  have hl2 : (q1.set 1 (⟨⟨true, 7, 1, 0, [9]⟩, some ⟨w2.heap.size + 1, 0, none⟩, 1⟩ : Pa)).length = 96 := by rw [List.length_set, HL1.out]
  have hv2 := fun p hp => (HV1.out p hp).below hb4
  have hf2 := HF1.out
  have hr4' : RowA W3.heap.size w4 A4 c4 (q1.set 1 ⟨⟨true, 7, 1, 0, [9]⟩, some ⟨w2.heap.size + 1, 0, none⟩, 1⟩) := hr4
  generalize (q1.set 1 (⟨⟨true, 7, 1, 0, [9]⟩, some ⟨w2.heap.size + 1, 0, none⟩, 1⟩ : Pa)) = q2 at *
  have hbb : Below W0.heap.size W0 w4 := HB3.out.trans (hb4.mono HB3.out.size)
  have x4 : Boxed w4 w.heap.size 55 (.slice none 0 0) := (hbb.block _ HX0.out.lt).trans HX0.out
  obtain ⟨r0, hbR⟩ := res_set (.slice A4 96 c4) x4 (HB0.out.trans (hbb.mono HB0.out.size)) (Nat.le_refl _)
  have c0 := x4.cell
  have f0 := x4.frozen
  have HBR := Lib.hid hbR
  have hwz : W0.heap.size = w.heap.size + 1 := by rw [HW0.out]; simp
  have HA2 := Lib.hid (show Are (w4.setCell ⟨w.heap.size, 0, none⟩ (.slice A4 96 c4)) A4 c4 q2 from
    own_are (RowA.turn hr4' (turn_set w4 w.heap.size 0 (.slice A4 96 c4)) (fun i hi e => by have := (RowA.lo hr4' i hi).1; have := HB3.out.size; omega)) (fun p hp => ((hv2 p hp).turn (turn_set w4 w.heap.size 0 (.slice A4 96 c4)) (fun i hi _ e => by omega)).vec) hf2)
  have HQ2 := Lib.hid (And.intro hl2 hq2)
  clear hr4 hr4' hb4 hv2 hf2 hbb x4 hbR hl2 hq2
  go_wp2
  refine bodyPost_ret (v := .agg #[.slice A4 96 c4]) (by simp [results, Try.results21, go_sem, r0]) rfl ?_
  exact ⟨A4, c4, q2, rfl, HQ2.out.1, HQ2.out.2, HA2.out, HBR.out⟩

end Go.Proofs.Ytcekgllahlhaaaa

namespace Go.Proofs.Ytcekgllahlhaaaa
open Go.RowKit Go.Shelf
open MskL (Mk Ms mv has mk Fine MRow MBox rightM slotB hasB cnt has_mk mk_congr mk_fine ofM ofE withM withW GivesM GivesME chkM)
set_option linter.unusedVariables false
set_option linter.unusedSimpArgs false
set_option maxRecDepth 100000

def wC : List (List Int) := [[0], [10]]
def wM : List Mk := [(1, 0), (2, 0)]
theorem wk1 : buildE wC b2 = 0 := by decide +kernel
theorem wk2 : masksOf wC b2 = wM := by decide +kernel
theorem wk3 : okB wC wM = true := by decide +kernel
theorem wk4 : whereK wM 1 = 1 := by decide +kernel
theorem wk5 : buildM wC b2 = wM := by unfold buildM; rw [if_pos wk1, wk2]
theorem wk6 : buildC wC b2 = wC := by unfold buildC; rw [if_pos wk1]
theorem wk7 : agreeB wC wM b2 = true := by unfold agreeB; rw [wk1, wk2]; simp
theorem wk8 : whereI wC wM 1 = 1 := by unfold whereI; rw [wk3, wk4]; rfl
theorem wk9 : whereB wC wM 1 = true := by unfold whereB; rw [wk3, wk4]; rfl
theorem wfine : ∀ m ∈ wM, Fine m := by
  intro m hm
  simp [wM] at hm
  rcases hm with rfl | rfl <;> exact ⟨by decide, by decide⟩

set_option maxHeartbeats 4000000 in
theorem wakes_any (w : World) : Calls Try.prog 5 #[] w fun e w' => e = .returned (.bool true) ∧ Below w.heap.size w w' := by
  have HTw := Lib.hid (fun W => two_any W)
  go_enter Try.func5, Try.ntmps5
  go_wp2_with fail
  refine (HTw.out _).mono ?_
  rintro e w1 ⟨A, c, q, rfl, hl, hq, hA, hb1⟩
  obtain ⟨s, hs⟩ : ∃ s, s = w1.heap.size := ⟨_, rfl⟩
  obtain ⟨W3, hW3⟩ : ∃ W3, W3 = ((w1.alloc (.cells #[.int .i32 0] 21)).alloc (.cells #[.int .i32 10] 21)).alloc (.cells #[.slice (some ⟨s, 0, none⟩) 1 1, .slice (some ⟨s + 1, 0, none⟩) 1 1] 26) := ⟨_, rfl⟩
  have hb3 : Below w1.heap.size w1 W3 := by rw [hW3]; exact (((Below.refl _ _).alloc (Nat.le_refl _) _).alloc (by simp) _).alloc (by simp; omega) _
  have hv0 : Vec .i32 W3 (some ⟨s, 0, none⟩) 1 [0] := by
    rw [hW3, hs]
    exact (vec_one32 w1 0 (by decide)).below ((((Below.refl _ _).alloc (Nat.le_refl _) _)).alloc (by simp) _)
  have hv1 : Vec .i32 W3 (some ⟨s + 1, 0, none⟩) 1 [10] := by
    rw [hW3, hs]
    have := vec_one32 (w1.alloc (.cells #[.int .i32 0] 21)) 10 (by decide)
    rw [World.size_alloc] at this
    exact this.below ((Below.refl _ _).alloc (by simp) _)
  have hvs : Vecs .i32 W3 (some ⟨s + 2, 0, none⟩) 2 wC := by
    have e0 : W3.cell? ⟨s + 2, 0, none⟩ = some (.slice (some ⟨s, 0, none⟩) ([(0 : Int)]).length 1) := by
      rw [hW3, hs]
      have := cell_laid ((w1.alloc (.cells #[.int .i32 0] 21)).alloc (.cells #[.int .i32 10] 21)) #[.slice (some ⟨w1.heap.size, 0, none⟩) 1 1, .slice (some ⟨w1.heap.size + 1, 0, none⟩) 1 1] 26 0
      rw [World.size_alloc, World.size_alloc] at this
      exact this
    have e1 : W3.cell? ⟨s + 2, 1, none⟩ = some (.slice (some ⟨s + 1, 0, none⟩) ([(10 : Int)]).length 1) := by
      rw [hW3, hs]
      have := cell_laid ((w1.alloc (.cells #[.int .i32 0] 21)).alloc (.cells #[.int .i32 10] 21)) #[.slice (some ⟨w1.heap.size, 0, none⟩) 1 1, .slice (some ⟨w1.heap.size + 1, 0, none⟩) 1 1] 26 1
      rw [World.size_alloc, World.size_alloc] at this
      exact this
    exact vecs_two e0 e1 hv0 hv1
  have hbu := build_any A c q (some ⟨s + 2, 0, none⟩) 2 wC W3 (hA.below hb3) hvs
  rw [hq, hl, wk1, wk5, wk6, show wC.length = 2 from rfl] at hbu
  have HBu := Lib.hid hbu
  have HB3 := Lib.hid (hb1.trans (hb3.mono hb1.size))
  have HW3 := Lib.hid hW3
  have HS := Lib.hid hs
  clear hl hq hA hb1 hb3 hv0 hv1 hvs hbu hW3 hs
  go_wp2_with (simp only [World.size_alloc, Nat.add_assoc, Nat.reduceAdd]; rw [← HS.out, ← HW3.out])
  refine HBu.out.mono ?_
  rintro e w4 h4
  obtain ⟨A1, c1, B1, d1, rfl, hl4, hb4⟩ := h4.le
  rw [show wC.length = 2 from rfl, show wM.length = 2 from rfl]
  obtain ⟨g, hg⟩ : ∃ g, g = w4.heap.size := ⟨_, rfl⟩
  obtain ⟨W5, hW5⟩ : ∃ W5, W5 = w4.alloc (.cells #[.slice A1 2 c1, .slice B1 2 d1] 25) := ⟨_, rfl⟩
  obtain ⟨hl5, hb5⟩ := lbox w4 A1 2 c1 B1 2 d1
  rw [← hW5] at hl5 hb5
  rw [← hg] at hl5
  have hL5 := hl4.below hb5
  have HWh := Lib.hid (where_any A1 c1 wC B1 d1 wM 1 W5 hL5 (by omega))
  rw [wk8, wk9] at HWh
  obtain ⟨b, o, rfl, hbl, hcs⟩ := hL5.ms.rd (by decide)
  have hm0 := hcs 0 (1, 0) rfl
  have hm1 := hcs 1 (2, 0) rfl
  have HAg := Lib.hid (fun (X : World) (Ar : Option Addr) (ca : Nat) (q : List Pa) (hX : Below W5.heap.size W5 X) (ha : Are X Ar ca q) => agrees_any A1 c1 wC (some ⟨b, o, none⟩) d1 wM Ar ca q X (hL5.below hX) ha)
  have HK := Lib.hid (fun (X : World) (hX : Below W5.heap.size W5 X) => show (X.cell? ⟨g, 0, none⟩ = some (.slice A1 2 c1) ∧ X.cell? ⟨g, 1, none⟩ = some (.slice (some ⟨b, o, none⟩) 2 d1)) ∧ (X.cell? ⟨b, o, none⟩ = some (.int .u64 1) ∧ X.cell? ⟨b, o + 1, none⟩ = some (.int .u64 0)) ∧ (X.cell? ⟨b, o + 2, none⟩ = some (.int .u64 2) ∧ X.cell? ⟨b, o + 2 + 1, none⟩ = some (.int .u64 0)) from
    ⟨⟨(hl5.below hX hl5.lt).c0, (hl5.below hX hl5.lt).c1⟩, ⟨(hX.cell (p := ⟨b, o, none⟩) hbl).trans hm0.1, (hX.cell (p := ⟨b, o + 1, none⟩) hbl).trans hm0.2⟩, ⟨(hX.cell (p := ⟨b, o + 2, none⟩) hbl).trans hm1.1, (hX.cell (p := ⟨b, o + 2 + 1, none⟩) hbl).trans hm1.2⟩⟩)
  have hd1 := hL5.ms.room
  have hd2 := hL5.ms.most
  have hd3 : 2 ≤ d1 := hd1
  have HB5 := Lib.hid ((HB3.out.trans (hb4.mono HB3.out.size)).trans (hb5.mono (Nat.le_trans HB3.out.size hb4.size)))
  have HW5 := Lib.hid hW5
  have HG := Lib.hid hg
  have hq1 : ∀ W, (Op.equalIn 10000 38 (.agg #[.int .u64 1, .int .u64 0]) (.agg #[.int .u64 1, .int .u64 0])).run Try.prog W = .ok true W := fun W => MskL.eqM0 1 0 1 0 W
  have hq2 : ∀ W, (Op.equalIn 10000 38 (.agg #[.int .u64 2, .int .u64 0]) (.agg #[.int .u64 2, .int .u64 0])).run Try.prog W = .ok true W := fun W => MskL.eqM0 2 0 2 0 W
  unfold lv at HWh HAg
  rw [show wC.length = 2 from rfl, show wM.length = 2 from rfl] at HWh HAg
  clear h4 hl4 hb4 hl5 hb5 hL5 hbl hcs hm0 hm1 hW5 hg hd1 hd3
  unfold lv
  go_wp2_with fail
  rw [← HW5.out, ← HG.out]
  refine HWh.out.mono ?_
  rintro e w6 ⟨rfl, hb6⟩
  have HB6 := Lib.hid hb6
  clear hb6
  go_upto_region 3 with fail
  obtain ⟨⟨k0, k1⟩, ⟨k2, k3⟩, ⟨k4, k5⟩⟩ := HK.out w6 HB6.out
  go_region_held3 (fun X => (X.cell? ⟨g, 0, none⟩ = some (.slice A1 2 c1) ∧ X.cell? ⟨g, 1, none⟩ = some (.slice (some ⟨b, o, none⟩) 2 d1)) ∧ (X.cell? ⟨b, o, none⟩ = some (.int .u64 1) ∧ X.cell? ⟨b, o + 1, none⟩ = some (.int .u64 0)) ∧ (X.cell? ⟨b, o + 2, none⟩ = some (.int .u64 2) ∧ X.cell? ⟨b, o + 2 + 1, none⟩ = some (.int .u64 0)))
    (first | (with_reducible exact HK.out _ HB6.out) | (with_reducible exact HK.out _ (below_drew HB6.out)) | (with_reducible exact HK.out _ HB8.out) | (with_reducible exact HK.out _ HB9.out))
    (first
    | (go_at_call 21; (with_reducible refine (HTw.out _).mono ?_); rintro e w8 ⟨A8, c8, q8, rfl, hl8, hq8, hA8, hb8⟩; have HB8 := Lib.hid (below_tr (below_drew HB6.out) hb8); have hag := HAg.out w8 A8 c8 q8 HB8.out hA8; rw [hq8, hl8, wk7] at hag; have HA8 := Lib.hid hag; clear hl8 hq8 hA8 hb8 hag)
    | (go_at_call 23; (with_reducible refine HA8.out.mono ?_); rintro e w9 ⟨rfl, hb9⟩; have HB9 := Lib.hid (below_tr HB8.out hb9); clear hb9))
  all_goals (
    go_wp2
    go_ret
    exact ⟨by first | rfl | simp, HB5.out.trans (HB9.out.mono HB5.out.size)⟩)
end Go.Proofs.Ytcekgllahlhaaaa

namespace Go.Proofs.Ytcekgllahlhaaaa
open Go.ChangeShapes Go.WideShapes Go.ChangeAt Go.RowKit Go.Deep
open MskL (Mk Ms mv Fine)
set_option linter.unusedVariables false
set_option linter.unusedSimpArgs false
set_option maxRecDepth 100000

theorem arr2_core {H : Type} {enc : TypeId × Value → H} {W : World} {fuel : Nat} {t e : TypeId} {k : IntKind} {cs : List Value} {x : DataW H × List MemPlace} (ht : Try.prog.underlying t = some (.array 2 e)) (he : Try.prog.underlying e = some (.int k))
    (ce : Try.prog.cellsOf e = 1) (ct : Try.prog.cellsOf t = 2) (h : DataW.trod enc Try.prog W 0 (fun _ => true) true fuel t cs = some x) :
    ∃ a b : Int, cs = [.int k a, .int k b] ∧ (Lit.int k a).wf = true ∧ (Lit.int k b).wf = true := by
  obtain ⟨ys, n, _, _, hlen, hy, hf⟩ := DataW.trod_array ht h
  rw [ct] at hlen
  match cs, hlen with
  | [v0, v1], _ =>
    have f0 : DataW.trod enc Try.prog W 0 (fun _ => true) true n e [v0] = ys[0]? := by have h1 := hf 0 (by omega); rw [ce] at h1; exact h1
    have f1 : DataW.trod enc Try.prog W 0 (fun _ => true) true n e [v1] = ys[1]? := by have h1 := hf 1 (by omega); rw [ce] at h1; exact h1
    obtain ⟨y0, e0⟩ : ∃ y, ys[0]? = some y := ⟨_, List.getElem?_eq_getElem (by rw [hy]; omega)⟩
    obtain ⟨y1, e1⟩ : ∃ y, ys[1]? = some y := ⟨_, List.getElem?_eq_getElem (by rw [hy]; omega)⟩
    rw [e0] at f0
    rw [e1] at f1
    obtain ⟨a, ha, _, wa⟩ := DataW.trod_int he f0
    obtain ⟨b, hb, _, wb⟩ := DataW.trod_int he f1
    simp at ha hb
    subst ha
    subst hb
    exact ⟨a, b, rfl, wa, wb⟩
theorem okWide_array {P : Program} {w : World} {r : Reach} {base : Nat} {t : TypeId} {v : Value} {n : Nat} {e : TypeId} (ht : P.underlying t = some (.array n e)) (h : Value.okWide P w r base t v) : ∃ cs, v = .agg cs ∧ cs.size = P.cellsOf t := by
  simp only [Value.okWide, ht] at h
  obtain ⟨cs, h1, h2, _⟩ := h
  exact ⟨cs, h1, h2⟩
theorem u64_nat {a : Int} (h : (Lit.int .u64 a).wf = true) : ∃ k : Nat, a = (k : Int) ∧ k < 18446744073709551616 := by
  simp [Lit.wf, IntKind.min, IntKind.max, IntKind.signed, IntKind.bits] at h
  obtain ⟨k, rfl⟩ := Int.eq_ofNat_of_zero_le (show 0 ≤ a by omega)
  exact ⟨k, rfl, by omega⟩
theorem i64_fit {a : Int} (h : (Lit.int .i64 a).wf = true) : -9223372036854775808 ≤ a ∧ a ≤ 9223372036854775807 := by
  simp [Lit.wf, IntKind.min, IntKind.max, IntKind.signed, IntKind.bits] at h
  omega
theorem mask_core {H : Type} {enc : TypeId × Value → H} {W : World} {fuel : Nat} {cs : List Value} {x : DataW H × List MemPlace} (h : DataW.trod enc Try.prog W 0 (fun _ => true) true fuel 38 cs = some x) :
    ∃ m : Mk, cs = [.int .u64 m.1, .int .u64 m.2] ∧ Fine m := by
  obtain ⟨a, b, e, wa, wb⟩ := arr2_core Try.underlying38 Try.underlying36 (by kernel_rfl) (by kernel_rfl) h
  obtain ⟨x, rfl, hx⟩ := u64_nat wa
  obtain ⟨y, rfl, hy⟩ := u64_nat wb
  exact ⟨(x, y), e, hx, hy⟩
theorem masks_core {H : Type} {enc : TypeId × Value → H} {W : World} {fuel : Nat} {cs : List Value} {x : DataW H × List MemPlace} (hf : DataW.trod enc Try.prog W 0 (fun _ => true) true fuel 23 cs = some x) :
    ∃ A c l, cs = [.slice A (List.length l) c] ∧ Ms W A c l := by
  have h5 : Try.prog.cellsOf 38 = 2 := by kernel_rfl
  rcases open_slice Try.underlying23 hf with ⟨hcs, _⟩ | ⟨x, l1, c1, m, nn, D, Ps, hcs, _, hl, hm, hmm, _, hi⟩
  · exact ⟨none, 0, [], hcs, Ms.nil _⟩
  · obtain ⟨len, rfl⟩ : ∃ len, len = l1 := ⟨_, rfl⟩
    have hmc : m = c1 := by simpa using hmm
    subst hmc
    rw [h5] at hi
    have each : ∀ i, i < len → ∃ p : Mk, W.cell? (x.add (i * 2)) = some (.int .u64 p.1) ∧ W.cell? ((x.add (i * 2)).add 1) = some (.int .u64 p.2) ∧ Fine p := fun i him => by
      obtain ⟨cs', hc, ht⟩ := hi i (by omega)
      obtain ⟨p, hcs', hfit⟩ := mask_core ht
      obtain ⟨_, _, hat⟩ := World.cells?_some hc
      subst hcs'
      refine ⟨p, ?_, ?_, hfit⟩
      · have := hat 0 (by omega); simpa [Addr.add] using this
      · simpa using hat 1 (by omega)
    haveI : Inhabited Mk := ⟨(0, 0)⟩
    obtain ⟨f, hf⟩ := choose_lt each
    refine ⟨some x, m, (List.range len).map f, by rw [List.length_map, List.length_range]; exact hcs, by simpa using hl, by unfold maxLen at hm; omega, fun hp => ?_, fun p hp => ?_⟩
    · have hp' : 0 < len := by simpa using hp
      obtain ⟨b, off, spot⟩ := x
      obtain ⟨hc0, _⟩ := hf 0 hp'
      have hspot : spot = none := by simpa [Addr.add] using World.cell?_spot hc0
      subst hspot
      refine ⟨b, off, rfl, World.block_lt_of_cell? W _ (by simpa [Addr.add] using hc0), fun i p hip => ?_⟩
      have hil : i < len := by have := (List.getElem?_eq_some_iff.1 hip).1; simpa using this
      have hpe : f i = p := by simpa [hil] using hip
      obtain ⟨g0, g1, _⟩ := hf i hil
      simp only [Addr.add_lit] at g0 g1
      rw [hpe] at g0 g1
      exact ⟨g0, g1⟩
    · obtain ⟨i, hi', rfl⟩ := List.mem_map.1 hp
      exact (hf i (List.mem_range.1 hi')).2.2
theorem ints_core {H : Type} {enc : TypeId × Value → H} {W : World} {fuel : Nat} {cs : List Value} {x : DataW H × List MemPlace} (hf : DataW.trod enc Try.prog W 0 (fun _ => true) true fuel 27 cs = some x) :
    ∃ A c xs, cs = [.slice A (List.length xs) c] ∧ Vec .i64 W A c xs := by
  rcases open_ints Try.underlying27 Try.underlying3 (by kernel_rfl) hf with ⟨hcs, _⟩ | ⟨x, len, cap, zs, hcs, _, hl, hm, hz, _, hcell, hwz⟩
  · exact ⟨none, 0, [], hcs, Vec.nil _ _⟩
  · have hz' : zs.length = cap := by simpa using hz
    have hlen : (zs.take len).length = len := by simp; omega
    refine ⟨some x, cap, zs.take len, by rw [hlen]; exact hcs, ⟨by omega, by unfold maxLen at hm; omega, fun hp => ?_, fun b hb => hwz b (List.mem_of_mem_take hb)⟩⟩
    obtain ⟨b, off, spot⟩ := x
    have hc := hcell 0 (by omega)
    have hspot : spot = none := by simpa [Addr.add] using World.cell?_spot hc
    subst hspot
    have hc' : W.cell? ⟨b, off, none⟩ = some (.int .i64 (zs.getD 0 0)) := by simpa [Addr.add] using hc
    refine ⟨b, off, rfl, World.block_lt_of_cell? W _ hc', fun j hj => ?_⟩
    have h1 := hcell j (by omega)
    rw [Addr.add_lit] at h1
    rw [h1]
    have : j < len := by omega
    simp [List.getD, this]
theorem vecs_core {H : Type} {enc : TypeId × Value → H} {W : World} {fuel : Nat} {cs : List Value} {x : DataW H × List MemPlace} (hf : DataW.trod enc Try.prog W 0 (fun _ => true) true fuel 22 cs = some x) :
    ∃ A c l, cs = [.slice A (List.length l) c] ∧ Vecs .i32 W A c l := by
  rcases open_int_rows Try.underlying22 Try.underlying26 Try.underlying21 (by kernel_rfl) (by kernel_rfl) hf with ⟨hcs, _⟩ | ⟨x, len, cap, A, L, C, Z, hcs, _, hl, hm, _, hrow⟩
  · exact ⟨none, 0, [], hcs, Vecs.nil _ _⟩
  · refine ⟨some x, cap, (List.range len).map (fun r => (Z r).take (L r)), by simpa using hcs, by simpa using hl, by unfold maxLen at hm; omega, fun hp => ?_⟩
    have hlen : 0 < len := by simpa using hp
    obtain ⟨b, off, spot⟩ := x
    have hc := (hrow 0 (by omega)).1
    have hspot : spot = none := by simpa [Addr.add] using World.cell?_spot hc
    subst hspot
    have hc' : W.cell? ⟨b, off, none⟩ = some (.slice (A 0) (L 0) (C 0)) := by simpa [Addr.add] using hc
    refine ⟨b, off, rfl, World.block_lt_of_cell? W _ hc', fun i y hy => ?_⟩
    have hi : i < len := by have := (List.getElem?_eq_some_iff.1 hy).1; simpa using this
    simp [hi] at hy
    subst hy
    obtain ⟨h1, h2, h3, h4, h5, h6, h7⟩ := hrow i (by omega)
    rw [Addr.add_lit] at h1
    have hzl : ((Z i).take (L i)).length = L i := by simp; omega
    refine ⟨A i, C i, by rw [hzl]; exact h1, by omega, by unfold maxLen at h3; omega, fun hp => ?_, fun z hz => h5 z (List.mem_of_mem_take hz)⟩
    rw [hzl] at hp
    cases hA : A i with
    | none => have := h6 hA; omega
    | some a' =>
      obtain ⟨b', off', spot'⟩ := a'
      have hx := (h7 _ hA).2
      have hx0 := hx 0 (by omega)
      have hspot : spot' = none := by simpa [Addr.add] using World.cell?_spot hx0
      subst hspot
      have hx0' : W.cell? ⟨b', off', none⟩ = some (.int .i32 ((Z i).getD 0 0)) := by simpa [Addr.add] using hx0
      refine ⟨b', off', rfl, World.block_lt_of_cell? W _ hx0', fun j hj => ?_⟩
      rw [hzl] at hj
      have h9 := hx j (by omega)
      rw [Addr.add_lit] at h9
      rw [h9]
      simp [List.getD, hj]

theorem open_vecs {H : Type} {enc : TypeId × Value → H} {W : World} {a : Option Addr} {len cap : Nat} {d : DataW H} {p : List MemPlace}
    (h : DataW.Trod enc Try.prog W 0 (fun _ => true) true 22 (.slice a len cap) d p) : ∃ l : List (List Int), l.length = len ∧ Vecs .i32 W a cap l := by
  obtain ⟨fuel, hf⟩ := h
  obtain ⟨A, c, l, hcs, hh⟩ := vecs_core hf
  simp [Value.cells] at hcs
  obtain ⟨rfl, e, rfl⟩ := hcs
  exact ⟨l, e.symm, hh⟩

theorem open_num {H : Type} {enc : TypeId × Value → H} {r : Reach} {b0 : Nat} {v : Value} {W : World} {d : DataW H} {p : List MemPlace} (hv : Value.okWide Try.prog W r b0 3 v) (h : DataW.Trod enc Try.prog W 0 (fun _ => true) true 3 v d p) :
    ∃ a, v = .int .i64 a ∧ -9223372036854775808 ≤ a ∧ a ≤ 9223372036854775807 := by
  obtain ⟨a, e, _, _, w⟩ := open_int Try.underlying3 hv h
  exact ⟨a, e, i64_fit w⟩

theorem open_lists {H : Type} {enc : TypeId × Value → H} {r : Reach} {b0 : Nat} {v : Value} {W : World} {d : DataW H} {p : List MemPlace} (hv : Value.okWide Try.prog W r b0 25 v) (h : DataW.Trod enc Try.prog W 0 (fun _ => true) true 25 v d p) :
    ∃ A c C B k M, v = lv A c (List.length C) B k (List.length M) ∧ Lis W A c C B k M := by
  obtain ⟨cs, rfl, _⟩ := okWide_struct Try.underlying25 hv
  obtain ⟨fuel, hf⟩ := h
  have hf' : DataW.trod enc Try.prog W 0 (fun _ => true) true fuel 25 cs.toList = some (d, p) := by simpa [Value.cells] using hf
  obtain ⟨ys, n, _, _, hlen, hy, hg⟩ := DataW.trod_struct Try.underlying25 hf'
  have hcells : Try.prog.cellsOf 25 = 2 := by kernel_rfl
  have hc0 : Try.prog.cellsOf 22 = 1 := by kernel_rfl
  have hc1 : Try.prog.cellsOf 23 = 1 := by kernel_rfl
  rw [hcells] at hlen
  obtain ⟨l, hl⟩ : ∃ l, l = cs.toList := ⟨_, rfl⟩
  rw [← hl] at hlen hg
  match l, hlen with
  | [v0, v1], _ =>
    have f0 : DataW.trod enc Try.prog W 0 (fun _ => true) true n 22 [v0] = ys[0]? := by have h1 : DataW.trod enc Try.prog W 0 (fun _ => true) true n 22 (([v0, v1].drop 0).take (Try.prog.cellsOf 22)) = ys[0]? := hg 0 _ rfl; rw [hc0] at h1; exact h1
    have f1 : DataW.trod enc Try.prog W 0 (fun _ => true) true n 23 [v1] = ys[1]? := by have h1 : DataW.trod enc Try.prog W 0 (fun _ => true) true n 23 (([v0, v1].drop 1).take (Try.prog.cellsOf 23)) = ys[1]? := hg 1 _ rfl; rw [hc1] at h1; exact h1
    have g : ∀ (i : Nat) (hi : i < 2), ∃ y, ys[i]? = some y := fun i hi => ⟨_, List.getElem?_eq_getElem (by rw [hy]; exact hi)⟩
    obtain ⟨y0, e0⟩ := g 0 (by omega)
    rw [e0] at f0
    obtain ⟨y1, e1⟩ := g 1 (by omega)
    rw [e1] at f1
    obtain ⟨A0, c0, C, q0, s0⟩ := vecs_core f0
    obtain ⟨A1, c1, M, q1, s1⟩ := masks_core f1
    simp at q0 q1
    subst q0
    subst q1
    refine ⟨A0, c0, C, A1, c1, M, ?_, s0, s1⟩
    unfold lv
    congr 1
    exact Array.toList_inj.1 hl.symm
theorem open_deed {H : Type} {enc : TypeId × Value → H} {r : Reach} {b0 : Nat} {v : Value} {W : World} {d : DataW H} {p : List MemPlace} (hv : Value.okWide Try.prog W r b0 29 v) (h : DataW.Trod enc Try.prog W 0 (fun _ => true) true 29 v d p) :
    ∃ s A c x B k ss P e ps, v = .agg #[.int .i64 s, .slice A (List.length x) c, .slice B (List.length ss) k, .slice P (List.length ps) e] ∧ (-9223372036854775808 ≤ s ∧ s ≤ 9223372036854775807) ∧ Vec .i32 W A c x ∧ Vec .i64 W B k ss ∧ Vec .i64 W P e ps := by
  obtain ⟨cs, rfl, _⟩ := okWide_struct Try.underlying29 hv
  obtain ⟨fuel, hf⟩ := h
  have hf' : DataW.trod enc Try.prog W 0 (fun _ => true) true fuel 29 cs.toList = some (d, p) := by simpa [Value.cells] using hf
  obtain ⟨ys, n, _, _, hlen, hy, hg⟩ := DataW.trod_struct Try.underlying29 hf'
  have hcells : Try.prog.cellsOf 29 = 4 := by kernel_rfl
  have hc0 : Try.prog.cellsOf 3 = 1 := by kernel_rfl
  have hc1 : Try.prog.cellsOf 26 = 1 := by kernel_rfl
  have hc2 : Try.prog.cellsOf 27 = 1 := by kernel_rfl
  have hc3 : Try.prog.cellsOf 27 = 1 := by kernel_rfl
  rw [hcells] at hlen
  obtain ⟨l, hl⟩ : ∃ l, l = cs.toList := ⟨_, rfl⟩
  rw [← hl] at hlen hg
  match l, hlen with
  | [v0, v1, v2, v3], _ =>
    have f0 : DataW.trod enc Try.prog W 0 (fun _ => true) true n 3 [v0] = ys[0]? := by have h1 : DataW.trod enc Try.prog W 0 (fun _ => true) true n 3 (([v0, v1, v2, v3].drop 0).take (Try.prog.cellsOf 3)) = ys[0]? := hg 0 _ rfl; rw [hc0] at h1; exact h1
    have f1 : DataW.trod enc Try.prog W 0 (fun _ => true) true n 26 [v1] = ys[1]? := by have h1 : DataW.trod enc Try.prog W 0 (fun _ => true) true n 26 (([v0, v1, v2, v3].drop 1).take (Try.prog.cellsOf 26)) = ys[1]? := hg 1 _ rfl; rw [hc1] at h1; exact h1
    have f2 : DataW.trod enc Try.prog W 0 (fun _ => true) true n 27 [v2] = ys[2]? := by have h1 : DataW.trod enc Try.prog W 0 (fun _ => true) true n 27 (([v0, v1, v2, v3].drop 2).take (Try.prog.cellsOf 27)) = ys[2]? := hg 2 _ rfl; rw [hc2] at h1; exact h1
    have f3 : DataW.trod enc Try.prog W 0 (fun _ => true) true n 27 [v3] = ys[3]? := by have h1 : DataW.trod enc Try.prog W 0 (fun _ => true) true n 27 (([v0, v1, v2, v3].drop 3).take (Try.prog.cellsOf 27)) = ys[3]? := hg 3 _ rfl; rw [hc3] at h1; exact h1
    have g : ∀ (i : Nat) (hi : i < 4), ∃ y, ys[i]? = some y := fun i hi => ⟨_, List.getElem?_eq_getElem (by rw [hy]; exact hi)⟩
    obtain ⟨y0, e0⟩ := g 0 (by omega)
    rw [e0] at f0
    obtain ⟨y1, e1⟩ := g 1 (by omega)
    rw [e1] at f1
    obtain ⟨y2, e2⟩ := g 2 (by omega)
    rw [e2] at f2
    obtain ⟨y3, e3⟩ := g 3 (by omega)
    rw [e3] at f3
    obtain ⟨k0, q0, _, w0⟩ := DataW.trod_int Try.underlying3 f0
    obtain ⟨A1, c1, x1, q1, s1⟩ := vec_core f1
    obtain ⟨A2, c2, x2, q2, s2⟩ := ints_core f2
    obtain ⟨A3, c3, x3, q3, s3⟩ := ints_core f3
    simp at q0 q1 q2 q3
    subst q0
    subst q1
    subst q2
    subst q3
    refine ⟨k0, A1, c1, x1, A2, c2, x2, A3, c3, x3, ?_, i64_fit w0, s1, s2, s3⟩
    congr 1
    exact Array.toList_inj.1 hl.symm
end Go.Proofs.Ytcekgllahlhaaaa
