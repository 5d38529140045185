/-
  Proved: the law VecDists, which vectors may be, and how far two are, is as the document says, or it is refused, returns true for every two vectors and number, and leaves all memory as it was. No condition.
-/
import Derived.Test.YtdfpiipnpaknaaaVecWakes
import Derived.Test.YtdfpiipnpaknaaaLawFrame
namespace Go.Proofs.Ytdfpiipnpaknaaa.vecDists
open Go.ChangeShapes Go.WideShapes Go.ChangeAt Go.RowKit
set_option linter.unusedVariables false
set_option maxRecDepth 100000

theorem refuse_no {x : List Int} {l : List (List Int)} (hx : x ∈ l) (h : right x = false) (dim : Int) : refuseM dim l = 150 := by
  unfold refuseM
  rw [if_neg]
  intro h2
  rw [List.all_eq_true] at h2
  rw [h2 x hx] at h
  cases h
theorem one_ok {x : List Int} (h : right x = true) (dim : Int) : refuseM dim [x] = if (x.length : Int) = dim then 0 else 151 := by
  unfold refuseM
  simp [h]
theorem two_ok {a b : List Int} (ha : right a = true) (hb : right b = true) : refuseM a.length [a, b] = if b.length = a.length then 0 else 151 := by
  unfold refuseM
  by_cases h : b.length = a.length
  · simp [ha, hb, h]
  · have h2 : ¬ (b.length : Int) = (a.length : Nat) := by omega
    simp [ha, hb, h, h2]

set_option maxHeartbeats 2000000 in
theorem no_a {w : World} (A : Option Addr) (c : Nat) (a : List Int) (ha : Vec .i32 w A c a) (A' : Option Addr) (c' : Nat) (b : List Int) (hb : Vec .i32 w A' c' b) (dim : Int) (hla : a.length ≤ 100) (hlb : b.length ≤ 100) (hra : right a = false) :
    Calls Try.prog 3 #[.slice A a.length c, .slice A' b.length c', .int .i64 dim] w fun e w' => e = .returned (.bool true) ∧ Below w.heap.size w w' := by
  have HD := Lib.hid (fun (V : World) (hV : Below w.heap.size w V) => dist_any A A' c c' a b V (ha.below hV) (hb.below hV))
  have HC := Lib.hid (fun (V : World) (hV : Below w.heap.size w V) => check_any A c a V (ha.below hV))
  have HO := Lib.hid (fun (V : World) (hV : Below w.heap.size w V) => of_any A c a dim V (ha.below hV))
  have HS := Lib.hid (fun (V : World) (hV : Below w.heap.size w V) => same_any A A' c c' a b V (ha.below hV) (hb.below hV))
  have HRS := Lib.hid (fun (V : World) (hV : Below w.heap.size w V) => rSame_any A A' c c' a b V (ha.below hV) (hb.below hV))
  have HSA := Lib.hid (fun (V : World) (hV : Below w.heap.size w V) => same_any A A c c a a V (ha.below hV) (ha.below hV))
  have HRA := Lib.hid (fun (V : World) (hV : Below w.heap.size w V) => rRight_any A c a V (ha.below hV))
  have HRB := Lib.hid (fun (V : World) (hV : Below w.heap.size w V) => rRight_any A' c' b V (hb.below hV))
  rw [decide_eq_true (rfl : a = a)] at HSA
  have e1 : distE a b = 150 := refuse_no (by simp) hra _
  have e2 : distD a b = 0 := by unfold distD; rw [e1]; rfl
  have e3 : checkM a = 150 := refuse_no (by simp) hra _
  have e4 : refuseM dim [a] = 150 := refuse_no (by simp) hra _
  rw [e1, e2] at HD
  rw [e3] at HC
  rw [e4] at HO
  rw [hra] at HRA
  obtain ⟨S, hS⟩ : ∃ S, S = decide (a = b) := ⟨_, rfl⟩
  rw [← hS] at HS HRS
  clear hS
  obtain ⟨la, hla2⟩ : ∃ la, la = a.length := ⟨_, rfl⟩
  obtain ⟨lb, hlb2⟩ : ∃ lb, lb = b.length := ⟨_, rfl⟩
  rw [← hla2] at hla HD HC HO HS HRS HSA HRA ⊢
  rw [← hlb2] at hlb HD HS HRS HRB ⊢
  have t1 : decide ((100 : Int) < (la : Int)) = false := by simp; omega
  have t2 : decide ((100 : Int) < (lb : Int)) = false := by simp; omega
  clear ha hb hra e1 e2 e3 e4 hla2 hlb2
  go_enter Try.func3, Try.ntmps3
  go_wp2_with fail
  refine (wakes_any w).mono ?_
  rintro e w1 ⟨rfl, hb1⟩
  have HB1 := Lib.hid hb1
  clear hb1
  go_wp2_with fail
  refine (HD.out _ HB1.out).mono ?_
  rintro e w2 ⟨rfl, hb2⟩
  have HB2 := Lib.hid (HB1.out.trans (hb2.mono HB1.out.size))
  clear hb2
  go_wp2_with fail
  refine (HC.out _ HB2.out).mono ?_
  rintro e w3 ⟨rfl, hb3⟩
  have HB3 := Lib.hid (HB2.out.trans (hb3.mono HB2.out.size))
  clear hb3
  go_wp2_with fail
  refine (HO.out _ HB3.out).mono ?_
  rintro e w4 ⟨rfl, hb4⟩
  have HB4 := Lib.hid (HB3.out.trans (hb4.mono HB3.out.size))
  clear hb4
  go_wp2_with fail
  refine (HS.out _ HB4.out).mono ?_
  rintro e w5 ⟨rfl, hb5⟩
  have HB5 := Lib.hid (HB4.out.trans (hb5.mono HB4.out.size))
  clear hb5
  go_wp2_with fail
  refine (HRS.out _ HB5.out).mono ?_
  rintro e w6 ⟨rfl, hb6⟩
  have HB6 := Lib.hid (HB5.out.trans (hb6.mono HB5.out.size))
  clear hb6
  go_wp2_with fail
  refine (HSA.out _ HB6.out).mono ?_
  rintro e w7 ⟨rfl, hb7⟩
  have HB7 := Lib.hid (HB6.out.trans (hb7.mono HB6.out.size))
  clear hb7
  go_wp2_with fail
  refine (HRA.out _ HB7.out).mono ?_
  rintro e w' ⟨rfl, rfl⟩
  go_wp2
  go_ret
  exact ⟨by simp, HB7.out⟩

set_option maxHeartbeats 2000000 in
theorem no_b_dim_yes {w : World} (A : Option Addr) (c : Nat) (a : List Int) (ha : Vec .i32 w A c a) (A' : Option Addr) (c' : Nat) (b : List Int) (hb : Vec .i32 w A' c' b) (dim : Int) (hla : a.length ≤ 100) (hlb : b.length ≤ 100) (hra : right a = true) (hrb : right b = false) (hdim : (a.length : Int) = dim) :
    Calls Try.prog 3 #[.slice A a.length c, .slice A' b.length c', .int .i64 dim] w fun e w' => e = .returned (.bool true) ∧ Below w.heap.size w w' := by
  have HD := Lib.hid (fun (V : World) (hV : Below w.heap.size w V) => dist_any A A' c c' a b V (ha.below hV) (hb.below hV))
  have HC := Lib.hid (fun (V : World) (hV : Below w.heap.size w V) => check_any A c a V (ha.below hV))
  have HO := Lib.hid (fun (V : World) (hV : Below w.heap.size w V) => of_any A c a dim V (ha.below hV))
  have HS := Lib.hid (fun (V : World) (hV : Below w.heap.size w V) => same_any A A' c c' a b V (ha.below hV) (hb.below hV))
  have HRS := Lib.hid (fun (V : World) (hV : Below w.heap.size w V) => rSame_any A A' c c' a b V (ha.below hV) (hb.below hV))
  have HSA := Lib.hid (fun (V : World) (hV : Below w.heap.size w V) => same_any A A c c a a V (ha.below hV) (ha.below hV))
  have HRA := Lib.hid (fun (V : World) (hV : Below w.heap.size w V) => rRight_any A c a V (ha.below hV))
  have HRB := Lib.hid (fun (V : World) (hV : Below w.heap.size w V) => rRight_any A' c' b V (hb.below hV))
  rw [decide_eq_true (rfl : a = a)] at HSA
  have e1 : distE a b = 150 := refuse_no (by simp) hrb _
  have e2 : distD a b = 0 := by unfold distD; rw [e1]; rfl
  rw [e1, e2] at HD
  rw [hrb] at HRB
  have e3 : checkM a = 0 := by unfold checkM; rw [one_ok hra, if_pos rfl]
  have e4 : refuseM dim [a] = 0 := by rw [one_ok hra, if_pos hdim]
  rw [e3] at HC
  rw [e4] at HO
  rw [hra] at HRA
  obtain ⟨S, hS⟩ : ∃ S, S = decide (a = b) := ⟨_, rfl⟩
  rw [← hS] at HS HRS
  clear hS
  obtain ⟨la, hla2⟩ : ∃ la, la = a.length := ⟨_, rfl⟩
  obtain ⟨lb, hlb2⟩ : ∃ lb, lb = b.length := ⟨_, rfl⟩
  rw [← hla2] at hla HD HC HO HS HRS HSA HRA ⊢
  rw [← hlb2] at hlb HD HS HRS HRB ⊢
  have t1 : decide ((100 : Int) < (la : Int)) = false := by simp; omega
  have t2 : decide ((100 : Int) < (lb : Int)) = false := by simp; omega
  have t3 : ((la : Int) == dim) = true := by simp; omega
  clear ha hb hra hrb e1 e2 e3 e4 hla2 hlb2
  go_enter Try.func3, Try.ntmps3
  go_wp2_with fail
  refine (wakes_any w).mono ?_
  rintro e w1 ⟨rfl, hb1⟩
  have HB1 := Lib.hid hb1
  clear hb1
  go_wp2_with fail
  refine (HD.out _ HB1.out).mono ?_
  rintro e w2 ⟨rfl, hb2⟩
  have HB2 := Lib.hid (HB1.out.trans (hb2.mono HB1.out.size))
  clear hb2
  go_wp2_with fail
  refine (HC.out _ HB2.out).mono ?_
  rintro e w3 ⟨rfl, hb3⟩
  have HB3 := Lib.hid (HB2.out.trans (hb3.mono HB2.out.size))
  clear hb3
  go_wp2_with fail
  refine (HO.out _ HB3.out).mono ?_
  rintro e w4 ⟨rfl, hb4⟩
  have HB4 := Lib.hid (HB3.out.trans (hb4.mono HB3.out.size))
  clear hb4
  go_wp2_with fail
  refine (HS.out _ HB4.out).mono ?_
  rintro e w5 ⟨rfl, hb5⟩
  have HB5 := Lib.hid (HB4.out.trans (hb5.mono HB4.out.size))
  clear hb5
  go_wp2_with fail
  refine (HRS.out _ HB5.out).mono ?_
  rintro e w6 ⟨rfl, hb6⟩
  have HB6 := Lib.hid (HB5.out.trans (hb6.mono HB5.out.size))
  clear hb6
  go_wp2_with fail
  refine (HSA.out _ HB6.out).mono ?_
  rintro e w7 ⟨rfl, hb7⟩
  have HB7 := Lib.hid (HB6.out.trans (hb7.mono HB6.out.size))
  clear hb7
  go_wp2_with fail
  refine (HRA.out _ HB7.out).mono ?_
  rintro e w' ⟨rfl, rfl⟩
  go_wp2_with fail
  refine (HRB.out _ HB7.out).mono ?_
  rintro e w' ⟨rfl, rfl⟩
  go_wp2
  go_ret
  exact ⟨by simp, HB7.out⟩

set_option maxHeartbeats 2000000 in
theorem unlike_dim_yes {w : World} (A : Option Addr) (c : Nat) (a : List Int) (ha : Vec .i32 w A c a) (A' : Option Addr) (c' : Nat) (b : List Int) (hb : Vec .i32 w A' c' b) (dim : Int) (hla : a.length ≤ 100) (hlb : b.length ≤ 100) (hra : right a = true) (hrb : right b = true) (hl : ¬ b.length = a.length) (hdim : (a.length : Int) = dim) :
    Calls Try.prog 3 #[.slice A a.length c, .slice A' b.length c', .int .i64 dim] w fun e w' => e = .returned (.bool true) ∧ Below w.heap.size w w' := by
  have HD := Lib.hid (fun (V : World) (hV : Below w.heap.size w V) => dist_any A A' c c' a b V (ha.below hV) (hb.below hV))
  have HC := Lib.hid (fun (V : World) (hV : Below w.heap.size w V) => check_any A c a V (ha.below hV))
  have HO := Lib.hid (fun (V : World) (hV : Below w.heap.size w V) => of_any A c a dim V (ha.below hV))
  have HS := Lib.hid (fun (V : World) (hV : Below w.heap.size w V) => same_any A A' c c' a b V (ha.below hV) (hb.below hV))
  have HRS := Lib.hid (fun (V : World) (hV : Below w.heap.size w V) => rSame_any A A' c c' a b V (ha.below hV) (hb.below hV))
  have HSA := Lib.hid (fun (V : World) (hV : Below w.heap.size w V) => same_any A A c c a a V (ha.below hV) (ha.below hV))
  have HRA := Lib.hid (fun (V : World) (hV : Below w.heap.size w V) => rRight_any A c a V (ha.below hV))
  have HRB := Lib.hid (fun (V : World) (hV : Below w.heap.size w V) => rRight_any A' c' b V (hb.below hV))
  rw [decide_eq_true (rfl : a = a)] at HSA
  have e1 : distE a b = 151 := by unfold distE; rw [two_ok hra hrb, if_neg hl]
  have e2 : distD a b = 0 := by unfold distD; rw [e1]; rfl
  rw [e1, e2] at HD
  rw [hrb] at HRB
  have e3 : checkM a = 0 := by unfold checkM; rw [one_ok hra, if_pos rfl]
  have e4 : refuseM dim [a] = 0 := by rw [one_ok hra, if_pos hdim]
  rw [e3] at HC
  rw [e4] at HO
  rw [hra] at HRA
  obtain ⟨S, hS⟩ : ∃ S, S = decide (a = b) := ⟨_, rfl⟩
  rw [← hS] at HS HRS
  clear hS
  obtain ⟨la, hla2⟩ : ∃ la, la = a.length := ⟨_, rfl⟩
  obtain ⟨lb, hlb2⟩ : ∃ lb, lb = b.length := ⟨_, rfl⟩
  rw [← hla2] at hla HD HC HO HS HRS HSA HRA ⊢
  rw [← hlb2] at hlb HD HS HRS HRB ⊢
  have t1 : decide ((100 : Int) < (la : Int)) = false := by simp; omega
  have t2 : decide ((100 : Int) < (lb : Int)) = false := by simp; omega
  have t3 : ((la : Int) == dim) = true := by simp; omega
  have t4 : ((la : Int) != (lb : Int)) = true := by simp; omega
  have t5 : ((la : Int) == (lb : Int)) = false := by simp; omega
  have t6 : (la == lb) = false := by simp; omega
  clear ha hb hra hrb e1 e2 e3 e4 hla2 hlb2
  go_enter Try.func3, Try.ntmps3
  go_wp2_with fail
  refine (wakes_any w).mono ?_
  rintro e w1 ⟨rfl, hb1⟩
  have HB1 := Lib.hid hb1
  clear hb1
  go_wp2_with fail
  refine (HD.out _ HB1.out).mono ?_
  rintro e w2 ⟨rfl, hb2⟩
  have HB2 := Lib.hid (HB1.out.trans (hb2.mono HB1.out.size))
  clear hb2
  go_wp2_with fail
  refine (HC.out _ HB2.out).mono ?_
  rintro e w3 ⟨rfl, hb3⟩
  have HB3 := Lib.hid (HB2.out.trans (hb3.mono HB2.out.size))
  clear hb3
  go_wp2_with fail
  refine (HO.out _ HB3.out).mono ?_
  rintro e w4 ⟨rfl, hb4⟩
  have HB4 := Lib.hid (HB3.out.trans (hb4.mono HB3.out.size))
  clear hb4
  go_wp2_with fail
  refine (HS.out _ HB4.out).mono ?_
  rintro e w5 ⟨rfl, hb5⟩
  have HB5 := Lib.hid (HB4.out.trans (hb5.mono HB4.out.size))
  clear hb5
  go_wp2_with fail
  refine (HRS.out _ HB5.out).mono ?_
  rintro e w6 ⟨rfl, hb6⟩
  have HB6 := Lib.hid (HB5.out.trans (hb6.mono HB5.out.size))
  clear hb6
  go_wp2_with fail
  refine (HSA.out _ HB6.out).mono ?_
  rintro e w7 ⟨rfl, hb7⟩
  have HB7 := Lib.hid (HB6.out.trans (hb7.mono HB6.out.size))
  clear hb7
  go_wp2_with fail
  refine (HRA.out _ HB7.out).mono ?_
  rintro e w' ⟨rfl, rfl⟩
  go_wp2_with fail
  refine (HRB.out _ HB7.out).mono ?_
  rintro e w' ⟨rfl, rfl⟩
  go_wp2
  go_ret
  exact ⟨by simp, HB7.out⟩

set_option maxHeartbeats 2000000 in
theorem far_dim_yes {w : World} (A : Option Addr) (c : Nat) (a : List Int) (ha : Vec .i32 w A c a) (A' : Option Addr) (c' : Nat) (b : List Int) (hb : Vec .i32 w A' c' b) (dim : Int) (hla : a.length ≤ 100) (hlb : b.length ≤ 100) (hra : right a = true) (hrb : right b = true) (hl : b.length = a.length) (hdim : (a.length : Int) = dim) :
    Calls Try.prog 3 #[.slice A a.length c, .slice A' b.length c', .int .i64 dim] w fun e w' => e = .returned (.bool true) ∧ Below w.heap.size w w' := by
  have HD := Lib.hid (fun (V : World) (hV : Below w.heap.size w V) => dist_any A A' c c' a b V (ha.below hV) (hb.below hV))
  have HC := Lib.hid (fun (V : World) (hV : Below w.heap.size w V) => check_any A c a V (ha.below hV))
  have HO := Lib.hid (fun (V : World) (hV : Below w.heap.size w V) => of_any A c a dim V (ha.below hV))
  have HS := Lib.hid (fun (V : World) (hV : Below w.heap.size w V) => same_any A A' c c' a b V (ha.below hV) (hb.below hV))
  have HRS := Lib.hid (fun (V : World) (hV : Below w.heap.size w V) => rSame_any A A' c c' a b V (ha.below hV) (hb.below hV))
  have HSA := Lib.hid (fun (V : World) (hV : Below w.heap.size w V) => same_any A A c c a a V (ha.below hV) (ha.below hV))
  have HRA := Lib.hid (fun (V : World) (hV : Below w.heap.size w V) => rRight_any A c a V (ha.below hV))
  have HRB := Lib.hid (fun (V : World) (hV : Below w.heap.size w V) => rRight_any A' c' b V (hb.below hV))
  rw [decide_eq_true (rfl : a = a)] at HSA
  have e1 : distE a b = 0 := by unfold distE; rw [two_ok hra hrb, if_pos hl]
  have e2 : distD a b = distM a b := by unfold distD; rw [if_pos e1]
  have HRD := Lib.hid (fun (V : World) (hV : Below w.heap.size w V) => rDist_any A A' c c' a b V (ha.below hV) (hb.below hV) hra hrb hl)
  rw [e1, e2] at HD
  rw [hrb] at HRB
  have e3 : checkM a = 0 := by unfold checkM; rw [one_ok hra, if_pos rfl]
  have e4 : refuseM dim [a] = 0 := by rw [one_ok hra, if_pos hdim]
  rw [e3] at HC
  rw [e4] at HO
  rw [hra] at HRA
  obtain ⟨S, hS⟩ : ∃ S, S = decide (a = b) := ⟨_, rfl⟩
  rw [← hS] at HS HRS
  clear hS
  obtain ⟨la, hla2⟩ : ∃ la, la = a.length := ⟨_, rfl⟩
  obtain ⟨lb, hlb2⟩ : ∃ lb, lb = b.length := ⟨_, rfl⟩
  rw [← hla2] at hla HRD HD HC HO HS HRS HSA HRA ⊢
  rw [← hlb2] at hlb HRD HD HS HRS HRB ⊢
  have t1 : decide ((100 : Int) < (la : Int)) = false := by simp; omega
  have t2 : decide ((100 : Int) < (lb : Int)) = false := by simp; omega
  have t3 : ((la : Int) == dim) = true := by simp; omega
  obtain rfl : lb = la := by omega
  generalize distM a b = D at *
  clear ha hb hra hrb e1 e2 e3 e4 hla2 hlb2 hl
  go_enter Try.func3, Try.ntmps3
  go_wp2_with fail
  refine (wakes_any w).mono ?_
  rintro e w1 ⟨rfl, hb1⟩
  have HB1 := Lib.hid hb1
  clear hb1
  go_wp2_with fail
  refine (HD.out _ HB1.out).mono ?_
  rintro e w2 ⟨rfl, hb2⟩
  have HB2 := Lib.hid (HB1.out.trans (hb2.mono HB1.out.size))
  clear hb2
  go_wp2_with fail
  refine (HC.out _ HB2.out).mono ?_
  rintro e w3 ⟨rfl, hb3⟩
  have HB3 := Lib.hid (HB2.out.trans (hb3.mono HB2.out.size))
  clear hb3
  go_wp2_with fail
  refine (HO.out _ HB3.out).mono ?_
  rintro e w4 ⟨rfl, hb4⟩
  have HB4 := Lib.hid (HB3.out.trans (hb4.mono HB3.out.size))
  clear hb4
  go_wp2_with fail
  refine (HS.out _ HB4.out).mono ?_
  rintro e w5 ⟨rfl, hb5⟩
  have HB5 := Lib.hid (HB4.out.trans (hb5.mono HB4.out.size))
  clear hb5
  go_wp2_with fail
  refine (HRS.out _ HB5.out).mono ?_
  rintro e w6 ⟨rfl, hb6⟩
  have HB6 := Lib.hid (HB5.out.trans (hb6.mono HB5.out.size))
  clear hb6
  go_wp2_with fail
  refine (HSA.out _ HB6.out).mono ?_
  rintro e w7 ⟨rfl, hb7⟩
  have HB7 := Lib.hid (HB6.out.trans (hb7.mono HB6.out.size))
  clear hb7
  go_wp2_with fail
  refine (HRA.out _ HB7.out).mono ?_
  rintro e w' ⟨rfl, rfl⟩
  go_wp2_with fail
  refine (HRB.out _ HB7.out).mono ?_
  rintro e w' ⟨rfl, rfl⟩
  go_wp2_with fail
  refine (HRD.out _ HB7.out).mono ?_
  rintro e w9 ⟨rfl, q, rfl⟩
  go_wp2
  go_ret
  exact ⟨by simp, below_drewN HB7.out _⟩

set_option maxHeartbeats 2000000 in
theorem no_b_dim_no {w : World} (A : Option Addr) (c : Nat) (a : List Int) (ha : Vec .i32 w A c a) (A' : Option Addr) (c' : Nat) (b : List Int) (hb : Vec .i32 w A' c' b) (dim : Int) (hla : a.length ≤ 100) (hlb : b.length ≤ 100) (hra : right a = true) (hrb : right b = false) (hdim : ¬ (a.length : Int) = dim) :
    Calls Try.prog 3 #[.slice A a.length c, .slice A' b.length c', .int .i64 dim] w fun e w' => e = .returned (.bool true) ∧ Below w.heap.size w w' := by
  have HD := Lib.hid (fun (V : World) (hV : Below w.heap.size w V) => dist_any A A' c c' a b V (ha.below hV) (hb.below hV))
  have HC := Lib.hid (fun (V : World) (hV : Below w.heap.size w V) => check_any A c a V (ha.below hV))
  have HO := Lib.hid (fun (V : World) (hV : Below w.heap.size w V) => of_any A c a dim V (ha.below hV))
  have HS := Lib.hid (fun (V : World) (hV : Below w.heap.size w V) => same_any A A' c c' a b V (ha.below hV) (hb.below hV))
  have HRS := Lib.hid (fun (V : World) (hV : Below w.heap.size w V) => rSame_any A A' c c' a b V (ha.below hV) (hb.below hV))
  have HSA := Lib.hid (fun (V : World) (hV : Below w.heap.size w V) => same_any A A c c a a V (ha.below hV) (ha.below hV))
  have HRA := Lib.hid (fun (V : World) (hV : Below w.heap.size w V) => rRight_any A c a V (ha.below hV))
  have HRB := Lib.hid (fun (V : World) (hV : Below w.heap.size w V) => rRight_any A' c' b V (hb.below hV))
  rw [decide_eq_true (rfl : a = a)] at HSA
  have e1 : distE a b = 150 := refuse_no (by simp) hrb _
  have e2 : distD a b = 0 := by unfold distD; rw [e1]; rfl
  rw [e1, e2] at HD
  rw [hrb] at HRB
  have e3 : checkM a = 0 := by unfold checkM; rw [one_ok hra, if_pos rfl]
  have e4 : refuseM dim [a] = 151 := by rw [one_ok hra, if_neg hdim]
  rw [e3] at HC
  rw [e4] at HO
  rw [hra] at HRA
  obtain ⟨S, hS⟩ : ∃ S, S = decide (a = b) := ⟨_, rfl⟩
  rw [← hS] at HS HRS
  clear hS
  obtain ⟨la, hla2⟩ : ∃ la, la = a.length := ⟨_, rfl⟩
  obtain ⟨lb, hlb2⟩ : ∃ lb, lb = b.length := ⟨_, rfl⟩
  rw [← hla2] at hla HD HC HO HS HRS HSA HRA ⊢
  rw [← hlb2] at hlb HD HS HRS HRB ⊢
  have t1 : decide ((100 : Int) < (la : Int)) = false := by simp; omega
  have t2 : decide ((100 : Int) < (lb : Int)) = false := by simp; omega
  have t3 : ((la : Int) == dim) = false := by simp; omega
  clear ha hb hra hrb e1 e2 e3 e4 hla2 hlb2
  go_enter Try.func3, Try.ntmps3
  go_wp2_with fail
  refine (wakes_any w).mono ?_
  rintro e w1 ⟨rfl, hb1⟩
  have HB1 := Lib.hid hb1
  clear hb1
  go_wp2_with fail
  refine (HD.out _ HB1.out).mono ?_
  rintro e w2 ⟨rfl, hb2⟩
  have HB2 := Lib.hid (HB1.out.trans (hb2.mono HB1.out.size))
  clear hb2
  go_wp2_with fail
  refine (HC.out _ HB2.out).mono ?_
  rintro e w3 ⟨rfl, hb3⟩
  have HB3 := Lib.hid (HB2.out.trans (hb3.mono HB2.out.size))
  clear hb3
  go_wp2_with fail
  refine (HO.out _ HB3.out).mono ?_
  rintro e w4 ⟨rfl, hb4⟩
  have HB4 := Lib.hid (HB3.out.trans (hb4.mono HB3.out.size))
  clear hb4
  go_wp2_with fail
  refine (HS.out _ HB4.out).mono ?_
  rintro e w5 ⟨rfl, hb5⟩
  have HB5 := Lib.hid (HB4.out.trans (hb5.mono HB4.out.size))
  clear hb5
  go_wp2_with fail
  refine (HRS.out _ HB5.out).mono ?_
  rintro e w6 ⟨rfl, hb6⟩
  have HB6 := Lib.hid (HB5.out.trans (hb6.mono HB5.out.size))
  clear hb6
  go_wp2_with fail
  refine (HSA.out _ HB6.out).mono ?_
  rintro e w7 ⟨rfl, hb7⟩
  have HB7 := Lib.hid (HB6.out.trans (hb7.mono HB6.out.size))
  clear hb7
  go_wp2_with fail
  refine (HRA.out _ HB7.out).mono ?_
  rintro e w' ⟨rfl, rfl⟩
  go_wp2_with fail
  refine (HRB.out _ HB7.out).mono ?_
  rintro e w' ⟨rfl, rfl⟩
  go_wp2
  go_ret
  exact ⟨by simp, HB7.out⟩

set_option maxHeartbeats 2000000 in
theorem unlike_dim_no {w : World} (A : Option Addr) (c : Nat) (a : List Int) (ha : Vec .i32 w A c a) (A' : Option Addr) (c' : Nat) (b : List Int) (hb : Vec .i32 w A' c' b) (dim : Int) (hla : a.length ≤ 100) (hlb : b.length ≤ 100) (hra : right a = true) (hrb : right b = true) (hl : ¬ b.length = a.length) (hdim : ¬ (a.length : Int) = dim) :
    Calls Try.prog 3 #[.slice A a.length c, .slice A' b.length c', .int .i64 dim] w fun e w' => e = .returned (.bool true) ∧ Below w.heap.size w w' := by
  have HD := Lib.hid (fun (V : World) (hV : Below w.heap.size w V) => dist_any A A' c c' a b V (ha.below hV) (hb.below hV))
  have HC := Lib.hid (fun (V : World) (hV : Below w.heap.size w V) => check_any A c a V (ha.below hV))
  have HO := Lib.hid (fun (V : World) (hV : Below w.heap.size w V) => of_any A c a dim V (ha.below hV))
  have HS := Lib.hid (fun (V : World) (hV : Below w.heap.size w V) => same_any A A' c c' a b V (ha.below hV) (hb.below hV))
  have HRS := Lib.hid (fun (V : World) (hV : Below w.heap.size w V) => rSame_any A A' c c' a b V (ha.below hV) (hb.below hV))
  have HSA := Lib.hid (fun (V : World) (hV : Below w.heap.size w V) => same_any A A c c a a V (ha.below hV) (ha.below hV))
  have HRA := Lib.hid (fun (V : World) (hV : Below w.heap.size w V) => rRight_any A c a V (ha.below hV))
  have HRB := Lib.hid (fun (V : World) (hV : Below w.heap.size w V) => rRight_any A' c' b V (hb.below hV))
  rw [decide_eq_true (rfl : a = a)] at HSA
  have e1 : distE a b = 151 := by unfold distE; rw [two_ok hra hrb, if_neg hl]
  have e2 : distD a b = 0 := by unfold distD; rw [e1]; rfl
  rw [e1, e2] at HD
  rw [hrb] at HRB
  have e3 : checkM a = 0 := by unfold checkM; rw [one_ok hra, if_pos rfl]
  have e4 : refuseM dim [a] = 151 := by rw [one_ok hra, if_neg hdim]
  rw [e3] at HC
  rw [e4] at HO
  rw [hra] at HRA
  obtain ⟨S, hS⟩ : ∃ S, S = decide (a = b) := ⟨_, rfl⟩
  rw [← hS] at HS HRS
  clear hS
  obtain ⟨la, hla2⟩ : ∃ la, la = a.length := ⟨_, rfl⟩
  obtain ⟨lb, hlb2⟩ : ∃ lb, lb = b.length := ⟨_, rfl⟩
  rw [← hla2] at hla HD HC HO HS HRS HSA HRA ⊢
  rw [← hlb2] at hlb HD HS HRS HRB ⊢
  have t1 : decide ((100 : Int) < (la : Int)) = false := by simp; omega
  have t2 : decide ((100 : Int) < (lb : Int)) = false := by simp; omega
  have t3 : ((la : Int) == dim) = false := by simp; omega
  have t4 : ((la : Int) != (lb : Int)) = true := by simp; omega
  have t5 : ((la : Int) == (lb : Int)) = false := by simp; omega
  have t6 : (la == lb) = false := by simp; omega
  clear ha hb hra hrb e1 e2 e3 e4 hla2 hlb2
  go_enter Try.func3, Try.ntmps3
  go_wp2_with fail
  refine (wakes_any w).mono ?_
  rintro e w1 ⟨rfl, hb1⟩
  have HB1 := Lib.hid hb1
  clear hb1
  go_wp2_with fail
  refine (HD.out _ HB1.out).mono ?_
  rintro e w2 ⟨rfl, hb2⟩
  have HB2 := Lib.hid (HB1.out.trans (hb2.mono HB1.out.size))
  clear hb2
  go_wp2_with fail
  refine (HC.out _ HB2.out).mono ?_
  rintro e w3 ⟨rfl, hb3⟩
  have HB3 := Lib.hid (HB2.out.trans (hb3.mono HB2.out.size))
  clear hb3
  go_wp2_with fail
  refine (HO.out _ HB3.out).mono ?_
  rintro e w4 ⟨rfl, hb4⟩
  have HB4 := Lib.hid (HB3.out.trans (hb4.mono HB3.out.size))
  clear hb4
  go_wp2_with fail
  refine (HS.out _ HB4.out).mono ?_
  rintro e w5 ⟨rfl, hb5⟩
  have HB5 := Lib.hid (HB4.out.trans (hb5.mono HB4.out.size))
  clear hb5
  go_wp2_with fail
  refine (HRS.out _ HB5.out).mono ?_
  rintro e w6 ⟨rfl, hb6⟩
  have HB6 := Lib.hid (HB5.out.trans (hb6.mono HB5.out.size))
  clear hb6
  go_wp2_with fail
  refine (HSA.out _ HB6.out).mono ?_
  rintro e w7 ⟨rfl, hb7⟩
  have HB7 := Lib.hid (HB6.out.trans (hb7.mono HB6.out.size))
  clear hb7
  go_wp2_with fail
  refine (HRA.out _ HB7.out).mono ?_
  rintro e w' ⟨rfl, rfl⟩
  go_wp2_with fail
  refine (HRB.out _ HB7.out).mono ?_
  rintro e w' ⟨rfl, rfl⟩
  go_wp2
  go_ret
  exact ⟨by simp, HB7.out⟩

set_option maxHeartbeats 2000000 in
theorem far_dim_no {w : World} (A : Option Addr) (c : Nat) (a : List Int) (ha : Vec .i32 w A c a) (A' : Option Addr) (c' : Nat) (b : List Int) (hb : Vec .i32 w A' c' b) (dim : Int) (hla : a.length ≤ 100) (hlb : b.length ≤ 100) (hra : right a = true) (hrb : right b = true) (hl : b.length = a.length) (hdim : ¬ (a.length : Int) = dim) :
    Calls Try.prog 3 #[.slice A a.length c, .slice A' b.length c', .int .i64 dim] w fun e w' => e = .returned (.bool true) ∧ Below w.heap.size w w' := by
  have HD := Lib.hid (fun (V : World) (hV : Below w.heap.size w V) => dist_any A A' c c' a b V (ha.below hV) (hb.below hV))
  have HC := Lib.hid (fun (V : World) (hV : Below w.heap.size w V) => check_any A c a V (ha.below hV))
  have HO := Lib.hid (fun (V : World) (hV : Below w.heap.size w V) => of_any A c a dim V (ha.below hV))
  have HS := Lib.hid (fun (V : World) (hV : Below w.heap.size w V) => same_any A A' c c' a b V (ha.below hV) (hb.below hV))
  have HRS := Lib.hid (fun (V : World) (hV : Below w.heap.size w V) => rSame_any A A' c c' a b V (ha.below hV) (hb.below hV))
  have HSA := Lib.hid (fun (V : World) (hV : Below w.heap.size w V) => same_any A A c c a a V (ha.below hV) (ha.below hV))
  have HRA := Lib.hid (fun (V : World) (hV : Below w.heap.size w V) => rRight_any A c a V (ha.below hV))
  have HRB := Lib.hid (fun (V : World) (hV : Below w.heap.size w V) => rRight_any A' c' b V (hb.below hV))
  rw [decide_eq_true (rfl : a = a)] at HSA
  have e1 : distE a b = 0 := by unfold distE; rw [two_ok hra hrb, if_pos hl]
  have e2 : distD a b = distM a b := by unfold distD; rw [if_pos e1]
  have HRD := Lib.hid (fun (V : World) (hV : Below w.heap.size w V) => rDist_any A A' c c' a b V (ha.below hV) (hb.below hV) hra hrb hl)
  rw [e1, e2] at HD
  rw [hrb] at HRB
  have e3 : checkM a = 0 := by unfold checkM; rw [one_ok hra, if_pos rfl]
  have e4 : refuseM dim [a] = 151 := by rw [one_ok hra, if_neg hdim]
  rw [e3] at HC
  rw [e4] at HO
  rw [hra] at HRA
  obtain ⟨S, hS⟩ : ∃ S, S = decide (a = b) := ⟨_, rfl⟩
  rw [← hS] at HS HRS
  clear hS
  obtain ⟨la, hla2⟩ : ∃ la, la = a.length := ⟨_, rfl⟩
  obtain ⟨lb, hlb2⟩ : ∃ lb, lb = b.length := ⟨_, rfl⟩
  rw [← hla2] at hla HRD HD HC HO HS HRS HSA HRA ⊢
  rw [← hlb2] at hlb HRD HD HS HRS HRB ⊢
  have t1 : decide ((100 : Int) < (la : Int)) = false := by simp; omega
  have t2 : decide ((100 : Int) < (lb : Int)) = false := by simp; omega
  have t3 : ((la : Int) == dim) = false := by simp; omega
  obtain rfl : lb = la := by omega
  generalize distM a b = D at *
  clear ha hb hra hrb e1 e2 e3 e4 hla2 hlb2 hl
  go_enter Try.func3, Try.ntmps3
  go_wp2_with fail
  refine (wakes_any w).mono ?_
  rintro e w1 ⟨rfl, hb1⟩
  have HB1 := Lib.hid hb1
  clear hb1
  go_wp2_with fail
  refine (HD.out _ HB1.out).mono ?_
  rintro e w2 ⟨rfl, hb2⟩
  have HB2 := Lib.hid (HB1.out.trans (hb2.mono HB1.out.size))
  clear hb2
  go_wp2_with fail
  refine (HC.out _ HB2.out).mono ?_
  rintro e w3 ⟨rfl, hb3⟩
  have HB3 := Lib.hid (HB2.out.trans (hb3.mono HB2.out.size))
  clear hb3
  go_wp2_with fail
  refine (HO.out _ HB3.out).mono ?_
  rintro e w4 ⟨rfl, hb4⟩
  have HB4 := Lib.hid (HB3.out.trans (hb4.mono HB3.out.size))
  clear hb4
  go_wp2_with fail
  refine (HS.out _ HB4.out).mono ?_
  rintro e w5 ⟨rfl, hb5⟩
  have HB5 := Lib.hid (HB4.out.trans (hb5.mono HB4.out.size))
  clear hb5
  go_wp2_with fail
  refine (HRS.out _ HB5.out).mono ?_
  rintro e w6 ⟨rfl, hb6⟩
  have HB6 := Lib.hid (HB5.out.trans (hb6.mono HB5.out.size))
  clear hb6
  go_wp2_with fail
  refine (HSA.out _ HB6.out).mono ?_
  rintro e w7 ⟨rfl, hb7⟩
  have HB7 := Lib.hid (HB6.out.trans (hb7.mono HB6.out.size))
  clear hb7
  go_wp2_with fail
  refine (HRA.out _ HB7.out).mono ?_
  rintro e w' ⟨rfl, rfl⟩
  go_wp2_with fail
  refine (HRB.out _ HB7.out).mono ?_
  rintro e w' ⟨rfl, rfl⟩
  go_wp2_with fail
  refine (HRD.out _ HB7.out).mono ?_
  rintro e w9 ⟨rfl, q, rfl⟩
  go_wp2
  go_ret
  exact ⟨by simp, below_drewN HB7.out _⟩

theorem big {w : World} (A : Option Addr) (c : Nat) (a : List Int) (A' : Option Addr) (c' : Nat) (b : List Int) (dim : Int) (h : 100 < a.length ∨ 100 < b.length) :
    Calls Try.prog 3 #[.slice A a.length c, .slice A' b.length c', .int .i64 dim] w fun e w' => e = .returned (.bool true) ∧ Below w.heap.size w w' := by
  generalize a.length = la at *
  generalize b.length = lb at *
  by_cases h1 : 100 < la
  · have t1 : decide ((100 : Int) < (la : Int)) = true := by simp; omega
    clear h
    go_enter Try.func3, Try.ntmps3
    go_wp2_with fail
    refine (wakes_any w).mono ?_
    rintro e w1 ⟨rfl, hb1⟩
    have HB1 := Lib.hid hb1
    clear hb1
    go_wp2
    go_ret
    exact ⟨rfl, HB1.out⟩
  · have t1 : decide ((100 : Int) < (la : Int)) = false := by simp; omega
    have t2 : decide ((100 : Int) < (lb : Int)) = true := by simp; omega
    clear h
    go_enter Try.func3, Try.ntmps3
    go_wp2_with fail
    refine (wakes_any w).mono ?_
    rintro e w1 ⟨rfl, hb1⟩
    have HB1 := Lib.hid hb1
    clear hb1
    go_wp2
    go_ret
    exact ⟨rfl, HB1.out⟩

theorem walk {w : World} (A : Option Addr) (c : Nat) (a : List Int) (ha : Vec .i32 w A c a) (A' : Option Addr) (c' : Nat) (b : List Int) (hb : Vec .i32 w A' c' b) (dim : Int) (wd : (Lit.int .i64 dim).wf = true) :
    Calls Try.prog 3 #[.slice A a.length c, .slice A' b.length c', .int .i64 dim] w fun e w' => e = .returned (.bool true) ∧ Below w.heap.size w w' := by
  by_cases h : 100 < a.length ∨ 100 < b.length
  · exact big A c a A' c' b dim h
  · have h1 : a.length ≤ 100 := by omega
    have h2 : b.length ≤ 100 := by omega
    cases hra : right a with
    | false => exact no_a A c a ha A' c' b hb dim h1 h2 hra
    | true =>
      by_cases hd : (a.length : Int) = dim
      · cases hrb : right b with
        | false => exact no_b_dim_yes A c a ha A' c' b hb dim h1 h2 hra hrb hd
        | true =>
          by_cases hl : b.length = a.length
          · exact far_dim_yes A c a ha A' c' b hb dim h1 h2 hra hrb hl hd
          · exact unlike_dim_yes A c a ha A' c' b hb dim h1 h2 hra hrb hl hd
      · cases hrb : right b with
        | false => exact no_b_dim_no A c a ha A' c' b hb dim h1 h2 hra hrb hd
        | true =>
          by_cases hl : b.length = a.length
          · exact far_dim_no A c a ha A' c' b hb dim h1 h2 hra hrb hl hd
          · exact unlike_dim_no A c a ha A' c' b hb dim h1 h2 hra hrb hl hd

set_option maxRecDepth 100000 in
theorem lifted (os : Os) (started : os.Started) (H : Type) (enc : TypeId × Value → H) :
    ReturnsInHanded {} Try.checked os 3 .any (Rows.vecDistsSpec.pre6 enc Try.prog Try.f3 Rows.vecDistsRow.domain false) (Rows.vecDistsSpec.post enc Try.prog Try.f3 false true false false) := by
  refine returnsInHanded_of_change (C := Try.checked) Try.own started (by kernel_rfl) Try.func3
    (ChangeSpec.witness6 (enc := enc) (C := Try.checked) false ⟨#[], #[.slice none 0 0, .slice none 0 0, .int .i64 0], []⟩ 8 (by kernel_rfl) (by kernel_rfl) (by kernel_rfl) (by kernel_rfl)) ?_
  intro W base args ds gs before hval0 hW hcnd _
  have hval : ∀ (j : Nat) t v, Try.f3.params[j]? = some t → args[j]? = some v → Value.okWide Try.prog W .any base t v := hval0
  have hW' := hW
  obtain ⟨p, q, hA0, hV, rfl, hfz, hnd⟩ := hW
  have hA : DataW.TrodAll enc Try.prog W 0 (fun _ => true) true Try.f3.params.toList args.toList ds p := hA0
  rw [Try.params3] at hA hval
  have hA' := hA
  obtain ⟨v0, vs0, d0, ds0, p0, q0, hargs, rfl, rfl, h0, r0⟩ := trodAll_cons hA
  obtain ⟨v1, vs1, d1, ds1, p1, q1, rfl, rfl, rfl, h1, r1⟩ := trodAll_cons r0
  obtain ⟨v2, vs2, d2, ds2, p2, q2, rfl, rfl, rfl, h2, r2⟩ := trodAll_cons r1
  obtain ⟨rfl, rfl, rfl⟩ := trodAll_nil r2
  obtain rfl : args = #[v0, v1, v2] := by cases args; simp_all
  obtain ⟨rfl, rfl⟩ := trodVars_none hV
  obtain ⟨A0, len0, c0, rfl⟩ := okWide_slice Try.underlying22 (hval 0 22 v0 rfl rfl)
  obtain ⟨z0, rfl, sl0⟩ := open_vec h0
  obtain ⟨A1, len1, c1, rfl⟩ := okWide_slice Try.underlying22 (hval 1 22 v1 rfl rfl)
  obtain ⟨z1, rfl, sl1⟩ := open_vec h1
  obtain ⟨a2, rfl, rfl, rfl, w2⟩ := open_int Try.underlying3 (hval 2 3 v2 rfl rfl) h2
  clear hA0 hval0
  refine (walk A0 c0 z0 sl0 A1 c1 z1 sl1 a2 w2).mono fun e W' ⟨he, bel⟩ => ?_
  subst he
  exact ⟨_, rfl, _, _, _, [], _, [], hW', trodAll_mk1 (shut_bool Try.underlying4 _), trodAll_below bel _ _ _ _ (by kernel_rfl) hA', rfl, bel.frame _, fun h => by cases h⟩

theorem proved : Rows.VecDistsSaid :=
  OpenClaim.holds_of_wide 3 Try.f3 rfl rfl rfl rfl rfl rfl rfl ⟨rfl, rfl, rfl, rfl, rfl⟩ rfl rfl rfl rfl rfl (by kernel_rfl) Try.func3 (by kernel_rfl)
    (of_decide_eq_true (by kernel_rfl)) (by unfold Func.isWrapper; first | (rw [if_pos (by decide +kernel)]; kernel_rfl) | (rw [if_neg (by decide +kernel)]; exact ⟨rfl, rfl⟩))
    (fun os started H enc _ => lifted os started H enc)
#print axioms proved
end Go.Proofs.Ytdfpiipnpaknaaa.vecDists
