/-
  What package means answers: Same, Start, Assign, Parts, Round, Train.
-/
import Derived.Test.YtgakfffkadaeeaaMnsCol
namespace Go.Proofs.Ytgakfffkadaeeaa
open Go.RowKit Go.Shelf
set_option linter.unusedVariables false
set_option linter.unusedSimpArgs false
set_option maxRecDepth 100000

/-! ### Same -/
set_option maxHeartbeats 4000000 in
theorem eqV_any (A A' : Option Addr) (c c' : Nat) (q r : List (List Int)) (w : World) (h : Vecs .i32 w A c q) (h' : Vecs .i32 w A' c' r) :
    Calls Try.prog 45 #[.slice A q.length c, .slice A' r.length c', .func (.func 46) #[] #[]] w fun e w' => e = .returned (.bool (decide (q = r))) ∧ Below w.heap.size w w' := by
  by_cases hl : r.length = q.length
  · obtain ⟨R, hR⟩ : ∃ R, R = decide (q = r) := ⟨_, rfl⟩
    rw [hl, ← hR]
    obtain ⟨m, hm⟩ : ∃ m, m = q.length := ⟨_, rfl⟩
    have hmx : m ≤ 9223372036854775807 := by rw [hm]; exact Nat.le_trans h.room h.most
    rw [← hm]
    have HA := Lib.hid h
    have HB := Lib.hid h'
    have HM := Lib.hid hm
    have HL := Lib.hid hl
    have HR := Lib.hid hR
    clear h h' hm hl hR
    go_enter Try.func45, Try.ntmps45
    go_wp2
    go_loopw [17] (fun i wr => ∃ k : Nat, k ≤ m ∧ i = .int .i64 k ∧ Hid (q.take k = r.take k) ∧ Hid (Below w.heap.size w wr)) (fun i _ => m - (intOf i).toNat)
    case atStart => exact ⟨0, Nat.zero_le _, rfl, Lib.hid rfl, Lib.hid (Below.refl _ _)⟩
    case round =>
      obtain ⟨k, hk, rfl, HK, HW⟩ := hrel
      by_cases hkm : k < m
      · obtain ⟨b1, o1, x, B1, cb1, rfl, hp, hb1, c0, hv⟩ := (HA.out.below HW.out).at_ (i := k) (by rw [← HM.out]; exact hkm)
        obtain ⟨b2, o2, x', B2, cb2, rfl, hp', hb2, d0, hv'⟩ := (HB.out.below HW.out).at_ (i := k) (by rw [HL.out, ← HM.out]; exact hkm)
        have k0 : (0 : Int) ≤ k := by omega
        have km : (k : Int) < m := by omega
        have HP := Lib.hid hp
        have HP' := Lib.hid hp'
        have HC := Lib.hid (same_any B1 B2 cb1 cb2 x x' wr hv hv')
        clear hv hv' hp hp' hb1 hb2
        by_cases he : x = x'
        · have HS := Lib.hid (show q.take (k + 1) = r.take (k + 1) by rw [List.take_add_one, List.take_add_one, HK.out, HP.out, HP'.out, he])
          rw [decide_eq_true he] at HC
          clear he
          go_wp2_with fail
          refine HC.out.mono ?_
          rintro e w3 ⟨rfl, hb4⟩
          have HW4 := Lib.hid (HW.out.trans (hb4.mono HW.out.size))
          clear hb4
          go_wp2
          go_roundw
          case rel => exact ⟨k + 1, by omega, by go_num, HS, HW4⟩
          case measure => simp [intOf]; omega
        · have HF := Lib.hid (show R = false by rw [HR.out]; exact decide_eq_false (fun e => he (by have h1 := HP.out; rw [e, HP'.out] at h1; exact (Option.some.inj h1).symm)))
          rw [decide_eq_false he] at HC
          clear he
          go_wp2_with fail
          refine HC.out.mono ?_
          rintro e w3 ⟨rfl, hb4⟩
          have HW4 := Lib.hid (HW.out.trans (hb4.mono HW.out.size))
          clear hb4
          go_wp2
          go_ret
          rw [HF.out]
          exact ⟨rfl, HW4.out⟩
      · obtain rfl : k = m := by omega
        have HT := Lib.hid (show R = true by
          rw [HR.out]
          refine decide_eq_true ?_
          have := HK.out
          rw [HM.out, List.take_length, ← HL.out, List.take_length] at this
          exact this)
        go_wp2
        go_ret
        rw [HT.out]
        exact ⟨rfl, HW.out⟩
  · have HT := Lib.hid (show decide (q = r) = false from decide_eq_false (fun e => hl (by rw [e])))
    generalize decide (q = r) = R at *
    generalize q.length = n at *
    generalize r.length = m at *
    have t2 : ((n : Int) != (m : Int)) = true := by simp; omega
    have t3 : ((n : Int) == (m : Int)) = false := by simp; omega
    have t4 : (n == m) = false := by simp; omega
    clear hl h h'
    go_enter Try.func45, Try.ntmps45
    go_wp2
    go_ret
    rw [HT.out]
    exact ⟨rfl, Below.refl _ _⟩
theorem sameV_any (A A' : Option Addr) (c c' : Nat) (q r : List (List Int)) (w : World) (h : Vecs .i32 w A c q) (h' : Vecs .i32 w A' c' r) :
    Calls Try.prog 29 #[.slice A q.length c, .slice A' r.length c'] w fun e w' => e = .returned (.bool (decide (q = r))) ∧ Below w.heap.size w w' := by
  have HE := Lib.hid (eqV_any A A' c c' q r w h h')
  generalize decide (q = r) = D at *
  generalize q.length = n at *
  generalize r.length = m at *
  clear h h'
  go_enter Try.func29, Try.ntmps29
  go_wp2_with fail
  refine HE.out.mono ?_
  rintro e w1 ⟨rfl, hb1⟩
  have HB1 := Lib.hid hb1
  clear hb1
  go_wp2
  go_ret
  exact ⟨rfl, HB1.out⟩

/-! ### Start -/
/-- Rows of the call's own and an error. -/
def GivesVE (w : World) (L : List (List Int)) (E : Int) (e : Ending) (w' : World) : Prop := ∃ A c q, e = .returned (.tuple #[.slice A (List.length q) c, .int .i64 E]) ∧ vals q = L ∧ OwnVs w.heap.size w' A c q ∧ Below w.heap.size w w'
def startV (l : List (List Int)) (d : List Int) : List (List Int) := if startE l d = 0 then startM l d else []

theorem right_short {l : List (List Int)} (h : allM l = 0) : ∀ x ∈ l, x.length ≤ 1000000 := fun x hx => by have := right_len (allM_ok h x hx).1; omega

set_option maxHeartbeats 1000000 in
theorem start_any (A A' : Option Addr) (c c' : Nat) (l : List (List Int)) (d : List Int) (w : World) (h : Vecs .i32 w A c l) (hd : Vec .i64 w A' c' d) :
    Calls Try.prog 15 #[.slice A l.length c, .slice A' d.length c'] w (GivesVE w (startV l d) (startE l d)) := by
  have HR := Lib.hid (refuseStart_any A A' c c' l d w h hd)
  by_cases h0 : startE l d = 0
  · have hv := vect_ok (start_ok h0).2
    have hdd := draws_ok (start_ok h0).1
    have HD := Lib.hid (fun (V : World) (hV : Below w.heap.size w V) => drawn_any A A' c c' l d V (h.below hV) (hd.below hV) hv.1.1 (by omega) (right_short hv.2) (by omega) (fun x hx => (hdd.2.2 x hx).1))
    have HF := Lib.hid (show startV l d = startM l d by unfold startV; rw [if_pos h0])
    rw [h0] at HR ⊢
    generalize startV l d = R at *
    generalize startM l d = R2 at *
    generalize l.length = n at *
    generalize d.length = m at *
    clear h hd hv hdd h0
    go_enter Try.func15, Try.ntmps15
    go_wp2_with fail
    refine HR.out.mono ?_
    rintro e w1 ⟨rfl, hb1⟩
    have HB1 := Lib.hid hb1
    clear hb1
    go_wp2_with fail
    refine (HD.out w1 HB1.out).mono ?_
    rintro e w2 ⟨A2, c2, q, rfl, hq, ho, hb2⟩
    have HO := Lib.hid (show vals q = R ∧ OwnVs w.heap.size w2 A2 c2 q ∧ Below w.heap.size w w2 from ⟨by rw [hq, HF.out], ho.mono HB1.out.size, below_tr HB1.out hb2⟩)
    clear hq ho hb2
    go_wp2
    go_ret2
    exact ⟨A2, c2, q, rfl, HO.out.1, HO.out.2.1, HO.out.2.2⟩
  · have HF := Lib.hid (show startV l d = [] by unfold startV; rw [if_neg h0])
    have t1 : (startE l d == 0) = false := by simpa using h0
    have t2 : (startE l d != 0) = true := by simpa using h0
    generalize startV l d = R at *
    generalize startE l d = E at *
    generalize l.length = n at *
    generalize d.length = m at *
    clear h hd h0
    go_enter Try.func15, Try.ntmps15
    go_wp2_with fail
    refine HR.out.mono ?_
    rintro e w1 ⟨rfl, hb1⟩
    have HB1 := Lib.hid hb1
    clear hb1
    go_wp2
    go_ret2
    exact ⟨none, 0, [], rfl, by rw [HF.out]; rfl, OwnVs.nil _ _, HB1.out⟩

/-! ### Assign -/
def assignN (c : List (List Int)) (v : List Int) : Int := if assignE c v = 0 then (nearM c v : Int) else 0
theorem near_of {n : Nat} {c : List (List Int)} {v : List Int} (hc : Alike n c) (hv : right v = true ∧ v.length = n) (h0 : 0 < c.length) : nearE c v = 0 ∧ nearN c v = nearM c v := by
  have e : nearE c v = 0 := by
    unfold nearE
    rw [if_neg (by omega), check_right, if_pos hv.1]
    simp only [ne_eq, not_true_eq_false, if_false]
    unfold refuseM
    rw [if_pos (List.all_eq_true.2 fun x hx => (hc x hx).1), if_pos]
    rw [List.all_eq_true]
    intro x hx
    have := (hc x hx).2
    rw [decide_eq_true_eq, hv.2, this]
  exact ⟨e, by unfold nearN; rw [if_pos e]⟩

set_option maxHeartbeats 1000000 in
theorem assign_any (A A' : Option Addr) (c c' : Nat) (cs : List (List Int)) (v : List Int) (w : World) (h : Vecs .i32 w A c cs) (hv : Vec .i32 w A' c' v) :
    Calls Try.prog 28 #[.slice A cs.length c, .slice A' v.length c'] w fun e w' => e = .returned (.tuple #[.int .i64 (assignN cs v), .int .i64 (assignE cs v)]) ∧ Below w.heap.size w w' := by
  have HT := Lib.hid (fun V => refuseCount_any A cs.length c V)
  have hte : (if cs.length = 0 ∨ 6 < cs.length then (2 : Int) else 0) = countE cs := rfl
  rw [hte] at HT
  by_cases h0 : countE cs = 0
  · obtain ⟨n0, n6⟩ := count_ok h0
    obtain ⟨b, o, x0, B0, cb0, hA, _⟩ := h.at_ (i := 0) n0
    subst hA
    have HC := Lib.hid (cloneV_any b o c cs w h (by omega))
    have hE : assignE cs v = allM (cs ++ [v]) := by unfold assignE; rw [if_neg (by simpa using h0)]
    have HST := Lib.hid (fun (A1 : Option Addr) (c1 : Nat) (w1 : World) (hI : BrI w cs cs.length A1 c1 w1) => hI.step (Below.refl _ _) hv)
    have HRV := Lib.hid (fun (A1 : Option Addr) (c1 : Nat) (w1 : World) (hI : BrI w (cs ++ [v]) (cs.length + 1) A1 c1 w1) => show Calls Try.prog 42 #[.slice A1 (cs.length + 1) c1] w1 (fun e w' => e = .returned (.int .i64 (assignE cs v)) ∧ Below w.heap.size w w') from by
      obtain ⟨k1, k2, k3⟩ := hI.vecs
      have := refuseVectors_any A1 c1 (cs ++ [v]) w1 k1 (by simp)
      rw [List.length_append] at this
      rw [hE]
      exact this.mono (fun e w' hh => ⟨hh.1, below_tr k2 hh.2⟩))
    have HN := Lib.hid (fun (V : World) (hV : Below w.heap.size w V) => nearest_any (some ⟨b, o, none⟩) A' c c' cs v V (h.below hV) (hv.below hV))
    rw [h0] at HT
    obtain ⟨n, hn⟩ : ∃ n, n = cs.length := ⟨_, rfl⟩
    obtain ⟨m, hm⟩ : ∃ m, m = v.length := ⟨_, rfl⟩
    have n1 : n ≤ 1000000 := by omega
    by_cases hE0 : assignE cs v = 0
    · have hok := allM_ok (hE ▸ hE0 : allM (cs ++ [v]) = 0)
      obtain ⟨a1, a2⟩ := Alike.append.1 hok
      obtain ⟨e1, e2⟩ := near_of a1 (a2 v (by simp)) n0
      have HF := Lib.hid (show assignN cs v = ((nearN cs v : Nat) : Int) by unfold assignN; rw [if_pos hE0, e2])
      rw [e1] at HN
      rw [hE0] at HRV ⊢
      rw [← hn] at HT HC HST HRV HN ⊢
      rw [← hm] at HST HN ⊢
      clear h hv hte h0 hE hE0 hok a1 a2 e1 e2 hn hm n0 n6
      go_enter Try.func28, Try.ntmps28
      go_wp2_with fail
      refine (HT.out w).mono ?_
      rintro e w1 ⟨rfl, rfl⟩
      go_wp2_with fail
      refine HC.out.mono ?_
      rintro e w1 ⟨A1, c1, rfl, hI⟩
      obtain ⟨vs, r1, r2, r3, r5⟩ := HST.out A1 c1 w1 hI
      have HR := Lib.hid r1
      have HO := Lib.hid r2
      have HX := Lib.hid r5
      clear hI r1 r2 r5
      go_wp2_with (first
        | (at_builtin; refine gapp_at rfl (.tmp 14) (.tmp 16) appV rfl w.heap.size A1 c1 n vs rfl HO.out (some ⟨w1.heap.size, 0, none⟩) 1 1 [.slice A' m c'] rfl HR.out (by omega) r3 ?_; intro A5 c5 w4 ho hg _; have HN4 := Lib.hid (HRV.out A5 c5 w4 (HX.out A5 c5 w4 ho hg)); clear ho hg)
        | fail)
      refine HN4.out.mono ?_
      rintro e w5 ⟨rfl, hb5⟩
      have HB5 := Lib.hid hb5
      clear hb5
      go_wp2_with fail
      refine (HN.out w5 HB5.out).mono ?_
      rintro e w6 ⟨rfl, hb6⟩
      have HB6 := Lib.hid (below_tr HB5.out hb6)
      clear hb6
      go_wp2
      go_ret2
      rw [HF.out]
      exact ⟨rfl, HB6.out⟩
    · have HF := Lib.hid (show assignN cs v = 0 by unfold assignN; rw [if_neg hE0])
      have t1 : (assignE cs v == 0) = false := by simpa using hE0
      have t2 : (assignE cs v != 0) = true := by simpa using hE0
      rw [← hn] at HT HC HST HRV HN ⊢
      rw [← hm] at HST HN ⊢
      generalize assignN cs v = R at *
      generalize assignE cs v = E at *
      clear h hv hte h0 hE hE0 hn hm n0 n6
      go_enter Try.func28, Try.ntmps28
      go_wp2_with fail
      refine (HT.out w).mono ?_
      rintro e w1 ⟨rfl, rfl⟩
      go_wp2_with fail
      refine HC.out.mono ?_
      rintro e w1 ⟨A1, c1, rfl, hI⟩
      obtain ⟨vs, r1, r2, r3, r5⟩ := HST.out A1 c1 w1 hI
      have HR := Lib.hid r1
      have HO := Lib.hid r2
      have HX := Lib.hid r5
      clear hI r1 r2 r5
      go_wp2_with (first
        | (at_builtin; refine gapp_at rfl (.tmp 14) (.tmp 16) appV rfl w.heap.size A1 c1 n vs rfl HO.out (some ⟨w1.heap.size, 0, none⟩) 1 1 [.slice A' m c'] rfl HR.out (by omega) r3 ?_; intro A5 c5 w4 ho hg _; have HN4 := Lib.hid (HRV.out A5 c5 w4 (HX.out A5 c5 w4 ho hg)); clear ho hg)
        | fail)
      refine HN4.out.mono ?_
      rintro e w5 ⟨rfl, hb5⟩
      have HB5 := Lib.hid hb5
      clear hb5
      go_wp2
      go_ret2
      rw [HF.out]
      exact ⟨rfl, HB5.out⟩
  · have hE : assignE cs v = countE cs := by unfold assignE; rw [if_pos h0]
    have HF := Lib.hid (show assignN cs v = 0 by unfold assignN; rw [hE, if_neg h0])
    have t1 : (countE cs == 0) = false := by simpa using h0
    have t2 : (countE cs != 0) = true := by simpa using h0
    rw [hE]
    generalize assignN cs v = R at *
    generalize countE cs = E at *
    generalize cs.length = n at *
    generalize v.length = m at *
    clear h hv hte h0 hE
    go_enter Try.func28, Try.ntmps28
    go_wp2_with fail
    refine (HT.out w).mono ?_
    rintro e w1 ⟨rfl, rfl⟩
    go_wp2
    go_ret2
    rw [HF.out]
    exact ⟨rfl, Below.refl _ _⟩
end Go.Proofs.Ytgakfffkadaeeaa
