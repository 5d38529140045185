/-
  Proved: the law VecMoves, a distance is the same both ways, and 0 just of the same vector; moved by the same vector both are as far as they were, returns true for every three vectors, and leaves all memory as it was. No condition.
-/
import Derived.Test.YtdfpiipnpaknaaaVecWakes
import Derived.Test.YtdfpiipnpaknaaaLawFrame
namespace Go.Proofs.Ytdfpiipnpaknaaa.vecMoves
open Go.ChangeShapes Go.WideShapes Go.ChangeAt Go.RowKit
set_option linter.unusedVariables false
set_option maxRecDepth 100000

/-! ### plain numbers -/
theorem sq_swap (p : Int × Int) : sq (p.2, p.1) = sq p := by
  obtain ⟨x, y⟩ := p
  unfold sq
  dsimp only
  rw [← Int.neg_mul_neg]; congr 1 <;> omega
theorem dist_swap (a b : List Int) : distM a b = distM b a := by
  unfold distM
  induction a generalizing b with
  | nil => cases b <;> rfl
  | cons x a ih =>
    cases b with
    | nil => rfl
    | cons y b =>
      have e1 : sumP ((x, y) :: a.zip b) = sq (x, y) + sumP (a.zip b) := by simp [sumP]
      have e2 : sumP ((y, x) :: b.zip a) = sq (y, x) + sumP (b.zip a) := by simp [sumP]
      rw [List.zip_cons_cons, List.zip_cons_cons, e1, e2, ih b, sq_swap (y, x)]
theorem distE_swap (a b : List Int) : distE a b = distE b a := by
  unfold distE refuseM
  have h1 : [a, b].all right = [b, a].all right := by simp [Bool.and_comm]
  have h2 : [a, b].all (fun x => decide ((x.length : Int) = (a.length : Nat))) = [b, a].all (fun x => decide ((x.length : Int) = (b.length : Nat))) := by
    simp only [List.all_cons, List.all_nil, Bool.and_true, decide_true, Bool.true_and]
    rw [Bool.eq_iff_iff]
    simp
    omega
  rw [h1, h2]
theorem distD_swap (a b : List Int) : distD a b = distD b a := by unfold distD; rw [distE_swap a b, dist_swap a b]
theorem sq_zero {p : Int × Int} (h : sq p = 0) : p.1 = p.2 := by
  unfold sq at h
  rcases Int.mul_eq_zero.1 h with h | h <;> omega
theorem sum_zero {ps : List (Int × Int)} : sumP ps = 0 ↔ ∀ p ∈ ps, p.1 = p.2 := by
  induction ps with
  | nil => simp [sumP]
  | cons p ps ih =>
    have e : sumP (p :: ps) = sq p + sumP ps := by simp [sumP]
    have h0 := sq_nonneg p
    have h1 : 0 ≤ sumP ps := by
      clear ih e
      induction ps with
      | nil => simp [sumP]
      | cons q qs ih2 =>
        have e : sumP (q :: qs) = sq q + sumP qs := by simp [sumP]
        have := sq_nonneg q
        omega
    rw [e]
    constructor
    · intro h q hq
      have h2 : sq p = 0 := by omega
      have h3 : sumP ps = 0 := by omega
      rcases List.mem_cons.1 hq with rfl | hq
      · exact sq_zero h2
      · exact ih.1 h3 q hq
    · intro h
      have h2 : sq p = 0 := by unfold sq; rw [h p (by simp)]; simp
      have h3 := ih.2 (fun q hq => h q (by simp [hq]))
      omega
theorem zero_iff {a b : List Int} (hl : b.length = a.length) : distM a b = 0 ↔ a = b := by
  unfold distM
  rw [sum_zero]
  constructor
  · exact zip_eq hl
  · rintro rfl p hp
    have : ∀ (l : List Int) (p : Int × Int), p ∈ l.zip l → p.1 = p.2 := by
      intro l
      induction l with
      | nil => simp
      | cons x l ih =>
        intro p hp
        rw [List.zip_cons_cons] at hp
        rcases List.mem_cons.1 hp with rfl | hp
        · rfl
        · exact ih p hp
    exact this a p hp
/-- Moved by. -/
def addM (a by_ : List Int) : List Int := List.zipWith (· + ·) a by_
theorem addM_take {a by_ : List Int} {k : Nat} {x y : Int} (hx : a[k]? = some x) (hy : by_[k]? = some y) : (addM a by_).take (k + 1) = (addM a by_).take k ++ [x + y] := by
  unfold addM
  rw [List.take_add_one, List.getElem?_zipWith, hx, hy]; rfl
theorem addM_len {a by_ : List Int} (h : by_.length = a.length) : (addM a by_).length = a.length := by unfold addM; simp [h]
theorem addM_dist {a b by_ : List Int} (h : by_.length = a.length) (hl : b.length = a.length) : distM (addM a by_) (addM b by_) = distM a b := by
  unfold distM addM
  induction a generalizing b by_ with
  | nil => cases b <;> rfl
  | cons x a ih =>
    cases b with
    | nil => simp at hl
    | cons y b =>
      cases by_ with
      | nil => simp at h
      | cons z by_ =>
        have e1 : sumP ((x + z, y + z) :: (List.zipWith (· + ·) a by_).zip (List.zipWith (· + ·) b by_)) = sq (x + z, y + z) + sumP ((List.zipWith (· + ·) a by_).zip (List.zipWith (· + ·) b by_)) := by simp [sumP]
        have e2 : sumP ((x, y) :: a.zip b) = sq (x, y) + sumP (a.zip b) := by simp [sumP]
        rw [List.zipWith_cons_cons, List.zipWith_cons_cons, List.zip_cons_cons, List.zip_cons_cons, e1, e2, ih (by simpa using h) (by simpa using hl)]
        congr 1
        unfold sq
        dsimp only
        congr 1 <;> omega

/-! ### two rows that grow -/
def Apart (v u : Value) : Prop := ∀ i, v.ownBlock = some i → u.ownBlock ≠ some i
theorem Apart.symm {v u : Value} (h : Apart v u) : Apart u v := fun i hi hv => h i hv hi
theorem grow_two {base k m n : Nat} {e : TypeId} {W w2 : World} {tmp : Obj} {x x' y : Value} {xs xs' ys : List Value} (hx : W.ownsRow base e 1 x k xs) (hy : W.ownsRow base e 1 y m ys) (hap : Apart x y) (hown : w2.ownsRow base e 1 x' n xs')
    (hg : (W.alloc tmp).grownBy w2 x.ownBlock) (hloc : x'.ownBlock = x.ownBlock ∨ x'.ownBlock = some (W.alloc tmp).heap.size) : w2.ownsRow base e 1 y m ys ∧ Apart x' y := by
  refine ⟨(hy.alloc tmp).kept hg ?_, fun i hi hyi => ?_⟩
  · cases hq : y.ownBlock with
    | none => exact .inl rfl
    | some i => exact .inr (fun e => hap i e.symm hq)
  · rcases hloc with e | e
    · rw [e] at hi; exact hap i hi hyi
    · rw [e] at hi
      injection hi with hi
      have := (hy.lt i hyi).2
      simp at hi
      omega

set_option maxHeartbeats 1000000 in
theorem walk_no {w : World} (A : Option Addr) (c : Nat) (a : List Int) (ha : Vec .i32 w A c a) (A' : Option Addr) (c' : Nat) (b : List Int) (hb : Vec .i32 w A' c' b) (A2 : Option Addr) (c2 : Nat) (by_ : List Int) (hy : Vec .i32 w A2 c2 by_) (hE : distE a b ≠ 0) :
    Calls Try.prog 6 #[.slice A a.length c, .slice A' b.length c', .slice A2 by_.length c2] w fun e w' => e = .returned (.bool true) ∧ Below w.heap.size w w' := by
  have HD := Lib.hid (fun (V : World) (hV : Below w.heap.size w V) => dist_any A A' c c' a b V (ha.below hV) (hb.below hV))
  have HR := Lib.hid (fun (V : World) (hV : Below w.heap.size w V) => dist_any A' A c' c b a V (hb.below hV) (ha.below hV))
  rw [← distE_swap, ← distD_swap] at HR
  have h0 : distD a b = 0 := by unfold distD; rw [if_neg hE]
  rw [h0] at HD HR
  generalize distE a b = E at *
  have t3 : (E == 0) = false := by simpa using hE
  have t4 : (E != 0) = true := by simpa using hE
  generalize a.length = n at *
  generalize b.length = m at *
  generalize by_.length = l at *
  clear ha hb hy hE h0
  go_enter Try.func6, Try.ntmps6
  go_wp2_with fail
  refine (wakes_any w).mono ?_
  rintro e w1 ⟨rfl, hb1⟩
  have HB1 := Lib.hid hb1
  clear hb1
  go_wp2_with fail
  refine (HD.out _ HB1.out).mono ?_
  rintro e w2 ⟨rfl, hb2⟩
  have HB2 := Lib.hid (HB1.out.trans (hb2.mono HB1.out.size))
  clear hb2
  go_wp2_with fail
  refine (HR.out _ HB2.out).mono ?_
  rintro e w3 ⟨rfl, hb3⟩
  have HB3 := Lib.hid (HB2.out.trans (hb3.mono HB2.out.size))
  clear hb3
  go_wp2
  go_ret
  exact ⟨by simp, HB3.out⟩

theorem mv_ok {a b : List Int} (h : distE a b = 0) : right a = true ∧ right b = true ∧ b.length = a.length := by
  have h1 := refuse_ok h a (by simp)
  have h2 := refuse_ok h b (by simp)
  exact ⟨h1.1, h2.1, by have := h2.2; omega⟩

set_option maxHeartbeats 1000000 in
theorem walk_by {w : World} (A : Option Addr) (c : Nat) (a : List Int) (ha : Vec .i32 w A c a) (A' : Option Addr) (c' : Nat) (b : List Int) (hb : Vec .i32 w A' c' b) (A2 : Option Addr) (c2 : Nat) (by_ : List Int) (hy : Vec .i32 w A2 c2 by_) (hE : distE a b = 0) (hO : refuseM a.length [by_] ≠ 0) :
    Calls Try.prog 6 #[.slice A a.length c, .slice A' b.length c', .slice A2 by_.length c2] w fun e w' => e = .returned (.bool true) ∧ Below w.heap.size w w' := by
  have HD := Lib.hid (fun (V : World) (hV : Below w.heap.size w V) => dist_any A A' c c' a b V (ha.below hV) (hb.below hV))
  have HR := Lib.hid (fun (V : World) (hV : Below w.heap.size w V) => dist_any A' A c' c b a V (hb.below hV) (ha.below hV))
  rw [← distE_swap, ← distD_swap] at HR
  obtain ⟨ra, rb, hl⟩ := mv_ok hE
  have hD : distD a b = distM a b := by unfold distD; rw [if_pos hE]
  rw [hE, hD] at HD HR
  have HS := Lib.hid (fun (V : World) (hV : Below w.heap.size w V) => same_any A A' c c' a b V (ha.below hV) (hb.below hV))
  have HO := Lib.hid (fun (V : World) (hV : Below w.heap.size w V) => of_any A2 c2 by_ a.length V (hy.below hV))
  have hz : decide (a = b) = (distM a b == 0) := by
    by_cases e : a = b
    · rw [decide_eq_true e, (zero_iff hl).2 e]; rfl
    · rw [decide_eq_false e]; symm; rw [beq_eq_false_iff_ne]; exact fun h => e ((zero_iff hl).1 h)
  rw [hz] at HS
  generalize distM a b = D at *
  generalize refuseM a.length [by_] = O at *
  have t3 : (O == 0) = false := by simpa using hO
  have t4 : (O != 0) = true := by simpa using hO
  generalize a.length = n at *
  generalize b.length = m at *
  generalize by_.length = l at *
  clear ha hb hy hE hz hO hD hl ra rb
  go_enter Try.func6, Try.ntmps6
  go_wp2_with fail
  refine (wakes_any w).mono ?_
  rintro e w1 ⟨rfl, hb1⟩
  have HB1 := Lib.hid hb1
  clear hb1
  go_wp2_with fail
  refine (HD.out _ HB1.out).mono ?_
  rintro e w2 ⟨rfl, hb2⟩
  have HB2 := Lib.hid (HB1.out.trans (hb2.mono HB1.out.size))
  clear hb2
  go_wp2_with fail
  refine (HR.out _ HB2.out).mono ?_
  rintro e w3 ⟨rfl, hb3⟩
  have HB3 := Lib.hid (HB2.out.trans (hb3.mono HB2.out.size))
  clear hb3
  go_wp2_with fail
  refine (HS.out _ HB3.out).mono ?_
  rintro e w4 ⟨rfl, hb4⟩
  have HB4 := Lib.hid (HB3.out.trans (hb4.mono HB3.out.size))
  clear hb4
  go_wp2_with fail
  refine (HO.out _ HB4.out).mono ?_
  rintro e w5 ⟨rfl, hb5⟩
  have HB5 := Lib.hid (HB4.out.trans (hb5.mono HB4.out.size))
  clear hb5
  go_wp2
  go_ret
  exact ⟨rfl, HB5.out⟩

/-- Both so far. -/
structure MvI (w : World) (a b by_ : List Int) (k : Nat) (X Y : Value) (W : World) : Prop where
  x : W.ownsRow w.heap.size 21 1 X k (((addM a by_).take k).map (Value.int .i32))
  y : W.ownsRow w.heap.size 21 1 Y k (((addM b by_).take k).map (Value.int .i32))
  apart : Apart X Y
  bel : Below w.heap.size w W
  fit : ∀ z ∈ (addM a by_).take k, -1073741823 ≤ z ∧ z ≤ 1073741823
  fit2 : ∀ z ∈ (addM b by_).take k, -1073741823 ≤ z ∧ z ≤ 1073741823

set_option maxHeartbeats 4000000 in
theorem walk_ok {w : World} (A : Option Addr) (c : Nat) (a : List Int) (ha : Vec .i32 w A c a) (A' : Option Addr) (c' : Nat) (b : List Int) (hb : Vec .i32 w A' c' b) (A2 : Option Addr) (c2 : Nat) (by_ : List Int) (hy : Vec .i32 w A2 c2 by_) (hE : distE a b = 0) (hO : refuseM a.length [by_] = 0) :
    Calls Try.prog 6 #[.slice A a.length c, .slice A' b.length c', .slice A2 by_.length c2] w fun e w' => e = .returned (.bool true) ∧ Below w.heap.size w w' := by
  have HD := Lib.hid (fun (V : World) (hV : Below w.heap.size w V) => dist_any A A' c c' a b V (ha.below hV) (hb.below hV))
  have HR := Lib.hid (fun (V : World) (hV : Below w.heap.size w V) => dist_any A' A c' c b a V (hb.below hV) (ha.below hV))
  rw [← distE_swap, ← distD_swap] at HR
  obtain ⟨i0, hi, hz0, hz1, hz2⟩ := info_parts infoI32
  obtain ⟨ra, rb, hl⟩ := mv_ok hE
  have hby := refuse_ok hO by_ (by simp)
  have hD : distD a b = distM a b := by unfold distD; rw [if_pos hE]
  rw [hE, hD] at HD HR
  have HS := Lib.hid (fun (V : World) (hV : Below w.heap.size w V) => same_any A A' c c' a b V (ha.below hV) (hb.below hV))
  have HO := Lib.hid (fun (V : World) (hV : Below w.heap.size w V) => of_any A2 c2 by_ a.length V (hy.below hV))
  rw [hO] at HO
  have hz : decide (a = b) = (distM a b == 0) := by
    by_cases e : a = b
    · rw [decide_eq_true e, (zero_iff hl).2 e]; rfl
    · rw [decide_eq_false e]; symm; rw [beq_eq_false_iff_ne]; exact fun h => e ((zero_iff hl).1 h)
  rw [hz] at HS
  have hbl : by_.length = a.length := by have := hby.2; omega
  have HFIN := Lib.hid (fun (V : World) (X Y : Option Addr) (cx cy : Nat) (hx : Vec .i32 V X cx (addM a by_)) (hy : Vec .i32 V Y cy (addM b by_)) (f1 : ∀ z ∈ addM a by_, -1073741823 ≤ z ∧ z ≤ 1073741823) (f2 : ∀ z ∈ addM b by_, -1073741823 ≤ z ∧ z ≤ 1073741823) => show Calls Try.prog 10 #[.slice X a.length cx, .slice Y a.length cy] V (fun e w' => e = .returned (.tuple #[.int .u64 (distM a b), .int .i64 0]) ∧ Below V.heap.size V w') from by
    have l1 := addM_len hbl
    have l2 := addM_len (a := b) (by_ := by_) (by omega)
    have hla := right_len ra
    have r1 : right (addM a by_) = true := by
      unfold right
      rw [l1]
      simp only [Bool.and_eq_true, decide_eq_true_eq, List.all_eq_true]
      exact ⟨⟨hla.1, hla.2⟩, fun z hz => by unfold comp; have := f1 z hz; simp; omega⟩
    have r2 : right (addM b by_) = true := by
      unfold right
      rw [l2, hl]
      simp only [Bool.and_eq_true, decide_eq_true_eq, List.all_eq_true]
      exact ⟨⟨hla.1, hla.2⟩, fun z hz => by unfold comp; have := f2 z hz; simp; omega⟩
    have h := dist_any X Y cx cy (addM a by_) (addM b by_) V hx hy
    have e1 : distE (addM a by_) (addM b by_) = 0 := by
      unfold distE refuseM
      rw [l1]
      have : (b.length : Int) = (a.length : Nat) := by omega
      simp [r1, r2, l1, l2, this]
    have e2 : distD (addM a by_) (addM b by_) = distM a b := by unfold distD; rw [if_pos e1, addM_dist hbl hl]
    rw [e1, e2, l1, l2, hl] at h
    exact h)
  have HLX := Lib.hid (addM_len hbl)
  have HLY := Lib.hid (show (addM b by_).length = a.length by rw [addM_len (by omega), hl])
  have HRA := Lib.hid (right_comp ra)
  have HRB := Lib.hid (right_comp rb)
  have HRY := Lib.hid (right_comp hby.1)
  have hla := right_len ra
  generalize distM a b = D at *
  have HA := Lib.hid ha
  have HB := Lib.hid hb
  have HY := Lib.hid hy
  rw [hl, hbl]
  rw [hl] at HD HR HS
  rw [hbl] at HO
  obtain ⟨n, hn⟩ : ∃ n, n = a.length := ⟨_, rfl⟩
  have HN := Lib.hid hn
  have HL := Lib.hid hl
  have HBL := Lib.hid hbl
  rw [← hn] at hla HD HR HS HO HFIN HLX HLY ⊢
  have hn4 := hla.2
  clear ha hb hy hE hz hO hD hl ra rb hby hbl hn hla
  go_enter Try.func6, Try.ntmps6
  go_wp2_with fail
  refine (wakes_any w).mono ?_
  rintro e w1 ⟨rfl, hb1⟩
  have HB1 := Lib.hid hb1
  clear hb1
  go_wp2_with fail
  refine (HD.out _ HB1.out).mono ?_
  rintro e w2 ⟨rfl, hb2⟩
  have HB2 := Lib.hid (HB1.out.trans (hb2.mono HB1.out.size))
  clear hb2
  go_wp2_with fail
  refine (HR.out _ HB2.out).mono ?_
  rintro e w3 ⟨rfl, hb3⟩
  have HB3 := Lib.hid (HB2.out.trans (hb3.mono HB2.out.size))
  clear hb3
  go_wp2_with fail
  refine (HS.out _ HB3.out).mono ?_
  rintro e w4 ⟨rfl, hb4⟩
  have HB4 := Lib.hid (HB3.out.trans (hb4.mono HB3.out.size))
  clear hb4
  go_wp2_with fail
  refine (HO.out _ HB4.out).mono ?_
  rintro e w5 ⟨rfl, hb5⟩
  have HB5 := Lib.hid (HB4.out.trans (hb5.mono HB4.out.size))
  clear hb5
  go_wp2
  go_loopw [11, 12, 13, 14, 15, 56] (fun x y _ _ _ i wr => ∃ k : Nat, k ≤ n ∧ i = .int .i64 k ∧ Hid (MvI w a b by_ k x y wr)) (fun _ _ _ _ _ i _ => n - (intOf i).toNat)
  case atStart => exact ⟨0, Nat.zero_le _, rfl, Lib.hid ⟨World.ownsRow_nil _ _ _ _, World.ownsRow_nil _ _ _ _, fun i hi => by simp [Value.ownBlock] at hi, HB5.out, by simp, by simp⟩⟩
  case round =>
    obtain ⟨k, hk, rfl, HI⟩ := hrel
    obtain ⟨X, cx, rfl, hcx, _⟩ := own_form HI.out.x
    obtain ⟨Y, cy, rfl, hcy, _⟩ := own_form HI.out.y
    by_cases hkn : k < n
    · obtain ⟨g1, o1, rfl, hg1, hc1⟩ := HA.out.at_ (j := k) (by rw [← HN.out]; exact hkn)
      obtain ⟨g2, o2, rfl, hg2, hc2'⟩ := HB.out.at_ (j := k) (by rw [HL.out, ← HN.out]; exact hkn)
      obtain ⟨g3, o3, rfl, hg3, hc3⟩ := HY.out.at_ (j := k) (by rw [HBL.out, ← HN.out]; exact hkn)
      have e1 := (HI.out.bel.cell (p := ⟨g1, o1 + k, none⟩) hg1).trans hc1
      have e2 := (HI.out.bel.cell (p := ⟨g2, o2 + k, none⟩) hg2).trans hc2'
      have e3 := (HI.out.bel.cell (p := ⟨g3, o3 + k, none⟩) hg3).trans hc3
      have hx := getD_some (a := a) (k := k) (by rw [← HN.out]; exact hkn)
      have hy := getD_some (a := b) (k := k) (by rw [HL.out, ← HN.out]; exact hkn)
      have hz := getD_some (a := by_) (k := k) (by rw [HBL.out, ← HN.out]; exact hkn)
      have bx := HRA.out _ (List.mem_of_getElem? hx)
      have by2 := HRB.out _ (List.mem_of_getElem? hy)
      have bz := HRY.out _ (List.mem_of_getElem? hz)
      have HT1 := Lib.hid (addM_take hx hz)
      have HT2 := Lib.hid (addM_take hy hz)
      generalize a.getD k 0 = x at *
      generalize b.getD k 0 = y at *
      generalize by_.getD k 0 = z at *
      have x1 := bx.1
      have x2 := bx.2
      have y1 := by2.1
      have y2 := by2.2
      have z1 := bz.1
      have z2 := bz.2
      have k0 : (0 : Int) ≤ k := by omega
      have kn : (k : Int) < n := by omega
      clear hx hy hz bx by2 bz hc1 hc2' hc3 hg1 hg2 hg3
      by_cases hp : 1073741823 < x + z
      · go_wp2
        go_quiet (fail)
        go_wp2
        go_ret
        exact ⟨rfl, below_drewN HI.out.bel _⟩
      by_cases hq : 1073741823 < y + z
      · go_wp2
        go_quiet (fail)
        go_wp2
        go_ret
        exact ⟨rfl, below_drewN HI.out.bel _⟩
      by_cases hp2 : x + z < -1073741823
      · go_wp2
        go_quiet (fail)
        go_wp2
        go_ret
        exact ⟨rfl, below_drewN HI.out.bel _⟩
      by_cases hq2 : y + z < -1073741823
      · go_wp2
        go_quiet (fail)
        go_wp2
        go_ret
        exact ⟨rfl, below_drewN HI.out.bel _⟩
      have p1 : -1073741823 ≤ x + z ∧ x + z ≤ 1073741823 := by omega
      have p2 : -1073741823 ≤ y + z ∧ y + z ≤ 1073741823 := by omega
      have HP := Lib.hid (And.intro p1 p2)
      have w1 := w32 p1
      have w2 := w32 p2
      clear p1 p2
      go_wp2
      go_quiet (fail)
      obtain ⟨V, hV⟩ : ∃ V, V = wr.drewN nq := ⟨_, rfl⟩
      have HIV := Lib.hid (show MvI w a b by_ k (.slice X k cx) (.slice Y k cy) V by rw [hV]; exact ⟨HI.out.x, HI.out.y, HI.out.apart, below_drewN HI.out.bel _, HI.out.fit, HI.out.fit2⟩)
      rw [← hV]
      clear hV
      go_wp2_with (first
        | (at_builtin; refine wpList_append_own_at _ rfl (.tmp 91) (.tmp 94) 22 rfl w.heap.size 21 i0 (.int .i32 0) 1 4 Try.underlying22 hi hz0 hz1 hz2 rfl (by decide) _ k _ rfl (HIV.out.x.alloc _) ⟨V.heap.size, 0, none⟩ 1 1 [.int .i32 (x + z)] rfl rfl (cell_one_new _ _ _) (by simp [Value.oneCell']) (by unfold maxLen; omega) (by omega) (by have := HIV.out.bel.size; simp; omega) ?_; intro v1 V1 hown1 hgrow1 _ hloc1; have HG1 := Lib.hid (grow_two HIV.out.x HIV.out.y HIV.out.apart hown1 hgrow1 hloc1); have HO1 := Lib.hid hown1; have HBE1 := Lib.hid ((HIV.out.bel.alloc HIV.out.bel.size _).grown hgrow1 (by have := HIV.out.bel.size; simp; omega) (fun q hq => (HIV.out.x.lt q hq).1)); clear hown1 hgrow1 hloc1)
        | (at_builtin; refine wpList_append_own_at _ rfl (.tmp 96) (.tmp 99) 22 rfl w.heap.size 21 i0 (.int .i32 0) 1 4 Try.underlying22 hi hz0 hz1 hz2 rfl (by decide) _ k _ rfl (HG1.out.1.alloc _) ⟨V1.heap.size, 0, none⟩ 1 1 [.int .i32 (y + z)] rfl rfl (cell_one_new _ _ _) (by simp [Value.oneCell']) (by unfold maxLen; omega) (by omega) (by have := HBE1.out.size; simp; omega) ?_; intro v2 V2 hown2 hgrow2 _ hloc2; have HG2 := Lib.hid (grow_two HG1.out.1 HO1.out HG1.out.2.symm hown2 hgrow2 hloc2); have HO2 := Lib.hid hown2; have HBE2 := Lib.hid ((HBE1.out.alloc HBE1.out.size _).grown hgrow2 (by have := HBE1.out.size; simp; omega) (fun q hq => (HG1.out.1.lt q hq).1)); clear hown2 hgrow2 hloc2))
      go_roundw
      case rel =>
        refine ⟨k + 1, by omega, by go_num, Lib.hid ⟨?_, ?_, HG2.out.2.symm, HBE2.out, fun q hq => ?_, fun q hq => ?_⟩⟩
        · rw [HT1.out, List.map_append]; exact HG2.out.1
        · rw [HT2.out, List.map_append]; exact HO2.out
        · rw [HT1.out] at hq
          rcases List.mem_append.1 hq with h | h
          · exact HIV.out.fit q h
          · obtain rfl : q = x + z := by simpa using h
            exact HP.out.1
        · rw [HT2.out] at hq
          rcases List.mem_append.1 hq with h | h
          · exact HIV.out.fit2 q h
          · obtain rfl : q = y + z := by simpa using h
            exact HP.out.2
      case measure => simp [intOf]; omega
    · obtain rfl : k = n := by omega
      have e1 : (addM a by_).take k = addM a by_ := List.take_of_length_le (Nat.le_of_eq HLX.out)
      have e2 : (addM b by_).take k = addM b by_ := List.take_of_length_le (Nat.le_of_eq HLY.out)
      have hx := HI.out.x
      have hy := HI.out.y
      have f1 := HI.out.fit
      have f2 := HI.out.fit2
      rw [e1] at hx f1
      rw [e2] at hy f2
      obtain ⟨X', cx', hv1, hvx⟩ := Vec.own (m := 0) (xs := addM a by_) (k := .i32) (by rw [HLX.out]; exact hx) (fun z hz => wf32 (f1 z hz))
      obtain ⟨Y', cy', hv2, hvy⟩ := Vec.own (m := 0) (xs := addM b by_) (k := .i32) (by rw [HLY.out]; exact hy) (fun z hz => wf32 (f2 z hz))
      injection hv1 with h1 hm1 h2
      injection hv2 with h3 hm2 h4
      clear hm1 hm2
      subst h1; subst h2; subst h3; subst h4
      have HF := Lib.hid (HFIN.out wr X Y cx cy hvx hvy f1 f2)
      clear e1 e2 hx hy f1 f2 hvx hvy
      go_wp2_with fail
      refine HF.out.mono ?_
      rintro e w6 ⟨rfl, hb6⟩
      have HB6 := Lib.hid (HI.out.bel.trans (hb6.mono HI.out.bel.size))
      clear hb6
      go_wp2
      go_ret
      exact ⟨by simp, HB6.out⟩

theorem walk {w : World} (A : Option Addr) (c : Nat) (a : List Int) (ha : Vec .i32 w A c a) (A' : Option Addr) (c' : Nat) (b : List Int) (hb : Vec .i32 w A' c' b) (A2 : Option Addr) (c2 : Nat) (by_ : List Int) (hy : Vec .i32 w A2 c2 by_) :
    Calls Try.prog 6 #[.slice A a.length c, .slice A' b.length c', .slice A2 by_.length c2] w fun e w' => e = .returned (.bool true) ∧ Below w.heap.size w w' := by
  by_cases hE : distE a b = 0
  · by_cases hO : refuseM a.length [by_] = 0
    · exact walk_ok A c a ha A' c' b hb A2 c2 by_ hy hE hO
    · exact walk_by A c a ha A' c' b hb A2 c2 by_ hy hE hO
  · exact walk_no A c a ha A' c' b hb A2 c2 by_ hy hE

set_option maxRecDepth 100000 in
theorem lifted (os : Os) (started : os.Started) (H : Type) (enc : TypeId × Value → H) :
    ReturnsInHanded {} Try.checked os 6 .any (Rows.vecMovesSpec.pre6 enc Try.prog Try.f6 Rows.vecMovesRow.domain false) (Rows.vecMovesSpec.post enc Try.prog Try.f6 false true false false) := by
  refine returnsInHanded_of_change (C := Try.checked) Try.own started (by kernel_rfl) Try.func6
    (ChangeSpec.witness6 (enc := enc) (C := Try.checked) false ⟨#[], #[.slice none 0 0, .slice none 0 0, .slice none 0 0], []⟩ 8 (by kernel_rfl) (by kernel_rfl) (by kernel_rfl) (by kernel_rfl)) ?_
  intro W base args ds gs before hval0 hW hcnd _
  have hval : ∀ (j : Nat) t v, Try.f6.params[j]? = some t → args[j]? = some v → Value.okWide Try.prog W .any base t v := hval0
  have hW' := hW
  obtain ⟨p, q, hA0, hV, rfl, hfz, hnd⟩ := hW
  have hA : DataW.TrodAll enc Try.prog W 0 (fun _ => true) true Try.f6.params.toList args.toList ds p := hA0
  rw [Try.params6] at hA hval
  have hA' := hA
  obtain ⟨v0, vs0, d0, ds0, p0, q0, hargs, rfl, rfl, h0, r0⟩ := trodAll_cons hA
  obtain ⟨v1, vs1, d1, ds1, p1, q1, rfl, rfl, rfl, h1, r1⟩ := trodAll_cons r0
  obtain ⟨v2, vs2, d2, ds2, p2, q2, rfl, rfl, rfl, h2, r2⟩ := trodAll_cons r1
  obtain ⟨rfl, rfl, rfl⟩ := trodAll_nil r2
  obtain rfl : args = #[v0, v1, v2] := by cases args; simp_all
  obtain ⟨rfl, rfl⟩ := trodVars_none hV
  obtain ⟨A0, len0, c0, rfl⟩ := okWide_slice Try.underlying22 (hval 0 22 v0 rfl rfl)
  obtain ⟨z0, rfl, sl0⟩ := open_vec h0
  obtain ⟨A1, len1, c1, rfl⟩ := okWide_slice Try.underlying22 (hval 1 22 v1 rfl rfl)
  obtain ⟨z1, rfl, sl1⟩ := open_vec h1
  obtain ⟨A2, len2, c2, rfl⟩ := okWide_slice Try.underlying22 (hval 2 22 v2 rfl rfl)
  obtain ⟨z2, rfl, sl2⟩ := open_vec h2
  clear hA0 hval0
  refine (walk A0 c0 z0 sl0 A1 c1 z1 sl1 A2 c2 z2 sl2).mono fun e W' ⟨he, bel⟩ => ?_
  subst he
  exact ⟨_, rfl, _, _, _, [], _, [], hW', trodAll_mk1 (shut_bool Try.underlying4 _), trodAll_below bel _ _ _ _ (by kernel_rfl) hA', rfl, bel.frame _, fun h => by cases h⟩

theorem proved : Rows.VecMovesSaid :=
  OpenClaim.holds_of_wide 6 Try.f6 rfl rfl rfl rfl rfl rfl rfl ⟨rfl, rfl, rfl, rfl, rfl⟩ rfl rfl rfl rfl rfl (by kernel_rfl) Try.func6 (by kernel_rfl)
    (of_decide_eq_true (by kernel_rfl)) (by unfold Func.isWrapper; first | (rw [if_pos (by decide +kernel)]; kernel_rfl) | (rw [if_neg (by decide +kernel)]; exact ⟨rfl, rfl⟩))
    (fun os started H enc _ => lifted os started H enc)
#print axioms proved
end Go.Proofs.Ytdfpiipnpaknaaa.vecMoves
