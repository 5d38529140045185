/-
  Parts.
-/
import Derived.Test.YtgakfffkadaeeaaMnsDo
namespace Go.Proofs.Ytgakfffkadaeeaa
open Go.RowKit Go.Shelf
set_option linter.unusedVariables false
set_option linter.unusedSimpArgs false
set_option maxRecDepth 100000

theorem two_rows (w : World) (a b : Value) : Below w.heap.size w (w.alloc (.cells #[a, b] 22)) ∧ (w.alloc (.cells #[a, b] 22)).cell? ⟨w.heap.size, 0, none⟩ = some a ∧ (w.alloc (.cells #[a, b] 22)).cell? ⟨w.heap.size, 1, none⟩ = some b :=
  ⟨(Below.refl _ w).alloc (Nat.le_refl _) _, cell_laid _ _ _ 0, cell_laid _ _ _ 1⟩

set_option maxHeartbeats 1000000 in
theorem refuseParts_any (A A' : Option Addr) (c c' : Nat) (cs l : List (List Int)) (w : World) (h : Vecs .i32 w A c cs) (hl : Vecs .i32 w A' c' l) :
    Calls Try.prog 35 #[.slice A cs.length c, .slice A' l.length c'] w fun e w' => e = .returned (.int .i64 (partsE cs l)) ∧ Below w.heap.size w w' := by
  have HT := Lib.hid (fun V => refuseCount_any A cs.length c V)
  rw [show (if cs.length = 0 ∨ 6 < cs.length then (2 : Int) else 0) = countE cs from rfl] at HT
  have HU := Lib.hid (fun V => refuseTrain_any A' l.length c' V)
  rw [show (if l.length = 0 then (4 : Int) else if 96 < l.length then 3 else 0) = trainE l from rfl] at HU
  by_cases h0 : countE cs = 0
  · by_cases h1 : trainE l = 0
    · obtain ⟨n0, n6⟩ := count_ok h0
      obtain ⟨m0, m96⟩ := train_ok h1
      have HE := Lib.hid (show partsE cs l = allM (cs ++ l) by unfold partsE; rw [if_neg (by simpa using h0), if_neg (by simpa using h1)])
      obtain ⟨b1, c1, c2⟩ := two_rows w (.slice A cs.length c) (.slice A' l.length c')
      obtain ⟨W1, hW1⟩ : ∃ W1, W1 = w.alloc (.cells #[.slice A cs.length c, .slice A' l.length c'] 22) := ⟨_, rfl⟩
      rw [← hW1] at b1 c1 c2
      have HC := Lib.hid (concat_any w.heap.size A A' c c' cs l W1 (h.below b1) (hl.below b1) n0 (by omega) (by omega) c1 c2)
      have HRV := Lib.hid (fun (A1 : Option Addr) (k1 : Nat) (w1 : World) (hI : BrI W1 (cs ++ l) (cs.length + l.length) A1 k1 w1) => show Calls Try.prog 42 #[.slice A1 (cs.length + l.length) k1] w1 (fun e w' => e = .returned (.int .i64 (partsE cs l)) ∧ Below w.heap.size w w') from by
        obtain ⟨q1, q2, q3⟩ := hI.vecs
        have := refuseVectors_any A1 k1 (cs ++ l) w1 q1 (by rw [List.length_append]; omega)
        rw [List.length_append] at this
        rw [HE.out]
        exact this.mono (fun e w' hh => ⟨hh.1, below_tr b1 (below_tr q2 hh.2)⟩))
      have HW1 := Lib.hid hW1
      rw [h0] at HT
      rw [h1] at HU
      generalize partsE cs l = E at *
      generalize cs.length = n at *
      generalize l.length = m at *
      clear h hl h0 h1 n0 n6 m0 m96 b1 c1 c2 hW1
      go_enter Try.func35, Try.ntmps35
      go_wp2_with fail
      refine (HT.out w).mono ?_
      rintro e w1 ⟨rfl, rfl⟩
      go_wp2_with fail
      refine (HU.out w).mono ?_
      rintro e w1 ⟨rfl, rfl⟩
      go_wp2_with (rw [← HW1.out])
      refine HC.out.mono ?_
      rintro e w2 ⟨A1, k1, rfl, hI⟩
      have HR := Lib.hid (HRV.out A1 k1 w2 hI)
      clear hI
      go_wp2_with fail
      refine HR.out.mono ?_
      rintro e w3 ⟨rfl, hb3⟩
      have HB3 := Lib.hid hb3
      clear hb3
      go_wp2
      go_ret
      exact ⟨rfl, HB3.out⟩
    · have HE := Lib.hid (show partsE cs l = trainE l by unfold partsE; rw [if_neg (by simpa using h0), if_pos h1])
      have t1 : (trainE l == 0) = false := by simpa using h1
      have t2 : (trainE l != 0) = true := by simpa using h1
      rw [h0] at HT
      generalize partsE cs l = E at *
      generalize trainE l = E2 at *
      generalize cs.length = n at *
      generalize l.length = m at *
      clear h hl h0 h1
      go_enter Try.func35, Try.ntmps35
      go_wp2_with fail
      refine (HT.out w).mono ?_
      rintro e w1 ⟨rfl, rfl⟩
      go_wp2_with fail
      refine (HU.out w).mono ?_
      rintro e w1 ⟨rfl, rfl⟩
      go_wp2
      go_ret
      rw [HE.out]
      exact ⟨rfl, Below.refl _ _⟩
  · have HE := Lib.hid (show partsE cs l = countE cs by unfold partsE; rw [if_pos h0])
    have t1 : (countE cs == 0) = false := by simpa using h0
    have t2 : (countE cs != 0) = true := by simpa using h0
    generalize partsE cs l = E at *
    generalize countE cs = E2 at *
    generalize cs.length = n at *
    generalize l.length = m at *
    clear h hl h0 HU
    go_enter Try.func35, Try.ntmps35
    go_wp2_with fail
    refine (HT.out w).mono ?_
    rintro e w1 ⟨rfl, rfl⟩
    go_wp2
    go_ret
    rw [HE.out]
    exact ⟨rfl, Below.refl _ _⟩

/-! ### Parts -/
def intsOf (p : List Nat) : List Int := p.map fun (k : Nat) => (k : Int)
def partsI (cs l : List (List Int)) : List Int := if partsE cs l = 0 then intsOf (partsM cs l) else []
/-- Numbers of the call's own and an error. -/
def GivesIE (w : World) (L : List Int) (E : Int) (e : Ending) (w' : World) : Prop := ∃ A c, e = .returned (.tuple #[.slice A L.length c, .int .i64 E]) ∧ OwnN w.heap.size w' A c L ∧ Below w.heap.size w w'

theorem parts_alike {cs l : List (List Int)} (h : partsE cs l = 0) : ∃ n, Alike n cs ∧ Alike n l := by
  have := allM_ok (parts_ok h).2.2
  exact ⟨_, Alike.append.1 this⟩
theorem parts_take (cs l : List (List Int)) {k : Nat} {x : List Int} (hx : l[k]? = some x) : intsOf (partsM cs (l.take (k + 1))) = intsOf (partsM cs (l.take k)) ++ [(nearM cs x : Int)] := by
  unfold intsOf partsM
  rw [List.take_add_one, hx, List.map_append, List.map_append]; rfl
theorem parts_len (cs l : List (List Int)) : (intsOf (partsM cs l)).length = l.length := by simp [intsOf, partsM]

set_option maxHeartbeats 1000000 in
theorem partedM_any (A A' : Option Addr) (c c' : Nat) (cs l : List (List Int)) (w : World) (h : Vecs .i32 w A c cs) (hl : Vecs .i32 w A' c' l) (h0 : partsE cs l = 0) :
    Calls Try.prog 36 #[.slice A cs.length c, .slice A' l.length c'] w (GivesIE w (intsOf (partsM cs l)) 0) := by
  obtain ⟨⟨n0, n6⟩, ⟨m0, m96⟩, _⟩ := parts_ok h0
  obtain ⟨dim, a1, a2⟩ := parts_alike h0
  obtain ⟨n, hn⟩ : ∃ n, n = cs.length := ⟨_, rfl⟩
  obtain ⟨m, hm⟩ : ∃ m, m = l.length := ⟨_, rfl⟩
  have HN := Lib.hid hn
  have HM := Lib.hid hm
  have HQ := Lib.hid hl
  have HNr := Lib.hid (fun (k : Nat) (x : List Int) (hx : l[k]? = some x) (B : Option Addr) (cb : Nat) (V : World) (hV : Below w.heap.size w V) (hv : Vec .i32 V B cb x) => show Calls Try.prog 44 #[.slice A n c, .slice B x.length cb] V (fun e w' => e = .returned (.tuple #[.int .i64 ((nearM cs x : Nat) : Int), .int .i64 0]) ∧ Below V.heap.size V w') from by
    obtain ⟨e1, e2⟩ := near_of a1 (a2 x (List.mem_of_getElem? hx)) n0
    have := nearest_any A B c cb cs x V (h.below hV) hv
    rw [e1, e2] at this
    rw [hn]
    exact this)
  have HLt := Lib.hid (fun (x : List Int) => show nearM cs x < 6 from by have := near_lt x n0; omega)
  have HPt := Lib.hid (fun k x (hx : l[k]? = some x) => parts_take cs l hx)
  have HPl := Lib.hid (fun k => parts_len cs (l.take k))
  have H0 := Lib.hid (show OwnN w.heap.size w none 0 (intsOf (partsM cs (l.take 0))) from OwnN.nil _ _)
  have HFin := Lib.hid (show intsOf (partsM cs (l.take m)) = intsOf (partsM cs l) by rw [hm, List.take_length])
  rw [← hn, ← hm]
  rw [← hm] at m96
  clear h hl h0 n0 n6 m0 a1 a2 hn hm
  go_enter Try.func36, Try.ntmps36
  go_wp2
  go_loopw [6, 13] (fun s i wr => ∃ k A1 c1, k ≤ m ∧ i = .int .i64 (k : Nat) ∧ s = .slice A1 k c1 ∧ Hid (OwnN w.heap.size wr A1 c1 (intsOf (partsM cs (l.take k))) ∧ Below w.heap.size w wr)) (fun _ i _ => m - (intOf i).toNat)
  case atStart => exact ⟨0, none, 0, Nat.zero_le _, rfl, rfl, Lib.hid ⟨H0.out, Below.refl _ _⟩⟩
  case round =>
    obtain ⟨k, A1, c1, hk, rfl, rfl, HI⟩ := hrel
    by_cases hkm : k < m
    · obtain ⟨b, o, x, B, cb, rfl, hx, hb, c0, hv⟩ := (HQ.out.below HI.out.2).at_ (i := k) (by rw [← HM.out]; exact hkm)
      have HC := Lib.hid (HNr.out k x hx B cb wr HI.out.2 hv)
      have HT := Lib.hid (HPt.out k x hx)
      have hlt := HLt.out x
      have HSZ := Lib.hid HI.out.2.size
      have hlk : k = (intsOf (partsM cs (l.take k))).length := by rw [HPl.out, List.length_take, ← HM.out]; omega
      have HLK := Lib.hid hlk
      have k0 : (0 : Int) ≤ k := by omega
      have km : (k : Int) < m := by omega
      generalize nearM cs x = y at *
      have hwf : (Lit.int .i64 (y : Int)).wf = true := WalkArith.wf_i64 (by omega)
      generalize x.length = xl at *
      clear hx hb hv hlk
      go_wp2_with fail
      refine HC.out.mono ?_
      rintro e w1 ⟨rfl, hb1⟩
      obtain ⟨r1, r2, r3, r4⟩ := HI.out.1.step HLK.out hb1 HSZ.out hwf
      have HR := Lib.hid r1
      have HO := Lib.hid r2
      have HX := Lib.hid r4
      rw [← HT.out] at HX
      clear hb1 r1 r2 r4
      go_wp2_with (at_builtin; refine gapp_at rfl (.tmp 26) (.tmp 28) appN rfl w.heap.size A1 c1 k ((intsOf (partsM cs (l.take k))).map (Value.int .i64)) rfl HO.out (some ⟨w1.heap.size, 0, none⟩) 1 1 [.int .i64 (y : Int)] rfl HR.out (by omega) r3 ?_; intro A5 c5 w4 ho hg _; have HN4 := Lib.hid (HX.out A5 c5 w4 ho hg); clear ho hg)
      go_roundw
      case rel => exact ⟨k + 1, A5, c5, by omega, by go_num, rfl, Lib.hid ⟨HN4.out.1, HI.out.2.trans HN4.out.2⟩⟩
      case measure => simp [intOf]; omega
    · obtain rfl : k = m := by omega
      go_wp2
      go_ret2
      refine ⟨A1, c1, ?_, by rw [← HFin.out]; exact HI.out.1, HI.out.2⟩
      have : k = (intsOf (partsM cs l)).length := by rw [parts_len, HM.out]
      rw [← this]
      rfl

set_option maxHeartbeats 1000000 in
theorem parts_any (A A' : Option Addr) (c c' : Nat) (cs l : List (List Int)) (w : World) (h : Vecs .i32 w A c cs) (hl : Vecs .i32 w A' c' l) :
    Calls Try.prog 22 #[.slice A cs.length c, .slice A' l.length c'] w (GivesIE w (partsI cs l) (partsE cs l)) := by
  have HR := Lib.hid (refuseParts_any A A' c c' cs l w h hl)
  by_cases h0 : partsE cs l = 0
  · have HF := Lib.hid (show partsI cs l = intsOf (partsM cs l) by unfold partsI; rw [if_pos h0])
    have HP := Lib.hid (fun (V : World) (hV : Below w.heap.size w V) => partedM_any A A' c c' cs l V (h.below hV) (hl.below hV) h0)
    rw [h0] at HR ⊢
    rw [HF.out]
    generalize intsOf (partsM cs l) = L at *
    generalize cs.length = n at *
    generalize l.length = m at *
    clear h hl h0 HF
    go_enter Try.func22, Try.ntmps22
    go_wp2_with fail
    refine HR.out.mono ?_
    rintro e w1 ⟨rfl, hb1⟩
    have HB1 := Lib.hid hb1
    clear hb1
    go_wp2_with fail
    refine (HP.out w1 HB1.out).mono ?_
    rintro e w2 ⟨A2, c2, rfl, ho, hb2⟩
    have HO := Lib.hid (show OwnN w.heap.size w2 A2 c2 L ∧ Below w.heap.size w w2 from ⟨⟨ho.1.mono HB1.out.size, ho.2⟩, below_tr HB1.out hb2⟩)
    clear ho hb2
    go_wp2
    go_ret2
    exact ⟨A2, c2, rfl, HO.out.1, HO.out.2⟩
  · have HF := Lib.hid (show partsI cs l = [] by unfold partsI; rw [if_neg h0])
    have t1 : (partsE cs l == 0) = false := by simpa using h0
    have t2 : (partsE cs l != 0) = true := by simpa using h0
    rw [HF.out]
    generalize partsE cs l = E at *
    generalize cs.length = n at *
    generalize l.length = m at *
    clear h hl h0 HF
    go_enter Try.func22, Try.ntmps22
    go_wp2_with fail
    refine HR.out.mono ?_
    rintro e w1 ⟨rfl, hb1⟩
    have HB1 := Lib.hid hb1
    clear hb1
    go_wp2
    go_ret2
    exact ⟨none, 0, rfl, OwnN.nil _ _, HB1.out⟩

end Go.Proofs.Ytgakfffkadaeeaa
