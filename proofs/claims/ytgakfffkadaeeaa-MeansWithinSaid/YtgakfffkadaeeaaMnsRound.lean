/-
  Round.
-/
import Derived.Test.YtgakfffkadaeeaaMnsParts
namespace Go.Proofs.Ytgakfffkadaeeaa
open Go.RowKit Go.Shelf
set_option linter.unusedVariables false
set_option linter.unusedSimpArgs false
set_option maxRecDepth 100000

/-! ### Round -/
def roundV (cs l : List (List Int)) : List (List Int) := if partsE cs l = 0 then roundM cs l else []
/-- The first k are moved. -/
def halfM (cs l : List (List Int)) (k : Nat) : List (List Int) := (roundM cs l).take k ++ cs.drop k
theorem half_zero (cs l : List (List Int)) : halfM cs l 0 = cs := by simp [halfM]
theorem half_end (cs l : List (List Int)) {k : Nat} (hk : k = cs.length) : halfM cs l k = roundM cs l := by
  unfold halfM
  rw [hk, List.take_of_length_le (by rw [round_length]; omega), List.drop_length, List.append_nil]
theorem half_step (cs l : List (List Int)) {k : Nat} (hk : k < cs.length) : (halfM cs l k).set k (stepM cs l k) = halfM cs l (k + 1) := by
  unfold halfM
  have h1 : ((roundM cs l).take k).length = k := by rw [List.length_take, round_length]; omega
  rw [round_take cs l hk, List.drop_eq_getElem_cons hk, List.set_append_right _ _ (by omega), h1, Nat.sub_self, List.set_cons_zero, List.append_assoc]
  rfl
theorem half_keep (cs l : List (List Int)) {k : Nat} (hk : k < cs.length) (h : (ownM cs l k).length = 0) : halfM cs l (k + 1) = halfM cs l k := by
  unfold halfM
  rw [round_take cs l hk, List.drop_eq_getElem_cons hk]
  have : stepM cs l k = cs[k] := by unfold stepM; rw [if_pos h]; simp [List.getD, List.getElem?_eq_getElem hk]
  rw [this, List.append_assoc]
  rfl

/-- How far a round is. -/
def MvI (w : World) (cs l : List (List Int)) (k g c1 : Nat) (wr : World) : Prop := ∃ q, List.length q = cs.length ∧ vals q = halfM cs l k ∧ OwnVs w.heap.size wr (some ⟨g, 0, none⟩) c1 q ∧ Below w.heap.size w wr
theorem MvI.below {w wr W : World} {cs l : List (List Int)} {k g c1 : Nat} (h : MvI w cs l k g c1 wr) (hb : Below wr.heap.size wr W) : MvI w cs l k g c1 W := by
  obtain ⟨q, h1, h2, h3, h4⟩ := h
  exact ⟨q, h1, h2, h3.below hb, below_tr h4 hb⟩
theorem MvI.put {w W : World} {cs l : List (List Int)} {k g c1 : Nat} {B : Option Addr} {cb : Nat} (h : MvI w cs l k g c1 W) (hk : k < cs.length) (hv : OwnV w.heap.size W B cb (stepM cs l k)) :
    (∃ v, W.cell? ⟨g, k, none⟩ = some v) ∧ W.frozen? ⟨g, k, none⟩ = false ∧ MvI w cs l (k + 1) g c1 (W.setCell ⟨g, k, none⟩ (.slice B (stepM cs l k).length cb)) := by
  obtain ⟨q, h1, h2, h3, h4⟩ := h
  obtain ⟨g', hg, hbg, hgl, hc, hf⟩ := h3.row.at_ (List.getElem?_eq_getElem (show k < q.length by omega))
  injection hg with hg
  injection hg with hg
  subst hg
  refine ⟨⟨_, hc⟩, hf, q.set k ⟨stepM cs l k, B, cb⟩, by rw [List.length_set, h1], by rw [vals_set, h2, half_step cs l hk], h3.put (p := ⟨stepM cs l k, B, cb⟩) hv k (by omega), ?_⟩
  exact h4.setCell hbg _

set_option maxHeartbeats 2000000 in
theorem moved_any (A A' A3 : Option Addr) (c c' c3 : Nat) (cs l : List (List Int)) (w : World) (h : Vecs .i32 w A c cs) (hl : Vecs .i32 w A' c' l) (hp : Vec .i64 w A3 c3 (intsOf (partsM cs l))) (h0 : partsE cs l = 0) :
    Calls Try.prog 37 #[.slice A cs.length c, .slice A' l.length c', .slice A3 l.length c3] w (GivesVE w (roundM cs l) 0) := by
  obtain ⟨⟨n0, n6⟩, ⟨m0, m96⟩, hall⟩ := parts_ok h0
  obtain ⟨dim, a1, a2⟩ := parts_alike h0
  have HCp := Lib.hid (copied_any A c cs w h (by omega) (fun x hx => by have := right_len (a1 x hx).1; omega))
  have HG := Lib.hid (fun (j : Nat) (V : World) (hV : Below w.heap.size w V) => gather_any A' A3 c' c3 cs l j V (hl.below hV) (hp.below hV) (by omega))
  have HMn := Lib.hid (fun (j : Nat) (V : World) (A5 : Option Addr) (c5 : Nat) (hv : Vecs .i32 V A5 c5 (ownM cs l j)) (hj : (ownM cs l j).length ≠ 0) => show Calls Try.prog 56 #[.slice A5 (ownM cs l j).length c5] V (fun e w' => ∃ A6 c6, e = .returned (.tuple #[.slice A6 (stepM cs l j).length c6, .int .i64 0]) ∧ OwnV V.heap.size w' A6 c6 (stepM cs l j) ∧ Below V.heap.size V w') from by
    have hm := mean_ok_of (a2.sub (own_mem cs l j)) hj
    have hs : stepM cs l j = meanM (ownM cs l j) := by unfold stepM; rw [if_neg hj]
    refine (mean_any A5 c5 (ownM cs l j) V hv (by have : (ownM cs l j).length ≤ l.length := List.length_filter_le _ _; omega)).mono ?_
    rintro e w' ⟨_, h2, h3⟩
    obtain ⟨A6, c6, rfl, hn⟩ := h2 hm
    rw [hs]
    exact ⟨A6, c6, rfl, hn, h3⟩)
  have HL := Lib.hid (show ∀ j, (ownM cs l j).length ≤ 96 from fun j => by have : (ownM cs l j).length ≤ l.length := List.length_filter_le _ _; omega)
  obtain ⟨n, hn⟩ : ∃ n, n = cs.length := ⟨_, rfl⟩
  obtain ⟨m, hm⟩ : ∃ m, m = l.length := ⟨_, rfl⟩
  have HN := Lib.hid hn
  rw [← hn] at HCp n0 n6
  rw [← hn, ← hm]
  rw [← hm] at HG
  clear h hl hp h0 m0 m96 hall a1 a2 hn hm
  go_enter Try.func37, Try.ntmps37
  go_wp2_with fail
  refine HCp.out.mono ?_
  rintro e w1 ⟨A1, c1, q, rfl, hq, ho, hb1⟩
  have hql : q.length = n := by rw [← vals_length, hq, HN.out]
  obtain ⟨g, hg, -⟩ := ho.row.at_ (List.getElem?_eq_getElem (show 0 < q.length by omega))
  subst hg
  have H0 := Lib.hid (show MvI w cs l 0 g c1 w1 from ⟨q, by rw [hql, HN.out], by rw [half_zero, hq], ho, hb1⟩)
  rw [hql]
  clear hq ho hb1 hql
  go_wp2
  go_loopw [17] (fun i wr => ∃ k : Nat, k ≤ n ∧ i = .int .i64 k ∧ Hid (MvI w cs l k g c1 wr)) (fun i _ => n - (intOf i).toNat)
  case atStart => exact ⟨0, Nat.zero_le _, rfl, H0⟩
  case round =>
    obtain ⟨k, hk, rfl, HI⟩ := hrel
    by_cases hkn : k < n
    · have hbr : Below w.heap.size w wr := HI.out.choose_spec.2.2.2
      obtain ⟨g1, g2, g3, hG⟩ := HG.out k wr hbr
      have HGG := Lib.hid hG
      have HBr := Lib.hid hbr
      have hol := HL.out k
      have k0 : (0 : Int) ≤ k := by omega
      have kn : (k : Int) < n := by omega
      clear hG hbr
      go_wp2_with fail
      refine HGG.out.mono ?_
      rintro e w2 ⟨rfl, hb2, hC⟩
      have HC := Lib.hid hC
      clear hC hb2
      go_wp2_with fail
      refine HC.out.mono ?_
      rintro e w3 ⟨A2, c2, rfl, hv, hb3⟩
      have HV := Lib.hid hv
      have HI3 := Lib.hid (HI.out.below hb3)
      have HB3 := Lib.hid (below_tr HBr.out hb3)
      clear hv hb3
      by_cases hj : (ownM cs l k).length = 0
      · have HK := Lib.hid (show MvI w cs l (k + 1) g c1 w3 from by
          obtain ⟨q, h1, h2, h3, h4⟩ := HI3.out
          exact ⟨q, h1, by rw [h2, half_keep cs l (by rw [← HN.out]; exact hkn) hj], h3, h4⟩)
        rw [hj]
        clear hj hol
        go_wp2
        go_roundw
        case rel => exact ⟨k + 1, by omega, by go_num, HK⟩
        case measure => simp [intOf]; omega
      · have HM := Lib.hid (HMn.out k w3 A2 c2 HV.out hj)
        have t1 : (((ownM cs l k).length : Int) == 0) = false := by simp; intro e; rw [e] at hj; simp at hj
        have t2 : ((ownM cs l k).length == 0) = false := by simpa using hj
        generalize (ownM cs l k).length = ol at *
        clear hj HV
        go_wp2_with fail
        refine HM.out.mono ?_
        rintro e w4 ⟨A6, c6, rfl, hv6, hb4⟩
        obtain ⟨⟨v0, p1⟩, p2, p3⟩ := (HI3.out.below hb4).put (by rw [← HN.out]; exact hkn) (hv6.mono HB3.out.size)
        have HP := Lib.hid p3
        generalize (stepM cs l k).length = sl at *
        clear hv6 hb4 p3
        go_wp2
        go_roundw
        case rel => exact ⟨k + 1, by omega, by go_num, HP⟩
        case measure => simp [intOf]; omega
    · obtain rfl : k = n := by omega
      go_wp2
      go_ret2
      obtain ⟨q, h1, h2, h3, h4⟩ := HI.out
      rw [half_end cs l HN.out] at h2
      refine ⟨_, c1, q, ?_, h2, h3, h4⟩
      rw [h1, ← HN.out]
      rfl

set_option maxHeartbeats 1000000 in
theorem round_any (A A' : Option Addr) (c c' : Nat) (cs l : List (List Int)) (w : World) (h : Vecs .i32 w A c cs) (hl : Vecs .i32 w A' c' l) :
    Calls Try.prog 23 #[.slice A cs.length c, .slice A' l.length c'] w (GivesVE w (roundV cs l) (partsE cs l)) := by
  have HR := Lib.hid (parts_any A A' c c' cs l w h hl)
  by_cases h0 : partsE cs l = 0
  · have HF := Lib.hid (show roundV cs l = roundM cs l by unfold roundV; rw [if_pos h0])
    have hpi : partsI cs l = intsOf (partsM cs l) := by unfold partsI; rw [if_pos h0]
    rw [hpi] at HR
    have HP := Lib.hid (fun (A3 : Option Addr) (c3 : Nat) (V : World) (hV : Below w.heap.size w V) (hv : OwnN w.heap.size V A3 c3 (intsOf (partsM cs l))) => moved_any A A' A3 c c' c3 cs l V (h.below hV) (hl.below hV) hv.vec h0)
    have hpl := parts_len cs l
    rw [h0] at HR ⊢
    rw [HF.out]
    generalize intsOf (partsM cs l) = L at *
    have HPL := Lib.hid hpl
    generalize cs.length = n at *
    obtain ⟨m, hm⟩ : ∃ m, m = l.length := ⟨_, rfl⟩
    rw [← hm] at HR HP HPL ⊢
    clear h hl h0 HF hpi hpl hm
    go_enter Try.func23, Try.ntmps23
    go_wp2_with fail
    refine HR.out.mono ?_
    rintro e w1 ⟨A3, c3, rfl, hv, hb1⟩
    have HB1 := Lib.hid hb1
    have HM := Lib.hid (HP.out A3 c3 w1 hb1 hv)
    rw [HPL.out]
    clear hb1 hv
    go_wp2_with fail
    refine HM.out.mono ?_
    rintro e w2 ⟨A2, c2, q, rfl, hq, ho, hb2⟩
    have HO := Lib.hid (show vals q = roundM cs l ∧ OwnVs w.heap.size w2 A2 c2 q ∧ Below w.heap.size w w2 from ⟨hq, ho.mono HB1.out.size, below_tr HB1.out hb2⟩)
    clear hq ho hb2
    go_wp2
    go_ret2
    exact ⟨A2, c2, q, rfl, HO.out.1, HO.out.2.1, HO.out.2.2⟩
  · have HF := Lib.hid (show roundV cs l = [] by unfold roundV; rw [if_neg h0])
    have t1 : (partsE cs l == 0) = false := by simpa using h0
    have t2 : (partsE cs l != 0) = true := by simpa using h0
    rw [HF.out]
    generalize partsI cs l = L at *
    generalize partsE cs l = E at *
    generalize cs.length = n at *
    generalize l.length = m at *
    clear h hl h0 HF
    go_enter Try.func23, Try.ntmps23
    go_wp2_with fail
    refine HR.out.mono ?_
    rintro e w1 ⟨A3, c3, rfl, hv, hb1⟩
    have HB1 := Lib.hid hb1
    clear hb1 hv
    generalize L.length = z at *
    go_wp2
    go_ret2
    exact ⟨none, 0, [], rfl, rfl, OwnVs.nil _ _, HB1.out⟩

end Go.Proofs.Ytgakfffkadaeeaa
