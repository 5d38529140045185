/-
  Proved: the law ArenaTells, what is told of whatever arenas is as the document says, returns true for every arenas and Id, and leaves all memory as it was. No condition.
-/
import Derived.Test.YtdbcecmlakgknaaMArf
import Derived.Test.YtdbcecmlakgknaaAreRBy
import Derived.Test.YtdbcecmlakgknaaAreSameR
namespace Go.Proofs.Ytdbcecmlakgknaa.arenaTells
open Go.BigFrame Go.ChangeShapes Go.WideShapes Go.ChangeAt Go.RowKit
set_option linter.unusedVariables false
set_option linter.unusedSimpArgs false
set_option maxRecDepth 100000

/-- How many of the first k are the Id's. -/
def cntI (l : List Ce) (id : Int) (s : List Nat) (k : Nat) : Nat := ((s.take k).filter fun j => decide ((ceAt l j).i = id)).length
theorem cnt_yes {l : List Ce} {id : Int} {s : List Nat} {k y : Nat} (h : s[k]? = some y) (hy : (ceAt l y).i = id) : cntI l id s (k + 1) = cntI l id s k + 1 ∧ (s.filter fun j => decide ((ceAt l j).i = id))[cntI l id s k]? = some y := by
  have hk : k < s.length := (List.getElem?_eq_some_iff.1 h).1
  constructor
  · unfold cntI
    rw [List.take_add_one, h, List.filter_append, List.length_append]
    simp [hy]
  · unfold cntI
    have es : (s.filter fun j => decide ((ceAt l j).i = id)) = ((s.take k).filter fun j => decide ((ceAt l j).i = id)) ++ ((s.drop k).filter fun j => decide ((ceAt l j).i = id)) := by rw [← List.filter_append, List.take_append_drop]
    have hd : s.drop k = y :: s.drop (k + 1) := by
      rw [List.drop_eq_getElem_cons hk]
      rw [List.getElem?_eq_getElem hk] at h
      injection h with h
      rw [h]
    rw [es, List.getElem?_append_right (Nat.le_refl _), Nat.sub_self, hd]
    simp [hy]
theorem cnt_no {l : List Ce} {id : Int} {s : List Nat} {k y : Nat} (h : s[k]? = some y) (hy : ¬ (ceAt l y).i = id) : cntI l id s (k + 1) = cntI l id s k := by
  unfold cntI
  rw [List.take_add_one, h, List.filter_append, List.length_append]
  simp [hy]

theorem chainB {w6 X w' : World} (h : Below w6.heap.size w6 X) (hb : Below X.heap.size X w') : Below w6.heap.size w6 w' := h.trans (hb.mono h.size)

set_option maxHeartbeats 16000000 in
theorem walk {w : World} (A : Option Addr) (c : Nat) (q : List Pa) (H : Are w A c q) (B : Option Addr) (cb : Nat) (r : List Pa) (H2 : Are w B cb r) (id : Int) (wid : U64s id) :
    Calls Try.prog 3 #[.agg #[.slice A q.length c], .agg #[.slice B r.length cb], .int .u64 id] w fun e w' => e = .returned (.bool true) ∧ Below w.heap.size w w' := by
  obtain ⟨nq, hnq⟩ : ∃ n, n = q.length := ⟨_, rfl⟩
  obtain ⟨nr, hnr⟩ : ∃ n, n = r.length := ⟨_, rfl⟩
  obtain ⟨W0, hW0⟩ : ∃ W0, W0 = (w.alloc (.cells #[.slice A nq c] 24)).alloc (.cells #[.slice B nr cb] 24) := ⟨_, rfl⟩
  have hb0 : Below w.heap.size w W0 := by rw [hW0]; exact ((Below.refl _ w).alloc (Nat.le_refl _) _).alloc (by simp) _
  have hx0 : W0.heap[w.heap.size]? = some (.cells #[.slice A nq c] 24 (0, 0)) := by
    rw [hW0]
    exact (Below.heap_alloc _ _ _ (by simp)).trans (heap_alloc_new w _)
  have hx1 : W0.heap[w.heap.size + 1]? = some (.cells #[.slice B nr cb] 24 (0, 0)) := by
    rw [hW0]
    have h := heap_alloc_new (w.alloc (.cells #[.slice A nq c] 24)) (.cells #[.slice B nr cb] 24)
    rw [World.size_alloc] at h; exact h
  have HX := Lib.hid (fun (X : World) (hX : Below W0.heap.size W0 X) => show X.cell? ⟨w.heap.size, 0, none⟩ = some (.slice A nq c) ∧ X.cell? ⟨w.heap.size + 1, 0, none⟩ = some (.slice B nr cb) from by
    have X0 := (hX.block _ (lt_of_block hx0)).trans hx0
    have X1 := (hX.block _ (lt_of_block hx1)).trans hx1
    exact ⟨(cell_of_row _ _ 0 _ _ _ X0).trans rfl, (cell_of_row _ _ 0 _ _ _ X1).trans rfl⟩)
  have HW := Lib.hid hW0
  have HB0 := Lib.hid hb0
  have ha := H.below hb0
  have hbr := H2.below hb0
  obtain ⟨l, hl⟩ : ∃ l, l = ces q := ⟨_, rfl⟩
  have HLl := Lib.hid hl
  have HWk := Lib.hid (wakes_any W0)
  have HOa := Lib.hid (fun (X : World) (hX : Below W0.heap.size W0 X) => over_any A c q X (ha.below hX))
  have HOb := Lib.hid (fun (X : World) (hX : Below W0.heap.size W0 X) => over_any B cb r X (hbr.below hX))
  have HCk := Lib.hid (fun (X : World) (hX : Below W0.heap.size W0 X) => checkA_any A c q X (ha.below hX))
  have HOf := Lib.hid (fun (X : World) (hX : Below W0.heap.size W0 X) => of_any9 A c q id X (ha.below hX))
  have HBy := Lib.hid (fun (X : World) (hX : Below W0.heap.size W0 X) => byRows_any A c q X (ha.below hX))
  have HSm := Lib.hid (fun (X : World) (hX : Below W0.heap.size W0 X) => sameA_any A B c cb q r X (ha.below hX) (hbr.below hX))
  have HSr := Lib.hid (fun (X : World) (hX : Below W0.heap.size W0 X) => rSameA_any A B c cb q r X (ha.below hX) (hbr.below hX))
  have HSs := Lib.hid (fun (X : World) (hX : Below W0.heap.size W0 X) => show Calls Try.prog 15 #[.agg #[.slice A q.length c], .agg #[.slice A q.length c]] X (fun e w' => e = .returned (.bool true) ∧ Below X.heap.size X w') from by
    have := sameA_any A A c c q q X (ha.below hX) (ha.below hX)
    simpa using this)
  have HRi := Lib.hid (fun (X : World) (hX : Below W0.heap.size W0 X) => rRightA_any A c q X (ha.below hX))
  have HFr := Lib.hid (fun (X : World) (hX : Below W0.heap.size W0 X) => free_any A c q X (ha.below hX))
  have HFn := Lib.hid (fun (X : World) (hX : Below W0.heap.size W0 X) => rFree_any A c q X (ha.below hX))
  have HRb := Lib.hid (fun (X : World) (hX : Below W0.heap.size W0 X) (hr : arB (ces q) = true) => rByRows_any A c q X (ha.below hX) (by rw [← ces_length, arB_len hr]; exact Nat.le_refl _))
  rw [← hl] at HOa HCk HOf HBy HSm HSr HRi HFr HFn HRb
  rw [← hnq] at HOa HCk HOf HBy HSm HSr HSs HRi HFr HFn HRb ⊢
  rw [← hnr] at HOb HSm HSr ⊢
  obtain ⟨D, hD⟩ : ∃ D, D = decide (l = ces r) := ⟨_, rfl⟩
  rw [← hD] at HSm HSr
  clear H H2 ha hbr hW0 hb0 hx0 hx1 hnq hnr hl hD
  cases hov : overB l with
  | true =>
    rw [hov] at HOa
    clear hov
    go_enter Try.func3, Try.ntmps3
    go_wp2_with fail
    rw [← HW.out]
    refine HWk.out.mono ?_
    rintro e w1 ⟨rfl, hb1⟩
    have HB1 := Lib.hid hb1
    have HO1 := Lib.hid (HOa.out w1 hb1)
    obtain ⟨e0, e1⟩ := HX.out w1 hb1
    clear hb1
    go_wp2_with fail
    refine HO1.out.mono ?_
    rintro e w2 ⟨rfl, hb2⟩
    have HB2 := Lib.hid (HB1.out.trans (hb2.mono HB1.out.size))
    clear hb2
    go_wp2
    go_ret
    exact ⟨rfl, HB0.out.trans (HB2.out.mono HB0.out.size)⟩
  | false =>
    rw [hov] at HOa
    clear hov
    cases hov2 : overB (ces r) with
    | true =>
      rw [hov2] at HOb
      clear hov2
      go_enter Try.func3, Try.ntmps3
      go_wp2_with fail
      rw [← HW.out]
      refine HWk.out.mono ?_
      rintro e w1 ⟨rfl, hb1⟩
      have HB1 := Lib.hid hb1
      have HO1 := Lib.hid (HOa.out w1 hb1)
      obtain ⟨e0, e1⟩ := HX.out w1 hb1
      clear hb1
      go_wp2_with fail
      refine HO1.out.mono ?_
      rintro e w2 ⟨rfl, hb2⟩
      have HB2 := Lib.hid (HB1.out.trans (hb2.mono HB1.out.size))
      have HO2 := Lib.hid (HOb.out w2 HB2.out)
      clear hb2 e0 e1
      obtain ⟨e0, e1⟩ := HX.out w2 HB2.out
      go_wp2_with fail
      refine HO2.out.mono ?_
      rintro e w3 ⟨rfl, hb3⟩
      have HB3 := Lib.hid (HB2.out.trans (hb3.mono HB2.out.size))
      clear hb3
      go_wp2
      go_ret
      exact ⟨rfl, HB0.out.trans (HB3.out.mono HB0.out.size)⟩
    | false =>
      rw [hov2] at HOb
      clear hov2
      go_enter Try.func3, Try.ntmps3
      go_wp2_with fail
      rw [← HW.out]
      refine HWk.out.mono ?_
      rintro e w1 ⟨rfl, hb1⟩
      have HB1 := Lib.hid hb1
      have HO1 := Lib.hid (HOa.out w1 hb1)
      obtain ⟨e0, e1⟩ := HX.out w1 hb1
      clear hb1
      go_wp2_with fail
      refine HO1.out.mono ?_
      rintro e w2 ⟨rfl, hb2⟩
      have HB2 := Lib.hid (HB1.out.trans (hb2.mono HB1.out.size))
      have HO2 := Lib.hid (HOb.out w2 HB2.out)
      clear hb2 e0 e1
      obtain ⟨e0, e1⟩ := HX.out w2 HB2.out
      go_wp2_with fail
      refine HO2.out.mono ?_
      rintro e w3 ⟨rfl, hb3⟩
      have HB3 := Lib.hid (HB2.out.trans (hb3.mono HB2.out.size))
      have HO3 := Lib.hid (HCk.out w3 HB3.out)
      clear hb3 e0 e1
      obtain ⟨e0, e1⟩ := HX.out w3 HB3.out
      go_wp2_with fail
      refine HO3.out.mono ?_
      rintro e w4 ⟨rfl, hb4⟩
      have HB4 := Lib.hid (HB3.out.trans (hb4.mono HB3.out.size))
      have HO4 := Lib.hid (HOf.out w4 HB4.out)
      clear hb4 e0 e1
      obtain ⟨e0, e1⟩ := HX.out w4 HB4.out
      go_wp2_with fail
      refine HO4.out.mono ?_
      rintro e w5 ⟨A5, c5, rfl, ho5, hb5⟩
      have HB5 := Lib.hid (HB4.out.trans (hb5.mono HB4.out.size))
      have HO5 := Lib.hid (HBy.out w5 HB5.out)
      have HS5 := Lib.hid ho5
      clear hb5 e0 e1 ho5
      obtain ⟨e0, e1⟩ := HX.out w5 HB5.out
      obtain ⟨no, hno⟩ : ∃ n, n = (ofA l id).length := ⟨_, rfl⟩
      have HNO := Lib.hid hno
      rw [← hno]
      clear hno
      go_wp2_with fail
      refine HO5.out.mono ?_
      rintro e w6 ⟨A6, c6, q6, rfl, hq6, ho6, hb6⟩
      have HB6 := Lib.hid (HB5.out.trans (hb6.mono HB5.out.size))
      have HQ6 := Lib.hid hq6
      have HA6 := Lib.hid (OwnA.are ho6)
      have HS6 := Lib.hid (show OwnS 0 w6 A5 c5 (ofA l id) from World.ownsRow.mono (row_turn HS5.out (Turn.of_below (S := fun _ => False) hb6) (fun _ _ e => e)) (Nat.zero_le _))
      clear hb6 e0 e1 hq6 ho6
      obtain ⟨e0, e1⟩ := HX.out w6 HB6.out
      obtain ⟨n6, hn6⟩ : ∃ n, n = q6.length := ⟨_, rfl⟩
      have HN6 := Lib.hid hn6
      rw [← hn6]
      clear hn6
      have HSn := Lib.hid (fun (X : World) (g1 g2 : Nat) (q1 q2 : List Pa) (z1 : q1.length = 96) (z2 : q2.length = 96) (y1 : ces q1 = List.replicate 96 zc) (y2 : ces q2 = List.replicate 96 zc) (h1 : Are X (some ⟨g1, 0, none⟩) 96 q1) (h2 : Are X (some ⟨g2, 0, none⟩) 96 q2) => show Calls Try.prog 15 #[.agg #[.slice (some ⟨g1, 0, none⟩) 96 96], .agg #[.slice (some ⟨g2, 0, none⟩) 96 96]] X (fun e w' => e = .returned (.bool true) ∧ Below X.heap.size X w') from by
        have := sameA_any (some ⟨g1, 0, none⟩) (some ⟨g2, 0, none⟩) 96 96 q1 q2 X h1 h2
        rw [z1, z2, y1, y2] at this
        simpa using this)
      have HX6 := Lib.hid (fun (X : World) (hX : Below w6.heap.size w6 X) => HX.out X (HB6.out.trans (hX.mono HB6.out.size)))
      have HW6 := Lib.hid (fun (X : World) (hX : Below w6.heap.size w6 X) => show Below W0.heap.size W0 X from HB6.out.trans (hX.mono HB6.out.size))
      have hdd : (D != D) = false := by simp
      have hdr : Below w6.heap.size w6 w6.drew := below_drew (Below.refl _ _)
      go_wp2
      go_region_held3 (fun X => X.cell? ⟨w.heap.size, 0, none⟩ = some (.slice A nq c) ∧ X.cell? ⟨w.heap.size + 1, 0, none⟩ = some (.slice B nr cb))
        (first | (with_reducible assumption) | (with_reducible exact HX6.out _ (by assumption)))
        (first
        | (go_at_call 15; (first | (with_reducible refine (HSm.out _ (HW6.out _ (by assumption))).mono ?_) | (with_reducible refine (HSs.out _ (HW6.out _ (by assumption))).mono ?_) | (with_reducible refine (HSn.out _ g1 g2 q1 q2 k1 k2 y1 y2 (h1 _ (by first | assumption | exact Below.refl _ _)) (h2 _ (by first | assumption | exact Below.refl _ _))).mono ?_)); rintro e w' ⟨rfl, hb'⟩; have hz := chainB (w6 := w6) (by assumption) hb')
        | (go_at_call 16; (with_reducible refine (HSr.out _ (HW6.out _ (by assumption))).mono ?_); rintro e w' ⟨rfl, hb'⟩; have hz := chainB (w6 := w6) (by assumption) hb')
        | (go_at_call 18; (with_reducible refine (rNewA_any _).mono ?_); rintro e w' ⟨g2, q2, rfl, y2, k2, hoA2, hb'⟩; have hz := chainB (w6 := w6) (by assumption) hb'; have h2 := fun (X : World) (hX : Below w'.heap.size w' X) => (OwnA.are hoA2).below hX; clear hoA2)
        | (go_at_call 17; (with_reducible refine (newA_any _).mono ?_); rintro e w' ⟨g1, q1, rfl, y1, k1, hoA1, hb'⟩; have hz := chainB (w6 := w6) (by assumption) hb'; have h1 := fun (X : World) (hX : Below w'.heap.size w' X) => (OwnA.are hoA1).below hX; clear hoA1))
      all_goals
        have HZ := Lib.hid (HW6.out _ (show Below w6.heap.size w6 w' from hz))
        have HA7 := Lib.hid (HA6.out.below (show Below w6.heap.size w6 w' from hz))
        have HS7 := Lib.hid (show OwnS 0 w' A5 c5 (ofA l id) from row_turn HS6.out (Turn.of_below (S := fun _ => False) hz) (fun _ _ e => e))
        have HR7 := Lib.hid (HRi.out w' HZ.out)
        clear e0 e1
        obtain ⟨e0, e1⟩ := HX.out w' HZ.out
        cases har : arB l with
        | false =>
          have hc : chkA l = 190 := chkA_no har
          have hno : no = 0 := by rw [HNO.out]; unfold ofA; rw [if_neg (by rw [har]; decide)]; rfl
          have hn6 : n6 = 0 := by rw [HN6.out, ← ces_length, HQ6.out]; unfold rowsA; rw [if_neg (by rw [har]; decide)]; rfl
          have hf0 : freeA l = 0 := by unfold freeA; rw [if_neg (by rw [har]; decide)]
          have HF7 := HFr
          rw [hf0] at HF7
          rw [har] at HR7
          rw [hc]
          subst hno hn6
          clear hc hf0 har
          go_wp2_with fail
          (with_reducible refine HR7.out.mono ?_)
          rintro e w8 ⟨rfl, hb8⟩
          have HB8 := Lib.hid (HZ.out.trans (hb8.mono HZ.out.size))
          have HF8 := Lib.hid (HF7.out w8 HB8.out)
          clear hb8 e0 e1
          obtain ⟨e0, e1⟩ := HX.out w8 HB8.out
          go_wp2_with fail
          (with_reducible refine HF8.out.mono ?_)
          rintro e w9 ⟨rfl, hb9⟩
          have HB9 := Lib.hid (HB8.out.trans (hb9.mono HB8.out.size))
          clear hb9
          go_wp2
          go_ret
          exact ⟨rfl, HB0.out.trans (HB9.out.mono HB0.out.size)⟩
        | true =>
          have hc : chkA l = 0 := chkA_ok har
          have hf0 : freeA l = (freeN l : Int) := by unfold freeA; rw [if_pos har]
          have HF7 := HFr
          rw [hf0] at HF7
          rw [har] at HR7
          have HRx := Lib.hid (fun (X : World) (hX : Below W0.heap.size W0 X) => HRb.out X hX har)
          have HAb := Lib.hid har
          have HrA := Lib.hid (rowsA_eq har)
          have HoR := Lib.hid (of_rows (id := id) har)
          rw [hc]
          clear hc hf0 har
          go_wp2_with fail
          (with_reducible refine HR7.out.mono ?_)
          rintro e w8 ⟨rfl, hb8⟩
          have HB8 := Lib.hid (HZ.out.trans (hb8.mono HZ.out.size))
          have HRb8 := Lib.hid (HRx.out w8 HB8.out)
          have HA8 := Lib.hid (HA7.out.below hb8)
          have HS8 := Lib.hid (show OwnS 0 w8 A5 c5 (ofA l id) from row_turn HS7.out (Turn.of_below (S := fun _ => False) hb8) (fun _ _ e => e))
          clear hb8 e0 e1
          obtain ⟨e0, e1⟩ := HX.out w8 HB8.out
          go_wp2_with fail
          (refine HRb8.out.mono ?_)
          rintro e w9 ⟨n9, Ao, co, As, cs, qo, s, rfl, hnn, hce, hare, hown, hss, hb9⟩
          have HB9 := Lib.hid (HB8.out.trans (hb9.mono HB8.out.size))
          have HA9 := Lib.hid (HA8.out.below hb9)
          have HS9 := Lib.hid (show OwnS 0 w9 A5 c5 (ofA l id) from row_turn HS8.out (Turn.of_below (S := fun _ => False) hb9) (fun _ _ e => e))
          have HNN := Lib.hid hnn
          have HCE := Lib.hid hce
          have HAR := Lib.hid hare
          have HOW := Lib.hid hown
          have HSS := Lib.hid hss
          have HCs := Lib.hid (fun (X : World) (hX : Below w9.heap.size w9 X) => show Calls Try.prog 22 #[.slice A6 n6 c6, .slice Ao n9 co] X (fun e w' => e = .returned (.bool true) ∧ Below X.heap.size X w') from by
            have h := rSameC_any A6 Ao c6 co q6 qo X (HA9.out.below hX) (HAR.out.below hX)
            rw [← HN6.out, HNN.out.1, HQ6.out, HCE.out, HrA.out, HSS.out] at h
            simpa using h)
          have HFa := Lib.hid (fun (X : World) (hX : Below w9.heap.size w9 X) => HF7.out X (HB9.out.trans (hX.mono HB9.out.size)))
          have HFb := Lib.hid (fun (X : World) (hX : Below w9.heap.size w9 X) => HFn.out X (HB9.out.trans (hX.mono HB9.out.size)))
          have HX9 := Lib.hid (fun (X : World) (hX : Below w9.heap.size w9 X) => HX.out X (HB9.out.trans (hX.mono HB9.out.size)))
          have h96 : l.length = 96 := arB_len HAb.out
          have hn9 : n9 ≤ 96 := by
            have h2 := rows_len l
            have h3 := used_free l
            rw [← HSS.out, HNN.out.2] at h2
            omega
          have HSb := Lib.hid (show ∀ z ∈ s, z < 9223372036854775807 from fun z hz => by
            rw [HSS.out] at hz
            have := (rows_mem hz).1
            omega)
          have HOm := Lib.hid (show ∀ z ∈ ofA l id, z < 9223372036854775807 from fun z hz => by
            rw [HoR.out, ← HSS.out] at hz
            exact HSb.out z (List.mem_filter.1 hz).1)
          have HCl := Lib.hid (show ∀ k, cntI l id s k ≤ 96 from fun k => by
            unfold cntI
            refine Nat.le_trans (List.length_filter_le _ _) (Nat.le_trans (List.length_take_le' _ _) ?_)
            rw [HNN.out.2]; exact hn9)
          clear h96
          clear hnn hce hare hown hss hb9 e0 e1
          have hff : ((freeN l : Int) != (freeN l : Int)) = false := by simp
          go_wp2
          refine region_quiet9 (fun X => Below w9.heap.size w9 X) (by kernel_rfl) (by kernel_rfl) (below_drew (Below.refl _ _)) ?_
          repeat (first | go_big_quiet_skip | (go_big_quiet_want; go_big_quiet_op; first | go_big_quiet_on | (refine ⟨_, fun _ _ => rfl, ?_⟩; go_big_quiet_on) | (refine ⟨_, fun W hW => (HCs.out W hW).mono (fun _ _ h => ⟨h.1, hW.trans (h.2.mono hW.size)⟩), ?_⟩; go_big_quiet_on) | (refine ⟨_, fun W hW => (HFa.out W hW).mono (fun _ _ h => ⟨h.1, hW.trans (h.2.mono hW.size)⟩), ?_⟩; go_big_quiet_on) | (refine ⟨_, fun W hW => (HFb.out W hW).mono (fun _ _ h => ⟨h.1, hW.trans (h.2.mono hW.size)⟩), ?_⟩; go_big_quiet_on) | (refine ⟨_, fun W hW => (by obtain ⟨z0, z1⟩ := HX9.out W hW; simp only [z0]; exact ⟨rfl, rfl⟩), ?_⟩; go_big_quiet_on) | (refine ⟨_, fun W hW => (by obtain ⟨z0, z1⟩ := HX9.out W hW; simp only [Result.andThen, z0]; exact ⟨trivial, rfl⟩), ?_⟩; go_big_quiet_on)))
          refine wpQuiet_nil ?_
          intro w10 hq10
          have HW10 := Lib.hid hq10
          have HBt := Lib.hid (HB9.out.trans (hq10.mono HB9.out.size))
          clear hq10
          have hcz : cntI l id s 0 = 0 := rfl
          have HCz := Lib.hid hcz
          clear hcz
          go_wp2
          go_loopw [14, 115] (fun nn i wr => ∃ k : Nat, k ≤ n9 ∧ nn = .int .i64 (cntI l id s k : Nat) ∧ i = .int .i64 k ∧ Hid (Below w9.heap.size w9 wr)) (fun _ i _ => n9 - (intOf i).toNat)
          case atStart => exact ⟨0, Nat.zero_le _, by rw [HCz.out]; rfl, rfl, HW10⟩
          case round =>
            obtain ⟨k, hk, rfl, rfl, HI⟩ := hrel
            by_cases hkm : k < n9
            · obtain ⟨b, o, p, rfl, hp, hb, a0, a1, a2, a3, a4, hv, hf⟩ := (HAR.out.below HI.out).at_ (i := k) (by rw [HNN.out.1]; exact hkm)
              obtain ⟨y, hy⟩ : ∃ y, s[k]? = some y := ⟨_, List.getElem?_eq_getElem (by rw [HNN.out.2]; exact hkm)⟩
              have hcy : ceAt l y = p.e := by
                have e1 := ces_at hp
                rw [HCE.out, List.getElem?_map, hy] at e1
                injection e1
              have k0 : (0 : Int) ≤ k := by omega
              have km : (k : Int) < n9 := by omega
              obtain ⟨W1, hW1⟩ : ∃ W1, W1 = wr.alloc (.cells #[.bool p.e.u, .int .u64 p.e.i, .int .u64 p.e.b, .int .u64 p.e.f, .slice p.B p.e.x.length p.c] 45) := ⟨_, rfl⟩
              have hba1 : Below wr.heap.size wr W1 := by rw [hW1]; exact (Below.refl _ wr).alloc (Nat.le_refl _) _
              have hx1 : W1.heap[wr.heap.size]? = some (.cells #[.bool p.e.u, .int .u64 p.e.i, .int .u64 p.e.b, .int .u64 p.e.f, .slice p.B p.e.x.length p.c] 45 (0, 0)) := by rw [hW1]; exact heap_alloc_new wr _
              have HI1 := Lib.hid (HI.out.trans (hba1.mono HI.out.size))
              have HW1 := Lib.hid hW1
              have z1 := (cell_of_row _ _ 1 _ _ _ hx1).trans rfl
              obtain ⟨N, hN⟩ : ∃ N, N = cntI l id s k := ⟨_, rfl⟩
              by_cases hid : p.e.i = id
              · obtain ⟨g1, g2⟩ := cnt_yes (l := l) (id := id) hy (by rw [hcy]; exact hid)
                rw [← hN] at g1 g2 ⊢
                have ho : (ofA l id)[N]? = some y := by rw [HoR.out, ← HSS.out]; exact g2
                have hNl : N < no := by rw [HNO.out]; exact (List.getElem?_eq_some_iff.1 ho).1
                have hbs : ∀ X, Below w9.heap.size w9 X → Vec .i64 X A5 c5 ((ofA l id).map fun (k : Nat) => (k : Int)) := fun X hX => OwnS.vec (row_turn HS9.out (Turn.of_below (S := fun _ => False) hX) (fun _ _ e => e)) (fun z hz => HOm.out z hz)
                have hcs2 : ∀ X, Below w9.heap.size w9 X → Vec .i64 X As cs (s.map fun (k : Nat) => (k : Int)) := fun X hX => OwnS.vec (row_turn HOW.out (Turn.of_below (S := fun _ => False) hX) (fun _ _ e => e)) (fun z hz => HSb.out z hz)
                obtain ⟨gb, go, hA5, hgb, hgc⟩ := (hbs w9 (Below.refl _ _)).at_ (j := N) (by rw [List.length_map, ← HNO.out]; exact hNl)
                obtain ⟨sb, so, hAs, hsb, hsc⟩ := (hcs2 w9 (Below.refl _ _)).at_ (j := k) (by rw [List.length_map, HNN.out.2]; exact hkm)
                have hg1 : ((ofA l id).map fun (k : Nat) => (k : Int)).getD N 0 = (y : Int) := by rw [List.getD_eq_getElem?_getD, List.getElem?_map, ho]; rfl
                have hs1 : (s.map fun (k : Nat) => (k : Int)).getD k 0 = (y : Int) := by rw [List.getD_eq_getElem?_getD, List.getElem?_map, hy]; rfl
                rw [hg1] at hgc
                rw [hs1] at hsc
                subst hA5 hAs
                have HK := Lib.hid (fun (X : World) (hX : Below w9.heap.size w9 X) => show X.cell? ⟨gb, go + N, none⟩ = some (.int .i64 y) ∧ X.cell? ⟨sb, so + k, none⟩ = some (.int .i64 y) from ⟨(hX.cell (p := ⟨gb, _, none⟩) hgb).trans hgc, (hX.cell (p := ⟨sb, _, none⟩) hsb).trans hsc⟩)
                have HG1 := Lib.hid g1
                have N0 : (0 : Int) ≤ N := by omega
                have Nl : (N : Int) < no := by omega
                have tg : decide ((no : Int) ≤ N) = false := by simp; omega
                have tg2 : decide (no ≤ N) = false := by simp; omega
                have hno96 : N ≤ 120 := by have h := HCl.out k; rw [← hN] at h; omega
                clear hN g1 g2 ho hbs hcs2 hgb hgc hsb hsc hg1 hs1 hp hb hv hf hy hcy hba1 hx1 hW1
                rw [hid] at z1 HW1 a1
                clear hid
                go_wp2_with (rw [← HW1.out])
                refine region_quiet9 (fun X => Below w9.heap.size w9 X) (by kernel_rfl) (by kernel_rfl) (below_drew HI1.out) ?_
                repeat (first | go_big_quiet_skip | (go_big_quiet_want; go_big_quiet_op; first | go_big_quiet_on | (refine ⟨_, fun _ _ => rfl, ?_⟩; go_big_quiet_on) | (refine ⟨_, fun W hW => (by obtain ⟨z0, z1⟩ := HK.out W hW; simp only [z0, z1]; exact ⟨rfl, rfl⟩), ?_⟩; go_big_quiet_on) | (refine ⟨_, fun W hW => (by obtain ⟨z0, z1⟩ := HK.out W hW; simp only [Result.andThen, z0, z1]; exact ⟨trivial, rfl⟩), ?_⟩; go_big_quiet_on)))
                refine wpQuiet_nil ?_
                intro wn hqn
                have HWn := Lib.hid hqn
                clear hqn
                go_wp2
                go_roundw
                case rel => exact ⟨k + 1, by omega, by rw [HG1.out]; go_num, by go_num, HWn⟩
                case measure => simp [intOf]; omega
              · have g1 := cnt_no (l := l) (id := id) hy (by rw [hcy]; exact hid)
                have HG1 := Lib.hid (g1.trans hN.symm)
                rw [← hN]
                have t1 : (p.e.i == id) = false := by simpa using hid
                clear g1 hN hp hb hv hf hy hcy hba1 hx1 hW1 hid
                go_wp2_with (rw [← HW1.out])
                go_roundw
                case rel => exact ⟨k + 1, by omega, by rw [HG1.out], by go_num, HI1⟩
                case measure => simp [intOf]; omega
            · obtain rfl : k = n9 := by omega
              have hend : cntI l id s k = no := by
                rw [HNO.out, HoR.out, ← HSS.out]
                unfold cntI
                rw [List.take_of_length_le (Nat.le_of_eq HNN.out.2)]
              have HEn := Lib.hid (HB9.out.trans (HI.out.mono HB9.out.size))
              rw [hend]
              clear hend
              go_wp2
              go_ret
              exact ⟨by simp, HB0.out.trans (HEn.out.mono HB0.out.size)⟩

set_option maxRecDepth 100000 in
theorem lifted (os : Os) (started : os.Started) (H : Type) (enc : TypeId × Value → H) :
    ReturnsInHanded {} Try.checked os 3 .any (Rows.arenaTellsSpec.pre6 enc Try.prog Try.f3 Rows.arenaTellsRow.domain false) (Rows.arenaTellsSpec.post enc Try.prog Try.f3 false true false false) := by
  refine returnsInHanded_of_change (C := Try.checked) Try.own started (by kernel_rfl) Try.func3
    (ChangeSpec.witness6 (enc := enc) (C := Try.checked) false ⟨#[], #[.agg #[.slice none 0 0], .agg #[.slice none 0 0], .int .u64 0], []⟩ 8 (by kernel_rfl) (by kernel_rfl) (by kernel_rfl) (by kernel_rfl)) ?_
  intro W base args ds gs before hval0 hW hcnd _
  have hval : ∀ (j : Nat) t v, Try.f3.params[j]? = some t → args[j]? = some v → Value.okWide Try.prog W .any base t v := hval0
  have hW' := hW
  obtain ⟨p, q, hA0, hV, rfl, hfz, hnd⟩ := hW
  have hA : DataW.TrodAll enc Try.prog W 0 (fun _ => true) true Try.f3.params.toList args.toList ds p := hA0
  rw [Try.params3] at hA hval
  have hA' := hA
  obtain ⟨v0, vs0, d0, ds0, p0, q0, hargs, rfl, rfl, h0, r0⟩ := trodAll_cons hA
  obtain ⟨v1, vs1, d1, ds1, p1, q1, rfl, rfl, rfl, h1, r1⟩ := trodAll_cons r0
  obtain ⟨v2, vs2, d2, ds2, p2, q2, rfl, rfl, rfl, h2, r2⟩ := trodAll_cons r1
  obtain ⟨rfl, rfl, rfl⟩ := trodAll_nil r2
  obtain rfl : args = #[v0, v1, v2] := by cases args; simp_all
  obtain ⟨rfl, rfl⟩ := trodVars_none hV
  obtain ⟨A0, c0, z0, rfl, sl0⟩ := open_arena (hval 0 24 v0 rfl rfl) h0
  obtain ⟨A1, c1, z1, rfl, sl1⟩ := open_arena (hval 1 24 v1 rfl rfl) h1
  obtain ⟨a2, rfl, w2⟩ := open_time (hval 2 25 v2 rfl rfl) h2
  clear hA0 hval0
  refine (walk A0 c0 z0 sl0 A1 c1 z1 sl1 a2 w2).mono fun e W' ⟨he, bel⟩ => ?_
  subst he
  exact ⟨_, rfl, _, _, _, [], _, [], hW', trodAll_mk1 (shut_bool Try.underlying4 _), trodAll_below bel _ _ _ _ (by kernel_rfl) hA', rfl, bel.frame _, fun h => by cases h⟩

theorem proved : Rows.ArenaTellsSaid :=
  OpenClaim.holds_of_wide 3 Try.f3 rfl rfl rfl rfl rfl rfl rfl ⟨rfl, rfl, rfl, rfl, rfl⟩ rfl rfl rfl rfl rfl (by kernel_rfl) Try.func3 (by kernel_rfl)
    (of_decide_eq_true (by kernel_rfl)) (by unfold Func.isWrapper; first | (rw [if_pos (by decide +kernel)]; kernel_rfl) | (rw [if_neg (by decide +kernel)]; exact ⟨rfl, rfl⟩))
    (fun os started H enc _ => lifted os started H enc)
#print axioms proved
end Go.Proofs.Ytdbcecmlakgknaa.arenaTells
