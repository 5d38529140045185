/-
  What quiverref07's Row and Version answer.
-/
import Derived.Test.YthbpnngfdpdjkaaCodApp
import Derived.Deep.Onto
import Derived.Deep.Cut
import Derived.Deep.RegionHeld3
namespace Go.Proofs.Ythbpnngfdpdjkaa
open Go.RowKit Go.Shelf
set_option linter.unusedVariables false
set_option linter.unusedSimpArgs false
set_option maxRecDepth 100000

/-- A row of the call's own, behind another one that grew. -/
theorem row_far {X Y Z : World} {b0 b1 : Nat} {A1 A2 : Option Addr} {n1 c1 n2 c2 : Nat} {l1 l2 : List Value} (h1 : X.ownsRow b0 5 1 (.slice A1 n1 c1) n1 l1) (hb : b1 = X.heap.size) (h2 : Y.ownsRow b1 5 1 (.slice A2 n2 c2) n2 l2) (hg : Y.grownBy Z (blk A1)) : Z.ownsRow b1 5 1 (.slice A2 n2 c2) n2 l2 := by
  refine h2.kept hg ?_
  rcases A2 with _ | a2
  · exact .inl rfl
  · refine .inr fun e => ?_
    have k2 := (h2.lt a2.block rfl).1
    rcases A1 with _ | a1
    · cases e
    · have k1 := (h1.lt a1.block rfl).2
      have e : a2.block = a1.block := by simpa [Value.ownBlock, blk] using e
      omega
theorem own_lt {X : World} {B n c : Nat} {e : TypeId} {A : Option Addr} {l : List Value} (h : X.ownsRow B e 1 (.slice A n c) n l) : ∀ j, blk A = some j → B ≤ j := by
  intro j hj
  rcases A with _ | a
  · cases hj
  · exact (h.lt j hj).1
theorem rd_row {w : World} {base n c : Nat} {A : Option Addr} {bs : List Int} (h : w.ownsRow base 5 1 (.slice A n c) n (bs.map (Value.int .u8))) : Rd w w.heap.size A bs := by
  have h1 := h.1
  simp at h1
  exact Rd.own h

set_option maxHeartbeats 2000000 in
theorem rRow_any (i : Int) (A : Option Addr) (c : Nat) (xs : List Int) (w : World) (wi : (Lit.int .u64 i).wf = true) (h : Vec .i32 w A c xs) (hl : xs.length ≤ 255) :
    Calls Try.prog 21 #[.agg #[.int .u64 i, .slice A xs.length c]] w (GivesB w (rowB i xs)) := by
  obtain ⟨n, hn⟩ : ∃ n, n = xs.length := ⟨_, rfl⟩
  obtain ⟨W0, hW0⟩ : ∃ W0, W0 = w.alloc (.cells #[.int .u64 i, .slice A xs.length c] 25) := ⟨_, rfl⟩
  have hb0 : Below w.heap.size w W0 := by rw [hW0]; exact (Below.refl _ w).alloc (Nat.le_refl _) _
  have q0 : W0.heap[w.heap.size]? = some (.cells #[.int .u64 i, .slice A xs.length c] 25 (0, 0)) := by rw [hW0]; exact heap_alloc_new w _
  have hi := layu_fit wi
  have hHi := fun X => rHigh_any 8 i X (by omega) hi.1 hi.2
  have hVe := fun (X : World) (hX : Below W0.heap.size W0 X) => rVec_any A c xs X ((h.below hb0).below hX) hl
  have hP : rowB i xs = numB i ++ vecB xs := rfl
  have hvl : (vecB xs).length = 1 + 4 * xs.length := vecB_len xs
  have hnl : (numB i).length = 8 := numB_len i
  change ∀ X, Calls Try.prog 40 #[.int .u64 i, .int .i64 8] X (fun e w' => ∃ A c, e = .returned (.slice A 8 c) ∧ New X.heap.size w' A c (numB i) ∧ Below X.heap.size X w') at hHi
  generalize rowB i xs = P at *
  generalize numB i = U at *
  generalize vecB xs = V at *
  rw [← hn] at hW0 q0 hVe hvl ⊢
  obtain ⟨v, hv⟩ : ∃ v, v = V.length := ⟨_, rfl⟩
  have hvb : v ≤ 1100 := by omega
  have HPL := Lib.hid (show 8 + v = P.length by rw [hP, List.length_append, hnl, hv])
  have HW0 := Lib.hid hW0
  have HB0 := Lib.hid hb0
  have HHi := Lib.hid hHi
  have HVe := Lib.hid hVe
  have HP := Lib.hid hP
  have HV := Lib.hid hv.symm
  have HU := Lib.hid hnl
  have HK := Lib.hid (fun (X : World) (hX : Below W0.heap.size W0 X) => show X.cell? ⟨w.heap.size, 0, none⟩ = some (.int .u64 i) ∧ X.cell? ⟨w.heap.size, 1, none⟩ = some (.slice A n c) from
    have r0 := (hX.block _ (lt_of_block q0)).trans q0
    ⟨(cell_of_row _ _ 0 _ _ _ r0).trans rfl, (cell_of_row _ _ 1 _ _ _ r0).trans rfl⟩)
  have HBd := Lib.hid (below_drew (Below.refl W0.heap.size W0))
  have SA := Lib.hid (HK.out _ HBd.out)
  clear h hi wi hn hW0 hb0 q0 hHi hVe hP hv hvl hnl hl
  go_enter Try.func21, Try.ntmps21
  go_upto_region 1 with (fail)
  rw [← HW0.out]
  go_region_held3 (fun X => X.cell? ⟨w.heap.size, 0, none⟩ = some (.int .u64 i) ∧ X.cell? ⟨w.heap.size, 1, none⟩ = some (.slice A n c)) (first | exact SA.out | exact SB.out | exact SC.out | exact SD.out) (first
    | (go_at_call 40; (with_reducible refine (HHi.out W0.drew).mono ?_); rintro e w1 ⟨A1, c1, rfl, hn1, hb1⟩; have HN1 := Lib.hid (show w1.ownsRow W0.heap.size 5 1 (.slice A1 8 c1) 8 (U.map (Value.int .u8)) from by have h := hn1; unfold New at h; rw [HU.out] at h; exact h); have HB1 := Lib.hid (HBd.out.trans hb1); have SB := Lib.hid (HK.out w1 HB1.out); clear hn1 hb1)
    | (go_at_call 20; (with_reducible refine (HVe.out w1 HB1.out).mono ?_); rintro e w2 ⟨A2, c2, rfl, hn2, hb2⟩; rw [HV.out]; have HN2 := Lib.hid (show w2.ownsRow w1.heap.size 5 1 (.slice A2 v c2) v (V.map (Value.int .u8)) from by have h := hn2; unfold New at h; rw [HV.out] at h; exact h); have HR2 := Lib.hid (hn2.sl.rd); have HN1b := Lib.hid (row_later HN1.out hb2); have HB2 := Lib.hid (HB1.out.trans (hb2.mono HB1.out.size)); have SC := Lib.hid (HK.out w2 HB2.out); clear hn2 hb2)
    | (refine step_app (by rfl) _ _ (by rfl) W0.heap.size A1 c1 8 _ (by rfl) HN1b.out A2 c2 v V (by rfl) HV.out HR2.out (by omega) HB2.out.size ?_; intro A3 c3 w3 hown3 hg3 hloc; have HB3 := Lib.hid (HB2.out.grown hg3 HB2.out.size (own_lt HN1b.out)); have SD := Lib.hid (HK.out w3 HB3.out); have HN3 := Lib.hid hown3; clear hown3 hg3 hloc))
  all_goals (
    obtain ⟨A4, c4, e4, hn4⟩ := new_of (bs := P) HN3.out (by rw [HP.out]; simp) HPL.out
    have e4' := e4
    have hcc : c3 = c4 := by injection e4
    have haa : A3 = A4 := by injection e4
    subst hcc
    subst haa
    have HN4 := Lib.hid hn4
    clear e4 e4' hn4
    go_wp2
    go_ret
    rw [HPL.out]
    exact ⟨A3, c3, rfl, World.ownsRow.mono HN4.out HB0.out.size, HB0.out.trans (HB3.out.mono HB0.out.size)⟩)

set_option maxHeartbeats 2000000 in
theorem rVersion_any (b f : Int) (A : Option Addr) (c : Nat) (xs : List Int) (w : World) (wb : (Lit.int .u64 b).wf = true) (wf : (Lit.int .u64 f).wf = true) (h : Vec .i32 w A c xs) (hl : xs.length ≤ 255) :
    Calls Try.prog 23 #[.agg #[.int .u64 b, .int .u64 f, .slice A xs.length c]] w (GivesB w (verB b f xs)) := by
  obtain ⟨n, hn⟩ : ∃ n, n = xs.length := ⟨_, rfl⟩
  obtain ⟨W0, hW0⟩ : ∃ W0, W0 = w.alloc (.cells #[.int .u64 b, .int .u64 f, .slice A xs.length c] 27) := ⟨_, rfl⟩
  have hb0 : Below w.heap.size w W0 := by rw [hW0]; exact (Below.refl _ w).alloc (Nat.le_refl _) _
  have q0 : W0.heap[w.heap.size]? = some (.cells #[.int .u64 b, .int .u64 f, .slice A xs.length c] 27 (0, 0)) := by rw [hW0]; exact heap_alloc_new w _
  have hi := layu_fit wb
  have hj := layu_fit wf
  have hHi := fun X => rHigh_any 8 b X (by omega) hi.1 hi.2
  have hHj := fun X => rHigh_any 8 f X (by omega) hj.1 hj.2
  have hVe := fun (X : World) (hX : Below W0.heap.size W0 X) => rVec_any A c xs X ((h.below hb0).below hX) hl
  have hP : verB b f xs = numB b ++ numB f ++ vecB xs := by unfold verB; rw [List.append_assoc]
  have hvl : (vecB xs).length = 1 + 4 * xs.length := vecB_len xs
  have hnl : (numB b).length = 8 := numB_len b
  have hnl' : (numB f).length = 8 := numB_len f
  change ∀ X, Calls Try.prog 40 #[.int .u64 b, .int .i64 8] X (fun e w' => ∃ A c, e = .returned (.slice A 8 c) ∧ New X.heap.size w' A c (numB b) ∧ Below X.heap.size X w') at hHi
  change ∀ X, Calls Try.prog 40 #[.int .u64 f, .int .i64 8] X (fun e w' => ∃ A c, e = .returned (.slice A 8 c) ∧ New X.heap.size w' A c (numB f) ∧ Below X.heap.size X w') at hHj
  generalize verB b f xs = P at *
  generalize numB b = U at *
  generalize numB f = U' at *
  generalize vecB xs = V at *
  rw [← hn] at hW0 q0 hVe hvl ⊢
  obtain ⟨v, hv⟩ : ∃ v, v = V.length := ⟨_, rfl⟩
  have hvb : v ≤ 1100 := by omega
  have HPL := Lib.hid (show 8 + 8 + v = P.length by rw [hP, List.length_append, List.length_append, hnl, hnl', hv])
  have HW0 := Lib.hid hW0
  have HB0 := Lib.hid hb0
  have HHi := Lib.hid hHi
  have HHj := Lib.hid hHj
  have HVe := Lib.hid hVe
  have HP := Lib.hid hP
  have HV := Lib.hid hv.symm
  have HU := Lib.hid hnl
  have HU' := Lib.hid hnl'
  have HK := Lib.hid (fun (X : World) (hX : Below W0.heap.size W0 X) => show X.cell? ⟨w.heap.size, 0, none⟩ = some (.int .u64 b) ∧ X.cell? ⟨w.heap.size, 1, none⟩ = some (.int .u64 f) ∧ X.cell? ⟨w.heap.size, 2, none⟩ = some (.slice A n c) from
    have r0 := (hX.block _ (lt_of_block q0)).trans q0
    ⟨(cell_of_row _ _ 0 _ _ _ r0).trans rfl, (cell_of_row _ _ 1 _ _ _ r0).trans rfl, (cell_of_row _ _ 2 _ _ _ r0).trans rfl⟩)
  have HBd := Lib.hid (below_drew (Below.refl W0.heap.size W0))
  have SA := Lib.hid (HK.out _ HBd.out)
  clear h hi hj wb wf hn hW0 hb0 q0 hHi hHj hVe hP hv hvl hnl hnl' hl
  go_enter Try.func23, Try.ntmps23
  go_upto_region 1 with (fail)
  rw [← HW0.out]
  go_region_held3 (fun X => X.cell? ⟨w.heap.size, 0, none⟩ = some (.int .u64 b) ∧ X.cell? ⟨w.heap.size, 1, none⟩ = some (.int .u64 f) ∧ X.cell? ⟨w.heap.size, 2, none⟩ = some (.slice A n c)) (first | exact SA.out | exact SB.out | exact SC.out | exact SD.out | exact SE.out | exact SF.out) (first
    | (go_at_call 40; (with_reducible refine (HHi.out W0.drew).mono ?_); rintro e w1 ⟨A1, c1, rfl, hn1, hb1⟩; have HN1 := Lib.hid (show w1.ownsRow W0.heap.size 5 1 (.slice A1 8 c1) 8 (U.map (Value.int .u8)) from by have h := hn1; unfold New at h; rw [HU.out] at h; exact h); have HB1 := Lib.hid (HBd.out.trans hb1); have SB := Lib.hid (HK.out w1 HB1.out); clear hn1 hb1)
    | (go_at_call 40; (with_reducible refine (HHj.out w1).mono ?_); rintro e w2 ⟨A2, c2, rfl, hn2, hb2⟩; have HR2 := Lib.hid (hn2.sl); have HN2 := Lib.hid (row_later HN1.out hb2); have HB2 := Lib.hid (HB1.out.trans (hb2.mono HB1.out.size)); have SC := Lib.hid (HK.out w2 HB2.out); clear hn2 hb2)
    | (refine step_app (by rfl) _ _ (by rfl) W0.heap.size A1 c1 8 _ (by rfl) HN2.out A2 c2 8 U' (by rfl) HU'.out HR2.out.rd (by omega) HB2.out.size ?_; intro A3 c3 w3 hown3 hg3 hloc; have HB3 := Lib.hid (HB2.out.grown hg3 HB2.out.size (own_lt HN2.out)); have SD := Lib.hid (HK.out w3 HB3.out); have HN3 := Lib.hid hown3; clear hown3 hg3 hloc)
    | (go_at_call 20; (with_reducible refine (HVe.out w3 HB3.out).mono ?_); rintro e w4 ⟨A4, c4, rfl, hn4, hb4⟩; rw [HV.out]; have HR4 := Lib.hid (hn4.sl.rd); have HN4 := Lib.hid (row_later HN3.out hb4); have HB4 := Lib.hid (HB3.out.trans (hb4.mono HB3.out.size)); have SE := Lib.hid (HK.out w4 HB4.out); clear hn4 hb4)
    | (go_at_call 20; (with_reducible refine (HVe.out w2 HB2.out).mono ?_); rintro e w3 ⟨A4, c4, rfl, hn4, hb4⟩; rw [HV.out]; have HV4 := Lib.hid (show w3.ownsRow w2.heap.size 5 1 (.slice A4 v c4) v (V.map (Value.int .u8)) from by have h := hn4; unfold New at h; rw [HV.out] at h; exact h); have HR2b := Lib.hid (HR2.out.below hb4); have HN2b := Lib.hid (row_later HN2.out hb4); have HB3' := Lib.hid (HB2.out.trans (hb4.mono HB2.out.size)); have SD := Lib.hid (HK.out w3 HB3'.out); clear hn4 hb4)
    | (refine step_app (by rfl) _ _ (by rfl) W0.heap.size A1 c1 8 _ (by rfl) HN2b.out A2 c2 8 U' (by rfl) HU'.out HR2b.out.rd (by omega) HB3'.out.size ?_; intro A3 c3 w4 hown3 hg3 hloc; have HB4 := Lib.hid (HB3'.out.grown hg3 HB3'.out.size (own_lt HN2b.out)); have SE := Lib.hid (HK.out w4 HB4.out); have HN4 := Lib.hid hown3; have HR4 := Lib.hid (rd_row (row_far HN2.out rfl HV4.out hg3)); clear hown3 hg3 hloc)
    | (refine step_app (by rfl) _ _ (by rfl) W0.heap.size A3 c3 (8 + 8) _ (by rfl) HN4.out A4 c4 v V (by rfl) HV.out HR4.out (by omega) HB4.out.size ?_; intro A5 c5 w5 hown5 hg5 hloc; have HB5 := Lib.hid (HB4.out.grown hg5 HB4.out.size (own_lt HN4.out)); have SF := Lib.hid (HK.out w5 HB5.out); have HN5 := Lib.hid hown5; clear hown5 hg5 hloc))
  all_goals (
    obtain ⟨A6, c6, e6, hn6⟩ := new_of (bs := P) HN5.out (by rw [HP.out]; simp) HPL.out
    have hcc : c5 = c6 := by injection e6
    have haa : A5 = A6 := by injection e6
    subst hcc
    subst haa
    have HN6 := Lib.hid hn6
    clear e6 hn6
    go_wp2
    go_ret
    rw [HPL.out]
    exact ⟨A5, c5, rfl, World.ownsRow.mono HN6.out HB0.out.size, HB0.out.trans (HB5.out.mono HB0.out.size)⟩)

end Go.Proofs.Ythbpnngfdpdjkaa
