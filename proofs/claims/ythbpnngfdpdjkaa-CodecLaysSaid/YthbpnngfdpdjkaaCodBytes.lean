/-
  Vec, Row, Version: the bytes, or why not.
-/
import Derived.Test.YthbpnngfdpdjkaaCodCheck
import Derived.Deep.RegionHeld3
namespace Go.Proofs.Ythbpnngfdpdjkaa
open Go.RowKit Go.Shelf
set_option linter.unusedVariables false
set_option linter.unusedSimpArgs false
set_option maxRecDepth 100000

/-- A call that answers bytes and an error. -/
def GivesE (w : World) (bs : List Int) (err : Int) (e : Ending) (w' : World) : Prop := ∃ A c, e = .returned (.tuple #[.slice A bs.length c, .int .i64 err]) ∧ Sl w' A c bs ∧ Below w.heap.size w w'
def vecE (xs : List Int) : Int := if right xs = true then 0 else 150
def vecO (xs : List Int) : List Int := if right xs = true then vecB xs else []
def rowO (id : Int) (xs : List Int) : List Int := if right xs = true then rowB id xs else []
def verO (b e : Int) (xs : List Int) : List Int := if verR b e xs = true then verB b e xs else []

set_option maxHeartbeats 400000 in
theorem vec_any (A : Option Addr) (c : Nat) (xs : List Int) (w : World) (h : Vec .i32 w A c xs) :
    Calls Try.prog 9 #[.slice A xs.length c] w (GivesE w (vecO xs) (vecE xs)) := by
  have HC := Lib.hid (check_any A c xs w h)
  have HX := Lib.hid h
  rw [checkM_eq] at HC
  have HR := Lib.hid (show vecE xs = if right xs = true then 0 else 150 from rfl)
  have HO := Lib.hid (show vecO xs = if right xs = true then vecB xs else [] from rfl)
  generalize vecE xs = R at *
  generalize vecO xs = O at *
  cases hr : right xs
  · rw [hr] at HC HR HO
    have HR2 := Lib.hid (show R = 150 by rw [HR.out]; rfl)
    have HO2 := Lib.hid (show O = [] by rw [HO.out]; rfl)
    simp only [Bool.false_eq_true, if_false] at HC
    generalize xs.length = n at *
    clear hr HR HO h HX
    go_enter Try.func9, Try.ntmps9
    go_wp2_with fail
    refine HC.out.mono ?_
    rintro e w1 ⟨rfl, hb1⟩
    have HB1 := Lib.hid hb1
    clear hb1
    go_wp2
    go_ret2
    rw [HR2.out, HO2.out]
    exact ⟨none, 0, rfl, sl_nil _, HB1.out⟩
  · have hl := (right_len hr).2
    have HL := Lib.hid (fun (V : World) (hV : Below w.heap.size w V) => layVec_any none A 0 c [] xs V (sl_nil V) (h.below hV) (by simp only [List.length_nil]; omega))
    rw [hr] at HC HR HO
    have HR2 := Lib.hid (show R = 0 by rw [HR.out]; rfl)
    have HO2 := Lib.hid (show O = vecB xs by rw [HO.out]; rfl)
    simp only [if_true] at HC
    simp only [List.nil_append, List.length_nil] at HL
    rw [← HO2.out] at HL
    generalize xs.length = n at *
    clear hr HR HO h HX hl
    go_enter Try.func9, Try.ntmps9
    go_wp2_with fail
    refine HC.out.mono ?_
    rintro e w1 ⟨rfl, hb1⟩
    have HB1 := Lib.hid hb1
    clear hb1
    go_wp2_with fail
    refine (HL.out w1 HB1.out).mono ?_
    rintro e w2 ⟨A2, c2, rfl, hs2, hb2⟩
    have HS2 := Lib.hid hs2
    have HB2 := Lib.hid (HB1.out.trans (hb2.mono HB1.out.size))
    clear hs2 hb2
    go_wp2
    go_ret2
    rw [HR2.out]
    exact ⟨A2, c2, rfl, HS2.out, HB2.out⟩

set_option maxHeartbeats 1000000 in
theorem row_any (id : Int) (A : Option Addr) (c : Nat) (xs : List Int) (w : World) (hi : (Lit.int .u64 id).wf = true) (h : Vec .i32 w A c xs) :
    Calls Try.prog 10 #[.agg #[.int .u64 id, .slice A xs.length c]] w (GivesE w (rowO id xs) (rowE xs)) := by
  obtain ⟨W, hW⟩ : ∃ W, W = w.alloc (.cells #[.int .u64 id, .slice A xs.length c] 25) := ⟨_, rfl⟩
  have hB : Below w.heap.size w W := by rw [hW]; exact (Below.refl _ w).alloc (Nat.le_refl _) _
  have HC := Lib.hid (checkRow_any id A c xs W (h.below hB))
  have HB := Lib.hid hB
  have HW := Lib.hid (show W.cell? ⟨w.heap.size, 0, none⟩ = some (.int .u64 id) ∧ W.cell? ⟨w.heap.size, 1, none⟩ = some (.slice A xs.length c) by rw [hW]; exact ⟨cell_laid _ _ _ 0, cell_laid _ _ _ 1⟩)
  have HZ := Lib.hid (show W.heap.size = w.heap.size + 1 by rw [hW]; simp)
  have HX := Lib.hid h
  have HI := Lib.hid hi
  have HR := Lib.hid (show rowE xs = if right xs = true then 0 else 170 from rfl)
  have HO := Lib.hid (show rowO id xs = if right xs = true then rowB id xs else [] from rfl)
  generalize rowE xs = R at *
  generalize rowO id xs = O at *
  have HW0 := Lib.hid hW
  rw [hW] at HC
  clear hi hB hW
  cases hr : right xs
  · rw [hr] at HR HO
    have HR2 := Lib.hid (show R = 170 by rw [HR.out]; rfl)
    have HO2 := Lib.hid (show O = [] by rw [HO.out]; rfl)
    rw [HR2.out] at HC
    generalize xs.length = n at *
    clear hr HR HO h HX
    go_enter Try.func10, Try.ntmps10
    go_wp2_with fail
    refine HC.out.mono ?_
    rw [← HW0.out]
    rintro e w1 ⟨rfl, hb1⟩
    have HB1 := Lib.hid (HB.out.trans (hb1.mono HB.out.size))
    clear hb1
    go_wp2
    go_ret2
    rw [HR2.out, HO2.out]
    exact ⟨none, 0, rfl, sl_nil _, HB1.out⟩
  · have hl := (right_len hr).2
    have HL := Lib.hid (fun (V : World) (A3 : Option Addr) (c3 : Nat) (hV : Below w.heap.size w V) (hs : Sl V A3 c3 (numB id)) => layVec_any A3 A c3 c (numB id) xs V hs (h.below hV) (by unfold numB; rw [fld_length]; omega))
    have HU := Lib.hid (fun (V : World) => layu_any none (some ⟨V.heap.size, 0, none⟩) 0 1 [] [id] (V.alloc (.cells #[.int .u64 id] 22)) (sl_nil _) (vec_one (cell_laid _ _ _ 0) HI.out) (by simp))
    rw [hr] at HR HO
    have HR2 := Lib.hid (show R = 0 by rw [HR.out]; rfl)
    have HO2 := Lib.hid (show O = numB id ++ vecB xs by rw [HO.out]; rfl)
    rw [HR2.out] at HC
    simp only [List.nil_append, List.length_nil, List.flatMap_cons, List.flatMap_nil, List.append_nil, List.length_singleton] at HU
    rw [← HO2.out] at HL
    generalize numB id = P at *
    generalize xs.length = n at *
    clear hr HR HO h HX hl
    go_enter Try.func10, Try.ntmps10
    go_wp2_with fail
    refine HC.out.mono ?_
    rw [← HW0.out]
    rintro e w1 ⟨rfl, hb1⟩
    have hz1 := hb1.size
    have hB1 := HB.out.trans (hb1.mono HB.out.size)
    have hBA : Below W.heap.size W (w1.drew.alloc (.cells #[.int .u64 id] 22)) := (below_drew hb1).alloc hz1 _
    have hk : ∀ V : World, Below W.heap.size W V → V.cell? ⟨w.heap.size, 0, none⟩ = some (.int .u64 id) ∧ V.cell? ⟨w.heap.size, 1, none⟩ = some (.slice A n c) := fun V hV =>
      ⟨(hV.cell (p := ⟨w.heap.size, 0, none⟩) (by rw [HZ.out]; simp)).trans HW.out.1, (hV.cell (p := ⟨w.heap.size, 1, none⟩) (by rw [HZ.out]; simp)).trans HW.out.2⟩
    have S0 := Lib.hid (hk _ (below_drew hb1))
    have SA := Lib.hid (hk _ hBA)
    have HK := Lib.hid hk
    have HBA := Lib.hid hBA
    have HU1 := Lib.hid (HU.out w1.drew)
    clear hb1 hz1 hB1 hBA hk HU
    go_wp2
    go_region_held3 (fun V => V.cell? ⟨w.heap.size, 0, none⟩ = some (.int .u64 id) ∧ V.cell? ⟨w.heap.size, 1, none⟩ = some (.slice A n c)) (first | exact S0.out | exact SA.out | exact S3.out | exact S4.out) (first
      | (go_at_call 36; refine HU1.out.mono ?_; rintro e w3 ⟨A3, c3, rfl, hs3, hb3⟩; have HB3 := Lib.hid (HBA.out.trans (hb3.mono HBA.out.size)); have S3 := Lib.hid (HK.out w3 HB3.out); have HS3 := Lib.hid hs3; clear hs3 hb3)
      | (go_at_call 35; refine (HL.out w3 A3 c3 (HB.out.trans (HB3.out.mono HB.out.size)) HS3.out).mono ?_; rintro e w4 ⟨A4, c4, rfl, hs4, hb4⟩; have HB4 := Lib.hid (HB3.out.trans (hb4.mono HB3.out.size)); have S4 := Lib.hid (HK.out w4 HB4.out); have HS4 := Lib.hid hs4; clear hs4 hb4))
    all_goals (
      go_wp2
      go_ret2
      rw [HR2.out]
      exact ⟨A4, c4, rfl, HS4.out, HB.out.trans (HB4.out.mono HB.out.size)⟩)

set_option maxHeartbeats 1000000 in
theorem ver_any (b f : Int) (A : Option Addr) (c : Nat) (xs : List Int) (w : World) (hi : (Lit.int .u64 b).wf = true) (hi' : (Lit.int .u64 f).wf = true) (h : Vec .i32 w A c xs) :
    Calls Try.prog 11 #[.agg #[.int .u64 b, .int .u64 f, .slice A xs.length c]] w (GivesE w (verO b f xs) (verE b f xs)) := by
  obtain ⟨W, hW⟩ : ∃ W, W = w.alloc (.cells #[.int .u64 b, .int .u64 f, .slice A xs.length c] 27) := ⟨_, rfl⟩
  have hB : Below w.heap.size w W := by rw [hW]; exact (Below.refl _ w).alloc (Nat.le_refl _) _
  have HC := Lib.hid (checkVersion_any b f A c xs W (h.below hB))
  have HB := Lib.hid hB
  have HW := Lib.hid (show W.cell? ⟨w.heap.size, 0, none⟩ = some (.int .u64 b) ∧ W.cell? ⟨w.heap.size, 1, none⟩ = some (.int .u64 f) ∧ W.cell? ⟨w.heap.size, 2, none⟩ = some (.slice A xs.length c) by rw [hW]; exact ⟨cell_laid _ _ _ 0, cell_laid _ _ _ 1, cell_laid _ _ _ 2⟩)
  have HZ := Lib.hid (show W.heap.size = w.heap.size + 1 by rw [hW]; simp)
  have HX := Lib.hid h
  have HI := Lib.hid hi
  have HI2 := Lib.hid hi'
  have HR := Lib.hid (show verE b f xs = if verR b f xs = true then 0 else 171 from rfl)
  have HO := Lib.hid (show verO b f xs = if verR b f xs = true then verB b f xs else [] from rfl)
  generalize verE b f xs = R at *
  generalize verO b f xs = O at *
  have HW0 := Lib.hid hW
  rw [hW] at HC
  clear hi hi' hB hW
  cases hr : verR b f xs
  · rw [hr] at HR HO
    have HR2 := Lib.hid (show R = 171 by rw [HR.out]; rfl)
    have HO2 := Lib.hid (show O = [] by rw [HO.out]; rfl)
    rw [HR2.out] at HC
    generalize xs.length = n at *
    clear hr HR HO h HX
    go_enter Try.func11, Try.ntmps11
    go_wp2_with fail
    refine HC.out.mono ?_
    rw [← HW0.out]
    rintro e w1 ⟨rfl, hb1⟩
    have HB1 := Lib.hid (HB.out.trans (hb1.mono HB.out.size))
    clear hb1
    go_wp2
    go_ret2
    rw [HR2.out, HO2.out]
    exact ⟨none, 0, rfl, sl_nil _, HB1.out⟩
  · have hl := (right_len (xs := xs) (by unfold verR at hr; simp at hr; exact hr.1)).2
    have HL := Lib.hid (fun (V : World) (A3 : Option Addr) (c3 : Nat) (hV : Below w.heap.size w V) (hs : Sl V A3 c3 (numB b ++ numB f)) => layVec_any A3 A c3 c (numB b ++ numB f) xs V hs (h.below hV) (by unfold numB; rw [List.length_append, fld_length, fld_length]; omega))
    have HU := Lib.hid (fun (V : World) => layu_any none (some ⟨V.heap.size, 0, none⟩) 0 2 [] [b, f] (V.alloc (.cells #[.int .u64 b, .int .u64 f] 22)) (sl_nil _) (vec_two (cell_laid _ _ _ 0) (cell_laid _ _ _ 1) HI.out HI2.out) (by simp))
    rw [hr] at HR HO
    have HR2 := Lib.hid (show R = 0 by rw [HR.out]; rfl)
    have HO2 := Lib.hid (show O = (numB b ++ numB f) ++ vecB xs by rw [HO.out, List.append_assoc]; rfl)
    rw [HR2.out] at HC
    simp only [List.nil_append, List.length_nil, List.flatMap_cons, List.flatMap_nil, List.append_nil, List.length_cons, List.length_nil, Nat.zero_add, Nat.reduceAdd] at HU
    rw [← HO2.out] at HL
    generalize numB b ++ numB f = P at *
    generalize xs.length = n at *
    clear hr HR HO h HX hl
    go_enter Try.func11, Try.ntmps11
    go_wp2_with fail
    refine HC.out.mono ?_
    rw [← HW0.out]
    rintro e w1 ⟨rfl, hb1⟩
    have hz1 := hb1.size
    have hB1 := HB.out.trans (hb1.mono HB.out.size)
    have hBA : Below W.heap.size W (w1.drew.alloc (.cells #[.int .u64 b, .int .u64 f] 22)) := (below_drew hb1).alloc hz1 _
    have hk : ∀ V : World, Below W.heap.size W V → V.cell? ⟨w.heap.size, 0, none⟩ = some (.int .u64 b) ∧ V.cell? ⟨w.heap.size, 1, none⟩ = some (.int .u64 f) ∧ V.cell? ⟨w.heap.size, 2, none⟩ = some (.slice A n c) := fun V hV =>
      ⟨(hV.cell (p := ⟨w.heap.size, 0, none⟩) (by rw [HZ.out]; simp)).trans HW.out.1, (hV.cell (p := ⟨w.heap.size, 1, none⟩) (by rw [HZ.out]; simp)).trans HW.out.2.1, (hV.cell (p := ⟨w.heap.size, 2, none⟩) (by rw [HZ.out]; simp)).trans HW.out.2.2⟩
    have S0 := Lib.hid (hk _ (below_drew hb1))
    have SA := Lib.hid (hk _ hBA)
    have HK := Lib.hid hk
    have HBA := Lib.hid hBA
    have HU1 := Lib.hid (HU.out w1.drew)
    clear hb1 hz1 hB1 hBA hk HU
    go_wp2
    go_region_held3 (fun V => V.cell? ⟨w.heap.size, 0, none⟩ = some (.int .u64 b) ∧ V.cell? ⟨w.heap.size, 1, none⟩ = some (.int .u64 f) ∧ V.cell? ⟨w.heap.size, 2, none⟩ = some (.slice A n c)) (first | exact S0.out | exact SA.out | exact S3.out | exact S4.out) (first
      | (go_at_call 36; refine HU1.out.mono ?_; rintro e w3 ⟨A3, c3, rfl, hs3, hb3⟩; have HB3 := Lib.hid (HBA.out.trans (hb3.mono HBA.out.size)); have S3 := Lib.hid (HK.out w3 HB3.out); have HS3 := Lib.hid hs3; clear hs3 hb3)
      | (go_at_call 35; refine (HL.out w3 A3 c3 (HB.out.trans (HB3.out.mono HB.out.size)) HS3.out).mono ?_; rintro e w4 ⟨A4, c4, rfl, hs4, hb4⟩; have HB4 := Lib.hid (HB3.out.trans (hb4.mono HB3.out.size)); have S4 := Lib.hid (HK.out w4 HB4.out); have HS4 := Lib.hid hs4; clear hs4 hb4))
    all_goals (
      go_wp2
      go_ret2
      rw [HR2.out]
      exact ⟨A4, c4, rfl, HS4.out, HB.out.trans (HB4.out.mono HB.out.size)⟩)

end Go.Proofs.Ythbpnngfdpdjkaa
