/-
  What codec's lay and layVec do: fields of numbers behind bytes.
-/
import Derived.Test.YthbpnngfdpdjkaaFieldAsk
import Derived.Test.YthbpnngfdpdjkaaFieldMath
import Derived.Test.YthbpnngfdpdjkaaVecRef
namespace Go.Proofs.Ythbpnngfdpdjkaa
open Go.RowKit Go.Shelf
set_option linter.unusedVariables false
set_option linter.unusedSimpArgs false
set_option maxRecDepth 100000

/-- A call that answers bytes. -/
def GivesL (w : World) (bs : List Int) (e : Ending) (w' : World) : Prop := ∃ A c, e = .returned (.slice A bs.length c) ∧ Sl w' A c bs ∧ Below w.heap.size w w'

theorem flat_le (f : Int → List Int) (h : ∀ x, (f x).length ≤ 8) (l : List Int) : (l.flatMap f).length ≤ 8 * l.length := by
  induction l with
  | nil => simp
  | cons x l ih => have := h x; simp only [List.flatMap_cons, List.length_append, List.length_cons]; omega

/-- The field of a component. -/
def compB (x : Int) : List Int := fld 4 (unsg x)
def numB (x : Int) : List Int := fld 8 x
def oneB (x : Int) : List Int := fld 1 (unsg x)

theorem fldOf8 (x : Int) : fldOf 8 x = fld 8 x := fldOf_yes (m := 8) x (by omega) (by omega)
theorem fldOf4 (x : Int) : fldOf 4 x = fld 4 x := fldOf_yes (m := 4) x (by omega) (by omega)
theorem fldOf1 (x : Int) : fldOf 1 x = fld 1 x := fldOf_yes (m := 1) x (by omega) (by omega)
theorem layu_fit {x : Int} (h : (Lit.int .u64 x).wf = true) : 0 ≤ x ∧ x < 18446744073709551616 := by
  simp [Lit.wf, IntKind.min, IntKind.max, IntKind.signed, IntKind.bits] at h; omega
theorem layc_fit {x : Int} (h : (Lit.int .i32 x).wf = true) : -2147483648 ≤ x ∧ x < 2147483648 := by
  simp [Lit.wf, IntKind.min, IntKind.max, IntKind.signed, IntKind.bits] at h; omega
theorem layi_fit {x : Int} (h : (Lit.int .i64 x).wf = true) : -9223372036854775808 ≤ x ∧ x < 9223372036854775808 := by
  simp [Lit.wf, IntKind.min, IntKind.max, IntKind.signed, IntKind.bits] at h; omega
theorem layu_one {x : Int} (h : (Lit.int .u64 x).wf = true) : numB x = fldOf 8 (unsg (wrap64 x)) := by
  have h1 := layu_fit h
  rw [fldOf8, unsg_eq]
  unfold numB wrap64
  congr 1
  omega
theorem layc_one {x : Int} (h : (Lit.int .i32 x).wf = true) : compB x = fldOf 4 (unsg x) := by rw [fldOf4]; rfl
theorem layi_one {x : Int} (h : (Lit.int .i64 x).wf = true) : oneB x = fldOf 1 (unsg x) := by rw [fldOf1]; rfl

set_option maxHeartbeats 400000 in
theorem layu_any (A A' : Option Addr) (c c' : Nat) (bs xs : List Int) (w : World) (hb : Sl w A c bs) (hx : Vec .u64 w A' c' xs) (hbig : bs.length + 8 * xs.length ≤ 1000000) :
    Calls Try.prog 36 #[.slice A bs.length c, .int .i64 8, .slice A' xs.length c'] w (GivesL w (bs ++ xs.flatMap numB)) := by
  obtain ⟨n, hn⟩ : ∃ n, n = xs.length := ⟨_, rfl⟩
  have hmx : n ≤ 9223372036854775807 := by rw [hn]; exact Nat.le_trans hx.room hx.most
  rw [← hn]
  obtain ⟨l, hl⟩ : ∃ l, l = bs.length := ⟨_, rfl⟩
  rw [← hl]
  have HX := Lib.hid hx
  have HS0 := Lib.hid hb
  have HN := Lib.hid hn
  have HL := Lib.hid hl
  have HG := Lib.hid hbig
  clear hx hb hn hl hbig
  go_enter Try.func36, Try.ntmps36
  go_wp2
  go_loopw [0, 11] (fun v i wr => ∃ (k : Nat) (A1 : Option Addr) (c1 L : Nat), k ≤ n ∧ i = .int .i64 k ∧ v = .slice A1 L c1 ∧ Hid (L = (bs ++ (xs.take k).flatMap numB).length) ∧ Hid (Sl wr A1 c1 (bs ++ (xs.take k).flatMap numB)) ∧ Hid (Below w.heap.size w wr)) (fun _ i _ => n - (intOf i).toNat)
  case atStart => exact ⟨0, A, c, l, Nat.zero_le _, rfl, rfl, Lib.hid (by simp [HL.out]), Lib.hid (by simpa using HS0.out), Lib.hid (Below.refl _ _)⟩
  case round =>
    obtain ⟨k, A1, c1, L, hk, rfl, rfl, HLL, HS, HB⟩ := hrel
    by_cases hkn : k < n
    · obtain ⟨b, o, rfl, hb, hc⟩ := (HX.out.below HB.out).at_ (j := k) (by rw [← HN.out]; exact hkn)
      have hx : xs[k]? = some (xs.getD k 0) := by rw [List.getD_eq_getElem?_getD, List.getElem?_eq_getElem (by rw [← HN.out]; exact hkn)]; rfl
      have hfit := HX.out.fit (xs.getD k 0) (List.mem_of_getElem? hx)
      generalize xs.getD k 0 = x at *
      obtain ⟨P, hP⟩ : ∃ P, P = bs ++ (xs.take k).flatMap numB := ⟨_, rfl⟩
      rw [← hP] at HLL HS
      have hlen : P.length + 8 ≤ 140737488355328 := by
        have h1 : ((xs.take k).flatMap numB).length ≤ 8 * (xs.take k).length := flat_le _ (by intro x; unfold numB; rw [fld_length]; omega) _
        have h2 := HG.out
        have h3 : (xs.take k).length ≤ xs.length := by simp; omega
        rw [hP, List.length_append]; omega
      have HE := Lib.hid (show bs ++ (xs.take (k + 1)).flatMap numB = P ++ fldOf 8 (unsg (wrap64 x)) by rw [List.take_add_one, hx, List.flatMap_append, ← List.append_assoc, ← hP]; simp only [Option.toList, List.flatMap_cons, List.flatMap_nil, List.append_nil]; rw [layu_one hfit])
      obtain ⟨hf1, hf2⟩ := layu_fit hfit
      have HF := Lib.hid hfit
      have HC := Lib.hid hlen
      clear hx hfit hP hlen
      go_wp2_with fail
      rw [HLL.out]
      refine (lay_b A1 c1 P 8 (wrap64 x) wr HS.out HC.out).mono ?_
      rintro e w1 ⟨A2, c2, rfl, hnew, hb1⟩
      have HS2 := Lib.hid hnew.sl
      have HB2 := Lib.hid (HB.out.trans (hb1.mono HB.out.size))
      clear hnew hb1
      go_wp2
      go_roundw
      case rel => exact ⟨k + 1, A2, c2, _, by omega, by go_num, rfl, Lib.hid (by rw [HE.out, List.length_append]), Lib.hid (by rw [HE.out]; exact HS2.out), HB2⟩
      case measure => simp [intOf]; omega
    · obtain rfl : k = n := by omega
      have HT := Lib.hid (show xs.take k = xs by rw [HN.out, List.take_length])
      go_wp2
      go_ret
      rw [HLL.out]
      rw [HT.out] at HS ⊢
      exact ⟨A1, c1, rfl, HS.out, HB.out⟩

set_option maxHeartbeats 400000 in
theorem layc_any (A A' : Option Addr) (c c' : Nat) (bs xs : List Int) (w : World) (hb : Sl w A c bs) (hx : Vec .i32 w A' c' xs) (hbig : bs.length + 8 * xs.length ≤ 1000000) :
    Calls Try.prog 51 #[.slice A bs.length c, .int .i64 4, .slice A' xs.length c'] w (GivesL w (bs ++ xs.flatMap compB)) := by
  obtain ⟨n, hn⟩ : ∃ n, n = xs.length := ⟨_, rfl⟩
  have hmx : n ≤ 9223372036854775807 := by rw [hn]; exact Nat.le_trans hx.room hx.most
  rw [← hn]
  obtain ⟨l, hl⟩ : ∃ l, l = bs.length := ⟨_, rfl⟩
  rw [← hl]
  have HX := Lib.hid hx
  have HS0 := Lib.hid hb
  have HN := Lib.hid hn
  have HL := Lib.hid hl
  have HG := Lib.hid hbig
  clear hx hb hn hl hbig
  go_enter Try.func51, Try.ntmps51
  go_wp2
  go_loopw [0, 11] (fun v i wr => ∃ (k : Nat) (A1 : Option Addr) (c1 L : Nat), k ≤ n ∧ i = .int .i64 k ∧ v = .slice A1 L c1 ∧ Hid (L = (bs ++ (xs.take k).flatMap compB).length) ∧ Hid (Sl wr A1 c1 (bs ++ (xs.take k).flatMap compB)) ∧ Hid (Below w.heap.size w wr)) (fun _ i _ => n - (intOf i).toNat)
  case atStart => exact ⟨0, A, c, l, Nat.zero_le _, rfl, rfl, Lib.hid (by simp [HL.out]), Lib.hid (by simpa using HS0.out), Lib.hid (Below.refl _ _)⟩
  case round =>
    obtain ⟨k, A1, c1, L, hk, rfl, rfl, HLL, HS, HB⟩ := hrel
    by_cases hkn : k < n
    · obtain ⟨b, o, rfl, hb, hc⟩ := (HX.out.below HB.out).at_ (j := k) (by rw [← HN.out]; exact hkn)
      have hx : xs[k]? = some (xs.getD k 0) := by rw [List.getD_eq_getElem?_getD, List.getElem?_eq_getElem (by rw [← HN.out]; exact hkn)]; rfl
      have hfit := HX.out.fit (xs.getD k 0) (List.mem_of_getElem? hx)
      generalize xs.getD k 0 = x at *
      obtain ⟨P, hP⟩ : ∃ P, P = bs ++ (xs.take k).flatMap compB := ⟨_, rfl⟩
      rw [← hP] at HLL HS
      have hlen : P.length + 8 ≤ 140737488355328 := by
        have h1 : ((xs.take k).flatMap compB).length ≤ 8 * (xs.take k).length := flat_le _ (by intro x; unfold compB; rw [fld_length]; omega) _
        have h2 := HG.out
        have h3 : (xs.take k).length ≤ xs.length := by simp; omega
        rw [hP, List.length_append]; omega
      have HE := Lib.hid (show bs ++ (xs.take (k + 1)).flatMap compB = P ++ fldOf 4 (unsg (x)) by rw [List.take_add_one, hx, List.flatMap_append, ← List.append_assoc, ← hP]; simp only [Option.toList, List.flatMap_cons, List.flatMap_nil, List.append_nil]; rw [layc_one hfit])
      obtain ⟨hf1, hf2⟩ := layc_fit hfit
      have HF := Lib.hid hfit
      have HC := Lib.hid hlen
      clear hx hfit hP hlen
      go_wp2_with fail
      rw [HLL.out]
      refine (lay_b A1 c1 P 4 (x) wr HS.out HC.out).mono ?_
      rintro e w1 ⟨A2, c2, rfl, hnew, hb1⟩
      have HS2 := Lib.hid hnew.sl
      have HB2 := Lib.hid (HB.out.trans (hb1.mono HB.out.size))
      clear hnew hb1
      go_wp2
      go_roundw
      case rel => exact ⟨k + 1, A2, c2, _, by omega, by go_num, rfl, Lib.hid (by rw [HE.out, List.length_append]), Lib.hid (by rw [HE.out]; exact HS2.out), HB2⟩
      case measure => simp [intOf]; omega
    · obtain rfl : k = n := by omega
      have HT := Lib.hid (show xs.take k = xs by rw [HN.out, List.take_length])
      go_wp2
      go_ret
      rw [HLL.out]
      rw [HT.out] at HS ⊢
      exact ⟨A1, c1, rfl, HS.out, HB.out⟩

set_option maxHeartbeats 400000 in
theorem layi_any (A A' : Option Addr) (c c' : Nat) (bs xs : List Int) (w : World) (hb : Sl w A c bs) (hx : Vec .i64 w A' c' xs) (hbig : bs.length + 8 * xs.length ≤ 1000000) :
    Calls Try.prog 52 #[.slice A bs.length c, .int .i64 1, .slice A' xs.length c'] w (GivesL w (bs ++ xs.flatMap oneB)) := by
  obtain ⟨n, hn⟩ : ∃ n, n = xs.length := ⟨_, rfl⟩
  have hmx : n ≤ 9223372036854775807 := by rw [hn]; exact Nat.le_trans hx.room hx.most
  rw [← hn]
  obtain ⟨l, hl⟩ : ∃ l, l = bs.length := ⟨_, rfl⟩
  rw [← hl]
  have HX := Lib.hid hx
  have HS0 := Lib.hid hb
  have HN := Lib.hid hn
  have HL := Lib.hid hl
  have HG := Lib.hid hbig
  clear hx hb hn hl hbig
  go_enter Try.func52, Try.ntmps52
  go_wp2
  go_loopw [0, 11] (fun v i wr => ∃ (k : Nat) (A1 : Option Addr) (c1 L : Nat), k ≤ n ∧ i = .int .i64 k ∧ v = .slice A1 L c1 ∧ Hid (L = (bs ++ (xs.take k).flatMap oneB).length) ∧ Hid (Sl wr A1 c1 (bs ++ (xs.take k).flatMap oneB)) ∧ Hid (Below w.heap.size w wr)) (fun _ i _ => n - (intOf i).toNat)
  case atStart => exact ⟨0, A, c, l, Nat.zero_le _, rfl, rfl, Lib.hid (by simp [HL.out]), Lib.hid (by simpa using HS0.out), Lib.hid (Below.refl _ _)⟩
  case round =>
    obtain ⟨k, A1, c1, L, hk, rfl, rfl, HLL, HS, HB⟩ := hrel
    by_cases hkn : k < n
    · obtain ⟨b, o, rfl, hb, hc⟩ := (HX.out.below HB.out).at_ (j := k) (by rw [← HN.out]; exact hkn)
      have hx : xs[k]? = some (xs.getD k 0) := by rw [List.getD_eq_getElem?_getD, List.getElem?_eq_getElem (by rw [← HN.out]; exact hkn)]; rfl
      have hfit := HX.out.fit (xs.getD k 0) (List.mem_of_getElem? hx)
      generalize xs.getD k 0 = x at *
      obtain ⟨P, hP⟩ : ∃ P, P = bs ++ (xs.take k).flatMap oneB := ⟨_, rfl⟩
      rw [← hP] at HLL HS
      have hlen : P.length + 8 ≤ 140737488355328 := by
        have h1 : ((xs.take k).flatMap oneB).length ≤ 8 * (xs.take k).length := flat_le _ (by intro x; unfold oneB; rw [fld_length]; omega) _
        have h2 := HG.out
        have h3 : (xs.take k).length ≤ xs.length := by simp; omega
        rw [hP, List.length_append]; omega
      have HE := Lib.hid (show bs ++ (xs.take (k + 1)).flatMap oneB = P ++ fldOf 1 (unsg (x)) by rw [List.take_add_one, hx, List.flatMap_append, ← List.append_assoc, ← hP]; simp only [Option.toList, List.flatMap_cons, List.flatMap_nil, List.append_nil]; rw [layi_one hfit])
      obtain ⟨hf1, hf2⟩ := layi_fit hfit
      have HF := Lib.hid hfit
      have HC := Lib.hid hlen
      clear hx hfit hP hlen
      go_wp2_with fail
      rw [HLL.out]
      refine (lay_b A1 c1 P 1 (x) wr HS.out HC.out).mono ?_
      rintro e w1 ⟨A2, c2, rfl, hnew, hb1⟩
      have HS2 := Lib.hid hnew.sl
      have HB2 := Lib.hid (HB.out.trans (hb1.mono HB.out.size))
      clear hnew hb1
      go_wp2
      go_roundw
      case rel => exact ⟨k + 1, A2, c2, _, by omega, by go_num, rfl, Lib.hid (by rw [HE.out, List.length_append]), Lib.hid (by rw [HE.out]; exact HS2.out), HB2⟩
      case measure => simp [intOf]; omega
    · obtain rfl : k = n := by omega
      have HT := Lib.hid (show xs.take k = xs by rw [HN.out, List.take_length])
      go_wp2
      go_ret
      rw [HLL.out]
      rw [HT.out] at HS ⊢
      exact ⟨A1, c1, rfl, HS.out, HB.out⟩

/-- The bytes of a vector, a row, a version. -/
def vecB (xs : List Int) : List Int := oneB xs.length ++ xs.flatMap compB
def rowB (id : Int) (xs : List Int) : List Int := numB id ++ vecB xs
def verB (b e : Int) (xs : List Int) : List Int := numB b ++ (numB e ++ vecB xs)

theorem sl_nil (w : World) : Sl w none 0 [] := ⟨by simp, by omega, Rd.empty⟩
theorem vec_one {k : IntKind} {w : World} {g : Nat} {x : Int} (hc : w.cell? ⟨g, 0, none⟩ = some (.int k x)) (hf : (Lit.int k x).wf = true) : Vec k w (some ⟨g, 0, none⟩) 1 [x] :=
  ⟨by simp, by omega, fun _ => ⟨g, 0, rfl, World.block_lt_of_cell? w _ hc, fun j hj => by obtain rfl : j = 0 := by simpa using hj
                                                                                          simpa using hc⟩, by simpa using hf⟩
theorem vec_two {k : IntKind} {w : World} {g : Nat} {x y : Int} (hc : w.cell? ⟨g, 0, none⟩ = some (.int k x)) (hc' : w.cell? ⟨g, 1, none⟩ = some (.int k y)) (hf : (Lit.int k x).wf = true) (hf' : (Lit.int k y).wf = true) : Vec k w (some ⟨g, 0, none⟩) 2 [x, y] :=
  ⟨by simp, by omega, fun _ => ⟨g, 0, rfl, World.block_lt_of_cell? w _ hc, fun j hj => by
    match j, hj with
    | 0, _ => simpa using hc
    | 1, _ => simpa using hc'⟩, by simp [hf, hf']⟩
theorem len_fit {n : Nat} (h : n ≤ 9223372036854775807) : (Lit.int .i64 (n : Int)).wf = true := by
  simp [Lit.wf, IntKind.min, IntKind.max, IntKind.signed, IntKind.bits]; omega

set_option maxHeartbeats 400000 in
theorem layVec_any (A A' : Option Addr) (c c' : Nat) (bs xs : List Int) (w : World) (hb : Sl w A c bs) (hx : Vec .i32 w A' c' xs) (hbig : bs.length + 8 * xs.length ≤ 900000) :
    Calls Try.prog 35 #[.slice A bs.length c, .slice A' xs.length c'] w (GivesL w (bs ++ vecB xs)) := by
  have hmx : xs.length ≤ 9223372036854775807 := Nat.le_trans hx.room hx.most
  obtain ⟨W, hW⟩ : ∃ W, W = w.alloc (.cells #[.int .i64 xs.length] 3) := ⟨_, rfl⟩
  have hbw : Below w.heap.size w W := by rw [hW]; exact (Below.refl _ w).alloc (Nat.le_refl _) _
  have h1 : Vec .i64 W (some ⟨w.heap.size, 0, none⟩) 1 [(xs.length : Int)] := vec_one (by rw [hW]; exact cell_laid _ _ _ 0) (len_fit hmx)
  have HE1 := Lib.hid (layi_any A (some ⟨w.heap.size, 0, none⟩) c 1 bs [(xs.length : Int)] W (hb.below hbw) h1 (by simp; omega))
  have HB := Lib.hid hbw
  have HX := Lib.hid hx
  have HV := Lib.hid (show bs ++ vecB xs = (bs ++ [(xs.length : Int)].flatMap oneB) ++ xs.flatMap compB by simp [vecB])
  have HG := Lib.hid (show (bs ++ [(xs.length : Int)].flatMap oneB).length + 8 * xs.length ≤ 1000000 by simp [oneB, fld_length]; omega)
  generalize vecB xs = V at *
  generalize bs ++ [(xs.length : Int)].flatMap oneB = P at *
  simp only [List.length_singleton] at HE1
  rw [hW] at HE1 HB
  clear hb hx hbw h1 hW hbig
  obtain ⟨n, hn⟩ : ∃ n, n = xs.length := ⟨_, rfl⟩
  have HN := Lib.hid hn
  rw [← hn] at HE1 HB ⊢
  clear hn
  go_enter Try.func35, Try.ntmps35
  go_wp2_with fail
  refine HE1.out.mono ?_
  rintro e w1 ⟨A1, c1, rfl, hs1, hb1⟩
  have HB1 := Lib.hid (HB.out.trans (hb1.mono HB.out.size))
  have HS1 := Lib.hid hs1
  clear hb1 hs1
  go_wp2_with fail
  rw [HN.out]
  refine (layc_any A1 A' c1 c' P xs w1 HS1.out (HX.out.below HB1.out) HG.out).mono ?_
  rintro e w2 ⟨A2, c2, rfl, hs2, hb2⟩
  have HB2 := Lib.hid (HB1.out.trans (hb2.mono HB1.out.size))
  rw [← HV.out] at hs2 ⊢
  generalize bs ++ V = Q at *
  have HS2 := Lib.hid hs2
  clear hb2 hs2
  go_wp2
  go_ret
  exact ⟨A2, c2, rfl, HS2.out, HB2.out⟩

end Go.Proofs.Ythbpnngfdpdjkaa
