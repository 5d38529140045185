/-
  Proved: the law VecMeans, the mean may be, is between the least and the greatest of each component, and the same in whatever order; of one vector it is that, returns true for every row of vectors, and leaves all memory as it was. No condition.
-/
import Derived.Test.YtdfpiipnpaknaaaLawVecNears
namespace Go.Proofs.Ytdfpiipnpaknaaa.vecMeans
open Go.ChangeShapes Go.WideShapes Go.ChangeAt Go.RowKit
open vecNears (infoVec vecs_own rows_cells over_len)
set_option linter.unusedVariables false
set_option maxRecDepth 100000

theorem sum_reverse (l : List Int) : l.reverse.sum = l.sum := by
  induction l with
  | nil => rfl
  | cons x l ih => rw [List.reverse_cons, List.sum_append, ih, List.sum_cons]; simp; omega
theorem col_reverse (l : List (List Int)) (i : Nat) : colM l.reverse i = colM l i := by unfold colM; rw [List.map_reverse, sum_reverse]
theorem mean_parts {l : List (List Int)} (h : meanE l = 0) : 0 < l.length ∧ refuseM (l.getD 0 []).length l = 0 := by
  unfold meanE at h
  split at h
  · omega
  · exact ⟨by omega, h⟩
theorem first_len {l : List (List Int)} (h : meanE l = 0) {x : List Int} (hx : x ∈ l) : right x = true ∧ x.length = (l.getD 0 []).length := by
  have := refuse_ok (mean_parts h).2 x hx
  exact ⟨this.1, by omega⟩
theorem rev_first {l : List (List Int)} (h : meanE l = 0) : (l.reverse.getD 0 []).length = (l.getD 0 []).length := by
  have h0 := (mean_parts h).1
  have hm : l.reverse.getD 0 [] ∈ l := by
    have hr : 0 < l.reverse.length := by simpa using h0
    have e : l.reverse.getD 0 [] = l.reverse[0]'hr := by simp only [List.getD, List.getElem?_eq_getElem hr, Option.getD_some]
    rw [e]
    exact List.mem_reverse.1 (List.getElem_mem _)
  exact (first_len h hm).2
theorem rev_ok {l : List (List Int)} (h : meanE l = 0) : meanE l.reverse = 0 := by
  have h0 := (mean_parts h).1
  unfold meanE
  rw [if_neg (by simp; intro e; rw [e] at h0; simp at h0)]
  unfold refuseM
  have e1 : l.reverse.all right = true := by rw [List.all_eq_true]; exact fun x hx => (first_len h (List.mem_reverse.1 hx)).1
  have e2 : l.reverse.all (fun x => decide ((x.length : Int) = ((l.reverse.getD 0 []).length : Nat))) = true := by
    rw [List.all_eq_true]
    intro x hx
    have := (first_len h (List.mem_reverse.1 hx)).2
    rw [rev_first h, decide_eq_true_eq]
    omega
  rw [e1, e2]; rfl
theorem rev_mean {l : List (List Int)} (h : meanE l = 0) : meanM l.reverse = meanM l := by
  unfold meanM
  rw [rev_first h, List.length_reverse]
  exact List.map_congr_left (fun i _ => by rw [col_reverse])
theorem one_ok {x : List Int} (h : right x = true) : meanE [x] = 0 ∧ meanM [x] = x := by
  constructor
  · unfold meanE refuseM
    simp [h]
  · unfold meanM colM
    simp only [List.getD_cons_zero, List.map_cons, List.map_nil, List.sum_cons, List.sum_nil, List.length_cons, List.length_nil]
    apply List.ext_getElem?
    intro i
    by_cases hi : i < x.length
    · simp [hi]
    · rw [List.getElem?_eq_none (by simpa using Nat.le_of_not_lt hi), List.getElem?_eq_none (by omega)]
theorem mean_right {l : List (List Int)} (h : meanE l = 0) : right (meanM l) = true := by
  have h0 := (mean_parts h).1
  have hl : (meanM l).length = (l.getD 0 []).length := by unfold meanM; simp
  have hm : l.getD 0 [] ∈ l := by
    have : l.getD 0 [] = l[0]'h0 := by simp only [List.getD, List.getElem?_eq_getElem h0, Option.getD_some]
    rw [this]
    exact List.getElem_mem _
  have hr := right_len (first_len h hm).1
  unfold right
  rw [hl]
  simp only [Bool.and_eq_true, decide_eq_true_eq, List.all_eq_true]
  refine ⟨⟨hr.1, hr.2⟩, fun z hz => ?_⟩
  unfold meanM at hz
  obtain ⟨i, _, rfl⟩ := List.mem_map.1 hz
  have := col_mean l i (fun x hx => (first_len h hx).1) h0
  unfold comp
  simp
  omega
theorem col_between (l : List (List Int)) (i : Nat) (lo hi : Int) (h0 : 0 < l.length) (h : ∀ x ∈ l, lo ≤ x.getD i 0 ∧ x.getD i 0 ≤ hi) : lo ≤ colM l i / (l.length : Int) ∧ colM l i / (l.length : Int) ≤ hi := by
  have key : lo * (l.length : Int) ≤ colM l i ∧ colM l i ≤ hi * (l.length : Int) := by
    clear h0
    induction l with
    | nil => simp [colM]
    | cons x l ih =>
      have h1 := ih (fun y hy => h y (by simp [hy]))
      have h2 := h x (by simp)
      have e : colM (x :: l) i = x.getD i 0 + colM l i := by simp [colM]
      rw [e, List.length_cons]
      have e1 : lo * ((l.length + 1 : Nat) : Int) = lo * (l.length : Int) + lo := by rw [Int.natCast_add, Int.mul_add]; simp
      have e2 : hi * ((l.length + 1 : Nat) : Int) = hi * (l.length : Int) + hi := by rw [Int.natCast_add, Int.mul_add]; simp
      rw [e1, e2]
      omega
  have hp : (0 : Int) < (l.length : Int) := by omega
  refine ⟨(Int.le_ediv_iff_mul_le hp).2 key.1, ?_⟩
  have h3 : colM l i < (hi + 1) * (l.length : Int) := by
    have : (hi + 1) * (l.length : Int) = hi * (l.length : Int) + (l.length : Int) := by rw [Int.add_mul, Int.one_mul]
    omega
  have := (Int.ediv_lt_iff_lt_mul hp).2 h3
  omega

theorem walk_over {w : World} (A : Option Addr) (c : Nat) (l : List (List Int)) (hl : Vecs .i32 w A c l) (ho : overM l = true) :
    Calls Try.prog 8 #[.slice A l.length c] w fun e w' => e = .returned (.bool true) ∧ Below w.heap.size w w' := by
  have HO := Lib.hid (fun (V : World) (hV : Below w.heap.size w V) => over_any A c l V (hl.below hV))
  rw [ho] at HO
  generalize l.length = n at *
  clear hl ho
  go_enter Try.func8, Try.ntmps8
  go_wp2_with fail
  refine (wakes_any w).mono ?_
  rintro e w1 ⟨rfl, hb1⟩
  have HB1 := Lib.hid hb1
  clear hb1
  go_wp2_with fail
  refine (HO.out _ HB1.out).mono ?_
  rintro e w' ⟨rfl, rfl⟩
  go_wp2
  go_ret
  exact ⟨rfl, HB1.out⟩

theorem walk_bad {w : World} (A : Option Addr) (c : Nat) (l : List (List Int)) (hl : Vecs .i32 w A c l) (ho : overM l = false) (hE : meanE l ≠ 0) :
    Calls Try.prog 8 #[.slice A l.length c] w fun e w' => e = .returned (.bool true) ∧ Below w.heap.size w w' := by
  have HO := Lib.hid (fun (V : World) (hV : Below w.heap.size w V) => over_any A c l V (hl.below hV))
  rw [ho] at HO
  have HM := Lib.hid (fun (V : World) (hV : Below w.heap.size w V) => (mean_any A c l V (hl.below hV) (by have := over_len ho; omega)).mono (R' := fun e w' => e = .returned (.tuple #[.slice none 0 0, .int .i64 (meanE l)]) ∧ Below V.heap.size V w') (fun e w' h => by
    obtain ⟨g1, _, g3⟩ := h
    exact ⟨g1 hE, g3⟩))
  generalize meanE l = E at *
  have t5 : (E == 0) = false := by simpa using hE
  have t6 : (E != 0) = true := by simpa using hE
  generalize l.length = n at *
  clear hl ho hE
  go_enter Try.func8, Try.ntmps8
  go_wp2_with fail
  refine (wakes_any w).mono ?_
  rintro e w1 ⟨rfl, hb1⟩
  have HB1 := Lib.hid hb1
  clear hb1
  go_wp2_with fail
  refine (HO.out _ HB1.out).mono ?_
  rintro e w' ⟨rfl, rfl⟩
  go_wp2_with fail
  refine (HM.out _ HB1.out).mono ?_
  rintro e w2 ⟨rfl, hb2⟩
  have HB2 := Lib.hid (HB1.out.trans (hb2.mono HB1.out.size))
  clear hb2
  go_wp2
  go_ret
  exact ⟨by simp, HB2.out⟩

/-- A mean that is one. -/
def Good (V : World) (d : Nat) (M : List Int) (e : Ending) (w' : World) : Prop := (∃ A c, e = .returned (.tuple #[.slice A d c, .int .i64 0]) ∧ Vec .i32 w' A c M) ∧ Below V.heap.size V w'
theorem good_of {V : World} {d : Nat} {l : List (List Int)} (hE : meanE l = 0) (hd : (meanM l).length = d) (e : Ending) (w' : World) (h : GivesM V l e w') : Good V d (meanM l) e w' := by
  subst hd
  obtain ⟨A, c, h1, h2⟩ := h.2.1 hE
  exact ⟨⟨A, c, h1, h2.1⟩, h.2.2⟩

set_option maxHeartbeats 4000000 in
theorem walk_ok {w : World} (A : Option Addr) (c : Nat) (l : List (List Int)) (hl : Vecs .i32 w A c l) (ho : overM l = false) (hE : meanE l = 0) :
    Calls Try.prog 8 #[.slice A l.length c] w fun e w' => e = .returned (.bool true) ∧ Below w.heap.size w w' := by
  obtain ⟨i0, hi, hz0, hz1, hz2⟩ := info_parts infoVec
  have HO := Lib.hid (fun (V : World) (hV : Below w.heap.size w V) => over_any A c l V (hl.below hV))
  rw [ho] at HO
  have hnl : l.length ≤ 80 := over_len ho
  have hp := (mean_parts hE).1
  obtain ⟨b, o, vs, rfl, hblt, hvl, hvc, hvx⟩ := rows_cells hl hp
  obtain ⟨_, _, x0, B0, cb0, he, hx0, _, hc0, hv0⟩ := hl.at_ (i := 0) hp
  injection he with he
  injection he with he1 he2
  subst he1
  subst he2
  have hl0 : l.getD 0 [] = x0 := by simp only [List.getD, hx0, Option.getD_some]
  have hm0 : x0 ∈ l := List.mem_of_getElem? hx0
  have hr0 := (first_len hE hm0).1
  have htk : l.take 1 = [x0] := by rw [List.take_add_one, hx0]; rfl
  have hml : (meanM l).length = x0.length := by unfold meanM; rw [hl0]; simp
  have HM := Lib.hid (fun (V : World) (hV : Below w.heap.size w V) => (mean_any (some ⟨b, o, none⟩) c l V (hl.below hV) (by omega)).mono (R' := Good V x0.length (meanM l)) (good_of hE hml))
  have HBK := Lib.hid (fun (base : Nat) (V : World) (v' : Value) (hV : Below w.heap.size w V) (h : V.ownsRow base 22 1 v' l.length vs.reverse) => show ∃ X cx, v' = .slice X l.length cx ∧ Calls Try.prog 19 #[.slice X l.length cx] V (Good V x0.length (meanM l)) from by
    obtain ⟨X, cx, e, hv⟩ := vecs_own (l := l.reverse) h (by simp) (fun i x hx => by
      have hir : i < l.length := by have := (List.getElem?_eq_some_iff.1 hx).1; simpa using this
      rw [List.getElem?_reverse hir] at hx
      obtain ⟨B, cb, h1, h2⟩ := hvx _ x hx
      exact ⟨B, cb, by rw [List.getElem?_reverse (by omega), hvl]; exact h1, h2.below hV⟩)
    rw [List.length_reverse] at e
    refine ⟨X, cx, e, ?_⟩
    have hm := (mean_any X cx l.reverse V hv (by simp; omega)).mono (R' := Good V x0.length (meanM l.reverse)) (good_of (rev_ok hE) (by rw [rev_mean hE]; exact hml))
    rw [rev_mean hE, List.length_reverse] at hm
    exact hm)
  have HONE := Lib.hid (fun (V : World) (hV : Below w.heap.size w V) => show Calls Try.prog 19 #[.slice (some ⟨b, o, none⟩) 1 c] V (Good V x0.length x0) from by
    have h := (hl.below hV).take 1
    rw [htk] at h
    have hm := (mean_any (some ⟨b, o, none⟩) c [x0] V h (by simp)).mono (R' := Good V x0.length (meanM [x0])) (good_of (one_ok hr0).1 (by rw [(one_ok hr0).2]))
    rw [(one_ok hr0).2] at hm
    exact hm)
  have HSAME := Lib.hid (fun (V : World) (M : List Int) (X Y : Option Addr) (cx cy d : Nat) (hd : M.length = d) (h1 : Vec .i32 V X cx M) (h2 : Vec .i32 V Y cy M) => show Calls Try.prog 13 #[.slice X d cx, .slice Y d cy] V (fun e w' => e = .returned (.bool true) ∧ Below V.heap.size V w') from by
    subst hd
    have h := same_any X Y cx cy M M V h1 h2
    rw [decide_eq_true rfl] at h
    exact h)
  have HCHK := Lib.hid (fun (V : World) (X : Option Addr) (cx : Nat) (h1 : Vec .i32 V X cx (meanM l)) => show Calls Try.prog 11 #[.slice X x0.length cx] V (fun e w' => e = .returned (.int .i64 0) ∧ Below V.heap.size V w') from by
    rw [← hml]
    have h := check_any X cx (meanM l) V h1
    have e0 : checkM (meanM l) = 0 := by
      unfold checkM refuseM
      simp [mean_right hE]
    rw [e0] at h
    exact h)
  have HML := Lib.hid hml
  have HMG := Lib.hid (fun i (hi : i < x0.length) => show (meanM l).getD i 0 = colM l i / (l.length : Int) by unfold meanM; rw [hl0]; simp [List.getD, hi])
  have HBT := Lib.hid (fun i lo hi' => col_between l i lo hi' hp)
  have HROW := Lib.hid (fun (i : Nat) x (hx : l[i]? = some x) => show x.length = x0.length by have := (first_len hE (List.mem_of_getElem? hx)).2; rw [hl0] at this; exact this)
  have HVX := Lib.hid hvx
  have HVC := Lib.hid hvc
  have HVL := Lib.hid hvl
  have HV0 := Lib.hid hv0
  have HMEM := Lib.hid (fun x (hx : x ∈ l) => List.getElem?_of_mem hx)
  rw [Nat.add_zero] at hc0
  have hd4 := right_len hr0
  obtain ⟨M, hM⟩ : ∃ M, M = meanM l := ⟨_, rfl⟩
  rw [← hM] at HM HBK HCHK HML HMG
  obtain ⟨d, hd⟩ : ∃ d, d = x0.length := ⟨_, rfl⟩
  have HD := Lib.hid hd
  rw [← hd] at hc0 hd4 HML HMG HROW HM HBK HONE HCHK
  have HC0 := Lib.hid (fun (V : World) (hV : Below w.heap.size w V) => (hV.cell (p := ⟨b, o, none⟩) hblt).trans hc0)
  obtain ⟨n, hn⟩ : ∃ n, n = l.length := ⟨_, rfl⟩
  have HN := Lib.hid hn
  have hroom := hl.room
  have hmost := hl.most
  rw [← hn] at hroom hnl HO HM HBK HVL HBT HMG hp ⊢
  have t1 : (1 : Int) ≤ (c : Int) := by omega
  have t2 : 1 ≤ c := by omega
  have t3 : decide (1 ≤ c) = true := by simp; omega
  clear hml hl ho hE hvl hvc hvx hx0 hv0 hl0 hm0 hr0 htk hM hd hn hc0
  go_enter Try.func8, Try.ntmps8
  go_wp2_with fail
  refine (wakes_any w).mono ?_
  rintro e w1 ⟨rfl, hb1⟩
  have HB1 := Lib.hid hb1
  clear hb1
  go_wp2_with fail
  refine (HO.out _ HB1.out).mono ?_
  rintro e w' ⟨rfl, rfl⟩
  go_wp2_with fail
  refine (HM.out _ HB1.out).mono ?_
  rintro e w2 ⟨⟨Am, cm, rfl, hvm⟩, hb2⟩
  have HB2 := Lib.hid (HB1.out.trans (hb2.mono HB1.out.size))
  have HVM := Lib.hid hvm
  clear hb2 hvm
  go_wp2
  go_loopw [5, 6] (fun v i wr => Hid ((∃ j : Nat, j < n ∧ i = .int .i64 j ∧ wr.ownsRow w2.heap.size 22 1 v (n - 1 - j) (vs.drop (j + 1)).reverse) ∨ (i = .int .i64 (-1) ∧ wr.ownsRow w2.heap.size 22 1 v n vs.reverse)) ∧ Hid (Below w2.heap.size w2 wr)) (fun _ i _ => (intOf i + 1).toNat)
  case atStart => exact ⟨Lib.hid (.inl ⟨n - 1, by omega, by congr 1; omega, by rw [show n - 1 - (n - 1) = 0 by omega, List.drop_eq_nil_of_le (by rw [HVL.out]; omega)]; exact World.ownsRow_nil _ _ _ _⟩), Lib.hid (Below.refl _ _)⟩
  case round =>
    obtain ⟨HR, HB⟩ := hrel
    rcases HR.out with ⟨j, hj, rfl, hrow⟩ | ⟨rfl, hrow⟩
    · obtain ⟨X, cx, rfl, hcx, _⟩ := own_form hrow
      have HROWN := Lib.hid hrow
      obtain ⟨x, hx⟩ : ∃ x, l[j]? = some x := ⟨_, List.getElem?_eq_getElem (by rw [← HN.out]; exact hj)⟩
      obtain ⟨B, cb, hvj, _⟩ := HVX.out j x hx
      have hcj := (HVC.out j _ hvj).1
      have hbw := HB2.out.trans (HB.out.mono HB2.out.size)
      have HBW := Lib.hid hbw
      have e1 := (hbw.cell (p := ⟨b, o + j, none⟩) hblt).trans hcj
      have hdr : (vs.drop j).reverse = (vs.drop (j + 1)).reverse ++ [.slice B x.length cb] := by
        have : vs.drop j = .slice B x.length cb :: vs.drop (j + 1) := by
          rw [List.drop_eq_getElem_cons (by rw [HVL.out]; exact hj)]
          congr 1
          have := (List.getElem?_eq_some_iff.1 hvj).2
          exact this
        rw [this, List.reverse_cons]
      have HDR := Lib.hid hdr
      generalize x.length = xl at *
      have j0 : (0 : Int) ≤ j := by omega
      have jn : (j : Int) < n := by omega
      clear hrow hx hvj hcj hbw hdr
      go_wp2_with (at_builtin; refine wpList_append_own _ rfl (.tmp 38) (.tmp 43) 34 rfl w2.heap.size 22 i0 (.slice none 0 0) 1 24 Try.underlying34 hi hz0 hz1 hz2 rfl (by decide) _ (n - 1 - j) _ rfl (HROWN.out.alloc _) ⟨wr.heap.size, 0, none⟩ 1 1 [.slice B xl cb] rfl rfl (cell_one_new _ _ _) (by simp [Value.oneCell']) (by unfold maxLen; omega) (by omega) (by have := HB.out.size; simp; omega) ?_; intro v' w3 hown' hgrow _; have HO3 := Lib.hid hown'; have HG3 := Lib.hid hgrow; clear hown' hgrow)
      go_roundw
      case rel =>
        refine ⟨Lib.hid ?_, Lib.hid ((HB.out.alloc HB.out.size _).grown HG3.out (by have := HB.out.size; simp; omega) (fun q hq => (HROWN.out.lt q hq).1))⟩
        · have h3 := HO3.out
          rw [← HDR.out] at h3
          rcases Nat.eq_zero_or_pos j with rfl | hj0
          · right
            rw [List.drop_zero] at h3
            have e : n - 1 - 0 + 1 = n := by omega
            rw [e] at h3
            exact ⟨by simp, h3⟩
          · left
            refine ⟨j - 1, by omega, by congr 1 <;> omega, ?_⟩
            rw [show n - 1 - (j - 1) = n - 1 - j + 1 by omega, show j - 1 + 1 = j by omega]
            exact h3
      case measure => (simp [intOf]) <;> omega
    · have hbw := HB2.out.trans (HB.out.mono HB2.out.size)
      obtain ⟨X, cx, rfl, hmean⟩ := HBK.out _ wr _ hbw hrow
      have HME := Lib.hid hmean
      have HB3 := Lib.hid hbw
      clear hrow hmean hbw
      go_wp2_with fail
      refine HME.out.mono ?_
      rintro e w4 ⟨⟨Ar, cr, rfl, hvr⟩, hb4⟩
      have HB4 := Lib.hid (HB3.out.trans (hb4.mono HB3.out.size))
      have HM4 := Lib.hid ((HVM.out.below HB.out).below hb4)
      have HVR := Lib.hid hvr
      clear hb4 hvr
      go_wp2_with fail
      refine (HONE.out w4 HB4.out).mono ?_
      rintro e w5 ⟨⟨Ao, co, rfl, hvo⟩, hb5⟩
      have HB5 := Lib.hid (HB4.out.trans (hb5.mono HB4.out.size))
      have HM5 := Lib.hid (HM4.out.below hb5)
      have HR5 := Lib.hid (HVR.out.below hb5)
      have HO5 := Lib.hid hvo
      clear hb5 hvo
      go_wp2_with fail
      refine (HSAME.out w5 M Am Ar cm cr d HML.out HM5.out HR5.out).mono ?_
      rintro e w6 ⟨rfl, hb6⟩
      have HB6 := Lib.hid (HB5.out.trans (hb6.mono HB5.out.size))
      have HM6 := Lib.hid (HM5.out.below hb6)
      have HO6 := Lib.hid (HO5.out.below hb6)
      have k6 := HC0.out w6 HB6.out
      clear hb6
      go_wp2_with fail
      refine (HSAME.out w6 x0 Ao B0 co cb0 d HD.out.symm HO6.out (HV0.out.below HB6.out)).mono ?_
      rintro e w7 ⟨rfl, hb7⟩
      have HB7 := Lib.hid (HB6.out.trans (hb7.mono HB6.out.size))
      have HM7 := Lib.hid (HM6.out.below hb7)
      clear hb7 k6
      go_wp2_with fail
      refine (HCHK.out w7 Am cm HM7.out).mono ?_
      rintro e w8 ⟨rfl, hb8⟩
      have HB8 := Lib.hid (HB7.out.trans (hb8.mono HB7.out.size))
      have HM8 := Lib.hid (HM7.out.below hb8)
      have k8 := HC0.out w8 HB8.out
      clear hb8
      have HW8 := Lib.hid HB8.out.size
      go_wp2
      clear k8
      go_loopw [11, 12, 13, 14, 16, 92] (fun _ _ _ _ _ i wr => ∃ k : Nat, k ≤ d ∧ i = .int .i64 k ∧ Hid (Below w8.heap.size w8 wr)) (fun _ _ _ _ _ i _ => d - (intOf i).toNat)
      case atStart => exact ⟨0, Nat.zero_le _, rfl, Lib.hid (Below.refl _ _)⟩
      case round =>
        obtain ⟨k, hk, rfl, HB9⟩ := hrel
        by_cases hkd : k < d
        · have hmk := (HM8.out.below HB9.out).at_ (j := k) (by rw [HML.out]; exact hkd)
          obtain ⟨gm, om, rfl, _, hcm⟩ := hmk
          rw [HMG.out k hkd] at hcm
          have hbw := HB8.out.trans (HB9.out.mono HB8.out.size)
          have HBW := Lib.hid hbw
          have k9 := HC0.out wr hbw
          obtain ⟨g0, o0, rfl, hg0, hcz⟩ := HV0.out.at_ (j := k) (by rw [← HD.out]; exact hkd)
          have e0 := (hbw.cell (p := ⟨g0, o0 + k, none⟩) hg0).trans hcz
          have k0 : (0 : Int) ≤ k := by omega
          have kd : (k : Int) < d := by omega
          have n0 : (0 : Int) < n := by omega
          generalize x0.getD k 0 = z0 at *
          have HBTW := Lib.hid (HBT.out k)
          generalize hq : colM l k / (n : Int) = q at *
          clear hq hbw hcz hg0
          go_wp2
          go_quiet (fail)
          go_wp2
          obtain ⟨wo, hwo⟩ : ∃ wo : World, wo = wr.drewN nq := ⟨_, rfl⟩
          have HWO := Lib.hid (show Below w8.heap.size w8 wo by rw [hwo]; exact below_drewN HB9.out _)
          rw [← hwo]
          clear hwo hcm k9 e0
          go_loopw [13, 14, 16, 111] (fun a b' _ t ws => ∃ (j : Nat) (lo hi' : Int), j ≤ n ∧ t = .int .i64 j ∧ a = .int .i32 lo ∧ b' = .int .i32 hi' ∧ Hid (Below w8.heap.size w8 ws ∧ ∀ (i : Nat) x, i < j → l[i]? = some x → lo ≤ x.getD k 0 ∧ x.getD k 0 ≤ hi')) (fun _ _ _ t _ => n - (intOf t).toNat)
          case atStart => exact ⟨0, z0, z0, Nat.zero_le _, rfl, rfl, rfl, Lib.hid ⟨HWO.out, fun i x h _ => absurd h (by omega)⟩⟩
          case round =>
            obtain ⟨j, lo, hi', hj, rfl, rfl, rfl, HT⟩ := hrel
            by_cases hjn : j < n
            · obtain ⟨x, hx⟩ : ∃ x, l[j]? = some x := ⟨_, List.getElem?_eq_getElem (by rw [← HN.out]; exact hjn)⟩
              obtain ⟨B, cb, hvj, hvec⟩ := HVX.out j x hx
              have hxl := HROW.out j x hx
              obtain ⟨g2, o2, rfl, hg2, hc2⟩ := hvec.at_ (j := k) (by rw [hxl]; exact hkd)
              have hbw2 := HB8.out.trans (HT.out.1.mono HB8.out.size)
              have e1 := (hbw2.cell (p := ⟨b, o + j, none⟩) hblt).trans (HVC.out j _ hvj).1
              have e2 := (hbw2.cell (p := ⟨g2, o2 + k, none⟩) hg2).trans hc2
              rw [hxl] at e1
              have HX := Lib.hid hx
              obtain ⟨y, hy⟩ : ∃ y, y = x.getD k 0 := ⟨_, rfl⟩
              rw [← hy] at e2
              have HY := Lib.hid hy
              have j0 : (0 : Int) ≤ j := by omega
              have jn : (j : Int) < n := by omega
              clear hx hvj hvec hxl hg2 hc2 hbw2 hy
              go_wp2
              go_quiet (fail)
              go_wp2
              go_roundw
              case rel =>
                refine ⟨j + 1, min lo y, max hi' y, by omega, by go_num, rfl, rfl, Lib.hid ⟨below_drewN HT.out.1 _, fun i x' hi2 hx' => ?_⟩⟩
                rcases Nat.lt_or_eq_of_le (Nat.le_of_lt_succ hi2) with h | rfl
                · have := HT.out.2 i x' h hx'
                  omega
                · rw [HX.out] at hx'
                  cases hx'
                  rw [← HY.out]
                  omega
              case measure => simp [intOf]; omega
            · obtain rfl : j = n := by omega
              have hbt := HBTW.out lo hi' (fun x hx => by
                obtain ⟨i, hi2⟩ := HMEM.out x hx
                have : i < l.length := (List.getElem?_eq_some_iff.1 hi2).1
                exact HT.out.2 i x (by rw [HN.out]; exact this) hi2)
              have b1 : ¬ q < lo := by omega
              have b2 : ¬ hi' < q := by omega
              clear hbt
              go_wp2
              go_roundw
              case rel => exact ⟨k + 1, by omega, by go_num, Lib.hid HT.out.1⟩
              case measure => simp [intOf]; omega
        · obtain rfl : k = d := by omega
          go_wp2
          go_ret
          exact ⟨rfl, HB8.out.trans (HB9.out.mono HB8.out.size)⟩

theorem walk {w : World} (A : Option Addr) (c : Nat) (l : List (List Int)) (hl : Vecs .i32 w A c l) :
    Calls Try.prog 8 #[.slice A l.length c] w fun e w' => e = .returned (.bool true) ∧ Below w.heap.size w w' := by
  cases ho : overM l with
  | true => exact walk_over A c l hl ho
  | false =>
    by_cases hE : meanE l = 0
    · exact walk_ok A c l hl ho hE
    · exact walk_bad A c l hl ho hE

set_option maxRecDepth 100000 in
theorem lifted (os : Os) (started : os.Started) (H : Type) (enc : TypeId × Value → H) :
    ReturnsInHanded {} Try.checked os 8 .any (Rows.vecMeansSpec.pre6 enc Try.prog Try.f8 Rows.vecMeansRow.domain false) (Rows.vecMeansSpec.post enc Try.prog Try.f8 false true false false) := by
  refine returnsInHanded_of_change (C := Try.checked) Try.own started (by kernel_rfl) Try.func8
    (ChangeSpec.witness6 (enc := enc) (C := Try.checked) false ⟨#[], #[.slice none 0 0], []⟩ 8 (by kernel_rfl) (by kernel_rfl) (by kernel_rfl) (by kernel_rfl)) ?_
  intro W base args ds gs before hval0 hW hcnd _
  have hval : ∀ (j : Nat) t v, Try.f8.params[j]? = some t → args[j]? = some v → Value.okWide Try.prog W .any base t v := hval0
  have hW' := hW
  obtain ⟨p, q, hA0, hV, rfl, hfz, hnd⟩ := hW
  have hA : DataW.TrodAll enc Try.prog W 0 (fun _ => true) true Try.f8.params.toList args.toList ds p := hA0
  rw [Try.params8] at hA hval
  have hA' := hA
  obtain ⟨v0, vs0, d0, ds0, p0, q0, hargs, rfl, rfl, h0, r0⟩ := trodAll_cons hA
  obtain ⟨rfl, rfl, rfl⟩ := trodAll_nil r0
  obtain rfl : args = #[v0] := by cases args; simp_all
  obtain ⟨rfl, rfl⟩ := trodVars_none hV
  obtain ⟨A0, len0, c0, rfl⟩ := okWide_slice Try.underlying34 (hval 0 34 v0 rfl rfl)
  obtain ⟨z0, rfl, sl0⟩ := open_vecs h0
  clear hA0 hval0
  refine (walk A0 c0 z0 sl0).mono fun e W' ⟨he, bel⟩ => ?_
  subst he
  exact ⟨_, rfl, _, _, _, [], _, [], hW', trodAll_mk1 (shut_bool Try.underlying4 _), trodAll_below bel _ _ _ _ (by kernel_rfl) hA', rfl, bel.frame _, fun h => by cases h⟩

theorem proved : Rows.VecMeansSaid :=
  OpenClaim.holds_of_wide 8 Try.f8 rfl rfl rfl rfl rfl rfl rfl ⟨rfl, rfl, rfl, rfl, rfl⟩ rfl rfl rfl rfl rfl (by kernel_rfl) Try.func8 (by kernel_rfl)
    (of_decide_eq_true (by kernel_rfl)) (by unfold Func.isWrapper; first | (rw [if_pos (by decide +kernel)]; kernel_rfl) | (rw [if_neg (by decide +kernel)]; exact ⟨rfl, rfl⟩))
    (fun os started H enc _ => lifted os started H enc)
#print axioms proved
end Go.Proofs.Ytdfpiipnpaknaaa.vecMeans
