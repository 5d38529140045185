/-
  Del and Prune.
-/
import Derived.Test.YtbnedhhkapbliaaChnPut
namespace Go.Proofs.Ytbnedhhkapbliaa
open Go.RowKit Go.Shelf
set_option linter.unusedVariables false
set_option linter.unusedSimpArgs false
set_option maxRecDepth 100000

set_option maxHeartbeats 2000000 in
theorem del_any (A : Option Addr) (c : Nat) (q : List Pl) (ts : Int) (w : World) (h : Chn w A c q) (hs : Small q) (hts : U64s ts) :
    Calls Try.prog 29 #[.slice A q.length c, .int .u64 ts] w (GivesE w (delN (vals q) ts) (delE (vals q) ts)) := by
  obtain ⟨W0, hW0⟩ : ∃ W0, W0 = w.alloc (.cells #[.int .u64 ts] 26) := ⟨_, rfl⟩
  have hz0 : W0.heap.size = w.heap.size + 1 := by rw [hW0]; simp
  have hb0 : Below w.heap.size w W0 := by rw [hW0]; exact (Below.refl _ w).alloc (Nat.le_refl _) _
  have xt : Boxed W0 w.heap.size 26 (.int .u64 ts) := by rw [hW0]; exact Boxed.new w _ _
  have HRf := Lib.hid (refuse_any8 A c q ts W0 (h.below hb0))
  have HCo := Lib.hid (fun (X : World) (hX : Below w.heap.size w X) => contains_any8 A c q X (h.below hX))
  have HTv := Lib.hid (fun (X : World) (hX : Below W0.heap.size W0 X) => show X.cell? ⟨w.heap.size, 0, none⟩ = some (.int .u64 ts) from (hX.cell (p := ⟨w.heap.size, 0, none⟩) (show w.heap.size < W0.heap.size by omega)).trans xt.cell)
  have HB0 := Lib.hid hb0
  have HPE := Lib.hid (show delE (vals q) ts = if refM (vals q) ts = 0 then (if atB (rOpen (vals q)) = true then 0 else 4) else refM (vals q) ts by unfold delE; rw [open_any])
  have HPN := Lib.hid (show delN (vals q) ts = if delE (vals q) ts = 0 then endM ts (vals q) else [] from rfl)
  have HCh := Lib.hid (fun (hr : refM (vals q) ts = 0) (X : World) (hX : Below W0.heap.size W0 X) => changed_any A c q 57 #[.pointer (some ⟨w.heap.size, 0, none⟩)] (endM ts (vals q)) X (h.below (hb0.trans (hX.mono hb0.size))) hs (fun v W => enters_of Try.func57 (by kernel_rfl) rfl _ W)
    (fun A1 c1 q1 W hv1 ho1 hbW => by
      have hg : Good (vals q1) := by rw [hv1]; exact ref_good hr
      have := del1_any X W A1 c1 q1 w.heap.size ts (lasts_good hg) ho1 hbW (HTv.out X hX) hts
      rw [hv1] at this
      exact this))
  generalize delE (vals q) ts = E at *
  generalize delN (vals q) ts = N at *
  generalize refM (vals q) ts = R at *
  generalize atB (rOpen (vals q)) = D at *
  generalize q.length = n at *
  have HW0 := Lib.hid hW0
  have ht0 := xt.cell
  clear h hs hts xt hb0 hz0 hW0
  by_cases hR : R = 0
  · subst hR
    have HPE1 := Lib.hid (show E = if D = true then 0 else 4 from by rw [HPE.out, if_pos rfl])
    clear HPE
    cases D with
    | false =>
      have HE := Lib.hid (show E = 4 from HPE1.out)
      have HN := Lib.hid (show N = [] by rw [HPN.out, if_neg (by rw [HE.out]; decide)])
      clear HPE1 HPN HCh
      go_enter Try.func29, Try.ntmps29
      go_wp2_with fail
      rw [← HW0.out]
      refine HRf.out.mono ?_
      rintro e w1 ⟨rfl, hb1⟩
      have HB1 := Lib.hid (HB0.out.trans (hb1.mono HB0.out.size))
      clear hb1
      go_wp2_with fail
      refine (HCo.out _ HB1.out).mono ?_
      rintro e w2 ⟨rfl, hb2⟩
      have HB2 := Lib.hid (HB1.out.trans (hb2.mono HB1.out.size))
      clear hb2
      go_wp2
      go_ret2
      rw [HN.out, HE.out]
      exact ⟨none, 0, [], rfl, rfl, OwnC.nil _ _, HB2.out⟩
    | true =>
      have HE := Lib.hid (show E = 0 from HPE1.out)
      have HN := Lib.hid (show N = endM ts (vals q) by rw [HPN.out, if_pos HE.out])
      have HCh2 := Lib.hid (fun (X : World) (hX : Below W0.heap.size W0 X) => HCh.out rfl X hX)
      clear HPE1 HPN HCh
      go_enter Try.func29, Try.ntmps29
      go_wp2_with fail
      rw [← HW0.out]
      refine HRf.out.mono ?_
      rintro e w1 ⟨rfl, hb1⟩
      have HB01 := Lib.hid hb1
      have HB1 := Lib.hid (HB0.out.trans (hb1.mono HB0.out.size))
      clear hb1
      go_wp2_with fail
      refine (HCo.out _ HB1.out).mono ?_
      rintro e w2 ⟨rfl, hb2⟩
      have HB02 := Lib.hid (HB01.out.trans (hb2.mono HB01.out.size))
      have HB2 := Lib.hid (HB1.out.trans (hb2.mono HB1.out.size))
      clear hb2
      go_wp2_with fail
      refine (HCh2.out _ HB02.out).mono ?_
      rintro e w4 ⟨A4, c4, q4, rfl, hv4, ho4, hb4⟩
      have HX := Lib.hid (And.intro hv4 (And.intro (ho4.mono (Nat.le_trans HB0.out.size HB02.out.size)) (HB2.out.trans (hb4.mono HB2.out.size))))
      clear hv4 ho4 hb4
      go_wp2
      go_ret2
      rw [HN.out, HE.out]
      exact ⟨A4, c4, q4, rfl, HX.out.1, HX.out.2.1, HX.out.2.2⟩
  · have HE := Lib.hid (show E = R by rw [HPE.out, if_neg hR])
    have HN := Lib.hid (show N = [] by rw [HPN.out, if_neg (by rw [HE.out]; exact hR)])
    have t1 : (R != 0) = true := by simpa using hR
    clear hR HPE HPN HCh
    go_enter Try.func29, Try.ntmps29
    go_wp2_with fail
    rw [← HW0.out]
    refine HRf.out.mono ?_
    rintro e w1 ⟨rfl, hb1⟩
    have HB1 := Lib.hid (HB0.out.trans (hb1.mono HB0.out.size))
    clear hb1
    go_wp2
    go_ret2
    rw [HN.out, HE.out]
    exact ⟨none, 0, [], rfl, rfl, OwnC.nil _ _, HB1.out⟩

/-- A call that answers two chains of the call's own, and an error. -/
def GivesP (w : World) (l g : List Vr) (er : Int) (e : Ending) (w' : World) : Prop := ∃ A c q B d r, e = .returned (.tuple #[.slice A (List.length q) c, .slice B (List.length r) d, .int .i64 er]) ∧ vals q = l ∧ OwnC w.heap.size w' A c q ∧ vals r = g ∧ OwnC w.heap.size w' B d r ∧ Below w.heap.size w w'

set_option maxHeartbeats 1000000 in
theorem copied_where (fid : FuncId) (cap : Array Value) (P : Vr → Bool) (A : Option Addr) (c n : Nat) (q : List Pl) (w W2 : World) (h : Chn w A c q) (hn : q.length = n) (hs : Small q) (hb : Below w.heap.size w W2)
    (hen : ∀ v W, (callFunc fid (#[v] ++ cap)).run Try.prog W = .ok (.enter fid (#[v] ++ cap)) W)
    (hcl : ∀ p ∈ q, ∀ X, (∀ (a : Addr) v, W2.cell? a = some v → X.cell? a = some v) → Calls Try.prog fid (#[.agg #[.int .u64 p.v.b, .int .u64 p.v.f, .slice p.B p.v.x.length p.c]] ++ cap) X fun e w' => e = .returned (.bool (P p.v)) ∧ Below X.heap.size X w') :
    Calls Try.prog 47 #[.func (.func 63) #[] #[.pointer (some ⟨W2.heap.size, 0, none⟩), .pointer (some ⟨W2.heap.size + 1, 0, none⟩)]] ((W2.alloc (.cells #[.slice A n c] 22)).alloc (.cells #[.func (.func fid) #[] cap] 66)) (GivesC ((W2.alloc (.cells #[.slice A n c] 22)).alloc (.cells #[.func (.func fid) #[] cap] 66)) ((vals q).filter P)) := by
  obtain ⟨w3, hw3⟩ : ∃ w3, w3 = (W2.alloc (.cells #[.slice A n c] 22)).alloc (.cells #[.func (.func fid) #[] cap] 66) := ⟨_, rfl⟩
  rw [← hw3]
  have hz : w3.heap.size = W2.heap.size + 2 := by rw [hw3]; simp
  have hb3 : Below W2.heap.size W2 w3 := by rw [hw3]; exact ((Below.refl _ W2).alloc (Nat.le_refl _) _).alloc (by simp) _
  have x1 : Boxed w3 W2.heap.size 22 (.slice A n c) := by rw [hw3]; exact (Boxed.new W2 _ _).alloc _
  have x2 : Boxed w3 (W2.heap.size + 1) 66 (.func (.func fid) #[] cap) := by
    rw [hw3]; have := Boxed.new (W2.alloc (.cells #[.slice A n c] 22)) 66 (.func (.func fid) #[] cap); rwa [World.size_alloc] at this
  have hbw3 : Below w.heap.size w w3 := hb.trans (hb3.mono hb.size)
  refine copied_any 63 _ P q w3 hs (fun p hp => ⟨(h.below hbw3).el p hp, h.fit p hp⟩) (enters_of Try.func63 (by kernel_rfl) rfl) fun W0 hW0 => ?_
  refine where1_in P fid cap 2 w3.heap.size W2.heap.size (W2.heap.size + 1) (by omega) ?_ ?_ h (hbw3.trans (hW0.mono hbw3.size)) (by omega) (by omega) hbw3.size hen (fun p hp X hX => hcl p hp X fun a v ha => ?_)
  · rw [hn]; exact (show Boxed W0 W2.heap.size 22 (.slice A n c) from (hW0.block _ x1.lt).trans x1).cell
  · exact (show Boxed W0 (W2.heap.size + 1) 66 (.func (.func fid) #[] cap) from (hW0.block _ x2.lt).trans x2).cell
  · have hl := World.block_lt_of_cell? W2 _ ha
    have h3 := (hb3.cell hl).trans ha
    have h4 := (hW0.cell (by omega)).trans h3
    exact hX.cell h4 (by have := hW0.size; omega) (by omega)

set_option maxHeartbeats 2000000 in
theorem prune_any (A : Option Addr) (c : Nat) (q : List Pl) (t : Int) (w : World) (h : Chn w A c q) (hs : Small q) :
    Calls Try.prog 27 #[.slice A q.length c, .int .u64 t] w (GivesP w (pruN (vals q) t) (pruG (vals q) t) (chkM (vals q))) := by
  obtain ⟨W0, hW0⟩ : ∃ W0, W0 = w.alloc (.cells #[.int .u64 t] 26) := ⟨_, rfl⟩
  have hz0 : W0.heap.size = w.heap.size + 1 := by rw [hW0]; simp
  have hb0 : Below w.heap.size w W0 := by rw [hW0]; exact (Below.refl _ w).alloc (Nat.le_refl _) _
  have xt : Boxed W0 w.heap.size 26 (.int .u64 t) := by rw [hW0]; exact Boxed.new w _ _
  have HCk := Lib.hid (check_any8 A c q W0 (h.below hb0))
  have HB0 := Lib.hid hb0
  have HW0 := Lib.hid hW0
  have HK := Lib.hid (show chkM (vals q) = if chainB (vals q) = true then 0 else 180 from rfl)
  have HPN := Lib.hid (show pruN (vals q) t = if chainB (vals q) = true then (vals q).filter (lastsB · t) else [] from rfl)
  have HPG := Lib.hid (show pruG (vals q) t = if chainB (vals q) = true then (vals q).filter (fun v => !lastsB v t) else [] from rfl)
  generalize chkM (vals q) = E at *
  generalize pruN (vals q) t = N at *
  generalize pruG (vals q) t = G at *
  cases hc : chainB (vals q) with
  | false =>
    have HE := Lib.hid (show E = 180 by rw [HK.out, hc]; rfl)
    have HN := Lib.hid (show N = [] by rw [HPN.out, hc]; rfl)
    have HG := Lib.hid (show G = [] by rw [HPG.out, hc]; rfl)
    generalize q.length = n at *
    clear hc HK HPN HPG h hs hz0 hb0 xt hW0
    go_enter Try.func27, Try.ntmps27
    go_wp2_with fail
    rw [← HW0.out]
    refine HCk.out.mono ?_
    rw [HE.out]
    rintro e w1 ⟨rfl, hb1⟩
    have HB1 := Lib.hid (HB0.out.trans (hb1.mono HB0.out.size))
    clear hb1
    go_wp2
    go_ret3
    rw [HN.out, HG.out, HE.out]
    exact ⟨none, 0, [], none, 0, [], rfl, rfl, OwnC.nil _ _, rfl, OwnC.nil _ _, HB1.out⟩
  | true =>
    have HE := Lib.hid (show E = 0 by rw [HK.out, hc]; rfl)
    have HN := Lib.hid (show N = (vals q).filter (lastsB · t) by rw [HPN.out, hc]; rfl)
    have HG := Lib.hid (show G = (vals q).filter (fun v => !lastsB v t) by rw [HPG.out, hc]; rfl)
    generalize hn : q.length = n at *
    clear hc HK HPN HPG
    have HX0 := Lib.hid xt
    have HQ := Lib.hid h
    have HZ0 := Lib.hid hz0
    clear h hz0 hb0 xt hW0
    go_enter Try.func27, Try.ntmps27
    go_wp2_with fail
    rw [← HW0.out]
    refine HCk.out.mono ?_
    rw [HE.out]
    rintro e w1 ⟨rfl, hb1⟩
    have HB1 := Lib.hid (HB0.out.trans (hb1.mono HB0.out.size))
    have HXw := Lib.hid (show Boxed w1 w.heap.size 26 (.int .u64 t) from (hb1.block _ HX0.out.lt).trans HX0.out)
    obtain ⟨W2, hW2⟩ : ∃ W2, W2 = (w1.alloc (.cells #[.nilFunc] 66)).setCell ⟨w1.heap.size, 0, none⟩ (.func (.func 45) #[] #[.pointer (some ⟨w.heap.size, 0, none⟩)]) := ⟨_, rfl⟩
    have hF := heap_alloc_new w1 (.cells #[.nilFunc] 66)
    have q1 : (w1.alloc (.cells #[.nilFunc] 66)).cell? ⟨w1.heap.size, 0, none⟩ = some .nilFunc := (cell_of_row _ _ _ _ _ _ hF).trans rfl
    have q2 : (w1.alloc (.cells #[.nilFunc] 66)).frozen? ⟨w1.heap.size, 0, none⟩ = false := frozen_of_row _ _ _ _ _ hF
    have hst : (store ⟨w1.heap.size, 0, none⟩ (.func (.func 45) #[] #[.pointer (some ⟨w.heap.size, 0, none⟩)])).run Try.prog (w1.alloc (.cells #[.nilFunc] 66)) = .ok () W2 := by
      rw [run_store _ _ _ _ _ rfl, hW2]
      rw [q1, q2]
      rfl
    have hX2 : Boxed W2 w1.heap.size 66 (.func (.func 45) #[] #[.pointer (some ⟨w.heap.size, 0, none⟩)]) := by rw [hW2]; exact heap_setCell_same _ _ 0 _ _ _ hF
    have hb2 : Below w1.heap.size w1 W2 := by rw [hW2]; exact ((Below.refl _ w1).alloc (Nat.le_refl _) _).setCell (Nat.le_refl _) _
    have hc2 := hX2.cell
    have HX2 := Lib.hid hX2
    have HB2 := Lib.hid hb2
    clear hb1 q1 q2 hF hX2 hb2 hW2
    go_wp2_with fail
    refine (where_any _ _ _ _ _ ⟨_, _, _, rfl⟩).mono ?_
    rintro e w3 ⟨rfl, rfl⟩
    have hbW2 : Below w.heap.size w W2 := HB1.out.trans (HB2.out.mono HB1.out.size)
    have htW2 : W2.cell? ⟨w.heap.size, 0, none⟩ = some (.int .u64 t) := (show Boxed W2 w.heap.size 26 (.int .u64 t) from (HB2.out.block _ HXw.out.lt).trans HXw.out).cell
    have HC1 := Lib.hid (copied_where 45 #[.pointer (some ⟨w.heap.size, 0, none⟩)] (lastsB · t) A c n q w W2 HQ.out hn hs hbW2 (fun v W => enters_of Try.func45 (by kernel_rfl) rfl _ W) (fun p _ X hX => prune1_any p.v.b p.v.f p.B p.v.x.length p.c t w.heap.size X (hX _ _ htW2)))
    have hbW3 : Below W2.heap.size W2 ((W2.alloc (.cells #[.slice A n c] 22)).alloc (.cells #[.func (.func 45) #[] #[.pointer (some ⟨w.heap.size, 0, none⟩)]] 66)) := ((Below.refl _ W2).alloc (Nat.le_refl _) _).alloc (by simp) _
    have HB3 := Lib.hid hbW3
    have HBW2 := Lib.hid hbW2
    have HtW2 := Lib.hid htW2
    clear hbW2 htW2 hbW3
    go_wp2_with fail
    refine HC1.out.mono ?_
    rintro e w4 ⟨A4, c4, q4, rfl, hv4, ho4, hb4⟩
    have hb24 : Below W2.heap.size W2 w4 := HB3.out.trans (hb4.mono HB3.out.size)
    have HB24 := Lib.hid hb24
    have HX4 := Lib.hid (And.intro hv4 (ho4.mono (Nat.le_trans HBW2.out.size HB3.out.size)))
    clear hv4 ho4 hb4 hb24
    go_wp2_with fail
    refine (where_any _ _ _ _ _ ⟨_, _, _, rfl⟩).mono ?_
    rintro e w5 ⟨rfl, rfl⟩
    have hbW4 : Below w.heap.size w w4 := HBW2.out.trans (HB24.out.mono HBW2.out.size)
    have ht4 : w4.cell? ⟨w.heap.size, 0, none⟩ = some (.int .u64 t) := (HB24.out.cell (World.block_lt_of_cell? W2 _ HtW2.out)).trans HtW2.out
    have hx4 : w4.cell? ⟨w1.heap.size, 0, none⟩ = some _ := (HB24.out.cell (World.block_lt_of_cell? W2 _ HX2.out.cell)).trans HX2.out.cell
    have HC2 := Lib.hid (copied_where 46 #[.pointer (some ⟨w1.heap.size, 0, none⟩)] (fun v => !lastsB v t) A c n q w w4 HQ.out hn hs hbW4 (fun v W => enters_of Try.func46 (by kernel_rfl) rfl _ W) (fun p _ X hX => prune2_any p.v.b p.v.f p.B p.v.x.length p.c t w.heap.size w1.heap.size X (hX _ _ ht4) (hX _ _ hx4)))
    have HB5 := Lib.hid (show Below w4.heap.size w4 ((w4.alloc (.cells #[.slice A n c] 22)).alloc (.cells #[.func (.func 46) #[] #[.pointer (some ⟨w1.heap.size, 0, none⟩)]] 66)) from ((Below.refl _ w4).alloc (Nat.le_refl _) _).alloc (by simp) _)
    have HBW4 := Lib.hid hbW4
    clear hbW4 ht4 hx4
    go_wp2_with fail
    refine HC2.out.mono ?_
    rintro e w6 ⟨A6, c6, q6, rfl, hv6, ho6, hb6⟩
    have hb46 : Below w4.heap.size w4 w6 := HB5.out.trans (hb6.mono HB5.out.size)
    have HX6 := Lib.hid (And.intro hv6 (And.intro (ho6.mono (Nat.le_trans HBW4.out.size HB5.out.size)) (And.intro (HX4.out.2.below hb46) (HBW4.out.trans (hb46.mono HBW4.out.size)))))
    clear hv6 ho6 hb6 hb46
    go_wp2
    go_ret3
    rw [HN.out, HG.out, HE.out]
    exact ⟨A4, c4, q4, A6, c6, q6, rfl, HX4.out.1, HX6.out.2.2.1, HX6.out.1, HX6.out.2.1, HX6.out.2.2.2⟩

end Go.Proofs.Ytbnedhhkapbliaa
