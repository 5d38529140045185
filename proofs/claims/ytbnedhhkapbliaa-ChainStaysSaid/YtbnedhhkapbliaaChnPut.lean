/-
  Put and Del.
-/
import Derived.Test.YtbnedhhkapbliaaChnDo
namespace Go.Proofs.Ytbnedhhkapbliaa
open Go.RowKit Go.Shelf
set_option linter.unusedVariables false
set_option linter.unusedSimpArgs false
set_option maxRecDepth 100000

/-- A call that answers a chain of the call's own, and an error. -/
def GivesE (w : World) (l : List Vr) (er : Int) (e : Ending) (w' : World) : Prop := ∃ A c q, e = .returned (.tuple #[.slice A (List.length q) c, .int .i64 er]) ∧ vals q = l ∧ OwnC w.heap.size w' A c q ∧ Below w.heap.size w w'
theorem small_vals {q q1 : List Pl} (h : Small q) (e : vals q1 = vals q) : Small q1 := by
  have hl : q1.length = q.length := by have := congrArg List.length e; simpa [vals] using this
  refine ⟨by rw [hl]; exact h.few, fun p hp => ?_⟩
  have hm : p.v ∈ vals q := by rw [← e]; exact List.mem_map_of_mem (f := fun p : Pl => p.v) hp
  obtain ⟨p', hp', e'⟩ := List.mem_map.1 hm
  rw [← e']
  exact h.dims p' hp'
theorem ref_good {l : List Vr} {ts : Int} (h : refM l ts = 0) : Good l := by
  unfold refM at h
  split at h
  · rename_i hc; exact (chain_iff l).1 hc
  · omega

set_option maxHeartbeats 2000000 in
theorem put_any (A A' : Option Addr) (c c' : Nat) (q : List Pl) (x : List Int) (ts : Int) (w : World) (h : Chn w A c q) (hs : Small q) (hv : Vec .i32 w A' c' x) (hx : x.length ≤ 100000) (hts : U64s ts) :
    Calls Try.prog 28 #[.slice A q.length c, .int .u64 ts, .slice A' x.length c'] w (GivesE w (putN (vals q) ts x) (putE (vals q) ts x)) := by
  obtain ⟨W0, hW0⟩ : ∃ W0, W0 = (w.alloc (.cells #[.int .u64 ts] 26)).alloc (.cells #[.slice A' x.length c'] 27) := ⟨_, rfl⟩
  have hz0 : W0.heap.size = w.heap.size + 2 := by rw [hW0]; simp
  have hb0 : Below w.heap.size w W0 := by rw [hW0]; exact ((Below.refl _ w).alloc (Nat.le_refl _) _).alloc (by simp) _
  have xt : Boxed W0 w.heap.size 26 (.int .u64 ts) := by rw [hW0]; exact (Boxed.new w _ _).alloc _
  have xv : Boxed W0 (w.heap.size + 1) 27 (.slice A' x.length c') := by
    rw [hW0]; have := Boxed.new (w.alloc (.cells #[.int .u64 ts] 26)) 27 (.slice A' x.length c'); rwa [World.size_alloc] at this
  have HRf := Lib.hid (refuse_any8 A c q ts W0 (h.below hb0))
  have HDm := Lib.hid (fun (X : World) (hX : Below w.heap.size w X) => dimension_any A A' c x.length c' q X (h.below hX))
  have HOf := Lib.hid (fun (d : Int) (X : World) (hX : Below w.heap.size w X) => of_any A' c' x d X (hv.below hX))
  have HS := Lib.hid (fun (X : World) (hX : Below W0.heap.size W0 X) => show X.cell? ⟨w.heap.size + 1, 0, none⟩ = some (.slice A' x.length c') from (hX.cell (p := ⟨w.heap.size + 1, 0, none⟩) (show w.heap.size + 1 < W0.heap.size by omega)).trans xv.cell)
  have HTv := Lib.hid (fun (X : World) (hX : Below W0.heap.size W0 X) => show X.cell? ⟨w.heap.size, 0, none⟩ = some (.int .u64 ts) from (hX.cell (p := ⟨w.heap.size, 0, none⟩) (show w.heap.size < W0.heap.size by omega)).trans xt.cell)
  have hdim : (if q.length = 0 then (x.length : Int) else ((vals q).getD 0 zv).x.length) = dimM (vals q) x := by unfold dimM; rw [vals_length]
  rw [hdim] at HDm
  have ht0 := xt.cell
  have HB0 := Lib.hid hb0
  have HZ0 := Lib.hid hz0
  have HPE := Lib.hid (show putE (vals q) ts x = if refM (vals q) ts = 0 then (if refuseM (dimM (vals q) x) [x] = 0 then (if q.length = 96 then 6 else 0) else refuseM (dimM (vals q) x) [x]) else refM (vals q) ts by unfold putE; rw [vals_length])
  have HPN := Lib.hid (show putN (vals q) ts x = if putE (vals q) ts x = 0 then endM ts (vals q) ++ [⟨ts, 0, x⟩] else [] from rfl)
  have HCh := Lib.hid (fun (hr : refM (vals q) ts = 0) (X : World) (hX : Below W0.heap.size W0 X) => changed_any A c q 52 #[.pointer (some ⟨w.heap.size, 0, none⟩), .pointer (some ⟨w.heap.size + 1, 0, none⟩)] (endM ts (vals q) ++ [⟨ts, 0, x⟩]) X (h.below (hb0.trans (hX.mono hb0.size))) hs (fun v W => enters_of Try.func52 (by kernel_rfl) rfl _ W)
    (fun A1 c1 q1 W hv1 ho1 hbW => by
      have hg : Good (vals q1) := by rw [hv1]; exact ref_good hr
      have := put1_any X W A1 A' c1 c' q1 w.heap.size (w.heap.size + 1) ts x (lasts_good hg) (by have := hg.few; rw [vals_length] at this; omega) ho1 hbW (HTv.out X hX) (HS.out X hX) (hv.below (hb0.trans (hX.mono hb0.size))) hx hts
      rw [hv1] at this
      exact this))
  generalize putE (vals q) ts x = E at *
  generalize putN (vals q) ts x = N at *
  generalize refM (vals q) ts = R at *
  generalize dimM (vals q) x = D at *
  obtain ⟨k, hk⟩ : ∃ k, k = x.length := ⟨_, rfl⟩
  rw [← hk] at HDm HOf HS ⊢
  have HW0 := Lib.hid hW0
  rw [← hk] at HW0
  have hqm := h.many
  generalize q.length = n at *
  clear h hs hv hx hts xt xv hb0 hz0 hdim hk hW0
  by_cases hR : R = 0
  · subst hR
    have HPE1 := Lib.hid (show E = if refuseM D [x] = 0 then (if n = 96 then 6 else 0) else refuseM D [x] from by rw [HPE.out, if_pos rfl])
    have HOf2 := Lib.hid (fun (X : World) (hX : Below w.heap.size w X) => HOf.out D X hX)
    generalize refuseM D [x] = F at *
    clear HPE HOf
    by_cases hF : F = 0
    · subst hF
      have HPE2 := Lib.hid (show E = if n = 96 then 6 else 0 from by rw [HPE1.out, if_pos rfl])
      clear HPE1
      by_cases hn : n = 96
      · subst hn
        have HE := Lib.hid (show E = 6 by rw [HPE2.out, if_pos rfl])
        have HN := Lib.hid (show N = [] by rw [HPN.out, if_neg (by rw [HE.out]; decide)])
        clear HPE2 HPN HCh
        go_enter Try.func28, Try.ntmps28
        go_wp2_with fail
        rw [← HW0.out]
        refine HRf.out.mono ?_
        rintro e w1 ⟨rfl, hb1⟩
        have HB01 := Lib.hid hb1
        have HB1 := Lib.hid (HB0.out.trans (hb1.mono HB0.out.size))
        clear hb1
        go_wp2
        go_region_held3 (fun X => X.cell? ⟨w.heap.size + 1, 0, none⟩ = some (.slice A' k c')) (first | exact HS.out _ HB01.out | exact HS.out _ (below_drew HB01.out) | exact HS.out _ HB02.out) (first
          | (go_at_call 50; refine (HDm.out _ (below_drew HB1.out)).mono ?_; rintro e w2 ⟨rfl, rfl⟩)
          | (go_at_call 49; refine (HOf2.out _ (below_drew HB1.out)).mono ?_; rintro e w3 ⟨rfl, hb3⟩; have HB02 := Lib.hid ((below_drew HB01.out).trans (hb3.mono HB01.out.size)); have HB2 := Lib.hid ((below_drew HB1.out).trans (hb3.mono HB1.out.size)); clear hb3))
        all_goals (
          go_wp2
          go_ret2
          rw [HN.out, HE.out]
          exact ⟨none, 0, [], rfl, rfl, OwnC.nil _ _, HB2.out⟩)
      · have HE := Lib.hid (show E = 0 by rw [HPE2.out, if_neg hn])
        have HN := Lib.hid (show N = endM ts (vals q) ++ [⟨ts, 0, x⟩] by rw [HPN.out, if_pos HE.out])
        have t96 : ((n : Int) == 96) = false := by simp; omega
        have HCh2 := Lib.hid (fun (X : World) (hX : Below W0.heap.size W0 X) => HCh.out rfl X hX)
        clear HPE2 HPN HCh hn
        go_enter Try.func28, Try.ntmps28
        go_wp2_with fail
        rw [← HW0.out]
        refine HRf.out.mono ?_
        rintro e w1 ⟨rfl, hb1⟩
        have HB01 := Lib.hid hb1
        have HB1 := Lib.hid (HB0.out.trans (hb1.mono HB0.out.size))
        clear hb1
        go_wp2
        go_region_held3 (fun X => X.cell? ⟨w.heap.size + 1, 0, none⟩ = some (.slice A' k c')) (first | exact HS.out _ HB01.out | exact HS.out _ (below_drew HB01.out) | exact HS.out _ HB02.out) (first
          | (go_at_call 50; refine (HDm.out _ (below_drew HB1.out)).mono ?_; rintro e w2 ⟨rfl, rfl⟩)
          | (go_at_call 49; refine (HOf2.out _ (below_drew HB1.out)).mono ?_; rintro e w3 ⟨rfl, hb3⟩; have HB02 := Lib.hid ((below_drew HB01.out).trans (hb3.mono HB01.out.size)); have HB2 := Lib.hid ((below_drew HB1.out).trans (hb3.mono HB1.out.size)); clear hb3))
        all_goals (
          go_wp2_with fail
          refine (HCh2.out _ HB02.out).mono ?_
          rintro e w4 ⟨A4, c4, q4, rfl, hv4, ho4, hb4⟩
          have HX := Lib.hid (And.intro hv4 (And.intro (ho4.mono (Nat.le_trans HB0.out.size HB02.out.size)) (HB2.out.trans (hb4.mono HB2.out.size))))
          clear hv4 ho4 hb4
          go_wp2
          go_ret2
          rw [HN.out, HE.out]
          exact ⟨A4, c4, q4, rfl, HX.out.1, HX.out.2.1, HX.out.2.2⟩)
    · have HE := Lib.hid (show E = F by rw [HPE1.out, if_neg hF])
      have HN := Lib.hid (show N = [] by rw [HPN.out, if_neg (by rw [HE.out]; exact hF)])
      have t1 : (F != 0) = true := by simpa using hF
      clear HPE1 HPN HCh hF
      go_enter Try.func28, Try.ntmps28
      go_wp2_with fail
      rw [← HW0.out]
      refine HRf.out.mono ?_
      rintro e w1 ⟨rfl, hb1⟩
      have HB01 := Lib.hid hb1
      have HB1 := Lib.hid (HB0.out.trans (hb1.mono HB0.out.size))
      clear hb1
      go_wp2
      go_region_held3 (fun X => X.cell? ⟨w.heap.size + 1, 0, none⟩ = some (.slice A' k c')) (first | exact HS.out _ HB01.out | exact HS.out _ (below_drew HB01.out) | exact HS.out _ HB02.out) (first
        | (go_at_call 50; refine (HDm.out _ (below_drew HB1.out)).mono ?_; rintro e w2 ⟨rfl, rfl⟩)
        | (go_at_call 49; refine (HOf2.out _ (below_drew HB1.out)).mono ?_; rintro e w3 ⟨rfl, hb3⟩; have HB02 := Lib.hid ((below_drew HB01.out).trans (hb3.mono HB01.out.size)); have HB2 := Lib.hid ((below_drew HB1.out).trans (hb3.mono HB1.out.size)); clear hb3))
      all_goals (
        go_wp2
        go_ret2
        rw [HN.out, HE.out]
        exact ⟨none, 0, [], rfl, rfl, OwnC.nil _ _, HB2.out⟩)
  · have HE := Lib.hid (show E = R by rw [HPE.out, if_neg hR])
    have HN := Lib.hid (show N = [] by rw [HPN.out, if_neg (by rw [HE.out]; exact hR)])
    have t1 : (R != 0) = true := by simpa using hR
    clear hR HPE HPN HCh
    go_enter Try.func28, Try.ntmps28
    go_wp2_with fail
    rw [← HW0.out]
    refine HRf.out.mono ?_
    rintro e w1 ⟨rfl, hb1⟩
    have HB1 := Lib.hid (HB0.out.trans (hb1.mono HB0.out.size))
    clear hb1
    go_wp2
    go_ret2
    rw [HN.out, HE.out]
    exact ⟨none, 0, [], rfl, rfl, OwnC.nil _ _, HB1.out⟩

end Go.Proofs.Ytbnedhhkapbliaa
