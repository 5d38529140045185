/-
  Packed.
-/
import Derived.Test.YtpdebkpblpipcaaAreCopied
namespace Go.Proofs.Ytpdebkpblpipcaa
open Go.RowKit Go.Shelf
set_option linter.unusedVariables false
set_option linter.unusedSimpArgs false
set_option maxRecDepth 100000

/-- A call that answers an arena of the call's own, and an error. -/
def GivesAE (w : World) (l : List Ce) (er : Int) (e : Ending) (w' : World) : Prop := ∃ A c q, e = .returned (.tuple #[.agg #[.slice A (List.length q) c], .int .i64 er]) ∧ ces q = l ∧ OwnA w.heap.size w' A c q ∧ Below w.heap.size w w'
theorem res_set {B : Nat} {w w1 : World} {g : Nat} {u : Value} {t : TypeId} (v : Value) (h : Boxed w1 g t u) (hb : Below B w w1) (hg : B ≤ g) : (w1.setCell ⟨g, 0, none⟩ v).cell? ⟨g, 0, none⟩ = some v ∧ Below B w (w1.setCell ⟨g, 0, none⟩ v) :=
  ⟨World.cell?_setCell_same _ _ _ h.cell, hb.setCell hg _⟩

def packE (l : List Ce) : Int := if 96 < l.length then 6 else if l.all soundE = true then 0 else 2
def packL (l : List Ce) : List Ce := if packE l = 0 then padL l else []

set_option maxHeartbeats 1000000 in
theorem packed_any (A : Option Addr) (c : Nat) (q : List Pa) (w : World) (h : Are w A c q) :
    Calls Try.prog 23 #[.slice A q.length c] w (GivesAE w (packL (ces q)) (packE (ces q))) := by
  obtain ⟨W0, hW0⟩ : ∃ W0, W0 = w.alloc (.cells #[.slice none 0 0] 24) := ⟨_, rfl⟩
  have hb0 : Below w.heap.size w W0 := by rw [hW0]; exact (Below.refl _ w).alloc (Nat.le_refl _) _
  have hz0 : W0.heap.size = w.heap.size + 1 := by rw [hW0]; simp
  have x0 : Boxed W0 w.heap.size 24 (.slice none 0 0) := by rw [hW0]; exact Boxed.new w _ _
  have hlen := ces_length q
  by_cases hn : 96 < q.length
  · have hE : packE (ces q) = 6 := by unfold packE; rw [hlen, if_pos hn]
    have HL := Lib.hid (show packL (ces q) = [] by unfold packL; rw [hE]; rfl)
    have HE := Lib.hid hE
    obtain ⟨r0, hbR⟩ := res_set (.slice none 0 0) x0 hb0 (Nat.le_refl _)
    have c0 := x0.cell
    have f0 := x0.frozen
    have HB := Lib.hid hbR
    rw [hW0] at r0 c0 f0 HB
    have hn' : (96 : Int) < q.length := by omega
    generalize packL (ces q) = L at *
    generalize packE (ces q) = E at *
    generalize q.length = n at *
    clear h hb0 hz0 x0 hlen hE hbR hW0
    go_enter Try.func23, Try.ntmps23
    go_wp2
    refine bodyPost_ret (v := .tuple #[.agg #[.slice none 0 0], .int .i64 6]) (by simp [results, Try.results23, go_sem, r0]) rfl ?_
    rw [HE.out, HL.out]
    exact ⟨none, 0, [], rfl, rfl, OwnA.nil _ _, by first | exact HB.out | exact (Below.refl _ w).alloc (Nat.le_refl _) _⟩
  · have HC := Lib.hid (everyC_any A c q 42 soundE W0 (h.below hb0) enter_sound (pred_sound _))
    have HB0 := Lib.hid hb0
    have HX0 := Lib.hid x0
    have HZ0 := Lib.hid hz0
    have HW := Lib.hid hW0
    have tn : decide ((96 : Int) < q.length) = false := by simp; omega
    cases hs : (ces q).all soundE with
    | false =>
      have hE : packE (ces q) = 2 := by unfold packE; rw [hlen, if_neg hn, hs]; rfl
      have HL := Lib.hid (show packL (ces q) = [] by unfold packL; rw [hE]; rfl)
      have HE := Lib.hid hE
      rw [hs] at HC
      generalize packL (ces q) = L at *
      generalize packE (ces q) = E at *
      generalize q.length = n at *
      clear h hb0 hz0 x0 hlen hE hW0 hs hn
      go_enter Try.func23, Try.ntmps23
      go_wp2_with fail
      rw [← HW.out]
      refine HC.out.mono ?_
      rintro e w1 ⟨rfl, hb1⟩
      have x1 : Boxed w1 w.heap.size 24 (.slice none 0 0) := (hb1.block _ HX0.out.lt).trans HX0.out
      obtain ⟨r0, hbR⟩ := res_set (.slice none 0 0) x1 (HB0.out.trans (hb1.mono HB0.out.size)) (Nat.le_refl _)
      have c0 := x1.cell
      have f0 := x1.frozen
      have HB := Lib.hid hbR
      clear hb1 x1 hbR
      go_wp2
      refine bodyPost_ret (v := .tuple #[.agg #[.slice none 0 0], .int .i64 2]) (by simp [results, Try.results23, go_sem, r0]) rfl ?_
      rw [HE.out, HL.out]
      exact ⟨none, 0, [], rfl, rfl, OwnA.nil _ _, HB.out⟩
    | true =>
      have hE : packE (ces q) = 0 := by unfold packE; rw [hlen, if_neg hn, hs]; rfl
      have HL := Lib.hid (show packL (ces q) = padL (ces q) by unfold packL; rw [hE]; rfl)
      have HE := Lib.hid hE
      have HCp := Lib.hid (fun (X : World) (hX : Below W0.heap.size W0 X) => copied_any A c q X ((h.below hb0).below hX) (by omega) (fun p hp _ => by
        have := List.all_eq_true.1 hs p.e (List.mem_map.2 ⟨p, hp, rfl⟩)
        have := may_len (sound_may this)
        omega))
      rw [hs] at HC
      generalize packL (ces q) = L at *
      generalize packE (ces q) = E at *
      generalize q.length = n at *
      clear h hb0 hz0 x0 hlen hE hW0 hs hn
      go_enter Try.func23, Try.ntmps23
      go_wp2_with fail
      rw [← HW.out]
      refine HC.out.mono ?_
      rintro e w1 ⟨rfl, hb1⟩
      have HC1 := Lib.hid (HCp.out w1 hb1)
      have HB1 := Lib.hid hb1
      clear hb1
      go_wp2_with fail
      refine HC1.out.mono ?_
      rintro e w2 ⟨g, q2, rfl, hq2, hl2, ho2, hb2⟩
      have hb02 := HB1.out.trans (hb2.mono HB1.out.size)
      have x2 : Boxed w2 w.heap.size 24 (.slice none 0 0) := (hb02.block _ HX0.out.lt).trans HX0.out
      obtain ⟨r0, hbR⟩ := res_set (.slice (some ⟨g, 0, none⟩) 96 96) x2 (HB0.out.trans (hb02.mono HB0.out.size)) (Nat.le_refl _)
      have c0 := x2.cell
      have f0 := x2.frozen
      have HB := Lib.hid hbR
      have HO := Lib.hid (show OwnA w.heap.size (w2.setCell ⟨w.heap.size, 0, none⟩ (.slice (some ⟨g, 0, none⟩) 96 96)) (some ⟨g, 0, none⟩) 96 q2 from
        (ho2.turn (turn_set _ _ _ _) (fun i hi _ e => by have := HB1.out.size; have := HZ0.out; omega)).mono (by have := HB1.out.size; have := HZ0.out; omega))
      have HQ2 := Lib.hid (And.intro hq2 hl2)
      clear hb2 hb02 x2 hbR hq2 hl2 ho2
      go_wp2
      refine bodyPost_ret (v := .tuple #[.agg #[.slice (some ⟨g, 0, none⟩) 96 96], .int .i64 0]) (by simp [results, Try.results23, go_sem, r0]) rfl ?_
      rw [HE.out, HL.out]
      exact ⟨some ⟨g, 0, none⟩, 96, q2, by rw [HQ2.out.2], HQ2.out.1, HO.out, HB.out⟩

end Go.Proofs.Ytpdebkpblpipcaa
