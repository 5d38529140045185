/-
  Merge, First, Offer.
-/
import Derived.Test.YthobkakmjgmpcaaTopTop
namespace Go.Proofs.Ythobkakmjgmpcaa
open Go.RowKit Go.Shelf
set_option linter.unusedVariables false
set_option linter.unusedSimpArgs false
set_option maxRecDepth 100000

def mergeE (k : Int) (ls : List (List HitM)) : Int := if isKM k = true then (if 2000 < sumL ls then 3 else 0) else 2
def mergeL (k : Int) (ls : List (List HitM)) : List HitM := if mergeE k ls = 0 then firstM k.toNat ls.flatten else []
theorem merge_bad {k : Int} {ls : List (List HitM)} (h : isKM k = false) : mergeE k ls = 2 ∧ mergeL k ls = [] := by
  have e : mergeE k ls = 2 := by unfold mergeE; rw [if_neg (by rw [h]; simp)]
  exact ⟨e, by unfold mergeL; rw [e]; rfl⟩
theorem merge_long {k : Int} {ls : List (List HitM)} (h : isKM k = true) (h2 : 2000 < sumL ls) : mergeE k ls = 3 ∧ mergeL k ls = [] := by
  have e : mergeE k ls = 3 := by unfold mergeE; rw [if_pos h, if_pos h2]
  exact ⟨e, by unfold mergeL; rw [e]; rfl⟩
theorem merge_ok {k : Int} {ls : List (List HitM)} (h : isKM k = true) (h2 : ¬ 2000 < sumL ls) : mergeE k ls = 0 ∧ mergeL k ls = firstM k.toNat ls.flatten := by
  have e : mergeE k ls = 0 := by unfold mergeE; rw [if_pos h, if_neg h2]
  exact ⟨e, by unfold mergeL; rw [e]; rfl⟩
/-- What an answer is: hits in memory of their own, and an error. -/
def Ans (w : World) (e : Ending) (w' : World) (L : List HitM) (E : Int) : Prop :=
  ∃ B cb, e = .returned (.tuple #[.slice B L.length cb, .int .i64 E]) ∧ w'.ownsRow w.heap.size 32 2 (.slice B L.length cb) L.length (flat L) ∧ Below w.heap.size w w'
theorem ans_nil {w w' : World} {E : Int} (hb : Below w.heap.size w w') : Ans w (.returned (.tuple #[.slice none 0 0, .int .i64 E])) w' [] E := ⟨none, 0, rfl, World.ownsRow_nil _ _ _ _, hb⟩

set_option maxHeartbeats 1000000 in
theorem merge_any (k : Int) (A : Option Addr) (c : Nat) (ls : List (List HitM)) (w : World) (h : Rows w A c ls) (hb : sumL ls ≤ 1000000000) :
    Calls Try.prog 16 #[.int .i64 k, .slice A ls.length c] w fun e w' => Ans w e w' (mergeL k ls) (mergeE k ls) := by
  have HI := Lib.hid (fun V => isK_any k V)
  have HT := Lib.hid (tooMany_any A c ls w h hb)
  cases hk : isKM k with
  | false =>
    obtain ⟨h1, h2⟩ := merge_bad (ls := ls) hk
    rw [h1, h2]
    rw [hk] at HI
    generalize ls.length = n at *
    clear h hb HT hk h1 h2
    go_enter Try.func16, Try.ntmps16
    go_wp2_with (go_at_call 25; refine (HI.out _).mono ?_; rintro e w' ⟨rfl, rfl⟩)
    go_ret2
    exact ans_nil (Below.refl _ _)
  | true =>
    have hk2 := (isK_iff k).1 hk
    by_cases hm : 2000 < sumL ls
    · obtain ⟨h1, h2⟩ := merge_long hk hm
      rw [h1, h2]
      rw [hk] at HI
      rw [decide_eq_true hm] at HT
      generalize ls.length = n at *
      clear h hb hk h1 h2 hm hk2
      go_enter Try.func16, Try.ntmps16
      go_wp2_with (first | (go_at_call 25; refine (HI.out _).mono ?_; rintro e w' ⟨rfl, rfl⟩) | (go_at_call 26; refine HT.out.mono ?_; rintro e w' ⟨rfl, rfl⟩))
      go_ret2
      exact ans_nil (Below.refl _ _)
    · obtain ⟨h1, h2⟩ := merge_ok hk hm
      obtain ⟨kk, rfl⟩ : ∃ kk : Nat, k = kk := ⟨k.toNat, by omega⟩
      rw [Int.toNat_natCast] at h2
      have HF := Lib.hid (firstOf_any A c kk ls w h (by omega) (by omega))
      rw [h1, h2]
      rw [hk] at HI
      rw [decide_eq_false hm] at HT
      generalize firstM kk ls.flatten = R at *
      generalize ls.length = n at *
      clear h hb hk h1 h2 hm hk2
      go_enter Try.func16, Try.ntmps16
      go_wp2_with (first | (go_at_call 25; refine (HI.out _).mono ?_; rintro e w' ⟨rfl, rfl⟩) | (go_at_call 26; refine HT.out.mono ?_; rintro e w' ⟨rfl, rfl⟩))
      refine HF.out.mono ?_
      rintro e w1 ⟨B, cb, rfl, hr, hb1⟩
      have HX := Lib.hid (And.intro hr hb1)
      clear hr hb1
      go_wp2
      go_ret2
      exact ⟨B, cb, rfl, HX.out.1, HX.out.2⟩

theorem rows_one {w W : World} {g cb : Nat} {B : Option Addr} {x : List HitM} (hc : W.cell? ⟨g, 0, none⟩ = some (.slice B x.length cb)) (hx : Hits W B cb x) : Rows W (some ⟨g, 0, none⟩) 1 [x] :=
  ⟨by simp, by omega, fun _ => ⟨g, 0, rfl, World.block_lt_of_cell? W _ hc, fun i y hy => by
    cases i with
    | zero => simp at hy; subst hy; exact ⟨B, cb, hc, hx⟩
    | succ i => simp at hy⟩⟩
theorem rows_two {W : World} {g cb cb' : Nat} {B B' : Option Addr} {x x' : List HitM} (hc : W.cell? ⟨g, 0, none⟩ = some (.slice B x.length cb)) (hc' : W.cell? ⟨g, 1, none⟩ = some (.slice B' x'.length cb')) (hx : Hits W B cb x) (hx' : Hits W B' cb' x') : Rows W (some ⟨g, 0, none⟩) 2 [x, x'] :=
  ⟨by simp, by omega, fun _ => ⟨g, 0, rfl, World.block_lt_of_cell? W _ hc, fun i y hy => by
    match i, hy with
    | 0, hy => simp at hy; subst hy; exact ⟨B, cb, hc, hx⟩
    | 1, hy => simp at hy; subst hy; exact ⟨B', cb', by simpa using hc', hx'⟩
    | i + 2, hy => simp at hy⟩⟩
theorem sumL_one (l : List HitM) : sumL [l] = l.length := by simp [sumL]

theorem first_any (k : Int) (A : Option Addr) (c : Nat) (l : List HitM) (w : World) (h : Hits w A c l) (hb : l.length ≤ 1000000000) :
    Calls Try.prog 13 #[.slice A l.length c, .int .i64 k] w fun e w' => Ans w e w' (mergeL k [l]) (mergeE k [l]) := by
  obtain ⟨W, hW⟩ : ∃ W, W = w.alloc (.cells #[.slice A l.length c] 22) := ⟨_, rfl⟩
  have hbw : Below w.heap.size w W := by rw [hW]; exact (Below.refl _ w).alloc (Nat.le_refl _) _
  have HM := Lib.hid (merge_any k (some ⟨w.heap.size, 0, none⟩) 1 [l] W (rows_one (w := w) (by rw [hW]; exact cell_laid _ _ _ 0) (h.below hbw)) (by rw [sumL_one]; exact hb))
  have HB := Lib.hid hbw
  have HW := Lib.hid hW
  generalize mergeL k [l] = L at *
  generalize mergeE k [l] = E at *
  generalize l.length = n at *
  clear h hb hbw hW
  go_enter Try.func13, Try.ntmps13
  go_wp2_with fail
  rw [← HW.out]
  refine HM.out.mono ?_
  rintro e w1 ⟨B, cb, rfl, hr, hb1⟩
  have HX := Lib.hid (And.intro (hr.mono HB.out.size) (HB.out.trans (hb1.mono HB.out.size)))
  clear hr hb1
  go_wp2
  go_ret2
  exact ⟨B, cb, rfl, HX.out.1, HX.out.2⟩

end Go.Proofs.Ythobkakmjgmpcaa
