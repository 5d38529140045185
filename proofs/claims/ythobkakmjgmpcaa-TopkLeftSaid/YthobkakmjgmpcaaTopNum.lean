/-
  Numbers that the laws reckon, and parts of rows of hits.
-/
import Derived.Test.YthobkakmjgmpcaaTopRef2
namespace Go.Proofs.Ythobkakmjgmpcaa
open Go.RowKit Go.Shelf
set_option linter.unusedVariables false
set_option linter.unusedSimpArgs false

theorem tmod_in (k : Int) (m : Nat) (hm : 0 < m) : -(m : Int) < k.tmod m ∧ k.tmod m < m := by
  rcases Int.le_total 0 k with h | h
  · exact ⟨by have := Int.tmod_nonneg (m : Int) h; omega, Int.tmod_lt_of_pos k (by omega)⟩
  · have e : k.tmod m = -((-k).tmod m) := by rw [Int.neg_tmod]; omega
    have h1 := Int.tmod_lt_of_pos (-k) (b := (m : Int)) (by omega)
    have h2 := Int.tmod_nonneg (m : Int) (a := -k) (by omega)
    omega
theorem wrap64_fit {x : Int} (h : -9223372036854775808 ≤ x ∧ x < 9223372036854775808) : wrap64 x = x := by unfold wrap64; omega
theorem kmod (k : Int) : ∃ kk : Nat, 1 ≤ kk ∧ kk ≤ 16 ∧ wrap64 ((wrap64 (k.tmod 16 + 16)).tmod 16 + 1) = kk := by
  have h1 : -16 < k.tmod 16 ∧ k.tmod 16 < 16 := tmod_in k 16 (by omega)
  have e1 : wrap64 (k.tmod 16 + 16) = k.tmod 16 + 16 := wrap64_fit (by omega)
  rw [e1]
  have h2 : -16 < (k.tmod 16 + 16).tmod 16 ∧ (k.tmod 16 + 16).tmod 16 < 16 := tmod_in (k.tmod 16 + 16) 16 (by omega)
  have h3 := Int.tmod_nonneg (16 : Int) (a := k.tmod 16 + 16) (by omega)
  have e2 : wrap64 ((k.tmod 16 + 16).tmod 16 + 1) = (k.tmod 16 + 16).tmod 16 + 1 := wrap64_fit (by omega)
  rw [e2]
  exact ⟨((k.tmod 16 + 16).tmod 16 + 1).toNat, by omega, by omega, by omega⟩
theorem umod (x : Int) (q : Nat) (hq : 0 < q) (hb : q ≤ 1000000) : ∃ t : Nat, t < q ∧ wrap64 ((IntKind.u64.wrap x).tmod q) = t := by
  have h0 : 0 ≤ IntKind.u64.wrap x := by rw [IntKind.wrap_u64]; omega
  have h1 := Int.tmod_nonneg (q : Int) h0
  have h2 := Int.tmod_lt_of_pos (IntKind.u64.wrap x) (b := (q : Int)) (by omega)
  have e : wrap64 ((IntKind.u64.wrap x).tmod q) = (IntKind.u64.wrap x).tmod q := wrap64_fit (by omega)
  rw [e]
  exact ⟨((IntKind.u64.wrap x).tmod q).toNat, by omega, by omega⟩

theorem Hits.drop {w : World} {b o c t : Nat} {l : List HitM} (h : Hits w (some ⟨b, o, none⟩) c l) : Hits w (some ⟨b, o + t * 2, none⟩) (c - t) (l.drop t) := by
  have hr := h.room
  have hm := h.most
  refine ⟨by rw [List.length_drop]; omega, by omega, fun hp => ?_⟩
  have hl : (l.drop t).length = l.length - t := List.length_drop
  obtain ⟨b', o', e, hb, hc⟩ := h.rd (by omega)
  injection e with e
  injection e with e1 e2
  subst e1
  subst e2
  refine ⟨b, o + t * 2, rfl, hb, fun j hj => ?_⟩
  have hg : (l.drop t).getD j z2 = l.getD (t + j) z2 := by simp [List.getD, List.getElem?_drop]
  have := hc (t + j) (by omega)
  rw [show o + (t + j) * 2 = o + t * 2 + j * 2 by omega] at this
  rw [hg]
  exact this
theorem Hits.at0 {w : World} {b o c : Nat} {l : List HitM} (h : Hits w (some ⟨b, 0 + o, none⟩) c l) (_ : True := trivial) : Hits w (some ⟨b, o, none⟩) c l := by rw [Nat.zero_add] at h; exact h
theorem first_okM {k : Nat} {X : List HitM} (h : isKM k = true) (hX : X.length ≤ 2000) : mergeE k [X] = 0 ∧ mergeL k [X] = firstM k X := by
  obtain ⟨h1, h2⟩ := merge_ok (ls := [X]) h (by rw [sumL_one]; omega)
  refine ⟨h1, ?_⟩
  rw [h2, Int.toNat_natCast]
  simp
theorem first_k {k : Nat} (h : isKM k = true) (A : Option Addr) (c : Nat) (l : List HitM) (w : World) (hl : Hits w A c l) (hX : l.length ≤ 2000) :
    Calls Try.prog 13 #[.slice A l.length c, .int .i64 k] w fun e w' => Ans w e w' (firstM k l) 0 := by
  have := first_any k A c l w hl (by omega)
  rw [(first_okM h hX).1, (first_okM h hX).2] at this
  exact this
theorem same_yes (A B : Option Addr) (c d : Nat) (l : List HitM) (w : World) (h : Hits w A c l) (h' : Hits w B d l) :
    Calls Try.prog 21 #[.slice A l.length c, .slice B l.length d] w fun e w' => e = .returned (.bool true) ∧ Below w.heap.size w w' := by
  have := same_any A B c d l l w h h'
  simpa using this
theorem rSame_yes (A B : Option Addr) (c d : Nat) (l : List HitM) (w : World) (h : Hits w A c l) (h' : Hits w B d l) :
    Calls Try.prog 14 #[.slice A l.length c, .slice B l.length d] w fun e w' => e = .returned (.bool true) ∧ Below w.heap.size w w' := by
  have := rSame_any A B c d l l w h h'
  simpa using this
/-- The other way round, so far. -/
theorem rev_step (X : List HitM) (i r : Nat) (hi : i + r + 1 = X.length) : ((X.reverse.take i) ++ X.drop i).set i (X.getD r z2) = X.reverse.take (i + 1) ++ X.drop (i + 1) := by
  have e1 : X.reverse[i]? = some (X.getD r z2) := by
    rw [List.getElem?_reverse (by omega), show X.length - 1 - i = r by omega]
    exact hgetD_some (by omega)
  have e2 : X.drop i = X.getD i z2 :: X.drop (i + 1) := by
    rw [List.drop_eq_getElem_cons (by omega)]
    congr 1
    simp [List.getD, show i < X.length by omega]
  have hl : (X.reverse.take i).length = i := by simp; omega
  rw [List.take_add_one, e1, e2, List.set_append_right _ _ (by omega), hl, Nat.sub_self, List.append_assoc]
  rfl
end Go.Proofs.Ythobkakmjgmpcaa
