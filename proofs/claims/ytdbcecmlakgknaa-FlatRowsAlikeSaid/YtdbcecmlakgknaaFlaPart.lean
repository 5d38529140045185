/-
  Two masks: what is found through both is found through each.
-/
import Derived.Test.YtdbcecmlakgknaaMFla
namespace Go.Proofs.Ytdbcecmlakgknaa
open MskL (Mk Fine)
open TopL (HitM firstM isKM)
set_option linter.unusedVariables false
set_option linter.unusedSimpArgs false

/-- The slots of n that m has not. -/
def mnM (n m : Mk) : Mk := (n.1 &&& (18446744073709551615 - m.1), n.2 &&& (18446744073709551615 - m.2))
def orM11 (m n : Mk) : Mk := (m.1 ||| n.1, m.2 ||| n.2)
theorem mn_fine {n m : Mk} (h : Fine n) : Fine (mnM n m) := ⟨Nat.lt_of_le_of_lt Nat.and_le_left h.1, Nat.lt_of_le_of_lt Nat.and_le_left h.2⟩
theorem or_fine {m n : Mk} (hm : Fine m) (hn : Fine n) : Fine (orM11 m n) := ⟨Nat.or_lt_two_pow (n := 64) hm.1 hn.1, Nat.or_lt_two_pow (n := 64) hm.2 hn.2⟩
theorem inB_or (m n : Mk) (k : Nat) : inB (orM11 m n) k = (inB m k || inB n k) := by
  unfold inB orM11
  split <;> simp [Nat.testBit_or]
theorem inB_mn {n m : Mk} (hm : Fine m) {k : Nat} (hk : k < 128) : inB (mnM n m) k = (inB n k && !inB m k) := by
  unfold inB mnM
  split
  · rename_i h
    simp only [Nat.testBit_and, MskL.not_bit m.1 k hm.1 h]
  · simp only [Nat.testBit_and, MskL.not_bit m.2 (k - 64) hm.2 (by omega)]
/-- What is in one of two that have nothing in common. -/
theorem inK_or {f g h : Nat → Bool} {l : List Ce} : ∀ k, (∀ j, j < k → h j = (f j || g j) ∧ (f j && g j) = false) → (inK h l k).Perm (inK f l k ++ inK g l k) := by
  intro k
  induction k with
  | zero => intro _; exact List.Perm.refl _
  | succ k ih =>
    intro hj
    have ih := ih (fun j hk => hj j (by omega))
    obtain ⟨h1, h2⟩ := hj k (by omega)
    show (inK h l k ++ _).Perm ((inK f l k ++ _) ++ (inK g l k ++ _))
    rw [h1]
    cases hu : (ceAt l k).u with
    | false => simpa using ih
    | true =>
      cases hf : f k with
      | false =>
        cases hg : g k with
        | false => simpa using ih
        | true =>
          simp only [Bool.true_and, Bool.false_or, Bool.false_eq_true, if_false, if_true, List.append_nil]
          rw [← List.append_assoc]
          exact ih.append_right _
      | true =>
        cases hg : g k with
        | true => rw [hf, hg] at h2; cases h2
        | false =>
          simp only [Bool.true_and, Bool.true_or, Bool.false_eq_true, if_false, if_true, List.append_nil]
          rw [List.append_assoc]
          refine (ih.append_right _).trans ?_
          rw [List.append_assoc]
          exact List.Perm.append_left _ List.perm_append_comm
theorem dim_perm {l l' : List Rv} (h : l.Perm l') (v : List Int) : dimB l v = dimB l' v := by
  unfold dimB
  rw [Bool.eq_iff_iff, List.all_eq_true, List.all_eq_true]
  exact ⟨fun a x hx => a x (h.mem_iff.2 hx), fun a x hx => a x (h.mem_iff.1 hx)⟩
theorem dim_app (l l' : List Rv) (v : List Int) : dimB (l ++ l') v = (dimB l v && dimB l' v) := by unfold dimB; rw [List.all_append]
/-- Of two masks together it is the first ones of what is found through each. -/
theorem scan_two {kq : Int} {l : List Ce} {f g h : Nat → Bool} {v : List Int} (hh : ∀ j, j < 96 → h j = (f j || g j) ∧ (f j && g j) = false) (he : scanE kq l h v = 0) :
    scanE kq l f v = 0 ∧ scanE kq l g v = 0 ∧ isKM kq = true ∧ (scanL kq l f v).length ≤ 96 ∧ (scanL kq l g v).length ≤ 96 ∧ scanL kq l h v = firstM kq.toNat (scanL kq l f v ++ scanL kq l g v) := by
  have hc : chkQ kq v = 0 := by
    unfold scanE at he
    by_cases h1 : chkQ kq v = 0
    · exact h1
    · rw [if_neg h1] at he; exact absurd he h1
  have ha : chkA l = 0 := by
    unfold scanE at he
    rw [if_pos hc] at he
    by_cases h1 : chkA l = 0
    · exact h1
    · rw [if_neg h1] at he; exact absurd he h1
  have hl := arB_len ((chkA_iff _).1 ha)
  have hn : nearE (inK h l l.length) v = 0 := by unfold scanE at he; rwa [if_pos hc, if_pos ha] at he
  have hp := inK_or (f := f) (g := g) (h := h) (l := l) l.length (fun j hj => hh j (by omega))
  have hd : dimB (inK h l l.length) v = true := by
    unfold nearE at hn
    cases hd : dimB (inK h l l.length) v with
    | true => rfl
    | false => rw [hd] at hn; simp at hn
  rw [dim_perm hp, dim_app, Bool.and_eq_true] at hd
  have hnf : nearE (inK f l l.length) v = 0 := by unfold nearE; rw [if_pos hd.1]
  have hng : nearE (inK g l l.length) v = 0 := by unfold nearE; rw [if_pos hd.2]
  have hef : scanE kq l f v = 0 := by unfold scanE; rw [if_pos hc, if_pos ha]; exact hnf
  have heg : scanE kq l g v = 0 := by unfold scanE; rw [if_pos hc, if_pos ha]; exact hng
  have e1 : scanL kq l f v = firstM kq.toNat (hitL (inK f l l.length) v) := by unfold scanL; rw [if_pos hef]
  have e2 : scanL kq l g v = firstM kq.toNat (hitL (inK g l l.length) v) := by unfold scanL; rw [if_pos heg]
  have e3 : scanL kq l h v = firstM kq.toNat (hitL (inK h l l.length) v) := by unfold scanL; rw [if_pos he]
  have hlf := inK_len f l l.length
  have hlg := inK_len g l l.length
  refine ⟨hef, heg, (chkQ_ok hc).1, ?_, ?_, ?_⟩
  · rw [e1, TopL.first_length, hit_length]; omega
  · rw [e2, TopL.first_length, hit_length]; omega
  · have hpp : (hitL (inK h l l.length) v).Perm (hitL (inK f l l.length) v ++ hitL (inK g l l.length) v) := by
      unfold hitL
      rw [← List.map_append]
      exact hp.map _
    rw [e1, e2, e3, TopL.first_parts2, TopL.first_perm kq.toNat hpp]
theorem scan_none {kq : Int} {l : List Ce} {f : Nat → Bool} {v : List Int} (he : ¬ scanE kq l f v = 0) : scanL kq l f v = [] := by unfold scanL; rw [if_neg he]

end Go.Proofs.Ytdbcecmlakgknaa
