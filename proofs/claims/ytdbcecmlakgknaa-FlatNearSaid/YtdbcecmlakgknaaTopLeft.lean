/-
  How often hits stand in a row and among its first ones. No program is named here.
-/
import Derived.Test.YtdbcecmlakgknaaTopCount
import Derived.Test.YtdbcecmlakgknaaMTop
namespace Go.Proofs.Ytdbcecmlakgknaa
namespace TopL
open Go.RowKit Go.Shelf Go.Maps
set_option linter.unusedVariables false
set_option linter.unusedSimpArgs false

theorem first_count (k : Nat) (X : List HitM) (x : HitM) : (firstM k X).count x ≤ X.count x := by
  rw [← (sort_perm X).count_eq x]
  exact (List.take_sublist k _).count_le x
theorem left_behind (k : Nat) (X : List HitM) (x : HitM) (j : Nat) (h : (firstM k X).count x < X.count x) (hj : j < (firstM k X).length) : ahead x ((firstM k X).getD j z2) = false := by
  have hs := sort_srt X
  have he : sortM X = (sortM X).take k ++ (sortM X).drop k := (List.take_append_drop k _).symm
  have hc : X.count x = (firstM k X).count x + ((sortM X).drop k).count x := by
    rw [← (sort_perm X).count_eq x]
    conv => lhs; rw [he]
    rw [List.count_append]
    rfl
  have hm : x ∈ (sortM X).drop k := List.count_pos_iff.1 (by omega)
  rw [he] at hs
  unfold Srt at hs
  rw [List.pairwise_append] at hs
  exact hs.2.2 _ (getD_mem2 hj) x hm
def upF (X : List HitM) (j : Nat) : HitM → Int := fun h => ((X.take j).count h : Nat)
def downF (X Y : List HitM) (j : Nat) : HitM → Int := fun h => (X.count h : Nat) - ((Y.take j).count h : Nat)
theorem take_snoc2 {X : List HitM} {j : Nat} (hj : j < X.length) : X.take (j + 1) = X.take j ++ [X.getD j z2] := by
  rw [List.take_add_one, List.getElem?_eq_getElem hj]
  simp [List.getD, hj]
theorem count_snoc {X : List HitM} {j : Nat} (hj : j < X.length) (h : HitM) : (X.take (j + 1)).count h = (X.take j).count h + (if h = X.getD j z2 then 1 else 0) := by
  rw [take_snoc2 hj, List.count_append, List.count_singleton]
  by_cases e : h = X.getD j z2
  · rw [if_pos e, e]; simp
  · rw [if_neg e]
    rw [if_neg (by rw [beq_iff_eq]; exact fun e2 => e e2.symm)]
theorem up_zero (X : List HitM) : upF X 0 = fun _ => 0 := by funext h; simp [upF]
theorem up_step {X : List HitM} {j : Nat} (hj : j < X.length) : updH (upF X j) (X.getD j z2) (upF X j (X.getD j z2) + 1) = upF X (j + 1) := by
  funext h
  unfold updH upF
  rw [count_snoc hj]
  by_cases e : h = X.getD j z2
  · rw [if_pos e, if_pos e, e]; omega
  · rw [if_neg e, if_neg e]; omega
theorem down_zero (X Y : List HitM) : downF X Y 0 = upF X X.length := by funext h; simp [downF, upF]
theorem down_step {X Y : List HitM} {j : Nat} (hj : j < Y.length) : updH (downF X Y j) (Y.getD j z2) (downF X Y j (Y.getD j z2) - 1) = downF X Y (j + 1) := by
  funext h
  unfold updH downF
  rw [count_snoc hj]
  by_cases e : h = Y.getD j z2
  · rw [if_pos e, if_pos e, e]; omega
  · rw [if_neg e, if_neg e]; omega
theorem take_count {X : List HitM} (j : Nat) (h : HitM) : (X.take j).count h ≤ X.count h := (List.take_sublist j X).count_le h
theorem up_in (X : List HitM) (j : Nat) (h : HitM) : 0 ≤ upF X j h ∧ upF X j h ≤ X.length := by
  unfold upF
  have := List.count_le_length (a := h) (l := X.take j)
  have : (X.take j).length ≤ X.length := by simp; omega
  omega
theorem down_in (k : Nat) (X : List HitM) (j : Nat) (h : HitM) : 0 ≤ downF X (firstM k X) j h ∧ downF X (firstM k X) j h ≤ X.length := by
  unfold downF
  have h1 := first_count k X h
  have h2 := take_count (X := firstM k X) j h
  have := List.count_le_length (a := h) (l := X)
  omega
/-- Who is left stands ahead of nobody who is in. -/
theorem down_left {k : Nat} {X : List HitM} {x : HitM} {j : Nat} (h : 0 < downF X (firstM k X) (firstM k X).length x) (hj : j < (firstM k X).length) : ahead x ((firstM k X).getD j z2) = false := by
  refine left_behind k X x j ?_ hj
  unfold downF at h
  rw [List.take_length] at h
  omega
theorem first_fit {k : Nat} {X : List HitM} (h : ∀ x ∈ X, wfH x) : ∀ x ∈ firstM k X, wfH x := fun x hx => h x (first_mem hx)
theorem fit_at {X : List HitM} {j : Nat} (h : ∀ x ∈ X, wfH x) (hj : j < X.length) : wfH (X.getD j z2) := h _ (getD_mem2 hj)
theorem told {D : DataW Value} {f : HitM → Int} (h : TellsH D f) {x : HitM} {c : Int} {kl : Lit} {y : DataW Value × List MemPlace} (hk : keyOf Try.prog 76 (hK x) = some kl) (hy : Ri (.int .i64 c) = some y) (ha : ∀ zd, D.atKey kl zd = y.1) : c = f x ∧ wfH x := by
  have h1 := h x kl hk
  rw [ha] at h1
  obtain ⟨c', ec, e2, _⟩ := plainElem_int_inv Try.underlying3 hy
  rw [e2] at h1
  injection ec with _ ec
  injection h1 with h1
  injection h1 with _ h1
  refine ⟨by rw [ec]; exact h1, ?_⟩
  obtain ⟨x', e, hw⟩ := key_inv hk
  rw [hv_inj e]
  exact hw
end TopL
end Go.Proofs.Ytdbcecmlakgknaa
