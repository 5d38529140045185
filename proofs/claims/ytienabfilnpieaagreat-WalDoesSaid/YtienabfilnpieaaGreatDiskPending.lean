/-
  Pending.
-/
import Derived.Test.YtienabfilnpieaaGreatDiskPieces
import Derived.Maps.OwnIn
namespace Go.Proofs.YtienabfilnpieaaGreat
open Go.RowKit Go.Shelf
set_option linter.unusedVariables false
set_option maxRecDepth 100000
attribute [local go_sem] Oper.semAt_some

def AD.pend (M : AD) : List Int := M.pcs.map (fun x => (x.nm : Int))

/-- A box, and the row to which what it holds leads. -/
def boxDirt (B : Nat) (W : World) (k : Nat) : Prop := k = B ∨ ∃ v, W.cell? ⟨B, 0, none⟩ = some v ∧ v.ownBlock = some k
theorem boxDirt_grow {B n₀ : Nat} (hB : B < n₀) : Dirt n₀ (boxDirt B) := by
  refine ⟨fun W W' hn hg k hk => ?_⟩
  rcases hk with e | ⟨v, hv, hb⟩
  · exact .inl e
  · exact .inr ⟨v, (World.cell?_of_block (a := ⟨B, 0, none⟩) (hg.block B (by omega) (by simp))).symm.trans hv, hb⟩

theorem kq_put {B : Nat} {W : World} {l : Nat} {o : Obj} (o' : Obj) (hl : W.heap[l]? = some o) (h1 : o.isCells = false) (h2 : o.isWalk = false) (hne : B ≠ l) : Kq (boxDirt B) W (W.putObj l o') := by
  have hg := grownBy_putObj' W l o'
  have hsz : (W.putObj l o').heap.size = W.heap.size := by simp [World.putObj]
  have hcell : (W.putObj l o').cell? ⟨B, 0, none⟩ = W.cell? ⟨B, 0, none⟩ := by
    unfold World.cell?
    rw [World.putObj_heap_other hne]
  have hd : ∀ k, boxDirt B (W.putObj l o') k → boxDirt B W k := fun k hk => by
    unfold boxDirt at hk ⊢
    rw [hcell] at hk
    exact hk
  refine ⟨Nat.le_of_eq hsz.symm, fun k o2 hk hkind hn => ?_, fun k hk => .inl (hd k hk), fun hlow k hk => by rw [hsz]; exact hlow k (hd k hk)⟩
  rw [World.putObj_heap_other ?_]
  · exact hk
  · rintro rfl
    rw [hl] at hk
    cases hk
    rcases hkind with e | e
    · rw [h1] at e; cases e
    · rw [h2] at e; cases e

theorem kq_append {B n₀ : Nat} {t e : TypeId} {W w1 : World} {v v' : Value} {k m : Nat} {xs ys : List Value} {tmp : Obj} (hv : Boxed W B t v) (hte : t ≠ e) (hrow : W.ownsRow n₀ e 1 v k xs) (hown' : w1.ownsRow n₀ e 1 v' m ys) (hgrow : (W.alloc tmp).grownBy w1 v.ownBlock)
    (hloc : v'.ownBlock = v.ownBlock ∨ v'.ownBlock = some (W.alloc tmp).heap.size) : Kq (boxDirt B) W (w1.setCell ⟨B, 0, none⟩ v') := by
  have hv1 : Boxed w1 B t v := (hv.alloc tmp).kept hgrow (hv.not_row hte hrow)
  have hv2 := hv1.set v'
  have hs1 := hgrow.size
  have hsz : (w1.setCell ⟨B, 0, none⟩ v').heap.size = w1.heap.size := by simp [World.setCell]
  simp at hs1
  have hnew : ∀ j, boxDirt B (w1.setCell ⟨B, 0, none⟩ v') j → boxDirt B W j ∨ (W.heap.size ≤ j ∧ j < w1.heap.size) := fun j hj => by
    rcases hj with e1 | ⟨u, hu, hb⟩
    · exact .inl (.inl e1)
    · rw [hv2.cell] at hu
      cases hu
      rcases hloc with e1 | e1
      · exact .inl (.inr ⟨v, hv.cell, by rw [← e1]; exact hb⟩)
      · have hlt := (hown'.lt j hb).2
        rw [e1] at hb
        simp at hb
        exact .inr ⟨by omega, hlt⟩
  refine ⟨by rw [hsz]; omega, fun j o hj hkind hn => ?_, fun j hj => (hnew j hj).imp id (·.1), fun hlow j hj => ?_⟩
  · have hjlt := (Array.getElem?_eq_some_iff.1 hj).1
    have hjB : j ≠ B := fun e => hn (.inl e)
    have hjr : some j ≠ v.ownBlock := fun e => hn (.inr ⟨v, hv.cell, e.symm⟩)
    rw [Below.heap_setCell w1 ⟨B, 0, none⟩ v' j hjB, hgrow.block j (by simp; omega) hjr, Below.heap_alloc W tmp j hjlt]
    exact hj
  · rw [hsz]
    rcases hnew j hj with e | e
    · have := hlow j e; omega
    · exact e.2

theorem pcs_all (M : AD) : M.pcs = M.pcsOf 0 ++ M.pcsOf 1 ++ M.pcsOf 2 ++ M.pcsOf 3 := by
  have e : ∀ L : List Nat, (L.filter (fun i : Nat => (M.files (i : Int)).isSome)).flatMap M.pcsOf = L.flatMap M.pcsOf := by
    intro L
    induction L with
    | nil => rfl
    | cons a L ih =>
      rw [List.filter_cons]
      split
      · rw [List.flatMap_cons, List.flatMap_cons, ih]
      · rename_i hn
        have h0 : M.pcsOf a = [] := by
          unfold AD.pcsOf
          rcases hf : M.files (a : Int) with _ | F
          · rfl
          · rw [hf] at hn; simp at hn
        rw [List.flatMap_cons, h0, ih]
        rfl
  unfold AD.pcs AD.below'
  rw [e]
  simp [List.range_succ]
theorem pcsOf_le (M : AD) (k : Nat) : (M.pcsOf k).length ≤ M.len (k : Int) := by
  unfold AD.pcsOf AD.len
  rcases M.files (k : Int) with _ | F
  · simp
  · simp [pcsAt, AF.pn]; omega
theorem pcs_le (M : AD) : M.pcs.length ≤ M.total := by
  rw [pcs_all]
  have h0 := pcsOf_le M 0
  have h1 := pcsOf_le M 1
  have h2 := pcsOf_le M 2
  have h3 := pcsOf_le M 3
  simp at *
  unfold AD.total
  omega

end Go.Proofs.YtienabfilnpieaaGreat
