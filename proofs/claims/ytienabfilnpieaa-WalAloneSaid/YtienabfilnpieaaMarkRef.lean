/-
  What the document's On, Of, Back and Seal answer; bytes.Equal; bytes.Clone.
-/
import Derived.Test.YtienabfilnpieaaFieldEqual
import Derived.Test.YtienabfilnpieaaMarkWalk
namespace Go.Proofs.Ytienabfilnpieaa
open Go.RowKit
set_option maxRecDepth 100000
set_option linter.unusedVariables false

theorem str_inj : ∀ (a b : List Int), Oct a → Oct b → strOfNums a = strOfNums b → a = b := by
  intro a b ha hb h
  have h1 : (a.map fun n => UInt8.ofNat n.toNat) = (b.map fun n => UInt8.ofNat n.toNat) := by
    unfold strOfNums at h
    injection h with h
    exact List.toArray_inj h
  clear h
  induction a generalizing b with
  | nil => cases b <;> simp at h1 ⊢
  | cons x a ih =>
    cases b with
    | nil => simp at h1
    | cons y b =>
      simp only [List.map_cons, List.cons.injEq] at h1
      have hx := ha.head
      have hy := hb.head
      have e : x = y := by
        have := congrArg UInt8.toNat h1.1
        simp only [UInt8.toNat_ofNat'] at this
        omega
      rw [e, ih b ha.tail hb.tail h1.2]

theorem equal_any (A A' : Option Addr) (c c' : Nat) (bs cs : List Int) (w : World) (h : Sl w A c bs) (h' : Sl w A' c' cs) (o : Oct bs) (o' : Oct cs) :
    Calls Try.prog 25 #[.slice A bs.length c, .slice A' cs.length c'] w fun e w' => e = .returned (.bool (decide (bs = cs))) ∧ w = w' := by
  have k1 := fConvert_b h
  have k2 := fConvert_b h'
  have hd : Hid (decide (bs = cs) = ((strOfNums bs).toList == (strOfNums cs).toList)) := by
    unfold Hid
    by_cases e : bs = cs
    · subst e; simp
    · rw [decide_eq_false e]
      have : strOfNums bs ≠ strOfNums cs := fun h => e (str_inj bs cs o o' h)
      rw [ByteArray.toList_eq, ByteArray.toList_eq]
      symm
      rw [beq_eq_false_iff_ne]
      intro h
      exact this (Go.WideShapes.bytes_inj h)
  clear h h' o o'
  generalize strOfNums bs = s at *
  generalize strOfNums cs = t at *
  generalize decide (bs = cs) = d at *
  go_enter Try.func25, Try.ntmps25
  go_wp2
  go_ret
  rw [hd.out]
  exact ⟨rfl, rfl⟩

/-- The factor's powers, two by two. -/
def inv : Nat → Int × Int
  | 0 => (1, 1099511628211)
  | k + 1 => ((inv k).1 * (inv k).2 % 18446744073709551616, (inv k).2 * (inv k).2 % 18446744073709551616)
theorem inv_all : (inv 62).1 = 14886173955864302971 := by decide +kernel

end Go.Proofs.Ytienabfilnpieaa
