/-
  SameRow and SameVersion, the program's and the document's.
-/
import Derived.Test.YtpdebkpblpipcaaCodCheck
namespace Go.Proofs.Ytpdebkpblpipcaa
open Go.RowKit Go.Shelf
set_option linter.unusedVariables false
set_option linter.unusedSimpArgs false
set_option maxRecDepth 100000

def sameR (i j : Int) (xs ys : List Int) : Bool := decide (i = j) && decide (xs = ys)
def sameV (b b' e e' : Int) (xs ys : List Int) : Bool := decide (b = b') && (decide (e = e') && decide (xs = ys))

set_option maxHeartbeats 1000000 in
theorem sameVersion_any (b b' f f' : Int) (A A' : Option Addr) (c c' : Nat) (xs ys : List Int) (w : World) (h : Vec .i32 w A c xs) (h' : Vec .i32 w A' c' ys) :
    Calls Try.prog 27 #[.agg #[.int .u64 b, .int .u64 f, .slice A xs.length c], .agg #[.int .u64 b', .int .u64 f', .slice A' ys.length c']] w fun e w' => e = .returned (.bool (sameV b b' f f' xs ys)) ∧ Below w.heap.size w w' := by
  have hB : Below w.heap.size w ((w.alloc (.cells #[.int .u64 b, .int .u64 f, .slice A xs.length c] 43)).alloc (.cells #[.int .u64 b', .int .u64 f', .slice A' ys.length c'] 43)) := ((Below.refl _ w).alloc (Nat.le_refl _) _).alloc (by simp) _
  have HC := Lib.hid (same_any A A' c c' xs ys _ (h.below hB) (h'.below hB))
  have HB := Lib.hid hB
  have HR := Lib.hid (show sameV b b' f f' xs ys = (decide (b = b') && (decide (f = f') && decide (xs = ys))) from rfl)
  generalize sameV b b' f f' xs ys = R at *
  generalize decide (xs = ys) = D at *
  generalize xs.length = n at *
  generalize ys.length = m at *
  clear h h' hB
  by_cases hij : b = b'
  · subst hij
    by_cases hf : f = f'
    · subst hf
      have HR2 := Lib.hid (show R = D by rw [HR.out]; simp)
      clear HR
      go_enter Try.func27, Try.ntmps27
      go_wp2_with fail
      refine HC.out.mono ?_
      rintro e w1 ⟨rfl, hb1⟩
      have HB1 := Lib.hid (HB.out.trans (hb1.mono HB.out.size))
      clear hb1
      go_wp2
      go_ret
      rw [HR2.out]
      exact ⟨rfl, HB1.out⟩
    · have HR2 := Lib.hid (show R = false by rw [HR.out]; simp [hf])
      have t1 : (f == f') = false := by simpa using hf
      clear HR hf
      go_enter Try.func27, Try.ntmps27
      go_wp2
      go_ret
      rw [HR2.out]
      exact ⟨rfl, HB.out⟩
  · have HR2 := Lib.hid (show R = false by rw [HR.out]; simp [hij])
    have t1 : (b == b') = false := by simpa using hij
    clear HR hij
    go_enter Try.func27, Try.ntmps27
    go_wp2
    go_ret
    rw [HR2.out]
    exact ⟨rfl, HB.out⟩

set_option maxHeartbeats 1000000 in
theorem rSameVersion_any (b b' f f' : Int) (A A' : Option Addr) (c c' : Nat) (xs ys : List Int) (w : World) (h : Vec .i32 w A c xs) (h' : Vec .i32 w A' c' ys) :
    Calls Try.prog 41 #[.agg #[.int .u64 b, .int .u64 f, .slice A xs.length c], .agg #[.int .u64 b', .int .u64 f', .slice A' ys.length c']] w fun e w' => e = .returned (.bool (sameV b b' f f' xs ys)) ∧ Below w.heap.size w w' := by
  have hB : Below w.heap.size w ((w.alloc (.cells #[.int .u64 b, .int .u64 f, .slice A xs.length c] 43)).alloc (.cells #[.int .u64 b', .int .u64 f', .slice A' ys.length c'] 43)) := ((Below.refl _ w).alloc (Nat.le_refl _) _).alloc (by simp) _
  have HC := Lib.hid (rSame_any A A' c c' xs ys _ (h.below hB) (h'.below hB))
  have HB := Lib.hid hB
  have HR := Lib.hid (show sameV b b' f f' xs ys = (decide (b = b') && (decide (f = f') && decide (xs = ys))) from rfl)
  generalize sameV b b' f f' xs ys = R at *
  generalize decide (xs = ys) = D at *
  generalize xs.length = n at *
  generalize ys.length = m at *
  clear h h' hB
  by_cases hij : b = b'
  · subst hij
    by_cases hf : f = f'
    · subst hf
      have HR2 := Lib.hid (show R = D by rw [HR.out]; simp)
      clear HR
      go_enter Try.func41, Try.ntmps41
      go_wp2_with fail
      refine HC.out.mono ?_
      rintro e w1 ⟨rfl, hb1⟩
      have HB1 := Lib.hid (HB.out.trans (hb1.mono HB.out.size))
      clear hb1
      go_wp2
      go_ret
      rw [HR2.out]
      exact ⟨rfl, HB1.out⟩
    · have HR2 := Lib.hid (show R = false by rw [HR.out]; simp [hf])
      have t1 : (f == f') = false := by simpa using hf
      clear HR hf
      go_enter Try.func41, Try.ntmps41
      go_wp2
      go_ret
      rw [HR2.out]
      exact ⟨rfl, HB.out⟩
  · have HR2 := Lib.hid (show R = false by rw [HR.out]; simp [hij])
    have t1 : (b == b') = false := by simpa using hij
    clear HR hij
    go_enter Try.func41, Try.ntmps41
    go_wp2
    go_ret
    rw [HR2.out]
    exact ⟨rfl, HB.out⟩

end Go.Proofs.Ytpdebkpblpipcaa
