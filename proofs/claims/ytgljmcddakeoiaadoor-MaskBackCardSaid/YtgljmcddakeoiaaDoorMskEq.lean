/-
  Masks are compared; a drawn region that only reads and calls.
-/
import Derived.Test.YtgljmcddakeoiaaDoorMskE
import Derived.ChangeKeysEq
namespace Go.Proofs.YtgljmcddakeoiaaDoor
open Go.RowKit Go.Shelf
set_option linter.unusedVariables false
set_option linter.unusedSimpArgs false
set_option maxRecDepth 100000

theorem eqM0 (a b c d : Int) (w : World) : (Op.equalIn 10000 25 (.agg #[.int .u64 a, .int .u64 b]) (.agg #[.int .u64 c, .int .u64 d])).run Tryd.prog w = .ok (decide (a = c ∧ b = d)) w := by
  have hu := Tryd.underlying25
  have hu6 := Tryd.underlying23
  obtain ⟨i, hi⟩ : ∃ i, Tryd.prog.info? 23 = some i := Option.isSome_iff_exists.1 (by kernel_rfl)
  have h1 : Tryd.prog.cellsOf 23 = 1 := by kernel_rfl
  have hr : List.range 2 = [0, 1] := rfl
  have h9 : ∀ x y : Int, (Op.equalIn 9999 23 (.int .u64 x) (.int .u64 y)).run Tryd.prog w = .ok (x == y) w := fun x y => run_equalIn_int (w := w) 9998 _ _ _ x y hu6
  rw [show (10000 : Nat) = 9999 + 1 from rfl, run_equalIn_array w 9999 _ _ hu hi, h1, hr]
  simp [Op.eqItems, go_sem, part, h9]
  by_cases h1 : a = c <;> by_cases h2 : b = d <;> simp [h1, h2]

theorem eqM (a b : Mk) (w : World) : (Op.equalIn 10000 25 (.agg #[.int .u64 a.1, .int .u64 a.2]) (.agg #[.int .u64 b.1, .int .u64 b.2])).run Tryd.prog w = .ok (decide (a = b)) w := by
  rw [eqM0]
  obtain ⟨a1, a2⟩ := a
  obtain ⟨b1, b2⟩ := b
  congr 1
  rw [Bool.eq_iff_iff]
  simp
  omega

theorem region_quiet {P : Program} {id : Nat} {Q : Exit → Act → World → Prop} {a : Act} {w : World} {l : List Oper} (C : World → Prop) (hm : P.follows .mixedOrders = true) (hB : Region.lexB .any l.toArray = true) (hC : C { w with drawn := w.drawn + 1 })
    (h : wpQuiet P l.toArray C (fun a' => ∀ w', C w' → Q .normal a' w') l a) : (Code.region id l.toArray true).wp P Q a w :=
  wp_region_quiet (C := C) hm hB hC (by simpa using h)
end Go.Proofs.YtgljmcddakeoiaaDoor
