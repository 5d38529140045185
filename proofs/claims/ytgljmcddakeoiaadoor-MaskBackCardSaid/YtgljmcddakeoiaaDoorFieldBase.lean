/-
  Plain words on memory for the walks over package field: a row of bytes that can be read at a slice's address, and what leaves it as it was. No program is named here.
-/
import Derived.WalkKit
import Derived.WalkSpells
import Derived.WalkLawsBesides
import Derived.Lib.Hide
import Derived.Lib.Walk
import Derived.Lib.SliceRun
import Derived.Deep.Draws
namespace Go.Proofs.YtgljmcddakeoiaaDoor
open Go.RowKit

/-- At the address A the bytes bs can be read, in a block below B; of no bytes nothing is asked. -/
def Rd (w : World) (B : Nat) (A : Option Addr) (bs : List Int) : Prop :=
  0 < bs.length → ∃ b o, A = some ⟨b, o, none⟩ ∧ b < B ∧ ∀ j, j < bs.length → w.cell? ⟨b, o + j, none⟩ = some (.int .u8 (bs.getD j 0))

/-- Only the block g, and blocks that are new, may have turned. -/
abbrev Only (g : Nat) (w w' : World) : Prop := w.grownBy w' (some g)

section
variable {w w' : World} {B B' : Nat} {A : Option Addr} {bs : List Int}

theorem Rd.empty : Rd w B A [] := fun h => absurd h (by simp)

theorem Rd.keep (h : Rd w B A bs) (hk : ∀ p : Addr, p.block < B → w'.cell? p = w.cell? p) : Rd w' B A bs := by
  intro hp
  obtain ⟨b, o, rfl, hb, hc⟩ := h hp
  exact ⟨b, o, rfl, hb, fun j hj => (hk _ hb).trans (hc j hj)⟩

theorem Rd.wide (h : Rd w B A bs) (hB : B ≤ B') : Rd w B' A bs := by
  intro hp
  obtain ⟨b, o, rfl, hb, hc⟩ := h hp
  exact ⟨b, o, rfl, by omega, hc⟩

theorem Rd.below (h : Rd w B A bs) (hb : Below B w w') : Rd w' B A bs := h.keep fun _ hp => hb.cell hp

theorem Rd.drewN (h : Rd w B A bs) (k : Nat) : Rd (w.drewN k) B A bs := h
theorem Rd.drew (h : Rd w B A bs) : Rd w.drew B A bs := h

/-- Behind writes to a block of which one cell is no byte the bytes are still there. -/
theorem Rd.only {g : Nat} (h : Rd w w.heap.size A bs) (ho : Only g w w') (hg : ∀ o z, w.cell? ⟨g, o, none⟩ ≠ some (.int .u8 z)) : Rd w' w'.heap.size A bs := by
  intro hp
  obtain ⟨b, o, rfl, hb, hc⟩ := h hp
  have hne : b ≠ g := by
    rintro rfl
    have := hc 0 hp
    exact hg _ _ this
  have hbl := ho.block b hb (by simpa using hne)
  exact ⟨b, o, rfl, Nat.lt_of_lt_of_le hb ho.size, fun j hj => (World.cell?_of_block (a := ⟨b, o + j, none⟩) (w := w) hbl).trans (hc j hj)⟩

theorem Rd.take (h : Rd w B A bs) (k : Nat) : Rd w B A (bs.take k) := by
  intro hp
  have hl : (bs.take k).length ≤ bs.length := by simp; omega
  obtain ⟨b, o, rfl, hb, hc⟩ := h (by omega)
  refine ⟨b, o, rfl, hb, fun j hj => ?_⟩
  have hjk : j < k := by simp at hj; omega
  rw [hc j (by omega)]
  simp [List.getD, hjk]

theorem Rd.own {base : Nat} {e : TypeId} {n c : Nat} (h : w.ownsRow base e 1 (.slice A n c) n (bs.map (Value.int .u8))) : Rd w w.heap.size A bs := by
  intro hp
  have hn : 0 < n := by have := h.1; simp at this; omega
  rcases h.2 with ⟨_, h0⟩ | ⟨g, cap, cur, hv, hg, hh, hnc, hcm, hsz, hcs⟩
  · omega
  · injection hv with hA _ hc'
    subst hA
    subst hc'
    refine ⟨g, 0, rfl, lt_of_block hh, fun j hj => ?_⟩
    have := h.cellAt j (by have := h.1; simp at this; omega)
    rw [Nat.zero_add, this]
    simp [List.getD, List.getElem?_eq_getElem hj]
end

/-- A slice of the call's own, whatever make. -/
theorem own_form {w : World} {base : Nat} {e : TypeId} {size : Nat} {v : Value} {n : Nat} {xs : List Value} (h : w.ownsRow base e size v n xs) : ∃ A c, v = .slice A n c ∧ n ≤ c ∧ c ≤ maxLen := by
  rcases h.2 with ⟨rfl, rfl⟩ | ⟨g, cap, cur, rfl, _, _, hnc, hcm, _, _⟩
  · exact ⟨none, 0, rfl, Nat.le_refl _, by simp [maxLen]⟩
  · exact ⟨_, cap, rfl, hnc, hcm⟩

theorem cell_new (w : World) (cs : Array Value) (t : TypeId) (i : Nat) : (w.alloc (.cells cs t)).cell? ⟨w.heap.size, i, none⟩ = cs[i]? := cell_of_row _ _ _ cs t (0, 0) (heap_alloc_new w _)

theorem below_of_only {w w' : World} {g B : Nat} (h : Only g w w') (hg : B ≤ g) (hB : B ≤ w.heap.size) : Below B w w' :=
  ⟨h.os, h.tape, h.output, h.size, fun k hk => h.block k (by omega) (by simp; omega)⟩

theorem below_drewN {B : Nat} {a w : World} (h : Below B a w) (n : Nat) : Below B a (w.drewN n) := ⟨h.os, h.tape, h.output, h.size, h.block⟩

section
variable {a w w' : World} {g : Nat}
theorem Only.drewN (h : Only g a w) (n : Nat) : Only g a (w.drewN n) := ⟨h.os, h.tape, h.output, h.size, h.block⟩
theorem Only.drew (h : Only g a w) : Only g a w.drew := ⟨h.os, h.tape, h.output, h.size, h.block⟩
theorem Only.refl (g : Nat) (w : World) : Only g w w := World.grownBy.refl _ _
/-- A write to the block itself, or to one that is new. -/
theorem Only.set (h : Only g a w) {p : Addr} (hp : p.block = g ∨ a.heap.size ≤ p.block) (u : Value) : Only g a (w.setCell p u) := by
  refine ⟨h.os, h.tape, h.output, ?_, fun i hi hne => ?_⟩
  · have := h.size
    simpa [World.setCell] using this
  · have hi2 : i ≠ p.block := by
      rintro rfl
      rcases hp with e | e
      · exact hne (by rw [e])
      · omega
    rw [Below.heap_setCell w p u i hi2]
    exact h.block i hi hne
theorem Only.alloc (h : Only g a w) (o : Obj) : Only g a (w.alloc o) := by
  refine ⟨h.os, h.tape, h.output, ?_, fun i hi hne => ?_⟩
  · have := h.size
    simp; omega
  · rw [Below.heap_alloc w o i (Nat.lt_of_lt_of_le hi h.size)]
    exact h.block i hi hne
theorem Only.below (h : Only g a w) (hb : Below w.heap.size w w') : Only g a w' := by
  refine ⟨hb.os.trans h.os, hb.tape.trans h.tape, hb.output.trans h.output, Nat.le_trans h.size hb.size, fun i hi hne => ?_⟩
  rw [hb.block i (Nat.lt_of_lt_of_le hi h.size)]
  exact h.block i hi hne
theorem Only.trans (h : Only g a w) (k : Only g w w') : Only g a w' := by
  refine ⟨k.os.trans h.os, k.tape.trans h.tape, k.output.trans h.output, Nat.le_trans h.size k.size, fun i hi hne => ?_⟩
  rw [k.block i (Nat.lt_of_lt_of_le hi h.size) hne]
  exact h.block i hi hne
end

end Go.Proofs.YtgljmcddakeoiaaDoor
