/-
  What a loop over an iterator may turn, and what it leaves; the pieces of a disk.
-/
import Derived.Test.YtienabfilnpieaaGreatDiskRead
import Derived.RangeFuncNested
import Derived.RangeFuncBound
import Derived.RangeFuncCalls
import Derived.RangeFuncLeaves
import Derived.Shelf.Abstract
import Derived.Shelf.RegionOpen
import Derived.OwnWalkIn
import Derived.TacticsInMore
import Derived.LoopNIn
import Derived.LoopIn
namespace Go.Proofs.YtienabfilnpieaaGreat
open Go.RowKit Go.Shelf
set_option linter.unusedVariables false
set_option maxRecDepth 100000

/-! ### pieces -/
structure Pc where
  nm : Nat
  sz : Nat
  h1 : nm < 4
  h2 : 1 ≤ sz ∧ sz ≤ 8
def mkPc (k x : Nat) : Pc := ⟨min k 3, max 1 (min 8 x), by omega, by omega⟩
def Pc.enc (x : Pc) : Array Value := #[.int .i64 (x.nm : Nat), .int .i64 (x.sz : Nat)]
def AF.pn (F : AF) : Nat := (F.bs.length - F.syn + 7) / 8
def pcsAt (k : Nat) (F : AF) : List Pc := (List.range F.pn).map (fun t => mkPc k (F.bs.length - (F.syn + 8 * t)))
def AD.pcsOf (M : AD) (k : Nat) : List Pc := match M.files (k : Int) with | some F => pcsAt k F | none => []
def AD.below' (M : AD) (k : Nat) : List Nat := (List.range k).filter (fun i => (M.files (i : Int)).isSome)
def AD.pcs (M : AD) : List Pc := (M.below' 4).flatMap M.pcsOf
theorem below_eq (M : AD) (k : Nat) : M.below k = (M.below' k).map (fun i : Nat => (i : Int)) := by
  unfold AD.below AD.below'
  rw [List.filter_map]
  rfl
theorem names_lt (M : AD) {i : Nat} (h : i ∈ M.below' 4) : i < 4 ∧ ∃ F, M.files (i : Int) = some F := by
  unfold AD.below' at h
  rw [List.mem_filter] at h
  exact ⟨by simpa using h.1, Option.isSome_iff_exists.1 h.2⟩

/-! ### what a round may turn -/
structure Kq (dirty : World → Nat → Prop) (W W' : World) : Prop where
  size : W.heap.size ≤ W'.heap.size
  keep : ∀ k o, W.heap[k]? = some o → (o.isCells = true ∨ o.isWalk = true) → ¬ dirty W k → W'.heap[k]? = some o
  new : ∀ k, dirty W' k → dirty W k ∨ W.heap.size ≤ k
  low : (∀ k, dirty W k → k < W.heap.size) → ∀ k, dirty W' k → k < W'.heap.size
theorem Kq.trans {dirty : World → Nat → Prop} {X Y Z : World} (h : Kq dirty X Y) (k : Kq dirty Y Z) : Kq dirty X Z := by
  refine ⟨Nat.le_trans h.size k.size, fun i o hi ho hn => ?_, fun i hi => ?_, fun hl => k.low (h.low hl)⟩
  · have hlt := (Array.getElem?_eq_some_iff.1 hi).1
    exact k.keep i o (h.keep i o hi ho hn) ho (fun e => (h.new i e).elim hn (fun e => by omega))
  · rcases k.new i hi with e | e
    · exact h.new i e
    · exact .inr (Nat.le_trans h.size e)

/-- Where only new blocks were laid no more is dirty. -/
structure Dirt (n₀ : Nat) (dirty : World → Nat → Prop) : Prop where
  grow : ∀ W W', n₀ ≤ W.heap.size → W.grownBy W' none → ∀ k, dirty W' k → dirty W k

structure Safe (dirty : World → Nat → Prop) (W : World) (k : Nat) (o : Obj) : Prop where
  at_ : W.heap[k]? = some o
  kind : o.isCells = true ∨ o.isWalk = true
  clean : ¬ dirty W k
section
variable {dirty : World → Nat → Prop} {n₀ : Nat} {W W' : World} {k : Nat} {o : Obj}
theorem Safe.round (h : Safe dirty W k o) (hk : Kq dirty W W') : Safe dirty W' k o :=
  ⟨hk.keep k o h.at_ h.kind h.clean, h.kind, fun e => (hk.new k e).elim h.clean (fun e => by have := (Array.getElem?_eq_some_iff.1 h.at_).1; omega)⟩
theorem Safe.step (hd : Dirt n₀ dirty) (h : Safe dirty W k o) (hn : n₀ ≤ W.heap.size) (hg : W.grownBy W' none) : Safe dirty W' k o :=
  ⟨(hg.block k (Array.getElem?_eq_some_iff.1 h.at_).1 (by simp)).trans h.at_, h.kind, fun e => h.clean (hd.grow W W' hn hg k e)⟩
theorem Safe.fresh (hd : Dirt n₀ dirty) (hl : ∀ k, dirty W k → k < W.heap.size) (hn : n₀ ≤ W.heap.size) (hg : W.grownBy W' none) (hk : W.heap.size ≤ k) (ho : W'.heap[k]? = some o) (hkind : o.isCells = true ∨ o.isWalk = true) : Safe dirty W' k o :=
  ⟨ho, hkind, fun e => by have := hl k (hd.grow W W' hn hg k e); omega⟩
end
theorem grown_of_below {w w' : World} (h : Below w.heap.size w w') : w.grownBy w' none := ⟨h.os, h.tape, h.output, h.size, fun k hk _ => h.block k hk⟩

/-- A map's look-up, told by what lies at its block. -/
theorem look_block {w W : World} {S : Nat → Prop} {d mb : Nat} {M : AD} {f : Int → Option Value} {A : Int → Option Addr} {c : Int → Nat} (h : DiskIn w S d M mb f A c) {o : Obj} (ho : w.heap[mb]? = some o) (hW : W.heap[mb]? = some o) {k : Int} (hk : I64 k) :
    (Instr.lookup 66 (.map (some mb)) (.int .i64 k) false).run Tryz.prog W = .ok (fileAt M A c k) W := by
  have hm : MapAt W mb f := h.files.map.same (hW.trans ho.symm)
  rw [hm.look hk, ← h.getD]; rfl

theorem pn_spec {F : AF} {t : Nat} : t < F.pn ↔ F.syn + 8 * t < F.bs.length := by unfold AF.pn; omega

end Go.Proofs.YtienabfilnpieaaGreat
