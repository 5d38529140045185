/-
  FieldBase, VecBase, VecTold, VecSeq, VecPairs, VecDist, VecAsk, VecNear, VecRef.
-/
import Derived.WalkKit
import Derived.WalkSpells
import Derived.WalkLawsBesides
import Derived.Lib.Hide
import Derived.Lib.Walk
import Derived.Lib.SliceRun
import Derived.Deep.Draws
import Derived.IntWalk
import Derived.BigQuiet
import Derived.Deep.QuietTactic
import Derived.StillTailTactics
import Derived.Deep.RegionWith
import Derived.Test.YtcekgllahlhaaaaGreatDoorRows
import Derived.Shelf.Abstract
import Derived.Shelf.RegionOpen
import Derived.RangeFuncWrites
import Derived.RangeFuncNested
import Derived.RangeFuncBox
import Derived.RangeFuncLeaves
import Derived.RangeFuncCalls
import Derived.OwnWalkIn
import Derived.TacticsInMore
import Derived.LoopNIn
import Derived.LoopIn
import Derived.Deep.RegionHeld3
import Derived.OwnWalk
namespace Go.Proofs.YtcekgllahlhaaaaGreatDoor
open Go.RowKit

/-- At the address A the bytes bs can be read, in a block below B; of no bytes nothing is asked. -/
def Rd (w : World) (B : Nat) (A : Option Addr) (bs : List Int) : Prop :=
  0 < bs.length → ∃ b o, A = some ⟨b, o, none⟩ ∧ b < B ∧ ∀ j, j < bs.length → w.cell? ⟨b, o + j, none⟩ = some (.int .u8 (bs.getD j 0))

/-- Only the block g, and blocks that are new, may have turned. -/
abbrev Only (g : Nat) (w w' : World) : Prop := w.grownBy w' (some g)

section
variable {w w' : World} {B B' : Nat} {A : Option Addr} {bs : List Int}

theorem Rd.empty : Rd w B A [] := fun h => absurd h (by simp)

theorem Rd.keep (h : Rd w B A bs) (hk : ∀ p : Addr, p.block < B → w'.cell? p = w.cell? p) : Rd w' B A bs := by
  intro hp
  obtain ⟨b, o, rfl, hb, hc⟩ := h hp
  exact ⟨b, o, rfl, hb, fun j hj => (hk _ hb).trans (hc j hj)⟩

theorem Rd.wide (h : Rd w B A bs) (hB : B ≤ B') : Rd w B' A bs := by
  intro hp
  obtain ⟨b, o, rfl, hb, hc⟩ := h hp
  exact ⟨b, o, rfl, by omega, hc⟩

theorem Rd.below (h : Rd w B A bs) (hb : Below B w w') : Rd w' B A bs := h.keep fun _ hp => hb.cell hp

theorem Rd.drewN (h : Rd w B A bs) (k : Nat) : Rd (w.drewN k) B A bs := h
theorem Rd.drew (h : Rd w B A bs) : Rd w.drew B A bs := h

/-- Behind writes to a block of which one cell is no byte the bytes are still there. -/
theorem Rd.only {g : Nat} (h : Rd w w.heap.size A bs) (ho : Only g w w') (hg : ∀ o z, w.cell? ⟨g, o, none⟩ ≠ some (.int .u8 z)) : Rd w' w'.heap.size A bs := by
  intro hp
  obtain ⟨b, o, rfl, hb, hc⟩ := h hp
  have hne : b ≠ g := by
    rintro rfl
    have := hc 0 hp
    exact hg _ _ this
  have hbl := ho.block b hb (by simpa using hne)
  exact ⟨b, o, rfl, Nat.lt_of_lt_of_le hb ho.size, fun j hj => (World.cell?_of_block (a := ⟨b, o + j, none⟩) (w := w) hbl).trans (hc j hj)⟩

theorem Rd.take (h : Rd w B A bs) (k : Nat) : Rd w B A (bs.take k) := by
  intro hp
  have hl : (bs.take k).length ≤ bs.length := by simp; omega
  obtain ⟨b, o, rfl, hb, hc⟩ := h (by omega)
  refine ⟨b, o, rfl, hb, fun j hj => ?_⟩
  have hjk : j < k := by simp at hj; omega
  rw [hc j (by omega)]
  simp [List.getD, hjk]

theorem Rd.own {base : Nat} {e : TypeId} {n c : Nat} (h : w.ownsRow base e 1 (.slice A n c) n (bs.map (Value.int .u8))) : Rd w w.heap.size A bs := by
  intro hp
  have hn : 0 < n := by have := h.1; simp at this; omega
  rcases h.2 with ⟨_, h0⟩ | ⟨g, cap, cur, hv, hg, hh, hnc, hcm, hsz, hcs⟩
  · omega
  · injection hv with hA _ hc'
    subst hA
    subst hc'
    refine ⟨g, 0, rfl, lt_of_block hh, fun j hj => ?_⟩
    have := h.cellAt j (by have := h.1; simp at this; omega)
    rw [Nat.zero_add, this]
    simp [List.getD, List.getElem?_eq_getElem hj]
end

/-- A slice of the call's own, whatever make. -/
theorem own_form {w : World} {base : Nat} {e : TypeId} {size : Nat} {v : Value} {n : Nat} {xs : List Value} (h : w.ownsRow base e size v n xs) : ∃ A c, v = .slice A n c ∧ n ≤ c ∧ c ≤ maxLen := by
  rcases h.2 with ⟨rfl, rfl⟩ | ⟨g, cap, cur, rfl, _, _, hnc, hcm, _, _⟩
  · exact ⟨none, 0, rfl, Nat.le_refl _, by simp [maxLen]⟩
  · exact ⟨_, cap, rfl, hnc, hcm⟩

theorem cell_new (w : World) (cs : Array Value) (t : TypeId) (i : Nat) : (w.alloc (.cells cs t)).cell? ⟨w.heap.size, i, none⟩ = cs[i]? := cell_of_row _ _ _ cs t (0, 0) (heap_alloc_new w _)

theorem below_of_only {w w' : World} {g B : Nat} (h : Only g w w') (hg : B ≤ g) (hB : B ≤ w.heap.size) : Below B w w' :=
  ⟨h.os, h.tape, h.output, h.size, fun k hk => h.block k (by omega) (by simp; omega)⟩

theorem below_drewN {B : Nat} {a w : World} (h : Below B a w) (n : Nat) : Below B a (w.drewN n) := ⟨h.os, h.tape, h.output, h.size, h.block⟩

section
variable {a w w' : World} {g : Nat}
theorem Only.drewN (h : Only g a w) (n : Nat) : Only g a (w.drewN n) := ⟨h.os, h.tape, h.output, h.size, h.block⟩
theorem Only.drew (h : Only g a w) : Only g a w.drew := ⟨h.os, h.tape, h.output, h.size, h.block⟩
theorem Only.refl (g : Nat) (w : World) : Only g w w := World.grownBy.refl _ _
/-- A write to the block itself, or to one that is new. -/
theorem Only.set (h : Only g a w) {p : Addr} (hp : p.block = g ∨ a.heap.size ≤ p.block) (u : Value) : Only g a (w.setCell p u) := by
  refine ⟨h.os, h.tape, h.output, ?_, fun i hi hne => ?_⟩
  · have := h.size
    simpa [World.setCell] using this
  · have hi2 : i ≠ p.block := by
      rintro rfl
      rcases hp with e | e
      · exact hne (by rw [e])
      · omega
    rw [Below.heap_setCell w p u i hi2]
    exact h.block i hi hne
theorem Only.alloc (h : Only g a w) (o : Obj) : Only g a (w.alloc o) := by
  refine ⟨h.os, h.tape, h.output, ?_, fun i hi hne => ?_⟩
  · have := h.size
    simp; omega
  · rw [Below.heap_alloc w o i (Nat.lt_of_lt_of_le hi h.size)]
    exact h.block i hi hne
theorem Only.below (h : Only g a w) (hb : Below w.heap.size w w') : Only g a w' := by
  refine ⟨hb.os.trans h.os, hb.tape.trans h.tape, hb.output.trans h.output, Nat.le_trans h.size hb.size, fun i hi hne => ?_⟩
  rw [hb.block i (Nat.lt_of_lt_of_le hi h.size)]
  exact h.block i hi hne
theorem Only.trans (h : Only g a w) (k : Only g w w') : Only g a w' := by
  refine ⟨k.os.trans h.os, k.tape.trans h.tape, k.output.trans h.output, Nat.le_trans h.size k.size, fun i hi hne => ?_⟩
  rw [k.block i (Nat.lt_of_lt_of_le hi h.size) hne]
  exact h.block i hi hne
end

end Go.Proofs.YtcekgllahlhaaaaGreatDoor

namespace Go.Proofs.YtcekgllahlhaaaaGreatDoor
open Go.RowKit
set_option linter.unusedVariables false

/-- The numbers xs can be read at A. -/
structure Vec (k : IntKind) (w : World) (A : Option Addr) (c : Nat) (xs : List Int) : Prop where
  room : xs.length ≤ c
  most : c ≤ 9223372036854775807
  rd : 0 < xs.length → ∃ b o, A = some ⟨b, o, none⟩ ∧ b < w.heap.size ∧ ∀ j, j < xs.length → w.cell? ⟨b, o + j, none⟩ = some (.int k (xs.getD j 0))
  fit : ∀ x ∈ xs, (Lit.int k x).wf = true

/-- The rows l can be read at A. -/
structure Vecs (k : IntKind) (w : World) (A : Option Addr) (c : Nat) (l : List (List Int)) : Prop where
  room : l.length ≤ c
  most : c ≤ 9223372036854775807
  rd : 0 < l.length → ∃ b o, A = some ⟨b, o, none⟩ ∧ b < w.heap.size ∧ ∀ i x, l[i]? = some x → ∃ B cb, w.cell? ⟨b, o + i, none⟩ = some (.slice B x.length cb) ∧ Vec k w B cb x

section
variable {k : IntKind} {w w' : World} {A : Option Addr} {c : Nat} {xs : List Int} {l : List (List Int)}
theorem Vec.keep (h : Vec k w A c xs) (hs : w.heap.size ≤ w'.heap.size) (hk : ∀ p : Addr, p.block < w.heap.size → w'.cell? p = w.cell? p) : Vec k w' A c xs := by
  refine ⟨h.room, h.most, fun hp => ?_, h.fit⟩
  obtain ⟨b, o, e, hb, hc⟩ := h.rd hp
  exact ⟨b, o, e, by omega, fun j hj => (hk _ hb).trans (hc j hj)⟩
theorem Vec.below (h : Vec k w A c xs) (hb : Below w.heap.size w w') : Vec k w' A c xs := h.keep hb.size fun _ hp => hb.cell hp
theorem Vec.drew (h : Vec k w A c xs) : Vec k w.drew A c xs := ⟨h.room, h.most, h.rd, h.fit⟩
theorem Vec.drewN (h : Vec k w A c xs) (n : Nat) : Vec k (w.drewN n) A c xs := ⟨h.room, h.most, h.rd, h.fit⟩
theorem Vec.at_ (h : Vec k w A c xs) {j : Nat} (hj : j < xs.length) : ∃ b o, A = some ⟨b, o, none⟩ ∧ b < w.heap.size ∧ w.cell? ⟨b, o + j, none⟩ = some (.int k (xs.getD j 0)) := by
  obtain ⟨b, o, e, hb, hc⟩ := h.rd (by omega)
  exact ⟨b, o, e, hb, hc j hj⟩
theorem Vec.nil (k : IntKind) (w : World) : Vec k w none 0 [] := ⟨by simp, by omega, fun h => absurd h (by simp), by simp⟩
theorem Vecs.keep (h : Vecs k w A c l) (hs : w.heap.size ≤ w'.heap.size) (hk : ∀ p : Addr, p.block < w.heap.size → w'.cell? p = w.cell? p) : Vecs k w' A c l := by
  refine ⟨h.room, h.most, fun hp => ?_⟩
  obtain ⟨b, o, e, hb, hc⟩ := h.rd hp
  refine ⟨b, o, e, by omega, fun i x hx => ?_⟩
  obtain ⟨B, cb, h1, h2⟩ := hc i x hx
  exact ⟨B, cb, (hk _ hb).trans h1, h2.keep hs hk⟩
theorem Vecs.below (h : Vecs k w A c l) (hb : Below w.heap.size w w') : Vecs k w' A c l := h.keep hb.size fun _ hp => hb.cell hp
theorem Vecs.drew (h : Vecs k w A c l) : Vecs k w.drew A c l := h.keep (Nat.le_refl _) fun _ _ => rfl
theorem Vecs.drewN (h : Vecs k w A c l) (n : Nat) : Vecs k (w.drewN n) A c l := h.keep (Nat.le_refl _) fun _ _ => rfl
theorem Vecs.at_ (h : Vecs k w A c l) {i : Nat} (hi : i < l.length) : ∃ b o x B cb, A = some ⟨b, o, none⟩ ∧ l[i]? = some x ∧ b < w.heap.size ∧ w.cell? ⟨b, o + i, none⟩ = some (.slice B x.length cb) ∧ Vec k w B cb x := by
  obtain ⟨b, o, e, hb, hc⟩ := h.rd (by omega)
  obtain ⟨B, cb, h1, h2⟩ := hc i _ (List.getElem?_eq_getElem hi)
  exact ⟨b, o, _, B, cb, e, List.getElem?_eq_getElem hi, hb, h1, h2⟩
theorem Vecs.nil (k : IntKind) (w : World) : Vecs k w none 0 [] := ⟨by simp, by omega, fun h => absurd h (by simp)⟩
theorem Vecs.take (h : Vecs k w A c l) (n : Nat) : Vecs k w A c (l.take n) := by
  have hl : (l.take n).length ≤ l.length := by simp; omega
  refine ⟨Nat.le_trans hl h.room, h.most, fun hp => ?_⟩
  obtain ⟨b, o, e, hb, hc⟩ := h.rd (by omega)
  refine ⟨b, o, e, hb, fun i x hx => hc i x ?_⟩
  rw [List.getElem?_take] at hx
  split at hx
  · exact hx
  · cases hx

/-- A slice of the call's own holds numbers. -/
theorem Vec.own {base m : Nat} {e : TypeId} {v : Value} (h : w.ownsRow base e 1 v xs.length (xs.map (Value.int k))) (hf : ∀ x ∈ xs, (Lit.int k x).wf = true) : ∃ A c, v = .slice A xs.length c ∧ Vec k w A c xs := by
  rcases h.2 with ⟨rfl, h0⟩ | ⟨g, cap, cur, rfl, hg, hh, hnc, hcm, hsz, hcs⟩
  · obtain rfl : xs = [] := List.eq_nil_of_length_eq_zero h0
    exact ⟨none, 0, rfl, Vec.nil k w⟩
  · refine ⟨_, cap, rfl, hnc, by unfold maxLen at hcm; omega, fun hp => ⟨g, 0, rfl, lt_of_block hh, fun j hj => ?_⟩, hf⟩
    have := h.cellAt j (by simpa using hj)
    rw [Nat.zero_add, this]
    simp [List.getD, List.getElem?_eq_getElem hj]
end

theorem below_drew {B : Nat} {a w : World} (h : Below B a w) : Below B a w.drew := ⟨h.os, h.tape, h.output, h.size, h.block⟩

end Go.Proofs.YtcekgllahlhaaaaGreatDoor

namespace Go.Proofs.YtcekgllahlhaaaaGreatDoor
open Go.RowKit Go.Shelf
set_option linter.unusedVariables false
set_option maxRecDepth 100000

/-- A component that may be. -/
def comp (x : Int) : Bool := decide (-1073741823 ≤ x) && decide (x ≤ 1073741823)
def right (xs : List Int) : Bool := decide (1 ≤ xs.length) && decide (xs.length ≤ 4) && xs.all comp

theorem all_take_snoc {α : Type} (p : α → Bool) (l : List α) {k : Nat} {x : α} (h : l[k]? = some x) : (l.take (k + 1)).all p = ((l.take k).all p && p x) := by
  rw [List.take_add_one, h]; simp
theorem all_no {α : Type} (p : α → Bool) (l : List α) {k : Nat} {x : α} (h : l[k]? = some x) (hx : p x = false) : l.all p = false := by
  rw [List.all_eq_false]
  exact ⟨x, List.mem_of_getElem? h, by simp [hx]⟩

set_option maxHeartbeats 400000 in
theorem mayBe_any (A : Option Addr) (c : Nat) (xs : List Int) (w : World) (h : Vec .i32 w A c xs) :
    Calls Tryz.prog 98 #[.slice A xs.length c] w fun e w' => e = .returned (.bool (right xs)) ∧ w = w' := by
  obtain ⟨n, hn⟩ : ∃ n, n = xs.length := ⟨_, rfl⟩
  have hr : right xs = (decide (1 ≤ n) && decide (n ≤ 4) && xs.all comp) := by rw [hn]; rfl
  have HR := Lib.hid hr
  generalize right xs = R at *
  rw [← hn]
  by_cases h1 : n = 0
  · subst h1
    clear hr h hn
    go_enter Tryz.func98, Tryz.ntmps98
    go_wp2
    go_ret
    rw [HR.out]
    exact ⟨rfl, rfl⟩
  · by_cases h4 : 4 < n
    · have t1 : decide ((n : Int) < 1) = false := by simp; omega
      have t2 : decide ((4 : Int) < (n : Int)) = true := by simp; omega
      have HF := Lib.hid (show R = false by rw [hr]; simp; omega)
      clear hr h hn h1 h4
      go_enter Tryz.func98, Tryz.ntmps98
      go_wp2
      go_ret
      rw [HF.out]
      exact ⟨rfl, rfl⟩
    · obtain ⟨b, o, rfl, hb, hc⟩ := h.rd (by omega)
      rw [← hn] at hc
      have t1 : decide ((n : Int) < 1) = false := by simp; omega
      have t2 : decide ((4 : Int) < (n : Int)) = false := by simp; omega
      have HA := Lib.hid (show R = xs.all comp by rw [hr]; simp; omega)
      have HC := Lib.hid hc
      have HN := Lib.hid hn
      clear hr h hn h1 hc
      go_enter Tryz.func98, Tryz.ntmps98
      go_wp2
      go_loop [4, 15] (fun _ i => ∃ k : Nat, k ≤ n ∧ i = .int .i64 k ∧ Hid ((xs.take k).all comp = true)) (fun _ i => n - (intOf i).toNat)
      case atStart => exact ⟨0, Nat.zero_le _, rfl, Lib.hid (by simp)⟩
      case round =>
        obtain ⟨k, hk, rfl, HK⟩ := hrel
        by_cases hkn : k < n
        · have c1 := HC.out k hkn
          have hx : xs[k]? = some (xs.getD k 0) := by rw [List.getD_eq_getElem?_getD, List.getElem?_eq_getElem (by rw [← HN.out]; exact hkn)]; rfl
          generalize xs.getD k 0 = x at *
          have HX := Lib.hid hx
          clear hx
          by_cases hcx : comp x = true
          · have HS := Lib.hid (show (xs.take (k + 1)).all comp = true by rw [all_take_snoc comp xs HX.out, HK.out, hcx]; rfl)
            have hc2 : -1073741823 ≤ x ∧ x ≤ 1073741823 := by unfold comp at hcx; simpa using hcx
            have e1 : ¬ x < -1073741823 := by omega
            have e2 : ¬ 1073741823 < x := by omega
            clear hcx
            go_wp2
            go_round
            case rel => exact ⟨k + 1, by omega, by go_num, HS⟩
            case measure => simp [intOf]; omega
          · have HF := Lib.hid (show R = false by rw [HA.out]; exact all_no comp xs HX.out (by simpa using hcx))
            by_cases hlo : x < -1073741823
            · clear hcx
              go_wp2
              go_ret
              rw [HF.out]
              exact ⟨rfl, rfl⟩
            · have hhi : 1073741823 < x := by unfold comp at hcx; simp at hcx; omega
              clear hcx
              go_wp2
              go_ret
              rw [HF.out]
              exact ⟨rfl, rfl⟩
        · obtain rfl : k = n := by omega
          have HT := Lib.hid (show R = true by rw [HA.out]; have := HK.out; rw [HN.out, List.take_length] at this; exact this)
          go_wp2
          go_ret
          rw [HT.out]
          exact ⟨rfl, rfl⟩

theorem refuse1_any (A : Option Addr) (c n g : Nat) (dim : Int) (w : World) (hg : w.cell? ⟨g, 0, none⟩ = some (.int .i64 dim)) :
    Calls Tryz.prog 99 #[.slice A n c, .pointer (some ⟨g, 0, none⟩)] w fun e w' => e = .returned (.bool (decide ((n : Int) = dim))) ∧ w = w' := by
  go_enter Tryz.func99, Tryz.ntmps99
  go_wp2
  go_ret
  exact ⟨by first | rfl | congr 2, rfl⟩

set_option maxHeartbeats 400000 in
theorem every_any (fid : FuncId) (lb : Array Value) (A : Option Addr) (c : Nat) (l : List (List Int)) (p : List Int → Bool) (w : World) (h : Vecs .i32 w A c l)
    (hen : ∀ v W, (callFunc fid (#[v] ++ lb)).run Tryz.prog W = .ok (.enter fid (#[v] ++ lb)) W)
    (hcl : ∀ B cb x, Vec .i32 w B cb x → Calls Tryz.prog fid (#[.slice B x.length cb] ++ lb) w fun e w' => e = .returned (.bool (p x)) ∧ w = w') :
    Calls Tryz.prog 97 #[.func (.func fid) #[] lb, .slice A l.length c] w fun e w' => e = .returned (.bool (l.all p)) ∧ w = w' := by
  obtain ⟨n, hn⟩ : ∃ n, n = l.length := ⟨_, rfl⟩
  have hmost := h.most
  have hroom := h.room
  have HC := Lib.hid hcl
  have HV := Lib.hid h
  have HN := Lib.hid hn
  rw [← hn] at hroom ⊢
  clear hcl h hn
  obtain ⟨R, hR⟩ : ∃ R, R = l.all p := ⟨_, rfl⟩
  rw [← hR]
  have HR := Lib.hid hR
  clear hR
  go_enter Tryz.func97, Tryz.ntmps97
  go_wp2
  go_loop [6, 9] (fun _ i => ∃ k : Nat, k ≤ n ∧ i = .int .i64 k ∧ Hid ((l.take k).all p = true)) (fun _ i => n - (intOf i).toNat)
  case atStart => exact ⟨0, Nat.zero_le _, rfl, Lib.hid (by simp)⟩
  case round =>
    obtain ⟨k, hk, rfl, HK⟩ := hrel
    by_cases hkn : k < n
    · obtain ⟨b, o, x, B, cb, rfl, hx, hb, hcell, hvec⟩ := HV.out.at_ (i := k) (by rw [← HN.out]; exact hkn)
      have HE := Lib.hid (HC.out B cb x hvec)
      have HX := Lib.hid hx
      clear hx hb hvec
      cases hp : p x with
      | true =>
        have HS := Lib.hid (show (l.take (k + 1)).all p = true by rw [all_take_snoc p l HX.out, HK.out, hp]; rfl)
        rw [hp] at HE
        go_wp2_with fail
        refine HE.out.mono ?_
        rintro e w' ⟨rfl, rfl⟩
        go_wp2
        go_round
        case rel => exact ⟨k + 1, by omega, by go_num, HS⟩
        case measure => simp [intOf]; omega
      | false =>
        have HF := Lib.hid (show R = false by rw [HR.out]; exact all_no p l HX.out hp)
        rw [hp] at HE
        go_wp2_with fail
        refine HE.out.mono ?_
        rintro e w' ⟨rfl, rfl⟩
        go_wp2
        go_ret
        rw [HF.out]
        exact ⟨rfl, rfl⟩
    · obtain rfl : k = n := by omega
      have HT := Lib.hid (show R = true by rw [HR.out]; have := HK.out; rw [HN.out, List.take_length] at this; exact this)
      go_wp2
      go_ret
      rw [HT.out]
      exact ⟨rfl, rfl⟩

/-- Why rows are not all vectors of one dimension; 0 if they are. -/
def refuseM (dim : Int) (l : List (List Int)) : Int := if l.all right then (if l.all (fun x => decide ((x.length : Int) = dim)) then 0 else 151) else 150

set_option maxHeartbeats 400000 in
theorem refuse_any (A : Option Addr) (c : Nat) (dim : Int) (l : List (List Int)) (w : World) (h : Vecs .i32 w A c l) :
    Calls Tryz.prog 64 #[.int .i64 dim, .slice A l.length c] w fun e w' => e = .returned (.int .i64 (refuseM dim l)) ∧ Below w.heap.size w w' := by
  obtain ⟨W1, hW1⟩ : ∃ W1, W1 = w.alloc (.cells #[.int .i64 dim] 3) := ⟨_, rfl⟩
  have hb : Below w.heap.size w W1 := by rw [hW1]; exact (Below.refl _ w).alloc (Nat.le_refl _) _
  have hg : W1.cell? ⟨w.heap.size, 0, none⟩ = some (.int .i64 dim) := by rw [hW1]; simp
  have h1 := h.below hb
  have HE1 := Lib.hid (every_any 98 #[] A c l right W1 h1 (fun v W => enters_of Tryz.func98 (by kernel_rfl) rfl _ W) (fun B cb x hv => mayBe_any B cb x W1 hv))
  have HE2 := Lib.hid (every_any 99 #[.pointer (some ⟨w.heap.size, 0, none⟩)] A c l (fun x => decide ((x.length : Int) = dim)) W1 h1 (fun v W => enters_of Tryz.func99 (by kernel_rfl) rfl _ W) (fun B cb x hv => refuse1_any B cb x.length _ dim W1 hg))
  have HM := Lib.hid (show refuseM dim l = if l.all right then (if l.all (fun x => decide ((x.length : Int) = dim)) then 0 else 151) else 150 from rfl)
  have HB := Lib.hid hb
  rw [hW1] at HE1 HE2 HB
  generalize refuseM dim l = R at *
  generalize l.all (fun x => decide ((x.length : Int) = dim)) = P2 at *
  generalize l.all right = P1 at *
  clear h1 hg hb hW1 h
  cases P1
  · have HF := Lib.hid (show R = 150 by rw [HM.out]; rfl)
    go_enter Tryz.func64, Tryz.ntmps64
    go_wp2_with fail
    refine HE1.out.mono ?_
    rintro e w' ⟨rfl, rfl⟩
    go_wp2
    go_ret
    rw [HF.out]
    exact ⟨rfl, HB.out⟩
  · cases P2
    · have HF := Lib.hid (show R = 151 by rw [HM.out]; rfl)
      go_enter Tryz.func64, Tryz.ntmps64
      go_wp2_with fail
      refine HE1.out.mono ?_
      rintro e w' ⟨rfl, rfl⟩
      go_wp2_with fail
      refine HE2.out.mono ?_
      rintro e w' ⟨rfl, rfl⟩
      go_wp2
      go_ret
      rw [HF.out]
      exact ⟨rfl, HB.out⟩
    · have HF := Lib.hid (show R = 0 by rw [HM.out]; rfl)
      go_enter Tryz.func64, Tryz.ntmps64
      go_wp2_with fail
      refine HE1.out.mono ?_
      rintro e w' ⟨rfl, rfl⟩
      go_wp2_with fail
      refine HE2.out.mono ?_
      rintro e w' ⟨rfl, rfl⟩
      go_wp2
      go_ret
      rw [HF.out]
      exact ⟨rfl, HB.out⟩

end Go.Proofs.YtcekgllahlhaaaaGreatDoor

namespace Go.Proofs.YtcekgllahlhaaaaGreatDoor
open Go.RowKit
set_option linter.unusedVariables false

/-- Only blocks of S, and new ones, have turned. -/
structure Turn (S : Nat → Prop) (w w' : World) : Prop where
  os : w'.os = w.os
  tape : w'.tape = w.tape
  output : w'.output = w.output
  size : w.heap.size ≤ w'.heap.size
  block : ∀ k, k < w.heap.size → ¬ S k → w'.heap[k]? = w.heap[k]?

section
variable {S S' : Nat → Prop} {w w' w'' : World}
theorem Turn.refl (S : Nat → Prop) (w : World) : Turn S w w := ⟨rfl, rfl, rfl, Nat.le_refl _, fun _ _ _ => rfl⟩
theorem Turn.trans (h : Turn S w w') (k : Turn S' w' w'') (hs : ∀ i, S' i → S i ∨ w.heap.size ≤ i) : Turn S w w'' :=
  ⟨k.os.trans h.os, k.tape.trans h.tape, k.output.trans h.output, Nat.le_trans h.size k.size, fun i hi hn =>
    (k.block i (Nat.lt_of_lt_of_le hi h.size) (fun e => (hs i e).elim hn (fun e => by omega))).trans (h.block i hi hn)⟩
theorem Turn.of_grown {row : Option Nat} (h : w.grownBy w' row) (hr : ∀ i, row = some i → S i ∨ w.heap.size ≤ i) : Turn S w w' :=
  ⟨h.os, h.tape, h.output, h.size, fun i hi hn => h.block i hi (fun e => (hr i e.symm).elim hn (fun e => by omega))⟩
theorem Turn.of_below (h : Below w.heap.size w w') : Turn S w w' := ⟨h.os, h.tape, h.output, h.size, fun i hi _ => h.block i hi⟩
theorem Turn.below {B : Nat} (h : Turn S w w') (hB : B ≤ w.heap.size) (hs : ∀ i, S i → B ≤ i) : Below B w w' :=
  ⟨h.os, h.tape, h.output, h.size, fun i hi => h.block i (by omega) (fun e => by have := hs i e; omega)⟩
theorem Turn.mono (h : Turn S w w') (hs : ∀ i, S i → S' i) : Turn S' w w' := ⟨h.os, h.tape, h.output, h.size, fun i hi hn => h.block i hi (fun e => hn (hs i e))⟩
theorem Turn.drew (h : Turn S w w') : Turn S w w'.drew := ⟨h.os, h.tape, h.output, h.size, h.block⟩
theorem Turn.alloc (h : Turn S w w') (o : Obj) : Turn S w (w'.alloc o) := h.trans (Turn.of_grown (S := fun _ => False) (World.grownBy_alloc w' o Option.none) (by simp)) (by simp)
end

section
variable {α : Type} {F : Fence} {n : Nat} {P : Program}
/-- J stands whatever the iterator does between two rounds: it makes memory, and turns blocks of its own. -/
def AbideOwn (Own : World → Nat → Prop) (B : Nat) (J : List α → World → Prop) : Prop := ∀ s W W', J s W → Turn (fun k => B ≤ k ∧ Own W k) W W' → J s W'
/-- An iterator: what it hands out is so (Fact) where it hands it out; what a round keeps (Kp) is what it wants kept. -/
def SeqOwn (F : Fence) (n : Nat) (P : Program) (g : Nat) (lb : Array Value) (encs : α → Array Value) (Own : World → Nat → Prop) (Fact : Nat → α → World → Prop) (Kp : Nat → World → World → Prop) (Nx : List α → α → Prop) (S Sp : List α → Prop) (w : World) : Prop :=
  ∀ (l : Nat) (J Jx : List α → World → Prop) (W : World), Below w.heap.size w W → AbideOwn Own W.heap.size J → AbideOwn Own W.heap.size Jx →
    (∀ pre x W1, J pre W1 → W.heap.size ≤ W1.heap.size → Fact W.heap.size x W1 → Nx pre x → YieldAt F (n - 1) P l (encs x) W1 fun e W' => (e = .returned (.bool true) ∧ J (pre ++ [x]) W' ∧ Kp W.heap.size W1 W') ∨ (e = .returned (.bool false) ∧ Jx (pre ++ [x]) W')) →
    J [] W →
    CallsIn F n P g (#[.func (.yield l) #[] #[]] ++ lb) W fun e W' => (∃ v, e = .returned v) ∧ ((∃ xs, S xs ∧ J xs W') ∨ (∃ pre, Sp pre ∧ Jx pre W'))

/-- How a round's body may be left: it keeps what is no cells from B0 on; where it goes on, Kp is paid. -/
def roundOwn (B0 B : Nat) (Kp : Nat → World → World → Prop) (I : List α → World → Prop) (Ix : Code → List α → World → Prop) (xs : List α) (W : World) : Exit → Act → World → Prop
  | .normal, _, W' => KeepsFrom B0 W W' ∧ Kp B W W' ∧ I xs W'
  | .exit id, _, W' => KeepsFrom B0 W W' ∧ Ix (.exit id) xs W'
  | .ret, _, W' => KeepsFrom B0 W W' ∧ Ix .ret xs W'
  | _, _, _ => False

/-- What a block of the loop's own keeps: it is no cells. -/
theorem turn_own {Own : World → Nat → Prop} (hown : ∀ W k, Own W k → ∃ o, W.heap[k]? = some o ∧ o.isCells = true) {B k : Nat} {W W' : World} {o : Obj} (ht : Turn (fun k => B ≤ k ∧ Own W k) W W') (hk : W.heap[k]? = some o) (ho : o.isCells = false) : W'.heap[k]? = some o := by
  rw [ht.block k (lt_of_block hk) (fun h => by obtain ⟨o', h1, h2⟩ := hown W k h.2; rw [hk] at h1; cases h1; rw [ho] at h2; cases h2), hk]

theorem range_own {g : Operand} {ps : Array Tmp} {assign body : Code} {Q : Exit → Act → World → Prop} {a : Act} {w : World}
    (hro : F.round = none) (h1 : 1 ≤ n) {gf : Nat} {lb : Array Value} (hg : a.eval g = .func (.func gf) #[] lb) (hFg : F.fn gf) (eg : ∀ args w, (callFunc gf args).run P w = .ok (.enter gf args) w)
    {encs : α → Array Value} {Own : World → Nat → Prop} {Fact : Nat → α → World → Prop} {Kp : Nat → World → World → Prop} {Nx : List α → α → Prop} {S Sp : List α → Prop} (hseq : SeqOwn F (n - 1) P gf lb encs Own Fact Kp Nx S Sp w)
    (hown : ∀ W k, Own W k → ∃ o, W.heap[k]? = some o ∧ o.isCells = true)
    (hKt : ∀ {B : Nat} {X Y Z : World}, Kp B X Y → Kp B Y Z → Kp B X Z) (hKp : ∀ (B : Nat) (W : World) (k : Nat) (o o' : Obj), k < B → W.heap[k]? = some o → o.isCells = false → Kp B W (W.putObj k o')) (hps : ∀ x, (encs x).size = ps.size)
    (hFp : ∀ (B : Nat) (x : α) (W : World) (k : Nat) (o o' : Obj), Fact B x W → W.heap[k]? = some o → o.isCells = false → Fact B x (W.putObj k o'))
    (I : List α → World → Prop) (Ix : Code → List α → World → Prop)
    (hIo : AbideOwn Own (w.heap.size + 2) I) (hIxo : ∀ c, AbideOwn Own (w.heap.size + 2) (Ix c))
    (hIp : ∀ s W k o o', I s W → w.heap.size ≤ k → W.heap[k]? = some o → o.isCells = false → I s (W.putObj k o'))
    (hIxp : ∀ c s W k o o', Ix c s W → w.heap.size ≤ k → W.heap[k]? = some o → o.isCells = false → Ix c s (W.putObj k o'))
    (h0 : ∀ W, Below w.heap.size w W → W.heap.size = w.heap.size + 2 → I [] W) (a₁ : α → Act)
    (hassign : ∀ (l : Nat) (x : α) (W : World) (K : Act → World → Prop), K (a₁ x) W →
      assign.wpIn (F.inRound l) (n - 1 - 1) P (Exit.then K (fun _ _ _ => False)) { tmps := (ps.zip (encs x)).foldl (fun t (p, v) => t.setIfInBounds p v) a.tmps, defers := [] } W)
    (hbody : ∀ (l : Nat) (pre : List α) (x : α) (W : World), I pre W → w.heap.size + 2 ≤ W.heap.size → Fact (w.heap.size + 2) x W → Nx pre x → body.wpIn (F.inRound l) (n - 1 - 1) P (roundOwn w.heap.size (w.heap.size + 2) Kp I Ix (pre ++ [x]) W) (a₁ x) W)
    (hdone : ∀ (xs : List α) (W : World), S xs → I xs W → W.heap[w.heap.size]? = some (.deferred (some [])) → Q .normal { a with defers := { target := .collected w.heap.size, args := #[] } :: a.defers } W)
    (hstop : ∀ (c : Code) (pre : List α) (W : World), Sp pre → Ix c pre W → W.heap[w.heap.size]? = some (.deferred (some [])) → c.wpIn F n P Q { a with defers := { target := .collected w.heap.size, args := #[] } :: a.defers } W) :
    (Code.rangeFunc g ps assign body).wpIn F n P Q a w := by
  refine wpIn_rangeFunc fun fn hfn => ?_
  rw [hro]
  let r : LoopState → Option Code → Obj := fun st pe => .loop { state := st, pending := pe, fn, tmps := a.tmps, params := ps, assign, body, defers := w.heap.size }
  obtain ⟨W1, hW1⟩ : ∃ W1, W1 = (w.alloc (.deferred (some []))).alloc (r .ready none) := ⟨_, rfl⟩
  have hz1 : W1.heap.size = w.heap.size + 2 := by rw [hW1]; simp
  have hb1 : Below w.heap.size w W1 := by rw [hW1]; exact ((Below.refl _ w).alloc (Nat.le_refl _) _).alloc (by simp) _
  have hl1 : W1.heap[w.heap.size + 1]? = some (r .ready none) := by
    rw [hW1]; have := heap_alloc_new (w.alloc (.deferred (some []))) (r .ready none); rwa [World.size_alloc] at this
  have hd1 : W1.heap[w.heap.size]? = some (.deferred (some [])) := by
    rw [hW1]; exact (Below.heap_alloc _ _ _ (by simp)).trans (heap_alloc_new w _)
  refine ⟨w.heap.size + 1, [{ target := .collected w.heap.size, args := #[] }], W1, { target := .fn (.func gf) lb, args := #[.func (.yield (w.heap.size + 1)) #[] #[]] }, W1, gf, #[.func (.yield (w.heap.size + 1)) #[] #[]] ++ lb, W1, ?_, ?_, fun f' hf' => ?_, ?_, fun _ => h1, ?_⟩
  · rw [hW1]; exact run_enterLoop_outer _ _ _ _ _
  · simp only [resolve, hg]
    simp [go_sem]
  · simp [Target.leads] at hf'; subst hf'; exact hFg
  · simp [invoke, go_sem, eg]
  · refine (hseq (w.heap.size + 1)
      (fun pre W => I pre W ∧ W.heap[w.heap.size + 1]? = some (r .ready none) ∧ W.heap[w.heap.size]? = some (.deferred (some [])))
      (fun pre W => ∃ c, Ix c pre W ∧ W.heap[w.heap.size + 1]? = some (r .done (some c)) ∧ W.heap[w.heap.size]? = some (.deferred (some []))) W1 hb1
      (fun s X Y ⟨k1, k2, k3⟩ ht => ⟨hIo s X Y k1 (by rw [← hz1]; exact ht), turn_own hown ht k2 rfl, turn_own hown ht k3 rfl⟩)
      (fun s X Y ⟨c, k1, k2, k3⟩ ht => ⟨c, hIxo c s X Y k1 (by rw [← hz1]; exact ht), turn_own hown ht k2 rfl, turn_own hown ht k3 rfl⟩) ?_ ⟨h0 W1 hb1 hz1, hl1, hd1⟩).mono ?_
    · rintro pre x W ⟨hi, hl, hd⟩ hsz hf hnx
      rw [hz1] at hf hsz
      have hlt := lt_of_block hl
      have hy := run_yield (P := P) (args := encs x) hl (hps x)
      refine ⟨fn, _, assign, body, hy, roundIn_of_wpIn hfn (hassign _ x W _ ⟨_, run_beginRound hl rfl, ?_⟩)⟩
      obtain ⟨V, hV⟩ : ∃ V, V = W.putObj (w.heap.size + 1) (r .busy none) := ⟨_, rfl⟩
      have hlV : V.heap[w.heap.size + 1]? = some (r .busy none) := by rw [hV]; exact World.putObj_heap_same hlt
      have hdV : V.heap[w.heap.size]? = some (.deferred (some [])) := by rw [hV]; exact (World.putObj_heap_other (by omega)).trans hd
      have hkV : Kp W1.heap.size W V := by rw [hV]; exact hKp _ _ _ _ _ (by omega) hl rfl
      have hzV : w.heap.size + 2 ≤ V.heap.size := by rw [hV]; simpa using hsz
      have hiV : I pre V := by rw [hV]; exact hIp _ _ _ _ _ hi (by omega) hl rfl
      have hfV : Fact (w.heap.size + 2) x V := by rw [hV]; exact hFp _ _ _ _ _ _ hf hl rfl
      have hgo : body.wpIn (F.inRound (w.heap.size + 1)) (n - 1 - 1) P (roundOwn w.heap.size (w.heap.size + 2) Kp I Ix (pre ++ [x]) V) (a₁ x) V := hbody _ pre x V hiV hzV hfV hnx
      rw [hV] at hgo
      refine wpIn_mono hgo ?_
      rw [← hV]
      have fin : ∀ (jump : Option Code) (X : World), KeepsFrom w.heap.size V X → (Instr.endRound (w.heap.size + 1) jump).run P X = .ok (.bool jump.isNone) (X.putObj (w.heap.size + 1) (r (if jump.isNone then .ready else .done) jump)) ∧ X.heap[w.heap.size + 1]? = some (r .busy none) ∧ X.heap[w.heap.size]? = some (.deferred (some [])) := fun jump X hk => by
        have hlX := hk.same _ _ (by omega) hlV rfl
        exact ⟨run_endRound (P := P) jump hlX, hlX, hk.same _ _ (Nat.le_refl _) hdV rfl⟩
      rintro e a3 X hp
      cases e with
      | normal =>
        obtain ⟨hk, hkp, hiX⟩ := hp
        obtain ⟨hr, hlX, hdX⟩ := fin none X hk
        exact ⟨_, _, hr, .inl ⟨rfl, ⟨hIp _ _ _ _ _ hiX (by omega) hlX rfl, World.putObj_heap_same (lt_of_block hlX), (World.putObj_heap_other (by omega)).trans hdX⟩, hKt (hKt hkV (by rw [hz1]; exact hkp)) (hKp _ _ _ _ _ (by omega) hlX rfl)⟩⟩
      | exit id =>
        obtain ⟨hk, hiX⟩ := hp
        obtain ⟨hr, hlX, hdX⟩ := fin (some (.exit id)) X hk
        exact ⟨_, _, hr, .inr ⟨rfl, .exit id, hIxp _ _ _ _ _ _ hiX (by omega) hlX rfl, World.putObj_heap_same (lt_of_block hlX), (World.putObj_heap_other (by omega)).trans hdX⟩⟩
      | ret =>
        obtain ⟨hk, hiX⟩ := hp
        obtain ⟨hr, hlX, hdX⟩ := fin (some .ret) X hk
        exact ⟨_, _, hr, .inr ⟨rfl, .ret, hIxp _ _ _ _ _ _ hiX (by omega) hlX rfl, World.putObj_heap_same (lt_of_block hlX), (World.putObj_heap_other (by omega)).trans hdX⟩⟩
      | goto t => exact hp.elim
      | panic ch => exact hp.elim
      | outgrown => exact hp.elim
    · rintro e W2 ⟨⟨v, rfl⟩, (⟨xs, hS, hi, hl, hd⟩ | ⟨pre, hSp, c, hi, hl, hd⟩)⟩
      · exact ⟨none, _, run_endLoop (P := P) hl (by simp), hdone xs _ hS (hIp _ _ _ _ _ hi (by omega) hl rfl) ((World.putObj_heap_other (by omega)).trans hd)⟩
      · exact ⟨some c, _, run_endLoop (P := P) hl (by simp), hstop c pre _ hSp (hIxp _ _ _ _ _ _ hi (by omega) hl rfl) ((World.putObj_heap_other (by omega)).trans hd)⟩
end

/-! ### what a loop's body keeps: all cells that lie below B, but for those of one block -/
structure KpD (d B : Nat) (W W' : World) : Prop where
  size : W.heap.size ≤ W'.heap.size
  keep : ∀ (k : Nat) (o : Obj), k < B → k ≠ d → W.heap[k]? = some o → o.isCells = true → W'.heap[k]? = some o
theorem KpD.refl (d B : Nat) (W : World) : KpD d B W W := ⟨Nat.le_refl _, fun _ _ _ _ h _ => h⟩
theorem KpD.trans {d B : Nat} {X Y Z : World} (h : KpD d B X Y) (k : KpD d B Y Z) : KpD d B X Z := ⟨Nat.le_trans h.size k.size, fun i o hi hd ho hc => k.keep i o hi hd (h.keep i o hi hd ho hc) hc⟩
theorem KpD.put {d B : Nat} {W : World} {k : Nat} {o o' : Obj} (hk : W.heap[k]? = some o) (ho : o.isCells = false) : KpD d B W (W.putObj k o') := by
  refine ⟨by simp [World.putObj], fun i o2 _ _ hi hc => ?_⟩
  rw [World.putObj_heap_other (fun e => ?_)]
  · exact hi
  · subst e; rw [hk] at hi; cases hi; rw [ho] at hc; cases hc
theorem KpD.below {d B : Nat} {W W' : World} (hb : Below W.heap.size W W') : KpD d B W W' := ⟨hb.size, fun i o _ _ hi _ => (hb.block i (lt_of_block hi)).trans hi⟩
theorem KpD.drew {d B : Nat} {W W' : World} (h : KpD d B W W') : KpD d B W W'.drew := ⟨h.size, h.keep⟩
theorem KpD.set {d B : Nat} (W : World) (i : Nat) (v : Value) : KpD d B W (W.setCell ⟨d, i, none⟩ v) := by
  refine ⟨by simp [World.setCell], fun k o _ hd hk _ => ?_⟩
  rw [Below.heap_setCell W ⟨d, i, none⟩ v k hd]
  exact hk
theorem KpD.cell {d B : Nat} {W W' : World} (h : KpD d B W W') {p : Addr} {v : Value} (hv : W.cell? p = some v) (hp : p.block < B) (hd : p.block ≠ d) : W'.cell? p = some v := by
  obtain ⟨b, i, s⟩ := p
  have hb : ∃ o, W.heap[b]? = some o ∧ o.isCells = true := by
    unfold World.cell? at hv
    cases ho : W.heap[b]? with
    | none => simp [ho] at hv
    | some o => cases o <;> simp_all [Obj.isCells]
  obtain ⟨o, ho, hc⟩ := hb
  exact (World.cell?_of_block (a := ⟨b, i, s⟩) ((h.keep b o hp hd ho hc).trans ho.symm)).trans hv
theorem KpD.boxed {d B : Nat} {W W' : World} (h : KpD d B W W') {i : Nat} {o : Obj} (hi : W.heap[i]? = some o) (ho : o.isCells = true) (hB : i < B) (hd : i ≠ d) : W'.heap[i]? = some o := h.keep i o hB hd hi ho
end Go.Proofs.YtcekgllahlhaaaaGreatDoor

namespace Go.Proofs.YtcekgllahlhaaaaGreatDoor
open Go.RowKit Go.Shelf
set_option linter.unusedVariables false
set_option maxRecDepth 100000
attribute [local go_sem] Oper.semAt_some

theorem together_any (w : World) (A B : Option Addr) (n m c d : Nat) : Calls Tryz.prog 103 #[.slice A n c, .slice B m d] w fun e w' => e = .returned (.func (.func 119) #[] #[.pointer (some ⟨w.heap.size, 0, none⟩), .pointer (some ⟨w.heap.size + 1, 0, none⟩)]) ∧ w' = (w.alloc (.cells #[.slice A n c] 26)).alloc (.cells #[.slice B m d] 26) := by
  go_enter Tryz.func103, Tryz.ntmps103
  go_wp2
  go_ret
  exact ⟨rfl, rfl⟩

/-- Some first ones. -/
def Begins (zs pre : List (Int × Int)) : Prop := ∃ k, pre = zs.take k
def encP (x : Int × Int) : Array Value := #[.int .i32 x.1, .int .i32 x.2]
/-- How a round ended. -/
def RoundB (J Jx : List (Int × Int) → World → Prop) (d B : Nat) (pre : List (Int × Int)) (W1 : World) (e : Ending) (W' : World) : Prop :=
  ∃ b : Bool, e = .returned (.bool b) ∧ (b = true → J pre W' ∧ KpD d B W1 W') ∧ (b = false → Jx pre W')

set_option maxHeartbeats 2000000 in
theorem together1_in {w : World} {A A' : Option Addr} {c c' : Nat} {a b : List Int} (n d ba bb : Nat) (hn : 1 ≤ n) (hl : b.length = a.length) (hba : w.cell? ⟨ba, 0, none⟩ = some (.slice A a.length c)) (hbb : w.cell? ⟨bb, 0, none⟩ = some (.slice A' a.length c')) (ha : Vec .i32 w A c a) (hb : Vec .i32 w A' c' b)
    (hd1 : ba ≠ d) (hd2 : bb ≠ d) (hda : ∀ g o, A = some ⟨g, o, none⟩ → 0 < a.length → g ≠ d) (hdb : ∀ g o, A' = some ⟨g, o, none⟩ → 0 < a.length → g ≠ d) :
    SeqOwn Fence.wide n Tryz.prog 119 #[.pointer (some ⟨ba, 0, none⟩), .pointer (some ⟨bb, 0, none⟩)] encP (fun _ _ => False) (fun _ _ _ => True) (KpD d) (fun pre x => (a.zip b)[pre.length]? = some x) (fun xs => xs = a.zip b) (Begins (a.zip b)) w := by
  intro l J Jx W hW hJ hJx hY h0
  have hca : W.cell? ⟨ba, 0, none⟩ = some (.slice A a.length c) := (hW.cell (p := ⟨ba, 0, none⟩) (World.block_lt_of_cell? w _ hba)).trans hba
  have hcb : W.cell? ⟨bb, 0, none⟩ = some (.slice A' a.length c') := (hW.cell (p := ⟨bb, 0, none⟩) (World.block_lt_of_cell? w _ hbb)).trans hbb
  have hba' : ba < W.heap.size := World.block_lt_of_cell? W _ hca
  have hbb' : bb < W.heap.size := World.block_lt_of_cell? W _ hcb
  have HVA := Lib.hid (ha.below hW)
  have HVB := Lib.hid (hb.below hW)
  obtain ⟨m, hm⟩ : ∃ m, m = a.length := ⟨_, rfl⟩
  have hmx : m ≤ 9223372036854775807 := by rw [hm]; exact Nat.le_trans ha.room ha.most
  have hzl : (a.zip b).length = m := by rw [List.length_zip, hl, hm]; simp
  have HL := Lib.hid hl
  have HDA := Lib.hid hda
  have HDB := Lib.hid hdb
  have HJ := Lib.hid hJ
  have HY := Lib.hid hY
  have H0 := Lib.hid h0
  have HM := Lib.hid hm
  have HZ := Lib.hid hzl
  rw [← hm] at hca hcb
  clear hba hbb ha hb hW hJ hJx hY h0 hl hm hda hdb hzl
  refine callsIn_of_wp Tryz.func119 rfl trivial ?_ rfl
  simp only [Tryz.ntmps119, List.size_toArray, List.length_cons, List.length_nil, Nat.reduceAdd, Nat.reduceSub, Array.replicate_succ, Array.replicate_zero, List.push_toArray, List.append_toArray, List.nil_append, List.cons_append]
  gi_wp2
  gi_loopw [4, 10] (fun _ i wr => ∃ k : Nat, i = .int .i64 k ∧ k ≤ m ∧ Hid (J ((a.zip b).take k) wr ∧ KpD d W.heap.size W wr)) (fun _ i _ => m - (match i with | .int _ k => k.toNat | _ => 0))
  case atStart => exact ⟨0, rfl, Nat.zero_le _, Lib.hid ⟨H0.out, KpD.refl _ _ _⟩⟩
  case round =>
    obtain ⟨k, rfl, hk, HH⟩ := hrel
    by_cases hkm : k < m
    · have hkk : (k : Int) < m := by omega
      have k0 : (0 : Int) ≤ (k : Int) := by omega
      obtain ⟨g1, o1, rfl, hg1, hc1⟩ := HVA.out.at_ (j := k) (by rw [← HM.out]; exact hkm)
      obtain ⟨g2, o2, rfl, hg2, hc2⟩ := HVB.out.at_ (j := k) (by rw [HL.out, ← HM.out]; exact hkm)
      have e1 := HH.out.2.cell hc1 hg1 (HDA.out g1 o1 rfl (by have := HM.out; omega))
      have e2 := HH.out.2.cell hc2 hg2 (HDB.out g2 o2 rfl (by have := HM.out; omega))
      have e3 := HH.out.2.cell hca hba' hd1
      have e4 := HH.out.2.cell hcb hbb' hd2
      have hx : (a.zip b)[k]? = some (a.getD k 0, b.getD k 0) := by
        rw [List.getElem?_eq_getElem (by rw [HZ.out]; exact hkm), List.getElem_zip]
        simp [List.getD, List.getElem?_eq_getElem (show k < a.length by rw [← HM.out]; exact hkm), List.getElem?_eq_getElem (show k < b.length by rw [HL.out, ← HM.out]; exact hkm)]
      have hlen : ((a.zip b).take k).length = k := by rw [List.length_take, HZ.out]; omega
      generalize a.getD k 0 = x at *
      generalize b.getD k 0 = y at *
      obtain ⟨fn, tmps, assign, body, hy, hR⟩ := HY.out ((a.zip b).take k) (x, y) wr.drew (HJ.out _ wr _ HH.out.1 (Turn.refl _ _).drew) HH.out.2.size trivial (by rw [hlen]; exact hx)
      have hst : (a.zip b).take k ++ [(x, y)] = (a.zip b).take (k + 1) := by rw [List.take_add_one, hx]; rfl
      rw [hst] at hR
      have HR := Lib.hid (hR.mono (R' := RoundB J Jx d W.heap.size ((a.zip b).take (k + 1)) wr.drew) (fun e W' h => by
        rcases h with ⟨rfl, h1, h2⟩ | ⟨rfl, h1⟩
        · exact ⟨true, rfl, fun _ => ⟨h1, h2⟩, fun h => by cases h⟩
        · exact ⟨false, rfl, fun h => (by cases h), fun _ => h1⟩))
      unfold encP at hy
      dsimp only at hy
      have hmx2 : Tryz.prog.follows .mixedOrders = true := by kernel_rfl
      clear hR hx hlen hst hc1 hc2 hg1 hg2
      gi_wp2
      gi_region_with_o (refine HR.out.mono ?_; rintro e W3 ⟨bo, rfl, hb⟩; have HB := Lib.hid hb; clear hb)
      all_goals
        cases bo
        · gi_wp2
          refine bodyPost_ret (results_none rfl _ _ _) rfl ?_
          exact ⟨⟨_, rfl⟩, .inr ⟨_, ⟨k + 1, rfl⟩, HB.out.2 (by simp)⟩⟩
        · gi_wp2
          go_roundw
          case rel => exact ⟨k + 1, by simp, by omega, Lib.hid ⟨(HB.out.1 rfl).1, HH.out.2.drew.trans (HB.out.1 rfl).2⟩⟩
          case measure => simp; omega
    · obtain rfl : k = m := by omega
      have HF := Lib.hid (show J (a.zip b) wr by have := HH.out.1; rw [List.take_of_length_le (Nat.le_of_eq HZ.out)] at this; exact this)
      gi_wp2
      go_end0
      exact ⟨⟨_, rfl⟩, .inl ⟨_, rfl, HF.out⟩⟩

end Go.Proofs.YtcekgllahlhaaaaGreatDoor

namespace Go.Proofs.YtcekgllahlhaaaaGreatDoor
open Go.RowKit Go.Shelf
set_option linter.unusedVariables false
set_option maxRecDepth 100000
attribute [local go_sem] Oper.semAt_some

/-! ### plain numbers -/
def sq (p : Int × Int) : Int := (p.1 - p.2) * (p.1 - p.2)
def sumP (ps : List (Int × Int)) : Int := (ps.map sq).sum
def distM (a b : List Int) : Int := sumP (a.zip b)
theorem sumP_snoc (ps : List (Int × Int)) (x : Int × Int) : sumP (ps ++ [x]) = sumP ps + sq x := by simp [sumP]
theorem sq_nonneg (p : Int × Int) : 0 ≤ sq p := by
  unfold sq
  rcases Int.le_total 0 (p.1 - p.2) with h | h
  · exact Int.mul_nonneg h h
  · exact Int.mul_nonneg_of_nonpos_of_nonpos h h
def pairIn (p : Int × Int) : Prop := (-1073741823 ≤ p.1 ∧ p.1 ≤ 1073741823) ∧ (-1073741823 ≤ p.2 ∧ p.2 ≤ 1073741823)
theorem sq_le (p : Int × Int) (h : pairIn p) : sq p ≤ 4611686009837453316 := by
  obtain ⟨⟨h1, h2⟩, h3, h4⟩ := h
  unfold sq
  have e : (4611686009837453316 : Int) = 2147483646 * 2147483646 := by decide
  rw [e]
  rcases Int.le_total 0 (p.1 - p.2) with h | h
  · exact Int.mul_le_mul (by omega) (by omega) h (by omega)
  · have := Int.mul_le_mul (a := -(p.1 - p.2)) (b := -(p.1 - p.2)) (c := 2147483646) (d := 2147483646) (by omega) (by omega) (by omega) (by omega)
    rwa [Int.neg_mul_neg] at this
theorem sumP_le (ps : List (Int × Int)) (h : ∀ p ∈ ps, pairIn p) : 0 ≤ sumP ps ∧ sumP ps ≤ 4611686009837453316 * ps.length := by
  induction ps with
  | nil => simp [sumP]
  | cons p ps ih =>
    have h1 := ih (fun q hq => h q (by simp [hq]))
    have h2 := sq_le p (h p (by simp))
    have h3 := sq_nonneg p
    have e : sumP (p :: ps) = sq p + sumP ps := by simp [sumP]
    rw [e, List.length_cons]
    omega
theorem right_len {xs : List Int} (h : right xs = true) : 1 ≤ xs.length ∧ xs.length ≤ 4 := by unfold right at h; simp at h; exact h.1
theorem right_comp {xs : List Int} (h : right xs = true) : ∀ x ∈ xs, -1073741823 ≤ x ∧ x ≤ 1073741823 := by
  unfold right at h
  simp only [Bool.and_eq_true, List.all_eq_true] at h
  intro x hx
  have := h.2 x hx
  unfold comp at this
  simpa using this
theorem zip_in {a b : List Int} (ha : right a = true) (hb : right b = true) : ∀ p ∈ a.zip b, pairIn p := by
  intro p hp
  have := List.of_mem_zip (a := p.1) (b := p.2) hp
  exact ⟨right_comp ha _ this.1, right_comp hb _ this.2⟩
/-- A number of 64 bits. -/
def U64 (n : Int) : Prop := 0 ≤ n ∧ n < 18446744073709551616
theorem u64_fit {n : Int} (h : U64 n) : IntKind.u64.wrap n = n := by
  unfold U64 at h
  rw [IntKind.wrap_u64]; omega

/-- The sum so far. -/
def SumI (w : World) (a b : List Int) (pre : List (Int × Int)) (W : World) : Prop := Boxed W w.heap.size 29 (.int .u64 (sumP pre)) ∧ Below w.heap.size w W ∧ ∃ k, pre = (a.zip b).take k
theorem put_other {W : World} {k i : Nat} {o o' o2 : Obj} (h : W.heap[k]? = some o) (ho : o.isCells = false) (hi : W.heap[i]? = some o2) (h2 : o2.isCells = true) : (W.putObj k o').heap[i]? = some o2 := by
  rw [World.putObj_heap_other (fun e => ?_)]
  · exact hi
  · subst e; rw [h] at hi; cases hi; rw [ho] at h2; cases h2
theorem below_put {W : World} {k : Nat} {o : Obj} {B : Nat} (hk : B ≤ k) (hB : B ≤ W.heap.size) : Below B W (W.putObj k o) :=
  ⟨rfl, rfl, rfl, by simp [World.putObj], fun i hi => World.putObj_heap_other (by omega)⟩

set_option maxHeartbeats 2000000 in
theorem distance_any (A A' : Option Addr) (c c' : Nat) (a b : List Int) (w : World) (ha : Vec .i32 w A c a) (hb : Vec .i32 w A' c' b) (ra : right a = true) (rb : right b = true) (hl : b.length = a.length) :
    Calls Tryz.prog 72 #[.slice A a.length c, .slice A' b.length c'] w fun e w' => e = .returned (.int .u64 (distM a b)) ∧ Below w.heap.size w w' := by
  have hin := zip_in ra rb
  have hlen := right_len ra
  have hzl : (a.zip b).length ≤ 4 := by rw [List.length_zip]; omega
  have hpos : 0 < a.length := by omega
  have lA := fun g o (e : A = some ⟨g, o, none⟩) => (show g < w.heap.size by obtain ⟨g', o', e', h', _⟩ := ha.rd hpos; rw [e] at e'; cases e'; exact h')
  have lB := fun g o (e : A' = some ⟨g, o, none⟩) => (show g < w.heap.size by obtain ⟨g', o', e', h', _⟩ := hb.rd (by omega); rw [e] at e'; cases e'; exact h')
  rw [hl]
  obtain ⟨m, hm⟩ : ∃ m, m = a.length := ⟨_, rfl⟩
  rw [← hm]
  refine (callsIn_wide (n := 3)).1 ?_
  refine callsIn_of_wp_marks Tryz.func72 rfl trivial ?_ rfl
  simp only [Tryz.ntmps72, List.size_toArray, List.length_cons, List.length_nil, Nat.reduceAdd, Nat.reduceSub, Array.replicate_succ, Array.replicate_zero, List.push_toArray, List.append_toArray, List.nil_append, List.cons_append]
  have HA := Lib.hid ha
  have HB := Lib.hid hb
  have HM := Lib.hid hm
  have HI := Lib.hid hin
  have HLA := Lib.hid lA
  have HLB := Lib.hid lB
  have HZ := Lib.hid hzl
  have HL := Lib.hid hl
  clear ha hb hm hin lA lB ra rb hlen hpos hzl hl
  gi_wp2_with (refine ⟨trivial, ?_⟩; gi_at_call 103; refine (callsIn_wide.2 (together_any _ _ _ _ _ _ _)).mono ?_; rintro e w' ⟨rfl, rfl⟩)
  obtain ⟨W0, hW0⟩ : ∃ W0, W0 = ((w.alloc (.cells #[.int .u64 0] 29)).alloc (.cells #[.slice A m c] 26)).alloc (.cells #[.slice A' m c'] 26) := ⟨_, rfl⟩
  have hbw : Below w.heap.size w W0 := by rw [hW0]; exact (((Below.refl _ w).alloc (Nat.le_refl _) _).alloc (by simp) _).alloc (by simp; omega) _
  have hsz : W0.heap.size = w.heap.size + 3 := by rw [hW0]; simp
  have b0 : Boxed W0 w.heap.size 29 (.int .u64 0) := by rw [hW0]; exact ((Boxed.new w _ _).alloc _).alloc _
  have b1 : W0.cell? ⟨w.heap.size + 1, 0, none⟩ = some (.slice A m c) := by
    rw [hW0]
    have h := (Boxed.new (w.alloc (.cells #[.int .u64 0] 29)) 26 (.slice A m c)).alloc (.cells #[.slice A' m c'] 26)
    rw [World.size_alloc] at h
    exact h.cell
  have b2 : W0.cell? ⟨w.heap.size + 2, 0, none⟩ = some (.slice A' m c') := by
    rw [hW0]
    have h := Boxed.new ((w.alloc (.cells #[.int .u64 0] 29)).alloc (.cells #[.slice A m c] 26)) 26 (.slice A' m c')
    rw [World.size_alloc, World.size_alloc] at h
    exact h.cell
  simp only [Nat.add_assoc, Nat.reduceAdd] at hW0 ⊢
  rw [← hW0]
  clear hW0
  have hseq := together1_in (w := W0) (A := A) (A' := A') (c := c) (c' := c') (a := a) (b := b) 2 w.heap.size (w.heap.size + 1) (w.heap.size + 2) (by omega) HL.out (by rw [← HM.out]; exact b1) (by rw [← HM.out]; exact b2) (HA.out.below hbw) (HB.out.below hbw) (by omega) (by omega) (fun g o e _ => by have := HLA.out g o e; omega) (fun g o e _ => by have := HLB.out g o e; omega)
  refine range_own rfl (by omega) (gf := 119) (lb := #[.pointer (some ⟨w.heap.size + 1, 0, none⟩), .pointer (some ⟨w.heap.size + 2, 0, none⟩)]) rfl trivial (enters_of Tryz.func119 (by kernel_rfl) rfl) hseq
    (fun W k h => h.elim) KpD.trans (fun B W k o o' _ hk ho => KpD.put hk ho) (fun _ => rfl) (fun _ _ _ _ _ _ _ _ _ => trivial)
    (SumI w a b) (fun _ _ _ => False) ?io ?ixo ?ip ?ixp ?h0
    (fun x => { tmps := #[.slice A m c, .slice A' m c', undef, undef, .int .u64 0, .pointer (some ⟨w.heap.size, 0, none⟩), .int .i32 x.1, .int .i32 x.2, undef, .slice A m c, .slice A' m c',
      .func (.func 119) #[] #[.pointer (some ⟨w.heap.size + 1, 0, none⟩), .pointer (some ⟨w.heap.size + 2, 0, none⟩)], .int .i32 x.1, .int .i32 x.2, undef, undef, undef, undef, undef, undef, undef, undef, undef, undef, undef, undef], defers := [] }) ?assign ?body ?done ?stop
  case io => exact fun s X Y h ht => ⟨(ht.block _ h.1.lt (fun e => e.2)).trans h.1, h.2.1.trans (Turn.below ht h.2.1.size (fun k e => e.2.elim)), h.2.2⟩
  case ixo => exact fun _ _ _ _ h _ => h
  case ip => exact fun s X k o o' h hk ho hc => ⟨put_other ho hc h.1 rfl, h.2.1.trans (below_put (by omega) h.2.1.size), h.2.2⟩
  case ixp => exact fun _ _ _ _ _ _ h _ _ _ => h
  case h0 => exact fun W hb _ => ⟨(hb.block _ b0.lt).trans b0, hbw.trans (hb.mono hbw.size), 0, rfl⟩
  case assign =>
    intro l x W K hK
    dsimp only [encP]
    gi_wp2
    exact hK
  case body =>
    rintro l pre x W ⟨hv, hB, k, rfl⟩ _ _ hnx
    have hx : x ∈ a.zip b := List.mem_of_getElem? hnx
    have hkl : ((a.zip b).take k).length ≤ k := by simp; omega
    have hpx : (a.zip b).take k ++ [x] = (a.zip b).take (((a.zip b).take k).length + 1) := by
      rw [List.take_add_one, hnx]
      congr 1
      rw [List.length_take]
      rcases Nat.le_total k (a.zip b).length with h | h
      · rw [Nat.min_eq_left h]
      · rw [Nat.min_eq_right h, List.take_of_length_le h, List.take_of_length_le (Nat.le_refl _)]
    have hin : ∀ p ∈ (a.zip b).take k ++ [x], pairIn p := fun p hp => by
      rw [hpx] at hp
      exact HI.out p (List.mem_of_mem_take hp)
    have hle := sumP_le _ hin
    have hll : ((a.zip b).take k ++ [x]).length ≤ 4 := Nat.le_trans (by rw [hpx]; exact List.length_take_le' _ _) HZ.out
    have h0 := (sumP_le _ (fun p hp => hin p (by simp [hp]) : ∀ p ∈ (a.zip b).take k, pairIn p)).1
    have hpi := hin x (by simp)
    have hsq0 := sq_nonneg x
    have hsq := sq_le x hpi
    have hsn := sumP_snoc ((a.zip b).take k) x
    have hc := hv.cell
    have hf := hv.frozen
    have HV := Lib.hid hv
    have HB2 := Lib.hid hB
    have HPX := Lib.hid hpx
    have hu : sumP ((a.zip b).take k) + sq x < 18446744073709551616 := by rw [← hsn]; omega
    have HS := Lib.hid hsn
    obtain ⟨u, v⟩ := x
    obtain ⟨⟨p1, p2⟩, p3, p4⟩ := hpi
    dsimp only at p1 p2 p3 p4 ⊢
    have HQ := Lib.hid (show sq (u, v) = (u - v) * (u - v) from rfl)
    generalize sq (u, v) = q at *
    generalize sumP ((a.zip b).take k) = s at *
    have HW := Lib.hid (u64_fit (n := s + q) ⟨by omega, hu⟩)
    have HW1 := Lib.hid (u64_fit (n := q) ⟨by omega, by omega⟩)
    have HW2 := Lib.hid (show wrap64 q = q from by unfold wrap64; omega)
    clear hsn hpx hin hle hll hkl hx hnx hv hB hu
    gi_wp2
    rw [← HQ.out, HW2.out, HW1.out, HW.out]
    refine ⟨(KeepsOthers.setCell _ _ _).from _, KpD.set _ _ _, ?_, ?_, ?_⟩
    · rw [HS.out]; exact HV.out.set _
    · exact HB2.out.trans ((Below.refl _ W).setCell (by simp) _)
    · exact ⟨_, HPX.out⟩
  case done =>
    rintro xs W rfl ⟨hv, hB, _⟩ hK
    have hc := hv.cell
    have HV := Lib.hid hv
    have HB2 := Lib.hid hB
    clear hv hB
    gi_wp2
    refine ⟨by simp, .inl ⟨_, _, rfl, run_takeDeferred hK, ?_⟩⟩
    refine ⟨_, results_tmp rfl _ _ _, rfl, ?_⟩
    exact HB2.out.trans (below_put (by omega) HB2.out.size)
  case stop =>
    rintro c pre W _ h _
    exact h.elim

/-! ### the same -/
theorem zip_eq {a b : List Int} (hl : b.length = a.length) (h : ∀ p ∈ a.zip b, p.1 = p.2) : a = b := by
  induction a generalizing b with
  | nil => cases b with
    | nil => rfl
    | cons y b => simp at hl
  | cons x a ih =>
    cases b with
    | nil => simp at hl
    | cons y b =>
      have h1 := h (x, y) (by simp)
      have h2 := ih (b := b) (by simpa using hl) (fun p hp => h p (by simp [hp]))
      dsimp only at h1
      rw [h1, h2]
theorem zip_ne {a b : List Int} {p : Int × Int} (hp : p ∈ a.zip b) (h : p.1 ≠ p.2) : a ≠ b := by
  rintro rfl
  induction a with
  | nil => simp at hp
  | cons x a ih =>
    simp only [List.zip_cons_cons, List.mem_cons] at hp
    rcases hp with rfl | hp
    · exact h rfl
    · exact ih hp
def AllI (w : World) (pre : List (Int × Int)) (W : World) : Prop := Boxed W w.heap.size 4 (.bool false) ∧ Below w.heap.size w W ∧ ∀ p ∈ pre, p.1 = p.2
def NotI (w : World) (cd : Code) (pre : List (Int × Int)) (W : World) : Prop := cd = .ret ∧ Boxed W w.heap.size 4 (.bool false) ∧ Below w.heap.size w W ∧ ∃ p ∈ pre, p.1 ≠ p.2

set_option maxHeartbeats 2000000 in
theorem same_any (A A' : Option Addr) (c c' : Nat) (a b : List Int) (w : World) (ha : Vec .i32 w A c a) (hb : Vec .i32 w A' c' b) :
    Calls Tryz.prog 118 #[.slice A a.length c, .slice A' b.length c'] w fun e w' => e = .returned (.bool (decide (a = b))) ∧ Below w.heap.size w w' := by
  by_cases hl : b.length = a.length
  · have lA := fun g o (e : A = some ⟨g, o, none⟩) (hpos : 0 < a.length) => (show g < w.heap.size by obtain ⟨g', o', e', h', _⟩ := ha.rd hpos; rw [e] at e'; cases e'; exact h')
    have lB := fun g o (e : A' = some ⟨g, o, none⟩) (hpos : 0 < a.length) => (show g < w.heap.size by obtain ⟨g', o', e', h', _⟩ := hb.rd (by omega); rw [e] at e'; cases e'; exact h')
    obtain ⟨R, hR⟩ : ∃ R, R = decide (a = b) := ⟨_, rfl⟩
    rw [hl, ← hR]
    obtain ⟨m, hm⟩ : ∃ m, m = a.length := ⟨_, rfl⟩
    rw [← hm]
    refine (callsIn_wide (n := 3)).1 ?_
    refine callsIn_of_wp_marks Tryz.func118 rfl trivial ?_ rfl
    simp only [Tryz.ntmps118, List.size_toArray, List.length_cons, List.length_nil, Nat.reduceAdd, Nat.reduceSub, Array.replicate_succ, Array.replicate_zero, List.push_toArray, List.append_toArray, List.nil_append, List.cons_append]
    have HA := Lib.hid ha
    have HB := Lib.hid hb
    have HM := Lib.hid hm
    have HLA := Lib.hid lA
    have HLB := Lib.hid lB
    have HL := Lib.hid hl
    have HR := Lib.hid hR
    clear ha hb hm lA lB hl hR
    gi_wp2_with (refine ⟨trivial, ?_⟩; gi_at_call 103; refine (callsIn_wide.2 (together_any _ _ _ _ _ _ _)).mono ?_; rintro e w' ⟨rfl, rfl⟩)
    obtain ⟨W0, hW0⟩ : ∃ W0, W0 = ((w.alloc (.cells #[.bool false] 4)).alloc (.cells #[.slice A m c] 26)).alloc (.cells #[.slice A' m c'] 26) := ⟨_, rfl⟩
    have hbw : Below w.heap.size w W0 := by rw [hW0]; exact (((Below.refl _ w).alloc (Nat.le_refl _) _).alloc (by simp) _).alloc (by simp; omega) _
    have hsz : W0.heap.size = w.heap.size + 3 := by rw [hW0]; simp
    have b0 : Boxed W0 w.heap.size 4 (.bool false) := by rw [hW0]; exact ((Boxed.new w _ _).alloc _).alloc _
    have b1 : W0.cell? ⟨w.heap.size + 1, 0, none⟩ = some (.slice A m c) := by
      rw [hW0]
      have h := (Boxed.new (w.alloc (.cells #[.bool false] 4)) 26 (.slice A m c)).alloc (.cells #[.slice A' m c'] 26)
      rw [World.size_alloc] at h
      exact h.cell
    have b2 : W0.cell? ⟨w.heap.size + 2, 0, none⟩ = some (.slice A' m c') := by
      rw [hW0]
      have h := Boxed.new ((w.alloc (.cells #[.bool false] 4)).alloc (.cells #[.slice A m c] 26)) 26 (.slice A' m c')
      rw [World.size_alloc, World.size_alloc] at h
      exact h.cell
    simp only [Nat.add_assoc, Nat.reduceAdd] at hW0 ⊢
    rw [← hW0]
    clear hW0
    have hseq := together1_in (w := W0) (A := A) (A' := A') (c := c) (c' := c') (a := a) (b := b) 2 w.heap.size (w.heap.size + 1) (w.heap.size + 2) (by omega) HL.out (by rw [← HM.out]; exact b1) (by rw [← HM.out]; exact b2) (HA.out.below hbw) (HB.out.below hbw) (by omega) (by omega) (fun g o e h => by have := HLA.out g o e h; omega) (fun g o e h => by have := HLB.out g o e h; omega)
    refine range_own rfl (by omega) (gf := 119) (lb := #[.pointer (some ⟨w.heap.size + 1, 0, none⟩), .pointer (some ⟨w.heap.size + 2, 0, none⟩)]) rfl trivial (enters_of Tryz.func119 (by kernel_rfl) rfl) hseq
      (fun W k h => h.elim) KpD.trans (fun B W k o o' _ hk ho => KpD.put hk ho) (fun _ => rfl) (fun _ _ _ _ _ _ _ _ _ => trivial)
      (AllI w) (NotI w) ?io ?ixo ?ip ?ixp ?h0
      (fun x => { tmps := #[.slice A m c, .slice A' m c', undef, undef, .pointer (some ⟨w.heap.size, 0, none⟩), .int .i32 x.1, .int .i32 x.2, .slice A m c, .int .i64 m, .slice A' m c', .int .i64 m, .bool false, .slice A m c, .slice A' m c',
        .func (.func 119) #[] #[.pointer (some ⟨w.heap.size + 1, 0, none⟩), .pointer (some ⟨w.heap.size + 2, 0, none⟩)], .int .i32 x.1, .int .i32 x.2, undef, undef, undef], defers := [] }) ?assign ?body ?done ?stop
    case io => exact fun s X Y h ht => ⟨(ht.block _ h.1.lt (fun e => e.2)).trans h.1, h.2.1.trans (Turn.below ht h.2.1.size (fun k e => e.2.elim)), h.2.2⟩
    case ixo => exact fun cd s X Y h ht => ⟨h.1, (ht.block _ h.2.1.lt (fun e => e.2)).trans h.2.1, h.2.2.1.trans (Turn.below ht h.2.2.1.size (fun k e => e.2.elim)), h.2.2.2⟩
    case ip => exact fun s X k o o' h hk ho hc => ⟨put_other ho hc h.1 rfl, h.2.1.trans (below_put (by omega) h.2.1.size), h.2.2⟩
    case ixp => exact fun cd s X k o o' h hk ho hc => ⟨h.1, put_other ho hc h.2.1 rfl, h.2.2.1.trans (below_put (by omega) h.2.2.1.size), h.2.2.2⟩
    case h0 => exact fun W hb _ => ⟨(hb.block _ b0.lt).trans b0, hbw.trans (hb.mono hbw.size), by simp⟩
    case assign =>
      intro l x W K hK
      dsimp only [encP]
      gi_wp2
      exact hK
    case body =>
      rintro l pre x W ⟨hv, hB, hall⟩ _ _ _
      have hc := hv.cell
      have hf := hv.frozen
      have HV := Lib.hid hv
      have HB2 := Lib.hid hB
      have HAL := Lib.hid hall
      clear hv hB hall
      obtain ⟨u, v⟩ := x
      dsimp only
      by_cases huv : u = v
      · subst huv
        have HX := Lib.hid (show ∀ p ∈ pre ++ [(u, u)], p.1 = p.2 from fun p hp => by
          rcases List.mem_append.1 hp with h | h
          · exact HAL.out p h
          · obtain rfl : p = (u, u) := by simpa using h
            rfl)
        gi_wp2
        exact ⟨KeepsFrom.refl _ _, KpD.refl _ _ _, HV.out, HB2.out, HX.out⟩
      · have HX := Lib.hid (show ∃ p ∈ pre ++ [(u, v)], p.1 ≠ p.2 from ⟨(u, v), by simp, huv⟩)
        have t1 : (u != v) = true := by simpa using huv
        gi_wp2
        exact ⟨(KeepsOthers.setCell _ _ _).from _, rfl, HV.out.set _, HB2.out.trans ((Below.refl _ W).setCell (by simp) _), HX.out⟩
    case done =>
      rintro xs W rfl ⟨hv, hB, hall⟩ hK
      have hc := hv.cell
      have hf := hv.frozen
      have HV := Lib.hid hv
      have HB2 := Lib.hid hB
      have HT := Lib.hid (show R = true by rw [HR.out]; exact decide_eq_true (zip_eq HL.out hall))
      clear hv hB hall
      gi_wp2
      refine ⟨by simp, .inl ⟨_, _, rfl, run_takeDeferred (show (W.setCell ⟨w.heap.size, 0, none⟩ (.bool true)).heap[W0.heap.size]? = _ from (Below.heap_setCell _ _ _ _ (by simp; omega)).trans hK), ?_⟩⟩
      have hc2 := (show Boxed _ w.heap.size 4 (.bool true) from put_other (o' := .deferred none) ((Below.heap_setCell W ⟨w.heap.size, 0, none⟩ (.bool true) W0.heap.size (by simp; omega)).trans hK) rfl (HV.out.set (.bool true)) rfl).cell
      exact ⟨.bool true, by simp [results, Tryz.results118, go_sem, hc2], by rw [HT.out], HB2.out.trans (((Below.refl _ W).setCell (by simp) _).trans (below_put (by omega) (by have := HB2.out.size; simp [World.setCell]; omega)))⟩
    case stop =>
      rintro cd pre W ⟨k, rfl⟩ ⟨rfl, hv, hB, p, hp, hne⟩ hK
      have hc := hv.cell
      have hf := hv.frozen
      have HV := Lib.hid hv
      have HB2 := Lib.hid hB
      have HT := Lib.hid (show R = false by rw [HR.out]; exact decide_eq_false (zip_ne (List.mem_of_mem_take hp) hne))
      clear hv hB hp hne
      gi_wp2
      refine ⟨by simp, .inl ⟨_, _, rfl, run_takeDeferred hK, ?_⟩⟩
      have hc2 := (show Boxed _ w.heap.size 4 (.bool false) from put_other (o' := .deferred none) hK rfl HV.out rfl).cell
      exact ⟨.bool false, by simp [results, Tryz.results118, go_sem, hc2], by rw [HT.out], HB2.out.trans (below_put (by omega) HB2.out.size)⟩
  · have HT := Lib.hid (show decide (a = b) = false from decide_eq_false (fun e => hl (by rw [e])))
    have t1 : decide (a.length = b.length) = false := decide_eq_false (fun e => hl e.symm)
    generalize decide (a = b) = R at *
    generalize a.length = n at *
    generalize b.length = m at *
    have t2 : ((n : Int) != (m : Int)) = true := by simp; omega
    have t3 : ((n : Int) == (m : Int)) = false := by simp; omega
    have t4 : (n == m) = false := by simp; omega
    clear hl ha hb
    go_enter Tryz.func118, Tryz.ntmps118
    go_wp2
    exact bodyPost_ret (v := .bool false) (by simp [results, Tryz.results118, go_sem]) rfl ⟨by rw [HT.out], (Below.refl _ _).alloc (Nat.le_refl _) _⟩

end Go.Proofs.YtcekgllahlhaaaaGreatDoor

namespace Go.Proofs.YtcekgllahlhaaaaGreatDoor
open Go.RowKit Go.Shelf
set_option linter.unusedVariables false
set_option maxRecDepth 100000

/-- A row of one, and of two, that has just been laid. -/
theorem vecs_one {w W : World} {g cb : Nat} {B : Option Addr} {x : List Int} (hc : W.cell? ⟨g, 0, none⟩ = some (.slice B x.length cb)) (hx : Vec .i32 W B cb x) : Vecs .i32 W (some ⟨g, 0, none⟩) 1 [x] :=
  ⟨by simp, by omega, fun _ => ⟨g, 0, rfl, World.block_lt_of_cell? W _ hc, fun i y hy => by
    cases i with
    | zero => simp at hy; subst hy; exact ⟨B, cb, hc, hx⟩
    | succ i => simp at hy⟩⟩
theorem vecs_two {W : World} {g cb cb' : Nat} {B B' : Option Addr} {x x' : List Int} (hc : W.cell? ⟨g, 0, none⟩ = some (.slice B x.length cb)) (hc' : W.cell? ⟨g, 1, none⟩ = some (.slice B' x'.length cb')) (hx : Vec .i32 W B cb x) (hx' : Vec .i32 W B' cb' x') : Vecs .i32 W (some ⟨g, 0, none⟩) 2 [x, x'] :=
  ⟨by simp, by omega, fun _ => ⟨g, 0, rfl, World.block_lt_of_cell? W _ hc, fun i y hy => by
    match i, hy with
    | 0, hy => simp at hy; subst hy; exact ⟨B, cb, hc, hx⟩
    | 1, hy => simp at hy; subst hy; exact ⟨B', cb', by simpa using hc', hx'⟩
    | i + 2, hy => simp at hy⟩⟩

theorem cell_laid (w : World) (cs : Array Value) (t : TypeId) (i : Nat) : (w.alloc (.cells cs t)).cell? ⟨w.heap.size, i, none⟩ = cs[i]? := cell_of_row _ _ _ cs t (0, 0) (heap_alloc_new w _)

def checkM (xs : List Int) : Int := refuseM xs.length [xs]
theorem check_any (A : Option Addr) (c : Nat) (xs : List Int) (w : World) (h : Vec .i32 w A c xs) :
    Calls Tryz.prog 32 #[.slice A xs.length c] w fun e w' => e = .returned (.int .i64 (checkM xs)) ∧ Below w.heap.size w w' := by
  obtain ⟨W, hW⟩ : ∃ W, W = w.alloc (.cells #[.slice A xs.length c] 26) := ⟨_, rfl⟩
  have hb : Below w.heap.size w W := by rw [hW]; exact (Below.refl _ w).alloc (Nat.le_refl _) _
  have HR := Lib.hid (refuse_any (some ⟨w.heap.size, 0, none⟩) 1 xs.length [xs] W (vecs_one (w := w) (by rw [hW]; exact cell_laid _ _ _ 0) (h.below hb)))
  have HB := Lib.hid hb
  unfold checkM
  generalize refuseM xs.length [xs] = R at *
  rw [hW] at HR HB
  generalize xs.length = n at *
  clear hb h hW
  go_enter Tryz.func32, Tryz.ntmps32
  go_wp2_with fail
  refine HR.out.mono ?_
  rintro e w1 ⟨rfl, hb1⟩
  have HB1 := Lib.hid (HB.out.trans (hb1.mono HB.out.size))
  clear hb1
  go_wp2
  go_ret
  exact ⟨rfl, HB1.out⟩

theorem of_any (A : Option Addr) (c : Nat) (xs : List Int) (dim : Int) (w : World) (h : Vec .i32 w A c xs) :
    Calls Tryz.prog 39 #[.slice A xs.length c, .int .i64 dim] w fun e w' => e = .returned (.int .i64 (refuseM dim [xs])) ∧ Below w.heap.size w w' := by
  obtain ⟨W, hW⟩ : ∃ W, W = w.alloc (.cells #[.slice A xs.length c] 26) := ⟨_, rfl⟩
  have hb : Below w.heap.size w W := by rw [hW]; exact (Below.refl _ w).alloc (Nat.le_refl _) _
  have HR := Lib.hid (refuse_any (some ⟨w.heap.size, 0, none⟩) 1 dim [xs] W (vecs_one (w := w) (by rw [hW]; exact cell_laid _ _ _ 0) (h.below hb)))
  have HB := Lib.hid hb
  generalize refuseM dim [xs] = R at *
  rw [hW] at HR HB
  generalize xs.length = n at *
  clear hb h hW
  go_enter Tryz.func39, Tryz.ntmps39
  go_wp2_with fail
  refine HR.out.mono ?_
  rintro e w1 ⟨rfl, hb1⟩
  have HB1 := Lib.hid (HB.out.trans (hb1.mono HB.out.size))
  clear hb1
  go_wp2
  go_ret
  exact ⟨rfl, HB1.out⟩

theorem refuse_ok {dim : Int} {l : List (List Int)} (h : refuseM dim l = 0) : ∀ x ∈ l, right x = true ∧ (x.length : Int) = dim := by
  unfold refuseM at h
  split at h
  · rename_i h1
    split at h
    · rename_i h2
      rw [List.all_eq_true] at h1 h2
      exact fun x hx => ⟨h1 x hx, by simpa using h2 x hx⟩
    · omega
  · omega
theorem refuse_set (dim : Int) (l : List (List Int)) : refuseM dim l = 0 ∨ refuseM dim l = 150 ∨ refuseM dim l = 151 := by
  unfold refuseM
  split
  · split <;> simp
  · simp

/-- What Dist answers: the error, and the distance beside OK. -/
def distE (a b : List Int) : Int := refuseM a.length [a, b]
def distD (a b : List Int) : Int := if distE a b = 0 then distM a b else 0

theorem dist_any (A A' : Option Addr) (c c' : Nat) (a b : List Int) (w : World) (ha : Vec .i32 w A c a) (hb : Vec .i32 w A' c' b) :
    Calls Tryz.prog 80 #[.slice A a.length c, .slice A' b.length c'] w fun e w' => e = .returned (.tuple #[.int .u64 (distD a b), .int .i64 (distE a b)]) ∧ Below w.heap.size w w' := by
  obtain ⟨W, hW⟩ : ∃ W, W = w.alloc (.cells #[.slice A a.length c, .slice A' b.length c'] 26) := ⟨_, rfl⟩
  have hbw : Below w.heap.size w W := by rw [hW]; exact (Below.refl _ w).alloc (Nat.le_refl _) _
  have HR := Lib.hid (refuse_any (some ⟨w.heap.size, 0, none⟩) 2 a.length [a, b] W (vecs_two (by rw [hW]; exact cell_laid _ _ _ 0) (by rw [hW]; exact cell_laid _ _ _ 1) (ha.below hbw) (hb.below hbw)))
  have HB := Lib.hid hbw
  have hE : distE a b = refuseM a.length [a, b] := rfl
  rw [← hE] at HR
  have HS := Lib.hid (refuse_set a.length [a, b])
  rw [← hE] at HS
  have HD := Lib.hid (show distE a b = 0 → distD a b = distM a b from fun h => by unfold distD; rw [if_pos h])
  have HD0 := Lib.hid (show distE a b ≠ 0 → distD a b = 0 from fun h => by unfold distD; rw [if_neg h])
  have HX := Lib.hid (fun (h : distE a b = 0) (V : World) (hV : Below w.heap.size w V) => by
    have h1 := refuse_ok h a (by simp)
    have h2 := refuse_ok h b (by simp)
    exact distance_any A A' c c' a b V (ha.below hV) (hb.below hV) h1.1 h2.1 (by omega))
  rw [hW] at HR HB
  generalize distD a b = D at *
  generalize distM a b = DM at *
  generalize distE a b = E at *
  clear ha hb hbw hE hW
  generalize a.length = n at *
  generalize b.length = m at *
  by_cases h0 : E = 0
  · have HX0 := Lib.hid (HX.out h0)
    have HD1 := Lib.hid (HD.out h0)
    clear HX HD HD0 HS
    subst h0
    go_enter Tryz.func80, Tryz.ntmps80
    go_wp2_with fail
    refine HR.out.mono ?_
    rintro e w1 ⟨rfl, hb1⟩
    have HB1 := Lib.hid (HB.out.trans (hb1.mono HB.out.size))
    clear hb1
    go_wp2_with fail
    refine (HX0.out w1 HB1.out).mono ?_
    rintro e w2 ⟨rfl, hb2⟩
    have HB2 := Lib.hid (HB1.out.trans (hb2.mono HB1.out.size))
    clear hb2
    go_wp2
    go_ret2
    rw [HD1.out]
    exact ⟨rfl, HB2.out⟩
  · have HD1 := Lib.hid (HD0.out h0)
    have t1 : (E == 0) = false := by simpa using h0
    have t2 : (E != 0) = true := by simpa using h0
    clear HX HD HD0 HS
    go_enter Tryz.func80, Tryz.ntmps80
    go_wp2_with fail
    refine HR.out.mono ?_
    rintro e w1 ⟨rfl, hb1⟩
    have HB1 := Lib.hid (HB.out.trans (hb1.mono HB.out.size))
    clear hb1
    go_wp2
    go_ret2
    rw [HD1.out]
    exact ⟨rfl, HB1.out⟩

/-! ### the order of hits -/
def cmpM (x y : Int) : Int := if x < y then -1 else if y < x then 1 else 0
theorem nan_any (x : Int) (w : World) : Calls Tryz.prog 111 #[.int .u64 x] w fun e w' => e = .returned (.bool false) ∧ w = w' := by
  go_enter Tryz.func111, Tryz.ntmps111
  go_wp2
  go_ret
  exact ⟨by simp, rfl⟩
theorem cmp_any (x y : Int) (w : World) : Calls Tryz.prog 84 #[.int .u64 x, .int .u64 y] w fun e w' => e = .returned (.int .i64 (cmpM x y)) ∧ w = w' := by
  by_cases h1 : x < y
  · have HF := Lib.hid (show cmpM x y = -1 by unfold cmpM; rw [if_pos h1])
    go_enter Tryz.func84, Tryz.ntmps84
    go_wp2_with (go_at_call 111; refine (nan_any _ _).mono ?_; rintro e w' ⟨rfl, rfl⟩)
    go_ret
    rw [HF.out]
    exact ⟨rfl, rfl⟩
  · by_cases h2 : y < x
    · have HF := Lib.hid (show cmpM x y = 1 by unfold cmpM; rw [if_neg h1, if_pos h2])
      go_enter Tryz.func84, Tryz.ntmps84
      go_wp2_with (go_at_call 111; refine (nan_any _ _).mono ?_; rintro e w' ⟨rfl, rfl⟩)
      go_ret
      rw [HF.out]
      exact ⟨rfl, rfl⟩
    · have HF := Lib.hid (show cmpM x y = 0 by unfold cmpM; rw [if_neg h1, if_neg h2])
      go_enter Tryz.func84, Tryz.ntmps84
      go_wp2_with (go_at_call 111; refine (nan_any _ _).mono ?_; rintro e w' ⟨rfl, rfl⟩)
      go_ret
      rw [HF.out]
      exact ⟨rfl, rfl⟩
def orM (x y : Int) : Int := if x ≠ 0 then x else y
theorem or_any (g : Nat) (x y : Int) (w : World) (hx : w.cell? ⟨g, 0, none⟩ = some (.int .i64 x)) (hy : w.cell? ⟨g, 1, none⟩ = some (.int .i64 y)) :
    Calls Tryz.prog 83 #[.slice (some ⟨g, 0, none⟩) 2 2] w fun e w' => e = .returned (.int .i64 (orM x y)) ∧ w = w' := by
  by_cases h : x = 0
  · subst h
    have HF := Lib.hid (show orM 0 y = y from by simp [orM])
    generalize orM 0 y = R at *
    by_cases h2 : y = 0
    · subst h2
      go_enter Tryz.func83, Tryz.ntmps83
      go_wp2
      go_loop [5, 8] (fun _ i => i = .int .i64 0 ∨ i = .int .i64 1 ∨ i = .int .i64 2) (fun _ i => 2 - (intOf i).toNat)
      case atStart => exact .inl rfl
      case round =>
        rcases hrel with rfl | rfl | rfl
        · go_wp2
          go_round
          case rel => exact .inr (.inl rfl)
          case measure => simp [intOf]
        · go_wp2
          go_round
          case rel => exact .inr (.inr rfl)
          case measure => simp [intOf]
        · go_wp2
          go_ret
          rw [HF.out]
          exact ⟨rfl, rfl⟩
    · have t1 : (y == 0) = false := by simpa using h2
      have t2 : (y != 0) = true := by simpa using h2
      go_enter Tryz.func83, Tryz.ntmps83
      go_wp2
      go_loop [5, 8] (fun _ i => i = .int .i64 0 ∨ i = .int .i64 1) (fun _ i => 2 - (intOf i).toNat)
      case atStart => exact .inl rfl
      case round =>
        rcases hrel with rfl | rfl
        · go_wp2
          go_round
          case rel => exact .inr rfl
          case measure => simp [intOf]
        · go_wp2
          go_ret
          rw [HF.out]
          exact ⟨rfl, rfl⟩
  · have t1 : (x == 0) = false := by simpa using h
    have t2 : (x != 0) = true := by simpa using h
    have HF := Lib.hid (show orM x y = x from by simp [orM, h])
    generalize orM x y = R at *
    go_enter Tryz.func83, Tryz.ntmps83
    go_wp2
    go_loop [5, 8] (fun _ i => i = .int .i64 0) (fun _ i => 2 - (intOf i).toNat)
    case atStart => rfl
    case round =>
      subst hrel
      go_wp2
      go_ret
      rw [HF.out]
      exact ⟨rfl, rfl⟩

end Go.Proofs.YtcekgllahlhaaaaGreatDoor

namespace Go.Proofs.YtcekgllahlhaaaaGreatDoor
open Go.RowKit Go.Shelf
set_option linter.unusedVariables false
set_option maxRecDepth 100000

def hitV (id dist : Int) : Value := .agg #[.int .u64 id, .int .u64 dist]
def compareM (i d i' d' : Int) : Int := orM (cmpM d d') (cmpM i i')
theorem cmp_st (x y : Int) (w : World) : Calls Tryz.prog 84 #[.int .u64 x, .int .u64 y] w fun e w' => e = .returned (.int .i64 (cmpM x y)) ∧ w' = w := (cmp_any x y w).mono fun _ _ ⟨a, b⟩ => ⟨a, b.symm⟩

set_option maxHeartbeats 1000000 in
theorem compare_any (i d i' d' : Int) (w : World) : Calls Tryz.prog 140 #[.agg #[.int .u64 i, .int .u64 d], .agg #[.int .u64 i', .int .u64 d']] w fun e w' => e = .returned (.int .i64 (compareM i d i' d')) ∧ Below w.heap.size w w' := by
  have HM := Lib.hid (show compareM i d i' d' = orM (cmpM d d') (cmpM i i') from rfl)
  generalize compareM i d i' d' = R at *
  go_enter Tryz.func140, Tryz.ntmps140
  go_wp2
  obtain ⟨W, hW⟩ : ∃ W, W = (w.alloc (.cells #[.int .u64 i, .int .u64 d] 57)).alloc (.cells #[.int .u64 i', .int .u64 d'] 57) := ⟨_, rfl⟩
  have hb : Below w.heap.size w W := by rw [hW]; exact ((Below.refl _ w).alloc (Nat.le_refl _) _).alloc (by simp) _
  have hz : W.heap.size = w.heap.size + 2 := by rw [hW]; simp
  have x1 : W.heap[w.heap.size]? = some (.cells #[.int .u64 i, .int .u64 d] 57 (0, 0)) := by rw [hW]; exact heap_alloc2_old _ _ _
  have x2 : W.heap[w.heap.size + 1]? = some (.cells #[.int .u64 i', .int .u64 d'] 57 (0, 0)) := by rw [hW]; exact heap_alloc2_new _ _ _
  rw [← hW]
  have c1 : W.cell? ⟨w.heap.size, 0, none⟩ = some (.int .u64 i) := by simp [World.cell?, x1]
  have c2 : W.cell? ⟨w.heap.size, 1, none⟩ = some (.int .u64 d) := by simp [World.cell?, x1]
  have c3 : W.cell? ⟨w.heap.size + 1, 0, none⟩ = some (.int .u64 i') := by simp [World.cell?, x2]
  have c4 : W.cell? ⟨w.heap.size + 1, 1, none⟩ = some (.int .u64 d') := by simp [World.cell?, x2]
  have HB := Lib.hid hb
  have HZ := Lib.hid hz
  clear hW hb x1 x2 hz
  refine wp_region_still_tail 10 (by kernel_rfl) (by kernel_rfl) ?_
  simp only [List.take_succ_cons, List.take_zero, List.drop_succ_cons, List.drop_zero]
  change wpStill _ _ W.drew _ _ _
  still_step
  still_step
  still_step
  still_step
  still_call (cmp_st d d' _)
  still_step
  still_step
  still_step
  still_step
  still_call (cmp_st i i' _)
  refine wpStill_nil ?_
  obtain ⟨a, ha⟩ : ∃ a, a = cmpM d d' := ⟨_, rfl⟩
  obtain ⟨b, hb⟩ : ∃ b, b = cmpM i i' := ⟨_, rfl⟩
  have HA := Lib.hid ha
  have HB2 := Lib.hid hb
  rw [← ha, ← hb]
  clear ha hb
  have HBL := Lib.hid (show Below w.heap.size w (W.alloc (.cells #[.int .i64 a, .int .i64 b] 3)).drew from below_drew (HB.out.alloc HB.out.size _))
  have HO := Lib.hid (or_any W.drew.heap.size a b (W.drew.alloc (.cells #[.int .i64 a, .int .i64 b] 3)) (cell_laid _ _ _ 0) (cell_laid _ _ _ 1))
  go_wp2_with fail
  refine HO.out.mono ?_
  rintro e w' ⟨rfl, rfl⟩
  go_wp2
  go_ret
  rw [HM.out, ← HA.out, ← HB2.out]
  exact ⟨rfl, HBL.out⟩

/-! ### the nearest -/
/-- The place of the first least one of so many. -/
def nearF (D : Nat → Int) : Nat → Nat
  | 0 => 0
  | n + 1 => if D n < D (nearF D n) then n else nearF D n
theorem nearF_lt (D : Nat → Int) (n : Nat) (h : 0 < n) : nearF D n < n := by
  induction n with
  | zero => omega
  | succ n ih =>
    unfold nearF
    split
    · omega
    · rcases Nat.eq_zero_or_pos n with rfl | h0
      · simp [nearF]
      · have := ih h0; omega
theorem nearF_least (D : Nat → Int) (n : Nat) : (∀ j, j < n → D (nearF D n) ≤ D j) ∧ D (nearF D n) ≤ D 0 ∧ ∀ j, j < nearF D n → D (nearF D n) < D j := by
  induction n with
  | zero => exact ⟨fun j hj => absurd hj (by omega), by simp [nearF], fun j hj => absurd hj (by simp [nearF])⟩
  | succ n ih =>
    obtain ⟨h1, h2, h3⟩ := ih
    unfold nearF
    split
    · rename_i hlt
      refine ⟨fun j hj => ?_, by omega, fun j hj => ?_⟩
      · rcases Nat.lt_or_eq_of_le (Nat.le_of_lt_succ hj) with h | rfl
        · have := h1 j h; omega
        · omega
      · have := h1 j hj; omega
    · rename_i hge
      refine ⟨fun j hj => ?_, h2, h3⟩
      rcases Nat.lt_or_eq_of_le (Nat.le_of_lt_succ hj) with h | rfl
      · exact h1 j h
      · omega
/-- How far each is. -/
def farM (l : List (List Int)) (v : List Int) (i : Nat) : Int := distM (l.getD i []) v
def nearM (l : List (List Int)) (v : List Int) : Nat := nearF (farM l v) l.length
def nearE (l : List (List Int)) (v : List Int) : Int := if l.length = 0 then 4 else if checkM v ≠ 0 then checkM v else refuseM v.length l
def nearN (l : List (List Int)) (v : List Int) : Nat := if nearE l v = 0 then nearM l v else 0

theorem getD_at {l : List (List Int)} {i : Nat} {x : List Int} (h : l[i]? = some x) : l.getD i [] = x := by simp [List.getD, h]

set_option maxHeartbeats 1000000 in
theorem nearest_ok (A A' : Option Addr) (c c' : Nat) (l : List (List Int)) (v : List Int) (w : World) (hl : Vecs .i32 w A c l) (hv : Vec .i32 w A' c' v) (h1 : l.length ≠ 0) (h2 : checkM v = 0) (h3 : refuseM v.length l = 0) :
    Calls Tryz.prog 41 #[.slice A l.length c, .slice A' v.length c'] w fun e w' => e = .returned (.tuple #[.int .i64 (nearM l v), .int .i64 0]) ∧ Below w.heap.size w w' := by
  have hall := refuse_ok h3
  have hrv := (refuse_ok h2 v (by simp)).1
  have HC := Lib.hid (check_any A' c' v w hv)
  rw [h2] at HC
  have HR := Lib.hid (fun (V : World) (hV : Below w.heap.size w V) => refuse_any A c v.length l V (hl.below hV))
  rw [h3] at HR
  have HD := Lib.hid (fun (V : World) (hV : Below w.heap.size w V) (i : Nat) (B : Option Addr) (cb : Nat) (x : List Int) (hx : l[i]? = some x) (hb : Vec .i32 w B cb x) =>
    distance_any B A' cb c' x v V (hb.below hV) (hv.below hV) (hall x (List.mem_of_getElem? hx)).1 hrv (by have := (hall x (List.mem_of_getElem? hx)).2; omega))
  have HN := Lib.hid (show nearM l v = nearF (farM l v) l.length from rfl)
  have HF := Lib.hid (fun (i : Nat) (x : List Int) (hx : l[i]? = some x) => (show farM l v i = distM x v by unfold farM; rw [getD_at hx]))
  generalize nearM l v = R at *
  obtain ⟨b, o, x0, B0, cb0, rfl, hx0, hblt, hc0, hb0⟩ := hl.at_ (i := 0) (by omega)
  have HV := Lib.hid hl
  obtain ⟨n, hn⟩ : ∃ n, n = l.length := ⟨_, rfl⟩
  have hroom := hl.room
  have hmost := hl.most
  have HLN := Lib.hid hn
  rw [← hn] at h1 hroom HR HN ⊢
  have t1 : ((n : Int) == 0) = false := by simp; omega
  have t2 : (n == 0) = false := by simp; omega
  have t3 : 0 < n := by omega
  have t4 : (0 : Int) < n := by omega
  generalize v.length = m at *
  have HX0 := Lib.hid hx0
  have HVB0 := Lib.hid hb0
  have HC0 := Lib.hid hc0
  obtain ⟨n0, hn0⟩ : ∃ n0, n0 = x0.length := ⟨_, rfl⟩
  have HN0 := Lib.hid hn0
  rw [← hn0] at hc0
  clear h1 h2 h3 hv hl hn hx0 hb0 hall hrv hn0
  go_enter Tryz.func41, Tryz.ntmps41
  go_wp2_with fail
  refine HC.out.mono ?_
  rintro e w1 ⟨rfl, hb1⟩
  have HB1 := Lib.hid hb1
  clear hb1
  go_wp2_with fail
  refine (HR.out w1 HB1.out).mono ?_
  rintro e w2 ⟨rfl, hb2⟩
  have hb2' := HB1.out.trans (hb2.mono HB1.out.size)
  have HB2 := Lib.hid hb2'
  have c2 : w2.cell? ⟨b, o, none⟩ = some (.slice B0 n0 cb0) := (hb2'.cell (p := ⟨b, o, none⟩) hblt).trans hc0
  have HD0 := Lib.hid (HD.out w2 hb2' 0 B0 cb0 x0 HX0.out HVB0.out)
  rw [← HN0.out, ← HF.out 0 x0 HX0.out] at HD0
  clear hb2 hb2' hc0
  go_wp2_with fail
  refine HD0.out.mono ?_
  rintro e w3 ⟨rfl, hb3⟩
  have HB3 := Lib.hid (HB2.out.trans (hb3.mono HB2.out.size))
  clear hb3 c2
  go_wp2
  go_loopw [8, 9, 10, 11, 12, 35] (fun p q _ _ _ i wr => ∃ k : Nat, k ≤ n ∧ i = .int .i64 k ∧ p = .int .i64 (nearF (farM l v) k) ∧ q = .int .u64 (farM l v (nearF (farM l v) k)) ∧ Hid (Below w.heap.size w wr)) (fun _ _ _ _ _ i _ => n - (intOf i).toNat)
  case atStart => exact ⟨0, Nat.zero_le _, rfl, rfl, rfl, HB3⟩
  case round =>
    obtain ⟨k, hk, rfl, rfl, rfl, HB⟩ := hrel
    by_cases hkn : k < n
    · obtain ⟨b', o', x, B, cb, he, hx, _, hc, hvb⟩ := HV.out.at_ (i := k) (by rw [← HLN.out]; exact hkn)
      injection he with he
      injection he with he1 he2
      subst he1
      subst he2
      have HDK := Lib.hid (HD.out wr HB.out k B cb x hx hvb)
      rw [← HF.out k x hx] at HDK
      have hcw : wr.cell? ⟨b, o + k, none⟩ = some (.slice B x.length cb) := (HB.out.cell (p := ⟨b, o + k, none⟩) hblt).trans hc
      obtain ⟨xl, hxl⟩ : ∃ xl, xl = x.length := ⟨_, rfl⟩
      rw [← hxl] at hcw HDK
      have HS := Lib.hid (show nearF (farM l v) (k + 1) = if farM l v k < farM l v (nearF (farM l v) k) then k else nearF (farM l v) k from rfl)
      clear hx hvb hc hxl
      generalize nearF (farM l v) k = p at *
      generalize hdk : farM l v k = dk at *
      generalize hdp : farM l v p = dp at *
      have HDKE := Lib.hid hdk
      have HDPE := Lib.hid hdp
      clear hdk hdp
      by_cases hlt : dk < dp
      · have HP := Lib.hid (show nearF (farM l v) (k + 1) = k by rw [HS.out, if_pos hlt])
        go_wp2_with fail
        refine HDK.out.mono ?_
        rintro e w4 ⟨rfl, hb4⟩
        have HB4 := Lib.hid (HB.out.trans (hb4.mono HB.out.size))
        clear hb4
        go_wp2
        go_roundw
        case rel => exact ⟨k + 1, by omega, by go_num, by rw [HP.out], by rw [HP.out, HDKE.out], HB4⟩
        case measure => simp [intOf]; omega
      · have HP := Lib.hid (show nearF (farM l v) (k + 1) = p by rw [HS.out, if_neg hlt])
        go_wp2_with fail
        refine HDK.out.mono ?_
        rintro e w4 ⟨rfl, hb4⟩
        have HB4 := Lib.hid (HB.out.trans (hb4.mono HB.out.size))
        clear hb4
        go_wp2
        go_roundw
        case rel => exact ⟨k + 1, by omega, by go_num, by rw [HP.out], by rw [HP.out, HDPE.out], HB4⟩
        case measure => simp [intOf]; omega
    · obtain rfl : k = n := by omega
      rw [← HN.out]
      go_wp2
      go_ret2
      exact ⟨rfl, HB.out⟩

theorem nearest_any (A A' : Option Addr) (c c' : Nat) (l : List (List Int)) (v : List Int) (w : World) (hl : Vecs .i32 w A c l) (hv : Vec .i32 w A' c' v) :
    Calls Tryz.prog 41 #[.slice A l.length c, .slice A' v.length c'] w fun e w' => e = .returned (.tuple #[.int .i64 (nearN l v), .int .i64 (nearE l v)]) ∧ Below w.heap.size w w' := by
  by_cases h1 : l.length = 0
  · have hE : nearE l v = 4 := by unfold nearE; rw [if_pos h1]
    have hN : nearN l v = 0 := by unfold nearN; rw [hE]; rfl
    rw [hE, hN, h1]
    clear hl hv
    go_enter Tryz.func41, Tryz.ntmps41
    go_wp2
    go_ret2
    exact ⟨rfl, Below.refl _ _⟩
  · by_cases h2 : checkM v = 0
    · by_cases h3 : refuseM v.length l = 0
      · have hE : nearE l v = 0 := by unfold nearE; rw [if_neg h1, if_neg (by simp [h2]), h3]
        have hN : nearN l v = nearM l v := by unfold nearN; rw [if_pos hE]
        rw [hE, hN]
        exact nearest_ok A A' c c' l v w hl hv h1 h2 h3
      · have hE : nearE l v = refuseM v.length l := by unfold nearE; rw [if_neg h1, if_neg (by simp [h2])]
        have hN : nearN l v = 0 := by unfold nearN; rw [if_neg (by rw [hE]; exact h3)]
        rw [hE, hN]
        have HC := Lib.hid (check_any A' c' v w hv)
        rw [h2] at HC
        have HR := Lib.hid (fun (V : World) (hV : Below w.heap.size w V) => refuse_any A c v.length l V (hl.below hV))
        generalize refuseM v.length l = E at *
        have t1 : ((l.length : Int) == 0) = false := by simp; intro e; rw [e] at h1; simp at h1
        have t2 : (l.length == 0) = false := by simp; intro e; rw [e] at h1; simp at h1
        have t3 : (E == 0) = false := by simpa using h3
        have t4 : (E != 0) = true := by simpa using h3
        generalize l.length = n at *
        generalize v.length = m at *
        clear hl hv hE hN h2
        go_enter Tryz.func41, Tryz.ntmps41
        go_wp2_with fail
        refine HC.out.mono ?_
        rintro e w1 ⟨rfl, hb1⟩
        have HB1 := Lib.hid hb1
        clear hb1
        go_wp2_with fail
        refine (HR.out w1 HB1.out).mono ?_
        rintro e w2 ⟨rfl, hb2⟩
        have HB2 := Lib.hid (HB1.out.trans (hb2.mono HB1.out.size))
        clear hb2
        go_wp2
        go_ret2
        exact ⟨rfl, HB2.out⟩
    · have hE : nearE l v = checkM v := by unfold nearE; rw [if_neg h1, if_pos (by simpa using h2)]
      have hN : nearN l v = 0 := by unfold nearN; rw [if_neg (by rw [hE]; exact h2)]
      rw [hE, hN]
      have HC := Lib.hid (check_any A' c' v w hv)
      generalize checkM v = E at *
      have t1 : ((l.length : Int) == 0) = false := by simp; intro e; rw [e] at h1; simp at h1
      have t2 : (l.length == 0) = false := by simp; intro e; rw [e] at h1; simp at h1
      have t3 : (E == 0) = false := by simpa using h2
      have t4 : (E != 0) = true := by simpa using h2
      generalize l.length = n at *
      generalize v.length = m at *
      clear hl hv hE hN
      go_enter Tryz.func41, Tryz.ntmps41
      go_wp2_with fail
      refine HC.out.mono ?_
      rintro e w1 ⟨rfl, hb1⟩
      have HB1 := Lib.hid hb1
      clear hb1
      go_wp2
      go_ret2
      exact ⟨rfl, HB1.out⟩

end Go.Proofs.YtcekgllahlhaaaaGreatDoor

namespace Go.Proofs.YtcekgllahlhaaaaGreatDoor
open Go.RowKit Go.Shelf
set_option linter.unusedVariables false
set_option maxRecDepth 100000

theorem take_eq_snoc {a b : List Int} {k : Nat} {x y : Int} (h : a.take k = b.take k) (hx : a[k]? = some x) (hy : b[k]? = some y) (e : x = y) : a.take (k + 1) = b.take (k + 1) := by
  rw [List.take_add_one, List.take_add_one, h, hx, hy, e]
theorem getD_some {a : List Int} {k : Nat} (h : k < a.length) : a[k]? = some (a.getD k 0) := by
  rw [List.getElem?_eq_getElem h]; simp [List.getD, List.getElem?_eq_getElem h]

theorem right_of {xs : List Int} {n : Nat} (hn : n = xs.length) (h : xs.all comp = true) : right xs = (decide (1 ≤ n) && decide (n ≤ 4)) := by
  unfold right; rw [h, ← hn, Bool.and_true]

theorem sq_abs (x y : Int) : sq (x, y) = (y - x) * (y - x) := by unfold sq; dsimp only; rw [← Int.neg_mul_neg]; congr 1 <;> omega

def allM (l : List (List Int)) : Int := refuseM (l.getD 0 []).length l

end Go.Proofs.YtcekgllahlhaaaaGreatDoor
