/-
  The document's disk, as a value, is a disk of the model: what that means, and what keeps it.
-/
import Derived.Test.YthpbgejjfdgpaaaRefAsk
namespace Go.Proofs.Ythpbgejjfdgpaaa
open Go.RowKit
set_option linter.unusedVariables false
set_option maxRecDepth 100000

/-- Bytes that can be read, in no block of N. -/
structure SlN (W : World) (N : Nat → Prop) (A : Option Addr) (n c : Nat) (xs : List Int) : Prop where
  len : xs.length = n
  le : n ≤ c
  mx : c ≤ 9223372036854775807
  rd : Rd W W.heap.size A xs
  far : 0 < n → ∀ g, blk A = some g → ¬ N g
structure FileIs (W : World) (N : Nat → Prop) (F : RF) (there : Bool) (G : AF) : Prop where
  there : F.there = there
  kept : F.kept = G.kept
  syn : SlN W N F.A F.n F.c (G.bs.take G.syn)
  loose : SlN W N F.B F.m F.d (G.bs.drop G.syn)
structure RefIs (W : World) (N : Nat → Prop) (D : RD) (M : AD) : Prop where
  room : D.room = M.room
  ops : D.ops = M.ops
  dead : D.dead = M.dead
  armed : M.dead = false → D.armed = M.armed
  failing : M.dead = false → D.failing = M.failing
  small : D.Small
  file : ∀ k : Nat, k < 4 → FileIs W N (D.file k) (M.files (k : Int)).isSome (M.file (k : Int))

section
variable {W W' : World} {N N' : Nat → Prop} {D : RD} {M : AD}
theorem SlN.turn {S : Nat → Prop} {A : Option Addr} {n c : Nat} {xs : List Int} (h : SlN W N A n c xs) (ht : Turn S W W') (hs : ∀ g, g < W.heap.size → S g → N g) (hn : ∀ g, g < W.heap.size → N' g → N g) : SlN W' N' A n c xs := by
  refine ⟨h.len, h.le, h.mx, ?_, fun hp g hg hN => ?_⟩
  · intro hp
    obtain ⟨b, o, rfl, hb, hc⟩ := h.rd hp
    have hnN : ¬ N b := h.far (by rw [← h.len]; exact hp) b rfl
    refine ⟨b, o, rfl, Nat.lt_of_lt_of_le hb ht.size, fun j hj => ?_⟩
    have hbl := ht.block b hb (fun e => hnN (hs b hb e))
    have := hc j hj
    simp only [World.cell?] at this ⊢
    rw [hbl]
    exact this
  · obtain ⟨b, o, rfl, hb, hc⟩ := h.rd (by rw [h.len]; exact hp)
    cases hg
    exact h.far hp b rfl (hn b hb hN)
theorem FileIs.turn {S : Nat → Prop} {F : RF} {t : Bool} {G : AF} (h : FileIs W N F t G) (ht : Turn S W W') (hs : ∀ g, g < W.heap.size → S g → N g) (hn : ∀ g, g < W.heap.size → N' g → N g) : FileIs W' N' F t G :=
  ⟨h.there, h.kept, h.syn.turn ht hs hn, h.loose.turn ht hs hn⟩
theorem RefIs.turn {S : Nat → Prop} (h : RefIs W N D M) (ht : Turn S W W') (hs : ∀ g, g < W.heap.size → S g → N g) (hn : ∀ g, g < W.heap.size → N' g → N g) : RefIs W' N' D M :=
  ⟨h.room, h.ops, h.dead, h.armed, h.failing, h.small, fun k hk => (h.file k hk).turn ht hs hn⟩
theorem RefIs.below (h : RefIs W N D M) (hb : Below W.heap.size W W') : RefIs W' N D M :=
  h.turn (S := fun _ => False) ⟨hb.os, hb.tape, hb.output, hb.size, fun i hi _ => hb.block i hi⟩ (fun _ _ e => e.elim) (fun _ _ e => e)
theorem FileIs.below {F : RF} {t : Bool} {G : AF} (h : FileIs W N F t G) (hb : Below W.heap.size W W') : FileIs W' N F t G :=
  h.turn (S := fun _ => False) ⟨hb.os, hb.tape, hb.output, hb.size, fun i hi _ => hb.block i hi⟩ (fun _ _ e => e.elim) (fun _ _ e => e)
theorem SlN.below {A : Option Addr} {n c : Nat} {xs : List Int} (h : SlN W N A n c xs) (hb : Below W.heap.size W W') : SlN W' N A n c xs :=
  h.turn (S := fun _ => False) ⟨hb.os, hb.tape, hb.output, hb.size, fun i hi _ => hb.block i hi⟩ (fun _ _ e => e.elim) (fun _ _ e => e)
theorem SlN.none (W : World) (N : Nat → Prop) : SlN W N Option.none 0 0 [] := ⟨rfl, Nat.le_refl _, by omega, Rd.empty, fun h => by omega⟩
/-- Bytes of the call's own, made anew. -/
theorem SlN.own {base : Nat} {A : Option Addr} {n c : Nat} {xs : List Int} (h : W.ownsRow base 5 1 (.slice A n c) n (xs.map (Value.int .u8))) (hN : ∀ g, N g → g < base) : SlN W N A n c xs := by
  have hl : xs.length = n := by have := h.1; simp at this; omega
  refine ⟨hl, own_le h, own_max h, Rd.own h, fun _ g hg hx => ?_⟩
  have h1 := (h.lt g (by cases hh : A <;> simp_all [Value.ownBlock, blk])).1
  have h2 := hN g hx
  omega
theorem FileIs.none (W : World) (N : Nat → Prop) : FileIs W N RF.none false AF.none := ⟨rfl, rfl, SlN.none W N, SlN.none W N⟩

theorem file_put_ref (D : RD) (n k : Nat) (hn : n < 4) (hk : k < 4) (F : RF) : (D.put n F).file k = if k = n then F else D.file k := by
  have h1 : n = 0 ∨ n = 1 ∨ n = 2 ∨ n = 3 := by omega
  have h2 : k = 0 ∨ k = 1 ∨ k = 2 ∨ k = 3 := by omega
  rcases h1 with rfl | rfl | rfl | rfl <;> rcases h2 with rfl | rfl | rfl | rfl <;> rfl
/-- Another file in its place. -/
theorem RefIs.put (h : RefIs W N D M) {n : Nat} (hn : n < 4) {F : RF} {G : AF} (hF : FileIs W N F true G) : RefIs W N (D.put n F) (M.put (n : Int) G) := by
  have e : (D.put n F).room = D.room ∧ (D.put n F).ops = D.ops ∧ (D.put n F).dead = D.dead ∧ (D.put n F).armed = D.armed ∧ (D.put n F).failing = D.failing := by
    have h1 : n = 0 ∨ n = 1 ∨ n = 2 ∨ n = 3 := by omega
    rcases h1 with rfl | rfl | rfl | rfl <;> exact ⟨rfl, rfl, rfl, rfl, rfl⟩
  obtain ⟨e1, e2, e3, e4, e5⟩ := e
  refine ⟨by rw [e1]; exact h.room, by rw [e2]; exact h.ops, by rw [e3]; exact h.dead, fun hd => by rw [e4]; exact h.armed hd, fun hd => by rw [e5]; exact h.failing hd, ?_, fun k hk => ?_⟩
  · obtain ⟨a, b, c, d, e, f⟩ := h.small
    exact ⟨by rw [e2]; exact a, by rw [e2]; exact b, by rw [e4]; exact c, by rw [e4]; exact d, by rw [e5]; exact e, by rw [e5]; exact f⟩
  · rw [file_put_ref D n k hn hk, file_put]
    by_cases hkn : k = n
    · subst hkn
      rw [if_pos rfl, if_pos rfl]
      have : ((M.put (k : Int) G).files (k : Int)).isSome = true := by simp [AD.put, upd]
      rw [this]
      exact hF
    · have hne : ¬ ((k : Int) = (n : Int)) := by omega
      rw [if_neg hkn, if_neg hne]
      have : (M.put (n : Int) G).files (k : Int) = M.files (k : Int) := by simp [AD.put, upd, hne]
      rw [this]
      exact h.file k hk
theorem RefIs.drop (h : RefIs W N D M) {n : Nat} (hn : n < 4) : RefIs W N (D.put n RF.none) (M.drop (n : Int)) := by
  have e : (D.put n RF.none).room = D.room ∧ (D.put n RF.none).ops = D.ops ∧ (D.put n RF.none).dead = D.dead ∧ (D.put n RF.none).armed = D.armed ∧ (D.put n RF.none).failing = D.failing := by
    have h1 : n = 0 ∨ n = 1 ∨ n = 2 ∨ n = 3 := by omega
    rcases h1 with rfl | rfl | rfl | rfl <;> exact ⟨rfl, rfl, rfl, rfl, rfl⟩
  obtain ⟨e1, e2, e3, e4, e5⟩ := e
  refine ⟨by rw [e1]; exact h.room, by rw [e2]; exact h.ops, by rw [e3]; exact h.dead, fun hd => by rw [e4]; exact h.armed hd, fun hd => by rw [e5]; exact h.failing hd, ?_, fun k hk => ?_⟩
  · obtain ⟨a, b, c, d, e, f⟩ := h.small
    exact ⟨by rw [e2]; exact a, by rw [e2]; exact b, by rw [e4]; exact c, by rw [e4]; exact d, by rw [e5]; exact e, by rw [e5]; exact f⟩
  · rw [file_put_ref D n k hn hk, file_drop]
    by_cases hkn : k = n
    · subst hkn
      rw [if_pos rfl, if_pos rfl]
      have : ((M.drop (k : Int)).files (k : Int)).isSome = false := by simp [AD.drop, upd]
      rw [this]
      exact FileIs.none W N
    · have hne : ¬ ((k : Int) = (n : Int)) := by omega
      rw [if_neg hkn, if_neg hne]
      have : (M.drop (n : Int)).files (k : Int) = M.files (k : Int) := by simp [AD.drop, upd, hne]
      rw [this]
      exact h.file k hk
/-- What an operation meets. -/
theorem RefIs.met (h : RefIs W N D M) (hd : M.dead = false) (ho : M.ops < 4611686018427387000) : RefIs W N D.met M.met ∧ D.err = M.err := by
  have ha := h.armed hd
  have hf := h.failing hd
  obtain ⟨s1, s2, s3, s4, s5, s6⟩ := h.small
  have hops := h.ops
  have hfile : ∀ k, D.met.file k = D.file k := fun k => by unfold RD.met RD.file; rfl
  refine ⟨⟨?_, ?_, ?_, ?_, ?_, ?_, fun k hk => ?_⟩, ?_⟩
  · rw [met_room]; exact h.room
  · show D.ops + 1 = M.met.ops
    unfold AD.met
    rw [hops]
    split <;> rfl
  · unfold RD.met AD.met
    by_cases e : M.armed = 0
    · rw [if_pos e]; simp [ha, e]
    · rw [if_neg e]; simp [ha, e, h.dead]
  · intro hx
    unfold AD.met at hx ⊢
    by_cases e : M.armed = 0
    · rw [if_pos e] at hx; cases hx
    · rw [if_neg e]
      show downA D.armed = stepC M.armed
      unfold downA stepC
      rw [ha]
      split <;> split <;> omega
  · intro hx
    unfold AD.met at hx ⊢
    by_cases e : M.armed = 0
    · rw [if_pos e] at hx; cases hx
    · rw [if_neg e]
      show downF D.failing = stepC M.failing
      unfold downF stepC
      rw [hf]
      split <;> split <;> omega
  · refine ⟨?_, ?_, ?_, ?_, ?_, ?_⟩
    · show 0 ≤ D.ops + 1; omega
    · show D.ops + 1 < _; omega
    · show -1 ≤ downA D.armed; unfold downA; split <;> omega
    · show downA D.armed ≤ _; unfold downA; split <;> omega
    · show -1 ≤ downF D.failing; unfold downF; split <;> omega
    · show downF D.failing ≤ _; unfold downF; split <;> omega
  · rw [hfile, file_met, met_files]; exact h.file k hk
  · unfold RD.err AD.err; rw [ha, hf]
theorem RefIs.ask (h : RefIs W N D M) (k : Int) : D.ask k = M.ask k [] := by
  unfold RD.ask AD.ask
  rw [h.dead]
  by_cases hn : Name k
  · obtain ⟨n, rfl⟩ : ∃ n : Nat, k = (n : Int) := ⟨k.toNat, by have := hn.1; omega⟩
    have hn4 : n < 4 := by have := hn.2; omega
    have := (h.file n hn4).there
    simp [hn, this]
  · simp [hn]
end

/-- A call that answers a disk and an error. -/
def RefGives (w : World) (N : Nat → Prop) (M' : AD) (c : Int) (e : Ending) (w' : World) : Prop := ∃ D', e = .returned (.tuple #[.agg (rdA D'), .int .i64 c]) ∧ RefIs w' N D' M' ∧ Below w.heap.size w w'

end Go.Proofs.Ythpbgejjfdgpaaa
