/-
  What comes of a disk when a function changes one of its files.
-/
import Derived.Test.YtienabfilnpieaaGreatDiskDo
namespace Go.Proofs.YtienabfilnpieaaGreat
open Go.RowKit
set_option linter.unusedVariables false

/-- Block q is a box with a file's value. -/
def BoxAt (W : World) (q : Nat) (A : Option Addr) (n c : Nat) (s : Int) (k : Bool) : Prop := W.heap[q]? = some (.cells #[.slice A n c, .int .i64 s, .bool k] 98 (0, 0))

/-- From w on, of all that was there only the row of A0 may have turned; the file F1 lies in that row or in a new one. -/
structure DidTo (Fr : Option Nat → Prop) (w : World) (A0 : Option Addr) (F1 : AF) (W : World) (A1 : Option Addr) (n1 c1 : Nat) (s1 : Int) (k1 : Bool) : Prop where
  len : n1 = F1.bs.length
  syn : s1 = F1.syn
  kept : k1 = F1.kept
  row : F1.At W A1 c1
  loc : blk A1 = blk A0 ∨ (∀ g, blk A1 = some g → w.heap.size ≤ g) ∨ Fr (blk A1)
  os : W.os = w.os
  tape : W.tape = w.tape
  output : W.output = w.output
  size : w.heap.size ≤ W.heap.size
  block : ∀ j, j < w.heap.size → some j ≠ blk A0 → W.heap[j]? = w.heap[j]?

def MadeBox (Fr : Option Nat → Prop) (w : World) (q : Nat) (A0 : Option Addr) (F1 : AF) (W : World) : Prop := ∃ A1 n1 c1 s1 k1, BoxAt W q A1 n1 c1 s1 k1 ∧ DidTo Fr w A0 F1 W A1 n1 c1 s1 k1

def AD.put (M : AD) (k : Int) (F : AF) : AD := { M with files := upd M.files k (some F) }
def grew (S : Nat → Prop) (w w' : World) : Nat → Prop := fun i => S i ∨ (w.heap.size ≤ i ∧ i < w'.heap.size)

theorem own_block {w : World} {base : Nat} {e : TypeId} {size : Nat} {A : Option Addr} {n c m : Nat} {xs : List Value} (h : w.ownsRow base e size (.slice A n c) m xs) {g : Nat} (hg : blk A = some g) : ∃ cur, w.heap[g]? = some (.cells cur e (0, 0)) := by
  rcases h.2 with ⟨e1, _⟩ | ⟨g', cap, cur, e1, _, hh, _⟩
  · injection e1 with e1; subst e1; cases hg
  · injection e1 with e1; subst e1
    simp [blk] at hg
    subst hg
    exact ⟨cur, hh⟩
theorem row_same {w w' : World} {base : Nat} {e : TypeId} {size : Nat} {A : Option Addr} {n c m : Nat} {xs : List Value} (h : w.ownsRow base e size (.slice A n c) m xs) (hs : ∀ g, blk A = some g → w'.heap[g]? = w.heap[g]?) : w'.ownsRow base e size (.slice A n c) m xs := by
  refine ⟨h.1, ?_⟩
  rcases h.2 with h0 | ⟨g', cap, cur, e1, hb, hh, r⟩
  · exact .inl h0
  · refine .inr ⟨g', cap, cur, e1, hb, ?_, r⟩
    injection e1 with e1; subst e1
    rw [hs g' rfl]; exact hh

theorem change_disk (Fr : Option Nat → Prop) (fid : FuncId) (caps : Array Value) {w : World} {S : Nat → Prop} {d mb : Nat} {M : AD} {f : Int → Option Value} {A : Int → Option Addr} {c : Int → Nat} (h : DiskIn w S d M mb f A c) {k : Int} (hk : Name k) (F1 : AF) (hok : (M.put k F1).Ok) (hfr : ∀ g, Fr (some g) → S g ∧ ∀ j, j ≠ k → M.files j ≠ none → blk (A j) ≠ some g)
    (hen : ∀ W : World, (callFunc fid (#[.pointer (some ⟨w.heap.size, 0, none⟩)] ++ caps)).run Tryz.prog W = .ok (.enter fid (#[.pointer (some ⟨w.heap.size, 0, none⟩)] ++ caps)) W)
    (hcl : ∀ A0 n0 c0 s0 k0, fileAt M A c k = .agg #[.slice A0 n0 c0, .int .i64 s0, .bool k0] → (M.files k = none → A0 = none) → Calls Tryz.prog fid (#[.pointer (some ⟨w.heap.size, 0, none⟩)] ++ caps) (w.alloc (.cells #[.slice A0 n0 c0, .int .i64 s0, .bool k0] 98)) fun e W => e = .returned (.tuple #[]) ∧ MadeBox Fr w w.heap.size A0 F1 W) :
    Calls Tryz.prog 46 #[.pointer (some ⟨d, 0, none⟩), .int .i64 k, .func (.func fid) #[] caps] w fun e w' => e = .returned (.tuple #[]) ∧ DiskAt w' (grew S w w') d (M.put k F1) ∧ Turn S w w' := by
  obtain ⟨A0, c0, n0, s0, k0, he, hn0, hnone, hsome⟩ := fileAt_form M A c k
  have hcl' := hcl A0 n0 c0 s0 k0 he (fun e => (hnone e).1)
  have hA0 : ∀ g, blk A0 = some g → S g ∧ (∃ cur, w.heap[g]? = some (.cells cur 5 (0, 0))) ∧ (∃ F, M.files k = some F) ∧ A0 = A k := by
    intro g hg
    rcases hF : M.files k with _ | F
    · rw [(hnone hF).1] at hg; cases hg
    · obtain ⟨e1, e2, _⟩ := hsome F hF
      subst e1
      obtain ⟨_, h2, h3⟩ := h.files.yes k F hF
      exact ⟨h3 g hg, own_block h2 hg, ⟨F, rfl⟩, rfl⟩
  have hmd : mb ≠ d := by
    rintro rfl
    have := h.c1
    rw [h.files.map.noCell] at this
    cases this
  have hd0 : some d ≠ blk A0 := fun e => by
    obtain ⟨_, ⟨cur, hc⟩, _⟩ := hA0 d e.symm
    rw [h.head] at hc
    simp at hc
  have hm0 : some mb ≠ blk A0 := fun e => by
    obtain ⟨_, ⟨cur, hc⟩, _⟩ := hA0 mb e.symm
    obtain ⟨D, ⟨es, clock, h1, _⟩, _⟩ := h.files.map
    rw [h1] at hc
    cases hc
  refine (change_in fid caps h hk A0 n0 c0 s0 k0 he (DidTo Fr w A0 F1) hen (hcl'.mono ?_)).mono ?_
  · rintro e W ⟨rfl, A1, n1, c1, s1, k1, hb, hD⟩
    have h1 : W.cell? ⟨d, 1, none⟩ = some (.map (some mb)) := (World.cell?_of_block (a := ⟨d, 1, none⟩) (hD.block d h.lt hd0)).trans h.c1
    exact ⟨rfl, h1, h.files.map.same (hD.block mb (h.low _ h.files.inS) hm0), A1, n1, c1, s1, k1, hb, hD⟩
  · rintro e w' ⟨rfl, W, A1, n1, c1, s1, k1, hD, hm, hg⟩
    refine ⟨rfl, ?_, ?_⟩
    · have hsz : w.heap.size ≤ w'.heap.size := Nat.le_trans hD.size hg.size
      have hblk : ∀ j, j < w.heap.size → some j ≠ blk A0 → j ≠ mb → w'.heap[j]? = w.heap[j]? := fun j hj h0 h1 => (hg.block j (Nat.lt_of_lt_of_le hj hD.size) (by simpa using h1)).trans (hD.block j hj h0)
      have hmW : MapAt W mb f := h.files.map.same (hD.block mb (h.low _ h.files.inS) hm0)
      refine ⟨mb, _, upd A k A1, upd c k c1, (hblk d h.lt hd0 (fun e => hmd e.symm)).trans h.head, ⟨hm, .inl h.files.inS, ?_, ?_, ?_⟩, hok, .inl h.inS, ?_⟩
      · intro j F hj
        by_cases e : j = k
        · subst e
          simp only [AD.put, upd_same, Option.some.injEq] at hj
          subst hj
          simp only [upd_same]
          refine ⟨by rw [hD.len, hD.syn, hD.kept]; rfl, ?_, ?_⟩
          · refine row_same hD.row (fun g hg' => hg.block g ?_ ?_)
            · obtain ⟨cur, hc⟩ := own_block hD.row hg'
              exact lt_of_block hc
            · intro e
              injection e with e
              subst e
              obtain ⟨cur, hc⟩ := own_block hD.row hg'
              obtain ⟨D, ⟨es, clock, h1, _⟩, _⟩ := hmW
              rw [h1] at hc
              cases hc
          · intro g hg'
            obtain ⟨cur, hc⟩ := own_block hD.row hg'
            rcases hD.loc with e1 | e1 | e1
            · rw [e1] at hg'
              exact .inl (hA0 g hg').1
            rotate_left
            · rw [hg'] at e1
              exact .inl (hfr g e1).1
            · exact .inr ⟨e1 g hg', Nat.lt_of_lt_of_le (lt_of_block hc) hg.size⟩
        · simp only [AD.put, upd_other _ e] at hj
          simp only [upd_other _ e]
          obtain ⟨h1, h2, h3⟩ := h.files.yes j F hj
          refine ⟨h1, row_same h2 (fun g hg' => hblk g (h.low g (h3 g hg')) ?_ ?_), fun g hg' => .inl (h3 g hg')⟩
          · intro e1
            obtain ⟨_, _, ⟨F', hF'⟩, e2⟩ := hA0 g e1.symm
            rw [e2] at e1
            exact h.files.apart j k e (by rw [hj]; simp) (by rw [hF']; simp) g hg' e1.symm
          · rintro rfl
            obtain ⟨cur, hc⟩ := own_block h2 hg'
            obtain ⟨D, ⟨es, clock, h1, _⟩, _⟩ := h.files.map
            rw [h1] at hc
            cases hc
      · intro j hj
        by_cases e : j = k
        · subst e; simp [AD.put, upd_same] at hj
        · simp only [AD.put, upd_other _ e] at hj
          simp only [upd_other _ e]
          exact h.files.no j hj
      · have one : ∀ j, j ≠ k → M.files j ≠ none → ∀ g, blk (A j) = some g → blk A1 ≠ some g := by
          intro j e hj g hg' h1
          obtain ⟨F, hF⟩ := Option.ne_none_iff_exists'.1 hj
          obtain ⟨_, h2, h3⟩ := h.files.yes j F hF
          rcases hD.loc with e1 | e1 | e1
          · rw [e1] at h1
            obtain ⟨_, _, ⟨F', hF'⟩, e2⟩ := hA0 g h1
            rw [e2] at h1
            exact h.files.apart j k e hj (by rw [hF']; simp) g hg' h1
          rotate_left
          · rw [h1] at e1
            exact (hfr g e1).2 j e hj hg'
          · have := e1 g h1
            have := h.low g (h3 g hg')
            omega
        intro i j hij hi hj g hgi hgj
        by_cases ei : i = k
        · subst ei
          have ej : j ≠ i := fun e => hij e.symm
          simp only [AD.put, upd_other _ ej] at hj
          simp only [upd_other _ ej] at hgj
          simp only [upd_same] at hgi
          exact one j ej hj g hgj hgi
        · simp only [AD.put, upd_other _ ei] at hi
          simp only [upd_other _ ei] at hgi
          by_cases ej : j = k
          · subst ej
            simp only [upd_same] at hgj
            exact one i ei hi g hgi hgj
          · simp only [AD.put, upd_other _ ej] at hj
            simp only [upd_other _ ej] at hgj
            exact h.files.apart i j hij hi hj g hgi hgj
      · rintro i (hi | ⟨_, hi⟩)
        · exact Nat.lt_of_lt_of_le (h.low i hi) hsz
        · exact hi
    · refine ⟨hg.os.trans hD.os, hg.tape.trans hD.tape, hg.output.trans hD.output, Nat.le_trans hD.size hg.size, fun j hj hn => ?_⟩
      have h0 : some j ≠ blk A0 := fun e => hn (hA0 j e.symm).1
      have h1 : j ≠ mb := fun e => hn (e ▸ h.files.inS)
      exact (hg.block j (Nat.lt_of_lt_of_le hj hD.size) (by simpa using h1)).trans (hD.block j hj h0)

end Go.Proofs.YtienabfilnpieaaGreat
