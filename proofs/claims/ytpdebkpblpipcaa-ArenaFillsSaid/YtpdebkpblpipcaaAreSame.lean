/-
  Same arenas: slices.EqualFunc at cells, Same, and the document's; isUsed.
-/
import Derived.Test.YtpdebkpblpipcaaAreFind
namespace Go.Proofs.Ytpdebkpblpipcaa
open Go.RowKit Go.Shelf
set_option linter.unusedVariables false
set_option linter.unusedSimpArgs false
set_option maxRecDepth 100000

theorem take_more {α : Type} {a b : List α} {k : Nat} {x y : α} (h : a.take k = b.take k) (hx : a[k]? = some x) (hy : b[k]? = some y) (e : x = y) : a.take (k + 1) = b.take (k + 1) := by
  rw [List.take_add_one, List.take_add_one, h, hx, hy, e]
theorem apart_at {α : Type} {a b : List α} {k : Nat} {x y : α} (hx : a[k]? = some x) (hy : b[k]? = some y) (e : x ≠ y) : a ≠ b := by
  rintro rfl; rw [hx] at hy; exact e (Option.some.inj hy)

set_option maxHeartbeats 4000000 in
theorem eqC_any (A A' : Option Addr) (c c' : Nat) (q r : List Pa) (w : World) (h : Are w A c q) (h' : Are w A' c' r) :
    Calls Try.prog 37 #[.slice A q.length c, .slice A' r.length c', .func (.func 38) #[] #[]] w fun e w' => e = .returned (.bool (decide (ces q = ces r))) ∧ Below w.heap.size w w' := by
  by_cases hl : r.length = q.length
  · obtain ⟨R, hR⟩ : ∃ R, R = decide (ces q = ces r) := ⟨_, rfl⟩
    rw [hl, ← hR]
    obtain ⟨m, hm⟩ : ∃ m, m = q.length := ⟨_, rfl⟩
    have hmx : m ≤ 9223372036854775807 := by rw [hm]; exact h.many
    rw [← hm]
    have HA := Lib.hid h
    have HB := Lib.hid h'
    have HM := Lib.hid hm
    have HL := Lib.hid hl
    have HR := Lib.hid hR
    clear h h' hm hl hR
    go_enter Try.func37, Try.ntmps37
    go_wp2
    go_loopw [17] (fun i wr => ∃ k : Nat, k ≤ m ∧ i = .int .i64 k ∧ Hid ((ces q).take k = (ces r).take k) ∧ Hid (Below w.heap.size w wr)) (fun i _ => m - (intOf i).toNat)
    case atStart => exact ⟨0, Nat.zero_le _, rfl, Lib.hid rfl, Lib.hid (Below.refl _ _)⟩
    case round =>
      obtain ⟨k, hk, rfl, HK, HW⟩ := hrel
      by_cases hkm : k < m
      · obtain ⟨b1, o1, p, rfl, hp, hb1, c0, c1, c2, c3, c4, hv, hf⟩ := (HA.out.below HW.out).at_ (i := k) (by rw [← HM.out]; exact hkm)
        obtain ⟨b2, o2, p', rfl, hp', hb2, d0, d1, d2, d3, d4, hv', hf'⟩ := (HB.out.below HW.out).at_ (i := k) (by rw [HL.out, ← HM.out]; exact hkm)
        have k0 : (0 : Int) ≤ k := by omega
        have km : (k : Int) < m := by omega
        have HP := Lib.hid (ces_at hp)
        have HP' := Lib.hid (ces_at hp')
        obtain ⟨W1, hW1⟩ : ∃ W1, W1 = wr.alloc (.cells #[.bool p.e.u, .int .u64 p.e.i, .int .u64 p.e.b, .int .u64 p.e.f, .slice p.B p.e.x.length p.c] 45) := ⟨_, rfl⟩
        obtain ⟨W2, hW2⟩ : ∃ W2, W2 = W1.alloc (.cells #[.bool p'.e.u, .int .u64 p'.e.i, .int .u64 p'.e.b, .int .u64 p'.e.f, .slice p'.B p'.e.x.length p'.c] 45) := ⟨_, rfl⟩
        have hb3 : Below wr.heap.size wr W2 := by rw [hW2, hW1]; exact ((Below.refl _ _).alloc (Nat.le_refl _) _).alloc (by simp) _
        have HC := Lib.hid (sameCell_any p p' W2 (hv.below hb3) (hv'.below hb3))
        rw [hW2, hW1] at HC
        rw [hW2, hW1] at hb3
        have HB3 := Lib.hid hb3
        clear hv hv' hf hf' hp hp' hW1 hW2 hb3
        by_cases he : p.e = p'.e
        · have HS := Lib.hid (take_more HK.out HP.out HP'.out he)
          rw [decide_eq_true he] at HC
          clear he
          go_wp2_with fail
          refine HC.out.mono ?_
          rintro e w3 ⟨rfl, hb4⟩
          have HW4 := Lib.hid (HW.out.trans ((HB3.out.trans (hb4.mono HB3.out.size)).mono HW.out.size))
          clear hb4
          go_wp2
          go_roundw
          case rel => exact ⟨k + 1, by omega, by go_num, HS, HW4⟩
          case measure => simp [intOf]; omega
        · have HF := Lib.hid (show R = false by rw [HR.out]; exact decide_eq_false (apart_at HP.out HP'.out he))
          rw [decide_eq_false he] at HC
          clear he
          go_wp2_with fail
          refine HC.out.mono ?_
          rintro e w3 ⟨rfl, hb4⟩
          have HW4 := Lib.hid (HW.out.trans ((HB3.out.trans (hb4.mono HB3.out.size)).mono HW.out.size))
          clear hb4
          go_wp2
          go_ret
          rw [HF.out]
          exact ⟨rfl, HW4.out⟩
      · obtain rfl : k = m := by omega
        have HT := Lib.hid (show R = true by
          rw [HR.out]
          refine decide_eq_true ?_
          have := HK.out
          rw [HM.out, ← ces_length q, List.take_length, ces_length q, ← HL.out, ← ces_length r, List.take_length] at this
          exact this)
        go_wp2
        go_ret
        rw [HT.out]
        exact ⟨rfl, HW.out⟩
  · have HT := Lib.hid (show decide (ces q = ces r) = false from decide_eq_false (fun e => hl (by rw [← ces_length r, ← ces_length q, e])))
    generalize decide (ces q = ces r) = R at *
    generalize q.length = n at *
    generalize r.length = m at *
    have t2 : ((n : Int) != (m : Int)) = true := by simp; omega
    have t3 : ((n : Int) == (m : Int)) = false := by simp; omega
    have t4 : (n == m) = false := by simp; omega
    clear hl h h'
    go_enter Try.func37, Try.ntmps37
    go_wp2
    go_ret
    rw [HT.out]
    exact ⟨rfl, Below.refl _ _⟩

theorem sameA_any (A A' : Option Addr) (c c' : Nat) (q r : List Pa) (w : World) (h : Are w A c q) (h' : Are w A' c' r) :
    Calls Try.prog 13 #[.agg #[.slice A q.length c], .agg #[.slice A' r.length c']] w fun e w' => e = .returned (.bool (decide (ces q = ces r))) ∧ Below w.heap.size w w' := by
  have hb : Below w.heap.size w ((w.alloc (.cells #[.slice A q.length c] 24)).alloc (.cells #[.slice A' r.length c'] 24)) := ((Below.refl _ w).alloc (Nat.le_refl _) _).alloc (by simp) _
  have HE := Lib.hid (eqC_any A A' c c' q r _ (h.below hb) (h'.below hb))
  have HB := Lib.hid hb
  generalize decide (ces q = ces r) = D at *
  generalize q.length = n at *
  generalize r.length = m at *
  clear h h' hb
  go_enter Try.func13, Try.ntmps13
  go_wp2_with fail
  refine HE.out.mono ?_
  rintro e w1 ⟨rfl, hb1⟩
  have HB1 := Lib.hid (HB.out.trans (hb1.mono HB.out.size))
  clear hb1
  go_wp2
  go_ret
  exact ⟨rfl, HB1.out⟩

/-- Is there such a slot, and is it used? -/
def usedB (l : List Ce) (s : Int) : Bool := decide (0 ≤ s) && (decide (s < l.length) && (ceAt l s.toNat).u)
theorem usedB_iff (l : List Ce) (s : Int) : usedB l s = true ↔ ∃ k : Nat, s = k ∧ k < l.length ∧ (ceAt l k).u = true := by
  unfold usedB
  simp only [Bool.and_eq_true, decide_eq_true_eq]
  constructor
  · rintro ⟨h0, h1, h2⟩; exact ⟨s.toNat, by omega, by omega, h2⟩
  · rintro ⟨k, rfl, h1, h2⟩; exact ⟨by omega, by omega, by simpa using h2⟩
set_option maxHeartbeats 1000000 in
theorem isUsed_any (A : Option Addr) (c : Nat) (q : List Pa) (s : Int) (w : World) (h : Are w A c q) :
    Calls Try.prog 48 #[.agg #[.slice A q.length c], .int .i64 s] w fun e w' => e = .returned (.bool (usedB (ces q) s)) ∧ Below w.heap.size w w' := by
  have hb : Below w.heap.size w (w.alloc (.cells #[.slice A q.length c] 24)) := (Below.refl _ w).alloc (Nat.le_refl _) _
  have HB := Lib.hid hb
  have hR : usedB (ces q) s = (decide (0 ≤ s) && (decide (s < q.length) && (ceAt (ces q) s.toNat).u)) := by unfold usedB; rw [ces_length]
  generalize usedB (ces q) s = R at *
  by_cases h0 : 0 ≤ s
  · by_cases h1 : s < q.length
    · obtain ⟨k, rfl⟩ : ∃ k : Nat, s = k := ⟨s.toNat, by omega⟩
      obtain ⟨b, o, p, rfl, hp, hbb, c0, c1, c2, c3, c4, hv, hf⟩ := (h.below hb).at_ (i := k) (by omega)
      have HF := Lib.hid (show R = p.e.u by rw [hR, Int.toNat_natCast, ces_ceAt hp]; simp; omega)
      have hmx := h.many
      generalize q.length = n at *
      clear h hb hR hp hv hf c1 c2 c3 c4
      go_enter Try.func48, Try.ntmps48
      go_wp2
      go_ret
      rw [HF.out]
      exact ⟨rfl, HB.out⟩
    · have HF := Lib.hid (show R = false by rw [hR]; simp [h1])
      have t1 : decide (s < (q.length : Int)) = false := by simpa using h1
      generalize q.length = n at *
      clear h hb hR h1
      go_enter Try.func48, Try.ntmps48
      go_wp2
      go_ret
      rw [HF.out]
      exact ⟨rfl, HB.out⟩
  · have HF := Lib.hid (show R = false by rw [hR]; simp [h0])
    have t1 : decide (0 ≤ s) = false := by simpa using h0
    generalize q.length = n at *
    clear h hb hR h0
    go_enter Try.func48, Try.ntmps48
    go_wp2
    go_ret
    rw [HF.out]
    exact ⟨rfl, HB.out⟩

end Go.Proofs.Ytpdebkpblpipcaa
