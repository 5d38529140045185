/-
  The document's Same.
-/
import Derived.Test.YtdbcecmlakgknaaMAre
namespace Go.Proofs.Ytdbcecmlakgknaa
open Go.RowKit Go.Shelf
set_option linter.unusedVariables false
set_option linter.unusedSimpArgs false
set_option maxRecDepth 100000

set_option maxHeartbeats 4000000 in
theorem rSameC_any (A A' : Option Addr) (c c' : Nat) (q r : List Pa) (w : World) (h : Are w A c q) (h' : Are w A' c' r) :
    Calls Try.prog 22 #[.slice A q.length c, .slice A' r.length c'] w fun e w' => e = .returned (.bool (decide (ces q = ces r))) ∧ Below w.heap.size w w' := by
  by_cases hl : r.length = q.length
  · obtain ⟨R, hR⟩ : ∃ R, R = decide (ces q = ces r) := ⟨_, rfl⟩
    rw [hl, ← hR]
    obtain ⟨m, hm⟩ : ∃ m, m = q.length := ⟨_, rfl⟩
    have hmx : m ≤ 9223372036854775807 := by rw [hm]; exact h.many
    rw [← hm]
    have HA := Lib.hid h
    have HB := Lib.hid h'
    have HM := Lib.hid hm
    have HL := Lib.hid hl
    have HR := Lib.hid hR
    clear h h' hm hl hR
    go_enter Try.func22, Try.ntmps22
    go_wp2
    go_loopw [5] (fun i wr => ∃ k : Nat, k ≤ m ∧ i = .int .i64 k ∧ Hid ((ces q).take k = (ces r).take k) ∧ Hid (Below w.heap.size w wr)) (fun i _ => m - (intOf i).toNat)
    case atStart => exact ⟨0, Nat.zero_le _, rfl, Lib.hid rfl, Lib.hid (Below.refl _ _)⟩
    case round =>
      obtain ⟨k, hk, rfl, HK, HW⟩ := hrel
      by_cases hkm : k < m
      · obtain ⟨b1, o1, p, rfl, hp, hb1, c0, c1, c2, c3, c4, hv, hf⟩ := (HA.out.below HW.out).at_ (i := k) (by rw [← HM.out]; exact hkm)
        obtain ⟨b2, o2, p', rfl, hp', hb2, d0, d1, d2, d3, d4, hv', hf'⟩ := (HB.out.below HW.out).at_ (i := k) (by rw [HL.out, ← HM.out]; exact hkm)
        have k0 : (0 : Int) ≤ k := by omega
        have km : (k : Int) < m := by omega
        have HP := Lib.hid (ces_at hp)
        have HP' := Lib.hid (ces_at hp')
        have HC := Lib.hid (fun (X : World) (hX : Below wr.heap.size wr X) => rSameVersion_any p.e.b p'.e.b p.e.f p'.e.f p.B p'.B p.c p'.c p.e.x p'.e.x X (hv.below hX) (hv'.below hX))
        have HS := Lib.hid (fun (X : World) (hX : Below wr.heap.size wr X) => show X.cell? ⟨b1, o1 + k * 5, none⟩ = some (.bool p.e.u) ∧ X.cell? ⟨b1, o1 + k * 5 + 1, none⟩ = some (.int .u64 p.e.i) ∧ X.cell? ⟨b1, o1 + k * 5 + 2, none⟩ = some (.int .u64 p.e.b) ∧ X.cell? ⟨b1, o1 + k * 5 + 3, none⟩ = some (.int .u64 p.e.f) ∧ X.cell? ⟨b1, o1 + k * 5 + 4, none⟩ = some (.slice p.B p.e.x.length p.c) ∧ X.cell? ⟨b2, o2 + k * 5, none⟩ = some (.bool p'.e.u) ∧ X.cell? ⟨b2, o2 + k * 5 + 1, none⟩ = some (.int .u64 p'.e.i) ∧ X.cell? ⟨b2, o2 + k * 5 + 2, none⟩ = some (.int .u64 p'.e.b) ∧ X.cell? ⟨b2, o2 + k * 5 + 3, none⟩ = some (.int .u64 p'.e.f) ∧ X.cell? ⟨b2, o2 + k * 5 + 4, none⟩ = some (.slice p'.B p'.e.x.length p'.c) from
          ⟨(hX.cell (p := ⟨b1, o1 + k * 5, none⟩) hb1).trans c0, (hX.cell (p := ⟨b1, o1 + k * 5 + 1, none⟩) hb1).trans c1, (hX.cell (p := ⟨b1, o1 + k * 5 + 2, none⟩) hb1).trans c2, (hX.cell (p := ⟨b1, o1 + k * 5 + 3, none⟩) hb1).trans c3, (hX.cell (p := ⟨b1, o1 + k * 5 + 4, none⟩) hb1).trans c4, (hX.cell (p := ⟨b2, o2 + k * 5, none⟩) hb2).trans d0, (hX.cell (p := ⟨b2, o2 + k * 5 + 1, none⟩) hb2).trans d1, (hX.cell (p := ⟨b2, o2 + k * 5 + 2, none⟩) hb2).trans d2, (hX.cell (p := ⟨b2, o2 + k * 5 + 3, none⟩) hb2).trans d3, (hX.cell (p := ⟨b2, o2 + k * 5 + 4, none⟩) hb2).trans d4⟩)
        have HEq := Lib.hid (fun (h0 : p.e.u = p'.e.u) (h1 : p.e.i = p'.e.i) (h2 : sameV p.e.b p'.e.b p.e.f p'.e.f p.e.x p'.e.x = true) => show p.e = p'.e by
          obtain ⟨⟨a, b, c, d, e⟩, _, _⟩ := p
          obtain ⟨⟨a', b', c', d', e'⟩, _, _⟩ := p'
          unfold sameV at h2
          simp_all)
        have HEs := Lib.hid (fun (h2 : sameV p.e.b p'.e.b p.e.f p'.e.f p.e.x p'.e.x = false) (e : p.e = p'.e) => show False by rw [e] at h2; unfold sameV at h2; simp at h2)
        have HNo := Lib.hid (fun (he : p.e ≠ p'.e) => show R = false by rw [HR.out]; exact decide_eq_false (apart_at HP.out HP'.out he))
        clear hv hv' hf hf' hp hp'
        generalize hV : sameV p.e.b p'.e.b p.e.f p'.e.f p.e.x p'.e.x = V at *
        clear hV
        by_cases e1 : p.e.u = p'.e.u
        · have s1 : (p.e.u != p'.e.u) = false := by simpa using e1
          have s2 : (p.e.u == p'.e.u) = true := by simpa using e1
          by_cases e2 : p.e.i = p'.e.i
          · have s3 : (p.e.i != p'.e.i) = false := by simpa using e2
            have s4 : (p.e.i == p'.e.i) = true := by simpa using e2
            cases V with
            | true =>
              have HS2 := Lib.hid (take_more HK.out HP.out HP'.out (HEq.out e1 e2 rfl))
              clear e1 e2
              go_wp2
              go_region_held3 (fun X => X.cell? ⟨b1, o1 + k * 5, none⟩ = some (.bool p.e.u) ∧ X.cell? ⟨b1, o1 + k * 5 + 1, none⟩ = some (.int .u64 p.e.i) ∧ X.cell? ⟨b1, o1 + k * 5 + 2, none⟩ = some (.int .u64 p.e.b) ∧ X.cell? ⟨b1, o1 + k * 5 + 3, none⟩ = some (.int .u64 p.e.f) ∧ X.cell? ⟨b1, o1 + k * 5 + 4, none⟩ = some (.slice p.B p.e.x.length p.c) ∧ X.cell? ⟨b2, o2 + k * 5, none⟩ = some (.bool p'.e.u) ∧ X.cell? ⟨b2, o2 + k * 5 + 1, none⟩ = some (.int .u64 p'.e.i) ∧ X.cell? ⟨b2, o2 + k * 5 + 2, none⟩ = some (.int .u64 p'.e.b) ∧ X.cell? ⟨b2, o2 + k * 5 + 3, none⟩ = some (.int .u64 p'.e.f) ∧ X.cell? ⟨b2, o2 + k * 5 + 4, none⟩ = some (.slice p'.B p'.e.x.length p'.c)) (first | exact HS.out _ (Below.refl _ _) | exact HS.out _ (below_drew (Below.refl _ _)) | exact HS.out _ HB2.out) (first
                | (go_at_call 58; refine (HC.out _ (below_drew (Below.refl _ _))).mono ?_; rintro e w3 ⟨rfl, hb3⟩; have HB2 := Lib.hid ((below_drew (Below.refl _ wr)).trans hb3); clear hb3))
              all_goals (
                go_wp2
                go_roundw
                case rel => exact ⟨k + 1, by omega, by go_num, HS2, Lib.hid (HW.out.trans (HB2.out.mono HW.out.size))⟩
                case measure => simp [intOf]; omega)
            | false =>
              have HF := Lib.hid (HNo.out (fun e => HEs.out rfl e))
              clear e1 e2
              go_wp2
              go_region_held3 (fun X => X.cell? ⟨b1, o1 + k * 5, none⟩ = some (.bool p.e.u) ∧ X.cell? ⟨b1, o1 + k * 5 + 1, none⟩ = some (.int .u64 p.e.i) ∧ X.cell? ⟨b1, o1 + k * 5 + 2, none⟩ = some (.int .u64 p.e.b) ∧ X.cell? ⟨b1, o1 + k * 5 + 3, none⟩ = some (.int .u64 p.e.f) ∧ X.cell? ⟨b1, o1 + k * 5 + 4, none⟩ = some (.slice p.B p.e.x.length p.c) ∧ X.cell? ⟨b2, o2 + k * 5, none⟩ = some (.bool p'.e.u) ∧ X.cell? ⟨b2, o2 + k * 5 + 1, none⟩ = some (.int .u64 p'.e.i) ∧ X.cell? ⟨b2, o2 + k * 5 + 2, none⟩ = some (.int .u64 p'.e.b) ∧ X.cell? ⟨b2, o2 + k * 5 + 3, none⟩ = some (.int .u64 p'.e.f) ∧ X.cell? ⟨b2, o2 + k * 5 + 4, none⟩ = some (.slice p'.B p'.e.x.length p'.c)) (first | exact HS.out _ (Below.refl _ _) | exact HS.out _ (below_drew (Below.refl _ _)) | exact HS.out _ HB2.out) (first
                | (go_at_call 58; refine (HC.out _ (below_drew (Below.refl _ _))).mono ?_; rintro e w3 ⟨rfl, hb3⟩; have HB2 := Lib.hid ((below_drew (Below.refl _ wr)).trans hb3); clear hb3))
              all_goals (
                go_wp2
                go_ret
                rw [HF.out]
                exact ⟨rfl, HW.out.trans (HB2.out.mono HW.out.size)⟩)
          · have s3 : (p.e.i != p'.e.i) = true := by simpa using e2
            have s4 : (p.e.i == p'.e.i) = false := by simpa using e2
            have HF := Lib.hid (HNo.out (fun e => e2 (by rw [e])))
            clear e1 e2
            go_wp2
            go_quiet (fail)
            go_wp2
            go_ret
            rw [HF.out]
            exact ⟨rfl, below_drewN HW.out _⟩
        · have s1 : (p.e.u != p'.e.u) = true := by simpa using e1
          have s2 : (p.e.u == p'.e.u) = false := by simpa using e1
          have HF := Lib.hid (HNo.out (fun e => e1 (by rw [e])))
          clear e1
          go_wp2
          go_quiet (fail)
          go_wp2
          go_ret
          rw [HF.out]
          exact ⟨rfl, below_drewN HW.out _⟩
      · obtain rfl : k = m := by omega
        have HT := Lib.hid (show R = true by
          rw [HR.out]
          refine decide_eq_true ?_
          have := HK.out
          rw [HM.out, ← ces_length q, List.take_length, ces_length q, ← HL.out, ← ces_length r, List.take_length] at this
          exact this)
        go_wp2
        go_ret
        rw [HT.out]
        exact ⟨rfl, HW.out⟩
  · have HT := Lib.hid (show decide (ces q = ces r) = false from decide_eq_false (fun e => hl (by rw [← ces_length r, ← ces_length q, e])))
    generalize decide (ces q = ces r) = R at *
    generalize q.length = n at *
    generalize r.length = m at *
    have t2 : ((n : Int) != (m : Int)) = true := by simp; omega
    have t3 : ((n : Int) == (m : Int)) = false := by simp; omega
    have t4 : (n == m) = false := by simp; omega
    clear hl h h'
    go_enter Try.func22, Try.ntmps22
    go_wp2
    go_ret
    rw [HT.out]
    exact ⟨rfl, Below.refl _ _⟩

theorem rSameA_any (A A' : Option Addr) (c c' : Nat) (q r : List Pa) (w : World) (h : Are w A c q) (h' : Are w A' c' r) :
    Calls Try.prog 16 #[.agg #[.slice A q.length c], .agg #[.slice A' r.length c']] w fun e w' => e = .returned (.bool (decide (ces q = ces r))) ∧ Below w.heap.size w w' := by
  have hb : Below w.heap.size w ((w.alloc (.cells #[.slice A q.length c] 24)).alloc (.cells #[.slice A' r.length c'] 24)) := ((Below.refl _ w).alloc (Nat.le_refl _) _).alloc (by simp) _
  have HE := Lib.hid (rSameC_any A A' c c' q r _ (h.below hb) (h'.below hb))
  have HB := Lib.hid hb
  generalize decide (ces q = ces r) = D at *
  generalize q.length = n at *
  generalize r.length = m at *
  clear h h' hb
  go_enter Try.func16, Try.ntmps16
  go_wp2_with fail
  refine HE.out.mono ?_
  rintro e w1 ⟨rfl, hb1⟩
  have HB1 := Lib.hid (HB.out.trans (hb1.mono HB.out.size))
  clear hb1
  go_wp2
  go_ret
  exact ⟨rfl, HB1.out⟩

end Go.Proofs.Ytdbcecmlakgknaa
