/-
  Same, the program's and the document's.
-/
import Derived.Test.YtbnedhhkapbliaaChnAt
namespace Go.Proofs.Ytbnedhhkapbliaa
open Go.RowKit Go.Shelf
set_option linter.unusedVariables false
set_option linter.unusedSimpArgs false
set_option maxRecDepth 100000

theorem sameV_eq (u v : Vr) : sameV u.b v.b u.f v.f u.x v.x = decide (u = v) := by
  unfold sameV
  rw [Bool.eq_iff_iff]
  simp only [Bool.and_eq_true, decide_eq_true_eq]
  constructor
  · rintro ⟨h1, h2, h3⟩; cases u; cases v; simp_all
  · rintro rfl; exact ⟨rfl, rfl, rfl⟩
theorem take_more {α : Type} {a b : List α} {k : Nat} {x y : α} (h : a.take k = b.take k) (hx : a[k]? = some x) (hy : b[k]? = some y) (e : x = y) : a.take (k + 1) = b.take (k + 1) := by
  rw [List.take_add_one, List.take_add_one, h, hx, hy, e]
theorem apart_at {α : Type} {a b : List α} {k : Nat} {x y : α} (hx : a[k]? = some x) (hy : b[k]? = some y) (e : x ≠ y) : a ≠ b := by
  rintro rfl; rw [hx] at hy; exact e (Option.some.inj hy)

set_option maxHeartbeats 1000000 in
theorem eqf_any (A A' : Option Addr) (c c' : Nat) (q r : List Pl) (w : World) (h : Chn w A c q) (h' : Chn w A' c' r) :
    Calls Try.prog 37 #[.slice A q.length c, .slice A' r.length c', .func (.func 38) #[] #[]] w fun e w' => e = .returned (.bool (decide (vals q = vals r))) ∧ Below w.heap.size w w' := by
  by_cases hl : r.length = q.length
  · obtain ⟨R, hR⟩ : ∃ R, R = decide (vals q = vals r) := ⟨_, rfl⟩
    rw [hl, ← hR]
    obtain ⟨m, hm⟩ : ∃ m, m = q.length := ⟨_, rfl⟩
    have hmx : m ≤ 9223372036854775807 := by rw [hm]; exact h.many
    rw [← hm]
    have HA := Lib.hid h
    have HB := Lib.hid h'
    have HM := Lib.hid hm
    have HL := Lib.hid hl
    have HR := Lib.hid hR
    clear h h' hm hl hR
    go_enter Try.func37, Try.ntmps37
    go_wp2
    go_loopw [17] (fun i wr => ∃ k : Nat, k ≤ m ∧ i = .int .i64 k ∧ Hid ((vals q).take k = (vals r).take k) ∧ Hid (Below w.heap.size w wr)) (fun i _ => m - (intOf i).toNat)
    case atStart => exact ⟨0, Nat.zero_le _, rfl, Lib.hid rfl, Lib.hid (Below.refl _ _)⟩
    case round =>
      obtain ⟨k, hk, rfl, HK, HW⟩ := hrel
      by_cases hkm : k < m
      · obtain ⟨b1, o1, p, rfl, hp, hb1, c0, c1, c2, hv, hf⟩ := (HA.out.below HW.out).at_ (i := k) (by rw [← HM.out]; exact hkm)
        obtain ⟨b2, o2, p', rfl, hp', hb2, d0, d1, d2, hv', hf'⟩ := (HB.out.below HW.out).at_ (i := k) (by rw [HL.out, ← HM.out]; exact hkm)
        have k0 : (0 : Int) ≤ k := by omega
        have km : (k : Int) < m := by omega
        obtain ⟨W1, hW1⟩ : ∃ W1, W1 = wr.alloc (.cells #[.int .u64 p.v.b, .int .u64 p.v.f, .slice p.B p.v.x.length p.c] 35) := ⟨_, rfl⟩
        obtain ⟨W2, hW2⟩ : ∃ W2, W2 = W1.alloc (.cells #[.int .u64 p'.v.b, .int .u64 p'.v.f, .slice p'.B p'.v.x.length p'.c] 35) := ⟨_, rfl⟩
        have hb3 : Below wr.heap.size wr W2 := by rw [hW2, hW1]; exact ((Below.refl _ _).alloc (Nat.le_refl _) _).alloc (by simp) _
        have HC := Lib.hid (sameVersion_any p.v.b p'.v.b p.v.f p'.v.f p.B p'.B p.c p'.c p.v.x p'.v.x W2 (hv.below hb3) (hv'.below hb3))
        rw [sameV_eq, hW2, hW1] at HC
        rw [hW2, hW1] at hb3
        have HB3 := Lib.hid hb3
        have HP := Lib.hid (vals_at hp)
        have HP' := Lib.hid (vals_at hp')
        clear hv hv' hf hf' hp hp' hW1 hW2 hb3
        by_cases he : p.v = p'.v
        · have HS := Lib.hid (take_more HK.out HP.out HP'.out he)
          rw [decide_eq_true he] at HC
          clear he
          go_wp2_with fail
          refine HC.out.mono ?_
          rintro e w3 ⟨rfl, hb4⟩
          have HW4 := Lib.hid (HW.out.trans ((HB3.out.trans (hb4.mono HB3.out.size)).mono HW.out.size))
          clear hb4
          go_wp2
          go_roundw
          case rel => exact ⟨k + 1, by omega, by go_num, HS, HW4⟩
          case measure => simp [intOf]; omega
        · have HF := Lib.hid (show R = false by rw [HR.out]; exact decide_eq_false (apart_at HP.out HP'.out he))
          rw [decide_eq_false he] at HC
          clear he
          go_wp2_with fail
          refine HC.out.mono ?_
          rintro e w3 ⟨rfl, hb4⟩
          have HW4 := Lib.hid (HW.out.trans ((HB3.out.trans (hb4.mono HB3.out.size)).mono HW.out.size))
          clear hb4
          go_wp2
          go_ret
          rw [HF.out]
          exact ⟨rfl, HW4.out⟩
      · obtain rfl : k = m := by omega
        have HT := Lib.hid (show R = true by
          rw [HR.out]
          refine decide_eq_true ?_
          have := HK.out
          rw [HM.out, ← vals_length q, List.take_length, vals_length q, ← HL.out, ← vals_length r, List.take_length] at this
          exact this)
        go_wp2
        go_ret
        rw [HT.out]
        exact ⟨rfl, HW.out⟩
  · have HT := Lib.hid (show decide (vals q = vals r) = false from decide_eq_false (fun e => hl (by rw [← vals_length r, ← vals_length q, e])))
    generalize decide (vals q = vals r) = R at *
    generalize q.length = n at *
    generalize r.length = m at *
    have t2 : ((n : Int) != (m : Int)) = true := by simp; omega
    have t3 : ((n : Int) == (m : Int)) = false := by simp; omega
    have t4 : (n == m) = false := by simp; omega
    clear hl h h'
    go_enter Try.func37, Try.ntmps37
    go_wp2
    go_ret
    rw [HT.out]
    exact ⟨rfl, Below.refl _ _⟩

theorem same8_any (A A' : Option Addr) (c c' : Nat) (q r : List Pl) (w : World) (h : Chn w A c q) (h' : Chn w A' c' r) :
    Calls Try.prog 17 #[.slice A q.length c, .slice A' r.length c'] w fun e w' => e = .returned (.bool (decide (vals q = vals r))) ∧ Below w.heap.size w w' := by
  have HE := Lib.hid (eqf_any A A' c c' q r w h h')
  generalize decide (vals q = vals r) = D at *
  generalize q.length = n at *
  generalize r.length = m at *
  clear h h'
  go_enter Try.func17, Try.ntmps17
  go_wp2_with fail
  refine HE.out.mono ?_
  rintro e w1 ⟨rfl, hb1⟩
  have HB1 := Lib.hid hb1
  clear hb1
  go_wp2
  go_ret
  exact ⟨rfl, HB1.out⟩

set_option maxHeartbeats 2000000 in
theorem rSame8_any (A A' : Option Addr) (c c' : Nat) (q r : List Pl) (w : World) (h : Chn w A c q) (h' : Chn w A' c' r) :
    Calls Try.prog 14 #[.slice A q.length c, .slice A' r.length c'] w fun e w' => e = .returned (.bool (decide (vals q = vals r))) ∧ Below w.heap.size w w' := by
  by_cases hl : r.length = q.length
  · obtain ⟨R, hR⟩ : ∃ R, R = decide (vals q = vals r) := ⟨_, rfl⟩
    rw [hl, ← hR]
    obtain ⟨m, hm⟩ : ∃ m, m = q.length := ⟨_, rfl⟩
    have hmx : m ≤ 9223372036854775807 := by rw [hm]; exact h.many
    rw [← hm]
    have HA := Lib.hid h
    have HB := Lib.hid h'
    have HM := Lib.hid hm
    have HL := Lib.hid hl
    have HR := Lib.hid hR
    clear h h' hm hl hR
    go_enter Try.func14, Try.ntmps14
    go_wp2
    go_loopw [13] (fun i wr => ∃ k : Nat, k ≤ m ∧ i = .int .i64 k ∧ Hid ((vals q).take k = (vals r).take k) ∧ Hid (Below w.heap.size w wr)) (fun i _ => m - (intOf i).toNat)
    case atStart => exact ⟨0, Nat.zero_le _, rfl, Lib.hid rfl, Lib.hid (Below.refl _ _)⟩
    case round =>
      obtain ⟨k, hk, rfl, HK, HW⟩ := hrel
      by_cases hkm : k < m
      · obtain ⟨b1, o1, p, rfl, hp, hb1, c0, c1, c2, hv, hf⟩ := (HA.out.below HW.out).at_ (i := k) (by rw [← HM.out]; exact hkm)
        obtain ⟨b2, o2, p', rfl, hp', hb2, d0, d1, d2, hv', hf'⟩ := (HB.out.below HW.out).at_ (i := k) (by rw [HL.out, ← HM.out]; exact hkm)
        have k0 : (0 : Int) ≤ k := by omega
        have km : (k : Int) < m := by omega
        have HP := Lib.hid (vals_at hp)
        have HP' := Lib.hid (vals_at hp')
        have HC := Lib.hid (fun (X : World) (hX : Below wr.heap.size wr X) => rSame_any p.B p'.B p.c p'.c p.v.x p'.v.x X (hv.below hX) (hv'.below hX))
        have HS := Lib.hid (fun (X : World) (hX : Below wr.heap.size wr X) => show X.cell? ⟨b1, o1 + k * 3, none⟩ = some (.int .u64 p.v.b) ∧ X.cell? ⟨b1, o1 + k * 3 + 1, none⟩ = some (.int .u64 p.v.f) ∧ X.cell? ⟨b1, o1 + k * 3 + 2, none⟩ = some (.slice p.B p.v.x.length p.c) ∧ X.cell? ⟨b2, o2 + k * 3, none⟩ = some (.int .u64 p'.v.b) ∧ X.cell? ⟨b2, o2 + k * 3 + 1, none⟩ = some (.int .u64 p'.v.f) ∧ X.cell? ⟨b2, o2 + k * 3 + 2, none⟩ = some (.slice p'.B p'.v.x.length p'.c) from
          ⟨(hX.cell (p := ⟨b1, o1 + k * 3, none⟩) hb1).trans c0, (hX.cell (p := ⟨b1, o1 + k * 3 + 1, none⟩) hb1).trans c1, (hX.cell (p := ⟨b1, o1 + k * 3 + 2, none⟩) hb1).trans c2, (hX.cell (p := ⟨b2, o2 + k * 3, none⟩) hb2).trans d0, (hX.cell (p := ⟨b2, o2 + k * 3 + 1, none⟩) hb2).trans d1, (hX.cell (p := ⟨b2, o2 + k * 3 + 2, none⟩) hb2).trans d2⟩)
        have HEq := Lib.hid (fun (h1 : p.v.b = p'.v.b) (h2 : p.v.f = p'.v.f) (h3 : p.v.x = p'.v.x) => show p.v = p'.v by
          obtain ⟨⟨a, b, c⟩, _, _⟩ := p
          obtain ⟨⟨a', b', c'⟩, _, _⟩ := p'
          simp_all)
        have HNo := Lib.hid (fun (he : p.v ≠ p'.v) => show R = false by rw [HR.out]; exact decide_eq_false (apart_at HP.out HP'.out he))
        clear hv hv' hf hf' hp hp'
        by_cases e1 : p.v.b = p'.v.b
        · have s1 : (p.v.b != p'.v.b) = false := by simpa using e1
          have s2 : (p.v.b == p'.v.b) = true := by simpa using e1
          by_cases e2 : p.v.f = p'.v.f
          · have s3 : (p.v.f != p'.v.f) = false := by simpa using e2
            have s4 : (p.v.f == p'.v.f) = true := by simpa using e2
            by_cases e3 : p.v.x = p'.v.x
            · have HS2 := Lib.hid (take_more HK.out HP.out HP'.out (HEq.out e1 e2 e3))
              rw [decide_eq_true e3] at HC
              clear e1 e2 e3
              go_wp2
              go_region_held3 (fun X => X.cell? ⟨b1, o1 + k * 3, none⟩ = some (.int .u64 p.v.b) ∧ X.cell? ⟨b1, o1 + k * 3 + 1, none⟩ = some (.int .u64 p.v.f) ∧ X.cell? ⟨b1, o1 + k * 3 + 2, none⟩ = some (.slice p.B p.v.x.length p.c) ∧ X.cell? ⟨b2, o2 + k * 3, none⟩ = some (.int .u64 p'.v.b) ∧ X.cell? ⟨b2, o2 + k * 3 + 1, none⟩ = some (.int .u64 p'.v.f) ∧ X.cell? ⟨b2, o2 + k * 3 + 2, none⟩ = some (.slice p'.B p'.v.x.length p'.c)) (first | exact HS.out _ (Below.refl _ _) | exact HS.out _ (below_drew (Below.refl _ _)) | exact HS.out _ HB2.out) (first
                | (go_at_call 33; refine (HC.out _ (below_drew (Below.refl _ _))).mono ?_; rintro e w3 ⟨rfl, hb3⟩; have HB2 := Lib.hid ((below_drew (Below.refl _ wr)).trans hb3); clear hb3))
              all_goals (
                go_wp2
                go_roundw
                case rel => exact ⟨k + 1, by omega, by go_num, HS2, Lib.hid (HW.out.trans (HB2.out.mono HW.out.size))⟩
                case measure => simp [intOf]; omega)
            · have HF := Lib.hid (HNo.out (fun e => e3 (by rw [e])))
              rw [decide_eq_false e3] at HC
              clear e1 e2 e3
              go_wp2
              go_region_held3 (fun X => X.cell? ⟨b1, o1 + k * 3, none⟩ = some (.int .u64 p.v.b) ∧ X.cell? ⟨b1, o1 + k * 3 + 1, none⟩ = some (.int .u64 p.v.f) ∧ X.cell? ⟨b1, o1 + k * 3 + 2, none⟩ = some (.slice p.B p.v.x.length p.c) ∧ X.cell? ⟨b2, o2 + k * 3, none⟩ = some (.int .u64 p'.v.b) ∧ X.cell? ⟨b2, o2 + k * 3 + 1, none⟩ = some (.int .u64 p'.v.f) ∧ X.cell? ⟨b2, o2 + k * 3 + 2, none⟩ = some (.slice p'.B p'.v.x.length p'.c)) (first | exact HS.out _ (Below.refl _ _) | exact HS.out _ (below_drew (Below.refl _ _)) | exact HS.out _ HB2.out) (first
                | (go_at_call 33; refine (HC.out _ (below_drew (Below.refl _ _))).mono ?_; rintro e w3 ⟨rfl, hb3⟩; have HB2 := Lib.hid ((below_drew (Below.refl _ wr)).trans hb3); clear hb3))
              all_goals (
                go_wp2
                go_ret
                rw [HF.out]
                exact ⟨rfl, HW.out.trans (HB2.out.mono HW.out.size)⟩)
          · have s3 : (p.v.f != p'.v.f) = true := by simpa using e2
            have s4 : (p.v.f == p'.v.f) = false := by simpa using e2
            have HF := Lib.hid (HNo.out (fun e => e2 (by rw [e])))
            clear e1 e2
            go_wp2
            go_quiet (fail)
            go_wp2
            go_ret
            rw [HF.out]
            exact ⟨rfl, below_drewN HW.out _⟩
        · have s1 : (p.v.b != p'.v.b) = true := by simpa using e1
          have s2 : (p.v.b == p'.v.b) = false := by simpa using e1
          have HF := Lib.hid (HNo.out (fun e => e1 (by rw [e])))
          clear e1
          go_wp2
          go_quiet (fail)
          go_wp2
          go_ret
          rw [HF.out]
          exact ⟨rfl, below_drewN HW.out _⟩
      · obtain rfl : k = m := by omega
        have HT := Lib.hid (show R = true by
          rw [HR.out]
          refine decide_eq_true ?_
          have := HK.out
          rw [HM.out, ← vals_length q, List.take_length, vals_length q, ← HL.out, ← vals_length r, List.take_length] at this
          exact this)
        go_wp2
        go_ret
        rw [HT.out]
        exact ⟨rfl, HW.out⟩
  · have HT := Lib.hid (show decide (vals q = vals r) = false from decide_eq_false (fun e => hl (by rw [← vals_length r, ← vals_length q, e])))
    generalize decide (vals q = vals r) = R at *
    generalize q.length = n at *
    generalize r.length = m at *
    have t2 : ((n : Int) != (m : Int)) = true := by simp; omega
    have t3 : ((n : Int) == (m : Int)) = false := by simp; omega
    have t4 : (n == m) = false := by simp; omega
    clear hl h h'
    go_enter Try.func14, Try.ntmps14
    go_wp2
    go_ret
    rw [HT.out]
    exact ⟨rfl, Below.refl _ _⟩

end Go.Proofs.Ytbnedhhkapbliaa
