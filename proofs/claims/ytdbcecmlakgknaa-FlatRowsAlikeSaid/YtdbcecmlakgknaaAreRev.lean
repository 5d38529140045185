/-
  slices.Reverse at cells of the call's own: the same ones, in another order.
-/
import Derived.Test.YtdbcecmlakgknaaMAre
namespace Go.Proofs.Ytdbcecmlakgknaa
open Go.RowKit Go.Shelf
set_option linter.unusedVariables false
set_option linter.unusedSimpArgs false
set_option maxRecDepth 100000

theorem swap_perm {α : Type} (l : List α) (i j : Nat) {x y : α} (hi : l[i]? = some x) (hj : l[j]? = some y) : ((l.set i y).set j x).Perm l := by
  haveI : DecidableEq α := fun a b => Classical.propDecidable (a = b)
  have hil := (List.getElem?_eq_some_iff.1 hi).1
  have hjl := (List.getElem?_eq_some_iff.1 hj).1
  have ei : l[i] = x := (List.getElem?_eq_some_iff.1 hi).2
  have ej : l[j] = y := (List.getElem?_eq_some_iff.1 hj).2
  rw [List.perm_iff_count]
  intro a
  rw [List.count_set (by simpa using hjl), List.count_set hil]
  have c1 : (if (l[i] == a) = true then 1 else 0) ≤ l.count a := by
    split
    · rename_i h
      exact List.count_pos_iff.2 (by rw [← eq_of_beq h]; exact List.getElem_mem hil)
    · omega
  simp only [ei, ej, List.getElem_set] at c1 ⊢
  by_cases hij : i = j
  · subst hij
    have : x = y := ei.symm.trans ej
    subst this
    simp only [if_true]
    omega
  · simp only [if_neg hij, ej]
    have c2 : (if (y == a) = true then 1 else 0) ≤ l.count a := by
      split
      · rename_i h
        exact List.count_pos_iff.2 (by rw [← eq_of_beq h, ← ej]; exact List.getElem_mem hjl)
      · omega
    omega

set_option maxHeartbeats 8000000 in
theorem reverseC_any (base g c : Nat) (q : List Pa) (w : World) (h : RowA base w (some ⟨g, 0, none⟩) c q) :
    Calls Try.prog 38 #[.slice (some ⟨g, 0, none⟩) q.length c] w fun e w' => e = .returned (.tuple #[]) ∧ ∃ r, r.Perm q ∧ RowA base w' (some ⟨g, 0, none⟩) c r ∧ Turn (fun i => i = g) w w' := by
  obtain ⟨n, hn⟩ : ∃ n, n = q.length := ⟨_, rfl⟩
  have hmx : n ≤ 9223372036854775807 := by
    rcases h.2 with ⟨e, h0⟩ | ⟨g', cap, cur, e, hg, hh, hnc, hcm, _⟩
    · rw [hn, h0]; omega
    · unfold maxLen at hcm; rw [hn]; omega
  have HN := Lib.hid hn
  have HR := Lib.hid h
  rw [← hn]
  clear h hn
  go_enter Try.func38, Try.ntmps38
  go_wp2
  go_loopw [2, 3] (fun i j wr => ∃ k : Nat, k ≤ n ∧ i = .int .i64 k ∧ j = .int .i64 ((n : Int) - 1 - k) ∧ Hid (∃ r, r.Perm q ∧ RowA base wr (some ⟨g, 0, none⟩) c r ∧ Turn (fun i => i = g) w wr)) (fun i _ _ => n - (intOf i).toNat)
  case atStart => exact ⟨0, Nat.zero_le _, rfl, by simp, Lib.hid ⟨q, List.Perm.refl _, HR.out, Turn.refl _ _⟩⟩
  case round =>
    obtain ⟨k, hk, rfl, rfl, HH⟩ := hrel
    by_cases hkn : (k : Int) < (n : Int) - 1 - k
    · obtain ⟨r, hp, hr, ht⟩ := HH.out
      have hrl : r.length = n := by rw [hp.length_eq, ← HN.out]
      obtain ⟨j, hj⟩ : ∃ j, j = n - 1 - k := ⟨_, rfl⟩
      have hjn : j < n := by omega
      have hkn' : k < n := by omega
      have hjI : (n : Int) - 1 - k = (j : Int) := by omega
      obtain ⟨x, hx⟩ : ∃ x, r[k]? = some x := ⟨_, List.getElem?_eq_getElem (by omega)⟩
      obtain ⟨y, hy⟩ : ∃ y, r[j]? = some y := ⟨_, List.getElem?_eq_getElem (by omega)⟩
      unfold RowA at hr
      rw [hrl] at hr
      have hfl := flatA_length r
      obtain ⟨a0, a1, a2, a3, a4⟩ := flatA_get r k x hx
      obtain ⟨b0, b1, b2, b3, b4⟩ := flatA_get r j y hy
      have c0 := (World.ownsRow.cellAt hr (k * 5) (by omega)).trans a0
      have c1 := (World.ownsRow.cellAt hr (k * 5 + 1) (by omega)).trans a1
      have c2 := (World.ownsRow.cellAt hr (k * 5 + 2) (by omega)).trans a2
      have c3 := (World.ownsRow.cellAt hr (k * 5 + 3) (by omega)).trans a3
      have c4 := (World.ownsRow.cellAt hr (k * 5 + 4) (by omega)).trans a4
      have d0 := (World.ownsRow.cellAt hr (j * 5) (by omega)).trans b0
      have d1 := (World.ownsRow.cellAt hr (j * 5 + 1) (by omega)).trans b1
      have d2 := (World.ownsRow.cellAt hr (j * 5 + 2) (by omega)).trans b2
      have d3 := (World.ownsRow.cellAt hr (j * 5 + 3) (by omega)).trans b3
      have d4 := (World.ownsRow.cellAt hr (j * 5 + 4) (by omega)).trans b4
      have f0 := hr.frozenAt (k * 5)
      have f1 := hr.frozenAt (k * 5 + 1)
      have f2 := hr.frozenAt (k * 5 + 2)
      have f3 := hr.frozenAt (k * 5 + 3)
      have f4 := hr.frozenAt (k * 5 + 4)
      have hr1 := row_put5 (p := y) hr hrl hkn'
      have hrl1 : (r.set k y).length = n := by rw [List.length_set, hrl]
      unfold RowA at hr1
      rw [hrl1] at hr1
      obtain ⟨p', hp'⟩ : ∃ p', (r.set k y)[j]? = some p' := ⟨_, List.getElem?_eq_getElem (by omega)⟩
      obtain ⟨z0, z1, z2, z3, z4⟩ := flatA_get (r.set k y) j p' hp'
      have hfl1 := flatA_length (r.set k y)
      have g0 := (World.ownsRow.cellAt hr1 (j * 5) (by omega)).trans z0
      have g1 := (World.ownsRow.cellAt hr1 (j * 5 + 1) (by omega)).trans z1
      have g2 := (World.ownsRow.cellAt hr1 (j * 5 + 2) (by omega)).trans z2
      have g3 := (World.ownsRow.cellAt hr1 (j * 5 + 3) (by omega)).trans z3
      have g4 := (World.ownsRow.cellAt hr1 (j * 5 + 4) (by omega)).trans z4
      have k0 := hr1.frozenAt (j * 5)
      have k1 := hr1.frozenAt (j * 5 + 1)
      have k2 := hr1.frozenAt (j * 5 + 2)
      have k3 := hr1.frozenAt (j * 5 + 3)
      have k4 := hr1.frozenAt (j * 5 + 4)
      have hr2 := row_put5 (p := x) hr1 hrl1 hjn
      have HF := Lib.hid (show ∃ r', r'.Perm q ∧ RowA base (put5 (put5 wr g (k * 5) y) g (j * 5) x) (some ⟨g, 0, none⟩) c r' ∧ Turn (fun i => i = g) w (put5 (put5 wr g (k * 5) y) g (j * 5) x) from
        ⟨_, (swap_perm r k j hx hy).trans hp, hr2, (ht.trans (put5_turn _ _ _ _) (fun i hi => .inl hi)).trans (put5_turn _ _ _ _) (fun i hi => .inl hi)⟩)
      have i0 : (0 : Int) ≤ k := by omega
      have iN : (k : Int) < n := by omega
      have j0 : (0 : Int) ≤ j := by omega
      have jN : (j : Int) < n := by omega
      have t1 : decide (k < j) = true := by simp; omega
      have HJ := Lib.hid hj
      obtain ⟨W2, hW2⟩ : ∃ W2, W2 = put5 (put5 wr g (k * 5) y) g (j * 5) x := ⟨_, rfl⟩
      rw [← hW2] at HF
      unfold put5 at hW2 g0 g1 g2 g3 g4 k0 k1 k2 k3 k4
      have HW2 := Lib.hid hW2
      have HFd := Lib.hid (show ∃ r, r.Perm q ∧ RowA base W2.drew (some ⟨g, 0, none⟩) c r ∧ Turn (fun i => i = g) w W2.drew from by
        obtain ⟨r, h1, h2, h3⟩ := HF.out
        exact ⟨r, h1, h2, h3.drew⟩)
      clear hW2
      rw [hjI]
      clear hp hr ht hrl hx hy hfl a0 a1 a2 a3 a4 b0 b1 b2 b3 b4 hr1 hrl1 hp' hfl1 z0 z1 z2 z3 z4 hr2 hkn hjI hj
      have HC := Lib.hid (And.intro (And.intro c0 (And.intro c1 (And.intro c2 (And.intro c3 c4)))) (And.intro (And.intro d0 (And.intro d1 (And.intro d2 (And.intro d3 d4)))) (And.intro f0 (And.intro f1 (And.intro f2 (And.intro f3 f4))))))
      have HG := Lib.hid (And.intro (And.intro g0 (And.intro g1 (And.intro g2 (And.intro g3 g4)))) (And.intro k0 (And.intro k1 (And.intro k2 (And.intro k3 k4)))))
      clear c0 c1 c2 c3 c4 d0 d1 d2 d3 d4 f0 f1 f2 f3 f4 g0 g1 g2 g3 g4 k0 k1 k2 k3 k4
      obtain ⟨⟨xu, xi, xb, xf, xx⟩, xB, xc⟩ := x
      obtain ⟨⟨yu, yi, yb, yf, yx⟩, yB, yc⟩ := y
      dsimp only at HC HG HW2
      generalize xx.length = xn at *
      generalize yx.length = yn at *
      go_wp2
      obtain ⟨⟨c0, c1, c2, c3, c4⟩, ⟨d0, d1, d2, d3, d4⟩, f0, f1, f2, f3, f4⟩ := HC.out
      obtain ⟨⟨g0, g1, g2, g3, g4⟩, k0, k1, k2, k3, k4⟩ := HG.out
      clear HC HG
      go_region
      all_goals (
        clear c0 c1 c2 c3 c4 d0 d1 d2 d3 d4 f0 f1 f2 f3 f4 g0 g1 g2 g3 g4 k0 k1 k2 k3 k4
        rw [← HW2.out]
        go_wp2
        go_roundw
        case rel =>
          refine ⟨k + 1, by omega, by go_num, ?jj, HFd⟩
          case jj =>
            have hj3 : (j : Int) - 1 = (n : Int) - 1 - ((k + 1 : Nat) : Int) := by have := HJ.out; omega
            rw [hj3]
        case measure => simp [intOf]; omega)
    · have t1 : decide ((k : Int) < (n : Int) - 1 - k) = false := by simpa using hkn
      go_wp2
      go_end0
      exact ⟨rfl, HH.out⟩

theorem reverseN_any (w : World) :
    Calls Try.prog 38 #[.slice none 0 0] w fun e w' => e = .returned (.tuple #[]) ∧ w' = w := by
  go_enter Try.func38, Try.ntmps38
  go_wp2
  go_loopw [2, 3] (fun i j wr => i = .int .i64 0 ∧ j = .int .i64 (-1) ∧ wr = w) (fun i _ _ => 1 - (intOf i).toNat)
  case atStart => exact ⟨rfl, rfl, rfl⟩
  case round =>
    obtain ⟨rfl, rfl, rfl⟩ := hrel
    go_wp2
    go_end0
    exact ⟨rfl, rfl⟩
theorem reverse_any (base : Nat) (A : Option Addr) (c : Nat) (q : List Pa) (w : World) (h : RowA base w A c q) :
    Calls Try.prog 38 #[.slice A q.length c] w fun e w' => e = .returned (.tuple #[]) ∧ ∃ r, r.Perm q ∧ RowA base w' A c r ∧ Turn (fun i => blk A = some i) w w' := by
  have hh0 := h
  rcases hh0.2 with ⟨e, hq0⟩ | ⟨g, cap, cur, e, hg, hh, _⟩
  · injection e with e1 _ e2
    subst e1 e2
    have hqn : q = [] := List.eq_nil_of_length_eq_zero hq0
    subst hqn
    refine (reverseN_any w).mono ?_
    rintro e w' ⟨rfl, rfl⟩
    exact ⟨rfl, [], List.Perm.refl _, h, Turn.refl _ _⟩
  · injection e with e1 _ e2
    subst e1
    refine (reverseC_any base g c q w h).mono ?_
    rintro e w' ⟨rfl, r, h1, h2, h3⟩
    exact ⟨rfl, r, h1, h2, h3.mono (fun i hi => by show Option.map _ _ = _; simp [hi])⟩

end Go.Proofs.Ytdbcecmlakgknaa
