/-
  TopRef, TopSort, TopRef2.
-/
import Derived.Test.YtcekgllahlhaaaaGreatMTop
namespace Go.Proofs.YtcekgllahlhaaaaGreat
namespace TopL
open Go.RowKit Go.Shelf
set_option linter.unusedVariables false
set_option linter.unusedSimpArgs false
set_option maxRecDepth 100000

set_option maxHeartbeats 1000000 in
theorem rSame_any (A A' : Option Addr) (c c' : Nat) (a b : List HitM) (w : World) (ha : Hits w A c a) (hb : Hits w A' c' b) :
    Calls Tryz.prog 20 #[.slice A a.length c, .slice A' b.length c'] w fun e w' => e = .returned (.bool (decide (a = b))) ∧ Below w.heap.size w w' := by
  by_cases hl : b.length = a.length
  · obtain ⟨R, hR⟩ : ∃ R, R = decide (a = b) := ⟨_, rfl⟩
    rw [hl, ← hR]
    obtain ⟨m, hm⟩ : ∃ m, m = a.length := ⟨_, rfl⟩
    have hmx : m ≤ 9223372036854775807 := by rw [hm]; exact Nat.le_trans ha.room ha.most
    rw [← hm]
    have HA := Lib.hid ha
    have HB := Lib.hid hb
    have HM := Lib.hid hm
    have HL := Lib.hid hl
    have HR := Lib.hid hR
    clear ha hb hm hl hR
    go_enter Tryz.func20, Tryz.ntmps20
    go_wp2
    go_loopw [5, 13] (fun _ i wr => ∃ k q : Nat, k ≤ m ∧ i = .int .i64 k ∧ wr = w.drewN q ∧ Hid (a.take k = b.take k)) (fun _ i _ => m - (intOf i).toNat)
    case atStart => exact ⟨0, 0, Nat.zero_le _, rfl, rfl, Lib.hid rfl⟩
    case round =>
      obtain ⟨k, q, hk, rfl, rfl, HK⟩ := hrel
      by_cases hkm : k < m
      · obtain ⟨g1, o1, rfl, _, hc1, hc2⟩ := HA.out.at_ (j := k) (by rw [← HM.out]; exact hkm)
        obtain ⟨g2, o2, rfl, _, hc3, hc4⟩ := HB.out.at_ (j := k) (by rw [HL.out, ← HM.out]; exact hkm)
        have hx := hgetD_some (a := a) (k := k) (by rw [← HM.out]; exact hkm)
        have hy := hgetD_some (a := b) (k := k) (by rw [HL.out, ← HM.out]; exact hkm)
        have k0 : (0 : Int) ≤ k := by omega
        have km : (k : Int) < m := by omega
        generalize a.getD k z2 = x at *
        generalize b.getD k z2 = y at *
        by_cases hxy : x = y
        · have HS := Lib.hid (htake_snoc HK.out hx hy hxy)
          subst hxy
          obtain ⟨x1, x2⟩ := x
          dsimp only at *
          clear hx hy
          go_wp2
          go_quiet (fail)
          go_wp2
          go_roundw
          case rel => exact ⟨k + 1, q + nq, by omega, by go_num, by simp [World.drewN], HS⟩
          case measure => simp [intOf]; omega
        · have HF := Lib.hid (show R = false by rw [HR.out]; exact decide_eq_false (fun e => by subst e; rw [hx] at hy; cases hy; exact hxy rfl))
          obtain ⟨x1, x2⟩ := x
          obtain ⟨y1, y2⟩ := y
          dsimp only at *
          have hne : ¬ (x1 = y1 ∧ x2 = y2) := fun e => hxy (by rw [e.1, e.2])
          clear hx hy hxy
          by_cases h1 : x1 = y1
          · subst h1
            have u1 : (x2 == y2) = false := by simp at hne; simpa using hne
            clear hne
            go_wp2
            go_quiet (fail)
            go_wp2
            go_ret
            rw [HF.out]
            exact ⟨rfl, below_drewN (below_drewN (Below.refl _ _) _) _⟩
          · have u1 : (x1 == y1) = false := by simpa using h1
            clear hne h1
            go_wp2
            go_quiet (fail)
            go_wp2
            go_ret
            rw [HF.out]
            exact ⟨rfl, below_drewN (below_drewN (Below.refl _ _) _) _⟩
      · obtain rfl : k = m := by omega
        have HT := Lib.hid (show R = true by
          rw [HR.out]
          refine decide_eq_true ?_
          have := HK.out
          rw [HM.out, List.take_length, ← HL.out, List.take_length] at this
          exact this)
        go_wp2
        go_ret
        rw [HT.out]
        exact ⟨rfl, below_drewN (Below.refl _ _) _⟩
  · have HT := Lib.hid (show decide (a = b) = false from decide_eq_false (fun e => hl (by rw [e])))
    generalize decide (a = b) = R at *
    generalize a.length = n at *
    generalize b.length = m at *
    have t2 : ((n : Int) != (m : Int)) = true := by simp; omega
    have t3 : ((n : Int) == (m : Int)) = false := by simp; omega
    have t4 : (n == m) = false := by simp; omega
    clear hl ha hb
    go_enter Tryz.func20, Tryz.ntmps20
    go_wp2
    go_ret
    rw [HT.out]
    exact ⟨rfl, Below.refl _ _⟩

set_option maxHeartbeats 400000 in
theorem rAhead_any (a b : HitM) (w : World) : Calls Tryz.prog 133 #[.agg #[.int .u64 a.1, .int .u64 a.2], .agg #[.int .u64 b.1, .int .u64 b.2]] w fun e w' => e = .returned (.bool (ahead a b)) ∧ Below w.heap.size w w' := by
  obtain ⟨i, d⟩ := a
  obtain ⟨i', d'⟩ := b
  dsimp only
  have hb : Below w.heap.size w ((w.alloc (.cells #[.int .u64 i, .int .u64 d] 63)).alloc (.cells #[.int .u64 i', .int .u64 d'] 63)) := ((Below.refl _ w).alloc (Nat.le_refl _) _).alloc (by simp) _
  have HB := Lib.hid hb
  clear hb
  by_cases h1 : d < d'
  · have HF := Lib.hid (show ahead (i, d) (i', d') = true by unfold ahead; simp [h1])
    generalize ahead (i, d) (i', d') = R at *
    go_enter Tryz.func133, Tryz.ntmps133
    go_wp2
    go_ret
    rw [HF.out]
    exact ⟨rfl, HB.out⟩
  · by_cases h2 : d = d'
    · subst h2
      by_cases h3 : i < i'
      · have HF := Lib.hid (show ahead (i, d) (i', d) = true by unfold ahead; simp [h3])
        generalize ahead (i, d) (i', d) = R at *
        have t1 : (d == d) = true := by simp
        go_enter Tryz.func133, Tryz.ntmps133
        go_wp2
        go_ret
        rw [HF.out]
        exact ⟨rfl, HB.out⟩
      · have HF := Lib.hid (show ahead (i, d) (i', d) = false by unfold ahead; simp [h3])
        generalize ahead (i, d) (i', d) = R at *
        have t1 : (d == d) = true := by simp
        go_enter Tryz.func133, Tryz.ntmps133
        go_wp2
        go_ret
        rw [HF.out]
        exact ⟨rfl, HB.out⟩
    · have HF := Lib.hid (show ahead (i, d) (i', d') = false by unfold ahead; simp [h1, h2])
      generalize ahead (i, d) (i', d') = R at *
      have t1 : (d == d') = false := by simpa using h2
      go_enter Tryz.func133, Tryz.ntmps133
      go_wp2
      go_ret
      rw [HF.out]
      exact ⟨rfl, HB.out⟩

/-! ### where one is put -/
theorem ins_at {h : HitM} {s : List HitM} {j : Nat} (hj : j ≤ s.length) (h1 : ∀ i, i < j → ahead h (s.getD i z2) = false) (h2 : j < s.length → ahead h (s.getD j z2) = true) : ins h s = s.take j ++ h :: s.drop j := by
  induction s generalizing j with
  | nil =>
    obtain rfl : j = 0 := by simpa using hj
    rfl
  | cons x s ih =>
    unfold ins
    cases j with
    | zero =>
      have := h2 (by simp)
      have e : (x :: s).getD 0 z2 = x := rfl
      rw [e] at this
      rw [if_pos this]
      rfl
    | succ j =>
      have h0 := h1 0 (by omega)
      have e : (x :: s).getD 0 z2 = x := rfl
      rw [e] at h0
      rw [if_neg (by rw [h0]; simp), List.take_succ_cons, List.drop_succ_cons, List.cons_append]
      congr 1
      refine ih (by simpa using hj) (fun i hi => ?_) (fun hlt => ?_)
      · have := h1 (i + 1) (by omega)
        simpa [List.getD] using this
      · have := h2 (by simpa using hlt)
        simpa [List.getD] using this
theorem put_length (s : List HitM) (h : HitM) (j : Nat) (hj : j ≤ s.length) : (s.take j ++ h :: s.drop j).length = s.length + 1 := by
  simp; omega
theorem put_swap (s : List HitM) (h : HitM) (j : Nat) (hj : j + 1 ≤ s.length) : swp (s.take (j + 1) ++ h :: s.drop (j + 1)) (j + 1) j = s.take j ++ h :: s.drop j := by
  have hx : s[j]? = some (s.getD j z2) := hgetD_some (by omega)
  have e1 : s.take (j + 1) = s.take j ++ [s.getD j z2] := by rw [List.take_add_one, hx]; rfl
  have e2 : s.drop j = s.getD j z2 :: s.drop (j + 1) := by
    rw [List.drop_eq_getElem_cons (by omega)]
    congr 1
    simp [List.getD, show j < s.length by omega]
  have lt : (s.take j).length = j := by simp; omega
  generalize s.getD j z2 = y at *
  rw [e1, e2]
  generalize s.take j = a at *
  generalize s.drop (j + 1) = b at *
  subst lt
  unfold swp
  have g1 : (a ++ [y] ++ h :: b).getD a.length z2 = y := by simp [List.getD]
  have g2 : (a ++ [y] ++ h :: b).getD (a.length + 1) z2 = h := by simp [List.getD, List.getElem?_append]
  rw [g1, g2, List.append_assoc, List.set_append_right _ _ (by omega), List.set_append_right _ _ (by omega)]
  simp

def OwnH (w : World) (v : Value) (w' : World) (L : List HitM) : Prop := ∃ B cb, v = .slice B L.length cb ∧ w'.ownsRow w.heap.size 63 2 (.slice B L.length cb) L.length (flat L) ∧ Below w.heap.size w w'
end TopL
end Go.Proofs.YtcekgllahlhaaaaGreat

namespace Go.Proofs.YtcekgllahlhaaaaGreat
namespace TopL
open Go.RowKit Go.Shelf
set_option linter.unusedVariables false
set_option linter.unusedSimpArgs false
set_option maxRecDepth 100000

theorem row_form {w : World} {base : Nat} {e : TypeId} {A : Option Addr} {c n : Nat} {xs : List Value} (h : w.ownsRow base e 2 (.slice A n c) n xs) (hn : 0 < n) : ∃ g, A = some ⟨g, 0, none⟩ ∧ base ≤ g ∧ g < w.heap.size := by
  obtain ⟨g, cap, e1, h1, h2⟩ := h.form hn
  injection e1 with e1
  exact ⟨g, e1, h1, h2⟩
theorem grown_drew {w w' : World} {row : Option Nat} (h : w.grownBy w' row) : w.grownBy w'.drew row := ⟨h.os, h.tape, h.output, h.size, h.block⟩
theorem grown_below {w w' : World} {g B : Nat} (h : w.grownBy w' (some g)) (hg : B ≤ g) (hB : B ≤ w.heap.size) : Below B w w' :=
  ⟨h.os, h.tape, h.output, h.size, fun i hi => h.block i (by omega) (by intro e; injection e with e; omega)⟩
theorem so_app {w wa W1 : World} {A A1 : Option Addr} {c c1 m : Nat} {s : List HitM} {x : HitM} (hm : s.length = m) (hr : wa.ownsRow w.heap.size 63 2 (.slice A m c) m (flat s)) (hb : Below w.heap.size w wa)
    (ho : W1.ownsRow w.heap.size 63 2 (.slice A1 (m + 1) c1) (m + 1) (flat s ++ flat [x])) (hg : wa.grownBy W1 (blk A)) :
    W1.ownsRow w.heap.size 63 2 (.slice A1 (m + 1) c1) (m + 1) (flat (s.take m ++ x :: s.drop m)) ∧ Below w.heap.size w W1 := by
  refine ⟨?_, hb.trans ⟨hg.os, hg.tape, hg.output, hg.size, fun i hi => hg.block i (Nat.lt_of_lt_of_le hi hb.size) (fun e => ?_)⟩⟩
  · rw [← hm, List.take_length, List.drop_length, flat_append, hm]; exact ho
  · have := hr.lt i (by rw [own_blk]; exact e.symm)
    omega
/-- What the exchange of two places reads and writes. -/
theorem sw_facts {w : World} {base g cap : Nat} {l : List HitM} (h : w.ownsRow base 63 2 (.slice (some ⟨g, 0, none⟩) l.length cap) l.length (flat l)) (i j : Nat) (hi : i < l.length) (hj : j < l.length) :
    w.cell? ⟨g, i * 2, none⟩ = some (.int .u64 (l.getD i z2).1) ∧ w.cell? ⟨g, i * 2 + 1, none⟩ = some (.int .u64 (l.getD i z2).2) ∧ w.cell? ⟨g, j * 2, none⟩ = some (.int .u64 (l.getD j z2).1) ∧ w.cell? ⟨g, j * 2 + 1, none⟩ = some (.int .u64 (l.getD j z2).2) ∧
    w.frozen? ⟨g, i * 2, none⟩ = false ∧ w.frozen? ⟨g, i * 2 + 1, none⟩ = false ∧
    ((w.setCell ⟨g, i * 2, none⟩ (.int .u64 (l.getD j z2).1)).setCell ⟨g, i * 2 + 1, none⟩ (.int .u64 (l.getD j z2).2)).cell? ⟨g, j * 2, none⟩ = some (.int .u64 ((l.set i (l.getD j z2)).getD j z2).1) ∧
    ((w.setCell ⟨g, i * 2, none⟩ (.int .u64 (l.getD j z2).1)).setCell ⟨g, i * 2 + 1, none⟩ (.int .u64 (l.getD j z2).2)).cell? ⟨g, j * 2 + 1, none⟩ = some (.int .u64 ((l.set i (l.getD j z2)).getD j z2).2) ∧
    ((w.setCell ⟨g, i * 2, none⟩ (.int .u64 (l.getD j z2).1)).setCell ⟨g, i * 2 + 1, none⟩ (.int .u64 (l.getD j z2).2)).frozen? ⟨g, j * 2, none⟩ = false ∧
    ((w.setCell ⟨g, i * 2, none⟩ (.int .u64 (l.getD j z2).1)).setCell ⟨g, i * 2 + 1, none⟩ (.int .u64 (l.getD j z2).2)).frozen? ⟨g, j * 2 + 1, none⟩ = false ∧
    ((((w.setCell ⟨g, i * 2, none⟩ (.int .u64 (l.getD j z2).1)).setCell ⟨g, i * 2 + 1, none⟩ (.int .u64 (l.getD j z2).2)).setCell ⟨g, j * 2, none⟩ (.int .u64 (l.getD i z2).1)).setCell ⟨g, j * 2 + 1, none⟩ (.int .u64 (l.getD i z2).2)).ownsRow base 63 2 (.slice (some ⟨g, 0, none⟩) l.length cap) l.length (flat (swp l i j)) ∧
    w.grownBy ((((w.setCell ⟨g, i * 2, none⟩ (.int .u64 (l.getD j z2).1)).setCell ⟨g, i * 2 + 1, none⟩ (.int .u64 (l.getD j z2).2)).setCell ⟨g, j * 2, none⟩ (.int .u64 (l.getD i z2).1)).setCell ⟨g, j * 2 + 1, none⟩ (.int .u64 (l.getD i z2).2)) (some g) := by
  have ci := flat_get l i hi
  have cj := flat_get l j hj
  have h1 := row_set h i (l.getD j z2)
  have hl1 : j < (l.set i (l.getD j z2)).length := by simpa using hj
  have cj' := flat_get (l.set i (l.getD j z2)) j hl1
  have h2 := row_set h1.1 j (l.getD i z2)
  have hS : (l.set i (l.getD j z2)).set j (l.getD i z2) = swp l i j := rfl
  rw [hS, swp_length] at h2
  exact ⟨(h.cellAt (i * 2) (by omega)).trans ci.1, (h.cellAt (i * 2 + 1) (by omega)).trans ci.2, (h.cellAt (j * 2) (by omega)).trans cj.1, (h.cellAt (j * 2 + 1) (by omega)).trans cj.2, h.frozenAt _, h.frozenAt _,
    (h1.1.cellAt (j * 2) (by omega)).trans cj'.1, (h1.1.cellAt (j * 2 + 1) (by omega)).trans cj'.2, h1.1.frozenAt _, h1.1.frozenAt _, h2.1, h1.2.trans h2.2⟩

set_option maxHeartbeats 4000000 in
theorem rSorted_any (A0 : Option Addr) (c0 : Nat) (l : List HitM) (w : World) (h : Hits w A0 c0 l) (hbig : l.length ≤ 1000000000) :
    Calls Tryz.prog 111 #[.slice A0 l.length c0] w fun e w' => ∃ v, e = .returned v ∧ OwnH w v w' (sortM l) := by
  obtain ⟨n, hn⟩ : ∃ n, n = l.length := ⟨_, rfl⟩
  have HH := Lib.hid h
  have HN := Lib.hid hn
  rw [← hn] at hbig ⊢
  clear h hn
  go_enter Tryz.func111, Tryz.ntmps111
  go_wp2
  go_loopw [3, 5, 6, 7, 10] (fun o _ _ _ i wr => ∃ (k : Nat) (A : Option Addr) (c : Nat), k ≤ n ∧ i = .int .i64 k ∧ o = .slice A (sortM (l.take k)).length c ∧ Hid (wr.ownsRow w.heap.size 63 2 (.slice A (sortM (l.take k)).length c) (sortM (l.take k)).length (flat (sortM (l.take k))) ∧ Below w.heap.size w wr)) (fun _ _ _ _ i _ => n - (intOf i).toNat)
  case atStart => exact ⟨0, none, 0, Nat.zero_le _, rfl, rfl, Lib.hid ⟨World.ownsRow_nil _ _ _ _, Below.refl _ _⟩⟩
  case round =>
    obtain ⟨k, A, c, hk, rfl, rfl, HK⟩ := hrel
    by_cases hkn : k < n
    · obtain ⟨b, o, rfl, hb, hc1, hc2⟩ := HH.out.at_ (j := k) (by rw [← HN.out]; exact hkn)
      have hx := hgetD_some (a := l) (k := k) (by rw [← HN.out]; exact hkn)
      have HSN := Lib.hid (show sortM (l.take (k + 1)) = ins (l.getD k z2) (sortM (l.take k)) by rw [List.take_add_one, hx]; exact sort_snoc _ _)
      have HLS := Lib.hid (show (sortM (l.take k)).length ≤ 1000000000 by rw [sort_length, List.length_take]; omega)
      have e1 := (HK.out.2.cell (p := ⟨b, o + k * 2, none⟩) hb).trans hc1
      have e2 := (HK.out.2.cell (p := ⟨b, o + k * 2 + 1, none⟩) hb).trans hc2
      generalize l.getD k z2 = y at *
      obtain ⟨y1, y2⟩ := y
      dsimp only at e1 e2
      generalize sortM (l.take k) = s at *
      obtain ⟨m, hm⟩ : ∃ m, s.length = m := ⟨_, rfl⟩
      have HM := Lib.hid hm
      have hrow := HK.out.1
      rw [hm] at hrow HLS ⊢
      have hm9 := HLS.out
      have k0 : (0 : Int) ≤ k := by omega
      have kn : (k : Int) < n := by omega
      have hba := (Below.refl wr.heap.size wr).alloc (Nat.le_refl _) (.cells #[.int .u64 y1, .int .u64 y2] 63)
      have HL0 := Lib.hid (show (wr.alloc (.cells #[.int .u64 y1, .int .u64 y2] 63)).ownsRow w.heap.size 63 2 (.slice A m c) m (flat s) ∧ Below w.heap.size w (wr.alloc (.cells #[.int .u64 y1, .int .u64 y2] 63)) ∧ (wr.alloc (.cells #[.int .u64 y1, .int .u64 y2] 63)).heap[wr.heap.size]? = some (.cells #[.int .u64 y1, .int .u64 y2] 63 (0, 0)) from
        ⟨hrow.alloc _, HK.out.2.trans (hba.mono HK.out.2.size), heap_alloc_new _ _⟩)
      clear hx hc1 hc2 hm hrow hba
      go_wp2
      generalize wr.heap.size = g0 at *
      go_loopw [6] (fun a ws => ∃ j : Nat, j ≤ m ∧ a = .int .i64 j ∧ Hid (∀ i, i < j → ahead (y1, y2) (s.getD i z2) = false) ∧ Hid (ws.ownsRow w.heap.size 63 2 (.slice A m c) m (flat s) ∧ Below w.heap.size w ws ∧ ws.heap[g0]? = some (.cells #[.int .u64 y1, .int .u64 y2] 63 (0, 0)))) (fun a _ => m - (intOf a).toNat)
      case atStart => exact ⟨0, Nat.zero_le _, rfl, Lib.hid (fun i hi => by omega), HL0⟩
      case round =>
        obtain ⟨j, hj, rfl, HJ, HT⟩ := hrel
        by_cases hjm : j < m
        · have hrow := HT.out.1
          obtain ⟨g, hA, _, hgl⟩ := row_form hrow (by omega)
          subst hA
          have hrow2 : wr.ownsRow w.heap.size 63 2 (.slice (some ⟨g, 0, none⟩) s.length c) s.length (flat s) := by rw [HM.out]; exact hrow
          have hg := flat_get s j (by rw [HM.out]; exact hjm)
          have u1 := (hrow2.cellAt (j * 2) (by rw [HM.out]; omega)).trans hg.1
          have u2 := (hrow2.cellAt (j * 2 + 1) (by rw [HM.out]; omega)).trans hg.2
          have b1 : wr.cell? ⟨g0, 0, none⟩ = some (.int .u64 y1) := (cell_of_row _ _ _ _ _ _ HT.out.2.2).trans rfl
          have b2 : wr.cell? ⟨g0, 1, none⟩ = some (.int .u64 y2) := (cell_of_row _ _ _ _ _ _ HT.out.2.2).trans rfl
          have HA := Lib.hid (fun V => rAhead_any (y1, y2) (s.getD j z2) V)
          have HNX := Lib.hid (fun (e : ahead (y1, y2) (s.getD j z2) = false) => show ∀ i, i < j + 1 → ahead (y1, y2) (s.getD i z2) = false from fun i hi => by
            by_cases h : i = j
            · subst h; exact e
            · exact HJ.out i (by omega))
          have j0 : (0 : Int) ≤ j := by omega
          have jm : (j : Int) < m := by omega
          have t1 : decide ((j : Int) < (m : Int)) = true := by simp; omega
          generalize hsj : s.getD j z2 = x at *
          have HSJ := Lib.hid hsj
          obtain ⟨x1, x2⟩ := x
          dsimp only at u1 u2 HA
          clear hrow hrow2 hg hsj
          cases hah : ahead (y1, y2) (x1, x2) with
          | false =>
            rw [hah] at HA
            have HN1 := Lib.hid (HNX.out hah)
            clear hah
            go_wp2
            refine wp_region_still_tail 10 (by kernel_rfl) (by kernel_rfl) ?_
            simp only [List.take_succ_cons, List.take_zero, List.drop_succ_cons, List.drop_zero]
            change wpStill _ _ wr.drew _ _ _
            still_step
            still_step
            still_step
            still_step
            still_step
            still_step
            still_step
            still_step
            still_step
            still_step
            refine wpStill_nil ?_
            go_wp2_with fail
            refine (HA.out _).mono ?_
            rintro e w1 ⟨rfl, hb1⟩
            have hbw := (below_drew (Below.refl wr.heap.size wr)).trans hb1
            have HT1 := Lib.hid (show w1.ownsRow w.heap.size 63 2 (.slice (some ⟨g, 0, none⟩) m c) m (flat s) ∧ Below w.heap.size w w1 ∧ w1.heap[g0]? = some (.cells #[.int .u64 y1, .int .u64 y2] 63 (0, 0)) from
              ⟨row_turn HT.out.1 (S := fun _ => False) (Turn.of_below hbw) (by simp), HT.out.2.1.trans (hbw.mono HT.out.2.1.size), (hbw.block _ (lt_of_block HT.out.2.2)).trans HT.out.2.2⟩)
            clear hb1 hbw
            go_wp2
            go_roundw
            case rel => exact ⟨j + 1, by omega, by go_num, HN1, HT1⟩
            case measure => simp [intOf]; omega
          | true =>
            rw [hah] at HA
            have HIX := Lib.hid (show ins (y1, y2) s = s.take j ++ (y1, y2) :: s.drop j from ins_at (by rw [HM.out]; exact hj) HJ.out (fun _ => by rw [HSJ.out]; exact hah))
            clear hah
            go_wp2
            refine wp_region_still_tail 10 (by kernel_rfl) (by kernel_rfl) ?_
            simp only [List.take_succ_cons, List.take_zero, List.drop_succ_cons, List.drop_zero]
            change wpStill _ _ wr.drew _ _ _
            still_step
            still_step
            still_step
            still_step
            still_step
            still_step
            still_step
            still_step
            still_step
            still_step
            refine wpStill_nil ?_
            go_wp2_with fail
            refine (HA.out _).mono ?_
            rintro e w1 ⟨rfl, hb1⟩
            have hbw := (below_drew (Below.refl wr.heap.size wr)).trans hb1
            have HT := Lib.hid (show w1.ownsRow w.heap.size 63 2 (.slice (some ⟨g, 0, none⟩) m c) m (flat s) ∧ Below w.heap.size w w1 ∧ w1.heap[g0]? = some (.cells #[.int .u64 y1, .int .u64 y2] 63 (0, 0)) from
              ⟨row_turn HT.out.1 (S := fun _ => False) (Turn.of_below hbw) (by simp), HT.out.2.1.trans (hbw.mono HT.out.2.1.size), (hbw.block _ (lt_of_block HT.out.2.2)).trans HT.out.2.2⟩)
            clear hb1 hbw u1 u2 b1 b2 hgl
            obtain ⟨A, hAA⟩ : ∃ A, A = (some ⟨g, 0, none⟩ : Option Addr) := ⟨_, rfl⟩
            rw [← hAA] at HT ⊢
            clear hAA
            have hins : ins (y1, y2) s = s.take j ++ (y1, y2) :: s.drop j := HIX.out
            have hapb := (Below.refl w1.heap.size w1).alloc (Nat.le_refl _) (.cells #[.int .u64 y1, .int .u64 y2] 63)
            have HAP := Lib.hid (hits_one (W := w1.alloc (.cells #[.int .u64 y1, .int .u64 y2] 63)) (g := w1.heap.size) (h := (y1, y2)) (cell_laid _ _ _ 0) (cell_laid _ _ _ 1))
            have HRA := Lib.hid (HT.out.1.alloc (.cells #[.int .u64 y1, .int .u64 y2] 63))
            have HBA := Lib.hid (HT.out.2.1.trans (hapb.mono HT.out.2.1.size))
            have x0 : w1.cell? ⟨g0, 0, none⟩ = some (.int .u64 y1) := (cell_of_row _ _ _ _ _ _ HT.out.2.2).trans rfl
            have x1 : w1.cell? ⟨g0, 1, none⟩ = some (.int .u64 y2) := (cell_of_row _ _ _ _ _ _ HT.out.2.2).trans rfl
            have HIN := Lib.hid hins
            have m0 : (0 : Int) ≤ m := by omega
            clear hins hapb
            go_wp2_with (refine happ_at rfl _ _ 49 Tryz.underlying49 rfl w.heap.size A c m (flat s) rfl HRA.out (some ⟨w1.heap.size, 0, none⟩) 1 1 [(y1, y2)] rfl rfl HAP.out (by omega) HBA.out.size ?_; intro A1 c1 W1 hown hgrow hloc hnil; have HW := Lib.hid (show W1.ownsRow w.heap.size 63 2 (.slice A1 (m + 1) c1) (m + 1) (flat (s.take m ++ (y1, y2) :: s.drop m)) ∧ Below w.heap.size w W1 from so_app HM.out HRA.out HBA.out hown hgrow); clear hown hgrow hloc hnil)
            go_loopw [7] (fun b ws => ∃ q : Nat, j ≤ q ∧ q ≤ m ∧ b = .int .i64 q ∧ Hid (ws.ownsRow w.heap.size 63 2 (.slice A1 (m + 1) c1) (m + 1) (flat (s.take q ++ (y1, y2) :: s.drop q)) ∧ Below w.heap.size w ws)) (fun b _ => (intOf b).toNat)
            case atStart => exact ⟨m, hj, Nat.le_refl _, by go_num, HW⟩
            case round =>
              obtain ⟨q, hjq, hqm, rfl, HQ⟩ := hrel
              by_cases hq : j < q
              · obtain ⟨r, hr⟩ : ∃ r, q = r + 1 := ⟨q - 1, by omega⟩
                have hrow := HQ.out.1
                have hlp : (s.take q ++ (y1, y2) :: s.drop q).length = m + 1 := by rw [put_length s (y1, y2) q (by rw [HM.out]; exact hqm), HM.out]
                have hsw : swp (s.take q ++ (y1, y2) :: s.drop q) q r = s.take r ++ (y1, y2) :: s.drop r := by rw [hr]; exact put_swap s (y1, y2) r (by rw [HM.out]; omega)
                obtain ⟨g, hA, hbg, hgl⟩ := row_form hrow (by omega)
                subst hA
                rw [← hlp] at hrow
                have hql : q < (s.take q ++ (y1, y2) :: s.drop q).length := by omega
                have hrl : r < (s.take q ++ (y1, y2) :: s.drop q).length := by omega
                have SF := sw_facts hrow q r hql hrl
                rw [hsw, hlp] at SF
                have HB9 := Lib.hid HQ.out.2
                generalize hP : s.take q ++ (y1, y2) :: s.drop q = P at *
                obtain ⟨c1', c2', c3', c4', f1', f2', c5', c6', f3', f4', ho, hgw⟩ := SF
                generalize P.getD q z2 = p1 at *
                generalize hp2 : P.getD r z2 = p2 at *
                generalize (P.set q p2).getD r z2 = p3 at *
                obtain ⟨p11, p12⟩ := p1
                obtain ⟨p21, p22⟩ := p2
                obtain ⟨p31, p32⟩ := p3
                dsimp only at *
                have HO := Lib.hid (And.intro ho hgw)
                have hix : (q : Int) - 1 = (r : Int) := by omega
                have q0 : (0 : Int) ≤ q := by omega
                have qn : (q : Int) < ((m + 1 : Nat) : Int) := by omega
                have qn2 : (q : Int) < (m : Int) + 1 := by omega
                have r0 : (0 : Int) ≤ r := by omega
                have rn : (r : Int) < ((m + 1 : Nat) : Int) := by omega
                have rn2 : (r : Int) < (m : Int) + 1 := by omega
                have hwr : IntKind.i64.wrap (r : Int) = r := i64_fit (by omega)
                have HWR := Lib.hid hwr
                have t9 : decide ((j : Int) < (q : Int)) = true := by simp; omega
                have hjr : j ≤ r := by omega
                have hrm : r ≤ m := by omega
                have hrq : r < q := by omega
                clear hrow hlp hsw hql hrl ho hgw hP hp2 hr
                go_wp2
                go_region
                all_goals go_wp2
                go_roundw
                case rel => exact ⟨r, hjr, hrm, by first | rfl | go_num, Lib.hid ⟨HO.out.1.drew, HB9.out.trans (grown_below (grown_drew HO.out.2) (by omega) HB9.out.size)⟩⟩
                case measure => simp [intOf, HWR.out]; omega
              · obtain rfl : q = j := by omega
                have HF := Lib.hid (show wr.ownsRow w.heap.size 63 2 (.slice A1 (m + 1) c1) (m + 1) (flat (sortM (l.take (k + 1)))) ∧ (sortM (l.take (k + 1))).length = m + 1 from ⟨by rw [HSN.out, HIN.out]; exact HQ.out.1, by rw [HSN.out, ins_length, HM.out]⟩)
                have t9 : decide ((q : Int) < (q : Int)) = false := by simp
                go_wp2
                go_roundw
                case rel => exact ⟨k + 1, A1, c1, by omega, by go_num, by rw [HF.out.2], Lib.hid ⟨by rw [HF.out.2]; exact HF.out.1, HQ.out.2⟩⟩
                case measure => simp [intOf]; omega
        · obtain rfl : j = m := by omega
          have HIX := Lib.hid (show ins (y1, y2) s = s.take j ++ (y1, y2) :: s.drop j from ins_at (by rw [HM.out]; exact hj) HJ.out (fun h => absurd h (by rw [HM.out]; omega)))
          have b1 : wr.cell? ⟨g0, 0, none⟩ = some (.int .u64 y1) := (cell_of_row _ _ _ _ _ _ HT.out.2.2).trans rfl
          have t1 : decide ((j : Int) < (j : Int)) = false := by simp
          go_wp2
          go_quiet (fail)
          have HT2 := Lib.hid (show (wr.drewN nq).ownsRow w.heap.size 63 2 (.slice A j c) j (flat s) ∧ Below w.heap.size w (wr.drewN nq) ∧ (wr.drewN nq).heap[g0]? = some (.cells #[.int .u64 y1, .int .u64 y2] 63 (0, 0)) from
            ⟨HT.out.1, below_drewN HT.out.2.1 _, HT.out.2.2⟩)
          obtain ⟨w1, hw1⟩ : ∃ w1, w1 = wr.drewN nq := ⟨_, rfl⟩
          rw [← hw1] at HT2 ⊢
          clear b1 HT hw1
          have HT := HT2
          have hins : ins (y1, y2) s = s.take j ++ (y1, y2) :: s.drop j := HIX.out
          have hapb := (Below.refl w1.heap.size w1).alloc (Nat.le_refl _) (.cells #[.int .u64 y1, .int .u64 y2] 63)
          have HAP := Lib.hid (hits_one (W := w1.alloc (.cells #[.int .u64 y1, .int .u64 y2] 63)) (g := w1.heap.size) (h := (y1, y2)) (cell_laid _ _ _ 0) (cell_laid _ _ _ 1))
          have HRA := Lib.hid (HT.out.1.alloc (.cells #[.int .u64 y1, .int .u64 y2] 63))
          have HBA := Lib.hid (HT.out.2.1.trans (hapb.mono HT.out.2.1.size))
          have x0 : w1.cell? ⟨g0, 0, none⟩ = some (.int .u64 y1) := (cell_of_row _ _ _ _ _ _ HT.out.2.2).trans rfl
          have x1 : w1.cell? ⟨g0, 1, none⟩ = some (.int .u64 y2) := (cell_of_row _ _ _ _ _ _ HT.out.2.2).trans rfl
          have HIN := Lib.hid hins
          have m0 : (0 : Int) ≤ j := by omega
          clear hins hapb
          go_wp2_with (refine happ_at rfl _ _ 49 Tryz.underlying49 rfl w.heap.size A c j (flat s) rfl HRA.out (some ⟨w1.heap.size, 0, none⟩) 1 1 [(y1, y2)] rfl rfl HAP.out (by omega) HBA.out.size ?_; intro A1 c1 W1 hown hgrow hloc hnil; have HW := Lib.hid (show W1.ownsRow w.heap.size 63 2 (.slice A1 (j + 1) c1) (j + 1) (flat (s.take j ++ (y1, y2) :: s.drop j)) ∧ Below w.heap.size w W1 from so_app HM.out HRA.out HBA.out hown hgrow); clear hown hgrow hloc hnil)
          go_loopw [7] (fun b ws => ∃ q : Nat, j ≤ q ∧ q ≤ j ∧ b = .int .i64 q ∧ Hid (ws.ownsRow w.heap.size 63 2 (.slice A1 (j + 1) c1) (j + 1) (flat (s.take q ++ (y1, y2) :: s.drop q)) ∧ Below w.heap.size w ws)) (fun b _ => (intOf b).toNat)
          case atStart => exact ⟨j, Nat.le_refl _, Nat.le_refl _, by go_num, HW⟩
          case round =>
            obtain ⟨q, hjq, hqm, rfl, HQ⟩ := hrel
            obtain rfl : q = j := by omega
            have HF := Lib.hid (show wr.ownsRow w.heap.size 63 2 (.slice A1 (q + 1) c1) (q + 1) (flat (sortM (l.take (k + 1)))) ∧ (sortM (l.take (k + 1))).length = q + 1 from ⟨by rw [HSN.out, HIN.out]; exact HQ.out.1, by rw [HSN.out, ins_length, HM.out]⟩)
            have t9 : decide ((q : Int) < (q : Int)) = false := by simp
            go_wp2
            go_roundw
            case rel => exact ⟨k + 1, A1, c1, by omega, by go_num, by rw [HF.out.2], Lib.hid ⟨by rw [HF.out.2]; exact HF.out.1, HQ.out.2⟩⟩
            case measure => simp [intOf]; omega
    · obtain rfl : k = n := by omega
      have HF := Lib.hid (show sortM (l.take k) = sortM l by rw [HN.out, List.take_length])
      go_wp2
      go_ret
      rw [HF.out] at HK
      exact ⟨_, rfl, A, c, (by first | rfl | (simp only [HF.out]; rfl)), HK.out.1, HK.out.2⟩

end TopL
end Go.Proofs.YtcekgllahlhaaaaGreat

namespace Go.Proofs.YtcekgllahlhaaaaGreat
namespace TopL
open Go.RowKit Go.Shelf
set_option linter.unusedVariables false
set_option linter.unusedSimpArgs false
set_option maxRecDepth 100000

theorem row_cut {w : World} {base : Nat} {A : Option Addr} {c m q : Nat} {l : List HitM} (h : w.ownsRow base 63 2 (.slice A m c) m (flat l)) (hm : l.length = m) (hq : q ≤ m) : w.ownsRow base 63 2 (.slice A q c) q (flat (l.take q)) := by
  have hl : (l.take q).length = q := by simp; omega
  rcases h.2 with ⟨e, h0⟩ | ⟨g, cap, cur, e, hg, hh, hnc, hcm, hsz, hcs⟩
  · injection e with e1 e2 e3
    subst h0
    obtain rfl : q = 0 := by omega
    subst e1 e3
    exact ⟨by rw [flat_length, hl], .inl ⟨rfl, rfl⟩⟩
  · injection e with e1 _ e3
    subst e1
    subst e3
    refine ⟨by rw [flat_length, hl], .inr ⟨g, c, cur, rfl, hg, hh, by omega, hcm, hsz, ?_⟩⟩
    have h2 : cur.toList.take (q * 2) = (cur.toList.take (m * 2)).take (q * 2) := by rw [List.take_take]; congr 1; omega
    have h3 : flat l = flat (l.take q) ++ flat (l.drop q) := by rw [← flat_append, List.take_append_drop]
    rw [h2, hcs, h3, List.take_append_of_le_length (by rw [flat_length, hl]; omega), List.take_of_length_le (by rw [flat_length, hl]; omega)]

set_option maxHeartbeats 1000000 in
theorem rFirst_any (A : Option Addr) (c k : Nat) (l : List HitM) (w : World) (h : Hits w A c l) (hbig : l.length ≤ 1000000000) (hk : k ≤ 1000000000) :
    Calls Tryz.prog 76 #[.slice A l.length c, .int .i64 k] w fun e w' => ∃ v, e = .returned v ∧ OwnH w v w' (firstM k l) := by
  have HS := Lib.hid (rSorted_any A c l w h hbig)
  have HM := Lib.hid (sort_length l)
  have HF := Lib.hid (show firstM k l = (sortM l).take k from rfl)
  have HFL := Lib.hid (first_length k l)
  obtain ⟨m, hm⟩ : ∃ m, m = l.length := ⟨_, rfl⟩
  obtain ⟨q, hq⟩ : ∃ q, q = min k m := ⟨_, rfl⟩
  have HQ := Lib.hid hq
  have HMM := Lib.hid hm
  have hmin : min (k : Int) (m : Int) = (q : Int) := by omega
  have hqm : q ≤ m := by omega
  have q0 : (0 : Int) ≤ q := by omega
  rw [← hm] at hbig ⊢
  clear h hq hm
  go_enter Tryz.func76, Tryz.ntmps76
  go_wp2_with fail
  rw [HMM.out]
  refine HS.out.mono ?_
  rintro e w1 ⟨v, rfl, B, cb, rfl, hr, hb⟩
  rw [HM.out, ← HMM.out] at hr ⊢
  have hnc : m ≤ cb := by
    rcases hr.2 with ⟨e, h0⟩ | ⟨g, cap, cur, e, hg, hh, hnc, _⟩
    · omega
    · injection e with _ _ e3; omega
  have qc : q ≤ cb := by omega
  have qci : (q : Int) ≤ cb := by omega
  have HR := Lib.hid (show w1.ownsRow w.heap.size 63 2 (.slice B q cb) q (flat (firstM k l)) by
    have h2 := row_cut hr (by rw [HM.out, ← HMM.out]) hqm
    have h3 : (sortM l).take q = firstM k l := by
      rw [HF.out, HQ.out, HMM.out]
      conv => lhs; rw [← HM.out]
      rw [← List.take_take, List.take_length]
    rw [h3] at h2
    exact h2)
  have HQL := Lib.hid (show (firstM k l).length = q by rw [HFL.out, HQ.out, HMM.out])
  have HB := Lib.hid hb
  clear hr hb
  go_wp2
  go_ret
  exact ⟨_, rfl, B, cb, (by rw [HQL.out]; rfl), (by rw [HQL.out]; exact HR.out), HB.out⟩

end TopL
end Go.Proofs.YtcekgllahlhaaaaGreat
