/-
  Sums of components, a sum divided and rounded down, the mean.
-/
import Derived.Test.YtgakfffkadaeeaaVecAsk
import Derived.Laws.Rows
import Derived.Laws.CopyOwn
import Derived.Deep.OwnRows
import Derived.Deep.Cut
namespace Go.Proofs.Ytgakfffkadaeeaa
open Go.RowKit Go.Shelf
set_option linter.unusedVariables false
set_option maxRecDepth 100000

/-! ### a row of a block, by place -/
def RowAt (W : World) (g : Nat) (t : TypeId) (d : Nat) (V : Nat → Value) : Prop := ∃ cur, W.heap[g]? = some (.cells cur t (0, 0)) ∧ cur.size = d ∧ ∀ j, j < d → cur[j]? = some (V j)
section
variable {W W' : World} {g d : Nat} {t : TypeId} {V V' : Nat → Value}
theorem heap_set {w : World} {d : Nat} {cs : Array Value} {t : TypeId} (h : w.heap[d]? = some (.cells cs t (0, 0))) (i : Nat) (v : Value) : (w.setCell ⟨d, i, none⟩ v).heap[d]? = some (.cells (cs.setIfInBounds i v) t (0, 0)) := by
  simp [World.setCell, Array.getElem?_modify, h]
theorem RowAt.cell (h : RowAt W g t d V) {j : Nat} (hj : j < d) : W.cell? ⟨g, j, none⟩ = some (V j) := by
  obtain ⟨cur, h1, h2, h3⟩ := h
  simp [World.cell?, h1, h3 j hj]
theorem RowAt.frozen (h : RowAt W g t d V) (j : Nat) : W.frozen? ⟨g, j, none⟩ = false := by
  obtain ⟨cur, h1, h2, h3⟩ := h
  simp [World.frozen?, h1]
theorem RowAt.lt (h : RowAt W g t d V) : g < W.heap.size := by obtain ⟨cur, h1, _⟩ := h; exact lt_of_block h1
theorem RowAt.set (h : RowAt W g t d V) (k : Nat) (v : Value) (hV : ∀ j, j < d → V' j = if j = k then v else V j) : RowAt (W.setCell ⟨g, k, none⟩ v) g t d V' := by
  obtain ⟨cur, h1, h2, h3⟩ := h
  refine ⟨_, heap_set h1 k _, by simp [h2], fun j hj => ?_⟩
  rw [Array.getElem?_setIfInBounds, hV j hj]
  by_cases e : k = j
  · subst e; simp [h2, hj]
  · rw [if_neg e, h3 j hj, if_neg (fun e' => e e'.symm)]
theorem RowAt.same (h : RowAt W g t d V) (hb : W'.heap[g]? = W.heap[g]?) : RowAt W' g t d V := by
  obtain ⟨cur, h1, h2, h3⟩ := h
  exact ⟨cur, hb.trans h1, h2, h3⟩
theorem RowAt.later (h : RowAt W g t d V) (hb : Below W.heap.size W W') : RowAt W' g t d V := h.same (hb.block _ h.lt)
theorem RowAt.congr (h : RowAt W g t d V) (hV : ∀ j, j < d → V j = V' j) : RowAt W g t d V' := by
  obtain ⟨cur, h1, h2, h3⟩ := h
  exact ⟨cur, h1, h2, fun j hj => by rw [h3 j hj, hV j hj]⟩
theorem RowAt.four (h : RowAt W g t 4 V) : W.heap[g]? = some (.cells #[V 0, V 1, V 2, V 3] t (0, 0)) := by
  obtain ⟨cur, h1, h2, h3⟩ := h
  rw [h1]
  congr 2
  apply Array.ext_getElem?
  intro i
  match i with
  | 0 => rw [h3 0 (by omega)]; rfl
  | 1 => rw [h3 1 (by omega)]; rfl
  | 2 => rw [h3 2 (by omega)]; rfl
  | 3 => rw [h3 3 (by omega)]; rfl
  | i + 4 => rw [Array.getElem?_eq_none (by omega), Array.getElem?_eq_none (by simp)]
theorem RowAt.of_four {a b c e : Value} (h : W.heap[g]? = some (.cells #[a, b, c, e] t (0, 0))) (h0 : V 0 = a) (h1 : V 1 = b) (h2 : V 2 = c) (h3 : V 3 = e) : RowAt W g t 4 V :=
  ⟨_, h, rfl, fun j hj => by
    match j with
    | 0 => rw [h0]; rfl
    | 1 => rw [h1]; rfl
    | 2 => rw [h2]; rfl
    | 3 => rw [h3]; rfl
    | j + 4 => omega⟩
end

/-! ### plain numbers -/
def colM (l : List (List Int)) (i : Nat) : Int := (l.map (fun x => x.getD i 0)).sum
theorem colM_snoc (l : List (List Int)) {k i : Nat} {x : List Int} (h : l[k]? = some x) : colM (l.take (k + 1)) i = colM (l.take k) i + x.getD i 0 := by
  unfold colM
  rw [List.take_add_one, h]
  simp
theorem colM_le (l : List (List Int)) (i : Nat) (h : ∀ x ∈ l, right x = true) : -(1073741823 * (l.length : Int)) ≤ colM l i ∧ colM l i ≤ 1073741823 * (l.length : Int) := by
  induction l with
  | nil => simp [colM]
  | cons x l ih =>
    have h1 := ih (fun y hy => h y (by simp [hy]))
    have h2 : -1073741823 ≤ x.getD i 0 ∧ x.getD i 0 ≤ 1073741823 := by
      rcases Nat.lt_or_ge i x.length with hi | hi
      · have : x.getD i 0 = x[i] := by simp [List.getD, List.getElem?_eq_getElem hi]
        rw [this]
        exact right_comp (h x (by simp)) _ (List.getElem_mem hi)
      · have : x.getD i 0 = 0 := by simp [List.getD, List.getElem?_eq_none hi]
        omega
    have e : colM (x :: l) i = x.getD i 0 + colM l i := by simp [colM]
    rw [e, List.length_cons]
    omega

theorem floor_neg (s n : Int) (hn : 0 < n) (hs : s < 0) : (s.tmod n < 0 → s / n = s.tdiv n - 1) ∧ (¬ s.tmod n < 0 → s / n = s.tdiv n) ∧ s ≤ s.tdiv n ∧ s.tdiv n ≤ 0 := by
  obtain ⟨a, rfl⟩ : ∃ a, s = -a := ⟨-s, by omega⟩
  have ha : 0 ≤ a := by omega
  rw [Int.neg_tdiv, Int.neg_tmod, Int.tdiv_eq_ediv_of_nonneg ha, Int.tmod_eq_emod_of_nonneg ha]
  have h1 := Int.mul_ediv_add_emod a n
  have r0 := Int.emod_nonneg a (show n ≠ 0 by omega)
  have r1 := Int.emod_lt_of_pos a hn
  have q0 := Int.ediv_nonneg ha (Int.le_of_lt hn)
  have q1 := Int.ediv_le_self n ha
  generalize a / n = q at *
  generalize a % n = r at *
  refine ⟨fun h => ?_, fun h => ?_, by omega, by omega⟩
  · refine ((Int.ediv_emod_unique hn (r := n - r)).2 ⟨?_, by omega, by omega⟩).1
    rw [Int.mul_sub, Int.mul_neg, Int.mul_one]; omega
  · refine ((Int.ediv_emod_unique hn (r := 0)).2 ⟨?_, by omega, by omega⟩).1
    rw [Int.mul_neg]; omega

theorem parted_any (s n : Int) (w : World) (hn : 1 ≤ n) (hn2 : n ≤ 1000000) (h1 : -2000000000000000000 ≤ s) (h2 : s ≤ 2000000000000000000) :
    Calls Try.prog 72 #[.int .i64 s, .int .i64 n] w fun e w' => e = .returned (.int .i64 (s / n)) ∧ w = w' := by
  have t0 : (n == 0) = false := by simp; omega
  rcases Int.lt_or_le s 0 with h | h
  · obtain ⟨f1, f2, f3, f4⟩ := floor_neg s n (by omega) h
    have F1 := Lib.hid f1
    have F2 := Lib.hid f2
    clear f1 f2
    by_cases hm : s.tmod n < 0
    · go_enter Try.func72, Try.ntmps72
      go_wp2
      go_ret
      have e1 : wrap64 (s.tdiv n) = s.tdiv n := by unfold wrap64; omega
      have e2 : wrap64 (s.tdiv n - 1) = s.tdiv n - 1 := by unfold wrap64; omega
      exact ⟨by rw [F1.out hm]; first | rfl | simp only [e1, e2], rfl⟩
    · go_enter Try.func72, Try.ntmps72
      go_wp2
      go_ret
      have e1 : wrap64 (s.tdiv n) = s.tdiv n := by unfold wrap64; omega
      exact ⟨by rw [F2.out hm]; first | rfl | simp only [e1], rfl⟩
  · have r0 := Int.emod_nonneg s (show n ≠ 0 by omega)
    have q0 := Int.ediv_nonneg h (show 0 ≤ n by omega)
    have q1 := Int.ediv_le_self n h
    have hm : ¬ s % n < 0 := by omega
    go_enter Try.func72, Try.ntmps72
    go_wp2
    go_ret
    exact ⟨rfl, rfl⟩

theorem getD_at' {l : List (List Int)} {i : Nat} {x : List Int} (h : l[i]? = some x) : l.getD i [] = x := by simp [List.getD, h]
def sumsV (F : Nat → Int) (j : Nat) : Value := .int .i64 (F j)
/-- The sums behind k rows, and t components of the next one. -/
def partM (l : List (List Int)) (x : List Int) (k t : Nat) (j : Nat) : Int := colM (l.take k) j + (if j < t then x.getD j 0 else 0)

theorem i64_in' {n : Int} (h : -9223372036854775808 ≤ n ∧ n ≤ 9223372036854775807) : wrap64 n = n := by unfold wrap64; omega

set_option maxHeartbeats 1000000 in
theorem sums_any (A : Option Addr) (c : Nat) (l : List (List Int)) (w : World) (hl : Vecs .i32 w A c l) (hr : ∀ x ∈ l, right x = true) (hn : l.length ≤ 1000000) :
    Calls Try.prog 71 #[.slice A l.length c] w fun e w' => e = .returned (.agg #[.int .i64 (colM l 0), .int .i64 (colM l 1), .int .i64 (colM l 2), .int .i64 (colM l 3)]) ∧ Below w.heap.size w w' := by
  obtain ⟨n, hnn⟩ : ∃ n, n = l.length := ⟨_, rfl⟩
  rw [← hnn] at hn ⊢
  have HL := Lib.hid hl
  have HR := Lib.hid hr
  have HN := Lib.hid hnn
  clear hl hr hnn
  go_enter Try.func71, Try.ntmps71
  go_wp2
  obtain ⟨W, hW⟩ : ∃ W, W = (w.alloc (.cells #[.int .i64 0, .int .i64 0, .int .i64 0, .int .i64 0] 85)).alloc (.cells #[.int .i64 0, .int .i64 0, .int .i64 0, .int .i64 0] 85) := ⟨_, rfl⟩
  have hb : Below w.heap.size w W := by rw [hW]; exact ((Below.refl _ w).alloc (Nat.le_refl _) _).alloc (by simp) _
  have hz : W.heap.size = w.heap.size + 2 := by rw [hW]; simp
  have r1 : RowAt W w.heap.size 85 4 (sumsV (fun _ => 0)) := RowAt.of_four (by rw [hW]; exact heap_alloc2_old _ _ _) rfl rfl rfl rfl
  have r2 : RowAt W (w.heap.size + 1) 85 4 (sumsV (fun _ => 0)) := RowAt.of_four (by rw [hW]; exact heap_alloc2_new _ _ _) rfl rfl rfl rfl
  rw [← hW]
  have H0 := Lib.hid (show RowAt W w.heap.size 85 4 (sumsV (fun _ => 0)) ∧ RowAt W (w.heap.size + 1) 85 4 (sumsV (colM (l.take 0))) ∧ Below w.heap.size w W from ⟨r1, r2.congr (fun j _ => by simp [sumsV, colM]), hb⟩)
  clear hW hb r1 r2 hz
  go_loopw [5, 6, 7, 10] (fun _ _ _ i wr => ∃ k : Nat, k ≤ n ∧ i = .int .i64 k ∧ Hid (RowAt wr w.heap.size 85 4 (sumsV (fun _ => 0)) ∧ RowAt wr (w.heap.size + 1) 85 4 (sumsV (colM (l.take k))) ∧ Below w.heap.size w wr)) (fun _ _ _ i _ => n - (intOf i).toNat)
  case atStart => exact ⟨0, Nat.zero_le _, rfl, H0⟩
  case round =>
    obtain ⟨k, hk, rfl, HB⟩ := hrel
    by_cases hkn : k < n
    · obtain ⟨b, o, x, B, cb, rfl, hx, hblt, hc, hvb⟩ := HL.out.at_ (i := k) (by rw [← HN.out]; exact hkn)
      have hcw : wr.cell? ⟨b, o + k, none⟩ = some (.slice B x.length cb) := (HB.out.2.2.cell (p := ⟨b, o + k, none⟩) hblt).trans hc
      have hrx := HR.out x (List.mem_of_getElem? hx)
      have hlx := right_len hrx
      have HRX := Lib.hid (right_comp hrx)
      have HX := Lib.hid hx
      have HVB := Lib.hid hvb
      have HS := Lib.hid (fun j => colM_snoc l (i := j) hx)
      have HCB := Lib.hid (fun j => colM_le (l.take k) j (fun y hy => HR.out y (List.mem_of_mem_take hy)))
      have HKL := Lib.hid (show (l.take k).length = k by rw [List.length_take, ← HN.out]; omega)
      obtain ⟨m, hm⟩ : ∃ m, m = x.length := ⟨_, rfl⟩
      have HM := Lib.hid hm
      rw [← hm] at hcw hlx
      have hm4 := hlx.2
      have H1 := Lib.hid (show RowAt wr w.heap.size 85 4 (sumsV (fun _ => 0)) ∧ RowAt wr (w.heap.size + 1) 85 4 (sumsV (partM l x k 0)) ∧ Below w.heap.size w wr from ⟨HB.out.1, HB.out.2.1.congr (fun j _ => by simp [sumsV, partM]), HB.out.2.2⟩)
      clear hx hvb hc hrx hlx hm
      go_wp2
      obtain ⟨wo, hwo⟩ : ∃ wo : World, wo = wr := ⟨_, rfl⟩
      rw [← hwo] at H1 ⊢
      clear hwo hcw
      go_loopw [6, 7, 16] (fun _ _ i ws => ∃ t : Nat, t ≤ m ∧ i = .int .i64 t ∧ Hid (RowAt ws w.heap.size 85 4 (sumsV (fun _ => 0)) ∧ RowAt ws (w.heap.size + 1) 85 4 (sumsV (partM l x k t)) ∧ Below w.heap.size w ws)) (fun _ _ i _ => m - (intOf i).toNat)
      case atStart => exact ⟨0, Nat.zero_le _, rfl, H1⟩
      case round =>
        obtain ⟨t, ht, rfl, HT⟩ := hrel
        by_cases htm : t < m
        · obtain ⟨b2, o2, rfl, hb2, hc2⟩ := HVB.out.at_ (j := t) (by rw [← HM.out]; exact htm)
          have e1 := (HT.out.2.2.cell (p := ⟨b2, o2 + t, none⟩) hb2).trans hc2
          have e2 := HT.out.2.1.cell (j := t) (by omega)
          have e3 := HT.out.2.1.frozen t
          unfold sumsV at e2
          have hpt : partM l x k t t = colM (l.take k) t := by simp [partM]
          have hbd := HCB.out t
          rw [HKL.out] at hbd
          rw [hpt] at e2
          have hxt : -1073741823 ≤ x.getD t 0 ∧ x.getD t 0 ≤ 1073741823 := by
            have : x.getD t 0 = x[t]'(by rw [← HM.out]; exact htm) := by simp [List.getD, List.getElem?_eq_getElem (show t < x.length by rw [← HM.out]; exact htm)]
            rw [this]
            exact HRX.out _ (List.getElem_mem _)
          have hnx : ∀ j, j < 4 → partM l x k (t + 1) j = if j = t then colM (l.take k) t + x.getD t 0 else partM l x k t j := fun j _ => by
            unfold partM
            by_cases e : j = t
            · subst e; simp
            · rw [if_neg e]
              have : (j < t + 1) = (j < t) := by simp; omega
              simp only [this]
          have HNX := Lib.hid hnx
          obtain ⟨y, hy⟩ : ∃ y, y = x.getD t 0 := ⟨_, rfl⟩
          obtain ⟨s0, hs0⟩ : ∃ s0, s0 = colM (l.take k) t := ⟨_, rfl⟩
          rw [← hy] at e1 hxt HNX
          rw [← hs0] at e2 hbd HNX
          have q1 : -9000000000000000000 ≤ s0 := by omega
          have q2 : s0 ≤ 9000000000000000000 := by omega
          have q3 := hxt.1
          have q4 := hxt.2
          have t4 : (t : Int) < 4 := by omega
          have tn4 : t < 4 := by omega
          have t0 : (0 : Int) ≤ t := by omega
          clear hnx hc2 hb2 hpt hbd hy hs0 hxt
          go_wp2
          go_roundw
          case rel =>
            refine ⟨t + 1, by omega, by go_num, Lib.hid ⟨?_, ?_, ?_⟩⟩
            · exact HT.out.1.same (Below.heap_setCell _ _ _ _ (by simp))
            · exact HT.out.2.1.set t _ (fun j hj => by unfold sumsV; rw [HNX.out j hj]; split <;> rfl)
            · exact HT.out.2.2.setCell (by simp) _
          case measure => simp [intOf]; omega
        · obtain rfl : t = m := by omega
          have HE := Lib.hid (show ∀ j, partM l x k t j = colM (l.take (k + 1)) j from fun j => by
            rw [HS.out j]
            unfold partM
            by_cases e : j < t
            · rw [if_pos e]
            · rw [if_neg e]
              have : x.getD j 0 = 0 := by simp [List.getD, List.getElem?_eq_none (show x.length ≤ j by rw [← HM.out]; omega)]
              rw [this])
          go_wp2
          go_roundw
          case rel => exact ⟨k + 1, by omega, by go_num, Lib.hid ⟨HT.out.1, HT.out.2.1.congr (fun j _ => by unfold sumsV; rw [HE.out j]), HT.out.2.2⟩⟩
          case measure => simp [intOf]; omega
    · obtain rfl : k = n := by omega
      have HE := Lib.hid (show l.take k = l by rw [HN.out, List.take_length])
      have hrow := HB.out.2.1
      rw [HE.out] at hrow
      have hf := hrow.four
      have hf1 := HB.out.1.four
      have HF := Lib.hid hf
      have HF1 := Lib.hid hf1
      unfold sumsV at HF HF1
      clear hrow hf hf1
      go_wp2_with (first | (refine wpList_load_row rfl 85 _ rfl (w.heap.size + 1) rfl 85 _ (0, 0) _ HF.out Try.underlying85 rfl (by kernel_rfl) ?_) | (refine wpList_store_row rfl 85 _ _ rfl w.heap.size _ rfl rfl 85 _ HF1.out (by kernel_rfl) rfl (by simp [Value.oneCell']) ?_))
      refine bodyPost_ret (results_cell_row rfl _ _ w.heap.size 85 _ (0, 0) _ rfl (setRow_heap wr w.heap.size _ _ _ _ HF1.out) Try.underlying85 rfl (by kernel_rfl)) rfl ⟨rfl, ?_⟩
      exact below_setRow HB.out.2.2 (Nat.le_refl _) _

/-! ### the mean -/
def meanM (l : List (List Int)) : List Int := (List.range (l.getD 0 []).length).map (fun i => colM l i / (l.length : Int))
def meanE (l : List (List Int)) : Int := if l.length = 0 then 4 else refuseM (l.getD 0 []).length l
/-- A vector in new memory. -/
def NewVec (w : World) (A : Option Addr) (c : Nat) (xs : List Int) (w' : World) : Prop := w'.ownsRow w.heap.size 21 1 (.slice A xs.length c) xs.length (xs.map (Value.int .i32)) ∧ ∀ x ∈ xs, (Lit.int .i32 x).wf = true
theorem RowAt.owns {W : World} {g d base : Nat} {t : TypeId} {V : Nat → Value} {xs : List Value} (h : RowAt W g t d V) (hb : base ≤ g) (hd : d ≤ maxLen) (hl : xs.length = d) (hx : ∀ j, j < d → xs[j]? = some (V j)) : W.ownsRow base t 1 (.slice (some ⟨g, 0, none⟩) d d) d xs := by
  obtain ⟨cur, h1, h2, h3⟩ := h
  refine ⟨by omega, .inr ⟨g, d, cur, rfl, hb, h1, Nat.le_refl _, hd, by omega, ?_⟩⟩
  apply List.ext_getElem?
  intro i
  rw [Nat.mul_one]
  rcases Nat.lt_or_ge i d with hi | hi
  · rw [List.getElem?_take, if_pos hi, hx i hi, Array.getElem?_toList, h3 i hi]
  · rw [List.getElem?_take, if_neg (by omega), List.getElem?_eq_none (by omega)]
/-- What Mean answers. -/
def GivesM (w : World) (l : List (List Int)) (e : Ending) (w' : World) : Prop :=
  (meanE l ≠ 0 → e = .returned (.tuple #[.slice none 0 0, .int .i64 (meanE l)])) ∧
  (meanE l = 0 → ∃ A c, e = .returned (.tuple #[.slice A (meanM l).length c, .int .i64 0]) ∧ NewVec w A c (meanM l) w') ∧ Below w.heap.size w w'

theorem col_mean (l : List (List Int)) (i : Nat) (h : ∀ x ∈ l, right x = true) (hn : 0 < l.length) : -1073741823 ≤ colM l i / (l.length : Int) ∧ colM l i / (l.length : Int) ≤ 1073741823 := by
  obtain ⟨h1, h2⟩ := colM_le l i h
  have hp : (0 : Int) < (l.length : Int) := by omega
  refine ⟨(Int.le_ediv_iff_mul_le hp).2 (by omega), ?_⟩
  have := (Int.ediv_lt_iff_lt_mul hp (a := colM l i) (b := 1073741824)).2 (by omega)
  omega

theorem made (np : Nat) (h : np ≤ 1000) (W : World) : (Instr.makeSlice 35 (.int .i64 (np : Int)) (.int .i64 (np : Int))).run Try.prog W = .ok (.slice (some ⟨W.heap.size, 0, none⟩) np np) (W.alloc (.cells (madeCells #[.int .i32 0] np) 21)) :=
  run_make_row' 35 21 (.int .i32 0) 4 Try.underlying35 (by kernel_rfl) rfl _ _ np (by omega) (by omega) W
theorem made_row (np : Nat) (W : World) : RowAt (W.alloc (.cells (madeCells #[.int .i32 0] np) 21)) W.heap.size 21 np (fun _ => .int .i32 0) :=
  ⟨_, heap_alloc_new W _, size_madeCells _ _, fun j hj => by
    rw [← Array.getElem?_toList, toList_madeCells_one]
    simp [hj]⟩
theorem w32 {n : Int} (h : -1073741823 ≤ n ∧ n ≤ 1073741823) : RowKit.wrap32 n = n := by unfold RowKit.wrap32; omega
theorem wf32 {n : Int} (h : -1073741823 ≤ n ∧ n ≤ 1073741823) : (Lit.int .i32 n).wf = true := by
  simp [Lit.wf, IntKind.min, IntKind.max, IntKind.signed, IntKind.bits]; omega

set_option maxHeartbeats 2000000 in
theorem mean_ok (A : Option Addr) (c : Nat) (l : List (List Int)) (w : World) (hl : Vecs .i32 w A c l) (hn : l.length ≤ 1000000) (h1 : l.length ≠ 0) (h2 : refuseM (l.getD 0 []).length l = 0) :
    Calls Try.prog 56 #[.slice A l.length c] w fun e w' => (∃ A' c', e = .returned (.tuple #[.slice A' (meanM l).length c', .int .i64 0]) ∧ NewVec w A' c' (meanM l) w') ∧ Below w.heap.size w w' := by
  have hall := refuse_ok h2
  have hr := fun x hx => (hall x hx).1
  have HR := Lib.hid (refuse_any A c (l.getD 0 []).length l w hl)
  rw [h2] at HR
  have HS := Lib.hid (fun (V : World) (hV : Below w.heap.size w V) => sums_any A c l V (hl.below hV) hr hn)
  obtain ⟨b, o, x0, B0, cb0, rfl, hx0, hblt, hc0, hb0⟩ := hl.at_ (i := 0) (by omega)
  have e0 := getD_at' hx0
  have HM := Lib.hid (show meanM l = (List.range x0.length).map (fun i => colM l i / (l.length : Int)) by unfold meanM; rw [e0])
  have hlx := right_len (hr x0 (List.mem_of_getElem? hx0))
  have HC := Lib.hid (fun i => col_mean l i hr (by omega))
  have HC2 := Lib.hid (fun i => colM_le l i hr)
  rw [e0] at HR
  have HML := Lib.hid (show (meanM l).length = x0.length by unfold meanM; rw [e0]; simp)
  generalize meanM l = R at *
  obtain ⟨n, hnn⟩ : ∃ n, n = l.length := ⟨_, rfl⟩
  have HN := Lib.hid hnn
  rw [← hnn] at HR HS HC HC2 HM h1 hn ⊢
  obtain ⟨d, hd⟩ : ∃ d, d = x0.length := ⟨_, rfl⟩
  rw [← hd] at HR HM HML hlx hc0
  rw [HML.out]
  have t1 : ((n : Int) == 0) = false := by simp; omega
  have t2 : (n == 0) = false := by simp; omega
  have t3 : 0 < n := by omega
  have t4 : (0 : Int) < n := by omega
  have d1 := hlx.1
  have d4 := hlx.2
  have hmk := made d (by omega)
  have HPA := Lib.hid (fun i (hi : i < d) (V : World) => parted_any (colM l i) n V (by omega) (by omega) (by have := (HC2.out i).1; omega) (by have := (HC2.out i).2; omega))
  rw [Nat.add_zero] at hc0
  have HC0 := Lib.hid hc0
  clear hl hall hr h2 e0 hb0 hx0 hnn hd hlx
  go_enter Try.func56, Try.ntmps56
  go_wp2_with fail
  refine HR.out.mono ?_
  rintro e w1 ⟨rfl, hb1⟩
  have HB1 := Lib.hid hb1
  clear hb1 hc0
  go_wp2_with fail
  refine (HS.out w1 HB1.out).mono ?_
  rintro e w2 ⟨rfl, hb2⟩
  have hb2' := HB1.out.trans (hb2.mono HB1.out.size)
  have HB2 := Lib.hid hb2'
  have hc2 : w2.cell? ⟨b, o, none⟩ = some (.slice B0 d cb0) := (hb2'.cell (p := ⟨b, o, none⟩) hblt).trans HC0.out
  have hne : b < w2.heap.size := Nat.lt_of_lt_of_le hblt hb2'.size
  clear hb2 hb2'
  go_upto_region 7 with ((refine wpList_store_row rfl 85 _ _ rfl w2.heap.size _ rfl rfl 85 _ (heap_alloc_new w2 _) (by kernel_rfl) rfl (by simp [Value.oneCell']) ?_))
  simp only [Act.put]
  obtain ⟨W3, hW3⟩ : ∃ W3, W3 = (w2.alloc (.cells #[.int .i64 0, .int .i64 0, .int .i64 0, .int .i64 0] 85)).setRow w2.heap.size #[.int .i64 (colM l 0), .int .i64 (colM l 1), .int .i64 (colM l 2), .int .i64 (colM l 3)] := ⟨_, rfl⟩
  have hb3 : Below w.heap.size w W3 := by rw [hW3]; exact below_setRow (HB2.out.alloc HB2.out.size _) HB2.out.size _
  have r3 : RowAt W3 w2.heap.size 85 4 (sumsV (colM l)) := RowAt.of_four (by rw [hW3]; exact setRow_heap _ _ _ _ _ _ (heap_alloc_new w2 _)) rfl rfl rfl rfl
  have hc3 : W3.cell? ⟨b, o, none⟩ = some (.slice B0 d cb0) := by
    rw [hW3]
    refine (World.cell?_of_block (a := ⟨b, o, none⟩) ?_).trans hc2
    rw [setRow_other _ _ _ _ (by show b ≠ w2.heap.size; omega)]
    exact Below.heap_alloc _ _ _ hne
  rw [← hW3]
  have hs3 : w2.heap.size < W3.heap.size := r3.lt
  have HB3 := Lib.hid hb3
  have HR3 := Lib.hid r3
  clear hW3 hb3 r3 hc2
  obtain ⟨W4, hW4⟩ : ∃ W4, W4 = W3.alloc (.cells (madeCells #[.int .i32 0] d) 21) := ⟨_, rfl⟩
  have r4 : RowAt W4 W3.heap.size 21 d (fun _ => .int .i32 0) := by rw [hW4]; exact made_row d W3
  have hb34 : Below W3.heap.size W3 W4 := by rw [hW4]; exact (Below.refl _ _).alloc (Nat.le_refl _) _
  have H4 := Lib.hid (show RowAt W4 W3.heap.size 21 d (fun j => .int .i32 (if j < 0 then colM l j / (n : Int) else 0)) ∧ RowAt W4 w2.heap.size 85 4 (sumsV (colM l)) ∧ Below w.heap.size w W4 from
    ⟨r4.congr (fun j _ => by simp), HR3.out.later hb34, HB3.out.trans (hb34.mono HB3.out.size)⟩)
  have HW4 := Lib.hid hW4
  clear hW4 r4 hb34
  have HSZ3 := Lib.hid HB3.out.size
  go_wp2
  rw [← HW4.out]
  generalize hg : W3.heap.size = g at *
  have HG := Lib.hid hg
  clear hg
  go_loopw [7, 29] (fun _ i wr => ∃ k : Nat, k ≤ d ∧ i = .int .i64 k ∧ Hid (RowAt wr g 21 d (fun j => .int .i32 (if j < k then colM l j / (n : Int) else 0)) ∧ RowAt wr w2.heap.size 85 4 (sumsV (colM l)) ∧ Below w.heap.size w wr)) (fun _ i _ => d - (intOf i).toNat)
  case atStart => exact ⟨0, Nat.zero_le _, rfl, H4⟩
  case round =>
    obtain ⟨k, hk, rfl, HB⟩ := hrel
    by_cases hkd : k < d
    · have e2 := HB.out.2.1.cell (j := k) (by omega)
      have e3 := HB.out.1.frozen k
      have e4 := HB.out.1.cell hkd
      unfold sumsV at e2
      have HP := Lib.hid (HPA.out k hkd wr)
      have HQ := Lib.hid (w32 (HC.out k))
      have hnx : ∀ j, j < d → (Value.int .i32 (if j < k + 1 then colM l j / (n : Int) else 0)) = if j = k then .int .i32 (colM l k / (n : Int)) else .int .i32 (if j < k then colM l j / (n : Int) else 0) := fun j _ => by
        by_cases e : j = k
        · subst e; simp
        · rw [if_neg e]
          have : (j < k + 1) = (j < k) := by simp; omega
          simp only [this]
      have HNX := Lib.hid hnx
      have k0 : (0 : Int) ≤ k := by omega
      have k4 : (k : Int) < 4 := by omega
      have k4n : k < 4 := by omega
      have kd : (k : Int) < d := by omega
      clear hnx
      generalize colM l k / (n : Int) = q at *
      generalize colM l k = s0 at *
      go_wp2_with fail
      refine HP.out.mono ?_
      rintro e w' ⟨rfl, rfl⟩
      go_wp2
      rw [HQ.out]
      go_roundw
      case rel =>
        refine ⟨k + 1, by omega, by go_num, Lib.hid ⟨?_, ?_, ?_⟩⟩
        · exact HB.out.1.set k _ HNX.out
        · exact HB.out.2.1.same (Below.heap_setCell _ _ _ _ (by show w2.heap.size ≠ g; omega))
        · exact HB.out.2.2.setCell (by show w.heap.size ≤ g; have := HSZ3.out; omega) _
      case measure => simp [intOf]; omega
    · obtain rfl : k = d := by omega
      go_wp2
      go_ret2
      refine ⟨⟨_, _, rfl, ?_, fun x hx => ?_⟩, HB.out.2.2⟩
      · rw [HML.out]
        refine HB.out.1.owns (by have := HSZ3.out; omega) (by unfold maxLen; omega) (by rw [List.length_map, HML.out]) (fun j hj => ?_)
        rw [HM.out, if_pos hj]
        simp [List.getElem?_range hj]
      · rw [HM.out] at hx
        obtain ⟨i, _, rfl⟩ := List.mem_map.1 hx
        exact wf32 (HC.out i)

theorem mean_any (A : Option Addr) (c : Nat) (l : List (List Int)) (w : World) (hl : Vecs .i32 w A c l) (hn : l.length ≤ 1000000) :
    Calls Try.prog 56 #[.slice A l.length c] w (GivesM w l) := by
  by_cases h1 : l.length = 0
  · have hE : meanE l = 4 := by unfold meanE; rw [if_pos h1]
    refine Calls.mono (R := fun e w' => e = .returned (.tuple #[.slice none 0 0, .int .i64 4]) ∧ Below w.heap.size w w') ?_ (fun e w' h => ⟨fun _ => by rw [hE]; exact h.1, fun h0 => by rw [hE] at h0; omega, h.2⟩)
    rw [h1]
    clear hl hE
    go_enter Try.func56, Try.ntmps56
    go_wp2
    go_ret2
    exact ⟨rfl, Below.refl _ _⟩
  · have hE : meanE l = refuseM (l.getD 0 []).length l := by unfold meanE; rw [if_neg h1]
    by_cases h2 : refuseM (l.getD 0 []).length l = 0
    · exact (mean_ok A c l w hl hn h1 h2).mono (fun e w' h => ⟨fun h0 => by rw [hE] at h0; exact absurd h2 h0, fun _ => h.1, h.2⟩)
    · have HR := Lib.hid (refuse_any A c (l.getD 0 []).length l w hl)
      refine Calls.mono (R := fun e w' => e = .returned (.tuple #[.slice none 0 0, .int .i64 (meanE l)]) ∧ Below w.heap.size w w') ?_ (fun e w' h => ⟨fun _ => h.1, fun h0 => by rw [hE] at h0; exact absurd h0 h2, h.2⟩)
      rw [hE]
      obtain ⟨b, o, x0, B0, cb0, rfl, hx0, hblt, hc0, hb0⟩ := hl.at_ (i := 0) (by omega)
      rw [getD_at' hx0] at HR h2 ⊢
      rw [Nat.add_zero] at hc0
      generalize refuseM x0.length l = E at *
      generalize x0.length = d at *
      have t1 : ((l.length : Int) == 0) = false := by simp; intro e; rw [e] at h1; simp at h1
      have t2 : (l.length == 0) = false := by simp; intro e; rw [e] at h1; simp at h1
      have t5 : 0 < l.length := by omega
      have t6 : (0 : Int) < l.length := by omega
      have t3 : (E == 0) = false := by simpa using h2
      have t4 : (E != 0) = true := by simpa using h2
      generalize l.length = n at *
      clear hl hE hx0 hb0
      go_enter Try.func56, Try.ntmps56
      go_wp2_with fail
      refine HR.out.mono ?_
      rintro e w1 ⟨rfl, hb1⟩
      have HB1 := Lib.hid hb1
      clear hb1
      go_wp2
      go_ret2
      exact ⟨rfl, HB1.out⟩

end Go.Proofs.Ytgakfffkadaeeaa
