/-
  The closures of And and Or: rows of masks, word by word.
-/
import Derived.Test.YtgljmcddakeoiaaDoorMskA
namespace Go.Proofs.YtgljmcddakeoiaaDoor
open Go.RowKit Go.Shelf
set_option linter.unusedVariables false
set_option linter.unusedSimpArgs false
set_option maxRecDepth 100000

/-- The masks l can be read at A. -/
structure Ms (w : World) (A : Option Addr) (c : Nat) (l : List Mk) : Prop where
  room : l.length ≤ c
  most : c ≤ 9223372036854775807
  rd : 0 < l.length → ∃ b o, A = some ⟨b, o, none⟩ ∧ b < w.heap.size ∧ ∀ j m, l[j]? = some m → w.cell? ⟨b, o + j * 2, none⟩ = some (.int .u64 m.1) ∧ w.cell? ⟨b, o + j * 2 + 1, none⟩ = some (.int .u64 m.2)
  fine : ∀ m ∈ l, Fine m
theorem Ms.below {w w' : World} {A : Option Addr} {c : Nat} {l : List Mk} (h : Ms w A c l) (hb : Below w.heap.size w w') : Ms w' A c l := by
  refine ⟨h.room, h.most, fun hp => ?_, h.fine⟩
  obtain ⟨b, o, e, hlt, hc⟩ := h.rd hp
  exact ⟨b, o, e, Nat.lt_of_lt_of_le hlt hb.size, fun j m hm => ⟨(hb.cell (p := ⟨b, o + j * 2, none⟩) hlt).trans (hc j m hm).1, (hb.cell (p := ⟨b, o + j * 2 + 1, none⟩) hlt).trans (hc j m hm).2⟩⟩
theorem Ms.nil (w : World) : Ms w none 0 [] := ⟨by simp, by omega, fun h => absurd h (by simp), by simp⟩
theorem Ms.at_ {w : World} {A : Option Addr} {c : Nat} {l : List Mk} (h : Ms w A c l) {k : Nat} (hk : k < l.length) : ∃ b o x y, A = some ⟨b, o, none⟩ ∧ b < w.heap.size ∧ l[k]? = some (x, y) ∧ x < 18446744073709551616 ∧ y < 18446744073709551616 ∧ w.cell? ⟨b, o + k * 2, none⟩ = some (.int .u64 x) ∧ w.cell? ⟨b, o + k * 2 + 1, none⟩ = some (.int .u64 y) := by
  obtain ⟨b, o, e, hb, hc⟩ := h.rd (by omega)
  have hm := List.getElem?_eq_getElem hk
  have hf := h.fine _ (List.getElem_mem hk)
  exact ⟨b, o, (l[k]).1, (l[k]).2, e, hb, hm, hf.1, hf.2, (hc k _ hm).1, (hc k _ hm).2⟩

def andW (i : Nat) (l : List Mk) : Nat := l.foldl (fun a m => a &&& ww i m) 18446744073709551615
def orW (i : Nat) (l : List Mk) : Nat := l.foldl (fun a m => a ||| ww i m) 0
theorem take_snoc {α : Type} (l : List α) {k : Nat} {x : α} (h : l[k]? = some x) : l.take (k + 1) = l.take k ++ [x] := by
  rw [List.take_add_one, h]; rfl
theorem andW_snoc (i : Nat) (l : List Mk) {k : Nat} {x : Mk} (h : l[k]? = some x) : andW i (l.take (k + 1)) = andW i (l.take k) &&& ww i x := by
  unfold andW; rw [take_snoc l h, List.foldl_append]; rfl
theorem orW_snoc (i : Nat) (l : List Mk) {k : Nat} {x : Mk} (h : l[k]? = some x) : orW i (l.take (k + 1)) = orW i (l.take k) ||| ww i x := by
  unfold orW; rw [take_snoc l h, List.foldl_append]; rfl
theorem and_foldl_lt (i : Nat) : ∀ (l : List Mk) (a : Nat), a < 18446744073709551616 → l.foldl (fun a m => a &&& ww i m) a < 18446744073709551616
  | [], a, h => h
  | m :: l, a, h => and_foldl_lt i l _ (Nat.lt_of_le_of_lt Nat.and_le_left h)
theorem or_foldl_lt (i : Nat) : ∀ (l : List Mk) (a : Nat), a < 18446744073709551616 → (∀ m ∈ l, Fine m) → l.foldl (fun a m => a ||| ww i m) a < 18446744073709551616
  | [], a, h, _ => h
  | m :: l, a, h, hf => or_foldl_lt i l _ (Nat.or_lt_two_pow (n := 64) h (ww_lt (hf m (by simp)) i)) (fun x hx => hf x (by simp [hx]))
theorem andW_lt (i : Nat) (l : List Mk) : andW i l < 18446744073709551616 := and_foldl_lt i l _ (by decide)
theorem orW_lt (i : Nat) {l : List Mk} (h : ∀ m ∈ l, Fine m) : orW i l < 18446744073709551616 := or_foldl_lt i l _ (by decide) h
theorem and_foldl_bit (i j : Nat) : ∀ (l : List Mk) (a : Nat), (l.foldl (fun a m => a &&& ww i m) a).testBit j = (a.testBit j && l.all (fun m => (ww i m).testBit j))
  | [], a => by simp
  | m :: l, a => by rw [List.foldl_cons, and_foldl_bit i j l, Nat.testBit_and, List.all_cons, Bool.and_assoc]
theorem or_foldl_bit (i j : Nat) : ∀ (l : List Mk) (a : Nat), (l.foldl (fun a m => a ||| ww i m) a).testBit j = (a.testBit j || l.any (fun m => (ww i m).testBit j))
  | [], a => by simp
  | m :: l, a => by rw [List.foldl_cons, or_foldl_bit i j l, Nat.testBit_or, List.any_cons, Bool.or_assoc]
theorem andW_bit (i j : Nat) (l : List Mk) (hj : j < 64) : (andW i l).testBit j = l.all (fun m => (ww i m).testBit j) := by unfold andW; rw [and_foldl_bit, full_bit j hj]; simp
theorem orW_bit (i j : Nat) (l : List Mk) : (orW i l).testBit j = l.any (fun m => (ww i m).testBit j) := by unfold orW; rw [or_foldl_bit]; simp

set_option maxHeartbeats 1000000 in
theorem and1_any (i g c : Nat) (A : Option Addr) (l : List Mk) (w : World) (hi : i < 2) (hg : w.cell? ⟨g, 0, none⟩ = some (.slice A l.length c)) (h : Ms w A c l) :
    Calls Tryd.prog 24 #[.int .i64 i, .pointer (some ⟨g, 0, none⟩)] w fun e w' => e = .returned (.int .u64 (andW i l)) ∧ Below w.heap.size w w' := by
  obtain ⟨n, hn⟩ : ∃ n, n = l.length := ⟨_, rfl⟩
  have hmn : (n : Int) ≤ 9223372036854775807 := by have := h.room; have := h.most; omega
  have hnc : n ≤ c := by have := h.room; omega
  have hcm : (c : Int) ≤ 9223372036854775807 := by have := h.most; omega
  rw [← hn] at hg
  have HN := Lib.hid hn
  have HM := Lib.hid h
  have HS0 := Lib.hid (show 18446744073709551615 = andW i (l.take 0) from rfl)
  have hT : andW i (l.take n) = andW i l := by rw [hn, List.take_length]
  have HT := Lib.hid hT
  have HB := Lib.hid (Below.refl w.heap.size w)
  have hstep : ∀ k x y v, l[k]? = some (x, y) → x < 18446744073709551616 → y < 18446744073709551616 → v < 18446744073709551616 → v = andW i (l.take k) → ∃ v', v' < 18446744073709551616 ∧ v' = andW i (l.take (k + 1)) ∧ bits .and .u64 (v : Int) ((ww i (x, y) : Nat) : Int) = (v' : Int) := by
    intro k x y v hk hx hy hv he
    refine ⟨_, andW_lt i (l.take (k + 1)), rfl, ?_⟩
    rw [andW_snoc i l hk, ← he]
    exact u64_and_nat _ _ hv (ww_lt ⟨hx, hy⟩ i)
  have HStep := Lib.hid hstep
  clear h hn hT hstep
  have hi2 : i = 0 ∨ i = 1 := by omega
  rcases hi2 with rfl | rfl
  · go_enter Tryd.func24, Tryd.ntmps24
    go_wp2
    go_loopw [4, 9] (fun v i wr => ∃ (k v0 : Nat), k ≤ n ∧ i = .int .i64 k ∧ v = .int .u64 v0 ∧ v0 < 18446744073709551616 ∧ Hid (v0 = andW 0 (l.take k)) ∧ Hid (Below w.heap.size w wr)) (fun _ i _ => n - (intOf i).toNat)
    case atStart => exact ⟨0, 18446744073709551615, Nat.zero_le _, rfl, rfl, by decide, HS0, HB⟩
    case round =>
      obtain ⟨k, v0, hk, rfl, rfl, hv, HV, HW⟩ := hrel
      by_cases hkn : k < n
      · obtain ⟨b, o, x, y, rfl, hb, hx, hx1, hx2, d0, d1⟩ := (HM.out.below HW.out).at_ (k := k) (by rw [← HN.out]; exact hkn)
        obtain ⟨v1, hv1, hv1e, hbit⟩ := HStep.out k x y v0 hx hx1 hx2 hv HV.out
        have k0 : (0 : Int) ≤ k := by omega
        have kn : (k : Int) < n := by omega
        have HV1 := Lib.hid hv1e
        have HB1 := Lib.hid (HW.out.alloc HW.out.size (.cells #[.int .u64 x, .int .u64 y] 25))
        simp only [ww, if_true, if_neg (show ¬ (1 : Nat) = 0 by decide)] at hbit
        clear hx hx1 hx2 hv1e hb
        go_wp2
        go_roundw
        case rel => exact ⟨k + 1, v1, by omega, by go_num, by simp, hv1, HV1, HB1⟩
        case measure => simp [intOf]; omega
      · obtain rfl : k = n := by omega
        go_wp2
        go_ret
        have e := HV.out
        rw [HT.out] at e
        rw [← e]
        exact ⟨rfl, HW.out⟩
  · go_enter Tryd.func24, Tryd.ntmps24
    go_wp2
    go_loopw [4, 9] (fun v i wr => ∃ (k v0 : Nat), k ≤ n ∧ i = .int .i64 k ∧ v = .int .u64 v0 ∧ v0 < 18446744073709551616 ∧ Hid (v0 = andW 1 (l.take k)) ∧ Hid (Below w.heap.size w wr)) (fun _ i _ => n - (intOf i).toNat)
    case atStart => exact ⟨0, 18446744073709551615, Nat.zero_le _, rfl, rfl, by decide, HS0, HB⟩
    case round =>
      obtain ⟨k, v0, hk, rfl, rfl, hv, HV, HW⟩ := hrel
      by_cases hkn : k < n
      · obtain ⟨b, o, x, y, rfl, hb, hx, hx1, hx2, d0, d1⟩ := (HM.out.below HW.out).at_ (k := k) (by rw [← HN.out]; exact hkn)
        obtain ⟨v1, hv1, hv1e, hbit⟩ := HStep.out k x y v0 hx hx1 hx2 hv HV.out
        have k0 : (0 : Int) ≤ k := by omega
        have kn : (k : Int) < n := by omega
        have HV1 := Lib.hid hv1e
        have HB1 := Lib.hid (HW.out.alloc HW.out.size (.cells #[.int .u64 x, .int .u64 y] 25))
        simp only [ww, if_true, if_neg (show ¬ (1 : Nat) = 0 by decide)] at hbit
        clear hx hx1 hx2 hv1e hb
        go_wp2
        go_roundw
        case rel => exact ⟨k + 1, v1, by omega, by go_num, by simp, hv1, HV1, HB1⟩
        case measure => simp [intOf]; omega
      · obtain rfl : k = n := by omega
        go_wp2
        go_ret
        have e := HV.out
        rw [HT.out] at e
        rw [← e]
        exact ⟨rfl, HW.out⟩

set_option maxHeartbeats 1000000 in
theorem or1_any (i g c : Nat) (A : Option Addr) (l : List Mk) (w : World) (hi : i < 2) (hg : w.cell? ⟨g, 0, none⟩ = some (.slice A l.length c)) (h : Ms w A c l) :
    Calls Tryd.prog 30 #[.int .i64 i, .pointer (some ⟨g, 0, none⟩)] w fun e w' => e = .returned (.int .u64 (orW i l)) ∧ Below w.heap.size w w' := by
  obtain ⟨n, hn⟩ : ∃ n, n = l.length := ⟨_, rfl⟩
  have hmn : (n : Int) ≤ 9223372036854775807 := by have := h.room; have := h.most; omega
  have hnc : n ≤ c := by have := h.room; omega
  have hcm : (c : Int) ≤ 9223372036854775807 := by have := h.most; omega
  rw [← hn] at hg
  have HN := Lib.hid hn
  have HM := Lib.hid h
  have HS0 := Lib.hid (show 0 = orW i (l.take 0) from rfl)
  have hT : orW i (l.take n) = orW i l := by rw [hn, List.take_length]
  have HT := Lib.hid hT
  have HB := Lib.hid (Below.refl w.heap.size w)
  have hstep : ∀ k x y v, l[k]? = some (x, y) → x < 18446744073709551616 → y < 18446744073709551616 → v < 18446744073709551616 → v = orW i (l.take k) → ∃ v', v' < 18446744073709551616 ∧ v' = orW i (l.take (k + 1)) ∧ bits .or .u64 (v : Int) ((ww i (x, y) : Nat) : Int) = (v' : Int) := by
    intro k x y v hk hx hy hv he
    refine ⟨_, orW_lt i (fun m hm => h.fine m (List.mem_of_mem_take hm)), rfl, ?_⟩
    rw [orW_snoc i l hk, ← he]
    exact u64_or_nat _ _ hv (ww_lt ⟨hx, hy⟩ i)
  have HStep := Lib.hid hstep
  clear h hn hT hstep
  have hi2 : i = 0 ∨ i = 1 := by omega
  rcases hi2 with rfl | rfl
  · go_enter Tryd.func30, Tryd.ntmps30
    go_wp2
    go_loopw [4, 9] (fun v i wr => ∃ (k v0 : Nat), k ≤ n ∧ i = .int .i64 k ∧ v = .int .u64 v0 ∧ v0 < 18446744073709551616 ∧ Hid (v0 = orW 0 (l.take k)) ∧ Hid (Below w.heap.size w wr)) (fun _ i _ => n - (intOf i).toNat)
    case atStart => exact ⟨0, 0, Nat.zero_le _, rfl, rfl, by decide, HS0, HB⟩
    case round =>
      obtain ⟨k, v0, hk, rfl, rfl, hv, HV, HW⟩ := hrel
      by_cases hkn : k < n
      · obtain ⟨b, o, x, y, rfl, hb, hx, hx1, hx2, d0, d1⟩ := (HM.out.below HW.out).at_ (k := k) (by rw [← HN.out]; exact hkn)
        obtain ⟨v1, hv1, hv1e, hbit⟩ := HStep.out k x y v0 hx hx1 hx2 hv HV.out
        have k0 : (0 : Int) ≤ k := by omega
        have kn : (k : Int) < n := by omega
        have HV1 := Lib.hid hv1e
        have HB1 := Lib.hid (HW.out.alloc HW.out.size (.cells #[.int .u64 x, .int .u64 y] 25))
        simp only [ww, if_true, if_neg (show ¬ (1 : Nat) = 0 by decide)] at hbit
        clear hx hx1 hx2 hv1e hb
        go_wp2
        go_roundw
        case rel => exact ⟨k + 1, v1, by omega, by go_num, by simp, hv1, HV1, HB1⟩
        case measure => simp [intOf]; omega
      · obtain rfl : k = n := by omega
        go_wp2
        go_ret
        have e := HV.out
        rw [HT.out] at e
        rw [← e]
        exact ⟨rfl, HW.out⟩
  · go_enter Tryd.func30, Tryd.ntmps30
    go_wp2
    go_loopw [4, 9] (fun v i wr => ∃ (k v0 : Nat), k ≤ n ∧ i = .int .i64 k ∧ v = .int .u64 v0 ∧ v0 < 18446744073709551616 ∧ Hid (v0 = orW 1 (l.take k)) ∧ Hid (Below w.heap.size w wr)) (fun _ i _ => n - (intOf i).toNat)
    case atStart => exact ⟨0, 0, Nat.zero_le _, rfl, rfl, by decide, HS0, HB⟩
    case round =>
      obtain ⟨k, v0, hk, rfl, rfl, hv, HV, HW⟩ := hrel
      by_cases hkn : k < n
      · obtain ⟨b, o, x, y, rfl, hb, hx, hx1, hx2, d0, d1⟩ := (HM.out.below HW.out).at_ (k := k) (by rw [← HN.out]; exact hkn)
        obtain ⟨v1, hv1, hv1e, hbit⟩ := HStep.out k x y v0 hx hx1 hx2 hv HV.out
        have k0 : (0 : Int) ≤ k := by omega
        have kn : (k : Int) < n := by omega
        have HV1 := Lib.hid hv1e
        have HB1 := Lib.hid (HW.out.alloc HW.out.size (.cells #[.int .u64 x, .int .u64 y] 25))
        simp only [ww, if_true, if_neg (show ¬ (1 : Nat) = 0 by decide)] at hbit
        clear hx hx1 hx2 hv1e hb
        go_wp2
        go_roundw
        case rel => exact ⟨k + 1, v1, by omega, by go_num, by simp, hv1, HV1, HB1⟩
        case measure => simp [intOf]; omega
      · obtain rfl : k = n := by omega
        go_wp2
        go_ret
        have e := HV.out
        rw [HT.out] at e
        rw [← e]
        exact ⟨rfl, HW.out⟩
end Go.Proofs.YtgljmcddakeoiaaDoor
