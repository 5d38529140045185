/-
  The document's Next, Place; whether numbers are the same.
-/
import Derived.Test.YtkfgiedpnmpfgaaDoorMskR4
import Derived.Test.YtkfgiedpnmpfgaaDoorMskNext
namespace Go.Proofs.YtkfgiedpnmpfgaaDoor
open Go.RowKit Go.Shelf
set_option linter.unusedVariables false
set_option linter.unusedSimpArgs false
set_option maxRecDepth 100000

theorem slotsI_get (m : Mk) {k : Nat} (hk : k < (slots m).length) : ∃ x, (slots m)[k]? = some x ∧ (slotsI m).getD k 0 = (x : Int) ∧ x < 96 ∧ has m x = true := by
  have h := List.getElem?_eq_getElem hk
  refine ⟨(slots m)[k], h, ?_, has_lt (slots_mem.1 (List.getElem_mem hk)), slots_mem.1 (List.getElem_mem hk)⟩
  simp [slotsI, List.getD, List.getElem?_map, h]
theorem find_at {p : Nat → Bool} : ∀ {l : List Nat} {k x : Nat}, l[k]? = some x → p x = true → (∀ j y, j < k → l[j]? = some y → p y = false) → l.find? p = some x
  | [], k, x, h, _, _ => by simp at h
  | a :: l, 0, x, h, hp, _ => by simp at h; subst h; simp [hp]
  | a :: l, k + 1, x, h, hp, hn => by
    have ha := hn 0 a (by omega) rfl
    rw [List.find?_cons, ha]
    exact find_at (l := l) (k := k) (by simpa using h) hp (fun j y hj hy => hn (j + 1) y (by omega) (by simpa using hy))
theorem find_no {p : Nat → Bool} {l : List Nat} (h : ∀ j y, j < l.length → l[j]? = some y → p y = false) : l.find? p = none := by
  rw [List.find?_eq_none]
  intro y hy
  obtain ⟨j, hj, hjy⟩ := List.getElem_of_mem hy
  rw [h j y hj (by rw [List.getElem?_eq_getElem hj, hjy])]
  simp

set_option maxHeartbeats 2000000 in
theorem rNext_any (m : Mk) (n : Int) (w : World) (h : Fine m) :
    Calls Tryd.prog 11 #[mv m, .int .i64 n] w fun e w' => e = .returned (.tuple #[.int .i64 (nextK m n), .bool (nextB m n)]) ∧ Below w.heap.size w w' := by
  obtain ⟨hb0, hm0⟩ := mbox_world w m
  obtain ⟨W0, hW0⟩ : ∃ W0, W0 = w.alloc (.cells #[.int .u64 m.1, .int .u64 m.2] 27) := ⟨_, rfl⟩
  rw [← hW0] at hb0 hm0
  obtain ⟨L, hL⟩ : ∃ L, L = (slots m).length := ⟨_, rfl⟩
  have hL96 : L ≤ 96 := by rw [hL]; exact slotsTo_len m 96
  have HSl := Lib.hid (rSlots_any m W0 h)
  have HN := Lib.hid hL
  have HB0 := Lib.hid hb0
  have HW := Lib.hid hW0
  have z0 := hm0.cell0
  have z1 := hm0.cell1
  rw [← hL] at HSl
  clear h hb0 hm0 hW0 hL
  unfold mv at *
  go_enter Tryd.func11, Tryd.ntmps11
  go_wp2_with (rw [← HW.out])
  refine HSl.out.mono ?_
  rintro e w1 ⟨A1, c1, rfl, ho1, hb1⟩
  have HO1 := Lib.hid ho1
  have HB1 := Lib.hid (HB0.out.trans (hb1.mono HB0.out.size))
  have hnc : L ≤ c1 := by have := ho1.slots.room; rw [slotsI_len, ← HN.out] at this; exact this
  have hcm : (c1 : Int) ≤ 9223372036854775807 := by have := ho1.slots.most; omega
  clear ho1 hb1 z0 z1 HSl HB0 HW
  go_wp2
  go_loopw [11] (fun i wr => ∃ (k : Nat), k ≤ L ∧ i = .int .i64 k ∧ wr = w1 ∧ Hid (∀ j y, j < k → (slots m)[j]? = some y → decide (n ≤ (y : Int)) = false)) (fun i _ => L - (intOf i).toNat)
  case atStart => exact ⟨0, by omega, rfl, rfl, Lib.hid (fun j y hj => by omega)⟩
  case round =>
    obtain ⟨k, hk, rfl, rfl, HH⟩ := hrel
    by_cases hkn : k < L
    · obtain ⟨x, hx, hxg, hx96, hxh⟩ := slotsI_get m (k := k) (by rw [← HN.out]; exact hkn)
      obtain ⟨b, o, rfl, hb, hcell⟩ := HO1.out.slots.at_ (j := k) (by rw [slotsI_len, ← HN.out]; exact hkn)
      rw [hxg] at hcell
      have k0 : (0 : Int) ≤ k := by omega
      have kn : (k : Int) < L := by omega
      cases hd : decide (n ≤ (x : Int)) with
      | true =>
        have hle : n ≤ (x : Int) := by simpa using hd
        have HF := Lib.hid (show nextK m n = (x : Int) ∧ nextB m n = true from by
          have : nextM m n = some x := find_at hx hd HH.out
          unfold nextK nextB; rw [this]; exact ⟨rfl, rfl⟩)
        clear hx hxg hxh hb
        go_wp2
        refine bodyPost_ret (v := .tuple #[.int .i64 x, .bool true]) (by simp [results, Tryd.results11, go_sem]) rfl ?_
        rw [HF.out.1, HF.out.2]
        exact ⟨rfl, HB1.out⟩
      | false =>
        have hle : ¬ n ≤ (x : Int) := by simpa using hd
        have HH2 := Lib.hid (show ∀ j y, j < k + 1 → (slots m)[j]? = some y → decide (n ≤ (y : Int)) = false from fun j y hj hy => by
          by_cases hjk : j < k
          · exact HH.out j y hjk hy
          · obtain rfl : j = k := by omega
            rw [hx] at hy
            injection hy with hy
            subst hy
            exact hd)
        clear hx hxg hxh hb
        go_wp2
        go_roundw
        case rel => exact ⟨k + 1, by omega, by go_num, by simp, HH2⟩
        case measure => simp [intOf]; omega
    · obtain rfl : k = L := by omega
      have HF := Lib.hid (show nextK m n = 0 ∧ nextB m n = false from by
        have : nextM m n = none := find_no (fun j y hj hy => HH.out j y (by rw [HN.out]; exact hj) hy)
        unfold nextK nextB; rw [this]; exact ⟨rfl, rfl⟩)
      go_wp2
      refine bodyPost_ret (v := .tuple #[.int .i64 0, .bool false]) (by simp [results, Tryd.results11, go_sem]) rfl ?_
      rw [HF.out.1, HF.out.2]
      exact ⟨rfl, HB1.out⟩

/-- How many of the first k slots are below n. -/
def plc (m : Mk) (n : Int) (k : Nat) : Nat := (((slots m).take k).filter fun (y : Nat) => decide ((y : Int) < n)).length
theorem plc_succ {m : Mk} {n : Int} {k x : Nat} (h : (slots m)[k]? = some x) : plc m n (k + 1) = plc m n k + (if decide ((x : Int) < n) = true then 1 else 0) := by
  unfold plc
  rw [List.take_add_one, h]
  simp only [Option.toList, List.filter_append, List.length_append]
  congr 1
  cases hd : decide ((x : Int) < n) <;> simp [List.filter_cons, hd]
theorem plc_all (m : Mk) (n : Int) : plc m n (slots m).length = cnt (fun k => has m k && decide ((k : Int) < n)) 96 := by
  unfold plc cnt
  rw [List.take_length]
  unfold slots
  rw [List.filter_filter]
  congr 1
  exact List.filter_congr (fun k _ => Bool.and_comm _ _)
theorem plc_le (m : Mk) (n : Int) (k : Nat) : plc m n k ≤ k := by
  unfold plc
  exact Nat.le_trans (List.length_filter_le _ _) (by simp; omega)

set_option maxHeartbeats 2000000 in
theorem rPlace_any (m : Mk) (n : Int) (w : World) (h : Fine m) :
    Calls Tryd.prog 15 #[mv m, .int .i64 n] w fun e w' => e = .returned (.int .i64 (cnt (fun k => has m k && decide ((k : Int) < n)) 96)) ∧ Below w.heap.size w w' := by
  obtain ⟨hb0, hm0⟩ := mbox_world w m
  obtain ⟨W0, hW0⟩ : ∃ W0, W0 = w.alloc (.cells #[.int .u64 m.1, .int .u64 m.2] 27) := ⟨_, rfl⟩
  rw [← hW0] at hb0 hm0
  obtain ⟨L, hL⟩ : ∃ L, L = (slots m).length := ⟨_, rfl⟩
  have hL96 : L ≤ 96 := by rw [hL]; exact slotsTo_len m 96
  have HSl := Lib.hid (rSlots_any m W0 h)
  have HN := Lib.hid hL
  have HB0 := Lib.hid hb0
  have HW := Lib.hid hW0
  have HPl := Lib.hid (show plc m n L = cnt (fun k => has m k && decide ((k : Int) < n)) 96 from by rw [hL]; exact plc_all m n)
  generalize cnt (fun k => has m k && decide ((k : Int) < n)) 96 = R at *
  have z0 := hm0.cell0
  have z1 := hm0.cell1
  rw [← hL] at HSl
  clear h hb0 hm0 hW0 hL
  unfold mv at *
  go_enter Tryd.func15, Tryd.ntmps15
  go_wp2_with (rw [← HW.out])
  refine HSl.out.mono ?_
  rintro e w1 ⟨A1, c1, rfl, ho1, hb1⟩
  have HO1 := Lib.hid ho1
  have HB1 := Lib.hid (HB0.out.trans (hb1.mono HB0.out.size))
  have hnc : L ≤ c1 := by have := ho1.slots.room; rw [slotsI_len, ← HN.out] at this; exact this
  have hcm : (c1 : Int) ≤ 9223372036854775807 := by have := ho1.slots.most; omega
  clear ho1 hb1 z0 z1 HSl HB0 HW
  go_wp2
  go_loopw [5, 11] (fun v i wr => ∃ (k q : Nat), k ≤ L ∧ q ≤ k ∧ i = .int .i64 k ∧ v = .int .i64 q ∧ wr = w1 ∧ Hid (q = plc m n k)) (fun _ i _ => L - (intOf i).toNat)
  case atStart => exact ⟨0, 0, by omega, by omega, rfl, rfl, rfl, Lib.hid (by simp [plc])⟩
  case round =>
    obtain ⟨k, q, hk, hq, rfl, rfl, rfl, HH⟩ := hrel
    by_cases hkn : k < L
    · obtain ⟨x, hx, hxg, hx96, hxh⟩ := slotsI_get m (k := k) (by rw [← HN.out]; exact hkn)
      obtain ⟨b, o, rfl, hb, hcell⟩ := HO1.out.slots.at_ (j := k) (by rw [slotsI_len, ← HN.out]; exact hkn)
      rw [hxg] at hcell
      have k0 : (0 : Int) ≤ k := by omega
      have kn : (k : Int) < L := by omega
      have hsucc := plc_succ (n := n) hx
      cases hd : decide ((x : Int) < n) with
      | true =>
        have hlt : (x : Int) < n := by simpa using hd
        rw [hd, if_pos rfl] at hsucc
        have HH2 := Lib.hid (show q + 1 = plc m n (k + 1) from by rw [hsucc, HH.out])
        clear hx hxg hxh hb hsucc
        go_wp2
        go_roundw
        case rel => exact ⟨k + 1, q + 1, by omega, by omega, by go_num, by go_num, by simp, HH2⟩
        case measure => simp [intOf]; omega
      | false =>
        have hlt : ¬ (x : Int) < n := by simpa using hd
        rw [hd, if_neg (by decide)] at hsucc
        have HH2 := Lib.hid (show q = plc m n (k + 1) from by rw [hsucc, HH.out]; rfl)
        clear hx hxg hxh hb hsucc
        go_wp2
        go_roundw
        case rel => exact ⟨k + 1, q, by omega, by omega, by go_num, by simp, by simp, HH2⟩
        case measure => simp [intOf]; omega
    · obtain rfl : k = L := by omega
      have HF := Lib.hid (show q = R from by rw [HH.out]; exact HPl.out)
      go_wp2
      go_ret
      rw [HF.out]
      exact ⟨rfl, HB1.out⟩

set_option maxHeartbeats 2000000 in
theorem sameInts_any (A B : Option Addr) (c d : Nat) (xs : List Int) (w : World) (h1 : Vec .i64 w A c xs) (h2 : Vec .i64 w B d xs) :
    Calls Tryd.prog 7 #[.slice A xs.length c, .slice B xs.length d] w fun e w' => e = .returned (.bool true) ∧ Below w.heap.size w w' := by
  obtain ⟨L, hL⟩ : ∃ L, L = xs.length := ⟨_, rfl⟩
  have hm1 : (c : Int) ≤ 9223372036854775807 := by have := h1.most; omega
  have hn1 : L ≤ c := by rw [hL]; exact h1.room
  have hm2 : (d : Int) ≤ 9223372036854775807 := by have := h2.most; omega
  have hn2 : L ≤ d := by rw [hL]; exact h2.room
  have H1 := Lib.hid h1
  have H2 := Lib.hid h2
  have HL := Lib.hid hL
  rw [← hL]
  clear h1 h2 hL
  go_enter Tryd.func7, Tryd.ntmps7
  go_wp2
  go_loopw [13] (fun i wr => ∃ (k : Nat), k ≤ L ∧ i = .int .i64 k ∧ Hid (Below w.heap.size w wr)) (fun i _ => L - (intOf i).toNat)
  case atStart => exact ⟨0, by omega, rfl, Lib.hid (Below.refl _ _)⟩
  case round =>
    obtain ⟨k, hk, rfl, HB⟩ := hrel
    by_cases hkn : k < L
    · have H1r := H1.out.below HB.out
      have H2r := H2.out.below HB.out
      obtain ⟨b, o, e1, hb, hcell⟩ := H1r.at_ (j := k) (by rw [← HL.out]; exact hkn)
      obtain ⟨b2, o2, e2, hb2, hcell2⟩ := H2r.at_ (j := k) (by rw [← HL.out]; exact hkn)
      subst e1
      subst e2
      have k0 : (0 : Int) ≤ k := by omega
      have kn : (k : Int) < L := by omega
      generalize xs.getD k 0 = x at *
      have HC := Lib.hid (fun (X : World) (hX : Below wr.heap.size wr X) => show X.cell? ⟨b, o + k, none⟩ = some (.int .i64 x) ∧ X.cell? ⟨b2, o2 + k, none⟩ = some (.int .i64 x) from ⟨(hX.cell (p := ⟨b, o + k, none⟩) (World.block_lt_of_cell? wr _ hcell)).trans hcell, (hX.cell (p := ⟨b2, o2 + k, none⟩) (World.block_lt_of_cell? wr _ hcell2)).trans hcell2⟩)
      clear H1r H2r hb hb2
      go_wp2_with fail
      go_region_held3 (fun X => X.cell? ⟨b, o + k, none⟩ = some (.int .i64 x) ∧ X.cell? ⟨b2, o2 + k, none⟩ = some (.int .i64 x))
        (first | (with_reducible assumption) | (with_reducible exact HC.out _ (below_drew (Below.refl _ _)))) (fail)
      have HBd := Lib.hid (HB.out.trans ((below_drew (Below.refl _ wr)).mono HB.out.size))
      go_wp2
      go_roundw
      case rel => exact ⟨k + 1, by omega, by go_num, HBd⟩
      case measure => simp [intOf]; omega
    · obtain rfl : k = L := by omega
      go_wp2
      go_ret
      exact ⟨rfl, HB.out⟩
end Go.Proofs.YtkfgiedpnmpfgaaDoor
