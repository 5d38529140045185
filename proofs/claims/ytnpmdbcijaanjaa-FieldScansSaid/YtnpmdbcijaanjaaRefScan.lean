/-
  What Bytes, Num and Int of package quiverref01 answer of a scan that goes by value.
-/
import Derived.Test.YtnpmdbcijaanjaaRefOne
namespace Go.Proofs.Ytnpmdbcijaanjaa
open Go.RowKit
set_option linter.unusedVariables false

/-- A scan by value. -/
abbrev scanV (A : Option Addr) (l c : Nat) (p : Int) (bd : Bool) : Value := .agg #[.slice A l c, .int .i64 p, .bool bd]

set_option maxHeartbeats 1000000 in
theorem rBytes_bad (A : Option Addr) (l c : Nat) (p n : Int) (w : World) :
    Calls Try.prog 25 #[scanV A l c p true, .int .i64 n] w fun e w' => e = .returned (.tuple #[scanV A l c p true, .slice none 0 0]) ∧ Below w.heap.size w w' := by
  go_enter Try.func25, Try.ntmps25
  go_wp2
  refine bodyPost_ret (v := .tuple #[scanV A l c p true, .slice none 0 0]) (by simp [results, Try.results25, go_sem]) rfl ⟨rfl, ?_⟩
  exact ((Below.refl _ w).alloc (Nat.le_refl _) _).alloc (by simp) _

set_option maxHeartbeats 1000000 in
theorem rBytes_no (A : Option Addr) (l c p : Nat) (n : Int) (w : World) (hp : p ≤ l) (hl : l ≤ 9223372036854775807) (h : n < 0 ∨ (l : Int) - p < n) :
    Calls Try.prog 25 #[scanV A l c p false, .int .i64 n] w fun e w' => e = .returned (.tuple #[scanV A l c p true, .slice none 0 0]) ∧ Below w.heap.size w w' := by
  by_cases h1 : n < 0
  · clear h
    go_enter Try.func25, Try.ntmps25
    go_wp2
    refine bodyPost_ret (v := .tuple #[scanV A l c p true, .slice none 0 0]) (by simp [results, Try.results25, go_sem]) rfl ⟨rfl, ?_⟩
    exact ((Below.refl _ w).alloc (Nat.le_refl _) _).alloc (by simp) _
  · have h1' : decide (n < 0) = false := by simp; omega
    have h2 : (l : Int) - p < n := by omega
    clear h
    go_enter Try.func25, Try.ntmps25
    go_wp2
    refine bodyPost_ret (v := .tuple #[scanV A l c p true, .slice none 0 0]) (by simp [results, Try.results25, go_sem]) rfl ⟨rfl, ?_⟩
    exact ((Below.refl _ w).alloc (Nat.le_refl _) _).alloc (by simp) _

/-- Bytes are told, and the scan has gone on. -/
def RTakes (w : World) (A : Option Addr) (l c : Nat) (p' : Int) (bs : List Int) (m : Nat) (e : Ending) (w' : World) : Prop :=
  ∃ A' c', e = .returned (.tuple #[scanV A l c p' false, .slice A' m c']) ∧ Sl w' A' c' bs ∧ Below w.heap.size w w'

set_option maxHeartbeats 2000000 in
set_option maxRecDepth 100000 in
theorem rBytes_yes (A : Option Addr) (c p m : Nat) (bs : List Int) (w : World) (hs : Sl w A c bs) (hp : p + m ≤ bs.length) (hl : bs.length ≤ 140737488355328) :
    Calls Try.prog 25 #[scanV A bs.length c p false, .int .i64 m] w (RTakes w A bs.length c ((p : Int) + m) ((bs.drop p).take m) m) := by
  obtain ⟨i0, hi, hz0, hz1, hz2⟩ := info_parts info5
  obtain ⟨l, el⟩ : ∃ l, l = bs.length := ⟨_, rfl⟩
  rw [← el] at hp hl ⊢
  have HL := Lib.hid el
  have HS := Lib.hid hs
  clear el hs
  have g1 : decide ((m : Int) < 0) = false := by simp
  have g2 : decide ((l : Int) - p < m) = false := by simp; omega
  have g3 : ¬ ((l : Int) - p < m) := by omega
  have hsz : l + 20 ≤ 9223372036854775807 := by omega
  go_enter Try.func25, Try.ntmps25
  go_wp2
  have hb0 : Below w.heap.size w ((w.alloc (.cells #[.slice A l c, .int .i64 (p : Int), .bool false] 35)).alloc (.cells #[.slice none 0 0, .int .i64 0, .bool false] 35)) := ((Below.refl _ w).alloc (Nat.le_refl _) _).alloc (by simp) _
  have hB : ((w.alloc (.cells #[.slice A l c, .int .i64 (p : Int), .bool false] 35)).alloc (.cells #[.slice none 0 0, .int .i64 0, .bool false] 35)).heap[w.heap.size]? = some (.cells #[.slice A l c, .int .i64 (p : Int), .bool false] 35 (0, 0)) := by
    rw [Below.heap_alloc _ _ _ (by simp)]
    exact heap_alloc_new w _
  have hB1 : ((w.alloc (.cells #[.slice A l c, .int .i64 (p : Int), .bool false] 35)).alloc (.cells #[.slice none 0 0, .int .i64 0, .bool false] 35)).heap[w.heap.size + 1]? = some (.cells #[.slice none 0 0, .int .i64 0, .bool false] 35 (0, 0)) := by
    have := heap_alloc_new (w.alloc (.cells #[.slice A l c, .int .i64 (p : Int), .bool false] 35)) (.cells #[.slice none 0 0, .int .i64 0, .bool false] 35)
    simpa using this
  have hsz0 : w.heap.size + 2 ≤ ((w.alloc (.cells #[.slice A l c, .int .i64 (p : Int), .bool false] 35)).alloc (.cells #[.slice none 0 0, .int .i64 0, .bool false] 35)).heap.size := by simp
  have HB0 := Lib.hid hb0
  have HB := Lib.hid hB
  have HB1 := Lib.hid hB1
  have HZ := Lib.hid hsz0
  clear hb0 hB hB1 hsz0
  go_loopw [6, 7] (fun v i wr => ∃ k : Nat, k ≤ m ∧ i = .int .i64 k ∧ Hid (wr.heap[w.heap.size]? = some (.cells #[.slice A l c, .int .i64 (p : Int), .bool false] 35 (0, 0))) ∧ Hid (wr.heap[w.heap.size + 1]? = some (.cells #[.slice none 0 0, .int .i64 0, .bool false] 35 (0, 0))) ∧
      Hid (wr.ownsRow (w.heap.size + 2) 5 1 v k (((bs.drop p).take k).map (Value.int .u8))) ∧ Hid (Below w.heap.size w wr) ∧ Hid (w.heap.size + 2 ≤ wr.heap.size)) (fun _ i _ => m - (intOf i).toNat)
  case atStart => exact ⟨0, Nat.zero_le _, rfl, HB, HB1, World.ownsRow_nil _ _ _ _, HB0, HZ⟩
  case round =>
    clear HB HB1 HB0 HZ
    obtain ⟨k, hk, rfl, HB, HB1, HO, HBe, HZ⟩ := hrel
    have s0 : wr.cell? ⟨w.heap.size, 0, none⟩ = some (.slice A l c) := by simp [World.cell?, HB.out]
    have s1 : wr.cell? ⟨w.heap.size, 1, none⟩ = some (.int .i64 (p : Int)) := by simp [World.cell?, HB.out]
    have s2 : wr.cell? ⟨w.heap.size, 2, none⟩ = some (.bool false) := by simp [World.cell?, HB.out]
    by_cases hlt : k < m
    · obtain ⟨b, o, rfl, hbl, hcell⟩ := (HS.out.below HBe.out).rd (by rw [← HL.out]; omega)
      obtain ⟨x, ex⟩ : ∃ x, x = bs.getD (p + k) 0 := ⟨_, rfl⟩
      have hcx : wr.cell? ⟨b, o + (p + k), none⟩ = some (.int .u8 x) := by rw [ex]; exact hcell (p + k) (by rw [← HL.out]; omega)
      have EX := Lib.hid ex
      clear hcell ex
      have i0' : (0 : Int) ≤ (p : Int) + k := by omega
      have i1' : (p : Int) + k < (l : Int) := by omega
      go_wp2_with (at_builtin; refine wpList_append_own _ rfl (.tmp 30) (.tmp 39) 22 rfl (w.heap.size + 2) 5 i0 (.int .u8 0) 1 1 Try.underlying22 hi hz0 hz1 hz2 rfl (by decide) _ _ _ rfl (HO.out.alloc _) ⟨wr.heap.size, 0, none⟩ 1 1 [.int .u8 x] rfl rfl ?c1 ?c2 ?c3 ?c4 ?c5 ?_)
      case c1 => exact cell_one_new _ _ _
      case c2 => intro u hu; simp at hu; subst hu; rfl
      case c3 => unfold maxLen; omega
      case c4 => omega
      case c5 => have := HZ.out; simp; omega
      intro v' w2 hown' hgrow _
      have hlo := fun g hg => (World.ownsRow.lt HO.out g hg).1
      have hfar : ∀ j, j < w.heap.size + 2 → w2.heap[j]? = wr.heap[j]? := fun j hj => by
        rw [hgrow.block j (by have := HZ.out; simp; omega) (fun e => by have := hlo j e.symm; omega)]
        exact Below.heap_alloc _ _ _ (by have := HZ.out; omega)
      have HB' := Lib.hid ((hfar w.heap.size (by omega)).trans HB.out)
      have HB1' := Lib.hid ((hfar (w.heap.size + 1) (by omega)).trans HB1.out)
      have HBe' := Lib.hid ((HBe.out.alloc (by have := HZ.out; omega) (.cells #[.int .u8 x] 5)).grown hgrow (by have := HZ.out; simp; omega) (fun g hg => by have := hlo g hg; omega))
      have HZ' := Lib.hid (show w.heap.size + 2 ≤ w2.heap.size by have h1 := HZ.out; have h2 := hgrow.size; simp at h2; omega)
      have HO' : Hid (w2.ownsRow (w.heap.size + 2) 5 1 v' (k + 1) (((bs.drop p).take (k + 1)).map (Value.int .u8))) := by
        have hl' := HL.out
        rw [take_snoc (show k < (bs.drop p).length by simp; omega), List.map_append]
        have e : (bs.drop p).getD k 0 = x := by rw [EX.out]; simp [List.getD]
        rw [e]
        have h := hown'
        rw [← List.map_drop, ← List.map_take] at h
        exact h
      clear hown' hgrow hlo hfar HB HB1 HO HBe HZ s0 s1 s2 hcx
      go_wp2
      go_roundw
      case rel => exact ⟨k + 1, by omega, by go_num, HB', HB1', HO', HBe', HZ'⟩
      case measure => simp [intOf]; omega
    · obtain rfl : k = m := by omega
      have r0 : wr.cell? ⟨w.heap.size + 1, 0, none⟩ = some (.slice none 0 0) := by simp [World.cell?, HB1.out]
      have r1 : wr.cell? ⟨w.heap.size + 1, 1, none⟩ = some (.int .i64 0) := by simp [World.cell?, HB1.out]
      have r2 : wr.cell? ⟨w.heap.size + 1, 2, none⟩ = some (.bool false) := by simp [World.cell?, HB1.out]
      have fs : wr.frozen? ⟨w.heap.size, 1, none⟩ = false := by simp [World.frozen?, HB.out]
      have f0 : wr.frozen? ⟨w.heap.size + 1, 0, none⟩ = false := by simp [World.frozen?, HB1.out]
      have f1 : wr.frozen? ⟨w.heap.size + 1, 1, none⟩ = false := by simp [World.frozen?, HB1.out]
      have f2 : wr.frozen? ⟨w.heap.size + 1, 2, none⟩ = false := by simp [World.frozen?, HB1.out]
      have hpm : (p : Int) + k ≤ 9223372036854775807 := by omega
      obtain ⟨A', c', hv, _, _⟩ := own_form HO.out
      rw [hv] at HO
      rw [hv]
      clear hv
      go_wp2
      have hlen : ((bs.drop p).take k).length = k := by have := HL.out; simp; omega
      have hown := ownsRow_setCell_below (ownsRow_setCell_below (ownsRow_setCell_below (ownsRow_setCell_below HO.out (a := ⟨w.heap.size, 1, none⟩) (by simp) (.int .i64 ((p : Int) + k))) (a := ⟨w.heap.size + 1, 0, none⟩) (by simp) (.slice A l c)) (a := ⟨w.heap.size + 1, 1, none⟩) (by simp) (.int .i64 ((p : Int) + k))) (a := ⟨w.heap.size + 1, 2, none⟩) (by simp) (.bool false)
      have hbe := (((HBe.out.setCell (p := ⟨w.heap.size, 1, none⟩) (Nat.le_refl _) (.int .i64 ((p : Int) + k))).setCell (p := ⟨w.heap.size + 1, 0, none⟩) (by simp) (.slice A l c)).setCell (p := ⟨w.heap.size + 1, 1, none⟩) (by simp) (.int .i64 ((p : Int) + k))).setCell (p := ⟨w.heap.size + 1, 2, none⟩) (by simp) (.bool false)
      have hblk : ((((wr.setCell ⟨w.heap.size, 1, none⟩ (.int .i64 ((p : Int) + k))).setCell ⟨w.heap.size + 1, 0, none⟩ (.slice A l c)).setCell ⟨w.heap.size + 1, 1, none⟩ (.int .i64 ((p : Int) + k))).setCell ⟨w.heap.size + 1, 2, none⟩ (.bool false)).heap[w.heap.size + 1]? = some (.cells #[.slice A l c, .int .i64 ((p : Int) + k), .bool false] 35 (0, 0)) := by
        simp [World.setCell, Array.getElem?_modify, HB1.out]
      generalize (((wr.setCell ⟨w.heap.size, 1, none⟩ (.int .i64 ((p : Int) + k))).setCell ⟨w.heap.size + 1, 0, none⟩ (.slice A l c)).setCell ⟨w.heap.size + 1, 1, none⟩ (.int .i64 ((p : Int) + k))).setCell ⟨w.heap.size + 1, 2, none⟩ (.bool false) = W at *
      have q0 : W.cell? ⟨w.heap.size + 1, 0, none⟩ = some (.slice A l c) := by simp [World.cell?, hblk]
      have q1 : W.cell? ⟨w.heap.size + 1, 1, none⟩ = some (.int .i64 ((p : Int) + k)) := by simp [World.cell?, hblk]
      have q2 : W.cell? ⟨w.heap.size + 1, 2, none⟩ = some (.bool false) := by simp [World.cell?, hblk]
      refine bodyPost_ret (v := .tuple #[scanV A l c ((p : Int) + k) false, .slice A' k c']) (by simp [results, Try.results25, go_sem, q0, q1, q2]) rfl ⟨A', c', rfl, ?_, hbe⟩
      have hn : New (w.heap.size + 2) W A' c' ((bs.drop p).take k) := by
        unfold New
        rw [hlen]
        exact hown
      exact hn.sl

theorem rSize_no {n : Int} (h : sizeB n = false) (w : World) : Calls Try.prog 36 #[.int .i64 n] w fun e w' => e = .returned (.bool false) ∧ w = w' := by
  have := rSize_any n w
  rw [h] at this
  exact this
theorem rSize_yes {n : Int} (h : sizeB n = true) (w : World) : Calls Try.prog 36 #[.int .i64 n] w fun e w' => e = .returned (.bool true) ∧ w = w' := by
  have := rSize_any n w
  rw [h] at this
  exact this

/-- What Bytes comes to: the scan behind it, and the bytes D. -/
def RGives (w : World) (A : Option Addr) (l c : Nat) (p' : Int) (bd' : Bool) (D : List Int) (e : Ending) (w' : World) : Prop :=
  ∃ A' c', e = .returned (.tuple #[scanV A l c p' bd', .slice A' D.length c']) ∧ Sl w' A' c' D ∧ Below w.heap.size w w'
/-- What Num and Int come to: the scan behind it, and a number. -/
def RTells (w : World) (A : Option Addr) (l c : Nat) (p' : Int) (bd' : Bool) (v : Value) (e : Ending) (w' : World) : Prop :=
  e = .returned (.tuple #[scanV A l c p' bd', v]) ∧ Below w.heap.size w w'

theorem rBytes_none (A : Option Addr) (l c p : Nat) (bd : Bool) (n : Int) (w : World) (hp : p ≤ l) (hl : l ≤ 9223372036854775807) (h : bd = true ∨ n < 0 ∨ (l : Int) - p < n) :
    Calls Try.prog 25 #[scanV A l c p bd, .int .i64 n] w (RGives w A l c p true []) := by
  have k : Calls Try.prog 25 #[scanV A l c p bd, .int .i64 n] w fun e w' => e = .returned (.tuple #[scanV A l c p true, .slice none 0 0]) ∧ Below w.heap.size w w' := by
    cases bd
    · exact rBytes_no A l c p n w hp hl (by simpa using h)
    · exact rBytes_bad A l c p n w
  exact k.mono fun e w' ⟨he, hb⟩ => ⟨none, 0, he, ⟨by simp, by omega, Rd.empty⟩, hb⟩

theorem rBytes_some (A : Option Addr) (c p m : Nat) (bs : List Int) (w : World) (hs : Sl w A c bs) (hp : p + m ≤ bs.length) (hl : bs.length ≤ 140737488355328) :
    Calls Try.prog 25 #[scanV A bs.length c p false, .int .i64 m] w (RGives w A bs.length c ((p : Int) + m) false ((bs.drop p).take m)) := by
  have hlen : ((bs.drop p).take m).length = m := by simp; omega
  refine (rBytes_yes A c p m bs w hs hp hl).mono ?_
  rintro e w' ⟨A', c', he, hsl, hb⟩
  exact ⟨A', c', by rw [hlen]; exact he, hsl, hb⟩

set_option maxHeartbeats 2000000 in
set_option maxRecDepth 100000 in
theorem rNum_of (A : Option Addr) (l c : Nat) (p p' n n' : Int) (bd bd' : Bool) (D : List Int) (w : World) (hn : n' = if sizeB n then n else -1) (hD : D.length ≤ 8) (oD : Oct D)
    (hB : ∀ W, Below w.heap.size w W → Calls Try.prog 25 #[scanV A l c p bd, .int .i64 n'] W (RGives W A l c p' bd' D)) :
    Calls Try.prog 21 #[scanV A l c p bd, .int .i64 n] w (RTells w A l c p' bd' (.int .u64 (val D))) := by
  have HD := Lib.hid oD
  have HC := Lib.hid hB
  clear oD hB
  obtain ⟨d, ed⟩ : ∃ d, d = D.length := ⟨_, rfl⟩
  rw [← ed] at hD
  have ED := Lib.hid ed
  clear ed
  have hb0 : Below w.heap.size w ((w.alloc (.cells #[.slice A l c, .int .i64 p, .bool bd] 35)).alloc (.cells #[.slice none 0 0, .int .i64 0, .bool false] 35)) := ((Below.refl _ w).alloc (Nat.le_refl _) _).alloc (by simp) _
  have hB1 : ((w.alloc (.cells #[.slice A l c, .int .i64 p, .bool bd] 35)).alloc (.cells #[.slice none 0 0, .int .i64 0, .bool false] 35)).heap[w.heap.size + 1]? = some (.cells #[.slice none 0 0, .int .i64 0, .bool false] 35 (0, 0)) := by
    have := heap_alloc_new (w.alloc (.cells #[.slice A l c, .int .i64 p, .bool bd] 35)) (.cells #[.slice none 0 0, .int .i64 0, .bool false] 35)
    simpa using this
  have hB0 : ((w.alloc (.cells #[.slice A l c, .int .i64 p, .bool bd] 35)).alloc (.cells #[.slice none 0 0, .int .i64 0, .bool false] 35)).heap[w.heap.size]? = some (.cells #[.slice A l c, .int .i64 p, .bool bd] 35 (0, 0)) := by
    rw [Below.heap_alloc _ _ _ (by simp)]
    exact heap_alloc_new w _
  have HB0 := Lib.hid hb0
  have HR := Lib.hid hB1
  have HQ := Lib.hid hB0
  clear hb0 hB1 hB0
  rcases hsz : sizeB n with _ | _
  all_goals
    have hs := Lib.hid hsz
    rw [hsz] at hn
    simp only [Bool.false_eq_true, if_false, if_true] at hn
    subst hn
    clear hsz
    go_enter Try.func21, Try.ntmps21
    go_wp2_with (go_at_call 36; first | (refine (rSize_no hs.out _).mono ?_; rintro e w' ⟨rfl, rfl⟩) | (refine (rSize_yes hs.out _).mono ?_; rintro e w' ⟨rfl, rfl⟩))
    refine (HC.out _ HB0.out).mono ?_
    rintro e w1 ⟨A', c', rfl, hsl, hb1⟩
    rw [← ED.out]
    have hr1 := (hb1.block (w.heap.size + 1) (lt_of_block HR.out)).trans HR.out
    have HR1 := Lib.hid hr1
    have HB1 := Lib.hid (HB0.out.trans (hb1.mono HB0.out.size))
    have HSl := Lib.hid hsl
    have hz1 : w.heap.size + 1 < w1.heap.size := lt_of_block hr1
    clear hr1 hb1 hsl
    go_wp2_with fail
    generalize hW : w1.alloc (.cells #[.slice A l c, .int .i64 p', .bool bd'] 35) = W
    have HW := Lib.hid hW
    clear hW
    go_loop [9, 10] (fun x i => ∃ k : Nat, ∃ V : Int, k ≤ d ∧ i = .int .i64 k ∧ x = .int .u64 V ∧ 0 ≤ V ∧ V < 18446744073709551616 ∧ Hid (V = val (D.take k))) (fun _ i => d - (intOf i).toNat)
    case atStart => exact ⟨0, 0, Nat.zero_le _, rfl, rfl, by omega, by omega, by unfold Hid; simp [val]⟩
    case round =>
      obtain ⟨k, V, hk, rfl, rfl, hV0, hV1, HV⟩ := hrel
      by_cases hlt : k < d
      · obtain ⟨b, o, rfl, hbl, hcell⟩ := HSl.out.rd (by rw [← ED.out]; omega)
        obtain ⟨x, ex⟩ : ∃ x, x = D.getD k 0 := ⟨_, rfl⟩
        have hx := HD.out.at_ k
        rw [← ex] at hx
        have hcx : W.cell? ⟨b, o + k, none⟩ = some (.int .u8 x) := by
          rw [← HW.out, World.cell?_alloc_lt _ _ _ hbl, ex]
          exact hcell k (by rw [← ED.out]; omega)
        obtain ⟨hx0, hx1⟩ := hx
        have hV2 : V < 72057594037927936 := by rw [HV.out]; exact val_seven (HD.out.take k) (by simp; omega)
        have EX := Lib.hid ex
        clear hcell ex
        have b1 : (0 : Int) ≤ (k : Int) := by omega
        have b2 : (k : Int) < (d : Int) := by omega
        go_wp2
        go_round
        case rel => exact ⟨k + 1, 256 * V + x, by omega, by go_num, rfl, by omega, by omega, by unfold Hid; rw [take_snoc (by rw [← ED.out]; exact hlt), val_snoc, ← EX.out, ← HV.out, Int.mul_comm]⟩
        case measure => simp [intOf]; omega
      · obtain rfl : k = d := by omega
        have hv : V = val D := by rw [HV.out, List.take_of_length_le (by rw [← ED.out]; omega)]
        have HVV := Lib.hid hv
        clear hv
        have hblk : W.heap[w1.heap.size]? = some (.cells #[.slice A l c, .int .i64 p', .bool bd'] 35 (0, 0)) := by rw [← HW.out]; exact heap_alloc_new w1 _
        have hblk1 : W.heap[w.heap.size + 1]? = some (.cells #[.slice none 0 0, .int .i64 0, .bool false] 35 (0, 0)) := by rw [← HW.out, Below.heap_alloc _ _ _ hz1]; exact HR1.out
        have t0 : W.cell? ⟨w1.heap.size, 0, none⟩ = some (.slice A l c) := by simp [World.cell?, hblk]
        have t1 : W.cell? ⟨w1.heap.size, 1, none⟩ = some (.int .i64 p') := by simp [World.cell?, hblk]
        have t2 : W.cell? ⟨w1.heap.size, 2, none⟩ = some (.bool bd') := by simp [World.cell?, hblk]
        have r0 : W.cell? ⟨w.heap.size + 1, 0, none⟩ = some (.slice none 0 0) := by simp [World.cell?, hblk1]
        have r1 : W.cell? ⟨w.heap.size + 1, 1, none⟩ = some (.int .i64 0) := by simp [World.cell?, hblk1]
        have r2 : W.cell? ⟨w.heap.size + 1, 2, none⟩ = some (.bool false) := by simp [World.cell?, hblk1]
        have f0 : W.frozen? ⟨w.heap.size + 1, 0, none⟩ = false := by simp [World.frozen?, hblk1]
        have f1 : W.frozen? ⟨w.heap.size + 1, 1, none⟩ = false := by simp [World.frozen?, hblk1]
        have f2 : W.frozen? ⟨w.heap.size + 1, 2, none⟩ = false := by simp [World.frozen?, hblk1]
        have HK1 := Lib.hid hblk1
        clear hblk hblk1
        go_wp2
        have hbe := (((HB1.out.alloc (by omega) (.cells #[.slice A l c, .int .i64 p', .bool bd'] 35)).setCell (p := ⟨w.heap.size + 1, 0, none⟩) (by simp) (.slice A l c)).setCell (p := ⟨w.heap.size + 1, 1, none⟩) (by simp) (.int .i64 p')).setCell (p := ⟨w.heap.size + 1, 2, none⟩) (by simp) (.bool bd')
        rw [HW.out] at hbe
        have hfin : (((W.setCell ⟨w.heap.size + 1, 0, none⟩ (.slice A l c)).setCell ⟨w.heap.size + 1, 1, none⟩ (.int .i64 p')).setCell ⟨w.heap.size + 1, 2, none⟩ (.bool bd')).heap[w.heap.size + 1]? = some (.cells #[.slice A l c, .int .i64 p', .bool bd'] 35 (0, 0)) := by
          simp [World.setCell, Array.getElem?_modify, HK1.out]
        generalize ((W.setCell ⟨w.heap.size + 1, 0, none⟩ (.slice A l c)).setCell ⟨w.heap.size + 1, 1, none⟩ (.int .i64 p')).setCell ⟨w.heap.size + 1, 2, none⟩ (.bool bd') = W2 at *
        have q0 : W2.cell? ⟨w.heap.size + 1, 0, none⟩ = some (.slice A l c) := by simp [World.cell?, hfin]
        have q1 : W2.cell? ⟨w.heap.size + 1, 1, none⟩ = some (.int .i64 p') := by simp [World.cell?, hfin]
        have q2 : W2.cell? ⟨w.heap.size + 1, 2, none⟩ = some (.bool bd') := by simp [World.cell?, hfin]
        rw [← HVV.out]
        exact bodyPost_ret (v := .tuple #[scanV A l c p' bd', .int .u64 V]) (by simp [results, Try.results21, go_sem, q0, q1, q2]) rfl ⟨rfl, hbe⟩

end Go.Proofs.Ytnpmdbcijaanjaa
