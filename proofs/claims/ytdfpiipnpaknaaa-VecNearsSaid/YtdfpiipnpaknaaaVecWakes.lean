/-
  Does the layer do anything; what is more than is gone through; which hit stands ahead.
-/
import Derived.Test.YtdfpiipnpaknaaaVecRefMean
namespace Go.Proofs.Ytdfpiipnpaknaaa
open Go.RowKit Go.Shelf
set_option linter.unusedVariables false
set_option maxRecDepth 100000

def overM (l : List (List Int)) : Bool := decide (80 < l.length) || l.any (fun x => decide (100 < x.length))
theorem any_no {α : Type} (p : α → Bool) (l : List α) {k : Nat} {x : α} (h : l[k]? = some x) (hx : p x = true) : l.any p = true := by
  rw [List.any_eq_true]
  exact ⟨x, List.mem_of_getElem? h, hx⟩
theorem any_take_snoc {α : Type} (p : α → Bool) (l : List α) {k : Nat} {x : α} (h : l[k]? = some x) : (l.take (k + 1)).any p = ((l.take k).any p || p x) := by
  rw [List.take_add_one, h]; simp

set_option maxHeartbeats 400000 in
theorem over_any (A : Option Addr) (c : Nat) (l : List (List Int)) (w : World) (h : Vecs .i32 w A c l) :
    Calls Try.prog 17 #[.slice A l.length c] w fun e w' => e = .returned (.bool (overM l)) ∧ w = w' := by
  obtain ⟨n, hn⟩ : ∃ n, n = l.length := ⟨_, rfl⟩
  have hmx : n ≤ 9223372036854775807 := by rw [hn]; exact Nat.le_trans h.room h.most
  have HO := Lib.hid (show overM l = (decide (80 < n) || l.any (fun x => decide (100 < x.length))) by unfold overM; rw [hn])
  generalize overM l = R at *
  rw [← hn]
  have HV := Lib.hid h
  have HN := Lib.hid hn
  clear h hn
  by_cases h80 : 80 < n
  · have t1 : decide ((80 : Int) < (n : Int)) = true := by simp; omega
    have HT := Lib.hid (show R = true by rw [HO.out]; simp [h80])
    go_enter Try.func17, Try.ntmps17
    go_wp2
    go_ret
    rw [HT.out]
    exact ⟨rfl, rfl⟩
  · have t1 : decide ((80 : Int) < (n : Int)) = false := by simp; omega
    have HO2 := Lib.hid (show R = l.any (fun x => decide (100 < x.length)) by rw [HO.out]; simp [h80])
    clear HO
    go_enter Try.func17, Try.ntmps17
    go_wp2
    go_loop [4, 10] (fun _ i => ∃ k : Nat, k ≤ n ∧ i = .int .i64 k ∧ Hid ((l.take k).any (fun x => decide (100 < x.length)) = false)) (fun _ i => n - (intOf i).toNat)
    case atStart => exact ⟨0, Nat.zero_le _, rfl, Lib.hid (by simp)⟩
    case round =>
      obtain ⟨k, hk, rfl, HK⟩ := hrel
      by_cases hkn : k < n
      · obtain ⟨b, o, x, B, cb, rfl, hx, hb, hcell, hvec⟩ := HV.out.at_ (i := k) (by rw [← HN.out]; exact hkn)
        have HX := Lib.hid hx
        obtain ⟨xl, hxl⟩ : ∃ xl, xl = x.length := ⟨_, rfl⟩
        have HXL := Lib.hid hxl
        rw [← hxl] at hcell
        clear hx hb hvec hxl
        by_cases h100 : 100 < xl
        · have HT := Lib.hid (show R = true by rw [HO2.out]; exact any_no _ l HX.out (by rw [← HXL.out]; simpa using h100))
          have t2 : decide ((100 : Int) < (xl : Int)) = true := by simp; omega
          go_wp2
          go_ret
          rw [HT.out]
          exact ⟨rfl, rfl⟩
        · have HS := Lib.hid (show (l.take (k + 1)).any (fun x => decide (100 < x.length)) = false by rw [any_take_snoc _ l HX.out, HK.out, ← HXL.out]; simpa using h100)
          have t2 : decide ((100 : Int) < (xl : Int)) = false := by simp; omega
          go_wp2
          go_round
          case rel => exact ⟨k + 1, by omega, by go_num, HS⟩
          case measure => simp [intOf]; omega
      · obtain rfl : k = n := by omega
        have HT := Lib.hid (show R = false by rw [HO2.out]; have := HK.out; rw [HN.out, List.take_length] at this; exact this)
        go_wp2
        go_ret
        rw [HT.out]
        exact ⟨rfl, rfl⟩

theorem vec_lit (W : World) (g : Nat) (xs : List Int) (hc : ∀ j, j < xs.length → W.cell? ⟨g, j, none⟩ = some (.int .i32 (xs.getD j 0))) (h0 : 0 < xs.length) (hs : xs.length ≤ 100) (hf : ∀ x ∈ xs, (Lit.int .i32 x).wf = true) : Vec .i32 W (some ⟨g, 0, none⟩) xs.length xs :=
  ⟨Nat.le_refl _, by omega, fun _ => ⟨g, 0, rfl, World.block_lt_of_cell? W _ (hc 0 h0), fun j hj => by rw [Nat.zero_add]; exact hc j hj⟩, hf⟩

theorem wf_lits {xs : List Int} (h : ∀ x ∈ xs, -1073741823 ≤ x ∧ x ≤ 1073741823) : ∀ x ∈ xs, (Lit.int .i32 x).wf = true := fun x hx => wf32 (h x hx)

theorem d25 : distD [1, 2] [4, 6] = 25 := by decide +kernel
theorem e25 : distE [1, 2] [4, 6] = 0 := by decide +kernel
theorem m1 : meanM [[1], [2], [-4]] = [-1] := by decide +kernel
theorem me1 : meanE [[1], [2], [-4]] = 0 := by decide +kernel

def mean4 (V : World) : World := (((V.alloc (.cells #[.int .i32 1] 21)).alloc (.cells #[.int .i32 2] 21)).alloc (.cells #[.int .i32 (-4)] 21)).alloc (.cells #[.slice (some ⟨V.heap.size, 0, none⟩) 1 1, .slice (some ⟨V.heap.size + 1, 0, none⟩) 1 1, .slice (some ⟨V.heap.size + 2, 0, none⟩) 1 1] 22)
theorem vec_box {W : World} {g : Nat} {x : Int} (h : Boxed W g 21 (.int .i32 x)) (hx : -1073741823 ≤ x ∧ x ≤ 1073741823) : Vec .i32 W (some ⟨g, 0, none⟩) 1 [x] :=
  vec_lit W g [x] (fun j hj => by
    match j with
    | 0 => exact h.cell
    | j + 1 => exact absurd hj (by simp)) (by simp) (by simp) (wf_lits (by simpa using hx))
theorem wake_mean (V : World) : Calls Try.prog 19 #[.slice (some ⟨V.heap.size + 3, 0, none⟩) 3 3] (mean4 V) (fun e w' => (∃ g o c, e = .returned (.tuple #[.slice (some ⟨g, o, none⟩) 1 c, .int .i64 0]) ∧ 1 ≤ c ∧ c ≤ 9223372036854775807 ∧ w'.cell? ⟨g, o, none⟩ = some (.int .i32 (-1))) ∧ Below V.heap.size V w') := by
  have hb : Below V.heap.size V (mean4 V) := ((((Below.refl _ V).alloc (Nat.le_refl _) _).alloc (by simp) _).alloc (by simp; omega) _).alloc (by simp; omega) _
  have b1 : Boxed (mean4 V) V.heap.size 21 (.int .i32 1) := (((Boxed.new V _ _).alloc _).alloc _).alloc _
  have b2 : Boxed (mean4 V) (V.heap.size + 1) 21 (.int .i32 2) := by
    have h := (((Boxed.new (V.alloc (.cells #[.int .i32 1] 21)) 21 (.int .i32 2)).alloc (.cells #[.int .i32 (-4)] 21)).alloc (.cells #[.slice (some ⟨V.heap.size, 0, none⟩) 1 1, .slice (some ⟨V.heap.size + 1, 0, none⟩) 1 1, .slice (some ⟨V.heap.size + 2, 0, none⟩) 1 1] 22))
    rw [World.size_alloc] at h
    exact h
  have b3 : Boxed (mean4 V) (V.heap.size + 2) 21 (.int .i32 (-4)) := by
    have h := ((Boxed.new ((V.alloc (.cells #[.int .i32 1] 21)).alloc (.cells #[.int .i32 2] 21)) 21 (.int .i32 (-4))).alloc (.cells #[.slice (some ⟨V.heap.size, 0, none⟩) 1 1, .slice (some ⟨V.heap.size + 1, 0, none⟩) 1 1, .slice (some ⟨V.heap.size + 2, 0, none⟩) 1 1] 22))
    rw [World.size_alloc, World.size_alloc] at h
    exact h
  have b4 : (mean4 V).heap[V.heap.size + 3]? = some (.cells #[.slice (some ⟨V.heap.size, 0, none⟩) 1 1, .slice (some ⟨V.heap.size + 1, 0, none⟩) 1 1, .slice (some ⟨V.heap.size + 2, 0, none⟩) 1 1] 22 (0, 0)) := by
    have h := heap_alloc_new (((V.alloc (.cells #[.int .i32 1] 21)).alloc (.cells #[.int .i32 2] 21)).alloc (.cells #[.int .i32 (-4)] 21)) (.cells #[.slice (some ⟨V.heap.size, 0, none⟩) 1 1, .slice (some ⟨V.heap.size + 1, 0, none⟩) 1 1, .slice (some ⟨V.heap.size + 2, 0, none⟩) 1 1] 22)
    rw [World.size_alloc, World.size_alloc, World.size_alloc] at h
    exact h
  have v1 := vec_box b1 (by omega)
  have v2 := vec_box b2 (by omega)
  have v3 := vec_box b3 (by omega)
  have hv : Vecs .i32 (mean4 V) (some ⟨V.heap.size + 3, 0, none⟩) 3 [[1], [2], [-4]] := by
    refine ⟨by simp, by omega, fun _ => ⟨_, 0, rfl, lt_of_block b4, fun i x hx => ?_⟩⟩
    match i, hx with
    | 0, hx => simp at hx; subst hx; exact ⟨_, _, by simp [World.cell?, b4], v1⟩
    | 1, hx => simp at hx; subst hx; exact ⟨_, _, by simp [World.cell?, b4], v2⟩
    | 2, hx => simp at hx; subst hx; exact ⟨_, _, by simp [World.cell?, b4], v3⟩
    | i + 3, hx => simp at hx
  refine (mean_any (some ⟨V.heap.size + 3, 0, none⟩) 3 [[1], [2], [-4]] (mean4 V) hv (by simp)).mono ?_
  rintro e w' ⟨_, h2, h3⟩
  obtain ⟨A, c, rfl, hn, _⟩ := h2 me1
  rw [m1] at hn ⊢
  obtain ⟨g, o, rfl, _, hc⟩ := hn.rd (by simp)
  refine ⟨⟨g, o, c, rfl, hn.room, hn.most, ?_⟩, hb.trans (h3.mono hb.size)⟩
  have := hc 0 (by simp)
  simpa using this

set_option maxHeartbeats 1000000 in
theorem wakes_any (w : World) : Calls Try.prog 9 #[] w fun e w' => e = .returned (.bool true) ∧ Below w.heap.size w w' := by
  obtain ⟨W1, hW1⟩ : ∃ W1, W1 = (w.alloc (.cells #[.int .i32 1, .int .i32 2] 21)).alloc (.cells #[.int .i32 4, .int .i32 6] 21) := ⟨_, rfl⟩
  have hb1 : Below w.heap.size w W1 := by rw [hW1]; exact ((Below.refl _ w).alloc (Nat.le_refl _) _).alloc (by simp) _
  have x1 : W1.heap[w.heap.size]? = some (.cells #[.int .i32 1, .int .i32 2] 21 (0, 0)) := by rw [hW1]; exact heap_alloc2_old _ _ _
  have x2 : W1.heap[w.heap.size + 1]? = some (.cells #[.int .i32 4, .int .i32 6] 21 (0, 0)) := by rw [hW1]; exact heap_alloc2_new _ _ _
  have v1 : Vec .i32 W1 (some ⟨w.heap.size, 0, none⟩) 2 [1, 2] := vec_lit W1 _ [1, 2] (fun j hj => by
    match j with
    | 0 => simp [World.cell?, x1]
    | 1 => simp [World.cell?, x1]
    | j + 2 => exact absurd hj (by simp)) (by simp) (by simp) (wf_lits (by decide))
  have v2 : Vec .i32 W1 (some ⟨w.heap.size + 1, 0, none⟩) 2 [4, 6] := vec_lit W1 _ [4, 6] (fun j hj => by
    match j with
    | 0 => simp [World.cell?, x2]
    | 1 => simp [World.cell?, x2]
    | j + 2 => exact absurd hj (by simp)) (by simp) (by simp) (wf_lits (by decide))
  have HD := dist_any _ _ 2 2 [1, 2] [4, 6] W1 v1 v2
  rw [d25, e25] at HD
  have HD := Lib.hid HD
  have HB1 := Lib.hid hb1
  rw [hW1] at HD HB1
  have HM := Lib.hid (fun (V : World) => wake_mean V)
  unfold mean4 at HM
  clear hW1 hb1 x1 x2 v1 v2
  go_enter Try.func9, Try.ntmps9
  go_wp2_with fail
  refine HD.out.mono ?_
  rintro e w1 ⟨rfl, hb1⟩
  have HB2 := Lib.hid (HB1.out.trans (hb1.mono HB1.out.size))
  clear hb1
  go_wp2_with fail
  refine (HM.out w1).mono ?_
  rintro e w2 ⟨⟨g, o, c, rfl, hc1, hcm, hc⟩, hb2⟩
  have HB3 := Lib.hid (HB2.out.trans (hb2.mono HB2.out.size))
  clear hb2
  go_wp2
  go_ret
  exact ⟨by simp, HB3.out⟩

end Go.Proofs.Ytdfpiipnpaknaaa
