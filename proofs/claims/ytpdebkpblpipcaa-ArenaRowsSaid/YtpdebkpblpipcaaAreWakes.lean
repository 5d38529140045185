/-
  The laws' own: one, over; wakes.
-/
import Derived.Test.YtpdebkpblpipcaaAreDoPut
import Derived.Test.YtpdebkpblpipcaaAreRows
import Derived.Test.YtpdebkpblpipcaaAreFree
namespace Go.Proofs.Ytpdebkpblpipcaa
open Go.RowKit Go.Shelf
set_option linter.unusedVariables false
set_option linter.unusedSimpArgs false
set_option maxRecDepth 100000

theorem one_any (b : Int) (w : World) : Calls Try.prog 30 #[.int .u64 b] w fun e w' => ∃ g, e = .returned (.agg #[.int .u64 b, .int .u64 0, .slice (some ⟨g, 0, none⟩) 1 1]) ∧ Vec .i32 w' (some ⟨g, 0, none⟩) 1 [5] ∧ Below w.heap.size w w' := by
  obtain ⟨W, hW⟩ : ∃ W, W = (w.alloc (.cells #[.int .u64 0, .int .u64 0, .slice none 0 0] 43)).alloc (.cells #[.int .i32 5] 21) := ⟨_, rfl⟩
  have hb : Below w.heap.size w W := by rw [hW]; exact ((Below.refl _ w).alloc (Nat.le_refl _) _).alloc (by simp) _
  have hx : W.heap[w.heap.size]? = some (.cells #[.int .u64 0, .int .u64 0, .slice none 0 0] 43 (0, 0)) := by rw [hW]; exact (Below.heap_alloc _ _ _ (by simp)).trans (heap_alloc_new _ _)
  have hy : W.heap[w.heap.size + 1]? = some (.cells #[.int .i32 5] 21 (0, 0)) := by
    rw [hW]; have := heap_alloc_new (w.alloc (.cells #[.int .u64 0, .int .u64 0, .slice none 0 0] 43)) (.cells #[.int .i32 5] 21); rwa [World.size_alloc] at this
  obtain ⟨W3, hW3⟩ : ∃ W3, W3 = W.setRow w.heap.size #[.int .u64 b, .int .u64 0, .slice (some ⟨w.heap.size + 1, 0, none⟩) 1 1] := ⟨_, rfl⟩
  have hx3 := setRow_heap W w.heap.size _ #[.int .u64 b, .int .u64 0, .slice (some ⟨w.heap.size + 1, 0, none⟩) 1 1] _ _ hx
  rw [← hW3] at hx3
  have r0 := (cell_of_row _ _ 0 _ _ _ hx3).trans rfl
  have r1 := (cell_of_row _ _ 1 _ _ _ hx3).trans rfl
  have r2 := (cell_of_row _ _ 2 _ _ _ hx3).trans rfl
  have hy3 : W3.heap[w.heap.size + 1]? = some (.cells #[.int .i32 5] 21 (0, 0)) := by rw [hW3]; exact (setRow_other _ _ _ _ (by omega)).trans hy
  have HF := Lib.hid (show Vec .i32 W3 (some ⟨w.heap.size + 1, 0, none⟩) 1 [5] ∧ Below w.heap.size w W3 from
    ⟨⟨by simp, by omega, fun _ => ⟨w.heap.size + 1, 0, rfl, lt_of_block hy3, fun j hj => by
        obtain rfl : j = 0 := by simp at hj; omega
        exact (cell_of_row _ _ 0 _ _ _ hy3).trans rfl⟩, fun x hx => by simp at hx; subst hx; decide⟩, by rw [hW3]; exact hb.trans ((turn_row _ _ _).below hb.size (fun i hi => by omega))⟩)
  have HX := Lib.hid hx
  have HW := Lib.hid hW
  have HW3 := Lib.hid hW3
  clear hb hx hy hx3 hy3 hW hW3
  go_enter Try.func30, Try.ntmps30
  go_wp2_with (first | (rw [← HW.out]) | (refine wpList_store_row rfl 43 _ _ rfl w.heap.size _ rfl rfl 43 _ HX.out (by kernel_rfl) rfl (by simp [Value.oneCell']) ?_; rw [← HW3.out]))
  exact bodyPost_ret (v := .agg #[.int .u64 b, .int .u64 0, .slice (some ⟨w.heap.size + 1, 0, none⟩) 1 1]) (by simp [results, Try.results30, go_sem, r0, r1, r2]) rfl ⟨w.heap.size + 1, rfl, HF.out.1, HF.out.2⟩

/-- More than is gone through. -/
def overB (l : List Ce) : Bool := decide (120 < l.length) || l.any fun e => decide (50 < e.x.length)
theorem over_no {l : List Ce} (h : overB l = false) : l.length ≤ 120 ∧ ∀ e ∈ l, e.x.length ≤ 50 := by
  unfold overB at h
  rw [Bool.or_eq_false_iff] at h
  obtain ⟨h1, h2⟩ := h
  refine ⟨by simpa using h1, fun e he => ?_⟩
  rw [List.any_eq_false] at h2
  have := h2 e he
  simp at this
  omega

set_option maxHeartbeats 1000000 in
theorem overC_any (A : Option Addr) (c : Nat) (q : List Pa) (w : World) (h : Are w A c q) :
    Calls Try.prog 22 #[.slice A q.length c] w fun e w' => e = .returned (.bool (overB (ces q))) ∧ Below w.heap.size w w' := by
  obtain ⟨n, hn⟩ : ∃ n, n = q.length := ⟨_, rfl⟩
  have hmn : n ≤ 9223372036854775807 := by rw [hn]; exact h.many
  rw [← hn]
  generalize hR : overB (ces q) = R at *
  have HR := Lib.hid hR
  have HQ := Lib.hid h
  have HN := Lib.hid hn
  have hlen : (ces q).length = n := by rw [ces_length, hn]
  by_cases h120 : 120 < n
  · have HF := Lib.hid (show R = true by rw [← hR]; unfold overB; rw [hlen]; simp [h120])
    have t : (120 : Int) < n := by omega
    clear h hn hR hlen h120
    go_enter Try.func22, Try.ntmps22
    go_wp2
    go_ret
    rw [HF.out]
    exact ⟨rfl, Below.refl _ _⟩
  · have t : decide ((120 : Int) < n) = false := by simp; omega
    have HAny := Lib.hid (show (ces q).any (fun e => decide (50 < e.x.length)) = R by rw [← hR]; unfold overB; rw [hlen]; simp [h120])
    clear h hn hR h120
    have HLen := Lib.hid hlen
    clear hlen
    go_enter Try.func22, Try.ntmps22
    go_wp2
    go_loopw [10] (fun i wr => ∃ k : Nat, k ≤ n ∧ i = .int .i64 k ∧ Hid (NoneC (fun e => decide (50 < e.x.length)) (ces q) k) ∧ Hid (Below w.heap.size w wr)) (fun i _ => n - (intOf i).toNat)
    case atStart => exact ⟨0, Nat.zero_le _, rfl, Lib.hid (fun j u hj => by omega), Lib.hid (Below.refl _ _)⟩
    case round =>
      obtain ⟨k, hk, rfl, HK, HB⟩ := hrel
      by_cases hkn : k < n
      · obtain ⟨b, o, p, rfl, hp, hbb, c0, c1, c2, c3, c4, hv, hf⟩ := (HQ.out.below HB.out).at_ (i := k) (by rw [← HN.out]; exact hkn)
        have HP := Lib.hid (ces_at hp)
        have k0 : (0 : Int) ≤ k := by omega
        have kn : (k : Int) < n := by omega
        have HB1 := Lib.hid (HB.out.trans ((cel_alloc wr p.e.u p.e.i p.e.b p.e.f p.B p.e.x.length p.c).mono HB.out.size))
        clear hv hp hf
        by_cases h50 : 50 < p.e.x.length
        · have HF := Lib.hid (show R = true by rw [← HAny.out]; exact List.any_eq_true.2 ⟨p.e, List.mem_of_getElem? HP.out, by simpa using h50⟩)
          have t5 : (50 : Int) < p.e.x.length := by omega
          generalize p.e.x.length = nx at *
          clear h50
          go_wp2
          go_ret
          rw [HF.out]
          exact ⟨rfl, HB1.out⟩
        · have HK2 := Lib.hid (HK.out.step HP.out (by simpa using h50))
          have t5 : decide ((50 : Int) < p.e.x.length) = false := by simp; omega
          generalize p.e.x.length = nx at *
          clear h50
          go_wp2
          go_roundw
          case rel => exact ⟨k + 1, by omega, by go_num, HK2, HB1⟩
          case measure => simp [intOf]; omega
      · obtain rfl : k = n := by omega
        have HF := Lib.hid (show R = false by
          rw [← HAny.out, List.any_eq_false]
          intro e he
          obtain ⟨j, hj, rfl⟩ := List.getElem_of_mem he
          have h5 : decide (50 < ((ces q)[j]).x.length) = false := HK.out j _ (by rw [HLen.out] at hj; exact hj) (List.getElem?_eq_getElem hj)
          rw [h5]; simp)
        go_wp2
        go_ret
        rw [HF.out]
        exact ⟨rfl, HB.out⟩
theorem over_any (A : Option Addr) (c : Nat) (q : List Pa) (w : World) (h : Are w A c q) :
    Calls Try.prog 9 #[.agg #[.slice A q.length c]] w fun e w' => e = .returned (.bool (overB (ces q))) ∧ Below w.heap.size w w' := by
  have hb : Below w.heap.size w (w.alloc (.cells #[.slice A q.length c] 24)) := (Below.refl _ w).alloc (Nat.le_refl _) _
  have HC := Lib.hid (overC_any A c q _ (h.below hb))
  have HB := Lib.hid hb
  generalize overB (ces q) = R at *
  generalize q.length = n at *
  clear h hb
  go_enter Try.func9, Try.ntmps9
  go_wp2_with fail
  refine HC.out.mono ?_
  rintro e w1 ⟨rfl, hb1⟩
  have HB1 := Lib.hid (HB.out.trans (hb1.mono HB.out.size))
  clear hb1
  go_wp2
  go_ret
  exact ⟨rfl, HB1.out⟩

/-! ### wakes -/
def a0 : List Ce := List.replicate 96 zc
def a1 : List Ce := a0.set 0 ⟨true, 7, 1, 0, [5]⟩
def a2 : List Ce := a1.set 1 ⟨true, 2, 3, 0, [5]⟩
theorem wk1 : putE a0 1 0 [5] = 0 := by decide +kernel
theorem wk2 : putK a0 1 0 [5] = 0 := by decide +kernel
theorem wk3 : putL a0 7 1 0 [5] = a1 := by decide +kernel
theorem wk4 : putE a1 3 0 [5] = 0 := by decide +kernel
theorem wk5 : putK a1 3 0 [5] = 1 := by decide +kernel
theorem wk6 : putL a1 2 3 0 [5] = a2 := by decide +kernel
theorem wk7 : arB a2 = true := by decide +kernel
theorem wk8 : freeA a2 = 94 := by decide +kernel
theorem wk9 : pickL a2 (fun _ => true) = [0, 1] := by decide +kernel
instance (l : List Ce) (s : List Nat) : Decidable (Srt l s) := by unfold Srt; infer_instance
theorem wk10 : rowsS a2 = [1, 0] := by
  unfold rowsS ordS
  rw [wk9]
  exact ord_of (List.Perm.swap 0 1 []) (by decide +kernel) (by decide)
theorem wk11 : rowsA a2 = [⟨true, 2, 3, 0, [5]⟩, ⟨true, 7, 1, 0, [5]⟩] := by
  unfold rowsA
  rw [if_pos wk7, wk10]
  decide +kernel

set_option maxHeartbeats 4000000 in
theorem wakes_any (w : World) : Calls Try.prog 8 #[] w fun e w' => e = .returned (.bool true) ∧ Below w.heap.size w w' := by
  have HN := Lib.hid (newA_any w)
  go_enter Try.func8, Try.ntmps8
  go_wp2_with fail
  refine HN.out.mono ?_
  rintro e w1 ⟨g, q0, rfl, hq0, hl0, ho0, hb1⟩
  have HA0 := Lib.hid (show Are w1 (some ⟨g, 0, none⟩) 96 q0 from ho0.are)
  have HB1 := Lib.hid hb1
  have HO1 := Lib.hid (one_any 1 w1)
  have HQ0 := Lib.hid (show ces q0 = a0 from hq0)
  have HL0 := Lib.hid hl0
  clear hq0 hl0 ho0 hb1
  go_wp2_with fail
  refine HO1.out.mono ?_
  rintro e w2 ⟨g1, rfl, hv1, hb2⟩
  have hp := put_any (some ⟨g, 0, none⟩) 96 q0 7 1 0 (some ⟨g1, 0, none⟩) 1 [5] w2 (HA0.out.below hb2) hv1 (by unfold U64s; decide) (by unfold U64s; decide) u64_0
  rw [HQ0.out, HL0.out, wk1, wk2, wk3] at hp
  have HP1 := Lib.hid hp
  have HB2 := Lib.hid (HB1.out.trans (hb2.mono HB1.out.size))
  clear hv1 hb2 hp
  go_wp2_with fail
  refine HP1.out.mono ?_
  rintro e w3 ⟨A3, c3, q3, rfl, hq3, ho3, hb3⟩
  have HB3 := Lib.hid (HB2.out.trans (hb3.mono HB2.out.size))
  have hl3 : q3.length = 96 := by rw [← ces_length, hq3]; decide +kernel
  have HA3 := Lib.hid ho3.are
  have HQ3 := Lib.hid hq3
  obtain ⟨z, hz⟩ : ∃ z, z = w3.heap.size := ⟨_, rfl⟩
  obtain ⟨V, hV⟩ : ∃ V, V = w3.alloc (.cells #[.slice A3 q3.length c3] 24) := ⟨_, rfl⟩
  have hbV : Below w3.heap.size w3 V := by rw [hV]; exact (Below.refl _ w3).alloc (Nat.le_refl _) _
  have hxV : Boxed V z 24 (.slice A3 q3.length c3) := by rw [hV, hz]; exact Boxed.new w3 _ _
  have HX := Lib.hid hxV
  have HBV := Lib.hid (HB3.out.trans (hbV.mono HB3.out.size))
  have HAV := Lib.hid (HA3.out.below hbV)
  have HV := Lib.hid hV
  have HZ := Lib.hid hz
  have HWz := Lib.hid (show w.heap.size ≤ z by rw [hz]; exact HB3.out.size)
  have cz := hxV.cell
  have fz := hxV.frozen
  rw [hl3] at HX HV cz ⊢
  have HL3 := Lib.hid hl3
  clear hq3 ho3 hb3 hl3 hbV hV hxV hz
  go_wp2_with (rw [← HV.out])
  rw [← HZ.out]
  go_region_with (first
    | (go_at_call 30; refine (one_any 3 _).mono ?_; rintro e w4 ⟨g4, rfl, hv4, hb4⟩; have hb4' : Below V.heap.size V w4 := (below_drew (Below.refl _ V)).trans hb4; have x4 : Boxed w4 z 24 (.slice A3 96 c3) := (hb4'.block _ HX.out.lt).trans HX.out; have cz4 := x4.cell; have hp4 := put_any A3 c3 q3 2 3 0 (some ⟨g4, 0, none⟩) 1 [5] w4 (HAV.out.below hb4') hv4 (by unfold U64s; decide) (by unfold U64s; decide) u64_0; rw [HQ3.out, HL3.out, wk4, wk5, wk6] at hp4; have HP4 := Lib.hid hp4; have HB4 := Lib.hid hb4'; have HX4 := Lib.hid x4; clear hv4 hb4 hb4' x4 hp4)
    | (go_at_call 26; refine HP4.out.mono ?_; rintro e w5 ⟨A5, c5, q5, rfl, hq5, ho5, hb5⟩; have x5 : Boxed w5 z 24 (.slice A3 96 c3) := (hb5.block _ HX4.out.lt).trans HX4.out; have cz5 := x5.cell; have fz5 := x5.frozen; have hl5 : q5.length = 96 := (by rw [← ces_length, hq5]; decide +kernel); have t5 := turn_set w5 z 0 (.slice A5 q5.length c5); have hbz := HB4.out.trans (hb5.mono HB4.out.size); have HL5 := Lib.hid hl5; have hF5 := (show ces q5 = a2 ∧ True ∧ Are (w5.setCell ⟨z, 0, none⟩ (.slice A5 q5.length c5)) A5 c5 q5 ∧ Boxed (w5.setCell ⟨z, 0, none⟩ (.slice A5 q5.length c5)) z 24 (.slice A5 q5.length c5) ∧ Below w.heap.size w (w5.setCell ⟨z, 0, none⟩ (.slice A5 q5.length c5)) from ⟨hq5, trivial, (ho5.turn t5 (fun i hi _ e => by have := HX4.out.lt; omega)).are, x5.set _, ((HBV.out.trans (hbz.mono HBV.out.size)).setCell HWz.out _)⟩); rw [hl5] at hF5 ⊢; have HF5 := Lib.hid hF5; clear hq5 ho5 hb5 x5 hl5 t5 hbz hF5))
  all_goals (
    obtain ⟨W6, hW6⟩ : ∃ W6, W6 = w5.setCell ⟨z, 0, none⟩ (.slice A5 96 c5) := ⟨_, rfl⟩
    rw [← hW6]
    rw [← hW6] at HF5
    have cz6 := HF5.out.2.2.2.1.cell
    have hb := byRows_any A5 c5 q5 W6 HF5.out.2.2.1
    have HFr := Lib.hid (fun (X : World) (hX : Below W6.heap.size W6 X) => free_any A5 c5 q5 X (HF5.out.2.2.1.below hX))
    rw [HF5.out.1, HL5.out, wk11, chkA_ok wk7] at hb
    rw [HF5.out.1, HL5.out, wk8] at HFr
    have HBR := Lib.hid hb
    clear hb hW6
    go_wp2_with fail
    refine HBR.out.mono ?_
    rintro e w7 ⟨A7, c7, q7, rfl, hq7, ho7, hb7⟩
    have hl7 : q7.length = 2 := by rw [← ces_length, hq7]; rfl
    have x7 : Boxed w7 z 24 (.slice A5 96 c5) := (hb7.block _ HF5.out.2.2.2.1.lt).trans HF5.out.2.2.2.1
    have cz7 := x7.cell
    obtain ⟨b, o, p, rfl, hp, hbb, d0, d1, d2, d3, d4, _, _⟩ := ho7.are.at_ (i := 0) (by omega)
    have hpi : p.e.i = 2 := by
      have := ces_at hp
      rw [hq7] at this
      injection this with this
      rw [← this]
    rw [hpi] at d1
    simp only [Nat.zero_mul, Nat.add_zero] at d1
    rw [hl7]
    have HFr7 := Lib.hid (HFr.out w7 hb7)
    have HB7 := Lib.hid (HF5.out.2.2.2.2.trans (hb7.mono HF5.out.2.2.2.2.size))
    clear hq7 ho7 hb7 hl7 x7 hp hbb d0 d2 d3 d4 hpi
    go_wp2_with fail
    refine HFr7.out.mono ?_
    rintro e w8 ⟨rfl, hb8⟩
    have HB8 := Lib.hid (HB7.out.trans (hb8.mono HB7.out.size))
    clear hb8
    go_wp2
    go_ret
    exact ⟨rfl, HB8.out⟩)

end Go.Proofs.Ytpdebkpblpipcaa
