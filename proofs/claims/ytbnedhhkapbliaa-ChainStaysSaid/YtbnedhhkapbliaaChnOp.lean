/-
  Op.vec, Op.ts.
-/
import Derived.Test.YtbnedhhkapbliaaChnFew
namespace Go.Proofs.Ytbnedhhkapbliaa
open Go.RowKit Go.Shelf
set_option linter.unusedVariables false
set_option linter.unusedSimpArgs false
set_option maxRecDepth 100000

def kM (K : Int) : Int := IntKind.u64.wrap K % 5
def tsM (K T : Int) (near : Bool) (L : Int) : Int := if near = true then (if kM K = 4 then L - min L (T % 10) else IntKind.u64.wrap (L + T % 6)) else T
theorem u64s_iff (x : Int) : U64s x ↔ 0 ≤ x ∧ x < 18446744073709551616 := by
  unfold U64s; simp [Lit.wf, IntKind.min, IntKind.max, IntKind.signed, IntKind.bits]; omega
theorem rLast_fit {q : List Pl} (h : ∀ p ∈ q, U64s p.v.b ∧ U64s p.v.f) : U64s (rLast (vals q)) := by
  rw [u64s_iff]
  refine ⟨rLast_ge0 _, ?_⟩
  have : rLast (vals q) ≤ 18446744073709551615 := rLast_le (by omega) (fun v hv => by
    obtain ⟨p, hp, rfl⟩ := List.mem_map.1 hv
    have := h p hp
    rw [u64s_iff, u64s_iff] at this
    omega)
  omega
theorem wrap_u64s (x : Int) : U64s (IntKind.u64.wrap x) := by rw [u64s_iff, IntKind.wrap_u64]; omega
theorem ts_fit {K T L : Int} {near : Bool} (hT : U64s T) (hL : U64s L) : U64s (tsM K T near L) := by
  unfold tsM
  rw [u64s_iff] at hT hL
  split
  · split
    · rw [u64s_iff]; omega
    · exact wrap_u64s _
  · rw [u64s_iff]; exact hT

theorem kM_tmod (K : Int) : (IntKind.u64.wrap K).tmod 5 = kM K := by unfold kM; rw [Int.tmod_eq_emod_of_nonneg (by rw [IntKind.wrap_u64]; omega)]
theorem kM_range (K : Int) : 0 ≤ kM K ∧ kM K < 5 := by unfold kM; omega

def opA (K T : Int) (near : Bool) (B : Option Addr) (n c : Nat) : Value := .agg #[.int .i64 K, .int .u64 T, .bool near, .slice B n c]

set_option maxHeartbeats 1000000 in
theorem opvec_any (K T : Int) (near : Bool) (B : Option Addr) (c : Nat) (x : List Int) (w : World) (h : Vec .i32 w B c x) :
    Calls Try.prog 26 #[.agg #[.int .i64 K, .int .u64 T, .bool near, .slice B x.length c]] w fun e w' => ∃ A1 c1, e = .returned (.slice A1 (x.take 5).length c1) ∧ OwnV w.heap.size w' A1 c1 (x.take 5) ∧ Below w.heap.size w w' := by
  obtain ⟨y, hy⟩ : ∃ y, y = x.take 5 := ⟨_, rfl⟩
  rw [← hy]
  obtain ⟨l5, hl5⟩ : ∃ l5, l5 = y.length := ⟨_, rfl⟩
  have hl5m : l5 = min x.length 5 := by rw [hl5, hy]; simp [Nat.min_comm]
  rw [← hl5]
  have hvr := h.room
  have hvm := h.most
  have hmin : min ((x.length : Int)) 5 = (l5 : Int) := by omega
  have l50 : (0 : Int) ≤ l5 := by omega
  have l51 : (l5 : Int) ≤ x.length := by omega
  have l52 : (l5 : Int) ≤ c := by omega
  have l53 : l5 ≤ 5 := by omega
  obtain ⟨W1, hW1⟩ : ∃ W1, W1 = (w.alloc (.cells #[.int .i64 K, .int .u64 T, .bool near, .slice B x.length c] 29)).alloc (.cells #[] 21) := ⟨_, rfl⟩
  have hzb : (w.alloc (.cells #[.int .i64 K, .int .u64 T, .bool near, .slice B x.length c] 29)).heap.size = w.heap.size + 1 := World.size_alloc _ _
  have hz1 : W1.heap.size = w.heap.size + 2 := by rw [hW1]; simp
  have hb1 : Below w.heap.size w W1 := by rw [hW1]; exact ((Below.refl _ w).alloc (Nat.le_refl _) _).alloc (by simp) _
  have hx1 : W1.heap[w.heap.size]? = some (.cells #[.int .i64 K, .int .u64 T, .bool near, .slice B x.length c] 29 (0, 0)) := by rw [hW1]; exact (Below.heap_alloc _ _ _ (by simp)).trans (heap_alloc_new _ _)
  have x3 := (cell_of_row _ _ 3 _ _ _ hx1).trans rfl
  have HO1 := Lib.hid (show W1.ownsRow (w.heap.size + 1) 21 1 (.slice (some ⟨w.heap.size + 1, 0, none⟩) 0 0) 0 [] from by
    rw [hW1, ← hzb]; exact World.ownsRow_made (base := (w.alloc (.cells #[.int .i64 K, .int .u64 T, .bool near, .slice B x.length c] 29)).heap.size) (size := 1) (e := 21) _ #[] 0 (Nat.le_refl _) (Nat.zero_le _) rfl)
  have hvy : Vec .i32 W1 B c y := by rw [hy]; exact (h.below hb1).begin 5
  have HRd := Lib.hid (show Read W1 B l5 1 (y.map (Value.int .i32)) from by have := Read.vec hvy; rw [← hl5] at this; exact this)
  have HFx := Lib.hid hvy.fit
  have HB1 := Lib.hid hb1
  have HZ1 := Lib.hid hz1
  have HW1 := Lib.hid hW1
  have HL5 := Lib.hid hl5
  clear h hy hl5 hl5m hvy hzb hz1 hb1 hx1 hW1
  go_enter Try.func26, Try.ntmps26
  go_wp2_with (at_builtin; rw [← HW1.out]; refine gapp_at rfl (.tmp 3) (.tmp 10) appI rfl (w.heap.size + 1) (some ⟨w.heap.size + 1, 0, none⟩) 0 0 [] rfl HO1.out B c l5 (y.map (Value.int .i32)) rfl HRd.out (by omega) (by rw [HZ1.out]; omega) ?_; intro A2 c2 w2 ho hg _; rw [Nat.zero_add, List.nil_append] at ho; have HO2 := Lib.hid ho; have HB2 := Lib.hid (HB1.out.trans (grown_below hg (by rw [HZ1.out]; omega) (fun i hi => Nat.le_trans (Nat.le_succ _) (Nat.le_of_eq (show w.heap.size + 1 = i by simpa [blk] using hi))))); clear ho hg)
  go_ret
  refine ⟨A2, c2, rfl, ⟨?_, HFx.out⟩, HB2.out⟩
  rw [← HL5.out]
  exact HO2.out.mono (by omega)

set_option maxHeartbeats 1000000 in
theorem opts_any (K T : Int) (near : Bool) (B : Option Addr) (n c : Nat) (A : Option Addr) (cA : Nat) (q : List Pl) (w : World) (h : Chn w A cA q) (hT : U64s T) :
    Calls Try.prog 22 #[.agg #[.int .i64 K, .int .u64 T, .bool near, .slice B n c], .slice A q.length cA] w fun e w' => e = .returned (.int .u64 (tsM K T near (rLast (vals q)))) ∧ Below w.heap.size w w' := by
  obtain ⟨W1, hW1⟩ : ∃ W1, W1 = w.alloc (.cells #[.int .i64 K, .int .u64 T, .bool near, .slice B n c] 29) := ⟨_, rfl⟩
  have hb1 : Below w.heap.size w W1 := by rw [hW1]; exact (Below.refl _ w).alloc (Nat.le_refl _) _
  have hx1 : W1.heap[w.heap.size]? = some (.cells #[.int .i64 K, .int .u64 T, .bool near, .slice B n c] 29 (0, 0)) := by rw [hW1]; exact heap_alloc_new _ _
  have HL := Lib.hid (rLast_any A cA q W1 (h.below hb1))
  have hLf := rLast_fit h.fit
  rw [u64s_iff] at hT hLf
  generalize rLast (vals q) = L at *
  generalize q.length = m at *
  have HB1 := Lib.hid hb1
  have HX1 := Lib.hid hx1
  have HW1 := Lib.hid hW1
  clear hb1 hx1 hW1 h
  cases near with
  | false =>
    have HR := Lib.hid (show tsM K T false L = T by unfold tsM; rfl)
    go_enter Try.func22, Try.ntmps22
    go_wp2_with fail
    rw [← HW1.out]
    refine HL.out.mono ?_
    rintro e w2 ⟨rfl, hb2⟩
    have hx2 := (hb2.block _ (lt_of_block HX1.out)).trans HX1.out
    have y1 := (cell_of_row _ _ 1 _ _ _ hx2).trans rfl
    have y2 := (cell_of_row _ _ 2 _ _ _ hx2).trans rfl
    have HB2 := Lib.hid (HB1.out.trans (hb2.mono HB1.out.size))
    clear hb2 hx2
    go_wp2
    go_ret
    rw [HR.out]
    exact ⟨rfl, HB2.out⟩
  | true =>
    by_cases hk : kM K = 4
    · have HR := Lib.hid (show tsM K T true L = L - min L (T % 10) by unfold tsM; rw [if_pos rfl, if_pos hk])
      have km := kM_tmod K
      rw [hk] at km
      obtain ⟨d, hd⟩ : ∃ d, d = T % 10 := ⟨_, rfl⟩
      have hd2 : T % 10 = d := hd.symm
      have hw1 : IntKind.u64.wrap (L - min L d) = L - min L d := by rw [IntKind.wrap_u64]; omega
      clear hk hd
      go_enter Try.func22, Try.ntmps22
      go_wp2_with fail
      rw [← HW1.out]
      refine HL.out.mono ?_
      rintro e w2 ⟨rfl, hb2⟩
      have hx2 := (hb2.block _ (lt_of_block HX1.out)).trans HX1.out
      have y0 := (cell_of_row _ _ 0 _ _ _ hx2).trans rfl
      have y1 := (cell_of_row _ _ 1 _ _ _ hx2).trans rfl
      have y2 := (cell_of_row _ _ 2 _ _ _ hx2).trans rfl
      have HB2 := Lib.hid (HB1.out.trans (hb2.mono HB1.out.size))
      clear hb2 hx2
      go_wp2
      go_ret
      rw [HR.out]
      exact ⟨by rw [hd2]; rfl, HB2.out⟩
    · have HR := Lib.hid (show tsM K T true L = IntKind.u64.wrap (L + T % 6) by unfold tsM; rw [if_pos rfl, if_neg hk])
      have km := kM_tmod K
      generalize kM K = kk at *
      have k4 : (kk == 4) = false := by simpa using hk
      clear hk
      go_enter Try.func22, Try.ntmps22
      go_wp2_with fail
      rw [← HW1.out]
      refine HL.out.mono ?_
      rintro e w2 ⟨rfl, hb2⟩
      have hx2 := (hb2.block _ (lt_of_block HX1.out)).trans HX1.out
      have y0 := (cell_of_row _ _ 0 _ _ _ hx2).trans rfl
      have y1 := (cell_of_row _ _ 1 _ _ _ hx2).trans rfl
      have y2 := (cell_of_row _ _ 2 _ _ _ hx2).trans rfl
      have HB2 := Lib.hid (HB1.out.trans (hb2.mono HB1.out.size))
      clear hb2 hx2
      go_wp2
      go_ret
      rw [HR.out]
      exact ⟨rfl, HB2.out⟩

end Go.Proofs.Ytbnedhhkapbliaa
