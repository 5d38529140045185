/-
  The distance of two, and whether both are the same: loops over the iterator.
-/
import Derived.Test.YtgakfffkadaeeaaVecPairs
namespace Go.Proofs.Ytgakfffkadaeeaa
open Go.RowKit Go.Shelf
set_option linter.unusedVariables false
set_option maxRecDepth 100000
attribute [local go_sem] Oper.semAt_some

/-! ### plain numbers -/
def sq (p : Int × Int) : Int := (p.1 - p.2) * (p.1 - p.2)
def sumP (ps : List (Int × Int)) : Int := (ps.map sq).sum
def distM (a b : List Int) : Int := sumP (a.zip b)
theorem sumP_snoc (ps : List (Int × Int)) (x : Int × Int) : sumP (ps ++ [x]) = sumP ps + sq x := by simp [sumP]
theorem sq_nonneg (p : Int × Int) : 0 ≤ sq p := by
  unfold sq
  rcases Int.le_total 0 (p.1 - p.2) with h | h
  · exact Int.mul_nonneg h h
  · exact Int.mul_nonneg_of_nonpos_of_nonpos h h
def pairIn (p : Int × Int) : Prop := (-1073741823 ≤ p.1 ∧ p.1 ≤ 1073741823) ∧ (-1073741823 ≤ p.2 ∧ p.2 ≤ 1073741823)
theorem sq_le (p : Int × Int) (h : pairIn p) : sq p ≤ 4611686009837453316 := by
  obtain ⟨⟨h1, h2⟩, h3, h4⟩ := h
  unfold sq
  have e : (4611686009837453316 : Int) = 2147483646 * 2147483646 := by decide
  rw [e]
  rcases Int.le_total 0 (p.1 - p.2) with h | h
  · exact Int.mul_le_mul (by omega) (by omega) h (by omega)
  · have := Int.mul_le_mul (a := -(p.1 - p.2)) (b := -(p.1 - p.2)) (c := 2147483646) (d := 2147483646) (by omega) (by omega) (by omega) (by omega)
    rwa [Int.neg_mul_neg] at this
theorem sumP_le (ps : List (Int × Int)) (h : ∀ p ∈ ps, pairIn p) : 0 ≤ sumP ps ∧ sumP ps ≤ 4611686009837453316 * ps.length := by
  induction ps with
  | nil => simp [sumP]
  | cons p ps ih =>
    have h1 := ih (fun q hq => h q (by simp [hq]))
    have h2 := sq_le p (h p (by simp))
    have h3 := sq_nonneg p
    have e : sumP (p :: ps) = sq p + sumP ps := by simp [sumP]
    rw [e, List.length_cons]
    omega
theorem right_len {xs : List Int} (h : right xs = true) : 1 ≤ xs.length ∧ xs.length ≤ 4 := by unfold right at h; simp at h; exact h.1
theorem right_comp {xs : List Int} (h : right xs = true) : ∀ x ∈ xs, -1073741823 ≤ x ∧ x ≤ 1073741823 := by
  unfold right at h
  simp only [Bool.and_eq_true, List.all_eq_true] at h
  intro x hx
  have := h.2 x hx
  unfold comp at this
  simpa using this
theorem zip_in {a b : List Int} (ha : right a = true) (hb : right b = true) : ∀ p ∈ a.zip b, pairIn p := by
  intro p hp
  have := List.of_mem_zip (a := p.1) (b := p.2) hp
  exact ⟨right_comp ha _ this.1, right_comp hb _ this.2⟩
/-- A number of 64 bits. -/
def U64 (n : Int) : Prop := 0 ≤ n ∧ n < 18446744073709551616
theorem u64_fit {n : Int} (h : U64 n) : IntKind.u64.wrap n = n := by
  unfold U64 at h
  rw [IntKind.wrap_u64]; omega

/-- The sum so far. -/
def SumI (w : World) (a b : List Int) (pre : List (Int × Int)) (W : World) : Prop := Boxed W w.heap.size 47 (.int .u64 (sumP pre)) ∧ Below w.heap.size w W ∧ ∃ k, pre = (a.zip b).take k
theorem put_other {W : World} {k i : Nat} {o o' o2 : Obj} (h : W.heap[k]? = some o) (ho : o.isCells = false) (hi : W.heap[i]? = some o2) (h2 : o2.isCells = true) : (W.putObj k o').heap[i]? = some o2 := by
  rw [World.putObj_heap_other (fun e => ?_)]
  · exact hi
  · subst e; rw [h] at hi; cases hi; rw [ho] at h2; cases h2
theorem below_put {W : World} {k : Nat} {o : Obj} {B : Nat} (hk : B ≤ k) (hB : B ≤ W.heap.size) : Below B W (W.putObj k o) :=
  ⟨rfl, rfl, rfl, by simp [World.putObj], fun i hi => World.putObj_heap_other (by omega)⟩

set_option maxHeartbeats 2000000 in
theorem distance_any (A A' : Option Addr) (c c' : Nat) (a b : List Int) (w : World) (ha : Vec .i32 w A c a) (hb : Vec .i32 w A' c' b) (ra : right a = true) (rb : right b = true) (hl : b.length = a.length) :
    Calls Try.prog 48 #[.slice A a.length c, .slice A' b.length c'] w fun e w' => e = .returned (.int .u64 (distM a b)) ∧ Below w.heap.size w w' := by
  have hin := zip_in ra rb
  have hlen := right_len ra
  have hzl : (a.zip b).length ≤ 4 := by rw [List.length_zip]; omega
  have hpos : 0 < a.length := by omega
  have lA := fun g o (e : A = some ⟨g, o, none⟩) => (show g < w.heap.size by obtain ⟨g', o', e', h', _⟩ := ha.rd hpos; rw [e] at e'; cases e'; exact h')
  have lB := fun g o (e : A' = some ⟨g, o, none⟩) => (show g < w.heap.size by obtain ⟨g', o', e', h', _⟩ := hb.rd (by omega); rw [e] at e'; cases e'; exact h')
  rw [hl]
  obtain ⟨m, hm⟩ : ∃ m, m = a.length := ⟨_, rfl⟩
  rw [← hm]
  refine (callsIn_wide (n := 3)).1 ?_
  refine callsIn_of_wp_marks Try.func48 rfl trivial ?_ rfl
  simp only [Try.ntmps48, List.size_toArray, List.length_cons, List.length_nil, Nat.reduceAdd, Nat.reduceSub, Array.replicate_succ, Array.replicate_zero, List.push_toArray, List.append_toArray, List.nil_append, List.cons_append]
  have HA := Lib.hid ha
  have HB := Lib.hid hb
  have HM := Lib.hid hm
  have HI := Lib.hid hin
  have HLA := Lib.hid lA
  have HLB := Lib.hid lB
  have HZ := Lib.hid hzl
  have HL := Lib.hid hl
  clear ha hb hm hin lA lB ra rb hlen hpos hzl hl
  gi_wp2_with (refine ⟨trivial, ?_⟩; gi_at_call 62; refine (callsIn_wide.2 (together_any _ _ _ _ _ _ _)).mono ?_; rintro e w' ⟨rfl, rfl⟩)
  obtain ⟨W0, hW0⟩ : ∃ W0, W0 = ((w.alloc (.cells #[.int .u64 0] 47)).alloc (.cells #[.slice A m c] 35)).alloc (.cells #[.slice A' m c'] 35) := ⟨_, rfl⟩
  have hbw : Below w.heap.size w W0 := by rw [hW0]; exact (((Below.refl _ w).alloc (Nat.le_refl _) _).alloc (by simp) _).alloc (by simp; omega) _
  have hsz : W0.heap.size = w.heap.size + 3 := by rw [hW0]; simp
  have b0 : Boxed W0 w.heap.size 47 (.int .u64 0) := by rw [hW0]; exact ((Boxed.new w _ _).alloc _).alloc _
  have b1 : W0.cell? ⟨w.heap.size + 1, 0, none⟩ = some (.slice A m c) := by
    rw [hW0]
    have h := (Boxed.new (w.alloc (.cells #[.int .u64 0] 47)) 35 (.slice A m c)).alloc (.cells #[.slice A' m c'] 35)
    rw [World.size_alloc] at h
    exact h.cell
  have b2 : W0.cell? ⟨w.heap.size + 2, 0, none⟩ = some (.slice A' m c') := by
    rw [hW0]
    have h := Boxed.new ((w.alloc (.cells #[.int .u64 0] 47)).alloc (.cells #[.slice A m c] 35)) 35 (.slice A' m c')
    rw [World.size_alloc, World.size_alloc] at h
    exact h.cell
  simp only [Nat.add_assoc, Nat.reduceAdd] at hW0 ⊢
  rw [← hW0]
  clear hW0
  have hseq := together1_in (w := W0) (A := A) (A' := A') (c := c) (c' := c') (a := a) (b := b) 2 w.heap.size (w.heap.size + 1) (w.heap.size + 2) (by omega) HL.out (by rw [← HM.out]; exact b1) (by rw [← HM.out]; exact b2) (HA.out.below hbw) (HB.out.below hbw) (by omega) (by omega) (fun g o e _ => by have := HLA.out g o e; omega) (fun g o e _ => by have := HLB.out g o e; omega)
  refine range_own rfl (by omega) (gf := 74) (lb := #[.pointer (some ⟨w.heap.size + 1, 0, none⟩), .pointer (some ⟨w.heap.size + 2, 0, none⟩)]) rfl trivial (enters_of Try.func74 (by kernel_rfl) rfl) hseq
    (fun W k h => h.elim) KpD.trans (fun B W k o o' _ hk ho => KpD.put hk ho) (fun _ => rfl) (fun _ _ _ _ _ _ _ _ _ => trivial)
    (SumI w a b) (fun _ _ _ => False) ?io ?ixo ?ip ?ixp ?h0
    (fun x => { tmps := #[.slice A m c, .slice A' m c', undef, undef, .int .u64 0, .pointer (some ⟨w.heap.size, 0, none⟩), .int .i32 x.1, .int .i32 x.2, undef, .slice A m c, .slice A' m c',
      .func (.func 74) #[] #[.pointer (some ⟨w.heap.size + 1, 0, none⟩), .pointer (some ⟨w.heap.size + 2, 0, none⟩)], .int .i32 x.1, .int .i32 x.2, undef, undef, undef, undef, undef, undef, undef, undef, undef, undef, undef, undef], defers := [] }) ?assign ?body ?done ?stop
  case io => exact fun s X Y h ht => ⟨(ht.block _ h.1.lt (fun e => e.2)).trans h.1, h.2.1.trans (Turn.below ht h.2.1.size (fun k e => e.2.elim)), h.2.2⟩
  case ixo => exact fun _ _ _ _ h _ => h
  case ip => exact fun s X k o o' h hk ho hc => ⟨put_other ho hc h.1 rfl, h.2.1.trans (below_put (by omega) h.2.1.size), h.2.2⟩
  case ixp => exact fun _ _ _ _ _ _ h _ _ _ => h
  case h0 => exact fun W hb _ => ⟨(hb.block _ b0.lt).trans b0, hbw.trans (hb.mono hbw.size), 0, rfl⟩
  case assign =>
    intro l x W K hK
    dsimp only [encP]
    gi_wp2
    exact hK
  case body =>
    rintro l pre x W ⟨hv, hB, k, rfl⟩ _ _ hnx
    have hx : x ∈ a.zip b := List.mem_of_getElem? hnx
    have hkl : ((a.zip b).take k).length ≤ k := by simp; omega
    have hpx : (a.zip b).take k ++ [x] = (a.zip b).take (((a.zip b).take k).length + 1) := by
      rw [List.take_add_one, hnx]
      congr 1
      rw [List.length_take]
      rcases Nat.le_total k (a.zip b).length with h | h
      · rw [Nat.min_eq_left h]
      · rw [Nat.min_eq_right h, List.take_of_length_le h, List.take_of_length_le (Nat.le_refl _)]
    have hin : ∀ p ∈ (a.zip b).take k ++ [x], pairIn p := fun p hp => by
      rw [hpx] at hp
      exact HI.out p (List.mem_of_mem_take hp)
    have hle := sumP_le _ hin
    have hll : ((a.zip b).take k ++ [x]).length ≤ 4 := Nat.le_trans (by rw [hpx]; exact List.length_take_le' _ _) HZ.out
    have h0 := (sumP_le _ (fun p hp => hin p (by simp [hp]) : ∀ p ∈ (a.zip b).take k, pairIn p)).1
    have hpi := hin x (by simp)
    have hsq0 := sq_nonneg x
    have hsq := sq_le x hpi
    have hsn := sumP_snoc ((a.zip b).take k) x
    have hc := hv.cell
    have hf := hv.frozen
    have HV := Lib.hid hv
    have HB2 := Lib.hid hB
    have HPX := Lib.hid hpx
    have hu : sumP ((a.zip b).take k) + sq x < 18446744073709551616 := by rw [← hsn]; omega
    have HS := Lib.hid hsn
    obtain ⟨u, v⟩ := x
    obtain ⟨⟨p1, p2⟩, p3, p4⟩ := hpi
    dsimp only at p1 p2 p3 p4 ⊢
    have HQ := Lib.hid (show sq (u, v) = (u - v) * (u - v) from rfl)
    generalize sq (u, v) = q at *
    generalize sumP ((a.zip b).take k) = s at *
    have HW := Lib.hid (u64_fit (n := s + q) ⟨by omega, hu⟩)
    have HW1 := Lib.hid (u64_fit (n := q) ⟨by omega, by omega⟩)
    have HW2 := Lib.hid (show wrap64 q = q from by unfold wrap64; omega)
    clear hsn hpx hin hle hll hkl hx hnx hv hB hu
    gi_wp2
    rw [← HQ.out, HW2.out, HW1.out, HW.out]
    refine ⟨(KeepsOthers.setCell _ _ _).from _, KpD.set _ _ _, ?_, ?_, ?_⟩
    · rw [HS.out]; exact HV.out.set _
    · exact HB2.out.trans ((Below.refl _ W).setCell (by simp) _)
    · exact ⟨_, HPX.out⟩
  case done =>
    rintro xs W rfl ⟨hv, hB, _⟩ hK
    have hc := hv.cell
    have HV := Lib.hid hv
    have HB2 := Lib.hid hB
    clear hv hB
    gi_wp2
    refine ⟨by simp, .inl ⟨_, _, rfl, run_takeDeferred hK, ?_⟩⟩
    refine ⟨_, results_tmp rfl _ _ _, rfl, ?_⟩
    exact HB2.out.trans (below_put (by omega) HB2.out.size)
  case stop =>
    rintro c pre W _ h _
    exact h.elim

/-! ### the same -/
theorem zip_eq {a b : List Int} (hl : b.length = a.length) (h : ∀ p ∈ a.zip b, p.1 = p.2) : a = b := by
  induction a generalizing b with
  | nil => cases b with
    | nil => rfl
    | cons y b => simp at hl
  | cons x a ih =>
    cases b with
    | nil => simp at hl
    | cons y b =>
      have h1 := h (x, y) (by simp)
      have h2 := ih (b := b) (by simpa using hl) (fun p hp => h p (by simp [hp]))
      dsimp only at h1
      rw [h1, h2]
theorem zip_ne {a b : List Int} {p : Int × Int} (hp : p ∈ a.zip b) (h : p.1 ≠ p.2) : a ≠ b := by
  rintro rfl
  induction a with
  | nil => simp at hp
  | cons x a ih =>
    simp only [List.zip_cons_cons, List.mem_cons] at hp
    rcases hp with rfl | hp
    · exact h rfl
    · exact ih hp
def AllI (w : World) (pre : List (Int × Int)) (W : World) : Prop := Boxed W w.heap.size 4 (.bool false) ∧ Below w.heap.size w W ∧ ∀ p ∈ pre, p.1 = p.2
def NotI (w : World) (cd : Code) (pre : List (Int × Int)) (W : World) : Prop := cd = .ret ∧ Boxed W w.heap.size 4 (.bool false) ∧ Below w.heap.size w W ∧ ∃ p ∈ pre, p.1 ≠ p.2

set_option maxHeartbeats 2000000 in
theorem same_any (A A' : Option Addr) (c c' : Nat) (a b : List Int) (w : World) (ha : Vec .i32 w A c a) (hb : Vec .i32 w A' c' b) :
    Calls Try.prog 46 #[.slice A a.length c, .slice A' b.length c'] w fun e w' => e = .returned (.bool (decide (a = b))) ∧ Below w.heap.size w w' := by
  by_cases hl : b.length = a.length
  · have lA := fun g o (e : A = some ⟨g, o, none⟩) (hpos : 0 < a.length) => (show g < w.heap.size by obtain ⟨g', o', e', h', _⟩ := ha.rd hpos; rw [e] at e'; cases e'; exact h')
    have lB := fun g o (e : A' = some ⟨g, o, none⟩) (hpos : 0 < a.length) => (show g < w.heap.size by obtain ⟨g', o', e', h', _⟩ := hb.rd (by omega); rw [e] at e'; cases e'; exact h')
    obtain ⟨R, hR⟩ : ∃ R, R = decide (a = b) := ⟨_, rfl⟩
    rw [hl, ← hR]
    obtain ⟨m, hm⟩ : ∃ m, m = a.length := ⟨_, rfl⟩
    rw [← hm]
    refine (callsIn_wide (n := 3)).1 ?_
    refine callsIn_of_wp_marks Try.func46 rfl trivial ?_ rfl
    simp only [Try.ntmps46, List.size_toArray, List.length_cons, List.length_nil, Nat.reduceAdd, Nat.reduceSub, Array.replicate_succ, Array.replicate_zero, List.push_toArray, List.append_toArray, List.nil_append, List.cons_append]
    have HA := Lib.hid ha
    have HB := Lib.hid hb
    have HM := Lib.hid hm
    have HLA := Lib.hid lA
    have HLB := Lib.hid lB
    have HL := Lib.hid hl
    have HR := Lib.hid hR
    clear ha hb hm lA lB hl hR
    gi_wp2_with (refine ⟨trivial, ?_⟩; gi_at_call 62; refine (callsIn_wide.2 (together_any _ _ _ _ _ _ _)).mono ?_; rintro e w' ⟨rfl, rfl⟩)
    obtain ⟨W0, hW0⟩ : ∃ W0, W0 = ((w.alloc (.cells #[.bool false] 4)).alloc (.cells #[.slice A m c] 35)).alloc (.cells #[.slice A' m c'] 35) := ⟨_, rfl⟩
    have hbw : Below w.heap.size w W0 := by rw [hW0]; exact (((Below.refl _ w).alloc (Nat.le_refl _) _).alloc (by simp) _).alloc (by simp; omega) _
    have hsz : W0.heap.size = w.heap.size + 3 := by rw [hW0]; simp
    have b0 : Boxed W0 w.heap.size 4 (.bool false) := by rw [hW0]; exact ((Boxed.new w _ _).alloc _).alloc _
    have b1 : W0.cell? ⟨w.heap.size + 1, 0, none⟩ = some (.slice A m c) := by
      rw [hW0]
      have h := (Boxed.new (w.alloc (.cells #[.bool false] 4)) 35 (.slice A m c)).alloc (.cells #[.slice A' m c'] 35)
      rw [World.size_alloc] at h
      exact h.cell
    have b2 : W0.cell? ⟨w.heap.size + 2, 0, none⟩ = some (.slice A' m c') := by
      rw [hW0]
      have h := Boxed.new ((w.alloc (.cells #[.bool false] 4)).alloc (.cells #[.slice A m c] 35)) 35 (.slice A' m c')
      rw [World.size_alloc, World.size_alloc] at h
      exact h.cell
    simp only [Nat.add_assoc, Nat.reduceAdd] at hW0 ⊢
    rw [← hW0]
    clear hW0
    have hseq := together1_in (w := W0) (A := A) (A' := A') (c := c) (c' := c') (a := a) (b := b) 2 w.heap.size (w.heap.size + 1) (w.heap.size + 2) (by omega) HL.out (by rw [← HM.out]; exact b1) (by rw [← HM.out]; exact b2) (HA.out.below hbw) (HB.out.below hbw) (by omega) (by omega) (fun g o e h => by have := HLA.out g o e h; omega) (fun g o e h => by have := HLB.out g o e h; omega)
    refine range_own rfl (by omega) (gf := 74) (lb := #[.pointer (some ⟨w.heap.size + 1, 0, none⟩), .pointer (some ⟨w.heap.size + 2, 0, none⟩)]) rfl trivial (enters_of Try.func74 (by kernel_rfl) rfl) hseq
      (fun W k h => h.elim) KpD.trans (fun B W k o o' _ hk ho => KpD.put hk ho) (fun _ => rfl) (fun _ _ _ _ _ _ _ _ _ => trivial)
      (AllI w) (NotI w) ?io ?ixo ?ip ?ixp ?h0
      (fun x => { tmps := #[.slice A m c, .slice A' m c', undef, undef, .pointer (some ⟨w.heap.size, 0, none⟩), .int .i32 x.1, .int .i32 x.2, .slice A m c, .int .i64 m, .slice A' m c', .int .i64 m, .bool false, .slice A m c, .slice A' m c',
        .func (.func 74) #[] #[.pointer (some ⟨w.heap.size + 1, 0, none⟩), .pointer (some ⟨w.heap.size + 2, 0, none⟩)], .int .i32 x.1, .int .i32 x.2, undef, undef, undef], defers := [] }) ?assign ?body ?done ?stop
    case io => exact fun s X Y h ht => ⟨(ht.block _ h.1.lt (fun e => e.2)).trans h.1, h.2.1.trans (Turn.below ht h.2.1.size (fun k e => e.2.elim)), h.2.2⟩
    case ixo => exact fun cd s X Y h ht => ⟨h.1, (ht.block _ h.2.1.lt (fun e => e.2)).trans h.2.1, h.2.2.1.trans (Turn.below ht h.2.2.1.size (fun k e => e.2.elim)), h.2.2.2⟩
    case ip => exact fun s X k o o' h hk ho hc => ⟨put_other ho hc h.1 rfl, h.2.1.trans (below_put (by omega) h.2.1.size), h.2.2⟩
    case ixp => exact fun cd s X k o o' h hk ho hc => ⟨h.1, put_other ho hc h.2.1 rfl, h.2.2.1.trans (below_put (by omega) h.2.2.1.size), h.2.2.2⟩
    case h0 => exact fun W hb _ => ⟨(hb.block _ b0.lt).trans b0, hbw.trans (hb.mono hbw.size), by simp⟩
    case assign =>
      intro l x W K hK
      dsimp only [encP]
      gi_wp2
      exact hK
    case body =>
      rintro l pre x W ⟨hv, hB, hall⟩ _ _ _
      have hc := hv.cell
      have hf := hv.frozen
      have HV := Lib.hid hv
      have HB2 := Lib.hid hB
      have HAL := Lib.hid hall
      clear hv hB hall
      obtain ⟨u, v⟩ := x
      dsimp only
      by_cases huv : u = v
      · subst huv
        have HX := Lib.hid (show ∀ p ∈ pre ++ [(u, u)], p.1 = p.2 from fun p hp => by
          rcases List.mem_append.1 hp with h | h
          · exact HAL.out p h
          · obtain rfl : p = (u, u) := by simpa using h
            rfl)
        gi_wp2
        exact ⟨KeepsFrom.refl _ _, KpD.refl _ _ _, HV.out, HB2.out, HX.out⟩
      · have HX := Lib.hid (show ∃ p ∈ pre ++ [(u, v)], p.1 ≠ p.2 from ⟨(u, v), by simp, huv⟩)
        have t1 : (u != v) = true := by simpa using huv
        gi_wp2
        exact ⟨(KeepsOthers.setCell _ _ _).from _, rfl, HV.out.set _, HB2.out.trans ((Below.refl _ W).setCell (by simp) _), HX.out⟩
    case done =>
      rintro xs W rfl ⟨hv, hB, hall⟩ hK
      have hc := hv.cell
      have hf := hv.frozen
      have HV := Lib.hid hv
      have HB2 := Lib.hid hB
      have HT := Lib.hid (show R = true by rw [HR.out]; exact decide_eq_true (zip_eq HL.out hall))
      clear hv hB hall
      gi_wp2
      refine ⟨by simp, .inl ⟨_, _, rfl, run_takeDeferred (show (W.setCell ⟨w.heap.size, 0, none⟩ (.bool true)).heap[W0.heap.size]? = _ from (Below.heap_setCell _ _ _ _ (by simp; omega)).trans hK), ?_⟩⟩
      have hc2 := (show Boxed _ w.heap.size 4 (.bool true) from put_other (o' := .deferred none) ((Below.heap_setCell W ⟨w.heap.size, 0, none⟩ (.bool true) W0.heap.size (by simp; omega)).trans hK) rfl (HV.out.set (.bool true)) rfl).cell
      exact ⟨.bool true, by simp [results, Try.results46, go_sem, hc2], by rw [HT.out], HB2.out.trans (((Below.refl _ W).setCell (by simp) _).trans (below_put (by omega) (by have := HB2.out.size; simp [World.setCell]; omega)))⟩
    case stop =>
      rintro cd pre W ⟨k, rfl⟩ ⟨rfl, hv, hB, p, hp, hne⟩ hK
      have hc := hv.cell
      have hf := hv.frozen
      have HV := Lib.hid hv
      have HB2 := Lib.hid hB
      have HT := Lib.hid (show R = false by rw [HR.out]; exact decide_eq_false (zip_ne (List.mem_of_mem_take hp) hne))
      clear hv hB hp hne
      gi_wp2
      refine ⟨by simp, .inl ⟨_, _, rfl, run_takeDeferred hK, ?_⟩⟩
      have hc2 := (show Boxed _ w.heap.size 4 (.bool false) from put_other (o' := .deferred none) hK rfl HV.out rfl).cell
      exact ⟨.bool false, by simp [results, Try.results46, go_sem, hc2], by rw [HT.out], HB2.out.trans (below_put (by omega) HB2.out.size)⟩
  · have HT := Lib.hid (show decide (a = b) = false from decide_eq_false (fun e => hl (by rw [e])))
    have t1 : decide (a.length = b.length) = false := decide_eq_false (fun e => hl e.symm)
    generalize decide (a = b) = R at *
    generalize a.length = n at *
    generalize b.length = m at *
    have t2 : ((n : Int) != (m : Int)) = true := by simp; omega
    have t3 : ((n : Int) == (m : Int)) = false := by simp; omega
    have t4 : (n == m) = false := by simp; omega
    clear hl ha hb
    go_enter Try.func46, Try.ntmps46
    go_wp2
    exact bodyPost_ret (v := .bool false) (by simp [results, Try.results46, go_sem]) rfl ⟨by rw [HT.out], (Below.refl _ _).alloc (Nat.le_refl _) _⟩

end Go.Proofs.Ytgakfffkadaeeaa
