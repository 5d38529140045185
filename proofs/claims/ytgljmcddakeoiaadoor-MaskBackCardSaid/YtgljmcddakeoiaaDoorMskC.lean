/-
  byWord, and the masks that it makes: And, Or, Minus, Not, clean, below, single.
-/
import Derived.Test.YtgljmcddakeoiaaDoorMskB
namespace Go.Proofs.YtgljmcddakeoiaaDoor
open Go.RowKit Go.Shelf
set_option linter.unusedVariables false
set_option linter.unusedSimpArgs false
set_option maxRecDepth 100000

/-- A block that holds two words. -/
def MRow (W : World) (g a b : Nat) : Prop := W.heap[g]? = some (.cells #[.int .u64 a, .int .u64 b] 25 (0, 0))
theorem MRow.lt {W : World} {g a b : Nat} (h : MRow W g a b) : g < W.heap.size := lt_of_block h
theorem MRow.cell0 {W : World} {g a b : Nat} (h : MRow W g a b) : W.cell? ⟨g, 0, none⟩ = some (.int .u64 a) := cell_of_row _ _ _ _ _ (0, 0) h
theorem MRow.cell1 {W : World} {g a b : Nat} (h : MRow W g a b) : W.cell? ⟨g, 1, none⟩ = some (.int .u64 b) := cell_of_row _ _ _ _ _ (0, 0) h
theorem MRow.box {W : World} {g : Nat} {m : Mk} (h : MRow W g m.1 m.2) : MBox W g m := ⟨h.cell0, h.cell1⟩
theorem MRow.frozen {W : World} {g a b : Nat} (h : MRow W g a b) (i : Nat) : W.frozen? ⟨g, i, none⟩ = false := by simp [World.frozen?, show W.heap[g]? = _ from h]
theorem MRow.below {W W' : World} {g a b B : Nat} (h : MRow W g a b) (hb : Below B W W') (hg : g < B) : MRow W' g a b := (hb.block g hg).trans h
theorem MRow.new (W : World) (a b : Nat) : MRow (W.alloc (.cells #[.int .u64 a, .int .u64 b] 25)) W.heap.size a b := heap_alloc_new W _
theorem MRow.set0 {W : World} {g a b : Nat} (h : MRow W g a b) (v : Nat) : MRow (W.setCell ⟨g, 0, none⟩ (.int .u64 v)) g v b := by
  obtain ⟨hlt, hk⟩ := Array.getElem?_eq_some_iff.1 h
  show (W.heap.modify g _)[g]? = _
  rw [Array.getElem?_eq_getElem (by rw [Array.size_modify]; exact hlt), Array.getElem_modify_self, hk]
  rfl
theorem MRow.set1 {W : World} {g a b : Nat} (h : MRow W g a b) (v : Nat) : MRow (W.setCell ⟨g, 1, none⟩ (.int .u64 v)) g a v := by
  obtain ⟨hlt, hk⟩ := Array.getElem?_eq_some_iff.1 h
  show (W.heap.modify g _)[g]? = _
  rw [Array.getElem?_eq_getElem (by rw [Array.size_modify]; exact hlt), Array.getElem_modify_self, hk]
  rfl
theorem MRow.other {W : World} {g a b : Nat} (h : MRow W g a b) (p : Addr) (v : Value) (hp : g ≠ p.block) : MRow (W.setCell p v) g a b := (Below.heap_setCell W p v g hp).trans h
theorem below_set {B : Nat} {W W' : World} (h : Below B W W') (p : Addr) (v : Value) (hp : B ≤ p.block) : Below B W (W'.setCell p v) :=
  h.trans ⟨rfl, rfl, rfl, by simp [World.setCell], fun k hk => Below.heap_setCell W' p v k (by omega)⟩

theorem res2 {B s a b : Nat} {w w1 : World} (x y : Nat) (h : MRow w1 s a b) (hb : Below B w w1) (hs : B ≤ s) :
    ((w1.setCell ⟨s, 0, none⟩ (.int .u64 x)).setCell ⟨s, 1, none⟩ (.int .u64 y)).cell? ⟨s, 0, none⟩ = some (.int .u64 x) ∧ ((w1.setCell ⟨s, 0, none⟩ (.int .u64 x)).setCell ⟨s, 1, none⟩ (.int .u64 y)).cell? ⟨s, 1, none⟩ = some (.int .u64 y) ∧ Below B w ((w1.setCell ⟨s, 0, none⟩ (.int .u64 x)).setCell ⟨s, 1, none⟩ (.int .u64 y)) :=
  ⟨((h.set0 x).set1 y).cell0, ((h.set0 x).set1 y).cell1, below_set (below_set hb _ _ hs) _ _ hs⟩

set_option maxHeartbeats 1000000 in
theorem byWord_any (fid : FuncId) (cap : Array Value) (t0 t1 : Nat) (w : World) (h0 : t0 < 18446744073709551616) (h1 : t1 < 18446744073709551616)
    (hen : ∀ v W, (callFunc fid (#[v] ++ cap)).run Tryd.prog W = .ok (.enter fid (#[v] ++ cap)) W)
    (hc0 : ∀ W, Below w.heap.size w W → Calls Tryd.prog fid (#[.int .i64 0] ++ cap) W fun e W' => e = .returned (.int .u64 t0) ∧ Below W.heap.size W W')
    (hc1 : ∀ W, Below w.heap.size w W → Calls Tryd.prog fid (#[.int .i64 1] ++ cap) W fun e W' => e = .returned (.int .u64 t1) ∧ Below W.heap.size W W') :
    Calls Tryd.prog 23 #[.func (.func fid) #[] cap] w fun e w' => e = .returned (mv (t0, t1 % 4294967296)) ∧ Below w.heap.size w w' := by
  have b0 : bits .and .u64 (t0 : Int) (18446744073709551615 : Int) = (t0 : Int) := by
    have := u64_and_nat t0 18446744073709551615 h0 (by decide)
    rw [show t0 &&& 18446744073709551615 = t0 from by rw [show (18446744073709551615 : Nat) = 2 ^ 64 - 1 from rfl, Nat.and_two_pow_sub_one_eq_mod]; omega] at this
    exact this
  have b1 : bits .and .u64 (t1 : Int) (4294967295 : Int) = ((t1 % 4294967296 : Nat) : Int) := by
    have := u64_and_nat t1 4294967295 h1 (by decide)
    rw [show t1 &&& 4294967295 = t1 % 4294967296 from by rw [show (4294967295 : Nat) = 2 ^ 32 - 1 from rfl, Nat.and_two_pow_sub_one_eq_mod]] at this
    exact this
  obtain ⟨q1, hq1⟩ : ∃ q1, q1 = t1 % 4294967296 := ⟨_, rfl⟩
  rw [← hq1] at b1 ⊢
  clear hq1
  have HC0 := Lib.hid hc0
  have HC1 := Lib.hid hc1
  clear hc0 hc1
  go_enter Tryd.func23, Tryd.ntmps23
  obtain ⟨s, hs⟩ : ∃ s, s = w.heap.size := ⟨_, rfl⟩
  have hI : MRow ((w.alloc (.cells #[.int .u64 (0 : Nat), .int .u64 (0 : Nat)] 25)).alloc (.cells #[.int .u64 (0 : Nat), .int .u64 (0 : Nat)] 25)) s 0 0 := by
    rw [hs]; exact (MRow.new w 0 0).below ((Below.refl _ _).alloc (Nat.le_refl _) _) (by simp)
  have hJ : MRow ((w.alloc (.cells #[.int .u64 (0 : Nat), .int .u64 (0 : Nat)] 25)).alloc (.cells #[.int .u64 (0 : Nat), .int .u64 (0 : Nat)] 25)) (s + 1) 0 0 := by
    rw [hs]; have := MRow.new (w.alloc (.cells #[.int .u64 (0 : Nat), .int .u64 (0 : Nat)] 25)) 0 0
    rwa [World.size_alloc] at this
  have HI := Lib.hid hI
  have HJ := Lib.hid hJ
  have HB := Lib.hid (show Below w.heap.size w ((w.alloc (.cells #[.int .u64 (0 : Nat), .int .u64 (0 : Nat)] 25)).alloc (.cells #[.int .u64 (0 : Nat), .int .u64 (0 : Nat)] 25)) from ((Below.refl _ w).alloc (Nat.le_refl _) _).alloc (by simp) _)
  have HS := Lib.hid hs
  clear hI hJ
  go_wp2
  rw [← HS.out]
  clear hs
  go_loopw [5] (fun i wr => ∃ (k a b : Nat), k ≤ 2 ∧ i = .int .i64 k ∧ Hid (Below w.heap.size w wr) ∧ Hid (MRow wr s 0 0) ∧ Hid (MRow wr (s + 1) a b) ∧ Hid ((1 ≤ k → a = t0) ∧ (2 ≤ k → b = q1))) (fun i _ => 2 - (intOf i).toNat)
  case atStart => exact ⟨0, 0, 0, by omega, rfl, HB, HI, HJ, Lib.hid ⟨fun h => by omega, fun h => by omega⟩⟩
  case round =>
    obtain ⟨k, a, b, hk, rfl, HW, HR, HM, HE⟩ := hrel
    by_cases hk0 : k = 0
    · subst hk0
      go_wp2_with fail
      refine (HC0.out _ HW.out).mono ?_
      rintro e w1 ⟨rfl, hb1⟩
      have HB1 := Lib.hid (HW.out.trans (hb1.mono HW.out.size))
      have HR1 := Lib.hid (HR.out.below hb1 HR.out.lt)
      have HM1 := Lib.hid (HM.out.below hb1 HM.out.lt)
      clear hb1
      have c0 := HM1.out.cell0
      have f0 := HM1.out.frozen 0
      go_wp2_with fail
      refine (lowest_any _ _ (by omega)).mono ?_
      rintro e w2 ⟨rfl, rfl⟩
      rw [show lowW 96 = 18446744073709551615 from rfl]
      go_wp2
      go_roundw
      case rel => exact ⟨1, t0, b, by omega, by go_num, Lib.hid (below_set HB1.out _ _ (by rw [HS.out]; simp)), Lib.hid (HR1.out.other _ _ (by simp)), Lib.hid (HM1.out.set0 t0), Lib.hid ⟨fun _ => rfl, fun h => by omega⟩⟩
      case measure => simp [intOf]
    · by_cases hk1 : k = 1
      · subst hk1
        go_wp2_with fail
        refine (HC1.out _ HW.out).mono ?_
        rintro e w1 ⟨rfl, hb1⟩
        have HB1 := Lib.hid (HW.out.trans (hb1.mono HW.out.size))
        have HR1 := Lib.hid (HR.out.below hb1 HR.out.lt)
        have HM1 := Lib.hid (HM.out.below hb1 HM.out.lt)
        clear hb1
        have c0 := HM1.out.cell1
        have f0 := HM1.out.frozen 1
        go_wp2_with fail
        refine (lowest_any _ _ (by omega)).mono ?_
        rintro e w2 ⟨rfl, rfl⟩
        rw [show lowW 32 = 4294967295 from rfl]
        go_wp2
        go_roundw
        case rel => exact ⟨2, a, q1, by omega, by go_num, Lib.hid (below_set HB1.out _ _ (by rw [HS.out]; simp)), Lib.hid (HR1.out.other _ _ (by simp)), Lib.hid (HM1.out.set1 _), Lib.hid ⟨fun _ => HE.out.1 (by omega), fun _ => rfl⟩⟩
        case measure => simp [intOf]
      · obtain rfl : k = 2 := by omega
        obtain ⟨rfl, rfl⟩ : a = t0 ∧ b = q1 := ⟨HE.out.1 (by omega), HE.out.2 (by omega)⟩
        have c0 := HM.out.cell0
        have c1 := HM.out.cell1
        have r0 := HR.out.cell0
        have r1 := HR.out.cell1
        have f0 := HR.out.frozen 0
        have f1 := HR.out.frozen 1
        obtain ⟨e0, e1, hbE⟩ := res2 a b HR.out HW.out (by rw [HS.out]; exact Nat.le_refl _)
        have HBE := Lib.hid hbE
        clear hbE
        go_wp2
        refine bodyPost_ret (v := .agg #[.int .u64 a, .int .u64 b]) (by simp [results, Tryd.results23, go_sem, e0, e1]) rfl ?_
        exact ⟨rfl, HBE.out⟩
end Go.Proofs.YtgljmcddakeoiaaDoor
