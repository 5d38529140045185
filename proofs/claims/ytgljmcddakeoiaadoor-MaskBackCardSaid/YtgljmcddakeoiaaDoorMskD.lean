/-
  The masks that mask makes: And, Or, Minus, Not, clean, below, single.
-/
import Derived.Test.YtgljmcddakeoiaaDoorMskC
namespace Go.Proofs.YtgljmcddakeoiaaDoor
open Go.RowKit Go.Shelf
set_option linter.unusedVariables false
set_option linter.unusedSimpArgs false
set_option maxRecDepth 100000

/-- What answers a mask. -/
def GivesM (w : World) (f : Nat → Bool) (e : Ending) (w' : World) : Prop := e = .returned (mv (mk f)) ∧ Below w.heap.size w w'
theorem slice_box (w : World) (v : Value) (t : TypeId) : (w.alloc (.cells #[v] t)).cell? ⟨w.heap.size, 0, none⟩ = some v := cell_new w _ t 0
theorem ww0 (m : Mk) : ww 0 m = m.1 := rfl
theorem ww1 (m : Mk) : ww 1 m = m.2 := rfl
theorem and_mk (l : List Mk) : (andW 0 l, andW 1 l % 4294967296) = mk (fun n => l.all (fun m => has m n)) := by
  refine mk_words (andW_lt 0 l) (fun i hi => ?_) (fun i hi => ?_)
  · rw [andW_bit 0 i l hi]; congr 1; funext m; rw [has0 m i hi, ww0]
  · rw [andW_bit 1 i l (by omega)]; congr 1; funext m; rw [has1 m i hi, ww1]
theorem or_mk (l : List Mk) (h : ∀ m ∈ l, Fine m) : (orW 0 l, orW 1 l % 4294967296) = mk (fun n => l.any (fun m => has m n)) := by
  refine mk_words (orW_lt 0 h) (fun i hi => ?_) (fun i hi => ?_)
  · rw [orW_bit 0 i l]; congr 1; funext m; rw [has0 m i hi, ww0]
  · rw [orW_bit 1 i l]; congr 1; funext m; rw [has1 m i hi, ww1]
theorem minus_mk (a b : Mk) (ha : Fine a) (hb : Fine b) : (ww 0 a &&& (18446744073709551615 - ww 0 b), (ww 1 a &&& (18446744073709551615 - ww 1 b)) % 4294967296) = mk (fun n => has a n && !has b n) := by
  refine mk_words (Nat.lt_of_le_of_lt Nat.and_le_left (ww_lt ha 0)) (fun i hi => ?_) (fun i hi => ?_)
  · rw [Nat.testBit_and, not_bit _ _ (ww_lt hb 0) hi, has0 a i hi, has0 b i hi]; rfl
  · rw [Nat.testBit_and, not_bit _ _ (ww_lt hb 1) (by omega), has1 a i hi, has1 b i hi]; rfl
theorem not_mk (a : Mk) (ha : Fine a) : (18446744073709551615 ^^^ ww 0 a, (18446744073709551615 ^^^ ww 1 a) % 4294967296) = mk (fun n => !has a n) := by
  refine mk_words (Nat.xor_lt_two_pow (n := 64) (by decide) (ww_lt ha 0)) (fun i hi => ?_) (fun i hi => ?_)
  · rw [xor_bit _ _ hi, has0 a i hi]; rfl
  · rw [xor_bit _ _ (by omega), has1 a i hi]; rfl
theorem clean_mk (a : Mk) (ha : Fine a) : (ww 0 a, ww 1 a % 4294967296) = mk (has a) := by
  refine mk_words (ww_lt ha 0) (fun i hi => ?_) (fun i hi => ?_)
  · rw [has0 a i hi]; rfl
  · rw [has1 a i hi]; rfl
theorem below_mk (n : Int) : (lowW (n - 64 * (0 : Nat)), lowW (n - 64 * (1 : Nat)) % 4294967296) = mk (fun k => decide ((k : Int) < n)) := by
  refine mk_words (lowW_lt _) (fun i hi => ?_) (fun i hi => ?_)
  · rw [lowW_bit _ _ hi]; simp
  · rw [lowW_bit _ _ (by omega)]; simp; omega

set_option maxHeartbeats 1000000 in
theorem and_any (A : Option Addr) (c : Nat) (l : List Mk) (w : World) (h : Ms w A c l) :
    Calls Tryd.prog 10 #[.slice A l.length c] w (GivesM w fun n => l.all (fun m => has m n)) := by
  obtain ⟨s, hs⟩ : ∃ s, s = w.heap.size := ⟨_, rfl⟩
  obtain ⟨W0, hW0⟩ : ∃ W0, W0 = (w.alloc (.cells #[.slice A l.length c] 51)).alloc (.cells #[.int .u64 (0 : Nat), .int .u64 (0 : Nat)] 25) := ⟨_, rfl⟩
  have hB : Below w.heap.size w W0 := by rw [hW0]; exact ((Below.refl _ w).alloc (Nat.le_refl _) _).alloc (by simp <;> omega) _
  have hz : W0.heap.size = s + 2 := by rw [hW0, hs]; simp
  have hR : MRow W0 (s + 1) 0 0 := by
    rw [hW0, hs]; have := MRow.new (w.alloc (.cells #[.slice A l.length c] 51)) 0 0
    simpa using this
  have hC0 : W0.cell? ⟨s + 0, 0, none⟩ = some (.slice A l.length c) := by
    rw [hW0, hs]; exact ((show Below (w.heap.size + 1) (w.alloc (.cells #[.slice A l.length c] 51)) ((w.alloc (.cells #[.slice A l.length c] 51)).alloc (.cells #[.int .u64 (0 : Nat), .int .u64 (0 : Nat)] 25)) from (Below.refl _ _).alloc (by simp <;> omega) _).cell (p := ⟨w.heap.size + 0, 0, none⟩) (by simp)).trans (slice_box w _ _)
  have HC := Lib.hid (byWord_any 24 #[.pointer (some ⟨s + 0, 0, none⟩)] (andW 0 l) (andW 1 l) W0 (andW_lt 0 l) (andW_lt 1 l) (fun v W => enters_of Tryd.func24 (by kernel_rfl) rfl _ _)
    (fun W hW => and1_any 0 (s + 0) c A l W (by omega) ((hW.cell (p := ⟨s + 0, 0, none⟩) (by rw [hz]; simp)).trans hC0) ((h.below hB).below hW))
    (fun W hW => and1_any 1 (s + 0) c A l W (by omega) ((hW.cell (p := ⟨s + 0, 0, none⟩) (by rw [hz]; simp)).trans hC0) ((h.below hB).below hW)))
  rw [and_mk] at HC
  have HR := Lib.hid hR
  have HB := Lib.hid hB
  have HZ := Lib.hid hz
  have HS := Lib.hid hs
  have HW0 := Lib.hid hW0
  clear h hB hz hR hs hW0 hC0
  go_enter Tryd.func10, Tryd.ntmps10
  go_wp2_with fail
  have hcall := HC.out
  rw [HW0.out, HS.out] at hcall
  refine hcall.mono ?_
  rintro e w1 ⟨rfl, hb1⟩
  rw [← HW0.out] at hb1
  have hR := HR.out.below hb1 HR.out.lt
  have hB := HB.out.trans (hb1.mono HB.out.size)
  obtain ⟨M, hM⟩ : ∃ M, M = mk (fun n => l.all (fun m => has m n)) := ⟨_, rfl⟩
  rw [← hM]
  obtain ⟨a, b⟩ := M
  obtain ⟨e0, e1, hbE⟩ := res2 a b hR hB (by rw [HS.out]; omega)
  rw [HS.out] at hR e0 e1 hbE
  have c0 := hR.cell0
  have c1 := hR.cell1
  have f0 := hR.frozen 0
  have f1 := hR.frozen 1
  have HM := Lib.hid hM
  have HBE := Lib.hid hbE
  clear hbE hB hR hb1 hM hcall
  dsimp only [mv]
  go_wp2
  refine bodyPost_ret (v := .agg #[.int .u64 a, .int .u64 b]) (by simp [results, Tryd.results10, go_sem, e0, e1]) rfl ?_
  exact ⟨by rw [← HM.out]; rfl, HBE.out⟩

set_option maxHeartbeats 1000000 in
theorem or_any (A : Option Addr) (c : Nat) (l : List Mk) (w : World) (h : Ms w A c l) :
    Calls Tryd.prog 17 #[.slice A l.length c] w (GivesM w fun n => l.any (fun m => has m n)) := by
  obtain ⟨s, hs⟩ : ∃ s, s = w.heap.size := ⟨_, rfl⟩
  obtain ⟨W0, hW0⟩ : ∃ W0, W0 = (w.alloc (.cells #[.slice A l.length c] 51)).alloc (.cells #[.int .u64 (0 : Nat), .int .u64 (0 : Nat)] 25) := ⟨_, rfl⟩
  have hB : Below w.heap.size w W0 := by rw [hW0]; exact ((Below.refl _ w).alloc (Nat.le_refl _) _).alloc (by simp <;> omega) _
  have hz : W0.heap.size = s + 2 := by rw [hW0, hs]; simp
  have hR : MRow W0 (s + 1) 0 0 := by
    rw [hW0, hs]; have := MRow.new (w.alloc (.cells #[.slice A l.length c] 51)) 0 0
    simpa using this
  have hC0 : W0.cell? ⟨s + 0, 0, none⟩ = some (.slice A l.length c) := by
    rw [hW0, hs]; exact ((show Below (w.heap.size + 1) (w.alloc (.cells #[.slice A l.length c] 51)) ((w.alloc (.cells #[.slice A l.length c] 51)).alloc (.cells #[.int .u64 (0 : Nat), .int .u64 (0 : Nat)] 25)) from (Below.refl _ _).alloc (by simp <;> omega) _).cell (p := ⟨w.heap.size + 0, 0, none⟩) (by simp)).trans (slice_box w _ _)
  have HC := Lib.hid (byWord_any 30 #[.pointer (some ⟨s + 0, 0, none⟩)] (orW 0 l) (orW 1 l) W0 (orW_lt 0 h.fine) (orW_lt 1 h.fine) (fun v W => enters_of Tryd.func30 (by kernel_rfl) rfl _ _)
    (fun W hW => or1_any 0 (s + 0) c A l W (by omega) ((hW.cell (p := ⟨s + 0, 0, none⟩) (by rw [hz]; simp)).trans hC0) ((h.below hB).below hW))
    (fun W hW => or1_any 1 (s + 0) c A l W (by omega) ((hW.cell (p := ⟨s + 0, 0, none⟩) (by rw [hz]; simp)).trans hC0) ((h.below hB).below hW)))
  rw [or_mk l h.fine] at HC
  have HR := Lib.hid hR
  have HB := Lib.hid hB
  have HZ := Lib.hid hz
  have HS := Lib.hid hs
  have HW0 := Lib.hid hW0
  clear h hB hz hR hs hW0 hC0
  go_enter Tryd.func17, Tryd.ntmps17
  go_wp2_with fail
  have hcall := HC.out
  rw [HW0.out, HS.out] at hcall
  refine hcall.mono ?_
  rintro e w1 ⟨rfl, hb1⟩
  rw [← HW0.out] at hb1
  have hR := HR.out.below hb1 HR.out.lt
  have hB := HB.out.trans (hb1.mono HB.out.size)
  obtain ⟨M, hM⟩ : ∃ M, M = mk (fun n => l.any (fun m => has m n)) := ⟨_, rfl⟩
  rw [← hM]
  obtain ⟨a, b⟩ := M
  obtain ⟨e0, e1, hbE⟩ := res2 a b hR hB (by rw [HS.out]; omega)
  rw [HS.out] at hR e0 e1 hbE
  have c0 := hR.cell0
  have c1 := hR.cell1
  have f0 := hR.frozen 0
  have f1 := hR.frozen 1
  have HM := Lib.hid hM
  have HBE := Lib.hid hbE
  clear hbE hB hR hb1 hM hcall
  dsimp only [mv]
  go_wp2
  refine bodyPost_ret (v := .agg #[.int .u64 a, .int .u64 b]) (by simp [results, Tryd.results17, go_sem, e0, e1]) rfl ?_
  exact ⟨by rw [← HM.out]; rfl, HBE.out⟩

set_option maxHeartbeats 1000000 in
theorem not_any (m : Mk) (w : World) (h : Fine m) :
    Calls Tryd.prog 15 #[mv m] w (GivesM w fun n => !has m n) := by
  obtain ⟨s, hs⟩ : ∃ s, s = w.heap.size := ⟨_, rfl⟩
  obtain ⟨W0, hW0⟩ : ∃ W0, W0 = (w.alloc (.cells #[.int .u64 m.1, .int .u64 m.2] 25)).alloc (.cells #[.int .u64 (0 : Nat), .int .u64 (0 : Nat)] 25) := ⟨_, rfl⟩
  have hB : Below w.heap.size w W0 := by rw [hW0]; exact ((Below.refl _ w).alloc (Nat.le_refl _) _).alloc (by simp <;> omega) _
  have hz : W0.heap.size = s + 2 := by rw [hW0, hs]; simp
  have hR : MRow W0 (s + 1) 0 0 := by
    rw [hW0, hs]; have := MRow.new (w.alloc (.cells #[.int .u64 m.1, .int .u64 m.2] 25)) 0 0
    simpa using this
  have hM0 : MBox W0 (s + 0) m := by
    rw [hW0, hs]; have h := MBox.new w m 25
    have h2 := h.below (B := w.heap.size + 1) (w' := (w.alloc (.cells #[.int .u64 m.1, .int .u64 m.2] 25)).alloc (.cells #[.int .u64 (0 : Nat), .int .u64 (0 : Nat)] 25)) ((Below.refl _ _).alloc (by simp <;> omega) _) (by omega)
    simpa using h2
  have HC := Lib.hid (byWord_any 29 #[.pointer (some ⟨s + 0, 0, none⟩)] (18446744073709551615 ^^^ ww 0 m) (18446744073709551615 ^^^ ww 1 m) W0 (Nat.xor_lt_two_pow (n := 64) (by decide) (ww_lt h 0)) (Nat.xor_lt_two_pow (n := 64) (by decide) (ww_lt h 1)) (fun v W => enters_of Tryd.func29 (by kernel_rfl) rfl _ _)
    (fun W hW => (not1_any 0 (s + 0) m W (by omega) (hM0.below hW (by rw [hz]; omega)) h).mono (fun e w2 ⟨h1, h2⟩ => ⟨h1, by rw [← h2]; exact Below.refl _ _⟩))
    (fun W hW => (not1_any 1 (s + 0) m W (by omega) (hM0.below hW (by rw [hz]; omega)) h).mono (fun e w2 ⟨h1, h2⟩ => ⟨h1, by rw [← h2]; exact Below.refl _ _⟩)))
  rw [not_mk m h] at HC
  have HR := Lib.hid hR
  have HB := Lib.hid hB
  have HZ := Lib.hid hz
  have HS := Lib.hid hs
  have HW0 := Lib.hid hW0
  clear h hB hz hR hs hW0 hM0
  unfold mv
  go_enter Tryd.func15, Tryd.ntmps15
  go_wp2_with fail
  have hcall := HC.out
  rw [HW0.out, HS.out] at hcall
  refine hcall.mono ?_
  rintro e w1 ⟨rfl, hb1⟩
  rw [← HW0.out] at hb1
  have hR := HR.out.below hb1 HR.out.lt
  have hB := HB.out.trans (hb1.mono HB.out.size)
  obtain ⟨M, hM⟩ : ∃ M, M = mk (fun n => !has m n) := ⟨_, rfl⟩
  rw [← hM]
  obtain ⟨a, b⟩ := M
  obtain ⟨e0, e1, hbE⟩ := res2 a b hR hB (by rw [HS.out]; omega)
  rw [HS.out] at hR e0 e1 hbE
  have c0 := hR.cell0
  have c1 := hR.cell1
  have f0 := hR.frozen 0
  have f1 := hR.frozen 1
  have HM := Lib.hid hM
  have HBE := Lib.hid hbE
  clear hbE hB hR hb1 hM hcall
  dsimp only [mv]
  go_wp2
  refine bodyPost_ret (v := .agg #[.int .u64 a, .int .u64 b]) (by simp [results, Tryd.results15, go_sem, e0, e1]) rfl ?_
  exact ⟨by rw [← HM.out]; rfl, HBE.out⟩

set_option maxHeartbeats 1000000 in
theorem clean_any (m : Mk) (w : World) (h : Fine m) :
    Calls Tryd.prog 27 #[mv m] w (GivesM w fun n => has m n) := by
  obtain ⟨s, hs⟩ : ∃ s, s = w.heap.size := ⟨_, rfl⟩
  obtain ⟨W0, hW0⟩ : ∃ W0, W0 = (w.alloc (.cells #[.int .u64 m.1, .int .u64 m.2] 25)).alloc (.cells #[.int .u64 (0 : Nat), .int .u64 (0 : Nat)] 25) := ⟨_, rfl⟩
  have hB : Below w.heap.size w W0 := by rw [hW0]; exact ((Below.refl _ w).alloc (Nat.le_refl _) _).alloc (by simp <;> omega) _
  have hz : W0.heap.size = s + 2 := by rw [hW0, hs]; simp
  have hR : MRow W0 (s + 1) 0 0 := by
    rw [hW0, hs]; have := MRow.new (w.alloc (.cells #[.int .u64 m.1, .int .u64 m.2] 25)) 0 0
    simpa using this
  have hM0 : MBox W0 (s + 0) m := by
    rw [hW0, hs]; have h := MBox.new w m 25
    have h2 := h.below (B := w.heap.size + 1) (w' := (w.alloc (.cells #[.int .u64 m.1, .int .u64 m.2] 25)).alloc (.cells #[.int .u64 (0 : Nat), .int .u64 (0 : Nat)] 25)) ((Below.refl _ _).alloc (by simp <;> omega) _) (by omega)
    simpa using h2
  have HC := Lib.hid (byWord_any 48 #[.pointer (some ⟨s + 0, 0, none⟩)] (ww 0 m) (ww 1 m) W0 (ww_lt h 0) (ww_lt h 1) (fun v W => enters_of Tryd.func48 (by kernel_rfl) rfl _ _)
    (fun W hW => (clean1_any 0 (s + 0) m W (by omega) (hM0.below hW (by rw [hz]; omega))).mono (fun e w2 ⟨h1, h2⟩ => ⟨h1, by rw [← h2]; exact Below.refl _ _⟩))
    (fun W hW => (clean1_any 1 (s + 0) m W (by omega) (hM0.below hW (by rw [hz]; omega))).mono (fun e w2 ⟨h1, h2⟩ => ⟨h1, by rw [← h2]; exact Below.refl _ _⟩)))
  rw [clean_mk m h] at HC
  have HR := Lib.hid hR
  have HB := Lib.hid hB
  have HZ := Lib.hid hz
  have HS := Lib.hid hs
  have HW0 := Lib.hid hW0
  clear h hB hz hR hs hW0 hM0
  unfold mv
  go_enter Tryd.func27, Tryd.ntmps27
  go_wp2_with fail
  have hcall := HC.out
  rw [HW0.out, HS.out] at hcall
  refine hcall.mono ?_
  rintro e w1 ⟨rfl, hb1⟩
  rw [← HW0.out] at hb1
  have hR := HR.out.below hb1 HR.out.lt
  have hB := HB.out.trans (hb1.mono HB.out.size)
  obtain ⟨M, hM⟩ : ∃ M, M = mk (fun n => has m n) := ⟨_, rfl⟩
  rw [← hM]
  obtain ⟨a, b⟩ := M
  obtain ⟨e0, e1, hbE⟩ := res2 a b hR hB (by rw [HS.out]; omega)
  rw [HS.out] at hR e0 e1 hbE
  have c0 := hR.cell0
  have c1 := hR.cell1
  have f0 := hR.frozen 0
  have f1 := hR.frozen 1
  have HM := Lib.hid hM
  have HBE := Lib.hid hbE
  clear hbE hB hR hb1 hM hcall
  dsimp only [mv]
  go_wp2
  refine bodyPost_ret (v := .agg #[.int .u64 a, .int .u64 b]) (by simp [results, Tryd.results27, go_sem, e0, e1]) rfl ?_
  exact ⟨by rw [← HM.out]; rfl, HBE.out⟩

set_option maxHeartbeats 1000000 in
theorem minus_any (m m2 : Mk) (w : World) (h : Fine m) (h2 : Fine m2) :
    Calls Tryd.prog 25 #[mv m, mv m2] w (GivesM w fun n => has m n && !has m2 n) := by
  obtain ⟨s, hs⟩ : ∃ s, s = w.heap.size := ⟨_, rfl⟩
  obtain ⟨W0, hW0⟩ : ∃ W0, W0 = ((w.alloc (.cells #[.int .u64 m.1, .int .u64 m.2] 25)).alloc (.cells #[.int .u64 m2.1, .int .u64 m2.2] 25)).alloc (.cells #[.int .u64 (0 : Nat), .int .u64 (0 : Nat)] 25) := ⟨_, rfl⟩
  have hB : Below w.heap.size w W0 := by rw [hW0]; exact (((Below.refl _ w).alloc (Nat.le_refl _) _).alloc (by simp <;> omega) _).alloc (by simp <;> omega) _
  have hz : W0.heap.size = s + 3 := by rw [hW0, hs]; simp
  have hR : MRow W0 (s + 2) 0 0 := by
    rw [hW0, hs]; have := MRow.new ((w.alloc (.cells #[.int .u64 m.1, .int .u64 m.2] 25)).alloc (.cells #[.int .u64 m2.1, .int .u64 m2.2] 25)) 0 0
    simpa using this
  have hM0 : MBox W0 (s + 0) m := by
    rw [hW0, hs]; have h := MBox.new w m 25
    have h2 := h.below (B := w.heap.size + 1) (w' := ((w.alloc (.cells #[.int .u64 m.1, .int .u64 m.2] 25)).alloc (.cells #[.int .u64 m2.1, .int .u64 m2.2] 25)).alloc (.cells #[.int .u64 (0 : Nat), .int .u64 (0 : Nat)] 25)) (((Below.refl _ _).alloc (by simp <;> omega) _).alloc (by simp <;> omega) _) (by omega)
    simpa using h2
  have hM1 : MBox W0 (s + 1) m2 := by
    rw [hW0, hs]; have h := MBox.new (w.alloc (.cells #[.int .u64 m.1, .int .u64 m.2] 25)) m2 25
    have h2 := h.below (B := (w.alloc (.cells #[.int .u64 m.1, .int .u64 m.2] 25)).heap.size + 1) (w' := ((w.alloc (.cells #[.int .u64 m.1, .int .u64 m.2] 25)).alloc (.cells #[.int .u64 m2.1, .int .u64 m2.2] 25)).alloc (.cells #[.int .u64 (0 : Nat), .int .u64 (0 : Nat)] 25)) ((Below.refl _ _).alloc (by simp <;> omega) _) (by omega)
    simpa using h2
  have HC := Lib.hid (byWord_any 46 #[.pointer (some ⟨s + 0, 0, none⟩), .pointer (some ⟨s + 1, 0, none⟩)] (ww 0 m &&& (18446744073709551615 - ww 0 m2)) (ww 1 m &&& (18446744073709551615 - ww 1 m2)) W0 (Nat.lt_of_le_of_lt Nat.and_le_left (ww_lt h 0)) (Nat.lt_of_le_of_lt Nat.and_le_left (ww_lt h 1)) (fun v W => enters_of Tryd.func46 (by kernel_rfl) rfl _ _)
    (fun W hW => minus1_any 0 (s + 0) (s + 1) m m2 W (by omega) (hM0.below hW (by rw [hz]; omega)) (hM1.below hW (by rw [hz]; omega)) h h2)
    (fun W hW => minus1_any 1 (s + 0) (s + 1) m m2 W (by omega) (hM0.below hW (by rw [hz]; omega)) (hM1.below hW (by rw [hz]; omega)) h h2))
  rw [minus_mk m m2 h h2] at HC
  have HR := Lib.hid hR
  have HB := Lib.hid hB
  have HZ := Lib.hid hz
  have HS := Lib.hid hs
  have HW0 := Lib.hid hW0
  clear h h2 hB hz hR hs hW0 hM0 hM1
  unfold mv
  go_enter Tryd.func25, Tryd.ntmps25
  go_wp2_with fail
  have hcall := HC.out
  rw [HW0.out, HS.out] at hcall
  refine hcall.mono ?_
  rintro e w1 ⟨rfl, hb1⟩
  rw [← HW0.out] at hb1
  have hR := HR.out.below hb1 HR.out.lt
  have hB := HB.out.trans (hb1.mono HB.out.size)
  obtain ⟨M, hM⟩ : ∃ M, M = mk (fun n => has m n && !has m2 n) := ⟨_, rfl⟩
  rw [← hM]
  obtain ⟨a, b⟩ := M
  obtain ⟨e0, e1, hbE⟩ := res2 a b hR hB (by rw [HS.out]; omega)
  rw [HS.out] at hR e0 e1 hbE
  have c0 := hR.cell0
  have c1 := hR.cell1
  have f0 := hR.frozen 0
  have f1 := hR.frozen 1
  have HM := Lib.hid hM
  have HBE := Lib.hid hbE
  clear hbE hB hR hb1 hM hcall
  dsimp only [mv]
  go_wp2
  refine bodyPost_ret (v := .agg #[.int .u64 a, .int .u64 b]) (by simp [results, Tryd.results25, go_sem, e0, e1]) rfl ?_
  exact ⟨by rw [← HM.out]; rfl, HBE.out⟩
end Go.Proofs.YtgljmcddakeoiaaDoor
