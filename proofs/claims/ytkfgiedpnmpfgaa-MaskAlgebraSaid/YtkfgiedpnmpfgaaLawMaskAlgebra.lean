/-
  The statement MaskAlgebra: And, Or and Not are what they are of sets; for every three masks, with no condition.
-/
import Derived.Test.YtkfgiedpnmpfgaaLawFrame
import Derived.Test.YtkfgiedpnmpfgaaMskRel
import Derived.Deep.Cut
namespace Go.Proofs.Ytkfgiedpnmpfgaa.maskAlgebra
open Go.ChangeShapes Go.WideShapes Go.ChangeAt Go.RowKit Go.Deep
set_option linter.unusedVariables false
set_option linter.unusedSimpArgs false
set_option maxRecDepth 100000

theorem andL (l : List Mk) (n : Nat) (r : Mk) (hn : l.length = n) (hr : mk (fun k => l.all fun m => has m k) = r) (W : World) (A : Option Addr) (hA : Ms W A n l) : Calls Try.prog 19 #[.slice A n n] W (fun e w' => e = .returned (.agg #[.int .u64 r.1, .int .u64 r.2]) ∧ Below W.heap.size W w') := by
  have := and_any A n l W hA
  unfold GivesM at this
  rw [hr, hn] at this
  exact this
theorem orL (l : List Mk) (n : Nat) (r : Mk) (hn : l.length = n) (hr : mk (fun k => l.any fun m => has m k) = r) (W : World) (A : Option Addr) (hA : Ms W A n l) : Calls Try.prog 21 #[.slice A n n] W (fun e w' => e = .returned (.agg #[.int .u64 r.1, .int .u64 r.2]) ∧ Below W.heap.size W w') := by
  have := or_any A n l W hA
  unfold GivesM at this
  rw [hr, hn] at this
  exact this
theorem notL (m r : Mk) (hm : Fine m) (hr : mk (fun k => !has m k) = r) (W : World) : Calls Try.prog 25 #[.agg #[.int .u64 m.1, .int .u64 m.2]] W (fun e w' => e = .returned (.agg #[.int .u64 r.1, .int .u64 r.2]) ∧ Below W.heap.size W w') := by
  have := not_any m W hm
  unfold GivesM at this
  rw [hr] at this
  exact this
theorem cntL (m : Mk) (k : Nat) (hm : Fine m) (hk : cnt (has m) 96 = k) (W : World) : Calls Try.prog 26 #[.agg #[.int .u64 m.1, .int .u64 m.2]] W (fun e w' => e = .returned (.int .i64 k) ∧ Below W.heap.size W w') := by
  have := count_any m W hm
  rw [hk] at this
  exact this
theorem eqL (m : Mk) (w : World) : (Op.equalIn 10000 25 (.agg #[.int .u64 m.1, .int .u64 m.2]) (.agg #[.int .u64 m.1, .int .u64 m.2])).run Try.prog w = .ok true w := by rw [eqM]; simp
theorem eqZ (w : World) : (Op.equalIn 10000 25 (.agg #[.int .u64 0, .int .u64 0]) (.agg #[.int .u64 0, .int .u64 0])).run Try.prog w = .ok true w := by rw [eqM0]; rfl
theorem ms3 (W : World) (a b c : Mk) (ha : Fine a) (hb : Fine b) (hc : Fine c) : Ms (W.alloc (.cells #[.int .u64 a.1, .int .u64 a.2, .int .u64 b.1, .int .u64 b.2, .int .u64 c.1, .int .u64 c.2] 25)) (some ⟨W.heap.size, 0, none⟩) 3 [a, b, c] := by
  refine ⟨by simp, by omega, fun _ => ⟨W.heap.size, 0, rfl, by simp, fun j m hm => ?_⟩, fun m hm => by simp at hm; rcases hm with rfl | rfl | rfl <;> assumption⟩
  match j, hm with
  | 0, hm => simp at hm; subst hm; exact ⟨cell_new W _ _ 0, cell_new W _ _ 1⟩
  | 1, hm => simp at hm; subst hm; exact ⟨cell_new W _ _ 2, cell_new W _ _ 3⟩
  | 2, hm => simp at hm; subst hm; exact ⟨cell_new W _ _ 4, cell_new W _ _ 5⟩
  | j + 3, hm => simp at hm
theorem cnt_not (f : Nat → Bool) : ∀ k, cnt f k + cnt (fun n => !f n) k = k
  | 0 => rfl
  | k + 1 => by rw [cnt_succ, cnt_succ]; have := cnt_not f k; cases f k <;> simp <;> omega
theorem cnt_or (f g : Nat → Bool) : ∀ k, cnt f k + cnt g k = cnt (fun n => f n || g n) k + cnt (fun n => f n && g n) k
  | 0 => rfl
  | k + 1 => by rw [cnt_succ, cnt_succ, cnt_succ, cnt_succ]; have := cnt_or f g k; cases f k <;> cases g k <;> simp <;> omega

set_option maxHeartbeats 16000000 in
theorem walk {w : World} (a : Mk) (Ha : Fine a) (b : Mk) (Hb : Fine b) (c : Mk) (Hc : Fine c) :
    Calls Try.prog 6 #[mv a, mv b, mv c] w fun e w' => e = .returned (.bool true) ∧ Below w.heap.size w w' := by
  obtain ⟨All, hAll⟩ : ∃ M, M = mk (fun n => true) := ⟨_, rfl⟩
  obtain ⟨A, hA⟩ : ∃ M, M = mk (has a) := ⟨_, rfl⟩
  obtain ⟨B, hB⟩ : ∃ M, M = mk (has b) := ⟨_, rfl⟩
  obtain ⟨D, hD⟩ : ∃ M, M = mk (has c) := ⟨_, rfl⟩
  obtain ⟨O3, hO3⟩ : ∃ M, M = mk (fun k => has A k || (has B k || has D k)) := ⟨_, rfl⟩
  obtain ⟨N1, hN1⟩ : ∃ M, M = mk (fun k => !has O3 k) := ⟨_, rfl⟩
  obtain ⟨NA, hNA⟩ : ∃ M, M = mk (fun k => !has A k) := ⟨_, rfl⟩
  obtain ⟨NB, hNB⟩ : ∃ M, M = mk (fun k => !has B k) := ⟨_, rfl⟩
  obtain ⟨ND, hND⟩ : ∃ M, M = mk (fun k => !has D k) := ⟨_, rfl⟩
  obtain ⟨Mi, hMi⟩ : ∃ M, M = mk (fun k => has A k && !has B k) := ⟨_, rfl⟩
  obtain ⟨OBD, hOBD⟩ : ∃ M, M = mk (fun k => has B k || has D k) := ⟨_, rfl⟩
  obtain ⟨X1, hX1⟩ : ∃ M, M = mk (fun k => has A k && has OBD k) := ⟨_, rfl⟩
  obtain ⟨AB, hAB⟩ : ∃ M, M = mk (fun k => has A k && has B k) := ⟨_, rfl⟩
  obtain ⟨AD, hAD⟩ : ∃ M, M = mk (fun k => has A k && has D k) := ⟨_, rfl⟩
  obtain ⟨OAB, hOAB⟩ : ∃ M, M = mk (fun k => has A k || has B k) := ⟨_, rfl⟩
  have fAll : Fine All := by rw [hAll]; exact mk_fine _
  have fA : Fine A := by rw [hA]; exact mk_fine _
  have fB : Fine B := by rw [hB]; exact mk_fine _
  have fD : Fine D := by rw [hD]; exact mk_fine _
  have fO3 : Fine O3 := by rw [hO3]; exact mk_fine _
  have fN1 : Fine N1 := by rw [hN1]; exact mk_fine _
  have fNA : Fine NA := by rw [hNA]; exact mk_fine _
  have fNB : Fine NB := by rw [hNB]; exact mk_fine _
  have fND : Fine ND := by rw [hND]; exact mk_fine _
  have fMi : Fine Mi := by rw [hMi]; exact mk_fine _
  have fOBD : Fine OBD := by rw [hOBD]; exact mk_fine _
  have fX1 : Fine X1 := by rw [hX1]; exact mk_fine _
  have fAB : Fine AB := by rw [hAB]; exact mk_fine _
  have fAD : Fine AD := by rw [hAD]; exact mk_fine _
  have fOAB : Fine OAB := by rw [hOAB]; exact mk_fine _
  have HRa := Lib.hid (show rightM A = true ∧ rightM B = true ∧ rightM D = true from by
    unfold rightM
    rw [hA, hB, hD]
    exact ⟨decide_eq_true (mk_has _).symm, decide_eq_true (mk_has _).symm, decide_eq_true (mk_has _).symm⟩)
  have cAll := Lib.hid (andL [] 0 All rfl (by rw [hAll]; exact mk_congr (fun k hk => by simp)))
  have cA0 := Lib.hid (andL [All, a] 2 A rfl (by rw [hA]; exact mk_congr (fun k hk => by rw [hAll]; simp [has_mk, hk])))
  have cB0 := Lib.hid (andL [All, b] 2 B rfl (by rw [hB]; exact mk_congr (fun k hk => by rw [hAll]; simp [has_mk, hk])))
  have cD0 := Lib.hid (andL [All, c] 2 D rfl (by rw [hD]; exact mk_congr (fun k hk => by rw [hAll]; simp [has_mk, hk])))
  have cO3 := Lib.hid (orL [A, B, D] 3 O3 rfl (by rw [hO3]; exact mk_congr (fun k hk => by simp)))
  have cN1 := Lib.hid (notL O3 N1 fO3 hN1.symm)
  have cNA := Lib.hid (notL A NA fA hNA.symm)
  have cNB := Lib.hid (notL B NB fB hNB.symm)
  have cND := Lib.hid (notL D ND fD hND.symm)
  have cN2 := Lib.hid (andL [NA, NB, ND] 3 N1 rfl (by rw [hN1]; exact mk_congr (fun k hk => by rw [hNA, hNB, hND, hO3]; simp [has_mk, hk, Bool.not_or])))
  have cMi := Lib.hid (fun W => show Calls Try.prog 23 #[.agg #[.int .u64 A.1, .int .u64 A.2], .agg #[.int .u64 B.1, .int .u64 B.2]] W (fun e w' => e = .returned (.agg #[.int .u64 Mi.1, .int .u64 Mi.2]) ∧ Below W.heap.size W w') from by rw [hMi]; exact minus_any A B W fA fB)
  have cMi2 := Lib.hid (andL [A, NB] 2 Mi rfl (by rw [hMi]; exact mk_congr (fun k hk => by rw [hNB]; simp [has_mk, hk])))
  have cOBD := Lib.hid (orL [B, D] 2 OBD rfl (by rw [hOBD]; exact mk_congr (fun k hk => by simp)))
  have cX1 := Lib.hid (andL [A, OBD] 2 X1 rfl (by rw [hX1]; exact mk_congr (fun k hk => by simp)))
  have cAB := Lib.hid (andL [A, B] 2 AB rfl (by rw [hAB]; exact mk_congr (fun k hk => by simp)))
  have cAD := Lib.hid (andL [A, D] 2 AD rfl (by rw [hAD]; exact mk_congr (fun k hk => by simp)))
  have cX2 := Lib.hid (orL [AB, AD] 2 X1 rfl (by rw [hX1]; exact mk_congr (fun k hk => by rw [hAB, hAD, hOBD]; simp [has_mk, hk, Bool.and_or_distrib_left])))
  have cOAB := Lib.hid (orL [A, B] 2 OAB rfl (by rw [hOAB]; exact mk_congr (fun k hk => by simp)))
  have cOBA := Lib.hid (orL [B, A] 2 OAB rfl (by rw [hOAB]; exact mk_congr (fun k hk => by simp [Bool.or_comm])))
  have cO0 := Lib.hid (fun W => show Calls Try.prog 21 #[.slice none 0 0] W (fun e w' => e = .returned (.agg #[.int .u64 0, .int .u64 0]) ∧ Below W.heap.size W w') from orL [] 0 (0, 0) rfl (mk_none _ (fun k => by simp)) W none (Ms.nil W))
  obtain ⟨p, hp⟩ : ∃ p, p = cnt (has A) 96 := ⟨_, rfl⟩
  obtain ⟨q, hq⟩ : ∃ p, p = cnt (has B) 96 := ⟨_, rfl⟩
  obtain ⟨r, hr⟩ : ∃ p, p = cnt (has OAB) 96 := ⟨_, rfl⟩
  obtain ⟨u, hu⟩ : ∃ p, p = cnt (has AB) 96 := ⟨_, rfl⟩
  have hsum : p + q = r + u := by
    rw [hp, hq, hr, hu, cnt_or (has A) (has B) 96, hOAB, hAB]
    congr 1
    · exact cnt_congr (fun k hk => by rw [has_mk]; simp [hk])
    · exact cnt_congr (fun k hk => by rw [has_mk]; simp [hk])
  have hp96 : p ≤ 96 := by rw [hp]; exact cnt_le _ _
  have hq96 : q ≤ 96 := by rw [hq]; exact cnt_le _ _
  have hr96 : r ≤ 96 := by rw [hr]; exact cnt_le _ _
  have hu96 : u ≤ 96 := by rw [hu]; exact cnt_le _ _
  have cp := Lib.hid (cntL A p fA hp.symm)
  have cq := Lib.hid (cntL B q fB hq.symm)
  have cr := Lib.hid (cntL OAB r fOAB hr.symm)
  have cu := Lib.hid (cntL AB u fAB hu.symm)
  have HLoop := Lib.hid (fun (M : Mk) (f : Nat → Bool) (hM : M = mk f) => show ∃ (N : Mk) (x y : Nat), x + y = 96 ∧ (∀ W, Calls Try.prog 13 #[.agg #[.int .u64 M.1, .int .u64 M.2]] W (fun e w' => e = .returned (.int .i64 0) ∧ Below W.heap.size W w')) ∧ (∀ W, Calls Try.prog 25 #[.agg #[.int .u64 M.1, .int .u64 M.2]] W (fun e w' => e = .returned (.agg #[.int .u64 N.1, .int .u64 N.2]) ∧ Below W.heap.size W w')) ∧ (∀ W, Calls Try.prog 25 #[.agg #[.int .u64 N.1, .int .u64 N.2]] W (fun e w' => e = .returned (.agg #[.int .u64 M.1, .int .u64 M.2]) ∧ Below W.heap.size W w')) ∧ (∀ W, Calls Try.prog 26 #[.agg #[.int .u64 M.1, .int .u64 M.2]] W (fun e w' => e = .returned (.int .i64 x) ∧ Below W.heap.size W w')) ∧ (∀ W, Calls Try.prog 26 #[.agg #[.int .u64 N.1, .int .u64 N.2]] W (fun e w' => e = .returned (.int .i64 y) ∧ Below W.heap.size W w')) from by
    have fM : Fine M := by rw [hM]; exact mk_fine _
    refine ⟨mk (fun k => !has M k), cnt (has M) 96, cnt (fun k => !has M k) 96, cnt_not _ _, fun W => ?_, notL M _ fM rfl, notL _ M (mk_fine _) (by rw [hM]; exact mk_congr (fun k hk => by rw [has_mk, has_mk]; simp [hk])), cntL M _ fM rfl, cntL _ _ (mk_fine _) (cnt_congr (fun k hk => by rw [has_mk]; simp [hk]))⟩
    have h1 := check_any M W fM
    have h2 : rightM M = true := by unfold rightM; rw [hM]; exact decide_eq_true (mk_has _).symm
    rw [show chkM M = 0 from by unfold chkM; rw [h2]; rfl] at h1
    exact h1)
  have HMA := Lib.hid hA
  have HMB := Lib.hid hB
  have HMD := Lib.hid hD
  have HF2 := Lib.hid (fun (x y : Mk) (hx : Fine x) (hy : Fine y) (W : World) => Ms.two W x y hx hy)
  have m0A := Lib.hid (fun W => Ms.two W All a fAll Ha)
  have m0B := Lib.hid (fun W => Ms.two W All b fAll Hb)
  have m0D := Lib.hid (fun W => Ms.two W All c fAll Hc)
  have mABD := Lib.hid (fun W => ms3 W A B D fA fB fD)
  have mNNN := Lib.hid (fun W => ms3 W NA NB ND fNA fNB fND)
  have mA_NB := Lib.hid (fun W => Ms.two W A NB fA fNB)
  have mB_D := Lib.hid (fun W => Ms.two W B D fB fD)
  have mA_OBD := Lib.hid (fun W => Ms.two W A OBD fA fOBD)
  have mA_B := Lib.hid (fun W => Ms.two W A B fA fB)
  have mA_D := Lib.hid (fun W => Ms.two W A D fA fD)
  have mAB_AD := Lib.hid (fun W => Ms.two W AB AD fAB fAD)
  have mB_A := Lib.hid (fun W => Ms.two W B A fB fA)
  have HWk := Lib.hid (fun W => wakes_any W)
  obtain ⟨s, hs⟩ : ∃ s, s = w.heap.size := ⟨_, rfl⟩
  obtain ⟨W0, hW0⟩ : ∃ W0, W0 = ((w.alloc (.cells #[.int .u64 a.1, .int .u64 a.2] 25)).alloc (.cells #[.int .u64 b.1, .int .u64 b.2] 25)).alloc (.cells #[.int .u64 c.1, .int .u64 c.2] 25) := ⟨_, rfl⟩
  have hb0 : Below w.heap.size w W0 := by rw [hW0]; exact (((Below.refl _ w).alloc (Nat.le_refl _) _).alloc (by simp) _).alloc (by simp; omega) _
  have ra : MRow W0 s a.1 a.2 := by
    rw [hW0, hs]
    exact ((MRow.new w a.1 a.2).below ((Below.refl _ _).alloc (Nat.le_refl _) _) (by simp)).below ((Below.refl _ _).alloc (Nat.le_refl _) _) (by simp; omega)
  have rb : MRow W0 (s + 1) b.1 b.2 := by
    rw [hW0, hs]
    have := (MRow.new (w.alloc (.cells #[.int .u64 a.1, .int .u64 a.2] 25)) b.1 b.2).below ((Below.refl _ _).alloc (Nat.le_refl _) (.cells #[.int .u64 c.1, .int .u64 c.2] 25)) (by simp)
    simpa using this
  have rc : MRow W0 (s + 1 + 1) c.1 c.2 := by
    rw [hW0, hs]
    have := MRow.new ((w.alloc (.cells #[.int .u64 a.1, .int .u64 a.2] 25)).alloc (.cells #[.int .u64 b.1, .int .u64 b.2] 25)) c.1 c.2
    simpa using this
  have HS := Lib.hid hs
  have HW0 := Lib.hid hW0
  have HB0 := Lib.hid hb0
  have Hra := Lib.hid ra
  have Hrb := Lib.hid rb
  have Hrc := Lib.hid rc
  clear hb0 ra rb rc hW0 hs hp hq hr hu Ha Hb Hc hAll hA hB hD fAll fA fB fD HF2
  clear hO3 fO3 hN1 fN1 hNA fNA hNB fNB hND fND hMi fMi hOBD fOBD hX1 fX1 hAB fAB hAD fAD hOAB fOAB
  unfold mv
  go_enter Try.func6, Try.ntmps6
  go_wp2_with fail
  rw [show ((w.alloc (.cells #[.int .u64 a.1, .int .u64 a.2] 25)).alloc (.cells #[.int .u64 b.1, .int .u64 b.2] 25)).alloc (.cells #[.int .u64 c.1, .int .u64 c.2] 25) = W0 from HW0.out.symm, ← HS.out]
  refine (HWk.out _).mono ?_
  rintro e w1 ⟨rfl, hb1⟩
  have HB1 := Lib.hid hb1
  clear hb1
  go_wp2_with fail
  refine (cAll.out _ _ (Ms.nil _)).mono ?_
  rintro e w2 ⟨rfl, hb2⟩
  obtain ⟨g7, hg7⟩ : ∃ g, g = w2.heap.size := ⟨_, rfl⟩
  obtain ⟨W3, hW3⟩ : ∃ W3, W3 = w2.alloc (.cells #[.int .u64 All.1, .int .u64 All.2] 25) := ⟨_, rfl⟩
  have hb3 : Below W0.heap.size W0 W3 := by rw [hW3]; exact (HB1.out.trans (hb2.mono HB1.out.size)).alloc (HB1.out.trans (hb2.mono HB1.out.size)).size _
  have r7 : MRow W3 g7 All.1 All.2 := by rw [hW3, hg7]; exact MRow.new w2 _ _
  have HK := Lib.hid (fun (X : World) (hX : Below W3.heap.size W3 X) => show (X.cell? ⟨s, 0, none⟩ = some (.int .u64 a.1) ∧ X.cell? ⟨s, 1, none⟩ = some (.int .u64 a.2)) ∧ (X.cell? ⟨s + 1, 0, none⟩ = some (.int .u64 b.1) ∧ X.cell? ⟨s + 1, 1, none⟩ = some (.int .u64 b.2)) ∧ (X.cell? ⟨s + 1 + 1, 0, none⟩ = some (.int .u64 c.1) ∧ X.cell? ⟨s + 1 + 1, 1, none⟩ = some (.int .u64 c.2)) ∧ (X.cell? ⟨g7, 0, none⟩ = some (.int .u64 All.1) ∧ X.cell? ⟨g7, 1, none⟩ = some (.int .u64 All.2)) from by
    have hx := hb3.trans (hX.mono hb3.size)
    have h1 := Hra.out.below hx Hra.out.lt
    have h2 := Hrb.out.below hx Hrb.out.lt
    have h3 := Hrc.out.below hx Hrc.out.lt
    have h4 := r7.below hX r7.lt
    exact ⟨⟨h1.cell0, h1.cell1⟩, ⟨h2.cell0, h2.cell1⟩, ⟨h3.cell0, h3.cell1⟩, ⟨h4.cell0, h4.cell1⟩⟩)
  have HB3 := Lib.hid hb3
  have HW3 := Lib.hid hW3
  have HG7 := Lib.hid hg7
  clear hb2 hW3 hg7 hb3 r7
  go_upto_region 4 with fail
  rw [← HW3.out, ← HG7.out]
  refine region_rel3 (fun X => Below W3.heap.size W3 X) [.v (.agg #[.int .u64 All.1, .int .u64 All.2]), .v (.agg #[.int .u64 a.1, .int .u64 a.2]), .m 2 [All, a], .v (.agg #[.int .u64 A.1, .int .u64 A.2]), .v (.agg #[.int .u64 All.1, .int .u64 All.2]), .v (.agg #[.int .u64 b.1, .int .u64 b.2]), .m 2 [All, b], .v (.agg #[.int .u64 B.1, .int .u64 B.2]), .v (.agg #[.int .u64 All.1, .int .u64 All.2]), .v (.agg #[.int .u64 c.1, .int .u64 c.2]), .m 2 [All, c], .v (.agg #[.int .u64 D.1, .int .u64 D.2])] 12 3
    (by kernel_rfl) (below_drew (Below.refl _ _)) rfl (by decide) (by kernel_rfl) (by kernel_rfl) (by kernel_rfl) (by kernel_rfl) (by kernel_rfl) ?_ ?_
  · refine ⟨?_, ?_, ?_, ?_, ?_, ?_, ?_, ?_, ?_, ?_, ?_, ?_, trivial⟩
    · intro f w hw hd
      obtain ⟨⟨z0, z1⟩, ⟨z2, z3⟩, ⟨z4, z5⟩, ⟨z6, z7⟩⟩ := HK.out w hw
      simp [fillR, Act.put, go_sem, relOf, Rk.sat, hw, Below.refl, z0, z1, z2, z3, z4, z5, z6, z7]
    · intro f w hw hd
      obtain ⟨⟨z0, z1⟩, ⟨z2, z3⟩, ⟨z4, z5⟩, ⟨z6, z7⟩⟩ := HK.out w hw
      simp [fillR, Act.put, go_sem, relOf, Rk.sat, hw, Below.refl, z0, z1, z2, z3, z4, z5, z6, z7]
    · intro f w hw hd
      have e0 : f 0 = .agg #[.int .u64 All.1, .int .u64 All.2] := dep_of hd 0 (by kernel_rfl)
      have e1 : f 1 = .agg #[.int .u64 a.1, .int .u64 a.2] := dep_of hd 1 (by kernel_rfl)
      simp [fillR, Act.put, go_sem, relOf, Rk.sat, hw, Below.refl, e0, e1]
      exact ⟨m0A.out w, hw.alloc hw.size _, (Below.refl _ _).alloc (Nat.le_refl _) _⟩
    · intro f w hw hd
      obtain ⟨g2, e2, ms2⟩ : ∃ g, f 2 = .slice (some ⟨g, 0, none⟩) 2 2 ∧ Ms w (some ⟨g, 0, none⟩) 2 [All, a] := dep_of hd 2 (by kernel_rfl)
      simp [fillR, Act.put, go_sem, relOf, Rk.sat, hw, Below.refl, e2]
      refine (cA0.out w _ ms2).mono ?_
      rintro e w2 ⟨rfl, hb⟩
      simp
      exact ⟨hw.trans (hb.mono hw.size), hb⟩
    · intro f w hw hd
      obtain ⟨⟨z0, z1⟩, ⟨z2, z3⟩, ⟨z4, z5⟩, ⟨z6, z7⟩⟩ := HK.out w hw
      simp [fillR, Act.put, go_sem, relOf, Rk.sat, hw, Below.refl, z0, z1, z2, z3, z4, z5, z6, z7]
    · intro f w hw hd
      obtain ⟨⟨z0, z1⟩, ⟨z2, z3⟩, ⟨z4, z5⟩, ⟨z6, z7⟩⟩ := HK.out w hw
      simp [fillR, Act.put, go_sem, relOf, Rk.sat, hw, Below.refl, z0, z1, z2, z3, z4, z5, z6, z7]
    · intro f w hw hd
      have e4 : f 4 = .agg #[.int .u64 All.1, .int .u64 All.2] := dep_of hd 4 (by kernel_rfl)
      have e5 : f 5 = .agg #[.int .u64 b.1, .int .u64 b.2] := dep_of hd 5 (by kernel_rfl)
      simp [fillR, Act.put, go_sem, relOf, Rk.sat, hw, Below.refl, e4, e5]
      exact ⟨m0B.out w, hw.alloc hw.size _, (Below.refl _ _).alloc (Nat.le_refl _) _⟩
    · intro f w hw hd
      obtain ⟨g6, e6, ms6⟩ : ∃ g, f 6 = .slice (some ⟨g, 0, none⟩) 2 2 ∧ Ms w (some ⟨g, 0, none⟩) 2 [All, b] := dep_of hd 6 (by kernel_rfl)
      simp [fillR, Act.put, go_sem, relOf, Rk.sat, hw, Below.refl, e6]
      refine (cB0.out w _ ms6).mono ?_
      rintro e w2 ⟨rfl, hb⟩
      simp
      exact ⟨hw.trans (hb.mono hw.size), hb⟩
    · intro f w hw hd
      obtain ⟨⟨z0, z1⟩, ⟨z2, z3⟩, ⟨z4, z5⟩, ⟨z6, z7⟩⟩ := HK.out w hw
      simp [fillR, Act.put, go_sem, relOf, Rk.sat, hw, Below.refl, z0, z1, z2, z3, z4, z5, z6, z7]
    · intro f w hw hd
      obtain ⟨⟨z0, z1⟩, ⟨z2, z3⟩, ⟨z4, z5⟩, ⟨z6, z7⟩⟩ := HK.out w hw
      simp [fillR, Act.put, go_sem, relOf, Rk.sat, hw, Below.refl, z0, z1, z2, z3, z4, z5, z6, z7]
    · intro f w hw hd
      have e8 : f 8 = .agg #[.int .u64 All.1, .int .u64 All.2] := dep_of hd 8 (by kernel_rfl)
      have e9 : f 9 = .agg #[.int .u64 c.1, .int .u64 c.2] := dep_of hd 9 (by kernel_rfl)
      simp [fillR, Act.put, go_sem, relOf, Rk.sat, hw, Below.refl, e8, e9]
      exact ⟨m0D.out w, hw.alloc hw.size _, (Below.refl _ _).alloc (Nat.le_refl _) _⟩
    · intro f w hw hd
      obtain ⟨g10, e10, ms10⟩ : ∃ g, f 10 = .slice (some ⟨g, 0, none⟩) 2 2 ∧ Ms w (some ⟨g, 0, none⟩) 2 [All, c] := dep_of hd 10 (by kernel_rfl)
      simp [fillR, Act.put, go_sem, relOf, Rk.sat, hw, Below.refl, e10]
      refine (cD0.out w _ ms10).mono ?_
      rintro e w2 ⟨rfl, hb⟩
      simp
      exact ⟨hw.trans (hb.mono hw.size), hb⟩
  intro f w4 hw hr
  have e3 : f 3 = .agg #[.int .u64 A.1, .int .u64 A.2] := hr 3 (by simp)
  have e7 : f 7 = .agg #[.int .u64 B.1, .int .u64 B.2] := hr 7 (by simp)
  have e11 : f 11 = .agg #[.int .u64 D.1, .int .u64 D.2] := hr 11 (by simp)
  have hx := HB3.out.trans (hw.mono HB3.out.size)
  have qa := Hra.out.below hx Hra.out.lt
  have qb := Hrb.out.below hx Hrb.out.lt
  have qc := Hrc.out.below hx Hrc.out.lt
  obtain ⟨W5, hW5⟩ : ∃ W5, W5 = (((((w4.setCell ⟨s, 0, none⟩ (.int .u64 A.1)).setCell ⟨s, 1, none⟩ (.int .u64 A.2)).setCell ⟨s + 1, 0, none⟩ (.int .u64 B.1)).setCell ⟨s + 1, 1, none⟩ (.int .u64 B.2)).setCell ⟨s + 1 + 1, 0, none⟩ (.int .u64 D.1)).setCell ⟨s + 1 + 1, 1, none⟩ (.int .u64 D.2) := ⟨_, rfl⟩
  have xa1 := (qa.set0 A.1).set1 A.2
  have xb1 := (qb.other ⟨s, 0, none⟩ (.int .u64 A.1) (by simp <;> omega)).other ⟨s, 1, none⟩ (.int .u64 A.2) (by simp <;> omega)
  have xc1 := (qc.other ⟨s, 0, none⟩ (.int .u64 A.1) (by simp <;> omega)).other ⟨s, 1, none⟩ (.int .u64 A.2) (by simp <;> omega)
  have xa2 := (xa1.other ⟨s + 1, 0, none⟩ (.int .u64 B.1) (by simp <;> omega)).other ⟨s + 1, 1, none⟩ (.int .u64 B.2) (by simp <;> omega)
  have xb2 := (xb1.set0 B.1).set1 B.2
  have xc2 := (xc1.other ⟨s + 1, 0, none⟩ (.int .u64 B.1) (by simp <;> omega)).other ⟨s + 1, 1, none⟩ (.int .u64 B.2) (by simp <;> omega)
  have xa3 := (xa2.other ⟨s + 1 + 1, 0, none⟩ (.int .u64 D.1) (by simp <;> omega)).other ⟨s + 1 + 1, 1, none⟩ (.int .u64 D.2) (by simp <;> omega)
  have xb3 := (xb2.other ⟨s + 1 + 1, 0, none⟩ (.int .u64 D.1) (by simp <;> omega)).other ⟨s + 1 + 1, 1, none⟩ (.int .u64 D.2) (by simp <;> omega)
  have xc3 := (xc2.set0 D.1).set1 D.2
  rw [← hW5] at xa3 xb3 xc3
  have hbw : Below w.heap.size w W5 := by
    rw [hW5]
    have h0 := HB0.out.trans (hx.mono HB0.out.size)
    have hsl := HS.out
    exact below_set (below_set (below_set (below_set (below_set (below_set h0 _ _ (by simp; omega)) _ _ (by simp; omega)) _ _ (by simp; omega)) _ _ (by simp; omega)) _ _ (by simp; omega)) _ _ (by simp; omega)
  have a0 := qa.cell0
  have a1 := qa.cell1
  have b0 := qb.cell0
  have b1 := qb.cell1
  have c0 := qc.cell0
  have c1 := qc.cell1
  have fa0 := qa.frozen 0
  have fa1 := qa.frozen 1
  have fb0 := qb.frozen 0
  have fb1 := qb.frozen 1
  have fc0 := qc.frozen 0
  have fc1 := qc.frozen 1
  have HBW := Lib.hid hbw
  have HXa := Lib.hid xa3
  have HXb := Lib.hid xb3
  have HXc := Lib.hid xc3
  have HW5 := Lib.hid hW5
  clear hr hw hx qa qb qc xa1 xb1 xc1 xa2 xb2 xc2 xa3 xb3 xc3 hbw hW5
  simp [fillR, Act.put, e3, e7, e11, List.range_succ, wpOps_cons, wpOp, Region.wanted, Oper.wp, go_sem, a0, a1, b0, b1, c0, c1, fa0, fa1, fb0, fb1, fc0, fc1]
  refine .inl (.inl (.inl ?_))
  simp only [wpOps]
  rw [← HW5.out]
  clear a0 a1 b0 b1 c0 c1 fa0 fa1 fb0 fb1 fc0 fc1 e3 e7 e11
  have HK5 := Lib.hid (fun (X : World) (hX : Below W5.heap.size W5 X) => show (X.cell? ⟨s, 0, none⟩ = some (.int .u64 A.1) ∧ X.cell? ⟨s, 1, none⟩ = some (.int .u64 A.2)) ∧ (X.cell? ⟨s + 1, 0, none⟩ = some (.int .u64 B.1) ∧ X.cell? ⟨s + 1, 1, none⟩ = some (.int .u64 B.2)) ∧ (X.cell? ⟨s + 1 + 1, 0, none⟩ = some (.int .u64 D.1) ∧ X.cell? ⟨s + 1 + 1, 1, none⟩ = some (.int .u64 D.2)) from by
    have h1 := HXa.out.below hX HXa.out.lt
    have h2 := HXb.out.below hX HXb.out.lt
    have h3 := HXc.out.below hX HXc.out.lt
    exact ⟨⟨h1.cell0, h1.cell1⟩, ⟨h2.cell0, h2.cell1⟩, ⟨h3.cell0, h3.cell1⟩⟩)
  have ix0 : ∀ (x0 x1 x2 x3 x4 x5 : Int) (w : World), (Instr.index 47 (.agg #[.int .u64 x0, .int .u64 x1, .int .u64 x2, .int .u64 x3, .int .u64 x4, .int .u64 x5]) (.int .i64 0)).run Try.prog w = .ok (.agg #[.int .u64 x0, .int .u64 x1]) w := by
    intro x0 x1 x2 x3 x4 x5 w
    have hu := Try.underlying47
    have h1 : Try.prog.cellsOf 25 = 2 := by kernel_rfl
    simp [Instr.index, run_underlying hu, go_sem]
  have ix1 : ∀ (x0 x1 x2 x3 x4 x5 : Int) (w : World), (Instr.index 47 (.agg #[.int .u64 x0, .int .u64 x1, .int .u64 x2, .int .u64 x3, .int .u64 x4, .int .u64 x5]) (.int .i64 1)).run Try.prog w = .ok (.agg #[.int .u64 x2, .int .u64 x3]) w := by
    intro x0 x1 x2 x3 x4 x5 w
    have hu := Try.underlying47
    have h1 : Try.prog.cellsOf 25 = 2 := by kernel_rfl
    simp [Instr.index, run_underlying hu, go_sem]
  have ix2 : ∀ (x0 x1 x2 x3 x4 x5 : Int) (w : World), (Instr.index 47 (.agg #[.int .u64 x0, .int .u64 x1, .int .u64 x2, .int .u64 x3, .int .u64 x4, .int .u64 x5]) (.int .i64 2)).run Try.prog w = .ok (.agg #[.int .u64 x4, .int .u64 x5]) w := by
    intro x0 x1 x2 x3 x4 x5 w
    have hu := Try.underlying47
    have h1 : Try.prog.cellsOf 25 = 2 := by kernel_rfl
    simp [Instr.index, run_underlying hu, go_sem]
  obtain ⟨⟨y0, y1⟩, ⟨y2, y3⟩, ⟨y4, y5⟩⟩ := HK5.out W5 (Below.refl _ _)
  go_wp2
  clear y0 y1 y2 y3 y4 y5
  go_loopw [29] (fun i wr => ∃ (j : Nat), j ≤ 3 ∧ i = .int .i64 j ∧ Hid (Below W5.heap.size W5 wr)) (fun i _ => 3 - (intOf i).toNat)
  case atStart => exact ⟨0, by omega, rfl, Lib.hid (Below.refl _ _)⟩
  case round =>
    obtain ⟨j, hj, rfl, HW⟩ := hrel
    by_cases hj0 : j = 0
    · subst hj0
      obtain ⟨N, x, y, hxy, q1, q2, q3, q4, q5⟩ := HLoop.out A _ HMA.out
      have Q1 := Lib.hid q1
      have Q2 := Lib.hid q2
      have Q3 := Lib.hid q3
      have Q4 := Lib.hid q4
      have Q5 := Lib.hid q5
      have hqM := eqL A
      have hxs : IntKind.i64.wrap ((x : Int) + (y : Int)) = 96 := by rw [show (x : Int) + y = 96 by omega]; rfl
      obtain ⟨W6, hW6⟩ : ∃ W6, W6 = wr.alloc (.cells #[.int .u64 A.1, .int .u64 A.2] 25) := ⟨_, rfl⟩
      obtain ⟨g9, hg9⟩ : ∃ g, g = wr.heap.size := ⟨_, rfl⟩
      have hr6 : MRow W6 g9 A.1 A.2 := by rw [hW6, hg9]; exact MRow.new wr _ _
      have HK6 := Lib.hid (fun (X : World) (hX : Below W6.heap.size W6 X) => And.intro (hr6.below hX hr6.lt).cell0 (hr6.below hX hr6.lt).cell1)
      have HB6 := Lib.hid (show Below W5.heap.size W5 W6 from by rw [hW6]; exact HW.out.alloc HW.out.size _)
      have HW6 := Lib.hid hW6
      have HG9 := Lib.hid hg9
      clear q1 q2 q3 q4 q5 hxy hW6 hg9 hr6
      go_upto_region 8 with fail
      rw [← HW6.out, ← HG9.out]
      refine region_quiet (fun X => Below W6.heap.size W6 X) (by kernel_rfl) (by kernel_rfl) (below_drew (Below.refl _ _)) ?_
      repeat (first | go_big_quiet_skip | (go_big_quiet_want; go_big_quiet_op; first | go_big_quiet_on | (refine ⟨_, fun _ _ => rfl, ?_⟩; go_big_quiet_on) | (apply Exists.intro; refine ⟨fun W hW => ?_, ?_⟩; (focus (obtain ⟨z0, z1⟩ := HK6.out W hW; simp only [Result.andThen, z0, z1]; exact ⟨trivial, rfl⟩)); go_big_quiet_on) | (apply Exists.intro; refine ⟨fun W hW => ?_, ?_⟩; (focus ((with_reducible refine (Q1.out W).mono ?_); intro _ _ h; exact ⟨h.1, hW.trans (h.2.mono hW.size)⟩)); go_big_quiet_on) | (apply Exists.intro; refine ⟨fun W hW => ?_, ?_⟩; (focus ((with_reducible refine (Q2.out W).mono ?_); intro _ _ h; exact ⟨h.1, hW.trans (h.2.mono hW.size)⟩)); go_big_quiet_on) | (apply Exists.intro; refine ⟨fun W hW => ?_, ?_⟩; (focus ((with_reducible refine (Q3.out W).mono ?_); intro _ _ h; exact ⟨h.1, hW.trans (h.2.mono hW.size)⟩)); go_big_quiet_on) | (apply Exists.intro; refine ⟨fun W hW => ?_, ?_⟩; (focus ((with_reducible refine (Q4.out W).mono ?_); intro _ _ h; exact ⟨h.1, hW.trans (h.2.mono hW.size)⟩)); go_big_quiet_on) | (apply Exists.intro; refine ⟨fun W hW => ?_, ?_⟩; (focus ((with_reducible refine (Q5.out W).mono ?_); intro _ _ h; exact ⟨h.1, hW.trans (h.2.mono hW.size)⟩)); go_big_quiet_on)))
      refine wpQuiet_nil ?_
      intro w7 hq7
      have HW7 := Lib.hid (HB6.out.trans (hq7.mono HB6.out.size))
      clear hq7 hqM hxs
      go_wp2
      go_roundw
      case rel => exact ⟨1, by omega, by go_num, HW7⟩
      case measure => simp [intOf]
    · by_cases hj1 : j = 1
      · subst hj1
        obtain ⟨N, x, y, hxy, q1, q2, q3, q4, q5⟩ := HLoop.out B _ HMB.out
        have Q1 := Lib.hid q1
        have Q2 := Lib.hid q2
        have Q3 := Lib.hid q3
        have Q4 := Lib.hid q4
        have Q5 := Lib.hid q5
        have hqM := eqL B
        have hxs : IntKind.i64.wrap ((x : Int) + (y : Int)) = 96 := by rw [show (x : Int) + y = 96 by omega]; rfl
        obtain ⟨W6, hW6⟩ : ∃ W6, W6 = wr.alloc (.cells #[.int .u64 B.1, .int .u64 B.2] 25) := ⟨_, rfl⟩
        obtain ⟨g9, hg9⟩ : ∃ g, g = wr.heap.size := ⟨_, rfl⟩
        have hr6 : MRow W6 g9 B.1 B.2 := by rw [hW6, hg9]; exact MRow.new wr _ _
        have HK6 := Lib.hid (fun (X : World) (hX : Below W6.heap.size W6 X) => And.intro (hr6.below hX hr6.lt).cell0 (hr6.below hX hr6.lt).cell1)
        have HB6 := Lib.hid (show Below W5.heap.size W5 W6 from by rw [hW6]; exact HW.out.alloc HW.out.size _)
        have HW6 := Lib.hid hW6
        have HG9 := Lib.hid hg9
        clear q1 q2 q3 q4 q5 hxy hW6 hg9 hr6
        go_upto_region 8 with fail
        rw [← HW6.out, ← HG9.out]
        refine region_quiet (fun X => Below W6.heap.size W6 X) (by kernel_rfl) (by kernel_rfl) (below_drew (Below.refl _ _)) ?_
        repeat (first | go_big_quiet_skip | (go_big_quiet_want; go_big_quiet_op; first | go_big_quiet_on | (refine ⟨_, fun _ _ => rfl, ?_⟩; go_big_quiet_on) | (apply Exists.intro; refine ⟨fun W hW => ?_, ?_⟩; (focus (obtain ⟨z0, z1⟩ := HK6.out W hW; simp only [Result.andThen, z0, z1]; exact ⟨trivial, rfl⟩)); go_big_quiet_on) | (apply Exists.intro; refine ⟨fun W hW => ?_, ?_⟩; (focus ((with_reducible refine (Q1.out W).mono ?_); intro _ _ h; exact ⟨h.1, hW.trans (h.2.mono hW.size)⟩)); go_big_quiet_on) | (apply Exists.intro; refine ⟨fun W hW => ?_, ?_⟩; (focus ((with_reducible refine (Q2.out W).mono ?_); intro _ _ h; exact ⟨h.1, hW.trans (h.2.mono hW.size)⟩)); go_big_quiet_on) | (apply Exists.intro; refine ⟨fun W hW => ?_, ?_⟩; (focus ((with_reducible refine (Q3.out W).mono ?_); intro _ _ h; exact ⟨h.1, hW.trans (h.2.mono hW.size)⟩)); go_big_quiet_on) | (apply Exists.intro; refine ⟨fun W hW => ?_, ?_⟩; (focus ((with_reducible refine (Q4.out W).mono ?_); intro _ _ h; exact ⟨h.1, hW.trans (h.2.mono hW.size)⟩)); go_big_quiet_on) | (apply Exists.intro; refine ⟨fun W hW => ?_, ?_⟩; (focus ((with_reducible refine (Q5.out W).mono ?_); intro _ _ h; exact ⟨h.1, hW.trans (h.2.mono hW.size)⟩)); go_big_quiet_on)))
        refine wpQuiet_nil ?_
        intro w7 hq7
        have HW7 := Lib.hid (HB6.out.trans (hq7.mono HB6.out.size))
        clear hq7 hqM hxs
        go_wp2
        go_roundw
        case rel => exact ⟨2, by omega, by go_num, HW7⟩
        case measure => simp [intOf]
      · by_cases hj2 : j = 2
        · subst hj2
          obtain ⟨N, x, y, hxy, q1, q2, q3, q4, q5⟩ := HLoop.out D _ HMD.out
          have Q1 := Lib.hid q1
          have Q2 := Lib.hid q2
          have Q3 := Lib.hid q3
          have Q4 := Lib.hid q4
          have Q5 := Lib.hid q5
          have hqM := eqL D
          have hxs : IntKind.i64.wrap ((x : Int) + (y : Int)) = 96 := by rw [show (x : Int) + y = 96 by omega]; rfl
          obtain ⟨W6, hW6⟩ : ∃ W6, W6 = wr.alloc (.cells #[.int .u64 D.1, .int .u64 D.2] 25) := ⟨_, rfl⟩
          obtain ⟨g9, hg9⟩ : ∃ g, g = wr.heap.size := ⟨_, rfl⟩
          have hr6 : MRow W6 g9 D.1 D.2 := by rw [hW6, hg9]; exact MRow.new wr _ _
          have HK6 := Lib.hid (fun (X : World) (hX : Below W6.heap.size W6 X) => And.intro (hr6.below hX hr6.lt).cell0 (hr6.below hX hr6.lt).cell1)
          have HB6 := Lib.hid (show Below W5.heap.size W5 W6 from by rw [hW6]; exact HW.out.alloc HW.out.size _)
          have HW6 := Lib.hid hW6
          have HG9 := Lib.hid hg9
          clear q1 q2 q3 q4 q5 hxy hW6 hg9 hr6
          go_upto_region 8 with fail
          rw [← HW6.out, ← HG9.out]
          refine region_quiet (fun X => Below W6.heap.size W6 X) (by kernel_rfl) (by kernel_rfl) (below_drew (Below.refl _ _)) ?_
          repeat (first | go_big_quiet_skip | (go_big_quiet_want; go_big_quiet_op; first | go_big_quiet_on | (refine ⟨_, fun _ _ => rfl, ?_⟩; go_big_quiet_on) | (apply Exists.intro; refine ⟨fun W hW => ?_, ?_⟩; (focus (obtain ⟨z0, z1⟩ := HK6.out W hW; simp only [Result.andThen, z0, z1]; exact ⟨trivial, rfl⟩)); go_big_quiet_on) | (apply Exists.intro; refine ⟨fun W hW => ?_, ?_⟩; (focus ((with_reducible refine (Q1.out W).mono ?_); intro _ _ h; exact ⟨h.1, hW.trans (h.2.mono hW.size)⟩)); go_big_quiet_on) | (apply Exists.intro; refine ⟨fun W hW => ?_, ?_⟩; (focus ((with_reducible refine (Q2.out W).mono ?_); intro _ _ h; exact ⟨h.1, hW.trans (h.2.mono hW.size)⟩)); go_big_quiet_on) | (apply Exists.intro; refine ⟨fun W hW => ?_, ?_⟩; (focus ((with_reducible refine (Q3.out W).mono ?_); intro _ _ h; exact ⟨h.1, hW.trans (h.2.mono hW.size)⟩)); go_big_quiet_on) | (apply Exists.intro; refine ⟨fun W hW => ?_, ?_⟩; (focus ((with_reducible refine (Q4.out W).mono ?_); intro _ _ h; exact ⟨h.1, hW.trans (h.2.mono hW.size)⟩)); go_big_quiet_on) | (apply Exists.intro; refine ⟨fun W hW => ?_, ?_⟩; (focus ((with_reducible refine (Q5.out W).mono ?_); intro _ _ h; exact ⟨h.1, hW.trans (h.2.mono hW.size)⟩)); go_big_quiet_on)))
          refine wpQuiet_nil ?_
          intro w7 hq7
          have HW7 := Lib.hid (HB6.out.trans (hq7.mono HB6.out.size))
          clear hq7 hqM hxs
          go_wp2
          go_roundw
          case rel => exact ⟨3, by omega, by go_num, HW7⟩
          case measure => simp [intOf]
        · obtain rfl : j = 3 := by omega
          go_upto_region 11 with fail
          have HK := Lib.hid (fun (X : World) (hX : Below wr.heap.size wr X) => HK5.out X (HW.out.trans (hX.mono HW.out.size)))
          refine region_rel2 (fun X => Below wr.heap.size wr X) [.v (.agg #[.int .u64 A.1, .int .u64 A.2]), .v (.agg #[.int .u64 B.1, .int .u64 B.2]), .v (.agg #[.int .u64 D.1, .int .u64 D.2]), .m 3 [A, B, D], .v (.agg #[.int .u64 O3.1, .int .u64 O3.2]), .v (.agg #[.int .u64 N1.1, .int .u64 N1.2]), .v (.agg #[.int .u64 A.1, .int .u64 A.2]), .v (.agg #[.int .u64 NA.1, .int .u64 NA.2]), .v (.agg #[.int .u64 B.1, .int .u64 B.2]), .v (.agg #[.int .u64 NB.1, .int .u64 NB.2]), .v (.agg #[.int .u64 D.1, .int .u64 D.2]), .v (.agg #[.int .u64 ND.1, .int .u64 ND.2]), .m 3 [NA, NB, ND], .v (.agg #[.int .u64 N1.1, .int .u64 N1.2]), .v (.bool false), .v (.bool false), .v (.agg #[.int .u64 A.1, .int .u64 A.2]), .v (.agg #[.int .u64 B.1, .int .u64 B.2]), .v (.agg #[.int .u64 Mi.1, .int .u64 Mi.2]), .v (.agg #[.int .u64 A.1, .int .u64 A.2]), .v (.agg #[.int .u64 B.1, .int .u64 B.2]), .v (.agg #[.int .u64 NB.1, .int .u64 NB.2]), .m 2 [A, NB], .v (.agg #[.int .u64 Mi.1, .int .u64 Mi.2]), .v (.bool false), .v (.bool false)]
            (by kernel_rfl) (below_drew (Below.refl _ _)) (by kernel_rfl) (by kernel_rfl) (by kernel_rfl) ?_ ?_
          · refine ⟨?_, ?_, ?_, ?_, ?_, ?_, ?_, ?_, ?_, ?_, ?_, ?_, ?_, ?_, ?_, ?_, ?_, ?_, ?_, ?_, ?_, ?_, ?_, ?_, ?_, ?_, trivial⟩
            · intro f w hw hd
              obtain ⟨⟨z0, z1⟩, ⟨z2, z3⟩, ⟨z4, z5⟩⟩ := HK.out w hw
              simp [fillR, Act.put, go_sem, relOf, Rk.sat, hw, Below.refl, z0, z1, z2, z3, z4, z5]
            · intro f w hw hd
              obtain ⟨⟨z0, z1⟩, ⟨z2, z3⟩, ⟨z4, z5⟩⟩ := HK.out w hw
              simp [fillR, Act.put, go_sem, relOf, Rk.sat, hw, Below.refl, z0, z1, z2, z3, z4, z5]
            · intro f w hw hd
              obtain ⟨⟨z0, z1⟩, ⟨z2, z3⟩, ⟨z4, z5⟩⟩ := HK.out w hw
              simp [fillR, Act.put, go_sem, relOf, Rk.sat, hw, Below.refl, z0, z1, z2, z3, z4, z5]
            · intro f w hw hd
              have e0 : f 0 = .agg #[.int .u64 A.1, .int .u64 A.2] := dep_of hd 0 (by kernel_rfl)
              have e1 : f 1 = .agg #[.int .u64 B.1, .int .u64 B.2] := dep_of hd 1 (by kernel_rfl)
              have e2 : f 2 = .agg #[.int .u64 D.1, .int .u64 D.2] := dep_of hd 2 (by kernel_rfl)
              simp [fillR, Act.put, go_sem, relOf, Rk.sat, hw, Below.refl, e0, e1, e2]
              exact ⟨mABD.out w, hw.alloc hw.size _, (Below.refl _ _).alloc (Nat.le_refl _) _⟩
            · intro f w hw hd
              obtain ⟨g3, e3, ms3⟩ : ∃ g, f 3 = .slice (some ⟨g, 0, none⟩) 3 3 ∧ Ms w (some ⟨g, 0, none⟩) 3 [A, B, D] := dep_of hd 3 (by kernel_rfl)
              simp [fillR, Act.put, go_sem, relOf, Rk.sat, hw, Below.refl, e3]
              refine (cO3.out w _ ms3).mono ?_
              rintro e w2 ⟨rfl, hb⟩
              simp
              exact ⟨hw.trans (hb.mono hw.size), hb⟩
            · intro f w hw hd
              have e4 : f 4 = .agg #[.int .u64 O3.1, .int .u64 O3.2] := dep_of hd 4 (by kernel_rfl)
              simp [fillR, Act.put, go_sem, relOf, Rk.sat, hw, Below.refl, e4]
              refine (cN1.out w).mono ?_
              rintro e w2 ⟨rfl, hb⟩
              simp
              exact ⟨hw.trans (hb.mono hw.size), hb⟩
            · intro f w hw hd
              obtain ⟨⟨z0, z1⟩, ⟨z2, z3⟩, ⟨z4, z5⟩⟩ := HK.out w hw
              simp [fillR, Act.put, go_sem, relOf, Rk.sat, hw, Below.refl, z0, z1, z2, z3, z4, z5]
            · intro f w hw hd
              have e6 : f 6 = .agg #[.int .u64 A.1, .int .u64 A.2] := dep_of hd 6 (by kernel_rfl)
              simp [fillR, Act.put, go_sem, relOf, Rk.sat, hw, Below.refl, e6]
              refine (cNA.out w).mono ?_
              rintro e w2 ⟨rfl, hb⟩
              simp
              exact ⟨hw.trans (hb.mono hw.size), hb⟩
            · intro f w hw hd
              obtain ⟨⟨z0, z1⟩, ⟨z2, z3⟩, ⟨z4, z5⟩⟩ := HK.out w hw
              simp [fillR, Act.put, go_sem, relOf, Rk.sat, hw, Below.refl, z0, z1, z2, z3, z4, z5]
            · intro f w hw hd
              have e8 : f 8 = .agg #[.int .u64 B.1, .int .u64 B.2] := dep_of hd 8 (by kernel_rfl)
              simp [fillR, Act.put, go_sem, relOf, Rk.sat, hw, Below.refl, e8]
              refine (cNB.out w).mono ?_
              rintro e w2 ⟨rfl, hb⟩
              simp
              exact ⟨hw.trans (hb.mono hw.size), hb⟩
            · intro f w hw hd
              obtain ⟨⟨z0, z1⟩, ⟨z2, z3⟩, ⟨z4, z5⟩⟩ := HK.out w hw
              simp [fillR, Act.put, go_sem, relOf, Rk.sat, hw, Below.refl, z0, z1, z2, z3, z4, z5]
            · intro f w hw hd
              have e10 : f 10 = .agg #[.int .u64 D.1, .int .u64 D.2] := dep_of hd 10 (by kernel_rfl)
              simp [fillR, Act.put, go_sem, relOf, Rk.sat, hw, Below.refl, e10]
              refine (cND.out w).mono ?_
              rintro e w2 ⟨rfl, hb⟩
              simp
              exact ⟨hw.trans (hb.mono hw.size), hb⟩
            · intro f w hw hd
              have e7 : f 7 = .agg #[.int .u64 NA.1, .int .u64 NA.2] := dep_of hd 7 (by kernel_rfl)
              have e9 : f 9 = .agg #[.int .u64 NB.1, .int .u64 NB.2] := dep_of hd 9 (by kernel_rfl)
              have e11 : f 11 = .agg #[.int .u64 ND.1, .int .u64 ND.2] := dep_of hd 11 (by kernel_rfl)
              simp [fillR, Act.put, go_sem, relOf, Rk.sat, hw, Below.refl, e7, e9, e11]
              exact ⟨mNNN.out w, hw.alloc hw.size _, (Below.refl _ _).alloc (Nat.le_refl _) _⟩
            · intro f w hw hd
              obtain ⟨g12, e12, ms12⟩ : ∃ g, f 12 = .slice (some ⟨g, 0, none⟩) 3 3 ∧ Ms w (some ⟨g, 0, none⟩) 3 [NA, NB, ND] := dep_of hd 12 (by kernel_rfl)
              simp [fillR, Act.put, go_sem, relOf, Rk.sat, hw, Below.refl, e12]
              refine (cN2.out w _ ms12).mono ?_
              rintro e w2 ⟨rfl, hb⟩
              simp
              exact ⟨hw.trans (hb.mono hw.size), hb⟩
            · intro f w hw hd
              have e5 : f 5 = .agg #[.int .u64 N1.1, .int .u64 N1.2] := dep_of hd 5 (by kernel_rfl)
              have e13 : f 13 = .agg #[.int .u64 N1.1, .int .u64 N1.2] := dep_of hd 13 (by kernel_rfl)
              simp [fillR, Act.put, go_sem, relOf, Rk.sat, hw, Below.refl, e5, e13, eqL N1 w]
            · intro f w hw hd
              have e14 : f 14 = .bool false := dep_of hd 14 (by kernel_rfl)
              simp [fillR, Act.put, go_sem, relOf, Rk.sat, hw, Below.refl, e14]
            · intro f w hw hd
              have e15 : f 15 = .bool false := dep_of hd 15 (by kernel_rfl)
              obtain ⟨⟨z0, z1⟩, ⟨z2, z3⟩, ⟨z4, z5⟩⟩ := HK.out w hw
              simp [fillR, Act.put, go_sem, relOf, Rk.sat, hw, Below.refl, e15, z0, z1, z2, z3, z4, z5]
            · intro f w hw hd
              have e15 : f 15 = .bool false := dep_of hd 15 (by kernel_rfl)
              obtain ⟨⟨z0, z1⟩, ⟨z2, z3⟩, ⟨z4, z5⟩⟩ := HK.out w hw
              simp [fillR, Act.put, go_sem, relOf, Rk.sat, hw, Below.refl, e15, z0, z1, z2, z3, z4, z5]
            · intro f w hw hd
              have e16 : f 16 = .agg #[.int .u64 A.1, .int .u64 A.2] := dep_of hd 16 (by kernel_rfl)
              have e17 : f 17 = .agg #[.int .u64 B.1, .int .u64 B.2] := dep_of hd 17 (by kernel_rfl)
              have e15 : f 15 = .bool false := dep_of hd 15 (by kernel_rfl)
              simp [fillR, Act.put, go_sem, relOf, Rk.sat, hw, Below.refl, e16, e17, e15]
              refine (cMi.out w).mono ?_
              rintro e w2 ⟨rfl, hb⟩
              simp
              exact ⟨hw.trans (hb.mono hw.size), hb⟩
            · intro f w hw hd
              have e15 : f 15 = .bool false := dep_of hd 15 (by kernel_rfl)
              obtain ⟨⟨z0, z1⟩, ⟨z2, z3⟩, ⟨z4, z5⟩⟩ := HK.out w hw
              simp [fillR, Act.put, go_sem, relOf, Rk.sat, hw, Below.refl, e15, z0, z1, z2, z3, z4, z5]
            · intro f w hw hd
              have e15 : f 15 = .bool false := dep_of hd 15 (by kernel_rfl)
              obtain ⟨⟨z0, z1⟩, ⟨z2, z3⟩, ⟨z4, z5⟩⟩ := HK.out w hw
              simp [fillR, Act.put, go_sem, relOf, Rk.sat, hw, Below.refl, e15, z0, z1, z2, z3, z4, z5]
            · intro f w hw hd
              have e20 : f 20 = .agg #[.int .u64 B.1, .int .u64 B.2] := dep_of hd 20 (by kernel_rfl)
              have e15 : f 15 = .bool false := dep_of hd 15 (by kernel_rfl)
              simp [fillR, Act.put, go_sem, relOf, Rk.sat, hw, Below.refl, e20, e15]
              refine (cNB.out w).mono ?_
              rintro e w2 ⟨rfl, hb⟩
              simp
              exact ⟨hw.trans (hb.mono hw.size), hb⟩
            · intro f w hw hd
              have e19 : f 19 = .agg #[.int .u64 A.1, .int .u64 A.2] := dep_of hd 19 (by kernel_rfl)
              have e21 : f 21 = .agg #[.int .u64 NB.1, .int .u64 NB.2] := dep_of hd 21 (by kernel_rfl)
              have e15 : f 15 = .bool false := dep_of hd 15 (by kernel_rfl)
              simp [fillR, Act.put, go_sem, relOf, Rk.sat, hw, Below.refl, e19, e21, e15]
              exact ⟨mA_NB.out w, hw.alloc hw.size _, (Below.refl _ _).alloc (Nat.le_refl _) _⟩
            · intro f w hw hd
              obtain ⟨g22, e22, ms22⟩ : ∃ g, f 22 = .slice (some ⟨g, 0, none⟩) 2 2 ∧ Ms w (some ⟨g, 0, none⟩) 2 [A, NB] := dep_of hd 22 (by kernel_rfl)
              have e15 : f 15 = .bool false := dep_of hd 15 (by kernel_rfl)
              simp [fillR, Act.put, go_sem, relOf, Rk.sat, hw, Below.refl, e22, e15]
              refine (cMi2.out w _ ms22).mono ?_
              rintro e w2 ⟨rfl, hb⟩
              simp
              exact ⟨hw.trans (hb.mono hw.size), hb⟩
            · intro f w hw hd
              have e18 : f 18 = .agg #[.int .u64 Mi.1, .int .u64 Mi.2] := dep_of hd 18 (by kernel_rfl)
              have e23 : f 23 = .agg #[.int .u64 Mi.1, .int .u64 Mi.2] := dep_of hd 23 (by kernel_rfl)
              have e15 : f 15 = .bool false := dep_of hd 15 (by kernel_rfl)
              simp [fillR, Act.put, go_sem, relOf, Rk.sat, hw, Below.refl, e18, e23, e15, eqL Mi w]
            · intro f w hw hd
              have e15 : f 15 = .bool false := dep_of hd 15 (by kernel_rfl)
              have e24 : f 24 = .bool false := dep_of hd 24 (by kernel_rfl)
              simp [fillR, Act.put, go_sem, relOf, Rk.sat, hw, Below.refl, e15, e24]
          intro f11 w7 hw hr
          have ef : f11 25 = .bool false := hr 25 (by simp)
          have HW7 := Lib.hid (HW.out.trans (hw.mono HW.out.size))
          clear hr hw HK
          simp [fillR, Act.put, ef]
          clear ef
          go_upto_region 13 with fail
          have HK := Lib.hid (fun (X : World) (hX : Below w7.heap.size w7 X) => HK5.out X (HW7.out.trans (hX.mono HW7.out.size)))
          refine region_rel2 (fun X => Below w7.heap.size w7 X) [.v (.agg #[.int .u64 A.1, .int .u64 A.2]), .v (.agg #[.int .u64 B.1, .int .u64 B.2]), .v (.agg #[.int .u64 D.1, .int .u64 D.2]), .m 2 [B, D], .v (.agg #[.int .u64 OBD.1, .int .u64 OBD.2]), .m 2 [A, OBD], .v (.agg #[.int .u64 X1.1, .int .u64 X1.2]), .v (.agg #[.int .u64 A.1, .int .u64 A.2]), .v (.agg #[.int .u64 B.1, .int .u64 B.2]), .m 2 [A, B], .v (.agg #[.int .u64 AB.1, .int .u64 AB.2]), .v (.agg #[.int .u64 A.1, .int .u64 A.2]), .v (.agg #[.int .u64 D.1, .int .u64 D.2]), .m 2 [A, D], .v (.agg #[.int .u64 AD.1, .int .u64 AD.2]), .m 2 [AB, AD], .v (.agg #[.int .u64 X1.1, .int .u64 X1.2]), .v (.bool false), .v (.bool false), .v (.agg #[.int .u64 A.1, .int .u64 A.2]), .v (.agg #[.int .u64 B.1, .int .u64 B.2]), .m 2 [A, B], .v (.agg #[.int .u64 OAB.1, .int .u64 OAB.2]), .v (.agg #[.int .u64 B.1, .int .u64 B.2]), .v (.agg #[.int .u64 A.1, .int .u64 A.2]), .m 2 [B, A], .v (.agg #[.int .u64 OAB.1, .int .u64 OAB.2]), .v (.bool false), .v (.bool false), .v (.bool false), .v (.agg #[.int .u64 0, .int .u64 0]), .v (.agg #[.int .u64 0, .int .u64 0]), .v (.bool false), .v (.bool false)]
            (by kernel_rfl) (below_drew (Below.refl _ _)) (by kernel_rfl) (by kernel_rfl) (by kernel_rfl) ?_ ?_
          · refine ⟨?_, ?_, ?_, ?_, ?_, ?_, ?_, ?_, ?_, ?_, ?_, ?_, ?_, ?_, ?_, ?_, ?_, ?_, ?_, ?_, ?_, ?_, ?_, ?_, ?_, ?_, ?_, ?_, ?_, ?_, ?_, ?_, ?_, ?_, trivial⟩
            · intro f w hw hd
              obtain ⟨⟨z0, z1⟩, ⟨z2, z3⟩, ⟨z4, z5⟩⟩ := HK.out w hw
              simp [fillR, Act.put, go_sem, relOf, Rk.sat, hw, Below.refl, z0, z1, z2, z3, z4, z5]
            · intro f w hw hd
              obtain ⟨⟨z0, z1⟩, ⟨z2, z3⟩, ⟨z4, z5⟩⟩ := HK.out w hw
              simp [fillR, Act.put, go_sem, relOf, Rk.sat, hw, Below.refl, z0, z1, z2, z3, z4, z5]
            · intro f w hw hd
              obtain ⟨⟨z0, z1⟩, ⟨z2, z3⟩, ⟨z4, z5⟩⟩ := HK.out w hw
              simp [fillR, Act.put, go_sem, relOf, Rk.sat, hw, Below.refl, z0, z1, z2, z3, z4, z5]
            · intro f w hw hd
              have e1 : f 1 = .agg #[.int .u64 B.1, .int .u64 B.2] := dep_of hd 1 (by kernel_rfl)
              have e2 : f 2 = .agg #[.int .u64 D.1, .int .u64 D.2] := dep_of hd 2 (by kernel_rfl)
              simp [fillR, Act.put, go_sem, relOf, Rk.sat, hw, Below.refl, e1, e2]
              exact ⟨mB_D.out w, hw.alloc hw.size _, (Below.refl _ _).alloc (Nat.le_refl _) _⟩
            · intro f w hw hd
              obtain ⟨g3, e3, ms3⟩ : ∃ g, f 3 = .slice (some ⟨g, 0, none⟩) 2 2 ∧ Ms w (some ⟨g, 0, none⟩) 2 [B, D] := dep_of hd 3 (by kernel_rfl)
              simp [fillR, Act.put, go_sem, relOf, Rk.sat, hw, Below.refl, e3]
              refine (cOBD.out w _ ms3).mono ?_
              rintro e w2 ⟨rfl, hb⟩
              simp
              exact ⟨hw.trans (hb.mono hw.size), hb⟩
            · intro f w hw hd
              have e0 : f 0 = .agg #[.int .u64 A.1, .int .u64 A.2] := dep_of hd 0 (by kernel_rfl)
              have e4 : f 4 = .agg #[.int .u64 OBD.1, .int .u64 OBD.2] := dep_of hd 4 (by kernel_rfl)
              simp [fillR, Act.put, go_sem, relOf, Rk.sat, hw, Below.refl, e0, e4]
              exact ⟨mA_OBD.out w, hw.alloc hw.size _, (Below.refl _ _).alloc (Nat.le_refl _) _⟩
            · intro f w hw hd
              obtain ⟨g5, e5, ms5⟩ : ∃ g, f 5 = .slice (some ⟨g, 0, none⟩) 2 2 ∧ Ms w (some ⟨g, 0, none⟩) 2 [A, OBD] := dep_of hd 5 (by kernel_rfl)
              simp [fillR, Act.put, go_sem, relOf, Rk.sat, hw, Below.refl, e5]
              refine (cX1.out w _ ms5).mono ?_
              rintro e w2 ⟨rfl, hb⟩
              simp
              exact ⟨hw.trans (hb.mono hw.size), hb⟩
            · intro f w hw hd
              obtain ⟨⟨z0, z1⟩, ⟨z2, z3⟩, ⟨z4, z5⟩⟩ := HK.out w hw
              simp [fillR, Act.put, go_sem, relOf, Rk.sat, hw, Below.refl, z0, z1, z2, z3, z4, z5]
            · intro f w hw hd
              obtain ⟨⟨z0, z1⟩, ⟨z2, z3⟩, ⟨z4, z5⟩⟩ := HK.out w hw
              simp [fillR, Act.put, go_sem, relOf, Rk.sat, hw, Below.refl, z0, z1, z2, z3, z4, z5]
            · intro f w hw hd
              have e7 : f 7 = .agg #[.int .u64 A.1, .int .u64 A.2] := dep_of hd 7 (by kernel_rfl)
              have e8 : f 8 = .agg #[.int .u64 B.1, .int .u64 B.2] := dep_of hd 8 (by kernel_rfl)
              simp [fillR, Act.put, go_sem, relOf, Rk.sat, hw, Below.refl, e7, e8]
              exact ⟨mA_B.out w, hw.alloc hw.size _, (Below.refl _ _).alloc (Nat.le_refl _) _⟩
            · intro f w hw hd
              obtain ⟨g9, e9, ms9⟩ : ∃ g, f 9 = .slice (some ⟨g, 0, none⟩) 2 2 ∧ Ms w (some ⟨g, 0, none⟩) 2 [A, B] := dep_of hd 9 (by kernel_rfl)
              simp [fillR, Act.put, go_sem, relOf, Rk.sat, hw, Below.refl, e9]
              refine (cAB.out w _ ms9).mono ?_
              rintro e w2 ⟨rfl, hb⟩
              simp
              exact ⟨hw.trans (hb.mono hw.size), hb⟩
            · intro f w hw hd
              obtain ⟨⟨z0, z1⟩, ⟨z2, z3⟩, ⟨z4, z5⟩⟩ := HK.out w hw
              simp [fillR, Act.put, go_sem, relOf, Rk.sat, hw, Below.refl, z0, z1, z2, z3, z4, z5]
            · intro f w hw hd
              obtain ⟨⟨z0, z1⟩, ⟨z2, z3⟩, ⟨z4, z5⟩⟩ := HK.out w hw
              simp [fillR, Act.put, go_sem, relOf, Rk.sat, hw, Below.refl, z0, z1, z2, z3, z4, z5]
            · intro f w hw hd
              have e11 : f 11 = .agg #[.int .u64 A.1, .int .u64 A.2] := dep_of hd 11 (by kernel_rfl)
              have e12 : f 12 = .agg #[.int .u64 D.1, .int .u64 D.2] := dep_of hd 12 (by kernel_rfl)
              simp [fillR, Act.put, go_sem, relOf, Rk.sat, hw, Below.refl, e11, e12]
              exact ⟨mA_D.out w, hw.alloc hw.size _, (Below.refl _ _).alloc (Nat.le_refl _) _⟩
            · intro f w hw hd
              obtain ⟨g13, e13, ms13⟩ : ∃ g, f 13 = .slice (some ⟨g, 0, none⟩) 2 2 ∧ Ms w (some ⟨g, 0, none⟩) 2 [A, D] := dep_of hd 13 (by kernel_rfl)
              simp [fillR, Act.put, go_sem, relOf, Rk.sat, hw, Below.refl, e13]
              refine (cAD.out w _ ms13).mono ?_
              rintro e w2 ⟨rfl, hb⟩
              simp
              exact ⟨hw.trans (hb.mono hw.size), hb⟩
            · intro f w hw hd
              have e10 : f 10 = .agg #[.int .u64 AB.1, .int .u64 AB.2] := dep_of hd 10 (by kernel_rfl)
              have e14 : f 14 = .agg #[.int .u64 AD.1, .int .u64 AD.2] := dep_of hd 14 (by kernel_rfl)
              simp [fillR, Act.put, go_sem, relOf, Rk.sat, hw, Below.refl, e10, e14]
              exact ⟨mAB_AD.out w, hw.alloc hw.size _, (Below.refl _ _).alloc (Nat.le_refl _) _⟩
            · intro f w hw hd
              obtain ⟨g15, e15, ms15⟩ : ∃ g, f 15 = .slice (some ⟨g, 0, none⟩) 2 2 ∧ Ms w (some ⟨g, 0, none⟩) 2 [AB, AD] := dep_of hd 15 (by kernel_rfl)
              simp [fillR, Act.put, go_sem, relOf, Rk.sat, hw, Below.refl, e15]
              refine (cX2.out w _ ms15).mono ?_
              rintro e w2 ⟨rfl, hb⟩
              simp
              exact ⟨hw.trans (hb.mono hw.size), hb⟩
            · intro f w hw hd
              have e6 : f 6 = .agg #[.int .u64 X1.1, .int .u64 X1.2] := dep_of hd 6 (by kernel_rfl)
              have e16 : f 16 = .agg #[.int .u64 X1.1, .int .u64 X1.2] := dep_of hd 16 (by kernel_rfl)
              simp [fillR, Act.put, go_sem, relOf, Rk.sat, hw, Below.refl, e6, e16, eqL X1 w]
            · intro f w hw hd
              have e17 : f 17 = .bool false := dep_of hd 17 (by kernel_rfl)
              simp [fillR, Act.put, go_sem, relOf, Rk.sat, hw, Below.refl, e17]
            · intro f w hw hd
              have e18 : f 18 = .bool false := dep_of hd 18 (by kernel_rfl)
              obtain ⟨⟨z0, z1⟩, ⟨z2, z3⟩, ⟨z4, z5⟩⟩ := HK.out w hw
              simp [fillR, Act.put, go_sem, relOf, Rk.sat, hw, Below.refl, e18, z0, z1, z2, z3, z4, z5]
            · intro f w hw hd
              have e18 : f 18 = .bool false := dep_of hd 18 (by kernel_rfl)
              obtain ⟨⟨z0, z1⟩, ⟨z2, z3⟩, ⟨z4, z5⟩⟩ := HK.out w hw
              simp [fillR, Act.put, go_sem, relOf, Rk.sat, hw, Below.refl, e18, z0, z1, z2, z3, z4, z5]
            · intro f w hw hd
              have e19 : f 19 = .agg #[.int .u64 A.1, .int .u64 A.2] := dep_of hd 19 (by kernel_rfl)
              have e20 : f 20 = .agg #[.int .u64 B.1, .int .u64 B.2] := dep_of hd 20 (by kernel_rfl)
              have e18 : f 18 = .bool false := dep_of hd 18 (by kernel_rfl)
              simp [fillR, Act.put, go_sem, relOf, Rk.sat, hw, Below.refl, e19, e20, e18]
              exact ⟨mA_B.out w, hw.alloc hw.size _, (Below.refl _ _).alloc (Nat.le_refl _) _⟩
            · intro f w hw hd
              obtain ⟨g21, e21, ms21⟩ : ∃ g, f 21 = .slice (some ⟨g, 0, none⟩) 2 2 ∧ Ms w (some ⟨g, 0, none⟩) 2 [A, B] := dep_of hd 21 (by kernel_rfl)
              have e18 : f 18 = .bool false := dep_of hd 18 (by kernel_rfl)
              simp [fillR, Act.put, go_sem, relOf, Rk.sat, hw, Below.refl, e21, e18]
              refine (cOAB.out w _ ms21).mono ?_
              rintro e w2 ⟨rfl, hb⟩
              simp
              exact ⟨hw.trans (hb.mono hw.size), hb⟩
            · intro f w hw hd
              have e18 : f 18 = .bool false := dep_of hd 18 (by kernel_rfl)
              obtain ⟨⟨z0, z1⟩, ⟨z2, z3⟩, ⟨z4, z5⟩⟩ := HK.out w hw
              simp [fillR, Act.put, go_sem, relOf, Rk.sat, hw, Below.refl, e18, z0, z1, z2, z3, z4, z5]
            · intro f w hw hd
              have e18 : f 18 = .bool false := dep_of hd 18 (by kernel_rfl)
              obtain ⟨⟨z0, z1⟩, ⟨z2, z3⟩, ⟨z4, z5⟩⟩ := HK.out w hw
              simp [fillR, Act.put, go_sem, relOf, Rk.sat, hw, Below.refl, e18, z0, z1, z2, z3, z4, z5]
            · intro f w hw hd
              have e23 : f 23 = .agg #[.int .u64 B.1, .int .u64 B.2] := dep_of hd 23 (by kernel_rfl)
              have e24 : f 24 = .agg #[.int .u64 A.1, .int .u64 A.2] := dep_of hd 24 (by kernel_rfl)
              have e18 : f 18 = .bool false := dep_of hd 18 (by kernel_rfl)
              simp [fillR, Act.put, go_sem, relOf, Rk.sat, hw, Below.refl, e23, e24, e18]
              exact ⟨mB_A.out w, hw.alloc hw.size _, (Below.refl _ _).alloc (Nat.le_refl _) _⟩
            · intro f w hw hd
              obtain ⟨g25, e25, ms25⟩ : ∃ g, f 25 = .slice (some ⟨g, 0, none⟩) 2 2 ∧ Ms w (some ⟨g, 0, none⟩) 2 [B, A] := dep_of hd 25 (by kernel_rfl)
              have e18 : f 18 = .bool false := dep_of hd 18 (by kernel_rfl)
              simp [fillR, Act.put, go_sem, relOf, Rk.sat, hw, Below.refl, e25, e18]
              refine (cOBA.out w _ ms25).mono ?_
              rintro e w2 ⟨rfl, hb⟩
              simp
              exact ⟨hw.trans (hb.mono hw.size), hb⟩
            · intro f w hw hd
              have e22 : f 22 = .agg #[.int .u64 OAB.1, .int .u64 OAB.2] := dep_of hd 22 (by kernel_rfl)
              have e26 : f 26 = .agg #[.int .u64 OAB.1, .int .u64 OAB.2] := dep_of hd 26 (by kernel_rfl)
              have e18 : f 18 = .bool false := dep_of hd 18 (by kernel_rfl)
              simp [fillR, Act.put, go_sem, relOf, Rk.sat, hw, Below.refl, e22, e26, e18, eqL OAB w]
            · intro f w hw hd
              have e18 : f 18 = .bool false := dep_of hd 18 (by kernel_rfl)
              have e27 : f 27 = .bool false := dep_of hd 27 (by kernel_rfl)
              simp [fillR, Act.put, go_sem, relOf, Rk.sat, hw, Below.refl, e18, e27]
            · intro f w hw hd
              have e28 : f 28 = .bool false := dep_of hd 28 (by kernel_rfl)
              simp [fillR, Act.put, go_sem, relOf, Rk.sat, hw, Below.refl, e28]
            · intro f w hw hd
              have e29 : f 29 = .bool false := dep_of hd 29 (by kernel_rfl)
              simp [fillR, Act.put, go_sem, relOf, Rk.sat, hw, Below.refl, e29]
              refine (cO0.out w).mono ?_
              rintro e w2 ⟨rfl, hb⟩
              simp
              exact ⟨hw.trans (hb.mono hw.size), hb⟩
            · intro f w hw hd
              have e29 : f 29 = .bool false := dep_of hd 29 (by kernel_rfl)
              simp [fillR, Act.put, go_sem, relOf, Rk.sat, hw, Below.refl, e29]
            · intro f w hw hd
              have e30 : f 30 = .agg #[.int .u64 0, .int .u64 0] := dep_of hd 30 (by kernel_rfl)
              have e31 : f 31 = .agg #[.int .u64 0, .int .u64 0] := dep_of hd 31 (by kernel_rfl)
              have e29 : f 29 = .bool false := dep_of hd 29 (by kernel_rfl)
              simp [fillR, Act.put, go_sem, relOf, Rk.sat, hw, Below.refl, e30, e31, e29, eqZ w]
            · intro f w hw hd
              have e29 : f 29 = .bool false := dep_of hd 29 (by kernel_rfl)
              have e32 : f 32 = .bool false := dep_of hd 32 (by kernel_rfl)
              simp [fillR, Act.put, go_sem, relOf, Rk.sat, hw, Below.refl, e29, e32]
          intro f13 w8 hw hr
          have ef : f13 33 = .bool false := hr 33 (by simp)
          have HW8 := Lib.hid (HW7.out.trans (hw.mono HW7.out.size))
          clear hr hw HK
          simp [fillR, Act.put, ef]
          clear ef
          go_upto_region 15 with fail
          obtain ⟨Z, hZ⟩ : ∃ Z : Nat, Z = p + q := ⟨_, rfl⟩
          have hs1 : IntKind.i64.wrap ((p : Int) + (q : Int)) = (Z : Int) := by rw [IntKind.wrap_i64, Int.emod_eq_of_lt (by omega) (by omega)]; omega
          have hs2 : IntKind.i64.wrap ((r : Int) + (u : Int)) = (Z : Int) := by rw [IntKind.wrap_i64, Int.emod_eq_of_lt (by omega) (by omega)]; omega
          clear hZ hsum hp96 hq96 hr96 hu96
          have HK := Lib.hid (fun (X : World) (hX : Below w8.heap.size w8 X) => HK5.out X (HW8.out.trans (hX.mono HW8.out.size)))
          refine region_rel2 (fun X => Below w8.heap.size w8 X) [.v (.agg #[.int .u64 A.1, .int .u64 A.2]), .v (.int .i64 p), .v (.agg #[.int .u64 B.1, .int .u64 B.2]), .v (.int .i64 q), .v (.int .i64 Z), .v (.agg #[.int .u64 A.1, .int .u64 A.2]), .v (.agg #[.int .u64 B.1, .int .u64 B.2]), .m 2 [A, B], .v (.agg #[.int .u64 OAB.1, .int .u64 OAB.2]), .v (.int .i64 r), .v (.agg #[.int .u64 A.1, .int .u64 A.2]), .v (.agg #[.int .u64 B.1, .int .u64 B.2]), .m 2 [A, B], .v (.agg #[.int .u64 AB.1, .int .u64 AB.2]), .v (.int .i64 u), .v (.int .i64 Z), .v (.bool true), .v (.bool true)]
            (by kernel_rfl) (below_drew (Below.refl _ _)) (by kernel_rfl) (by kernel_rfl) (by kernel_rfl) ?_ ?_
          · refine ⟨?_, ?_, ?_, ?_, ?_, ?_, ?_, ?_, ?_, ?_, ?_, ?_, ?_, ?_, ?_, ?_, ?_, ?_, trivial⟩
            · intro f w hw hd
              obtain ⟨⟨z0, z1⟩, ⟨z2, z3⟩, ⟨z4, z5⟩⟩ := HK.out w hw
              simp [fillR, Act.put, go_sem, relOf, Rk.sat, hw, Below.refl, z0, z1, z2, z3, z4, z5]
            · intro f w hw hd
              have e0 : f 0 = .agg #[.int .u64 A.1, .int .u64 A.2] := dep_of hd 0 (by kernel_rfl)
              simp [fillR, Act.put, go_sem, relOf, Rk.sat, hw, Below.refl, e0]
              refine (cp.out w).mono ?_
              rintro e w2 ⟨rfl, hb⟩
              simp
              exact ⟨hw.trans (hb.mono hw.size), hb⟩
            · intro f w hw hd
              obtain ⟨⟨z0, z1⟩, ⟨z2, z3⟩, ⟨z4, z5⟩⟩ := HK.out w hw
              simp [fillR, Act.put, go_sem, relOf, Rk.sat, hw, Below.refl, z0, z1, z2, z3, z4, z5]
            · intro f w hw hd
              have e2 : f 2 = .agg #[.int .u64 B.1, .int .u64 B.2] := dep_of hd 2 (by kernel_rfl)
              simp [fillR, Act.put, go_sem, relOf, Rk.sat, hw, Below.refl, e2]
              refine (cq.out w).mono ?_
              rintro e w2 ⟨rfl, hb⟩
              simp
              exact ⟨hw.trans (hb.mono hw.size), hb⟩
            · intro f w hw hd
              have e1 : f 1 = .int .i64 p := dep_of hd 1 (by kernel_rfl)
              have e3 : f 3 = .int .i64 q := dep_of hd 3 (by kernel_rfl)
              simp [fillR, Act.put, go_sem, relOf, Rk.sat, hw, Below.refl, e1, e3, hs1]
            · intro f w hw hd
              obtain ⟨⟨z0, z1⟩, ⟨z2, z3⟩, ⟨z4, z5⟩⟩ := HK.out w hw
              simp [fillR, Act.put, go_sem, relOf, Rk.sat, hw, Below.refl, z0, z1, z2, z3, z4, z5]
            · intro f w hw hd
              obtain ⟨⟨z0, z1⟩, ⟨z2, z3⟩, ⟨z4, z5⟩⟩ := HK.out w hw
              simp [fillR, Act.put, go_sem, relOf, Rk.sat, hw, Below.refl, z0, z1, z2, z3, z4, z5]
            · intro f w hw hd
              have e5 : f 5 = .agg #[.int .u64 A.1, .int .u64 A.2] := dep_of hd 5 (by kernel_rfl)
              have e6 : f 6 = .agg #[.int .u64 B.1, .int .u64 B.2] := dep_of hd 6 (by kernel_rfl)
              simp [fillR, Act.put, go_sem, relOf, Rk.sat, hw, Below.refl, e5, e6]
              exact ⟨mA_B.out w, hw.alloc hw.size _, (Below.refl _ _).alloc (Nat.le_refl _) _⟩
            · intro f w hw hd
              obtain ⟨g7, e7, ms7⟩ : ∃ g, f 7 = .slice (some ⟨g, 0, none⟩) 2 2 ∧ Ms w (some ⟨g, 0, none⟩) 2 [A, B] := dep_of hd 7 (by kernel_rfl)
              simp [fillR, Act.put, go_sem, relOf, Rk.sat, hw, Below.refl, e7]
              refine (cOAB.out w _ ms7).mono ?_
              rintro e w2 ⟨rfl, hb⟩
              simp
              exact ⟨hw.trans (hb.mono hw.size), hb⟩
            · intro f w hw hd
              have e8 : f 8 = .agg #[.int .u64 OAB.1, .int .u64 OAB.2] := dep_of hd 8 (by kernel_rfl)
              simp [fillR, Act.put, go_sem, relOf, Rk.sat, hw, Below.refl, e8]
              refine (cr.out w).mono ?_
              rintro e w2 ⟨rfl, hb⟩
              simp
              exact ⟨hw.trans (hb.mono hw.size), hb⟩
            · intro f w hw hd
              obtain ⟨⟨z0, z1⟩, ⟨z2, z3⟩, ⟨z4, z5⟩⟩ := HK.out w hw
              simp [fillR, Act.put, go_sem, relOf, Rk.sat, hw, Below.refl, z0, z1, z2, z3, z4, z5]
            · intro f w hw hd
              obtain ⟨⟨z0, z1⟩, ⟨z2, z3⟩, ⟨z4, z5⟩⟩ := HK.out w hw
              simp [fillR, Act.put, go_sem, relOf, Rk.sat, hw, Below.refl, z0, z1, z2, z3, z4, z5]
            · intro f w hw hd
              have e10 : f 10 = .agg #[.int .u64 A.1, .int .u64 A.2] := dep_of hd 10 (by kernel_rfl)
              have e11 : f 11 = .agg #[.int .u64 B.1, .int .u64 B.2] := dep_of hd 11 (by kernel_rfl)
              simp [fillR, Act.put, go_sem, relOf, Rk.sat, hw, Below.refl, e10, e11]
              exact ⟨mA_B.out w, hw.alloc hw.size _, (Below.refl _ _).alloc (Nat.le_refl _) _⟩
            · intro f w hw hd
              obtain ⟨g12, e12, ms12⟩ : ∃ g, f 12 = .slice (some ⟨g, 0, none⟩) 2 2 ∧ Ms w (some ⟨g, 0, none⟩) 2 [A, B] := dep_of hd 12 (by kernel_rfl)
              simp [fillR, Act.put, go_sem, relOf, Rk.sat, hw, Below.refl, e12]
              refine (cAB.out w _ ms12).mono ?_
              rintro e w2 ⟨rfl, hb⟩
              simp
              exact ⟨hw.trans (hb.mono hw.size), hb⟩
            · intro f w hw hd
              have e13 : f 13 = .agg #[.int .u64 AB.1, .int .u64 AB.2] := dep_of hd 13 (by kernel_rfl)
              simp [fillR, Act.put, go_sem, relOf, Rk.sat, hw, Below.refl, e13]
              refine (cu.out w).mono ?_
              rintro e w2 ⟨rfl, hb⟩
              simp
              exact ⟨hw.trans (hb.mono hw.size), hb⟩
            · intro f w hw hd
              have e9 : f 9 = .int .i64 r := dep_of hd 9 (by kernel_rfl)
              have e14 : f 14 = .int .i64 u := dep_of hd 14 (by kernel_rfl)
              simp [fillR, Act.put, go_sem, relOf, Rk.sat, hw, Below.refl, e9, e14, hs2]
            · intro f w hw hd
              have e4 : f 4 = .int .i64 Z := dep_of hd 4 (by kernel_rfl)
              have e15 : f 15 = .int .i64 Z := dep_of hd 15 (by kernel_rfl)
              simp [fillR, Act.put, go_sem, relOf, Rk.sat, hw, Below.refl, e4, e15]
            · intro f w hw hd
              have e16 : f 16 = .bool true := dep_of hd 16 (by kernel_rfl)
              simp [fillR, Act.put, go_sem, relOf, Rk.sat, hw, Below.refl, e16]
          intro f15 w9 hw hr
          have ef : f15 17 = .bool true := hr 17 (by simp)
          have HW9 := Lib.hid (HW8.out.trans (hw.mono HW8.out.size))
          clear hr hw HK
          simp [fillR, Act.put, ef]
          clear ef
          go_wp2
          go_ret
          exact ⟨rfl, HBW.out.trans (HW9.out.mono HBW.out.size)⟩


set_option maxRecDepth 100000 in
theorem lifted (os : Os) (started : os.Started) (H : Type) (enc : TypeId × Value → H) :
    ReturnsInHanded {} Try.checked os 6 .any (Rows.maskAlgebraSpec.pre6 enc Try.prog Try.f6 Rows.maskAlgebraRow.domain false) (Rows.maskAlgebraSpec.post enc Try.prog Try.f6 false true false false) := by
  refine returnsInHanded_of_change (C := Try.checked) Try.own started (by kernel_rfl) Try.func6
    (ChangeSpec.witness6 (enc := enc) (C := Try.checked) false ⟨#[], #[.agg #[.int .u64 0, .int .u64 0], .agg #[.int .u64 0, .int .u64 0], .agg #[.int .u64 0, .int .u64 0]], []⟩ 8 (by kernel_rfl) (by kernel_rfl) (by kernel_rfl) (by kernel_rfl)) ?_
  intro W base args ds gs before hval0 hW hcnd _
  have hval : ∀ (j : Nat) t v, Try.f6.params[j]? = some t → args[j]? = some v → Value.okWide Try.prog W .any base t v := hval0
  have hW' := hW
  obtain ⟨p, q, hA0, hV, rfl, hfz, hnd⟩ := hW
  have hA : DataW.TrodAll enc Try.prog W 0 (fun _ => true) true Try.f6.params.toList args.toList ds p := hA0
  rw [Try.params6] at hA hval
  have hA' := hA
  obtain ⟨v0, vs0, d0, ds0, p0, q0, hargs, rfl, rfl, h0, r0⟩ := trodAll_cons hA
  obtain ⟨v1, vs1, d1, ds1, p1, q1, rfl, rfl, rfl, h1, r1⟩ := trodAll_cons r0
  obtain ⟨v2, vs2, d2, ds2, p2, q2, rfl, rfl, rfl, h2, r2⟩ := trodAll_cons r1
  obtain ⟨rfl, rfl, rfl⟩ := trodAll_nil r2
  obtain rfl : args = #[v0, v1, v2] := by cases args; simp_all
  obtain ⟨rfl, rfl⟩ := trodVars_none hV
  obtain ⟨z0, rfl, sl0⟩ := open_mask (hval 0 25 v0 rfl rfl) h0
  obtain ⟨z1, rfl, sl1⟩ := open_mask (hval 1 25 v1 rfl rfl) h1
  obtain ⟨z2, rfl, sl2⟩ := open_mask (hval 2 25 v2 rfl rfl) h2
  clear hA0 hval0
  refine (walk z0 sl0 z1 sl1 z2 sl2).mono fun e W' ⟨he, bel⟩ => ?_
  subst he
  exact ⟨_, rfl, _, _, _, [], _, [], hW', trodAll_mk1 (shut_bool Try.underlying4 _), trodAll_below bel _ _ _ _ (by kernel_rfl) hA', rfl, bel.frame _, fun h => by cases h⟩

theorem proved : Rows.MaskAlgebraSaid :=
  OpenClaim.holds_of_wide 6 Try.f6 rfl rfl rfl rfl rfl rfl rfl ⟨rfl, rfl, rfl, rfl, rfl⟩ rfl rfl rfl rfl rfl (by kernel_rfl) Try.func6 (by kernel_rfl)
    (of_decide_eq_true (by kernel_rfl)) (by unfold Func.isWrapper; first | (rw [if_pos (by decide +kernel)]; kernel_rfl) | (rw [if_neg (by decide +kernel)]; exact ⟨rfl, rfl⟩))
    (fun os started H enc _ => lifted os started H enc)
#print axioms proved
end Go.Proofs.Ytkfgiedpnmpfgaa.maskAlgebra
