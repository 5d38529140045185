/-
  changes, With, Without, Range.
-/
import Derived.Test.YtkfgiedpnmpfgaaMskF
import Derived.Deep.RegionHeld3
namespace Go.Proofs.Ytkfgiedpnmpfgaa
open Go.RowKit Go.Shelf
set_option linter.unusedVariables false
set_option linter.unusedSimpArgs false
set_option maxRecDepth 100000

def chgM (m : Mk) (n : Int) : Int := if rightM m then (if slotB n then 0 else 2) else 200
theorem mbox_world (w : World) (m : Mk) : Below w.heap.size w (w.alloc (.cells #[.int .u64 m.1, .int .u64 m.2] 25)) ∧ MRow (w.alloc (.cells #[.int .u64 m.1, .int .u64 m.2] 25)) w.heap.size m.1 m.2 :=
  ⟨(Below.refl _ w).alloc (Nat.le_refl _) _, MRow.new w m.1 m.2⟩

set_option maxHeartbeats 1000000 in
theorem changes_any (m : Mk) (n : Int) (w : World) (h : Fine m) (hn : -9223372036854775808 ≤ n ∧ n ≤ 9223372036854775807) :
    Calls Try.prog 33 #[mv m, .int .i64 n] w fun e w' => e = .returned (.int .i64 (chgM m n)) ∧ Below w.heap.size w w' := by
  have HC := Lib.hid (fun W => check_any m W h)
  have HI := Lib.hid (fun W => isSlot_any n W hn)
  have HB := Lib.hid (mbox_world w m).1
  have HR := Lib.hid (mbox_world w m).2
  unfold chkM at HC
  cases hr : rightM m with
  | false =>
    have HG := Lib.hid (show chgM m n = 200 by unfold chgM; rw [hr]; rfl)
    rw [hr] at HC
    clear hr h hn
    unfold mv at HC ⊢
    go_enter Try.func33, Try.ntmps33
    go_wp2_with fail
    refine (HC.out _).mono ?_
    rintro e w1 ⟨rfl, hb1⟩
    have HB1 := Lib.hid (HB.out.trans (hb1.mono HB.out.size))
    clear hb1
    go_wp2
    go_ret
    rw [HG.out]
    exact ⟨rfl, HB1.out⟩
  | true =>
    rw [hr] at HC
    cases hsl : slotB n with
    | false =>
      have HG := Lib.hid (show chgM m n = 2 by unfold chgM; rw [hr, hsl]; rfl)
      rw [hsl] at HI
      clear hr h hn hsl
      unfold mv at HC ⊢
      go_enter Try.func33, Try.ntmps33
      go_wp2_with fail
      refine (HC.out _).mono ?_
      rintro e w1 ⟨rfl, hb1⟩
      have HB1 := Lib.hid (HB.out.trans (hb1.mono HB.out.size))
      clear hb1
      go_wp2_with fail
      refine (HI.out _).mono ?_
      rintro e w2 ⟨rfl, rfl⟩
      go_wp2
      go_ret
      rw [HG.out]
      exact ⟨rfl, HB1.out⟩
    | true =>
      have HG := Lib.hid (show chgM m n = 0 by unfold chgM; rw [hr, hsl]; rfl)
      rw [hsl] at HI
      clear hr h hn hsl
      unfold mv at HC ⊢
      go_enter Try.func33, Try.ntmps33
      go_wp2_with fail
      refine (HC.out _).mono ?_
      rintro e w1 ⟨rfl, hb1⟩
      have HB1 := Lib.hid (HB.out.trans (hb1.mono HB.out.size))
      clear hb1
      go_wp2_with fail
      refine (HI.out _).mono ?_
      rintro e w2 ⟨rfl, rfl⟩
      go_wp2
      go_ret
      rw [HG.out]
      exact ⟨rfl, HB1.out⟩

/-- What answers a mask and an error. -/
def GivesME (w : World) (m : Mk) (x : Int) (e : Ending) (w' : World) : Prop := e = .returned (.tuple #[mv m, .int .i64 x]) ∧ Below w.heap.size w w'
theorem Ms.two (W : World) (a b : Mk) (ha : Fine a) (hb : Fine b) : Ms (W.alloc (.cells #[.int .u64 a.1, .int .u64 a.2, .int .u64 b.1, .int .u64 b.2] 25)) (some ⟨W.heap.size, 0, none⟩) 2 [a, b] := by
  refine ⟨by simp, by omega, fun _ => ⟨W.heap.size, 0, rfl, by simp, fun j m hm => ?_⟩, fun m hm => by simp at hm; rcases hm with rfl | rfl <;> assumption⟩
  match j, hm with
  | 0, hm => simp at hm; subst hm; exact ⟨cell_new W _ _ 0, cell_new W _ _ 1⟩
  | 1, hm => simp at hm; subst hm; exact ⟨cell_new W _ _ 2, cell_new W _ _ 3⟩
  | j + 2, hm => simp at hm
theorem Ms.drew {w : World} {A : Option Addr} {c : Nat} {l : List Mk} (h : Ms w A c l) : Ms w.drew A c l := ⟨h.room, h.most, h.rd, h.fine⟩

def withM (m : Mk) (n : Int) : Mk := mk fun k => has m k || decide ((k : Int) = n)

set_option maxHeartbeats 2000000 in
theorem with_any (m : Mk) (n : Int) (w : World) (h : Fine m) (hn : -9223372036854775808 ≤ n ∧ n ≤ 9223372036854775807) :
    Calls Try.prog 14 #[mv m, .int .i64 n] w (GivesME w (if chgM m n = 0 then withM m n else (0, 0)) (chgM m n)) := by
  obtain ⟨s, hs⟩ : ∃ s, s = w.heap.size := ⟨_, rfl⟩
  obtain ⟨W0, hW0⟩ : ∃ W0, W0 = (w.alloc (.cells #[.int .u64 m.1, .int .u64 m.2] 25)).alloc (.cells #[.int .u64 (0 : Nat), .int .u64 (0 : Nat)] 25) := ⟨_, rfl⟩
  have hB : Below w.heap.size w W0 := by rw [hW0]; exact ((Below.refl _ w).alloc (Nat.le_refl _) _).alloc (by simp) _
  have hm0 : MRow W0 s m.1 m.2 := by rw [hW0, hs]; exact (MRow.new w m.1 m.2).below ((Below.refl _ _).alloc (Nat.le_refl _) _) (by simp)
  have hR : MRow W0 (s + 1) 0 0 := by
    rw [hW0, hs]; have := MRow.new (w.alloc (.cells #[.int .u64 m.1, .int .u64 m.2] 25)) 0 0
    rwa [World.size_alloc] at this
  have HC := Lib.hid (fun W => changes_any m n W h hn)
  obtain ⟨x, hx⟩ : ∃ x, x = chgM m n := ⟨_, rfl⟩
  rw [← hx] at HC ⊢
  by_cases hx0 : x = 0
  · rw [if_pos hx0]
    have hsl : slotB n = true := by
      rw [hx0] at hx
      unfold chgM at hx
      cases hq : slotB n with
      | true => rfl
      | false => rw [hq] at hx; split at hx <;> simp at hx
    obtain ⟨S, hS⟩ : ∃ S, S = mk fun k => decide ((k : Int) = n) := ⟨_, rfl⟩
    obtain ⟨M, hM⟩ : ∃ M, M = withM m n := ⟨_, rfl⟩
    have HSg := Lib.hid (fun W => show Calls Try.prog 29 #[.int .i64 n] W (fun e w' => e = .returned (mv S) ∧ Below W.heap.size W w') from by rw [hS]; exact single_any n W (slotB_yes hsl))
    have HOr := Lib.hid (fun (W : World) (A : Option Addr) (hA : Ms W A 2 [m, S]) => show Calls Try.prog 21 #[.slice A 2 2] W (fun e w' => e = .returned (mv M) ∧ Below W.heap.size W w') from by
      have := or_any A 2 [m, S] W hA
      unfold GivesM at this
      rw [show mk (fun n => [m, S].any fun m => has m n) = M from by rw [hM, hS]; exact mk_congr (fun k hk => by simp [has_mk, hk])] at this
      exact this)
    have HMd := Lib.hid hM
    have HMs := Lib.hid (fun (W : World) => Ms.two W m S h (by rw [hS]; exact mk_fine _))
    subst hx0
    have HR := Lib.hid hR
    have HM0 := Lib.hid hm0
    have HB := Lib.hid hB
    have HS := Lib.hid hs
    have HW0 := Lib.hid hW0
    clear hx hS hM hsl hR hm0 hB hs hW0 h hn
    unfold mv at *
    go_enter Try.func14, Try.ntmps14
    go_wp2_with fail
    refine (HC.out _).mono ?_
    rintro e w1 ⟨rfl, hb1⟩
    rw [show (w.alloc (.cells #[.int .u64 m.1, .int .u64 m.2] 25)).alloc (.cells #[.int .u64 0, .int .u64 0] 25) = W0 from HW0.out.symm] at hb1
    have HK := Lib.hid (fun (X : World) (hX : Below w1.heap.size w1 X) => show X.cell? ⟨w.heap.size, 0, none⟩ = some (.int .u64 m.1) ∧ X.cell? ⟨w.heap.size, 1, none⟩ = some (.int .u64 m.2) from by
      have h := (HM0.out.below hb1 HM0.out.lt).below hX (Nat.lt_of_lt_of_le HM0.out.lt hb1.size)
      rw [HS.out] at h
      exact ⟨h.cell0, h.cell1⟩)
    have HRR := Lib.hid (fun (X : World) (hX : Below w1.heap.size w1 X) => show MRow X (w.heap.size + 1) 0 0 ∧ Below w.heap.size w X from by
      have h := (HR.out.below hb1 HR.out.lt).below hX (Nat.lt_of_lt_of_le HR.out.lt hb1.size)
      rw [HS.out] at h
      exact ⟨h, HB.out.trans ((hb1.trans (hX.mono hb1.size)).mono HB.out.size)⟩)
    clear hb1
    have HKS := Lib.hid (fun (X : World) (u v : Value) (hX : Below w1.heap.size w1 X) => show ((X.setCell ⟨w.heap.size + 1, 0, none⟩ u).setCell ⟨w.heap.size + 1, 1, none⟩ v).cell? ⟨w.heap.size, 0, none⟩ = some (.int .u64 m.1) ∧ ((X.setCell ⟨w.heap.size + 1, 0, none⟩ u).setCell ⟨w.heap.size + 1, 1, none⟩ v).cell? ⟨w.heap.size, 1, none⟩ = some (.int .u64 m.2) from by
      obtain ⟨h1, h2⟩ := HK.out X hX
      exact ⟨((World.cell?_of_block (Below.heap_setCell _ _ _ _ (by simp))).trans (World.cell?_of_block (Below.heap_setCell _ _ _ _ (by simp)))).trans h1, ((World.cell?_of_block (Below.heap_setCell _ _ _ _ (by simp))).trans (World.cell?_of_block (Below.heap_setCell _ _ _ _ (by simp)))).trans h2⟩)
    obtain ⟨c0, c1⟩ := HK.out w1 (Below.refl _ _)
    go_wp2
    go_region_held3 (fun X => X.cell? ⟨w.heap.size, 0, none⟩ = some (.int .u64 m.1) ∧ X.cell? ⟨w.heap.size, 1, none⟩ = some (.int .u64 m.2))
      (first | (with_reducible assumption) | (with_reducible exact HK.out _ (below_drew (Below.refl _ _))) | (with_reducible exact HK.out _ HC2.out) | (with_reducible exact HK.out _ (HC2.out.alloc HC2.out.size _)) | (with_reducible exact HK.out _ HC3.out) | (with_reducible exact HKS.out _ _ _ HC3.out))
      (first
      | (go_at_call 29; (with_reducible refine (HSg.out w1.drew).mono ?_); rintro e w2 ⟨rfl, hb2⟩; have HC2 := Lib.hid (show Below w1.heap.size w1 w2 from (below_drew (Below.refl _ w1)).trans hb2); clear hb2)
      | (go_at_call 21; (refine (HOr.out _ _ (HMs.out w2)).mono ?_); rintro e w3 ⟨rfl, hb3⟩; have HC3 := Lib.hid (show Below w1.heap.size w1 w3 from (HC2.out.alloc HC2.out.size _).trans (hb3.mono (HC2.out.alloc HC2.out.size _).size)); clear hb3; obtain ⟨hr3, hbw3⟩ := HRR.out _ HC3.out; have r0 := hr3.cell0; have r1 := hr3.cell1; have f0 := hr3.frozen 0; have f1 := hr3.frozen 1; clear hr3 hbw3))
    obtain ⟨hr3, hbw3⟩ := HRR.out _ HC3.out
    obtain ⟨e0, e1, hbE⟩ := res2 M.1 M.2 hr3 hbw3 (by omega)
    have HBE := Lib.hid hbE
    clear hr3 hbw3 hbE
    go_wp2
    refine bodyPost_ret (v := .tuple #[.agg #[.int .u64 M.1, .int .u64 M.2], .int .i64 0]) (by simp [results, Try.results14, go_sem, e0, e1]) rfl ?_
    exact ⟨by rw [← HMd.out]; rfl, HBE.out⟩
  · rw [if_neg hx0]
    have HR := Lib.hid hR
    have HB := Lib.hid hB
    have HS := Lib.hid hs
    have HW0 := Lib.hid hW0
    have t0 : (x != 0) = true := by simpa using hx0
    clear hx hR hm0 hB hs hW0 h hn hx0
    unfold mv at *
    go_enter Try.func14, Try.ntmps14
    go_wp2_with fail
    refine (HC.out _).mono ?_
    rintro e w1 ⟨rfl, hb1⟩
    rw [show (w.alloc (.cells #[.int .u64 m.1, .int .u64 m.2] 25)).alloc (.cells #[.int .u64 0, .int .u64 0] 25) = W0 from HW0.out.symm] at hb1
    have hr1 := HR.out.below hb1 HR.out.lt
    have hbw1 := HB.out.trans (hb1.mono HB.out.size)
    rw [HS.out] at hr1
    have r0 := hr1.cell0
    have r1 := hr1.cell1
    have f0 := hr1.frozen 0
    have f1 := hr1.frozen 1
    obtain ⟨e0, e1, hbE⟩ := res2 0 0 hr1 hbw1 (by omega)
    have HBE := Lib.hid hbE
    clear hr1 hbw1 hb1 hbE
    go_wp2
    refine bodyPost_ret (v := .tuple #[.agg #[.int .u64 (0 : Nat), .int .u64 (0 : Nat)], .int .i64 x]) (by simp [results, Try.results14, go_sem] at e0 e1 ⊢; simp [e0, e1]) rfl ?_
    exact ⟨rfl, HBE.out⟩
def withoutM (m : Mk) (n : Int) : Mk := mk fun k => has m k && !decide ((k : Int) = n)

set_option maxHeartbeats 2000000 in
theorem without_any (m : Mk) (n : Int) (w : World) (h : Fine m) (hn : -9223372036854775808 ≤ n ∧ n ≤ 9223372036854775807) :
    Calls Try.prog 15 #[mv m, .int .i64 n] w (GivesME w (if chgM m n = 0 then withoutM m n else (0, 0)) (chgM m n)) := by
  obtain ⟨s, hs⟩ : ∃ s, s = w.heap.size := ⟨_, rfl⟩
  obtain ⟨W0, hW0⟩ : ∃ W0, W0 = (w.alloc (.cells #[.int .u64 m.1, .int .u64 m.2] 25)).alloc (.cells #[.int .u64 (0 : Nat), .int .u64 (0 : Nat)] 25) := ⟨_, rfl⟩
  have hB : Below w.heap.size w W0 := by rw [hW0]; exact ((Below.refl _ w).alloc (Nat.le_refl _) _).alloc (by simp) _
  have hm0 : MRow W0 s m.1 m.2 := by rw [hW0, hs]; exact (MRow.new w m.1 m.2).below ((Below.refl _ _).alloc (Nat.le_refl _) _) (by simp)
  have hR : MRow W0 (s + 1) 0 0 := by
    rw [hW0, hs]; have := MRow.new (w.alloc (.cells #[.int .u64 m.1, .int .u64 m.2] 25)) 0 0
    rwa [World.size_alloc] at this
  have HC := Lib.hid (fun W => changes_any m n W h hn)
  obtain ⟨x, hx⟩ : ∃ x, x = chgM m n := ⟨_, rfl⟩
  rw [← hx] at HC ⊢
  by_cases hx0 : x = 0
  · rw [if_pos hx0]
    have hsl : slotB n = true := by
      rw [hx0] at hx
      unfold chgM at hx
      cases hq : slotB n with
      | true => rfl
      | false => rw [hq] at hx; split at hx <;> simp at hx
    obtain ⟨S, hS⟩ : ∃ S, S = mk fun k => decide ((k : Int) = n) := ⟨_, rfl⟩
    obtain ⟨M, hM⟩ : ∃ M, M = withoutM m n := ⟨_, rfl⟩
    have HSg := Lib.hid (fun W => show Calls Try.prog 29 #[.int .i64 n] W (fun e w' => e = .returned (mv S) ∧ Below W.heap.size W w') from by rw [hS]; exact single_any n W (slotB_yes hsl))
    have HMi := Lib.hid (fun (W : World) => show Calls Try.prog 23 #[mv m, mv S] W (fun e w' => e = .returned (mv M) ∧ Below W.heap.size W w') from by
      have := minus_any m S W h (by rw [hS]; exact mk_fine _)
      unfold GivesM at this
      rw [show mk (fun n => has m n && !has S n) = M from by rw [hM, hS]; exact mk_congr (fun k hk => by simp [has_mk, hk])] at this
      exact this)
    have HMd := Lib.hid hM
    subst hx0
    have HR := Lib.hid hR
    have HM0 := Lib.hid hm0
    have HB := Lib.hid hB
    have HS := Lib.hid hs
    have HW0 := Lib.hid hW0
    clear hx hS hM hsl hR hm0 hB hs hW0 h hn
    unfold mv at *
    go_enter Try.func15, Try.ntmps15
    go_wp2_with fail
    refine (HC.out _).mono ?_
    rintro e w1 ⟨rfl, hb1⟩
    rw [show (w.alloc (.cells #[.int .u64 m.1, .int .u64 m.2] 25)).alloc (.cells #[.int .u64 0, .int .u64 0] 25) = W0 from HW0.out.symm] at hb1
    have HK := Lib.hid (fun (X : World) (hX : Below w1.heap.size w1 X) => show X.cell? ⟨w.heap.size, 0, none⟩ = some (.int .u64 m.1) ∧ X.cell? ⟨w.heap.size, 1, none⟩ = some (.int .u64 m.2) from by
      have h := (HM0.out.below hb1 HM0.out.lt).below hX (Nat.lt_of_lt_of_le HM0.out.lt hb1.size)
      rw [HS.out] at h
      exact ⟨h.cell0, h.cell1⟩)
    have HRR := Lib.hid (fun (X : World) (hX : Below w1.heap.size w1 X) => show MRow X (w.heap.size + 1) 0 0 ∧ Below w.heap.size w X from by
      have h := (HR.out.below hb1 HR.out.lt).below hX (Nat.lt_of_lt_of_le HR.out.lt hb1.size)
      rw [HS.out] at h
      exact ⟨h, HB.out.trans ((hb1.trans (hX.mono hb1.size)).mono HB.out.size)⟩)
    clear hb1
    have HKS := Lib.hid (fun (X : World) (u v : Value) (hX : Below w1.heap.size w1 X) => show ((X.setCell ⟨w.heap.size + 1, 0, none⟩ u).setCell ⟨w.heap.size + 1, 1, none⟩ v).cell? ⟨w.heap.size, 0, none⟩ = some (.int .u64 m.1) ∧ ((X.setCell ⟨w.heap.size + 1, 0, none⟩ u).setCell ⟨w.heap.size + 1, 1, none⟩ v).cell? ⟨w.heap.size, 1, none⟩ = some (.int .u64 m.2) from by
      obtain ⟨h1, h2⟩ := HK.out X hX
      exact ⟨((World.cell?_of_block (Below.heap_setCell _ _ _ _ (by simp))).trans (World.cell?_of_block (Below.heap_setCell _ _ _ _ (by simp)))).trans h1, ((World.cell?_of_block (Below.heap_setCell _ _ _ _ (by simp))).trans (World.cell?_of_block (Below.heap_setCell _ _ _ _ (by simp)))).trans h2⟩)
    obtain ⟨c0, c1⟩ := HK.out w1 (Below.refl _ _)
    go_wp2
    go_region_held3 (fun X => X.cell? ⟨w.heap.size, 0, none⟩ = some (.int .u64 m.1) ∧ X.cell? ⟨w.heap.size, 1, none⟩ = some (.int .u64 m.2))
      (first | (with_reducible assumption) | (with_reducible exact HK.out _ (below_drew (Below.refl _ _))) | (with_reducible exact HK.out _ HC2.out) | (with_reducible exact HK.out _ HC3.out) | (with_reducible exact HKS.out _ _ _ HC3.out))
      (first
      | (go_at_call 29; (with_reducible refine (HSg.out w1.drew).mono ?_); rintro e w2 ⟨rfl, hb2⟩; have HC2 := Lib.hid (show Below w1.heap.size w1 w2 from (below_drew (Below.refl _ w1)).trans hb2); clear hb2)
      | (go_at_call 23; (with_reducible refine (HMi.out w2).mono ?_); rintro e w3 ⟨rfl, hb3⟩; have HC3 := Lib.hid (show Below w1.heap.size w1 w3 from HC2.out.trans (hb3.mono HC2.out.size)); clear hb3; obtain ⟨hr3, hbw3⟩ := HRR.out _ HC3.out; have r0 := hr3.cell0; have r1 := hr3.cell1; have f0 := hr3.frozen 0; have f1 := hr3.frozen 1; clear hr3 hbw3))
    obtain ⟨hr3, hbw3⟩ := HRR.out _ HC3.out
    obtain ⟨e0, e1, hbE⟩ := res2 M.1 M.2 hr3 hbw3 (by omega)
    have HBE := Lib.hid hbE
    clear hr3 hbw3 hbE
    go_wp2
    refine bodyPost_ret (v := .tuple #[.agg #[.int .u64 M.1, .int .u64 M.2], .int .i64 0]) (by simp [results, Try.results15, go_sem, e0, e1]) rfl ?_
    exact ⟨by rw [← HMd.out]; rfl, HBE.out⟩
  · rw [if_neg hx0]
    have HR := Lib.hid hR
    have HB := Lib.hid hB
    have HS := Lib.hid hs
    have HW0 := Lib.hid hW0
    have t0 : (x != 0) = true := by simpa using hx0
    clear hx hR hm0 hB hs hW0 h hn hx0
    unfold mv at *
    go_enter Try.func15, Try.ntmps15
    go_wp2_with fail
    refine (HC.out _).mono ?_
    rintro e w1 ⟨rfl, hb1⟩
    rw [show (w.alloc (.cells #[.int .u64 m.1, .int .u64 m.2] 25)).alloc (.cells #[.int .u64 0, .int .u64 0] 25) = W0 from HW0.out.symm] at hb1
    have hr1 := HR.out.below hb1 HR.out.lt
    have hbw1 := HB.out.trans (hb1.mono HB.out.size)
    rw [HS.out] at hr1
    have r0 := hr1.cell0
    have r1 := hr1.cell1
    have f0 := hr1.frozen 0
    have f1 := hr1.frozen 1
    obtain ⟨e0, e1, hbE⟩ := res2 0 0 hr1 hbw1 (by omega)
    have HBE := Lib.hid hbE
    clear hr1 hbw1 hb1 hbE
    go_wp2
    refine bodyPost_ret (v := .tuple #[.agg #[.int .u64 (0 : Nat), .int .u64 (0 : Nat)], .int .i64 x]) (by simp [results, Try.results15, go_sem] at e0 e1 ⊢; simp [e0, e1]) rfl ?_
    exact ⟨rfl, HBE.out⟩
end Go.Proofs.Ytkfgiedpnmpfgaa
