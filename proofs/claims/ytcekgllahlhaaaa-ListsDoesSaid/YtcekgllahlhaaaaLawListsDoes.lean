/-
  ListsDoes: whatever is added, removed, and put together, as the document says, or it is refused. Holds for all lists, deeds and worlds; what is more than the law goes through is answered at once.
-/
import Derived.Test.YtcekgllahlhaaaaMLisW
import Derived.Test.YtcekgllahlhaaaaLisDoes
import Derived.Test.YtcekgllahlhaaaaMLisR
import Derived.Deep.RegionHeld3
import Derived.Deep.Cut
import Derived.Deep.CutBlock
import Derived.Deep.CutRange
import Derived.BigQuiet
namespace Go.Proofs.Ytcekgllahlhaaaa.listsDoes
open Go.ChangeShapes Go.WideShapes Go.ChangeAt Go.RowKit Go.Deep Go.Shelf
open MskL (Mk Ms mv has mk Fine MRow hasB slotB ofE ofM withW mk_fine GivesM rightM region_rel3 relOf Rk fillR dep_of)
set_option linter.unusedVariables false
set_option linter.unusedSimpArgs false
set_option maxRecDepth 100000

def GX (C : List (List Int)) (M : List Mk) (E : Int) (X : World) (e : Ending) (w' : World) : Prop := ∃ A c n B d m, e = .returned (.tuple #[.agg #[.slice A n c, .slice B m d], .int .i64 E]) ∧ n = C.length ∧ m = M.length ∧ Lis w' A c C B d M ∧ Below X.heap.size X w'
theorem GX.of {C : List (List Int)} {M : List Mk} {E : Int} {X : World} {e : Ending} {w' : World} (h : GivesOE X C M E e w') : GX C M E X e w' := by
  obtain ⟨A, c, B, d, he, hl, hb⟩ := h.le
  exact ⟨A, c, _, B, d, _, he, rfl, rfl, hl, hb⟩
theorem uni_fine (C : List (List Int)) (M : List Mk) (a : List Int) : Fine (unionR C M a) := by
  unfold unionR
  split
  · exact mk_fine _
  · exact ⟨by decide, by decide⟩

set_option maxHeartbeats 16000000 in
theorem walk (A : Option Addr) (c : Nat) (C : List (List Int)) (B : Option Addr) (d : Nat) (M : List Mk) {w : World} (h : Lis w A c C B d M) (s : Int) (Av : Option Addr) (cv : Nat) (x : List Int) (As : Option Addr) (cs : Nat) (ss : List Int) (Ap : Option Addr) (cp : Nat) (ps : List Int) (hs : -9223372036854775808 ≤ s ∧ s ≤ 9223372036854775807) (hv : Vec .i32 w Av cv x) (hss : Vec .i64 w As cs ss) (hps : Vec .i64 w Ap cp ps) :
    Calls Try.prog 3 #[lv A c C.length B d M.length, .agg #[.int .i64 s, .slice Av x.length cv, .slice As ss.length cs, .slice Ap ps.length cp]] w fun e w' => e = .returned (.bool true) ∧ Below w.heap.size w w' := by
  obtain ⟨g, hg⟩ : ∃ g, g = w.heap.size := ⟨_, rfl⟩
  obtain ⟨n, hn⟩ : ∃ n, n = C.length := ⟨_, rfl⟩
  obtain ⟨m, hm⟩ : ∃ m, m = M.length := ⟨_, rfl⟩
  obtain ⟨nx, hnx⟩ : ∃ k, k = x.length := ⟨_, rfl⟩
  obtain ⟨ns, hns⟩ : ∃ k, k = ss.length := ⟨_, rfl⟩
  obtain ⟨np, hnp⟩ : ∃ k, k = ps.length := ⟨_, rfl⟩
  obtain ⟨U, hU⟩ : ∃ k, k = unionR C M ps := ⟨_, rfl⟩
  obtain ⟨W0, hW0⟩ : ∃ W0, W0 = (w.alloc (.cells #[.slice A n c, .slice B m d] 25)).alloc (.cells #[.int .i64 s, .slice Av nx cv, .slice As ns cs, .slice Ap np cp] 29) := ⟨_, rfl⟩
  have hb0 : Below w.heap.size w W0 := by rw [hW0]; exact ((Below.refl _ w).alloc (Nat.le_refl _) _).alloc (by simp) _
  have hr0 : LRow W0 g A n c B m d := by rw [hW0, hg]; exact (LRow.new w A n c B m d).below ((Below.refl _ _).alloc (Nat.le_refl _) _) (by simp)
  have hp0 : ∀ (k : Nat) (v : Value), #[Value.int .i64 s, .slice Av nx cv, .slice As ns cs, .slice Ap np cp][k]? = some v → W0.cell? ⟨g + 1, k, none⟩ = some v := fun k v hk => by
    have h1 := cell_laid (w.alloc (.cells #[.slice A n c, .slice B m d] 25)) #[Value.int .i64 s, .slice Av nx cv, .slice As ns cs, .slice Ap np cp] 29 k
    rw [World.size_alloc, ← hg, hk, ← hW0] at h1
    exact h1
  have hst : ∀ (X : World) (hX : Below W0.heap.size W0 X) (p : Addr) (v : Value), W0.cell? p = some v → X.cell? p = some v := fun X hX p v hp => (hX.cell (World.block_lt_of_cell? _ _ hp)).trans hp
  have HS := Lib.hid (fun (X : World) (hX : Below W0.heap.size W0 X) => show (X.cell? ⟨g, 0, none⟩ = some (.slice A n c) ∧ X.cell? ⟨g, 1, none⟩ = some (.slice B m d)) ∧ (X.cell? ⟨g + 1, 0, none⟩ = some (.int .i64 s) ∧ X.cell? ⟨g + 1, 1, none⟩ = some (.slice Av nx cv) ∧ X.cell? ⟨g + 1, 2, none⟩ = some (.slice As ns cs) ∧ X.cell? ⟨g + 1, 3, none⟩ = some (.slice Ap np cp)) from
    ⟨⟨(hr0.below hX hr0.lt).box.c0, (hr0.below hX hr0.lt).box.c1⟩, hst X hX _ _ (hp0 0 _ rfl), hst X hX _ _ (hp0 1 _ rfl), hst X hX _ _ (hp0 2 _ rfl), hst X hX _ _ (hp0 3 _ rfl)⟩)
  have hL := fun (X : World) (hX : Below W0.heap.size W0 X) => (h.below hb0).below hX
  have hx := fun (X : World) (hX : Below W0.heap.size W0 X) => (hv.below hb0).below hX
  have hS := fun (X : World) (hX : Below W0.heap.size W0 X) => (hss.below hb0).below hX
  have hP := fun (X : World) (hX : Below W0.heap.size W0 X) => (hps.below hb0).below hX
  have HWk := Lib.hid (wakes_any W0)
  have HOv := Lib.hid (fun (X : World) (hX : Below W0.heap.size W0 X) => overL_any A c C B d M X (hL X hX))
  have HAd := Lib.hid (fun (X : World) (hX : Below W0.heap.size W0 X) => (add_any A c C B d M s Av cv x X (hL X hX) hs (hx X hX)).mono (fun e w' hh => GX.of hh))
  have HRe := Lib.hid (fun (X : World) (hX : Below W0.heap.size W0 X) => (remove_any A c C B d M As cs ss X (hL X hX) (hS X hX)).mono (fun e w' hh => GX.of hh))
  have HUn := Lib.hid (fun (X : World) (hX : Below W0.heap.size W0 X) => show Calls Try.prog 9 #[lv A c C.length B d M.length, .slice Ap ps.length cp] X (fun e w' => e = .returned (.tuple #[.agg #[.int .u64 U.1, .int .u64 U.2], .int .i64 (unionE C M ps)]) ∧ Below X.heap.size X w') from by rw [hU]; exact union_any A c C B d M Ap cp ps X (hL X hX) (hP X hX))
  have HRi := Lib.hid (fun (X : World) (hX : Below W0.heap.size W0 X) => rRightL_any A c C B d M X (hL X hX))
  have HSa := Lib.hid (fun (X : World) (A1 A2 : Option Addr) (c1 c2 : Nat) (C1 C2 : List (List Int)) (B1 B2 : Option Addr) (d1 d2 : Nat) (M1 M2 : List Mk) (h1 : Lis X A1 c1 C1 B1 d1 M1) (h2 : Lis X A2 c2 C2 B2 d2 M2) => rSameL_any A1 A2 c1 c2 C1 C2 B1 B2 d1 d2 M1 M2 X h1 h2)
  have HSl := Lib.hid (fun (k : Int) (X : World) => show Calls Try.prog 12 #[.int .i64 k] X (fun e w' => e = .returned (.bool (slotB k)) ∧ Below X.heap.size X w') from (MskL.rSlot_any k X).mono (fun e w' hh => ⟨hh.1, hh.2 ▸ Below.refl _ _⟩))
  have HWr := Lib.hid (fun (X : World) (hX : Below W0.heap.size W0 X) => rWhereL_any A c C B d M s X (hL X hX) hs)
  have HRv := Lib.hid (fun (X : World) (hX : Below W0.heap.size W0 X) => show Calls Try.prog 14 #[.slice Av x.length cv] X (fun e w' => e = .returned (.bool (right x)) ∧ Below X.heap.size X w') from (rRight_any Av cv x X (hx X hX)).mono (fun e w' hh => ⟨hh.1, hh.2 ▸ Below.refl _ _⟩))
  have HLi := Lib.hid hL
  have HVs := Lib.hid hS
  have HVp := Lib.hid hP
  have HVx := Lib.hid hx
  have HSt := Lib.hid hst
  have HB0 := Lib.hid hb0
  have HW0 := Lib.hid hW0
  have HG := Lib.hid hg
  have HN := Lib.hid hn
  have HM := Lib.hid hm
  have HNx := Lib.hid hnx
  have HNs := Lib.hid hns
  have HNp := Lib.hid hnp
  have HUe := Lib.hid hU
  have HUf := Lib.hid (show Fine U by rw [hU]; exact uni_fine _ _ _)
  have HBad := Lib.hid (fun (hh : okB C M = false) => does_bad hh s x ss ps)
  have HOut := Lib.hid (fun (E : Int) (hE : E ≠ 0) (L : List Mk) => show ifC E C = [] ∧ ifM E L = [] from ⟨by unfold ifC; rw [if_neg hE], by unfold ifM; rw [if_neg hE]⟩)
  have HIn := Lib.hid (fun (L : List Mk) => show ifC 0 C = C ∧ ifM 0 L = L from ⟨by unfold ifC; rw [if_pos rfl], by unfold ifM; rw [if_pos rfl]⟩)
  rw [← hn, ← hm] at HOv HAd HRe HUn HRi HWr ⊢
  rw [← hnx] at HAd HRv ⊢
  rw [← hns] at HRe ⊢
  rw [← hnp] at HUn ⊢
  generalize hov : overL C M = OV at *
  obtain ⟨E1, hE1⟩ : ∃ E, E = addE C M s x := ⟨_, rfl⟩
  obtain ⟨E2, hE2⟩ : ∃ E, E = remE C M ss := ⟨_, rfl⟩
  obtain ⟨E3, hE3⟩ : ∃ E, E = unionE C M ps := ⟨_, rfl⟩
  obtain ⟨CC1, hC1⟩ : ∃ X, X = ifC E1 C := ⟨_, rfl⟩
  obtain ⟨MM1, hM1⟩ : ∃ X, X = ifM E1 (addM C M s x) := ⟨_, rfl⟩
  obtain ⟨CC2, hC2⟩ : ∃ X, X = ifC E2 C := ⟨_, rfl⟩
  obtain ⟨MM2, hM2⟩ : ∃ X, X = ifM E2 (remM M ss) := ⟨_, rfl⟩
  rw [← hE1, ← hC1, ← hM1] at HAd
  rw [← hE2, ← hC2, ← hM2] at HRe
  rw [← hE3] at HUn
  have HE1 := Lib.hid hE1
  have HE2 := Lib.hid hE2
  have HE3 := Lib.hid hE3
  have HC1 := Lib.hid hC1
  have HM1 := Lib.hid hM1
  have HC2 := Lib.hid hC2
  have HM2 := Lib.hid hM2
  obtain ⟨⟨a0, a1⟩, a2, a3, a4, a5⟩ := HS.out W0 (Below.refl _ _)
  clear h hs hv hss hps hg hn hm hnx hns hnp hU hb0 hr0 hp0 hst hL hx hS hP hW0 hov hE1 hE2 hE3 hC1 hM1 hC2 hM2
  unfold lv at *
  go_enter Try.func3, Try.ntmps3
  go_wp2_with (rw [← HW0.out, ← HG.out])
  refine HWk.out.mono ?_
  rintro e w1 ⟨rfl, hb1⟩
  obtain ⟨⟨b0, b1⟩, b2, b3, b4, b5⟩ := HS.out w1 hb1
  have HB1 := Lib.hid hb1
  clear hb1 a0 a1 a2 a3 a4 a5
  go_wp2_with fail
  refine (HOv.out w1 HB1.out).mono ?_
  rintro e w2 ⟨rfl, hb2⟩
  have HB2 := Lib.hid (below_tr HB1.out hb2)
  obtain ⟨⟨a0, a1⟩, a2, a3, a4, a5⟩ := HS.out w2 HB2.out
  clear hb2 b0 b1 b2 b3 b4 b5
  cases OV with
  | true =>
    go_wp2
    go_ret
    exact ⟨by first | rfl | simp, below_tr HB0.out HB2.out⟩
  | false =>
    by_cases h1 : 50 < nx
    · have v1 : decide ((50 : Int) < (nx : Int)) = true := decide_eq_true (by omega)
      have v2 : decide (50 < nx) = true := decide_eq_true h1
      go_wp2
      go_ret
      exact ⟨by first | rfl | simp, below_tr HB0.out HB2.out⟩
    have v1 : decide ((50 : Int) < (nx : Int)) = false := decide_eq_false (by omega)
    have v2 : decide (50 < nx) = false := decide_eq_false h1
    by_cases h2 : 120 < ns
    · have v3 : decide ((120 : Int) < (ns : Int)) = true := decide_eq_true (by omega)
      have v4 : decide (120 < ns) = true := decide_eq_true h2
      go_wp2
      go_ret
      exact ⟨by first | rfl | simp, below_tr HB0.out HB2.out⟩
    have v3 : decide ((120 : Int) < (ns : Int)) = false := decide_eq_false (by omega)
    have v4 : decide (120 < ns) = false := decide_eq_false h2
    by_cases h3 : 40 < np
    · have v5 : decide ((40 : Int) < (np : Int)) = true := decide_eq_true (by omega)
      have v6 : decide (40 < np) = true := decide_eq_true h3
      go_wp2
      go_ret
      exact ⟨by first | rfl | simp, below_tr HB0.out HB2.out⟩
    have v5 : decide ((40 : Int) < (np : Int)) = false := decide_eq_false (by omega)
    have v6 : decide (40 < np) = false := decide_eq_false h3
    go_wp2_with fail
    refine (HAd.out w2 HB2.out).mono ?_
    rintro e w5 ⟨A1, c1, n1, B1, d1, m1, rfl, hn1, hm1, hl1, hb5⟩
    obtain ⟨p5, hp5⟩ : ∃ p, p = w5.heap.size := ⟨_, rfl⟩
    obtain ⟨V5, hV5⟩ : ∃ V, V = w5.alloc (.cells #[.slice A1 n1 c1, .slice B1 m1 d1] 25) := ⟨_, rfl⟩
    obtain ⟨hx5, hbV5⟩ := lbox w5 A1 n1 c1 B1 m1 d1
    rw [← hV5] at hx5 hbV5
    rw [← hp5] at hx5
    have HL1 := Lib.hid (fun (X : World) (hX : Below V5.heap.size V5 X) => show Lis X A1 c1 CC1 B1 d1 MM1 from (hl1.below hbV5).below hX)
    have HBs5 := Lib.hid (below_tr hb5 hbV5)
    have HB5 := Lib.hid (below_tr HB2.out HBs5.out)
    have HN1 := Lib.hid hn1
    have HMn1 := Lib.hid hm1
    have HS5 := Lib.hid (fun (X : World) (hX : Below V5.heap.size V5 X) => show ((X.cell? ⟨g, 0, none⟩ = some (.slice A n c) ∧ X.cell? ⟨g, 1, none⟩ = some (.slice B m d)) ∧ (X.cell? ⟨g + 1, 0, none⟩ = some (.int .i64 s) ∧ X.cell? ⟨g + 1, 1, none⟩ = some (.slice Av nx cv) ∧ X.cell? ⟨g + 1, 2, none⟩ = some (.slice As ns cs) ∧ X.cell? ⟨g + 1, 3, none⟩ = some (.slice Ap np cp))) ∧ (X.cell? ⟨p5, 0, none⟩ = some (.slice A1 n1 c1) ∧ X.cell? ⟨p5, 1, none⟩ = some (.slice B1 m1 d1)) from ⟨HS.out X (below_tr HB5.out hX), (hx5.below hX hx5.lt).c0, (hx5.below hX hx5.lt).c1⟩)
    obtain ⟨⟨⟨b0, b1⟩, b2, b3, b4, b5⟩, b6, b7⟩ := HS5.out V5 (Below.refl _ _)
    obtain ⟨⟨⟨k0, k1⟩, k2, k3, k4, k5⟩, k6, k7⟩ := HS5.out (w5.alloc (.cells #[.slice A1 n1 c1, .slice B1 m1 d1] 25)) (by rw [← hV5]; exact Below.refl _ _)
    have HV5 := Lib.hid hV5
    have HP5 := Lib.hid hp5
    clear hn1 hm1 hl1 hb5 hp5 hV5 hx5 hbV5 a0 a1 a2 a3 a4 a5
    go_wp2_with fail
    rw [← HV5.out, ← HP5.out]
    clear k0 k1 k2 k3 k4 k5 k6 k7
    refine (HRe.out V5 HB5.out).mono ?_
    rintro e w7 ⟨A2, c2, n2, B2, d2, m2, rfl, hn2, hm2, hl2, hb7⟩
    obtain ⟨p7, hp7⟩ : ∃ p, p = w7.heap.size := ⟨_, rfl⟩
    obtain ⟨V7, hV7⟩ : ∃ V, V = w7.alloc (.cells #[.slice A2 n2 c2, .slice B2 m2 d2] 25) := ⟨_, rfl⟩
    obtain ⟨hx7, hbV7⟩ := lbox w7 A2 n2 c2 B2 m2 d2
    rw [← hV7] at hx7 hbV7
    rw [← hp7] at hx7
    have HL2 := Lib.hid (fun (X : World) (hX : Below V7.heap.size V7 X) => show Lis X A2 c2 CC2 B2 d2 MM2 from (hl2.below hbV7).below hX)
    have HBs7 := Lib.hid (below_tr hb7 hbV7)
    have HB7 := Lib.hid (below_tr HB5.out HBs7.out)
    have HN2 := Lib.hid hn2
    have HMn2 := Lib.hid hm2
    have HS7 := Lib.hid (fun (X : World) (hX : Below V7.heap.size V7 X) => show (((X.cell? ⟨g, 0, none⟩ = some (.slice A n c) ∧ X.cell? ⟨g, 1, none⟩ = some (.slice B m d)) ∧ (X.cell? ⟨g + 1, 0, none⟩ = some (.int .i64 s) ∧ X.cell? ⟨g + 1, 1, none⟩ = some (.slice Av nx cv) ∧ X.cell? ⟨g + 1, 2, none⟩ = some (.slice As ns cs) ∧ X.cell? ⟨g + 1, 3, none⟩ = some (.slice Ap np cp))) ∧ (X.cell? ⟨p5, 0, none⟩ = some (.slice A1 n1 c1) ∧ X.cell? ⟨p5, 1, none⟩ = some (.slice B1 m1 d1))) ∧ (X.cell? ⟨p7, 0, none⟩ = some (.slice A2 n2 c2) ∧ X.cell? ⟨p7, 1, none⟩ = some (.slice B2 m2 d2)) from ⟨HS5.out X (below_tr HBs7.out hX), (hx7.below hX hx7.lt).c0, (hx7.below hX hx7.lt).c1⟩)
    obtain ⟨⟨⟨⟨a0, a1⟩, a2, a3, a4, a5⟩, a6, a7⟩, a8, a9⟩ := HS7.out V7 (Below.refl _ _)
    obtain ⟨⟨⟨⟨k0, k1⟩, k2, k3, k4, k5⟩, k6, k7⟩, k8, k9⟩ := HS7.out (w7.alloc (.cells #[.slice A2 n2 c2, .slice B2 m2 d2] 25)) (by rw [← hV7]; exact Below.refl _ _)
    have HV7 := Lib.hid hV7
    have HP7 := Lib.hid hp7
    clear hn2 hm2 hl2 hb7 hp7 hV7 hx7 hbV7 b0 b1 b2 b3 b4 b5 b6 b7
    go_wp2_with fail
    rw [← HV7.out, ← HP7.out]
    clear k0 k1 k2 k3 k4 k5 k6 k7 k8 k9
    refine (HUn.out V7 HB7.out).mono ?_
    rintro e w9 ⟨rfl, hb9⟩
    obtain ⟨p9, hp9⟩ : ∃ p, p = w9.heap.size := ⟨_, rfl⟩
    obtain ⟨V9, hV9⟩ : ∃ V, V = w9.alloc (.cells #[.int .u64 U.1, .int .u64 U.2] 38) := ⟨_, rfl⟩
    obtain ⟨hbV9, hx9⟩ := MskL.mbox_world w9 U
    rw [← hV9] at hx9 hbV9
    rw [← hp9] at hx9
    have HBs9 := Lib.hid (below_tr hb9 hbV9)
    have HB9 := Lib.hid (below_tr HB7.out HBs9.out)
    have HS9 := Lib.hid (fun (X : World) (hX : Below V9.heap.size V9 X) => show ((((X.cell? ⟨g, 0, none⟩ = some (.slice A n c) ∧ X.cell? ⟨g, 1, none⟩ = some (.slice B m d)) ∧ (X.cell? ⟨g + 1, 0, none⟩ = some (.int .i64 s) ∧ X.cell? ⟨g + 1, 1, none⟩ = some (.slice Av nx cv) ∧ X.cell? ⟨g + 1, 2, none⟩ = some (.slice As ns cs) ∧ X.cell? ⟨g + 1, 3, none⟩ = some (.slice Ap np cp))) ∧ (X.cell? ⟨p5, 0, none⟩ = some (.slice A1 n1 c1) ∧ X.cell? ⟨p5, 1, none⟩ = some (.slice B1 m1 d1))) ∧ (X.cell? ⟨p7, 0, none⟩ = some (.slice A2 n2 c2) ∧ X.cell? ⟨p7, 1, none⟩ = some (.slice B2 m2 d2))) ∧ (X.cell? ⟨p9, 0, none⟩ = some (.int .u64 U.1) ∧ X.cell? ⟨p9, 1, none⟩ = some (.int .u64 U.2)) from ⟨HS7.out X (below_tr HBs9.out hX), (hx9.below hX hx9.lt).cell0, (hx9.below hX hx9.lt).cell1⟩)
    obtain ⟨⟨⟨⟨⟨b0, b1⟩, b2, b3, b4, b5⟩, b6, b7⟩, b8, b9⟩, b10, b11⟩ := HS9.out V9 (Below.refl _ _)
    obtain ⟨⟨⟨⟨⟨k0, k1⟩, k2, k3, k4, k5⟩, k6, k7⟩, k8, k9⟩, k10, k11⟩ := HS9.out (w9.alloc (.cells #[.int .u64 U.1, .int .u64 U.2] 38)) (by rw [← hV9]; exact Below.refl _ _)
    have HV9 := Lib.hid hV9
    have HP9 := Lib.hid hp9
    clear hb9 hp9 hV9 hx9 hbV9 a0 a1 a2 a3 a4 a5 a6 a7 a8 a9
    obtain ⟨p11, hp11⟩ : ∃ p, p = V9.heap.size := ⟨_, rfl⟩
    obtain ⟨V11, hV11⟩ : ∃ V, V = V9.alloc (.cells #[.slice none 0 0, .slice none 0 0] 25) := ⟨_, rfl⟩
    obtain ⟨hx11, hbV11⟩ := lbox V9 none 0 0 none 0 0
    rw [← hV11] at hx11 hbV11
    rw [← hp11] at hx11
    have HBs11 := Lib.hid hbV11
    have HB11 := Lib.hid (below_tr HB9.out hbV11)
    have HS11 := Lib.hid (fun (X : World) (hX : Below V11.heap.size V11 X) => show (((((X.cell? ⟨g, 0, none⟩ = some (.slice A n c) ∧ X.cell? ⟨g, 1, none⟩ = some (.slice B m d)) ∧ (X.cell? ⟨g + 1, 0, none⟩ = some (.int .i64 s) ∧ X.cell? ⟨g + 1, 1, none⟩ = some (.slice Av nx cv) ∧ X.cell? ⟨g + 1, 2, none⟩ = some (.slice As ns cs) ∧ X.cell? ⟨g + 1, 3, none⟩ = some (.slice Ap np cp))) ∧ (X.cell? ⟨p5, 0, none⟩ = some (.slice A1 n1 c1) ∧ X.cell? ⟨p5, 1, none⟩ = some (.slice B1 m1 d1))) ∧ (X.cell? ⟨p7, 0, none⟩ = some (.slice A2 n2 c2) ∧ X.cell? ⟨p7, 1, none⟩ = some (.slice B2 m2 d2))) ∧ (X.cell? ⟨p9, 0, none⟩ = some (.int .u64 U.1) ∧ X.cell? ⟨p9, 1, none⟩ = some (.int .u64 U.2))) ∧ (X.cell? ⟨p11, 0, none⟩ = some (.slice none 0 0) ∧ X.cell? ⟨p11, 1, none⟩ = some (.slice none 0 0)) from ⟨HS9.out X (below_tr HBs11.out hX), (hx11.below hX hx11.lt).c0, (hx11.below hX hx11.lt).c1⟩)
    obtain ⟨⟨⟨⟨⟨⟨a0, a1⟩, a2, a3, a4, a5⟩, a6, a7⟩, a8, a9⟩, a10, a11⟩, a12, a13⟩ := HS11.out V11 (Below.refl _ _)
    have HZ11 := Lib.hid (show V9.heap.size = p9 + 1 by rw [HV9.out, HP9.out]; exact World.size_alloc _ _)
    have HV11 := Lib.hid hV11
    have HP11 := Lib.hid hp11
    have HLn := Lib.hid (fun (X : World) (hX : Below V11.heap.size V11 X) => show Lis X A1 c1 CC1 B1 d1 MM1 ∧ Lis X A2 c2 CC2 B2 d2 MM2 from ⟨HL1.out X (below_tr HBs7.out (below_tr HBs9.out (below_tr HBs11.out hX))), HL2.out X (below_tr HBs9.out (below_tr HBs11.out hX))⟩)
    have HNil1 := Lib.hid (fun (h1 : CC1 = []) (h2 : MM1 = []) (X : World) (hX : Below V11.heap.size V11 X) => show Calls Try.prog 11 #[.agg #[.slice A1 n1 c1, .slice B1 m1 d1], .agg #[.slice none 0 0, .slice none 0 0]] X (fun e w' => e = .returned (.bool true) ∧ Below X.heap.size X w') from by
      have := HSa.out X A1 none c1 0 CC1 [] B1 none d1 0 MM1 [] (HLn.out X hX).1 (Lis.nil X)
      rw [← HN1.out, ← HMn1.out, decide_eq_true h1, decide_eq_true h2] at this
      exact this)
    have HNil2 := Lib.hid (fun (h1 : CC2 = []) (h2 : MM2 = []) (X : World) (hX : Below V11.heap.size V11 X) => show Calls Try.prog 11 #[.agg #[.slice A2 n2 c2, .slice B2 m2 d2], .agg #[.slice none 0 0, .slice none 0 0]] X (fun e w' => e = .returned (.bool true) ∧ Below X.heap.size X w') from by
      have := HSa.out X A2 none c2 0 CC2 [] B2 none d2 0 MM2 [] (HLn.out X hX).2 (Lis.nil X)
      rw [← HN2.out, ← HMn2.out, decide_eq_true h1, decide_eq_true h2] at this
      exact this)
    clear hx11 hbV11 hp11 hV11
    have HQ11 := Lib.hid (show p11 = p9 + 1 by rw [HP11.out, HZ11.out])
    obtain ⟨⟨⟨⟨⟨⟨m0, m1⟩, m2, m3, m4, m5⟩, m6, m7⟩, m8, m9⟩, m10, m11⟩, m12, m13⟩ := HS11.out ((w9.alloc (.cells #[.int .u64 U.1, .int .u64 U.2] 38)).alloc (.cells #[.slice none 0 0, .slice none 0 0] 25)) (by rw [← HV9.out, ← HV11.out]; exact Below.refl _ _)
    clear k0 k1 k2 k3 k4 k5 k6 k7 k8 k9 k10 k11 b0 b1 b2 b3 b4 b5 b6 b7 b8 b9 b10 b11
    go_wp2_with fail
    rw [← HV9.out, ← HV11.out, ← HP9.out, ← HQ11.out]
    clear m0 m1 m2 m3 m4 m5 m6 m7 m8 m9 m10 m11 m12 m13
    refine (HRi.out V11 HB11.out).mono ?_
    rintro e w12 ⟨rfl, hb12⟩
    have HB12 := Lib.hid hb12
    obtain ⟨⟨⟨⟨⟨⟨b0, b1⟩, b2, b3, b4, b5⟩, b6, b7⟩, b8, b9⟩, b10, b11⟩, b12, b13⟩ := HS11.out w12 HB12.out
    clear hb12 a0 a1 a2 a3 a4 a5 a6 a7 a8 a9 a10 a11 a12 a13
    cases hok : okB C M with
    | false =>
      obtain ⟨e1, e2, e3, e4⟩ := HBad.out hok
      rw [← HE1.out] at e1
      rw [← HE2.out] at e2
      rw [← HE3.out] at e3
      rw [← HUe.out] at e4
      have hU1 : U.1 = 0 ∧ U.2 = 0 := by rw [e4]; exact ⟨rfl, rfl⟩
      have HZ1 := Lib.hid (HNil1.out (by rw [HC1.out]; exact (HOut.out E1 (by rw [e1]; decide) []).1) (by rw [HM1.out]; exact (HOut.out E1 (by rw [e1]; decide) _).2))
      have HZ2 := Lib.hid (HNil2.out (by rw [HC2.out]; exact (HOut.out E2 (by rw [e2]; decide) []).1) (by rw [HM2.out]; exact (HOut.out E2 (by rw [e2]; decide) _).2))
      have hq : ∀ W, (Op.equalIn 10000 38 (.agg #[.int .u64 (U.1 : Nat), .int .u64 (U.2 : Nat)]) (.agg #[.int .u64 0, .int .u64 0])).run Try.prog W = .ok true W := fun W => by
        rw [hU1.1, hU1.2]; exact MskL.eqM0 0 0 0 0 W
      have Hq := Lib.hid hq
      have HE := Lib.hid (And.intro e1 (And.intro e2 e3))
      clear e1 e2 e3 e4 hU1 hok hq
      obtain ⟨e1, e2, e3⟩ := HE.out
      subst e1 e2 e3
      go_wp2_with fail
      refine (HZ1.out w12 HB12.out).mono ?_
      rintro e w13 ⟨rfl, hb13⟩
      have HB13 := Lib.hid (below_tr HB12.out hb13)
      obtain ⟨⟨⟨⟨⟨⟨a0, a1⟩, a2, a3, a4, a5⟩, a6, a7⟩, a8, a9⟩, a10, a11⟩, a12, a13⟩ := HS11.out w13 HB13.out
      clear hb13 b0 b1 b2 b3 b4 b5 b6 b7 b8 b9 b10 b11 b12 b13
      go_wp2_with fail
      refine (HZ2.out w13 HB13.out).mono ?_
      rintro e w14 ⟨rfl, hb14⟩
      have HB14 := Lib.hid (below_tr HB13.out hb14)
      obtain ⟨⟨⟨⟨⟨⟨b0, b1⟩, b2, b3, b4, b5⟩, b6, b7⟩, b8, b9⟩, b10, b11⟩, b12, b13⟩ := HS11.out w14 HB14.out
      clear hb14 a0 a1 a2 a3 a4 a5 a6 a7 a8 a9 a10 a11 a12 a13
      have hq := Hq.out
      go_wp2
      go_ret
      exact ⟨by first | rfl | simp, below_tr HB0.out (below_tr HB11.out HB14.out)⟩
    | true =>
      have HOk := Lib.hid hok
      have HMl := Lib.hid (show m ≤ 6 by obtain ⟨h1, _, h3, _⟩ := okB_iff hok; rw [HM.out]; omega)
      obtain ⟨p12, hp12⟩ : ∃ p, p = w12.heap.size := ⟨_, rfl⟩
      obtain ⟨V12, hV12⟩ : ∃ V, V = w12.alloc (.cells #[.slice A n c, .slice B m d] 25) := ⟨_, rfl⟩
      have hr12 : LRow V12 p12 A n c B m d := by rw [hV12, hp12]; exact LRow.new _ _ _ _ _ _ _
      have hbV12 : Below w12.heap.size w12 V12 := by rw [hV12]; exact (Below.refl _ _).alloc (Nat.le_refl _) _
      have HR12 := Lib.hid (fun (X : World) (hX : Below V12.heap.size V12 X) => show LRow X p12 A n c B m d from hr12.below hX hr12.lt)
      have HBV12 := Lib.hid (below_tr HB12.out hbV12)
      have HLo := Lib.hid (show V11.heap.size ≤ p12 by rw [hp12]; exact HB12.out.size)
      obtain ⟨⟨⟨⟨⟨⟨a0, a1⟩, a2, a3, a4, a5⟩, a6, a7⟩, a8, a9⟩, a10, a11⟩, a12, a13⟩ := HS11.out V12 HBV12.out
      obtain ⟨⟨⟨⟨⟨⟨k0, k1⟩, k2, k3, k4, k5⟩, k6, k7⟩, k8, k9⟩, k10, k11⟩, k12, k13⟩ := HS11.out (w12.alloc (.cells #[.slice A n c, .slice B m d] 25)) (by rw [← hV12]; exact HBV12.out)
      have HV12 := Lib.hid hV12
      have HP12 := Lib.hid hp12
      clear hr12 hbV12 hp12 hV12
      go_upto_block 0 with fail
      rw [← HV12.out, ← HP12.out]
      clear k0 k1 k2 k3 k4 k5 k6 k7 k8 k9 k10 k11 k12 k13 b0 b1 b2 b3 b4 b5 b6 b7 b8 b9 b10 b11 b12 b13
      go_cut [13] from 94 to 134 (fun v wx => v = .int .i64 E1 ∧ Hid (∃ B9 d9 M9, LRow wx p12 A n c B9 m d9 ∧ Ms wx B9 d9 M9 ∧ M9.length = m ∧ (E1 = 0 → CC1 = C ∧ MM1 = M9) ∧ Below V11.heap.size V11 wx))
      case first =>
        go_wp2_with fail
        refine (HSl.out s V12).mono ?_
        rintro e w15 ⟨rfl, hb15⟩
        have HB15 := Lib.hid hb15
        obtain ⟨⟨⟨⟨⟨⟨b0, b1⟩, b2, b3, b4, b5⟩, b6, b7⟩, b8, b9⟩, b10, b11⟩, b12, b13⟩ := HS11.out w15 (below_tr HBV12.out HB15.out)
        clear hb15 a0 a1 a2 a3 a4 a5 a6 a7 a8 a9 a10 a11 a12 a13
        cases hsl : slotB s with
        | false =>
          have he : E1 = 2 := by rw [HE1.out]; exact add_slot hok (.inl hsl)
          clear b0 b1 b2 b3 b4 b5 b6 b7 b8 b9 b10 b11 b12 b13
          subst he
          go_wp2_with fail
          go_meet
          case rel => exact ⟨rfl, Lib.hid ⟨B, d, M, HR12.out w15 HB15.out, (HLi.out w15 (below_tr HB11.out (below_tr HBV12.out HB15.out))).ms, HM.out.symm, fun h => absurd h (by decide), below_tr HBV12.out HB15.out⟩⟩
        | true =>
          go_wp2_with fail
          refine (HWr.out w15 (below_tr HB11.out (below_tr HBV12.out HB15.out))).mono ?_
          rintro e w16 ⟨rfl, hb16⟩
          have HB16 := Lib.hid (below_tr HB15.out hb16)
          obtain ⟨⟨⟨⟨⟨⟨a0, a1⟩, a2, a3, a4, a5⟩, a6, a7⟩, a8, a9⟩, a10, a11⟩, a12, a13⟩ := HS11.out w16 (below_tr HBV12.out HB16.out)
          clear hb16 b0 b1 b2 b3 b4 b5 b6 b7 b8 b9 b10 b11 b12 b13
          obtain ⟨⟨⟨⟨⟨⟨b0, b1⟩, b2, b3, b4, b5⟩, b6, b7⟩, b8, b9⟩, b10, b11⟩, b12, b13⟩ := HS11.out w16 (below_tr HBV12.out HB16.out)
          clear a0 a1 a2 a3 a4 a5 a6 a7 a8 a9 a10 a11 a12 a13
          by_cases hK : 0 ≤ whereK M s
          · have q1 : decide ((0 : Int) ≤ whereK M s) = true := decide_eq_true hK
            have hKK := hK
            have he : E1 = 2 := by rw [HE1.out]; exact add_slot hok (.inr hKK)
            clear b0 b1 b2 b3 b4 b5 b6 b7 b8 b9 b10 b11 b12 b13
            subst he
            go_wp2_with fail
            go_meet
            case rel => exact ⟨rfl, Lib.hid ⟨B, d, M, HR12.out w16 HB16.out, (HLi.out w16 (below_tr HB11.out (below_tr HBV12.out HB16.out))).ms, HM.out.symm, fun h => absurd h (by decide), below_tr HBV12.out HB16.out⟩⟩
          · have q1 : decide ((0 : Int) ≤ whereK M s) = false := decide_eq_false hK
            go_wp2_with fail
            refine (HRv.out w16 (below_tr HB11.out (below_tr HBV12.out HB16.out))).mono ?_
            rintro e w17 ⟨rfl, hb17⟩
            have HB17 := Lib.hid (below_tr HB16.out hb17)
            obtain ⟨⟨⟨⟨⟨⟨a0, a1⟩, a2, a3, a4, a5⟩, a6, a7⟩, a8, a9⟩, a10, a11⟩, a12, a13⟩ := HS11.out w17 (below_tr HBV12.out HB17.out)
            clear hb17 b0 b1 b2 b3 b4 b5 b6 b7 b8 b9 b10 b11 b12 b13
            cases hrx : right x with
            | false =>
              obtain ⟨⟨⟨⟨⟨⟨b0, b1⟩, b2, b3, b4, b5⟩, b6, b7⟩, b8, b9⟩, b10, b11⟩, b12, b13⟩ := HS11.out w17 (below_tr HBV12.out HB17.out)
              clear a0 a1 a2 a3 a4 a5 a6 a7 a8 a9 a10 a11 a12 a13
              have he : E1 = 150 := by rw [HE1.out]; exact add_vec hok hsl (by omega) hrx
              clear b0 b1 b2 b3 b4 b5 b6 b7 b8 b9 b10 b11 b12 b13
              subst he
              go_wp2_with fail
              go_meet
              case rel => exact ⟨rfl, Lib.hid ⟨B, d, M, HR12.out w17 HB17.out, (HLi.out w17 (below_tr HB11.out (below_tr HBV12.out HB17.out))).ms, HM.out.symm, fun h => absurd h (by decide), below_tr HBV12.out HB17.out⟩⟩
            | true =>
              by_cases h0 : n = 0
              · have hcl : C.length = 0 := by rw [← HN.out]; exact h0
                have hin := add_none (C := C) (M := M) (s := s) (v := x) hok hsl (by omega) hrx hcl
                have he : E1 = 0 := by rw [HE1.out]; exact hin.1
                have HJ := Lib.hid (show CC1 = C ∧ MM1 = M from ⟨by rw [HC1.out, he]; exact (HIn.out []).1, by rw [HM1.out, he, hin.2]; exact (HIn.out _).2⟩)
                have j0 : ((n : Int) == 0) = true := by simp [h0]
                have j1 : (n == 0) = true := by simp [h0]
                subst he
                clear hin hcl h0
                go_wp2_with fail
                go_meet
                case rel => exact ⟨rfl, Lib.hid ⟨B, d, M, HR12.out w17 HB17.out, (HLi.out w17 (below_tr HB11.out (below_tr HBV12.out HB17.out))).ms, HM.out.symm, fun _ => HJ.out, below_tr HBV12.out HB17.out⟩⟩
              · have j0 : ((n : Int) == 0) = false := by simp; omega
                have j1 : (n == 0) = false := by simp; omega
                have hcl : C.length ≠ 0 := by rw [← HN.out]; exact h0
                obtain ⟨bc, oc, rfl, hbc, hrow⟩ := (HLi.out W0 (Below.refl _ _)).cs.rd (by omega)
                obtain ⟨Ad, cd, hcell, _⟩ := hrow 0 (C.getD 0 []) (by simp [List.getD, List.getElem?_eq_getElem (show 0 < C.length by omega)])
                obtain ⟨DM, hDM⟩ : ∃ k, k = dimC C := ⟨_, rfl⟩
                have hcell2 : W0.cell? ⟨bc, oc, none⟩ = some (.slice Ad DM cd) := by rw [hDM]; exact hcell
                have HRd := Lib.hid (fun (X : World) (hX : Below w17.heap.size w17 X) => show X.cell? ⟨g + 1, 1, none⟩ = some (.slice Av nx cv) ∧ X.cell? ⟨g, 0, none⟩ = some (.slice (some ⟨bc, oc, none⟩) n c) ∧ X.cell? ⟨bc, oc, none⟩ = some (.slice Ad DM cd) from by
                  have h1 := below_tr HBV12.out (below_tr HB17.out hX)
                  have h2 := HS.out X (below_tr HB11.out h1)
                  exact ⟨h2.2.2.1, h2.1.1, HSt.out X (below_tr HB11.out h1) _ _ hcell2⟩)
                have HDM := Lib.hid hDM
                have j2 : 0 < n := by omega
                have j3 : (0 : Int) < (n : Int) := by omega
                clear hcell hcell2 hrow hbc hDM
                by_cases hd : nx = DM
                · have r1 : ((nx : Int) != (DM : Int)) = false := by simp [hd]
                  have r2 : (nx != DM) = false := by simp [hd]
                  have HDD := Lib.hid hd
                  clear hd
                  go_upto_region 18 with fail
                  refine MskL.region_quiet (fun X => Below w17.heap.size w17 X) (by kernel_rfl) (by kernel_rfl) (below_drew (Below.refl _ _)) ?_
                  repeat (first | go_big_quiet_skip | (go_big_quiet_want; go_big_quiet_op; first | go_big_quiet_on | (refine ⟨_, fun _ _ => rfl, ?_⟩; go_big_quiet_on) | (apply Exists.intro; refine ⟨fun W hW => ?_, ?_⟩; (focus (obtain ⟨z0, z1, z2⟩ := HRd.out W hW; simp only [Result.andThen, z0, z1, z2]; exact ⟨trivial, rfl⟩)); go_big_quiet_on)))
                  refine wpQuiet_nil ?_
                  intro w18 hq
                  have HB18 := Lib.hid (below_tr HB17.out hq)
                  obtain ⟨⟨⟨⟨⟨⟨b0, b1⟩, b2, b3, b4, b5⟩, b6, b7⟩, b8, b9⟩, b10, b11⟩, b12, b13⟩ := HS11.out w18 (below_tr HBV12.out HB18.out)
                  clear hq a0 a1 a2 a3 a4 a5 a6 a7 a8 a9 a10 a11 a12 a13
                  have hd := HDD.out
                  obtain ⟨k, rfl, hk96⟩ : ∃ k : Nat, s = (k : Int) ∧ k < 96 := by
                    unfold slotB at hsl
                    simp at hsl
                    exact ⟨s.toNat, by omega, by omega⟩
                  have hin := add_in (C := C) (M := M) (s := (k : Int)) (v := x) hok hsl (by omega) hrx hcl (by rw [← HNx.out, ← HDM.out]; exact hd)
                  have he : E1 = 0 := by rw [HE1.out]; exact hin.1
                  obtain ⟨P, hPd⟩ : ∃ P, P = nearM C x := ⟨_, rfl⟩
                  have hPn : P < C.length := by rw [hPd]; exact nearF_lt _ _ (by omega)
                  obtain ⟨h1', h2', h3', h4'⟩ := okB_iff hok
                  have hMs : rightM (M.getD P mz) = true := apTo_right h4' (by rw [h3']; exact hPn)
                  have hMw : M.set P (withW (M.getD P mz) k) = addM C M (k : Int) x := by rw [hin.2, ← hPd, MskL.withW_right hMs hk96]
                  obtain ⟨MA, hMA⟩ : ∃ L, L = addM C M (k : Int) x := ⟨_, rfl⟩
                  rw [← hMA] at hMw
                  have hMAl : MA.length = m := by rw [← hMw, List.length_set, ← HM.out]
                  have HNr := Lib.hid (fun (X : World) (hX : Below V11.heap.size V11 X) => show Calls Try.prog 16 #[.slice (some ⟨bc, oc, none⟩) n c, .slice Av nx cv] X (fun e w' => e = .returned (.int .i64 (P : Nat)) ∧ Below X.heap.size X w') from by
                    have hl := HLi.out X (below_tr HB11.out hX)
                    have hv := HVx.out X (below_tr HB11.out hX)
                    have := rNearest_any (some ⟨bc, oc, none⟩) Av c cv C x X hl.cs hv (by omega) hrx (fun y hy => ⟨(allM_all h2' y hy).1, by rw [(allM_all h2' y hy).2, ← HNx.out, hd, HDM.out]; rfl⟩)
                    rw [← HN.out, ← HNx.out, ← hPd] at this
                    exact this)
                  have HWt := Lib.hid (fun (X : World) (hX : Below V11.heap.size V11 X) => show Calls Try.prog 15 #[.agg #[.slice (some ⟨bc, oc, none⟩) n c, .slice B m d], .int .i64 (P : Nat), .int .i64 (k : Nat)] X (fun e w' => ∃ B' d', e = .returned (.agg #[.slice (some ⟨bc, oc, none⟩) n c, .slice B' m d']) ∧ OwnM X.heap.size w' B' d' MA ∧ Below X.heap.size X w') from by
                    have hl := HLi.out X (below_tr HB11.out hX)
                    have h9 := rWithL_any (some ⟨bc, oc, none⟩) c n B d M P k X hl.ms (by rw [h3']; exact hPn) hk96 (by omega)
                    unfold lv at h9
                    rw [← HM.out] at h9
                    refine h9.mono (fun e w' hh => ?_)
                    obtain ⟨B', d', he', ho, hb⟩ := hh
                    rw [hMw] at he' ho
                    unfold lv at he'
                    rw [hMAl] at he'
                    exact ⟨B', d', he', ho, hb⟩)
                  have HJ := Lib.hid (show (CC1 = C ∧ MM1 = MA) ∧ MA.length = m from ⟨⟨by rw [HC1.out, he]; exact (HIn.out []).1, by rw [HM1.out, he, hMA]; exact (HIn.out _).2⟩, hMAl⟩)
                  have HK := Lib.hid (fun (X : World) (hX : Below w18.heap.size w18 X) => HS11.out X (below_tr HBV12.out (below_tr HB18.out hX)))
                  subst he
                  clear hin hPd hPn h1' h2' h3' h4' hMs hMw hMA hMAl hcl hd hsl
                  go_upto_region 12 with fail
                  refine region_rel3 (fun X => Below w18.heap.size w18 X) [.v (.agg #[.slice (some ⟨bc, oc, none⟩) n c, .slice B m d]), .v (.pointer (some ⟨g, 0, none⟩)), .v (.slice (some ⟨bc, oc, none⟩) n c), .v (.pointer (some ⟨g + 1, 1, none⟩)), .v (.slice Av nx cv), .v (.int .i64 P), .v (.pointer (some ⟨g + 1, 0, none⟩)), .v (.int .i64 k), .u, .u] 8 2
                    (by kernel_rfl) (below_drew (Below.refl _ _)) rfl (by decide) (by kernel_rfl) (by kernel_rfl) (by kernel_rfl) (by kernel_rfl) (by kernel_rfl) ?_ ?_
                  · refine ⟨?_, ?_, ?_, ?_, ?_, ?_, ?_, ?_, trivial⟩
                    · intro f w hw hd
                      obtain ⟨⟨⟨⟨⟨⟨z0, z1⟩, z2, z3, z4, z5⟩, z6, z7⟩, z8, z9⟩, z10, z11⟩, z12, z13⟩ := HK.out w hw
                      simp [fillR, Act.put, go_sem, relOf, Rk.sat, hw, Below.refl, z0, z1]
                    · intro f w hw hd
                      simp [fillR, Act.put, go_sem, relOf, Rk.sat, hw, Below.refl]
                    · intro f w hw hd
                      obtain ⟨⟨⟨⟨⟨⟨z0, z1⟩, z2, z3, z4, z5⟩, z6, z7⟩, z8, z9⟩, z10, z11⟩, z12, z13⟩ := HK.out w hw
                      have e1 : f 1 = .pointer (some ⟨g, 0, none⟩) := dep_of hd 1 (by kernel_rfl)
                      simp [fillR, Act.put, go_sem, relOf, Rk.sat, hw, Below.refl, e1, z0]
                    · intro f w hw hd
                      simp [fillR, Act.put, go_sem, relOf, Rk.sat, hw, Below.refl]
                    · intro f w hw hd
                      obtain ⟨⟨⟨⟨⟨⟨z0, z1⟩, z2, z3, z4, z5⟩, z6, z7⟩, z8, z9⟩, z10, z11⟩, z12, z13⟩ := HK.out w hw
                      have e3 : f 3 = .pointer (some ⟨g + 1, 1, none⟩) := dep_of hd 3 (by kernel_rfl)
                      simp [fillR, Act.put, go_sem, relOf, Rk.sat, hw, Below.refl, e3, z3]
                    · intro f w hw hd
                      have e2 : f 2 = .slice (some ⟨bc, oc, none⟩) n c := dep_of hd 2 (by kernel_rfl)
                      have e4 : f 4 = .slice Av nx cv := dep_of hd 4 (by kernel_rfl)
                      simp [fillR, Act.put, go_sem, relOf, Rk.sat, hw, Below.refl, e2, e4]
                      refine (HNr.out w (below_tr HBV12.out (below_tr HB18.out hw))).mono ?_
                      rintro e w2 ⟨rfl, hb⟩
                      simp
                      exact ⟨hw.trans (hb.mono hw.size), hb⟩
                    · intro f w hw hd
                      simp [fillR, Act.put, go_sem, relOf, Rk.sat, hw, Below.refl]
                    · intro f w hw hd
                      obtain ⟨⟨⟨⟨⟨⟨z0, z1⟩, z2, z3, z4, z5⟩, z6, z7⟩, z8, z9⟩, z10, z11⟩, z12, z13⟩ := HK.out w hw
                      have e6 : f 6 = .pointer (some ⟨g + 1, 0, none⟩) := dep_of hd 6 (by kernel_rfl)
                      simp [fillR, Act.put, go_sem, relOf, Rk.sat, hw, Below.refl, e6, z2]
                  intro f w24 hw hr
                  have e0 : f 0 = .agg #[.slice (some ⟨bc, oc, none⟩) n c, .slice B m d] := hr 0 (by simp)
                  have e5 : f 5 = .int .i64 P := hr 5 (by simp)
                  have e7 : f 7 = .int .i64 k := hr 7 (by simp)
                  have HB24 := Lib.hid (below_tr HB18.out hw)
                  have HWc := Lib.hid (HWt.out w24 (below_tr HBV12.out HB24.out))
                  clear hw hr b0 b1 b2 b3 b4 b5 b6 b7 b8 b9 b10 b11 b12 b13
                  simp [fillR, Act.put, e0, e5, e7, List.range_succ, wpOps_cons, wpOp, Region.wanted, Oper.wp, go_sem]
                  refine .inl (HWc.out.mono ?_)
                  rintro e w25 ⟨B', d', rfl, ho5, hb5⟩
                  have hb45 := below_tr HB24.out hb5
                  have hlr5 := HR12.out w25 hb45
                  have r0 := hlr5.box.c0
                  have r1 := hlr5.box.c1
                  have f0 := hlr5.frozen 0
                  have f1 := hlr5.frozen 1
                  have ts := (turn_set w25 p12 0 (.slice (some ⟨bc, oc, none⟩) n c)).trans (turn_set (w25.setCell ⟨p12, 0, none⟩ (.slice (some ⟨bc, oc, none⟩) n c)) p12 1 (.slice B' m d')) (fun i hi => .inl hi)
                  have hlt := (HR12.out w24 HB24.out).lt
                  have HBW := Lib.hid (show Below V11.heap.size V11 ((w25.setCell ⟨p12, 0, none⟩ (.slice (some ⟨bc, oc, none⟩) n c)).setCell ⟨p12, 1, none⟩ (.slice B' m d')) from ((below_tr HBV12.out hb45).setCell HLo.out _).setCell HLo.out _)
                  have hrw := (hlr5.set0 (some ⟨bc, oc, none⟩) n c).set1 B' m d'
                  have HMW := Lib.hid ((ho5.turn ts (fun i hi e => by have := (ho5.low i hi).1; omega)).ms)
                  have HRW := Lib.hid hrw
                  have z0 := hrw.box.c0
                  have z1 := hrw.box.c1
                  obtain ⟨⟨⟨⟨⟨⟨a0, a1⟩, a2, a3, a4, a5⟩, a6, a7⟩, a8, a9⟩, a10, a11⟩, a12, a13⟩ := HS11.out _ HBW.out
                  clear ho5 hb5 hb45 hlr5 ts hlt hrw e0 e5 e7
                  simp [Act.put, wpOps_cons, wpOp, Region.wanted, Oper.wp, go_sem, r0, r1, f0, f1]
                  refine .inl ?_
                  simp only [wpOps]
                  clear r0 r1 f0 f1
                  go_wp2_with fail
                  go_meet
                  case rel => exact ⟨rfl, Lib.hid ⟨B', d', MA, HRW.out, HMW.out, HJ.out.2, fun _ => HJ.out.1, HBW.out⟩⟩
                · have r1 : ((nx : Int) != (DM : Int)) = true := by simp; omega
                  have r2 : (nx != DM) = true := by simpa using hd
                  go_upto_region 18 with fail
                  refine MskL.region_quiet (fun X => Below w17.heap.size w17 X) (by kernel_rfl) (by kernel_rfl) (below_drew (Below.refl _ _)) ?_
                  repeat (first | go_big_quiet_skip | (go_big_quiet_want; go_big_quiet_op; first | go_big_quiet_on | (refine ⟨_, fun _ _ => rfl, ?_⟩; go_big_quiet_on) | (apply Exists.intro; refine ⟨fun W hW => ?_, ?_⟩; (focus (obtain ⟨z0, z1, z2⟩ := HRd.out W hW; simp only [Result.andThen, z0, z1, z2]; exact ⟨trivial, rfl⟩)); go_big_quiet_on)))
                  refine wpQuiet_nil ?_
                  intro w18 hq
                  have HB18 := Lib.hid (below_tr HB17.out hq)
                  obtain ⟨⟨⟨⟨⟨⟨b0, b1⟩, b2, b3, b4, b5⟩, b6, b7⟩, b8, b9⟩, b10, b11⟩, b12, b13⟩ := HS11.out w18 (below_tr HBV12.out HB18.out)
                  clear hq a0 a1 a2 a3 a4 a5 a6 a7 a8 a9 a10 a11 a12 a13
                  have he : E1 = 151 := by rw [HE1.out]; exact add_dim hok hsl (by omega) hrx hcl (by rw [← HNx.out, ← HDM.out]; exact hd)
                  clear b0 b1 b2 b3 b4 b5 b6 b7 b8 b9 b10 b11 b12 b13
                  subst he
                  go_wp2_with fail
                  go_meet
                  case rel => exact ⟨rfl, Lib.hid ⟨B, d, M, HR12.out w18 HB18.out, (HLi.out w18 (below_tr HB11.out (below_tr HBV12.out HB18.out))).ms, HM.out.symm, fun h => absurd h (by decide), below_tr HBV12.out HB18.out⟩⟩
      case rest =>
        obtain ⟨rfl, HJ⟩ := hcut
        obtain ⟨w28, rfl⟩ : ∃ x, x = wc := ⟨_, rfl⟩
        obtain ⟨B9, d9, M9, hj0, hj1, hj2, hj3, hj4⟩ := HJ.out
        have HRW := Lib.hid hj0
        have HMW := Lib.hid hj1
        have HLW := Lib.hid hj2
        have HEW := Lib.hid hj3
        have HBW := Lib.hid hj4
        clear HJ hj0 hj1 hj2 hj3 hj4 a0 a1 a2 a3 a4 a5 a6 a7 a8 a9 a10 a11 a12 a13
        obtain ⟨⟨⟨⟨⟨⟨b0, b1⟩, b2, b3, b4, b5⟩, b6, b7⟩, b8, b9⟩, b10, b11⟩, b12, b13⟩ := HS11.out w28 HBW.out
        go_upto_region 20 with fail
        go_cut [157] from 135 to 157 (fun v wx => v = .bool false ∧ Hid (Below w28.heap.size w28 wx))
        case first =>
          by_cases hE : E1 = 0
          · have HSm := Lib.hid (fun (X : World) (hX : Below w28.heap.size w28 X) => show Calls Try.prog 11 #[.agg #[.slice A1 n1 c1, .slice B1 m1 d1], .agg #[.slice A n c, .slice B9 m d9]] X (fun e w' => e = .returned (.bool true) ∧ Below X.heap.size X w') from by
              have hl : Lis X A c C B9 d9 M9 := ⟨(HLi.out X (below_tr HB11.out (below_tr HBW.out hX))).cs, HMW.out.below hX⟩
              have := HSa.out X A1 A c1 c CC1 C B1 B9 d1 d9 MM1 M9 (HLn.out X (below_tr HBW.out hX)).1 hl
              rw [decide_eq_true (HEW.out hE).1, decide_eq_true (HEW.out hE).2, ← HN1.out, ← HMn1.out, HLW.out, ← HN.out] at this
              exact this)
            have z0 := HRW.out.box.c0
            have z1 := HRW.out.box.c1
            subst hE
            go_wp2_with fail
            refine (HSm.out w28 (Below.refl _ _)).mono ?_
            rintro e w30 ⟨rfl, hb30⟩
            have HB30 := Lib.hid hb30
            clear hb30 z0 z1
            go_wp2_with fail
            go_meet
            case rel => exact ⟨rfl, HB30⟩
          · have HZ1 := Lib.hid (HNil1.out (by rw [HC1.out]; exact (HOut.out E1 hE []).1) (by rw [HM1.out]; exact (HOut.out E1 hE _).2))
            have n1 : ((E1 : Int) == 0) = false := by simpa using hE
            have n2 : ((E1 : Int) != 0) = true := by simpa using hE
            have n3 : ((E1 : Int) != E1) = false := by simp
            clear hE
            go_wp2_with fail
            refine (HZ1.out w28 HBW.out).mono ?_
            rintro e w30 ⟨rfl, hb30⟩
            have HB30 := Lib.hid hb30
            clear hb30 n1 n2 n3
            go_wp2_with fail
            go_meet
            case rel => exact ⟨rfl, HB30⟩
        case rest =>
          obtain ⟨rfl, HJ⟩ := hcut
          obtain ⟨w30, rfl⟩ : ∃ x, x = wc := ⟨_, rfl⟩
          have HBX := Lib.hid (below_tr HBW.out HJ.out)
          have HRX := Lib.hid (HRW.out.below HJ.out HRW.out.lt)
          clear HJ b0 b1 b2 b3 b4 b5 b6 b7 b8 b9 b10 b11 b12 b13
          obtain ⟨⟨⟨⟨⟨⟨a0, a1⟩, a2, a3, a4, a5⟩, a6, a7⟩, a8, a9⟩, a10, a11⟩, a12, a13⟩ := HS11.out w30 HBX.out
          have hr := HRX.out
          have r0 := hr.box.c0
          have r1 := hr.box.c1
          have f0 := hr.frozen 0
          have f1 := hr.frozen 1
          obtain ⟨W3, hW3⟩ : ∃ W, W = (w30.setCell ⟨p12, 0, none⟩ (.slice A n c)).setCell ⟨p12, 1, none⟩ (.slice B m d) := ⟨_, rfl⟩
          have hr3 : LRow W3 p12 A n c B m d := by rw [hW3]; exact (hr.set0 _ _ _).set1 _ _ _
          have hb3 : Below V11.heap.size V11 W3 := by rw [hW3]; exact (HBX.out.setCell HLo.out _).setCell HLo.out _
          have HI0 := Lib.hid (show LRow W3 p12 A n c B m d ∧ Ms W3 B d (remTo M ss 0) ∧ Below V11.heap.size V11 W3 from ⟨hr3, by rw [remTo_zero HOk.out]; exact (HLi.out W3 (below_tr HB11.out hb3)).ms, hb3⟩)
          obtain ⟨⟨⟨⟨⟨⟨b0, b1⟩, b2, b3, b4, b5⟩, b6, b7⟩, b8, b9⟩, b10, b11⟩, b12, b13⟩ := HS11.out W3 hb3
          obtain ⟨⟨⟨⟨⟨⟨k0, k1⟩, k2, k3, k4, k5⟩, k6, k7⟩, k8, k9⟩, k10, k11⟩, k12, k13⟩ := HS11.out ((w30.setCell ⟨p12, 0, none⟩ (.slice A n c)).setCell ⟨p12, 1, none⟩ (.slice B m d)) (by rw [← hW3]; exact hb3)
          have HW3 := Lib.hid hW3
          clear hr hr3 hb3 hW3
          go_wp2_with (rw [← HW3.out])
          clear r0 r1 f0 f1 a0 a1 a2 a3 a4 a5 a6 a7 a8 a9 a10 a11 a12 a13 b0 b1 b2 b3 b4 b5 b6 b7 b8 b9 b10 b11 b12 b13 k0 k1 k2 k3 k4 k5 k6 k7 k8 k9 k10 k11 k12 k13
          go_loopw [13, 162] (fun v i wr => ∃ k B9 d9, k ≤ ns ∧ i = .int .i64 (k : Nat) ∧ v = .int .i64 (noTo ss k) ∧ Hid (LRow wr p12 A n c B9 m d9 ∧ Ms wr B9 d9 (remTo M ss k) ∧ Below V11.heap.size V11 wr)) (fun _ i _ => ns - (intOf i).toNat)
          case atStart => first | exact ⟨0, B, d, Nat.zero_le _, rfl, by rw [noTo_zero], HI0⟩ | exact ⟨0, B, d, Nat.zero_le _, rfl, by rw [noTo_zero], by rw [← HW3.out]; exact HI0⟩
          case round =>
            obtain ⟨k, B9, d9, hk, rfl, rfl, HI⟩ := hrel
            obtain ⟨⟨⟨⟨⟨⟨a0, a1⟩, a2, a3, a4, a5⟩, a6, a7⟩, a8, a9⟩, a10, a11⟩, a12, a13⟩ := HS11.out wr HI.out.2.2
            by_cases hkn : k < ns
            · obtain ⟨b1, o1, rfl, hb1, hcell⟩ := (HVs.out wr (below_tr HB11.out HI.out.2.2)).at_ (j := k) (by rw [← HNs.out]; exact hkn)
              obtain ⟨y, hy⟩ : ∃ y, ss[k]? = some y := ⟨_, List.getElem?_eq_getElem (by rw [← HNs.out]; exact hkn)⟩
              have hyg : ss.getD k 0 = y := by simp [List.getD, hy]
              rw [hyg] at hcell
              have k0 : (0 : Int) ≤ k := by omega
              have km : (k : Int) < ns := by omega
              have hcm : (cs : Int) ≤ 9223372036854775807 := by have := (HVs.out wr (below_tr HB11.out HI.out.2.2)).most; omega
              have HYe := Lib.hid hy
              clear hy hyg hb1
              go_wp2_with fail
              refine (HSl.out y wr).mono ?_
              rintro e w33 ⟨rfl, hb33⟩
              have HB33 := Lib.hid (below_tr HI.out.2.2 hb33)
              have HR33 := Lib.hid (HI.out.1.below hb33 HI.out.1.lt)
              have HM33 := Lib.hid (HI.out.2.1.below hb33)
              clear hb33 hcell a0 a1 a2 a3 a4 a5 a6 a7 a8 a9 a10 a11 a12 a13
              cases hsy : slotB y with
              | false =>
                have hno := noTo_no HYe.out hsy
                have hre := remTo_no (M := M) HYe.out hsy
                have HN := Lib.hid (And.intro hno hre)
                clear hno hre
                go_wp2
                go_roundw
                case rel => exact ⟨k + 1, B9, d9, by omega, by go_num, by rw [HN.out.1], Lib.hid ⟨HR33.out, by rw [← HN.out.2]; exact HM33.out, HB33.out⟩⟩
                case measure => simp [intOf]; omega
              | true =>
                obtain ⟨j, rfl, hj⟩ : ∃ j : Nat, y = (j : Int) ∧ j < 96 := by
                  unfold slotB at hsy
                  simp at hsy
                  exact ⟨y.toNat, by omega, by omega⟩
                have hno := noTo_yes HYe.out hsy
                have hre := remTo_yes (M := M) HYe.out
                have HWo := Lib.hid (show Calls Try.prog 17 #[.agg #[.slice A n c, .slice B9 m d9], .int .i64 (j : Nat)] w33 (fun e w' => ∃ B' d', e = .returned (.agg #[.slice A n c, .slice B' m d']) ∧ OwnM w33.heap.size w' B' d' (remTo M ss (k + 1)) ∧ Below w33.heap.size w33 w') from by
                  have h1 := rWithoutL_any A c n B9 d9 (remTo M ss k) j w33 HM33.out hj (by rw [remTo_len, ← HM.out]; have := HM33.out.most; have := HM33.out.room; rw [remTo_len, ← HM.out] at this; have := HMl.out; omega)
                  unfold lv at h1
                  rw [remTo_len, ← HM.out] at h1
                  refine h1.mono (fun e w' hh => ?_)
                  obtain ⟨B', d', he, ho, hb⟩ := hh
                  rw [hre] at he ho
                  unfold lv at he
                  rw [remTo_len, ← HM.out] at he
                  exact ⟨B', d', he, ho, hb⟩)
                have HN := Lib.hid hno
                have z0 := HR33.out.box.c0
                have z1 := HR33.out.box.c1
                clear hno hre hsy
                go_wp2_with fail
                refine HWo.out.mono ?_
                rintro e w34 ⟨B10, d10, rfl, ho, hb34⟩
                have hr4 := HR33.out.below hb34 HR33.out.lt
                have r0 := hr4.box.c0
                have r1 := hr4.box.c1
                have f0 := hr4.frozen 0
                have f1 := hr4.frozen 1
                have ts := (turn_set w34 p12 0 (.slice A n c)).trans (turn_set (w34.setCell ⟨p12, 0, none⟩ (.slice A n c)) p12 1 (.slice B10 m d10)) (fun i hi => .inl hi)
                have HN5 := Lib.hid (show LRow ((w34.setCell ⟨p12, 0, none⟩ (.slice A n c)).setCell ⟨p12, 1, none⟩ (.slice B10 m d10)) p12 A n c B10 m d10 ∧ Ms ((w34.setCell ⟨p12, 0, none⟩ (.slice A n c)).setCell ⟨p12, 1, none⟩ (.slice B10 m d10)) B10 d10 (remTo M ss (k + 1)) ∧ Below V11.heap.size V11 ((w34.setCell ⟨p12, 0, none⟩ (.slice A n c)).setCell ⟨p12, 1, none⟩ (.slice B10 m d10)) from by
                  have hlt := HR33.out.lt
                  exact ⟨(hr4.set0 _ _ _).set1 _ _ _, (ho.turn ts (fun i hi e => by have := (ho.low i hi).1; omega)).ms, ((below_tr HB33.out hb34).setCell HLo.out _).setCell HLo.out _⟩)
                clear z0 z1 hr4 ts ho hb34
                go_wp2
                go_roundw
                case rel => exact ⟨k + 1, B10, d10, by omega, by go_num, by rw [HN.out], HN5⟩
                case measure => simp [intOf]; omega
            · obtain rfl : k = ns := by omega
              have hno : noTo ss k = E2 := by
                rw [HNs.out, noTo_all, HE2.out]; unfold remE; rw [if_pos HOk.out]
              rw [hno]
              have hrw := HI.out.1
              have HRW9 := Lib.hid hrw
              clear hno hrw
              go_upto_region 30 with fail
              go_cut [195] from 173 to 195 (fun v wx => v = .bool false ∧ Hid (Below wr.heap.size wr wx))
              case first =>
                by_cases hE : E2 = 0
                · have HSm := Lib.hid (fun (X : World) (hX : Below wr.heap.size wr X) => show Calls Try.prog 11 #[.agg #[.slice A2 n2 c2, .slice B2 m2 d2], .agg #[.slice A n c, .slice B9 m d9]] X (fun e w' => e = .returned (.bool true) ∧ Below X.heap.size X w') from by
                    have hl : Lis X A c C B9 d9 (remTo M ss k) := ⟨(HLi.out X (below_tr HB11.out (below_tr HI.out.2.2 hX))).cs, HI.out.2.1.below hX⟩
                    have := HSa.out X A2 A c2 c CC2 C B2 B9 d2 d9 MM2 (remTo M ss k) (HLn.out X (below_tr HI.out.2.2 hX)).2 hl
                    rw [decide_eq_true (show CC2 = C by rw [HC2.out, hE]; exact (HIn.out []).1), decide_eq_true (show MM2 = remTo M ss k by rw [HM2.out, hE, HNs.out, remTo_all]; exact (HIn.out _).2), ← HN2.out, ← HMn2.out, remTo_len, ← HN.out, ← HM.out] at this
                    exact this)
                  have z0 := HRW9.out.box.c0
                  have z1 := HRW9.out.box.c1
                  subst hE
                  go_wp2_with fail
                  refine (HSm.out wr (Below.refl _ _)).mono ?_
                  rintro e w40 ⟨rfl, hb40⟩
                  have HB40 := Lib.hid hb40
                  clear hb40 z0 z1
                  go_wp2_with fail
                  go_meet
                  case rel => exact ⟨rfl, HB40⟩
                · have HZ2 := Lib.hid (HNil2.out (by rw [HC2.out]; exact (HOut.out E2 hE []).1) (by rw [HM2.out]; exact (HOut.out E2 hE _).2))
                  have n1 : ((E2 : Int) == 0) = false := by simpa using hE
                  have n2 : ((E2 : Int) != 0) = true := by simpa using hE
                  have n3 : ((E2 : Int) != E2) = false := by simp
                  clear hE
                  go_wp2_with fail
                  refine (HZ2.out wr HI.out.2.2).mono ?_
                  rintro e w40 ⟨rfl, hb40⟩
                  have HB40 := Lib.hid hb40
                  clear hb40 n1 n2 n3
                  go_wp2_with fail
                  go_meet
                  case rel => exact ⟨rfl, HB40⟩
              case rest =>
                obtain ⟨rfl, HJ3⟩ := hcut
                obtain ⟨w40, rfl⟩ : ∃ x, x = wc := ⟨_, rfl⟩
                have HB40 := Lib.hid (below_tr HI.out.2.2 HJ3.out)
                clear HJ3 a0 a1 a2 a3 a4 a5 a6 a7 a8 a9 a10 a11 a12 a13
                obtain ⟨⟨⟨⟨⟨⟨a0, a1⟩, a2, a3, a4, a5⟩, a6, a7⟩, a8, a9⟩, a10, a11⟩, a12, a13⟩ := HS11.out w40 HB40.out
                obtain ⟨p16, hp16⟩ : ∃ p, p = w40.heap.size := ⟨_, rfl⟩
                obtain ⟨V16, hV16⟩ : ∃ V, V = w40.alloc (.cells #[.int .u64 0, .int .u64 0] 38) := ⟨_, rfl⟩
                have hm16 : MRow V16 p16 0 0 := by rw [hV16, hp16]; exact MRow.new w40 0 0
                have hb16 : Below V11.heap.size V11 V16 := by rw [hV16]; exact HB40.out.alloc HB40.out.size _
                have HLo16 := Lib.hid (show V11.heap.size ≤ p16 by rw [hp16]; exact HB40.out.size)
                have HI0 := Lib.hid (show MRow V16 p16 (unionM M (ps.take 0)).1 (unionM M (ps.take 0)).2 ∧ Below V11.heap.size V11 V16 from ⟨by rw [List.take_zero, union_nil]; exact hm16, hb16⟩)
                obtain ⟨⟨⟨⟨⟨⟨b0, b1⟩, b2, b3, b4, b5⟩, b6, b7⟩, b8, b9⟩, b10, b11⟩, b12, b13⟩ := HS11.out V16 hb16
                obtain ⟨⟨⟨⟨⟨⟨k0, k1⟩, k2, k3, k4, k5⟩, k6, k7⟩, k8, k9⟩, k10, k11⟩, k12, k13⟩ := HS11.out (w40.alloc (.cells #[.int .u64 0, .int .u64 0] 38)) (by rw [← hV16]; exact hb16)
                have HV16 := Lib.hid hV16
                have HP16 := Lib.hid hp16
                clear hp16 hV16 hm16 hb16
                go_wp2_with (rw [← HV16.out, ← HP16.out])
                clear a0 a1 a2 a3 a4 a5 a6 a7 a8 a9 a10 a11 a12 a13 b0 b1 b2 b3 b4 b5 b6 b7 b8 b9 b10 b11 b12 b13 k0 k1 k2 k3 k4 k5 k6 k7 k8 k9 k10 k11 k12 k13
                go_loopw [199] (fun i wr => ∃ t : Nat, t ≤ np ∧ i = .int .i64 t ∧ Hid (MRow wr p16 (unionM M (ps.take t)).1 (unionM M (ps.take t)).2 ∧ Below V11.heap.size V11 wr) ∧ Hid ((ps.take t).all (inB m) = true)) (fun i _ => np - (intOf i).toNat)
                case atStart => first | exact ⟨0, Nat.zero_le _, rfl, HI0, Lib.hid rfl⟩ | exact ⟨0, Nat.zero_le _, rfl, by rw [← HV16.out]; exact HI0, Lib.hid rfl⟩
                case round =>
                  obtain ⟨t, ht, rfl, HJ, HA⟩ := hrel
                  obtain ⟨⟨⟨⟨⟨⟨a0, a1⟩, a2, a3, a4, a5⟩, a6, a7⟩, a8, a9⟩, a10, a11⟩, a12, a13⟩ := HS11.out wr HJ.out.2
                  by_cases htn : t < np
                  · obtain ⟨b3, o3, rfl, hb3, hcell⟩ := (HVp.out wr (below_tr HB11.out HJ.out.2)).at_ (j := t) (by rw [← HNp.out]; exact htn)
                    obtain ⟨y, hy⟩ : ∃ y, ps[t]? = some y := ⟨_, List.getElem?_eq_getElem (by rw [← HNp.out]; exact htn)⟩
                    have hyg : ps.getD t 0 = y := by simp [List.getD, hy]
                    rw [hyg] at hcell
                    have t0 : (0 : Int) ≤ t := by omega
                    have tm : (t : Int) < np := by omega
                    have hcm : (cp : Int) ≤ 9223372036854775807 := by have := (HVp.out wr (below_tr HB11.out HJ.out.2)).most; omega
                    cases hin : inB m y with
                    | false =>
                      have hE3 : E3 = 2 := by rw [HE3.out]; unfold unionE; rw [if_pos HOk.out, ← HM.out, all_no (inB m) ps hy hin]; rfl
                      have hU0 : U.1 = 0 ∧ U.2 = 0 := by rw [HUe.out]; unfold unionR; rw [← HE3.out, hE3]; exact ⟨rfl, rfl⟩
                      have hq : ∀ W, (Op.equalIn 10000 38 (.agg #[.int .u64 (U.1 : Nat), .int .u64 (U.2 : Nat)]) (.agg #[.int .u64 0, .int .u64 0])).run Try.prog W = .ok true W := fun W => by
                        rw [hU0.1, hU0.2]; exact MskL.eqM0 0 0 0 0 W
                      subst hE3
                      clear hU0 hy hyg hb3
                      by_cases hy0 : y < 0
                      · have r1 : decide (y < 0) = true := decide_eq_true hy0
                        clear hin hy0
                        go_wp2
                        go_ret
                        exact ⟨by first | rfl | simp, below_tr HB0.out (below_tr HB11.out HJ.out.2)⟩
                      · have r1 : decide (y < 0) = false := decide_eq_false hy0
                        have r2 : decide ((m : Int) ≤ y) = true := by unfold inB at hin; simp at hin ⊢; omega
                        clear hin hy0
                        go_wp2
                        go_ret
                        exact ⟨by first | rfl | simp, below_tr HB0.out (below_tr HB11.out HJ.out.2)⟩
                    | true =>
                      have HAl := Lib.hid (show (ps.take (t + 1)).all (inB m) = true by rw [all_take_snoc (inB m) ps hy, HA.out, hin]; rfl)
                      obtain ⟨j, rfl, hj⟩ := inB_yes hin
                      have j0 : (0 : Int) ≤ j := by omega
                      have jm : (j : Int) < m := by omega
                      have r1 : decide ((j : Int) < 0) = false := by simp
                      have r2 : decide ((m : Int) ≤ (j : Int)) = false := by simp; omega
                      obtain ⟨b4, o4, mx, my, rfl, hb4, hm4, hx1, hx2, q0, q1⟩ := (HLi.out wr (below_tr HB11.out HJ.out.2)).ms.at_ (k := j) (by rw [← HM.out]; exact hj)
                      obtain ⟨S, hS⟩ : ∃ S, S = unionM M (ps.take t) := ⟨_, rfl⟩
                      obtain ⟨S2, hS2⟩ : ∃ S2, S2 = unionM M (ps.take (t + 1)) := ⟨_, rfl⟩
                      have hXs : MRow wr p16 S.1 S.2 := by rw [hS]; exact HJ.out.1
                      have HXs := Lib.hid (fun (X : World) (hX : Below wr.heap.size wr X) => hXs.below hX hXs.lt)
                      have HK := Lib.hid (fun (X : World) (hX : Below wr.heap.size wr X) => show ((X.cell? ⟨p16, 0, none⟩ = some (.int .u64 S.1) ∧ X.cell? ⟨p16, 1, none⟩ = some (.int .u64 S.2)) ∧ (X.cell? ⟨b4, o4 + j * 2, none⟩ = some (.int .u64 mx) ∧ X.cell? ⟨b4, o4 + j * 2 + 1, none⟩ = some (.int .u64 my))) ∧ X.cell? ⟨g, 1, none⟩ = some (.slice (some ⟨b4, o4, none⟩) m d) from
                        ⟨⟨⟨(hXs.below hX hXs.lt).cell0, (hXs.below hX hXs.lt).cell1⟩, ⟨(hX.cell (p := ⟨b4, o4 + j * 2, none⟩) hb4).trans q0, (hX.cell (p := ⟨b4, o4 + j * 2 + 1, none⟩) hb4).trans q1⟩⟩, (HS.out X (below_tr HB11.out (below_tr HJ.out.2 hX))).1.2⟩)
                      have HMt := Lib.hid (fun (W : World) => MskL.Ms.two W S (mx, my) (by rw [hS]; exact mk_fine _) ⟨hx1, hx2⟩)
                      dsimp only at HMt
                      have HOr := Lib.hid (fun (W : World) (A : Option Addr) (hA : Ms W A 2 [S, (mx, my)]) => show Calls Try.prog 18 #[.slice A 2 2] W (fun e w' => e = .returned (.agg #[.int .u64 S2.1, .int .u64 S2.2]) ∧ Below W.heap.size W w') from by
                        have := MskL.rOr_any A 2 [S, (mx, my)] W hA
                        unfold GivesM at this
                        rw [hS2, ← union_step hy hm4, ← hS]
                        exact this)
                      have HS2 := Lib.hid hS2
                      clear hyg hy hS hS2 hXs hin hb3 hb4 hm4 hx1 hx2 q0 q1
                      go_upto_region 38 with fail
                      refine region_rel3 (fun X => Below wr.heap.size wr X) [.v (.agg #[.int .u64 S.1, .int .u64 S.2]), .v (.pointer (some ⟨g, 1, none⟩)), .v (.slice (some ⟨b4, o4, none⟩) m d), .v (.int .i64 j), .v (.pointer (some ⟨b4, o4 + j * 2, none⟩)), .v (.agg #[.int .u64 mx, .int .u64 my]), .m 2 [S, (mx, my)], .v (.agg #[.int .u64 S2.1, .int .u64 S2.2]), .u] 8 1
                        (by kernel_rfl) (below_drew (Below.refl _ _)) rfl (by decide) (by kernel_rfl) (by kernel_rfl) (by kernel_rfl) (by kernel_rfl) (by kernel_rfl) ?_ ?_
                      · refine ⟨?_, ?_, ?_, ?_, ?_, ?_, ?_, ?_, trivial⟩
                        · intro f w hw hd
                          obtain ⟨⟨⟨z0, z1⟩, ⟨z2, z3⟩⟩, z4⟩ := HK.out w hw
                          simp [fillR, Act.put, go_sem, relOf, Rk.sat, hw, Below.refl, z0, z1]
                        · intro f w hw hd
                          simp [fillR, Act.put, go_sem, relOf, Rk.sat, hw, Below.refl]
                        · intro f w hw hd
                          obtain ⟨⟨⟨z0, z1⟩, ⟨z2, z3⟩⟩, z4⟩ := HK.out w hw
                          have e1 : f 1 = .pointer (some ⟨g, 1, none⟩) := dep_of hd 1 (by kernel_rfl)
                          simp [fillR, Act.put, go_sem, relOf, Rk.sat, hw, Below.refl, e1, z4]
                        · intro f w hw hd
                          simp [fillR, Act.put, go_sem, relOf, Rk.sat, hw, Below.refl]
                        · intro f w hw hd
                          have e2 : f 2 = .slice (some ⟨b4, o4, none⟩) m d := dep_of hd 2 (by kernel_rfl)
                          have e3 : f 3 = .int .i64 j := dep_of hd 3 (by kernel_rfl)
                          simp [fillR, Act.put, go_sem, relOf, Rk.sat, hw, Below.refl, e2, e3, j0, jm, hj]
                        · intro f w hw hd
                          obtain ⟨⟨⟨z0, z1⟩, ⟨z2, z3⟩⟩, z4⟩ := HK.out w hw
                          have e4 : f 4 = .pointer (some ⟨b4, o4 + j * 2, none⟩) := dep_of hd 4 (by kernel_rfl)
                          simp [fillR, Act.put, go_sem, relOf, Rk.sat, hw, Below.refl, e4, z2, z3]
                        · intro f w hw hd
                          have e0 : f 0 = .agg #[.int .u64 S.1, .int .u64 S.2] := dep_of hd 0 (by kernel_rfl)
                          have e5 : f 5 = .agg #[.int .u64 mx, .int .u64 my] := dep_of hd 5 (by kernel_rfl)
                          simp [fillR, Act.put, go_sem, relOf, Rk.sat, hw, Below.refl, e0, e5]
                          exact ⟨HMt.out w, hw.alloc hw.size _, (Below.refl _ _).alloc (Nat.le_refl _) _⟩
                        · intro f w hw hd
                          obtain ⟨g6, e6, ms6⟩ : ∃ g, f 6 = .slice (some ⟨g, 0, none⟩) 2 2 ∧ Ms w (some ⟨g, 0, none⟩) 2 [S, (mx, my)] := dep_of hd 6 (by kernel_rfl)
                          simp [fillR, Act.put, go_sem, relOf, Rk.sat, hw, Below.refl, e6]
                          refine (HOr.out w _ ms6).mono ?_
                          rintro e w2 ⟨rfl, hb⟩
                          simp
                          exact ⟨hw.trans (hb.mono hw.size), hb⟩
                      intro f w44 hw hr
                      have e7 : f 7 = .agg #[.int .u64 S2.1, .int .u64 S2.2] := hr 7 (by simp)
                      have hm5 := HXs.out w44 hw
                      have r0 := hm5.cell0
                      have r1 := hm5.cell1
                      have f0 := hm5.frozen 0
                      have f1 := hm5.frozen 1
                      have HM5 := Lib.hid hm5
                      have HB5' := Lib.hid (below_tr HJ.out.2 hw)
                      clear hm5 hw hr a0 a1 a2 a3 a4 a5 a6 a7 a8 a9 a10 a11 a12 a13
                      simp [fillR, Act.put, e7, List.range_succ, wpOps_cons, wpOp, Region.wanted, Oper.wp, go_sem, r0, r1, f0, f1]
                      refine .inl ?_
                      simp only [wpOps]
                      clear r0 r1 f0 f1 e7
                      go_wp2
                      go_roundw
                      case rel =>
                        refine ⟨t + 1, by omega, by go_num, Lib.hid ⟨?_, (HB5'.out.setCell HLo16.out _).setCell HLo16.out _⟩, HAl⟩
                        rw [← HS2.out]
                        exact (HM5.out.set0 _).set1 _
                      case measure => simp [intOf]; omega
                  · obtain rfl : t = np := by omega
                    have hall : ps.take t = ps := by rw [HNp.out, List.take_length]
                    have hE3 : E3 = 0 := by have := HA.out; rw [hall] at this; rw [HE3.out]; unfold unionE; rw [if_pos HOk.out, ← HM.out, if_pos this]
                    have hU0 : U = unionM M ps := by rw [HUe.out]; unfold unionR; rw [← HE3.out, hE3, if_pos rfl]
                    have hm := HJ.out.1
                    rw [hall, ← hU0] at hm
                    have z0 := hm.cell0
                    have z1 := hm.cell1
                    have hq : ∀ W, (Op.equalIn 10000 38 (.agg #[.int .u64 (U.1 : Nat), .int .u64 (U.2 : Nat)]) (.agg #[.int .u64 (U.1 : Nat), .int .u64 (U.2 : Nat)])).run Try.prog W = .ok true W := fun W => by
                      have := MskL.eqM U U W
                      rw [decide_eq_true rfl] at this
                      exact this
                    subst hE3
                    clear hall hU0 hm
                    go_wp2
                    go_ret
                    exact ⟨by first | rfl | simp, below_tr HB0.out (below_tr HB11.out HJ.out.2)⟩

set_option maxRecDepth 100000 in
theorem lifted (os : Os) (started : os.Started) (H : Type) (enc : TypeId × Value → H) :
    ReturnsInHanded {} Try.checked os 3 .any (Rows.listsDoesSpec.pre6 enc Try.prog Try.f3 Rows.listsDoesRow.domain false) (Rows.listsDoesSpec.post enc Try.prog Try.f3 false true false false) := by
  refine returnsInHanded_of_change (C := Try.checked) Try.own started (by kernel_rfl) Try.func3
    (ChangeSpec.witness6 (enc := enc) (C := Try.checked) false ⟨#[], #[.agg #[.slice none 0 0, .slice none 0 0], .agg #[.int .i64 0, .slice none 0 0, .slice none 0 0, .slice none 0 0]], []⟩ 8 (by kernel_rfl) (by kernel_rfl) (by kernel_rfl) (by kernel_rfl)) ?_
  intro W base args ds gs before hval0 hW hcnd _
  have hval : ∀ (j : Nat) t v, Try.f3.params[j]? = some t → args[j]? = some v → Value.okWide Try.prog W .any base t v := hval0
  have hW' := hW
  obtain ⟨p, q, hA0, hV, rfl, hfz, hnd⟩ := hW
  have hA : DataW.TrodAll enc Try.prog W 0 (fun _ => true) true Try.f3.params.toList args.toList ds p := hA0
  rw [Try.params3] at hA hval
  have hA' := hA
  obtain ⟨v0, vs0, d0, ds0, p0, q0, hargs, rfl, rfl, h0, r0⟩ := trodAll_cons hA
  obtain ⟨v1, vs1, d1, ds1, p1, q1, rfl, rfl, rfl, h1, r1⟩ := trodAll_cons r0
  obtain ⟨rfl, rfl, rfl⟩ := trodAll_nil r1
  obtain rfl : args = #[v0, v1] := by cases args; simp_all
  obtain ⟨rfl, rfl⟩ := trodVars_none hV
  obtain ⟨A0, c0, C0, B0, k0, M0, rfl, sl0⟩ := open_lists (hval 0 25 v0 rfl rfl) h0
  obtain ⟨s1, A1, c1, x1, B1, k1, y1, P1, e1, z1, rfl, ws1, sx1, sy1, sz1⟩ := open_deed (hval 1 29 v1 rfl rfl) h1
  clear hA0 hval0
  refine (walk A0 c0 C0 B0 k0 M0 sl0 s1 A1 c1 x1 B1 k1 y1 P1 e1 z1 ws1 sx1 sy1 sz1).mono fun e W' ⟨he, bel⟩ => ?_
  subst he
  exact ⟨_, rfl, _, _, _, [], _, [], hW', trodAll_mk1 (shut_bool Try.underlying4 _), trodAll_below bel _ _ _ _ (by kernel_rfl) hA', rfl, bel.frame _, fun h => by cases h⟩

theorem proved : Rows.ListsDoesSaid :=
  OpenClaim.holds_of_wide 3 Try.f3 rfl rfl rfl rfl rfl rfl rfl ⟨rfl, rfl, rfl, rfl, rfl⟩ rfl rfl rfl rfl rfl (by kernel_rfl) Try.func3 (by kernel_rfl)
    (of_decide_eq_true (by kernel_rfl)) (by unfold Func.isWrapper; first | (rw [if_pos (by decide +kernel)]; kernel_rfl) | (rw [if_neg (by decide +kernel)]; exact ⟨rfl, rfl⟩))
    (fun os started H enc _ => lifted os started H enc)
#print axioms proved
end Go.Proofs.Ytcekgllahlhaaaa.listsDoes
