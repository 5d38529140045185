/-
  ListsParts: each used slot of an arena is in just one of its lists, that of the centroid that is nearest; the Union of all has just the used slots. Holds for all arenas, centroids and worlds; what is more than the law goes through is answered at once.
-/
import Derived.Test.YtpeialkfddjndaaMLisW
import Derived.Test.YtpeialkfddjndaaLisParts
import Derived.Deep.RegionHeld3
import Derived.Deep.Cut
import Derived.WalkMore
namespace Go.Proofs.Ytpeialkfddjndaa.listsParts
open Go.ChangeShapes Go.WideShapes Go.ChangeAt Go.RowKit Go.Deep Go.Shelf
open MskL (Mk Ms mv has mk Fine MRow cnt hasB)
set_option linter.unusedVariables false
set_option linter.unusedSimpArgs false
set_option maxRecDepth 100000

def GL (n : Nat) (C : List (List Int)) (M : List Mk) (X : World) (e : Ending) (w' : World) : Prop := ∃ A c B d, e = .returned (.tuple #[.agg #[.slice A n c, .slice B n d], .int .i64 0]) ∧ Lis w' A c C B d M ∧ Below X.heap.size X w'
theorem build_yes {A Ac : Option Addr} {c cc n : Nat} {C : List (List Int)} {q : List Pa} {X : World} (hn : n = C.length) (ha : Are X A c q) (hc : Vecs .i32 X Ac cc C) (hE : buildE C (ces q) = 0) :
    Calls Try.prog 19 #[.agg #[.slice A q.length c], .slice Ac n cc] X (GL n C (masksOf C (ces q)) X) := by
  have h := build_any A c q Ac cc C X ha hc
  rw [← hn] at h
  refine h.mono fun e w' hh => ?_
  obtain ⟨A1, c1, B1, d1, he, h1, h2⟩ := hh.le
  unfold buildC buildM at he h1
  rw [hE, if_pos rfl, if_pos rfl] at he
  rw [hE, if_pos rfl, if_pos rfl] at h1
  unfold lv at he
  rw [masks_len, ← hn] at he
  exact ⟨A1, c1, B1, d1, he, h1, h2⟩
theorem build_not {A Ac : Option Addr} {c cc n : Nat} {C : List (List Int)} {q : List Pa} {X : World} (hn : n = C.length) (ha : Are X A c q) (hc : Vecs .i32 X Ac cc C) (hE : buildE C (ces q) ≠ 0) :
    Calls Try.prog 19 #[.agg #[.slice A q.length c], .slice Ac n cc] X (fun e w' => ∃ A1 c1 n1 B1 d1, e = .returned (.tuple #[.agg #[.slice A1 n1 c1, .slice B1 0 d1], .int .i64 (buildE C (ces q))]) ∧ Below X.heap.size X w') := by
  have h := build_any A c q Ac cc C X ha hc
  rw [← hn] at h
  refine h.mono fun e w' hh => ?_
  obtain ⟨A1, c1, B1, d1, he, h1, h2⟩ := hh.le
  unfold buildC buildM at he
  rw [if_neg hE, if_neg hE] at he
  exact ⟨A1, c1, _, B1, d1, he, h2⟩

theorem step_box {base : Nat} {w : World} {A1 : Option Addr} {c1 n ma mb : Nat} {xs : List Int} {x : Int} (h : OwnN base w A1 c1 xs) (hn : n = xs.length) (hB : base ≤ w.heap.size) (hx : (Lit.int .i64 x).wf = true) :
    Read ((w.alloc (.cells #[.int .u64 ma, .int .u64 mb] 54)).alloc (.cells #[.int .i64 x] 3)) (some ⟨w.heap.size + 1, 0, none⟩) 1 1 [.int .i64 x] ∧ ((w.alloc (.cells #[.int .u64 ma, .int .u64 mb] 54)).alloc (.cells #[.int .i64 x] 3)).ownsRow base 3 1 (.slice A1 n c1) n (xs.map (Value.int .i64)) ∧ base ≤ ((w.alloc (.cells #[.int .u64 ma, .int .u64 mb] 54)).alloc (.cells #[.int .i64 x] 3)).heap.size ∧
      ∀ A2 c2 W', W'.ownsRow base 3 1 (.slice A2 (n + 1) c2) (n + 1) (xs.map (Value.int .i64) ++ [.int .i64 x]) → ((w.alloc (.cells #[.int .u64 ma, .int .u64 mb] 54)).alloc (.cells #[.int .i64 x] 3)).grownBy W' (blk A1) → OwnN base W' A2 c2 (xs ++ [x]) ∧ Below base w W' ∧ MRow W' w.heap.size ma mb := by
  obtain ⟨V, hV⟩ : ∃ V, V = w.alloc (.cells #[.int .u64 ma, .int .u64 mb] 54) := ⟨_, rfl⟩
  have hbV : Below w.heap.size w V := by rw [hV]; exact (Below.refl _ w).alloc (Nat.le_refl _) _
  have hm : MRow V w.heap.size ma mb := by rw [hV]; exact MRow.new w ma mb
  have hs : V.heap.size = w.heap.size + 1 := by rw [hV]; exact World.size_alloc _ _
  rw [← hV]
  obtain ⟨r1, r2, r3, r4⟩ := h.step hn hbV hB hx
  rw [hs] at r1
  refine ⟨r1, r2, r3, fun A2 c2 W' ho hg => ?_⟩
  obtain ⟨h1, h2⟩ := r4 A2 c2 W' ho hg
  refine ⟨h1, h2, ?_⟩
  obtain ⟨_, _, _, _, hbl⟩ := hg
  have hlt := hm.lt
  have h3 := hbl w.heap.size (by rw [World.size_alloc]; omega) (fun e => by have := (h.low _ e.symm).2; omega)
  have h4 : MRow (V.alloc (.cells #[.int .i64 x] 3)) w.heap.size ma mb := hm.below ((Below.refl _ V).alloc (Nat.le_refl _) _) hlt
  exact h3.trans h4

set_option maxHeartbeats 16000000 in
theorem walk (A : Option Addr) (c : Nat) (q : List Pa) {w : World} (h : Are w A c q) (Ac : Option Addr) (cc : Nat) (C : List (List Int)) (hc : Vecs .i32 w Ac cc C) :
    Calls Try.prog 7 #[.agg #[.slice A q.length c], .slice Ac C.length cc] w fun e w' => e = .returned (.bool true) ∧ Below w.heap.size w w' := by
  obtain ⟨g, hg⟩ : ∃ g, g = w.heap.size := ⟨_, rfl⟩
  obtain ⟨N, hN⟩ : ∃ N, N = q.length := ⟨_, rfl⟩
  obtain ⟨n, hn⟩ : ∃ n, n = C.length := ⟨_, rfl⟩
  obtain ⟨M0, hM0⟩ : ∃ M, M = masksOf C (ces q) := ⟨_, rfl⟩
  obtain ⟨U, hU⟩ : ∃ M, M = unionM (masksOf C (ces q)) (rng C.length) := ⟨_, rfl⟩
  obtain ⟨SC, hSC⟩ : ∃ f, f = sumC C (ces q) := ⟨_, rfl⟩
  obtain ⟨F, hF⟩ : ∃ f, f = freeN (ces q) := ⟨_, rfl⟩
  obtain ⟨W0, hW0⟩ : ∃ W0, W0 = w.alloc (.cells #[.slice A N c] 37) := ⟨_, rfl⟩
  have hb0 : Below w.heap.size w W0 := by rw [hW0]; exact (Below.refl _ w).alloc (Nat.le_refl _) _
  have hx0 : W0.cell? ⟨g, 0, none⟩ = some (.slice A N c) := by rw [hW0, hg]; exact cell_laid _ _ _ 0
  have hst : ∀ (X : World) (hX : Below W0.heap.size W0 X) (p : Addr) (v : Value), W0.cell? p = some v → X.cell? p = some v := fun X hX p v hp => (hX.cell (World.block_lt_of_cell? _ _ hp)).trans hp
  have HS := Lib.hid (fun (X : World) (hX : Below W0.heap.size W0 X) => show X.cell? ⟨g, 0, none⟩ = some (.slice A N c) from hst X hX _ _ hx0)
  have hA := fun (X : World) (hX : Below W0.heap.size W0 X) => (h.below hb0).below hX
  have hV := fun (X : World) (hX : Below W0.heap.size W0 X) => (hc.below hb0).below hX
  have hl0 : M0.length = n := by rw [hM0, hn]; exact masks_len _ _
  have HWk := Lib.hid (wakes_any W0)
  have HO1 := Lib.hid (fun (X : World) (hX : Below W0.heap.size W0 X) => overA_any A c q X (hA X hX))
  have HO2 := Lib.hid (fun (X : World) (hX : Below W0.heap.size W0 X) => show Calls Try.prog 18 #[.slice Ac C.length cc] X (fun e w' => e = .returned (.bool (overV C)) ∧ Below X.heap.size X w') from (overV_any Ac cc C X (hV X hX)).mono (fun e w' hh => ⟨hh.1, hh.2 ▸ Below.refl _ _⟩))
  have HBn := Lib.hid (fun (hE : buildE C (ces q) ≠ 0) (X : World) (hX : Below W0.heap.size W0 X) => build_not hn (hA X hX) (hV X hX) hE)
  have HBy := Lib.hid (fun (hE : buildE C (ces q) = 0) (X : World) (hX : Below W0.heap.size W0 X) => show Calls Try.prog 19 #[.agg #[.slice A q.length c], .slice Ac n cc] X (GL n C M0 X) by rw [hM0]; exact build_yes hn (hA X hX) (hV X hX) hE)
  have HN96 := Lib.hid (fun (hE : buildE C (ces q) = 0) => show N = 96 from by rw [hN, ← ces_length]; exact arB_len (build_parts hE).1)
  have HSs := Lib.hid (fun (k : Nat) (m : Mk) (hm : M0[k]? = some m) => show SC (k + 1) = SC k + cnt (has m) 96 from by
    have hk : k < C.length := by have := (List.getElem?_eq_some_iff.1 hm).1; rw [hM0, masks_len] at this; exact this
    rw [hM0, masks_at hk] at hm
    rw [hSC, ← Option.some.inj hm]; rfl)
  have HSl := Lib.hid (fun (k : Nat) => show SC k ≤ 96 from by rw [hSC]; exact sum_le _ _ _)
  have HS0 := Lib.hid (show SC 0 = 0 from by rw [hSC]; rfl)
  have HUn := Lib.hid (fun (hE : buildE C (ces q) = 0) (A1 B1 Ap : Option Addr) (c1 d1 cp : Nat) (X : World) (hL : Lis X A1 c1 C B1 d1 M0) (hp : Vec .i64 X Ap cp (rng n)) => show Calls Try.prog 26 #[.agg #[.slice A1 n c1, .slice B1 n d1], .slice Ap n cp] X (fun e w' => e = .returned (.tuple #[.agg #[.int .u64 U.1, .int .u64 U.2], .int .i64 0]) ∧ Below X.heap.size X w') from by
    have := union_any A1 c1 C B1 d1 M0 Ap cp (rng n) X hL hp
    rw [rng_len, hM0, hn, (uni_good hE).1, (uni_good hE).2, ← hU, masks_len] at this
    rw [hn]
    exact this)
  have hUf : Fine U := by rw [hU]; exact MskL.mk_fine _
  have HCt := Lib.hid (fun (m : Mk) (hm : Fine m) (X : World) => show Calls Try.prog 35 #[.agg #[.int .u64 m.1, .int .u64 m.2]] X (fun e w' => e = .returned (.int .i64 (cnt (has m) 96)) ∧ Below X.heap.size X w') from MskL.count_any m X hm)
  have HCu := Lib.hid (fun (hE : buildE C (ces q) = 0) (hp : 0 < n) (X : World) => show Calls Try.prog 35 #[.agg #[.int .u64 U.1, .int .u64 U.2]] X (fun e w' => e = .returned (.int .i64 (SC n : Nat)) ∧ Below X.heap.size X w') from by
    have h96 := arB_len (build_parts hE).1
    have := MskL.count_any U X hUf
    rw [hn] at hp
    rw [show cnt (has U) 96 = SC n by rw [hU, uni_cnt hp h96, hSC, hn, sum_used hp h96]] at this
    exact this)
  have HSF := Lib.hid (fun (hE : buildE C (ces q) = 0) (hp : 0 < n) => show SC n + F = 96 from by
    have h96 := arB_len (build_parts hE).1
    rw [hn] at hp
    rw [hSC, hn, sum_used hp h96, hF, used_free, h96])
  have HFr := Lib.hid (fun (hE : buildE C (ces q) = 0) (X : World) (hX : Below W0.heap.size W0 X) => show Calls Try.prog 36 #[.agg #[.slice A N c]] X (fun e w' => e = .returned (.int .i64 (F : Nat)) ∧ Below X.heap.size X w') from by
    have := free_any A c q X (hA X hX)
    unfold freeA at this
    rw [(build_parts hE).1, if_pos rfl, ← hF, ← hN] at this
    exact this)
  have HWh := Lib.hid (fun (hE : buildE C (ces q) = 0) (hp : 0 < n) (A1 B1 : Option Addr) (c1 d1 k : Nat) (hk : k < 96) (X : World) (hL : Lis X A1 c1 C B1 d1 M0) => show Calls Try.prog 12 #[.agg #[.slice A1 n c1, .slice B1 n d1], .int .i64 (k : Nat)] X (fun e w' => e = .returned (.tuple #[.int .i64 (whereI C M0 (k : Int)), .bool (ceAt (ces q) k).u]) ∧ Below X.heap.size X w') from by
    have := where_any A1 c1 C B1 d1 M0 (k : Int) X hL (by omega)
    rw [hn] at hp
    unfold lv at this
    rw [hM0, (where_tells hE hp hk).1, masks_len, ← hM0, ← hn] at this
    exact this)
  have HWi := Lib.hid (fun (hE : buildE C (ces q) = 0) (hp : 0 < n) (k : Nat) (hk : k < 96) (hu : (ceAt (ces q) k).u = true) => show ∃ p : Nat, p < n ∧ whereI C M0 (k : Int) = (p : Int) ∧ nearM C (ceAt (ces q) k).x = p from by
    rw [hn] at hp ⊢
    rw [hM0]
    exact ⟨_, near_lt hp _, (where_tells hE hp hk).2 hu, rfl⟩)
  have HHa := Lib.hid (fun (hp : 0 < n) (k : Nat) (hk : k < 96) (X : World) => show Calls Try.prog 37 #[.agg #[.int .u64 U.1, .int .u64 U.2], .int .i64 (k : Nat)] X (fun e w' => e = .returned (.bool (ceAt (ces q) k).u) ∧ Below X.heap.size X w') from by
    have := MskL.has_any U (k : Int) X hUf (by omega)
    rw [hn] at hp
    rw [show hasB U (k : Int) = (ceAt (ces q) k).u by rw [hU]; exact uni_hasB hp hk] at this
    exact this)
  have HDi := Lib.hid (fun (hE : buildE C (ces q) = 0) (hp : 0 < n) (k i : Nat) (y : List Int) (hk : k < 96) (hu : (ceAt (ces q) k).u = true) (hy : C[i]? = some y) (A1 A2 : Option Addr) (c1 c2 : Nat) (X : World) (h1 : Vec .i32 X A1 c1 y) (h2 : Vec .i32 X A2 c2 (ceAt (ces q) k).x) => show Calls Try.prog 38 #[.slice A1 y.length c1, .slice A2 (ceAt (ces q) k).x.length c2] X (fun e w' => e = .returned (.tuple #[.int .u64 (farM C (ceAt (ces q) k).x i), .int .i64 0]) ∧ Below X.heap.size X w') from by
    have := dist_any A1 A2 c1 c2 y _ X h1 h2
    rw [hn] at hp
    rw [(far_good hE hp hk hu hy).1, (far_good hE hp hk hu hy).2] at this
    exact this)
  have HLe := Lib.hid (fun (k i p : Nat) (hi : i < n) (hp : nearM C (ceAt (ces q) k).x = p) => show farM C (ceAt (ces q) k).x p ≤ farM C (ceAt (ces q) k).x i ∧ (i < p → farM C (ceAt (ces q) k).x p < farM C (ceAt (ces q) k).x i) from by
    rw [← hp]
    exact far_least (by rw [← hn]; exact hi))
  have HC0 := Lib.hid (fun (hp : 0 < n) => show ∃ b0 o0, Ac = some ⟨b0, o0, none⟩ ∧ Hid (∀ i, i < n → ∃ y A' c', C[i]? = some y ∧ W0.cell? ⟨b0, o0 + i, none⟩ = some (.slice A' (List.length y) c') ∧ Vec .i32 W0 A' c' y) by
    obtain ⟨b0, o0, e0, _, hr⟩ := (hV W0 (Below.refl _ _)).rd (by rw [← hn]; exact hp)
    refine ⟨b0, o0, e0, Lib.hid fun i hi => ?_⟩
    have hy : C[i]? = some (C.getD i []) := by rw [hn] at hi; simp [List.getD, List.getElem?_eq_getElem hi]
    obtain ⟨A', c', h1, h2⟩ := hr i _ hy
    exact ⟨_, A', c', hy, h1, h2⟩)
  have HQ := Lib.hid (fun (X : World) (hX : Below W0.heap.size W0 X) => hA X hX)
  have HCe := Lib.hid (fun (k : Nat) (p : Pa) (hp : q[k]? = some p) => show ceAt (ces q) k = p.e from ceAt_some (by simp [ces, hp]))
  have HSt := Lib.hid hst
  have HB0 := Lib.hid hb0
  have HW0 := Lib.hid hW0
  have HG := Lib.hid hg
  have HM0 := Lib.hid hM0
  have HNq := Lib.hid hN
  have HLn := Lib.hid hl0
  have HSm := Lib.hid (fun (hE : buildE C (ces q) = 0) => show n ≤ 6 from by rw [hn]; exact (cen_small (build_parts hE).2.1).1)
  rw [← hN] at HO1 HBn HBy ⊢
  rw [← hn] at HO2 ⊢
  generalize hov1 : overB (ces q) = OV1 at *
  generalize hov2 : overV C = OV2 at *
  generalize buildE C (ces q) = E at *
  have x0 := HS.out W0 (Below.refl _ _)
  clear h hc hg hN hn hM0 hU hSC hF hb0 hx0 hst hA hV hl0 hUf hW0 hov1 hov2
  go_enter Try.func7, Try.ntmps7
  go_wp2_with (rw [← HW0.out, ← HG.out])
  refine HWk.out.mono ?_
  rintro e w1 ⟨rfl, hb1⟩
  have y0 := HS.out w1 hb1
  have HB1 := Lib.hid hb1
  clear hb1 x0
  go_wp2_with fail
  refine (HO1.out w1 HB1.out).mono ?_
  rintro e w2 ⟨rfl, hb2⟩
  have HB2 := Lib.hid (below_tr HB1.out hb2)
  have x0 := HS.out w2 HB2.out
  clear hb2 y0
  cases OV1 with
  | true =>
    go_wp2
    go_ret
    exact ⟨by first | rfl | simp, below_tr HB0.out HB2.out⟩
  | false =>
    go_wp2_with fail
    refine (HO2.out w2 HB2.out).mono ?_
    rintro e w3 ⟨rfl, hb3⟩
    have HB3 := Lib.hid (below_tr HB2.out hb3)
    have y0 := HS.out w3 HB3.out
    clear hb3 x0
    cases OV2 with
    | true =>
      go_wp2
      go_ret
      exact ⟨by first | rfl | simp, below_tr HB0.out HB3.out⟩
    | false =>
      by_cases hE : E = 0
      · subst hE
        have HBy0 := Lib.hid (HBy.out rfl)
        have hN96 := HN96.out rfl
        subst hN96
        by_cases h0 : n = 0
        · have j0 : ((n : Int) == 0) = true := by simp [h0]
          have j1 : (n == 0) = true := by simp [h0]
          have j2 : ((n : Int) = 0) = True := by simp [h0]
          clear h0
          go_wp2_with fail
          refine (HBy0.out w3 HB3.out).mono ?_
          rintro e w5 ⟨A1, c1, B1, d1, rfl, hl5, hb5⟩
          obtain ⟨p5, hp5⟩ : ∃ p, p = w5.heap.size := ⟨_, rfl⟩
          obtain ⟨V5, hV5⟩ : ∃ V, V = w5.alloc (.cells #[.slice A1 n c1, .slice B1 n d1] 25) := ⟨_, rfl⟩
          obtain ⟨hl7, hb7⟩ := lbox w5 A1 n c1 B1 n d1
          rw [← hV5] at hl7 hb7
          rw [← hp5] at hl7
          have HL5 := Lib.hid (fun (X : World) (hX : Below V5.heap.size V5 X) => show Lis X A1 c1 C B1 d1 M0 from (hl5.below hb7).below hX)
          have HB5 := Lib.hid (below_tr HB3.out (below_tr hb5 hb7))
          have HS5 := Lib.hid (fun (X : World) (hX : Below V5.heap.size V5 X) => show X.cell? ⟨g, 0, none⟩ = some (.slice A 96 c) ∧ (X.cell? ⟨p5, 0, none⟩ = some (.slice A1 n c1) ∧ X.cell? ⟨p5, 1, none⟩ = some (.slice B1 n d1)) from
            ⟨HS.out X (below_tr HB5.out hX), (hl7.below hX hl7.lt).c0, (hl7.below hX hl7.lt).c1⟩)
          have x0 := hl7.c0
          have x1 := hl7.c1
          obtain ⟨k0, k1, k2⟩ := HS5.out (w5.alloc (.cells #[.slice A1 n c1, .slice B1 n d1] 25)) (by rw [← hV5]; exact Below.refl _ _)
          have HV5 := Lib.hid hV5
          have HP5 := Lib.hid hp5
          clear hb5 hl5 hl7 hb7 hV5 hp5 y0
          rw [HP5.out] at x0 x1
          clear x0 x1
          go_wp2
          go_ret
          exact ⟨by first | rfl | simp, by rw [← HV5.out]; exact below_tr HB0.out HB5.out⟩
        · have HNn := Lib.hid (show n ≤ 96 by have := HSm.out rfl; omega)
          have j0 : ((n : Int) == 0) = false := by simp; omega
          have j1 : (n == 0) = false := by simp; omega
          have hpos : 0 < n := by omega
          have HUn0 := Lib.hid (HUn.out rfl)
          have HCu0 := Lib.hid (HCu.out rfl hpos)
          have HSF0 := Lib.hid (HSF.out rfl hpos)
          have HFr0 := Lib.hid (HFr.out rfl)
          have HWh0 := Lib.hid (HWh.out rfl hpos)
          have HWi0 := Lib.hid (HWi.out rfl hpos)
          have HHa0 := Lib.hid (HHa.out hpos)
          have HDi0 := Lib.hid (HDi.out rfl hpos)
          obtain ⟨bc, oc, hAc, HRow⟩ := HC0.out hpos
          subst hAc
          clear hpos h0
          go_wp2_with fail
          refine (HBy0.out w3 HB3.out).mono ?_
          rintro e w5 ⟨A1, c1, B1, d1, rfl, hl5, hb5⟩
          obtain ⟨p5, hp5⟩ : ∃ p, p = w5.heap.size := ⟨_, rfl⟩
          obtain ⟨V5, hV5⟩ : ∃ V, V = w5.alloc (.cells #[.slice A1 n c1, .slice B1 n d1] 25) := ⟨_, rfl⟩
          obtain ⟨hl7, hb7⟩ := lbox w5 A1 n c1 B1 n d1
          rw [← hV5] at hl7 hb7
          rw [← hp5] at hl7
          have HL5 := Lib.hid (fun (X : World) (hX : Below V5.heap.size V5 X) => show Lis X A1 c1 C B1 d1 M0 from (hl5.below hb7).below hX)
          have HB5 := Lib.hid (below_tr HB3.out (below_tr hb5 hb7))
          have HS5 := Lib.hid (fun (X : World) (hX : Below V5.heap.size V5 X) => show X.cell? ⟨g, 0, none⟩ = some (.slice A 96 c) ∧ (X.cell? ⟨p5, 0, none⟩ = some (.slice A1 n c1) ∧ X.cell? ⟨p5, 1, none⟩ = some (.slice B1 n d1)) from
            ⟨HS.out X (below_tr HB5.out hX), (hl7.below hX hl7.lt).c0, (hl7.below hX hl7.lt).c1⟩)
          have x0 := hl7.c0
          have x1 := hl7.c1
          obtain ⟨k0, k1, k2⟩ := HS5.out (w5.alloc (.cells #[.slice A1 n c1, .slice B1 n d1] 25)) (by rw [← hV5]; exact Below.refl _ _)
          have HV5 := Lib.hid hV5
          have HP5 := Lib.hid hp5
          clear hb5 hl5 hl7 hb7 hV5 hp5 y0
          go_wp2_with (rw [← HV5.out, ← HP5.out])
          clear k0 k1 k2 x0 x1
          go_loopw [7, 8, 50] (fun s t i wr => ∃ k A5 c5, k ≤ n ∧ i = .int .i64 (k : Nat) ∧ s = .slice A5 k c5 ∧ t = .int .i64 (SC k : Nat) ∧ Hid (OwnN V5.heap.size wr A5 c5 (rng k) ∧ Below V5.heap.size V5 wr)) (fun _ _ i _ => n - (intOf i).toNat)
          case atStart => exact ⟨0, none, 0, Nat.zero_le _, rfl, rfl, by rw [HS0.out]; rfl, Lib.hid ⟨OwnN.nil _ _, Below.refl _ _⟩⟩
          case round =>
            obtain ⟨k, A5, c5, hk, rfl, rfl, rfl, HI⟩ := hrel
            obtain ⟨z0, z1, z2⟩ := HS5.out wr HI.out.2
            have hk96 : k ≤ 96 := by have := HNn.out; omega
            by_cases hkn : k < n
            · obtain ⟨b, o, x, y, rfl, hb, hx, hx1, hx2, d0, d1'⟩ := (HL5.out wr HI.out.2).ms.at_ (k := k) (by rw [HLn.out]; exact hkn)
              have k0 : (0 : Int) ≤ k := by omega
              have km : (k : Int) < n := by omega
              have HCk := Lib.hid (HCt.out (x, y) ⟨hx1, hx2⟩)
              have HSk := Lib.hid (HSs.out k _ hx)
              have HS9 := Lib.hid (And.intro (HSl.out k) (HSl.out (k + 1)))
              obtain ⟨r1, r2, r3, r4⟩ := step_box (x := (k : Int)) (ma := x) (mb := y) HI.out.1 (rng_len k).symm HI.out.2.size (WalkArith.wf_i64 (by omega))
              generalize cnt (has (x, y)) 96 = CN at *
              generalize SC k = S0 at *
              generalize hs1 : SC (k + 1) = S1 at *
              have HS1 := Lib.hid hs1
              dsimp only at HCk
              have HR := Lib.hid r1
              have HO := Lib.hid r2
              have H4 := Lib.hid r4
              have hdm : (d1 : Int) ≤ 9223372036854775807 := by have := (HL5.out wr HI.out.2).ms.most; omega
              clear hx hx1 hx2 hb r1 r2 r4 hs1
              go_wp2_with (at_builtin; refine gapp_at rfl (.tmp 55) (.tmp 57) appN rfl V5.heap.size A5 c5 k ((rng k).map (Value.int .i64)) rfl HO.out (some ⟨wr.heap.size + 1, 0, none⟩) 1 1 [.int .i64 (k : Nat)] rfl HR.out (by omega) r3 ?_; intro A6 c6 w4 ho hg _; have HN4 := Lib.hid (H4.out A6 c6 w4 ho hg); have m0 := HN4.out.2.2.cell0; have m1 := HN4.out.2.2.cell1; clear ho hg)
              refine (HCk.out w4).mono ?_
              rintro e w6 ⟨rfl, hb6⟩
              have HN6 := Lib.hid (And.intro (HN4.out.1.below hb6) (below_tr (HI.out.2.trans HN4.out.2.1) hb6))
              clear hb6 z0 z1 z2 d0 d1' m0 m1 r3
              have s1 := HS9.out.1
              have s2 := HS9.out.2
              have s3 := HSk.out
              go_wp2
              go_roundw
              case rel => exact ⟨k + 1, A6, c6, by omega, by go_num, rfl, by rw [HS1.out, s3]; go_num, Lib.hid ⟨by rw [rng_succ]; exact HN6.out.1, HN6.out.2⟩⟩
              case measure => simp [intOf]; omega
            · obtain rfl : k = n := by omega
              clear hk
              have HVp := Lib.hid HI.out.1.vec
              go_wp2_with fail
              refine (HUn0.out A1 B1 A5 c1 d1 c5 wr (HL5.out wr HI.out.2) HVp.out).mono ?_
              rintro e w7 ⟨rfl, hb7⟩
              obtain ⟨p11, hp11⟩ : ∃ p, p = w7.heap.size := ⟨_, rfl⟩
              obtain ⟨V11, hV11⟩ : ∃ V, V = w7.alloc (.cells #[.int .u64 U.1, .int .u64 U.2] 54) := ⟨_, rfl⟩
              obtain ⟨hbV, hm11⟩ := MskL.mbox_world w7 U
              rw [← hV11, ← hp11] at hm11
              rw [← hV11] at hbV
              have HB11 := Lib.hid (below_tr HI.out.2 (below_tr hb7 hbV))
              have HS11 := Lib.hid (fun (X : World) (hX : Below V11.heap.size V11 X) => show (X.cell? ⟨g, 0, none⟩ = some (.slice A 96 c) ∧ (X.cell? ⟨p5, 0, none⟩ = some (.slice A1 k c1) ∧ X.cell? ⟨p5, 1, none⟩ = some (.slice B1 k d1))) ∧ (X.cell? ⟨p11, 0, none⟩ = some (.int .u64 U.1) ∧ X.cell? ⟨p11, 1, none⟩ = some (.int .u64 U.2)) from
                ⟨HS5.out X (below_tr HB11.out hX), (hm11.below hX hm11.lt).cell0, (hm11.below hX hm11.lt).cell1⟩)
              obtain ⟨⟨x0, x1, x2⟩, x3, x4⟩ := HS11.out V11 (Below.refl _ _)
              obtain ⟨⟨k0, k1, k2⟩, k3, k4⟩ := HS11.out (w7.alloc (.cells #[.int .u64 U.1, .int .u64 U.2] 54)) (by rw [← hV11]; exact Below.refl _ _)
              have HV11 := Lib.hid hV11
              have HP11 := Lib.hid hp11
              have HW11 := Lib.hid (fun (X : World) (hX : Below V11.heap.size V11 X) => show Below W0.heap.size W0 X from below_tr HB5.out (below_tr HB11.out hX))
              have hS96 := HSl.out k
              have hSF := HSF0.out
              generalize SC k = S at *
              clear hb7 hp11 hV11 hbV hm11 z0 z1 z2
              have hne : ((S : Int) != (S : Int)) = false := by simp
              have hne3 : (S : Int) = 96 - (F : Int) := by omega
              have hne2 : ((S : Int) != 96 - (F : Int)) = false := by simp [hne3]
              clear hne3
              go_wp2_with fail
              rw [← HV11.out, ← HP11.out]
              clear k0 k1 k2 k3 k4
              refine (HCu0.out V11).mono ?_
              rintro e w8 ⟨rfl, hb8⟩
              have HB8 := Lib.hid hb8
              obtain ⟨⟨y0, y1, y2⟩, y3, y4⟩ := HS11.out w8 HB8.out
              clear hb8 x0 x1 x2 x3 x4
              go_wp2_with fail
              refine (HFr0.out w8 (HW11.out w8 HB8.out)).mono ?_
              rintro e w9 ⟨rfl, hb9⟩
              have HB9 := Lib.hid (below_tr HB8.out hb9)
              obtain ⟨⟨x0, x1, x2⟩, x3, x4⟩ := HS11.out w9 HB9.out
              clear hb9 y0 y1 y2 y3 y4
              go_wp2
              clear x0 x1 x2 x3 x4 hne hne2 hS96 hSF
              go_loopw [88] (fun i wr => ∃ k : Nat, k ≤ 96 ∧ i = .int .i64 k ∧ Hid (Below V11.heap.size V11 wr)) (fun i _ => 96 - (intOf i).toNat)
              case atStart => exact ⟨0, Nat.zero_le _, rfl, HB9⟩
              case round =>
                obtain ⟨j, hj, rfl, HW⟩ := hrel
                obtain ⟨⟨x0, x1, x2⟩, x3, x4⟩ := HS11.out wr HW.out
                by_cases hjm : j < 96
                · obtain ⟨b, o, p, rfl, hp, hb, c0, c1', c2, c3, c4, hv, hf⟩ := (HQ.out wr (HW11.out wr HW.out)).at_ (i := j) (by rw [← HNq.out]; exact hjm)
                  have j0 : (0 : Int) ≤ j := by omega
                  have jm : (j : Int) < 96 := by omega
                  have hce := HCe.out j p hp
                  have HWhj := Lib.hid (fun (X : World) (hX : Below V11.heap.size V11 X) => HWh0.out A1 B1 c1 d1 j hjm X (HL5.out X (below_tr HB11.out hX)))
                  have HHaj := Lib.hid (HHa0.out j hjm)
                  have HWij := Lib.hid (HWi0.out j hjm)
                  have HDij := Lib.hid (fun (i : Nat) (y : List Int) (hu : (ceAt (ces q) j).u = true) (hy : C[i]? = some y) => HDi0.out j i y hjm hu hy)
                  have HLej := Lib.hid (HLe.out j)
                  rw [hce] at HWhj HHaj HWij HDij HLej
                  have hcm : (c : Int) ≤ 9223372036854775807 := by have := (HQ.out wr (HW11.out wr HW.out)).most; omega
                  obtain ⟨⟨u, i, bg, en, xs⟩, Bp, cp⟩ := p
                  dsimp only at c0 c1' c2 c3 c4 hv hf HWhj HHaj HWij HDij HLej
                  obtain ⟨xl, hxl⟩ : ∃ n, n = xs.length := ⟨_, rfl⟩
                  rw [← hxl] at c4 HDij
                  obtain ⟨p13, hp13⟩ : ∃ p, p = wr.heap.size := ⟨_, rfl⟩
                  obtain ⟨V13, hV13⟩ : ∃ V, V = wr.alloc (.cells #[.bool u, .int .u64 i, .int .u64 bg, .int .u64 en, .slice Bp xl cp] 76) := ⟨_, rfl⟩
                  have hbV13 : Below wr.heap.size wr V13 := by rw [hV13]; exact (Below.refl _ _).alloc (Nat.le_refl _) _
                  have hq0 : V13.cell? ⟨p13, 0, none⟩ = some (.bool u) := by rw [hV13, hp13]; exact cell_laid _ _ _ 0
                  have hq4 : V13.cell? ⟨p13, 4, none⟩ = some (.slice Bp xl cp) := by rw [hV13, hp13]; exact cell_laid _ _ _ 4
                  have HB13 := Lib.hid (below_tr HW.out hbV13)
                  have HS13 := Lib.hid (fun (X : World) (hX : Below V13.heap.size V13 X) => show ((X.cell? ⟨g, 0, none⟩ = some (.slice (some ⟨b, o, none⟩) 96 c) ∧ (X.cell? ⟨p5, 0, none⟩ = some (.slice A1 k c1) ∧ X.cell? ⟨p5, 1, none⟩ = some (.slice B1 k d1))) ∧ (X.cell? ⟨p11, 0, none⟩ = some (.int .u64 U.1) ∧ X.cell? ⟨p11, 1, none⟩ = some (.int .u64 U.2))) ∧ (X.cell? ⟨p13, 0, none⟩ = some (.bool u) ∧ X.cell? ⟨p13, 4, none⟩ = some (.slice Bp xl cp)) from
                    ⟨HS11.out X (below_tr HB13.out hX), (hX.cell (p := ⟨p13, 0, none⟩) (World.block_lt_of_cell? _ _ hq0)).trans hq0, (hX.cell (p := ⟨p13, 4, none⟩) (World.block_lt_of_cell? _ _ hq4)).trans hq4⟩)
                  have HXv := Lib.hid (fun (X : World) (hX : Below V13.heap.size V13 X) => show Vec .i32 X Bp cp xs from (hv.below hbV13).below hX)
                  obtain ⟨⟨⟨y0, y1, y2⟩, y3, y4⟩, y5, y6⟩ := HS13.out V13 (Below.refl _ _)
                  obtain ⟨⟨⟨k0, k1, k2⟩, k3, k4⟩, k5, k6⟩ := HS13.out (wr.alloc (.cells #[.bool u, .int .u64 i, .int .u64 bg, .int .u64 en, .slice Bp xl cp] 76)) (by rw [← hV13]; exact Below.refl _ _)
                  have HV13 := Lib.hid hV13
                  have HP13 := Lib.hid hp13
                  clear hce hp hb hv hf hxl hp13 hV13 hbV13 hq0 hq4
                  go_wp2_with fail
                  rw [← HV13.out, ← HP13.out]
                  clear k0 k1 k2 k3 k4 k5 k6 x0 x1 x2 x3 x4 c0 c1' c2 c3 c4
                  refine (HWhj.out V13 HB13.out).mono ?_
                  rintro e w14 ⟨rfl, hb14⟩
                  have HB14 := Lib.hid hb14
                  obtain ⟨⟨⟨x0, x1, x2⟩, x3, x4⟩, x5, x6⟩ := HS13.out w14 HB14.out
                  clear hb14 y0 y1 y2 y3 y4 y5 y6
                  cases u with
                  | false =>
                    have HR23 := Lib.hid (fun (X : World) (hX : Below V13.heap.size V13 X) => show X.cell? ⟨p13, 0, none⟩ = some (.bool false) ∧ X.cell? ⟨p11, 0, none⟩ = some (.int .u64 U.1) ∧ X.cell? ⟨p11, 1, none⟩ = some (.int .u64 U.2) from ⟨(HS13.out X hX).2.1, (HS13.out X hX).1.2.1, (HS13.out X hX).1.2.2⟩)
                    go_upto_region 23 with fail
                    go_region_held3 (fun X => X.cell? ⟨p13, 0, none⟩ = some (.bool false) ∧ X.cell? ⟨p11, 0, none⟩ = some (.int .u64 U.1) ∧ X.cell? ⟨p11, 1, none⟩ = some (.int .u64 U.2))
                      (first | (with_reducible exact ⟨x5, x3, x4⟩) | (with_reducible exact HR23.out _ (below_drew HB14.out)) | (with_reducible exact HR23.out _ HB15.out)) (first
                      | (go_at_call 37; (with_reducible refine (HHaj.out _).mono ?_); rintro e w15 ⟨rfl, hb15⟩; have HB15 := Lib.hid (below_tr (below_drew HB14.out) hb15); clear hb15))
                    all_goals (
                      obtain ⟨⟨⟨y0, y1, y2⟩, y3, y4⟩, y5, y6⟩ := HS13.out w15 HB15.out
                      clear x0 x1 x2 x3 x4 x5 x6
                      go_wp2
                      go_roundw
                      case rel => exact ⟨j + 1, by omega, by go_num, Lib.hid (below_tr HB13.out HB15.out)⟩
                      case measure => simp [intOf]; omega)
                  | true =>
                    obtain ⟨P, hPn, hPi, hPm⟩ := HWij.out rfl
                    rw [hPi]
                    have HPm := Lib.hid hPm
                    obtain ⟨y, Ay, cy, hy, hcell, hvy⟩ := HRow.out P hPn
                    have HDb := Lib.hid (HDij.out P y (by first | trivial | rfl) hy)
                    obtain ⟨yl, hyl⟩ : ∃ n, n = y.length := ⟨_, rfl⟩
                    rw [← hyl] at HDb hcell
                    have HCy := Lib.hid hcell
                    have HVy := Lib.hid hvy
                    clear hPi hPm hy hyl hcell hvy
                    have HR23 := Lib.hid (fun (X : World) (hX : Below V13.heap.size V13 X) => show X.cell? ⟨p13, 0, none⟩ = some (.bool true) ∧ X.cell? ⟨p11, 0, none⟩ = some (.int .u64 U.1) ∧ X.cell? ⟨p11, 1, none⟩ = some (.int .u64 U.2) from ⟨(HS13.out X hX).2.1, (HS13.out X hX).1.2.1, (HS13.out X hX).1.2.2⟩)
                    go_upto_region 23 with fail
                    go_region_held3 (fun X => X.cell? ⟨p13, 0, none⟩ = some (.bool true) ∧ X.cell? ⟨p11, 0, none⟩ = some (.int .u64 U.1) ∧ X.cell? ⟨p11, 1, none⟩ = some (.int .u64 U.2))
                      (first | (with_reducible exact ⟨x5, x3, x4⟩) | (with_reducible exact HR23.out _ (below_drew HB14.out)) | (with_reducible exact HR23.out _ HB15.out)) (first
                      | (go_at_call 37; (with_reducible refine (HHaj.out _).mono ?_); rintro e w15 ⟨rfl, hb15⟩; have HB15 := Lib.hid (below_tr (below_drew HB14.out) hb15); clear hb15))
                    all_goals (
                      have HR26 := Lib.hid (fun (X : World) (hX : Below V13.heap.size V13 X) => show X.cell? ⟨bc, oc + P, none⟩ = some (.slice Ay yl cy) ∧ X.cell? ⟨p13, 4, none⟩ = some (.slice Bp xl cp) from ⟨HSt.out X (HW11.out X (below_tr HB13.out hX)) _ _ HCy.out, (HS13.out X hX).2.2⟩)
                      have HDb2 := Lib.hid (fun (X : World) (hX : Below V13.heap.size V13 X) => HDb.out Ay Bp cy cp X (HVy.out.below (HW11.out X (below_tr HB13.out hX))) (HXv.out X hX))
                      obtain ⟨z0, z1⟩ := HR26.out w15 HB15.out
                      obtain ⟨⟨⟨y0, y1, y2⟩, y3, y4⟩, y5, y6⟩ := HS13.out w15 HB15.out
                      have P0 : (0 : Int) ≤ P := by omega
                      have Pn : (P : Int) < k := by omega
                      clear x0 x1 x2 x3 x4 x5 x6
                      go_upto_region 26 with fail
                      go_region_held3 (fun X => X.cell? ⟨bc, oc + P, none⟩ = some (.slice Ay yl cy) ∧ X.cell? ⟨p13, 4, none⟩ = some (.slice Bp xl cp))
                        (first | (with_reducible exact ⟨z0, z1⟩) | (with_reducible exact HR26.out _ (below_drew HB15.out)) | (with_reducible exact HR26.out _ HB16.out)) (first
                        | (go_at_call 38; (with_reducible refine (HDb2.out _ (below_drew HB15.out)).mono ?_); rintro e w16 ⟨rfl, hb16⟩; have HB16 := Lib.hid (below_tr (below_drew HB15.out) hb16); clear hb16))
                      all_goals (
                        clear y0 y1 y2 y3 y4 y5 y6 z0 z1
                        go_wp2
                        go_loopw [129] (fun i wr => ∃ t : Nat, t ≤ k ∧ i = .int .i64 t ∧ Hid (Below V13.heap.size V13 wr)) (fun i _ => k - (intOf i).toNat)
                        case atStart => exact ⟨0, Nat.zero_le _, rfl, HB16⟩
                        case round =>
                          obtain ⟨t, ht, rfl, HT⟩ := hrel
                          obtain ⟨⟨⟨y0, y1, y2⟩, y3, y4⟩, y5, y6⟩ := HS13.out wr HT.out
                          by_cases htk : t < k
                          · obtain ⟨yt, At, ct, hyt, hct, hvt⟩ := HRow.out t htk
                            have HDt := Lib.hid (HDij.out t yt (by first | trivial | rfl) hyt)
                            obtain ⟨ytl, hytl⟩ : ∃ n, n = yt.length := ⟨_, rfl⟩
                            rw [← hytl] at HDt hct
                            have z0 := HSt.out wr (HW11.out wr (below_tr HB13.out HT.out)) _ _ hct
                            have t0 : (0 : Int) ≤ t := by omega
                            have tk : (t : Int) < k := by omega
                            have HDt2 := Lib.hid (HDt.out At Bp ct cp wr (hvt.below (HW11.out wr (below_tr HB13.out HT.out))) (HXv.out wr HT.out))
                            obtain ⟨l1, l2⟩ := HLej.out t P htk HPm.out
                            obtain ⟨D, hD⟩ : ∃ D, D = farM C xs t := ⟨_, rfl⟩
                            rw [← hD] at HDt2 l1 l2
                            generalize farM C xs P = D0 at *
                            have q1 : decide (D < D0) = false := decide_eq_false (by omega)
                            have q2 : (D == D0 && decide ((t : Int) < (P : Int))) = false := by
                              rw [Bool.and_eq_false_iff]
                              by_cases hq : t < P
                              · left; simp; have := l2 hq; omega
                              · right; exact decide_eq_false (by omega)
                            clear hyt hct hvt hytl hD
                            go_wp2_with fail
                            refine HDt2.out.mono ?_
                            rintro e w18 ⟨rfl, hb18⟩
                            have HB18 := Lib.hid (below_tr HT.out hb18)
                            clear hb18 y0 y1 y2 y3 y4 y5 y6 z0
                            cases hq : (D == D0) with
                            | false =>
                              clear q2 l1 l2
                              go_wp2
                              go_roundw
                              case rel => exact ⟨t + 1, by omega, by go_num, HB18⟩
                              case measure => simp [intOf]; omega
                            | true =>
                              rw [hq, Bool.true_and] at q2
                              obtain rfl : D = D0 := by simpa using hq
                              have q4 : ¬ ((t : Int) < (P : Int)) := of_decide_eq_false q2
                              have q5 : decide (t < P) = false := decide_eq_false (by omega)
                              have q6 : ¬ t < P := of_decide_eq_false q5
                              have q7 : (D == D) = true := by simp
                              clear l1 l2 hq q4 q6
                              go_wp2
                              go_roundw
                              case rel => exact ⟨t + 1, by omega, by go_num, HB18⟩
                              case measure => simp [intOf]; omega
                          · obtain rfl : t = k := by omega
                            clear y0 y1 y2 y3 y4 y5 y6
                            go_wp2
                            go_roundw
                            case rel => exact ⟨j + 1, by omega, by go_num, Lib.hid (below_tr HB13.out HT.out)⟩
                            case measure => simp [intOf]; omega))
                · obtain rfl : j = 96 := by omega
                  go_wp2
                  go_ret
                  exact ⟨by first | rfl | simp, below_tr HB0.out (HW11.out wr HW.out)⟩
      · have n1 : ((E : Int) == 0) = false := by simpa using hE
        have n2 : ((E : Int) != 0) = true := by simpa using hE
        have HBn0 := Lib.hid (HBn.out hE)
        clear hE
        go_wp2_with fail
        refine (HBn0.out w3 HB3.out).mono ?_
        rintro e w5 ⟨A1, c1, n1', B1, d1, rfl, hb5⟩
        obtain ⟨hl7, hb7⟩ := lbox w5 A1 n1' c1 B1 0 d1
        have x0 := hl7.c0
        have x1 := hl7.c1
        have HB7 := Lib.hid (below_tr HB3.out (below_tr hb5 hb7))
        clear hb5 hl7 hb7 y0
        go_wp2
        go_ret
        exact ⟨by first | rfl | simp, below_tr HB0.out HB7.out⟩

set_option maxRecDepth 100000 in
theorem lifted (os : Os) (started : os.Started) (H : Type) (enc : TypeId × Value → H) :
    ReturnsInHanded {} Try.checked os 7 .any (Rows.listsPartsSpec.pre6 enc Try.prog Try.f7 Rows.listsPartsRow.domain false) (Rows.listsPartsSpec.post enc Try.prog Try.f7 false true false false) := by
  refine returnsInHanded_of_change (C := Try.checked) Try.own started (by kernel_rfl) Try.func7
    (ChangeSpec.witness6 (enc := enc) (C := Try.checked) false ⟨#[], #[.agg #[.slice none 0 0], .slice none 0 0], []⟩ 8 (by kernel_rfl) (by kernel_rfl) (by kernel_rfl) (by kernel_rfl)) ?_
  intro W base args ds gs before hval0 hW hcnd _
  have hval : ∀ (j : Nat) t v, Try.f7.params[j]? = some t → args[j]? = some v → Value.okWide Try.prog W .any base t v := hval0
  have hW' := hW
  obtain ⟨p, q, hA0, hV, rfl, hfz, hnd⟩ := hW
  have hA : DataW.TrodAll enc Try.prog W 0 (fun _ => true) true Try.f7.params.toList args.toList ds p := hA0
  rw [Try.params7] at hA hval
  have hA' := hA
  obtain ⟨v0, vs0, d0, ds0, p0, q0, hargs, rfl, rfl, h0, r0⟩ := trodAll_cons hA
  obtain ⟨v1, vs1, d1, ds1, p1, q1, rfl, rfl, rfl, h1, r1⟩ := trodAll_cons r0
  obtain ⟨rfl, rfl, rfl⟩ := trodAll_nil r1
  obtain rfl : args = #[v0, v1] := by cases args; simp_all
  obtain ⟨rfl, rfl⟩ := trodVars_none hV
  obtain ⟨A0, c0, z0, rfl, sl0⟩ := open_arena (hval 0 37 v0 rfl rfl) h0
  obtain ⟨A1, len1, c1, rfl⟩ := okWide_slice Try.underlying22 (hval 1 22 v1 rfl rfl)
  obtain ⟨z1, rfl, sl1⟩ := open_vecs h1
  clear hA0 hval0
  refine (walk A0 c0 z0 sl0 A1 c1 z1 sl1).mono fun e W' ⟨he, bel⟩ => ?_
  subst he
  exact ⟨_, rfl, _, _, _, [], _, [], hW', trodAll_mk1 (shut_bool Try.underlying4 _), trodAll_below bel _ _ _ _ (by kernel_rfl) hA', rfl, bel.frame _, fun h => by cases h⟩

theorem proved : Rows.ListsPartsSaid :=
  OpenClaim.holds_of_wide 7 Try.f7 rfl rfl rfl rfl rfl rfl rfl ⟨rfl, rfl, rfl, rfl, rfl⟩ rfl rfl rfl rfl rfl (by kernel_rfl) Try.func7 (by kernel_rfl)
    (of_decide_eq_true (by kernel_rfl)) (by unfold Func.isWrapper; first | (rw [if_pos (by decide +kernel)]; kernel_rfl) | (rw [if_neg (by decide +kernel)]; exact ⟨rfl, rfl⟩))
    (fun os started H enc _ => lifted os started H enc)
#print axioms proved
end Go.Proofs.Ytpeialkfddjndaa.listsParts
