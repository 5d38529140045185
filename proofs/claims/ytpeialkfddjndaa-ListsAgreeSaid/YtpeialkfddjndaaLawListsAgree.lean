/-
  ListsAgree: lists that are built of an arena agree with it; those that what is put is added to, and what is dropped is taken from, agree with the arena that is left. Holds for all arenas, centroids, deeds and worlds; what is more than the law goes through is answered at once.
-/
import Derived.Test.YtpeialkfddjndaaMLisW
import Derived.Test.YtpeialkfddjndaaLisKeep
import Derived.Test.YtpeialkfddjndaaMArf
namespace Go.Proofs.Ytpeialkfddjndaa.listsAgree
open Go.ChangeShapes Go.WideShapes Go.ChangeAt Go.RowKit Go.Deep Go.Shelf
open MskL (Mk Ms mv has mk Fine)
set_option linter.unusedVariables false
set_option linter.unusedSimpArgs false
set_option maxRecDepth 100000

/-! ### the calls, as the law meets them -/
def GL (n : Nat) (C : List (List Int)) (M : List Mk) (X : World) (e : Ending) (w' : World) : Prop := ∃ A c B d, e = .returned (.tuple #[.agg #[.slice A n c, .slice B n d], .int .i64 0]) ∧ Lis w' A c C B d M ∧ Below X.heap.size X w'
theorem agrees_yes {A Ar B : Option Addr} {c d ca n : Nat} {C : List (List Int)} {M : List Mk} {q : List Pa} {X : World} (hn : n = C.length) (hM : M.length = n) (hl : Lis X A c C B d M) (ha : Are X Ar ca q) (hy : agreeB C M (ces q) = true) :
    Calls Try.prog 20 #[.agg #[.slice A n c, .slice B n d], .agg #[.slice Ar q.length ca]] X fun e w' => e = .returned (.bool true) ∧ Below X.heap.size X w' := by
  have h := agrees_any A c C B d M Ar ca q X hl ha
  rw [hy] at h
  unfold lv at h
  rw [hM, ← hn] at h
  exact h
theorem remove_yes {A B : Option Addr} {c d n : Nat} {C : List (List Int)} {M M' : List Mk} {k : Int} {X : World} (hn : n = C.length) (hM : M.length = n) (hl : Lis X A c C B d M) (hk : -9223372036854775808 ≤ k ∧ k ≤ 9223372036854775807) (hE : remE C M [k] = 0) (hR : remM M [k] = M') :
    Calls Try.prog 25 #[.agg #[.slice A n c, .slice B n d], .slice (some ⟨X.heap.size, 0, none⟩) 1 1] (X.alloc (.cells #[.int .i64 k] 3)) (GL n C M' X) := by
  have hb : Below X.heap.size X (X.alloc (.cells #[.int .i64 k] 3)) := (Below.refl _ _).alloc (Nat.le_refl _) _
  have h := remove_any A c C B d M _ _ [k] _ (hl.below hb) (vec_one X k (i64_wf hk))
  rw [hE] at h
  unfold lv at h
  rw [hM, ← hn] at h
  refine h.mono fun e w' hh => ?_
  obtain ⟨A1, c1, B1, d1, he, h1, h2⟩ := hh.le
  have hM' : M'.length = n := by rw [← hR]; unfold remM; rw [List.length_map, hM]
  unfold ifC ifM at he h1
  rw [if_pos rfl, if_pos rfl, hR] at he h1
  unfold lv at he
  rw [hM', ← hn] at he
  exact ⟨A1, c1, B1, d1, he, h1, hb.trans (h2.mono hb.size)⟩
theorem add_yes {A B Av : Option Addr} {c d n cv : Nat} {C : List (List Int)} {M M' : List Mk} {k : Int} {x : List Int} {X : World} (hn : n = C.length) (hM : M.length = n) (hM' : M'.length = n) (hl : Lis X A c C B d M) (hk : -9223372036854775808 ≤ k ∧ k ≤ 9223372036854775807) (hv : Vec .i32 X Av cv x) (hE : addE C M k x = 0) (hR : addM C M k x = M') :
    Calls Try.prog 24 #[.agg #[.slice A n c, .slice B n d], .int .i64 k, .slice Av x.length cv] X (GL n C M' X) := by
  have h := add_any A c C B d M k Av cv x X hl hk hv
  rw [hE] at h
  unfold lv at h
  rw [hM, ← hn] at h
  refine h.mono fun e w' hh => ?_
  obtain ⟨A1, c1, B1, d1, he, h1, h2⟩ := hh.le
  unfold ifC ifM at he h1
  rw [if_pos rfl, if_pos rfl, hR] at he h1
  unfold lv at he
  rw [hM', ← hn] at he
  exact ⟨A1, c1, B1, d1, he, h1, h2⟩
theorem build_yes {A Ac : Option Addr} {c cc n : Nat} {C : List (List Int)} {q : List Pa} {X : World} (hn : n = C.length) (ha : Are X A c q) (hc : Vecs .i32 X Ac cc C) (hE : buildE C (ces q) = 0) :
    Calls Try.prog 19 #[.agg #[.slice A q.length c], .slice Ac n cc] X (GL n C (masksOf C (ces q)) X) := by
  have h := build_any A c q Ac cc C X ha hc
  rw [← hn] at h
  refine h.mono fun e w' hh => ?_
  obtain ⟨A1, c1, B1, d1, he, h1, h2⟩ := hh.le
  unfold buildC buildM at he h1
  rw [hE, if_pos rfl, if_pos rfl] at he
  rw [hE, if_pos rfl, if_pos rfl] at h1
  unfold lv at he
  rw [masks_len, ← hn] at he
  exact ⟨A1, c1, B1, d1, he, h1, h2⟩
theorem build_not {A Ac : Option Addr} {c cc n : Nat} {C : List (List Int)} {q : List Pa} {X : World} (hn : n = C.length) (ha : Are X A c q) (hc : Vecs .i32 X Ac cc C) (hE : buildE C (ces q) ≠ 0) :
    Calls Try.prog 19 #[.agg #[.slice A q.length c], .slice Ac n cc] X (fun e w' => ∃ A1 c1 n1 B1 d1, e = .returned (.tuple #[.agg #[.slice A1 n1 c1, .slice B1 0 d1], .int .i64 (buildE C (ces q))]) ∧ Below X.heap.size X w') := by
  have h := build_any A c q Ac cc C X ha hc
  rw [← hn] at h
  refine h.mono fun e w' hh => ?_
  obtain ⟨A1, c1, B1, d1, he, h1, h2⟩ := hh.le
  unfold buildC buildM at he
  rw [if_neg hE, if_neg hE] at he
  exact ⟨A1, c1, _, B1, d1, he, h2⟩
theorem drop_one {A : Option Addr} {c : Nat} {q : List Pa} {s : Int} {X : World} (ha : Are X A c q) (hs : -9223372036854775808 ≤ s ∧ s ≤ 9223372036854775807) :
    Calls Try.prog 34 #[.agg #[.slice A q.length c], .slice (some ⟨X.heap.size, 0, none⟩) 1 1] (X.alloc (.cells #[.int .i64 s] 3)) (fun e w' => ∃ A1 c1 q1, e = .returned (.tuple #[.agg #[.slice A1 (List.length q1) c1], .int .i64 (dropE (ces q) [s])]) ∧ ces q1 = dropL (ces q) [s] ∧ Are w' A1 c1 q1 ∧ Below X.heap.size X w') := by
  have hb : Below X.heap.size X (X.alloc (.cells #[.int .i64 s] 3)) := (Below.refl _ _).alloc (Nat.le_refl _) _
  refine (drop_any A c q _ _ [s] _ (ha.below hb) (vec_one X s (i64_wf hs))).mono fun e w' hh => ?_
  obtain ⟨A1, c1, q1, he, h1, h2, h3⟩ := hh
  exact ⟨A1, c1, q1, he, h1, h2.are, hb.trans (h3.mono hb.size)⟩

set_option maxHeartbeats 16000000 in
theorem walk (A : Option Addr) (c : Nat) (q : List Pa) {w : World} (h : Are w A c q) (Ac : Option Addr) (cc : Nat) (C : List (List Int)) (hc : Vecs .i32 w Ac cc C) (i b f : Int) (Av : Option Addr) (cv : Nat) (x : List Int) (s : Int) (hi : U64s i) (hb : U64s b) (hf : U64s f) (hv : Vec .i32 w Av cv x) (hs : -9223372036854775808 ≤ s ∧ s ≤ 9223372036854775807) :
    Calls Try.prog 6 #[.agg #[.slice A q.length c], .slice Ac C.length cc, .agg #[.int .u64 i, .int .u64 b, .int .u64 f, .slice Av x.length cv, .int .i64 s]] w fun e w' => e = .returned (.bool true) ∧ Below w.heap.size w w' := by
  obtain ⟨g, hg⟩ : ∃ g, g = w.heap.size := ⟨_, rfl⟩
  obtain ⟨N, hN⟩ : ∃ N, N = q.length := ⟨_, rfl⟩
  obtain ⟨n, hn⟩ : ∃ n, n = C.length := ⟨_, rfl⟩
  obtain ⟨nx, hnx⟩ : ∃ nx, nx = x.length := ⟨_, rfl⟩
  obtain ⟨M0, hM0⟩ : ∃ M, M = masksOf C (ces q) := ⟨_, rfl⟩
  obtain ⟨M1, hM1⟩ : ∃ M, M = masksOf C (putL (ces q) i b f x) := ⟨_, rfl⟩
  obtain ⟨M2, hM2⟩ : ∃ M, M = masksOf C (dropL (ces q) [s]) := ⟨_, rfl⟩
  obtain ⟨W0, hW0⟩ : ∃ W0, W0 = (w.alloc (.cells #[.slice A N c] 37)).alloc (.cells #[.int .u64 i, .int .u64 b, .int .u64 f, .slice Av nx cv, .int .i64 s] 67) := ⟨_, rfl⟩
  have hb0 : Below w.heap.size w W0 := by rw [hW0]; exact ((Below.refl _ w).alloc (Nat.le_refl _) _).alloc (by simp) _
  have hx0 : W0.cell? ⟨g, 0, none⟩ = some (.slice A N c) := by
    have h1 : (w.alloc (.cells #[.slice A N c] 37)).cell? ⟨g, 0, none⟩ = some (.slice A N c) := by rw [hg]; exact cell_laid _ _ _ 0
    rw [hW0]
    exact (((Below.refl _ _).alloc (Nat.le_refl _) _).cell (p := ⟨g, 0, none⟩) (World.block_lt_of_cell? _ _ h1)).trans h1
  have hp0 : ∀ (k : Nat) (v : Value), #[Value.int .u64 i, .int .u64 b, .int .u64 f, .slice Av nx cv, .int .i64 s][k]? = some v → W0.cell? ⟨g + 1, k, none⟩ = some v := fun k v hk => by
    have h1 := cell_laid (w.alloc (.cells #[.slice A N c] 37)) #[Value.int .u64 i, .int .u64 b, .int .u64 f, .slice Av nx cv, .int .i64 s] 67 k
    rw [World.size_alloc, ← hg, hk, ← hW0] at h1
    exact h1
  have hst : ∀ (X : World) (hX : Below W0.heap.size W0 X) (p : Addr) (v : Value), W0.cell? p = some v → X.cell? p = some v := fun X hX p v hp => (hX.cell (World.block_lt_of_cell? _ _ hp)).trans hp
  have HS := Lib.hid (fun (X : World) (hX : Below W0.heap.size W0 X) => show X.cell? ⟨g, 0, none⟩ = some (.slice A N c) ∧ (X.cell? ⟨g + 1, 0, none⟩ = some (.int .u64 i) ∧ X.cell? ⟨g + 1, 1, none⟩ = some (.int .u64 b) ∧ X.cell? ⟨g + 1, 2, none⟩ = some (.int .u64 f) ∧ X.cell? ⟨g + 1, 3, none⟩ = some (.slice Av nx cv) ∧ X.cell? ⟨g + 1, 4, none⟩ = some (.int .i64 s)) from
    ⟨hst X hX _ _ hx0, hst X hX _ _ (hp0 0 _ rfl), hst X hX _ _ (hp0 1 _ rfl), hst X hX _ _ (hp0 2 _ rfl), hst X hX _ _ (hp0 3 _ rfl), hst X hX _ _ (hp0 4 _ rfl)⟩)
  have hA := fun (X : World) (hX : Below W0.heap.size W0 X) => (h.below hb0).below hX
  have hV := fun (X : World) (hX : Below W0.heap.size W0 X) => (hc.below hb0).below hX
  have hx := fun (X : World) (hX : Below W0.heap.size W0 X) => (hv.below hb0).below hX
  have hl0 : M0.length = n := by rw [hM0, hn]; exact masks_len _ _
  have hl1 : M1.length = n := by rw [hM1, hn]; exact masks_len _ _
  have hl2 : M2.length = n := by rw [hM2, hn]; exact masks_len _ _
  have HWk := Lib.hid (wakes_any W0)
  have HO1 := Lib.hid (fun (X : World) (hX : Below W0.heap.size W0 X) => overA_any A c q X (hA X hX))
  have HO2 := Lib.hid (fun (X : World) (hX : Below W0.heap.size W0 X) => show Calls Try.prog 18 #[.slice Ac C.length cc] X (fun e w' => e = .returned (.bool (overV C)) ∧ Below X.heap.size X w') from (overV_any Ac cc C X (hV X hX)).mono (fun e w' hh => ⟨hh.1, hh.2 ▸ Below.refl _ _⟩))
  have HBn := Lib.hid (fun (hE : buildE C (ces q) ≠ 0) (X : World) (hX : Below W0.heap.size W0 X) => build_not hn (hA X hX) (hV X hX) hE)
  have HBy := Lib.hid (fun (hE : buildE C (ces q) = 0) (X : World) (hX : Below W0.heap.size W0 X) => show Calls Try.prog 19 #[.agg #[.slice A q.length c], .slice Ac n cc] X (GL n C M0 X) by rw [hM0]; exact build_yes hn (hA X hX) (hV X hX) hE)
  have HA0 := Lib.hid (fun (hE : buildE C (ces q) = 0) (A1 B1 : Option Addr) (c1 d1 : Nat) (X : World) (hX : Below W0.heap.size W0 X) (hL : Lis X A1 c1 C B1 d1 M0) => agrees_yes hn hl0 hL (hA X hX) (by rw [hM0]; exact agree_self hE))
  have HPu := Lib.hid (fun (X : World) (hX : Below W0.heap.size W0 X) => put_any A c q i b f Av cv x X (hA X hX) (hx X hX) hi hb hf)
  have HK0 := Lib.hid (fun (hE : buildE C (ces q) = 0) (hP : putE (ces q) b f x = 0) (hd : n = 0 ∨ dimC C = nx) => put_keep (id := i) hE hP (by rw [← hn, ← hnx]; exact hd))
  have HAd := Lib.hid (fun (A1 B1 : Option Addr) (c1 d1 : Nat) (k : Nat) (hk : k < 96) (he : addE C M0 k x = 0) (hm : addM C M0 k x = M1) (X : World) (hX : Below W0.heap.size W0 X) (hL : Lis X A1 c1 C B1 d1 M0) => add_yes hn hl0 hl1 hL (show -9223372036854775808 ≤ (k : Int) ∧ (k : Int) ≤ 9223372036854775807 by omega) (hx X hX) he hm)
  have HA1 := Lib.hid (fun (A1 B1 Ar : Option Addr) (c1 d1 ca : Nat) (q' : List Pa) (hq : ces q' = putL (ces q) i b f x) (hE : buildE C (putL (ces q) i b f x) = 0) (X : World) (hL : Lis X A1 c1 C B1 d1 M1) (ha : Are X Ar ca q') => agrees_yes hn hl1 hL ha (by rw [hM1, hq]; exact agree_self hE))
  have HR1 := Lib.hid (fun (A1 B1 : Option Addr) (c1 d1 : Nat) (k : Nat) (hk : k < 96) (he : remE C M1 [(k : Int)] = 0) (hm : remM M1 [(k : Int)] = M0) (X : World) (hL : Lis X A1 c1 C B1 d1 M1) => remove_yes hn hl1 hL (show -9223372036854775808 ≤ (k : Int) ∧ (k : Int) ≤ 9223372036854775807 by omega) he hm)
  have HDr := Lib.hid (fun (X : World) (hX : Below W0.heap.size W0 X) => drop_one (hA X hX) hs)
  have HK2 := Lib.hid (fun (hE : buildE C (ces q) = 0) (hD : dropE (ces q) [s] = 0) => drop_keep hE hD)
  have HR2 := Lib.hid (fun (A1 B1 : Option Addr) (c1 d1 : Nat) (he : remE C M0 [s] = 0) (hm : remM M0 [s] = M2) (X : World) (hL : Lis X A1 c1 C B1 d1 M0) => remove_yes hn hl0 hL hs he hm)
  have HA2 := Lib.hid (fun (A1 B1 Ar : Option Addr) (c1 d1 ca : Nat) (q' : List Pa) (hq : ces q' = dropL (ces q) [s]) (hE : buildE C (dropL (ces q) [s]) = 0) (X : World) (hL : Lis X A1 c1 C B1 d1 M2) (ha : Are X Ar ca q') => agrees_yes hn hl2 hL ha (by rw [hM2, hq]; exact agree_self hE))
  have HC0 := Lib.hid (fun (hp : 0 < n) (X : World) (hX : Below W0.heap.size W0 X) => show ∃ b0 o0 A' c', Ac = some ⟨b0, o0, none⟩ ∧ W0.cell? ⟨b0, o0, none⟩ = some (.slice A' (dimC C) c') by
    obtain ⟨b0, o0, e0, _, hr⟩ := (hV W0 (Below.refl _ _)).rd (by rw [← hn]; exact hp)
    obtain ⟨A', c', h1, _⟩ := hr 0 (C.getD 0 []) (by rw [hn] at hp; simp [List.getD, List.getElem?_eq_getElem hp])
    exact ⟨b0, o0, A', c', e0, h1⟩)
  have HSt := Lib.hid hst
  have HB0 := Lib.hid hb0
  have HW0 := Lib.hid hW0
  have HG := Lib.hid hg
  have HM0 := Lib.hid hM0
  have HM1 := Lib.hid hM1
  have HM2 := Lib.hid hM2
  rw [← hN] at HO1 HBn HBy HA0 HPu HDr ⊢
  rw [← hn] at HO2 ⊢
  rw [← hnx] at HPu HAd ⊢
  rw [← hM0] at HK0 HK2
  rw [← hM1] at HK0
  rw [← hM2] at HK2
  generalize hov1 : overB (ces q) = OV1 at *
  generalize hov2 : overV C = OV2 at *
  generalize buildE C (ces q) = E at *
  generalize putE (ces q) b f x = PE at *
  generalize putK (ces q) b f x = PK at *
  generalize putL (ces q) i b f x = PL at *
  generalize dropE (ces q) [s] = DE at *
  generalize dropL (ces q) [s] = DL at *
  generalize dimC C = DM at *
  obtain ⟨x0, x1, x2, x3, x4, x5⟩ := HS.out W0 (Below.refl _ _)
  clear h hc hi hb hf hv hs hg hN hn hnx hM0 hM1 hM2 hb0 hx0 hp0 hst hA hV hx hl0 hl1 hl2 hW0 hov1 hov2
  go_enter Try.func6, Try.ntmps6
  go_wp2_with (rw [← HW0.out, ← HG.out])
  refine HWk.out.mono ?_
  rintro e w1 ⟨rfl, hb1⟩
  obtain ⟨y0, y1, y2, y3, y4, y5⟩ := HS.out w1 hb1
  have HB1 := Lib.hid hb1
  clear hb1 x0 x1 x2 x3 x4 x5
  go_wp2_with fail
  refine (HO1.out w1 HB1.out).mono ?_
  rintro e w2 ⟨rfl, hb2⟩
  have HB2 := Lib.hid (below_tr HB1.out hb2)
  obtain ⟨x0, x1, x2, x3, x4, x5⟩ := HS.out w2 HB2.out
  clear hb2 y0 y1 y2 y3 y4 y5
  cases OV1 with
  | true =>
    go_wp2
    go_ret
    exact ⟨by first | rfl | simp, below_tr HB0.out HB2.out⟩
  | false =>
    go_wp2_with fail
    refine (HO2.out w2 HB2.out).mono ?_
    rintro e w3 ⟨rfl, hb3⟩
    have HB3 := Lib.hid (below_tr HB2.out hb3)
    obtain ⟨y0, y1, y2, y3, y4, y5⟩ := HS.out w3 HB3.out
    clear hb3 x0 x1 x2 x3 x4 x5
    cases OV2 with
    | true =>
      go_wp2
      go_ret
      exact ⟨by first | rfl | simp, below_tr HB0.out HB3.out⟩
    | false =>
      by_cases hlen : 50 < nx
      · have v1 : decide ((50 : Int) < (nx : Int)) = true := by rw [decide_eq_true_eq]; omega
        have v2 : decide (50 < nx) = true := decide_eq_true hlen
        go_wp2
        go_ret
        exact ⟨by first | rfl | simp, below_tr HB0.out HB3.out⟩
      · have v1 : decide ((50 : Int) < (nx : Int)) = false := by rw [decide_eq_false_iff_not]; omega
        have v2 : decide (50 < nx) = false := decide_eq_false hlen
        by_cases hE : E = 0
        · subst hE
          have HBy0 := Lib.hid (HBy.out rfl)
          have HA00 := Lib.hid (HA0.out rfl)
          have HK00 := Lib.hid (HK0.out rfl)
          have HK20 := Lib.hid (HK2.out rfl)
          go_wp2_with fail
          refine (HBy0.out w3 HB3.out).mono ?_
          rintro e w5 ⟨A1, c1, B1, d1, rfl, hl5, hb5⟩
          obtain ⟨p7, hp7⟩ : ∃ p, p = w5.heap.size := ⟨_, rfl⟩
          obtain ⟨V7, hV7⟩ : ∃ V, V = w5.alloc (.cells #[.slice A1 n c1, .slice B1 n d1] 25) := ⟨_, rfl⟩
          obtain ⟨hl7, hb7⟩ := lbox w5 A1 n c1 B1 n d1
          rw [← hV7] at hl7 hb7
          rw [← hp7] at hl7
          have HL7 := Lib.hid (fun (X : World) (hX : Below V7.heap.size V7 X) => show Lis X A1 c1 C B1 d1 M0 from (hl5.below hb7).below hX)
          have HB7 := Lib.hid (below_tr HB3.out (below_tr hb5 hb7))
          have HS7 := Lib.hid (fun (X : World) (hX : Below V7.heap.size V7 X) => show (X.cell? ⟨g, 0, none⟩ = some (.slice A N c) ∧ (X.cell? ⟨g + 1, 0, none⟩ = some (.int .u64 i) ∧ X.cell? ⟨g + 1, 1, none⟩ = some (.int .u64 b) ∧ X.cell? ⟨g + 1, 2, none⟩ = some (.int .u64 f) ∧ X.cell? ⟨g + 1, 3, none⟩ = some (.slice Av nx cv) ∧ X.cell? ⟨g + 1, 4, none⟩ = some (.int .i64 s))) ∧ X.cell? ⟨p7, 0, none⟩ = some (.slice A1 n c1) ∧ X.cell? ⟨p7, 1, none⟩ = some (.slice B1 n d1) from
            ⟨HS.out X (below_tr HB7.out hX), (hl7.below hX hl7.lt).c0, (hl7.below hX hl7.lt).c1⟩)
          obtain ⟨⟨x0, x1, x2, x3, x4, x5⟩, x6, x7⟩ := HS7.out V7 (Below.refl _ _)
          obtain ⟨⟨k0, k1, k2, k3, k4, k5⟩, k6, k7⟩ := HS7.out (w5.alloc (.cells #[.slice A1 n c1, .slice B1 n d1] 25)) (by rw [← hV7]; exact Below.refl _ _)
          have HV7 := Lib.hid hV7
          have HP7 := Lib.hid hp7
          clear hb5 hl5 hl7 hb7 hV7 hp7 y0 y1 y2 y3 y4 y5
          go_wp2_with fail
          rw [← HV7.out, ← HP7.out]
          clear k0 k1 k2 k3 k4 k5 k6 k7
          refine (HA00.out _ _ _ _ V7 HB7.out (HL7.out V7 (Below.refl _ _))).mono ?_
          rintro e w6 ⟨rfl, hb6⟩
          have HB6 := Lib.hid hb6
          obtain ⟨⟨y0, y1, y2, y3, y4, y5⟩, y6, y7⟩ := HS7.out w6 HB6.out
          clear hb6 x0 x1 x2 x3 x4 x5 x6 x7
          go_wp2_with fail
          refine (HPu.out w6 (below_tr HB7.out HB6.out)).mono ?_
          rintro e w8 ⟨A2, c2, q2, rfl, hq2, ha2, hb8⟩
          obtain ⟨N2, hN2⟩ : ∃ k, k = q2.length := ⟨_, rfl⟩
          rw [← hN2]
          obtain ⟨p9, hp9⟩ : ∃ p, p = w8.heap.size := ⟨_, rfl⟩
          obtain ⟨V9, hV9⟩ : ∃ V, V = w8.alloc (.cells #[.slice A2 N2 c2] 37) := ⟨_, rfl⟩
          have hc9 : V9.cell? ⟨p9, 0, none⟩ = some (.slice A2 N2 c2) := by rw [hV9, hp9]; exact cell_laid _ _ _ 0
          have hb9 : Below w8.heap.size w8 V9 := by rw [hV9]; exact (Below.refl _ _).alloc (Nat.le_refl _) _
          have HB9 := Lib.hid (below_tr HB6.out (below_tr hb8 hb9))
          have HQ9 := Lib.hid (fun (X : World) (hX : Below V9.heap.size V9 X) => show Are X A2 c2 q2 from (ha2.are.below hb9).below hX)
          have HQ2 := Lib.hid hq2
          have HN2 := Lib.hid hN2
          have HS9 := Lib.hid (fun (X : World) (hX : Below V9.heap.size V9 X) => show (X.cell? ⟨g, 0, none⟩ = some (.slice A N c) ∧ (X.cell? ⟨g + 1, 0, none⟩ = some (.int .u64 i) ∧ X.cell? ⟨g + 1, 1, none⟩ = some (.int .u64 b) ∧ X.cell? ⟨g + 1, 2, none⟩ = some (.int .u64 f) ∧ X.cell? ⟨g + 1, 3, none⟩ = some (.slice Av nx cv) ∧ X.cell? ⟨g + 1, 4, none⟩ = some (.int .i64 s))) ∧ (X.cell? ⟨p7, 0, none⟩ = some (.slice A1 n c1) ∧ X.cell? ⟨p7, 1, none⟩ = some (.slice B1 n d1)) ∧ X.cell? ⟨p9, 0, none⟩ = some (.slice A2 N2 c2) from
            ⟨(HS7.out X (below_tr HB9.out hX)).1, (HS7.out X (below_tr HB9.out hX)).2, (hX.cell (p := ⟨p9, 0, none⟩) (World.block_lt_of_cell? _ _ hc9)).trans hc9⟩)
          obtain ⟨⟨x0, x1, x2, x3, x4, x5⟩, ⟨x6, x7⟩, x8⟩ := HS9.out V9 (Below.refl _ _)
          obtain ⟨⟨k0, k1, k2, k3, k4, k5⟩, ⟨k6, k7⟩, k8⟩ := HS9.out (w8.alloc (.cells #[.slice A2 N2 c2] 37)) (by rw [← hV9]; exact Below.refl _ _)
          have HV9 := Lib.hid hV9
          have HP9 := Lib.hid hp9
          clear hq2 ha2 hb8 hN2 hp9 hV9 hc9 hb9 y0 y1 y2 y3 y4 y5 y6 y7
          go_upto_region 11 with fail
          rw [← HV9.out, ← HP9.out]
          clear k0 k1 k2 k3 k4 k5 k6 k7 k8
          by_cases hP : PE = 0
          · subst hP
            by_cases h0 : n = 0
            · have Hd := Lib.hid (show n = 0 ∨ DM = nx from .inl h0)
              have j0 : ((n : Int) == 0) = true := by simp [h0]
              have j1 : (n == 0) = true := by simp [h0]
              clear h0
              have HRd := Lib.hid (fun (X : World) (hX : Below V9.heap.size V9 X) => show X.cell? ⟨g + 1, 3, none⟩ = some (.slice Av nx cv) ∧ True from ⟨(HS9.out X hX).1.2.2.2.2.1, trivial⟩)
              refine MskL.region_quiet (fun X => Below V9.heap.size V9 X) (by kernel_rfl) (by kernel_rfl) (below_drew (Below.refl _ _)) ?_
              repeat (first | go_big_quiet_skip | (go_big_quiet_want; go_big_quiet_op; first | go_big_quiet_on | (refine ⟨_, fun _ _ => rfl, ?_⟩; go_big_quiet_on) | (apply Exists.intro; refine ⟨fun W hW => ?_, ?_⟩; (focus (obtain ⟨z0, z1⟩ := HRd.out W hW; simp only [Result.andThen, z0, z1]; exact ⟨trivial, rfl⟩)); go_big_quiet_on)))
              refine wpQuiet_nil ?_
              intro w9 hq
              have HBq := Lib.hid (below_tr HB9.out hq)
              have HBr := Lib.hid hq
              obtain ⟨⟨y0, y1, y2, y3, y4, y5⟩, ⟨y6, y7⟩, y8⟩ := HS9.out w9 hq
              clear hq x0 x1 x2 x3 x4 x5 x6 x7 x8
              have hd := Hd.out
              obtain ⟨K, hK, hk, e1, e2, e3, e4, e5⟩ := HK00.out rfl hd
              subst hK
              have HAdd := Lib.hid (fun (X : World) (hX : Below W0.heap.size W0 X) (hL : Lis X A1 c1 C B1 d1 M0) => HAd.out A1 B1 c1 d1 _ hk e1 e2 X hX hL)
              have HAg1 := Lib.hid (fun (A1 B1 : Option Addr) (c1 d1 : Nat) (X : World) (hL : Lis X A1 c1 C B1 d1 M1) (ha : Are X A2 c2 q2) => HA1.out A1 B1 A2 c1 d1 c2 q2 HQ2.out e3 X hL ha)
              have HRm1 := Lib.hid (fun (A1 B1 : Option Addr) (c1 d1 : Nat) (X : World) (hL : Lis X A1 c1 C B1 d1 M1) => HR1.out A1 B1 c1 d1 _ hk e4 e5 X hL)
              rw [← HN2.out] at HAg1
              clear hk e1 e2 e3 e4 e5
              go_wp2_with fail
              refine (HAdd.out w9 (below_tr HB7.out HBq.out) (HL7.out w9 HBq.out)).mono ?_
              rintro e w10 ⟨A3, c3, B3, d3, rfl, hl3, hb10⟩
              obtain ⟨p11, hp11⟩ : ∃ p, p = w10.heap.size := ⟨_, rfl⟩
              obtain ⟨V11, hV11⟩ : ∃ V, V = w10.alloc (.cells #[.slice A3 n c3, .slice B3 n d3] 25) := ⟨_, rfl⟩
              obtain ⟨hl11, hb11⟩ := lbox w10 A3 n c3 B3 n d3
              rw [← hV11, ← hp11] at hl11
              rw [← hV11] at hb11
              have HB11 := Lib.hid (below_tr HBr.out (below_tr hb10 hb11))
              have HL11 := Lib.hid (fun (X : World) (hX : Below V11.heap.size V11 X) => show Lis X A3 c3 C B3 d3 M1 from (hl3.below hb11).below hX)
              have HS11 := Lib.hid (fun (X : World) (hX : Below V11.heap.size V11 X) => show (X.cell? ⟨g, 0, none⟩ = some (.slice A N c) ∧ (X.cell? ⟨g + 1, 0, none⟩ = some (.int .u64 i) ∧ X.cell? ⟨g + 1, 1, none⟩ = some (.int .u64 b) ∧ X.cell? ⟨g + 1, 2, none⟩ = some (.int .u64 f) ∧ X.cell? ⟨g + 1, 3, none⟩ = some (.slice Av nx cv) ∧ X.cell? ⟨g + 1, 4, none⟩ = some (.int .i64 s))) ∧ ((X.cell? ⟨p7, 0, none⟩ = some (.slice A1 n c1) ∧ X.cell? ⟨p7, 1, none⟩ = some (.slice B1 n d1)) ∧ X.cell? ⟨p9, 0, none⟩ = some (.slice A2 N2 c2)) ∧ X.cell? ⟨p11, 0, none⟩ = some (.slice A3 n c3) ∧ X.cell? ⟨p11, 1, none⟩ = some (.slice B3 n d3) from
                ⟨(HS9.out X (below_tr HB11.out hX)).1, (HS9.out X (below_tr HB11.out hX)).2, (hl11.below hX hl11.lt).c0, (hl11.below hX hl11.lt).c1⟩)
              obtain ⟨⟨x0, x1, x2, x3, x4, x5⟩, ⟨⟨x6, x7⟩, x8⟩, x9, x10⟩ := HS11.out V11 (Below.refl _ _)
              obtain ⟨⟨k0, k1, k2, k3, k4, k5⟩, ⟨⟨k6, k7⟩, k8⟩, k9, k10⟩ := HS11.out (w10.alloc (.cells #[.slice A3 n c3, .slice B3 n d3] 25)) (by rw [← hV11]; exact Below.refl _ _)
              have HV11 := Lib.hid hV11
              have HP11 := Lib.hid hp11
              clear hl3 hb10 hp11 hV11 hl11 hb11 y0 y1 y2 y3 y4 y5 y6 y7 y8
              go_wp2_with fail
              rw [← HV11.out, ← HP11.out]
              clear k0 k1 k2 k3 k4 k5 k6 k7 k8 k9 k10
              refine (HAg1.out _ _ _ _ V11 (HL11.out V11 (Below.refl _ _)) (HQ9.out V11 HB11.out)).mono ?_
              rintro e w12 ⟨rfl, hb12⟩
              have HB12 := Lib.hid hb12
              obtain ⟨⟨y0, y1, y2, y3, y4, y5⟩, ⟨⟨y6, y7⟩, y8⟩, y9, y10⟩ := HS11.out w12 HB12.out
              clear hb12 x0 x1 x2 x3 x4 x5 x6 x7 x8 x9 x10
              go_wp2_with fail
              refine (HRm1.out _ _ _ _ w12 (HL11.out w12 HB12.out)).mono ?_
              rintro e w13 ⟨A4, c4, B4, d4, rfl, hl4, hb13⟩
              obtain ⟨p13, hp13⟩ : ∃ p, p = w13.heap.size := ⟨_, rfl⟩
              obtain ⟨V13, hV13⟩ : ∃ V, V = w13.alloc (.cells #[.slice A4 n c4, .slice B4 n d4] 25) := ⟨_, rfl⟩
              obtain ⟨hl13, hbV13⟩ := lbox w13 A4 n c4 B4 n d4
              rw [← hV13, ← hp13] at hl13
              rw [← hV13] at hbV13
              have HB13 := Lib.hid (below_tr HB12.out (below_tr hb13 hbV13))
              have HL13 := Lib.hid (hl4.below hbV13)
              obtain ⟨⟨x0, x1, x2, x3, x4, x5⟩, ⟨⟨x6, x7⟩, x8⟩, x9, x10⟩ := HS11.out V13 HB13.out
              obtain ⟨v0, v1⟩ := And.intro hl13.c0 hl13.c1
              obtain ⟨⟨k0, k1, k2, k3, k4, k5⟩, ⟨⟨k6, k7⟩, k8⟩, k9, k10⟩ := HS11.out (w13.alloc (.cells #[.slice A4 n c4, .slice B4 n d4] 25)) (by rw [← hV13]; exact HB13.out)
              obtain ⟨m0, m1⟩ := And.intro hl13.c0 hl13.c1
              rw [hV13] at m0 m1
              have HV13 := Lib.hid hV13
              have HP13 := Lib.hid hp13
              clear hl4 hb13 hp13 hV13 hl13 hbV13 y0 y1 y2 y3 y4 y5 y6 y7 y8 y9 y10
              go_wp2_with fail
              rw [← HV13.out, ← HP13.out]
              clear k0 k1 k2 k3 k4 k5 k6 k7 k8 k9 k10 m0 m1
              refine (HA00.out _ _ _ _ V13 (below_tr HB7.out (below_tr HB9.out (below_tr HB11.out HB13.out))) HL13.out).mono ?_
              rintro e w14 ⟨rfl, hb14⟩
              have HBt := Lib.hid (below_tr HB9.out (below_tr HB11.out (below_tr HB13.out hb14)))
              obtain ⟨⟨y0, y1, y2, y3, y4, y5⟩, ⟨⟨y6, y7⟩, y8⟩, y9, y10⟩ := HS11.out w14 (below_tr HB13.out hb14)
              clear hb14 x0 x1 x2 x3 x4 x5 x6 x7 x8 x9 x10 v0 v1
              go_wp2_with fail
              refine (HDr.out w14 (below_tr HB7.out HBt.out)).mono ?_
              rintro e w20 ⟨A5, c5, q5, rfl, hq5, ha5, hb20⟩
              obtain ⟨N5, hN5⟩ : ∃ k, k = q5.length := ⟨_, rfl⟩
              rw [← hN5]
              obtain ⟨p14, hp14⟩ : ∃ p, p = w20.heap.size := ⟨_, rfl⟩
              obtain ⟨V14, hV14⟩ : ∃ V, V = w20.alloc (.cells #[.slice A5 N5 c5] 37) := ⟨_, rfl⟩
              have hc14 : V14.cell? ⟨p14, 0, none⟩ = some (.slice A5 N5 c5) := by rw [hV14, hp14]; exact cell_laid _ _ _ 0
              have hb14 : Below w20.heap.size w20 V14 := by rw [hV14]; exact (Below.refl _ _).alloc (Nat.le_refl _) _
              have HB14 := Lib.hid (below_tr HBt.out (below_tr hb20 hb14))
              have HZ14 := Lib.hid (show V14.heap.size = p14 + 1 by rw [hV14, hp14]; exact World.size_alloc _ _)
              have HQ14 := Lib.hid (fun (X : World) (hX : Below V14.heap.size V14 X) => show Are X A5 c5 q5 from (ha5.below hb14).below hX)
              have HQ5 := Lib.hid hq5
              have HN5 := Lib.hid hN5
              have HS14 := Lib.hid (fun (X : World) (hX : Below V14.heap.size V14 X) => show (X.cell? ⟨g, 0, none⟩ = some (.slice A N c) ∧ (X.cell? ⟨g + 1, 0, none⟩ = some (.int .u64 i) ∧ X.cell? ⟨g + 1, 1, none⟩ = some (.int .u64 b) ∧ X.cell? ⟨g + 1, 2, none⟩ = some (.int .u64 f) ∧ X.cell? ⟨g + 1, 3, none⟩ = some (.slice Av nx cv) ∧ X.cell? ⟨g + 1, 4, none⟩ = some (.int .i64 s))) ∧ (X.cell? ⟨p7, 0, none⟩ = some (.slice A1 n c1) ∧ X.cell? ⟨p7, 1, none⟩ = some (.slice B1 n d1)) ∧ X.cell? ⟨p14, 0, none⟩ = some (.slice A5 N5 c5) from
                ⟨(HS7.out X (below_tr HB14.out hX)).1, (HS7.out X (below_tr HB14.out hX)).2, (hX.cell (p := ⟨p14, 0, none⟩) (World.block_lt_of_cell? _ _ hc14)).trans hc14⟩)
              obtain ⟨⟨u0, u1, u2, u3, u4, u5⟩, ⟨u6, u7⟩, u8⟩ := HS14.out V14 (Below.refl _ _)
              obtain ⟨⟨k0, k1, k2, k3, k4, k5⟩, ⟨k6, k7⟩, k8⟩ := HS14.out (w20.alloc (.cells #[.slice A5 N5 c5] 37)) (by rw [← hV14]; exact Below.refl _ _)
              have HV14 := Lib.hid hV14
              have HP14 := Lib.hid hp14
              clear hq5 ha5 hb20 hN5 hp14 hV14 hc14 hb14 y0 y1 y2 y3 y4 y5 y6 y7 y8 y9 y10
              by_cases hD : DE = 0
              · subst hD
                obtain ⟨e1, e2, e3⟩ := HK20.out rfl
                have HR20 := Lib.hid (HR2.out A1 B1 c1 d1 e1 e2)
                have HA20 := Lib.hid (fun (A1 B1 : Option Addr) (c1 d1 : Nat) (X : World) (hL : Lis X A1 c1 C B1 d1 M2) (ha : Are X A5 c5 q5) => HA2.out A1 B1 A5 c1 d1 c5 q5 HQ5.out e3 X hL ha)
                rw [← HN5.out] at HA20
                clear e1 e2 e3
                go_wp2_with fail
                rw [← HV14.out, ← HP14.out, ← HZ14.out]
                clear k0 k1 k2 k3 k4 k5 k6 k7 k8
                refine (HR20.out V14 (HL7.out V14 HB14.out)).mono ?_
                rintro e w21 ⟨A6, c6, B6, d6, rfl, hl6, hb21⟩
                obtain ⟨p15, hp15⟩ : ∃ p, p = w21.heap.size := ⟨_, rfl⟩
                obtain ⟨V15, hV15⟩ : ∃ V, V = w21.alloc (.cells #[.slice A6 n c6, .slice B6 n d6] 25) := ⟨_, rfl⟩
                obtain ⟨hl15, hb15⟩ := lbox w21 A6 n c6 B6 n d6
                rw [← hV15, ← hp15] at hl15
                rw [← hV15] at hb15
                have HB15 := Lib.hid (below_tr hb21 hb15)
                have HL15 := Lib.hid (hl6.below hb15)
                obtain ⟨⟨v0, v1⟩, v2⟩ := And.intro (And.intro hl15.c0 hl15.c1) (HS14.out V15 HB15.out).2.2
                obtain ⟨⟨k0, k1⟩, k2⟩ := And.intro (And.intro hl15.c0 hl15.c1) (HS14.out V15 HB15.out).2.2
                rw [hV15] at k0 k1 k2
                have HV15 := Lib.hid hV15
                have HP15 := Lib.hid hp15
                clear hl6 hb21 hp15 hV15 hl15 hb15 u0 u1 u2 u3 u4 u5 u6 u7 u8
                go_wp2_with fail
                rw [← HV15.out, ← HP15.out]
                refine (HA20.out _ _ _ _ V15 HL15.out (HQ14.out V15 HB15.out)).mono ?_
                rintro e w22 ⟨rfl, hb22⟩
                have HB22 := Lib.hid (below_tr HB14.out (below_tr HB15.out hb22))
                clear hb22 k0 k1 k2 v0 v1 v2
                go_wp2
                go_ret
                exact ⟨by first | rfl | simp, below_tr HB0.out (below_tr HB7.out HB22.out)⟩
              · have n1 : ((DE : Int) == 0) = false := by simpa using hD
                have n2 : ((DE : Int) != 0) = true := by simpa using hD
                have n3 : decide (DE = 0) = false := decide_eq_false hD
                go_wp2
                go_ret
                exact ⟨by first | rfl | simp, by rw [← HV14.out]; exact below_tr HB0.out (below_tr HB7.out HB14.out)⟩
            · obtain ⟨b0, o0, A', c', hAc, hcell⟩ := HC0.out (by omega) W0 (Below.refl _ _)
              subst hAc
              have HRd := Lib.hid (fun (X : World) (hX : Below V9.heap.size V9 X) => show X.cell? ⟨g + 1, 3, none⟩ = some (.slice Av nx cv) ∧ X.cell? ⟨b0, o0, none⟩ = some (.slice A' DM c') from ⟨(HS9.out X hX).1.2.2.2.2.1, HSt.out X (below_tr HB7.out (below_tr HB9.out hX)) _ _ hcell⟩)
              have j0 : ((n : Int) == 0) = false := by simp; omega
              have j1 : (n == 0) = false := by simp; omega
              have j2 : 0 < n := by omega
              have j3 : (0 : Int) < (n : Int) := by omega
              have j4 : ¬ ((n : Int) = 0) := by omega
              by_cases hdd : DM = nx
              · have Hd := Lib.hid (show n = 0 ∨ DM = nx from .inr hdd)
                have r1 : ((DM : Int) == (nx : Int)) = true := by simp [hdd]
                have r2 : (DM == nx) = true := by simp [hdd]
                clear hdd hcell
                refine MskL.region_quiet (fun X => Below V9.heap.size V9 X) (by kernel_rfl) (by kernel_rfl) (below_drew (Below.refl _ _)) ?_
                repeat (first | go_big_quiet_skip | (go_big_quiet_want; go_big_quiet_op; first | go_big_quiet_on | (refine ⟨_, fun _ _ => rfl, ?_⟩; go_big_quiet_on) | (apply Exists.intro; refine ⟨fun W hW => ?_, ?_⟩; (focus (obtain ⟨z0, z1⟩ := HRd.out W hW; simp only [Result.andThen, z0, z1]; exact ⟨trivial, rfl⟩)); go_big_quiet_on)))
                refine wpQuiet_nil ?_
                intro w9 hq
                have HBq := Lib.hid (below_tr HB9.out hq)
                have HBr := Lib.hid hq
                obtain ⟨⟨y0, y1, y2, y3, y4, y5⟩, ⟨y6, y7⟩, y8⟩ := HS9.out w9 hq
                clear hq x0 x1 x2 x3 x4 x5 x6 x7 x8
                have hd := Hd.out
                obtain ⟨K, hK, hk, e1, e2, e3, e4, e5⟩ := HK00.out rfl hd
                subst hK
                have HAdd := Lib.hid (fun (X : World) (hX : Below W0.heap.size W0 X) (hL : Lis X A1 c1 C B1 d1 M0) => HAd.out A1 B1 c1 d1 _ hk e1 e2 X hX hL)
                have HAg1 := Lib.hid (fun (A1 B1 : Option Addr) (c1 d1 : Nat) (X : World) (hL : Lis X A1 c1 C B1 d1 M1) (ha : Are X A2 c2 q2) => HA1.out A1 B1 A2 c1 d1 c2 q2 HQ2.out e3 X hL ha)
                have HRm1 := Lib.hid (fun (A1 B1 : Option Addr) (c1 d1 : Nat) (X : World) (hL : Lis X A1 c1 C B1 d1 M1) => HR1.out A1 B1 c1 d1 _ hk e4 e5 X hL)
                rw [← HN2.out] at HAg1
                clear hk e1 e2 e3 e4 e5
                go_wp2_with fail
                refine (HAdd.out w9 (below_tr HB7.out HBq.out) (HL7.out w9 HBq.out)).mono ?_
                rintro e w10 ⟨A3, c3, B3, d3, rfl, hl3, hb10⟩
                obtain ⟨p11, hp11⟩ : ∃ p, p = w10.heap.size := ⟨_, rfl⟩
                obtain ⟨V11, hV11⟩ : ∃ V, V = w10.alloc (.cells #[.slice A3 n c3, .slice B3 n d3] 25) := ⟨_, rfl⟩
                obtain ⟨hl11, hb11⟩ := lbox w10 A3 n c3 B3 n d3
                rw [← hV11, ← hp11] at hl11
                rw [← hV11] at hb11
                have HB11 := Lib.hid (below_tr HBr.out (below_tr hb10 hb11))
                have HL11 := Lib.hid (fun (X : World) (hX : Below V11.heap.size V11 X) => show Lis X A3 c3 C B3 d3 M1 from (hl3.below hb11).below hX)
                have HS11 := Lib.hid (fun (X : World) (hX : Below V11.heap.size V11 X) => show (X.cell? ⟨g, 0, none⟩ = some (.slice A N c) ∧ (X.cell? ⟨g + 1, 0, none⟩ = some (.int .u64 i) ∧ X.cell? ⟨g + 1, 1, none⟩ = some (.int .u64 b) ∧ X.cell? ⟨g + 1, 2, none⟩ = some (.int .u64 f) ∧ X.cell? ⟨g + 1, 3, none⟩ = some (.slice Av nx cv) ∧ X.cell? ⟨g + 1, 4, none⟩ = some (.int .i64 s))) ∧ ((X.cell? ⟨p7, 0, none⟩ = some (.slice A1 n c1) ∧ X.cell? ⟨p7, 1, none⟩ = some (.slice B1 n d1)) ∧ X.cell? ⟨p9, 0, none⟩ = some (.slice A2 N2 c2)) ∧ X.cell? ⟨p11, 0, none⟩ = some (.slice A3 n c3) ∧ X.cell? ⟨p11, 1, none⟩ = some (.slice B3 n d3) from
                  ⟨(HS9.out X (below_tr HB11.out hX)).1, (HS9.out X (below_tr HB11.out hX)).2, (hl11.below hX hl11.lt).c0, (hl11.below hX hl11.lt).c1⟩)
                obtain ⟨⟨x0, x1, x2, x3, x4, x5⟩, ⟨⟨x6, x7⟩, x8⟩, x9, x10⟩ := HS11.out V11 (Below.refl _ _)
                obtain ⟨⟨k0, k1, k2, k3, k4, k5⟩, ⟨⟨k6, k7⟩, k8⟩, k9, k10⟩ := HS11.out (w10.alloc (.cells #[.slice A3 n c3, .slice B3 n d3] 25)) (by rw [← hV11]; exact Below.refl _ _)
                have HV11 := Lib.hid hV11
                have HP11 := Lib.hid hp11
                clear hl3 hb10 hp11 hV11 hl11 hb11 y0 y1 y2 y3 y4 y5 y6 y7 y8
                go_wp2_with fail
                rw [← HV11.out, ← HP11.out]
                clear k0 k1 k2 k3 k4 k5 k6 k7 k8 k9 k10
                refine (HAg1.out _ _ _ _ V11 (HL11.out V11 (Below.refl _ _)) (HQ9.out V11 HB11.out)).mono ?_
                rintro e w12 ⟨rfl, hb12⟩
                have HB12 := Lib.hid hb12
                obtain ⟨⟨y0, y1, y2, y3, y4, y5⟩, ⟨⟨y6, y7⟩, y8⟩, y9, y10⟩ := HS11.out w12 HB12.out
                clear hb12 x0 x1 x2 x3 x4 x5 x6 x7 x8 x9 x10
                go_wp2_with fail
                refine (HRm1.out _ _ _ _ w12 (HL11.out w12 HB12.out)).mono ?_
                rintro e w13 ⟨A4, c4, B4, d4, rfl, hl4, hb13⟩
                obtain ⟨p13, hp13⟩ : ∃ p, p = w13.heap.size := ⟨_, rfl⟩
                obtain ⟨V13, hV13⟩ : ∃ V, V = w13.alloc (.cells #[.slice A4 n c4, .slice B4 n d4] 25) := ⟨_, rfl⟩
                obtain ⟨hl13, hbV13⟩ := lbox w13 A4 n c4 B4 n d4
                rw [← hV13, ← hp13] at hl13
                rw [← hV13] at hbV13
                have HB13 := Lib.hid (below_tr HB12.out (below_tr hb13 hbV13))
                have HL13 := Lib.hid (hl4.below hbV13)
                obtain ⟨⟨x0, x1, x2, x3, x4, x5⟩, ⟨⟨x6, x7⟩, x8⟩, x9, x10⟩ := HS11.out V13 HB13.out
                obtain ⟨v0, v1⟩ := And.intro hl13.c0 hl13.c1
                obtain ⟨⟨k0, k1, k2, k3, k4, k5⟩, ⟨⟨k6, k7⟩, k8⟩, k9, k10⟩ := HS11.out (w13.alloc (.cells #[.slice A4 n c4, .slice B4 n d4] 25)) (by rw [← hV13]; exact HB13.out)
                obtain ⟨m0, m1⟩ := And.intro hl13.c0 hl13.c1
                rw [hV13] at m0 m1
                have HV13 := Lib.hid hV13
                have HP13 := Lib.hid hp13
                clear hl4 hb13 hp13 hV13 hl13 hbV13 y0 y1 y2 y3 y4 y5 y6 y7 y8 y9 y10
                go_wp2_with fail
                rw [← HV13.out, ← HP13.out]
                clear k0 k1 k2 k3 k4 k5 k6 k7 k8 k9 k10 m0 m1
                refine (HA00.out _ _ _ _ V13 (below_tr HB7.out (below_tr HB9.out (below_tr HB11.out HB13.out))) HL13.out).mono ?_
                rintro e w14 ⟨rfl, hb14⟩
                have HBt := Lib.hid (below_tr HB9.out (below_tr HB11.out (below_tr HB13.out hb14)))
                obtain ⟨⟨y0, y1, y2, y3, y4, y5⟩, ⟨⟨y6, y7⟩, y8⟩, y9, y10⟩ := HS11.out w14 (below_tr HB13.out hb14)
                clear hb14 x0 x1 x2 x3 x4 x5 x6 x7 x8 x9 x10 v0 v1
                go_wp2_with fail
                refine (HDr.out w14 (below_tr HB7.out HBt.out)).mono ?_
                rintro e w20 ⟨A5, c5, q5, rfl, hq5, ha5, hb20⟩
                obtain ⟨N5, hN5⟩ : ∃ k, k = q5.length := ⟨_, rfl⟩
                rw [← hN5]
                obtain ⟨p14, hp14⟩ : ∃ p, p = w20.heap.size := ⟨_, rfl⟩
                obtain ⟨V14, hV14⟩ : ∃ V, V = w20.alloc (.cells #[.slice A5 N5 c5] 37) := ⟨_, rfl⟩
                have hc14 : V14.cell? ⟨p14, 0, none⟩ = some (.slice A5 N5 c5) := by rw [hV14, hp14]; exact cell_laid _ _ _ 0
                have hb14 : Below w20.heap.size w20 V14 := by rw [hV14]; exact (Below.refl _ _).alloc (Nat.le_refl _) _
                have HB14 := Lib.hid (below_tr HBt.out (below_tr hb20 hb14))
                have HZ14 := Lib.hid (show V14.heap.size = p14 + 1 by rw [hV14, hp14]; exact World.size_alloc _ _)
                have HQ14 := Lib.hid (fun (X : World) (hX : Below V14.heap.size V14 X) => show Are X A5 c5 q5 from (ha5.below hb14).below hX)
                have HQ5 := Lib.hid hq5
                have HN5 := Lib.hid hN5
                have HS14 := Lib.hid (fun (X : World) (hX : Below V14.heap.size V14 X) => show (X.cell? ⟨g, 0, none⟩ = some (.slice A N c) ∧ (X.cell? ⟨g + 1, 0, none⟩ = some (.int .u64 i) ∧ X.cell? ⟨g + 1, 1, none⟩ = some (.int .u64 b) ∧ X.cell? ⟨g + 1, 2, none⟩ = some (.int .u64 f) ∧ X.cell? ⟨g + 1, 3, none⟩ = some (.slice Av nx cv) ∧ X.cell? ⟨g + 1, 4, none⟩ = some (.int .i64 s))) ∧ (X.cell? ⟨p7, 0, none⟩ = some (.slice A1 n c1) ∧ X.cell? ⟨p7, 1, none⟩ = some (.slice B1 n d1)) ∧ X.cell? ⟨p14, 0, none⟩ = some (.slice A5 N5 c5) from
                  ⟨(HS7.out X (below_tr HB14.out hX)).1, (HS7.out X (below_tr HB14.out hX)).2, (hX.cell (p := ⟨p14, 0, none⟩) (World.block_lt_of_cell? _ _ hc14)).trans hc14⟩)
                obtain ⟨⟨u0, u1, u2, u3, u4, u5⟩, ⟨u6, u7⟩, u8⟩ := HS14.out V14 (Below.refl _ _)
                obtain ⟨⟨k0, k1, k2, k3, k4, k5⟩, ⟨k6, k7⟩, k8⟩ := HS14.out (w20.alloc (.cells #[.slice A5 N5 c5] 37)) (by rw [← hV14]; exact Below.refl _ _)
                have HV14 := Lib.hid hV14
                have HP14 := Lib.hid hp14
                clear hq5 ha5 hb20 hN5 hp14 hV14 hc14 hb14 y0 y1 y2 y3 y4 y5 y6 y7 y8 y9 y10
                by_cases hD : DE = 0
                · subst hD
                  obtain ⟨e1, e2, e3⟩ := HK20.out rfl
                  have HR20 := Lib.hid (HR2.out A1 B1 c1 d1 e1 e2)
                  have HA20 := Lib.hid (fun (A1 B1 : Option Addr) (c1 d1 : Nat) (X : World) (hL : Lis X A1 c1 C B1 d1 M2) (ha : Are X A5 c5 q5) => HA2.out A1 B1 A5 c1 d1 c5 q5 HQ5.out e3 X hL ha)
                  rw [← HN5.out] at HA20
                  clear e1 e2 e3
                  go_wp2_with fail
                  rw [← HV14.out, ← HP14.out, ← HZ14.out]
                  clear k0 k1 k2 k3 k4 k5 k6 k7 k8
                  refine (HR20.out V14 (HL7.out V14 HB14.out)).mono ?_
                  rintro e w21 ⟨A6, c6, B6, d6, rfl, hl6, hb21⟩
                  obtain ⟨p15, hp15⟩ : ∃ p, p = w21.heap.size := ⟨_, rfl⟩
                  obtain ⟨V15, hV15⟩ : ∃ V, V = w21.alloc (.cells #[.slice A6 n c6, .slice B6 n d6] 25) := ⟨_, rfl⟩
                  obtain ⟨hl15, hb15⟩ := lbox w21 A6 n c6 B6 n d6
                  rw [← hV15, ← hp15] at hl15
                  rw [← hV15] at hb15
                  have HB15 := Lib.hid (below_tr hb21 hb15)
                  have HL15 := Lib.hid (hl6.below hb15)
                  obtain ⟨⟨v0, v1⟩, v2⟩ := And.intro (And.intro hl15.c0 hl15.c1) (HS14.out V15 HB15.out).2.2
                  obtain ⟨⟨k0, k1⟩, k2⟩ := And.intro (And.intro hl15.c0 hl15.c1) (HS14.out V15 HB15.out).2.2
                  rw [hV15] at k0 k1 k2
                  have HV15 := Lib.hid hV15
                  have HP15 := Lib.hid hp15
                  clear hl6 hb21 hp15 hV15 hl15 hb15 u0 u1 u2 u3 u4 u5 u6 u7 u8
                  go_wp2_with fail
                  rw [← HV15.out, ← HP15.out]
                  refine (HA20.out _ _ _ _ V15 HL15.out (HQ14.out V15 HB15.out)).mono ?_
                  rintro e w22 ⟨rfl, hb22⟩
                  have HB22 := Lib.hid (below_tr HB14.out (below_tr HB15.out hb22))
                  clear hb22 k0 k1 k2 v0 v1 v2
                  go_wp2
                  go_ret
                  exact ⟨by first | rfl | simp, below_tr HB0.out (below_tr HB7.out HB22.out)⟩
                · have n1 : ((DE : Int) == 0) = false := by simpa using hD
                  have n2 : ((DE : Int) != 0) = true := by simpa using hD
                  have n3 : decide (DE = 0) = false := decide_eq_false hD
                  go_wp2
                  go_ret
                  exact ⟨by first | rfl | simp, by rw [← HV14.out]; exact below_tr HB0.out (below_tr HB7.out HB14.out)⟩
              · have r1 : ((DM : Int) == (nx : Int)) = false := by simp; omega
                have r2 : (DM == nx) = false := by simpa using hdd
                clear hcell
                refine MskL.region_quiet (fun X => Below V9.heap.size V9 X) (by kernel_rfl) (by kernel_rfl) (below_drew (Below.refl _ _)) ?_
                repeat (first | go_big_quiet_skip | (go_big_quiet_want; go_big_quiet_op; first | go_big_quiet_on | (refine ⟨_, fun _ _ => rfl, ?_⟩; go_big_quiet_on) | (apply Exists.intro; refine ⟨fun W hW => ?_, ?_⟩; (focus (obtain ⟨z0, z1⟩ := HRd.out W hW; simp only [Result.andThen, z0, z1]; exact ⟨trivial, rfl⟩)); go_big_quiet_on)))
                refine wpQuiet_nil ?_
                intro w9 hq
                have HBq := Lib.hid (below_tr HB9.out hq)
                have HBr := Lib.hid hq
                obtain ⟨⟨y0, y1, y2, y3, y4, y5⟩, ⟨y6, y7⟩, y8⟩ := HS9.out w9 hq
                clear hq x0 x1 x2 x3 x4 x5 x6 x7 x8
                go_wp2_with fail
                refine (HDr.out w9 (below_tr HB7.out HBq.out)).mono ?_
                rintro e w20 ⟨A5, c5, q5, rfl, hq5, ha5, hb20⟩
                obtain ⟨N5, hN5⟩ : ∃ k, k = q5.length := ⟨_, rfl⟩
                rw [← hN5]
                obtain ⟨p14, hp14⟩ : ∃ p, p = w20.heap.size := ⟨_, rfl⟩
                obtain ⟨V14, hV14⟩ : ∃ V, V = w20.alloc (.cells #[.slice A5 N5 c5] 37) := ⟨_, rfl⟩
                have hc14 : V14.cell? ⟨p14, 0, none⟩ = some (.slice A5 N5 c5) := by rw [hV14, hp14]; exact cell_laid _ _ _ 0
                have hb14 : Below w20.heap.size w20 V14 := by rw [hV14]; exact (Below.refl _ _).alloc (Nat.le_refl _) _
                have HB14 := Lib.hid (below_tr HBq.out (below_tr hb20 hb14))
                have HZ14 := Lib.hid (show V14.heap.size = p14 + 1 by rw [hV14, hp14]; exact World.size_alloc _ _)
                have HQ14 := Lib.hid (fun (X : World) (hX : Below V14.heap.size V14 X) => show Are X A5 c5 q5 from (ha5.below hb14).below hX)
                have HQ5 := Lib.hid hq5
                have HN5 := Lib.hid hN5
                have HS14 := Lib.hid (fun (X : World) (hX : Below V14.heap.size V14 X) => show (X.cell? ⟨g, 0, none⟩ = some (.slice A N c) ∧ (X.cell? ⟨g + 1, 0, none⟩ = some (.int .u64 i) ∧ X.cell? ⟨g + 1, 1, none⟩ = some (.int .u64 b) ∧ X.cell? ⟨g + 1, 2, none⟩ = some (.int .u64 f) ∧ X.cell? ⟨g + 1, 3, none⟩ = some (.slice Av nx cv) ∧ X.cell? ⟨g + 1, 4, none⟩ = some (.int .i64 s))) ∧ (X.cell? ⟨p7, 0, none⟩ = some (.slice A1 n c1) ∧ X.cell? ⟨p7, 1, none⟩ = some (.slice B1 n d1)) ∧ X.cell? ⟨p14, 0, none⟩ = some (.slice A5 N5 c5) from
                  ⟨(HS7.out X (below_tr HB14.out hX)).1, (HS7.out X (below_tr HB14.out hX)).2, (hX.cell (p := ⟨p14, 0, none⟩) (World.block_lt_of_cell? _ _ hc14)).trans hc14⟩)
                obtain ⟨⟨u0, u1, u2, u3, u4, u5⟩, ⟨u6, u7⟩, u8⟩ := HS14.out V14 (Below.refl _ _)
                obtain ⟨⟨k0, k1, k2, k3, k4, k5⟩, ⟨k6, k7⟩, k8⟩ := HS14.out (w20.alloc (.cells #[.slice A5 N5 c5] 37)) (by rw [← hV14]; exact Below.refl _ _)
                have HV14 := Lib.hid hV14
                have HP14 := Lib.hid hp14
                clear hq5 ha5 hb20 hN5 hp14 hV14 hc14 hb14 y0 y1 y2 y3 y4 y5 y6 y7 y8
                by_cases hD : DE = 0
                · subst hD
                  obtain ⟨e1, e2, e3⟩ := HK20.out rfl
                  have HR20 := Lib.hid (HR2.out A1 B1 c1 d1 e1 e2)
                  have HA20 := Lib.hid (fun (A1 B1 : Option Addr) (c1 d1 : Nat) (X : World) (hL : Lis X A1 c1 C B1 d1 M2) (ha : Are X A5 c5 q5) => HA2.out A1 B1 A5 c1 d1 c5 q5 HQ5.out e3 X hL ha)
                  rw [← HN5.out] at HA20
                  clear e1 e2 e3
                  go_wp2_with fail
                  rw [← HV14.out, ← HP14.out, ← HZ14.out]
                  clear k0 k1 k2 k3 k4 k5 k6 k7 k8
                  refine (HR20.out V14 (HL7.out V14 HB14.out)).mono ?_
                  rintro e w21 ⟨A6, c6, B6, d6, rfl, hl6, hb21⟩
                  obtain ⟨p15, hp15⟩ : ∃ p, p = w21.heap.size := ⟨_, rfl⟩
                  obtain ⟨V15, hV15⟩ : ∃ V, V = w21.alloc (.cells #[.slice A6 n c6, .slice B6 n d6] 25) := ⟨_, rfl⟩
                  obtain ⟨hl15, hb15⟩ := lbox w21 A6 n c6 B6 n d6
                  rw [← hV15, ← hp15] at hl15
                  rw [← hV15] at hb15
                  have HB15 := Lib.hid (below_tr hb21 hb15)
                  have HL15 := Lib.hid (hl6.below hb15)
                  obtain ⟨⟨v0, v1⟩, v2⟩ := And.intro (And.intro hl15.c0 hl15.c1) (HS14.out V15 HB15.out).2.2
                  obtain ⟨⟨k0, k1⟩, k2⟩ := And.intro (And.intro hl15.c0 hl15.c1) (HS14.out V15 HB15.out).2.2
                  rw [hV15] at k0 k1 k2
                  have HV15 := Lib.hid hV15
                  have HP15 := Lib.hid hp15
                  clear hl6 hb21 hp15 hV15 hl15 hb15 u0 u1 u2 u3 u4 u5 u6 u7 u8
                  go_wp2_with fail
                  rw [← HV15.out, ← HP15.out]
                  refine (HA20.out _ _ _ _ V15 HL15.out (HQ14.out V15 HB15.out)).mono ?_
                  rintro e w22 ⟨rfl, hb22⟩
                  have HB22 := Lib.hid (below_tr HB14.out (below_tr HB15.out hb22))
                  clear hb22 k0 k1 k2 v0 v1 v2
                  go_wp2
                  go_ret
                  exact ⟨by first | rfl | simp, below_tr HB0.out (below_tr HB7.out HB22.out)⟩
                · have n1 : ((DE : Int) == 0) = false := by simpa using hD
                  have n2 : ((DE : Int) != 0) = true := by simpa using hD
                  have n3 : decide (DE = 0) = false := decide_eq_false hD
                  go_wp2
                  go_ret
                  exact ⟨by first | rfl | simp, by rw [← HV14.out]; exact below_tr HB0.out (below_tr HB7.out HB14.out)⟩
          · have j0 : ((PE : Int) == 0) = false := by simpa using hP
            have j1 : decide (PE = 0) = false := decide_eq_false hP
            have HRd := Lib.hid (fun (X : World) (hX : Below V9.heap.size V9 X) => show X.cell? ⟨g + 1, 3, none⟩ = some (.slice Av nx cv) ∧ True from ⟨(HS9.out X hX).1.2.2.2.2.1, trivial⟩)
            refine MskL.region_quiet (fun X => Below V9.heap.size V9 X) (by kernel_rfl) (by kernel_rfl) (below_drew (Below.refl _ _)) ?_
            repeat (first | go_big_quiet_skip | (go_big_quiet_want; go_big_quiet_op; first | go_big_quiet_on | (refine ⟨_, fun _ _ => rfl, ?_⟩; go_big_quiet_on) | (apply Exists.intro; refine ⟨fun W hW => ?_, ?_⟩; (focus (obtain ⟨z0, z1⟩ := HRd.out W hW; simp only [Result.andThen, z0, z1]; exact ⟨trivial, rfl⟩)); go_big_quiet_on)))
            refine wpQuiet_nil ?_
            intro w9 hq
            have HBq := Lib.hid (below_tr HB9.out hq)
            have HBr := Lib.hid hq
            obtain ⟨⟨y0, y1, y2, y3, y4, y5⟩, ⟨y6, y7⟩, y8⟩ := HS9.out w9 hq
            clear hq x0 x1 x2 x3 x4 x5 x6 x7 x8
            go_wp2_with fail
            refine (HDr.out w9 (below_tr HB7.out HBq.out)).mono ?_
            rintro e w20 ⟨A5, c5, q5, rfl, hq5, ha5, hb20⟩
            obtain ⟨N5, hN5⟩ : ∃ k, k = q5.length := ⟨_, rfl⟩
            rw [← hN5]
            obtain ⟨p14, hp14⟩ : ∃ p, p = w20.heap.size := ⟨_, rfl⟩
            obtain ⟨V14, hV14⟩ : ∃ V, V = w20.alloc (.cells #[.slice A5 N5 c5] 37) := ⟨_, rfl⟩
            have hc14 : V14.cell? ⟨p14, 0, none⟩ = some (.slice A5 N5 c5) := by rw [hV14, hp14]; exact cell_laid _ _ _ 0
            have hb14 : Below w20.heap.size w20 V14 := by rw [hV14]; exact (Below.refl _ _).alloc (Nat.le_refl _) _
            have HB14 := Lib.hid (below_tr HBq.out (below_tr hb20 hb14))
            have HZ14 := Lib.hid (show V14.heap.size = p14 + 1 by rw [hV14, hp14]; exact World.size_alloc _ _)
            have HQ14 := Lib.hid (fun (X : World) (hX : Below V14.heap.size V14 X) => show Are X A5 c5 q5 from (ha5.below hb14).below hX)
            have HQ5 := Lib.hid hq5
            have HN5 := Lib.hid hN5
            have HS14 := Lib.hid (fun (X : World) (hX : Below V14.heap.size V14 X) => show (X.cell? ⟨g, 0, none⟩ = some (.slice A N c) ∧ (X.cell? ⟨g + 1, 0, none⟩ = some (.int .u64 i) ∧ X.cell? ⟨g + 1, 1, none⟩ = some (.int .u64 b) ∧ X.cell? ⟨g + 1, 2, none⟩ = some (.int .u64 f) ∧ X.cell? ⟨g + 1, 3, none⟩ = some (.slice Av nx cv) ∧ X.cell? ⟨g + 1, 4, none⟩ = some (.int .i64 s))) ∧ (X.cell? ⟨p7, 0, none⟩ = some (.slice A1 n c1) ∧ X.cell? ⟨p7, 1, none⟩ = some (.slice B1 n d1)) ∧ X.cell? ⟨p14, 0, none⟩ = some (.slice A5 N5 c5) from
              ⟨(HS7.out X (below_tr HB14.out hX)).1, (HS7.out X (below_tr HB14.out hX)).2, (hX.cell (p := ⟨p14, 0, none⟩) (World.block_lt_of_cell? _ _ hc14)).trans hc14⟩)
            obtain ⟨⟨u0, u1, u2, u3, u4, u5⟩, ⟨u6, u7⟩, u8⟩ := HS14.out V14 (Below.refl _ _)
            obtain ⟨⟨k0, k1, k2, k3, k4, k5⟩, ⟨k6, k7⟩, k8⟩ := HS14.out (w20.alloc (.cells #[.slice A5 N5 c5] 37)) (by rw [← hV14]; exact Below.refl _ _)
            have HV14 := Lib.hid hV14
            have HP14 := Lib.hid hp14
            clear hq5 ha5 hb20 hN5 hp14 hV14 hc14 hb14 y0 y1 y2 y3 y4 y5 y6 y7 y8
            by_cases hD : DE = 0
            · subst hD
              obtain ⟨e1, e2, e3⟩ := HK20.out rfl
              have HR20 := Lib.hid (HR2.out A1 B1 c1 d1 e1 e2)
              have HA20 := Lib.hid (fun (A1 B1 : Option Addr) (c1 d1 : Nat) (X : World) (hL : Lis X A1 c1 C B1 d1 M2) (ha : Are X A5 c5 q5) => HA2.out A1 B1 A5 c1 d1 c5 q5 HQ5.out e3 X hL ha)
              rw [← HN5.out] at HA20
              clear e1 e2 e3
              go_wp2_with fail
              rw [← HV14.out, ← HP14.out, ← HZ14.out]
              clear k0 k1 k2 k3 k4 k5 k6 k7 k8
              refine (HR20.out V14 (HL7.out V14 HB14.out)).mono ?_
              rintro e w21 ⟨A6, c6, B6, d6, rfl, hl6, hb21⟩
              obtain ⟨p15, hp15⟩ : ∃ p, p = w21.heap.size := ⟨_, rfl⟩
              obtain ⟨V15, hV15⟩ : ∃ V, V = w21.alloc (.cells #[.slice A6 n c6, .slice B6 n d6] 25) := ⟨_, rfl⟩
              obtain ⟨hl15, hb15⟩ := lbox w21 A6 n c6 B6 n d6
              rw [← hV15, ← hp15] at hl15
              rw [← hV15] at hb15
              have HB15 := Lib.hid (below_tr hb21 hb15)
              have HL15 := Lib.hid (hl6.below hb15)
              obtain ⟨⟨v0, v1⟩, v2⟩ := And.intro (And.intro hl15.c0 hl15.c1) (HS14.out V15 HB15.out).2.2
              obtain ⟨⟨k0, k1⟩, k2⟩ := And.intro (And.intro hl15.c0 hl15.c1) (HS14.out V15 HB15.out).2.2
              rw [hV15] at k0 k1 k2
              have HV15 := Lib.hid hV15
              have HP15 := Lib.hid hp15
              clear hl6 hb21 hp15 hV15 hl15 hb15 u0 u1 u2 u3 u4 u5 u6 u7 u8
              go_wp2_with fail
              rw [← HV15.out, ← HP15.out]
              refine (HA20.out _ _ _ _ V15 HL15.out (HQ14.out V15 HB15.out)).mono ?_
              rintro e w22 ⟨rfl, hb22⟩
              have HB22 := Lib.hid (below_tr HB14.out (below_tr HB15.out hb22))
              clear hb22 k0 k1 k2 v0 v1 v2
              go_wp2
              go_ret
              exact ⟨by first | rfl | simp, below_tr HB0.out (below_tr HB7.out HB22.out)⟩
            · have n1 : ((DE : Int) == 0) = false := by simpa using hD
              have n2 : ((DE : Int) != 0) = true := by simpa using hD
              have n3 : decide (DE = 0) = false := decide_eq_false hD
              go_wp2
              go_ret
              exact ⟨by first | rfl | simp, by rw [← HV14.out]; exact below_tr HB0.out (below_tr HB7.out HB14.out)⟩
        · have n1 : ((E : Int) == 0) = false := by simpa using hE
          have n2 : ((E : Int) != 0) = true := by simpa using hE
          have HBn0 := Lib.hid (HBn.out hE)
          clear hE
          go_wp2_with fail
          refine (HBn0.out w3 HB3.out).mono ?_
          rintro e w5 ⟨A1, c1, n1', B1, d1, rfl, hb5⟩
          obtain ⟨p7, hp7⟩ : ∃ p, p = w5.heap.size := ⟨_, rfl⟩
          obtain ⟨V7, hV7⟩ : ∃ V, V = w5.alloc (.cells #[.slice A1 n1' c1, .slice B1 0 d1] 25) := ⟨_, rfl⟩
          obtain ⟨hl7, hb7⟩ := lbox w5 A1 n1' c1 B1 0 d1
          have x0 := hl7.c0
          have x1 := hl7.c1
          have HB7 := Lib.hid (below_tr HB3.out (below_tr hb5 hb7))
          clear hb5 hl7 hb7 hp7 hV7 y0 y1 y2 y3 y4 y5
          go_wp2
          go_ret
          exact ⟨by first | rfl | simp, below_tr HB0.out HB7.out⟩

set_option maxRecDepth 100000 in
theorem lifted (os : Os) (started : os.Started) (H : Type) (enc : TypeId × Value → H) :
    ReturnsInHanded {} Try.checked os 6 .any (Rows.listsAgreeSpec.pre6 enc Try.prog Try.f6 Rows.listsAgreeRow.domain false) (Rows.listsAgreeSpec.post enc Try.prog Try.f6 false true false false) := by
  refine returnsInHanded_of_change (C := Try.checked) Try.own started (by kernel_rfl) Try.func6
    (ChangeSpec.witness6 (enc := enc) (C := Try.checked) false ⟨#[], #[.agg #[.slice none 0 0], .slice none 0 0, .agg #[.int .u64 0, .int .u64 0, .int .u64 0, .slice none 0 0, .int .i64 0]], []⟩ 8 (by kernel_rfl) (by kernel_rfl) (by kernel_rfl) (by kernel_rfl)) ?_
  intro W base args ds gs before hval0 hW hcnd _
  have hval : ∀ (j : Nat) t v, Try.f6.params[j]? = some t → args[j]? = some v → Value.okWide Try.prog W .any base t v := hval0
  have hW' := hW
  obtain ⟨p, q, hA0, hV, rfl, hfz, hnd⟩ := hW
  have hA : DataW.TrodAll enc Try.prog W 0 (fun _ => true) true Try.f6.params.toList args.toList ds p := hA0
  rw [Try.params6] at hA hval
  have hA' := hA
  obtain ⟨v0, vs0, d0, ds0, p0, q0, hargs, rfl, rfl, h0, r0⟩ := trodAll_cons hA
  obtain ⟨v1, vs1, d1, ds1, p1, q1, rfl, rfl, rfl, h1, r1⟩ := trodAll_cons r0
  obtain ⟨v2, vs2, d2, ds2, p2, q2, rfl, rfl, rfl, h2, r2⟩ := trodAll_cons r1
  obtain ⟨rfl, rfl, rfl⟩ := trodAll_nil r2
  obtain rfl : args = #[v0, v1, v2] := by cases args; simp_all
  obtain ⟨rfl, rfl⟩ := trodVars_none hV
  obtain ⟨A0, c0, z0, rfl, sl0⟩ := open_arena (hval 0 37 v0 rfl rfl) h0
  obtain ⟨A1, len1, c1, rfl⟩ := okWide_slice Try.underlying22 (hval 1 22 v1 rfl rfl)
  obtain ⟨z1, rfl, sl1⟩ := open_vecs h1
  obtain ⟨i2, b2, f2, A2, c2, x2, s2, rfl, wi2, wb2, wf2, sx2, ws2⟩ := open_put (hval 2 67 v2 rfl rfl) h2
  clear hA0 hval0
  refine (walk A0 c0 z0 sl0 A1 c1 z1 sl1 i2 b2 f2 A2 c2 x2 s2 wi2 wb2 wf2 sx2 ws2).mono fun e W' ⟨he, bel⟩ => ?_
  subst he
  exact ⟨_, rfl, _, _, _, [], _, [], hW', trodAll_mk1 (shut_bool Try.underlying4 _), trodAll_below bel _ _ _ _ (by kernel_rfl) hA', rfl, bel.frame _, fun h => by cases h⟩

theorem proved : Rows.ListsAgreeSaid :=
  OpenClaim.holds_of_wide 6 Try.f6 rfl rfl rfl rfl rfl rfl rfl ⟨rfl, rfl, rfl, rfl, rfl⟩ rfl rfl rfl rfl rfl (by kernel_rfl) Try.func6 (by kernel_rfl)
    (of_decide_eq_true (by kernel_rfl)) (by unfold Func.isWrapper; first | (rw [if_pos (by decide +kernel)]; kernel_rfl) | (rw [if_neg (by decide +kernel)]; exact ⟨rfl, rfl⟩))
    (fun os started H enc _ => lifted os started H enc)
#print axioms proved
end Go.Proofs.Ytpeialkfddjndaa.listsAgree
