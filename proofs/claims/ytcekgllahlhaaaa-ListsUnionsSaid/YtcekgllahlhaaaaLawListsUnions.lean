/-
  Proved: the law ListsUnions, the Unions of parts of the places add up to that of all of them, and a place named twice counts once, returns true for all lists and two rows of places, and leaves all memory as it was. No condition.
-/
import Derived.Test.YtcekgllahlhaaaaMLisW
import Derived.Test.YtcekgllahlhaaaaMLisA
namespace Go.Proofs.Ytcekgllahlhaaaa.listsUnions
open Go.ChangeShapes Go.WideShapes Go.ChangeAt Go.RowKit Go.Deep Go.Shelf
open MskL (Mk Ms mv has mk Fine MRow has_mk mk_congr mk_fine GivesM GivesME)
set_option linter.unusedVariables false
set_option linter.unusedSimpArgs false
set_option maxRecDepth 100000

/-! ### what Unions do -/
theorem uni_app (M : List Mk) (a b : List Int) : unionM M (a ++ b) = mk fun n => [unionM M a, unionM M b].any fun m => has m n := by
  unfold unionM
  exact mk_congr (fun n hn => by simp [-List.getD_eq_getElem?_getD, has_mk, hn])
theorem uni_twice (M : List Mk) (a : List Int) : unionM M (a ++ a) = unionM M a := by
  rw [uni_app]
  unfold unionM
  exact mk_congr (fun n hn => by simp [-List.getD_eq_getElem?_getD, has_mk, hn])
theorem uni_ok {C : List (List Int)} {M : List Mk} {a b : List Int} (h : unionE C M (a ++ b) = 0) : unionE C M a = 0 ∧ unionE C M b = 0 ∧ unionE C M (a ++ a) = 0 := by
  unfold unionE at *
  split at h
  · rename_i hk
    split at h
    · rename_i ha
      rw [List.all_append, Bool.and_eq_true] at ha
      rw [if_pos hk, if_pos hk, if_pos hk, if_pos ha.1, if_pos ha.2, List.all_append, ha.1]
      exact ⟨rfl, rfl, rfl⟩
    · omega
  · omega
theorem uni_no {C : List (List Int)} {M : List Mk} {a b : List Int} (h : unionE C M (a ++ b) ≠ 0) : unionE C M a ≠ 0 ∨ unionE C M b ≠ 0 := by
  by_cases ha : unionE C M a = 0
  · refine .inr (fun hb => h ?_)
    unfold unionE at *
    split at ha
    · rename_i hk
      rw [if_pos hk] at hb ⊢
      split at ha
      · rename_i h1
        split at hb
        · rename_i h2
          rw [List.all_append, h1, h2]; rfl
        · omega
      · omega
    · omega
  · exact .inl ha
theorem uni_fine (C : List (List Int)) (M : List Mk) (a : List Int) : Fine (unionR C M a) := by
  unfold unionR
  split
  · exact mk_fine _
  · exact ⟨by decide, by decide⟩
/-- Numbers laid behind numbers. -/
theorem two_rows {base : Nat} {w : World} {A : Option Addr} {c n : Nat} {a b : List Int} (h : w.ownsRow base 3 1 (.slice A n c) n (a.map (Value.int .i64) ++ b.map (Value.int .i64))) (hn : n = (a ++ b).length) (ha : ∀ x ∈ a, (Lit.int .i64 x).wf = true) (hb : ∀ x ∈ b, (Lit.int .i64 x).wf = true) : Vec .i64 w A c (a ++ b) := by
  refine OwnN.vec (base := base) ⟨by rw [← hn, List.map_append]; exact h, fun x hx => ?_⟩
  rcases List.mem_append.1 hx with hx | hx
  · exact ha x hx
  · exact hb x hx
theorem row_not_mask {base : Nat} {W : World} {A : Option Addr} {ca n : Nat} {l : List Value} {g a b : Nat} (h : W.ownsRow base 3 1 (.slice A n ca) n l) (hm : MRow W g a b) : ¬ blk A = some g := by
  intro hi
  rcases h.2 with ⟨e1, _⟩ | ⟨g', cap, cur, e1, _, hh, _⟩
  · injection e1 with e1; rw [e1] at hi; cases hi
  · injection e1 with e1
    rw [e1] at hi
    have : g' = g := by simpa [blk] using hi
    subst this
    rw [show W.heap[g']? = _ from hm] at hh
    injection hh with hh
    injection hh with _ h2
    exact absurd h2 (by decide)
theorem bel1 (w : World) (o : Obj) : Below w.heap.size w (w.alloc o) := (Below.refl _ w).alloc (Nat.le_refl _) _

set_option maxHeartbeats 8000000 in
theorem walk (A : Option Addr) (c : Nat) (C : List (List Int)) (B : Option Addr) (d : Nat) (M : List Mk) {w : World} (h : Lis w A c C B d M) (Aa : Option Addr) (ca : Nat) (a : List Int) (ha : Vec .i64 w Aa ca a) (Ab : Option Addr) (cb : Nat) (b : List Int) (hb : Vec .i64 w Ab cb b) :
    Calls Try.prog 4 #[lv A c C.length B d M.length, .slice Aa a.length ca, .slice Ab b.length cb] w fun e w' => e = .returned (.bool true) ∧ Below w.heap.size w w' := by
  obtain ⟨g, hg⟩ : ∃ g, g = w.heap.size := ⟨_, rfl⟩
  obtain ⟨n, hn⟩ : ∃ n, n = C.length := ⟨_, rfl⟩
  obtain ⟨m, hm⟩ : ∃ m, m = M.length := ⟨_, rfl⟩
  obtain ⟨na, hna⟩ : ∃ na, na = a.length := ⟨_, rfl⟩
  obtain ⟨nb, hnb⟩ : ∃ nb, nb = b.length := ⟨_, rfl⟩
  obtain ⟨W0, hW0⟩ : ∃ W0, W0 = w.alloc (.cells #[.slice A n c, .slice B m d] 25) := ⟨_, rfl⟩
  obtain ⟨hl0, hb0⟩ := lbox w A n c B m d
  rw [← hW0] at hl0 hb0
  rw [← hg] at hl0
  have HS := Lib.hid (fun (X : World) (hX : Below W0.heap.size W0 X) => show X.cell? ⟨g, 0, none⟩ = some (.slice A n c) ∧ X.cell? ⟨g, 1, none⟩ = some (.slice B m d) from ⟨(hl0.below hX hl0.lt).c0, (hl0.below hX hl0.lt).c1⟩)
  have HWk := Lib.hid (wakes_any W0)
  have HOv := Lib.hid (fun (X : World) (hX : Below W0.heap.size W0 X) => overL_any A c C B d M X ((h.below hb0).below hX))
  have HVa := Lib.hid (fun (X : World) (hX : Below W0.heap.size W0 X) => (ha.below hb0).below hX)
  have HVb := Lib.hid (fun (X : World) (hX : Below W0.heap.size W0 X) => (hb.below hb0).below hX)
  have HUn := Lib.hid (fun (X : World) (hX : Below W0.heap.size W0 X) (P : Option Addr) (e : Nat) (ps : List Int) (np : Nat) (hnp : np = ps.length) (hp : Vec .i64 X P e ps) => show Calls Try.prog 9 #[lv A c n B d m, .slice P np e] X (fun e w' => e = .returned (.tuple #[mv (unionR C M ps), .int .i64 (unionE C M ps)]) ∧ Below X.heap.size X w') from by
    have := union_any A c C B d M P e ps X ((h.below hb0).below hX) hp
    rw [← hn, ← hm, ← hnp] at this
    exact this)
  have HB0 := Lib.hid hb0
  have HW0 := Lib.hid hW0
  have HG := Lib.hid hg
  have HNa := Lib.hid hna
  have HNb := Lib.hid hnb
  have HFa := Lib.hid ha.fit
  have HFb := Lib.hid hb.fit
  rw [← hn, ← hm] at HOv ⊢
  rw [← hna, ← hnb]
  generalize hov : overL C M = OV at *
  obtain ⟨x0, x1⟩ := hl0
  clear h ha hb hg hn hm hb0 hW0 hov hna hnb
  unfold lv mv at *
  cases OV with
  | true =>
    go_enter Try.func4, Try.ntmps4
    go_wp2_with (rw [← HW0.out, ← HG.out])
    refine HWk.out.mono ?_
    rintro e w1 ⟨rfl, hb1⟩
    obtain ⟨y0, y1⟩ := HS.out w1 hb1
    have HB1 := Lib.hid hb1
    clear hb1 x0 x1
    go_wp2_with fail
    refine (HOv.out w1 HB1.out).mono ?_
    rintro e w2 ⟨rfl, hb2⟩
    have HB2 := Lib.hid (below_tr HB0.out (below_tr HB1.out hb2))
    clear hb2
    go_wp2
    go_ret
    exact ⟨rfl, HB2.out⟩
  | false =>
    go_enter Try.func4, Try.ntmps4
    go_wp2_with (rw [← HW0.out, ← HG.out])
    refine HWk.out.mono ?_
    rintro e w1 ⟨rfl, hb1⟩
    obtain ⟨y0, y1⟩ := HS.out w1 hb1
    have HB1 := Lib.hid hb1
    clear hb1 x0 x1
    go_wp2_with fail
    refine (HOv.out w1 HB1.out).mono ?_
    rintro e w2 ⟨rfl, hb2⟩
    have HB2 := Lib.hid (below_tr HB1.out hb2)
    obtain ⟨x0, x1⟩ := HS.out w2 HB2.out
    clear hb2 y0 y1
    by_cases ha40 : 40 < na
    · have t1 : decide ((40 : Int) < (na : Int)) = true := by simp; omega
      go_wp2
      go_ret
      exact ⟨rfl, below_tr HB0.out HB2.out⟩
    · have t1 : decide ((40 : Int) < (na : Int)) = false := by simp; omega
      by_cases hb40 : 40 < nb
      · have t2 : decide ((40 : Int) < (nb : Int)) = true := by simp; omega
        go_wp2
        go_ret
        exact ⟨rfl, below_tr HB0.out HB2.out⟩
      · have t2 : decide ((40 : Int) < (nb : Int)) = false := by simp; omega
        have hla : na ≤ 40 := by omega
        have hlb : nb ≤ 40 := by omega
        clear ha40 hb40
        have HRa := Lib.hid (fun (X : World) (hX : Below W0.heap.size W0 X) => show Read X Aa na 1 (a.map (Value.int .i64)) from by rw [HNa.out]; exact Read.vec (HVa.out X hX))
        have HRb := Lib.hid (fun (X : World) (hX : Below W0.heap.size W0 X) => show Read X Ab nb 1 (b.map (Value.int .i64)) from by rw [HNb.out]; exact Read.vec (HVb.out X hX))
        obtain ⟨r, hr⟩ : ∃ r, r = unionR C M (a ++ b) := ⟨_, rfl⟩
        obtain ⟨E, hE⟩ : ∃ E, E = unionE C M (a ++ b) := ⟨_, rfl⟩
        have HUab := Lib.hid (fun (X : World) (hX : Below W0.heap.size W0 X) (P : Option Addr) (q : Nat) (ho : X.ownsRow W0.heap.size 3 1 (.slice P (na + nb) q) (na + nb) (a.map (Value.int .i64) ++ b.map (Value.int .i64))) => show Calls Try.prog 9 #[.agg #[.slice A n c, .slice B m d], .slice P (na + nb) q] X (fun e w' => e = .returned (.tuple #[.agg #[.int .u64 (r.1 : Nat), .int .u64 (r.2 : Nat)], .int .i64 E]) ∧ Below X.heap.size X w') from by
          have hl : na + nb = (a ++ b).length := by rw [List.length_append, HNa.out, HNb.out]
          rw [hr, hE]
          exact HUn.out X hX P q (a ++ b) (na + nb) hl (two_rows ho hl HFa.out HFb.out))
        have HRE := Lib.hid (And.intro hr hE)
        clear hr hE
        go_upto_region 5 with fail
        refine Code.wp_mono (Q := (fun e a2 X => e = Exit.normal ∧ ∃ (g7 : Nat) (t31 t33 t35 : Value), a2 = { tmps := #[.agg #[.slice A n c, .slice B m d], .slice Aa na ca, .slice Ab nb cb, .pointer (some ⟨g, 0, none⟩), undef, undef, .bool false, .pointer (some ⟨g7, 0, none⟩), .int .i64 E, undef, undef, undef, undef, undef, undef, .bool true, .bool false, .agg #[.slice A n c, .slice B m d], .bool false, .bool false, .slice Aa na ca, .int .i64 (na : Int), .bool false, .bool false, .bool false, .slice Ab nb cb, .int .i64 (nb : Int), .bool false, .bool false, .tuple #[.agg #[.int .u64 (r.1 : Nat), .int .u64 (r.2 : Nat)], .int .i64 E], .agg #[.slice A n c, .slice B m d], t31, .slice Aa na ca, t33, .slice Ab nb cb, t35, .tuple #[.agg #[.int .u64 (r.1 : Nat), .int .u64 (r.2 : Nat)], .int .i64 E], .agg #[.int .u64 (r.1 : Nat), .int .u64 (r.2 : Nat)], .int .i64 E, undef, undef, undef, undef, undef, undef, undef, undef, undef, undef, undef, undef, undef, undef, undef, undef, undef, undef, undef, undef, undef, undef, undef, undef, undef, undef, undef, undef, undef, undef, undef, undef, undef, undef, undef, undef, undef, undef, undef, undef, undef, undef, undef, undef, undef, undef, undef, undef, undef, undef, undef, undef, undef, undef, undef, undef, undef, undef], defers := [] } ∧ MRow X g7 r.1 r.2 ∧ Below W0.heap.size W0 X)) ?_ ?_
        · rintro e a2 w5 ⟨rfl, g7, t31, t33, t35, rfl, hg7, hb5⟩
          obtain ⟨hr, hE⟩ := HRE.out
          obtain ⟨ra, hra⟩ : ∃ ra, ra = unionR C M a := ⟨_, rfl⟩
          obtain ⟨Ea, hEa⟩ : ∃ Ea, Ea = unionE C M a := ⟨_, rfl⟩
          obtain ⟨rb, hrb⟩ : ∃ rb, rb = unionR C M b := ⟨_, rfl⟩
          obtain ⟨Eb, hEb⟩ : ∃ Eb, Eb = unionE C M b := ⟨_, rfl⟩
          have HUa := Lib.hid (fun (X : World) (hX : Below W0.heap.size W0 X) => show Calls Try.prog 9 #[.agg #[.slice A n c, .slice B m d], .slice Aa na ca] X (fun e w' => e = .returned (.tuple #[.agg #[.int .u64 (ra.1 : Nat), .int .u64 (ra.2 : Nat)], .int .i64 Ea]) ∧ Below X.heap.size X w') from by
            rw [hra, hEa]
            exact HUn.out X hX Aa ca a na HNa.out (HVa.out X hX))
          have HUb := Lib.hid (fun (X : World) (hX : Below W0.heap.size W0 X) => show Calls Try.prog 9 #[.agg #[.slice A n c, .slice B m d], .slice Ab nb cb] X (fun e w' => e = .returned (.tuple #[.agg #[.int .u64 (rb.1 : Nat), .int .u64 (rb.2 : Nat)], .int .i64 Eb]) ∧ Below X.heap.size X w') from by
            rw [hrb, hEb]
            exact HUn.out X hX Ab cb b nb HNb.out (HVb.out X hX))
          have HEs := Lib.hid (And.intro hra (And.intro hEa (And.intro hrb hEb)))
          have HB5 := Lib.hid hb5
          have HG7 := Lib.hid hg7
          obtain ⟨x0, x1⟩ := HS.out w5 hb5
          clear hr hE hra hEa hrb hEb hb5 hg7
          go_wp2_with fail
          refine (HUa.out w5 HB5.out).mono ?_
          rintro e w6 ⟨rfl, hb6⟩
          have hb6a := below_tr hb6 (bel1 w6 (.cells #[.int .u64 (ra.1 : Nat), .int .u64 (ra.2 : Nat)] 38))
          have HB6 := Lib.hid (HB5.out.trans (hb6a.mono HB5.out.size))
          have HG7b := Lib.hid (And.intro (HG7.out.below hb6a HG7.out.lt) (MRow.new w6 ra.1 ra.2))
          obtain ⟨x2, x3⟩ := HS.out _ HB6.out
          clear hb6 hb6a x0 x1
          go_wp2_with fail
          refine (HUb.out _ HB6.out).mono ?_
          rintro e w7 ⟨rfl, hb7⟩
          have hb7a := below_tr hb7 (bel1 w7 (.cells #[.int .u64 (rb.1 : Nat), .int .u64 (rb.2 : Nat)] 38))
          have HB7 := Lib.hid (HB6.out.trans (hb7a.mono HB6.out.size))
          have HG := Lib.hid (And.intro (HG7b.out.1.below hb7a HG7b.out.1.lt) (And.intro (HG7b.out.2.below hb7a HG7b.out.2.lt) (MRow.new w7 rb.1 rb.2)))
          obtain ⟨W7, hW7⟩ : ∃ W7, W7 = w7.alloc (.cells #[.int .u64 (rb.1 : Nat), .int .u64 (rb.2 : Nat)] 38) := ⟨_, rfl⟩
          rw [← hW7] at HB7 HG
          have HW7 := Lib.hid hW7
          clear hb7 hb7a x2 x3 hW7
          by_cases hE : E = 0
          · have q0 : (E != 0) = false := by simpa using hE
            subst hE
            obtain ⟨hr, hEe⟩ := HRE.out
            have hok := uni_ok (C := C) (M := M) (a := a) (b := b) hEe.symm
            obtain ⟨rfl, hEb0, hEaa⟩ : Ea = 0 ∧ Eb = 0 ∧ unionE C M (a ++ a) = 0 := by rw [HEs.out.2.1, HEs.out.2.2.2]; exact hok
            subst hEb0
            have hra : ra = unionM M a := by rw [HEs.out.1]; unfold unionR; rw [if_pos hok.1]
            have hrb : rb = unionM M b := by rw [HEs.out.2.2.1]; unfold unionR; rw [if_pos hok.2.1]
            have hraa : unionR C M (a ++ a) = ra := by unfold unionR; rw [if_pos hEaa, uni_twice, hra]
            have hrab : r = mk fun n => [ra, rb].any fun m => has m n := by rw [hr]; unfold unionR; rw [if_pos hEe.symm, uni_app, hra, hrb]
            have hfa : Fine ra := by rw [HEs.out.1]; exact uni_fine _ _ _
            have hfb : Fine rb := by rw [HEs.out.2.2.1]; exact uni_fine _ _ _
            have HOr := Lib.hid (fun (gg : Nat) (Y : World) (hms : Ms Y (some ⟨gg, 0, none⟩) 2 [ra, rb]) => show Calls Try.prog 19 #[.slice (some ⟨gg, 0, none⟩) 2 2] Y (fun e w' => e = .returned (.agg #[.int .u64 (r.1 : Nat), .int .u64 (r.2 : Nat)]) ∧ Below Y.heap.size Y w') from by
              have := MskL.or_any (some ⟨gg, 0, none⟩) 2 [ra, rb] _ hms
              unfold GivesM at this
              rw [← hrab] at this
              exact this)
            have HM2 := Lib.hid (fun (X : World) => MskL.Ms.two X ra rb hfa hfb)
            have HUaa := Lib.hid (fun (X : World) (hX : Below W0.heap.size W0 X) (P : Option Addr) (q : Nat) (ho : X.ownsRow W0.heap.size 3 1 (.slice P (na + na) q) (na + na) (a.map (Value.int .i64) ++ a.map (Value.int .i64))) => show Calls Try.prog 9 #[.agg #[.slice A n c, .slice B m d], .slice P (na + na) q] X (fun e w' => e = .returned (.tuple #[.agg #[.int .u64 (ra.1 : Nat), .int .u64 (ra.2 : Nat)], .int .i64 0]) ∧ Below X.heap.size X w') from by
              have hl : na + na = (a ++ a).length := by rw [List.length_append, HNa.out]
              have := HUn.out X hX P q (a ++ a) (na + na) hl (two_rows ho hl HFa.out HFa.out)
              rw [hraa, hEaa] at this
              exact this)
            obtain ⟨hm7, hm9, hm11⟩ := HG.out
            obtain ⟨X200, hX2⟩ : ∃ X, X = W7.drew := ⟨_, rfl⟩
            have HB200 := Lib.hid (show Below W0.heap.size W0 X200 from by rw [hX2]; exact below_drew HB7.out)
            have HQ200a := Lib.hid (show MRow X200 g7 r.1 r.2 from by rw [hX2]; exact hm7)
            have HQ200b := Lib.hid (show MRow X200 w6.heap.size ra.1 ra.2 from by rw [hX2]; exact hm9)
            have HQ200c := Lib.hid (show MRow X200 w7.heap.size rb.1 rb.2 from by rw [hX2]; exact hm11)
            have HX2 := Lib.hid hX2
            have hq := fun (m : Mk) W => MskL.eqM m m W
            clear hr hEe hok hEaa hra hrb hraa hrab hfa hfb hm7 hm9 hm11 hX2
            go_upto_region 10 with (first | (rw [← HW7.out]) | fail)
            refine Code.wp_mono (Q := (fun e a2 X => e = Exit.normal ∧ ∃ (g13 : Nat) (t66 t68 t70 : Value), a2 = { tmps := #[.agg #[.slice A n c, .slice B m d], .slice Aa na ca, .slice Ab nb cb, .pointer (some ⟨g, 0, none⟩), undef, undef, .bool false, .pointer (some ⟨g7, 0, none⟩), .int .i64 0, .pointer (some ⟨w6.heap.size, 0, none⟩), .int .i64 0, .pointer (some ⟨w7.heap.size, 0, none⟩), .int .i64 0, .pointer (some ⟨g13, 0, none⟩), .int .i64 0, .bool true, .bool false, .agg #[.slice A n c, .slice B m d], .bool false, .bool false, .slice Aa na ca, .int .i64 (na : Int), .bool false, .bool false, .bool false, .slice Ab nb cb, .int .i64 (nb : Int), .bool false, .bool false, .tuple #[.agg #[.int .u64 (r.1 : Nat), .int .u64 (r.2 : Nat)], .int .i64 0], .agg #[.slice A n c, .slice B m d], t31, .slice Aa na ca, t33, .slice Ab nb cb, t35, .tuple #[.agg #[.int .u64 (r.1 : Nat), .int .u64 (r.2 : Nat)], .int .i64 0], .agg #[.int .u64 (r.1 : Nat), .int .u64 (r.2 : Nat)], .int .i64 0, .tuple #[.agg #[.int .u64 (ra.1 : Nat), .int .u64 (ra.2 : Nat)], .int .i64 0], .agg #[.slice A n c, .slice B m d], .slice Aa na ca, .tuple #[.agg #[.int .u64 (ra.1 : Nat), .int .u64 (ra.2 : Nat)], .int .i64 0], .agg #[.int .u64 (ra.1 : Nat), .int .u64 (ra.2 : Nat)], .int .i64 0, .tuple #[.agg #[.int .u64 (rb.1 : Nat), .int .u64 (rb.2 : Nat)], .int .i64 0], .agg #[.slice A n c, .slice B m d], .slice Ab nb cb, .tuple #[.agg #[.int .u64 (rb.1 : Nat), .int .u64 (rb.2 : Nat)], .int .i64 0], .agg #[.int .u64 (rb.1 : Nat), .int .u64 (rb.2 : Nat)], .int .i64 0, .int .i64 0, .bool false, undef, undef, undef, undef, undef, undef, undef, undef, undef, undef, undef, .tuple #[.agg #[.int .u64 (ra.1 : Nat), .int .u64 (ra.2 : Nat)], .int .i64 0], .agg #[.slice A n c, .slice B m d], t66, .slice Aa na ca, t68, .slice Aa na ca, t70, .tuple #[.agg #[.int .u64 (ra.1 : Nat), .int .u64 (ra.2 : Nat)], .int .i64 0], .agg #[.int .u64 (ra.1 : Nat), .int .u64 (ra.2 : Nat)], .int .i64 0, undef, undef, undef, undef, undef, undef, undef, undef, undef, undef, undef, undef, undef, undef, undef, undef, undef, undef, undef, undef, undef, undef, undef], defers := [] } ∧ MRow X g13 ra.1 ra.2 ∧ Below W0.heap.size W0 X ∧ MRow X g7 r.1 r.2 ∧ MRow X w6.heap.size ra.1 ra.2 ∧ MRow X w7.heap.size rb.1 rb.2)) ?_ ?_
            · rintro e a2 w8 ⟨rfl, g13, t66, t68, t70, rfl, hg13, hb8, hga, hgb, hgc⟩
              have HK4 := Lib.hid (fun (X : World) (hX : Below w8.heap.size w8 X) => show X.cell? ⟨g7, 0, none⟩ = some (.int .u64 (r.1 : Nat)) ∧ X.cell? ⟨g7, 1, none⟩ = some (.int .u64 (r.2 : Nat)) ∧ X.cell? ⟨w6.heap.size, 0, none⟩ = some (.int .u64 (ra.1 : Nat)) ∧ X.cell? ⟨w6.heap.size, 1, none⟩ = some (.int .u64 (ra.2 : Nat)) ∧ X.cell? ⟨w7.heap.size, 0, none⟩ = some (.int .u64 (rb.1 : Nat)) ∧ X.cell? ⟨w7.heap.size, 1, none⟩ = some (.int .u64 (rb.2 : Nat)) ∧ X.cell? ⟨g13, 0, none⟩ = some (.int .u64 (ra.1 : Nat)) ∧ X.cell? ⟨g13, 1, none⟩ = some (.int .u64 (ra.2 : Nat)) from
                ⟨(hga.below hX hga.lt).cell0, (hga.below hX hga.lt).cell1, (hgb.below hX hgb.lt).cell0, (hgb.below hX hgb.lt).cell1, (hgc.below hX hgc.lt).cell0, (hgc.below hX hgc.lt).cell1, (hg13.below hX hg13.lt).cell0, (hg13.below hX hg13.lt).cell1⟩)
              have HB8 := Lib.hid hb8
              have e1 : (r == r) = true := by simp
              have e2 : (ra == ra) = true := by simp
              obtain ⟨y0, y1, y2, y3, y4, y5, y6, y7⟩ := HK4.out w8 (Below.refl _ _)
              have HMs := Lib.hid ((HM2.out w8).below (below_drew (Below.refl _ _)))
              clear hg13 hb8 hga hgb hgc
              go_upto_region 11 with fail
              go_region_held3 (fun X => X.cell? ⟨g7, 0, none⟩ = some (.int .u64 (r.1 : Nat)) ∧ X.cell? ⟨g7, 1, none⟩ = some (.int .u64 (r.2 : Nat)) ∧ X.cell? ⟨w6.heap.size, 0, none⟩ = some (.int .u64 (ra.1 : Nat)) ∧ X.cell? ⟨w6.heap.size, 1, none⟩ = some (.int .u64 (ra.2 : Nat)) ∧ X.cell? ⟨w7.heap.size, 0, none⟩ = some (.int .u64 (rb.1 : Nat)) ∧ X.cell? ⟨w7.heap.size, 1, none⟩ = some (.int .u64 (rb.2 : Nat)) ∧ X.cell? ⟨g13, 0, none⟩ = some (.int .u64 (ra.1 : Nat)) ∧ X.cell? ⟨g13, 1, none⟩ = some (.int .u64 (ra.2 : Nat)))
                (first | (with_reducible assumption) | (with_reducible exact HK4.out _ (below_drew (Below.refl _ _))) | (with_reducible exact HK4.out _ (below_drew (bel1 _ _))) | (with_reducible exact HK4.out _ HC9.out))
                (first
                | (go_at_call 19; (with_reducible refine (HOr.out _ _ HMs.out).mono ?_); rintro e w9 ⟨rfl, hb9⟩; have HC9 := Lib.hid (show Below w8.heap.size w8 w9 from (below_drew (bel1 w8 _)).trans (hb9.mono (Nat.le_trans (bel1 w8 _).size (Nat.le_refl _)))); clear hb9))
              go_wp2
              go_ret
              exact ⟨by simp, below_tr HB0.out (below_tr HB8.out HC9.out)⟩
            · refine wp_region_any (by kernel_rfl) ?_
              change wpAny _ _ _ _ _ _ _ (World.drew _)
              rw [← HX2.out]
              clear x0 x1
              simp only [List.size_toArray, List.length_cons, List.length_nil, Nat.reduceAdd, Array.replicate_succ, Array.replicate_zero, List.push_toArray, List.nil_append, List.cons_append]
              refine wpAny_take (i := 2) (v := .slice Aa na ca) rfl (by kernel_rfl) (by kernel_rfl) (by kernel_rfl) (fun _ _ _ h => nomatch h.1) (Or.inl ⟨by rfl, fun w => by go_simp⟩) ?_
              refine wpAny_take (i := 4) (v := .slice Aa na ca) rfl (by kernel_rfl) (by kernel_rfl) (by kernel_rfl) (fun _ _ _ h => nomatch h.1) (Or.inl ⟨by rfl, fun w => by go_simp⟩) ?_
              refine wpAny_ready (rs := [0, 1, 10]) (by kernel_rfl) (by simp) ?_
              refine AllReady.cons rfl (fun K hK => ?_) ?_
              ·
               obtain ⟨k0, k1⟩ := HS.out _ HB200.out
               go_simp
               refine hK _ _ ?_
               clear hK K
               clear k0 k1
               refine wpAny_ready (rs := [1, 10]) (by kernel_rfl) (by simp) ?_
               refine AllReady.cons rfl (fun K hK => ?_) ?_
               ·
                go_simp
                refine hK _ _ ?_
                clear hK K
                obtain ⟨X201, hX⟩ : ∃ X, X = X200.alloc (.cells #[] 3) := ⟨_, rfl⟩
                rw [← hX]
                have hb : Below X200.heap.size X200 X201 := by rw [hX]; exact bel1 _ _
                have HB201 := Lib.hid (HB200.out.trans (hb.mono HB200.out.size))
                have HO201 := Lib.hid (show X201.ownsRow W0.heap.size 3 1 (.slice (some ⟨X200.heap.size, 0, none⟩) 0 0) 0 [] from by rw [hX]; exact World.ownsRow_lit (base := W0.heap.size) (size := 1) (e := 3) X200 #[] 0 HB200.out.size (by decide) rfl)
                have HQ201a := Lib.hid (HQ200a.out.below hb HQ200a.out.lt)
                have HQ201b := Lib.hid (HQ200b.out.below hb HQ200b.out.lt)
                have HQ201c := Lib.hid (HQ200c.out.below hb HQ200c.out.lt)
                clear hb hX
                refine wpAny_ready (rs := [3, 10]) (by kernel_rfl) (by simp) ?_
                refine AllReady.cons rfl (fun K hK => ?_) ?_
                ·
                 refine gapp_step rfl (.tmp 66) (.tmp 67) appN rfl W0.heap.size (some ⟨X200.heap.size, 0, none⟩) 0 0 [] rfl HO201.out Aa ca na (a.map (Value.int .i64)) rfl (HRa.out _ HB201.out) (by omega) HB201.out.size ?_
                 intro P202 q202 X202 ho hg _
                 rw [Nat.zero_add, List.nil_append] at ho
                 rw [Nat.zero_add]
                 have hlt : ∀ i, blk (some ⟨X200.heap.size, 0, none⟩) = some i → W0.heap.size ≤ i := fun i hi => (World.ownsRow.lt HO201.out i (by rw [own_blk]; exact hi)).1
                 have HB202 := Lib.hid (HB201.out.trans (grown_below hg HB201.out.size hlt))
                 have HO202 := Lib.hid ho
                 have ht : Turn (fun i => blk (some ⟨X200.heap.size, 0, none⟩) = some i) X201 X202 := Turn.of_grown hg (fun i hi => .inl hi)
                 have HQ202a := Lib.hid (HQ201a.out.turn ht (row_not_mask HO201.out HQ201a.out))
                 have HQ202b := Lib.hid (HQ201b.out.turn ht (row_not_mask HO201.out HQ201b.out))
                 have HQ202c := Lib.hid (HQ201c.out.turn ht (row_not_mask HO201.out HQ201c.out))
                 clear ho hg ht hlt
                 refine hK _ _ ?_
                 clear hK K
                 refine wpAny_ready (rs := [5, 10]) (by kernel_rfl) (by simp) ?_
                 refine AllReady.cons rfl (fun K hK => ?_) ?_
                 ·
                  refine gapp_step rfl (.tmp 68) (.tmp 69) appN rfl W0.heap.size P202 q202 na (a.map (Value.int .i64)) rfl HO202.out Aa ca na (a.map (Value.int .i64)) rfl (HRa.out _ HB202.out) (by omega) HB202.out.size ?_
                  intro P203 q203 X203 ho hg _
                  have hlt : ∀ i, blk P202 = some i → W0.heap.size ≤ i := fun i hi => (World.ownsRow.lt HO202.out i (by rw [own_blk]; exact hi)).1
                  have HB203 := Lib.hid (HB202.out.trans (grown_below hg HB202.out.size hlt))
                  have HO203 := Lib.hid ho
                  have ht : Turn (fun i => blk P202 = some i) X202 X203 := Turn.of_grown hg (fun i hi => .inl hi)
                  have HQ203a := Lib.hid (HQ202a.out.turn ht (row_not_mask HO202.out HQ202a.out))
                  have HQ203b := Lib.hid (HQ202b.out.turn ht (row_not_mask HO202.out HQ202b.out))
                  have HQ203c := Lib.hid (HQ202c.out.turn ht (row_not_mask HO202.out HQ202c.out))
                  clear ho hg ht hlt
                  refine hK _ _ ?_
                  clear hK K
                  refine wpAny_ready (rs := [6, 10]) (by kernel_rfl) (by simp) ?_
                  refine AllReady.cons rfl (fun K hK => ?_) ?_
                  ·
                   have hr := HUaa.out _ HB203.out P203 q203 HO203.out
                   go_simp
                   refine hr.mono ?_
                   rintro e X204 ⟨rfl, hb⟩
                   have HB204 := Lib.hid (HB203.out.trans (hb.mono HB203.out.size))
                   have HQ204a := Lib.hid (HQ203a.out.below hb HQ203a.out.lt)
                   have HQ204b := Lib.hid (HQ203b.out.below hb HQ203b.out.lt)
                   have HQ204c := Lib.hid (HQ203c.out.below hb HQ203c.out.lt)
                   clear hb hr
                   refine hK _ _ ?_
                   clear hK K
                   refine wpAny_take (i := 7) (v := .tuple #[.agg #[.int .u64 (ra.1 : Nat), .int .u64 (ra.2 : Nat)], .int .i64 0]) rfl (by kernel_rfl) (by kernel_rfl) (by kernel_rfl) (fun _ _ _ h => nomatch h.1) (Or.inl ⟨by rfl, fun w => by go_simp⟩) ?_
                   refine wpAny_take (i := 8) (v := .agg #[.int .u64 (ra.1 : Nat), .int .u64 (ra.2 : Nat)]) rfl (by kernel_rfl) (by kernel_rfl) (by kernel_rfl) (fun _ _ _ h => nomatch h.1) (Or.inl ⟨by rfl, fun w => by go_simp⟩) ?_
                   refine wpAny_take (i := 9) (v := .int .i64 0) rfl (by kernel_rfl) (by kernel_rfl) (by kernel_rfl) (fun _ _ _ h => nomatch h.1) (Or.inl ⟨by rfl, fun w => by go_simp⟩) ?_
                   refine wpAny_ready (rs := [10]) (by kernel_rfl) (by simp) ?_
                   refine AllReady.cons rfl (fun K hK => ?_) AllReady.nil
                   go_simp
                   refine hK _ _ ?_
                   clear hK K
                   obtain ⟨X205, hX⟩ : ∃ X, X = X204.alloc (.cells #[.int .u64 0, .int .u64 0] 38) := ⟨_, rfl⟩
                   rw [← hX]
                   have hb : Below X204.heap.size X204 X205 := by rw [hX]; exact bel1 _ _
                   have HB205 := Lib.hid (HB204.out.trans (hb.mono HB204.out.size))
                   have HG205 := Lib.hid (show MRow X205 X204.heap.size 0 0 from by rw [hX]; exact MRow.new _ _ _)
                   have hlow205 : W0.heap.size ≤ X204.heap.size := HB204.out.size
                   have HQ205a := Lib.hid (HQ204a.out.below hb HQ204a.out.lt)
                   have HQ205b := Lib.hid (HQ204b.out.below hb HQ204b.out.lt)
                   have HQ205c := Lib.hid (HQ204c.out.below hb HQ204c.out.lt)
                   have hnea : ¬ g7 = X204.heap.size := Nat.ne_of_lt HQ204a.out.lt
                   have hneb : ¬ w6.heap.size = X204.heap.size := Nat.ne_of_lt HQ204b.out.lt
                   have hnec : ¬ w7.heap.size = X204.heap.size := Nat.ne_of_lt HQ204c.out.lt
                   clear hb hX
                   refine wpAny_ready (rs := [11]) (by kernel_rfl) (by simp) ?_
                   refine AllReady.cons rfl (fun K hK => ?_) AllReady.nil
                   have k_c0 := HG205.out.cell0
                   have k_c1 := HG205.out.cell1
                   have k_f0 := HG205.out.frozen 0
                   have k_f1 := HG205.out.frozen 1
                   go_simp
                   refine hK _ _ ?_
                   clear hK K
                   obtain ⟨X206, hX⟩ : ∃ X, X = (X205.setCell ⟨X204.heap.size, 0, none⟩ (.int .u64 (ra.1 : Nat))).setCell ⟨X204.heap.size, 1, none⟩ (.int .u64 (ra.2 : Nat)) := ⟨_, rfl⟩
                   rw [← hX]
                   have HG206 := Lib.hid (show MRow X206 X204.heap.size ra.1 ra.2 from by rw [hX]; exact (HG205.out.set0 ra.1).set1 ra.2)
                   have ht : Turn (fun i => i = X204.heap.size) X205 X206 := by rw [hX]; exact (turn_set _ _ _ _).trans (turn_set _ _ _ _) (fun i hi => .inl hi)
                   have HB206 := Lib.hid (HB205.out.trans (ht.below HB205.out.size (fun i hi => by have := hlow205; omega)))
                   have HQ206a := Lib.hid (HQ205a.out.turn ht hnea)
                   have HQ206b := Lib.hid (HQ205b.out.turn ht hneb)
                   have HQ206c := Lib.hid (HQ205c.out.turn ht hnec)
                   clear ht hX k_c0 k_c1 k_f0 k_f1
                   refine wpAny_ready (rs := [12]) (by kernel_rfl) (by simp) ?_
                   refine AllReady.cons rfl (fun K hK => ?_) AllReady.nil
                   go_simp
                   refine hK _ _ ?_
                   clear hK K
                   refine wpAny_done (by kernel_rfl) ?_ _
                   exact ⟨rfl, _, _, _, _, rfl, HG206.out, HB206.out, HQ206a.out, HQ206b.out, HQ206c.out⟩
                  refine AllReady.cons rfl (fun K hK => ?_) ?_
                  ·
                   go_simp
                   refine hK _ _ ?_
                   clear hK K
                   obtain ⟨X207, hX⟩ : ∃ X, X = X203.alloc (.cells #[.int .u64 0, .int .u64 0] 38) := ⟨_, rfl⟩
                   rw [← hX]
                   have hb : Below X203.heap.size X203 X207 := by rw [hX]; exact bel1 _ _
                   have HB207 := Lib.hid (HB203.out.trans (hb.mono HB203.out.size))
                   have HO207 := Lib.hid (row_turn HO203.out (Turn.of_below (S := fun _ => False) hb) (fun _ _ e => e))
                   have HG207 := Lib.hid (show MRow X207 X203.heap.size 0 0 from by rw [hX]; exact MRow.new _ _ _)
                   have hlow207 : W0.heap.size ≤ X203.heap.size := HB203.out.size
                   have HQ207a := Lib.hid (HQ203a.out.below hb HQ203a.out.lt)
                   have HQ207b := Lib.hid (HQ203b.out.below hb HQ203b.out.lt)
                   have HQ207c := Lib.hid (HQ203c.out.below hb HQ203c.out.lt)
                   have hnea : ¬ g7 = X203.heap.size := Nat.ne_of_lt HQ203a.out.lt
                   have hneb : ¬ w6.heap.size = X203.heap.size := Nat.ne_of_lt HQ203b.out.lt
                   have hnec : ¬ w7.heap.size = X203.heap.size := Nat.ne_of_lt HQ203c.out.lt
                   clear hb hX
                   refine wpAny_ready (rs := [6]) (by kernel_rfl) (by simp) ?_
                   refine AllReady.cons rfl (fun K hK => ?_) AllReady.nil
                   have hr := HUaa.out _ HB207.out P203 q203 HO207.out
                   go_simp
                   refine hr.mono ?_
                   rintro e X208 ⟨rfl, hb⟩
                   have HB208 := Lib.hid (HB207.out.trans (hb.mono HB207.out.size))
                   have HG208 := Lib.hid (HG207.out.below hb HG207.out.lt)
                   have HQ208a := Lib.hid (HQ207a.out.below hb HQ207a.out.lt)
                   have HQ208b := Lib.hid (HQ207b.out.below hb HQ207b.out.lt)
                   have HQ208c := Lib.hid (HQ207c.out.below hb HQ207c.out.lt)
                   clear hb hr
                   refine hK _ _ ?_
                   clear hK K
                   refine wpAny_take (i := 7) (v := .tuple #[.agg #[.int .u64 (ra.1 : Nat), .int .u64 (ra.2 : Nat)], .int .i64 0]) rfl (by kernel_rfl) (by kernel_rfl) (by kernel_rfl) (fun _ _ _ h => nomatch h.1) (Or.inl ⟨by rfl, fun w => by go_simp⟩) ?_
                   refine wpAny_take (i := 8) (v := .agg #[.int .u64 (ra.1 : Nat), .int .u64 (ra.2 : Nat)]) rfl (by kernel_rfl) (by kernel_rfl) (by kernel_rfl) (fun _ _ _ h => nomatch h.1) (Or.inl ⟨by rfl, fun w => by go_simp⟩) ?_
                   refine wpAny_take (i := 9) (v := .int .i64 0) rfl (by kernel_rfl) (by kernel_rfl) (by kernel_rfl) (fun _ _ _ h => nomatch h.1) (Or.inl ⟨by rfl, fun w => by go_simp⟩) ?_
                   refine wpAny_ready (rs := [11]) (by kernel_rfl) (by simp) ?_
                   refine AllReady.cons rfl (fun K hK => ?_) AllReady.nil
                   have k_c0 := HG208.out.cell0
                   have k_c1 := HG208.out.cell1
                   have k_f0 := HG208.out.frozen 0
                   have k_f1 := HG208.out.frozen 1
                   go_simp
                   refine hK _ _ ?_
                   clear hK K
                   obtain ⟨X209, hX⟩ : ∃ X, X = (X208.setCell ⟨X203.heap.size, 0, none⟩ (.int .u64 (ra.1 : Nat))).setCell ⟨X203.heap.size, 1, none⟩ (.int .u64 (ra.2 : Nat)) := ⟨_, rfl⟩
                   rw [← hX]
                   have HG209 := Lib.hid (show MRow X209 X203.heap.size ra.1 ra.2 from by rw [hX]; exact (HG208.out.set0 ra.1).set1 ra.2)
                   have ht : Turn (fun i => i = X203.heap.size) X208 X209 := by rw [hX]; exact (turn_set _ _ _ _).trans (turn_set _ _ _ _) (fun i hi => .inl hi)
                   have HB209 := Lib.hid (HB208.out.trans (ht.below HB208.out.size (fun i hi => by have := hlow207; omega)))
                   have HQ209a := Lib.hid (HQ208a.out.turn ht hnea)
                   have HQ209b := Lib.hid (HQ208b.out.turn ht hneb)
                   have HQ209c := Lib.hid (HQ208c.out.turn ht hnec)
                   clear ht hX k_c0 k_c1 k_f0 k_f1
                   refine wpAny_ready (rs := [12]) (by kernel_rfl) (by simp) ?_
                   refine AllReady.cons rfl (fun K hK => ?_) AllReady.nil
                   go_simp
                   refine hK _ _ ?_
                   clear hK K
                   refine wpAny_done (by kernel_rfl) ?_ _
                   exact ⟨rfl, _, _, _, _, rfl, HG209.out, HB209.out, HQ209a.out, HQ209b.out, HQ209c.out⟩
                  exact AllReady.nil
                 refine AllReady.cons rfl (fun K hK => ?_) ?_
                 ·
                  go_simp
                  refine hK _ _ ?_
                  clear hK K
                  obtain ⟨X210, hX⟩ : ∃ X, X = X202.alloc (.cells #[.int .u64 0, .int .u64 0] 38) := ⟨_, rfl⟩
                  rw [← hX]
                  have hb : Below X202.heap.size X202 X210 := by rw [hX]; exact bel1 _ _
                  have HB210 := Lib.hid (HB202.out.trans (hb.mono HB202.out.size))
                  have HO210 := Lib.hid (row_turn HO202.out (Turn.of_below (S := fun _ => False) hb) (fun _ _ e => e))
                  have HG210 := Lib.hid (show MRow X210 X202.heap.size 0 0 from by rw [hX]; exact MRow.new _ _ _)
                  have hlow210 : W0.heap.size ≤ X202.heap.size := HB202.out.size
                  have HQ210a := Lib.hid (HQ202a.out.below hb HQ202a.out.lt)
                  have HQ210b := Lib.hid (HQ202b.out.below hb HQ202b.out.lt)
                  have HQ210c := Lib.hid (HQ202c.out.below hb HQ202c.out.lt)
                  have hnea : ¬ g7 = X202.heap.size := Nat.ne_of_lt HQ202a.out.lt
                  have hneb : ¬ w6.heap.size = X202.heap.size := Nat.ne_of_lt HQ202b.out.lt
                  have hnec : ¬ w7.heap.size = X202.heap.size := Nat.ne_of_lt HQ202c.out.lt
                  clear hb hX
                  refine wpAny_ready (rs := [5]) (by kernel_rfl) (by simp) ?_
                  refine AllReady.cons rfl (fun K hK => ?_) AllReady.nil
                  refine gapp_step rfl (.tmp 68) (.tmp 69) appN rfl W0.heap.size P202 q202 na (a.map (Value.int .i64)) rfl HO210.out Aa ca na (a.map (Value.int .i64)) rfl (HRa.out _ HB210.out) (by omega) HB210.out.size ?_
                  intro P211 q211 X211 ho hg _
                  have hlt : ∀ i, blk P202 = some i → W0.heap.size ≤ i := fun i hi => (World.ownsRow.lt HO210.out i (by rw [own_blk]; exact hi)).1
                  have HB211 := Lib.hid (HB210.out.trans (grown_below hg HB210.out.size hlt))
                  have HO211 := Lib.hid ho
                  have ht : Turn (fun i => blk P202 = some i) X210 X211 := Turn.of_grown hg (fun i hi => .inl hi)
                  have HG211 := Lib.hid (HG210.out.turn ht (row_not_mask HO210.out HG210.out))
                  have HQ211a := Lib.hid (HQ210a.out.turn ht (row_not_mask HO210.out HQ210a.out))
                  have HQ211b := Lib.hid (HQ210b.out.turn ht (row_not_mask HO210.out HQ210b.out))
                  have HQ211c := Lib.hid (HQ210c.out.turn ht (row_not_mask HO210.out HQ210c.out))
                  clear ho hg ht hlt
                  refine hK _ _ ?_
                  clear hK K
                  refine wpAny_ready (rs := [6]) (by kernel_rfl) (by simp) ?_
                  refine AllReady.cons rfl (fun K hK => ?_) AllReady.nil
                  have hr := HUaa.out _ HB211.out P211 q211 HO211.out
                  go_simp
                  refine hr.mono ?_
                  rintro e X212 ⟨rfl, hb⟩
                  have HB212 := Lib.hid (HB211.out.trans (hb.mono HB211.out.size))
                  have HG212 := Lib.hid (HG211.out.below hb HG211.out.lt)
                  have HQ212a := Lib.hid (HQ211a.out.below hb HQ211a.out.lt)
                  have HQ212b := Lib.hid (HQ211b.out.below hb HQ211b.out.lt)
                  have HQ212c := Lib.hid (HQ211c.out.below hb HQ211c.out.lt)
                  clear hb hr
                  refine hK _ _ ?_
                  clear hK K
                  refine wpAny_take (i := 7) (v := .tuple #[.agg #[.int .u64 (ra.1 : Nat), .int .u64 (ra.2 : Nat)], .int .i64 0]) rfl (by kernel_rfl) (by kernel_rfl) (by kernel_rfl) (fun _ _ _ h => nomatch h.1) (Or.inl ⟨by rfl, fun w => by go_simp⟩) ?_
                  refine wpAny_take (i := 8) (v := .agg #[.int .u64 (ra.1 : Nat), .int .u64 (ra.2 : Nat)]) rfl (by kernel_rfl) (by kernel_rfl) (by kernel_rfl) (fun _ _ _ h => nomatch h.1) (Or.inl ⟨by rfl, fun w => by go_simp⟩) ?_
                  refine wpAny_take (i := 9) (v := .int .i64 0) rfl (by kernel_rfl) (by kernel_rfl) (by kernel_rfl) (fun _ _ _ h => nomatch h.1) (Or.inl ⟨by rfl, fun w => by go_simp⟩) ?_
                  refine wpAny_ready (rs := [11]) (by kernel_rfl) (by simp) ?_
                  refine AllReady.cons rfl (fun K hK => ?_) AllReady.nil
                  have k_c0 := HG212.out.cell0
                  have k_c1 := HG212.out.cell1
                  have k_f0 := HG212.out.frozen 0
                  have k_f1 := HG212.out.frozen 1
                  go_simp
                  refine hK _ _ ?_
                  clear hK K
                  obtain ⟨X213, hX⟩ : ∃ X, X = (X212.setCell ⟨X202.heap.size, 0, none⟩ (.int .u64 (ra.1 : Nat))).setCell ⟨X202.heap.size, 1, none⟩ (.int .u64 (ra.2 : Nat)) := ⟨_, rfl⟩
                  rw [← hX]
                  have HG213 := Lib.hid (show MRow X213 X202.heap.size ra.1 ra.2 from by rw [hX]; exact (HG212.out.set0 ra.1).set1 ra.2)
                  have ht : Turn (fun i => i = X202.heap.size) X212 X213 := by rw [hX]; exact (turn_set _ _ _ _).trans (turn_set _ _ _ _) (fun i hi => .inl hi)
                  have HB213 := Lib.hid (HB212.out.trans (ht.below HB212.out.size (fun i hi => by have := hlow210; omega)))
                  have HQ213a := Lib.hid (HQ212a.out.turn ht hnea)
                  have HQ213b := Lib.hid (HQ212b.out.turn ht hneb)
                  have HQ213c := Lib.hid (HQ212c.out.turn ht hnec)
                  clear ht hX k_c0 k_c1 k_f0 k_f1
                  refine wpAny_ready (rs := [12]) (by kernel_rfl) (by simp) ?_
                  refine AllReady.cons rfl (fun K hK => ?_) AllReady.nil
                  go_simp
                  refine hK _ _ ?_
                  clear hK K
                  refine wpAny_done (by kernel_rfl) ?_ _
                  exact ⟨rfl, _, _, _, _, rfl, HG213.out, HB213.out, HQ213a.out, HQ213b.out, HQ213c.out⟩
                 exact AllReady.nil
                refine AllReady.cons rfl (fun K hK => ?_) ?_
                ·
                 go_simp
                 refine hK _ _ ?_
                 clear hK K
                 obtain ⟨X214, hX⟩ : ∃ X, X = X201.alloc (.cells #[.int .u64 0, .int .u64 0] 38) := ⟨_, rfl⟩
                 rw [← hX]
                 have hb : Below X201.heap.size X201 X214 := by rw [hX]; exact bel1 _ _
                 have HB214 := Lib.hid (HB201.out.trans (hb.mono HB201.out.size))
                 have HO214 := Lib.hid (row_turn HO201.out (Turn.of_below (S := fun _ => False) hb) (fun _ _ e => e))
                 have HG214 := Lib.hid (show MRow X214 X201.heap.size 0 0 from by rw [hX]; exact MRow.new _ _ _)
                 have hlow214 : W0.heap.size ≤ X201.heap.size := HB201.out.size
                 have HQ214a := Lib.hid (HQ201a.out.below hb HQ201a.out.lt)
                 have HQ214b := Lib.hid (HQ201b.out.below hb HQ201b.out.lt)
                 have HQ214c := Lib.hid (HQ201c.out.below hb HQ201c.out.lt)
                 have hnea : ¬ g7 = X201.heap.size := Nat.ne_of_lt HQ201a.out.lt
                 have hneb : ¬ w6.heap.size = X201.heap.size := Nat.ne_of_lt HQ201b.out.lt
                 have hnec : ¬ w7.heap.size = X201.heap.size := Nat.ne_of_lt HQ201c.out.lt
                 clear hb hX
                 refine wpAny_ready (rs := [3]) (by kernel_rfl) (by simp) ?_
                 refine AllReady.cons rfl (fun K hK => ?_) AllReady.nil
                 refine gapp_step rfl (.tmp 66) (.tmp 67) appN rfl W0.heap.size (some ⟨X200.heap.size, 0, none⟩) 0 0 [] rfl HO214.out Aa ca na (a.map (Value.int .i64)) rfl (HRa.out _ HB214.out) (by omega) HB214.out.size ?_
                 intro P215 q215 X215 ho hg _
                 rw [Nat.zero_add, List.nil_append] at ho
                 rw [Nat.zero_add]
                 have hlt : ∀ i, blk (some ⟨X200.heap.size, 0, none⟩) = some i → W0.heap.size ≤ i := fun i hi => (World.ownsRow.lt HO214.out i (by rw [own_blk]; exact hi)).1
                 have HB215 := Lib.hid (HB214.out.trans (grown_below hg HB214.out.size hlt))
                 have HO215 := Lib.hid ho
                 have ht : Turn (fun i => blk (some ⟨X200.heap.size, 0, none⟩) = some i) X214 X215 := Turn.of_grown hg (fun i hi => .inl hi)
                 have HG215 := Lib.hid (HG214.out.turn ht (row_not_mask HO214.out HG214.out))
                 have HQ215a := Lib.hid (HQ214a.out.turn ht (row_not_mask HO214.out HQ214a.out))
                 have HQ215b := Lib.hid (HQ214b.out.turn ht (row_not_mask HO214.out HQ214b.out))
                 have HQ215c := Lib.hid (HQ214c.out.turn ht (row_not_mask HO214.out HQ214c.out))
                 clear ho hg ht hlt
                 refine hK _ _ ?_
                 clear hK K
                 refine wpAny_ready (rs := [5]) (by kernel_rfl) (by simp) ?_
                 refine AllReady.cons rfl (fun K hK => ?_) AllReady.nil
                 refine gapp_step rfl (.tmp 68) (.tmp 69) appN rfl W0.heap.size P215 q215 na (a.map (Value.int .i64)) rfl HO215.out Aa ca na (a.map (Value.int .i64)) rfl (HRa.out _ HB215.out) (by omega) HB215.out.size ?_
                 intro P216 q216 X216 ho hg _
                 have hlt : ∀ i, blk P215 = some i → W0.heap.size ≤ i := fun i hi => (World.ownsRow.lt HO215.out i (by rw [own_blk]; exact hi)).1
                 have HB216 := Lib.hid (HB215.out.trans (grown_below hg HB215.out.size hlt))
                 have HO216 := Lib.hid ho
                 have ht : Turn (fun i => blk P215 = some i) X215 X216 := Turn.of_grown hg (fun i hi => .inl hi)
                 have HG216 := Lib.hid (HG215.out.turn ht (row_not_mask HO215.out HG215.out))
                 have HQ216a := Lib.hid (HQ215a.out.turn ht (row_not_mask HO215.out HQ215a.out))
                 have HQ216b := Lib.hid (HQ215b.out.turn ht (row_not_mask HO215.out HQ215b.out))
                 have HQ216c := Lib.hid (HQ215c.out.turn ht (row_not_mask HO215.out HQ215c.out))
                 clear ho hg ht hlt
                 refine hK _ _ ?_
                 clear hK K
                 refine wpAny_ready (rs := [6]) (by kernel_rfl) (by simp) ?_
                 refine AllReady.cons rfl (fun K hK => ?_) AllReady.nil
                 have hr := HUaa.out _ HB216.out P216 q216 HO216.out
                 go_simp
                 refine hr.mono ?_
                 rintro e X217 ⟨rfl, hb⟩
                 have HB217 := Lib.hid (HB216.out.trans (hb.mono HB216.out.size))
                 have HG217 := Lib.hid (HG216.out.below hb HG216.out.lt)
                 have HQ217a := Lib.hid (HQ216a.out.below hb HQ216a.out.lt)
                 have HQ217b := Lib.hid (HQ216b.out.below hb HQ216b.out.lt)
                 have HQ217c := Lib.hid (HQ216c.out.below hb HQ216c.out.lt)
                 clear hb hr
                 refine hK _ _ ?_
                 clear hK K
                 refine wpAny_take (i := 7) (v := .tuple #[.agg #[.int .u64 (ra.1 : Nat), .int .u64 (ra.2 : Nat)], .int .i64 0]) rfl (by kernel_rfl) (by kernel_rfl) (by kernel_rfl) (fun _ _ _ h => nomatch h.1) (Or.inl ⟨by rfl, fun w => by go_simp⟩) ?_
                 refine wpAny_take (i := 8) (v := .agg #[.int .u64 (ra.1 : Nat), .int .u64 (ra.2 : Nat)]) rfl (by kernel_rfl) (by kernel_rfl) (by kernel_rfl) (fun _ _ _ h => nomatch h.1) (Or.inl ⟨by rfl, fun w => by go_simp⟩) ?_
                 refine wpAny_take (i := 9) (v := .int .i64 0) rfl (by kernel_rfl) (by kernel_rfl) (by kernel_rfl) (fun _ _ _ h => nomatch h.1) (Or.inl ⟨by rfl, fun w => by go_simp⟩) ?_
                 refine wpAny_ready (rs := [11]) (by kernel_rfl) (by simp) ?_
                 refine AllReady.cons rfl (fun K hK => ?_) AllReady.nil
                 have k_c0 := HG217.out.cell0
                 have k_c1 := HG217.out.cell1
                 have k_f0 := HG217.out.frozen 0
                 have k_f1 := HG217.out.frozen 1
                 go_simp
                 refine hK _ _ ?_
                 clear hK K
                 obtain ⟨X218, hX⟩ : ∃ X, X = (X217.setCell ⟨X201.heap.size, 0, none⟩ (.int .u64 (ra.1 : Nat))).setCell ⟨X201.heap.size, 1, none⟩ (.int .u64 (ra.2 : Nat)) := ⟨_, rfl⟩
                 rw [← hX]
                 have HG218 := Lib.hid (show MRow X218 X201.heap.size ra.1 ra.2 from by rw [hX]; exact (HG217.out.set0 ra.1).set1 ra.2)
                 have ht : Turn (fun i => i = X201.heap.size) X217 X218 := by rw [hX]; exact (turn_set _ _ _ _).trans (turn_set _ _ _ _) (fun i hi => .inl hi)
                 have HB218 := Lib.hid (HB217.out.trans (ht.below HB217.out.size (fun i hi => by have := hlow214; omega)))
                 have HQ218a := Lib.hid (HQ217a.out.turn ht hnea)
                 have HQ218b := Lib.hid (HQ217b.out.turn ht hneb)
                 have HQ218c := Lib.hid (HQ217c.out.turn ht hnec)
                 clear ht hX k_c0 k_c1 k_f0 k_f1
                 refine wpAny_ready (rs := [12]) (by kernel_rfl) (by simp) ?_
                 refine AllReady.cons rfl (fun K hK => ?_) AllReady.nil
                 go_simp
                 refine hK _ _ ?_
                 clear hK K
                 refine wpAny_done (by kernel_rfl) ?_ _
                 exact ⟨rfl, _, _, _, _, rfl, HG218.out, HB218.out, HQ218a.out, HQ218b.out, HQ218c.out⟩
                exact AllReady.nil
               refine AllReady.cons rfl (fun K hK => ?_) ?_
               ·
                go_simp
                refine hK _ _ ?_
                clear hK K
                obtain ⟨X219, hX⟩ : ∃ X, X = X200.alloc (.cells #[.int .u64 0, .int .u64 0] 38) := ⟨_, rfl⟩
                rw [← hX]
                have hb : Below X200.heap.size X200 X219 := by rw [hX]; exact bel1 _ _
                have HB219 := Lib.hid (HB200.out.trans (hb.mono HB200.out.size))
                have HG219 := Lib.hid (show MRow X219 X200.heap.size 0 0 from by rw [hX]; exact MRow.new _ _ _)
                have hlow219 : W0.heap.size ≤ X200.heap.size := HB200.out.size
                have HQ219a := Lib.hid (HQ200a.out.below hb HQ200a.out.lt)
                have HQ219b := Lib.hid (HQ200b.out.below hb HQ200b.out.lt)
                have HQ219c := Lib.hid (HQ200c.out.below hb HQ200c.out.lt)
                have hnea : ¬ g7 = X200.heap.size := Nat.ne_of_lt HQ200a.out.lt
                have hneb : ¬ w6.heap.size = X200.heap.size := Nat.ne_of_lt HQ200b.out.lt
                have hnec : ¬ w7.heap.size = X200.heap.size := Nat.ne_of_lt HQ200c.out.lt
                clear hb hX
                refine wpAny_ready (rs := [1]) (by kernel_rfl) (by simp) ?_
                refine AllReady.cons rfl (fun K hK => ?_) AllReady.nil
                go_simp
                refine hK _ _ ?_
                clear hK K
                obtain ⟨X220, hX⟩ : ∃ X, X = X219.alloc (.cells #[] 3) := ⟨_, rfl⟩
                rw [← hX]
                have hb : Below X219.heap.size X219 X220 := by rw [hX]; exact bel1 _ _
                have HB220 := Lib.hid (HB219.out.trans (hb.mono HB219.out.size))
                have HO220 := Lib.hid (show X220.ownsRow W0.heap.size 3 1 (.slice (some ⟨X219.heap.size, 0, none⟩) 0 0) 0 [] from by rw [hX]; exact World.ownsRow_lit (base := W0.heap.size) (size := 1) (e := 3) X219 #[] 0 HB219.out.size (by decide) rfl)
                have HG220 := Lib.hid (HG219.out.below hb HG219.out.lt)
                have HQ220a := Lib.hid (HQ219a.out.below hb HQ219a.out.lt)
                have HQ220b := Lib.hid (HQ219b.out.below hb HQ219b.out.lt)
                have HQ220c := Lib.hid (HQ219c.out.below hb HQ219c.out.lt)
                clear hb hX
                refine wpAny_ready (rs := [3]) (by kernel_rfl) (by simp) ?_
                refine AllReady.cons rfl (fun K hK => ?_) AllReady.nil
                refine gapp_step rfl (.tmp 66) (.tmp 67) appN rfl W0.heap.size (some ⟨X219.heap.size, 0, none⟩) 0 0 [] rfl HO220.out Aa ca na (a.map (Value.int .i64)) rfl (HRa.out _ HB220.out) (by omega) HB220.out.size ?_
                intro P221 q221 X221 ho hg _
                rw [Nat.zero_add, List.nil_append] at ho
                rw [Nat.zero_add]
                have hlt : ∀ i, blk (some ⟨X219.heap.size, 0, none⟩) = some i → W0.heap.size ≤ i := fun i hi => (World.ownsRow.lt HO220.out i (by rw [own_blk]; exact hi)).1
                have HB221 := Lib.hid (HB220.out.trans (grown_below hg HB220.out.size hlt))
                have HO221 := Lib.hid ho
                have ht : Turn (fun i => blk (some ⟨X219.heap.size, 0, none⟩) = some i) X220 X221 := Turn.of_grown hg (fun i hi => .inl hi)
                have HG221 := Lib.hid (HG220.out.turn ht (row_not_mask HO220.out HG220.out))
                have HQ221a := Lib.hid (HQ220a.out.turn ht (row_not_mask HO220.out HQ220a.out))
                have HQ221b := Lib.hid (HQ220b.out.turn ht (row_not_mask HO220.out HQ220b.out))
                have HQ221c := Lib.hid (HQ220c.out.turn ht (row_not_mask HO220.out HQ220c.out))
                clear ho hg ht hlt
                refine hK _ _ ?_
                clear hK K
                refine wpAny_ready (rs := [5]) (by kernel_rfl) (by simp) ?_
                refine AllReady.cons rfl (fun K hK => ?_) AllReady.nil
                refine gapp_step rfl (.tmp 68) (.tmp 69) appN rfl W0.heap.size P221 q221 na (a.map (Value.int .i64)) rfl HO221.out Aa ca na (a.map (Value.int .i64)) rfl (HRa.out _ HB221.out) (by omega) HB221.out.size ?_
                intro P222 q222 X222 ho hg _
                have hlt : ∀ i, blk P221 = some i → W0.heap.size ≤ i := fun i hi => (World.ownsRow.lt HO221.out i (by rw [own_blk]; exact hi)).1
                have HB222 := Lib.hid (HB221.out.trans (grown_below hg HB221.out.size hlt))
                have HO222 := Lib.hid ho
                have ht : Turn (fun i => blk P221 = some i) X221 X222 := Turn.of_grown hg (fun i hi => .inl hi)
                have HG222 := Lib.hid (HG221.out.turn ht (row_not_mask HO221.out HG221.out))
                have HQ222a := Lib.hid (HQ221a.out.turn ht (row_not_mask HO221.out HQ221a.out))
                have HQ222b := Lib.hid (HQ221b.out.turn ht (row_not_mask HO221.out HQ221b.out))
                have HQ222c := Lib.hid (HQ221c.out.turn ht (row_not_mask HO221.out HQ221c.out))
                clear ho hg ht hlt
                refine hK _ _ ?_
                clear hK K
                refine wpAny_ready (rs := [6]) (by kernel_rfl) (by simp) ?_
                refine AllReady.cons rfl (fun K hK => ?_) AllReady.nil
                have hr := HUaa.out _ HB222.out P222 q222 HO222.out
                go_simp
                refine hr.mono ?_
                rintro e X223 ⟨rfl, hb⟩
                have HB223 := Lib.hid (HB222.out.trans (hb.mono HB222.out.size))
                have HG223 := Lib.hid (HG222.out.below hb HG222.out.lt)
                have HQ223a := Lib.hid (HQ222a.out.below hb HQ222a.out.lt)
                have HQ223b := Lib.hid (HQ222b.out.below hb HQ222b.out.lt)
                have HQ223c := Lib.hid (HQ222c.out.below hb HQ222c.out.lt)
                clear hb hr
                refine hK _ _ ?_
                clear hK K
                refine wpAny_take (i := 7) (v := .tuple #[.agg #[.int .u64 (ra.1 : Nat), .int .u64 (ra.2 : Nat)], .int .i64 0]) rfl (by kernel_rfl) (by kernel_rfl) (by kernel_rfl) (fun _ _ _ h => nomatch h.1) (Or.inl ⟨by rfl, fun w => by go_simp⟩) ?_
                refine wpAny_take (i := 8) (v := .agg #[.int .u64 (ra.1 : Nat), .int .u64 (ra.2 : Nat)]) rfl (by kernel_rfl) (by kernel_rfl) (by kernel_rfl) (fun _ _ _ h => nomatch h.1) (Or.inl ⟨by rfl, fun w => by go_simp⟩) ?_
                refine wpAny_take (i := 9) (v := .int .i64 0) rfl (by kernel_rfl) (by kernel_rfl) (by kernel_rfl) (fun _ _ _ h => nomatch h.1) (Or.inl ⟨by rfl, fun w => by go_simp⟩) ?_
                refine wpAny_ready (rs := [11]) (by kernel_rfl) (by simp) ?_
                refine AllReady.cons rfl (fun K hK => ?_) AllReady.nil
                have k_c0 := HG223.out.cell0
                have k_c1 := HG223.out.cell1
                have k_f0 := HG223.out.frozen 0
                have k_f1 := HG223.out.frozen 1
                go_simp
                refine hK _ _ ?_
                clear hK K
                obtain ⟨X224, hX⟩ : ∃ X, X = (X223.setCell ⟨X200.heap.size, 0, none⟩ (.int .u64 (ra.1 : Nat))).setCell ⟨X200.heap.size, 1, none⟩ (.int .u64 (ra.2 : Nat)) := ⟨_, rfl⟩
                rw [← hX]
                have HG224 := Lib.hid (show MRow X224 X200.heap.size ra.1 ra.2 from by rw [hX]; exact (HG223.out.set0 ra.1).set1 ra.2)
                have ht : Turn (fun i => i = X200.heap.size) X223 X224 := by rw [hX]; exact (turn_set _ _ _ _).trans (turn_set _ _ _ _) (fun i hi => .inl hi)
                have HB224 := Lib.hid (HB223.out.trans (ht.below HB223.out.size (fun i hi => by have := hlow219; omega)))
                have HQ224a := Lib.hid (HQ223a.out.turn ht hnea)
                have HQ224b := Lib.hid (HQ223b.out.turn ht hneb)
                have HQ224c := Lib.hid (HQ223c.out.turn ht hnec)
                clear ht hX k_c0 k_c1 k_f0 k_f1
                refine wpAny_ready (rs := [12]) (by kernel_rfl) (by simp) ?_
                refine AllReady.cons rfl (fun K hK => ?_) AllReady.nil
                go_simp
                refine hK _ _ ?_
                clear hK K
                refine wpAny_done (by kernel_rfl) ?_ _
                exact ⟨rfl, _, _, _, _, rfl, HG224.out, HB224.out, HQ224a.out, HQ224b.out, HQ224c.out⟩
               exact AllReady.nil
              refine AllReady.cons rfl (fun K hK => ?_) ?_
              ·
               go_simp
               refine hK _ _ ?_
               clear hK K
               obtain ⟨X225, hX⟩ : ∃ X, X = X200.alloc (.cells #[] 3) := ⟨_, rfl⟩
               rw [← hX]
               have hb : Below X200.heap.size X200 X225 := by rw [hX]; exact bel1 _ _
               have HB225 := Lib.hid (HB200.out.trans (hb.mono HB200.out.size))
               have HO225 := Lib.hid (show X225.ownsRow W0.heap.size 3 1 (.slice (some ⟨X200.heap.size, 0, none⟩) 0 0) 0 [] from by rw [hX]; exact World.ownsRow_lit (base := W0.heap.size) (size := 1) (e := 3) X200 #[] 0 HB200.out.size (by decide) rfl)
               have HQ225a := Lib.hid (HQ200a.out.below hb HQ200a.out.lt)
               have HQ225b := Lib.hid (HQ200b.out.below hb HQ200b.out.lt)
               have HQ225c := Lib.hid (HQ200c.out.below hb HQ200c.out.lt)
               clear hb hX
               refine wpAny_ready (rs := [0, 3, 10]) (by kernel_rfl) (by simp) ?_
               refine AllReady.cons rfl (fun K hK => ?_) ?_
               ·
                obtain ⟨k0, k1⟩ := HS.out _ HB225.out
                go_simp
                refine hK _ _ ?_
                clear hK K
                clear k0 k1
                refine wpAny_ready (rs := [3, 10]) (by kernel_rfl) (by simp) ?_
                refine AllReady.cons rfl (fun K hK => ?_) ?_
                ·
                 refine gapp_step rfl (.tmp 66) (.tmp 67) appN rfl W0.heap.size (some ⟨X200.heap.size, 0, none⟩) 0 0 [] rfl HO225.out Aa ca na (a.map (Value.int .i64)) rfl (HRa.out _ HB225.out) (by omega) HB225.out.size ?_
                 intro P226 q226 X226 ho hg _
                 rw [Nat.zero_add, List.nil_append] at ho
                 rw [Nat.zero_add]
                 have hlt : ∀ i, blk (some ⟨X200.heap.size, 0, none⟩) = some i → W0.heap.size ≤ i := fun i hi => (World.ownsRow.lt HO225.out i (by rw [own_blk]; exact hi)).1
                 have HB226 := Lib.hid (HB225.out.trans (grown_below hg HB225.out.size hlt))
                 have HO226 := Lib.hid ho
                 have ht : Turn (fun i => blk (some ⟨X200.heap.size, 0, none⟩) = some i) X225 X226 := Turn.of_grown hg (fun i hi => .inl hi)
                 have HQ226a := Lib.hid (HQ225a.out.turn ht (row_not_mask HO225.out HQ225a.out))
                 have HQ226b := Lib.hid (HQ225b.out.turn ht (row_not_mask HO225.out HQ225b.out))
                 have HQ226c := Lib.hid (HQ225c.out.turn ht (row_not_mask HO225.out HQ225c.out))
                 clear ho hg ht hlt
                 refine hK _ _ ?_
                 clear hK K
                 refine wpAny_ready (rs := [5, 10]) (by kernel_rfl) (by simp) ?_
                 refine AllReady.cons rfl (fun K hK => ?_) ?_
                 ·
                  refine gapp_step rfl (.tmp 68) (.tmp 69) appN rfl W0.heap.size P226 q226 na (a.map (Value.int .i64)) rfl HO226.out Aa ca na (a.map (Value.int .i64)) rfl (HRa.out _ HB226.out) (by omega) HB226.out.size ?_
                  intro P227 q227 X227 ho hg _
                  have hlt : ∀ i, blk P226 = some i → W0.heap.size ≤ i := fun i hi => (World.ownsRow.lt HO226.out i (by rw [own_blk]; exact hi)).1
                  have HB227 := Lib.hid (HB226.out.trans (grown_below hg HB226.out.size hlt))
                  have HO227 := Lib.hid ho
                  have ht : Turn (fun i => blk P226 = some i) X226 X227 := Turn.of_grown hg (fun i hi => .inl hi)
                  have HQ227a := Lib.hid (HQ226a.out.turn ht (row_not_mask HO226.out HQ226a.out))
                  have HQ227b := Lib.hid (HQ226b.out.turn ht (row_not_mask HO226.out HQ226b.out))
                  have HQ227c := Lib.hid (HQ226c.out.turn ht (row_not_mask HO226.out HQ226c.out))
                  clear ho hg ht hlt
                  refine hK _ _ ?_
                  clear hK K
                  refine wpAny_ready (rs := [6, 10]) (by kernel_rfl) (by simp) ?_
                  refine AllReady.cons rfl (fun K hK => ?_) ?_
                  ·
                   have hr := HUaa.out _ HB227.out P227 q227 HO227.out
                   go_simp
                   refine hr.mono ?_
                   rintro e X228 ⟨rfl, hb⟩
                   have HB228 := Lib.hid (HB227.out.trans (hb.mono HB227.out.size))
                   have HQ228a := Lib.hid (HQ227a.out.below hb HQ227a.out.lt)
                   have HQ228b := Lib.hid (HQ227b.out.below hb HQ227b.out.lt)
                   have HQ228c := Lib.hid (HQ227c.out.below hb HQ227c.out.lt)
                   clear hb hr
                   refine hK _ _ ?_
                   clear hK K
                   refine wpAny_take (i := 7) (v := .tuple #[.agg #[.int .u64 (ra.1 : Nat), .int .u64 (ra.2 : Nat)], .int .i64 0]) rfl (by kernel_rfl) (by kernel_rfl) (by kernel_rfl) (fun _ _ _ h => nomatch h.1) (Or.inl ⟨by rfl, fun w => by go_simp⟩) ?_
                   refine wpAny_take (i := 8) (v := .agg #[.int .u64 (ra.1 : Nat), .int .u64 (ra.2 : Nat)]) rfl (by kernel_rfl) (by kernel_rfl) (by kernel_rfl) (fun _ _ _ h => nomatch h.1) (Or.inl ⟨by rfl, fun w => by go_simp⟩) ?_
                   refine wpAny_take (i := 9) (v := .int .i64 0) rfl (by kernel_rfl) (by kernel_rfl) (by kernel_rfl) (fun _ _ _ h => nomatch h.1) (Or.inl ⟨by rfl, fun w => by go_simp⟩) ?_
                   refine wpAny_ready (rs := [10]) (by kernel_rfl) (by simp) ?_
                   refine AllReady.cons rfl (fun K hK => ?_) AllReady.nil
                   go_simp
                   refine hK _ _ ?_
                   clear hK K
                   obtain ⟨X229, hX⟩ : ∃ X, X = X228.alloc (.cells #[.int .u64 0, .int .u64 0] 38) := ⟨_, rfl⟩
                   rw [← hX]
                   have hb : Below X228.heap.size X228 X229 := by rw [hX]; exact bel1 _ _
                   have HB229 := Lib.hid (HB228.out.trans (hb.mono HB228.out.size))
                   have HG229 := Lib.hid (show MRow X229 X228.heap.size 0 0 from by rw [hX]; exact MRow.new _ _ _)
                   have hlow229 : W0.heap.size ≤ X228.heap.size := HB228.out.size
                   have HQ229a := Lib.hid (HQ228a.out.below hb HQ228a.out.lt)
                   have HQ229b := Lib.hid (HQ228b.out.below hb HQ228b.out.lt)
                   have HQ229c := Lib.hid (HQ228c.out.below hb HQ228c.out.lt)
                   have hnea : ¬ g7 = X228.heap.size := Nat.ne_of_lt HQ228a.out.lt
                   have hneb : ¬ w6.heap.size = X228.heap.size := Nat.ne_of_lt HQ228b.out.lt
                   have hnec : ¬ w7.heap.size = X228.heap.size := Nat.ne_of_lt HQ228c.out.lt
                   clear hb hX
                   refine wpAny_ready (rs := [11]) (by kernel_rfl) (by simp) ?_
                   refine AllReady.cons rfl (fun K hK => ?_) AllReady.nil
                   have k_c0 := HG229.out.cell0
                   have k_c1 := HG229.out.cell1
                   have k_f0 := HG229.out.frozen 0
                   have k_f1 := HG229.out.frozen 1
                   go_simp
                   refine hK _ _ ?_
                   clear hK K
                   obtain ⟨X230, hX⟩ : ∃ X, X = (X229.setCell ⟨X228.heap.size, 0, none⟩ (.int .u64 (ra.1 : Nat))).setCell ⟨X228.heap.size, 1, none⟩ (.int .u64 (ra.2 : Nat)) := ⟨_, rfl⟩
                   rw [← hX]
                   have HG230 := Lib.hid (show MRow X230 X228.heap.size ra.1 ra.2 from by rw [hX]; exact (HG229.out.set0 ra.1).set1 ra.2)
                   have ht : Turn (fun i => i = X228.heap.size) X229 X230 := by rw [hX]; exact (turn_set _ _ _ _).trans (turn_set _ _ _ _) (fun i hi => .inl hi)
                   have HB230 := Lib.hid (HB229.out.trans (ht.below HB229.out.size (fun i hi => by have := hlow229; omega)))
                   have HQ230a := Lib.hid (HQ229a.out.turn ht hnea)
                   have HQ230b := Lib.hid (HQ229b.out.turn ht hneb)
                   have HQ230c := Lib.hid (HQ229c.out.turn ht hnec)
                   clear ht hX k_c0 k_c1 k_f0 k_f1
                   refine wpAny_ready (rs := [12]) (by kernel_rfl) (by simp) ?_
                   refine AllReady.cons rfl (fun K hK => ?_) AllReady.nil
                   go_simp
                   refine hK _ _ ?_
                   clear hK K
                   refine wpAny_done (by kernel_rfl) ?_ _
                   exact ⟨rfl, _, _, _, _, rfl, HG230.out, HB230.out, HQ230a.out, HQ230b.out, HQ230c.out⟩
                  refine AllReady.cons rfl (fun K hK => ?_) ?_
                  ·
                   go_simp
                   refine hK _ _ ?_
                   clear hK K
                   obtain ⟨X231, hX⟩ : ∃ X, X = X227.alloc (.cells #[.int .u64 0, .int .u64 0] 38) := ⟨_, rfl⟩
                   rw [← hX]
                   have hb : Below X227.heap.size X227 X231 := by rw [hX]; exact bel1 _ _
                   have HB231 := Lib.hid (HB227.out.trans (hb.mono HB227.out.size))
                   have HO231 := Lib.hid (row_turn HO227.out (Turn.of_below (S := fun _ => False) hb) (fun _ _ e => e))
                   have HG231 := Lib.hid (show MRow X231 X227.heap.size 0 0 from by rw [hX]; exact MRow.new _ _ _)
                   have hlow231 : W0.heap.size ≤ X227.heap.size := HB227.out.size
                   have HQ231a := Lib.hid (HQ227a.out.below hb HQ227a.out.lt)
                   have HQ231b := Lib.hid (HQ227b.out.below hb HQ227b.out.lt)
                   have HQ231c := Lib.hid (HQ227c.out.below hb HQ227c.out.lt)
                   have hnea : ¬ g7 = X227.heap.size := Nat.ne_of_lt HQ227a.out.lt
                   have hneb : ¬ w6.heap.size = X227.heap.size := Nat.ne_of_lt HQ227b.out.lt
                   have hnec : ¬ w7.heap.size = X227.heap.size := Nat.ne_of_lt HQ227c.out.lt
                   clear hb hX
                   refine wpAny_ready (rs := [6]) (by kernel_rfl) (by simp) ?_
                   refine AllReady.cons rfl (fun K hK => ?_) AllReady.nil
                   have hr := HUaa.out _ HB231.out P227 q227 HO231.out
                   go_simp
                   refine hr.mono ?_
                   rintro e X232 ⟨rfl, hb⟩
                   have HB232 := Lib.hid (HB231.out.trans (hb.mono HB231.out.size))
                   have HG232 := Lib.hid (HG231.out.below hb HG231.out.lt)
                   have HQ232a := Lib.hid (HQ231a.out.below hb HQ231a.out.lt)
                   have HQ232b := Lib.hid (HQ231b.out.below hb HQ231b.out.lt)
                   have HQ232c := Lib.hid (HQ231c.out.below hb HQ231c.out.lt)
                   clear hb hr
                   refine hK _ _ ?_
                   clear hK K
                   refine wpAny_take (i := 7) (v := .tuple #[.agg #[.int .u64 (ra.1 : Nat), .int .u64 (ra.2 : Nat)], .int .i64 0]) rfl (by kernel_rfl) (by kernel_rfl) (by kernel_rfl) (fun _ _ _ h => nomatch h.1) (Or.inl ⟨by rfl, fun w => by go_simp⟩) ?_
                   refine wpAny_take (i := 8) (v := .agg #[.int .u64 (ra.1 : Nat), .int .u64 (ra.2 : Nat)]) rfl (by kernel_rfl) (by kernel_rfl) (by kernel_rfl) (fun _ _ _ h => nomatch h.1) (Or.inl ⟨by rfl, fun w => by go_simp⟩) ?_
                   refine wpAny_take (i := 9) (v := .int .i64 0) rfl (by kernel_rfl) (by kernel_rfl) (by kernel_rfl) (fun _ _ _ h => nomatch h.1) (Or.inl ⟨by rfl, fun w => by go_simp⟩) ?_
                   refine wpAny_ready (rs := [11]) (by kernel_rfl) (by simp) ?_
                   refine AllReady.cons rfl (fun K hK => ?_) AllReady.nil
                   have k_c0 := HG232.out.cell0
                   have k_c1 := HG232.out.cell1
                   have k_f0 := HG232.out.frozen 0
                   have k_f1 := HG232.out.frozen 1
                   go_simp
                   refine hK _ _ ?_
                   clear hK K
                   obtain ⟨X233, hX⟩ : ∃ X, X = (X232.setCell ⟨X227.heap.size, 0, none⟩ (.int .u64 (ra.1 : Nat))).setCell ⟨X227.heap.size, 1, none⟩ (.int .u64 (ra.2 : Nat)) := ⟨_, rfl⟩
                   rw [← hX]
                   have HG233 := Lib.hid (show MRow X233 X227.heap.size ra.1 ra.2 from by rw [hX]; exact (HG232.out.set0 ra.1).set1 ra.2)
                   have ht : Turn (fun i => i = X227.heap.size) X232 X233 := by rw [hX]; exact (turn_set _ _ _ _).trans (turn_set _ _ _ _) (fun i hi => .inl hi)
                   have HB233 := Lib.hid (HB232.out.trans (ht.below HB232.out.size (fun i hi => by have := hlow231; omega)))
                   have HQ233a := Lib.hid (HQ232a.out.turn ht hnea)
                   have HQ233b := Lib.hid (HQ232b.out.turn ht hneb)
                   have HQ233c := Lib.hid (HQ232c.out.turn ht hnec)
                   clear ht hX k_c0 k_c1 k_f0 k_f1
                   refine wpAny_ready (rs := [12]) (by kernel_rfl) (by simp) ?_
                   refine AllReady.cons rfl (fun K hK => ?_) AllReady.nil
                   go_simp
                   refine hK _ _ ?_
                   clear hK K
                   refine wpAny_done (by kernel_rfl) ?_ _
                   exact ⟨rfl, _, _, _, _, rfl, HG233.out, HB233.out, HQ233a.out, HQ233b.out, HQ233c.out⟩
                  exact AllReady.nil
                 refine AllReady.cons rfl (fun K hK => ?_) ?_
                 ·
                  go_simp
                  refine hK _ _ ?_
                  clear hK K
                  obtain ⟨X234, hX⟩ : ∃ X, X = X226.alloc (.cells #[.int .u64 0, .int .u64 0] 38) := ⟨_, rfl⟩
                  rw [← hX]
                  have hb : Below X226.heap.size X226 X234 := by rw [hX]; exact bel1 _ _
                  have HB234 := Lib.hid (HB226.out.trans (hb.mono HB226.out.size))
                  have HO234 := Lib.hid (row_turn HO226.out (Turn.of_below (S := fun _ => False) hb) (fun _ _ e => e))
                  have HG234 := Lib.hid (show MRow X234 X226.heap.size 0 0 from by rw [hX]; exact MRow.new _ _ _)
                  have hlow234 : W0.heap.size ≤ X226.heap.size := HB226.out.size
                  have HQ234a := Lib.hid (HQ226a.out.below hb HQ226a.out.lt)
                  have HQ234b := Lib.hid (HQ226b.out.below hb HQ226b.out.lt)
                  have HQ234c := Lib.hid (HQ226c.out.below hb HQ226c.out.lt)
                  have hnea : ¬ g7 = X226.heap.size := Nat.ne_of_lt HQ226a.out.lt
                  have hneb : ¬ w6.heap.size = X226.heap.size := Nat.ne_of_lt HQ226b.out.lt
                  have hnec : ¬ w7.heap.size = X226.heap.size := Nat.ne_of_lt HQ226c.out.lt
                  clear hb hX
                  refine wpAny_ready (rs := [5]) (by kernel_rfl) (by simp) ?_
                  refine AllReady.cons rfl (fun K hK => ?_) AllReady.nil
                  refine gapp_step rfl (.tmp 68) (.tmp 69) appN rfl W0.heap.size P226 q226 na (a.map (Value.int .i64)) rfl HO234.out Aa ca na (a.map (Value.int .i64)) rfl (HRa.out _ HB234.out) (by omega) HB234.out.size ?_
                  intro P235 q235 X235 ho hg _
                  have hlt : ∀ i, blk P226 = some i → W0.heap.size ≤ i := fun i hi => (World.ownsRow.lt HO234.out i (by rw [own_blk]; exact hi)).1
                  have HB235 := Lib.hid (HB234.out.trans (grown_below hg HB234.out.size hlt))
                  have HO235 := Lib.hid ho
                  have ht : Turn (fun i => blk P226 = some i) X234 X235 := Turn.of_grown hg (fun i hi => .inl hi)
                  have HG235 := Lib.hid (HG234.out.turn ht (row_not_mask HO234.out HG234.out))
                  have HQ235a := Lib.hid (HQ234a.out.turn ht (row_not_mask HO234.out HQ234a.out))
                  have HQ235b := Lib.hid (HQ234b.out.turn ht (row_not_mask HO234.out HQ234b.out))
                  have HQ235c := Lib.hid (HQ234c.out.turn ht (row_not_mask HO234.out HQ234c.out))
                  clear ho hg ht hlt
                  refine hK _ _ ?_
                  clear hK K
                  refine wpAny_ready (rs := [6]) (by kernel_rfl) (by simp) ?_
                  refine AllReady.cons rfl (fun K hK => ?_) AllReady.nil
                  have hr := HUaa.out _ HB235.out P235 q235 HO235.out
                  go_simp
                  refine hr.mono ?_
                  rintro e X236 ⟨rfl, hb⟩
                  have HB236 := Lib.hid (HB235.out.trans (hb.mono HB235.out.size))
                  have HG236 := Lib.hid (HG235.out.below hb HG235.out.lt)
                  have HQ236a := Lib.hid (HQ235a.out.below hb HQ235a.out.lt)
                  have HQ236b := Lib.hid (HQ235b.out.below hb HQ235b.out.lt)
                  have HQ236c := Lib.hid (HQ235c.out.below hb HQ235c.out.lt)
                  clear hb hr
                  refine hK _ _ ?_
                  clear hK K
                  refine wpAny_take (i := 7) (v := .tuple #[.agg #[.int .u64 (ra.1 : Nat), .int .u64 (ra.2 : Nat)], .int .i64 0]) rfl (by kernel_rfl) (by kernel_rfl) (by kernel_rfl) (fun _ _ _ h => nomatch h.1) (Or.inl ⟨by rfl, fun w => by go_simp⟩) ?_
                  refine wpAny_take (i := 8) (v := .agg #[.int .u64 (ra.1 : Nat), .int .u64 (ra.2 : Nat)]) rfl (by kernel_rfl) (by kernel_rfl) (by kernel_rfl) (fun _ _ _ h => nomatch h.1) (Or.inl ⟨by rfl, fun w => by go_simp⟩) ?_
                  refine wpAny_take (i := 9) (v := .int .i64 0) rfl (by kernel_rfl) (by kernel_rfl) (by kernel_rfl) (fun _ _ _ h => nomatch h.1) (Or.inl ⟨by rfl, fun w => by go_simp⟩) ?_
                  refine wpAny_ready (rs := [11]) (by kernel_rfl) (by simp) ?_
                  refine AllReady.cons rfl (fun K hK => ?_) AllReady.nil
                  have k_c0 := HG236.out.cell0
                  have k_c1 := HG236.out.cell1
                  have k_f0 := HG236.out.frozen 0
                  have k_f1 := HG236.out.frozen 1
                  go_simp
                  refine hK _ _ ?_
                  clear hK K
                  obtain ⟨X237, hX⟩ : ∃ X, X = (X236.setCell ⟨X226.heap.size, 0, none⟩ (.int .u64 (ra.1 : Nat))).setCell ⟨X226.heap.size, 1, none⟩ (.int .u64 (ra.2 : Nat)) := ⟨_, rfl⟩
                  rw [← hX]
                  have HG237 := Lib.hid (show MRow X237 X226.heap.size ra.1 ra.2 from by rw [hX]; exact (HG236.out.set0 ra.1).set1 ra.2)
                  have ht : Turn (fun i => i = X226.heap.size) X236 X237 := by rw [hX]; exact (turn_set _ _ _ _).trans (turn_set _ _ _ _) (fun i hi => .inl hi)
                  have HB237 := Lib.hid (HB236.out.trans (ht.below HB236.out.size (fun i hi => by have := hlow234; omega)))
                  have HQ237a := Lib.hid (HQ236a.out.turn ht hnea)
                  have HQ237b := Lib.hid (HQ236b.out.turn ht hneb)
                  have HQ237c := Lib.hid (HQ236c.out.turn ht hnec)
                  clear ht hX k_c0 k_c1 k_f0 k_f1
                  refine wpAny_ready (rs := [12]) (by kernel_rfl) (by simp) ?_
                  refine AllReady.cons rfl (fun K hK => ?_) AllReady.nil
                  go_simp
                  refine hK _ _ ?_
                  clear hK K
                  refine wpAny_done (by kernel_rfl) ?_ _
                  exact ⟨rfl, _, _, _, _, rfl, HG237.out, HB237.out, HQ237a.out, HQ237b.out, HQ237c.out⟩
                 exact AllReady.nil
                refine AllReady.cons rfl (fun K hK => ?_) ?_
                ·
                 go_simp
                 refine hK _ _ ?_
                 clear hK K
                 obtain ⟨X238, hX⟩ : ∃ X, X = X225.alloc (.cells #[.int .u64 0, .int .u64 0] 38) := ⟨_, rfl⟩
                 rw [← hX]
                 have hb : Below X225.heap.size X225 X238 := by rw [hX]; exact bel1 _ _
                 have HB238 := Lib.hid (HB225.out.trans (hb.mono HB225.out.size))
                 have HO238 := Lib.hid (row_turn HO225.out (Turn.of_below (S := fun _ => False) hb) (fun _ _ e => e))
                 have HG238 := Lib.hid (show MRow X238 X225.heap.size 0 0 from by rw [hX]; exact MRow.new _ _ _)
                 have hlow238 : W0.heap.size ≤ X225.heap.size := HB225.out.size
                 have HQ238a := Lib.hid (HQ225a.out.below hb HQ225a.out.lt)
                 have HQ238b := Lib.hid (HQ225b.out.below hb HQ225b.out.lt)
                 have HQ238c := Lib.hid (HQ225c.out.below hb HQ225c.out.lt)
                 have hnea : ¬ g7 = X225.heap.size := Nat.ne_of_lt HQ225a.out.lt
                 have hneb : ¬ w6.heap.size = X225.heap.size := Nat.ne_of_lt HQ225b.out.lt
                 have hnec : ¬ w7.heap.size = X225.heap.size := Nat.ne_of_lt HQ225c.out.lt
                 clear hb hX
                 refine wpAny_ready (rs := [3]) (by kernel_rfl) (by simp) ?_
                 refine AllReady.cons rfl (fun K hK => ?_) AllReady.nil
                 refine gapp_step rfl (.tmp 66) (.tmp 67) appN rfl W0.heap.size (some ⟨X200.heap.size, 0, none⟩) 0 0 [] rfl HO238.out Aa ca na (a.map (Value.int .i64)) rfl (HRa.out _ HB238.out) (by omega) HB238.out.size ?_
                 intro P239 q239 X239 ho hg _
                 rw [Nat.zero_add, List.nil_append] at ho
                 rw [Nat.zero_add]
                 have hlt : ∀ i, blk (some ⟨X200.heap.size, 0, none⟩) = some i → W0.heap.size ≤ i := fun i hi => (World.ownsRow.lt HO238.out i (by rw [own_blk]; exact hi)).1
                 have HB239 := Lib.hid (HB238.out.trans (grown_below hg HB238.out.size hlt))
                 have HO239 := Lib.hid ho
                 have ht : Turn (fun i => blk (some ⟨X200.heap.size, 0, none⟩) = some i) X238 X239 := Turn.of_grown hg (fun i hi => .inl hi)
                 have HG239 := Lib.hid (HG238.out.turn ht (row_not_mask HO238.out HG238.out))
                 have HQ239a := Lib.hid (HQ238a.out.turn ht (row_not_mask HO238.out HQ238a.out))
                 have HQ239b := Lib.hid (HQ238b.out.turn ht (row_not_mask HO238.out HQ238b.out))
                 have HQ239c := Lib.hid (HQ238c.out.turn ht (row_not_mask HO238.out HQ238c.out))
                 clear ho hg ht hlt
                 refine hK _ _ ?_
                 clear hK K
                 refine wpAny_ready (rs := [5]) (by kernel_rfl) (by simp) ?_
                 refine AllReady.cons rfl (fun K hK => ?_) AllReady.nil
                 refine gapp_step rfl (.tmp 68) (.tmp 69) appN rfl W0.heap.size P239 q239 na (a.map (Value.int .i64)) rfl HO239.out Aa ca na (a.map (Value.int .i64)) rfl (HRa.out _ HB239.out) (by omega) HB239.out.size ?_
                 intro P240 q240 X240 ho hg _
                 have hlt : ∀ i, blk P239 = some i → W0.heap.size ≤ i := fun i hi => (World.ownsRow.lt HO239.out i (by rw [own_blk]; exact hi)).1
                 have HB240 := Lib.hid (HB239.out.trans (grown_below hg HB239.out.size hlt))
                 have HO240 := Lib.hid ho
                 have ht : Turn (fun i => blk P239 = some i) X239 X240 := Turn.of_grown hg (fun i hi => .inl hi)
                 have HG240 := Lib.hid (HG239.out.turn ht (row_not_mask HO239.out HG239.out))
                 have HQ240a := Lib.hid (HQ239a.out.turn ht (row_not_mask HO239.out HQ239a.out))
                 have HQ240b := Lib.hid (HQ239b.out.turn ht (row_not_mask HO239.out HQ239b.out))
                 have HQ240c := Lib.hid (HQ239c.out.turn ht (row_not_mask HO239.out HQ239c.out))
                 clear ho hg ht hlt
                 refine hK _ _ ?_
                 clear hK K
                 refine wpAny_ready (rs := [6]) (by kernel_rfl) (by simp) ?_
                 refine AllReady.cons rfl (fun K hK => ?_) AllReady.nil
                 have hr := HUaa.out _ HB240.out P240 q240 HO240.out
                 go_simp
                 refine hr.mono ?_
                 rintro e X241 ⟨rfl, hb⟩
                 have HB241 := Lib.hid (HB240.out.trans (hb.mono HB240.out.size))
                 have HG241 := Lib.hid (HG240.out.below hb HG240.out.lt)
                 have HQ241a := Lib.hid (HQ240a.out.below hb HQ240a.out.lt)
                 have HQ241b := Lib.hid (HQ240b.out.below hb HQ240b.out.lt)
                 have HQ241c := Lib.hid (HQ240c.out.below hb HQ240c.out.lt)
                 clear hb hr
                 refine hK _ _ ?_
                 clear hK K
                 refine wpAny_take (i := 7) (v := .tuple #[.agg #[.int .u64 (ra.1 : Nat), .int .u64 (ra.2 : Nat)], .int .i64 0]) rfl (by kernel_rfl) (by kernel_rfl) (by kernel_rfl) (fun _ _ _ h => nomatch h.1) (Or.inl ⟨by rfl, fun w => by go_simp⟩) ?_
                 refine wpAny_take (i := 8) (v := .agg #[.int .u64 (ra.1 : Nat), .int .u64 (ra.2 : Nat)]) rfl (by kernel_rfl) (by kernel_rfl) (by kernel_rfl) (fun _ _ _ h => nomatch h.1) (Or.inl ⟨by rfl, fun w => by go_simp⟩) ?_
                 refine wpAny_take (i := 9) (v := .int .i64 0) rfl (by kernel_rfl) (by kernel_rfl) (by kernel_rfl) (fun _ _ _ h => nomatch h.1) (Or.inl ⟨by rfl, fun w => by go_simp⟩) ?_
                 refine wpAny_ready (rs := [11]) (by kernel_rfl) (by simp) ?_
                 refine AllReady.cons rfl (fun K hK => ?_) AllReady.nil
                 have k_c0 := HG241.out.cell0
                 have k_c1 := HG241.out.cell1
                 have k_f0 := HG241.out.frozen 0
                 have k_f1 := HG241.out.frozen 1
                 go_simp
                 refine hK _ _ ?_
                 clear hK K
                 obtain ⟨X242, hX⟩ : ∃ X, X = (X241.setCell ⟨X225.heap.size, 0, none⟩ (.int .u64 (ra.1 : Nat))).setCell ⟨X225.heap.size, 1, none⟩ (.int .u64 (ra.2 : Nat)) := ⟨_, rfl⟩
                 rw [← hX]
                 have HG242 := Lib.hid (show MRow X242 X225.heap.size ra.1 ra.2 from by rw [hX]; exact (HG241.out.set0 ra.1).set1 ra.2)
                 have ht : Turn (fun i => i = X225.heap.size) X241 X242 := by rw [hX]; exact (turn_set _ _ _ _).trans (turn_set _ _ _ _) (fun i hi => .inl hi)
                 have HB242 := Lib.hid (HB241.out.trans (ht.below HB241.out.size (fun i hi => by have := hlow238; omega)))
                 have HQ242a := Lib.hid (HQ241a.out.turn ht hnea)
                 have HQ242b := Lib.hid (HQ241b.out.turn ht hneb)
                 have HQ242c := Lib.hid (HQ241c.out.turn ht hnec)
                 clear ht hX k_c0 k_c1 k_f0 k_f1
                 refine wpAny_ready (rs := [12]) (by kernel_rfl) (by simp) ?_
                 refine AllReady.cons rfl (fun K hK => ?_) AllReady.nil
                 go_simp
                 refine hK _ _ ?_
                 clear hK K
                 refine wpAny_done (by kernel_rfl) ?_ _
                 exact ⟨rfl, _, _, _, _, rfl, HG242.out, HB242.out, HQ242a.out, HQ242b.out, HQ242c.out⟩
                exact AllReady.nil
               refine AllReady.cons rfl (fun K hK => ?_) ?_
               ·
                refine gapp_step rfl (.tmp 66) (.tmp 67) appN rfl W0.heap.size (some ⟨X200.heap.size, 0, none⟩) 0 0 [] rfl HO225.out Aa ca na (a.map (Value.int .i64)) rfl (HRa.out _ HB225.out) (by omega) HB225.out.size ?_
                intro P243 q243 X243 ho hg _
                rw [Nat.zero_add, List.nil_append] at ho
                rw [Nat.zero_add]
                have hlt : ∀ i, blk (some ⟨X200.heap.size, 0, none⟩) = some i → W0.heap.size ≤ i := fun i hi => (World.ownsRow.lt HO225.out i (by rw [own_blk]; exact hi)).1
                have HB243 := Lib.hid (HB225.out.trans (grown_below hg HB225.out.size hlt))
                have HO243 := Lib.hid ho
                have ht : Turn (fun i => blk (some ⟨X200.heap.size, 0, none⟩) = some i) X225 X243 := Turn.of_grown hg (fun i hi => .inl hi)
                have HQ243a := Lib.hid (HQ225a.out.turn ht (row_not_mask HO225.out HQ225a.out))
                have HQ243b := Lib.hid (HQ225b.out.turn ht (row_not_mask HO225.out HQ225b.out))
                have HQ243c := Lib.hid (HQ225c.out.turn ht (row_not_mask HO225.out HQ225c.out))
                clear ho hg ht hlt
                refine hK _ _ ?_
                clear hK K
                refine wpAny_ready (rs := [0, 5, 10]) (by kernel_rfl) (by simp) ?_
                refine AllReady.cons rfl (fun K hK => ?_) ?_
                ·
                 obtain ⟨k0, k1⟩ := HS.out _ HB243.out
                 go_simp
                 refine hK _ _ ?_
                 clear hK K
                 clear k0 k1
                 refine wpAny_ready (rs := [5, 10]) (by kernel_rfl) (by simp) ?_
                 refine AllReady.cons rfl (fun K hK => ?_) ?_
                 ·
                  refine gapp_step rfl (.tmp 68) (.tmp 69) appN rfl W0.heap.size P243 q243 na (a.map (Value.int .i64)) rfl HO243.out Aa ca na (a.map (Value.int .i64)) rfl (HRa.out _ HB243.out) (by omega) HB243.out.size ?_
                  intro P244 q244 X244 ho hg _
                  have hlt : ∀ i, blk P243 = some i → W0.heap.size ≤ i := fun i hi => (World.ownsRow.lt HO243.out i (by rw [own_blk]; exact hi)).1
                  have HB244 := Lib.hid (HB243.out.trans (grown_below hg HB243.out.size hlt))
                  have HO244 := Lib.hid ho
                  have ht : Turn (fun i => blk P243 = some i) X243 X244 := Turn.of_grown hg (fun i hi => .inl hi)
                  have HQ244a := Lib.hid (HQ243a.out.turn ht (row_not_mask HO243.out HQ243a.out))
                  have HQ244b := Lib.hid (HQ243b.out.turn ht (row_not_mask HO243.out HQ243b.out))
                  have HQ244c := Lib.hid (HQ243c.out.turn ht (row_not_mask HO243.out HQ243c.out))
                  clear ho hg ht hlt
                  refine hK _ _ ?_
                  clear hK K
                  refine wpAny_ready (rs := [6, 10]) (by kernel_rfl) (by simp) ?_
                  refine AllReady.cons rfl (fun K hK => ?_) ?_
                  ·
                   have hr := HUaa.out _ HB244.out P244 q244 HO244.out
                   go_simp
                   refine hr.mono ?_
                   rintro e X245 ⟨rfl, hb⟩
                   have HB245 := Lib.hid (HB244.out.trans (hb.mono HB244.out.size))
                   have HQ245a := Lib.hid (HQ244a.out.below hb HQ244a.out.lt)
                   have HQ245b := Lib.hid (HQ244b.out.below hb HQ244b.out.lt)
                   have HQ245c := Lib.hid (HQ244c.out.below hb HQ244c.out.lt)
                   clear hb hr
                   refine hK _ _ ?_
                   clear hK K
                   refine wpAny_take (i := 7) (v := .tuple #[.agg #[.int .u64 (ra.1 : Nat), .int .u64 (ra.2 : Nat)], .int .i64 0]) rfl (by kernel_rfl) (by kernel_rfl) (by kernel_rfl) (fun _ _ _ h => nomatch h.1) (Or.inl ⟨by rfl, fun w => by go_simp⟩) ?_
                   refine wpAny_take (i := 8) (v := .agg #[.int .u64 (ra.1 : Nat), .int .u64 (ra.2 : Nat)]) rfl (by kernel_rfl) (by kernel_rfl) (by kernel_rfl) (fun _ _ _ h => nomatch h.1) (Or.inl ⟨by rfl, fun w => by go_simp⟩) ?_
                   refine wpAny_take (i := 9) (v := .int .i64 0) rfl (by kernel_rfl) (by kernel_rfl) (by kernel_rfl) (fun _ _ _ h => nomatch h.1) (Or.inl ⟨by rfl, fun w => by go_simp⟩) ?_
                   refine wpAny_ready (rs := [10]) (by kernel_rfl) (by simp) ?_
                   refine AllReady.cons rfl (fun K hK => ?_) AllReady.nil
                   go_simp
                   refine hK _ _ ?_
                   clear hK K
                   obtain ⟨X246, hX⟩ : ∃ X, X = X245.alloc (.cells #[.int .u64 0, .int .u64 0] 38) := ⟨_, rfl⟩
                   rw [← hX]
                   have hb : Below X245.heap.size X245 X246 := by rw [hX]; exact bel1 _ _
                   have HB246 := Lib.hid (HB245.out.trans (hb.mono HB245.out.size))
                   have HG246 := Lib.hid (show MRow X246 X245.heap.size 0 0 from by rw [hX]; exact MRow.new _ _ _)
                   have hlow246 : W0.heap.size ≤ X245.heap.size := HB245.out.size
                   have HQ246a := Lib.hid (HQ245a.out.below hb HQ245a.out.lt)
                   have HQ246b := Lib.hid (HQ245b.out.below hb HQ245b.out.lt)
                   have HQ246c := Lib.hid (HQ245c.out.below hb HQ245c.out.lt)
                   have hnea : ¬ g7 = X245.heap.size := Nat.ne_of_lt HQ245a.out.lt
                   have hneb : ¬ w6.heap.size = X245.heap.size := Nat.ne_of_lt HQ245b.out.lt
                   have hnec : ¬ w7.heap.size = X245.heap.size := Nat.ne_of_lt HQ245c.out.lt
                   clear hb hX
                   refine wpAny_ready (rs := [11]) (by kernel_rfl) (by simp) ?_
                   refine AllReady.cons rfl (fun K hK => ?_) AllReady.nil
                   have k_c0 := HG246.out.cell0
                   have k_c1 := HG246.out.cell1
                   have k_f0 := HG246.out.frozen 0
                   have k_f1 := HG246.out.frozen 1
                   go_simp
                   refine hK _ _ ?_
                   clear hK K
                   obtain ⟨X247, hX⟩ : ∃ X, X = (X246.setCell ⟨X245.heap.size, 0, none⟩ (.int .u64 (ra.1 : Nat))).setCell ⟨X245.heap.size, 1, none⟩ (.int .u64 (ra.2 : Nat)) := ⟨_, rfl⟩
                   rw [← hX]
                   have HG247 := Lib.hid (show MRow X247 X245.heap.size ra.1 ra.2 from by rw [hX]; exact (HG246.out.set0 ra.1).set1 ra.2)
                   have ht : Turn (fun i => i = X245.heap.size) X246 X247 := by rw [hX]; exact (turn_set _ _ _ _).trans (turn_set _ _ _ _) (fun i hi => .inl hi)
                   have HB247 := Lib.hid (HB246.out.trans (ht.below HB246.out.size (fun i hi => by have := hlow246; omega)))
                   have HQ247a := Lib.hid (HQ246a.out.turn ht hnea)
                   have HQ247b := Lib.hid (HQ246b.out.turn ht hneb)
                   have HQ247c := Lib.hid (HQ246c.out.turn ht hnec)
                   clear ht hX k_c0 k_c1 k_f0 k_f1
                   refine wpAny_ready (rs := [12]) (by kernel_rfl) (by simp) ?_
                   refine AllReady.cons rfl (fun K hK => ?_) AllReady.nil
                   go_simp
                   refine hK _ _ ?_
                   clear hK K
                   refine wpAny_done (by kernel_rfl) ?_ _
                   exact ⟨rfl, _, _, _, _, rfl, HG247.out, HB247.out, HQ247a.out, HQ247b.out, HQ247c.out⟩
                  refine AllReady.cons rfl (fun K hK => ?_) ?_
                  ·
                   go_simp
                   refine hK _ _ ?_
                   clear hK K
                   obtain ⟨X248, hX⟩ : ∃ X, X = X244.alloc (.cells #[.int .u64 0, .int .u64 0] 38) := ⟨_, rfl⟩
                   rw [← hX]
                   have hb : Below X244.heap.size X244 X248 := by rw [hX]; exact bel1 _ _
                   have HB248 := Lib.hid (HB244.out.trans (hb.mono HB244.out.size))
                   have HO248 := Lib.hid (row_turn HO244.out (Turn.of_below (S := fun _ => False) hb) (fun _ _ e => e))
                   have HG248 := Lib.hid (show MRow X248 X244.heap.size 0 0 from by rw [hX]; exact MRow.new _ _ _)
                   have hlow248 : W0.heap.size ≤ X244.heap.size := HB244.out.size
                   have HQ248a := Lib.hid (HQ244a.out.below hb HQ244a.out.lt)
                   have HQ248b := Lib.hid (HQ244b.out.below hb HQ244b.out.lt)
                   have HQ248c := Lib.hid (HQ244c.out.below hb HQ244c.out.lt)
                   have hnea : ¬ g7 = X244.heap.size := Nat.ne_of_lt HQ244a.out.lt
                   have hneb : ¬ w6.heap.size = X244.heap.size := Nat.ne_of_lt HQ244b.out.lt
                   have hnec : ¬ w7.heap.size = X244.heap.size := Nat.ne_of_lt HQ244c.out.lt
                   clear hb hX
                   refine wpAny_ready (rs := [6]) (by kernel_rfl) (by simp) ?_
                   refine AllReady.cons rfl (fun K hK => ?_) AllReady.nil
                   have hr := HUaa.out _ HB248.out P244 q244 HO248.out
                   go_simp
                   refine hr.mono ?_
                   rintro e X249 ⟨rfl, hb⟩
                   have HB249 := Lib.hid (HB248.out.trans (hb.mono HB248.out.size))
                   have HG249 := Lib.hid (HG248.out.below hb HG248.out.lt)
                   have HQ249a := Lib.hid (HQ248a.out.below hb HQ248a.out.lt)
                   have HQ249b := Lib.hid (HQ248b.out.below hb HQ248b.out.lt)
                   have HQ249c := Lib.hid (HQ248c.out.below hb HQ248c.out.lt)
                   clear hb hr
                   refine hK _ _ ?_
                   clear hK K
                   refine wpAny_take (i := 7) (v := .tuple #[.agg #[.int .u64 (ra.1 : Nat), .int .u64 (ra.2 : Nat)], .int .i64 0]) rfl (by kernel_rfl) (by kernel_rfl) (by kernel_rfl) (fun _ _ _ h => nomatch h.1) (Or.inl ⟨by rfl, fun w => by go_simp⟩) ?_
                   refine wpAny_take (i := 8) (v := .agg #[.int .u64 (ra.1 : Nat), .int .u64 (ra.2 : Nat)]) rfl (by kernel_rfl) (by kernel_rfl) (by kernel_rfl) (fun _ _ _ h => nomatch h.1) (Or.inl ⟨by rfl, fun w => by go_simp⟩) ?_
                   refine wpAny_take (i := 9) (v := .int .i64 0) rfl (by kernel_rfl) (by kernel_rfl) (by kernel_rfl) (fun _ _ _ h => nomatch h.1) (Or.inl ⟨by rfl, fun w => by go_simp⟩) ?_
                   refine wpAny_ready (rs := [11]) (by kernel_rfl) (by simp) ?_
                   refine AllReady.cons rfl (fun K hK => ?_) AllReady.nil
                   have k_c0 := HG249.out.cell0
                   have k_c1 := HG249.out.cell1
                   have k_f0 := HG249.out.frozen 0
                   have k_f1 := HG249.out.frozen 1
                   go_simp
                   refine hK _ _ ?_
                   clear hK K
                   obtain ⟨X250, hX⟩ : ∃ X, X = (X249.setCell ⟨X244.heap.size, 0, none⟩ (.int .u64 (ra.1 : Nat))).setCell ⟨X244.heap.size, 1, none⟩ (.int .u64 (ra.2 : Nat)) := ⟨_, rfl⟩
                   rw [← hX]
                   have HG250 := Lib.hid (show MRow X250 X244.heap.size ra.1 ra.2 from by rw [hX]; exact (HG249.out.set0 ra.1).set1 ra.2)
                   have ht : Turn (fun i => i = X244.heap.size) X249 X250 := by rw [hX]; exact (turn_set _ _ _ _).trans (turn_set _ _ _ _) (fun i hi => .inl hi)
                   have HB250 := Lib.hid (HB249.out.trans (ht.below HB249.out.size (fun i hi => by have := hlow248; omega)))
                   have HQ250a := Lib.hid (HQ249a.out.turn ht hnea)
                   have HQ250b := Lib.hid (HQ249b.out.turn ht hneb)
                   have HQ250c := Lib.hid (HQ249c.out.turn ht hnec)
                   clear ht hX k_c0 k_c1 k_f0 k_f1
                   refine wpAny_ready (rs := [12]) (by kernel_rfl) (by simp) ?_
                   refine AllReady.cons rfl (fun K hK => ?_) AllReady.nil
                   go_simp
                   refine hK _ _ ?_
                   clear hK K
                   refine wpAny_done (by kernel_rfl) ?_ _
                   exact ⟨rfl, _, _, _, _, rfl, HG250.out, HB250.out, HQ250a.out, HQ250b.out, HQ250c.out⟩
                  exact AllReady.nil
                 refine AllReady.cons rfl (fun K hK => ?_) ?_
                 ·
                  go_simp
                  refine hK _ _ ?_
                  clear hK K
                  obtain ⟨X251, hX⟩ : ∃ X, X = X243.alloc (.cells #[.int .u64 0, .int .u64 0] 38) := ⟨_, rfl⟩
                  rw [← hX]
                  have hb : Below X243.heap.size X243 X251 := by rw [hX]; exact bel1 _ _
                  have HB251 := Lib.hid (HB243.out.trans (hb.mono HB243.out.size))
                  have HO251 := Lib.hid (row_turn HO243.out (Turn.of_below (S := fun _ => False) hb) (fun _ _ e => e))
                  have HG251 := Lib.hid (show MRow X251 X243.heap.size 0 0 from by rw [hX]; exact MRow.new _ _ _)
                  have hlow251 : W0.heap.size ≤ X243.heap.size := HB243.out.size
                  have HQ251a := Lib.hid (HQ243a.out.below hb HQ243a.out.lt)
                  have HQ251b := Lib.hid (HQ243b.out.below hb HQ243b.out.lt)
                  have HQ251c := Lib.hid (HQ243c.out.below hb HQ243c.out.lt)
                  have hnea : ¬ g7 = X243.heap.size := Nat.ne_of_lt HQ243a.out.lt
                  have hneb : ¬ w6.heap.size = X243.heap.size := Nat.ne_of_lt HQ243b.out.lt
                  have hnec : ¬ w7.heap.size = X243.heap.size := Nat.ne_of_lt HQ243c.out.lt
                  clear hb hX
                  refine wpAny_ready (rs := [5]) (by kernel_rfl) (by simp) ?_
                  refine AllReady.cons rfl (fun K hK => ?_) AllReady.nil
                  refine gapp_step rfl (.tmp 68) (.tmp 69) appN rfl W0.heap.size P243 q243 na (a.map (Value.int .i64)) rfl HO251.out Aa ca na (a.map (Value.int .i64)) rfl (HRa.out _ HB251.out) (by omega) HB251.out.size ?_
                  intro P252 q252 X252 ho hg _
                  have hlt : ∀ i, blk P243 = some i → W0.heap.size ≤ i := fun i hi => (World.ownsRow.lt HO251.out i (by rw [own_blk]; exact hi)).1
                  have HB252 := Lib.hid (HB251.out.trans (grown_below hg HB251.out.size hlt))
                  have HO252 := Lib.hid ho
                  have ht : Turn (fun i => blk P243 = some i) X251 X252 := Turn.of_grown hg (fun i hi => .inl hi)
                  have HG252 := Lib.hid (HG251.out.turn ht (row_not_mask HO251.out HG251.out))
                  have HQ252a := Lib.hid (HQ251a.out.turn ht (row_not_mask HO251.out HQ251a.out))
                  have HQ252b := Lib.hid (HQ251b.out.turn ht (row_not_mask HO251.out HQ251b.out))
                  have HQ252c := Lib.hid (HQ251c.out.turn ht (row_not_mask HO251.out HQ251c.out))
                  clear ho hg ht hlt
                  refine hK _ _ ?_
                  clear hK K
                  refine wpAny_ready (rs := [6]) (by kernel_rfl) (by simp) ?_
                  refine AllReady.cons rfl (fun K hK => ?_) AllReady.nil
                  have hr := HUaa.out _ HB252.out P252 q252 HO252.out
                  go_simp
                  refine hr.mono ?_
                  rintro e X253 ⟨rfl, hb⟩
                  have HB253 := Lib.hid (HB252.out.trans (hb.mono HB252.out.size))
                  have HG253 := Lib.hid (HG252.out.below hb HG252.out.lt)
                  have HQ253a := Lib.hid (HQ252a.out.below hb HQ252a.out.lt)
                  have HQ253b := Lib.hid (HQ252b.out.below hb HQ252b.out.lt)
                  have HQ253c := Lib.hid (HQ252c.out.below hb HQ252c.out.lt)
                  clear hb hr
                  refine hK _ _ ?_
                  clear hK K
                  refine wpAny_take (i := 7) (v := .tuple #[.agg #[.int .u64 (ra.1 : Nat), .int .u64 (ra.2 : Nat)], .int .i64 0]) rfl (by kernel_rfl) (by kernel_rfl) (by kernel_rfl) (fun _ _ _ h => nomatch h.1) (Or.inl ⟨by rfl, fun w => by go_simp⟩) ?_
                  refine wpAny_take (i := 8) (v := .agg #[.int .u64 (ra.1 : Nat), .int .u64 (ra.2 : Nat)]) rfl (by kernel_rfl) (by kernel_rfl) (by kernel_rfl) (fun _ _ _ h => nomatch h.1) (Or.inl ⟨by rfl, fun w => by go_simp⟩) ?_
                  refine wpAny_take (i := 9) (v := .int .i64 0) rfl (by kernel_rfl) (by kernel_rfl) (by kernel_rfl) (fun _ _ _ h => nomatch h.1) (Or.inl ⟨by rfl, fun w => by go_simp⟩) ?_
                  refine wpAny_ready (rs := [11]) (by kernel_rfl) (by simp) ?_
                  refine AllReady.cons rfl (fun K hK => ?_) AllReady.nil
                  have k_c0 := HG253.out.cell0
                  have k_c1 := HG253.out.cell1
                  have k_f0 := HG253.out.frozen 0
                  have k_f1 := HG253.out.frozen 1
                  go_simp
                  refine hK _ _ ?_
                  clear hK K
                  obtain ⟨X254, hX⟩ : ∃ X, X = (X253.setCell ⟨X243.heap.size, 0, none⟩ (.int .u64 (ra.1 : Nat))).setCell ⟨X243.heap.size, 1, none⟩ (.int .u64 (ra.2 : Nat)) := ⟨_, rfl⟩
                  rw [← hX]
                  have HG254 := Lib.hid (show MRow X254 X243.heap.size ra.1 ra.2 from by rw [hX]; exact (HG253.out.set0 ra.1).set1 ra.2)
                  have ht : Turn (fun i => i = X243.heap.size) X253 X254 := by rw [hX]; exact (turn_set _ _ _ _).trans (turn_set _ _ _ _) (fun i hi => .inl hi)
                  have HB254 := Lib.hid (HB253.out.trans (ht.below HB253.out.size (fun i hi => by have := hlow251; omega)))
                  have HQ254a := Lib.hid (HQ253a.out.turn ht hnea)
                  have HQ254b := Lib.hid (HQ253b.out.turn ht hneb)
                  have HQ254c := Lib.hid (HQ253c.out.turn ht hnec)
                  clear ht hX k_c0 k_c1 k_f0 k_f1
                  refine wpAny_ready (rs := [12]) (by kernel_rfl) (by simp) ?_
                  refine AllReady.cons rfl (fun K hK => ?_) AllReady.nil
                  go_simp
                  refine hK _ _ ?_
                  clear hK K
                  refine wpAny_done (by kernel_rfl) ?_ _
                  exact ⟨rfl, _, _, _, _, rfl, HG254.out, HB254.out, HQ254a.out, HQ254b.out, HQ254c.out⟩
                 exact AllReady.nil
                refine AllReady.cons rfl (fun K hK => ?_) ?_
                ·
                 refine gapp_step rfl (.tmp 68) (.tmp 69) appN rfl W0.heap.size P243 q243 na (a.map (Value.int .i64)) rfl HO243.out Aa ca na (a.map (Value.int .i64)) rfl (HRa.out _ HB243.out) (by omega) HB243.out.size ?_
                 intro P255 q255 X255 ho hg _
                 have hlt : ∀ i, blk P243 = some i → W0.heap.size ≤ i := fun i hi => (World.ownsRow.lt HO243.out i (by rw [own_blk]; exact hi)).1
                 have HB255 := Lib.hid (HB243.out.trans (grown_below hg HB243.out.size hlt))
                 have HO255 := Lib.hid ho
                 have ht : Turn (fun i => blk P243 = some i) X243 X255 := Turn.of_grown hg (fun i hi => .inl hi)
                 have HQ255a := Lib.hid (HQ243a.out.turn ht (row_not_mask HO243.out HQ243a.out))
                 have HQ255b := Lib.hid (HQ243b.out.turn ht (row_not_mask HO243.out HQ243b.out))
                 have HQ255c := Lib.hid (HQ243c.out.turn ht (row_not_mask HO243.out HQ243c.out))
                 clear ho hg ht hlt
                 refine hK _ _ ?_
                 clear hK K
                 refine wpAny_ready (rs := [0, 10]) (by kernel_rfl) (by simp) ?_
                 refine AllReady.cons rfl (fun K hK => ?_) ?_
                 ·
                  obtain ⟨k0, k1⟩ := HS.out _ HB255.out
                  go_simp
                  refine hK _ _ ?_
                  clear hK K
                  clear k0 k1
                  refine wpAny_ready (rs := [6, 10]) (by kernel_rfl) (by simp) ?_
                  refine AllReady.cons rfl (fun K hK => ?_) ?_
                  ·
                   have hr := HUaa.out _ HB255.out P255 q255 HO255.out
                   go_simp
                   refine hr.mono ?_
                   rintro e X256 ⟨rfl, hb⟩
                   have HB256 := Lib.hid (HB255.out.trans (hb.mono HB255.out.size))
                   have HQ256a := Lib.hid (HQ255a.out.below hb HQ255a.out.lt)
                   have HQ256b := Lib.hid (HQ255b.out.below hb HQ255b.out.lt)
                   have HQ256c := Lib.hid (HQ255c.out.below hb HQ255c.out.lt)
                   clear hb hr
                   refine hK _ _ ?_
                   clear hK K
                   refine wpAny_take (i := 7) (v := .tuple #[.agg #[.int .u64 (ra.1 : Nat), .int .u64 (ra.2 : Nat)], .int .i64 0]) rfl (by kernel_rfl) (by kernel_rfl) (by kernel_rfl) (fun _ _ _ h => nomatch h.1) (Or.inl ⟨by rfl, fun w => by go_simp⟩) ?_
                   refine wpAny_take (i := 8) (v := .agg #[.int .u64 (ra.1 : Nat), .int .u64 (ra.2 : Nat)]) rfl (by kernel_rfl) (by kernel_rfl) (by kernel_rfl) (fun _ _ _ h => nomatch h.1) (Or.inl ⟨by rfl, fun w => by go_simp⟩) ?_
                   refine wpAny_take (i := 9) (v := .int .i64 0) rfl (by kernel_rfl) (by kernel_rfl) (by kernel_rfl) (fun _ _ _ h => nomatch h.1) (Or.inl ⟨by rfl, fun w => by go_simp⟩) ?_
                   refine wpAny_ready (rs := [10]) (by kernel_rfl) (by simp) ?_
                   refine AllReady.cons rfl (fun K hK => ?_) AllReady.nil
                   go_simp
                   refine hK _ _ ?_
                   clear hK K
                   obtain ⟨X257, hX⟩ : ∃ X, X = X256.alloc (.cells #[.int .u64 0, .int .u64 0] 38) := ⟨_, rfl⟩
                   rw [← hX]
                   have hb : Below X256.heap.size X256 X257 := by rw [hX]; exact bel1 _ _
                   have HB257 := Lib.hid (HB256.out.trans (hb.mono HB256.out.size))
                   have HG257 := Lib.hid (show MRow X257 X256.heap.size 0 0 from by rw [hX]; exact MRow.new _ _ _)
                   have hlow257 : W0.heap.size ≤ X256.heap.size := HB256.out.size
                   have HQ257a := Lib.hid (HQ256a.out.below hb HQ256a.out.lt)
                   have HQ257b := Lib.hid (HQ256b.out.below hb HQ256b.out.lt)
                   have HQ257c := Lib.hid (HQ256c.out.below hb HQ256c.out.lt)
                   have hnea : ¬ g7 = X256.heap.size := Nat.ne_of_lt HQ256a.out.lt
                   have hneb : ¬ w6.heap.size = X256.heap.size := Nat.ne_of_lt HQ256b.out.lt
                   have hnec : ¬ w7.heap.size = X256.heap.size := Nat.ne_of_lt HQ256c.out.lt
                   clear hb hX
                   refine wpAny_ready (rs := [11]) (by kernel_rfl) (by simp) ?_
                   refine AllReady.cons rfl (fun K hK => ?_) AllReady.nil
                   have k_c0 := HG257.out.cell0
                   have k_c1 := HG257.out.cell1
                   have k_f0 := HG257.out.frozen 0
                   have k_f1 := HG257.out.frozen 1
                   go_simp
                   refine hK _ _ ?_
                   clear hK K
                   obtain ⟨X258, hX⟩ : ∃ X, X = (X257.setCell ⟨X256.heap.size, 0, none⟩ (.int .u64 (ra.1 : Nat))).setCell ⟨X256.heap.size, 1, none⟩ (.int .u64 (ra.2 : Nat)) := ⟨_, rfl⟩
                   rw [← hX]
                   have HG258 := Lib.hid (show MRow X258 X256.heap.size ra.1 ra.2 from by rw [hX]; exact (HG257.out.set0 ra.1).set1 ra.2)
                   have ht : Turn (fun i => i = X256.heap.size) X257 X258 := by rw [hX]; exact (turn_set _ _ _ _).trans (turn_set _ _ _ _) (fun i hi => .inl hi)
                   have HB258 := Lib.hid (HB257.out.trans (ht.below HB257.out.size (fun i hi => by have := hlow257; omega)))
                   have HQ258a := Lib.hid (HQ257a.out.turn ht hnea)
                   have HQ258b := Lib.hid (HQ257b.out.turn ht hneb)
                   have HQ258c := Lib.hid (HQ257c.out.turn ht hnec)
                   clear ht hX k_c0 k_c1 k_f0 k_f1
                   refine wpAny_ready (rs := [12]) (by kernel_rfl) (by simp) ?_
                   refine AllReady.cons rfl (fun K hK => ?_) AllReady.nil
                   go_simp
                   refine hK _ _ ?_
                   clear hK K
                   refine wpAny_done (by kernel_rfl) ?_ _
                   exact ⟨rfl, _, _, _, _, rfl, HG258.out, HB258.out, HQ258a.out, HQ258b.out, HQ258c.out⟩
                  refine AllReady.cons rfl (fun K hK => ?_) ?_
                  ·
                   go_simp
                   refine hK _ _ ?_
                   clear hK K
                   obtain ⟨X259, hX⟩ : ∃ X, X = X255.alloc (.cells #[.int .u64 0, .int .u64 0] 38) := ⟨_, rfl⟩
                   rw [← hX]
                   have hb : Below X255.heap.size X255 X259 := by rw [hX]; exact bel1 _ _
                   have HB259 := Lib.hid (HB255.out.trans (hb.mono HB255.out.size))
                   have HO259 := Lib.hid (row_turn HO255.out (Turn.of_below (S := fun _ => False) hb) (fun _ _ e => e))
                   have HG259 := Lib.hid (show MRow X259 X255.heap.size 0 0 from by rw [hX]; exact MRow.new _ _ _)
                   have hlow259 : W0.heap.size ≤ X255.heap.size := HB255.out.size
                   have HQ259a := Lib.hid (HQ255a.out.below hb HQ255a.out.lt)
                   have HQ259b := Lib.hid (HQ255b.out.below hb HQ255b.out.lt)
                   have HQ259c := Lib.hid (HQ255c.out.below hb HQ255c.out.lt)
                   have hnea : ¬ g7 = X255.heap.size := Nat.ne_of_lt HQ255a.out.lt
                   have hneb : ¬ w6.heap.size = X255.heap.size := Nat.ne_of_lt HQ255b.out.lt
                   have hnec : ¬ w7.heap.size = X255.heap.size := Nat.ne_of_lt HQ255c.out.lt
                   clear hb hX
                   refine wpAny_ready (rs := [6]) (by kernel_rfl) (by simp) ?_
                   refine AllReady.cons rfl (fun K hK => ?_) AllReady.nil
                   have hr := HUaa.out _ HB259.out P255 q255 HO259.out
                   go_simp
                   refine hr.mono ?_
                   rintro e X260 ⟨rfl, hb⟩
                   have HB260 := Lib.hid (HB259.out.trans (hb.mono HB259.out.size))
                   have HG260 := Lib.hid (HG259.out.below hb HG259.out.lt)
                   have HQ260a := Lib.hid (HQ259a.out.below hb HQ259a.out.lt)
                   have HQ260b := Lib.hid (HQ259b.out.below hb HQ259b.out.lt)
                   have HQ260c := Lib.hid (HQ259c.out.below hb HQ259c.out.lt)
                   clear hb hr
                   refine hK _ _ ?_
                   clear hK K
                   refine wpAny_take (i := 7) (v := .tuple #[.agg #[.int .u64 (ra.1 : Nat), .int .u64 (ra.2 : Nat)], .int .i64 0]) rfl (by kernel_rfl) (by kernel_rfl) (by kernel_rfl) (fun _ _ _ h => nomatch h.1) (Or.inl ⟨by rfl, fun w => by go_simp⟩) ?_
                   refine wpAny_take (i := 8) (v := .agg #[.int .u64 (ra.1 : Nat), .int .u64 (ra.2 : Nat)]) rfl (by kernel_rfl) (by kernel_rfl) (by kernel_rfl) (fun _ _ _ h => nomatch h.1) (Or.inl ⟨by rfl, fun w => by go_simp⟩) ?_
                   refine wpAny_take (i := 9) (v := .int .i64 0) rfl (by kernel_rfl) (by kernel_rfl) (by kernel_rfl) (fun _ _ _ h => nomatch h.1) (Or.inl ⟨by rfl, fun w => by go_simp⟩) ?_
                   refine wpAny_ready (rs := [11]) (by kernel_rfl) (by simp) ?_
                   refine AllReady.cons rfl (fun K hK => ?_) AllReady.nil
                   have k_c0 := HG260.out.cell0
                   have k_c1 := HG260.out.cell1
                   have k_f0 := HG260.out.frozen 0
                   have k_f1 := HG260.out.frozen 1
                   go_simp
                   refine hK _ _ ?_
                   clear hK K
                   obtain ⟨X261, hX⟩ : ∃ X, X = (X260.setCell ⟨X255.heap.size, 0, none⟩ (.int .u64 (ra.1 : Nat))).setCell ⟨X255.heap.size, 1, none⟩ (.int .u64 (ra.2 : Nat)) := ⟨_, rfl⟩
                   rw [← hX]
                   have HG261 := Lib.hid (show MRow X261 X255.heap.size ra.1 ra.2 from by rw [hX]; exact (HG260.out.set0 ra.1).set1 ra.2)
                   have ht : Turn (fun i => i = X255.heap.size) X260 X261 := by rw [hX]; exact (turn_set _ _ _ _).trans (turn_set _ _ _ _) (fun i hi => .inl hi)
                   have HB261 := Lib.hid (HB260.out.trans (ht.below HB260.out.size (fun i hi => by have := hlow259; omega)))
                   have HQ261a := Lib.hid (HQ260a.out.turn ht hnea)
                   have HQ261b := Lib.hid (HQ260b.out.turn ht hneb)
                   have HQ261c := Lib.hid (HQ260c.out.turn ht hnec)
                   clear ht hX k_c0 k_c1 k_f0 k_f1
                   refine wpAny_ready (rs := [12]) (by kernel_rfl) (by simp) ?_
                   refine AllReady.cons rfl (fun K hK => ?_) AllReady.nil
                   go_simp
                   refine hK _ _ ?_
                   clear hK K
                   refine wpAny_done (by kernel_rfl) ?_ _
                   exact ⟨rfl, _, _, _, _, rfl, HG261.out, HB261.out, HQ261a.out, HQ261b.out, HQ261c.out⟩
                  exact AllReady.nil
                 refine AllReady.cons rfl (fun K hK => ?_) ?_
                 ·
                  go_simp
                  refine hK _ _ ?_
                  clear hK K
                  obtain ⟨X262, hX⟩ : ∃ X, X = X255.alloc (.cells #[.int .u64 0, .int .u64 0] 38) := ⟨_, rfl⟩
                  rw [← hX]
                  have hb : Below X255.heap.size X255 X262 := by rw [hX]; exact bel1 _ _
                  have HB262 := Lib.hid (HB255.out.trans (hb.mono HB255.out.size))
                  have HO262 := Lib.hid (row_turn HO255.out (Turn.of_below (S := fun _ => False) hb) (fun _ _ e => e))
                  have HG262 := Lib.hid (show MRow X262 X255.heap.size 0 0 from by rw [hX]; exact MRow.new _ _ _)
                  have hlow262 : W0.heap.size ≤ X255.heap.size := HB255.out.size
                  have HQ262a := Lib.hid (HQ255a.out.below hb HQ255a.out.lt)
                  have HQ262b := Lib.hid (HQ255b.out.below hb HQ255b.out.lt)
                  have HQ262c := Lib.hid (HQ255c.out.below hb HQ255c.out.lt)
                  have hnea : ¬ g7 = X255.heap.size := Nat.ne_of_lt HQ255a.out.lt
                  have hneb : ¬ w6.heap.size = X255.heap.size := Nat.ne_of_lt HQ255b.out.lt
                  have hnec : ¬ w7.heap.size = X255.heap.size := Nat.ne_of_lt HQ255c.out.lt
                  clear hb hX
                  refine wpAny_ready (rs := [0]) (by kernel_rfl) (by simp) ?_
                  refine AllReady.cons rfl (fun K hK => ?_) AllReady.nil
                  obtain ⟨k0, k1⟩ := HS.out _ HB262.out
                  go_simp
                  refine hK _ _ ?_
                  clear hK K
                  clear k0 k1
                  refine wpAny_ready (rs := [6]) (by kernel_rfl) (by simp) ?_
                  refine AllReady.cons rfl (fun K hK => ?_) AllReady.nil
                  have hr := HUaa.out _ HB262.out P255 q255 HO262.out
                  go_simp
                  refine hr.mono ?_
                  rintro e X263 ⟨rfl, hb⟩
                  have HB263 := Lib.hid (HB262.out.trans (hb.mono HB262.out.size))
                  have HG263 := Lib.hid (HG262.out.below hb HG262.out.lt)
                  have HQ263a := Lib.hid (HQ262a.out.below hb HQ262a.out.lt)
                  have HQ263b := Lib.hid (HQ262b.out.below hb HQ262b.out.lt)
                  have HQ263c := Lib.hid (HQ262c.out.below hb HQ262c.out.lt)
                  clear hb hr
                  refine hK _ _ ?_
                  clear hK K
                  refine wpAny_take (i := 7) (v := .tuple #[.agg #[.int .u64 (ra.1 : Nat), .int .u64 (ra.2 : Nat)], .int .i64 0]) rfl (by kernel_rfl) (by kernel_rfl) (by kernel_rfl) (fun _ _ _ h => nomatch h.1) (Or.inl ⟨by rfl, fun w => by go_simp⟩) ?_
                  refine wpAny_take (i := 8) (v := .agg #[.int .u64 (ra.1 : Nat), .int .u64 (ra.2 : Nat)]) rfl (by kernel_rfl) (by kernel_rfl) (by kernel_rfl) (fun _ _ _ h => nomatch h.1) (Or.inl ⟨by rfl, fun w => by go_simp⟩) ?_
                  refine wpAny_take (i := 9) (v := .int .i64 0) rfl (by kernel_rfl) (by kernel_rfl) (by kernel_rfl) (fun _ _ _ h => nomatch h.1) (Or.inl ⟨by rfl, fun w => by go_simp⟩) ?_
                  refine wpAny_ready (rs := [11]) (by kernel_rfl) (by simp) ?_
                  refine AllReady.cons rfl (fun K hK => ?_) AllReady.nil
                  have k_c0 := HG263.out.cell0
                  have k_c1 := HG263.out.cell1
                  have k_f0 := HG263.out.frozen 0
                  have k_f1 := HG263.out.frozen 1
                  go_simp
                  refine hK _ _ ?_
                  clear hK K
                  obtain ⟨X264, hX⟩ : ∃ X, X = (X263.setCell ⟨X255.heap.size, 0, none⟩ (.int .u64 (ra.1 : Nat))).setCell ⟨X255.heap.size, 1, none⟩ (.int .u64 (ra.2 : Nat)) := ⟨_, rfl⟩
                  rw [← hX]
                  have HG264 := Lib.hid (show MRow X264 X255.heap.size ra.1 ra.2 from by rw [hX]; exact (HG263.out.set0 ra.1).set1 ra.2)
                  have ht : Turn (fun i => i = X255.heap.size) X263 X264 := by rw [hX]; exact (turn_set _ _ _ _).trans (turn_set _ _ _ _) (fun i hi => .inl hi)
                  have HB264 := Lib.hid (HB263.out.trans (ht.below HB263.out.size (fun i hi => by have := hlow262; omega)))
                  have HQ264a := Lib.hid (HQ263a.out.turn ht hnea)
                  have HQ264b := Lib.hid (HQ263b.out.turn ht hneb)
                  have HQ264c := Lib.hid (HQ263c.out.turn ht hnec)
                  clear ht hX k_c0 k_c1 k_f0 k_f1
                  refine wpAny_ready (rs := [12]) (by kernel_rfl) (by simp) ?_
                  refine AllReady.cons rfl (fun K hK => ?_) AllReady.nil
                  go_simp
                  refine hK _ _ ?_
                  clear hK K
                  refine wpAny_done (by kernel_rfl) ?_ _
                  exact ⟨rfl, _, _, _, _, rfl, HG264.out, HB264.out, HQ264a.out, HQ264b.out, HQ264c.out⟩
                 exact AllReady.nil
                refine AllReady.cons rfl (fun K hK => ?_) ?_
                ·
                 go_simp
                 refine hK _ _ ?_
                 clear hK K
                 obtain ⟨X265, hX⟩ : ∃ X, X = X243.alloc (.cells #[.int .u64 0, .int .u64 0] 38) := ⟨_, rfl⟩
                 rw [← hX]
                 have hb : Below X243.heap.size X243 X265 := by rw [hX]; exact bel1 _ _
                 have HB265 := Lib.hid (HB243.out.trans (hb.mono HB243.out.size))
                 have HO265 := Lib.hid (row_turn HO243.out (Turn.of_below (S := fun _ => False) hb) (fun _ _ e => e))
                 have HG265 := Lib.hid (show MRow X265 X243.heap.size 0 0 from by rw [hX]; exact MRow.new _ _ _)
                 have hlow265 : W0.heap.size ≤ X243.heap.size := HB243.out.size
                 have HQ265a := Lib.hid (HQ243a.out.below hb HQ243a.out.lt)
                 have HQ265b := Lib.hid (HQ243b.out.below hb HQ243b.out.lt)
                 have HQ265c := Lib.hid (HQ243c.out.below hb HQ243c.out.lt)
                 have hnea : ¬ g7 = X243.heap.size := Nat.ne_of_lt HQ243a.out.lt
                 have hneb : ¬ w6.heap.size = X243.heap.size := Nat.ne_of_lt HQ243b.out.lt
                 have hnec : ¬ w7.heap.size = X243.heap.size := Nat.ne_of_lt HQ243c.out.lt
                 clear hb hX
                 refine wpAny_ready (rs := [0, 5]) (by kernel_rfl) (by simp) ?_
                 refine AllReady.cons rfl (fun K hK => ?_) ?_
                 ·
                  obtain ⟨k0, k1⟩ := HS.out _ HB265.out
                  go_simp
                  refine hK _ _ ?_
                  clear hK K
                  clear k0 k1
                  refine wpAny_ready (rs := [5]) (by kernel_rfl) (by simp) ?_
                  refine AllReady.cons rfl (fun K hK => ?_) AllReady.nil
                  refine gapp_step rfl (.tmp 68) (.tmp 69) appN rfl W0.heap.size P243 q243 na (a.map (Value.int .i64)) rfl HO265.out Aa ca na (a.map (Value.int .i64)) rfl (HRa.out _ HB265.out) (by omega) HB265.out.size ?_
                  intro P266 q266 X266 ho hg _
                  have hlt : ∀ i, blk P243 = some i → W0.heap.size ≤ i := fun i hi => (World.ownsRow.lt HO265.out i (by rw [own_blk]; exact hi)).1
                  have HB266 := Lib.hid (HB265.out.trans (grown_below hg HB265.out.size hlt))
                  have HO266 := Lib.hid ho
                  have ht : Turn (fun i => blk P243 = some i) X265 X266 := Turn.of_grown hg (fun i hi => .inl hi)
                  have HG266 := Lib.hid (HG265.out.turn ht (row_not_mask HO265.out HG265.out))
                  have HQ266a := Lib.hid (HQ265a.out.turn ht (row_not_mask HO265.out HQ265a.out))
                  have HQ266b := Lib.hid (HQ265b.out.turn ht (row_not_mask HO265.out HQ265b.out))
                  have HQ266c := Lib.hid (HQ265c.out.turn ht (row_not_mask HO265.out HQ265c.out))
                  clear ho hg ht hlt
                  refine hK _ _ ?_
                  clear hK K
                  refine wpAny_ready (rs := [6]) (by kernel_rfl) (by simp) ?_
                  refine AllReady.cons rfl (fun K hK => ?_) AllReady.nil
                  have hr := HUaa.out _ HB266.out P266 q266 HO266.out
                  go_simp
                  refine hr.mono ?_
                  rintro e X267 ⟨rfl, hb⟩
                  have HB267 := Lib.hid (HB266.out.trans (hb.mono HB266.out.size))
                  have HG267 := Lib.hid (HG266.out.below hb HG266.out.lt)
                  have HQ267a := Lib.hid (HQ266a.out.below hb HQ266a.out.lt)
                  have HQ267b := Lib.hid (HQ266b.out.below hb HQ266b.out.lt)
                  have HQ267c := Lib.hid (HQ266c.out.below hb HQ266c.out.lt)
                  clear hb hr
                  refine hK _ _ ?_
                  clear hK K
                  refine wpAny_take (i := 7) (v := .tuple #[.agg #[.int .u64 (ra.1 : Nat), .int .u64 (ra.2 : Nat)], .int .i64 0]) rfl (by kernel_rfl) (by kernel_rfl) (by kernel_rfl) (fun _ _ _ h => nomatch h.1) (Or.inl ⟨by rfl, fun w => by go_simp⟩) ?_
                  refine wpAny_take (i := 8) (v := .agg #[.int .u64 (ra.1 : Nat), .int .u64 (ra.2 : Nat)]) rfl (by kernel_rfl) (by kernel_rfl) (by kernel_rfl) (fun _ _ _ h => nomatch h.1) (Or.inl ⟨by rfl, fun w => by go_simp⟩) ?_
                  refine wpAny_take (i := 9) (v := .int .i64 0) rfl (by kernel_rfl) (by kernel_rfl) (by kernel_rfl) (fun _ _ _ h => nomatch h.1) (Or.inl ⟨by rfl, fun w => by go_simp⟩) ?_
                  refine wpAny_ready (rs := [11]) (by kernel_rfl) (by simp) ?_
                  refine AllReady.cons rfl (fun K hK => ?_) AllReady.nil
                  have k_c0 := HG267.out.cell0
                  have k_c1 := HG267.out.cell1
                  have k_f0 := HG267.out.frozen 0
                  have k_f1 := HG267.out.frozen 1
                  go_simp
                  refine hK _ _ ?_
                  clear hK K
                  obtain ⟨X268, hX⟩ : ∃ X, X = (X267.setCell ⟨X243.heap.size, 0, none⟩ (.int .u64 (ra.1 : Nat))).setCell ⟨X243.heap.size, 1, none⟩ (.int .u64 (ra.2 : Nat)) := ⟨_, rfl⟩
                  rw [← hX]
                  have HG268 := Lib.hid (show MRow X268 X243.heap.size ra.1 ra.2 from by rw [hX]; exact (HG267.out.set0 ra.1).set1 ra.2)
                  have ht : Turn (fun i => i = X243.heap.size) X267 X268 := by rw [hX]; exact (turn_set _ _ _ _).trans (turn_set _ _ _ _) (fun i hi => .inl hi)
                  have HB268 := Lib.hid (HB267.out.trans (ht.below HB267.out.size (fun i hi => by have := hlow265; omega)))
                  have HQ268a := Lib.hid (HQ267a.out.turn ht hnea)
                  have HQ268b := Lib.hid (HQ267b.out.turn ht hneb)
                  have HQ268c := Lib.hid (HQ267c.out.turn ht hnec)
                  clear ht hX k_c0 k_c1 k_f0 k_f1
                  refine wpAny_ready (rs := [12]) (by kernel_rfl) (by simp) ?_
                  refine AllReady.cons rfl (fun K hK => ?_) AllReady.nil
                  go_simp
                  refine hK _ _ ?_
                  clear hK K
                  refine wpAny_done (by kernel_rfl) ?_ _
                  exact ⟨rfl, _, _, _, _, rfl, HG268.out, HB268.out, HQ268a.out, HQ268b.out, HQ268c.out⟩
                 refine AllReady.cons rfl (fun K hK => ?_) ?_
                 ·
                  refine gapp_step rfl (.tmp 68) (.tmp 69) appN rfl W0.heap.size P243 q243 na (a.map (Value.int .i64)) rfl HO265.out Aa ca na (a.map (Value.int .i64)) rfl (HRa.out _ HB265.out) (by omega) HB265.out.size ?_
                  intro P269 q269 X269 ho hg _
                  have hlt : ∀ i, blk P243 = some i → W0.heap.size ≤ i := fun i hi => (World.ownsRow.lt HO265.out i (by rw [own_blk]; exact hi)).1
                  have HB269 := Lib.hid (HB265.out.trans (grown_below hg HB265.out.size hlt))
                  have HO269 := Lib.hid ho
                  have ht : Turn (fun i => blk P243 = some i) X265 X269 := Turn.of_grown hg (fun i hi => .inl hi)
                  have HG269 := Lib.hid (HG265.out.turn ht (row_not_mask HO265.out HG265.out))
                  have HQ269a := Lib.hid (HQ265a.out.turn ht (row_not_mask HO265.out HQ265a.out))
                  have HQ269b := Lib.hid (HQ265b.out.turn ht (row_not_mask HO265.out HQ265b.out))
                  have HQ269c := Lib.hid (HQ265c.out.turn ht (row_not_mask HO265.out HQ265c.out))
                  clear ho hg ht hlt
                  refine hK _ _ ?_
                  clear hK K
                  refine wpAny_ready (rs := [0]) (by kernel_rfl) (by simp) ?_
                  refine AllReady.cons rfl (fun K hK => ?_) AllReady.nil
                  obtain ⟨k0, k1⟩ := HS.out _ HB269.out
                  go_simp
                  refine hK _ _ ?_
                  clear hK K
                  clear k0 k1
                  refine wpAny_ready (rs := [6]) (by kernel_rfl) (by simp) ?_
                  refine AllReady.cons rfl (fun K hK => ?_) AllReady.nil
                  have hr := HUaa.out _ HB269.out P269 q269 HO269.out
                  go_simp
                  refine hr.mono ?_
                  rintro e X270 ⟨rfl, hb⟩
                  have HB270 := Lib.hid (HB269.out.trans (hb.mono HB269.out.size))
                  have HG270 := Lib.hid (HG269.out.below hb HG269.out.lt)
                  have HQ270a := Lib.hid (HQ269a.out.below hb HQ269a.out.lt)
                  have HQ270b := Lib.hid (HQ269b.out.below hb HQ269b.out.lt)
                  have HQ270c := Lib.hid (HQ269c.out.below hb HQ269c.out.lt)
                  clear hb hr
                  refine hK _ _ ?_
                  clear hK K
                  refine wpAny_take (i := 7) (v := .tuple #[.agg #[.int .u64 (ra.1 : Nat), .int .u64 (ra.2 : Nat)], .int .i64 0]) rfl (by kernel_rfl) (by kernel_rfl) (by kernel_rfl) (fun _ _ _ h => nomatch h.1) (Or.inl ⟨by rfl, fun w => by go_simp⟩) ?_
                  refine wpAny_take (i := 8) (v := .agg #[.int .u64 (ra.1 : Nat), .int .u64 (ra.2 : Nat)]) rfl (by kernel_rfl) (by kernel_rfl) (by kernel_rfl) (fun _ _ _ h => nomatch h.1) (Or.inl ⟨by rfl, fun w => by go_simp⟩) ?_
                  refine wpAny_take (i := 9) (v := .int .i64 0) rfl (by kernel_rfl) (by kernel_rfl) (by kernel_rfl) (fun _ _ _ h => nomatch h.1) (Or.inl ⟨by rfl, fun w => by go_simp⟩) ?_
                  refine wpAny_ready (rs := [11]) (by kernel_rfl) (by simp) ?_
                  refine AllReady.cons rfl (fun K hK => ?_) AllReady.nil
                  have k_c0 := HG270.out.cell0
                  have k_c1 := HG270.out.cell1
                  have k_f0 := HG270.out.frozen 0
                  have k_f1 := HG270.out.frozen 1
                  go_simp
                  refine hK _ _ ?_
                  clear hK K
                  obtain ⟨X271, hX⟩ : ∃ X, X = (X270.setCell ⟨X243.heap.size, 0, none⟩ (.int .u64 (ra.1 : Nat))).setCell ⟨X243.heap.size, 1, none⟩ (.int .u64 (ra.2 : Nat)) := ⟨_, rfl⟩
                  rw [← hX]
                  have HG271 := Lib.hid (show MRow X271 X243.heap.size ra.1 ra.2 from by rw [hX]; exact (HG270.out.set0 ra.1).set1 ra.2)
                  have ht : Turn (fun i => i = X243.heap.size) X270 X271 := by rw [hX]; exact (turn_set _ _ _ _).trans (turn_set _ _ _ _) (fun i hi => .inl hi)
                  have HB271 := Lib.hid (HB270.out.trans (ht.below HB270.out.size (fun i hi => by have := hlow265; omega)))
                  have HQ271a := Lib.hid (HQ270a.out.turn ht hnea)
                  have HQ271b := Lib.hid (HQ270b.out.turn ht hneb)
                  have HQ271c := Lib.hid (HQ270c.out.turn ht hnec)
                  clear ht hX k_c0 k_c1 k_f0 k_f1
                  refine wpAny_ready (rs := [12]) (by kernel_rfl) (by simp) ?_
                  refine AllReady.cons rfl (fun K hK => ?_) AllReady.nil
                  go_simp
                  refine hK _ _ ?_
                  clear hK K
                  refine wpAny_done (by kernel_rfl) ?_ _
                  exact ⟨rfl, _, _, _, _, rfl, HG271.out, HB271.out, HQ271a.out, HQ271b.out, HQ271c.out⟩
                 exact AllReady.nil
                exact AllReady.nil
               refine AllReady.cons rfl (fun K hK => ?_) ?_
               ·
                go_simp
                refine hK _ _ ?_
                clear hK K
                obtain ⟨X272, hX⟩ : ∃ X, X = X225.alloc (.cells #[.int .u64 0, .int .u64 0] 38) := ⟨_, rfl⟩
                rw [← hX]
                have hb : Below X225.heap.size X225 X272 := by rw [hX]; exact bel1 _ _
                have HB272 := Lib.hid (HB225.out.trans (hb.mono HB225.out.size))
                have HO272 := Lib.hid (row_turn HO225.out (Turn.of_below (S := fun _ => False) hb) (fun _ _ e => e))
                have HG272 := Lib.hid (show MRow X272 X225.heap.size 0 0 from by rw [hX]; exact MRow.new _ _ _)
                have hlow272 : W0.heap.size ≤ X225.heap.size := HB225.out.size
                have HQ272a := Lib.hid (HQ225a.out.below hb HQ225a.out.lt)
                have HQ272b := Lib.hid (HQ225b.out.below hb HQ225b.out.lt)
                have HQ272c := Lib.hid (HQ225c.out.below hb HQ225c.out.lt)
                have hnea : ¬ g7 = X225.heap.size := Nat.ne_of_lt HQ225a.out.lt
                have hneb : ¬ w6.heap.size = X225.heap.size := Nat.ne_of_lt HQ225b.out.lt
                have hnec : ¬ w7.heap.size = X225.heap.size := Nat.ne_of_lt HQ225c.out.lt
                clear hb hX
                refine wpAny_ready (rs := [0, 3]) (by kernel_rfl) (by simp) ?_
                refine AllReady.cons rfl (fun K hK => ?_) ?_
                ·
                 obtain ⟨k0, k1⟩ := HS.out _ HB272.out
                 go_simp
                 refine hK _ _ ?_
                 clear hK K
                 clear k0 k1
                 refine wpAny_ready (rs := [3]) (by kernel_rfl) (by simp) ?_
                 refine AllReady.cons rfl (fun K hK => ?_) AllReady.nil
                 refine gapp_step rfl (.tmp 66) (.tmp 67) appN rfl W0.heap.size (some ⟨X200.heap.size, 0, none⟩) 0 0 [] rfl HO272.out Aa ca na (a.map (Value.int .i64)) rfl (HRa.out _ HB272.out) (by omega) HB272.out.size ?_
                 intro P273 q273 X273 ho hg _
                 rw [Nat.zero_add, List.nil_append] at ho
                 rw [Nat.zero_add]
                 have hlt : ∀ i, blk (some ⟨X200.heap.size, 0, none⟩) = some i → W0.heap.size ≤ i := fun i hi => (World.ownsRow.lt HO272.out i (by rw [own_blk]; exact hi)).1
                 have HB273 := Lib.hid (HB272.out.trans (grown_below hg HB272.out.size hlt))
                 have HO273 := Lib.hid ho
                 have ht : Turn (fun i => blk (some ⟨X200.heap.size, 0, none⟩) = some i) X272 X273 := Turn.of_grown hg (fun i hi => .inl hi)
                 have HG273 := Lib.hid (HG272.out.turn ht (row_not_mask HO272.out HG272.out))
                 have HQ273a := Lib.hid (HQ272a.out.turn ht (row_not_mask HO272.out HQ272a.out))
                 have HQ273b := Lib.hid (HQ272b.out.turn ht (row_not_mask HO272.out HQ272b.out))
                 have HQ273c := Lib.hid (HQ272c.out.turn ht (row_not_mask HO272.out HQ272c.out))
                 clear ho hg ht hlt
                 refine hK _ _ ?_
                 clear hK K
                 refine wpAny_ready (rs := [5]) (by kernel_rfl) (by simp) ?_
                 refine AllReady.cons rfl (fun K hK => ?_) AllReady.nil
                 refine gapp_step rfl (.tmp 68) (.tmp 69) appN rfl W0.heap.size P273 q273 na (a.map (Value.int .i64)) rfl HO273.out Aa ca na (a.map (Value.int .i64)) rfl (HRa.out _ HB273.out) (by omega) HB273.out.size ?_
                 intro P274 q274 X274 ho hg _
                 have hlt : ∀ i, blk P273 = some i → W0.heap.size ≤ i := fun i hi => (World.ownsRow.lt HO273.out i (by rw [own_blk]; exact hi)).1
                 have HB274 := Lib.hid (HB273.out.trans (grown_below hg HB273.out.size hlt))
                 have HO274 := Lib.hid ho
                 have ht : Turn (fun i => blk P273 = some i) X273 X274 := Turn.of_grown hg (fun i hi => .inl hi)
                 have HG274 := Lib.hid (HG273.out.turn ht (row_not_mask HO273.out HG273.out))
                 have HQ274a := Lib.hid (HQ273a.out.turn ht (row_not_mask HO273.out HQ273a.out))
                 have HQ274b := Lib.hid (HQ273b.out.turn ht (row_not_mask HO273.out HQ273b.out))
                 have HQ274c := Lib.hid (HQ273c.out.turn ht (row_not_mask HO273.out HQ273c.out))
                 clear ho hg ht hlt
                 refine hK _ _ ?_
                 clear hK K
                 refine wpAny_ready (rs := [6]) (by kernel_rfl) (by simp) ?_
                 refine AllReady.cons rfl (fun K hK => ?_) AllReady.nil
                 have hr := HUaa.out _ HB274.out P274 q274 HO274.out
                 go_simp
                 refine hr.mono ?_
                 rintro e X275 ⟨rfl, hb⟩
                 have HB275 := Lib.hid (HB274.out.trans (hb.mono HB274.out.size))
                 have HG275 := Lib.hid (HG274.out.below hb HG274.out.lt)
                 have HQ275a := Lib.hid (HQ274a.out.below hb HQ274a.out.lt)
                 have HQ275b := Lib.hid (HQ274b.out.below hb HQ274b.out.lt)
                 have HQ275c := Lib.hid (HQ274c.out.below hb HQ274c.out.lt)
                 clear hb hr
                 refine hK _ _ ?_
                 clear hK K
                 refine wpAny_take (i := 7) (v := .tuple #[.agg #[.int .u64 (ra.1 : Nat), .int .u64 (ra.2 : Nat)], .int .i64 0]) rfl (by kernel_rfl) (by kernel_rfl) (by kernel_rfl) (fun _ _ _ h => nomatch h.1) (Or.inl ⟨by rfl, fun w => by go_simp⟩) ?_
                 refine wpAny_take (i := 8) (v := .agg #[.int .u64 (ra.1 : Nat), .int .u64 (ra.2 : Nat)]) rfl (by kernel_rfl) (by kernel_rfl) (by kernel_rfl) (fun _ _ _ h => nomatch h.1) (Or.inl ⟨by rfl, fun w => by go_simp⟩) ?_
                 refine wpAny_take (i := 9) (v := .int .i64 0) rfl (by kernel_rfl) (by kernel_rfl) (by kernel_rfl) (fun _ _ _ h => nomatch h.1) (Or.inl ⟨by rfl, fun w => by go_simp⟩) ?_
                 refine wpAny_ready (rs := [11]) (by kernel_rfl) (by simp) ?_
                 refine AllReady.cons rfl (fun K hK => ?_) AllReady.nil
                 have k_c0 := HG275.out.cell0
                 have k_c1 := HG275.out.cell1
                 have k_f0 := HG275.out.frozen 0
                 have k_f1 := HG275.out.frozen 1
                 go_simp
                 refine hK _ _ ?_
                 clear hK K
                 obtain ⟨X276, hX⟩ : ∃ X, X = (X275.setCell ⟨X225.heap.size, 0, none⟩ (.int .u64 (ra.1 : Nat))).setCell ⟨X225.heap.size, 1, none⟩ (.int .u64 (ra.2 : Nat)) := ⟨_, rfl⟩
                 rw [← hX]
                 have HG276 := Lib.hid (show MRow X276 X225.heap.size ra.1 ra.2 from by rw [hX]; exact (HG275.out.set0 ra.1).set1 ra.2)
                 have ht : Turn (fun i => i = X225.heap.size) X275 X276 := by rw [hX]; exact (turn_set _ _ _ _).trans (turn_set _ _ _ _) (fun i hi => .inl hi)
                 have HB276 := Lib.hid (HB275.out.trans (ht.below HB275.out.size (fun i hi => by have := hlow272; omega)))
                 have HQ276a := Lib.hid (HQ275a.out.turn ht hnea)
                 have HQ276b := Lib.hid (HQ275b.out.turn ht hneb)
                 have HQ276c := Lib.hid (HQ275c.out.turn ht hnec)
                 clear ht hX k_c0 k_c1 k_f0 k_f1
                 refine wpAny_ready (rs := [12]) (by kernel_rfl) (by simp) ?_
                 refine AllReady.cons rfl (fun K hK => ?_) AllReady.nil
                 go_simp
                 refine hK _ _ ?_
                 clear hK K
                 refine wpAny_done (by kernel_rfl) ?_ _
                 exact ⟨rfl, _, _, _, _, rfl, HG276.out, HB276.out, HQ276a.out, HQ276b.out, HQ276c.out⟩
                refine AllReady.cons rfl (fun K hK => ?_) ?_
                ·
                 refine gapp_step rfl (.tmp 66) (.tmp 67) appN rfl W0.heap.size (some ⟨X200.heap.size, 0, none⟩) 0 0 [] rfl HO272.out Aa ca na (a.map (Value.int .i64)) rfl (HRa.out _ HB272.out) (by omega) HB272.out.size ?_
                 intro P277 q277 X277 ho hg _
                 rw [Nat.zero_add, List.nil_append] at ho
                 rw [Nat.zero_add]
                 have hlt : ∀ i, blk (some ⟨X200.heap.size, 0, none⟩) = some i → W0.heap.size ≤ i := fun i hi => (World.ownsRow.lt HO272.out i (by rw [own_blk]; exact hi)).1
                 have HB277 := Lib.hid (HB272.out.trans (grown_below hg HB272.out.size hlt))
                 have HO277 := Lib.hid ho
                 have ht : Turn (fun i => blk (some ⟨X200.heap.size, 0, none⟩) = some i) X272 X277 := Turn.of_grown hg (fun i hi => .inl hi)
                 have HG277 := Lib.hid (HG272.out.turn ht (row_not_mask HO272.out HG272.out))
                 have HQ277a := Lib.hid (HQ272a.out.turn ht (row_not_mask HO272.out HQ272a.out))
                 have HQ277b := Lib.hid (HQ272b.out.turn ht (row_not_mask HO272.out HQ272b.out))
                 have HQ277c := Lib.hid (HQ272c.out.turn ht (row_not_mask HO272.out HQ272c.out))
                 clear ho hg ht hlt
                 refine hK _ _ ?_
                 clear hK K
                 refine wpAny_ready (rs := [0, 5]) (by kernel_rfl) (by simp) ?_
                 refine AllReady.cons rfl (fun K hK => ?_) ?_
                 ·
                  obtain ⟨k0, k1⟩ := HS.out _ HB277.out
                  go_simp
                  refine hK _ _ ?_
                  clear hK K
                  clear k0 k1
                  refine wpAny_ready (rs := [5]) (by kernel_rfl) (by simp) ?_
                  refine AllReady.cons rfl (fun K hK => ?_) AllReady.nil
                  refine gapp_step rfl (.tmp 68) (.tmp 69) appN rfl W0.heap.size P277 q277 na (a.map (Value.int .i64)) rfl HO277.out Aa ca na (a.map (Value.int .i64)) rfl (HRa.out _ HB277.out) (by omega) HB277.out.size ?_
                  intro P278 q278 X278 ho hg _
                  have hlt : ∀ i, blk P277 = some i → W0.heap.size ≤ i := fun i hi => (World.ownsRow.lt HO277.out i (by rw [own_blk]; exact hi)).1
                  have HB278 := Lib.hid (HB277.out.trans (grown_below hg HB277.out.size hlt))
                  have HO278 := Lib.hid ho
                  have ht : Turn (fun i => blk P277 = some i) X277 X278 := Turn.of_grown hg (fun i hi => .inl hi)
                  have HG278 := Lib.hid (HG277.out.turn ht (row_not_mask HO277.out HG277.out))
                  have HQ278a := Lib.hid (HQ277a.out.turn ht (row_not_mask HO277.out HQ277a.out))
                  have HQ278b := Lib.hid (HQ277b.out.turn ht (row_not_mask HO277.out HQ277b.out))
                  have HQ278c := Lib.hid (HQ277c.out.turn ht (row_not_mask HO277.out HQ277c.out))
                  clear ho hg ht hlt
                  refine hK _ _ ?_
                  clear hK K
                  refine wpAny_ready (rs := [6]) (by kernel_rfl) (by simp) ?_
                  refine AllReady.cons rfl (fun K hK => ?_) AllReady.nil
                  have hr := HUaa.out _ HB278.out P278 q278 HO278.out
                  go_simp
                  refine hr.mono ?_
                  rintro e X279 ⟨rfl, hb⟩
                  have HB279 := Lib.hid (HB278.out.trans (hb.mono HB278.out.size))
                  have HG279 := Lib.hid (HG278.out.below hb HG278.out.lt)
                  have HQ279a := Lib.hid (HQ278a.out.below hb HQ278a.out.lt)
                  have HQ279b := Lib.hid (HQ278b.out.below hb HQ278b.out.lt)
                  have HQ279c := Lib.hid (HQ278c.out.below hb HQ278c.out.lt)
                  clear hb hr
                  refine hK _ _ ?_
                  clear hK K
                  refine wpAny_take (i := 7) (v := .tuple #[.agg #[.int .u64 (ra.1 : Nat), .int .u64 (ra.2 : Nat)], .int .i64 0]) rfl (by kernel_rfl) (by kernel_rfl) (by kernel_rfl) (fun _ _ _ h => nomatch h.1) (Or.inl ⟨by rfl, fun w => by go_simp⟩) ?_
                  refine wpAny_take (i := 8) (v := .agg #[.int .u64 (ra.1 : Nat), .int .u64 (ra.2 : Nat)]) rfl (by kernel_rfl) (by kernel_rfl) (by kernel_rfl) (fun _ _ _ h => nomatch h.1) (Or.inl ⟨by rfl, fun w => by go_simp⟩) ?_
                  refine wpAny_take (i := 9) (v := .int .i64 0) rfl (by kernel_rfl) (by kernel_rfl) (by kernel_rfl) (fun _ _ _ h => nomatch h.1) (Or.inl ⟨by rfl, fun w => by go_simp⟩) ?_
                  refine wpAny_ready (rs := [11]) (by kernel_rfl) (by simp) ?_
                  refine AllReady.cons rfl (fun K hK => ?_) AllReady.nil
                  have k_c0 := HG279.out.cell0
                  have k_c1 := HG279.out.cell1
                  have k_f0 := HG279.out.frozen 0
                  have k_f1 := HG279.out.frozen 1
                  go_simp
                  refine hK _ _ ?_
                  clear hK K
                  obtain ⟨X280, hX⟩ : ∃ X, X = (X279.setCell ⟨X225.heap.size, 0, none⟩ (.int .u64 (ra.1 : Nat))).setCell ⟨X225.heap.size, 1, none⟩ (.int .u64 (ra.2 : Nat)) := ⟨_, rfl⟩
                  rw [← hX]
                  have HG280 := Lib.hid (show MRow X280 X225.heap.size ra.1 ra.2 from by rw [hX]; exact (HG279.out.set0 ra.1).set1 ra.2)
                  have ht : Turn (fun i => i = X225.heap.size) X279 X280 := by rw [hX]; exact (turn_set _ _ _ _).trans (turn_set _ _ _ _) (fun i hi => .inl hi)
                  have HB280 := Lib.hid (HB279.out.trans (ht.below HB279.out.size (fun i hi => by have := hlow272; omega)))
                  have HQ280a := Lib.hid (HQ279a.out.turn ht hnea)
                  have HQ280b := Lib.hid (HQ279b.out.turn ht hneb)
                  have HQ280c := Lib.hid (HQ279c.out.turn ht hnec)
                  clear ht hX k_c0 k_c1 k_f0 k_f1
                  refine wpAny_ready (rs := [12]) (by kernel_rfl) (by simp) ?_
                  refine AllReady.cons rfl (fun K hK => ?_) AllReady.nil
                  go_simp
                  refine hK _ _ ?_
                  clear hK K
                  refine wpAny_done (by kernel_rfl) ?_ _
                  exact ⟨rfl, _, _, _, _, rfl, HG280.out, HB280.out, HQ280a.out, HQ280b.out, HQ280c.out⟩
                 refine AllReady.cons rfl (fun K hK => ?_) ?_
                 ·
                  refine gapp_step rfl (.tmp 68) (.tmp 69) appN rfl W0.heap.size P277 q277 na (a.map (Value.int .i64)) rfl HO277.out Aa ca na (a.map (Value.int .i64)) rfl (HRa.out _ HB277.out) (by omega) HB277.out.size ?_
                  intro P281 q281 X281 ho hg _
                  have hlt : ∀ i, blk P277 = some i → W0.heap.size ≤ i := fun i hi => (World.ownsRow.lt HO277.out i (by rw [own_blk]; exact hi)).1
                  have HB281 := Lib.hid (HB277.out.trans (grown_below hg HB277.out.size hlt))
                  have HO281 := Lib.hid ho
                  have ht : Turn (fun i => blk P277 = some i) X277 X281 := Turn.of_grown hg (fun i hi => .inl hi)
                  have HG281 := Lib.hid (HG277.out.turn ht (row_not_mask HO277.out HG277.out))
                  have HQ281a := Lib.hid (HQ277a.out.turn ht (row_not_mask HO277.out HQ277a.out))
                  have HQ281b := Lib.hid (HQ277b.out.turn ht (row_not_mask HO277.out HQ277b.out))
                  have HQ281c := Lib.hid (HQ277c.out.turn ht (row_not_mask HO277.out HQ277c.out))
                  clear ho hg ht hlt
                  refine hK _ _ ?_
                  clear hK K
                  refine wpAny_ready (rs := [0]) (by kernel_rfl) (by simp) ?_
                  refine AllReady.cons rfl (fun K hK => ?_) AllReady.nil
                  obtain ⟨k0, k1⟩ := HS.out _ HB281.out
                  go_simp
                  refine hK _ _ ?_
                  clear hK K
                  clear k0 k1
                  refine wpAny_ready (rs := [6]) (by kernel_rfl) (by simp) ?_
                  refine AllReady.cons rfl (fun K hK => ?_) AllReady.nil
                  have hr := HUaa.out _ HB281.out P281 q281 HO281.out
                  go_simp
                  refine hr.mono ?_
                  rintro e X282 ⟨rfl, hb⟩
                  have HB282 := Lib.hid (HB281.out.trans (hb.mono HB281.out.size))
                  have HG282 := Lib.hid (HG281.out.below hb HG281.out.lt)
                  have HQ282a := Lib.hid (HQ281a.out.below hb HQ281a.out.lt)
                  have HQ282b := Lib.hid (HQ281b.out.below hb HQ281b.out.lt)
                  have HQ282c := Lib.hid (HQ281c.out.below hb HQ281c.out.lt)
                  clear hb hr
                  refine hK _ _ ?_
                  clear hK K
                  refine wpAny_take (i := 7) (v := .tuple #[.agg #[.int .u64 (ra.1 : Nat), .int .u64 (ra.2 : Nat)], .int .i64 0]) rfl (by kernel_rfl) (by kernel_rfl) (by kernel_rfl) (fun _ _ _ h => nomatch h.1) (Or.inl ⟨by rfl, fun w => by go_simp⟩) ?_
                  refine wpAny_take (i := 8) (v := .agg #[.int .u64 (ra.1 : Nat), .int .u64 (ra.2 : Nat)]) rfl (by kernel_rfl) (by kernel_rfl) (by kernel_rfl) (fun _ _ _ h => nomatch h.1) (Or.inl ⟨by rfl, fun w => by go_simp⟩) ?_
                  refine wpAny_take (i := 9) (v := .int .i64 0) rfl (by kernel_rfl) (by kernel_rfl) (by kernel_rfl) (fun _ _ _ h => nomatch h.1) (Or.inl ⟨by rfl, fun w => by go_simp⟩) ?_
                  refine wpAny_ready (rs := [11]) (by kernel_rfl) (by simp) ?_
                  refine AllReady.cons rfl (fun K hK => ?_) AllReady.nil
                  have k_c0 := HG282.out.cell0
                  have k_c1 := HG282.out.cell1
                  have k_f0 := HG282.out.frozen 0
                  have k_f1 := HG282.out.frozen 1
                  go_simp
                  refine hK _ _ ?_
                  clear hK K
                  obtain ⟨X283, hX⟩ : ∃ X, X = (X282.setCell ⟨X225.heap.size, 0, none⟩ (.int .u64 (ra.1 : Nat))).setCell ⟨X225.heap.size, 1, none⟩ (.int .u64 (ra.2 : Nat)) := ⟨_, rfl⟩
                  rw [← hX]
                  have HG283 := Lib.hid (show MRow X283 X225.heap.size ra.1 ra.2 from by rw [hX]; exact (HG282.out.set0 ra.1).set1 ra.2)
                  have ht : Turn (fun i => i = X225.heap.size) X282 X283 := by rw [hX]; exact (turn_set _ _ _ _).trans (turn_set _ _ _ _) (fun i hi => .inl hi)
                  have HB283 := Lib.hid (HB282.out.trans (ht.below HB282.out.size (fun i hi => by have := hlow272; omega)))
                  have HQ283a := Lib.hid (HQ282a.out.turn ht hnea)
                  have HQ283b := Lib.hid (HQ282b.out.turn ht hneb)
                  have HQ283c := Lib.hid (HQ282c.out.turn ht hnec)
                  clear ht hX k_c0 k_c1 k_f0 k_f1
                  refine wpAny_ready (rs := [12]) (by kernel_rfl) (by simp) ?_
                  refine AllReady.cons rfl (fun K hK => ?_) AllReady.nil
                  go_simp
                  refine hK _ _ ?_
                  clear hK K
                  refine wpAny_done (by kernel_rfl) ?_ _
                  exact ⟨rfl, _, _, _, _, rfl, HG283.out, HB283.out, HQ283a.out, HQ283b.out, HQ283c.out⟩
                 exact AllReady.nil
                exact AllReady.nil
               exact AllReady.nil
              refine AllReady.cons rfl (fun K hK => ?_) ?_
              ·
               go_simp
               refine hK _ _ ?_
               clear hK K
               obtain ⟨X284, hX⟩ : ∃ X, X = X200.alloc (.cells #[.int .u64 0, .int .u64 0] 38) := ⟨_, rfl⟩
               rw [← hX]
               have hb : Below X200.heap.size X200 X284 := by rw [hX]; exact bel1 _ _
               have HB284 := Lib.hid (HB200.out.trans (hb.mono HB200.out.size))
               have HG284 := Lib.hid (show MRow X284 X200.heap.size 0 0 from by rw [hX]; exact MRow.new _ _ _)
               have hlow284 : W0.heap.size ≤ X200.heap.size := HB200.out.size
               have HQ284a := Lib.hid (HQ200a.out.below hb HQ200a.out.lt)
               have HQ284b := Lib.hid (HQ200b.out.below hb HQ200b.out.lt)
               have HQ284c := Lib.hid (HQ200c.out.below hb HQ200c.out.lt)
               have hnea : ¬ g7 = X200.heap.size := Nat.ne_of_lt HQ200a.out.lt
               have hneb : ¬ w6.heap.size = X200.heap.size := Nat.ne_of_lt HQ200b.out.lt
               have hnec : ¬ w7.heap.size = X200.heap.size := Nat.ne_of_lt HQ200c.out.lt
               clear hb hX
               refine wpAny_ready (rs := [0, 1]) (by kernel_rfl) (by simp) ?_
               refine AllReady.cons rfl (fun K hK => ?_) ?_
               ·
                obtain ⟨k0, k1⟩ := HS.out _ HB284.out
                go_simp
                refine hK _ _ ?_
                clear hK K
                clear k0 k1
                refine wpAny_ready (rs := [1]) (by kernel_rfl) (by simp) ?_
                refine AllReady.cons rfl (fun K hK => ?_) AllReady.nil
                go_simp
                refine hK _ _ ?_
                clear hK K
                obtain ⟨X285, hX⟩ : ∃ X, X = X284.alloc (.cells #[] 3) := ⟨_, rfl⟩
                rw [← hX]
                have hb : Below X284.heap.size X284 X285 := by rw [hX]; exact bel1 _ _
                have HB285 := Lib.hid (HB284.out.trans (hb.mono HB284.out.size))
                have HO285 := Lib.hid (show X285.ownsRow W0.heap.size 3 1 (.slice (some ⟨X284.heap.size, 0, none⟩) 0 0) 0 [] from by rw [hX]; exact World.ownsRow_lit (base := W0.heap.size) (size := 1) (e := 3) X284 #[] 0 HB284.out.size (by decide) rfl)
                have HG285 := Lib.hid (HG284.out.below hb HG284.out.lt)
                have HQ285a := Lib.hid (HQ284a.out.below hb HQ284a.out.lt)
                have HQ285b := Lib.hid (HQ284b.out.below hb HQ284b.out.lt)
                have HQ285c := Lib.hid (HQ284c.out.below hb HQ284c.out.lt)
                clear hb hX
                refine wpAny_ready (rs := [3]) (by kernel_rfl) (by simp) ?_
                refine AllReady.cons rfl (fun K hK => ?_) AllReady.nil
                refine gapp_step rfl (.tmp 66) (.tmp 67) appN rfl W0.heap.size (some ⟨X284.heap.size, 0, none⟩) 0 0 [] rfl HO285.out Aa ca na (a.map (Value.int .i64)) rfl (HRa.out _ HB285.out) (by omega) HB285.out.size ?_
                intro P286 q286 X286 ho hg _
                rw [Nat.zero_add, List.nil_append] at ho
                rw [Nat.zero_add]
                have hlt : ∀ i, blk (some ⟨X284.heap.size, 0, none⟩) = some i → W0.heap.size ≤ i := fun i hi => (World.ownsRow.lt HO285.out i (by rw [own_blk]; exact hi)).1
                have HB286 := Lib.hid (HB285.out.trans (grown_below hg HB285.out.size hlt))
                have HO286 := Lib.hid ho
                have ht : Turn (fun i => blk (some ⟨X284.heap.size, 0, none⟩) = some i) X285 X286 := Turn.of_grown hg (fun i hi => .inl hi)
                have HG286 := Lib.hid (HG285.out.turn ht (row_not_mask HO285.out HG285.out))
                have HQ286a := Lib.hid (HQ285a.out.turn ht (row_not_mask HO285.out HQ285a.out))
                have HQ286b := Lib.hid (HQ285b.out.turn ht (row_not_mask HO285.out HQ285b.out))
                have HQ286c := Lib.hid (HQ285c.out.turn ht (row_not_mask HO285.out HQ285c.out))
                clear ho hg ht hlt
                refine hK _ _ ?_
                clear hK K
                refine wpAny_ready (rs := [5]) (by kernel_rfl) (by simp) ?_
                refine AllReady.cons rfl (fun K hK => ?_) AllReady.nil
                refine gapp_step rfl (.tmp 68) (.tmp 69) appN rfl W0.heap.size P286 q286 na (a.map (Value.int .i64)) rfl HO286.out Aa ca na (a.map (Value.int .i64)) rfl (HRa.out _ HB286.out) (by omega) HB286.out.size ?_
                intro P287 q287 X287 ho hg _
                have hlt : ∀ i, blk P286 = some i → W0.heap.size ≤ i := fun i hi => (World.ownsRow.lt HO286.out i (by rw [own_blk]; exact hi)).1
                have HB287 := Lib.hid (HB286.out.trans (grown_below hg HB286.out.size hlt))
                have HO287 := Lib.hid ho
                have ht : Turn (fun i => blk P286 = some i) X286 X287 := Turn.of_grown hg (fun i hi => .inl hi)
                have HG287 := Lib.hid (HG286.out.turn ht (row_not_mask HO286.out HG286.out))
                have HQ287a := Lib.hid (HQ286a.out.turn ht (row_not_mask HO286.out HQ286a.out))
                have HQ287b := Lib.hid (HQ286b.out.turn ht (row_not_mask HO286.out HQ286b.out))
                have HQ287c := Lib.hid (HQ286c.out.turn ht (row_not_mask HO286.out HQ286c.out))
                clear ho hg ht hlt
                refine hK _ _ ?_
                clear hK K
                refine wpAny_ready (rs := [6]) (by kernel_rfl) (by simp) ?_
                refine AllReady.cons rfl (fun K hK => ?_) AllReady.nil
                have hr := HUaa.out _ HB287.out P287 q287 HO287.out
                go_simp
                refine hr.mono ?_
                rintro e X288 ⟨rfl, hb⟩
                have HB288 := Lib.hid (HB287.out.trans (hb.mono HB287.out.size))
                have HG288 := Lib.hid (HG287.out.below hb HG287.out.lt)
                have HQ288a := Lib.hid (HQ287a.out.below hb HQ287a.out.lt)
                have HQ288b := Lib.hid (HQ287b.out.below hb HQ287b.out.lt)
                have HQ288c := Lib.hid (HQ287c.out.below hb HQ287c.out.lt)
                clear hb hr
                refine hK _ _ ?_
                clear hK K
                refine wpAny_take (i := 7) (v := .tuple #[.agg #[.int .u64 (ra.1 : Nat), .int .u64 (ra.2 : Nat)], .int .i64 0]) rfl (by kernel_rfl) (by kernel_rfl) (by kernel_rfl) (fun _ _ _ h => nomatch h.1) (Or.inl ⟨by rfl, fun w => by go_simp⟩) ?_
                refine wpAny_take (i := 8) (v := .agg #[.int .u64 (ra.1 : Nat), .int .u64 (ra.2 : Nat)]) rfl (by kernel_rfl) (by kernel_rfl) (by kernel_rfl) (fun _ _ _ h => nomatch h.1) (Or.inl ⟨by rfl, fun w => by go_simp⟩) ?_
                refine wpAny_take (i := 9) (v := .int .i64 0) rfl (by kernel_rfl) (by kernel_rfl) (by kernel_rfl) (fun _ _ _ h => nomatch h.1) (Or.inl ⟨by rfl, fun w => by go_simp⟩) ?_
                refine wpAny_ready (rs := [11]) (by kernel_rfl) (by simp) ?_
                refine AllReady.cons rfl (fun K hK => ?_) AllReady.nil
                have k_c0 := HG288.out.cell0
                have k_c1 := HG288.out.cell1
                have k_f0 := HG288.out.frozen 0
                have k_f1 := HG288.out.frozen 1
                go_simp
                refine hK _ _ ?_
                clear hK K
                obtain ⟨X289, hX⟩ : ∃ X, X = (X288.setCell ⟨X200.heap.size, 0, none⟩ (.int .u64 (ra.1 : Nat))).setCell ⟨X200.heap.size, 1, none⟩ (.int .u64 (ra.2 : Nat)) := ⟨_, rfl⟩
                rw [← hX]
                have HG289 := Lib.hid (show MRow X289 X200.heap.size ra.1 ra.2 from by rw [hX]; exact (HG288.out.set0 ra.1).set1 ra.2)
                have ht : Turn (fun i => i = X200.heap.size) X288 X289 := by rw [hX]; exact (turn_set _ _ _ _).trans (turn_set _ _ _ _) (fun i hi => .inl hi)
                have HB289 := Lib.hid (HB288.out.trans (ht.below HB288.out.size (fun i hi => by have := hlow284; omega)))
                have HQ289a := Lib.hid (HQ288a.out.turn ht hnea)
                have HQ289b := Lib.hid (HQ288b.out.turn ht hneb)
                have HQ289c := Lib.hid (HQ288c.out.turn ht hnec)
                clear ht hX k_c0 k_c1 k_f0 k_f1
                refine wpAny_ready (rs := [12]) (by kernel_rfl) (by simp) ?_
                refine AllReady.cons rfl (fun K hK => ?_) AllReady.nil
                go_simp
                refine hK _ _ ?_
                clear hK K
                refine wpAny_done (by kernel_rfl) ?_ _
                exact ⟨rfl, _, _, _, _, rfl, HG289.out, HB289.out, HQ289a.out, HQ289b.out, HQ289c.out⟩
               refine AllReady.cons rfl (fun K hK => ?_) ?_
               ·
                go_simp
                refine hK _ _ ?_
                clear hK K
                obtain ⟨X290, hX⟩ : ∃ X, X = X284.alloc (.cells #[] 3) := ⟨_, rfl⟩
                rw [← hX]
                have hb : Below X284.heap.size X284 X290 := by rw [hX]; exact bel1 _ _
                have HB290 := Lib.hid (HB284.out.trans (hb.mono HB284.out.size))
                have HO290 := Lib.hid (show X290.ownsRow W0.heap.size 3 1 (.slice (some ⟨X284.heap.size, 0, none⟩) 0 0) 0 [] from by rw [hX]; exact World.ownsRow_lit (base := W0.heap.size) (size := 1) (e := 3) X284 #[] 0 HB284.out.size (by decide) rfl)
                have HG290 := Lib.hid (HG284.out.below hb HG284.out.lt)
                have HQ290a := Lib.hid (HQ284a.out.below hb HQ284a.out.lt)
                have HQ290b := Lib.hid (HQ284b.out.below hb HQ284b.out.lt)
                have HQ290c := Lib.hid (HQ284c.out.below hb HQ284c.out.lt)
                clear hb hX
                refine wpAny_ready (rs := [0, 3]) (by kernel_rfl) (by simp) ?_
                refine AllReady.cons rfl (fun K hK => ?_) ?_
                ·
                 obtain ⟨k0, k1⟩ := HS.out _ HB290.out
                 go_simp
                 refine hK _ _ ?_
                 clear hK K
                 clear k0 k1
                 refine wpAny_ready (rs := [3]) (by kernel_rfl) (by simp) ?_
                 refine AllReady.cons rfl (fun K hK => ?_) AllReady.nil
                 refine gapp_step rfl (.tmp 66) (.tmp 67) appN rfl W0.heap.size (some ⟨X284.heap.size, 0, none⟩) 0 0 [] rfl HO290.out Aa ca na (a.map (Value.int .i64)) rfl (HRa.out _ HB290.out) (by omega) HB290.out.size ?_
                 intro P291 q291 X291 ho hg _
                 rw [Nat.zero_add, List.nil_append] at ho
                 rw [Nat.zero_add]
                 have hlt : ∀ i, blk (some ⟨X284.heap.size, 0, none⟩) = some i → W0.heap.size ≤ i := fun i hi => (World.ownsRow.lt HO290.out i (by rw [own_blk]; exact hi)).1
                 have HB291 := Lib.hid (HB290.out.trans (grown_below hg HB290.out.size hlt))
                 have HO291 := Lib.hid ho
                 have ht : Turn (fun i => blk (some ⟨X284.heap.size, 0, none⟩) = some i) X290 X291 := Turn.of_grown hg (fun i hi => .inl hi)
                 have HG291 := Lib.hid (HG290.out.turn ht (row_not_mask HO290.out HG290.out))
                 have HQ291a := Lib.hid (HQ290a.out.turn ht (row_not_mask HO290.out HQ290a.out))
                 have HQ291b := Lib.hid (HQ290b.out.turn ht (row_not_mask HO290.out HQ290b.out))
                 have HQ291c := Lib.hid (HQ290c.out.turn ht (row_not_mask HO290.out HQ290c.out))
                 clear ho hg ht hlt
                 refine hK _ _ ?_
                 clear hK K
                 refine wpAny_ready (rs := [5]) (by kernel_rfl) (by simp) ?_
                 refine AllReady.cons rfl (fun K hK => ?_) AllReady.nil
                 refine gapp_step rfl (.tmp 68) (.tmp 69) appN rfl W0.heap.size P291 q291 na (a.map (Value.int .i64)) rfl HO291.out Aa ca na (a.map (Value.int .i64)) rfl (HRa.out _ HB291.out) (by omega) HB291.out.size ?_
                 intro P292 q292 X292 ho hg _
                 have hlt : ∀ i, blk P291 = some i → W0.heap.size ≤ i := fun i hi => (World.ownsRow.lt HO291.out i (by rw [own_blk]; exact hi)).1
                 have HB292 := Lib.hid (HB291.out.trans (grown_below hg HB291.out.size hlt))
                 have HO292 := Lib.hid ho
                 have ht : Turn (fun i => blk P291 = some i) X291 X292 := Turn.of_grown hg (fun i hi => .inl hi)
                 have HG292 := Lib.hid (HG291.out.turn ht (row_not_mask HO291.out HG291.out))
                 have HQ292a := Lib.hid (HQ291a.out.turn ht (row_not_mask HO291.out HQ291a.out))
                 have HQ292b := Lib.hid (HQ291b.out.turn ht (row_not_mask HO291.out HQ291b.out))
                 have HQ292c := Lib.hid (HQ291c.out.turn ht (row_not_mask HO291.out HQ291c.out))
                 clear ho hg ht hlt
                 refine hK _ _ ?_
                 clear hK K
                 refine wpAny_ready (rs := [6]) (by kernel_rfl) (by simp) ?_
                 refine AllReady.cons rfl (fun K hK => ?_) AllReady.nil
                 have hr := HUaa.out _ HB292.out P292 q292 HO292.out
                 go_simp
                 refine hr.mono ?_
                 rintro e X293 ⟨rfl, hb⟩
                 have HB293 := Lib.hid (HB292.out.trans (hb.mono HB292.out.size))
                 have HG293 := Lib.hid (HG292.out.below hb HG292.out.lt)
                 have HQ293a := Lib.hid (HQ292a.out.below hb HQ292a.out.lt)
                 have HQ293b := Lib.hid (HQ292b.out.below hb HQ292b.out.lt)
                 have HQ293c := Lib.hid (HQ292c.out.below hb HQ292c.out.lt)
                 clear hb hr
                 refine hK _ _ ?_
                 clear hK K
                 refine wpAny_take (i := 7) (v := .tuple #[.agg #[.int .u64 (ra.1 : Nat), .int .u64 (ra.2 : Nat)], .int .i64 0]) rfl (by kernel_rfl) (by kernel_rfl) (by kernel_rfl) (fun _ _ _ h => nomatch h.1) (Or.inl ⟨by rfl, fun w => by go_simp⟩) ?_
                 refine wpAny_take (i := 8) (v := .agg #[.int .u64 (ra.1 : Nat), .int .u64 (ra.2 : Nat)]) rfl (by kernel_rfl) (by kernel_rfl) (by kernel_rfl) (fun _ _ _ h => nomatch h.1) (Or.inl ⟨by rfl, fun w => by go_simp⟩) ?_
                 refine wpAny_take (i := 9) (v := .int .i64 0) rfl (by kernel_rfl) (by kernel_rfl) (by kernel_rfl) (fun _ _ _ h => nomatch h.1) (Or.inl ⟨by rfl, fun w => by go_simp⟩) ?_
                 refine wpAny_ready (rs := [11]) (by kernel_rfl) (by simp) ?_
                 refine AllReady.cons rfl (fun K hK => ?_) AllReady.nil
                 have k_c0 := HG293.out.cell0
                 have k_c1 := HG293.out.cell1
                 have k_f0 := HG293.out.frozen 0
                 have k_f1 := HG293.out.frozen 1
                 go_simp
                 refine hK _ _ ?_
                 clear hK K
                 obtain ⟨X294, hX⟩ : ∃ X, X = (X293.setCell ⟨X200.heap.size, 0, none⟩ (.int .u64 (ra.1 : Nat))).setCell ⟨X200.heap.size, 1, none⟩ (.int .u64 (ra.2 : Nat)) := ⟨_, rfl⟩
                 rw [← hX]
                 have HG294 := Lib.hid (show MRow X294 X200.heap.size ra.1 ra.2 from by rw [hX]; exact (HG293.out.set0 ra.1).set1 ra.2)
                 have ht : Turn (fun i => i = X200.heap.size) X293 X294 := by rw [hX]; exact (turn_set _ _ _ _).trans (turn_set _ _ _ _) (fun i hi => .inl hi)
                 have HB294 := Lib.hid (HB293.out.trans (ht.below HB293.out.size (fun i hi => by have := hlow284; omega)))
                 have HQ294a := Lib.hid (HQ293a.out.turn ht hnea)
                 have HQ294b := Lib.hid (HQ293b.out.turn ht hneb)
                 have HQ294c := Lib.hid (HQ293c.out.turn ht hnec)
                 clear ht hX k_c0 k_c1 k_f0 k_f1
                 refine wpAny_ready (rs := [12]) (by kernel_rfl) (by simp) ?_
                 refine AllReady.cons rfl (fun K hK => ?_) AllReady.nil
                 go_simp
                 refine hK _ _ ?_
                 clear hK K
                 refine wpAny_done (by kernel_rfl) ?_ _
                 exact ⟨rfl, _, _, _, _, rfl, HG294.out, HB294.out, HQ294a.out, HQ294b.out, HQ294c.out⟩
                refine AllReady.cons rfl (fun K hK => ?_) ?_
                ·
                 refine gapp_step rfl (.tmp 66) (.tmp 67) appN rfl W0.heap.size (some ⟨X284.heap.size, 0, none⟩) 0 0 [] rfl HO290.out Aa ca na (a.map (Value.int .i64)) rfl (HRa.out _ HB290.out) (by omega) HB290.out.size ?_
                 intro P295 q295 X295 ho hg _
                 rw [Nat.zero_add, List.nil_append] at ho
                 rw [Nat.zero_add]
                 have hlt : ∀ i, blk (some ⟨X284.heap.size, 0, none⟩) = some i → W0.heap.size ≤ i := fun i hi => (World.ownsRow.lt HO290.out i (by rw [own_blk]; exact hi)).1
                 have HB295 := Lib.hid (HB290.out.trans (grown_below hg HB290.out.size hlt))
                 have HO295 := Lib.hid ho
                 have ht : Turn (fun i => blk (some ⟨X284.heap.size, 0, none⟩) = some i) X290 X295 := Turn.of_grown hg (fun i hi => .inl hi)
                 have HG295 := Lib.hid (HG290.out.turn ht (row_not_mask HO290.out HG290.out))
                 have HQ295a := Lib.hid (HQ290a.out.turn ht (row_not_mask HO290.out HQ290a.out))
                 have HQ295b := Lib.hid (HQ290b.out.turn ht (row_not_mask HO290.out HQ290b.out))
                 have HQ295c := Lib.hid (HQ290c.out.turn ht (row_not_mask HO290.out HQ290c.out))
                 clear ho hg ht hlt
                 refine hK _ _ ?_
                 clear hK K
                 refine wpAny_ready (rs := [0, 5]) (by kernel_rfl) (by simp) ?_
                 refine AllReady.cons rfl (fun K hK => ?_) ?_
                 ·
                  obtain ⟨k0, k1⟩ := HS.out _ HB295.out
                  go_simp
                  refine hK _ _ ?_
                  clear hK K
                  clear k0 k1
                  refine wpAny_ready (rs := [5]) (by kernel_rfl) (by simp) ?_
                  refine AllReady.cons rfl (fun K hK => ?_) AllReady.nil
                  refine gapp_step rfl (.tmp 68) (.tmp 69) appN rfl W0.heap.size P295 q295 na (a.map (Value.int .i64)) rfl HO295.out Aa ca na (a.map (Value.int .i64)) rfl (HRa.out _ HB295.out) (by omega) HB295.out.size ?_
                  intro P296 q296 X296 ho hg _
                  have hlt : ∀ i, blk P295 = some i → W0.heap.size ≤ i := fun i hi => (World.ownsRow.lt HO295.out i (by rw [own_blk]; exact hi)).1
                  have HB296 := Lib.hid (HB295.out.trans (grown_below hg HB295.out.size hlt))
                  have HO296 := Lib.hid ho
                  have ht : Turn (fun i => blk P295 = some i) X295 X296 := Turn.of_grown hg (fun i hi => .inl hi)
                  have HG296 := Lib.hid (HG295.out.turn ht (row_not_mask HO295.out HG295.out))
                  have HQ296a := Lib.hid (HQ295a.out.turn ht (row_not_mask HO295.out HQ295a.out))
                  have HQ296b := Lib.hid (HQ295b.out.turn ht (row_not_mask HO295.out HQ295b.out))
                  have HQ296c := Lib.hid (HQ295c.out.turn ht (row_not_mask HO295.out HQ295c.out))
                  clear ho hg ht hlt
                  refine hK _ _ ?_
                  clear hK K
                  refine wpAny_ready (rs := [6]) (by kernel_rfl) (by simp) ?_
                  refine AllReady.cons rfl (fun K hK => ?_) AllReady.nil
                  have hr := HUaa.out _ HB296.out P296 q296 HO296.out
                  go_simp
                  refine hr.mono ?_
                  rintro e X297 ⟨rfl, hb⟩
                  have HB297 := Lib.hid (HB296.out.trans (hb.mono HB296.out.size))
                  have HG297 := Lib.hid (HG296.out.below hb HG296.out.lt)
                  have HQ297a := Lib.hid (HQ296a.out.below hb HQ296a.out.lt)
                  have HQ297b := Lib.hid (HQ296b.out.below hb HQ296b.out.lt)
                  have HQ297c := Lib.hid (HQ296c.out.below hb HQ296c.out.lt)
                  clear hb hr
                  refine hK _ _ ?_
                  clear hK K
                  refine wpAny_take (i := 7) (v := .tuple #[.agg #[.int .u64 (ra.1 : Nat), .int .u64 (ra.2 : Nat)], .int .i64 0]) rfl (by kernel_rfl) (by kernel_rfl) (by kernel_rfl) (fun _ _ _ h => nomatch h.1) (Or.inl ⟨by rfl, fun w => by go_simp⟩) ?_
                  refine wpAny_take (i := 8) (v := .agg #[.int .u64 (ra.1 : Nat), .int .u64 (ra.2 : Nat)]) rfl (by kernel_rfl) (by kernel_rfl) (by kernel_rfl) (fun _ _ _ h => nomatch h.1) (Or.inl ⟨by rfl, fun w => by go_simp⟩) ?_
                  refine wpAny_take (i := 9) (v := .int .i64 0) rfl (by kernel_rfl) (by kernel_rfl) (by kernel_rfl) (fun _ _ _ h => nomatch h.1) (Or.inl ⟨by rfl, fun w => by go_simp⟩) ?_
                  refine wpAny_ready (rs := [11]) (by kernel_rfl) (by simp) ?_
                  refine AllReady.cons rfl (fun K hK => ?_) AllReady.nil
                  have k_c0 := HG297.out.cell0
                  have k_c1 := HG297.out.cell1
                  have k_f0 := HG297.out.frozen 0
                  have k_f1 := HG297.out.frozen 1
                  go_simp
                  refine hK _ _ ?_
                  clear hK K
                  obtain ⟨X298, hX⟩ : ∃ X, X = (X297.setCell ⟨X200.heap.size, 0, none⟩ (.int .u64 (ra.1 : Nat))).setCell ⟨X200.heap.size, 1, none⟩ (.int .u64 (ra.2 : Nat)) := ⟨_, rfl⟩
                  rw [← hX]
                  have HG298 := Lib.hid (show MRow X298 X200.heap.size ra.1 ra.2 from by rw [hX]; exact (HG297.out.set0 ra.1).set1 ra.2)
                  have ht : Turn (fun i => i = X200.heap.size) X297 X298 := by rw [hX]; exact (turn_set _ _ _ _).trans (turn_set _ _ _ _) (fun i hi => .inl hi)
                  have HB298 := Lib.hid (HB297.out.trans (ht.below HB297.out.size (fun i hi => by have := hlow284; omega)))
                  have HQ298a := Lib.hid (HQ297a.out.turn ht hnea)
                  have HQ298b := Lib.hid (HQ297b.out.turn ht hneb)
                  have HQ298c := Lib.hid (HQ297c.out.turn ht hnec)
                  clear ht hX k_c0 k_c1 k_f0 k_f1
                  refine wpAny_ready (rs := [12]) (by kernel_rfl) (by simp) ?_
                  refine AllReady.cons rfl (fun K hK => ?_) AllReady.nil
                  go_simp
                  refine hK _ _ ?_
                  clear hK K
                  refine wpAny_done (by kernel_rfl) ?_ _
                  exact ⟨rfl, _, _, _, _, rfl, HG298.out, HB298.out, HQ298a.out, HQ298b.out, HQ298c.out⟩
                 refine AllReady.cons rfl (fun K hK => ?_) ?_
                 ·
                  refine gapp_step rfl (.tmp 68) (.tmp 69) appN rfl W0.heap.size P295 q295 na (a.map (Value.int .i64)) rfl HO295.out Aa ca na (a.map (Value.int .i64)) rfl (HRa.out _ HB295.out) (by omega) HB295.out.size ?_
                  intro P299 q299 X299 ho hg _
                  have hlt : ∀ i, blk P295 = some i → W0.heap.size ≤ i := fun i hi => (World.ownsRow.lt HO295.out i (by rw [own_blk]; exact hi)).1
                  have HB299 := Lib.hid (HB295.out.trans (grown_below hg HB295.out.size hlt))
                  have HO299 := Lib.hid ho
                  have ht : Turn (fun i => blk P295 = some i) X295 X299 := Turn.of_grown hg (fun i hi => .inl hi)
                  have HG299 := Lib.hid (HG295.out.turn ht (row_not_mask HO295.out HG295.out))
                  have HQ299a := Lib.hid (HQ295a.out.turn ht (row_not_mask HO295.out HQ295a.out))
                  have HQ299b := Lib.hid (HQ295b.out.turn ht (row_not_mask HO295.out HQ295b.out))
                  have HQ299c := Lib.hid (HQ295c.out.turn ht (row_not_mask HO295.out HQ295c.out))
                  clear ho hg ht hlt
                  refine hK _ _ ?_
                  clear hK K
                  refine wpAny_ready (rs := [0]) (by kernel_rfl) (by simp) ?_
                  refine AllReady.cons rfl (fun K hK => ?_) AllReady.nil
                  obtain ⟨k0, k1⟩ := HS.out _ HB299.out
                  go_simp
                  refine hK _ _ ?_
                  clear hK K
                  clear k0 k1
                  refine wpAny_ready (rs := [6]) (by kernel_rfl) (by simp) ?_
                  refine AllReady.cons rfl (fun K hK => ?_) AllReady.nil
                  have hr := HUaa.out _ HB299.out P299 q299 HO299.out
                  go_simp
                  refine hr.mono ?_
                  rintro e X300 ⟨rfl, hb⟩
                  have HB300 := Lib.hid (HB299.out.trans (hb.mono HB299.out.size))
                  have HG300 := Lib.hid (HG299.out.below hb HG299.out.lt)
                  have HQ300a := Lib.hid (HQ299a.out.below hb HQ299a.out.lt)
                  have HQ300b := Lib.hid (HQ299b.out.below hb HQ299b.out.lt)
                  have HQ300c := Lib.hid (HQ299c.out.below hb HQ299c.out.lt)
                  clear hb hr
                  refine hK _ _ ?_
                  clear hK K
                  refine wpAny_take (i := 7) (v := .tuple #[.agg #[.int .u64 (ra.1 : Nat), .int .u64 (ra.2 : Nat)], .int .i64 0]) rfl (by kernel_rfl) (by kernel_rfl) (by kernel_rfl) (fun _ _ _ h => nomatch h.1) (Or.inl ⟨by rfl, fun w => by go_simp⟩) ?_
                  refine wpAny_take (i := 8) (v := .agg #[.int .u64 (ra.1 : Nat), .int .u64 (ra.2 : Nat)]) rfl (by kernel_rfl) (by kernel_rfl) (by kernel_rfl) (fun _ _ _ h => nomatch h.1) (Or.inl ⟨by rfl, fun w => by go_simp⟩) ?_
                  refine wpAny_take (i := 9) (v := .int .i64 0) rfl (by kernel_rfl) (by kernel_rfl) (by kernel_rfl) (fun _ _ _ h => nomatch h.1) (Or.inl ⟨by rfl, fun w => by go_simp⟩) ?_
                  refine wpAny_ready (rs := [11]) (by kernel_rfl) (by simp) ?_
                  refine AllReady.cons rfl (fun K hK => ?_) AllReady.nil
                  have k_c0 := HG300.out.cell0
                  have k_c1 := HG300.out.cell1
                  have k_f0 := HG300.out.frozen 0
                  have k_f1 := HG300.out.frozen 1
                  go_simp
                  refine hK _ _ ?_
                  clear hK K
                  obtain ⟨X301, hX⟩ : ∃ X, X = (X300.setCell ⟨X200.heap.size, 0, none⟩ (.int .u64 (ra.1 : Nat))).setCell ⟨X200.heap.size, 1, none⟩ (.int .u64 (ra.2 : Nat)) := ⟨_, rfl⟩
                  rw [← hX]
                  have HG301 := Lib.hid (show MRow X301 X200.heap.size ra.1 ra.2 from by rw [hX]; exact (HG300.out.set0 ra.1).set1 ra.2)
                  have ht : Turn (fun i => i = X200.heap.size) X300 X301 := by rw [hX]; exact (turn_set _ _ _ _).trans (turn_set _ _ _ _) (fun i hi => .inl hi)
                  have HB301 := Lib.hid (HB300.out.trans (ht.below HB300.out.size (fun i hi => by have := hlow284; omega)))
                  have HQ301a := Lib.hid (HQ300a.out.turn ht hnea)
                  have HQ301b := Lib.hid (HQ300b.out.turn ht hneb)
                  have HQ301c := Lib.hid (HQ300c.out.turn ht hnec)
                  clear ht hX k_c0 k_c1 k_f0 k_f1
                  refine wpAny_ready (rs := [12]) (by kernel_rfl) (by simp) ?_
                  refine AllReady.cons rfl (fun K hK => ?_) AllReady.nil
                  go_simp
                  refine hK _ _ ?_
                  clear hK K
                  refine wpAny_done (by kernel_rfl) ?_ _
                  exact ⟨rfl, _, _, _, _, rfl, HG301.out, HB301.out, HQ301a.out, HQ301b.out, HQ301c.out⟩
                 exact AllReady.nil
                exact AllReady.nil
               exact AllReady.nil
              exact AllReady.nil
          · have q0 : (E != 0) = true := by simpa using hE
            obtain ⟨hr, hEe⟩ := HRE.out
            have hr0 : r = (0, 0) := by
              rw [hr]
              unfold unionR
              rw [if_neg (by rw [← hEe]; exact hE)]
              rfl
            have hor := uni_no (C := C) (M := M) (a := a) (b := b) (by rw [← hEe]; exact hE)
            rw [← HEs.out.2.1, ← HEs.out.2.2.2] at hor
            obtain ⟨hm7, hm9, hm11⟩ := HG.out
            have z0 := hm7.cell0
            have z1 := hm7.cell1
            have hq : ∀ W, (Op.equalIn 10000 38 (.agg #[.int .u64 (r.1 : Nat), .int .u64 (r.2 : Nat)]) (.agg #[.int .u64 0, .int .u64 0])).run Try.prog W = .ok true W := fun W => by rw [MskL.eqM0, hr0]; rfl
            have bz : ∀ W, (Instr.build 38 #[]).run Try.prog W = .ok (.agg #[.int .u64 0, .int .u64 0]) W := fun W => run_build W 38 _ _ (by kernel_rfl)
            clear hr hEe hr0 hm7 hm9 hm11 hE
            rcases Decidable.em (Ea = 0) with ha0 | ha0
            · have q1 : (Ea != 0) = false := by simpa using ha0
              have q2 : (Eb != 0) = true := by rcases hor with h | h; exact absurd ha0 h; simpa using h
              clear hor
              go_wp2_with (first | (rw [← HW7.out]) | fail)
              go_ret
              exact ⟨by simp, HB0.out.trans (HB7.out.mono HB0.out.size)⟩
            · have q1 : (Ea != 0) = true := by simpa using ha0
              clear hor
              go_wp2_with (first | (rw [← HW7.out]) | fail)
              go_ret
              exact ⟨by simp, HB0.out.trans (HB7.out.mono HB0.out.size)⟩
        · refine wp_region_any (by kernel_rfl) ?_
          change wpAny _ _ _ _ _ _ _ (World.drew _)
          obtain ⟨X100, hX0⟩ : ∃ X0, X0 = w2.drew := ⟨_, rfl⟩
          have HB100 := Lib.hid (show Below W0.heap.size W0 X100 from by rw [hX0]; exact below_drew HB2.out)
          rw [← hX0]
          clear hX0 x0 x1
          simp only [List.size_toArray, List.length_cons, List.length_nil, Nat.reduceAdd, Array.replicate_succ, Array.replicate_zero, List.push_toArray, List.nil_append, List.cons_append]
          refine wpAny_take (i := 2) (v := .slice Aa na ca) rfl (by kernel_rfl) (by kernel_rfl) (by kernel_rfl) (fun _ _ _ h => nomatch h.1) (Or.inl ⟨by rfl, fun w => by go_simp⟩) ?_
          refine wpAny_take (i := 4) (v := .slice Ab nb cb) rfl (by kernel_rfl) (by kernel_rfl) (by kernel_rfl) (fun _ _ _ h => nomatch h.1) (Or.inl ⟨by rfl, fun w => by go_simp⟩) ?_
          refine wpAny_ready (rs := [0, 1, 10]) (by kernel_rfl) (by simp) ?_
          refine AllReady.cons rfl (fun K hK => ?_) ?_
          ·
           obtain ⟨k0, k1⟩ := HS.out _ HB100.out
           go_simp
           refine hK _ _ ?_
           clear hK K
           clear k0 k1
           refine wpAny_ready (rs := [1, 10]) (by kernel_rfl) (by simp) ?_
           refine AllReady.cons rfl (fun K hK => ?_) ?_
           ·
            go_simp
            refine hK _ _ ?_
            clear hK K
            obtain ⟨X101, hX⟩ : ∃ X, X = X100.alloc (.cells #[] 3) := ⟨_, rfl⟩
            rw [← hX]
            have hb : Below X100.heap.size X100 X101 := by rw [hX]; exact bel1 _ _
            have HB101 := Lib.hid (HB100.out.trans (hb.mono HB100.out.size))
            have HO101 := Lib.hid (show X101.ownsRow W0.heap.size 3 1 (.slice (some ⟨X100.heap.size, 0, none⟩) 0 0) 0 [] from by rw [hX]; exact World.ownsRow_lit (base := W0.heap.size) (size := 1) (e := 3) X100 #[] 0 HB100.out.size (by decide) rfl)
            clear hb hX
            refine wpAny_ready (rs := [3, 10]) (by kernel_rfl) (by simp) ?_
            refine AllReady.cons rfl (fun K hK => ?_) ?_
            ·
             refine gapp_step rfl (.tmp 31) (.tmp 32) appN rfl W0.heap.size (some ⟨X100.heap.size, 0, none⟩) 0 0 [] rfl HO101.out Aa ca na (a.map (Value.int .i64)) rfl (HRa.out _ HB101.out) (by omega) HB101.out.size ?_
             intro P102 q102 X102 ho hg _
             rw [Nat.zero_add, List.nil_append] at ho
             rw [Nat.zero_add]
             have hlt : ∀ i, blk (some ⟨X100.heap.size, 0, none⟩) = some i → W0.heap.size ≤ i := fun i hi => (World.ownsRow.lt HO101.out i (by rw [own_blk]; exact hi)).1
             have HB102 := Lib.hid (HB101.out.trans (grown_below hg HB101.out.size hlt))
             have HO102 := Lib.hid ho
             have ht : Turn (fun i => blk (some ⟨X100.heap.size, 0, none⟩) = some i) X101 X102 := Turn.of_grown hg (fun i hi => .inl hi)
             clear ho hg ht hlt
             refine hK _ _ ?_
             clear hK K
             refine wpAny_ready (rs := [5, 10]) (by kernel_rfl) (by simp) ?_
             refine AllReady.cons rfl (fun K hK => ?_) ?_
             ·
              refine gapp_step rfl (.tmp 33) (.tmp 34) appN rfl W0.heap.size P102 q102 na (a.map (Value.int .i64)) rfl HO102.out Ab cb nb (b.map (Value.int .i64)) rfl (HRb.out _ HB102.out) (by omega) HB102.out.size ?_
              intro P103 q103 X103 ho hg _
              have hlt : ∀ i, blk P102 = some i → W0.heap.size ≤ i := fun i hi => (World.ownsRow.lt HO102.out i (by rw [own_blk]; exact hi)).1
              have HB103 := Lib.hid (HB102.out.trans (grown_below hg HB102.out.size hlt))
              have HO103 := Lib.hid ho
              have ht : Turn (fun i => blk P102 = some i) X102 X103 := Turn.of_grown hg (fun i hi => .inl hi)
              clear ho hg ht hlt
              refine hK _ _ ?_
              clear hK K
              refine wpAny_ready (rs := [6, 10]) (by kernel_rfl) (by simp) ?_
              refine AllReady.cons rfl (fun K hK => ?_) ?_
              ·
               have hr := HUab.out _ HB103.out P103 q103 HO103.out
               go_simp
               refine hr.mono ?_
               rintro e X104 ⟨rfl, hb⟩
               have HB104 := Lib.hid (HB103.out.trans (hb.mono HB103.out.size))
               clear hb hr
               refine hK _ _ ?_
               clear hK K
               refine wpAny_take (i := 7) (v := .tuple #[.agg #[.int .u64 (r.1 : Nat), .int .u64 (r.2 : Nat)], .int .i64 E]) rfl (by kernel_rfl) (by kernel_rfl) (by kernel_rfl) (fun _ _ _ h => nomatch h.1) (Or.inl ⟨by rfl, fun w => by go_simp⟩) ?_
               refine wpAny_take (i := 8) (v := .agg #[.int .u64 (r.1 : Nat), .int .u64 (r.2 : Nat)]) rfl (by kernel_rfl) (by kernel_rfl) (by kernel_rfl) (fun _ _ _ h => nomatch h.1) (Or.inl ⟨by rfl, fun w => by go_simp⟩) ?_
               refine wpAny_take (i := 9) (v := .int .i64 E) rfl (by kernel_rfl) (by kernel_rfl) (by kernel_rfl) (fun _ _ _ h => nomatch h.1) (Or.inl ⟨by rfl, fun w => by go_simp⟩) ?_
               refine wpAny_ready (rs := [10]) (by kernel_rfl) (by simp) ?_
               refine AllReady.cons rfl (fun K hK => ?_) AllReady.nil
               go_simp
               refine hK _ _ ?_
               clear hK K
               obtain ⟨X105, hX⟩ : ∃ X, X = X104.alloc (.cells #[.int .u64 0, .int .u64 0] 38) := ⟨_, rfl⟩
               rw [← hX]
               have hb : Below X104.heap.size X104 X105 := by rw [hX]; exact bel1 _ _
               have HB105 := Lib.hid (HB104.out.trans (hb.mono HB104.out.size))
               have HG105 := Lib.hid (show MRow X105 X104.heap.size 0 0 from by rw [hX]; exact MRow.new _ _ _)
               have hlow105 : W0.heap.size ≤ X104.heap.size := HB104.out.size
               clear hb hX
               refine wpAny_ready (rs := [11]) (by kernel_rfl) (by simp) ?_
               refine AllReady.cons rfl (fun K hK => ?_) AllReady.nil
               have k_c0 := HG105.out.cell0
               have k_c1 := HG105.out.cell1
               have k_f0 := HG105.out.frozen 0
               have k_f1 := HG105.out.frozen 1
               go_simp
               refine hK _ _ ?_
               clear hK K
               obtain ⟨X106, hX⟩ : ∃ X, X = (X105.setCell ⟨X104.heap.size, 0, none⟩ (.int .u64 (r.1 : Nat))).setCell ⟨X104.heap.size, 1, none⟩ (.int .u64 (r.2 : Nat)) := ⟨_, rfl⟩
               rw [← hX]
               have HG106 := Lib.hid (show MRow X106 X104.heap.size r.1 r.2 from by rw [hX]; exact (HG105.out.set0 r.1).set1 r.2)
               have ht : Turn (fun i => i = X104.heap.size) X105 X106 := by rw [hX]; exact (turn_set _ _ _ _).trans (turn_set _ _ _ _) (fun i hi => .inl hi)
               have HB106 := Lib.hid (HB105.out.trans (ht.below HB105.out.size (fun i hi => by have := hlow105; omega)))
               clear ht hX k_c0 k_c1 k_f0 k_f1
               refine wpAny_ready (rs := [12]) (by kernel_rfl) (by simp) ?_
               refine AllReady.cons rfl (fun K hK => ?_) AllReady.nil
               go_simp
               refine hK _ _ ?_
               clear hK K
               refine wpAny_done (by kernel_rfl) ?_ _
               exact ⟨rfl, _, _, _, _, rfl, HG106.out, HB106.out⟩
              refine AllReady.cons rfl (fun K hK => ?_) ?_
              ·
               go_simp
               refine hK _ _ ?_
               clear hK K
               obtain ⟨X107, hX⟩ : ∃ X, X = X103.alloc (.cells #[.int .u64 0, .int .u64 0] 38) := ⟨_, rfl⟩
               rw [← hX]
               have hb : Below X103.heap.size X103 X107 := by rw [hX]; exact bel1 _ _
               have HB107 := Lib.hid (HB103.out.trans (hb.mono HB103.out.size))
               have HO107 := Lib.hid (row_turn HO103.out (Turn.of_below (S := fun _ => False) hb) (fun _ _ e => e))
               have HG107 := Lib.hid (show MRow X107 X103.heap.size 0 0 from by rw [hX]; exact MRow.new _ _ _)
               have hlow107 : W0.heap.size ≤ X103.heap.size := HB103.out.size
               clear hb hX
               refine wpAny_ready (rs := [6]) (by kernel_rfl) (by simp) ?_
               refine AllReady.cons rfl (fun K hK => ?_) AllReady.nil
               have hr := HUab.out _ HB107.out P103 q103 HO107.out
               go_simp
               refine hr.mono ?_
               rintro e X108 ⟨rfl, hb⟩
               have HB108 := Lib.hid (HB107.out.trans (hb.mono HB107.out.size))
               have HG108 := Lib.hid (HG107.out.below hb HG107.out.lt)
               clear hb hr
               refine hK _ _ ?_
               clear hK K
               refine wpAny_take (i := 7) (v := .tuple #[.agg #[.int .u64 (r.1 : Nat), .int .u64 (r.2 : Nat)], .int .i64 E]) rfl (by kernel_rfl) (by kernel_rfl) (by kernel_rfl) (fun _ _ _ h => nomatch h.1) (Or.inl ⟨by rfl, fun w => by go_simp⟩) ?_
               refine wpAny_take (i := 8) (v := .agg #[.int .u64 (r.1 : Nat), .int .u64 (r.2 : Nat)]) rfl (by kernel_rfl) (by kernel_rfl) (by kernel_rfl) (fun _ _ _ h => nomatch h.1) (Or.inl ⟨by rfl, fun w => by go_simp⟩) ?_
               refine wpAny_take (i := 9) (v := .int .i64 E) rfl (by kernel_rfl) (by kernel_rfl) (by kernel_rfl) (fun _ _ _ h => nomatch h.1) (Or.inl ⟨by rfl, fun w => by go_simp⟩) ?_
               refine wpAny_ready (rs := [11]) (by kernel_rfl) (by simp) ?_
               refine AllReady.cons rfl (fun K hK => ?_) AllReady.nil
               have k_c0 := HG108.out.cell0
               have k_c1 := HG108.out.cell1
               have k_f0 := HG108.out.frozen 0
               have k_f1 := HG108.out.frozen 1
               go_simp
               refine hK _ _ ?_
               clear hK K
               obtain ⟨X109, hX⟩ : ∃ X, X = (X108.setCell ⟨X103.heap.size, 0, none⟩ (.int .u64 (r.1 : Nat))).setCell ⟨X103.heap.size, 1, none⟩ (.int .u64 (r.2 : Nat)) := ⟨_, rfl⟩
               rw [← hX]
               have HG109 := Lib.hid (show MRow X109 X103.heap.size r.1 r.2 from by rw [hX]; exact (HG108.out.set0 r.1).set1 r.2)
               have ht : Turn (fun i => i = X103.heap.size) X108 X109 := by rw [hX]; exact (turn_set _ _ _ _).trans (turn_set _ _ _ _) (fun i hi => .inl hi)
               have HB109 := Lib.hid (HB108.out.trans (ht.below HB108.out.size (fun i hi => by have := hlow107; omega)))
               clear ht hX k_c0 k_c1 k_f0 k_f1
               refine wpAny_ready (rs := [12]) (by kernel_rfl) (by simp) ?_
               refine AllReady.cons rfl (fun K hK => ?_) AllReady.nil
               go_simp
               refine hK _ _ ?_
               clear hK K
               refine wpAny_done (by kernel_rfl) ?_ _
               exact ⟨rfl, _, _, _, _, rfl, HG109.out, HB109.out⟩
              exact AllReady.nil
             refine AllReady.cons rfl (fun K hK => ?_) ?_
             ·
              go_simp
              refine hK _ _ ?_
              clear hK K
              obtain ⟨X110, hX⟩ : ∃ X, X = X102.alloc (.cells #[.int .u64 0, .int .u64 0] 38) := ⟨_, rfl⟩
              rw [← hX]
              have hb : Below X102.heap.size X102 X110 := by rw [hX]; exact bel1 _ _
              have HB110 := Lib.hid (HB102.out.trans (hb.mono HB102.out.size))
              have HO110 := Lib.hid (row_turn HO102.out (Turn.of_below (S := fun _ => False) hb) (fun _ _ e => e))
              have HG110 := Lib.hid (show MRow X110 X102.heap.size 0 0 from by rw [hX]; exact MRow.new _ _ _)
              have hlow110 : W0.heap.size ≤ X102.heap.size := HB102.out.size
              clear hb hX
              refine wpAny_ready (rs := [5]) (by kernel_rfl) (by simp) ?_
              refine AllReady.cons rfl (fun K hK => ?_) AllReady.nil
              refine gapp_step rfl (.tmp 33) (.tmp 34) appN rfl W0.heap.size P102 q102 na (a.map (Value.int .i64)) rfl HO110.out Ab cb nb (b.map (Value.int .i64)) rfl (HRb.out _ HB110.out) (by omega) HB110.out.size ?_
              intro P111 q111 X111 ho hg _
              have hlt : ∀ i, blk P102 = some i → W0.heap.size ≤ i := fun i hi => (World.ownsRow.lt HO110.out i (by rw [own_blk]; exact hi)).1
              have HB111 := Lib.hid (HB110.out.trans (grown_below hg HB110.out.size hlt))
              have HO111 := Lib.hid ho
              have ht : Turn (fun i => blk P102 = some i) X110 X111 := Turn.of_grown hg (fun i hi => .inl hi)
              have HG111 := Lib.hid (HG110.out.turn ht (row_not_mask HO110.out HG110.out))
              clear ho hg ht hlt
              refine hK _ _ ?_
              clear hK K
              refine wpAny_ready (rs := [6]) (by kernel_rfl) (by simp) ?_
              refine AllReady.cons rfl (fun K hK => ?_) AllReady.nil
              have hr := HUab.out _ HB111.out P111 q111 HO111.out
              go_simp
              refine hr.mono ?_
              rintro e X112 ⟨rfl, hb⟩
              have HB112 := Lib.hid (HB111.out.trans (hb.mono HB111.out.size))
              have HG112 := Lib.hid (HG111.out.below hb HG111.out.lt)
              clear hb hr
              refine hK _ _ ?_
              clear hK K
              refine wpAny_take (i := 7) (v := .tuple #[.agg #[.int .u64 (r.1 : Nat), .int .u64 (r.2 : Nat)], .int .i64 E]) rfl (by kernel_rfl) (by kernel_rfl) (by kernel_rfl) (fun _ _ _ h => nomatch h.1) (Or.inl ⟨by rfl, fun w => by go_simp⟩) ?_
              refine wpAny_take (i := 8) (v := .agg #[.int .u64 (r.1 : Nat), .int .u64 (r.2 : Nat)]) rfl (by kernel_rfl) (by kernel_rfl) (by kernel_rfl) (fun _ _ _ h => nomatch h.1) (Or.inl ⟨by rfl, fun w => by go_simp⟩) ?_
              refine wpAny_take (i := 9) (v := .int .i64 E) rfl (by kernel_rfl) (by kernel_rfl) (by kernel_rfl) (fun _ _ _ h => nomatch h.1) (Or.inl ⟨by rfl, fun w => by go_simp⟩) ?_
              refine wpAny_ready (rs := [11]) (by kernel_rfl) (by simp) ?_
              refine AllReady.cons rfl (fun K hK => ?_) AllReady.nil
              have k_c0 := HG112.out.cell0
              have k_c1 := HG112.out.cell1
              have k_f0 := HG112.out.frozen 0
              have k_f1 := HG112.out.frozen 1
              go_simp
              refine hK _ _ ?_
              clear hK K
              obtain ⟨X113, hX⟩ : ∃ X, X = (X112.setCell ⟨X102.heap.size, 0, none⟩ (.int .u64 (r.1 : Nat))).setCell ⟨X102.heap.size, 1, none⟩ (.int .u64 (r.2 : Nat)) := ⟨_, rfl⟩
              rw [← hX]
              have HG113 := Lib.hid (show MRow X113 X102.heap.size r.1 r.2 from by rw [hX]; exact (HG112.out.set0 r.1).set1 r.2)
              have ht : Turn (fun i => i = X102.heap.size) X112 X113 := by rw [hX]; exact (turn_set _ _ _ _).trans (turn_set _ _ _ _) (fun i hi => .inl hi)
              have HB113 := Lib.hid (HB112.out.trans (ht.below HB112.out.size (fun i hi => by have := hlow110; omega)))
              clear ht hX k_c0 k_c1 k_f0 k_f1
              refine wpAny_ready (rs := [12]) (by kernel_rfl) (by simp) ?_
              refine AllReady.cons rfl (fun K hK => ?_) AllReady.nil
              go_simp
              refine hK _ _ ?_
              clear hK K
              refine wpAny_done (by kernel_rfl) ?_ _
              exact ⟨rfl, _, _, _, _, rfl, HG113.out, HB113.out⟩
             exact AllReady.nil
            refine AllReady.cons rfl (fun K hK => ?_) ?_
            ·
             go_simp
             refine hK _ _ ?_
             clear hK K
             obtain ⟨X114, hX⟩ : ∃ X, X = X101.alloc (.cells #[.int .u64 0, .int .u64 0] 38) := ⟨_, rfl⟩
             rw [← hX]
             have hb : Below X101.heap.size X101 X114 := by rw [hX]; exact bel1 _ _
             have HB114 := Lib.hid (HB101.out.trans (hb.mono HB101.out.size))
             have HO114 := Lib.hid (row_turn HO101.out (Turn.of_below (S := fun _ => False) hb) (fun _ _ e => e))
             have HG114 := Lib.hid (show MRow X114 X101.heap.size 0 0 from by rw [hX]; exact MRow.new _ _ _)
             have hlow114 : W0.heap.size ≤ X101.heap.size := HB101.out.size
             clear hb hX
             refine wpAny_ready (rs := [3]) (by kernel_rfl) (by simp) ?_
             refine AllReady.cons rfl (fun K hK => ?_) AllReady.nil
             refine gapp_step rfl (.tmp 31) (.tmp 32) appN rfl W0.heap.size (some ⟨X100.heap.size, 0, none⟩) 0 0 [] rfl HO114.out Aa ca na (a.map (Value.int .i64)) rfl (HRa.out _ HB114.out) (by omega) HB114.out.size ?_
             intro P115 q115 X115 ho hg _
             rw [Nat.zero_add, List.nil_append] at ho
             rw [Nat.zero_add]
             have hlt : ∀ i, blk (some ⟨X100.heap.size, 0, none⟩) = some i → W0.heap.size ≤ i := fun i hi => (World.ownsRow.lt HO114.out i (by rw [own_blk]; exact hi)).1
             have HB115 := Lib.hid (HB114.out.trans (grown_below hg HB114.out.size hlt))
             have HO115 := Lib.hid ho
             have ht : Turn (fun i => blk (some ⟨X100.heap.size, 0, none⟩) = some i) X114 X115 := Turn.of_grown hg (fun i hi => .inl hi)
             have HG115 := Lib.hid (HG114.out.turn ht (row_not_mask HO114.out HG114.out))
             clear ho hg ht hlt
             refine hK _ _ ?_
             clear hK K
             refine wpAny_ready (rs := [5]) (by kernel_rfl) (by simp) ?_
             refine AllReady.cons rfl (fun K hK => ?_) AllReady.nil
             refine gapp_step rfl (.tmp 33) (.tmp 34) appN rfl W0.heap.size P115 q115 na (a.map (Value.int .i64)) rfl HO115.out Ab cb nb (b.map (Value.int .i64)) rfl (HRb.out _ HB115.out) (by omega) HB115.out.size ?_
             intro P116 q116 X116 ho hg _
             have hlt : ∀ i, blk P115 = some i → W0.heap.size ≤ i := fun i hi => (World.ownsRow.lt HO115.out i (by rw [own_blk]; exact hi)).1
             have HB116 := Lib.hid (HB115.out.trans (grown_below hg HB115.out.size hlt))
             have HO116 := Lib.hid ho
             have ht : Turn (fun i => blk P115 = some i) X115 X116 := Turn.of_grown hg (fun i hi => .inl hi)
             have HG116 := Lib.hid (HG115.out.turn ht (row_not_mask HO115.out HG115.out))
             clear ho hg ht hlt
             refine hK _ _ ?_
             clear hK K
             refine wpAny_ready (rs := [6]) (by kernel_rfl) (by simp) ?_
             refine AllReady.cons rfl (fun K hK => ?_) AllReady.nil
             have hr := HUab.out _ HB116.out P116 q116 HO116.out
             go_simp
             refine hr.mono ?_
             rintro e X117 ⟨rfl, hb⟩
             have HB117 := Lib.hid (HB116.out.trans (hb.mono HB116.out.size))
             have HG117 := Lib.hid (HG116.out.below hb HG116.out.lt)
             clear hb hr
             refine hK _ _ ?_
             clear hK K
             refine wpAny_take (i := 7) (v := .tuple #[.agg #[.int .u64 (r.1 : Nat), .int .u64 (r.2 : Nat)], .int .i64 E]) rfl (by kernel_rfl) (by kernel_rfl) (by kernel_rfl) (fun _ _ _ h => nomatch h.1) (Or.inl ⟨by rfl, fun w => by go_simp⟩) ?_
             refine wpAny_take (i := 8) (v := .agg #[.int .u64 (r.1 : Nat), .int .u64 (r.2 : Nat)]) rfl (by kernel_rfl) (by kernel_rfl) (by kernel_rfl) (fun _ _ _ h => nomatch h.1) (Or.inl ⟨by rfl, fun w => by go_simp⟩) ?_
             refine wpAny_take (i := 9) (v := .int .i64 E) rfl (by kernel_rfl) (by kernel_rfl) (by kernel_rfl) (fun _ _ _ h => nomatch h.1) (Or.inl ⟨by rfl, fun w => by go_simp⟩) ?_
             refine wpAny_ready (rs := [11]) (by kernel_rfl) (by simp) ?_
             refine AllReady.cons rfl (fun K hK => ?_) AllReady.nil
             have k_c0 := HG117.out.cell0
             have k_c1 := HG117.out.cell1
             have k_f0 := HG117.out.frozen 0
             have k_f1 := HG117.out.frozen 1
             go_simp
             refine hK _ _ ?_
             clear hK K
             obtain ⟨X118, hX⟩ : ∃ X, X = (X117.setCell ⟨X101.heap.size, 0, none⟩ (.int .u64 (r.1 : Nat))).setCell ⟨X101.heap.size, 1, none⟩ (.int .u64 (r.2 : Nat)) := ⟨_, rfl⟩
             rw [← hX]
             have HG118 := Lib.hid (show MRow X118 X101.heap.size r.1 r.2 from by rw [hX]; exact (HG117.out.set0 r.1).set1 r.2)
             have ht : Turn (fun i => i = X101.heap.size) X117 X118 := by rw [hX]; exact (turn_set _ _ _ _).trans (turn_set _ _ _ _) (fun i hi => .inl hi)
             have HB118 := Lib.hid (HB117.out.trans (ht.below HB117.out.size (fun i hi => by have := hlow114; omega)))
             clear ht hX k_c0 k_c1 k_f0 k_f1
             refine wpAny_ready (rs := [12]) (by kernel_rfl) (by simp) ?_
             refine AllReady.cons rfl (fun K hK => ?_) AllReady.nil
             go_simp
             refine hK _ _ ?_
             clear hK K
             refine wpAny_done (by kernel_rfl) ?_ _
             exact ⟨rfl, _, _, _, _, rfl, HG118.out, HB118.out⟩
            exact AllReady.nil
           refine AllReady.cons rfl (fun K hK => ?_) ?_
           ·
            go_simp
            refine hK _ _ ?_
            clear hK K
            obtain ⟨X119, hX⟩ : ∃ X, X = X100.alloc (.cells #[.int .u64 0, .int .u64 0] 38) := ⟨_, rfl⟩
            rw [← hX]
            have hb : Below X100.heap.size X100 X119 := by rw [hX]; exact bel1 _ _
            have HB119 := Lib.hid (HB100.out.trans (hb.mono HB100.out.size))
            have HG119 := Lib.hid (show MRow X119 X100.heap.size 0 0 from by rw [hX]; exact MRow.new _ _ _)
            have hlow119 : W0.heap.size ≤ X100.heap.size := HB100.out.size
            clear hb hX
            refine wpAny_ready (rs := [1]) (by kernel_rfl) (by simp) ?_
            refine AllReady.cons rfl (fun K hK => ?_) AllReady.nil
            go_simp
            refine hK _ _ ?_
            clear hK K
            obtain ⟨X120, hX⟩ : ∃ X, X = X119.alloc (.cells #[] 3) := ⟨_, rfl⟩
            rw [← hX]
            have hb : Below X119.heap.size X119 X120 := by rw [hX]; exact bel1 _ _
            have HB120 := Lib.hid (HB119.out.trans (hb.mono HB119.out.size))
            have HO120 := Lib.hid (show X120.ownsRow W0.heap.size 3 1 (.slice (some ⟨X119.heap.size, 0, none⟩) 0 0) 0 [] from by rw [hX]; exact World.ownsRow_lit (base := W0.heap.size) (size := 1) (e := 3) X119 #[] 0 HB119.out.size (by decide) rfl)
            have HG120 := Lib.hid (HG119.out.below hb HG119.out.lt)
            clear hb hX
            refine wpAny_ready (rs := [3]) (by kernel_rfl) (by simp) ?_
            refine AllReady.cons rfl (fun K hK => ?_) AllReady.nil
            refine gapp_step rfl (.tmp 31) (.tmp 32) appN rfl W0.heap.size (some ⟨X119.heap.size, 0, none⟩) 0 0 [] rfl HO120.out Aa ca na (a.map (Value.int .i64)) rfl (HRa.out _ HB120.out) (by omega) HB120.out.size ?_
            intro P121 q121 X121 ho hg _
            rw [Nat.zero_add, List.nil_append] at ho
            rw [Nat.zero_add]
            have hlt : ∀ i, blk (some ⟨X119.heap.size, 0, none⟩) = some i → W0.heap.size ≤ i := fun i hi => (World.ownsRow.lt HO120.out i (by rw [own_blk]; exact hi)).1
            have HB121 := Lib.hid (HB120.out.trans (grown_below hg HB120.out.size hlt))
            have HO121 := Lib.hid ho
            have ht : Turn (fun i => blk (some ⟨X119.heap.size, 0, none⟩) = some i) X120 X121 := Turn.of_grown hg (fun i hi => .inl hi)
            have HG121 := Lib.hid (HG120.out.turn ht (row_not_mask HO120.out HG120.out))
            clear ho hg ht hlt
            refine hK _ _ ?_
            clear hK K
            refine wpAny_ready (rs := [5]) (by kernel_rfl) (by simp) ?_
            refine AllReady.cons rfl (fun K hK => ?_) AllReady.nil
            refine gapp_step rfl (.tmp 33) (.tmp 34) appN rfl W0.heap.size P121 q121 na (a.map (Value.int .i64)) rfl HO121.out Ab cb nb (b.map (Value.int .i64)) rfl (HRb.out _ HB121.out) (by omega) HB121.out.size ?_
            intro P122 q122 X122 ho hg _
            have hlt : ∀ i, blk P121 = some i → W0.heap.size ≤ i := fun i hi => (World.ownsRow.lt HO121.out i (by rw [own_blk]; exact hi)).1
            have HB122 := Lib.hid (HB121.out.trans (grown_below hg HB121.out.size hlt))
            have HO122 := Lib.hid ho
            have ht : Turn (fun i => blk P121 = some i) X121 X122 := Turn.of_grown hg (fun i hi => .inl hi)
            have HG122 := Lib.hid (HG121.out.turn ht (row_not_mask HO121.out HG121.out))
            clear ho hg ht hlt
            refine hK _ _ ?_
            clear hK K
            refine wpAny_ready (rs := [6]) (by kernel_rfl) (by simp) ?_
            refine AllReady.cons rfl (fun K hK => ?_) AllReady.nil
            have hr := HUab.out _ HB122.out P122 q122 HO122.out
            go_simp
            refine hr.mono ?_
            rintro e X123 ⟨rfl, hb⟩
            have HB123 := Lib.hid (HB122.out.trans (hb.mono HB122.out.size))
            have HG123 := Lib.hid (HG122.out.below hb HG122.out.lt)
            clear hb hr
            refine hK _ _ ?_
            clear hK K
            refine wpAny_take (i := 7) (v := .tuple #[.agg #[.int .u64 (r.1 : Nat), .int .u64 (r.2 : Nat)], .int .i64 E]) rfl (by kernel_rfl) (by kernel_rfl) (by kernel_rfl) (fun _ _ _ h => nomatch h.1) (Or.inl ⟨by rfl, fun w => by go_simp⟩) ?_
            refine wpAny_take (i := 8) (v := .agg #[.int .u64 (r.1 : Nat), .int .u64 (r.2 : Nat)]) rfl (by kernel_rfl) (by kernel_rfl) (by kernel_rfl) (fun _ _ _ h => nomatch h.1) (Or.inl ⟨by rfl, fun w => by go_simp⟩) ?_
            refine wpAny_take (i := 9) (v := .int .i64 E) rfl (by kernel_rfl) (by kernel_rfl) (by kernel_rfl) (fun _ _ _ h => nomatch h.1) (Or.inl ⟨by rfl, fun w => by go_simp⟩) ?_
            refine wpAny_ready (rs := [11]) (by kernel_rfl) (by simp) ?_
            refine AllReady.cons rfl (fun K hK => ?_) AllReady.nil
            have k_c0 := HG123.out.cell0
            have k_c1 := HG123.out.cell1
            have k_f0 := HG123.out.frozen 0
            have k_f1 := HG123.out.frozen 1
            go_simp
            refine hK _ _ ?_
            clear hK K
            obtain ⟨X124, hX⟩ : ∃ X, X = (X123.setCell ⟨X100.heap.size, 0, none⟩ (.int .u64 (r.1 : Nat))).setCell ⟨X100.heap.size, 1, none⟩ (.int .u64 (r.2 : Nat)) := ⟨_, rfl⟩
            rw [← hX]
            have HG124 := Lib.hid (show MRow X124 X100.heap.size r.1 r.2 from by rw [hX]; exact (HG123.out.set0 r.1).set1 r.2)
            have ht : Turn (fun i => i = X100.heap.size) X123 X124 := by rw [hX]; exact (turn_set _ _ _ _).trans (turn_set _ _ _ _) (fun i hi => .inl hi)
            have HB124 := Lib.hid (HB123.out.trans (ht.below HB123.out.size (fun i hi => by have := hlow119; omega)))
            clear ht hX k_c0 k_c1 k_f0 k_f1
            refine wpAny_ready (rs := [12]) (by kernel_rfl) (by simp) ?_
            refine AllReady.cons rfl (fun K hK => ?_) AllReady.nil
            go_simp
            refine hK _ _ ?_
            clear hK K
            refine wpAny_done (by kernel_rfl) ?_ _
            exact ⟨rfl, _, _, _, _, rfl, HG124.out, HB124.out⟩
           exact AllReady.nil
          refine AllReady.cons rfl (fun K hK => ?_) ?_
          ·
           go_simp
           refine hK _ _ ?_
           clear hK K
           obtain ⟨X125, hX⟩ : ∃ X, X = X100.alloc (.cells #[] 3) := ⟨_, rfl⟩
           rw [← hX]
           have hb : Below X100.heap.size X100 X125 := by rw [hX]; exact bel1 _ _
           have HB125 := Lib.hid (HB100.out.trans (hb.mono HB100.out.size))
           have HO125 := Lib.hid (show X125.ownsRow W0.heap.size 3 1 (.slice (some ⟨X100.heap.size, 0, none⟩) 0 0) 0 [] from by rw [hX]; exact World.ownsRow_lit (base := W0.heap.size) (size := 1) (e := 3) X100 #[] 0 HB100.out.size (by decide) rfl)
           clear hb hX
           refine wpAny_ready (rs := [0, 3, 10]) (by kernel_rfl) (by simp) ?_
           refine AllReady.cons rfl (fun K hK => ?_) ?_
           ·
            obtain ⟨k0, k1⟩ := HS.out _ HB125.out
            go_simp
            refine hK _ _ ?_
            clear hK K
            clear k0 k1
            refine wpAny_ready (rs := [3, 10]) (by kernel_rfl) (by simp) ?_
            refine AllReady.cons rfl (fun K hK => ?_) ?_
            ·
             refine gapp_step rfl (.tmp 31) (.tmp 32) appN rfl W0.heap.size (some ⟨X100.heap.size, 0, none⟩) 0 0 [] rfl HO125.out Aa ca na (a.map (Value.int .i64)) rfl (HRa.out _ HB125.out) (by omega) HB125.out.size ?_
             intro P126 q126 X126 ho hg _
             rw [Nat.zero_add, List.nil_append] at ho
             rw [Nat.zero_add]
             have hlt : ∀ i, blk (some ⟨X100.heap.size, 0, none⟩) = some i → W0.heap.size ≤ i := fun i hi => (World.ownsRow.lt HO125.out i (by rw [own_blk]; exact hi)).1
             have HB126 := Lib.hid (HB125.out.trans (grown_below hg HB125.out.size hlt))
             have HO126 := Lib.hid ho
             have ht : Turn (fun i => blk (some ⟨X100.heap.size, 0, none⟩) = some i) X125 X126 := Turn.of_grown hg (fun i hi => .inl hi)
             clear ho hg ht hlt
             refine hK _ _ ?_
             clear hK K
             refine wpAny_ready (rs := [5, 10]) (by kernel_rfl) (by simp) ?_
             refine AllReady.cons rfl (fun K hK => ?_) ?_
             ·
              refine gapp_step rfl (.tmp 33) (.tmp 34) appN rfl W0.heap.size P126 q126 na (a.map (Value.int .i64)) rfl HO126.out Ab cb nb (b.map (Value.int .i64)) rfl (HRb.out _ HB126.out) (by omega) HB126.out.size ?_
              intro P127 q127 X127 ho hg _
              have hlt : ∀ i, blk P126 = some i → W0.heap.size ≤ i := fun i hi => (World.ownsRow.lt HO126.out i (by rw [own_blk]; exact hi)).1
              have HB127 := Lib.hid (HB126.out.trans (grown_below hg HB126.out.size hlt))
              have HO127 := Lib.hid ho
              have ht : Turn (fun i => blk P126 = some i) X126 X127 := Turn.of_grown hg (fun i hi => .inl hi)
              clear ho hg ht hlt
              refine hK _ _ ?_
              clear hK K
              refine wpAny_ready (rs := [6, 10]) (by kernel_rfl) (by simp) ?_
              refine AllReady.cons rfl (fun K hK => ?_) ?_
              ·
               have hr := HUab.out _ HB127.out P127 q127 HO127.out
               go_simp
               refine hr.mono ?_
               rintro e X128 ⟨rfl, hb⟩
               have HB128 := Lib.hid (HB127.out.trans (hb.mono HB127.out.size))
               clear hb hr
               refine hK _ _ ?_
               clear hK K
               refine wpAny_take (i := 7) (v := .tuple #[.agg #[.int .u64 (r.1 : Nat), .int .u64 (r.2 : Nat)], .int .i64 E]) rfl (by kernel_rfl) (by kernel_rfl) (by kernel_rfl) (fun _ _ _ h => nomatch h.1) (Or.inl ⟨by rfl, fun w => by go_simp⟩) ?_
               refine wpAny_take (i := 8) (v := .agg #[.int .u64 (r.1 : Nat), .int .u64 (r.2 : Nat)]) rfl (by kernel_rfl) (by kernel_rfl) (by kernel_rfl) (fun _ _ _ h => nomatch h.1) (Or.inl ⟨by rfl, fun w => by go_simp⟩) ?_
               refine wpAny_take (i := 9) (v := .int .i64 E) rfl (by kernel_rfl) (by kernel_rfl) (by kernel_rfl) (fun _ _ _ h => nomatch h.1) (Or.inl ⟨by rfl, fun w => by go_simp⟩) ?_
               refine wpAny_ready (rs := [10]) (by kernel_rfl) (by simp) ?_
               refine AllReady.cons rfl (fun K hK => ?_) AllReady.nil
               go_simp
               refine hK _ _ ?_
               clear hK K
               obtain ⟨X129, hX⟩ : ∃ X, X = X128.alloc (.cells #[.int .u64 0, .int .u64 0] 38) := ⟨_, rfl⟩
               rw [← hX]
               have hb : Below X128.heap.size X128 X129 := by rw [hX]; exact bel1 _ _
               have HB129 := Lib.hid (HB128.out.trans (hb.mono HB128.out.size))
               have HG129 := Lib.hid (show MRow X129 X128.heap.size 0 0 from by rw [hX]; exact MRow.new _ _ _)
               have hlow129 : W0.heap.size ≤ X128.heap.size := HB128.out.size
               clear hb hX
               refine wpAny_ready (rs := [11]) (by kernel_rfl) (by simp) ?_
               refine AllReady.cons rfl (fun K hK => ?_) AllReady.nil
               have k_c0 := HG129.out.cell0
               have k_c1 := HG129.out.cell1
               have k_f0 := HG129.out.frozen 0
               have k_f1 := HG129.out.frozen 1
               go_simp
               refine hK _ _ ?_
               clear hK K
               obtain ⟨X130, hX⟩ : ∃ X, X = (X129.setCell ⟨X128.heap.size, 0, none⟩ (.int .u64 (r.1 : Nat))).setCell ⟨X128.heap.size, 1, none⟩ (.int .u64 (r.2 : Nat)) := ⟨_, rfl⟩
               rw [← hX]
               have HG130 := Lib.hid (show MRow X130 X128.heap.size r.1 r.2 from by rw [hX]; exact (HG129.out.set0 r.1).set1 r.2)
               have ht : Turn (fun i => i = X128.heap.size) X129 X130 := by rw [hX]; exact (turn_set _ _ _ _).trans (turn_set _ _ _ _) (fun i hi => .inl hi)
               have HB130 := Lib.hid (HB129.out.trans (ht.below HB129.out.size (fun i hi => by have := hlow129; omega)))
               clear ht hX k_c0 k_c1 k_f0 k_f1
               refine wpAny_ready (rs := [12]) (by kernel_rfl) (by simp) ?_
               refine AllReady.cons rfl (fun K hK => ?_) AllReady.nil
               go_simp
               refine hK _ _ ?_
               clear hK K
               refine wpAny_done (by kernel_rfl) ?_ _
               exact ⟨rfl, _, _, _, _, rfl, HG130.out, HB130.out⟩
              refine AllReady.cons rfl (fun K hK => ?_) ?_
              ·
               go_simp
               refine hK _ _ ?_
               clear hK K
               obtain ⟨X131, hX⟩ : ∃ X, X = X127.alloc (.cells #[.int .u64 0, .int .u64 0] 38) := ⟨_, rfl⟩
               rw [← hX]
               have hb : Below X127.heap.size X127 X131 := by rw [hX]; exact bel1 _ _
               have HB131 := Lib.hid (HB127.out.trans (hb.mono HB127.out.size))
               have HO131 := Lib.hid (row_turn HO127.out (Turn.of_below (S := fun _ => False) hb) (fun _ _ e => e))
               have HG131 := Lib.hid (show MRow X131 X127.heap.size 0 0 from by rw [hX]; exact MRow.new _ _ _)
               have hlow131 : W0.heap.size ≤ X127.heap.size := HB127.out.size
               clear hb hX
               refine wpAny_ready (rs := [6]) (by kernel_rfl) (by simp) ?_
               refine AllReady.cons rfl (fun K hK => ?_) AllReady.nil
               have hr := HUab.out _ HB131.out P127 q127 HO131.out
               go_simp
               refine hr.mono ?_
               rintro e X132 ⟨rfl, hb⟩
               have HB132 := Lib.hid (HB131.out.trans (hb.mono HB131.out.size))
               have HG132 := Lib.hid (HG131.out.below hb HG131.out.lt)
               clear hb hr
               refine hK _ _ ?_
               clear hK K
               refine wpAny_take (i := 7) (v := .tuple #[.agg #[.int .u64 (r.1 : Nat), .int .u64 (r.2 : Nat)], .int .i64 E]) rfl (by kernel_rfl) (by kernel_rfl) (by kernel_rfl) (fun _ _ _ h => nomatch h.1) (Or.inl ⟨by rfl, fun w => by go_simp⟩) ?_
               refine wpAny_take (i := 8) (v := .agg #[.int .u64 (r.1 : Nat), .int .u64 (r.2 : Nat)]) rfl (by kernel_rfl) (by kernel_rfl) (by kernel_rfl) (fun _ _ _ h => nomatch h.1) (Or.inl ⟨by rfl, fun w => by go_simp⟩) ?_
               refine wpAny_take (i := 9) (v := .int .i64 E) rfl (by kernel_rfl) (by kernel_rfl) (by kernel_rfl) (fun _ _ _ h => nomatch h.1) (Or.inl ⟨by rfl, fun w => by go_simp⟩) ?_
               refine wpAny_ready (rs := [11]) (by kernel_rfl) (by simp) ?_
               refine AllReady.cons rfl (fun K hK => ?_) AllReady.nil
               have k_c0 := HG132.out.cell0
               have k_c1 := HG132.out.cell1
               have k_f0 := HG132.out.frozen 0
               have k_f1 := HG132.out.frozen 1
               go_simp
               refine hK _ _ ?_
               clear hK K
               obtain ⟨X133, hX⟩ : ∃ X, X = (X132.setCell ⟨X127.heap.size, 0, none⟩ (.int .u64 (r.1 : Nat))).setCell ⟨X127.heap.size, 1, none⟩ (.int .u64 (r.2 : Nat)) := ⟨_, rfl⟩
               rw [← hX]
               have HG133 := Lib.hid (show MRow X133 X127.heap.size r.1 r.2 from by rw [hX]; exact (HG132.out.set0 r.1).set1 r.2)
               have ht : Turn (fun i => i = X127.heap.size) X132 X133 := by rw [hX]; exact (turn_set _ _ _ _).trans (turn_set _ _ _ _) (fun i hi => .inl hi)
               have HB133 := Lib.hid (HB132.out.trans (ht.below HB132.out.size (fun i hi => by have := hlow131; omega)))
               clear ht hX k_c0 k_c1 k_f0 k_f1
               refine wpAny_ready (rs := [12]) (by kernel_rfl) (by simp) ?_
               refine AllReady.cons rfl (fun K hK => ?_) AllReady.nil
               go_simp
               refine hK _ _ ?_
               clear hK K
               refine wpAny_done (by kernel_rfl) ?_ _
               exact ⟨rfl, _, _, _, _, rfl, HG133.out, HB133.out⟩
              exact AllReady.nil
             refine AllReady.cons rfl (fun K hK => ?_) ?_
             ·
              go_simp
              refine hK _ _ ?_
              clear hK K
              obtain ⟨X134, hX⟩ : ∃ X, X = X126.alloc (.cells #[.int .u64 0, .int .u64 0] 38) := ⟨_, rfl⟩
              rw [← hX]
              have hb : Below X126.heap.size X126 X134 := by rw [hX]; exact bel1 _ _
              have HB134 := Lib.hid (HB126.out.trans (hb.mono HB126.out.size))
              have HO134 := Lib.hid (row_turn HO126.out (Turn.of_below (S := fun _ => False) hb) (fun _ _ e => e))
              have HG134 := Lib.hid (show MRow X134 X126.heap.size 0 0 from by rw [hX]; exact MRow.new _ _ _)
              have hlow134 : W0.heap.size ≤ X126.heap.size := HB126.out.size
              clear hb hX
              refine wpAny_ready (rs := [5]) (by kernel_rfl) (by simp) ?_
              refine AllReady.cons rfl (fun K hK => ?_) AllReady.nil
              refine gapp_step rfl (.tmp 33) (.tmp 34) appN rfl W0.heap.size P126 q126 na (a.map (Value.int .i64)) rfl HO134.out Ab cb nb (b.map (Value.int .i64)) rfl (HRb.out _ HB134.out) (by omega) HB134.out.size ?_
              intro P135 q135 X135 ho hg _
              have hlt : ∀ i, blk P126 = some i → W0.heap.size ≤ i := fun i hi => (World.ownsRow.lt HO134.out i (by rw [own_blk]; exact hi)).1
              have HB135 := Lib.hid (HB134.out.trans (grown_below hg HB134.out.size hlt))
              have HO135 := Lib.hid ho
              have ht : Turn (fun i => blk P126 = some i) X134 X135 := Turn.of_grown hg (fun i hi => .inl hi)
              have HG135 := Lib.hid (HG134.out.turn ht (row_not_mask HO134.out HG134.out))
              clear ho hg ht hlt
              refine hK _ _ ?_
              clear hK K
              refine wpAny_ready (rs := [6]) (by kernel_rfl) (by simp) ?_
              refine AllReady.cons rfl (fun K hK => ?_) AllReady.nil
              have hr := HUab.out _ HB135.out P135 q135 HO135.out
              go_simp
              refine hr.mono ?_
              rintro e X136 ⟨rfl, hb⟩
              have HB136 := Lib.hid (HB135.out.trans (hb.mono HB135.out.size))
              have HG136 := Lib.hid (HG135.out.below hb HG135.out.lt)
              clear hb hr
              refine hK _ _ ?_
              clear hK K
              refine wpAny_take (i := 7) (v := .tuple #[.agg #[.int .u64 (r.1 : Nat), .int .u64 (r.2 : Nat)], .int .i64 E]) rfl (by kernel_rfl) (by kernel_rfl) (by kernel_rfl) (fun _ _ _ h => nomatch h.1) (Or.inl ⟨by rfl, fun w => by go_simp⟩) ?_
              refine wpAny_take (i := 8) (v := .agg #[.int .u64 (r.1 : Nat), .int .u64 (r.2 : Nat)]) rfl (by kernel_rfl) (by kernel_rfl) (by kernel_rfl) (fun _ _ _ h => nomatch h.1) (Or.inl ⟨by rfl, fun w => by go_simp⟩) ?_
              refine wpAny_take (i := 9) (v := .int .i64 E) rfl (by kernel_rfl) (by kernel_rfl) (by kernel_rfl) (fun _ _ _ h => nomatch h.1) (Or.inl ⟨by rfl, fun w => by go_simp⟩) ?_
              refine wpAny_ready (rs := [11]) (by kernel_rfl) (by simp) ?_
              refine AllReady.cons rfl (fun K hK => ?_) AllReady.nil
              have k_c0 := HG136.out.cell0
              have k_c1 := HG136.out.cell1
              have k_f0 := HG136.out.frozen 0
              have k_f1 := HG136.out.frozen 1
              go_simp
              refine hK _ _ ?_
              clear hK K
              obtain ⟨X137, hX⟩ : ∃ X, X = (X136.setCell ⟨X126.heap.size, 0, none⟩ (.int .u64 (r.1 : Nat))).setCell ⟨X126.heap.size, 1, none⟩ (.int .u64 (r.2 : Nat)) := ⟨_, rfl⟩
              rw [← hX]
              have HG137 := Lib.hid (show MRow X137 X126.heap.size r.1 r.2 from by rw [hX]; exact (HG136.out.set0 r.1).set1 r.2)
              have ht : Turn (fun i => i = X126.heap.size) X136 X137 := by rw [hX]; exact (turn_set _ _ _ _).trans (turn_set _ _ _ _) (fun i hi => .inl hi)
              have HB137 := Lib.hid (HB136.out.trans (ht.below HB136.out.size (fun i hi => by have := hlow134; omega)))
              clear ht hX k_c0 k_c1 k_f0 k_f1
              refine wpAny_ready (rs := [12]) (by kernel_rfl) (by simp) ?_
              refine AllReady.cons rfl (fun K hK => ?_) AllReady.nil
              go_simp
              refine hK _ _ ?_
              clear hK K
              refine wpAny_done (by kernel_rfl) ?_ _
              exact ⟨rfl, _, _, _, _, rfl, HG137.out, HB137.out⟩
             exact AllReady.nil
            refine AllReady.cons rfl (fun K hK => ?_) ?_
            ·
             go_simp
             refine hK _ _ ?_
             clear hK K
             obtain ⟨X138, hX⟩ : ∃ X, X = X125.alloc (.cells #[.int .u64 0, .int .u64 0] 38) := ⟨_, rfl⟩
             rw [← hX]
             have hb : Below X125.heap.size X125 X138 := by rw [hX]; exact bel1 _ _
             have HB138 := Lib.hid (HB125.out.trans (hb.mono HB125.out.size))
             have HO138 := Lib.hid (row_turn HO125.out (Turn.of_below (S := fun _ => False) hb) (fun _ _ e => e))
             have HG138 := Lib.hid (show MRow X138 X125.heap.size 0 0 from by rw [hX]; exact MRow.new _ _ _)
             have hlow138 : W0.heap.size ≤ X125.heap.size := HB125.out.size
             clear hb hX
             refine wpAny_ready (rs := [3]) (by kernel_rfl) (by simp) ?_
             refine AllReady.cons rfl (fun K hK => ?_) AllReady.nil
             refine gapp_step rfl (.tmp 31) (.tmp 32) appN rfl W0.heap.size (some ⟨X100.heap.size, 0, none⟩) 0 0 [] rfl HO138.out Aa ca na (a.map (Value.int .i64)) rfl (HRa.out _ HB138.out) (by omega) HB138.out.size ?_
             intro P139 q139 X139 ho hg _
             rw [Nat.zero_add, List.nil_append] at ho
             rw [Nat.zero_add]
             have hlt : ∀ i, blk (some ⟨X100.heap.size, 0, none⟩) = some i → W0.heap.size ≤ i := fun i hi => (World.ownsRow.lt HO138.out i (by rw [own_blk]; exact hi)).1
             have HB139 := Lib.hid (HB138.out.trans (grown_below hg HB138.out.size hlt))
             have HO139 := Lib.hid ho
             have ht : Turn (fun i => blk (some ⟨X100.heap.size, 0, none⟩) = some i) X138 X139 := Turn.of_grown hg (fun i hi => .inl hi)
             have HG139 := Lib.hid (HG138.out.turn ht (row_not_mask HO138.out HG138.out))
             clear ho hg ht hlt
             refine hK _ _ ?_
             clear hK K
             refine wpAny_ready (rs := [5]) (by kernel_rfl) (by simp) ?_
             refine AllReady.cons rfl (fun K hK => ?_) AllReady.nil
             refine gapp_step rfl (.tmp 33) (.tmp 34) appN rfl W0.heap.size P139 q139 na (a.map (Value.int .i64)) rfl HO139.out Ab cb nb (b.map (Value.int .i64)) rfl (HRb.out _ HB139.out) (by omega) HB139.out.size ?_
             intro P140 q140 X140 ho hg _
             have hlt : ∀ i, blk P139 = some i → W0.heap.size ≤ i := fun i hi => (World.ownsRow.lt HO139.out i (by rw [own_blk]; exact hi)).1
             have HB140 := Lib.hid (HB139.out.trans (grown_below hg HB139.out.size hlt))
             have HO140 := Lib.hid ho
             have ht : Turn (fun i => blk P139 = some i) X139 X140 := Turn.of_grown hg (fun i hi => .inl hi)
             have HG140 := Lib.hid (HG139.out.turn ht (row_not_mask HO139.out HG139.out))
             clear ho hg ht hlt
             refine hK _ _ ?_
             clear hK K
             refine wpAny_ready (rs := [6]) (by kernel_rfl) (by simp) ?_
             refine AllReady.cons rfl (fun K hK => ?_) AllReady.nil
             have hr := HUab.out _ HB140.out P140 q140 HO140.out
             go_simp
             refine hr.mono ?_
             rintro e X141 ⟨rfl, hb⟩
             have HB141 := Lib.hid (HB140.out.trans (hb.mono HB140.out.size))
             have HG141 := Lib.hid (HG140.out.below hb HG140.out.lt)
             clear hb hr
             refine hK _ _ ?_
             clear hK K
             refine wpAny_take (i := 7) (v := .tuple #[.agg #[.int .u64 (r.1 : Nat), .int .u64 (r.2 : Nat)], .int .i64 E]) rfl (by kernel_rfl) (by kernel_rfl) (by kernel_rfl) (fun _ _ _ h => nomatch h.1) (Or.inl ⟨by rfl, fun w => by go_simp⟩) ?_
             refine wpAny_take (i := 8) (v := .agg #[.int .u64 (r.1 : Nat), .int .u64 (r.2 : Nat)]) rfl (by kernel_rfl) (by kernel_rfl) (by kernel_rfl) (fun _ _ _ h => nomatch h.1) (Or.inl ⟨by rfl, fun w => by go_simp⟩) ?_
             refine wpAny_take (i := 9) (v := .int .i64 E) rfl (by kernel_rfl) (by kernel_rfl) (by kernel_rfl) (fun _ _ _ h => nomatch h.1) (Or.inl ⟨by rfl, fun w => by go_simp⟩) ?_
             refine wpAny_ready (rs := [11]) (by kernel_rfl) (by simp) ?_
             refine AllReady.cons rfl (fun K hK => ?_) AllReady.nil
             have k_c0 := HG141.out.cell0
             have k_c1 := HG141.out.cell1
             have k_f0 := HG141.out.frozen 0
             have k_f1 := HG141.out.frozen 1
             go_simp
             refine hK _ _ ?_
             clear hK K
             obtain ⟨X142, hX⟩ : ∃ X, X = (X141.setCell ⟨X125.heap.size, 0, none⟩ (.int .u64 (r.1 : Nat))).setCell ⟨X125.heap.size, 1, none⟩ (.int .u64 (r.2 : Nat)) := ⟨_, rfl⟩
             rw [← hX]
             have HG142 := Lib.hid (show MRow X142 X125.heap.size r.1 r.2 from by rw [hX]; exact (HG141.out.set0 r.1).set1 r.2)
             have ht : Turn (fun i => i = X125.heap.size) X141 X142 := by rw [hX]; exact (turn_set _ _ _ _).trans (turn_set _ _ _ _) (fun i hi => .inl hi)
             have HB142 := Lib.hid (HB141.out.trans (ht.below HB141.out.size (fun i hi => by have := hlow138; omega)))
             clear ht hX k_c0 k_c1 k_f0 k_f1
             refine wpAny_ready (rs := [12]) (by kernel_rfl) (by simp) ?_
             refine AllReady.cons rfl (fun K hK => ?_) AllReady.nil
             go_simp
             refine hK _ _ ?_
             clear hK K
             refine wpAny_done (by kernel_rfl) ?_ _
             exact ⟨rfl, _, _, _, _, rfl, HG142.out, HB142.out⟩
            exact AllReady.nil
           refine AllReady.cons rfl (fun K hK => ?_) ?_
           ·
            refine gapp_step rfl (.tmp 31) (.tmp 32) appN rfl W0.heap.size (some ⟨X100.heap.size, 0, none⟩) 0 0 [] rfl HO125.out Aa ca na (a.map (Value.int .i64)) rfl (HRa.out _ HB125.out) (by omega) HB125.out.size ?_
            intro P143 q143 X143 ho hg _
            rw [Nat.zero_add, List.nil_append] at ho
            rw [Nat.zero_add]
            have hlt : ∀ i, blk (some ⟨X100.heap.size, 0, none⟩) = some i → W0.heap.size ≤ i := fun i hi => (World.ownsRow.lt HO125.out i (by rw [own_blk]; exact hi)).1
            have HB143 := Lib.hid (HB125.out.trans (grown_below hg HB125.out.size hlt))
            have HO143 := Lib.hid ho
            have ht : Turn (fun i => blk (some ⟨X100.heap.size, 0, none⟩) = some i) X125 X143 := Turn.of_grown hg (fun i hi => .inl hi)
            clear ho hg ht hlt
            refine hK _ _ ?_
            clear hK K
            refine wpAny_ready (rs := [0, 5, 10]) (by kernel_rfl) (by simp) ?_
            refine AllReady.cons rfl (fun K hK => ?_) ?_
            ·
             obtain ⟨k0, k1⟩ := HS.out _ HB143.out
             go_simp
             refine hK _ _ ?_
             clear hK K
             clear k0 k1
             refine wpAny_ready (rs := [5, 10]) (by kernel_rfl) (by simp) ?_
             refine AllReady.cons rfl (fun K hK => ?_) ?_
             ·
              refine gapp_step rfl (.tmp 33) (.tmp 34) appN rfl W0.heap.size P143 q143 na (a.map (Value.int .i64)) rfl HO143.out Ab cb nb (b.map (Value.int .i64)) rfl (HRb.out _ HB143.out) (by omega) HB143.out.size ?_
              intro P144 q144 X144 ho hg _
              have hlt : ∀ i, blk P143 = some i → W0.heap.size ≤ i := fun i hi => (World.ownsRow.lt HO143.out i (by rw [own_blk]; exact hi)).1
              have HB144 := Lib.hid (HB143.out.trans (grown_below hg HB143.out.size hlt))
              have HO144 := Lib.hid ho
              have ht : Turn (fun i => blk P143 = some i) X143 X144 := Turn.of_grown hg (fun i hi => .inl hi)
              clear ho hg ht hlt
              refine hK _ _ ?_
              clear hK K
              refine wpAny_ready (rs := [6, 10]) (by kernel_rfl) (by simp) ?_
              refine AllReady.cons rfl (fun K hK => ?_) ?_
              ·
               have hr := HUab.out _ HB144.out P144 q144 HO144.out
               go_simp
               refine hr.mono ?_
               rintro e X145 ⟨rfl, hb⟩
               have HB145 := Lib.hid (HB144.out.trans (hb.mono HB144.out.size))
               clear hb hr
               refine hK _ _ ?_
               clear hK K
               refine wpAny_take (i := 7) (v := .tuple #[.agg #[.int .u64 (r.1 : Nat), .int .u64 (r.2 : Nat)], .int .i64 E]) rfl (by kernel_rfl) (by kernel_rfl) (by kernel_rfl) (fun _ _ _ h => nomatch h.1) (Or.inl ⟨by rfl, fun w => by go_simp⟩) ?_
               refine wpAny_take (i := 8) (v := .agg #[.int .u64 (r.1 : Nat), .int .u64 (r.2 : Nat)]) rfl (by kernel_rfl) (by kernel_rfl) (by kernel_rfl) (fun _ _ _ h => nomatch h.1) (Or.inl ⟨by rfl, fun w => by go_simp⟩) ?_
               refine wpAny_take (i := 9) (v := .int .i64 E) rfl (by kernel_rfl) (by kernel_rfl) (by kernel_rfl) (fun _ _ _ h => nomatch h.1) (Or.inl ⟨by rfl, fun w => by go_simp⟩) ?_
               refine wpAny_ready (rs := [10]) (by kernel_rfl) (by simp) ?_
               refine AllReady.cons rfl (fun K hK => ?_) AllReady.nil
               go_simp
               refine hK _ _ ?_
               clear hK K
               obtain ⟨X146, hX⟩ : ∃ X, X = X145.alloc (.cells #[.int .u64 0, .int .u64 0] 38) := ⟨_, rfl⟩
               rw [← hX]
               have hb : Below X145.heap.size X145 X146 := by rw [hX]; exact bel1 _ _
               have HB146 := Lib.hid (HB145.out.trans (hb.mono HB145.out.size))
               have HG146 := Lib.hid (show MRow X146 X145.heap.size 0 0 from by rw [hX]; exact MRow.new _ _ _)
               have hlow146 : W0.heap.size ≤ X145.heap.size := HB145.out.size
               clear hb hX
               refine wpAny_ready (rs := [11]) (by kernel_rfl) (by simp) ?_
               refine AllReady.cons rfl (fun K hK => ?_) AllReady.nil
               have k_c0 := HG146.out.cell0
               have k_c1 := HG146.out.cell1
               have k_f0 := HG146.out.frozen 0
               have k_f1 := HG146.out.frozen 1
               go_simp
               refine hK _ _ ?_
               clear hK K
               obtain ⟨X147, hX⟩ : ∃ X, X = (X146.setCell ⟨X145.heap.size, 0, none⟩ (.int .u64 (r.1 : Nat))).setCell ⟨X145.heap.size, 1, none⟩ (.int .u64 (r.2 : Nat)) := ⟨_, rfl⟩
               rw [← hX]
               have HG147 := Lib.hid (show MRow X147 X145.heap.size r.1 r.2 from by rw [hX]; exact (HG146.out.set0 r.1).set1 r.2)
               have ht : Turn (fun i => i = X145.heap.size) X146 X147 := by rw [hX]; exact (turn_set _ _ _ _).trans (turn_set _ _ _ _) (fun i hi => .inl hi)
               have HB147 := Lib.hid (HB146.out.trans (ht.below HB146.out.size (fun i hi => by have := hlow146; omega)))
               clear ht hX k_c0 k_c1 k_f0 k_f1
               refine wpAny_ready (rs := [12]) (by kernel_rfl) (by simp) ?_
               refine AllReady.cons rfl (fun K hK => ?_) AllReady.nil
               go_simp
               refine hK _ _ ?_
               clear hK K
               refine wpAny_done (by kernel_rfl) ?_ _
               exact ⟨rfl, _, _, _, _, rfl, HG147.out, HB147.out⟩
              refine AllReady.cons rfl (fun K hK => ?_) ?_
              ·
               go_simp
               refine hK _ _ ?_
               clear hK K
               obtain ⟨X148, hX⟩ : ∃ X, X = X144.alloc (.cells #[.int .u64 0, .int .u64 0] 38) := ⟨_, rfl⟩
               rw [← hX]
               have hb : Below X144.heap.size X144 X148 := by rw [hX]; exact bel1 _ _
               have HB148 := Lib.hid (HB144.out.trans (hb.mono HB144.out.size))
               have HO148 := Lib.hid (row_turn HO144.out (Turn.of_below (S := fun _ => False) hb) (fun _ _ e => e))
               have HG148 := Lib.hid (show MRow X148 X144.heap.size 0 0 from by rw [hX]; exact MRow.new _ _ _)
               have hlow148 : W0.heap.size ≤ X144.heap.size := HB144.out.size
               clear hb hX
               refine wpAny_ready (rs := [6]) (by kernel_rfl) (by simp) ?_
               refine AllReady.cons rfl (fun K hK => ?_) AllReady.nil
               have hr := HUab.out _ HB148.out P144 q144 HO148.out
               go_simp
               refine hr.mono ?_
               rintro e X149 ⟨rfl, hb⟩
               have HB149 := Lib.hid (HB148.out.trans (hb.mono HB148.out.size))
               have HG149 := Lib.hid (HG148.out.below hb HG148.out.lt)
               clear hb hr
               refine hK _ _ ?_
               clear hK K
               refine wpAny_take (i := 7) (v := .tuple #[.agg #[.int .u64 (r.1 : Nat), .int .u64 (r.2 : Nat)], .int .i64 E]) rfl (by kernel_rfl) (by kernel_rfl) (by kernel_rfl) (fun _ _ _ h => nomatch h.1) (Or.inl ⟨by rfl, fun w => by go_simp⟩) ?_
               refine wpAny_take (i := 8) (v := .agg #[.int .u64 (r.1 : Nat), .int .u64 (r.2 : Nat)]) rfl (by kernel_rfl) (by kernel_rfl) (by kernel_rfl) (fun _ _ _ h => nomatch h.1) (Or.inl ⟨by rfl, fun w => by go_simp⟩) ?_
               refine wpAny_take (i := 9) (v := .int .i64 E) rfl (by kernel_rfl) (by kernel_rfl) (by kernel_rfl) (fun _ _ _ h => nomatch h.1) (Or.inl ⟨by rfl, fun w => by go_simp⟩) ?_
               refine wpAny_ready (rs := [11]) (by kernel_rfl) (by simp) ?_
               refine AllReady.cons rfl (fun K hK => ?_) AllReady.nil
               have k_c0 := HG149.out.cell0
               have k_c1 := HG149.out.cell1
               have k_f0 := HG149.out.frozen 0
               have k_f1 := HG149.out.frozen 1
               go_simp
               refine hK _ _ ?_
               clear hK K
               obtain ⟨X150, hX⟩ : ∃ X, X = (X149.setCell ⟨X144.heap.size, 0, none⟩ (.int .u64 (r.1 : Nat))).setCell ⟨X144.heap.size, 1, none⟩ (.int .u64 (r.2 : Nat)) := ⟨_, rfl⟩
               rw [← hX]
               have HG150 := Lib.hid (show MRow X150 X144.heap.size r.1 r.2 from by rw [hX]; exact (HG149.out.set0 r.1).set1 r.2)
               have ht : Turn (fun i => i = X144.heap.size) X149 X150 := by rw [hX]; exact (turn_set _ _ _ _).trans (turn_set _ _ _ _) (fun i hi => .inl hi)
               have HB150 := Lib.hid (HB149.out.trans (ht.below HB149.out.size (fun i hi => by have := hlow148; omega)))
               clear ht hX k_c0 k_c1 k_f0 k_f1
               refine wpAny_ready (rs := [12]) (by kernel_rfl) (by simp) ?_
               refine AllReady.cons rfl (fun K hK => ?_) AllReady.nil
               go_simp
               refine hK _ _ ?_
               clear hK K
               refine wpAny_done (by kernel_rfl) ?_ _
               exact ⟨rfl, _, _, _, _, rfl, HG150.out, HB150.out⟩
              exact AllReady.nil
             refine AllReady.cons rfl (fun K hK => ?_) ?_
             ·
              go_simp
              refine hK _ _ ?_
              clear hK K
              obtain ⟨X151, hX⟩ : ∃ X, X = X143.alloc (.cells #[.int .u64 0, .int .u64 0] 38) := ⟨_, rfl⟩
              rw [← hX]
              have hb : Below X143.heap.size X143 X151 := by rw [hX]; exact bel1 _ _
              have HB151 := Lib.hid (HB143.out.trans (hb.mono HB143.out.size))
              have HO151 := Lib.hid (row_turn HO143.out (Turn.of_below (S := fun _ => False) hb) (fun _ _ e => e))
              have HG151 := Lib.hid (show MRow X151 X143.heap.size 0 0 from by rw [hX]; exact MRow.new _ _ _)
              have hlow151 : W0.heap.size ≤ X143.heap.size := HB143.out.size
              clear hb hX
              refine wpAny_ready (rs := [5]) (by kernel_rfl) (by simp) ?_
              refine AllReady.cons rfl (fun K hK => ?_) AllReady.nil
              refine gapp_step rfl (.tmp 33) (.tmp 34) appN rfl W0.heap.size P143 q143 na (a.map (Value.int .i64)) rfl HO151.out Ab cb nb (b.map (Value.int .i64)) rfl (HRb.out _ HB151.out) (by omega) HB151.out.size ?_
              intro P152 q152 X152 ho hg _
              have hlt : ∀ i, blk P143 = some i → W0.heap.size ≤ i := fun i hi => (World.ownsRow.lt HO151.out i (by rw [own_blk]; exact hi)).1
              have HB152 := Lib.hid (HB151.out.trans (grown_below hg HB151.out.size hlt))
              have HO152 := Lib.hid ho
              have ht : Turn (fun i => blk P143 = some i) X151 X152 := Turn.of_grown hg (fun i hi => .inl hi)
              have HG152 := Lib.hid (HG151.out.turn ht (row_not_mask HO151.out HG151.out))
              clear ho hg ht hlt
              refine hK _ _ ?_
              clear hK K
              refine wpAny_ready (rs := [6]) (by kernel_rfl) (by simp) ?_
              refine AllReady.cons rfl (fun K hK => ?_) AllReady.nil
              have hr := HUab.out _ HB152.out P152 q152 HO152.out
              go_simp
              refine hr.mono ?_
              rintro e X153 ⟨rfl, hb⟩
              have HB153 := Lib.hid (HB152.out.trans (hb.mono HB152.out.size))
              have HG153 := Lib.hid (HG152.out.below hb HG152.out.lt)
              clear hb hr
              refine hK _ _ ?_
              clear hK K
              refine wpAny_take (i := 7) (v := .tuple #[.agg #[.int .u64 (r.1 : Nat), .int .u64 (r.2 : Nat)], .int .i64 E]) rfl (by kernel_rfl) (by kernel_rfl) (by kernel_rfl) (fun _ _ _ h => nomatch h.1) (Or.inl ⟨by rfl, fun w => by go_simp⟩) ?_
              refine wpAny_take (i := 8) (v := .agg #[.int .u64 (r.1 : Nat), .int .u64 (r.2 : Nat)]) rfl (by kernel_rfl) (by kernel_rfl) (by kernel_rfl) (fun _ _ _ h => nomatch h.1) (Or.inl ⟨by rfl, fun w => by go_simp⟩) ?_
              refine wpAny_take (i := 9) (v := .int .i64 E) rfl (by kernel_rfl) (by kernel_rfl) (by kernel_rfl) (fun _ _ _ h => nomatch h.1) (Or.inl ⟨by rfl, fun w => by go_simp⟩) ?_
              refine wpAny_ready (rs := [11]) (by kernel_rfl) (by simp) ?_
              refine AllReady.cons rfl (fun K hK => ?_) AllReady.nil
              have k_c0 := HG153.out.cell0
              have k_c1 := HG153.out.cell1
              have k_f0 := HG153.out.frozen 0
              have k_f1 := HG153.out.frozen 1
              go_simp
              refine hK _ _ ?_
              clear hK K
              obtain ⟨X154, hX⟩ : ∃ X, X = (X153.setCell ⟨X143.heap.size, 0, none⟩ (.int .u64 (r.1 : Nat))).setCell ⟨X143.heap.size, 1, none⟩ (.int .u64 (r.2 : Nat)) := ⟨_, rfl⟩
              rw [← hX]
              have HG154 := Lib.hid (show MRow X154 X143.heap.size r.1 r.2 from by rw [hX]; exact (HG153.out.set0 r.1).set1 r.2)
              have ht : Turn (fun i => i = X143.heap.size) X153 X154 := by rw [hX]; exact (turn_set _ _ _ _).trans (turn_set _ _ _ _) (fun i hi => .inl hi)
              have HB154 := Lib.hid (HB153.out.trans (ht.below HB153.out.size (fun i hi => by have := hlow151; omega)))
              clear ht hX k_c0 k_c1 k_f0 k_f1
              refine wpAny_ready (rs := [12]) (by kernel_rfl) (by simp) ?_
              refine AllReady.cons rfl (fun K hK => ?_) AllReady.nil
              go_simp
              refine hK _ _ ?_
              clear hK K
              refine wpAny_done (by kernel_rfl) ?_ _
              exact ⟨rfl, _, _, _, _, rfl, HG154.out, HB154.out⟩
             exact AllReady.nil
            refine AllReady.cons rfl (fun K hK => ?_) ?_
            ·
             refine gapp_step rfl (.tmp 33) (.tmp 34) appN rfl W0.heap.size P143 q143 na (a.map (Value.int .i64)) rfl HO143.out Ab cb nb (b.map (Value.int .i64)) rfl (HRb.out _ HB143.out) (by omega) HB143.out.size ?_
             intro P155 q155 X155 ho hg _
             have hlt : ∀ i, blk P143 = some i → W0.heap.size ≤ i := fun i hi => (World.ownsRow.lt HO143.out i (by rw [own_blk]; exact hi)).1
             have HB155 := Lib.hid (HB143.out.trans (grown_below hg HB143.out.size hlt))
             have HO155 := Lib.hid ho
             have ht : Turn (fun i => blk P143 = some i) X143 X155 := Turn.of_grown hg (fun i hi => .inl hi)
             clear ho hg ht hlt
             refine hK _ _ ?_
             clear hK K
             refine wpAny_ready (rs := [0, 10]) (by kernel_rfl) (by simp) ?_
             refine AllReady.cons rfl (fun K hK => ?_) ?_
             ·
              obtain ⟨k0, k1⟩ := HS.out _ HB155.out
              go_simp
              refine hK _ _ ?_
              clear hK K
              clear k0 k1
              refine wpAny_ready (rs := [6, 10]) (by kernel_rfl) (by simp) ?_
              refine AllReady.cons rfl (fun K hK => ?_) ?_
              ·
               have hr := HUab.out _ HB155.out P155 q155 HO155.out
               go_simp
               refine hr.mono ?_
               rintro e X156 ⟨rfl, hb⟩
               have HB156 := Lib.hid (HB155.out.trans (hb.mono HB155.out.size))
               clear hb hr
               refine hK _ _ ?_
               clear hK K
               refine wpAny_take (i := 7) (v := .tuple #[.agg #[.int .u64 (r.1 : Nat), .int .u64 (r.2 : Nat)], .int .i64 E]) rfl (by kernel_rfl) (by kernel_rfl) (by kernel_rfl) (fun _ _ _ h => nomatch h.1) (Or.inl ⟨by rfl, fun w => by go_simp⟩) ?_
               refine wpAny_take (i := 8) (v := .agg #[.int .u64 (r.1 : Nat), .int .u64 (r.2 : Nat)]) rfl (by kernel_rfl) (by kernel_rfl) (by kernel_rfl) (fun _ _ _ h => nomatch h.1) (Or.inl ⟨by rfl, fun w => by go_simp⟩) ?_
               refine wpAny_take (i := 9) (v := .int .i64 E) rfl (by kernel_rfl) (by kernel_rfl) (by kernel_rfl) (fun _ _ _ h => nomatch h.1) (Or.inl ⟨by rfl, fun w => by go_simp⟩) ?_
               refine wpAny_ready (rs := [10]) (by kernel_rfl) (by simp) ?_
               refine AllReady.cons rfl (fun K hK => ?_) AllReady.nil
               go_simp
               refine hK _ _ ?_
               clear hK K
               obtain ⟨X157, hX⟩ : ∃ X, X = X156.alloc (.cells #[.int .u64 0, .int .u64 0] 38) := ⟨_, rfl⟩
               rw [← hX]
               have hb : Below X156.heap.size X156 X157 := by rw [hX]; exact bel1 _ _
               have HB157 := Lib.hid (HB156.out.trans (hb.mono HB156.out.size))
               have HG157 := Lib.hid (show MRow X157 X156.heap.size 0 0 from by rw [hX]; exact MRow.new _ _ _)
               have hlow157 : W0.heap.size ≤ X156.heap.size := HB156.out.size
               clear hb hX
               refine wpAny_ready (rs := [11]) (by kernel_rfl) (by simp) ?_
               refine AllReady.cons rfl (fun K hK => ?_) AllReady.nil
               have k_c0 := HG157.out.cell0
               have k_c1 := HG157.out.cell1
               have k_f0 := HG157.out.frozen 0
               have k_f1 := HG157.out.frozen 1
               go_simp
               refine hK _ _ ?_
               clear hK K
               obtain ⟨X158, hX⟩ : ∃ X, X = (X157.setCell ⟨X156.heap.size, 0, none⟩ (.int .u64 (r.1 : Nat))).setCell ⟨X156.heap.size, 1, none⟩ (.int .u64 (r.2 : Nat)) := ⟨_, rfl⟩
               rw [← hX]
               have HG158 := Lib.hid (show MRow X158 X156.heap.size r.1 r.2 from by rw [hX]; exact (HG157.out.set0 r.1).set1 r.2)
               have ht : Turn (fun i => i = X156.heap.size) X157 X158 := by rw [hX]; exact (turn_set _ _ _ _).trans (turn_set _ _ _ _) (fun i hi => .inl hi)
               have HB158 := Lib.hid (HB157.out.trans (ht.below HB157.out.size (fun i hi => by have := hlow157; omega)))
               clear ht hX k_c0 k_c1 k_f0 k_f1
               refine wpAny_ready (rs := [12]) (by kernel_rfl) (by simp) ?_
               refine AllReady.cons rfl (fun K hK => ?_) AllReady.nil
               go_simp
               refine hK _ _ ?_
               clear hK K
               refine wpAny_done (by kernel_rfl) ?_ _
               exact ⟨rfl, _, _, _, _, rfl, HG158.out, HB158.out⟩
              refine AllReady.cons rfl (fun K hK => ?_) ?_
              ·
               go_simp
               refine hK _ _ ?_
               clear hK K
               obtain ⟨X159, hX⟩ : ∃ X, X = X155.alloc (.cells #[.int .u64 0, .int .u64 0] 38) := ⟨_, rfl⟩
               rw [← hX]
               have hb : Below X155.heap.size X155 X159 := by rw [hX]; exact bel1 _ _
               have HB159 := Lib.hid (HB155.out.trans (hb.mono HB155.out.size))
               have HO159 := Lib.hid (row_turn HO155.out (Turn.of_below (S := fun _ => False) hb) (fun _ _ e => e))
               have HG159 := Lib.hid (show MRow X159 X155.heap.size 0 0 from by rw [hX]; exact MRow.new _ _ _)
               have hlow159 : W0.heap.size ≤ X155.heap.size := HB155.out.size
               clear hb hX
               refine wpAny_ready (rs := [6]) (by kernel_rfl) (by simp) ?_
               refine AllReady.cons rfl (fun K hK => ?_) AllReady.nil
               have hr := HUab.out _ HB159.out P155 q155 HO159.out
               go_simp
               refine hr.mono ?_
               rintro e X160 ⟨rfl, hb⟩
               have HB160 := Lib.hid (HB159.out.trans (hb.mono HB159.out.size))
               have HG160 := Lib.hid (HG159.out.below hb HG159.out.lt)
               clear hb hr
               refine hK _ _ ?_
               clear hK K
               refine wpAny_take (i := 7) (v := .tuple #[.agg #[.int .u64 (r.1 : Nat), .int .u64 (r.2 : Nat)], .int .i64 E]) rfl (by kernel_rfl) (by kernel_rfl) (by kernel_rfl) (fun _ _ _ h => nomatch h.1) (Or.inl ⟨by rfl, fun w => by go_simp⟩) ?_
               refine wpAny_take (i := 8) (v := .agg #[.int .u64 (r.1 : Nat), .int .u64 (r.2 : Nat)]) rfl (by kernel_rfl) (by kernel_rfl) (by kernel_rfl) (fun _ _ _ h => nomatch h.1) (Or.inl ⟨by rfl, fun w => by go_simp⟩) ?_
               refine wpAny_take (i := 9) (v := .int .i64 E) rfl (by kernel_rfl) (by kernel_rfl) (by kernel_rfl) (fun _ _ _ h => nomatch h.1) (Or.inl ⟨by rfl, fun w => by go_simp⟩) ?_
               refine wpAny_ready (rs := [11]) (by kernel_rfl) (by simp) ?_
               refine AllReady.cons rfl (fun K hK => ?_) AllReady.nil
               have k_c0 := HG160.out.cell0
               have k_c1 := HG160.out.cell1
               have k_f0 := HG160.out.frozen 0
               have k_f1 := HG160.out.frozen 1
               go_simp
               refine hK _ _ ?_
               clear hK K
               obtain ⟨X161, hX⟩ : ∃ X, X = (X160.setCell ⟨X155.heap.size, 0, none⟩ (.int .u64 (r.1 : Nat))).setCell ⟨X155.heap.size, 1, none⟩ (.int .u64 (r.2 : Nat)) := ⟨_, rfl⟩
               rw [← hX]
               have HG161 := Lib.hid (show MRow X161 X155.heap.size r.1 r.2 from by rw [hX]; exact (HG160.out.set0 r.1).set1 r.2)
               have ht : Turn (fun i => i = X155.heap.size) X160 X161 := by rw [hX]; exact (turn_set _ _ _ _).trans (turn_set _ _ _ _) (fun i hi => .inl hi)
               have HB161 := Lib.hid (HB160.out.trans (ht.below HB160.out.size (fun i hi => by have := hlow159; omega)))
               clear ht hX k_c0 k_c1 k_f0 k_f1
               refine wpAny_ready (rs := [12]) (by kernel_rfl) (by simp) ?_
               refine AllReady.cons rfl (fun K hK => ?_) AllReady.nil
               go_simp
               refine hK _ _ ?_
               clear hK K
               refine wpAny_done (by kernel_rfl) ?_ _
               exact ⟨rfl, _, _, _, _, rfl, HG161.out, HB161.out⟩
              exact AllReady.nil
             refine AllReady.cons rfl (fun K hK => ?_) ?_
             ·
              go_simp
              refine hK _ _ ?_
              clear hK K
              obtain ⟨X162, hX⟩ : ∃ X, X = X155.alloc (.cells #[.int .u64 0, .int .u64 0] 38) := ⟨_, rfl⟩
              rw [← hX]
              have hb : Below X155.heap.size X155 X162 := by rw [hX]; exact bel1 _ _
              have HB162 := Lib.hid (HB155.out.trans (hb.mono HB155.out.size))
              have HO162 := Lib.hid (row_turn HO155.out (Turn.of_below (S := fun _ => False) hb) (fun _ _ e => e))
              have HG162 := Lib.hid (show MRow X162 X155.heap.size 0 0 from by rw [hX]; exact MRow.new _ _ _)
              have hlow162 : W0.heap.size ≤ X155.heap.size := HB155.out.size
              clear hb hX
              refine wpAny_ready (rs := [0]) (by kernel_rfl) (by simp) ?_
              refine AllReady.cons rfl (fun K hK => ?_) AllReady.nil
              obtain ⟨k0, k1⟩ := HS.out _ HB162.out
              go_simp
              refine hK _ _ ?_
              clear hK K
              clear k0 k1
              refine wpAny_ready (rs := [6]) (by kernel_rfl) (by simp) ?_
              refine AllReady.cons rfl (fun K hK => ?_) AllReady.nil
              have hr := HUab.out _ HB162.out P155 q155 HO162.out
              go_simp
              refine hr.mono ?_
              rintro e X163 ⟨rfl, hb⟩
              have HB163 := Lib.hid (HB162.out.trans (hb.mono HB162.out.size))
              have HG163 := Lib.hid (HG162.out.below hb HG162.out.lt)
              clear hb hr
              refine hK _ _ ?_
              clear hK K
              refine wpAny_take (i := 7) (v := .tuple #[.agg #[.int .u64 (r.1 : Nat), .int .u64 (r.2 : Nat)], .int .i64 E]) rfl (by kernel_rfl) (by kernel_rfl) (by kernel_rfl) (fun _ _ _ h => nomatch h.1) (Or.inl ⟨by rfl, fun w => by go_simp⟩) ?_
              refine wpAny_take (i := 8) (v := .agg #[.int .u64 (r.1 : Nat), .int .u64 (r.2 : Nat)]) rfl (by kernel_rfl) (by kernel_rfl) (by kernel_rfl) (fun _ _ _ h => nomatch h.1) (Or.inl ⟨by rfl, fun w => by go_simp⟩) ?_
              refine wpAny_take (i := 9) (v := .int .i64 E) rfl (by kernel_rfl) (by kernel_rfl) (by kernel_rfl) (fun _ _ _ h => nomatch h.1) (Or.inl ⟨by rfl, fun w => by go_simp⟩) ?_
              refine wpAny_ready (rs := [11]) (by kernel_rfl) (by simp) ?_
              refine AllReady.cons rfl (fun K hK => ?_) AllReady.nil
              have k_c0 := HG163.out.cell0
              have k_c1 := HG163.out.cell1
              have k_f0 := HG163.out.frozen 0
              have k_f1 := HG163.out.frozen 1
              go_simp
              refine hK _ _ ?_
              clear hK K
              obtain ⟨X164, hX⟩ : ∃ X, X = (X163.setCell ⟨X155.heap.size, 0, none⟩ (.int .u64 (r.1 : Nat))).setCell ⟨X155.heap.size, 1, none⟩ (.int .u64 (r.2 : Nat)) := ⟨_, rfl⟩
              rw [← hX]
              have HG164 := Lib.hid (show MRow X164 X155.heap.size r.1 r.2 from by rw [hX]; exact (HG163.out.set0 r.1).set1 r.2)
              have ht : Turn (fun i => i = X155.heap.size) X163 X164 := by rw [hX]; exact (turn_set _ _ _ _).trans (turn_set _ _ _ _) (fun i hi => .inl hi)
              have HB164 := Lib.hid (HB163.out.trans (ht.below HB163.out.size (fun i hi => by have := hlow162; omega)))
              clear ht hX k_c0 k_c1 k_f0 k_f1
              refine wpAny_ready (rs := [12]) (by kernel_rfl) (by simp) ?_
              refine AllReady.cons rfl (fun K hK => ?_) AllReady.nil
              go_simp
              refine hK _ _ ?_
              clear hK K
              refine wpAny_done (by kernel_rfl) ?_ _
              exact ⟨rfl, _, _, _, _, rfl, HG164.out, HB164.out⟩
             exact AllReady.nil
            refine AllReady.cons rfl (fun K hK => ?_) ?_
            ·
             go_simp
             refine hK _ _ ?_
             clear hK K
             obtain ⟨X165, hX⟩ : ∃ X, X = X143.alloc (.cells #[.int .u64 0, .int .u64 0] 38) := ⟨_, rfl⟩
             rw [← hX]
             have hb : Below X143.heap.size X143 X165 := by rw [hX]; exact bel1 _ _
             have HB165 := Lib.hid (HB143.out.trans (hb.mono HB143.out.size))
             have HO165 := Lib.hid (row_turn HO143.out (Turn.of_below (S := fun _ => False) hb) (fun _ _ e => e))
             have HG165 := Lib.hid (show MRow X165 X143.heap.size 0 0 from by rw [hX]; exact MRow.new _ _ _)
             have hlow165 : W0.heap.size ≤ X143.heap.size := HB143.out.size
             clear hb hX
             refine wpAny_ready (rs := [0, 5]) (by kernel_rfl) (by simp) ?_
             refine AllReady.cons rfl (fun K hK => ?_) ?_
             ·
              obtain ⟨k0, k1⟩ := HS.out _ HB165.out
              go_simp
              refine hK _ _ ?_
              clear hK K
              clear k0 k1
              refine wpAny_ready (rs := [5]) (by kernel_rfl) (by simp) ?_
              refine AllReady.cons rfl (fun K hK => ?_) AllReady.nil
              refine gapp_step rfl (.tmp 33) (.tmp 34) appN rfl W0.heap.size P143 q143 na (a.map (Value.int .i64)) rfl HO165.out Ab cb nb (b.map (Value.int .i64)) rfl (HRb.out _ HB165.out) (by omega) HB165.out.size ?_
              intro P166 q166 X166 ho hg _
              have hlt : ∀ i, blk P143 = some i → W0.heap.size ≤ i := fun i hi => (World.ownsRow.lt HO165.out i (by rw [own_blk]; exact hi)).1
              have HB166 := Lib.hid (HB165.out.trans (grown_below hg HB165.out.size hlt))
              have HO166 := Lib.hid ho
              have ht : Turn (fun i => blk P143 = some i) X165 X166 := Turn.of_grown hg (fun i hi => .inl hi)
              have HG166 := Lib.hid (HG165.out.turn ht (row_not_mask HO165.out HG165.out))
              clear ho hg ht hlt
              refine hK _ _ ?_
              clear hK K
              refine wpAny_ready (rs := [6]) (by kernel_rfl) (by simp) ?_
              refine AllReady.cons rfl (fun K hK => ?_) AllReady.nil
              have hr := HUab.out _ HB166.out P166 q166 HO166.out
              go_simp
              refine hr.mono ?_
              rintro e X167 ⟨rfl, hb⟩
              have HB167 := Lib.hid (HB166.out.trans (hb.mono HB166.out.size))
              have HG167 := Lib.hid (HG166.out.below hb HG166.out.lt)
              clear hb hr
              refine hK _ _ ?_
              clear hK K
              refine wpAny_take (i := 7) (v := .tuple #[.agg #[.int .u64 (r.1 : Nat), .int .u64 (r.2 : Nat)], .int .i64 E]) rfl (by kernel_rfl) (by kernel_rfl) (by kernel_rfl) (fun _ _ _ h => nomatch h.1) (Or.inl ⟨by rfl, fun w => by go_simp⟩) ?_
              refine wpAny_take (i := 8) (v := .agg #[.int .u64 (r.1 : Nat), .int .u64 (r.2 : Nat)]) rfl (by kernel_rfl) (by kernel_rfl) (by kernel_rfl) (fun _ _ _ h => nomatch h.1) (Or.inl ⟨by rfl, fun w => by go_simp⟩) ?_
              refine wpAny_take (i := 9) (v := .int .i64 E) rfl (by kernel_rfl) (by kernel_rfl) (by kernel_rfl) (fun _ _ _ h => nomatch h.1) (Or.inl ⟨by rfl, fun w => by go_simp⟩) ?_
              refine wpAny_ready (rs := [11]) (by kernel_rfl) (by simp) ?_
              refine AllReady.cons rfl (fun K hK => ?_) AllReady.nil
              have k_c0 := HG167.out.cell0
              have k_c1 := HG167.out.cell1
              have k_f0 := HG167.out.frozen 0
              have k_f1 := HG167.out.frozen 1
              go_simp
              refine hK _ _ ?_
              clear hK K
              obtain ⟨X168, hX⟩ : ∃ X, X = (X167.setCell ⟨X143.heap.size, 0, none⟩ (.int .u64 (r.1 : Nat))).setCell ⟨X143.heap.size, 1, none⟩ (.int .u64 (r.2 : Nat)) := ⟨_, rfl⟩
              rw [← hX]
              have HG168 := Lib.hid (show MRow X168 X143.heap.size r.1 r.2 from by rw [hX]; exact (HG167.out.set0 r.1).set1 r.2)
              have ht : Turn (fun i => i = X143.heap.size) X167 X168 := by rw [hX]; exact (turn_set _ _ _ _).trans (turn_set _ _ _ _) (fun i hi => .inl hi)
              have HB168 := Lib.hid (HB167.out.trans (ht.below HB167.out.size (fun i hi => by have := hlow165; omega)))
              clear ht hX k_c0 k_c1 k_f0 k_f1
              refine wpAny_ready (rs := [12]) (by kernel_rfl) (by simp) ?_
              refine AllReady.cons rfl (fun K hK => ?_) AllReady.nil
              go_simp
              refine hK _ _ ?_
              clear hK K
              refine wpAny_done (by kernel_rfl) ?_ _
              exact ⟨rfl, _, _, _, _, rfl, HG168.out, HB168.out⟩
             refine AllReady.cons rfl (fun K hK => ?_) ?_
             ·
              refine gapp_step rfl (.tmp 33) (.tmp 34) appN rfl W0.heap.size P143 q143 na (a.map (Value.int .i64)) rfl HO165.out Ab cb nb (b.map (Value.int .i64)) rfl (HRb.out _ HB165.out) (by omega) HB165.out.size ?_
              intro P169 q169 X169 ho hg _
              have hlt : ∀ i, blk P143 = some i → W0.heap.size ≤ i := fun i hi => (World.ownsRow.lt HO165.out i (by rw [own_blk]; exact hi)).1
              have HB169 := Lib.hid (HB165.out.trans (grown_below hg HB165.out.size hlt))
              have HO169 := Lib.hid ho
              have ht : Turn (fun i => blk P143 = some i) X165 X169 := Turn.of_grown hg (fun i hi => .inl hi)
              have HG169 := Lib.hid (HG165.out.turn ht (row_not_mask HO165.out HG165.out))
              clear ho hg ht hlt
              refine hK _ _ ?_
              clear hK K
              refine wpAny_ready (rs := [0]) (by kernel_rfl) (by simp) ?_
              refine AllReady.cons rfl (fun K hK => ?_) AllReady.nil
              obtain ⟨k0, k1⟩ := HS.out _ HB169.out
              go_simp
              refine hK _ _ ?_
              clear hK K
              clear k0 k1
              refine wpAny_ready (rs := [6]) (by kernel_rfl) (by simp) ?_
              refine AllReady.cons rfl (fun K hK => ?_) AllReady.nil
              have hr := HUab.out _ HB169.out P169 q169 HO169.out
              go_simp
              refine hr.mono ?_
              rintro e X170 ⟨rfl, hb⟩
              have HB170 := Lib.hid (HB169.out.trans (hb.mono HB169.out.size))
              have HG170 := Lib.hid (HG169.out.below hb HG169.out.lt)
              clear hb hr
              refine hK _ _ ?_
              clear hK K
              refine wpAny_take (i := 7) (v := .tuple #[.agg #[.int .u64 (r.1 : Nat), .int .u64 (r.2 : Nat)], .int .i64 E]) rfl (by kernel_rfl) (by kernel_rfl) (by kernel_rfl) (fun _ _ _ h => nomatch h.1) (Or.inl ⟨by rfl, fun w => by go_simp⟩) ?_
              refine wpAny_take (i := 8) (v := .agg #[.int .u64 (r.1 : Nat), .int .u64 (r.2 : Nat)]) rfl (by kernel_rfl) (by kernel_rfl) (by kernel_rfl) (fun _ _ _ h => nomatch h.1) (Or.inl ⟨by rfl, fun w => by go_simp⟩) ?_
              refine wpAny_take (i := 9) (v := .int .i64 E) rfl (by kernel_rfl) (by kernel_rfl) (by kernel_rfl) (fun _ _ _ h => nomatch h.1) (Or.inl ⟨by rfl, fun w => by go_simp⟩) ?_
              refine wpAny_ready (rs := [11]) (by kernel_rfl) (by simp) ?_
              refine AllReady.cons rfl (fun K hK => ?_) AllReady.nil
              have k_c0 := HG170.out.cell0
              have k_c1 := HG170.out.cell1
              have k_f0 := HG170.out.frozen 0
              have k_f1 := HG170.out.frozen 1
              go_simp
              refine hK _ _ ?_
              clear hK K
              obtain ⟨X171, hX⟩ : ∃ X, X = (X170.setCell ⟨X143.heap.size, 0, none⟩ (.int .u64 (r.1 : Nat))).setCell ⟨X143.heap.size, 1, none⟩ (.int .u64 (r.2 : Nat)) := ⟨_, rfl⟩
              rw [← hX]
              have HG171 := Lib.hid (show MRow X171 X143.heap.size r.1 r.2 from by rw [hX]; exact (HG170.out.set0 r.1).set1 r.2)
              have ht : Turn (fun i => i = X143.heap.size) X170 X171 := by rw [hX]; exact (turn_set _ _ _ _).trans (turn_set _ _ _ _) (fun i hi => .inl hi)
              have HB171 := Lib.hid (HB170.out.trans (ht.below HB170.out.size (fun i hi => by have := hlow165; omega)))
              clear ht hX k_c0 k_c1 k_f0 k_f1
              refine wpAny_ready (rs := [12]) (by kernel_rfl) (by simp) ?_
              refine AllReady.cons rfl (fun K hK => ?_) AllReady.nil
              go_simp
              refine hK _ _ ?_
              clear hK K
              refine wpAny_done (by kernel_rfl) ?_ _
              exact ⟨rfl, _, _, _, _, rfl, HG171.out, HB171.out⟩
             exact AllReady.nil
            exact AllReady.nil
           refine AllReady.cons rfl (fun K hK => ?_) ?_
           ·
            go_simp
            refine hK _ _ ?_
            clear hK K
            obtain ⟨X172, hX⟩ : ∃ X, X = X125.alloc (.cells #[.int .u64 0, .int .u64 0] 38) := ⟨_, rfl⟩
            rw [← hX]
            have hb : Below X125.heap.size X125 X172 := by rw [hX]; exact bel1 _ _
            have HB172 := Lib.hid (HB125.out.trans (hb.mono HB125.out.size))
            have HO172 := Lib.hid (row_turn HO125.out (Turn.of_below (S := fun _ => False) hb) (fun _ _ e => e))
            have HG172 := Lib.hid (show MRow X172 X125.heap.size 0 0 from by rw [hX]; exact MRow.new _ _ _)
            have hlow172 : W0.heap.size ≤ X125.heap.size := HB125.out.size
            clear hb hX
            refine wpAny_ready (rs := [0, 3]) (by kernel_rfl) (by simp) ?_
            refine AllReady.cons rfl (fun K hK => ?_) ?_
            ·
             obtain ⟨k0, k1⟩ := HS.out _ HB172.out
             go_simp
             refine hK _ _ ?_
             clear hK K
             clear k0 k1
             refine wpAny_ready (rs := [3]) (by kernel_rfl) (by simp) ?_
             refine AllReady.cons rfl (fun K hK => ?_) AllReady.nil
             refine gapp_step rfl (.tmp 31) (.tmp 32) appN rfl W0.heap.size (some ⟨X100.heap.size, 0, none⟩) 0 0 [] rfl HO172.out Aa ca na (a.map (Value.int .i64)) rfl (HRa.out _ HB172.out) (by omega) HB172.out.size ?_
             intro P173 q173 X173 ho hg _
             rw [Nat.zero_add, List.nil_append] at ho
             rw [Nat.zero_add]
             have hlt : ∀ i, blk (some ⟨X100.heap.size, 0, none⟩) = some i → W0.heap.size ≤ i := fun i hi => (World.ownsRow.lt HO172.out i (by rw [own_blk]; exact hi)).1
             have HB173 := Lib.hid (HB172.out.trans (grown_below hg HB172.out.size hlt))
             have HO173 := Lib.hid ho
             have ht : Turn (fun i => blk (some ⟨X100.heap.size, 0, none⟩) = some i) X172 X173 := Turn.of_grown hg (fun i hi => .inl hi)
             have HG173 := Lib.hid (HG172.out.turn ht (row_not_mask HO172.out HG172.out))
             clear ho hg ht hlt
             refine hK _ _ ?_
             clear hK K
             refine wpAny_ready (rs := [5]) (by kernel_rfl) (by simp) ?_
             refine AllReady.cons rfl (fun K hK => ?_) AllReady.nil
             refine gapp_step rfl (.tmp 33) (.tmp 34) appN rfl W0.heap.size P173 q173 na (a.map (Value.int .i64)) rfl HO173.out Ab cb nb (b.map (Value.int .i64)) rfl (HRb.out _ HB173.out) (by omega) HB173.out.size ?_
             intro P174 q174 X174 ho hg _
             have hlt : ∀ i, blk P173 = some i → W0.heap.size ≤ i := fun i hi => (World.ownsRow.lt HO173.out i (by rw [own_blk]; exact hi)).1
             have HB174 := Lib.hid (HB173.out.trans (grown_below hg HB173.out.size hlt))
             have HO174 := Lib.hid ho
             have ht : Turn (fun i => blk P173 = some i) X173 X174 := Turn.of_grown hg (fun i hi => .inl hi)
             have HG174 := Lib.hid (HG173.out.turn ht (row_not_mask HO173.out HG173.out))
             clear ho hg ht hlt
             refine hK _ _ ?_
             clear hK K
             refine wpAny_ready (rs := [6]) (by kernel_rfl) (by simp) ?_
             refine AllReady.cons rfl (fun K hK => ?_) AllReady.nil
             have hr := HUab.out _ HB174.out P174 q174 HO174.out
             go_simp
             refine hr.mono ?_
             rintro e X175 ⟨rfl, hb⟩
             have HB175 := Lib.hid (HB174.out.trans (hb.mono HB174.out.size))
             have HG175 := Lib.hid (HG174.out.below hb HG174.out.lt)
             clear hb hr
             refine hK _ _ ?_
             clear hK K
             refine wpAny_take (i := 7) (v := .tuple #[.agg #[.int .u64 (r.1 : Nat), .int .u64 (r.2 : Nat)], .int .i64 E]) rfl (by kernel_rfl) (by kernel_rfl) (by kernel_rfl) (fun _ _ _ h => nomatch h.1) (Or.inl ⟨by rfl, fun w => by go_simp⟩) ?_
             refine wpAny_take (i := 8) (v := .agg #[.int .u64 (r.1 : Nat), .int .u64 (r.2 : Nat)]) rfl (by kernel_rfl) (by kernel_rfl) (by kernel_rfl) (fun _ _ _ h => nomatch h.1) (Or.inl ⟨by rfl, fun w => by go_simp⟩) ?_
             refine wpAny_take (i := 9) (v := .int .i64 E) rfl (by kernel_rfl) (by kernel_rfl) (by kernel_rfl) (fun _ _ _ h => nomatch h.1) (Or.inl ⟨by rfl, fun w => by go_simp⟩) ?_
             refine wpAny_ready (rs := [11]) (by kernel_rfl) (by simp) ?_
             refine AllReady.cons rfl (fun K hK => ?_) AllReady.nil
             have k_c0 := HG175.out.cell0
             have k_c1 := HG175.out.cell1
             have k_f0 := HG175.out.frozen 0
             have k_f1 := HG175.out.frozen 1
             go_simp
             refine hK _ _ ?_
             clear hK K
             obtain ⟨X176, hX⟩ : ∃ X, X = (X175.setCell ⟨X125.heap.size, 0, none⟩ (.int .u64 (r.1 : Nat))).setCell ⟨X125.heap.size, 1, none⟩ (.int .u64 (r.2 : Nat)) := ⟨_, rfl⟩
             rw [← hX]
             have HG176 := Lib.hid (show MRow X176 X125.heap.size r.1 r.2 from by rw [hX]; exact (HG175.out.set0 r.1).set1 r.2)
             have ht : Turn (fun i => i = X125.heap.size) X175 X176 := by rw [hX]; exact (turn_set _ _ _ _).trans (turn_set _ _ _ _) (fun i hi => .inl hi)
             have HB176 := Lib.hid (HB175.out.trans (ht.below HB175.out.size (fun i hi => by have := hlow172; omega)))
             clear ht hX k_c0 k_c1 k_f0 k_f1
             refine wpAny_ready (rs := [12]) (by kernel_rfl) (by simp) ?_
             refine AllReady.cons rfl (fun K hK => ?_) AllReady.nil
             go_simp
             refine hK _ _ ?_
             clear hK K
             refine wpAny_done (by kernel_rfl) ?_ _
             exact ⟨rfl, _, _, _, _, rfl, HG176.out, HB176.out⟩
            refine AllReady.cons rfl (fun K hK => ?_) ?_
            ·
             refine gapp_step rfl (.tmp 31) (.tmp 32) appN rfl W0.heap.size (some ⟨X100.heap.size, 0, none⟩) 0 0 [] rfl HO172.out Aa ca na (a.map (Value.int .i64)) rfl (HRa.out _ HB172.out) (by omega) HB172.out.size ?_
             intro P177 q177 X177 ho hg _
             rw [Nat.zero_add, List.nil_append] at ho
             rw [Nat.zero_add]
             have hlt : ∀ i, blk (some ⟨X100.heap.size, 0, none⟩) = some i → W0.heap.size ≤ i := fun i hi => (World.ownsRow.lt HO172.out i (by rw [own_blk]; exact hi)).1
             have HB177 := Lib.hid (HB172.out.trans (grown_below hg HB172.out.size hlt))
             have HO177 := Lib.hid ho
             have ht : Turn (fun i => blk (some ⟨X100.heap.size, 0, none⟩) = some i) X172 X177 := Turn.of_grown hg (fun i hi => .inl hi)
             have HG177 := Lib.hid (HG172.out.turn ht (row_not_mask HO172.out HG172.out))
             clear ho hg ht hlt
             refine hK _ _ ?_
             clear hK K
             refine wpAny_ready (rs := [0, 5]) (by kernel_rfl) (by simp) ?_
             refine AllReady.cons rfl (fun K hK => ?_) ?_
             ·
              obtain ⟨k0, k1⟩ := HS.out _ HB177.out
              go_simp
              refine hK _ _ ?_
              clear hK K
              clear k0 k1
              refine wpAny_ready (rs := [5]) (by kernel_rfl) (by simp) ?_
              refine AllReady.cons rfl (fun K hK => ?_) AllReady.nil
              refine gapp_step rfl (.tmp 33) (.tmp 34) appN rfl W0.heap.size P177 q177 na (a.map (Value.int .i64)) rfl HO177.out Ab cb nb (b.map (Value.int .i64)) rfl (HRb.out _ HB177.out) (by omega) HB177.out.size ?_
              intro P178 q178 X178 ho hg _
              have hlt : ∀ i, blk P177 = some i → W0.heap.size ≤ i := fun i hi => (World.ownsRow.lt HO177.out i (by rw [own_blk]; exact hi)).1
              have HB178 := Lib.hid (HB177.out.trans (grown_below hg HB177.out.size hlt))
              have HO178 := Lib.hid ho
              have ht : Turn (fun i => blk P177 = some i) X177 X178 := Turn.of_grown hg (fun i hi => .inl hi)
              have HG178 := Lib.hid (HG177.out.turn ht (row_not_mask HO177.out HG177.out))
              clear ho hg ht hlt
              refine hK _ _ ?_
              clear hK K
              refine wpAny_ready (rs := [6]) (by kernel_rfl) (by simp) ?_
              refine AllReady.cons rfl (fun K hK => ?_) AllReady.nil
              have hr := HUab.out _ HB178.out P178 q178 HO178.out
              go_simp
              refine hr.mono ?_
              rintro e X179 ⟨rfl, hb⟩
              have HB179 := Lib.hid (HB178.out.trans (hb.mono HB178.out.size))
              have HG179 := Lib.hid (HG178.out.below hb HG178.out.lt)
              clear hb hr
              refine hK _ _ ?_
              clear hK K
              refine wpAny_take (i := 7) (v := .tuple #[.agg #[.int .u64 (r.1 : Nat), .int .u64 (r.2 : Nat)], .int .i64 E]) rfl (by kernel_rfl) (by kernel_rfl) (by kernel_rfl) (fun _ _ _ h => nomatch h.1) (Or.inl ⟨by rfl, fun w => by go_simp⟩) ?_
              refine wpAny_take (i := 8) (v := .agg #[.int .u64 (r.1 : Nat), .int .u64 (r.2 : Nat)]) rfl (by kernel_rfl) (by kernel_rfl) (by kernel_rfl) (fun _ _ _ h => nomatch h.1) (Or.inl ⟨by rfl, fun w => by go_simp⟩) ?_
              refine wpAny_take (i := 9) (v := .int .i64 E) rfl (by kernel_rfl) (by kernel_rfl) (by kernel_rfl) (fun _ _ _ h => nomatch h.1) (Or.inl ⟨by rfl, fun w => by go_simp⟩) ?_
              refine wpAny_ready (rs := [11]) (by kernel_rfl) (by simp) ?_
              refine AllReady.cons rfl (fun K hK => ?_) AllReady.nil
              have k_c0 := HG179.out.cell0
              have k_c1 := HG179.out.cell1
              have k_f0 := HG179.out.frozen 0
              have k_f1 := HG179.out.frozen 1
              go_simp
              refine hK _ _ ?_
              clear hK K
              obtain ⟨X180, hX⟩ : ∃ X, X = (X179.setCell ⟨X125.heap.size, 0, none⟩ (.int .u64 (r.1 : Nat))).setCell ⟨X125.heap.size, 1, none⟩ (.int .u64 (r.2 : Nat)) := ⟨_, rfl⟩
              rw [← hX]
              have HG180 := Lib.hid (show MRow X180 X125.heap.size r.1 r.2 from by rw [hX]; exact (HG179.out.set0 r.1).set1 r.2)
              have ht : Turn (fun i => i = X125.heap.size) X179 X180 := by rw [hX]; exact (turn_set _ _ _ _).trans (turn_set _ _ _ _) (fun i hi => .inl hi)
              have HB180 := Lib.hid (HB179.out.trans (ht.below HB179.out.size (fun i hi => by have := hlow172; omega)))
              clear ht hX k_c0 k_c1 k_f0 k_f1
              refine wpAny_ready (rs := [12]) (by kernel_rfl) (by simp) ?_
              refine AllReady.cons rfl (fun K hK => ?_) AllReady.nil
              go_simp
              refine hK _ _ ?_
              clear hK K
              refine wpAny_done (by kernel_rfl) ?_ _
              exact ⟨rfl, _, _, _, _, rfl, HG180.out, HB180.out⟩
             refine AllReady.cons rfl (fun K hK => ?_) ?_
             ·
              refine gapp_step rfl (.tmp 33) (.tmp 34) appN rfl W0.heap.size P177 q177 na (a.map (Value.int .i64)) rfl HO177.out Ab cb nb (b.map (Value.int .i64)) rfl (HRb.out _ HB177.out) (by omega) HB177.out.size ?_
              intro P181 q181 X181 ho hg _
              have hlt : ∀ i, blk P177 = some i → W0.heap.size ≤ i := fun i hi => (World.ownsRow.lt HO177.out i (by rw [own_blk]; exact hi)).1
              have HB181 := Lib.hid (HB177.out.trans (grown_below hg HB177.out.size hlt))
              have HO181 := Lib.hid ho
              have ht : Turn (fun i => blk P177 = some i) X177 X181 := Turn.of_grown hg (fun i hi => .inl hi)
              have HG181 := Lib.hid (HG177.out.turn ht (row_not_mask HO177.out HG177.out))
              clear ho hg ht hlt
              refine hK _ _ ?_
              clear hK K
              refine wpAny_ready (rs := [0]) (by kernel_rfl) (by simp) ?_
              refine AllReady.cons rfl (fun K hK => ?_) AllReady.nil
              obtain ⟨k0, k1⟩ := HS.out _ HB181.out
              go_simp
              refine hK _ _ ?_
              clear hK K
              clear k0 k1
              refine wpAny_ready (rs := [6]) (by kernel_rfl) (by simp) ?_
              refine AllReady.cons rfl (fun K hK => ?_) AllReady.nil
              have hr := HUab.out _ HB181.out P181 q181 HO181.out
              go_simp
              refine hr.mono ?_
              rintro e X182 ⟨rfl, hb⟩
              have HB182 := Lib.hid (HB181.out.trans (hb.mono HB181.out.size))
              have HG182 := Lib.hid (HG181.out.below hb HG181.out.lt)
              clear hb hr
              refine hK _ _ ?_
              clear hK K
              refine wpAny_take (i := 7) (v := .tuple #[.agg #[.int .u64 (r.1 : Nat), .int .u64 (r.2 : Nat)], .int .i64 E]) rfl (by kernel_rfl) (by kernel_rfl) (by kernel_rfl) (fun _ _ _ h => nomatch h.1) (Or.inl ⟨by rfl, fun w => by go_simp⟩) ?_
              refine wpAny_take (i := 8) (v := .agg #[.int .u64 (r.1 : Nat), .int .u64 (r.2 : Nat)]) rfl (by kernel_rfl) (by kernel_rfl) (by kernel_rfl) (fun _ _ _ h => nomatch h.1) (Or.inl ⟨by rfl, fun w => by go_simp⟩) ?_
              refine wpAny_take (i := 9) (v := .int .i64 E) rfl (by kernel_rfl) (by kernel_rfl) (by kernel_rfl) (fun _ _ _ h => nomatch h.1) (Or.inl ⟨by rfl, fun w => by go_simp⟩) ?_
              refine wpAny_ready (rs := [11]) (by kernel_rfl) (by simp) ?_
              refine AllReady.cons rfl (fun K hK => ?_) AllReady.nil
              have k_c0 := HG182.out.cell0
              have k_c1 := HG182.out.cell1
              have k_f0 := HG182.out.frozen 0
              have k_f1 := HG182.out.frozen 1
              go_simp
              refine hK _ _ ?_
              clear hK K
              obtain ⟨X183, hX⟩ : ∃ X, X = (X182.setCell ⟨X125.heap.size, 0, none⟩ (.int .u64 (r.1 : Nat))).setCell ⟨X125.heap.size, 1, none⟩ (.int .u64 (r.2 : Nat)) := ⟨_, rfl⟩
              rw [← hX]
              have HG183 := Lib.hid (show MRow X183 X125.heap.size r.1 r.2 from by rw [hX]; exact (HG182.out.set0 r.1).set1 r.2)
              have ht : Turn (fun i => i = X125.heap.size) X182 X183 := by rw [hX]; exact (turn_set _ _ _ _).trans (turn_set _ _ _ _) (fun i hi => .inl hi)
              have HB183 := Lib.hid (HB182.out.trans (ht.below HB182.out.size (fun i hi => by have := hlow172; omega)))
              clear ht hX k_c0 k_c1 k_f0 k_f1
              refine wpAny_ready (rs := [12]) (by kernel_rfl) (by simp) ?_
              refine AllReady.cons rfl (fun K hK => ?_) AllReady.nil
              go_simp
              refine hK _ _ ?_
              clear hK K
              refine wpAny_done (by kernel_rfl) ?_ _
              exact ⟨rfl, _, _, _, _, rfl, HG183.out, HB183.out⟩
             exact AllReady.nil
            exact AllReady.nil
           exact AllReady.nil
          refine AllReady.cons rfl (fun K hK => ?_) ?_
          ·
           go_simp
           refine hK _ _ ?_
           clear hK K
           obtain ⟨X184, hX⟩ : ∃ X, X = X100.alloc (.cells #[.int .u64 0, .int .u64 0] 38) := ⟨_, rfl⟩
           rw [← hX]
           have hb : Below X100.heap.size X100 X184 := by rw [hX]; exact bel1 _ _
           have HB184 := Lib.hid (HB100.out.trans (hb.mono HB100.out.size))
           have HG184 := Lib.hid (show MRow X184 X100.heap.size 0 0 from by rw [hX]; exact MRow.new _ _ _)
           have hlow184 : W0.heap.size ≤ X100.heap.size := HB100.out.size
           clear hb hX
           refine wpAny_ready (rs := [0, 1]) (by kernel_rfl) (by simp) ?_
           refine AllReady.cons rfl (fun K hK => ?_) ?_
           ·
            obtain ⟨k0, k1⟩ := HS.out _ HB184.out
            go_simp
            refine hK _ _ ?_
            clear hK K
            clear k0 k1
            refine wpAny_ready (rs := [1]) (by kernel_rfl) (by simp) ?_
            refine AllReady.cons rfl (fun K hK => ?_) AllReady.nil
            go_simp
            refine hK _ _ ?_
            clear hK K
            obtain ⟨X185, hX⟩ : ∃ X, X = X184.alloc (.cells #[] 3) := ⟨_, rfl⟩
            rw [← hX]
            have hb : Below X184.heap.size X184 X185 := by rw [hX]; exact bel1 _ _
            have HB185 := Lib.hid (HB184.out.trans (hb.mono HB184.out.size))
            have HO185 := Lib.hid (show X185.ownsRow W0.heap.size 3 1 (.slice (some ⟨X184.heap.size, 0, none⟩) 0 0) 0 [] from by rw [hX]; exact World.ownsRow_lit (base := W0.heap.size) (size := 1) (e := 3) X184 #[] 0 HB184.out.size (by decide) rfl)
            have HG185 := Lib.hid (HG184.out.below hb HG184.out.lt)
            clear hb hX
            refine wpAny_ready (rs := [3]) (by kernel_rfl) (by simp) ?_
            refine AllReady.cons rfl (fun K hK => ?_) AllReady.nil
            refine gapp_step rfl (.tmp 31) (.tmp 32) appN rfl W0.heap.size (some ⟨X184.heap.size, 0, none⟩) 0 0 [] rfl HO185.out Aa ca na (a.map (Value.int .i64)) rfl (HRa.out _ HB185.out) (by omega) HB185.out.size ?_
            intro P186 q186 X186 ho hg _
            rw [Nat.zero_add, List.nil_append] at ho
            rw [Nat.zero_add]
            have hlt : ∀ i, blk (some ⟨X184.heap.size, 0, none⟩) = some i → W0.heap.size ≤ i := fun i hi => (World.ownsRow.lt HO185.out i (by rw [own_blk]; exact hi)).1
            have HB186 := Lib.hid (HB185.out.trans (grown_below hg HB185.out.size hlt))
            have HO186 := Lib.hid ho
            have ht : Turn (fun i => blk (some ⟨X184.heap.size, 0, none⟩) = some i) X185 X186 := Turn.of_grown hg (fun i hi => .inl hi)
            have HG186 := Lib.hid (HG185.out.turn ht (row_not_mask HO185.out HG185.out))
            clear ho hg ht hlt
            refine hK _ _ ?_
            clear hK K
            refine wpAny_ready (rs := [5]) (by kernel_rfl) (by simp) ?_
            refine AllReady.cons rfl (fun K hK => ?_) AllReady.nil
            refine gapp_step rfl (.tmp 33) (.tmp 34) appN rfl W0.heap.size P186 q186 na (a.map (Value.int .i64)) rfl HO186.out Ab cb nb (b.map (Value.int .i64)) rfl (HRb.out _ HB186.out) (by omega) HB186.out.size ?_
            intro P187 q187 X187 ho hg _
            have hlt : ∀ i, blk P186 = some i → W0.heap.size ≤ i := fun i hi => (World.ownsRow.lt HO186.out i (by rw [own_blk]; exact hi)).1
            have HB187 := Lib.hid (HB186.out.trans (grown_below hg HB186.out.size hlt))
            have HO187 := Lib.hid ho
            have ht : Turn (fun i => blk P186 = some i) X186 X187 := Turn.of_grown hg (fun i hi => .inl hi)
            have HG187 := Lib.hid (HG186.out.turn ht (row_not_mask HO186.out HG186.out))
            clear ho hg ht hlt
            refine hK _ _ ?_
            clear hK K
            refine wpAny_ready (rs := [6]) (by kernel_rfl) (by simp) ?_
            refine AllReady.cons rfl (fun K hK => ?_) AllReady.nil
            have hr := HUab.out _ HB187.out P187 q187 HO187.out
            go_simp
            refine hr.mono ?_
            rintro e X188 ⟨rfl, hb⟩
            have HB188 := Lib.hid (HB187.out.trans (hb.mono HB187.out.size))
            have HG188 := Lib.hid (HG187.out.below hb HG187.out.lt)
            clear hb hr
            refine hK _ _ ?_
            clear hK K
            refine wpAny_take (i := 7) (v := .tuple #[.agg #[.int .u64 (r.1 : Nat), .int .u64 (r.2 : Nat)], .int .i64 E]) rfl (by kernel_rfl) (by kernel_rfl) (by kernel_rfl) (fun _ _ _ h => nomatch h.1) (Or.inl ⟨by rfl, fun w => by go_simp⟩) ?_
            refine wpAny_take (i := 8) (v := .agg #[.int .u64 (r.1 : Nat), .int .u64 (r.2 : Nat)]) rfl (by kernel_rfl) (by kernel_rfl) (by kernel_rfl) (fun _ _ _ h => nomatch h.1) (Or.inl ⟨by rfl, fun w => by go_simp⟩) ?_
            refine wpAny_take (i := 9) (v := .int .i64 E) rfl (by kernel_rfl) (by kernel_rfl) (by kernel_rfl) (fun _ _ _ h => nomatch h.1) (Or.inl ⟨by rfl, fun w => by go_simp⟩) ?_
            refine wpAny_ready (rs := [11]) (by kernel_rfl) (by simp) ?_
            refine AllReady.cons rfl (fun K hK => ?_) AllReady.nil
            have k_c0 := HG188.out.cell0
            have k_c1 := HG188.out.cell1
            have k_f0 := HG188.out.frozen 0
            have k_f1 := HG188.out.frozen 1
            go_simp
            refine hK _ _ ?_
            clear hK K
            obtain ⟨X189, hX⟩ : ∃ X, X = (X188.setCell ⟨X100.heap.size, 0, none⟩ (.int .u64 (r.1 : Nat))).setCell ⟨X100.heap.size, 1, none⟩ (.int .u64 (r.2 : Nat)) := ⟨_, rfl⟩
            rw [← hX]
            have HG189 := Lib.hid (show MRow X189 X100.heap.size r.1 r.2 from by rw [hX]; exact (HG188.out.set0 r.1).set1 r.2)
            have ht : Turn (fun i => i = X100.heap.size) X188 X189 := by rw [hX]; exact (turn_set _ _ _ _).trans (turn_set _ _ _ _) (fun i hi => .inl hi)
            have HB189 := Lib.hid (HB188.out.trans (ht.below HB188.out.size (fun i hi => by have := hlow184; omega)))
            clear ht hX k_c0 k_c1 k_f0 k_f1
            refine wpAny_ready (rs := [12]) (by kernel_rfl) (by simp) ?_
            refine AllReady.cons rfl (fun K hK => ?_) AllReady.nil
            go_simp
            refine hK _ _ ?_
            clear hK K
            refine wpAny_done (by kernel_rfl) ?_ _
            exact ⟨rfl, _, _, _, _, rfl, HG189.out, HB189.out⟩
           refine AllReady.cons rfl (fun K hK => ?_) ?_
           ·
            go_simp
            refine hK _ _ ?_
            clear hK K
            obtain ⟨X190, hX⟩ : ∃ X, X = X184.alloc (.cells #[] 3) := ⟨_, rfl⟩
            rw [← hX]
            have hb : Below X184.heap.size X184 X190 := by rw [hX]; exact bel1 _ _
            have HB190 := Lib.hid (HB184.out.trans (hb.mono HB184.out.size))
            have HO190 := Lib.hid (show X190.ownsRow W0.heap.size 3 1 (.slice (some ⟨X184.heap.size, 0, none⟩) 0 0) 0 [] from by rw [hX]; exact World.ownsRow_lit (base := W0.heap.size) (size := 1) (e := 3) X184 #[] 0 HB184.out.size (by decide) rfl)
            have HG190 := Lib.hid (HG184.out.below hb HG184.out.lt)
            clear hb hX
            refine wpAny_ready (rs := [0, 3]) (by kernel_rfl) (by simp) ?_
            refine AllReady.cons rfl (fun K hK => ?_) ?_
            ·
             obtain ⟨k0, k1⟩ := HS.out _ HB190.out
             go_simp
             refine hK _ _ ?_
             clear hK K
             clear k0 k1
             refine wpAny_ready (rs := [3]) (by kernel_rfl) (by simp) ?_
             refine AllReady.cons rfl (fun K hK => ?_) AllReady.nil
             refine gapp_step rfl (.tmp 31) (.tmp 32) appN rfl W0.heap.size (some ⟨X184.heap.size, 0, none⟩) 0 0 [] rfl HO190.out Aa ca na (a.map (Value.int .i64)) rfl (HRa.out _ HB190.out) (by omega) HB190.out.size ?_
             intro P191 q191 X191 ho hg _
             rw [Nat.zero_add, List.nil_append] at ho
             rw [Nat.zero_add]
             have hlt : ∀ i, blk (some ⟨X184.heap.size, 0, none⟩) = some i → W0.heap.size ≤ i := fun i hi => (World.ownsRow.lt HO190.out i (by rw [own_blk]; exact hi)).1
             have HB191 := Lib.hid (HB190.out.trans (grown_below hg HB190.out.size hlt))
             have HO191 := Lib.hid ho
             have ht : Turn (fun i => blk (some ⟨X184.heap.size, 0, none⟩) = some i) X190 X191 := Turn.of_grown hg (fun i hi => .inl hi)
             have HG191 := Lib.hid (HG190.out.turn ht (row_not_mask HO190.out HG190.out))
             clear ho hg ht hlt
             refine hK _ _ ?_
             clear hK K
             refine wpAny_ready (rs := [5]) (by kernel_rfl) (by simp) ?_
             refine AllReady.cons rfl (fun K hK => ?_) AllReady.nil
             refine gapp_step rfl (.tmp 33) (.tmp 34) appN rfl W0.heap.size P191 q191 na (a.map (Value.int .i64)) rfl HO191.out Ab cb nb (b.map (Value.int .i64)) rfl (HRb.out _ HB191.out) (by omega) HB191.out.size ?_
             intro P192 q192 X192 ho hg _
             have hlt : ∀ i, blk P191 = some i → W0.heap.size ≤ i := fun i hi => (World.ownsRow.lt HO191.out i (by rw [own_blk]; exact hi)).1
             have HB192 := Lib.hid (HB191.out.trans (grown_below hg HB191.out.size hlt))
             have HO192 := Lib.hid ho
             have ht : Turn (fun i => blk P191 = some i) X191 X192 := Turn.of_grown hg (fun i hi => .inl hi)
             have HG192 := Lib.hid (HG191.out.turn ht (row_not_mask HO191.out HG191.out))
             clear ho hg ht hlt
             refine hK _ _ ?_
             clear hK K
             refine wpAny_ready (rs := [6]) (by kernel_rfl) (by simp) ?_
             refine AllReady.cons rfl (fun K hK => ?_) AllReady.nil
             have hr := HUab.out _ HB192.out P192 q192 HO192.out
             go_simp
             refine hr.mono ?_
             rintro e X193 ⟨rfl, hb⟩
             have HB193 := Lib.hid (HB192.out.trans (hb.mono HB192.out.size))
             have HG193 := Lib.hid (HG192.out.below hb HG192.out.lt)
             clear hb hr
             refine hK _ _ ?_
             clear hK K
             refine wpAny_take (i := 7) (v := .tuple #[.agg #[.int .u64 (r.1 : Nat), .int .u64 (r.2 : Nat)], .int .i64 E]) rfl (by kernel_rfl) (by kernel_rfl) (by kernel_rfl) (fun _ _ _ h => nomatch h.1) (Or.inl ⟨by rfl, fun w => by go_simp⟩) ?_
             refine wpAny_take (i := 8) (v := .agg #[.int .u64 (r.1 : Nat), .int .u64 (r.2 : Nat)]) rfl (by kernel_rfl) (by kernel_rfl) (by kernel_rfl) (fun _ _ _ h => nomatch h.1) (Or.inl ⟨by rfl, fun w => by go_simp⟩) ?_
             refine wpAny_take (i := 9) (v := .int .i64 E) rfl (by kernel_rfl) (by kernel_rfl) (by kernel_rfl) (fun _ _ _ h => nomatch h.1) (Or.inl ⟨by rfl, fun w => by go_simp⟩) ?_
             refine wpAny_ready (rs := [11]) (by kernel_rfl) (by simp) ?_
             refine AllReady.cons rfl (fun K hK => ?_) AllReady.nil
             have k_c0 := HG193.out.cell0
             have k_c1 := HG193.out.cell1
             have k_f0 := HG193.out.frozen 0
             have k_f1 := HG193.out.frozen 1
             go_simp
             refine hK _ _ ?_
             clear hK K
             obtain ⟨X194, hX⟩ : ∃ X, X = (X193.setCell ⟨X100.heap.size, 0, none⟩ (.int .u64 (r.1 : Nat))).setCell ⟨X100.heap.size, 1, none⟩ (.int .u64 (r.2 : Nat)) := ⟨_, rfl⟩
             rw [← hX]
             have HG194 := Lib.hid (show MRow X194 X100.heap.size r.1 r.2 from by rw [hX]; exact (HG193.out.set0 r.1).set1 r.2)
             have ht : Turn (fun i => i = X100.heap.size) X193 X194 := by rw [hX]; exact (turn_set _ _ _ _).trans (turn_set _ _ _ _) (fun i hi => .inl hi)
             have HB194 := Lib.hid (HB193.out.trans (ht.below HB193.out.size (fun i hi => by have := hlow184; omega)))
             clear ht hX k_c0 k_c1 k_f0 k_f1
             refine wpAny_ready (rs := [12]) (by kernel_rfl) (by simp) ?_
             refine AllReady.cons rfl (fun K hK => ?_) AllReady.nil
             go_simp
             refine hK _ _ ?_
             clear hK K
             refine wpAny_done (by kernel_rfl) ?_ _
             exact ⟨rfl, _, _, _, _, rfl, HG194.out, HB194.out⟩
            refine AllReady.cons rfl (fun K hK => ?_) ?_
            ·
             refine gapp_step rfl (.tmp 31) (.tmp 32) appN rfl W0.heap.size (some ⟨X184.heap.size, 0, none⟩) 0 0 [] rfl HO190.out Aa ca na (a.map (Value.int .i64)) rfl (HRa.out _ HB190.out) (by omega) HB190.out.size ?_
             intro P195 q195 X195 ho hg _
             rw [Nat.zero_add, List.nil_append] at ho
             rw [Nat.zero_add]
             have hlt : ∀ i, blk (some ⟨X184.heap.size, 0, none⟩) = some i → W0.heap.size ≤ i := fun i hi => (World.ownsRow.lt HO190.out i (by rw [own_blk]; exact hi)).1
             have HB195 := Lib.hid (HB190.out.trans (grown_below hg HB190.out.size hlt))
             have HO195 := Lib.hid ho
             have ht : Turn (fun i => blk (some ⟨X184.heap.size, 0, none⟩) = some i) X190 X195 := Turn.of_grown hg (fun i hi => .inl hi)
             have HG195 := Lib.hid (HG190.out.turn ht (row_not_mask HO190.out HG190.out))
             clear ho hg ht hlt
             refine hK _ _ ?_
             clear hK K
             refine wpAny_ready (rs := [0, 5]) (by kernel_rfl) (by simp) ?_
             refine AllReady.cons rfl (fun K hK => ?_) ?_
             ·
              obtain ⟨k0, k1⟩ := HS.out _ HB195.out
              go_simp
              refine hK _ _ ?_
              clear hK K
              clear k0 k1
              refine wpAny_ready (rs := [5]) (by kernel_rfl) (by simp) ?_
              refine AllReady.cons rfl (fun K hK => ?_) AllReady.nil
              refine gapp_step rfl (.tmp 33) (.tmp 34) appN rfl W0.heap.size P195 q195 na (a.map (Value.int .i64)) rfl HO195.out Ab cb nb (b.map (Value.int .i64)) rfl (HRb.out _ HB195.out) (by omega) HB195.out.size ?_
              intro P196 q196 X196 ho hg _
              have hlt : ∀ i, blk P195 = some i → W0.heap.size ≤ i := fun i hi => (World.ownsRow.lt HO195.out i (by rw [own_blk]; exact hi)).1
              have HB196 := Lib.hid (HB195.out.trans (grown_below hg HB195.out.size hlt))
              have HO196 := Lib.hid ho
              have ht : Turn (fun i => blk P195 = some i) X195 X196 := Turn.of_grown hg (fun i hi => .inl hi)
              have HG196 := Lib.hid (HG195.out.turn ht (row_not_mask HO195.out HG195.out))
              clear ho hg ht hlt
              refine hK _ _ ?_
              clear hK K
              refine wpAny_ready (rs := [6]) (by kernel_rfl) (by simp) ?_
              refine AllReady.cons rfl (fun K hK => ?_) AllReady.nil
              have hr := HUab.out _ HB196.out P196 q196 HO196.out
              go_simp
              refine hr.mono ?_
              rintro e X197 ⟨rfl, hb⟩
              have HB197 := Lib.hid (HB196.out.trans (hb.mono HB196.out.size))
              have HG197 := Lib.hid (HG196.out.below hb HG196.out.lt)
              clear hb hr
              refine hK _ _ ?_
              clear hK K
              refine wpAny_take (i := 7) (v := .tuple #[.agg #[.int .u64 (r.1 : Nat), .int .u64 (r.2 : Nat)], .int .i64 E]) rfl (by kernel_rfl) (by kernel_rfl) (by kernel_rfl) (fun _ _ _ h => nomatch h.1) (Or.inl ⟨by rfl, fun w => by go_simp⟩) ?_
              refine wpAny_take (i := 8) (v := .agg #[.int .u64 (r.1 : Nat), .int .u64 (r.2 : Nat)]) rfl (by kernel_rfl) (by kernel_rfl) (by kernel_rfl) (fun _ _ _ h => nomatch h.1) (Or.inl ⟨by rfl, fun w => by go_simp⟩) ?_
              refine wpAny_take (i := 9) (v := .int .i64 E) rfl (by kernel_rfl) (by kernel_rfl) (by kernel_rfl) (fun _ _ _ h => nomatch h.1) (Or.inl ⟨by rfl, fun w => by go_simp⟩) ?_
              refine wpAny_ready (rs := [11]) (by kernel_rfl) (by simp) ?_
              refine AllReady.cons rfl (fun K hK => ?_) AllReady.nil
              have k_c0 := HG197.out.cell0
              have k_c1 := HG197.out.cell1
              have k_f0 := HG197.out.frozen 0
              have k_f1 := HG197.out.frozen 1
              go_simp
              refine hK _ _ ?_
              clear hK K
              obtain ⟨X198, hX⟩ : ∃ X, X = (X197.setCell ⟨X100.heap.size, 0, none⟩ (.int .u64 (r.1 : Nat))).setCell ⟨X100.heap.size, 1, none⟩ (.int .u64 (r.2 : Nat)) := ⟨_, rfl⟩
              rw [← hX]
              have HG198 := Lib.hid (show MRow X198 X100.heap.size r.1 r.2 from by rw [hX]; exact (HG197.out.set0 r.1).set1 r.2)
              have ht : Turn (fun i => i = X100.heap.size) X197 X198 := by rw [hX]; exact (turn_set _ _ _ _).trans (turn_set _ _ _ _) (fun i hi => .inl hi)
              have HB198 := Lib.hid (HB197.out.trans (ht.below HB197.out.size (fun i hi => by have := hlow184; omega)))
              clear ht hX k_c0 k_c1 k_f0 k_f1
              refine wpAny_ready (rs := [12]) (by kernel_rfl) (by simp) ?_
              refine AllReady.cons rfl (fun K hK => ?_) AllReady.nil
              go_simp
              refine hK _ _ ?_
              clear hK K
              refine wpAny_done (by kernel_rfl) ?_ _
              exact ⟨rfl, _, _, _, _, rfl, HG198.out, HB198.out⟩
             refine AllReady.cons rfl (fun K hK => ?_) ?_
             ·
              refine gapp_step rfl (.tmp 33) (.tmp 34) appN rfl W0.heap.size P195 q195 na (a.map (Value.int .i64)) rfl HO195.out Ab cb nb (b.map (Value.int .i64)) rfl (HRb.out _ HB195.out) (by omega) HB195.out.size ?_
              intro P199 q199 X199 ho hg _
              have hlt : ∀ i, blk P195 = some i → W0.heap.size ≤ i := fun i hi => (World.ownsRow.lt HO195.out i (by rw [own_blk]; exact hi)).1
              have HB199 := Lib.hid (HB195.out.trans (grown_below hg HB195.out.size hlt))
              have HO199 := Lib.hid ho
              have ht : Turn (fun i => blk P195 = some i) X195 X199 := Turn.of_grown hg (fun i hi => .inl hi)
              have HG199 := Lib.hid (HG195.out.turn ht (row_not_mask HO195.out HG195.out))
              clear ho hg ht hlt
              refine hK _ _ ?_
              clear hK K
              refine wpAny_ready (rs := [0]) (by kernel_rfl) (by simp) ?_
              refine AllReady.cons rfl (fun K hK => ?_) AllReady.nil
              obtain ⟨k0, k1⟩ := HS.out _ HB199.out
              go_simp
              refine hK _ _ ?_
              clear hK K
              clear k0 k1
              refine wpAny_ready (rs := [6]) (by kernel_rfl) (by simp) ?_
              refine AllReady.cons rfl (fun K hK => ?_) AllReady.nil
              have hr := HUab.out _ HB199.out P199 q199 HO199.out
              go_simp
              refine hr.mono ?_
              rintro e X200 ⟨rfl, hb⟩
              have HB200 := Lib.hid (HB199.out.trans (hb.mono HB199.out.size))
              have HG200 := Lib.hid (HG199.out.below hb HG199.out.lt)
              clear hb hr
              refine hK _ _ ?_
              clear hK K
              refine wpAny_take (i := 7) (v := .tuple #[.agg #[.int .u64 (r.1 : Nat), .int .u64 (r.2 : Nat)], .int .i64 E]) rfl (by kernel_rfl) (by kernel_rfl) (by kernel_rfl) (fun _ _ _ h => nomatch h.1) (Or.inl ⟨by rfl, fun w => by go_simp⟩) ?_
              refine wpAny_take (i := 8) (v := .agg #[.int .u64 (r.1 : Nat), .int .u64 (r.2 : Nat)]) rfl (by kernel_rfl) (by kernel_rfl) (by kernel_rfl) (fun _ _ _ h => nomatch h.1) (Or.inl ⟨by rfl, fun w => by go_simp⟩) ?_
              refine wpAny_take (i := 9) (v := .int .i64 E) rfl (by kernel_rfl) (by kernel_rfl) (by kernel_rfl) (fun _ _ _ h => nomatch h.1) (Or.inl ⟨by rfl, fun w => by go_simp⟩) ?_
              refine wpAny_ready (rs := [11]) (by kernel_rfl) (by simp) ?_
              refine AllReady.cons rfl (fun K hK => ?_) AllReady.nil
              have k_c0 := HG200.out.cell0
              have k_c1 := HG200.out.cell1
              have k_f0 := HG200.out.frozen 0
              have k_f1 := HG200.out.frozen 1
              go_simp
              refine hK _ _ ?_
              clear hK K
              obtain ⟨X201, hX⟩ : ∃ X, X = (X200.setCell ⟨X100.heap.size, 0, none⟩ (.int .u64 (r.1 : Nat))).setCell ⟨X100.heap.size, 1, none⟩ (.int .u64 (r.2 : Nat)) := ⟨_, rfl⟩
              rw [← hX]
              have HG201 := Lib.hid (show MRow X201 X100.heap.size r.1 r.2 from by rw [hX]; exact (HG200.out.set0 r.1).set1 r.2)
              have ht : Turn (fun i => i = X100.heap.size) X200 X201 := by rw [hX]; exact (turn_set _ _ _ _).trans (turn_set _ _ _ _) (fun i hi => .inl hi)
              have HB201 := Lib.hid (HB200.out.trans (ht.below HB200.out.size (fun i hi => by have := hlow184; omega)))
              clear ht hX k_c0 k_c1 k_f0 k_f1
              refine wpAny_ready (rs := [12]) (by kernel_rfl) (by simp) ?_
              refine AllReady.cons rfl (fun K hK => ?_) AllReady.nil
              go_simp
              refine hK _ _ ?_
              clear hK K
              refine wpAny_done (by kernel_rfl) ?_ _
              exact ⟨rfl, _, _, _, _, rfl, HG201.out, HB201.out⟩
             exact AllReady.nil
            exact AllReady.nil
           exact AllReady.nil
          exact AllReady.nil

set_option maxRecDepth 100000 in
theorem lifted (os : Os) (started : os.Started) (H : Type) (enc : TypeId × Value → H) :
    ReturnsInHanded {} Try.checked os 4 .any (Rows.listsUnionsSpec.pre6 enc Try.prog Try.f4 Rows.listsUnionsRow.domain false) (Rows.listsUnionsSpec.post enc Try.prog Try.f4 false true false false) := by
  refine returnsInHanded_of_change (C := Try.checked) Try.own started (by kernel_rfl) Try.func4
    (ChangeSpec.witness6 (enc := enc) (C := Try.checked) false ⟨#[], #[.agg #[.slice none 0 0, .slice none 0 0], .slice none 0 0, .slice none 0 0], []⟩ 8 (by kernel_rfl) (by kernel_rfl) (by kernel_rfl) (by kernel_rfl)) ?_
  intro W base args ds gs before hval0 hW hcnd _
  have hval : ∀ (j : Nat) t v, Try.f4.params[j]? = some t → args[j]? = some v → Value.okWide Try.prog W .any base t v := hval0
  have hW' := hW
  obtain ⟨p, q, hA0, hV, rfl, hfz, hnd⟩ := hW
  have hA : DataW.TrodAll enc Try.prog W 0 (fun _ => true) true Try.f4.params.toList args.toList ds p := hA0
  rw [Try.params4] at hA hval
  have hA' := hA
  obtain ⟨v0, vs0, d0, ds0, p0, q0, hargs, rfl, rfl, h0, r0⟩ := trodAll_cons hA
  obtain ⟨v1, vs1, d1, ds1, p1, q1, rfl, rfl, rfl, h1, r1⟩ := trodAll_cons r0
  obtain ⟨v2, vs2, d2, ds2, p2, q2, rfl, rfl, rfl, h2, r2⟩ := trodAll_cons r1
  obtain ⟨rfl, rfl, rfl⟩ := trodAll_nil r2
  obtain rfl : args = #[v0, v1, v2] := by cases args; simp_all
  obtain ⟨rfl, rfl⟩ := trodVars_none hV
  obtain ⟨A0, c0, C0, B0, k0, M0, rfl, sl0⟩ := open_lists (hval 0 25 v0 rfl rfl) h0
  obtain ⟨A1, len1, c1, rfl⟩ := okWide_slice Try.underlying27 (hval 1 27 v1 rfl rfl)
  obtain ⟨z1, rfl, sl1⟩ := open_slots h1
  obtain ⟨A2, len2, c2, rfl⟩ := okWide_slice Try.underlying27 (hval 2 27 v2 rfl rfl)
  obtain ⟨z2, rfl, sl2⟩ := open_slots h2
  clear hA0 hval0
  refine (walk A0 c0 C0 B0 k0 M0 sl0 A1 c1 z1 sl1 A2 c2 z2 sl2).mono fun e W' ⟨he, bel⟩ => ?_
  subst he
  exact ⟨_, rfl, _, _, _, [], _, [], hW', trodAll_mk1 (shut_bool Try.underlying4 _), trodAll_below bel _ _ _ _ (by kernel_rfl) hA', rfl, bel.frame _, fun h => by cases h⟩

theorem proved : Rows.ListsUnionsSaid :=
  OpenClaim.holds_of_wide 4 Try.f4 rfl rfl rfl rfl rfl rfl rfl ⟨rfl, rfl, rfl, rfl, rfl⟩ rfl rfl rfl rfl rfl (by kernel_rfl) Try.func4 (by kernel_rfl)
    (of_decide_eq_true (by kernel_rfl)) (by unfold Func.isWrapper; first | (rw [if_pos (by decide +kernel)]; kernel_rfl) | (rw [if_neg (by decide +kernel)]; exact ⟨rfl, rfl⟩))
    (fun os started H enc _ => lifted os started H enc)
#print axioms proved
end Go.Proofs.Ytcekgllahlhaaaa.listsUnions
