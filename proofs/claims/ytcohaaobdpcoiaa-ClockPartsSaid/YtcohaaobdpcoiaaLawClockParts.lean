/-
  Proved: the law ClockParts, a run of ticks is a run of the first ones and one of the others, returns true for every clock and two rows of ticks, and leaves all memory as it was. No condition.
-/
import Derived.Test.YtcohaaobdpcoiaaLawFrame
namespace Go.Proofs.Ytcohaaobdpcoiaa.clockParts
open Go.ChangeShapes Go.WideShapes Go.ChangeAt Go.RowKit
set_option linter.unusedVariables false
set_option linter.unusedSimpArgs false
set_option maxRecDepth 100000

theorem own_none (k : IntKind) (t : TypeId) (w : World) : World.ownsRow (w.alloc (.cells #[] t)) w.heap.size t 1 (.slice (some ⟨w.heap.size, 0, none⟩) 0 0) 0 [] := World.ownsRow_lit (base := w.heap.size) (size := 1) (e := t) w #[] 0 (Nat.le_refl _) (by decide) rfl

/-- A run of both rows is a run of the first ones, and one of the others. -/
theorem parts_err {a b : List Int} {c : Int × Int} (h : ¬ rnE a c = 0) : rnE (a ++ b) c = rnE a c ∧ rnL (a ++ b) c = rnL a c := by
  unfold rnE rnL at *
  cases hok : okC c.1 c.2 with
  | false => exact ⟨rfl, rfl⟩
  | true =>
    rw [hok, if_pos rfl] at h
    rw [if_pos rfl, if_pos rfl, if_pos rfl, if_pos rfl]
    cases hb : (rn a c a.length).2.2 with
    | true => rw [hb] at h; exact absurd rfl h
    | false =>
      have h1 := (st_app (a := a) (b := b) (c := c) a.length (Nat.le_refl _)).2
      have h2 := rn_stay (xs := a ++ b) (c := c) (k := a.length) (by rw [h1, hb]) (a ++ b).length (by simp)
      rw [h2, h1, hb]
      exact ⟨rfl, rfl⟩
theorem rnE_zero {a : List Int} {c : Int × Int} (h : rnE a c = 0) : okC c.1 c.2 = true ∧ (rn a c a.length).2.2 = true := by
  unfold rnE at h
  cases hok : okC c.1 c.2 with
  | false => rw [hok] at h; exact absurd h (by simp)
  | true =>
    rw [hok, if_pos rfl] at h
    refine ⟨rfl, ?_⟩
    cases hb : (rn a c a.length).2.2 with
    | true => rfl
    | false => rw [hb] at h; exact absurd h (by simp)
theorem parts_ok {a b : List Int} {c : Int × Int} (hc : Rt c) (h : rnE a c = 0) : rnE (a ++ b) c = rnE b (rnC a c) ∧ rnC (a ++ b) c = rnC b (rnC a c) ∧ rnL (a ++ b) c = rnL a c ++ rnL b (rnC a c) := by
  obtain ⟨hok, hb⟩ := rnE_zero h
  have h1 := rn_on (a := a) (b := b) (c := c) hb b.length
  have hl : (a ++ b).length = a.length + b.length := by simp
  have hC : rnC a c = (rn a c a.length).1 := by unfold rnC; rw [hok]; rfl
  have hR : Rt (rnC a c) := by rw [hC]; exact (rn_fit hc _).1
  have hok2 := hR.okC
  have e1 : rnE (a ++ b) c = if (rn (a ++ b) c (a ++ b).length).2.2 = true then 0 else 251 := by unfold rnE; rw [hok]; rfl
  have e2 : rnC (a ++ b) c = (rn (a ++ b) c (a ++ b).length).1 := by unfold rnC; rw [hok]; rfl
  have e3 : rnL (a ++ b) c = (rn (a ++ b) c (a ++ b).length).2.1 := by unfold rnL; rw [hok]; rfl
  have e4 : rnL a c = (rn a c a.length).2.1 := by unfold rnL; rw [hok]; rfl
  have e5 : rnE b (rnC a c) = if (rn b (rnC a c) b.length).2.2 = true then 0 else 251 := by unfold rnE; rw [hok2]; rfl
  have e6 : rnC b (rnC a c) = (rn b (rnC a c) b.length).1 := by unfold rnC at *; rw [hok2]; rfl
  have e7 : rnL b (rnC a c) = (rn b (rnC a c) b.length).2.1 := by unfold rnL; rw [hok2]; rfl
  rw [e1, e2, e3, e4, e5, e6, e7, hl, h1, hC]
  exact ⟨rfl, rfl, rfl⟩
theorem rnC_fit {a : List Int} {c : Int × Int} (h1 : U6 c.1) (h2 : U6 c.2) : U6 (rnC a c).1 ∧ U6 (rnC a c).2 := by
  unfold rnC
  cases hok : okC c.1 c.2 with
  | false => rw [if_neg (by simp)]; exact ⟨⟨by decide, by decide⟩, ⟨by decide, by decide⟩⟩
  | true =>
    have hc : Rt c := ⟨h1.1, (okC_iff.1 hok).1, h2.1, (okC_iff.1 hok).2⟩
    have := (rn_fit (xs := a) hc a.length).1
    exact ⟨this.u1, this.u2⟩
theorem row_not_clock {base : Nat} {W : World} {A : Option Addr} {ca n : Nat} {l : List Value} (h : W.ownsRow base 2 1 (.slice A n ca) n l) : ∀ i, blk A = some i → ¬ OwC W i := by
  intro i hi ho
  obtain ⟨cs, fr, h1⟩ := row_cells h i hi
  obtain ⟨cs2, h2⟩ := ho
  rw [h1] at h2
  injection h2 with h2
  injection h2 with _ h2
  exact absurd h2 (by decide)
theorem two_rows {base : Nat} {w : World} {A : Option Addr} {c n : Nat} {a b : List Int} (h : w.ownsRow base 2 1 (.slice A n c) n (a.map (Value.int .i64) ++ b.map (Value.int .i64))) (hn : n = (a ++ b).length) (ha : ∀ x ∈ a, (Lit.int .i64 x).wf = true) (hb : ∀ x ∈ b, (Lit.int .i64 x).wf = true) : Vec .i64 w A c (a ++ b) := by
  refine OwnK.vec (base := base) (t := 2) ⟨by rw [← hn, List.map_append]; exact h, fun x hx => ?_⟩
  rcases List.mem_append.1 hx with hx | hx
  · exact ha x hx
  · exact hb x hx


set_option maxHeartbeats 8000000 in
theorem walk {w : World} (N L : Int) (hN : U6 N) (hL : U6 L) (A : Option Addr) (ca : Nat) (a : List Int) (H : Vec .i64 w A ca a) (B : Option Addr) (cb : Nat) (b : List Int) (H2 : Vec .i64 w B cb b) :
    Calls Try.prog 6 #[.agg #[.int .u64 N, .int .u64 L], .slice A a.length ca, .slice B b.length cb] w fun e w' => e = .returned (.bool true) ∧ Below w.heap.size w w' := by
  obtain ⟨W0, hW0⟩ : ∃ W0, W0 = w.alloc (.cells #[.int .u64 N, .int .u64 L] 24) := ⟨_, rfl⟩
  have hb0 : Below w.heap.size w W0 := by rw [hW0]; exact bel1 _ _
  have hc0 : CB W0 w.heap.size N L := by rw [hW0]; exact CB.new _ _ _
  have HW := Lib.hid hW0
  have HB0 := Lib.hid hb0
  have HC0 := Lib.hid hc0
  have HU := Lib.hid (And.intro hN hL)
  have HVa := Lib.hid H
  have HVb := Lib.hid H2
  obtain ⟨m, hm⟩ : ∃ m, m = a.length := ⟨_, rfl⟩
  obtain ⟨n, hn⟩ : ∃ n, n = b.length := ⟨_, rfl⟩
  have HM := Lib.hid hm
  have HN := Lib.hid hn
  have HMN := Lib.hid (show m + n = (a ++ b).length by rw [List.length_append, hm, hn])
  have HFa := Lib.hid H.fit
  have HFb := Lib.hid H2.fit
  rw [← hm, ← hn]
  have bz := bldZ
  have hq := eqC
  clear H H2 hm hn hN hL hb0 hc0 hW0
  by_cases h1 : m ≤ 60
  · have t1 : decide ((60 : Int) < (m : Int)) = false := by simp; omega
    by_cases h2 : n ≤ 60
    · have t2 : decide ((60 : Int) < (n : Int)) = false := by simp; omega
      go_enter Try.func6, Try.ntmps6
      go_wp2_with (rw [← HW.out])
      refine (wakes_any _).mono ?_
      rintro e w1 ⟨rfl, hb1⟩
      have hcb := HC0.out.below hb1
      have hbw := HB0.out.trans (hb1.mono HB0.out.size)
      have HB1 := Lib.hid (And.intro hcb hbw)
      have HK := Lib.hid (fun (X : World) (hX : Below w1.heap.size w1 X) => show CB X w.heap.size N L from hcb.below hX)
      have HRa := Lib.hid (fun (X : World) (hX : Below w1.heap.size w1 X) => show Read X A m 1 (a.map (Value.int .i64)) from by rw [HM.out]; exact Read.vec ((HVa.out.below hbw).below hX))
      have HRb := Lib.hid (fun (X : World) (hX : Below w1.heap.size w1 X) => show Read X B n 1 (b.map (Value.int .i64)) from by rw [HN.out]; exact Read.vec ((HVb.out.below hbw).below hX))
      obtain ⟨R1, R2, hR⟩ : ∃ R1 R2, rnC (a ++ b) (N, L) = (R1, R2) := ⟨_, _, rfl⟩
      obtain ⟨RL, hRL⟩ : ∃ RL, RL = rnL (a ++ b) (N, L) := ⟨_, rfl⟩
      obtain ⟨rl, hrl⟩ : ∃ rl, rl = RL.length := ⟨_, rfl⟩
      obtain ⟨E, hE⟩ : ∃ E, E = rnE (a ++ b) (N, L) := ⟨_, rfl⟩
      have HRun := Lib.hid (fun (X : World) (hX : Below w1.heap.size w1 X) (P : Option Addr) (q : Nat) (hv : Vec .i64 X P q (a ++ b)) => show Calls Try.prog 16 #[.agg #[.int .u64 N, .int .u64 L], .slice P (m + n) q] X (fun e w' => ∃ A1 c1, e = .returned (.tuple #[.agg #[.int .u64 R1, .int .u64 R2], .slice A1 rl c1, .int .i64 E]) ∧ OwnK .u64 22 X.heap.size w' A1 c1 RL ∧ Below X.heap.size X w') from by
        have := run_any (N, L) HU.out.1 HU.out.2 hv (by rw [← HMN.out]; omega)
        unfold GivesR at this
        rw [hR, ← hRL, ← hrl, ← hE, ← HMN.out] at this
        exact this)
      have HRes := Lib.hid (And.intro hR (And.intro hRL (And.intro hrl hE)))
      clear hb1 hcb hbw hR hRL hrl hE
      go_wp2
      refine Code.wp_mono (Q := (fun e a w2 => e = Exit.normal ∧ ∃ (A1 : Option Addr) (c1 g : Nat) (t30 t32 t34 : Value), a = { tmps := #[.agg #[.int .u64 N, .int .u64 L], .slice A m ca, .slice B n cb, .pointer (some ⟨w.heap.size, 0, none⟩), undef, undef, .bool false, .pointer (some ⟨g, 0, none⟩), .slice A1 rl c1, .int .i64 E, undef, undef, undef, undef, undef, undef, undef, undef, .bool true, .bool false, .slice A m ca, .int .i64 (m : Int), .bool false, .bool false, .slice B n cb, .int .i64 (n : Int), .bool false, .bool false, .tuple #[.agg #[.int .u64 R1, .int .u64 R2], .slice A1 rl c1, .int .i64 E], .agg #[.int .u64 N, .int .u64 L], t30, .slice A m ca, t32, .slice B n cb, t34, .tuple #[.agg #[.int .u64 R1, .int .u64 R2], .slice A1 rl c1, .int .i64 E], .agg #[.int .u64 R1, .int .u64 R2], .slice A1 rl c1, .int .i64 E, undef, undef, undef, undef, undef, undef, undef, undef, undef, undef, undef, undef, undef, undef, undef, undef, undef, undef, undef, undef, undef, undef, undef, undef, undef, undef, undef, undef, undef, undef, undef, undef, undef, undef, undef, undef, undef, undef, undef, undef, undef, undef, undef, undef, undef, undef, undef, undef, undef, undef, undef, undef, undef, undef, undef, undef, undef, undef, undef, undef, undef, undef], defers := [] } ∧ CB w2 g R1 R2 ∧ OwnK .u64 22 w1.heap.size w2 A1 c1 RL ∧ Below w1.heap.size w1 w2)) ?_ ?_
      · rintro e a2 w2 ⟨rfl, A1, c1, g, t30, t32, t34, rfl, hg, ho, hb2⟩
        obtain ⟨hR, hRL, hrl, hE⟩ := HRes.out
        have hcw := HK.out w2 hb2
        have c0 := hcw.c0
        have c1 := hcw.c1
        have hbw := HB1.out.2.trans (hb2.mono HB1.out.2.size)
        have hra := run_any (N, L) HU.out.1 HU.out.2 (HVa.out.below hbw) (by rw [← HM.out]; omega)
        unfold GivesR at hra
        rw [← HM.out] at hra
        obtain ⟨S1, S2, hS⟩ : ∃ S1 S2, rnC a (N, L) = (S1, S2) := ⟨_, _, rfl⟩
        obtain ⟨SL, hSL⟩ : ∃ SL, SL = rnL a (N, L) := ⟨_, rfl⟩
        obtain ⟨sl, hsl⟩ : ∃ sl, sl = SL.length := ⟨_, rfl⟩
        obtain ⟨F, hF⟩ : ∃ F, F = rnE a (N, L) := ⟨_, rfl⟩
        rw [hS, ← hSL, ← hsl, ← hF] at hra
        have HRa2 := Lib.hid hra
        have HP := Lib.hid (And.intro hg (And.intro ho hbw))
        by_cases hf : F = 0
        · subst hf
          have hok := rnE_zero hF.symm
          have hRt : Rt (N, L) := ⟨HU.out.1.1, (okC_iff.1 hok.1).1, HU.out.2.1, (okC_iff.1 hok.1).2⟩
          obtain ⟨p1, p2, p3⟩ := parts_ok (b := b) hRt hF.symm
          rw [hS, ← hE] at p1
          rw [hS, hR] at p2
          rw [hS, ← hRL, ← hSL] at p3
          have hfit := rnC_fit (a := a) (c := (N, L)) HU.out.1 HU.out.2
          rw [hS] at hfit
          obtain ⟨TL, hTL⟩ : ∃ TL, TL = rnL b (S1, S2) := ⟨_, rfl⟩
          obtain ⟨tl, htl⟩ : ∃ tl, tl = TL.length := ⟨_, rfl⟩
          rw [← hTL] at p3
          have hrs : rl = sl + tl := by rw [hrl, p3, List.length_append, hsl, htl]
          have HRb2 := Lib.hid (fun (X : World) (hX : Below w.heap.size w X) => show Calls Try.prog 16 #[.agg #[.int .u64 S1, .int .u64 S2], .slice B n cb] X (fun e w' => ∃ A1 c1, e = .returned (.tuple #[.agg #[.int .u64 R1, .int .u64 R2], .slice A1 tl c1, .int .i64 E]) ∧ OwnK .u64 22 X.heap.size w' A1 c1 TL ∧ Below X.heap.size X w') from by
            have := run_any (S1, S2) hfit.1 hfit.2 (HVb.out.below hX) (by rw [← HN.out]; omega)
            unfold GivesR at this
            rw [← p1, ← p2, ← hTL, ← htl, ← HN.out] at this
            exact this)
          have hsb : sl ≤ 60 := by
            rw [hsl, hSL]
            unfold rnL
            rw [hok.1, if_pos rfl]
            have := rn_len a (N, L) a.length
            rw [← HM.out] at this ⊢
            omega
          have htb : tl ≤ 60 := by
            rw [htl, hTL]
            unfold rnL
            split
            · have := rn_len b (S1, S2) b.length
              rw [← HN.out] at this ⊢
              omega
            · simp
          have HLs := Lib.hid (And.intro p3 (And.intro hsl (And.intro htl hrl)))
          have q1 : (R1 == R1) = true := by simp
          have q2 : (R2 == R2) = true := by simp
          have q3 : (E != E) = false := by simp
          have q4 : ((rl : Int) != ((sl : Int) + (tl : Int))) = false := by simp; omega
          have q5 : ((rl : Int) == ((sl : Int) + (tl : Int))) = true := by simp; omega
          subst hrs
          clear hR hRL hrl hE hcw hbw hra hS hSL hsl hF hok hRt p1 p2 p3 hfit hTL htl hg ho hb2
          go_wp2_with fail
          refine HRa2.out.mono ?_
          rintro e w3 ⟨A3, c3, rfl, ho3, hb3⟩
          obtain ⟨hg, ho, hbw⟩ := HP.out
          have hb4 := below_tr hb3 (bel1 w3 (.cells #[.int .u64 S1, .int .u64 S2] 24))
          have hy := CB.new w3 S1 S2
          have y0 := hy.c0
          have y1 := hy.c1
          have HP4 := Lib.hid (And.intro (hg.below hb4) (And.intro (ho.below hb4) (And.intro (ho3.below (bel1 w3 (.cells #[.int .u64 S1, .int .u64 S2] 24))) (hbw.trans (hb4.mono hbw.size)))))
          clear hg ho hbw ho3 hb3 hb4 hy
          go_wp2_with fail
          refine (HRb2.out _ HP4.out.2.2.2).mono ?_
          rintro e w5 ⟨A5, c5, rfl, ho5, hb5⟩
          obtain ⟨hg, ho, ho3, hbw⟩ := HP4.out
          have hb6 := below_tr hb5 (bel1 w5 (.cells #[.int .u64 R1, .int .u64 R2] 24))
          have hz := CB.new w5 R1 R2
          have z0 := hz.c0
          have z1 := hz.c1
          have hg := hg.below hb6
          have g0 := hg.c0
          have g1 := hg.c1
          have HP6 := Lib.hid (And.intro (ho.below hb6) (And.intro (ho3.below hb6) (And.intro (ho5.below (bel1 w5 (.cells #[.int .u64 R1, .int .u64 R2] 24))) (hbw.trans (hb6.mono hbw.size)))))
          clear hg ho hbw ho3 ho5 hb5 hb6 hz
          obtain ⟨W6, hW6⟩ : ∃ W6, W6 = w5.alloc (.cells #[.int .u64 R1, .int .u64 R2] 24) := ⟨_, rfl⟩
          rw [← hW6] at HP6 z0 z1 g0 g1
          have HW6 := Lib.hid hW6
          clear hW6
          have HO7 := Lib.hid (show (W6.alloc (.cells #[] 22)).ownsRow W6.heap.size 22 1 (.slice (some ⟨W6.heap.size, 0, none⟩) 0 0) 0 [] from own_none .u64 22 W6)
          have HB7 := Lib.hid (bel1 W6 (.cells #[] 22))
          have HS7 := Lib.hid (show Read (W6.alloc (.cells #[] 22)) A3 sl 1 (SL.map (Value.int .u64)) from by rw [HLs.out.2.1]; exact Read.vec (HP6.out.2.1.below HB7.out).vec)
          go_wp2_with (first
            | (rw [← HW6.out])
            | (at_builtin; refine gapp_at rfl (.tmp 83) (.tmp 84) appU rfl W6.heap.size (some ⟨W6.heap.size, 0, none⟩) 0 0 [] rfl HO7.out A3 c3 sl (SL.map (Value.int .u64)) rfl HS7.out (by omega) HB7.out.size ?_; intro P8 d8 w8 ho8 hg8 _; rw [Nat.zero_add, List.nil_append] at ho8; rw [Nat.zero_add]; have hb8 : Below W6.heap.size W6 w8 := HB7.out.trans (grown_bel hg8 HB7.out.size (fun i hi => (World.ownsRow.lt HO7.out i (by rw [own_blk]; exact hi)).1)); have HO8 := Lib.hid ho8; have HB8 := Lib.hid hb8; have HT8 := Lib.hid (show Read w8 A5 tl 1 (TL.map (Value.int .u64)) from by rw [HLs.out.2.2.1]; exact Read.vec (HP6.out.2.2.1.below hb8).vec); clear ho8 hg8 hb8)
            | (at_builtin; refine gapp_at rfl (.tmp 85) (.tmp 86) appU rfl W6.heap.size P8 d8 sl (SL.map (Value.int .u64)) rfl HO8.out A5 c5 tl (TL.map (Value.int .u64)) rfl HT8.out (by omega) HB8.out.size ?_; intro P9 d9 w9 ho9 hg9 _; have hb9 : Below W6.heap.size W6 w9 := HB8.out.trans (grown_bel hg9 HB8.out.size (fun i hi => (World.ownsRow.lt HO8.out i (by rw [own_blk]; exact hi)).1)); have HO9 := Lib.hid ho9; have HB9 := Lib.hid hb9; clear ho9 hg9 hb9)
            | fail)
          obtain ⟨ho, ho3, ho5, hbw⟩ := HP6.out
          obtain ⟨p3, hsl, htl, hrl⟩ := HLs.out
          have hv1 := (ho.below HB9.out).vec
          have hfit : ∀ x ∈ RL, (Lit.int .u64 x).wf = true := ho.2
          have hv2 : Vec .u64 w9 P9 d9 RL := OwnK.vec (base := W6.heap.size) (t := 22) ⟨by rw [← hrl, p3, List.map_append]; exact HO9.out, hfit⟩
          have HV1 := Lib.hid hv1
          have HV2 := Lib.hid hv2
          have HRl := Lib.hid hrl
          have HB10 := Lib.hid (hbw.trans (HB9.out.mono hbw.size))
          obtain ⟨m2, hm2⟩ : ∃ m2, m2 = sl + tl := ⟨_, rfl⟩
          have hmb : m2 ≤ 120 := by omega
          rw [← hm2] at HRl
          clear ho ho3 ho5 hbw p3 hsl htl hrl hv1 hv2 hfit
          try rw [← hm2]
          have HM2 := Lib.hid hm2
          clear hm2 q4 q5 hsb htb
          go_loopw [89] (fun i wr => ∃ k : Nat, k ≤ m2 ∧ i = .int .i64 k ∧ wr = w9) (fun i _ => m2 - (intOf i).toNat)
          case atStart => exact ⟨0, Nat.zero_le _, rfl, rfl⟩
          case round =>
            obtain ⟨k, hk, rfl, rfl⟩ := hrel
            by_cases hkm : k < m2
            · obtain ⟨b1, o1, rfl, _, hx1⟩ := HV1.out.at_ (j := k) (by rw [← HRl.out]; exact hkm)
              obtain ⟨b2, o2, rfl, _, hx2⟩ := HV2.out.at_ (j := k) (by rw [← HRl.out]; exact hkm)
              have k0 : (0 : Int) ≤ k := by omega
              have km : (k : Int) < m2 := by omega
              have km2 : (k : Int) < (sl : Int) + (tl : Int) := by have := HM2.out; omega
              generalize RL.getD k 0 = x at *
              have x1 : (x != x) = false := by simp
              have x2 : (x == x) = true := by simp
              go_wp2
              go_roundw
              case rel => exact ⟨k + 1, by omega, by go_num, by simp⟩
              case measure => simp [intOf]; omega
            · obtain rfl : k = m2 := by omega
              have km2 : ¬ ((k : Int) < (sl : Int) + (tl : Int)) := by have := HM2.out; omega
              go_wp2
              refine bodyPost_ret (v := .bool true) (by simp [results, Try.results6, go_sem]) rfl ?_
              exact ⟨rfl, HB10.out⟩
        · have hpe := parts_err (a := a) (b := b) (c := (N, L)) (by rw [← hF]; exact hf)
          rw [← hE, ← hF] at hpe
          rw [← hRL, ← hSL] at hpe
          have hlen : rl = sl := by rw [hrl, hsl, hpe.2]
          have heq := hpe.1
          subst hlen
          subst heq
          have q1 : (E != 0) = true := by simpa using hf
          have q2 : (E == 0) = false := by simpa using hf
          have q3 : (E == E) = true := by simp
          clear hR hRL hrl hE hcw hbw hra hS hSL hsl hF hpe hg ho hb2 hf
          go_wp2_with fail
          refine HRa2.out.mono ?_
          rintro e w3 ⟨A3, c3, rfl, ho3, hb3⟩
          have HP4 := Lib.hid (HP.out.2.2.trans ((below_tr hb3 (bel1 w3 (.cells #[.int .u64 S1, .int .u64 S2] 24))).mono HP.out.2.2.size))
          clear ho3 hb3
          go_wp2
          go_ret
          exact ⟨by simp, HP4.out⟩
      · refine wp_region_any (by kernel_rfl) ?_
        change wpAny _ _ _ _ _ _ _ (World.drew _)
        obtain ⟨X0, hX0⟩ : ∃ X0, X0 = w1.drew := ⟨_, rfl⟩
        have HB0' := Lib.hid (show Below w1.heap.size w1 X0 from by rw [hX0]; exact below_drew (Below.refl _ _))
        rw [← hX0]
        clear hX0 HB0
        have HB0 := HB0'
        clear HB0'
        simp only [List.size_toArray, List.length_cons, List.length_nil, Nat.reduceAdd, Array.replicate_succ, Array.replicate_zero, List.push_toArray, List.nil_append, List.cons_append]
        refine wpAny_take (i := 2) (v := .slice A m ca) rfl (by kernel_rfl) (by kernel_rfl) (by kernel_rfl) (fun _ _ _ h => nomatch h.1) (Or.inl ⟨by rfl, fun w => by go_simp⟩) ?_
        refine wpAny_take (i := 4) (v := .slice B n cb) rfl (by kernel_rfl) (by kernel_rfl) (by kernel_rfl) (fun _ _ _ h => nomatch h.1) (Or.inl ⟨by rfl, fun w => by go_simp⟩) ?_
        refine wpAny_ready (rs := [0, 1, 11]) (by kernel_rfl) (by simp) ?_
        refine AllReady.cons rfl (fun K hK => ?_) ?_
        ·
          have k0 := (HK.out _ HB0.out).c0
          have k1 := (HK.out _ HB0.out).c1
          go_simp
          refine hK _ _ ?_
          clear hK K
          clear k0 k1
          refine wpAny_ready (rs := [1, 11]) (by kernel_rfl) (by simp) ?_
          refine AllReady.cons rfl (fun K hK => ?_) ?_
          ·
            go_simp
            refine hK _ _ ?_
            clear hK K
            obtain ⟨X1, hX⟩ : ∃ X, X = X0.alloc (.cells #[] 2) := ⟨_, rfl⟩
            rw [← hX]
            have hb : Below X0.heap.size X0 X1 := by rw [hX]; exact bel1 _ _
            have HB1 := Lib.hid (HB0.out.trans (hb.mono HB0.out.size))
            have HO1 := Lib.hid (show X1.ownsRow w1.heap.size 2 1 (.slice (some ⟨X0.heap.size, 0, none⟩) 0 0) 0 [] from by rw [hX]; exact World.ownsRow_lit (base := w1.heap.size) (size := 1) (e := 2) X0 #[] 0 HB0.out.size (by decide) rfl)
            clear hb hX
            refine wpAny_ready (rs := [3, 11]) (by kernel_rfl) (by simp) ?_
            refine AllReady.cons rfl (fun K hK => ?_) ?_
            ·
              refine gapp_step rfl (.tmp 30) (.tmp 31) appL rfl w1.heap.size (some ⟨X0.heap.size, 0, none⟩) 0 0 [] rfl HO1.out A ca m (a.map (Value.int .i64)) rfl (HRa.out _ HB1.out) (by omega) HB1.out.size ?_
              intro P2 q2 X2 ho hg _
              rw [Nat.zero_add, List.nil_append] at ho
              rw [Nat.zero_add]
              have HB2 := Lib.hid (HB1.out.trans (grown_bel hg HB1.out.size (fun i hi => (World.ownsRow.lt HO1.out i (by rw [own_blk]; exact hi)).1)))
              have HO2 := Lib.hid ho
              clear ho hg
              refine hK _ _ ?_
              clear hK K
              refine wpAny_ready (rs := [5, 11]) (by kernel_rfl) (by simp) ?_
              refine AllReady.cons rfl (fun K hK => ?_) ?_
              ·
                refine gapp_step rfl (.tmp 32) (.tmp 33) appL rfl w1.heap.size P2 q2 m (a.map (Value.int .i64)) rfl HO2.out B cb n (b.map (Value.int .i64)) rfl (HRb.out _ HB2.out) (by omega) HB2.out.size ?_
                intro P3 q3 X3 ho hg _
                have HB3 := Lib.hid (HB2.out.trans (grown_bel hg HB2.out.size (fun i hi => (World.ownsRow.lt HO2.out i (by rw [own_blk]; exact hi)).1)))
                have HO3 := Lib.hid ho
                clear ho hg
                refine hK _ _ ?_
                clear hK K
                refine wpAny_ready (rs := [6, 11]) (by kernel_rfl) (by simp) ?_
                refine AllReady.cons rfl (fun K hK => ?_) ?_
                ·
                  have hr := HRun.out _ HB3.out P3 q3 (two_rows HO3.out HMN.out HFa.out HFb.out)
                  go_simp
                  refine hr.mono ?_
                  rintro e X4 ⟨A1, c1, rfl, ho, hb⟩
                  have HB4 := Lib.hid (HB3.out.trans (hb.mono HB3.out.size))
                  have HR4 := Lib.hid (ho.mono HB3.out.size)
                  clear ho hb hr
                  refine hK _ _ ?_
                  clear hK K
                  refine wpAny_take (i := 7) (v := .tuple #[.agg #[.int .u64 R1, .int .u64 R2], .slice A1 rl c1, .int .i64 E]) rfl (by kernel_rfl) (by kernel_rfl) (by kernel_rfl) (fun _ _ _ h => nomatch h.1) (Or.inl ⟨by rfl, fun w => by go_simp⟩) ?_
                  refine wpAny_take (i := 8) (v := .agg #[.int .u64 R1, .int .u64 R2]) rfl (by kernel_rfl) (by kernel_rfl) (by kernel_rfl) (fun _ _ _ h => nomatch h.1) (Or.inl ⟨by rfl, fun w => by go_simp⟩) ?_
                  refine wpAny_take (i := 9) (v := .slice A1 rl c1) rfl (by kernel_rfl) (by kernel_rfl) (by kernel_rfl) (fun _ _ _ h => nomatch h.1) (Or.inl ⟨by rfl, fun w => by go_simp⟩) ?_
                  refine wpAny_take (i := 10) (v := .int .i64 E) rfl (by kernel_rfl) (by kernel_rfl) (by kernel_rfl) (fun _ _ _ h => nomatch h.1) (Or.inl ⟨by rfl, fun w => by go_simp⟩) ?_
                  refine wpAny_ready (rs := [11]) (by kernel_rfl) (by simp) ?_
                  refine AllReady.cons rfl (fun K hK => ?_) AllReady.nil
                  go_simp
                  refine hK _ _ ?_
                  clear hK K
                  obtain ⟨X5, hX⟩ : ∃ X, X = X4.alloc (.cells #[.int .u64 0, .int .u64 0] 24) := ⟨_, rfl⟩
                  rw [← hX]
                  have hb : Below X4.heap.size X4 X5 := by rw [hX]; exact bel1 _ _
                  have HB5 := Lib.hid (HB4.out.trans (hb.mono HB4.out.size))
                  have HG5 := Lib.hid (show CB X5 X4.heap.size 0 0 from by rw [hX]; exact CB.new _ _ _)
                  have hlow5 : w1.heap.size ≤ X4.heap.size := HB4.out.size
                  have HR5 := Lib.hid (HR4.out.below hb)
                  clear hb hX
                  refine wpAny_ready (rs := [12]) (by kernel_rfl) (by simp) ?_
                  refine AllReady.cons rfl (fun K hK => ?_) AllReady.nil
                  have k_c0 := HG5.out.c0
                  have k_c1 := HG5.out.c1
                  have k_f0 := HG5.out.f0
                  have k_f1 := HG5.out.f1
                  go_simp
                  refine hK _ _ ?_
                  clear hK K
                  obtain ⟨X6, hX⟩ : ∃ X, X = (X5.setCell ⟨X4.heap.size, 0, none⟩ (.int .u64 R1)).setCell ⟨X4.heap.size, 1, none⟩ (.int .u64 R2) := ⟨_, rfl⟩
                  rw [← hX]
                  have HG6 := Lib.hid (show CB X6 X4.heap.size R1 R2 from by rw [hX]; exact (HG5.out.set0 R1).set1 R2)
                  have ht : Turn (fun i => i = X4.heap.size) X5 X6 := by rw [hX]; exact (turn_set _ _ _ _).trans (turn_set _ _ _ _) (fun i hi => .inl hi)
                  have HB6 := Lib.hid (HB5.out.trans (ht.below HB5.out.size (fun i hi => by have := hlow5; omega)))
                  have HR6 := Lib.hid (HR5.out.turn ht (fun i hi e => own_not_clock HR5.out.1 i hi (by rw [e]; exact ⟨_, HG5.out⟩)))
                  clear ht hX k_c0 k_c1 k_f0 k_f1
                  refine wpAny_ready (rs := [13]) (by kernel_rfl) (by simp) ?_
                  refine AllReady.cons rfl (fun K hK => ?_) AllReady.nil
                  go_simp
                  refine hK _ _ ?_
                  clear hK K
                  refine wpAny_ready (rs := [14]) (by kernel_rfl) (by simp) ?_
                  refine AllReady.cons rfl (fun K hK => ?_) AllReady.nil
                  go_simp
                  refine hK _ _ ?_
                  clear hK K
                  refine wpAny_done (by kernel_rfl) ?_ _
                  exact ⟨rfl, A1, c1, _, _, _, _, rfl, HG6.out, HR6.out, HB6.out⟩
                refine AllReady.cons rfl (fun K hK => ?_) ?_
                ·
                  go_simp
                  refine hK _ _ ?_
                  clear hK K
                  obtain ⟨X7, hX⟩ : ∃ X, X = X3.alloc (.cells #[.int .u64 0, .int .u64 0] 24) := ⟨_, rfl⟩
                  rw [← hX]
                  have hb : Below X3.heap.size X3 X7 := by rw [hX]; exact bel1 _ _
                  have HB7 := Lib.hid (HB3.out.trans (hb.mono HB3.out.size))
                  have HO7 := Lib.hid (row_turn HO3.out (Turn.of_below (S := fun _ => False) hb) (fun _ _ e => e))
                  have HG7 := Lib.hid (show CB X7 X3.heap.size 0 0 from by rw [hX]; exact CB.new _ _ _)
                  have hlow7 : w1.heap.size ≤ X3.heap.size := HB3.out.size
                  clear hb hX
                  refine wpAny_ready (rs := [6]) (by kernel_rfl) (by simp) ?_
                  refine AllReady.cons rfl (fun K hK => ?_) AllReady.nil
                  have hr := HRun.out _ HB7.out P3 q3 (two_rows HO7.out HMN.out HFa.out HFb.out)
                  go_simp
                  refine hr.mono ?_
                  rintro e X8 ⟨A1, c1, rfl, ho, hb⟩
                  have HB8 := Lib.hid (HB7.out.trans (hb.mono HB7.out.size))
                  have HR8 := Lib.hid (ho.mono HB7.out.size)
                  have HG8 := Lib.hid (HG7.out.below hb)
                  clear ho hb hr
                  refine hK _ _ ?_
                  clear hK K
                  refine wpAny_take (i := 7) (v := .tuple #[.agg #[.int .u64 R1, .int .u64 R2], .slice A1 rl c1, .int .i64 E]) rfl (by kernel_rfl) (by kernel_rfl) (by kernel_rfl) (fun _ _ _ h => nomatch h.1) (Or.inl ⟨by rfl, fun w => by go_simp⟩) ?_
                  refine wpAny_take (i := 8) (v := .agg #[.int .u64 R1, .int .u64 R2]) rfl (by kernel_rfl) (by kernel_rfl) (by kernel_rfl) (fun _ _ _ h => nomatch h.1) (Or.inl ⟨by rfl, fun w => by go_simp⟩) ?_
                  refine wpAny_take (i := 9) (v := .slice A1 rl c1) rfl (by kernel_rfl) (by kernel_rfl) (by kernel_rfl) (fun _ _ _ h => nomatch h.1) (Or.inl ⟨by rfl, fun w => by go_simp⟩) ?_
                  refine wpAny_take (i := 10) (v := .int .i64 E) rfl (by kernel_rfl) (by kernel_rfl) (by kernel_rfl) (fun _ _ _ h => nomatch h.1) (Or.inl ⟨by rfl, fun w => by go_simp⟩) ?_
                  refine wpAny_ready (rs := [12]) (by kernel_rfl) (by simp) ?_
                  refine AllReady.cons rfl (fun K hK => ?_) AllReady.nil
                  have k_c0 := HG8.out.c0
                  have k_c1 := HG8.out.c1
                  have k_f0 := HG8.out.f0
                  have k_f1 := HG8.out.f1
                  go_simp
                  refine hK _ _ ?_
                  clear hK K
                  obtain ⟨X9, hX⟩ : ∃ X, X = (X8.setCell ⟨X3.heap.size, 0, none⟩ (.int .u64 R1)).setCell ⟨X3.heap.size, 1, none⟩ (.int .u64 R2) := ⟨_, rfl⟩
                  rw [← hX]
                  have HG9 := Lib.hid (show CB X9 X3.heap.size R1 R2 from by rw [hX]; exact (HG8.out.set0 R1).set1 R2)
                  have ht : Turn (fun i => i = X3.heap.size) X8 X9 := by rw [hX]; exact (turn_set _ _ _ _).trans (turn_set _ _ _ _) (fun i hi => .inl hi)
                  have HB9 := Lib.hid (HB8.out.trans (ht.below HB8.out.size (fun i hi => by have := hlow7; omega)))
                  have HR9 := Lib.hid (HR8.out.turn ht (fun i hi e => own_not_clock HR8.out.1 i hi (by rw [e]; exact ⟨_, HG8.out⟩)))
                  clear ht hX k_c0 k_c1 k_f0 k_f1
                  refine wpAny_ready (rs := [13]) (by kernel_rfl) (by simp) ?_
                  refine AllReady.cons rfl (fun K hK => ?_) AllReady.nil
                  go_simp
                  refine hK _ _ ?_
                  clear hK K
                  refine wpAny_ready (rs := [14]) (by kernel_rfl) (by simp) ?_
                  refine AllReady.cons rfl (fun K hK => ?_) AllReady.nil
                  go_simp
                  refine hK _ _ ?_
                  clear hK K
                  refine wpAny_done (by kernel_rfl) ?_ _
                  exact ⟨rfl, A1, c1, _, _, _, _, rfl, HG9.out, HR9.out, HB9.out⟩
                exact AllReady.nil
              refine AllReady.cons rfl (fun K hK => ?_) ?_
              ·
                go_simp
                refine hK _ _ ?_
                clear hK K
                obtain ⟨X10, hX⟩ : ∃ X, X = X2.alloc (.cells #[.int .u64 0, .int .u64 0] 24) := ⟨_, rfl⟩
                rw [← hX]
                have hb : Below X2.heap.size X2 X10 := by rw [hX]; exact bel1 _ _
                have HB10 := Lib.hid (HB2.out.trans (hb.mono HB2.out.size))
                have HO10 := Lib.hid (row_turn HO2.out (Turn.of_below (S := fun _ => False) hb) (fun _ _ e => e))
                have HG10 := Lib.hid (show CB X10 X2.heap.size 0 0 from by rw [hX]; exact CB.new _ _ _)
                have hlow10 : w1.heap.size ≤ X2.heap.size := HB2.out.size
                clear hb hX
                refine wpAny_ready (rs := [5]) (by kernel_rfl) (by simp) ?_
                refine AllReady.cons rfl (fun K hK => ?_) AllReady.nil
                refine gapp_step rfl (.tmp 32) (.tmp 33) appL rfl w1.heap.size P2 q2 m (a.map (Value.int .i64)) rfl HO10.out B cb n (b.map (Value.int .i64)) rfl (HRb.out _ HB10.out) (by omega) HB10.out.size ?_
                intro P11 q11 X11 ho hg _
                have HB11 := Lib.hid (HB10.out.trans (grown_bel hg HB10.out.size (fun i hi => (World.ownsRow.lt HO10.out i (by rw [own_blk]; exact hi)).1)))
                have HO11 := Lib.hid ho
                have HG11 := Lib.hid (HG10.out.turn (Turn.of_grown hg (fun i hi => .inl hi)) (fun e => row_not_clock HO10.out _ e ⟨_, HG10.out⟩))
                clear ho hg
                refine hK _ _ ?_
                clear hK K
                refine wpAny_ready (rs := [6]) (by kernel_rfl) (by simp) ?_
                refine AllReady.cons rfl (fun K hK => ?_) AllReady.nil
                have hr := HRun.out _ HB11.out P11 q11 (two_rows HO11.out HMN.out HFa.out HFb.out)
                go_simp
                refine hr.mono ?_
                rintro e X12 ⟨A1, c1, rfl, ho, hb⟩
                have HB12 := Lib.hid (HB11.out.trans (hb.mono HB11.out.size))
                have HR12 := Lib.hid (ho.mono HB11.out.size)
                have HG12 := Lib.hid (HG11.out.below hb)
                clear ho hb hr
                refine hK _ _ ?_
                clear hK K
                refine wpAny_take (i := 7) (v := .tuple #[.agg #[.int .u64 R1, .int .u64 R2], .slice A1 rl c1, .int .i64 E]) rfl (by kernel_rfl) (by kernel_rfl) (by kernel_rfl) (fun _ _ _ h => nomatch h.1) (Or.inl ⟨by rfl, fun w => by go_simp⟩) ?_
                refine wpAny_take (i := 8) (v := .agg #[.int .u64 R1, .int .u64 R2]) rfl (by kernel_rfl) (by kernel_rfl) (by kernel_rfl) (fun _ _ _ h => nomatch h.1) (Or.inl ⟨by rfl, fun w => by go_simp⟩) ?_
                refine wpAny_take (i := 9) (v := .slice A1 rl c1) rfl (by kernel_rfl) (by kernel_rfl) (by kernel_rfl) (fun _ _ _ h => nomatch h.1) (Or.inl ⟨by rfl, fun w => by go_simp⟩) ?_
                refine wpAny_take (i := 10) (v := .int .i64 E) rfl (by kernel_rfl) (by kernel_rfl) (by kernel_rfl) (fun _ _ _ h => nomatch h.1) (Or.inl ⟨by rfl, fun w => by go_simp⟩) ?_
                refine wpAny_ready (rs := [12]) (by kernel_rfl) (by simp) ?_
                refine AllReady.cons rfl (fun K hK => ?_) AllReady.nil
                have k_c0 := HG12.out.c0
                have k_c1 := HG12.out.c1
                have k_f0 := HG12.out.f0
                have k_f1 := HG12.out.f1
                go_simp
                refine hK _ _ ?_
                clear hK K
                obtain ⟨X13, hX⟩ : ∃ X, X = (X12.setCell ⟨X2.heap.size, 0, none⟩ (.int .u64 R1)).setCell ⟨X2.heap.size, 1, none⟩ (.int .u64 R2) := ⟨_, rfl⟩
                rw [← hX]
                have HG13 := Lib.hid (show CB X13 X2.heap.size R1 R2 from by rw [hX]; exact (HG12.out.set0 R1).set1 R2)
                have ht : Turn (fun i => i = X2.heap.size) X12 X13 := by rw [hX]; exact (turn_set _ _ _ _).trans (turn_set _ _ _ _) (fun i hi => .inl hi)
                have HB13 := Lib.hid (HB12.out.trans (ht.below HB12.out.size (fun i hi => by have := hlow10; omega)))
                have HR13 := Lib.hid (HR12.out.turn ht (fun i hi e => own_not_clock HR12.out.1 i hi (by rw [e]; exact ⟨_, HG12.out⟩)))
                clear ht hX k_c0 k_c1 k_f0 k_f1
                refine wpAny_ready (rs := [13]) (by kernel_rfl) (by simp) ?_
                refine AllReady.cons rfl (fun K hK => ?_) AllReady.nil
                go_simp
                refine hK _ _ ?_
                clear hK K
                refine wpAny_ready (rs := [14]) (by kernel_rfl) (by simp) ?_
                refine AllReady.cons rfl (fun K hK => ?_) AllReady.nil
                go_simp
                refine hK _ _ ?_
                clear hK K
                refine wpAny_done (by kernel_rfl) ?_ _
                exact ⟨rfl, A1, c1, _, _, _, _, rfl, HG13.out, HR13.out, HB13.out⟩
              exact AllReady.nil
            refine AllReady.cons rfl (fun K hK => ?_) ?_
            ·
              go_simp
              refine hK _ _ ?_
              clear hK K
              obtain ⟨X14, hX⟩ : ∃ X, X = X1.alloc (.cells #[.int .u64 0, .int .u64 0] 24) := ⟨_, rfl⟩
              rw [← hX]
              have hb : Below X1.heap.size X1 X14 := by rw [hX]; exact bel1 _ _
              have HB14 := Lib.hid (HB1.out.trans (hb.mono HB1.out.size))
              have HO14 := Lib.hid (row_turn HO1.out (Turn.of_below (S := fun _ => False) hb) (fun _ _ e => e))
              have HG14 := Lib.hid (show CB X14 X1.heap.size 0 0 from by rw [hX]; exact CB.new _ _ _)
              have hlow14 : w1.heap.size ≤ X1.heap.size := HB1.out.size
              clear hb hX
              refine wpAny_ready (rs := [3]) (by kernel_rfl) (by simp) ?_
              refine AllReady.cons rfl (fun K hK => ?_) AllReady.nil
              refine gapp_step rfl (.tmp 30) (.tmp 31) appL rfl w1.heap.size (some ⟨X0.heap.size, 0, none⟩) 0 0 [] rfl HO14.out A ca m (a.map (Value.int .i64)) rfl (HRa.out _ HB14.out) (by omega) HB14.out.size ?_
              intro P15 q15 X15 ho hg _
              rw [Nat.zero_add, List.nil_append] at ho
              rw [Nat.zero_add]
              have HB15 := Lib.hid (HB14.out.trans (grown_bel hg HB14.out.size (fun i hi => (World.ownsRow.lt HO14.out i (by rw [own_blk]; exact hi)).1)))
              have HO15 := Lib.hid ho
              have HG15 := Lib.hid (HG14.out.turn (Turn.of_grown hg (fun i hi => .inl hi)) (fun e => row_not_clock HO14.out _ e ⟨_, HG14.out⟩))
              clear ho hg
              refine hK _ _ ?_
              clear hK K
              refine wpAny_ready (rs := [5]) (by kernel_rfl) (by simp) ?_
              refine AllReady.cons rfl (fun K hK => ?_) AllReady.nil
              refine gapp_step rfl (.tmp 32) (.tmp 33) appL rfl w1.heap.size P15 q15 m (a.map (Value.int .i64)) rfl HO15.out B cb n (b.map (Value.int .i64)) rfl (HRb.out _ HB15.out) (by omega) HB15.out.size ?_
              intro P16 q16 X16 ho hg _
              have HB16 := Lib.hid (HB15.out.trans (grown_bel hg HB15.out.size (fun i hi => (World.ownsRow.lt HO15.out i (by rw [own_blk]; exact hi)).1)))
              have HO16 := Lib.hid ho
              have HG16 := Lib.hid (HG15.out.turn (Turn.of_grown hg (fun i hi => .inl hi)) (fun e => row_not_clock HO15.out _ e ⟨_, HG15.out⟩))
              clear ho hg
              refine hK _ _ ?_
              clear hK K
              refine wpAny_ready (rs := [6]) (by kernel_rfl) (by simp) ?_
              refine AllReady.cons rfl (fun K hK => ?_) AllReady.nil
              have hr := HRun.out _ HB16.out P16 q16 (two_rows HO16.out HMN.out HFa.out HFb.out)
              go_simp
              refine hr.mono ?_
              rintro e X17 ⟨A1, c1, rfl, ho, hb⟩
              have HB17 := Lib.hid (HB16.out.trans (hb.mono HB16.out.size))
              have HR17 := Lib.hid (ho.mono HB16.out.size)
              have HG17 := Lib.hid (HG16.out.below hb)
              clear ho hb hr
              refine hK _ _ ?_
              clear hK K
              refine wpAny_take (i := 7) (v := .tuple #[.agg #[.int .u64 R1, .int .u64 R2], .slice A1 rl c1, .int .i64 E]) rfl (by kernel_rfl) (by kernel_rfl) (by kernel_rfl) (fun _ _ _ h => nomatch h.1) (Or.inl ⟨by rfl, fun w => by go_simp⟩) ?_
              refine wpAny_take (i := 8) (v := .agg #[.int .u64 R1, .int .u64 R2]) rfl (by kernel_rfl) (by kernel_rfl) (by kernel_rfl) (fun _ _ _ h => nomatch h.1) (Or.inl ⟨by rfl, fun w => by go_simp⟩) ?_
              refine wpAny_take (i := 9) (v := .slice A1 rl c1) rfl (by kernel_rfl) (by kernel_rfl) (by kernel_rfl) (fun _ _ _ h => nomatch h.1) (Or.inl ⟨by rfl, fun w => by go_simp⟩) ?_
              refine wpAny_take (i := 10) (v := .int .i64 E) rfl (by kernel_rfl) (by kernel_rfl) (by kernel_rfl) (fun _ _ _ h => nomatch h.1) (Or.inl ⟨by rfl, fun w => by go_simp⟩) ?_
              refine wpAny_ready (rs := [12]) (by kernel_rfl) (by simp) ?_
              refine AllReady.cons rfl (fun K hK => ?_) AllReady.nil
              have k_c0 := HG17.out.c0
              have k_c1 := HG17.out.c1
              have k_f0 := HG17.out.f0
              have k_f1 := HG17.out.f1
              go_simp
              refine hK _ _ ?_
              clear hK K
              obtain ⟨X18, hX⟩ : ∃ X, X = (X17.setCell ⟨X1.heap.size, 0, none⟩ (.int .u64 R1)).setCell ⟨X1.heap.size, 1, none⟩ (.int .u64 R2) := ⟨_, rfl⟩
              rw [← hX]
              have HG18 := Lib.hid (show CB X18 X1.heap.size R1 R2 from by rw [hX]; exact (HG17.out.set0 R1).set1 R2)
              have ht : Turn (fun i => i = X1.heap.size) X17 X18 := by rw [hX]; exact (turn_set _ _ _ _).trans (turn_set _ _ _ _) (fun i hi => .inl hi)
              have HB18 := Lib.hid (HB17.out.trans (ht.below HB17.out.size (fun i hi => by have := hlow14; omega)))
              have HR18 := Lib.hid (HR17.out.turn ht (fun i hi e => own_not_clock HR17.out.1 i hi (by rw [e]; exact ⟨_, HG17.out⟩)))
              clear ht hX k_c0 k_c1 k_f0 k_f1
              refine wpAny_ready (rs := [13]) (by kernel_rfl) (by simp) ?_
              refine AllReady.cons rfl (fun K hK => ?_) AllReady.nil
              go_simp
              refine hK _ _ ?_
              clear hK K
              refine wpAny_ready (rs := [14]) (by kernel_rfl) (by simp) ?_
              refine AllReady.cons rfl (fun K hK => ?_) AllReady.nil
              go_simp
              refine hK _ _ ?_
              clear hK K
              refine wpAny_done (by kernel_rfl) ?_ _
              exact ⟨rfl, A1, c1, _, _, _, _, rfl, HG18.out, HR18.out, HB18.out⟩
            exact AllReady.nil
          refine AllReady.cons rfl (fun K hK => ?_) ?_
          ·
            go_simp
            refine hK _ _ ?_
            clear hK K
            obtain ⟨X19, hX⟩ : ∃ X, X = X0.alloc (.cells #[.int .u64 0, .int .u64 0] 24) := ⟨_, rfl⟩
            rw [← hX]
            have hb : Below X0.heap.size X0 X19 := by rw [hX]; exact bel1 _ _
            have HB19 := Lib.hid (HB0.out.trans (hb.mono HB0.out.size))
            have HG19 := Lib.hid (show CB X19 X0.heap.size 0 0 from by rw [hX]; exact CB.new _ _ _)
            have hlow19 : w1.heap.size ≤ X0.heap.size := HB0.out.size
            clear hb hX
            refine wpAny_ready (rs := [1]) (by kernel_rfl) (by simp) ?_
            refine AllReady.cons rfl (fun K hK => ?_) AllReady.nil
            go_simp
            refine hK _ _ ?_
            clear hK K
            obtain ⟨X20, hX⟩ : ∃ X, X = X19.alloc (.cells #[] 2) := ⟨_, rfl⟩
            rw [← hX]
            have hb : Below X19.heap.size X19 X20 := by rw [hX]; exact bel1 _ _
            have HB20 := Lib.hid (HB19.out.trans (hb.mono HB19.out.size))
            have HO20 := Lib.hid (show X20.ownsRow w1.heap.size 2 1 (.slice (some ⟨X19.heap.size, 0, none⟩) 0 0) 0 [] from by rw [hX]; exact World.ownsRow_lit (base := w1.heap.size) (size := 1) (e := 2) X19 #[] 0 HB19.out.size (by decide) rfl)
            have HG20 := Lib.hid (HG19.out.below hb)
            clear hb hX
            refine wpAny_ready (rs := [3]) (by kernel_rfl) (by simp) ?_
            refine AllReady.cons rfl (fun K hK => ?_) AllReady.nil
            refine gapp_step rfl (.tmp 30) (.tmp 31) appL rfl w1.heap.size (some ⟨X19.heap.size, 0, none⟩) 0 0 [] rfl HO20.out A ca m (a.map (Value.int .i64)) rfl (HRa.out _ HB20.out) (by omega) HB20.out.size ?_
            intro P21 q21 X21 ho hg _
            rw [Nat.zero_add, List.nil_append] at ho
            rw [Nat.zero_add]
            have HB21 := Lib.hid (HB20.out.trans (grown_bel hg HB20.out.size (fun i hi => (World.ownsRow.lt HO20.out i (by rw [own_blk]; exact hi)).1)))
            have HO21 := Lib.hid ho
            have HG21 := Lib.hid (HG20.out.turn (Turn.of_grown hg (fun i hi => .inl hi)) (fun e => row_not_clock HO20.out _ e ⟨_, HG20.out⟩))
            clear ho hg
            refine hK _ _ ?_
            clear hK K
            refine wpAny_ready (rs := [5]) (by kernel_rfl) (by simp) ?_
            refine AllReady.cons rfl (fun K hK => ?_) AllReady.nil
            refine gapp_step rfl (.tmp 32) (.tmp 33) appL rfl w1.heap.size P21 q21 m (a.map (Value.int .i64)) rfl HO21.out B cb n (b.map (Value.int .i64)) rfl (HRb.out _ HB21.out) (by omega) HB21.out.size ?_
            intro P22 q22 X22 ho hg _
            have HB22 := Lib.hid (HB21.out.trans (grown_bel hg HB21.out.size (fun i hi => (World.ownsRow.lt HO21.out i (by rw [own_blk]; exact hi)).1)))
            have HO22 := Lib.hid ho
            have HG22 := Lib.hid (HG21.out.turn (Turn.of_grown hg (fun i hi => .inl hi)) (fun e => row_not_clock HO21.out _ e ⟨_, HG21.out⟩))
            clear ho hg
            refine hK _ _ ?_
            clear hK K
            refine wpAny_ready (rs := [6]) (by kernel_rfl) (by simp) ?_
            refine AllReady.cons rfl (fun K hK => ?_) AllReady.nil
            have hr := HRun.out _ HB22.out P22 q22 (two_rows HO22.out HMN.out HFa.out HFb.out)
            go_simp
            refine hr.mono ?_
            rintro e X23 ⟨A1, c1, rfl, ho, hb⟩
            have HB23 := Lib.hid (HB22.out.trans (hb.mono HB22.out.size))
            have HR23 := Lib.hid (ho.mono HB22.out.size)
            have HG23 := Lib.hid (HG22.out.below hb)
            clear ho hb hr
            refine hK _ _ ?_
            clear hK K
            refine wpAny_take (i := 7) (v := .tuple #[.agg #[.int .u64 R1, .int .u64 R2], .slice A1 rl c1, .int .i64 E]) rfl (by kernel_rfl) (by kernel_rfl) (by kernel_rfl) (fun _ _ _ h => nomatch h.1) (Or.inl ⟨by rfl, fun w => by go_simp⟩) ?_
            refine wpAny_take (i := 8) (v := .agg #[.int .u64 R1, .int .u64 R2]) rfl (by kernel_rfl) (by kernel_rfl) (by kernel_rfl) (fun _ _ _ h => nomatch h.1) (Or.inl ⟨by rfl, fun w => by go_simp⟩) ?_
            refine wpAny_take (i := 9) (v := .slice A1 rl c1) rfl (by kernel_rfl) (by kernel_rfl) (by kernel_rfl) (fun _ _ _ h => nomatch h.1) (Or.inl ⟨by rfl, fun w => by go_simp⟩) ?_
            refine wpAny_take (i := 10) (v := .int .i64 E) rfl (by kernel_rfl) (by kernel_rfl) (by kernel_rfl) (fun _ _ _ h => nomatch h.1) (Or.inl ⟨by rfl, fun w => by go_simp⟩) ?_
            refine wpAny_ready (rs := [12]) (by kernel_rfl) (by simp) ?_
            refine AllReady.cons rfl (fun K hK => ?_) AllReady.nil
            have k_c0 := HG23.out.c0
            have k_c1 := HG23.out.c1
            have k_f0 := HG23.out.f0
            have k_f1 := HG23.out.f1
            go_simp
            refine hK _ _ ?_
            clear hK K
            obtain ⟨X24, hX⟩ : ∃ X, X = (X23.setCell ⟨X0.heap.size, 0, none⟩ (.int .u64 R1)).setCell ⟨X0.heap.size, 1, none⟩ (.int .u64 R2) := ⟨_, rfl⟩
            rw [← hX]
            have HG24 := Lib.hid (show CB X24 X0.heap.size R1 R2 from by rw [hX]; exact (HG23.out.set0 R1).set1 R2)
            have ht : Turn (fun i => i = X0.heap.size) X23 X24 := by rw [hX]; exact (turn_set _ _ _ _).trans (turn_set _ _ _ _) (fun i hi => .inl hi)
            have HB24 := Lib.hid (HB23.out.trans (ht.below HB23.out.size (fun i hi => by have := hlow19; omega)))
            have HR24 := Lib.hid (HR23.out.turn ht (fun i hi e => own_not_clock HR23.out.1 i hi (by rw [e]; exact ⟨_, HG23.out⟩)))
            clear ht hX k_c0 k_c1 k_f0 k_f1
            refine wpAny_ready (rs := [13]) (by kernel_rfl) (by simp) ?_
            refine AllReady.cons rfl (fun K hK => ?_) AllReady.nil
            go_simp
            refine hK _ _ ?_
            clear hK K
            refine wpAny_ready (rs := [14]) (by kernel_rfl) (by simp) ?_
            refine AllReady.cons rfl (fun K hK => ?_) AllReady.nil
            go_simp
            refine hK _ _ ?_
            clear hK K
            refine wpAny_done (by kernel_rfl) ?_ _
            exact ⟨rfl, A1, c1, _, _, _, _, rfl, HG24.out, HR24.out, HB24.out⟩
          exact AllReady.nil
        refine AllReady.cons rfl (fun K hK => ?_) ?_
        ·
          go_simp
          refine hK _ _ ?_
          clear hK K
          obtain ⟨X25, hX⟩ : ∃ X, X = X0.alloc (.cells #[] 2) := ⟨_, rfl⟩
          rw [← hX]
          have hb : Below X0.heap.size X0 X25 := by rw [hX]; exact bel1 _ _
          have HB25 := Lib.hid (HB0.out.trans (hb.mono HB0.out.size))
          have HO25 := Lib.hid (show X25.ownsRow w1.heap.size 2 1 (.slice (some ⟨X0.heap.size, 0, none⟩) 0 0) 0 [] from by rw [hX]; exact World.ownsRow_lit (base := w1.heap.size) (size := 1) (e := 2) X0 #[] 0 HB0.out.size (by decide) rfl)
          clear hb hX
          refine wpAny_ready (rs := [0, 3, 11]) (by kernel_rfl) (by simp) ?_
          refine AllReady.cons rfl (fun K hK => ?_) ?_
          ·
            have k0 := (HK.out _ HB25.out).c0
            have k1 := (HK.out _ HB25.out).c1
            go_simp
            refine hK _ _ ?_
            clear hK K
            clear k0 k1
            refine wpAny_ready (rs := [3, 11]) (by kernel_rfl) (by simp) ?_
            refine AllReady.cons rfl (fun K hK => ?_) ?_
            ·
              refine gapp_step rfl (.tmp 30) (.tmp 31) appL rfl w1.heap.size (some ⟨X0.heap.size, 0, none⟩) 0 0 [] rfl HO25.out A ca m (a.map (Value.int .i64)) rfl (HRa.out _ HB25.out) (by omega) HB25.out.size ?_
              intro P26 q26 X26 ho hg _
              rw [Nat.zero_add, List.nil_append] at ho
              rw [Nat.zero_add]
              have HB26 := Lib.hid (HB25.out.trans (grown_bel hg HB25.out.size (fun i hi => (World.ownsRow.lt HO25.out i (by rw [own_blk]; exact hi)).1)))
              have HO26 := Lib.hid ho
              clear ho hg
              refine hK _ _ ?_
              clear hK K
              refine wpAny_ready (rs := [5, 11]) (by kernel_rfl) (by simp) ?_
              refine AllReady.cons rfl (fun K hK => ?_) ?_
              ·
                refine gapp_step rfl (.tmp 32) (.tmp 33) appL rfl w1.heap.size P26 q26 m (a.map (Value.int .i64)) rfl HO26.out B cb n (b.map (Value.int .i64)) rfl (HRb.out _ HB26.out) (by omega) HB26.out.size ?_
                intro P27 q27 X27 ho hg _
                have HB27 := Lib.hid (HB26.out.trans (grown_bel hg HB26.out.size (fun i hi => (World.ownsRow.lt HO26.out i (by rw [own_blk]; exact hi)).1)))
                have HO27 := Lib.hid ho
                clear ho hg
                refine hK _ _ ?_
                clear hK K
                refine wpAny_ready (rs := [6, 11]) (by kernel_rfl) (by simp) ?_
                refine AllReady.cons rfl (fun K hK => ?_) ?_
                ·
                  have hr := HRun.out _ HB27.out P27 q27 (two_rows HO27.out HMN.out HFa.out HFb.out)
                  go_simp
                  refine hr.mono ?_
                  rintro e X28 ⟨A1, c1, rfl, ho, hb⟩
                  have HB28 := Lib.hid (HB27.out.trans (hb.mono HB27.out.size))
                  have HR28 := Lib.hid (ho.mono HB27.out.size)
                  clear ho hb hr
                  refine hK _ _ ?_
                  clear hK K
                  refine wpAny_take (i := 7) (v := .tuple #[.agg #[.int .u64 R1, .int .u64 R2], .slice A1 rl c1, .int .i64 E]) rfl (by kernel_rfl) (by kernel_rfl) (by kernel_rfl) (fun _ _ _ h => nomatch h.1) (Or.inl ⟨by rfl, fun w => by go_simp⟩) ?_
                  refine wpAny_take (i := 8) (v := .agg #[.int .u64 R1, .int .u64 R2]) rfl (by kernel_rfl) (by kernel_rfl) (by kernel_rfl) (fun _ _ _ h => nomatch h.1) (Or.inl ⟨by rfl, fun w => by go_simp⟩) ?_
                  refine wpAny_take (i := 9) (v := .slice A1 rl c1) rfl (by kernel_rfl) (by kernel_rfl) (by kernel_rfl) (fun _ _ _ h => nomatch h.1) (Or.inl ⟨by rfl, fun w => by go_simp⟩) ?_
                  refine wpAny_take (i := 10) (v := .int .i64 E) rfl (by kernel_rfl) (by kernel_rfl) (by kernel_rfl) (fun _ _ _ h => nomatch h.1) (Or.inl ⟨by rfl, fun w => by go_simp⟩) ?_
                  refine wpAny_ready (rs := [11]) (by kernel_rfl) (by simp) ?_
                  refine AllReady.cons rfl (fun K hK => ?_) AllReady.nil
                  go_simp
                  refine hK _ _ ?_
                  clear hK K
                  obtain ⟨X29, hX⟩ : ∃ X, X = X28.alloc (.cells #[.int .u64 0, .int .u64 0] 24) := ⟨_, rfl⟩
                  rw [← hX]
                  have hb : Below X28.heap.size X28 X29 := by rw [hX]; exact bel1 _ _
                  have HB29 := Lib.hid (HB28.out.trans (hb.mono HB28.out.size))
                  have HG29 := Lib.hid (show CB X29 X28.heap.size 0 0 from by rw [hX]; exact CB.new _ _ _)
                  have hlow29 : w1.heap.size ≤ X28.heap.size := HB28.out.size
                  have HR29 := Lib.hid (HR28.out.below hb)
                  clear hb hX
                  refine wpAny_ready (rs := [12]) (by kernel_rfl) (by simp) ?_
                  refine AllReady.cons rfl (fun K hK => ?_) AllReady.nil
                  have k_c0 := HG29.out.c0
                  have k_c1 := HG29.out.c1
                  have k_f0 := HG29.out.f0
                  have k_f1 := HG29.out.f1
                  go_simp
                  refine hK _ _ ?_
                  clear hK K
                  obtain ⟨X30, hX⟩ : ∃ X, X = (X29.setCell ⟨X28.heap.size, 0, none⟩ (.int .u64 R1)).setCell ⟨X28.heap.size, 1, none⟩ (.int .u64 R2) := ⟨_, rfl⟩
                  rw [← hX]
                  have HG30 := Lib.hid (show CB X30 X28.heap.size R1 R2 from by rw [hX]; exact (HG29.out.set0 R1).set1 R2)
                  have ht : Turn (fun i => i = X28.heap.size) X29 X30 := by rw [hX]; exact (turn_set _ _ _ _).trans (turn_set _ _ _ _) (fun i hi => .inl hi)
                  have HB30 := Lib.hid (HB29.out.trans (ht.below HB29.out.size (fun i hi => by have := hlow29; omega)))
                  have HR30 := Lib.hid (HR29.out.turn ht (fun i hi e => own_not_clock HR29.out.1 i hi (by rw [e]; exact ⟨_, HG29.out⟩)))
                  clear ht hX k_c0 k_c1 k_f0 k_f1
                  refine wpAny_ready (rs := [13]) (by kernel_rfl) (by simp) ?_
                  refine AllReady.cons rfl (fun K hK => ?_) AllReady.nil
                  go_simp
                  refine hK _ _ ?_
                  clear hK K
                  refine wpAny_ready (rs := [14]) (by kernel_rfl) (by simp) ?_
                  refine AllReady.cons rfl (fun K hK => ?_) AllReady.nil
                  go_simp
                  refine hK _ _ ?_
                  clear hK K
                  refine wpAny_done (by kernel_rfl) ?_ _
                  exact ⟨rfl, A1, c1, _, _, _, _, rfl, HG30.out, HR30.out, HB30.out⟩
                refine AllReady.cons rfl (fun K hK => ?_) ?_
                ·
                  go_simp
                  refine hK _ _ ?_
                  clear hK K
                  obtain ⟨X31, hX⟩ : ∃ X, X = X27.alloc (.cells #[.int .u64 0, .int .u64 0] 24) := ⟨_, rfl⟩
                  rw [← hX]
                  have hb : Below X27.heap.size X27 X31 := by rw [hX]; exact bel1 _ _
                  have HB31 := Lib.hid (HB27.out.trans (hb.mono HB27.out.size))
                  have HO31 := Lib.hid (row_turn HO27.out (Turn.of_below (S := fun _ => False) hb) (fun _ _ e => e))
                  have HG31 := Lib.hid (show CB X31 X27.heap.size 0 0 from by rw [hX]; exact CB.new _ _ _)
                  have hlow31 : w1.heap.size ≤ X27.heap.size := HB27.out.size
                  clear hb hX
                  refine wpAny_ready (rs := [6]) (by kernel_rfl) (by simp) ?_
                  refine AllReady.cons rfl (fun K hK => ?_) AllReady.nil
                  have hr := HRun.out _ HB31.out P27 q27 (two_rows HO31.out HMN.out HFa.out HFb.out)
                  go_simp
                  refine hr.mono ?_
                  rintro e X32 ⟨A1, c1, rfl, ho, hb⟩
                  have HB32 := Lib.hid (HB31.out.trans (hb.mono HB31.out.size))
                  have HR32 := Lib.hid (ho.mono HB31.out.size)
                  have HG32 := Lib.hid (HG31.out.below hb)
                  clear ho hb hr
                  refine hK _ _ ?_
                  clear hK K
                  refine wpAny_take (i := 7) (v := .tuple #[.agg #[.int .u64 R1, .int .u64 R2], .slice A1 rl c1, .int .i64 E]) rfl (by kernel_rfl) (by kernel_rfl) (by kernel_rfl) (fun _ _ _ h => nomatch h.1) (Or.inl ⟨by rfl, fun w => by go_simp⟩) ?_
                  refine wpAny_take (i := 8) (v := .agg #[.int .u64 R1, .int .u64 R2]) rfl (by kernel_rfl) (by kernel_rfl) (by kernel_rfl) (fun _ _ _ h => nomatch h.1) (Or.inl ⟨by rfl, fun w => by go_simp⟩) ?_
                  refine wpAny_take (i := 9) (v := .slice A1 rl c1) rfl (by kernel_rfl) (by kernel_rfl) (by kernel_rfl) (fun _ _ _ h => nomatch h.1) (Or.inl ⟨by rfl, fun w => by go_simp⟩) ?_
                  refine wpAny_take (i := 10) (v := .int .i64 E) rfl (by kernel_rfl) (by kernel_rfl) (by kernel_rfl) (fun _ _ _ h => nomatch h.1) (Or.inl ⟨by rfl, fun w => by go_simp⟩) ?_
                  refine wpAny_ready (rs := [12]) (by kernel_rfl) (by simp) ?_
                  refine AllReady.cons rfl (fun K hK => ?_) AllReady.nil
                  have k_c0 := HG32.out.c0
                  have k_c1 := HG32.out.c1
                  have k_f0 := HG32.out.f0
                  have k_f1 := HG32.out.f1
                  go_simp
                  refine hK _ _ ?_
                  clear hK K
                  obtain ⟨X33, hX⟩ : ∃ X, X = (X32.setCell ⟨X27.heap.size, 0, none⟩ (.int .u64 R1)).setCell ⟨X27.heap.size, 1, none⟩ (.int .u64 R2) := ⟨_, rfl⟩
                  rw [← hX]
                  have HG33 := Lib.hid (show CB X33 X27.heap.size R1 R2 from by rw [hX]; exact (HG32.out.set0 R1).set1 R2)
                  have ht : Turn (fun i => i = X27.heap.size) X32 X33 := by rw [hX]; exact (turn_set _ _ _ _).trans (turn_set _ _ _ _) (fun i hi => .inl hi)
                  have HB33 := Lib.hid (HB32.out.trans (ht.below HB32.out.size (fun i hi => by have := hlow31; omega)))
                  have HR33 := Lib.hid (HR32.out.turn ht (fun i hi e => own_not_clock HR32.out.1 i hi (by rw [e]; exact ⟨_, HG32.out⟩)))
                  clear ht hX k_c0 k_c1 k_f0 k_f1
                  refine wpAny_ready (rs := [13]) (by kernel_rfl) (by simp) ?_
                  refine AllReady.cons rfl (fun K hK => ?_) AllReady.nil
                  go_simp
                  refine hK _ _ ?_
                  clear hK K
                  refine wpAny_ready (rs := [14]) (by kernel_rfl) (by simp) ?_
                  refine AllReady.cons rfl (fun K hK => ?_) AllReady.nil
                  go_simp
                  refine hK _ _ ?_
                  clear hK K
                  refine wpAny_done (by kernel_rfl) ?_ _
                  exact ⟨rfl, A1, c1, _, _, _, _, rfl, HG33.out, HR33.out, HB33.out⟩
                exact AllReady.nil
              refine AllReady.cons rfl (fun K hK => ?_) ?_
              ·
                go_simp
                refine hK _ _ ?_
                clear hK K
                obtain ⟨X34, hX⟩ : ∃ X, X = X26.alloc (.cells #[.int .u64 0, .int .u64 0] 24) := ⟨_, rfl⟩
                rw [← hX]
                have hb : Below X26.heap.size X26 X34 := by rw [hX]; exact bel1 _ _
                have HB34 := Lib.hid (HB26.out.trans (hb.mono HB26.out.size))
                have HO34 := Lib.hid (row_turn HO26.out (Turn.of_below (S := fun _ => False) hb) (fun _ _ e => e))
                have HG34 := Lib.hid (show CB X34 X26.heap.size 0 0 from by rw [hX]; exact CB.new _ _ _)
                have hlow34 : w1.heap.size ≤ X26.heap.size := HB26.out.size
                clear hb hX
                refine wpAny_ready (rs := [5]) (by kernel_rfl) (by simp) ?_
                refine AllReady.cons rfl (fun K hK => ?_) AllReady.nil
                refine gapp_step rfl (.tmp 32) (.tmp 33) appL rfl w1.heap.size P26 q26 m (a.map (Value.int .i64)) rfl HO34.out B cb n (b.map (Value.int .i64)) rfl (HRb.out _ HB34.out) (by omega) HB34.out.size ?_
                intro P35 q35 X35 ho hg _
                have HB35 := Lib.hid (HB34.out.trans (grown_bel hg HB34.out.size (fun i hi => (World.ownsRow.lt HO34.out i (by rw [own_blk]; exact hi)).1)))
                have HO35 := Lib.hid ho
                have HG35 := Lib.hid (HG34.out.turn (Turn.of_grown hg (fun i hi => .inl hi)) (fun e => row_not_clock HO34.out _ e ⟨_, HG34.out⟩))
                clear ho hg
                refine hK _ _ ?_
                clear hK K
                refine wpAny_ready (rs := [6]) (by kernel_rfl) (by simp) ?_
                refine AllReady.cons rfl (fun K hK => ?_) AllReady.nil
                have hr := HRun.out _ HB35.out P35 q35 (two_rows HO35.out HMN.out HFa.out HFb.out)
                go_simp
                refine hr.mono ?_
                rintro e X36 ⟨A1, c1, rfl, ho, hb⟩
                have HB36 := Lib.hid (HB35.out.trans (hb.mono HB35.out.size))
                have HR36 := Lib.hid (ho.mono HB35.out.size)
                have HG36 := Lib.hid (HG35.out.below hb)
                clear ho hb hr
                refine hK _ _ ?_
                clear hK K
                refine wpAny_take (i := 7) (v := .tuple #[.agg #[.int .u64 R1, .int .u64 R2], .slice A1 rl c1, .int .i64 E]) rfl (by kernel_rfl) (by kernel_rfl) (by kernel_rfl) (fun _ _ _ h => nomatch h.1) (Or.inl ⟨by rfl, fun w => by go_simp⟩) ?_
                refine wpAny_take (i := 8) (v := .agg #[.int .u64 R1, .int .u64 R2]) rfl (by kernel_rfl) (by kernel_rfl) (by kernel_rfl) (fun _ _ _ h => nomatch h.1) (Or.inl ⟨by rfl, fun w => by go_simp⟩) ?_
                refine wpAny_take (i := 9) (v := .slice A1 rl c1) rfl (by kernel_rfl) (by kernel_rfl) (by kernel_rfl) (fun _ _ _ h => nomatch h.1) (Or.inl ⟨by rfl, fun w => by go_simp⟩) ?_
                refine wpAny_take (i := 10) (v := .int .i64 E) rfl (by kernel_rfl) (by kernel_rfl) (by kernel_rfl) (fun _ _ _ h => nomatch h.1) (Or.inl ⟨by rfl, fun w => by go_simp⟩) ?_
                refine wpAny_ready (rs := [12]) (by kernel_rfl) (by simp) ?_
                refine AllReady.cons rfl (fun K hK => ?_) AllReady.nil
                have k_c0 := HG36.out.c0
                have k_c1 := HG36.out.c1
                have k_f0 := HG36.out.f0
                have k_f1 := HG36.out.f1
                go_simp
                refine hK _ _ ?_
                clear hK K
                obtain ⟨X37, hX⟩ : ∃ X, X = (X36.setCell ⟨X26.heap.size, 0, none⟩ (.int .u64 R1)).setCell ⟨X26.heap.size, 1, none⟩ (.int .u64 R2) := ⟨_, rfl⟩
                rw [← hX]
                have HG37 := Lib.hid (show CB X37 X26.heap.size R1 R2 from by rw [hX]; exact (HG36.out.set0 R1).set1 R2)
                have ht : Turn (fun i => i = X26.heap.size) X36 X37 := by rw [hX]; exact (turn_set _ _ _ _).trans (turn_set _ _ _ _) (fun i hi => .inl hi)
                have HB37 := Lib.hid (HB36.out.trans (ht.below HB36.out.size (fun i hi => by have := hlow34; omega)))
                have HR37 := Lib.hid (HR36.out.turn ht (fun i hi e => own_not_clock HR36.out.1 i hi (by rw [e]; exact ⟨_, HG36.out⟩)))
                clear ht hX k_c0 k_c1 k_f0 k_f1
                refine wpAny_ready (rs := [13]) (by kernel_rfl) (by simp) ?_
                refine AllReady.cons rfl (fun K hK => ?_) AllReady.nil
                go_simp
                refine hK _ _ ?_
                clear hK K
                refine wpAny_ready (rs := [14]) (by kernel_rfl) (by simp) ?_
                refine AllReady.cons rfl (fun K hK => ?_) AllReady.nil
                go_simp
                refine hK _ _ ?_
                clear hK K
                refine wpAny_done (by kernel_rfl) ?_ _
                exact ⟨rfl, A1, c1, _, _, _, _, rfl, HG37.out, HR37.out, HB37.out⟩
              exact AllReady.nil
            refine AllReady.cons rfl (fun K hK => ?_) ?_
            ·
              go_simp
              refine hK _ _ ?_
              clear hK K
              obtain ⟨X38, hX⟩ : ∃ X, X = X25.alloc (.cells #[.int .u64 0, .int .u64 0] 24) := ⟨_, rfl⟩
              rw [← hX]
              have hb : Below X25.heap.size X25 X38 := by rw [hX]; exact bel1 _ _
              have HB38 := Lib.hid (HB25.out.trans (hb.mono HB25.out.size))
              have HO38 := Lib.hid (row_turn HO25.out (Turn.of_below (S := fun _ => False) hb) (fun _ _ e => e))
              have HG38 := Lib.hid (show CB X38 X25.heap.size 0 0 from by rw [hX]; exact CB.new _ _ _)
              have hlow38 : w1.heap.size ≤ X25.heap.size := HB25.out.size
              clear hb hX
              refine wpAny_ready (rs := [3]) (by kernel_rfl) (by simp) ?_
              refine AllReady.cons rfl (fun K hK => ?_) AllReady.nil
              refine gapp_step rfl (.tmp 30) (.tmp 31) appL rfl w1.heap.size (some ⟨X0.heap.size, 0, none⟩) 0 0 [] rfl HO38.out A ca m (a.map (Value.int .i64)) rfl (HRa.out _ HB38.out) (by omega) HB38.out.size ?_
              intro P39 q39 X39 ho hg _
              rw [Nat.zero_add, List.nil_append] at ho
              rw [Nat.zero_add]
              have HB39 := Lib.hid (HB38.out.trans (grown_bel hg HB38.out.size (fun i hi => (World.ownsRow.lt HO38.out i (by rw [own_blk]; exact hi)).1)))
              have HO39 := Lib.hid ho
              have HG39 := Lib.hid (HG38.out.turn (Turn.of_grown hg (fun i hi => .inl hi)) (fun e => row_not_clock HO38.out _ e ⟨_, HG38.out⟩))
              clear ho hg
              refine hK _ _ ?_
              clear hK K
              refine wpAny_ready (rs := [5]) (by kernel_rfl) (by simp) ?_
              refine AllReady.cons rfl (fun K hK => ?_) AllReady.nil
              refine gapp_step rfl (.tmp 32) (.tmp 33) appL rfl w1.heap.size P39 q39 m (a.map (Value.int .i64)) rfl HO39.out B cb n (b.map (Value.int .i64)) rfl (HRb.out _ HB39.out) (by omega) HB39.out.size ?_
              intro P40 q40 X40 ho hg _
              have HB40 := Lib.hid (HB39.out.trans (grown_bel hg HB39.out.size (fun i hi => (World.ownsRow.lt HO39.out i (by rw [own_blk]; exact hi)).1)))
              have HO40 := Lib.hid ho
              have HG40 := Lib.hid (HG39.out.turn (Turn.of_grown hg (fun i hi => .inl hi)) (fun e => row_not_clock HO39.out _ e ⟨_, HG39.out⟩))
              clear ho hg
              refine hK _ _ ?_
              clear hK K
              refine wpAny_ready (rs := [6]) (by kernel_rfl) (by simp) ?_
              refine AllReady.cons rfl (fun K hK => ?_) AllReady.nil
              have hr := HRun.out _ HB40.out P40 q40 (two_rows HO40.out HMN.out HFa.out HFb.out)
              go_simp
              refine hr.mono ?_
              rintro e X41 ⟨A1, c1, rfl, ho, hb⟩
              have HB41 := Lib.hid (HB40.out.trans (hb.mono HB40.out.size))
              have HR41 := Lib.hid (ho.mono HB40.out.size)
              have HG41 := Lib.hid (HG40.out.below hb)
              clear ho hb hr
              refine hK _ _ ?_
              clear hK K
              refine wpAny_take (i := 7) (v := .tuple #[.agg #[.int .u64 R1, .int .u64 R2], .slice A1 rl c1, .int .i64 E]) rfl (by kernel_rfl) (by kernel_rfl) (by kernel_rfl) (fun _ _ _ h => nomatch h.1) (Or.inl ⟨by rfl, fun w => by go_simp⟩) ?_
              refine wpAny_take (i := 8) (v := .agg #[.int .u64 R1, .int .u64 R2]) rfl (by kernel_rfl) (by kernel_rfl) (by kernel_rfl) (fun _ _ _ h => nomatch h.1) (Or.inl ⟨by rfl, fun w => by go_simp⟩) ?_
              refine wpAny_take (i := 9) (v := .slice A1 rl c1) rfl (by kernel_rfl) (by kernel_rfl) (by kernel_rfl) (fun _ _ _ h => nomatch h.1) (Or.inl ⟨by rfl, fun w => by go_simp⟩) ?_
              refine wpAny_take (i := 10) (v := .int .i64 E) rfl (by kernel_rfl) (by kernel_rfl) (by kernel_rfl) (fun _ _ _ h => nomatch h.1) (Or.inl ⟨by rfl, fun w => by go_simp⟩) ?_
              refine wpAny_ready (rs := [12]) (by kernel_rfl) (by simp) ?_
              refine AllReady.cons rfl (fun K hK => ?_) AllReady.nil
              have k_c0 := HG41.out.c0
              have k_c1 := HG41.out.c1
              have k_f0 := HG41.out.f0
              have k_f1 := HG41.out.f1
              go_simp
              refine hK _ _ ?_
              clear hK K
              obtain ⟨X42, hX⟩ : ∃ X, X = (X41.setCell ⟨X25.heap.size, 0, none⟩ (.int .u64 R1)).setCell ⟨X25.heap.size, 1, none⟩ (.int .u64 R2) := ⟨_, rfl⟩
              rw [← hX]
              have HG42 := Lib.hid (show CB X42 X25.heap.size R1 R2 from by rw [hX]; exact (HG41.out.set0 R1).set1 R2)
              have ht : Turn (fun i => i = X25.heap.size) X41 X42 := by rw [hX]; exact (turn_set _ _ _ _).trans (turn_set _ _ _ _) (fun i hi => .inl hi)
              have HB42 := Lib.hid (HB41.out.trans (ht.below HB41.out.size (fun i hi => by have := hlow38; omega)))
              have HR42 := Lib.hid (HR41.out.turn ht (fun i hi e => own_not_clock HR41.out.1 i hi (by rw [e]; exact ⟨_, HG41.out⟩)))
              clear ht hX k_c0 k_c1 k_f0 k_f1
              refine wpAny_ready (rs := [13]) (by kernel_rfl) (by simp) ?_
              refine AllReady.cons rfl (fun K hK => ?_) AllReady.nil
              go_simp
              refine hK _ _ ?_
              clear hK K
              refine wpAny_ready (rs := [14]) (by kernel_rfl) (by simp) ?_
              refine AllReady.cons rfl (fun K hK => ?_) AllReady.nil
              go_simp
              refine hK _ _ ?_
              clear hK K
              refine wpAny_done (by kernel_rfl) ?_ _
              exact ⟨rfl, A1, c1, _, _, _, _, rfl, HG42.out, HR42.out, HB42.out⟩
            exact AllReady.nil
          refine AllReady.cons rfl (fun K hK => ?_) ?_
          ·
            refine gapp_step rfl (.tmp 30) (.tmp 31) appL rfl w1.heap.size (some ⟨X0.heap.size, 0, none⟩) 0 0 [] rfl HO25.out A ca m (a.map (Value.int .i64)) rfl (HRa.out _ HB25.out) (by omega) HB25.out.size ?_
            intro P43 q43 X43 ho hg _
            rw [Nat.zero_add, List.nil_append] at ho
            rw [Nat.zero_add]
            have HB43 := Lib.hid (HB25.out.trans (grown_bel hg HB25.out.size (fun i hi => (World.ownsRow.lt HO25.out i (by rw [own_blk]; exact hi)).1)))
            have HO43 := Lib.hid ho
            clear ho hg
            refine hK _ _ ?_
            clear hK K
            refine wpAny_ready (rs := [0, 5, 11]) (by kernel_rfl) (by simp) ?_
            refine AllReady.cons rfl (fun K hK => ?_) ?_
            ·
              have k0 := (HK.out _ HB43.out).c0
              have k1 := (HK.out _ HB43.out).c1
              go_simp
              refine hK _ _ ?_
              clear hK K
              clear k0 k1
              refine wpAny_ready (rs := [5, 11]) (by kernel_rfl) (by simp) ?_
              refine AllReady.cons rfl (fun K hK => ?_) ?_
              ·
                refine gapp_step rfl (.tmp 32) (.tmp 33) appL rfl w1.heap.size P43 q43 m (a.map (Value.int .i64)) rfl HO43.out B cb n (b.map (Value.int .i64)) rfl (HRb.out _ HB43.out) (by omega) HB43.out.size ?_
                intro P44 q44 X44 ho hg _
                have HB44 := Lib.hid (HB43.out.trans (grown_bel hg HB43.out.size (fun i hi => (World.ownsRow.lt HO43.out i (by rw [own_blk]; exact hi)).1)))
                have HO44 := Lib.hid ho
                clear ho hg
                refine hK _ _ ?_
                clear hK K
                refine wpAny_ready (rs := [6, 11]) (by kernel_rfl) (by simp) ?_
                refine AllReady.cons rfl (fun K hK => ?_) ?_
                ·
                  have hr := HRun.out _ HB44.out P44 q44 (two_rows HO44.out HMN.out HFa.out HFb.out)
                  go_simp
                  refine hr.mono ?_
                  rintro e X45 ⟨A1, c1, rfl, ho, hb⟩
                  have HB45 := Lib.hid (HB44.out.trans (hb.mono HB44.out.size))
                  have HR45 := Lib.hid (ho.mono HB44.out.size)
                  clear ho hb hr
                  refine hK _ _ ?_
                  clear hK K
                  refine wpAny_take (i := 7) (v := .tuple #[.agg #[.int .u64 R1, .int .u64 R2], .slice A1 rl c1, .int .i64 E]) rfl (by kernel_rfl) (by kernel_rfl) (by kernel_rfl) (fun _ _ _ h => nomatch h.1) (Or.inl ⟨by rfl, fun w => by go_simp⟩) ?_
                  refine wpAny_take (i := 8) (v := .agg #[.int .u64 R1, .int .u64 R2]) rfl (by kernel_rfl) (by kernel_rfl) (by kernel_rfl) (fun _ _ _ h => nomatch h.1) (Or.inl ⟨by rfl, fun w => by go_simp⟩) ?_
                  refine wpAny_take (i := 9) (v := .slice A1 rl c1) rfl (by kernel_rfl) (by kernel_rfl) (by kernel_rfl) (fun _ _ _ h => nomatch h.1) (Or.inl ⟨by rfl, fun w => by go_simp⟩) ?_
                  refine wpAny_take (i := 10) (v := .int .i64 E) rfl (by kernel_rfl) (by kernel_rfl) (by kernel_rfl) (fun _ _ _ h => nomatch h.1) (Or.inl ⟨by rfl, fun w => by go_simp⟩) ?_
                  refine wpAny_ready (rs := [11]) (by kernel_rfl) (by simp) ?_
                  refine AllReady.cons rfl (fun K hK => ?_) AllReady.nil
                  go_simp
                  refine hK _ _ ?_
                  clear hK K
                  obtain ⟨X46, hX⟩ : ∃ X, X = X45.alloc (.cells #[.int .u64 0, .int .u64 0] 24) := ⟨_, rfl⟩
                  rw [← hX]
                  have hb : Below X45.heap.size X45 X46 := by rw [hX]; exact bel1 _ _
                  have HB46 := Lib.hid (HB45.out.trans (hb.mono HB45.out.size))
                  have HG46 := Lib.hid (show CB X46 X45.heap.size 0 0 from by rw [hX]; exact CB.new _ _ _)
                  have hlow46 : w1.heap.size ≤ X45.heap.size := HB45.out.size
                  have HR46 := Lib.hid (HR45.out.below hb)
                  clear hb hX
                  refine wpAny_ready (rs := [12]) (by kernel_rfl) (by simp) ?_
                  refine AllReady.cons rfl (fun K hK => ?_) AllReady.nil
                  have k_c0 := HG46.out.c0
                  have k_c1 := HG46.out.c1
                  have k_f0 := HG46.out.f0
                  have k_f1 := HG46.out.f1
                  go_simp
                  refine hK _ _ ?_
                  clear hK K
                  obtain ⟨X47, hX⟩ : ∃ X, X = (X46.setCell ⟨X45.heap.size, 0, none⟩ (.int .u64 R1)).setCell ⟨X45.heap.size, 1, none⟩ (.int .u64 R2) := ⟨_, rfl⟩
                  rw [← hX]
                  have HG47 := Lib.hid (show CB X47 X45.heap.size R1 R2 from by rw [hX]; exact (HG46.out.set0 R1).set1 R2)
                  have ht : Turn (fun i => i = X45.heap.size) X46 X47 := by rw [hX]; exact (turn_set _ _ _ _).trans (turn_set _ _ _ _) (fun i hi => .inl hi)
                  have HB47 := Lib.hid (HB46.out.trans (ht.below HB46.out.size (fun i hi => by have := hlow46; omega)))
                  have HR47 := Lib.hid (HR46.out.turn ht (fun i hi e => own_not_clock HR46.out.1 i hi (by rw [e]; exact ⟨_, HG46.out⟩)))
                  clear ht hX k_c0 k_c1 k_f0 k_f1
                  refine wpAny_ready (rs := [13]) (by kernel_rfl) (by simp) ?_
                  refine AllReady.cons rfl (fun K hK => ?_) AllReady.nil
                  go_simp
                  refine hK _ _ ?_
                  clear hK K
                  refine wpAny_ready (rs := [14]) (by kernel_rfl) (by simp) ?_
                  refine AllReady.cons rfl (fun K hK => ?_) AllReady.nil
                  go_simp
                  refine hK _ _ ?_
                  clear hK K
                  refine wpAny_done (by kernel_rfl) ?_ _
                  exact ⟨rfl, A1, c1, _, _, _, _, rfl, HG47.out, HR47.out, HB47.out⟩
                refine AllReady.cons rfl (fun K hK => ?_) ?_
                ·
                  go_simp
                  refine hK _ _ ?_
                  clear hK K
                  obtain ⟨X48, hX⟩ : ∃ X, X = X44.alloc (.cells #[.int .u64 0, .int .u64 0] 24) := ⟨_, rfl⟩
                  rw [← hX]
                  have hb : Below X44.heap.size X44 X48 := by rw [hX]; exact bel1 _ _
                  have HB48 := Lib.hid (HB44.out.trans (hb.mono HB44.out.size))
                  have HO48 := Lib.hid (row_turn HO44.out (Turn.of_below (S := fun _ => False) hb) (fun _ _ e => e))
                  have HG48 := Lib.hid (show CB X48 X44.heap.size 0 0 from by rw [hX]; exact CB.new _ _ _)
                  have hlow48 : w1.heap.size ≤ X44.heap.size := HB44.out.size
                  clear hb hX
                  refine wpAny_ready (rs := [6]) (by kernel_rfl) (by simp) ?_
                  refine AllReady.cons rfl (fun K hK => ?_) AllReady.nil
                  have hr := HRun.out _ HB48.out P44 q44 (two_rows HO48.out HMN.out HFa.out HFb.out)
                  go_simp
                  refine hr.mono ?_
                  rintro e X49 ⟨A1, c1, rfl, ho, hb⟩
                  have HB49 := Lib.hid (HB48.out.trans (hb.mono HB48.out.size))
                  have HR49 := Lib.hid (ho.mono HB48.out.size)
                  have HG49 := Lib.hid (HG48.out.below hb)
                  clear ho hb hr
                  refine hK _ _ ?_
                  clear hK K
                  refine wpAny_take (i := 7) (v := .tuple #[.agg #[.int .u64 R1, .int .u64 R2], .slice A1 rl c1, .int .i64 E]) rfl (by kernel_rfl) (by kernel_rfl) (by kernel_rfl) (fun _ _ _ h => nomatch h.1) (Or.inl ⟨by rfl, fun w => by go_simp⟩) ?_
                  refine wpAny_take (i := 8) (v := .agg #[.int .u64 R1, .int .u64 R2]) rfl (by kernel_rfl) (by kernel_rfl) (by kernel_rfl) (fun _ _ _ h => nomatch h.1) (Or.inl ⟨by rfl, fun w => by go_simp⟩) ?_
                  refine wpAny_take (i := 9) (v := .slice A1 rl c1) rfl (by kernel_rfl) (by kernel_rfl) (by kernel_rfl) (fun _ _ _ h => nomatch h.1) (Or.inl ⟨by rfl, fun w => by go_simp⟩) ?_
                  refine wpAny_take (i := 10) (v := .int .i64 E) rfl (by kernel_rfl) (by kernel_rfl) (by kernel_rfl) (fun _ _ _ h => nomatch h.1) (Or.inl ⟨by rfl, fun w => by go_simp⟩) ?_
                  refine wpAny_ready (rs := [12]) (by kernel_rfl) (by simp) ?_
                  refine AllReady.cons rfl (fun K hK => ?_) AllReady.nil
                  have k_c0 := HG49.out.c0
                  have k_c1 := HG49.out.c1
                  have k_f0 := HG49.out.f0
                  have k_f1 := HG49.out.f1
                  go_simp
                  refine hK _ _ ?_
                  clear hK K
                  obtain ⟨X50, hX⟩ : ∃ X, X = (X49.setCell ⟨X44.heap.size, 0, none⟩ (.int .u64 R1)).setCell ⟨X44.heap.size, 1, none⟩ (.int .u64 R2) := ⟨_, rfl⟩
                  rw [← hX]
                  have HG50 := Lib.hid (show CB X50 X44.heap.size R1 R2 from by rw [hX]; exact (HG49.out.set0 R1).set1 R2)
                  have ht : Turn (fun i => i = X44.heap.size) X49 X50 := by rw [hX]; exact (turn_set _ _ _ _).trans (turn_set _ _ _ _) (fun i hi => .inl hi)
                  have HB50 := Lib.hid (HB49.out.trans (ht.below HB49.out.size (fun i hi => by have := hlow48; omega)))
                  have HR50 := Lib.hid (HR49.out.turn ht (fun i hi e => own_not_clock HR49.out.1 i hi (by rw [e]; exact ⟨_, HG49.out⟩)))
                  clear ht hX k_c0 k_c1 k_f0 k_f1
                  refine wpAny_ready (rs := [13]) (by kernel_rfl) (by simp) ?_
                  refine AllReady.cons rfl (fun K hK => ?_) AllReady.nil
                  go_simp
                  refine hK _ _ ?_
                  clear hK K
                  refine wpAny_ready (rs := [14]) (by kernel_rfl) (by simp) ?_
                  refine AllReady.cons rfl (fun K hK => ?_) AllReady.nil
                  go_simp
                  refine hK _ _ ?_
                  clear hK K
                  refine wpAny_done (by kernel_rfl) ?_ _
                  exact ⟨rfl, A1, c1, _, _, _, _, rfl, HG50.out, HR50.out, HB50.out⟩
                exact AllReady.nil
              refine AllReady.cons rfl (fun K hK => ?_) ?_
              ·
                go_simp
                refine hK _ _ ?_
                clear hK K
                obtain ⟨X51, hX⟩ : ∃ X, X = X43.alloc (.cells #[.int .u64 0, .int .u64 0] 24) := ⟨_, rfl⟩
                rw [← hX]
                have hb : Below X43.heap.size X43 X51 := by rw [hX]; exact bel1 _ _
                have HB51 := Lib.hid (HB43.out.trans (hb.mono HB43.out.size))
                have HO51 := Lib.hid (row_turn HO43.out (Turn.of_below (S := fun _ => False) hb) (fun _ _ e => e))
                have HG51 := Lib.hid (show CB X51 X43.heap.size 0 0 from by rw [hX]; exact CB.new _ _ _)
                have hlow51 : w1.heap.size ≤ X43.heap.size := HB43.out.size
                clear hb hX
                refine wpAny_ready (rs := [5]) (by kernel_rfl) (by simp) ?_
                refine AllReady.cons rfl (fun K hK => ?_) AllReady.nil
                refine gapp_step rfl (.tmp 32) (.tmp 33) appL rfl w1.heap.size P43 q43 m (a.map (Value.int .i64)) rfl HO51.out B cb n (b.map (Value.int .i64)) rfl (HRb.out _ HB51.out) (by omega) HB51.out.size ?_
                intro P52 q52 X52 ho hg _
                have HB52 := Lib.hid (HB51.out.trans (grown_bel hg HB51.out.size (fun i hi => (World.ownsRow.lt HO51.out i (by rw [own_blk]; exact hi)).1)))
                have HO52 := Lib.hid ho
                have HG52 := Lib.hid (HG51.out.turn (Turn.of_grown hg (fun i hi => .inl hi)) (fun e => row_not_clock HO51.out _ e ⟨_, HG51.out⟩))
                clear ho hg
                refine hK _ _ ?_
                clear hK K
                refine wpAny_ready (rs := [6]) (by kernel_rfl) (by simp) ?_
                refine AllReady.cons rfl (fun K hK => ?_) AllReady.nil
                have hr := HRun.out _ HB52.out P52 q52 (two_rows HO52.out HMN.out HFa.out HFb.out)
                go_simp
                refine hr.mono ?_
                rintro e X53 ⟨A1, c1, rfl, ho, hb⟩
                have HB53 := Lib.hid (HB52.out.trans (hb.mono HB52.out.size))
                have HR53 := Lib.hid (ho.mono HB52.out.size)
                have HG53 := Lib.hid (HG52.out.below hb)
                clear ho hb hr
                refine hK _ _ ?_
                clear hK K
                refine wpAny_take (i := 7) (v := .tuple #[.agg #[.int .u64 R1, .int .u64 R2], .slice A1 rl c1, .int .i64 E]) rfl (by kernel_rfl) (by kernel_rfl) (by kernel_rfl) (fun _ _ _ h => nomatch h.1) (Or.inl ⟨by rfl, fun w => by go_simp⟩) ?_
                refine wpAny_take (i := 8) (v := .agg #[.int .u64 R1, .int .u64 R2]) rfl (by kernel_rfl) (by kernel_rfl) (by kernel_rfl) (fun _ _ _ h => nomatch h.1) (Or.inl ⟨by rfl, fun w => by go_simp⟩) ?_
                refine wpAny_take (i := 9) (v := .slice A1 rl c1) rfl (by kernel_rfl) (by kernel_rfl) (by kernel_rfl) (fun _ _ _ h => nomatch h.1) (Or.inl ⟨by rfl, fun w => by go_simp⟩) ?_
                refine wpAny_take (i := 10) (v := .int .i64 E) rfl (by kernel_rfl) (by kernel_rfl) (by kernel_rfl) (fun _ _ _ h => nomatch h.1) (Or.inl ⟨by rfl, fun w => by go_simp⟩) ?_
                refine wpAny_ready (rs := [12]) (by kernel_rfl) (by simp) ?_
                refine AllReady.cons rfl (fun K hK => ?_) AllReady.nil
                have k_c0 := HG53.out.c0
                have k_c1 := HG53.out.c1
                have k_f0 := HG53.out.f0
                have k_f1 := HG53.out.f1
                go_simp
                refine hK _ _ ?_
                clear hK K
                obtain ⟨X54, hX⟩ : ∃ X, X = (X53.setCell ⟨X43.heap.size, 0, none⟩ (.int .u64 R1)).setCell ⟨X43.heap.size, 1, none⟩ (.int .u64 R2) := ⟨_, rfl⟩
                rw [← hX]
                have HG54 := Lib.hid (show CB X54 X43.heap.size R1 R2 from by rw [hX]; exact (HG53.out.set0 R1).set1 R2)
                have ht : Turn (fun i => i = X43.heap.size) X53 X54 := by rw [hX]; exact (turn_set _ _ _ _).trans (turn_set _ _ _ _) (fun i hi => .inl hi)
                have HB54 := Lib.hid (HB53.out.trans (ht.below HB53.out.size (fun i hi => by have := hlow51; omega)))
                have HR54 := Lib.hid (HR53.out.turn ht (fun i hi e => own_not_clock HR53.out.1 i hi (by rw [e]; exact ⟨_, HG53.out⟩)))
                clear ht hX k_c0 k_c1 k_f0 k_f1
                refine wpAny_ready (rs := [13]) (by kernel_rfl) (by simp) ?_
                refine AllReady.cons rfl (fun K hK => ?_) AllReady.nil
                go_simp
                refine hK _ _ ?_
                clear hK K
                refine wpAny_ready (rs := [14]) (by kernel_rfl) (by simp) ?_
                refine AllReady.cons rfl (fun K hK => ?_) AllReady.nil
                go_simp
                refine hK _ _ ?_
                clear hK K
                refine wpAny_done (by kernel_rfl) ?_ _
                exact ⟨rfl, A1, c1, _, _, _, _, rfl, HG54.out, HR54.out, HB54.out⟩
              exact AllReady.nil
            refine AllReady.cons rfl (fun K hK => ?_) ?_
            ·
              refine gapp_step rfl (.tmp 32) (.tmp 33) appL rfl w1.heap.size P43 q43 m (a.map (Value.int .i64)) rfl HO43.out B cb n (b.map (Value.int .i64)) rfl (HRb.out _ HB43.out) (by omega) HB43.out.size ?_
              intro P55 q55 X55 ho hg _
              have HB55 := Lib.hid (HB43.out.trans (grown_bel hg HB43.out.size (fun i hi => (World.ownsRow.lt HO43.out i (by rw [own_blk]; exact hi)).1)))
              have HO55 := Lib.hid ho
              clear ho hg
              refine hK _ _ ?_
              clear hK K
              refine wpAny_ready (rs := [0, 11]) (by kernel_rfl) (by simp) ?_
              refine AllReady.cons rfl (fun K hK => ?_) ?_
              ·
                have k0 := (HK.out _ HB55.out).c0
                have k1 := (HK.out _ HB55.out).c1
                go_simp
                refine hK _ _ ?_
                clear hK K
                clear k0 k1
                refine wpAny_ready (rs := [6, 11]) (by kernel_rfl) (by simp) ?_
                refine AllReady.cons rfl (fun K hK => ?_) ?_
                ·
                  have hr := HRun.out _ HB55.out P55 q55 (two_rows HO55.out HMN.out HFa.out HFb.out)
                  go_simp
                  refine hr.mono ?_
                  rintro e X56 ⟨A1, c1, rfl, ho, hb⟩
                  have HB56 := Lib.hid (HB55.out.trans (hb.mono HB55.out.size))
                  have HR56 := Lib.hid (ho.mono HB55.out.size)
                  clear ho hb hr
                  refine hK _ _ ?_
                  clear hK K
                  refine wpAny_take (i := 7) (v := .tuple #[.agg #[.int .u64 R1, .int .u64 R2], .slice A1 rl c1, .int .i64 E]) rfl (by kernel_rfl) (by kernel_rfl) (by kernel_rfl) (fun _ _ _ h => nomatch h.1) (Or.inl ⟨by rfl, fun w => by go_simp⟩) ?_
                  refine wpAny_take (i := 8) (v := .agg #[.int .u64 R1, .int .u64 R2]) rfl (by kernel_rfl) (by kernel_rfl) (by kernel_rfl) (fun _ _ _ h => nomatch h.1) (Or.inl ⟨by rfl, fun w => by go_simp⟩) ?_
                  refine wpAny_take (i := 9) (v := .slice A1 rl c1) rfl (by kernel_rfl) (by kernel_rfl) (by kernel_rfl) (fun _ _ _ h => nomatch h.1) (Or.inl ⟨by rfl, fun w => by go_simp⟩) ?_
                  refine wpAny_take (i := 10) (v := .int .i64 E) rfl (by kernel_rfl) (by kernel_rfl) (by kernel_rfl) (fun _ _ _ h => nomatch h.1) (Or.inl ⟨by rfl, fun w => by go_simp⟩) ?_
                  refine wpAny_ready (rs := [11]) (by kernel_rfl) (by simp) ?_
                  refine AllReady.cons rfl (fun K hK => ?_) AllReady.nil
                  go_simp
                  refine hK _ _ ?_
                  clear hK K
                  obtain ⟨X57, hX⟩ : ∃ X, X = X56.alloc (.cells #[.int .u64 0, .int .u64 0] 24) := ⟨_, rfl⟩
                  rw [← hX]
                  have hb : Below X56.heap.size X56 X57 := by rw [hX]; exact bel1 _ _
                  have HB57 := Lib.hid (HB56.out.trans (hb.mono HB56.out.size))
                  have HG57 := Lib.hid (show CB X57 X56.heap.size 0 0 from by rw [hX]; exact CB.new _ _ _)
                  have hlow57 : w1.heap.size ≤ X56.heap.size := HB56.out.size
                  have HR57 := Lib.hid (HR56.out.below hb)
                  clear hb hX
                  refine wpAny_ready (rs := [12]) (by kernel_rfl) (by simp) ?_
                  refine AllReady.cons rfl (fun K hK => ?_) AllReady.nil
                  have k_c0 := HG57.out.c0
                  have k_c1 := HG57.out.c1
                  have k_f0 := HG57.out.f0
                  have k_f1 := HG57.out.f1
                  go_simp
                  refine hK _ _ ?_
                  clear hK K
                  obtain ⟨X58, hX⟩ : ∃ X, X = (X57.setCell ⟨X56.heap.size, 0, none⟩ (.int .u64 R1)).setCell ⟨X56.heap.size, 1, none⟩ (.int .u64 R2) := ⟨_, rfl⟩
                  rw [← hX]
                  have HG58 := Lib.hid (show CB X58 X56.heap.size R1 R2 from by rw [hX]; exact (HG57.out.set0 R1).set1 R2)
                  have ht : Turn (fun i => i = X56.heap.size) X57 X58 := by rw [hX]; exact (turn_set _ _ _ _).trans (turn_set _ _ _ _) (fun i hi => .inl hi)
                  have HB58 := Lib.hid (HB57.out.trans (ht.below HB57.out.size (fun i hi => by have := hlow57; omega)))
                  have HR58 := Lib.hid (HR57.out.turn ht (fun i hi e => own_not_clock HR57.out.1 i hi (by rw [e]; exact ⟨_, HG57.out⟩)))
                  clear ht hX k_c0 k_c1 k_f0 k_f1
                  refine wpAny_ready (rs := [13]) (by kernel_rfl) (by simp) ?_
                  refine AllReady.cons rfl (fun K hK => ?_) AllReady.nil
                  go_simp
                  refine hK _ _ ?_
                  clear hK K
                  refine wpAny_ready (rs := [14]) (by kernel_rfl) (by simp) ?_
                  refine AllReady.cons rfl (fun K hK => ?_) AllReady.nil
                  go_simp
                  refine hK _ _ ?_
                  clear hK K
                  refine wpAny_done (by kernel_rfl) ?_ _
                  exact ⟨rfl, A1, c1, _, _, _, _, rfl, HG58.out, HR58.out, HB58.out⟩
                refine AllReady.cons rfl (fun K hK => ?_) ?_
                ·
                  go_simp
                  refine hK _ _ ?_
                  clear hK K
                  obtain ⟨X59, hX⟩ : ∃ X, X = X55.alloc (.cells #[.int .u64 0, .int .u64 0] 24) := ⟨_, rfl⟩
                  rw [← hX]
                  have hb : Below X55.heap.size X55 X59 := by rw [hX]; exact bel1 _ _
                  have HB59 := Lib.hid (HB55.out.trans (hb.mono HB55.out.size))
                  have HO59 := Lib.hid (row_turn HO55.out (Turn.of_below (S := fun _ => False) hb) (fun _ _ e => e))
                  have HG59 := Lib.hid (show CB X59 X55.heap.size 0 0 from by rw [hX]; exact CB.new _ _ _)
                  have hlow59 : w1.heap.size ≤ X55.heap.size := HB55.out.size
                  clear hb hX
                  refine wpAny_ready (rs := [6]) (by kernel_rfl) (by simp) ?_
                  refine AllReady.cons rfl (fun K hK => ?_) AllReady.nil
                  have hr := HRun.out _ HB59.out P55 q55 (two_rows HO59.out HMN.out HFa.out HFb.out)
                  go_simp
                  refine hr.mono ?_
                  rintro e X60 ⟨A1, c1, rfl, ho, hb⟩
                  have HB60 := Lib.hid (HB59.out.trans (hb.mono HB59.out.size))
                  have HR60 := Lib.hid (ho.mono HB59.out.size)
                  have HG60 := Lib.hid (HG59.out.below hb)
                  clear ho hb hr
                  refine hK _ _ ?_
                  clear hK K
                  refine wpAny_take (i := 7) (v := .tuple #[.agg #[.int .u64 R1, .int .u64 R2], .slice A1 rl c1, .int .i64 E]) rfl (by kernel_rfl) (by kernel_rfl) (by kernel_rfl) (fun _ _ _ h => nomatch h.1) (Or.inl ⟨by rfl, fun w => by go_simp⟩) ?_
                  refine wpAny_take (i := 8) (v := .agg #[.int .u64 R1, .int .u64 R2]) rfl (by kernel_rfl) (by kernel_rfl) (by kernel_rfl) (fun _ _ _ h => nomatch h.1) (Or.inl ⟨by rfl, fun w => by go_simp⟩) ?_
                  refine wpAny_take (i := 9) (v := .slice A1 rl c1) rfl (by kernel_rfl) (by kernel_rfl) (by kernel_rfl) (fun _ _ _ h => nomatch h.1) (Or.inl ⟨by rfl, fun w => by go_simp⟩) ?_
                  refine wpAny_take (i := 10) (v := .int .i64 E) rfl (by kernel_rfl) (by kernel_rfl) (by kernel_rfl) (fun _ _ _ h => nomatch h.1) (Or.inl ⟨by rfl, fun w => by go_simp⟩) ?_
                  refine wpAny_ready (rs := [12]) (by kernel_rfl) (by simp) ?_
                  refine AllReady.cons rfl (fun K hK => ?_) AllReady.nil
                  have k_c0 := HG60.out.c0
                  have k_c1 := HG60.out.c1
                  have k_f0 := HG60.out.f0
                  have k_f1 := HG60.out.f1
                  go_simp
                  refine hK _ _ ?_
                  clear hK K
                  obtain ⟨X61, hX⟩ : ∃ X, X = (X60.setCell ⟨X55.heap.size, 0, none⟩ (.int .u64 R1)).setCell ⟨X55.heap.size, 1, none⟩ (.int .u64 R2) := ⟨_, rfl⟩
                  rw [← hX]
                  have HG61 := Lib.hid (show CB X61 X55.heap.size R1 R2 from by rw [hX]; exact (HG60.out.set0 R1).set1 R2)
                  have ht : Turn (fun i => i = X55.heap.size) X60 X61 := by rw [hX]; exact (turn_set _ _ _ _).trans (turn_set _ _ _ _) (fun i hi => .inl hi)
                  have HB61 := Lib.hid (HB60.out.trans (ht.below HB60.out.size (fun i hi => by have := hlow59; omega)))
                  have HR61 := Lib.hid (HR60.out.turn ht (fun i hi e => own_not_clock HR60.out.1 i hi (by rw [e]; exact ⟨_, HG60.out⟩)))
                  clear ht hX k_c0 k_c1 k_f0 k_f1
                  refine wpAny_ready (rs := [13]) (by kernel_rfl) (by simp) ?_
                  refine AllReady.cons rfl (fun K hK => ?_) AllReady.nil
                  go_simp
                  refine hK _ _ ?_
                  clear hK K
                  refine wpAny_ready (rs := [14]) (by kernel_rfl) (by simp) ?_
                  refine AllReady.cons rfl (fun K hK => ?_) AllReady.nil
                  go_simp
                  refine hK _ _ ?_
                  clear hK K
                  refine wpAny_done (by kernel_rfl) ?_ _
                  exact ⟨rfl, A1, c1, _, _, _, _, rfl, HG61.out, HR61.out, HB61.out⟩
                exact AllReady.nil
              refine AllReady.cons rfl (fun K hK => ?_) ?_
              ·
                go_simp
                refine hK _ _ ?_
                clear hK K
                obtain ⟨X62, hX⟩ : ∃ X, X = X55.alloc (.cells #[.int .u64 0, .int .u64 0] 24) := ⟨_, rfl⟩
                rw [← hX]
                have hb : Below X55.heap.size X55 X62 := by rw [hX]; exact bel1 _ _
                have HB62 := Lib.hid (HB55.out.trans (hb.mono HB55.out.size))
                have HO62 := Lib.hid (row_turn HO55.out (Turn.of_below (S := fun _ => False) hb) (fun _ _ e => e))
                have HG62 := Lib.hid (show CB X62 X55.heap.size 0 0 from by rw [hX]; exact CB.new _ _ _)
                have hlow62 : w1.heap.size ≤ X55.heap.size := HB55.out.size
                clear hb hX
                refine wpAny_ready (rs := [0]) (by kernel_rfl) (by simp) ?_
                refine AllReady.cons rfl (fun K hK => ?_) AllReady.nil
                have k0 := (HK.out _ HB62.out).c0
                have k1 := (HK.out _ HB62.out).c1
                go_simp
                refine hK _ _ ?_
                clear hK K
                clear k0 k1
                refine wpAny_ready (rs := [6]) (by kernel_rfl) (by simp) ?_
                refine AllReady.cons rfl (fun K hK => ?_) AllReady.nil
                have hr := HRun.out _ HB62.out P55 q55 (two_rows HO62.out HMN.out HFa.out HFb.out)
                go_simp
                refine hr.mono ?_
                rintro e X63 ⟨A1, c1, rfl, ho, hb⟩
                have HB63 := Lib.hid (HB62.out.trans (hb.mono HB62.out.size))
                have HR63 := Lib.hid (ho.mono HB62.out.size)
                have HG63 := Lib.hid (HG62.out.below hb)
                clear ho hb hr
                refine hK _ _ ?_
                clear hK K
                refine wpAny_take (i := 7) (v := .tuple #[.agg #[.int .u64 R1, .int .u64 R2], .slice A1 rl c1, .int .i64 E]) rfl (by kernel_rfl) (by kernel_rfl) (by kernel_rfl) (fun _ _ _ h => nomatch h.1) (Or.inl ⟨by rfl, fun w => by go_simp⟩) ?_
                refine wpAny_take (i := 8) (v := .agg #[.int .u64 R1, .int .u64 R2]) rfl (by kernel_rfl) (by kernel_rfl) (by kernel_rfl) (fun _ _ _ h => nomatch h.1) (Or.inl ⟨by rfl, fun w => by go_simp⟩) ?_
                refine wpAny_take (i := 9) (v := .slice A1 rl c1) rfl (by kernel_rfl) (by kernel_rfl) (by kernel_rfl) (fun _ _ _ h => nomatch h.1) (Or.inl ⟨by rfl, fun w => by go_simp⟩) ?_
                refine wpAny_take (i := 10) (v := .int .i64 E) rfl (by kernel_rfl) (by kernel_rfl) (by kernel_rfl) (fun _ _ _ h => nomatch h.1) (Or.inl ⟨by rfl, fun w => by go_simp⟩) ?_
                refine wpAny_ready (rs := [12]) (by kernel_rfl) (by simp) ?_
                refine AllReady.cons rfl (fun K hK => ?_) AllReady.nil
                have k_c0 := HG63.out.c0
                have k_c1 := HG63.out.c1
                have k_f0 := HG63.out.f0
                have k_f1 := HG63.out.f1
                go_simp
                refine hK _ _ ?_
                clear hK K
                obtain ⟨X64, hX⟩ : ∃ X, X = (X63.setCell ⟨X55.heap.size, 0, none⟩ (.int .u64 R1)).setCell ⟨X55.heap.size, 1, none⟩ (.int .u64 R2) := ⟨_, rfl⟩
                rw [← hX]
                have HG64 := Lib.hid (show CB X64 X55.heap.size R1 R2 from by rw [hX]; exact (HG63.out.set0 R1).set1 R2)
                have ht : Turn (fun i => i = X55.heap.size) X63 X64 := by rw [hX]; exact (turn_set _ _ _ _).trans (turn_set _ _ _ _) (fun i hi => .inl hi)
                have HB64 := Lib.hid (HB63.out.trans (ht.below HB63.out.size (fun i hi => by have := hlow62; omega)))
                have HR64 := Lib.hid (HR63.out.turn ht (fun i hi e => own_not_clock HR63.out.1 i hi (by rw [e]; exact ⟨_, HG63.out⟩)))
                clear ht hX k_c0 k_c1 k_f0 k_f1
                refine wpAny_ready (rs := [13]) (by kernel_rfl) (by simp) ?_
                refine AllReady.cons rfl (fun K hK => ?_) AllReady.nil
                go_simp
                refine hK _ _ ?_
                clear hK K
                refine wpAny_ready (rs := [14]) (by kernel_rfl) (by simp) ?_
                refine AllReady.cons rfl (fun K hK => ?_) AllReady.nil
                go_simp
                refine hK _ _ ?_
                clear hK K
                refine wpAny_done (by kernel_rfl) ?_ _
                exact ⟨rfl, A1, c1, _, _, _, _, rfl, HG64.out, HR64.out, HB64.out⟩
              exact AllReady.nil
            refine AllReady.cons rfl (fun K hK => ?_) ?_
            ·
              go_simp
              refine hK _ _ ?_
              clear hK K
              obtain ⟨X65, hX⟩ : ∃ X, X = X43.alloc (.cells #[.int .u64 0, .int .u64 0] 24) := ⟨_, rfl⟩
              rw [← hX]
              have hb : Below X43.heap.size X43 X65 := by rw [hX]; exact bel1 _ _
              have HB65 := Lib.hid (HB43.out.trans (hb.mono HB43.out.size))
              have HO65 := Lib.hid (row_turn HO43.out (Turn.of_below (S := fun _ => False) hb) (fun _ _ e => e))
              have HG65 := Lib.hid (show CB X65 X43.heap.size 0 0 from by rw [hX]; exact CB.new _ _ _)
              have hlow65 : w1.heap.size ≤ X43.heap.size := HB43.out.size
              clear hb hX
              refine wpAny_ready (rs := [0, 5]) (by kernel_rfl) (by simp) ?_
              refine AllReady.cons rfl (fun K hK => ?_) ?_
              ·
                have k0 := (HK.out _ HB65.out).c0
                have k1 := (HK.out _ HB65.out).c1
                go_simp
                refine hK _ _ ?_
                clear hK K
                clear k0 k1
                refine wpAny_ready (rs := [5]) (by kernel_rfl) (by simp) ?_
                refine AllReady.cons rfl (fun K hK => ?_) AllReady.nil
                refine gapp_step rfl (.tmp 32) (.tmp 33) appL rfl w1.heap.size P43 q43 m (a.map (Value.int .i64)) rfl HO65.out B cb n (b.map (Value.int .i64)) rfl (HRb.out _ HB65.out) (by omega) HB65.out.size ?_
                intro P66 q66 X66 ho hg _
                have HB66 := Lib.hid (HB65.out.trans (grown_bel hg HB65.out.size (fun i hi => (World.ownsRow.lt HO65.out i (by rw [own_blk]; exact hi)).1)))
                have HO66 := Lib.hid ho
                have HG66 := Lib.hid (HG65.out.turn (Turn.of_grown hg (fun i hi => .inl hi)) (fun e => row_not_clock HO65.out _ e ⟨_, HG65.out⟩))
                clear ho hg
                refine hK _ _ ?_
                clear hK K
                refine wpAny_ready (rs := [6]) (by kernel_rfl) (by simp) ?_
                refine AllReady.cons rfl (fun K hK => ?_) AllReady.nil
                have hr := HRun.out _ HB66.out P66 q66 (two_rows HO66.out HMN.out HFa.out HFb.out)
                go_simp
                refine hr.mono ?_
                rintro e X67 ⟨A1, c1, rfl, ho, hb⟩
                have HB67 := Lib.hid (HB66.out.trans (hb.mono HB66.out.size))
                have HR67 := Lib.hid (ho.mono HB66.out.size)
                have HG67 := Lib.hid (HG66.out.below hb)
                clear ho hb hr
                refine hK _ _ ?_
                clear hK K
                refine wpAny_take (i := 7) (v := .tuple #[.agg #[.int .u64 R1, .int .u64 R2], .slice A1 rl c1, .int .i64 E]) rfl (by kernel_rfl) (by kernel_rfl) (by kernel_rfl) (fun _ _ _ h => nomatch h.1) (Or.inl ⟨by rfl, fun w => by go_simp⟩) ?_
                refine wpAny_take (i := 8) (v := .agg #[.int .u64 R1, .int .u64 R2]) rfl (by kernel_rfl) (by kernel_rfl) (by kernel_rfl) (fun _ _ _ h => nomatch h.1) (Or.inl ⟨by rfl, fun w => by go_simp⟩) ?_
                refine wpAny_take (i := 9) (v := .slice A1 rl c1) rfl (by kernel_rfl) (by kernel_rfl) (by kernel_rfl) (fun _ _ _ h => nomatch h.1) (Or.inl ⟨by rfl, fun w => by go_simp⟩) ?_
                refine wpAny_take (i := 10) (v := .int .i64 E) rfl (by kernel_rfl) (by kernel_rfl) (by kernel_rfl) (fun _ _ _ h => nomatch h.1) (Or.inl ⟨by rfl, fun w => by go_simp⟩) ?_
                refine wpAny_ready (rs := [12]) (by kernel_rfl) (by simp) ?_
                refine AllReady.cons rfl (fun K hK => ?_) AllReady.nil
                have k_c0 := HG67.out.c0
                have k_c1 := HG67.out.c1
                have k_f0 := HG67.out.f0
                have k_f1 := HG67.out.f1
                go_simp
                refine hK _ _ ?_
                clear hK K
                obtain ⟨X68, hX⟩ : ∃ X, X = (X67.setCell ⟨X43.heap.size, 0, none⟩ (.int .u64 R1)).setCell ⟨X43.heap.size, 1, none⟩ (.int .u64 R2) := ⟨_, rfl⟩
                rw [← hX]
                have HG68 := Lib.hid (show CB X68 X43.heap.size R1 R2 from by rw [hX]; exact (HG67.out.set0 R1).set1 R2)
                have ht : Turn (fun i => i = X43.heap.size) X67 X68 := by rw [hX]; exact (turn_set _ _ _ _).trans (turn_set _ _ _ _) (fun i hi => .inl hi)
                have HB68 := Lib.hid (HB67.out.trans (ht.below HB67.out.size (fun i hi => by have := hlow65; omega)))
                have HR68 := Lib.hid (HR67.out.turn ht (fun i hi e => own_not_clock HR67.out.1 i hi (by rw [e]; exact ⟨_, HG67.out⟩)))
                clear ht hX k_c0 k_c1 k_f0 k_f1
                refine wpAny_ready (rs := [13]) (by kernel_rfl) (by simp) ?_
                refine AllReady.cons rfl (fun K hK => ?_) AllReady.nil
                go_simp
                refine hK _ _ ?_
                clear hK K
                refine wpAny_ready (rs := [14]) (by kernel_rfl) (by simp) ?_
                refine AllReady.cons rfl (fun K hK => ?_) AllReady.nil
                go_simp
                refine hK _ _ ?_
                clear hK K
                refine wpAny_done (by kernel_rfl) ?_ _
                exact ⟨rfl, A1, c1, _, _, _, _, rfl, HG68.out, HR68.out, HB68.out⟩
              refine AllReady.cons rfl (fun K hK => ?_) ?_
              ·
                refine gapp_step rfl (.tmp 32) (.tmp 33) appL rfl w1.heap.size P43 q43 m (a.map (Value.int .i64)) rfl HO65.out B cb n (b.map (Value.int .i64)) rfl (HRb.out _ HB65.out) (by omega) HB65.out.size ?_
                intro P69 q69 X69 ho hg _
                have HB69 := Lib.hid (HB65.out.trans (grown_bel hg HB65.out.size (fun i hi => (World.ownsRow.lt HO65.out i (by rw [own_blk]; exact hi)).1)))
                have HO69 := Lib.hid ho
                have HG69 := Lib.hid (HG65.out.turn (Turn.of_grown hg (fun i hi => .inl hi)) (fun e => row_not_clock HO65.out _ e ⟨_, HG65.out⟩))
                clear ho hg
                refine hK _ _ ?_
                clear hK K
                refine wpAny_ready (rs := [0]) (by kernel_rfl) (by simp) ?_
                refine AllReady.cons rfl (fun K hK => ?_) AllReady.nil
                have k0 := (HK.out _ HB69.out).c0
                have k1 := (HK.out _ HB69.out).c1
                go_simp
                refine hK _ _ ?_
                clear hK K
                clear k0 k1
                refine wpAny_ready (rs := [6]) (by kernel_rfl) (by simp) ?_
                refine AllReady.cons rfl (fun K hK => ?_) AllReady.nil
                have hr := HRun.out _ HB69.out P69 q69 (two_rows HO69.out HMN.out HFa.out HFb.out)
                go_simp
                refine hr.mono ?_
                rintro e X70 ⟨A1, c1, rfl, ho, hb⟩
                have HB70 := Lib.hid (HB69.out.trans (hb.mono HB69.out.size))
                have HR70 := Lib.hid (ho.mono HB69.out.size)
                have HG70 := Lib.hid (HG69.out.below hb)
                clear ho hb hr
                refine hK _ _ ?_
                clear hK K
                refine wpAny_take (i := 7) (v := .tuple #[.agg #[.int .u64 R1, .int .u64 R2], .slice A1 rl c1, .int .i64 E]) rfl (by kernel_rfl) (by kernel_rfl) (by kernel_rfl) (fun _ _ _ h => nomatch h.1) (Or.inl ⟨by rfl, fun w => by go_simp⟩) ?_
                refine wpAny_take (i := 8) (v := .agg #[.int .u64 R1, .int .u64 R2]) rfl (by kernel_rfl) (by kernel_rfl) (by kernel_rfl) (fun _ _ _ h => nomatch h.1) (Or.inl ⟨by rfl, fun w => by go_simp⟩) ?_
                refine wpAny_take (i := 9) (v := .slice A1 rl c1) rfl (by kernel_rfl) (by kernel_rfl) (by kernel_rfl) (fun _ _ _ h => nomatch h.1) (Or.inl ⟨by rfl, fun w => by go_simp⟩) ?_
                refine wpAny_take (i := 10) (v := .int .i64 E) rfl (by kernel_rfl) (by kernel_rfl) (by kernel_rfl) (fun _ _ _ h => nomatch h.1) (Or.inl ⟨by rfl, fun w => by go_simp⟩) ?_
                refine wpAny_ready (rs := [12]) (by kernel_rfl) (by simp) ?_
                refine AllReady.cons rfl (fun K hK => ?_) AllReady.nil
                have k_c0 := HG70.out.c0
                have k_c1 := HG70.out.c1
                have k_f0 := HG70.out.f0
                have k_f1 := HG70.out.f1
                go_simp
                refine hK _ _ ?_
                clear hK K
                obtain ⟨X71, hX⟩ : ∃ X, X = (X70.setCell ⟨X43.heap.size, 0, none⟩ (.int .u64 R1)).setCell ⟨X43.heap.size, 1, none⟩ (.int .u64 R2) := ⟨_, rfl⟩
                rw [← hX]
                have HG71 := Lib.hid (show CB X71 X43.heap.size R1 R2 from by rw [hX]; exact (HG70.out.set0 R1).set1 R2)
                have ht : Turn (fun i => i = X43.heap.size) X70 X71 := by rw [hX]; exact (turn_set _ _ _ _).trans (turn_set _ _ _ _) (fun i hi => .inl hi)
                have HB71 := Lib.hid (HB70.out.trans (ht.below HB70.out.size (fun i hi => by have := hlow65; omega)))
                have HR71 := Lib.hid (HR70.out.turn ht (fun i hi e => own_not_clock HR70.out.1 i hi (by rw [e]; exact ⟨_, HG70.out⟩)))
                clear ht hX k_c0 k_c1 k_f0 k_f1
                refine wpAny_ready (rs := [13]) (by kernel_rfl) (by simp) ?_
                refine AllReady.cons rfl (fun K hK => ?_) AllReady.nil
                go_simp
                refine hK _ _ ?_
                clear hK K
                refine wpAny_ready (rs := [14]) (by kernel_rfl) (by simp) ?_
                refine AllReady.cons rfl (fun K hK => ?_) AllReady.nil
                go_simp
                refine hK _ _ ?_
                clear hK K
                refine wpAny_done (by kernel_rfl) ?_ _
                exact ⟨rfl, A1, c1, _, _, _, _, rfl, HG71.out, HR71.out, HB71.out⟩
              exact AllReady.nil
            exact AllReady.nil
          refine AllReady.cons rfl (fun K hK => ?_) ?_
          ·
            go_simp
            refine hK _ _ ?_
            clear hK K
            obtain ⟨X72, hX⟩ : ∃ X, X = X25.alloc (.cells #[.int .u64 0, .int .u64 0] 24) := ⟨_, rfl⟩
            rw [← hX]
            have hb : Below X25.heap.size X25 X72 := by rw [hX]; exact bel1 _ _
            have HB72 := Lib.hid (HB25.out.trans (hb.mono HB25.out.size))
            have HO72 := Lib.hid (row_turn HO25.out (Turn.of_below (S := fun _ => False) hb) (fun _ _ e => e))
            have HG72 := Lib.hid (show CB X72 X25.heap.size 0 0 from by rw [hX]; exact CB.new _ _ _)
            have hlow72 : w1.heap.size ≤ X25.heap.size := HB25.out.size
            clear hb hX
            refine wpAny_ready (rs := [0, 3]) (by kernel_rfl) (by simp) ?_
            refine AllReady.cons rfl (fun K hK => ?_) ?_
            ·
              have k0 := (HK.out _ HB72.out).c0
              have k1 := (HK.out _ HB72.out).c1
              go_simp
              refine hK _ _ ?_
              clear hK K
              clear k0 k1
              refine wpAny_ready (rs := [3]) (by kernel_rfl) (by simp) ?_
              refine AllReady.cons rfl (fun K hK => ?_) AllReady.nil
              refine gapp_step rfl (.tmp 30) (.tmp 31) appL rfl w1.heap.size (some ⟨X0.heap.size, 0, none⟩) 0 0 [] rfl HO72.out A ca m (a.map (Value.int .i64)) rfl (HRa.out _ HB72.out) (by omega) HB72.out.size ?_
              intro P73 q73 X73 ho hg _
              rw [Nat.zero_add, List.nil_append] at ho
              rw [Nat.zero_add]
              have HB73 := Lib.hid (HB72.out.trans (grown_bel hg HB72.out.size (fun i hi => (World.ownsRow.lt HO72.out i (by rw [own_blk]; exact hi)).1)))
              have HO73 := Lib.hid ho
              have HG73 := Lib.hid (HG72.out.turn (Turn.of_grown hg (fun i hi => .inl hi)) (fun e => row_not_clock HO72.out _ e ⟨_, HG72.out⟩))
              clear ho hg
              refine hK _ _ ?_
              clear hK K
              refine wpAny_ready (rs := [5]) (by kernel_rfl) (by simp) ?_
              refine AllReady.cons rfl (fun K hK => ?_) AllReady.nil
              refine gapp_step rfl (.tmp 32) (.tmp 33) appL rfl w1.heap.size P73 q73 m (a.map (Value.int .i64)) rfl HO73.out B cb n (b.map (Value.int .i64)) rfl (HRb.out _ HB73.out) (by omega) HB73.out.size ?_
              intro P74 q74 X74 ho hg _
              have HB74 := Lib.hid (HB73.out.trans (grown_bel hg HB73.out.size (fun i hi => (World.ownsRow.lt HO73.out i (by rw [own_blk]; exact hi)).1)))
              have HO74 := Lib.hid ho
              have HG74 := Lib.hid (HG73.out.turn (Turn.of_grown hg (fun i hi => .inl hi)) (fun e => row_not_clock HO73.out _ e ⟨_, HG73.out⟩))
              clear ho hg
              refine hK _ _ ?_
              clear hK K
              refine wpAny_ready (rs := [6]) (by kernel_rfl) (by simp) ?_
              refine AllReady.cons rfl (fun K hK => ?_) AllReady.nil
              have hr := HRun.out _ HB74.out P74 q74 (two_rows HO74.out HMN.out HFa.out HFb.out)
              go_simp
              refine hr.mono ?_
              rintro e X75 ⟨A1, c1, rfl, ho, hb⟩
              have HB75 := Lib.hid (HB74.out.trans (hb.mono HB74.out.size))
              have HR75 := Lib.hid (ho.mono HB74.out.size)
              have HG75 := Lib.hid (HG74.out.below hb)
              clear ho hb hr
              refine hK _ _ ?_
              clear hK K
              refine wpAny_take (i := 7) (v := .tuple #[.agg #[.int .u64 R1, .int .u64 R2], .slice A1 rl c1, .int .i64 E]) rfl (by kernel_rfl) (by kernel_rfl) (by kernel_rfl) (fun _ _ _ h => nomatch h.1) (Or.inl ⟨by rfl, fun w => by go_simp⟩) ?_
              refine wpAny_take (i := 8) (v := .agg #[.int .u64 R1, .int .u64 R2]) rfl (by kernel_rfl) (by kernel_rfl) (by kernel_rfl) (fun _ _ _ h => nomatch h.1) (Or.inl ⟨by rfl, fun w => by go_simp⟩) ?_
              refine wpAny_take (i := 9) (v := .slice A1 rl c1) rfl (by kernel_rfl) (by kernel_rfl) (by kernel_rfl) (fun _ _ _ h => nomatch h.1) (Or.inl ⟨by rfl, fun w => by go_simp⟩) ?_
              refine wpAny_take (i := 10) (v := .int .i64 E) rfl (by kernel_rfl) (by kernel_rfl) (by kernel_rfl) (fun _ _ _ h => nomatch h.1) (Or.inl ⟨by rfl, fun w => by go_simp⟩) ?_
              refine wpAny_ready (rs := [12]) (by kernel_rfl) (by simp) ?_
              refine AllReady.cons rfl (fun K hK => ?_) AllReady.nil
              have k_c0 := HG75.out.c0
              have k_c1 := HG75.out.c1
              have k_f0 := HG75.out.f0
              have k_f1 := HG75.out.f1
              go_simp
              refine hK _ _ ?_
              clear hK K
              obtain ⟨X76, hX⟩ : ∃ X, X = (X75.setCell ⟨X25.heap.size, 0, none⟩ (.int .u64 R1)).setCell ⟨X25.heap.size, 1, none⟩ (.int .u64 R2) := ⟨_, rfl⟩
              rw [← hX]
              have HG76 := Lib.hid (show CB X76 X25.heap.size R1 R2 from by rw [hX]; exact (HG75.out.set0 R1).set1 R2)
              have ht : Turn (fun i => i = X25.heap.size) X75 X76 := by rw [hX]; exact (turn_set _ _ _ _).trans (turn_set _ _ _ _) (fun i hi => .inl hi)
              have HB76 := Lib.hid (HB75.out.trans (ht.below HB75.out.size (fun i hi => by have := hlow72; omega)))
              have HR76 := Lib.hid (HR75.out.turn ht (fun i hi e => own_not_clock HR75.out.1 i hi (by rw [e]; exact ⟨_, HG75.out⟩)))
              clear ht hX k_c0 k_c1 k_f0 k_f1
              refine wpAny_ready (rs := [13]) (by kernel_rfl) (by simp) ?_
              refine AllReady.cons rfl (fun K hK => ?_) AllReady.nil
              go_simp
              refine hK _ _ ?_
              clear hK K
              refine wpAny_ready (rs := [14]) (by kernel_rfl) (by simp) ?_
              refine AllReady.cons rfl (fun K hK => ?_) AllReady.nil
              go_simp
              refine hK _ _ ?_
              clear hK K
              refine wpAny_done (by kernel_rfl) ?_ _
              exact ⟨rfl, A1, c1, _, _, _, _, rfl, HG76.out, HR76.out, HB76.out⟩
            refine AllReady.cons rfl (fun K hK => ?_) ?_
            ·
              refine gapp_step rfl (.tmp 30) (.tmp 31) appL rfl w1.heap.size (some ⟨X0.heap.size, 0, none⟩) 0 0 [] rfl HO72.out A ca m (a.map (Value.int .i64)) rfl (HRa.out _ HB72.out) (by omega) HB72.out.size ?_
              intro P77 q77 X77 ho hg _
              rw [Nat.zero_add, List.nil_append] at ho
              rw [Nat.zero_add]
              have HB77 := Lib.hid (HB72.out.trans (grown_bel hg HB72.out.size (fun i hi => (World.ownsRow.lt HO72.out i (by rw [own_blk]; exact hi)).1)))
              have HO77 := Lib.hid ho
              have HG77 := Lib.hid (HG72.out.turn (Turn.of_grown hg (fun i hi => .inl hi)) (fun e => row_not_clock HO72.out _ e ⟨_, HG72.out⟩))
              clear ho hg
              refine hK _ _ ?_
              clear hK K
              refine wpAny_ready (rs := [0, 5]) (by kernel_rfl) (by simp) ?_
              refine AllReady.cons rfl (fun K hK => ?_) ?_
              ·
                have k0 := (HK.out _ HB77.out).c0
                have k1 := (HK.out _ HB77.out).c1
                go_simp
                refine hK _ _ ?_
                clear hK K
                clear k0 k1
                refine wpAny_ready (rs := [5]) (by kernel_rfl) (by simp) ?_
                refine AllReady.cons rfl (fun K hK => ?_) AllReady.nil
                refine gapp_step rfl (.tmp 32) (.tmp 33) appL rfl w1.heap.size P77 q77 m (a.map (Value.int .i64)) rfl HO77.out B cb n (b.map (Value.int .i64)) rfl (HRb.out _ HB77.out) (by omega) HB77.out.size ?_
                intro P78 q78 X78 ho hg _
                have HB78 := Lib.hid (HB77.out.trans (grown_bel hg HB77.out.size (fun i hi => (World.ownsRow.lt HO77.out i (by rw [own_blk]; exact hi)).1)))
                have HO78 := Lib.hid ho
                have HG78 := Lib.hid (HG77.out.turn (Turn.of_grown hg (fun i hi => .inl hi)) (fun e => row_not_clock HO77.out _ e ⟨_, HG77.out⟩))
                clear ho hg
                refine hK _ _ ?_
                clear hK K
                refine wpAny_ready (rs := [6]) (by kernel_rfl) (by simp) ?_
                refine AllReady.cons rfl (fun K hK => ?_) AllReady.nil
                have hr := HRun.out _ HB78.out P78 q78 (two_rows HO78.out HMN.out HFa.out HFb.out)
                go_simp
                refine hr.mono ?_
                rintro e X79 ⟨A1, c1, rfl, ho, hb⟩
                have HB79 := Lib.hid (HB78.out.trans (hb.mono HB78.out.size))
                have HR79 := Lib.hid (ho.mono HB78.out.size)
                have HG79 := Lib.hid (HG78.out.below hb)
                clear ho hb hr
                refine hK _ _ ?_
                clear hK K
                refine wpAny_take (i := 7) (v := .tuple #[.agg #[.int .u64 R1, .int .u64 R2], .slice A1 rl c1, .int .i64 E]) rfl (by kernel_rfl) (by kernel_rfl) (by kernel_rfl) (fun _ _ _ h => nomatch h.1) (Or.inl ⟨by rfl, fun w => by go_simp⟩) ?_
                refine wpAny_take (i := 8) (v := .agg #[.int .u64 R1, .int .u64 R2]) rfl (by kernel_rfl) (by kernel_rfl) (by kernel_rfl) (fun _ _ _ h => nomatch h.1) (Or.inl ⟨by rfl, fun w => by go_simp⟩) ?_
                refine wpAny_take (i := 9) (v := .slice A1 rl c1) rfl (by kernel_rfl) (by kernel_rfl) (by kernel_rfl) (fun _ _ _ h => nomatch h.1) (Or.inl ⟨by rfl, fun w => by go_simp⟩) ?_
                refine wpAny_take (i := 10) (v := .int .i64 E) rfl (by kernel_rfl) (by kernel_rfl) (by kernel_rfl) (fun _ _ _ h => nomatch h.1) (Or.inl ⟨by rfl, fun w => by go_simp⟩) ?_
                refine wpAny_ready (rs := [12]) (by kernel_rfl) (by simp) ?_
                refine AllReady.cons rfl (fun K hK => ?_) AllReady.nil
                have k_c0 := HG79.out.c0
                have k_c1 := HG79.out.c1
                have k_f0 := HG79.out.f0
                have k_f1 := HG79.out.f1
                go_simp
                refine hK _ _ ?_
                clear hK K
                obtain ⟨X80, hX⟩ : ∃ X, X = (X79.setCell ⟨X25.heap.size, 0, none⟩ (.int .u64 R1)).setCell ⟨X25.heap.size, 1, none⟩ (.int .u64 R2) := ⟨_, rfl⟩
                rw [← hX]
                have HG80 := Lib.hid (show CB X80 X25.heap.size R1 R2 from by rw [hX]; exact (HG79.out.set0 R1).set1 R2)
                have ht : Turn (fun i => i = X25.heap.size) X79 X80 := by rw [hX]; exact (turn_set _ _ _ _).trans (turn_set _ _ _ _) (fun i hi => .inl hi)
                have HB80 := Lib.hid (HB79.out.trans (ht.below HB79.out.size (fun i hi => by have := hlow72; omega)))
                have HR80 := Lib.hid (HR79.out.turn ht (fun i hi e => own_not_clock HR79.out.1 i hi (by rw [e]; exact ⟨_, HG79.out⟩)))
                clear ht hX k_c0 k_c1 k_f0 k_f1
                refine wpAny_ready (rs := [13]) (by kernel_rfl) (by simp) ?_
                refine AllReady.cons rfl (fun K hK => ?_) AllReady.nil
                go_simp
                refine hK _ _ ?_
                clear hK K
                refine wpAny_ready (rs := [14]) (by kernel_rfl) (by simp) ?_
                refine AllReady.cons rfl (fun K hK => ?_) AllReady.nil
                go_simp
                refine hK _ _ ?_
                clear hK K
                refine wpAny_done (by kernel_rfl) ?_ _
                exact ⟨rfl, A1, c1, _, _, _, _, rfl, HG80.out, HR80.out, HB80.out⟩
              refine AllReady.cons rfl (fun K hK => ?_) ?_
              ·
                refine gapp_step rfl (.tmp 32) (.tmp 33) appL rfl w1.heap.size P77 q77 m (a.map (Value.int .i64)) rfl HO77.out B cb n (b.map (Value.int .i64)) rfl (HRb.out _ HB77.out) (by omega) HB77.out.size ?_
                intro P81 q81 X81 ho hg _
                have HB81 := Lib.hid (HB77.out.trans (grown_bel hg HB77.out.size (fun i hi => (World.ownsRow.lt HO77.out i (by rw [own_blk]; exact hi)).1)))
                have HO81 := Lib.hid ho
                have HG81 := Lib.hid (HG77.out.turn (Turn.of_grown hg (fun i hi => .inl hi)) (fun e => row_not_clock HO77.out _ e ⟨_, HG77.out⟩))
                clear ho hg
                refine hK _ _ ?_
                clear hK K
                refine wpAny_ready (rs := [0]) (by kernel_rfl) (by simp) ?_
                refine AllReady.cons rfl (fun K hK => ?_) AllReady.nil
                have k0 := (HK.out _ HB81.out).c0
                have k1 := (HK.out _ HB81.out).c1
                go_simp
                refine hK _ _ ?_
                clear hK K
                clear k0 k1
                refine wpAny_ready (rs := [6]) (by kernel_rfl) (by simp) ?_
                refine AllReady.cons rfl (fun K hK => ?_) AllReady.nil
                have hr := HRun.out _ HB81.out P81 q81 (two_rows HO81.out HMN.out HFa.out HFb.out)
                go_simp
                refine hr.mono ?_
                rintro e X82 ⟨A1, c1, rfl, ho, hb⟩
                have HB82 := Lib.hid (HB81.out.trans (hb.mono HB81.out.size))
                have HR82 := Lib.hid (ho.mono HB81.out.size)
                have HG82 := Lib.hid (HG81.out.below hb)
                clear ho hb hr
                refine hK _ _ ?_
                clear hK K
                refine wpAny_take (i := 7) (v := .tuple #[.agg #[.int .u64 R1, .int .u64 R2], .slice A1 rl c1, .int .i64 E]) rfl (by kernel_rfl) (by kernel_rfl) (by kernel_rfl) (fun _ _ _ h => nomatch h.1) (Or.inl ⟨by rfl, fun w => by go_simp⟩) ?_
                refine wpAny_take (i := 8) (v := .agg #[.int .u64 R1, .int .u64 R2]) rfl (by kernel_rfl) (by kernel_rfl) (by kernel_rfl) (fun _ _ _ h => nomatch h.1) (Or.inl ⟨by rfl, fun w => by go_simp⟩) ?_
                refine wpAny_take (i := 9) (v := .slice A1 rl c1) rfl (by kernel_rfl) (by kernel_rfl) (by kernel_rfl) (fun _ _ _ h => nomatch h.1) (Or.inl ⟨by rfl, fun w => by go_simp⟩) ?_
                refine wpAny_take (i := 10) (v := .int .i64 E) rfl (by kernel_rfl) (by kernel_rfl) (by kernel_rfl) (fun _ _ _ h => nomatch h.1) (Or.inl ⟨by rfl, fun w => by go_simp⟩) ?_
                refine wpAny_ready (rs := [12]) (by kernel_rfl) (by simp) ?_
                refine AllReady.cons rfl (fun K hK => ?_) AllReady.nil
                have k_c0 := HG82.out.c0
                have k_c1 := HG82.out.c1
                have k_f0 := HG82.out.f0
                have k_f1 := HG82.out.f1
                go_simp
                refine hK _ _ ?_
                clear hK K
                obtain ⟨X83, hX⟩ : ∃ X, X = (X82.setCell ⟨X25.heap.size, 0, none⟩ (.int .u64 R1)).setCell ⟨X25.heap.size, 1, none⟩ (.int .u64 R2) := ⟨_, rfl⟩
                rw [← hX]
                have HG83 := Lib.hid (show CB X83 X25.heap.size R1 R2 from by rw [hX]; exact (HG82.out.set0 R1).set1 R2)
                have ht : Turn (fun i => i = X25.heap.size) X82 X83 := by rw [hX]; exact (turn_set _ _ _ _).trans (turn_set _ _ _ _) (fun i hi => .inl hi)
                have HB83 := Lib.hid (HB82.out.trans (ht.below HB82.out.size (fun i hi => by have := hlow72; omega)))
                have HR83 := Lib.hid (HR82.out.turn ht (fun i hi e => own_not_clock HR82.out.1 i hi (by rw [e]; exact ⟨_, HG82.out⟩)))
                clear ht hX k_c0 k_c1 k_f0 k_f1
                refine wpAny_ready (rs := [13]) (by kernel_rfl) (by simp) ?_
                refine AllReady.cons rfl (fun K hK => ?_) AllReady.nil
                go_simp
                refine hK _ _ ?_
                clear hK K
                refine wpAny_ready (rs := [14]) (by kernel_rfl) (by simp) ?_
                refine AllReady.cons rfl (fun K hK => ?_) AllReady.nil
                go_simp
                refine hK _ _ ?_
                clear hK K
                refine wpAny_done (by kernel_rfl) ?_ _
                exact ⟨rfl, A1, c1, _, _, _, _, rfl, HG83.out, HR83.out, HB83.out⟩
              exact AllReady.nil
            exact AllReady.nil
          exact AllReady.nil
        refine AllReady.cons rfl (fun K hK => ?_) ?_
        ·
          go_simp
          refine hK _ _ ?_
          clear hK K
          obtain ⟨X84, hX⟩ : ∃ X, X = X0.alloc (.cells #[.int .u64 0, .int .u64 0] 24) := ⟨_, rfl⟩
          rw [← hX]
          have hb : Below X0.heap.size X0 X84 := by rw [hX]; exact bel1 _ _
          have HB84 := Lib.hid (HB0.out.trans (hb.mono HB0.out.size))
          have HG84 := Lib.hid (show CB X84 X0.heap.size 0 0 from by rw [hX]; exact CB.new _ _ _)
          have hlow84 : w1.heap.size ≤ X0.heap.size := HB0.out.size
          clear hb hX
          refine wpAny_ready (rs := [0, 1]) (by kernel_rfl) (by simp) ?_
          refine AllReady.cons rfl (fun K hK => ?_) ?_
          ·
            have k0 := (HK.out _ HB84.out).c0
            have k1 := (HK.out _ HB84.out).c1
            go_simp
            refine hK _ _ ?_
            clear hK K
            clear k0 k1
            refine wpAny_ready (rs := [1]) (by kernel_rfl) (by simp) ?_
            refine AllReady.cons rfl (fun K hK => ?_) AllReady.nil
            go_simp
            refine hK _ _ ?_
            clear hK K
            obtain ⟨X85, hX⟩ : ∃ X, X = X84.alloc (.cells #[] 2) := ⟨_, rfl⟩
            rw [← hX]
            have hb : Below X84.heap.size X84 X85 := by rw [hX]; exact bel1 _ _
            have HB85 := Lib.hid (HB84.out.trans (hb.mono HB84.out.size))
            have HO85 := Lib.hid (show X85.ownsRow w1.heap.size 2 1 (.slice (some ⟨X84.heap.size, 0, none⟩) 0 0) 0 [] from by rw [hX]; exact World.ownsRow_lit (base := w1.heap.size) (size := 1) (e := 2) X84 #[] 0 HB84.out.size (by decide) rfl)
            have HG85 := Lib.hid (HG84.out.below hb)
            clear hb hX
            refine wpAny_ready (rs := [3]) (by kernel_rfl) (by simp) ?_
            refine AllReady.cons rfl (fun K hK => ?_) AllReady.nil
            refine gapp_step rfl (.tmp 30) (.tmp 31) appL rfl w1.heap.size (some ⟨X84.heap.size, 0, none⟩) 0 0 [] rfl HO85.out A ca m (a.map (Value.int .i64)) rfl (HRa.out _ HB85.out) (by omega) HB85.out.size ?_
            intro P86 q86 X86 ho hg _
            rw [Nat.zero_add, List.nil_append] at ho
            rw [Nat.zero_add]
            have HB86 := Lib.hid (HB85.out.trans (grown_bel hg HB85.out.size (fun i hi => (World.ownsRow.lt HO85.out i (by rw [own_blk]; exact hi)).1)))
            have HO86 := Lib.hid ho
            have HG86 := Lib.hid (HG85.out.turn (Turn.of_grown hg (fun i hi => .inl hi)) (fun e => row_not_clock HO85.out _ e ⟨_, HG85.out⟩))
            clear ho hg
            refine hK _ _ ?_
            clear hK K
            refine wpAny_ready (rs := [5]) (by kernel_rfl) (by simp) ?_
            refine AllReady.cons rfl (fun K hK => ?_) AllReady.nil
            refine gapp_step rfl (.tmp 32) (.tmp 33) appL rfl w1.heap.size P86 q86 m (a.map (Value.int .i64)) rfl HO86.out B cb n (b.map (Value.int .i64)) rfl (HRb.out _ HB86.out) (by omega) HB86.out.size ?_
            intro P87 q87 X87 ho hg _
            have HB87 := Lib.hid (HB86.out.trans (grown_bel hg HB86.out.size (fun i hi => (World.ownsRow.lt HO86.out i (by rw [own_blk]; exact hi)).1)))
            have HO87 := Lib.hid ho
            have HG87 := Lib.hid (HG86.out.turn (Turn.of_grown hg (fun i hi => .inl hi)) (fun e => row_not_clock HO86.out _ e ⟨_, HG86.out⟩))
            clear ho hg
            refine hK _ _ ?_
            clear hK K
            refine wpAny_ready (rs := [6]) (by kernel_rfl) (by simp) ?_
            refine AllReady.cons rfl (fun K hK => ?_) AllReady.nil
            have hr := HRun.out _ HB87.out P87 q87 (two_rows HO87.out HMN.out HFa.out HFb.out)
            go_simp
            refine hr.mono ?_
            rintro e X88 ⟨A1, c1, rfl, ho, hb⟩
            have HB88 := Lib.hid (HB87.out.trans (hb.mono HB87.out.size))
            have HR88 := Lib.hid (ho.mono HB87.out.size)
            have HG88 := Lib.hid (HG87.out.below hb)
            clear ho hb hr
            refine hK _ _ ?_
            clear hK K
            refine wpAny_take (i := 7) (v := .tuple #[.agg #[.int .u64 R1, .int .u64 R2], .slice A1 rl c1, .int .i64 E]) rfl (by kernel_rfl) (by kernel_rfl) (by kernel_rfl) (fun _ _ _ h => nomatch h.1) (Or.inl ⟨by rfl, fun w => by go_simp⟩) ?_
            refine wpAny_take (i := 8) (v := .agg #[.int .u64 R1, .int .u64 R2]) rfl (by kernel_rfl) (by kernel_rfl) (by kernel_rfl) (fun _ _ _ h => nomatch h.1) (Or.inl ⟨by rfl, fun w => by go_simp⟩) ?_
            refine wpAny_take (i := 9) (v := .slice A1 rl c1) rfl (by kernel_rfl) (by kernel_rfl) (by kernel_rfl) (fun _ _ _ h => nomatch h.1) (Or.inl ⟨by rfl, fun w => by go_simp⟩) ?_
            refine wpAny_take (i := 10) (v := .int .i64 E) rfl (by kernel_rfl) (by kernel_rfl) (by kernel_rfl) (fun _ _ _ h => nomatch h.1) (Or.inl ⟨by rfl, fun w => by go_simp⟩) ?_
            refine wpAny_ready (rs := [12]) (by kernel_rfl) (by simp) ?_
            refine AllReady.cons rfl (fun K hK => ?_) AllReady.nil
            have k_c0 := HG88.out.c0
            have k_c1 := HG88.out.c1
            have k_f0 := HG88.out.f0
            have k_f1 := HG88.out.f1
            go_simp
            refine hK _ _ ?_
            clear hK K
            obtain ⟨X89, hX⟩ : ∃ X, X = (X88.setCell ⟨X0.heap.size, 0, none⟩ (.int .u64 R1)).setCell ⟨X0.heap.size, 1, none⟩ (.int .u64 R2) := ⟨_, rfl⟩
            rw [← hX]
            have HG89 := Lib.hid (show CB X89 X0.heap.size R1 R2 from by rw [hX]; exact (HG88.out.set0 R1).set1 R2)
            have ht : Turn (fun i => i = X0.heap.size) X88 X89 := by rw [hX]; exact (turn_set _ _ _ _).trans (turn_set _ _ _ _) (fun i hi => .inl hi)
            have HB89 := Lib.hid (HB88.out.trans (ht.below HB88.out.size (fun i hi => by have := hlow84; omega)))
            have HR89 := Lib.hid (HR88.out.turn ht (fun i hi e => own_not_clock HR88.out.1 i hi (by rw [e]; exact ⟨_, HG88.out⟩)))
            clear ht hX k_c0 k_c1 k_f0 k_f1
            refine wpAny_ready (rs := [13]) (by kernel_rfl) (by simp) ?_
            refine AllReady.cons rfl (fun K hK => ?_) AllReady.nil
            go_simp
            refine hK _ _ ?_
            clear hK K
            refine wpAny_ready (rs := [14]) (by kernel_rfl) (by simp) ?_
            refine AllReady.cons rfl (fun K hK => ?_) AllReady.nil
            go_simp
            refine hK _ _ ?_
            clear hK K
            refine wpAny_done (by kernel_rfl) ?_ _
            exact ⟨rfl, A1, c1, _, _, _, _, rfl, HG89.out, HR89.out, HB89.out⟩
          refine AllReady.cons rfl (fun K hK => ?_) ?_
          ·
            go_simp
            refine hK _ _ ?_
            clear hK K
            obtain ⟨X90, hX⟩ : ∃ X, X = X84.alloc (.cells #[] 2) := ⟨_, rfl⟩
            rw [← hX]
            have hb : Below X84.heap.size X84 X90 := by rw [hX]; exact bel1 _ _
            have HB90 := Lib.hid (HB84.out.trans (hb.mono HB84.out.size))
            have HO90 := Lib.hid (show X90.ownsRow w1.heap.size 2 1 (.slice (some ⟨X84.heap.size, 0, none⟩) 0 0) 0 [] from by rw [hX]; exact World.ownsRow_lit (base := w1.heap.size) (size := 1) (e := 2) X84 #[] 0 HB84.out.size (by decide) rfl)
            have HG90 := Lib.hid (HG84.out.below hb)
            clear hb hX
            refine wpAny_ready (rs := [0, 3]) (by kernel_rfl) (by simp) ?_
            refine AllReady.cons rfl (fun K hK => ?_) ?_
            ·
              have k0 := (HK.out _ HB90.out).c0
              have k1 := (HK.out _ HB90.out).c1
              go_simp
              refine hK _ _ ?_
              clear hK K
              clear k0 k1
              refine wpAny_ready (rs := [3]) (by kernel_rfl) (by simp) ?_
              refine AllReady.cons rfl (fun K hK => ?_) AllReady.nil
              refine gapp_step rfl (.tmp 30) (.tmp 31) appL rfl w1.heap.size (some ⟨X84.heap.size, 0, none⟩) 0 0 [] rfl HO90.out A ca m (a.map (Value.int .i64)) rfl (HRa.out _ HB90.out) (by omega) HB90.out.size ?_
              intro P91 q91 X91 ho hg _
              rw [Nat.zero_add, List.nil_append] at ho
              rw [Nat.zero_add]
              have HB91 := Lib.hid (HB90.out.trans (grown_bel hg HB90.out.size (fun i hi => (World.ownsRow.lt HO90.out i (by rw [own_blk]; exact hi)).1)))
              have HO91 := Lib.hid ho
              have HG91 := Lib.hid (HG90.out.turn (Turn.of_grown hg (fun i hi => .inl hi)) (fun e => row_not_clock HO90.out _ e ⟨_, HG90.out⟩))
              clear ho hg
              refine hK _ _ ?_
              clear hK K
              refine wpAny_ready (rs := [5]) (by kernel_rfl) (by simp) ?_
              refine AllReady.cons rfl (fun K hK => ?_) AllReady.nil
              refine gapp_step rfl (.tmp 32) (.tmp 33) appL rfl w1.heap.size P91 q91 m (a.map (Value.int .i64)) rfl HO91.out B cb n (b.map (Value.int .i64)) rfl (HRb.out _ HB91.out) (by omega) HB91.out.size ?_
              intro P92 q92 X92 ho hg _
              have HB92 := Lib.hid (HB91.out.trans (grown_bel hg HB91.out.size (fun i hi => (World.ownsRow.lt HO91.out i (by rw [own_blk]; exact hi)).1)))
              have HO92 := Lib.hid ho
              have HG92 := Lib.hid (HG91.out.turn (Turn.of_grown hg (fun i hi => .inl hi)) (fun e => row_not_clock HO91.out _ e ⟨_, HG91.out⟩))
              clear ho hg
              refine hK _ _ ?_
              clear hK K
              refine wpAny_ready (rs := [6]) (by kernel_rfl) (by simp) ?_
              refine AllReady.cons rfl (fun K hK => ?_) AllReady.nil
              have hr := HRun.out _ HB92.out P92 q92 (two_rows HO92.out HMN.out HFa.out HFb.out)
              go_simp
              refine hr.mono ?_
              rintro e X93 ⟨A1, c1, rfl, ho, hb⟩
              have HB93 := Lib.hid (HB92.out.trans (hb.mono HB92.out.size))
              have HR93 := Lib.hid (ho.mono HB92.out.size)
              have HG93 := Lib.hid (HG92.out.below hb)
              clear ho hb hr
              refine hK _ _ ?_
              clear hK K
              refine wpAny_take (i := 7) (v := .tuple #[.agg #[.int .u64 R1, .int .u64 R2], .slice A1 rl c1, .int .i64 E]) rfl (by kernel_rfl) (by kernel_rfl) (by kernel_rfl) (fun _ _ _ h => nomatch h.1) (Or.inl ⟨by rfl, fun w => by go_simp⟩) ?_
              refine wpAny_take (i := 8) (v := .agg #[.int .u64 R1, .int .u64 R2]) rfl (by kernel_rfl) (by kernel_rfl) (by kernel_rfl) (fun _ _ _ h => nomatch h.1) (Or.inl ⟨by rfl, fun w => by go_simp⟩) ?_
              refine wpAny_take (i := 9) (v := .slice A1 rl c1) rfl (by kernel_rfl) (by kernel_rfl) (by kernel_rfl) (fun _ _ _ h => nomatch h.1) (Or.inl ⟨by rfl, fun w => by go_simp⟩) ?_
              refine wpAny_take (i := 10) (v := .int .i64 E) rfl (by kernel_rfl) (by kernel_rfl) (by kernel_rfl) (fun _ _ _ h => nomatch h.1) (Or.inl ⟨by rfl, fun w => by go_simp⟩) ?_
              refine wpAny_ready (rs := [12]) (by kernel_rfl) (by simp) ?_
              refine AllReady.cons rfl (fun K hK => ?_) AllReady.nil
              have k_c0 := HG93.out.c0
              have k_c1 := HG93.out.c1
              have k_f0 := HG93.out.f0
              have k_f1 := HG93.out.f1
              go_simp
              refine hK _ _ ?_
              clear hK K
              obtain ⟨X94, hX⟩ : ∃ X, X = (X93.setCell ⟨X0.heap.size, 0, none⟩ (.int .u64 R1)).setCell ⟨X0.heap.size, 1, none⟩ (.int .u64 R2) := ⟨_, rfl⟩
              rw [← hX]
              have HG94 := Lib.hid (show CB X94 X0.heap.size R1 R2 from by rw [hX]; exact (HG93.out.set0 R1).set1 R2)
              have ht : Turn (fun i => i = X0.heap.size) X93 X94 := by rw [hX]; exact (turn_set _ _ _ _).trans (turn_set _ _ _ _) (fun i hi => .inl hi)
              have HB94 := Lib.hid (HB93.out.trans (ht.below HB93.out.size (fun i hi => by have := hlow84; omega)))
              have HR94 := Lib.hid (HR93.out.turn ht (fun i hi e => own_not_clock HR93.out.1 i hi (by rw [e]; exact ⟨_, HG93.out⟩)))
              clear ht hX k_c0 k_c1 k_f0 k_f1
              refine wpAny_ready (rs := [13]) (by kernel_rfl) (by simp) ?_
              refine AllReady.cons rfl (fun K hK => ?_) AllReady.nil
              go_simp
              refine hK _ _ ?_
              clear hK K
              refine wpAny_ready (rs := [14]) (by kernel_rfl) (by simp) ?_
              refine AllReady.cons rfl (fun K hK => ?_) AllReady.nil
              go_simp
              refine hK _ _ ?_
              clear hK K
              refine wpAny_done (by kernel_rfl) ?_ _
              exact ⟨rfl, A1, c1, _, _, _, _, rfl, HG94.out, HR94.out, HB94.out⟩
            refine AllReady.cons rfl (fun K hK => ?_) ?_
            ·
              refine gapp_step rfl (.tmp 30) (.tmp 31) appL rfl w1.heap.size (some ⟨X84.heap.size, 0, none⟩) 0 0 [] rfl HO90.out A ca m (a.map (Value.int .i64)) rfl (HRa.out _ HB90.out) (by omega) HB90.out.size ?_
              intro P95 q95 X95 ho hg _
              rw [Nat.zero_add, List.nil_append] at ho
              rw [Nat.zero_add]
              have HB95 := Lib.hid (HB90.out.trans (grown_bel hg HB90.out.size (fun i hi => (World.ownsRow.lt HO90.out i (by rw [own_blk]; exact hi)).1)))
              have HO95 := Lib.hid ho
              have HG95 := Lib.hid (HG90.out.turn (Turn.of_grown hg (fun i hi => .inl hi)) (fun e => row_not_clock HO90.out _ e ⟨_, HG90.out⟩))
              clear ho hg
              refine hK _ _ ?_
              clear hK K
              refine wpAny_ready (rs := [0, 5]) (by kernel_rfl) (by simp) ?_
              refine AllReady.cons rfl (fun K hK => ?_) ?_
              ·
                have k0 := (HK.out _ HB95.out).c0
                have k1 := (HK.out _ HB95.out).c1
                go_simp
                refine hK _ _ ?_
                clear hK K
                clear k0 k1
                refine wpAny_ready (rs := [5]) (by kernel_rfl) (by simp) ?_
                refine AllReady.cons rfl (fun K hK => ?_) AllReady.nil
                refine gapp_step rfl (.tmp 32) (.tmp 33) appL rfl w1.heap.size P95 q95 m (a.map (Value.int .i64)) rfl HO95.out B cb n (b.map (Value.int .i64)) rfl (HRb.out _ HB95.out) (by omega) HB95.out.size ?_
                intro P96 q96 X96 ho hg _
                have HB96 := Lib.hid (HB95.out.trans (grown_bel hg HB95.out.size (fun i hi => (World.ownsRow.lt HO95.out i (by rw [own_blk]; exact hi)).1)))
                have HO96 := Lib.hid ho
                have HG96 := Lib.hid (HG95.out.turn (Turn.of_grown hg (fun i hi => .inl hi)) (fun e => row_not_clock HO95.out _ e ⟨_, HG95.out⟩))
                clear ho hg
                refine hK _ _ ?_
                clear hK K
                refine wpAny_ready (rs := [6]) (by kernel_rfl) (by simp) ?_
                refine AllReady.cons rfl (fun K hK => ?_) AllReady.nil
                have hr := HRun.out _ HB96.out P96 q96 (two_rows HO96.out HMN.out HFa.out HFb.out)
                go_simp
                refine hr.mono ?_
                rintro e X97 ⟨A1, c1, rfl, ho, hb⟩
                have HB97 := Lib.hid (HB96.out.trans (hb.mono HB96.out.size))
                have HR97 := Lib.hid (ho.mono HB96.out.size)
                have HG97 := Lib.hid (HG96.out.below hb)
                clear ho hb hr
                refine hK _ _ ?_
                clear hK K
                refine wpAny_take (i := 7) (v := .tuple #[.agg #[.int .u64 R1, .int .u64 R2], .slice A1 rl c1, .int .i64 E]) rfl (by kernel_rfl) (by kernel_rfl) (by kernel_rfl) (fun _ _ _ h => nomatch h.1) (Or.inl ⟨by rfl, fun w => by go_simp⟩) ?_
                refine wpAny_take (i := 8) (v := .agg #[.int .u64 R1, .int .u64 R2]) rfl (by kernel_rfl) (by kernel_rfl) (by kernel_rfl) (fun _ _ _ h => nomatch h.1) (Or.inl ⟨by rfl, fun w => by go_simp⟩) ?_
                refine wpAny_take (i := 9) (v := .slice A1 rl c1) rfl (by kernel_rfl) (by kernel_rfl) (by kernel_rfl) (fun _ _ _ h => nomatch h.1) (Or.inl ⟨by rfl, fun w => by go_simp⟩) ?_
                refine wpAny_take (i := 10) (v := .int .i64 E) rfl (by kernel_rfl) (by kernel_rfl) (by kernel_rfl) (fun _ _ _ h => nomatch h.1) (Or.inl ⟨by rfl, fun w => by go_simp⟩) ?_
                refine wpAny_ready (rs := [12]) (by kernel_rfl) (by simp) ?_
                refine AllReady.cons rfl (fun K hK => ?_) AllReady.nil
                have k_c0 := HG97.out.c0
                have k_c1 := HG97.out.c1
                have k_f0 := HG97.out.f0
                have k_f1 := HG97.out.f1
                go_simp
                refine hK _ _ ?_
                clear hK K
                obtain ⟨X98, hX⟩ : ∃ X, X = (X97.setCell ⟨X0.heap.size, 0, none⟩ (.int .u64 R1)).setCell ⟨X0.heap.size, 1, none⟩ (.int .u64 R2) := ⟨_, rfl⟩
                rw [← hX]
                have HG98 := Lib.hid (show CB X98 X0.heap.size R1 R2 from by rw [hX]; exact (HG97.out.set0 R1).set1 R2)
                have ht : Turn (fun i => i = X0.heap.size) X97 X98 := by rw [hX]; exact (turn_set _ _ _ _).trans (turn_set _ _ _ _) (fun i hi => .inl hi)
                have HB98 := Lib.hid (HB97.out.trans (ht.below HB97.out.size (fun i hi => by have := hlow84; omega)))
                have HR98 := Lib.hid (HR97.out.turn ht (fun i hi e => own_not_clock HR97.out.1 i hi (by rw [e]; exact ⟨_, HG97.out⟩)))
                clear ht hX k_c0 k_c1 k_f0 k_f1
                refine wpAny_ready (rs := [13]) (by kernel_rfl) (by simp) ?_
                refine AllReady.cons rfl (fun K hK => ?_) AllReady.nil
                go_simp
                refine hK _ _ ?_
                clear hK K
                refine wpAny_ready (rs := [14]) (by kernel_rfl) (by simp) ?_
                refine AllReady.cons rfl (fun K hK => ?_) AllReady.nil
                go_simp
                refine hK _ _ ?_
                clear hK K
                refine wpAny_done (by kernel_rfl) ?_ _
                exact ⟨rfl, A1, c1, _, _, _, _, rfl, HG98.out, HR98.out, HB98.out⟩
              refine AllReady.cons rfl (fun K hK => ?_) ?_
              ·
                refine gapp_step rfl (.tmp 32) (.tmp 33) appL rfl w1.heap.size P95 q95 m (a.map (Value.int .i64)) rfl HO95.out B cb n (b.map (Value.int .i64)) rfl (HRb.out _ HB95.out) (by omega) HB95.out.size ?_
                intro P99 q99 X99 ho hg _
                have HB99 := Lib.hid (HB95.out.trans (grown_bel hg HB95.out.size (fun i hi => (World.ownsRow.lt HO95.out i (by rw [own_blk]; exact hi)).1)))
                have HO99 := Lib.hid ho
                have HG99 := Lib.hid (HG95.out.turn (Turn.of_grown hg (fun i hi => .inl hi)) (fun e => row_not_clock HO95.out _ e ⟨_, HG95.out⟩))
                clear ho hg
                refine hK _ _ ?_
                clear hK K
                refine wpAny_ready (rs := [0]) (by kernel_rfl) (by simp) ?_
                refine AllReady.cons rfl (fun K hK => ?_) AllReady.nil
                have k0 := (HK.out _ HB99.out).c0
                have k1 := (HK.out _ HB99.out).c1
                go_simp
                refine hK _ _ ?_
                clear hK K
                clear k0 k1
                refine wpAny_ready (rs := [6]) (by kernel_rfl) (by simp) ?_
                refine AllReady.cons rfl (fun K hK => ?_) AllReady.nil
                have hr := HRun.out _ HB99.out P99 q99 (two_rows HO99.out HMN.out HFa.out HFb.out)
                go_simp
                refine hr.mono ?_
                rintro e X100 ⟨A1, c1, rfl, ho, hb⟩
                have HB100 := Lib.hid (HB99.out.trans (hb.mono HB99.out.size))
                have HR100 := Lib.hid (ho.mono HB99.out.size)
                have HG100 := Lib.hid (HG99.out.below hb)
                clear ho hb hr
                refine hK _ _ ?_
                clear hK K
                refine wpAny_take (i := 7) (v := .tuple #[.agg #[.int .u64 R1, .int .u64 R2], .slice A1 rl c1, .int .i64 E]) rfl (by kernel_rfl) (by kernel_rfl) (by kernel_rfl) (fun _ _ _ h => nomatch h.1) (Or.inl ⟨by rfl, fun w => by go_simp⟩) ?_
                refine wpAny_take (i := 8) (v := .agg #[.int .u64 R1, .int .u64 R2]) rfl (by kernel_rfl) (by kernel_rfl) (by kernel_rfl) (fun _ _ _ h => nomatch h.1) (Or.inl ⟨by rfl, fun w => by go_simp⟩) ?_
                refine wpAny_take (i := 9) (v := .slice A1 rl c1) rfl (by kernel_rfl) (by kernel_rfl) (by kernel_rfl) (fun _ _ _ h => nomatch h.1) (Or.inl ⟨by rfl, fun w => by go_simp⟩) ?_
                refine wpAny_take (i := 10) (v := .int .i64 E) rfl (by kernel_rfl) (by kernel_rfl) (by kernel_rfl) (fun _ _ _ h => nomatch h.1) (Or.inl ⟨by rfl, fun w => by go_simp⟩) ?_
                refine wpAny_ready (rs := [12]) (by kernel_rfl) (by simp) ?_
                refine AllReady.cons rfl (fun K hK => ?_) AllReady.nil
                have k_c0 := HG100.out.c0
                have k_c1 := HG100.out.c1
                have k_f0 := HG100.out.f0
                have k_f1 := HG100.out.f1
                go_simp
                refine hK _ _ ?_
                clear hK K
                obtain ⟨X101, hX⟩ : ∃ X, X = (X100.setCell ⟨X0.heap.size, 0, none⟩ (.int .u64 R1)).setCell ⟨X0.heap.size, 1, none⟩ (.int .u64 R2) := ⟨_, rfl⟩
                rw [← hX]
                have HG101 := Lib.hid (show CB X101 X0.heap.size R1 R2 from by rw [hX]; exact (HG100.out.set0 R1).set1 R2)
                have ht : Turn (fun i => i = X0.heap.size) X100 X101 := by rw [hX]; exact (turn_set _ _ _ _).trans (turn_set _ _ _ _) (fun i hi => .inl hi)
                have HB101 := Lib.hid (HB100.out.trans (ht.below HB100.out.size (fun i hi => by have := hlow84; omega)))
                have HR101 := Lib.hid (HR100.out.turn ht (fun i hi e => own_not_clock HR100.out.1 i hi (by rw [e]; exact ⟨_, HG100.out⟩)))
                clear ht hX k_c0 k_c1 k_f0 k_f1
                refine wpAny_ready (rs := [13]) (by kernel_rfl) (by simp) ?_
                refine AllReady.cons rfl (fun K hK => ?_) AllReady.nil
                go_simp
                refine hK _ _ ?_
                clear hK K
                refine wpAny_ready (rs := [14]) (by kernel_rfl) (by simp) ?_
                refine AllReady.cons rfl (fun K hK => ?_) AllReady.nil
                go_simp
                refine hK _ _ ?_
                clear hK K
                refine wpAny_done (by kernel_rfl) ?_ _
                exact ⟨rfl, A1, c1, _, _, _, _, rfl, HG101.out, HR101.out, HB101.out⟩
              exact AllReady.nil
            exact AllReady.nil
          exact AllReady.nil
        exact AllReady.nil
    · have t2 : decide ((60 : Int) < (n : Int)) = true := by simp; omega
      go_enter Try.func6, Try.ntmps6
      go_wp2_with (rw [← HW.out])
      refine (wakes_any _).mono ?_
      rintro e w1 ⟨rfl, hb1⟩
      have HB1 := Lib.hid (HB0.out.trans (hb1.mono HB0.out.size))
      clear hb1
      go_wp2
      go_ret
      exact ⟨rfl, HB1.out⟩
  · have t1 : decide ((60 : Int) < (m : Int)) = true := by simp; omega
    go_enter Try.func6, Try.ntmps6
    go_wp2_with (rw [← HW.out])
    refine (wakes_any _).mono ?_
    rintro e w1 ⟨rfl, hb1⟩
    have HB1 := Lib.hid (HB0.out.trans (hb1.mono HB0.out.size))
    clear hb1
    go_wp2
    go_ret
    exact ⟨rfl, HB1.out⟩

set_option maxRecDepth 100000 in
theorem lifted (os : Os) (started : os.Started) (H : Type) (enc : TypeId × Value → H) :
    ReturnsInHanded {} Try.checked os 6 .any (Rows.clockPartsSpec.pre6 enc Try.prog Try.f6 Rows.clockPartsRow.domain false) (Rows.clockPartsSpec.post enc Try.prog Try.f6 false true false false) := by
  refine returnsInHanded_of_change (C := Try.checked) Try.own started (by kernel_rfl) Try.func6
    (ChangeSpec.witness6 (enc := enc) (C := Try.checked) false ⟨#[], #[.agg #[.int .u64 0, .int .u64 0], .slice none 0 0, .slice none 0 0], []⟩ 8 (by kernel_rfl) (by kernel_rfl) (by kernel_rfl) (by kernel_rfl)) ?_
  intro W base args ds gs before hval0 hW hcnd _
  have hval : ∀ (j : Nat) t v, Try.f6.params[j]? = some t → args[j]? = some v → Value.okWide Try.prog W .any base t v := hval0
  have hW' := hW
  obtain ⟨p, q, hA0, hV, rfl, hfz, hnd⟩ := hW
  have hA : DataW.TrodAll enc Try.prog W 0 (fun _ => true) true Try.f6.params.toList args.toList ds p := hA0
  rw [Try.params6] at hA hval
  have hA' := hA
  obtain ⟨v0, vs0, d0, ds0, p0, q0, hargs, rfl, rfl, h0, r0⟩ := trodAll_cons hA
  obtain ⟨v1, vs1, d1, ds1, p1, q1, rfl, rfl, rfl, h1, r1⟩ := trodAll_cons r0
  obtain ⟨v2, vs2, d2, ds2, p2, q2, rfl, rfl, rfl, h2, r2⟩ := trodAll_cons r1
  obtain ⟨rfl, rfl, rfl⟩ := trodAll_nil r2
  obtain rfl : args = #[v0, v1, v2] := by cases args; simp_all
  obtain ⟨rfl, rfl⟩ := trodVars_none hV
  obtain ⟨a0, b0, rfl, ua0, ub0⟩ := open_clock (hval 0 24 v0 rfl rfl) h0
  obtain ⟨A1, len1, c1, rfl⟩ := okWide_slice Try.underlying40 (hval 1 40 v1 rfl rfl)
  obtain ⟨z1, rfl, sl1⟩ := open_nums h1
  obtain ⟨A2, len2, c2, rfl⟩ := okWide_slice Try.underlying40 (hval 2 40 v2 rfl rfl)
  obtain ⟨z2, rfl, sl2⟩ := open_nums h2
  clear hA0 hval0
  refine (walk a0 b0 ua0 ub0 A1 c1 z1 sl1 A2 c2 z2 sl2).mono fun e W' ⟨he, bel⟩ => ?_
  subst he
  exact ⟨_, rfl, _, _, _, [], _, [], hW', trodAll_mk1 (shut_bool Try.underlying4 _), trodAll_below bel _ _ _ _ (by kernel_rfl) hA', rfl, bel.frame _, fun h => by cases h⟩

theorem proved : Rows.ClockPartsSaid :=
  OpenClaim.holds_of_wide 6 Try.f6 rfl rfl rfl rfl rfl rfl rfl ⟨rfl, rfl, rfl, rfl, rfl⟩ rfl rfl rfl rfl rfl (by kernel_rfl) Try.func6 (by kernel_rfl)
    (of_decide_eq_true (by kernel_rfl)) (by unfold Func.isWrapper; first | (rw [if_pos (by decide +kernel)]; kernel_rfl) | (rw [if_neg (by decide +kernel)]; exact ⟨rfl, rfl⟩))
    (fun os started H enc _ => lifted os started H enc)
#print axioms proved
end Go.Proofs.Ytcohaaobdpcoiaa.clockParts
