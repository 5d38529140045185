/-
  refuse, changed; what Put and Del hand in.
-/
import Derived.Test.YtbnedhhkapbliaaChnEnded
namespace Go.Proofs.Ytbnedhhkapbliaa
open Go.RowKit Go.Shelf
set_option linter.unusedVariables false
set_option linter.unusedSimpArgs false
set_option maxRecDepth 100000

set_option maxHeartbeats 400000 in
theorem refuse_any8 (A : Option Addr) (c : Nat) (q : List Pl) (ts : Int) (w : World) (h : Chn w A c q) :
    Calls Try.prog 48 #[.slice A q.length c, .int .u64 ts] w fun e w' => e = .returned (.int .i64 (refM (vals q) ts)) ∧ Below w.heap.size w w' := by
  have HC := Lib.hid (check_any8 A c q w h)
  have HL := Lib.hid (fun (W : World) (hW : Below w.heap.size w W) => lastTrace_any A c q W (h.below hW))
  have HR := Lib.hid (show refM (vals q) ts = if chainB (vals q) = true then (if ts ≤ lastM (vals q) ∨ 1099511627776 < ts then 181 else 0) else 180 from rfl)
  have HK := Lib.hid (show chkM (vals q) = if chainB (vals q) = true then 0 else 180 from rfl)
  generalize refM (vals q) ts = R at *
  generalize chkM (vals q) = E at *
  generalize lastM (vals q) = L at *
  generalize q.length = n at *
  clear h
  cases hc : chainB (vals q) with
  | false =>
    have HE := Lib.hid (show E = 180 by rw [HK.out, hc]; rfl)
    have HR2 := Lib.hid (show R = 180 by rw [HR.out, hc]; rfl)
    clear hc HK HR
    go_enter Try.func48, Try.ntmps48
    go_wp2_with fail
    refine HC.out.mono ?_
    rw [HE.out]
    rintro e w1 ⟨rfl, hb1⟩
    have HB1 := Lib.hid hb1
    clear hb1
    go_wp2
    go_ret
    rw [HR2.out]
    exact ⟨rfl, HB1.out⟩
  | true =>
    have HE := Lib.hid (show E = 0 by rw [HK.out, hc]; rfl)
    have HR1 := Lib.hid (show R = if ts ≤ L ∨ 1099511627776 < ts then 181 else 0 by rw [HR.out, hc]; rfl)
    clear hc HK HR
    by_cases h1 : ts ≤ L
    · have HR2 := Lib.hid (show R = 181 by rw [HR1.out, if_pos (.inl h1)])
      clear HR1
      go_enter Try.func48, Try.ntmps48
      go_wp2_with fail
      refine HC.out.mono ?_
      rw [HE.out]
      rintro e w1 ⟨rfl, hb1⟩
      have HB1 := Lib.hid hb1
      clear hb1
      go_wp2_with fail
      refine (HL.out _ HB1.out).mono ?_
      rintro e w2 ⟨rfl, hb2⟩
      have HB2 := Lib.hid (HB1.out.trans (hb2.mono HB1.out.size))
      clear hb2
      go_wp2
      go_ret
      rw [HR2.out]
      exact ⟨rfl, HB2.out⟩
    · have t1 : decide (ts ≤ L) = false := by simpa using h1
      by_cases h2 : 1099511627776 < ts
      · have HR2 := Lib.hid (show R = 181 by rw [HR1.out, if_pos (.inr h2)])
        have t2 : decide ((1099511627776 : Int) < ts) = true := by simpa using h2
        clear HR1
        go_enter Try.func48, Try.ntmps48
        go_wp2_with fail
        refine HC.out.mono ?_
        rw [HE.out]
        rintro e w1 ⟨rfl, hb1⟩
        have HB1 := Lib.hid hb1
        clear hb1
        go_wp2_with fail
        refine (HL.out _ HB1.out).mono ?_
        rintro e w2 ⟨rfl, hb2⟩
        have HB2 := Lib.hid (HB1.out.trans (hb2.mono HB1.out.size))
        clear hb2
        go_wp2
        go_ret
        rw [HR2.out]
        exact ⟨rfl, HB2.out⟩
      · have HR2 := Lib.hid (show R = 0 by rw [HR1.out, if_neg (fun e => e.elim h1 h2)])
        have t2 : decide ((1099511627776 : Int) < ts) = false := by simpa using h2
        clear HR1
        go_enter Try.func48, Try.ntmps48
        go_wp2_with fail
        refine HC.out.mono ?_
        rw [HE.out]
        rintro e w1 ⟨rfl, hb1⟩
        have HB1 := Lib.hid hb1
        clear hb1
        go_wp2_with fail
        refine (HL.out _ HB1.out).mono ?_
        rintro e w2 ⟨rfl, hb2⟩
        have HB2 := Lib.hid (HB1.out.trans (hb2.mono HB1.out.size))
        clear hb2
        go_wp2
        go_ret
        rw [HR2.out]
        exact ⟨rfl, HB2.out⟩

set_option maxHeartbeats 400000 in
theorem index_any8 (A : Option Addr) (c : Nat) (q : List Pl) (w : World) (h : Chn w A c q) :
    Calls Try.prog 67 #[.slice A q.length c, .func (.func 56) #[] #[]] w fun e w' => e = .returned (.int .i64 (openK (rOpen (vals q)))) ∧ Below w.heap.size w w' := by
  obtain ⟨n, hn⟩ : ∃ n, n = q.length := ⟨_, rfl⟩
  have hmn : n ≤ 9223372036854775807 := by rw [hn]; exact h.many
  have HQ := Lib.hid h
  have HN := Lib.hid hn
  have HR := Lib.hid (show openK (rOpen (vals q)) = openK ((vals q).findIdx? (fun v => decide (v.f = 0))) from rfl)
  generalize openK (rOpen (vals q)) = R at *
  rw [← hn]
  clear h hn
  go_enter Try.func67, Try.ntmps67
  go_wp2
  go_loopw [8] (fun i wr => ∃ k : Nat, k ≤ n ∧ i = .int .i64 k ∧ Hid (None_ (fun v => decide (v.f = 0)) (vals q) k) ∧ Hid (Below w.heap.size w wr)) (fun i _ => n - (intOf i).toNat)
  case atStart => exact ⟨0, Nat.zero_le _, rfl, Lib.hid (fun j u hj => by omega), Lib.hid (Below.refl _ _)⟩
  case round =>
    obtain ⟨k, hk, rfl, HK, HB⟩ := hrel
    by_cases hkn : k < n
    · obtain ⟨b, o, p, rfl, hp, hb, c0, c1, c2, hv, hf⟩ := (HQ.out.below HB.out).at_ (i := k) (by rw [← HN.out]; exact hkn)
      have HP := Lib.hid (vals_at hp)
      have k0 : (0 : Int) ≤ k := by omega
      have kn : (k : Int) < n := by omega
      have HV := Lib.hid (fun W => isOpen_any p.v.b p.v.f p.B p.v.x.length p.c W)
      clear hv hp hf
      cases hvis : decide (p.v.f = 0) with
      | true =>
        have HF := Lib.hid (show R = k by rw [HR.out, find_at HP.out (by exact hvis) HK.out]; rfl)
        rw [hvis] at HV
        clear hvis
        go_wp2_with fail
        refine (HV.out _).mono ?_
        rintro e w1 ⟨rfl, hb1⟩
        have HB1 := Lib.hid (HB.out.trans (hb1.mono HB.out.size))
        clear hb1
        go_wp2
        go_ret
        rw [HF.out]
        exact ⟨rfl, HB1.out⟩
      | false =>
        have HK2 := Lib.hid (HK.out.step HP.out (by exact hvis))
        rw [hvis] at HV
        clear hvis
        go_wp2_with fail
        refine (HV.out _).mono ?_
        rintro e w1 ⟨rfl, hb1⟩
        have HB1 := Lib.hid (HB.out.trans (hb1.mono HB.out.size))
        clear hb1
        go_wp2
        go_roundw
        case rel => exact ⟨k + 1, by omega, by go_num, HK2, HB1⟩
        case measure => simp [intOf]; omega
    · obtain rfl : k = n := by omega
      have HT := Lib.hid (show R = -1 by rw [HR.out, None_.all (by rw [vals_length, ← HN.out]; exact HK.out)]; rfl)
      go_wp2
      go_ret
      rw [HT.out]
      exact ⟨rfl, HB.out⟩

theorem openK_ge (o : Option Nat) : decide (0 ≤ openK o) = atB o := by cases o <;> simp [openK, atB]
theorem contains_any8 (A : Option Addr) (c : Nat) (q : List Pl) (w : World) (h : Chn w A c q) :
    Calls Try.prog 55 #[.slice A q.length c, .func (.func 56) #[] #[]] w fun e w' => e = .returned (.bool (atB (rOpen (vals q)))) ∧ Below w.heap.size w w' := by
  have HI := Lib.hid (index_any8 A c q w h)
  have HE := Lib.hid (openK_ge (rOpen (vals q)))
  generalize openK (rOpen (vals q)) = R at *
  generalize atB (rOpen (vals q)) = D at *
  generalize q.length = n at *
  clear h
  go_enter Try.func55, Try.ntmps55
  go_wp2_with fail
  refine HI.out.mono ?_
  rintro e w1 ⟨rfl, hb1⟩
  have HB1 := Lib.hid hb1
  clear hb1
  go_wp2
  go_ret
  exact ⟨by rw [← HE.out]; rfl, HB1.out⟩

set_option maxHeartbeats 400000 in
theorem changed_any (A : Option Addr) (c : Nat) (q : List Pl) (fid : FuncId) (cap : Array Value) (l : List Vr) (w : World) (h : Chn w A c q) (hs : Small q) (hen : ∀ v W, (callFunc fid (#[v] ++ cap)).run Try.prog W = .ok (.enter fid (#[v] ++ cap)) W)
    (hf : ∀ A1 c1 q1 W, vals q1 = vals q → OwnC w.heap.size W A1 c1 q1 → Below w.heap.size w W → Calls Try.prog fid (#[.slice A1 q1.length c1] ++ cap) W (GivesC w l)) :
    Calls Try.prog 51 #[.slice A q.length c, .func (.func fid) #[] cap] w (GivesC w l) := by
  obtain ⟨W0, hW0⟩ : ∃ W0, W0 = w.alloc (.cells #[.slice A q.length c] 22) := ⟨_, rfl⟩
  have hb0 : Below w.heap.size w W0 := by rw [hW0]; exact (Below.refl _ w).alloc (Nat.le_refl _) _
  have hz0 : W0.heap.size = w.heap.size + 1 := by rw [hW0]; simp
  have hx0 : Boxed W0 w.heap.size 22 (.slice A q.length c) := by rw [hW0]; exact heap_alloc_new _ _
  have hcp := copied_any 71 #[.pointer (some ⟨w.heap.size, 0, none⟩)] (fun _ => true) q W0 hs (fun p hp => ⟨((h.below hb0).el p hp), (h.fit p hp)⟩) (enters_of Try.func71 (by kernel_rfl) rfl)
    (fun X hX => all1_in 2 W0.heap.size w.heap.size (by omega) (show Boxed X w.heap.size 22 (.slice A q.length c) from (hX.block _ hx0.lt).trans hx0).cell (h.below hb0) hX (by omega) (Nat.le_refl _))
  have e : (vals q).filter (fun _ => true) = vals q := List.filter_eq_self.2 (fun _ _ => rfl)
  rw [e] at hcp
  have HC := Lib.hid hcp
  have HB0 := Lib.hid hb0
  have HZ0 := Lib.hid hz0
  have HF := Lib.hid hf
  rw [hW0] at HC
  have HW0 := Lib.hid hW0
  generalize q.length = n at *
  clear h hs hb0 hz0 hx0 hcp hf hW0
  go_enter Try.func51, Try.ntmps51
  go_wp2_with (go_at_call 66; refine (all_any _ _ _ _).mono ?_; rintro e w' ⟨rfl, rfl⟩)
  refine HC.out.mono ?_
  rintro e w1 ⟨A1, c1, q1, rfl, hv1, ho1, hb1⟩
  rw [← HW0.out] at hb1 ho1
  have hbw := HB0.out.trans (hb1.mono HB0.out.size)
  have hcl := HF.out A1 c1 q1 w1 hv1 (ho1.mono HB0.out.size) hbw
  have HCL := Lib.hid hcl
  clear hv1 ho1 hb1 hbw hcl
  go_wp2_with fail
  refine HCL.out.mono ?_
  rintro e w2 ⟨A2, c2, q2, rfl, hv2, ho2, hb2⟩
  have HX := Lib.hid (And.intro hv2 (And.intro ho2 hb2))
  clear hv2 ho2 hb2
  go_wp2
  go_ret
  exact ⟨A2, c2, q2, rfl, HX.out.1, HX.out.2.1, HX.out.2.2⟩

theorem u64_0 : U64s 0 := by unfold U64s; decide
theorem own_turn {base : Nat} {w w' : World} {A : Option Addr} {c : Nat} {q : List Pl} (h : OwnC base w A c q) (hb : base ≤ w.heap.size) (ht : Turn (fun k => blk A = some k) w w') : Below base w w' := ht.below hb (fun i hi => (h.low i hi).1)

theorem put1_lay {base : Nat} {W w3 : World} {A B : Option Addr} {c cb k : Nat} {q : List Pl} {b f : Int} {x : List Int} (ho : OwnC base w3 A c q) (hv : OwnV base w3 B cb x) (hbs : base ≤ W.heap.size) (hb : Below base W w3) (hk : k = x.length) :
    ∀ X, Below (w3.alloc (.cells #[.int .u64 b, .int .u64 f, .slice B k cb] 35)).heap.size (w3.alloc (.cells #[.int .u64 b, .int .u64 f, .slice B k cb] 35)) X → OwnC base X A c q ∧ Read X (some ⟨w3.heap.size, 0, none⟩) 1 3 (flatC [⟨⟨b, f, x⟩, B, cb⟩]) ∧ OwnV base X B cb x ∧ Below base W X := by
  intro X hX
  have hbx : Below w3.heap.size w3 X := ((Below.refl _ w3).alloc (Nat.le_refl _) _).trans (hX.mono (by simp))
  refine ⟨ho.below hbx, ?_, hv.below hbx, hb.trans (hbx.mono ?_)⟩
  · have hc : ∀ i, i < 3 → X.cell? ⟨w3.heap.size, i, none⟩ = #[.int .u64 b, .int .u64 f, .slice B k cb][i]? := fun i _ => (hX.cell (p := ⟨w3.heap.size, i, none⟩) (by simp)).trans (cell_laid w3 #[.int .u64 b, .int .u64 f, .slice B k cb] 35 i)
    exact Read.one (p := ⟨⟨b, f, x⟩, B, cb⟩) (hc 0 (by omega)) (hc 1 (by omega)) ((hc 2 (by omega)).trans (by rw [hk]; rfl))
  · exact Nat.le_trans hbs hb.size

set_option maxHeartbeats 1000000 in
theorem put1_any (w W : World) (A1 B : Option Addr) (c1 cb : Nat) (q1 : List Pl) (tb vb : Nat) (ts : Int) (x : List Int) (hl : Lasts q1) (hq : q1.length ≤ 100000) (ho : OwnC w.heap.size W A1 c1 q1) (hb : Below w.heap.size w W)
    (htb : w.cell? ⟨tb, 0, none⟩ = some (.int .u64 ts)) (hvb : w.cell? ⟨vb, 0, none⟩ = some (.slice B x.length cb)) (hv : Vec .i32 w B cb x) (hx : x.length ≤ 100000) (hts : U64s ts) :
    Calls Try.prog 52 #[.slice A1 q1.length c1, .pointer (some ⟨tb, 0, none⟩), .pointer (some ⟨vb, 0, none⟩)] W (GivesC w (endM ts (vals q1) ++ [⟨ts, 0, x⟩])) := by
  have ltb := World.block_lt_of_cell? w _ htb
  have lvb := World.block_lt_of_cell? w _ hvb
  have HS := Lib.hid (fun (X : World) (hX : Below w.heap.size W X) => show X.cell? ⟨tb, 0, none⟩ = some (.int .u64 ts) ∧ X.cell? ⟨vb, 0, none⟩ = some (.slice B x.length cb) from ⟨((hb.trans hX).cell (p := ⟨tb, 0, none⟩) ltb).trans htb, ((hb.trans hX).cell (p := ⟨vb, 0, none⟩) lvb).trans hvb⟩)
  have HE := Lib.hid (fun (X : World) (hX : Below W.heap.size W X) => ended_any w.heap.size A1 c1 q1 ts X (ho.below hX) hl hts)
  have HT := Lib.hid (fun (X Y : World) (hX : Below W.heap.size W X) (ht : Turn (fun k => blk A1 = some k) X Y) => show Below w.heap.size W Y from (hX.mono hb.size).trans (own_turn (ho.below hX) (Nat.le_trans hb.size hX.size) ht))
  have HC := Lib.hid (fun (X : World) (hX : Below w.heap.size W X) => clone_any B cb x X (hv.below (hb.trans hX)) (by omega))
  obtain ⟨n1, hn1⟩ : ∃ n1, n1 = q1.length := ⟨_, rfl⟩
  obtain ⟨k, hk⟩ : ∃ k, k = x.length := ⟨_, rfl⟩
  have HN1 := Lib.hid hn1
  have HK := Lib.hid hk
  have HBW := Lib.hid hb
  have HTS := Lib.hid hts
  have HQ := Lib.hid hq
  rw [← hn1] at HE hq ⊢
  rw [← hk] at HS HC
  clear hl ho hb htb hvb hv hx hts hn1 hk
  go_enter Try.func52, Try.ntmps52
  go_wp2
  go_region_held3 (fun X => X.cell? ⟨tb, 0, none⟩ = some (.int .u64 ts) ∧ X.cell? ⟨vb, 0, none⟩ = some (.slice B k cb)) (first | exact HS.out _ (Below.refl _ _) | exact HS.out _ (below_drew (Below.refl _ _)) | exact HS.out _ HB2.out | exact HS.out _ HB3.out| exact HS.out _ (HB3.out.alloc (Nat.le_trans HBW.out.size HB3.out.size) _) | exact HS.out _ (below_drew (HB3.out.alloc (Nat.le_trans HBW.out.size HB3.out.size) _)) | exact HS.out _ HB5.out) (first
    | (go_at_call 53; refine (HE.out _ (below_drew (Below.refl _ _))).mono ?_; rintro e w2 ⟨rfl, ⟨q2, ho2, hl2, hv2⟩, ht2⟩; have HB2 := Lib.hid (HT.out _ _ (below_drew (Below.refl _ _)) ht2); have HO2 := Lib.hid (And.intro ho2 (And.intro hl2 hv2)); clear ho2 hl2 hv2 ht2)
    | (go_at_call 54; refine (HC.out _ HB2.out).mono ?_; rintro e w3 ⟨B3, c3, rfl, hov, hb3⟩; have HB3 := Lib.hid (HB2.out.trans (hb3.mono (Nat.le_trans HBW.out.size HB2.out.size))); have HV3 := Lib.hid hov; have HA3 := Lib.hid (put1_lay (b := ts) (f := 0) (HO2.out.1.below hb3) (hov.mono (Nat.le_trans HBW.out.size HB2.out.size)) HBW.out.size ((HB2.out.trans (hb3.mono (Nat.le_trans HBW.out.size HB2.out.size)))) HK.out); clear hov hb3)
    | (refine gapp_step (by rfl) _ _ appV (by rfl) w.heap.size A1 c1 n1 (flatC q2) (by rfl) (by have := (HA3.out _ (by first | exact Below.refl _ _ | exact below_drew (Below.refl _ _))).1.row; rw [HO2.out.2.1] at this; exact this) (some ⟨w3.heap.size, 0, none⟩) 1 1 (flatC [⟨⟨ts, 0, x⟩, B3, c3⟩]) (by rfl) (HA3.out _ (by first | exact Below.refl _ _ | exact below_drew (Below.refl _ _))).2.1 (by omega) (Nat.le_trans HBW.out.size (HA3.out _ (by first | exact Below.refl _ _ | exact below_drew (Below.refl _ _))).2.2.2.size) ?_; intro A5 c5 w5 ho5 hg5 _; have HO5 := Lib.hid ho5; have HG5 := Lib.hid hg5; have HB5 := Lib.hid ((HA3.out _ (by first | exact Below.refl _ _ | exact below_drew (Below.refl _ _))).2.2.2.trans (grown_below hg5 (Nat.le_trans HBW.out.size (HA3.out _ (by first | exact Below.refl _ _ | exact below_drew (Below.refl _ _))).2.2.2.size) (fun i hi => ((HA3.out _ (by first | exact Below.refl _ _ | exact below_drew (Below.refl _ _))).1.low i hi).1))); clear ho5 hg5))
  have HL2 := HO2.out.2.1
  obtain ⟨a1, a2, a3, a4⟩ := HA3.out _ (Below.refl _ _)
  have HX := Lib.hid (show OwnC w.heap.size w5 A5 c5 (q2 ++ [⟨⟨ts, 0, x⟩, B3, c3⟩]) ∧ Below w.heap.size W w5 from by
    refine ⟨a1.snoc (p := ⟨⟨ts, 0, x⟩, B3, c3⟩) a3 ⟨HTS.out, u64_0⟩ (by rw [HL2]; exact HO5.out) HG5.out, a4.trans (grown_below HG5.out (Nat.le_trans HBW.out.size a4.size) (fun i hi => (a1.low i hi).1))⟩)
  have HV := Lib.hid (show vals (q2 ++ [⟨⟨ts, 0, x⟩, B3, c3⟩]) = endM ts (vals q1) ++ [⟨ts, 0, x⟩] by rw [vals_append, HO2.out.2.2]; rfl)
  have HL := Lib.hid (show (q2 ++ [(⟨⟨ts, 0, x⟩, B3, c3⟩ : Pl)]).length = n1 + 1 by rw [List.length_append, HL2]; rfl)
  clear a1 a2 a3 a4 HL2
  go_wp2
  go_ret
  exact ⟨A5, c5, _, by rw [HL.out]; rfl, HV.out, HX.out.1, HBW.out.trans HX.out.2⟩

set_option maxHeartbeats 1000000 in
theorem del1_any (w W : World) (A1 : Option Addr) (c1 : Nat) (q1 : List Pl) (tb : Nat) (ts : Int) (hl : Lasts q1) (ho : OwnC w.heap.size W A1 c1 q1) (hb : Below w.heap.size w W)
    (htb : w.cell? ⟨tb, 0, none⟩ = some (.int .u64 ts)) (hts : U64s ts) :
    Calls Try.prog 57 #[.slice A1 q1.length c1, .pointer (some ⟨tb, 0, none⟩)] W (GivesC w (endM ts (vals q1))) := by
  have ltb := World.block_lt_of_cell? w _ htb
  have h0 := (hb.cell (p := ⟨tb, 0, none⟩) ltb).trans htb
  have HE := Lib.hid (ended_any w.heap.size A1 c1 q1 ts W ho hl hts)
  have HT := Lib.hid (fun (Y : World) (ht : Turn (fun k => blk A1 = some k) W Y) => show Below w.heap.size W Y from own_turn ho hb.size ht)
  have HBW := Lib.hid hb
  obtain ⟨n1, hn1⟩ : ∃ n1, n1 = q1.length := ⟨_, rfl⟩
  rw [← hn1] at HE ⊢
  clear hl ho hb htb hts hn1
  go_enter Try.func57, Try.ntmps57
  go_wp2_with fail
  refine HE.out.mono ?_
  rintro e w2 ⟨rfl, ⟨q2, ho2, hl2, hv2⟩, ht2⟩
  have HX := Lib.hid (And.intro ho2 (And.intro hl2 (And.intro hv2 (HT.out _ ht2))))
  clear ho2 hl2 hv2 ht2
  go_wp2
  go_ret
  exact ⟨A1, c1, q2, by rw [HX.out.2.1]; rfl, HX.out.2.2.1, HX.out.1, HBW.out.trans HX.out.2.2.2⟩

end Go.Proofs.Ytbnedhhkapbliaa
