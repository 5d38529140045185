/-
  The document's Put, Del, Prune.
-/
import Derived.Test.YtbnedhhkapbliaaChnPut
namespace Go.Proofs.Ytbnedhhkapbliaa
open Go.RowKit Go.Shelf
set_option linter.unusedVariables false
set_option linter.unusedSimpArgs false
set_option maxRecDepth 100000

theorem rOpen_lt {q : List Pl} {i : Nat} (h : rOpen (vals q) = some i) : i < q.length := by
  unfold rOpen at h
  have := List.findIdx?_eq_some_iff_getElem.1 h
  obtain ⟨hi, _⟩ := this
  rw [vals_length] at hi; exact hi
/-- The document's error of Put, and of Del. -/
def rPutE (l : List Vr) (ts : Int) (x : List Int) : Int := if (decide (rLast l < ts) && decide (ts ≤ 1099511627776)) = true then (if right x = true then (if (decide (0 < l.length) && !decide ((l.getD 0 zv).x.length = x.length)) = true then 151 else if l.length = 96 then 6 else 0) else 150) else 181
def rPutN (l : List Vr) (ts : Int) (x : List Int) : List Vr := if rPutE l ts x = 0 then rEnd ts l ++ [⟨ts, 0, x⟩] else []
def rDelE (l : List Vr) (ts : Int) : Int := if (decide (rLast l < ts) && decide (ts ≤ 1099511627776)) = true then (if atB (rOpen l) = true then 0 else 4) else 181
def rDelN (l : List Vr) (ts : Int) : List Vr := if rDelE l ts = 0 then rEnd ts l else []

theorem set_at {q : List Pl} {i : Nat} {p : Pl} (ts : Int) (hp : q[i]? = some p) : vals (q.set i ⟨⟨p.v.b, ts, p.v.x⟩, p.B, p.c⟩) = (vals q).set i ⟨((vals q).getD i zv).b, ts, ((vals q).getD i zv).x⟩ := by
  rw [vals_getD hp]; unfold vals; rw [List.map_set]

set_option maxHeartbeats 2000000 in
theorem rDel_any (A : Option Addr) (c : Nat) (q : List Pl) (ts : Int) (w : World) (h : Chn w A c q) (hs : Small q) (hts : U64s ts) :
    Calls Try.prog 30 #[.slice A q.length c, .int .u64 ts] w (GivesE w (rDelN (vals q) ts) (rDelE (vals q) ts)) := by
  have HTi := Lib.hid (rTime_any A c q ts w h)
  have HCp := Lib.hid (fun (X : World) (hX : Below w.heap.size w X) => rCopy_any A c q X (h.below hX) hs)
  have HE := Lib.hid (show rDelE (vals q) ts = if (decide (rLast (vals q) < ts) && decide (ts ≤ 1099511627776)) = true then (if atB (rOpen (vals q)) = true then 0 else 4) else 181 from rfl)
  have HN := Lib.hid (show rDelN (vals q) ts = if rDelE (vals q) ts = 0 then rEnd ts (vals q) else [] from rfl)
  have HEnd := Lib.hid (show rEnd ts (vals q) = match rOpen (vals q) with | some i => (vals q).set i ⟨((vals q).getD i zv).b, ts, ((vals q).getD i zv).x⟩ | none => vals q from rfl)
  generalize rDelE (vals q) ts = E at *
  generalize rDelN (vals q) ts = N at *
  generalize rEnd ts (vals q) = EN at *
  generalize (decide (rLast (vals q) < ts) && decide (ts ≤ 1099511627776)) = T at *
  have HTS := Lib.hid hts
  have hmq := h.many
  have HSm := Lib.hid hs
  obtain ⟨n, hn⟩ : ∃ n, n = q.length := ⟨_, rfl⟩
  have HNn := Lib.hid hn
  rw [← hn] at HTi HCp hmq ⊢
  clear h hts hn hs
  cases T with
  | false =>
    have HE2 := Lib.hid (show E = 181 from HE.out)
    have HN2 := Lib.hid (show N = [] by rw [HN.out, if_neg (by rw [HE2.out]; decide)])
    clear HE HN HEnd
    go_enter Try.func30, Try.ntmps30
    go_wp2_with fail
    refine HTi.out.mono ?_
    rintro e w1 ⟨rfl, hb1⟩
    have HB1 := Lib.hid hb1
    clear hb1
    go_wp2
    go_ret2
    rw [HN2.out, HE2.out]
    exact ⟨none, 0, [], rfl, rfl, OwnC.nil _ _, HB1.out⟩
  | true =>
    have HE1 := Lib.hid (show E = if atB (rOpen (vals q)) = true then 0 else 4 from HE.out)
    clear HE
    go_enter Try.func30, Try.ntmps30
    go_wp2_with fail
    refine HTi.out.mono ?_
    rintro e w1 ⟨rfl, hb1⟩
    have HB1 := Lib.hid hb1
    clear hb1
    go_wp2_with fail
    refine (HCp.out _ HB1.out).mono ?_
    rintro e w2 ⟨A2, c2, q2, rfl, hv2, ho2, hb2⟩
    have hl2 : q2.length = n := by rw [HNn.out]; have := congrArg List.length hv2; simpa [vals] using this
    have HOp := Lib.hid (rOpen_any A2 c2 q2 w2 ho2.chn)
    rw [hv2] at HOp
    rw [hl2] at HOp ⊢
    have HB2 := Lib.hid (HB1.out.trans (hb2.mono HB1.out.size))
    have HO2 := Lib.hid (ho2.mono HB1.out.size)
    have HL2 := Lib.hid hl2
    have HV2 := Lib.hid hv2
    clear hv2 ho2 hb2 hl2
    cases ho : rOpen (vals q) with
    | none =>
      have HE2 := Lib.hid (show E = 4 by rw [HE1.out, ho]; rfl)
      have HN2 := Lib.hid (show N = [] by rw [HN.out, if_neg (by rw [HE2.out]; decide)])
      rw [ho] at HOp
      clear ho HE1 HN HEnd
      go_wp2_with fail
      refine HOp.out.mono ?_
      unfold openK
      dsimp only
      rintro e w3 ⟨rfl, hb3⟩
      have HB3 := Lib.hid (HB2.out.trans (hb3.mono HB2.out.size))
      clear hb3
      go_wp2
      go_ret2
      rw [HN2.out, HE2.out]
      exact ⟨none, 0, [], rfl, rfl, OwnC.nil _ _, HB3.out⟩
    | some i =>
      have hil : i < q.length := rOpen_lt ho
      have HE2 := Lib.hid (show E = 0 by rw [HE1.out, ho]; rfl)
      have HN2 := Lib.hid (show N = (vals q).set i ⟨((vals q).getD i zv).b, ts, ((vals q).getD i zv).x⟩ by rw [HN.out, if_pos HE2.out, HEnd.out, ho])
      rw [ho] at HOp
      have hin : i < n := by rw [HNn.out]; exact hil
      clear ho HE1 HN HEnd hil
      obtain ⟨p, hp⟩ : ∃ p, q2[i]? = some p := ⟨_, List.getElem?_eq_getElem (by rw [HL2.out]; exact hin)⟩
      obtain ⟨g, rfl⟩ : ∃ g, A2 = some ⟨g, 0, none⟩ := by
        rcases HO2.out.row.2 with ⟨e, h0⟩ | ⟨g, _, _, e, _⟩
        · have := HL2.out; omega
        · injection e with e1; exact ⟨g, e1⟩
      go_wp2_with fail
      refine HOp.out.mono ?_
      unfold openK
      dsimp only
      rintro e w3 ⟨rfl, hb3⟩
      have ho3 := HO2.out.below hb3
      have hc1 : w3.cell? ⟨g, i * 3 + 1, none⟩ = some (.int .u64 p.v.f) := by
        rw [ho3.row.cellAt (i * 3 + 1) (by have := HL2.out; omega)]; exact (flatC_get q2 i p hp).2.1
      have hf1 := ho3.row.frozenAt (i * 3 + 1)
      have HX := Lib.hid (And.intro (ho3.setF (ts := ts) hp HTS.out) (And.intro (show (q2.set i ⟨⟨p.v.b, ts, p.v.x⟩, p.B, p.c⟩).length = n by rw [List.length_set]; exact HL2.out) (show vals (q2.set i ⟨⟨p.v.b, ts, p.v.x⟩, p.B, p.c⟩) = N by rw [set_at ts hp, HN2.out, HV2.out])))
      have HB3 := Lib.hid (show Below w.heap.size w (w3.setCell ⟨g, i * 3 + 1, none⟩ (.int .u64 ts)) from (HB2.out.trans (hb3.mono HB2.out.size)).setCell (ho3.low g rfl).1 _)
      have i0 : (0 : Int) ≤ i := by omega
      have in_ : (i : Int) < n := by omega
      have i1 : decide ((i : Int) < 0) = false := by simp
      clear hb3 ho3 hp
      go_wp2
      go_ret2
      rw [HE2.out]
      exact ⟨_, c2, _, by rw [HX.out.2.1]; rfl, HX.out.2.2, HX.out.1, HB3.out⟩

/-- A version laid behind a chain of the call's own: up to each append. -/
theorem rput_first {base : Nat} {W3 : World} {A2 A' : Option Addr} {c2 c' k : Nat} {q3 : List Pl} {x : List Int} {ts : Int} (ho : OwnC base W3 A2 c2 q3) (hv : Vec .i32 W3 A' c' x) (hk : k = x.length) (hbs : base ≤ W3.heap.size) (hts : U64s ts) :
    (W3.alloc (.cells #[] 21)).ownsRow W3.heap.size 21 1 (.slice (some ⟨W3.heap.size, 0, none⟩) 0 0) 0 [] ∧ Read (W3.alloc (.cells #[] 21)) A' k 1 (x.map (Value.int .i32)) ∧
    ∀ A5 c5 w5, w5.ownsRow W3.heap.size 21 1 (.slice A5 k c5) k (x.map (Value.int .i32)) → (W3.alloc (.cells #[] 21)).grownBy w5 (blk (some (⟨W3.heap.size, 0, none⟩ : Addr))) →
      Read (w5.alloc (.cells #[.int .u64 ts, .int .u64 0, .slice A5 k c5] 35)) (some ⟨w5.heap.size, 0, none⟩) 1 3 (flatC [⟨⟨ts, 0, x⟩, A5, c5⟩]) ∧ OwnC base (w5.alloc (.cells #[.int .u64 ts, .int .u64 0, .slice A5 k c5] 35)) A2 c2 q3 ∧ base ≤ (w5.alloc (.cells #[.int .u64 ts, .int .u64 0, .slice A5 k c5] 35)).heap.size ∧
      ∀ A7 c7 w7, w7.ownsRow base 35 3 (.slice A7 (q3.length + 1) c7) (q3.length + 1) (flatC q3 ++ flatC [⟨⟨ts, 0, x⟩, A5, c5⟩]) → (w5.alloc (.cells #[.int .u64 ts, .int .u64 0, .slice A5 k c5] 35)).grownBy w7 (blk A2) →
        OwnC base w7 A7 c7 (q3 ++ [⟨⟨ts, 0, x⟩, A5, c5⟩]) ∧ Below base W3 w7 := by
  have hb4 : Below W3.heap.size W3 (W3.alloc (.cells #[] 21)) := (Below.refl _ _).alloc (Nat.le_refl _) _
  refine ⟨World.ownsRow_made (base := W3.heap.size) (size := 1) (e := 21) W3 #[] 0 (Nat.le_refl _) (Nat.zero_le _) rfl, by rw [hk]; exact Read.vec (hv.below hb4), fun A5 c5 w5 h5 g5 => ?_⟩
  have hb5 : Below W3.heap.size W3 w5 := hb4.trans (grown_below g5 (by simp) (fun i hi => Nat.le_of_eq (by simpa [blk] using hi)))
  have hv5 : OwnV base w5 A5 c5 x := by
    have : OwnV W3.heap.size w5 A5 c5 x := ⟨by rw [← hk]; exact h5, hv.fit⟩
    exact this.mono hbs
  obtain ⟨a1, a2, a3, a4⟩ := put1_lay (b := ts) (f := 0) (W := W3) (ho.below hb5) hv5 hbs (hb5.mono hbs) hk _ (Below.refl _ _)
  refine ⟨a2, a1, Nat.le_trans hbs a4.size, fun A7 c7 w7 h7 g7 => ⟨a1.snoc (p := ⟨⟨ts, 0, x⟩, A5, c5⟩) a3 ⟨hts, u64_0⟩ h7 g7, a4.trans (grown_below g7 (Nat.le_trans hbs a4.size) (fun i hi => (a1.low i hi).1))⟩⟩

set_option maxHeartbeats 2000000 in
theorem rPut_any (A A' : Option Addr) (c c' : Nat) (q : List Pl) (x : List Int) (ts : Int) (w : World) (h : Chn w A c q) (hs : Small q) (hv : Vec .i32 w A' c' x) (hx : x.length ≤ 100000) (hts : U64s ts) :
    Calls Try.prog 32 #[.slice A q.length c, .int .u64 ts, .slice A' x.length c'] w (GivesE w (rPutN (vals q) ts x) (rPutE (vals q) ts x)) := by
  have HTi := Lib.hid (rTime_any A c q ts w h)
  have HRt := Lib.hid (fun (X : World) (hX : Below w.heap.size w X) => rRight_any A' c' x X (hv.below hX))
  have HCp := Lib.hid (fun (X : World) (hX : Below w.heap.size w X) => rCopy_any A c q X (h.below hX) hs)
  have HQ := Lib.hid h
  have HV := Lib.hid hv
  have HE := Lib.hid (show rPutE (vals q) ts x = if (decide (rLast (vals q) < ts) && decide (ts ≤ 1099511627776)) = true then (if right x = true then (if (decide (0 < q.length) && !decide (((vals q).getD 0 zv).x.length = x.length)) = true then 151 else if q.length = 96 then 6 else 0) else 150) else 181 by unfold rPutE; rw [vals_length])
  have HN := Lib.hid (show rPutN (vals q) ts x = if rPutE (vals q) ts x = 0 then rEnd ts (vals q) ++ [⟨ts, 0, x⟩] else [] from rfl)
  have HEnd := Lib.hid (show rEnd ts (vals q) = match rOpen (vals q) with | some i => (vals q).set i ⟨((vals q).getD i zv).b, ts, ((vals q).getD i zv).x⟩ | none => vals q from rfl)
  generalize rPutE (vals q) ts x = E at *
  generalize rPutN (vals q) ts x = N at *
  generalize rEnd ts (vals q) = EN at *
  generalize (decide (rLast (vals q) < ts) && decide (ts ≤ 1099511627776)) = T at *
  generalize right x = RX at *
  have HTS := Lib.hid hts
  have hmq := h.many
  have hqs := hs.few
  obtain ⟨n, hn⟩ : ∃ n, n = q.length := ⟨_, rfl⟩
  obtain ⟨k, hk⟩ : ∃ k, k = x.length := ⟨_, rfl⟩
  have HNn := Lib.hid hn
  have HK := Lib.hid hk
  rw [← hn] at HTi HCp hmq hqs HE ⊢
  rw [← hk] at hx HE HRt ⊢
  clear h hts hn hs hv hk
  cases T with
  | false =>
    have HE2 := Lib.hid (show E = 181 from HE.out)
    have HN2 := Lib.hid (show N = [] by rw [HN.out, if_neg (by rw [HE2.out]; decide)])
    clear HE HN HEnd
    go_enter Try.func32, Try.ntmps32
    go_wp2_with fail
    refine HTi.out.mono ?_
    rintro e w1 ⟨rfl, hb1⟩
    have HB1 := Lib.hid hb1
    clear hb1
    go_wp2
    go_ret2
    rw [HN2.out, HE2.out]
    exact ⟨none, 0, [], rfl, rfl, OwnC.nil _ _, HB1.out⟩
  | true =>
    cases RX with
    | false =>
      have HE2 := Lib.hid (show E = 150 from HE.out)
      have HN2 := Lib.hid (show N = [] by rw [HN.out, if_neg (by rw [HE2.out]; decide)])
      clear HE HN HEnd
      go_enter Try.func32, Try.ntmps32
      go_wp2_with fail
      refine HTi.out.mono ?_
      rintro e w1 ⟨rfl, hb1⟩
      have HB1 := Lib.hid hb1
      clear hb1
      go_wp2_with fail
      refine (HRt.out _ HB1.out).mono ?_
      rintro e w2 ⟨rfl, rfl⟩
      go_wp2
      go_ret2
      rw [HN2.out, HE2.out]
      exact ⟨none, 0, [], rfl, rfl, OwnC.nil _ _, HB1.out⟩
    | true =>
      have HE1 := Lib.hid (show E = if (decide (0 < n) && !decide (((vals q).getD 0 zv).x.length = k)) = true then 151 else if n = 96 then 6 else 0 from HE.out)
      clear HE
      have hnil : n = 0 → rOpen (vals q) = none := fun h0 => by
        have : q = [] := List.eq_nil_of_length_eq_zero (by rw [← HNn.out, h0])
        rw [this]; rfl
      have HNil := Lib.hid hnil
      clear hnil
      by_cases h0 : n = 0
      · subst h0
        have HE2 := Lib.hid (show E = 0 by rw [HE1.out]; simp)
        have HO0 := Lib.hid (HNil.out rfl)
        have HN2 := Lib.hid (show N = [⟨ts, 0, x⟩] by rw [HN.out, if_pos HE2.out, HEnd.out, HO0.out]; have : q = [] := List.eq_nil_of_length_eq_zero HNn.out.symm; rw [this]; rfl)
        clear HE1 HN HEnd
        go_enter Try.func32, Try.ntmps32
        go_wp2_with fail
        refine HTi.out.mono ?_
        rintro e w1 ⟨rfl, hb1⟩
        have HB1 := Lib.hid hb1
        clear hb1
        go_wp2_with fail
        refine (HRt.out _ HB1.out).mono ?_
        rintro e w2 ⟨rfl, rfl⟩
        go_wp2_with fail
        refine (HCp.out _ HB1.out).mono ?_
        rintro e w2 ⟨A2, c2, q2, rfl, hv2, ho2, hb2⟩
        have hl2 : q2.length = 0 := by rw [HNn.out]; have := congrArg List.length hv2; simpa [vals] using this
        rw [hl2]
        have HB2 := Lib.hid (HB1.out.trans (hb2.mono HB1.out.size))
        have HV2 := Lib.hid hv2
        have HOp := Lib.hid (rOpen_any A2 c2 q2 w2 ho2.chn)
        rw [hv2, HO0.out] at HOp
        rw [hl2] at HOp
        have HO2 := Lib.hid (ho2.mono HB1.out.size)
        have HL2 := Lib.hid hl2
        clear hv2 ho2 hb2 hl2
        go_wp2_with fail
        refine HOp.out.mono ?_
        unfold openK
        dsimp only
        rintro e w3 ⟨rfl, hb3⟩
        have HB3 := Lib.hid (HB2.out.trans (hb3.mono HB2.out.size))
        have HO3 := Lib.hid (HO2.out.below hb3)
        have hl3 := HL2.out
        clear hb3
        have hv3 : vals q2 ++ [⟨ts, 0, x⟩] = N := by rw [HV2.out, HN2.out]; have : q = [] := List.eq_nil_of_length_eq_zero HNn.out.symm; rw [this]; rfl
        have HF := Lib.hid (rput_first HO3.out (HV.out.below HB3.out) HK.out HB3.out.size HTS.out)
        have HV3 := Lib.hid hv3
        have HL3 := Lib.hid hl3
        rw [hl3] at HF
        clear hv3 hl3
        go_wp2_with (first
          | (at_builtin; refine gapp_at rfl (.tmp 50) (.tmp 51) appI rfl w3.heap.size (some ⟨w3.heap.size, 0, none⟩) 0 0 [] rfl HF.out.1 A' c' k (x.map (Value.int .i32)) rfl HF.out.2.1 (by omega) (by simp) ?_; intro A5 c5 w5 ho5 hg5 _; rw [Nat.zero_add, List.nil_append] at ho5; have HF5 := Lib.hid (HF.out.2.2 A5 c5 w5 ho5 hg5); clear ho5 hg5)
          | (at_builtin; refine gapp_at rfl (.tmp 48) (.tmp 54) appV rfl w.heap.size _ c2 0 (flatC (q2)) rfl (by have := HF5.out.2.1.row; rw [HL3.out] at this; exact this) (some ⟨w5.heap.size, 0, none⟩) 1 1 (flatC [⟨⟨ts, 0, x⟩, A5, c5⟩]) rfl HF5.out.1 (by omega) HF5.out.2.2.1 ?_; intro A7 c7 w7 ho7 hg7 _; obtain ⟨hX1, hX2⟩ := HF5.out.2.2.2 A7 c7 w7 ho7 hg7; have HX := Lib.hid (And.intro hX1 (HB3.out.trans hX2)); clear ho7 hg7 hX1 hX2))
        go_ret2
        rw [HE2.out]
        exact ⟨A7, c7, _, by rw [List.length_append, HL3.out]; rfl, by rw [vals_append]; exact HV3.out, HX.out.1, HX.out.2⟩
      · obtain ⟨b0, o0, p0, rfl, hp0, hb0, d0, d1, d2, hv0, hf0⟩ := HQ.out.at_ (i := 0) (by rw [← HNn.out]; omega)
        simp only [Nat.zero_mul, Nat.add_zero] at d0 d1 d2
        have t0 : decide (0 < n) = true := by simp; omega
        have t1 : decide ((0 : Int) < (n : Int)) = true := by simp; omega
        have t2 : (0 : Int) < n := by omega
        have HE3 := Lib.hid (show E = if (p0.v.x.length ≠ k) then 151 else if n = 96 then 6 else 0 by rw [HE1.out, vals_getD hp0, t0]; by_cases hh : p0.v.x.length = k <;> simp [hh])
        have HD2 := Lib.hid (fun (X : World) (hX : Below w.heap.size w X) => show X.cell? ⟨b0, o0 + 2, none⟩ = some (.slice p0.B p0.v.x.length p0.c) from (hX.cell (p := ⟨b0, o0 + 2, none⟩) hb0).trans d2)
        generalize p0.v.x.length = k0 at *
        clear HE1 hv0 hf0 hp0 d0 d1 d2 hb0
        by_cases hkk : k0 = k
        · have u1 : ((k0 : Int) != (k : Int)) = false := by simp; omega
          by_cases h96 : n = 96
          · have HE2 := Lib.hid (show E = 6 by rw [HE3.out, if_neg (fun hh => hh hkk), if_pos h96])
            have HN2 := Lib.hid (show N = [] by rw [HN.out, if_neg (by rw [HE2.out]; decide)])
            have u2 : ((n : Int) == 96) = true := by simp; omega
            have u3 : (n == 96) = true := by simp; omega
            clear HE3 HN HEnd h96 hkk h0
            go_enter Try.func32, Try.ntmps32
            go_wp2_with fail
            refine HTi.out.mono ?_
            rintro e w1 ⟨rfl, hb1⟩
            have HB1 := Lib.hid hb1
            have cc := HD2.out w1 hb1
            clear hb1
            go_wp2_with fail
            refine (HRt.out _ HB1.out).mono ?_
            rintro e w2 ⟨rfl, rfl⟩
            go_wp2
            go_ret2
            rw [HN2.out, HE2.out]
            exact ⟨none, 0, [], rfl, rfl, OwnC.nil _ _, HB1.out⟩
          · have HE2 := Lib.hid (show E = 0 by rw [HE3.out, if_neg (fun hh => hh hkk), if_neg h96])
            have HN1 := Lib.hid (show N = EN ++ [⟨ts, 0, x⟩] by rw [HN.out, if_pos HE2.out])
            have u2 : ((n : Int) == 96) = false := by simp; omega
            have u3 : (n == 96) = false := by simp; omega
            clear HE3 HN hkk h96
            go_enter Try.func32, Try.ntmps32
            go_wp2_with fail
            refine HTi.out.mono ?_
            rintro e w1 ⟨rfl, hb1⟩
            have HB1 := Lib.hid hb1
            have cc := HD2.out w1 hb1
            clear hb1
            go_wp2_with fail
            refine (HRt.out _ HB1.out).mono ?_
            rintro e w2 ⟨rfl, rfl⟩
            go_wp2_with fail
            refine (HCp.out _ HB1.out).mono ?_
            rintro e w2 ⟨A2, c2, q2, rfl, hv2, ho2, hb2⟩
            have hl2 : q2.length = n := by rw [HNn.out]; have := congrArg List.length hv2; simpa [vals] using this
            rw [hl2]
            have HB2 := Lib.hid (HB1.out.trans (hb2.mono HB1.out.size))
            have HV2 := Lib.hid hv2
            have HOp := Lib.hid (rOpen_any A2 c2 q2 w2 ho2.chn)
            rw [hv2] at HOp
            cases ho : rOpen (vals q) with
            | none =>
              rw [ho] at HOp
              have hEN : EN = vals q := by rw [HEnd.out, ho]
              rw [hl2] at HOp
              have HO2 := Lib.hid (ho2.mono HB1.out.size)
              have HL2 := Lib.hid hl2
              clear hv2 ho2 hb2 hl2
              go_wp2_with fail
              refine HOp.out.mono ?_
              unfold openK
              dsimp only
              rintro e w3 ⟨rfl, hb3⟩
              have HB3 := Lib.hid (HB2.out.trans (hb3.mono HB2.out.size))
              have HO3 := Lib.hid (HO2.out.below hb3)
              have hl3 := HL2.out
              clear hb3
              have hv3 : vals q2 ++ [⟨ts, 0, x⟩] = N := by rw [HV2.out, HN1.out, hEN]
              have HF := Lib.hid (rput_first HO3.out (HV.out.below HB3.out) HK.out HB3.out.size HTS.out)
              have HV3 := Lib.hid hv3
              have HL3 := Lib.hid hl3
              rw [hl3] at HF
              clear hv3 hl3
              go_wp2_with (first
                | (at_builtin; refine gapp_at rfl (.tmp 50) (.tmp 51) appI rfl w3.heap.size (some ⟨w3.heap.size, 0, none⟩) 0 0 [] rfl HF.out.1 A' c' k (x.map (Value.int .i32)) rfl HF.out.2.1 (by omega) (by simp) ?_; intro A5 c5 w5 ho5 hg5 _; rw [Nat.zero_add, List.nil_append] at ho5; have HF5 := Lib.hid (HF.out.2.2 A5 c5 w5 ho5 hg5); clear ho5 hg5)
                | (at_builtin; refine gapp_at rfl (.tmp 48) (.tmp 54) appV rfl w.heap.size _ c2 n (flatC (q2)) rfl (by have := HF5.out.2.1.row; rw [HL3.out] at this; exact this) (some ⟨w5.heap.size, 0, none⟩) 1 1 (flatC [⟨⟨ts, 0, x⟩, A5, c5⟩]) rfl HF5.out.1 (by omega) HF5.out.2.2.1 ?_; intro A7 c7 w7 ho7 hg7 _; obtain ⟨hX1, hX2⟩ := HF5.out.2.2.2 A7 c7 w7 ho7 hg7; have HX := Lib.hid (And.intro hX1 (HB3.out.trans hX2)); clear ho7 hg7 hX1 hX2))
              go_ret2
              rw [HE2.out]
              exact ⟨A7, c7, _, by rw [List.length_append, HL3.out]; rfl, by rw [vals_append]; exact HV3.out, HX.out.1, HX.out.2⟩
            | some i =>
              have hil : i < q.length := rOpen_lt ho
              rw [ho] at HOp
              have hEN : EN = (vals q).set i ⟨((vals q).getD i zv).b, ts, ((vals q).getD i zv).x⟩ := by rw [HEnd.out, ho]
              have hin : i < n := by rw [HNn.out]; exact hil
              obtain ⟨p, hp⟩ : ∃ p, q2[i]? = some p := ⟨_, List.getElem?_eq_getElem (by rw [hl2]; exact hin)⟩
              obtain ⟨g, rfl⟩ : ∃ g, A2 = some ⟨g, 0, none⟩ := by
                rcases ho2.row.2 with ⟨e, h0⟩ | ⟨g, _, _, e, _⟩
                · omega
                · injection e with e1; exact ⟨g, e1⟩
              have i0 : (0 : Int) ≤ i := by omega
              have in_ : (i : Int) < n := by omega
              have i1 : decide ((0 : Int) ≤ (i : Int)) = true := by simp
              rw [hl2] at HOp
              have HO2 := Lib.hid (ho2.mono HB1.out.size)
              clear hv2 ho2 hb2 ho
              go_wp2_with fail
              refine HOp.out.mono ?_
              unfold openK
              dsimp only
              rintro e w3 ⟨rfl, hb3⟩
              have ho3 := HO2.out.below hb3
              have hc1 : w3.cell? ⟨g, i * 3 + 1, none⟩ = some (.int .u64 p.v.f) := by
                rw [ho3.row.cellAt (i * 3 + 1) (by omega)]; exact (flatC_get q2 i p hp).2.1
              have hf1 := ho3.row.frozenAt (i * 3 + 1)
              obtain ⟨W3, hW3⟩ : ∃ W3, W3 = w3.setCell ⟨g, i * 3 + 1, none⟩ (.int .u64 ts) := ⟨_, rfl⟩
              have HO3 := Lib.hid (show OwnC w.heap.size W3 _ _ _ from by rw [hW3]; exact ho3.setF (ts := ts) hp HTS.out)
              have HB3 := Lib.hid (show Below w.heap.size w W3 from by rw [hW3]; exact (HB2.out.trans (hb3.mono HB2.out.size)).setCell (ho3.low g rfl).1 _)
              have HW3 := Lib.hid hW3
              have hzz : W3.heap.size = w3.heap.size := by rw [hW3]; simp [World.setCell]
              clear hb3 ho3 hW3
              have hv3 : vals (q2.set i ⟨⟨p.v.b, ts, p.v.x⟩, p.B, p.c⟩) ++ [⟨ts, 0, x⟩] = N := by rw [set_at ts hp, HV2.out, HN1.out, hEN]
              have hl3 : (q2.set i ⟨⟨p.v.b, ts, p.v.x⟩, p.B, p.c⟩).length = n := by rw [List.length_set]; exact hl2
              have HF := Lib.hid (rput_first HO3.out (HV.out.below HB3.out) HK.out HB3.out.size HTS.out)
              have HV3 := Lib.hid hv3
              have HL3 := Lib.hid hl3
              rw [hl3] at HF
              rw [hzz] at HF
              clear hv3 hl3
              go_wp2_with (first
                | (at_builtin; rw [← HW3.out]; refine gapp_at rfl (.tmp 50) (.tmp 51) appI rfl w3.heap.size (some ⟨w3.heap.size, 0, none⟩) 0 0 [] rfl HF.out.1 A' c' k (x.map (Value.int .i32)) rfl HF.out.2.1 (by omega) (by simp; omega) ?_; intro A5 c5 w5 ho5 hg5 _; rw [Nat.zero_add, List.nil_append] at ho5; have HF5 := Lib.hid (HF.out.2.2 A5 c5 w5 ho5 hg5); clear ho5 hg5)
                | (at_builtin; refine gapp_at rfl (.tmp 48) (.tmp 54) appV rfl w.heap.size _ c2 n (flatC (q2.set i ⟨⟨p.v.b, ts, p.v.x⟩, p.B, p.c⟩)) rfl (by have := HF5.out.2.1.row; rw [HL3.out] at this; exact this) (some ⟨w5.heap.size, 0, none⟩) 1 1 (flatC [⟨⟨ts, 0, x⟩, A5, c5⟩]) rfl HF5.out.1 (by omega) HF5.out.2.2.1 ?_; intro A7 c7 w7 ho7 hg7 _; obtain ⟨hX1, hX2⟩ := HF5.out.2.2.2 A7 c7 w7 ho7 hg7; have HX := Lib.hid (And.intro hX1 (HB3.out.trans hX2)); clear ho7 hg7 hX1 hX2))
              go_ret2
              rw [HE2.out]
              exact ⟨A7, c7, _, by rw [List.length_append, HL3.out]; rfl, by rw [vals_append]; exact HV3.out, HX.out.1, HX.out.2⟩
        · have HE2 := Lib.hid (show E = 151 by rw [HE3.out, if_pos hkk])
          have HN2 := Lib.hid (show N = [] by rw [HN.out, if_neg (by rw [HE2.out]; decide)])
          have u1 : ((k0 : Int) != (k : Int)) = true := by simp; omega
          have u4 : ((k0 : Int) == (k : Int)) = false := by simp; omega
          have u5 : (k0 == k) = false := by simp; omega
          have u6 : (k0 != k) = true := by simp; omega
          clear HE3 HN HEnd hkk
          go_enter Try.func32, Try.ntmps32
          go_wp2_with fail
          refine HTi.out.mono ?_
          rintro e w1 ⟨rfl, hb1⟩
          have HB1 := Lib.hid hb1
          have cc := HD2.out w1 hb1
          clear hb1
          go_wp2_with fail
          refine (HRt.out _ HB1.out).mono ?_
          rintro e w2 ⟨rfl, rfl⟩
          go_wp2
          go_ret2
          rw [HN2.out, HE2.out]
          exact ⟨none, 0, [], rfl, rfl, OwnC.nil _ _, HB1.out⟩

end Go.Proofs.Ytbnedhhkapbliaa
