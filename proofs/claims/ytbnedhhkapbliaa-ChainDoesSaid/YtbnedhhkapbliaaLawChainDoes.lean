/-
  Proved: the law ChainDoes, what comes of chains by what is done is what the document says, and nothing handed in or out is shared, returns true for every chain and row of ops, and leaves all memory as it was. No condition.
-/
import Derived.Test.YtbnedhhkapbliaaLawFrame
import Derived.Test.YtbnedhhkapbliaaChnWipe
import Derived.BigQuiet
namespace Go.Proofs.Ytbnedhhkapbliaa.chainDoes
open Go.ChangeShapes Go.WideShapes Go.ChangeAt Go.RowKit
set_option linter.unusedVariables false
set_option linter.unusedSimpArgs false
set_option maxRecDepth 100000

theorem ops_at {w : World} {A : Option Addr} {c : Nat} {os : List Opm} (h : Opss w A c os) {i : Nat} (hi : i < os.length) : ∃ b o y, A = some ⟨b, o, none⟩ ∧ os[i]? = some y ∧ b < w.heap.size ∧ w.cell? ⟨b, o + i * 4, none⟩ = some (.int .i64 y.K) ∧ w.cell? ⟨b, o + i * 4 + 1, none⟩ = some (.int .u64 y.T) ∧ w.cell? ⟨b, o + i * 4 + 2, none⟩ = some (.bool y.near) ∧ w.cell? ⟨b, o + i * 4 + 3, none⟩ = some (.slice y.B y.x.length y.c) ∧ U64s y.T ∧ Vec .i32 w y.B y.c y.x := by
  obtain ⟨b, o, e, hb, hc⟩ := h.rd (by omega)
  exact ⟨b, o, _, e, List.getElem?_eq_getElem hi, hb, hc i _ (List.getElem?_eq_getElem hi)⟩

set_option maxHeartbeats 8000000 in
theorem walk {w : World} (A : Option Addr) (c : Nat) (q : List Pl) (h : Chn w A c q) (A' : Option Addr) (c' : Nat) (os : List Opm) (ho : Opss w A' c' os) :
    Calls Try.prog 3 #[.slice A q.length c, .slice A' os.length c'] w fun e w' => e = .returned (.bool true) ∧ Below w.heap.size w w' := by
  have HWk := Lib.hid (wakes_any w)
  have HFw := Lib.hid (fun (X : World) (hX : Below w.heap.size w X) => few_any A c q X (h.below hX))
  have HOs := Lib.hid (fun (X : World) (hX : Below w.heap.size w X) => ho.below hX)
  have hmo : os.length ≤ 9223372036854775807 := Nat.le_trans ho.room ho.most
  obtain ⟨n, hn⟩ : ∃ n, n = os.length := ⟨_, rfl⟩
  have HN := Lib.hid hn
  rw [← hn] at hmo ⊢
  generalize q.length = nq0 at *
  clear h ho hn
  go_enter Try.func3, Try.ntmps3
  go_wp2_with fail
  refine HWk.out.mono ?_
  rintro e w1 ⟨rfl, hb1⟩
  have HB1 := Lib.hid hb1
  clear hb1
  go_wp2_with fail
  refine (HFw.out _ HB1.out).mono ?_
  rintro e w2 ⟨A2, c2, q2, rfl, hv2, ho2, hb2⟩
  have HB2 := Lib.hid (HB1.out.trans (hb2.mono HB1.out.size))
  have HQ2 := Lib.hid (show ∃ q1 : List Pl, q1.length = q2.length ∧ Chn w2 A2 c2 q1 ∧ Few (vals q1) from ⟨q2, rfl, ho2.chn, by rw [hv2]; exact few_few _⟩)
  generalize q2.length = m2 at *
  clear hv2 ho2 hb2
  go_wp2
  go_loopw [5, 23] (fun v i wr => ∃ (k : Nat) (A1 : Option Addr) (c1 m1 : Nat), k ≤ n ∧ i = .int .i64 k ∧ v = .slice A1 m1 c1 ∧ Hid (∃ q1 : List Pl, q1.length = m1 ∧ Chn wr A1 c1 q1 ∧ Few (vals q1)) ∧ Hid (Below w.heap.size w wr)) (fun _ i _ => n - (intOf i).toNat)
  case atStart => exact ⟨0, A2, c2, m2, Nat.zero_le _, rfl, rfl, HQ2, HB2⟩
  case round =>
    obtain ⟨k, A1, c1, m1, hk, rfl, rfl, HQ, HB⟩ := hrel
    by_cases hkn : k < n
    · obtain ⟨b, o, y, rfl, _, hb, d0, d1, d2, d3, hT, hv⟩ := ops_at (HOs.out _ HB.out) (i := k) (by rw [← HN.out]; exact hkn)
      obtain ⟨K, T, near, B, cb, x⟩ := y
      dsimp only at d0 d1 d2 d3 hT hv
      have k0 : (0 : Int) ≤ k := by omega
      have kn : (k : Int) < n := by omega
      obtain ⟨nx, hnx⟩ : ∃ nx, nx = x.length := ⟨_, rfl⟩
      rw [← hnx] at d3
      obtain ⟨W1, hW1⟩ : ∃ W1, W1 = wr.alloc (.cells #[.int .i64 K, .int .u64 T, .bool near, .slice B nx cb] 29) := ⟨_, rfl⟩
      have hb1 : Below wr.heap.size wr W1 := by rw [hW1]; exact (Below.refl _ _).alloc (Nat.le_refl _) _
      have hx1 : W1.heap[wr.heap.size]? = some (.cells #[.int .i64 K, .int .u64 T, .bool near, .slice B nx cb] 29 (0, 0)) := by rw [hW1]; exact heap_alloc_new _ _
      by_cases h40 : k = 40
      · have t40 : ((k : Int) == 40) = true := by simp; omega
        have HX := Lib.hid (show Below w.heap.size w (wr.alloc (.cells #[.int .i64 K, .int .u64 T, .bool near, .slice B nx cb] 29)) from by rw [← hW1]; exact HB.out.trans (hb1.mono HB.out.size))
        clear h40 hT hv hb1 hx1 hW1 hnx
        go_wp2
        go_ret
        exact ⟨rfl, HX.out⟩
      · have t40 : ((k : Int) == 40) = false := by simp; omega
        obtain ⟨q1, hl1, hq1, hf1⟩ := HQ.out
        have HCp := Lib.hid (rCopy_any A1 c1 q1 W1 (hq1.below hb1) (hf1.small rfl))
        have HRu := Lib.hid (fun (X : World) (hX : Below W1.heap.size W1 X) => run_any K T near B cb x A1 c1 q1 X ((hq1.below hb1).below hX) (hf1.small rfl) hT ((hv.below hb1).below hX))
        have HWa := Lib.hid (fun (X : World) (hX : Below W1.heap.size W1 X) (A4 : Option Addr) (c4 : Nat) (q4 : List Pl) (h4 : Chn X A4 c4 q4) (hs4 : Small q4) => wants_any K T near B cb x A4 c4 q4 X h4 hs4 hT ((hv.below hb1).below hX))
        have HC := Lib.hid (fun (X : World) (hX : Below W1.heap.size W1 X) => (hq1.below hb1).below hX)
        have HS := Lib.hid (fun (X : World) (hX : Below W1.heap.size W1 X) => show X.cell? ⟨wr.heap.size, 0, none⟩ = some (.int .i64 K) ∧ X.cell? ⟨wr.heap.size, 1, none⟩ = some (.int .u64 T) ∧ X.cell? ⟨wr.heap.size, 2, none⟩ = some (.bool near) ∧ X.cell? ⟨wr.heap.size, 3, none⟩ = some (.slice B nx cb) from by
          have hx2 := (hX.block _ (lt_of_block hx1)).trans hx1
          exact ⟨(cell_of_row _ _ 0 _ _ _ hx2).trans rfl, (cell_of_row _ _ 1 _ _ _ hx2).trans rfl, (cell_of_row _ _ 2 _ _ _ hx2).trans rfl, (cell_of_row _ _ 3 _ _ _ hx2).trans rfl⟩)
        obtain ⟨l, hl⟩ : ∃ l, l = vals q1 := ⟨_, rfl⟩
        have HFw2 := Lib.hid (show Few l by rw [hl]; exact hf1)
        have HLQ := Lib.hid hl
        have HBw := Lib.hid (HB.out.trans (hb1.mono HB.out.size))
        have HW1 := Lib.hid hW1
        have HL1 := Lib.hid hl1
        obtain ⟨RN, hRN⟩ : ∃ RN, RN = runN K (tsM K T near (rLast l)) l (x.take 5) := ⟨_, rfl⟩
        obtain ⟨RG, hRG⟩ : ∃ RG, RG = runG K (tsM K T near (rLast l)) l := ⟨_, rfl⟩
        obtain ⟨RE, hRE⟩ : ∃ RE, RE = runE K (tsM K T near (rLast l)) l (x.take 5) := ⟨_, rfl⟩
        have HFN := Lib.hid (show Few RN ∧ Few RG by rw [hRN, hRG]; exact run_few (hl ▸ hf1) (by simp; omega))
        have HWa2 := Lib.hid (fun (X : World) (hX : Below W1.heap.size W1 X) (A4 : Option Addr) (c4 : Nat) (q4 : List Pl) (h4 : Chn X A4 c4 q4) (h5 : vals q4 = l) => show Calls Try.prog 13 #[.agg #[.int .i64 K, .int .u64 T, .bool near, .slice B nx cb], .slice A4 q4.length c4] X (GivesP X RN RG RE) from by
          have := HWa.out X hX A4 c4 q4 h4 (HFw2.out.small h5)
          rw [h5, ← hRN, ← hRG, ← hRE, ← hnx] at this
          exact this)
        rw [← hl, ← hRN, ← hRG, ← hRE, ← hnx, hl1] at HRu
        rw [← hl, hl1] at HCp
        clear hT hv hb1 hx1 hW1 hnx hl1 hq1 hf1 hl h40 hRN hRG hRE HQ HWa
        have ee : (RE != RE) = false := by simp
        go_wp2_with fail
        rw [← HW1.out]
        refine HCp.out.mono ?_
        rintro e w3 ⟨A3, c3, q3, rfl, hv3, ho3, hb3⟩
        have HD3 := Lib.hid hb3
        have HV3 := Lib.hid hv3
        have HO3 := Lib.hid ho3
        obtain ⟨m3, hm3⟩ : ∃ m3, m3 = q3.length := ⟨_, rfl⟩
        have HM3 := Lib.hid hm3
        rw [← hm3]
        obtain ⟨u0, u1, u2, u3⟩ := HS.out _ hb3
        clear hv3 ho3 hb3 hm3
        go_wp2_with fail
        refine (HRu.out _ HD3.out).mono ?_
        rintro e w4 ⟨A4, c4, q4, B4, d4, g4, rfl, hv4, ho4, hg4, hog4, hb4⟩
        have HD4 := Lib.hid (HD3.out.trans (hb4.mono HD3.out.size))
        have HE4 := Lib.hid hb4
        have HV4 := Lib.hid hv4
        have HO4 := Lib.hid ho4
        have HG4 := Lib.hid (And.intro hg4 hog4)
        obtain ⟨m4, hm4⟩ : ∃ m4, m4 = q4.length := ⟨_, rfl⟩
        have HM4 := Lib.hid hm4
        rw [← hm4]
        obtain ⟨l4, hl4⟩ : ∃ l4, l4 = g4.length := ⟨_, rfl⟩
        have HL4 := Lib.hid hl4
        rw [← hl4]
        have HCp2 := Lib.hid (fun (X : World) (hX : Below w4.heap.size w4 X) => show Calls Try.prog 11 #[.slice A3 m3 c3] X (GivesC X l) from by
          have := rCopy_any A3 c3 q3 X ((HO3.out.chn.below HE4.out).below hX) (HFw2.out.small HV3.out)
          rw [HV3.out, ← HM3.out] at this
          exact this)
        have HS4 := Lib.hid (fun (X : World) (hX : Below w4.heap.size w4 X) => HS.out X (HD4.out.trans (hX.mono HD4.out.size)))
        clear hv4 ho4 hg4 hog4 hb4 hm4 hl4 u0 u1 u2 u3
        go_wp2
        go_region_held3 (fun X => X.cell? ⟨wr.heap.size, 0, none⟩ = some (.int .i64 K) ∧ X.cell? ⟨wr.heap.size, 1, none⟩ = some (.int .u64 T) ∧ X.cell? ⟨wr.heap.size, 2, none⟩ = some (.bool near) ∧ X.cell? ⟨wr.heap.size, 3, none⟩ = some (.slice B nx cb)) (first | exact HS4.out _ (Below.refl _ _) | exact HS4.out _ (below_drew (Below.refl _ _)) | exact HS4.out _ HF5.out | exact HS4.out _ HF6.out) (first
          | (go_at_call 11; (with_reducible refine (HCp2.out w4.drew (below_drew (Below.refl _ _))).mono ?_); rintro e w5 ⟨A5, c5, q5, rfl, hv5, ho5, hb5⟩; have HF5 := Lib.hid (show Below w4.heap.size w4 w5 from (below_drew (Below.refl _ w4)).trans hb5); have HWa3 := Lib.hid (HWa2.out w5 (HD4.out.trans (HF5.out.mono HD4.out.size)) A5 c5 q5 ho5.chn hv5); clear hv5 ho5 hb5)
          | (go_at_call 13; refine HWa3.out.mono ?_; rintro e w6 ⟨A6, c6, q6, B6, d6, g6, rfl, hv6, ho6, hg6, hog6, hb6⟩; have HF6 := Lib.hid (HF5.out.trans (hb6.mono HF5.out.size)); have HX6 := Lib.hid (And.intro hv6 (And.intro ho6 (And.intro hg6 hog6))); clear hv6 ho6 hg6 hog6 hb6))
        obtain ⟨m6, hm6⟩ : ∃ m6, m6 = q6.length := ⟨_, rfl⟩
        obtain ⟨l6, hl6⟩ : ∃ l6, l6 = g6.length := ⟨_, rfl⟩
        have HSa1 := Lib.hid (fun (X : World) (hX : Below w6.heap.size w6 X) => show Calls Try.prog 14 #[.slice A4 m4 c4, .slice A6 m6 c6] X (fun e w' => e = .returned (.bool true) ∧ Below X.heap.size X w') from by
          have := rSame8_any A4 A6 c4 c6 q4 q6 X ((HO4.out.chn.below HF6.out).below hX) (HX6.out.2.1.chn.below hX)
          rw [HV4.out, HX6.out.1, decide_eq_true rfl, ← HM4.out, ← hm6] at this
          exact this)
        have HSa2 := Lib.hid (fun (X : World) (hX : Below w6.heap.size w6 X) => show Calls Try.prog 14 #[.slice B4 l4 d4, .slice B6 l6 d6] X (fun e w' => e = .returned (.bool true) ∧ Below X.heap.size X w') from by
          have := rSame8_any B4 B6 d4 d6 g4 g6 X ((HG4.out.2.chn.below HF6.out).below hX) (HX6.out.2.2.2.chn.below hX)
          rw [HG4.out.1, HX6.out.2.2.1, decide_eq_true rfl, ← HL4.out, ← hl6] at this
          exact this)
        have HSa3 := Lib.hid (fun (X : World) (hX : Below w3.heap.size w3 X) => show Calls Try.prog 14 #[.slice A1 m1 c1, .slice A3 m3 c3] X (fun e w' => e = .returned (.bool true) ∧ Below X.heap.size X w') from by
          have := rSame8_any A1 A3 c1 c3 q1 q3 X ((HC.out _ HD3.out).below hX) (HO3.out.chn.below hX)
          rw [HV3.out, ← HLQ.out, decide_eq_true rfl, HL1.out, ← HM3.out] at this
          exact this)
        have HCp3 := Lib.hid (fun (X : World) (hX : Below w6.heap.size w6 X) => show Calls Try.prog 11 #[.slice A6 m6 c6] X (GivesC X RN) from by
          have := rCopy_any A6 c6 q6 X (HX6.out.2.1.chn.below hX) (HFN.out.1.small HX6.out.1)
          rw [HX6.out.1, ← hm6] at this
          exact this)
        have HE6 := Lib.hid (HE4.out.trans (HF6.out.mono HE4.out.size))
        rw [← hm6, ← hl6]
        clear hm6 hl6
        go_wp2_with fail
        refine (HSa1.out _ (Below.refl _ _)).mono ?_
        rintro e w7 ⟨rfl, hb7⟩
        have HF7 := Lib.hid hb7
        clear hb7
        go_wp2_with fail
        refine (HSa2.out _ HF7.out).mono ?_
        rintro e w8 ⟨rfl, hb8⟩
        have HF8 := Lib.hid (HF7.out.trans (hb8.mono HF7.out.size))
        clear hb8
        go_wp2_with fail
        refine (HSa3.out _ (HE6.out.trans (HF8.out.mono HE6.out.size))).mono ?_
        rintro e w9 ⟨rfl, hb9⟩
        have HF9 := Lib.hid (HF8.out.trans (hb9.mono HF8.out.size))
        clear hb9
        go_wp2_with fail
        refine (HCp3.out _ HF9.out).mono ?_
        rintro e wA ⟨A7, c7, q7, rfl, hv7, ho7, hbA⟩
        obtain ⟨m7, hm7⟩ : ∃ m7, m7 = q7.length := ⟨_, rfl⟩
        rw [← hm7]
        have HO7 := Lib.hid (And.intro hv7 (And.intro ho7 hm7))
        have HEA := Lib.hid (HE6.out.trans ((HF9.out.trans (hbA.mono HF9.out.size)).mono HE6.out.size))
        have HzA := Lib.hid (show w4.heap.size ≤ w9.heap.size from Nat.le_trans HF6.out.size HF9.out.size)
        obtain ⟨hd, hwp⟩ := HO4.out.wipe
        rw [← HM4.out] at hwp
        have HWp4 := Lib.hid hwp
        have HWp := Lib.hid (hwp.below (HF6.out.trans ((HF9.out.trans (hbA.mono HF9.out.size)).mono HF6.out.size)))
        have HLow := Lib.hid (fun (i : Nat) => show i < w4.heap.size → i < w9.heap.size from fun hh => Nat.lt_of_lt_of_le hh HzA.out)
        have hm4l : m4 ≤ 97 := by rw [HM4.out, ← vals_length, HV4.out]; exact HFN.out.1.few
        clear hv7 ho7 hbA hwp hm7
        go_wp2
        go_loopw [72] (fun i wx => ∃ j : Nat, j ≤ m4 ∧ i = .int .i64 j ∧ Hid (Wipe w3.heap.size wx A4 c4 m4 hd) ∧ Hid (Turn (fun i => w3.heap.size ≤ i ∧ i < w4.heap.size) wA wx)) (fun i _ => m4 - (intOf i).toNat)
        case atStart => exact ⟨0, Nat.zero_le _, rfl, HWp, Lib.hid (Turn.refl _ _)⟩
        case round =>
          obtain ⟨j, hj, rfl, HU, HT⟩ := hrel
          by_cases hjm : j < m4
          · have j0 : (0 : Int) ≤ j := by omega
            have jm : (j : Int) < m4 := by omega
            obtain ⟨g, hg, hgb, hgl⟩ : ∃ g, A4 = some ⟨g, 0, none⟩ ∧ w3.heap.size ≤ g ∧ g < w4.heap.size := by
              obtain ⟨us, h1, _⟩ := HWp4.out
              exact row_form h1 (by omega)
            subst hg
            obtain ⟨⟨f, hc1⟩, hf1, _, _⟩ := HU.out.cells hjm
            obtain ⟨Bv, nv, cv, hhd⟩ : ∃ Bv nv cv, hd j = (Bv, nv, cv) := ⟨_, _, _, rfl⟩
            have hw2 := HU.out.setEnd (t := 77) hjm
            have ht2 : Turn (fun i => w3.heap.size ≤ i ∧ i < w4.heap.size) wA (wr.setCell ⟨g, j * 3 + 1, none⟩ (.int .u64 77)) := HT.out.trans (turn_set _ _ _ _) (fun i hi => .inl (by rw [hi]; exact ⟨hgb, hgl⟩))
            obtain ⟨_, _, hc2, hvw⟩ := hw2.cells hjm
            rw [hhd] at hc2 hvw
            have hnv := hvw.size
            dsimp only at hc2 hnv
            have HW2 := Lib.hid hw2
            have HT2 := Lib.hid ht2
            have HHd := Lib.hid hhd
            have HGb := Lib.hid (And.intro hgb hgl)
            have HBd := Lib.hid (fun (b : Nat) (hb : Bv = some ⟨b, 0, none⟩) (hn0 : 0 < nv) => show w3.heap.size ≤ b ∧ b < w4.heap.size from by
              obtain ⟨_, _, _, hv4⟩ := HWp4.out.cells hjm
              rw [hhd] at hv4
              obtain ⟨b', z', e', h1, h2, _⟩ := hv4.at_ hn0
              rw [hb] at e'
              injection e' with e'
              injection e' with e'
              subst e'
              exact ⟨h1, h2⟩)
            clear hw2 ht2 hhd hvw hgb hgl HU HT
            go_wp2
            go_loopw [85] (fun i wx => ∃ u : Nat, u ≤ nv ∧ i = .int .i64 u ∧ Hid (Wipe w3.heap.size wx (some ⟨g, 0, none⟩) c4 m4 hd) ∧ Hid (Turn (fun i => w3.heap.size ≤ i ∧ i < w4.heap.size) wA wx)) (fun i _ => nv - (intOf i).toNat)
            case atStart => exact ⟨0, Nat.zero_le _, rfl, HW2, HT2⟩
            case round =>
              obtain ⟨u, hu, rfl, HU, HT⟩ := hrel
              obtain ⟨_, _, hc4, hvw⟩ := HU.out.cells hjm
              rw [HHd.out] at hc4 hvw
              dsimp only at hc4
              by_cases hun : u < nv
              · have u0 : (0 : Int) ≤ u := by omega
                have un : (u : Int) < nv := by omega
                obtain ⟨bv, z, rfl, _, _, hcv, hfv⟩ := hvw.at_ hun
                have hbd := HBd.out bv rfl (by omega)
                have HSt := Lib.hid (fun (z2 : Int) => show Wipe w3.heap.size (wr.setCell ⟨bv, u, none⟩ (.int .i32 z2)) (some ⟨g, 0, none⟩) c4 m4 hd ∧ Turn (fun i => w3.heap.size ≤ i ∧ i < w4.heap.size) wA (wr.setCell ⟨bv, u, none⟩ (.int .i32 z2)) from
                  ⟨HU.out.setVec hjm HHd.out, HT.out.trans (turn_set _ _ _ _) (fun i hi => .inl (by rw [hi]; exact hbd))⟩)
                clear hvw HU HT hbd
                go_wp2
                go_roundw
                case rel => exact ⟨u + 1, by omega, by go_num, Lib.hid (HSt.out _).1, Lib.hid (HSt.out _).2⟩
                case measure => simp [intOf]; omega
              · obtain rfl : u = nv := by omega
                clear hvw hc4
                go_wp2
                go_roundw
                case rel => exact ⟨j + 1, by omega, by go_num, HU, HT⟩
                case measure => simp [intOf]; omega
          · obtain rfl : j = m4 := by omega
            have hbE : Below w3.heap.size w3 wr := HEA.out.trans (HT.out.below HEA.out.size (fun i hi => hi.1))
            have hbEw : Below w.heap.size w wr := HBw.out.trans ((HD3.out.trans (hbE.mono HD3.out.size)).mono HBw.out.size)
            have hoN := HO7.out.2.1.turn HT.out (fun i hi _ e => by have := HzA.out; omega)
            have HEr := Lib.hid hbE
            have HEw := Lib.hid hbEw
            have HON := Lib.hid hoN.chn
            clear hbE hbEw hoN HU
            go_wp2_with fail
            refine (HSa3.out _ HEr.out).mono ?_
            rintro e wB ⟨rfl, hbB⟩
            have HEw2 := Lib.hid (HEw.out.trans (hbB.mono HEw.out.size))
            have HON2 := Lib.hid (HON.out.below hbB)
            have HCold := Lib.hid (HC.out wB (HD3.out.trans ((HEr.out.trans (hbB.mono HEr.out.size)).mono HD3.out.size)))
            clear hbB
            by_cases hre : RE = 0
            · have re0 : (RE == 0) = true := by simpa using hre
              clear hre
              go_wp2
              go_roundw
              case rel => exact ⟨k + 1, A7, c7, m7, by omega, by go_num, rfl, Lib.hid ⟨q7, HO7.out.2.2.symm, HON2.out, by rw [HO7.out.1]; exact HFN.out.1⟩, HEw2⟩
              case measure => simp [intOf]; omega
            · have re0 : (RE == 0) = false := by simpa using hre
              clear hre
              go_wp2
              go_roundw
              case rel => exact ⟨k + 1, A1, c1, m1, by omega, by go_num, rfl, Lib.hid ⟨q1, HL1.out, HCold.out, by rw [← HLQ.out]; exact HFw2.out⟩, HEw2⟩
              case measure => simp [intOf]; omega
    · obtain rfl : k = n := by omega
      go_wp2
      go_ret
      exact ⟨rfl, HB.out⟩

set_option maxRecDepth 100000 in
theorem lifted (os : Os) (started : os.Started) (H : Type) (enc : TypeId × Value → H) :
    ReturnsInHanded {} Try.checked os 3 .any (Rows.chainDoesSpec.pre6 enc Try.prog Try.f3 Rows.chainDoesRow.domain false) (Rows.chainDoesSpec.post enc Try.prog Try.f3 false true false false) := by
  refine returnsInHanded_of_change (C := Try.checked) Try.own started (by kernel_rfl) Try.func3
    (ChangeSpec.witness6 (enc := enc) (C := Try.checked) false ⟨#[], #[.slice none 0 0, .slice none 0 0], []⟩ 8 (by kernel_rfl) (by kernel_rfl) (by kernel_rfl) (by kernel_rfl)) ?_
  intro W base args ds gs before hval0 hW hcnd _
  have hval : ∀ (j : Nat) t v, Try.f3.params[j]? = some t → args[j]? = some v → Value.okWide Try.prog W .any base t v := hval0
  have hW' := hW
  obtain ⟨p, q, hA0, hV, rfl, hfz, hnd⟩ := hW
  have hA : DataW.TrodAll enc Try.prog W 0 (fun _ => true) true Try.f3.params.toList args.toList ds p := hA0
  rw [Try.params3] at hA hval
  have hA' := hA
  obtain ⟨v0, vs0, d0, ds0, p0, q0, hargs, rfl, rfl, h0, r0⟩ := trodAll_cons hA
  obtain ⟨v1, vs1, d1, ds1, p1, q1, rfl, rfl, rfl, h1, r1⟩ := trodAll_cons r0
  obtain ⟨rfl, rfl, rfl⟩ := trodAll_nil r1
  obtain rfl : args = #[v0, v1] := by cases args; simp_all
  obtain ⟨rfl, rfl⟩ := trodVars_none hV
  obtain ⟨A0, len0, c0, rfl⟩ := okWide_slice Try.underlying22 (hval 0 22 v0 rfl rfl)
  obtain ⟨z0, rfl, sl0⟩ := open_chain h0
  obtain ⟨A1, len1, c1, rfl⟩ := okWide_slice Try.underlying23 (hval 1 23 v1 rfl rfl)
  obtain ⟨z1, rfl, sl1⟩ := open_ops h1
  clear hA0 hval0
  refine (walk A0 c0 z0 sl0 A1 c1 z1 sl1).mono fun e W' ⟨he, bel⟩ => ?_
  subst he
  exact ⟨_, rfl, _, _, _, [], _, [], hW', trodAll_mk1 (shut_bool Try.underlying4 _), trodAll_below bel _ _ _ _ (by kernel_rfl) hA', rfl, bel.frame _, fun h => by cases h⟩

theorem proved : Rows.ChainDoesSaid :=
  OpenClaim.holds_of_wide 3 Try.f3 rfl rfl rfl rfl rfl rfl rfl ⟨rfl, rfl, rfl, rfl, rfl⟩ rfl rfl rfl rfl rfl (by kernel_rfl) Try.func3 (by kernel_rfl)
    (of_decide_eq_true (by kernel_rfl)) (by unfold Func.isWrapper; first | (rw [if_pos (by decide +kernel)]; kernel_rfl) | (rw [if_neg (by decide +kernel)]; exact ⟨rfl, rfl⟩))
    (fun os started H enc _ => lifted os started H enc)
#print axioms proved
end Go.Proofs.Ytbnedhhkapbliaa.chainDoes
