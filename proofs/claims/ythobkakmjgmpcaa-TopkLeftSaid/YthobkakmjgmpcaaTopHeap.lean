/-
  container/heap over a keeper: up, down, Push, Fix, Pop.
-/
import Derived.Test.YthobkakmjgmpcaaTopKeep
namespace Go.Proofs.Ythobkakmjgmpcaa
open Go.RowKit Go.Shelf
set_option linter.unusedVariables false
set_option linter.unusedSimpArgs false
set_option maxRecDepth 100000

def UpR (w : World) (K : Nat) (A : Option Addr) (c : Nat) (l : List HitM) (k : Int) (p : List HitM) (q : Nat) (W : World) : Prop := p.Perm l ∧ UpI l.length p q ∧ Keep W K A c p k ∧ Turn (own K A) w W

theorem less_at {w : World} {K : Nat} {A : Option Addr} {c n : Nat} {l : List HitM} {k : Int} (hk : Keep w K A c l k) (hn : l.length = n) (i j : Nat) (hi : i < n) (hj : j < n) (iv jv : Int) (hiv : iv = i) (hjv : jv = j) :
    Calls Try.prog 62 #[.slice A n c, .int .i64 iv, .int .i64 jv] w fun e w' => e = .returned (.bool (ahead (l.getD j z2) (l.getD i z2))) ∧ Keep w' K A c l k ∧ Below w.heap.size w w' := by
  subst hn hiv hjv
  refine (less_any A c l i j w hk.hits hi hj).mono ?_
  rintro e w' ⟨h1, h2⟩
  exact ⟨h1, hk.below h2, h2⟩
theorem swap_at {w : World} {K g : Nat} {c n : Nat} {l : List HitM} {k : Int} (hk : Keep w K (some ⟨g, 0, none⟩) c l k) (hn : l.length = n) (i j : Nat) (hi : i < n) (hj : j < n) (iv jv : Int) (hiv : iv = i) (hjv : jv = j) :
    Calls Try.prog 63 #[.slice (some ⟨g, 0, none⟩) n c, .int .i64 iv, .int .i64 jv] w fun e w' => (∃ v, e = .returned v) ∧ Keep w' K (some ⟨g, 0, none⟩) c (swp l i j) k ∧ Turn (own K (some ⟨g, 0, none⟩)) w w' := by
  subst hn hiv hjv
  refine (swap_any (K + 1) g c l i j w hk.row hi hj).mono ?_
  rintro e w' ⟨h1, h2, h3⟩
  refine ⟨h1, ⟨?_, by rw [swp_length]; exact h2⟩, Turn.of_grown h3 (fun i hi => .inl (.inr hi))⟩
  rw [swp_length, h3.block K hk.lt hk.blk_ne]
  exact hk.head
theorem own_trans {K : Nat} {A A' : Option Addr} {w w' w'' : World} (h : Turn (own K A) w w') (k : Turn (own K A') w' w'') (hA : ∀ i, blk A' = some i → blk A = some i ∨ w.heap.size ≤ i) : Turn (own K A) w w'' :=
  h.trans k (fun i hi => hi.elim (fun e => .inl (.inl e)) (fun e => (hA i e).elim (fun e => .inl (.inr e)) .inr))
theorem own_trans1 {K : Nat} {A : Option Addr} {w w' w'' : World} (h : Turn (own K A) w w') (k : Turn (own K A) w' w'') : Turn (own K A) w w'' := own_trans h k (fun i e => .inl e)
theorem own_below {K : Nat} {A : Option Addr} {w w' w'' : World} (h : Turn (own K A) w w') (k : Below w'.heap.size w' w'') : Turn (own K A) w w'' := h.trans (Turn.of_below (S := fun _ => False) k) (fun i e => e.elim)

set_option maxHeartbeats 1000000 in
theorem up_any (K : Nat) (A : Option Addr) (c : Nat) (l : List HitM) (k : Int) (j : Nat) (w : World) (hk : Keep w K A c l k) (hj : j < l.length) (hu : UpI l.length l j) :
    Calls Try.prog 44 #[.iface 75 (.pointer (some ⟨K, 0, none⟩)), .int .i64 j] w fun e w' => e = .returned (.tuple #[]) ∧ ∃ p, p.Perm l ∧ Heap p.length p ∧ Keep w' K A c p k ∧ Turn (own K A) w w' := by
  obtain ⟨g, rfl, _, _⟩ := hk.form (by omega)
  have hmost := hk.hits.most
  have hroom := hk.hits.room
  have H0 := Lib.hid (show UpR w K (some ⟨g, 0, none⟩) c l k l j w from ⟨List.Perm.refl _, hu, hk, Turn.refl _ _⟩)
  generalize hn : l.length = n at *
  have HN := Lib.hid hn
  clear hk hu hn
  go_enter Try.func44, Try.ntmps44
  go_wp2
  go_loopw [1, 4] (fun j _ wr => ∃ (q : Nat) (p : List HitM), q < n ∧ j = .int .i64 q ∧ Hid (UpR w K (some ⟨g, 0, none⟩) c l k p q wr)) (fun j _ _ => (intOf j).toNat)
  case atStart => exact ⟨j, l, hj, rfl, H0⟩
  case round =>
    obtain ⟨q, p, hq, rfl, HU⟩ := hrel
    obtain ⟨hp, hu, hkp, ht⟩ := HU.out
    have hpn : p.length = n := by rw [hp.length_eq, HN.out]
    have hc := hkp.cell
    rw [hpn] at hc
    by_cases h0 : q = 0
    · subst h0
      have HF := Lib.hid (show Heap p.length p by rw [hpn, ← HN.out]; exact hu.top)
      clear hp hu hkp ht
      go_wp2
      go_end0
      exact ⟨rfl, p, HU.out.1, HF.out, HU.out.2.2.1, HU.out.2.2.2⟩
    · have hd : ((q : Int) - 1) / 2 = ((q - 1) / 2 : Nat) := by omega
      have HL := Lib.hid (less_at hkp hpn q ((q - 1) / 2) hq (by omega) q (((q : Int) - 1) / 2) rfl hd)
      have HPN := Lib.hid hpn
      have HD := Lib.hid hd
      have t1 : (((q : Int) - 1) / 2 == (q : Int)) = false := by simp; omega
      cases ha : ahead (p.getD ((q - 1) / 2) z2) (p.getD q z2) with
      | false =>
        have HF := Lib.hid (show Heap p.length p by rw [hpn, ← HN.out]; exact hu.rest ha)
        rw [ha] at HL
        clear hp hu hkp ht hd ha
        go_wp2_with fail
        refine HL.out.mono ?_
        rintro e w1 ⟨rfl, hk1, hb1⟩
        have HK1 := Lib.hid (And.intro hk1 hb1)
        clear hk1 hb1
        go_wp2
        go_end0
        exact ⟨rfl, p, HU.out.1, HF.out, HK1.out.1, own_below HU.out.2.2.2 HK1.out.2⟩
      | true =>
        have HG := Lib.hid (show UpI l.length (swp p ((q - 1) / 2) q) ((q - 1) / 2) by rw [HN.out]; rw [HN.out] at hu; exact hu.go (by omega) hq (by omega) ha)
        have HPM := Lib.hid (show (swp p ((q - 1) / 2) q).Perm l from (swp_perm p _ _ (by omega) (by omega)).trans hp)
        rw [ha] at HL
        clear hp hu hkp ht hd ha
        go_wp2_with fail
        refine HL.out.mono ?_
        rintro e w1 ⟨rfl, hk1, hb1⟩
        have HK1 := Lib.hid (And.intro hk1 hb1)
        have hc1 := hk1.cell
        rw [HPN.out] at hc1
        have HS := Lib.hid (swap_at hk1 HPN.out ((q - 1) / 2) q (by omega) hq (((q : Int) - 1) / 2) q HD.out rfl)
        clear hk1 hb1 hc
        go_wp2_with fail
        refine HS.out.mono ?_
        rintro e w2 ⟨⟨v, rfl⟩, hk2, ht2⟩
        have HK2 := Lib.hid (And.intro hk2 ht2)
        clear hk2 ht2
        go_wp2
        go_roundw
        case rel => exact ⟨(q - 1) / 2, swp p ((q - 1) / 2) q, by omega, by rw [← HD.out], Lib.hid ⟨HPM.out, HG.out, HK2.out.1, own_trans1 (own_below HU.out.2.2.2 HK1.out.2) HK2.out.2⟩⟩
        case measure => simp [intOf]; omega

theorem swp_drop (p : List HitM) (i j n : Nat) (hi : i < n) (hj : j < n) : (swp p i j).drop n = p.drop n := by
  unfold swp
  rw [List.drop_set, if_pos hj, List.drop_set, if_pos hi]

def DownR (w : World) (K : Nat) (A : Option Addr) (c : Nat) (l : List HitM) (k : Int) (n : Nat) (p : List HitM) (q : Nat) (W : World) : Prop := p.Perm l ∧ DownI n p q ∧ Keep W K A c p k ∧ Turn (own K A) w W ∧ p.drop n = l.drop n

set_option maxHeartbeats 1000000 in
theorem down_any (K : Nat) (A : Option Addr) (c : Nat) (l : List HitM) (k : Int) (i n : Nat) (w : World) (hk : Keep w K A c l k) (hn0 : 0 < l.length) (hn : n ≤ l.length) (hd : DownI n l i) (hbig : l.length < 1099511627776) (hin : i ≤ n) :
    Calls Try.prog 45 #[.iface 75 (.pointer (some ⟨K, 0, none⟩)), .int .i64 i, .int .i64 n] w fun e w' => (∃ m, e = .returned (.bool m)) ∧ ∃ p, p.Perm l ∧ Heap n p ∧ p.drop n = l.drop n ∧ Keep w' K A c p k ∧ Turn (own K A) w w' := by
  obtain ⟨g, rfl, _, _⟩ := hk.form hn0
  have hroom := hk.hits.room
  have H0 := Lib.hid (show DownR w K (some ⟨g, 0, none⟩) c l k n l i w from ⟨List.Perm.refl _, hd, hk, Turn.refl _ _, rfl⟩)
  generalize hm : l.length = m at *
  have HM := Lib.hid hm
  clear hk hd hm
  go_enter Try.func45, Try.ntmps45
  go_wp2
  go_loopw [7, 8, 9, 10] (fun x _ _ _ wr => ∃ (q : Nat) (p : List HitM), q ≤ n ∧ x = .int .i64 q ∧ Hid (DownR w K (some ⟨g, 0, none⟩) c l k n p q wr)) (fun x _ _ _ _ => n - (intOf x).toNat)
  case atStart => exact ⟨i, l, hin, rfl, H0⟩
  case round =>
    obtain ⟨q, p, hq, rfl, HU⟩ := hrel
    obtain ⟨hp, hd, hkp, ht, hdr⟩ := HU.out
    have hpm : p.length = m := by rw [hp.length_eq, HM.out]
    have hc := hkp.cell
    rw [hpm] at hc
    have HPN := Lib.hid hpm
    by_cases h1 : n ≤ 2 * q + 1
    · have HF := Lib.hid (show Heap n p from hd.none h1)
      have t1 : decide ((n : Int) ≤ 2 * (q : Int) + 1) = true := by simp; omega
      clear hp hd hkp ht hdr
      go_wp2
      go_ret
      exact ⟨⟨_, rfl⟩, p, HU.out.1, HF.out, HU.out.2.2.2.2, HU.out.2.2.1, HU.out.2.2.2.1⟩
    · have t1 : decide ((n : Int) ≤ 2 * (q : Int) + 1) = false := by simp; omega
      have t2 : decide (2 * (q : Int) + 1 < 0) = false := by simp; omega
      by_cases h2 : 2 * q + 2 < n
      · have t3 : decide (2 * (q : Int) + 1 + 1 < (n : Int)) = true := by simp; omega
        have HL1 := Lib.hid (less_at hkp hpm (2 * q + 2) (2 * q + 1) (by omega) (by omega) (2 * (q : Int) + 1 + 1) (2 * (q : Int) + 1) (by omega) (by omega))
        cases hs : ahead (p.getD (2 * q + 1) z2) (p.getD (2 * q + 2) z2) with
        | false =>
          rw [hs] at HL1
          have HSEL := Lib.hid (show (2 * q + 1 = 2 * q + 1 ∧ (2 * q + 2 < n → ahead (p.getD (2 * q + 1) z2) (p.getD (2 * q + 2) z2) = false)) ∨ (2 * q + 1 = 2 * q + 2 ∧ 2 * q + 1 < n ∧ ahead (p.getD (2 * q + 1) z2) (p.getD (2 * q + 1) z2) = false) from .inl ⟨rfl, fun _ => hs⟩)
          have HSEL2 := Lib.hid (show (2 * q + 1 = 2 * q + 1 ∧ 2 * q + 1 < n ∧ (2 * q + 2 < n → ahead (p.getD (2 * q + 1) z2) (p.getD (2 * q + 2) z2) = false)) ∨ (2 * q + 1 = 2 * q + 2 ∧ 2 * q + 1 < n ∧ ahead (p.getD (2 * q + 1) z2) (p.getD (2 * q + 1) z2) = false) from .inl ⟨rfl, by omega, fun _ => hs⟩)
          have HL2 := Lib.hid (fun (W : World) (hW : Keep W K (some ⟨g, 0, none⟩) c p k) => less_at hW hpm (2 * q + 1) q (by omega) (by omega) (2 * (q : Int) + 1) q (by omega) rfl)
          cases hb : ahead (p.getD q z2) (p.getD (2 * q + 1) z2) with
          | false =>
            have HF := Lib.hid (show Heap n p from hd.rest HSEL.out hb)
            rw [hb] at HL2
            clear hp hd hkp ht hdr hb hs
            go_wp2_with fail
            refine HL1.out.mono ?_
            rintro e w1 ⟨rfl, hk1, hb1⟩
            have HK1 := Lib.hid (And.intro hk1 hb1)
            have hc1 := hk1.cell
            rw [HPN.out] at hc1
            clear hk1 hb1 hc
            go_wp2_with fail
            refine (HL2.out _ HK1.out.1).mono ?_
            rintro e w2 ⟨rfl, hk2, hb2⟩
            have HK2 := Lib.hid (And.intro hk2 hb2)
            clear hk2 hb2
            go_wp2
            go_ret
            exact ⟨⟨_, rfl⟩, p, HU.out.1, HF.out, HU.out.2.2.2.2, HK2.out.1, own_below (own_below HU.out.2.2.2.1 HK1.out.2) HK2.out.2⟩
          | true =>
            have HG := Lib.hid (show DownI n (swp p q (2 * q + 1)) (2 * q + 1) from hd.go (by omega) HSEL2.out hb)
            have HPM := Lib.hid (show (swp p q (2 * q + 1)).Perm l from (swp_perm p _ _ (by omega) (by omega)).trans hp)
            have HDR := Lib.hid (show (swp p q (2 * q + 1)).drop n = l.drop n by rw [swp_drop p q (2 * q + 1) n (by omega) (by omega)]; exact hdr)
            rw [hb] at HL2
            clear hp hd hkp ht hdr hb hs
            go_wp2_with fail
            refine HL1.out.mono ?_
            rintro e w1 ⟨rfl, hk1, hb1⟩
            have HK1 := Lib.hid (And.intro hk1 hb1)
            have hc1 := hk1.cell
            rw [HPN.out] at hc1
            clear hk1 hb1 hc
            go_wp2_with fail
            refine (HL2.out _ HK1.out.1).mono ?_
            rintro e w2 ⟨rfl, hk2, hb2⟩
            have HK2 := Lib.hid (And.intro hk2 hb2)
            have hc2 := hk2.cell
            rw [HPN.out] at hc2
            have HS := Lib.hid (swap_at hk2 HPN.out q (2 * q + 1) (by omega) (by omega) q (2 * (q : Int) + 1) rfl (by omega))
            clear hk2 hb2
            go_wp2_with fail
            refine HS.out.mono ?_
            rintro e w3 ⟨⟨v, rfl⟩, hk3, ht3⟩
            have HK3 := Lib.hid (And.intro hk3 ht3)
            clear hk3 ht3
            go_wp2
            go_roundw
            case rel => exact ⟨2 * q + 1, swp p q (2 * q + 1), by omega, by congr 1, Lib.hid ⟨HPM.out, HG.out, HK3.out.1, own_trans1 (own_below (own_below HU.out.2.2.2.1 HK1.out.2) HK2.out.2) HK3.out.2, HDR.out⟩⟩
            case measure => simp [intOf]; omega
        | true =>
          rw [hs] at HL1
          have HSEL := Lib.hid (show (2 * q + 2 = 2 * q + 1 ∧ (2 * q + 2 < n → ahead (p.getD (2 * q + 2) z2) (p.getD (2 * q + 2) z2) = false)) ∨ (2 * q + 2 = 2 * q + 2 ∧ 2 * q + 2 < n ∧ ahead (p.getD (2 * q + 2) z2) (p.getD (2 * q + 1) z2) = false) from .inr ⟨rfl, by omega, ahead_asymm hs⟩)
          have HSEL2 := Lib.hid (show (2 * q + 2 = 2 * q + 1 ∧ 2 * q + 2 < n ∧ (2 * q + 2 < n → ahead (p.getD (2 * q + 2) z2) (p.getD (2 * q + 2) z2) = false)) ∨ (2 * q + 2 = 2 * q + 2 ∧ 2 * q + 2 < n ∧ ahead (p.getD (2 * q + 2) z2) (p.getD (2 * q + 1) z2) = false) from .inr ⟨rfl, by omega, ahead_asymm hs⟩)
          have HL2 := Lib.hid (fun (W : World) (hW : Keep W K (some ⟨g, 0, none⟩) c p k) => less_at hW hpm (2 * q + 2) q (by omega) (by omega) (2 * (q : Int) + 1 + 1) q (by omega) rfl)
          cases hb : ahead (p.getD q z2) (p.getD (2 * q + 2) z2) with
          | false =>
            have HF := Lib.hid (show Heap n p from hd.rest HSEL.out hb)
            rw [hb] at HL2
            clear hp hd hkp ht hdr hb hs
            go_wp2_with fail
            refine HL1.out.mono ?_
            rintro e w1 ⟨rfl, hk1, hb1⟩
            have HK1 := Lib.hid (And.intro hk1 hb1)
            have hc1 := hk1.cell
            rw [HPN.out] at hc1
            clear hk1 hb1 hc
            go_wp2_with fail
            refine (HL2.out _ HK1.out.1).mono ?_
            rintro e w2 ⟨rfl, hk2, hb2⟩
            have HK2 := Lib.hid (And.intro hk2 hb2)
            clear hk2 hb2
            go_wp2
            go_ret
            exact ⟨⟨_, rfl⟩, p, HU.out.1, HF.out, HU.out.2.2.2.2, HK2.out.1, own_below (own_below HU.out.2.2.2.1 HK1.out.2) HK2.out.2⟩
          | true =>
            have HG := Lib.hid (show DownI n (swp p q (2 * q + 2)) (2 * q + 2) from hd.go (by omega) HSEL2.out hb)
            have HPM := Lib.hid (show (swp p q (2 * q + 2)).Perm l from (swp_perm p _ _ (by omega) (by omega)).trans hp)
            have HDR := Lib.hid (show (swp p q (2 * q + 2)).drop n = l.drop n by rw [swp_drop p q (2 * q + 2) n (by omega) (by omega)]; exact hdr)
            rw [hb] at HL2
            clear hp hd hkp ht hdr hb hs
            go_wp2_with fail
            refine HL1.out.mono ?_
            rintro e w1 ⟨rfl, hk1, hb1⟩
            have HK1 := Lib.hid (And.intro hk1 hb1)
            have hc1 := hk1.cell
            rw [HPN.out] at hc1
            clear hk1 hb1 hc
            go_wp2_with fail
            refine (HL2.out _ HK1.out.1).mono ?_
            rintro e w2 ⟨rfl, hk2, hb2⟩
            have HK2 := Lib.hid (And.intro hk2 hb2)
            have hc2 := hk2.cell
            rw [HPN.out] at hc2
            have HS := Lib.hid (swap_at hk2 HPN.out q (2 * q + 2) (by omega) (by omega) q (2 * (q : Int) + 1 + 1) rfl (by omega))
            clear hk2 hb2
            go_wp2_with fail
            refine HS.out.mono ?_
            rintro e w3 ⟨⟨v, rfl⟩, hk3, ht3⟩
            have HK3 := Lib.hid (And.intro hk3 ht3)
            clear hk3 ht3
            go_wp2
            go_roundw
            case rel => exact ⟨2 * q + 2, swp p q (2 * q + 2), by omega, by congr 1, Lib.hid ⟨HPM.out, HG.out, HK3.out.1, own_trans1 (own_below (own_below HU.out.2.2.2.1 HK1.out.2) HK2.out.2) HK3.out.2, HDR.out⟩⟩
            case measure => simp [intOf]; omega
      · have t3 : decide (2 * (q : Int) + 1 + 1 < (n : Int)) = false := by simp; omega
        have hs : True := trivial
        have HSEL := Lib.hid (show (2 * q + 1 = 2 * q + 1 ∧ (2 * q + 2 < n → ahead (p.getD (2 * q + 1) z2) (p.getD (2 * q + 2) z2) = false)) ∨ (2 * q + 1 = 2 * q + 2 ∧ 2 * q + 1 < n ∧ ahead (p.getD (2 * q + 1) z2) (p.getD (2 * q + 1) z2) = false) from .inl ⟨rfl, fun h => absurd h h2⟩)
        have HSEL2 := Lib.hid (show (2 * q + 1 = 2 * q + 1 ∧ 2 * q + 1 < n ∧ (2 * q + 2 < n → ahead (p.getD (2 * q + 1) z2) (p.getD (2 * q + 2) z2) = false)) ∨ (2 * q + 1 = 2 * q + 2 ∧ 2 * q + 1 < n ∧ ahead (p.getD (2 * q + 1) z2) (p.getD (2 * q + 1) z2) = false) from .inl ⟨rfl, by omega, fun h => absurd h h2⟩)
        have HL2 := Lib.hid (fun (W : World) (hW : Keep W K (some ⟨g, 0, none⟩) c p k) => less_at hW hpm (2 * q + 1) q (by omega) (by omega) (2 * (q : Int) + 1) q (by omega) rfl)
        cases hb : ahead (p.getD q z2) (p.getD (2 * q + 1) z2) with
        | false =>
          have HF := Lib.hid (show Heap n p from hd.rest HSEL.out hb)
          rw [hb] at HL2
          clear hp hd hkp ht hdr hb hs
          have HK1 := Lib.hid (And.intro HU.out.2.2.1 (Below.refl wr.heap.size wr))
          go_wp2_with fail
          refine (HL2.out _ HK1.out.1).mono ?_
          rintro e w2 ⟨rfl, hk2, hb2⟩
          have HK2 := Lib.hid (And.intro hk2 hb2)
          clear hk2 hb2
          go_wp2
          go_ret
          exact ⟨⟨_, rfl⟩, p, HU.out.1, HF.out, HU.out.2.2.2.2, HK2.out.1, own_below (own_below HU.out.2.2.2.1 HK1.out.2) HK2.out.2⟩
        | true =>
          have HG := Lib.hid (show DownI n (swp p q (2 * q + 1)) (2 * q + 1) from hd.go (by omega) HSEL2.out hb)
          have HPM := Lib.hid (show (swp p q (2 * q + 1)).Perm l from (swp_perm p _ _ (by omega) (by omega)).trans hp)
          have HDR := Lib.hid (show (swp p q (2 * q + 1)).drop n = l.drop n by rw [swp_drop p q (2 * q + 1) n (by omega) (by omega)]; exact hdr)
          rw [hb] at HL2
          clear hp hd hkp ht hdr hb hs
          have HK1 := Lib.hid (And.intro HU.out.2.2.1 (Below.refl wr.heap.size wr))
          go_wp2_with fail
          refine (HL2.out _ HK1.out.1).mono ?_
          rintro e w2 ⟨rfl, hk2, hb2⟩
          have HK2 := Lib.hid (And.intro hk2 hb2)
          have hc2 := hk2.cell
          rw [HPN.out] at hc2
          have HS := Lib.hid (swap_at hk2 HPN.out q (2 * q + 1) (by omega) (by omega) q (2 * (q : Int) + 1) rfl (by omega))
          clear hk2 hb2
          go_wp2_with fail
          refine HS.out.mono ?_
          rintro e w3 ⟨⟨v, rfl⟩, hk3, ht3⟩
          have HK3 := Lib.hid (And.intro hk3 ht3)
          clear hk3 ht3
          go_wp2
          go_roundw
          case rel => exact ⟨2 * q + 1, swp p q (2 * q + 1), by omega, by congr 1, Lib.hid ⟨HPM.out, HG.out, HK3.out.1, own_trans1 (own_below (own_below HU.out.2.2.2.1 HK1.out.2) HK2.out.2) HK3.out.2, HDR.out⟩⟩
          case measure => simp [intOf]; omega

end Go.Proofs.Ythobkakmjgmpcaa
