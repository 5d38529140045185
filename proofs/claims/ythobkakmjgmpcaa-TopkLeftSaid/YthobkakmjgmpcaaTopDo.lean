/-
  Push, Fix, Pop of container/heap over a keeper; take and empty.
-/
import Derived.Test.YthobkakmjgmpcaaTopHeap
namespace Go.Proofs.Ythobkakmjgmpcaa
open Go.RowKit Go.Shelf
set_option linter.unusedVariables false
set_option linter.unusedSimpArgs false
set_option maxRecDepth 100000

theorem hpush_any (K : Nat) (A : Option Addr) (c : Nat) (l : List HitM) (k : Int) (h : HitM) (w : World) (hk : Keep w K A c l k) (hp : Heap l.length l) (hbig : l.length < 1099511627770) :
    Calls Try.prog 41 #[.iface 75 (.pointer (some ⟨K, 0, none⟩)), .iface 32 (.agg #[.int .u64 h.1, .int .u64 h.2])] w fun e w' => e = .returned (.tuple #[]) ∧
      ∃ A' c' p, p.Perm (l ++ [h]) ∧ Heap p.length p ∧ Keep w' K A' c' p k ∧ (∀ i, blk A' = some i → blk A = some i ∨ w.heap.size ≤ i) ∧ Turn (own K A) w w' := by
  have HP := Lib.hid (pilePush_any K A c l k h w hk (by omega))
  have hl : (l ++ [h]).length = l.length + 1 := by simp
  have HU := Lib.hid (up_start h hp)
  have HUP := Lib.hid (fun (W : World) (A' : Option Addr) (c' : Nat) (hW : Keep W K A' c' (l ++ [h]) k) => up_any K A' c' (l ++ [h]) k l.length W hW (by omega) HU.out)
  have HL := Lib.hid hl
  generalize hn : l.length = n at *
  clear hk hp hl
  obtain ⟨x, y⟩ := h
  dsimp only
  go_enter Try.func41, Try.ntmps41
  go_wp2_with fail
  refine HP.out.mono ?_
  rintro e w1 ⟨rfl, A1, c1, hk1, hb1, ht1⟩
  have hc1 := hk1.cell
  rw [HL.out] at hc1
  have HK1 := Lib.hid (And.intro hk1 (And.intro hb1 ht1))
  have HC := Lib.hid (HUP.out w1 A1 c1 hk1)
  clear hk1 hb1 ht1
  go_wp2_with (go_at_call 34; refine (len_any _ _ _ _).mono ?_; rintro e w2 ⟨rfl, rfl⟩)
  refine HC.out.mono ?_
  rintro e w2 ⟨rfl, p, hp, hh, hk2, ht2⟩
  have H2 := Lib.hid (And.intro hp (And.intro hh (And.intro hk2 ht2)))
  clear hp hh hk2 ht2
  go_wp2
  go_end0
  exact ⟨rfl, A1, c1, p, H2.out.1, H2.out.2.1, H2.out.2.2.1, HK1.out.2.1, own_trans HK1.out.2.2 H2.out.2.2.2 HK1.out.2.1⟩

theorem hfix_any (K : Nat) (A : Option Addr) (c : Nat) (l : List HitM) (k : Int) (w : World) (hk : Keep w K A c l k) (hn0 : 0 < l.length) (hd : DownI l.length l 0) (hbig : l.length < 1099511627770) :
    Calls Try.prog 42 #[.iface 75 (.pointer (some ⟨K, 0, none⟩)), .int .i64 0] w fun e w' => e = .returned (.tuple #[]) ∧
      ∃ p, p.Perm l ∧ Heap p.length p ∧ Keep w' K A c p k ∧ Turn (own K A) w w' := by
  have HD := Lib.hid (down_any K A c l k 0 l.length w hk hn0 (Nat.le_refl _) hd (by omega) (Nat.zero_le _))
  have hc := hk.cell
  generalize hn : l.length = n at *
  have HN := Lib.hid hn
  clear hk hd hn
  go_enter Try.func42, Try.ntmps42
  go_wp2_with (go_at_call 34; refine (len_any _ _ _ _).mono ?_; rintro e w2 ⟨rfl, rfl⟩)
  refine HD.out.mono ?_
  rintro e w1 ⟨⟨m, rfl⟩, p, hp, hh, _, hk1, ht1⟩
  have hpn : p.length = n := by rw [hp.length_eq, HN.out]
  have H1 := Lib.hid (And.intro hp (And.intro hh (And.intro hk1 ht1)))
  have HPN := Lib.hid hpn
  have HUP := Lib.hid (up_any K A c p k 0 w1 hk1 (by omega) ⟨fun m m0 hm _ => hh m m0 (by omega), fun m _ _ _ h0 => absurd h0 (by omega)⟩)
  clear hp hh hk1 ht1 hpn hc
  cases m with
  | true =>
    go_wp2
    go_end0
    exact ⟨rfl, p, H1.out.1, by rw [HPN.out]; exact H1.out.2.1, H1.out.2.2.1, H1.out.2.2.2⟩
  | false =>
    go_wp2_with fail
    refine HUP.out.mono ?_
    rintro e w2 ⟨rfl, p2, hp2, hh2, hk2, ht2⟩
    have H2 := Lib.hid (And.intro hp2 (And.intro hh2 (And.intro hk2 ht2)))
    clear hp2 hh2 hk2 ht2
    go_wp2
    go_end0
    exact ⟨rfl, p2, H2.out.1.trans H1.out.1, H2.out.2.1, H2.out.2.2.1, own_trans1 H1.out.2.2.2 H2.out.2.2.2⟩

/-- What is left behind the first n: the last one. -/
theorem split_last {p : List HitM} {n : Nat} (hn : p.length = n + 1) {x : HitM} (hx : p.getD n z2 = x) : p = p.take n ++ [x] := by
  have h1 : p.drop n = [x] := by
    rw [List.drop_eq_getElem_cons (by omega), List.drop_eq_nil_of_le (by omega)]
    simp [List.getD, List.getElem?_eq_getElem (show n < p.length by omega)] at hx
    rw [hx]
  conv => lhs; rw [← List.take_append_drop n p, h1]

set_option maxHeartbeats 1000000 in
theorem hpop_any (K : Nat) (A : Option Addr) (c : Nat) (l : List HitM) (k : Int) (w : World) (hk : Keep w K A c l k) (hn0 : 0 < l.length) (hp : Heap l.length l) (hbig : l.length < 1099511627770) :
    Calls Try.prog 43 #[.iface 75 (.pointer (some ⟨K, 0, none⟩))] w fun e w' => (∃ v, e = .returned v) ∧
      ∃ p, (l.getD 0 z2 :: p).Perm l ∧ Heap p.length p ∧ Keep w' K A c p k ∧ Turn (own K A) w w' := by
  obtain ⟨g, rfl, _, _⟩ := hk.form hn0
  obtain ⟨n, hn⟩ : ∃ n, l.length = n + 1 := ⟨l.length - 1, by omega⟩
  have hc := hk.cell
  have HS := Lib.hid (swap_at hk hn 0 n (by omega) (by omega) 0 n rfl rfl)
  have hsl : (swp l 0 n).length = n + 1 := by rw [swp_length, hn]
  have hds : DownI n (swp l 0 n) 0 := pop_start hn (by rw [← hn]; exact hp)
  have HD := Lib.hid (fun (W : World) (hW : Keep W K (some ⟨g, 0, none⟩) c (swp l 0 n) k) => down_any K (some ⟨g, 0, none⟩) c (swp l 0 n) k 0 n W hW (by omega) (by omega) hds (by omega) (Nat.zero_le _))
  have HPM := Lib.hid (swp_perm l 0 n (by omega) (by omega))
  have HLX := Lib.hid (show (swp l 0 n).getD n z2 = l.getD 0 z2 by rw [swp_get l 0 n n (by omega) (by omega), if_pos rfl])
  rw [hn] at hc hbig
  have HSL := Lib.hid hsl
  generalize swp l 0 n = s at *
  clear hk hp hn hsl hds hn0
  go_enter Try.func43, Try.ntmps43
  go_wp2_with (go_at_call 34; refine (len_any _ _ _ _).mono ?_; rintro e w2 ⟨rfl, rfl⟩)
  refine HS.out.mono ?_
  rintro e w1 ⟨⟨v, rfl⟩, hk1, ht1⟩
  have HT1 := Lib.hid ht1
  have HC := Lib.hid (HD.out w1 hk1)
  clear hk1 ht1 hc
  go_wp2_with fail
  refine HC.out.mono ?_
  rintro e w2 ⟨⟨m, rfl⟩, p, hp, hh, hdr, hk2, ht2⟩
  have hpl : p.length = n + 1 := by rw [hp.length_eq, HSL.out]
  have hx : p.getD n z2 = l.getD 0 z2 := by
    rw [← HLX.out]
    have h1 : (p.drop n).getD 0 z2 = (s.drop n).getD 0 z2 := by rw [hdr]
    simpa [List.getD] using h1
  have hsp := split_last hpl hx
  have HTK := Lib.hid (heap_take hh (by omega))
  have HPR := Lib.hid (show (l.getD 0 z2 :: p.take n).Perm l by
    have h1 : (p.take n ++ [l.getD 0 z2]).Perm l := by rw [← hsp]; exact hp.trans HPM.out
    exact (List.perm_append_comm (l₁ := [l.getD 0 z2]) (l₂ := p.take n)).trans h1)
  rw [hsp] at hk2
  have HPO := Lib.hid (pilePop_any K (some ⟨g, 0, none⟩) c (p.take n) (l.getD 0 z2) k w2 hk2)
  have HT2 := Lib.hid ht2
  clear hp hh hdr hk2 ht2 hpl hx hsp
  go_wp2_with fail
  refine HPO.out.mono ?_
  rintro e w3 ⟨⟨v', rfl⟩, hk3, ht3⟩
  have H3 := Lib.hid (And.intro hk3 ht3)
  clear hk3 ht3
  go_wp2
  go_ret
  exact ⟨⟨_, rfl⟩, p.take n, HPR.out, HTK.out, H3.out.1, own_trans1 (own_trans1 HT1.out HT2.out) H3.out.2⟩

end Go.Proofs.Ythobkakmjgmpcaa
