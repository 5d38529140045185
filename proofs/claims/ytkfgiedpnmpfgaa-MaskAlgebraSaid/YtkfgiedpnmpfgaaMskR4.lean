/-
  The document's Of, Right, With.
-/
import Derived.Test.YtkfgiedpnmpfgaaMskR3
import Derived.Test.YtkfgiedpnmpfgaaMskO
namespace Go.Proofs.Ytkfgiedpnmpfgaa
open Go.RowKit Go.Shelf
set_option linter.unusedVariables false
set_option linter.unusedSimpArgs false
set_option maxRecDepth 100000

theorem ofM_with (l : List Int) {k : Nat} {x : Nat} (h : l[k]? = some (x : Int)) (hx : x < 96) : withW (ofM (l.take k)) x = ofM (l.take (k + 1)) := by
  have e : l.take (k + 1) = l.take k ++ [(x : Int)] := by rw [List.take_add_one, h]; rfl
  rw [e]
  unfold ofM
  rw [withW_mk _ hx]
  exact mk_congr (fun j hj => by
    rw [Bool.eq_iff_iff]
    simp only [Bool.or_eq_true, decide_eq_true_iff, List.mem_append, List.mem_singleton]
    exact or_congr Iff.rfl (by omega))

theorem two_world (w : World) : Below w.heap.size w ((w.alloc (.cells #[.int .u64 (0 : Nat), .int .u64 (0 : Nat)] 25)).alloc (.cells #[.int .u64 (0 : Nat), .int .u64 (0 : Nat)] 25)) ∧
    MRow ((w.alloc (.cells #[.int .u64 (0 : Nat), .int .u64 (0 : Nat)] 25)).alloc (.cells #[.int .u64 (0 : Nat), .int .u64 (0 : Nat)] 25)) w.heap.size 0 0 ∧ MRow ((w.alloc (.cells #[.int .u64 (0 : Nat), .int .u64 (0 : Nat)] 25)).alloc (.cells #[.int .u64 (0 : Nat), .int .u64 (0 : Nat)] 25)) (w.heap.size + 1) 0 0 := by
  refine ⟨((Below.refl _ w).alloc (Nat.le_refl _) _).alloc (by simp) _, (MRow.new w 0 0).below ((Below.refl _ _).alloc (Nat.le_refl _) _) (by simp), ?_⟩
  have := MRow.new (w.alloc (.cells #[.int .u64 (0 : Nat), .int .u64 (0 : Nat)] 25)) 0 0
  rwa [World.size_alloc] at this

set_option maxHeartbeats 4000000 in
theorem rOf_any (A : Option Addr) (c : Nat) (l : List Int) (w : World) (h : Vec .i64 w A c l) (hall : l.all slotB = true) :
    Calls Try.prog 11 #[.slice A l.length c] w fun e w' => e = .returned (mv (ofM l)) ∧ Below w.heap.size w w' := by
  obtain ⟨s, hs⟩ : ∃ s, s = w.heap.size := ⟨_, rfl⟩
  obtain ⟨n, hn⟩ : ∃ n, n = l.length := ⟨_, rfl⟩
  have hmn : (n : Int) ≤ 9223372036854775807 := by have := h.room; have := h.most; omega
  have hnc : n ≤ c := by have := h.room; omega
  have hcm : (c : Int) ≤ 9223372036854775807 := by have := h.most; omega
  obtain ⟨hB, hR, hm0⟩ := two_world w
  obtain ⟨W0, hW0⟩ : ∃ W0, W0 = (w.alloc (.cells #[.int .u64 (0 : Nat), .int .u64 (0 : Nat)] 25)).alloc (.cells #[.int .u64 (0 : Nat), .int .u64 (0 : Nat)] 25) := ⟨_, rfl⟩
  rw [← hW0] at hB hR hm0
  rw [← hs] at hR hm0
  have HA := Lib.hid h
  have HN := Lib.hid hn
  have HS := Lib.hid hs
  have HB := Lib.hid hB
  have HR := Lib.hid hR
  have HM0 := Lib.hid (show MRow W0 (s + 1) (ofM (l.take 0)).1 (ofM (l.take 0)).2 from by rw [List.take_zero, ofM_nil]; exact hm0)
  have HW0 := Lib.hid hW0
  have HAll := Lib.hid hall
  obtain ⟨MF, hMF⟩ : ∃ M, M = ofM l := ⟨_, rfl⟩
  rw [← hn, ← hMF]
  have HMF := Lib.hid hMF
  clear hMF h hn hB hR hm0 hs hW0 hall
  go_enter Try.func11, Try.ntmps11
  go_wp2
  rw [show (w.alloc (.cells #[.int .u64 0, .int .u64 0] 25)).alloc (.cells #[.int .u64 0, .int .u64 0] 25) = W0 from HW0.out.symm, ← HS.out]
  go_loopw [8] (fun i wr => ∃ (k : Nat), k ≤ n ∧ i = .int .i64 k ∧ Hid (Below w.heap.size w wr) ∧ Hid (MRow wr s 0 0) ∧ Hid (MRow wr (s + 1) (ofM (l.take k)).1 (ofM (l.take k)).2)) (fun i _ => n - (intOf i).toNat)
  case atStart => exact ⟨0, by omega, rfl, HB, HR, HM0⟩
  case round =>
    obtain ⟨k, hk, rfl, HW, HRr, HMr⟩ := hrel
    by_cases hkn : k < n
    · obtain ⟨b, o, rfl, hb, hcell⟩ := (HA.out.below HW.out).at_ (j := k) (by rw [← HN.out]; exact hkn)
      obtain ⟨x, hx⟩ : ∃ x, l[k]? = some x := ⟨_, List.getElem?_eq_getElem (by rw [← HN.out]; exact hkn)⟩
      have hxg : l.getD k 0 = x := by simp [List.getD, hx]
      rw [hxg] at hcell
      obtain ⟨hx0, hx96⟩ := slotB_yes (List.all_eq_true.1 HAll.out x (List.mem_of_getElem? hx))
      obtain ⟨y, rfl⟩ := Int.eq_ofNat_of_zero_le hx0
      obtain ⟨Mk0, hMk0⟩ : ∃ M, M = ofM (l.take k) := ⟨_, rfl⟩
      obtain ⟨Mk1, hMk1⟩ : ∃ M, M = ofM (l.take (k + 1)) := ⟨_, rfl⟩
      have hm := HMr.out
      have hr := HRr.out
      rw [← hMk0] at hm
      have HWi := Lib.hid (fun W => show Calls Try.prog 30 #[mv Mk0, .int .i64 y] W (fun e w' => e = .returned (mv Mk1) ∧ Below W.heap.size W w') from by
        have := rwith_any Mk0 y W (by rw [hMk0]; exact mk_fine _) (by omega)
        rw [show withW Mk0 y = Mk1 from by rw [hMk0, hMk1]; exact ofM_with l hx (by omega)] at this
        exact this)
      have c0 := hm.cell0
      have c1 := hm.cell1
      have HG := Lib.hid (fun (X : World) (hX : Below wr.heap.size wr X) => And.intro (hm.below hX hm.lt) (And.intro (hr.below hX hr.lt) (HW.out.trans (hX.mono HW.out.size))))
      have HMk1 := Lib.hid hMk1
      have k0 : (0 : Int) ≤ k := by omega
      have kn : (k : Int) < n := by omega
      clear hx hxg hx0 hx96 hMk0 hMk1 hm hr hb
      unfold mv at HWi
      go_wp2_with fail
      refine (HWi.out _).mono ?_
      rintro e w2 ⟨rfl, hb2⟩
      obtain ⟨hm3, hr3, hbw3⟩ := HG.out w2 hb2
      have HM3 := Lib.hid hm3
      have HR3 := Lib.hid hr3
      have HB3 := Lib.hid hbw3
      have r0 := hm3.cell0
      have r1 := hm3.cell1
      have f0 := hm3.frozen 0
      have f1 := hm3.frozen 1
      clear hm3 hr3 hbw3 hb2
      go_wp2
      go_roundw
      case rel =>
        refine ⟨k + 1, by omega, by go_num, Lib.hid (below_set (below_set HB3.out _ _ (by rw [HS.out]; simp)) _ _ (by rw [HS.out]; simp)), Lib.hid ((HR3.out.other _ _ (by simp)).other _ _ (by simp)), Lib.hid ?_⟩
        rw [← HMk1.out]
        exact (HM3.out.set0 _).set1 _
      case measure => simp [intOf]; omega
    · obtain rfl : k = n := by omega
      have hm := HMr.out
      rw [show l.take k = l by rw [HN.out, List.take_length]] at hm
      have hr := HRr.out
      rw [← HMF.out] at hm
      obtain ⟨⟨c0, c1, f0, f1⟩, e0', e1', hbE⟩ := mask_end (M := MF) hr HW.out (by rw [HS.out]; exact Nat.le_refl _)
      have m0 := hm.cell0
      have m1 := hm.cell1
      have HBE := Lib.hid hbE
      clear hm hr hbE
      go_wp2
      refine bodyPost_ret (v := .agg #[.int .u64 MF.1, .int .u64 MF.2]) (by simp [results, Try.results11, go_sem, e0', e1']) rfl ?_
      exact ⟨rfl, HBE.out⟩

/-- The slots of a mask, as numbers. -/
def slotsI (m : Mk) : List Int := (slots m).map fun (k : Nat) => (k : Int)
theorem slots_mem {m : Mk} {k : Nat} : k ∈ slots m ↔ has m k = true := by
  unfold slots
  rw [List.mem_filter, List.mem_range]
  exact ⟨fun h => h.2, fun h => ⟨has_lt h, h⟩⟩
theorem slotsI_len (m : Mk) : (slotsI m).length = (slots m).length := by simp [slotsI]
theorem slotsI_all (m : Mk) : (slotsI m).all slotB = true := by
  rw [List.all_eq_true]
  intro x hx
  obtain ⟨k, hk, rfl⟩ := List.mem_map.1 hx
  have := has_lt (slots_mem.1 hk)
  unfold slotB
  simp; omega
theorem ofM_slots (m : Mk) : ofM (slotsI m) = mk (has m) := by
  unfold ofM
  refine mk_congr (fun k hk => ?_)
  rw [Bool.eq_iff_iff, decide_eq_true_iff, ← slots_mem]
  simp only [slotsI, List.mem_map]
  refine ⟨fun ⟨a, h, e⟩ => ?_, fun h => ⟨k, h, rfl⟩⟩
  have : a = k := by omega
  subst this
  exact h
theorem OwnN.slots {base : Nat} {w : World} {A : Option Addr} {c : Nat} {m : Mk} (h : OwnN base w A c (slots m)) : Vec .i64 w A c (slotsI m) :=
  h.vec (fun k hk => by have := has_lt (slots_mem.1 hk); omega)

set_option maxHeartbeats 2000000 in
theorem rRight_any (m : Mk) (w : World) (h : Fine m) :
    Calls Try.prog 12 #[mv m] w fun e w' => e = .returned (.bool (rightM m)) ∧ Below w.heap.size w w' := by
  obtain ⟨M, hM⟩ : ∃ M, M = mk (has m) := ⟨_, rfl⟩
  have HSl := Lib.hid (fun W => rSlots_any m W h)
  have HOf := Lib.hid (fun (W : World) (A : Option Addr) (c : Nat) (hv : Vec .i64 W A c (slotsI m)) => show Calls Try.prog 11 #[.slice A (slots m).length c] W (fun e w' => e = .returned (mv M) ∧ Below W.heap.size W w') from by
    have := rOf_any A c (slotsI m) W hv (slotsI_all m)
    rw [slotsI_len, ofM_slots, ← hM] at this
    exact this)
  obtain ⟨hb0, hm0⟩ := mbox_world w m
  obtain ⟨w1, hw1⟩ : ∃ w1, w1 = w.alloc (.cells #[.int .u64 m.1, .int .u64 m.2] 25) := ⟨_, rfl⟩
  rw [← hw1] at hb0 hm0
  have HK := Lib.hid (fun (X : World) (hX : Below w1.heap.size w1 X) => show X.cell? ⟨w.heap.size, 0, none⟩ = some (.int .u64 m.1) ∧ X.cell? ⟨w.heap.size, 1, none⟩ = some (.int .u64 m.2) from by
    have h := hm0.below hX hm0.lt
    exact ⟨h.cell0, h.cell1⟩)
  have HB0 := Lib.hid hb0
  have HW1 := Lib.hid hw1
  have HE := Lib.hid (show decide (M = m) = rightM m from by unfold rightM; rw [hM, Bool.eq_iff_iff]; simp [eq_comm])
  have heq := fun W => eqM M m W
  clear hM hb0 hm0 hw1 h
  unfold mv at *
  generalize decide (M = m) = R at *
  generalize (slots m).length = n at *
  obtain ⟨c0, c1⟩ := HK.out w1 (Below.refl _ _)
  go_enter Try.func12, Try.ntmps12
  go_wp2_with (rw [← HW1.out])
  go_region_held3 (fun X => X.cell? ⟨w.heap.size, 0, none⟩ = some (.int .u64 m.1) ∧ X.cell? ⟨w.heap.size, 1, none⟩ = some (.int .u64 m.2))
    (first | (with_reducible assumption) | (with_reducible exact HK.out _ (below_drew (Below.refl _ _))) | (with_reducible exact HK.out _ HC2.out) | (with_reducible exact HK.out _ HC3.out))
    (first
    | (go_at_call 31; (with_reducible refine (HSl.out w1.drew).mono ?_); rintro e w2 ⟨A2, c2, rfl, ho2, hb2⟩; have HC2 := Lib.hid (show Below w1.heap.size w1 w2 from (below_drew (Below.refl _ w1)).trans hb2); have HO2 := Lib.hid ho2.slots; clear hb2 ho2)
    | (go_at_call 11; (refine (HOf.out w2 _ _ HO2.out).mono ?_); rintro e w3 ⟨rfl, hb3⟩; have HC3 := Lib.hid (HC2.out.trans (hb3.mono HC2.out.size)); clear hb3))
  go_wp2
  go_ret
  rw [← HE.out]
  exact ⟨rfl, HB0.out.trans (HC3.out.mono HB0.out.size)⟩
end Go.Proofs.Ytkfgiedpnmpfgaa
