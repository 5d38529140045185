/-
  The document's With, Without, Minus.
-/
import Derived.Test.YtkfgiedpnmpfgaaMskR4
namespace Go.Proofs.Ytkfgiedpnmpfgaa
open Go.RowKit Go.Shelf
set_option linter.unusedVariables false
set_option linter.unusedSimpArgs false
set_option maxRecDepth 100000

theorem withW_right {m : Mk} (h : rightM m = true) {n : Nat} (hn : n < 96) : withW m n = withM m n := by
  have e : m = mk (has m) := by unfold rightM at h; exact of_decide_eq_true h
  unfold withM
  rw [e, withW_mk _ hn]
  refine mk_congr (fun k hk => ?_)
  have e2 : has (mk (has m)) k = has m k := by rw [has_mk]; simp [hk]
  rw [e2, Bool.eq_iff_iff]
  simp only [Bool.or_eq_true, decide_eq_true_iff]
  exact or_congr Iff.rfl (by omega)

set_option maxHeartbeats 2000000 in
theorem rWith_any (m : Mk) (n : Nat) (w : World) (h : Fine m) (hn : n < 96) :
    Calls Try.prog 16 #[mv m, .int .i64 n] w fun e w' => e = .returned (mv (withW m n)) ∧ Below w.heap.size w w' := by
  obtain ⟨M, hM⟩ : ∃ M, M = withW m n := ⟨_, rfl⟩
  have HC := Lib.hid (fun W => rwith_any m n W h hn)
  rw [← hM] at HC ⊢
  obtain ⟨s, hs⟩ : ∃ s, s = w.heap.size := ⟨_, rfl⟩
  obtain ⟨W0, hW0⟩ : ∃ W0, W0 = (w.alloc (.cells #[.int .u64 m.1, .int .u64 m.2] 25)).alloc (.cells #[.int .u64 (0 : Nat), .int .u64 (0 : Nat)] 25) := ⟨_, rfl⟩
  have hB : Below w.heap.size w W0 := by rw [hW0]; exact ((Below.refl _ w).alloc (Nat.le_refl _) _).alloc (by simp) _
  have hR : MRow W0 (s + 1) 0 0 := by
    rw [hW0, hs]; have := MRow.new (w.alloc (.cells #[.int .u64 m.1, .int .u64 m.2] 25)) 0 0
    rwa [World.size_alloc] at this
  have HR := Lib.hid hR
  have HB := Lib.hid hB
  have HS := Lib.hid hs
  have HW0 := Lib.hid hW0
  clear hM h hR hB hs hW0
  unfold mv at *
  go_enter Try.func16, Try.ntmps16
  go_wp2_with fail
  refine (HC.out _).mono ?_
  rintro e w1 ⟨rfl, hb1⟩
  rw [show (w.alloc (.cells #[.int .u64 m.1, .int .u64 m.2] 25)).alloc (.cells #[.int .u64 0, .int .u64 0] 25) = W0 from HW0.out.symm] at hb1
  obtain ⟨⟨c0, c1, f0, f1⟩, e0, e1, hbE⟩ := mask_end (M := M) (HR.out.below hb1 HR.out.lt) (HB.out.trans (hb1.mono HB.out.size)) (by rw [HS.out]; omega)
  rw [HS.out] at c0 c1 f0 f1 e0 e1 hbE
  have HBE := Lib.hid hbE
  clear hbE hb1
  go_wp2
  refine bodyPost_ret (v := .agg #[.int .u64 M.1, .int .u64 M.2]) (by simp [results, Try.results16, go_sem, e0, e1]) rfl ?_
  exact ⟨rfl, HBE.out⟩

theorem slotsI_get (m : Mk) {k : Nat} (hk : k < (slots m).length) : ∃ x, (slots m)[k]? = some x ∧ (slotsI m).getD k 0 = (x : Int) ∧ x < 96 ∧ has m x = true := by
  have h := List.getElem?_eq_getElem hk
  refine ⟨(slots m)[k], h, ?_, has_lt (slots_mem.1 (List.getElem_mem hk)), slots_mem.1 (List.getElem_mem hk)⟩
  simp [slotsI, List.getD, List.getElem?_map, h]
theorem take_mem_snoc {l : List Nat} {k x j : Nat} (h : l[k]? = some x) : j ∈ l.take (k + 1) ↔ (j ∈ l.take k ∨ j = x) := by
  rw [List.take_add_one, h]; simp

theorem turn_sets {g : Nat} {w W : World} (h : Turn (fun i => i = g) w W) (u v : Value) : Turn (fun i => i = g) w ((W.setCell ⟨g, 0, none⟩ u).setCell ⟨g, 1, none⟩ v) := by
  refine ⟨h.os, h.tape, h.output, by have := h.size; simp [World.setCell]; exact this, fun k hk hn => ?_⟩
  rw [Below.heap_setCell _ _ _ _ hn, Below.heap_setCell _ _ _ _ hn]
  exact h.block k hk hn
theorem Turn.then_below {S : Nat → Prop} {w W W' : World} (h : Turn S w W) (hb : Below W.heap.size W W') : Turn S w W' := h.trans (Turn.of_below (S := fun _ => False) hb) (fun i hi => hi.elim)
theorem MRow.turn {S : Nat → Prop} {w W : World} {g a b : Nat} (h : MRow w g a b) (ht : Turn S w W) (hg : ¬ S g) : MRow W g a b := (ht.block g h.lt hg).trans h
theorem OwnN.turn {S : Nat → Prop} {base : Nat} {w w' : World} {A : Option Addr} {c : Nat} {l : List Nat} (h : OwnN base w A c l) (ht : Turn S w w') (hS : ∀ i, base ≤ i → ¬ S i) : OwnN base w' A c l := row_turn h ht (fun i hi => hS i (h.lt i hi).1)
theorem mk_none (f : Nat → Bool) (h : ∀ k, f k = false) : mk f = (0, 0) := by rw [← ofM_nil]; exact mk_congr (fun k hk => by rw [h]; simp)
/-- What answers a mask: a round of 'out = with(out, n)'. -/
theorem with_step (f : Nat → Bool) (x : Nat) (hx : x < 96) (W : World) : Calls Try.prog 30 #[mv (mk f), .int .i64 x] W (fun e w' => e = .returned (mv (mk fun k => f k || decide (k = x))) ∧ Below W.heap.size W w') := by
  have := rwith_any (mk f) x W (mk_fine _) hx
  rw [withW_mk f hx] at this
  exact this

set_option maxHeartbeats 4000000 in
theorem rWithout_any (m : Mk) (n : Nat) (w : World) (h : Fine m) (hn : n < 96) :
    Calls Try.prog 17 #[mv m, .int .i64 n] w fun e w' => e = .returned (mv (mk fun k => has m k && !decide (k = n))) ∧ Below w.heap.size w w' := by
  obtain ⟨s, hs⟩ : ∃ s, s = w.heap.size := ⟨_, rfl⟩
  obtain ⟨n0, hn0⟩ : ∃ n, n = (slots m).length := ⟨_, rfl⟩
  have hn96 : n0 ≤ 96 := by rw [hn0]; exact slotsTo_len m 96
  obtain ⟨W0, hW0⟩ : ∃ W0, W0 = ((w.alloc (.cells #[.int .u64 m.1, .int .u64 m.2] 25)).alloc (.cells #[.int .u64 (0 : Nat), .int .u64 (0 : Nat)] 25)).alloc (.cells #[.int .u64 (0 : Nat), .int .u64 (0 : Nat)] 25) := ⟨_, rfl⟩
  have hB : Below w.heap.size w W0 := by rw [hW0]; exact (((Below.refl _ w).alloc (Nat.le_refl _) _).alloc (by simp <;> omega) _).alloc (by simp <;> omega) _
  have hM0 : MRow W0 (s + 0) m.1 m.2 := by
    rw [hW0, hs]
    have h2 := (MRow.new w m.1 m.2).below (B := w.heap.size + 1) (W' := ((w.alloc (.cells #[.int .u64 m.1, .int .u64 m.2] 25)).alloc (.cells #[.int .u64 (0 : Nat), .int .u64 (0 : Nat)] 25)).alloc (.cells #[.int .u64 (0 : Nat), .int .u64 (0 : Nat)] 25)) (((Below.refl _ _).alloc (by simp <;> omega) _).alloc (by simp <;> omega) _) (by omega)
    simpa using h2
  have hR : MRow W0 (s + 1) 0 0 := by
    rw [hW0, hs]
    have h2 := (MRow.new (w.alloc (.cells #[.int .u64 m.1, .int .u64 m.2] 25)) 0 0).below (B := (w.alloc (.cells #[.int .u64 m.1, .int .u64 m.2] 25)).heap.size + 1) (W' := ((w.alloc (.cells #[.int .u64 m.1, .int .u64 m.2] 25)).alloc (.cells #[.int .u64 (0 : Nat), .int .u64 (0 : Nat)] 25)).alloc (.cells #[.int .u64 (0 : Nat), .int .u64 (0 : Nat)] 25)) ((Below.refl _ _).alloc (by simp) _) (by omega)
    simpa using h2
  have hm0 : MRow W0 (s + 2) 0 0 := by
    rw [hW0, hs]
    have h2 := MRow.new ((w.alloc (.cells #[.int .u64 m.1, .int .u64 m.2] 25)).alloc (.cells #[.int .u64 (0 : Nat), .int .u64 (0 : Nat)] 25)) 0 0
    simpa using h2
  obtain ⟨pm, hpm⟩ : ∃ pm : Nat → Mk, ∀ j, pm j = mk (fun k => decide (k ∈ (slots m).take (j)) && !decide (k = n)) := ⟨_, fun _ => rfl⟩
  have hP0 : pm 0 = (0, 0) := by rw [hpm]; exact mk_none _ (fun k => by simp)
  have hF : pm n0 = mk (fun k => has m k && !decide (k = n)) := by
    rw [hpm]
    refine mk_congr (fun k hk => ?_)
    rw [hn0, List.take_length]
    congr 1
    rw [Bool.eq_iff_iff, decide_eq_true_iff, slots_mem]
  have hyes : ∀ (j x : Nat), (slots m)[j]? = some x → x < 96 → (!decide (x = n)) = true → ∀ W, Calls Try.prog 30 #[mv (pm j), .int .i64 x] W (fun e w' => e = .returned (mv (pm (j + 1))) ∧ Below W.heap.size W w') := by
    intro j x hx hx96 ht W
    rw [hpm, hpm]
    have := with_step (fun k => decide (k ∈ (slots m).take j) && !decide (k = n)) x hx96 W
    rw [show mk (fun k => (decide (k ∈ (slots m).take j) && !decide (k = n)) || decide (k = x)) = mk (fun k => decide (k ∈ (slots m).take (j + 1)) && !decide (k = n)) from ?_] at this
    · exact this
    · refine mk_congr (fun k hk => ?_)
      rw [Bool.eq_iff_iff]
      simp only [Bool.and_eq_true, Bool.or_eq_true, decide_eq_true_iff, take_mem_snoc hx]
      constructor
      · rintro (⟨h1, h2⟩ | h1)
        · exact ⟨.inl h1, h2⟩
        · subst h1; exact ⟨.inr rfl, ht⟩
      · rintro ⟨h1 | h1, h2⟩
        · exact .inl ⟨h1, h2⟩
        · exact .inr h1
  have hno : ∀ (j x : Nat), (slots m)[j]? = some x → (!decide (x = n)) = false → pm (j + 1) = pm j := by
    intro j x hx ht
    rw [hpm, hpm]
    refine mk_congr (fun k hk => ?_)
    rw [Bool.eq_iff_iff]
    simp only [Bool.and_eq_true, decide_eq_true_iff, take_mem_snoc hx]
    constructor
    · rintro ⟨h1 | h1, h2⟩
      · exact ⟨h1, h2⟩
      · subst h1; rw [ht] at h2; cases h2
    · rintro ⟨h1, h2⟩
      exact ⟨.inl h1, h2⟩
  have HYes := Lib.hid hyes
  have HNo := Lib.hid hno
  have HF := Lib.hid hF
  have HSl := Lib.hid (fun W => rSlots_any m W h)
  obtain ⟨MF, hMF⟩ : ∃ M, M = mk fun k => has m k && !decide (k = n) := ⟨_, rfl⟩
  rw [← hMF] at HF ⊢
  have HM0 := Lib.hid (show MRow W0 (s + 2) (pm 0).1 (pm 0).2 from by rw [hP0]; exact hm0)
  have HR := Lib.hid hR
  have HS := Lib.hid hs
  have HN := Lib.hid hn0
  have HZ := Lib.hid (show W0.heap.size = s + 3 from by rw [hW0, hs]; simp)
  have HW0 := Lib.hid hW0
  have HB := Lib.hid hB
  have HM0x := Lib.hid hM0
  clear hMF hF hP0 hyes hno hpm hn0 hM0 hR hm0 hs hW0 hB
  unfold mv
  go_enter Try.func17, Try.ntmps17
  go_wp2_with fail
  refine (HSl.out _).mono ?_
  rintro e w1 ⟨A1, c1, rfl, ho1, hb1⟩
  rw [show ((w.alloc (.cells #[.int .u64 m.1, .int .u64 m.2] 25)).alloc (.cells #[.int .u64 0, .int .u64 0] 25)).alloc (.cells #[.int .u64 0, .int .u64 0] 25) = W0 from HW0.out.symm] at ho1 hb1
  have HO1 := Lib.hid ho1
  have HB1 := Lib.hid hb1
  have HR1 := Lib.hid (HR.out.below hb1 HR.out.lt)
  have HM1 := Lib.hid (HM0.out.below hb1 HM0.out.lt)
  have HX0 := Lib.hid (HM0x.out.below hb1 HM0x.out.lt)
  have hnc : n0 ≤ c1 := by have := ho1.slots.room; rw [slotsI_len, ← HN.out] at this; exact this
  have hcm : (c1 : Int) ≤ 9223372036854775807 := by have := ho1.slots.most; omega
  rw [← HN.out]
  clear ho1 hb1
  go_wp2
  rw [← HS.out]
  go_loopw [11] (fun i wr => ∃ (k : Nat), k ≤ n0 ∧ i = .int .i64 k ∧ Hid (Turn (fun i => i = s + 2) w1 wr) ∧ Hid (MRow wr (s + 2) (pm k).1 (pm k).2)) (fun i _ => n0 - (intOf i).toNat)
  case atStart => exact ⟨0, by omega, rfl, Lib.hid (Turn.refl _ _), HM1⟩
  case round =>
    obtain ⟨k, hk, rfl, HT, HMr⟩ := hrel
    by_cases hkn : k < n0
    · obtain ⟨x, hx, hxg, hx96, hxh⟩ := slotsI_get m (k := k) (by rw [← HN.out]; exact hkn)
      obtain ⟨b, o, rfl, hb, hcell⟩ := (HO1.out.turn HT.out (fun i hi e => by have := HZ.out; omega)).slots.at_ (j := k) (by rw [slotsI_len, ← HN.out]; exact hkn)
      rw [hxg] at hcell
      have k0 : (0 : Int) ≤ k := by omega
      have kn : (k : Int) < n0 := by omega
      have hm := HMr.out
      by_cases hxn : x = n
      · have t1 : ((x : Int) != (n : Int)) = false := by simp; omega
        have HSt := Lib.hid (HNo.out k x hx (by simp [hxn]))
        clear hx hxg hxh hb hm hxn
        go_wp2
        go_roundw
        case rel => exact ⟨k + 1, by omega, by go_num, HT, Lib.hid (by rw [HSt.out]; exact HMr.out)⟩
        case measure => simp [intOf]; omega
      · have t1 : ((x : Int) != (n : Int)) = true := by simp; omega
        have HWi := Lib.hid (fun W => HYes.out k x hx hx96 (by simp [hxn]) W)
        obtain ⟨Ma, hMa⟩ : ∃ M, M = pm k := ⟨_, rfl⟩
        obtain ⟨Mb, hMb⟩ : ∃ M, M = pm (k + 1) := ⟨_, rfl⟩
        rw [← hMa, ← hMb] at HWi
        rw [← hMa] at hm
        have HMb := Lib.hid hMb
        clear hxn hMa hMb
        have HMw := Lib.hid hm
        have c0 := HMw.out.cell0
        have c1' := HMw.out.cell1
        clear hx hxg hxh hb hm
        unfold mv at HWi
        go_wp2_with fail
        refine (HWi.out _).mono ?_
        rintro e w3 ⟨rfl, hb3⟩
        have HT3 := Lib.hid (HT.out.then_below hb3)
        have HM3 := Lib.hid (HMw.out.below hb3 HMw.out.lt)
        have r0 := HM3.out.cell0
        have r1 := HM3.out.cell1
        have f0 := HM3.out.frozen 0
        have f1 := HM3.out.frozen 1
        clear hb3
        go_wp2
        go_roundw
        case rel =>
          refine ⟨k + 1, by omega, by go_num, Lib.hid (turn_sets HT3.out _ _), Lib.hid ?_⟩
          rw [← HMb.out]
          exact (HM3.out.set0 _).set1 _
        case measure => simp [intOf]; omega

    · obtain rfl : k = n0 := by omega
      have hm := HMr.out
      rw [HF.out] at hm
      have hr := HR1.out.turn HT.out (by omega)
      obtain ⟨⟨c0, c1', f0, f1⟩, e0', e1', hbE⟩ := mask_end (M := MF) hr ((Turn.of_below (S := fun i => i = s + 2) (HB.out.trans (HB1.out.mono HB.out.size))).trans HT.out (fun i hi => .inl hi) |>.below (Nat.le_refl _) (fun i hi => by have := HS.out; omega)) (by rw [HS.out]; omega)
      have m0 := hm.cell0
      have m1 := hm.cell1
      have HBE := Lib.hid hbE
      clear hm hr hbE
      go_wp2
      refine bodyPost_ret (v := .agg #[.int .u64 MF.1, .int .u64 MF.2]) (by simp [results, Try.results17, go_sem, e0', e1']) rfl ?_
      exact ⟨rfl, HBE.out⟩

set_option maxHeartbeats 4000000 in
theorem rMinus_any (m m2 : Mk) (w : World) (h : Fine m) (h2 : Fine m2) :
    Calls Try.prog 24 #[mv m, mv m2] w fun e w' => e = .returned (mv (mk fun k => has m k && !has m2 k)) ∧ Below w.heap.size w w' := by
  obtain ⟨s, hs⟩ : ∃ s, s = w.heap.size := ⟨_, rfl⟩
  obtain ⟨n0, hn0⟩ : ∃ n, n = (slots m).length := ⟨_, rfl⟩
  have hn96 : n0 ≤ 96 := by rw [hn0]; exact slotsTo_len m 96
  obtain ⟨W0, hW0⟩ : ∃ W0, W0 = (((w.alloc (.cells #[.int .u64 m.1, .int .u64 m.2] 25)).alloc (.cells #[.int .u64 m2.1, .int .u64 m2.2] 25)).alloc (.cells #[.int .u64 (0 : Nat), .int .u64 (0 : Nat)] 25)).alloc (.cells #[.int .u64 (0 : Nat), .int .u64 (0 : Nat)] 25) := ⟨_, rfl⟩
  have hB : Below w.heap.size w W0 := by rw [hW0]; exact ((((Below.refl _ w).alloc (Nat.le_refl _) _).alloc (by simp <;> omega) _).alloc (by simp <;> omega) _).alloc (by simp <;> omega) _
  have hM0 : MRow W0 (s + 0) m.1 m.2 := by
    rw [hW0, hs]
    have h2 := (MRow.new w m.1 m.2).below (B := w.heap.size + 1) (W' := (((w.alloc (.cells #[.int .u64 m.1, .int .u64 m.2] 25)).alloc (.cells #[.int .u64 m2.1, .int .u64 m2.2] 25)).alloc (.cells #[.int .u64 (0 : Nat), .int .u64 (0 : Nat)] 25)).alloc (.cells #[.int .u64 (0 : Nat), .int .u64 (0 : Nat)] 25)) ((((Below.refl _ _).alloc (by simp <;> omega) _).alloc (by simp <;> omega) _).alloc (by simp <;> omega) _) (by omega)
    simpa using h2
  have hM1 : MRow W0 (s + 1) m2.1 m2.2 := by
    rw [hW0, hs]
    have h2 := (MRow.new (w.alloc (.cells #[.int .u64 m.1, .int .u64 m.2] 25)) m2.1 m2.2).below (B := (w.alloc (.cells #[.int .u64 m.1, .int .u64 m.2] 25)).heap.size + 1) (W' := (((w.alloc (.cells #[.int .u64 m.1, .int .u64 m.2] 25)).alloc (.cells #[.int .u64 m2.1, .int .u64 m2.2] 25)).alloc (.cells #[.int .u64 (0 : Nat), .int .u64 (0 : Nat)] 25)).alloc (.cells #[.int .u64 (0 : Nat), .int .u64 (0 : Nat)] 25)) (((Below.refl _ _).alloc (by simp <;> omega) _).alloc (by simp <;> omega) _) (by omega)
    simpa using h2
  have hR : MRow W0 (s + 2) 0 0 := by
    rw [hW0, hs]
    have h2 := (MRow.new ((w.alloc (.cells #[.int .u64 m.1, .int .u64 m.2] 25)).alloc (.cells #[.int .u64 m2.1, .int .u64 m2.2] 25)) 0 0).below (B := ((w.alloc (.cells #[.int .u64 m.1, .int .u64 m.2] 25)).alloc (.cells #[.int .u64 m2.1, .int .u64 m2.2] 25)).heap.size + 1) (W' := (((w.alloc (.cells #[.int .u64 m.1, .int .u64 m.2] 25)).alloc (.cells #[.int .u64 m2.1, .int .u64 m2.2] 25)).alloc (.cells #[.int .u64 (0 : Nat), .int .u64 (0 : Nat)] 25)).alloc (.cells #[.int .u64 (0 : Nat), .int .u64 (0 : Nat)] 25)) ((Below.refl _ _).alloc (by simp) _) (by omega)
    simpa using h2
  have hm0 : MRow W0 (s + 3) 0 0 := by
    rw [hW0, hs]
    have h2 := MRow.new (((w.alloc (.cells #[.int .u64 m.1, .int .u64 m.2] 25)).alloc (.cells #[.int .u64 m2.1, .int .u64 m2.2] 25)).alloc (.cells #[.int .u64 (0 : Nat), .int .u64 (0 : Nat)] 25)) 0 0
    simpa using h2
  obtain ⟨pm, hpm⟩ : ∃ pm : Nat → Mk, ∀ j, pm j = mk (fun k => decide (k ∈ (slots m).take (j)) && !has m2 k) := ⟨_, fun _ => rfl⟩
  have hP0 : pm 0 = (0, 0) := by rw [hpm]; exact mk_none _ (fun k => by simp)
  have hF : pm n0 = mk (fun k => has m k && !has m2 k) := by
    rw [hpm]
    refine mk_congr (fun k hk => ?_)
    rw [hn0, List.take_length]
    congr 1
    rw [Bool.eq_iff_iff, decide_eq_true_iff, slots_mem]
  have hyes : ∀ (j x : Nat), (slots m)[j]? = some x → x < 96 → (!has m2 x) = true → ∀ W, Calls Try.prog 30 #[mv (pm j), .int .i64 x] W (fun e w' => e = .returned (mv (pm (j + 1))) ∧ Below W.heap.size W w') := by
    intro j x hx hx96 ht W
    rw [hpm, hpm]
    have := with_step (fun k => decide (k ∈ (slots m).take j) && !has m2 k) x hx96 W
    rw [show mk (fun k => (decide (k ∈ (slots m).take j) && !has m2 k) || decide (k = x)) = mk (fun k => decide (k ∈ (slots m).take (j + 1)) && !has m2 k) from ?_] at this
    · exact this
    · refine mk_congr (fun k hk => ?_)
      rw [Bool.eq_iff_iff]
      simp only [Bool.and_eq_true, Bool.or_eq_true, decide_eq_true_iff, take_mem_snoc hx]
      constructor
      · rintro (⟨h1, h2⟩ | h1)
        · exact ⟨.inl h1, h2⟩
        · subst h1; exact ⟨.inr rfl, ht⟩
      · rintro ⟨h1 | h1, h2⟩
        · exact .inl ⟨h1, h2⟩
        · exact .inr h1
  have hno : ∀ (j x : Nat), (slots m)[j]? = some x → (!has m2 x) = false → pm (j + 1) = pm j := by
    intro j x hx ht
    rw [hpm, hpm]
    refine mk_congr (fun k hk => ?_)
    rw [Bool.eq_iff_iff]
    simp only [Bool.and_eq_true, decide_eq_true_iff, take_mem_snoc hx]
    constructor
    · rintro ⟨h1 | h1, h2⟩
      · exact ⟨h1, h2⟩
      · subst h1; rw [ht] at h2; cases h2
    · rintro ⟨h1, h2⟩
      exact ⟨.inl h1, h2⟩
  have HYes := Lib.hid hyes
  have HNo := Lib.hid hno
  have HF := Lib.hid hF
  have HSl := Lib.hid (fun W => rSlots_any m W h)
  obtain ⟨MF, hMF⟩ : ∃ M, M = mk fun k => has m k && !has m2 k := ⟨_, rfl⟩
  rw [← hMF] at HF ⊢
  have HHas := Lib.hid (fun (x : Nat) (hx : x < 96) W => show Calls Try.prog 37 #[mv m2, .int .i64 x] W (fun e w' => e = .returned (.bool (has m2 x)) ∧ Below W.heap.size W w') from by
    have := rHas_any m2 x W h2 (by omega)
    rw [hasI_nat m2 hx] at this
    exact this)
  have HM0 := Lib.hid (show MRow W0 (s + 3) (pm 0).1 (pm 0).2 from by rw [hP0]; exact hm0)
  have HR := Lib.hid hR
  have HS := Lib.hid hs
  have HN := Lib.hid hn0
  have HZ := Lib.hid (show W0.heap.size = s + 4 from by rw [hW0, hs]; simp)
  have HW0 := Lib.hid hW0
  have HB := Lib.hid hB
  have HM0x := Lib.hid hM0
  have HM1x := Lib.hid hM1
  clear hMF hF hP0 hyes hno hpm hn0 hM0 hM1 hR hm0 hs hW0 hB
  unfold mv
  go_enter Try.func24, Try.ntmps24
  go_wp2_with fail
  refine (HSl.out _).mono ?_
  rintro e w1 ⟨A1, c1, rfl, ho1, hb1⟩
  rw [show (((w.alloc (.cells #[.int .u64 m.1, .int .u64 m.2] 25)).alloc (.cells #[.int .u64 m2.1, .int .u64 m2.2] 25)).alloc (.cells #[.int .u64 0, .int .u64 0] 25)).alloc (.cells #[.int .u64 0, .int .u64 0] 25) = W0 from HW0.out.symm] at ho1 hb1
  have HO1 := Lib.hid ho1
  have HB1 := Lib.hid hb1
  have HR1 := Lib.hid (HR.out.below hb1 HR.out.lt)
  have HM1 := Lib.hid (HM0.out.below hb1 HM0.out.lt)
  have HX0 := Lib.hid (HM0x.out.below hb1 HM0x.out.lt)
  have HX1 := Lib.hid (HM1x.out.below hb1 HM1x.out.lt)
  have hnc : n0 ≤ c1 := by have := ho1.slots.room; rw [slotsI_len, ← HN.out] at this; exact this
  have hcm : (c1 : Int) ≤ 9223372036854775807 := by have := ho1.slots.most; omega
  rw [← HN.out]
  clear ho1 hb1
  go_wp2
  rw [← HS.out]
  go_loopw [11] (fun i wr => ∃ (k : Nat), k ≤ n0 ∧ i = .int .i64 k ∧ Hid (Turn (fun i => i = s + 3) w1 wr) ∧ Hid (MRow wr (s + 3) (pm k).1 (pm k).2)) (fun i _ => n0 - (intOf i).toNat)
  case atStart => exact ⟨0, by omega, rfl, Lib.hid (Turn.refl _ _), HM1⟩
  case round =>
    obtain ⟨k, hk, rfl, HT, HMr⟩ := hrel
    by_cases hkn : k < n0
    · obtain ⟨x, hx, hxg, hx96, hxh⟩ := slotsI_get m (k := k) (by rw [← HN.out]; exact hkn)
      obtain ⟨b, o, rfl, hb, hcell⟩ := (HO1.out.turn HT.out (fun i hi e => by have := HZ.out; omega)).slots.at_ (j := k) (by rw [slotsI_len, ← HN.out]; exact hkn)
      rw [hxg] at hcell
      have k0 : (0 : Int) ≤ k := by omega
      have kn : (k : Int) < n0 := by omega
      have hm := HMr.out
      have hx1 := HX1.out.turn HT.out (by omega)
      have d0 := hx1.cell0
      have d1 := hx1.cell1
      have HHx := Lib.hid (fun W => HHas.out x hx96 W)
      clear hx1
      unfold mv at HHx
      cases hxn : has m2 x with
      | true =>
        rw [hxn] at HHx
        have HSt := Lib.hid (HNo.out k x hx (by simp [hxn]))
        clear hx hxg hxh hb hm hxn
        go_wp2_with fail
        refine (HHx.out _).mono ?_
        rintro e w2 ⟨rfl, hb2⟩
        have HT2 := Lib.hid (HT.out.then_below hb2)
        have HM2 := Lib.hid (HMr.out.below hb2 HMr.out.lt)
        clear hb2
        go_wp2
        go_roundw
        case rel => exact ⟨k + 1, by omega, by go_num, HT2, Lib.hid (by rw [HSt.out]; exact HM2.out)⟩
        case measure => simp [intOf]; omega
      | false =>
        rw [hxn] at HHx
        have HWi := Lib.hid (fun W => HYes.out k x hx hx96 (by simp [hxn]) W)
        obtain ⟨Ma, hMa⟩ : ∃ M, M = pm k := ⟨_, rfl⟩
        obtain ⟨Mb, hMb⟩ : ∃ M, M = pm (k + 1) := ⟨_, rfl⟩
        rw [← hMa, ← hMb] at HWi
        rw [← hMa] at hm
        have HMb := Lib.hid hMb
        clear hxn hMa hMb
        have HMr2 := Lib.hid hm
        clear hx hxg hxh hb hm
        unfold mv at HWi
        go_wp2_with fail
        refine (HHx.out _).mono ?_
        rintro e w2 ⟨rfl, hb2⟩
        have HT2 := Lib.hid (HT.out.then_below hb2)
        have HMw := Lib.hid (HMr2.out.below hb2 HMr2.out.lt)
        have c0 := HMw.out.cell0
        have c1' := HMw.out.cell1
        clear hb2
        go_wp2_with fail
        refine (HWi.out _).mono ?_
        rintro e w3 ⟨rfl, hb3⟩
        have HT3 := Lib.hid (HT2.out.then_below hb3)
        have HM3 := Lib.hid (HMw.out.below hb3 HMw.out.lt)
        have r0 := HM3.out.cell0
        have r1 := HM3.out.cell1
        have f0 := HM3.out.frozen 0
        have f1 := HM3.out.frozen 1
        clear hb3
        go_wp2
        go_roundw
        case rel =>
          refine ⟨k + 1, by omega, by go_num, Lib.hid (turn_sets HT3.out _ _), Lib.hid ?_⟩
          rw [← HMb.out]
          exact (HM3.out.set0 _).set1 _
        case measure => simp [intOf]; omega

    · obtain rfl : k = n0 := by omega
      have hm := HMr.out
      rw [HF.out] at hm
      have hr := HR1.out.turn HT.out (by omega)
      obtain ⟨⟨c0, c1', f0, f1⟩, e0', e1', hbE⟩ := mask_end (M := MF) hr ((Turn.of_below (S := fun i => i = s + 3) (HB.out.trans (HB1.out.mono HB.out.size))).trans HT.out (fun i hi => .inl hi) |>.below (Nat.le_refl _) (fun i hi => by have := HS.out; omega)) (by rw [HS.out]; omega)
      have m0 := hm.cell0
      have m1 := hm.cell1
      have HBE := Lib.hid hbE
      clear hm hr hbE
      go_wp2
      refine bodyPost_ret (v := .agg #[.int .u64 MF.1, .int .u64 MF.2]) (by simp [results, Try.results24, go_sem, e0', e1']) rfl ?_
      exact ⟨rfl, HBE.out⟩
end Go.Proofs.Ytkfgiedpnmpfgaa
