/-
  Proved: the law ArenaPacks, Packed answers what the document's does, returns true for all cells, and leaves all memory as it was. No condition.
-/
import Derived.Test.YtpdebkpblpipcaaLawFrame
import Derived.Test.YtpdebkpblpipcaaAreWith
import Derived.Test.YtpdebkpblpipcaaArePack
import Derived.Test.YtpdebkpblpipcaaAreSameR
import Derived.Deep.RegionHeld3
namespace Go.Proofs.Ytpdebkpblpipcaa.arenaPacks
open Go.ChangeShapes Go.WideShapes Go.ChangeAt Go.RowKit
set_option linter.unusedVariables false
set_option linter.unusedSimpArgs false
set_option maxRecDepth 100000

theorem pack_bad {l : List Ce} {k : Nat} {e : Ce} (hl : l.length ≤ 96) (h : l[k]? = some e) (he : soundE e = false) : packE l = 2 ∧ packL l = [] := by
  have hb : ¬ l.all soundE = true := by
    intro hh
    have := List.all_eq_true.1 hh e (List.mem_of_getElem? h)
    rw [he] at this
    cases this
  have h1 : packE l = 2 := by unfold packE; rw [if_neg (by omega), if_neg hb]
  exact ⟨h1, by unfold packL; rw [h1]; rfl⟩
/-- What is wanted when k cells are laid. -/
def wantL (l : List Ce) (k : Nat) : List Ce := l.take k ++ List.replicate (96 - k) zc
theorem want_length {l : List Ce} {k : Nat} (hl : l.length ≤ 96) (hk : k ≤ l.length) : (wantL l k).length = 96 := by simp [wantL]; omega
theorem want_step {l : List Ce} {k : Nat} {e : Ce} (hl : l.length ≤ 96) (h : l[k]? = some e) : (wantL l k).set k e = wantL l (k + 1) := by
  have hk : k < l.length := by
    rcases Nat.lt_or_ge k l.length with h' | h'
    · exact h'
    · rw [List.getElem?_eq_none h'] at h; cases h
  unfold wantL
  rw [List.take_add_one, h, show 96 - k = (96 - (k + 1)) + 1 by omega, List.replicate_succ]
  have ht : (l.take k).length = k := by simp; omega
  rw [List.set_append_right _ _ (by omega), ht, Nat.sub_self, List.set_cons_zero]
  simp
theorem want_done {l : List Ce} (h : ∀ (j : Nat) (e : Ce), j < l.length → l[j]? = some e → soundE e = true) (hl : l.length ≤ 96) : packE l = 0 ∧ packL l = wantL l l.length := by
  have ha : l.all soundE = true := List.all_eq_true.2 fun e he => by
    obtain ⟨j, hj, rfl⟩ := List.mem_iff_getElem.1 he
    exact h j _ hj (List.getElem?_eq_getElem hj)
  have h1 : packE l = 0 := by unfold packE; rw [if_neg (by omega), if_pos ha]
  exact ⟨h1, by unfold packL wantL; rw [if_pos h1, pad_all ha, List.take_length]⟩
/-- What lies in the box of what is wanted. -/
def WnI (w : World) (l : List Ce) (g5 : Nat) (k : Nat) (V wr : World) : Prop := ∃ A c q, Boxed wr g5 24 (.slice A 96 c) ∧ RowA w.heap.size wr A c q ∧ List.length q = 96 ∧ (∀ i, blk A = some i → i ≠ g5) ∧ ces q = wantL l k ∧ (∀ p ∈ q, Vec .i32 w p.B p.c p.e.x) ∧ (∀ p ∈ q, Fit p.e) ∧ Turn (fun i => i = g5) V wr
theorem WnI.below {w : World} {l : List Ce} {g5 k : Nat} {V wr X : World} (h : WnI w l g5 k V wr) (hX : Below wr.heap.size wr X) : WnI w l g5 k V X := by
  obtain ⟨A, c, q, h1, h2, h3, h4, h5, h6, h7, h8⟩ := h
  exact ⟨A, c, q, (hX.block _ h1.lt).trans h1, h2.turn (Turn.of_below (S := fun _ => False) hX) (fun _ _ e => e), h3, h4, h5, h6, h7, h8.trans (Turn.of_below (S := fun _ => False) hX) (by simp)⟩
/-- One more cell is laid. -/
theorem WnI.step {w : World} {l : List Ce} {g5 k : Nat} {V wr w5 : World} {A A5 : Option Addr} {c c5 : Nat} {q : List Pa} {p : Pa} (h1 : Boxed wr g5 24 (.slice A 96 c)) (h3 : List.length q = 96) (h5 : ces q = wantL l k) (h6 : ∀ r ∈ q, Vec .i32 w r.B r.c r.e.x) (h7 : ∀ r ∈ q, Fit r.e) (h8 : Turn (fun i => i = g5) V wr)
    (hw : w.heap.size ≤ wr.heap.size) (hr : RowA wr.heap.size w5 A5 c5 (q.set k p)) (hb : Below wr.heap.size wr w5) (hv : Vec .i32 w p.B p.c p.e.x) (hf : Fit p.e) (hl : l.length ≤ 96) (hk : l[k]? = some p.e) :
    w5.cell? ⟨g5, 0, none⟩ = some (.slice A 96 c) ∧ w5.frozen? ⟨g5, 0, none⟩ = false ∧ WnI w l g5 (k + 1) V (w5.setCell ⟨g5, 0, none⟩ (.slice A5 96 c5)) := by
  have hx : Boxed w5 g5 24 (.slice A 96 c) := (hb.block _ h1.lt).trans h1
  have hlt := h1.lt
  have hne : ∀ i, blk A5 = some i → i ≠ g5 := fun i hi => by have := (hr.lo i hi).1; omega
  refine ⟨hx.cell, hx.frozen, A5, c5, q.set k p, hx.set _, World.ownsRow.mono (hr.turn (turn_set _ g5 0 _) (fun i hi e => hne i hi e)) hw, by rw [List.length_set]; exact h3, hne, ?_, ?_, ?_, (h8.trans (Turn.of_below (S := fun _ => False) hb) (by simp)).trans (turn_set _ g5 0 _) (fun i hi => .inl hi)⟩
  · rw [ces_set, h5, want_step hl hk]
  · intro r hr
    rcases List.mem_or_eq_of_mem_set hr with hr | rfl
    · exact h6 r hr
    · exact hv
  · intro r hr
    rcases List.mem_or_eq_of_mem_set hr with hr | rfl
    · exact h7 r hr
    · exact hf

set_option maxHeartbeats 8000000 in
theorem walk {w : World} (A : Option Addr) (c : Nat) (q : List Pa) (H : Are w A c q) :
    Calls Try.prog 4 #[.slice A q.length c] w fun e w' => e = .returned (.bool true) ∧ Below w.heap.size w w' := by
  have HWk := Lib.hid (wakes_any w)
  have HOv := Lib.hid (fun (X : World) (hX : Below w.heap.size w X) => overC_any A c q X (H.below hX))
  have HPa := Lib.hid (fun (X : World) (hX : Below w.heap.size w X) => packed_any A c q X (H.below hX))
  have HH := Lib.hid H
  obtain ⟨l, hl⟩ : ∃ l, l = ces q := ⟨_, rfl⟩
  rw [← hl] at HOv HPa
  have HL := Lib.hid hl
  have hn0 : q.length = l.length := by rw [hl, ces_length]
  obtain ⟨n, hn⟩ : ∃ n, n = q.length := ⟨_, rfl⟩
  rw [← hn] at HOv HPa hn0 ⊢
  have HN := Lib.hid (And.intro hn hn0)
  have hnx : n ≤ 9223372036854775807 := by rw [hn]; exact H.many
  clear H hl hn hn0
  cases hov : overB l with
  | true =>
    rw [hov] at HOv
    clear hov
    go_enter Try.func4, Try.ntmps4
    go_wp2_with fail
    refine HWk.out.mono ?_
    rintro e w1 ⟨rfl, hb1⟩
    have HB1 := Lib.hid hb1
    clear hb1
    go_wp2_with fail
    refine (HOv.out w1 HB1.out).mono ?_
    rintro e w2 ⟨rfl, hb2⟩
    have HB2 := Lib.hid (HB1.out.trans (hb2.mono HB1.out.size))
    clear hb2
    go_wp2
    go_ret
    exact ⟨rfl, HB2.out⟩
  | false =>
    rw [hov] at HOv
    clear hov
    by_cases h96 : 96 < n
    · have hE : packE l = 6 := by unfold packE; rw [if_pos (by rw [← HN.out.2]; exact h96)]
      have hP : packL l = [] := by unfold packL; rw [hE]; rfl
      rw [hE, hP] at HPa
      have n96 : (96 : Int) < n := by omega
      clear h96 hE hP
      go_enter Try.func4, Try.ntmps4
      go_wp2_with fail
      refine HWk.out.mono ?_
      rintro e w1 ⟨rfl, hb1⟩
      have HB1 := Lib.hid hb1
      clear hb1
      go_wp2_with fail
      refine (HOv.out w1 HB1.out).mono ?_
      rintro e w2 ⟨rfl, hb2⟩
      have HB2 := Lib.hid (HB1.out.trans (hb2.mono HB1.out.size))
      clear hb2
      go_wp2_with fail
      refine (HPa.out w2 HB2.out).mono ?_
      rintro e w3 ⟨A3, c3, q3, rfl, hq3, ho3, hb3⟩
      have hl3 : q3.length = 0 := by rw [← ces_length, hq3]; rfl
      rw [hl3]
      have HB3 := Lib.hid (HB2.out.trans (hb3.mono HB2.out.size))
      have HB4 := Lib.hid (HB3.out.alloc HB3.out.size (.cells #[.slice A3 0 c3] 24))
      clear hq3 ho3 hb3 hl3
      go_wp2
      go_ret
      exact ⟨rfl, HB4.out⟩
    · have n96 : decide ((96 : Int) < n) = false := by simp; omega
      have HN96 := Lib.hid (show l.length ≤ 96 by have := HN.out.2; omega)
      obtain ⟨E, hE⟩ : ∃ E, E = packE l := ⟨_, rfl⟩
      rw [← hE] at HPa
      have HE := Lib.hid hE
      have hm96 : n ≤ 96 := by omega
      clear h96 hE
      go_enter Try.func4, Try.ntmps4
      go_wp2_with fail
      refine HWk.out.mono ?_
      rintro e w1 ⟨rfl, hb1⟩
      have HB1 := Lib.hid hb1
      clear hb1
      go_wp2_with fail
      refine (HOv.out w1 HB1.out).mono ?_
      rintro e w2 ⟨rfl, hb2⟩
      have HB2 := Lib.hid (HB1.out.trans (hb2.mono HB1.out.size))
      clear hb2
      go_wp2_with fail
      refine (HPa.out w2 HB2.out).mono ?_
      rintro e w3 ⟨A3, c3, q3, rfl, hq3, ho3, hb3⟩
      have HB3 := Lib.hid (HB2.out.trans (hb3.mono HB2.out.size))
      obtain ⟨m3, hm3⟩ : ∃ m3, m3 = q3.length := ⟨_, rfl⟩
      rw [← hm3]
      obtain ⟨V, hV⟩ : ∃ V, V = w3.alloc (.cells #[.slice A3 m3 c3] 24) := ⟨_, rfl⟩
      have hbV : Below w3.heap.size w3 V := by rw [hV]; exact (Below.refl _ w3).alloc (Nat.le_refl _) _
      have hxV : Boxed V w3.heap.size 24 (.slice A3 m3 c3) := by rw [hV]; exact Boxed.new w3 _ _
      have hzV : V.heap.size = w3.heap.size + 1 := by rw [hV]; simp
      have HQ3 := Lib.hid (And.intro hq3 (And.intro ho3.are hm3))
      have HXV := Lib.hid hxV
      have HBV := Lib.hid hbV
      have HZV := Lib.hid hzV
      have HV := Lib.hid hV
      have HNw := Lib.hid (rNewA_any V)
      clear hb3 hq3 ho3 hm3 hV hbV hxV hzV
      go_wp2_with (first | (rw [← HV.out]) | (go_at_call 16; refine HNw.out.mono ?_; rintro e w4 ⟨g, q4, rfl, hq4, hl4, ho4, hb4⟩; have HO4 := Lib.hid ho4; have HQ4 := Lib.hid (And.intro hq4 hl4); have HB4 := Lib.hid hb4; clear hq4 hl4 ho4 hb4))
      obtain ⟨g5, hg5⟩ : ∃ g5, g5 = w4.heap.size := ⟨_, rfl⟩
      obtain ⟨V5, hV5⟩ : ∃ V5, V5 = w4.alloc (.cells #[.slice (some ⟨g, 0, none⟩) 96 96] 24) := ⟨_, rfl⟩
      have hb5 : Below w4.heap.size w4 V5 := by rw [hV5]; exact (Below.refl _ w4).alloc (Nat.le_refl _) _
      have hx5 : Boxed V5 g5 24 (.slice (some ⟨g, 0, none⟩) 96 96) := by rw [hV5, hg5]; exact Boxed.new w4 _ _
      have HBw3 := HB3.out.trans (HBV.out.mono HB3.out.size)
      have HBw5 := Lib.hid (HBw3.trans ((HB4.out.trans (hb5.mono HB4.out.size)).mono HBw3.size))
      have HBV5 := Lib.hid (HB4.out.trans (hb5.mono HB4.out.size))
      have HG5 := Lib.hid (show w.heap.size ≤ g5 ∧ w3.heap.size < g5 from by have h1 := HBw3.size; have h2 := HB4.out.size; have h3 := HZV.out; omega)
      have HX3 := Lib.hid (show Boxed V5 w3.heap.size 24 (.slice A3 m3 c3) from (hb5.block _ (Nat.lt_of_lt_of_le HXV.out.lt HB4.out.size)).trans ((HB4.out.block _ HXV.out.lt).trans HXV.out))
      have HI0 := Lib.hid (show WnI w l g5 0 V5 V5 from by
        have hlo := (HO4.out.lo).2
        refine ⟨some ⟨g, 0, none⟩, 96, q4, hx5, ?_, HQ4.out.2, fun i hi e => ?_, ?_, fun p hp => ?_, HO4.out.fit, Turn.refl _ _⟩
        · have hr := HO4.out.row
          rw [HQ4.out.2] at hr
          have : RowA V.heap.size w4 (some ⟨g, 0, none⟩) 96 q4 := by unfold RowA; rw [HQ4.out.2]; exact hr
          exact World.ownsRow.mono (this.turn (Turn.of_below (S := fun _ => False) hb5) (fun _ _ e => e)) HBw3.size
        · have e2 : g = i := by simpa [blk] using hi
          omega
        · rw [HQ4.out.1]; simp [wantL]
        · have he : p.e = zc := List.eq_of_mem_replicate (show p.e ∈ List.replicate 96 zc by rw [← HQ4.out.1]; exact List.mem_map.2 ⟨p, hp, rfl⟩)
          exact vec_empty (HO4.out.el p hp).vec (by rw [he]; rfl))
      have HV5 := Lib.hid hV5
      rw [← hg5]
      clear hV5 hb5 hx5 HBw3 hg5 HO4 HQ4
      go_wp2_with (rw [← HV5.out])
      go_loopw [31] (fun i wr => ∃ k : Nat, k ≤ n ∧ i = .int .i64 k ∧ Hid (∀ (j : Nat) (e : Ce), j < k → l[j]? = some e → soundE e = true) ∧ Hid (WnI w l g5 k V5 wr)) (fun i _ => n - (intOf i).toNat)
      case atStart => exact ⟨0, Nat.zero_le _, rfl, Lib.hid (fun j e hj => absurd hj (by omega)), HI0⟩
      case round =>
        obtain ⟨k, hk, rfl, HSk, HI⟩ := hrel
        have HBwr := Lib.hid (show Below w.heap.size w wr from by
          obtain ⟨A2, c2, q2, h1, h2, h3, h4, h5, h6, h7, h8⟩ := HI.out
          exact HBw5.out.trans (h8.below HBw5.out.size (fun i hi => by have := HG5.out.1; omega)))
        have HX3r := Lib.hid (show Boxed wr w3.heap.size 24 (.slice A3 m3 c3) from by
          obtain ⟨A2, c2, q2, h1, h2, h3, h4, h5, h6, h7, h8⟩ := HI.out
          exact (h8.block _ HX3.out.lt (fun e => by have := HG5.out.2; omega)).trans HX3.out)
        by_cases hkn : k < n
        · obtain ⟨b, o, p, e1, hp, hb, a0, a1, a2, a3, a4, hv, hf⟩ := (HH.out.below HBwr.out).at_ (i := k) (by rw [← HN.out.1]; exact hkn)
          obtain ⟨b2, o2, p2, e2, hp2, _, _, _, _, _, _, hvw, _⟩ := HH.out.at_ (i := k) (by rw [← HN.out.1]; exact hkn)
          obtain rfl : p = p2 := Option.some.inj (hp.symm.trans hp2)
          clear e2
          subst e1
          have hlk : l[k]? = some p.e := by rw [HL.out]; exact ces_at hp
          have k0 : (0 : Int) ≤ k := by omega
          have kn : (k : Int) < n := by omega
          have HLk := Lib.hid hlk
          have HVw := Lib.hid (And.intro hvw hf)
          obtain ⟨W1, hW1⟩ : ∃ W1, W1 = wr.alloc (.cells #[.bool p.e.u, .int .u64 p.e.i, .int .u64 p.e.b, .int .u64 p.e.f, .slice p.B p.e.x.length p.c] 45) := ⟨_, rfl⟩
          have hb1 : Below wr.heap.size wr W1 := by rw [hW1]; exact (Below.refl _ wr).alloc (Nat.le_refl _) _
          have hce : W1.heap[wr.heap.size]? = some (.cells #[.bool p.e.u, .int .u64 p.e.i, .int .u64 p.e.b, .int .u64 p.e.f, .slice p.B p.e.x.length p.c] 45 (0, 0)) := by rw [hW1]; exact heap_alloc_new _ _
          have HB1r := Lib.hid hb1
          have HCs := Lib.hid (fun (X : World) (hX : Below W1.heap.size W1 X) => show X.cell? ⟨wr.heap.size, 0, none⟩ = some (.bool p.e.u) ∧ X.cell? ⟨wr.heap.size, 1, none⟩ = some (.int .u64 p.e.i) ∧ X.cell? ⟨wr.heap.size, 2, none⟩ = some (.int .u64 p.e.b) ∧ X.cell? ⟨wr.heap.size, 3, none⟩ = some (.int .u64 p.e.f) ∧ X.cell? ⟨wr.heap.size, 4, none⟩ = some (.slice p.B p.e.x.length p.c) from by
            have e1 := (hX.block _ (lt_of_block hce)).trans hce
            exact ⟨(cell_of_row _ _ 0 _ _ _ e1).trans rfl, (cell_of_row _ _ 1 _ _ _ e1).trans rfl, (cell_of_row _ _ 2 _ _ _ e1).trans rfl, (cell_of_row _ _ 3 _ _ _ e1).trans rfl, (cell_of_row _ _ 4 _ _ _ e1).trans rfl⟩)
          have HX3s := Lib.hid (fun (X : World) (hX : Below W1.heap.size W1 X) => show X.cell? ⟨w3.heap.size, 0, none⟩ = some (.slice A3 m3 c3) from Boxed.cell ((hX.block _ (Nat.lt_of_lt_of_le HX3r.out.lt hb1.size)).trans ((hb1.block _ HX3r.out.lt).trans HX3r.out)))
          have HRc := Lib.hid (rCell_any p W1 (hv.below hb1) hf)
          have HW1 := Lib.hid hW1
          obtain ⟨u0, u1, u2, u3, u4⟩ := HCs.out W1 (Below.refl _ _)
          have x3 := HX3s.out W1 (Below.refl _ _)
          have HBad := Lib.hid (fun (hs : soundE p.e = false) => show E = 2 ∧ m3 = 0 from by
            obtain ⟨g1, g2⟩ := pack_bad HN96.out HLk.out hs
            refine ⟨HE.out.trans g1, ?_⟩
            rw [HQ3.out.2.2, ← ces_length, HQ3.out.1, g2]; rfl)
          clear hp hp2 hv hvw hf hb hlk hW1 hb1 hce
          cases hu : p.e.u with
          | false =>
            obtain ⟨hE2, hm0⟩ := HBad.out (by unfold soundE; rw [hu]; rfl)
            subst hE2 hm0
            rw [hu] at a0 u0 HW1
            have HFin := Lib.hid (HBwr.out.trans (HB1r.out.mono HBwr.out.size))
            clear hu
            go_wp2_with (rw [← HW1.out])
            go_ret
            exact ⟨rfl, HFin.out⟩
          | true =>
            rw [hu] at a0 u0 HW1 HRc HCs
            cases hm : mayE p.e with
            | false =>
              obtain ⟨hE2, hm0⟩ := HBad.out (by
                cases hs : soundE p.e with
                | false => rfl
                | true => rw [sound_may hs] at hm; cases hm)
              subst hE2 hm0
              rw [hm] at HRc
              clear hu hm
              go_wp2_with (first | (rw [← HW1.out]) | (go_at_call 24; refine HRc.out.mono ?_; rintro e w6 ⟨rfl, hb6⟩; have HB6 := Lib.hid (HBwr.out.trans ((HB1r.out.trans (hb6.mono HB1r.out.size)).mono HBwr.out.size)); have x6 := HX3s.out w6 hb6; clear hb6))
              go_ret
              exact ⟨rfl, HB6.out⟩
            | true =>
              have HSd := Lib.hid (may_used hm hu)
              rw [hm] at HRc
              clear hm
              go_wp2_with (first
                | (rw [← HW1.out])
                | (go_at_call 24; refine HRc.out.mono ?_; rintro e w6 ⟨rfl, hb6⟩; have HB6 := Lib.hid (HB1r.out.trans (hb6.mono HB1r.out.size)); obtain ⟨z0, z1, z2, z3, z4⟩ := HCs.out w6 hb6; obtain ⟨A2, c2, q2, h1, h2, h3, h4, h5, h6, h7, h8⟩ := HI.out.below HB6.out; have x5 := h1.cell; have HWi := Lib.hid (rWith_any A2 c2 q2 k p w6 (h2.are h6 h7 (HBwr.out.trans (HB6.out.mono HBwr.out.size))) (by omega) (by omega)); have HI6 := Lib.hid (And.intro h1 (And.intro h3 (And.intro h5 (And.intro h6 (And.intro h7 h8))))); rw [h3, hu] at HWi; clear hb6 h1 h2 h3 h4 h5 h6 h7 h8 hu)
                | (go_at_call 25; refine HWi.out.mono ?_; rintro e w7 ⟨A7, c7, rfl, hr7, hb7⟩; obtain ⟨x7, f7, hI7⟩ := WnI.step HI6.out.1 HI6.out.2.1 HI6.out.2.2.1 HI6.out.2.2.2.1 HI6.out.2.2.2.2.1 HI6.out.2.2.2.2.2 (Nat.le_trans HBwr.out.size HB6.out.size) hr7 hb7 HVw.out.1 HVw.out.2 HN96.out HLk.out; have HI7 := Lib.hid hI7; clear hr7 hb7 hI7))
              go_roundw
              case rel => exact ⟨k + 1, by omega, by go_num, Lib.hid (fun j e hj he => by
                by_cases hjk : j < k
                · exact HSk.out j e hjk he
                · obtain rfl : j = k := by omega
                  rw [HLk.out] at he
                  injection he with he
                  rw [← he]; exact HSd.out), HI7⟩
              case measure => simp [intOf]; omega
        · obtain rfl : k = n := by omega
          obtain ⟨hd1, hd2⟩ := want_done (fun j e hj he => HSk.out j e (by rw [HN.out.2]; exact hj) he) HN96.out
          obtain rfl : E = 0 := HE.out.trans hd1
          obtain ⟨A2, c2, q2, h1, h2, h3, h4, h5, h6, h7, h8⟩ := HI.out
          have HSa := Lib.hid (rSameA_any A3 A2 c3 c2 q3 q2 wr (HQ3.out.2.1.below (HBV.out.trans ((HBV5.out.trans (h8.below HBV5.out.size (fun i hi => by have := HG5.out.2; have := HZV.out; omega))).mono HBV.out.size))) (h2.are h6 h7 HBwr.out))
          rw [HQ3.out.1, hd2, h5, HN.out.2, decide_eq_true rfl, ← HQ3.out.2.2, h3] at HSa
          have x5 := h1.cell
          have x3 := HX3r.out.cell
          clear h1 h2 h3 h4 h5 h6 h7 h8 hd1 hd2
          go_wp2_with fail
          refine HSa.out.mono ?_
          rintro e w9 ⟨rfl, hb9⟩
          have HB9 := Lib.hid (HBwr.out.trans (hb9.mono HBwr.out.size))
          clear hb9
          go_wp2
          go_ret
          exact ⟨rfl, HB9.out⟩

set_option maxRecDepth 100000 in
theorem lifted (os : Os) (started : os.Started) (H : Type) (enc : TypeId × Value → H) :
    ReturnsInHanded {} Try.checked os 4 .any (Rows.arenaPacksSpec.pre6 enc Try.prog Try.f4 Rows.arenaPacksRow.domain false) (Rows.arenaPacksSpec.post enc Try.prog Try.f4 false true false false) := by
  refine returnsInHanded_of_change (C := Try.checked) Try.own started (by kernel_rfl) Try.func4
    (ChangeSpec.witness6 (enc := enc) (C := Try.checked) false ⟨#[], #[.slice none 0 0], []⟩ 8 (by kernel_rfl) (by kernel_rfl) (by kernel_rfl) (by kernel_rfl)) ?_
  intro W base args ds gs before hval0 hW hcnd _
  have hval : ∀ (j : Nat) t v, Try.f4.params[j]? = some t → args[j]? = some v → Value.okWide Try.prog W .any base t v := hval0
  have hW' := hW
  obtain ⟨p, q, hA0, hV, rfl, hfz, hnd⟩ := hW
  have hA : DataW.TrodAll enc Try.prog W 0 (fun _ => true) true Try.f4.params.toList args.toList ds p := hA0
  rw [Try.params4] at hA hval
  have hA' := hA
  obtain ⟨v0, vs0, d0, ds0, p0, q0, hargs, rfl, rfl, h0, r0⟩ := trodAll_cons hA
  obtain ⟨rfl, rfl, rfl⟩ := trodAll_nil r0
  obtain rfl : args = #[v0] := by cases args; simp_all
  obtain ⟨rfl, rfl⟩ := trodVars_none hV
  obtain ⟨A0, len0, c0, rfl⟩ := okWide_slice Try.underlying22 (hval 0 22 v0 rfl rfl)
  obtain ⟨z0, rfl, sl0⟩ := open_cells h0
  clear hA0 hval0
  refine (walk A0 c0 z0 sl0).mono fun e W' ⟨he, bel⟩ => ?_
  subst he
  exact ⟨_, rfl, _, _, _, [], _, [], hW', trodAll_mk1 (shut_bool Try.underlying4 _), trodAll_below bel _ _ _ _ (by kernel_rfl) hA', rfl, bel.frame _, fun h => by cases h⟩

theorem proved : Rows.ArenaPacksSaid :=
  OpenClaim.holds_of_wide 4 Try.f4 rfl rfl rfl rfl rfl rfl rfl ⟨rfl, rfl, rfl, rfl, rfl⟩ rfl rfl rfl rfl rfl (by kernel_rfl) Try.func4 (by kernel_rfl)
    (of_decide_eq_true (by kernel_rfl)) (by unfold Func.isWrapper; first | (rw [if_pos (by decide +kernel)]; kernel_rfl) | (rw [if_neg (by decide +kernel)]; exact ⟨rfl, rfl⟩))
    (fun os started H enc _ => lifted os started H enc)
#print axioms proved
end Go.Proofs.Ytpdebkpblpipcaa.arenaPacks
