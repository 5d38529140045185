/-
  Proved: the law FieldLays, which numbers fit and their fields behind whatever bytes are as the document says, and what was handed in stays, returns true for all bytes b, every size and every number x, and leaves all memory as it was. No condition.
-/
import Derived.Test.YtnpmdbcijaanjaaLawFrame
import Derived.Test.YtnpmdbcijaanjaaFieldWakes
import Derived.Test.YtnpmdbcijaanjaaRefOne
namespace Go.Proofs.Ytnpmdbcijaanjaa.fieldLays
open Go.ChangeShapes Go.WideShapes Go.ChangeAt Go.RowKit
set_option linter.unusedVariables false

theorem walk_out (A : Option Addr) (l c : Nat) (n x : Int) (w : World) (h : 5000 < l) :
    Calls Try.prog 3 #[.slice A l c, .int .i64 n, .int .u64 x] w fun e w' => e = .returned (.bool true) ∧ Below w.heap.size w w' := by
  have h1' : (5000 : Int) < (l : Int) := by omega
  go_enter Try.func3, Try.ntmps3
  go_wp2_with (go_at_call 10; refine (wakes_any w).mono ?_; rintro e w1 ⟨rfl, hb1⟩)
  go_ret
  exact ⟨rfl, hb1⟩

/-- The nine numbers behind the bytes. -/
def nine : List Int := [1, 2, 3, 4, 5, 6, 7, 8, 9]
theorem nine_at (bs : List Int) (k : Nat) (h : k < 9) : (bs ++ nine).getD (bs.length + k) 0 = (k : Int) + 1 := by
  have : k = 0 ∨ k = 1 ∨ k = 2 ∨ k = 3 ∨ k = 4 ∨ k = 5 ∨ k = 6 ∨ k = 7 ∨ k = 8 := by omega
  unfold List.getD
  rw [List.getElem?_append_right (by omega), show bs.length + k - bs.length = k by omega]
  rcases this with rfl | rfl | rfl | rfl | rfl | rfl | rfl | rfl | rfl <;> rfl

theorem grown_below {B : Nat} {w w' : World} (h : w.grownBy w' none) : Below w.heap.size w w' := ⟨h.os, h.tape, h.output, h.size, fun k hk => h.block k hk (by simp)⟩
theorem Sl.drewN {w : World} {A : Option Addr} {c : Nat} {bs : List Int} (h : Sl w A c bs) (q : Nat) : Sl (w.drewN q) A c bs := ⟨h.room, h.most, h.rd⟩
theorem Sl.first {w : World} {A : Option Addr} {c : Nat} {bs cs : List Int} (h : Sl w A c (bs ++ cs)) : Sl w A c bs := by
  refine ⟨by have := h.room; simp at this; omega, h.most, ?_⟩
  have := h.rd.take bs.length
  simpa using this

/-- What the first two statements leave: a copy of the bytes, and the bytes with nine more behind them. -/
def Ready (w1 : World) (bs : List Int) (A2 A5 : Option Addr) (c2 c5 : Nat) (w5 : World) : Prop :=
  Sl w5 A2 c2 bs ∧ Sl w5 A5 c5 (bs ++ nine) ∧ Below w1.heap.size w1 w5

set_option maxHeartbeats 2000000 in
set_option maxRecDepth 100000 in
theorem walk_rows (A : Option Addr) (c : Nat) (bs : List Int) (n x x1 : Int) (w : World) (hs : Sl w A c bs) (hl : bs.length ≤ 5000) (hx : 0 ≤ x) (hx2 : x < 18446744073709551616) (hxw : wrap64 x = x1)
    (bx : -9223372036854775808 ≤ x1) (bx2 : x1 < 9223372036854775808) :
    Calls Try.prog 3 #[.slice A bs.length c, .int .i64 n, .int .u64 x] w fun e w' => e = .returned (.bool true) ∧ Below w.heap.size w w' := by
  obtain ⟨i0, hi, hz0, hz1, hz2⟩ := info_parts info5
  have d1 : decide ((5000 : Int) < (bs.length : Int)) = false := by simp; omega
  have HS := Lib.hid hs
  obtain ⟨l, el⟩ : ∃ l, l = bs.length := ⟨_, rfl⟩
  rw [← el] at hl d1 ⊢
  have HL := Lib.hid el
  clear hs el
  go_enter Try.func3, Try.ntmps3
  go_wp2_with fail
  refine (wakes_any w).mono ?_
  rintro e w1 ⟨rfl, hb1⟩
  have HB1 := Lib.hid hb1
  have HS1 := Lib.hid (HS.out.below hb1)
  clear hb1
  go_wp2_with (first
    | (at_builtin; refine app_b rfl (.tmp 18) (.tmp 19) rfl w1.heap.size (.slice (some ⟨w1.heap.size, 0, none⟩) 0 0) 0 [] rfl (World.ownsRow_made w1 #[] 0 (Nat.le_refl _) (Nat.zero_le _) rfl) A c l bs rfl HL.out.symm ((HS1.out.alloc _).rd) (by omega) (by simp) ?_; intro v2 w2 hown2 hg2; have hb2 : Below w1.heap.size w1 w2 := ((Below.refl _ w1).alloc (Nat.le_refl _) _).grown hg2 (by simp) (by intro k hk; simp [Value.ownBlock] at hk; omega); simp only [Nat.zero_add, List.nil_append] at hown2; obtain ⟨A2, c2, rfl, _, _⟩ := own_form hown2; have HO2 := Lib.hid hown2; have HB2 := Lib.hid hb2; clear hown2 hg2 hb2)
    | (refine wpList_make_own _ rfl (.const (.int .i64 0)) (.tmp 23) 22 rfl w2.heap.size 5 i0 (.int .u8 0) 1 Try.underlying22 hi hz0 hz1 .i64 .i64 ((l : Int) + 20) (l + 20) rfl rfl (by omega) (by rw [hz2]; omega) (by unfold maxLen; omega) (Nat.le_refl _) ?_; intro w3 hown3 hg3; have HO3 := Lib.hid hown3; have HB3 := Lib.hid (grown_below (B := 0) hg3); clear hown3 hg3)
    | (at_builtin; refine app_b rfl (.tmp 24) (.tmp 25) rfl w2.heap.size (.slice (some ⟨w2.heap.size, 0, none⟩) 0 (l + 20)) 0 [] rfl HO3.out A c l bs rfl HL.out.symm ((((HS1.out.below HB2.out).below HB3.out)).rd) (by omega) HB3.out.size ?_; intro v4 w4 hown4 hg4; have hb4 : Below w2.heap.size w3 w4 := (Below.refl _ w3).grown hg4 HB3.out.size (by intro k hk; simp [Value.ownBlock] at hk; omega); simp only [Nat.zero_add, List.nil_append] at hown4; have HO4 := Lib.hid hown4; have HB4 := Lib.hid hb4; clear hown4 hg4 hb4)
    | (at_builtin; refine app_b rfl (.tmp 26) (.tmp 27) rfl w2.heap.size v4 l (bs.map (Value.int .u8)) rfl (HO4.out.alloc _) (some ⟨w4.heap.size, 0, none⟩) 9 9 nine rfl rfl ?hrd (by omega) ?hsz ?_))
  case hrd =>
    intro _
    refine ⟨w4.heap.size, 0, rfl, by simp, fun j hj => ?_⟩
    rw [Nat.zero_add, cell_new]
    have hj9 : j < 9 := hj
    have : j = 0 ∨ j = 1 ∨ j = 2 ∨ j = 3 ∨ j = 4 ∨ j = 5 ∨ j = 6 ∨ j = 7 ∨ j = 8 := by omega
    rcases this with rfl | rfl | rfl | rfl | rfl | rfl | rfl | rfl | rfl <;> rfl
  case hsz => have h1 := HB3.out.size; have h2 := HB4.out.size; simp; omega
  intro v5 w5 hown5 hg5
  have hb5 : Below w2.heap.size w4 w5 := ((Below.refl _ w4).alloc (by have h1 := HB3.out.size; have h2 := HB4.out.size; omega) _).grown hg5 (by have h1 := HB3.out.size; have h2 := HB4.out.size; simp; omega) (fun k hk => (World.ownsRow.lt HO4.out k hk).1)
  rw [← List.map_append] at hown5
  obtain ⟨A5, c5, rfl, _, _⟩ := own_form hown5
  have hb25 : Below w2.heap.size w2 w5 := ((HB3.out.trans HB4.out).trans hb5)
  have HR : Hid (Ready w1 bs A2 A5 c2 c5 w5) := by
    refine ⟨?_, ?_, HB2.out.trans (hb25.mono HB2.out.size)⟩
    · have h : New w1.heap.size w2 A2 c2 bs := by
        have := HO2.out
        unfold New
        rw [← HL.out]
        exact this
      exact h.sl.below hb25
    · have h : New w2.heap.size w5 A5 c5 (bs ++ nine) := by
        unfold New
        rw [List.length_append, ← HL.out]
        exact hown5
      exact h.sl
  clear hown5 hg5 hb5 hb25 HO2 HO3 HO4 HB2 HB3 HB4 HS1
  have HB5 := Lib.hid (HB1.out.trans (HR.out.2.2.mono HB1.out.size))
  have HW := Lib.hid HR.out.1
  have HRm := Lib.hid HR.out.2.1
  have hc5 := HRm.out.room
  have hc5' : l + 9 ≤ c5 := by rw [List.length_append, ← HL.out] at hc5; exact hc5
  have hm5 := HRm.out.most
  clear hc5 HR HB1
  go_wp2_with fail
  obtain ⟨P, hP⟩ : ∃ P, P = bs ++ fldOf n x := ⟨_, rfl⟩
  obtain ⟨L, hLL⟩ : ∃ L, L = bs ++ fldOf n (unsg x1) := ⟨_, rfl⟩
  have EP := Lib.hid hP
  have EL := Lib.hid hLL
  clear hP hLL
  have HC := Lib.hid (Sl.first HRm.out)
  have k := put_b A5 c5 bs n x w5 HC.out (by rw [← HL.out]; omega) hx hx2
  rw [← HL.out, ← EP.out] at k
  refine k.mono ?_
  clear k
  rintro e w6 ⟨A6, c6, rfl, hn6, hb6⟩
  have HB6 := Lib.hid (HB5.out.trans (hb6.mono HB5.out.size))
  have HW6 := Lib.hid (HW.out.below hb6)
  have HR6 := Lib.hid (HRm.out.below hb6)
  have HP6 := Lib.hid hn6.sl
  clear hn6 hb6 HB5 HW HRm HC
  go_wp2_with fail
  have HC := Lib.hid (Sl.first HR6.out)
  have k := lay_b A5 c5 bs n x1 w6 HC.out (by rw [← HL.out]; omega)
  rw [← HL.out, ← EL.out] at k
  refine k.mono ?_
  clear k
  rintro e w7 ⟨A7, c7, rfl, hn7, hb7⟩
  have HB7 := Lib.hid (HB6.out.trans (hb7.mono HB6.out.size))
  have HW7 := Lib.hid (HW6.out.below hb7)
  have HR7 := Lib.hid (HR6.out.below hb7)
  have HP7 := Lib.hid (HP6.out.below hb7)
  have HL7 := Lib.hid hn7.sl
  clear hn7 hb7 HB6 HW6 HR6 HP6 HC
  go_wp2_with fail
  have k := rPut_b A2 c2 bs n x w7 HW7.out (by rw [← HL.out]; omega) hx hx2
  rw [← HL.out, ← EP.out] at k
  refine k.mono ?_
  clear k
  rintro e w8 ⟨A8, c8, rfl, hn8, hb8⟩
  have HB8 := Lib.hid (HB7.out.trans (hb8.mono HB7.out.size))
  have HW8 := Lib.hid (HW7.out.below hb8)
  have HR8 := Lib.hid (HR7.out.below hb8)
  have HP8 := Lib.hid (HP7.out.below hb8)
  have HL8 := Lib.hid (HL7.out.below hb8)
  have HQ8 := Lib.hid hn8.sl
  clear hn8 hb8 HB7 HW7 HR7 HP7 HL7
  go_wp2_with fail
  refine (same_b A6 A8 c6 c8 P w8 HP8.out HQ8.out).mono ?_
  rintro e w9 ⟨rfl, q9, hq9⟩
  have HB9 := Lib.hid (show Below w.heap.size w w9 by rw [hq9]; exact below_drewN HB8.out q9)
  have HW9 := Lib.hid (show Sl w9 A2 c2 bs by rw [hq9]; exact Sl.drewN HW8.out q9)
  have HR9 := Lib.hid (show Sl w9 A5 c5 (bs ++ nine) by rw [hq9]; exact Sl.drewN HR8.out q9)
  have HL9 := Lib.hid (show Sl w9 A7 c7 L by rw [hq9]; exact Sl.drewN HL8.out q9)
  clear hq9 HB8 HW8 HR8 HP8 HL8 HQ8
  go_wp2_with fail
  have k := rLay_b A2 c2 bs n x1 w9 HW9.out (by rw [← HL.out]; omega)
  rw [← HL.out, ← EL.out] at k
  refine k.mono ?_
  clear k
  rintro e w10 ⟨A10, c10, rfl, hn10, hb10⟩
  have HB10 := Lib.hid (HB9.out.trans (hb10.mono HB9.out.size))
  have HW10 := Lib.hid (HW9.out.below hb10)
  have HR10 := Lib.hid (HR9.out.below hb10)
  have HL10 := Lib.hid (HL9.out.below hb10)
  have HQ10 := Lib.hid hn10.sl
  clear hn10 hb10 HB9 HW9 HR9 HL9
  go_wp2_with fail
  refine (same_b A7 A10 c7 c10 L w10 HL10.out HQ10.out).mono ?_
  rintro e w11 ⟨rfl, q11, hq11⟩
  have HB11 := Lib.hid (show Below w.heap.size w w11 by rw [hq11]; exact below_drewN HB10.out q11)
  have HW11 := Lib.hid (show Sl w11 A2 c2 bs by rw [hq11]; exact Sl.drewN HW10.out q11)
  have HR11 := Lib.hid (show Sl w11 A5 c5 (bs ++ nine) by rw [hq11]; exact Sl.drewN HR10.out q11)
  clear hq11 HB10 HW10 HR10 HL10 HQ10
  go_wp2_with fail
  have k := same_b A A2 c c2 bs w11 (HS.out.below HB11.out) HW11.out
  rw [← HL.out] at k
  refine k.mono ?_
  clear k
  rintro e w12 ⟨rfl, q12, hq12⟩
  have HB12 := Lib.hid (show Below w.heap.size w w12 by rw [hq12]; exact below_drewN HB11.out q12)
  have HR12 := Lib.hid (show Sl w12 A5 c5 (bs ++ nine) by rw [hq12]; exact Sl.drewN HR11.out q12)
  clear hq12 HB11 HW11 HR11
  obtain ⟨b, o, rfl, _, hcell⟩ := HR12.out.rd (by rw [List.length_append]; show 0 < _ + 9; omega)
  have HCell := Lib.hid hcell
  clear hcell HR12
  go_wp2_with fail
  go_loop [65] (fun i => ∃ k : Nat, k ≤ 9 ∧ i = .int .i64 k) (fun i => 9 - (intOf i).toNat)
  case atStart => exact ⟨0, by omega, rfl⟩
  case round =>
    obtain ⟨k, hk, rfl⟩ := hrel
    by_cases hlt : k < 9
    · have hck : w12.cell? ⟨b, o + (l + k), none⟩ = some (.int .u8 ((k : Int) + 1)) := by
        have := HCell.out (l + k) (by rw [List.length_append, ← HL.out]; show _ < _ + 9; omega)
        rw [this, HL.out, nine_at bs k hlt]
      go_wp2
      go_round
      case rel => exact ⟨k + 1, by omega, by go_num⟩
      case measure => simp [intOf]; omega
    · obtain rfl : k = 9 := by omega
      have k1 := fits_any n x w12 hx hx2
      have k2 := rFits_any n x w12 hx hx2
      have k3 := fitsInt_any n x1 w12 bx bx2
      have k4 := rFitsInt_any n x1 w12 bx bx2
      generalize fitsB n x = p at *
      generalize fitsIntB n x1 = r at *
      have K1 := Lib.hid k1
      have K2 := Lib.hid k2
      have K3 := Lib.hid k3
      have K4 := Lib.hid k4
      clear k1 k2 k3 k4
      have hpp : (p == p) = true := by simp
      have hrr : (r == r) = true := by simp
      go_wp2_with fail
      refine K1.out.mono ?_
      rintro e w' ⟨rfl, rfl⟩
      go_wp2_with fail
      refine K2.out.mono ?_
      rintro e w' ⟨rfl, rfl⟩
      go_wp2_with fail
      refine K3.out.mono ?_
      rintro e w' ⟨rfl, rfl⟩
      go_wp2_with fail
      refine K4.out.mono ?_
      rintro e w' ⟨rfl, rfl⟩
      go_wp2
      go_ret
      exact ⟨by simp, HB12.out⟩

theorem walk {w : World} (A : Option Addr) (c : Nat) (bs : List Int) (hs : Sl w A c bs) (ho : Oct bs) (n : Int) (wn : (Lit.int .i64 n).wf = true) (x : Int) (wx : (Lit.int .u64 x).wf = true) :
    Calls Try.prog 3 #[.slice A bs.length c, .int .i64 n, .int .u64 x] w fun e w' => e = .returned (.bool true) ∧ Below w.heap.size w w' := by
  have b1 := bounds_u64 wx
  have hx : 0 ≤ x := b1.1
  have hx2 : x < 18446744073709551616 := by omega
  have hb := sgn_bd x hx hx2
  by_cases h : 5000 < bs.length
  · exact walk_out A _ c n x w h
  · exact walk_rows A c bs n x _ w hs (by omega) hx hx2 (sgn_wrap x hx hx2) hb.1 hb.2

set_option maxRecDepth 100000 in
theorem lifted (os : Os) (started : os.Started) (H : Type) (enc : TypeId × Value → H) :
    ReturnsInHanded {} Try.checked os 3 .any (Rows.fieldLaysSpec.pre6 enc Try.prog Try.f3 Rows.fieldLaysRow.domain false) (Rows.fieldLaysSpec.post enc Try.prog Try.f3 false true false false) := by
  refine returnsInHanded_of_change (C := Try.checked) Try.own started (by kernel_rfl) Try.func3
    (ChangeSpec.witness6 (enc := enc) (C := Try.checked) false ⟨#[], #[.slice none 0 0, .int .i64 0, .int .u64 0], []⟩ 8 (by kernel_rfl) (by kernel_rfl) (by kernel_rfl) (by kernel_rfl)) ?_
  intro W base args ds gs before hval0 hW hcnd _
  have hval : ∀ (j : Nat) t v, Try.f3.params[j]? = some t → args[j]? = some v → Value.okWide Try.prog W .any base t v := hval0
  have hW' := hW
  obtain ⟨p, q, hA0, hV, rfl, hfz, hnd⟩ := hW
  have hA : DataW.TrodAll enc Try.prog W 0 (fun _ => true) true Try.f3.params.toList args.toList ds p := hA0
  rw [Try.params3] at hA hval
  have hA' := hA
  obtain ⟨v0, vs0, d0, ds0, p0, q0, hargs, rfl, rfl, h0, r0⟩ := trodAll_cons hA
  obtain ⟨v1, vs1, d1, ds1, p1, q1, rfl, rfl, rfl, h1, r1⟩ := trodAll_cons r0
  obtain ⟨v2, vs2, d2, ds2, p2, q2, rfl, rfl, rfl, h2, r2⟩ := trodAll_cons r1
  obtain ⟨rfl, rfl, rfl⟩ := trodAll_nil r2
  obtain rfl : args = #[v0, v1, v2] := by cases args; simp_all
  obtain ⟨rfl, rfl⟩ := trodVars_none hV
  obtain ⟨A0, len0, c0, rfl⟩ := okWide_slice Try.underlying22 (hval 0 22 v0 rfl rfl)
  obtain ⟨z0, rfl, sl0, oc0⟩ := open_bytes h0
  obtain ⟨a1, rfl, rfl, rfl, w1⟩ := open_int Try.underlying3 (hval 1 3 v1 rfl rfl) h1
  obtain ⟨a2, rfl, rfl, rfl, w2⟩ := open_int Try.underlying23 (hval 2 23 v2 rfl rfl) h2
  clear hA0 hval0
  refine (walk A0 c0 z0 sl0 oc0 a1 w1 a2 w2).mono fun e W' ⟨he, bel⟩ => ?_
  subst he
  exact ⟨_, rfl, _, _, _, [], _, [], hW', trodAll_mk1 (shut_bool Try.underlying4 _), trodAll_below bel _ _ _ _ (by kernel_rfl) hA', rfl, bel.frame _, fun h => by cases h⟩

theorem proved : Rows.FieldLaysSaid :=
  OpenClaim.holds_of_wide 3 Try.f3 rfl rfl rfl rfl rfl rfl rfl ⟨rfl, rfl, rfl, rfl, rfl⟩ rfl rfl rfl rfl rfl (by kernel_rfl) Try.func3 (by kernel_rfl)
    (of_decide_eq_true (by kernel_rfl)) (by unfold Func.isWrapper; first | (rw [if_pos (by decide +kernel)]; kernel_rfl) | (rw [if_neg (by decide +kernel)]; exact ⟨rfl, rfl⟩))
    (fun os started H enc _ => lifted os started H enc)
#print axioms proved
end Go.Proofs.Ytnpmdbcijaanjaa.fieldLays
