/-
  Proved: the law MarkOpens, whatever bytes are sealed, and opened, as the document says, or refused, and what comes is new, returns true for all bytes, and leaves all memory as it was. No condition.
-/
import Derived.Test.YtnlhfnebbkpfgaaLawFrame
import Derived.Test.YtnlhfnebbkpfgaaMarkWakes
namespace Go.Proofs.Ytnlhfnebbkpfgaa.markOpens
open Go.ChangeShapes Go.WideShapes Go.ChangeAt Go.RowKit
set_option linter.unusedVariables false

theorem walk_out (A : Option Addr) (l c : Nat) (w : World) (h : 20000 < l) :
    Calls Try.prog 4 #[.slice A l c] w fun e w' => e = .returned (.bool true) ∧ Below w.heap.size w w' := by
  have d1 : decide ((20000 : Int) < (l : Int)) = true := by simp; omega
  clear h
  go_enter Try.func4, Try.ntmps4
  go_wp2_with (go_at_call 10; refine (wakes_any w).mono ?_; rintro e w1 ⟨rfl, hb1⟩)
  go_ret
  exact ⟨rfl, hb1⟩

/-- Bytes that may be written, in blocks from B on. -/
def Wb (B : Nat) (w : World) (A : Option Addr) (n : Nat) : Prop := ∀ j, j < n → ∃ b o z, A = some ⟨b, o, none⟩ ∧ B ≤ b ∧ w.cell? ⟨b, o + j, none⟩ = some (.int .u8 z) ∧ w.frozen? ⟨b, o + j, none⟩ = false
theorem Wb.own {B : Nat} {w : World} {A : Option Addr} {c : Nat} {bs : List Int} (h : New B w A c bs) : Wb B w A bs.length := by
  intro j hj
  unfold New at h
  obtain ⟨b, rfl⟩ : ∃ b, A = some ⟨b, 0, none⟩ := by
    rcases h.2 with ⟨_, h0⟩ | ⟨g, cap, cur, hv, _⟩
    · omega
    · injection hv with h _ _
      exact ⟨g, h⟩
  have hc := World.ownsRow.cellAt h j (by omega)
  have hf := World.ownsRow.frozenAt h j
  refine ⟨b, 0, bs.getD j 0, rfl, (World.ownsRow.lt h b rfl).1, ?_, by rw [Nat.zero_add]; exact hf⟩
  rw [Nat.zero_add, hc]
  simp [List.getD, hj]
theorem Wb.low {B B' : Nat} {w : World} {A : Option Addr} {n : Nat} (h : Wb B w A n) (hb : B' ≤ B) : Wb B' w A n := fun j hj => by
  obtain ⟨b, o, z, h1, h2, h3, h4⟩ := h j hj
  exact ⟨b, o, z, h1, by omega, h3, h4⟩
theorem frozen_below {B : Nat} {w w' : World} (hb : Below B w w') {p : Addr} (hp : p.block < B) : w'.frozen? p = w.frozen? p := by
  unfold World.frozen?
  rw [hb.block p.block hp]
theorem Wb.below {B : Nat} {w w' : World} {A : Option Addr} {n : Nat} (h : Wb B w A n) (hb : Below w.heap.size w w') : Wb B w' A n := fun j hj => by
  obtain ⟨b, o, z, h1, h2, h3, h4⟩ := h j hj
  have hlt := World.block_lt_of_cell? _ _ h3
  exact ⟨b, o, z, h1, h2, (hb.cell (p := ⟨b, o + j, none⟩) hlt).trans h3, by rw [frozen_below hb (p := ⟨b, o + j, none⟩) hlt]; exact h4⟩
theorem Wb.drewN {B : Nat} {w : World} {A : Option Addr} {n : Nat} (h : Wb B w A n) (q : Nat) : Wb B (w.drewN q) A n := h
theorem Wb.set {B : Nat} {w : World} {A : Option Addr} {n : Nat} (h : Wb B w A n) (p : Addr) (v : Int) : Wb B (w.setCell p (.int .u8 v)) A n := fun j hj => by
  obtain ⟨b, o, z, h1, h2, h3, h4⟩ := h j hj
  have h4' : (w.setCell p (.int .u8 v)).frozen? ⟨b, o + j, none⟩ = false := by simpa using h4
  by_cases e : p = ⟨b, o + j, none⟩
  · subst e
    exact ⟨b, o, v, h1, h2, World.cell?_setCell_same _ _ _ h3, h4'⟩
  · exact ⟨b, o, z, h1, h2, by rw [World.cell?_setCell_other _ _ _ _ e]; exact h3, h4'⟩
theorem openM_le (bs : List Int) : (openM bs).1.length ≤ bs.length := by
  unfold openM
  split
  · simp
  · split
    · simp
    · simp
theorem index_two (s x : Value) (W : World) : (Instr.index 33 (.agg #[s, x]) (.int .i64 0)).run Try.prog W = .ok s W ∧ (Instr.index 33 (.agg #[s, x]) (.int .i64 1)).run Try.prog W = .ok x W := by
  constructor <;> kernel_rfl
/-- What both loops keep: all that was there before the first new bytes, and both rows of new bytes. -/
structure Inv (w2 : World) (A4 : Option Addr) (n4 : Nat) (A5 : Option Addr) (n5 : Nat) (W : World) : Prop where
  bel : Below w2.heap.size w2 W
  one : Wb w2.heap.size W A4 n4
  two : Wb w2.heap.size W A5 n5
theorem Inv.set {w2 W : World} {A4 A5 : Option Addr} {n4 n5 : Nat} (h : Inv w2 A4 n4 A5 n5 W) {p : Addr} (hp : w2.heap.size ≤ p.block) (v : Int) : Inv w2 A4 n4 A5 n5 (W.setCell p (.int .u8 v)) :=
  ⟨h.bel.setCell hp _, h.one.set p v, h.two.set p v⟩

set_option maxHeartbeats 2000000 in
set_option maxRecDepth 100000 in
theorem walk {w : World} (A : Option Addr) (c : Nat) (bs : List Int) (hs : Sl w A c bs) (ho : Oct bs) :
    Calls Try.prog 4 #[.slice A bs.length c] w fun e w' => e = .returned (.bool true) ∧ Below w.heap.size w w' := by
  by_cases h : 20000 < bs.length
  · exact walk_out A _ c w h
  have d1 : decide ((20000 : Int) < (bs.length : Int)) = false := by simp; omega
  have lS := sealM_length bs
  have C1 := Lib.hid (fun W B d (h : Sl W B d bs) => seal_b B d bs W h ho (by omega))
  have C2 := Lib.hid (fun W B d (h : Sl W B d bs) => open_b B d bs W h ho (by omega))
  have C3 := Lib.hid (fun W B d (h : Sl W B d bs) => rOpen_b B d bs W h ho (by omega))
  have C4 := Lib.hid (fun W B d (h : Sl W B d bs) => rSeal_b B d bs W h ho (by omega))
  have C5 := Lib.hid (fun W B d B' d' (h : Sl W B d (sealM bs)) (h' : Sl W B' d' (sealM bs)) => same_true B B' d d' (sealM bs) W h h')
  have C6 := Lib.hid (fun W B d B' d' (h : Sl W B d (openM bs).1) (h' : Sl W B' d' (openM bs).1) => same_true B B' d d' (openM bs).1 W h h')
  have C7 := Lib.hid (fun W B d B' d' (h : Sl W B d bs) (h' : Sl W B' d' bs) => same_true B B' d d' bs W h h')
  have HS := Lib.hid hs
  obtain ⟨P, hP⟩ : ∃ P, P = sealM bs := ⟨_, rfl⟩
  rw [← hP] at lS C1 C4 C5
  have hle := openM_le bs
  obtain ⟨R, hR⟩ : ∃ R, R = openM bs := ⟨_, rfl⟩
  rw [← hR] at C2 C3 C6 hle
  obtain ⟨l, hl⟩ : ∃ l, l = bs.length := ⟨_, rfl⟩
  rw [← hl] at d1 C1 C2 C3 C4 C7 lS ⊢
  rw [lS] at C5
  obtain ⟨X, E⟩ := R
  dsimp only at C6 hle
  obtain ⟨r, hr⟩ : ∃ r, r = X.length := ⟨_, rfl⟩
  rw [← hr] at C6
  have hlb : l ≤ 20000 := by omega
  have hrb : r ≤ 20000 := by omega
  have HL := Lib.hid hl
  have LS := Lib.hid lS
  have LR := Lib.hid hr
  clear hs ho hP hl lS hr hR h hle
  have eEE : (E != E) = false := by simp
  go_enter Try.func4, Try.ntmps4
  go_wp2_with fail
  refine (wakes_any w).mono ?_
  rintro e w1 ⟨rfl, hb1⟩
  have HB1 := Lib.hid hb1
  have HS1 := Lib.hid (HS.out.below hb1)
  clear hb1
  go_wp2_with (at_builtin; refine app_b rfl (.tmp 17) (.tmp 18) rfl w1.heap.size (.slice (some ⟨w1.heap.size, 0, none⟩) 0 0) 0 [] rfl (World.ownsRow_made w1 #[] 0 (Nat.le_refl _) (Nat.zero_le _) rfl) A c l bs rfl HL.out.symm ((HS1.out.alloc _).rd) (by omega) (by simp) ?_; intro v2 w2 hown2 hg2; have hb2 : Below w1.heap.size w1 w2 := ((Below.refl _ w1).alloc (Nat.le_refl _) _).grown hg2 (by simp) (by intro k hk; simp [Value.ownBlock] at hk; omega); obtain ⟨A2, c2, rfl, hn2⟩ := new_of (bs := bs) hown2 (by simp) (by rw [← HL.out]; omega); have HN2 := Lib.hid hn2.sl; have HB2 := Lib.hid hb2; clear hown2 hg2 hb2 hn2)
  have HS2 := Lib.hid (HS1.out.below HB2.out)
  have HC2 := Lib.hid (HB1.out.trans (HB2.out.mono HB1.out.size))
  have hq := HL.out
  rw [← hq]
  clear HB1 HB2 HS1 hq
  refine (C1.out w2 A c HS2.out).mono ?_
  rintro e w3 ⟨A4, c4, he, hn4, hb3⟩
  rw [LS.out] at he
  subst he
  have hw := Wb.own hn4
  rw [LS.out] at hw
  have HB3 := Lib.hid hb3
  have HN4 := Lib.hid hn4.sl
  have HW4 := Lib.hid hw
  clear hn4 hb3 hw
  go_wp2_with fail
  refine (C2.out w3 A c (HS2.out.below HB3.out)).mono ?_
  rintro e w4 ⟨A5, c5, he, hn5, hb4⟩
  dsimp only at he hn5
  rw [← LR.out] at he
  subst he
  have hw := Wb.own hn5
  rw [← LR.out] at hw
  have HB4 := Lib.hid (HB3.out.trans (hb4.mono HB3.out.size))
  have HN5 := Lib.hid hn5.sl
  have HW5 := Lib.hid (hw.low HB3.out.size)
  have HW4' := Lib.hid (HW4.out.below hb4)
  have HN4' := Lib.hid (HN4.out.below hb4)
  clear hn5 hb4 hw HW4 HN4 HB3
  go_wp2_with fail
  refine (C3.out w4 A2 c2 (HN2.out.below HB4.out)).mono ?_
  rintro e w5 ⟨A7, c7, he, hn7, hb5⟩
  dsimp only at he hn7
  rw [← LR.out] at he
  subst he
  have HB5 := Lib.hid (HB4.out.trans (hb5.mono HB4.out.size))
  have HN5' := Lib.hid (HN5.out.below hb5)
  have HN7 := Lib.hid hn7.sl
  have HW5' := Lib.hid (HW5.out.below hb5)
  have HW4 := Lib.hid (HW4'.out.below hb5)
  have HN4 := Lib.hid (HN4'.out.below hb5)
  clear hn7 hb5 HW4' HN4' HW5 HN5 HB4
  go_wp2_with fail
  refine (C4.out w5 A2 c2 (HN2.out.below HB5.out)).mono ?_
  rintro e w6 ⟨A8, c8, he, hn8, hb6⟩
  rw [LS.out] at he
  subst he
  have HB6 := Lib.hid (HB5.out.trans (hb6.mono HB5.out.size))
  have HN5 := Lib.hid (HN5'.out.below hb6)
  have HN7' := Lib.hid (HN7.out.below hb6)
  have HN8 := Lib.hid hn8.sl
  have HW5 := Lib.hid (HW5'.out.below hb6)
  have HW4' := Lib.hid (HW4.out.below hb6)
  have HN4' := Lib.hid (HN4.out.below hb6)
  clear hn8 hb6 HW4 HN4 HW5' HN5' HN7 HB5
  go_wp2_with fail
  refine (C5.out w6 _ _ _ _ HN4'.out HN8.out).mono ?_
  rintro e w7 ⟨rfl, q, hq⟩
  have HB7 := Lib.hid (show Below w2.heap.size w2 w7 by rw [hq]; exact below_drewN HB6.out q)
  have HN5' := Lib.hid (show Sl w7 A5 c5 X by rw [hq]; exact HN5.out.drewN q)
  have HN7 := Lib.hid (show Sl w7 A7 c7 X by rw [hq]; exact HN7'.out.drewN q)
  have HW5' := Lib.hid (show Wb w2.heap.size w7 A5 r by rw [hq]; exact HW5.out.drewN q)
  have HW4 := Lib.hid (show Wb w2.heap.size w7 A4 (l + 8) by rw [hq]; exact HW4'.out.drewN q)
  clear hq HN4' HN8 HN5 HN7' HW5 HW4' HB6
  go_wp2_with fail
  refine (C6.out w7 _ _ _ _ HN5'.out HN7.out).mono ?_
  rintro e w8 ⟨rfl, q, hq⟩
  have HI := Lib.hid (show Inv w2 A4 (l + 8) A5 r w8 by rw [hq]; exact ⟨below_drewN HB7.out q, HW4.out.drewN q, HW5'.out.drewN q⟩)
  clear hq HN5' HN7 HW5' HW4 HB7
  have ix0 : ∀ W, _ := fun W => (index_two (.slice A4 (l + 8) c4) (.slice A5 r c5) W).1
  have ix1 : ∀ W, _ := fun W => (index_two (.slice A4 (l + 8) c4) (.slice A5 r c5) W).2
  go_wp2
  clear HL LS LR C1 C2 C3 C4 C5 C6
  go_loopw [51] (fun i wr => ∃ k : Nat, k ≤ 2 ∧ i = .int .i64 k ∧ Hid (Inv w2 A4 (l + 8) A5 r wr)) (fun i _ => 2 - (intOf i).toNat)
  case atStart => exact ⟨0, by omega, rfl, HI⟩
  case round =>
    clear HI
    obtain ⟨k, hk, rfl, HI⟩ := hrel
    by_cases hlt : k < 2
    · have hk2 : k = 0 ∨ k = 1 := by omega
      rcases hk2 with rfl | rfl
      · go_wp2
        go_loopw [56] (fun i wq => ∃ j : Nat, j ≤ (l + 8) ∧ i = .int .i64 j ∧ Hid (Inv w2 A4 (l + 8) A5 r wq)) (fun i _ => (l + 8) - (intOf i).toNat)
        case atStart => exact ⟨0, Nat.zero_le _, rfl, HI⟩
        case round =>
          obtain ⟨j, hj, rfl, HJ⟩ := hrel
          by_cases hlt : j < (l + 8)
          · obtain ⟨b, o, z, hA, hB, hc, hf⟩ := HJ.out.one j hlt
            have j0 : (0 : Int) ≤ (j : Int) := by omega
            have j1 : (j : Int) < (l : Int) + 8 := by omega
            have HN := Lib.hid (HJ.out.set (p := ⟨b, o + j, none⟩) hB (IntKind.u8.wrap (z + 1)))
            clear HI HJ
            subst hA
            go_wp2
            go_roundw
            case rel => exact ⟨j + 1, by omega, by go_num, HN⟩
            case measure => simp [intOf]; omega
          · clear HI
            go_wp2
            go_roundw
            case rel => exact ⟨0 + 1, by omega, by go_num, HJ⟩
            case measure => simp [intOf]
      · go_wp2
        go_loopw [56] (fun i wq => ∃ j : Nat, j ≤ r ∧ i = .int .i64 j ∧ Hid (Inv w2 A4 (l + 8) A5 r wq)) (fun i _ => r - (intOf i).toNat)
        case atStart => exact ⟨0, Nat.zero_le _, rfl, HI⟩
        case round =>
          obtain ⟨j, hj, rfl, HJ⟩ := hrel
          by_cases hlt : j < r
          · obtain ⟨b, o, z, hA, hB, hc, hf⟩ := HJ.out.two j hlt
            have j0 : (0 : Int) ≤ (j : Int) := by omega
            have j1 : (j : Int) < (r : Int) := by omega
            have HN := Lib.hid (HJ.out.set (p := ⟨b, o + j, none⟩) hB (IntKind.u8.wrap (z + 1)))
            clear HI HJ
            subst hA
            go_wp2
            go_roundw
            case rel => exact ⟨j + 1, by omega, by go_num, HN⟩
            case measure => simp [intOf]; omega
          · clear HI
            go_wp2
            go_roundw
            case rel => exact ⟨1 + 1, by omega, by go_num, HJ⟩
            case measure => simp [intOf]
    · obtain rfl : k = 2 := by omega
      go_wp2_with fail
      refine (C7.out _ A c A2 c2 ((HS2.out).below HI.out.bel) (HN2.out.below HI.out.bel)).mono ?_
      rintro e w9 ⟨rfl, q, rfl⟩
      go_wp2
      go_ret
      exact ⟨rfl, below_drewN (HC2.out.trans (HI.out.bel.mono HC2.out.size)) q⟩

set_option maxRecDepth 100000 in
theorem lifted (os : Os) (started : os.Started) (H : Type) (enc : TypeId × Value → H) :
    ReturnsInHanded {} Try.checked os 4 .any (Rows.markOpensSpec.pre6 enc Try.prog Try.f4 Rows.markOpensRow.domain false) (Rows.markOpensSpec.post enc Try.prog Try.f4 false true false false) := by
  refine returnsInHanded_of_change (C := Try.checked) Try.own started (by kernel_rfl) Try.func4
    (ChangeSpec.witness6 (enc := enc) (C := Try.checked) false ⟨#[], #[.slice none 0 0], []⟩ 8 (by kernel_rfl) (by kernel_rfl) (by kernel_rfl) (by kernel_rfl)) ?_
  intro W base args ds gs before hval0 hW hcnd _
  have hval : ∀ (j : Nat) t v, Try.f4.params[j]? = some t → args[j]? = some v → Value.okWide Try.prog W .any base t v := hval0
  have hW' := hW
  obtain ⟨p, q, hA0, hV, rfl, hfz, hnd⟩ := hW
  have hA : DataW.TrodAll enc Try.prog W 0 (fun _ => true) true Try.f4.params.toList args.toList ds p := hA0
  rw [Try.params4] at hA hval
  have hA' := hA
  obtain ⟨v0, vs0, d0, ds0, p0, q0, hargs, rfl, rfl, h0, r0⟩ := trodAll_cons hA
  obtain ⟨rfl, rfl, rfl⟩ := trodAll_nil r0
  obtain rfl : args = #[v0] := by cases args; simp_all
  obtain ⟨rfl, rfl⟩ := trodVars_none hV
  obtain ⟨A0, len0, c0, rfl⟩ := okWide_slice Try.underlying23 (hval 0 23 v0 rfl rfl)
  obtain ⟨z0, rfl, sl0, oc0⟩ := open_bytes h0
  clear hA0 hval0
  refine (walk A0 c0 z0 sl0 oc0).mono fun e W' ⟨he, bel⟩ => ?_
  subst he
  exact ⟨_, rfl, _, _, _, [], _, [], hW', trodAll_mk1 (shut_bool Try.underlying4 _), trodAll_below bel _ _ _ _ (by kernel_rfl) hA', rfl, bel.frame _, fun h => by cases h⟩

theorem proved : Rows.MarkOpensSaid :=
  OpenClaim.holds_of_wide 4 Try.f4 rfl rfl rfl rfl rfl rfl rfl ⟨rfl, rfl, rfl, rfl, rfl⟩ rfl rfl rfl rfl rfl (by kernel_rfl) Try.func4 (by kernel_rfl)
    (of_decide_eq_true (by kernel_rfl)) (by unfold Func.isWrapper; first | (rw [if_pos (by decide +kernel)]; kernel_rfl) | (rw [if_neg (by decide +kernel)]; exact ⟨rfl, rfl⟩))
    (fun os started H enc _ => lifted os started H enc)
#print axioms proved
end Go.Proofs.Ytnlhfnebbkpfgaa.markOpens
