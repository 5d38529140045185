/-
  ListsTells: what Check, Where and Same tell of whatever lists is what the document says. Holds for all lists, slots and worlds; lists that are more than the law goes through are answered at once.
-/
import Derived.Test.YtpeialkfddjndaaMLisW
import Derived.Test.YtpeialkfddjndaaMLisR
namespace Go.Proofs.Ytpeialkfddjndaa.listsTells
open Go.ChangeShapes Go.WideShapes Go.ChangeAt Go.RowKit Go.Deep Go.Shelf
open MskL (Mk Ms mv has mk Fine)
set_option linter.unusedVariables false
set_option linter.unusedSimpArgs false
set_option maxRecDepth 100000

theorem where_cases (M : List Mk) (s : Int) : (∃ j : Nat, whereK M s = (j : Int)) ∨ whereK M s = -1 := by
  unfold whereK
  cases M.findIdx? (fun m => MskL.hasB m s) with
  | none => exact .inr rfl
  | some j => exact .inl ⟨j, rfl⟩

set_option maxHeartbeats 8000000 in
theorem walk (A : Option Addr) (c : Nat) (C : List (List Int)) (B : Option Addr) (d : Nat) (M : List Mk) {w : World} (h : Lis w A c C B d M) (A' : Option Addr) (c' : Nat) (C' : List (List Int)) (B' : Option Addr) (d' : Nat) (M' : List Mk) (h' : Lis w A' c' C' B' d' M') (s : Int) (hs : -9223372036854775808 ≤ s ∧ s ≤ 9223372036854775807) :
    Calls Try.prog 3 #[lv A c C.length B d M.length, lv A' c' C'.length B' d' M'.length, .int .i64 s] w fun e w' => e = .returned (.bool true) ∧ Below w.heap.size w w' := by
  obtain ⟨g, hg⟩ : ∃ g, g = w.heap.size := ⟨_, rfl⟩
  obtain ⟨n, hn⟩ : ∃ n, n = C.length := ⟨_, rfl⟩
  obtain ⟨m, hm⟩ : ∃ m, m = M.length := ⟨_, rfl⟩
  obtain ⟨n', hn'⟩ : ∃ n', n' = C'.length := ⟨_, rfl⟩
  obtain ⟨m', hm'⟩ : ∃ m', m' = M'.length := ⟨_, rfl⟩
  obtain ⟨W0, hW0⟩ : ∃ W0, W0 = (w.alloc (.cells #[.slice A n c, .slice B m d] 25)).alloc (.cells #[.slice A' n' c', .slice B' m' d'] 25) := ⟨_, rfl⟩
  have hb0 : Below w.heap.size w W0 := by rw [hW0]; exact ((Below.refl _ w).alloc (Nat.le_refl _) _).alloc (by simp) _
  have hl0 : LRow W0 g A n c B m d := by rw [hW0, hg]; exact (LRow.new w A n c B m d).below ((Below.refl _ _).alloc (Nat.le_refl _) _) (by simp)
  have hr0 : LRow W0 (g + 1) A' n' c' B' m' d' := by
    rw [hW0, hg]; have := LRow.new (w.alloc (.cells #[.slice A n c, .slice B m d] 25)) A' n' c' B' m' d'
    rwa [World.size_alloc] at this
  have HX := Lib.hid (fun (X : World) (hX : Below W0.heap.size W0 X) => show LBox X g A n c B m d ∧ LBox X (g + 1) A' n' c' B' m' d' from ⟨(hl0.below hX hl0.lt).box, (hr0.below hX hr0.lt).box⟩)
  have hL := fun (X : World) (hX : Below W0.heap.size W0 X) => And.intro ((h.below hb0).below hX) ((h'.below hb0).below hX)
  have HS := Lib.hid (fun (X : World) (hX : Below W0.heap.size W0 X) => show (X.cell? ⟨g, 0, none⟩ = some (.slice A n c) ∧ X.cell? ⟨g, 1, none⟩ = some (.slice B m d)) ∧ (X.cell? ⟨g + 1, 0, none⟩ = some (.slice A' n' c') ∧ X.cell? ⟨g + 1, 1, none⟩ = some (.slice B' m' d')) from ⟨⟨(hl0.below hX hl0.lt).box.c0, (hl0.below hX hl0.lt).box.c1⟩, ⟨(hr0.below hX hr0.lt).box.c0, (hr0.below hX hr0.lt).box.c1⟩⟩)
  have HWk := Lib.hid (wakes_any W0)
  have HOv := Lib.hid (fun (X : World) (hX : Below W0.heap.size W0 X) => overL_any A c C B d M X (hL X hX).1)
  have HOv' := Lib.hid (fun (X : World) (hX : Below W0.heap.size W0 X) => overL_any A' c' C' B' d' M' X (hL X hX).2)
  have HCk := Lib.hid (fun (X : World) (hX : Below W0.heap.size W0 X) => checkL_any A c C B d M X (hL X hX).1)
  have HWh := Lib.hid (fun (X : World) (hX : Below W0.heap.size W0 X) => where_any A c C B d M s X (hL X hX).1 hs)
  have HSm := Lib.hid (fun (X : World) (hX : Below W0.heap.size W0 X) => sameL_any A A' c c' C C' B B' d d' M M' X (hL X hX).1 (hL X hX).2)
  have HSs := Lib.hid (fun (X : World) (hX : Below W0.heap.size W0 X) => show Calls Try.prog 13 #[lv A c C.length B d M.length, lv A c C.length B d M.length] X (fun e w' => e = .returned (.bool true) ∧ Below X.heap.size X w') from by
    have := sameL_any A A c c C C B B d d M M X (hL X hX).1 (hL X hX).1
    rw [decide_eq_true rfl, decide_eq_true rfl] at this
    exact this)
  have HRs := Lib.hid (fun (X : World) (hX : Below W0.heap.size W0 X) => rSameL_any A A' c c' C C' B B' d d' M M' X (hL X hX).1 (hL X hX).2)
  have HRr := Lib.hid (fun (X : World) (hX : Below W0.heap.size W0 X) => rRightL_any A c C B d M X (hL X hX).1)
  have HRw := Lib.hid (fun (X : World) (hX : Below W0.heap.size W0 X) => rWhereL_any A c C B d M s X (hL X hX).1 hs)
  have HB0 := Lib.hid hb0
  have HW0 := Lib.hid hW0
  have HG := Lib.hid hg
  have HE := Lib.hid (show (okB C M = true → chkL C M = 0 ∧ whereI C M s = max (whereK M s) 0 ∧ whereB C M s = decide (0 ≤ whereK M s)) ∧ (okB C M = false → chkL C M = 230 ∧ whereI C M s = 0 ∧ whereB C M s = false) from
    ⟨fun e => ⟨by unfold chkL; rw [e]; rfl, by unfold whereI; rw [e]; rfl, by unfold whereB; rw [e]; rfl⟩, fun e => ⟨by unfold chkL; rw [e]; rfl, by unfold whereI; rw [e]; rfl, by unfold whereB; rw [e]; rfl⟩⟩)
  have hwc := where_cases M s
  rw [← hn, ← hm] at HOv HCk HWh HSm HSs HRs HRr HRw ⊢
  rw [← hn', ← hm'] at HOv' HSm HRs ⊢
  generalize chkL C M = E at *
  generalize whereI C M s = WI at *
  generalize whereB C M s = WB at *
  generalize whereK M s = WK at *
  generalize okB C M = OK at *
  generalize (decide (C = C') && decide (M = M')) = SM at *
  generalize hov : overL C M = OV at *
  generalize hov' : overL C' M' = OV' at *
  obtain ⟨x0, x1⟩ := hl0.box
  obtain ⟨x2, x3⟩ := hr0.box
  clear h h' hs hg hn hm hn' hm' hb0 hl0 hr0 hL hW0 hov hov'
  unfold lv at *
  cases OV with
  | true =>
    go_enter Try.func3, Try.ntmps3
    go_wp2_with (rw [← HW0.out, ← HG.out])
    refine HWk.out.mono ?_
    rintro e w1 ⟨rfl, hb1⟩
    obtain ⟨⟨y0, y1⟩, ⟨y2, y3⟩⟩ := HX.out w1 hb1
    have HB1 := Lib.hid hb1
    clear hb1 x0 x1 x2 x3
    go_wp2_with fail
    refine (HOv.out w1 HB1.out).mono ?_
    rintro e w2 ⟨rfl, hb2⟩
    have HB2 := Lib.hid (below_tr HB0.out (below_tr HB1.out hb2))
    clear hb2
    go_wp2
    go_ret
    exact ⟨rfl, HB2.out⟩
  | false =>
    go_enter Try.func3, Try.ntmps3
    go_wp2_with (rw [← HW0.out, ← HG.out])
    refine HWk.out.mono ?_
    rintro e w1 ⟨rfl, hb1⟩
    obtain ⟨⟨y0, y1⟩, ⟨y2, y3⟩⟩ := HX.out w1 hb1
    have HB1 := Lib.hid hb1
    clear hb1 x0 x1 x2 x3
    go_wp2_with fail
    refine (HOv.out w1 HB1.out).mono ?_
    rintro e w2 ⟨rfl, hb2⟩
    have HB2 := Lib.hid (below_tr HB1.out hb2)
    obtain ⟨⟨x0, x1⟩, ⟨x2, x3⟩⟩ := HX.out w2 HB2.out
    clear hb2 y0 y1 y2 y3
    go_wp2_with fail
    refine (HOv'.out w2 HB2.out).mono ?_
    rintro e w3 ⟨rfl, hb3⟩
    have HB3 := Lib.hid (below_tr HB2.out hb3)
    obtain ⟨⟨y0, y1⟩, ⟨y2, y3⟩⟩ := HX.out w3 HB3.out
    clear hb3 x0 x1 x2 x3
    cases OV' with
    | true =>
      go_wp2
      go_ret
      exact ⟨rfl, below_tr HB0.out HB3.out⟩
    | false =>
      go_wp2_with fail
      refine (HCk.out w3 HB3.out).mono ?_
      rintro e w4 ⟨rfl, hb4⟩
      have HB4 := Lib.hid (below_tr HB3.out hb4)
      obtain ⟨⟨x0, x1⟩, ⟨x2, x3⟩⟩ := HX.out w4 HB4.out
      clear hb4 y0 y1 y2 y3
      go_wp2_with fail
      refine (HWh.out w4 HB4.out).mono ?_
      rintro e w5 ⟨rfl, hb5⟩
      have HB5 := Lib.hid (below_tr HB4.out hb5)
      obtain ⟨⟨y0, y1⟩, ⟨y2, y3⟩⟩ := HX.out w5 HB5.out
      clear hb5 x0 x1 x2 x3
      go_upto_region 7 with fail
      have hne : (SM != SM) = false := by cases SM <;> rfl
      go_region_held3 (fun X => (X.cell? ⟨g, 0, none⟩ = some (.slice A n c) ∧ X.cell? ⟨g, 1, none⟩ = some (.slice B m d)) ∧ (X.cell? ⟨g + 1, 0, none⟩ = some (.slice A' n' c') ∧ X.cell? ⟨g + 1, 1, none⟩ = some (.slice B' m' d')))
        (first | (with_reducible exact ⟨⟨y0, y1⟩, ⟨y2, y3⟩⟩) | (with_reducible exact HS.out _ (below_drew HB5.out)) | (with_reducible exact HS.out _ HB6.out) | (with_reducible exact HS.out _ HB7.out) | (with_reducible exact HS.out _ HB8.out))
        (first
        | (go_at_call 14; (with_reducible refine (HRs.out _ HB6.out).mono ?_); rintro e w7 ⟨rfl, hb7⟩; have HB7 := Lib.hid (below_tr HB6.out hb7); clear hb7)
        | (go_at_call 13; (with_reducible refine (HSs.out _ HB7.out).mono ?_); rintro e w8 ⟨rfl, hb8⟩; have HB8 := Lib.hid (below_tr HB7.out hb8); clear hb8)
        | (go_at_call 13; (with_reducible refine (HSm.out _ (below_drew HB5.out)).mono ?_); rintro e w6 ⟨rfl, hb6⟩; have HB6 := Lib.hid (below_tr (below_drew HB5.out) hb6); clear hb6))
      all_goals (
        obtain ⟨⟨x0, x1⟩, ⟨x2, x3⟩⟩ := HX.out w8 HB8.out
        clear y0 y1 y2 y3
        go_wp2_with fail
        refine (HRr.out w8 HB8.out).mono ?_
        rintro e w9 ⟨rfl, hb9⟩
        have HB9 := Lib.hid (below_tr HB8.out hb9)
        obtain ⟨⟨y0, y1⟩, ⟨y2, y3⟩⟩ := HX.out w9 HB9.out
        clear hb9 x0 x1 x2 x3
        cases OK with
        | false =>
          obtain ⟨rfl, rfl, rfl⟩ := HE.out.2 rfl
          go_wp2
          go_ret
          exact ⟨by first | rfl | simp, below_tr HB0.out HB9.out⟩
        | true =>
          obtain ⟨rfl, rfl, rfl⟩ := HE.out.1 rfl
          rcases hwc with ⟨j, rfl⟩ | rfl
          · have j0 : decide ((0 : Int) ≤ (j : Int)) = true := by simp
            have j1 : max (j : Int) 0 = (j : Int) := by omega
            rw [j0, j1]
            go_wp2_with fail
            refine (HRw.out w9 HB9.out).mono ?_
            rintro e w10 ⟨rfl, hb10⟩
            have HB10 := Lib.hid (below_tr HB9.out hb10)
            clear hb10
            go_wp2
            go_ret
            exact ⟨by first | rfl | simp [j1], below_tr HB0.out HB10.out⟩
          · have j1 : max (-1 : Int) 0 = 0 := rfl
            rw [j1]
            go_wp2_with fail
            refine (HRw.out w9 HB9.out).mono ?_
            rintro e w10 ⟨rfl, hb10⟩
            have HB10 := Lib.hid (below_tr HB9.out hb10)
            clear hb10
            go_wp2
            go_ret
            exact ⟨by first | rfl | simp, below_tr HB0.out HB10.out⟩)

set_option maxRecDepth 100000 in
theorem lifted (os : Os) (started : os.Started) (H : Type) (enc : TypeId × Value → H) :
    ReturnsInHanded {} Try.checked os 3 .any (Rows.listsTellsSpec.pre6 enc Try.prog Try.f3 Rows.listsTellsRow.domain false) (Rows.listsTellsSpec.post enc Try.prog Try.f3 false true false false) := by
  refine returnsInHanded_of_change (C := Try.checked) Try.own started (by kernel_rfl) Try.func3
    (ChangeSpec.witness6 (enc := enc) (C := Try.checked) false ⟨#[], #[.agg #[.slice none 0 0, .slice none 0 0], .agg #[.slice none 0 0, .slice none 0 0], .int .i64 0], []⟩ 8 (by kernel_rfl) (by kernel_rfl) (by kernel_rfl) (by kernel_rfl)) ?_
  intro W base args ds gs before hval0 hW hcnd _
  have hval : ∀ (j : Nat) t v, Try.f3.params[j]? = some t → args[j]? = some v → Value.okWide Try.prog W .any base t v := hval0
  have hW' := hW
  obtain ⟨p, q, hA0, hV, rfl, hfz, hnd⟩ := hW
  have hA : DataW.TrodAll enc Try.prog W 0 (fun _ => true) true Try.f3.params.toList args.toList ds p := hA0
  rw [Try.params3] at hA hval
  have hA' := hA
  obtain ⟨v0, vs0, d0, ds0, p0, q0, hargs, rfl, rfl, h0, r0⟩ := trodAll_cons hA
  obtain ⟨v1, vs1, d1, ds1, p1, q1, rfl, rfl, rfl, h1, r1⟩ := trodAll_cons r0
  obtain ⟨v2, vs2, d2, ds2, p2, q2, rfl, rfl, rfl, h2, r2⟩ := trodAll_cons r1
  obtain ⟨rfl, rfl, rfl⟩ := trodAll_nil r2
  obtain rfl : args = #[v0, v1, v2] := by cases args; simp_all
  obtain ⟨rfl, rfl⟩ := trodVars_none hV
  obtain ⟨A0, c0, C0, B0, k0, M0, rfl, sl0⟩ := open_lists (hval 0 25 v0 rfl rfl) h0
  obtain ⟨A1, c1, C1, B1, k1, M1, rfl, sl1⟩ := open_lists (hval 1 25 v1 rfl rfl) h1
  obtain ⟨a2, rfl, w2⟩ := open_num (hval 2 3 v2 rfl rfl) h2
  clear hA0 hval0
  refine (walk A0 c0 C0 B0 k0 M0 sl0 A1 c1 C1 B1 k1 M1 sl1 a2 w2).mono fun e W' ⟨he, bel⟩ => ?_
  subst he
  exact ⟨_, rfl, _, _, _, [], _, [], hW', trodAll_mk1 (shut_bool Try.underlying4 _), trodAll_below bel _ _ _ _ (by kernel_rfl) hA', rfl, bel.frame _, fun h => by cases h⟩

theorem proved : Rows.ListsTellsSaid :=
  OpenClaim.holds_of_wide 3 Try.f3 rfl rfl rfl rfl rfl rfl rfl ⟨rfl, rfl, rfl, rfl, rfl⟩ rfl rfl rfl rfl rfl (by kernel_rfl) Try.func3 (by kernel_rfl)
    (of_decide_eq_true (by kernel_rfl)) (by unfold Func.isWrapper; first | (rw [if_pos (by decide +kernel)]; kernel_rfl) | (rw [if_neg (by decide +kernel)]; exact ⟨rfl, rfl⟩))
    (fun os started H enc _ => lifted os started H enc)
#print axioms proved
end Go.Proofs.Ytpeialkfddjndaa.listsTells
