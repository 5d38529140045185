/-
  Proved: the law MarkGoes, marks go on, part by part, and back, and marks that differ differ behind the same bytes, returns true for every two marks and all bytes a and b, and leaves all memory xs it was. No condition.
-/
import Derived.Test.YtnlhfnebbkpfgaaLawTwo
import Derived.Deep.RegionHeld3
namespace Go.Proofs.Ytnlhfnebbkpfgaa.markGoes
open Go.ChangeShapes Go.WideShapes Go.ChangeAt Go.RowKit
set_option linter.unusedVariables false

theorem walk_out (m0 m1 : Int) (A : Option Addr) (l c : Nat) (A' : Option Addr) (l' c' : Nat) (w : World) (h : 10000 < l ∨ 10000 < l') :
    Calls Try.prog 6 #[.agg #[.int .u64 m0, .int .u64 m1], .slice A l c, .slice A' l' c'] w fun e w' => e = .returned (.bool true) ∧ Below w.heap.size w w' := by
  have hbx : Below w.heap.size w (w.alloc (.cells #[.int .u64 m0, .int .u64 m1] 36)) := (Below.refl _ w).alloc (Nat.le_refl _) _
  have HBX := Lib.hid hbx
  clear hbx
  by_cases h1 : 10000 < l
  · have d1 : decide ((10000 : Int) < (l : Int)) = true := by simp; omega
    clear h
    go_enter Try.func6, Try.ntmps6
    go_wp2_with fail
    generalize w.alloc (.cells #[.int .u64 m0, .int .u64 m1] 36) = W1 at *
    refine (wakes_any W1).mono ?_
    rintro e w1 ⟨rfl, hb1⟩
    go_wp2
    go_ret
    exact ⟨rfl, HBX.out.trans (hb1.mono HBX.out.size)⟩
  · have d1 : decide ((10000 : Int) < (l : Int)) = false := by simp; omega
    have d2 : decide ((10000 : Int) < (l' : Int)) = true := by simp; omega
    clear h
    go_enter Try.func6, Try.ntmps6
    go_wp2_with fail
    generalize w.alloc (.cells #[.int .u64 m0, .int .u64 m1] 36) = W1 at *
    refine (wakes_any W1).mono ?_
    rintro e w1 ⟨rfl, hb1⟩
    go_wp2
    go_ret
    exact ⟨rfl, HBX.out.trans (hb1.mono HBX.out.size)⟩

/-- What holds from both marks' box on: it, and the bytes one behind the other. -/
structure Kp (W1 : World) (g : Nat) (m0 m1 : Int) (A3 : Option Addr) (c3 : Nat) (P : List Int) (W : World) : Prop where
  bel : Below W1.heap.size W1 W
  sl : Sl W A3 c3 P
  c0 : W.cell? ⟨g, 0, none⟩ = some (.int .u64 m0)
  c1 : W.cell? ⟨g, 1, none⟩ = some (.int .u64 m1)
section
variable {W1 W W' : World} {g : Nat} {m0 m1 : Int} {A3 : Option Addr} {c3 : Nat} {P : List Int}
theorem Kp.next (h : Kp W1 g m0 m1 A3 c3 P W) (hb : Below W.heap.size W W') : Kp W1 g m0 m1 A3 c3 P W' :=
  ⟨h.bel.trans (hb.mono h.bel.size), h.sl.below hb, (hb.cell (p := ⟨g, 0, none⟩) (World.block_lt_of_cell? _ _ h.c0)).trans h.c0, (hb.cell (p := ⟨g, 1, none⟩) (World.block_lt_of_cell? _ _ h.c1)).trans h.c1⟩
theorem kp_start (hb : Below W1.heap.size W1 W) (hs : Sl W A3 c3 P) (h0 : W1.cell? ⟨g, 0, none⟩ = some (.int .u64 m0)) (h1 : W1.cell? ⟨g, 1, none⟩ = some (.int .u64 m1)) : Kp W1 g m0 m1 A3 c3 P W :=
  ⟨hb, hs, (hb.cell (p := ⟨g, 0, none⟩) (World.block_lt_of_cell? _ _ h0)).trans h0, (hb.cell (p := ⟨g, 1, none⟩) (World.block_lt_of_cell? _ _ h1)).trans h1⟩
theorem Kp.drew (h : Kp W1 g m0 m1 A3 c3 P W) : Kp W1 g m0 m1 A3 c3 P W.drew := ⟨⟨h.bel.os, h.bel.tape, h.bel.output, h.bel.size, h.bel.block⟩, ⟨h.sl.room, h.sl.most, h.sl.rd⟩, h.c0, h.c1⟩
end

set_option maxHeartbeats 4000000 in
set_option maxRecDepth 100000 in
theorem walk_all {w : World} (m0 m1 : Int) (u0 : U m0) (u1 : U m1) (A : Option Addr) (c : Nat) (xs : List Int) (hs : Sl w A c xs) (ho : Oct xs) (B : Option Addr) (d : Nat) (bs : List Int) (hs' : Sl w B d bs) (ho' : Oct bs) (hla : xs.length ≤ 10000) (hlb : bs.length ≤ 10000) :
    Calls Try.prog 6 #[.agg #[.int .u64 m0, .int .u64 m1], .slice A xs.length c, .slice B bs.length d] w fun e w' => e = .returned (.bool true) ∧ Below w.heap.size w w' := by
  have d1 : decide ((10000 : Int) < (xs.length : Int)) = false := by simp; omega
  have d2 : decide ((10000 : Int) < (bs.length : Int)) = false := by simp; omega
  obtain ⟨P, hP⟩ : ∃ P, P = xs ++ bs := ⟨_, rfl⟩
  have oP : Oct P := by
    rw [hP]
    intro x hx
    rcases List.mem_append.1 hx with h | h
    · exact ho x h
    · exact ho' x h
  have lP : P.length = xs.length + bs.length := by rw [hP]; simp
  -- the marks
  have uy : U (onM m0 xs) := onM_u m0 xs u0
  have uz : U (onM (onM m0 xs) bs) := onM_u _ bs uy
  have ux : U (backM m0 xs) := backM_u m0 xs u0 ho
  have uu : U (ofM xs) := onB_u xs
  have f1 : onM m0 P = onM (onM m0 xs) bs := by rw [hP, onM_append]
  have f2 : backM (onM (onM m0 xs) bs) P = m0 := by rw [← f1]; exact back_on m0 P u0 oP
  have f3 : backM (onM (onM m0 xs) bs) bs = onM m0 xs := back_on _ bs uy ho'
  have f4 : onM (backM m0 xs) xs = m0 := on_back m0 xs u0 ho
  have f5 : ofM P = onM (ofM xs) bs := by rw [hP]; exact onM_append _ xs bs
  have f6 : ((onM m1 P == onM (onM m0 xs) bs) == (m0 == m1)) = true := by
    rw [← f1]
    by_cases e : m0 = m1
    · subst e; simp
    · have : onM m1 P ≠ onM m0 P := fun h => e (onM_inj m1 m0 P u1 u0 oP h).symm
      rw [show (onM m1 P == onM m0 P) = false from by simpa using this, show (m0 == m1) = false from by simpa using e]
      rfl
  have C1 := Lib.hid (fun W (h : Sl W A c xs) => on_any A c xs m0 W h ho u0 (by omega))
  have C2 := Lib.hid (fun W (h : Sl W B d bs) => on_any B d bs (onM m0 xs) W h ho' uy (by omega))
  have C3 := Lib.hid (fun W A3 c3 (h : Sl W A3 c3 P) => on_any A3 c3 P m0 W h oP u0 (by omega))
  have C4 := Lib.hid (fun W A3 c3 (h : Sl W A3 c3 P) => back_any A3 c3 P (onM (onM m0 xs) bs) W h oP uz (by omega))
  have C5 := Lib.hid (fun W (h : Sl W B d bs) => back_any B d bs (onM (onM m0 xs) bs) W h ho' uz (by omega))
  have C6 := Lib.hid (fun W (h : Sl W A c xs) => back_any A c xs m0 W h ho u0 (by omega))
  have C7 := Lib.hid (fun W (h : Sl W A c xs) => on_any A c xs (backM m0 xs) W h ho ux (by omega))
  have C8 := Lib.hid (fun W A3 c3 (h : Sl W A3 c3 P) => of_any A3 c3 P W h oP (by omega))
  have C9 := Lib.hid (fun W (h : Sl W A c xs) => of_any A c xs W h ho (by omega))
  have C10 := Lib.hid (fun W (h : Sl W B d bs) => on_any B d bs (ofM xs) W h ho' uu (by omega))
  have C11 := Lib.hid (fun W A3 c3 (h : Sl W A3 c3 P) => on_any A3 c3 P m1 W h oP u1 (by omega))
  have CL := Lib.hid (fun W (h : Sl W A c xs) => bclone_b A c xs W h (by omega))
  rw [f1, lP] at C3
  rw [f2, lP] at C4
  rw [f3] at C5
  rw [f4] at C7
  rw [f5, lP] at C8
  rw [lP] at C11
  clear f1 f2 f3 f4 f5 uy uz ux uu u0 u1 oP ho ho'
  generalize onM m1 P = t at *
  generalize onM (onM m0 xs) bs = z at *
  generalize onM m0 xs = y at *
  generalize backM m0 xs = x at *
  generalize onM (ofM xs) bs = v at *
  generalize ofM xs = u at *
  obtain ⟨la, hla'⟩ : ∃ n, n = xs.length := ⟨_, rfl⟩
  obtain ⟨lb, hlb'⟩ : ∃ n, n = bs.length := ⟨_, rfl⟩
  rw [← hla'] at C1 C3 C4 C6 C7 C8 C9 C11 CL hla lP d1 ⊢
  rw [← hlb'] at C2 C3 C4 C5 C8 C10 C11 hlb lP d2 ⊢
  have LA := Lib.hid hla'
  have LB := Lib.hid hlb'
  have HP := Lib.hid hP
  have LP := Lib.hid lP
  have HS := Lib.hid hs
  have HS' := Lib.hid hs'
  have nz : (z != z) = false := by simp
  have n0 : (m0 != m0) = false := by simp
  have ny : (y != y) = false := by simp
  have nv : (v == v) = true := by simp
  clear hs hs' hla' hlb' hP lP
  have hbx : Below w.heap.size w (w.alloc (.cells #[.int .u64 m0, .int .u64 m1] 36)) := (Below.refl _ w).alloc (Nat.le_refl _) _
  have S0 := Lib.hid (HS.out.alloc (.cells #[.int .u64 m0, .int .u64 m1] 36))
  have S0' := Lib.hid (HS'.out.alloc (.cells #[.int .u64 m0, .int .u64 m1] 36))
  have hc0 : (w.alloc (.cells #[.int .u64 m0, .int .u64 m1] 36)).cell? ⟨w.heap.size, 0, none⟩ = some (.int .u64 m0) := cell_new _ _ _ _
  have hc1 : (w.alloc (.cells #[.int .u64 m0, .int .u64 m1] 36)).cell? ⟨w.heap.size, 1, none⟩ = some (.int .u64 m1) := cell_new _ _ _ _
  have HC0 := Lib.hid hc0
  have HC1 := Lib.hid hc1
  have HBX := Lib.hid hbx
  clear hc0 hc1 hbx HS HS'
  go_enter Try.func6, Try.ntmps6
  go_wp2_with fail
  obtain ⟨g, hg⟩ : ∃ g, g = w.heap.size := ⟨_, rfl⟩
  rw [← hg] at HC0 HC1 ⊢
  have HG := Lib.hid hg
  clear hg
  generalize w.alloc (.cells #[.int .u64 m0, .int .u64 m1] 36) = W1 at *
  refine (wakes_any W1).mono ?_
  rintro e w2 ⟨rfl, hb2⟩
  have HB2 := Lib.hid hb2
  clear hb2
  go_wp2_with fail
  refine (CL.out w2 (S0.out.below HB2.out)).mono ?_
  rintro e w3 ⟨A2, c2, he, hn3, hb3⟩
  rw [← LA.out] at he
  subst he
  have HN3 := Lib.hid hn3
  have HB3 := Lib.hid (HB2.out.trans (hb3.mono HB2.out.size))
  have hown3 : w3.ownsRow w2.heap.size 5 1 (.slice A2 la c2) la (xs.map (Value.int .u8)) := by
    have := HN3.out
    unfold New at this
    rwa [← LA.out] at this
  have HO3 := Lib.hid hown3
  have hs23 := hb3.size
  clear hn3 hb3 hown3 HN3
  go_wp2_with (at_builtin; refine app_b rfl (.tmp 20) (.tmp 21) rfl w2.heap.size (.slice A2 la c2) la (xs.map (Value.int .u8)) rfl HO3.out B d lb bs rfl LB.out.symm ((S0'.out.below HB3.out).rd) (by omega) hs23 ?_; intro v4 w4 hown4 hg4; have hb4 : Below w2.heap.size w3 w4 := (Below.refl _ w3).grown hg4 hs23 (fun k hk => (World.ownsRow.lt HO3.out k hk).1); obtain ⟨A3, c3, rfl, hn4⟩ := new_of (bs := P) hown4 (by rw [HP.out]; simp) (by rw [LP.out]); have KP4 := Lib.hid (kp_start (HB3.out.trans (hb4.mono HB2.out.size)) hn4.sl HC0.out HC1.out); rw [LP.out]; have hc0 := KP4.out.c0; clear hown4 hg4 hb4 hn4 HO3 HB3 HB2 hs23 CL HC0 HC1 HP)
  refine (C1.out _ (S0.out.below KP4.out.bel)).mono ?_
  rintro e w5 ⟨rfl, hb5⟩
  have KP5 := Lib.hid (KP4.out.next hb5)
  clear hb5 hc0 KP4
  go_wp2_with fail
  refine (C2.out _ (S0'.out.below KP5.out.bel)).mono ?_
  rintro e w6 ⟨rfl, hb6⟩
  have KP6 := Lib.hid (KP5.out.next hb6)
  have p06 : w6.drew.cell? ⟨g, 0, none⟩ = some (.int .u64 m0) := KP6.out.c0
  have KD := Lib.hid KP6.out.drew
  clear hb6 KP5 KP6
  go_wp2_with fail
  go_region_held3 (fun w' => w'.cell? ⟨g, 0, none⟩ = some (.int .u64 m0)) (first | exact p06 | exact p07 | exact p08 | exact p09 | exact p010 | exact p011 | exact p012) (first
    | (go_at_call 13; (with_reducible refine (C3.out _ A3 c3 KD.out.sl).mono ?_); rintro e w7 ⟨rfl, hb⟩; have KP7 := Lib.hid (KD.out.next hb); have p07 := KP7.out.c0; clear hb)
    | (go_at_call 15; (with_reducible refine (C4.out _ A3 c3 KP7.out.sl).mono ?_); rintro e w8 ⟨rfl, hb⟩; have KP8 := Lib.hid (KP7.out.next hb); have p08 := KP8.out.c0; clear hb)
    | (go_at_call 15; (with_reducible refine (C5.out _ (S0'.out.below KP8.out.bel)).mono ?_); rintro e w9 ⟨rfl, hb⟩; have KP9 := Lib.hid (KP8.out.next hb); have p09 := KP9.out.c0; clear hb)
    | (go_at_call 13; (with_reducible refine (C1.out _ (S0.out.below KP9.out.bel)).mono ?_); rintro e w10 ⟨rfl, hb⟩; have KP10 := Lib.hid (KP9.out.next hb); have p010 := KP10.out.c0; clear hb)
    | (go_at_call 15; (with_reducible refine (C6.out _ (S0.out.below KP10.out.bel)).mono ?_); rintro e w11 ⟨rfl, hb⟩; have KP11 := Lib.hid (KP10.out.next hb); have p011 := KP11.out.c0; clear hb)
    | (go_at_call 13; (with_reducible refine (C7.out _ (S0.out.below KP11.out.bel)).mono ?_); rintro e w12 ⟨rfl, hb⟩; have KP12 := Lib.hid (KP11.out.next hb); have p012 := KP12.out.c0; clear hb))
  have q0 : w12.drew.cell? ⟨g, 0, none⟩ = some (.int .u64 m0) := KP12.out.c0
  have q1 : w12.drew.cell? ⟨g, 1, none⟩ = some (.int .u64 m1) := KP12.out.c1
  have KE := Lib.hid KP12.out.drew
  clear KD KP7 KP8 KP9 KP10 KP11 KP12 p06 p07 p08 p09 p010 p011 p012
  go_wp2_with fail
  go_region_held3 (fun w' => w'.cell? ⟨g, 0, none⟩ = some (.int .u64 m0) ∧ w'.cell? ⟨g, 1, none⟩ = some (.int .u64 m1)) (first | exact ⟨q0, q1⟩ | exact ⟨p013, p113⟩ | exact ⟨p014, p114⟩ | exact ⟨p015, p115⟩ | exact ⟨p016, p116⟩) (first
    | (go_at_call 11; (with_reducible refine (C8.out _ A3 c3 KE.out.sl).mono ?_); rintro e w13 ⟨rfl, hb⟩; have KP13 := Lib.hid (KE.out.next hb); have p013 := KP13.out.c0; have p113 := KP13.out.c1; clear hb)
    | (go_at_call 11; (with_reducible refine (C9.out _ (S0.out.below KP13.out.bel)).mono ?_); rintro e w14 ⟨rfl, hb⟩; have KP14 := Lib.hid (KP13.out.next hb); have p014 := KP14.out.c0; have p114 := KP14.out.c1; clear hb)
    | (go_at_call 13; (with_reducible refine (C10.out _ (S0'.out.below KP14.out.bel)).mono ?_); rintro e w15 ⟨rfl, hb⟩; have KP15 := Lib.hid (KP14.out.next hb); have p015 := KP15.out.c0; have p115 := KP15.out.c1; clear hb)
    | (go_at_call 13; (with_reducible refine (C11.out _ A3 c3 KP15.out.sl).mono ?_); rintro e w16 ⟨rfl, hb⟩; have KP16 := Lib.hid (KP15.out.next hb); have p016 := KP16.out.c0; have p116 := KP16.out.c1; clear hb))
  go_wp2
  go_ret
  have hx : Below w.heap.size w W1 := HBX.out
  exact ⟨by simp, hx.trans (KP16.out.bel.mono hx.size)⟩

theorem walk {w : World} (m0 : Int) (w0 : (Lit.int .u64 m0).wf = true) (m1 : Int) (w1 : (Lit.int .u64 m1).wf = true) (A : Option Addr) (c : Nat) (xs : List Int) (hs : Sl w A c xs) (ho : Oct xs) (B : Option Addr) (d : Nat) (bs : List Int) (hs' : Sl w B d bs) (ho' : Oct bs) :
    Calls Try.prog 6 #[.agg #[.int .u64 m0, .int .u64 m1], .slice A xs.length c, .slice B bs.length d] w fun e w' => e = .returned (.bool true) ∧ Below w.heap.size w w' := by
  by_cases h : 10000 < xs.length ∨ 10000 < bs.length
  · exact walk_out m0 m1 A _ c B _ d w h
  have b0 := bounds_u64 w0
  have b1 := bounds_u64 w1
  exact walk_all m0 m1 ⟨b0.1, by omega⟩ ⟨b1.1, by omega⟩ A c xs hs ho B d bs hs' ho' (by omega) (by omega)

set_option maxRecDepth 100000 in
theorem lifted (os : Os) (started : os.Started) (H : Type) (enc : TypeId × Value → H) :
    ReturnsInHanded {} Try.checked os 6 .any (Rows.markGoesSpec.pre6 enc Try.prog Try.f6 Rows.markGoesRow.domain false) (Rows.markGoesSpec.post enc Try.prog Try.f6 false true false false) := by
  refine returnsInHanded_of_change (C := Try.checked) Try.own started (by kernel_rfl) Try.func6
    (ChangeSpec.witness6 (enc := enc) (C := Try.checked) false ⟨#[], #[.agg #[.int .u64 0, .int .u64 0], .slice none 0 0, .slice none 0 0], []⟩ 8 (by kernel_rfl) (by kernel_rfl) (by kernel_rfl) (by kernel_rfl)) ?_
  intro W base args ds gs before hval0 hW hcnd _
  have hval : ∀ (j : Nat) t v, Try.f6.params[j]? = some t → args[j]? = some v → Value.okWide Try.prog W .any base t v := hval0
  have hW' := hW
  obtain ⟨p, q, hA0, hV, rfl, hfz, hnd⟩ := hW
  have hA : DataW.TrodAll enc Try.prog W 0 (fun _ => true) true Try.f6.params.toList args.toList ds p := hA0
  rw [Try.params6] at hA hval
  have hA' := hA
  obtain ⟨v0, vs0, d0, ds0, p0, q0, hargs, rfl, rfl, h0, r0⟩ := trodAll_cons hA
  obtain ⟨v1, vs1, d1, ds1, p1, q1, rfl, rfl, rfl, h1, r1⟩ := trodAll_cons r0
  obtain ⟨v2, vs2, d2, ds2, p2, q2, rfl, rfl, rfl, h2, r2⟩ := trodAll_cons r1
  obtain ⟨rfl, rfl, rfl⟩ := trodAll_nil r2
  obtain rfl : args = #[v0, v1, v2] := by cases args; simp_all
  obtain ⟨rfl, rfl⟩ := trodVars_none hV
  obtain ⟨x0, y0, rfl, wx0, wy0⟩ := open_two (hval 0 36 v0 rfl rfl) h0
  obtain ⟨A1, len1, c1, rfl⟩ := okWide_slice Try.underlying23 (hval 1 23 v1 rfl rfl)
  obtain ⟨z1, rfl, sl1, oc1⟩ := open_bytes h1
  obtain ⟨A2, len2, c2, rfl⟩ := okWide_slice Try.underlying23 (hval 2 23 v2 rfl rfl)
  obtain ⟨z2, rfl, sl2, oc2⟩ := open_bytes h2
  clear hA0 hval0
  refine (walk x0 wx0 y0 wy0 A1 c1 z1 sl1 oc1 A2 c2 z2 sl2 oc2).mono fun e W' ⟨he, bel⟩ => ?_
  subst he
  exact ⟨_, rfl, _, _, _, [], _, [], hW', trodAll_mk1 (shut_bool Try.underlying4 _), trodAll_below bel _ _ _ _ (by kernel_rfl) hA', rfl, bel.frame _, fun h => by cases h⟩

theorem proved : Rows.MarkGoesSaid :=
  OpenClaim.holds_of_wide 6 Try.f6 rfl rfl rfl rfl rfl rfl rfl ⟨rfl, rfl, rfl, rfl, rfl⟩ rfl rfl rfl rfl rfl (by kernel_rfl) Try.func6 (by kernel_rfl)
    (of_decide_eq_true (by kernel_rfl)) (by unfold Func.isWrapper; first | (rw [if_pos (by decide +kernel)]; kernel_rfl) | (rw [if_neg (by decide +kernel)]; exact ⟨rfl, rfl⟩))
    (fun os started H enc _ => lifted os started H enc)
#print axioms proved
end Go.Proofs.Ytnlhfnebbkpfgaa.markGoes
