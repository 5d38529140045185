/-
  Proved: the law MarkOne, bytes of one length that differ at just one place have other marks, whatever they begin with, and differ there, returns true for every mark, all bytes and every turned byte, and leaves all memory as it was. No condition.
-/
import Derived.Test.YtnlhfnebbkpfgaaLawTwo
namespace Go.Proofs.Ytnlhfnebbkpfgaa.markOne
open Go.ChangeShapes Go.WideShapes Go.ChangeAt Go.RowKit
set_option linter.unusedVariables false

theorem walk_out (m : Int) (A : Option Addr) (l c : Nat) (a y : Int) (w : World) (h : l = 0 ∨ 20000 < l ∨ y = 0) :
    Calls Try.prog 7 #[.int .u64 m, .slice A l c, .agg #[.int .i64 a, .int .u8 y]] w fun e w' => e = .returned (.bool true) ∧ Below w.heap.size w w' := by
  have hbx : Below w.heap.size w (w.alloc (.cells #[.int .i64 a, .int .u8 y] 39)) := (Below.refl _ w).alloc (Nat.le_refl _) _
  have hc1 : (w.alloc (.cells #[.int .i64 a, .int .u8 y] 39)).cell? ⟨w.heap.size, 1, none⟩ = some (.int .u8 y) := cell_new _ _ _ _
  have HBX := Lib.hid hbx
  have HC1 := Lib.hid hc1
  clear hbx hc1
  by_cases h0 : l = 0
  · subst h0
    clear h
    go_enter Try.func7, Try.ntmps7
    go_wp2_with fail
    generalize w.alloc (.cells #[.int .i64 a, .int .u8 y] 39) = W1 at *
    refine (wakes_any W1).mono ?_
    rintro e w1 ⟨rfl, hb1⟩
    go_wp2
    go_ret
    exact ⟨rfl, HBX.out.trans (hb1.mono HBX.out.size)⟩
  have d0 : ((l : Int) == 0) = false := by simp; omega
  by_cases h1 : 20000 < l
  · have d1 : decide ((20000 : Int) < (l : Int)) = true := by simp; omega
    clear h
    go_enter Try.func7, Try.ntmps7
    go_wp2_with fail
    generalize w.alloc (.cells #[.int .i64 a, .int .u8 y] 39) = W1 at *
    refine (wakes_any W1).mono ?_
    rintro e w1 ⟨rfl, hb1⟩
    go_wp2
    go_ret
    exact ⟨rfl, HBX.out.trans (hb1.mono HBX.out.size)⟩
  · have d1 : decide ((20000 : Int) < (l : Int)) = false := by simp; omega
    obtain rfl : y = 0 := by omega
    clear h
    go_enter Try.func7, Try.ntmps7
    go_wp2_with fail
    generalize w.alloc (.cells #[.int .i64 a, .int .u8 0] 39) = W1 at *
    refine (wakes_any W1).mono ?_
    rintro e w1 ⟨rfl, hb1⟩
    have hx := HC1.out
    have hc := (hb1.cell (p := ⟨w.heap.size, 1, none⟩) (World.block_lt_of_cell? _ _ hx)).trans hx
    go_wp2
    go_ret
    exact ⟨rfl, HBX.out.trans (hb1.mono HBX.out.size)⟩

/-- A byte, turned by one that is not 0. -/
theorem turned (x y : Int) (x0 : 0 ≤ x) (x1 : x < 256) (y0 : 0 < y) (y1 : y < 256) : 0 ≤ bits .xor .u8 x y ∧ bits .xor .u8 x y < 256 ∧ bits .xor .u8 x y ≠ x := by
  rw [u8_xor x y x0 x1 (by omega) y1]
  have h := Nat.xor_lt_two_pow (x := x.toNat) (y := y.toNat) (n := 8) (by omega) (by omega)
  refine ⟨by omega, by omega, fun e => ?_⟩
  have e1 : x.toNat ^^^ y.toNat = x.toNat := by omega
  have e2 : x.toNat ^^^ (x.toNat ^^^ y.toNat) = x.toNat ^^^ x.toNat := by rw [e1]
  rw [← Nat.xor_assoc, Nat.xor_self, Nat.zero_xor] at e2
  omega
theorem oct_set {bs : List Int} (h : Oct bs) (k : Nat) (v : Int) (h0 : 0 ≤ v) (h1 : v < 256) : Oct (bs.set k v) := by
  intro b hb
  rcases List.mem_or_eq_of_mem_set hb with hb | rfl
  · exact h b hb
  · exact ⟨h0, h1⟩
theorem place_set {bs : List Int} (k : Nat) (v : Int) (hk : k < bs.length) (hv : v ≠ bs.getD k 0) : placeM bs (bs.set k v) = (k : Int) := by
  have hg : (bs.set k v).getD k 0 = v := by simp [List.getD, hk]
  refine place_ne ?_ (by omega) (by simp; omega) (fun j hj => ?_) (.inr (.inr (by rw [hg]; exact Ne.symm hv)))
  · intro e
    apply hv
    rw [← hg, ← e]
  · have : k ≠ j := by omega
    simp [List.getD, this]

set_option maxHeartbeats 2000000 in
set_option maxRecDepth 100000 in
theorem walk_all {w : World} (m : Int) (um : U m) (A : Option Addr) (c : Nat) (bs : List Int) (hs : Sl w A c bs) (ho : Oct bs) (a y : Int) (a0 : -9223372036854775808 ≤ a) (a1 : a < 9223372036854775808) (y0 : 0 < y) (y1 : y < 256) (hl0 : 0 < bs.length) (hl1 : bs.length ≤ 20000) :
    Calls Try.prog 7 #[.int .u64 m, .slice A bs.length c, .agg #[.int .i64 a, .int .u8 y]] w fun e w' => e = .returned (.bool true) ∧ Below w.heap.size w w' := by
  have hbx : Below w.heap.size w (w.alloc (.cells #[.int .i64 a, .int .u8 y] 39)) := (Below.refl _ w).alloc (Nat.le_refl _) _
  have hc0 : (w.alloc (.cells #[.int .i64 a, .int .u8 y] 39)).cell? ⟨w.heap.size, 0, none⟩ = some (.int .i64 a) := cell_new _ _ _ _
  have hc1 : (w.alloc (.cells #[.int .i64 a, .int .u8 y] 39)).cell? ⟨w.heap.size, 1, none⟩ = some (.int .u8 y) := cell_new _ _ _ _
  have HBX := Lib.hid hbx
  have HC0 := Lib.hid hc0
  have HC1 := Lib.hid hc1
  have HS := Lib.hid (hs.alloc (.cells #[.int .i64 a, .int .u8 y] 39))
  have d0 : ((bs.length : Int) == 0) = false := by rw [beq_eq_false_iff_ne]; omega
  have d1 : decide ((20000 : Int) < (bs.length : Int)) = false := by simp; omega
  have dy : (y == 0) = false := by simp; omega
  have hbg : bs.length ≤ 140737488355328 := Nat.le_trans hl1 (by decide)
  clear hbx hc0 hc1 hs
  have HO := Lib.hid ho
  have CL := Lib.hid (fun W (h : Sl W A c bs) => bclone_b A c bs W h hbg)
  clear hbg
  obtain ⟨l, hl⟩ : ∃ l, l = bs.length := ⟨_, rfl⟩
  rw [← hl] at CL d0 d1 hl0 hl1 ⊢
  have HL := Lib.hid hl
  clear ho hl
  go_enter Try.func7, Try.ntmps7
  go_wp2_with fail
  obtain ⟨g, hg⟩ : ∃ g, g = w.heap.size := ⟨_, rfl⟩
  rw [← hg] at HC0 HC1 ⊢
  have HG := Lib.hid hg
  clear hg
  generalize w.alloc (.cells #[.int .i64 a, .int .u8 y] 39) = W1 at *
  refine (wakes_any W1).mono ?_
  rintro e w1 ⟨rfl, hb1⟩
  have hx1 := (hb1.cell (p := ⟨g, 1, none⟩) (World.block_lt_of_cell? _ _ HC1.out)).trans HC1.out
  have HB1 := Lib.hid hb1
  clear hb1
  go_wp2_with fail
  refine (CL.out w1 (HS.out.below HB1.out)).mono ?_
  clear CL
  rintro e w2 ⟨A2, c2, he, hn2, hb2⟩
  rw [← HL.out] at he
  subst he
  have HB2 := Lib.hid (HB1.out.trans (hb2.mono HB1.out.size))
  have hn := hn2
  unfold New at hn
  rw [← HL.out] at hn
  have hge := hb2.size
  clear hb2 hn2 hx1
  obtain ⟨g2, rfl⟩ : ∃ g2, A2 = some ⟨g2, 0, none⟩ := by
    rcases hn.2 with ⟨_, h0⟩ | ⟨g, cap, cur, hv, _⟩
    · omega
    · injection hv with h _ _
      exact ⟨g, h⟩
  have HN := Lib.hid hn
  have hg2 : w1.heap.size ≤ g2 := (World.ownsRow.lt hn g2 rfl).1
  have hx0 := (HB2.out.cell (p := ⟨g, 0, none⟩) (World.block_lt_of_cell? _ _ HC0.out)).trans HC0.out
  have hx1 := (HB2.out.cell (p := ⟨g, 1, none⟩) (World.block_lt_of_cell? _ _ HC1.out)).trans HC1.out
  clear hn
  have hlp : (0 : Int) < (l : Int) := by omega
  go_wp2_with fail
  obtain ⟨k, hk, hkl⟩ : ∃ k : Nat, wrap64 ((IntKind.u64.wrap a).tmod (l : Int)) = (k : Int) ∧ k < l := by
    have h0 : 0 ≤ IntKind.u64.wrap a := by rw [IntKind.wrap_u64]; omega
    rw [Int.tmod_eq_emod_of_nonneg h0]
    have h1 := Int.emod_nonneg (IntKind.u64.wrap a) (show (l : Int) ≠ 0 by omega)
    have h2 := Int.emod_lt_of_pos (IntKind.u64.wrap a) hlp
    generalize IntKind.u64.wrap a % (l : Int) = r at *
    refine ⟨r.toNat, ?_, by omega⟩
    rw [show wrap64 r = r from IntWalk.wrap64_in r ⟨by omega, by omega⟩]
    omega
  rw [hk]
  clear hk
  have k0 : (0 : Int) ≤ (k : Int) := by omega
  have k1 : (k : Int) < (l : Int) := by omega
  have hkb : k < bs.length := by rw [← HL.out]; exact hkl
  have hcell := World.ownsRow.cellAt HN.out k (by omega)
  have hfz := World.ownsRow.frozenAt HN.out k
  have hcl : w2.cell? ⟨g2, k, none⟩ = some (.int .u8 (bs.getD k 0)) := by
    rw [hcell]
    simp [List.getD, hkb]
  obtain ⟨b0, b1⟩ := HO.out.at_ k
  have ht := turned (bs.getD k 0) y b0 b1 y0 y1
  obtain ⟨x, hx⟩ : ∃ x, x = bs.getD k 0 := ⟨_, rfl⟩
  obtain ⟨z, hz⟩ : ∃ z, z = bits .xor .u8 x y := ⟨_, rfl⟩
  rw [← hx] at hcl ht
  rw [← hz] at ht
  have HX := Lib.hid hx
  have hzz := hz.symm
  have HT := Lib.hid ht
  clear hcell hx ht b0 b1 hz hx0 hkb
  go_region
  -- behind the store
  have hst := (World.ownsRow.stored HN.out k (.int .u8 z)).1
  rw [← List.map_set] at hst
  have hlen : (bs.set k z).length = l := by rw [List.length_set]; exact HL.out.symm
  have HD := Lib.hid (show Sl (w2.setCell ⟨g2, k, none⟩ (.int .u8 z)).drew (some ⟨g2, 0, none⟩) c2 (bs.set k z) from by
    have h : New w1.heap.size (w2.setCell ⟨g2, k, none⟩ (.int .u8 z)) (some ⟨g2, 0, none⟩) c2 (bs.set k z) := by
      unfold New
      rw [hlen]
      exact hst
    exact ⟨h.sl.room, h.sl.most, h.sl.rd⟩)
  have HBW := Lib.hid (show Below W1.heap.size W1 (w2.setCell ⟨g2, k, none⟩ (.int .u8 z)).drew from by
    have h : Below W1.heap.size W1 (w2.setCell ⟨g2, k, none⟩ (.int .u8 z)) := HB2.out.setCell (p := ⟨g2, k, none⟩) (by have := HB1.out.size; show W1.heap.size ≤ g2; omega) _
    exact ⟨h.os, h.tape, h.output, h.size, h.block⟩)
  have hkb : k < bs.length := by rw [← HL.out]; exact hkl
  obtain ⟨z0, z1, z2⟩ := HT.out
  rw [HX.out] at z2
  have oD : Oct (bs.set k z) := oct_set HO.out k z z0 z1
  have np : placeM bs (bs.set k z) = (k : Int) := place_set k z hkb z2
  have nm : onM m bs ≠ onM m (bs.set k z) := Ne.symm (onM_set m bs k z um HO.out hkb z0 z1 z2)
  have no : ofM bs ≠ ofM (bs.set k z) := Ne.symm (onM_set _ bs k z ofs_u HO.out hkb z0 z1 z2)
  have hb1 : bs.length ≤ 9223372036854775807 := by rw [← HL.out]; omega
  have hb2 : (bs.set k z).length ≤ 9223372036854775807 := by rw [hlen]; omega
  have C1 := Lib.hid (fun W (h : Sl W A c bs) => on_any A c bs m W h HO.out um hb1)
  have C2 := Lib.hid (fun W B d (h : Sl W B d (bs.set k z)) => on_any B d (bs.set k z) m W h oD um hb2)
  have C3 := Lib.hid (fun W B d (h : Sl W A c bs) (h' : Sl W B d (bs.set k z)) => place_b A B c d bs (bs.set k z) W h h')
  have C4 := Lib.hid (fun W (h : Sl W A c bs) => of_any A c bs W h HO.out hb1)
  have C5 := Lib.hid (fun W B d (h : Sl W B d (bs.set k z)) => of_any B d (bs.set k z) W h oD hb2)
  rw [np] at C3
  rw [hlen] at C2 C3 C5
  rw [← HL.out] at C1 C3 C4
  generalize onM m bs = o1 at *
  generalize onM m (bs.set k z) = o2 at *
  generalize ofM bs = o3 at *
  generalize ofM (bs.set k z) = o4 at *
  obtain ⟨D, hD⟩ : ∃ D, D = bs.set k z := ⟨_, rfl⟩
  rw [← hD] at HD C2 C3 C5
  have n1 : (o1 != o2) = true := by simp [nm]
  have n2 : (o3 != o4) = true := by simp [no]
  have n3 : ((k : Int) == (k : Int)) = true := by simp
  clear hst hlen hkb z0 z1 z2 oD np nm no hb1 hb2 hD HT HX hfz hcl HN hx1 HB2
  generalize (w2.setCell ⟨g2, k, none⟩ (.int .u8 z)).drew = W3 at *
  go_wp2_with fail
  refine (C1.out W3 (HS.out.below HBW.out)).mono ?_
  rintro e w4 ⟨rfl, hb⟩
  have HD4 := Lib.hid (HD.out.below hb)
  have HB4 := Lib.hid (HBW.out.trans (hb.mono HBW.out.size))
  clear hb
  go_wp2_with fail
  refine (C2.out w4 _ _ HD4.out).mono ?_
  rintro e w5 ⟨rfl, hb⟩
  have HD5 := Lib.hid (HD4.out.below hb)
  have HB5 := Lib.hid (HB4.out.trans (hb.mono HB4.out.size))
  clear hb
  go_wp2_with fail
  refine (C3.out w5 _ _ (HS.out.below HB5.out) HD5.out).mono ?_
  rintro e w6 ⟨rfl, q, hq⟩
  have HD6 := Lib.hid (show Sl w6 (some ⟨g2, 0, none⟩) c2 D by rw [hq]; exact HD5.out.drewN q)
  have HB6 := Lib.hid (show Below W1.heap.size W1 w6 by rw [hq]; exact below_drewN HB5.out q)
  clear hq
  go_wp2_with fail
  refine (C4.out w6 (HS.out.below HB6.out)).mono ?_
  rintro e w7 ⟨rfl, hb⟩
  have HD7 := Lib.hid (HD6.out.below hb)
  have HB7 := Lib.hid (HB6.out.trans (hb.mono HB6.out.size))
  clear hb
  go_wp2_with fail
  refine (C5.out w7 _ _ HD7.out).mono ?_
  rintro e w8 ⟨rfl, hb⟩
  have HB8 := Lib.hid (HB7.out.trans (hb.mono HB7.out.size))
  clear hb
  go_wp2
  go_ret
  exact ⟨rfl, HBX.out.trans (HB8.out.mono HBX.out.size)⟩

theorem walk {w : World} (m : Int) (wm : (Lit.int .u64 m).wf = true) (A : Option Addr) (c : Nat) (bs : List Int) (hs : Sl w A c bs) (ho : Oct bs) (a : Int) (wa : (Lit.int .i64 a).wf = true) (y : Int) (wy : (Lit.int .u8 y).wf = true) :
    Calls Try.prog 7 #[.int .u64 m, .slice A bs.length c, .agg #[.int .i64 a, .int .u8 y]] w fun e w' => e = .returned (.bool true) ∧ Below w.heap.size w w' := by
  by_cases h : bs.length = 0 ∨ 20000 < bs.length ∨ y = 0
  · exact walk_out m A _ c a y w h
  have b1 := bounds_u64 wm
  have b2 := bounds_i64 wa
  have b3 := bounds_u8 wy
  exact walk_all m ⟨b1.1, by omega⟩ A c bs hs ho a y (by omega) (by omega) (by omega) (by omega) (by omega) (by omega)

set_option maxRecDepth 100000 in
theorem lifted (os : Os) (started : os.Started) (H : Type) (enc : TypeId × Value → H) :
    ReturnsInHanded {} Try.checked os 7 .any (Rows.markOneSpec.pre6 enc Try.prog Try.f7 Rows.markOneRow.domain false) (Rows.markOneSpec.post enc Try.prog Try.f7 false true false false) := by
  refine returnsInHanded_of_change (C := Try.checked) Try.own started (by kernel_rfl) Try.func7
    (ChangeSpec.witness6 (enc := enc) (C := Try.checked) false ⟨#[], #[.int .u64 0, .slice none 0 0, .agg #[.int .i64 0, .int .u8 0]], []⟩ 8 (by kernel_rfl) (by kernel_rfl) (by kernel_rfl) (by kernel_rfl)) ?_
  intro W base args ds gs before hval0 hW hcnd _
  have hval : ∀ (j : Nat) t v, Try.f7.params[j]? = some t → args[j]? = some v → Value.okWide Try.prog W .any base t v := hval0
  have hW' := hW
  obtain ⟨p, q, hA0, hV, rfl, hfz, hnd⟩ := hW
  have hA : DataW.TrodAll enc Try.prog W 0 (fun _ => true) true Try.f7.params.toList args.toList ds p := hA0
  rw [Try.params7] at hA hval
  have hA' := hA
  obtain ⟨v0, vs0, d0, ds0, p0, q0, hargs, rfl, rfl, h0, r0⟩ := trodAll_cons hA
  obtain ⟨v1, vs1, d1, ds1, p1, q1, rfl, rfl, rfl, h1, r1⟩ := trodAll_cons r0
  obtain ⟨v2, vs2, d2, ds2, p2, q2, rfl, rfl, rfl, h2, r2⟩ := trodAll_cons r1
  obtain ⟨rfl, rfl, rfl⟩ := trodAll_nil r2
  obtain rfl : args = #[v0, v1, v2] := by cases args; simp_all
  obtain ⟨rfl, rfl⟩ := trodVars_none hV
  obtain ⟨a0, rfl, rfl, rfl, w0⟩ := open_int Try.underlying22 (hval 0 22 v0 rfl rfl) h0
  obtain ⟨A1, len1, c1, rfl⟩ := okWide_slice Try.underlying23 (hval 1 23 v1 rfl rfl)
  obtain ⟨z1, rfl, sl1, oc1⟩ := open_bytes h1
  obtain ⟨x2, y2, rfl, wx2, wy2⟩ := open_turn (hval 2 39 v2 rfl rfl) h2
  clear hA0 hval0
  refine (walk a0 w0 A1 c1 z1 sl1 oc1 x2 wx2 y2 wy2).mono fun e W' ⟨he, bel⟩ => ?_
  subst he
  exact ⟨_, rfl, _, _, _, [], _, [], hW', trodAll_mk1 (shut_bool Try.underlying4 _), trodAll_below bel _ _ _ _ (by kernel_rfl) hA', rfl, bel.frame _, fun h => by cases h⟩

theorem proved : Rows.MarkOneSaid :=
  OpenClaim.holds_of_wide 7 Try.f7 rfl rfl rfl rfl rfl rfl rfl ⟨rfl, rfl, rfl, rfl, rfl⟩ rfl rfl rfl rfl rfl (by kernel_rfl) Try.func7 (by kernel_rfl)
    (of_decide_eq_true (by kernel_rfl)) (by unfold Func.isWrapper; first | (rw [if_pos (by decide +kernel)]; kernel_rfl) | (rw [if_neg (by decide +kernel)]; exact ⟨rfl, rfl⟩))
    (fun os started H enc _ => lifted os started H enc)
#print axioms proved
end Go.Proofs.Ytnlhfnebbkpfgaa.markOne
