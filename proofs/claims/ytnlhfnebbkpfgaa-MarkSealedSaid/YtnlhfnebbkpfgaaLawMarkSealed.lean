/-
  Proved: the law MarkSealed, what was sealed is opened, and with one byte that is another one, wherever it is, it is not, returns true for all bytes, every place and every turn, and leaves all memory as it was. No condition.
-/
import Derived.Test.YtnlhfnebbkpfgaaLawMarkOne
namespace Go.Proofs.Ytnlhfnebbkpfgaa.markSealed
open Go.ChangeShapes Go.WideShapes Go.ChangeAt Go.RowKit
open markOne (turned oct_set)
set_option linter.unusedVariables false

theorem walk_out (A : Option Addr) (l c : Nat) (a y : Int) (w : World) (h : 20000 < l) :
    Calls Try.prog 8 #[.slice A l c, .int .i64 a, .int .u8 y] w fun e w' => e = .returned (.bool true) ∧ Below w.heap.size w w' := by
  have d1 : decide ((20000 : Int) < (l : Int)) = true := by simp; omega
  clear h
  go_enter Try.func8, Try.ntmps8
  go_wp2_with (go_at_call 10; refine (wakes_any w).mono ?_; rintro e w1 ⟨rfl, hb1⟩)
  go_ret
  exact ⟨rfl, hb1⟩

/-- With one byte that is another one it is not opened. -/
theorem open_turned (bs : List Int) (ho : Oct bs) (k : Nat) (v : Int) (hk : k < bs.length + 8) (h0 : 0 ≤ v) (h1 : v < 256) (hne : v ≠ (sealM bs).getD k 0) : openM ((sealM bs).set k v) = ([], 130) := by
  have hu := onB_u bs
  refine openM_no (n := bs.length) (by rw [List.length_set, sealM_length]) ?_
  by_cases hb : k < bs.length
  · have e1 : (sealM bs).set k v = bs.set k v ++ fld 8 (ofM bs) := by rw [sealM_eq, List.set_append_left _ _ hb]
    have e2 : (bs.set k v).length = bs.length := List.length_set
    have e3 : ((sealM bs).set k v).take bs.length = bs.set k v := by rw [e1, ← e2, List.take_left]
    have e4 : ((sealM bs).set k v).drop bs.length = fld 8 (ofM bs) := by rw [e1, ← e2, List.drop_left]
    rw [e3, e4]
    obtain ⟨x, hx⟩ := Int.eq_ofNat_of_zero_le hu.1
    have hx2 := hu.2
    have e5 : val (fld 8 (ofM bs)) = ofM bs := by
      rw [hx, val_fld]
      rw [hx] at hx2
      omega
    rw [e5]
    refine Ne.symm (onM_set _ bs k v ofs_u ho hb h0 h1 ?_)
    intro e
    apply hne
    rw [e, sealM_eq]
    simp [List.getD, List.getElem?_append_left hb]
  · have e1 : (sealM bs).set k v = bs ++ (fld 8 (ofM bs)).set (k - bs.length) v := by rw [sealM_eq, List.set_append_right _ _ (by omega)]
    rw [e1, List.take_left, List.drop_left]
    intro e
    have o2 : Oct ((fld 8 (ofM bs)).set (k - bs.length) v) := oct_set (fld_oct 8 _) _ v h0 h1
    have l2 : ((fld 8 (ofM bs)).set (k - bs.length) v).length = 8 := by rw [List.length_set, fld_length]
    have e6 := fld_val 8 _ l2 o2
    rw [e] at e6
    apply hne
    have e7 : (fld 8 (ofM bs)).getD (k - bs.length) 0 = ((fld 8 (ofM bs)).set (k - bs.length) v).getD (k - bs.length) 0 := by rw [← e6]
    have hl8 : k - bs.length < (fld 8 (ofM bs)).length := by rw [fld_length]; omega
    rw [sealM_eq]
    have e8 : (bs ++ fld 8 (ofM bs)).getD k 0 = (fld 8 (ofM bs)).getD (k - bs.length) 0 := by simp [List.getD, List.getElem?_append_right (show bs.length ≤ k by omega)]
    rw [e8, e7]
    simp [List.getD, hl8]

set_option maxHeartbeats 2000000 in
set_option maxRecDepth 100000 in
theorem walk_all {w : World} (A : Option Addr) (c : Nat) (bs : List Int) (hs : Sl w A c bs) (ho : Oct bs) (a y : Int) (a0 : -9223372036854775808 ≤ a) (a1 : a < 9223372036854775808) (y0 : 0 ≤ y) (y1 : y < 256) (hl1 : bs.length ≤ 20000) :
    Calls Try.prog 8 #[.slice A bs.length c, .int .i64 a, .int .u8 y] w fun e w' => e = .returned (.bool true) ∧ Below w.heap.size w w' := by
  have d1 : decide ((20000 : Int) < (bs.length : Int)) = false := by simp; omega
  have oS := sealM_oct ho
  have lS := sealM_length bs
  have C1 := Lib.hid (fun W (h : Sl W A c bs) => seal_b A c bs W h ho (by omega))
  have C2 := Lib.hid (fun W B d (h : Sl W B d (sealM bs)) => open_b B d (sealM bs) W h oS (by omega))
  have C3 := Lib.hid (fun W B d (h : Sl W B d bs) (h' : Sl W A c bs) => equal_any B A d c bs bs W h h' ho ho)
  rw [open_seal, lS] at C2
  rw [show decide (bs = bs) = true from by simp] at C3
  have HT := Lib.hid (open_turned bs ho)
  have HS := Lib.hid hs
  have OS := Lib.hid oS
  obtain ⟨P, hP⟩ : ∃ P, P = sealM bs := ⟨_, rfl⟩
  rw [← hP] at lS C1 C2 HT OS
  obtain ⟨l, hl⟩ : ∃ l, l = bs.length := ⟨_, rfl⟩
  rw [← hl] at d1 C1 C2 C3 HT lS hl1 ⊢
  have HL := Lib.hid hl
  have LS := Lib.hid lS
  clear hs ho oS hP hl lS
  have e00 : ((0 : Int) != 0) = false := by simp
  go_enter Try.func8, Try.ntmps8
  go_wp2_with fail
  refine (wakes_any w).mono ?_
  rintro e w1 ⟨rfl, hb1⟩
  have HB1 := Lib.hid hb1
  clear hb1
  go_wp2_with fail
  refine (C1.out w1 (HS.out.below HB1.out)).mono ?_
  rintro e w2 ⟨A2, c2, he, hn2, hb2⟩
  rw [LS.out] at he
  subst he
  have HB2 := Lib.hid (HB1.out.trans (hb2.mono HB1.out.size))
  have HN2 := Lib.hid hn2
  have hge := Lib.hid (Nat.le_trans HB1.out.size hb2.size)
  clear hb2 hn2
  go_wp2_with fail
  refine (C2.out w2 A2 c2 HN2.out.sl).mono ?_
  rintro e w3 ⟨A3, c3, he, hn3, hb3⟩
  have he : e = .returned (.tuple #[.slice A3 bs.length c3, .int .i64 0]) := he
  rw [← HL.out] at he
  subst he
  have HB3 := Lib.hid (HB2.out.trans (hb3.mono HB2.out.size))
  have HN3 := Lib.hid (show New w1.heap.size w3 A2 c2 P from World.ownsRow.kept HN2.out (row := none) (World.grownBy.mk hb3.os hb3.tape hb3.output hb3.size (fun i hi _ => hb3.block i hi)) (by rcases A2 with _ | x <;> simp [Value.ownBlock]))
  have HX3 := Lib.hid hn3.sl
  clear hb3 hn3 HN2 HB2
  go_wp2_with fail
  have k := C3.out w3 A3 c3 HX3.out (HS.out.below HB3.out)
  refine k.mono ?_
  clear k
  rintro e w' ⟨rfl, rfl⟩
  by_cases hy : y = 0
  · have hy0 : (y == 0) = true := by simp [hy]
    clear hy
    go_wp2
    go_ret
    exact ⟨rfl, HB3.out⟩
  have hy0 : (y == 0) = false := by simp [hy]
  have hlp : (0 : Int) < (l : Int) + 8 := by omega
  have hn := HN3.out
  unfold New at hn
  rw [LS.out] at hn
  obtain ⟨g2, rfl⟩ : ∃ g2, A2 = some ⟨g2, 0, none⟩ := by
    rcases hn.2 with ⟨_, h0⟩ | ⟨g, cap, cur, hv, _⟩
    · omega
    · injection hv with h _ _
      exact ⟨g, h⟩
  have HN := Lib.hid hn
  have hg2 : w1.heap.size ≤ g2 := (World.ownsRow.lt hn g2 rfl).1
  obtain ⟨k, hk, hkl⟩ : ∃ k : Nat, (IntKind.u64.wrap a).tmod ((l : Int) + 8) = (k : Int) ∧ k < l + 8 := by
    have h0 : 0 ≤ IntKind.u64.wrap a := by rw [IntKind.wrap_u64]; omega
    rw [Int.tmod_eq_emod_of_nonneg h0]
    have h1 := Int.emod_nonneg (IntKind.u64.wrap a) (show (l : Int) + 8 ≠ 0 by omega)
    have h2 := Int.emod_lt_of_pos (IntKind.u64.wrap a) hlp
    generalize IntKind.u64.wrap a % ((l : Int) + 8) = r at *
    exact ⟨r.toNat, by omega, by omega⟩
  have k0 : (0 : Int) ≤ (k : Int) := by omega
  have k1 : (k : Int) < (l : Int) + 8 := by omega
  have hcell := World.ownsRow.cellAt HN.out k (by omega)
  have hfz := World.ownsRow.frozenAt HN.out k
  have hcl : w3.cell? ⟨g2, k, none⟩ = some (.int .u8 (P.getD k 0)) := by
    rw [hcell]
    simp [List.getD, show k < P.length by rw [LS.out]; exact hkl]
  obtain ⟨b0, b1⟩ := OS.out.at_ k
  have ht := turned (P.getD k 0) y b0 b1 (by omega) y1
  obtain ⟨x, hx⟩ : ∃ x, x = P.getD k 0 := ⟨_, rfl⟩
  obtain ⟨z, hz⟩ : ∃ z, z = bits .xor .u8 x y := ⟨_, rfl⟩
  rw [← hx] at hcl ht
  rw [← hz] at ht
  have HX := Lib.hid hx
  have hzz := hz.symm
  have HTT := Lib.hid ht
  clear hcell hx ht b0 b1 hz hn hy
  go_wp2_with fail
  have hst := (World.ownsRow.stored HN.out k (.int .u8 z)).1
  rw [← List.map_set] at hst
  have hlen : (P.set k z).length = l + 8 := by rw [List.length_set]; exact LS.out
  obtain ⟨z0, z1, z2⟩ := HTT.out
  rw [HX.out] at z2
  have hno := HT.out k z (by omega) z0 z1 z2
  have hsl : Sl (w3.setCell ⟨g2, k, none⟩ (.int .u8 z)) (some ⟨g2, 0, none⟩) c2 (P.set k z) := by
    have h : New w1.heap.size (w3.setCell ⟨g2, k, none⟩ (.int .u8 z)) (some ⟨g2, 0, none⟩) c2 (P.set k z) := by
      unfold New
      rw [hlen]
      exact hst
    exact h.sl
  have kk := open_b _ c2 (P.set k z) _ hsl (oct_set OS.out k z z0 z1) (by rw [hlen]; omega)
  rw [hno, hlen] at kk
  have HBW := Lib.hid (show Below w.heap.size w (w3.setCell ⟨g2, k, none⟩ (.int .u8 z)) from HB3.out.setCell (p := ⟨g2, k, none⟩) (by have := HB1.out.size; show w.heap.size ≤ g2; omega) _)
  clear hst hlen z0 z1 z2 hno hsl HTT HX hfz hcl HN HX3 HN3 C1 C2 C3 HT
  generalize w3.setCell ⟨g2, k, none⟩ (.int .u8 z) = W4 at *
  refine kk.mono ?_
  clear kk
  rintro e w5 ⟨A5, c5, he, hn5, hb5⟩
  have he : e = .returned (.tuple #[.slice A5 0 c5, .int .i64 130]) := he
  subst he
  have HB5 := Lib.hid (HBW.out.trans (hb5.mono HBW.out.size))
  clear hb5 hn5
  go_wp2
  go_ret
  exact ⟨rfl, HB5.out⟩

theorem walk {w : World} (A : Option Addr) (c : Nat) (bs : List Int) (hs : Sl w A c bs) (ho : Oct bs) (a : Int) (wa : (Lit.int .i64 a).wf = true) (y : Int) (wy : (Lit.int .u8 y).wf = true) :
    Calls Try.prog 8 #[.slice A bs.length c, .int .i64 a, .int .u8 y] w fun e w' => e = .returned (.bool true) ∧ Below w.heap.size w w' := by
  by_cases h : 20000 < bs.length
  · exact walk_out A _ c a y w h
  have b2 := bounds_i64 wa
  have b3 := bounds_u8 wy
  exact walk_all A c bs hs ho a y (by omega) (by omega) (by omega) (by omega) (by omega)

set_option maxRecDepth 100000 in
theorem lifted (os : Os) (started : os.Started) (H : Type) (enc : TypeId × Value → H) :
    ReturnsInHanded {} Try.checked os 8 .any (Rows.markSealedSpec.pre6 enc Try.prog Try.f8 Rows.markSealedRow.domain false) (Rows.markSealedSpec.post enc Try.prog Try.f8 false true false false) := by
  refine returnsInHanded_of_change (C := Try.checked) Try.own started (by kernel_rfl) Try.func8
    (ChangeSpec.witness6 (enc := enc) (C := Try.checked) false ⟨#[], #[.slice none 0 0, .int .i64 0, .int .u8 0], []⟩ 8 (by kernel_rfl) (by kernel_rfl) (by kernel_rfl) (by kernel_rfl)) ?_
  intro W base args ds gs before hval0 hW hcnd _
  have hval : ∀ (j : Nat) t v, Try.f8.params[j]? = some t → args[j]? = some v → Value.okWide Try.prog W .any base t v := hval0
  have hW' := hW
  obtain ⟨p, q, hA0, hV, rfl, hfz, hnd⟩ := hW
  have hA : DataW.TrodAll enc Try.prog W 0 (fun _ => true) true Try.f8.params.toList args.toList ds p := hA0
  rw [Try.params8] at hA hval
  have hA' := hA
  obtain ⟨v0, vs0, d0, ds0, p0, q0, hargs, rfl, rfl, h0, r0⟩ := trodAll_cons hA
  obtain ⟨v1, vs1, d1, ds1, p1, q1, rfl, rfl, rfl, h1, r1⟩ := trodAll_cons r0
  obtain ⟨v2, vs2, d2, ds2, p2, q2, rfl, rfl, rfl, h2, r2⟩ := trodAll_cons r1
  obtain ⟨rfl, rfl, rfl⟩ := trodAll_nil r2
  obtain rfl : args = #[v0, v1, v2] := by cases args; simp_all
  obtain ⟨rfl, rfl⟩ := trodVars_none hV
  obtain ⟨A0, len0, c0, rfl⟩ := okWide_slice Try.underlying23 (hval 0 23 v0 rfl rfl)
  obtain ⟨z0, rfl, sl0, oc0⟩ := open_bytes h0
  obtain ⟨a1, rfl, rfl, rfl, w1⟩ := open_int Try.underlying3 (hval 1 3 v1 rfl rfl) h1
  obtain ⟨a2, rfl, rfl, rfl, w2⟩ := open_int Try.underlying5 (hval 2 5 v2 rfl rfl) h2
  clear hA0 hval0
  refine (walk A0 c0 z0 sl0 oc0 a1 w1 a2 w2).mono fun e W' ⟨he, bel⟩ => ?_
  subst he
  exact ⟨_, rfl, _, _, _, [], _, [], hW', trodAll_mk1 (shut_bool Try.underlying4 _), trodAll_below bel _ _ _ _ (by kernel_rfl) hA', rfl, bel.frame _, fun h => by cases h⟩

theorem proved : Rows.MarkSealedSaid :=
  OpenClaim.holds_of_wide 8 Try.f8 rfl rfl rfl rfl rfl rfl rfl ⟨rfl, rfl, rfl, rfl, rfl⟩ rfl rfl rfl rfl rfl (by kernel_rfl) Try.func8 (by kernel_rfl)
    (of_decide_eq_true (by kernel_rfl)) (by unfold Func.isWrapper; first | (rw [if_pos (by decide +kernel)]; kernel_rfl) | (rw [if_neg (by decide +kernel)]; exact ⟨rfl, rfl⟩))
    (fun os started H enc _ => lifted os started H enc)
#print axioms proved
end Go.Proofs.Ytnlhfnebbkpfgaa.markSealed
