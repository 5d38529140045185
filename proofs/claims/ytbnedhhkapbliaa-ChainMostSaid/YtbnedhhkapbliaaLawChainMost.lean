/-
  Proved: the law ChainMost, with as many versions as there may be, one less, one more, Put answers as the document says, returns true for every two numbers, and leaves all memory as it was. No condition.
-/
import Derived.Test.YtbnedhhkapbliaaLawFrame
import Derived.BigQuiet
namespace Go.Proofs.Ytbnedhhkapbliaa.chainMost
open Go.ChangeShapes Go.WideShapes Go.ChangeAt Go.RowKit
set_option linter.unusedVariables false
set_option linter.unusedSimpArgs false
set_option maxRecDepth 100000

/-- The versions that are laid. -/
def mostM (k : Nat) : List Vr := (List.range k).map fun (i : Nat) => ⟨(i : Int) + 1, (i : Int) + 2, [1]⟩
theorem most_more (k : Nat) : mostM (k + 1) = mostM k ++ [⟨(k : Int) + 1, (k : Int) + 2, [1]⟩] := by unfold mostM; rw [List.range_succ, List.map_append]; rfl
theorem most_length (k : Nat) : (mostM k).length = k := by simp [mostM]

/-- One more version is laid. -/
theorem most_step {base : Nat} {wr W1 W2 w5 : World} {A A5 : Option Addr} {c c5 m : Nat} {r : List Pl} {b f : Int} (ho : OwnC base wr A c r) (hm : r.length = m) (hbs : base ≤ wr.heap.size)
    (h1 : W1 = wr.alloc (.cells #[.int .i32 1] 21)) (h2 : W2 = W1.alloc (.cells #[.int .u64 b, .int .u64 f, .slice (some ⟨wr.heap.size, 0, none⟩) 1 1] 35)) :
    W2.ownsRow base 35 3 (.slice A m c) m (flatC r) ∧ Read W2 (some ⟨wr.heap.size + 1, 0, none⟩) 1 3 (flatC [⟨⟨b, f, [1]⟩, some ⟨wr.heap.size, 0, none⟩, 1⟩]) ∧ base ≤ W2.heap.size ∧
    ∀ A5 c5 w5, w5.ownsRow base 35 3 (.slice A5 (m + 1) c5) (m + 1) (flatC r ++ flatC [⟨⟨b, f, [1]⟩, some ⟨wr.heap.size, 0, none⟩, 1⟩]) → W2.grownBy w5 (blk A) → U64s b → U64s f →
      OwnC base w5 A5 c5 (r ++ [⟨⟨b, f, [1]⟩, some ⟨wr.heap.size, 0, none⟩, 1⟩]) ∧ Below base wr w5 := by
  have hz1 : W1.heap.size = wr.heap.size + 1 := by rw [h1]; simp
  have hb1 : Below wr.heap.size wr W1 := by rw [h1]; exact (Below.refl _ _).alloc (Nat.le_refl _) _
  have hb2 : Below wr.heap.size wr W2 := by rw [h2]; exact hb1.alloc hb1.size _
  have hv : OwnV wr.heap.size W1 (some ⟨wr.heap.size, 0, none⟩) 1 [1] := by
    rw [h1]
    exact ⟨World.ownsRow_lit (base := wr.heap.size) (size := 1) (e := 21) wr #[.int .i32 1] 1 (Nat.le_refl _) (by decide) rfl, by simp; decide⟩
  have hv2 : OwnV wr.heap.size W2 (some ⟨wr.heap.size, 0, none⟩) 1 [1] := by rw [h2]; exact hv.below ((Below.refl _ _).alloc (Nat.le_refl _) _)
  have ho2 := ho.below hb2
  have hrd : Read W2 (some ⟨wr.heap.size + 1, 0, none⟩) 1 3 (flatC [⟨⟨b, f, [1]⟩, some ⟨wr.heap.size, 0, none⟩, 1⟩]) := by
    have hc := fun i => cell_laid W1 #[.int .u64 b, .int .u64 f, .slice (some ⟨wr.heap.size, 0, none⟩) 1 1] 35 i
    rw [← h2, hz1] at hc
    exact Read.one (p := ⟨⟨b, f, [1]⟩, some ⟨wr.heap.size, 0, none⟩, 1⟩) (hc 0) (hc 1) (hc 2)
  refine ⟨by have := ho2.row; rw [hm] at this; exact this, hrd, Nat.le_trans hbs hb2.size, fun A5 c5 w5 h5 g5 ub uf => ⟨ho2.snoc (p := ⟨⟨b, f, [1]⟩, some ⟨wr.heap.size, 0, none⟩, 1⟩) (hv2.mono hbs) ⟨ub, uf⟩ (by rw [hm]; exact h5) g5, (hb2.mono hbs).trans (grown_below g5 (Nat.le_trans hbs hb2.size) (fun i hi => (ho2.low i hi).1))⟩⟩

theorem num_n (a : Int) : ∃ n : Nat, wrap64 (95 + (wrap64 (a.tmod 3 + 3)).tmod 3) = (n : Int) ∧ 95 ≤ n ∧ n ≤ 97 := by
  have h1 : a.tmod 3 < 3 := Int.tmod_lt_of_pos a (by decide)
  have h2 : -3 < a.tmod 3 := Int.lt_tmod_of_pos a (by decide)
  generalize a.tmod 3 = r at *
  have h3 : wrap64 (r + 3) = r + 3 := by unfold wrap64; omega
  rw [h3, Int.tmod_eq_emod_of_nonneg (by omega)]
  refine ⟨(95 + (r + 3) % 3).toNat, ?_, by omega, by omega⟩
  unfold wrap64; omega

set_option maxHeartbeats 4000000 in
theorem walk {w : World} (a : Int) (ha : (Lit.int .i64 a).wf = true) (ts : Int) (hts : U64s ts) :
    Calls Try.prog 5 #[.int .i64 a, .int .u64 ts] w fun e w' => e = .returned (.bool true) ∧ Below w.heap.size w w' := by
  have HWk := Lib.hid (wakes_any w)
  go_enter Try.func5, Try.ntmps5
  go_wp2_with fail
  refine HWk.out.mono ?_
  rintro e w1 ⟨rfl, hb1⟩
  have HB1 := Lib.hid hb1
  clear hb1
  obtain ⟨n, hn, hn1, hn2⟩ := num_n a
  have HNn := Lib.hid hn
  clear hn
  go_wp2
  rw [HNn.out]
  go_loopw [6, 23] (fun v i wr => ∃ (k : Nat) (A1 : Option Addr) (c1 : Nat), k ≤ n ∧ i = .int .i64 k ∧ v = .slice A1 k c1 ∧ Hid (∃ r, r.length = k ∧ vals r = mostM k ∧ OwnC w.heap.size wr A1 c1 r) ∧ Hid (Below w.heap.size w wr)) (fun _ i _ => n - (intOf i).toNat)
  case atStart => exact ⟨0, none, 0, Nat.zero_le _, rfl, rfl, Lib.hid ⟨[], rfl, rfl, OwnC.nil _ _⟩, HB1⟩
  case round =>
    obtain ⟨k, A1, c1, hk, rfl, rfl, HO, HB⟩ := hrel
    by_cases hkn : k < n
    · have k0 : (0 : Int) ≤ k := by omega
      have kn : (k : Int) < n := by omega
      have k1 : IntKind.u64.wrap (k : Int) = (k : Int) := by rw [IntKind.wrap_u64]; omega
      have k2 : IntKind.u64.wrap ((k : Int) + 1) = (k : Int) + 1 := by rw [IntKind.wrap_u64]; omega
      have k3 : IntKind.u64.wrap ((k : Int) + 2) = (k : Int) + 2 := by rw [IntKind.wrap_u64]; omega
      obtain ⟨r, hr1, hr2, hr3⟩ := HO.out
      obtain ⟨b, hb⟩ : ∃ b, b = (k : Int) + 1 := ⟨_, rfl⟩
      obtain ⟨f, hf⟩ : ∃ f, f = (k : Int) + 2 := ⟨_, rfl⟩
      obtain ⟨W1, hW1⟩ : ∃ W1, W1 = wr.alloc (.cells #[.int .i32 1] 21) := ⟨_, rfl⟩
      obtain ⟨W2, hW2⟩ : ∃ W2, W2 = W1.alloc (.cells #[.int .u64 b, .int .u64 f, .slice (some ⟨wr.heap.size, 0, none⟩) 1 1] 35) := ⟨_, rfl⟩
      have hst := most_step (w5 := wr) (A5 := A1) (c5 := c1) hr3 hr1 HB.out.size hW1 hW2
      have HSt := Lib.hid hst
      have HU := Lib.hid (show U64s b ∧ U64s f by rw [u64s_iff, u64s_iff]; omega)
      have HM := Lib.hid (show mostM (k + 1) = vals r ++ [⟨b, f, [1]⟩] by rw [most_more, hr2, hb, hf])
      have HR1 := Lib.hid hr1
      have HW12 := Lib.hid (show W2 = (wr.alloc (.cells #[.int .i32 1] 21)).alloc (.cells #[.int .u64 ((k : Int) + 1), .int .u64 ((k : Int) + 2), .slice (some ⟨wr.heap.size, 0, none⟩) 1 1] 35) by rw [hW2, hW1, hb, hf])
      clear hr1 hr2 hr3 hb hf hst hW1 hW2
      go_wp2_with (at_builtin; rw [← HW12.out]; refine gapp_at rfl (.tmp 26) (.tmp 35) appV rfl w.heap.size A1 c1 k (flatC r) rfl HSt.out.1 (some ⟨wr.heap.size + 1, 0, none⟩) 1 1 _ rfl HSt.out.2.1 (by omega) HSt.out.2.2.1 ?_; intro A5 c5 w5 ho5 hg5 _; have HX := Lib.hid (HSt.out.2.2.2 A5 c5 w5 ho5 hg5 HU.out.1 HU.out.2); clear ho5 hg5)
      go_roundw
      case rel => exact ⟨k + 1, A5, c5, by omega, by go_num, rfl, Lib.hid ⟨_, by rw [List.length_append, HR1.out]; rfl, by rw [vals_append, HM.out]; rfl, HX.out.1⟩, Lib.hid (HB.out.trans (HX.out.2.mono (Nat.le_refl _)))⟩
      case measure => simp [intOf]; omega
    · obtain rfl : k = n := by omega
      obtain ⟨r, hr1, hr2, hr3⟩ := HO.out
      obtain ⟨W1, hW1⟩ : ∃ W1, W1 = (wr.alloc (.cells #[.int .i32 2] 21)).alloc (.cells #[.int .i64 0, .int .u64 ts, .bool true, .slice (some ⟨wr.heap.size, 0, none⟩) 1 1] 29) := ⟨_, rfl⟩
      have hb0 : Below wr.heap.size wr (wr.alloc (.cells #[.int .i32 2] 21)) := (Below.refl _ _).alloc (Nat.le_refl _) _
      have hb1 : Below wr.heap.size wr W1 := by rw [hW1]; exact hb0.alloc hb0.size _
      have hv := (vec_one wr 2 (by decide)).below ((Below.refl _ _).alloc (Nat.le_refl _) (.cells #[.int .i64 0, .int .u64 ts, .bool true, .slice (some ⟨wr.heap.size, 0, none⟩) 1 1] 29))
      rw [← hW1] at hv
      have hx1 : W1.heap[wr.heap.size + 1]? = some (.cells #[.int .i64 0, .int .u64 ts, .bool true, .slice (some ⟨wr.heap.size, 0, none⟩) 1 1] 29 (0, 0)) := by rw [hW1]; have := heap_alloc_new (wr.alloc (.cells #[.int .i32 2] 21)) (.cells #[.int .i64 0, .int .u64 ts, .bool true, .slice (some ⟨wr.heap.size, 0, none⟩) 1 1] 29); rwa [World.size_alloc] at this
      have hsm : Small r := small_of hr2 (by rw [most_length]; omega) (fun v hv => by unfold mostM at hv; obtain ⟨i, _, rfl⟩ := List.mem_map.1 hv; simp)
      have hrun := run_any 0 ts true (some ⟨wr.heap.size, 0, none⟩) 1 [2] A1 c1 r W1 (hr3.chn.below hb1) hsm hts hv
      have HWa := Lib.hid (fun (X : World) (hX : Below W1.heap.size W1 X) => wants_any 0 ts true (some ⟨wr.heap.size, 0, none⟩) 1 [2] A1 c1 r X ((hr3.chn.below hb1).below hX) hsm hts (hv.below hX))
      have HRu := Lib.hid hrun
      have HX1 := Lib.hid hx1
      have HW1 := Lib.hid hW1
      have HBB := Lib.hid (HB.out.trans (hb1.mono HB.out.size))
      rw [hr1] at HRu HWa
      generalize runN 0 (tsM 0 ts true (rLast (vals r))) (vals r) (List.take 5 [2]) = RN at *
      generalize runG 0 (tsM 0 ts true (rLast (vals r))) (vals r) = RG at *
      generalize runE 0 (tsM 0 ts true (rLast (vals r))) (vals r) (List.take 5 [2]) = RE at *
      simp only [List.length_cons, List.length_nil, Nat.zero_add] at HRu HWa
      clear hr1 hr2 hr3 hb0 hb1 hv hx1 hsm hrun hW1
      go_wp2_with fail
      rw [← HW1.out]
      refine HRu.out.mono ?_
      rintro e w2 ⟨A2, c2, q2, B2, d2, g2, rfl, hv2, ho2, hg2, _, hb2⟩
      have HC2 := Lib.hid hb2
      have HV2 := Lib.hid hv2
      have HO2 := Lib.hid ho2
      have hx2 := (hb2.block _ (lt_of_block HX1.out)).trans HX1.out
      have y0 := (cell_of_row _ _ 0 _ _ _ hx2).trans rfl
      have y1 := (cell_of_row _ _ 1 _ _ _ hx2).trans rfl
      have y2 := (cell_of_row _ _ 2 _ _ _ hx2).trans rfl
      have y3 := (cell_of_row _ _ 3 _ _ _ hx2).trans rfl
      generalize g2.length = l2 at *
      clear hv2 ho2 hg2 hb2 hx2
      go_wp2_with fail
      refine (HWa.out _ HC2.out).mono ?_
      rintro e w3 ⟨A3, c3, q3, B3, d3, g3, rfl, hv3, ho3, hg3, _, hb3⟩
      have hsame := rSame8_any A2 A3 c2 c3 q2 q3 w3 (HO2.out.chn.below hb3) ho3.chn
      rw [HV2.out, hv3, decide_eq_true rfl] at hsame
      have HSa := Lib.hid hsame
      have HC3 := Lib.hid (HBB.out.trans ((HC2.out.trans (hb3.mono HC2.out.size)).mono HBB.out.size))
      generalize g3.length = l3 at *
      generalize q2.length = m2 at *
      generalize q3.length = m3 at *
      clear hv3 ho3 hg3 hb3 hsame y0 y1 y2 y3
      go_wp2_with fail
      refine HSa.out.mono ?_
      rintro e w4 ⟨rfl, hb4⟩
      have HC4 := Lib.hid (HC3.out.trans (hb4.mono HC3.out.size))
      clear hb4
      go_wp2
      go_ret
      exact ⟨rfl, HC4.out⟩

set_option maxRecDepth 100000 in
theorem lifted (os : Os) (started : os.Started) (H : Type) (enc : TypeId × Value → H) :
    ReturnsInHanded {} Try.checked os 5 .any (Rows.chainMostSpec.pre6 enc Try.prog Try.f5 Rows.chainMostRow.domain false) (Rows.chainMostSpec.post enc Try.prog Try.f5 false true false false) := by
  refine returnsInHanded_of_change (C := Try.checked) Try.own started (by kernel_rfl) Try.func5
    (ChangeSpec.witness6 (enc := enc) (C := Try.checked) false ⟨#[], #[.int .i64 0, .int .u64 0], []⟩ 8 (by kernel_rfl) (by kernel_rfl) (by kernel_rfl) (by kernel_rfl)) ?_
  intro W base args ds gs before hval0 hW hcnd _
  have hval : ∀ (j : Nat) t v, Try.f5.params[j]? = some t → args[j]? = some v → Value.okWide Try.prog W .any base t v := hval0
  have hW' := hW
  obtain ⟨p, q, hA0, hV, rfl, hfz, hnd⟩ := hW
  have hA : DataW.TrodAll enc Try.prog W 0 (fun _ => true) true Try.f5.params.toList args.toList ds p := hA0
  rw [Try.params5] at hA hval
  have hA' := hA
  obtain ⟨v0, vs0, d0, ds0, p0, q0, hargs, rfl, rfl, h0, r0⟩ := trodAll_cons hA
  obtain ⟨v1, vs1, d1, ds1, p1, q1, rfl, rfl, rfl, h1, r1⟩ := trodAll_cons r0
  obtain ⟨rfl, rfl, rfl⟩ := trodAll_nil r1
  obtain rfl : args = #[v0, v1] := by cases args; simp_all
  obtain ⟨rfl, rfl⟩ := trodVars_none hV
  obtain ⟨a0, rfl, w0⟩ := open_num (hval 0 3 v0 rfl rfl) h0
  obtain ⟨a1, rfl, w1⟩ := open_time (hval 1 26 v1 rfl rfl) h1
  clear hA0 hval0
  refine (walk a0 w0 a1 w1).mono fun e W' ⟨he, bel⟩ => ?_
  subst he
  exact ⟨_, rfl, _, _, _, [], _, [], hW', trodAll_mk1 (shut_bool Try.underlying4 _), trodAll_below bel _ _ _ _ (by kernel_rfl) hA', rfl, bel.frame _, fun h => by cases h⟩

theorem proved : Rows.ChainMostSaid :=
  OpenClaim.holds_of_wide 5 Try.f5 rfl rfl rfl rfl rfl rfl rfl ⟨rfl, rfl, rfl, rfl, rfl⟩ rfl rfl rfl rfl rfl (by kernel_rfl) Try.func5 (by kernel_rfl)
    (of_decide_eq_true (by kernel_rfl)) (by unfold Func.isWrapper; first | (rw [if_pos (by decide +kernel)]; kernel_rfl) | (rw [if_neg (by decide +kernel)]; exact ⟨rfl, rfl⟩))
    (fun os started H enc _ => lifted os started H enc)
#print axioms proved
end Go.Proofs.Ytbnedhhkapbliaa.chainMost
