/-
  The laws' wakes.
-/
import Derived.Test.YtbnedhhkapbliaaChnWants
namespace Go.Proofs.Ytbnedhhkapbliaa
open Go.RowKit Go.Shelf
set_option linter.unusedVariables false
set_option linter.unusedSimpArgs false
set_option maxRecDepth 100000

theorem vec_one (w : World) (z : Int) (hz : (Lit.int .i32 z).wf = true) : Vec .i32 (w.alloc (.cells #[.int .i32 z] 21)) (some ⟨w.heap.size, 0, none⟩) 1 [z] :=
  ⟨by simp, by omega, fun _ => ⟨w.heap.size, 0, rfl, by simp, fun j hj => by
    obtain rfl : j = 0 := by simpa using hj
    exact cell_laid w #[.int .i32 z] 21 0⟩, by simpa using hz⟩
theorem wk1 : putE [] 3 [7] = 0 ∧ putN [] 3 [7] = [⟨3, 0, [7]⟩] := by decide +kernel
theorem wk2 : putE [⟨3, 0, [7]⟩] 5 [8] = 0 ∧ putN [⟨3, 0, [7]⟩] 5 [8] = [⟨3, 5, [7]⟩, ⟨5, 0, [8]⟩] := by decide +kernel
theorem wk3 : atM [⟨3, 5, [7]⟩, ⟨5, 0, [8]⟩] 4 = some 0 := by decide +kernel
theorem wk4 : chkM [⟨3, 5, [7]⟩, ⟨5, 0, [8]⟩] = 0 ∧ pruN [⟨3, 5, [7]⟩, ⟨5, 0, [8]⟩] 5 = [⟨5, 0, [8]⟩] ∧ pruG [⟨3, 5, [7]⟩, ⟨5, 0, [8]⟩] 5 = [⟨3, 5, [7]⟩] := by decide +kernel
theorem wk5 : (if chainB [⟨3, 5, [7]⟩, ⟨5, 0, [8]⟩] = true then lastM [⟨3, 5, [7]⟩, ⟨5, 0, [8]⟩] else 0) = 5 := by decide +kernel
theorem len_of {q : List Pl} {l : List Vr} (h : vals q = l) : q.length = l.length := by rw [← h, vals_length]
theorem small_of {q : List Pl} {l : List Vr} (h : vals q = l) (h1 : l.length ≤ 100000) (h2 : ∀ v ∈ l, v.x.length ≤ 100000) : Small q :=
  ⟨by rw [len_of h]; exact h1, fun p hp => h2 p.v (by rw [← h]; exact List.mem_map_of_mem (f := fun p : Pl => p.v) hp)⟩

set_option maxHeartbeats 2000000 in
theorem wakes_any (w : World) : Calls Try.prog 9 #[] w fun e w' => e = .returned (.bool true) ∧ Below w.heap.size w w' := by
  have hb1 : Below w.heap.size w (w.alloc (.cells #[.int .i32 7] 21)) := (Below.refl _ w).alloc (Nat.le_refl _) _
  have hp1 := put_any none (some ⟨w.heap.size, 0, none⟩) 0 1 [] [7] 3 (w.alloc (.cells #[.int .i32 7] 21)) (Chn.nil _) ⟨by simp, by simp⟩ (vec_one w 7 (by decide)) (by simp) (show (Lit.int .u64 3).wf = true by decide)
  have e0 : vals [] = [] := rfl
  rw [e0, wk1.1, wk1.2] at hp1
  have HP1 := Lib.hid hp1
  have HB1 := Lib.hid hb1
  clear hp1 hb1 e0
  go_enter Try.func9, Try.ntmps9
  go_wp2_with fail
  refine HP1.out.mono ?_
  rintro e w1 ⟨A1, c1, q1, rfl, hv1, ho1, hb1⟩
  have HB2 := Lib.hid (HB1.out.trans (hb1.mono HB1.out.size))
  have hl1 := len_of hv1
  rw [hl1]
  have hbx : Below w1.heap.size w1 (w1.alloc (.cells #[.int .i32 8] 21)) := (Below.refl _ w1).alloc (Nat.le_refl _) _
  have hp2 := put_any A1 (some ⟨w1.heap.size, 0, none⟩) c1 1 q1 [8] 5 (w1.alloc (.cells #[.int .i32 8] 21)) (ho1.chn.below hbx) (small_of hv1 (by simp) (by simp)) (vec_one w1 8 (by decide)) (by simp) (show (Lit.int .u64 5).wf = true by decide)
  rw [hv1, wk2.1, wk2.2, hl1] at hp2
  have HP2 := Lib.hid hp2
  have HB3 := Lib.hid (HB2.out.trans (hbx.mono HB2.out.size))
  clear hp2 hbx hl1 hv1 ho1 hb1
  simp only [List.length_cons, List.length_nil, Nat.zero_add] at HP2 ⊢
  go_wp2_with fail
  refine HP2.out.mono ?_
  rintro e w2 ⟨A2, c2, q2, rfl, hv2, ho2, hb2⟩
  have HB4 := Lib.hid (HB3.out.trans (hb2.mono HB3.out.size))
  have hl2 := len_of hv2
  rw [hl2]
  have HQ2 := Lib.hid ho2.chn
  have HV2 := Lib.hid hv2
  have HL2 := Lib.hid hl2
  have hat := at_any A2 c2 q2 4 w2 ho2.chn
  rw [hv2, wk3, hl2] at hat
  have HAt := Lib.hid hat
  have HPr := Lib.hid (fun (X : World) (hX : Below w2.heap.size w2 X) => prune_any A2 c2 q2 5 X (ho2.chn.below hX) (small_of hv2 (by simp) (by simp)))
  have HLa := Lib.hid (fun (X : World) (hX : Below w2.heap.size w2 X) => last_any A2 c2 q2 X (ho2.chn.below hX))
  rw [hv2, hl2, wk4.1, wk4.2.1, wk4.2.2] at HPr
  rw [hv2, hl2, wk5] at HLa
  clear hat hl2 hv2 ho2 hb2
  simp only [List.length_cons, List.length_nil, Nat.zero_add, Nat.reduceAdd] at HAt HPr HLa ⊢
  go_wp2_with fail
  refine HAt.out.mono ?_
  unfold atK atB
  dsimp only
  rintro e w3 ⟨rfl, hb3⟩
  have HC3 := Lib.hid hb3
  clear hb3
  go_wp2_with fail
  refine (HPr.out _ HC3.out).mono ?_
  rintro e w4 ⟨A4, c4, q4, A5, c5, q5, rfl, hv4, _, hv5, _, hb4⟩
  have hl4 := len_of hv4
  have hl5 := len_of hv5
  rw [hl4, hl5]
  simp only [List.length_cons, List.length_nil, Nat.zero_add]
  have HC4 := Lib.hid (HC3.out.trans (hb4.mono HC3.out.size))
  have HB5 := Lib.hid (HB4.out.trans (HC4.out.mono HB4.out.size))
  obtain ⟨b, o, p, rfl, hp, hb, d0, d1, d2, _, _⟩ := (HQ2.out.below HC4.out).at_ (i := 0) (by rw [HL2.out]; simp)
  have hpv : p.v = ⟨3, 5, [7]⟩ := by
    have := vals_at hp
    rw [HV2.out] at this
    simpa using this.symm
  rw [hpv] at d1
  simp only [Nat.zero_mul, Nat.add_zero] at d1
  clear hb4 hl4 hl5 hv4 hv5 hp hpv d0 d2 hb
  go_wp2_with fail
  refine (HLa.out _ HC4.out).mono ?_
  rintro e w5 ⟨rfl, hb5⟩
  have HB6 := Lib.hid (HB5.out.trans (hb5.mono HB5.out.size))
  clear hb5
  go_wp2
  go_ret
  exact ⟨rfl, HB6.out⟩

end Go.Proofs.Ytbnedhhkapbliaa
