/-
  The document's answers for layer 9: Cell, Right, Free, New.
-/
import Derived.Test.YtpdebkpblpipcaaAreSame
import Derived.Test.YtpdebkpblpipcaaAreOwn
namespace Go.Proofs.Ytpdebkpblpipcaa
open Go.RowKit Go.Shelf
set_option linter.unusedVariables false
set_option linter.unusedSimpArgs false
set_option maxRecDepth 100000

theorem may_true (i b f : Int) (x : List Int) : mayE ⟨true, i, b, f, x⟩ = verR b f x := by
  unfold mayE soundE
  simp [zc]
theorem may_false (i b f : Int) (x : List Int) : mayE ⟨false, i, b, f, x⟩ = (decide (i = 0) && (decide (b = 0) && (decide (f = 0) && decide (x.length = 0)))) := by
  unfold mayE soundE
  rw [Bool.eq_iff_iff]
  simp [zc]

set_option maxHeartbeats 1000000 in
theorem rCell_any (p : Pa) (w : World) (h : Vec .i32 w p.B p.c p.e.x) (hf : Fit p.e) :
    Calls Try.prog 24 #[.agg #[.bool p.e.u, .int .u64 p.e.i, .int .u64 p.e.b, .int .u64 p.e.f, .slice p.B p.e.x.length p.c]] w fun y w' => y = .returned (.bool (mayE p.e)) ∧ Below w.heap.size w w' := by
  obtain ⟨⟨u, i, b, f, x⟩, B, c⟩ := p
  dsimp only at h ⊢
  have hB := cel_alloc w u i b f B x.length c
  have HB := Lib.hid hB
  cases u
  · have HR := Lib.hid (may_false i b f x)
    generalize mayE ⟨false, i, b, f, x⟩ = R at *
    generalize x.length = n at *
    clear h hB hf
    by_cases h1 : i = 0
    · subst h1
      by_cases h2 : b = 0
      · subst h2
        by_cases h3 : f = 0
        · subst h3
          have HF := Lib.hid (show R = decide (n = 0) by rw [HR.out]; simp)
          by_cases h4 : n = 0
          · subst h4
            have HF2 := Lib.hid (show R = true by rw [HF.out]; rfl)
            go_enter Try.func24, Try.ntmps24
            go_wp2
            go_ret
            rw [HF2.out]
            exact ⟨rfl, HB.out⟩
          · have HF2 := Lib.hid (show R = false by rw [HF.out]; simpa using h4)
            have t4 : ((n : Int) == 0) = false := by simp; omega
            clear h4 HF
            go_enter Try.func24, Try.ntmps24
            go_wp2
            go_ret
            rw [HF2.out]
            exact ⟨rfl, HB.out⟩
        · have HF := Lib.hid (show R = false by rw [HR.out]; simp [h3])
          have t3 : (f == 0) = false := by simpa using h3
          go_enter Try.func24, Try.ntmps24
          go_wp2
          go_ret
          rw [HF.out]
          exact ⟨rfl, HB.out⟩
      · have HF := Lib.hid (show R = false by rw [HR.out]; simp [h2])
        have t2 : (b == 0) = false := by simpa using h2
        go_enter Try.func24, Try.ntmps24
        go_wp2
        go_ret
        rw [HF.out]
        exact ⟨rfl, HB.out⟩
    · have HF := Lib.hid (show R = false by rw [HR.out]; simp [h1])
      have t1 : (i == 0) = false := by simpa using h1
      go_enter Try.func24, Try.ntmps24
      go_wp2
      go_ret
      rw [HF.out]
      exact ⟨rfl, HB.out⟩
  · have HC := Lib.hid (rRightVersion_any b f B c x _ hf.2.1 hf.2.2 (h.below hB))
    have HR := Lib.hid (may_true i b f x)
    generalize mayE ⟨true, i, b, f, x⟩ = R at *
    generalize x.length = n at *
    clear h hB hf
    go_enter Try.func24, Try.ntmps24
    go_wp2_with fail
    refine HC.out.mono ?_
    rintro y w1 ⟨rfl, hb1⟩
    have HB1 := Lib.hid (HB.out.trans (hb1.mono HB.out.size))
    clear hb1
    go_wp2
    go_ret
    rw [HR.out]
    exact ⟨rfl, HB1.out⟩

theorem right_take {l : List Ce} (h : NoneC (fun e => !mayE e) l l.length) : arB l = decide (l.length = 96) := by
  unfold arB
  have : l.all mayE = true := by
    rw [List.all_eq_true]
    intro e he
    obtain ⟨j, hj, rfl⟩ := List.getElem_of_mem he
    have := h j _ hj (List.getElem?_eq_getElem hj)
    simpa using this
  rw [this, Bool.and_true]
theorem right_no {l : List Ce} {k : Nat} {e : Ce} (h : l[k]? = some e) (he : mayE e = false) : arB l = false := by
  unfold arB
  have : l.all mayE = false := by rw [List.all_eq_false]; exact ⟨e, List.mem_of_getElem? h, by simp [he]⟩
  rw [this, Bool.and_false]

set_option maxHeartbeats 1000000 in
theorem rRightA_any (A : Option Addr) (c : Nat) (q : List Pa) (w : World) (h : Are w A c q) :
    Calls Try.prog 17 #[.agg #[.slice A q.length c]] w fun y w' => y = .returned (.bool (arB (ces q))) ∧ Below w.heap.size w w' := by
  obtain ⟨n, hn⟩ : ∃ n, n = q.length := ⟨_, rfl⟩
  have hmn : n ≤ 9223372036854775807 := by rw [hn]; exact h.many
  obtain ⟨W, hW⟩ : ∃ W, W = w.alloc (.cells #[.slice A n c] 24) := ⟨_, rfl⟩
  have hb : Below w.heap.size w W := by rw [hW]; exact (Below.refl _ w).alloc (Nat.le_refl _) _
  have hx : Boxed W w.heap.size 24 (.slice A n c) := by rw [hW]; exact Boxed.new w _ _
  have HQ := Lib.hid (h.below hb)
  have HN := Lib.hid hn
  have HB := Lib.hid hb
  have HX := Lib.hid (fun (X : World) (hX : Below W.heap.size W X) => show X.cell? ⟨w.heap.size, 0, none⟩ = some (.slice A n c) from Boxed.cell ((hX.block _ hx.lt).trans hx))
  have HW := Lib.hid hW
  rw [← hn]
  generalize hR : arB (ces q) = R at *
  have HR := Lib.hid hR
  clear h hn hb hx hW hR
  go_enter Try.func17, Try.ntmps17
  go_wp2
  rw [← HW.out]
  go_loopw [3] (fun i wr => ∃ k : Nat, k ≤ n ∧ i = .int .i64 k ∧ Hid (NoneC (fun e => !mayE e) (ces q) k) ∧ Hid (Below W.heap.size W wr)) (fun i _ => n - (intOf i).toNat)
  case atStart => exact ⟨0, Nat.zero_le _, rfl, Lib.hid (fun j u hj => by omega), Lib.hid (Below.refl _ _)⟩
  case round =>
    obtain ⟨k, hk, rfl, HK, HBr⟩ := hrel
    have ca := HX.out _ HBr.out
    by_cases hkn : k < n
    · obtain ⟨b, o, p, rfl, hp, hbb, c0, c1, c2, c3, c4, hv, hf⟩ := (HQ.out.below HBr.out).at_ (i := k) (by rw [← HN.out]; exact hkn)
      have HP := Lib.hid (ces_at hp)
      have k0 : (0 : Int) ≤ k := by omega
      have kn : (k : Int) < n := by omega
      have HV := Lib.hid (rCell_any p wr hv hf)
      clear hv hp hf
      cases hvis : mayE p.e with
      | false =>
        have HF := Lib.hid (show R = false by rw [← HR.out]; exact right_no HP.out hvis)
        rw [hvis] at HV
        clear hvis
        go_wp2_with fail
        refine HV.out.mono ?_
        rintro e w1 ⟨rfl, hb1⟩
        have HB1 := Lib.hid (HB.out.trans ((HBr.out.trans (hb1.mono HBr.out.size)).mono HB.out.size))
        clear hb1
        go_wp2
        go_ret
        rw [HF.out]
        exact ⟨rfl, HB1.out⟩
      | true =>
        have HK2 := Lib.hid (HK.out.step HP.out (by simp [hvis]))
        rw [hvis] at HV
        clear hvis
        go_wp2_with fail
        refine HV.out.mono ?_
        rintro e w1 ⟨rfl, hb1⟩
        have HB1 := Lib.hid (HBr.out.trans (hb1.mono HBr.out.size))
        clear hb1
        go_wp2
        go_roundw
        case rel => exact ⟨k + 1, by omega, by go_num, HK2, HB1⟩
        case measure => simp [intOf]; omega
    · obtain rfl : k = n := by omega
      have HF := Lib.hid (show R = decide (k = 96) by rw [← HR.out, right_take (l := ces q) (by rw [ces_length, ← HN.out]; exact HK.out), ces_length, ← HN.out])
      have HBF := Lib.hid (HB.out.trans (HBr.out.mono HB.out.size))
      by_cases h96 : k = 96
      · have t : ((k : Int) == 96) = true := by simp; omega
        have HF2 := Lib.hid (show R = true by rw [HF.out]; simpa using h96)
        clear h96
        go_wp2
        go_ret
        rw [HF2.out]
        exact ⟨rfl, HBF.out⟩
      · have t : ((k : Int) == 96) = false := by simp; omega
        have HF2 := Lib.hid (show R = false by rw [HF.out]; simpa using h96)
        clear h96
        go_wp2
        go_ret
        rw [HF2.out]
        exact ⟨rfl, HBF.out⟩

theorem free_take {l : List Ce} {k : Nat} {e : Ce} (h : l[k]? = some e) : freeN (l.take (k + 1)) = freeN (l.take k) + (if e.u = true then 0 else 1) := by
  unfold freeN
  rw [List.take_add_one, h, Option.toList_some, List.filter_append, List.length_append]
  cases hu : e.u <;> simp [hu]
set_option maxHeartbeats 1000000 in
theorem rFree_any (A : Option Addr) (c : Nat) (q : List Pa) (w : World) (h : Are w A c q) :
    Calls Try.prog 21 #[.agg #[.slice A q.length c]] w fun y w' => y = .returned (.int .i64 (freeN (ces q))) ∧ Below w.heap.size w w' := by
  obtain ⟨n, hn⟩ : ∃ n, n = q.length := ⟨_, rfl⟩
  have hmn : n ≤ 9223372036854775807 := by rw [hn]; exact h.many
  obtain ⟨W, hW⟩ : ∃ W, W = w.alloc (.cells #[.slice A n c] 24) := ⟨_, rfl⟩
  have hb : Below w.heap.size w W := by rw [hW]; exact (Below.refl _ w).alloc (Nat.le_refl _) _
  have hx : Boxed W w.heap.size 24 (.slice A n c) := by rw [hW]; exact Boxed.new w _ _
  have HQ := Lib.hid (h.below hb)
  have HN := Lib.hid hn
  have HB := Lib.hid hb
  have ca := hx.cell
  have HW := Lib.hid hW
  have HR := Lib.hid (show freeN ((ces q).take n) = freeN (ces q) by rw [hn, ← ces_length, List.take_length])
  rw [← hn]
  generalize freeN (ces q) = R at *
  clear h hn hb hx hW
  go_enter Try.func21, Try.ntmps21
  go_wp2
  rw [← HW.out]
  go_loopw [3, 4] (fun v i wr => ∃ k m : Nat, k ≤ n ∧ i = .int .i64 k ∧ m ≤ k ∧ v = .int .i64 m ∧ Hid (freeN ((ces q).take k) = m) ∧ wr = W) (fun _ i _ => n - (intOf i).toNat)
  case atStart => exact ⟨0, 0, Nat.zero_le _, rfl, Nat.le_refl _, rfl, Lib.hid rfl, rfl⟩
  case round =>
    obtain ⟨k, m, hk, rfl, hm, rfl, HK, rfl⟩ := hrel
    by_cases hkn : k < n
    · obtain ⟨b, o, p, rfl, hp, hbb, c0, c1, c2, c3, c4, hv, hf⟩ := HQ.out.at_ (i := k) (by rw [← HN.out]; exact hkn)
      have HT := Lib.hid (free_take (ces_at hp))
      have k0 : (0 : Int) ≤ k := by omega
      have kn : (k : Int) < n := by omega
      clear hv hp hf c1 c2 c3 c4
      cases hu : p.e.u with
      | true =>
        rw [hu] at c0 HT
        have HK2 := Lib.hid (show freeN ((ces q).take (k + 1)) = m by rw [HT.out, HK.out]; rfl)
        clear hu
        go_wp2
        go_roundw
        case rel => exact ⟨k + 1, m, by omega, by go_num, by omega, rfl, HK2, trivial⟩
        case measure => simp [intOf]; omega
      | false =>
        rw [hu] at c0 HT
        have HK2 := Lib.hid (show freeN ((ces q).take (k + 1)) = m + 1 by rw [HT.out, HK.out]; rfl)
        clear hu
        go_wp2
        go_roundw
        case rel => exact ⟨k + 1, m + 1, by omega, by go_num, by omega, by go_num, HK2, trivial⟩
        case measure => simp [intOf]; omega
    · obtain rfl : k = n := by omega
      have HF := Lib.hid (show m = R by rw [← HR.out]; exact HK.out.symm)
      go_wp2
      go_ret
      rw [HF.out]
      exact ⟨rfl, HB.out⟩

theorem rNewA_any (w : World) : Calls Try.prog 16 #[] w (GivesA w (List.replicate 96 zc)) := by
  obtain ⟨W0, hW0⟩ : ∃ W0, W0 = w.alloc (.cells #[.slice none 0 0] 24) := ⟨_, rfl⟩
  have hz : W0.heap.size = w.heap.size + 1 := by rw [hW0]; simp
  have hb0 : Below w.heap.size w W0 := by rw [hW0]; exact (Below.refl _ w).alloc (Nat.le_refl _) _
  have hx0 : W0.heap[w.heap.size]? = some (.cells #[.slice none 0 0] 24 (0, 0)) := by rw [hW0]; exact heap_alloc_new _ _
  obtain ⟨W1, hW1⟩ : ∃ W1, W1 = W0.alloc (.cells z96 45) := ⟨_, rfl⟩
  have hO : OwnA W0.heap.size W1 (some ⟨W0.heap.size, 0, none⟩) 96 (List.replicate 96 pz) := by rw [hW1]; exact own96 _
  have hb1 : Below w.heap.size w W1 := by rw [hW1]; exact hb0.alloc hb0.size _
  have hx1 : W1.heap[w.heap.size]? = some (.cells #[.slice none 0 0] 24 (0, 0)) := by rw [hW1]; exact (Below.heap_alloc _ _ _ (by omega)).trans hx0
  have c1 := (cell_of_row _ _ 0 _ _ _ hx1).trans rfl
  have f1 := frozen_of_row _ _ 0 _ _ hx1
  have HX := Lib.hid (show OwnA w.heap.size (W1.setCell ⟨w.heap.size, 0, none⟩ (.slice (some ⟨w.heap.size + 1, 0, none⟩) 96 96)) (some ⟨w.heap.size + 1, 0, none⟩) 96 (List.replicate 96 pz) ∧ Below w.heap.size w (W1.setCell ⟨w.heap.size, 0, none⟩ (.slice (some ⟨w.heap.size + 1, 0, none⟩) 96 96)) from
    ⟨by rw [hz] at hO; exact (hO.turn (S := fun i => i = w.heap.size) (w' := W1.setCell ⟨w.heap.size, 0, none⟩ (.slice (some ⟨w.heap.size + 1, 0, none⟩) 96 96)) ⟨rfl, rfl, rfl, by simp [World.setCell], fun k _ hk => Below.heap_setCell _ _ _ _ hk⟩ (fun i hi _ e => by omega)).mono (by omega), hb1.setCell (Nat.le_refl _) _⟩)
  have r0 : (W1.setCell ⟨w.heap.size, 0, none⟩ (.slice (some ⟨w.heap.size + 1, 0, none⟩) 96 96)).cell? ⟨w.heap.size, 0, none⟩ = some (.slice (some ⟨w.heap.size + 1, 0, none⟩) 96 96) := World.cell?_setCell_same _ _ _ c1
  have HW := Lib.hid (show W1 = (w.alloc (.cells #[.slice none 0 0] 24)).alloc (.cells z96 45) by rw [hW1, hW0])
  clear hz hb0 hx0 hO hb1 hx1 hW1 hW0
  go_enter Try.func16, Try.ntmps16
  go_wp2_with (rw [← HW.out])
  exact bodyPost_ret (v := .agg #[.slice (some ⟨w.heap.size + 1, 0, none⟩) 96 96]) (by simp [results, Try.results16, go_sem, r0]) rfl ⟨w.heap.size + 1, List.replicate 96 pz, rfl, ces_pz, by simp, HX.out.1, HX.out.2⟩

end Go.Proofs.Ytpdebkpblpipcaa
