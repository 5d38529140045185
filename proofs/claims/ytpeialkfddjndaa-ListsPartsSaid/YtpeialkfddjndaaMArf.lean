/-
  AreMap, AreDrop, AreDoPut, LawFrame.
-/
import Derived.Test.YtpeialkfddjndaaMAre
import Derived.Maps.RangeWalk
import Derived.Maps.OwnSet
import Derived.Maps.Ext
import Derived.Test.YtpeialkfddjndaaRows
import Derived.ProofKit
import Derived.OpenShut
import Derived.ChangeOld
import Derived.Deep.Matrix
import Derived.Deep.SlicePairs
import Derived.Deep.Fields
namespace Go.Proofs.Ytpeialkfddjndaa
open Go.RowKit Go.Shelf Go.Maps
set_option linter.unusedVariables false
set_option linter.unusedSimpArgs false
set_option maxRecDepth 100000

abbrev kl (k : Int) : Lit := .int .i64 k
abbrev I64 (k : Int) : Prop := (Lit.int .i64 k).wf = true
theorem keyed : Keyed Try.prog 3 := int_keyed Try.underlying3
theorem keyAt {k : Int} (h : I64 k) : keyOf Try.prog 3 (.int .i64 k) = some (kl k) := keyOf_int_mk Try.underlying3 h
theorem zeroUnit (w : World) : (zeroValue 115).run Try.prog w = .ok (.agg #[]) w := by kernel_rfl
/-- The keys of D are these. -/
def SetD (D : DataW Value) (ks : List Int) : Prop := ∀ k, I64 k → has D (kl k) = decide (k ∈ ks)
/-- The map b has these keys. -/
def MapD (w : World) (b n : Nat) (ks : List Int) : Prop := ∃ D : DataW Value, w.ownsMap Try.prog 3 unitElem b n D ∧ SetD D ks
theorem MapD.lt {w : World} {b n : Nat} {ks : List Int} (h : MapD w b n ks) : b < w.heap.size := by obtain ⟨D, h, _⟩ := h; exact h.lt
theorem MapD.same {w w' : World} {b n : Nat} {ks : List Int} (h : MapD w b n ks) (hb : w'.heap[b]? = w.heap[b]?) : MapD w' b n ks := by
  obtain ⟨D, ⟨es, clock, h1, h2⟩, ht⟩ := h
  exact ⟨D, ⟨es, clock, hb.trans h1, h2⟩, ht⟩
theorem MapD.made (w : World) : MapD (w.alloc (.map #[] 0)) w.heap.size 0 [] := ⟨_, World.ownsMap_made w _ _ _, fun k _ => by simp [has_eq]⟩
theorem setD_put {D : DataW Value} {ks : List Int} (hm : IsMap D) (h : SetD D ks) {k : Int} (hk : I64 k) (d : DataW Value) : SetD (D.put (kl k) d) (ks ++ [k]) := by
  intro j hj
  by_cases e : j = k
  · subst e; rw [has_put_same hm (k := kl j) trivial]; simp
  · rw [has_put_other (by simpa using e), h j hj]; simp [e]

/-! ### what is dropped -/
def dropOk (l : List Ce) (ss : List Int) : Bool := ss.all (usedB l) && decide ss.Nodup
def dropE (l : List Ce) (ss : List Int) : Int := if arB l = true then (if dropOk l ss = true then 0 else 191) else 190
def setZ (l : List Ce) (ss : List Int) : List Ce := l.mapIdx fun j e => if (j : Int) ∈ ss then zc else e
def dropL (l : List Ce) (ss : List Int) : List Ce := if dropE l ss = 0 then setZ l ss else []
theorem drop_not {l : List Ce} {ss : List Int} {E : Int} (h : dropE l ss = E) (hE : E ≠ 0) : dropL l ss = [] := by unfold dropL; rw [h, if_neg hE]
theorem drop_bad {l : List Ce} {ss : List Int} (hr : arB l = true) (h : dropOk l ss = false) : dropE l ss = 191 := by unfold dropE; rw [hr, h]; rfl
theorem drop_good {l : List Ce} {ss : List Int} (hr : arB l = true) (h : dropOk l ss = true) : dropE l ss = 0 := by unfold dropE; rw [hr, h]; rfl
theorem ok_dup {l : List Ce} {ss : List Int} {k : Nat} {x : Int} (hx : ss[k]? = some x) (h : x ∈ ss.take k) : dropOk l ss = false := by
  unfold dropOk
  have : ¬ ss.Nodup := by
    intro hn
    obtain ⟨j, hj, e⟩ := List.getElem_of_mem h
    have hjk : j < k := by simp at hj; omega
    have hkl : k < ss.length := (List.getElem?_eq_some_iff.1 hx).1
    have e2 : ss[j]'(by omega) = ss[k] := by
      rw [List.getElem_take] at e
      rw [e]
      exact (List.getElem?_eq_some_iff.1 hx).2.symm
    exact absurd ((List.getElem_inj hn).1 e2) (by omega)
  simp [this]
theorem ok_free {l : List Ce} {ss : List Int} {k : Nat} {x : Int} (hx : ss[k]? = some x) (h : usedB l x = false) : dropOk l ss = false := by
  unfold dropOk
  have : ss.all (usedB l) = false := by rw [List.all_eq_false]; exact ⟨x, List.mem_of_getElem? hx, by simp [h]⟩
  rw [this]; rfl
/-- The first k may be dropped. -/
def OkTo (l : List Ce) (ss : List Int) (k : Nat) : Prop := (∀ x ∈ ss.take k, usedB l x = true) ∧ (ss.take k).Nodup
theorem OkTo.step {l : List Ce} {ss : List Int} {k : Nat} {x : Int} (h : OkTo l ss k) (hx : ss[k]? = some x) (hu : usedB l x = true) (hn : x ∉ ss.take k) : OkTo l ss (k + 1) := by
  have e : ss.take (k + 1) = ss.take k ++ [x] := by rw [List.take_add_one, hx]; rfl
  refine ⟨fun y hy => ?_, ?_⟩
  · rw [e] at hy
    rcases List.mem_append.1 hy with hy | hy
    · exact h.1 y hy
    · obtain rfl : y = x := by simpa using hy
      exact hu
  · rw [e, List.nodup_append]
    refine ⟨h.2, by simp, ?_⟩
    intro a ha b hb
    obtain rfl : b = x := by simpa using hb
    intro e2; subst e2; exact hn ha
theorem OkTo.all {l : List Ce} {ss : List Int} (h : OkTo l ss ss.length) : dropOk l ss = true := by
  obtain ⟨h1, h2⟩ := h
  rw [List.take_length] at h1 h2
  unfold dropOk
  rw [List.all_eq_true.2 h1, decide_eq_true h2]; rfl
theorem ok_lt {l : List Ce} {ss : List Int} (h : dropOk l ss = true) : ∀ x ∈ ss, ∃ j : Nat, x = j ∧ j < l.length := by
  unfold dropOk at h
  rw [Bool.and_eq_true, List.all_eq_true] at h
  intro x hx
  obtain ⟨j, e, hj, _⟩ := (usedB_iff l x).1 (h.1 x hx)
  exact ⟨j, e, hj⟩
/-- What is left while those that are not left have been dropped. -/
def ZTo (l : List Ce) (ss : List Int) (left : Lit → Bool) (l' : List Ce) : Prop := l'.length = l.length ∧ ∀ j, j < l.length → ceAt l' j = if (j : Int) ∈ ss ∧ left (kl j) = false then zc else ceAt l j
theorem ZTo.start {l : List Ce} {ss : List Int} {left : Lit → Bool} (h : ∀ x ∈ ss, left (kl x) = true) : ZTo l ss left l := ⟨rfl, fun j _ => by
  rw [if_neg]
  rintro ⟨h1, h2⟩
  rw [h _ h1] at h2; cases h2⟩
theorem ZTo.step {l l' : List Ce} {ss : List Int} {left : Lit → Bool} {x : Nat} (h : ZTo l ss left l') (hx : (x : Int) ∈ ss) (hl : x < l.length) : ZTo l ss (fun z => left z && !z.sameKey (kl x)) (l'.set x zc) := by
  refine ⟨by rw [List.length_set]; exact h.1, fun j hj => ?_⟩
  by_cases e : j = x
  · subst e
    have : ceAt (l'.set j zc) j = zc := by simp [ceAt, List.getD, h.1, hl]
    rw [this, if_pos ⟨hx, by simp [Lit.sameKey]⟩]
  · have : ceAt (l'.set x zc) j = ceAt l' j := by simp [ceAt, List.getD, List.getElem?_set, Ne.symm e]
    rw [this, h.2 j hj]
    have hs : (kl (j : Int)).sameKey (kl (x : Int)) = false := by simp [Lit.sameKey]; omega
    simp [hs]
theorem ZTo.done {l l' : List Ce} {ss : List Int} {left : Lit → Bool} (h : ZTo l ss left l') (hl : ∀ z, left z = false) : l' = setZ l ss := by
  apply List.ext_getElem?
  intro j
  by_cases hj : j < l.length
  · rw [at_ce (by rw [h.1]; exact hj), h.2 j hj]
    unfold setZ
    rw [List.getElem?_mapIdx, at_ce hj]
    simp [hl]
  · rw [List.getElem?_eq_none (by rw [h.1]; omega), List.getElem?_eq_none (by unfold setZ; simp; omega)]

end Go.Proofs.Ytpeialkfddjndaa

namespace Go.Proofs.Ytpeialkfddjndaa
open Go.RowKit Go.Shelf Go.Maps
set_option linter.unusedVariables false
set_option linter.unusedSimpArgs false
set_option maxRecDepth 100000

/-- What lies in the boxes of Drop. -/
structure DropB (w W0 : World) (A : Option Addr) (n c : Nat) : Prop where
  size : W0.heap.size = w.heap.size + 2
  below : Below w.heap.size w W0
  ar : Boxed W0 w.heap.size 37 (.slice A n c)
  res : Boxed W0 (w.heap.size + 1) 37 (.slice none 0 0)
theorem dropB (w : World) (A : Option Addr) (n c : Nat) : DropB w ((w.alloc (.cells #[.slice A n c] 37)).alloc (.cells #[.slice none 0 0] 37)) A n c := by
  refine ⟨by simp, ((Below.refl _ w).alloc (Nat.le_refl _) _).alloc (by simp) _, (Boxed.new w _ _).alloc _, ?_⟩
  have h := Boxed.new (w.alloc (.cells #[.slice A n c] 37)) 37 (.slice none 0 0)
  rw [World.size_alloc] at h
  exact h
theorem DropB.later {w W0 X : World} {A : Option Addr} {n c : Nat} (h : DropB w W0 A n c) (hX : Below W0.heap.size W0 X) :
    Below w.heap.size w X ∧ Boxed X w.heap.size 37 (.slice A n c) ∧ Boxed X (w.heap.size + 1) 37 (.slice none 0 0) :=
  ⟨h.below.trans (hX.mono h.below.size), (hX.block _ h.ar.lt).trans h.ar, (hX.block _ h.res.lt).trans h.res⟩

theorem owns_same {w w' : World} {b n : Nat} {D : DataW Value} (h : w.ownsMap Try.prog 3 unitElem b n D) (hb : w'.heap[b]? = w.heap[b]?) : w'.ownsMap Try.prog 3 unitElem b n D := by
  obtain ⟨es, clock, h1, h2⟩ := h
  exact ⟨es, clock, hb.trans h1, h2⟩
theorem below_map {w w' : World} {b B : Nat} (h : w.mapTurned w' b) (hb : B ≤ b) (hB : B ≤ w.heap.size) : Below B w w' :=
  (Turn.of_grown (S := fun i => i = b) h.grown (fun i hi => .inl (by injection hi with hi; exact hi.symm))).below hB (fun i hi => by omega)

/-- What lies while the map is gone through. -/
structure DrI (W0 V0 : World) (g r : Nat) (l : List Ce) (ss : List Int) (D : DataW Value) (left : Lit → Bool) (wr : World) : Prop where
  less : ∀ z, left z = true → has D z = true
  own : ∃ q', OwnA W0.heap.size wr (some ⟨g, 0, none⟩) 96 q' ∧ List.length q' = 96 ∧ ZTo l ss left (ces q')
  turn : Turn (fun i => i = g ∨ i = r) V0 wr
theorem grown_turn {w w' : World} {g : Nat} (h : Turn (fun i => i = g) w w') : w.grownBy w' (some g) := ⟨h.os, h.tape, h.output, h.size, fun i hi hn => h.block i hi (fun e => hn (by rw [e]))⟩

set_option maxHeartbeats 4000000 in
theorem drop_any (A : Option Addr) (c : Nat) (q : List Pa) (As : Option Addr) (cs : Nat) (ss : List Int) (w : World) (h : Are w A c q) (hs : Vec .i64 w As cs ss) :
    Calls Try.prog 34 #[.agg #[.slice A q.length c], .slice As ss.length cs] w (GivesAE w (dropL (ces q) ss) (dropE (ces q) ss)) := by
  obtain ⟨W0, hW0⟩ : ∃ W0, W0 = (w.alloc (.cells #[.slice A q.length c] 37)).alloc (.cells #[.slice none 0 0] 37) := ⟨_, rfl⟩
  have hP := dropB w A q.length c
  rw [← hW0] at hP
  have HW := Lib.hid hW0
  have HC := Lib.hid (checkA_any A c q W0 (h.below hP.below))
  have HX := Lib.hid (fun (X : World) (hX : Below W0.heap.size W0 X) => hP.later hX)
  cases hr : arB (ces q) with
  | false =>
    have hE : dropE (ces q) ss = 190 := by unfold dropE; rw [hr]; rfl
    have HF := Lib.hid (And.intro hE (drop_not hE (by decide)))
    rw [chkA_no hr] at HC
    generalize dropL (ces q) ss = L at *
    generalize dropE (ces q) ss = E at *
    generalize q.length = n at *
    generalize ss.length = m at *
    clear h hs hP hW0 hr hE
    go_enter Try.func34, Try.ntmps34
    go_wp2_with fail
    rw [← HW.out]
    refine HC.out.mono ?_
    rintro e w1 ⟨rfl, hb1⟩
    obtain ⟨hbw, x0, xr⟩ := HX.out w1 hb1
    obtain ⟨r0, hbR⟩ := res_set (.slice none 0 0) xr hbw (by omega)
    have c0 := xr.cell
    have f0 := xr.frozen
    have HB := Lib.hid hbR
    clear hb1 hbw x0 xr hbR
    go_wp2
    refine bodyPost_ret (v := .tuple #[.agg #[.slice none 0 0], .int .i64 190]) (by simp [results, Try.results34, go_sem, r0]) rfl ?_
    rw [HF.out.1, HF.out.2]
    exact ⟨none, 0, [], rfl, rfl, OwnA.nil _ _, HB.out⟩
  | true =>
    rw [chkA_ok hr] at HC
    have HBad := Lib.hid (fun (hb : dropOk (ces q) ss = false) => show dropE (ces q) ss = 191 ∧ dropL (ces q) ss = [] from ⟨drop_bad hr hb, drop_not (drop_bad hr hb) (by decide)⟩)
    have HGood := Lib.hid (fun (hb : dropOk (ces q) ss = true) => show dropE (ces q) ss = 0 ∧ dropL (ces q) ss = setZ (ces q) ss from ⟨drop_good hr hb, by unfold dropL; rw [drop_good hr hb, if_pos rfl]⟩)
    have HIs := Lib.hid (fun (s : Int) (X : World) (hX : Below W0.heap.size W0 X) => isUsed_any A c q s X ((h.below hP.below).below hX))
    have HCp := Lib.hid (fun (X : World) (hX : Below W0.heap.size W0 X) => copied_any A c q X ((h.below hP.below).below hX) (by rw [← ces_length, arB_len hr]; exact Nat.le_refl _) (fun p hp hu => by
      have := may_len (arB_may hr p.e (List.mem_map.2 ⟨p, hp, rfl⟩))
      omega))
    rw [pad_same hr] at HCp
    have HLn := Lib.hid (show (ces q).length = 96 from arB_len hr)
    have HSs := Lib.hid (fun (X : World) (hX : Below W0.heap.size W0 X) => (hs.below hP.below).below hX)
    have HSf := Lib.hid (show ∀ x ∈ ss, I64 x from hs.fit)
    have hmx := Nat.le_trans hs.room hs.most
    have HZ0 := Lib.hid hP.size
    generalize dropL (ces q) ss = L at *
    generalize dropE (ces q) ss = E at *
    generalize q.length = n at *
    obtain ⟨m, hm⟩ : ∃ m, m = ss.length := ⟨_, rfl⟩
    rw [← hm] at hmx ⊢
    have HM := Lib.hid hm
    clear h hs hP hW0 hr hm
    go_enter Try.func34, Try.ntmps34
    go_wp2_with fail
    rw [← HW.out]
    refine HC.out.mono ?_
    rintro e w1 ⟨rfl, hb1⟩
    have hmade := MapD.made w1
    have hbm : Below w1.heap.size w1 (w1.alloc (.map #[] 0)) := (Below.refl _ w1).alloc (Nat.le_refl _) _
    have HB1 := Lib.hid hb1
    have HBm := Lib.hid (hb1.trans (hbm.mono hb1.size))
    have HMd := Lib.hid hmade
    obtain ⟨bm, hbmm⟩ : ∃ bm, bm = w1.heap.size := ⟨_, rfl⟩
    have HBl := Lib.hid (show W0.heap.size ≤ bm by rw [hbmm]; exact hb1.size)
    have HBe := Lib.hid hbmm
    clear hb1 hmade hbm hbmm
    have hmm := @run_makeMap Try.prog
    go_wp2
    clear hmm
    rw [← HBe.out]
    go_loopw [23] (fun i wr => ∃ (k : Nat), k ≤ m ∧ i = .int .i64 k ∧ Hid (OkTo (ces q) ss k) ∧ Hid (MapD wr bm k (ss.take k)) ∧ Hid (Below W0.heap.size W0 wr)) (fun i _ => m - (intOf i).toNat)
    case atStart => exact ⟨0, Nat.zero_le _, rfl, Lib.hid ⟨by simp, by simp⟩, Lib.hid (by rw [HBe.out]; exact HMd.out), HBm⟩
    case round =>
      obtain ⟨k, hk, rfl, HOk, HMp, HB⟩ := hrel
      by_cases hkm : k < m
      · obtain ⟨x, hx⟩ : ∃ x, ss[k]? = some x := ⟨_, List.getElem?_eq_getElem (by rw [← HM.out]; exact hkm)⟩
        have hxi := HSf.out x (List.mem_of_getElem? hx)
        obtain ⟨b, o, hAs, hb, ci⟩ := (HSs.out _ HB.out).at_ (j := k) (by rw [← HM.out]; exact hkm)
        have hgx : ss.getD k 0 = x := by simp [List.getD, hx]
        rw [hgx] at ci
        subst hAs
        have k0 : (0 : Int) ≤ k := by omega
        have km : (k : Int) < m := by omega
        obtain ⟨D, hown, hset⟩ := HMp.out
        obtain ⟨hbw, x0, xr⟩ := HX.out _ HB.out
        have xr2 : Boxed (wr.alloc (.cells #[] 115)) (w.heap.size + 1) 37 (.slice none 0 0) := xr.alloc _
        have x02 : Boxed (wr.alloc (.cells #[] 115)) w.heap.size 37 (.slice A n c) := x0.alloc _
        have hbV : Below W0.heap.size W0 (wr.alloc (.cells #[] 115)) := HB.out.alloc HB.out.size _
        have HSet := Lib.hid hset
        have HIs1 := Lib.hid (HIs.out x _ hbV)
        have HBV := Lib.hid hbV
        have HXX := Lib.hid hx
        have HXI := Lib.hid hxi
        have hwV : Below w.heap.size w (wr.alloc (.cells #[] 115)) := hbw.alloc hbw.size _
        by_cases hdup : x ∈ ss.take k
        · have hh : has D (kl x) = true := by rw [HSet.out x HXI.out]; simpa using hdup
          have HF := Lib.hid (HBad.out (ok_dup HXX.out hdup))
          have HH := Lib.hid hh
          obtain ⟨r0, hbR⟩ := res_set (.slice none 0 0) xr2 hwV (by omega)
          have c0 := xr2.cell
          have f0 := xr2.frozen
          have HBR := Lib.hid hbR
          have a0 := x0.cell
          clear hdup hh hxi hset hx hgx hb hbw x0 xr xr2 x02 hbV hwV hbR
          go_wp2_with (at_lookup; refine wpList_lookup_own_unit _ rfl _ _ 114 rfl 3 115 keyed Try.underlying114 (zeroUnit _) bm k D rfl hown _ _ rfl (keyAt HXI.out) ?_; rw [HH.out])
          refine bodyPost_ret (v := .tuple #[.agg #[.slice none 0 0], .int .i64 191]) (by simp [results, Try.results34, go_sem, r0]) rfl ?_
          rw [HF.out.1, HF.out.2]
          exact ⟨none, 0, [], rfl, rfl, OwnA.nil _ _, HBR.out⟩
        · have hh : has D (kl x) = false := by rw [HSet.out x HXI.out]; simpa using hdup
          have HH := Lib.hid hh
          have HDup := Lib.hid hdup
          have a0 := x0.cell
          have a2 := x02.cell
          cases hu : usedB (ces q) x with
          | false =>
            have HF := Lib.hid (HBad.out (ok_free HXX.out hu))
            rw [hu] at HIs1
            clear hdup hh hxi hset hx hgx hb hbw x0 xr xr2 x02 hbV hwV hu
            go_wp2_with (first
              | (at_lookup; refine wpList_lookup_own_unit _ rfl _ _ 114 rfl 3 115 keyed Try.underlying114 (zeroUnit _) bm k D rfl hown _ _ rfl (keyAt HXI.out) ?_; rw [HH.out])
              | (go_at_call 74; refine HIs1.out.mono ?_; rintro e w5 ⟨rfl, hb5⟩; obtain ⟨hbw5, _, xr5⟩ := HX.out _ (HBV.out.trans (hb5.mono HBV.out.size)); obtain ⟨r0, hbR⟩ := res_set (.slice none 0 0) xr5 hbw5 (by omega); have c0 := xr5.cell; have f0 := xr5.frozen; have HBR := Lib.hid hbR; clear hb5 hbw5 xr5 hbR))
            refine bodyPost_ret (v := .tuple #[.agg #[.slice none 0 0], .int .i64 191]) (by simp [results, Try.results34, go_sem, r0]) rfl ?_
            rw [HF.out.1, HF.out.2]
            exact ⟨none, 0, [], rfl, rfl, OwnA.nil _ _, HBR.out⟩
          | true =>
            have HOk2 := Lib.hid (HOk.out.step HXX.out hu hdup)
            rw [hu] at HIs1
            have HT := Lib.hid (show ss.take (k + 1) = ss.take k ++ [x] by rw [List.take_add_one, HXX.out]; rfl)
            have hk9 : k < maxLen := by unfold maxLen; omega
            have HOw := Lib.hid hown
            have HMpL := Lib.hid (show bm < wr.heap.size from hown.lt)
            clear hdup hh hxi hset hx hgx hb hbw x0 xr xr2 x02 hbV hwV hu
            go_wp2_with (first
              | (at_lookup; refine wpList_lookup_own_unit _ rfl _ _ 114 rfl 3 115 keyed Try.underlying114 (zeroUnit _) bm k D rfl hown _ _ rfl (keyAt HXI.out) ?_; rw [HH.out])
              | (go_at_call 74; refine HIs1.out.mono ?_; rintro e w5 ⟨rfl, hb5⟩; have HB5 := Lib.hid (HBV.out.trans (hb5.mono HBV.out.size)); have hown5 : w5.ownsMap Try.prog 3 unitElem bm k D := owns_same hown ((hb5.block bm (Nat.lt_of_lt_of_le HMpL.out (by simp))).trans (Below.heap_alloc _ _ _ HMpL.out)); clear hb5)
              | (at_mapUpdate; refine wpList_mapUpdate_in _ rfl _ _ _ 114 rfl 3 115 keyed Try.underlying114 unitElem bm k D rfl hown5 hk9 _ _ _ rfl rfl (keyAt HXI.out) (.agg []) [] unitElem_mk ?_; intro w6 hown6 hturn6; have HM6 := Lib.hid (show MapD w6 bm (k + 1) (ss.take (k + 1)) from ⟨_, hown6, by rw [HT.out]; exact setD_put hown5.isMap HSet.out HXI.out _⟩); have HB6 := Lib.hid (HB5.out.trans ((below_map hturn6 HBl.out HB5.out.size))); clear hown6 hturn6))
            go_roundw
            case rel => exact ⟨k + 1, by omega, by go_num, HOk2, HM6, HB6⟩
            case measure => simp [intOf]; omega
      · obtain rfl : k = m := by omega
        have hk2 : k = ss.length := HM.out
        have hok : dropOk (ces q) ss = true := OkTo.all (by rw [← hk2]; exact HOk.out)
        have HF := Lib.hid (HGood.out hok)
        have hmp := HMp.out
        rw [hk2, List.take_length] at hmp
        have HMp2 := Lib.hid hmp
        have HLt := Lib.hid (show ∀ x ∈ ss, ∃ j : Nat, x = j ∧ j < 96 from fun x hx => by have := ok_lt hok x hx; rw [HLn.out] at this; exact this)
        have HCp1 := Lib.hid (HCp.out wr HB.out)
        obtain ⟨_, x0, _⟩ := HX.out _ HB.out
        have a0 := x0.cell
        clear hk2 hok hmp x0
        go_wp2_with fail
        refine HCp1.out.mono ?_
        rintro e w7 ⟨g, q7, rfl, hq7, hl7, ho7, hb7⟩
        have hB7 := HB.out.trans (hb7.mono HB.out.size)
        obtain ⟨z, hz⟩ : ∃ z, z = w7.heap.size := ⟨_, rfl⟩
        obtain ⟨V, hV⟩ : ∃ V, V = w7.alloc (.cells #[.slice (some ⟨g, 0, none⟩) 96 96] 37) := ⟨_, rfl⟩
        have hbV : Below w7.heap.size w7 V := by rw [hV]; exact (Below.refl _ w7).alloc (Nat.le_refl _) _
        have hBV : Below W0.heap.size W0 V := hB7.trans (hbV.mono hB7.size)
        have hx12 : Boxed V z 37 (.slice (some ⟨g, 0, none⟩) 96 96) := by rw [hV, hz]; exact Boxed.new w7 _ _
        have hoV : OwnA W0.heap.size V (some ⟨g, 0, none⟩) 96 q7 := (ho7.mono HB.out.size).below hbV
        have hgz : wr.heap.size ≤ g ∧ g < z := by rw [hz]; exact ho7.lo
        have hzV : V.heap.size = z + 1 := by rw [hV, hz]; simp
        have hml := HMp2.out.lt
        obtain ⟨D, hownV, hset⟩ := HMp2.out.same (w' := V) ((hbV.block _ (Nat.lt_of_lt_of_le hml hb7.size)).trans (hb7.block _ hml))
        have HSet := Lib.hid hset
        have HV := Lib.hid hV
        have HZZ := Lib.hid hz
        have HBV := Lib.hid hBV
        have HX12 := Lib.hid hx12
        have HOV := Lib.hid (And.intro hoV (And.intro hq7 hl7))
        have HGZ := Lib.hid (And.intro hgz hzV)
        have HML := Lib.hid hml
        have HBl2 := HBl
        clear hB7 hz hV hbV hBV hx12 hoV hgz hzV hml hset hq7 hl7 ho7 hb7 a0
        go_wp2_with (first
          | (rw [← HV.out])
          | (at_range; refine wpList_range_own _ rfl _ 114 rfl 3 115 keyed Try.underlying114 unitElem bm ss.length D rfl hownV ?_; intro V0 hrg0 hg0 hs0)
          | go_in)
        go_frame
        rw [← HZZ.out]
        have ht0 : Turn (fun i => i = g ∨ i = V.heap.size) V V0 := (Turn.of_grown (S := fun _ => False) hg0 (by simp)).mono (fun i hi => hi.elim)
        have HT0 := Lib.hid ht0
        have hb0 : Below V.heap.size V V0 := (Turn.of_grown (S := fun _ => False) hg0 (by simp)).below (Nat.le_refl _) (fun i hi => hi.elim)
        have HDr0 := Lib.hid (show DrI W0 V g V.heap.size (ces q) ss D (has D) V0 from ⟨fun z hz => hz, ⟨q7, HOV.out.1.below hb0, HOV.out.2.2, by rw [HOV.out.2.1]; exact ZTo.start (fun x hx => by rw [HSet.out x (HSf.out x hx)]; simpa using hx)⟩, ht0⟩)
        have HSz := Lib.hid hs0
        clear ht0 hb0 hg0 hs0
        go_loopw [13] (fun _ wr => ∃ (left : Lit → Bool) (cnt : Nat), wr.ranges Try.prog 3 unitElem bm V.heap.size ss.length D left cnt ∧ Hid (DrI W0 V g V.heap.size (ces q) ss D left wr)) (fun _ wr => wr.rangeLeft bm V.heap.size)
        case atStart => exact ⟨_, _, hrg0, HDr0⟩
        case round =>
          obtain ⟨left, cnt, hrg, HR⟩ := hrel
          go_wp2_with (first
            | (at_next; refine wpList_next_ranges _ rfl _ rfl 3 keyed unitElem (Value.int .i64) (fun _ : Unit => Value.agg #[]) (fun key kl h => by obtain ⟨x, e, _⟩ := Maps.keyOf_int_inv Try.underlying3 h; exact ⟨x, e⟩) (fun v y h => by obtain ⟨e, _⟩ := unitElem_inv h; exact ⟨(), e⟩) bm V.heap.size ss.length D _ _ rfl hrg ?_ ?_)
            | go_in)
          · intro hc0 hl0
            obtain ⟨q', h1, h2, h3⟩ := HR.out.own
            have hcs := h3.done hl0
            obtain ⟨⟨hg1, hg2⟩, hzV⟩ := HGZ.out
            have hz0 := HZ0.out
            have hw0 := HB.out.size
            obtain ⟨hbwV, _, xrV⟩ := HX.out V HBV.out
            have x12 : Boxed wr z 37 (.slice (some ⟨g, 0, none⟩) 96 96) := (HR.out.turn.block _ HX12.out.lt (fun e => by rcases e with e | e <;> omega)).trans HX12.out
            have xr : Boxed wr (w.heap.size + 1) 37 (.slice none 0 0) := (HR.out.turn.block _ xrV.lt (fun e => by have := xrV.lt; rcases e with e | e <;> omega)).trans xrV
            have hbw : Below w.heap.size w wr := hbwV.trans (HR.out.turn.below hbwV.size (fun i hi => by rcases hi with hi | hi <;> omega))
            obtain ⟨r0, hbR⟩ := res_set (.slice (some ⟨g, 0, none⟩) 96 96) xr hbw (by omega)
            have hO : OwnA w.heap.size (wr.setCell ⟨w.heap.size + 1, 0, none⟩ (.slice (some ⟨g, 0, none⟩) 96 96)) (some ⟨g, 0, none⟩) 96 q' := (h1.turn (turn_set _ _ _ _) (fun i hi _ e => by omega)).mono (by omega)
            have b12 := x12.cell
            have c0 := xr.cell
            have f0 := xr.frozen
            have HFin := Lib.hid (And.intro hcs (And.intro h2 (And.intro hO hbR)))
            clear hc0 hl0 h1 h2 h3 hcs hg1 hg2 hzV hz0 hw0 hbwV xrV x12 xr hbw hbR hO hrg hownV hrg0
            go_wp2
            refine bodyPost_ret (v := .tuple #[.agg #[.slice (some ⟨g, 0, none⟩) 96 96], .int .i64 0]) (by simp [results, Try.results34, go_sem, r0]) rfl ?_
            rw [HF.out.1, HF.out.2]
            exact ⟨some ⟨g, 0, none⟩, 96, q', by rw [HFin.out.2.1], HFin.out.1, HFin.out.2.2.1, HFin.out.2.2.2⟩
          · intro x u kl y w1 cnt1 hkl hlk hy hat hrg1 hlt hg1 hs1 hen
            obtain ⟨x', ex, hklx, hwx⟩ := Maps.keyOf_int_inv Try.underlying3 hkl
            injection ex with _ ex
            subst ex
            subst hklx
            have hx : x ∈ ss := by
              have := HR.out.less _ hlk
              rw [HSet.out x hwx] at this
              simpa using this
            obtain ⟨j, rfl, hj⟩ := HLt.out x hx
            obtain ⟨q', h1, h2, h3⟩ := HR.out.own
            obtain ⟨⟨hgw, hgz⟩, hzV⟩ := HGZ.out
            have hwW := HB.out.size
            have tn : Turn (fun i => i = V.heap.size) wr w1 := Turn.of_grown hg1 (fun i hi => .inl (by injection hi with hi; exact hi.symm))
            have h1' : OwnA W0.heap.size w1 (some ⟨g, 0, none⟩) 96 q' := by
              obtain ⟨hlo, hhi⟩ := h1.lo
              refine ⟨row_turn h1.row tn (fun i hi e => ?_), fun p hp => ⟨row_turn (h1.el p hp).1 tn (fun i hi e => ?_), (h1.el p hp).2⟩, h1.fit⟩
              · have : i = g := by simpa [Value.ownBlock] using hi.symm
                omega
              · obtain ⟨es, cl, since, seen, c0', _, _, _, _, hit, _⟩ := hrg
                subst e
                rcases (h1.el p hp).1.2 with ⟨e2, _⟩ | ⟨g2, cap, cur, e2, _, hh, _⟩
                · rw [e2] at hi; cases hi
                · rw [e2] at hi
                  have : g2 = V.heap.size := by simpa [Value.ownBlock] using hi
                  subst this
                  rw [hit] at hh; cases hh
            obtain ⟨p0, _, d0, d1, d2, d3, d4, f0, f1, f2, f3, f4⟩ := h1'.cells (i := j) (by omega)
            have htV : Turn (fun i => i = g ∨ i = V.heap.size) V w1 := HR.out.turn.trans tn (fun i hi => .inl (.inr hi))
            have x12 : Boxed w1 z 37 (.slice (some ⟨g, 0, none⟩) 96 96) := (htV.block _ HX12.out.lt (fun e => by rcases e with e | e <;> omega)).trans HX12.out
            have hgr := grown_turn (put5_turn w1 g (j * 5) pz)
            have hgb : g ≠ bm := by have := HML.out; omega
            have hrg2 := hrg1.kept hgr (by intro e; injection e with e; exact hgb e.symm) (by intro e; injection e with e; omega)
            have HRg2 := Lib.hid hrg2
            have HDr := Lib.hid (show DrI W0 V g V.heap.size (ces q) ss D (fun z => left z && !z.sameKey (.int .i64 (j : Int))) (put5 w1 g (j * 5) pz) from
              ⟨fun z hz => HR.out.less z (by simp at hz; exact hz.1), ⟨q'.set j pz, h1'.put (by omega) (OwnV.nil _ _) fit_zc, by simp [h2], by rw [ces_set]; exact h3.step hx (by rw [HLn.out]; exact hj)⟩, htV.trans (put5_turn _ _ _ _) (fun i hi => .inl (.inl hi))⟩)
            have HMs := Lib.hid (show (put5 w1 g (j * 5) pz).rangeLeft bm V.heap.size < wr.rangeLeft bm V.heap.size from by rw [hrg2.left_eq, hrg.left_eq]; exact hlt)
            have b12 := x12.cell
            have j0 : (0 : Int) ≤ j := by omega
            have j9 : (j : Int) < 96 := by omega
            have hen' : (Instr.entry (.pointer (some ⟨V.heap.size, 0, none⟩))).run Try.prog w1 = .ok (.tuple #[.int .i64 (j : Int), .agg #[]]) w1 := hen
            clear hkl hlk hy hat hrg1 hlt hg1 hs1 hen hwx hx h1 h2 h3 hgw hgz hzV hwW tn h1' htV x12 hgr hgb hrg2 hrg hownV hrg0
            go_wp2
            go_roundw
            case rel => exact ⟨_, _, HRg2.out, HDr⟩
            case measure => exact HMs.out

end Go.Proofs.Ytpeialkfddjndaa

namespace Go.Proofs.Ytpeialkfddjndaa
open Go.RowKit Go.Shelf
set_option linter.unusedVariables false
set_option linter.unusedSimpArgs false
set_option maxRecDepth 100000

def putE (l : List Ce) (b f : Int) (x : List Int) : Int := if arB l = true then (if verR b f x = true then (match leastO l with | some _ => 0 | none => 6) else 171) else 190
def putK (l : List Ce) (b f : Int) (x : List Int) : Int := if putE l b f x = 0 then idxK (leastO l) else 0
def putL (l : List Ce) (id b f : Int) (x : List Int) : List Ce := if putE l b f x = 0 then (match leastO l with | some k => l.set k ⟨true, id, b, f, x⟩ | none => []) else []
theorem put_no {l : List Ce} {b f : Int} {x : List Int} {E : Int} (h : putE l b f x = E) (hE : E ≠ 0) (id : Int) : putK l b f x = 0 ∧ putL l id b f x = [] := by unfold putK putL; rw [h, if_neg hE, if_neg hE]; exact ⟨rfl, rfl⟩
/-- A call that answers an arena of the call's own, a slot and an error. -/
def GivesP (w : World) (l : List Ce) (k er : Int) (e : Ending) (w' : World) : Prop := ∃ A c q, e = .returned (.tuple #[.agg #[.slice A (List.length q) c], .int .i64 k, .int .i64 er]) ∧ ces q = l ∧ OwnA w.heap.size w' A c q ∧ Below w.heap.size w w'
theorem verE_iff (b f : Int) (x : List Int) : verE b f x = if verR b f x = true then 0 else 171 := rfl

/-- What lies in the boxes of Put. -/
structure PutB (w W0 : World) (A : Option Addr) (n c : Nat) (b f : Int) (B : Option Addr) (nx cx : Nat) : Prop where
  size : W0.heap.size = w.heap.size + 3
  below : Below w.heap.size w W0
  ar : Boxed W0 w.heap.size 37 (.slice A n c)
  ver : W0.heap[w.heap.size + 1]? = some (.cells #[.int .u64 b, .int .u64 f, .slice B nx cx] 65 (0, 0))
  res : Boxed W0 (w.heap.size + 2) 37 (.slice none 0 0)
theorem putB (w : World) (A : Option Addr) (n c : Nat) (b f : Int) (B : Option Addr) (nx cx : Nat) : PutB w (((w.alloc (.cells #[.slice A n c] 37)).alloc (.cells #[.int .u64 b, .int .u64 f, .slice B nx cx] 65)).alloc (.cells #[.slice none 0 0] 37)) A n c b f B nx cx := by
  refine ⟨by simp, (((Below.refl _ w).alloc (Nat.le_refl _) _).alloc (by simp) _).alloc (by simp; omega) _, ((Boxed.new w _ _).alloc _).alloc _, ?_, ?_⟩
  · have h := heap_alloc_new (w.alloc (.cells #[.slice A n c] 37)) (.cells #[.int .u64 b, .int .u64 f, .slice B nx cx] 65)
    rw [World.size_alloc] at h
    exact (Below.heap_alloc _ _ _ (by simp)).trans h
  · have h := Boxed.new ((w.alloc (.cells #[.slice A n c] 37)).alloc (.cells #[.int .u64 b, .int .u64 f, .slice B nx cx] 65)) 37 (.slice none 0 0)
    rw [World.size_alloc, World.size_alloc] at h
    exact h
theorem PutB.later {w W0 X : World} {A : Option Addr} {n c : Nat} {b f : Int} {B : Option Addr} {nx cx : Nat} (h : PutB w W0 A n c b f B nx cx) (hX : Below W0.heap.size W0 X) :
    Below w.heap.size w X ∧ Boxed X w.heap.size 37 (.slice A n c) ∧ X.heap[w.heap.size + 1]? = some (.cells #[.int .u64 b, .int .u64 f, .slice B nx cx] 65 (0, 0)) ∧ Boxed X (w.heap.size + 2) 37 (.slice none 0 0) :=
  ⟨h.below.trans (hX.mono h.below.size), (hX.block _ h.ar.lt).trans h.ar, (hX.block _ (lt_of_block h.ver)).trans h.ver, (hX.block _ h.res.lt).trans h.res⟩

set_option maxHeartbeats 4000000 in
theorem put_any (A : Option Addr) (c : Nat) (q : List Pa) (id b f : Int) (B : Option Addr) (cx : Nat) (x : List Int) (w : World) (h : Are w A c q) (hv : Vec .i32 w B cx x) (hid : U64s id) (hb : U64s b) (hf : U64s f) :
    Calls Try.prog 33 #[.agg #[.slice A q.length c], .int .u64 id, .agg #[.int .u64 b, .int .u64 f, .slice B x.length cx]] w (GivesP w (putL (ces q) id b f x) (putK (ces q) b f x) (putE (ces q) b f x)) := by
  obtain ⟨W0, hW0⟩ : ∃ W0, W0 = ((w.alloc (.cells #[.slice A q.length c] 37)).alloc (.cells #[.int .u64 b, .int .u64 f, .slice B x.length cx] 65)).alloc (.cells #[.slice none 0 0] 37) := ⟨_, rfl⟩
  have hP := putB w A q.length c b f B x.length cx
  rw [← hW0] at hP
  have HP := Lib.hid hP
  have HW := Lib.hid hW0
  have HC := Lib.hid (checkA_any A c q W0 (h.below hP.below))
  have HV := Lib.hid (fun (X : World) (hX : Below W0.heap.size W0 X) => checkVersion_any b f B cx x X ((hv.below hP.below).below hX))
  have HI := Lib.hid (fun (X : World) (hX : Below W0.heap.size W0 X) => indexC_any A c q 71 #[] (fun e => !e.u) X ((h.below hP.below).below hX) (fun v Y => enters_of Try.func71 (by kernel_rfl) rfl _ Y) (fun p Y _ _ _ => by rw [Array.append_empty]; exact put1_any p Y))
  change Hid (∀ (X : World) (hX : Below W0.heap.size W0 X), Calls Try.prog 70 #[.slice A q.length c, .func (.func 71) #[] #[]] X fun e w' => e = .returned (.int .i64 (idxK (leastO (ces q)))) ∧ Below X.heap.size X w') at HI
  have HX := Lib.hid (fun (X : World) (hX : Below W0.heap.size W0 X) => hP.later hX)
  cases hr : arB (ces q) with
  | false =>
    have hE : putE (ces q) b f x = 190 := by unfold putE; rw [hr]; rfl
    obtain ⟨hK, hL⟩ := put_no hE (by decide) id
    rw [chkA_no hr] at HC
    have HF := Lib.hid (And.intro hE (And.intro hK hL))
    generalize putL (ces q) id b f x = L at *
    generalize putK (ces q) b f x = K0 at *
    generalize putE (ces q) b f x = E at *
    generalize q.length = n at *
    generalize x.length = nx at *
    clear h hv hid hb hf hP hW0 hr hE hK hL HV HI
    go_enter Try.func33, Try.ntmps33
    go_wp2_with fail
    rw [← HW.out]
    refine HC.out.mono ?_
    rintro e w1 ⟨rfl, hb1⟩
    obtain ⟨hbw, x0, xv, xr⟩ := HX.out w1 hb1
    obtain ⟨r0, hbR⟩ := res_set (.slice none 0 0) xr hbw (by omega)
    have c0 := xr.cell
    have f0 := xr.frozen
    have HB := Lib.hid hbR
    clear hb1 hbw x0 xv xr hbR
    go_wp2
    refine bodyPost_ret (v := .tuple #[.agg #[.slice none 0 0], .int .i64 0, .int .i64 190]) (by simp [results, Try.results33, go_sem, r0]) rfl ?_
    rw [HF.out.1, HF.out.2.1, HF.out.2.2]
    exact ⟨none, 0, [], rfl, rfl, OwnA.nil _ _, HB.out⟩
  | true =>
    rw [chkA_ok hr] at HC
    cases hvr : verR b f x with
    | false =>
      have hE : putE (ces q) b f x = 171 := by unfold putE; rw [hr, hvr]; rfl
      obtain ⟨hK, hL⟩ := put_no hE (by decide) id
      have HV2 := Lib.hid (show verE b f x = 171 by rw [verE_iff, hvr]; rfl)
      rw [HV2.out] at HV
      have HF := Lib.hid (And.intro hE (And.intro hK hL))
      generalize putL (ces q) id b f x = L at *
      generalize putK (ces q) b f x = K0 at *
      generalize putE (ces q) b f x = E at *
      generalize q.length = n at *
      generalize x.length = nx at *
      clear h hv hid hb hf hP hW0 hr hE hK hL HI hvr HV2
      go_enter Try.func33, Try.ntmps33
      go_wp2_with fail
      rw [← HW.out]
      refine HC.out.mono ?_
      rintro e w1 ⟨rfl, hb1⟩
      have HV1 := Lib.hid (HV.out w1 hb1)
      have HB1 := Lib.hid hb1
      obtain ⟨hbw, x0, xv, xr⟩ := HX.out w1 hb1
      have v0 := (cell_of_row _ _ 0 _ _ _ xv).trans rfl
      have v1 := (cell_of_row _ _ 1 _ _ _ xv).trans rfl
      have v2 := (cell_of_row _ _ 2 _ _ _ xv).trans rfl
      clear hb1 hbw x0 xv xr
      go_wp2_with fail
      refine HV1.out.mono ?_
      rintro e w2 ⟨rfl, hb2⟩
      obtain ⟨hbw, x0, xv, xr⟩ := HX.out w2 (HB1.out.trans (hb2.mono HB1.out.size))
      obtain ⟨r0, hbR⟩ := res_set (.slice none 0 0) xr hbw (by omega)
      have c0 := xr.cell
      have f0 := xr.frozen
      have HB := Lib.hid hbR
      clear hb2 hbw x0 xv xr hbR
      go_wp2
      refine bodyPost_ret (v := .tuple #[.agg #[.slice none 0 0], .int .i64 0, .int .i64 171]) (by simp [results, Try.results33, go_sem, r0]) rfl ?_
      rw [HF.out.1, HF.out.2.1, HF.out.2.2]
      exact ⟨none, 0, [], rfl, rfl, OwnA.nil _ _, HB.out⟩
    | true =>
      have HV2 := Lib.hid (show verE b f x = 0 by rw [verE_iff, hvr]; rfl)
      rw [HV2.out] at HV
      clear HV2
      cases hlo : leastO (ces q) with
      | none =>
        have hE : putE (ces q) b f x = 6 := by unfold putE; rw [hr, hvr, hlo]; rfl
        obtain ⟨hK, hL⟩ := put_no hE (by decide) id
        have HF := Lib.hid (And.intro hE (And.intro hK hL))
        rw [hlo] at HI
        generalize putL (ces q) id b f x = L at *
        generalize putK (ces q) b f x = K0 at *
        generalize putE (ces q) b f x = E at *
        generalize q.length = n at *
        generalize x.length = nx at *
        clear h hv hid hb hf hP hW0 hr hE hK hL hvr hlo
        go_enter Try.func33, Try.ntmps33
        go_wp2_with fail
        rw [← HW.out]
        refine HC.out.mono ?_
        rintro e w1 ⟨rfl, hb1⟩
        have HV1 := Lib.hid (HV.out w1 hb1)
        have HB1 := Lib.hid hb1
        obtain ⟨hbw, x0, xv, xr⟩ := HX.out w1 hb1
        have v0 := (cell_of_row _ _ 0 _ _ _ xv).trans rfl
        have v1 := (cell_of_row _ _ 1 _ _ _ xv).trans rfl
        have v2 := (cell_of_row _ _ 2 _ _ _ xv).trans rfl
        clear hb1 hbw x0 xv xr
        go_wp2_with fail
        refine HV1.out.mono ?_
        rintro e w2 ⟨rfl, hb2⟩
        have HB2 := Lib.hid (HB1.out.trans (hb2.mono HB1.out.size))
        obtain ⟨hbw, x0, xv, xr⟩ := HX.out w2 HB2.out
        have a0 := x0.cell
        have HI1 := Lib.hid (HI.out w2 HB2.out)
        clear hb2 hbw x0 xv xr
        go_wp2_with fail
        refine HI1.out.mono ?_
        rintro e w3 ⟨rfl, hb3⟩
        obtain ⟨hbw, x0, xv, xr⟩ := HX.out w3 (HB2.out.trans (hb3.mono HB2.out.size))
        obtain ⟨r0, hbR⟩ := res_set (.slice none 0 0) xr hbw (by omega)
        have c0 := xr.cell
        have f0 := xr.frozen
        have HB := Lib.hid hbR
        have HM1 := Lib.hid (show idxK none = -1 from rfl)
        rw [HM1.out]
        clear hb3 hbw x0 xv xr hbR
        go_wp2
        refine bodyPost_ret (v := .tuple #[.agg #[.slice none 0 0], .int .i64 0, .int .i64 6]) (by simp [results, Try.results33, go_sem, r0]) rfl ?_
        rw [HF.out.1, HF.out.2.1, HF.out.2.2]
        exact ⟨none, 0, [], rfl, rfl, OwnA.nil _ _, HB.out⟩
      | some s =>
        have hE : putE (ces q) b f x = 0 := by unfold putE; rw [hr, hvr, hlo]; rfl
        have hK : putK (ces q) b f x = (s : Int) := by unfold putK; rw [hE, if_pos rfl, hlo]; rfl
        have hL : putL (ces q) id b f x = (ces q).set s ⟨true, id, b, f, x⟩ := by unfold putL; rw [hE, if_pos rfl, hlo]
        have hs96 : s < 96 := by have := (least_some hlo).1; rw [arB_len hr] at this; exact this
        have hxl := (ver_len hvr).2
        have HF := Lib.hid (And.intro hE (And.intro hK hL))
        have HM1 := Lib.hid (show idxK (leastO (ces q)) = (s : Int) by rw [hlo]; rfl)
        rw [HM1.out] at HI
        have HCp := Lib.hid (fun (X : World) (hX : Below W0.heap.size W0 X) => copied_any A c q X ((h.below hP.below).below hX) (by rw [← ces_length, arB_len hr]; exact Nat.le_refl _) (fun p hp hu => by
          have := may_len (arB_may hr p.e (List.mem_map.2 ⟨p, hp, rfl⟩))
          omega))
        rw [pad_same hr] at HCp
        have HOw := Lib.hid (fun (X : World) (hX : Below W0.heap.size W0 X) => owned_any ⟨⟨true, id, b, f, x⟩, B, cx⟩ X ((hv.below hP.below).below hX) (by show x.length ≤ 1000000; omega))
        have HFit := Lib.hid (show Fit ⟨true, id, b, f, x⟩ from ⟨hid, hb, hf⟩)
        have HZ0 := Lib.hid hP.size
        generalize putL (ces q) id b f x = L at *
        generalize putK (ces q) b f x = K0 at *
        generalize putE (ces q) b f x = E at *
        generalize q.length = n at *
        dsimp only at HOw
        generalize hnx : x.length = nx at *
        have HNX := Lib.hid hnx
        have s0 : (0 : Int) ≤ s := by omega
        have s9 : (s : Int) < 96 := by omega
        have ts : decide ((s : Int) < 0) = false := by simp
        clear h hv hid hb hf hP hW0 hr hE hK hL hvr hlo hxl HM1 hnx
        go_enter Try.func33, Try.ntmps33
        go_wp2_with fail
        rw [← HW.out]
        refine HC.out.mono ?_
        rintro e w1 ⟨rfl, hb1⟩
        have HV1 := Lib.hid (HV.out w1 hb1)
        have HB1 := Lib.hid hb1
        obtain ⟨hbw, x0, xv, xr⟩ := HX.out w1 hb1
        have v0 := (cell_of_row _ _ 0 _ _ _ xv).trans rfl
        have v1 := (cell_of_row _ _ 1 _ _ _ xv).trans rfl
        have v2 := (cell_of_row _ _ 2 _ _ _ xv).trans rfl
        clear hb1 hbw x0 xv xr
        go_wp2_with fail
        refine HV1.out.mono ?_
        rintro e w2 ⟨rfl, hb2⟩
        have HB2 := Lib.hid (HB1.out.trans (hb2.mono HB1.out.size))
        obtain ⟨hbw, x0, xv, xr⟩ := HX.out w2 HB2.out
        have a0 := x0.cell
        have HI1 := Lib.hid (HI.out w2 HB2.out)
        clear hb2 hbw x0 xv xr v0 v1 v2
        go_wp2_with fail
        refine HI1.out.mono ?_
        rintro e w3 ⟨rfl, hb3⟩
        have HB3 := Lib.hid (HB2.out.trans (hb3.mono HB2.out.size))
        obtain ⟨hbw, x0, xv, xr⟩ := HX.out w3 HB3.out
        have a1 := x0.cell
        have HCp1 := Lib.hid (HCp.out w3 HB3.out)
        clear hb3 hbw x0 xv xr a0
        go_wp2_with fail
        refine HCp1.out.mono ?_
        rintro e w4 ⟨g, q4, rfl, hq4, hl4, ho4, hb4⟩
        have hB4 := HB3.out.trans (hb4.mono HB3.out.size)
        obtain ⟨z, hz⟩ : ∃ z, z = w4.heap.size := ⟨_, rfl⟩
        obtain ⟨V, hV⟩ : ∃ V, V = w4.alloc (.cells #[.slice (some ⟨g, 0, none⟩) 96 96] 37) := ⟨_, rfl⟩
        have hbV : Below w4.heap.size w4 V := by rw [hV]; exact (Below.refl _ w4).alloc (Nat.le_refl _) _
        have hB5 : Below W0.heap.size W0 V := hB4.trans (hbV.mono hB4.size)
        have hx12 : Boxed V z 37 (.slice (some ⟨g, 0, none⟩) 96 96) := by rw [hV, hz]; exact Boxed.new w4 _ _
        have hoV : OwnA W0.heap.size V (some ⟨g, 0, none⟩) 96 q4 := (ho4.mono HB3.out.size).below hbV
        have hgz : W0.heap.size ≤ g ∧ g < z := by rw [hz]; exact (ho4.mono HB3.out.size).lo
        have HS := Lib.hid (fun (X : World) (hX : Turn (fun i => i = g) V X) => show X.cell? ⟨z, 0, none⟩ = some (.slice (some ⟨g, 0, none⟩) 96 96) ∧ X.cell? ⟨w.heap.size + 1, 0, none⟩ = some (.int .u64 b) ∧ X.cell? ⟨w.heap.size + 1, 1, none⟩ = some (.int .u64 f) ∧ X.cell? ⟨w.heap.size + 1, 2, none⟩ = some (.slice B nx cx) from by
          obtain ⟨_, _, xv, _⟩ := HX.out V hB5
          have hz0 := HZ0.out
          have e1 := (hX.block z hx12.lt (by omega)).trans hx12
          have e2 := (hX.block (w.heap.size + 1) (lt_of_block xv) (by omega)).trans xv
          exact ⟨Boxed.cell e1, (cell_of_row _ _ 0 _ _ _ e2).trans rfl, (cell_of_row _ _ 1 _ _ _ e2).trans rfl, (cell_of_row _ _ 2 _ _ _ e2).trans rfl⟩)
        have HPt := Lib.hid (fun (X : World) (A1 : Option Addr) (c1 : Nat) (hX : Below V.heap.size V X) (hvX : OwnV V.heap.size X A1 c1 x) => show (∃ p0 : Pa, X.cell? ⟨g, s * 5, none⟩ = some (.bool p0.e.u) ∧ X.cell? ⟨g, s * 5 + 1, none⟩ = some (.int .u64 p0.e.i) ∧ X.cell? ⟨g, s * 5 + 2, none⟩ = some (.int .u64 p0.e.b) ∧ X.cell? ⟨g, s * 5 + 3, none⟩ = some (.int .u64 p0.e.f) ∧ X.cell? ⟨g, s * 5 + 4, none⟩ = some (.slice p0.B p0.e.x.length p0.c)) ∧
            (X.frozen? ⟨g, s * 5, none⟩ = false ∧ X.frozen? ⟨g, s * 5 + 1, none⟩ = false ∧ X.frozen? ⟨g, s * 5 + 2, none⟩ = false ∧ X.frozen? ⟨g, s * 5 + 3, none⟩ = false ∧ X.frozen? ⟨g, s * 5 + 4, none⟩ = false) ∧
            (OwnA W0.heap.size (put5 X g (s * 5) ⟨⟨true, id, b, f, x⟩, A1, c1⟩) (some ⟨g, 0, none⟩) 96 (q4.set s ⟨⟨true, id, b, f, x⟩, A1, c1⟩) ∧ Turn (fun i => i = g) V (put5 X g (s * 5) ⟨⟨true, id, b, f, x⟩, A1, c1⟩)) from by
          have ho := hoV.below hX
          obtain ⟨p0, _, d0, d1, d2, d3, d4, f0, f1, f2, f3, f4⟩ := ho.cells (i := s) (by omega)
          exact ⟨⟨p0, d0, d1, d2, d3, d4⟩, ⟨f0, f1, f2, f3, f4⟩, ho.put (by omega) (hvX.mono hB5.size) HFit.out, (Turn.of_below (S := fun i => i = g) hX).trans (put5_turn _ _ _ _) (fun i hi => .inl hi)⟩)
        have HOw1 := Lib.hid (fun (X : World) (hX : Below V.heap.size V X) => HOw.out X (hB5.trans (hX.mono hB5.size)))
        have HV := Lib.hid hV
        have HQ4 := Lib.hid (And.intro hq4 hl4)
        have HB5 := Lib.hid hB5
        have HGZ := Lib.hid hgz
        have HZZ := Lib.hid (show w4.heap.size = z from hz.symm)
        clear hb4 hB4 hbV hB5 hx12 hoV hgz ho4 hq4 hl4 hV a1 hz
        go_wp2_with (rw [← HV.out])
        rw [HZZ.out]
        go_region_held3 (fun X => X.cell? ⟨z, 0, none⟩ = some (.slice (some ⟨g, 0, none⟩) 96 96) ∧ X.cell? ⟨w.heap.size + 1, 0, none⟩ = some (.int .u64 b) ∧ X.cell? ⟨w.heap.size + 1, 1, none⟩ = some (.int .u64 f) ∧ X.cell? ⟨w.heap.size + 1, 2, none⟩ = some (.slice B nx cx))
          (first | (with_reducible assumption) | (with_reducible exact HS.out _ (Turn.of_below (below_drew (Below.refl _ _)))) | (with_reducible exact HS.out _ HT0.out) | (with_reducible exact HS.out _ HT6.out))
          (first | (go_at_call 73; refine (HOw1.out _ (below_drew (Below.refl _ _))).mono ?_; rintro e w6 ⟨A6, c6, rfl, hv6, hb6⟩; have HB6 := Lib.hid (show Below V.heap.size V w6 from (below_drew (Below.refl _ V)).trans hb6); have HT0 := Lib.hid (show Turn (fun i => i = g) V w6 from Turn.of_below HB6.out); have HP6 := Lib.hid (HPt.out w6 A6 c6 HB6.out hv6); have HT6 := Lib.hid (show Turn (fun i => i = g) V (((((w6.setCell ⟨g, s * 5, none⟩ (.bool true)).setCell ⟨g, s * 5 + 1, none⟩ (.int .u64 id)).setCell ⟨g, s * 5 + 2, none⟩ (.int .u64 b)).setCell ⟨g, s * 5 + 3, none⟩ (.int .u64 f)).setCell ⟨g, s * 5 + 4, none⟩ (.slice A6 nx c6)) from by rw [← HNX.out]; exact HP6.out.2.2.2); obtain ⟨⟨p0, d0, d1, d2, d3, d4⟩, ⟨f0, f1, f2, f3, f4⟩, _⟩ := HP6.out; clear hv6 hb6))
        obtain ⟨W6, hW6⟩ : ∃ W6, W6 = (((((w6.setCell ⟨g, s * 5, none⟩ (.bool true)).setCell ⟨g, s * 5 + 1, none⟩ (.int .u64 id)).setCell ⟨g, s * 5 + 2, none⟩ (.int .u64 b)).setCell ⟨g, s * 5 + 3, none⟩ (.int .u64 f)).setCell ⟨g, s * 5 + 4, none⟩ (.slice A6 nx c6)) := ⟨_, rfl⟩
        have hO6 : OwnA W0.heap.size W6 (some ⟨g, 0, none⟩) 96 (q4.set s ⟨⟨true, id, b, f, x⟩, A6, c6⟩) := by rw [hW6, ← HNX.out]; exact HP6.out.2.2.1
        have hT6 : Turn (fun i => i = g) V W6 := by rw [hW6]; exact HT6.out
        have e12 := (HS.out W6 hT6).1
        rw [← hW6]
        obtain ⟨_, _, _, xrV⟩ := HX.out V HB5.out
        have hz0 := HZ0.out
        have xr : Boxed W6 (w.heap.size + 2) 37 (.slice none 0 0) := (hT6.block _ xrV.lt (by have := HGZ.out; omega)).trans xrV
        have hbV : Below w.heap.size w V := (HX.out V HB5.out).1
        have hb6 : Below w.heap.size w W6 := hbV.trans (hT6.below hbV.size (fun i hi => by have := HGZ.out; omega))
        obtain ⟨r0, hbR⟩ := res_set (.slice (some ⟨g, 0, none⟩) 96 96) xr hb6 (by omega)
        have hO7 : OwnA w.heap.size (W6.setCell ⟨w.heap.size + 2, 0, none⟩ (.slice (some ⟨g, 0, none⟩) 96 96)) (some ⟨g, 0, none⟩) 96 (q4.set s ⟨⟨true, id, b, f, x⟩, A6, c6⟩) := (hO6.turn (turn_set _ _ _ _) (fun i hi _ e => by omega)).mono (by omega)
        have c0 := xr.cell
        have f0 := xr.frozen
        have HB := Lib.hid (And.intro hO7 hbR)
        clear hW6 hO6 hT6 xrV hz0 xr hbV hb6 hbR hO7 d0 d1 d2 d3 d4 f1 f2 f3 f4 HT6 HP6
        go_wp2
        refine bodyPost_ret (v := .tuple #[.agg #[.slice (some ⟨g, 0, none⟩) 96 96], .int .i64 s, .int .i64 0]) (by simp [results, Try.results33, go_sem, r0]) rfl ?_
        rw [HF.out.1, HF.out.2.1, HF.out.2.2]
        exact ⟨some ⟨g, 0, none⟩, 96, q4.set s ⟨⟨true, id, b, f, x⟩, A6, c6⟩, by rw [List.length_set, HQ4.out.2], by rw [ces_set, HQ4.out.1], HB.out.1, HB.out.2⟩

end Go.Proofs.Ytpeialkfddjndaa

namespace Go.Proofs.Ytpeialkfddjndaa
open Go.ChangeShapes Go.WideShapes Go.ChangeAt Go.RowKit Go.Deep
set_option linter.unusedVariables false
set_option linter.unusedSimpArgs false
set_option maxRecDepth 100000

theorem Try.own : ownKnob Try.prog.godebug = none := by kernel_rfl
theorem Try.laidOut : laidOutB Try.prog = true := by kernel_rfl

/-- All arguments at once: below the heap's old size nothing has turned, so each reads as it did. -/
theorem trodAll_kept {H : Type} {enc : TypeId × Value → H} {P : Program} {W W' : World} (hl : laidOutB P = true) (hb : Below W.heap.size W W') (ts : List TypeId) :
    ∀ (vs : List Value) (ds : List (DataW H)) (ps : List MemPlace), (ts.all fun t => P.readableRec t && decide (t < P.types.size)) = true →
      DataW.TrodAll enc P W 0 (fun _ => true) true ts vs ds ps → DataW.TrodAll enc P W' 0 (fun b => decide (b < W.heap.size)) true ts vs ds ps := by
  induction ts with
  | nil =>
    intro vs ds ps _ h
    rcases vs with _ | ⟨v, vs⟩ <;> rcases ds with _ | ⟨d, ds⟩ <;> simp [DataW.TrodAll] at h ⊢
    exact h
  | cons t ts ih =>
    intro vs ds ps ht h
    rcases vs with _ | ⟨v, vs⟩
    · simp [DataW.TrodAll] at h
    rcases ds with _ | ⟨d, ds⟩
    · simp [DataW.TrodAll] at h
    obtain ⟨p, q, h1, h2, rfl⟩ := h
    simp only [List.all_cons, Bool.and_eq_true, decide_eq_true_eq] at ht
    have lt : ∀ x ∈ p, x.block < W.heap.size := by obtain ⟨m, hm⟩ := h1; exact DataW.trod_lt m _ _ _ hm
    exact ⟨p, q, Below.trod hl ht.1.1 ht.1.2 h1 hb lt, ih vs ds q ht.2 h2, rfl⟩
theorem trodAll_below {H : Type} {enc : TypeId × Value → H} {W W' : World} (hb : Below W.heap.size W W') (ts : List TypeId) (vs : List Value) (ds : List (DataW H)) (ps : List MemPlace)
    (ht : (ts.all fun t => Try.prog.readableRec t && decide (t < Try.prog.types.size)) = true) (h : DataW.TrodAll enc Try.prog W 0 (fun _ => true) true ts vs ds ps) :
    DataW.TrodAll enc Try.prog W' 0 (fun b => decide (b < W.heap.size)) true ts vs ds ps := trodAll_kept Try.laidOut hb ts vs ds ps ht h

/-- Numbers that came in. -/
theorem vec_core {H : Type} {enc : TypeId × Value → H} {W : World} {fuel : Nat} {cs : List Value} {x : DataW H × List MemPlace} (h : DataW.trod enc Try.prog W 0 (fun _ => true) true fuel 46 cs = some x) :
    ∃ A c xs, cs = [.slice A (List.length xs) c] ∧ Vec .i32 W A c xs := by
  rcases open_ints Try.underlying46 Try.underlying21 (by kernel_rfl) h with ⟨hcs, _⟩ | ⟨x, len, cap, zs, hcs, _, hl, hm, hz, _, hcell, hwz⟩
  · exact ⟨none, 0, [], hcs, Vec.nil _ _⟩
  · have hz' : zs.length = cap := by simpa using hz
    have hlen : (zs.take len).length = len := by simp; omega
    refine ⟨some x, cap, zs.take len, by rw [hlen]; exact hcs, ⟨by omega, by unfold maxLen at hm; omega, fun hp => ?_, fun b hb => hwz b (List.mem_of_mem_take hb)⟩⟩
    obtain ⟨b, off, spot⟩ := x
    have hc := hcell 0 (by omega)
    have hspot : spot = none := by simpa [Addr.add] using World.cell?_spot hc
    subst hspot
    have hc' : W.cell? ⟨b, off, none⟩ = some (.int .i32 (zs.getD 0 0)) := by simpa [Addr.add] using hc
    refine ⟨b, off, rfl, World.block_lt_of_cell? W _ hc', fun j hj => ?_⟩
    have h1 := hcell j (by omega)
    rw [Addr.add_lit] at h1
    rw [h1]
    have : j < len := by omega
    simp [List.getD, this]
theorem ver_core {H : Type} {enc : TypeId × Value → H} {W : World} {fuel : Nat} {cs : List Value} {x : DataW H × List MemPlace} (h : DataW.trod enc Try.prog W 0 (fun _ => true) true fuel 65 cs = some x) :
    ∃ b f A c xs, cs = [.int .u64 b, .int .u64 f, .slice A (List.length xs) c] ∧ (Lit.int .u64 b).wf = true ∧ (Lit.int .u64 f).wf = true ∧ Vec .i32 W A c xs := by
  have hu := Try.underlying65
  have hone := fun i f => hone_of (P := Try.prog) (fs := (match Try.prog.underlying 65 with | some (.struct fs) => fs | _ => #[])) (by kernel_rfl) i f
  rw [hu] at hone
  obtain ⟨ys, n, _, _, hlen, hy, hf⟩ := DataW.trod_struct hu h
  have h2 : Try.prog.cellsOf 65 = 3 := by kernel_rfl
  rw [h2] at hlen
  match cs, hlen with
  | [v0, v1, v2], _ =>
    have f0 : DataW.trod enc Try.prog W 0 (fun _ => true) true n 52 [v0] = ys[0]? := by have h1 := hf 0 _ rfl; obtain ⟨o1, k1⟩ := hone 0 _ rfl; rw [o1, k1] at h1; exact h1
    have f1 : DataW.trod enc Try.prog W 0 (fun _ => true) true n 52 [v1] = ys[1]? := by have h1 := hf 1 _ rfl; obtain ⟨o1, k1⟩ := hone 1 _ rfl; rw [o1, k1] at h1; exact h1
    have f2 : DataW.trod enc Try.prog W 0 (fun _ => true) true n 46 [v2] = ys[2]? := by have h1 := hf 2 _ rfl; obtain ⟨o1, k1⟩ := hone 2 _ rfl; rw [o1, k1] at h1; exact h1
    have g : ∀ (i : Nat) (hi : i < 3), ∃ y, ys[i]? = some y := fun i hi => ⟨_, List.getElem?_eq_getElem (by rw [hy]; exact hi)⟩
    obtain ⟨y0, e0⟩ := g 0 (by omega)
    obtain ⟨y1, e1⟩ := g 1 (by omega)
    obtain ⟨y2, e2⟩ := g 2 (by omega)
    rw [e0] at f0
    rw [e1] at f1
    rw [e2] at f2
    obtain ⟨a, ha, _, wa⟩ := DataW.trod_int Try.underlying52 f0
    obtain ⟨b, hb, _, wb⟩ := DataW.trod_int Try.underlying52 f1
    obtain ⟨A, c, xs, hc, hv⟩ := vec_core f2
    simp at ha hb hc
    subst ha
    subst hb
    subst hc
    exact ⟨a, b, A, c, xs, rfl, wa, wb, hv⟩


theorem open_ver {H : Type} {enc : TypeId × Value → H} {r : Reach} {b0 : Nat} {v : Value} {W : World} {d : DataW H} {p : List MemPlace} (hv : Value.okWide Try.prog W r b0 65 v) (h : DataW.Trod enc Try.prog W 0 (fun _ => true) true 65 v d p) :
    ∃ b f A c xs, v = .agg #[.int .u64 b, .int .u64 f, .slice A (List.length xs) c] ∧ U64s b ∧ U64s f ∧ Vec .i32 W A c xs := by
  obtain ⟨cs, rfl, _⟩ := okWide_struct Try.underlying65 hv
  obtain ⟨fuel, hf⟩ := h
  obtain ⟨b, f, A, c, xs, e, wb, wf, hx⟩ := ver_core (cs := cs.toList) (by simpa [Value.cells] using hf)
  exact ⟨b, f, A, c, xs, by congr 1; exact Array.toList_inj.1 e, wb, wf, hx⟩

theorem cell_core {H : Type} {enc : TypeId × Value → H} {W : World} {fuel : Nat} {cs : List Value} {x : DataW H × List MemPlace} (h : DataW.trod enc Try.prog W 0 (fun _ => true) true fuel 76 cs = some x) :
    ∃ p : Pa, cs = [.bool p.e.u, .int .u64 p.e.i, .int .u64 p.e.b, .int .u64 p.e.f, .slice p.B p.e.x.length p.c] ∧ Fit p.e ∧ Vec .i32 W p.B p.c p.e.x := by
  have hu := Try.underlying76
  obtain ⟨ys, n, _, _, hlen, hy, hf⟩ := DataW.trod_struct hu h
  have h5 : Try.prog.cellsOf 76 = 5 := by kernel_rfl
  have h3 : Try.prog.cellsOf 65 = 3 := by kernel_rfl
  have h1b : Try.prog.cellsOf 4 = 1 := by kernel_rfl
  have h1u : Try.prog.cellsOf 52 = 1 := by kernel_rfl
  rw [h5] at hlen
  match cs, hlen with
  | [v0, v1, v2, v3, v4], _ =>
    have f0 : DataW.trod enc Try.prog W 0 (fun _ => true) true n 4 [v0] = ys[0]? := by have h1 : DataW.trod enc Try.prog W 0 (fun _ => true) true n 4 (([v0, v1, v2, v3, v4].drop 0).take (Try.prog.cellsOf 4)) = ys[0]? := hf 0 _ rfl; rw [h1b] at h1; exact h1
    have f1 : DataW.trod enc Try.prog W 0 (fun _ => true) true n 52 [v1] = ys[1]? := by have h1 : DataW.trod enc Try.prog W 0 (fun _ => true) true n 52 (([v0, v1, v2, v3, v4].drop 1).take (Try.prog.cellsOf 52)) = ys[1]? := hf 1 _ rfl; rw [h1u] at h1; exact h1
    have f2 : DataW.trod enc Try.prog W 0 (fun _ => true) true n 65 [v2, v3, v4] = ys[2]? := by have h1 : DataW.trod enc Try.prog W 0 (fun _ => true) true n 65 (([v0, v1, v2, v3, v4].drop 2).take (Try.prog.cellsOf 65)) = ys[2]? := hf 2 _ rfl; rw [h3] at h1; exact h1
    have g : ∀ (i : Nat) (hi : i < 3), ∃ y, ys[i]? = some y := fun i hi => ⟨_, List.getElem?_eq_getElem (by rw [hy]; exact hi)⟩
    obtain ⟨y0, e0⟩ := g 0 (by omega)
    obtain ⟨y1, e1⟩ := g 1 (by omega)
    obtain ⟨y2, e2⟩ := g 2 (by omega)
    rw [e0] at f0
    rw [e1] at f1
    rw [e2] at f2
    obtain ⟨u, hu0, _⟩ := DataW.trod_bool Try.underlying4 f0
    obtain ⟨i, hi, _, wi⟩ := DataW.trod_int Try.underlying52 f1
    obtain ⟨b, f, A, c, xs, hc, wb, wf, hv⟩ := ver_core f2
    simp at hu0 hi hc
    obtain ⟨rfl, rfl, rfl⟩ := hc
    subst hu0
    subst hi
    exact ⟨⟨⟨u, i, b, f, xs⟩, A, c⟩, rfl, ⟨wi, wb, wf⟩, hv⟩

/-- Cells that came in. -/
theorem cells_core {H : Type} {enc : TypeId × Value → H} {W : World} {fuel : Nat} {cs : List Value} {x : DataW H × List MemPlace} (h : DataW.trod enc Try.prog W 0 (fun _ => true) true fuel 35 cs = some x) :
    ∃ A c q, cs = [.slice A (List.length q) c] ∧ Are W A c q := by
  have h5 : Try.prog.cellsOf 76 = 5 := by kernel_rfl
  rcases open_slice Try.underlying35 h with ⟨hcs, _⟩ | ⟨a, len, cap, m, nn, D, Ps, hcs, _, hl, hm, hmm, _, hi⟩
  · exact ⟨none, 0, [], hcs, Are.nil _⟩
  · have hmc : m = cap := by simpa using hmm
    subst hmc
    rw [h5] at hi
    have each : ∀ i, i < len → ∃ p : Pa, W.cell? (a.add (i * 5)) = some (.bool p.e.u) ∧ W.cell? ((a.add (i * 5)).add 1) = some (.int .u64 p.e.i) ∧ W.cell? ((a.add (i * 5)).add 2) = some (.int .u64 p.e.b) ∧ W.cell? ((a.add (i * 5)).add 3) = some (.int .u64 p.e.f) ∧ W.cell? ((a.add (i * 5)).add 4) = some (.slice p.B p.e.x.length p.c) ∧ Vec .i32 W p.B p.c p.e.x ∧ Fit p.e := fun i him => by
      obtain ⟨cs', hc, ht⟩ := hi i (by omega)
      obtain ⟨p, hcs', hfit, hv⟩ := cell_core ht
      obtain ⟨_, _, hat⟩ := World.cells?_some hc
      subst hcs'
      refine ⟨p, ?_, ?_, ?_, ?_, ?_, hv, hfit⟩
      · have := hat 0 (by omega); simpa [Addr.add] using this
      · simpa using hat 1 (by omega)
      · simpa using hat 2 (by omega)
      · simpa using hat 3 (by omega)
      · simpa using hat 4 (by omega)
    haveI : Inhabited Pa := ⟨pz⟩
    obtain ⟨f, hf⟩ := choose_lt each
    refine ⟨some a, m, (List.range len).map f, by simpa using hcs, by simpa using hl, by unfold maxLen at hm; omega, fun hp => ?_, fun p hp => ?_, fun p hp => ?_⟩
    · have hp' : 0 < len := by simpa using hp
      obtain ⟨b, off, spot⟩ := a
      obtain ⟨hc0, _⟩ := hf 0 hp'
      have hspot : spot = none := by simpa [Addr.add] using World.cell?_spot hc0
      subst hspot
      refine ⟨b, off, rfl, World.block_lt_of_cell? W _ (by simpa [Addr.add] using hc0), fun i p hip => ?_⟩
      have hil : i < len := by have := (List.getElem?_eq_some_iff.1 hip).1; simpa using this
      have hpe : f i = p := by simpa [hil] using hip
      obtain ⟨g0, g1, g2, g3, g4, _⟩ := hf i hil
      simp only [Addr.add_lit] at g0 g1 g2 g3 g4
      rw [hpe] at g0 g1 g2 g3 g4
      exact ⟨g0, g1, g2, g3, g4⟩
    · obtain ⟨i, hi', rfl⟩ := List.mem_map.1 hp
      exact (hf i (List.mem_range.1 hi')).2.2.2.2.2.1
    · obtain ⟨i, hi', rfl⟩ := List.mem_map.1 hp
      exact (hf i (List.mem_range.1 hi')).2.2.2.2.2.2
theorem open_cells {H : Type} {enc : TypeId × Value → H} {W : World} {a : Option Addr} {len cap : Nat} {d : DataW H} {p : List MemPlace}
    (h : DataW.Trod enc Try.prog W 0 (fun _ => true) true 35 (.slice a len cap) d p) : ∃ q : List Pa, q.length = len ∧ Are W a cap q := by
  obtain ⟨fuel, hf⟩ := h
  obtain ⟨A, c, l, hcs, hh⟩ := cells_core hf
  simp [Value.cells] at hcs
  obtain ⟨rfl, e, rfl⟩ := hcs
  exact ⟨l, e.symm, hh⟩
theorem open_arena {H : Type} {enc : TypeId × Value → H} {r : Reach} {b0 : Nat} {v : Value} {W : World} {d : DataW H} {p : List MemPlace} (hv : Value.okWide Try.prog W r b0 37 v) (h : DataW.Trod enc Try.prog W 0 (fun _ => true) true 37 v d p) :
    ∃ A c q, v = .agg #[.slice A (List.length q) c] ∧ Are W A c q := by
  obtain ⟨cs, rfl, _⟩ := okWide_struct Try.underlying37 hv
  obtain ⟨fuel, hf⟩ := h
  have hf' : DataW.trod enc Try.prog W 0 (fun _ => true) true fuel 37 cs.toList = some (d, p) := by simpa [Value.cells] using hf
  obtain ⟨ys, n, _, _, hlen, hy, hg⟩ := DataW.trod_struct Try.underlying37 hf'
  have h1 : Try.prog.cellsOf 37 = 1 := by kernel_rfl
  have h1s : Try.prog.cellsOf 35 = 1 := by kernel_rfl
  rw [h1] at hlen
  obtain ⟨l, hl⟩ : ∃ l, l = cs.toList := ⟨_, rfl⟩
  rw [← hl] at hlen hg
  match l, hlen with
  | [v0], _ =>
    have f0 : DataW.trod enc Try.prog W 0 (fun _ => true) true n 35 [v0] = ys[0]? := by have h1 : DataW.trod enc Try.prog W 0 (fun _ => true) true n 35 (([v0].drop 0).take (Try.prog.cellsOf 35)) = ys[0]? := hg 0 _ rfl; rw [h1s] at h1; exact h1
    obtain ⟨y0, e0⟩ : ∃ y, ys[0]? = some y := ⟨_, List.getElem?_eq_getElem (by rw [hy]; exact Nat.zero_lt_one)⟩
    rw [e0] at f0
    obtain ⟨A, c, q, hc, hh⟩ := cells_core f0
    refine ⟨A, c, q, ?_, hh⟩
    congr 1
    apply Array.toList_inj.1
    rw [← hl, hc]

theorem open_slots {H : Type} {enc : TypeId × Value → H} {W : World} {a : Option Addr} {len cap : Nat} {d : DataW H} {p : List MemPlace}
    (h : DataW.Trod enc Try.prog W 0 (fun _ => true) true 47 (.slice a len cap) d p) : ∃ xs : List Int, xs.length = len ∧ Vec .i64 W a cap xs := by
  obtain ⟨fuel, hf⟩ := h
  rcases open_ints Try.underlying47 Try.underlying3 (by kernel_rfl) hf with ⟨hcs, _⟩ | ⟨x, l, c, zs, hcs, _, hl, hm, hz, _, hcell, hwz⟩
  · simp [Value.cells] at hcs
    obtain ⟨rfl, rfl, rfl⟩ := hcs
    exact ⟨[], rfl, Vec.nil _ _⟩
  · simp [Value.cells] at hcs
    obtain ⟨rfl, rfl, rfl⟩ := hcs
    have hz' : zs.length = cap := by simpa using hz
    have hlen : (zs.take len).length = len := by simp; omega
    refine ⟨zs.take len, hlen, by omega, by unfold maxLen at hm; omega, fun hp => ?_, fun b hb => hwz b (List.mem_of_mem_take hb)⟩
    obtain ⟨b, off, spot⟩ := x
    have hc := hcell 0 (by omega)
    have hspot : spot = none := by simpa [Addr.add] using World.cell?_spot hc
    subst hspot
    have hc' : W.cell? ⟨b, off, none⟩ = some (.int .i64 (zs.getD 0 0)) := by simpa [Addr.add] using hc
    refine ⟨b, off, rfl, World.block_lt_of_cell? W _ hc', fun j hj => ?_⟩
    have h1 := hcell j (by omega)
    rw [Addr.add_lit] at h1
    rw [h1]
    have : j < len := by omega
    simp [List.getD, this]
theorem open_time {H : Type} {enc : TypeId × Value → H} {r : Reach} {b0 : Nat} {v : Value} {W : World} {d : DataW H} {p : List MemPlace} (hv : Value.okWide Try.prog W r b0 52 v) (h : DataW.Trod enc Try.prog W 0 (fun _ => true) true 52 v d p) :
    ∃ a, v = .int .u64 a ∧ U64s a := by
  obtain ⟨a, e, _, _, w⟩ := open_int Try.underlying52 hv h
  exact ⟨a, e, w⟩

end Go.Proofs.Ytpeialkfddjndaa
