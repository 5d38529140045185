/-
  The document's own part of a file (quiverref04.part).
-/
import Derived.Test.YtienabfilnpieaaGreatRefFrame
namespace Go.Proofs.YtienabfilnpieaaGreat
open Go.RowKit
set_option linter.unusedVariables false
set_option linter.unusedSimpArgs false
set_option maxRecDepth 100000

/-- The part with whose frame bytes begin, if it may be one. -/
def partM (k : Int) (r : List Int) : Option (List Int) := match stepM k r with | some (p, _) => if p.length ≤ 16000 then some p else none | none => none
theorem partM_short {k : Int} {r : List Int} (h : r.length < 12) : partM k r = none := by
  unfold partM
  cases hs : stepM k r with
  | none => rfl
  | some pr => obtain ⟨a, b⟩ := pr; have := stepM_len hs; omega
theorem stepM_is {k : Int} {r : List Int} (h12 : 12 ≤ r.length) {s : Nat} (hs : (s : Int) = val (r.take 4)) :
    stepM k r = if r.length < 12 + s then none else if val ((r.drop 4).take 8) ≠ markM k ((r.drop 12).take s) then none else some ((r.drop 12).take s, (r.drop 12).drop s) := by
  have n1 : numS 4 (r, false) = ((s : Int), r.drop 4, false) := by
    unfold numS
    rw [if_neg (by simp; omega), hs]
  have n2 : numS 8 (r.drop 4, false) = (val ((r.drop 4).take 8), r.drop 12, false) := by
    unfold numS
    rw [if_neg (by simp; omega)]
    simp
  unfold stepM
  dsimp only
  rw [n1]
  dsimp only
  rw [n2]
  dsimp only
  by_cases hl : r.length < 12 + s
  · have n3 : bytesS (s : Int) (r.drop 12, false) = ([], r.drop 12, true) := by
      unfold bytesS
      rw [if_pos (by simp; omega)]
    rw [n3, if_pos hl]
    simp
  · have n3 : bytesS (s : Int) (r.drop 12, false) = ((r.drop 12).take s, (r.drop 12).drop s, false) := by
      unfold bytesS
      rw [if_neg (by simp; omega)]
      simp
    rw [n3, if_neg hl]
    by_cases hm : val ((r.drop 4).take 8) ≠ markM k ((r.drop 12).take s)
    · rw [if_pos hm, if_pos (.inr hm)]
    · rw [if_neg hm, if_neg (by rintro (e | e); cases e; exact hm e)]
theorem frame_iff {k : Int} {r : List Int} (ho : Oct r) {s : Nat} (hs : (s : Int) = val (r.take 4)) (hl : ¬ r.length < 12 + s) : frameM k ((r.drop 12).take s) = r.take (12 + s) ↔ val ((r.drop 4).take 8) = markM k ((r.drop 12).take s) := by
  have hp : ((r.drop 12).take s).length = s := by rw [List.length_take, List.length_drop]; omega
  have h4 : (r.take 4).length = 4 := by rw [List.length_take]; omega
  have h8 : ((r.drop 4).take 8).length = 8 := by rw [List.length_take, List.length_drop]; omega
  have hf4 : fldOf 4 (s : Int) = r.take 4 := by
    have := fldOf_yes (m := 4) (s : Int) (by omega) (by omega)
    show fldOf ((4 : Nat) : Int) (s : Int) = _
    rw [this, hs]
    exact fld_val 4 _ h4 (ho.takeN 4)
  have ho8 : Oct ((r.drop 4).take 8) := fun b hb => ho b (List.mem_of_mem_drop (List.mem_of_mem_take hb))
  have et : r.take (12 + s) = r.take 4 ++ (r.drop 4).take 8 ++ (r.drop 12).take s := by
    rw [List.take_add, show (12 : Nat) = 4 + 8 from rfl, List.take_add]
  have hu := markM_u k ((r.drop 12).take s)
  unfold frameM
  rw [hp, hf4, et]
  have hy8 : fldOf 8 (markM k ((r.drop 12).take s)) = fld 8 (markM k ((r.drop 12).take s)) := fldOf_yes (m := 8) _ (by omega) (by omega)
  constructor
  · intro e
    have e1 := List.append_cancel_left (List.append_cancel_right e)
    rw [hy8] at e1
    rw [← e1]
    obtain ⟨X, hX⟩ : ∃ X : Nat, markM k ((r.drop 12).take s) = X := ⟨(markM k ((r.drop 12).take s)).toNat, by have := hu.1; omega⟩
    rw [hX, val_fld, Nat.mod_eq_of_lt (by have := hu.2; rw [hX] at this; simp; omega)]
  · intro e
    rw [hy8, ← e, fld_val 8 _ h8 ho8]
theorem partM_is {k : Int} {r : List Int} (ho : Oct r) (h12 : 12 ≤ r.length) {s : Nat} (hs : (s : Int) = val (r.take 4)) :
    (16000 < s ∨ r.length < 12 + s → partM k r = none) ∧ (¬ (16000 < s ∨ r.length < 12 + s) → partM k r = if frameM k ((r.drop 12).take s) = r.take (12 + s) then some ((r.drop 12).take s) else none) := by
  have hst := stepM_is (k := k) h12 hs
  constructor
  · intro h
    unfold partM
    rw [hst]
    by_cases hl : r.length < 12 + s
    · rw [if_pos hl]
    · rw [if_neg hl]
      split
      · rename_i heq
        split at heq
        · cases heq
        · injection heq with heq
          injection heq with e1 _
          subst e1
          rw [if_neg]
          rw [List.length_take, List.length_drop]
          omega
      · rfl
  · intro h
    have hl : ¬ r.length < 12 + s := fun e => h (.inr e)
    unfold partM
    rw [hst, if_neg hl]
    have hfi := frame_iff (k := k) ho hs hl
    by_cases hm : val ((r.drop 4).take 8) = markM k ((r.drop 12).take s)
    · rw [if_neg (by simpa using hm), if_pos (hfi.2 hm)]
      dsimp only
      rw [if_pos (by rw [List.length_take]; omega)]
    · rw [if_pos hm, if_neg (fun e => hm (hfi.1 e))]

def PartAs (w : World) (k : Int) (r : List Int) (e : Ending) (w' : World) : Prop :=
  Below w.heap.size w w' ∧ (partM k r = none → e = .returned (.tuple #[.slice none 0 0, .bool false])) ∧ (∀ p, partM k r = some p → ∃ A1 c1, e = .returned (.tuple #[.slice A1 p.length c1, .bool true]) ∧ New w.heap.size w' A1 c1 p)
theorem sl_drop {w : World} {b o c : Nat} {bs : List Int} (h : Sl w (some ⟨b, o, none⟩) c bs) (n : Nat) (hn : n ≤ bs.length) : Sl w (some ⟨b, o + n, none⟩) (c - n) (bs.drop n) := by
  have hr := h.room
  have hm := h.most
  refine ⟨by rw [List.length_drop]; omega, by omega, fun hp => ?_⟩
  rw [List.length_drop] at hp
  obtain ⟨b', o', e, hl, hc⟩ := h.rd (by omega)
  injection e with e
  injection e with e1 e2
  subst e1
  subst e2
  refine ⟨b, o + n, rfl, hl, fun j hj => ?_⟩
  rw [List.length_drop] at hj
  have := hc (n + j) (by omega)
  rw [← Nat.add_assoc] at this
  rw [this]
  simp [List.getD]

set_option maxHeartbeats 4000000 in
theorem rPart_any (k : Int) (hk0 : 0 ≤ k) (hk1 : k ≤ 1000000) (A : Option Addr) (c : Nat) (r : List Int) (w : World) (hs : Sl w A c r) (ho : Oct r) (hbig : r.length ≤ 1000000) :
    Calls Tryz.prog 64 #[.int .i64 k, .slice A r.length c] w (PartAs w k r) := by
  have hroom := hs.room
  have hmost := hs.most
  by_cases h12 : r.length < 12
  · have HP := Lib.hid (partM_short (k := k) h12)
    have h12' : (r.length : Int) < 12 := by omega
    generalize hrl : r.length = l at *
    clear hs ho hrl
    go_enter Tryz.func64, Tryz.ntmps64
    go_wp2
    go_ret2
    exact ⟨Below.refl _ _, fun _ => rfl, fun p hp => by rw [HP.out] at hp; cases hp⟩
  · obtain ⟨b, o, hA, hbl, hcells⟩ := hs.rd (by omega)
    subst hA
    have h4 : (r.take 4).length = 4 := by rw [List.length_take]; omega
    have hv0 := val_nonneg (ho.takeN 4)
    have hv1 := val_lt (ho.takeN 4)
    rw [h4] at hv1
    obtain ⟨s, hsv⟩ : ∃ s : Nat, (s : Int) = val (r.take 4) := ⟨(val (r.take 4)).toNat, by omega⟩
    have hsb : (s : Int) < 4294967296 := by rw [hsv]; simpa using hv1
    have hnum := rNumber_any (some ⟨b, o, none⟩) c (r.take 4) w (sl_take hs 4) (ho.takeN 4) (by omega)
    rw [h4, ← hsv] at hnum
    have HNUM := Lib.hid hnum
    obtain ⟨q1, q2⟩ := partM_is (k := k) ho (by omega) hsv
    obtain ⟨l, hl⟩ : ∃ l, l = r.length := ⟨_, rfl⟩
    have w1' : IntKind.u64.wrap (l : Int) = (l : Int) := by rw [IntKind.wrap_u64]; omega
    have w2' : IntKind.u64.wrap (12 + (s : Int)) = 12 + (s : Int) := by rw [IntKind.wrap_u64]; omega
    have h12' : ¬ (l : Int) < 12 := by omega
    have i1 : (12 : Int) ≤ (c : Int) := by omega
    have i2 : (4 : Int) ≤ (c : Int) := by omega
    rw [← hl] at hroom h12 hbig ⊢
    by_cases hbad : 16000 < s ∨ r.length < 12 + s
    · have HP := Lib.hid (q1 hbad)
      rw [← hl] at hbad
      clear hs ho hcells h4 hv0 hv1 hsv hnum q1 q2 hl
      by_cases hg : 16000 < s
      · have g1 : decide ((16000 : Int) < (s : Int)) = true := by simp; omega
        go_enter Tryz.func64, Tryz.ntmps64
        go_wp2_with (go_at_call 60; refine HNUM.out.mono ?_; rintro e w' ⟨rfl, rfl⟩)
        go_ret2
        exact ⟨Below.refl _ _, fun _ => rfl, fun p hp => by rw [HP.out] at hp; cases hp⟩
      · have g1 : decide ((16000 : Int) < (s : Int)) = false := by simp; omega
        have g2 : decide ((l : Int) < 12 + (s : Int)) = true := by simp; omega
        go_enter Tryz.func64, Tryz.ntmps64
        go_wp2_with (go_at_call 60; refine HNUM.out.mono ?_; rintro e w' ⟨rfl, rfl⟩)
        go_ret2
        exact ⟨Below.refl _ _, fun _ => rfl, fun p hp => by rw [HP.out] at hp; cases hp⟩
    · have hq := q2 hbad
      have g1 : decide ((16000 : Int) < (s : Int)) = false := by simp; omega
      have g2 : decide ((l : Int) < 12 + (s : Int)) = false := by simp; omega
      have i3 : 12 + (s : Int) ≤ (c : Int) := by omega
      have i4 : (12 : Int) ≤ 12 + (s : Int) := by omega
      have i5 : (0 : Int) ≤ 12 + (s : Int) := by omega
      have i6 : 12 + (s : Int) ≤ (l : Int) := by omega
      obtain ⟨p, hp⟩ : ∃ p, p = (r.drop 12).take s := ⟨_, rfl⟩
      have hpl : p.length = s := by rw [hp, List.length_take, List.length_drop]; omega
      obtain ⟨PA, hPA⟩ : ∃ PA, PA = (if c = 12 then some (⟨b, o, none⟩ : Addr) else some ⟨b, o + 12, none⟩) := ⟨_, rfl⟩
      have HPA := Lib.hid hPA
      have hps : Sl w PA (c - 12) p := by
        rw [hPA]
        by_cases hc : c = 12
        · rw [if_pos hc]
          exact ⟨by omega, by omega, fun h => by omega⟩
        · rw [if_neg hc, hp]
          exact sl_take (sl_drop hs 12 (by omega)) s
      have hpo : Oct p := by rw [hp]; exact fun x hx => ho x (List.mem_of_mem_drop (List.mem_of_mem_take hx))
      have htl : (r.take (12 + s)).length = 12 + s := by rw [List.length_take]; omega
      have HFR := Lib.hid (fun W (hW : Below w.heap.size w W) => rFrame_any k hk0 hk1 PA (c - 12) p W (hps.below hW) hpo (by omega))
      have HSA := Lib.hid (fun (W : World) (hW : Below w.heap.size w W) (A2 : Option Addr) (c2 : Nat) (h2 : Sl W A2 c2 (frameM k p)) => rSame_any A2 (some ⟨b, o, none⟩) c2 c (frameM k p) (r.take (12 + s)) W h2 ((sl_take hs (12 + s)).below hW))
      rw [htl] at HSA
      rw [← hp] at hq
      have hfl := frameM_len k p
      rw [hpl] at HFR hfl
      rw [hfl] at HSA
      have HFL := Lib.hid hfl
      have HPS := Lib.hid hps
      have HPL := Lib.hid hpl
      clear hs ho hcells h4 hv0 hv1 hsv hnum q1 q2 hl hbad hp hps hpo htl hfl hpl hPA
      by_cases he : frameM k p = r.take (12 + s)
      · rw [if_pos he] at hq
        have HQ := Lib.hid hq
        rw [decide_eq_true he] at HSA
        clear hq he
        go_enter Tryz.func64, Tryz.ntmps64
        go_upto_region 7 with (go_at_call 60; refine HNUM.out.mono ?_; rintro e w' ⟨rfl, rfl⟩)
        rw [← HPA.out, show 12 + s - 12 = s from by omega]
        go_region_held3 (fun W => Below w.heap.size w W) (first | exact below_drewN (Below.refl _ _) 1 | exact HB2.out | exact HB3.out) (first
          | (go_at_call 88; refine (HFR.out _ (below_drewN (Below.refl _ _) 1)).mono ?_; rintro e w2 ⟨A2, c2, rfl, hn2, hb2⟩; rw [HFL.out]; have hb2' := (below_drewN (Below.refl w.heap.size w) 1).trans hb2; have HB2 := Lib.hid hb2'; have HS2 := Lib.hid (HSA.out w2 hb2' A2 c2 hn2.sl); clear hn2 hb2 hb2')
          | (go_at_call 62; refine HS2.out.mono ?_; rintro e w3 ⟨rfl, hq3⟩; have HB3 := Lib.hid (show Below w.heap.size w w3 from by obtain ⟨q, e⟩ := hq3; rw [e]; exact below_drewN HB2.out q); clear hq3))
        all_goals
          go_wp2_with (at_builtin; refine app_b rfl (.tmp 37) (.tmp 38) rfl w3.heap.size (.slice (some ⟨w3.heap.size, 0, none⟩) 0 0) 0 [] rfl (World.ownsRow_made w3 #[] 0 (Nat.le_refl _) (Nat.zero_le _) rfl) PA (c - 12) s p rfl HPL.out ((HPS.out.below (HB3.out.alloc HB3.out.size _)).rd) (by omega) (by simp) ?_; intro v4 w4 hown4 hg4; have HO4 := Lib.hid hown4; have HB4 := Lib.hid (show Below w.heap.size w w4 from (HB3.out.alloc HB3.out.size _).grown hg4 (by have := HB3.out.size; simp; omega) (by intro q hq; simp [Value.ownBlock] at hq; have := HB3.out.size; omega)); clear hown4 hg4)
          go_ret2
          have ho := HO4.out
          simp only [Nat.zero_add, List.nil_append] at ho
          obtain ⟨A5, c5, rfl, _, _⟩ := own_form ho
          refine ⟨HB4.out, fun hn => (by rw [HQ.out] at hn; cases hn), fun p' hp' => ?_⟩
          rw [HQ.out] at hp'
          injection hp' with hp'
          subst hp'
          refine ⟨A5, c5, by rw [HPL.out]; rfl, ?_⟩
          have ho' : New w3.heap.size w4 A5 c5 p := by unfold New; rw [HPL.out]; exact ho
          exact New.low ho' HB3.out.size
      · rw [if_neg he] at hq
        have HQ := Lib.hid hq
        rw [decide_eq_false he] at HSA
        clear hq he
        go_enter Tryz.func64, Tryz.ntmps64
        go_upto_region 7 with (go_at_call 60; refine HNUM.out.mono ?_; rintro e w' ⟨rfl, rfl⟩)
        rw [← HPA.out, show 12 + s - 12 = s from by omega]
        go_region_held3 (fun W => Below w.heap.size w W) (first | exact below_drewN (Below.refl _ _) 1 | exact HB2.out | exact HB3.out) (first
          | (go_at_call 88; refine (HFR.out _ (below_drewN (Below.refl _ _) 1)).mono ?_; rintro e w2 ⟨A2, c2, rfl, hn2, hb2⟩; rw [HFL.out]; have hb2' := (below_drewN (Below.refl w.heap.size w) 1).trans hb2; have HB2 := Lib.hid hb2'; have HS2 := Lib.hid (HSA.out w2 hb2' A2 c2 hn2.sl); clear hn2 hb2 hb2')
          | (go_at_call 62; refine HS2.out.mono ?_; rintro e w3 ⟨rfl, hq3⟩; have HB3 := Lib.hid (show Below w.heap.size w w3 from by obtain ⟨q, e⟩ := hq3; rw [e]; exact below_drewN HB2.out q); clear hq3))
        all_goals
          go_wp2
          go_ret2
          exact ⟨HB3.out, fun _ => rfl, fun p' hp' => by rw [HQ.out] at hp'; cases hp'⟩

end Go.Proofs.YtienabfilnpieaaGreat
