/-
  Proved: the law ChainOne, at each time one version is visible at most, and At tells it, returns true for every chain and times, and leaves all memory as it was. No condition.
-/
import Derived.Test.YtbnedhhkapbliaaLawFrame
import Derived.Test.YtbnedhhkapbliaaChnLong
import Derived.BigQuiet
import Derived.SizedLaws
namespace Go.Proofs.Ytbnedhhkapbliaa.chainOne
open Go.ChangeShapes Go.WideShapes Go.ChangeAt Go.RowKit
set_option linter.unusedVariables false
set_option linter.unusedSimpArgs false
set_option maxRecDepth 100000

theorem see_one {l : List Vr} (h : Good l) {t : Int} {i j : Nat} {u v : Vr} (hi : l[i]? = some u) (hj : l[j]? = some v) (hu : visB u t = true) (hv : visB v t = true) : ¬ i < j := by
  intro hij
  have hil : i < l.length := (List.getElem?_eq_some_iff.1 hi).1
  have hjl : j < l.length := (List.getElem?_eq_some_iff.1 hj).1
  have hf := List.pairwise_iff_getElem.1 h.ord i j hil hjl hij
  have e1 : l[i] = u := Option.some.inj ((List.getElem?_eq_getElem hil).symm.trans hi)
  have e2 : l[j] = v := Option.some.inj ((List.getElem?_eq_getElem hjl).symm.trans hj)
  rw [e1, e2] at hf
  obtain ⟨f1, f2, _⟩ := hf
  unfold visB at hu hv
  simp only [Bool.and_eq_true, Bool.or_eq_true, decide_eq_true_eq] at hu hv
  omega
theorem see_at {l : List Vr} (h : Good l) {t : Int} {k : Nat} {v : Vr} (hk : l[k]? = some v) (hv : visB v t = true) : atI l t = some k :=
  find_at hk hv fun j u hj hu => by
    cases hb : visB u t with
    | false => rfl
    | true => exact absurd hj (see_one h hu hk hb hv)
theorem see_in {l : List Vr} {t : Int} {k : Nat} (h : atI l t = some k) : ∃ v, l[k]? = some v ∧ visB v t = true := by
  unfold atI at h
  obtain ⟨hk, hv, _⟩ := List.findIdx?_eq_some_iff_getElem.1 h
  exact ⟨_, List.getElem?_eq_getElem hk, hv⟩
/-- How many of the first k are visible. -/
def cnt (o : Option Nat) (k : Nat) : Nat := match o with | some i => if i < k then 1 else 0 | none => 0
theorem cnt_end {l : List Vr} {t : Int} : cnt (atI l t) l.length = if atB (atI l t) = true then 1 else 0 := by
  cases h : atI l t with
  | none => rfl
  | some i =>
    obtain ⟨v, hv, _⟩ := see_in h
    have : i < l.length := (List.getElem?_eq_some_iff.1 hv).1
    unfold cnt atB
    simp [this]

set_option maxHeartbeats 8000000 in
theorem walk {w : World} (A : Option Addr) (c : Nat) (q : List Pl) (h : Chn w A c q) (A' : Option Addr) (c' : Nat) (xs : List Int) (hx : Vec .u64 w A' c' xs) (hlen : xs.length * 8 ≤ 140737488351232) :
    Calls Try.prog 7 #[.slice A q.length c, .slice A' xs.length c'] w fun e w' => e = .returned (.bool true) ∧ Below w.heap.size w w' := by
  have HWk := Lib.hid (wakes_any w)
  have HFw := Lib.hid (fun (X : World) (hX : Below w.heap.size w X) => few_any A c q X (h.below hX))
  have HXs := Lib.hid (fun (X : World) (hX : Below w.heap.size w X) => hx.below hX)
  obtain ⟨m, hm⟩ : ∃ m, m = xs.length := ⟨_, rfl⟩
  have HM := Lib.hid hm
  rw [← hm] at hlen ⊢
  generalize q.length = nq0 at *
  clear h hx hm
  go_enter Try.func7, Try.ntmps7
  go_wp2_with fail
  refine HWk.out.mono ?_
  rintro e w1 ⟨rfl, hb1⟩
  have HB1 := Lib.hid hb1
  clear hb1
  go_wp2_with fail
  refine (HFw.out _ HB1.out).mono ?_
  rintro e w2 ⟨A2, c2, q2, rfl, hv2, ho2, hb2⟩
  have HB2 := Lib.hid (HB1.out.trans (hb2.mono HB1.out.size))
  have hq2 : q2.length ≤ 97 := by rw [← vals_length, hv2]; exact few_le
  obtain ⟨l, hl⟩ : ∃ l, l = vals q2 := ⟨_, rfl⟩
  have HCk := Lib.hid (check_any8 A2 c2 q2 w2 ho2.chn)
  have HQ2 := Lib.hid (fun (X : World) (hX : Below w2.heap.size w2 X) => ho2.chn.below hX)
  have HTi := Lib.hid (fun (X : World) (hX : Below w2.heap.size w2 X) => times_any A2 c2 q2 X (ho2.chn.below hX) hq2)
  have HAt := Lib.hid (fun (t : Int) (X : World) (hX : Below w2.heap.size w2 X) => at_any A2 c2 q2 t X (ho2.chn.below hX))
  rw [← hl] at HCk HAt
  have HLV := Lib.hid hl
  obtain ⟨n2, hn2⟩ : ∃ n2, n2 = q2.length := ⟨_, rfl⟩
  have HN2 := Lib.hid hn2
  have HLL := Lib.hid (show l.length = n2 by rw [hl, vals_length, hn2])
  rw [← hn2] at HCk HTi HAt hq2 ⊢
  clear hv2 ho2 hb2 hl hn2
  cases hc : chainB l with
  | false =>
    have hE : chkM l = 180 := by unfold chkM; rw [hc]; rfl
    rw [hE] at HCk
    clear hc hE
    go_wp2_with fail
    refine HCk.out.mono ?_
    rintro e w3 ⟨rfl, hb3⟩
    have HB3 := Lib.hid (HB2.out.trans (hb3.mono HB2.out.size))
    clear hb3
    go_wp2
    go_ret
    exact ⟨rfl, HB3.out⟩
  | true =>
    have hg := (chain_iff l).1 hc
    have hE : chkM l = 0 := by unfold chkM; rw [hc]; rfl
    have hA : ∀ t, atM l t = atI l t := fun t => by unfold atM; rw [hc]; rfl
    rw [hE] at HCk
    simp only [hA] at HAt
    have HG := Lib.hid hg
    clear hc hg hE hA
    go_wp2_with fail
    refine HCk.out.mono ?_
    rintro e w3 ⟨rfl, hb3⟩
    have HC3 := Lib.hid hb3
    clear hb3
    go_wp2_with fail
    refine (HTi.out _ HC3.out).mono ?_
    rintro e w4 ⟨A4, c4, ts, rfl, ho4, h43, h4l, hb4⟩
    have HC4 := Lib.hid (HC3.out.trans (hb4.mono HC3.out.size))
    have HBw4 := Lib.hid (HB2.out.trans (HC4.out.mono HB2.out.size))
    have HRd := Lib.hid (show Read w4 A' m 1 (xs.map (Value.int .u64)) from by have := Read.vec (HXs.out _ HBw4.out); rw [← HM.out] at this; exact this)
    have HXw := Lib.hid (HXs.out _ HBw4.out).fit
    obtain ⟨n4, hn4⟩ : ∃ n4, n4 = ts.length := ⟨_, rfl⟩
    rw [← hn4] at h43 h4l ⊢
    have HO4 := Lib.hid (show w4.ownsRow w3.heap.size 26 1 (.slice A4 n4 c4) n4 (ts.map (Value.int .u64)) from by have := ho4.1; rw [← hn4] at this; exact this)
    have HTF := Lib.hid ho4.2
    have HLo := Lib.hid ho4.low
    have HZ4 := Lib.hid hb4.size
    have HN4 := Lib.hid hn4
    have hbnd : n4 + m + (n4 + m) / 4 + 768 ≤ 35184372088832 := by omega
    clear ho4 hb4 hn4
    go_wp2_with (at_builtin; refine long_at rfl (.tmp 21) (.tmp 22) appU rfl w3.heap.size A4 c4 n4 (by omega) (ts.map (Value.int .u64)) rfl HO4.out A' c' m (xs.map (Value.int .u64)) rfl HRd.out (by unfold maxLen; omega) (by omega) HZ4.out ?_; intro A5 c5 w5 ho5 hg5; have HO5 := Lib.hid ho5; have HB5 := Lib.hid (grown_below hg5 HZ4.out (fun i hi => (HLo.out i hi).1)); clear ho5 hg5)
    obtain ⟨us, hus⟩ : ∃ us, us = ts ++ xs := ⟨_, rfl⟩
    have hul : us.length = n4 + m := by rw [hus, List.length_append, HN4.out, HM.out]
    have huv : Vec .u64 w5 A5 c5 us := by
      have ho := HO5.out
      rw [← List.map_append, ← hus] at ho
      have : OwnU w3.heap.size w5 A5 c5 us := ⟨by rw [hul]; exact ho, fun t ht => by
        rw [hus] at ht
        exact (List.mem_append.1 ht).elim (HTF.out t) (HXw.out t)⟩
      exact this.vec
    obtain ⟨m5, hm5⟩ : ∃ m5, m5 = n4 + m := ⟨_, rfl⟩
    have HUV := Lib.hid huv
    have HUL := Lib.hid (show us.length = m5 by rw [hul, hm5])
    have hm5b : m5 ≤ 9223372036854775807 := by omega
    have hsum : (n4 : Int) + (m : Int) = (m5 : Int) := by omega
    have HC5 := Lib.hid (HC4.out.trans (HB5.out.mono HC3.out.size))
    have HM5 := Lib.hid hm5
    rw [← hm5, hsum]
    clear huv hul hus hbnd hlen h43 h4l hsum hm5
    go_wp2
    go_loopw [25] (fun i wr => ∃ j : Nat, j ≤ m5 ∧ i = .int .i64 j ∧ Hid (Below w5.heap.size w5 wr)) (fun i _ => m5 - (intOf i).toNat)
    case atStart => exact ⟨0, Nat.zero_le _, rfl, Lib.hid (Below.refl _ _)⟩
    case round =>
      obtain ⟨j, hj, rfl, HB⟩ := hrel
      have HI := Lib.hid (HC5.out.trans (HB.out.mono HC5.out.size))
      have HBw := Lib.hid (HB2.out.trans (HI.out.mono HB2.out.size))
      by_cases hjm : j < m5
      · obtain ⟨g, og, rfl, hg, hcg⟩ := (HUV.out.below HB.out).at_ (j := j) (by rw [HUL.out]; exact hjm)
        have j0 : (0 : Int) ≤ j := by omega
        have jn : (j : Int) < m5 := by omega
        generalize us.getD j 0 = t at *
        by_cases h400 : j = 400
        · have t400 : ((j : Int) == 400) = true := by simp; omega
          clear h400
          go_wp2
          go_ret
          exact ⟨rfl, HBw.out⟩
        · have t400 : ((j : Int) == 400) = false := by simp; omega
          clear h400
          obtain ⟨R, hR⟩ : ∃ R, R = atI l t := ⟨_, rfl⟩
          have HR := Lib.hid hR
          have hAt := HAt.out t wr HI.out
          rw [← hR] at hAt
          have HAt2 := Lib.hid hAt
          clear hR hAt
          go_wp2_with fail
          refine HAt2.out.mono ?_
          rintro e w6 ⟨rfl, hb6⟩
          have HB6 := Lib.hid (HB.out.trans (hb6.mono HB.out.size))
          clear hb6
          go_wp2
          go_loopw [8, 40] (fun v i wr => ∃ k : Nat, k ≤ n2 ∧ v = .int .i64 (cnt R k : Nat) ∧ i = .int .i64 k ∧ Hid (Below w5.heap.size w5 wr)) (fun _ i _ => n2 - (intOf i).toNat)
          case atStart => exact ⟨0, Nat.zero_le _, by (have : cnt R 0 = 0 := by unfold cnt; split <;> simp); rw [this]; rfl, rfl, HB6⟩
          case round =>
            obtain ⟨k, hk, rfl, rfl, HBI⟩ := hrel
            by_cases hkn : k < n2
            · obtain ⟨b, o, p, rfl, hp, hb, c0, c1, c2, hv, hf⟩ := (HQ2.out _ (HC5.out.trans (HBI.out.mono HC5.out.size))).at_ (i := k) (by rw [← HN2.out]; exact hkn)
              have HP := Lib.hid (show l[k]? = some p.v by rw [HLV.out]; exact vals_at hp)
              have HBX := Lib.hid (HBI.out.trans ((ver_alloc _ p.v.b p.v.f p.B p.v.x.length p.c).mono HBI.out.size))
              have HVd := Lib.hid (show visB p.v t = (decide (p.v.b ≤ t) && (decide (p.v.f = 0) || decide (t < p.v.f))) from rfl)
              have HYes := Lib.hid (fun (hvis : visB p.v t = true) => show R = some k by rw [HR.out]; exact see_at HG.out HP.out hvis)
              have HNo := Lib.hid (fun (hvis : visB p.v t = false) => show cnt R (k + 1) = cnt R k by
                have hne : R ≠ some k := by
                  intro e
                  obtain ⟨v, hv1, hv2⟩ := see_in (HR.out.symm.trans e)
                  rw [HP.out] at hv1
                  cases hv1
                  rw [hvis] at hv2
                  cases hv2
                unfold cnt
                cases R with
                | none => rfl
                | some i =>
                  have : i ≠ k := fun e => hne (by rw [e])
                  dsimp only
                  split <;> split <;> omega)
              generalize visB p.v t = V at *
              generalize p.v.b = pb at *
              generalize p.v.f = pf at *
              generalize p.v.x.length = pl at *
              have k0 : (0 : Int) ≤ k := by omega
              have kn : (k : Int) < n2 := by omega
              have kk : ((k : Int) != (k : Int)) = false := by simp
              clear hp hv hf
              by_cases hbt : pb ≤ t
              · have tb : decide (pb ≤ t) = true := by simpa using hbt
                by_cases hf0 : pf = 0
                · subst hf0
                  obtain rfl := HYes.out (by rw [HVd.out]; simp [hbt])
                  have e0 : ((cnt (some k) k : Nat) : Int) = 0 := by unfold cnt; simp
                  have e1 : atK (some k) = (k : Int) := rfl
                  rw [e0, e1]
                  go_wp2
                  go_roundw
                  case rel => exact ⟨k + 1, by omega, by unfold cnt; simp, by go_num, HBX⟩
                  case measure => simp [intOf]; omega
                · have tf : (pf == 0) = false := by simpa using hf0
                  by_cases htf : t < pf
                  · have td : decide (t < pf) = true := by simpa using htf
                    obtain rfl := HYes.out (by rw [HVd.out]; simp [hbt, htf])
                    have e0 : ((cnt (some k) k : Nat) : Int) = 0 := by unfold cnt; simp
                    have e1 : atK (some k) = (k : Int) := rfl
                    rw [e0, e1]
                    clear hf0
                    go_wp2
                    go_roundw
                    case rel => exact ⟨k + 1, by omega, by unfold cnt; simp, by go_num, HBX⟩
                    case measure => simp [intOf]; omega
                  · have td : decide (t < pf) = false := by simpa using htf
                    have HE := Lib.hid (HNo.out (by rw [HVd.out]; simp [htf, hf0]))
                    generalize cnt R k = ck at *
                    clear hf0
                    go_wp2
                    go_roundw
                    case rel => exact ⟨k + 1, by omega, by rw [HE.out], by go_num, HBX⟩
                    case measure => simp [intOf]; omega
              · have tb : decide (pb ≤ t) = false := by simpa using hbt
                have HE := Lib.hid (HNo.out (by rw [HVd.out]; simp [hbt]))
                generalize cnt R k = ck at *
                go_wp2
                go_roundw
                case rel => exact ⟨k + 1, by omega, by rw [HE.out], by go_num, HBX⟩
                case measure => simp [intOf]; omega
            · obtain rfl : k = n2 := by omega
              have hce : cnt R k = if atB R = true then 1 else 0 := by
                have := cnt_end (l := l) (t := t)
                rw [HLL.out, ← HR.out] at this
                exact this
              rw [hce]
              clear hce
              cases hR : R with
              | none =>
                go_wp2
                go_roundw
                case rel => exact ⟨j + 1, by omega, by go_num, HBI⟩
                case measure => simp [intOf]; omega
              | some i =>
                go_wp2
                go_roundw
                case rel => exact ⟨j + 1, by omega, by go_num, HBI⟩
                case measure => simp [intOf]; omega
      · obtain rfl : j = m5 := by omega
        go_wp2
        go_ret
        exact ⟨rfl, HBw.out⟩

/-- Times that came in, and how many the value says they are. -/
theorem open_times2 {H : Type} {enc : TypeId × Value → H} {W : World} {a : Option Addr} {len cap : Nat} {d : DataW H} {p : List MemPlace}
    (h : DataW.Trod enc Try.prog W 0 (fun _ => true) true 38 (.slice a len cap) d p) : len = 0 ∨ ∃ elems spare, d = .slice elems spare ∧ elems.length = len := by
  obtain ⟨fuel, hf⟩ := h
  rcases open_ints Try.underlying38 Try.underlying26 (by kernel_rfl) hf with ⟨hcs, _⟩ | ⟨x, l, c, zs, hcs, _, hl, hm, hz, hx, _⟩
  · simp [Value.cells] at hcs
    exact .inl hcs.2.1
  · simp [Value.cells] at hcs
    obtain ⟨rfl, rfl, rfl⟩ := hcs
    have hz' : zs.length = cap := by simpa using hz
    refine .inr ⟨_, _, (congrArg Prod.fst hx), ?_⟩
    simp [lits]
    omega

set_option maxRecDepth 100000 in
theorem lifted (os : Os) (started : os.Started) (H : Type) (enc : TypeId × Value → H) :
    ReturnsInHanded {} Try.checked os 7 .any (Rows.chainOneSpec.pre6 enc Try.prog Try.f7 Rows.chainOneRow.domain false) (Rows.chainOneSpec.post enc Try.prog Try.f7 false true false false) := by
  refine returnsInHanded_of_change_sized (C := Try.checked) Try.own started (by kernel_rfl) Try.func7
    (ChangeSpec.witness6 (enc := enc) (C := Try.checked) false ⟨#[], #[.slice none 0 0, .slice none 0 0], []⟩ 8 (by kernel_rfl) (by kernel_rfl) (by kernel_rfl) (by kernel_rfl)) ?_
  intro W base args ds gs before hval0 hW hcnd hsz _
  have hval : ∀ (j : Nat) t v, Try.f7.params[j]? = some t → args[j]? = some v → Value.okWide Try.prog W .any base t v := hval0
  have hW' := hW
  obtain ⟨p, q, hA0, hV, rfl, hfz, hnd⟩ := hW
  have hA : DataW.TrodAll enc Try.prog W 0 (fun _ => true) true Try.f7.params.toList args.toList ds p := hA0
  rw [Try.params7] at hA hval
  have hA' := hA
  obtain ⟨v0, vs0, d0, ds0, p0, q0, hargs, rfl, rfl, h0, r0⟩ := trodAll_cons hA
  obtain ⟨v1, vs1, d1, ds1, p1, q1, rfl, rfl, rfl, h1, r1⟩ := trodAll_cons r0
  obtain ⟨rfl, rfl, rfl⟩ := trodAll_nil r1
  obtain rfl : args = #[v0, v1] := by cases args; simp_all
  obtain ⟨rfl, rfl⟩ := trodVars_none hV
  obtain ⟨A0, len0, c0, rfl⟩ := okWide_slice Try.underlying22 (hval 0 22 v0 rfl rfl)
  obtain ⟨z0, rfl, sl0⟩ := open_chain h0
  obtain ⟨A1, len1, c1, rfl⟩ := okWide_slice Try.underlying38 (hval 1 38 v1 rfl rfl)
  have hlen : len1 * 8 ≤ 140737488351232 := by
    rcases open_times2 h1 with h | ⟨elems, spare, hd, hl⟩
    · omega
    · have := sized_slice hsz (j := 1) (t := 38) (by rw [Try.params7]; rfl) (by rw [hd]; rfl) Try.underlying38
      rw [show Try.checked.prog.bytesOf 26 = 8 by kernel_rfl] at this
      unfold reachBytes at this
      omega
  obtain ⟨z1, rfl, sl1⟩ := open_times h1
  clear hA0 hval0 hsz
  refine (walk A0 c0 z0 sl0 A1 c1 z1 sl1 hlen).mono fun e W' ⟨he, bel⟩ => ?_
  subst he
  exact ⟨_, rfl, _, _, _, [], _, [], hW', trodAll_mk1 (shut_bool Try.underlying4 _), trodAll_below bel _ _ _ _ (by kernel_rfl) hA', rfl, bel.frame _, fun h => by cases h⟩

theorem proved : Rows.ChainOneSaid :=
  OpenClaim.holds_of_wide 7 Try.f7 rfl rfl rfl rfl rfl rfl rfl ⟨rfl, rfl, rfl, rfl, rfl⟩ rfl rfl rfl rfl rfl (by kernel_rfl) Try.func7 (by kernel_rfl)
    (of_decide_eq_true (by kernel_rfl)) (by unfold Func.isWrapper; first | (rw [if_pos (by decide +kernel)]; kernel_rfl) | (rw [if_neg (by decide +kernel)]; exact ⟨rfl, rfl⟩))
    (fun os started H enc _ => lifted os started H enc)
#print axioms proved
end Go.Proofs.Ytbnedhhkapbliaa.chainOne
