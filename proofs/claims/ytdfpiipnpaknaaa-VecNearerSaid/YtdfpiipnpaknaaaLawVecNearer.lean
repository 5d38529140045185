/-
  Proved: the law VecNearer, none of all is nearer than the nearest one, and none ahead of it as near, returns true for every row of vectors and vector, and leaves all memory as it was. No condition.
-/
import Derived.Test.YtdfpiipnpaknaaaVecWakes
import Derived.Test.YtdfpiipnpaknaaaLawFrame
namespace Go.Proofs.Ytdfpiipnpaknaaa.vecNearer
open Go.ChangeShapes Go.WideShapes Go.ChangeAt Go.RowKit
set_option linter.unusedVariables false
set_option maxRecDepth 100000

theorem near_ok {l : List (List Int)} {v : List Int} (h : nearE l v = 0) : 0 < l.length ∧ right v = true ∧ (∀ x ∈ l, right x = true ∧ x.length = v.length) := by
  unfold nearE at h
  split at h
  · omega
  · split at h
    · rename_i h2; exact absurd h h2
    · rename_i h1 h2
      have hc : checkM v = 0 := by simpa using h2
      refine ⟨by omega, (refuse_ok hc v (by simp)).1, fun x hx => ?_⟩
      have := refuse_ok h x hx
      exact ⟨this.1, by omega⟩
theorem dist_ok {x v : List Int} (hx : right x = true) (hv : right v = true) (hl : x.length = v.length) : distE x v = 0 ∧ distD x v = distM x v := by
  have : distE x v = 0 := by
    unfold distE refuseM
    simp [hx, hv, hl]
  exact ⟨this, by unfold distD; rw [if_pos this]⟩
theorem near_err (l : List (List Int)) (v : List Int) (h : nearE l v ≠ 0) : nearN l v = 0 := by unfold nearN; rw [if_neg h]

set_option maxHeartbeats 2000000 in
theorem walk_ok {w : World} (A : Option Addr) (c : Nat) (l : List (List Int)) (hl : Vecs .i32 w A c l) (A' : Option Addr) (c' : Nat) (v : List Int) (hv : Vec .i32 w A' c' v) (ho : overM l = false) (hE : nearE l v = 0) :
    Calls Try.prog 7 #[.slice A l.length c, .slice A' v.length c'] w fun e w' => e = .returned (.bool true) ∧ Below w.heap.size w w' := by
  obtain ⟨h1, hrv, hall⟩ := near_ok hE
  have HO := Lib.hid (fun (V : World) (hV : Below w.heap.size w V) => over_any A c l V (hl.below hV))
  rw [ho] at HO
  have HNR := Lib.hid (fun (V : World) (hV : Below w.heap.size w V) => nearest_any A A' c c' l v V (hl.below hV) (hv.below hV))
  have hN : nearN l v = nearM l v := by unfold nearN; rw [if_pos hE]
  rw [hE, hN] at HNR
  have HD := Lib.hid (fun (V : World) (hV : Below w.heap.size w V) (i : Nat) (B : Option Addr) (cb : Nat) (x : List Int) (hx : l[i]? = some x) (hb : Vec .i32 w B cb x) => show Calls Try.prog 10 #[.slice B x.length cb, .slice A' v.length c'] V (fun e w' => e = .returned (.tuple #[.int .u64 (farM l v i), .int .i64 0]) ∧ Below V.heap.size V w') from by
    have h := dist_any B A' cb c' x v V (hb.below hV) (hv.below hV)
    obtain ⟨d1, d2⟩ := dist_ok (hall x (List.mem_of_getElem? hx)).1 hrv (hall x (List.mem_of_getElem? hx)).2
    rw [d1, d2, show distM x v = farM l v i by unfold farM; rw [getD_at hx]] at h
    exact h)
  have HLE := Lib.hid (nearF_least (farM l v) l.length)
  have hlt := nearF_lt (farM l v) l.length h1
  obtain ⟨R, hR⟩ : ∃ R, R = nearM l v := ⟨_, rfl⟩
  have hR2 : nearF (farM l v) l.length = R := hR.symm
  rw [hR2] at HLE hlt
  rw [← hR] at HNR
  have HV := Lib.hid hl
  obtain ⟨b, o, x0, B0, cb0, rfl, hx0, hblt, hc0, hb0⟩ := hl.at_ (i := R) hlt
  obtain ⟨n, hn⟩ : ∃ n, n = l.length := ⟨_, rfl⟩
  have HLN := Lib.hid hn
  have hmx : n ≤ 9223372036854775807 := by rw [hn]; exact Nat.le_trans hl.room hl.most
  rw [← hn] at hlt HNR HO HLE ⊢
  have HX0 := Lib.hid hx0
  have HB0 := Lib.hid hb0
  obtain ⟨n0, hn0⟩ : ∃ n0, n0 = x0.length := ⟨_, rfl⟩
  have HN0 := Lib.hid hn0
  rw [← hn0] at hc0
  have HC0 := Lib.hid hc0
  generalize v.length = m at *
  obtain ⟨best, hbest⟩ : ∃ best, best = farM l v R := ⟨_, rfl⟩
  have HBEST := Lib.hid hbest
  rw [← hbest] at HLE
  have r0 : (0 : Int) ≤ R := by omega
  have r1 : (R : Int) < n := by omega
  clear hl hv h1 hrv hall hn hN hR hR2 hx0 hb0 hn0 hbest ho hE hc0
  go_enter Try.func7, Try.ntmps7
  go_wp2_with fail
  refine (wakes_any w).mono ?_
  rintro e w1 ⟨rfl, hb1⟩
  have HB1 := Lib.hid hb1
  clear hb1
  go_wp2_with fail
  refine (HO.out _ HB1.out).mono ?_
  rintro e w' ⟨rfl, rfl⟩
  go_wp2_with fail
  refine (HNR.out _ HB1.out).mono ?_
  rintro e w2 ⟨rfl, hb2⟩
  have hb2' := HB1.out.trans (hb2.mono HB1.out.size)
  have HB2 := Lib.hid hb2'
  have hc2 : w2.cell? ⟨b, o + R, none⟩ = some (.slice B0 n0 cb0) := (hb2'.cell (p := ⟨b, o + R, none⟩) hblt).trans HC0.out
  have HD0 := HD.out w2 hb2' R B0 cb0 x0 HX0.out HB0.out
  rw [← HN0.out, ← HBEST.out] at HD0
  have HD0 := Lib.hid HD0
  clear hb2 hb2'
  go_wp2_with fail
  refine HD0.out.mono ?_
  rintro e w3 ⟨rfl, hb3⟩
  have HB3 := Lib.hid (HB2.out.trans (hb3.mono HB2.out.size))
  clear hb3 hc2
  go_wp2
  go_loopw [8, 9, 10, 11, 39] (fun _ _ _ _ i wr => ∃ k : Nat, k ≤ n ∧ i = .int .i64 k ∧ Hid (Below w.heap.size w wr)) (fun _ _ _ _ i _ => n - (intOf i).toNat)
  case atStart => exact ⟨0, Nat.zero_le _, rfl, HB3⟩
  case round =>
    obtain ⟨k, hk, rfl, HB⟩ := hrel
    by_cases hkn : k < n
    · obtain ⟨b', o', x, B, cb, he, hx, _, hc, hvb⟩ := HV.out.at_ (i := k) (by rw [← HLN.out]; exact hkn)
      injection he with he
      injection he with he1 he2
      subst he1
      subst he2
      have HDK := Lib.hid (HD.out wr HB.out k B cb x hx hvb)
      have hcw : wr.cell? ⟨b, o + k, none⟩ = some (.slice B x.length cb) := (HB.out.cell (p := ⟨b, o + k, none⟩) hblt).trans hc
      obtain ⟨xl, hxl⟩ : ∃ xl, xl = x.length := ⟨_, rfl⟩
      rw [← hxl] at hcw HDK
      have hle := HLE.out.1 k hkn
      have hlt2 := HLE.out.2.2 k
      have HL2 := Lib.hid hlt2
      have kn : (k : Int) < n := by omega
      have k0 : (0 : Int) ≤ k := by omega
      clear hx hvb hc hxl hlt2
      generalize farM l v k = dk at *
      have t1 : ¬ dk < best := by omega
      by_cases heq : dk = best
      · subst heq
        have t2 : ¬ (k : Int) < (R : Int) := fun h => by have := HL2.out (by omega); omega
        have t3 : decide ((k : Int) < (R : Int)) = false := by simpa using t2
        have t4 : decide (k < R) = false := by simp; omega
        go_wp2_with fail
        refine HDK.out.mono ?_
        rintro e w4 ⟨rfl, hb4⟩
        have HB4 := Lib.hid (HB.out.trans (hb4.mono HB.out.size))
        clear hb4
        go_wp2
        go_roundw
        case rel => exact ⟨k + 1, by omega, by go_num, HB4⟩
        case measure => simp [intOf]; omega
      · have t2 : (dk == best) = false := by simpa using heq
        go_wp2_with fail
        refine HDK.out.mono ?_
        rintro e w4 ⟨rfl, hb4⟩
        have HB4 := Lib.hid (HB.out.trans (hb4.mono HB.out.size))
        clear hb4
        go_wp2
        go_roundw
        case rel => exact ⟨k + 1, by omega, by go_num, HB4⟩
        case measure => simp [intOf]; omega
    · obtain rfl : k = n := by omega
      go_wp2
      go_ret
      exact ⟨rfl, HB.out⟩

theorem walk {w : World} (A : Option Addr) (c : Nat) (l : List (List Int)) (hl : Vecs .i32 w A c l) (A' : Option Addr) (c' : Nat) (v : List Int) (hv : Vec .i32 w A' c' v) :
    Calls Try.prog 7 #[.slice A l.length c, .slice A' v.length c'] w fun e w' => e = .returned (.bool true) ∧ Below w.heap.size w w' := by
  cases ho : overM l with
  | true =>
    have HO := Lib.hid (fun (V : World) (hV : Below w.heap.size w V) => over_any A c l V (hl.below hV))
    rw [ho] at HO
    generalize l.length = n at *
    generalize v.length = m at *
    clear hl hv ho
    go_enter Try.func7, Try.ntmps7
    go_wp2_with fail
    refine (wakes_any w).mono ?_
    rintro e w1 ⟨rfl, hb1⟩
    have HB1 := Lib.hid hb1
    clear hb1
    go_wp2_with fail
    refine (HO.out _ HB1.out).mono ?_
    rintro e w' ⟨rfl, rfl⟩
    go_wp2
    go_ret
    exact ⟨rfl, HB1.out⟩
  | false =>
    by_cases hE : nearE l v = 0
    · exact walk_ok A c l hl A' c' v hv ho hE
    · have HO := Lib.hid (fun (V : World) (hV : Below w.heap.size w V) => over_any A c l V (hl.below hV))
      rw [ho] at HO
      have HNR := Lib.hid (fun (V : World) (hV : Below w.heap.size w V) => nearest_any A A' c c' l v V (hl.below hV) (hv.below hV))
      rw [near_err l v hE] at HNR
      generalize nearE l v = E at *
      have t3 : (E == 0) = false := by simpa using hE
      have t4 : (E != 0) = true := by simpa using hE
      generalize l.length = n at *
      generalize v.length = m at *
      clear hl hv ho hE
      go_enter Try.func7, Try.ntmps7
      go_wp2_with fail
      refine (wakes_any w).mono ?_
      rintro e w1 ⟨rfl, hb1⟩
      have HB1 := Lib.hid hb1
      clear hb1
      go_wp2_with fail
      refine (HO.out _ HB1.out).mono ?_
      rintro e w' ⟨rfl, rfl⟩
      go_wp2_with fail
      refine (HNR.out _ HB1.out).mono ?_
      rintro e w2 ⟨rfl, hb2⟩
      have HB2 := Lib.hid (HB1.out.trans (hb2.mono HB1.out.size))
      clear hb2
      go_wp2
      go_ret
      exact ⟨by simp, HB2.out⟩

set_option maxRecDepth 100000 in
theorem lifted (os : Os) (started : os.Started) (H : Type) (enc : TypeId × Value → H) :
    ReturnsInHanded {} Try.checked os 7 .any (Rows.vecNearerSpec.pre6 enc Try.prog Try.f7 Rows.vecNearerRow.domain false) (Rows.vecNearerSpec.post enc Try.prog Try.f7 false true false false) := by
  refine returnsInHanded_of_change (C := Try.checked) Try.own started (by kernel_rfl) Try.func7
    (ChangeSpec.witness6 (enc := enc) (C := Try.checked) false ⟨#[], #[.slice none 0 0, .slice none 0 0], []⟩ 8 (by kernel_rfl) (by kernel_rfl) (by kernel_rfl) (by kernel_rfl)) ?_
  intro W base args ds gs before hval0 hW hcnd _
  have hval : ∀ (j : Nat) t v, Try.f7.params[j]? = some t → args[j]? = some v → Value.okWide Try.prog W .any base t v := hval0
  have hW' := hW
  obtain ⟨p, q, hA0, hV, rfl, hfz, hnd⟩ := hW
  have hA : DataW.TrodAll enc Try.prog W 0 (fun _ => true) true Try.f7.params.toList args.toList ds p := hA0
  rw [Try.params7] at hA hval
  have hA' := hA
  obtain ⟨v0, vs0, d0, ds0, p0, q0, hargs, rfl, rfl, h0, r0⟩ := trodAll_cons hA
  obtain ⟨v1, vs1, d1, ds1, p1, q1, rfl, rfl, rfl, h1, r1⟩ := trodAll_cons r0
  obtain ⟨rfl, rfl, rfl⟩ := trodAll_nil r1
  obtain rfl : args = #[v0, v1] := by cases args; simp_all
  obtain ⟨rfl, rfl⟩ := trodVars_none hV
  obtain ⟨A0, len0, c0, rfl⟩ := okWide_slice Try.underlying34 (hval 0 34 v0 rfl rfl)
  obtain ⟨z0, rfl, sl0⟩ := open_vecs h0
  obtain ⟨A1, len1, c1, rfl⟩ := okWide_slice Try.underlying22 (hval 1 22 v1 rfl rfl)
  obtain ⟨z1, rfl, sl1⟩ := open_vec h1
  clear hA0 hval0
  refine (walk A0 c0 z0 sl0 A1 c1 z1 sl1).mono fun e W' ⟨he, bel⟩ => ?_
  subst he
  exact ⟨_, rfl, _, _, _, [], _, [], hW', trodAll_mk1 (shut_bool Try.underlying4 _), trodAll_below bel _ _ _ _ (by kernel_rfl) hA', rfl, bel.frame _, fun h => by cases h⟩

theorem proved : Rows.VecNearerSaid :=
  OpenClaim.holds_of_wide 7 Try.f7 rfl rfl rfl rfl rfl rfl rfl ⟨rfl, rfl, rfl, rfl, rfl⟩ rfl rfl rfl rfl rfl (by kernel_rfl) Try.func7 (by kernel_rfl)
    (of_decide_eq_true (by kernel_rfl)) (by unfold Func.isWrapper; first | (rw [if_pos (by decide +kernel)]; kernel_rfl) | (rw [if_neg (by decide +kernel)]; exact ⟨rfl, rfl⟩))
    (fun os started H enc _ => lifted os started H enc)
#print axioms proved
end Go.Proofs.Ytdfpiipnpaknaaa.vecNearer
