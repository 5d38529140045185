/-
  The document's SameAll; what Open makes of a file that lies alone on a disk.
-/
import Derived.Test.YtienabfilnpieaaGreatRefReads
import Derived.Test.YtienabfilnpieaaGreatWalCutI
import Derived.Test.YtienabfilnpieaaGreatWalAlone
namespace Go.Proofs.YtienabfilnpieaaGreat
open Go.RowKit
set_option linter.unusedVariables false
set_option linter.unusedSimpArgs false
set_option maxRecDepth 100000

theorem recs_two {w : World} {A1 A2 : Option Addr} {xs ys : List (List Int)} (h1 : Recs w A1 xs) (h2 : Recs w A2 ys) {k : Nat} (hx : k < xs.length) (hy : k < ys.length) :
    ∃ b1 o1 B1 c1 b2 o2 B2 c2 x y, A1 = some ⟨b1, o1, none⟩ ∧ A2 = some ⟨b2, o2, none⟩ ∧ xs[k]? = some x ∧ ys[k]? = some y ∧ w.cell? ⟨b1, o1 + k, none⟩ = some (.slice B1 x.length c1) ∧ w.cell? ⟨b2, o2 + k, none⟩ = some (.slice B2 y.length c2) ∧ Sl w B1 c1 x ∧ Sl w B2 c2 y := by
  obtain ⟨x, hxk⟩ : ∃ x, xs[k]? = some x := ⟨xs[k], List.getElem?_eq_getElem hx⟩
  obtain ⟨y, hyk⟩ : ∃ y, ys[k]? = some y := ⟨ys[k], List.getElem?_eq_getElem hy⟩
  obtain ⟨b1, o1, B1, c1, rfl, _, h3, h4, h5⟩ := h1 k x hxk
  obtain ⟨b2, o2, B2, c2, rfl, _, h6, h7, h8⟩ := h2 k y hyk
  exact ⟨b1, o1, B1, c1, b2, o2, B2, c2, x, y, rfl, rfl, hxk, hyk, h3, h6, h4, h7⟩
set_option maxHeartbeats 2000000 in
theorem rSameAll_any (A A' : Option Addr) (c c' : Nat) (xs ys : List (List Int)) (w : World) (h : Recs w A xs) (h' : Recs w A' ys) (hx : xs.length ≤ 1000000) (hy : ys.length ≤ 1000000) :
    Calls Tryz.prog 19 #[.slice A xs.length c, .slice A' ys.length c'] w (Drew w (decide (xs = ys))) := by
  by_cases hl : xs.length = ys.length
  · obtain ⟨n, hn⟩ : ∃ n, n = xs.length := ⟨_, rfl⟩
    have HN := Lib.hid hn
    have HM := Lib.hid (hn.trans hl)
    have H := Lib.hid h
    have H' := Lib.hid h'
    rw [← hl, ← hn]
    have hnb : n ≤ 1000000 := by omega
    clear h h' hl hn hx hy
    go_enter Tryz.func19, Tryz.ntmps19
    go_wp2_with fail
    go_loopw [13] (fun i wr => ∃ k : Nat, i = .int .i64 k ∧ k ≤ n ∧ Hid (xs.take k = ys.take k) ∧ Hid (∃ q, wr = w.drewN q)) (fun i _ => n - (match i with | .int _ k => k.toNat | _ => 0))
    case atStart => exact ⟨0, rfl, Nat.zero_le _, Lib.hid rfl, Lib.hid ⟨0, rfl⟩⟩
    case round =>
      obtain ⟨k, rfl, hk, HK, HW⟩ := hrel
      by_cases hkn : k < n
      · have hkk : (k : Int) < n := by omega
        have k0 : (0 : Int) ≤ (k : Int) := by omega
        have hbw : Below w.heap.size w wr := by obtain ⟨q, e⟩ := HW.out; rw [e]; exact below_drewN (Below.refl _ _) q
        obtain ⟨b1, o1, B1, d1, b2, o2, B2, d2, x, y, rfl, rfl, hxk, hyk, hc1, hc2, hs1, hs2⟩ := recs_two (H.out.later hbw) (H'.out.later hbw) (k := k) (by rw [← HN.out]; exact hkn) (by rw [← HM.out]; exact hkn)
        have HE := Lib.hid (fun r => show Calls Tryz.prog 62 #[.slice B1 x.length d1, .slice B2 y.length d2] (wr.drewN r) (fun e w' => e = .returned (.bool (decide (x = y))) ∧ ∃ m, w' = (wr.drewN r).drewN m) from rSame_any B1 B2 d1 d2 x y (wr.drewN r) (hs1.below (below_drewN (Below.refl _ _) r)) (hs2.below (below_drewN (Below.refl _ _) r)))
        generalize x.length = xl at *
        generalize y.length = yl at *
        clear hs1 hs2 hbw
        by_cases hd : x = y
        · rw [decide_eq_true hd] at HE
          have HD := Lib.hid (show xs[k]? = ys[k]? by rw [hxk, hyk, hd])
          clear hd hxk hyk
          go_wp2_with fail
          go_quiet ((go_at_call 62; with_reducible refine Calls.quiet_of (HE.out _)))
          go_wp2
          go_roundw
          case rel => exact ⟨k + 1, by go_num, by omega, Lib.hid (take_eq_succ HK.out HD.out), Lib.hid (by obtain ⟨q, e⟩ := HW.out; exact ⟨q + nq, by rw [e, World.drewN_drewN]⟩)⟩
          case measure => simp; omega
        · rw [decide_eq_false hd] at HE
          have HF := Lib.hid (show decide (xs = ys) = false from decide_eq_false (fun e => hd (by rw [e] at hxk; rw [hxk] at hyk; injection hyk)))
          clear hd hxk hyk
          go_wp2_with fail
          go_quiet ((go_at_call 62; with_reducible refine Calls.quiet_of (HE.out _)))
          go_wp2
          go_ret
          rw [HF.out]
          obtain ⟨q, e⟩ := HW.out
          exact ⟨rfl, q + nq, by rw [e, World.drewN_drewN]⟩
      · obtain rfl : k = n := by omega
        have HT := Lib.hid (show decide (xs = ys) = true from decide_eq_true (by
          have e := HK.out
          rwa [List.take_of_length_le (by rw [← HN.out]; omega), List.take_of_length_le (by rw [← HM.out]; omega)] at e))
        go_wp2
        go_ret
        rw [HT.out]
        exact ⟨rfl, HW.out⟩
  · have HF := Lib.hid (show decide (xs = ys) = false from decide_eq_false (fun e => hl (by rw [e])))
    have t1 : ((xs.length : Int) == (ys.length : Int)) = false := by simp; omega
    have t2 : ((xs.length : Int) != (ys.length : Int)) = true := by simp; omega
    generalize xs.length = a at *
    generalize ys.length = b at *
    clear h h' hl
    go_enter Tryz.func19, Tryz.ntmps19
    go_wp2
    go_ret
    rw [HF.out]
    exact ⟨rfl, 0, rfl⟩

/-! ### a file that lies alone on a disk -/
def opD (bs : List Int) : AD := (cutD bs).opM 0 [] ((cutD bs).met.put 0 ((cutD bs).file 0).settled)
theorem opD_calm (bs : List Int) (h : bs.length ≤ 65536) : (cutD bs).opC 0 [] = 0 ∧ Calm (opD bs) 65536 (setF bs) none := by
  obtain ⟨_, hc⟩ := cutD_calm bs h
  have hne : (cutD bs).files 0 ≠ none := by rw [hc.f0]; simp
  refine ⟨hc.opC (by decide) hne, ?_⟩
  unfold opD
  rw [hc.opM (by decide) hne]
  have hf : ((cutD bs).file 0).settled = ⟨bs, bs.length, true⟩ := by unfold AD.file; rw [hc.f0]; rfl
  rw [hf]
  exact hc.met.put0 _
theorem opD_ops (bs : List Int) : (opD bs).ops ≤ 2 := by
  have h1 := cutD_ops bs
  have h2 : (opD bs).ops ≤ (cutD bs).ops + 1 := opM_ops _ _ rfl
  omega
theorem opens_no {bs : List Int} (h : bs.length ≤ 65536) (hn : ¬ okL bs) : (opD bs).openC = 140 ∧ (opD bs).openM.len 0 = bs.length := by
  obtain ⟨_, hc⟩ := opD_calm bs h
  have hne : (opD bs).files 0 ≠ none := by rw [hc.f0]; simp
  have hr : (opD bs).readB 0 = bs := hc.read (by decide) hc.f0
  have l1 : (opD bs).loadC = 140 := by
    unfold AD.loadC
    rw [hc.opC (by decide) hne, if_pos rfl, hr]
    unfold hearC
    rw [if_pos]
    by_cases h1 : limitM bs = 0
    · exact .inl h1
    · by_cases h2 : partsM bs = []
      · exact .inr h2
      · exact absurd ⟨h1, h2⟩ hn
  have l2 : (opD bs).loadM = (opD bs).met := hc.opM (by decide) hne _
  constructor
  · unfold AD.openC; rw [l1, if_pos (by decide)]
  · unfold AD.openM; rw [l1, if_pos (by decide), l2]; unfold AD.len; rw [hc.met.f0]
theorem opens_yes {bs : List Int} (h : bs.length ≤ 65536) (ho : Oct bs) (hy : okL bs) : (opD bs).openC = 0 ∧ (opD bs).openM.len 0 = costM (partsM bs) + 20 ∧ openV (opD bs) = ⟨limitM bs, partsM bs, false⟩ := by
  obtain ⟨_, hc⟩ := opD_calm bs h
  have hr : (opD bs).readB 0 = bs := hc.read (by decide) hc.f0
  have hh : hearC bs = 0 := by unfold hearC; rw [if_neg (fun e => e.elim hy.1 hy.2)]
  have h20 := (limitM_lim bs hy.1).2
  have hln := parts_len ho (partsM bs).length (Nat.le_refl _) h20
  rw [List.take_length] at hln
  obtain ⟨o1, F', o2, o3, _⟩ := hc.open_ (F := ⟨bs, bs.length, true⟩) hh (by show (costM (partsM bs) : Int) + 20 ≤ (bs.length : Int); omega)
  refine ⟨o1, ?_, by unfold openV; rw [hr]⟩
  unfold AD.len
  rw [o2.f0]
  show F'.bs.length = _
  rw [o3]
  show (bs.take (costM (partsM bs) + 20)).length = _
  rw [List.length_take]
  omega

end Go.Proofs.YtienabfilnpieaaGreat
