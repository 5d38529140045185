/-
  What may be: refuseCount, refuseTrain, refuseVectors, refuseStart; slices.IndexFunc and slices.ContainsFunc at vectors and at numbers.
-/
import Derived.Test.YtgakfffkadaeeaaMnsBase
import Derived.Test.YtgakfffkadaeeaaMnsMath
namespace Go.Proofs.Ytgakfffkadaeeaa
open Go.RowKit Go.Shelf
set_option linter.unusedVariables false
set_option linter.unusedSimpArgs false
set_option maxRecDepth 100000

def idxK (o : Option Nat) : Int := match o with | some k => (k : Int) | none => -1
theorem idx_ge {α : Type} (l : List α) (P : α → Bool) : decide (0 ≤ idxK (l.findIdx? P)) = l.any P := by
  cases h : l.findIdx? P with
  | none =>
    rw [List.findIdx?_eq_none_iff] at h
    have : l.any P = false := by rw [List.any_eq_false]; intro x hx; rw [h x hx]; simp
    rw [this]; rfl
  | some i =>
    rw [List.findIdx?_eq_some_iff_getElem] at h
    obtain ⟨hi, hp, _⟩ := h
    have : l.any P = true := List.any_eq_true.2 ⟨_, List.getElem_mem hi, hp⟩
    rw [this]; simp [idxK]
/-- None of the first k is such. -/
def NoneK {α : Type} (P : α → Bool) (l : List α) (k : Nat) : Prop := ∀ j u, j < k → l[j]? = some u → P u = false
theorem NoneK.step {α : Type} {P : α → Bool} {l : List α} {k : Nat} {v : α} (h : NoneK P l k) (hk : l[k]? = some v) (hv : P v = false) : NoneK P l (k + 1) := by
  intro j u hj hu
  by_cases e : j = k
  · subst e; rw [hk] at hu; cases hu; exact hv
  · exact h j u (by omega) hu
theorem NoneK.all {α : Type} {P : α → Bool} {l : List α} (h : NoneK P l l.length) : l.findIdx? P = none := by
  rw [List.findIdx?_eq_none_iff]
  intro x hx
  obtain ⟨i, hi, rfl⟩ := List.getElem_of_mem hx
  exact h i _ hi (List.getElem?_eq_getElem hi)
theorem NoneK.at_ {α : Type} {P : α → Bool} {l : List α} {k : Nat} {v : α} (h : NoneK P l k) (hk : l[k]? = some v) (hv : P v = true) : l.findIdx? P = some k := by
  rw [List.findIdx?_eq_some_iff_getElem]
  obtain ⟨hl, e⟩ := List.getElem?_eq_some_iff.1 hk
  refine ⟨hl, by rw [e]; exact hv, fun j hj => ?_⟩
  have := h j _ hj (List.getElem?_eq_getElem (by omega))
  rw [this]; simp

/-- A function handed in that tells of a vector, and of a number. -/
def PredV (fid : FuncId) (cap : Array Value) (P : List Int → Bool) (w : World) : Prop := ∀ (B : Option Addr) (cb : Nat) (x : List Int) (W : World), Below w.heap.size w W → Vec .i32 W B cb x → Calls Try.prog fid (#[.slice B x.length cb] ++ cap) W fun e w' => e = .returned (.bool (P x)) ∧ Below W.heap.size W w'
def PredN (fid : FuncId) (P : Int → Bool) (w : World) : Prop := ∀ (x : Int) (W : World), Below w.heap.size w W → Calls Try.prog fid #[.int .i64 x] W fun e w' => e = .returned (.bool (P x)) ∧ Below W.heap.size W w'

set_option maxHeartbeats 1000000 in
theorem indexV_any (A : Option Addr) (c : Nat) (l : List (List Int)) (fid : FuncId) (cap : Array Value) (P : List Int → Bool) (w : World) (h : Vecs .i32 w A c l)
    (hen : ∀ v W, (callFunc fid (#[v] ++ cap)).run Try.prog W = .ok (.enter fid (#[v] ++ cap)) W) (hp : PredV fid cap P w) :
    Calls Try.prog 73 #[.slice A l.length c, .func (.func fid) #[] cap] w fun e w' => e = .returned (.int .i64 (idxK (l.findIdx? P))) ∧ Below w.heap.size w w' := by
  obtain ⟨n, hn⟩ : ∃ n, n = l.length := ⟨_, rfl⟩
  have hmn : n ≤ 9223372036854775807 := by rw [hn]; exact Nat.le_trans h.room h.most
  have HQ := Lib.hid h
  have HN := Lib.hid hn
  have HPr := Lib.hid hp
  generalize hR : idxK (l.findIdx? P) = R at *
  have HR := Lib.hid hR
  rw [← hn]
  clear h hn hp hR
  go_enter Try.func73, Try.ntmps73
  go_wp2
  go_loopw [8] (fun i wr => ∃ k : Nat, k ≤ n ∧ i = .int .i64 k ∧ Hid (NoneK P l k) ∧ Hid (Below w.heap.size w wr)) (fun i _ => n - (intOf i).toNat)
  case atStart => exact ⟨0, Nat.zero_le _, rfl, Lib.hid (fun j u hj => by omega), Lib.hid (Below.refl _ _)⟩
  case round =>
    obtain ⟨k, hk, rfl, HK, HB⟩ := hrel
    by_cases hkn : k < n
    · obtain ⟨b, o, x, B, cb, rfl, hx, hb, c0, hv⟩ := (HQ.out.below HB.out).at_ (i := k) (by rw [← HN.out]; exact hkn)
      have HP := Lib.hid hx
      have k0 : (0 : Int) ≤ k := by omega
      have kn : (k : Int) < n := by omega
      have HV := Lib.hid (HPr.out B cb x wr HB.out hv)
      clear hv hx hb
      cases hvis : P x with
      | true =>
        have HF := Lib.hid (show R = k by rw [← HR.out, HK.out.at_ HP.out hvis]; rfl)
        rw [hvis] at HV
        clear hvis
        go_wp2_with fail
        refine HV.out.mono ?_
        rintro e w1 ⟨rfl, hb1⟩
        have HB1 := Lib.hid (HB.out.trans (hb1.mono HB.out.size))
        clear hb1
        go_wp2
        go_ret
        rw [HF.out]
        exact ⟨rfl, HB1.out⟩
      | false =>
        have HK2 := Lib.hid (HK.out.step HP.out hvis)
        rw [hvis] at HV
        clear hvis
        go_wp2_with fail
        refine HV.out.mono ?_
        rintro e w1 ⟨rfl, hb1⟩
        have HB1 := Lib.hid (HB.out.trans (hb1.mono HB.out.size))
        clear hb1
        go_wp2
        go_roundw
        case rel => exact ⟨k + 1, by omega, by go_num, HK2, HB1⟩
        case measure => simp [intOf]; omega
    · obtain rfl : k = n := by omega
      have HF := Lib.hid (show R = -1 by rw [← HR.out, NoneK.all (l := l) (P := P) (by rw [← HN.out]; exact HK.out)]; rfl)
      go_wp2
      go_ret
      rw [HF.out]
      exact ⟨rfl, HB.out⟩
theorem containsV_any (A : Option Addr) (c : Nat) (l : List (List Int)) (fid : FuncId) (cap : Array Value) (P : List Int → Bool) (w : World) (h : Vecs .i32 w A c l)
    (hen : ∀ v W, (callFunc fid (#[v] ++ cap)).run Try.prog W = .ok (.enter fid (#[v] ++ cap)) W) (hp : PredV fid cap P w) :
    Calls Try.prog 61 #[.slice A l.length c, .func (.func fid) #[] cap] w fun e w' => e = .returned (.bool (l.any P)) ∧ Below w.heap.size w w' := by
  have HC := Lib.hid (indexV_any A c l fid cap P w h hen hp)
  have HR := Lib.hid (idx_ge l P)
  generalize l.any P = R at *
  generalize idxK (l.findIdx? P) = K at *
  generalize l.length = n at *
  clear h hen hp
  go_enter Try.func61, Try.ntmps61
  go_wp2_with fail
  refine HC.out.mono ?_
  rintro e w1 ⟨rfl, hb1⟩
  have HB1 := Lib.hid hb1
  clear hb1
  go_wp2
  go_ret
  rw [HR.out]
  exact ⟨rfl, HB1.out⟩

set_option maxHeartbeats 1000000 in
theorem indexN_any (A : Option Addr) (c : Nat) (l : List Int) (fid : FuncId) (P : Int → Bool) (w : World) (h : Vec .i64 w A c l)
    (hen : ∀ v W, (callFunc fid #[v]).run Try.prog W = .ok (.enter fid #[v]) W) (hp : PredN fid P w) :
    Calls Try.prog 66 #[.slice A l.length c, .func (.func fid) #[] #[]] w fun e w' => e = .returned (.int .i64 (idxK (l.findIdx? P))) ∧ Below w.heap.size w w' := by
  obtain ⟨n, hn⟩ : ∃ n, n = l.length := ⟨_, rfl⟩
  have hmn : n ≤ 9223372036854775807 := by rw [hn]; exact Nat.le_trans h.room h.most
  have HQ := Lib.hid h
  have HN := Lib.hid hn
  have HPr := Lib.hid hp
  generalize hR : idxK (l.findIdx? P) = R at *
  have HR := Lib.hid hR
  rw [← hn]
  clear h hn hp hR
  go_enter Try.func66, Try.ntmps66
  go_wp2
  go_loopw [8] (fun i wr => ∃ k : Nat, k ≤ n ∧ i = .int .i64 k ∧ Hid (NoneK P l k) ∧ Hid (Below w.heap.size w wr)) (fun i _ => n - (intOf i).toNat)
  case atStart => exact ⟨0, Nat.zero_le _, rfl, Lib.hid (fun j u hj => by omega), Lib.hid (Below.refl _ _)⟩
  case round =>
    obtain ⟨k, hk, rfl, HK, HB⟩ := hrel
    by_cases hkn : k < n
    · obtain ⟨b, o, rfl, hb, c0⟩ := (HQ.out.below HB.out).at_ (j := k) (by rw [← HN.out]; exact hkn)
      have HP := Lib.hid (getD_some (a := l) (k := k) (by rw [← HN.out]; exact hkn))
      have k0 : (0 : Int) ≤ k := by omega
      have kn : (k : Int) < n := by omega
      generalize l.getD k 0 = x at *
      have HV := Lib.hid (HPr.out x wr HB.out)
      clear hb
      cases hvis : P x with
      | true =>
        have HF := Lib.hid (show R = k by rw [← HR.out, HK.out.at_ HP.out hvis]; rfl)
        rw [hvis] at HV
        clear hvis
        go_wp2_with fail
        refine HV.out.mono ?_
        rintro e w1 ⟨rfl, hb1⟩
        have HB1 := Lib.hid (HB.out.trans (hb1.mono HB.out.size))
        clear hb1
        go_wp2
        go_ret
        rw [HF.out]
        exact ⟨rfl, HB1.out⟩
      | false =>
        have HK2 := Lib.hid (HK.out.step HP.out hvis)
        rw [hvis] at HV
        clear hvis
        go_wp2_with fail
        refine HV.out.mono ?_
        rintro e w1 ⟨rfl, hb1⟩
        have HB1 := Lib.hid (HB.out.trans (hb1.mono HB.out.size))
        clear hb1
        go_wp2
        go_roundw
        case rel => exact ⟨k + 1, by omega, by go_num, HK2, HB1⟩
        case measure => simp [intOf]; omega
    · obtain rfl : k = n := by omega
      have HF := Lib.hid (show R = -1 by rw [← HR.out, NoneK.all (l := l) (P := P) (by rw [← HN.out]; exact HK.out)]; rfl)
      go_wp2
      go_ret
      rw [HF.out]
      exact ⟨rfl, HB.out⟩
theorem containsN_any (A : Option Addr) (c : Nat) (l : List Int) (fid : FuncId) (P : Int → Bool) (w : World) (h : Vec .i64 w A c l)
    (hen : ∀ v W, (callFunc fid #[v]).run Try.prog W = .ok (.enter fid #[v]) W) (hp : PredN fid P w) :
    Calls Try.prog 50 #[.slice A l.length c, .func (.func fid) #[] #[]] w fun e w' => e = .returned (.bool (l.any P)) ∧ Below w.heap.size w w' := by
  have HC := Lib.hid (indexN_any A c l fid P w h hen hp)
  have HR := Lib.hid (idx_ge l P)
  generalize l.any P = R at *
  generalize idxK (l.findIdx? P) = K at *
  generalize l.length = n at *
  clear h hen hp
  go_enter Try.func50, Try.ntmps50
  go_wp2_with fail
  refine HC.out.mono ?_
  rintro e w1 ⟨rfl, hb1⟩
  have HB1 := Lib.hid hb1
  clear hb1
  go_wp2
  go_ret
  rw [HR.out]
  exact ⟨rfl, HB1.out⟩

/-! ### how many -/
theorem refuseCount_any (A : Option Addr) (n c : Nat) (w : World) : Calls Try.prog 41 #[.slice A n c] w fun e w' => e = .returned (.int .i64 (if n = 0 ∨ 6 < n then 2 else 0)) ∧ w = w' := by
  by_cases h0 : n = 0
  · subst h0
    go_enter Try.func41, Try.ntmps41
    go_wp2
    go_ret
    exact ⟨rfl, rfl⟩
  · have t1 : ((n : Int) == 0) = false := by simp; omega
    have t2 : (n == 0) = false := by simp; omega
    by_cases h6 : 6 < n
    · have HF := Lib.hid (show (if n = 0 ∨ 6 < n then (2 : Int) else 0) = 2 by rw [if_pos (.inr h6)])
      generalize (if n = 0 ∨ 6 < n then (2 : Int) else 0) = R at *
      have t3 : decide ((6 : Int) < n) = true := by simp; omega
      clear h0
      go_enter Try.func41, Try.ntmps41
      go_wp2
      go_ret
      rw [HF.out]
      exact ⟨rfl, rfl⟩
    · have HF := Lib.hid (show (if n = 0 ∨ 6 < n then (2 : Int) else 0) = 0 by rw [if_neg (by omega)])
      generalize (if n = 0 ∨ 6 < n then (2 : Int) else 0) = R at *
      have t3 : decide ((6 : Int) < n) = false := by simp; omega
      clear h0 h6
      go_enter Try.func41, Try.ntmps41
      go_wp2
      go_ret
      rw [HF.out]
      exact ⟨rfl, rfl⟩
theorem refuseTrain_any (A : Option Addr) (n c : Nat) (w : World) : Calls Try.prog 51 #[.slice A n c] w fun e w' => e = .returned (.int .i64 (if n = 0 then 4 else if 96 < n then 3 else 0)) ∧ w = w' := by
  by_cases h0 : n = 0
  · subst h0
    go_enter Try.func51, Try.ntmps51
    go_wp2
    go_ret
    exact ⟨rfl, rfl⟩
  · have t1 : ((n : Int) == 0) = false := by simp; omega
    have t2 : (n == 0) = false := by simp; omega
    by_cases h6 : 96 < n
    · have HF := Lib.hid (show (if n = 0 then (4 : Int) else if 96 < n then 3 else 0) = 3 by rw [if_neg h0, if_pos h6])
      generalize (if n = 0 then (4 : Int) else if 96 < n then 3 else 0) = R at *
      have t3 : decide ((96 : Int) < n) = true := by simp; omega
      clear h0
      go_enter Try.func51, Try.ntmps51
      go_wp2
      go_ret
      rw [HF.out]
      exact ⟨rfl, rfl⟩
    · have HF := Lib.hid (show (if n = 0 then (4 : Int) else if 96 < n then 3 else 0) = 0 by rw [if_neg h0, if_neg h6])
      generalize (if n = 0 then (4 : Int) else if 96 < n then 3 else 0) = R at *
      have t3 : decide ((96 : Int) < n) = false := by simp; omega
      clear h0 h6
      go_enter Try.func51, Try.ntmps51
      go_wp2
      go_ret
      rw [HF.out]
      exact ⟨rfl, rfl⟩

/-! ### vectors -/
theorem check_right (v : List Int) : checkM v = if right v = true then 0 else 150 := by
  unfold checkM refuseM
  cases h : right v <;> simp [h]
theorem mayNot_any (B : Option Addr) (cb : Nat) (x : List Int) (W : World) (hv : Vec .i32 W B cb x) : Calls Try.prog 58 #[.slice B x.length cb] W fun e w' => e = .returned (.bool (!right x)) ∧ Below W.heap.size W w' := by
  have HC := Lib.hid (check_any B cb x W hv)
  rw [check_right] at HC
  generalize x.length = n at *
  clear hv
  cases hr : right x with
  | true =>
    rw [hr] at HC
    simp only [if_true] at HC
    clear hr
    go_enter Try.func58, Try.ntmps58
    go_wp2_with fail
    refine HC.out.mono ?_
    rintro e w1 ⟨rfl, hb1⟩
    have HB1 := Lib.hid hb1
    clear hb1
    go_wp2
    go_ret
    exact ⟨rfl, HB1.out⟩
  | false =>
    rw [hr] at HC
    simp only [Bool.false_eq_true, if_false] at HC
    clear hr
    go_enter Try.func58, Try.ntmps58
    go_wp2_with fail
    refine HC.out.mono ?_
    rintro e w1 ⟨rfl, hb1⟩
    have HB1 := Lib.hid hb1
    clear hb1
    go_wp2
    go_ret
    exact ⟨rfl, HB1.out⟩
theorem unlike_any (B : Option Addr) (cb n : Nat) (g b o N cN d cd : Nat) (D : Option Addr) (W : World) (hg : W.cell? ⟨g, 0, none⟩ = some (.slice (some ⟨b, o, none⟩) N cN)) (hN : 0 < N) (h0 : W.cell? ⟨b, o, none⟩ = some (.slice D d cd)) :
    Calls Try.prog 60 #[.slice B n cb, .pointer (some ⟨g, 0, none⟩)] W fun e w' => e = .returned (.bool (!decide (n = d))) ∧ Below W.heap.size W w' := by
  have n0 : (0 : Int) < N := by omega
  have HF := Lib.hid (show (!decide (n = d)) = ((n : Int) != (d : Int)) by
    by_cases h : n = d
    · subst h; simp
    · have : ((n : Int) != (d : Int)) = true := by simp; omega
      rw [this]; simp [h])
  generalize (!decide (n = d)) = R at *
  go_enter Try.func60, Try.ntmps60
  go_wp2
  go_ret
  rw [HF.out]
  exact ⟨by first | rfl | simp [bne], Below.refl _ _⟩

theorem not_all {α : Type} (l : List α) (P : α → Bool) : (l.any fun x => !P x) = !l.all P := by
  induction l with
  | nil => rfl
  | cons x l ih => rw [List.any_cons, List.all_cons, ih]; cases P x <;> cases l.all P <;> rfl
theorem allM_eq (l : List (List Int)) : allM l = if (l.any fun x => !right x) = true then 150 else if (l.any fun x => !decide (x.length = (l.getD 0 []).length)) = true then 151 else 0 := by
  unfold allM refuseM
  rw [not_all, not_all]
  have e : (l.all fun x => decide ((x.length : Int) = ((l.getD 0 []).length : Nat))) = l.all fun x => decide (x.length = (l.getD 0 []).length) := by
    congr 1; funext x; congr 1; exact propext (by omega)
  rw [e]
  cases l.all right <;> cases (l.all fun x => decide (x.length = (l.getD 0 []).length)) <;> rfl

set_option maxHeartbeats 1000000 in
theorem refuseVectors_any (A : Option Addr) (c : Nat) (l : List (List Int)) (w : World) (h : Vecs .i32 w A c l) (hn : 0 < l.length) : Calls Try.prog 42 #[.slice A l.length c] w fun e w' => e = .returned (.int .i64 (allM l)) ∧ Below w.heap.size w w' := by
  obtain ⟨W0, hW0⟩ : ∃ W0, W0 = w.alloc (.cells #[.slice A l.length c] 22) := ⟨_, rfl⟩
  have hb0 : Below w.heap.size w W0 := by rw [hW0]; exact (Below.refl _ w).alloc (Nat.le_refl _) _
  have x0 : W0.cell? ⟨w.heap.size, 0, none⟩ = some (.slice A l.length c) := by rw [hW0]; exact cell_laid _ _ _ 0
  have hz0 : W0.heap.size = w.heap.size + 1 := by rw [hW0]; simp
  have hX := fun (V : World) (hV : Below W0.heap.size W0 V) => show V.cell? ⟨w.heap.size, 0, none⟩ = some (.slice A l.length c) from (hV.cell (p := ⟨w.heap.size, 0, none⟩) (by show w.heap.size < W0.heap.size; omega)).trans x0
  have HC1 := Lib.hid (fun (V : World) (hV : Below W0.heap.size W0 V) => containsV_any A c l 58 #[] (fun x => !right x) V ((h.below hb0).below hV) (fun v W => enters_of Try.func58 (by kernel_rfl) rfl _ W) (fun B cb x W _ hv => mayNot_any B cb x W hv))
  have HC2 := Lib.hid (fun (V : World) (hV : Below W0.heap.size W0 V) => containsV_any A c l 60 #[.pointer (some ⟨w.heap.size, 0, none⟩)] (fun x => !decide (x.length = (l.getD 0 []).length)) V ((h.below hb0).below hV) (fun v W => enters_of Try.func60 (by kernel_rfl) rfl _ W)
    (fun B cb x W hW hv => by
      have hVW := hV.trans (hW.mono hV.size)
      obtain ⟨b, o, x1, D, cd, hA, hx1, _, hc, _⟩ := ((h.below hb0).below hVW).at_ (i := 0) hn
      have hx := hX W hVW
      rw [hA] at hx
      rw [Nat.add_zero] at hc
      rw [getD_at hx1]
      exact unlike_any B cb x.length w.heap.size b o l.length c x1.length cd D W hx hn hc))
  have HE := Lib.hid (allM_eq l)
  have HB0 := Lib.hid hb0
  have HX := Lib.hid hX
  have HW0 := Lib.hid hW0
  generalize allM l = R at *
  generalize (l.any fun x => !right x) = P1 at *
  generalize (l.any fun x => !decide (x.length = (l.getD 0 []).length)) = P2 at *
  generalize l.length = n at *
  clear h hn hX hz0 hb0 hW0
  cases P1
  · cases P2
    · have HF := Lib.hid (show R = 0 by rw [HE.out]; rfl)
      go_enter Try.func42, Try.ntmps42
      go_wp2_with (rw [← HW0.out])
      refine (HC1.out _ (Below.refl _ _)).mono ?_
      rintro e w1 ⟨rfl, hb1⟩
      have HB1 := Lib.hid hb1
      have c1 := HX.out w1 hb1
      clear hb1
      go_wp2_with fail
      refine (HC2.out _ HB1.out).mono ?_
      rintro e w2 ⟨rfl, hb2⟩
      have HB2 := Lib.hid (HB0.out.trans ((HB1.out.trans (hb2.mono HB1.out.size)).mono HB0.out.size))
      clear hb2
      go_wp2
      go_ret
      rw [HF.out]
      exact ⟨rfl, HB2.out⟩
    · have HF := Lib.hid (show R = 151 by rw [HE.out]; rfl)
      go_enter Try.func42, Try.ntmps42
      go_wp2_with (rw [← HW0.out])
      refine (HC1.out _ (Below.refl _ _)).mono ?_
      rintro e w1 ⟨rfl, hb1⟩
      have HB1 := Lib.hid hb1
      have c1 := HX.out w1 hb1
      clear hb1
      go_wp2_with fail
      refine (HC2.out _ HB1.out).mono ?_
      rintro e w2 ⟨rfl, hb2⟩
      have HB2 := Lib.hid (HB0.out.trans ((HB1.out.trans (hb2.mono HB1.out.size)).mono HB0.out.size))
      clear hb2
      go_wp2
      go_ret
      rw [HF.out]
      exact ⟨rfl, HB2.out⟩
  · have HF := Lib.hid (show R = 150 by rw [HE.out]; rfl)
    go_enter Try.func42, Try.ntmps42
    go_wp2_with (rw [← HW0.out])
    refine (HC1.out _ (Below.refl _ _)).mono ?_
    rintro e w1 ⟨rfl, hb1⟩
    have HB1 := Lib.hid (HB0.out.trans (hb1.mono HB0.out.size))
    clear hb1
    go_wp2
    go_ret
    rw [HF.out]
    exact ⟨rfl, HB1.out⟩

theorem noDraw_any (x : Int) (W : World) : Calls Try.prog 49 #[.int .i64 x] W fun e w' => e = .returned (.bool (!drawB x)) ∧ Below W.heap.size W w' := by
  have HF := Lib.hid (show (!drawB x) = if decide (x < 0) = true then true else decide (1073741824 < x) by
    unfold drawB
    by_cases h1 : x < 0
    · simp [h1]
      try omega
    · by_cases h2 : 1073741824 < x
      · simp [h1, h2]
        try omega
      · simp [h1, h2]
        try omega)
  generalize (!drawB x) = R at *
  cases h1 : decide (x < 0) with
  | true =>
    rw [h1] at HF
    have h1' := of_decide_eq_true h1
    go_enter Try.func49, Try.ntmps49
    go_wp2
    go_ret
    rw [HF.out]
    exact ⟨rfl, Below.refl _ _⟩
  | false =>
    rw [h1] at HF
    have h1' := of_decide_eq_false h1
    go_enter Try.func49, Try.ntmps49
    go_wp2
    go_ret
    rw [HF.out]
    exact ⟨rfl, Below.refl _ _⟩

set_option maxHeartbeats 1000000 in
theorem refuseStart_any (A A' : Option Addr) (c c' : Nat) (l : List (List Int)) (d : List Int) (w : World) (h : Vecs .i32 w A c l) (hd : Vec .i64 w A' c' d) :
    Calls Try.prog 32 #[.slice A l.length c, .slice A' d.length c'] w fun e w' => e = .returned (.int .i64 (startE l d)) ∧ Below w.heap.size w w' := by
  have HC := Lib.hid (containsN_any A' c' d 49 (fun x => !drawB x) w hd (fun v W => enters_of Try.func49 (by kernel_rfl) rfl _ W) (fun x W _ => noDraw_any x W))
  have e := not_all d drawB
  rw [e] at HC
  by_cases hd0 : d.length = 0
  · have HF := Lib.hid (show startE l d = 2 by unfold startE drawsB; rw [hd0]; rfl)
    generalize startE l d = R at *
    rw [hd0]
    clear h hd HC e
    go_enter Try.func32, Try.ntmps32
    go_wp2
    go_ret
    rw [HF.out]
    exact ⟨rfl, Below.refl _ _⟩
  · have t1 : ((d.length : Int) == 0) = false := by simp; intro e; rw [e] at hd0; simp at hd0
    have t2 : (d.length == 0) = false := by simpa using hd0
    by_cases hd6 : 6 < d.length
    · have HF := Lib.hid (show startE l d = 2 by unfold startE drawsB; rw [show decide (d.length ≤ 6) = false by simp; omega]; simp)
      have t3 : decide ((6 : Int) < (d.length : Int)) = true := by simp; omega
      generalize startE l d = R at *
      generalize d.length = m at *
      clear h hd HC e
      go_enter Try.func32, Try.ntmps32
      go_wp2
      go_ret
      rw [HF.out]
      exact ⟨rfl, Below.refl _ _⟩
    · have t3 : decide ((6 : Int) < (d.length : Int)) = false := by simp; omega
      have hdb : drawsB d = d.all drawB := by unfold drawsB; rw [show decide (1 ≤ d.length) = true by simp; omega, show decide (d.length ≤ 6) = true by simp; omega]; rfl
      cases hda : d.all drawB with
      | false =>
        have HF := Lib.hid (show startE l d = 2 by unfold startE; rw [hdb, hda]; rfl)
        rw [hda] at HC
        generalize startE l d = R at *
        generalize d.length = m at *
        clear h hd e hdb hda
        go_enter Try.func32, Try.ntmps32
        go_wp2_with fail
        refine HC.out.mono ?_
        rintro e w1 ⟨rfl, hb1⟩
        have HB1 := Lib.hid hb1
        clear hb1
        go_wp2
        go_ret
        rw [HF.out]
        exact ⟨rfl, HB1.out⟩
      | true =>
        have hse : startE l d = vectE l := by unfold startE; rw [hdb, hda]; rfl
        rw [hda] at HC
        have HT := Lib.hid (fun V => refuseTrain_any A l.length c V)
        have hte : (if l.length = 0 then (4 : Int) else if 96 < l.length then 3 else 0) = trainE l := rfl
        rw [hte] at HT
        by_cases h0 : trainE l = 0
        · have HF := Lib.hid (show startE l d = allM l by rw [hse]; unfold vectE; rw [if_neg (by simpa using h0)])
          have HV := Lib.hid (fun (V : World) (hV : Below w.heap.size w V) => refuseVectors_any A c l V (h.below hV) (train_ok h0).1)
          rw [h0] at HT
          generalize startE l d = R at *
          generalize allM l = R2 at *
          generalize d.length = m at *
          generalize l.length = n at *
          clear h hd e hdb hda hse hte h0
          go_enter Try.func32, Try.ntmps32
          go_wp2_with fail
          refine HC.out.mono ?_
          rintro e w1 ⟨rfl, hb1⟩
          have HB1 := Lib.hid hb1
          clear hb1
          go_wp2_with fail
          refine (HT.out w1).mono ?_
          rintro e w2 ⟨rfl, rfl⟩
          go_wp2_with fail
          refine (HV.out w1 HB1.out).mono ?_
          rintro e w2 ⟨rfl, hb2⟩
          have HB2 := Lib.hid (HB1.out.trans (hb2.mono HB1.out.size))
          clear hb2
          go_wp2
          go_ret
          rw [HF.out]
          exact ⟨rfl, HB2.out⟩
        · have HF := Lib.hid (show startE l d = trainE l by rw [hse]; unfold vectE; rw [if_pos h0])
          have t4 : (trainE l == 0) = false := by simpa using h0
          have t5 : (trainE l != 0) = true := by simpa using h0
          generalize startE l d = R at *
          generalize trainE l = R2 at *
          generalize d.length = m at *
          generalize l.length = n at *
          clear h hd e hdb hda hse hte h0
          go_enter Try.func32, Try.ntmps32
          go_wp2_with fail
          refine HC.out.mono ?_
          rintro e w1 ⟨rfl, hb1⟩
          have HB1 := Lib.hid hb1
          clear hb1
          go_wp2_with fail
          refine (HT.out w1).mono ?_
          rintro e w2 ⟨rfl, rfl⟩
          go_wp2
          go_ret
          rw [HF.out]
          exact ⟨rfl, HB1.out⟩
end Go.Proofs.Ytgakfffkadaeeaa
