/-
  Which vectors may be: mayBe, every, refuse, Check, Of.
-/
import Derived.Test.YtgakfffkadaeeaaRows
import Derived.Test.YtgakfffkadaeeaaVecBase
import Derived.Shelf.Abstract
namespace Go.Proofs.Ytgakfffkadaeeaa
open Go.RowKit Go.Shelf
set_option linter.unusedVariables false
set_option maxRecDepth 100000

/-- A component that may be. -/
def comp (x : Int) : Bool := decide (-1073741823 ≤ x) && decide (x ≤ 1073741823)
def right (xs : List Int) : Bool := decide (1 ≤ xs.length) && decide (xs.length ≤ 4) && xs.all comp

theorem all_take_snoc {α : Type} (p : α → Bool) (l : List α) {k : Nat} {x : α} (h : l[k]? = some x) : (l.take (k + 1)).all p = ((l.take k).all p && p x) := by
  rw [List.take_add_one, h]; simp
theorem all_no {α : Type} (p : α → Bool) (l : List α) {k : Nat} {x : α} (h : l[k]? = some x) (hx : p x = false) : l.all p = false := by
  rw [List.all_eq_false]
  exact ⟨x, List.mem_of_getElem? h, by simp [hx]⟩

set_option maxHeartbeats 400000 in
theorem mayBe_any (A : Option Addr) (c : Nat) (xs : List Int) (w : World) (h : Vec .i32 w A c xs) :
    Calls Try.prog 64 #[.slice A xs.length c] w fun e w' => e = .returned (.bool (right xs)) ∧ w = w' := by
  obtain ⟨n, hn⟩ : ∃ n, n = xs.length := ⟨_, rfl⟩
  have hr : right xs = (decide (1 ≤ n) && decide (n ≤ 4) && xs.all comp) := by rw [hn]; rfl
  have HR := Lib.hid hr
  generalize right xs = R at *
  rw [← hn]
  by_cases h1 : n = 0
  · subst h1
    clear hr h hn
    go_enter Try.func64, Try.ntmps64
    go_wp2
    go_ret
    rw [HR.out]
    exact ⟨rfl, rfl⟩
  · by_cases h4 : 4 < n
    · have t1 : decide ((n : Int) < 1) = false := by simp; omega
      have t2 : decide ((4 : Int) < (n : Int)) = true := by simp; omega
      have HF := Lib.hid (show R = false by rw [hr]; simp; omega)
      clear hr h hn h1 h4
      go_enter Try.func64, Try.ntmps64
      go_wp2
      go_ret
      rw [HF.out]
      exact ⟨rfl, rfl⟩
    · obtain ⟨b, o, rfl, hb, hc⟩ := h.rd (by omega)
      rw [← hn] at hc
      have t1 : decide ((n : Int) < 1) = false := by simp; omega
      have t2 : decide ((4 : Int) < (n : Int)) = false := by simp; omega
      have HA := Lib.hid (show R = xs.all comp by rw [hr]; simp; omega)
      have HC := Lib.hid hc
      have HN := Lib.hid hn
      clear hr h hn h1 hc
      go_enter Try.func64, Try.ntmps64
      go_wp2
      go_loop [4, 15] (fun _ i => ∃ k : Nat, k ≤ n ∧ i = .int .i64 k ∧ Hid ((xs.take k).all comp = true)) (fun _ i => n - (intOf i).toNat)
      case atStart => exact ⟨0, Nat.zero_le _, rfl, Lib.hid (by simp)⟩
      case round =>
        obtain ⟨k, hk, rfl, HK⟩ := hrel
        by_cases hkn : k < n
        · have c1 := HC.out k hkn
          have hx : xs[k]? = some (xs.getD k 0) := by rw [List.getD_eq_getElem?_getD, List.getElem?_eq_getElem (by rw [← HN.out]; exact hkn)]; rfl
          generalize xs.getD k 0 = x at *
          have HX := Lib.hid hx
          clear hx
          by_cases hcx : comp x = true
          · have HS := Lib.hid (show (xs.take (k + 1)).all comp = true by rw [all_take_snoc comp xs HX.out, HK.out, hcx]; rfl)
            have hc2 : -1073741823 ≤ x ∧ x ≤ 1073741823 := by unfold comp at hcx; simpa using hcx
            have e1 : ¬ x < -1073741823 := by omega
            have e2 : ¬ 1073741823 < x := by omega
            clear hcx
            go_wp2
            go_round
            case rel => exact ⟨k + 1, by omega, by go_num, HS⟩
            case measure => simp [intOf]; omega
          · have HF := Lib.hid (show R = false by rw [HA.out]; exact all_no comp xs HX.out (by simpa using hcx))
            by_cases hlo : x < -1073741823
            · clear hcx
              go_wp2
              go_ret
              rw [HF.out]
              exact ⟨rfl, rfl⟩
            · have hhi : 1073741823 < x := by unfold comp at hcx; simp at hcx; omega
              clear hcx
              go_wp2
              go_ret
              rw [HF.out]
              exact ⟨rfl, rfl⟩
        · obtain rfl : k = n := by omega
          have HT := Lib.hid (show R = true by rw [HA.out]; have := HK.out; rw [HN.out, List.take_length] at this; exact this)
          go_wp2
          go_ret
          rw [HT.out]
          exact ⟨rfl, rfl⟩

theorem refuse1_any (A : Option Addr) (c n g : Nat) (dim : Int) (w : World) (hg : w.cell? ⟨g, 0, none⟩ = some (.int .i64 dim)) :
    Calls Try.prog 65 #[.slice A n c, .pointer (some ⟨g, 0, none⟩)] w fun e w' => e = .returned (.bool (decide ((n : Int) = dim))) ∧ w = w' := by
  go_enter Try.func65, Try.ntmps65
  go_wp2
  go_ret
  exact ⟨by first | rfl | congr 2, rfl⟩

set_option maxHeartbeats 400000 in
theorem every_any (fid : FuncId) (lb : Array Value) (A : Option Addr) (c : Nat) (l : List (List Int)) (p : List Int → Bool) (w : World) (h : Vecs .i32 w A c l)
    (hen : ∀ v W, (callFunc fid (#[v] ++ lb)).run Try.prog W = .ok (.enter fid (#[v] ++ lb)) W)
    (hcl : ∀ B cb x, Vec .i32 w B cb x → Calls Try.prog fid (#[.slice B x.length cb] ++ lb) w fun e w' => e = .returned (.bool (p x)) ∧ w = w') :
    Calls Try.prog 63 #[.func (.func fid) #[] lb, .slice A l.length c] w fun e w' => e = .returned (.bool (l.all p)) ∧ w = w' := by
  obtain ⟨n, hn⟩ : ∃ n, n = l.length := ⟨_, rfl⟩
  have hmost := h.most
  have hroom := h.room
  have HC := Lib.hid hcl
  have HV := Lib.hid h
  have HN := Lib.hid hn
  rw [← hn] at hroom ⊢
  clear hcl h hn
  obtain ⟨R, hR⟩ : ∃ R, R = l.all p := ⟨_, rfl⟩
  rw [← hR]
  have HR := Lib.hid hR
  clear hR
  go_enter Try.func63, Try.ntmps63
  go_wp2
  go_loop [6, 9] (fun _ i => ∃ k : Nat, k ≤ n ∧ i = .int .i64 k ∧ Hid ((l.take k).all p = true)) (fun _ i => n - (intOf i).toNat)
  case atStart => exact ⟨0, Nat.zero_le _, rfl, Lib.hid (by simp)⟩
  case round =>
    obtain ⟨k, hk, rfl, HK⟩ := hrel
    by_cases hkn : k < n
    · obtain ⟨b, o, x, B, cb, rfl, hx, hb, hcell, hvec⟩ := HV.out.at_ (i := k) (by rw [← HN.out]; exact hkn)
      have HE := Lib.hid (HC.out B cb x hvec)
      have HX := Lib.hid hx
      clear hx hb hvec
      cases hp : p x with
      | true =>
        have HS := Lib.hid (show (l.take (k + 1)).all p = true by rw [all_take_snoc p l HX.out, HK.out, hp]; rfl)
        rw [hp] at HE
        go_wp2_with fail
        refine HE.out.mono ?_
        rintro e w' ⟨rfl, rfl⟩
        go_wp2
        go_round
        case rel => exact ⟨k + 1, by omega, by go_num, HS⟩
        case measure => simp [intOf]; omega
      | false =>
        have HF := Lib.hid (show R = false by rw [HR.out]; exact all_no p l HX.out hp)
        rw [hp] at HE
        go_wp2_with fail
        refine HE.out.mono ?_
        rintro e w' ⟨rfl, rfl⟩
        go_wp2
        go_ret
        rw [HF.out]
        exact ⟨rfl, rfl⟩
    · obtain rfl : k = n := by omega
      have HT := Lib.hid (show R = true by rw [HR.out]; have := HK.out; rw [HN.out, List.take_length] at this; exact this)
      go_wp2
      go_ret
      rw [HT.out]
      exact ⟨rfl, rfl⟩

/-- Why rows are not all vectors of one dimension; 0 if they are. -/
def refuseM (dim : Int) (l : List (List Int)) : Int := if l.all right then (if l.all (fun x => decide ((x.length : Int) = dim)) then 0 else 151) else 150

set_option maxHeartbeats 400000 in
theorem refuse_any (A : Option Addr) (c : Nat) (dim : Int) (l : List (List Int)) (w : World) (h : Vecs .i32 w A c l) :
    Calls Try.prog 47 #[.int .i64 dim, .slice A l.length c] w fun e w' => e = .returned (.int .i64 (refuseM dim l)) ∧ Below w.heap.size w w' := by
  obtain ⟨W1, hW1⟩ : ∃ W1, W1 = w.alloc (.cells #[.int .i64 dim] 3) := ⟨_, rfl⟩
  have hb : Below w.heap.size w W1 := by rw [hW1]; exact (Below.refl _ w).alloc (Nat.le_refl _) _
  have hg : W1.cell? ⟨w.heap.size, 0, none⟩ = some (.int .i64 dim) := by rw [hW1]; simp
  have h1 := h.below hb
  have HE1 := Lib.hid (every_any 64 #[] A c l right W1 h1 (fun v W => enters_of Try.func64 (by kernel_rfl) rfl _ W) (fun B cb x hv => mayBe_any B cb x W1 hv))
  have HE2 := Lib.hid (every_any 65 #[.pointer (some ⟨w.heap.size, 0, none⟩)] A c l (fun x => decide ((x.length : Int) = dim)) W1 h1 (fun v W => enters_of Try.func65 (by kernel_rfl) rfl _ W) (fun B cb x hv => refuse1_any B cb x.length _ dim W1 hg))
  have HM := Lib.hid (show refuseM dim l = if l.all right then (if l.all (fun x => decide ((x.length : Int) = dim)) then 0 else 151) else 150 from rfl)
  have HB := Lib.hid hb
  rw [hW1] at HE1 HE2 HB
  generalize refuseM dim l = R at *
  generalize l.all (fun x => decide ((x.length : Int) = dim)) = P2 at *
  generalize l.all right = P1 at *
  clear h1 hg hb hW1 h
  cases P1
  · have HF := Lib.hid (show R = 150 by rw [HM.out]; rfl)
    go_enter Try.func47, Try.ntmps47
    go_wp2_with fail
    refine HE1.out.mono ?_
    rintro e w' ⟨rfl, rfl⟩
    go_wp2
    go_ret
    rw [HF.out]
    exact ⟨rfl, HB.out⟩
  · cases P2
    · have HF := Lib.hid (show R = 151 by rw [HM.out]; rfl)
      go_enter Try.func47, Try.ntmps47
      go_wp2_with fail
      refine HE1.out.mono ?_
      rintro e w' ⟨rfl, rfl⟩
      go_wp2_with fail
      refine HE2.out.mono ?_
      rintro e w' ⟨rfl, rfl⟩
      go_wp2
      go_ret
      rw [HF.out]
      exact ⟨rfl, HB.out⟩
    · have HF := Lib.hid (show R = 0 by rw [HM.out]; rfl)
      go_enter Try.func47, Try.ntmps47
      go_wp2_with fail
      refine HE1.out.mono ?_
      rintro e w' ⟨rfl, rfl⟩
      go_wp2_with fail
      refine HE2.out.mono ?_
      rintro e w' ⟨rfl, rfl⟩
      go_wp2
      go_ret
      rw [HF.out]
      exact ⟨rfl, HB.out⟩

end Go.Proofs.Ytgakfffkadaeeaa
