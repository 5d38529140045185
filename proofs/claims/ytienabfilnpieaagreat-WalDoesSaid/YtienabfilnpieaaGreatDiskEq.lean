/-
  Rows that are alike: slices.Equal, bytes.Equal, bytes.HasPrefix; what is not in a row: slices.Contains.
-/
import Derived.Test.YtienabfilnpieaaGreatDiskCrash
import Derived.Laws.BytesArg
namespace Go.Proofs.YtienabfilnpieaaGreat
open Go.RowKit
set_option linter.unusedVariables false
set_option maxRecDepth 100000

/-- At the address A the numbers xs can be read. -/
def RdI (w : World) (A : Option Addr) (xs : List Int) : Prop :=
  0 < xs.length → ∃ b o, A = some ⟨b, o, none⟩ ∧ ∀ j, j < xs.length → w.cell? ⟨b, o + j, none⟩ = some (.int .i64 (xs.getD j 0))
theorem RdI.own {w : World} {base n c : Nat} {A : Option Addr} {xs : List Int} (h : w.ownsRow base 3 1 (.slice A n c) n (xs.map (Value.int .i64))) : RdI w A xs := by
  intro hp
  have hl := h.1
  simp at hl
  rcases h.2 with ⟨_, h0⟩ | ⟨g, cap, cur, hv, hg, hh, hnc, hcm, hsz, hcs⟩
  · omega
  · injection hv with hA _ hc'
    subst hA
    subst hc'
    refine ⟨g, 0, rfl, fun j hj => ?_⟩
    have := h.cellAt j (by omega)
    rw [Nat.zero_add, this]
    simp [List.getD, List.getElem?_eq_getElem hj]

/-- 'string(b)' of a slice that holds bytes. -/
theorem convert_b {w : World} {B : Nat} {A : Option Addr} {c : Nat} {bs : List Int} (h : Rd w B A bs) : (convert 33 9 (.slice A bs.length c)).run Tryz.prog w = .ok (.string (strOfNums bs)) w := by
  rcases Nat.eq_zero_or_pos bs.length with h0 | h0
  · obtain rfl : bs = [] := List.eq_nil_of_length_eq_zero h0
    rw [run_convert_bytes_string w 33 9 5 _ _ c Tryz.underlying33 Tryz.underlying5 Tryz.underlying9]
    cases A <;> simp [Conv.bytesToString, loadCells] <;> rfl
  · obtain ⟨b, o, rfl, _, hc⟩ := h h0
    exact run_convert_bytes_arg w 33 5 Tryz.underlying33 Tryz.underlying5 b o _ c bs rfl hc 9 Tryz.underlying9

theorem equalB (A A' : Option Addr) (c c' : Nat) (bs : List Int) (w : World) {B B' : Nat} (h : Rd w B A bs) (h' : Rd w B' A' bs) :
    Calls Tryz.prog 17 #[.slice A bs.length c, .slice A' bs.length c'] w fun e w' => e = .returned (.bool true) ∧ w = w' := by
  have k1 := convert_b (c := c) h
  have k2 := convert_b (c := c') h'
  clear h h'
  generalize strOfNums bs = s at *
  go_enter Tryz.func17, Tryz.ntmps17
  go_wp2
  go_ret
  exact ⟨by simp, rfl⟩

theorem prefixB (A A' : Option Addr) (c c' : Nat) (bs : List Int) (t : Nat) (w : World) {B B' : Nat} (h : Rd w B A bs) (h' : Rd w B' A' (bs.take t)) (hc : bs.length ≤ c) (hcm : c ≤ 9223372036854775807) :
    Calls Tryz.prog 136 #[.slice A bs.length c, .slice A' (bs.take t).length c'] w fun e w' => e = .returned (.bool true) ∧ w = w' := by
  have ht : (bs.take t).length ≤ bs.length := by simp; omega
  have hrd := h.take t
  have HE := Lib.hid (equalB A A' c c' (bs.take t) w hrd h')
  obtain ⟨n, hn⟩ : ∃ n, n = bs.length := ⟨_, rfl⟩
  obtain ⟨m, hm⟩ : ∃ m, m = (bs.take t).length := ⟨_, rfl⟩
  rw [← hn] at ht hc ⊢
  rw [← hm] at ht HE ⊢
  have i0 : (0 : Int) ≤ (m : Int) := by omega
  have i1 : (m : Int) ≤ (c : Int) := by omega
  have i2 : (m : Int) ≤ (n : Int) := by omega
  have i3 : decide ((n : Int) < (m : Int)) = false := by simp; omega
  have i4 : decide (m ≤ n) = true := by simp; omega
  clear h h' hrd hn hm
  go_enter Tryz.func136, Tryz.ntmps136
  go_wp2_with (go_at_call 17; refine HE.out.mono ?_; rintro e w' ⟨rfl, rfl⟩)
  go_ret
  exact ⟨by simp, rfl⟩

theorem indexI_no (A : Option Addr) (c : Nat) (xs : List Int) (y : Int) (w : World) (h : RdI w A xs) (hs : xs.length ≤ 1000000) (hc : xs.length ≤ c) (hy : y ∉ xs) :
    Calls Tryz.prog 123 #[.slice A xs.length c, .int .i64 y] w fun e w' => e = .returned (.int .i64 (-1)) ∧ w = w' := by
  rcases Nat.eq_zero_or_pos xs.length with h0 | h0
  · obtain rfl : xs = [] := List.eq_nil_of_length_eq_zero h0
    go_enter Tryz.func123, Tryz.ntmps123
    go_wp2
    go_loopw [8] (fun i wr => i = .int .i64 0 ∧ wr = w) (fun _ _ => 0)
    case atStart => exact ⟨rfl, rfl⟩
    case round =>
      obtain ⟨rfl, rfl⟩ := hrel
      go_wp2
      go_ret
      exact ⟨rfl, rfl⟩
  · obtain ⟨b, o, rfl, h1⟩ := h h0
    have hne : ∀ j, j < xs.length → y ≠ xs.getD j 0 := fun j hj e => hy (by rw [e]; simp [List.getD, List.getElem?_eq_getElem hj])
    obtain ⟨n, hn⟩ : ∃ n, n = xs.length := ⟨_, rfl⟩
    rw [← hn] at h1 hs hc hne ⊢
    have H1 := Lib.hid h1
    have HNE := Lib.hid hne
    clear h h1 hn h0 hy hne
    go_enter Tryz.func123, Tryz.ntmps123
    go_wp2
    go_loopw [8] (fun i wr => ∃ k : Nat, i = .int .i64 k ∧ k ≤ n ∧ wr = w) (fun i _ => n - (match i with | .int _ k => k.toNat | _ => 0))
    case atStart => exact ⟨0, rfl, Nat.zero_le _, rfl⟩
    case round =>
      obtain ⟨k, rfl, hk, rfl⟩ := hrel
      by_cases hkn : k < n
      · have hkk : (k : Int) < n := by omega
        have k0 : (0 : Int) ≤ (k : Int) := by omega
        have c1 := H1.out k hkn
        have n1 := HNE.out k hkn
        generalize xs.getD k 0 = x at c1 n1
        have n2 : (y == x) = false := by simp [n1]
        have n3 : decide (y = x) = false := by simp [n1]
        go_wp2
        go_roundw
        case rel => exact ⟨k + 1, by simp, by omega, by trivial⟩
        case measure => simp; omega
      · obtain rfl : k = n := by omega
        go_wp2
        go_ret
        exact ⟨rfl, rfl⟩

theorem containsI_no (A : Option Addr) (c : Nat) (xs : List Int) (y : Int) (w : World) (h : RdI w A xs) (hs : xs.length ≤ 1000000) (hc : xs.length ≤ c) (hy : y ∉ xs) :
    Calls Tryz.prog 98 #[.slice A xs.length c, .int .i64 y] w fun e w' => e = .returned (.bool false) ∧ w = w' := by
  have HE := Lib.hid (indexI_no A c xs y w h hs hc hy)
  generalize xs.length = n at *
  clear h hy
  go_enter Tryz.func98, Tryz.ntmps98
  go_wp2_with (go_at_call 123; refine HE.out.mono ?_; rintro e w' ⟨rfl, rfl⟩)
  go_ret
  exact ⟨rfl, rfl⟩

end Go.Proofs.YtienabfilnpieaaGreat
