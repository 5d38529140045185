/-
  Plain numbers: marks, stepped by bytes, and back. No program is walked here.
-/
import Derived.Test.YtienabfilnpieaaGreatFieldMath
namespace Go.Proofs.YtienabfilnpieaaGreat
open Go.RowKit
set_option maxRecDepth 100000
set_option linter.unusedVariables false

/-- A number of 64 bits without a sign. -/
def U (m : Int) : Prop := 0 ≤ m ∧ m < 18446744073709551616

/-- A mark, turned by a byte. -/
def xr (m b : Int) : Int := ((m.toNat ^^^ b.toNat : Nat) : Int)
/-- A step, and a step back. -/
def step (m b : Int) : Int := xr m b * 1099511628211 % 18446744073709551616
def back (m b : Int) : Int := xr (m * 14886173955864302971 % 18446744073709551616) b
/-- The mark of bytes, on from a mark; back to it; from the beginning. -/
def onM (m : Int) (bs : List Int) : Int := bs.foldl step m
def backM (m : Int) (bs : List Int) : Int := bs.foldr (fun b m => back m b) m
def ofM (bs : List Int) : Int := onM 14695981039346656037 bs

theorem xr_bits (m b : Int) (h : U m) (h0 : 0 ≤ b) (h1 : b < 256) : bits .xor .u64 m b = xr m b := u64_xor m b h.1 h.2 h0 (by omega)
theorem xr_u (m b : Int) (h : U m) (h0 : 0 ≤ b) (h1 : b < 256) : U (xr m b) := by
  obtain ⟨k0, k1⟩ := h
  refine ⟨by unfold xr; omega, ?_⟩
  have := Nat.xor_lt_two_pow (x := m.toNat) (y := b.toNat) (n := 64) (by omega) (by omega)
  unfold xr
  omega
theorem xr_xr (m b : Int) (h : U m) : xr (xr m b) b = m := by
  unfold xr
  rw [Int.toNat_natCast, Nat.xor_assoc, Nat.xor_self, Nat.xor_zero]
  exact Int.toNat_of_nonneg h.1
theorem xr_inj (m b c : Int) (h0 : 0 ≤ b) (k0 : 0 ≤ c) (e : xr m b = xr m c) : b = c := by
  unfold xr at e
  have e1 : m.toNat ^^^ b.toNat = m.toNat ^^^ c.toNat := by omega
  have e2 : m.toNat ^^^ (m.toNat ^^^ b.toNat) = m.toNat ^^^ (m.toNat ^^^ c.toNat) := by rw [e1]
  rw [← Nat.xor_assoc, ← Nat.xor_assoc, Nat.xor_self, Nat.zero_xor, Nat.zero_xor] at e2
  omega

theorem mul_back (x : Int) (h : U x) : x * 1099511628211 % 18446744073709551616 * 14886173955864302971 % 18446744073709551616 = x := by
  obtain ⟨h0, h1⟩ := h
  omega
theorem back_mul (x : Int) (h : U x) : x * 14886173955864302971 % 18446744073709551616 * 1099511628211 % 18446744073709551616 = x := by
  obtain ⟨h0, h1⟩ := h
  omega

theorem step_u (m b : Int) : U (step m b) := by unfold step U; omega
theorem back_u (m b : Int) (h0 : 0 ≤ b) (h1 : b < 256) : U (back m b) := xr_u _ _ (by unfold U; omega) h0 h1
theorem back_step (m b : Int) (h : U m) (h0 : 0 ≤ b) (h1 : b < 256) : back (step m b) b = m := by
  unfold back step
  rw [mul_back _ (xr_u m b h h0 h1), xr_xr m b h]
theorem step_back (m b : Int) (h : U m) (h0 : 0 ≤ b) (h1 : b < 256) : step (back m b) b = m := by
  unfold back step
  rw [xr_xr _ b (by unfold U; omega), back_mul m h]
theorem step_inj (m b c : Int) (h : U m) (h0 : 0 ≤ b) (h1 : b < 256) (k0 : 0 ≤ c) (k1 : c < 256) (e : step m b = step m c) : b = c := by
  unfold step at e
  have e2 : xr m b = xr m c := by
    rw [← mul_back _ (xr_u m b h h0 h1), ← mul_back _ (xr_u m c h k0 k1), e]
  exact xr_inj m b c h0 k0 e2

theorem onM_u (m : Int) (bs : List Int) (h : U m) : U (onM m bs) := by
  induction bs generalizing m with
  | nil => exact h
  | cons x l ih => exact ih _ (step_u m x)
theorem Oct.head {x : Int} {l : List Int} (h : Oct (x :: l)) : 0 ≤ x ∧ x < 256 := h x (by simp)
theorem Oct.tail {x : Int} {l : List Int} (h : Oct (x :: l)) : Oct l := fun b hb => h b (by simp [hb])
theorem backM_u (m : Int) (bs : List Int) (h : U m) (ho : Oct bs) : U (backM m bs) := by
  cases bs with
  | nil => exact h
  | cons x l => exact back_u _ _ ho.head.1 ho.head.2
theorem onM_append (m : Int) (a b : List Int) : onM m (a ++ b) = onM (onM m a) b := by simp [onM]
theorem backM_append (m : Int) (a b : List Int) : backM m (a ++ b) = backM (backM m b) a := by simp [backM]
theorem back_on (m : Int) (bs : List Int) (h : U m) (ho : Oct bs) : backM (onM m bs) bs = m := by
  induction bs generalizing m with
  | nil => rfl
  | cons x l ih =>
    show back (backM (onM (step m x) l) l) x = m
    rw [ih _ (step_u m x) ho.tail, back_step m x h ho.head.1 ho.head.2]
theorem on_back (m : Int) (bs : List Int) (h : U m) (ho : Oct bs) : onM (backM m bs) bs = m := by
  induction bs with
  | nil => rfl
  | cons x l ih =>
    show onM (step (back (backM m l) x) x) l = m
    rw [step_back _ x (backM_u m l h ho.tail) ho.head.1 ho.head.2, ih ho.tail]
theorem onM_inj (m n : Int) (bs : List Int) (h : U m) (k : U n) (ho : Oct bs) (e : onM m bs = onM n bs) : m = n := by
  rw [← back_on m bs h ho, ← back_on n bs k ho, e]
/-- Bytes of one length that differ at just one place have other marks. -/
theorem onM_set (m : Int) (bs : List Int) (k : Nat) (y : Int) (h : U m) (ho : Oct bs) (hk : k < bs.length) (h0 : 0 ≤ y) (h1 : y < 256) (hne : y ≠ bs.getD k 0) : onM m (bs.set k y) ≠ onM m bs := by
  induction bs generalizing m k with
  | nil => simp at hk
  | cons x l ih =>
    cases k with
    | zero =>
      intro e
      have e1 : onM (step m y) l = onM (step m x) l := e
      have e2 := onM_inj _ _ l (step_u m y) (step_u m x) ho.tail e1
      exact hne (step_inj m y x h h0 h1 ho.head.1 ho.head.2 e2)
    | succ k => exact ih (step m x) k (step_u m x) ho.tail (by simpa using hk) (by simpa using hne)
theorem onM_snoc (m : Int) (bs : List Int) (k : Nat) (h : k < bs.length) : onM m (bs.take (k + 1)) = step (onM m (bs.take k)) (bs.getD k 0) := by
  rw [take_snoc h, onM_append]
  rfl
theorem drop_cons {bs : List Int} {k : Nat} (h : k < bs.length) : bs.drop k = bs.getD k 0 :: bs.drop (k + 1) := by
  rw [List.drop_eq_getElem_cons h]
  simp [List.getD, List.getElem?_eq_getElem h]
theorem backM_cons (m : Int) (bs : List Int) (k : Nat) (h : k < bs.length) : backM m (bs.drop k) = back (backM m (bs.drop (k + 1))) (bs.getD k 0) := by
  rw [drop_cons h]
  rfl

/-- The document's own way to turn the lowest eight bits. -/
theorem low_xr (m b : Int) (h : U m) (h0 : 0 ≤ b) (h1 : b < 256) : m - m % 256 + xr (m % 256) b = xr m b := by
  obtain ⟨h2, h3⟩ := h
  obtain ⟨x, rfl⟩ := Int.eq_ofNat_of_zero_le h2
  obtain ⟨y, rfl⟩ := Int.eq_ofNat_of_zero_le h0
  unfold xr
  have e : ((x : Int) % 256).toNat = x % 256 := by omega
  rw [e, Int.toNat_natCast, Int.toNat_natCast]
  have d : (x ^^^ y) / 256 = x / 256 := by
    have := Nat.xor_div_two_pow (a := x) (b := y) (n := 8)
    rw [show (2 ^ 8 : Nat) = 256 from rfl] at this
    rw [this, show y / 256 = 0 by omega, Nat.xor_zero]
  have r : (x ^^^ y) % 256 = (x % 256) ^^^ y := by
    have := Nat.xor_mod_two_pow (a := x) (b := y) (n := 8)
    rw [show (2 ^ 8 : Nat) = 256 from rfl] at this
    rw [this, show y % 256 = y by omega]
  omega

end Go.Proofs.YtienabfilnpieaaGreat
