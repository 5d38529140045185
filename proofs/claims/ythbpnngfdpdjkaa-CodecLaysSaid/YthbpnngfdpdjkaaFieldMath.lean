/-
  Plain numbers: fields and what they say, there and back; fields side by side. No program is walked here.
-/
import Derived.Test.YthbpnngfdpdjkaaFieldTold
namespace Go.Proofs.Ythbpnngfdpdjkaa
open Go.RowKit
set_option linter.unusedVariables false

theorem pow_split (x : Int) (a b : Nat) : x / 2 ^ (a + b) = x / 2 ^ a / 2 ^ b := by
  rw [Int.pow_add, Int.ediv_ediv_of_nonneg (Int.pow_nonneg (by omega))]

/-- The field of a number that goes on by one byte. -/
theorem fld_snoc (k : Nat) (V b : Int) (h0 : 0 ≤ b) (h1 : b < 256) : fld (k + 1) (V * 256 + b) = fld k V ++ [b] := by
  unfold fld
  rw [List.range_succ, List.map_append]
  congr 1
  · apply List.map_congr_left
    intro i hi
    have hik : i < k := by simpa using hi
    have e : 8 * (k + 1 - 1 - i) = 8 + 8 * (k - 1 - i) := by omega
    rw [e, pow_split]
    have e2 : (V * 256 + b) / 2 ^ 8 = V := by
      show (V * 256 + b) / 256 = V
      omega
    rw [e2]
  · simp
    omega

theorem snoc_of {α : Type} (l : List α) (h : 0 < l.length) : ∃ a b, l = a ++ [b] := ⟨l.dropLast, l.getLast (by intro e; simp [e] at h), (List.dropLast_concat_getLast _).symm⟩

theorem fld_val (n : Nat) : ∀ bs : List Int, bs.length = n → Oct bs → fld n (val bs) = bs := by
  induction n with
  | zero => intro bs h _; rw [List.eq_nil_of_length_eq_zero h]; rfl
  | succ n ih =>
    intro bs h ho
    obtain ⟨a, b, rfl⟩ := snoc_of bs (by omega)
    have hb := ho b (by simp)
    rw [val_snoc, fld_snoc _ _ _ hb.1 hb.2, ih a (by simpa using h) (fun x hx => ho x (by simp [hx]))]

theorem val_append (a b : List Int) : val (a ++ b) = val a * 256 ^ b.length + val b := by
  have : ∀ (l : List Int) (x : Int), l.foldl (fun a b => a * 256 + b) x = x * 256 ^ l.length + l.foldl (fun a b => a * 256 + b) 0 := by
    intro l
    induction l with
    | nil => intro x; simp
    | cons y l ih =>
      intro x
      simp only [List.foldl_cons, List.length_cons]
      rw [ih (x * 256 + y), ih (0 * 256 + y)]
      rw [Int.pow_succ, Int.add_mul, Int.mul_assoc, Int.mul_comm 256]
      simp [Int.add_assoc]
  unfold val
  rw [List.foldl_append, this b]

theorem pow_256 (n : Nat) : (256 : Int) ^ n = 2 ^ (8 * n) := by
  rw [Int.pow_mul]; rfl

theorem val_field (bs : List Int) (m n : Nat) (h : m + n ≤ bs.length) (ho : Oct bs) :
    val (bs.take (m + n)) = val (bs.take m) * 2 ^ (8 * n) + val ((bs.drop m).take n) := by
  have e : bs.take (m + n) = bs.take m ++ (bs.drop m).take n := by rw [List.take_add]
  have hl : ((bs.drop m).take n).length = n := by simp; omega
  rw [e, val_append, hl, pow_256]

theorem val_lt2 {bs : List Int} (h : Oct bs) : val bs < 2 ^ (8 * bs.length) := by
  have := val_lt h
  rwa [pow_256] at this

theorem val_u64 {bs : List Int} (h : Oct bs) (h8 : bs.length ≤ 8) : val bs < 18446744073709551616 := by
  have h1 := val_lt h
  have h2 : (256 : Int) ^ bs.length ≤ 256 ^ 8 := by
    have h := Nat.pow_le_pow_right (n := 256) (by omega) h8
    rw [show (256 : Int) = ((256 : Nat) : Int) from rfl, ← Int.natCast_pow, ← Int.natCast_pow]
    exact Int.ofNat_le.2 h
  have h3 : (256 : Int) ^ 8 = 18446744073709551616 := by decide
  omega

/-- One number shifted up by n bytes, and one that fits these, laid together: their sum. -/
theorem or_shift (V Y : Int) (n : Nat) (h0 : 0 ≤ V) (h1 : V * 2 ^ (8 * n) < 18446744073709551616) (h2 : 0 ≤ Y) (h3 : Y < 2 ^ (8 * n)) (h4 : Y < 18446744073709551616) : bits .or .u64 (V * 2 ^ (8 * n)) Y = V * 2 ^ (8 * n) + Y := by
  have hp : (0 : Int) ≤ 2 ^ (8 * n) := Int.pow_nonneg (by omega)
  have hm : 0 ≤ V * 2 ^ (8 * n) := Int.mul_nonneg h0 hp
  rw [u64_or _ _ hm h1 h2 h4]
  obtain ⟨v, rfl⟩ := Int.eq_ofNat_of_zero_le h0
  obtain ⟨y, rfl⟩ := Int.eq_ofNat_of_zero_le h2
  have e : ((v : Int) * 2 ^ (8 * n)) = ((v * 2 ^ (8 * n) : Nat) : Int) := by simp
  rw [e, Int.toNat_natCast, Int.toNat_natCast, nat_join (8 * n) _ _ (by simp) ?_]
  · simp
  · have e2 : ((2 : Int) ^ (8 * n)) = ((2 ^ (8 * n) : Nat) : Int) := by simp
    rw [e2] at h3
    exact Int.ofNat_lt.1 h3

/-- A field by its last byte. -/
theorem fld_last (k : Nat) (X : Int) : fld (k + 1) X = fld k (X / 256) ++ [X % 256] := by
  have := fld_snoc k (X / 256) (X % 256) (by omega) (by omega)
  rw [show X / 256 * 256 + X % 256 = X by omega] at this
  exact this

theorem fld_oct (m : Nat) (X : Int) : Oct (fld m X) := by
  intro b hb
  unfold fld at hb
  obtain ⟨i, _, rfl⟩ := List.mem_map.1 hb
  omega

theorem val_fld (m : Nat) : ∀ X : Nat, val (fld m X) = ((X % 256 ^ m : Nat) : Int) := by
  induction m with
  | zero => intro X; simp [fld, val, Nat.mod_one]
  | succ m ih =>
    intro X
    rw [fld_last, val_snoc, show ((X : Int) / 256) = ((X / 256 : Nat) : Int) by omega, ih, Nat.pow_succ, Nat.mul_comm (256 ^ m), Nat.mod_mul]
    omega

theorem vali_val {bs : List Int} (h0 : 0 < bs.length) : vali bs = if bs.getD 0 0 < 128 then val bs else val bs - 256 ^ bs.length := by
  rcases bs with _ | ⟨a, l⟩
  · simp at h0
  · have e : ∀ (l : List Int) (x : Int), l.foldl (fun a b => a * 256 + b) x = x * 256 ^ l.length + l.foldl (fun a b => a * 256 + b) 0 := by
      intro l
      induction l with
      | nil => intro x; simp
      | cons y l ih =>
        intro x
        simp only [List.foldl_cons, List.length_cons]
        rw [ih (x * 256 + y), ih (0 * 256 + y)]
        rw [Int.pow_succ, Int.add_mul, Int.mul_assoc, Int.mul_comm 256]
        simp [Int.add_assoc]
    show List.foldl (fun a b => a * 256 + b) (sg a) l = if a < 128 then List.foldl (fun a b => a * 256 + b) (0 * 256 + a) l else List.foldl (fun a b => a * 256 + b) (0 * 256 + a) l - 256 ^ (l.length + 1)
    rw [e l (sg a), e l (0 * 256 + a)]
    unfold sg
    split
    · simp
    · rw [Int.pow_succ, Int.sub_mul, Int.mul_comm 256, Int.zero_mul, Int.zero_add]
      generalize a * 256 ^ l.length = q
      omega

theorem fld_head (m : Nat) (X : Int) (h : 0 < m) : (fld m X).getD 0 0 = X / 2 ^ (8 * (m - 1)) % 256 := by
  unfold fld
  simp [List.getD, h]

/-- The eight sizes, one by one. -/
theorem sizes {m : Nat} (h1 : 1 ≤ m) (h8 : m ≤ 8) : m = 1 ∨ m = 2 ∨ m = 3 ∨ m = 4 ∨ m = 5 ∨ m = 6 ∨ m = 7 ∨ m = 8 := by omega

/-- What is taken off again fits, and is what was put just if that fits. -/
theorem back_num (m : Nat) (X : Int) (h1 : 1 ≤ m) (h8 : m ≤ 8) (h0 : 0 ≤ X) (hX : X < 18446744073709551616) :
    fitsB m (val (fld m X)) = true ∧ (val (fld m X) == X) = fitsB m X := by
  obtain ⟨x, rfl⟩ := Int.eq_ofNat_of_zero_le h0
  have hs : sizeB (m : Int) = true := by unfold sizeB; simp; omega
  rw [val_fld]
  unfold fitsB
  rw [hs]
  rcases sizes h1 h8 with rfl | rfl | rfl | rfl | rfl | rfl | rfl | rfl <;> simp <;> (refine ⟨by omega, ?_⟩; rw [Bool.eq_iff_iff]; simp; omega)

/-- A number without a sign as one with: less 2^64, from 2^63 on. -/
def sgn (X : Int) : Int := if X < 9223372036854775808 then X else X - 18446744073709551616
theorem sgn_wrap (X : Int) (h0 : 0 ≤ X) (hX : X < 18446744073709551616) : wrap64 X = sgn X := by
  unfold wrap64 sgn
  split <;> omega
theorem sgn_bd (X : Int) (h0 : 0 ≤ X) (hX : X < 18446744073709551616) : -9223372036854775808 ≤ sgn X ∧ sgn X < 9223372036854775808 := by
  unfold sgn
  split <;> omega

theorem back_int (m : Nat) (X : Int) (h1 : 1 ≤ m) (h8 : m ≤ 8) (h0 : 0 ≤ X) (hX : X < 18446744073709551616) :
    fitsIntB m (vali (fld m X)) = true ∧ (vali (fld m X) == sgn X) = fitsIntB m (sgn X) := by
  obtain ⟨x, rfl⟩ := Int.eq_ofNat_of_zero_le h0
  have hs : sizeB (m : Int) = true := by unfold sizeB; simp; omega
  rw [vali_val (by rw [fld_length]; omega), fld_head m _ (by omega), fld_length, val_fld]
  unfold fitsIntB
  rw [hs]
  have hb := sgn_bd x h0 hX
  have hsg : sgn x = if (x : Int) < 9223372036854775808 then (x : Int) else x - 18446744073709551616 := rfl
  generalize sgn x = y at *
  rcases sizes h1 h8 with rfl | rfl | rfl | rfl | rfl | rfl | rfl | rfl <;> simp <;> split at hsg <;> split <;> (refine ⟨by omega, ?_⟩; rw [Bool.eq_iff_iff]; simp; omega)

theorem vali_i64 {bs : List Int} (h : Oct bs) (h0 : 0 < bs.length) (h8 : bs.length ≤ 8) : -9223372036854775808 ≤ vali bs ∧ vali bs < 9223372036854775808 := by
  have h1 := vali_bd h h0
  have h2 : (256 : Int) ^ (bs.length - 1) ≤ 256 ^ 7 := by
    have h := Nat.pow_le_pow_right (n := 256) (by omega) (show bs.length - 1 ≤ 7 by omega)
    rw [show (256 : Int) = ((256 : Nat) : Int) from rfl, ← Int.natCast_pow, ← Int.natCast_pow]
    exact Int.ofNat_le.2 h
  have h3 : (256 : Int) ^ 7 = 72057594037927936 := by decide
  omega

/-- The highest bit of a byte turned. -/
def flip (h : Int) : Int := if h < 128 then h + 128 else h - 128
theorem flip_nat : ∀ h : Fin 256, h.val ^^^ 128 = if h.val < 128 then h.val + 128 else h.val - 128 := by decide +kernel
theorem flip_bits (h : Int) (h0 : 0 ≤ h) (h1 : h < 256) : bits .xor .u8 h 128 = flip h := by
  obtain ⟨n, rfl⟩ := Int.eq_ofNat_of_zero_le h0
  rw [u8_xor _ _ h0 h1 (by omega) (by omega)]
  have := flip_nat ⟨n, by omega⟩
  simp only at this
  show ((n ^^^ 128 : Nat) : Int) = _
  rw [this]
  unfold flip
  split <;> split <;> omega
theorem flip_oct (h : Int) (h0 : 0 ≤ h) (h1 : h < 256) : 0 ≤ flip h ∧ flip h < 256 := by unfold flip; split <;> omega

theorem val_set {bs : List Int} (h : Int) (h0 : 0 < bs.length) : val (bs.set 0 h) = val bs + (h - bs.getD 0 0) * 256 ^ (bs.length - 1) := by
  rcases bs with _ | ⟨x, l⟩
  · simp at h0
  · have e1 := val_append [h] l
    have e2 := val_append [x] l
    simp only [List.singleton_append] at e1 e2
    show val (h :: l) = val (x :: l) + (h - x) * 256 ^ l.length
    rw [e1, e2, Int.sub_mul]
    simp [val]
    omega

/-- A number with a sign whose field has its highest bit turned stands so much higher. -/
theorem flip_val (m : Nat) (y : Int) (h1 : 1 ≤ m) (h8 : m ≤ 8) (hb : -9223372036854775808 ≤ y ∧ y < 9223372036854775808) (hf : fitsIntB m y = true) :
    val ((fld m (unsg y)).set 0 (flip ((fld m (unsg y)).getD 0 0))) = y + 128 * 256 ^ (m - 1) := by
  have hu0 := unsg_ge y
  have hu1 := unsg_lt y
  have hu := unsg_eq y
  rw [val_set _ (by rw [fld_length]; omega), fld_head m _ (by omega), fld_length]
  obtain ⟨u, hu'⟩ := Int.eq_ofNat_of_zero_le hu0
  rw [hu'] at hu hu1 ⊢
  rw [val_fld]
  unfold fitsIntB at hf
  have hs : sizeB (m : Int) = true := by unfold sizeB; simp; omega
  rw [hs] at hf
  unfold flip
  rcases sizes h1 h8 with rfl | rfl | rfl | rfl | rfl | rfl | rfl | rfl <;> simp at hf ⊢ <;> split <;> omega

end Go.Proofs.Ythbpnngfdpdjkaa
