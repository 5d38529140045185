/-
  MskMath, MskA, MskB, MskC, MskD, MskE, MskEq, MskF, MskG, MskH, MskO, MskRel, MskHas.
-/
import Derived.Laws.BitsAllLaws
import Derived.Laws.Bits64b
import Derived.Test.YtcekgllahlhaaaaGreatDoorMVec
import Derived.ChangeKeysEq
import Derived.Deep.RegionHeld3
import Derived.Orders
import Derived.Below
namespace Go.Proofs.YtcekgllahlhaaaaGreatDoor
namespace MskL
open Go
set_option linter.unusedVariables false
set_option linter.unusedSimpArgs false

/-- The word of which the bits below k are those of f. -/
def wd (f : Nat → Bool) : Nat → Nat
  | 0 => 0
  | k + 1 => wd f k + (if f k then 2 ^ k else 0)
theorem wd_lt (f : Nat → Bool) : ∀ k, wd f k < 2 ^ k
  | 0 => by simp [wd]
  | k + 1 => by
    have := wd_lt f k
    unfold wd
    rw [Nat.pow_succ]
    split <;> omega
theorem wd_bit (f : Nat → Bool) : ∀ k i, (wd f k).testBit i = (decide (i < k) && f i)
  | 0, i => by simp [wd]
  | k + 1, i => by
    have ih := wd_bit f k
    have hl := wd_lt f k
    unfold wd
    cases hf : f k with
    | false =>
      have hz : (if (false : Bool) = true then 2 ^ k else 0) = 0 := rfl
      rw [hz, Nat.add_zero, ih]
      by_cases h : i = k
      · subst h; simp [hf]
      · have : decide (i < k) = decide (i < k + 1) := by simp; omega
        rw [this]
    | true =>
      have hz : (if (true : Bool) = true then 2 ^ k else 0) = 2 ^ k := rfl
      rw [hz, Nat.add_comm]
      rcases Nat.lt_trichotomy i k with h | h | h
      · rw [Nat.testBit_two_pow_add_gt h, ih]
        have : decide (i < k) = decide (i < k + 1) := by simp; omega
        rw [this]
      · subst h
        rw [Nat.testBit_two_pow_add_eq, ih]
        simp [hf]
      · rw [Nat.testBit_lt_two_pow (Nat.lt_of_lt_of_le (show 2 ^ k + wd f k < 2 ^ (k + 1) by rw [Nat.pow_succ]; omega) (Nat.pow_le_pow_right (by decide) h))]
        have : ¬ i < k + 1 := by omega
        simp [this]

/-- A mask as two words. -/
abbrev Mk := Nat × Nat
def has (m : Mk) (n : Nat) : Bool := if n < 64 then m.1.testBit n else decide (n < 96) && m.2.testBit (n - 64)
def mk (f : Nat → Bool) : Mk := (wd f 64, wd (fun j => f (64 + j)) 32)
def Fine (m : Mk) : Prop := m.1 < 18446744073709551616 ∧ m.2 < 18446744073709551616
theorem has_mk (f : Nat → Bool) (n : Nat) : has (mk f) n = (decide (n < 96) && f n) := by
  unfold has mk
  by_cases h : n < 64
  · have h2 : n < 96 := by omega
    simp [h, h2, wd_bit]
  · have h2 : decide (n - 64 < 32) = decide (n < 96) := by simp; omega
    have h3 : 64 + (n - 64) = n := by omega
    simp only [h, if_false, wd_bit, h3, h2]
    cases decide (n < 96) <;> rfl
theorem has_lt {m : Mk} {n : Nat} (h : has m n = true) : n < 96 := by
  unfold has at h
  split at h
  · omega
  · simp at h; exact h.1
theorem has_ge {m : Mk} {n : Nat} (h : 96 ≤ n) : has m n = false := by
  cases e : has m n with
  | false => rfl
  | true => have := has_lt e; omega
theorem wd_congr {f g : Nat → Bool} : ∀ {k : Nat}, (∀ n, n < k → f n = g n) → wd f k = wd g k
  | 0, _ => rfl
  | k + 1, h => by unfold wd; rw [wd_congr (fun n hn => h n (by omega)), h k (by omega)]
theorem mk_congr {f g : Nat → Bool} (h : ∀ n, n < 96 → f n = g n) : mk f = mk g := by
  unfold mk
  rw [wd_congr (fun n hn => h n (by omega)), wd_congr (f := fun j => f (64 + j)) (g := fun j => g (64 + j)) (fun n hn => h (64 + n) (by omega))]
theorem mk_has (f : Nat → Bool) : mk (has (mk f)) = mk f := mk_congr (fun n hn => by rw [has_mk]; simp [hn])
theorem mk_inj {f g : Nat → Bool} (h : mk f = mk g) (n : Nat) (hn : n < 96) : f n = g n := by
  have := congrArg (fun m => has m n) h
  simp only [has_mk, hn, decide_true, Bool.true_and] at this
  exact this
theorem mk_iff {f g : Nat → Bool} : mk f = mk g ↔ ∀ n, n < 96 → f n = g n := ⟨mk_inj, mk_congr⟩
theorem wd_lt64 (f : Nat → Bool) : wd f 64 < 18446744073709551616 := wd_lt f 64
theorem mk_fine (f : Nat → Bool) : Fine (mk f) := ⟨wd_lt f 64, Nat.lt_trans (wd_lt _ 32) (by decide)⟩
/-- Two words by their bits. -/
theorem mk_words {f : Nat → Bool} {a b : Nat} (ha : a < 18446744073709551616) (h0 : ∀ i, i < 64 → a.testBit i = f i) (h1 : ∀ i, i < 32 → b.testBit i = f (64 + i)) : (a, b % 4294967296) = mk f := by
  unfold mk
  have ea : a = wd f 64 := by
    apply Nat.eq_of_testBit_eq
    intro i
    rw [wd_bit]
    by_cases h : i < 64
    · rw [h0 i h]; simp [h]
    · rw [Nat.testBit_lt_two_pow (Nat.lt_of_lt_of_le (show a < 2 ^ 64 by omega) (Nat.pow_le_pow_right (by decide) (by omega)))]
      simp [h]
  have eb : b % 4294967296 = wd (fun j => f (64 + j)) 32 := by
    apply Nat.eq_of_testBit_eq
    intro i
    rw [wd_bit, show (4294967296 : Nat) = 2 ^ 32 from rfl, Nat.testBit_mod_two_pow]
    by_cases h : i < 32
    · rw [h1 i h]
    · simp [h]
  rw [← ea, ← eb]
theorem has0 (m : Mk) (i : Nat) (h : i < 64) : has m i = m.1.testBit i := by unfold has; rw [if_pos h]
theorem has1 (m : Mk) (i : Nat) (h : i < 32) : has m (64 + i) = m.2.testBit i := by
  unfold has
  have h1 : ¬ (64 + i < 64) := by omega
  have h2 : 64 + i < 96 := by omega
  have h3 : 64 + i - 64 = i := by omega
  rw [if_neg h1, h3]; simp [h2]

/-- The bits below n, of a word. -/
theorem low_bit (n i : Nat) (hn : n ≤ 64) (hi : i < 64) : (18446744073709551615 / 2 ^ (64 - n)).testBit i = decide (i < n) := by
  rw [Nat.testBit_div_two_pow, show (18446744073709551615 : Nat) = 2 ^ 64 - 1 from rfl, Nat.testBit_two_pow_sub_one]
  simp
  omega
theorem low_lt (n : Nat) : 18446744073709551615 / 2 ^ (64 - n) < 18446744073709551616 := Nat.lt_of_le_of_lt (Nat.div_le_self _ _) (by decide)
theorem not_bit (b i : Nat) (hb : b < 18446744073709551616) (hi : i < 64) : (18446744073709551615 - b).testBit i = !b.testBit i := by
  have e : 18446744073709551615 - b = 2 ^ 64 - (b + 1) := by omega
  rw [e, Nat.testBit_two_pow_sub_succ (show b < 2 ^ 64 by omega)]
  simp [hi]
theorem xor_bit (b i : Nat) (hi : i < 64) : (18446744073709551615 ^^^ b).testBit i = !b.testBit i := by
  rw [Nat.testBit_xor, show (18446744073709551615 : Nat) = 2 ^ 64 - 1 from rfl, Nat.testBit_two_pow_sub_one]
  simp [hi]
theorem full_bit (i : Nat) (hi : i < 64) : (18446744073709551615 : Nat).testBit i = true := by
  rw [show (18446744073709551615 : Nat) = 2 ^ 64 - 1 from rfl, Nat.testBit_two_pow_sub_one]
  simp [hi]

/-- How many are in a set of slots below k. -/
def cnt (f : Nat → Bool) (k : Nat) : Nat := ((List.range k).filter f).length
def slots (m : Mk) : List Nat := (List.range 96).filter (has m)
theorem cnt_succ (f : Nat → Bool) (k : Nat) : cnt f (k + 1) = cnt f k + (if f k then 1 else 0) := by
  unfold cnt
  rw [List.range_succ, List.filter_append, List.length_append]
  cases h : f k <;> simp [h]
theorem cnt_le (f : Nat → Bool) (k : Nat) : cnt f k ≤ k := by
  unfold cnt
  exact Nat.le_trans (List.length_filter_le _ _) (by simp)
theorem cnt_congr {f g : Nat → Bool} : ∀ {k : Nat}, (∀ n, n < k → f n = g n) → cnt f k = cnt g k
  | 0, _ => rfl
  | k + 1, h => by rw [cnt_succ, cnt_succ, cnt_congr (fun n hn => h n (by omega)), h k (by omega)]
theorem cnt_add (f : Nat → Bool) (j : Nat) : ∀ k, cnt f (j + k) = cnt f j + cnt (fun i => f (j + i)) k
  | 0 => by simp [cnt]
  | k + 1 => by rw [← Nat.add_assoc, cnt_succ, cnt_add f j k, cnt_succ, Nat.add_assoc]

/-- Bits of a word, counted from below. -/
def popA : Nat → Nat → Nat
  | 0, _ => 0
  | f + 1, x => x % 2 + popA f (x / 2)
theorem pop_cnt (x : Nat) : ∀ k, popA k x = cnt x.testBit k := by
  have h : ∀ k x, popA k x = cnt x.testBit k := by
    intro k
    induction k with
    | zero => intro x; rfl
    | succ k ih =>
      intro x
      unfold popA
      rw [ih, Nat.add_comm k 1, cnt_add, cnt_succ]
      have e : (fun i => x.testBit (1 + i)) = (x / 2).testBit := by funext i; rw [Nat.add_comm, Nat.testBit_succ]
      rw [e]
      have e0 : x.testBit 0 = decide (x % 2 = 1) := Nat.testBit_zero x
      rw [e0]
      simp only [cnt, List.range_zero, List.filter_nil, List.length_nil, Nat.zero_add]
      by_cases h2 : x % 2 = 1
      · simp [h2]
      · simp [h2]; omega
  exact fun k => h k x
theorem pop_low (k x : Nat) : popA k x = popA k (x % 2 ^ k) := by
  rw [pop_cnt, pop_cnt]
  exact cnt_congr (fun n hn => by rw [Nat.testBit_mod_two_pow]; simp [hn])

/-- One byte behind another. -/
theorem and_byte (a m x M : Nat) (ha : a < 256) (hm : m < 256) : (a + 256 * x) &&& (m + 256 * M) = (a &&& m) + 256 * (x &&& M) := by
  have h : a &&& m < 256 := Nat.and_lt_two_pow (n := 8) _ hm
  apply Nat.eq_of_testBit_eq
  intro i
  have e1 : ∀ (b y : Nat), b < 256 → (b + 256 * y).testBit i = if i < 8 then b.testBit i else y.testBit (i - 8) := by
    intro b y hb
    rw [Nat.add_comm, show (256 : Nat) = 2 ^ 8 from rfl, Nat.testBit_two_pow_mul_add _ (show b < 2 ^ 8 from hb)]
  rw [Nat.testBit_and, e1 a x ha, e1 m M hm, e1 _ _ h]
  split <;> rw [Nat.testBit_and]
/-- A mask of k bytes. -/
def rep (m : Nat) : Nat → Nat
  | 0 => 0
  | k + 1 => m + 256 * rep m k
/-- A word of bytes. -/
def byt : List Nat → Nat
  | [] => 0
  | a :: l => a + 256 * byt l
def s1 (a : Nat) : Nat := (a / 2 &&& 85) + (a &&& 85)
def s2 (a : Nat) : Nat := (a / 4 &&& 51) + (a &&& 51)
def s3 (a : Nat) : Nat := (a / 16 + a) &&& 15
theorem and85 : ∀ a : Fin 256, ((a.val / 2 + 128) &&& 85) = (a.val / 2 &&& 85) := by decide +kernel
theorem and51 : ∀ (a : Fin 256) (b : Fin 4), ((a.val / 4 + 64 * b.val) &&& 51) = (a.val / 4 &&& 51) := by decide +kernel
theorem s1_lt : ∀ a : Fin 256, s1 a.val < 256 := by decide +kernel
theorem s2_lt : ∀ a : Fin 256, s2 (s1 a.val) < 256 ∧ s2 (s1 a.val) % 16 ≤ 4 ∧ s2 (s1 a.val) / 16 ≤ 4 := by decide +kernel
theorem s3_eq : ∀ a : Fin 256, s3 (s2 (s1 a.val)) = popA 8 a.val ∧ popA 8 a.val ≤ 8 := by decide +kernel
theorem step1 : ∀ l : List Nat, (∀ a ∈ l, a < 256) → ((byt l / 2) &&& rep 85 l.length) + (byt l &&& rep 85 l.length) = byt (l.map s1)
  | [], _ => rfl
  | a :: l, h => by
    have ha : a < 256 := h a (by simp)
    have ih := step1 l (fun x hx => h x (by simp [hx]))
    simp only [byt, rep, List.length_cons, List.map_cons]
    have e : (a + 256 * byt l) / 2 = (a / 2 + 128 * (byt l % 2)) + 256 * (byt l / 2) := by omega
    rw [e, and_byte _ _ _ _ (by omega) (by decide), and_byte _ _ _ _ ha (by decide)]
    have e2 : (a / 2 + 128 * (byt l % 2)) &&& 85 = a / 2 &&& 85 := by
      rcases Nat.mod_two_eq_zero_or_one (byt l) with h | h
      · rw [h]; rfl
      · rw [h]; exact and85 ⟨a, ha⟩
    rw [e2, ← ih]
    unfold s1
    omega
theorem step2 : ∀ l : List Nat, (∀ a ∈ l, a < 256) → ((byt l / 4) &&& rep 51 l.length) + (byt l &&& rep 51 l.length) = byt (l.map s2)
  | [], _ => rfl
  | a :: l, h => by
    have ha : a < 256 := h a (by simp)
    have ih := step2 l (fun x hx => h x (by simp [hx]))
    simp only [byt, rep, List.length_cons, List.map_cons]
    have e : (a + 256 * byt l) / 4 = (a / 4 + 64 * (byt l % 4)) + 256 * (byt l / 4) := by omega
    rw [e, and_byte _ _ _ _ (by omega) (by decide), and_byte _ _ _ _ ha (by decide)]
    have e2 : (a / 4 + 64 * (byt l % 4)) &&& 51 = a / 4 &&& 51 := and51 ⟨a, ha⟩ ⟨byt l % 4, by omega⟩
    rw [e2, ← ih]
    unfold s2
    omega
theorem byt_mod16 : ∀ l : List Nat, (∀ a ∈ l, a % 16 ≤ 4) → byt l % 16 ≤ 4
  | [], _ => by simp [byt]
  | a :: l, h => by have := h a (by simp); simp only [byt]; omega
theorem step3 : ∀ l : List Nat, (∀ a ∈ l, a < 256 ∧ a % 16 ≤ 4 ∧ a / 16 ≤ 4) → ((byt l / 16 + byt l) &&& rep 15 l.length) = byt (l.map s3)
  | [], _ => rfl
  | a :: l, h => by
    obtain ⟨ha, h1, h2⟩ := h a (by simp)
    have ih := step3 l (fun x hx => h x (by simp [hx]))
    have hm := byt_mod16 l (fun x hx => (h x (by simp [hx])).2.1)
    simp only [byt, rep, List.length_cons, List.map_cons]
    have e : (a + 256 * byt l) / 16 + (a + 256 * byt l) = (a / 16 + a + 16 * (byt l % 16)) + 256 * (byt l / 16 + byt l) := by omega
    rw [e, and_byte _ _ _ _ (by omega) (by decide), ih]
    unfold s3
    have e3 : ∀ z : Nat, z &&& 15 = z % 16 := nat_mask4
    rw [e3, e3]
    omega
/-- A word as eight bytes. -/
def b8 (x : Nat) : List Nat := [x % 256, x / 256 % 256, x / 65536 % 256, x / 16777216 % 256, x / 4294967296 % 256, x / 1099511627776 % 256, x / 281474976710656 % 256, x / 72057594037927936]
theorem b8_eq (x : Nat) : byt (b8 x) = x := by
  simp only [b8, byt]
  omega
theorem b8_lt (x : Nat) (h : x < 18446744073709551616) : ∀ a ∈ b8 x, a < 256 := by
  intro a ha
  simp only [b8, List.mem_cons, List.not_mem_nil, or_false] at ha
  rcases ha with h | h | h | h | h | h | h | h <;> omega
theorem pop8 (x n : Nat) : popA (8 + n) x = popA 8 (x % 256) + popA n (x / 256) := by
  rw [← pop_low 8 x, pop_cnt, pop_cnt, pop_cnt, cnt_add]
  congr 1
  exact cnt_congr (fun i _ => by rw [show (256 : Nat) = 2 ^ 8 from rfl, Nat.testBit_div_two_pow, Nat.add_comm])
theorem pop64 (x : Nat) (h : x < 18446744073709551616) : popA 64 x = ((b8 x).map (popA 8)).foldr (· + ·) 0 := by
  have e7 : x / 72057594037927936 = x / 72057594037927936 % 256 := by omega
  rw [show 64 = 8 + 56 from rfl, pop8, show 56 = 8 + 48 from rfl, pop8, show 48 = 8 + 40 from rfl, pop8, show 40 = 8 + 32 from rfl, pop8, show 32 = 8 + 24 from rfl, pop8, show 24 = 8 + 16 from rfl, pop8, show 16 = 8 + 8 from rfl, pop8, show popA 8 (x / 256 / 256 / 256 / 256 / 256 / 256 / 256) = popA 8 (x / 72057594037927936) from by simp only [Nat.div_div_eq_div_mul]]
  simp only [b8, List.map_cons, List.map_nil, List.foldr_cons, List.foldr_nil, Nat.div_div_eq_div_mul, Nat.add_zero]
/-- The last three steps: the bytes are summed. -/
theorem div_at (k x r R : Nat) (hr : r < k) (h : x = r + k * R) : x / k = R := by
  rw [h, Nat.add_mul_div_left _ _ (Nat.lt_of_le_of_lt (Nat.zero_le _) hr), Nat.div_eq_of_lt hr, Nat.zero_add]
theorem byt_add : ∀ l k : List Nat, l.length = k.length → byt l + byt k = byt (List.zipWith (· + ·) l k)
  | [], [], _ => rfl
  | a :: l, b :: k, h => by
    have ih := byt_add l k (by simpa using h)
    simp only [byt, List.zipWith_cons_cons]
    omega
theorem byt_lt : ∀ (l : List Nat) (n : Nat), 256 ^ l.length = n → (∀ a ∈ l, a < 256) → byt l < n
  | [], n, hn, _ => by subst hn; simp [byt]
  | a :: l, n, hn, h => by
    have ih := byt_lt l _ rfl (fun x hx => h x (by simp [hx]))
    have ha := h a (by simp)
    subst hn
    simp only [byt, List.length_cons, Nat.pow_succ]
    omega
theorem byt_le (c : Nat) : ∀ l : List Nat, (∀ a ∈ l, a ≤ c) → byt l ≤ c * rep 1 l.length
  | [], _ => by simp [byt, rep]
  | a :: l, h => by
    have ih := byt_le c l (fun x hx => h x (by simp [hx]))
    have ha := h a (by simp)
    simp only [byt, rep, List.length_cons, Nat.mul_add, Nat.mul_one]
    have e : c * (256 * rep 1 l.length) = 256 * (c * rep 1 l.length) := Nat.mul_left_comm ..
    omega
theorem byt_app (k : List Nat) : ∀ l : List Nat, byt (l ++ k) = byt l + 256 ^ l.length * byt k
  | [] => by simp [byt]
  | a :: l => by
    have ih := byt_app k l
    simp only [byt, List.cons_append, List.length_cons, ih, Nat.pow_succ, Nat.mul_add]
    have e : 256 * (256 ^ l.length * byt k) = 256 ^ l.length * 256 * byt k := by rw [Nat.mul_comm (256 ^ l.length) 256, Nat.mul_assoc]
    omega
theorem byt_div (l k : List Nat) (n : Nat) (hn : 256 ^ l.length = n) (h : ∀ a ∈ l, a < 256) : byt (l ++ k) / n = byt k :=
  div_at n _ _ _ (byt_lt l n hn h) (by rw [byt_app, hn])
theorem sum8 (a b c d e f g h : Nat) (ha : a ≤ 8) (hb : b ≤ 8) (hc : c ≤ 8) (hd : d ≤ 8) (he : e ≤ 8) (hf : f ≤ 8) (hg : g ≤ 8) (hh : h ≤ 8) (X Y Z : Nat)
    (hX : X = byt [a, b, c, d, e, f, g, h] + byt [a, b, c, d, e, f, g, h] / 256) (hY : Y = X + X / 65536) (hZ : Z = Y + Y / 4294967296) : Z < 18446744073709551616 ∧ X < 18446744073709551616 ∧ Y < 18446744073709551616 ∧ Z % 128 = a + b + c + d + e + f + g + h := by
  have n8 : ∀ l : List Nat, l.length = 8 → 256 ^ l.length = 18446744073709551616 := fun l hl => by rw [hl]
  have e2 : byt [a, b, c, d, e, f, g, h] / 256 = byt [b, c, d, e, f, g, h] := byt_div [a] [b, c, d, e, f, g, h] 256 (by simp) (by simp; omega)
  have x1 : X = byt [a + b, b + c, c + d, d + e, e + f, f + g, g + h, h] := by rw [hX, e2, show byt [b, c, d, e, f, g, h] = byt [b, c, d, e, f, g, h, 0] from rfl, byt_add _ _ (by rfl)]; rfl
  have x2 : X / 65536 = byt [c + d, d + e, e + f, f + g, g + h, h] := by rw [x1]; exact byt_div [a + b, b + c] _ 65536 (by simp) (by simp; omega)
  have y1 : Y = byt [a + b + (c + d), b + c + (d + e), c + d + (e + f), d + e + (f + g), e + f + (g + h), f + g + h, g + h, h] := by rw [hY, x2, x1, show byt [c + d, d + e, e + f, f + g, g + h, h] = byt [c + d, d + e, e + f, f + g, g + h, h, 0, 0] from rfl, byt_add _ _ (by rfl)]; rfl
  have y2 : Y / 4294967296 = byt [e + f + (g + h), f + g + h, g + h, h] := by rw [y1]; exact byt_div [a + b + (c + d), b + c + (d + e), c + d + (e + f), d + e + (f + g)] _ 4294967296 (by simp) (by simp; omega)
  have z1 : Z = byt [a + b + (c + d) + (e + f + (g + h)), b + c + (d + e) + (f + g + h), c + d + (e + f) + (g + h), d + e + (f + g) + h, e + f + (g + h), f + g + h, g + h, h] := by rw [hZ, y2, y1, show byt [e + f + (g + h), f + g + h, g + h, h] = byt [e + f + (g + h), f + g + h, g + h, h, 0, 0, 0, 0] from rfl, byt_add _ _ (by rfl)]; rfl
  clear hX hY hZ e2 x2 y2
  refine ⟨?_, ?_, ?_, ?_⟩
  · rw [z1]; exact byt_lt _ _ (n8 _ rfl) (by simp; omega)
  · rw [x1]; exact byt_lt _ _ (n8 _ rfl) (by simp; omega)
  · rw [y1]; exact byt_lt _ _ (n8 _ rfl) (by simp; omega)
  · obtain ⟨R, hR⟩ : ∃ R, R = byt [b + c + (d + e) + (f + g + h), c + d + (e + f) + (g + h), d + e + (f + g) + h, e + f + (g + h), f + g + h, g + h, h] := ⟨_, rfl⟩
    have z2 : Z = a + b + (c + d) + (e + f + (g + h)) + 256 * R := by rw [z1, hR]; rfl
    clear z1 x1 y1 hR
    omega

/-- OnesCount64, step by step. -/
theorem ones_steps (x : Nat) (hx : x < 18446744073709551616) (x1 x2 x3 X Y Z : Nat)
    (h1 : x1 = (x / 2 &&& 6148914691236517205) + (x &&& 6148914691236517205)) (h2 : x2 = (x1 / 4 &&& 3689348814741910323) + (x1 &&& 3689348814741910323))
    (h3 : x3 = (x2 / 16 + x2) &&& 1085102592571150095) (hX : X = x3 + x3 / 256) (hY : Y = X + X / 65536) (hZ : Z = Y + Y / 4294967296) :
    x1 < 18446744073709551616 ∧ x2 < 18446744073709551616 ∧ x2 / 16 + x2 < 18446744073709551616 ∧ x3 < 18446744073709551616 ∧ X < 18446744073709551616 ∧ Y < 18446744073709551616 ∧ Z < 18446744073709551616 ∧ Z % 128 = cnt x.testBit 64 := by
  have hb := b8_lt x hx
  have e0 := b8_eq x
  have l0 : (b8 x).length = 8 := rfl
  have e1 : x1 = byt ((b8 x).map s1) := by
    have := step1 (b8 x) hb
    rw [e0, l0] at this
    rw [h1, ← this]; rfl
  have hb1 : ∀ a ∈ (b8 x).map s1, a < 256 := by
    intro a ha
    obtain ⟨c, hc, rfl⟩ := List.mem_map.1 ha
    exact s1_lt ⟨c, hb c hc⟩
  have e2 : x2 = byt (((b8 x).map s1).map s2) := by
    have := step2 _ hb1
    rw [← e1, List.length_map, l0] at this
    rw [h2, ← this]; rfl
  have hb2 : ∀ a ∈ ((b8 x).map s1).map s2, a < 256 ∧ a % 16 ≤ 4 ∧ a / 16 ≤ 4 := by
    intro a ha
    obtain ⟨c, hc, rfl⟩ := List.mem_map.1 ha
    obtain ⟨d, hd, rfl⟩ := List.mem_map.1 hc
    exact s2_lt ⟨d, hb d hd⟩
  have e3 : x3 = byt ((((b8 x).map s1).map s2).map s3) := by
    have := step3 _ hb2
    rw [← e2, List.length_map, List.length_map, l0] at this
    rw [h3, ← this]; rfl
  have e4 : (((b8 x).map s1).map s2).map s3 = (b8 x).map (popA 8) := by
    rw [List.map_map, List.map_map]
    exact List.map_congr_left (fun a ha => (s3_eq ⟨a, hb a ha⟩).1)
  rw [e4] at e3
  have hle : ∀ a ∈ b8 x, popA 8 a ≤ 8 := fun a ha => (s3_eq ⟨a, hb a ha⟩).2
  have hp := pop64 x hx
  have n8 : ∀ l : List Nat, l.length = 8 → 256 ^ l.length = 18446744073709551616 := fun l hl => by rw [hl]
  have b1 : x1 < 18446744073709551616 := by rw [e1]; exact byt_lt _ _ (n8 _ rfl) hb1
  have b2 : x2 < 18446744073709551616 := by rw [e2]; exact byt_lt _ _ (n8 _ rfl) (fun a ha => (hb2 a ha).1)
  have b22 : x2 ≤ 68 * 72340172838076673 := by
    have h8 := byt_le 68 _ (fun a ha => show a ≤ 68 by have := hb2 a ha; omega)
    have er : rep 1 8 = 72340172838076673 := by simp [rep]
    rw [← e2, List.length_map, List.length_map, l0, er] at h8
    exact h8
  have b3 : x3 < 18446744073709551616 := by
    rw [h3]
    exact Nat.lt_of_le_of_lt Nat.and_le_right (by decide)
  have he : x3 = byt [popA 8 (x % 256), popA 8 (x / 256 % 256), popA 8 (x / 65536 % 256), popA 8 (x / 16777216 % 256), popA 8 (x / 4294967296 % 256), popA 8 (x / 1099511627776 % 256), popA 8 (x / 281474976710656 % 256), popA 8 (x / 72057594037927936)] := e3
  have hs := sum8 _ _ _ _ _ _ _ _ (hle (x % 256) (by simp [b8])) (hle (x / 256 % 256) (by simp [b8])) (hle (x / 65536 % 256) (by simp [b8])) (hle (x / 16777216 % 256) (by simp [b8])) (hle (x / 4294967296 % 256) (by simp [b8])) (hle (x / 1099511627776 % 256) (by simp [b8])) (hle (x / 281474976710656 % 256) (by simp [b8])) (hle (x / 72057594037927936) (by simp [b8])) X Y Z (by rw [hX, he]) hY hZ
  have b4 : x2 / 16 + x2 < 18446744073709551616 := by clear e1 e2 e3 he h1 h2 h3 hX hY hZ hs; omega
  refine ⟨b1, b2, b4, b3, hs.2.1, hs.2.2.1, hs.1, ?_⟩
  rw [hs.2.2.2, ← pop_cnt, hp]
  simp only [b8, List.map_cons, List.map_nil, List.foldr_cons, List.foldr_nil]
  omega

end MskL
end Go.Proofs.YtcekgllahlhaaaaGreatDoor

namespace Go.Proofs.YtcekgllahlhaaaaGreatDoor
namespace MskL
open Go.RowKit Go.Shelf
set_option linter.unusedVariables false
set_option linter.unusedSimpArgs false
set_option maxRecDepth 100000

/-- How many bits n asks for. -/
def clamp (n : Int) : Nat := (min (max n 0) 64).toNat
def lowW (n : Int) : Nat := 18446744073709551615 / 2 ^ (64 - clamp n)
theorem lowW_eq (n : Int) : (18446744073709551615 : Int) / 2 ^ (64 - min (max n 0) 64).toNat = (lowW n : Nat) := by
  unfold lowW clamp
  have e : (64 - min (max n 0) 64).toNat = 64 - (min (max n 0) 64).toNat := by omega
  rw [e]
  simp
theorem lowW_bit (n : Int) (i : Nat) (hi : i < 64) : (lowW n).testBit i = decide ((i : Int) < n) := by
  unfold lowW
  rw [low_bit _ _ (by unfold clamp; omega) hi]
  unfold clamp
  simp
  omega
theorem lowW_lt (n : Int) : lowW n < 18446744073709551616 := low_lt _
theorem lowW_96 : lowW 96 = 18446744073709551615 := rfl
theorem lowW_32 : lowW 32 = 4294967295 := rfl

set_option maxHeartbeats 400000 in
theorem lowest_any (n : Int) (w : World) (h : -9223372036854775808 ≤ n ∧ n ≤ 9223372036854775807) :
    Calls Tryz.prog 104 #[.int .i64 n] w fun e w' => e = .returned (.int .u64 (lowW n)) ∧ w = w' := by
  go_enter Tryz.func104, Tryz.ntmps104
  go_wp2
  go_ret
  refine ⟨?_, rfl⟩
  rw [← lowW_eq]
  rfl

def slotB (n : Int) : Bool := decide (0 ≤ n) && decide (n < 96)
theorem slotB_yes {n : Int} (h : slotB n = true) : 0 ≤ n ∧ n < 96 := by unfold slotB at h; simpa using h
theorem slotB_no {n : Int} (h : slotB n = false) : ¬ (0 ≤ n ∧ n < 96) := by
  unfold slotB at h
  intro ⟨h1, h2⟩
  simp [h1, h2] at h

theorem isSlot_any (n : Int) (w : World) (h : -9223372036854775808 ≤ n ∧ n ≤ 9223372036854775807) :
    Calls Tryz.prog 43 #[.int .i64 n] w fun e w' => e = .returned (.bool (slotB n)) ∧ w = w' := by
  by_cases h0 : 0 ≤ n
  · go_enter Tryz.func43, Tryz.ntmps43
    go_wp2
    go_ret
    refine ⟨?_, rfl⟩
    simp [slotB, h0]
  · have t0 : decide (0 ≤ n) = false := by simpa using h0
    go_enter Tryz.func43, Tryz.ntmps43
    go_wp2
    go_ret
    refine ⟨?_, rfl⟩
    simp [slotB, h0]
    omega

/-- A word of a mask. -/
def ww (i : Nat) (m : Mk) : Nat := if i = 0 then m.1 else m.2
theorem ww_lt {m : Mk} (h : Fine m) (i : Nat) : ww i m < 18446744073709551616 := by
  unfold ww
  split
  · exact h.1
  · exact h.2
/-- A mask in a block of its own. -/
def MBox (w : World) (g : Nat) (m : Mk) : Prop := w.cell? ⟨g, 0, none⟩ = some (.int .u64 m.1) ∧ w.cell? ⟨g, 1, none⟩ = some (.int .u64 m.2)
theorem MBox.lt {w : World} {g : Nat} {m : Mk} (h : MBox w g m) : g < w.heap.size := World.block_lt_of_cell? w _ h.1
theorem MBox.below {w w' : World} {g B : Nat} {m : Mk} (h : MBox w g m) (hb : Below B w w') (hg : g < B) : MBox w' g m := ⟨(hb.cell (p := ⟨g, 0, none⟩) hg).trans h.1, (hb.cell (p := ⟨g, 1, none⟩) hg).trans h.2⟩
def mv (m : Mk) : Value := .agg #[.int .u64 m.1, .int .u64 m.2]
theorem MBox.new (w : World) (m : Mk) (t : TypeId) : MBox (w.alloc (.cells #[.int .u64 m.1, .int .u64 m.2] t)) w.heap.size m := ⟨cell_new w _ t 0, cell_new w _ t 1⟩

set_option maxHeartbeats 400000 in
theorem clean1_any (i g : Nat) (m : Mk) (w : World) (hi : i < 2) (h : MBox w g m) :
    Calls Tryz.prog 115 #[.int .i64 i, .pointer (some ⟨g, 0, none⟩)] w fun e w' => e = .returned (.int .u64 (ww i m)) ∧ w = w' := by
  obtain ⟨h0, h1⟩ := h
  obtain ⟨a, b⟩ := m
  dsimp only at h0 h1
  have hi2 : i = 0 ∨ i = 1 := by omega
  rcases hi2 with rfl | rfl <;>
  · go_enter Tryz.func115, Tryz.ntmps115
    go_wp2
    go_ret
    exact ⟨rfl, rfl⟩

set_option maxHeartbeats 400000 in
theorem minus1_any (i g k : Nat) (m m2 : Mk) (w : World) (hi : i < 2) (h : MBox w g m) (h2 : MBox w k m2) (hm : Fine m) (hm2 : Fine m2) :
    Calls Tryz.prog 105 #[.int .i64 i, .pointer (some ⟨g, 0, none⟩), .pointer (some ⟨k, 0, none⟩)] w fun e w' => e = .returned (.int .u64 (ww i m &&& (18446744073709551615 - ww i m2) : Nat)) ∧ Below w.heap.size w w' := by
  obtain ⟨h0, h1⟩ := h
  obtain ⟨k0, k1⟩ := h2
  obtain ⟨a, b⟩ := m
  obtain ⟨c, d⟩ := m2
  have x1 := u64_andNot_nat a c hm.1 hm2.1
  have x2 := u64_andNot_nat b d hm.2 hm2.2
  dsimp only at h0 h1 k0 k1
  have hi2 : i = 0 ∨ i = 1 := by omega
  rcases hi2 with rfl | rfl <;>
  · go_enter Tryz.func105, Tryz.ntmps105
    go_wp2
    go_quiet (fail)
    go_wp2
    go_ret
    exact ⟨rfl, below_drewN (Below.refl _ _) _⟩

set_option maxHeartbeats 400000 in
theorem below1_any (i g : Nat) (n : Int) (w : World) (hi : i < 2) (h : w.cell? ⟨g, 0, none⟩ = some (.int .i64 n)) (hn : 0 ≤ n ∧ n ≤ 96) :
    Calls Tryz.prog 106 #[.int .i64 i, .pointer (some ⟨g, 0, none⟩)] w fun e w' => e = .returned (.int .u64 (lowW (n - 64 * i))) ∧ w = w' := by
  have hi2 : i = 0 ∨ i = 1 := by omega
  rcases hi2 with rfl | rfl
  · go_enter Tryz.func106, Tryz.ntmps106
    go_wp2_with fail
    refine (lowest_any _ _ (by omega)).mono ?_
    rintro e w' ⟨rfl, rfl⟩
    go_wp2
    go_ret
    exact ⟨by rw [show n - 64 * ((0 : Nat) : Int) = n by omega]; rfl, rfl⟩
  · go_enter Tryz.func106, Tryz.ntmps106
    go_wp2_with fail
    refine (lowest_any _ _ (by omega)).mono ?_
    rintro e w' ⟨rfl, rfl⟩
    go_wp2
    go_ret
    exact ⟨by rw [show n - 64 * ((1 : Nat) : Int) = n - 64 by omega]; rfl, rfl⟩
end MskL
end Go.Proofs.YtcekgllahlhaaaaGreatDoor

namespace Go.Proofs.YtcekgllahlhaaaaGreatDoor
namespace MskL
open Go.RowKit Go.Shelf
set_option linter.unusedVariables false
set_option linter.unusedSimpArgs false
set_option maxRecDepth 100000

/-- The masks l can be read at A. -/
structure Ms (w : World) (A : Option Addr) (c : Nat) (l : List Mk) : Prop where
  room : l.length ≤ c
  most : c ≤ 9223372036854775807
  rd : 0 < l.length → ∃ b o, A = some ⟨b, o, none⟩ ∧ b < w.heap.size ∧ ∀ j m, l[j]? = some m → w.cell? ⟨b, o + j * 2, none⟩ = some (.int .u64 m.1) ∧ w.cell? ⟨b, o + j * 2 + 1, none⟩ = some (.int .u64 m.2)
  fine : ∀ m ∈ l, Fine m
theorem Ms.below {w w' : World} {A : Option Addr} {c : Nat} {l : List Mk} (h : Ms w A c l) (hb : Below w.heap.size w w') : Ms w' A c l := by
  refine ⟨h.room, h.most, fun hp => ?_, h.fine⟩
  obtain ⟨b, o, e, hlt, hc⟩ := h.rd hp
  exact ⟨b, o, e, Nat.lt_of_lt_of_le hlt hb.size, fun j m hm => ⟨(hb.cell (p := ⟨b, o + j * 2, none⟩) hlt).trans (hc j m hm).1, (hb.cell (p := ⟨b, o + j * 2 + 1, none⟩) hlt).trans (hc j m hm).2⟩⟩
theorem Ms.nil (w : World) : Ms w none 0 [] := ⟨by simp, by omega, fun h => absurd h (by simp), by simp⟩
theorem Ms.at_ {w : World} {A : Option Addr} {c : Nat} {l : List Mk} (h : Ms w A c l) {k : Nat} (hk : k < l.length) : ∃ b o x y, A = some ⟨b, o, none⟩ ∧ b < w.heap.size ∧ l[k]? = some (x, y) ∧ x < 18446744073709551616 ∧ y < 18446744073709551616 ∧ w.cell? ⟨b, o + k * 2, none⟩ = some (.int .u64 x) ∧ w.cell? ⟨b, o + k * 2 + 1, none⟩ = some (.int .u64 y) := by
  obtain ⟨b, o, e, hb, hc⟩ := h.rd (by omega)
  have hm := List.getElem?_eq_getElem hk
  have hf := h.fine _ (List.getElem_mem hk)
  exact ⟨b, o, (l[k]).1, (l[k]).2, e, hb, hm, hf.1, hf.2, (hc k _ hm).1, (hc k _ hm).2⟩

def andW (i : Nat) (l : List Mk) : Nat := l.foldl (fun a m => a &&& ww i m) 18446744073709551615
def orW (i : Nat) (l : List Mk) : Nat := l.foldl (fun a m => a ||| ww i m) 0
theorem take_snoc {α : Type} (l : List α) {k : Nat} {x : α} (h : l[k]? = some x) : l.take (k + 1) = l.take k ++ [x] := by
  rw [List.take_add_one, h]; rfl
theorem andW_snoc (i : Nat) (l : List Mk) {k : Nat} {x : Mk} (h : l[k]? = some x) : andW i (l.take (k + 1)) = andW i (l.take k) &&& ww i x := by
  unfold andW; rw [take_snoc l h, List.foldl_append]; rfl
theorem orW_snoc (i : Nat) (l : List Mk) {k : Nat} {x : Mk} (h : l[k]? = some x) : orW i (l.take (k + 1)) = orW i (l.take k) ||| ww i x := by
  unfold orW; rw [take_snoc l h, List.foldl_append]; rfl
theorem and_foldl_lt (i : Nat) : ∀ (l : List Mk) (a : Nat), a < 18446744073709551616 → l.foldl (fun a m => a &&& ww i m) a < 18446744073709551616
  | [], a, h => h
  | m :: l, a, h => and_foldl_lt i l _ (Nat.lt_of_le_of_lt Nat.and_le_left h)
theorem or_foldl_lt (i : Nat) : ∀ (l : List Mk) (a : Nat), a < 18446744073709551616 → (∀ m ∈ l, Fine m) → l.foldl (fun a m => a ||| ww i m) a < 18446744073709551616
  | [], a, h, _ => h
  | m :: l, a, h, hf => or_foldl_lt i l _ (Nat.or_lt_two_pow (n := 64) h (ww_lt (hf m (by simp)) i)) (fun x hx => hf x (by simp [hx]))
theorem andW_lt (i : Nat) (l : List Mk) : andW i l < 18446744073709551616 := and_foldl_lt i l _ (by decide)
theorem orW_lt (i : Nat) {l : List Mk} (h : ∀ m ∈ l, Fine m) : orW i l < 18446744073709551616 := or_foldl_lt i l _ (by decide) h
theorem and_foldl_bit (i j : Nat) : ∀ (l : List Mk) (a : Nat), (l.foldl (fun a m => a &&& ww i m) a).testBit j = (a.testBit j && l.all (fun m => (ww i m).testBit j))
  | [], a => by simp
  | m :: l, a => by rw [List.foldl_cons, and_foldl_bit i j l, Nat.testBit_and, List.all_cons, Bool.and_assoc]
theorem or_foldl_bit (i j : Nat) : ∀ (l : List Mk) (a : Nat), (l.foldl (fun a m => a ||| ww i m) a).testBit j = (a.testBit j || l.any (fun m => (ww i m).testBit j))
  | [], a => by simp
  | m :: l, a => by rw [List.foldl_cons, or_foldl_bit i j l, Nat.testBit_or, List.any_cons, Bool.or_assoc]
theorem andW_bit (i j : Nat) (l : List Mk) (hj : j < 64) : (andW i l).testBit j = l.all (fun m => (ww i m).testBit j) := by unfold andW; rw [and_foldl_bit, full_bit j hj]; simp
theorem orW_bit (i j : Nat) (l : List Mk) : (orW i l).testBit j = l.any (fun m => (ww i m).testBit j) := by unfold orW; rw [or_foldl_bit]; simp

set_option maxHeartbeats 1000000 in
theorem and1_any (i g c : Nat) (A : Option Addr) (l : List Mk) (w : World) (hi : i < 2) (hg : w.cell? ⟨g, 0, none⟩ = some (.slice A l.length c)) (h : Ms w A c l) :
    Calls Tryz.prog 86 #[.int .i64 i, .pointer (some ⟨g, 0, none⟩)] w fun e w' => e = .returned (.int .u64 (andW i l)) ∧ Below w.heap.size w w' := by
  obtain ⟨n, hn⟩ : ∃ n, n = l.length := ⟨_, rfl⟩
  have hmn : (n : Int) ≤ 9223372036854775807 := by have := h.room; have := h.most; omega
  have hnc : n ≤ c := by have := h.room; omega
  have hcm : (c : Int) ≤ 9223372036854775807 := by have := h.most; omega
  rw [← hn] at hg
  have HN := Lib.hid hn
  have HM := Lib.hid h
  have HS0 := Lib.hid (show 18446744073709551615 = andW i (l.take 0) from rfl)
  have hT : andW i (l.take n) = andW i l := by rw [hn, List.take_length]
  have HT := Lib.hid hT
  have HB := Lib.hid (Below.refl w.heap.size w)
  have hstep : ∀ k x y v, l[k]? = some (x, y) → x < 18446744073709551616 → y < 18446744073709551616 → v < 18446744073709551616 → v = andW i (l.take k) → ∃ v', v' < 18446744073709551616 ∧ v' = andW i (l.take (k + 1)) ∧ bits .and .u64 (v : Int) ((ww i (x, y) : Nat) : Int) = (v' : Int) := by
    intro k x y v hk hx hy hv he
    refine ⟨_, andW_lt i (l.take (k + 1)), rfl, ?_⟩
    rw [andW_snoc i l hk, ← he]
    exact u64_and_nat _ _ hv (ww_lt ⟨hx, hy⟩ i)
  have HStep := Lib.hid hstep
  clear h hn hT hstep
  have hi2 : i = 0 ∨ i = 1 := by omega
  rcases hi2 with rfl | rfl
  · go_enter Tryz.func86, Tryz.ntmps86
    go_wp2
    go_loopw [4, 9] (fun v i wr => ∃ (k v0 : Nat), k ≤ n ∧ i = .int .i64 k ∧ v = .int .u64 v0 ∧ v0 < 18446744073709551616 ∧ Hid (v0 = andW 0 (l.take k)) ∧ Hid (Below w.heap.size w wr)) (fun _ i _ => n - (intOf i).toNat)
    case atStart => exact ⟨0, 18446744073709551615, Nat.zero_le _, rfl, rfl, by decide, HS0, HB⟩
    case round =>
      obtain ⟨k, v0, hk, rfl, rfl, hv, HV, HW⟩ := hrel
      by_cases hkn : k < n
      · obtain ⟨b, o, x, y, rfl, hb, hx, hx1, hx2, d0, d1⟩ := (HM.out.below HW.out).at_ (k := k) (by rw [← HN.out]; exact hkn)
        obtain ⟨v1, hv1, hv1e, hbit⟩ := HStep.out k x y v0 hx hx1 hx2 hv HV.out
        have k0 : (0 : Int) ≤ k := by omega
        have kn : (k : Int) < n := by omega
        have HV1 := Lib.hid hv1e
        have HB1 := Lib.hid (HW.out.alloc HW.out.size (.cells #[.int .u64 x, .int .u64 y] 70))
        simp only [ww, if_true, if_neg (show ¬ (1 : Nat) = 0 by decide)] at hbit
        clear hx hx1 hx2 hv1e hb
        go_wp2
        go_roundw
        case rel => exact ⟨k + 1, v1, by omega, by go_num, by simp, hv1, HV1, HB1⟩
        case measure => simp [intOf]; omega
      · obtain rfl : k = n := by omega
        go_wp2
        go_ret
        have e := HV.out
        rw [HT.out] at e
        rw [← e]
        exact ⟨rfl, HW.out⟩
  · go_enter Tryz.func86, Tryz.ntmps86
    go_wp2
    go_loopw [4, 9] (fun v i wr => ∃ (k v0 : Nat), k ≤ n ∧ i = .int .i64 k ∧ v = .int .u64 v0 ∧ v0 < 18446744073709551616 ∧ Hid (v0 = andW 1 (l.take k)) ∧ Hid (Below w.heap.size w wr)) (fun _ i _ => n - (intOf i).toNat)
    case atStart => exact ⟨0, 18446744073709551615, Nat.zero_le _, rfl, rfl, by decide, HS0, HB⟩
    case round =>
      obtain ⟨k, v0, hk, rfl, rfl, hv, HV, HW⟩ := hrel
      by_cases hkn : k < n
      · obtain ⟨b, o, x, y, rfl, hb, hx, hx1, hx2, d0, d1⟩ := (HM.out.below HW.out).at_ (k := k) (by rw [← HN.out]; exact hkn)
        obtain ⟨v1, hv1, hv1e, hbit⟩ := HStep.out k x y v0 hx hx1 hx2 hv HV.out
        have k0 : (0 : Int) ≤ k := by omega
        have kn : (k : Int) < n := by omega
        have HV1 := Lib.hid hv1e
        have HB1 := Lib.hid (HW.out.alloc HW.out.size (.cells #[.int .u64 x, .int .u64 y] 70))
        simp only [ww, if_true, if_neg (show ¬ (1 : Nat) = 0 by decide)] at hbit
        clear hx hx1 hx2 hv1e hb
        go_wp2
        go_roundw
        case rel => exact ⟨k + 1, v1, by omega, by go_num, by simp, hv1, HV1, HB1⟩
        case measure => simp [intOf]; omega
      · obtain rfl : k = n := by omega
        go_wp2
        go_ret
        have e := HV.out
        rw [HT.out] at e
        rw [← e]
        exact ⟨rfl, HW.out⟩

set_option maxHeartbeats 1000000 in
theorem or1_any (i g c : Nat) (A : Option Addr) (l : List Mk) (w : World) (hi : i < 2) (hg : w.cell? ⟨g, 0, none⟩ = some (.slice A l.length c)) (h : Ms w A c l) :
    Calls Tryz.prog 76 #[.int .i64 i, .pointer (some ⟨g, 0, none⟩)] w fun e w' => e = .returned (.int .u64 (orW i l)) ∧ Below w.heap.size w w' := by
  obtain ⟨n, hn⟩ : ∃ n, n = l.length := ⟨_, rfl⟩
  have hmn : (n : Int) ≤ 9223372036854775807 := by have := h.room; have := h.most; omega
  have hnc : n ≤ c := by have := h.room; omega
  have hcm : (c : Int) ≤ 9223372036854775807 := by have := h.most; omega
  rw [← hn] at hg
  have HN := Lib.hid hn
  have HM := Lib.hid h
  have HS0 := Lib.hid (show 0 = orW i (l.take 0) from rfl)
  have hT : orW i (l.take n) = orW i l := by rw [hn, List.take_length]
  have HT := Lib.hid hT
  have HB := Lib.hid (Below.refl w.heap.size w)
  have hstep : ∀ k x y v, l[k]? = some (x, y) → x < 18446744073709551616 → y < 18446744073709551616 → v < 18446744073709551616 → v = orW i (l.take k) → ∃ v', v' < 18446744073709551616 ∧ v' = orW i (l.take (k + 1)) ∧ bits .or .u64 (v : Int) ((ww i (x, y) : Nat) : Int) = (v' : Int) := by
    intro k x y v hk hx hy hv he
    refine ⟨_, orW_lt i (fun m hm => h.fine m (List.mem_of_mem_take hm)), rfl, ?_⟩
    rw [orW_snoc i l hk, ← he]
    exact u64_or_nat _ _ hv (ww_lt ⟨hx, hy⟩ i)
  have HStep := Lib.hid hstep
  clear h hn hT hstep
  have hi2 : i = 0 ∨ i = 1 := by omega
  rcases hi2 with rfl | rfl
  · go_enter Tryz.func76, Tryz.ntmps76
    go_wp2
    go_loopw [4, 9] (fun v i wr => ∃ (k v0 : Nat), k ≤ n ∧ i = .int .i64 k ∧ v = .int .u64 v0 ∧ v0 < 18446744073709551616 ∧ Hid (v0 = orW 0 (l.take k)) ∧ Hid (Below w.heap.size w wr)) (fun _ i _ => n - (intOf i).toNat)
    case atStart => exact ⟨0, 0, Nat.zero_le _, rfl, rfl, by decide, HS0, HB⟩
    case round =>
      obtain ⟨k, v0, hk, rfl, rfl, hv, HV, HW⟩ := hrel
      by_cases hkn : k < n
      · obtain ⟨b, o, x, y, rfl, hb, hx, hx1, hx2, d0, d1⟩ := (HM.out.below HW.out).at_ (k := k) (by rw [← HN.out]; exact hkn)
        obtain ⟨v1, hv1, hv1e, hbit⟩ := HStep.out k x y v0 hx hx1 hx2 hv HV.out
        have k0 : (0 : Int) ≤ k := by omega
        have kn : (k : Int) < n := by omega
        have HV1 := Lib.hid hv1e
        have HB1 := Lib.hid (HW.out.alloc HW.out.size (.cells #[.int .u64 x, .int .u64 y] 70))
        simp only [ww, if_true, if_neg (show ¬ (1 : Nat) = 0 by decide)] at hbit
        clear hx hx1 hx2 hv1e hb
        go_wp2
        go_roundw
        case rel => exact ⟨k + 1, v1, by omega, by go_num, by simp, hv1, HV1, HB1⟩
        case measure => simp [intOf]; omega
      · obtain rfl : k = n := by omega
        go_wp2
        go_ret
        have e := HV.out
        rw [HT.out] at e
        rw [← e]
        exact ⟨rfl, HW.out⟩
  · go_enter Tryz.func76, Tryz.ntmps76
    go_wp2
    go_loopw [4, 9] (fun v i wr => ∃ (k v0 : Nat), k ≤ n ∧ i = .int .i64 k ∧ v = .int .u64 v0 ∧ v0 < 18446744073709551616 ∧ Hid (v0 = orW 1 (l.take k)) ∧ Hid (Below w.heap.size w wr)) (fun _ i _ => n - (intOf i).toNat)
    case atStart => exact ⟨0, 0, Nat.zero_le _, rfl, rfl, by decide, HS0, HB⟩
    case round =>
      obtain ⟨k, v0, hk, rfl, rfl, hv, HV, HW⟩ := hrel
      by_cases hkn : k < n
      · obtain ⟨b, o, x, y, rfl, hb, hx, hx1, hx2, d0, d1⟩ := (HM.out.below HW.out).at_ (k := k) (by rw [← HN.out]; exact hkn)
        obtain ⟨v1, hv1, hv1e, hbit⟩ := HStep.out k x y v0 hx hx1 hx2 hv HV.out
        have k0 : (0 : Int) ≤ k := by omega
        have kn : (k : Int) < n := by omega
        have HV1 := Lib.hid hv1e
        have HB1 := Lib.hid (HW.out.alloc HW.out.size (.cells #[.int .u64 x, .int .u64 y] 70))
        simp only [ww, if_true, if_neg (show ¬ (1 : Nat) = 0 by decide)] at hbit
        clear hx hx1 hx2 hv1e hb
        go_wp2
        go_roundw
        case rel => exact ⟨k + 1, v1, by omega, by go_num, by simp, hv1, HV1, HB1⟩
        case measure => simp [intOf]; omega
      · obtain rfl : k = n := by omega
        go_wp2
        go_ret
        have e := HV.out
        rw [HT.out] at e
        rw [← e]
        exact ⟨rfl, HW.out⟩
end MskL
end Go.Proofs.YtcekgllahlhaaaaGreatDoor

namespace Go.Proofs.YtcekgllahlhaaaaGreatDoor
namespace MskL
open Go.RowKit Go.Shelf
set_option linter.unusedVariables false
set_option linter.unusedSimpArgs false
set_option maxRecDepth 100000

/-- A block that holds two words. -/
def MRow (W : World) (g a b : Nat) : Prop := W.heap[g]? = some (.cells #[.int .u64 a, .int .u64 b] 70 (0, 0))
theorem MRow.lt {W : World} {g a b : Nat} (h : MRow W g a b) : g < W.heap.size := lt_of_block h
theorem MRow.cell0 {W : World} {g a b : Nat} (h : MRow W g a b) : W.cell? ⟨g, 0, none⟩ = some (.int .u64 a) := cell_of_row _ _ _ _ _ (0, 0) h
theorem MRow.cell1 {W : World} {g a b : Nat} (h : MRow W g a b) : W.cell? ⟨g, 1, none⟩ = some (.int .u64 b) := cell_of_row _ _ _ _ _ (0, 0) h
theorem MRow.box {W : World} {g : Nat} {m : Mk} (h : MRow W g m.1 m.2) : MBox W g m := ⟨h.cell0, h.cell1⟩
theorem MRow.frozen {W : World} {g a b : Nat} (h : MRow W g a b) (i : Nat) : W.frozen? ⟨g, i, none⟩ = false := by simp [World.frozen?, show W.heap[g]? = _ from h]
theorem MRow.below {W W' : World} {g a b B : Nat} (h : MRow W g a b) (hb : Below B W W') (hg : g < B) : MRow W' g a b := (hb.block g hg).trans h
theorem MRow.new (W : World) (a b : Nat) : MRow (W.alloc (.cells #[.int .u64 a, .int .u64 b] 70)) W.heap.size a b := heap_alloc_new W _
theorem MRow.set0 {W : World} {g a b : Nat} (h : MRow W g a b) (v : Nat) : MRow (W.setCell ⟨g, 0, none⟩ (.int .u64 v)) g v b := by
  obtain ⟨hlt, hk⟩ := Array.getElem?_eq_some_iff.1 h
  show (W.heap.modify g _)[g]? = _
  rw [Array.getElem?_eq_getElem (by rw [Array.size_modify]; exact hlt), Array.getElem_modify_self, hk]
  rfl
theorem MRow.set1 {W : World} {g a b : Nat} (h : MRow W g a b) (v : Nat) : MRow (W.setCell ⟨g, 1, none⟩ (.int .u64 v)) g a v := by
  obtain ⟨hlt, hk⟩ := Array.getElem?_eq_some_iff.1 h
  show (W.heap.modify g _)[g]? = _
  rw [Array.getElem?_eq_getElem (by rw [Array.size_modify]; exact hlt), Array.getElem_modify_self, hk]
  rfl
theorem MRow.other {W : World} {g a b : Nat} (h : MRow W g a b) (p : Addr) (v : Value) (hp : g ≠ p.block) : MRow (W.setCell p v) g a b := (Below.heap_setCell W p v g hp).trans h
theorem below_set {B : Nat} {W W' : World} (h : Below B W W') (p : Addr) (v : Value) (hp : B ≤ p.block) : Below B W (W'.setCell p v) :=
  h.trans ⟨rfl, rfl, rfl, by simp [World.setCell], fun k hk => Below.heap_setCell W' p v k (by omega)⟩

theorem res2 {B s a b : Nat} {w w1 : World} (x y : Nat) (h : MRow w1 s a b) (hb : Below B w w1) (hs : B ≤ s) :
    ((w1.setCell ⟨s, 0, none⟩ (.int .u64 x)).setCell ⟨s, 1, none⟩ (.int .u64 y)).cell? ⟨s, 0, none⟩ = some (.int .u64 x) ∧ ((w1.setCell ⟨s, 0, none⟩ (.int .u64 x)).setCell ⟨s, 1, none⟩ (.int .u64 y)).cell? ⟨s, 1, none⟩ = some (.int .u64 y) ∧ Below B w ((w1.setCell ⟨s, 0, none⟩ (.int .u64 x)).setCell ⟨s, 1, none⟩ (.int .u64 y)) :=
  ⟨((h.set0 x).set1 y).cell0, ((h.set0 x).set1 y).cell1, below_set (below_set hb _ _ hs) _ _ hs⟩

set_option maxHeartbeats 1000000 in
theorem byWord_any (fid : FuncId) (cap : Array Value) (t0 t1 : Nat) (w : World) (h0 : t0 < 18446744073709551616) (h1 : t1 < 18446744073709551616)
    (hen : ∀ v W, (callFunc fid (#[v] ++ cap)).run Tryz.prog W = .ok (.enter fid (#[v] ++ cap)) W)
    (hc0 : ∀ W, Below w.heap.size w W → Calls Tryz.prog fid (#[.int .i64 0] ++ cap) W fun e W' => e = .returned (.int .u64 t0) ∧ Below W.heap.size W W')
    (hc1 : ∀ W, Below w.heap.size w W → Calls Tryz.prog fid (#[.int .i64 1] ++ cap) W fun e W' => e = .returned (.int .u64 t1) ∧ Below W.heap.size W W') :
    Calls Tryz.prog 75 #[.func (.func fid) #[] cap] w fun e w' => e = .returned (mv (t0, t1 % 4294967296)) ∧ Below w.heap.size w w' := by
  have b0 : bits .and .u64 (t0 : Int) (18446744073709551615 : Int) = (t0 : Int) := by
    have := u64_and_nat t0 18446744073709551615 h0 (by decide)
    rw [show t0 &&& 18446744073709551615 = t0 from by rw [show (18446744073709551615 : Nat) = 2 ^ 64 - 1 from rfl, Nat.and_two_pow_sub_one_eq_mod]; omega] at this
    exact this
  have b1 : bits .and .u64 (t1 : Int) (4294967295 : Int) = ((t1 % 4294967296 : Nat) : Int) := by
    have := u64_and_nat t1 4294967295 h1 (by decide)
    rw [show t1 &&& 4294967295 = t1 % 4294967296 from by rw [show (4294967295 : Nat) = 2 ^ 32 - 1 from rfl, Nat.and_two_pow_sub_one_eq_mod]] at this
    exact this
  obtain ⟨q1, hq1⟩ : ∃ q1, q1 = t1 % 4294967296 := ⟨_, rfl⟩
  rw [← hq1] at b1 ⊢
  clear hq1
  have HC0 := Lib.hid hc0
  have HC1 := Lib.hid hc1
  clear hc0 hc1
  go_enter Tryz.func75, Tryz.ntmps75
  obtain ⟨s, hs⟩ : ∃ s, s = w.heap.size := ⟨_, rfl⟩
  have hI : MRow ((w.alloc (.cells #[.int .u64 (0 : Nat), .int .u64 (0 : Nat)] 70)).alloc (.cells #[.int .u64 (0 : Nat), .int .u64 (0 : Nat)] 70)) s 0 0 := by
    rw [hs]; exact (MRow.new w 0 0).below ((Below.refl _ _).alloc (Nat.le_refl _) _) (by simp)
  have hJ : MRow ((w.alloc (.cells #[.int .u64 (0 : Nat), .int .u64 (0 : Nat)] 70)).alloc (.cells #[.int .u64 (0 : Nat), .int .u64 (0 : Nat)] 70)) (s + 1) 0 0 := by
    rw [hs]; have := MRow.new (w.alloc (.cells #[.int .u64 (0 : Nat), .int .u64 (0 : Nat)] 70)) 0 0
    rwa [World.size_alloc] at this
  have HI := Lib.hid hI
  have HJ := Lib.hid hJ
  have HB := Lib.hid (show Below w.heap.size w ((w.alloc (.cells #[.int .u64 (0 : Nat), .int .u64 (0 : Nat)] 70)).alloc (.cells #[.int .u64 (0 : Nat), .int .u64 (0 : Nat)] 70)) from ((Below.refl _ w).alloc (Nat.le_refl _) _).alloc (by simp) _)
  have HS := Lib.hid hs
  clear hI hJ
  go_wp2
  rw [← HS.out]
  clear hs
  go_loopw [5] (fun i wr => ∃ (k a b : Nat), k ≤ 2 ∧ i = .int .i64 k ∧ Hid (Below w.heap.size w wr) ∧ Hid (MRow wr s 0 0) ∧ Hid (MRow wr (s + 1) a b) ∧ Hid ((1 ≤ k → a = t0) ∧ (2 ≤ k → b = q1))) (fun i _ => 2 - (intOf i).toNat)
  case atStart => exact ⟨0, 0, 0, by omega, rfl, HB, HI, HJ, Lib.hid ⟨fun h => by omega, fun h => by omega⟩⟩
  case round =>
    obtain ⟨k, a, b, hk, rfl, HW, HR, HM, HE⟩ := hrel
    by_cases hk0 : k = 0
    · subst hk0
      go_wp2_with fail
      refine (HC0.out _ HW.out).mono ?_
      rintro e w1 ⟨rfl, hb1⟩
      have HB1 := Lib.hid (HW.out.trans (hb1.mono HW.out.size))
      have HR1 := Lib.hid (HR.out.below hb1 HR.out.lt)
      have HM1 := Lib.hid (HM.out.below hb1 HM.out.lt)
      clear hb1
      have c0 := HM1.out.cell0
      have f0 := HM1.out.frozen 0
      go_wp2_with fail
      refine (lowest_any _ _ (by omega)).mono ?_
      rintro e w2 ⟨rfl, rfl⟩
      rw [show lowW 96 = 18446744073709551615 from rfl]
      go_wp2
      go_roundw
      case rel => exact ⟨1, t0, b, by omega, by go_num, Lib.hid (below_set HB1.out _ _ (by rw [HS.out]; simp)), Lib.hid (HR1.out.other _ _ (by simp)), Lib.hid (HM1.out.set0 t0), Lib.hid ⟨fun _ => rfl, fun h => by omega⟩⟩
      case measure => simp [intOf]
    · by_cases hk1 : k = 1
      · subst hk1
        go_wp2_with fail
        refine (HC1.out _ HW.out).mono ?_
        rintro e w1 ⟨rfl, hb1⟩
        have HB1 := Lib.hid (HW.out.trans (hb1.mono HW.out.size))
        have HR1 := Lib.hid (HR.out.below hb1 HR.out.lt)
        have HM1 := Lib.hid (HM.out.below hb1 HM.out.lt)
        clear hb1
        have c0 := HM1.out.cell1
        have f0 := HM1.out.frozen 1
        go_wp2_with fail
        refine (lowest_any _ _ (by omega)).mono ?_
        rintro e w2 ⟨rfl, rfl⟩
        rw [show lowW 32 = 4294967295 from rfl]
        go_wp2
        go_roundw
        case rel => exact ⟨2, a, q1, by omega, by go_num, Lib.hid (below_set HB1.out _ _ (by rw [HS.out]; simp)), Lib.hid (HR1.out.other _ _ (by simp)), Lib.hid (HM1.out.set1 _), Lib.hid ⟨fun _ => HE.out.1 (by omega), fun _ => rfl⟩⟩
        case measure => simp [intOf]
      · obtain rfl : k = 2 := by omega
        obtain ⟨rfl, rfl⟩ : a = t0 ∧ b = q1 := ⟨HE.out.1 (by omega), HE.out.2 (by omega)⟩
        have c0 := HM.out.cell0
        have c1 := HM.out.cell1
        have r0 := HR.out.cell0
        have r1 := HR.out.cell1
        have f0 := HR.out.frozen 0
        have f1 := HR.out.frozen 1
        obtain ⟨e0, e1, hbE⟩ := res2 a b HR.out HW.out (by rw [HS.out]; exact Nat.le_refl _)
        have HBE := Lib.hid hbE
        clear hbE
        go_wp2
        refine bodyPost_ret (v := .agg #[.int .u64 a, .int .u64 b]) (by simp [results, Tryz.results75, go_sem, e0, e1]) rfl ?_
        exact ⟨rfl, HBE.out⟩
end MskL
end Go.Proofs.YtcekgllahlhaaaaGreatDoor

namespace Go.Proofs.YtcekgllahlhaaaaGreatDoor
namespace MskL
open Go.RowKit Go.Shelf
set_option linter.unusedVariables false
set_option linter.unusedSimpArgs false
set_option maxRecDepth 100000

/-- What answers a mask. -/
def GivesM (w : World) (f : Nat → Bool) (e : Ending) (w' : World) : Prop := e = .returned (mv (mk f)) ∧ Below w.heap.size w w'
theorem slice_box (w : World) (v : Value) (t : TypeId) : (w.alloc (.cells #[v] t)).cell? ⟨w.heap.size, 0, none⟩ = some v := cell_new w _ t 0
theorem ww0 (m : Mk) : ww 0 m = m.1 := rfl
theorem ww1 (m : Mk) : ww 1 m = m.2 := rfl
theorem and_mk (l : List Mk) : (andW 0 l, andW 1 l % 4294967296) = mk (fun n => l.all (fun m => has m n)) := by
  refine mk_words (andW_lt 0 l) (fun i hi => ?_) (fun i hi => ?_)
  · rw [andW_bit 0 i l hi]; congr 1; funext m; rw [has0 m i hi, ww0]
  · rw [andW_bit 1 i l (by omega)]; congr 1; funext m; rw [has1 m i hi, ww1]
theorem or_mk (l : List Mk) (h : ∀ m ∈ l, Fine m) : (orW 0 l, orW 1 l % 4294967296) = mk (fun n => l.any (fun m => has m n)) := by
  refine mk_words (orW_lt 0 h) (fun i hi => ?_) (fun i hi => ?_)
  · rw [orW_bit 0 i l]; congr 1; funext m; rw [has0 m i hi, ww0]
  · rw [orW_bit 1 i l]; congr 1; funext m; rw [has1 m i hi, ww1]
theorem minus_mk (a b : Mk) (ha : Fine a) (hb : Fine b) : (ww 0 a &&& (18446744073709551615 - ww 0 b), (ww 1 a &&& (18446744073709551615 - ww 1 b)) % 4294967296) = mk (fun n => has a n && !has b n) := by
  refine mk_words (Nat.lt_of_le_of_lt Nat.and_le_left (ww_lt ha 0)) (fun i hi => ?_) (fun i hi => ?_)
  · rw [Nat.testBit_and, not_bit _ _ (ww_lt hb 0) hi, has0 a i hi, has0 b i hi]; rfl
  · rw [Nat.testBit_and, not_bit _ _ (ww_lt hb 1) (by omega), has1 a i hi, has1 b i hi]; rfl
theorem not_mk (a : Mk) (ha : Fine a) : (18446744073709551615 ^^^ ww 0 a, (18446744073709551615 ^^^ ww 1 a) % 4294967296) = mk (fun n => !has a n) := by
  refine mk_words (Nat.xor_lt_two_pow (n := 64) (by decide) (ww_lt ha 0)) (fun i hi => ?_) (fun i hi => ?_)
  · rw [xor_bit _ _ hi, has0 a i hi]; rfl
  · rw [xor_bit _ _ (by omega), has1 a i hi]; rfl
theorem clean_mk (a : Mk) (ha : Fine a) : (ww 0 a, ww 1 a % 4294967296) = mk (has a) := by
  refine mk_words (ww_lt ha 0) (fun i hi => ?_) (fun i hi => ?_)
  · rw [has0 a i hi]; rfl
  · rw [has1 a i hi]; rfl
theorem below_mk (n : Int) : (lowW (n - 64 * (0 : Nat)), lowW (n - 64 * (1 : Nat)) % 4294967296) = mk (fun k => decide ((k : Int) < n)) := by
  refine mk_words (lowW_lt _) (fun i hi => ?_) (fun i hi => ?_)
  · rw [lowW_bit _ _ hi]; simp
  · rw [lowW_bit _ _ (by omega)]; simp; omega

set_option maxHeartbeats 1000000 in
theorem and_any (A : Option Addr) (c : Nat) (l : List Mk) (w : World) (h : Ms w A c l) :
    Calls Tryz.prog 50 #[.slice A l.length c] w (GivesM w fun n => l.all (fun m => has m n)) := by
  obtain ⟨s, hs⟩ : ∃ s, s = w.heap.size := ⟨_, rfl⟩
  obtain ⟨W0, hW0⟩ : ∃ W0, W0 = (w.alloc (.cells #[.slice A l.length c] 35)).alloc (.cells #[.int .u64 (0 : Nat), .int .u64 (0 : Nat)] 70) := ⟨_, rfl⟩
  have hB : Below w.heap.size w W0 := by rw [hW0]; exact ((Below.refl _ w).alloc (Nat.le_refl _) _).alloc (by simp <;> omega) _
  have hz : W0.heap.size = s + 2 := by rw [hW0, hs]; simp
  have hR : MRow W0 (s + 1) 0 0 := by
    rw [hW0, hs]; have := MRow.new (w.alloc (.cells #[.slice A l.length c] 35)) 0 0
    simpa using this
  have hC0 : W0.cell? ⟨s + 0, 0, none⟩ = some (.slice A l.length c) := by
    rw [hW0, hs]; exact ((show Below (w.heap.size + 1) (w.alloc (.cells #[.slice A l.length c] 35)) ((w.alloc (.cells #[.slice A l.length c] 35)).alloc (.cells #[.int .u64 (0 : Nat), .int .u64 (0 : Nat)] 70)) from (Below.refl _ _).alloc (by simp <;> omega) _).cell (p := ⟨w.heap.size + 0, 0, none⟩) (by simp)).trans (slice_box w _ _)
  have HC := Lib.hid (byWord_any 86 #[.pointer (some ⟨s + 0, 0, none⟩)] (andW 0 l) (andW 1 l) W0 (andW_lt 0 l) (andW_lt 1 l) (fun v W => enters_of Tryz.func86 (by kernel_rfl) rfl _ _)
    (fun W hW => and1_any 0 (s + 0) c A l W (by omega) ((hW.cell (p := ⟨s + 0, 0, none⟩) (by rw [hz]; simp)).trans hC0) ((h.below hB).below hW))
    (fun W hW => and1_any 1 (s + 0) c A l W (by omega) ((hW.cell (p := ⟨s + 0, 0, none⟩) (by rw [hz]; simp)).trans hC0) ((h.below hB).below hW)))
  rw [and_mk] at HC
  have HR := Lib.hid hR
  have HB := Lib.hid hB
  have HZ := Lib.hid hz
  have HS := Lib.hid hs
  have HW0 := Lib.hid hW0
  clear h hB hz hR hs hW0 hC0
  go_enter Tryz.func50, Tryz.ntmps50
  go_wp2_with fail
  have hcall := HC.out
  rw [HW0.out, HS.out] at hcall
  refine hcall.mono ?_
  rintro e w1 ⟨rfl, hb1⟩
  rw [← HW0.out] at hb1
  have hR := HR.out.below hb1 HR.out.lt
  have hB := HB.out.trans (hb1.mono HB.out.size)
  obtain ⟨M, hM⟩ : ∃ M, M = mk (fun n => l.all (fun m => has m n)) := ⟨_, rfl⟩
  rw [← hM]
  obtain ⟨a, b⟩ := M
  obtain ⟨e0, e1, hbE⟩ := res2 a b hR hB (by rw [HS.out]; omega)
  rw [HS.out] at hR e0 e1 hbE
  have c0 := hR.cell0
  have c1 := hR.cell1
  have f0 := hR.frozen 0
  have f1 := hR.frozen 1
  have HM := Lib.hid hM
  have HBE := Lib.hid hbE
  clear hbE hB hR hb1 hM hcall
  dsimp only [mv]
  go_wp2
  refine bodyPost_ret (v := .agg #[.int .u64 a, .int .u64 b]) (by simp [results, Tryz.results50, go_sem, e0, e1]) rfl ?_
  exact ⟨by rw [← HM.out]; rfl, HBE.out⟩

set_option maxHeartbeats 1000000 in
theorem or_any (A : Option Addr) (c : Nat) (l : List Mk) (w : World) (h : Ms w A c l) :
    Calls Tryz.prog 44 #[.slice A l.length c] w (GivesM w fun n => l.any (fun m => has m n)) := by
  obtain ⟨s, hs⟩ : ∃ s, s = w.heap.size := ⟨_, rfl⟩
  obtain ⟨W0, hW0⟩ : ∃ W0, W0 = (w.alloc (.cells #[.slice A l.length c] 35)).alloc (.cells #[.int .u64 (0 : Nat), .int .u64 (0 : Nat)] 70) := ⟨_, rfl⟩
  have hB : Below w.heap.size w W0 := by rw [hW0]; exact ((Below.refl _ w).alloc (Nat.le_refl _) _).alloc (by simp <;> omega) _
  have hz : W0.heap.size = s + 2 := by rw [hW0, hs]; simp
  have hR : MRow W0 (s + 1) 0 0 := by
    rw [hW0, hs]; have := MRow.new (w.alloc (.cells #[.slice A l.length c] 35)) 0 0
    simpa using this
  have hC0 : W0.cell? ⟨s + 0, 0, none⟩ = some (.slice A l.length c) := by
    rw [hW0, hs]; exact ((show Below (w.heap.size + 1) (w.alloc (.cells #[.slice A l.length c] 35)) ((w.alloc (.cells #[.slice A l.length c] 35)).alloc (.cells #[.int .u64 (0 : Nat), .int .u64 (0 : Nat)] 70)) from (Below.refl _ _).alloc (by simp <;> omega) _).cell (p := ⟨w.heap.size + 0, 0, none⟩) (by simp)).trans (slice_box w _ _)
  have HC := Lib.hid (byWord_any 76 #[.pointer (some ⟨s + 0, 0, none⟩)] (orW 0 l) (orW 1 l) W0 (orW_lt 0 h.fine) (orW_lt 1 h.fine) (fun v W => enters_of Tryz.func76 (by kernel_rfl) rfl _ _)
    (fun W hW => or1_any 0 (s + 0) c A l W (by omega) ((hW.cell (p := ⟨s + 0, 0, none⟩) (by rw [hz]; simp)).trans hC0) ((h.below hB).below hW))
    (fun W hW => or1_any 1 (s + 0) c A l W (by omega) ((hW.cell (p := ⟨s + 0, 0, none⟩) (by rw [hz]; simp)).trans hC0) ((h.below hB).below hW)))
  rw [or_mk l h.fine] at HC
  have HR := Lib.hid hR
  have HB := Lib.hid hB
  have HZ := Lib.hid hz
  have HS := Lib.hid hs
  have HW0 := Lib.hid hW0
  clear h hB hz hR hs hW0 hC0
  go_enter Tryz.func44, Tryz.ntmps44
  go_wp2_with fail
  have hcall := HC.out
  rw [HW0.out, HS.out] at hcall
  refine hcall.mono ?_
  rintro e w1 ⟨rfl, hb1⟩
  rw [← HW0.out] at hb1
  have hR := HR.out.below hb1 HR.out.lt
  have hB := HB.out.trans (hb1.mono HB.out.size)
  obtain ⟨M, hM⟩ : ∃ M, M = mk (fun n => l.any (fun m => has m n)) := ⟨_, rfl⟩
  rw [← hM]
  obtain ⟨a, b⟩ := M
  obtain ⟨e0, e1, hbE⟩ := res2 a b hR hB (by rw [HS.out]; omega)
  rw [HS.out] at hR e0 e1 hbE
  have c0 := hR.cell0
  have c1 := hR.cell1
  have f0 := hR.frozen 0
  have f1 := hR.frozen 1
  have HM := Lib.hid hM
  have HBE := Lib.hid hbE
  clear hbE hB hR hb1 hM hcall
  dsimp only [mv]
  go_wp2
  refine bodyPost_ret (v := .agg #[.int .u64 a, .int .u64 b]) (by simp [results, Tryz.results44, go_sem, e0, e1]) rfl ?_
  exact ⟨by rw [← HM.out]; rfl, HBE.out⟩

set_option maxHeartbeats 1000000 in
theorem clean_any (m : Mk) (w : World) (h : Fine m) :
    Calls Tryz.prog 93 #[mv m] w (GivesM w fun n => has m n) := by
  obtain ⟨s, hs⟩ : ∃ s, s = w.heap.size := ⟨_, rfl⟩
  obtain ⟨W0, hW0⟩ : ∃ W0, W0 = (w.alloc (.cells #[.int .u64 m.1, .int .u64 m.2] 70)).alloc (.cells #[.int .u64 (0 : Nat), .int .u64 (0 : Nat)] 70) := ⟨_, rfl⟩
  have hB : Below w.heap.size w W0 := by rw [hW0]; exact ((Below.refl _ w).alloc (Nat.le_refl _) _).alloc (by simp <;> omega) _
  have hz : W0.heap.size = s + 2 := by rw [hW0, hs]; simp
  have hR : MRow W0 (s + 1) 0 0 := by
    rw [hW0, hs]; have := MRow.new (w.alloc (.cells #[.int .u64 m.1, .int .u64 m.2] 70)) 0 0
    simpa using this
  have hM0 : MBox W0 (s + 0) m := by
    rw [hW0, hs]; have h := MBox.new w m 70
    have h2 := h.below (B := w.heap.size + 1) (w' := (w.alloc (.cells #[.int .u64 m.1, .int .u64 m.2] 70)).alloc (.cells #[.int .u64 (0 : Nat), .int .u64 (0 : Nat)] 70)) ((Below.refl _ _).alloc (by simp <;> omega) _) (by omega)
    simpa using h2
  have HC := Lib.hid (byWord_any 115 #[.pointer (some ⟨s + 0, 0, none⟩)] (ww 0 m) (ww 1 m) W0 (ww_lt h 0) (ww_lt h 1) (fun v W => enters_of Tryz.func115 (by kernel_rfl) rfl _ _)
    (fun W hW => (clean1_any 0 (s + 0) m W (by omega) (hM0.below hW (by rw [hz]; omega))).mono (fun e w2 ⟨h1, h2⟩ => ⟨h1, by rw [← h2]; exact Below.refl _ _⟩))
    (fun W hW => (clean1_any 1 (s + 0) m W (by omega) (hM0.below hW (by rw [hz]; omega))).mono (fun e w2 ⟨h1, h2⟩ => ⟨h1, by rw [← h2]; exact Below.refl _ _⟩)))
  rw [clean_mk m h] at HC
  have HR := Lib.hid hR
  have HB := Lib.hid hB
  have HZ := Lib.hid hz
  have HS := Lib.hid hs
  have HW0 := Lib.hid hW0
  clear h hB hz hR hs hW0 hM0
  unfold mv
  go_enter Tryz.func93, Tryz.ntmps93
  go_wp2_with fail
  have hcall := HC.out
  rw [HW0.out, HS.out] at hcall
  refine hcall.mono ?_
  rintro e w1 ⟨rfl, hb1⟩
  rw [← HW0.out] at hb1
  have hR := HR.out.below hb1 HR.out.lt
  have hB := HB.out.trans (hb1.mono HB.out.size)
  obtain ⟨M, hM⟩ : ∃ M, M = mk (fun n => has m n) := ⟨_, rfl⟩
  rw [← hM]
  obtain ⟨a, b⟩ := M
  obtain ⟨e0, e1, hbE⟩ := res2 a b hR hB (by rw [HS.out]; omega)
  rw [HS.out] at hR e0 e1 hbE
  have c0 := hR.cell0
  have c1 := hR.cell1
  have f0 := hR.frozen 0
  have f1 := hR.frozen 1
  have HM := Lib.hid hM
  have HBE := Lib.hid hbE
  clear hbE hB hR hb1 hM hcall
  dsimp only [mv]
  go_wp2
  refine bodyPost_ret (v := .agg #[.int .u64 a, .int .u64 b]) (by simp [results, Tryz.results93, go_sem, e0, e1]) rfl ?_
  exact ⟨by rw [← HM.out]; rfl, HBE.out⟩

set_option maxHeartbeats 1000000 in
theorem minus_any (m m2 : Mk) (w : World) (h : Fine m) (h2 : Fine m2) :
    Calls Tryz.prog 77 #[mv m, mv m2] w (GivesM w fun n => has m n && !has m2 n) := by
  obtain ⟨s, hs⟩ : ∃ s, s = w.heap.size := ⟨_, rfl⟩
  obtain ⟨W0, hW0⟩ : ∃ W0, W0 = ((w.alloc (.cells #[.int .u64 m.1, .int .u64 m.2] 70)).alloc (.cells #[.int .u64 m2.1, .int .u64 m2.2] 70)).alloc (.cells #[.int .u64 (0 : Nat), .int .u64 (0 : Nat)] 70) := ⟨_, rfl⟩
  have hB : Below w.heap.size w W0 := by rw [hW0]; exact (((Below.refl _ w).alloc (Nat.le_refl _) _).alloc (by simp <;> omega) _).alloc (by simp <;> omega) _
  have hz : W0.heap.size = s + 3 := by rw [hW0, hs]; simp
  have hR : MRow W0 (s + 2) 0 0 := by
    rw [hW0, hs]; have := MRow.new ((w.alloc (.cells #[.int .u64 m.1, .int .u64 m.2] 70)).alloc (.cells #[.int .u64 m2.1, .int .u64 m2.2] 70)) 0 0
    simpa using this
  have hM0 : MBox W0 (s + 0) m := by
    rw [hW0, hs]; have h := MBox.new w m 70
    have h2 := h.below (B := w.heap.size + 1) (w' := ((w.alloc (.cells #[.int .u64 m.1, .int .u64 m.2] 70)).alloc (.cells #[.int .u64 m2.1, .int .u64 m2.2] 70)).alloc (.cells #[.int .u64 (0 : Nat), .int .u64 (0 : Nat)] 70)) (((Below.refl _ _).alloc (by simp <;> omega) _).alloc (by simp <;> omega) _) (by omega)
    simpa using h2
  have hM1 : MBox W0 (s + 1) m2 := by
    rw [hW0, hs]; have h := MBox.new (w.alloc (.cells #[.int .u64 m.1, .int .u64 m.2] 70)) m2 70
    have h2 := h.below (B := (w.alloc (.cells #[.int .u64 m.1, .int .u64 m.2] 70)).heap.size + 1) (w' := ((w.alloc (.cells #[.int .u64 m.1, .int .u64 m.2] 70)).alloc (.cells #[.int .u64 m2.1, .int .u64 m2.2] 70)).alloc (.cells #[.int .u64 (0 : Nat), .int .u64 (0 : Nat)] 70)) ((Below.refl _ _).alloc (by simp <;> omega) _) (by omega)
    simpa using h2
  have HC := Lib.hid (byWord_any 105 #[.pointer (some ⟨s + 0, 0, none⟩), .pointer (some ⟨s + 1, 0, none⟩)] (ww 0 m &&& (18446744073709551615 - ww 0 m2)) (ww 1 m &&& (18446744073709551615 - ww 1 m2)) W0 (Nat.lt_of_le_of_lt Nat.and_le_left (ww_lt h 0)) (Nat.lt_of_le_of_lt Nat.and_le_left (ww_lt h 1)) (fun v W => enters_of Tryz.func105 (by kernel_rfl) rfl _ _)
    (fun W hW => minus1_any 0 (s + 0) (s + 1) m m2 W (by omega) (hM0.below hW (by rw [hz]; omega)) (hM1.below hW (by rw [hz]; omega)) h h2)
    (fun W hW => minus1_any 1 (s + 0) (s + 1) m m2 W (by omega) (hM0.below hW (by rw [hz]; omega)) (hM1.below hW (by rw [hz]; omega)) h h2))
  rw [minus_mk m m2 h h2] at HC
  have HR := Lib.hid hR
  have HB := Lib.hid hB
  have HZ := Lib.hid hz
  have HS := Lib.hid hs
  have HW0 := Lib.hid hW0
  clear h h2 hB hz hR hs hW0 hM0 hM1
  unfold mv
  go_enter Tryz.func77, Tryz.ntmps77
  go_wp2_with fail
  have hcall := HC.out
  rw [HW0.out, HS.out] at hcall
  refine hcall.mono ?_
  rintro e w1 ⟨rfl, hb1⟩
  rw [← HW0.out] at hb1
  have hR := HR.out.below hb1 HR.out.lt
  have hB := HB.out.trans (hb1.mono HB.out.size)
  obtain ⟨M, hM⟩ : ∃ M, M = mk (fun n => has m n && !has m2 n) := ⟨_, rfl⟩
  rw [← hM]
  obtain ⟨a, b⟩ := M
  obtain ⟨e0, e1, hbE⟩ := res2 a b hR hB (by rw [HS.out]; omega)
  rw [HS.out] at hR e0 e1 hbE
  have c0 := hR.cell0
  have c1 := hR.cell1
  have f0 := hR.frozen 0
  have f1 := hR.frozen 1
  have HM := Lib.hid hM
  have HBE := Lib.hid hbE
  clear hbE hB hR hb1 hM hcall
  dsimp only [mv]
  go_wp2
  refine bodyPost_ret (v := .agg #[.int .u64 a, .int .u64 b]) (by simp [results, Tryz.results77, go_sem, e0, e1]) rfl ?_
  exact ⟨by rw [← HM.out]; rfl, HBE.out⟩
end MskL
end Go.Proofs.YtcekgllahlhaaaaGreatDoor

namespace Go.Proofs.YtcekgllahlhaaaaGreatDoor
namespace MskL
open Go.RowKit Go.Shelf
set_option linter.unusedVariables false
set_option linter.unusedSimpArgs false
set_option maxRecDepth 100000

theorem mask_end {M : Mk} {s a b : Nat} {w w1 : World} (h : MRow w1 s a b) (hb : Below w.heap.size w w1) (hs : w.heap.size ≤ s) :
    (w1.cell? ⟨s, 0, none⟩ = some (.int .u64 a) ∧ w1.cell? ⟨s, 1, none⟩ = some (.int .u64 b) ∧ w1.frozen? ⟨s, 0, none⟩ = false ∧ w1.frozen? ⟨s, 1, none⟩ = false) ∧
    ((w1.setCell ⟨s, 0, none⟩ (.int .u64 M.1)).setCell ⟨s, 1, none⟩ (.int .u64 M.2)).cell? ⟨s, 0, none⟩ = some (.int .u64 M.1) ∧ ((w1.setCell ⟨s, 0, none⟩ (.int .u64 M.1)).setCell ⟨s, 1, none⟩ (.int .u64 M.2)).cell? ⟨s, 1, none⟩ = some (.int .u64 M.2) ∧ Below w.heap.size w ((w1.setCell ⟨s, 0, none⟩ (.int .u64 M.1)).setCell ⟨s, 1, none⟩ (.int .u64 M.2)) :=
  ⟨⟨h.cell0, h.cell1, h.frozen 0, h.frozen 1⟩, res2 M.1 M.2 h hb hs⟩

set_option maxHeartbeats 1000000 in
theorem below_any (n : Int) (w : World) (hn : -9223372036854775808 ≤ n ∧ n ≤ 9223372036854775807) :
    Calls Tryz.prog 78 #[.int .i64 n] w (GivesM w fun k => decide ((k : Int) < n)) := by
  obtain ⟨q, hq⟩ : ∃ q, q = min (max n 0) 96 := ⟨_, rfl⟩
  have hq0 : 0 ≤ q := by omega
  have hq1 : q ≤ 96 := by omega
  have hM : mk (fun k => decide ((k : Int) < q)) = mk (fun k => decide ((k : Int) < n)) := mk_congr (fun k hk => by simp; omega)
  obtain ⟨s, hs⟩ : ∃ s, s = w.heap.size := ⟨_, rfl⟩
  obtain ⟨W2, hW2⟩ : ∃ W2, W2 = (w.alloc (.cells #[.int .i64 q] 3)).alloc (.cells #[.int .u64 (0 : Nat), .int .u64 (0 : Nat)] 70) := ⟨_, rfl⟩
  have hB2 : Below w.heap.size w W2 := by rw [hW2]; exact ((Below.refl _ w).alloc (Nat.le_refl _) _).alloc (by simp) _
  have hX2 : Boxed W2 s 3 (.int .i64 q) := by rw [hW2, hs]; exact (Boxed.new w _ _).alloc _
  have hR2 : MRow W2 (s + 1) 0 0 := by
    rw [hW2, hs]; have := MRow.new (w.alloc (.cells #[.int .i64 q] 3)) 0 0
    rwa [World.size_alloc] at this
  have HC := Lib.hid (byWord_any 106 #[.pointer (some ⟨s, 0, none⟩)] (lowW (q - 64 * (0 : Nat))) (lowW (q - 64 * (1 : Nat))) W2 (lowW_lt _) (lowW_lt _) (fun v W => enters_of Tryz.func106 (by kernel_rfl) rfl _ _)
    (fun W hW => (below1_any 0 s q W (by omega) ((hW.block _ hX2.lt).trans hX2 |> Boxed.cell) ⟨hq0, hq1⟩).mono (fun e w2 ⟨h1, h2⟩ => ⟨h1, by rw [← h2]; exact Below.refl _ _⟩))
    (fun W hW => (below1_any 1 s q W (by omega) ((hW.block _ hX2.lt).trans hX2 |> Boxed.cell) ⟨hq0, hq1⟩).mono (fun e w2 ⟨h1, h2⟩ => ⟨h1, by rw [← h2]; exact Below.refl _ _⟩)))
  rw [below_mk, hM] at HC
  obtain ⟨M, hMd⟩ : ∃ M, M = mk (fun k => decide ((k : Int) < n)) := ⟨_, rfl⟩
  rw [← hMd] at HC
  have HM := Lib.hid hMd
  have HR := Lib.hid hR2
  have HB := Lib.hid hB2
  have HS := Lib.hid hs
  have HW2 := Lib.hid hW2
  have HSL := Lib.hid (show w.heap.size ≤ s + 1 by omega)
  have hqe : min (max n 0) 96 = q := hq.symm
  clear hM hMd hs hW2 hX2 hR2 hB2 hq
  go_enter Tryz.func78, Tryz.ntmps78
  go_wp2_with fail
  have hcall := HC.out
  rw [HW2.out, HS.out] at hcall
  refine hcall.mono ?_
  rintro e w1 ⟨rfl, hb1⟩
  rw [← HW2.out] at hb1
  obtain ⟨⟨c0, c1, f0, f1⟩, e0, e1, hbE⟩ := mask_end (M := M) (HR.out.below hb1 HR.out.lt) (HB.out.trans (hb1.mono HB.out.size)) HSL.out
  rw [HS.out] at c0 c1 f0 f1 e0 e1 hbE
  have HBE := Lib.hid hbE
  clear hbE hb1 hcall
  dsimp only [mv]
  go_wp2
  refine bodyPost_ret (v := .agg #[.int .u64 M.1, .int .u64 M.2]) (by simp [results, Tryz.results78, go_sem, e0, e1]) rfl ?_
  exact ⟨by rw [← HM.out]; rfl, HBE.out⟩

theorem single_mk (n : Int) : mk (fun k => has (mk fun k => decide ((k : Int) < n + 1)) k && !has (mk fun k => decide ((k : Int) < n)) k) = mk (fun k => decide ((k : Int) = n)) :=
  mk_congr (fun k hk => by rw [has_mk, has_mk, Bool.eq_iff_iff]; simp [hk]; omega)

set_option maxHeartbeats 1000000 in
theorem single_any (n : Int) (w : World) (hn : 0 ≤ n ∧ n < 96) :
    Calls Tryz.prog 45 #[.int .i64 n] w (GivesM w fun k => decide ((k : Int) = n)) := by
  obtain ⟨s, hs⟩ : ∃ s, s = w.heap.size := ⟨_, rfl⟩
  obtain ⟨W1, hW1⟩ : ∃ W1, W1 = w.alloc (.cells #[.int .u64 (0 : Nat), .int .u64 (0 : Nat)] 70) := ⟨_, rfl⟩
  have hB1 : Below w.heap.size w W1 := by rw [hW1]; exact (Below.refl _ w).alloc (Nat.le_refl _) _
  have hR1 : MRow W1 s 0 0 := by rw [hW1, hs]; exact MRow.new w 0 0
  obtain ⟨M1, hM1⟩ : ∃ M1, M1 = mk (fun k => decide ((k : Int) < n + 1)) := ⟨_, rfl⟩
  obtain ⟨M0, hM0⟩ : ∃ M0, M0 = mk (fun k => decide ((k : Int) < n)) := ⟨_, rfl⟩
  obtain ⟨M, hMd⟩ : ∃ M, M = mk (fun k => decide ((k : Int) = n)) := ⟨_, rfl⟩
  have HC1 := Lib.hid (fun W => show Calls Tryz.prog 78 #[.int .i64 (n + 1)] W (fun e w' => e = .returned (mv M1) ∧ Below W.heap.size W w') from by rw [hM1]; exact below_any (n + 1) W (by omega))
  have HC0 := Lib.hid (fun W => show Calls Tryz.prog 78 #[.int .i64 n] W (fun e w' => e = .returned (mv M0) ∧ Below W.heap.size W w') from by rw [hM0]; exact below_any n W (by omega))
  have HC := Lib.hid (fun W => show Calls Tryz.prog 77 #[mv M1, mv M0] W (fun e w' => e = .returned (mv M) ∧ Below W.heap.size W w') from by
    have := minus_any M1 M0 W (by rw [hM1]; exact mk_fine _) (by rw [hM0]; exact mk_fine _)
    rw [hM1, hM0] at this ⊢
    unfold GivesM at this
    rw [single_mk, ← hMd] at this
    exact this)
  have HM := Lib.hid hMd
  have HR := Lib.hid hR1
  have HB := Lib.hid hB1
  have HS := Lib.hid hs
  have HW1 := Lib.hid hW1
  have HSL := Lib.hid (show w.heap.size ≤ s by omega)
  clear hM1 hM0 hMd hs hW1 hB1 hR1
  go_enter Tryz.func45, Tryz.ntmps45
  go_wp2_with fail
  refine (HC1.out _).mono ?_
  rintro e w2 ⟨rfl, hb2⟩
  have HB2 := Lib.hid hb2
  clear hb2
  go_wp2_with fail
  refine (HC0.out _).mono ?_
  rintro e w3 ⟨rfl, hb3⟩
  have HB3 := Lib.hid (HB2.out.trans (hb3.mono HB2.out.size))
  clear hb3
  go_wp2_with fail
  refine (HC.out _).mono ?_
  rintro e w4 ⟨rfl, hb4⟩
  have hb5 := HB3.out.trans (hb4.mono HB3.out.size)
  have HW := HW1.out
  rw [show w.alloc (.cells #[.int .u64 0, .int .u64 0] 70) = W1 from HW.symm] at hb5
  obtain ⟨⟨c0, c1, f0, f1⟩, e0, e1, hbE⟩ := mask_end (M := M) (HR.out.below hb5 HR.out.lt) (HB.out.trans (hb5.mono HB.out.size)) HSL.out
  rw [HS.out] at c0 c1 f0 f1 e0 e1 hbE
  have HBE := Lib.hid hbE
  clear hbE hb4 hb5 HW
  dsimp only [mv]
  go_wp2
  refine bodyPost_ret (v := .agg #[.int .u64 M.1, .int .u64 M.2]) (by simp [results, Tryz.results45, go_sem, e0, e1]) rfl ?_
  exact ⟨by rw [← HM.out]; rfl, HBE.out⟩

end MskL
end Go.Proofs.YtcekgllahlhaaaaGreatDoor

namespace Go.Proofs.YtcekgllahlhaaaaGreatDoor
namespace MskL
open Go.RowKit Go.Shelf
set_option linter.unusedVariables false
set_option linter.unusedSimpArgs false
set_option maxRecDepth 100000

theorem eqM0 (a b c d : Int) (w : World) : (Op.equalIn 10000 70 (.agg #[.int .u64 a, .int .u64 b]) (.agg #[.int .u64 c, .int .u64 d])).run Tryz.prog w = .ok (decide (a = c ∧ b = d)) w := by
  have hu := Tryz.underlying70
  have hu6 := Tryz.underlying29
  obtain ⟨i, hi⟩ : ∃ i, Tryz.prog.info? 29 = some i := Option.isSome_iff_exists.1 (by kernel_rfl)
  have h1 : Tryz.prog.cellsOf 29 = 1 := by kernel_rfl
  have hr : List.range 2 = [0, 1] := rfl
  have h9 : ∀ x y : Int, (Op.equalIn 9999 29 (.int .u64 x) (.int .u64 y)).run Tryz.prog w = .ok (x == y) w := fun x y => run_equalIn_int (w := w) 9998 _ _ _ x y hu6
  rw [show (10000 : Nat) = 9999 + 1 from rfl, run_equalIn_array w 9999 _ _ hu hi, h1, hr]
  simp [Op.eqItems, go_sem, part, h9]
  by_cases h1 : a = c <;> by_cases h2 : b = d <;> simp [h1, h2]

theorem eqM (a b : Mk) (w : World) : (Op.equalIn 10000 70 (.agg #[.int .u64 a.1, .int .u64 a.2]) (.agg #[.int .u64 b.1, .int .u64 b.2])).run Tryz.prog w = .ok (decide (a = b)) w := by
  rw [eqM0]
  obtain ⟨a1, a2⟩ := a
  obtain ⟨b1, b2⟩ := b
  congr 1
  rw [Bool.eq_iff_iff]
  simp
  omega

theorem region_quiet {P : Program} {id : Nat} {Q : Exit → Act → World → Prop} {a : Act} {w : World} {l : List Oper} (C : World → Prop) (hm : P.follows .mixedOrders = true) (hB : Region.lexB .any l.toArray = true) (hC : C { w with drawn := w.drawn + 1 })
    (h : wpQuiet P l.toArray C (fun a' => ∀ w', C w' → Q .normal a' w') l a) : (Code.region id l.toArray true).wp P Q a w :=
  wp_region_quiet (C := C) hm hB hC (by simpa using h)
end MskL
end Go.Proofs.YtcekgllahlhaaaaGreatDoor

namespace Go.Proofs.YtcekgllahlhaaaaGreatDoor
namespace MskL
open Go.RowKit Go.Shelf
set_option linter.unusedVariables false
set_option linter.unusedSimpArgs false
set_option maxRecDepth 100000

/-- A mask that may be. -/
def rightM (m : Mk) : Bool := decide (m = mk (has m))
def chkM (m : Mk) : Int := if rightM m then 0 else 200

set_option maxHeartbeats 1000000 in
theorem check_any (m : Mk) (w : World) (h : Fine m) :
    Calls Tryz.prog 107 #[mv m] w fun e w' => e = .returned (.int .i64 (chkM m)) ∧ Below w.heap.size w w' := by
  have HC := Lib.hid (fun W => clean_any m W h)
  unfold GivesM at HC
  obtain ⟨M, hM⟩ : ∃ M, M = mk (fun n => has m n) := ⟨_, rfl⟩
  have HM := Lib.hid hM
  rw [← hM] at HC
  clear h hM
  obtain ⟨a, b⟩ := m
  obtain ⟨c, d⟩ := M
  unfold mv at HC ⊢
  dsimp only at HC ⊢
  obtain ⟨W0, hW0⟩ : ∃ W0, W0 = w.alloc (.cells #[.int .u64 (a : Int), .int .u64 (b : Int)] 70) := ⟨_, rfl⟩
  have hb0 : Below w.heap.size w W0 := by rw [hW0]; exact (Below.refl _ w).alloc (Nat.le_refl _) _
  have hr0 : MRow W0 w.heap.size a b := by rw [hW0]; exact MRow.new w a b
  have HK := Lib.hid (fun (X : World) (hX : Below W0.heap.size W0 X) => And.intro (hr0.below hX hr0.lt).cell0 (hr0.below hX hr0.lt).cell1)
  have HW := Lib.hid hW0
  have HB0 := Lib.hid hb0
  clear hW0 hb0 hr0
  go_enter Tryz.func107, Tryz.ntmps107
  go_wp2_with (rw [← HW.out])
  refine region_quiet (fun X => Below W0.heap.size W0 X) (by kernel_rfl) (by kernel_rfl) (below_drew (Below.refl _ _)) ?_
  repeat (first | go_big_quiet_skip | (go_big_quiet_want; go_big_quiet_op; first | go_big_quiet_on | (refine ⟨_, fun _ _ => rfl, ?_⟩; go_big_quiet_on) | (refine ⟨_, fun W hW => (HC.out W).mono (fun _ _ h => ⟨h.1, hW.trans (h.2.mono hW.size)⟩), ?_⟩; go_big_quiet_on) | (refine ⟨_, fun W hW => (by obtain ⟨z0, z1⟩ := HK.out W hW; simp only [Result.andThen, z0, z1]; exact ⟨trivial, rfl⟩), ?_⟩; go_big_quiet_on)))
  go_big_quiet_want; go_big_quiet_op
  refine ⟨.bool (!decide (((a, b) : Mk) = (c, d))), fun W hW => ?_, ?_⟩
  · have := eqM (a, b) (c, d) W
    dsimp only at this
    rw [this]
    exact ⟨rfl, rfl⟩
  go_big_quiet_on
  refine wpQuiet_nil ?_
  intro w2 hq
  have HW2 := Lib.hid (HB0.out.trans (hq.mono HB0.out.size))
  clear hq
  have HE := Lib.hid (show (decide (((a, b) : Mk) = (c, d))) = rightM (a, b) from by rw [HM.out]; rfl)
  cases hd : decide (((a, b) : Mk) = (c, d)) with
  | true =>
    rw [hd] at HE
    go_wp2
    go_ret
    unfold chkM
    rw [← HE.out]
    exact ⟨rfl, HW2.out⟩
  | false =>
    rw [hd] at HE
    go_wp2
    go_ret
    unfold chkM
    rw [← HE.out]
    exact ⟨rfl, HW2.out⟩

end MskL
end Go.Proofs.YtcekgllahlhaaaaGreatDoor

namespace Go.Proofs.YtcekgllahlhaaaaGreatDoor
namespace MskL
open Go.RowKit Go.Shelf
set_option linter.unusedVariables false
set_option linter.unusedSimpArgs false
set_option maxRecDepth 100000

def chgM (m : Mk) (n : Int) : Int := if rightM m then (if slotB n then 0 else 2) else 200
theorem mbox_world (w : World) (m : Mk) : Below w.heap.size w (w.alloc (.cells #[.int .u64 m.1, .int .u64 m.2] 70)) ∧ MRow (w.alloc (.cells #[.int .u64 m.1, .int .u64 m.2] 70)) w.heap.size m.1 m.2 :=
  ⟨(Below.refl _ w).alloc (Nat.le_refl _) _, MRow.new w m.1 m.2⟩

/-- What answers a mask and an error. -/
def GivesME (w : World) (m : Mk) (x : Int) (e : Ending) (w' : World) : Prop := e = .returned (.tuple #[mv m, .int .i64 x]) ∧ Below w.heap.size w w'
theorem Ms.two (W : World) (a b : Mk) (ha : Fine a) (hb : Fine b) : Ms (W.alloc (.cells #[.int .u64 a.1, .int .u64 a.2, .int .u64 b.1, .int .u64 b.2] 70)) (some ⟨W.heap.size, 0, none⟩) 2 [a, b] := by
  refine ⟨by simp, by omega, fun _ => ⟨W.heap.size, 0, rfl, by simp, fun j m hm => ?_⟩, fun m hm => by simp at hm; rcases hm with rfl | rfl <;> assumption⟩
  match j, hm with
  | 0, hm => simp at hm; subst hm; exact ⟨cell_new W _ _ 0, cell_new W _ _ 1⟩
  | 1, hm => simp at hm; subst hm; exact ⟨cell_new W _ _ 2, cell_new W _ _ 3⟩
  | j + 2, hm => simp at hm
theorem Ms.drew {w : World} {A : Option Addr} {c : Nat} {l : List Mk} (h : Ms w A c l) : Ms w.drew A c l := ⟨h.room, h.most, h.rd, h.fine⟩

def withM (m : Mk) (n : Int) : Mk := mk fun k => has m k || decide ((k : Int) = n)

def withoutM (m : Mk) (n : Int) : Mk := mk fun k => has m k && !decide ((k : Int) = n)

end MskL
end Go.Proofs.YtcekgllahlhaaaaGreatDoor

namespace Go.Proofs.YtcekgllahlhaaaaGreatDoor
namespace MskL
open Go.RowKit Go.Shelf
set_option linter.unusedVariables false
set_option linter.unusedSimpArgs false
set_option maxRecDepth 100000

def rangeM (a b : Int) : Mk := mk fun k => decide (a ≤ (k : Int)) && decide ((k : Int) < b)
def rangeE (a b : Int) : Int := if 0 ≤ a ∧ b ≤ 96 ∧ a ≤ b then 0 else 2
theorem res_world (w : World) : Below w.heap.size w (w.alloc (.cells #[.int .u64 (0 : Nat), .int .u64 (0 : Nat)] 70)) ∧ MRow (w.alloc (.cells #[.int .u64 (0 : Nat), .int .u64 (0 : Nat)] 70)) w.heap.size 0 0 :=
  ⟨(Below.refl _ w).alloc (Nat.le_refl _) _, MRow.new w 0 0⟩

theorem wrap_add_div (x X d : Nat) (hX : X = x + x / d) (h : X < 18446744073709551616) : IntKind.u64.wrap ((x : Int) + (x : Int) / (d : Int)) = (X : Int) := by
  have e : (x : Int) + (x : Int) / (d : Int) = (X : Int) := by rw [hX]; simp
  rw [IntKind.wrap_u64, e]
  exact Int.emod_eq_of_lt (by omega) (by omega)
theorem and127 (Z : Nat) : bits .and .i64 (wrap64 (Z : Int)) 127 = ((Z % 128 : Nat) : Int) := by
  rw [i64_and127]
  unfold wrap64
  omega
set_option maxHeartbeats 2000000 in
theorem ones_any (x : Nat) (w : World) (hx : x < 18446744073709551616) :
    Calls Tryz.prog 120 #[.int .u64 x] w fun e w' => e = .returned (.int .i64 (cnt x.testBit 64)) ∧ w = w' := by
  obtain ⟨x1, h1⟩ : ∃ x1, x1 = (x / 2 &&& 6148914691236517205) + (x &&& 6148914691236517205) := ⟨_, rfl⟩
  obtain ⟨x2, h2⟩ : ∃ x2, x2 = (x1 / 4 &&& 3689348814741910323) + (x1 &&& 3689348814741910323) := ⟨_, rfl⟩
  obtain ⟨x3, h3⟩ : ∃ x3, x3 = (x2 / 16 + x2) &&& 1085102592571150095 := ⟨_, rfl⟩
  obtain ⟨X, hX⟩ : ∃ X, X = x3 + x3 / 256 := ⟨_, rfl⟩
  obtain ⟨Y, hY⟩ : ∃ Y, Y = X + X / 65536 := ⟨_, rfl⟩
  obtain ⟨Z, hZ⟩ : ∃ Z, Z = Y + Y / 4294967296 := ⟨_, rfl⟩
  obtain ⟨l1, l2, l22, l3, lX, lY, lZ, hres⟩ := ones_steps x hx x1 x2 x3 X Y Z h1 h2 h3 hX hY hZ
  have a1 : bits .and .u64 ((x : Int) / 2) 6148914691236517205 = ((x / 2 &&& 6148914691236517205 : Nat) : Int) := by
    have := u64_and_nat (x / 2) 6148914691236517205 (by omega) (by decide)
    simpa using this
  have a2 : bits .and .u64 (x : Int) 6148914691236517205 = ((x &&& 6148914691236517205 : Nat) : Int) := u64_and_nat x 6148914691236517205 hx (by decide)
  have a3 : bits .and .u64 ((x1 : Int) / 4) 3689348814741910323 = ((x1 / 4 &&& 3689348814741910323 : Nat) : Int) := by
    have := u64_and_nat (x1 / 4) 3689348814741910323 (by omega) (by decide)
    simpa using this
  have a4 : bits .and .u64 (x1 : Int) 3689348814741910323 = ((x1 &&& 3689348814741910323 : Nat) : Int) := u64_and_nat x1 3689348814741910323 l1 (by decide)
  have a5 : bits .and .u64 ((x2 : Int) / 16 + x2) 1085102592571150095 = (x3 : Int) := by
    have := u64_and_nat (x2 / 16 + x2) 1085102592571150095 l22 (by decide)
    rw [← h3] at this
    simpa using this
  have s1 : ((x / 2 &&& 6148914691236517205 : Nat) : Int) + ((x &&& 6148914691236517205 : Nat) : Int) = (x1 : Int) := by rw [h1]; simp
  have s2 : ((x1 / 4 &&& 3689348814741910323 : Nat) : Int) + ((x1 &&& 3689348814741910323 : Nat) : Int) = (x2 : Int) := by rw [h2]; simp
  have HRes := Lib.hid hres
  have HZX := Lib.hid (And.intro hX (And.intro hY hZ))
  generalize (x / 2 &&& 6148914691236517205 : Nat) = p1 at *
  generalize (x &&& 6148914691236517205 : Nat) = p2 at *
  generalize (x1 / 4 &&& 3689348814741910323 : Nat) = p3 at *
  generalize (x1 &&& 3689348814741910323 : Nat) = p4 at *
  clear hX hY hZ h1 h2 h3 hres
  go_enter Tryz.func120, Tryz.ntmps120
  go_wp2
  go_ret
  obtain ⟨hX, hY, hZ⟩ := HZX.out
  have w1 : IntKind.u64.wrap ((x3 : Int) + (x3 : Int) / 256) = (X : Int) := wrap_add_div x3 X 256 hX lX
  have w2 : IntKind.u64.wrap ((X : Int) + (X : Int) / 65536) = (Y : Int) := wrap_add_div X Y 65536 hY lY
  have w3 : IntKind.u64.wrap ((Y : Int) + (Y : Int) / 4294967296) = (Z : Int) := wrap_add_div Y Z 4294967296 hZ lZ
  refine ⟨?_, rfl⟩
  rw [w1, w2, w3, ← HRes.out]
  show Ending.returned (Value.int .i64 (bits .and .i64 (wrap64 (Z : Int)) 127)) = _
  rw [and127]

set_option maxHeartbeats 2000000 in
theorem count_any (m : Mk) (w : World) (h : Fine m) :
    Calls Tryz.prog 108 #[mv m] w fun e w' => e = .returned (.int .i64 (cnt (has m) 96)) ∧ Below w.heap.size w w' := by
  have HC := Lib.hid (fun W => clean_any m W h)
  obtain ⟨M, hM⟩ : ∃ M, M = mk (fun n => has m n) := ⟨_, rfl⟩
  unfold GivesM at HC
  rw [← hM] at HC
  have hf : Fine M := by rw [hM]; exact mk_fine _
  have e0 : cnt M.1.testBit 64 + cnt M.2.testBit 64 = cnt (has m) 96 := by
    have e1 : cnt M.1.testBit 64 = cnt (has m) 64 := cnt_congr (fun i hi => by rw [← has0 M i hi, hM, has_mk]; simp; omega)
    have e2 : cnt M.2.testBit 64 = cnt (fun i => has m (64 + i)) 32 := by
      have e3 : cnt M.2.testBit 64 = cnt M.2.testBit 32 := by
        rw [show 64 = 32 + 32 from rfl, cnt_add]
        have : cnt (fun i => M.2.testBit (32 + i)) 32 = 0 := by
          rw [cnt_congr (g := fun _ => false) (fun i hi => ?_)]
          · rfl
          · rw [hM]
            show (wd _ 32).testBit (32 + i) = false
            rw [wd_bit, decide_eq_false (by omega)]; rfl
        omega
      rw [e3]
      exact cnt_congr (fun i hi => by rw [← has1 M i hi, hM, has_mk]; simp; omega)
    rw [show 96 = 64 + 32 from rfl, cnt_add, e1, e2]
  have l0 : cnt M.1.testBit 64 ≤ 64 := cnt_le _ _
  have l1 : cnt M.2.testBit 64 ≤ 64 := cnt_le _ _
  have HO0 := Lib.hid (fun W => ones_any M.1 W hf.1)
  have HO1 := Lib.hid (fun W => ones_any M.2 W hf.2)
  have HE := Lib.hid e0
  have HB := Lib.hid (mbox_world w m).1
  generalize cnt M.1.testBit 64 = k0 at *
  generalize cnt M.2.testBit 64 = k1 at *
  have ix0 : ∀ (a b : Int) (w : World), (Instr.index 70 (.agg #[.int .u64 a, .int .u64 b]) (.int .i64 0)).run Tryz.prog w = .ok (.int .u64 a) w := by
    intro a b w
    have hu := Tryz.underlying70
    have h1 : Tryz.prog.cellsOf 29 = 1 := by kernel_rfl
    simp [Instr.index, run_underlying hu, go_sem]
  have ix1 : ∀ (a b : Int) (w : World), (Instr.index 70 (.agg #[.int .u64 a, .int .u64 b]) (.int .i64 1)).run Tryz.prog w = .ok (.int .u64 b) w := by
    intro a b w
    have hu := Tryz.underlying70
    have h1 : Tryz.prog.cellsOf 29 = 1 := by kernel_rfl
    simp [Instr.index, run_underlying hu, go_sem]
  clear hM hf e0 h
  unfold mv at *
  go_enter Tryz.func108, Tryz.ntmps108
  go_wp2_with fail
  refine (HC.out _).mono ?_
  rintro e w1 ⟨rfl, hb1⟩
  have HB1 := Lib.hid (HB.out.trans (hb1.mono HB.out.size))
  clear hb1
  go_wp2
  go_loopw [3, 8] (fun v i wr => ∃ (k q : Nat), k ≤ 2 ∧ i = .int .i64 k ∧ v = .int .i64 q ∧ wr = w1 ∧ q ≤ 64 * k ∧ Hid (q = if k = 0 then 0 else if k = 1 then k0 else k0 + k1)) (fun _ i _ => 2 - (intOf i).toNat)
  case atStart => exact ⟨0, 0, by omega, rfl, rfl, rfl, by omega, Lib.hid rfl⟩
  case round =>
    obtain ⟨k, q, hk, rfl, rfl, rfl, hq, HQ⟩ := hrel
    by_cases hka : k = 0
    · subst hka
      obtain rfl : q = 0 := HQ.out
      go_wp2_with fail
      refine (HO0.out _).mono ?_
      rintro e w2 ⟨rfl, rfl⟩
      go_wp2
      go_roundw
      case rel => exact ⟨1, k0, by omega, by go_num, by simp, by simp, by omega, Lib.hid rfl⟩
      case measure => simp [intOf]
    · by_cases hkb : k = 1
      · subst hkb
        obtain rfl : q = k0 := HQ.out
        go_wp2_with fail
        refine (HO1.out _).mono ?_
        rintro e w2 ⟨rfl, rfl⟩
        go_wp2
        go_roundw
        case rel => exact ⟨2, q + k1, by omega, by go_num, by simp, by simp, by omega, Lib.hid rfl⟩
        case measure => simp [intOf]
      · obtain rfl : k = 2 := by omega
        have hqe : q = k0 + k1 := HQ.out
        have HQE := Lib.hid hqe
        clear hqe
        go_wp2
        go_ret
        refine ⟨?_, HB1.out⟩
        rw [← HE.out, ← HQE.out]
        rfl
end MskL
end Go.Proofs.YtcekgllahlhaaaaGreatDoor

namespace Go.Proofs.YtcekgllahlhaaaaGreatDoor
namespace MskL
open Go.RowKit Go.Shelf
set_option linter.unusedVariables false
set_option linter.unusedSimpArgs false
set_option maxRecDepth 100000

def ofM (l : List Int) : Mk := mk fun k => decide ((k : Int) ∈ l)
def ofE (l : List Int) : Int := if l.all slotB then 0 else 2
theorem ofM_snoc (l : List Int) {k : Nat} {x : Int} (h : l[k]? = some x) : mk (fun n => [ofM (l.take k), mk fun k => decide ((k : Int) = x)].any fun m => has m n) = ofM (l.take (k + 1)) := by
  have e : l.take (k + 1) = l.take k ++ [x] := by rw [List.take_add_one, h]; rfl
  rw [e]
  unfold ofM
  exact mk_congr (fun j hj => by simp [has_mk, hj])
theorem ofM_nil : ofM [] = (0, 0) := by
  unfold ofM mk
  have h : ∀ k, wd (fun _ => false) k = 0 := by
    intro k
    induction k with
    | zero => rfl
    | succ k ih => unfold wd; rw [ih]; rfl
  simp [h]
theorem ofM_fine (l : List Int) : Fine (ofM l) := mk_fine _

set_option maxHeartbeats 4000000 in
theorem of_any (A : Option Addr) (c : Nat) (l : List Int) (w : World) (h : Vec .i64 w A c l) :
    Calls Tryz.prog 20 #[.slice A l.length c] w (GivesME w (if ofE l = 0 then ofM l else (0, 0)) (ofE l)) := by
  obtain ⟨s, hs⟩ : ∃ s, s = w.heap.size := ⟨_, rfl⟩
  obtain ⟨n, hn⟩ : ∃ n, n = l.length := ⟨_, rfl⟩
  have hmn : (n : Int) ≤ 9223372036854775807 := by have := h.room; have := h.most; omega
  have hnc : n ≤ c := by have := h.room; omega
  have hcm : (c : Int) ≤ 9223372036854775807 := by have := h.most; omega
  obtain ⟨W0, hW0⟩ : ∃ W0, W0 = (w.alloc (.cells #[.int .u64 (0 : Nat), .int .u64 (0 : Nat)] 70)).alloc (.cells #[.int .u64 (0 : Nat), .int .u64 (0 : Nat)] 70) := ⟨_, rfl⟩
  have hB : Below w.heap.size w W0 := by rw [hW0]; exact ((Below.refl _ w).alloc (Nat.le_refl _) _).alloc (by simp) _
  have hR : MRow W0 s 0 0 := by rw [hW0, hs]; exact (MRow.new w 0 0).below ((Below.refl _ _).alloc (Nat.le_refl _) _) (by simp)
  have hm0 : MRow W0 (s + 1) 0 0 := by
    rw [hW0, hs]; have := MRow.new (w.alloc (.cells #[.int .u64 (0 : Nat), .int .u64 (0 : Nat)] 70)) 0 0
    rwa [World.size_alloc] at this
  have HA := Lib.hid h
  have HN := Lib.hid hn
  have HS := Lib.hid hs
  have HB := Lib.hid hB
  have HR := Lib.hid hR
  have HM0 := Lib.hid (show MRow W0 (s + 1) (ofM (l.take 0)).1 (ofM (l.take 0)).2 from by rw [List.take_zero, ofM_nil]; exact hm0)
  have HW0 := Lib.hid hW0
  obtain ⟨e0, he0⟩ : ∃ e, e = ofE l := ⟨_, rfl⟩
  obtain ⟨M0, hM0⟩ : ∃ M, M = if ofE l = 0 then ofM l else (0, 0) := ⟨_, rfl⟩
  rw [← hM0, ← he0]
  have HE := Lib.hid (And.intro he0 hM0)
  rw [← hn]
  clear he0 hM0 h hn hB hR hm0 hs hW0
  go_enter Tryz.func20, Tryz.ntmps20
  go_wp2
  rw [show (w.alloc (.cells #[.int .u64 0, .int .u64 0] 70)).alloc (.cells #[.int .u64 0, .int .u64 0] 70) = W0 from HW0.out.symm, ← HS.out]
  go_loopw [9] (fun i wr => ∃ (k : Nat), k ≤ n ∧ i = .int .i64 k ∧ Hid (Below w.heap.size w wr) ∧ Hid (MRow wr s 0 0) ∧ Hid (MRow wr (s + 1) (ofM (l.take k)).1 (ofM (l.take k)).2) ∧ Hid ((l.take k).all slotB = true)) (fun i _ => n - (intOf i).toNat)
  case atStart => exact ⟨0, by omega, rfl, HB, HR, HM0, Lib.hid rfl⟩
  case round =>
    obtain ⟨k, hk, rfl, HW, HRr, HMr, HQ⟩ := hrel
    by_cases hkn : k < n
    · obtain ⟨b, o, rfl, hb, hcell⟩ := (HA.out.below HW.out).at_ (j := k) (by rw [← HN.out]; exact hkn)
      obtain ⟨x, hx⟩ : ∃ x, l[k]? = some x := ⟨_, List.getElem?_eq_getElem (by rw [← HN.out]; exact hkn)⟩
      have hxg : l.getD k 0 = x := by simp [List.getD, hx]
      rw [hxg] at hcell
      have hfit := HA.out.fit x (List.mem_of_getElem? hx)
      have hxr : -9223372036854775808 ≤ x ∧ x ≤ 9223372036854775807 := by
        simp [Lit.wf, IntKind.min, IntKind.max, IntKind.signed, IntKind.bits] at hfit
        omega
      have HI := Lib.hid (fun W => isSlot_any x W hxr)
      have HX := Lib.hid hx
      have hm := HMr.out
      have hr := HRr.out
      have k0 : (0 : Int) ≤ k := by omega
      have kn : (k : Int) < n := by omega
      cases hsl : slotB x with
      | false =>
        have HF := Lib.hid (show ofE l = 2 by unfold ofE; rw [all_no slotB l hx hsl]; rfl)
        rw [hsl] at HI
        have r0 := hr.cell0
        have r1 := hr.cell1
        have f0 := hr.frozen 0
        have f1 := hr.frozen 1
        obtain ⟨z0, z1, hbZ⟩ := res2 0 0 hr HW.out (by rw [HS.out]; exact Nat.le_refl _)
        have HBZ := Lib.hid hbZ
        clear hfit hxr hx hxg hm hr hbZ hsl hb
        go_wp2_with fail
        refine (HI.out _).mono ?_
        rintro e w2 ⟨rfl, rfl⟩
        go_wp2
        refine bodyPost_ret (v := .tuple #[.agg #[.int .u64 (0 : Nat), .int .u64 (0 : Nat)], .int .i64 2]) (by simp [results, Tryz.results20, go_sem] at z0 z1 ⊢; simp [z0, z1]) rfl ?_
        rw [HE.out.1, HE.out.2, HF.out]
        exact ⟨rfl, HBZ.out⟩
      | true =>
        rw [hsl] at HI
        have HSl := Lib.hid (show (l.take (k + 1)).all slotB = true by rw [all_take_snoc slotB l hx, HQ.out, hsl]; rfl)
        obtain ⟨S, hS⟩ : ∃ S, S = mk fun k => decide ((k : Int) = x) := ⟨_, rfl⟩
        obtain ⟨Mk0, hMk0⟩ : ∃ M, M = ofM (l.take k) := ⟨_, rfl⟩
        obtain ⟨Mk1, hMk1⟩ : ∃ M, M = ofM (l.take (k + 1)) := ⟨_, rfl⟩
        have HSg := Lib.hid (fun W => show Calls Tryz.prog 45 #[.int .i64 x] W (fun e w' => e = .returned (mv S) ∧ Below W.heap.size W w') from by rw [hS]; exact single_any x W (slotB_yes hsl))
        have HOr := Lib.hid (fun (W : World) (A : Option Addr) (hA : Ms W A 2 [Mk0, S]) => show Calls Tryz.prog 44 #[.slice A 2 2] W (fun e w' => e = .returned (mv Mk1) ∧ Below W.heap.size W w') from by
          have := or_any A 2 [Mk0, S] W hA
          unfold GivesM at this
          rw [hMk0, hS, ofM_snoc l hx, ← hMk1] at this
          exact this)
        have HMs := Lib.hid (fun (W : World) => Ms.two W Mk0 S (by rw [hMk0]; exact mk_fine _) (by rw [hS]; exact mk_fine _))
        rw [← hMk0] at hm
        have HK := Lib.hid (fun (X : World) (hX : Below wr.heap.size wr X) => show (X.cell? ⟨s + 1, 0, none⟩ = some (.int .u64 Mk0.1) ∧ X.cell? ⟨s + 1, 1, none⟩ = some (.int .u64 Mk0.2)) from by
          have h := hm.below hX hm.lt
          exact ⟨h.cell0, h.cell1⟩)
        have HG := Lib.hid (fun (X : World) (hX : Below wr.heap.size wr X) => And.intro (hm.below hX hm.lt) (And.intro (hr.below hX hr.lt) (HW.out.trans (hX.mono HW.out.size))))
        have HMk1 := Lib.hid hMk1
        obtain ⟨c0, c1⟩ := HK.out wr (Below.refl _ _)
        clear hfit hxr hx hxg hm hr hsl hb hS hMk0 hMk1
        unfold mv at HSg HOr
        go_wp2_with fail
        refine (HI.out _).mono ?_
        rintro e w2 ⟨rfl, rfl⟩
        go_wp2
        go_region_with (first
          | (go_at_call 45; (refine (HSg.out _).mono ?_); rintro e w2 ⟨rfl, hb2⟩; have HC2 := Lib.hid (show Below wr.heap.size wr w2 from (below_drew (Below.refl _ wr)).trans hb2); have c0' := (HK.out w2 HC2.out).1; have c1' := (HK.out w2 HC2.out).2; clear hb2)
          | (go_at_call 44; (refine (HOr.out _ _ (HMs.out w2)).mono ?_); rintro e w3 ⟨rfl, hb3⟩; have HC3 := Lib.hid (show Below wr.heap.size wr w3 from (HC2.out.alloc HC2.out.size _).trans (hb3.mono (HC2.out.alloc HC2.out.size _).size)); clear hb3; obtain ⟨hm3, hr3, hbw3⟩ := HG.out _ HC3.out; have r0 := hm3.cell0; have r1 := hm3.cell1; have f0 := hm3.frozen 0; have f1 := hm3.frozen 1; clear hm3 hr3 hbw3))
        all_goals
          go_wp2
          go_roundw
          case rel =>
            obtain ⟨hm3, hr3, hbw3⟩ := HG.out _ HC3.out
            refine ⟨k + 1, by omega, by go_num, Lib.hid (below_set (below_set hbw3 _ _ (by rw [HS.out]; simp)) _ _ (by rw [HS.out]; simp)), Lib.hid ((hr3.other _ _ (by simp)).other _ _ (by simp)), Lib.hid ?_, HSl⟩
            rw [← HMk1.out]
            exact (hm3.set0 _).set1 _
          case measure => simp [intOf]; omega
    · obtain rfl : k = n := by omega
      have hall : l.take k = l := by rw [HN.out, List.take_length]
      have hE : ofE l = 0 := by
        have := HQ.out
        rw [hall] at this
        unfold ofE; rw [this]; rfl
      have HF := Lib.hid hE
      have hm := HMr.out
      rw [hall] at hm
      have hr := HRr.out
      obtain ⟨M, hM⟩ : ∃ M, M = ofM l := ⟨_, rfl⟩
      rw [← hM] at hm
      have HM := Lib.hid hM
      obtain ⟨⟨c0, c1, f0, f1⟩, e0', e1', hbE⟩ := mask_end (M := M) hr HW.out (by rw [HS.out]; exact Nat.le_refl _)
      have m0 := hm.cell0
      have m1 := hm.cell1
      have HBE := Lib.hid hbE
      clear hM hall hE hm hr hbE
      go_wp2
      refine bodyPost_ret (v := .tuple #[.agg #[.int .u64 M.1, .int .u64 M.2], .int .i64 0]) (by simp [results, Tryz.results20, go_sem, e0', e1']) rfl ?_
      rw [HE.out.1, HE.out.2, HF.out, if_pos rfl, ← HM.out]
      exact ⟨rfl, HBE.out⟩
end MskL
end Go.Proofs.YtcekgllahlhaaaaGreatDoor

namespace Go.Proofs.YtcekgllahlhaaaaGreatDoor
namespace MskL
open Go Go.RowKit
set_option linter.unusedVariables false
set_option linter.unusedSimpArgs false

/-! ### A region that draws its order, walked once: of each operation's value a relation is told -/
/-- The frame in which the region's slots hold what f says. -/
def fillR : Nat → List Oper → (Nat → Value) → Act → Act
  | _, [], _, a => a
  | i, o :: r, f, a => fillR (i + 1) r f (a.put o.dst (f i))
/-- No two of the operations write one slot. -/
def apartR : List Oper → Bool
  | [] => true
  | o :: r => r.all (fun p => o.dst.isNone || o.dst != p.dst) && apartR r
def boundR : Nat → List Oper → Bool
  | _, [] => true
  | i, o :: r => o.after.all (fun e => !Region.binds .any e || decide (e.on < i)) && boundR (i + 1) r

theorem put_comm2 (a : Act) (d e : Option Tmp) (u v : Value) (h : (d.isNone || d != e) = true) : (a.put d u).put e v = (a.put e v).put d u := by
  cases d with
  | none => rfl
  | some d =>
    cases e with
    | none => rfl
    | some e =>
      have hne : d ≠ e := by simpa using h
      simp only [Act.put]
      congr 1
      exact Array.setIfInBounds_comm _ _ hne
theorem fillR_put : ∀ (l : List Oper) (i : Nat) (f : Nat → Value) (a : Act) (d : Option Tmp) (v : Value), (l.all fun p => d.isNone || d != p.dst) = true → fillR i l f (a.put d v) = (fillR i l f a).put d v
  | [], _, _, _, _, _, _ => rfl
  | o :: r, i, f, a, d, v, h => by
    simp only [List.all_cons, Bool.and_eq_true] at h
    simp only [fillR]
    rw [put_comm2 a d o.dst v (f i) h.1]
    exact fillR_put r (i + 1) f _ d v h.2
theorem fillR_congr : ∀ (l : List Oper) (i : Nat) (f g : Nat → Value) (a : Act), (∀ k, i ≤ k → f k = g k) → fillR i l f a = fillR i l g a
  | [], _, _, _, _, _ => rfl
  | o :: r, i, f, g, a, h => by
    simp only [fillR]
    rw [h i (Nat.le_refl _)]
    exact fillR_congr r (i + 1) f g _ (fun k hk => h k (by omega))
theorem put_put (a : Act) (d : Option Tmp) (u v : Value) : (a.put d u).put d v = a.put d v := by
  cases d with
  | none => rfl
  | some d => simp only [Act.put]; congr 1; simp
/-- What one operation gives is put into its slot. -/
theorem fillR_set : ∀ (l : List Oper) (i j : Nat) (o : Oper) (f : Nat → Value) (a : Act) (v : Value), apartR l = true → l[j]? = some o → (fillR i l f a).put o.dst v = fillR i l (fun k => if k = i + j then v else f k) a
  | [], _, _, _, _, _, _, _, h => by simp at h
  | p :: r, i, 0, o, f, a, v, hap, h => by
    simp at h
    subst h
    simp only [apartR, Bool.and_eq_true] at hap
    simp only [fillR, Nat.add_zero, if_true]
    rw [← fillR_put r (i + 1) f _ p.dst v hap.1, put_put]
    exact fillR_congr r (i + 1) _ _ _ (fun k hk => by rw [if_neg (by omega)])
  | p :: r, i, j + 1, o, f, a, v, hap, h => by
    simp only [apartR, Bool.and_eq_true] at hap
    simp only [fillR]
    rw [if_neg (by omega), fillR_set r (i + 1) j o f _ v hap.2 (by simpa using h)]
    exact fillR_congr r (i + 1) _ _ _ (fun k hk => by rw [show i + 1 + j = i + (j + 1) by omega])
/-- The frame as it is, read as one that is filled. -/
theorem put_self (a : Act) (d : Option Tmp) (h : ∀ t, d = some t → t < a.tmps.size) : ∃ v, a.put d v = a := by
  cases d with
  | none => exact ⟨undef, rfl⟩
  | some t =>
    refine ⟨a.tmps[t]'(h t rfl), ?_⟩
    simp only [Act.put]
    have : a.tmps.setIfInBounds t (a.tmps[t]'(h t rfl)) = a.tmps := by
      apply Array.ext
      · simp
      · intro i h1 h2
        rw [Array.getElem_setIfInBounds]
        split
        · rename_i e; subst e; rfl
        · rfl
    rw [this]
theorem fillR_self : ∀ (l : List Oper) (i : Nat) (a : Act), (∀ o ∈ l, ∀ t, o.dst = some t → t < a.tmps.size) → ∃ f, fillR i l f a = a
  | [], _, _, _ => ⟨fun _ => undef, rfl⟩
  | o :: r, i, a, h => by
    obtain ⟨f, hf⟩ := fillR_self r (i + 1) a (fun p hp => h p (by simp [hp]))
    obtain ⟨v, hv⟩ := put_self a o.dst (h o (by simp))
    refine ⟨fun k => if k = i then v else f k, ?_⟩
    simp only [fillR, if_true]
    rw [hv, fillR_congr r (i + 1) _ f a (fun k hk => by rw [if_neg (by omega)])]
    exact hf

/-- How many have not come up yet. -/
def left (n : Nat) (listed : Array Bool) : Nat := ((List.range n).filter fun i => listed.getD i true == false).length
theorem left_set {n i : Nat} {listed : Array Bool} (hi : i < n) (hu : listed.getD i true = false) : left n (listed.setIfInBounds i true) < left n listed := by
  unfold left
  have hsz : i < listed.size := by
    rcases Nat.lt_or_ge i listed.size with h | h
    · exact h
    · simp [Array.getD, Nat.not_lt.2 h] at hu
  have hmono : ∀ k, ((listed.setIfInBounds i true).getD k true == false) = ((listed.getD k true == false) && !decide (k = i)) := by
    intro k
    by_cases hk : k = i
    · subst hk
      simp [Array.getD, hsz]
    · have : (listed.setIfInBounds i true).getD k true = listed.getD k true := by
        simp only [Array.getD]
        by_cases h1 : k < listed.size
        · simp [h1, Array.getElem_setIfInBounds, Ne.symm hk]
        · simp [h1]
      rw [this]; simp [hk]
  have hf : (List.range n).filter (fun k => (listed.setIfInBounds i true).getD k true == false) = ((List.range n).filter fun k => listed.getD k true == false).filter (fun k => !decide (k = i)) := by
    rw [List.filter_filter]
    congr 1
    funext k
    rw [hmono, Bool.and_comm]
  rw [hf]
  have hmem : i ∈ (List.range n).filter fun k => listed.getD k true == false := by
    rw [List.mem_filter]; exact ⟨List.mem_range.2 hi, by simp [hu]⟩
  exact List.length_filter_lt_length_iff_exists.2 ⟨i, hmem, by simp⟩

section
variable {P : Program} {Q : Exit → Act → World → Prop} {C : World → Prop} {R : Nat → Value → World → Prop}
/-- What one operation owes: wherever what it waits for is as told. -/
def OweR (P : Program) (Q : Exit → Act → World → Prop) (l : List Oper) (C : World → Prop) (R : Nat → Value → World → Prop) (a : Act) (j : Nat) (o : Oper) : Prop :=
  ∀ (f : Nat → Value) (w : World), C w → (∀ e ∈ o.after, Region.binds .any e = true → R e.on (f e.on) w) →
    (Region.wanted o (yielded l.toArray (fillR 0 l f a).tmps) = true ∧ o.wp P (fillR 0 l f a) w (fun a' w' => ∃ v, a' = (fillR 0 l f a).put o.dst v ∧ R j v w' ∧ C w' ∧ Below w.heap.size w w') Q) ∨
    (Region.wanted o (yielded l.toArray (fillR 0 l f a).tmps) = false ∧ R j undef w)

theorem rel_any (l : List Oper) (a : Act) (hst : ∀ i v w w', R i v w → Below w.heap.size w w' → R i v w') (hap : apartR l = true) (hbd : ∀ j o, l[j]? = some o → ∀ e ∈ o.after, Region.binds .any e = true → e.on < j)
    (how : ∀ j o, l[j]? = some o → OweR P Q l C R a j o) (hend : ∀ f w, C w → (∀ j, j < l.length → R j (f j) w) → Q .normal (fillR 0 l f a) w) :
    ∀ (fuel : Nat) (listed : Array Bool) (f : Nat → Value) (w : World), listed.size = l.length → left l.length listed ≤ fuel → C w → (∀ j, j < l.length → listed.getD j true = true → R j (f j) w) →
      wpAny P .any l.toArray Q fuel listed (fillR 0 l f a) w := by
  have hrd : ∀ (listed : Array Bool), listed.size = l.length → Region.ready .any l.toArray listed = [] → ∀ j, j < l.length → listed.getD j true = true := by
    intro listed hsz h0
    intro j
    induction j using Nat.strongRecOn with
    | ind j ih =>
      intro hj
      cases hl : listed.getD j true with
      | true => rfl
      | false =>
        exfalso
        have hm : j ∈ Region.ready .any l.toArray listed := by
          rw [mem_ready]
          refine ⟨hl, l[j], by simp [hj], fun e he hb => ?_⟩
          have h1 := hbd j l[j] (List.getElem?_eq_getElem hj) e he hb
          have h2 := ih e.on h1 (by omega)
          rw [Array.getD, dif_pos (by omega)] at h2 ⊢
          exact h2
        rw [h0] at hm
        cases hm
  intro fuel
  induction fuel with
  | zero =>
    intro listed f w hsz hf hC hR
    have hall : ∀ j, j < l.length → listed.getD j true = true := by
      intro j hj
      cases hl : listed.getD j true with
      | true => rfl
      | false =>
        have := left_set hj hl
        omega
    refine ⟨?_, hend f w hC (fun j hj => hR j hj (hall j hj))⟩
    apply List.eq_nil_iff_forall_not_mem.2
    intro i hi
    obtain ⟨h1, o, ho, _⟩ := mem_ready.1 hi
    have hil : i < l.length := by
      have := (Array.getElem?_eq_some_iff.1 ho).1
      simpa using this
    rw [hall i hil] at h1
    cases h1
  | succ fuel ih =>
    intro listed f w hsz hf hC hR
    refine ⟨fun h0 => hend f w hC (fun j hj => hR j hj (hrd listed hsz h0 j hj)), fun i hi => ?_⟩
    obtain ⟨h1, o, ho, hdep⟩ := mem_ready.1 hi
    have ho' : l[i]? = some o := by simpa using ho
    have hil : i < l.length := (List.getElem?_eq_some_iff.1 ho').1
    have hdeps : ∀ e ∈ o.after, Region.binds .any e = true → R e.on (f e.on) w := fun e he hb => by
      have hlt := hbd i o ho' e he hb
      have h2 := hdep e he hb
      refine hR e.on (by omega) ?_
      rw [Array.getD, dif_pos (by omega)] at h2 ⊢
      exact h2
    have hnext : ∀ (v : Value) (w' : World), R i v w' → C w' → Below w.heap.size w w' → wpAny P .any l.toArray Q fuel (listed.setIfInBounds i true) ((fillR 0 l f a).put o.dst v) w' := by
      intro v w' hv hC' hb
      rw [fillR_set l 0 i o f a v hap ho', Nat.zero_add]
      refine ih _ _ w' (by simpa using hsz) (by have := left_set hil h1; omega) hC' (fun j hj hlj => ?_)
      by_cases hji : j = i
      · subst hji; rw [if_pos rfl]; exact hv
      · rw [if_neg hji]
        refine hst _ _ _ _ (hR j hj ?_) hb
        have : (listed.setIfInBounds i true).getD j true = listed.getD j true := by
          simp only [Array.getD]
          by_cases h3 : j < listed.size
          · simp [h3, Array.getElem_setIfInBounds, Ne.symm hji]
          · simp [h3]
        rw [← this]; exact hlj
    unfold wpOp
    simp only [ho]
    rcases how i o ho' f w hC hdeps with ⟨hw, hop⟩ | ⟨hw, hu⟩
    · rw [if_pos hw]
      refine .inl (Oper.wp_mono (fun a' w' h => ?_) hop)
      obtain ⟨v, rfl, hv, hC', hb⟩ := h
      exact hnext v w' hv hC' hb
    · rw [if_neg (by rw [hw]; exact Bool.false_ne_true)]
      exact hnext undef w hu hC (Below.refl _ _)

/-- **The region.** -/
theorem region_rel {id : Nat} {l : List Oper} {a : Act} {w : World} (C : World → Prop) (R : Nat → Value → World → Prop) (hm : P.follows .mixedOrders = true) (hC : C { w with drawn := w.drawn + 1 })
    (hst : ∀ i v w w', R i v w → Below w.heap.size w w' → R i v w') (hap : apartR l = true) (hbd : boundR 0 l = true) (hsz : (l.all fun o => match o.dst with | some t => decide (t < a.tmps.size) | none => true) = true)
    (how : ∀ j o, l[j]? = some o → OweR P Q l C R a j o) (hend : ∀ f w, C w → (∀ j, j < l.length → R j (f j) w) → Q .normal (fillR 0 l f a) w) : (Code.region id l.toArray true).wp P Q a w := by
  have hb : ∀ (l : List Oper) (i : Nat), boundR i l = true → ∀ j o, l[j]? = some o → ∀ e ∈ o.after, Region.binds .any e = true → e.on < i + j := by
    intro l
    induction l with
    | nil => intro i _ j o h; simp at h
    | cons p r ih =>
      intro i hb j o h e he hbb
      simp only [boundR, Bool.and_eq_true] at hb
      cases j with
      | zero =>
        simp at h
        subst h
        have := Array.all_eq_true_iff_forall_mem.1 hb.1 e he
        simp only [hbb, Bool.not_true, Bool.false_or, decide_eq_true_eq] at this
        exact this
      | succ j =>
        have := ih (i + 1) hb.2 j o (by simpa using h) e he hbb
        omega
  obtain ⟨f0, hf0⟩ := fillR_self l 0 a (fun o ho t ht => by
    have := List.all_eq_true.1 hsz o ho
    rw [ht] at this
    simpa using this)
  refine wp_region_any hm ?_
  have hsize : l.toArray.size = l.length := by simp
  rw [hsize, ← hf0]
  refine rel_any l a hst hap (fun j o ho e he hbb => by have := hb l 0 hbd j o ho e he hbb; rw [Nat.zero_add] at this; exact this) how hend l.length _ f0 _ (by simp) ?_ hC (fun j hj hl => ?_)
  · unfold left
    exact Nat.le_trans (List.length_filter_le _ _) (by simp)
  · simp [Array.getD, hj] at hl
end

/-! ### .. with a tail of operations that wait for all others, one behind the other -/
def depT (l : List Oper) : Nat → Nat → Nat → Bool
  | 0, _, _ => false
  | n + 1, j, k => match l[j]? with
    | some o => o.after.any fun e => Region.binds .any e && (e.on == k || depT l n e.on k)
    | none => false
theorem depT_listed {l : List Oper} {listed : Array Bool} (hcl : ∀ j o, l[j]? = some o → listed.getD j true = true → ∀ e ∈ o.after, Region.binds .any e = true → listed.getD e.on true = true) :
    ∀ (n j k : Nat) (o : Oper), l[j]? = some o → (∀ e ∈ o.after, Region.binds .any e = true → listed.getD e.on true = true) → depT l n j k = true → listed.getD k true = true
  | 0, _, _, _, _, _, h => by simp [depT] at h
  | n + 1, j, k, o, ho, hd, h => by
    simp only [depT, ho] at h
    obtain ⟨i, hi, he⟩ := Array.any_eq_true.1 h
    simp only [Bool.and_eq_true, Bool.or_eq_true, beq_iff_eq] at he
    have h1 := hd _ (Array.getElem_mem hi) he.1
    rcases he.2 with h2 | h2
    · rw [h2] at h1; exact h1
    · cases ho2 : l[(o.after[i]).on]? with
      | none =>
        cases n with
        | zero => simp [depT] at h2
        | succ n => simp [depT, ho2] at h2
      | some o2 => exact depT_listed hcl n _ k o2 ho2 (hcl _ o2 ho2 h1) h2
theorem getD_set_true {i j : Nat} {listed : Array Bool} : (listed.setIfInBounds i true).getD j true = (if j = i then true else listed.getD j true) := by
  simp only [Array.getD]
  by_cases h3 : j < listed.size
  · by_cases hji : j = i
    · subst hji; simp [h3]
    · simp [h3, Array.getElem_setIfInBounds, Ne.symm hji, hji]
  · simp [h3]
theorem getD_true_false {e n : Nat} {listed : Array Bool} (he : e < n) (hsz : listed.size = n) : listed.getD e false = listed.getD e true := by
  simp [Array.getD, hsz, he]

section
variable {P : Program} {Q : Exit → Act → World → Prop} {C : World → Prop} {R : Nat → Value → World → Prop}
theorem tail_any (l : List Oper) (t : Nat) (hbd : ∀ j o, l[j]? = some o → ∀ e ∈ o.after, Region.binds .any e = true → e.on < j) (hseq : ∀ j o, t < j → l[j]? = some o → ∃ e ∈ o.after, Region.binds .any e = true ∧ e.on = j - 1) :
    ∀ (m s : Nat) (listed : Array Bool) (a : Act) (w : World) (fuel : Nat), t ≤ s → s + m = l.length → m ≤ fuel → listed.size = l.length → (∀ j, j < l.length → listed.getD j true = decide (j < s)) →
      wpOps P l.toArray Q ((List.range m).map (· + s)) a w → wpAny P .any l.toArray Q fuel listed a w
  | 0, s, listed, a, w, fuel, hts, hsm, hf, hsz, hl, h => by
    have h0 : Region.ready .any l.toArray listed = [] := by
      apply List.eq_nil_iff_forall_not_mem.2
      intro i hi
      obtain ⟨h1, o, ho, _⟩ := mem_ready.1 hi
      have hil : i < l.length := by simpa using (Array.getElem?_eq_some_iff.1 ho).1
      rw [hl i hil, decide_eq_true (by omega)] at h1
      cases h1
    have h' : Q .normal a w := by simpa [wpOps] using h
    cases fuel with
    | zero => exact ⟨h0, h'⟩
    | succ fuel => exact ⟨fun _ => h', by rw [h0]; simp⟩
  | m + 1, s, listed, a, w, fuel, hts, hsm, hf, hsz, hl, h => by
    obtain ⟨fuel, rfl⟩ : ∃ k, fuel = k + 1 := ⟨fuel - 1, by omega⟩
    have hsl : s < l.length := by omega
    have hne : ∀ i ∈ Region.ready .any l.toArray listed, i = s := by
      intro i hi
      obtain ⟨h1, o, ho, hdep⟩ := mem_ready.1 hi
      have ho' : l[i]? = some o := by simpa using ho
      have hil : i < l.length := (List.getElem?_eq_some_iff.1 ho').1
      rw [hl i hil] at h1
      have his : s ≤ i := by simpa using h1
      rcases Nat.lt_or_ge s i with h2 | h2
      · obtain ⟨e, he, hb, heq⟩ := hseq i o (by omega) ho'
        have h3 := hdep e he hb
        rw [getD_true_false (by omega) hsz, hl e.on (by omega), heq] at h3
        simp at h3
        omega
      · omega
    have hin : s ∈ Region.ready .any l.toArray listed := by
      rw [mem_ready]
      refine ⟨by rw [hl s hsl]; simp, l[s], by simp [hsl], fun e he hb => ?_⟩
      have := hbd s l[s] (List.getElem?_eq_getElem hsl) e he hb
      rw [getD_true_false (by omega) hsz, hl e.on (by omega)]
      simp; omega
    refine ⟨fun h0 => (by rw [h0] at hin; cases hin), fun i hi => ?_⟩
    obtain rfl := hne i hi
    rw [List.range_succ_eq_map, List.map_cons, wpOps_cons, Nat.zero_add] at h
    refine wpOp_mono (fun a' w' h' => ?_) h
    refine tail_any l t hbd hseq m (i + 1) _ a' w' fuel (by omega) (by omega) (by omega) (by simpa using hsz) (fun j hj => ?_) ?_
    · rw [getD_set_true, hl j hj]
      by_cases hji : j = i
      · subst hji; simp
      · rw [if_neg hji]; simp; omega
    · rw [List.map_map] at h'
      rw [show ((· + (i + 1)) : Nat → Nat) = ((· + i) ∘ Nat.succ) from by funext k; simp; omega]
      exact h'

theorem rel_tail (l : List Oper) (t m : Nat) (htm : t + m = l.length) (hm0 : 0 < m) (a : Act) (hst : ∀ i v w w', R i v w → Below w.heap.size w w' → R i v w') (hap : apartR l = true) (hbd : ∀ j o, l[j]? = some o → ∀ e ∈ o.after, Region.binds .any e = true → e.on < j)
    (hseq : ∀ j o, t < j → l[j]? = some o → ∃ e ∈ o.after, Region.binds .any e = true ∧ e.on = j - 1) (hall : ∀ k, k < t → depT l t t k = true)
    (how : ∀ j o, j < t → l[j]? = some o → OweR P Q l C R a j o) (hend : ∀ f w, C w → (∀ j, j < t → R j (f j) w) → wpOps P l.toArray Q ((List.range m).map (· + t)) (fillR 0 l f a) w) :
    ∀ (fuel : Nat) (listed : Array Bool) (f : Nat → Value) (w : World), listed.size = l.length → left l.length listed ≤ fuel → C w → (∀ j, j < t → listed.getD j true = true → R j (f j) w) → (∀ j, t ≤ j → j < l.length → listed.getD j true = false) →
      (∀ j o, l[j]? = some o → listed.getD j true = true → ∀ e ∈ o.after, Region.binds .any e = true → listed.getD e.on true = true) →
      wpAny P .any l.toArray Q fuel listed (fillR 0 l f a) w := by
  have hfin : ∀ (fuel : Nat) (listed : Array Bool) (f : Nat → Value) (w : World), listed.size = l.length → left l.length listed ≤ fuel → C w → (∀ j, j < t → listed.getD j true = true → R j (f j) w) → (∀ j, t ≤ j → j < l.length → listed.getD j true = false) → (∀ j, j < t → listed.getD j true = true) → wpAny P .any l.toArray Q fuel listed (fillR 0 l f a) w := by
    intro fuel listed f w hsz hf hC hR ht hal
    refine tail_any l t hbd hseq m t listed _ w fuel (Nat.le_refl _) htm ?_ hsz (fun j hj => ?_) (hend f w hC (fun j hj => hR j hj (hal j hj)))
    · refine Nat.le_trans ?_ hf
      have hsub : ((List.range m).map (· + t)).length ≤ left l.length listed := by
        unfold left
        refine List.Sublist.length_le ?_
        have hr : List.range l.length = List.range t ++ (List.range m).map (· + t) := by
          rw [← htm, List.range_add]
          congr 1
          exact List.map_congr_left (fun k _ => Nat.add_comm _ _)
        rw [hr, List.filter_append]
        have h2 : ((List.range m).map (· + t)).filter (fun i => listed.getD i true == false) = (List.range m).map (· + t) := by
          rw [List.filter_eq_self]
          intro k hk
          obtain ⟨c, hc, rfl⟩ := List.mem_map.1 hk
          have := List.mem_range.1 hc
          rw [ht (c + t) (by omega) (by omega)]
          rfl
        rw [h2]
        exact List.sublist_append_right _ _
      simpa using hsub
    · rcases Nat.lt_or_ge j t with h | h
      · rw [hal j h]; simp [h]
      · rw [ht j h hj]; simp; omega
  intro fuel
  induction fuel with
  | zero =>
    intro listed f w hsz hf hC hR ht hcl
    exfalso
    have := left_set (n := l.length) (i := t) (listed := listed) (by omega) (ht t (Nat.le_refl _) (by omega))
    omega
  | succ fuel ih =>
    intro listed f w hsz hf hC hR ht hcl
    by_cases hal : ∀ j, j < t → listed.getD j true = true
    · exact hfin (fuel + 1) listed f w hsz hf hC hR ht hal
    have hless : ∀ i ∈ Region.ready .any l.toArray listed, i < t := by
      intro i hi
      obtain ⟨h1, o, ho, hdep⟩ := mem_ready.1 hi
      have ho' : l[i]? = some o := by simpa using ho
      have hil : i < l.length := (List.getElem?_eq_some_iff.1 ho').1
      rcases Nat.lt_trichotomy i t with h2 | h2 | h2
      · exact h2
      · exfalso
        subst h2
        refine hal (fun k hk => depT_listed hcl i i k o ho' (fun e he hb => ?_) (hall k hk))
        have h3 := hdep e he hb
        rw [getD_true_false (by have := hbd i o ho' e he hb; omega) hsz] at h3
        exact h3
      · exfalso
        obtain ⟨e, he, hb, heq⟩ := hseq i o h2 ho'
        have h3 := hdep e he hb
        rw [getD_true_false (by omega) hsz, ht e.on (by omega) (by omega)] at h3
        cases h3
    have hne : Region.ready .any l.toArray listed ≠ [] := by
      intro h0
      apply hal
      intro j
      induction j using Nat.strongRecOn with
      | ind j ihj =>
        intro hj
        cases hl : listed.getD j true with
        | true => rfl
        | false =>
          exfalso
          have hjl : j < l.length := by omega
          have hmm : j ∈ Region.ready .any l.toArray listed := by
            rw [mem_ready]
            refine ⟨hl, l[j], by simp [hjl], fun e he hb => ?_⟩
            have h1 := hbd j l[j] (List.getElem?_eq_getElem hjl) e he hb
            rw [getD_true_false (by omega) hsz]
            exact ihj e.on h1 (by omega)
          rw [h0] at hmm
          cases hmm
    refine ⟨fun h0 => absurd h0 hne, fun i hi => ?_⟩
    have hit := hless i hi
    obtain ⟨h1, o, ho, hdep⟩ := mem_ready.1 hi
    have ho' : l[i]? = some o := by simpa using ho
    have hil : i < l.length := (List.getElem?_eq_some_iff.1 ho').1
    have hdl : ∀ e ∈ o.after, Region.binds .any e = true → listed.getD e.on true = true := fun e he hb => by
      have h3 := hdep e he hb
      rw [getD_true_false (by have := hbd i o ho' e he hb; omega) hsz] at h3
      exact h3
    have hdeps : ∀ e ∈ o.after, Region.binds .any e = true → R e.on (f e.on) w := fun e he hb => hR e.on (by have := hbd i o ho' e he hb; omega) (hdl e he hb)
    have hnext : ∀ (v : Value) (w' : World), R i v w' → C w' → Below w.heap.size w w' → wpAny P .any l.toArray Q fuel (listed.setIfInBounds i true) ((fillR 0 l f a).put o.dst v) w' := by
      intro v w' hv hC' hb
      rw [fillR_set l 0 i o f a v hap ho', Nat.zero_add]
      refine ih _ _ w' (by simpa using hsz) (by have := left_set hil h1; omega) hC' (fun j hj hlj => ?_) (fun j hj hjl => ?_) (fun j oj hoj hlj e he hbe => ?_)
      · by_cases hji : j = i
        · subst hji; rw [if_pos rfl]; exact hv
        · rw [if_neg hji]
          refine hst _ _ _ _ (hR j hj ?_) hb
          rw [getD_set_true, if_neg hji] at hlj
          exact hlj
      · rw [getD_set_true, if_neg (by omega)]
        exact ht j hj hjl
      · rw [getD_set_true]
        split
        · rfl
        · by_cases hji : j = i
          · subst hji
            rw [ho'] at hoj
            injection hoj with hoj
            subst hoj
            exact hdl e he hbe
          · rw [getD_set_true, if_neg hji] at hlj
            exact hcl j oj hoj hlj e he hbe
    unfold wpOp
    simp only [ho]
    rcases how i o hit ho' f w hC hdeps with ⟨hw, hop⟩ | ⟨hw, hu⟩
    · rw [if_pos hw]
      refine .inl (Oper.wp_mono (fun a' w' h => ?_) hop)
      obtain ⟨v, rfl, hv, hC', hb⟩ := h
      exact hnext v w' hv hC' hb
    · rw [if_neg (by rw [hw]; exact Bool.false_ne_true)]
      exact hnext undef w hu hC (Below.refl _ _)
end

/-! ### the relations that are told -/
inductive Rk where
  | v (x : Value)
  | m (n : Nat) (l : List Mk)
  | u
def Rk.sat : Rk → Value → World → Prop
  | .v x, y, _ => y = x
  | .m n l, y, w => ∃ g, y = .slice (some ⟨g, 0, none⟩) n n ∧ Ms w (some ⟨g, 0, none⟩) n l
  | .u, _, _ => True
theorem Rk.stable : ∀ (k : Rk) (v : Value) (w w' : World), k.sat v w → Below w.heap.size w w' → k.sat v w'
  | .v x, _, _, _, h, _ => h
  | .m n l, _, _, _, ⟨g, h1, h2⟩, hb => ⟨g, h1, h2.below hb⟩
  | .u, _, _, _, _, _ => trivial
def allR (p : Nat → Oper → Prop) : Nat → List Oper → Prop
  | _, [] => True
  | i, o :: r => p i o ∧ allR p (i + 1) r
theorem allR_of (p : Nat → Oper → Prop) : ∀ (l : List Oper) (i : Nat), allR p i l → ∀ j o, l[j]? = some o → p (i + j) o
  | [], _, _, _, _, h => by simp at h
  | q :: r, i, hp, 0, o, h => by simp at h; subst h; exact hp.1
  | q :: r, i, hp, j + 1, o, h => by
    have := allR_of p r (i + 1) hp.2 j o (by simpa using h)
    rw [show i + 1 + j = i + (j + 1) by omega] at this
    exact this
def relOf (L : List Rk) (i : Nat) : Value → World → Prop := (L.getD i .u).sat
theorem region_rel2 {P : Program} {Q : Exit → Act → World → Prop} {id : Nat} {l : List Oper} {a : Act} {w : World} (C : World → Prop) (L : List Rk) (hm : P.follows .mixedOrders = true) (hC : C { w with drawn := w.drawn + 1 })
    (hap : apartR l = true) (hbd : boundR 0 l = true) (hsz : (l.all fun o => match o.dst with | some t => decide (t < a.tmps.size) | none => true) = true)
    (how : allR (fun j o => OweR P Q l C (relOf L) a j o) 0 l) (hend : ∀ f w, C w → (∀ j, j < l.length → relOf L j (f j) w) → Q .normal (fillR 0 l f a) w) : (Code.region id l.toArray true).wp P Q a w :=
  region_rel C (relOf L) hm hC (fun i v w w' h hb => Rk.stable _ v w w' h hb) hap hbd hsz (fun j o ho => by have := allR_of _ l 0 how j o ho; rw [Nat.zero_add] at this; exact this) hend
theorem dep_of {o : Oper} {L : List Rk} {f : Nat → Value} {w : World} (hd : ∀ e ∈ o.after, Region.binds .any e = true → relOf L e.on (f e.on) w) (k : Nat) (h : (o.after.any fun e => Region.binds .any e && e.on == k) = true) : relOf L k (f k) w := by
  obtain ⟨i, hi, he⟩ := Array.any_eq_true.1 h
  simp only [Bool.and_eq_true, beq_iff_eq] at he
  have := hd _ (Array.getElem_mem hi) he.1
  rw [he.2] at this
  exact this
theorem owe_value {P : Program} {Q : Exit → Act → World → Prop} {o : Oper} {a : Act} {w w1 : World} {G : Value → World → Prop} {v : Value} (h : (execOp a.eval o).run P w = .ok (.value v) w1) (hG : G v w1) :
    o.wp P a w (fun a' w' => ∃ v, a' = a.put o.dst v ∧ G v w') Q := by
  unfold Oper.wp
  rw [h]
  exact ⟨v, rfl, hG⟩
theorem owe_enter {P : Program} {Q : Exit → Act → World → Prop} {o : Oper} {a : Act} {w w1 : World} {G : Value → World → Prop} {f : FuncId} {args : Array Value} (h : (execOp a.eval o).run P w = .ok (.enter f args) w1)
    (hc : Calls P f args w1 fun e w2 => ∃ v, e = .returned v ∧ G v w2) : o.wp P a w (fun a' w' => ∃ v, a' = a.put o.dst v ∧ G v w') Q := by
  unfold Oper.wp
  rw [h]
  refine Calls.mono hc ?_
  rintro e w2 ⟨v, rfl, hG⟩
  exact ⟨v, rfl, hG⟩

def seqB : Nat → List Oper → Bool
  | _, [] => true
  | j, o :: r => (o.after.any fun e => Region.binds .any e && e.on == j - 1) && seqB (j + 1) r
theorem seqB_spec : ∀ (r : List Oper) (i : Nat), seqB i r = true → ∀ k o, r[k]? = some o → ∃ e ∈ o.after, Region.binds .any e = true ∧ e.on = i + k - 1
  | [], _, _, _, _, h => by simp at h
  | p :: r, i, hs, 0, o, h => by
    simp at h
    subst h
    simp only [seqB, Bool.and_eq_true] at hs
    obtain ⟨j, hj, he⟩ := Array.any_eq_true.1 hs.1
    simp only [Bool.and_eq_true, beq_iff_eq] at he
    exact ⟨_, Array.getElem_mem hj, he.1, by simpa using he.2⟩
  | p :: r, i, hs, k + 1, o, h => by
    simp only [seqB, Bool.and_eq_true] at hs
    obtain ⟨e, he, hb, hq⟩ := seqB_spec r (i + 1) hs.2 k o (by simpa using h)
    exact ⟨e, he, hb, by omega⟩
theorem boundR_spec : ∀ (l : List Oper) (i : Nat), boundR i l = true → ∀ j o, l[j]? = some o → ∀ e ∈ o.after, Region.binds .any e = true → e.on < i + j
  | [], _, _, _, _, h => by simp at h
  | p :: r, i, hb, 0, o, h => by
    intro e he hbb
    simp at h
    subst h
    simp only [boundR, Bool.and_eq_true] at hb
    have := Array.all_eq_true_iff_forall_mem.1 hb.1 e he
    simp only [hbb, Bool.not_true, Bool.false_or, decide_eq_true_eq] at this
    exact this
  | p :: r, i, hb, j + 1, o, h => by
    intro e he hbb
    simp only [boundR, Bool.and_eq_true] at hb
    have := boundR_spec r (i + 1) hb.2 j o (by simpa using h) e he hbb
    omega
theorem region_rel3 {P : Program} {Q : Exit → Act → World → Prop} {id : Nat} {l : List Oper} {a : Act} {w : World} (C : World → Prop) (L : List Rk) (t m : Nat) (hm : P.follows .mixedOrders = true) (hC : C { w with drawn := w.drawn + 1 })
    (htm : t + m = l.length) (hm0 : 0 < m) (hap : apartR l = true) (hbd : boundR 0 l = true) (hsz : (l.all fun o => match o.dst with | some t => decide (t < a.tmps.size) | none => true) = true)
    (hseq : seqB (t + 1) (l.drop (t + 1)) = true) (hall : ((List.range t).all fun k => depT l t t k) = true)
    (how : allR (fun j o => OweR P Q l C (relOf L) a j o) 0 (l.take t)) (hend : ∀ f w, C w → (∀ j, j < t → relOf L j (f j) w) → wpOps P l.toArray Q ((List.range m).map (· + t)) (fillR 0 l f a) w) : (Code.region id l.toArray true).wp P Q a w := by
  obtain ⟨f0, hf0⟩ := fillR_self l 0 a (fun o ho t ht => by
    have := List.all_eq_true.1 hsz o ho
    rw [ht] at this
    simpa using this)
  have hb := boundR_spec l 0 hbd
  refine wp_region_any hm ?_
  have hsize : l.toArray.size = l.length := by simp
  rw [hsize, ← hf0]
  refine rel_tail (R := relOf L) l t m htm hm0 a (fun i v w w' h hb => Rk.stable _ v w w' h hb) hap (fun j o ho e he hbb => by have := hb j o ho e he hbb; omega)
    (fun j o hj ho => ?_) (fun k hk => List.all_eq_true.1 hall k (List.mem_range.2 hk)) (fun j o hj ho => ?_) hend l.length _ f0 _ (by simp) ?_ hC (fun j hj hl => ?_) (fun j hj hjl => by simp [Array.getD, hjl]) (fun j o ho hl => ?_)
  · obtain ⟨e, he, hbb, hq⟩ := seqB_spec _ (t + 1) hseq (j - (t + 1)) o (by rw [List.getElem?_drop, show t + 1 + (j - (t + 1)) = j by omega]; exact ho)
    exact ⟨e, he, hbb, by omega⟩
  · have := allR_of _ (l.take t) 0 how j o (by rw [List.getElem?_take, if_pos hj]; exact ho)
    rw [Nat.zero_add] at this
    exact this
  · unfold left
    exact Nat.le_trans (List.length_filter_le _ _) (by simp)
  · simp [Array.getD, show j < l.length by omega] at hl
  · have hjl : j < l.length := (List.getElem?_eq_some_iff.1 ho).1
    simp [Array.getD, hjl] at hl
end MskL
end Go.Proofs.YtcekgllahlhaaaaGreatDoor

namespace Go.Proofs.YtcekgllahlhaaaaGreatDoor
namespace MskL
open Go.RowKit Go.Shelf
set_option linter.unusedVariables false
set_option linter.unusedSimpArgs false
set_option maxRecDepth 100000

/-- Whether the slot is in the mask. -/
def hasB (m : Mk) (n : Int) : Bool := slotB n && has m n.toNat
theorem mk_empty : mk (fun _ => false) = (0, 0) := by decide +kernel
theorem one_in (m : Mk) (k : Nat) (hk : k < 96) : decide (mk (fun j => has m j && decide (j = k)) = (0, 0)) = !has m k := by
  rw [← mk_empty, Bool.eq_iff_iff, decide_eq_true_iff]
  constructor
  · intro h
    have := mk_inj h k hk
    simpa using this
  · intro h
    refine mk_congr (fun j hj => ?_)
    by_cases hjk : j = k
    · subst hjk; simpa using h
    · simp [hjk]

set_option maxHeartbeats 4000000 in
theorem has_any (m : Mk) (n : Int) (w : World) (h : Fine m) (hn : -9223372036854775808 ≤ n ∧ n ≤ 9223372036854775807) :
    Calls Tryz.prog 53 #[mv m, .int .i64 n] w fun e w' => e = .returned (.bool (hasB m n)) ∧ Below w.heap.size w w' := by
  have HI := Lib.hid (fun (W : World) => (isSlot_any n W hn).mono (fun e w' (q : e = .returned (.bool (slotB n)) ∧ W = w') => show e = .returned (.bool (slotB n)) ∧ Below W.heap.size W w' from ⟨q.1, q.2 ▸ Below.refl _ _⟩))
  obtain ⟨hb0, hm0⟩ := mbox_world w m
  obtain ⟨w1, hw1⟩ : ∃ w1, w1 = w.alloc (.cells #[.int .u64 m.1, .int .u64 m.2] 70) := ⟨_, rfl⟩
  rw [← hw1] at hb0 hm0
  have HK := Lib.hid (fun (X : World) (hX : Below w1.heap.size w1 X) => show X.cell? ⟨w.heap.size, 0, none⟩ = some (.int .u64 m.1) ∧ X.cell? ⟨w.heap.size, 1, none⟩ = some (.int .u64 m.2) from by
    have h := hm0.below hX hm0.lt
    exact ⟨h.cell0, h.cell1⟩)
  have HB0 := Lib.hid hb0
  have HW1 := Lib.hid hw1
  clear hb0 hm0 hw1
  cases hs : slotB n with
  | false =>
    have HF := Lib.hid (show hasB m n = false by unfold hasB; rw [hs]; rfl)
    rw [hs] at HI
    clear hs h hn
    unfold mv
    go_enter Tryz.func53, Tryz.ntmps53
    go_wp2_with (rw [← HW1.out])
    refine region_rel2 (fun X => Below w1.heap.size w1 X) [.v (.int .i64 n), .v (.bool false), .v (.bool false), .u, .u, .u, .u, .u, .u, .u, .v (.bool false), .v (.bool false)]
      (by kernel_rfl) (below_drew (Below.refl _ _)) (by kernel_rfl) (by kernel_rfl) (by kernel_rfl) ?_ ?_
    · refine ⟨?_, ?_, ?_, ?_, ?_, ?_, ?_, ?_, ?_, ?_, ?_, ?_, trivial⟩
      · intro f w hw hd
        simp [fillR, Act.put, go_sem, relOf, Rk.sat, hw, Below.refl]
      · intro f w hw hd
        have e0 : f 0 = .int .i64 n := dep_of hd 0 (by kernel_rfl)
        simp [fillR, Act.put, go_sem, relOf, Rk.sat, hw, Below.refl, e0]
        refine (HI.out w).mono ?_
        rintro e w2 ⟨rfl, hb⟩
        simp
        exact ⟨hw.trans (hb.mono hw.size), hb⟩
      · intro f w hw hd
        have e1 : f 1 = .bool false := dep_of hd 1 (by kernel_rfl)
        simp [fillR, Act.put, go_sem, relOf, Rk.sat, hw, Below.refl, e1]
      · intro f w hw hd
        have e2 : f 2 = .bool false := dep_of hd 2 (by kernel_rfl)
        simp [fillR, Act.put, go_sem, relOf, Rk.sat, hw, Below.refl, e2]
      · intro f w hw hd
        have e2 : f 2 = .bool false := dep_of hd 2 (by kernel_rfl)
        simp [fillR, Act.put, go_sem, relOf, Rk.sat, hw, Below.refl, e2]
      · intro f w hw hd
        have e2 : f 2 = .bool false := dep_of hd 2 (by kernel_rfl)
        simp [fillR, Act.put, go_sem, relOf, Rk.sat, hw, Below.refl, e2]
      · intro f w hw hd
        have e2 : f 2 = .bool false := dep_of hd 2 (by kernel_rfl)
        simp [fillR, Act.put, go_sem, relOf, Rk.sat, hw, Below.refl, e2]
      · intro f w hw hd
        have e2 : f 2 = .bool false := dep_of hd 2 (by kernel_rfl)
        simp [fillR, Act.put, go_sem, relOf, Rk.sat, hw, Below.refl, e2]
      · intro f w hw hd
        have e2 : f 2 = .bool false := dep_of hd 2 (by kernel_rfl)
        simp [fillR, Act.put, go_sem, relOf, Rk.sat, hw, Below.refl, e2]
      · intro f w hw hd
        have e2 : f 2 = .bool false := dep_of hd 2 (by kernel_rfl)
        simp [fillR, Act.put, go_sem, relOf, Rk.sat, hw, Below.refl, e2]
      · intro f w hw hd
        have e2 : f 2 = .bool false := dep_of hd 2 (by kernel_rfl)
        simp [fillR, Act.put, go_sem, relOf, Rk.sat, hw, Below.refl, e2]
      · intro f w hw hd
        have e10 : f 10 = .bool false := dep_of hd 10 (by kernel_rfl)
        simp [fillR, Act.put, go_sem, relOf, Rk.sat, hw, Below.refl, e10]
    intro f w2 hw hr
    have ef : f 11 = .bool false := hr 11 (by simp)
    have HW2 := Lib.hid (HB0.out.trans (hw.mono HB0.out.size))
    clear hr hw HK
    simp [fillR, Act.put, ef]
    go_wp2
    go_ret
    rw [HF.out]
    exact ⟨rfl, HW2.out⟩
  | true =>
    obtain ⟨h0, h96⟩ := slotB_yes hs
    obtain ⟨k, rfl⟩ := Int.eq_ofNat_of_zero_le h0
    rw [hs] at HI
    obtain ⟨S, hS⟩ : ∃ S, S = mk fun j => decide ((j : Int) = (k : Int)) := ⟨_, rfl⟩
    obtain ⟨M, hM⟩ : ∃ M, M = mk fun j => has m j && decide (j = k) := ⟨_, rfl⟩
    have HSg := Lib.hid (fun W => show Calls Tryz.prog 45 #[.int .i64 k] W (fun e w' => e = .returned (mv S) ∧ Below W.heap.size W w') from by rw [hS]; exact single_any k W ⟨h0, h96⟩)
    have HAn := Lib.hid (fun (W : World) (A : Option Addr) (hA : Ms W A 2 [m, S]) => show Calls Tryz.prog 50 #[.slice A 2 2] W (fun e w' => e = .returned (mv M) ∧ Below W.heap.size W w') from by
      have := and_any A 2 [m, S] W hA
      unfold GivesM at this
      rw [show mk (fun n => [m, S].all fun m => has m n) = M from by rw [hM, hS]; exact mk_congr (fun j hj => by rw [Bool.eq_iff_iff]; simp [has_mk, hj]; omega)] at this
      exact this)
    have HOr := Lib.hid (fun (W : World) => show Calls Tryz.prog 44 #[.slice none 0 0] W (fun e w' => e = .returned (.agg #[.int .u64 0, .int .u64 0]) ∧ Below W.heap.size W w') from by
      have := or_any none 0 [] W (Ms.nil W)
      unfold GivesM at this
      rw [show mk (fun n => ([] : List Mk).any fun m => has m n) = (0, 0) from mk_empty] at this
      exact this)
    have HMs := Lib.hid (fun (W : World) => Ms.two W m S h (by rw [hS]; exact mk_fine _))
    obtain ⟨b, hb⟩ : ∃ b, b = hasB m k := ⟨_, rfl⟩
    have HE := Lib.hid (fun (W : World) => show (Op.equalIn 10000 70 (.agg #[.int .u64 M.1, .int .u64 M.2]) (.agg #[.int .u64 0, .int .u64 0])).run Tryz.prog W = .ok (!b) W from by
      have := eqM M (0, 0) W
      rw [show decide (M = (0, 0)) = !b from by rw [hM, one_in m k (by omega), hb]; unfold hasB; rw [hs]; rfl] at this
      exact this)
    have HF := Lib.hid hb
    clear hS hM h hn hb h0 h96 hs
    unfold mv at *
    go_enter Tryz.func53, Tryz.ntmps53
    go_wp2_with (rw [← HW1.out])
    refine region_rel2 (fun X => Below w1.heap.size w1 X) [.v (.int .i64 k), .v (.bool true), .v (.bool true), .v (.agg #[.int .u64 m.1, .int .u64 m.2]), .v (.int .i64 k), .v (.agg #[.int .u64 S.1, .int .u64 S.2]), .m 2 [m, S], .v (.agg #[.int .u64 M.1, .int .u64 M.2]), .v (.agg #[.int .u64 0, .int .u64 0]), .v (.bool b), .v (.bool b), .v (.bool b)]
      (by kernel_rfl) (below_drew (Below.refl _ _)) (by kernel_rfl) (by kernel_rfl) (by kernel_rfl) ?_ ?_
    · refine ⟨?_, ?_, ?_, ?_, ?_, ?_, ?_, ?_, ?_, ?_, ?_, ?_, trivial⟩
      · intro f w hw hd
        simp [fillR, Act.put, go_sem, relOf, Rk.sat, hw, Below.refl]
      · intro f w hw hd
        have e0 : f 0 = .int .i64 k := dep_of hd 0 (by kernel_rfl)
        simp [fillR, Act.put, go_sem, relOf, Rk.sat, hw, Below.refl, e0]
        refine (HI.out w).mono ?_
        rintro e w2 ⟨rfl, hb⟩
        simp
        exact ⟨hw.trans (hb.mono hw.size), hb⟩
      · intro f w hw hd
        have e1 : f 1 = .bool true := dep_of hd 1 (by kernel_rfl)
        simp [fillR, Act.put, go_sem, relOf, Rk.sat, hw, Below.refl, e1]
      · intro f w hw hd
        have e2 : f 2 = .bool true := dep_of hd 2 (by kernel_rfl)
        obtain ⟨z0, z1⟩ := HK.out w hw
        simp [fillR, Act.put, go_sem, relOf, Rk.sat, hw, Below.refl, e2, z0, z1]
      · intro f w hw hd
        have e2 : f 2 = .bool true := dep_of hd 2 (by kernel_rfl)
        simp [fillR, Act.put, go_sem, relOf, Rk.sat, hw, Below.refl, e2]
      · intro f w hw hd
        have e4 : f 4 = .int .i64 k := dep_of hd 4 (by kernel_rfl)
        have e2 : f 2 = .bool true := dep_of hd 2 (by kernel_rfl)
        simp [fillR, Act.put, go_sem, relOf, Rk.sat, hw, Below.refl, e4, e2]
        refine (HSg.out w).mono ?_
        rintro e w2 ⟨rfl, hb⟩
        simp
        exact ⟨hw.trans (hb.mono hw.size), hb⟩
      · intro f w hw hd
        have e3 : f 3 = .agg #[.int .u64 m.1, .int .u64 m.2] := dep_of hd 3 (by kernel_rfl)
        have e5 : f 5 = .agg #[.int .u64 S.1, .int .u64 S.2] := dep_of hd 5 (by kernel_rfl)
        have e2 : f 2 = .bool true := dep_of hd 2 (by kernel_rfl)
        simp [fillR, Act.put, go_sem, relOf, Rk.sat, hw, Below.refl, e3, e5, e2]
        exact ⟨HMs.out w, hw.alloc hw.size _, (Below.refl _ _).alloc (Nat.le_refl _) _⟩
      · intro f w hw hd
        obtain ⟨g6, e6, ms6⟩ : ∃ g, f 6 = .slice (some ⟨g, 0, none⟩) 2 2 ∧ Ms w (some ⟨g, 0, none⟩) 2 [m, S] := dep_of hd 6 (by kernel_rfl)
        have e2 : f 2 = .bool true := dep_of hd 2 (by kernel_rfl)
        simp [fillR, Act.put, go_sem, relOf, Rk.sat, hw, Below.refl, e6, e2]
        refine (HAn.out w _ ms6).mono ?_
        rintro e w2 ⟨rfl, hb⟩
        simp
        exact ⟨hw.trans (hb.mono hw.size), hb⟩
      · intro f w hw hd
        have e2 : f 2 = .bool true := dep_of hd 2 (by kernel_rfl)
        simp [fillR, Act.put, go_sem, relOf, Rk.sat, hw, Below.refl, e2]
        refine (HOr.out w).mono ?_
        rintro e w2 ⟨rfl, hb⟩
        simp
        exact ⟨hw.trans (hb.mono hw.size), hb⟩
      · intro f w hw hd
        have e7 : f 7 = .agg #[.int .u64 M.1, .int .u64 M.2] := dep_of hd 7 (by kernel_rfl)
        have e8 : f 8 = .agg #[.int .u64 0, .int .u64 0] := dep_of hd 8 (by kernel_rfl)
        have e2 : f 2 = .bool true := dep_of hd 2 (by kernel_rfl)
        simp [fillR, Act.put, go_sem, relOf, Rk.sat, hw, Below.refl, e7, e8, e2, HE.out w]
      · intro f w hw hd
        have e2 : f 2 = .bool true := dep_of hd 2 (by kernel_rfl)
        have e9 : f 9 = .bool b := dep_of hd 9 (by kernel_rfl)
        simp [fillR, Act.put, go_sem, relOf, Rk.sat, hw, Below.refl, e2, e9]
      · intro f w hw hd
        have e10 : f 10 = .bool b := dep_of hd 10 (by kernel_rfl)
        simp [fillR, Act.put, go_sem, relOf, Rk.sat, hw, Below.refl, e10]
    intro f w2 hw hr
    have ef : f 11 = .bool b := hr 11 (by simp)
    have HW2 := Lib.hid (HB0.out.trans (hw.mono HB0.out.size))
    clear hr hw HK
    simp [fillR, Act.put, ef]
    go_wp2
    go_ret
    rw [← HF.out]
    exact ⟨rfl, HW2.out⟩
end MskL
end Go.Proofs.YtcekgllahlhaaaaGreatDoor
