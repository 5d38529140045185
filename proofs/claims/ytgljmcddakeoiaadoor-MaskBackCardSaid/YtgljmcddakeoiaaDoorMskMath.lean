/-
  Masks as values: words by their bits; what has a mask; counting bits.
-/
import Derived.Laws.BitsAllLaws
import Derived.Laws.Bits64b
namespace Go.Proofs.YtgljmcddakeoiaaDoor
open Go
set_option linter.unusedVariables false
set_option linter.unusedSimpArgs false

/-- The word of which the bits below k are those of f. -/
def wd (f : Nat → Bool) : Nat → Nat
  | 0 => 0
  | k + 1 => wd f k + (if f k then 2 ^ k else 0)
theorem wd_lt (f : Nat → Bool) : ∀ k, wd f k < 2 ^ k
  | 0 => by simp [wd]
  | k + 1 => by
    have := wd_lt f k
    unfold wd
    rw [Nat.pow_succ]
    split <;> omega
theorem wd_bit (f : Nat → Bool) : ∀ k i, (wd f k).testBit i = (decide (i < k) && f i)
  | 0, i => by simp [wd]
  | k + 1, i => by
    have ih := wd_bit f k
    have hl := wd_lt f k
    unfold wd
    cases hf : f k with
    | false =>
      have hz : (if (false : Bool) = true then 2 ^ k else 0) = 0 := rfl
      rw [hz, Nat.add_zero, ih]
      by_cases h : i = k
      · subst h; simp [hf]
      · have : decide (i < k) = decide (i < k + 1) := by simp; omega
        rw [this]
    | true =>
      have hz : (if (true : Bool) = true then 2 ^ k else 0) = 2 ^ k := rfl
      rw [hz, Nat.add_comm]
      rcases Nat.lt_trichotomy i k with h | h | h
      · rw [Nat.testBit_two_pow_add_gt h, ih]
        have : decide (i < k) = decide (i < k + 1) := by simp; omega
        rw [this]
      · subst h
        rw [Nat.testBit_two_pow_add_eq, ih]
        simp [hf]
      · rw [Nat.testBit_lt_two_pow (Nat.lt_of_lt_of_le (show 2 ^ k + wd f k < 2 ^ (k + 1) by rw [Nat.pow_succ]; omega) (Nat.pow_le_pow_right (by decide) h))]
        have : ¬ i < k + 1 := by omega
        simp [this]

/-- A mask as two words. -/
abbrev Mk := Nat × Nat
def has (m : Mk) (n : Nat) : Bool := if n < 64 then m.1.testBit n else decide (n < 96) && m.2.testBit (n - 64)
def mk (f : Nat → Bool) : Mk := (wd f 64, wd (fun j => f (64 + j)) 32)
def Fine (m : Mk) : Prop := m.1 < 18446744073709551616 ∧ m.2 < 18446744073709551616
theorem has_mk (f : Nat → Bool) (n : Nat) : has (mk f) n = (decide (n < 96) && f n) := by
  unfold has mk
  by_cases h : n < 64
  · have h2 : n < 96 := by omega
    simp [h, h2, wd_bit]
  · have h2 : decide (n - 64 < 32) = decide (n < 96) := by simp; omega
    have h3 : 64 + (n - 64) = n := by omega
    simp only [h, if_false, wd_bit, h3, h2]
    cases decide (n < 96) <;> rfl
theorem has_lt {m : Mk} {n : Nat} (h : has m n = true) : n < 96 := by
  unfold has at h
  split at h
  · omega
  · simp at h; exact h.1
theorem has_ge {m : Mk} {n : Nat} (h : 96 ≤ n) : has m n = false := by
  cases e : has m n with
  | false => rfl
  | true => have := has_lt e; omega
theorem wd_congr {f g : Nat → Bool} : ∀ {k : Nat}, (∀ n, n < k → f n = g n) → wd f k = wd g k
  | 0, _ => rfl
  | k + 1, h => by unfold wd; rw [wd_congr (fun n hn => h n (by omega)), h k (by omega)]
theorem mk_congr {f g : Nat → Bool} (h : ∀ n, n < 96 → f n = g n) : mk f = mk g := by
  unfold mk
  rw [wd_congr (fun n hn => h n (by omega)), wd_congr (f := fun j => f (64 + j)) (g := fun j => g (64 + j)) (fun n hn => h (64 + n) (by omega))]
theorem mk_has (f : Nat → Bool) : mk (has (mk f)) = mk f := mk_congr (fun n hn => by rw [has_mk]; simp [hn])
theorem mk_inj {f g : Nat → Bool} (h : mk f = mk g) (n : Nat) (hn : n < 96) : f n = g n := by
  have := congrArg (fun m => has m n) h
  simp only [has_mk, hn, decide_true, Bool.true_and] at this
  exact this
theorem mk_iff {f g : Nat → Bool} : mk f = mk g ↔ ∀ n, n < 96 → f n = g n := ⟨mk_inj, mk_congr⟩
theorem wd_lt64 (f : Nat → Bool) : wd f 64 < 18446744073709551616 := wd_lt f 64
theorem mk_fine (f : Nat → Bool) : Fine (mk f) := ⟨wd_lt f 64, Nat.lt_trans (wd_lt _ 32) (by decide)⟩
/-- Two words by their bits. -/
theorem mk_words {f : Nat → Bool} {a b : Nat} (ha : a < 18446744073709551616) (h0 : ∀ i, i < 64 → a.testBit i = f i) (h1 : ∀ i, i < 32 → b.testBit i = f (64 + i)) : (a, b % 4294967296) = mk f := by
  unfold mk
  have ea : a = wd f 64 := by
    apply Nat.eq_of_testBit_eq
    intro i
    rw [wd_bit]
    by_cases h : i < 64
    · rw [h0 i h]; simp [h]
    · rw [Nat.testBit_lt_two_pow (Nat.lt_of_lt_of_le (show a < 2 ^ 64 by omega) (Nat.pow_le_pow_right (by decide) (by omega)))]
      simp [h]
  have eb : b % 4294967296 = wd (fun j => f (64 + j)) 32 := by
    apply Nat.eq_of_testBit_eq
    intro i
    rw [wd_bit, show (4294967296 : Nat) = 2 ^ 32 from rfl, Nat.testBit_mod_two_pow]
    by_cases h : i < 32
    · rw [h1 i h]
    · simp [h]
  rw [← ea, ← eb]
theorem has0 (m : Mk) (i : Nat) (h : i < 64) : has m i = m.1.testBit i := by unfold has; rw [if_pos h]
theorem has1 (m : Mk) (i : Nat) (h : i < 32) : has m (64 + i) = m.2.testBit i := by
  unfold has
  have h1 : ¬ (64 + i < 64) := by omega
  have h2 : 64 + i < 96 := by omega
  have h3 : 64 + i - 64 = i := by omega
  rw [if_neg h1, h3]; simp [h2]

/-- The bits below n, of a word. -/
theorem low_bit (n i : Nat) (hn : n ≤ 64) (hi : i < 64) : (18446744073709551615 / 2 ^ (64 - n)).testBit i = decide (i < n) := by
  rw [Nat.testBit_div_two_pow, show (18446744073709551615 : Nat) = 2 ^ 64 - 1 from rfl, Nat.testBit_two_pow_sub_one]
  simp
  omega
theorem low_lt (n : Nat) : 18446744073709551615 / 2 ^ (64 - n) < 18446744073709551616 := Nat.lt_of_le_of_lt (Nat.div_le_self _ _) (by decide)
theorem not_bit (b i : Nat) (hb : b < 18446744073709551616) (hi : i < 64) : (18446744073709551615 - b).testBit i = !b.testBit i := by
  have e : 18446744073709551615 - b = 2 ^ 64 - (b + 1) := by omega
  rw [e, Nat.testBit_two_pow_sub_succ (show b < 2 ^ 64 by omega)]
  simp [hi]
theorem xor_bit (b i : Nat) (hi : i < 64) : (18446744073709551615 ^^^ b).testBit i = !b.testBit i := by
  rw [Nat.testBit_xor, show (18446744073709551615 : Nat) = 2 ^ 64 - 1 from rfl, Nat.testBit_two_pow_sub_one]
  simp [hi]
theorem full_bit (i : Nat) (hi : i < 64) : (18446744073709551615 : Nat).testBit i = true := by
  rw [show (18446744073709551615 : Nat) = 2 ^ 64 - 1 from rfl, Nat.testBit_two_pow_sub_one]
  simp [hi]

/-- How many are in a set of slots below k. -/
def cnt (f : Nat → Bool) (k : Nat) : Nat := ((List.range k).filter f).length
def slots (m : Mk) : List Nat := (List.range 96).filter (has m)
theorem cnt_succ (f : Nat → Bool) (k : Nat) : cnt f (k + 1) = cnt f k + (if f k then 1 else 0) := by
  unfold cnt
  rw [List.range_succ, List.filter_append, List.length_append]
  cases h : f k <;> simp [h]
theorem cnt_le (f : Nat → Bool) (k : Nat) : cnt f k ≤ k := by
  unfold cnt
  exact Nat.le_trans (List.length_filter_le _ _) (by simp)
theorem cnt_congr {f g : Nat → Bool} : ∀ {k : Nat}, (∀ n, n < k → f n = g n) → cnt f k = cnt g k
  | 0, _ => rfl
  | k + 1, h => by rw [cnt_succ, cnt_succ, cnt_congr (fun n hn => h n (by omega)), h k (by omega)]
theorem cnt_add (f : Nat → Bool) (j : Nat) : ∀ k, cnt f (j + k) = cnt f j + cnt (fun i => f (j + i)) k
  | 0 => by simp [cnt]
  | k + 1 => by rw [← Nat.add_assoc, cnt_succ, cnt_add f j k, cnt_succ, Nat.add_assoc]

/-- Bits of a word, counted from below. -/
def popA : Nat → Nat → Nat
  | 0, _ => 0
  | f + 1, x => x % 2 + popA f (x / 2)
theorem pop_cnt (x : Nat) : ∀ k, popA k x = cnt x.testBit k := by
  have h : ∀ k x, popA k x = cnt x.testBit k := by
    intro k
    induction k with
    | zero => intro x; rfl
    | succ k ih =>
      intro x
      unfold popA
      rw [ih, Nat.add_comm k 1, cnt_add, cnt_succ]
      have e : (fun i => x.testBit (1 + i)) = (x / 2).testBit := by funext i; rw [Nat.add_comm, Nat.testBit_succ]
      rw [e]
      have e0 : x.testBit 0 = decide (x % 2 = 1) := Nat.testBit_zero x
      rw [e0]
      simp only [cnt, List.range_zero, List.filter_nil, List.length_nil, Nat.zero_add]
      by_cases h2 : x % 2 = 1
      · simp [h2]
      · simp [h2]; omega
  exact fun k => h k x
theorem pop_low (k x : Nat) : popA k x = popA k (x % 2 ^ k) := by
  rw [pop_cnt, pop_cnt]
  exact cnt_congr (fun n hn => by rw [Nat.testBit_mod_two_pow]; simp [hn])

/-- One byte behind another. -/
theorem and_byte (a m x M : Nat) (ha : a < 256) (hm : m < 256) : (a + 256 * x) &&& (m + 256 * M) = (a &&& m) + 256 * (x &&& M) := by
  have h : a &&& m < 256 := Nat.and_lt_two_pow (n := 8) _ hm
  apply Nat.eq_of_testBit_eq
  intro i
  have e1 : ∀ (b y : Nat), b < 256 → (b + 256 * y).testBit i = if i < 8 then b.testBit i else y.testBit (i - 8) := by
    intro b y hb
    rw [Nat.add_comm, show (256 : Nat) = 2 ^ 8 from rfl, Nat.testBit_two_pow_mul_add _ (show b < 2 ^ 8 from hb)]
  rw [Nat.testBit_and, e1 a x ha, e1 m M hm, e1 _ _ h]
  split <;> rw [Nat.testBit_and]
/-- A mask of k bytes. -/
def rep (m : Nat) : Nat → Nat
  | 0 => 0
  | k + 1 => m + 256 * rep m k
/-- A word of bytes. -/
def byt : List Nat → Nat
  | [] => 0
  | a :: l => a + 256 * byt l
def s1 (a : Nat) : Nat := (a / 2 &&& 85) + (a &&& 85)
def s2 (a : Nat) : Nat := (a / 4 &&& 51) + (a &&& 51)
def s3 (a : Nat) : Nat := (a / 16 + a) &&& 15
theorem and85 : ∀ a : Fin 256, ((a.val / 2 + 128) &&& 85) = (a.val / 2 &&& 85) := by decide +kernel
theorem and51 : ∀ (a : Fin 256) (b : Fin 4), ((a.val / 4 + 64 * b.val) &&& 51) = (a.val / 4 &&& 51) := by decide +kernel
theorem s1_lt : ∀ a : Fin 256, s1 a.val < 256 := by decide +kernel
theorem s2_lt : ∀ a : Fin 256, s2 (s1 a.val) < 256 ∧ s2 (s1 a.val) % 16 ≤ 4 ∧ s2 (s1 a.val) / 16 ≤ 4 := by decide +kernel
theorem s3_eq : ∀ a : Fin 256, s3 (s2 (s1 a.val)) = popA 8 a.val ∧ popA 8 a.val ≤ 8 := by decide +kernel
theorem step1 : ∀ l : List Nat, (∀ a ∈ l, a < 256) → ((byt l / 2) &&& rep 85 l.length) + (byt l &&& rep 85 l.length) = byt (l.map s1)
  | [], _ => rfl
  | a :: l, h => by
    have ha : a < 256 := h a (by simp)
    have ih := step1 l (fun x hx => h x (by simp [hx]))
    simp only [byt, rep, List.length_cons, List.map_cons]
    have e : (a + 256 * byt l) / 2 = (a / 2 + 128 * (byt l % 2)) + 256 * (byt l / 2) := by omega
    rw [e, and_byte _ _ _ _ (by omega) (by decide), and_byte _ _ _ _ ha (by decide)]
    have e2 : (a / 2 + 128 * (byt l % 2)) &&& 85 = a / 2 &&& 85 := by
      rcases Nat.mod_two_eq_zero_or_one (byt l) with h | h
      · rw [h]; rfl
      · rw [h]; exact and85 ⟨a, ha⟩
    rw [e2, ← ih]
    unfold s1
    omega
theorem step2 : ∀ l : List Nat, (∀ a ∈ l, a < 256) → ((byt l / 4) &&& rep 51 l.length) + (byt l &&& rep 51 l.length) = byt (l.map s2)
  | [], _ => rfl
  | a :: l, h => by
    have ha : a < 256 := h a (by simp)
    have ih := step2 l (fun x hx => h x (by simp [hx]))
    simp only [byt, rep, List.length_cons, List.map_cons]
    have e : (a + 256 * byt l) / 4 = (a / 4 + 64 * (byt l % 4)) + 256 * (byt l / 4) := by omega
    rw [e, and_byte _ _ _ _ (by omega) (by decide), and_byte _ _ _ _ ha (by decide)]
    have e2 : (a / 4 + 64 * (byt l % 4)) &&& 51 = a / 4 &&& 51 := and51 ⟨a, ha⟩ ⟨byt l % 4, by omega⟩
    rw [e2, ← ih]
    unfold s2
    omega
theorem byt_mod16 : ∀ l : List Nat, (∀ a ∈ l, a % 16 ≤ 4) → byt l % 16 ≤ 4
  | [], _ => by simp [byt]
  | a :: l, h => by have := h a (by simp); simp only [byt]; omega
theorem step3 : ∀ l : List Nat, (∀ a ∈ l, a < 256 ∧ a % 16 ≤ 4 ∧ a / 16 ≤ 4) → ((byt l / 16 + byt l) &&& rep 15 l.length) = byt (l.map s3)
  | [], _ => rfl
  | a :: l, h => by
    obtain ⟨ha, h1, h2⟩ := h a (by simp)
    have ih := step3 l (fun x hx => h x (by simp [hx]))
    have hm := byt_mod16 l (fun x hx => (h x (by simp [hx])).2.1)
    simp only [byt, rep, List.length_cons, List.map_cons]
    have e : (a + 256 * byt l) / 16 + (a + 256 * byt l) = (a / 16 + a + 16 * (byt l % 16)) + 256 * (byt l / 16 + byt l) := by omega
    rw [e, and_byte _ _ _ _ (by omega) (by decide), ih]
    unfold s3
    have e3 : ∀ z : Nat, z &&& 15 = z % 16 := nat_mask4
    rw [e3, e3]
    omega
/-- A word as eight bytes. -/
def b8 (x : Nat) : List Nat := [x % 256, x / 256 % 256, x / 65536 % 256, x / 16777216 % 256, x / 4294967296 % 256, x / 1099511627776 % 256, x / 281474976710656 % 256, x / 72057594037927936]
theorem b8_eq (x : Nat) : byt (b8 x) = x := by
  simp only [b8, byt]
  omega
theorem b8_lt (x : Nat) (h : x < 18446744073709551616) : ∀ a ∈ b8 x, a < 256 := by
  intro a ha
  simp only [b8, List.mem_cons, List.not_mem_nil, or_false] at ha
  rcases ha with h | h | h | h | h | h | h | h <;> omega
theorem pop8 (x n : Nat) : popA (8 + n) x = popA 8 (x % 256) + popA n (x / 256) := by
  rw [← pop_low 8 x, pop_cnt, pop_cnt, pop_cnt, cnt_add]
  congr 1
  exact cnt_congr (fun i _ => by rw [show (256 : Nat) = 2 ^ 8 from rfl, Nat.testBit_div_two_pow, Nat.add_comm])
theorem pop64 (x : Nat) (h : x < 18446744073709551616) : popA 64 x = ((b8 x).map (popA 8)).foldr (· + ·) 0 := by
  have e7 : x / 72057594037927936 = x / 72057594037927936 % 256 := by omega
  rw [show 64 = 8 + 56 from rfl, pop8, show 56 = 8 + 48 from rfl, pop8, show 48 = 8 + 40 from rfl, pop8, show 40 = 8 + 32 from rfl, pop8, show 32 = 8 + 24 from rfl, pop8, show 24 = 8 + 16 from rfl, pop8, show 16 = 8 + 8 from rfl, pop8, show popA 8 (x / 256 / 256 / 256 / 256 / 256 / 256 / 256) = popA 8 (x / 72057594037927936) from by simp only [Nat.div_div_eq_div_mul]]
  simp only [b8, List.map_cons, List.map_nil, List.foldr_cons, List.foldr_nil, Nat.div_div_eq_div_mul, Nat.add_zero]
/-- The last three steps: the bytes are summed. -/
theorem div_at (k x r R : Nat) (hr : r < k) (h : x = r + k * R) : x / k = R := by
  rw [h, Nat.add_mul_div_left _ _ (Nat.lt_of_le_of_lt (Nat.zero_le _) hr), Nat.div_eq_of_lt hr, Nat.zero_add]
theorem byt_add : ∀ l k : List Nat, l.length = k.length → byt l + byt k = byt (List.zipWith (· + ·) l k)
  | [], [], _ => rfl
  | a :: l, b :: k, h => by
    have ih := byt_add l k (by simpa using h)
    simp only [byt, List.zipWith_cons_cons]
    omega
theorem byt_lt : ∀ (l : List Nat) (n : Nat), 256 ^ l.length = n → (∀ a ∈ l, a < 256) → byt l < n
  | [], n, hn, _ => by subst hn; simp [byt]
  | a :: l, n, hn, h => by
    have ih := byt_lt l _ rfl (fun x hx => h x (by simp [hx]))
    have ha := h a (by simp)
    subst hn
    simp only [byt, List.length_cons, Nat.pow_succ]
    omega
theorem byt_le (c : Nat) : ∀ l : List Nat, (∀ a ∈ l, a ≤ c) → byt l ≤ c * rep 1 l.length
  | [], _ => by simp [byt, rep]
  | a :: l, h => by
    have ih := byt_le c l (fun x hx => h x (by simp [hx]))
    have ha := h a (by simp)
    simp only [byt, rep, List.length_cons, Nat.mul_add, Nat.mul_one]
    have e : c * (256 * rep 1 l.length) = 256 * (c * rep 1 l.length) := Nat.mul_left_comm ..
    omega
theorem byt_app (k : List Nat) : ∀ l : List Nat, byt (l ++ k) = byt l + 256 ^ l.length * byt k
  | [] => by simp [byt]
  | a :: l => by
    have ih := byt_app k l
    simp only [byt, List.cons_append, List.length_cons, ih, Nat.pow_succ, Nat.mul_add]
    have e : 256 * (256 ^ l.length * byt k) = 256 ^ l.length * 256 * byt k := by rw [Nat.mul_comm (256 ^ l.length) 256, Nat.mul_assoc]
    omega
theorem byt_div (l k : List Nat) (n : Nat) (hn : 256 ^ l.length = n) (h : ∀ a ∈ l, a < 256) : byt (l ++ k) / n = byt k :=
  div_at n _ _ _ (byt_lt l n hn h) (by rw [byt_app, hn])
theorem sum8 (a b c d e f g h : Nat) (ha : a ≤ 8) (hb : b ≤ 8) (hc : c ≤ 8) (hd : d ≤ 8) (he : e ≤ 8) (hf : f ≤ 8) (hg : g ≤ 8) (hh : h ≤ 8) (X Y Z : Nat)
    (hX : X = byt [a, b, c, d, e, f, g, h] + byt [a, b, c, d, e, f, g, h] / 256) (hY : Y = X + X / 65536) (hZ : Z = Y + Y / 4294967296) : Z < 18446744073709551616 ∧ X < 18446744073709551616 ∧ Y < 18446744073709551616 ∧ Z % 128 = a + b + c + d + e + f + g + h := by
  have n8 : ∀ l : List Nat, l.length = 8 → 256 ^ l.length = 18446744073709551616 := fun l hl => by rw [hl]
  have e2 : byt [a, b, c, d, e, f, g, h] / 256 = byt [b, c, d, e, f, g, h] := byt_div [a] [b, c, d, e, f, g, h] 256 (by simp) (by simp; omega)
  have x1 : X = byt [a + b, b + c, c + d, d + e, e + f, f + g, g + h, h] := by rw [hX, e2, show byt [b, c, d, e, f, g, h] = byt [b, c, d, e, f, g, h, 0] from rfl, byt_add _ _ (by rfl)]; rfl
  have x2 : X / 65536 = byt [c + d, d + e, e + f, f + g, g + h, h] := by rw [x1]; exact byt_div [a + b, b + c] _ 65536 (by simp) (by simp; omega)
  have y1 : Y = byt [a + b + (c + d), b + c + (d + e), c + d + (e + f), d + e + (f + g), e + f + (g + h), f + g + h, g + h, h] := by rw [hY, x2, x1, show byt [c + d, d + e, e + f, f + g, g + h, h] = byt [c + d, d + e, e + f, f + g, g + h, h, 0, 0] from rfl, byt_add _ _ (by rfl)]; rfl
  have y2 : Y / 4294967296 = byt [e + f + (g + h), f + g + h, g + h, h] := by rw [y1]; exact byt_div [a + b + (c + d), b + c + (d + e), c + d + (e + f), d + e + (f + g)] _ 4294967296 (by simp) (by simp; omega)
  have z1 : Z = byt [a + b + (c + d) + (e + f + (g + h)), b + c + (d + e) + (f + g + h), c + d + (e + f) + (g + h), d + e + (f + g) + h, e + f + (g + h), f + g + h, g + h, h] := by rw [hZ, y2, y1, show byt [e + f + (g + h), f + g + h, g + h, h] = byt [e + f + (g + h), f + g + h, g + h, h, 0, 0, 0, 0] from rfl, byt_add _ _ (by rfl)]; rfl
  clear hX hY hZ e2 x2 y2
  refine ⟨?_, ?_, ?_, ?_⟩
  · rw [z1]; exact byt_lt _ _ (n8 _ rfl) (by simp; omega)
  · rw [x1]; exact byt_lt _ _ (n8 _ rfl) (by simp; omega)
  · rw [y1]; exact byt_lt _ _ (n8 _ rfl) (by simp; omega)
  · obtain ⟨R, hR⟩ : ∃ R, R = byt [b + c + (d + e) + (f + g + h), c + d + (e + f) + (g + h), d + e + (f + g) + h, e + f + (g + h), f + g + h, g + h, h] := ⟨_, rfl⟩
    have z2 : Z = a + b + (c + d) + (e + f + (g + h)) + 256 * R := by rw [z1, hR]; rfl
    clear z1 x1 y1 hR
    omega

/-- OnesCount64, step by step. -/
theorem ones_steps (x : Nat) (hx : x < 18446744073709551616) (x1 x2 x3 X Y Z : Nat)
    (h1 : x1 = (x / 2 &&& 6148914691236517205) + (x &&& 6148914691236517205)) (h2 : x2 = (x1 / 4 &&& 3689348814741910323) + (x1 &&& 3689348814741910323))
    (h3 : x3 = (x2 / 16 + x2) &&& 1085102592571150095) (hX : X = x3 + x3 / 256) (hY : Y = X + X / 65536) (hZ : Z = Y + Y / 4294967296) :
    x1 < 18446744073709551616 ∧ x2 < 18446744073709551616 ∧ x2 / 16 + x2 < 18446744073709551616 ∧ x3 < 18446744073709551616 ∧ X < 18446744073709551616 ∧ Y < 18446744073709551616 ∧ Z < 18446744073709551616 ∧ Z % 128 = cnt x.testBit 64 := by
  have hb := b8_lt x hx
  have e0 := b8_eq x
  have l0 : (b8 x).length = 8 := rfl
  have e1 : x1 = byt ((b8 x).map s1) := by
    have := step1 (b8 x) hb
    rw [e0, l0] at this
    rw [h1, ← this]; rfl
  have hb1 : ∀ a ∈ (b8 x).map s1, a < 256 := by
    intro a ha
    obtain ⟨c, hc, rfl⟩ := List.mem_map.1 ha
    exact s1_lt ⟨c, hb c hc⟩
  have e2 : x2 = byt (((b8 x).map s1).map s2) := by
    have := step2 _ hb1
    rw [← e1, List.length_map, l0] at this
    rw [h2, ← this]; rfl
  have hb2 : ∀ a ∈ ((b8 x).map s1).map s2, a < 256 ∧ a % 16 ≤ 4 ∧ a / 16 ≤ 4 := by
    intro a ha
    obtain ⟨c, hc, rfl⟩ := List.mem_map.1 ha
    obtain ⟨d, hd, rfl⟩ := List.mem_map.1 hc
    exact s2_lt ⟨d, hb d hd⟩
  have e3 : x3 = byt ((((b8 x).map s1).map s2).map s3) := by
    have := step3 _ hb2
    rw [← e2, List.length_map, List.length_map, l0] at this
    rw [h3, ← this]; rfl
  have e4 : (((b8 x).map s1).map s2).map s3 = (b8 x).map (popA 8) := by
    rw [List.map_map, List.map_map]
    exact List.map_congr_left (fun a ha => (s3_eq ⟨a, hb a ha⟩).1)
  rw [e4] at e3
  have hle : ∀ a ∈ b8 x, popA 8 a ≤ 8 := fun a ha => (s3_eq ⟨a, hb a ha⟩).2
  have hp := pop64 x hx
  have n8 : ∀ l : List Nat, l.length = 8 → 256 ^ l.length = 18446744073709551616 := fun l hl => by rw [hl]
  have b1 : x1 < 18446744073709551616 := by rw [e1]; exact byt_lt _ _ (n8 _ rfl) hb1
  have b2 : x2 < 18446744073709551616 := by rw [e2]; exact byt_lt _ _ (n8 _ rfl) (fun a ha => (hb2 a ha).1)
  have b22 : x2 ≤ 68 * 72340172838076673 := by
    have h8 := byt_le 68 _ (fun a ha => show a ≤ 68 by have := hb2 a ha; omega)
    have er : rep 1 8 = 72340172838076673 := by simp [rep]
    rw [← e2, List.length_map, List.length_map, l0, er] at h8
    exact h8
  have b3 : x3 < 18446744073709551616 := by
    rw [h3]
    exact Nat.lt_of_le_of_lt Nat.and_le_right (by decide)
  have he : x3 = byt [popA 8 (x % 256), popA 8 (x / 256 % 256), popA 8 (x / 65536 % 256), popA 8 (x / 16777216 % 256), popA 8 (x / 4294967296 % 256), popA 8 (x / 1099511627776 % 256), popA 8 (x / 281474976710656 % 256), popA 8 (x / 72057594037927936)] := e3
  have hs := sum8 _ _ _ _ _ _ _ _ (hle (x % 256) (by simp [b8])) (hle (x / 256 % 256) (by simp [b8])) (hle (x / 65536 % 256) (by simp [b8])) (hle (x / 16777216 % 256) (by simp [b8])) (hle (x / 4294967296 % 256) (by simp [b8])) (hle (x / 1099511627776 % 256) (by simp [b8])) (hle (x / 281474976710656 % 256) (by simp [b8])) (hle (x / 72057594037927936) (by simp [b8])) X Y Z (by rw [hX, he]) hY hZ
  have b4 : x2 / 16 + x2 < 18446744073709551616 := by clear e1 e2 e3 he h1 h2 h3 hX hY hZ hs; omega
  refine ⟨b1, b2, b4, b3, hs.2.1, hs.2.2.1, hs.1, ?_⟩
  rw [hs.2.2.2, ← pop_cnt, hp]
  simp only [b8, List.map_cons, List.map_nil, List.foldr_cons, List.foldr_nil]
  omega

end Go.Proofs.YtgljmcddakeoiaaDoor
