/-
  What the closures of Num, Int and Bytes do with the bytes that they are told.
-/
import Derived.Test.YthbpnngfdpdjkaaFieldScan
namespace Go.Proofs.Ythbpnngfdpdjkaa
open Go.RowKit
set_option linter.unusedVariables false

/-- The number that bytes say, the highest first. -/
def val (bs : List Int) : Int := bs.foldl (fun a b => a * 256 + b) 0
theorem val_snoc (bs : List Int) (b : Int) : val (bs ++ [b]) = val bs * 256 + b := by simp [val]
theorem take_snoc {bs : List Int} {k : Nat} (h : k < bs.length) : bs.take (k + 1) = bs.take k ++ [bs.getD k 0] := by
  rw [List.take_succ_eq_append_getElem h]
  simp [List.getD, List.getElem?_eq_getElem h]
theorem val_nonneg {bs : List Int} (h : Oct bs) : 0 ≤ val bs := by
  have : ∀ (l : List Int) (a : Int), 0 ≤ a → (∀ b ∈ l, 0 ≤ b ∧ b < 256) → 0 ≤ l.foldl (fun a b => a * 256 + b) a := by
    intro l
    induction l with
    | nil => intro a ha _; simpa using ha
    | cons x l ih => intro a ha hl; simp only [List.foldl_cons]; exact ih _ (by have := hl x (by simp); omega) (fun b hb => hl b (by simp [hb]))
  exact this bs 0 (by omega) h
theorem val_lt {bs : List Int} (h : Oct bs) : val bs < 256 ^ bs.length := by
  have : ∀ (l : List Int) (a : Int), (∀ b ∈ l, 0 ≤ b ∧ b < 256) → l.foldl (fun a b => a * 256 + b) a < (a + 1) * 256 ^ l.length := by
    intro l
    induction l with
    | nil => intro a _; simp; omega
    | cons x l ih =>
      intro a hl
      simp only [List.foldl_cons, List.length_cons]
      have h1 := ih (a * 256 + x) (fun b hb => hl b (by simp [hb]))
      have h2 := hl x (by simp)
      have h3 : (a * 256 + x + 1) * 256 ^ l.length ≤ ((a + 1) * 256) * 256 ^ l.length := Int.mul_le_mul_of_nonneg_right (by omega) (Int.pow_nonneg (by omega))
      have h4 : ((a + 1) * 256) * 256 ^ l.length = (a + 1) * 256 ^ (l.length + 1) := by rw [Int.pow_succ, Int.mul_assoc, Int.mul_comm 256]
      omega
  have h0 := this bs 0 h
  unfold val
  omega
theorem val_seven {bs : List Int} (h : Oct bs) (h7 : bs.length ≤ 7) : val bs < 72057594037927936 := by
  have h1 := val_lt h
  have h2 : (256 : Int) ^ bs.length ≤ 256 ^ 7 := by
    have h := Nat.pow_le_pow_right (n := 256) (by omega) h7
    rw [show (256 : Int) = ((256 : Nat) : Int) from rfl, ← Int.natCast_pow, ← Int.natCast_pow]
    exact Int.ofNat_le.2 h
  have h3 : (256 : Int) ^ 7 = 72057594037927936 := by decide
  omega

theorem or_u64 (V Y : Int) (h0 : 0 ≤ V) (h1 : V < 72057594037927936) (h2 : 0 ≤ Y) (h3 : Y < 256) : bits .or .u64 (V * 256) Y = V * 256 + Y := by
  rw [u64_or _ _ (by omega) (by omega) h2 (by omega), nat_join 8 _ _ (by omega) (by omega)]
  omega

set_option maxHeartbeats 1000000 in
set_option maxRecDepth 100000 in
theorem num1_any (A : Option Addr) (n : Nat) (bs : List Int) (gs gx : Nat) (w : World) (hn : bs.length = n) (h1 : 1 ≤ n) (h8 : n ≤ 8) (hr : Rd w w.heap.size A bs) (ho : Oct bs)
    (hs : w.heap[gs]? = some (.cells #[.int .i64 n] 3 (0, 0))) (hx : w.heap[gx]? = some (.cells #[.int .u64 0] 22 (0, 0))) :
    Calls Try.prog 61 #[.slice A n n, .pointer (some ⟨gs, 0, none⟩), .pointer (some ⟨gx, 0, none⟩)] w fun e w' => e = .returned (.tuple #[]) ∧ w'.heap[gx]? = some (.cells #[.int .u64 (val bs)] 22 (0, 0)) ∧ Only gx w w' := by
  obtain ⟨b, o, rfl, hbl, hc⟩ := hr (by omega)
  have hcs := cell_of_one hs
  have HX := Lib.hid hx
  have HS := Lib.hid hs
  have HN := Lib.hid hn
  have HC := Lib.hid hc
  have HO := Lib.hid ho
  have hne : b ≠ gx := by
    rintro rfl
    have h := hc 0 (by omega)
    rcases o with _ | o
    · rw [cell_of_one hx] at h; simp at h
    · simp [World.cell?, hx] at h
  clear hx hs hn hc ho
  go_enter Try.func61, Try.ntmps61
  go_wp2
  go_loopw [6] (fun i wr => ∃ k : Nat, k ≤ n ∧ i = .int .i64 k ∧ wr.heap[gx]? = some (.cells #[.int .u64 (val (bs.take k))] 22 (0, 0)) ∧ Only gx w wr) (fun i _ => n - (intOf i).toNat)
  case atStart => exact ⟨0, Nat.zero_le _, rfl, by simpa [val] using HX.out, World.grownBy.refl _ _⟩
  case round =>
    obtain ⟨k, hk, rfl, hX, hO⟩ := hrel
    by_cases hkn : k < n
    · obtain ⟨V, hV⟩ : ∃ V, V = val (bs.take k) := ⟨_, rfl⟩
      rw [← hV] at hX
      obtain ⟨Y, hY⟩ : ∃ Y, Y = bs.getD k 0 := ⟨_, rfl⟩
      have hV0 : 0 ≤ V := by rw [hV]; exact val_nonneg (HO.out.take k)
      have hV1 : V < 72057594037927936 := by rw [hV]; exact val_seven (HO.out.take k) (by simp; omega)
      have hY0 : 0 ≤ Y ∧ Y < 256 := by rw [hY]; exact HO.out.at_ k
      have hcx := cell_of_one hX
      have hfx := free_of_one hX
      have hcb : wr.cell? ⟨b, o + k, none⟩ = some (.int .u8 Y) := by
        rw [hY]
        exact (World.cell?_of_block (a := ⟨b, o + k, none⟩) (w := w) (hO.block b hbl (by simpa using hne))).trans (HC.out k (by rw [HN.out]; omega))
      obtain ⟨hY1, hY2⟩ := hY0
      have HV := Lib.hid hV
      have HY := Lib.hid hY
      have HXX := Lib.hid hX
      have HOO := Lib.hid hO
      clear hV hY hX hO
      go_wp2
      go_region
      go_wp2
      go_roundw
      case rel =>
        refine ⟨k + 1, by omega, by go_num, ?_, (HOO.out.set (.inl rfl) _).drew⟩
        rw [take_snoc (by rw [HN.out]; exact hkn), val_snoc, ← HY.out, ← HV.out, ← or_u64 V Y hV0 hV1 hY1 hY2]
        exact one_setCell HXX.out
      case measure => simp [intOf]; omega
    · obtain rfl : k = n := by omega
      rw [List.take_of_length_le (by rw [HN.out]; omega)] at hX
      have HXX := Lib.hid hX
      clear hX
      go_wp2
      go_end0
      exact ⟨rfl, HXX.out, hO⟩

/-- Shifting up by a byte and laying one more, below 0 too. -/
theorem or_i64 (V Y : Int) (h0 : -36028797018963968 ≤ V) (h1 : V < 36028797018963968) (h2 : 0 ≤ Y) (h3 : Y < 256) : bits .or .i64 (V * 256) Y = V * 256 + Y := by
  show IntKind.i64.wrap ((BitVec.ofInt 64 (V * 256) ||| BitVec.ofInt 64 Y).toNat : Int) = _
  have e1 : (BitVec.ofInt 64 (V * 256)).toNat = ((V * 256) % 18446744073709551616).toNat := by
    rw [BitVec.toNat_ofInt]
    rfl
  have e2 : (BitVec.ofInt 64 Y).toNat = Y.toNat := by
    rw [BitVec.toNat_ofInt]
    show (Y % 18446744073709551616).toNat = _
    omega
  rw [BitVec.toNat_or, e1, e2, nat_join 8 _ _ (by omega) (by omega), IntKind.wrap_i64]
  omega

/-- The number with a sign that bytes say. -/
def sg (b : Int) : Int := if b < 128 then b else b - 256
def vali (bs : List Int) : Int := bs.tail.foldl (fun a b => a * 256 + b) (sg (bs.getD 0 0))
theorem sg_wrap (b : Int) (h0 : 0 ≤ b) (h1 : b < 256) : IntKind.i8.wrap b = sg b := by
  unfold sg
  simp [IntKind.wrap, IntKind.bits, IntKind.signed]
  split <;> omega
theorem vali_one (b : Int) : vali [b] = sg b := by simp [vali]
theorem vali_snoc (bs : List Int) (b : Int) (h : 0 < bs.length) : vali (bs ++ [b]) = vali bs * 256 + b := by
  rcases bs with _ | ⟨a, bs⟩
  · simp at h
  · simp [vali]
theorem vali_bd {bs : List Int} (h : Oct bs) (h0 : 0 < bs.length) : -(128 * 256 ^ (bs.length - 1)) ≤ vali bs ∧ vali bs < 128 * 256 ^ (bs.length - 1) := by
  rcases bs with _ | ⟨a, bs⟩
  · simp at h0
  · have ha := h a (by simp)
    have hs : -128 ≤ sg a ∧ sg a < 128 := by unfold sg; split <;> omega
    have : ∀ (l : List Int) (x : Int), (∀ b ∈ l, 0 ≤ b ∧ b < 256) → x * 256 ^ l.length ≤ l.foldl (fun a b => a * 256 + b) x ∧ l.foldl (fun a b => a * 256 + b) x < (x + 1) * 256 ^ l.length := by
      intro l
      induction l with
      | nil => intro x _; simp; omega
      | cons y l ih =>
        intro x hl
        simp only [List.foldl_cons, List.length_cons]
        have h1 := ih (x * 256 + y) (fun b hb => hl b (by simp [hb]))
        have h2 := hl y (by simp)
        have hp : (0 : Int) ≤ 256 ^ l.length := Int.pow_nonneg (by omega)
        have h3 : (x * 256 + y + 1) * 256 ^ l.length ≤ ((x + 1) * 256) * 256 ^ l.length := Int.mul_le_mul_of_nonneg_right (by omega) hp
        have h4 : ((x + 1) * 256) * 256 ^ l.length = (x + 1) * 256 ^ (l.length + 1) := by rw [Int.pow_succ, Int.mul_assoc, Int.mul_comm 256]
        have h5 : (x * 256) * 256 ^ l.length ≤ (x * 256 + y) * 256 ^ l.length := Int.mul_le_mul_of_nonneg_right (by omega) hp
        have h6 : (x * 256) * 256 ^ l.length = x * 256 ^ (l.length + 1) := by rw [Int.pow_succ, Int.mul_assoc, Int.mul_comm 256]
        omega
    have h1 := this bs (sg a) (fun b hb => h b (by simp [hb]))
    have hp : (0 : Int) ≤ 256 ^ bs.length := Int.pow_nonneg (by omega)
    have h2 : -128 * 256 ^ bs.length ≤ sg a * 256 ^ bs.length := Int.mul_le_mul_of_nonneg_right (by omega) hp
    have h3 : (sg a + 1) * 256 ^ bs.length ≤ 128 * 256 ^ bs.length := Int.mul_le_mul_of_nonneg_right (by omega) hp
    show -(128 * 256 ^ bs.length) ≤ List.foldl (fun a b => a * 256 + b) (sg a) bs ∧ List.foldl (fun a b => a * 256 + b) (sg a) bs < 128 * 256 ^ bs.length
    omega
theorem vali_seven {bs : List Int} (h : Oct bs) (h0 : 0 < bs.length) (h7 : bs.length ≤ 7) : -36028797018963968 ≤ vali bs ∧ vali bs < 36028797018963968 := by
  have h1 := vali_bd h h0
  have h2 : (256 : Int) ^ (bs.length - 1) ≤ 256 ^ 6 := by
    have h := Nat.pow_le_pow_right (n := 256) (by omega) (show bs.length - 1 ≤ 6 by omega)
    rw [show (256 : Int) = ((256 : Nat) : Int) from rfl, ← Int.natCast_pow, ← Int.natCast_pow]
    exact Int.ofNat_le.2 h
  have h3 : (256 : Int) ^ 6 = 281474976710656 := by decide
  omega

theorem one_ne {w : World} {b o g : Nat} {v : Value} {t : TypeId} {z : Int} (hx : w.heap[g]? = some (.cells #[v] t (0, 0))) (hv : ∀ z, v ≠ .int .u8 z) (h : w.cell? ⟨b, o, none⟩ = some (.int .u8 z)) : b ≠ g := by
  rintro rfl
  rcases o with _ | o
  · rw [cell_of_one hx] at h
    injection h with h
    exact hv z h
  · simp [World.cell?, hx] at h

set_option maxHeartbeats 1000000 in
set_option maxRecDepth 100000 in
theorem int1_any (A : Option Addr) (n : Nat) (bs : List Int) (gs gx : Nat) (w : World) (hn : bs.length = n) (h1 : 1 ≤ n) (h8 : n ≤ 8) (hr : Rd w w.heap.size A bs) (ho : Oct bs)
    (hs : w.heap[gs]? = some (.cells #[.int .i64 n] 3 (0, 0))) (hx : w.heap[gx]? = some (.cells #[.int .i64 0] 2 (0, 0))) :
    Calls Try.prog 67 #[.slice A n n, .pointer (some ⟨gx, 0, none⟩), .pointer (some ⟨gs, 0, none⟩)] w fun e w' => e = .returned (.tuple #[]) ∧ w'.heap[gx]? = some (.cells #[.int .i64 (vali bs)] 2 (0, 0)) ∧ Only gx w w' := by
  obtain ⟨b, o, rfl, hbl, hc⟩ := hr (by omega)
  have hcs := cell_of_one hs
  have hne : b ≠ gx := one_ne hx (by simp) (hc 0 (by omega))
  have hsx : gs ≠ gx := by
    rintro rfl
    rw [hs] at hx
    simp at hx
  have hcx := cell_of_one hx
  have hfx := free_of_one hx
  obtain ⟨Z, hZ⟩ : ∃ Z, Z = bs.getD 0 0 := ⟨_, rfl⟩
  have hcb : w.cell? ⟨b, o, none⟩ = some (.int .u8 Z) := by
    rw [hZ]
    exact hc 0 (by omega)
  have hZb : 0 ≤ Z ∧ Z < 256 := by rw [hZ]; exact ho.at_ 0
  obtain ⟨hZ1, hZ2⟩ := hZb
  have hsb : -128 ≤ sg Z ∧ sg Z < 128 := by unfold sg; split <;> omega
  obtain ⟨hS1, hS2⟩ := hsb
  have hcs2 : (w.setCell ⟨gx, 0, none⟩ (.int .i64 (sg Z))).cell? ⟨gs, 0, none⟩ = some (.int .i64 n) := by
    rw [World.cell?_setCell_other _ _ _ _ (fun e => hsx (congrArg Addr.block e).symm)]
    exact hcs
  have hw := sg_wrap Z hZ1 hZ2
  have hpn : (0 : Int) < (n : Int) := by omega
  have HX := Lib.hid hx
  have HS := Lib.hid hs
  have HN := Lib.hid hn
  have HC := Lib.hid hc
  have HO := Lib.hid ho
  have HZ := Lib.hid hZ
  clear hx hs hn hc ho hZ
  go_enter Try.func67, Try.ntmps67
  go_wp2
  go_loopw [12] (fun i wr => ∃ k : Nat, k + 1 ≤ n ∧ i = .int .i64 k ∧ wr.heap[gx]? = some (.cells #[.int .i64 (vali (bs.take (k + 1)))] 2 (0, 0)) ∧ Only gx w wr) (fun i _ => n - (intOf i).toNat)
  case atStart =>
    refine ⟨0, by omega, rfl, ?_, (Only.refl _ _).set (.inl rfl) _⟩
    have e : bs.take (0 + 1) = [Z] := by rw [take_snoc (by rw [HN.out]; omega), ← HZ.out]; simp
    rw [e, vali_one]
    exact one_setCell HX.out
  case round =>
    obtain ⟨k, hk, rfl, hX, hO⟩ := hrel
    by_cases hkn : k + 1 < n
    · obtain ⟨V, hV⟩ : ∃ V, V = vali (bs.take (k + 1)) := ⟨_, rfl⟩
      rw [← hV] at hX
      obtain ⟨Y, hY⟩ : ∃ Y, Y = bs.getD (k + 1) 0 := ⟨_, rfl⟩
      have hVb : -36028797018963968 ≤ V ∧ V < 36028797018963968 := by
        rw [hV]
        have := HN.out
        exact vali_seven (HO.out.take _) (by simp; omega) (by simp; omega)
      obtain ⟨hV0, hV1⟩ := hVb
      have hY0 : 0 ≤ Y ∧ Y < 256 := by rw [hY]; exact HO.out.at_ _
      have hcx' := cell_of_one hX
      have hfx' := free_of_one hX
      have hcb' : wr.cell? ⟨b, o + (k + 1), none⟩ = some (.int .u8 Y) := by
        rw [hY]
        exact (World.cell?_of_block (a := ⟨b, o + (k + 1), none⟩) (w := w) (hO.block b hbl (by simpa using hne))).trans (HC.out (k + 1) (by rw [HN.out]; omega))
      obtain ⟨hY1, hY2⟩ := hY0
      have HV := Lib.hid hV
      have HY := Lib.hid hY
      have HXX := Lib.hid hX
      have HOO := Lib.hid hO
      clear hV hY hX hO hcx hfx hcb hcs hcs2 hw
      go_wp2
      go_region
      go_wp2
      go_roundw
      case rel =>
        refine ⟨k + 1, by omega, by go_num, ?_, (HOO.out.set (.inl rfl) _).drew⟩
        rw [take_snoc (by rw [HN.out]; exact hkn), vali_snoc _ _ (by have := HN.out; simp; omega), ← HY.out, ← HV.out, ← or_i64 V Y hV0 hV1 hY1 hY2]
        exact one_setCell HXX.out
      case measure => simp [intOf]; omega
    · obtain rfl : k + 1 = n := by omega
      rw [List.take_of_length_le (by rw [HN.out]; omega)] at hX
      have HXX := Lib.hid hX
      clear hX
      go_wp2
      go_end0
      exact ⟨rfl, HXX.out, hO⟩

end Go.Proofs.Ythbpnngfdpdjkaa
