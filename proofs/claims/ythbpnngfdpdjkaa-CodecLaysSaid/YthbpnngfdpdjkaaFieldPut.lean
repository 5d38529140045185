/-
  What isSize, Fits, FitsInt, slices.Clone, Put and Lay do, called with any values.
-/
import Derived.Test.YthbpnngfdpdjkaaRows
import Derived.Test.YthbpnngfdpdjkaaFieldBase
namespace Go.Proofs.Ythbpnngfdpdjkaa
open Go.RowKit
set_option linter.unusedVariables false

/-- Is this a size? -/
def sizeB (n : Int) : Bool := decide (1 ≤ n ∧ n ≤ 8)

theorem isSize_any (n : Int) (w : World) :
    Calls Try.prog 60 #[.int .i64 n] w fun e w' => e = .returned (.bool (sizeB n)) ∧ w = w' := by
  by_cases h1 : 1 ≤ n
  · by_cases h2 : n ≤ 8
    · have hs : Hid (sizeB n = true) := by unfold Hid sizeB; simp [h1, h2]
      go_enter Try.func60, Try.ntmps60
      go_wp2
      go_ret
      rw [hs.out]
      exact ⟨rfl, rfl⟩
    · have hs : Hid (sizeB n = false) := by unfold Hid sizeB; simp [h2]
      have h2' : decide (n ≤ 8) = false := by simp [h2]
      go_enter Try.func60, Try.ntmps60
      go_wp2
      go_ret
      rw [hs.out]
      exact ⟨rfl, rfl⟩
  · have hs : Hid (sizeB n = false) := by unfold Hid sizeB; simp [h1]
    have h1' : decide (1 ≤ n) = false := by simp [h1]
    go_enter Try.func60, Try.ntmps60
    go_wp2
    go_ret
    rw [hs.out]
    exact ⟨rfl, rfl⟩

theorem size_yes {n : Int} (h : sizeB n = true) : 1 ≤ n ∧ n ≤ 8 := by simpa [sizeB] using h
theorem size_no {n : Int} (h : ¬ (1 ≤ n ∧ n ≤ 8)) : sizeB n = false := by unfold sizeB; rw [decide_eq_false_iff_not]; exact h

/-- Does the number fit the size; with its sign? -/
def fitsB (n x : Int) : Bool := sizeB n && x / 2 ^ (8 * n).toNat == 0
def fitsIntB (n x : Int) : Bool := sizeB n && (x / 2 ^ ((8 * n).toNat - 1) == 0 || x / 2 ^ ((8 * n).toNat - 1) == -1)

theorem info5 : (Try.prog.info? 5).map (fun i => (i.zero, i.size, i.bytes)) = some (some (.int .u8 0), 1, 1) := by kernel_rfl

set_option maxHeartbeats 1000000 in
set_option maxRecDepth 100000 in
theorem clone_any (A : Option Addr) (c : Nat) (bs : List Int) (B : Nat) (w : World) (hr : Rd w B A bs) (hbig : bs.length ≤ 140737488355328) :
    Calls Try.prog 31 #[.slice A bs.length c] w fun e w' => ∃ v', e = .returned v' ∧ w'.ownsRow w.heap.size 5 1 v' bs.length (bs.map (Value.int .u8)) ∧ Below w.heap.size w w' := by
  obtain ⟨i0, hi, hz0, hz1, hz2⟩ := info_parts info5
  have q22 : ∀ (w : World) (a : Option Addr) (n c n' c' : Nat), (binOp .eql 29 (.slice a n c) (.slice none n' c')).run Try.prog w = .ok (.bool a.isNone) w := fun w a n c n' c' => Lib.run_eql_slice_nil w _ _ a n c n' c' Try.underlying29
  have H := Lib.hid hr
  clear hr
  rcases A with _ | ad
  · obtain rfl : bs = [] := by
      rcases bs with _ | ⟨b, bs⟩
      · rfl
      · obtain ⟨_, _, h, _⟩ := H.out (by simp)
        cases h
    go_enter Try.func31, Try.ntmps31
    go_wp2
    go_ret
    exact ⟨_, rfl, World.ownsRow_nil _ _ _ _, Below.refl _ _⟩
  · obtain ⟨n, hn⟩ : ∃ n, n = bs.length := ⟨_, rfl⟩
    rw [← hn] at hbig ⊢
    have HN := Lib.hid hn
    clear hn
    go_enter Try.func31, Try.ntmps31
    go_wp2_with (at_builtin; refine wpList_append_own _ rfl _ _ 29 rfl w.heap.size 5 i0 (.int .u8 0) 1 1 Try.underlying29 hi hz0 hz1 hz2 rfl (by decide) _ _ _ rfl (World.ownsRow_made w #[] 0 (Nat.le_refl _) (Nat.zero_le _) rfl) ad n c (bs.map (Value.int .u8)) rfl ?qc1 ?qc2 ?qc3 ?qc4 ?qc5 ?qc6 ?_)
    case qc1 => simp [HN.out]
    case qc2 =>
      intro j u hj
      have hjn : j < bs.length := by
        have := (List.getElem?_eq_some_iff.1 hj).1
        simpa using this
      obtain ⟨b, o, he, hb, hc⟩ := H.out (by omega)
      injection he with he
      subst he
      rw [Addr.add_lit]
      refine Lib.cell?_alloc_some _ ?_
      rw [hc j hjn]
      simpa [List.getD, List.getElem?_eq_getElem hjn] using hj
    case qc3 => intro u hu; obtain ⟨x, _, rfl⟩ := List.mem_map.1 hu; rfl
    case qc4 => unfold maxLen; omega
    case qc5 => omega
    case qc6 => simp
    intro v' w1 hown hgrow hnil
    go_wp2
    go_ret
    refine ⟨v', rfl, by simpa using hown, ?_⟩
    exact ((Below.refl _ w).alloc (Nat.le_refl _) _).grown hgrow (by simp) (by intro k hk; simp [Value.ownBlock] at hk; omega)

/-- A number's field of m bytes, the highest first. -/
def fld (m : Nat) (x : Int) : List Int := (List.range m).map fun i => x / 2 ^ (8 * (m - 1 - i)) % 256
def fldOf (n x : Int) : List Int := if sizeB n then fld n.toNat x else []

theorem fld_length (m : Nat) (x : Int) : (fld m x).length = m := by simp [fld]
theorem fld_take (m k : Nat) (x : Int) (h : k < m) : (fld m x).take (k + 1) = (fld m x).take k ++ [x / 2 ^ (8 * (m - 1 - k)) % 256] := by
  rw [List.take_succ_eq_append_getElem (by simpa [fld] using h)]
  simp [fld]

set_option maxHeartbeats 1000000 in
set_option maxRecDepth 100000 in
theorem put_yes (A : Option Addr) (c m : Nat) (bs : List Int) (x : Int) (B : Nat) (w : World) (hr : Rd w B A bs) (hbig : bs.length + m ≤ 140737488355328) (h1 : 1 ≤ m) (h2 : m ≤ 8) (hx : 0 ≤ x) (hx2 : x < 18446744073709551616) :
    Calls Try.prog 65 #[.slice A bs.length c, .int .i64 m, .int .u64 x] w fun e w' => ∃ v', e = .returned v' ∧ w'.ownsRow w.heap.size 5 1 v' (bs.length + m) ((bs ++ fld m x).map (Value.int .u8)) ∧ Below w.heap.size w w' := by
  obtain ⟨i0, hi, hz0, hz1, hz2⟩ := info_parts info5
  have H := Lib.hid hr
  clear hr
  have hs : Hid (sizeB m = true) := by unfold Hid sizeB; simp; omega
  go_enter Try.func65, Try.ntmps65
  go_wp2_with (first
    | (go_at_call 31; refine (clone_any A c bs B w H.out (by omega)).mono ?_; rintro e w1 ⟨v1, rfl, hown1, hb1⟩)
    | (go_at_call 60; refine (isSize_any _ _).mono ?_; rw [hs.out]; rintro e w' ⟨rfl, rfl⟩))
  go_loopw [7, 16] (fun v i wr => ∃ k : Nat, k ≤ m ∧ i = .int .i64 k ∧ wr.ownsRow w.heap.size 5 1 v (bs.length + k) ((bs ++ (fld m x).take k).map (Value.int .u8)) ∧ Below w.heap.size w wr) (fun _ i _ => m - (intOf i).toNat)
  case atStart => exact ⟨0, Nat.zero_le _, rfl, by simpa using hown1, hb1⟩
  case round =>
    obtain ⟨k, hk, rfl, hown, hb⟩ := hrel
    by_cases hkm : k < m
    · go_wp2_with (at_builtin; refine wpList_append_own _ rfl _ _ 29 rfl w.heap.size 5 i0 (.int .u8 0) 1 1 Try.underlying29 hi hz0 hz1 hz2 rfl (by decide) _ _ _ rfl (hown.alloc _) ⟨wr.heap.size, 0, none⟩ 1 1 [.int .u8 (x / 2 ^ (8 * (m - 1 - k)) % 256)] rfl rfl ?c1 ?c2 ?c3 ?c4 ?c5 ?_)
      case c1 => exact cell_one_new _ _ _
      case c2 => intro u hu; simp at hu; subst hu; rfl
      case c3 => unfold maxLen; omega
      case c4 => omega
      case c5 => have := hb.size; simp; omega
      · intro v' w2 hown' hgrow _
        have hb' : Below w.heap.size w w2 := (hb.alloc hb.size _).grown hgrow (by have := hb.size; simp; omega) (fun k hk => (hown.lt k hk).1)
        have ho : w2.ownsRow w.heap.size 5 1 v' (bs.length + (k + 1)) ((bs ++ (fld m x).take (k + 1)).map (Value.int .u8)) := by
          rw [fld_take m k x hkm]
          simpa [Nat.add_assoc] using hown'
        clear hown' hgrow hown hb
        go_wp2
        go_roundw
        case rel => exact ⟨k + 1, by omega, by go_num, ho, hb'⟩
        case measure => simp [intOf]; omega
    · obtain rfl : k = m := by omega
      rw [List.take_of_length_le (by rw [fld_length]; omega)] at hown
      go_wp2
      go_ret
      exact ⟨_, rfl, hown, hb⟩

theorem size_nat {n : Int} (h : sizeB n = true) : ∃ m : Nat, n = (m : Int) ∧ 1 ≤ m ∧ m ≤ 8 := by
  have := size_yes h
  exact ⟨n.toNat, by omega, by omega, by omega⟩
theorem fldOf_yes {m : Nat} (x : Int) (h1 : 1 ≤ m) (h2 : m ≤ 8) : fldOf m x = fld m x := by
  have hs : sizeB (m : Int) = true := by unfold sizeB; simp; omega
  simp [fldOf, hs]
theorem fldOf_no {n : Int} (x : Int) (h : sizeB n = false) : fldOf n x = [] := by simp [fldOf, h]
theorem fldOf_le (n x : Int) : (fldOf n x).length ≤ 8 := by
  unfold fldOf
  split
  · rename_i h
    have := size_yes h
    rw [fld_length]; omega
  · simp

set_option maxHeartbeats 1000000 in
set_option maxRecDepth 100000 in
/-- Put: the bytes of b and behind them the number's field; what was there stays. -/
theorem put_any (A : Option Addr) (c : Nat) (bs : List Int) (n x : Int) (B : Nat) (w : World) (hr : Rd w B A bs) (hbig : bs.length + 8 ≤ 140737488355328) (hx : 0 ≤ x) (hx2 : x < 18446744073709551616) :
    Calls Try.prog 65 #[.slice A bs.length c, .int .i64 n, .int .u64 x] w fun e w' => ∃ v', e = .returned v' ∧ w'.ownsRow w.heap.size 5 1 v' (bs ++ fldOf n x).length ((bs ++ fldOf n x).map (Value.int .u8)) ∧ Below w.heap.size w w' := by
  rcases hb : sizeB n with _ | _
  · rw [fldOf_no x hb, List.append_nil]
    have hs : Hid (sizeB n = false) := hb
    have H := Lib.hid hr
    clear hr hb
    go_enter Try.func65, Try.ntmps65
    go_wp2_with (first
      | (go_at_call 31; refine (clone_any A c bs B w H.out (by omega)).mono ?_; rintro e w1 ⟨v1, rfl, hown1, hb1⟩)
      | (go_at_call 60; refine (isSize_any _ _).mono ?_; rw [hs.out]; rintro e w' ⟨rfl, rfl⟩))
    go_ret
    exact ⟨_, rfl, hown1, hb1⟩
  · obtain ⟨m, rfl, h1, h2⟩ := size_nat hb
    rw [fldOf_yes x h1 h2, List.length_append, fld_length]
    exact put_yes A c m bs x B w hr (by omega) h1 h2 hx hx2

/-- A number with a sign as one without: 2^64 and it together, if it is below 0. -/
def unsg (n : Int) : Int := IntKind.u64.wrap n
theorem unsg_eq (n : Int) : unsg n = n % 18446744073709551616 := IntKind.wrap_u64 n
theorem unsg_ge (n : Int) : 0 ≤ unsg n := by rw [unsg_eq]; omega
theorem unsg_lt (n : Int) : unsg n < 18446744073709551616 := by rw [unsg_eq]; omega

set_option maxHeartbeats 400000 in
/-- Lay: so of a number with a sign. -/
theorem lay_any (A : Option Addr) (c : Nat) (bs : List Int) (n x : Int) (B : Nat) (w : World) (hr : Rd w B A bs) (hbig : bs.length + 8 ≤ 140737488355328) :
    Calls Try.prog 53 #[.slice A bs.length c, .int .i64 n, .int .i64 x] w fun e w' => ∃ v', e = .returned v' ∧ w'.ownsRow w.heap.size 5 1 v' (bs ++ fldOf n (unsg x)).length ((bs ++ fldOf n (unsg x)).map (Value.int .u8)) ∧ Below w.heap.size w w' := by
  have H := Lib.hid hr
  clear hr
  have h1 := Lib.hid (unsg_ge x)
  have h2 := Lib.hid (unsg_lt x)
  go_enter Try.func53, Try.ntmps53
  go_wp2_with fail
  rw [show IntKind.u64.wrap x = unsg x from rfl]
  refine (put_any A c bs n (unsg x) B w H.out hbig h1.out h2.out).mono ?_
  rintro e w1 ⟨v1, rfl, hown1, hb1⟩
  go_wp2
  go_ret
  exact ⟨_, rfl, hown1, hb1⟩

end Go.Proofs.Ythbpnngfdpdjkaa
