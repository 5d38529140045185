/-
  bytes.Compare of two slices, cmp.Compare of two numbers; the order of fields.
-/
import Derived.Test.YtnpmdbcijaanjaaFieldAsk
import Derived.Test.YtnpmdbcijaanjaaFieldMath
import Derived.Lib.BytesEntry
namespace Go.Proofs.Ytnpmdbcijaanjaa
open Go.RowKit
set_option linter.unusedVariables false

/-- Which of two numbers is the lesser. -/
def ord (x y : Int) : Int := if x < y then -1 else if y < x then 1 else 0

theorem u8_lt (a b : Int) (ha : 0 ≤ a ∧ a < 256) (hb : 0 ≤ b ∧ b < 256) : (UInt8.ofNat a.toNat < UInt8.ofNat b.toNat) ↔ a < b := by
  rw [UInt8.lt_iff_toNat_lt]
  simp
  omega

theorem val_cons (x : Int) (l : List Int) : val (x :: l) = x * 256 ^ l.length + val l := by
  have := val_append [x] l
  simpa [val] using this

theorem ord_lists (n : Nat) : ∀ a b : List Int, a.length = n → b.length = n → Oct a → Oct b → Lib.compareBytes (Lib.bytesOf a) (Lib.bytesOf b) = ord (val a) (val b) := by
  induction n with
  | zero =>
    intro a b ha hb _ _
    rw [List.eq_nil_of_length_eq_zero ha, List.eq_nil_of_length_eq_zero hb]
    rfl
  | succ n ih =>
    intro a b ha hb oa ob
    rcases a with _ | ⟨x, a⟩
    · simp at ha
    rcases b with _ | ⟨y, b⟩
    · simp at hb
    have ha' : a.length = n := by simpa using ha
    have hb' : b.length = n := by simpa using hb
    have hx := oa x (by simp)
    have hy := ob y (by simp)
    have oa' : Oct a := fun z hz => oa z (by simp [hz])
    have ob' : Oct b := fun z hz => ob z (by simp [hz])
    have h0 := val_nonneg oa'
    have h1 := val_nonneg ob'
    have h2 := val_lt oa'
    have h3 := val_lt ob'
    have e := ih a b ha' hb' oa' ob'
    rw [val_cons, val_cons]
    rw [ha'] at h2 ⊢
    rw [hb'] at h3 ⊢
    have hP : (0 : Int) < 256 ^ n := Int.pow_pos (by omega)
    generalize (256 : Int) ^ n = P at *
    show (if UInt8.ofNat x.toNat < UInt8.ofNat y.toNat then (-1 : Int) else if UInt8.ofNat y.toNat < UInt8.ofNat x.toNat then 1 else Lib.compareBytes (Lib.bytesOf a) (Lib.bytesOf b)) = _
    by_cases hlt : x < y
    · rw [if_pos ((u8_lt x y hx hy).2 hlt)]
      have : (x + 1) * P ≤ y * P := Int.mul_le_mul_of_nonneg_right (by omega) (by omega)
      rw [Int.add_mul] at this
      unfold ord
      rw [if_pos (by omega)]
    · rw [if_neg (fun h => hlt ((u8_lt x y hx hy).1 h))]
      by_cases hgt : y < x
      · rw [if_pos ((u8_lt y x hy hx).2 hgt)]
        have : (y + 1) * P ≤ x * P := Int.mul_le_mul_of_nonneg_right (by omega) (by omega)
        rw [Int.add_mul] at this
        unfold ord
        rw [if_neg (by omega), if_pos (by omega)]
      · rw [if_neg (fun h => hgt ((u8_lt y x hy hx).1 h)), e]
        obtain rfl : x = y := by omega
        unfold ord
        generalize x * P = q
        split <;> split <;> first | omega | rfl | (split <;> first | omega | rfl)

theorem bytesOf_b {w : World} {A : Option Addr} {c : Nat} {bs : List Int} (h : Sl w A c bs) : (Extern.Bytes.bytesOf (.slice A bs.length c)).run Try.prog w = .ok (strOfNums bs) w := by
  rcases A with _ | a
  · have h0 : bs = [] := by
      rcases bs with _ | ⟨x, l⟩
      · rfl
      · obtain ⟨_, _, e, _⟩ := h.rd (by simp)
        cases e
    subst h0
    rfl
  · have hc : ∀ j x, bs[j]? = some x → w.cell? (a.add j) = some (.int .u8 x) := by
      intro j x hx
      have hj : j < bs.length := (List.getElem?_eq_some_iff.1 hx).1
      obtain ⟨b, o, e, _, hcell⟩ := h.rd (by omega)
      injection e with e
      subst e
      rw [Addr.add_lit, hcell j hj]
      simp [List.getD, hx]
    have := Lib.run_loadBytesX (P := Try.prog) w bs a ByteArray.empty hc
    simp only [Extern.Bytes.bytesOf]
    rw [this]
    congr 1
    apply ByteArray.ext
    show #[] ++ (Lib.bytesOf bs).toArray = (strOfNums bs).data
    simp [strOfNums, Lib.bytesOf]

theorem find_cmp : Extern.find Try.f42 = some Extern.BytealgCompare.compare := by kernel_rfl

theorem enter_cmp (A A' : Option Addr) (c c' : Nat) (bs cs : List Int) (w : World) (h : Sl w A c bs) (h' : Sl w A' c' cs) :
    (callFunc 42 #[.slice A bs.length c, .slice A' cs.length c']).run Try.prog w = .ok (.value (.int .i64 (Lib.compareBytes (Lib.bytesOf bs) (Lib.bytesOf cs)))) w := by
  rw [run_callFunc_extern Try.func42 (by kernel_rfl) (by kernel_rfl) (by kernel_rfl) find_cmp]
  change (Sem.run Try.prog (do pure (goInt (Extern.BytealgCompare.cmp (← Extern.Bytes.bytesOf (.slice A bs.length c)) (← Extern.Bytes.bytesOf (.slice A' cs.length c'))))) w).andThen _ = _
  simp only [Sem.run_bind, Sem.run_pure, bytesOf_b h, bytesOf_b h', Result.andThen, Lib.cmp_eq]
  rfl

/-- bytes.Compare of two slices of one length. -/
theorem compare_b (A A' : Option Addr) (c c' : Nat) (bs cs : List Int) (w : World) (h : Sl w A c bs) (h' : Sl w A' c' cs) (hl : bs.length = cs.length) (ob : Oct bs) (oc : Oct cs) :
    Calls Try.prog 31 #[.slice A bs.length c, .slice A' cs.length c'] w fun e w' => e = .returned (.int .i64 (ord (val bs) (val cs))) ∧ w = w' := by
  have k := enter_cmp A A' c c' bs cs w h h'
  rw [ord_lists _ bs cs rfl hl.symm ob oc] at k
  generalize ord (val bs) (val cs) = r at *
  clear h h' ob oc hl
  generalize bs.length = n at *
  generalize cs.length = m at *
  go_enter Try.func31, Try.ntmps31
  go_wp2
  go_ret
  exact ⟨rfl, rfl⟩

theorem cmp_u64 (x y : Int) (w : World) : Calls Try.prog 32 #[.int .u64 x, .int .u64 y] w fun e w' => e = .returned (.int .i64 (ord x y)) ∧ w = w' := by
  by_cases h1 : x < y
  · have e : Hid (ord x y = -1) := by unfold Hid ord; rw [if_pos h1]
    go_enter Try.func32, Try.ntmps32
    go_wp2
    go_ret
    rw [e.out]
    exact ⟨rfl, rfl⟩
  · by_cases h2 : y < x
    · have e : Hid (ord x y = 1) := by unfold Hid ord; rw [if_neg h1, if_pos h2]
      go_enter Try.func32, Try.ntmps32
      go_wp2
      go_ret
      rw [e.out]
      exact ⟨rfl, rfl⟩
    · have e : Hid (ord x y = 0) := by unfold Hid ord; rw [if_neg h1, if_neg h2]
      go_enter Try.func32, Try.ntmps32
      go_wp2
      go_ret
      rw [e.out]
      exact ⟨rfl, rfl⟩

theorem cmp_i64 (x y : Int) (w : World) : Calls Try.prog 33 #[.int .i64 x, .int .i64 y] w fun e w' => e = .returned (.int .i64 (ord x y)) ∧ w = w' := by
  by_cases h1 : x < y
  · have e : Hid (ord x y = -1) := by unfold Hid ord; rw [if_pos h1]
    go_enter Try.func33, Try.ntmps33
    go_wp2
    go_ret
    rw [e.out]
    exact ⟨rfl, rfl⟩
  · by_cases h2 : y < x
    · have e : Hid (ord x y = 1) := by unfold Hid ord; rw [if_neg h1, if_pos h2]
      go_enter Try.func33, Try.ntmps33
      go_wp2
      go_ret
      rw [e.out]
      exact ⟨rfl, rfl⟩
    · have e : Hid (ord x y = 0) := by unfold Hid ord; rw [if_neg h1, if_neg h2]
      go_enter Try.func33, Try.ntmps33
      go_wp2
      go_ret
      rw [e.out]
      exact ⟨rfl, rfl⟩

end Go.Proofs.Ytnpmdbcijaanjaa
