/-
  What the document's On, Of, Back and Seal answer; bytes.Equal; bytes.Clone.
-/
import Derived.Test.YtnlhfnebbkpfgaaMarkPlace
import Derived.Test.YtnlhfnebbkpfgaaMarkWalk
namespace Go.Proofs.Ytnlhfnebbkpfgaa
open Go.RowKit
set_option linter.unusedVariables false

theorem str_inj : ∀ (a b : List Int), Oct a → Oct b → strOfNums a = strOfNums b → a = b := by
  intro a b ha hb h
  have h1 : (a.map fun n => UInt8.ofNat n.toNat) = (b.map fun n => UInt8.ofNat n.toNat) := by
    unfold strOfNums at h
    injection h with h
    exact List.toArray_inj h
  clear h
  induction a generalizing b with
  | nil => cases b <;> simp at h1 ⊢
  | cons x a ih =>
    cases b with
    | nil => simp at h1
    | cons y b =>
      simp only [List.map_cons, List.cons.injEq] at h1
      have hx := ha.head
      have hy := hb.head
      have e : x = y := by
        have := congrArg UInt8.toNat h1.1
        simp only [UInt8.toNat_ofNat'] at this
        omega
      rw [e, ih b ha.tail hb.tail h1.2]

theorem equal_any (A A' : Option Addr) (c c' : Nat) (bs cs : List Int) (w : World) (h : Sl w A c bs) (h' : Sl w A' c' cs) (o : Oct bs) (o' : Oct cs) :
    Calls Try.prog 25 #[.slice A bs.length c, .slice A' cs.length c'] w fun e w' => e = .returned (.bool (decide (bs = cs))) ∧ w = w' := by
  have k1 := convert_b h
  have k2 := convert_b h'
  have hd : Hid (decide (bs = cs) = ((strOfNums bs).toList == (strOfNums cs).toList)) := by
    unfold Hid
    by_cases e : bs = cs
    · subst e; simp
    · rw [decide_eq_false e]
      have : strOfNums bs ≠ strOfNums cs := fun h => e (str_inj bs cs o o' h)
      rw [ByteArray.toList_eq, ByteArray.toList_eq]
      symm
      rw [beq_eq_false_iff_ne]
      intro h
      exact this (Go.WideShapes.bytes_inj h)
  clear h h' o o'
  generalize strOfNums bs = s at *
  generalize strOfNums cs = t at *
  generalize decide (bs = cs) = d at *
  go_enter Try.func25, Try.ntmps25
  go_wp2
  go_ret
  rw [hd.out]
  exact ⟨rfl, rfl⟩

set_option maxHeartbeats 1000000 in
theorem rOn_any (A : Option Addr) (c : Nat) (bs : List Int) (m : Int) (w : World) (hs : Sl w A c bs) (ho : Oct bs) (hm : U m) :
    Calls Try.prog 14 #[.int .u64 m, .slice A bs.length c] w fun e w' => e = .returned (.int .u64 (onM m bs)) ∧ w = w' := by
  have hmo := hs.most
  have hr := hs.room
  have H := Lib.hid hs
  have HO := Lib.hid ho
  have HM := Lib.hid hm
  clear hs ho hm
  obtain ⟨n, hn⟩ : ∃ n, n = bs.length := ⟨_, rfl⟩
  rw [← hn] at hr ⊢
  have HN := Lib.hid hn
  clear hn
  go_enter Try.func14, Try.ntmps14
  go_wp2
  go_loop [0, 5] (fun x i => ∃ k : Nat, ∃ z : Int, k ≤ n ∧ i = .int .i64 k ∧ x = .int .u64 z ∧ Hid (z = onM m (bs.take k))) (fun _ i => n - (intOf i).toNat)
  case atStart => exact ⟨0, m, Nat.zero_le _, rfl, rfl, by unfold Hid; simp [onM]⟩
  case round =>
    obtain ⟨k, z, hk, rfl, rfl, HZ⟩ := hrel
    by_cases hlt : k < n
    · obtain ⟨b, o, rfl, _, hc⟩ := H.out.rd (by rw [← HN.out]; omega)
      have c1 := hc k (by rw [← HN.out]; omega)
      have b1 : (0 : Int) ≤ (k : Int) := by omega
      have b2 : (k : Int) < (n : Int) := by omega
      have hz : U z := by rw [HZ.out]; exact onM_u m _ HM.out
      obtain ⟨z0, z1⟩ := hz
      have HS : Hid (onM m (bs.take (k + 1)) = step z (bs.getD k 0)) := by
        unfold Hid
        rw [HZ.out]
        exact onM_snoc m bs k (by rw [← HN.out]; exact hlt)
      obtain ⟨y0, y1⟩ := HO.out.at_ k
      generalize bs.getD k 0 = y at *
      have hx := xr_bits (z % 256) y (by unfold U; omega) y0 y1
      have hl := Lib.hid (low_xr z y ⟨z0, z1⟩ y0 y1)
      have hu := Lib.hid (xr_u z y ⟨z0, z1⟩ y0 y1)
      clear hc
      go_wp2
      go_round
      case rel =>
        refine ⟨k + 1, _, by omega, by go_num, rfl, ?_⟩
        unfold Hid
        rw [HS.out, hl.out]
        obtain ⟨u0, u1⟩ := hu.out
        unfold step
        rw [IntKind.wrap_u64, IntKind.wrap_u64, Int.emod_eq_of_lt u0 u1]
      case measure => simp [intOf]; omega
    · obtain rfl : k = n := by omega
      rw [List.take_of_length_le (by rw [← HN.out]; omega)] at HZ
      rw [show z = onM m bs from HZ.out]
      go_wp2
      go_ret
      exact ⟨rfl, rfl⟩

theorem rOf_any (A : Option Addr) (c : Nat) (bs : List Int) (w : World) (hs : Sl w A c bs) (ho : Oct bs) :
    Calls Try.prog 12 #[.slice A bs.length c] w fun e w' => e = .returned (.int .u64 (ofM bs)) ∧ w = w' := by
  have hk := rOn_any A c bs 14695981039346656037 w hs ho ofs_u
  rw [show onM 14695981039346656037 bs = ofM bs from rfl] at hk
  generalize ofM bs = z at *
  generalize bs.length = l at *
  have HK := Lib.hid hk
  clear hk hs ho
  go_enter Try.func12, Try.ntmps12
  go_wp2_with fail
  refine HK.out.mono ?_
  rintro e w' ⟨rfl, rfl⟩
  go_wp2
  go_ret
  exact ⟨rfl, rfl⟩

/-- The factor's powers, two by two. -/
def inv : Nat → Int × Int
  | 0 => (1, 1099511628211)
  | k + 1 => ((inv k).1 * (inv k).2 % 18446744073709551616, (inv k).2 * (inv k).2 % 18446744073709551616)
theorem inv_all : (inv 62).1 = 14886173955864302971 := by decide +kernel

set_option maxHeartbeats 1000000 in
theorem inverse_any (w : World) : Calls Try.prog 29 #[] w fun e w' => e = .returned (.int .u64 14886173955864302971) ∧ w = w' := by
  go_enter Try.func29, Try.ntmps29
  go_wp2
  go_loop [1, 2, 3] (fun x q i => ∃ k : Nat, ∃ X Q : Int, k ≤ 62 ∧ i = .int .i64 k ∧ x = .int .u64 X ∧ q = .int .u64 Q ∧ Hid (inv k = (X, Q))) (fun _ _ i => 62 - (intOf i).toNat)
  case atStart => exact ⟨0, 1, 1099511628211, Nat.zero_le _, rfl, rfl, rfl, rfl⟩
  case round =>
    obtain ⟨k, X, Q, hk, rfl, rfl, rfl, HI⟩ := hrel
    by_cases hlt : k < 62
    · have hlt' : (k : Int) < 62 := by omega
      go_wp2
      go_round
      case rel =>
        refine ⟨k + 1, _, _, by omega, by go_num, rfl, rfl, ?_⟩
        unfold Hid
        have := HI.out
        rw [IntKind.wrap_u64, IntKind.wrap_u64]
        simp [inv, this]
      case measure => simp [intOf]; omega
    · obtain rfl : k = 62 := by omega
      have hX : X = 14886173955864302971 := by
        have := HI.out
        rw [← inv_all, this]
      subst hX
      go_wp2
      go_ret
      exact ⟨rfl, rfl⟩

set_option maxHeartbeats 1000000 in
theorem rBack_any (A : Option Addr) (c : Nat) (bs : List Int) (m : Int) (w : World) (hs : Sl w A c bs) (ho : Oct bs) (hm : U m) :
    Calls Try.prog 16 #[.int .u64 m, .slice A bs.length c] w fun e w' => e = .returned (.int .u64 (backM m bs)) ∧ w = w' := by
  have hmo := hs.most
  have hr := hs.room
  have H := Lib.hid hs
  have HO := Lib.hid ho
  have HM := Lib.hid hm
  clear hs ho hm
  obtain ⟨n, hn⟩ : ∃ n, n = bs.length := ⟨_, rfl⟩
  rw [← hn] at hr ⊢
  have HN := Lib.hid hn
  clear hn
  go_enter Try.func16, Try.ntmps16
  go_wp2_with fail
  refine (inverse_any w).mono ?_
  rintro e w' ⟨rfl, rfl⟩
  go_wp2
  go_loop [0, 6] (fun x i => ∃ k : Nat, ∃ z : Int, k ≤ n ∧ i = .int .i64 ((k : Int) - 1) ∧ x = .int .u64 z ∧ Hid (z = backM m (bs.drop k))) (fun _ i => (intOf i + 1).toNat)
  case atStart => exact ⟨n, m, Nat.le_refl _, rfl, rfl, by unfold Hid; rw [HN.out]; simp [backM]⟩
  case round =>
    obtain ⟨k, z, hk, rfl, rfl, HZ⟩ := hrel
    by_cases hlt : 1 ≤ k
    · obtain ⟨j, rfl⟩ : ∃ j, k = j + 1 := ⟨k - 1, by omega⟩
      have ej : ((j + 1 : Nat) : Int) - 1 = (j : Int) := by omega
      have hj : j < n := by omega
      obtain ⟨b, o, rfl, _, hc⟩ := H.out.rd (by rw [← HN.out]; omega)
      have c1 := hc j (by rw [← HN.out]; omega)
      have b1 : (0 : Int) ≤ (j : Int) := by omega
      have b2 : (j : Int) < (n : Int) := by omega
      have hz : U z := by rw [HZ.out]; exact backM_u m _ HM.out (HO.out.drop _)
      obtain ⟨z0, z1⟩ := hz
      have HS : Hid (backM m (bs.drop j) = back z (bs.getD j 0)) := by
        unfold Hid
        rw [HZ.out]
        exact backM_cons m bs j (by rw [← HN.out]; exact hj)
      obtain ⟨y0, y1⟩ := HO.out.at_ j
      generalize bs.getD j 0 = y at *
      obtain ⟨v, hv⟩ : ∃ v, v = IntKind.u64.wrap (z * 14886173955864302971) := ⟨_, rfl⟩
      have hvv := IntKind.wrap_u64 (z * 14886173955864302971)
      rw [← hv] at hvv
      have hV := Lib.hid hvv
      have v0 : 0 ≤ v := by rw [hvv]; omega
      have v1 : v < 18446744073709551616 := by rw [hvv]; omega
      have hx := xr_bits (v % 256) y (by unfold U; omega) y0 y1
      have hl := Lib.hid (low_xr v y ⟨v0, v1⟩ y0 y1)
      have hu := Lib.hid (xr_u v y ⟨v0, v1⟩ y0 y1)
      have hv' := hv.symm
      clear hc hvv hv
      rw [ej]
      clear ej
      go_wp2
      go_round
      case rel =>
        refine ⟨j, _, by omega, rfl, rfl, ?_⟩
        unfold Hid
        obtain ⟨u0, u1⟩ := hu.out
        rw [HS.out, hl.out, IntKind.wrap_u64, Int.emod_eq_of_lt u0 u1, hV.out]
        rfl
      case measure => simp [intOf]
    · obtain rfl : k = 0 := by omega
      rw [show z = backM m bs from HZ.out]
      go_wp2
      go_ret
      exact ⟨rfl, rfl⟩

end Go.Proofs.Ytnlhfnebbkpfgaa
