/-
  What the document's On, Of, Back and Seal answer; bytes.Equal; bytes.Clone.
-/
import Derived.Test.YtienabfilnpieaaGreatFieldEqual
import Derived.Test.YtienabfilnpieaaGreatMarkWalk
namespace Go.Proofs.YtienabfilnpieaaGreat
open Go.RowKit
set_option maxRecDepth 100000
set_option linter.unusedVariables false

theorem str_inj : ∀ (a b : List Int), Oct a → Oct b → strOfNums a = strOfNums b → a = b := by
  intro a b ha hb h
  have h1 : (a.map fun n => UInt8.ofNat n.toNat) = (b.map fun n => UInt8.ofNat n.toNat) := by
    unfold strOfNums at h
    injection h with h
    exact List.toArray_inj h
  clear h
  induction a generalizing b with
  | nil => cases b <;> simp at h1 ⊢
  | cons x a ih =>
    cases b with
    | nil => simp at h1
    | cons y b =>
      simp only [List.map_cons, List.cons.injEq] at h1
      have hx := ha.head
      have hy := hb.head
      have e : x = y := by
        have := congrArg UInt8.toNat h1.1
        simp only [UInt8.toNat_ofNat'] at this
        omega
      rw [e, ih b ha.tail hb.tail h1.2]

theorem equal_any (A A' : Option Addr) (c c' : Nat) (bs cs : List Int) (w : World) (h : Sl w A c bs) (h' : Sl w A' c' cs) (o : Oct bs) (o' : Oct cs) :
    Calls Tryz.prog 17 #[.slice A bs.length c, .slice A' cs.length c'] w fun e w' => e = .returned (.bool (decide (bs = cs))) ∧ w = w' := by
  have k1 := fConvert_b h
  have k2 := fConvert_b h'
  have hd : Hid (decide (bs = cs) = ((strOfNums bs).toList == (strOfNums cs).toList)) := by
    unfold Hid
    by_cases e : bs = cs
    · subst e; simp
    · rw [decide_eq_false e]
      have : strOfNums bs ≠ strOfNums cs := fun h => e (str_inj bs cs o o' h)
      rw [ByteArray.toList_eq, ByteArray.toList_eq]
      symm
      rw [beq_eq_false_iff_ne]
      intro h
      exact this (Go.WideShapes.bytes_inj h)
  clear h h' o o'
  generalize strOfNums bs = s at *
  generalize strOfNums cs = t at *
  generalize decide (bs = cs) = d at *
  go_enter Tryz.func17, Tryz.ntmps17
  go_wp2
  go_ret
  rw [hd.out]
  exact ⟨rfl, rfl⟩

set_option maxHeartbeats 1000000 in
theorem rOn_any (A : Option Addr) (c : Nat) (bs : List Int) (m : Int) (w : World) (hs : Sl w A c bs) (ho : Oct bs) (hm : U m) :
    Calls Tryz.prog 124 #[.int .u64 m, .slice A bs.length c] w fun e w' => e = .returned (.int .u64 (onM m bs)) ∧ w = w' := by
  have hmo := hs.most
  have hr := hs.room
  have H := Lib.hid hs
  have HO := Lib.hid ho
  have HM := Lib.hid hm
  clear hs ho hm
  obtain ⟨n, hn⟩ : ∃ n, n = bs.length := ⟨_, rfl⟩
  rw [← hn] at hr ⊢
  have HN := Lib.hid hn
  clear hn
  go_enter Tryz.func124, Tryz.ntmps124
  go_wp2
  go_loop [0, 5] (fun x i => ∃ k : Nat, ∃ z : Int, k ≤ n ∧ i = .int .i64 k ∧ x = .int .u64 z ∧ Hid (z = onM m (bs.take k))) (fun _ i => n - (intOf i).toNat)
  case atStart => exact ⟨0, m, Nat.zero_le _, rfl, rfl, by unfold Hid; simp [onM]⟩
  case round =>
    obtain ⟨k, z, hk, rfl, rfl, HZ⟩ := hrel
    by_cases hlt : k < n
    · obtain ⟨b, o, rfl, _, hc⟩ := H.out.rd (by rw [← HN.out]; omega)
      have c1 := hc k (by rw [← HN.out]; omega)
      have b1 : (0 : Int) ≤ (k : Int) := by omega
      have b2 : (k : Int) < (n : Int) := by omega
      have hz : U z := by rw [HZ.out]; exact onM_u m _ HM.out
      obtain ⟨z0, z1⟩ := hz
      have HS : Hid (onM m (bs.take (k + 1)) = step z (bs.getD k 0)) := by
        unfold Hid
        rw [HZ.out]
        exact onM_snoc m bs k (by rw [← HN.out]; exact hlt)
      obtain ⟨y0, y1⟩ := HO.out.at_ k
      generalize bs.getD k 0 = y at *
      have hx := xr_bits (z % 256) y (by unfold U; omega) y0 y1
      have hl := Lib.hid (low_xr z y ⟨z0, z1⟩ y0 y1)
      have hu := Lib.hid (xr_u z y ⟨z0, z1⟩ y0 y1)
      clear hc
      go_wp2
      go_round
      case rel =>
        refine ⟨k + 1, _, by omega, by go_num, rfl, ?_⟩
        unfold Hid
        rw [HS.out, hl.out]
        obtain ⟨u0, u1⟩ := hu.out
        unfold step
        rw [IntKind.wrap_u64, IntKind.wrap_u64, Int.emod_eq_of_lt u0 u1]
      case measure => simp [intOf]; omega
    · obtain rfl : k = n := by omega
      rw [List.take_of_length_le (by rw [← HN.out]; omega)] at HZ
      rw [show z = onM m bs from HZ.out]
      go_wp2
      go_ret
      exact ⟨rfl, rfl⟩

theorem rOf_any (A : Option Addr) (c : Nat) (bs : List Int) (w : World) (hs : Sl w A c bs) (ho : Oct bs) :
    Calls Tryz.prog 100 #[.slice A bs.length c] w fun e w' => e = .returned (.int .u64 (ofM bs)) ∧ w = w' := by
  have hk := rOn_any A c bs 14695981039346656037 w hs ho ofs_u
  rw [show onM 14695981039346656037 bs = ofM bs from rfl] at hk
  generalize ofM bs = z at *
  generalize bs.length = l at *
  have HK := Lib.hid hk
  clear hk hs ho
  go_enter Tryz.func100, Tryz.ntmps100
  go_wp2_with fail
  refine HK.out.mono ?_
  rintro e w' ⟨rfl, rfl⟩
  go_wp2
  go_ret
  exact ⟨rfl, rfl⟩

/-- The factor's powers, two by two. -/
def inv : Nat → Int × Int
  | 0 => (1, 1099511628211)
  | k + 1 => ((inv k).1 * (inv k).2 % 18446744073709551616, (inv k).2 * (inv k).2 % 18446744073709551616)
theorem inv_all : (inv 62).1 = 14886173955864302971 := by decide +kernel

end Go.Proofs.YtienabfilnpieaaGreat
