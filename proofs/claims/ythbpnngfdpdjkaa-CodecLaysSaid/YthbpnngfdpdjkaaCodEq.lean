/-
  Bytes that are the same; one that begins with the other.
-/
import Derived.Test.YthbpnngfdpdjkaaCodBack
import Derived.Deep.RegionHeld3
namespace Go.Proofs.Ythbpnngfdpdjkaa
open Go.RowKit Go.Shelf
set_option linter.unusedVariables false
set_option linter.unusedSimpArgs false
set_option maxRecDepth 100000

theorem u8_wf {x : Int} (h : 0 ≤ x ∧ x < 256) : (Lit.int .u8 x).wf = true := by
  simp [Lit.wf, IntKind.min, IntKind.max, IntKind.signed, IntKind.bits]; omega
theorem vec8 {w : World} {A : Option Addr} {c : Nat} {bs : List Int} (h : Sl w A c bs) (ho : Oct bs) : Vec .u8 w A c bs := ⟨h.room, h.most, h.rd, fun x hx => u8_wf (ho x hx)⟩
theorem Vec.begin {k : IntKind} {w : World} {A : Option Addr} {c : Nat} {bs : List Int} (h : Vec k w A c bs) (n : Nat) : Vec k w A c (bs.take n) := by
  refine ⟨by have := h.room; simp; omega, h.most, fun hp => ?_, fun x hx => h.fit x (List.mem_of_mem_take hx)⟩
  have hl : (bs.take n).length ≤ bs.length := by simp; omega
  obtain ⟨b, o, e, hb, hc⟩ := h.rd (by omega)
  refine ⟨b, o, e, hb, fun j hj => ?_⟩
  have hjn : j < n := by simp at hj; omega
  rw [hc j (by omega)]
  simp [List.getD, hjn]

set_option maxHeartbeats 400000 in
theorem eqB_any (A A' : Option Addr) (c c' : Nat) (a b : List Int) (w : World) (ha : Vec .u8 w A c a) (hb : Vec .u8 w A' c' b) :
    Calls Try.prog 32 #[.slice A a.length c, .slice A' b.length c'] w fun e w' => e = .returned (.bool (decide (a = b))) ∧ Below w.heap.size w w' := by
  by_cases hl : b.length = a.length
  · obtain ⟨R, hR⟩ : ∃ R, R = decide (a = b) := ⟨_, rfl⟩
    rw [hl, ← hR]
    obtain ⟨m, hm⟩ : ∃ m, m = a.length := ⟨_, rfl⟩
    have hmx : m ≤ 9223372036854775807 := by rw [hm]; exact Nat.le_trans ha.room ha.most
    rw [← hm]
    have HA := Lib.hid ha
    have HB := Lib.hid hb
    have HM := Lib.hid hm
    have HL := Lib.hid hl
    have HR := Lib.hid hR
    clear ha hb hm hl hR
    go_enter Try.func32, Try.ntmps32
    go_wp2
    go_loopw [13] (fun i wr => ∃ k q : Nat, k ≤ m ∧ i = .int .i64 k ∧ wr = w.drewN q ∧ Hid (a.take k = b.take k)) (fun i _ => m - (intOf i).toNat)
    case atStart => exact ⟨0, 0, Nat.zero_le _, rfl, rfl, Lib.hid rfl⟩
    case round =>
      obtain ⟨k, q, hk, rfl, rfl, HK⟩ := hrel
      by_cases hkm : k < m
      · obtain ⟨g1, o1, rfl, _, hc1⟩ := HA.out.at_ (j := k) (by rw [← HM.out]; exact hkm)
        obtain ⟨g2, o2, rfl, _, hc2⟩ := HB.out.at_ (j := k) (by rw [HL.out, ← HM.out]; exact hkm)
        have hx := getD_some (a := a) (k := k) (by rw [← HM.out]; exact hkm)
        have hy := getD_some (a := b) (k := k) (by rw [HL.out, ← HM.out]; exact hkm)
        have k0 : (0 : Int) ≤ k := by omega
        have km : (k : Int) < m := by omega
        generalize a.getD k 0 = x at *
        generalize b.getD k 0 = y at *
        by_cases hxy : x = y
        · have HS := Lib.hid (take_eq_snoc HK.out hx hy hxy)
          subst hxy
          clear hx hy
          go_wp2
          go_quiet (fail)
          go_wp2
          go_roundw
          case rel => exact ⟨k + 1, q + nq, by omega, by go_num, by simp [World.drewN], HS⟩
          case measure => simp [intOf]; omega
        · have HF := Lib.hid (show R = false by rw [HR.out]; exact decide_eq_false (fun e => by subst e; rw [hx] at hy; cases hy; exact hxy rfl))
          have t1 : (x != y) = true := by simpa using hxy
          have t2 : (x == y) = false := by simpa using hxy
          clear hx hy
          go_wp2
          go_quiet (fail)
          go_wp2
          go_ret
          rw [HF.out]
          exact ⟨rfl, below_drewN (below_drewN (Below.refl _ _) _) _⟩
      · obtain rfl : k = m := by omega
        have HT := Lib.hid (show R = true by
          rw [HR.out]
          refine decide_eq_true ?_
          have := HK.out
          rw [HM.out, List.take_length, ← HL.out, List.take_length] at this
          exact this)
        go_wp2
        go_ret
        rw [HT.out]
        exact ⟨rfl, below_drewN (Below.refl _ _) _⟩
  · have HT := Lib.hid (show decide (a = b) = false from decide_eq_false (fun e => hl (by rw [e])))
    generalize decide (a = b) = R at *
    generalize a.length = n at *
    generalize b.length = m at *
    have t2 : ((n : Int) != (m : Int)) = true := by simp; omega
    have t3 : ((n : Int) == (m : Int)) = false := by simp; omega
    have t4 : (n == m) = false := by simp; omega
    clear hl ha hb
    go_enter Try.func32, Try.ntmps32
    go_wp2
    go_ret
    rw [HT.out]
    exact ⟨rfl, Below.refl _ _⟩

set_option maxHeartbeats 400000 in
theorem rSameB_any (A A' : Option Addr) (c c' : Nat) (a b : List Int) (w : World) (ha : Vec .u8 w A c a) (hb : Vec .u8 w A' c' b) :
    Calls Try.prog 19 #[.slice A a.length c, .slice A' b.length c'] w fun e w' => e = .returned (.bool (decide (a = b))) ∧ Below w.heap.size w w' := by
  by_cases hl : b.length = a.length
  · obtain ⟨R, hR⟩ : ∃ R, R = decide (a = b) := ⟨_, rfl⟩
    rw [hl, ← hR]
    obtain ⟨m, hm⟩ : ∃ m, m = a.length := ⟨_, rfl⟩
    have hmx : m ≤ 9223372036854775807 := by rw [hm]; exact Nat.le_trans ha.room ha.most
    rw [← hm]
    have HA := Lib.hid ha
    have HB := Lib.hid hb
    have HM := Lib.hid hm
    have HL := Lib.hid hl
    have HR := Lib.hid hR
    clear ha hb hm hl hR
    go_enter Try.func19, Try.ntmps19
    go_wp2
    go_loopw [5] (fun i wr => ∃ k q : Nat, k ≤ m ∧ i = .int .i64 k ∧ wr = w.drewN q ∧ Hid (a.take k = b.take k)) (fun i _ => m - (intOf i).toNat)
    case atStart => exact ⟨0, 0, Nat.zero_le _, rfl, rfl, Lib.hid rfl⟩
    case round =>
      obtain ⟨k, q, hk, rfl, rfl, HK⟩ := hrel
      by_cases hkm : k < m
      · obtain ⟨g1, o1, rfl, _, hc1⟩ := HA.out.at_ (j := k) (by rw [← HM.out]; exact hkm)
        obtain ⟨g2, o2, rfl, _, hc2⟩ := HB.out.at_ (j := k) (by rw [HL.out, ← HM.out]; exact hkm)
        have hx := getD_some (a := a) (k := k) (by rw [← HM.out]; exact hkm)
        have hy := getD_some (a := b) (k := k) (by rw [HL.out, ← HM.out]; exact hkm)
        have k0 : (0 : Int) ≤ k := by omega
        have km : (k : Int) < m := by omega
        generalize a.getD k 0 = x at *
        generalize b.getD k 0 = y at *
        by_cases hxy : x = y
        · have HS := Lib.hid (take_eq_snoc HK.out hx hy hxy)
          subst hxy
          clear hx hy
          go_wp2
          go_quiet (fail)
          go_wp2
          go_roundw
          case rel => exact ⟨k + 1, q + nq, by omega, by go_num, by simp [World.drewN], HS⟩
          case measure => simp [intOf]; omega
        · have HF := Lib.hid (show R = false by rw [HR.out]; exact decide_eq_false (fun e => by subst e; rw [hx] at hy; cases hy; exact hxy rfl))
          have t1 : (x != y) = true := by simpa using hxy
          have t2 : (x == y) = false := by simpa using hxy
          clear hx hy
          go_wp2
          go_quiet (fail)
          go_wp2
          go_ret
          rw [HF.out]
          exact ⟨rfl, below_drewN (below_drewN (Below.refl _ _) _) _⟩
      · obtain rfl : k = m := by omega
        have HT := Lib.hid (show R = true by
          rw [HR.out]
          refine decide_eq_true ?_
          have := HK.out
          rw [HM.out, List.take_length, ← HL.out, List.take_length] at this
          exact this)
        go_wp2
        go_ret
        rw [HT.out]
        exact ⟨rfl, below_drewN (Below.refl _ _) _⟩
  · have HT := Lib.hid (show decide (a = b) = false from decide_eq_false (fun e => hl (by rw [e])))
    generalize decide (a = b) = R at *
    generalize a.length = n at *
    generalize b.length = m at *
    have t2 : ((n : Int) != (m : Int)) = true := by simp; omega
    have t3 : ((n : Int) == (m : Int)) = false := by simp; omega
    have t4 : (n == m) = false := by simp; omega
    clear hl ha hb
    go_enter Try.func19, Try.ntmps19
    go_wp2
    go_ret
    rw [HT.out]
    exact ⟨rfl, Below.refl _ _⟩


def apartM (x y : List Int) : Bool := !decide (x.take (min x.length y.length) = y.take (min x.length y.length))
theorem apartM_iff {x y : List Int} {b : Bool} (h : meet x y ↔ b = true) : apartM x y = !b := by
  unfold apartM
  unfold meet at h
  cases b
  · rw [decide_eq_false (fun e => by have := h.1 e; cases this)]
  · rw [decide_eq_true (h.2 rfl)]

set_option maxHeartbeats 1000000 in
theorem apart_any (A A' : Option Addr) (c c' : Nat) (x y : List Int) (w : World) (hx : Vec .u8 w A c x) (hy : Vec .u8 w A' c' y) :
    Calls Try.prog 33 #[.slice A x.length c, .slice A' y.length c'] w fun e w' => e = .returned (.bool (apartM x y)) ∧ Below w.heap.size w w' := by
  have hrx := hx.room
  have hry := hy.room
  have hmx := hx.most
  have hmy := hy.most
  obtain ⟨k, hk⟩ : ∃ k, k = min x.length y.length := ⟨_, rfl⟩
  have HE := Lib.hid (eqB_any A A' c c' (x.take k) (y.take k) w.drew (hx.begin k).drew (hy.begin k).drew)
  have h1 : (x.take k).length = k := by simp; omega
  have h2 : (y.take k).length = k := by simp; omega
  have HR := Lib.hid (show apartM x y = !decide (x.take k = y.take k) by unfold apartM; rw [hk])
  rw [h1, h2] at HE
  generalize apartM x y = R at *
  generalize decide (x.take k = y.take k) = D at *
  generalize x.length = n at *
  generalize y.length = m at *
  have hmin : min (n : Int) (m : Int) = (k : Int) := by omega
  have k0 : (0 : Int) ≤ k := by omega
  have hkn : (k : Int) ≤ n := by omega
  have hkm : (k : Int) ≤ m := by omega
  have hkc : (k : Int) ≤ c := by omega
  have hkc' : (k : Int) ≤ c' := by omega
  clear hx hy h1 h2 hk
  go_enter Try.func33, Try.ntmps33
  go_wp2
  go_region_held3 (fun _ => True) (first | exact trivial) (first
    | (go_at_call 32; refine HE.out.mono ?_; rintro e w2 ⟨rfl, hb2⟩; have HB2 := Lib.hid hb2; clear hb2))
  all_goals (
    go_wp2
    go_ret
    rw [HR.out]
    exact ⟨rfl, (below_drew (Below.refl _ w)).trans HB2.out⟩)

end Go.Proofs.Ythbpnngfdpdjkaa
