/-
  What walk, On, Of and Back answer, called with any mark and any bytes.
-/
import Derived.Test.YtienabfilnpieaaGreatMarkMath
import Derived.Test.YtienabfilnpieaaGreatFieldAsk
namespace Go.Proofs.YtienabfilnpieaaGreat
open Go.RowKit
set_option maxRecDepth 100000
set_option linter.unusedVariables false

theorem Sl.at_ {w : World} {A : Option Addr} {c : Nat} {bs : List Int} (h : Sl w A c bs) (k : Nat) (hk : k < bs.length) : ∃ b o, A = some ⟨b, o, none⟩ ∧ w.cell? ⟨b, o + k, none⟩ = some (.int .u8 (bs.getD k 0)) := by
  obtain ⟨b, o, e, _, hc⟩ := h.rd (by omega)
  exact ⟨b, o, e, hc k hk⟩

set_option maxHeartbeats 400000 in
theorem on1_any (A : Option Addr) (c g k : Nat) (bs : List Int) (m : Int) (w : World) (hg : w.cell? ⟨g, 0, none⟩ = some (.slice A bs.length c)) (hs : Sl w A c bs) (ho : Oct bs) (hk : k < bs.length) (hm : U m) :
    Calls Tryz.prog 140 #[.int .u64 m, .int .i64 k, .pointer (some ⟨g, 0, none⟩)] w fun e w' => e = .returned (.int .u64 (step m (bs.getD k 0))) ∧ w = w' := by
  obtain ⟨b, o, rfl, hc⟩ := hs.at_ k hk
  obtain ⟨y0, y1⟩ := ho.at_ k
  have hx := xr_bits m (bs.getD k 0) hm y0 y1
  have hst : Hid (step m (bs.getD k 0) = IntKind.u64.wrap (xr m (bs.getD k 0) * 1099511628211)) := (IntKind.wrap_u64 _).symm
  obtain ⟨l, hl⟩ : ∃ l, l = bs.length := ⟨_, rfl⟩
  rw [← hl] at hg hk
  generalize bs.getD k 0 = y at *
  generalize step m y = z at *
  clear hs ho hm hl
  go_enter Tryz.func140, Tryz.ntmps140
  go_wp2
  go_ret
  rw [hst.out]
  exact ⟨rfl, rfl⟩

set_option maxHeartbeats 1000000 in
set_option maxRecDepth 100000 in
theorem walk_1 (fid : FuncId) (p1 : Value) (w : World) (n : Nat) (hn : n ≤ 9223372036854775807) (F : Nat → Int)
    (hen : ∀ x i W, (callFunc fid #[x, i, p1]).run Tryz.prog W = .ok (.enter fid #[x, i, p1]) W)
    (hcl : ∀ k, k < n → Calls Tryz.prog fid #[.int .u64 (F k), .int .i64 k, p1] w fun e w' => e = .returned (.int .u64 (F (k + 1))) ∧ w = w') :
    Calls Tryz.prog 139 #[.int .u64 (F 0), .int .i64 n, .func (.func fid) #[] #[p1]] w fun e w' => e = .returned (.int .u64 (F n)) ∧ w = w' := by
  have HC := Lib.hid hcl
  clear hcl
  go_enter Tryz.func139, Tryz.ntmps139
  go_wp2
  go_loop [0, 9] (fun m i => ∃ k : Nat, k ≤ n ∧ i = .int .i64 k ∧ m = .int .u64 (F k)) (fun _ i => n - (intOf i).toNat)
  case atStart => exact ⟨0, Nat.zero_le _, rfl, rfl⟩
  case round =>
    obtain ⟨k, hk, rfl, rfl⟩ := hrel
    by_cases hkn : k < n
    · go_wp2_with fail
      refine (HC.out k hkn).mono ?_
      rintro e w' ⟨rfl, rfl⟩
      go_wp2
      go_round
      case rel => exact ⟨k + 1, by omega, by go_num, rfl⟩
      case measure => simp [intOf]; omega
    · obtain rfl : k = n := by omega
      go_wp2
      go_ret
      exact ⟨rfl, rfl⟩

set_option maxHeartbeats 1000000 in
set_option maxRecDepth 100000 in
theorem walk_2 (fid : FuncId) (p1 p2 : Value) (w : World) (n : Nat) (hn : n ≤ 9223372036854775807) (F : Nat → Int)
    (hen : ∀ x i W, (callFunc fid #[x, i, p1, p2]).run Tryz.prog W = .ok (.enter fid #[x, i, p1, p2]) W)
    (hcl : ∀ k, k < n → Calls Tryz.prog fid #[.int .u64 (F k), .int .i64 k, p1, p2] w fun e w' => e = .returned (.int .u64 (F (k + 1))) ∧ w = w') :
    Calls Tryz.prog 139 #[.int .u64 (F 0), .int .i64 n, .func (.func fid) #[] #[p1, p2]] w fun e w' => e = .returned (.int .u64 (F n)) ∧ w = w' := by
  have HC := Lib.hid hcl
  clear hcl
  go_enter Tryz.func139, Tryz.ntmps139
  go_wp2
  go_loop [0, 9] (fun m i => ∃ k : Nat, k ≤ n ∧ i = .int .i64 k ∧ m = .int .u64 (F k)) (fun _ i => n - (intOf i).toNat)
  case atStart => exact ⟨0, Nat.zero_le _, rfl, rfl⟩
  case round =>
    obtain ⟨k, hk, rfl, rfl⟩ := hrel
    by_cases hkn : k < n
    · go_wp2_with fail
      refine (HC.out k hkn).mono ?_
      rintro e w' ⟨rfl, rfl⟩
      go_wp2
      go_round
      case rel => exact ⟨k + 1, by omega, by go_num, rfl⟩
      case measure => simp [intOf]; omega
    · obtain rfl : k = n := by omega
      go_wp2
      go_ret
      exact ⟨rfl, rfl⟩

theorem enter_on (x i p1 : Value) (W : World) : (callFunc 140 #[x, i, p1]).run Tryz.prog W = .ok (.enter 140 #[x, i, p1]) W := by kernel_rfl

/-- On: the mark stepped by each. -/
def OnAns (w : World) (z : Int) (e : Ending) (w' : World) : Prop := e = .returned (.int .u64 z) ∧ Below w.heap.size w w'

theorem ofs_u : U 14695981039346656037 := by unfold U; omega

set_option maxHeartbeats 400000 in
theorem on_any (A : Option Addr) (c : Nat) (bs : List Int) (m : Int) (w : World) (hs : Sl w A c bs) (ho : Oct bs) (hm : U m) (hbig : bs.length ≤ 9223372036854775807) :
    Calls Tryz.prog 126 #[.int .u64 m, .slice A bs.length c] w (OnAns w (onM m bs)) := by
  have hb := (Below.refl _ w).alloc (Nat.le_refl _) (.cells #[.slice A bs.length c] 33)
  have hc := cell_of_one (box_one w (.slice A bs.length c) 33)
  have hk := walk_1 140 (.pointer (some ⟨w.heap.size, 0, none⟩)) (w.alloc (.cells #[.slice A bs.length c] 33)) bs.length hbig (fun k => onM m (bs.take k)) (fun x i W => enter_on x i _ W) (fun k hk => by
    have := on1_any A c w.heap.size k bs (onM m (bs.take k)) _ hc (hs.alloc _) ho hk (onM_u m _ hm)
    rw [onM_snoc m bs k hk]
    exact this)
  simp only [List.take_zero, List.take_length] at hk
  rw [show onM m [] = m from rfl] at hk
  generalize onM m bs = z at *
  generalize bs.length = l at *
  have HB := Lib.hid hb
  have HK := Lib.hid hk
  clear hk hb hs ho hm
  go_enter Tryz.func126, Tryz.ntmps126
  go_wp2_with fail
  refine HK.out.mono ?_
  rintro e w' ⟨rfl, rfl⟩
  go_wp2
  go_ret
  exact ⟨rfl, HB.out⟩

set_option maxHeartbeats 400000 in
theorem of_any (A : Option Addr) (c : Nat) (bs : List Int) (w : World) (hs : Sl w A c bs) (ho : Oct bs) (hbig : bs.length ≤ 9223372036854775807) :
    Calls Tryz.prog 127 #[.slice A bs.length c] w (OnAns w (ofM bs)) := by
  have hk := on_any A c bs 14695981039346656037 w hs ho ofs_u hbig
  rw [show onM 14695981039346656037 bs = ofM bs from rfl] at hk
  generalize ofM bs = z at *
  generalize bs.length = l at *
  have HK := Lib.hid hk
  clear hk hs ho
  go_enter Tryz.func127, Tryz.ntmps127
  go_wp2_with fail
  refine HK.out.mono ?_
  rintro e w' ⟨rfl, hb⟩
  go_wp2
  go_ret
  exact ⟨rfl, hb⟩

end Go.Proofs.YtienabfilnpieaaGreat
