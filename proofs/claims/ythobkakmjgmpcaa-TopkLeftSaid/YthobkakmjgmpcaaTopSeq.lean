/-
  Hits of all rows, one behind the other: together, and the iterator that it answers.
-/
import Derived.Test.YthobkakmjgmpcaaTopLet
namespace Go.Proofs.Ythobkakmjgmpcaa
open Go.RowKit Go.Shelf
set_option linter.unusedVariables false
set_option linter.unusedSimpArgs false
set_option maxRecDepth 100000
attribute [local go_sem] Oper.semAt_some

theorem together_any (w : World) (A : Option Addr) (n c : Nat) : Calls Try.prog 36 #[.slice A n c] w fun e w' => e = .returned (.func (.func 40) #[] #[.pointer (some ⟨w.heap.size, 0, none⟩)]) ∧ w' = w.alloc (.cells #[.slice A n c] 34) := by
  go_enter Try.func36, Try.ntmps36
  go_wp2
  go_ret
  exact ⟨rfl, rfl⟩

def encH (x : HitM) : Array Value := #[.agg #[.int .u64 x.1, .int .u64 x.2]]
theorem flatten_take {ls : List (List HitM)} {k : Nat} {x : List HitM} (h : ls[k]? = some x) : (ls.take (k + 1)).flatten = (ls.take k).flatten ++ x := by
  rw [List.take_add_one, h]; simp
theorem KpD.rows {d B : Nat} {W0 W W' : World} {A : Option Addr} {c : Nat} {ls : List (List HitM)} (h : Rows W0 A c ls) (hw : Below W0.heap.size W0 W) (hB : W0.heap.size ≤ B) (hd : W0.heap.size ≤ d) (hk : KpD d B W W') :
    ∀ p : Addr, p.block < W0.heap.size → ∀ v, W0.cell? p = some v → W'.cell? p = some v := fun p hp v hv =>
  hk.cell ((hw.cell hp).trans hv) (by omega) (by omega)

set_option maxHeartbeats 2000000 in
theorem together1_in {w w0 : World} {A : Option Addr} {c : Nat} {ls : List (List HitM)} (n d ba : Nat) (hn : 1 ≤ n) (hba : w.cell? ⟨ba, 0, none⟩ = some (.slice A ls.length c)) (hr : Rows w0 A c ls) (hw0 : Below w0.heap.size w0 w) (hd1 : ba ≠ d) (hd : w0.heap.size ≤ d) :
    SeqOwn Fence.wide n Try.prog 40 #[.pointer (some ⟨ba, 0, none⟩)] encH (fun _ _ => False) (fun _ _ _ => True) (KpD d) (fun _ _ => True) (fun xs => xs = ls.flatten) (fun _ => True) w := by
  intro l J Jx W hW hJ hJx hY h0
  have hca : W.cell? ⟨ba, 0, none⟩ = some (.slice A ls.length c) := (hW.cell (p := ⟨ba, 0, none⟩) (World.block_lt_of_cell? w _ hba)).trans hba
  have hba' : ba < W.heap.size := World.block_lt_of_cell? W _ hca
  have hwW : Below w0.heap.size w0 W := hw0.trans (hW.mono hw0.size)
  obtain ⟨m, hm⟩ : ∃ m, m = ls.length := ⟨_, rfl⟩
  have hmx : m ≤ 9223372036854775807 := by rw [hm]; exact Nat.le_trans hr.room hr.most
  have HRW := Lib.hid hr
  have HWW := Lib.hid hwW
  have HJ := Lib.hid hJ
  have HY := Lib.hid hY
  have H0 := Lib.hid h0
  have HM := Lib.hid hm
  rw [← hm] at hca
  clear hba hr hW hJ hJx hY h0 hm hw0 hwW
  refine callsIn_of_wp Try.func40 rfl trivial ?_ rfl
  simp only [Try.ntmps40, List.size_toArray, List.length_cons, List.length_nil, Nat.reduceAdd, Nat.reduceSub, Array.replicate_succ, Array.replicate_zero, List.push_toArray, List.append_toArray, List.nil_append, List.cons_append]
  gi_wp2
  gi_loopw [4, 6, 9, 15] (fun _ _ i _ wr => ∃ k : Nat, i = .int .i64 k ∧ k ≤ m ∧ Hid (J (ls.take k).flatten wr ∧ KpD d W.heap.size W wr)) (fun _ _ i _ _ => m - (match i with | .int _ k => k.toNat | _ => 0))
  case atStart => exact ⟨0, rfl, Nat.zero_le _, Lib.hid ⟨by simpa using H0.out, KpD.refl _ _ _⟩⟩
  case round =>
    obtain ⟨k, rfl, hk, HH⟩ := hrel
    by_cases hkm : k < m
    · have hkk : (k : Int) < m := by omega
      have k0 : (0 : Int) ≤ (k : Int) := by omega
      obtain ⟨b, o, x, B, cb, rfl, hx, hb, hc1, hrow⟩ := HRW.out.at_ (i := k) (by rw [← HM.out]; exact hkm)
      have e1 : wr.cell? ⟨b, o + k, none⟩ = some (.slice B x.length cb) := HH.out.2.rows HRW.out HWW.out HWW.out.size hd ⟨b, o + k, none⟩ hb _ hc1
      obtain ⟨r, hrl⟩ : ∃ r, r = x.length := ⟨_, rfl⟩
      have hrx : r ≤ 9223372036854775807 := by rw [hrl]; exact Nat.le_trans hrow.room hrow.most
      rw [← hrl] at e1
      have HX := Lib.hid hx
      have HHT := Lib.hid hrow
      have HRL := Lib.hid hrl
      have HFT := Lib.hid (flatten_take hx)
      clear hx hc1 hrow hrl hb
      gi_wp2
      gi_loopw [6, 15] (fun _ i ws => ∃ j : Nat, i = .int .i64 j ∧ j ≤ r ∧ Hid (J ((ls.take k).flatten ++ x.take j) ws ∧ KpD d W.heap.size W ws)) (fun _ i _ => r - (match i with | .int _ k => k.toNat | _ => 0))
      case atStart => exact ⟨0, rfl, Nat.zero_le _, Lib.hid ⟨by simpa using HH.out.1, HH.out.2⟩⟩
      case round =>
        obtain ⟨j, rfl, hj, HI⟩ := hrel
        by_cases hjr : j < r
        · have hjj : (j : Int) < r := by omega
          have j0 : (0 : Int) ≤ (j : Int) := by omega
          obtain ⟨b2, o2, rfl, hb2, hc2, hc3⟩ := HHT.out.at_ (j := j) (by rw [← HRL.out]; exact hjr)
          have e2 : wr.cell? ⟨b2, o2 + j * 2, none⟩ = some _ := HI.out.2.rows HRW.out HWW.out HWW.out.size hd ⟨b2, o2 + j * 2, none⟩ hb2 _ hc2
          have e3 : wr.cell? ⟨b2, o2 + j * 2 + 1, none⟩ = some _ := HI.out.2.rows HRW.out HWW.out HWW.out.size hd ⟨b2, o2 + j * 2 + 1, none⟩ hb2 _ hc3
          have hxj : x[j]? = some (x.getD j z2) := by
            rw [List.getD_eq_getElem?_getD, List.getElem?_eq_getElem (by rw [← HRL.out]; exact hjr)]; rfl
          have hst : (ls.take k).flatten ++ x.take j ++ [x.getD j z2] = (ls.take k).flatten ++ x.take (j + 1) := by rw [List.take_add_one, hxj, List.append_assoc]; rfl
          generalize x.getD j z2 = y at *
          obtain ⟨y1, y2⟩ := y
          dsimp only at e2 e3 hst
          have hba1 : Below wr.heap.size wr (wr.alloc (.cells #[.int .u64 y1, .int .u64 y2] 32)) := (Below.refl _ _).alloc (Nat.le_refl _) _
          obtain ⟨fn, tmps, assign, body, hy, hR⟩ := HY.out ((ls.take k).flatten ++ x.take j) (y1, y2) (wr.alloc (.cells #[.int .u64 y1, .int .u64 y2] 32)) (HJ.out _ wr _ HI.out.1 (Turn.of_below (hba1.mono (Nat.le_refl _)))) (Nat.le_trans HI.out.2.size hba1.size) trivial trivial
          rw [hst] at hR
          have HK := Lib.hid (HI.out.2.trans (KpD.below (d := d) (B := W.heap.size) hba1))
          have HR := Lib.hid hR
          unfold encH at hy
          dsimp only at hy
          clear hR hst hc2 hc3 hb2 hxj hba1
          gi_wp2
          refine HR.out.mono ?_
          rintro e W3 (⟨rfl, hJ3, hk3⟩ | ⟨rfl, hJx3⟩)
          · have HH3 := Lib.hid (And.intro hJ3 (HK.out.trans hk3))
            clear hJ3 hk3
            gi_wp2
            go_roundw
            case rel => exact ⟨j + 1, by simp, by omega, HH3⟩
            case measure => simp; omega
          · have HX3 := Lib.hid hJx3
            clear hJx3
            gi_wp2
            refine bodyPost_ret (results_none rfl _ _ _) rfl ?_
            exact ⟨⟨_, rfl⟩, .inr ⟨_, trivial, HX3.out⟩⟩
        · obtain rfl : j = r := by omega
          have HF := Lib.hid (show J (ls.take (k + 1)).flatten wr ∧ KpD d W.heap.size W wr by
            rw [HFT.out]
            have := HI.out
            rw [List.take_of_length_le (Nat.le_of_eq HRL.out.symm)] at this
            exact this)
          gi_wp2
          go_roundw
          case rel => exact ⟨k + 1, by simp, by omega, HF⟩
          case measure => simp; omega
    · obtain rfl : k = m := by omega
      have HF := Lib.hid (show J ls.flatten wr by have := HH.out.1; rw [List.take_of_length_le (Nat.le_of_eq HM.out.symm)] at this; exact this)
      gi_wp2
      go_end0
      exact ⟨⟨_, rfl⟩, .inl ⟨_, rfl, HF.out⟩⟩

end Go.Proofs.Ythobkakmjgmpcaa
