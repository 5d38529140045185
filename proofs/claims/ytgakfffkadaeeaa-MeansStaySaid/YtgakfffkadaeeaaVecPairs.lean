/-
  Components side by side: together, and the iterator that it answers.
-/
import Derived.Test.YtgakfffkadaeeaaVecTold
import Derived.Test.YtgakfffkadaeeaaVecSeq
namespace Go.Proofs.Ytgakfffkadaeeaa
open Go.RowKit Go.Shelf
set_option linter.unusedVariables false
set_option maxRecDepth 100000
attribute [local go_sem] Oper.semAt_some

theorem together_any (w : World) (A B : Option Addr) (n m c d : Nat) : Calls Try.prog 62 #[.slice A n c, .slice B m d] w fun e w' => e = .returned (.func (.func 74) #[] #[.pointer (some ⟨w.heap.size, 0, none⟩), .pointer (some ⟨w.heap.size + 1, 0, none⟩)]) ∧ w' = (w.alloc (.cells #[.slice A n c] 35)).alloc (.cells #[.slice B m d] 35) := by
  go_enter Try.func62, Try.ntmps62
  go_wp2
  go_ret
  exact ⟨rfl, rfl⟩

/-- Some first ones. -/
def Begins (zs pre : List (Int × Int)) : Prop := ∃ k, pre = zs.take k
def encP (x : Int × Int) : Array Value := #[.int .i32 x.1, .int .i32 x.2]
/-- How a round ended. -/
def RoundB (J Jx : List (Int × Int) → World → Prop) (d B : Nat) (pre : List (Int × Int)) (W1 : World) (e : Ending) (W' : World) : Prop :=
  ∃ b : Bool, e = .returned (.bool b) ∧ (b = true → J pre W' ∧ KpD d B W1 W') ∧ (b = false → Jx pre W')

set_option maxHeartbeats 2000000 in
theorem together1_in {w : World} {A A' : Option Addr} {c c' : Nat} {a b : List Int} (n d ba bb : Nat) (hn : 1 ≤ n) (hl : b.length = a.length) (hba : w.cell? ⟨ba, 0, none⟩ = some (.slice A a.length c)) (hbb : w.cell? ⟨bb, 0, none⟩ = some (.slice A' a.length c')) (ha : Vec .i32 w A c a) (hb : Vec .i32 w A' c' b)
    (hd1 : ba ≠ d) (hd2 : bb ≠ d) (hda : ∀ g o, A = some ⟨g, o, none⟩ → 0 < a.length → g ≠ d) (hdb : ∀ g o, A' = some ⟨g, o, none⟩ → 0 < a.length → g ≠ d) :
    SeqOwn Fence.wide n Try.prog 74 #[.pointer (some ⟨ba, 0, none⟩), .pointer (some ⟨bb, 0, none⟩)] encP (fun _ _ => False) (fun _ _ _ => True) (KpD d) (fun pre x => (a.zip b)[pre.length]? = some x) (fun xs => xs = a.zip b) (Begins (a.zip b)) w := by
  intro l J Jx W hW hJ hJx hY h0
  have hca : W.cell? ⟨ba, 0, none⟩ = some (.slice A a.length c) := (hW.cell (p := ⟨ba, 0, none⟩) (World.block_lt_of_cell? w _ hba)).trans hba
  have hcb : W.cell? ⟨bb, 0, none⟩ = some (.slice A' a.length c') := (hW.cell (p := ⟨bb, 0, none⟩) (World.block_lt_of_cell? w _ hbb)).trans hbb
  have hba' : ba < W.heap.size := World.block_lt_of_cell? W _ hca
  have hbb' : bb < W.heap.size := World.block_lt_of_cell? W _ hcb
  have HVA := Lib.hid (ha.below hW)
  have HVB := Lib.hid (hb.below hW)
  obtain ⟨m, hm⟩ : ∃ m, m = a.length := ⟨_, rfl⟩
  have hmx : m ≤ 9223372036854775807 := by rw [hm]; exact Nat.le_trans ha.room ha.most
  have hzl : (a.zip b).length = m := by rw [List.length_zip, hl, hm]; simp
  have HL := Lib.hid hl
  have HDA := Lib.hid hda
  have HDB := Lib.hid hdb
  have HJ := Lib.hid hJ
  have HY := Lib.hid hY
  have H0 := Lib.hid h0
  have HM := Lib.hid hm
  have HZ := Lib.hid hzl
  rw [← hm] at hca hcb
  clear hba hbb ha hb hW hJ hJx hY h0 hl hm hda hdb hzl
  refine callsIn_of_wp Try.func74 rfl trivial ?_ rfl
  simp only [Try.ntmps74, List.size_toArray, List.length_cons, List.length_nil, Nat.reduceAdd, Nat.reduceSub, Array.replicate_succ, Array.replicate_zero, List.push_toArray, List.append_toArray, List.nil_append, List.cons_append]
  gi_wp2
  gi_loopw [4, 10] (fun _ i wr => ∃ k : Nat, i = .int .i64 k ∧ k ≤ m ∧ Hid (J ((a.zip b).take k) wr ∧ KpD d W.heap.size W wr)) (fun _ i _ => m - (match i with | .int _ k => k.toNat | _ => 0))
  case atStart => exact ⟨0, rfl, Nat.zero_le _, Lib.hid ⟨H0.out, KpD.refl _ _ _⟩⟩
  case round =>
    obtain ⟨k, rfl, hk, HH⟩ := hrel
    by_cases hkm : k < m
    · have hkk : (k : Int) < m := by omega
      have k0 : (0 : Int) ≤ (k : Int) := by omega
      obtain ⟨g1, o1, rfl, hg1, hc1⟩ := HVA.out.at_ (j := k) (by rw [← HM.out]; exact hkm)
      obtain ⟨g2, o2, rfl, hg2, hc2⟩ := HVB.out.at_ (j := k) (by rw [HL.out, ← HM.out]; exact hkm)
      have e1 := HH.out.2.cell hc1 hg1 (HDA.out g1 o1 rfl (by have := HM.out; omega))
      have e2 := HH.out.2.cell hc2 hg2 (HDB.out g2 o2 rfl (by have := HM.out; omega))
      have e3 := HH.out.2.cell hca hba' hd1
      have e4 := HH.out.2.cell hcb hbb' hd2
      have hx : (a.zip b)[k]? = some (a.getD k 0, b.getD k 0) := by
        rw [List.getElem?_eq_getElem (by rw [HZ.out]; exact hkm), List.getElem_zip]
        simp [List.getD, List.getElem?_eq_getElem (show k < a.length by rw [← HM.out]; exact hkm), List.getElem?_eq_getElem (show k < b.length by rw [HL.out, ← HM.out]; exact hkm)]
      have hlen : ((a.zip b).take k).length = k := by rw [List.length_take, HZ.out]; omega
      generalize a.getD k 0 = x at *
      generalize b.getD k 0 = y at *
      obtain ⟨fn, tmps, assign, body, hy, hR⟩ := HY.out ((a.zip b).take k) (x, y) wr.drew (HJ.out _ wr _ HH.out.1 (Turn.refl _ _).drew) HH.out.2.size trivial (by rw [hlen]; exact hx)
      have hst : (a.zip b).take k ++ [(x, y)] = (a.zip b).take (k + 1) := by rw [List.take_add_one, hx]; rfl
      rw [hst] at hR
      have HR := Lib.hid (hR.mono (R' := RoundB J Jx d W.heap.size ((a.zip b).take (k + 1)) wr.drew) (fun e W' h => by
        rcases h with ⟨rfl, h1, h2⟩ | ⟨rfl, h1⟩
        · exact ⟨true, rfl, fun _ => ⟨h1, h2⟩, fun h => by cases h⟩
        · exact ⟨false, rfl, fun h => (by cases h), fun _ => h1⟩))
      unfold encP at hy
      dsimp only at hy
      have hmx2 : Try.prog.follows .mixedOrders = true := by kernel_rfl
      clear hR hx hlen hst hc1 hc2 hg1 hg2
      gi_wp2
      gi_region_with_o (refine HR.out.mono ?_; rintro e W3 ⟨bo, rfl, hb⟩; have HB := Lib.hid hb; clear hb)
      all_goals
        cases bo
        · gi_wp2
          refine bodyPost_ret (results_none rfl _ _ _) rfl ?_
          exact ⟨⟨_, rfl⟩, .inr ⟨_, ⟨k + 1, rfl⟩, HB.out.2 (by simp)⟩⟩
        · gi_wp2
          go_roundw
          case rel => exact ⟨k + 1, by simp, by omega, Lib.hid ⟨(HB.out.1 rfl).1, HH.out.2.drew.trans (HB.out.1 rfl).2⟩⟩
          case measure => simp; omega
    · obtain rfl : k = m := by omega
      have HF := Lib.hid (show J (a.zip b) wr by have := HH.out.1; rw [List.take_of_length_le (Nat.le_of_eq HZ.out)] at this; exact this)
      gi_wp2
      go_end0
      exact ⟨⟨_, rfl⟩, .inl ⟨_, rfl, HF.out⟩⟩

end Go.Proofs.Ytgakfffkadaeeaa
