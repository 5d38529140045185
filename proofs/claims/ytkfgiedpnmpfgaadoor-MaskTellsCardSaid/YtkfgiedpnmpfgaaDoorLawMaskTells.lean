/-
  The statement MaskTells: what masks tell is what the document's sets tell; for every row of masks, and of numbers.
-/
import Derived.Test.YtkfgiedpnmpfgaaDoorMskR7
import Derived.Test.YtkfgiedpnmpfgaaDoorMskHas
import Derived.Test.YtkfgiedpnmpfgaaDoorMskP
import Derived.Test.YtkfgiedpnmpfgaaDoorMskRel
import Derived.Test.YtkfgiedpnmpfgaaDoorMskWakes
import Derived.Deep.Cut
import Derived.Test.YtkfgiedpnmpfgaaDoorLawFrame
import Derived.Test.YtkfgiedpnmpfgaaDoorCards
import Derived.Test.YtkfgiedpnmpfgaaDoorTie
import Derived.ProofKit
import Derived.LaidMore
import Derived.OpenShut
import Derived.Stop.Joined
import Derived.SevenTiedAt
namespace Go.Proofs.YtkfgiedpnmpfgaaDoor.maskTells
open Go.RowKit Go.Shelf
set_option linter.unusedVariables false
set_option linter.unusedSimpArgs false
set_option maxRecDepth 100000

inductive Rs where
  | v (x : Value)
  | s (n : Nat) (l : List Int)
  | u
def Rs.sat : Rs → Value → World → Prop
  | .v x, y, _ => y = x
  | .s n l, y, w => ∃ A c, y = .slice A n c ∧ Vec .i64 w A c l
  | .u, _, _ => True
theorem Rs.stable : ∀ (k : Rs) (v : Value) (w w' : World), k.sat v w → Below w.heap.size w w' → k.sat v w'
  | .v x, _, _, _, h, _ => h
  | .s n l, _, _, _, ⟨A, c, h1, h2⟩, hb => ⟨A, c, h1, h2.below hb⟩
  | .u, _, _, _, _, _ => trivial
def relS (L : List Rs) (i : Nat) : Value → World → Prop := (L.getD i .u).sat
theorem region_relS {P : Program} {Q : Exit → Act → World → Prop} {id : Nat} {l : List Oper} {a : Act} {w : World} (C : World → Prop) (L : List Rs) (hm : P.follows .mixedOrders = true) (hC : C { w with drawn := w.drawn + 1 })
    (hap : apartR l = true) (hbd : boundR 0 l = true) (hsz : (l.all fun o => match o.dst with | some t => decide (t < a.tmps.size) | none => true) = true)
    (how : allR (fun j o => OweR P Q l C (relS L) a j o) 0 l) (hend : ∀ f w, C w → (∀ j, j < l.length → relS L j (f j) w) → Q .normal (fillR 0 l f a) w) : (Code.region id l.toArray true).wp P Q a w :=
  region_rel C (relS L) hm hC (fun i v w w' h hb => Rs.stable _ v w w' h hb) hap hbd hsz (fun j o ho => by have := allR_of _ l 0 how j o ho; rw [Nat.zero_add] at this; exact this) hend
theorem dep_ofS {o : Oper} {L : List Rs} {f : Nat → Value} {w : World} (hd : ∀ e ∈ o.after, Region.binds .any e = true → relS L e.on (f e.on) w) (k : Nat) (h : (o.after.any fun e => Region.binds .any e && e.on == k) = true) : relS L k (f k) w := by
  obtain ⟨i, hi, he⟩ := Array.any_eq_true.1 h
  simp only [Bool.and_eq_true, beq_iff_eq] at he
  have := hd _ (Array.getElem_mem hi) he.1
  rw [he.2] at this
  exact this


open Go.ChangeShapes Go.WideShapes Go.ChangeAt in
theorem tab_of_laid {W : World} (h : laidMetH Tryd.prog Rows.maskTellsRow.laid W) : Tab W := by
  rw [MakeChecks.laidMetH_plain _ _ _ (by kernel_rfl)] at h
  obtain ⟨ps, ⟨g0, t0, cs0, f0, p0, q0, hg0, ht0, hv0, hd0, _, _⟩, _, _⟩ := h
  obtain rfl := Option.some.inj ((show Tryd.prog.globalNamed "math/bits.deBruijn64tab" = some 0 by kernel_rfl).symm.trans hg0)
  obtain rfl := Option.some.inj ((show (Tryd.prog.globals[0]?).map (·.type) = some 68 by kernel_rfl).symm.trans ht0)
  obtain ⟨xs, m1, rfl, hx1, hlen, hn, hel⟩ := DataW.trod_array Tryd.underlying68 hd0
  have c5 : Tryd.prog.cellsOf 5 = 1 := by kernel_rfl
  have hdat : (DataW.agg (Lib.deBruijn64tab.map fun (n : Nat) => (DataW.lit (.int .u8 (n : Int)) : DataW Unit))) = .agg (xs.map (·.1)) := (show DataW.agg (Lib.deBruijn64tab.map fun (n : Nat) => (DataW.lit (.int .u8 (n : Int)) : DataW Unit)) = Rows.laid_math_bits_deBruijn64tab from rfl).trans (Prod.mk.inj hx1).1
  intro j hj
  have hj' : j < 64 := hj
  have h0 := hel j hj'
  have hxj : xs[j]? = some (xs[j]'(by omega)) := List.getElem?_eq_getElem (by omega)
  rw [hxj] at h0
  obtain ⟨k, e1, e2, _⟩ := DataW.trod_int Tryd.underlying5 h0
  injection hdat with hdat
  have e3 := congrArg (fun l => l[j]?) hdat
  rw [List.getElem?_map, List.getElem?_map, hxj, e2, List.getElem?_eq_getElem hj] at e3
  simp only [Option.map_some, Option.some.injEq, DataW.lit.injEq, Lit.int.injEq, true_and] at e3
  have hc := World.var?_cell hg0 hv0 j
  rw [hc]
  rw [c5, Nat.mul_one] at e1
  have e4 : (cs0.toList.drop j)[0]? = some (.int .u8 k) := by
    have := congrArg (fun l => l[0]?) e1
    simpa [List.getElem?_take] using this
  rw [List.getElem?_drop, Nat.add_zero] at e4
  simp [List.getD, List.getElem?_eq_getElem hj, e3]
  simpa using e4
set_option maxHeartbeats 16000000 in
theorem walk {w : World} (A : Option Addr) (c : Nat) (q : List Mk) (H : Ms w A c q) (B : Option Addr) (d : Nat) (xs : List Int) (H2 : Vec .i64 w B d xs) (hT : Tab w) :
    Calls Tryd.prog 3 #[.slice A q.length c, .slice B xs.length d] w fun e w' => e = .returned (.bool true) ∧ Below w.heap.size w w' := by
  have HWk := Lib.hid (wakes_any w)
  have HA := Lib.hid H
  have HB := Lib.hid H2
  have HT := Lib.hid hT
  obtain ⟨L1, hL1⟩ : ∃ n, n = q.length := ⟨_, rfl⟩
  have hmn : (L1 : Int) ≤ 9223372036854775807 := by have := H.room; have := H.most; omega
  have hnc : L1 ≤ c := by have := H.room; omega
  have hcm : (c : Int) ≤ 9223372036854775807 := by have := H.most; omega
  obtain ⟨L2, hL2⟩ : ∃ n, n = xs.length := ⟨_, rfl⟩
  have hmn2 : (L2 : Int) ≤ 9223372036854775807 := by have := H2.room; have := H2.most; omega
  have hnd : L2 ≤ d := by have := H2.room; omega
  have hdm : (d : Int) ≤ 9223372036854775807 := by have := H2.most; omega
  have HL1 := Lib.hid hL1
  have HL2 := Lib.hid hL2
  rw [← hL1, ← hL2]
  clear hL1 hL2 H H2 hT
  go_enter Tryd.func3, Tryd.ntmps3
  go_wp2_with fail
  refine HWk.out.mono ?_
  rintro e w1 ⟨rfl, hb1⟩
  have HB1 := Lib.hid hb1
  clear hb1
  go_wp2
  go_loopw [18] (fun i wr => ∃ (j : Nat), j ≤ L1 ∧ i = .int .i64 j ∧ Hid (Below w.heap.size w wr)) (fun i _ => L1 - (intOf i).toNat)
  case atStart => exact ⟨0, by omega, rfl, HB1⟩
  case round =>
    rename World => wo
    obtain ⟨j, hj, rfl, HW⟩ := hrel
    by_cases hjn : j < L1
    · obtain ⟨b, o, e1, hb, hcs⟩ := (HA.out.below HW.out).rd (by have := HL1.out; omega)
      subst e1
      obtain ⟨M, hM⟩ : ∃ M, q[j]? = some M := ⟨_, List.getElem?_eq_getElem (by have := HL1.out; omega)⟩
      obtain ⟨d0, d1⟩ := hcs j M hM
      have hFM : Fine M := HA.out.fine M (List.mem_of_getElem? hM)
      have j0 : (0 : Int) ≤ j := by omega
      have jn : (j : Int) < L1 := by omega
      obtain ⟨g, hg⟩ : ∃ g, g = wo.heap.size := ⟨_, rfl⟩
      obtain ⟨W1, hW1⟩ : ∃ W1, W1 = wo.alloc (.cells #[.int .u64 M.1, .int .u64 M.2] 27) := ⟨_, rfl⟩
      have hbW : Below wo.heap.size wo W1 := by rw [hW1]; exact (Below.refl _ _).alloc (Nat.le_refl _) _
      have hr1 : MRow W1 g M.1 M.2 := by rw [hW1, hg]; exact MRow.new wo _ _
      have HBW := Lib.hid (HW.out.trans (hbW.mono HW.out.size))
      have HW1 := Lib.hid hW1
      have HG := Lib.hid hg
      by_cases hj8 : j = 8
      · subst hj8
        have HBx := Lib.hid (HW.out.alloc HW.out.size (.cells #[.int .u64 M.1, .int .u64 M.2] 27))
        clear hb hcs hM hbW hr1 hW1 hg
        go_wp2
        go_ret
        exact ⟨rfl, HBx.out⟩
      · have t8 : ((j : Int) == 8) = false := by simp; omega
        have HSl := Lib.hid (slots_any M W1 hFM (HT.out.below HBW.out))
        have HR1 := Lib.hid hr1
        obtain ⟨z0, z1⟩ : W1.cell? ⟨g, 0, none⟩ = some (.int .u64 M.1) ∧ W1.cell? ⟨g, 1, none⟩ = some (.int .u64 M.2) := ⟨hr1.cell0, hr1.cell1⟩
        have HFM := Lib.hid hFM
        clear hb hcs hM hbW hr1 hW1 hg hj8 hFM
        unfold mv at HSl
        go_wp2_with fail
        rw [← HW1.out, ← HG.out]
        refine HSl.out.mono ?_
        rintro e w2 ⟨A1, c1, rfl, hO1, hB2⟩
        obtain ⟨l, hl⟩ : ∃ l, l = slotsI M := ⟨_, rfl⟩
        obtain ⟨N, hN⟩ : ∃ N, N = (slots M).length := ⟨_, rfl⟩
        have hv1 : Vec .i64 w2 A1 c1 l := by rw [hl]; exact hO1.slots
        have hlN : l.length = N := by rw [hl, hN]; exact slotsI_len M
        have hN96 : N ≤ 96 := by rw [hN]; exact slotsTo_len M 96
        have hFM := HFM.out
        have HV1 := Lib.hid (fun (X : World) (hX : Below w2.heap.size w2 X) => hv1.below hX)
        have cRS := Lib.hid (fun W => show Calls Tryd.prog 8 #[.agg #[.int .u64 M.1, .int .u64 M.2]] W (fun e w' => ∃ A c, e = .returned (.slice A N c) ∧ Vec .i64 w' A c l ∧ Below W.heap.size W w') from (rSlots_any M W hFM).mono (by
          rintro e w' ⟨A, c, he, ho, hb⟩
          exact ⟨A, c, by rw [he, hN], by rw [hl]; exact ho.slots, hb⟩))
        have cSame := Lib.hid (fun (W : World) (A : Option Addr) (c : Nat) (A' : Option Addr) (c' : Nat) (h : Vec .i64 W A c l) (h' : Vec .i64 W A' c' l) => show Calls Tryd.prog 7 #[.slice A N c, .slice A' N c'] W (fun e w' => e = .returned (.bool true) ∧ Below W.heap.size W w') from by
          have := sameInts_any A A' c c' l W h h'
          rw [hlN] at this
          exact this)
        have cCnt := Lib.hid (fun W => show Calls Tryd.prog 9 #[.agg #[.int .u64 M.1, .int .u64 M.2]] W (fun e w' => e = .returned (.int .i64 N) ∧ Below W.heap.size W w') from by
          have := count_any M W hFM
          rw [show cnt (has M) 96 = N from by rw [hN]; rfl] at this
          exact this)
        have HNx := Lib.hid (fun (n : Int) (hn : -9223372036854775808 ≤ n ∧ n ≤ 9223372036854775807) => show ∃ (nx : Int) (nb hs : Bool) (pl : Nat), (∀ W, Tab W → Calls Tryd.prog 10 #[.agg #[.int .u64 M.1, .int .u64 M.2], .int .i64 n] W (fun e w' => e = .returned (.tuple #[.int .i64 nx, .bool nb]) ∧ Below W.heap.size W w')) ∧ (∀ W, Calls Tryd.prog 11 #[.agg #[.int .u64 M.1, .int .u64 M.2], .int .i64 n] W (fun e w' => e = .returned (.tuple #[.int .i64 nx, .bool nb]) ∧ Below W.heap.size W w')) ∧
            (∀ W, Calls Tryd.prog 12 #[.agg #[.int .u64 M.1, .int .u64 M.2], .int .i64 n] W (fun e w' => e = .returned (.bool hs) ∧ Below W.heap.size W w')) ∧ (∀ W, Calls Tryd.prog 13 #[.agg #[.int .u64 M.1, .int .u64 M.2], .int .i64 n] W (fun e w' => e = .returned (.bool hs) ∧ Below W.heap.size W w')) ∧
            (∀ W, Calls Tryd.prog 14 #[.agg #[.int .u64 M.1, .int .u64 M.2], .int .i64 n] W (fun e w' => e = .returned (.int .i64 pl) ∧ Below W.heap.size W w')) ∧ (∀ W, Calls Tryd.prog 15 #[.agg #[.int .u64 M.1, .int .u64 M.2], .int .i64 n] W (fun e w' => e = .returned (.int .i64 pl) ∧ Below W.heap.size W w')) from
          ⟨_, _, _, _, fun W t => next_any M n W hFM hn t, fun W => rNext_any M n W hFM, fun W => has_any M n W hFM hn, fun W => rHas_any M n W hFM hn, fun W => place_any M n W hFM hn, fun W => rPlace_any M n W hFM⟩)
        have HBx := Lib.hid (HBW.out.trans (hB2.mono HBW.out.size))
        have hr2 := HR1.out.below hB2 HR1.out.lt
        have HK := Lib.hid (fun (X : World) (hX : Below w2.heap.size w2 X) => show X.cell? ⟨g, 0, none⟩ = some (.int .u64 M.1) ∧ X.cell? ⟨g, 1, none⟩ = some (.int .u64 M.2) from ⟨(hr2.below hX hr2.lt).cell0, (hr2.below hX hr2.lt).cell1⟩)
        rw [← hN]
        clear hO1 hB2 hl hN hv1 hlN hFM hr2 z0 z1
        go_upto_region 8 with fail
        refine region_relS (fun X => Below w2.heap.size w2 X) [.v (.slice A1 N c1), .v (.agg #[.int .u64 M.1, .int .u64 M.2]), .s N l, .v (.bool true), .v (.bool false), .v (.bool false), .v (.agg #[.int .u64 M.1, .int .u64 M.2]), .v (.int .i64 N), .v (.agg #[.int .u64 M.1, .int .u64 M.2]), .s N l, .v (.int .i64 N), .v (.bool false), .v (.bool false)]
          (by kernel_rfl) (below_drew (Below.refl _ _)) (by kernel_rfl) (by kernel_rfl) (by kernel_rfl) (by
            refine ⟨?_, ?_, ?_, ?_, ?_, ?_, ?_, ?_, ?_, ?_, ?_, ?_, ?_, trivial⟩
            · intro f w hw hd
              simp [fillR, Act.put, go_sem, relS, Rs.sat, hw, Below.refl]
            · intro f w hw hd
              obtain ⟨z0, z1⟩ := HK.out w hw
              simp [fillR, Act.put, go_sem, relS, Rs.sat, hw, Below.refl, z0, z1]
            · intro f w hw hd
              have e1 : f 1 = .agg #[.int .u64 M.1, .int .u64 M.2] := dep_ofS hd 1 (by kernel_rfl)
              simp [fillR, Act.put, go_sem, relS, Rs.sat, hw, Below.refl, e1]
              refine (cRS.out w).mono ?_
              rintro e w2 ⟨A2, c2, rfl, hv, hb⟩
              simp
              first | exact ⟨⟨A2, c2, ⟨rfl, rfl⟩, hv⟩, hw.trans (hb.mono hw.size), hb⟩ | exact ⟨⟨A2, c2, rfl, hv⟩, hw.trans (hb.mono hw.size), hb⟩ | exact ⟨⟨A2, c2, rfl, rfl, hv⟩, hw.trans (hb.mono hw.size), hb⟩ | exact ⟨⟨A2, rfl, c2, rfl, hv⟩, hw.trans (hb.mono hw.size), hb⟩ | exact ⟨⟨A2, ⟨c2, rfl, hv⟩⟩, hw.trans (hb.mono hw.size), hb⟩
            · intro f w hw hd
              have e0 : f 0 = .slice A1 N c1 := dep_ofS hd 0 (by kernel_rfl)
              obtain ⟨S2, s2, e2, v2⟩ : ∃ A c, f 2 = .slice A N c ∧ Vec .i64 w A c l := dep_ofS hd 2 (by kernel_rfl)
              simp [fillR, Act.put, go_sem, relS, Rs.sat, hw, Below.refl, e0, e2]
              refine (cSame.out w _ _ _ _ (HV1.out w hw) v2).mono ?_
              rintro e w2 ⟨rfl, hb⟩
              simp
              exact ⟨hw.trans (hb.mono hw.size), hb⟩
            · intro f w hw hd
              have e3 : f 3 = .bool true := dep_ofS hd 3 (by kernel_rfl)
              simp [fillR, Act.put, go_sem, relS, Rs.sat, hw, Below.refl, e3]
            · intro f w hw hd
              have e4 : f 4 = .bool false := dep_ofS hd 4 (by kernel_rfl)
              simp [fillR, Act.put, go_sem, relS, Rs.sat, hw, Below.refl, e4]
            · intro f w hw hd
              have e5 : f 5 = .bool false := dep_ofS hd 5 (by kernel_rfl)
              obtain ⟨z0, z1⟩ := HK.out w hw
              simp [fillR, Act.put, go_sem, relS, Rs.sat, hw, Below.refl, e5, z0, z1]
            · intro f w hw hd
              have e6 : f 6 = .agg #[.int .u64 M.1, .int .u64 M.2] := dep_ofS hd 6 (by kernel_rfl)
              have e5 : f 5 = .bool false := dep_ofS hd 5 (by kernel_rfl)
              simp [fillR, Act.put, go_sem, relS, Rs.sat, hw, Below.refl, e6, e5]
              refine (cCnt.out w).mono ?_
              rintro e w2 ⟨rfl, hb⟩
              simp
              exact ⟨hw.trans (hb.mono hw.size), hb⟩
            · intro f w hw hd
              have e5 : f 5 = .bool false := dep_ofS hd 5 (by kernel_rfl)
              obtain ⟨z0, z1⟩ := HK.out w hw
              simp [fillR, Act.put, go_sem, relS, Rs.sat, hw, Below.refl, e5, z0, z1]
            · intro f w hw hd
              have e8 : f 8 = .agg #[.int .u64 M.1, .int .u64 M.2] := dep_ofS hd 8 (by kernel_rfl)
              have e5 : f 5 = .bool false := dep_ofS hd 5 (by kernel_rfl)
              simp [fillR, Act.put, go_sem, relS, Rs.sat, hw, Below.refl, e8, e5]
              refine (cRS.out w).mono ?_
              rintro e w2 ⟨A2, c2, rfl, hv, hb⟩
              simp
              first | exact ⟨⟨A2, c2, ⟨rfl, rfl⟩, hv⟩, hw.trans (hb.mono hw.size), hb⟩ | exact ⟨⟨A2, c2, rfl, hv⟩, hw.trans (hb.mono hw.size), hb⟩ | exact ⟨⟨A2, c2, rfl, rfl, hv⟩, hw.trans (hb.mono hw.size), hb⟩ | exact ⟨⟨A2, rfl, c2, rfl, hv⟩, hw.trans (hb.mono hw.size), hb⟩ | exact ⟨⟨A2, ⟨c2, rfl, hv⟩⟩, hw.trans (hb.mono hw.size), hb⟩
            · intro f w hw hd
              obtain ⟨S9, s9, e9, v9⟩ : ∃ A c, f 9 = .slice A N c ∧ Vec .i64 w A c l := dep_ofS hd 9 (by kernel_rfl)
              have e5 : f 5 = .bool false := dep_ofS hd 5 (by kernel_rfl)
              simp [fillR, Act.put, go_sem, relS, Rs.sat, hw, Below.refl, e9, e5]
            · intro f w hw hd
              have e7 : f 7 = .int .i64 N := dep_ofS hd 7 (by kernel_rfl)
              have e10 : f 10 = .int .i64 N := dep_ofS hd 10 (by kernel_rfl)
              have e5 : f 5 = .bool false := dep_ofS hd 5 (by kernel_rfl)
              simp [fillR, Act.put, go_sem, relS, Rs.sat, hw, Below.refl, e7, e10, e5]
            · intro f w hw hd
              have e5 : f 5 = .bool false := dep_ofS hd 5 (by kernel_rfl)
              have e11 : f 11 = .bool false := dep_ofS hd 11 (by kernel_rfl)
              simp [fillR, Act.put, go_sem, relS, Rs.sat, hw, Below.refl, e5, e11]
          ) ?_
        intro f3 w3 hw3 hr3
        have ef : f3 12 = .bool false := hr3 12 (by simp)
        have HW3 := Lib.hid hw3
        clear hr3 hw3
        simp [fillR, Act.put, ef]
        clear ef
        go_wp2_with fail
        go_loopw [42] (fun i wr => ∃ (k : Nat), k ≤ L2 ∧ i = .int .i64 k ∧ Hid (Below w2.heap.size w2 wr)) (fun i _ => L2 - (intOf i).toNat)
        case atStart => exact ⟨0, by omega, rfl, HW3⟩
        case round =>
          rename World => wi
          obtain ⟨k, hk, rfl, HWi⟩ := hrel
          have HBi := Lib.hid (HBx.out.trans (HWi.out.mono HBx.out.size))
          by_cases hkn : k < L2
          · obtain ⟨b2, o2, e2, hb2, hcell⟩ := (HB.out.below HBi.out).at_ (j := k) (by rw [← HL2.out]; exact hkn)
            subst e2
            have hkx : k < xs.length := by rw [← HL2.out]; exact hkn
            have hmem : xs.getD k 0 ∈ xs := by simp [List.getD, hkx]
            have hfit := HB.out.fit _ hmem
            clear hmem hkx
            generalize xs.getD k 0 = n at *
            have hn64 : -9223372036854775808 ≤ n ∧ n ≤ 9223372036854775807 := by
              simp [Lit.wf, IntKind.min, IntKind.max, IntKind.signed, IntKind.bits] at hfit
              omega
            have k0 : (0 : Int) ≤ k := by omega
            have kn : (k : Int) < L2 := by omega
            by_cases hk20 : k = 20
            · subst hk20
              clear hb2 hfit hn64
              go_wp2
              go_roundw
              case rel => exact ⟨j + 1, by omega, by go_num, HBi⟩
              case measure => simp [intOf]; omega
            · have t20 : ((k : Int) == 20) = false := by simp; omega
              obtain ⟨nx, nb, hs, pl, p1, p2, p3, p4, p5, p6⟩ := HNx.out n hn64
              have cNx := Lib.hid (p1 wi (HT.out.below HBi.out))
              have cRNx := Lib.hid p2
              have cHas := Lib.hid p3
              have cRHas := Lib.hid p4
              have cPl := Lib.hid p5
              have cRPl := Lib.hid p6
              obtain ⟨z0, z1⟩ := HK.out wi HWi.out
              clear p1 p2 p3 p4 p5 p6 hb2 hfit hn64 hk20
              go_wp2_with fail
              refine cNx.out.mono ?_
              rintro e w5 ⟨rfl, hb5⟩
              have HW5 := Lib.hid (HWi.out.trans (hb5.mono HWi.out.size))
              obtain ⟨z0, z1⟩ := HK.out w5 HW5.out
              clear hb5
              go_wp2_with fail
              refine (cRNx.out w5).mono ?_
              rintro e w6 ⟨rfl, hb6⟩
              have HW6 := Lib.hid (HW5.out.trans (hb6.mono HW5.out.size))
              clear hb6 z0 z1
              go_upto_region 16 with fail
              refine region_rel2 (fun X => Below w2.heap.size w2 X) [.v (.int .i64 nx), .v (.int .i64 nx), .v (.bool false), .v (.bool false), .v (.bool nb), .v (.bool nb), .v (.bool false), .v (.bool false), .v (.bool false), .v (.agg #[.int .u64 M.1, .int .u64 M.2]), .v (.int .i64 n), .v (.bool hs), .v (.agg #[.int .u64 M.1, .int .u64 M.2]), .v (.int .i64 n), .v (.bool hs), .v (.bool false), .v (.bool false), .v (.bool false), .v (.agg #[.int .u64 M.1, .int .u64 M.2]), .v (.int .i64 n), .v (.int .i64 pl), .v (.agg #[.int .u64 M.1, .int .u64 M.2]), .v (.int .i64 n), .v (.int .i64 pl), .v (.bool false), .v (.bool false)]
                (by kernel_rfl) (HW6.out.trans ((below_drew (Below.refl _ _)).mono HW6.out.size)) (by kernel_rfl) (by kernel_rfl) (by kernel_rfl) (by
                  refine ⟨?_, ?_, ?_, ?_, ?_, ?_, ?_, ?_, ?_, ?_, ?_, ?_, ?_, ?_, ?_, ?_, ?_, ?_, ?_, ?_, ?_, ?_, ?_, ?_, ?_, ?_, trivial⟩
                  · intro f w hw hd
                    simp [fillR, Act.put, go_sem, relOf, Rk.sat, hw, Below.refl]
                  · intro f w hw hd
                    simp [fillR, Act.put, go_sem, relOf, Rk.sat, hw, Below.refl]
                  · intro f w hw hd
                    have e0 : f 0 = .int .i64 nx := dep_of hd 0 (by kernel_rfl)
                    have e1 : f 1 = .int .i64 nx := dep_of hd 1 (by kernel_rfl)
                    simp [fillR, Act.put, go_sem, relOf, Rk.sat, hw, Below.refl, e0, e1]
                  · intro f w hw hd
                    have e2 : f 2 = .bool false := dep_of hd 2 (by kernel_rfl)
                    simp [fillR, Act.put, go_sem, relOf, Rk.sat, hw, Below.refl, e2]
                  · intro f w hw hd
                    have e3 : f 3 = .bool false := dep_of hd 3 (by kernel_rfl)
                    simp [fillR, Act.put, go_sem, relOf, Rk.sat, hw, Below.refl, e3]
                  · intro f w hw hd
                    have e3 : f 3 = .bool false := dep_of hd 3 (by kernel_rfl)
                    simp [fillR, Act.put, go_sem, relOf, Rk.sat, hw, Below.refl, e3]
                  · intro f w hw hd
                    have e4 : f 4 = .bool nb := dep_of hd 4 (by kernel_rfl)
                    have e5 : f 5 = .bool nb := dep_of hd 5 (by kernel_rfl)
                    have e3 : f 3 = .bool false := dep_of hd 3 (by kernel_rfl)
                    simp [fillR, Act.put, go_sem, relOf, Rk.sat, hw, Below.refl, e4, e5, e3]
                  · intro f w hw hd
                    have e3 : f 3 = .bool false := dep_of hd 3 (by kernel_rfl)
                    have e6 : f 6 = .bool false := dep_of hd 6 (by kernel_rfl)
                    simp [fillR, Act.put, go_sem, relOf, Rk.sat, hw, Below.refl, e3, e6]
                  · intro f w hw hd
                    have e7 : f 7 = .bool false := dep_of hd 7 (by kernel_rfl)
                    simp [fillR, Act.put, go_sem, relOf, Rk.sat, hw, Below.refl, e7]
                  · intro f w hw hd
                    have e8 : f 8 = .bool false := dep_of hd 8 (by kernel_rfl)
                    obtain ⟨z0, z1⟩ := HK.out w hw
                    simp [fillR, Act.put, go_sem, relOf, Rk.sat, hw, Below.refl, e8, z0, z1]
                  · intro f w hw hd
                    have e8 : f 8 = .bool false := dep_of hd 8 (by kernel_rfl)
                    simp [fillR, Act.put, go_sem, relOf, Rk.sat, hw, Below.refl, e8]
                  · intro f w hw hd
                    have e9 : f 9 = .agg #[.int .u64 M.1, .int .u64 M.2] := dep_of hd 9 (by kernel_rfl)
                    have e10 : f 10 = .int .i64 n := dep_of hd 10 (by kernel_rfl)
                    have e8 : f 8 = .bool false := dep_of hd 8 (by kernel_rfl)
                    simp [fillR, Act.put, go_sem, relOf, Rk.sat, hw, Below.refl, e9, e10, e8]
                    refine (cHas.out w).mono ?_
                    rintro e w2 ⟨rfl, hb⟩
                    simp
                    exact ⟨hw.trans (hb.mono hw.size), hb⟩
                  · intro f w hw hd
                    have e8 : f 8 = .bool false := dep_of hd 8 (by kernel_rfl)
                    obtain ⟨z0, z1⟩ := HK.out w hw
                    simp [fillR, Act.put, go_sem, relOf, Rk.sat, hw, Below.refl, e8, z0, z1]
                  · intro f w hw hd
                    have e8 : f 8 = .bool false := dep_of hd 8 (by kernel_rfl)
                    simp [fillR, Act.put, go_sem, relOf, Rk.sat, hw, Below.refl, e8]
                  · intro f w hw hd
                    have e12 : f 12 = .agg #[.int .u64 M.1, .int .u64 M.2] := dep_of hd 12 (by kernel_rfl)
                    have e13 : f 13 = .int .i64 n := dep_of hd 13 (by kernel_rfl)
                    have e8 : f 8 = .bool false := dep_of hd 8 (by kernel_rfl)
                    simp [fillR, Act.put, go_sem, relOf, Rk.sat, hw, Below.refl, e12, e13, e8]
                    refine (cRHas.out w).mono ?_
                    rintro e w2 ⟨rfl, hb⟩
                    simp
                    exact ⟨hw.trans (hb.mono hw.size), hb⟩
                  · intro f w hw hd
                    have e11 : f 11 = .bool hs := dep_of hd 11 (by kernel_rfl)
                    have e14 : f 14 = .bool hs := dep_of hd 14 (by kernel_rfl)
                    have e8 : f 8 = .bool false := dep_of hd 8 (by kernel_rfl)
                    simp [fillR, Act.put, go_sem, relOf, Rk.sat, hw, Below.refl, e11, e14, e8]
                  · intro f w hw hd
                    have e8 : f 8 = .bool false := dep_of hd 8 (by kernel_rfl)
                    have e15 : f 15 = .bool false := dep_of hd 15 (by kernel_rfl)
                    simp [fillR, Act.put, go_sem, relOf, Rk.sat, hw, Below.refl, e8, e15]
                  · intro f w hw hd
                    have e16 : f 16 = .bool false := dep_of hd 16 (by kernel_rfl)
                    simp [fillR, Act.put, go_sem, relOf, Rk.sat, hw, Below.refl, e16]
                  · intro f w hw hd
                    have e17 : f 17 = .bool false := dep_of hd 17 (by kernel_rfl)
                    obtain ⟨z0, z1⟩ := HK.out w hw
                    simp [fillR, Act.put, go_sem, relOf, Rk.sat, hw, Below.refl, e17, z0, z1]
                  · intro f w hw hd
                    have e17 : f 17 = .bool false := dep_of hd 17 (by kernel_rfl)
                    simp [fillR, Act.put, go_sem, relOf, Rk.sat, hw, Below.refl, e17]
                  · intro f w hw hd
                    have e18 : f 18 = .agg #[.int .u64 M.1, .int .u64 M.2] := dep_of hd 18 (by kernel_rfl)
                    have e19 : f 19 = .int .i64 n := dep_of hd 19 (by kernel_rfl)
                    have e17 : f 17 = .bool false := dep_of hd 17 (by kernel_rfl)
                    simp [fillR, Act.put, go_sem, relOf, Rk.sat, hw, Below.refl, e18, e19, e17]
                    refine (cPl.out w).mono ?_
                    rintro e w2 ⟨rfl, hb⟩
                    simp
                    exact ⟨hw.trans (hb.mono hw.size), hb⟩
                  · intro f w hw hd
                    have e17 : f 17 = .bool false := dep_of hd 17 (by kernel_rfl)
                    obtain ⟨z0, z1⟩ := HK.out w hw
                    simp [fillR, Act.put, go_sem, relOf, Rk.sat, hw, Below.refl, e17, z0, z1]
                  · intro f w hw hd
                    have e17 : f 17 = .bool false := dep_of hd 17 (by kernel_rfl)
                    simp [fillR, Act.put, go_sem, relOf, Rk.sat, hw, Below.refl, e17]
                  · intro f w hw hd
                    have e21 : f 21 = .agg #[.int .u64 M.1, .int .u64 M.2] := dep_of hd 21 (by kernel_rfl)
                    have e22 : f 22 = .int .i64 n := dep_of hd 22 (by kernel_rfl)
                    have e17 : f 17 = .bool false := dep_of hd 17 (by kernel_rfl)
                    simp [fillR, Act.put, go_sem, relOf, Rk.sat, hw, Below.refl, e21, e22, e17]
                    refine (cRPl.out w).mono ?_
                    rintro e w2 ⟨rfl, hb⟩
                    simp
                    exact ⟨hw.trans (hb.mono hw.size), hb⟩
                  · intro f w hw hd
                    have e20 : f 20 = .int .i64 pl := dep_of hd 20 (by kernel_rfl)
                    have e23 : f 23 = .int .i64 pl := dep_of hd 23 (by kernel_rfl)
                    have e17 : f 17 = .bool false := dep_of hd 17 (by kernel_rfl)
                    simp [fillR, Act.put, go_sem, relOf, Rk.sat, hw, Below.refl, e20, e23, e17]
                  · intro f w hw hd
                    have e17 : f 17 = .bool false := dep_of hd 17 (by kernel_rfl)
                    have e24 : f 24 = .bool false := dep_of hd 24 (by kernel_rfl)
                    simp [fillR, Act.put, go_sem, relOf, Rk.sat, hw, Below.refl, e17, e24]
                ) ?_
              intro f7 w7 hw7 hr7
              have ef : f7 25 = .bool false := hr7 25 (by simp)
              have HB7 := Lib.hid hw7
              clear hr7 hw7
              simp [fillR, Act.put, ef]
              clear ef
              go_wp2
              go_roundw
              case rel => exact ⟨k + 1, by omega, by go_num, HB7⟩
              case measure => simp [intOf]; omega
          · obtain rfl : k = L2 := by omega
            go_wp2
            go_roundw
            case rel => exact ⟨j + 1, by omega, by go_num, HBi⟩
            case measure => simp [intOf]; omega
    · obtain rfl : j = L1 := by omega
      go_wp2
      go_ret
      exact ⟨rfl, HW.out⟩

open Go.ChangeShapes Go.WideShapes Go.ChangeAt
theorem door_met (os : Os) (args : Array Value) : laidMetH Tryd.prog Rows.maskTellsRow.laid ((World.doorLaid Tryd.prog 400 os).forCall (fun _ _ => 0) ⟨#[], args, []⟩).memory :=
  laidMetH_of_parts3 (fuel := 8) (laidMet_of_run' 8 (by kernel_rfl) (by kernel_rfl)) (by kernel_rfl) (by kernel_rfl)

set_option maxRecDepth 100000 in
theorem lifted (os : Os) (started : os.Started) (H : Type) (enc : TypeId × Value → H) :
    ReturnsInHanded {} Tryd.checked os 3 .any (fun w args => (Rows.maskTellsSpec.pre enc Tryd.prog Tryd.f3 [] false w args ∧ laidMetH Tryd.prog Rows.maskTellsRow.laid w) ∧ sizedMet enc Tryd.prog Tryd.f3 (OpenSpec.ofChange Rows.maskTellsSpec) false w args)
      (Rows.maskTellsSpec.post enc Tryd.prog Tryd.f3 false true false false) := by
  refine returnsInHanded_of_change_and (C := Tryd.checked) (X := fun w _ => laidMetH Tryd.prog Rows.maskTellsRow.laid w) (fun _ _ _ hh h => h.of_heap hh) Tryd.own started (by kernel_rfl) Tryd.func3
    (ChangeSpec.witness_shaped (enc := enc) (C := Tryd.checked) (os := os) (X := fun w _ => laidMetH Tryd.prog Rows.maskTellsRow.laid w) false (World.doorLaid Tryd.prog 400 os) #[.slice none 0 0, .slice none 0 0] 8 rfl (World.shaped_of_RefB (by kernel_rfl) (by kernel_rfl)) (by kernel_rfl) (by kernel_rfl) (by kernel_rfl) (door_met os _)) ?_
  intro W base args ds gs before hval0 hW _ _ hL _
  have hval : ∀ (j : Nat) t v, Tryd.f3.params[j]? = some t → args[j]? = some v → Value.okWide Tryd.prog W .any base t v := hval0
  have hW' := hW
  obtain ⟨p, q, hA0, hV, rfl, hfz, hnd⟩ := hW
  have hA : DataW.TrodAll enc Tryd.prog W 0 (fun _ => true) true Tryd.f3.params.toList args.toList ds p := hA0
  rw [Tryd.params3] at hA hval
  have hA' := hA
  obtain ⟨v0, vs0, d0, ds0, p0, q0, hargs, rfl, rfl, h0, r0⟩ := trodAll_cons hA
  obtain ⟨v1, vs1, d1, ds1, p1, q1, rfl, rfl, rfl, h1, r1⟩ := trodAll_cons r0
  obtain ⟨rfl, rfl, rfl⟩ := trodAll_nil r1
  obtain rfl : args = #[v0, v1] := by cases args; simp_all
  obtain ⟨rfl, rfl⟩ := trodVars_none hV
  obtain ⟨A0, len0, c0, rfl⟩ := okWide_slice Tryd.underlying22 (hval 0 22 v0 rfl rfl)
  obtain ⟨z0, rfl, sl0⟩ := open_masks h0
  obtain ⟨A1, len1, c1, rfl⟩ := okWide_slice Tryd.underlying23 (hval 1 23 v1 rfl rfl)
  obtain ⟨z1, rfl, sl1⟩ := open_slots h1
  clear hA0 hval0
  refine (walk A0 c0 z0 sl0 A1 c1 z1 sl1 (tab_of_laid hL)).mono fun e W' ⟨he, bel⟩ => ?_
  subst he
  exact ⟨_, rfl, _, _, _, [], _, [], hW', trodAll_mk1 (shut_bool Tryd.underlying4 _), trodAll_below bel _ _ _ _ (by kernel_rfl) hA', rfl, bel.frame _, fun h => by cases h⟩

theorem row_holds : Rows.MaskTellsSaid :=
  OpenClaim.holds_of_wide 3 Tryd.f3 rfl rfl rfl rfl rfl rfl rfl ⟨rfl, rfl, rfl, rfl, rfl⟩ rfl rfl rfl rfl rfl (by kernel_rfl) Tryd.func3 (by kernel_rfl)
    (of_decide_eq_true (by kernel_rfl)) (by unfold Func.isWrapper; first | (rw [if_pos (by decide +kernel)]; kernel_rfl) | (rw [if_neg (by decide +kernel)]; exact ⟨rfl, rfl⟩))
    (fun os started H enc _ => lifted os started H enc)

theorem proved : Rows.MaskTellsCardSaid :=
  Claim7.holds_tied_plain_at .later [] [.data] true Rows.maskTellsCard.stood.harness false
    row_holds (fun _ h => by cases h) (by kernel_rfl) (fun _ h => by cases h) maskTells_row_tie rfl ⟨rfl, rfl⟩ (by kernel_rfl) rfl
    (fun f fn hf hfn => by
      obtain rfl : f = 3 := Option.some.inj ((show Tryd.prog.funcNamed "quiver/quiverlaw10.MaskTells" = some 3 by kernel_rfl).symm.trans hf) |>.symm
      obtain rfl : fn = Tryd.f3 := (Option.some.inj (Tryd.func3.symm.trans hfn)).symm
      exact ⟨by kernel_rfl, fun j t ht => by
        rw [Tryd.params3] at ht
        have hm : t ∈ [22, 23] := by simpa using Array.mem_of_getElem? ht
        have hall : ([22, 23].all fun u => !Tryd.prog.wantsStandIn u) = true := by kernel_rfl
        exact (show Tryd.prog.wantsStandIn t = false by simpa using List.all_eq_true.1 hall t hm)⟩)
    (by kernel_rfl)
#print axioms proved
end Go.Proofs.YtkfgiedpnmpfgaaDoor.maskTells
