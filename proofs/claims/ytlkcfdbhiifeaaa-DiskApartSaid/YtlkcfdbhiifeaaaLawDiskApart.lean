/-
  Proved: the law DiskApart, what is done to one file of a disk changes no other one, and what is refused changes none, returns true for every room, row of ops and op, and leaves all memory as it was. No condition.
-/
import Derived.Test.YtlkcfdbhiifeaaaLawApart
import Derived.Test.YtlkcfdbhiifeaaaLawDiskLives
import Derived.Deep.RegionHeld3
namespace Go.Proofs.Ytlkcfdbhiifeaaa.diskApart
open Go.ChangeShapes Go.WideShapes Go.ChangeAt Go.RowKit
open diskRests (Four four_of slices_of)
open diskLives (four_below)
set_option linter.unusedVariables false
set_option maxRecDepth 100000

theorem index_four (x0 x1 x2 x3 : Value) (W : World) : (Instr.index 55 (.agg #[x0, x1, x2, x3]) (.int .i64 0)).run Try.prog W = .ok x0 W ∧ (Instr.index 55 (.agg #[x0, x1, x2, x3]) (.int .i64 1)).run Try.prog W = .ok x1 W ∧
    (Instr.index 55 (.agg #[x0, x1, x2, x3]) (.int .i64 2)).run Try.prog W = .ok x2 W ∧ (Instr.index 55 (.agg #[x0, x1, x2, x3]) (.int .i64 3)).run Try.prog W = .ok x3 W := by
  refine ⟨?_, ?_, ?_, ?_⟩ <;> kernel_rfl
theorem eq_at {W : World} {A A' : Option Addr} {c c' n n' : Nat} {bs : List Int} (h : Rd W W.heap.size A bs) (h' : Rd W W.heap.size A' bs) (e : bs.length = n) (e' : bs.length = n') (q : Nat) : Calls Try.prog 29 #[.slice A n c, .slice A' n' c'] (W.drewN q) fun e w' => e = .returned (.bool true) ∧ w' = W.drewN q := by
  subst e
  subst e'
  exact (equalB _ _ _ _ _ _ (h.drewN q) (h'.drewN q)).mono fun _ _ h => ⟨h.1, h.2.symm⟩
theorem eq_plain {W : World} {Bd Bd' : Nat} {A A' : Option Addr} {c c' n n' : Nat} {bs : List Int} (h : Rd W Bd A bs) (h' : Rd W Bd' A' bs) (e : bs.length = n) (e' : bs.length = n') : Calls Try.prog 29 #[.slice A n c, .slice A' n' c'] W fun e w' => e = .returned (.bool true) ∧ W = w' := by
  subst e
  subst e'
  exact equalB _ _ _ _ _ _ h h'
theorem row_bytes {base : Nat} {W : World} {A : Option Addr} {n c : Nat} {xs ys : List Int} (h : W.ownsRow base 5 1 (.slice A n c) n (xs.map (Value.int .u8) ++ ys.map (Value.int .u8))) : Rd W W.heap.size A (xs ++ ys) := by
  rw [← List.map_append] at h
  exact Rd.own h
/-- How many bytes the first k have together. -/
def sumTo (m : Nat → Nat) (k : Nat) : Nat := match k with | 0 => 0 | 1 => m 0 | 2 => m 0 + m 1 | 3 => m 0 + m 1 + m 2 | _ => m 0 + m 1 + m 2 + m 3

/-- What stands in memory behind the op: its box, both boxes of files, the disk. -/
structure Kp (w w1 : World) (g : Nat) (o : AO) (B : Option Addr) (cb : Nat) (K : Option Addr) (kc : Nat) (S : Nat → Prop) (d : Nat) (p1 p2 : Nat) (M M' : AD) (a : Nat → Option Addr) (m ca : Nat → Nat) (b : Nat → Option Addr) (m' cb' : Nat → Nat) (W : World) : Prop where
  box : W.heap[g]? = some (.cells #[.int .i64 o.kind, .int .i64 o.file, .int .i64 o.n, .slice B o.bs.length cb, .slice K o.keep.length kc] 37 (0, 0))
  f1 : Four W p1 M a m ca
  f2 : Four W p2 M' b m' cb'
  live : LiveS w1 S W d M'
  bel : Below w.heap.size w W
theorem Kp.drewN {w w1 : World} {g : Nat} {o : AO} {B : Option Addr} {cb : Nat} {K : Option Addr} {kc : Nat} {S : Nat → Prop} {d p1 p2 : Nat} {M M' : AD} {a : Nat → Option Addr} {m ca : Nat → Nat} {b : Nat → Option Addr} {m' cb' : Nat → Nat} {W : World} (h : Kp w w1 g o B cb K kc S d p1 p2 M M' a m ca b m' cb' W) (q : Nat) : Kp w w1 g o B cb K kc S d p1 p2 M M' a m ca b m' cb' (W.drewN q) :=
  ⟨h.box, h.f1.drewN q, h.f2.drewN q, ⟨h.live.at_.drewN q, h.live.up, below_drewN h.live.bel q⟩, below_drewN h.bel q⟩

theorem below_app {wr w5 w6 : World} {B0 : Nat} {e : TypeId} {A4 : Option Addr} {n c4 : Nat} {xs : List Value} (h : Below B0 wr w5) (ho : w5.ownsRow B0 e 1 (.slice A4 n c4) n xs) (hg : w5.grownBy w6 (blk A4)) (hB : B0 ≤ w5.heap.size) : Below B0 wr w6 :=
  h.grown hg hB (fun k hk => (World.ownsRow.lt ho k (by cases hh : A4 <;> simp_all [Value.ownBlock, blk])).1)
theorem op_field3 (a b c d e : Value) (W : World) : (Instr.field 37 (.agg #[a, b, c, d, e]) 3).run Try.prog W = .ok d W := by kernel_rfl
/-- The cells that the last statements read, in every later world. -/
theorem sev {w w1 : World} {g : Nat} {o : AO} {B : Option Addr} {cb : Nat} {K : Option Addr} {kc : Nat} {S : Nat → Prop} {d p1 p2 : Nat} {M M' : AD} {a : Nat → Option Addr} {m ca : Nat → Nat} {b : Nat → Option Addr} {m' cb' : Nat → Nat} {W0 W : World} (h : Kp w w1 g o B cb K kc S d p1 p2 M M' a m ca b m' cb' W0) {fi bn kn : Nat} (hf : fi < 4) (hfi : o.file = (fi : Int)) (hbn : bn = o.bs.length) (hkn : kn = o.keep.length) (hb : Below W0.heap.size W0 W) :
    W.cell? ⟨g, 0, none⟩ = some (.int .i64 o.kind) ∧ W.cell? ⟨g, 1, none⟩ = some (.int .i64 (fi : Int)) ∧ W.cell? ⟨g, 2, none⟩ = some (.int .i64 o.n) ∧ W.cell? ⟨g, 3, none⟩ = some (.slice B bn cb) ∧ W.cell? ⟨g, 4, none⟩ = some (.slice K kn kc) ∧
      W.cell? ⟨p1, fi, none⟩ = some (.slice (a fi) (m fi) (ca fi)) ∧ W.cell? ⟨p2, fi, none⟩ = some (.slice (b fi) (m' fi) (cb' fi)) := by
  have hx := (hb.block g (lt_of_block h.box)).trans h.box
  rw [← hfi, hbn, hkn]
  refine ⟨by simp [World.cell?, hx], by simp [World.cell?, hx], by simp [World.cell?, hx], by simp [World.cell?, hx], by simp [World.cell?, hx], ?_, ?_⟩
  · exact (hb.cell (p := ⟨p1, fi, none⟩) (lt_of_block h.f1.box)).trans (h.f1.cell hf)
  · exact (hb.cell (p := ⟨p2, fi, none⟩) (lt_of_block h.f2.box)).trans (h.f2.cell hf)

set_option maxHeartbeats 8000000 in
theorem walk {w : World} (r : Int) (hr : I64 r) (A : Option Addr) (c : Nat) (os : List AO) (ho : OpsAt w A os) (hc : os.length ≤ c) (hcm : c ≤ 9223372036854775807) (o : AO) (B : Option Addr) (cb : Nat) (K : Option Addr) (kc : Nat) (wo : o.Wf) (hop : OpAt w w.heap.size o B cb K kc) :
    Calls Try.prog 7 #[.int .i64 r, .slice A os.length c, opV o B cb K kc] w fun e w' => e = .returned (.bool true) ∧ Below w.heap.size w w' := by
  obtain ⟨W0, hW0⟩ : ∃ W0, W0 = w.alloc (.cells #[.int .i64 o.kind, .int .i64 o.file, .int .i64 o.n, .slice B o.bs.length cb, .slice K o.keep.length kc] 37) := ⟨_, rfl⟩
  have hb0 : Below w.heap.size w W0 := by rw [hW0]; exact (Below.refl _ w).alloc (Nat.le_refl _) _
  have hbox : W0.heap[w.heap.size]? = some (.cells #[.int .i64 o.kind, .int .i64 o.file, .int .i64 o.n, .slice B o.bs.length cb, .slice K o.keep.length kc] 37 (0, 0)) := by rw [hW0]; exact heap_alloc_new w _
  have HRL := Lib.hid (fun (W : World) (hb : Below w.heap.size w W) => run_law r hr A c os (diskDies.ops_below ho hb) hc hcm)
  have HOP := Lib.hid hop
  have HBOX := Lib.hid hbox
  have HB0 := Lib.hid hb0
  have HW0 := Lib.hid hW0
  have HWO := Lib.hid wo
  have hrg := op_range o
  have hopdef : o.op = (IntKind.u64.wrap o.kind).tmod 12 := rfl
  obtain ⟨n, hn⟩ : ∃ n, n = os.length := ⟨_, rfl⟩
  rw [← hn] at hc HRL ⊢
  obtain ⟨bn, hbn⟩ : ∃ bn, bn = o.bs.length := ⟨_, rfl⟩
  have HBN := Lib.hid hbn
  obtain ⟨kn, hkn⟩ : ∃ kn, kn = o.keep.length := ⟨_, rfl⟩
  have HKN := Lib.hid hkn
  dsimp only [opV]
  rw [← hbn] at HBOX HW0 ⊢
  rw [← hkn] at HBOX HW0 ⊢
  clear ho hn hop hbox hb0 hW0 wo hbn hkn
  go_enter Try.func7, Try.ntmps7
  go_wp2_with fail
  rw [← HW0.out]
  obtain ⟨g, hg⟩ : ∃ g, g = w.heap.size := ⟨_, rfl⟩
  have HG := Lib.hid hg
  rw [← hg] at HBOX ⊢
  clear HW0 hg
  refine (wakes_any _).mono ?_
  rintro e w1 ⟨rfl, hb1⟩
  have HB1 := Lib.hid hb1
  clear hb1
  go_wp2_with fail
  refine (HRL.out w1 (HB0.out.trans (HB1.out.mono HB0.out.size))).mono ?_
  rintro e w2 ⟨d, M, rfl, ⟨S, hL⟩, hcalm⟩
  have HL := Lib.hid hL
  have HC := Lib.hid hcalm
  have hbx2 : w2.heap[g]? = some (.cells #[.int .i64 o.kind, .int .i64 o.file, .int .i64 o.n, .slice B bn cb, .slice K kn kc] 37 (0, 0)) := ((HB1.out.trans (hL.bel.mono HB1.out.size)).block g (lt_of_block HBOX.out)).trans HBOX.out
  have y0 : w2.cell? ⟨g, 0, none⟩ = some (.int .i64 o.kind) := by simp [World.cell?, hbx2]
  have HBX2 := Lib.hid hbx2
  clear hL hcalm hbx2
  by_cases h9 : 9 ≤ o.op
  · have h9d : decide (9 ≤ (IntKind.u64.wrap o.kind).tmod 12) = true := by rw [← hopdef]; simp [h9]
    clear hopdef hrg h9
    go_wp2
    go_ret
    exact ⟨rfl, HB0.out.trans ((HB1.out.trans (HL.out.bel.mono HB1.out.size)).mono HB0.out.size)⟩
  have h9d : decide (9 ≤ (IntKind.u64.wrap o.kind).tmod 12) = false := by rw [← hopdef]; simp; omega
  have h9' : o.op < 9 := by omega
  have HOPD := Lib.hid hopdef
  clear h9 hopdef
  go_wp2_with fail
  refine (whole_any HL.out.at_ HC.out.dead (by have := HC.out.ops; omega)).mono ?_
  rintro e Wa ⟨x, rfl, hx, hba⟩
  obtain ⟨a, m, ca, hm, hxa, hxe⟩ := slices_of hx
  rw [hxa]
  have HFR := Lib.hid (four_of hx hm hxe)
  have HBA := Lib.hid hba
  have HM := Lib.hid hm
  clear hx hm hxa hxe hba
  obtain ⟨Wb, hWb⟩ : ∃ Wb, Wb = (Wa.alloc (.cells #[.slice (a 0) (m 0) (ca 0), .slice (a 1) (m 1) (ca 1), .slice (a 2) (m 2) (ca 2), .slice (a 3) (m 3) (ca 3)] 55)) := ⟨_, rfl⟩
  have hbB : Below w2.heap.size w2 Wb := by rw [hWb]; exact HBA.out.alloc HBA.out.size _
  obtain ⟨hFB, hrow⟩ := HFR.out
  rw [← hWb] at hFB
  have HLB := Lib.hid (HL.out.later hbB)
  have HFB := Lib.hid hFB
  have HROW := Lib.hid hrow
  have hbxb : Wb.heap[g]? = some (.cells #[.int .i64 o.kind, .int .i64 o.file, .int .i64 o.n, .slice B bn cb, .slice K kn kc] 37 (0, 0)) := (hbB.block g (lt_of_block HBX2.out)).trans HBX2.out
  have HBXB := Lib.hid hbxb
  have y0 : Wb.cell? ⟨g, 0, none⟩ = some (.int .i64 o.kind) := by simp [World.cell?, hbxb]
  have y1 : Wb.cell? ⟨g, 1, none⟩ = some (.int .i64 o.file) := by simp [World.cell?, hbxb]
  have y2 : Wb.cell? ⟨g, 2, none⟩ = some (.int .i64 o.n) := by simp [World.cell?, hbxb]
  have y3 : Wb.cell? ⟨g, 3, none⟩ = some (.slice B bn cb) := by simp [World.cell?, hbxb]
  have y4 : Wb.cell? ⟨g, 4, none⟩ = some (.slice K kn kc) := by simp [World.cell?, hbxb]
  have HWB := Lib.hid hWb
  have hsz2 : w2.heap.size ≤ Wa.heap.size := HBA.out.size
  have HBB := Lib.hid hbB
  have ix0 : ∀ W, _ := fun W => (index_four (.slice (a 0) (m 0) (ca 0)) (.slice (a 1) (m 1) (ca 1)) (.slice (a 2) (m 2) (ca 2)) (.slice (a 3) (m 3) (ca 3)) W).1
  have ix1 : ∀ W, _ := fun W => (index_four (.slice (a 0) (m 0) (ca 0)) (.slice (a 1) (m 1) (ca 1)) (.slice (a 2) (m 2) (ca 2)) (.slice (a 3) (m 3) (ca 3)) W).2.1
  have ix2 : ∀ W, _ := fun W => (index_four (.slice (a 0) (m 0) (ca 0)) (.slice (a 1) (m 1) (ca 1)) (.slice (a 2) (m 2) (ca 2)) (.slice (a 3) (m 3) (ca 3)) W).2.2.1
  have ix3 : ∀ W, _ := fun W => (index_four (.slice (a 0) (m 0) (ca 0)) (.slice (a 1) (m 1) (ca 1)) (.slice (a 2) (m 2) (ca 2)) (.slice (a 3) (m 3) (ca 3)) W).2.2.2
  have hlen : ∀ j, m j ≤ 400 := fun j => by
    have h1 := HM.out j
    have h2 := HLB.out.at_.ok.tot
    have h3 := HC.out.room
    have h4 : (M.file (j : Nat)).bs.length ≤ M.total := by
      rw [len_file]
      by_cases hj : j < 4
      · exact len_le M ⟨by omega, by omega⟩
      · unfold AD.len
        rcases hf : M.files (j : Int) with _ | F
        · simp
        · have := HLB.out.at_.ok.names (j : Int) (by rw [hf]; simp)
          omega
    omega
  have HBG := Lib.hid hlen
  have l0 := hlen 0
  have l1 := hlen 1
  have l2 := hlen 2
  have l3 := hlen 3
  have HSUM := Lib.hid (show (m 0 : Int) + m 1 + m 2 + m 3 ≤ M.room from by
    have h0 := HM.out 0
    have h1 := HM.out 1
    have h2 := HM.out 2
    have h3 := HM.out 3
    rw [len_file] at h0 h1 h2 h3
    have h4 := HLB.out.at_.ok.tot
    unfold AD.total at h4
    have e0 : ((0 : Nat) : Int) = 0 := rfl
    have e1 : ((1 : Nat) : Int) = 1 := rfl
    have e2 : ((2 : Nat) : Int) = 2 := rfl
    have e3 : ((3 : Nat) : Int) = 3 := rfl
    rw [e0] at h0
    rw [e1] at h1
    rw [e2] at h2
    rw [e3] at h3
    omega)
  clear hlen hbxb hWb hbB hFB hrow HFR HBA
  obtain ⟨p1, hp1⟩ : ∃ p1, p1 = Wa.heap.size := ⟨_, rfl⟩
  go_wp2_with fail
  rw [← HWB.out]
  go_loop [10, 45] (fun u i => ∃ k : Nat, k ≤ 4 ∧ i = .int .i64 k ∧ u = .int .i64 (sumTo m k : Nat)) (fun _ i => 4 - (intOf i).toNat)
  case atStart => exact ⟨0, by omega, rfl, rfl⟩
  case round =>
    obtain ⟨k, hk, rfl, rfl⟩ := hrel
    by_cases hlt : k < 4
    · have hk4 : k = 0 ∨ k = 1 ∨ k = 2 ∨ k = 3 := by omega
      rcases hk4 with rfl | rfl | rfl | rfl
      · go_wp2
        go_round
        case rel => exact ⟨1, by omega, by go_num, by simp [sumTo]; exact IntWalk.wrap64_in _ ⟨by omega, by omega⟩⟩
        case measure => simp [intOf]
      · go_wp2
        go_round
        case rel => exact ⟨2, by omega, by go_num, by simp [sumTo]; exact IntWalk.wrap64_in _ ⟨by omega, by omega⟩⟩
        case measure => simp [intOf]
      · go_wp2
        go_round
        case rel => exact ⟨3, by omega, by go_num, by simp [sumTo]; exact IntWalk.wrap64_in _ ⟨by omega, by omega⟩⟩
        case measure => simp [intOf]
      · go_wp2
        go_round
        case rel => exact ⟨4, by omega, by go_num, by simp [sumTo]; exact IntWalk.wrap64_in _ ⟨by omega, by omega⟩⟩
        case measure => simp [intOf]
    · obtain rfl : k = 4 := by omega
      clear ix0 ix1 ix2 ix3 hlt hk
      have HRUN := Lib.hid (run_any o HWO.out B cb K kc (B := w.heap.size) (w := Wb) (HOP.out.below (HB0.out.trans ((HB1.out.trans (HL.out.bel.mono HB1.out.size)).mono HB0.out.size) |>.trans (HBB.out.mono (by have h1 := HB0.out.size; have h2 := HB1.out.size; have h3 := HL.out.bel.size; omega)))) HLB.out.at_ (by have := HC.out.ops; omega))
      dsimp only [opV] at HRUN
      rw [← HBN.out, ← HKN.out] at HRUN
      have HSU := Lib.hid (show ((sumTo m 4 : Nat) : Int) ≤ M.room from by have := HSUM.out; simp [sumTo]; omega)
      obtain ⟨us, hus⟩ : ∃ us : Int, us = ((sumTo m 4 : Nat) : Int) := ⟨_, rfl⟩
      rw [← hus] at HSU ⊢
      rw [← hp1] at HFB ⊢
      have hp1' : w2.heap.size ≤ p1 := by rw [hp1]; exact hsz2
      clear hus l0 l1 l2 l3 HSUM
      go_wp2_with fail
      refine HRUN.out.mono ?_
      clear HRUN
      rintro e w3 ⟨v3, S', he, hown3, hd3, ht3, hs3⟩
      have HAP := Lib.hid (apart_run HLB.out.at_.ok HC.out.armed HC.out.failing HC.out.dead o.few (by rw [few_op]; exact h9'))
      have HC' := Lib.hid (calm_run HC.out o.few (by rw [few_op]; exact h9'))
      obtain ⟨ec, hec⟩ : ∃ ec, ec = M.runC o.few := ⟨_, rfl⟩
      obtain ⟨M', hM'⟩ : ∃ M', M' = M.runM o.few := ⟨_, rfl⟩
      rw [← hec, ← hM'] at HAP
      rw [← hM'] at HC' hd3
      rw [← hec] at he
      obtain ⟨v3, rfl⟩ : ∃ v, v = v3 := ⟨_, rfl⟩
      have hS : ∀ k, S k → w1.heap.size ≤ k ∧ k < w2.heap.size := fun k hk => ⟨HL.out.up k hk, HL.out.at_.low hk⟩
      have L3 := Lib.hid (live_ran HLB.out hd3 ht3 hs3)
      have F3 := Lib.hid (HFB.out.turn ht3 (fun e => by have := (hS _ e).2; omega) (fun j hj gg hg e => by have := (hS _ e).2; have := HROW.out j hj gg hg; omega))
      have hgw : g < w1.heap.size := Nat.lt_of_lt_of_le (lt_of_block HBOX.out) HB1.out.size
      have BX3 := Lib.hid ((ht3.block g (lt_of_block HBXB.out) (fun e => by have := (hS _ e).1; omega)).trans HBXB.out)
      subst he
      clear hd3 ht3 hs3 hown3 hec hM' hS y0 y1 y2 y3 y4
      go_wp2_with fail
      refine (whole_any L3.out.at_ HC'.out.dead (by have := HC'.out.ops; omega)).mono ?_
      rintro e Wc ⟨x2, rfl, hx, hba⟩
      obtain ⟨b, m', cb', hm, hxa, hxe⟩ := slices_of hx
      rw [hxa]
      have HFR := Lib.hid (four_of hx hm hxe)
      have HBA := Lib.hid hba
      clear hx hm hxa hxe hba
      obtain ⟨Wd, hWd⟩ : ∃ Wd, Wd = (Wc.alloc (.cells #[.slice (b 0) (m' 0) (cb' 0), .slice (b 1) (m' 1) (cb' 1), .slice (b 2) (m' 2) (cb' 2), .slice (b 3) (m' 3) (cb' 3)] 55)) := ⟨_, rfl⟩
      have hbD : Below w3.heap.size w3 Wd := by rw [hWd]; exact HBA.out.alloc HBA.out.size _
      obtain ⟨hFD, hrow⟩ := HFR.out
      rw [← hWd] at hFD
      obtain ⟨p2, hp2⟩ : ∃ p2, p2 = Wc.heap.size := ⟨_, rfl⟩
      rw [← hp2] at hFD
      have hbxd : Wd.heap[g]? = some (.cells #[.int .i64 o.kind, .int .i64 o.file, .int .i64 o.n, .slice B bn cb, .slice K kn kc] 37 (0, 0)) := (hbD.block g (lt_of_block BX3.out)).trans BX3.out
      have KP := Lib.hid (show Kp w w1 g o B cb K kc S' d p1 p2 M M' a m ca b m' cb' Wd from ⟨by rw [← HBN.out, ← HKN.out]; exact hbxd, four_below F3.out hbD (Nat.le_refl _), hFD, L3.out.later hbD, HB0.out.trans ((HB1.out.trans ((L3.out.later hbD).bel.mono HB1.out.size)).mono HB0.out.size)⟩)
      have HWD := Lib.hid hWd
      have k0 : Wd.cell? ⟨d, 0, none⟩ = some (.int .i64 M'.room) := by obtain ⟨mb, f, A', c', hdd⟩ := KP.out.live.at_; exact hdd.c0
      have hrm : M'.room = M.room := HAP.out.room
      rw [hrm] at k0
      have hle : decide (M.room < us) = false := by simp; exact HSU.out
      clear hWd hbD hFD hrow HFR HBA hbxd L3 F3 BX3 hrm HROW HLB HFB HBXB HBX2 HWB HBB HL hsz2 hp1' hgw
      go_wp2_with fail
      rw [← HWD.out, ← hp2]
      clear hp2
      refine (room_any _ d _ k0).mono ?_
      rintro e w' ⟨rfl, rfl⟩
      clear k0
      go_wp2_with fail
      subst hp1
      clear hle HSU
      go_loopw [72] (fun i wr => ∃ k : Nat, k ≤ 4 ∧ i = .int .i64 k ∧ Hid (Kp w w1 g o B cb K kc S' d Wa.heap.size p2 M M' a m ca b m' cb' wr)) (fun i _ => 4 - (intOf i).toNat)
      case atStart => exact ⟨0, by omega, rfl, KP⟩
      case round =>
        clear KP
        obtain ⟨k, hk, rfl, H⟩ := hrel
        have hbx := H.out.box
        have y0 : wr.cell? ⟨g, 0, none⟩ = some (.int .i64 o.kind) := by simp [World.cell?, hbx]
        have y1 : wr.cell? ⟨g, 1, none⟩ = some (.int .i64 o.file) := by simp [World.cell?, hbx]
        have y2 : wr.cell? ⟨g, 2, none⟩ = some (.int .i64 o.n) := by simp [World.cell?, hbx]
        clear hbx
        by_cases hlt : k < 4
        · have hlt' : (k : Int) < 4 := by omega
          have hge' : (0 : Int) ≤ (k : Int) := by omega
          have c1 := H.out.f1.cell hlt
          have c2 := H.out.f2.cell hlt
          have HQ := Lib.hid (fun (hx : ¬ (ec = 0 ∧ ((k : Int) = o.file ∨ (o.op = 7 ∧ (k : Int) = o.n)))) (q : Nat) => diskLives.same_eq H.out.f1 H.out.f2 hlt (HAP.out.rest k hx).symm q)
          by_cases e1 : ec = 0
          · have t1 : (ec == 0) = true := by simp [e1]
            by_cases e2 : (k : Int) = o.file
            · have t2 : ((k : Int) == o.file) = true := by simp [e2]
              clear e1 e2
              clear HQ
              go_wp2_with fail
              go_quiet (fail)
              go_wp2
              go_roundw
              case rel => exact ⟨k + 1, by omega, by go_num, Lib.hid (H.out.drewN _)⟩
              case measure => simp [intOf]; omega
            have t2 : ((k : Int) == o.file) = false := by simp [e2]
            by_cases e3 : o.op = 7
            · have t3 : ((IntKind.u64.wrap o.kind).tmod 12 == 7) = true := by rw [← HOPD.out]; simp [e3]
              by_cases e4 : (k : Int) = o.n
              · have t4 : ((k : Int) == o.n) = true := by simp [e4]
                clear e1 e2 e3 e4
                clear HQ
                go_wp2_with fail
                go_quiet (fail)
                go_wp2
                go_roundw
                case rel => exact ⟨k + 1, by omega, by go_num, Lib.hid (H.out.drewN _)⟩
                case measure => simp [intOf]; omega
              · have t4 : ((k : Int) == o.n) = false := by simp [e4]
                have HE := Lib.hid (HQ.out (by rintro ⟨_, h | ⟨_, h⟩⟩; exact e2 h; exact e4 h))
                clear HQ e1 e2 e3 e4
                go_wp2_with fail
                go_quiet ((go_at_call 29; with_reducible refine Calls.quiet_of_same (HE.out _)))
                go_wp2
                go_roundw
                case rel => exact ⟨k + 1, by omega, by go_num, Lib.hid (H.out.drewN _)⟩
                case measure => simp [intOf]; omega
            · have t3 : ((IntKind.u64.wrap o.kind).tmod 12 == 7) = false := by rw [← HOPD.out]; simp [e3]
              have HE := Lib.hid (HQ.out (by rintro ⟨_, h | ⟨h, _⟩⟩; exact e2 h; exact e3 h))
              clear HQ e1 e2 e3
              go_wp2_with fail
              go_quiet ((go_at_call 29; with_reducible refine Calls.quiet_of_same (HE.out _)))
              go_wp2
              go_roundw
              case rel => exact ⟨k + 1, by omega, by go_num, Lib.hid (H.out.drewN _)⟩
              case measure => simp [intOf]; omega
          · have t1 : (ec == 0) = false := by simp [e1]
            have HE := Lib.hid (HQ.out (by rintro ⟨h, _⟩; exact e1 h))
            clear HQ e1
            go_wp2_with fail
            go_quiet ((go_at_call 29; with_reducible refine Calls.quiet_of_same (HE.out _)))
            go_wp2
            go_roundw
            case rel => exact ⟨k + 1, by omega, by go_num, Lib.hid (H.out.drewN _)⟩
            case measure => simp [intOf]; omega
        · obtain rfl : k = 4 := by omega
          by_cases e1 : ec = 0
          · subst e1
            have hn := HAP.out.name rfl
            have hn : 0 ≤ o.file ∧ o.file < 4 := hn
            obtain ⟨fi, hfi⟩ : ∃ fi : Nat, o.file = (fi : Int) := ⟨o.file.toNat, by omega⟩
            have hf4 : fi < 4 := by omega
            have f0 : (0 : Int) ≤ (fi : Int) := by omega
            have f1 : (fi : Int) < 4 := by omega
            have c1 := H.out.f1.cell hf4
            have c2 := H.out.f2.cell hf4
            rw [hfi] at y1
            have HFI := Lib.hid hfi
            have l1 : m fi = (M.file (fi : Int)).bs.length := H.out.f1.len fi
            have l2 : m' fi = (M'.file (fi : Int)).bs.length := H.out.f2.len fi
            have r1 := Rd.own (H.out.f1.rd fi hf4)
            have r2 := Rd.own (H.out.f2.rd fi hf4)
            have ca1 := own_le (H.out.f1.rd fi hf4)
            have L1 := Lib.hid l1
            have L2 := Lib.hid l2
            have R1 := Lib.hid r1
            have R2 := Lib.hid r2
            clear hn hlt hk l1 l2 r1 r2
            by_cases h3 : o.op < 3
            · have t0 : decide ((IntKind.u64.wrap o.kind).tmod 12 < 3) = true := by rw [← HOPD.out]; simp; omega
              have hA := HAP.out.app rfl h3
              have hA : (M'.file o.file).bs = (M.file o.file).bs ++ o.few.bs := hA
              rw [hfi] at hA
              have hbd : Below wr.heap.size wr wr.drew := ⟨rfl, rfl, rfl, Nat.le_refl _, fun _ _ => rfl⟩
              have SV0 := Lib.hid (sev H.out hf4 hfi HBN.out HKN.out hbd)
              have HCL := clone_any (a fi) (ca fi) (M.file (fi : Int)).bs _ wr.drew (R1.out.below hbd) (by rw [← L1.out]; have := HBG.out fi; omega)
              rw [← L1.out] at HCL
              obtain ⟨q, hq⟩ : ∃ q, q = o.few := ⟨_, rfl⟩
              rw [← hq] at hA
              have HFW := fun W (hb : Below w.heap.size w W) => few_any (w := W) o B cb K kc (HOP.out.below hb)
              rw [← hq] at HFW
              dsimp only [opV] at HFW
              rw [← HBN.out, ← HKN.out, hfi] at HFW
              obtain ⟨qn, hqn⟩ : ∃ qn, qn = q.bs.length := ⟨_, rfl⟩
              have hq3 : qn ≤ 300 := by rw [hqn, hq]; simp [AO.few]; omega
              have hm4 : m fi ≤ 400 := HBG.out fi
              have HQN := Lib.hid hqn
              have HA := Lib.hid hA
              have HB' := Lib.hid hbd
              have HFEW := Lib.hid HFW
              have HCLO := Lib.hid HCL
              have HFI := Lib.hid hfi
              clear hA hfi hbd HCL HFW hq hqn h3
              go_wp2_with fail
              go_region_held3 (fun w' => w'.cell? ⟨g, 0, none⟩ = some (.int .i64 o.kind) ∧ w'.cell? ⟨g, 1, none⟩ = some (.int .i64 (fi : Int)) ∧ w'.cell? ⟨g, 2, none⟩ = some (.int .i64 o.n) ∧ w'.cell? ⟨g, 3, none⟩ = some (.slice B bn cb) ∧ w'.cell? ⟨g, 4, none⟩ = some (.slice K kn kc) ∧ w'.cell? ⟨Wa.heap.size, fi, none⟩ = some (.slice (a fi) (m fi) (ca fi)) ∧ w'.cell? ⟨p2, fi, none⟩ = some (.slice (b fi) (m' fi) (cb' fi))) (first | exact SV0.out | exact SV4.out | exact SV5.out | exact SV6.out) (first
                | (go_at_call 32; (with_reducible refine HCLO.out.mono ?_); rintro e w4 ⟨v4, rfl, hown4, hb4⟩; obtain ⟨A4, c4, rfl, _, _⟩ := own_form hown4; have B4 := Lib.hid (HB'.out.trans hb4); have SV4 := Lib.hid (sev H.out hf4 HFI.out HBN.out HKN.out B4.out); have O4 := Lib.hid hown4; clear hown4 hb4)
                | (go_at_call 33; (with_reducible refine (HFEW.out w4 (H.out.bel.trans (B4.out.mono H.out.bel.size))).mono ?_); rintro e w5 ⟨A5, c5, K5, kc5, he, hfw, hb5⟩; dsimp only [opV] at he; rw [← HQN.out] at he; subst he; have hfd := fun W => op_field3 (.int .i64 q.kind) (.int .i64 q.file) (.int .i64 q.n) (.slice A5 qn c5) (.slice K5 q.keep.length kc5) W; have B5 := Lib.hid (B4.out.trans (hb5.mono B4.out.size)); have SV5 := Lib.hid (sev H.out hf4 HFI.out HBN.out HKN.out B5.out); have O4b := Lib.hid (row_later O4.out hb5); have R5 := Lib.hid (Rd.own hfw.1); clear hfw hb5)
                | (refine step_app (by rfl) _ _ (by rfl) wr.drew.heap.size A4 c4 (m fi) _ (by rfl) O4b.out A5 c5 qn q.bs (by rfl) HQN.out.symm R5.out (by omega) B5.out.size ?_; intro A6 c6 w6 hown6 hg6 hloc; have B6 := Lib.hid (below_app B5.out O4b.out hg6 B5.out.size); have SV6 := Lib.hid (sev H.out hf4 HFI.out HBN.out HKN.out B6.out); have R6 := Lib.hid (row_bytes hown6); clear hown6 hg6 hloc)
                | (go_at_call 29; (with_reducible refine (eq_plain (n := m' fi) (n' := m fi + qn) (R2.out.below B6.out) (by rw [HA.out]; exact R6.out) L2.out.symm (by rw [HA.out, List.length_append, ← L1.out, ← HQN.out])).mono ?_); rintro e w7 ⟨rfl, rfl⟩))
              go_wp2
              go_ret
              exact ⟨rfl, H.out.bel.trans (B6.out.mono H.out.bel.size)⟩
            have t0 : decide ((IntKind.u64.wrap o.kind).tmod 12 < 3) = false := by rw [← HOPD.out]; simp; omega
            by_cases h6 : o.op = 6
            · have t6 : ((IntKind.u64.wrap o.kind).tmod 12 == 6) = true := by rw [← HOPD.out]; simp [h6]
              obtain ⟨n0, n1, n2⟩ := HAP.out.cut rfl h6
              have n0 : 0 ≤ o.n := n0
              have n1 : o.n ≤ (M.file o.file).bs.length := n1
              have n2 : (M'.file o.file).bs = (M.file o.file).bs.take o.n.toNat := n2
              rw [hfi] at n1 n2
              obtain ⟨ni, hni⟩ : ∃ ni : Nat, o.n = (ni : Int) := ⟨o.n.toNat, by omega⟩
              rw [hni] at n1 n2 y2
              rw [Int.toNat_natCast] at n2
              have hl : ((M.file (fi : Int)).bs.take ni).length = ni := by simp; omega
              have HE := Lib.hid (fun q => eq_at (W := wr) (c := cb' fi) (c' := ca fi) (n := m' fi) (n' := ni) (by rw [← n2]; exact R2.out) (R1.out.take ni) (by rw [L2.out, n2]) hl q)
              have p1 : (0 : Int) ≤ (ni : Int) := by omega
              have p2' : (ni : Int) ≤ (ca fi : Int) := by have := L1.out; omega
              clear n0 n1 n2 hl hni hfi h3 h6
              go_wp2_with fail
              go_quiet ((go_at_call 29; with_reducible refine Calls.quiet_of_same (HE.out _)))
              go_wp2
              go_ret
              exact ⟨rfl, below_drewN H.out.bel _⟩
            have t6 : ((IntKind.u64.wrap o.kind).tmod 12 == 6) = false := by rw [← HOPD.out]; simp [h6]
            by_cases h7 : o.op = 7 ∧ o.file ≠ o.n
            · have t7 : ((IntKind.u64.wrap o.kind).tmod 12 == 7) = true := by rw [← HOPD.out]; simp [h7.1]
              obtain ⟨n1, n2, n3⟩ := HAP.out.mov rfl h7.1 h7.2
              have n1 : 0 ≤ o.n ∧ o.n < 4 := n1
              have n2 : (M'.file o.n).bs = (M.file o.file).bs := n2
              have n3 : (M'.file o.file).bs = [] := n3
              obtain ⟨ni, hni⟩ : ∃ ni : Nat, o.n = (ni : Int) := ⟨o.n.toNat, by omega⟩
              have hn4 : ni < 4 := by omega
              have hne := h7.2
              rw [hfi, hni] at n2
              rw [hfi] at n3
              rw [hfi, hni] at hne
              rw [hni] at y2
              have q0 : (0 : Int) ≤ (ni : Int) := by omega
              have q1 : (ni : Int) < 4 := by omega
              have c3 := H.out.f2.cell hn4
              have r3 := Rd.own (H.out.f2.rd ni hn4)
              have l3 : m' ni = (M'.file (ni : Int)).bs.length := H.out.f2.len ni
              have HE := Lib.hid (fun q => eq_at (W := wr) (c := cb' ni) (c' := ca fi) (n := m' ni) (n' := m fi) (by rw [← n2]; exact r3) R1.out (by rw [l3, n2]) L1.out.symm q)
              have tn : ((fi : Int) != (ni : Int)) = true := by simp; omega
              have z2 : m' fi = 0 := by rw [L2.out, n3]; rfl
              rw [z2] at c2
              clear n1 n2 n3 r3 l3 hne h7 hni hfi h3 h6 z2
              go_wp2_with fail
              go_quiet ((go_at_call 29; with_reducible refine Calls.quiet_of_same (HE.out _)))
              go_wp2
              go_ret
              exact ⟨rfl, below_drewN H.out.bel _⟩
            by_cases h8 : o.op = 8
            · have t7 : ((IntKind.u64.wrap o.kind).tmod 12 == 7) = false := by rw [← HOPD.out]; simp [h8]
              have t8 : ((IntKind.u64.wrap o.kind).tmod 12 == 8) = true := by rw [← HOPD.out]; simp [h8]
              obtain ⟨n1, n2⟩ := HAP.out.rem rfl h8
              have n1 : (M'.file o.file).bs = [] := n1
              have n2 : M'.files o.file = none := n2
              rw [hfi] at n1 n2
              have z2 : m' fi = 0 := by rw [L2.out, n1]; rfl
              rw [z2] at c2
              have N2 := Lib.hid n2
              have hbd : Below wr.heap.size wr wr.drew := ⟨rfl, rfl, rfl, Nat.le_refl _, fun _ _ => rfl⟩
              have v1 : wr.drew.cell? ⟨g, 1, none⟩ = some (.int .i64 (fi : Int)) := y1
              have v2 : wr.drew.cell? ⟨p2, fi, none⟩ = some (.slice (b fi) 0 (cb' fi)) := c2
              have HD := Lib.hid hbd
              have gl := Lib.hid (World.block_lt_of_cell? _ _ v1)
              have pl := Lib.hid (World.block_lt_of_cell? _ _ v2)
              obtain ⟨nn, hnn⟩ : ∃ nn, nn = M'.names.length := ⟨_, rfl⟩
              have hn4 : nn ≤ 4 := by rw [hnn]; exact below_length M' 4
              have HNI := Lib.hid (show (fi : Int) ∉ M'.names from fun hx => (names_mem M' H.out.live.at_.ok (fi : Int)).1 hx N2.out)
              have HFI2 := files_any H.out.live.at_.drew
              have HCN := Lib.hid (fun A c W (hx : RdI W A M'.names) (hc : M'.names.length ≤ c) => containsI_no A c M'.names (fi : Int) W hx (by rw [← hnn]; omega) hc HNI.out)
              rw [← hnn] at HCN
              have HNN := Lib.hid hnn
              have HFIL := Lib.hid HFI2
              have bz : ((0 : Nat) : Int) = 0 := rfl
              clear n1 n2 z2 hfi h3 h6 h7 h8 hbd hnn HFI2 N2
              go_wp2_with fail
              go_region_held3 (fun w' => w'.cell? ⟨g, 1, none⟩ = some (.int .i64 (fi : Int)) ∧ w'.cell? ⟨p2, fi, none⟩ = some (.slice (b fi) 0 (cb' fi))) (first | exact ⟨v1, v2⟩ | exact ⟨v3', v4'⟩) (first
                | (go_at_call 20; (with_reducible refine (HFIL.out).mono ?_); rintro e w4 ⟨v9, rfl, hown, hb4⟩; rw [← HNN.out] at hown; obtain ⟨A9, c9, rfl, h9c, _⟩ := own_form hown; have v3' := (hb4.cell (p := ⟨g, 1, none⟩) gl.out).trans v1; have v4' := (hb4.cell (p := ⟨p2, fi, none⟩) pl.out).trans v2; have RI := Lib.hid (RdI.own hown); have B4 := Lib.hid (HD.out.trans hb4); clear hown hb4)
                | (go_at_call 34; (with_reducible refine (HCN.out A9 c9 _ RI.out h9c).mono ?_); rintro e w5 ⟨rfl, rfl⟩))
              go_wp2
              go_ret
              exact ⟨rfl, H.out.bel.trans (B4.out.mono H.out.bel.size)⟩
            have t8 : ((IntKind.u64.wrap o.kind).tmod 12 == 8) = false := by rw [← HOPD.out]; simp [h8]
            have hk := HAP.out.keep rfl (by rw [few_op]; omega) h6 h8 h7
            have hk : (M'.file o.file).bs = (M.file o.file).bs := hk
            rw [hfi] at hk
            have HE := Lib.hid (fun q => eq_at (W := wr) (c := cb' fi) (c' := ca fi) (n := m' fi) (n' := m fi) (by rw [← hk]; exact R2.out) R1.out (by rw [L2.out, hk]) L1.out.symm q)
            by_cases h77 : o.op = 7
            · have t7 : ((IntKind.u64.wrap o.kind).tmod 12 == 7) = true := by rw [← HOPD.out]; simp [h77]
              have hfn : o.n = (fi : Int) := by
                rcases Classical.em (o.file = o.n) with e | e
                · rw [← e, hfi]
                · exact absurd ⟨h77, e⟩ h7
              rw [hfn] at y2
              have tn : ((fi : Int) != (fi : Int)) = false := by simp
              clear hk hfn hfi h3 h6 h7 h8 h77
              go_wp2_with fail
              go_quiet ((go_at_call 29; with_reducible refine Calls.quiet_of_same (HE.out _)))
              go_wp2
              go_ret
              exact ⟨rfl, below_drewN H.out.bel _⟩
            · have t7 : ((IntKind.u64.wrap o.kind).tmod 12 == 7) = false := by rw [← HOPD.out]; simp [h77]
              clear hk hfi h3 h6 h7 h8 h77
              go_wp2_with fail
              go_quiet ((go_at_call 29; with_reducible refine Calls.quiet_of_same (HE.out _)))
              go_wp2
              go_ret
              exact ⟨rfl, below_drewN H.out.bel _⟩
          · have t1 : (ec != 0) = true := by simp [e1]
            clear e1
            go_wp2
            go_ret
            exact ⟨rfl, H.out.bel⟩

set_option maxRecDepth 100000 in
theorem lifted (os : Os) (started : os.Started) (H : Type) (enc : TypeId × Value → H) :
    ReturnsInHanded {} Try.checked os 7 .any (Rows.diskApartSpec.pre6 enc Try.prog Try.f7 Rows.diskApartRow.domain false) (Rows.diskApartSpec.post enc Try.prog Try.f7 false true false false) := by
  refine returnsInHanded_of_change (C := Try.checked) Try.own started (by kernel_rfl) Try.func7
    (ChangeSpec.witness6 (enc := enc) (C := Try.checked) false ⟨#[], #[.int .i64 0, .slice none 0 0, .agg #[.int .i64 0, .int .i64 0, .int .i64 0, .slice none 0 0, .slice none 0 0]], []⟩ 8 (by kernel_rfl) (by kernel_rfl) (by kernel_rfl) (by kernel_rfl)) ?_
  intro W base args ds gs before hval0 hW hcnd _
  have hval : ∀ (j : Nat) t v, Try.f7.params[j]? = some t → args[j]? = some v → Value.okWide Try.prog W .any base t v := hval0
  have hW' := hW
  obtain ⟨p, q, hA0, hV, rfl, hfz, hnd⟩ := hW
  have hA : DataW.TrodAll enc Try.prog W 0 (fun _ => true) true Try.f7.params.toList args.toList ds p := hA0
  rw [Try.params7] at hA hval
  have hA' := hA
  obtain ⟨v0, vs0, d0, ds0, p0, q0, hargs, rfl, rfl, h0, r0⟩ := trodAll_cons hA
  obtain ⟨v1, vs1, d1, ds1, p1, q1, rfl, rfl, rfl, h1, r1⟩ := trodAll_cons r0
  obtain ⟨v2, vs2, d2, ds2, p2, q2, rfl, rfl, rfl, h2, r2⟩ := trodAll_cons r1
  obtain ⟨rfl, rfl, rfl⟩ := trodAll_nil r2
  obtain rfl : args = #[v0, v1, v2] := by cases args; simp_all
  obtain ⟨rfl, rfl⟩ := trodVars_none hV
  obtain ⟨a0, rfl, rfl, rfl, w0⟩ := open_int Try.underlying3 (hval 0 3 v0 rfl rfl) h0
  obtain ⟨A1, len1, c1, rfl⟩ := okWide_slice Try.underlying22 (hval 1 22 v1 rfl rfl)
  obtain ⟨z1, rfl, sl1, le1, mx1⟩ := open_ops h1
  obtain ⟨o2, B2, cb2, K2, kc2, rfl, wf2, op2⟩ := open_op (hval 2 37 v2 rfl rfl) h2
  clear hA0 hval0
  refine (walk a0 w0 A1 c1 z1 sl1 le1 mx1 o2 B2 cb2 K2 kc2 wf2 op2).mono fun e W' ⟨he, bel⟩ => ?_
  subst he
  exact ⟨_, rfl, _, _, _, [], _, [], hW', trodAll_mk1 (shut_bool Try.underlying4 _), trodAll_below bel _ _ _ _ (by kernel_rfl) hA', rfl, bel.frame _, fun h => by cases h⟩

theorem proved : Rows.DiskApartSaid :=
  OpenClaim.holds_of_wide 7 Try.f7 rfl rfl rfl rfl rfl rfl rfl ⟨rfl, rfl, rfl, rfl, rfl⟩ rfl rfl rfl rfl rfl (by kernel_rfl) Try.func7 (by kernel_rfl)
    (of_decide_eq_true (by kernel_rfl)) (by unfold Func.isWrapper; first | (rw [if_pos (by decide +kernel)]; kernel_rfl) | (rw [if_neg (by decide +kernel)]; exact ⟨rfl, rfl⟩))
    (fun os started H enc _ => lifted os started H enc)
#print axioms proved
end Go.Proofs.Ytlkcfdbhiifeaaa.diskApart
