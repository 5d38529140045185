/-
  DiskLives: behind a loss of power each file is a beginning of what it was: for every room, row of operations, and keep.
-/
import Derived.Test.YtlkcfdbhiifeaaaLawLives
import Derived.Deep.OwnRows
namespace Go.Proofs.Ytlkcfdbhiifeaaa.diskLives
open Go.ChangeShapes Go.WideShapes Go.ChangeAt Go.RowKit
open diskRests (Four four_of slices_of)
set_option linter.unusedVariables false
set_option maxRecDepth 100000

theorem keep_live {w0 w w' : World} {S S' : Nat → Prop} {d : Nat} {M : AD} (h : LiveS w0 S w d M) (ht : Turn S' w w') (hd : ∀ k, S k → ¬ S' k) (hu : ∀ k, S' k → w0.heap.size ≤ k) : LiveS w0 S w' d M :=
  ⟨by obtain ⟨mb, f, A, c, h'⟩ := h.at_; exact ⟨mb, f, A, c, h'.turn (fun k hk => ht.block k (h.at_.low hk) (hd k hk)) ht.size⟩, h.up, h.bel.trans (ht.below h.bel.size hu)⟩
theorem four_below {W W' : World} {B b : Nat} {M : AD} {a : Nat → Option Addr} {m c : Nat → Nat} (h : Four W b M a m c) (ht : Below B W W') (hB : W.heap.size ≤ B) : Four W' b M a m c :=
  h.turn (S := fun _ => False) ⟨ht.os, ht.tape, ht.output, ht.size, fun i hi _ => ht.block i (by omega)⟩ (fun e => e) (fun _ _ _ _ e => e)
theorem made (np : Nat) (h : np ≤ 65536) (W : World) : (Instr.makeSlice 35 (.int .i64 (np : Int)) (.int .i64 (np : Int))).run Try.prog W = .ok (.slice (some ⟨W.heap.size, 0, none⟩) np np) (W.alloc (.cells (madeCells #[.bool false] np) 4)) :=
  run_make_row' 35 4 (.bool false) 1 Try.underlying35 (by kernel_rfl) rfl _ _ np (by omega) (by omega) W
/-- The row of so many trues, as far as it is laid. -/
def Mk (W : World) (np k : Nat) (wr : World) : Prop := (∃ cur : Array Value, wr.heap[W.heap.size]? = some (.cells cur 4 (0, 0)) ∧ cur.size = np ∧ ∀ j, j < np → cur[j]? = some (.bool (decide (j < k)))) ∧ Below W.heap.size W wr
theorem mk_start (W : World) (np : Nat) : Mk W np 0 (W.alloc (.cells (madeCells #[.bool false] np) 4)) := by
  refine ⟨⟨_, heap_alloc_new W _, size_madeCells _ _, fun j hj => ?_⟩, (Below.refl _ W).alloc (Nat.le_refl _) _⟩
  rw [← Array.getElem?_toList, toList_madeCells_one]
  simp [hj]
theorem mk_step {W wr : World} {np k : Nat} (h : Mk W np k wr) (hk : k < np) : Mk W np (k + 1) (wr.setCell ⟨W.heap.size, k, none⟩ (.bool true)) := by
  obtain ⟨⟨cur, h1, h2, h3⟩, hb⟩ := h
  refine ⟨⟨_, heap_set h1 k _, by simp [h2], fun j hj => ?_⟩, hb.setCell (p := ⟨W.heap.size, k, none⟩) (Nat.le_refl _) _⟩
  rw [Array.getElem?_setIfInBounds]
  by_cases e : k = j
  · subst e; simp [h2, hk]
  · rw [if_neg e, h3 j hj]
    have : (j < k + 1) = (j < k) := by simp; omega
    simp [this]
theorem mk_cell {W wr : World} {np k : Nat} (h : Mk W np k wr) {j : Nat} (hj : j < np) : wr.cell? ⟨W.heap.size, j, none⟩ = some (.bool (decide (j < k))) ∧ wr.frozen? ⟨W.heap.size, j, none⟩ = false := by
  obtain ⟨⟨cur, h1, h2, h3⟩, hb⟩ := h
  exact ⟨by simp [World.cell?, h1, h3 j hj], by simp [World.frozen?, h1]⟩
def Row (g np : Nat) (W : World) : Prop := ∃ cur : Array Value, W.heap[g]? = some (.cells cur 4 (0, 0)) ∧ ∀ j, j < np → cur[j]? = some (.bool true)
theorem mk_row {W wr : World} {np : Nat} (h : Mk W np np wr) : Row W.heap.size np wr := by
  obtain ⟨⟨cur, h1, h2, h3⟩, hb⟩ := h
  exact ⟨cur, h1, fun j hj => by rw [h3 j hj]; simp [hj]⟩
theorem Row.turn {g np : Nat} {W W' : World} {S : Nat → Prop} (h : Row g np W) (ht : Turn S W W') (hg : ¬ S g) : Row g np W' := by
  obtain ⟨cur, h1, h2⟩ := h
  exact ⟨cur, (ht.block g (lt_of_block h1) hg).trans h1, h2⟩
theorem Row.rd {g np : Nat} {W : World} (h : Row g np W) : RdB W W.heap.size (some ⟨g, 0, none⟩) (List.replicate np true) := by
  obtain ⟨cur, h1, h2⟩ := h
  intro hp
  simp at hp
  refine ⟨g, 0, rfl, lt_of_block h1, fun j hj => ?_⟩
  simp at hj
  simp [World.cell?, h1, h2 j hj, hj]
theorem pre_eq {wr : World} {p1 p2 : Nat} {M1 M2 : AD} {a : Nat → Option Addr} {m ca : Nat → Nat} {b : Nat → Option Addr} {m' cb : Nat → Nat} (f1 : Four wr p1 M1 a m ca) (f2 : Four wr p2 M2 b m' cb) {k : Nat} (hk : k < 4) (h : ∃ t, (M2.file (k : Nat)).bs = (M1.file (k : Nat)).bs.take t) (q : Nat) : Calls Try.prog 28 #[.slice (a k) (m k) (ca k), .slice (b k) (m' k) (cb k)] (wr.drewN q) fun e w' => e = .returned (.bool true) ∧ w' = wr.drewN q := by
  obtain ⟨t, ht⟩ := h
  have r1 := Rd.own (f1.rd k hk)
  have r2 := Rd.own (f2.rd k hk)
  obtain ⟨A, c, e, h1, h2⟩ := own_form (f1.rd k hk)
  injection e with e1 e2 e3
  rw [ht] at r2
  rw [← e3] at h1 h2
  rw [f1.len] at h1 ⊢
  rw [f2.len, ht]
  simp [maxLen] at h2
  exact (prefixB _ _ _ _ _ _ _ (r1.drewN q) (r2.drewN q) h1 h2).mono fun _ _ h => ⟨h.1, h.2.symm⟩
theorem same_eq {wr : World} {p1 p2 : Nat} {M1 M2 : AD} {a : Nat → Option Addr} {m ca : Nat → Nat} {b : Nat → Option Addr} {m' cb : Nat → Nat} (f1 : Four wr p1 M1 a m ca) (f2 : Four wr p2 M2 b m' cb) {k : Nat} (hk : k < 4) (h : (M1.file (k : Nat)).bs = (M2.file (k : Nat)).bs) (q : Nat) : Calls Try.prog 29 #[.slice (a k) (m k) (ca k), .slice (b k) (m' k) (cb k)] (wr.drewN q) fun e w' => e = .returned (.bool true) ∧ w' = wr.drewN q := by
  have r1 := Rd.own (f1.rd k hk)
  have r2 := Rd.own (f2.rd k hk)
  rw [h] at r1
  rw [f1.len, f2.len, h]
  exact (equalB _ _ _ _ _ _ (r1.drewN q) (r2.drewN q)).mono fun _ _ h => ⟨h.1, h.2.symm⟩

structure Fin (w wr : World) (p0 pa pb pc : Nat) (M Ma Mb Mc : AD) (a : Nat → Option Addr) (m ca : Nat → Nat) (b1 : Nat → Option Addr) (m1 c1 : Nat → Nat) (b2 : Nat → Option Addr) (m2 c2 : Nat → Nat) (b3 : Nat → Option Addr) (m3 c3 : Nat → Nat) : Prop where
  f0 : Four wr p0 M a m ca
  f1 : Four wr pa Ma b1 m1 c1
  f2 : Four wr pb Mb b2 m2 c2
  f3 : Four wr pc Mc b3 m3 c3
  bel : Below w.heap.size w wr

set_option maxHeartbeats 8000000 in
theorem walk {w : World} (r : Int) (hr : I64 r) (A : Option Addr) (c : Nat) (os : List AO) (ho : OpsAt w A os) (hc : os.length ≤ c) (hcm : c ≤ 9223372036854775807) (K : Option Addr) (kc : Nat) (keep : List Bool) (hk : RdB w w.heap.size K keep) (hkl : keep.length ≤ kc) (hkm : kc ≤ 9223372036854775807) :
    Calls Try.prog 5 #[.int .i64 r, .slice A os.length c, .slice K keep.length kc] w fun e w' => e = .returned (.bool true) ∧ Below w.heap.size w w' := by
  have HRL := Lib.hid (fun (W : World) (hb : Below w.heap.size w W) => run_law r hr A c os (diskDies.ops_below ho hb) hc hcm)
  have HK := Lib.hid hk
  obtain ⟨n, hn⟩ : ∃ n, n = os.length := ⟨_, rfl⟩
  rw [← hn] at hc HRL ⊢
  obtain ⟨kn, hkn⟩ : ∃ kn, kn = keep.length := ⟨_, rfl⟩
  have HKN := Lib.hid hkn
  rw [← hkn] at hkl ⊢
  clear ho hn hk hkn
  go_enter Try.func5, Try.ntmps5
  go_wp2_with (first
    | (go_at_call 9; refine (wakes_any _).mono ?_; rintro e w1 ⟨rfl, hb1⟩; have HB1 := Lib.hid hb1; clear hb1)
    | (go_at_call 25; refine (HRL.out w1 HB1.out).mono ?_; rintro e w2 ⟨d, M, rfl, ⟨S, hL⟩, hcalm⟩; have HL := Lib.hid hL; have HC := Lib.hid hcalm; clear hL hcalm)
    | (go_at_call 26; refine (whole_any HL.out.at_ HC.out.dead (by have := HC.out.ops; omega)).mono ?_; rintro e Wa ⟨x, rfl, hx, hba⟩; obtain ⟨a, m, ca, hm, hxa, hxe⟩ := slices_of hx; rw [hxa]; have HFR := Lib.hid (four_of hx hm hxe); have HBA := Lib.hid hba; clear hx hm hxa hxe hba))
  have hbB : Below w2.heap.size w2 (Wa.alloc (.cells #[.slice (a 0) (m 0) (ca 0), .slice (a 1) (m 1) (ca 1), .slice (a 2) (m 2) (ca 2), .slice (a 3) (m 3) (ca 3)] 55)) := HBA.out.alloc HBA.out.size _
  obtain ⟨hFB, hrow⟩ := HFR.out
  generalize (Wa.alloc (.cells #[.slice (a 0) (m 0) (ca 0), .slice (a 1) (m 1) (ca 1), .slice (a 2) (m 2) (ca 2), .slice (a 3) (m 3) (ca 3)] 55)) = Wb at hbB hFB ⊢
  have HLB := Lib.hid (HL.out.later hbB)
  have HFB := Lib.hid hFB
  obtain ⟨p0, hp0⟩ : ∃ p0, p0 = Wa.heap.size := ⟨_, rfl⟩
  rw [← hp0] at HFB ⊢
  have hsb := HLB.out.bel.size
  have hok := HLB.out.at_.ok
  have hdead := HC.out.dead
  have hops : M.ops < 4000000000000000000 := by have := HC.out.ops; omega
  have HOK := Lib.hid hok
  clear hbB hFB hrow HFR HBA hp0 hok
  -- three copies
  refine (copy_any HLB.out.at_).mono ?_
  rintro e W1 ⟨q1, rfl, hd1, hb1⟩
  obtain ⟨T1, hT1⟩ : ∃ T1 : Nat → Prop, T1 = fun k => Wb.heap.size ≤ k ∧ k < W1.heap.size := ⟨_, rfl⟩
  have t1 : ∀ k, T1 k → Wb.heap.size ≤ k ∧ k < W1.heap.size := fun k hk => by rw [hT1] at hk; exact hk
  rw [← hT1] at hd1
  have D1 := Lib.hid (show LiveS w1 T1 W1 q1 M from ⟨hd1, fun k hk => by have := t1 k hk; omega, HLB.out.bel.trans (hb1.mono hsb)⟩)
  have HLC := Lib.hid (HLB.out.later hb1)
  have HX1 := Lib.hid hb1
  have t1' := Lib.hid t1
  have s1 := hb1.size
  clear hd1 hb1 hT1 t1
  go_wp2_with fail
  refine (copy_any HLC.out.at_).mono ?_
  rintro e W2 ⟨q2, rfl, hd1, hb1⟩
  obtain ⟨T2, hT1⟩ : ∃ T1 : Nat → Prop, T1 = fun k => W1.heap.size ≤ k ∧ k < W2.heap.size := ⟨_, rfl⟩
  have t1 : ∀ k, T2 k → W1.heap.size ≤ k ∧ k < W2.heap.size := fun k hk => by rw [hT1] at hk; exact hk
  rw [← hT1] at hd1
  have D2 := Lib.hid (show LiveS w1 T2 W2 q2 M from ⟨hd1, fun k hk => by have := t1 k hk; omega, HLC.out.bel.trans (hb1.mono HLC.out.bel.size)⟩)
  have HLD := Lib.hid (HLC.out.later hb1)
  have HX2 := Lib.hid hb1
  have t2' := Lib.hid t1
  have s2 := hb1.size
  clear hd1 hb1 hT1 t1
  go_wp2_with fail
  refine (copy_any HLD.out.at_).mono ?_
  rintro e W3 ⟨q3, rfl, hd1, hb1⟩
  obtain ⟨T3, hT1⟩ : ∃ T1 : Nat → Prop, T1 = fun k => W2.heap.size ≤ k ∧ k < W3.heap.size := ⟨_, rfl⟩
  have t1 : ∀ k, T3 k → W2.heap.size ≤ k ∧ k < W3.heap.size := fun k hk => by rw [hT1] at hk; exact hk
  rw [← hT1] at hd1
  have D3 := Lib.hid (show LiveS w1 T3 W3 q3 M from ⟨hd1, fun k hk => by have := t1 k hk; omega, HLD.out.bel.trans (hb1.mono HLD.out.bel.size)⟩)
  have HLE := Lib.hid (HLD.out.later hb1)
  have HX3 := Lib.hid hb1
  have t3' := Lib.hid t1
  have s3 := hb1.size
  clear hd1 hb1 hT1 t1
  go_wp2_with fail
  refine (pending_any HLE.out.at_).mono ?_
  rintro e W4 ⟨v4, rfl, hown4, hb4⟩
  obtain ⟨np, hnp⟩ : ∃ np, np = M.pend.length := ⟨_, rfl⟩
  rw [← hnp] at hown4
  obtain ⟨A4, c4, rfl, h4c, _⟩ := own_form hown4
  have hnp2 : np = M.pcs.length := by rw [hnp]; simp [AD.pend]
  have hnl : np ≤ 65536 := by have h1 := pcs_le M; have h2 := HOK.out.tot; have h3 := HOK.out.room2; omega
  have HNP := Lib.hid hnp2
  have hmk := made np hnl
  have HX4 := Lib.hid hb4
  have s4 := hb4.size
  clear hown4 hnp hb4 hnp2
  go_wp2_with fail
  have HM0 := Lib.hid (mk_start W4 np)
  clear hmk
  go_loopw [51] (fun i wr => ∃ k : Nat, i = .int .i64 k ∧ k ≤ np ∧ Hid (Mk W4 np k wr)) (fun i _ => np - (match i with | .int _ k => k.toNat | _ => 0))
  case atStart => exact ⟨0, rfl, Nat.zero_le _, HM0⟩
  case round =>
    obtain ⟨k, rfl, hk, H⟩ := hrel
    by_cases hkn : k < np
    · have hkk : (k : Int) < np := by omega
      obtain ⟨c1, c2⟩ := mk_cell H.out hkn
      have HN := Lib.hid (mk_step H.out hkn)
      go_wp2
      go_roundw
      case rel => exact ⟨k + 1, by simp, by omega, HN⟩
      case measure => simp; omega
    · obtain rfl : np = k := by omega
      have bM := H.out.2
      have sM := bM.size
      have hrw := Lib.hid (mk_row H.out)
      have L1 := Lib.hid ((((D1.out.later HX2.out).later HX3.out).later HX4.out).later bM)
      have L2 := Lib.hid (((D2.out.later HX3.out).later HX4.out).later bM)
      have L3 := Lib.hid ((D3.out.later HX4.out).later bM)
      have BB := Lib.hid ((((HX1.out.trans (HX2.out.mono s1)).trans (HX3.out.mono (Nat.le_trans s1 s2))).trans (HX4.out.mono (by omega))).trans (bM.mono (by omega)))
      have e2 : (keep.take 200).length = (min (kn : Int) 200).toNat := by have := HKN.out; simp; omega
      have t2 : (0 : Int) ≤ min (kn : Int) 200 := by omega
      have t3 : min (kn : Int) 200 ≤ (kc : Int) := by omega
      have E2 := Lib.hid e2
      obtain ⟨g, hg⟩ : ∃ g, g = W4.heap.size := ⟨_, rfl⟩
      rw [← hg] at hrw sM s4 ⊢
      have HCR := Lib.hid (crash_any L1.out.at_ none 0 [] (fun hp => absurd hp (by simp)) (by simp) (by simp))
      dsimp only [List.length_nil] at HCR
      clear D1 D2 D3 HX1 HX2 HX3 HX4 bM H HM0 e2 HLB HLC HLD HLE
      go_wp2_with fail
      refine HCR.out.mono ?_
      rintro e W6 ⟨rfl, haf⟩
      have u1 : ∀ k, T1 k → Wb.heap.size ≤ k ∧ k < W1.heap.size := t1'.out
      have u2 : ∀ k, T2 k → W1.heap.size ≤ k ∧ k < W2.heap.size := t2'.out
      have u3 : ∀ k, T3 k → W2.heap.size ≤ k ∧ k < W3.heap.size := t3'.out
      have s6 := haf.2.size
      have L1b := Lib.hid (L1.out.after haf)
      have L2b := Lib.hid (keep_live L2.out haf.2 (fun k h1 h2 => by have := u2 k h1; have := u1 k h2; omega) (fun k h => by have := u1 k h; omega))
      have L3b := Lib.hid (keep_live L3.out haf.2 (fun k h1 h2 => by have := u3 k h1; have := u1 k h2; omega) (fun k h => by have := u1 k h; omega))
      have BBb := Lib.hid (BB.out.trans (haf.2.below BB.out.size (fun k h => (u1 k h).1)))
      have hrwb := Lib.hid (hrw.out.turn haf.2 (fun h => by have := u1 g h; omega))
      have v1 : ∀ k, grew T1 wr W6 k → k < W1.heap.size ∨ (wr.heap.size ≤ k ∧ k < W6.heap.size) := fun k h => h.elim (fun h => .inl (u1 k h).2) (fun h => .inr h)
      have V1 := Lib.hid v1
      obtain ⟨T1b, hT1b⟩ : ∃ T : Nat → Prop, T = grew T1 wr W6 := ⟨_, rfl⟩
      rw [← hT1b] at L1b V1
      clear L1 L2 L3 BB hrw haf HCR u1 u2 u3 v1 hT1b
      have hcr := crash_any L2b.out.at_ K kc (keep.take 200) (((HK.out.take 200).below (HB1.out.trans (L2b.out.bel.mono HB1.out.size))).wide (Nat.le_trans HB1.out.size L2b.out.bel.size)) (by rw [E2.out]; omega) hkm
      rw [E2.out] at hcr
      have HCR := Lib.hid hcr
      clear hcr
      go_wp2_with fail
      refine HCR.out.mono ?_
      rintro e W7 ⟨rfl, haf⟩
      have u1 := V1.out
      have u2 : ∀ k, T2 k → W1.heap.size ≤ k ∧ k < W2.heap.size := t2'.out
      have u3 : ∀ k, T3 k → W2.heap.size ≤ k ∧ k < W3.heap.size := t3'.out
      have s7 := haf.2.size
      have L2c := Lib.hid (L2b.out.after haf)
      have L1c := Lib.hid (keep_live L1b.out haf.2 (fun k h1 h2 => by have := u2 k h2; have := u1 k h1; omega) (fun k h => by have := u2 k h; omega))
      have L3c := Lib.hid (keep_live L3b.out haf.2 (fun k h1 h2 => by have := u3 k h1; have := u2 k h2; omega) (fun k h => by have := u2 k h; omega))
      have BBc := Lib.hid (BBb.out.trans (haf.2.below BBb.out.size (fun k h => by have := u2 k h; omega)))
      have hrwc := Lib.hid (hrwb.out.turn haf.2 (fun h => by have := u2 g h; omega))
      have v1 : ∀ k, grew T2 W6 W7 k → (W1.heap.size ≤ k ∧ k < W2.heap.size) ∨ (W6.heap.size ≤ k ∧ k < W7.heap.size) := fun k h => h.elim (fun h => .inl (u2 k h)) (fun h => .inr h)
      have V2 := Lib.hid v1
      obtain ⟨T2b, hT2b⟩ : ∃ T : Nat → Prop, T = grew T2 W6 W7 := ⟨_, rfl⟩
      rw [← hT2b] at L2c V2
      clear L1b L2b L3b BBb hrwb haf HCR u1 u2 u3 v1 hT2b
      have hcr := crash_any L3c.out.at_ (some ⟨g, 0, none⟩) np (List.replicate np true) hrwc.out.rd (by simp) (by omega)
      rw [List.length_replicate, hg] at hcr
      have HCR := Lib.hid hcr
      clear hcr
      go_wp2_with fail
      refine HCR.out.mono ?_
      rintro e W8 ⟨rfl, haf⟩
      have u1 := V1.out
      have u2 := V2.out
      have u3 : ∀ k, T3 k → W2.heap.size ≤ k ∧ k < W3.heap.size := t3'.out
      have s8 := haf.2.size
      have L3d := Lib.hid (L3c.out.after haf)
      have L1d := Lib.hid (keep_live L1c.out haf.2 (fun k h1 h2 => by have := u3 k h2; have := u1 k h1; omega) (fun k h => by have := u3 k h; omega))
      have L2d := Lib.hid (keep_live L2c.out haf.2 (fun k h1 h2 => by have := u3 k h2; have := u2 k h1; omega) (fun k h => by have := u3 k h; omega))
      have BBd := Lib.hid (BBc.out.trans (haf.2.below BBc.out.size (fun k h => by have := u3 k h; omega)))
      have q1e : ∀ k : Nat, ∃ t, ((M.crash (keep.take 200)).file (k : Nat)).bs = (M.file (k : Nat)).bs.take t := fun k => ⟨_, crash_bs HOK.out _ _⟩
      have q2e : ∀ k : Nat, ∃ t, ((M.crash []).file (k : Nat)).bs = ((M.crash (keep.take 200)).file (k : Nat)).bs.take t := fun k => crash_less HOK.out _ _
      have q3e : ∀ k : Nat, ((M.crash (List.replicate np true)).file (k : Nat)).bs = (M.file (k : Nat)).bs := fun k => crash_full HOK.out np HNP.out _
      have q4e : (M.crash (keep.take 200)).pend = [] := crash_pend HOK.out _
      have da : (M.crash []).dead = false ∧ (M.crash []).ops < 4000000000000000000 := ⟨rfl, hops⟩
      have db : (M.crash (keep.take 200)).dead = false ∧ (M.crash (keep.take 200)).ops < 4000000000000000000 := ⟨rfl, hops⟩
      have dc : (M.crash (List.replicate np true)).dead = false ∧ (M.crash (List.replicate np true)).ops < 4000000000000000000 := ⟨rfl, hops⟩
      clear L1c L2c L3c BBc hrwc haf HCR u1 u2 u3 V1 V2 t1' t2' t3'
      generalize M.crash [] = Ma at L1d q2e da
      generalize M.crash (keep.take 200) = Mb at L2d q1e q2e q4e db
      generalize M.crash (List.replicate np true) = Mc at L3d q3e dc
      have Q1 := Lib.hid q1e
      have Q2 := Lib.hid q2e
      have Q3 := Lib.hid q3e
      have Q4 := Lib.hid q4e
      clear q1e q2e q3e q4e
      go_wp2_with fail
      refine (whole_any L1d.out.at_ da.1 da.2).mono ?_
      rintro e Wx ⟨y, rfl, hy, hbc⟩
      obtain ⟨b1, m1, c1, hm, hxa, hxe⟩ := slices_of hy
      rw [hxa]
      have HFR := Lib.hid (four_of hy hm hxe)
      have HBC := Lib.hid hbc
      clear hy hm hxa hxe hbc
      go_wp2_with fail
      have hbD : Below W8.heap.size W8 (Wx.alloc (.cells #[.slice (b1 0) (m1 0) (c1 0), .slice (b1 1) (m1 1) (c1 1), .slice (b1 2) (m1 2) (c1 2), .slice (b1 3) (m1 3) (c1 3)] 55)) := HBC.out.alloc HBC.out.size _
      obtain ⟨hFD, hrow⟩ := HFR.out
      generalize (Wx.alloc (.cells #[.slice (b1 0) (m1 0) (c1 0), .slice (b1 1) (m1 1) (c1 1), .slice (b1 2) (m1 2) (c1 2), .slice (b1 3) (m1 3) (c1 3)] 55)) = W9 at hbD hFD ⊢
      obtain ⟨pa, hp⟩ : ∃ pa, pa = Wx.heap.size := ⟨_, rfl⟩
      rw [← hp] at hFD ⊢
      have FA := Lib.hid hFD
      have HD1 := Lib.hid hbD
      have L2e := Lib.hid (L2d.out.later hbD)
      have L3e := Lib.hid (L3d.out.later hbD)
      clear hbD hFD hrow HFR HBC hp
      refine (whole_any L2e.out.at_ db.1 db.2).mono ?_
      rintro e Wx ⟨y, rfl, hy, hbc⟩
      obtain ⟨b2, m2, c2, hm, hxa, hxe⟩ := slices_of hy
      rw [hxa]
      have HFR := Lib.hid (four_of hy hm hxe)
      have HBC := Lib.hid hbc
      clear hy hm hxa hxe hbc
      go_wp2_with fail
      have hbD : Below W9.heap.size W9 (Wx.alloc (.cells #[.slice (b2 0) (m2 0) (c2 0), .slice (b2 1) (m2 1) (c2 1), .slice (b2 2) (m2 2) (c2 2), .slice (b2 3) (m2 3) (c2 3)] 55)) := HBC.out.alloc HBC.out.size _
      obtain ⟨hFD, hrow⟩ := HFR.out
      generalize (Wx.alloc (.cells #[.slice (b2 0) (m2 0) (c2 0), .slice (b2 1) (m2 1) (c2 1), .slice (b2 2) (m2 2) (c2 2), .slice (b2 3) (m2 3) (c2 3)] 55)) = WA at hbD hFD ⊢
      obtain ⟨pb, hp⟩ : ∃ pb, pb = Wx.heap.size := ⟨_, rfl⟩
      rw [← hp] at hFD ⊢
      have FB := Lib.hid hFD
      have HD2 := Lib.hid hbD
      have L2f := Lib.hid (L2e.out.later hbD)
      have L3f := Lib.hid (L3e.out.later hbD)
      clear hbD hFD hrow HFR HBC hp
      refine (whole_any L3f.out.at_ dc.1 dc.2).mono ?_
      rintro e Wx ⟨y, rfl, hy, hbc⟩
      obtain ⟨b3, m3, c3, hm, hxa, hxe⟩ := slices_of hy
      rw [hxa]
      have HFR := Lib.hid (four_of hy hm hxe)
      have HBC := Lib.hid hbc
      clear hy hm hxa hxe hbc
      go_wp2_with fail
      have hbD : Below WA.heap.size WA (Wx.alloc (.cells #[.slice (b3 0) (m3 0) (c3 0), .slice (b3 1) (m3 1) (c3 1), .slice (b3 2) (m3 2) (c3 2), .slice (b3 3) (m3 3) (c3 3)] 55)) := HBC.out.alloc HBC.out.size _
      obtain ⟨hFD, hrow⟩ := HFR.out
      generalize (Wx.alloc (.cells #[.slice (b3 0) (m3 0) (c3 0), .slice (b3 1) (m3 1) (c3 1), .slice (b3 2) (m3 2) (c3 2), .slice (b3 3) (m3 3) (c3 3)] 55)) = WB at hbD hFD ⊢
      obtain ⟨pc, hp⟩ : ∃ pc, pc = Wx.heap.size := ⟨_, rfl⟩
      rw [← hp] at hFD ⊢
      have FC := Lib.hid hFD
      have HD3 := Lib.hid hbD
      have L2g := Lib.hid (L2f.out.later hbD)
      clear hbD hFD hrow HFR HBC hp
      have hpe := pending_any L2g.out.at_
      rw [Q4.out] at hpe
      refine hpe.mono ?_
      clear hpe
      rintro e WC ⟨v5, rfl, hown5, hb5⟩
      dsimp only [List.length_nil] at hown5
      obtain ⟨A5, c5, rfl, _, _⟩ := own_form hown5
      have L2h := L2g.out.later hb5
      have k5 : WC.cell? ⟨q2, 5, none⟩ = some (.bool Mb.dead) := by obtain ⟨mb, f, A', c', hdd⟩ := L2h.at_; exact hdd.c5
      rw [db.1] at k5
      have z1 := HD1.out.size
      have z2 := HD2.out.size
      have z3 := HD3.out.size
      have z4 := hb5.size
      have z0 := BBd.out.size
      have FIN := Lib.hid (show Fin w WC p0 pa pb pc M Ma Mb Mc a m ca b1 m1 c1 b2 m2 c2 b3 m3 c3 from ⟨four_below HFB.out ((((BBd.out.trans (HD1.out.mono z0)).trans (HD2.out.mono (by omega))).trans (HD3.out.mono (by omega))).trans (hb5.mono (by omega))) (Nat.le_refl _), four_below FA.out ((HD2.out.trans (HD3.out.mono z2)).trans (hb5.mono (by omega))) (Nat.le_refl _), four_below FB.out (HD3.out.trans (hb5.mono z3)) (Nat.le_refl _), four_below FC.out hb5 (Nat.le_refl _), HB1.out.trans (L2h.bel.mono HB1.out.size)⟩)
      clear hown5 hb5 L2h
      go_wp2_with (go_at_call 24; refine (dead_any _ q2 false k5).mono ?_; rintro e w6 ⟨rfl, rfl⟩)
      go_loopw [112] (fun i wq => ∃ k : Nat, i = .int .i64 k ∧ k ≤ 4 ∧ Hid (Fin w wq p0 pa pb pc M Ma Mb Mc a m ca b1 m1 c1 b2 m2 c2 b3 m3 c3)) (fun i _ => 4 - (match i with | .int _ k => k.toNat | _ => 0))
      case atStart => exact ⟨0, rfl, Nat.zero_le _, FIN⟩
      case round =>
        obtain ⟨k, rfl, hk, H⟩ := hrel
        by_cases hk4 : k < 4
        · have hk4' : (k : Int) < 4 := by omega
          have y0 := H.out.f0.cell hk4
          have y1 := H.out.f1.cell hk4
          have y2 := H.out.f2.cell hk4
          have y3 := H.out.f3.cell hk4
          have HQ1 := Lib.hid (fun q => pre_eq H.out.f0 H.out.f2 hk4 (Q1.out k) q)
          have HQ2 := Lib.hid (fun q => pre_eq H.out.f2 H.out.f1 hk4 (Q2.out k) q)
          have HQ3 := Lib.hid (fun q => same_eq H.out.f3 H.out.f0 hk4 (Q3.out k) q)
          go_wp2_with fail
          go_quiet (first | (go_at_call 28; with_reducible refine Calls.quiet_of_same (HQ1.out _)) | (go_at_call 28; with_reducible refine Calls.quiet_of_same (HQ2.out _)) | (go_at_call 29; with_reducible refine Calls.quiet_of_same (HQ3.out _)))
          go_wp2
          go_roundw
          case rel => exact ⟨k + 1, by simp, by omega, Lib.hid ⟨H.out.f0.drewN _, H.out.f1.drewN _, H.out.f2.drewN _, H.out.f3.drewN _, below_drewN H.out.bel _⟩⟩
          case measure => simp; omega
        · obtain rfl : k = 4 := by omega
          go_wp2
          go_ret
          exact ⟨rfl, H.out.bel⟩

set_option maxRecDepth 100000 in
theorem lifted (os : Os) (started : os.Started) (H : Type) (enc : TypeId × Value → H) :
    ReturnsInHanded {} Try.checked os 5 .any (Rows.diskLivesSpec.pre6 enc Try.prog Try.f5 Rows.diskLivesRow.domain false) (Rows.diskLivesSpec.post enc Try.prog Try.f5 false true false false) := by
  refine returnsInHanded_of_change (C := Try.checked) Try.own started (by kernel_rfl) Try.func5
    (ChangeSpec.witness6 (enc := enc) (C := Try.checked) false ⟨#[], #[.int .i64 0, .slice none 0 0, .slice none 0 0], []⟩ 8 (by kernel_rfl) (by kernel_rfl) (by kernel_rfl) (by kernel_rfl)) ?_
  intro W base args ds gs before hval0 hW hcnd _
  have hval : ∀ (j : Nat) t v, Try.f5.params[j]? = some t → args[j]? = some v → Value.okWide Try.prog W .any base t v := hval0
  have hW' := hW
  obtain ⟨p, q, hA0, hV, rfl, hfz, hnd⟩ := hW
  have hA : DataW.TrodAll enc Try.prog W 0 (fun _ => true) true Try.f5.params.toList args.toList ds p := hA0
  rw [Try.params5] at hA hval
  have hA' := hA
  obtain ⟨v0, vs0, d0, ds0, p0, q0, hargs, rfl, rfl, h0, r0⟩ := trodAll_cons hA
  obtain ⟨v1, vs1, d1, ds1, p1, q1, rfl, rfl, rfl, h1, r1⟩ := trodAll_cons r0
  obtain ⟨v2, vs2, d2, ds2, p2, q2, rfl, rfl, rfl, h2, r2⟩ := trodAll_cons r1
  obtain ⟨rfl, rfl, rfl⟩ := trodAll_nil r2
  obtain rfl : args = #[v0, v1, v2] := by cases args; simp_all
  obtain ⟨rfl, rfl⟩ := trodVars_none hV
  obtain ⟨a0, rfl, rfl, rfl, w0⟩ := open_int Try.underlying3 (hval 0 3 v0 rfl rfl) h0
  obtain ⟨A1, len1, c1, rfl⟩ := okWide_slice Try.underlying22 (hval 1 22 v1 rfl rfl)
  obtain ⟨z1, rfl, sl1, le1, mx1⟩ := open_ops h1
  obtain ⟨A2, len2, c2, rfl⟩ := okWide_slice Try.underlying35 (hval 2 35 v2 rfl rfl)
  obtain ⟨z2, rfl, sl2, le2, mx2⟩ := open_keep h2
  clear hA0 hval0
  refine (walk a0 w0 A1 c1 z1 sl1 le1 mx1 A2 c2 z2 sl2 le2 mx2).mono fun e W' ⟨he, bel⟩ => ?_
  subst he
  exact ⟨_, rfl, _, _, _, [], _, [], hW', trodAll_mk1 (shut_bool Try.underlying4 _), trodAll_below bel _ _ _ _ (by kernel_rfl) hA', rfl, bel.frame _, fun h => by cases h⟩

theorem proved : Rows.DiskLivesSaid :=
  OpenClaim.holds_of_wide 5 Try.f5 rfl rfl rfl rfl rfl rfl rfl ⟨rfl, rfl, rfl, rfl, rfl⟩ rfl rfl rfl rfl rfl (by kernel_rfl) Try.func5 (by kernel_rfl)
    (of_decide_eq_true (by kernel_rfl)) (by unfold Func.isWrapper; first | (rw [if_pos (by decide +kernel)]; kernel_rfl) | (rw [if_neg (by decide +kernel)]; exact ⟨rfl, rfl⟩))
    (fun os started H enc _ => lifted os started H enc)
#print axioms proved
end Go.Proofs.Ytlkcfdbhiifeaaa.diskLives
