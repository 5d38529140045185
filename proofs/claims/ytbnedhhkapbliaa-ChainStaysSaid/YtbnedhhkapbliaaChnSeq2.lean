/-
  The iterator of slices.All; that of where for the one version that may be open: the last one.
-/
import Derived.Test.YtbnedhhkapbliaaChnSeq
namespace Go.Proofs.Ytbnedhhkapbliaa
open Go.RowKit Go.Shelf
set_option linter.unusedVariables false
set_option linter.unusedSimpArgs false
set_option maxRecDepth 100000
attribute [local go_sem] Oper.semAt_some

set_option maxHeartbeats 2000000 in
theorem all1_in {w w0 : World} {A : Option Addr} {c : Nat} {q : List Pl} (n d ba : Nat) (hn : 1 ≤ n)
    (hba : w.cell? ⟨ba, 0, none⟩ = some (.slice A q.length c)) (h : Chn w0 A c q) (hw0 : Below w0.heap.size w0 w) (hd1 : ba ≠ d) (hd : w0.heap.size ≤ d) :
    SeqOwn Fence.wide n Try.prog 71 #[.pointer (some ⟨ba, 0, none⟩)] encV (fun _ _ => False) (fun _ _ _ => True) (KpD d) (NxW (fun _ => true) q) (fun xs => xs = selT (fun _ => true) q q.length) (fun _ => True) w := by
  intro l J Jx W hW hJ hJx hY h0
  have hca : W.cell? ⟨ba, 0, none⟩ = some (.slice A q.length c) := (hW.cell (p := ⟨ba, 0, none⟩) (World.block_lt_of_cell? w _ hba)).trans hba
  have hwW : Below w0.heap.size w0 W := hw0.trans (hW.mono hw0.size)
  obtain ⟨m, hm⟩ : ∃ m, m = q.length := ⟨_, rfl⟩
  have hmx : m ≤ 9223372036854775807 := by rw [hm]; exact h.many
  have HQ := Lib.hid h
  have HWW := Lib.hid hwW
  have HJ := Lib.hid hJ
  have HY := Lib.hid hY
  have H0 := Lib.hid h0
  have HM := Lib.hid hm
  have HW := Lib.hid hW
  rw [← hm] at hca
  clear hba h hW hJ hJx hY h0 hm hw0 hwW
  refine callsIn_of_wp Try.func71 rfl trivial ?_ rfl
  simp only [Try.ntmps71, List.size_toArray, List.length_cons, List.length_nil, Nat.reduceAdd, Nat.reduceSub, Array.replicate_succ, Array.replicate_zero, List.push_toArray, List.append_toArray, List.nil_append, List.cons_append]
  gi_wp2
  gi_loopw [7] (fun i wr => ∃ k : Nat, i = .int .i64 k ∧ k ≤ m ∧ Hid (J (selT (fun _ => true) q k) wr ∧ KpD d W.heap.size W wr)) (fun i _ => m - (match i with | .int _ k => k.toNat | _ => 0))
  case atStart => exact ⟨0, rfl, Nat.zero_le _, Lib.hid ⟨H0.out, KpD.refl _ _ _⟩⟩
  case round =>
    obtain ⟨k, rfl, hk, HH⟩ := hrel
    by_cases hkm : k < m
    · have hkk : (k : Int) < m := by omega
      have k0 : (0 : Int) ≤ (k : Int) := by omega
      obtain ⟨b, o, p, rfl, hp, hb, d0, d1, d2, hv, hf⟩ := HQ.out.at_ (i := k) (by rw [← HM.out]; exact hkm)
      have e0 : wr.cell? ⟨b, o + k * 3, none⟩ = some _ := HH.out.2.chn HQ.out HWW.out HWW.out.size hd ⟨b, o + k * 3, none⟩ hb _ d0
      have e1 : wr.cell? ⟨b, o + k * 3 + 1, none⟩ = some _ := HH.out.2.chn HQ.out HWW.out HWW.out.size hd ⟨b, o + k * 3 + 1, none⟩ hb _ d1
      have e2 : wr.cell? ⟨b, o + k * 3 + 2, none⟩ = some _ := HH.out.2.chn HQ.out HWW.out HWW.out.size hd ⟨b, o + k * 3 + 2, none⟩ hb _ d2
      have hba1 : Below wr.heap.size wr (wr.alloc (.cells #[.int .u64 p.v.b, .int .u64 p.v.f, .slice p.B p.v.x.length p.c] 35)) := ver_alloc _ _ _ _ _ _
      have HS := Lib.hid (sel_yes (P := fun _ => true) hp rfl)
      obtain ⟨fn, tmps, assign, body, hy, hR⟩ := HY.out (selT (fun _ => true) q k) (k, p) (wr.alloc (.cells #[.int .u64 p.v.b, .int .u64 p.v.f, .slice p.B p.v.x.length p.c] 35)) (HJ.out _ wr _ HH.out.1 (Turn.of_below (hba1.mono (Nat.le_refl _)))) (Nat.le_trans HH.out.2.size hba1.size) trivial ⟨hp, rfl, rfl⟩
      rw [← HS.out] at hR
      have HK := Lib.hid (HH.out.2.trans ((KpD.below (d := d) hba1).mono HH.out.2.size))
      have HR := Lib.hid hR
      unfold encV at hy
      dsimp only at hy
      clear hR d0 d1 d2 hb hp hba1 hv hf
      gi_wp2
      refine HR.out.mono ?_
      rintro e W3 (⟨rfl, hJ3, hk3⟩ | ⟨rfl, hJx3⟩)
      · have HH3 := Lib.hid (And.intro hJ3 (HK.out.trans hk3))
        clear hJ3 hk3
        gi_wp2
        go_roundw
        case rel => exact ⟨k + 1, by simp, by omega, HH3⟩
        case measure => simp; omega
      · have HX3 := Lib.hid hJx3
        clear hJx3
        gi_wp2
        refine bodyPost_ret (results_none rfl _ _ _) rfl ?_
        exact ⟨⟨_, rfl⟩, .inr ⟨_, trivial, HX3.out⟩⟩
    · obtain rfl : k = m := by omega
      have HF := Lib.hid (show J (selT (fun _ => true) q q.length) wr by rw [← HM.out]; exact HH.out.1)
      gi_wp2
      go_end0
      exact ⟨⟨_, rfl⟩, .inl ⟨_, rfl, HF.out⟩⟩

set_option maxHeartbeats 2000000 in
theorem where1_last {w w0 : World} {A : Option Addr} {c : Nat} {q : List Pl} (P : Vr → Bool) (fid : FuncId) (cap : Array Value) (n ba bh : Nat) (hn : 1 ≤ n)
    (hba : w.cell? ⟨ba, 0, none⟩ = some (.slice A q.length c)) (hbh : w.cell? ⟨bh, 0, none⟩ = some (.func (.func fid) #[] cap)) (h : Chn w0 A c q) (hw0 : Below w0.heap.size w0 w)
    (hen : ∀ v W, (callFunc fid (#[v] ++ cap)).run Try.prog W = .ok (.enter fid (#[v] ++ cap)) W)
    (hlast : ∀ (i : Nat) (p : Pl), q[i]? = some p → i + 1 < q.length → P p.v = false)
    (hcl : ∀ p ∈ q, ∀ X, Calls Try.prog fid (#[.agg #[.int .u64 p.v.b, .int .u64 p.v.f, .slice p.B p.v.x.length p.c]] ++ cap) X fun e w' => e = .returned (.bool (P p.v)) ∧ Below X.heap.size X w') :
    SeqOwn Fence.wide n Try.prog 63 #[.pointer (some ⟨ba, 0, none⟩), .pointer (some ⟨bh, 0, none⟩)] encV (fun _ _ => False) (fun _ _ _ => True) (fun _ _ _ => True) (NxW P q) (fun xs => xs = selT P q q.length) (fun _ => True) w := by
  intro l J Jx W hW hJ hJx hY h0
  have hca : W.cell? ⟨ba, 0, none⟩ = some (.slice A q.length c) := (hW.cell (p := ⟨ba, 0, none⟩) (World.block_lt_of_cell? w _ hba)).trans hba
  have hch : W.cell? ⟨bh, 0, none⟩ = some (.func (.func fid) #[] cap) := (hW.cell (p := ⟨bh, 0, none⟩) (World.block_lt_of_cell? w _ hbh)).trans hbh
  have hbh' : bh < W.heap.size := World.block_lt_of_cell? W _ hch
  have hwW : Below w0.heap.size w0 W := hw0.trans (hW.mono hw0.size)
  obtain ⟨m, hm⟩ : ∃ m, m = q.length := ⟨_, rfl⟩
  have hmx : m ≤ 9223372036854775807 := by rw [hm]; exact h.many
  have HQ := Lib.hid h
  have HWW := Lib.hid hwW
  have HJ := Lib.hid hJ
  have HY := Lib.hid hY
  have H0 := Lib.hid h0
  have HM := Lib.hid hm
  have HCL := Lib.hid hcl
  have HLast := Lib.hid hlast
  have HW := Lib.hid hW
  rw [← hm] at hca
  clear hba hbh h hW hJ hJx hY h0 hm hw0 hwW hcl hlast
  refine callsIn_of_wp Try.func63 rfl trivial ?_ rfl
  simp only [Try.ntmps63, List.size_toArray, List.length_cons, List.length_nil, Nat.reduceAdd, Nat.reduceSub, Array.replicate_succ, Array.replicate_zero, List.push_toArray, List.append_toArray, List.nil_append, List.cons_append]
  gi_wp2
  gi_loopw [8] (fun i wr => ∃ k : Nat, i = .int .i64 k ∧ k ≤ m ∧ Hid (J (selT P q k) wr ∧ (k < m → Below W.heap.size W wr))) (fun i _ => m - (match i with | .int _ k => k.toNat | _ => 0))
  case atStart => exact ⟨0, rfl, Nat.zero_le _, Lib.hid ⟨H0.out, fun _ => Below.refl _ _⟩⟩
  case round =>
    obtain ⟨k, rfl, hk, HH⟩ := hrel
    by_cases hkm : k < m
    · have hkk : (k : Int) < m := by omega
      have k0 : (0 : Int) ≤ (k : Int) := by omega
      obtain ⟨b, o, p, rfl, hp, hb, d0, d1, d2, hv, hf⟩ := HQ.out.at_ (i := k) (by rw [← HM.out]; exact hkm)
      have hbr : Below w0.heap.size w0 wr := HWW.out.trans ((HH.out.2 hkm).mono HWW.out.size)
      have e0 : wr.cell? ⟨b, o + k * 3, none⟩ = some _ := (hbr.cell (p := ⟨b, o + k * 3, none⟩) hb).trans d0
      have e1 : wr.cell? ⟨b, o + k * 3 + 1, none⟩ = some _ := (hbr.cell (p := ⟨b, o + k * 3 + 1, none⟩) hb).trans d1
      have e2 : wr.cell? ⟨b, o + k * 3 + 2, none⟩ = some _ := (hbr.cell (p := ⟨b, o + k * 3 + 2, none⟩) hb).trans d2
      have hba1 : Below wr.heap.size wr (wr.alloc (.cells #[.int .u64 p.v.b, .int .u64 p.v.f, .slice p.B p.v.x.length p.c] 35)) := ver_alloc _ _ _ _ _ _
      obtain ⟨W1, hW1⟩ : ∃ W1, W1 = wr.alloc (.cells #[.int .u64 p.v.b, .int .u64 p.v.f, .slice p.B p.v.x.length p.c] 35) := ⟨_, rfl⟩
      rw [← hW1] at hba1
      have hk1 : Below W.heap.size W W1 := (HH.out.2 hkm).trans (hba1.mono (HH.out.2 hkm).size)
      have hx1 : W1.heap[wr.heap.size]? = some (.cells #[.int .u64 p.v.b, .int .u64 p.v.f, .slice p.B p.v.x.length p.c] 35 (0, 0)) := by rw [hW1]; exact heap_alloc_new _ _
      have x0 := (cell_of_row _ _ 0 _ _ _ hx1).trans rfl
      have x1 := (cell_of_row _ _ 1 _ _ _ hx1).trans rfl
      have x2 := (cell_of_row _ _ 2 _ _ _ hx1).trans rfl
      have hfn : W1.cell? ⟨bh, 0, none⟩ = some (.func (.func fid) #[] cap) := (hk1.cell (p := ⟨bh, 0, none⟩) hbh').trans hch
      have HC := Lib.hid (HCL.out p (List.mem_of_getElem? hp) W1)
      have HJ1 := Lib.hid (HJ.out _ wr W1 HH.out.1 (Turn.of_below hba1))
      have HK1 := Lib.hid hk1
      have HX1 := Lib.hid hx1
      have HW1 := Lib.hid hW1
      have HP := Lib.hid hp
      clear hv hf hp d0 d1 d2 hba1 hx1 hk1
      cases hP : P p.v with
      | false =>
        have HS := Lib.hid (sel_no HP.out hP)
        rw [hP] at HC
        clear hP hW1
        gi_wp2_with (rw [← HW1.out])
        refine ⟨trivial, (callsIn_wide.2 HC.out).mono ?_⟩
        rintro e w2 ⟨rfl, hb2⟩
        have HH2 := Lib.hid (show J (selT P q (k + 1)) w2 ∧ (k + 1 < m → Below W.heap.size W w2) from by
          rw [HS.out]
          exact ⟨HJ.out _ W1 w2 HJ1.out (Turn.of_below (hb2.mono (Nat.le_refl _))), fun _ => HK1.out.trans (hb2.mono HK1.out.size)⟩)
        clear hb2
        gi_wp2
        refine ⟨fun f h => (by cases h), ?_⟩
        gi_wp2
        go_roundw
        case rel => exact ⟨k + 1, by simp, by omega, HH2⟩
        case measure => simp; omega
      | true =>
        have HS := Lib.hid (sel_yes HP.out hP)
        have HN := Lib.hid (show NxW P q (selT P q k) (k, p) from ⟨HP.out, hP, rfl⟩)
        rw [hP] at HC
        have hPk := Lib.hid hP
        clear hP hW1
        gi_wp2_with (rw [← HW1.out])
        refine ⟨trivial, (callsIn_wide.2 HC.out).mono ?_⟩
        rintro e w2 ⟨rfl, hb2⟩
        have hx2 := (hb2.block _ (lt_of_block HX1.out)).trans HX1.out
        have y0 := (cell_of_row _ _ 0 _ _ _ hx2).trans rfl
        have y1 := (cell_of_row _ _ 1 _ _ _ hx2).trans rfl
        have y2 := (cell_of_row _ _ 2 _ _ _ hx2).trans rfl
        have hk2 : Below W.heap.size W w2 := HK1.out.trans (hb2.mono HK1.out.size)
        have HE := Lib.hid (show ¬ k + 1 < m from fun h => by have := HLast.out k p HP.out (by rw [← HM.out]; exact h); rw [hPk.out] at this; cases this)
        obtain ⟨fn, tmps, assign, body, hy, hR⟩ := HY.out (selT P q k) (k, p) w2 (HJ.out _ W1 w2 HJ1.out (Turn.of_below (hb2.mono (Nat.le_refl _)))) hk2.size trivial HN.out
        rw [← HS.out] at hR
        have HK2 := Lib.hid hk2
        have HR := Lib.hid hR
        unfold encV at hy
        dsimp only at hy
        clear hR hb2 hx2 hk2
        gi_wp2
        refine HR.out.mono ?_
        rintro e W3 (⟨rfl, hJ3, hk3⟩ | ⟨rfl, hJx3⟩)
        · have HH3 := Lib.hid (show J (selT P q (k + 1)) W3 ∧ (k + 1 < m → Below W.heap.size W W3) from ⟨hJ3, fun h => absurd h HE.out⟩)
          clear hJ3 hk3
          gi_wp2
          go_roundw
          case rel => exact ⟨k + 1, by simp, by omega, HH3⟩
          case measure => simp; omega
        · have HX3 := Lib.hid hJx3
          clear hJx3
          gi_wp2
          refine bodyPost_ret (results_none rfl _ _ _) rfl ?_
          exact ⟨⟨_, rfl⟩, .inr ⟨_, trivial, HX3.out⟩⟩
    · obtain rfl : k = m := by omega
      have HF := Lib.hid (show J (selT P q q.length) wr by rw [← HM.out]; exact HH.out.1)
      gi_wp2
      go_end0
      exact ⟨⟨_, rfl⟩, .inl ⟨_, rfl, HF.out⟩⟩


end Go.Proofs.Ytbnedhhkapbliaa
