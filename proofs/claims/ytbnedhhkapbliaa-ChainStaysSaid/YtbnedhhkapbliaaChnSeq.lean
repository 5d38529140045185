/-
  The iterator that where answers, over a chain that can be read.
-/
import Derived.Test.YtbnedhhkapbliaaChnCopy
import Derived.Test.YtbnedhhkapbliaaChnBox
namespace Go.Proofs.Ytbnedhhkapbliaa
open Go.RowKit Go.Shelf
set_option linter.unusedVariables false
set_option linter.unusedSimpArgs false
set_option maxRecDepth 100000
attribute [local go_sem] Oper.semAt_some

def pv (p : Pl) : Value := .agg #[.int .u64 p.v.b, .int .u64 p.v.f, .slice p.B p.v.x.length p.c]
def encV (x : Nat × Pl) : Array Value := #[.int .i64 x.1, .agg #[.int .u64 x.2.v.b, .int .u64 x.2.v.f, .slice x.2.B x.2.v.x.length x.2.c]]
/-- Those of the first k versions of which P holds, with their places. -/
def selT (P : Vr → Bool) (q : List Pl) : Nat → List (Nat × Pl)
  | 0 => []
  | k + 1 => selT P q k ++ (match q[k]? with | some p => if P p.v = true then [(k, p)] else [] | none => [])
theorem sel_yes {P : Vr → Bool} {q : List Pl} {k : Nat} {p : Pl} (h : q[k]? = some p) (hp : P p.v = true) : selT P q (k + 1) = selT P q k ++ [(k, p)] := by simp [selT, h, hp]
theorem sel_no {P : Vr → Bool} {q : List Pl} {k : Nat} {p : Pl} (h : q[k]? = some p) (hp : P p.v = false) : selT P q (k + 1) = selT P q k := by simp [selT, h, hp]
theorem sel_vals (P : Vr → Bool) (q : List Pl) : ∀ k, k ≤ q.length → (selT P q k).map (fun x => x.2.v) = ((vals q).take k).filter P := by
  intro k
  induction k with
  | zero => intro _; simp [selT]
  | succ k ih =>
    intro hk
    obtain ⟨p, hp⟩ : ∃ p, q[k]? = some p := ⟨_, List.getElem?_eq_getElem (by omega)⟩
    rw [List.take_add_one, vals_at hp, List.filter_append, ← ih (by omega)]
    cases h : P p.v
    · rw [sel_no hp h]; simp [h]
    · rw [sel_yes hp h]; simp [h]
theorem sel_all (P : Vr → Bool) (q : List Pl) : (selT P q q.length).map (fun x => x.2.v) = (vals q).filter P := by
  rw [sel_vals P q _ (Nat.le_refl _), ← vals_length, List.take_length]
theorem sel_none {P : Vr → Bool} {q : List Pl} {k : Nat} (hk : k ≤ q.length) (h : selT P q k = []) : None_ P (vals q) k := by
  have := sel_vals P q k hk
  rw [h] at this
  intro j u hj hu
  have h2 := (List.filter_eq_nil_iff.1 this.symm) u (List.mem_of_getElem? (i := j) (by rw [List.getElem?_take_of_lt hj]; exact hu))
  simpa using h2
def NxW (P : Vr → Bool) (q : List Pl) (pre : List (Nat × Pl)) (x : Nat × Pl) : Prop := q[x.1]? = some x.2 ∧ P x.2.v = true ∧ pre = selT P q x.1

theorem KpD.mono {d B B' : Nat} {W W' : World} (h : KpD d B W W') (hb : B' ≤ B) : KpD d B' W W' := ⟨h.size, fun k o hk hd ho hc => h.keep k o (by omega) hd ho hc⟩
theorem KpD.later {d : Nat} {w W X : World} (hb : Below w.heap.size w W) (hk : KpD d W.heap.size W X) : KpD d w.heap.size w X := (KpD.below hb).trans (hk.mono hb.size)
theorem KpD.chn {d B : Nat} {W0 W W' : World} {A : Option Addr} {c : Nat} {q : List Pl} (h : Chn W0 A c q) (hw : Below W0.heap.size W0 W) (hB : W0.heap.size ≤ B) (hd : W0.heap.size ≤ d) (hk : KpD d B W W') :
    ∀ p : Addr, p.block < W0.heap.size → ∀ v, W0.cell? p = some v → W'.cell? p = some v := fun p hp v hv =>
  hk.cell ((hw.cell hp).trans hv) (by omega) (by omega)

/-- How a round ended, as one outcome. -/
def RoundV (J Jx : List (Nat × Pl) → World → Prop) (d B : Nat) (pre : List (Nat × Pl)) (W1 : World) (e : Ending) (W' : World) : Prop :=
  ∃ b : Bool, e = .returned (.bool b) ∧ (b = true → J pre W' ∧ KpD d B W1 W') ∧ (b = false → Jx pre W')

set_option maxHeartbeats 2000000 in
theorem where1_in {w w0 : World} {A : Option Addr} {c : Nat} {q : List Pl} (P : Vr → Bool) (fid : FuncId) (cap : Array Value) (n d ba bh : Nat) (hn : 1 ≤ n)
    (hba : w.cell? ⟨ba, 0, none⟩ = some (.slice A q.length c)) (hbh : w.cell? ⟨bh, 0, none⟩ = some (.func (.func fid) #[] cap)) (h : Chn w0 A c q) (hw0 : Below w0.heap.size w0 w) (hd1 : ba ≠ d) (hd2 : bh ≠ d) (hd : w0.heap.size ≤ d)
    (hen : ∀ v W, (callFunc fid (#[v] ++ cap)).run Try.prog W = .ok (.enter fid (#[v] ++ cap)) W)
    (hcl : ∀ p ∈ q, ∀ X, KpD d w.heap.size w X → Calls Try.prog fid (#[.agg #[.int .u64 p.v.b, .int .u64 p.v.f, .slice p.B p.v.x.length p.c]] ++ cap) X fun e w' => e = .returned (.bool (P p.v)) ∧ Below X.heap.size X w') :
    SeqOwn Fence.wide n Try.prog 63 #[.pointer (some ⟨ba, 0, none⟩), .pointer (some ⟨bh, 0, none⟩)] encV (fun _ _ => False) (fun _ _ _ => True) (KpD d) (NxW P q) (fun xs => xs = selT P q q.length) (fun _ => True) w := by
  intro l J Jx W hW hJ hJx hY h0
  have hca : W.cell? ⟨ba, 0, none⟩ = some (.slice A q.length c) := (hW.cell (p := ⟨ba, 0, none⟩) (World.block_lt_of_cell? w _ hba)).trans hba
  have hch : W.cell? ⟨bh, 0, none⟩ = some (.func (.func fid) #[] cap) := (hW.cell (p := ⟨bh, 0, none⟩) (World.block_lt_of_cell? w _ hbh)).trans hbh
  have hbh' : bh < W.heap.size := World.block_lt_of_cell? W _ hch
  have hwW : Below w0.heap.size w0 W := hw0.trans (hW.mono hw0.size)
  obtain ⟨m, hm⟩ : ∃ m, m = q.length := ⟨_, rfl⟩
  have hmx : m ≤ 9223372036854775807 := by rw [hm]; exact h.many
  have HQ := Lib.hid h
  have HWW := Lib.hid hwW
  have HJ := Lib.hid hJ
  have HY := Lib.hid hY
  have H0 := Lib.hid h0
  have HM := Lib.hid hm
  have HCL := Lib.hid hcl
  have HW := Lib.hid hW
  rw [← hm] at hca
  clear hba hbh h hW hJ hJx hY h0 hm hw0 hwW hcl
  refine callsIn_of_wp Try.func63 rfl trivial ?_ rfl
  simp only [Try.ntmps63, List.size_toArray, List.length_cons, List.length_nil, Nat.reduceAdd, Nat.reduceSub, Array.replicate_succ, Array.replicate_zero, List.push_toArray, List.append_toArray, List.nil_append, List.cons_append]
  gi_wp2
  gi_loopw [8] (fun i wr => ∃ k : Nat, i = .int .i64 k ∧ k ≤ m ∧ Hid (J (selT P q k) wr ∧ KpD d W.heap.size W wr)) (fun i _ => m - (match i with | .int _ k => k.toNat | _ => 0))
  case atStart => exact ⟨0, rfl, Nat.zero_le _, Lib.hid ⟨H0.out, KpD.refl _ _ _⟩⟩
  case round =>
    obtain ⟨k, rfl, hk, HH⟩ := hrel
    by_cases hkm : k < m
    · have hkk : (k : Int) < m := by omega
      have k0 : (0 : Int) ≤ (k : Int) := by omega
      obtain ⟨b, o, p, rfl, hp, hb, d0, d1, d2, hv, hf⟩ := HQ.out.at_ (i := k) (by rw [← HM.out]; exact hkm)
      have e0 : wr.cell? ⟨b, o + k * 3, none⟩ = some _ := HH.out.2.chn HQ.out HWW.out HWW.out.size hd ⟨b, o + k * 3, none⟩ hb _ d0
      have e1 : wr.cell? ⟨b, o + k * 3 + 1, none⟩ = some _ := HH.out.2.chn HQ.out HWW.out HWW.out.size hd ⟨b, o + k * 3 + 1, none⟩ hb _ d1
      have e2 : wr.cell? ⟨b, o + k * 3 + 2, none⟩ = some _ := HH.out.2.chn HQ.out HWW.out HWW.out.size hd ⟨b, o + k * 3 + 2, none⟩ hb _ d2
      have hba1 : Below wr.heap.size wr (wr.alloc (.cells #[.int .u64 p.v.b, .int .u64 p.v.f, .slice p.B p.v.x.length p.c] 35)) := ver_alloc _ _ _ _ _ _
      obtain ⟨W1, hW1⟩ : ∃ W1, W1 = wr.alloc (.cells #[.int .u64 p.v.b, .int .u64 p.v.f, .slice p.B p.v.x.length p.c] 35) := ⟨_, rfl⟩
      rw [← hW1] at hba1
      have hk1 : KpD d W.heap.size W W1 := HH.out.2.trans ((KpD.below (d := d) hba1).mono HH.out.2.size)
      have hx1 : W1.heap[wr.heap.size]? = some (.cells #[.int .u64 p.v.b, .int .u64 p.v.f, .slice p.B p.v.x.length p.c] 35 (0, 0)) := by rw [hW1]; exact heap_alloc_new _ _
      have x0 := (cell_of_row _ _ 0 _ _ _ hx1).trans rfl
      have x1 := (cell_of_row _ _ 1 _ _ _ hx1).trans rfl
      have x2 := (cell_of_row _ _ 2 _ _ _ hx1).trans rfl
      have hfn : W1.cell? ⟨bh, 0, none⟩ = some (.func (.func fid) #[] cap) := hk1.cell hch hbh' hd2
      have HC := Lib.hid (HCL.out p (List.mem_of_getElem? hp) W1 (KpD.later HW.out hk1))
      have HJ1 := Lib.hid (HJ.out _ wr W1 HH.out.1 (Turn.of_below hba1))
      have HK1 := Lib.hid hk1
      have HX1 := Lib.hid hx1
      have HW1 := Lib.hid hW1
      have HP := Lib.hid hp
      clear hv hf hp d0 d1 d2 hba1 hx1 hk1
      cases hP : P p.v with
      | false =>
        have HS := Lib.hid (sel_no HP.out hP)
        rw [hP] at HC
        clear hP hW1
        gi_wp2_with (rw [← HW1.out])
        refine ⟨trivial, (callsIn_wide.2 HC.out).mono ?_⟩
        rintro e w2 ⟨rfl, hb2⟩
        have HH2 := Lib.hid (show J (selT P q (k + 1)) w2 ∧ KpD d W.heap.size W w2 from by
          rw [HS.out]
          exact ⟨HJ.out _ W1 w2 HJ1.out (Turn.of_below (hb2.mono (Nat.le_refl _))), HK1.out.trans ((KpD.below (d := d) hb2).mono HK1.out.size)⟩)
        clear hb2
        gi_wp2
        refine ⟨fun f h => (by cases h), ?_⟩
        gi_wp2
        go_roundw
        case rel => exact ⟨k + 1, by simp, by omega, HH2⟩
        case measure => simp; omega
      | true =>
        have HS := Lib.hid (sel_yes HP.out hP)
        have HN := Lib.hid (show NxW P q (selT P q k) (k, p) from ⟨HP.out, hP, rfl⟩)
        rw [hP] at HC
        clear hP hW1
        gi_wp2_with (rw [← HW1.out])
        refine ⟨trivial, (callsIn_wide.2 HC.out).mono ?_⟩
        rintro e w2 ⟨rfl, hb2⟩
        have hx2 := (hb2.block _ (lt_of_block HX1.out)).trans HX1.out
        have y0 := (cell_of_row _ _ 0 _ _ _ hx2).trans rfl
        have y1 := (cell_of_row _ _ 1 _ _ _ hx2).trans rfl
        have y2 := (cell_of_row _ _ 2 _ _ _ hx2).trans rfl
        have hk2 : KpD d W.heap.size W w2 := HK1.out.trans ((KpD.below (d := d) hb2).mono HK1.out.size)
        obtain ⟨fn, tmps, assign, body, hy, hR⟩ := HY.out (selT P q k) (k, p) w2 (HJ.out _ W1 w2 HJ1.out (Turn.of_below (hb2.mono (Nat.le_refl _)))) hk2.size trivial HN.out
        rw [← HS.out] at hR
        have HK2 := Lib.hid hk2
        have HR := Lib.hid hR
        unfold encV at hy
        dsimp only at hy
        clear hR hb2 hx2 hk2
        gi_wp2
        refine HR.out.mono ?_
        rintro e W3 (⟨rfl, hJ3, hk3⟩ | ⟨rfl, hJx3⟩)
        · have HH3 := Lib.hid (And.intro hJ3 (HK2.out.trans hk3))
          clear hJ3 hk3
          gi_wp2
          go_roundw
          case rel => exact ⟨k + 1, by simp, by omega, HH3⟩
          case measure => simp; omega
        · have HX3 := Lib.hid hJx3
          clear hJx3
          gi_wp2
          refine bodyPost_ret (results_none rfl _ _ _) rfl ?_
          exact ⟨⟨_, rfl⟩, .inr ⟨_, trivial, HX3.out⟩⟩
    · obtain rfl : k = m := by omega
      have HF := Lib.hid (show J (selT P q q.length) wr by rw [← HM.out]; exact HH.out.1)
      gi_wp2
      go_end0
      exact ⟨⟨_, rfl⟩, .inl ⟨_, rfl, HF.out⟩⟩

end Go.Proofs.Ytbnedhhkapbliaa
