/-
  The iterator that used answers, over cells that can be read.
-/
import Derived.Test.YtpdebkpblpipcaaAreFind
namespace Go.Proofs.Ytpdebkpblpipcaa
open Go.RowKit Go.Shelf
set_option linter.unusedVariables false
set_option linter.unusedSimpArgs false
set_option maxRecDepth 100000
attribute [local go_sem] Oper.semAt_some

def encC (x : Nat × Pa) : Array Value := #[.int .i64 x.1, .agg #[.bool x.2.e.u, .int .u64 x.2.e.i, .int .u64 x.2.e.b, .int .u64 x.2.e.f, .slice x.2.B x.2.e.x.length x.2.c]]
/-- The used ones of the first k, with their slots. -/
def selU (q : List Pa) : Nat → List (Nat × Pa)
  | 0 => []
  | k + 1 => selU q k ++ (match q[k]? with | some p => if p.e.u = true then [(k, p)] else [] | none => [])
theorem sel_yes {q : List Pa} {k : Nat} {p : Pa} (h : q[k]? = some p) (hp : p.e.u = true) : selU q (k + 1) = selU q k ++ [(k, p)] := by simp [selU, h, hp]
theorem sel_no {q : List Pa} {k : Nat} {p : Pa} (h : q[k]? = some p) (hp : p.e.u = false) : selU q (k + 1) = selU q k := by simp [selU, h, hp]
theorem sel_ces (q : List Pa) : ∀ k, k ≤ q.length → (selU q k).map (fun x => x.2.e) = ((ces q).take k).filter (·.u) := by
  intro k
  induction k with
  | zero => intro _; simp [selU]
  | succ k ih =>
    intro hk
    obtain ⟨p, hp⟩ : ∃ p, q[k]? = some p := ⟨_, List.getElem?_eq_getElem (by omega)⟩
    rw [List.take_add_one, ces_at hp, List.filter_append, ← ih (by omega)]
    cases h : p.e.u
    · rw [sel_no hp h]; simp [h]
    · rw [sel_yes hp h]; simp [h]
theorem sel_used (q : List Pa) : (selU q q.length).length = usedN (ces q) := by
  have := congrArg List.length (sel_ces q _ (Nat.le_refl _))
  rw [List.length_map, ← ces_length, List.take_length, ces_length] at this
  exact this
theorem sel_slots (q : List Pa) : ∀ k, k ≤ q.length → (selU q k).map (fun x => x.1) = (List.range k).filter (fun j => (ceAt (ces q) j).u) := by
  intro k
  induction k with
  | zero => intro _; simp [selU]
  | succ k ih =>
    intro hk
    obtain ⟨p, hp⟩ : ∃ p, q[k]? = some p := ⟨_, List.getElem?_eq_getElem (by omega)⟩
    rw [List.range_succ, List.filter_append, ← ih (by omega)]
    have hc := ces_ceAt hp
    cases h : p.e.u
    · rw [sel_no hp h]; simp [hc, h]
    · rw [sel_yes hp h]; simp [hc, h]
theorem sel_len (q : List Pa) (k : Nat) : (selU q k).length ≤ k := by
  induction k with
  | zero => simp [selU]
  | succ k ih =>
    simp only [selU, List.length_append]
    split
    · split <;> simp <;> omega
    · simp; omega
def NxU (q : List Pa) (pre : List (Nat × Pa)) (x : Nat × Pa) : Prop := q[x.1]? = some x.2 ∧ x.2.e.u = true ∧ pre = selU q x.1

theorem KpD.mono {d B B' : Nat} {W W' : World} (h : KpD d B W W') (hb : B' ≤ B) : KpD d B' W W' := ⟨h.size, fun k o hk hd ho hc => h.keep k o (by omega) hd ho hc⟩
theorem KpD.are {d B : Nat} {W0 W W' : World} (hw : Below W0.heap.size W0 W) (hB : W0.heap.size ≤ B) (hk : KpD d B W W') (p : Addr) (hp : p.block < W0.heap.size) (hd : p.block ≠ d) (v : Value) (hv : W0.cell? p = some v) : W'.cell? p = some v :=
  hk.cell ((hw.cell hp).trans hv) (by omega) hd

set_option maxHeartbeats 2000000 in
theorem used1_in {w w0 : World} {A : Option Addr} {c : Nat} {q : List Pa} (n d ba : Nat) (hn : 1 ≤ n)
    (hba : w.cell? ⟨ba, 0, none⟩ = some (.slice A q.length c)) (h : Are w0 A c q) (hw0 : Below w0.heap.size w0 w) (hd : w0.heap.size ≤ d) :
    SeqOwn Fence.wide n Try.prog 60 #[.pointer (some ⟨ba, 0, none⟩)] encC (fun _ _ => False) (fun _ _ _ => True) (KpD d) (NxU q) (fun xs => xs = selU q q.length) (fun _ => True) w := by
  intro l J Jx W hW hJ hJx hY h0
  have hca : W.cell? ⟨ba, 0, none⟩ = some (.slice A q.length c) := (hW.cell (p := ⟨ba, 0, none⟩) (World.block_lt_of_cell? w _ hba)).trans hba
  have hwW : Below w0.heap.size w0 W := hw0.trans (hW.mono hw0.size)
  obtain ⟨m, hm⟩ : ∃ m, m = q.length := ⟨_, rfl⟩
  have hmx : m ≤ 9223372036854775807 := by rw [hm]; exact h.many
  have HQ := Lib.hid h
  have HWW := Lib.hid hwW
  have HJ := Lib.hid hJ
  have HY := Lib.hid hY
  have H0 := Lib.hid h0
  have HM := Lib.hid hm
  have HD := Lib.hid hd
  rw [← hm] at hca
  clear hba h hW hJ hJx hY h0 hm hw0 hwW hd
  refine callsIn_of_wp Try.func60 rfl trivial ?_ rfl
  simp only [Try.ntmps60, List.size_toArray, List.length_cons, List.length_nil, Nat.reduceAdd, Nat.reduceSub, Array.replicate_succ, Array.replicate_zero, List.push_toArray, List.append_toArray, List.nil_append, List.cons_append]
  gi_wp2
  gi_loopw [7] (fun i wr => ∃ k : Nat, i = .int .i64 k ∧ k ≤ m ∧ Hid (J (selU q k) wr ∧ KpD d W.heap.size W wr)) (fun i _ => m - (match i with | .int _ k => k.toNat | _ => 0))
  case atStart => exact ⟨0, rfl, Nat.zero_le _, Lib.hid ⟨H0.out, KpD.refl _ _ _⟩⟩
  case round =>
    obtain ⟨k, rfl, hk, HH⟩ := hrel
    by_cases hkm : k < m
    · have hkk : (k : Int) < m := by omega
      have k0 : (0 : Int) ≤ (k : Int) := by omega
      obtain ⟨b, o, p, rfl, hp, hb, d0, d1, d2, d3, d4, hv, hf⟩ := HQ.out.at_ (i := k) (by rw [← HM.out]; exact hkm)
      have hne : b ≠ d := by have := HD.out; omega
      have HE := Lib.hid (KpD.are HWW.out HWW.out.size HH.out.2)
      have e0 : wr.cell? ⟨b, o + k * 5, none⟩ = some _ := HE.out ⟨b, o + k * 5, none⟩ hb hne _ d0
      have e1 : wr.cell? ⟨b, o + k * 5 + 1, none⟩ = some _ := HE.out ⟨b, o + k * 5 + 1, none⟩ hb hne _ d1
      have e2 : wr.cell? ⟨b, o + k * 5 + 2, none⟩ = some _ := HE.out ⟨b, o + k * 5 + 2, none⟩ hb hne _ d2
      have e3 : wr.cell? ⟨b, o + k * 5 + 3, none⟩ = some _ := HE.out ⟨b, o + k * 5 + 3, none⟩ hb hne _ d3
      have e4 : wr.cell? ⟨b, o + k * 5 + 4, none⟩ = some _ := HE.out ⟨b, o + k * 5 + 4, none⟩ hb hne _ d4
      have hba1 := cel_alloc wr p.e.u p.e.i p.e.b p.e.f p.B p.e.x.length p.c
      obtain ⟨W1, hW1⟩ : ∃ W1, W1 = wr.alloc (.cells #[.bool p.e.u, .int .u64 p.e.i, .int .u64 p.e.b, .int .u64 p.e.f, .slice p.B p.e.x.length p.c] 45) := ⟨_, rfl⟩
      rw [← hW1] at hba1
      have hk1 : KpD d W.heap.size W W1 := HH.out.2.trans ((KpD.below (d := d) hba1).mono HH.out.2.size)
      have HJ1 := Lib.hid (HJ.out _ wr W1 HH.out.1 (Turn.of_below hba1))
      have HK1 := Lib.hid hk1
      have HW1 := Lib.hid hW1
      have HP := Lib.hid hp
      clear hv hf hp d0 d1 d2 d3 d4 hba1 hk1 hW1 HE
      cases hP : p.e.u with
      | false =>
        have HS := Lib.hid (sel_no HP.out hP)
        have HH2 := Lib.hid (show J (selU q (k + 1)) W1 ∧ KpD d W.heap.size W W1 from by rw [HS.out]; exact ⟨HJ1.out, HK1.out⟩)
        rw [hP] at e0 HW1
        clear hP
        gi_wp2
        refine ⟨fun f h => (by cases h), ?_⟩
        gi_wp2
        go_roundw
        case rel => exact ⟨k + 1, by simp, by omega, by rw [← HW1.out]; exact HH2⟩
        case measure => simp; omega
      | true =>
        have HS := Lib.hid (sel_yes HP.out hP)
        have hN : NxU q (selU q k) (k, p) := ⟨HP.out, hP, rfl⟩
        obtain ⟨fn, tmps, assign, body, hy, hR⟩ := HY.out (selU q k) (k, p) W1 HJ1.out HK1.out.size trivial hN
        rw [← HS.out] at hR
        have HR := Lib.hid hR
        unfold encC at hy
        dsimp only at hy
        rw [HW1.out] at hy
        rw [hP] at e0 HW1 hy
        clear hP hR hN
        gi_wp2
        rw [← HW1.out]
        refine HR.out.mono ?_
        rintro e W3 (⟨rfl, hJ3, hk3⟩ | ⟨rfl, hJx3⟩)
        · have HH3 := Lib.hid (And.intro hJ3 (HK1.out.trans hk3))
          clear hJ3 hk3
          gi_wp2
          go_roundw
          case rel => exact ⟨k + 1, by simp, by omega, HH3⟩
          case measure => simp; omega
        · have HX3 := Lib.hid hJx3
          clear hJx3
          gi_wp2
          refine bodyPost_ret (results_none rfl _ _ _) rfl ?_
          exact ⟨⟨_, rfl⟩, .inr ⟨_, trivial, HX3.out⟩⟩
    · obtain rfl : k = m := by omega
      have HF := Lib.hid (show J (selU q q.length) wr by rw [← HM.out]; exact HH.out.1)
      gi_wp2
      go_end0
      exact ⟨⟨_, rfl⟩, .inl ⟨_, rfl, HF.out⟩⟩

end Go.Proofs.Ytpdebkpblpipcaa
