/-
  The iterator that members answers; slices.AppendSeq and slices.Collect at vectors.
-/
import Derived.Test.YtgakfffkadaeeaaMnsConc
import Derived.RangeFuncBox
import Derived.OwnWalkIn
namespace Go.Proofs.Ytgakfffkadaeeaa
open Go.RowKit Go.Shelf
set_option linter.unusedVariables false
set_option linter.unusedSimpArgs false
set_option maxRecDepth 100000
attribute [local go_sem] Oper.semAt_some

/-! ### those whose place is such -/
def selM (f : Nat → Bool) (q : List Pv) : Nat → List Pv
  | 0 => []
  | k + 1 => selM f q k ++ (match q[k]? with | some p => if f k = true then [p] else [] | none => [])
theorem selM_yes {f : Nat → Bool} {q : List Pv} {k : Nat} {p : Pv} (h : q[k]? = some p) (hf : f k = true) : selM f q (k + 1) = selM f q k ++ [p] := by simp [selM, h, hf]
theorem selM_no {f : Nat → Bool} {q : List Pv} {k : Nat} {p : Pv} (h : q[k]? = some p) (hf : f k = false) : selM f q (k + 1) = selM f q k := by simp [selM, h, hf]
theorem selM_len (f : Nat → Bool) (q : List Pv) (k : Nat) : (selM f q k).length ≤ k := by
  induction k with
  | zero => simp [selM]
  | succ k ih =>
    show (selM f q k ++ _).length ≤ k + 1
    rw [List.length_append]
    have : (match q[k]? with | some p => if f k = true then [p] else [] | none => []).length ≤ 1 := by
      split
      · split <;> simp
      · simp
    omega
theorem selM_mem (f : Nat → Bool) (q : List Pv) (k : Nat) : ∀ p ∈ selM f q k, p ∈ q := by
  induction k with
  | zero => simp [selM]
  | succ k ih =>
    intro p hp
    have hp : p ∈ selM f q k ++ (match q[k]? with | some p => if f k = true then [p] else [] | none => []) := hp
    rcases List.mem_append.1 hp with hp | hp
    · exact ih p hp
    · split at hp
      · rename_i r hr
        split at hp
        · obtain rfl : p = r := by simpa using hp
          exact List.mem_of_getElem? hr
        · simp at hp
      · simp at hp
/-- All of them: what the places tell. -/
theorem selM_own (c l : List (List Int)) (q : List Pv) (hq : vals q = l) (j : Nat) : vals (selM (fun k => decide ((partsM c l).getD k 0 = j)) q q.length) = ownM c l j := by
  subst hq
  have key : ∀ k, k ≤ q.length → vals (selM (fun k => decide ((partsM c (vals q)).getD k 0 = j)) q k) = ownM c ((vals q).take k) j := by
    intro k
    induction k with
    | zero => intro _; simp [selM, ownM, vals]
    | succ k ih =>
      intro hk
      have hp := List.getElem?_eq_getElem (show k < q.length by omega)
      have hv := vals_at hp
      have hg : (partsM c (vals q)).getD k 0 = nearM c (q[k].x) := by simp [partsM, List.getD, hv]
      have ht : ownM c ((vals q).take (k + 1)) j = ownM c ((vals q).take k) j ++ (if nearM c (q[k].x) = j then [q[k].x] else []) := by
        unfold ownM
        rw [List.take_add_one, hv, List.filter_append]
        congr 1
        by_cases h : nearM c (q[k].x) = j <;> simp [h]
      rw [ht, ← ih (by omega)]
      by_cases h : nearM c (q[k].x) = j
      · rw [selM_yes hp (by rw [hg]; simpa using h), vals_append, if_pos h]; rfl
      · rw [selM_no hp (by rw [hg]; simpa using h), if_neg h, List.append_nil]
  rw [key q.length (Nat.le_refl _), ← vals_length, List.take_length]

/-- What a round keeps: all cells below lo. -/
def KpL (lo : Nat) (_ : Nat) (W W' : World) : Prop := W.heap.size ≤ W'.heap.size ∧ ∀ (k : Nat) (o : Obj), k < lo → W.heap[k]? = some o → o.isCells = true → W'.heap[k]? = some o
theorem KpL.refl (lo B : Nat) (W : World) : KpL lo B W W := ⟨Nat.le_refl _, fun _ _ _ h _ => h⟩
theorem KpL.trans {lo B : Nat} {X Y Z : World} (h : KpL lo B X Y) (k : KpL lo B Y Z) : KpL lo B X Z := ⟨Nat.le_trans h.1 k.1, fun i o hi ho hc => k.2 i o hi (h.2 i o hi ho hc) hc⟩
theorem KpL.put {lo B : Nat} {W : World} {k : Nat} {o o' : Obj} (hk : W.heap[k]? = some o) (ho : o.isCells = false) : KpL lo B W (W.putObj k o') := ⟨by simp [World.putObj], fun i o2 _ hi hc => put_other hk ho hi hc⟩
theorem KpL.turn {lo B : Nat} {S : Nat → Prop} {W W' : World} (h : Turn S W W') (hS : ∀ i, S i → lo ≤ i) : KpL lo B W W' := ⟨h.size, fun i o hi ho _ => (h.block i (lt_of_block ho) (fun e => by have := hS i e; omega)).trans ho⟩
theorem KpL.drew {lo B : Nat} {W W' : World} (h : KpL lo B W W') : KpL lo B W W'.drew := ⟨h.1, h.2⟩
theorem KpL.cell {lo B : Nat} {W W' : World} (h : KpL lo B W W') {p : Addr} {v : Value} (hv : W.cell? p = some v) (hp : p.block < lo) : W'.cell? p = some v := by
  obtain ⟨b, i, s⟩ := p
  have hb : ∃ o, W.heap[b]? = some o ∧ o.isCells = true := by
    unfold World.cell? at hv
    cases ho : W.heap[b]? with
    | none => simp [ho] at hv
    | some o => cases o <;> simp_all [Obj.isCells]
  obtain ⟨o, ho, hc⟩ := hb
  exact (World.cell?_of_block (a := ⟨b, i, s⟩) ((h.2 b o hp ho hc).trans ho.symm)).trans hv
def encM (x : Pv) : Array Value := #[.slice x.B x.x.length x.c]
def NxM (f : Nat → Bool) (q : List Pv) (pre : List Pv) (x : Pv) : Prop := ∃ k, k < q.length ∧ q[k]? = some x ∧ f k = true ∧ pre = selM f q k
/-- How a round ended. -/
def RoundM (J Jx : List Pv → World → Prop) (lo B : Nat) (pre : List Pv) (W1 : World) (e : Ending) (W' : World) : Prop :=
  ∃ b : Bool, e = .returned (.bool b) ∧ (b = true → J pre W' ∧ KpL lo B W1 W') ∧ (b = false → Jx pre W')

theorem members_any (A A' : Option Addr) (n c n' c' : Nat) (j : Int) (w : World) : Calls Try.prog 55 #[.slice A n c, .slice A' n' c', .int .i64 j] w fun e w' => e = .returned (.func (.func 70) #[] #[.pointer (some ⟨w.heap.size, 0, none⟩), .pointer (some ⟨w.heap.size + 1, 0, none⟩), .pointer (some ⟨w.heap.size + 2, 0, none⟩)]) ∧
    w' = ((w.alloc (.cells #[.slice A n c] 22)).alloc (.cells #[.slice A' n' c'] 23)).alloc (.cells #[.int .i64 j] 3) := by
  go_enter Try.func55, Try.ntmps55
  go_wp2
  go_ret
  exact ⟨rfl, rfl⟩

set_option maxHeartbeats 4000000 in
theorem members1_in {w : World} {A A' : Option Addr} {c c' : Nat} {q : List Pv} {p : List Nat} (j n lo g1 g2 g3 : Nat) (hn : 1 ≤ n) (hl : p.length = q.length) (hmx : q.length ≤ 1000000)
    (hg1 : w.cell? ⟨g1, 0, none⟩ = some (.slice A q.length c)) (hg2 : w.cell? ⟨g2, 0, none⟩ = some (.slice A' q.length c')) (hg3 : w.cell? ⟨g3, 0, none⟩ = some (.int .i64 (j : Int))) (h1 : g1 < lo) (h2 : g2 < lo) (h3 : g3 < lo)
    (hq : ∀ i x, q[i]? = some x → ∃ b o, A = some ⟨b, o, none⟩ ∧ b < lo ∧ w.cell? ⟨b, o + i, none⟩ = some (.slice x.B x.x.length x.c))
    (hp : ∀ i, i < q.length → ∃ b o, A' = some ⟨b, o, none⟩ ∧ b < lo ∧ w.cell? ⟨b, o + i, none⟩ = some (.int .i64 ((p.getD i 0 : Nat) : Int))) :
    SeqOwn Fence.wide n Try.prog 70 #[.pointer (some ⟨g1, 0, none⟩), .pointer (some ⟨g2, 0, none⟩), .pointer (some ⟨g3, 0, none⟩)] encM (fun _ _ => False) (fun _ _ _ => True) (KpL lo) (NxM (fun k => decide (p.getD k 0 = j)) q) (fun xs => xs = selM (fun k => decide (p.getD k 0 = j)) q q.length) (fun _ => True) w := by
  intro l J Jx W hW hJ hJx hY h0
  have hcl := fun (a : Addr) v (hv : w.cell? a = some v) => (hW.cell (p := a) (World.block_lt_of_cell? w _ hv)).trans hv
  have e1 := hcl _ _ hg1
  have e2 := hcl _ _ hg2
  have e3 := hcl _ _ hg3
  have HQ := Lib.hid (fun i x hx => by obtain ⟨b, o, k1, k2, k3⟩ := hq i x hx; exact (⟨b, o, k1, k2, hcl _ _ k3⟩ : ∃ b o, A = some ⟨b, o, none⟩ ∧ b < lo ∧ W.cell? ⟨b, o + i, none⟩ = some (.slice x.B x.x.length x.c)))
  have HP := Lib.hid (fun i hi => by obtain ⟨b, o, k1, k2, k3⟩ := hp i hi; exact (⟨b, o, k1, k2, hcl _ _ k3⟩ : ∃ b o, A' = some ⟨b, o, none⟩ ∧ b < lo ∧ W.cell? ⟨b, o + i, none⟩ = some (.int .i64 ((p.getD i 0 : Nat) : Int))))
  obtain ⟨m, hm⟩ : ∃ m, m = q.length := ⟨_, rfl⟩
  have HJ := Lib.hid hJ
  have HY := Lib.hid hY
  have H0 := Lib.hid h0
  have HM := Lib.hid hm
  rw [← hm] at e1 e2 hmx HP
  obtain ⟨f, hf⟩ : ∃ f, f = fun k => decide (p.getD k 0 = j) := ⟨_, rfl⟩
  have HF := Lib.hid (fun k => congrFun hf k)
  rw [← hf] at HY ⊢
  clear hg1 hg2 hg3 hq hp hW hJ hJx hY h0 hcl hm hl hf
  refine callsIn_of_wp Try.func70 rfl trivial ?_ rfl
  simp only [Try.ntmps70, List.size_toArray, List.length_cons, List.length_nil, Nat.reduceAdd, Nat.reduceSub, Array.replicate_succ, Array.replicate_zero, List.push_toArray, List.append_toArray, List.nil_append, List.cons_append]
  gi_wp2
  gi_loopw [9] (fun i wr => ∃ k : Nat, i = .int .i64 k ∧ k ≤ m ∧ Hid (J (selM f q k) wr ∧ KpL lo W.heap.size W wr)) (fun i _ => m - (match i with | .int _ k => k.toNat | _ => 0))
  case atStart => exact ⟨0, rfl, Nat.zero_le _, Lib.hid ⟨H0.out, KpL.refl _ _ _⟩⟩
  case round =>
    obtain ⟨k, rfl, hk, HH⟩ := hrel
    by_cases hkm : k < m
    · have hkk : (k : Int) < m := by omega
      have k0 : (0 : Int) ≤ (k : Int) := by omega
      have hx := List.getElem?_eq_getElem (show k < q.length by rw [← HM.out]; exact hkm)
      generalize q[k]'(by rw [← HM.out]; exact hkm) = x at hx
      obtain ⟨b1, o1, rfl, hb1, d1⟩ := HQ.out k x hx
      obtain ⟨b2, o2, rfl, hb2, d2⟩ := HP.out k hkm
      have f1 := HH.out.2.cell e1 h1
      have f2 := HH.out.2.cell e2 h2
      have f3 := HH.out.2.cell e3 h3
      have f4 := HH.out.2.cell d1 hb1
      have f5 := HH.out.2.cell d2 hb2
      have hff := HF.out k
      obtain ⟨xl, hxl⟩ : ∃ xl, xl = x.x.length := ⟨_, rfl⟩
      have HXL := Lib.hid hxl
      rw [← hxl] at f4
      by_cases hpj : p.getD k 0 = j
      · rw [hpj] at f5
        have hft : f k = true := by rw [hff, hpj]; simp
        have hS := selM_yes hx hft
        obtain ⟨fn, tmps, assign, body, hy, hR⟩ := HY.out (selM f q k) x wr.drew (HJ.out _ wr _ HH.out.1 (Turn.refl _ _).drew) HH.out.2.1 trivial ⟨k, by rw [← HM.out]; exact hkm, hx, hft, rfl⟩
        rw [← hS] at hR
        have HR := Lib.hid (hR.mono (R' := RoundM J Jx lo W.heap.size (selM f q (k + 1)) wr.drew) (fun e W' h => by
          rcases h with ⟨rfl, h1, h2⟩ | ⟨rfl, h1⟩
          · exact ⟨true, rfl, fun _ => ⟨h1, h2⟩, fun h => by cases h⟩
          · exact ⟨false, rfl, fun h => (by cases h), fun _ => h1⟩))
        unfold encM at hy
        rw [← hxl] at hy
        have hmx2 : Try.prog.follows .mixedOrders = true := by kernel_rfl
        clear hR hx hS hft hff hpj d1 d2 hxl
        gi_wp2
        gi_region_with_o (refine HR.out.mono ?_; rintro e W3 ⟨bo, rfl, hb⟩; have HB := Lib.hid hb; clear hb)
        all_goals
          cases bo
          · gi_wp2
            refine bodyPost_ret (results_none rfl _ _ _) rfl ?_
            exact ⟨⟨_, rfl⟩, .inr ⟨_, HB.out.2 (by simp)⟩⟩
          · gi_wp2
            go_roundw
            case rel => exact ⟨k + 1, by simp, by omega, Lib.hid ⟨(HB.out.1 rfl).1, HH.out.2.drew.trans (HB.out.1 rfl).2⟩⟩
            case measure => simp; omega
      · have hft : f k = false := by rw [hff]; simpa using hpj
        have HS := Lib.hid (selM_no hx hft)
        generalize p.getD k 0 = pk at *
        have hne : (pk : Int) ≠ (j : Int) := by omega
        generalize (pk : Int) = ia at *
        generalize (j : Int) = ib at *
        have t1 : (ia == ib) = false := by simpa using hne
        have t2 : decide (ia = ib) = false := by simpa using hne
        have HN := Lib.hid (fun (z : Nat) => show J (selM f q (k + 1)) (wr.drewN z) ∧ KpL lo W.heap.size W (wr.drewN z) from by rw [HS.out]; exact ⟨HJ.out _ wr _ HH.out.1 ⟨rfl, rfl, rfl, Nat.le_refl _, fun _ _ _ => rfl⟩, HH.out.2.1, HH.out.2.2⟩)
        have hmx2 : Try.prog.follows .mixedOrders = true := by kernel_rfl
        clear hx hft hff d1 d2 hxl hpj
        gi_wp2
        refine wpIn_region_quiet_lit rfl (by assumption) (by kernel_rfl) ?_
        repeat (gi_big_quiet_step (fail))
        refine BigFrame.wpQuietIn_skip (fun _ _ _ _ => trivial) (by rfl) ?_
        simp only [Act.put, List.size_toArray, List.length_cons, List.length_nil, List.setIfInBounds_toArray, List.set_cons_succ, List.set_cons_zero]
        repeat (gi_big_quiet_step (fail))
        refine wpQuietIn_nil ?_
        intro _ hw'
        obtain ⟨nq, hw''⟩ := hw'
        subst hw''
        gi_wp2
        go_roundw
        case rel => exact ⟨k + 1, by simp, by omega, Lib.hid (HN.out nq)⟩
        case measure => simp; omega
    · obtain rfl : k = m := by omega
      have HE := Lib.hid (show J (selM f q q.length) wr by rw [← HM.out]; exact HH.out.1)
      gi_wp2
      go_end0
      exact ⟨⟨_, rfl⟩, .inl ⟨_, rfl, HE.out⟩⟩
end Go.Proofs.Ytgakfffkadaeeaa
