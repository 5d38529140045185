/-
  empty: the hits in order.
-/
import Derived.Test.YthobkakmjgmpcaaTopTake
import Derived.OwnWalk
namespace Go.Proofs.Ythobkakmjgmpcaa
open Go.RowKit Go.Shelf
set_option linter.unusedVariables false
set_option linter.unusedSimpArgs false
set_option maxRecDepth 100000

theorem flat_zero (n : Nat) : flat (List.replicate n z2) = List.replicate (n * 2) (.int .u64 0) := by
  induction n with
  | zero => rfl
  | succ n ih =>
    rw [List.replicate_succ, flat_cons, ih, show (n + 1) * 2 = n * 2 + 1 + 1 by omega, List.replicate_succ, List.replicate_succ]
    rfl
theorem made_flat (n : Nat) : (madeCells (Value.agg #[.int .u64 0, .int .u64 0]).cells (n * 2)).toList = flat (List.replicate n z2) := by
  rw [flat_zero]
  apply List.ext_getElem?
  intro j
  have hc : (Value.agg #[.int .u64 0, .int .u64 0]).cells = #[.int .u64 0, .int .u64 0] := rfl
  rw [hc]
  by_cases hj : j < n * 2
  · have h2 : j % 2 = 0 ∨ j % 2 = 1 := by omega
    rcases h2 with h2 | h2 <;> simp [madeCells, hj, h2]
  · simp [madeCells, hj]

/-- A row of the call's own stays, where its block does. -/
theorem row_turn {S : Nat → Prop} {w w' : World} {base : Nat} {e : TypeId} {size : Nat} {v : Value} {n : Nat} {xs : List Value} (h : w.ownsRow base e size v n xs) (ht : Turn S w w') (hS : ∀ i, v.ownBlock = some i → ¬ S i) : w'.ownsRow base e size v n xs := by
  rcases h.2 with ⟨e', h0⟩ | ⟨g, cap, cur, e', hg, hh, hnc, hcm, hsz, hcs⟩
  · exact ⟨h.1, .inl ⟨e', h0⟩⟩
  · refine ⟨h.1, .inr ⟨g, cap, cur, e', hg, (ht.block _ (lt_of_block hh) (hS g ?_)).trans hh, hnc, hcm, hsz, hcs⟩⟩
    rw [e']; rfl

def EmR (w : World) (K : Nat) (A : Option Addr) (c : Nat) (l : List HitM) (k : Int) (n q : Nat) (W : World) : Prop :=
  ∃ p s : List HitM, p.length + q = n ∧ s.length = q ∧ Heap p.length p ∧ Keep W K A c p k ∧ W.ownsRow w.heap.size 32 2 (.slice (some ⟨w.heap.size, 0, none⟩) n n) n (flat (List.replicate p.length z2 ++ s)) ∧ (p ++ s).Perm l ∧ Srt s ∧ (∀ x ∈ p, ∀ y ∈ s, ahead y x = false) ∧ Turn (own K A) w W

theorem em_step {p' p s l : List HitM} {r : HitM} (hr : p.getD 0 z2 = r) (hp : (r :: p').Perm p) (hh : Heap p.length p) (h1 : (p ++ s).Perm l) (h2 : Srt s) (h3 : ∀ x ∈ p, ∀ y ∈ s, ahead y x = false) :
    p'.length + 1 = p.length ∧ (p' ++ r :: s).Perm l ∧ Srt (r :: s) ∧ (∀ x ∈ p', ∀ y ∈ r :: s, ahead y x = false) := by
  have hrp : r ∈ p := hp.mem_iff.1 (by simp)
  refine ⟨by simpa using hp.length_eq, ?_, ?_, ?_⟩
  · refine List.Perm.trans ?_ h1
    have : (p' ++ r :: s).Perm ((r :: p') ++ s) := by
      exact (List.perm_middle (a := r) (l₁ := p') (l₂ := s))
    exact this.trans (hp.append_right s)
  · unfold Srt
    rw [List.pairwise_cons]
    exact ⟨fun y hy => h3 r hrp y hy, h2⟩
  · intro x hx y hy
    have hxp : x ∈ p := hp.mem_iff.1 (by simp [hx])
    rcases List.mem_cons.1 hy with rfl | hy
    · rw [← hr]; exact hh.most x hxp
    · exact h3 x hxp y hy
theorem rep_set (m : Nat) (s : List HitM) (x : HitM) : (List.replicate (m + 1) z2 ++ s).set m x = List.replicate m z2 ++ x :: s := by
  rw [List.replicate_succ', List.append_assoc, List.set_append_right _ _ (by simp)]
  simp

set_option maxHeartbeats 2000000 in
theorem empty_any (K : Nat) (A : Option Addr) (c : Nat) (l : List HitM) (k : Int) (w : World) (hk : Keep w K A c l k) (hp : Heap l.length l) (hbig : l.length < 1099511627770) :
    Calls Try.prog 38 #[.pointer (some ⟨K, 0, none⟩)] w fun e w' => ∃ B cb, e = .returned (.slice B l.length cb) ∧ w'.ownsRow w.heap.size 32 2 (.slice B l.length cb) l.length (flat (sortM l)) ∧ Turn (own K A) w w' := by
  have hc := hk.cell
  obtain ⟨i0, hi, hz0, hz1, hz2⟩ := info_hit
  have HS := Lib.hid (fun (W : World) (hg : w.grownBy W none) (hr : W.ownsRow w.heap.size 32 2 (.slice (some ⟨w.heap.size, 0, none⟩) l.length l.length) l.length (madeCells (Value.agg #[.int .u64 0, .int .u64 0]).cells (l.length * 2)).toList) =>
    show EmR w K A c l k l.length 0 W from ⟨l, [], rfl, rfl, hp, hk.turn (S := fun _ => False) (Turn.of_grown hg (by simp)) (by simp) (by simp), by rw [List.append_nil, ← made_flat]; exact hr, by simp, List.Pairwise.nil, by simp, Turn.of_grown hg (by simp)⟩)
  have HLT := Lib.hid hk.lt
  have HFAR := Lib.hid (fun i => hk.far (i := i))
  generalize hn : l.length = n at *
  have HN := Lib.hid hn
  clear hk hp hn
  go_enter Try.func38, Try.ntmps38
  go_wp2_with (first
    | (go_at_call 34; refine (len_any _ _ _ _).mono ?_; rintro e w2 ⟨rfl, rfl⟩)
    | (refine wpList_make_full _ rfl _ _ _ rfl w.heap.size 32 i0 _ 2 Try.underlying22 hi hz0 hz1 .i64 .i64 n n n rfl rfl rfl rfl (by rw [hz2]; omega) (by unfold maxLen; omega) (Nat.le_refl _) ?_; intro w1 hr1 hg1; have H1 := Lib.hid (HS.out w1 hg1 hr1); clear hr1 hg1))
  go_loopw [4, 13] (fun _ i wr => ∃ q : Nat, q ≤ n ∧ i = .int .i64 q ∧ Hid (EmR w K A c l k n q wr)) (fun _ i _ => n - (intOf i).toNat)
  case atStart => exact ⟨0, Nat.zero_le _, rfl, H1⟩
  case round =>
    obtain ⟨q, hq, rfl, HE⟩ := hrel
    obtain ⟨p, s, e1, e2, hh, hk, hr, hpm, hs, hps, ht⟩ := HE.out
    by_cases hqn : q < n
    · obtain ⟨r, hrp⟩ : ∃ r, p.length = r + 1 := ⟨p.length - 1, by omega⟩
      have HF := Lib.hid (furthest_any A c p wr hk.hits (by omega))
      have hc := hk.cell
      rw [hrp] at hc HF hr
      have hix : (n : Int) - 1 - (q : Int) = (r : Int) := by omega
      have HPOP := Lib.hid (fun (W : World) (hW : Keep W K A c p k) => hpop_any K A c p k W hW (by omega) hh (by omega))
      have HROW := Lib.hid (And.intro hr (And.intro hk ht))
      have HST := Lib.hid (fun (p' : List HitM) (hp' : (p.getD 0 z2 :: p').Perm p) => em_step (p' := p') rfl hp' hh hpm hs hps)
      have HRP := Lib.hid hrp
      have HE2 := Lib.hid e2
      have r0 : (0 : Int) ≤ r := by omega
      have rn : (r : Int) < n := by omega
      clear hh hk hr hpm hs hps ht hrp
      go_wp2_with fail
      refine HF.out.mono ?_
      rintro e w2 ⟨rfl, hb2⟩
      obtain ⟨hr, hk, ht⟩ := HROW.out
      have hlw : w.heap.size ≤ wr.heap.size := ht.size
      have hr2 := row_turn hr (S := fun _ => False) (Turn.of_below hb2) (by simp)
      have hk2 := hk.below hb2
      have ht2 := own_below ht hb2
      have hln : (List.replicate (r + 1) z2 ++ s).length = n := by simp; omega
      have hr3 : w2.ownsRow w.heap.size 32 2 (.slice (some ⟨w.heap.size, 0, none⟩) (List.replicate (r + 1) z2 ++ s).length n) (List.replicate (r + 1) z2 ++ s).length (flat (List.replicate (r + 1) z2 ++ s)) := by rw [hln]; exact hr2
      have g := flat_get (List.replicate (r + 1) z2 ++ s) r (by omega)
      have g0 := (hr3.cellAt (r * 2) (by omega)).trans g.1
      have g1 := (hr3.cellAt (r * 2 + 1) (by omega)).trans g.2
      have f0 := hr3.frozenAt (r * 2)
      have f1 := hr3.frozenAt (r * 2 + 1)
      have hset := row_set hr3 r (p.getD 0 z2)
      rw [rep_set] at hset
      have hln2 : (List.replicate r z2 ++ p.getD 0 z2 :: s).length = n := by simp; omega
      rw [hln2] at hset
      have hk3 := hk2.turn (S := fun i => i = w.heap.size) (Turn.of_grown hset.2 (by rintro i hi; injection hi with hi; exact .inl hi.symm)) (by have := HLT.out; omega) (fun i hi => by have := HFAR.out i hi; omega)
      have ht3 : Turn (own K A) w _ := ht2.trans (S' := fun i => i = w.heap.size) (Turn.of_grown hset.2 (by rintro i hi; injection hi with hi; exact .inl hi.symm)) (fun i hi => .inr (by omega))
      have H3 := Lib.hid (And.intro hset.1 ht3)
      have HPP := Lib.hid (HPOP.out _ hk3)
      generalize (p.getD 0 z2).1 = x1 at *
      generalize (p.getD 0 z2).2 = x2 at *
      generalize ((List.replicate (r + 1) z2 ++ s).getD r z2).1 = y1 at *
      generalize ((List.replicate (r + 1) z2 ++ s).getD r z2).2 = y2 at *
      clear hr hk ht hr2 hk2 ht2 hr3 g hset hk3 ht3 hb2 hc
      go_wp2_with fail
      refine HPP.out.mono ?_
      rintro e w4 ⟨⟨v, rfl⟩, p', hp', hh', hk4, ht4⟩
      obtain ⟨s1, s2, s3, s4⟩ := HST.out p' hp'
      have H4 := Lib.hid (show EmR w K A c l k n (q + 1) w4 from ⟨p', p.getD 0 z2 :: s, by have := HRP.out; omega, by have := HE2.out; simp; omega, hh', hk4, by
        rw [show p'.length = r by have := HRP.out; omega]
        exact row_turn H3.out.1 ht4 (fun i hi => by
          have hi' : w.heap.size = i := by simpa [Value.ownBlock] using hi
          rintro (h | h)
          · have := HLT.out; omega
          · have := HFAR.out i h; omega), s2, s3, s4, H3.out.2.trans ht4 (fun i hi => .inl hi)⟩)
      clear hp' hh' hk4 ht4 s1 s2 s3 s4
      go_wp2
      go_roundw
      case rel => exact ⟨q + 1, by omega, by go_num, H4⟩
      case measure => simp [intOf]; omega
    · obtain rfl : q = n := by omega
      have hp0 : p = [] := List.eq_nil_of_length_eq_zero (by omega)
      subst hp0
      have HF := Lib.hid (show wr.ownsRow w.heap.size 32 2 (.slice (some ⟨w.heap.size, 0, none⟩) q q) q (flat (sortM l)) ∧ Turn (own K A) w wr from ⟨by
        have : s = sortM l := by rw [← sort_self hs]; exact sort_of_perm hpm
        rw [← this]; exact hr, ht⟩)
      clear hh hk hr hpm hs hps ht
      go_wp2
      go_ret
      exact ⟨_, _, rfl, HF.out⟩

end Go.Proofs.Ythobkakmjgmpcaa
