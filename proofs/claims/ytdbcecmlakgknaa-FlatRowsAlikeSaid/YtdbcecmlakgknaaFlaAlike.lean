/-
  Nothing hangs on slots: rows, and cells packed, find the same; a mask's bit as the laws ask it; two rows that grow side by side.
-/
import Derived.Test.YtdbcecmlakgknaaFlaPart
import Derived.Test.YtdbcecmlakgknaaMFla
import Derived.Test.YtdbcecmlakgknaaAreRev
import Derived.Test.YtdbcecmlakgknaaMAre
import Derived.Test.YtdbcecmlakgknaaAreRowsM
namespace Go.Proofs.Ytdbcecmlakgknaa
open Go.RowKit Go.Shelf
open MskL (Mk Fine)
open TopL (HitM firstM isKM)
set_option linter.unusedVariables false
set_option linter.unusedSimpArgs false
set_option maxRecDepth 100000

theorem bit_val {a k : Nat} (ha : a < 18446744073709551616) : bits .and .u64 ((a : Int) / 2 ^ k) 1 = if a.testBit k then 1 else 0 := by
  have h := u64_and_nat (a / 2 ^ k) 1 (Nat.lt_of_le_of_lt (Nat.div_le_self _ _) ha) (by decide)
  have e := bit_and11 a k
  cases hb : a.testBit k with
  | true =>
    rw [hb] at e
    have e1 : (a / 2 ^ k &&& 1) = 1 := by rw [e]
    rw [e1] at h
    simpa using h
  | false =>
    rw [hb] at e
    have e1 : (a / 2 ^ k &&& 1) = 0 := by
      have hne : ¬ (a / 2 ^ k &&& 1) = 1 := by rw [e]; simp
      have hlt : (a / 2 ^ k &&& 1) ≤ 1 := Nat.and_le_right
      omega
    rw [e1] at h
    simpa using h

/-! ### all slots of packed cells -/
def cr (e : Ce) : Rv := (e.i, e.x)
def fullM : Mk := (18446744073709551615, 18446744073709551615)
theorem full_fine : Fine fullM := ⟨by decide, by decide⟩
theorem inB_full {k : Nat} (h : k < 96) : MskL.hasB fullM (k : Int) = true := by
  rw [inB_has h]
  unfold inB fullM
  split
  · exact MskL.full_bit k (by omega)
  · exact MskL.full_bit (k - 64) (by omega)
theorem inK_pad {R : List Ce} (hs : R.all soundE = true) (hl : R.length ≤ 96) : ∀ k, k ≤ 96 → inK (fun (k : Nat) => MskL.hasB fullM (k : Int)) (padL R) k = (R.take k).map cr := by
  intro k
  induction k with
  | zero => intro _; rfl
  | succ k ih =>
    intro hk
    show inK _ (padL R) k ++ _ = _
    rw [ih (by omega)]
    simp only [inB_full (show k < 96 by omega), Bool.and_true]
    by_cases hkl : k < R.length
    · simp only [pad_at hs hkl]
      have hg := at_ce hkl
      have hu : (ceAt R k).u = true := sound_used (List.all_eq_true.1 hs _ (List.mem_of_getElem? hg))
      rw [List.take_add_one, hg, hu]
      simp [cr]
    · simp only [pad_off hs (show R.length ≤ k by omega)]
      rw [List.take_of_length_le (by omega), List.take_of_length_le (by omega)]
      simp [zc]
theorem rvs_cr (S : List (Nat × Pa)) : rvs (S.map toPr) = (ces (S.map (fun x => x.2))).map cr := by
  simp [rvs, ces, toPr, cr, List.map_map]
theorem near_perm {l l' : List Rv} (h : l.Perm l') (v : List Int) (k : Nat) : nearE l v = nearE l' v ∧ firstM k (hitL l v) = firstM k (hitL l' v) := by
  refine ⟨by unfold nearE; rw [dim_perm h], TopL.first_perm k ?_⟩
  unfold hitL
  exact h.map _
theorem alike {kq : Int} {l : List Ce} {f : Nat → Bool} {v : List Int} {R : List Ce} (he : scanE kq l f v = 0) (hR : (R.map cr).Perm (inK f l l.length)) (hs : R.all soundE = true) :
    rowsE kq (inK f l l.length) v = 0 ∧ rowsL kq (inK f l l.length) v = scanL kq l f v ∧ packE R = 0 ∧ R.length ≤ 96 ∧ packL R = padL R ∧
      scanE kq (padL R) (fun (k : Nat) => MskL.hasB fullM (k : Int)) v = 0 ∧ scanL kq (padL R) (fun (k : Nat) => MskL.hasB fullM (k : Int)) v = scanL kq l f v := by
  have hc : chkQ kq v = 0 := by
    unfold scanE at he
    by_cases h1 : chkQ kq v = 0
    · exact h1
    · rw [if_neg h1] at he; exact absurd he h1
  have ha : chkA l = 0 := by
    unfold scanE at he
    rw [if_pos hc] at he
    by_cases h1 : chkA l = 0
    · exact h1
    · rw [if_neg h1] at he; exact absurd he h1
  have har := (chkA_iff _).1 ha
  have hl96 := arB_len har
  have hn : nearE (inK f l l.length) v = 0 := by unfold scanE at he; rwa [if_pos hc, if_pos ha] at he
  have hri := inK_right (f := f) har l.length (Nat.le_refl _)
  have hle := inK_len f l l.length
  have href : refR (inK f l l.length) = 0 := by unfold refR; rw [if_pos hri, if_neg (by omega)]
  have hl : R.length ≤ 96 := by have := hR.length_eq; rw [List.length_map] at this; omega
  have hpe : packE R = 0 := by unfold packE; rw [if_neg (by omega), if_pos hs]
  have hre : rowsE kq (inK f l l.length) v = 0 := by unfold rowsE; rw [if_pos hc, if_pos href]; exact hn
  have hpr := pad_right hl hs
  have hpl := pad_length hl
  have hik : inK (fun (k : Nat) => MskL.hasB fullM (k : Int)) (padL R) (padL R).length = R.map cr := by rw [hpl, inK_pad hs hl 96 (Nat.le_refl _), List.take_of_length_le hl]
  obtain ⟨p1, p2⟩ := near_perm hR v kq.toNat
  have hse : scanE kq (padL R) (fun (k : Nat) => MskL.hasB fullM (k : Int)) v = 0 := by unfold scanE; rw [if_pos hc, if_pos (chkA_ok hpr), hik, p1]; exact hn
  refine ⟨hre, ?_, hpe, hl, by unfold packL; rw [if_pos hpe], hse, ?_⟩
  · unfold rowsL scanL; rw [if_pos hre, if_pos he]
  · unfold scanL; rw [if_pos hse, if_pos he, hik, p2]
theorem sel_sound {f : Nat → Bool} {q : List Pa} (hr : arB (ces q) = true) : ∀ k, k ≤ q.length → ∀ x ∈ selI f q k, soundE x.2.e = true := by
  intro k
  induction k with
  | zero => intro _ x hx; simp [selI] at hx
  | succ k ih =>
    intro hk x hx
    change x ∈ selI f q k ++ _ at hx
    rcases List.mem_append.1 hx with hx | hx
    · exact ih (by omega) x hx
    · obtain ⟨p, hp⟩ : ∃ p, q[k]? = some p := ⟨_, List.getElem?_eq_getElem (by omega)⟩
      rw [hp] at hx
      dsimp only at hx
      split at hx
      · rename_i h
        obtain rfl : x = (k, p) := by simpa using hx
        simp at h
        exact may_used (arB_may hr _ (List.mem_of_getElem? (ces_at hp))) h.1
      · simp at hx

/-! ### two rows that grow side by side -/
theorem own_apart {w : World} {base base' : Nat} {e e' : TypeId} {s s' : Nat} {A A' : Option Addr} {c c' n n' : Nat} {xs ys : List Value} (hne : e ≠ e') (h : w.ownsRow base e s (.slice A n c) n xs) (h' : w.ownsRow base' e' s' (.slice A' n' c') n' ys) : ∀ i, blk A = some i → ¬ blk A' = some i := by
  intro i h1 h2
  rcases h.2 with ⟨e1, _⟩ | ⟨g, cap, cur, e1, _, hh, _⟩
  · injection e1 with e1; rw [e1] at h1; cases h1
  · rcases h'.2 with ⟨e2, _⟩ | ⟨g', cap', cur', e2, _, hh', _⟩
    · injection e2 with e2; rw [e2] at h2; cases h2
    · injection e1 with e1
      injection e2 with e2
      rw [e1] at h1
      rw [e2] at h2
      have a1 : g = i := by simpa [blk] using h1
      have a2 : g' = i := by simpa [blk] using h2
      subst a1
      subst a2
      rw [hh] at hh'
      injection hh' with hh'
      injection hh' with _ ht _
      exact hne ht
theorem al_one {w3 wr w5 : World} {A1 A2 : Option Addr} {c1 c2 : Nat} {R : List Pr} {L : List Pa} {cs rs : Array Value} (h1 : OwnR w3.heap.size wr A1 c1 R) (h2 : RowA w3.heap.size wr A2 c2 L) (hb : Below w3.heap.size w3 wr)
    (hg : ((wr.alloc (.cells cs 45)).alloc (.cells rs 64)).grownBy w5 (blk A1)) :
    w5.heap[wr.heap.size]? = some (.cells cs 45 (0, 0)) ∧ RowA w3.heap.size w5 A2 c2 L ∧ Below w3.heap.size w3 w5 := by
  have hA : ∀ i, blk A1 = some i → w3.heap.size ≤ i ∧ i < wr.heap.size := h1.low
  have hb2 : Below wr.heap.size wr ((wr.alloc (.cells cs 45)).alloc (.cells rs 64)) := ((Below.refl _ wr).alloc (Nat.le_refl _) _).alloc (by simp) _
  have t : Turn (fun i => blk A1 = some i) ((wr.alloc (.cells cs 45)).alloc (.cells rs 64)) w5 := Turn.of_grown hg (fun i hi => .inl hi)
  have tt : Turn (fun i => blk A1 = some i) wr w5 := (Turn.of_below (S := fun i => blk A1 = some i) hb2).trans t (fun i hi => .inl hi)
  refine ⟨?_, ?_, ?_⟩
  · refine (t.block _ (by simp; omega) (fun e => by have := hA _ e; omega)).trans ?_
    exact (Below.heap_alloc _ _ _ (by simp)).trans (heap_alloc_new wr _)
  · exact RowA.turn h2 tt (fun i hi e => own_apart (by decide) h1 h2 i e hi)
  · exact hb.trans (tt.below hb.size (fun i hi => (hA i hi).1))
theorem al_two {w3 w5 w7 : World} {A2 A5 : Option Addr} {c2 c5 n : Nat} {L : List Pa} {cs : Array Value} {xs : List Value} (h5 : w5.ownsRow w3.heap.size 64 2 (.slice A5 n c5) n xs) (h2 : RowA w3.heap.size w5 A2 c2 L) (hb : Below w3.heap.size w3 w5)
    (hg : (w5.alloc (.cells cs 45)).grownBy w7 (blk A2)) :
    w7.ownsRow w3.heap.size 64 2 (.slice A5 n c5) n xs ∧ Below w3.heap.size w3 w7 := by
  have hA : ∀ i, blk A2 = some i → w3.heap.size ≤ i ∧ i < w5.heap.size := RowA.lo h2
  have t : Turn (fun i => blk A2 = some i) (w5.alloc (.cells cs 45)) w7 := Turn.of_grown hg (fun i hi => .inl hi)
  have tt : Turn (fun i => blk A2 = some i) w5 w7 := (Turn.of_below (S := fun i => blk A2 = some i) ((Below.refl _ w5).alloc (Nat.le_refl _) _)).trans t (fun i hi => .inl hi)
  refine ⟨row_turn h5 tt (fun i hi e => ?_), hb.trans (tt.below hb.size (fun i hi => (hA i hi).1))⟩
  rw [own_blk] at hi
  exact own_apart (by decide) h5 h2 i hi e

end Go.Proofs.Ytdbcecmlakgknaa
