/-
  The document's Found, ahead of the walk: a hit is laid among the first ones; whose hit is nearer.
-/
import Derived.Test.YtdbcecmlakgknaaMFla
import Derived.Test.YtdbcecmlakgknaaMBase
import Derived.Test.YtdbcecmlakgknaaAreCut
namespace Go.Proofs.Ytdbcecmlakgknaa
open Go.RowKit Go.Shelf
open TopL (HitM z2 flat flat_length flat_append flat_cons flat_get flat_cell firstM Hits isKM)
set_option linter.unusedVariables false
set_option linter.unusedSimpArgs false
set_option maxRecDepth 100000

theorem flat_take (q : List HitM) : ∀ n, flat (q.take n) = (flat q).take (n * 2) := by
  induction q with
  | nil => intro n; simp [flat]
  | cons x q ih =>
    intro n
    cases n with
    | zero => simp [flat]
    | succ n => rw [List.take_succ_cons, flat_cons, flat_cons, ih, show (n + 1) * 2 = n * 2 + 1 + 1 by omega]; rfl
theorem flat_drop (q : List HitM) : ∀ n, flat (q.drop n) = (flat q).drop (n * 2) := by
  induction q with
  | nil => intro n; simp [flat]
  | cons x q ih =>
    intro n
    cases n with
    | zero => simp
    | succ n => rw [List.drop_succ_cons, flat_cons, ih, show (n + 1) * 2 = n * 2 + 1 + 1 by omega]; rfl
theorem Read.hits {w : World} {A : Option Addr} {c : Nat} {l : List HitM} (h : Hits w A c l) : Read w A l.length 2 (flat l) := by
  refine ⟨flat_length l, flat_cell l, fun e => ?_, fun b e j u hj => ?_⟩
  · rcases Nat.eq_zero_or_pos l.length with h0 | h0
    · exact h0
    · obtain ⟨b, o, e', _⟩ := h.rd h0; rw [e] at e'; cases e'
  · have hl : j < l.length * 2 := by have := (List.getElem?_eq_some_iff.1 hj).1; rw [flat_length] at this; exact this
    obtain ⟨b', o, e', _, hc⟩ := h.rd (by omega)
    rw [e] at e'
    injection e' with e'
    subst e'
    have hk : j / 2 < l.length := by omega
    obtain ⟨c0, c1⟩ := hc (j / 2) hk
    obtain ⟨f0, f1⟩ := flat_get l (j / 2) hk
    rw [Addr.add_lit, ← hj]
    have h2 : j % 2 = 0 ∨ j % 2 = 1 := by omega
    rcases h2 with h2 | h2
    · rw [show o + j = o + j / 2 * 2 by omega, c0, ← f0]; exact congrArg (fun k => (flat l)[k]?) (by omega)
    · rw [show o + j = o + j / 2 * 2 + 1 by omega, c1, ← f1]; exact congrArg (fun k => (flat l)[k]?) (by omega)

/-- Laid at p: ahead of all behind it, not ahead of the one before. -/
theorem ins_at {h : HitM} : ∀ (l : List HitM) (p : Nat), TopL.Srt l → p ≤ l.length → (∀ j, p ≤ j → j < l.length → TopL.ahead h (l.getD j z2) = true) → (0 < p → TopL.ahead h (l.getD (p - 1) z2) = false) → l.take p ++ h :: l.drop p = TopL.ins h l := by
  intro l
  induction l with
  | nil => intro p _ hp _ _; simp at hp; subst hp; rfl
  | cons x l ih =>
    intro p hs hp h1 h2
    cases p with
    | zero =>
      have := h1 0 (Nat.le_refl _) (by simp)
      simp only [List.getD_cons_zero] at this
      simp [TopL.ins, this]
    | succ p =>
      have hx : TopL.ahead h x = false := by
        have hl := h2 (by omega)
        rw [Nat.add_sub_cancel] at hl
        cases p with
        | zero => simpa using hl
        | succ p =>
          rw [List.getD_cons_succ] at hl
          have hp' : p < l.length := by simp at hp; omega
          have hm : l.getD p z2 ∈ l := by rw [List.getD_eq_getElem?_getD, List.getElem?_eq_getElem hp']; exact List.getElem_mem _
          exact TopL.ahead_trans hl ((List.pairwise_cons.1 hs).1 _ hm)
      have hr := ih p (List.pairwise_cons.1 hs).2 (by simpa using hp) (fun j hj hl => by
        have := h1 (j + 1) (by omega) (by simpa using hl)
        simpa using this) (fun h0 => by
        have := h2 (by omega)
        obtain ⟨r, rfl⟩ : ∃ r, p = r + 1 := ⟨p - 1, by omega⟩
        simpa using this)
      rw [List.take_succ_cons, List.drop_succ_cons, List.cons_append, hr]
      simp [TopL.ins, hx]

set_option maxHeartbeats 400000 in
theorem rBefore_any (i d i' d' : Int) (w : World) : Calls Try.prog 68 #[.agg #[.int .u64 i, .int .u64 d], .agg #[.int .u64 i', .int .u64 d']] w fun e w' => e = .returned (.bool (TopL.ahead (i, d) (i', d'))) ∧ Below w.heap.size w w' := by
  have hb : Below w.heap.size w ((w.alloc (.cells #[.int .u64 i, .int .u64 d] 76)).alloc (.cells #[.int .u64 i', .int .u64 d'] 76)) := ((Below.refl _ w).alloc (Nat.le_refl _) _).alloc (by simp) _
  have HB := Lib.hid hb
  clear hb
  by_cases h1 : d < d'
  · have HF := Lib.hid (show TopL.ahead (i, d) (i', d') = true by unfold TopL.ahead; simp [h1])
    go_enter Try.func68, Try.ntmps68
    go_wp2
    go_ret
    rw [HF.out]
    exact ⟨rfl, HB.out⟩
  · by_cases h2 : d = d'
    · subst h2
      by_cases h3 : i < i'
      · have HF := Lib.hid (show TopL.ahead (i, d) (i', d) = true by unfold TopL.ahead; simp [h3])
        have t1 : (d == d) = true := by simp
        go_enter Try.func68, Try.ntmps68
        go_wp2
        go_ret
        rw [HF.out]
        exact ⟨rfl, HB.out⟩
      · have HF := Lib.hid (show TopL.ahead (i, d) (i', d) = false by unfold TopL.ahead; simp [h3])
        have t1 : (d == d) = true := by simp
        go_enter Try.func68, Try.ntmps68
        go_wp2
        go_ret
        rw [HF.out]
        exact ⟨rfl, HB.out⟩
    · have HF := Lib.hid (show TopL.ahead (i, d) (i', d') = false by unfold TopL.ahead; simp [h1, h2])
      have t1 : (d == d') = false := by simpa using h2
      go_enter Try.func68, Try.ntmps68
      go_wp2
      go_ret
      rw [HF.out]
      exact ⟨rfl, HB.out⟩

end Go.Proofs.Ytdbcecmlakgknaa
