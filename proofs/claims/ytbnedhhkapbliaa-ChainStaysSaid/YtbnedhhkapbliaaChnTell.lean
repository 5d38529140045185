/-
  dimension, lastTrace, slices.Clone of numbers; Check; the document's Last, open, time, At.
-/
import Derived.Test.YtbnedhhkapbliaaChnAsk
namespace Go.Proofs.Ytbnedhhkapbliaa
open Go.RowKit Go.Shelf
set_option linter.unusedVariables false
set_option linter.unusedSimpArgs false
set_option maxRecDepth 100000

theorem dimension_any (A A' : Option Addr) (c n c' : Nat) (q : List Pl) (w : World) (h : Chn w A c q) :
    Calls Try.prog 50 #[.slice A q.length c, .slice A' n c'] w fun e w' => e = .returned (.int .i64 (if q.length = 0 then n else ((vals q).getD 0 zv).x.length)) ∧ w = w' := by
  by_cases h0 : q.length = 0
  · have HF := Lib.hid (show (if q.length = 0 then (n : Int) else ((vals q).getD 0 zv).x.length) = n by simp [h0])
    generalize (if q.length = 0 then (n : Int) else ((vals q).getD 0 zv).x.length) = R at *
    rw [h0]
    clear h h0
    go_enter Try.func50, Try.ntmps50
    go_wp2
    go_ret
    rw [HF.out]
    exact ⟨rfl, rfl⟩
  · obtain ⟨b, o, p, rfl, hp, hb, c0, c1, c2, hv, hf⟩ := h.at_ (i := 0) (by omega)
    have hR : (if q.length = 0 then (n : Int) else ((vals q).getD 0 zv).x.length) = p.v.x.length := by rw [if_neg h0, vals_getD hp]
    rw [hR]
    simp only [Nat.zero_mul, Nat.add_zero] at c0 c1 c2
    generalize p.v.x.length = k at *
    have hm := h.many
    generalize q.length = m at *
    have t0 : ((m : Int) == 0) = false := by simp; omega
    have m0 : (0 : Int) < m := by omega
    clear h hv hp
    go_enter Try.func50, Try.ntmps50
    go_wp2
    go_ret
    exact ⟨rfl, rfl⟩

theorem lastM_at {l : List Vr} {v : Vr} {m : Nat} (h : l[m]? = some v) (hl : l.length = m + 1) : lastM l = max v.b v.f := by
  unfold lastM
  rw [List.getLast?_eq_getElem?, hl, Nat.add_sub_cancel, h]

theorem lastTrace_any (A : Option Addr) (c : Nat) (q : List Pl) (w : World) (h : Chn w A c q) :
    Calls Try.prog 39 #[.slice A q.length c] w fun e w' => e = .returned (.int .u64 (lastM (vals q))) ∧ Below w.heap.size w w' := by
  by_cases h0 : q.length = 0
  · obtain rfl : q = [] := List.eq_nil_of_length_eq_zero h0
    have HF := Lib.hid (show lastM (vals []) = 0 from rfl)
    generalize lastM (vals []) = R at *
    rw [List.length_nil]
    clear h h0
    go_enter Try.func39, Try.ntmps39
    go_wp2
    go_ret
    rw [HF.out]
    exact ⟨rfl, Below.refl _ _⟩
  · obtain ⟨m, hm⟩ : ∃ m, q.length = m + 1 := ⟨q.length - 1, by omega⟩
    obtain ⟨b, o, p, rfl, hp, hb, c0, c1, c2, hv, hf⟩ := h.at_ (i := m) (by omega)
    have HF := Lib.hid (show lastM (vals q) = max p.v.b p.v.f from lastM_at (vals_at hp) (by rw [vals_length, hm]))
    have HB := Lib.hid (ver_alloc w p.v.b p.v.f p.B p.v.x.length p.c)
    generalize lastM (vals q) = R at *
    generalize p.v.x.length = k at *
    generalize p.v.b = pb at *
    generalize p.v.f = pf at *
    have hmn := h.many
    rw [hm] at hmn ⊢
    have t0 : (((m + 1 : Nat) : Int) == 0) = false := by simp; omega
    have t1 : ((m + 1 : Nat) : Int) - 1 = (m : Int) := by omega
    have m0 : (0 : Int) ≤ m := by omega
    have m1 : (m : Int) < ((m + 1 : Nat) : Int) := by omega
    clear h hv hp hm
    go_enter Try.func39, Try.ntmps39
    go_wp2
    go_ret
    rw [HF.out]
    exact ⟨rfl, HB.out⟩

set_option maxHeartbeats 400000 in
theorem clone_any (A : Option Addr) (c : Nat) (xs : List Int) (w : World) (h : Vec .i32 w A c xs) (hbig : xs.length ≤ 1000000) :
    Calls Try.prog 54 #[.slice A xs.length c] w fun e w' => ∃ A1 c1, e = .returned (.slice A1 xs.length c1) ∧ OwnV w.heap.size w' A1 c1 xs ∧ Below w.heap.size w w' := by
  have q22 : ∀ (w : World) (a : Option Addr) (n c n' c' : Nat), (binOp .eql 27 (.slice a n c) (.slice none n' c')).run Try.prog w = .ok (.bool a.isNone) w := fun w a n c n' c' => Lib.run_eql_slice_nil w _ _ a n c n' c' Try.underlying27
  rcases A with _ | a
  · obtain rfl : xs = [] := by
      rcases xs with _ | ⟨x, xs⟩
      · rfl
      · obtain ⟨_, _, e, _⟩ := h.rd (by simp); cases e
    have HO := Lib.hid (show OwnV w.heap.size w none 0 [] from ⟨World.ownsRow_nil _ _ _ _, by simp⟩)
    rw [List.length_nil]
    clear h
    go_enter Try.func54, Try.ntmps54
    go_wp2
    go_ret
    exact ⟨none, 0, rfl, HO.out, Below.refl _ _⟩
  · have HR := Lib.hid (Read.vec (h.below ((Below.refl _ w).alloc (Nat.le_refl _) (.cells #[] 21))))
    have HF := Lib.hid h.fit
    have HO := Lib.hid (World.ownsRow_made (base := w.heap.size) (size := 1) (e := 21) w #[] 0 (Nat.le_refl _) (Nat.zero_le _) rfl)
    generalize hn : xs.length = n at *
    have HN := Lib.hid hn
    clear h hn
    go_enter Try.func54, Try.ntmps54
    go_wp2_with (at_builtin; refine gapp_at rfl (.tmp 5) (.tmp 6) appI rfl w.heap.size (some ⟨w.heap.size, 0, none⟩) 0 0 [] rfl HO.out (some a) c n (xs.map (Value.int .i32)) rfl HR.out (by omega) (by simp) ?_; intro A1 c1 w1 ho hg _; have HO1 := Lib.hid ho; have HB1 := Lib.hid (show Below w.heap.size w w1 from ((Below.refl _ w).alloc (Nat.le_refl _) (.cells #[] 21)).grown hg (by simp) (fun k hk => Nat.le_of_eq (show w.heap.size = k by simpa [blk] using hk))); clear ho hg)
    go_ret
    refine ⟨A1, c1, rfl, ⟨?_, HF.out⟩, HB1.out⟩
    have := HO1.out
    rw [Nat.zero_add, List.nil_append] at this
    rw [HN.out]
    exact this

end Go.Proofs.Ytbnedhhkapbliaa
