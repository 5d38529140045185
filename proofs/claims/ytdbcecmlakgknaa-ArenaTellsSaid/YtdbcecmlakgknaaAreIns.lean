/-
  The document's rows: a used cell is laid among those that are laid already; what comes of it; whose slots are whose among them. And the document's test.
-/
import Derived.Test.YtdbcecmlakgknaaAreRowsM
import Derived.Test.YtdbcecmlakgknaaMAre
namespace Go.Proofs.Ytdbcecmlakgknaa
open Go.RowKit Go.Shelf
set_option linter.unusedVariables false
set_option linter.unusedSimpArgs false
set_option maxRecDepth 100000

/-- Does x stand ahead of y, by rows, as the document asks? -/
def aheadB (x y : Ce) : Bool := decide (x.i < y.i) || (decide (x.i = y.i) && decide (x.b < y.b))
theorem ahead_yes {l : List Ce} {i z : Nat} (h : aheadB (ceAt l i) (ceAt l z) = true) : Ahd l i z := by
  unfold aheadB at h
  simp at h
  unfold Ahd
  omega
theorem ahead_no {l : List Ce} {i y : Nat} (h : aheadB (ceAt l i) (ceAt l y) = false) (hy : y < i) : Ahd l y i := by
  unfold aheadB at h
  simp at h
  unfold Ahd
  omega
/-- Laid at p, behind all that it is not ahead of. -/
theorem ins_srt {l : List Ce} {s : List Nat} {i p : Nat} (hs : Srt l s) (hlt : ∀ y ∈ s, y < i) (h1 : ∀ z ∈ s.drop p, aheadB (ceAt l i) (ceAt l z) = true) (h2 : ∀ y, 0 < p → s[p - 1]? = some y → aheadB (ceAt l i) (ceAt l y) = false) (hp : p ≤ s.length) : Srt l (s.take p ++ i :: s.drop p) := by
  have hs0 := hs
  unfold Srt at hs ⊢
  rw [← List.take_append_drop p s, List.pairwise_append] at hs
  obtain ⟨ha, hb, hc⟩ := hs
  rw [List.pairwise_append, List.pairwise_cons]
  have hi : ∀ y ∈ s.take p, Ahd l y i := by
    intro y hy
    have hp0 : 0 < p := by
      rcases Nat.eq_zero_or_pos p with rfl | h
      · simp at hy
      · exact h
    have hpl : p - 1 < s.length := by omega
    have ht : Ahd l s[p - 1] i := ahead_no (h2 _ hp0 (List.getElem?_eq_getElem hpl)) (hlt _ (List.getElem_mem _))
    obtain ⟨j, hj, rfl⟩ := List.mem_iff_getElem.1 hy
    rw [List.getElem_take]
    have hj' : j < p ∧ j < s.length := by simp at hj; omega
    rcases Nat.lt_or_ge j (p - 1) with h | h
    · exact ahd_trans (List.pairwise_iff_getElem.1 hs0 j (p - 1) hj'.2 hpl h) ht
    · have e : j = p - 1 := by omega
      subst e
      exact ht
  refine ⟨ha, ⟨fun z hz => ahead_yes (h1 z hz), hb⟩, fun y hy z hz => ?_⟩
  rcases List.mem_cons.1 hz with rfl | hz
  · exact hi y hy
  · exact hc y hy z hz
theorem ins_perm {s : List Nat} {i p : Nat} : (s.take p ++ i :: s.drop p).Perm (s ++ [i]) := by
  have h1 : (s.take p ++ i :: s.drop p).Perm (i :: (s.take p ++ s.drop p)) := List.perm_middle
  rw [List.take_append_drop] at h1
  exact h1.trans (List.perm_append_comm (l₁ := [i]) (l₂ := s))
/-- The used ones of the first k slots. -/
def usedK (l : List Ce) (k : Nat) : List Nat := (List.range k).filter fun j => (ceAt l j).u
theorem usedK_yes {l : List Ce} {k : Nat} (h : (ceAt l k).u = true) : usedK l (k + 1) = usedK l k ++ [k] := by unfold usedK; rw [List.range_succ, List.filter_append]; simp [h]
theorem usedK_no {l : List Ce} {k : Nat} (h : (ceAt l k).u = false) : usedK l (k + 1) = usedK l k := by unfold usedK; rw [List.range_succ, List.filter_append]; simp [h]
theorem usedK_lt {l : List Ce} {k : Nat} : ∀ j ∈ usedK l k, j < k := fun j hj => List.mem_range.1 (List.mem_filter.1 hj).1
theorem usedK_all (l : List Ce) : usedK l l.length = pickL l fun _ => true := by unfold usedK pickL; congr 1; funext k; simp
theorem rowsS_of {l : List Ce} {s : List Nat} (hs : Srt l s) (hp : s.Perm (usedK l l.length)) : rowsS l = s := by
  unfold rowsS ordS
  rw [usedK_all] at hp
  exact ord_of hp hs (pick_nodup l _)
theorem of_rows {l : List Ce} {id : Int} (hr : arB l = true) : ofA l id = (rowsS l).filter fun k => decide ((ceAt l k).i = id) := by
  unfold ofA
  rw [if_pos hr]
  unfold ordS
  refine ord_of ?_ ?_ (pick_nodup l _)
  · have h1 : (rowsS l).Perm (pickL l fun _ => true) := ord_perm _ _
    have h2 := h1.filter fun k => decide ((ceAt l k).i = id)
    have h3 : (pickL l fun _ => true).filter (fun k => decide ((ceAt l k).i = id)) = pickL l (fun e => decide (e.i = id)) := by
      unfold pickL
      rw [List.filter_filter]
      congr 1
      funext k
      cases (ceAt l k).u <;> simp
    rw [h3] at h2
    exact h2
  · have h := ord_srt l (pick_nodup l fun _ => true)
    unfold Srt at h ⊢
    exact List.Pairwise.filter _ h

set_option maxHeartbeats 1000000 in
theorem rAhead_any (p p' : Pa) (w : World) :
    Calls Try.prog 57 #[.agg #[.bool p.e.u, .int .u64 p.e.i, .int .u64 p.e.b, .int .u64 p.e.f, .slice p.B p.e.x.length p.c], .agg #[.bool p'.e.u, .int .u64 p'.e.i, .int .u64 p'.e.b, .int .u64 p'.e.f, .slice p'.B p'.e.x.length p'.c]] w fun y w' => y = .returned (.bool (aheadB p.e p'.e)) ∧ Below w.heap.size w w' := by
  obtain ⟨⟨u, i, b, f, x⟩, B, c⟩ := p
  obtain ⟨⟨u', i', b', f', x'⟩, B', c'⟩ := p'
  have hb : Below w.heap.size w ((w.alloc (.cells #[.bool u, .int .u64 i, .int .u64 b, .int .u64 f, .slice B x.length c] 45)).alloc (.cells #[.bool u', .int .u64 i', .int .u64 b', .int .u64 f', .slice B' x'.length c'] 45)) := ((Below.refl _ w).alloc (Nat.le_refl _) _).alloc (by simp) _
  have HB := Lib.hid hb
  obtain ⟨R, hR⟩ : ∃ R, R = aheadB ⟨u, i, b, f, x⟩ ⟨u', i', b', f', x'⟩ := ⟨_, rfl⟩
  have hR' : R = (decide (i < i') || (decide (i = i') && decide (b < b'))) := hR
  dsimp only
  rw [← hR]
  generalize x.length = n at *
  generalize x'.length = n' at *
  by_cases h1 : i < i'
  · have HF := Lib.hid (show R = true by rw [hR']; simp [h1])
    clear hb hR hR'
    go_enter Try.func57, Try.ntmps57
    go_wp2
    go_ret
    rw [HF.out]
    exact ⟨rfl, HB.out⟩
  · have t1 : decide (i < i') = false := by simpa using h1
    by_cases h2 : i = i'
    · subst h2
      have t2 : (i == i) = true := by simp
      by_cases h3 : b < b'
      · have HF := Lib.hid (show R = true by rw [hR']; simp [h3])
        clear hb hR hR' h1
        go_enter Try.func57, Try.ntmps57
        go_wp2
        go_ret
        rw [HF.out]
        exact ⟨rfl, HB.out⟩
      · have HF := Lib.hid (show R = false by rw [hR']; simp [h3])
        have t3 : decide (b < b') = false := by simpa using h3
        clear hb hR hR' h1 h3
        go_enter Try.func57, Try.ntmps57
        go_wp2
        go_ret
        rw [HF.out]
        exact ⟨rfl, HB.out⟩
    · have HF := Lib.hid (show R = false by rw [hR']; simp [h1, h2])
      have t2 : (i == i') = false := by simpa using h2
      clear hb hR hR' h1 h2
      go_enter Try.func57, Try.ntmps57
      go_wp2
      go_ret
      rw [HF.out]
      exact ⟨rfl, HB.out⟩

end Go.Proofs.Ytdbcecmlakgknaa
