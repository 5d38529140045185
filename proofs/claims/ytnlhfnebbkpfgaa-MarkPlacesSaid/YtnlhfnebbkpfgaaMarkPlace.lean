/-
  What Place and the document's Same and Place answer, called with any two rows of bytes.
-/
import Derived.Test.YtnlhfnebbkpfgaaMarkMath
import Derived.Test.YtnlhfnebbkpfgaaRefOne
import Derived.Test.YtnlhfnebbkpfgaaFieldEqual
namespace Go.Proofs.Ytnlhfnebbkpfgaa
open Go.RowKit
set_option linter.unusedVariables false

/-- How many bytes both begin with alike. -/
def cp : List Int → List Int → Nat
  | x :: a, y :: b => if x = y then cp a b + 1 else 0
  | _, _ => 0
/-- The first place at which both differ. -/
def placeM (a b : List Int) : Int := if a = b then -1 else (cp a b : Int)

theorem cp_at (k : Nat) : ∀ (a b : List Int), k ≤ a.length → k ≤ b.length → (∀ j, j < k → a.getD j 0 = b.getD j 0) → (k = a.length ∨ k = b.length ∨ a.getD k 0 ≠ b.getD k 0) → cp a b = k := by
  induction k with
  | zero =>
    intro a b h1 h2 he hd
    rcases a with _ | ⟨x, a⟩
    · simp [cp]
    rcases b with _ | ⟨y, b⟩
    · simp [cp]
    simp at hd
    simp [cp, hd]
  | succ k ih =>
    intro a b h1 h2 he hd
    rcases a with _ | ⟨x, a⟩
    · simp at h1
    rcases b with _ | ⟨y, b⟩
    · simp at h2
    have e0 : x = y := by simpa using he 0 (by omega)
    have := ih a b (by simpa using h1) (by simpa using h2) (fun j hj => by simpa using he (j + 1) (by omega)) (by simpa using hd)
    simp [cp, e0, this]
theorem cp_spec (a b : List Int) : cp a b ≤ a.length ∧ cp a b ≤ b.length ∧ (∀ j, j < cp a b → a.getD j 0 = b.getD j 0) ∧ (cp a b = a.length ∨ cp a b = b.length ∨ a.getD (cp a b) 0 ≠ b.getD (cp a b) 0) := by
  induction a generalizing b with
  | nil => simp [cp]
  | cons x a ih =>
    rcases b with _ | ⟨y, b⟩
    · simp [cp]
    obtain ⟨h1, h2, h3, h4⟩ := ih b
    by_cases e : x = y
    · simp only [cp, e, if_true]
      refine ⟨by simpa using h1, by simpa using h2, fun j hj => ?_, by simpa using h4⟩
      rcases j with _ | j
      · rfl
      · simpa using h3 j (by omega)
    · simp only [cp, e, if_false]
      refine ⟨by simp, by simp, fun j hj => by omega, .inr (.inr (by simpa using e))⟩
theorem cp_comm (a b : List Int) : cp a b = cp b a := by
  obtain ⟨h1, h2, h3, h4⟩ := cp_spec b a
  refine cp_at _ _ _ h2 h1 (fun j hj => (h3 j hj).symm) ?_
  rcases h4 with h | h | h
  · exact .inr (.inl h)
  · exact .inl h
  · exact .inr (.inr (Ne.symm h))
theorem list_eq {a b : List Int} (hl : a.length = b.length) (he : ∀ j, j < a.length → a.getD j 0 = b.getD j 0) : a = b := by
  apply List.ext_getElem hl
  intro j h1 h2
  have := he j h1
  simpa [List.getD, List.getElem?_eq_getElem h1, List.getElem?_eq_getElem h2] using this
theorem place_ne {a b : List Int} (h : a ≠ b) {k : Nat} (h1 : k ≤ a.length) (h2 : k ≤ b.length) (he : ∀ j, j < k → a.getD j 0 = b.getD j 0) (hd : k = a.length ∨ k = b.length ∨ a.getD k 0 ≠ b.getD k 0) : placeM a b = (k : Int) := by
  unfold placeM
  rw [if_neg h, cp_at k a b h1 h2 he hd]
theorem place_same (a : List Int) : placeM a a = -1 := by simp [placeM]

/-- A call that answers, and leaves all memory as it was (orders may have been drawn). -/
def Tells (w : World) (v : Value) (e : Ending) (w' : World) : Prop := e = .returned v ∧ ∃ q, w' = w.drewN q
theorem Tells.below {w w' : World} {v : Value} {e : Ending} (h : Tells w v e w') : e = .returned v ∧ Below w.heap.size w w' := by
  obtain ⟨rfl, q, rfl⟩ := h
  exact ⟨rfl, below_drewN (Below.refl _ w) q⟩
/-- The first k bytes of both are alike. -/
def Alike (a b : List Int) (k : Nat) : Prop := ∀ j, j < k → a.getD j 0 = b.getD j 0
theorem Alike.zero (a b : List Int) : Alike a b 0 := fun j hj => by omega
theorem Alike.succ {a b : List Int} {k : Nat} (h : Alike a b k) (e : a.getD k 0 = b.getD k 0) : Alike a b (k + 1) := fun j hj => by
  by_cases hk : j < k
  · exact h j hk
  · obtain rfl : j = k := by omega
    exact e

set_option maxHeartbeats 1000000 in
theorem place_b (A A' : Option Addr) (c c' : Nat) (bs cs : List Int) (w : World) (h : Sl w A c bs) (h' : Sl w A' c' cs) :
    Calls Try.prog 22 #[.slice A bs.length c, .slice A' cs.length c'] w (Tells w (.int .i64 (placeM bs cs))) := by
  have hm := h.most
  have hr := h.room
  have hm' := h'.most
  have hr' := h'.room
  have H := Lib.hid h
  have H' := Lib.hid h'
  clear h h'
  obtain ⟨n, hn⟩ : ∃ n, n = bs.length := ⟨_, rfl⟩
  obtain ⟨n', hn'⟩ : ∃ n, n = cs.length := ⟨_, rfl⟩
  rw [← hn] at hr ⊢
  rw [← hn'] at hr' ⊢
  have HN := Lib.hid hn
  have HN' := Lib.hid hn'
  clear hn hn'
  obtain ⟨s, hs⟩ : ∃ s, s = min n n' := ⟨_, rfl⟩
  have hs1 : s ≤ n := by omega
  have hs2 : s ≤ n' := by omega
  have hsi : min (n : Int) (n' : Int) = (s : Int) := by omega
  have HS := Lib.hid hs
  clear hs
  go_enter Try.func22, Try.ntmps22
  go_wp2
  go_loopw [13] (fun i wr => ∃ k : Nat, k ≤ s ∧ i = .int .i64 k ∧ Hid (Alike bs cs k) ∧ ∃ q, wr = w.drewN q) (fun i _ => s - (intOf i).toNat)
  case atStart => exact ⟨0, Nat.zero_le _, rfl, Alike.zero _ _, 0, rfl⟩
  case round =>
    obtain ⟨k, hk, rfl, HA, q, rfl⟩ := hrel
    by_cases hlt : k < s
    · obtain ⟨b, o, rfl, _, hc⟩ := H.out.rd (by rw [← HN.out]; omega)
      obtain ⟨b', o', rfl, _, hc'⟩ := H'.out.rd (by rw [← HN'.out]; omega)
      have c1 := hc k (by rw [← HN.out]; omega)
      have c2 := hc' k (by rw [← HN'.out]; omega)
      have b1 : (0 : Int) ≤ (k : Int) := by omega
      have b2 : (k : Int) < (n : Int) := by omega
      have b3 : (k : Int) < (n' : Int) := by omega
      have HX := Lib.hid (show ∀ x y, x = bs.getD k 0 → y = cs.getD k 0 → x ≠ y → placeM bs cs = (k : Int) from fun x y e1 e2 hne => by
        subst e1; subst e2
        refine place_ne ?_ (by rw [← HN.out]; omega) (by rw [← HN'.out]; omega) HA.out (.inr (.inr hne))
        rintro rfl
        exact hne rfl)
      have HY := Lib.hid (show ∀ x y, x = bs.getD k 0 → y = cs.getD k 0 → x = y → Alike bs cs (k + 1) from fun x y e1 e2 he => by
        subst e1; subst e2
        exact HA.out.succ he)
      obtain ⟨x, hx⟩ : ∃ x, x = bs.getD k 0 := ⟨_, rfl⟩
      obtain ⟨y, hy⟩ : ∃ y, y = cs.getD k 0 := ⟨_, rfl⟩
      rw [← hx] at c1
      rw [← hy] at c2
      have gx := Lib.hid hx
      have gy := Lib.hid hy
      clear hc hc' hx hy
      by_cases e : x = y
      · have hxx : (x != y) = false := by simp [e]
        have HZ := Lib.hid (HY.out x y gx.out gy.out e)
        clear HX HY e
        go_wp2
        go_quiet (fail)
        go_wp2
        go_roundw
        case rel => exact ⟨k + 1, by omega, by go_num, HZ, _, by first | rfl | exact World.drewN_drewN _ _ _⟩
        case measure => simp [intOf]; omega
      · have hxx : (x != y) = true := by simp [e]
        have HZ := Lib.hid (HX.out x y gx.out gy.out e)
        clear HX HY e
        go_wp2
        go_quiet (fail)
        go_wp2
        go_ret
        rw [HZ.out]
        exact ⟨rfl, _, by first | rfl | exact World.drewN_drewN _ _ _⟩
    · obtain rfl : k = s := by omega
      by_cases e : n = n'
      · have hnn : ((n : Int) != (n' : Int)) = false := by simp [e]
        have HZ : Hid (placeM bs cs = -1) := by
          have : bs = cs := list_eq (by rw [← HN.out, ← HN'.out]; exact e) (fun j hj => HA.out j (by rw [HS.out, ← e]; rw [← HN.out] at hj; omega))
          unfold Hid
          rw [this]
          exact place_same cs
        clear e
        go_wp2
        go_ret
        rw [HZ.out]
        exact ⟨rfl, q, rfl⟩
      · have hnn : ((n : Int) != (n' : Int)) = true := by simp; omega
        have HZ : Hid (placeM bs cs = (k : Int)) := by
          refine place_ne ?_ (by rw [← HN.out]; omega) (by rw [← HN'.out]; omega) HA.out (by rw [← HN.out, ← HN'.out]; have := HS.out; omega)
          intro h
          exact e (by rw [HN.out, HN'.out, h])
        clear e
        go_wp2
        go_ret
        rw [HZ.out]
        exact ⟨rfl, q, rfl⟩

set_option maxHeartbeats 1000000 in
/-- The document's Same: are both the same? -/
theorem same_any (A A' : Option Addr) (c c' : Nat) (bs cs : List Int) (w : World) (h : Sl w A c bs) (h' : Sl w A' c' cs) :
    Calls Try.prog 17 #[.slice A bs.length c, .slice A' cs.length c'] w (Tells w (.bool (decide (bs = cs)))) := by
  have hm := h.most
  have hr := h.room
  have hm' := h'.most
  have hr' := h'.room
  have H := Lib.hid h
  have H' := Lib.hid h'
  clear h h'
  obtain ⟨n, hn⟩ : ∃ n, n = bs.length := ⟨_, rfl⟩
  obtain ⟨n', hn'⟩ : ∃ n, n = cs.length := ⟨_, rfl⟩
  rw [← hn] at hr ⊢
  rw [← hn'] at hr' ⊢
  have HN := Lib.hid hn
  have HN' := Lib.hid hn'
  clear hn hn'
  by_cases hnn : n = n'
  · subst hnn
    have hne : ((n : Int) != (n : Int)) = false := by simp
    go_enter Try.func17, Try.ntmps17
    go_wp2
    go_loopw [5] (fun i wr => ∃ k : Nat, k ≤ n ∧ i = .int .i64 k ∧ Hid (Alike bs cs k) ∧ ∃ q, wr = w.drewN q) (fun i _ => n - (intOf i).toNat)
    case atStart => exact ⟨0, Nat.zero_le _, rfl, Alike.zero _ _, 0, rfl⟩
    case round =>
      obtain ⟨k, hk, rfl, HA, q, rfl⟩ := hrel
      by_cases hlt : k < n
      · obtain ⟨b, o, rfl, _, hc⟩ := H.out.rd (by rw [← HN.out]; omega)
        obtain ⟨b', o', rfl, _, hc'⟩ := H'.out.rd (by rw [← HN'.out]; omega)
        have c1 := hc k (by rw [← HN.out]; omega)
        have c2 := hc' k (by rw [← HN'.out]; omega)
        have b1 : (0 : Int) ≤ (k : Int) := by omega
        have b2 : (k : Int) < (n : Int) := by omega
        have HX := Lib.hid (show ∀ x y, x = bs.getD k 0 → y = cs.getD k 0 → x ≠ y → decide (bs = cs) = false from fun x y e1 e2 hne => by
          subst e1; subst e2
          refine decide_eq_false ?_
          rintro rfl
          exact hne rfl)
        have HY := Lib.hid (show ∀ x y, x = bs.getD k 0 → y = cs.getD k 0 → x = y → Alike bs cs (k + 1) from fun x y e1 e2 he => by
          subst e1; subst e2
          exact HA.out.succ he)
        obtain ⟨x, hx⟩ : ∃ x, x = bs.getD k 0 := ⟨_, rfl⟩
        obtain ⟨y, hy⟩ : ∃ y, y = cs.getD k 0 := ⟨_, rfl⟩
        rw [← hx] at c1
        rw [← hy] at c2
        have gx := Lib.hid hx
        have gy := Lib.hid hy
        clear hc hc' hx hy
        by_cases e : x = y
        · have hxx : (x != y) = false := by simp [e]
          have HZ := Lib.hid (HY.out x y gx.out gy.out e)
          clear HX HY e
          go_wp2
          go_quiet (fail)
          go_wp2
          go_roundw
          case rel => exact ⟨k + 1, by omega, by go_num, HZ, _, by first | rfl | exact World.drewN_drewN _ _ _⟩
          case measure => simp [intOf]; omega
        · have hxx : (x != y) = true := by simp [e]
          have HZ := Lib.hid (HX.out x y gx.out gy.out e)
          clear HX HY e
          go_wp2
          go_quiet (fail)
          go_wp2
          go_ret
          rw [HZ.out]
          exact ⟨rfl, _, by first | rfl | exact World.drewN_drewN _ _ _⟩
      · obtain rfl : k = n := by omega
        have HZ : Hid (decide (bs = cs) = true) := by
          refine decide_eq_true ?_
          exact list_eq (by rw [← HN.out, ← HN'.out]) (fun j hj => HA.out j (by rw [← HN.out] at hj; omega))
        go_wp2
        go_ret
        rw [HZ.out]
        exact ⟨rfl, q, rfl⟩
  · have hne : ((n : Int) != (n' : Int)) = true := by simp; omega
    have HZ : Hid (decide (bs = cs) = false) := by
      refine decide_eq_false ?_
      intro h
      exact hnn (by rw [HN.out, HN'.out, h])
    clear hnn
    go_enter Try.func17, Try.ntmps17
    go_wp2
    go_ret
    rw [HZ.out]
    exact ⟨rfl, 0, rfl⟩

theorem same_true (A A' : Option Addr) (c c' : Nat) (bs : List Int) (w : World) (h : Sl w A c bs) (h' : Sl w A' c' bs) :
    Calls Try.prog 17 #[.slice A bs.length c, .slice A' bs.length c'] w (Tells w (.bool true)) := by
  have := same_any A A' c c' bs bs w h h'
  rwa [show decide (bs = bs) = true from by simp] at this

set_option maxHeartbeats 1000000 in
/-- The document's Place. -/
theorem rPlace_b (A A' : Option Addr) (c c' : Nat) (bs cs : List Int) (w : World) (h : Sl w A c bs) (h' : Sl w A' c' cs) :
    Calls Try.prog 23 #[.slice A bs.length c, .slice A' cs.length c'] w (Tells w (.int .i64 (placeM bs cs))) := by
  have hsame := same_any A A' c c' bs cs w h h'
  by_cases hbc : bs = cs
  · subst hbc
    rw [show decide (bs = bs) = true from by simp] at hsame
    have HZ := Lib.hid (place_same bs)
    generalize placeM bs bs = z at *
    have HSA := Lib.hid hsame
    clear hsame h h'
    generalize bs.length = n at *
    go_enter Try.func23, Try.ntmps23
    go_wp2_with fail
    refine HSA.out.mono ?_
    rintro e w' ⟨rfl, q, rfl⟩
    go_wp2
    go_ret
    rw [HZ.out]
    exact ⟨rfl, q, rfl⟩
  rw [decide_eq_false hbc] at hsame
  have hm := h.most
  have hr := h.room
  have hm' := h'.most
  have hr' := h'.room
  have HSA := Lib.hid hsame
  have HBC := Lib.hid hbc
  have H := Lib.hid h
  have H' := Lib.hid h'
  clear h h' hsame hbc
  obtain ⟨n, hn⟩ : ∃ n, n = bs.length := ⟨_, rfl⟩
  obtain ⟨n', hn'⟩ : ∃ n, n = cs.length := ⟨_, rfl⟩
  rw [← hn] at hr HSA ⊢
  rw [← hn'] at hr' HSA ⊢
  have HN := Lib.hid hn
  have HN' := Lib.hid hn'
  clear hn hn'
  go_enter Try.func23, Try.ntmps23
  go_wp2_with fail
  refine HSA.out.mono ?_
  clear HSA
  rintro e w' ⟨rfl, q0, rfl⟩
  go_wp2
  go_loopw [5] (fun i wr => ∃ k : Nat, k ≤ n ∧ k ≤ n' ∧ i = .int .i64 k ∧ Hid (Alike bs cs k) ∧ ∃ q, wr = w.drewN q) (fun i _ => n - (intOf i).toNat)
  case atStart => exact ⟨0, Nat.zero_le _, Nat.zero_le _, rfl, Alike.zero _ _, q0, rfl⟩
  case round =>
    obtain ⟨k, hk, hk', rfl, HA, q, rfl⟩ := hrel
    by_cases h1 : k < n
    · have d1 : decide ((k : Int) < (n : Int)) = true := by simp; omega
      by_cases h2 : k < n'
      · have d2 : decide ((k : Int) < (n' : Int)) = true := by simp; omega
        obtain ⟨b, o, rfl, _, hc⟩ := H.out.rd (by rw [← HN.out]; omega)
        obtain ⟨b', o', rfl, _, hc'⟩ := H'.out.rd (by rw [← HN'.out]; omega)
        have c1 := hc k (by rw [← HN.out]; omega)
        have c2 := hc' k (by rw [← HN'.out]; omega)
        have b1 : (0 : Int) ≤ (k : Int) := by omega
        have b2 : (k : Int) < (n : Int) := by omega
        have b3 : (k : Int) < (n' : Int) := by omega
        have HX := Lib.hid (show ∀ x y, x = bs.getD k 0 → y = cs.getD k 0 → x ≠ y → placeM bs cs = (k : Int) from fun x y e1 e2 hne => by
          subst e1; subst e2
          refine place_ne HBC.out (by rw [← HN.out]; omega) (by rw [← HN'.out]; omega) HA.out (.inr (.inr hne)))
        have HY := Lib.hid (show ∀ x y, x = bs.getD k 0 → y = cs.getD k 0 → x = y → Alike bs cs (k + 1) from fun x y e1 e2 he => by
          subst e1; subst e2
          exact HA.out.succ he)
        obtain ⟨x, hx⟩ : ∃ x, x = bs.getD k 0 := ⟨_, rfl⟩
        obtain ⟨y, hy⟩ : ∃ y, y = cs.getD k 0 := ⟨_, rfl⟩
        rw [← hx] at c1
        rw [← hy] at c2
        have gx := Lib.hid hx
        have gy := Lib.hid hy
        clear hc hc' hx hy
        by_cases e : x = y
        · have hxx : (x == y) = true := by simp [e]
          have HZ := Lib.hid (HY.out x y gx.out gy.out e)
          clear HX HY e
          go_wp2
          go_quiet (fail)
          go_wp2
          go_roundw
          case rel => exact ⟨k + 1, by omega, by omega, by go_num, HZ, _, by first | rfl | exact World.drewN_drewN _ _ _⟩
          case measure => simp [intOf]; omega
        · have hxx : (x == y) = false := by simp [e]
          have HZ := Lib.hid (HX.out x y gx.out gy.out e)
          clear HX HY e
          go_wp2
          go_quiet (fail)
          go_wp2
          go_ret
          rw [HZ.out]
          exact ⟨rfl, _, by first | rfl | exact World.drewN_drewN _ _ _⟩
      · have d2 : decide ((k : Int) < (n' : Int)) = false := by simp; omega
        have HZ : Hid (placeM bs cs = (k : Int)) := place_ne HBC.out (by rw [← HN.out]; omega) (by rw [← HN'.out]; omega) HA.out (.inr (.inl (by rw [← HN'.out]; omega)))
        go_wp2
        go_quiet (fail)
        go_wp2
        go_ret
        rw [HZ.out]
        exact ⟨rfl, _, by first | rfl | exact World.drewN_drewN _ _ _⟩
    · have d1 : decide ((k : Int) < (n : Int)) = false := by simp; omega
      have HZ : Hid (placeM bs cs = (k : Int)) := place_ne HBC.out (by rw [← HN.out]; omega) (by rw [← HN'.out]; omega) HA.out (.inl (by rw [← HN.out]; omega))
      go_wp2
      go_quiet (fail)
      go_wp2
      go_ret
      rw [HZ.out]
      exact ⟨rfl, _, by first | rfl | exact World.drewN_drewN _ _ _⟩

end Go.Proofs.Ytnlhfnebbkpfgaa
