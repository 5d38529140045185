/-
  What refuses an operation.
-/
import Derived.Test.YtienabfilnpieaaGreatDiskFiles
import Derived.RangeFuncBox
namespace Go.Proofs.YtienabfilnpieaaGreat
open Go.RowKit
set_option linter.unusedVariables false

def namedC (dead : Bool) (xs : List Int) : Int := if dead then 9 else if xs.all (fun x => decide (Name x)) then 0 else 120

theorem named_nil (w : World) (v : Value) : Calls Tryz.prog 43 #[.pointer none, v] w fun e w' => e = .returned (.int .i64 1) ∧ w = w' := by
  go_enter Tryz.func43, Tryz.ntmps43
  go_wp2_with (go_at_call 72; refine (awake_nil _).mono ?_; rintro e w' ⟨rfl, rfl⟩)
  go_ret
  exact ⟨rfl, rfl⟩

set_option maxHeartbeats 400000 in
theorem named_any (w : World) (d g n cap : Nat) (dead : Bool) (xs : List Int) (hd : w.cell? ⟨d, 5, none⟩ = some (.bool dead)) (hn : n = xs.length) (hle : n ≤ 2) (hcap : n ≤ cap)
    (hc : ∀ j, j < n → w.cell? ⟨g, j, none⟩ = some (.int .i64 (xs.getD j 0))) :
    Calls Tryz.prog 43 #[.pointer (some ⟨d, 0, none⟩), .slice (some ⟨g, 0, none⟩) n cap] w fun e w' => e = .returned (.int .i64 (namedC dead xs)) ∧ w = w' := by
  have HC := Lib.hid hc
  have HN := Lib.hid hn
  clear hc hn
  cases dead
  · go_enter Tryz.func43, Tryz.ntmps43
    go_wp2_with (go_at_call 72; refine (awake_any _ d false hd).mono ?_; rintro e w' ⟨rfl, rfl⟩)
    go_loopw [15, 7] (fun i _ wr => ∃ k : Nat, i = .int .i64 k ∧ k ≤ n ∧ wr = w ∧ Hid (∀ j, j < k → Name (xs.getD j 0))) (fun i _ _ => n - (match i with | .int _ k => k.toNat | _ => 0))
    case atStart => exact ⟨0, rfl, by omega, rfl, Lib.hid (fun j hj => absurd hj (by omega))⟩
    case round =>
      obtain ⟨k, rfl, hk, rfl, H⟩ := hrel
      by_cases hkn : k < n
      · have hkk : (k : Int) < n := by omega
        have hcell := HC.out k hkn
        obtain ⟨x, hx⟩ : ∃ x, x = xs.getD k 0 := ⟨_, rfl⟩
        rw [← hx] at hcell
        have HX := Lib.hid hx
        clear hx
        have hmem : x ∈ xs := by
          have hkx : k < xs.length := by rw [← HN.out]; exact hkn
          rw [HX.out]
          simp [List.getD, List.getElem?_eq_getElem hkx]
        have HM := Lib.hid hmem
        clear hmem
        have bad : ¬ Name x → namedC false xs = 120 := fun hb => by
          have : xs.all (fun x => decide (Name x)) = false := by
            rw [Bool.eq_false_iff]
            intro ha
            have := List.all_eq_true.1 ha x HM.out
            exact hb (of_decide_eq_true this)
          simp [namedC, this]
        have BAD := Lib.hid bad
        clear bad
        by_cases h1 : x < 0
        · go_wp2
          go_ret
          exact ⟨by rw [BAD.out (by unfold Name; omega)]; rfl, rfl⟩
        · by_cases h2 : 4 ≤ x
          · go_wp2
            go_ret
            exact ⟨by rw [BAD.out (by unfold Name; omega)]; rfl, rfl⟩
          · have h3 : x < 4 := by omega
            have h4 : 0 ≤ x := by omega
            clear h2
            go_wp2
            go_roundw
            case rel =>
              refine ⟨k + 1, by simp, by omega, by trivial, Lib.hid (fun j hj => ?_)⟩
              rcases Nat.lt_or_ge j k with h | h
              · exact H.out j h
              · obtain rfl : j = k := by omega
                rw [← HX.out]; exact ⟨h4, h3⟩
            case measure => simp; omega
      · obtain rfl : k = n := by omega
        go_wp2
        go_ret
        refine ⟨?_, rfl⟩
        have : xs.all (fun x => decide (Name x)) = true := by
          rw [List.all_eq_true]
          intro x hx
          obtain ⟨j, hj, rfl⟩ := List.mem_iff_getElem.1 hx
          have := H.out j (by rw [HN.out]; exact hj)
          simpa [List.getD, List.getElem?_eq_getElem hj] using this
        simp [namedC, this]
  · go_enter Tryz.func43, Tryz.ntmps43
    go_wp2_with (go_at_call 72; refine (awake_any _ d true hd).mono ?_; rintro e w' ⟨rfl, rfl⟩)
    go_ret
    exact ⟨by simp [namedC], rfl⟩

/-- What refuses an operation on a file that has to be there. -/
def AD.ask (M : AD) (k : Int) (xs : List Int) : Int := if M.dead then 9 else if (xs ++ [k]).all (fun x => decide (Name x)) then (if (M.files k).isSome then 0 else 4) else 120

theorem ask_zero {M : AD} {k : Int} {xs : List Int} (h : namedC M.dead (xs ++ [k]) = 0) : M.ask k xs = if (M.files k).isSome then 0 else 4 := by
  unfold namedC at h
  unfold AD.ask
  revert h
  generalize M.dead = b
  generalize (xs ++ [k]).all (fun x => decide (Name x)) = q
  cases b <;> cases q <;> simp
theorem ask_code {M : AD} {k : Int} {xs : List Int} (h : namedC M.dead (xs ++ [k]) ≠ 0) : M.ask k xs = namedC M.dead (xs ++ [k]) := by
  unfold namedC at h ⊢
  unfold AD.ask
  revert h
  generalize M.dead = b
  generalize (xs ++ [k]).all (fun x => decide (Name x)) = q
  cases b <;> cases q <;> simp

theorem ready_nil (w : World) (k : Int) (base : Nat) (v : Value) (xs : List Int) (hr : w.ownsRow base 3 1 v xs.length (xs.map (Value.int .i64))) (hx : xs.length ≤ 1) (hb : base ≤ w.heap.size) :
    Calls Tryz.prog 48 #[.pointer none, .int .i64 k, v] w fun e w' => e = .returned (.int .i64 1) ∧ Below base w w' := by
  obtain ⟨i0, hi, hz0, hz1, hz2⟩ := info_parts infoInt
  obtain ⟨n, hn⟩ : ∃ n, n = xs.length := ⟨_, rfl⟩
  rw [← hn] at hr hx
  obtain ⟨A0, c0, rfl, _, _⟩ := own_form hr
  have HR := Lib.hid hr
  have HN := Lib.hid hn
  clear hr hn
  go_enter Tryz.func48, Tryz.ntmps48
  go_wp2_with (first
    | (at_builtin; refine wpList_append_own _ rfl _ _ 105 rfl base 3 i0 (.int .i64 0) 1 8 Tryz.underlying105 hi hz0 hz1 hz2 rfl (by decide) _ n _ rfl (HR.out.alloc _) ⟨w.heap.size, 0, none⟩ 1 1 [.int .i64 k] rfl rfl (cell_one_new _ _ _) (by simp [Value.oneCell']) (by unfold maxLen; omega) (by omega) (by simp; omega) ?_; intro v' w2 hown' hgrow _; have HO := Lib.hid hown'; have HG := Lib.hid hgrow; clear hown' hgrow)
    | (go_at_call 43; refine (named_nil _ _).mono ?_; rintro e w' ⟨rfl, rfl⟩))
  go_ret
  exact ⟨rfl, ((Below.refl _ w).alloc hb _).grown HG.out (by simp; omega) (fun j hj => (HR.out.lt j hj).1)⟩

set_option maxHeartbeats 400000 in
set_option maxRecDepth 100000 in
theorem ready_any {w : World} {S : Nat → Prop} {d : Nat} {M : AD} (h : DiskAt w S d M) {k : Int} (hk : I64 k) (base : Nat) (v : Value) (xs : List Int) (hr : w.ownsRow base 3 1 v xs.length (xs.map (Value.int .i64))) (hx : xs.length ≤ 1) (hbs : base ≤ w.heap.size) (hS : ∀ i, S i → i < base) :
    Calls Tryz.prog 48 #[.pointer (some ⟨d, 0, none⟩), .int .i64 k, v] w fun e w' => e = .returned (.int .i64 (M.ask k xs)) ∧ Below base w w' := by
  obtain ⟨i0, hi, hz0, hz1, hz2⟩ := info_parts infoInt
  obtain ⟨n, hn⟩ : ∃ n, n = xs.length := ⟨_, rfl⟩
  rw [← hn] at hr hx
  obtain ⟨A0, c0, rfl, _, _⟩ := own_form hr
  have HR := Lib.hid hr
  have HN := Lib.hid hn
  have HD := Lib.hid h
  have HS := Lib.hid hS
  clear hr hn h hS
  go_enter Tryz.func48, Tryz.ntmps48
  go_wp2_with (at_builtin; refine wpList_append_own _ rfl _ _ 105 rfl base 3 i0 (.int .i64 0) 1 8 Tryz.underlying105 hi hz0 hz1 hz2 rfl (by decide) _ n _ rfl (HR.out.alloc _) ⟨w.heap.size, 0, none⟩ 1 1 [.int .i64 k] rfl rfl (cell_one_new _ _ _) (by simp [Value.oneCell']) (by unfold maxLen; omega) (by omega) (by simp; omega) ?_; intro v' w2 hown' hgrow _; obtain ⟨g', cap', rfl⟩ := ownsRow_succ hown'; have HO := Lib.hid hown'; have HG := Lib.hid hgrow; clear hown' hgrow)
  have hbel : Below base w w2 := ((Below.refl _ w).alloc hbs _).grown HG.out (by simp; omega) (fun j hj => (HR.out.lt j hj).1)
  have hD2 : DiskAt w2 S d M := by obtain ⟨mb, f, A, c, h⟩ := HD.out; exact ⟨mb, f, A, c, h.below hbel HS.out⟩
  have hc5 : w2.cell? ⟨d, 5, none⟩ = some (.bool M.dead) := by obtain ⟨mb, f, A, c, h⟩ := hD2; exact h.c5
  have hcs : ∀ j, j < n + 1 → w2.cell? ⟨g', j, none⟩ = some (.int .i64 ((xs ++ [k]).getD j 0)) := fun j hj => by
    rw [HO.out.cellAt j (by omega)]
    have h1 := HN.out
    have : j < (xs ++ [k]).length := by simp; omega
    rw [show xs.map (Value.int .i64) ++ [Value.int .i64 k] = (xs ++ [k]).map (Value.int .i64) by simp]
    rw [List.getElem?_map, List.getElem?_eq_getElem this]
    simp [List.getD, List.getElem?_eq_getElem this]
  have hcap : n + 1 ≤ cap' := by
    rcases HO.out.2 with ⟨e, _⟩ | ⟨g, cap, cur, e, _, _, hnc, _⟩
    · cases e
    · injection e with _ _ e; omega
  refine (named_any w2 d g' (n + 1) cap' M.dead (xs ++ [k]) hc5 (by rw [HN.out]; simp) (by omega) hcap hcs).mono ?_
  rintro e w3 ⟨rfl, rfl⟩
  have HB := Lib.hid hbel
  have HD2 := Lib.hid hD2
  clear hbel hD2 hc5 hcs hcap
  obtain ⟨cc, hcc⟩ : ∃ cc, cc = namedC M.dead (xs ++ [k]) := ⟨_, rfl⟩
  rw [← hcc]
  have HC := Lib.hid hcc
  clear hcc
  by_cases hz : cc = 0
  · subst hz
    rcases hb : (M.files k).isSome with _ | _
    · go_wp2_with (go_at_call 96; refine (has_any HD2.out hk).mono ?_; rw [hb]; rintro e w' ⟨rfl, hb1⟩; have HB1 := Lib.hid hb1; clear hb1)
      go_ret
      exact ⟨by rw [ask_zero HC.out.symm, hb]; rfl, HB.out.trans (HB1.out.mono (Nat.le_trans hbs HB.out.size))⟩
    · go_wp2_with (go_at_call 96; refine (has_any HD2.out hk).mono ?_; rw [hb]; rintro e w' ⟨rfl, hb1⟩; have HB1 := Lib.hid hb1; clear hb1)
      go_ret
      exact ⟨by rw [ask_zero HC.out.symm, hb]; rfl, HB.out.trans (HB1.out.mono (Nat.le_trans hbs HB.out.size))⟩
  · have HZ := Lib.hid hz
    have hz1 : (cc == 0) = false := by simp [hz]
    have hz2 : (cc != 0) = true := by simp [hz]
    go_wp2
    go_ret
    exact ⟨by rw [ask_code (by rw [← HC.out]; exact HZ.out), ← HC.out]; rfl, HB.out⟩

end Go.Proofs.YtienabfilnpieaaGreat
