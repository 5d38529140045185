/-
  What the log tells is what the model does; two disks that are alike are the same.
  Two disks that are alike are the same.
-/
import Derived.Test.YtienabfilnpieaaGreatModJ
namespace Go.Proofs.YtienabfilnpieaaGreat
open Go.RowKit Go.Shelf
set_option linter.unusedVariables false
set_option linter.unusedSimpArgs false
set_option linter.unusedSimpArgs false
set_option maxRecDepth 100000

theorem ops_at {w : World} {S : Nat → Prop} {d : Nat} {M : AD} (h : DiskAt w S d M) : Calls Tryz.prog 38 #[.pointer (some ⟨d, 0, none⟩)] w fun e w' => e = .returned (.int .i64 M.ops) ∧ w = w' := by
  obtain ⟨mb, f, A, c, h⟩ := h
  exact ops_any w d _ h.c4
theorem dead_at {w : World} {S : Nat → Prop} {d : Nat} {M : AD} (h : DiskAt w S d M) : Calls Tryz.prog 39 #[.pointer (some ⟨d, 0, none⟩)] w fun e w' => e = .returned (.bool M.dead) ∧ w = w' := by
  obtain ⟨mb, f, A, c, h⟩ := h
  exact dead_any w d _ h.c5
theorem Recs.drop1 {w : World} {b o : Nat} {p : List Int} {ps : List (List Int)} (h : Recs w (some ⟨b, o, none⟩) (p :: ps)) : Recs w (some ⟨b, o + 1, none⟩) ps := fun i q hq => by
  obtain ⟨b', o', B, cb, h1, h2, h3, h4⟩ := h (i + 1) q (by simpa using hq)
  injection h1 with h1
  injection h1 with h1 h1'
  subst h1
  subst h1'
  exact ⟨b, o + 1, B, cb, rfl, h2, by rw [show o + 1 + i = o + (i + 1) by omega]; exact h3, h4⟩
section
variable {w1 W : World} {d o mb k : Nat} {lg : Value}
set_option maxHeartbeats 8000000 in
theorem says_any (h : DoesI w1 W d o mb k lg) : Calls Tryz.prog 9 #[.pointer (some ⟨mb, 0, none⟩), lg, .pointer (some ⟨d, 0, none⟩)] W fun e W' => e = .returned (.bool true) ∧ Below W.heap.size W W' := by
  obtain ⟨S, S2, T, Q, M, V, no, h1, h2⟩ := h
  have hb : ∀ q, Below W.heap.size W (W.drewN q) := fun q => below_drewN (Below.refl _ W) q
  have HO1 := Lib.hid (fun q => (ops_at (h1.dd.later (hb q))).mono (R' := fun e w' => e = .returned (.int .i64 M.ops) ∧ w' = W.drewN q) (fun e w' hh => ⟨hh.1, hh.2.symm⟩))
  have HO2 := Lib.hid (fun q => (ops_at (h1.dm.later (hb q))).mono (R' := fun e w' => e = .returned (.int .i64 M.ops) ∧ w' = W.drewN q) (fun e w' hh => ⟨hh.1, hh.2.symm⟩))
  have HD1 := Lib.hid (fun q => (dead_at (h1.dd.later (hb q))).mono (R' := fun e w' => e = .returned (.bool M.dead) ∧ w' = W.drewN q) (fun e w' hh => ⟨hh.1, hh.2.symm⟩))
  have HD2 := Lib.hid (fun q => (dead_at (h1.dm.later (hb q))).mono (R' := fun e w' => e = .returned (.bool M.dead) ∧ w' = W.drewN q) (fun e w' hh => ⟨hh.1, hh.2.symm⟩))
  have HS1 := Lib.hid (fun q => (size_any (h1.dd.later (hb q)) (k := 0) (by decide)).mono (R' := fun e w' => e = .returned (.int .i64 (M.len 0)) ∧ w' = W.drewN q) (fun e w' hh => ⟨hh.1, hh.2.symm⟩))
  have HS2 := Lib.hid (fun q => (size_any (h1.dm.later (hb q)) (k := 0) (by decide)).mono (R' := fun e w' => e = .returned (.int .i64 (M.len 0)) ∧ w' = W.drewN q) (fun e w' hh => ⟨hh.1, hh.2.symm⟩))
  have HS3 := Lib.hid (fun q => (size_any (h1.dd.later (hb q)) (k := 1) (by decide)).mono (R' := fun e w' => e = .returned (.int .i64 (M.len 1)) ∧ w' = W.drewN q) (fun e w' hh => ⟨hh.1, hh.2.symm⟩))
  have HS4 := Lib.hid (fun q => (size_any (h1.dm.later (hb q)) (k := 1) (by decide)).mono (R' := fun e w' => e = .returned (.int .i64 (M.len 1)) ∧ w' = W.drewN q) (fun e w' hh => ⟨hh.1, hh.2.symm⟩))
  have HM := Lib.hid h1.md
  have HOK := Lib.hid h1.ok
  obtain ⟨A0, c0, vs0, hmd⟩ := h1.md
  obtain ⟨m0, m1, m2, m3, m4, _⟩ := mod_cells hmd.box
  have HMD := Lib.hid hmd
  generalize M.ops = mo at *
  generalize M.dead = md at *
  generalize M.len 0 = l0 at *
  generalize M.len 1 = l1 at *
  rcases h2 with ⟨hno, hlg⟩ | ⟨hno, g, hlg, hw⟩
  · subst hno
    subst hlg
    clear h1 hb hmd
    go_enter Tryz.func9, Tryz.ntmps9
    go_wp2_with fail
    go_quiet (first
      | (go_at_call 38; with_reducible refine Calls.quiet_of_same (HO1.out _))
      | (go_at_call 38; with_reducible refine Calls.quiet_of_same (HO2.out _))
      | (go_at_call 39; with_reducible refine Calls.quiet_of_same (HD1.out _))
      | (go_at_call 39; with_reducible refine Calls.quiet_of_same (HD2.out _))
      | (go_at_call 15; with_reducible refine Calls.quiet_of_same (HS1.out _))
      | (go_at_call 15; with_reducible refine Calls.quiet_of_same (HS2.out _))
      | (go_at_call 15; with_reducible refine Calls.quiet_of_same (HS3.out _))
      | (go_at_call 15; with_reducible refine Calls.quiet_of_same (HS4.out _)))
    go_wp2
    go_ret
    exact ⟨by simp, below_drewN (Below.refl _ _) nq⟩
  · subst hno
    subst hlg
    have HWL := Lib.hid hw
    have hvok := h1.ok rfl
    have hlim := hvok.lim
    have hlim2 := hlim.2
    have hlim1 := hlim.1
    have hcost := hvok.cost
    have hone := hvok.one
    have hcl := costM_len V.parts
    have HLIM := Lib.hid hlim
    have hoct : ∀ p ∈ V.parts, Oct p := fun p hp => by
      obtain ⟨i, hi⟩ := List.mem_iff_getElem?.1 hp
      obtain ⟨_, _, _, _, _, ho⟩ := hmd.parts.each i p hi
      exact ho
    have HOC := Lib.hid hoct
    obtain ⟨s0, rest, hsr⟩ : ∃ s0 rest, V.parts = s0 :: rest := by
      cases hp : V.parts with
      | nil => rw [hp] at hone; simp at hone
      | cons a l => exact ⟨a, l, rfl⟩
    have hs0l : s0.length ≤ 1000000 := by have := costM_mem (ps := V.parts) (k := 0) (p := s0) (by rw [hsr]; rfl); omega
    obtain ⟨_, _, e10, hpc, hcm7⟩ := own_form hmd.parts.row
    injection e10 with e11 e12 e10
    subst e10
    clear e11 e12
    have hrecs := hmd.parts.recs
    rw [hsr] at hrecs
    obtain ⟨b7, o7, B0, cb0, hA0, hbl7, hc70, hsl0, hoc0⟩ := hrecs 0 s0 rfl
    subst hA0
    have hc70 : W.cell? ⟨b7, o7, none⟩ = some (.slice B0 s0.length cb0) := by simpa using hc70
    have HMO := Lib.hid (fun (X : World) (hX : Below W.heap.size W X) => most_any (hw.later hX))
    have HBR := Lib.hid (fun (X : World) (hX : Below W.heap.size W X) => broken_any (hw.later hX))
    have HLE := Lib.hid (fun (X : World) (hX : Below W.heap.size W X) => len_any (hw.later hX) (by omega))
    have HLF := Lib.hid (fun (X : World) (hX : Below W.heap.size W X) => left_any' (hw.later hX) hlim (by omega))
    have HCO := Lib.hid (fun (X : World) (hX : Below W.heap.size W X) => rCost_any (some ⟨b7, o7, none⟩) c0 V.parts X (hmd.parts.recs.later hX) (by omega))
    have HSN := Lib.hid (fun (X : World) (hX : Below W.heap.size W X) => snap_any (hw.later hX) (s := s0) (by rw [hsr]; rfl) hs0l)
    have HAL := Lib.hid (fun (X : World) (hX : Below W.heap.size W X) => show Calls Tryz.prog 20 #[.pointer (some ⟨g, 0, none⟩)] X (GivesRows X rest) from by have key := all_any (hw.later hX) hone (by omega); rw [hsr] at key; exact key)
    have HEQ := Lib.hid (fun (X : World) (hX : Below W.heap.size W X) (B : Option Addr) (cb : Nat) (hN : Sl X B cb s0) => equalAny B B0 cb cb0 s0 s0 X hN.rd (hsl0.below hX).rd hoc0 hoc0)
    rw [show decide (s0 = s0) = true from decide_eq_true rfl] at HEQ
    have HO10 := Lib.hid (fun q (hq : q ∈ rest) => hoct q (by rw [hsr]; simp [hq]))
    obtain ⟨pn, hpn⟩ : ∃ pn, pn = V.parts.length := ⟨_, rfl⟩
    have hpr : pn = rest.length + 1 := by rw [hpn, hsr]; rfl
    rw [← hpn] at m2 HLE HCO hpc hcl hone
    obtain ⟨vm, hvm⟩ : ∃ vm, vm = V.most := ⟨_, rfl⟩
    rw [← hvm] at m1 HMO HLF hcost hlim2 hlim1
    obtain ⟨vb, hvb⟩ : ∃ vb, vb = V.broken := ⟨_, rfl⟩
    rw [← hvb] at m3 HBR
    obtain ⟨cs, hcs⟩ : ∃ cs, cs = costM V.parts := ⟨_, rfl⟩
    rw [← hcs] at HLF HCO hcost hcl
    have HRL := Lib.hid (show rest.length ≤ 1000000 by omega)
    have z1 : IntKind.i64.wrap ((pn : Int) - 1) = (pn : Int) - 1 := i64_fit (by omega)
    have z2 : IntKind.i64.wrap (vm - (cs : Int)) = vm - (cs : Int) := i64_fit (by omega)
    have r1 : (pn : Int) ≤ (c0 : Int) := by omega
    have r2 : (1 : Int) ≤ (pn : Int) := by omega
    have r3 : (0 : Int) < (pn : Int) := by omega
    have r4 : 0 < pn := by omega
    have r7 : pn ≤ c0 := by omega
    have r5 : ¬ pn = 0 := by omega
    have r6 : 1 ≤ pn := by omega
    have c71 : 1 ≤ c0 := by omega
    have c70 : (1 : Int) ≤ (c0 : Int) := by omega
    have HPN := Lib.hid (show pn - 1 = rest.length by omega)
    have HKEEP := Lib.hid (fun (X : World) (hX : Below W.heap.size W X) => show X.cell? ⟨mb, 0, none⟩ = some (.pointer (some ⟨o, 0, none⟩)) ∧ X.cell? ⟨mb, 1, none⟩ = some (.int .i64 vm) ∧ X.cell? ⟨mb, 2, none⟩ = some (.slice (some ⟨b7, o7, none⟩) pn c0) ∧ X.cell? ⟨mb, 3, none⟩ = some (.bool vb) ∧ X.cell? ⟨b7, o7, none⟩ = some (.slice B0 s0.length cb0) ∧ Below W.heap.size W X from
      ⟨(hX.cell (p := ⟨mb, 0, none⟩) (World.block_lt_of_cell? _ _ m0)).trans m0, (hX.cell (p := ⟨mb, 1, none⟩) (World.block_lt_of_cell? _ _ m1)).trans m1, (hX.cell (p := ⟨mb, 2, none⟩) (World.block_lt_of_cell? _ _ m2)).trans m2, (hX.cell (p := ⟨mb, 3, none⟩) (World.block_lt_of_cell? _ _ m3)).trans m3, (hX.cell (p := ⟨b7, o7, none⟩) hbl7).trans hc70, hX⟩)
    have HRECS := Lib.hid hrecs
    clear h1 hb hmd hw hvok hlim hlim2 hlim1 hcost hone hcl hoct hsr hs0l hpc hcm7 hrecs hbl7 hc70 hsl0 hoc0 hpn hvm hvb hcs
    by_cases hc7 : c0 = 1
    · have e2 : rest = [] := List.eq_nil_of_length_eq_zero (by omega)
      subst hc7
      subst e2
      have HRC := Lib.hid (show Recs W (some ⟨b7, o7, none⟩) [] from fun i q hq => by simp at hq)
      clear hpr c71 c70
      go_enter Tryz.func9, Tryz.ntmps9
      go_wp2_with fail
      go_quiet (first
        | (go_at_call 38; with_reducible refine Calls.quiet_of_same (HO1.out _))
        | (go_at_call 38; with_reducible refine Calls.quiet_of_same (HO2.out _))
        | (go_at_call 39; with_reducible refine Calls.quiet_of_same (HD1.out _))
        | (go_at_call 39; with_reducible refine Calls.quiet_of_same (HD2.out _))
        | (go_at_call 15; with_reducible refine Calls.quiet_of_same (HS1.out _))
        | (go_at_call 15; with_reducible refine Calls.quiet_of_same (HS2.out _))
        | (go_at_call 15; with_reducible refine Calls.quiet_of_same (HS3.out _))
        | (go_at_call 15; with_reducible refine Calls.quiet_of_same (HS4.out _)))
      go_upto_region 5 with fail
      have HBQ := Lib.hid (below_drewN (Below.refl W.heap.size W) nq)
      obtain ⟨X, hX⟩ : ∃ X, X = W.drewN nq := ⟨_, rfl⟩
      rw [← hX] at HBQ ⊢
      have HBX := Lib.hid (below_drewN HBQ.out 1)
      have k0 := HKEEP.out X.drew HBX.out
      clear hX m0 m1 m2 m3 m4
      go_region_held3 (fun X => X.cell? ⟨mb, 0, none⟩ = some (.pointer (some ⟨o, 0, none⟩)) ∧ X.cell? ⟨mb, 1, none⟩ = some (.int .i64 vm) ∧ X.cell? ⟨mb, 2, none⟩ = some (.slice (some ⟨b7, o7, none⟩) pn 1) ∧ X.cell? ⟨mb, 3, none⟩ = some (.bool vb) ∧ X.cell? ⟨b7, o7, none⟩ = some (.slice B0 s0.length cb0) ∧ Below W.heap.size W X) (first | exact k0 | exact S5.out | exact S9.out | exact S10.out | exact S11.out) (first
        | (go_at_call 16; refine (HMO.out _ HBX.out).mono ?_; rintro e x ⟨rfl, rfl⟩)
        | (go_at_call 27; refine (HBR.out _ HBX.out).mono ?_; rintro e x ⟨rfl, rfl⟩)
        | (go_at_call 32; refine (HLE.out _ HBX.out).mono ?_; rintro e x ⟨rfl, rfl⟩)
        | (go_at_call 30; refine (HLF.out _ HBX.out).mono ?_; rintro e x5 ⟨rfl, hb5⟩; have hb5' := HBX.out.trans (hb5.mono HBX.out.size); have HB5 := Lib.hid hb5'; have S5 := Lib.hid (HKEEP.out _ hb5'); clear hb5 hb5')
        | (go_at_call 40; refine (HCO.out _ HB5.out).mono ?_; rintro e x ⟨rfl, rfl⟩)
        | (go_at_call 18; refine (HSN.out _ HB5.out).mono ?_; rintro e x9 ⟨A9, c9, rfl, hn9, hb9⟩; have hb9' := HB5.out.trans (hb9.mono HB5.out.size); have HB9 := Lib.hid hb9'; have S9 := Lib.hid (HKEEP.out _ hb9'); have HE9 := Lib.hid (HEQ.out x9 hb9' A9 c9 hn9.sl); clear hn9 hb9 hb9')
        | (go_at_call 17; (with_reducible refine HE9.out.mono ?_); rintro e x ⟨rfl, rfl⟩)
        | (go_at_call 20; refine (HAL.out _ HB9.out).mono ?_; rintro e x10 ⟨v10, vs10, rfl, hr10, hb10⟩; obtain ⟨A10, c10, rfl, hrc10⟩ := RowsAt.recs hr10 HO10.out; have hb10' := HB9.out.trans (hb10.mono HB9.out.size); have HB10 := Lib.hid hb10'; have S10 := Lib.hid (HKEEP.out _ hb10'); have HA10 := Lib.hid (rSameAll_any A10 (some ⟨b7, o7, none⟩) c10 0 [] [] x10 hrc10 (HRC.out.later hb10') HRL.out HRL.out); clear hr10 hrc10 hb10 hb10')
        | (go_at_call 19; refine HA10.out.mono ?_; rintro e x11 ⟨rfl, hq⟩; have S11 := Lib.hid (HKEEP.out x11 (by obtain ⟨q, e⟩ := hq; rw [e]; exact below_drewN HB10.out q)); have HB11 := Lib.hid S11.out.2.2.2.2.2; clear hq))
      all_goals (
        clear k0
        go_wp2
        go_ret
        exact ⟨by simp, HB11.out⟩)
    · have HRC := Lib.hid (Recs.drop1 HRECS.out)
      clear hpr
      go_enter Tryz.func9, Tryz.ntmps9
      go_wp2_with fail
      go_quiet (first
        | (go_at_call 38; with_reducible refine Calls.quiet_of_same (HO1.out _))
        | (go_at_call 38; with_reducible refine Calls.quiet_of_same (HO2.out _))
        | (go_at_call 39; with_reducible refine Calls.quiet_of_same (HD1.out _))
        | (go_at_call 39; with_reducible refine Calls.quiet_of_same (HD2.out _))
        | (go_at_call 15; with_reducible refine Calls.quiet_of_same (HS1.out _))
        | (go_at_call 15; with_reducible refine Calls.quiet_of_same (HS2.out _))
        | (go_at_call 15; with_reducible refine Calls.quiet_of_same (HS3.out _))
        | (go_at_call 15; with_reducible refine Calls.quiet_of_same (HS4.out _)))
      go_upto_region 5 with fail
      have HBQ := Lib.hid (below_drewN (Below.refl W.heap.size W) nq)
      obtain ⟨X, hX⟩ : ∃ X, X = W.drewN nq := ⟨_, rfl⟩
      rw [← hX] at HBQ ⊢
      have HBX := Lib.hid (below_drewN HBQ.out 1)
      have k0 := HKEEP.out X.drew HBX.out
      clear hX m0 m1 m2 m3 m4
      go_region_held3 (fun X => X.cell? ⟨mb, 0, none⟩ = some (.pointer (some ⟨o, 0, none⟩)) ∧ X.cell? ⟨mb, 1, none⟩ = some (.int .i64 vm) ∧ X.cell? ⟨mb, 2, none⟩ = some (.slice (some ⟨b7, o7, none⟩) pn c0) ∧ X.cell? ⟨mb, 3, none⟩ = some (.bool vb) ∧ X.cell? ⟨b7, o7, none⟩ = some (.slice B0 s0.length cb0) ∧ Below W.heap.size W X) (first | exact k0 | exact S5.out | exact S9.out | exact S10.out | exact S11.out) (first
        | (go_at_call 16; refine (HMO.out _ HBX.out).mono ?_; rintro e x ⟨rfl, rfl⟩)
        | (go_at_call 27; refine (HBR.out _ HBX.out).mono ?_; rintro e x ⟨rfl, rfl⟩)
        | (go_at_call 32; refine (HLE.out _ HBX.out).mono ?_; rintro e x ⟨rfl, rfl⟩)
        | (go_at_call 30; refine (HLF.out _ HBX.out).mono ?_; rintro e x5 ⟨rfl, hb5⟩; have hb5' := HBX.out.trans (hb5.mono HBX.out.size); have HB5 := Lib.hid hb5'; have S5 := Lib.hid (HKEEP.out _ hb5'); clear hb5 hb5')
        | (go_at_call 40; refine (HCO.out _ HB5.out).mono ?_; rintro e x ⟨rfl, rfl⟩)
        | (go_at_call 18; refine (HSN.out _ HB5.out).mono ?_; rintro e x9 ⟨A9, c9, rfl, hn9, hb9⟩; have hb9' := HB5.out.trans (hb9.mono HB5.out.size); have HB9 := Lib.hid hb9'; have S9 := Lib.hid (HKEEP.out _ hb9'); have HE9 := Lib.hid (HEQ.out x9 hb9' A9 c9 hn9.sl); clear hn9 hb9 hb9')
        | (go_at_call 17; (with_reducible refine HE9.out.mono ?_); rintro e x ⟨rfl, rfl⟩)
        | (go_at_call 20; refine (HAL.out _ HB9.out).mono ?_; rintro e x10 ⟨v10, vs10, rfl, hr10, hb10⟩; obtain ⟨A10, c10, rfl, hrc10⟩ := RowsAt.recs hr10 HO10.out; have hb10' := HB9.out.trans (hb10.mono HB9.out.size); have HB10 := Lib.hid hb10'; have S10 := Lib.hid (HKEEP.out _ hb10'); have HA10 := Lib.hid (rSameAll_any A10 (some ⟨b7, o7 + 1, none⟩) c10 (c0 - 1) rest rest x10 hrc10 (HRC.out.later hb10') HRL.out HRL.out); clear hr10 hrc10 hb10 hb10')
        | (go_at_call 19; rw [HPN.out]; refine HA10.out.mono ?_; rintro e x11 ⟨rfl, hq⟩; have S11 := Lib.hid (HKEEP.out x11 (by obtain ⟨q, e⟩ := hq; rw [e]; exact below_drewN HB10.out q)); have HB11 := Lib.hid S11.out.2.2.2.2.2; clear hq))
      all_goals (
        clear k0
        go_wp2
        go_ret
        exact ⟨by simp, HB11.out⟩)
/-! ### same -/
/-- Two disks that are alike, in memory of the call's own. -/
def SameI (w W : World) (x y j : Nat) : Prop := ∃ S S2 M, DiskAt W S x M ∧ DiskAt W S2 y M ∧ (∀ q, S q → ¬ S2 q) ∧ (∀ q, S q ∨ S2 q → w.heap.size ≤ q) ∧ Below w.heap.size w W ∧ M.Octs ∧ M.ops ≤ 100000 + (j : Int)
theorem same_step {w W : World} {x y j : Nat} (f : FuncId) (args : Nat → Array Value) (val : AD → Ending → World → World → Prop) (m : AD → AD)
    (hf : ∀ {W : World} {S : Nat → Prop} {x : Nat} {M : AD}, DiskAt W S x M → M.ops ≤ 1000000 → Calls Tryz.prog f (args x) W fun e W' => val M e W W' ∧ ∃ S', DiskAt W' S' x (m M) ∧ Turn S W W' ∧ ∀ q, S' q → S q ∨ W.heap.size ≤ q)
    (hoc : ∀ {M : AD}, M.Octs → (m M).Octs) (hop : ∀ {M : AD}, (m M).ops ≤ M.ops + 10) (h : SameI w W x y j) (hj : j ≤ 1000) :
    ∃ M, M.Octs ∧ Calls Tryz.prog f (args x) W fun e W' => val M e W W' ∧ ∃ N, (∀ q, N q → w.heap.size ≤ q) ∧ Turn N W W' ∧ Calls Tryz.prog f (args y) W' fun e W'' => val M e W' W'' ∧ SameI w W'' x y (j + 10) ∧ ∃ N2, Turn N2 W' W'' ∧ ∀ q, N2 q → q < W.heap.size := by
  obtain ⟨S, S2, M, h1, h2, h3, h4, h5, h6, h7⟩ := h
  refine ⟨M, h6, (hf h1 (by omega)).mono ?_⟩
  rintro e W' ⟨hv, S', g1, g2, g3⟩
  refine ⟨hv, S, fun q hq => h4 q (.inl hq), g2, (hf (h2.other g2 (fun q hq e => h3 q e hq)) (by omega)).mono ?_⟩
  rintro e2 W'' ⟨hv2, S2', k1, k2, k3⟩
  have hz := g2.size
  have hz5 := h5.size
  have hlow2 : ∀ q, S2 q → q < W.heap.size := fun q hq => h2.low hq
  have hop' := @hop M
  have n2 : ∀ q, S' q → ¬ S2 q := fun q e1 e2 => (g3 q e1).elim (fun e => h3 q e e2) (fun e => by have := hlow2 q e2; omega)
  refine ⟨hv2, ⟨S', S2', m M, g1.other k2 n2, k1, fun q e1 e2 => (k3 q e2).elim (n2 q e1) (fun e => by have := g1.low e1; omega), fun q hq => ?_, ?_, hoc h6, by omega⟩, S2, k2, hlow2⟩
  · rcases hq with e | e
    · exact (g3 q e).elim (fun e => h4 q (.inl e)) (fun e => by omega)
    · exact (k3 q e).elim (fun e => h4 q (.inr e)) (fun e => by omega)
  · exact (h5.trans (g2.below hz5 (fun q hq => h4 q (.inl hq)))).trans (k2.below (Nat.le_trans hz5 hz) (fun q hq => h4 q (.inr hq)))
end

end Go.Proofs.YtienabfilnpieaaGreat

namespace Go.Proofs.YtienabfilnpieaaGreat
open Go.RowKit Go.Shelf
set_option linter.unusedVariables false
set_option linter.unusedSimpArgs false
set_option linter.unusedSimpArgs false
set_option maxRecDepth 100000

section
variable {w W : World} {x y j : Nat}
theorem same_crash (h : SameI w W x y j) (hj : j ≤ 1000) :
    Calls Tryz.prog 28 #[.pointer (some ⟨x, 0, none⟩), .slice none 0 0] W fun e W' => e = .returned (.int .i64 0) ∧
      Calls Tryz.prog 28 #[.pointer (some ⟨y, 0, none⟩), .slice none 0 0] W' fun e W'' => e = .returned (.int .i64 0) ∧ SameI w W'' x y (j + 10) := by
  obtain ⟨M, ho, key⟩ := same_step 28 (fun x => #[.pointer (some ⟨x, 0, none⟩), .slice none 0 0]) (fun _ e _ _ => e = .returned (.int .i64 0)) (fun M => M.crash [])
    (fun {W S x M} hd _ => (crash_any hd none 0 [] (fun hp => absurd hp (by simp)) (by simp) (by omega)).mono fun e w' hh => ⟨hh.1, _, hh.2.1, hh.2.2, fun q hq => hq.elim .inl (fun e => .inr e.1)⟩)
    (fun {M} ho => octs_crash ho []) (fun {M} => by show M.ops ≤ _; omega) h hj
  refine key.mono ?_
  rintro e W' ⟨rfl, N, hN, ht, key2⟩
  refine ⟨rfl, key2.mono ?_⟩
  rintro e W'' ⟨rfl, hs, _⟩
  exact ⟨rfl, hs⟩
theorem same_read (h : SameI w W x y j) (hj : j ≤ 1000) {k : Int} (hk : I64 k) :
    Calls Tryz.prog 42 #[.pointer (some ⟨x, 0, none⟩), .int .i64 k] W fun e W' => ∃ (A : Option Addr) (c n : Nat) (err : Int), e = .returned (.tuple #[.slice A n c, .int .i64 err]) ∧
      Calls Tryz.prog 42 #[.pointer (some ⟨y, 0, none⟩), .int .i64 k] W' fun e W'' => ∃ (A' : Option Addr) (c' : Nat), e = .returned (.tuple #[.slice A' n c', .int .i64 err]) ∧ SameI w W'' x y (j + 10) ∧
        ∀ X, Below W''.heap.size W'' X → Calls Tryz.prog 17 #[.slice A n c, .slice A' n c'] X fun e X' => e = .returned (.bool true) ∧ X = X' := by
  obtain ⟨M, ho, key⟩ := same_step 42 (fun x => #[.pointer (some ⟨x, 0, none⟩), .int .i64 k])
    (fun M e W W' => ∃ v, e = .returned (.tuple #[v, .int .i64 (M.opC k [])]) ∧ W'.ownsRow W.heap.size 5 1 v (M.readB k).length ((M.readB k).map (Value.int .u8))) (fun M => M.opM k [] M.met)
    (fun {W S x M} hd hops => (read_any hd hk (by omega)).mono fun e w' hh => by
      obtain ⟨v, e1, e2, e3, e4⟩ := hh
      exact ⟨⟨v, e1, e2⟩, S, e3, e4, fun q hq => .inl hq⟩)
    (fun {M} ho => octs_opM ho k [] (octs_met ho)) (fun {M} => by have := opM_ops (M := M) (M' := M.met) k [] rfl; omega) h hj
  refine key.mono ?_
  rintro e W' ⟨⟨v, rfl, hv⟩, N, hN, ht, key2⟩
  obtain ⟨A, c, rfl, _, _⟩ := own_form hv
  refine ⟨A, c, _, _, rfl, key2.mono ?_⟩
  rintro e W'' ⟨⟨v', rfl, hv'⟩, hs, N2, ht2, hN2⟩
  obtain ⟨A', c', rfl, _, _⟩ := own_form hv'
  have hrow : W''.ownsRow W.heap.size 5 1 (.slice A (M.readB k).length c) (M.readB k).length ((M.readB k).map (Value.int .u8)) := row_same hv fun g hg => by
    have hl := hv.lt g (by cases A <;> simp_all [Value.ownBlock, blk])
    exact ht2.block g hl.2 (fun e => by have := hN2 g e; omega)
  refine ⟨A', c', rfl, hs, fun X hX => ?_⟩
  have hoc := octs_readB ho k
  have key3 := equalAny A A' c c' (M.readB k) (M.readB k) X (Rd.own (row_later hrow hX)) (Rd.own (row_later hv' hX)) hoc hoc
  rw [decide_eq_true rfl] at key3
  exact key3

set_option maxHeartbeats 2000000 in
theorem same_any {S S2 : Nat → Prop} {M : AD} (h1 : DiskAt w S x M) (h2 : DiskAt w S2 y M) (ho : M.Octs) (hops : M.ops ≤ 100000) :
    Calls Tryz.prog 10 #[.pointer (some ⟨x, 0, none⟩), .pointer (some ⟨y, 0, none⟩)] w fun e w' => e = .returned (.bool true) ∧ Below w.heap.size w w' := by
  have HC1 := Lib.hid (copy_any h1)
  have HD2 := Lib.hid (fun X (hX : Below w.heap.size w X) => copy_any (h2.later hX))
  have HO := Lib.hid ho
  have HOP := Lib.hid hops
  clear h1 h2 ho hops
  go_enter Tryz.func10, Tryz.ntmps10
  go_wp2_with fail
  refine HC1.out.mono ?_
  rintro e w1 ⟨p, rfl, hd1, hb1⟩
  have HD1 := Lib.hid hd1
  have HB1 := Lib.hid hb1
  have HC2 := Lib.hid (HD2.out w1 hb1)
  clear hd1 hb1
  go_wp2_with fail
  refine HC2.out.mono ?_
  rintro e w2 ⟨q, rfl, hd2, hb2⟩
  have HS := Lib.hid (show SameI w w2 p q 0 from ⟨_, _, M, HD1.out.later hb2, hd2, fun i e1 e2 => by omega, fun i hi => by have := HB1.out.size; rcases hi with e | e <;> omega, HB1.out.trans (hb2.mono HB1.out.size), HO.out, by have := HOP.out; omega⟩)
  clear hd2 hb2
  have HCR := Lib.hid (same_crash HS.out (by omega))
  go_wp2_with fail
  refine HCR.out.mono ?_
  rintro e w3 ⟨rfl, hcr⟩
  have HCR2 := Lib.hid hcr
  clear hcr
  go_wp2_with fail
  refine HCR2.out.mono ?_
  rintro e w4 ⟨rfl, hs4⟩
  have HS4 := Lib.hid hs4
  clear hs4
  go_wp2_with fail
  go_loopw [24] (fun i wr => ∃ (k : Nat), i = .int .i64 k ∧ k ≤ 4 ∧ Hid (SameI w wr p q (10 + 10 * k))) (fun i _ => 4 - (match i with | .int _ k => k.toNat | _ => 0))
  case atStart => exact ⟨0, rfl, Nat.zero_le _, HS4⟩
  case round =>
    obtain ⟨k, rfl, hk, HI⟩ := hrel
    by_cases hk4 : k < 4
    · have hkk : (k : Int) < 4 := by omega
      have hki : I64 (k : Int) := by
        have h1 : k = 0 ∨ k = 1 ∨ k = 2 ∨ k = 3 := by omega
        rcases h1 with rfl | rfl | rfl | rfl <;> decide
      have HR := Lib.hid (fun (X : World) (hX : X = wr) => by subst hX; exact same_read HI.out (by omega) hki)
      clear hki
      go_wp2_with fail
      refine (HR.out _ rfl).mono ?_
      rintro e wa ⟨A, c, n, err, rfl, hr⟩
      have HR2 := Lib.hid hr
      clear hr
      go_wp2_with fail
      refine HR2.out.mono ?_
      rintro e wb ⟨A', c', rfl, hs, he⟩
      have HSN := Lib.hid hs
      have HEQ := Lib.hid (he wb (Below.refl _ _))
      clear hs he
      go_wp2_with (go_at_call 17; refine HEQ.out.mono ?_; rintro e wc ⟨rfl, rfl⟩)
      go_roundw
      case rel => exact ⟨k + 1, by go_num, by omega, Lib.hid (by have := HSN.out; rwa [show 10 + 10 * k + 10 = 10 + 10 * (k + 1) by omega] at this)⟩
      case measure => simp; omega
    · obtain rfl : k = 4 := by omega
      have HBL := Lib.hid (show Below w.heap.size w wr from by obtain ⟨_, _, _, _, _, _, _, h, _⟩ := HI.out; exact h)
      go_wp2
      go_ret
      exact ⟨rfl, HBL.out⟩
end

end Go.Proofs.YtienabfilnpieaaGreat
