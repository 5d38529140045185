/-
  Truncate.
-/
import Derived.Test.YtienabfilnpieaaGreatDiskSync
namespace Go.Proofs.YtienabfilnpieaaGreat
open Go.RowKit
set_option linter.unusedVariables false
set_option maxRecDepth 100000

def AF.cut (F : AF) (n : Nat) : AF := ⟨F.bs.take n, min F.syn n, F.kept⟩
theorem enter_cut (x p1 : Value) (W : World) : (callFunc 132 (#[x] ++ #[p1])).run Tryz.prog W = .ok (.enter 132 (#[x] ++ #[p1])) W := by kernel_rfl
theorem cut_disk {w : World} {S : Nat → Prop} {d mb : Nat} {M : AD} {f : Int → Option Value} {A : Int → Option Addr} {c : Int → Nat} (h : DiskIn w S d M mb f A c) {k : Int} (hk : Name k) (F : AF) (hF : M.files k = some F) (b m : Nat) (hb : w.cell? ⟨b, 0, none⟩ = some (.int .i64 m)) (hm : m ≤ F.bs.length) :
    Calls Tryz.prog 46 #[.pointer (some ⟨d, 0, none⟩), .int .i64 k, .func (.func 132) #[] #[.pointer (some ⟨b, 0, none⟩)]] w fun e w' => e = .returned (.tuple #[]) ∧ After S d w (M.put k (F.cut m)) w' := by
  have hblt : b < w.heap.size := by
    rcases Nat.lt_or_ge b w.heap.size with h1 | h1
    · exact h1
    · simp [World.cell?, Array.getElem?_eq_none h1] at hb
  refine keep_disk 132 #[.pointer (some ⟨b, 0, none⟩)] h hk F hF (F.cut m) m hm rfl (by simp [AF.cut]; omega) (enter_cut _ _) (fun W A0 c0 hbox hbel h1 h2 => ?_)
  exact cut_any hbox ((hbel.cell (p := ⟨b, 0, none⟩) hblt).trans hb) (by omega) hm h1 h2 (h.ok.syn k F hF)

theorem enter_trunc1 (p1 p2 p3 : Value) (W : World) : (callFunc 117 #[p1, p2, p3]).run Tryz.prog W = .ok (.enter 117 #[p1, p2, p3]) W := by kernel_rfl

set_option maxHeartbeats 800000 in
theorem trunc1_any {W : World} {S : Nat → Prop} {d mb : Nat} {M : AD} {f : Int → Option Value} {A : Int → Option Addr} {c : Int → Nat} (h : DiskIn W S d M mb f A c) {k : Int} (hk : Name k) (F : AF) (hF : M.files k = some F) (m : Nat) (hm : m ≤ F.bs.length) (p q r : Nat)
    (hp : W.cell? ⟨p, 0, none⟩ = some (.pointer (some ⟨d, 0, none⟩))) (hq : W.cell? ⟨q, 0, none⟩ = some (.int .i64 k)) (hr : W.cell? ⟨r, 0, none⟩ = some (.int .i64 m)) (np : ¬ S p) (nq : ¬ S q) (nr : ¬ S r) :
    Calls Tryz.prog 117 #[.pointer (some ⟨p, 0, none⟩), .pointer (some ⟨q, 0, none⟩), .pointer (some ⟨r, 0, none⟩)] W fun e w' => e = .returned (.tuple #[]) ∧ After S d W (M.put k (F.cut m)) w' := by
  have hlt : ∀ {x : Nat} {v : Value}, W.cell? ⟨x, 0, none⟩ = some v → x < W.heap.size := fun {x v} hx => by
    rcases Nat.lt_or_ge x W.heap.size with h1 | h1
    · exact h1
    · simp [World.cell?, Array.getElem?_eq_none h1] at hx
  have lp := hlt hp
  have lq := hlt hq
  have lr := hlt hr
  have NP := Lib.hid np
  have NQ := Lib.hid nq
  have NR := Lib.hid nr
  have HD := Lib.hid h
  have HF := Lib.hid hF
  clear h hF hlt np nq nr
  go_enter Tryz.func117, Tryz.ntmps117
  go_wp2
  go_region_held3 (fun w' => w'.cell? ⟨p, 0, none⟩ = some (.pointer (some ⟨d, 0, none⟩)) ∧ w'.cell? ⟨q, 0, none⟩ = some (.int .i64 k) ∧ w'.cell? ⟨r, 0, none⟩ = some (.int .i64 m)) (first | exact ⟨hp, hq, hr⟩ | exact ⟨hp1, hq1, hr1⟩ | exact ⟨hp2, hq2, hr2⟩)
    (first
      | (go_at_call 118; refine (cutAt_any m _).mono ?_; rintro e w1 ⟨rfl, hw1⟩; have hb1 : Below W.heap.size W w1 := (by rw [hw1]; exact ((Below.refl _ W).drew).alloc (Nat.le_refl _) _); have hc1 : w1.cell? ⟨W.heap.size, 0, none⟩ = some (.int .i64 m) := (by rw [hw1]; exact cell_new W.drew _ _ 0); have hp1 := (hb1.cell (p := ⟨p, 0, none⟩) lp).trans hp; have hq1 := (hb1.cell (p := ⟨q, 0, none⟩) lq).trans hq; have hr1 := (hb1.cell (p := ⟨r, 0, none⟩) lr).trans hr; have HB1 := Lib.hid hb1; have HC1 := Lib.hid hc1; clear hb1 hc1 hw1)
      | (go_at_call 46; refine (cut_disk (HD.out.later HB1.out) hk F HF.out _ m HC1.out hm).mono ?_; rintro e w2 ⟨rfl, haf⟩; have hsz := HB1.out.size; have hp2 := (World.cell?_of_block (a := ⟨p, 0, none⟩) (haf.2.block p (by omega) NP.out)).trans hp1; have hq2 := (World.cell?_of_block (a := ⟨q, 0, none⟩) (haf.2.block q (by omega) NQ.out)).trans hq1; have hr2 := (World.cell?_of_block (a := ⟨r, 0, none⟩) (haf.2.block r (by omega) NR.out)).trans hr1; have HAF := Lib.hid haf; clear haf))
  all_goals go_wp2
  all_goals go_end0
  all_goals exact ⟨rfl, After.then ⟨mb, f, A, c, HD.out⟩ (Turn.of_below HB1.out) HAF.out⟩

/-- Three boxes. -/
theorem boxes3 (w : World) (u v x : Value) (t t' t'' : TypeId) : (((w.alloc (.cells #[u] t)).alloc (.cells #[v] t')).alloc (.cells #[x] t'')).cell? ⟨w.heap.size, 0, none⟩ = some u ∧ (((w.alloc (.cells #[u] t)).alloc (.cells #[v] t')).alloc (.cells #[x] t'')).cell? ⟨w.heap.size + 1, 0, none⟩ = some v ∧
    (((w.alloc (.cells #[u] t)).alloc (.cells #[v] t')).alloc (.cells #[x] t'')).cell? ⟨w.heap.size + 2, 0, none⟩ = some x ∧
    Below w.heap.size w (((w.alloc (.cells #[u] t)).alloc (.cells #[v] t')).alloc (.cells #[x] t'')) ∧ (((w.alloc (.cells #[u] t)).alloc (.cells #[v] t')).alloc (.cells #[x] t'')).heap.size = w.heap.size + 3 := by
  obtain ⟨h1, h2, h3, h4⟩ := boxes w u v t t'
  refine ⟨Lib.cell?_alloc_some _ h1, Lib.cell?_alloc_some _ h2, ?_, h3.alloc h3.size _, by rw [World.size_alloc, h4]⟩
  have h5 := cell_new ((w.alloc (.cells #[u] t)).alloc (.cells #[v] t')) #[x] t'' 0
  rw [h4] at h5
  exact h5

def AD.truncC (M : AD) (k n : Int) : Int := if M.ask k [] = 0 then (if n < 0 ∨ M.len k < n then 2 else M.err) else M.ask k []
def AD.truncM (M : AD) (k n : Int) : AD := if M.ask k [] = 0 then (if n < 0 ∨ M.len k < n then M else if M.err = 0 then M.met.put k ((M.file k).cut n.toNat) else M.met) else M

theorem truncate_nil (w : World) (k n : Int) : Calls Tryz.prog 83 #[.pointer none, .int .i64 k, .int .i64 n] w fun e w' => e = .returned (.int .i64 1) ∧ Below w.heap.size w w' := by
  obtain ⟨_, _, _, hb, hsz⟩ := boxes3 w (.pointer none) (.int .i64 k) (.int .i64 n) 24 3 3
  have HB := Lib.hid hb
  clear hb
  go_enter Tryz.func83, Tryz.ntmps83
  go_wp2_with (go_at_call 48; refine (ready_nil _ k _ _ [] (World.ownsRow_nil _ _ _ _) (by simp) (Nat.le_refl _)).mono ?_; rintro e w' ⟨rfl, hb1⟩; have HB1 := Lib.hid hb1; clear hb1)
  go_ret
  exact ⟨rfl, HB.out.trans (HB1.out.mono HB.out.size)⟩

theorem DiskAt.drewN {w : World} {S : Nat → Prop} {d : Nat} {M : AD} (h : DiskAt w S d M) (q : Nat) : DiskAt (w.drewN q) S d M := by
  obtain ⟨mb, f, A, c, h⟩ := h
  exact ⟨mb, f, A, c, h.turn (fun _ _ => rfl) (Nat.le_refl _)⟩
theorem size_st {w : World} {S : Nat → Prop} {d : Nat} {M : AD} (h : DiskAt w S d M) {k : Int} (hk : I64 k) : Calls Tryz.prog 15 #[.pointer (some ⟨d, 0, none⟩), .int .i64 k] w fun e w' => e = .returned (.int .i64 (M.len k)) ∧ w' = w := (size_any h hk).mono fun _ _ ⟨a, b⟩ => ⟨a, b.symm⟩

set_option maxHeartbeats 800000 in
theorem truncate_any {w : World} {S : Nat → Prop} {d : Nat} {M : AD} (h : DiskAt w S d M) {k n : Int} (hk : I64 k) (hn : I64 n) (hops : M.ops < 4611686018427387904) :
    Calls Tryz.prog 83 #[.pointer (some ⟨d, 0, none⟩), .int .i64 k, .int .i64 n] w fun e w' => e = .returned (.int .i64 (M.truncC k n)) ∧ After S d w (M.truncM k n) w' := by
  obtain ⟨mb, f, A, c, h⟩ := h
  obtain ⟨hp, hq, hr, hb, hsz⟩ := boxes3 w (.pointer (some ⟨d, 0, none⟩)) (.int .i64 k) (.int .i64 n) 24 3 3
  have HB := Lib.hid hb
  have HD := Lib.hid h
  have HD1 := Lib.hid (h.later hb)
  have HS := Lib.hid hsz
  have HP := Lib.hid hp
  have HQ := Lib.hid hq
  have HR := Lib.hid hr
  obtain ⟨ac, hac⟩ : ∃ ac, ac = M.ask k [] := ⟨_, rfl⟩
  have HA := Lib.hid hac
  clear hb h hsz hp hq hr hac
  by_cases hz : ac = 0
  · subst hz
    obtain ⟨_, hname, _, F, hF⟩ := ask_there HA.out.symm
    have HF := Lib.hid hF
    have hle : M.len k ≤ 65536 := by have h1 := len_le M hname; have h2 := HD.out.ok.tot; have h3 := HD.out.ok.room2; omega
    clear hF
    by_cases h0 : n < 0
    · have e1 : M.truncC k n = 2 := by simp [AD.truncC, ← HA.out, h0]
      have e2 : M.truncM k n = M := by simp [AD.truncM, ← HA.out, h0]
      rw [e1, e2]
      clear e1 e2
      go_enter Tryz.func83, Tryz.ntmps83
      go_wp2_with (go_at_call 48; refine (ready_any ⟨mb, f, A, c, HD1.out⟩ hk _ _ [] (World.ownsRow_nil _ _ _ _) (by simp) (Nat.le_refl _) HD1.out.low).mono ?_; rw [← HA.out]; rintro e w2 ⟨rfl, hb2⟩; have c1 := (hb2.cell (p := ⟨w.heap.size, 0, none⟩) (by rw [HS.out]; simp)).trans HP.out; have c2 := (hb2.cell (p := ⟨w.heap.size + 1, 0, none⟩) (by rw [HS.out]; simp)).trans HQ.out; have c3 := (hb2.cell (p := ⟨w.heap.size + 2, 0, none⟩) (by rw [HS.out]; simp)).trans HR.out; have HB2 := Lib.hid hb2; clear hb2)
      go_quiet (fail)
      go_wp2
      go_ret
      exact ⟨rfl, After.same ⟨mb, f, A, c, HD.out⟩ (below_drewN (HB.out.trans (HB2.out.mono HB.out.size)) _)⟩
    · have hd0 : decide (n < 0) = false := by simp; omega
      have hn0 : 0 ≤ n := by omega
      by_cases h1 : (M.len k : Int) < n
      · have e1 : M.truncC k n = 2 := by simp [AD.truncC, ← HA.out, h1]
        have e2 : M.truncM k n = M := by simp [AD.truncM, ← HA.out, h1]
        rw [e1, e2]
        clear e1 e2
        go_enter Tryz.func83, Tryz.ntmps83
        go_wp2_with (go_at_call 48; refine (ready_any ⟨mb, f, A, c, HD1.out⟩ hk _ _ [] (World.ownsRow_nil _ _ _ _) (by simp) (Nat.le_refl _) HD1.out.low).mono ?_; rw [← HA.out]; rintro e w2 ⟨rfl, hb2⟩; have c1 := (hb2.cell (p := ⟨w.heap.size, 0, none⟩) (by rw [HS.out]; simp)).trans HP.out; have c2 := (hb2.cell (p := ⟨w.heap.size + 1, 0, none⟩) (by rw [HS.out]; simp)).trans HQ.out; have c3 := (hb2.cell (p := ⟨w.heap.size + 2, 0, none⟩) (by rw [HS.out]; simp)).trans HR.out; have HB2 := Lib.hid hb2; clear hb2)
        go_quiet ((go_at_call 15; refine Calls.quiet_of_same (size_st (DiskAt.drewN ⟨mb, f, A, c, HD1.out.later HB2.out⟩ _) hk)))
        go_wp2
        go_ret
        exact ⟨rfl, After.same ⟨mb, f, A, c, HD.out⟩ (below_drewN (HB.out.trans (HB2.out.mono HB.out.size)) _)⟩
      · have hd1 : decide ((M.len k : Int) < n) = false := by simp; omega
        have hno : ¬ (n < 0 ∨ (M.len k : Int) < n) := by omega
        have e1 : M.truncC k n = M.err := by unfold AD.truncC; rw [← HA.out, if_pos rfl, if_neg hno]
        have e2 : M.truncM k n = if M.err = 0 then M.met.put k ((M.file k).cut n.toNat) else M.met := by unfold AD.truncM; rw [← HA.out, if_pos rfl, if_neg hno]
        have hlF : M.len k = F.bs.length := by simp [AD.len, HF.out]
        have hmF : n.toNat ≤ F.bs.length := by omega
        clear hlF
        have hnn : (n.toNat : Int) = n := by omega
        have HNN := Lib.hid hnn
        clear hnn
        rw [e1]
        have E2 := Lib.hid e2
        clear e1 e2 hno h1 h0
        go_enter Tryz.func83, Tryz.ntmps83
        go_wp2_with (go_at_call 48; refine (ready_any ⟨mb, f, A, c, HD1.out⟩ hk _ _ [] (World.ownsRow_nil _ _ _ _) (by simp) (Nat.le_refl _) HD1.out.low).mono ?_; rw [← HA.out]; rintro e w2 ⟨rfl, hb2⟩; have c1 := (hb2.cell (p := ⟨w.heap.size, 0, none⟩) (by rw [HS.out]; simp)).trans HP.out; have c2 := (hb2.cell (p := ⟨w.heap.size + 1, 0, none⟩) (by rw [HS.out]; simp)).trans HQ.out; have c3 := (hb2.cell (p := ⟨w.heap.size + 2, 0, none⟩) (by rw [HS.out]; simp)).trans HR.out; have HB2 := Lib.hid hb2; clear hb2)
        go_quiet ((go_at_call 15; refine Calls.quiet_of_same (size_st (DiskAt.drewN ⟨mb, f, A, c, HD1.out.later HB2.out⟩ _) hk)))
        go_wp2_with fail
        have hdn : DiskIn (w2.drewN nq) S d M mb f A c := (HD1.out.later HB2.out).turn (fun _ _ => rfl) (Nat.le_refl _)
        refine (operate_in 117 _ hdn hops (fun W' => ∃ W1, (w2.drewN nq).grownBy W1 (some d) ∧ After S d W1 (M.met.put k ((M.file k).cut n.toNat)) W') (enter_trunc1 _ _ _) ?_).mono ?_
        · intro W hDW hgW
          have hfile : M.file k = F := by simp [AD.file, HF.out]
          refine (trunc1_any hDW hname F (by rw [met_files]; exact HF.out) n.toNat hmF _ _ _ (hdn.keeps hgW (fun i hi => HD.out.low i hi) c1) (hdn.keeps hgW (fun i hi => by have := HD.out.low i hi; omega) c2) (by rw [HNN.out]; exact hdn.keeps hgW (fun i hi => by have := HD.out.low i hi; omega) c3) (fun e => by have := HD.out.low _ e; omega) (fun e => by have := HD.out.low _ e; omega) (fun e => by have := HD.out.low _ e; omega)).mono ?_
          rw [hfile]
          rintro e w' ⟨rfl, haf⟩
          exact ⟨rfl, W, hgW, haf⟩
        · rintro e w3 ⟨rfl, hdone⟩
          have HDN := Lib.hid hdone
          clear hdone hdn
          go_wp2
          go_ret
          exact ⟨rfl, by rw [E2.out]; exact op_after HD.out (below_drewN (HB.out.trans (HB2.out.mono HB.out.size)) _) HDN.out⟩
  · have e1 : M.truncC k n = ac := by rw [HA.out] at hz ⊢; simp [AD.truncC, hz]
    have e2 : M.truncM k n = M := by rw [HA.out] at hz; simp [AD.truncM, hz]
    rw [e1, e2]
    clear e1 e2
    have hz1 : (ac == 0) = false := by simp [hz]
    have hz2 : (ac != 0) = true := by simp [hz]
    go_enter Tryz.func83, Tryz.ntmps83
    go_wp2_with (go_at_call 48; refine (ready_any ⟨mb, f, A, c, HD1.out⟩ hk _ _ [] (World.ownsRow_nil _ _ _ _) (by simp) (Nat.le_refl _) HD1.out.low).mono ?_; rw [← HA.out]; rintro e w2 ⟨rfl, hb2⟩; have c1 := (hb2.cell (p := ⟨w.heap.size, 0, none⟩) (by rw [HS.out]; simp)).trans HP.out; have c2 := (hb2.cell (p := ⟨w.heap.size + 1, 0, none⟩) (by rw [HS.out]; simp)).trans HQ.out; have c3 := (hb2.cell (p := ⟨w.heap.size + 2, 0, none⟩) (by rw [HS.out]; simp)).trans HR.out; have HB2 := Lib.hid hb2; clear hb2)
    go_ret
    exact ⟨rfl, After.same ⟨mb, f, A, c, HD.out⟩ (HB.out.trans (HB2.out.mono HB.out.size))⟩

end Go.Proofs.YtienabfilnpieaaGreat
