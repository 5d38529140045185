/-
  Checkpoint: a new snapshot in the place of all parts, or not.
  Where parts end; what stands behind them is cut away.
  What a head says: limitOf; HasPrefix of any two.
  A range over a function whose iterator keeps cells of its own, writes them between two rounds, and hands out what it has just made.
-/
import Derived.Test.YtienabfilnpieaaGreatWalC
import Derived.Deep.CutRange
import Derived.Test.YtienabfilnpieaaGreatWalA
import Derived.Test.YtienabfilnpieaaGreatDiskTrunc
import Derived.Lib.Bytes
import Derived.RangeFuncWrites
namespace Go.Proofs.YtienabfilnpieaaGreat
open Go.RowKit
set_option linter.unusedVariables false
set_option linter.unusedSimpArgs false
set_option maxRecDepth 100000

def AW.chkC (V : AW) (M : AD) (b : List Int) : Int := if V.refC b.length V.most ≠ 0 then V.refC b.length V.most else M.makeC (fileM V.most b)
def AW.chkV (V : AW) (M : AD) (b : List Int) : AW := if V.refC b.length V.most ≠ 0 then V else if M.makeC (fileM V.most b) ≠ 0 then ⟨V.most, V.parts, true⟩ else ⟨V.most, [b], false⟩
def AW.chkD (V : AW) (M : AD) (b : List Int) : AD := if V.refC b.length V.most ≠ 0 then M else M.makeM (fileM V.most b)
theorem chkV_ok {V : AW} (h : V.Ok) (M : AD) (b : List Int) : (V.chkV M b).Ok := by
  unfold AW.chkV
  split
  · exact h
  · rename_i hr
    split
    · exact ⟨h.lim, h.one, h.cost⟩
    · refine ⟨h.lim, by simp, ?_⟩
      show (costM [b] : Int) ≤ V.most
      rw [costM_one]
      have : fitsC b.length V.most = 0 := by
        have e : V.refC b.length V.most = 0 := by simpa using hr
        unfold AW.refC at e
        split at e
        · simp at e
        · exact e
      unfold fitsC at this
      split at this
      · simp at this
      · split at this
        · simp at this
        · rename_i h1 h2
          omega

/-- The log has one part alone, a new one. -/
theorem WalIn.fresh {X W : World} {T : Nat → Prop} {g d : Nat} {V : AW} {A : Option Addr} {c : Nat} {vs : List Value} (h : WalIn X T g d V A c vs) {b : List Int} (ho : Oct b) {A1 : Option Addr} {c1 : Nat} (hb : Below X.heap.size X W)
    (hn : W.ownsRow X.heap.size 5 1 (.slice A1 b.length c1) b.length (b.map (Value.int .u8))) {q : Nat} (hq : X.heap.size ≤ q) (hr : W.ownsRow 0 33 1 (.slice (some ⟨q, 0, none⟩) 1 1) 1 [.slice A1 b.length c1]) :
    WalAt (W.setCell ⟨g, 1, none⟩ (.slice (some ⟨q, 0, none⟩) 1 1)) (fun k => T k ∨ (X.heap.size ≤ k ∧ k < W.heap.size)) g d { V with parts := [b] } ∧ Turn (fun k => T k) X (W.setCell ⟨g, 1, none⟩ (.slice (some ⟨q, 0, none⟩) 1 1)) := by
  have hW := h.later hb
  have hgl := h.low _ h.inT
  have hbs := hb.size
  have hoth : ∀ k, k ≠ g → (W.setCell ⟨g, 1, none⟩ (.slice (some ⟨q, 0, none⟩) 1 1)).heap[k]? = W.heap[k]? := fun k hk => Below.heap_setCell _ _ _ _ hk
  have hbox3 := heap_set hW.box 1 (.slice (some ⟨q, 0, none⟩) 1 1)
  have hql := hr.lt q rfl
  refine ⟨⟨some ⟨q, 0, none⟩, 1, [.slice A1 b.length c1], ?_, ⟨?_, fun i p hp => ?_, fun k hk => ?_⟩, .inl h.inT, fun k hk => ?_⟩, ?_⟩
  · have e : (walA V A c d).setIfInBounds 1 (.slice (some ⟨q, 0, none⟩) 1 1) = walA { V with parts := [b] } (some ⟨q, 0, none⟩) 1 d := by simp [walA]
    rw [← e]
    exact hbox3
  · exact row_same hr fun k hk => hoth k (fun e => by
      have : q = k := by simpa [blk] using hk
      omega)
  · have hp : ([b] : List (List Int))[i]? = some p := hp
    rcases i with _ | i
    · have : b = p := by simpa using hp
      subst this
      have h2 : W.ownsRow 0 5 1 (.slice A1 b.length c1) b.length (b.map (Value.int .u8)) := New.low (A := A1) (bs := b) hn (Nat.zero_le _)
      have hlt : ∀ k, blk A1 = some k → X.heap.size ≤ k ∧ k < W.heap.size := fun k hk => hn.lt k (by cases A1 <;> simp_all [Value.ownBlock, blk])
      exact ⟨A1, c1, rfl, row_same h2 fun k hk => hoth k (fun e => by have := (hlt k hk).1; omega), fun k hk => .inr (hlt k hk), ho⟩
    · simp at hp
  · have : q = k := by simpa [blk] using hk
    exact .inr (by omega)
  · have hsz : (W.setCell ⟨g, 1, none⟩ (.slice (some ⟨q, 0, none⟩) 1 1)).heap.size = W.heap.size := by simp [World.setCell]
    rcases hk with e | e
    · have := h.low k e; omega
    · omega
  · refine ⟨hb.os, hb.tape, hb.output, by simp [World.setCell]; omega, fun k hk hnT => ?_⟩
    rw [hoth k (fun e => hnT (e ▸ h.inT))]
    exact hb.block k hk

set_option maxHeartbeats 4000000 in
theorem check_anyW {w : World} {S T : Nat → Prop} {g d : Nat} {V : AW} {M : AD} (h : Log w S T g d V M) (hops : M.ops < 4611686018427387000) {A : Option Addr} {l c : Nat} {b : List Int} (hl : b.length = l) (hs : Sl w A c b) (ho : Oct b) (hb : b.length ≤ 100000)
    (hA : ∀ k, blk A = some k → ¬ S k) :
    Calls Tryz.prog 24 #[.pointer (some ⟨g, 0, none⟩), .slice A l c] w fun e w' => e = .returned (.int .i64 (V.chkC M b)) ∧ ∃ S' T', Log w' S' T' g d (V.chkV M b) (V.chkD M b) ∧ Moved S T S' T' w w' := by
  have H := Lib.hid h
  have HX := Lib.hid (And.intro ho (And.intro hb hl))
  have HS := Lib.hid hs
  have HLW := Lib.hid (show ∀ k, S k ∨ T k → k < w.heap.size from fun k hk => hk.elim (fun e => h.disk.low e) (fun e => h.wal.low e))
  have HMO := Lib.hid (most_any h.wal)
  obtain ⟨rc, hrc⟩ : ∃ rc, rc = V.refC l V.most := ⟨_, rfl⟩
  have HRF := Lib.hid (refuse_any h.wal A l c V.most (by rw [← hl]; omega))
  rw [← hrc] at HRF
  have HRC := Lib.hid (show V.refC b.length V.most = rc by rw [hrc, hl])
  obtain ⟨A1, c1, vs, hw⟩ := h.wal
  have HWI := Lib.hid hw
  obtain ⟨n, hn⟩ : ∃ n, n = V.most := ⟨_, rfl⟩
  have HN := Lib.hid hn
  have cg0 := hw.c0
  have cg2 := hw.c2
  rw [← hn] at cg0 HMO HRF
  have HC := Lib.hid (And.intro cg0 cg2)
  have hnl := h.ok.lim
  rw [← hn] at hnl
  have hgl := lt_of_block hw.box
  clear h hs ho hb hl hrc hw hn cg0 cg2
  have keep : Hid (∀ W, Below w.heap.size w W → W.cell? ⟨g, 0, none⟩ = some (.int .i64 n) ∧ W.cell? ⟨g, 2, none⟩ = some (.pointer (some ⟨d, 0, none⟩))) := fun W hW =>
    ⟨(hW.cell (p := ⟨g, 0, none⟩) hgl).trans HC.out.1, (hW.cell (p := ⟨g, 2, none⟩) hgl).trans HC.out.2⟩
  by_cases hz : rc = 0
  · have t1 : (rc != 0) = false := by simp [hz]
    have HZ := Lib.hid hz
    obtain ⟨cc, hcc⟩ : ∃ cc, cc = M.makeC (fileM V.most b) := ⟨_, rfl⟩
    have HCC := Lib.hid hcc
    obtain ⟨X0, hX0⟩ : ∃ X0, X0 = w.drew := ⟨_, rfl⟩
    have hb0 : Below w.heap.size w X0 := by rw [hX0]; exact below_drewN (Below.refl _ _) 1
    have hs0 : X0.heap.size = w.heap.size := by rw [hX0]; rfl
    have HRN := Lib.hid (renewing_any X0 d n A l c)
    rw [hs0] at HRN
    have HLY := Lib.hid (fun (W : World) (hR : Renewed W w.heap.size d n A l c) (hW : Below w.heap.size w W) => (show Calls Tryz.prog 67 #[.pointer (some ⟨g, 0, none⟩), .slice (some ⟨w.heap.size + 3, 0, none⟩) 4 4] W fun e w' => e = .returned (.int .i64 cc) ∧ ∃ w1, After S d W (M.makeM (fileM V.most b)) w1 ∧ w' = w1.setCell ⟨g, 3, none⟩ (.bool (!decide (cc = 0))) from by
      rw [hcc, ← HN.out]
      have hwal := H.out.wal.later hW
      exact layW_any (g := g) (make_any (H.out.disk.later hW) hops (n := n) (by have := hnl.1; have := hnl.2; omega) HX.out.2.2 (HS.out.below hW) HX.out.1 HX.out.2.1 hA hR (fun j hj e => by have := HLW.out _ (.inl e); omega)) (fun w' ha => by
        obtain ⟨A5, c5, vs5, h5⟩ := hwal.other ha.2 H.out.sep
        exact ⟨⟨_, h5.c3⟩, h5.fz 3⟩)))
    have HX0 := Lib.hid hX0
    have HB0 := Lib.hid hb0
    have HCL := Lib.hid (fun (W : World) (hW : Sl W A c b) => (show Calls Tryz.prog 65 #[.slice A l c] W fun e w' => ∃ A3 c3, e = .returned (.slice A3 l c3) ∧ w'.ownsRow W.heap.size 5 1 (.slice A3 l c3) l (b.map (Value.int .u8)) ∧ Below W.heap.size W w' from by
      have hk := clone_b A c b W hW (by have := HX.out.2.1; omega)
      unfold GivesB New at hk
      rw [HX.out.2.2] at hk
      exact hk))
    clear hz hcc hX0 hb0 hs0 hnl
    go_enter Tryz.func24, Tryz.ntmps24
    go_upto_region 4 with (first
      | (go_at_call 16; refine HMO.out.mono ?_; rintro e w' ⟨rfl, rfl⟩)
      | (go_at_call 66; refine HRF.out.mono ?_; rintro e w' ⟨rfl, rfl⟩))
    have k0 := keep.out w.drew (below_drewN (Below.refl _ _) 1)
    go_cut [6] from 15 to 27 (fun s6 X => s6 = .int .i64 cc ∧ Hid (∃ W2 w5, Below w.heap.size w W2 ∧ After S d W2 (M.makeM (fileM V.most b)) w5 ∧ X = w5.setCell ⟨g, 3, none⟩ (.bool (!decide (cc = 0)))))
    case first =>
      go_region_held3 (fun W => W.cell? ⟨g, 0, none⟩ = some (.int .i64 n) ∧ W.cell? ⟨g, 2, none⟩ = some (.pointer (some ⟨d, 0, none⟩))) (first | exact k0 | exact K2.out | exact K6.out) (first
        | (go_at_call 71; rw [← HX0.out]; refine HRN.out.mono ?_; rintro e w2 ⟨rfl, hR, hb2⟩; have hb2' : Below w.heap.size w w2 := HB0.out.trans hb2; have HL2 := Lib.hid (HLY.out w2 hR hb2'); have K2 := Lib.hid (keep.out w2 hb2'); have HB2 := Lib.hid hb2'; clear hR hb2 hb2')
        | (go_at_call 67; refine HL2.out.mono ?_; rintro e w6 ⟨rfl, w5, ha5, rfl⟩; have K6 := Lib.hid (show (w5.setCell ⟨g, 3, none⟩ (.bool (!decide (cc = 0)))).cell? ⟨g, 0, none⟩ = some (.int .i64 n) ∧ (w5.setCell ⟨g, 3, none⟩ (.bool (!decide (cc = 0)))).cell? ⟨g, 2, none⟩ = some (.pointer (some ⟨d, 0, none⟩)) from (by have h5 := ((HWI.out.later HB2.out).other ha5.2 H.out.sep).mark (!decide (cc = 0)); have e0 := h5.c0; have e2 := h5.c2; dsimp only at e0; rw [← HN.out] at e0; exact ⟨e0, e2⟩)); have HA5 := Lib.hid ha5; clear ha5))
      all_goals (
        go_wp2_with fail
        go_meet
        exact ⟨rfl, Lib.hid ⟨_, _, HB2.out, HA5.out, rfl⟩⟩)
    case rest =>
      obtain ⟨rfl, HR⟩ := hcut
      have hfacts : ∃ S', (∃ A1 c1 vs, WalIn wc T g d ⟨V.most, V.parts, !decide (cc = 0)⟩ A1 c1 vs) ∧ DiskAt wc S' d (M.makeM (fileM V.most b)) ∧ Turn (fun k => S k ∨ T k) w wc ∧ (∀ k, T k → ¬ S' k) ∧ (∀ k, S' k → S k ∨ w.heap.size ≤ k) ∧ Sl wc A c b := by
        obtain ⟨W2, w5, hb2, ha5, rfl⟩ := HR.out
        have h5 := (HWI.out.later hb2).other ha5.2 H.out.sep
        have hts : Turn (fun k => k = g) w5 (w5.setCell ⟨g, 3, none⟩ (.bool (!decide (cc = 0)))) := ⟨rfl, rfl, rfl, by simp [World.setCell], fun k hk hn => Below.heap_setCell _ _ _ _ hn⟩
        have hz2 := hb2.size
        have hgS : ∀ k, grew S W2 w5 k → ¬ k = g := fun k hk e => by
          subst e
          rcases hk with e | e
          · exact H.out.sep _ H.out.wal.inT e
          · omega
        refine ⟨grew S W2 w5, ⟨_, _, _, h5.mark _⟩, ha5.1.other hts hgS, ((Turn.of_below (S := fun k => S k ∨ T k) hb2).trans ha5.2 (fun k e => .inl (.inl e))).trans hts (fun k e => .inl (.inr (by have e : k = g := e; rw [e]; exact H.out.wal.inT))), fun k hk e => ?_, fun k e => ?_, ?_⟩
        · rcases e with e | e
          · exact H.out.sep _ hk e
          · have h1 := HLW.out k (.inr hk); omega
        · rcases e with e | e
          · exact .inl e
          · exact .inr (by omega)
        · exact ((HS.out.below hb2).turn ha5.2 hA).only (g := g) ⟨rfl, rfl, rfl, by simp [World.setCell], fun k hk hn => Below.heap_setCell _ _ _ _ (by simpa using hn)⟩ h5.odd
      obtain ⟨S', ⟨A5, c5, vs5, hX⟩, hdX, htX, hms, hmg, slX⟩ := hfacts
      have HX1 := Lib.hid hX
      have HDX := Lib.hid hdX
      have HTX := Lib.hid htX
      have HMS := Lib.hid hms
      have HMG := Lib.hid hmg
      have HSX := Lib.hid slX
      clear hX hdX htX hms hmg slX HR k0 HLY HRN HB0 HX0
      by_cases hc0 : cc = 0
      · have t2 : (cc == 0) = true := by simp [hc0]
        have HC0 := Lib.hid hc0
        have e1 : V.chkC M b = cc := by unfold AW.chkC; rw [HRC.out, if_neg (by rw [HZ.out]; simp), ← HCC.out]
        have e2 : V.chkV M b = ⟨V.most, [b], false⟩ := by unfold AW.chkV; rw [HRC.out, if_neg (by rw [HZ.out]; simp), ← HCC.out, if_neg (by rw [HC0.out]; simp)]
        have e3 : V.chkD M b = M.makeM (fileM V.most b) := by unfold AW.chkD; rw [HRC.out, if_neg (by rw [HZ.out]; simp)]
        have hok : (⟨V.most, [b], false⟩ : AW).Ok := by rw [← e2]; exact chkV_ok H.out.ok M b
        have hin := HX1.out
        rw [show (!decide (cc = 0)) = false by simp [hc0]] at hin
        have HIN := Lib.hid hin
        have HE := Lib.hid (And.intro e1 (And.intro e2 e3))
        have HOK := Lib.hid hok
        have HCW := Lib.hid (HCL.out wc HSX.out)
        clear hc0 e1 e2 e3 hok hin HCL
        go_upto_region 7 with (go_at_call 65; refine HCW.out.mono ?_; rintro e wC ⟨A3, c3, rfl, hnC, hbC⟩; have h6 := (HIN.out.later hbC); have h7 := h6.later (w' := wC.alloc (.cells #[.slice A3 l c3] 33)) ((Below.refl _ wC).alloc (Nat.le_refl _) _); have cg1 := h7.c1; have fg1 := h7.fz 1; clear h7; have HBC := Lib.hid hbC; have HNC := Lib.hid hnC; clear h6 hbC hnC)
        obtain ⟨WD, hWD⟩ : ∃ WD, WD = wC.alloc (.cells #[.slice A3 l c3] 33) := ⟨_, rfl⟩
        have hbD : Below wc.heap.size wc WD := by rw [hWD]; exact HBC.out.alloc HBC.out.size _
        have hnC' : wC.ownsRow wc.heap.size 5 1 (.slice A3 b.length c3) b.length (b.map (Value.int .u8)) := by rw [HX.out.2.2]; exact HNC.out
        have hrD : WD.ownsRow 0 33 1 (.slice (some ⟨wC.heap.size, 0, none⟩) 1 1) 1 [.slice A3 b.length c3] := by rw [hWD, HX.out.2.2]; exact World.ownsRow_lit wC _ 1 (Nat.zero_le _) (by simp [maxLen]) rfl
        have hfr := HIN.out.fresh (W := WD) HX.out.1 hbD (row_later hnC' (by rw [hWD]; exact (Below.refl _ wC).alloc (Nat.le_refl _) _)) HBC.out.size hrD
        dsimp only at hfr
        rw [hWD] at hfr
        have HMORE := Lib.hid hfr
        have hzD : Hid (w.heap.size ≤ wc.heap.size) := HTX.out.size
        have HLX := Lib.hid (show ∀ k, S' k → k < wc.heap.size from fun k hk => HDX.out.low hk)
        clear hfr hrD hnC' hbD hWD
        go_wp2
        go_ret
        rw [HE.out.1, HE.out.2.1, HE.out.2.2]
        refine ⟨rfl, S', _, ⟨HMORE.out.1, HDX.out.other HMORE.out.2 (fun k hk e => HMS.out k e hk), fun k hk e => hk.elim (fun h => HMS.out k h e) (fun h => by have := HLX.out k e; omega), HOK.out⟩, ⟨HTX.out.trans HMORE.out.2 (fun i e => .inl (.inr e)), HMG.out, fun k hk => hk.imp id (fun h => by have := hzD.out; omega)⟩⟩
      · have t2 : (cc == 0) = false := by simp [hc0]
        have HC0 := Lib.hid hc0
        have hin := HX1.out
        rw [show (!decide (cc = 0)) = true by simp [hc0]] at hin
        have e1 : V.chkC M b = cc := by unfold AW.chkC; rw [HRC.out, if_neg (by rw [HZ.out]; simp), ← HCC.out]
        have e2 : V.chkV M b = ⟨V.most, V.parts, true⟩ := by unfold AW.chkV; rw [HRC.out, if_neg (by rw [HZ.out]; simp), ← HCC.out, if_pos HC0.out]
        have e3 : V.chkD M b = M.makeM (fileM V.most b) := by unfold AW.chkD; rw [HRC.out, if_neg (by rw [HZ.out]; simp)]
        have HEE := Lib.hid (And.intro e1 (And.intro e2 e3))
        have HE := Lib.hid (show (⟨V.most, V.parts, true⟩ : AW).Ok from ⟨H.out.ok.lim, H.out.ok.one, H.out.ok.cost⟩)
        have HIN := Lib.hid hin
        clear hc0 e1 e2 e3 hin
        go_wp2
        go_ret
        rw [HEE.out.1, HEE.out.2.1, HEE.out.2.2]
        exact ⟨rfl, S', T, ⟨⟨_, _, _, HIN.out⟩, HDX.out, HMS.out, HE.out⟩, ⟨HTX.out, HMG.out, fun k hk => .inl hk⟩⟩
  · have t1 : (rc != 0) = true := by simp [hz]
    have HZ := Lib.hid hz
    clear hz
    go_enter Tryz.func24, Tryz.ntmps24
    go_wp2_with (first
      | (go_at_call 16; refine HMO.out.mono ?_; rintro e w' ⟨rfl, rfl⟩)
      | (go_at_call 66; refine HRF.out.mono ?_; rintro e w' ⟨rfl, rfl⟩))
    go_ret
    have e1 : V.chkC M b = rc := by unfold AW.chkC; rw [HRC.out, if_pos HZ.out]
    have e2 : V.chkV M b = V := by unfold AW.chkV; rw [HRC.out, if_pos HZ.out]
    have e3 : V.chkD M b = M := by unfold AW.chkD; rw [HRC.out, if_pos HZ.out]
    rw [e1, e2, e3]
    exact ⟨rfl, S, T, H.out, ⟨Turn.refl _ _, fun k hk => .inl hk, fun k hk => .inl hk⟩⟩

end Go.Proofs.YtienabfilnpieaaGreat

namespace Go.Proofs.YtienabfilnpieaaGreat
open Go.RowKit
set_option linter.unusedVariables false
set_option linter.unusedSimpArgs false
set_option maxRecDepth 100000

theorem end_any {w : World} {T : Nat → Prop} {A : Option Addr} {c : Nat} {ps : List (List Int)} {vs : List Value} (h : PartsAt w T A c ps vs) (hT : ∀ k, T k → k < w.heap.size) (hb : costM ps ≤ 1000000) (m : Int) :
    Calls Tryz.prog 57 #[.agg #[.int .i64 m, .slice A ps.length c]] w fun e w' => e = .returned (.int .i64 ((costM ps : Int) + 20)) ∧ Below w.heap.size w w' := by
  have HC := Lib.hid (fun (W : World) (hW : Below w.heap.size w W) => cost_any (h.turn (fun k hk => hW.block k (hT k hk))) (fun k hk => Nat.lt_of_lt_of_le (hT k hk) hW.size) hb m)
  have hw : IntKind.i64.wrap (20 + (costM ps : Int)) = (costM ps : Int) + 20 := by rw [i64_fit (by omega)]; omega
  generalize costM ps = s at *
  generalize ps.length = n at *
  have hb1 : Below w.heap.size w (w.alloc (.cells #[.int .i64 m, .slice A n c] 83)) := (Below.refl _ w).alloc (Nat.le_refl _) _
  have HB1 := Lib.hid hb1
  clear h hT hb hb1
  go_enter Tryz.func57, Tryz.ntmps57
  go_wp2_with (go_at_call 77; refine (HC.out _ HB1.out).mono ?_; rintro e w2 ⟨rfl, hb2⟩; have HB2 := Lib.hid hb2; clear hb2)
  go_ret
  exact ⟨rfl, HB1.out.trans (HB2.out.mono HB1.out.size)⟩

def AD.trimC (M : AD) (n : Int) : Int := if (M.len 0 : Int) ≤ n then 0 else M.truncC 0 n
def AD.trimM (M : AD) (n : Int) : AD := if (M.len 0 : Int) ≤ n then M else M.truncM 0 n
theorem wcutAt_any {w : World} {S : Nat → Prop} {d : Nat} {M : AD} (h : DiskAt w S d M) (hops : M.ops < 4611686018427387904) {n : Int} (hn : I64 n) :
    Calls Tryz.prog 56 #[.pointer (some ⟨d, 0, none⟩), .int .i64 n] w fun e w' => e = .returned (.int .i64 (M.trimC n)) ∧ After S d w (M.trimM n) w' := by
  have HS := Lib.hid (size_any h (k := 0) (by decide))
  have HT := Lib.hid (truncate_any h (k := 0) (by decide) hn hops)
  have H := Lib.hid h
  by_cases hl : (M.len 0 : Int) ≤ n
  · have t1 : decide ((M.len 0 : Int) ≤ n) = true := decide_eq_true hl
    have HZ := Lib.hid (show M.trimC n = 0 ∧ M.trimM n = M from ⟨if_pos hl, if_pos hl⟩)
    clear hl h hops
    generalize M.len 0 = l at *
    go_enter Tryz.func56, Tryz.ntmps56
    go_wp2_with (go_at_call 15; refine HS.out.mono ?_; rintro e w1 ⟨rfl, rfl⟩)
    go_ret
    rw [HZ.out.1, HZ.out.2]
    exact ⟨rfl, After.same H.out (Below.refl _ _)⟩
  · have t1 : decide ((M.len 0 : Int) ≤ n) = false := decide_eq_false hl
    have HZ := Lib.hid (show M.trimC n = M.truncC 0 n ∧ M.trimM n = M.truncM 0 n from ⟨if_neg hl, if_neg hl⟩)
    clear hl h hops
    generalize M.len 0 = l at *
    go_enter Tryz.func56, Tryz.ntmps56
    go_wp2_with (first
      | (go_at_call 15; refine HS.out.mono ?_; rintro e w1 ⟨rfl, rfl⟩)
      | (go_at_call 83; refine HT.out.mono ?_; rintro e w1 ⟨rfl, ha⟩; have HA := Lib.hid ha; clear ha))
    go_ret
    rw [HZ.out.1, HZ.out.2]
    exact ⟨rfl, HA.out⟩

end Go.Proofs.YtienabfilnpieaaGreat

namespace Go.Proofs.YtienabfilnpieaaGreat
open Go.RowKit
set_option linter.unusedVariables false
set_option linter.unusedSimpArgs false
set_option maxRecDepth 100000

theorem strOf_inj {a b : List Int} (ha : Oct a) (hb : Oct b) (h : (strOfNums a).toList = (strOfNums b).toList) : a = b := by
  have h1 : a.map (fun n => UInt8.ofNat n.toNat) = b.map (fun n => UInt8.ofNat n.toNat) := by rw [Lib.strOfNums_toList, Lib.strOfNums_toList] at h; exact h
  clear h
  induction a generalizing b with
  | nil => cases b with
    | nil => rfl
    | cons y b => simp at h1
  | cons x a ih =>
    cases b with
    | nil => simp at h1
    | cons y b =>
      simp only [List.map_cons, List.cons.injEq] at h1
      have e := congrArg UInt8.toNat h1.1
      simp only [UInt8.toNat_ofNat'] at e
      have hx := ha x (by simp)
      have hy := hb y (by simp)
      rw [ih (fun z hz => ha z (by simp [hz])) (fun z hz => hb z (by simp [hz])) h1.2, show x = y by omega]

theorem equalAny (A A' : Option Addr) (c c' : Nat) (bs bs' : List Int) (w : World) {B B' : Nat} (h : Rd w B A bs) (h' : Rd w B' A' bs') (ho : Oct bs) (ho' : Oct bs') :
    Calls Tryz.prog 17 #[.slice A bs.length c, .slice A' bs'.length c'] w fun e w' => e = .returned (.bool (decide (bs = bs'))) ∧ w = w' := by
  have k1 := convert_b (c := c) h
  have k2 := convert_b (c := c') h'
  have HD : Hid (((strOfNums bs).toList == (strOfNums bs').toList) = decide (bs = bs')) := by
    unfold Hid
    by_cases e : bs = bs'
    · subst e; simp
    · rw [decide_eq_false e, beq_eq_false_iff_ne]; exact fun h => e (strOf_inj ho ho' h)
  clear h h' ho ho'
  generalize decide (bs = bs') = D at *
  generalize strOfNums bs = s at *
  generalize strOfNums bs' = t at *
  go_enter Tryz.func17, Tryz.ntmps17
  go_wp2
  go_ret
  rw [← HD.out]
  exact ⟨by simp, rfl⟩

theorem prefixAny (A A' : Option Addr) (c c' : Nat) (bs P : List Int) (w : World) {B B' : Nat} (h : Rd w B A bs) (h' : Rd w B' A' P) (ho : Oct bs) (ho' : Oct P) (hc : bs.length ≤ c) (hcm : c ≤ 9223372036854775807) :
    Calls Tryz.prog 136 #[.slice A bs.length c, .slice A' P.length c'] w fun e w' => e = .returned (.bool (decide (bs.take P.length = P))) ∧ w = w' := by
  by_cases hl : P.length ≤ bs.length
  · have hrd := h.take P.length
    have HE := Lib.hid (equalAny A A' c c' (bs.take P.length) P w hrd h' (ho.take _) ho')
    have hlt : (bs.take P.length).length = P.length := by simp; omega
    rw [hlt] at HE
    generalize decide (bs.take P.length = P) = D at *
    obtain ⟨n, hn⟩ : ∃ n, n = bs.length := ⟨_, rfl⟩
    obtain ⟨m, hm⟩ : ∃ m, m = P.length := ⟨_, rfl⟩
    rw [← hn] at hl hc ⊢
    rw [← hm] at hl HE ⊢
    have i0 : (0 : Int) ≤ (m : Int) := by omega
    have i1 : (m : Int) ≤ (c : Int) := by omega
    have i2 : (m : Int) ≤ (n : Int) := by omega
    have i3 : decide ((n : Int) < (m : Int)) = false := by simp; omega
    have i4 : decide (m ≤ n) = true := by simp; omega
    clear h h' hrd hn hm hlt ho ho'
    go_enter Tryz.func136, Tryz.ntmps136
    go_wp2_with (go_at_call 17; refine HE.out.mono ?_; rintro e w' ⟨rfl, rfl⟩)
    go_ret
    exact ⟨by simp, rfl⟩
  · have hd : decide (bs.take P.length = P) = false := decide_eq_false (fun e => by have := congrArg List.length e; simp at this; omega)
    rw [hd]
    obtain ⟨n, hn⟩ : ∃ n, n = bs.length := ⟨_, rfl⟩
    obtain ⟨m, hm⟩ : ∃ m, m = P.length := ⟨_, rfl⟩
    rw [← hn] at hl ⊢
    rw [← hm] at hl ⊢
    have i3 : decide ((n : Int) < (m : Int)) = true := by simp; omega
    have i4 : decide (m ≤ n) = false := by simp; omega
    clear h h' hn hm hd ho ho' hc hcm
    go_enter Tryz.func136, Tryz.ntmps136
    go_wp2
    go_ret
    exact ⟨by simp, rfl⟩

/-- The limit that a right head says; 0 if there is none. -/
def numM (bs : List Int) : Int := val ((bs.drop 8).take 4)
def limitM (bs : List Int) : Int := if 12 ≤ bs.length ∧ Lim (numM bs) ∧ bs.take 20 = headM (numM bs) then numM bs else 0

theorem sl_take {w : World} {A : Option Addr} {c : Nat} {bs : List Int} (h : Sl w A c bs) (n : Nat) : Sl w A c (bs.take n) := ⟨by have := h.room; simp; omega, h.most, h.rd.take n⟩

set_option maxHeartbeats 1000000 in
theorem limit_one (A : Option Addr) (c : Nat) (bs : List Int) (w : World) (hr : Sl w A c bs) (ho : Oct bs) (hbig : bs.length ≤ 140737488355328) (hl : bs.length < 8) :
    Calls Tryz.prog 121 #[.slice A bs.length c] w (fun e w' => e = .returned (.int .i64 0) ∧ Below w.heap.size w w') := by
  have htk : bs.take 20 = bs := List.take_of_length_le (by omega)
  have H1 := Lib.hid (read_n A c bs w hr ho hbig)
  have H2 := Lib.hid (fun (W : World) g A1 c1 (hs : Sc W g A1 c1 bs 0 false) => bytes_no W g A1 c1 bs 0 8 hs (.inr (by omega)))
  have H3 := Lib.hid (fun (W : World) g A1 c1 (hs : Sc W g A1 c1 bs 0 true) => num_bad W g A1 c1 bs 0 4 hs)
  have HL := Lib.hid (fun W => isLimit_any 0 W)
  have hd : decide (Lim 0) = false := by decide
  rw [hd] at HL
  have hrm := hr.room
  have hrm2 := hr.most
  obtain ⟨l, hll⟩ : ∃ l, l = bs.length := ⟨_, rfl⟩
  rw [← hll] at hl hrm H1 ⊢
  have i1 : (l : Int) ≤ (c : Int) := by omega
  have i2 : min (l : Int) 20 = (l : Int) := by omega
  have i3 : (0 : Int) ≤ (l : Int) := by omega
  have i4 : l ≤ 20 := by omega
  clear hr ho hbig htk hll hd
  go_enter Tryz.func121, Tryz.ntmps121
  go_wp2_with (first
    | (go_at_call 133; refine H1.out.mono ?_; rintro e w1 ⟨g, A1, c1, rfl, hs1, hg, hb1, _⟩; have HS1 := Lib.hid hs1; have HB1 := Lib.hid hb1; have HG := Lib.hid hg; clear hs1 hb1 hg)
    | (go_at_call 134; refine (H2.out _ _ _ _ HS1.out).mono ?_; rintro e w2 ⟨rfl, hs2, ho2⟩; have HS2 := Lib.hid hs2; have HB2 := Lib.hid (HB1.out.trans (below_of_only ho2 HG.out HB1.out.size)); clear hs2 ho2)
    | (go_at_call 135; refine (H3.out _ _ _ _ HS2.out).mono ?_; rintro e w3 ⟨rfl, hs3, ho3⟩; have HB3 := Lib.hid (HB2.out.trans (below_of_only ho3 HG.out HB2.out.size)); clear hs3 ho3)
    | (go_at_call 78; refine (HL.out _).mono ?_; rintro e w4 ⟨rfl, rfl⟩))
  go_ret
  exact ⟨rfl, HB3.out⟩

set_option maxHeartbeats 1000000 in
theorem limit_two (A : Option Addr) (c : Nat) (bs : List Int) (w : World) (hr : Sl w A c bs) (ho : Oct bs) (hbig : bs.length ≤ 140737488355328) (hl : 8 ≤ bs.length ∧ bs.length < 12) :
    Calls Tryz.prog 121 #[.slice A bs.length c] w (fun e w' => e = .returned (.int .i64 0) ∧ Below w.heap.size w w') := by
  have htk : bs.take 20 = bs := List.take_of_length_le (by omega)
  have H1 := Lib.hid (read_n A c bs w hr ho hbig)
  have H2 := Lib.hid (fun (W : World) g A1 c1 (hs : Sc W g A1 c1 bs 0 false) => bytes_yes W g A1 c1 bs 0 8 hs (by omega))
  have H3 := Lib.hid (fun (W : World) g A1 c1 (hs : Sc W g A1 c1 (bs.drop 8) (0 + (8 : Nat)) false) => num_no W g A1 c1 (bs.drop 8) (0 + (8 : Nat)) 4 hs (.inr (by simp; omega)))
  have HL := Lib.hid (fun W => isLimit_any 0 W)
  have hd : decide (Lim 0) = false := by decide
  rw [hd] at HL
  have hrm := hr.room
  have hrm2 := hr.most
  obtain ⟨l, hll⟩ : ∃ l, l = bs.length := ⟨_, rfl⟩
  rw [← hll] at hl hrm H1 ⊢
  have i1 : (l : Int) ≤ (c : Int) := by omega
  have i2 : min (l : Int) 20 = (l : Int) := by omega
  have i3 : (0 : Int) ≤ (l : Int) := by omega
  have i4 : l ≤ 20 := by omega
  clear hr ho hbig htk hll hd
  go_enter Tryz.func121, Tryz.ntmps121
  go_wp2_with (first
    | (go_at_call 133; refine H1.out.mono ?_; rintro e w1 ⟨g, A1, c1, rfl, hs1, hg, hb1, _⟩; have HS1 := Lib.hid hs1; have HB1 := Lib.hid hb1; have HG := Lib.hid hg; clear hs1 hb1 hg)
    | (go_at_call 134; refine (H2.out _ _ _ _ HS1.out).mono ?_; rintro e w2 ⟨A2, c2, rfl, _, ⟨A3, c3, hs2⟩, ho2⟩; have HS2 := Lib.hid hs2; have HB2 := Lib.hid (HB1.out.trans (below_of_only ho2 HG.out HB1.out.size)); clear hs2 ho2)
    | (go_at_call 135; refine (H3.out _ _ _ _ HS2.out).mono ?_; rintro e w3 ⟨rfl, hs3, ho3⟩; have HB3 := Lib.hid (HB2.out.trans (below_of_only ho3 HG.out HB2.out.size)); clear hs3 ho3)
    | (go_at_call 78; refine (HL.out _).mono ?_; rintro e w4 ⟨rfl, rfl⟩))
  go_ret
  exact ⟨rfl, HB3.out⟩

set_option maxHeartbeats 1000000 in
theorem limit_more (A : Option Addr) (c : Nat) (bs : List Int) (w : World) (hr : Sl w A c bs) (ho : Oct bs) (hbig : bs.length ≤ 140737488355328) (hl : 12 ≤ bs.length) :
    Calls Tryz.prog 121 #[.slice A bs.length c] w (fun e w' => e = .returned (.int .i64 (limitM bs)) ∧ Below w.heap.size w w') := by
  have htl : (bs.take 20).length = min bs.length 20 := by simp; omega
  have hnum : ((bs.take 20).drop 8).take 4 = (bs.drop 8).take 4 := by rw [List.drop_take, List.take_take]; rfl
  have hlen4 : ((bs.drop 8).take 4).length = 4 := by simp; omega
  have hoct4 : Oct ((bs.drop 8).take 4) := (ho.drop 8).take 4
  have hv0 : 0 ≤ numM bs := val_nonneg hoct4
  have hv1 : numM bs < 72057594037927936 := val_seven hoct4 (by omega)
  have H1 := Lib.hid (read_n A c (bs.take 20) w (sl_take hr 20) (ho.take 20) (by omega))
  rw [htl] at H1
  have H2 := Lib.hid (fun (W : World) g A1 c1 (hs : Sc W g A1 c1 (bs.take 20) 0 false) => bytes_yes W g A1 c1 (bs.take 20) 0 8 hs (by omega))
  have H3 := Lib.hid (fun (W : World) g A1 c1 (hs : Sc W g A1 c1 ((bs.take 20).drop 8) (0 + (8 : Nat)) false) => num_yes W g A1 c1 ((bs.take 20).drop 8) (0 + (8 : Nat)) 4 hs (by omega) (by omega) (by simp; omega))
  rw [hnum] at H3
  have HL := Lib.hid (fun W => isLimit_any (numM bs) W)
  have HH := Lib.hid (fun W => (head_any (numM bs) ⟨hv0, by omega⟩ W).mono fun e w' h => (show ∃ A' c', e = .returned (.slice A' (headM (numM bs)).length c') ∧ New W.heap.size w' A' c' (headM (numM bs)) ∧ Below W.heap.size W w' from h))
  have HP := Lib.hid (fun (W : World) A' c' (hW : Below w.heap.size w W) {B : Nat} (hn : New B W A' c' (headM (numM bs))) => prefixAny A A' c c' bs (headM (numM bs)) W (hr.below hW).rd hn.sl.rd ho (headM_oct _) hr.room hr.most)
  have hlh := headM_len (numM bs)
  rw [hlh] at HP HH
  have HZ := Lib.hid (show limitM bs = if Lim (numM bs) ∧ bs.take 20 = headM (numM bs) then numM bs else 0 by unfold limitM; simp [hl])
  have HV := Lib.hid (show val ((bs.drop 8).take 4) = numM bs from rfl)
  rw [HV.out] at H3
  have hrm := hr.room
  have hrm2 := hr.most
  have hw : IntKind.i64.wrap (numM bs) = numM bs := i64_fit (by omega)
  generalize limitM bs = Z at *
  obtain ⟨l, hll⟩ : ∃ l, l = bs.length := ⟨_, rfl⟩
  obtain ⟨t, ht⟩ : ∃ t, t = min bs.length 20 := ⟨_, rfl⟩
  rw [← ht] at H1
  rw [← hll] at hl hrm HP ht ⊢
  have i1 : (l : Int) ≤ (c : Int) := by omega
  have i2 : min (l : Int) 20 = (t : Int) := by omega
  have i3 : (0 : Int) ≤ (t : Int) := by omega
  have i4 : (t : Int) ≤ (c : Int) := by omega
  have i5 : min l 20 = t := by omega
  clear htl hnum hlen4 hoct4 hv1 HV hr ho hlh hll ht hbig
  generalize numM bs = n at *
  by_cases hlim : Lim n
  · have d1 : decide (Lim n) = true := decide_eq_true hlim
    rw [d1] at HL
    by_cases hpre : bs.take 20 = headM n
    · have d2 : decide (bs.take 20 = headM n) = true := decide_eq_true hpre
      rw [d2] at HP
      have HE := Lib.hid (show Z = n by rw [HZ.out, if_pos ⟨hlim, hpre⟩])
      clear d1 d2 hpre hlim HZ
      go_enter Tryz.func121, Tryz.ntmps121
      go_wp2_with (first
        | (go_at_call 133; refine H1.out.mono ?_; rintro e w1 ⟨g, A1, c1, rfl, hs1, hg, hb1, _⟩; have HS1 := Lib.hid hs1; have HB1 := Lib.hid hb1; have HG := Lib.hid hg; clear hs1 hb1 hg)
        | (go_at_call 134; refine (H2.out _ _ _ _ HS1.out).mono ?_; rintro e w2 ⟨A2, c2, rfl, _, ⟨A3, c3, hs2⟩, ho2⟩; have HS2 := Lib.hid hs2; have HB2 := Lib.hid (HB1.out.trans (below_of_only ho2 HG.out HB1.out.size)); clear hs2 ho2)
        | (go_at_call 135; refine (H3.out _ _ _ _ HS2.out).mono ?_; rintro e w3 ⟨rfl, hs3, ho3⟩; have HB3 := Lib.hid (HB2.out.trans (below_of_only ho3 HG.out HB2.out.size)); clear hs3 ho3)
        | (go_at_call 78; refine (HL.out _).mono ?_; rintro e w4 ⟨rfl, rfl⟩)
        | (go_at_call 106; refine (HH.out _).mono ?_; rintro e w5 ⟨A5, c5, rfl, hn5, hb5⟩; have HN5 := Lib.hid hn5; have HB5 := Lib.hid (HB3.out.trans (hb5.mono HB3.out.size)); clear hn5 hb5)
        | (go_at_call 136; refine (HP.out _ _ _ HB5.out HN5.out).mono ?_; rintro e w6 ⟨rfl, rfl⟩))
      go_ret
      rw [HE.out]
      exact ⟨rfl, HB5.out⟩
    · have d2 : decide (bs.take 20 = headM n) = false := decide_eq_false hpre
      rw [d2] at HP
      have HE := Lib.hid (show Z = 0 by rw [HZ.out, if_neg (fun h => hpre h.2)])
      clear d1 d2 hpre hlim HZ
      go_enter Tryz.func121, Tryz.ntmps121
      go_wp2_with (first
        | (go_at_call 133; refine H1.out.mono ?_; rintro e w1 ⟨g, A1, c1, rfl, hs1, hg, hb1, _⟩; have HS1 := Lib.hid hs1; have HB1 := Lib.hid hb1; have HG := Lib.hid hg; clear hs1 hb1 hg)
        | (go_at_call 134; refine (H2.out _ _ _ _ HS1.out).mono ?_; rintro e w2 ⟨A2, c2, rfl, _, ⟨A3, c3, hs2⟩, ho2⟩; have HS2 := Lib.hid hs2; have HB2 := Lib.hid (HB1.out.trans (below_of_only ho2 HG.out HB1.out.size)); clear hs2 ho2)
        | (go_at_call 135; refine (H3.out _ _ _ _ HS2.out).mono ?_; rintro e w3 ⟨rfl, hs3, ho3⟩; have HB3 := Lib.hid (HB2.out.trans (below_of_only ho3 HG.out HB2.out.size)); clear hs3 ho3)
        | (go_at_call 78; refine (HL.out _).mono ?_; rintro e w4 ⟨rfl, rfl⟩)
        | (go_at_call 106; refine (HH.out _).mono ?_; rintro e w5 ⟨A5, c5, rfl, hn5, hb5⟩; have HN5 := Lib.hid hn5; have HB5 := Lib.hid (HB3.out.trans (hb5.mono HB3.out.size)); clear hn5 hb5)
        | (go_at_call 136; refine (HP.out _ _ _ HB5.out HN5.out).mono ?_; rintro e w6 ⟨rfl, rfl⟩))
      go_ret
      rw [HE.out]
      exact ⟨rfl, HB5.out⟩
  · have d1 : decide (Lim n) = false := decide_eq_false hlim
    rw [d1] at HL
    have HE := Lib.hid (show Z = 0 by rw [HZ.out, if_neg (fun h => hlim h.1)])
    clear d1 hlim HZ
    go_enter Tryz.func121, Tryz.ntmps121
    go_wp2_with (first
      | (go_at_call 133; refine H1.out.mono ?_; rintro e w1 ⟨g, A1, c1, rfl, hs1, hg, hb1, _⟩; have HS1 := Lib.hid hs1; have HB1 := Lib.hid hb1; have HG := Lib.hid hg; clear hs1 hb1 hg)
      | (go_at_call 134; refine (H2.out _ _ _ _ HS1.out).mono ?_; rintro e w2 ⟨A2, c2, rfl, _, ⟨A3, c3, hs2⟩, ho2⟩; have HS2 := Lib.hid hs2; have HB2 := Lib.hid (HB1.out.trans (below_of_only ho2 HG.out HB1.out.size)); clear hs2 ho2)
      | (go_at_call 135; refine (H3.out _ _ _ _ HS2.out).mono ?_; rintro e w3 ⟨rfl, hs3, ho3⟩; have HB3 := Lib.hid (HB2.out.trans (below_of_only ho3 HG.out HB2.out.size)); clear hs3 ho3)
      | (go_at_call 78; refine (HL.out _).mono ?_; rintro e w4 ⟨rfl, rfl⟩)
      | (go_at_call 106; refine (HH.out _).mono ?_; rintro e w5 ⟨A5, c5, rfl, hn5, hb5⟩; have HN5 := Lib.hid hn5; have HB5 := Lib.hid (HB3.out.trans (hb5.mono HB3.out.size)); clear hn5 hb5)
      | (go_at_call 136; refine (HP.out _ _ _ HB5.out HN5.out).mono ?_; rintro e w6 ⟨rfl, rfl⟩))
    go_ret
    rw [HE.out]
    exact ⟨rfl, HB3.out⟩

theorem limit_any (A : Option Addr) (c : Nat) (bs : List Int) (w : World) (hr : Sl w A c bs) (ho : Oct bs) (hbig : bs.length ≤ 140737488355328) :
    Calls Tryz.prog 121 #[.slice A bs.length c] w (fun e w' => e = .returned (.int .i64 (limitM bs)) ∧ Below w.heap.size w w') := by
  by_cases h1 : 12 ≤ bs.length
  · exact limit_more A c bs w hr ho hbig h1
  · have hz : limitM bs = 0 := by unfold limitM; rw [if_neg (fun h => h1 h.1)]
    rw [hz]
    by_cases h2 : bs.length < 8
    · exact limit_one A c bs w hr ho hbig h2
    · exact limit_two A c bs w hr ho hbig ⟨by omega, by omega⟩

end Go.Proofs.YtienabfilnpieaaGreat

namespace Go.Proofs.YtienabfilnpieaaGreat
open Go.RowKit
set_option linter.unusedVariables false
set_option linter.unusedSimpArgs false

section
variable {α : Type} {F : Fence} {n : Nat} {P : Program}
/-- J stands whatever the iterator does between two rounds: it makes memory, and turns blocks of its own. -/
def AbideOwn (Own : World → Nat → Prop) (B : Nat) (J : List α → World → Prop) : Prop := ∀ s W W', J s W → Turn (fun k => B ≤ k ∧ Own W k) W W' → J s W'
/-- An iterator: what it hands out is so (Fact) where it hands it out; what a round keeps (Kp) is what it wants kept. -/
def SeqOwn (F : Fence) (n : Nat) (P : Program) (g : Nat) (lb : Array Value) (encs : α → Array Value) (Own : World → Nat → Prop) (Fact : Nat → α → World → Prop) (Kp : Nat → World → World → Prop) (Nx : List α → α → Prop) (S Sp : List α → Prop) (w : World) : Prop :=
  ∀ (l : Nat) (J Jx : List α → World → Prop) (W : World), Below w.heap.size w W → AbideOwn Own W.heap.size J → AbideOwn Own W.heap.size Jx →
    (∀ pre x W1, J pre W1 → W.heap.size ≤ W1.heap.size → Fact W.heap.size x W1 → Nx pre x → YieldAt F (n - 1) P l (encs x) W1 fun e W' => (e = .returned (.bool true) ∧ J (pre ++ [x]) W' ∧ Kp W.heap.size W1 W') ∨ (e = .returned (.bool false) ∧ Jx (pre ++ [x]) W')) →
    J [] W →
    CallsIn F n P g (#[.func (.yield l) #[] #[]] ++ lb) W fun e W' => (∃ v, e = .returned v) ∧ ((∃ xs, S xs ∧ J xs W') ∨ (∃ pre, Sp pre ∧ Jx pre W'))

/-- How a round's body may be left: it keeps what is no cells from B0 on; where it goes on, Kp is paid. -/
def roundOwn (B0 B : Nat) (Kp : Nat → World → World → Prop) (I : List α → World → Prop) (Ix : Code → List α → World → Prop) (xs : List α) (W : World) : Exit → Act → World → Prop
  | .normal, _, W' => KeepsFrom B0 W W' ∧ Kp B W W' ∧ I xs W'
  | .exit id, _, W' => KeepsFrom B0 W W' ∧ Ix (.exit id) xs W'
  | _, _, _ => False

/-- What a block of the loop's own keeps: it is no cells. -/
theorem turn_own {Own : World → Nat → Prop} (hown : ∀ W k, Own W k → ∃ o, W.heap[k]? = some o ∧ o.isCells = true) {B k : Nat} {W W' : World} {o : Obj} (ht : Turn (fun k => B ≤ k ∧ Own W k) W W') (hk : W.heap[k]? = some o) (ho : o.isCells = false) : W'.heap[k]? = some o := by
  rw [ht.block k (lt_of_block hk) (fun h => by obtain ⟨o', h1, h2⟩ := hown W k h.2; rw [hk] at h1; cases h1; rw [ho] at h2; cases h2), hk]

theorem range_own {g : Operand} {ps : Array Tmp} {assign body : Code} {Q : Exit → Act → World → Prop} {a : Act} {w : World}
    (hro : F.round = none) (h1 : 1 ≤ n) {gf : Nat} {lb : Array Value} (hg : a.eval g = .func (.func gf) #[] lb) (hFg : F.fn gf) (eg : ∀ args w, (callFunc gf args).run P w = .ok (.enter gf args) w)
    {encs : α → Array Value} {Own : World → Nat → Prop} {Fact : Nat → α → World → Prop} {Kp : Nat → World → World → Prop} {Nx : List α → α → Prop} {S Sp : List α → Prop} (hseq : SeqOwn F (n - 1) P gf lb encs Own Fact Kp Nx S Sp w)
    (hown : ∀ W k, Own W k → ∃ o, W.heap[k]? = some o ∧ o.isCells = true)
    (hKt : ∀ {B : Nat} {X Y Z : World}, Kp B X Y → Kp B Y Z → Kp B X Z) (hKp : ∀ (B : Nat) (W : World) (k : Nat) (o o' : Obj), k < B → W.heap[k]? = some o → o.isCells = false → Kp B W (W.putObj k o')) (hps : ∀ x, (encs x).size = ps.size)
    (hFp : ∀ (B : Nat) (x : α) (W : World) (k : Nat) (o o' : Obj), Fact B x W → W.heap[k]? = some o → o.isCells = false → Fact B x (W.putObj k o'))
    (I : List α → World → Prop) (Ix : Code → List α → World → Prop)
    (hIo : AbideOwn Own (w.heap.size + 2) I) (hIxo : ∀ c, AbideOwn Own (w.heap.size + 2) (Ix c))
    (hIp : ∀ s W k o o', I s W → w.heap.size ≤ k → W.heap[k]? = some o → o.isCells = false → I s (W.putObj k o'))
    (hIxp : ∀ c s W k o o', Ix c s W → w.heap.size ≤ k → W.heap[k]? = some o → o.isCells = false → Ix c s (W.putObj k o'))
    (h0 : ∀ W, Below w.heap.size w W → W.heap.size = w.heap.size + 2 → I [] W) (a₁ : α → Act)
    (hassign : ∀ (l : Nat) (x : α) (W : World) (K : Act → World → Prop), K (a₁ x) W →
      assign.wpIn (F.inRound l) (n - 1 - 1) P (Exit.then K (fun _ _ _ => False)) { tmps := (ps.zip (encs x)).foldl (fun t (p, v) => t.setIfInBounds p v) a.tmps, defers := [] } W)
    (hbody : ∀ (l : Nat) (pre : List α) (x : α) (W : World), I pre W → w.heap.size + 2 ≤ W.heap.size → Fact (w.heap.size + 2) x W → Nx pre x → body.wpIn (F.inRound l) (n - 1 - 1) P (roundOwn w.heap.size (w.heap.size + 2) Kp I Ix (pre ++ [x]) W) (a₁ x) W)
    (hdone : ∀ (xs : List α) (W : World), S xs → I xs W → W.heap[w.heap.size]? = some (.deferred (some [])) → Q .normal { a with defers := { target := .collected w.heap.size, args := #[] } :: a.defers } W)
    (hstop : ∀ (c : Code) (pre : List α) (W : World), Sp pre → Ix c pre W → W.heap[w.heap.size]? = some (.deferred (some [])) → c.wpIn F n P Q { a with defers := { target := .collected w.heap.size, args := #[] } :: a.defers } W) :
    (Code.rangeFunc g ps assign body).wpIn F n P Q a w := by
  refine wpIn_rangeFunc fun fn hfn => ?_
  rw [hro]
  let r : LoopState → Option Code → Obj := fun st pe => .loop { state := st, pending := pe, fn, tmps := a.tmps, params := ps, assign, body, defers := w.heap.size }
  obtain ⟨W1, hW1⟩ : ∃ W1, W1 = (w.alloc (.deferred (some []))).alloc (r .ready none) := ⟨_, rfl⟩
  have hz1 : W1.heap.size = w.heap.size + 2 := by rw [hW1]; simp
  have hb1 : Below w.heap.size w W1 := by rw [hW1]; exact ((Below.refl _ w).alloc (Nat.le_refl _) _).alloc (by simp) _
  have hl1 : W1.heap[w.heap.size + 1]? = some (r .ready none) := by
    rw [hW1]; have := heap_alloc_new (w.alloc (.deferred (some []))) (r .ready none); rwa [World.size_alloc] at this
  have hd1 : W1.heap[w.heap.size]? = some (.deferred (some [])) := by
    rw [hW1]; exact (Below.heap_alloc _ _ _ (by simp)).trans (heap_alloc_new w _)
  refine ⟨w.heap.size + 1, [{ target := .collected w.heap.size, args := #[] }], W1, { target := .fn (.func gf) lb, args := #[.func (.yield (w.heap.size + 1)) #[] #[]] }, W1, gf, #[.func (.yield (w.heap.size + 1)) #[] #[]] ++ lb, W1, ?_, ?_, fun f' hf' => ?_, ?_, fun _ => h1, ?_⟩
  · rw [hW1]; exact run_enterLoop_outer _ _ _ _ _
  · simp only [resolve, hg]
    simp [go_sem]
  · simp [Target.leads] at hf'; subst hf'; exact hFg
  · simp [invoke, go_sem, eg]
  · refine (hseq (w.heap.size + 1)
      (fun pre W => I pre W ∧ W.heap[w.heap.size + 1]? = some (r .ready none) ∧ W.heap[w.heap.size]? = some (.deferred (some [])))
      (fun pre W => ∃ c, Ix c pre W ∧ W.heap[w.heap.size + 1]? = some (r .done (some c)) ∧ W.heap[w.heap.size]? = some (.deferred (some []))) W1 hb1
      (fun s X Y ⟨k1, k2, k3⟩ ht => ⟨hIo s X Y k1 (by rw [← hz1]; exact ht), turn_own hown ht k2 rfl, turn_own hown ht k3 rfl⟩)
      (fun s X Y ⟨c, k1, k2, k3⟩ ht => ⟨c, hIxo c s X Y k1 (by rw [← hz1]; exact ht), turn_own hown ht k2 rfl, turn_own hown ht k3 rfl⟩) ?_ ⟨h0 W1 hb1 hz1, hl1, hd1⟩).mono ?_
    · rintro pre x W ⟨hi, hl, hd⟩ hsz hf hnx
      rw [hz1] at hf hsz
      have hlt := lt_of_block hl
      have hy := run_yield (P := P) (args := encs x) hl (hps x)
      refine ⟨fn, _, assign, body, hy, roundIn_of_wpIn hfn (hassign _ x W _ ⟨_, run_beginRound hl rfl, ?_⟩)⟩
      obtain ⟨V, hV⟩ : ∃ V, V = W.putObj (w.heap.size + 1) (r .busy none) := ⟨_, rfl⟩
      have hlV : V.heap[w.heap.size + 1]? = some (r .busy none) := by rw [hV]; exact World.putObj_heap_same hlt
      have hdV : V.heap[w.heap.size]? = some (.deferred (some [])) := by rw [hV]; exact (World.putObj_heap_other (by omega)).trans hd
      have hkV : Kp W1.heap.size W V := by rw [hV]; exact hKp _ _ _ _ _ (by omega) hl rfl
      have hzV : w.heap.size + 2 ≤ V.heap.size := by rw [hV]; simpa using hsz
      have hiV : I pre V := by rw [hV]; exact hIp _ _ _ _ _ hi (by omega) hl rfl
      have hfV : Fact (w.heap.size + 2) x V := by rw [hV]; exact hFp _ _ _ _ _ _ hf hl rfl
      have hgo : body.wpIn (F.inRound (w.heap.size + 1)) (n - 1 - 1) P (roundOwn w.heap.size (w.heap.size + 2) Kp I Ix (pre ++ [x]) V) (a₁ x) V := hbody _ pre x V hiV hzV hfV hnx
      rw [hV] at hgo
      refine wpIn_mono hgo ?_
      rw [← hV]
      have fin : ∀ (jump : Option Code) (X : World), KeepsFrom w.heap.size V X → (Instr.endRound (w.heap.size + 1) jump).run P X = .ok (.bool jump.isNone) (X.putObj (w.heap.size + 1) (r (if jump.isNone then .ready else .done) jump)) ∧ X.heap[w.heap.size + 1]? = some (r .busy none) ∧ X.heap[w.heap.size]? = some (.deferred (some [])) := fun jump X hk => by
        have hlX := hk.same _ _ (by omega) hlV rfl
        exact ⟨run_endRound (P := P) jump hlX, hlX, hk.same _ _ (Nat.le_refl _) hdV rfl⟩
      rintro e a3 X hp
      cases e with
      | normal =>
        obtain ⟨hk, hkp, hiX⟩ := hp
        obtain ⟨hr, hlX, hdX⟩ := fin none X hk
        exact ⟨_, _, hr, .inl ⟨rfl, ⟨hIp _ _ _ _ _ hiX (by omega) hlX rfl, World.putObj_heap_same (lt_of_block hlX), (World.putObj_heap_other (by omega)).trans hdX⟩, hKt (hKt hkV (by rw [hz1]; exact hkp)) (hKp _ _ _ _ _ (by omega) hlX rfl)⟩⟩
      | exit id =>
        obtain ⟨hk, hiX⟩ := hp
        obtain ⟨hr, hlX, hdX⟩ := fin (some (.exit id)) X hk
        exact ⟨_, _, hr, .inr ⟨rfl, .exit id, hIxp _ _ _ _ _ _ hiX (by omega) hlX rfl, World.putObj_heap_same (lt_of_block hlX), (World.putObj_heap_other (by omega)).trans hdX⟩⟩
      | ret => exact hp.elim
      | goto t => exact hp.elim
      | panic ch => exact hp.elim
      | outgrown => exact hp.elim
    · rintro e W2 ⟨⟨v, rfl⟩, (⟨xs, hS, hi, hl, hd⟩ | ⟨pre, hSp, c, hi, hl, hd⟩)⟩
      · exact ⟨none, _, run_endLoop (P := P) hl (by simp), hdone xs _ hS (hIp _ _ _ _ _ hi (by omega) hl rfl) ((World.putObj_heap_other (by omega)).trans hd)⟩
      · exact ⟨some c, _, run_endLoop (P := P) hl (by simp), hstop c pre _ hSp (hIxp _ _ _ _ _ _ hi (by omega) hl rfl) ((World.putObj_heap_other (by omega)).trans hd)⟩
end
end Go.Proofs.YtienabfilnpieaaGreat
