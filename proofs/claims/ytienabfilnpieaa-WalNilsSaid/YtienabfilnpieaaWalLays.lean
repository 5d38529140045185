/-
  refuse, lay; the steps of Append.
-/
import Derived.Test.YtienabfilnpieaaWalFormat
namespace Go.Proofs.Ytienabfilnpieaa
open Go.RowKit
set_option linter.unusedVariables false
set_option maxRecDepth 100000

theorem refuse_nil (w : World) (A : Option Addr) (l c : Nat) (room : Int) : Calls Try.prog 38 #[.pointer none, .slice A l c, .int .i64 room] w fun e w' => e = .returned (.int .i64 1) ∧ w = w' := by
  go_enter Try.func38, Try.ntmps38
  go_wp2
  go_ret
  exact ⟨rfl, rfl⟩
def AW.refC (V : AW) (l : Nat) (room : Int) : Int := if V.broken then 8 else fitsC l room
theorem refuse_any {w : World} {T : Nat → Prop} {g d : Nat} {V : AW} (h : WalAt w T g d V) (A : Option Addr) (l c : Nat) (room : Int) (hl : l ≤ 140737488355328) :
    Calls Try.prog 38 #[.pointer (some ⟨g, 0, none⟩), .slice A l c, .int .i64 room] w fun e w' => e = .returned (.int .i64 (V.refC l room)) ∧ w = w' := by
  obtain ⟨A1, c1, vs, h⟩ := h
  have c3 := h.c3
  clear h
  have HF := Lib.hid (fun W => wfits_any A l c room W hl)
  rcases hb : V.broken with _ | _
  · have HZ := Lib.hid (show V.refC l room = fitsC l room by unfold AW.refC; rw [hb]; rfl)
    rw [hb] at c3
    clear hb
    go_enter Try.func38, Try.ntmps38
    go_wp2_with (go_at_call 68; refine (HF.out _).mono ?_; rintro e w' ⟨rfl, rfl⟩)
    go_ret
    rw [HZ.out]
    exact ⟨rfl, rfl⟩
  · have HZ := Lib.hid (show V.refC l room = 8 by unfold AW.refC; rw [hb]; rfl)
    rw [hb] at c3
    clear hb
    go_enter Try.func38, Try.ntmps38
    go_wp2
    go_ret
    rw [HZ.out]
    exact ⟨rfl, rfl⟩

set_option maxHeartbeats 1000000 in
theorem layW_any {w : World} {g n c : Nat} {A : Option Addr} {cc : Int} {Post : World → Prop} (hin : Calls Try.prog 29 #[.slice A n c] w fun e w' => e = .returned (.int .i64 cc) ∧ Post w')
    (hc : ∀ w', Post w' → (∃ b, w'.cell? ⟨g, 3, none⟩ = some (.bool b)) ∧ w'.frozen? ⟨g, 3, none⟩ = false) :
    Calls Try.prog 39 #[.pointer (some ⟨g, 0, none⟩), .slice A n c] w fun e w' => e = .returned (.int .i64 cc) ∧ ∃ w1, Post w1 ∧ w' = w1.setCell ⟨g, 3, none⟩ (.bool (!decide (cc = 0))) := by
  have HI := Lib.hid hin
  have HC := Lib.hid hc
  clear hin hc
  by_cases hz : cc = 0
  · have t1 : (cc != 0) = false := by simp [hz]
    have HZ := Lib.hid (show (!decide (cc = 0)) = false by simp [hz])
    clear hz
    go_enter Try.func39, Try.ntmps39
    go_wp2_with (go_at_call 29; refine HI.out.mono ?_; rintro e w1 ⟨rfl, hp⟩; obtain ⟨⟨b0, hb0⟩, hf0⟩ := HC.out _ hp; have HP := Lib.hid hp; clear hp)
    go_ret
    rw [HZ.out]
    exact ⟨rfl, w1, HP.out, rfl⟩
  · have t1 : (cc != 0) = true := by simp [hz]
    have HZ := Lib.hid (show (!decide (cc = 0)) = true by simp [hz])
    clear hz
    go_enter Try.func39, Try.ntmps39
    go_wp2_with (go_at_call 29; refine HI.out.mono ?_; rintro e w1 ⟨rfl, hp⟩; obtain ⟨⟨b0, hb0⟩, hf0⟩ := HC.out _ hp; have HP := Lib.hid hp; clear hp)
    go_ret
    rw [HZ.out]
    exact ⟨rfl, w1, HP.out, rfl⟩

/-- What Append does to the disk. -/
def AD.layM (M : AD) (fr : List Int) : AD := if M.appendC 0 fr.length ≠ 0 then M.appendM 0 fr else (M.appendM 0 fr).opM 0 [] ((M.appendM 0 fr).met.put 0 ((M.appendM 0 fr).file 0).settled)
def AD.layC (M : AD) (fr : List Int) : Int := if M.appendC 0 fr.length ≠ 0 then M.appendC 0 fr.length else (M.appendM 0 fr).opC 0 []

set_option maxHeartbeats 1000000 in
theorem lay2_any {w : World} {S T : Nat → Prop} {g d p : Nat} {V : AW} {M : AD} (hw : WalAt w T g d V) (h : DiskAt w S d M) (hops : M.ops < 4611686018427387904) (hp : w.cell? ⟨p, 0, none⟩ = some (.pointer (some ⟨g, 0, none⟩))) :
    Calls Try.prog 42 #[.pointer (some ⟨p, 0, none⟩)] w fun e w' => e = .returned (.int .i64 (M.opC 0 [])) ∧ After S d w (M.opM 0 [] (M.met.put 0 (M.file 0).settled)) w' := by
  obtain ⟨A1, c1, vs, hw⟩ := hw
  have c2 := hw.c2
  have HD := Lib.hid (sync_any h (k := 0) (by decide) hops)
  clear h hw
  go_enter Try.func42, Try.ntmps42
  go_wp2_with (go_at_call 23; refine HD.out.mono ?_; rintro e w' ⟨rfl, ha⟩; have HA := Lib.hid ha; clear ha)
  go_ret
  exact ⟨rfl, HA.out⟩

set_option maxHeartbeats 2000000 in
theorem lay1_any {w : World} {S T : Nat → Prop} {g d p q : Nat} {V : AW} {M : AD} (hw : WalAt w T g d V) (h : DiskAt w S d M) (hTS : ∀ k, T k → ¬ S k) (hops : M.ops < 4611686018427387904) (hS : ¬ S p ∧ ¬ S q) (hp : w.cell? ⟨p, 0, none⟩ = some (.pointer (some ⟨g, 0, none⟩)))
    {A : Option Addr} {l c : Nat} {b : List Int} (hl : b.length = l) (hq : w.cell? ⟨q, 0, none⟩ = some (.slice A l c)) (hs : Sl w A c b) (ho : Oct b) (hb : b.length ≤ 100000) (hn : V.parts.length ≤ 1000000) :
    Calls Try.prog 40 #[.pointer (some ⟨p, 0, none⟩), .pointer (some ⟨q, 0, none⟩)] w fun e w' => e = .returned (.int .i64 (M.appendC 0 (frameM V.parts.length b).length)) ∧ After S d w (M.appendM 0 (frameM V.parts.length b)) w' := by
  have HT0 := hTS _ hw.inT
  obtain ⟨A1, c1, vs, hw⟩ := hw
  have HD := Lib.hid h
  have HS0 := Lib.hid (And.intro hS HT0)
  have HF := Lib.hid (fun W (hW : Below w.heap.size w W) => frame_any V.parts.length (by omega) A c b W (hs.below hW) ho (by omega))
  have hf := frameM_len V.parts.length b
  have HAP := Lib.hid (fun W (hW : Below w.heap.size w W) B cb (hr : Rd W W.heap.size B (frameM V.parts.length b)) => append_any (h.later hW) (k := 0) (by decide) hops B (l + 12) cb (frameM V.parts.length b) (by rw [hf, hl]) (by omega) hr)
  obtain ⟨n, hnn⟩ : ∃ n, n = V.parts.length := ⟨_, rfl⟩
  have hw1 := hw.c1
  rw [hl] at hf HF
  rw [← hnn] at HF HAP hf hw1 hn ⊢
  rw [hf]
  obtain ⟨Fr, hFr⟩ : ∃ Fr, Fr = frameM n b := ⟨_, rfl⟩
  rw [← hFr] at HF HAP hf ⊢
  have HFL := Lib.hid hf
  have HC := Lib.hid (And.intro hp (And.intro hq (And.intro hw1 hw.c2)))
  have hlt : Hid (p < w.heap.size ∧ q < w.heap.size ∧ g < w.heap.size) := ⟨World.block_lt_of_cell? w _ hp, World.block_lt_of_cell? w _ hq, lt_of_block hw.box⟩
  clear h hS hs ho hl hFr hf hb hw hTS HT0 hp hq hw1 hnn
  have keep : Hid (∀ W, Below w.heap.size w W → W.cell? ⟨p, 0, none⟩ = some (.pointer (some ⟨g, 0, none⟩)) ∧ W.cell? ⟨q, 0, none⟩ = some (.slice A l c) ∧ W.cell? ⟨g, 1, none⟩ = some (.slice A1 n c1) ∧ W.cell? ⟨g, 2, none⟩ = some (.pointer (some ⟨d, 0, none⟩))) := fun W hW =>
    ⟨(hW.cell (p := ⟨p, 0, none⟩) hlt.out.1).trans HC.out.1, (hW.cell (p := ⟨q, 0, none⟩) hlt.out.2.1).trans HC.out.2.1, (hW.cell (p := ⟨g, 1, none⟩) hlt.out.2.2).trans HC.out.2.2.1, (hW.cell (p := ⟨g, 2, none⟩) hlt.out.2.2).trans HC.out.2.2.2⟩
  go_enter Try.func40, Try.ntmps40
  go_upto_region 1 with fail
  have k0 := keep.out w.drew (below_drewN (Below.refl _ _) 1)
  go_region_held3 (fun W => W.cell? ⟨p, 0, none⟩ = some (.pointer (some ⟨g, 0, none⟩)) ∧ W.cell? ⟨q, 0, none⟩ = some (.slice A l c) ∧ W.cell? ⟨g, 1, none⟩ = some (.slice A1 n c1) ∧ W.cell? ⟨g, 2, none⟩ = some (.pointer (some ⟨d, 0, none⟩))) (first | exact k0 | exact K2.out | exact K4.out) (first
    | (go_at_call 41; have hbd := below_drewN (Below.refl w.heap.size w) 1; refine (HF.out _ hbd).mono ?_; rintro e w2 ⟨A2, c2, rfl, hn2, hb2⟩; rw [HFL.out]; have hb2' := hbd.trans hb2; have HB2 := Lib.hid hb2'; have K2 := Lib.hid (keep.out _ hb2'); have HAPP := Lib.hid (HAP.out w2 hb2' A2 c2 hn2.sl.rd); clear hn2 hb2 hb2' hbd)
    | (go_at_call 22; refine HAPP.out.mono ?_; rintro e w4 ⟨rfl, ha⟩; have HA := Lib.hid ha; have K4 := Lib.hid (show w4.cell? ⟨p, 0, none⟩ = some (.pointer (some ⟨g, 0, none⟩)) ∧ w4.cell? ⟨q, 0, none⟩ = some (.slice A l c) ∧ w4.cell? ⟨g, 1, none⟩ = some (.slice A1 n c1) ∧ w4.cell? ⟨g, 2, none⟩ = some (.pointer (some ⟨d, 0, none⟩)) from ⟨turn_cell ha.2 HS0.out.1.1 K2.out.1, turn_cell ha.2 HS0.out.1.2 K2.out.2.1, turn_cell ha.2 HS0.out.2 K2.out.2.2.1, turn_cell ha.2 HS0.out.2 K2.out.2.2.2⟩); clear ha))
  all_goals (
    go_wp2
    go_ret
    exact ⟨rfl, After.then HD.out (Turn.of_below HB2.out) HA.out⟩)

end Go.Proofs.Ytienabfilnpieaa
