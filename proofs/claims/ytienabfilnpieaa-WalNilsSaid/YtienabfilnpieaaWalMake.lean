/-
  A new file is made: the steps that renewing answers, done in order.
-/
import Derived.Test.YtienabfilnpieaaWalStep
import Derived.StillTailTactics
namespace Go.Proofs.Ytienabfilnpieaa
open Go.RowKit
set_option linter.unusedVariables false
set_option maxRecDepth 100000

/-- The bytes of a log's file that has one part alone. -/
def fileM (n : Int) (s : List Int) : List Int := headM n ++ frameM 0 s
theorem fileM_len (n : Int) (s : List Int) : (fileM n s).length = s.length + 32 := by unfold fileM; rw [List.length_append, headM_len, frameM_len]; omega
theorem fileM_oct (n : Int) {s : List Int} (h : Oct s) : Oct (fileM n s) := oct_append (headM_oct n) (frameM_oct 0 h)

/-- The disk behind so many of the steps, and what the next one answers. -/
def AD.st2 (M : AD) (bs : List Int) : AD := M.dropM.appendM 1 bs
def AD.st3 (M : AD) (bs : List Int) : AD := (M.st2 bs).opM 1 [] ((M.st2 bs).met.put 1 ((M.st2 bs).file 1).settled)
def AD.st4 (M : AD) (bs : List Int) : AD := (M.st3 bs).opM 1 [0] ((M.st3 bs).met.move 1 0)
def AD.st (M : AD) (bs : List Int) : Nat → AD
  | 0 => M
  | 1 => M.dropM
  | 2 => M.st2 bs
  | 3 => M.st3 bs
  | _ => M.st4 bs
def AD.stC (M : AD) (bs : List Int) : Nat → Int
  | 0 => M.dropC
  | 1 => (M.st bs 1).appendC 1 bs.length
  | 2 => (M.st bs 2).opC 1 []
  | _ => (M.st bs 3).opC 1 [0]
def AD.makeC (M : AD) (bs : List Int) : Int := if M.stC bs 0 ≠ 0 then M.stC bs 0 else if M.stC bs 1 ≠ 0 then M.stC bs 1 else if M.stC bs 2 ≠ 0 then M.stC bs 2 else M.stC bs 3
def AD.makeM (M : AD) (bs : List Int) : AD := if M.stC bs 0 ≠ 0 then M.st bs 1 else if M.stC bs 1 ≠ 0 then M.st bs 2 else if M.stC bs 2 ≠ 0 then M.st bs 3 else M.st bs 4

theorem turn_cell {S : Nat → Prop} {w w' : World} {p i : Nat} {v : Value} (h : Turn S w w') (hn : ¬ S p) (hc : w.cell? ⟨p, i, none⟩ = some v) : w'.cell? ⟨p, i, none⟩ = some v := by
  have hb := h.block p (World.block_lt_of_cell? w _ hc) hn
  simp only [World.cell?] at hc ⊢
  rw [hb]
  exact hc
/-- A cell that points to the disk. -/
abbrev Pt (W : World) (p d : Nat) : Prop := W.cell? ⟨p, 0, none⟩ = some (.pointer (some ⟨d, 0, none⟩))

theorem new1_any {w : World} {S : Nat → Prop} {d p : Nat} {M : AD} (h : DiskAt w S d M) (hops : M.ops < 4611686018427387904) (hp : Pt w p d) :
    Calls Try.prog 58 #[.pointer (some ⟨p, 0, none⟩)] w fun e w' => e = .returned (.int .i64 M.dropC) ∧ After S d w M.dropM w' := by
  have HD := Lib.hid (dropNew_any h hops)
  clear h
  go_enter Try.func58, Try.ntmps58
  go_wp2_with (go_at_call 37; refine HD.out.mono ?_; rintro e w' ⟨rfl, ha⟩; have HA := Lib.hid ha; clear ha)
  go_ret
  exact ⟨rfl, HA.out⟩
theorem new3_any {w : World} {S : Nat → Prop} {d p : Nat} {M : AD} (h : DiskAt w S d M) (hops : M.ops < 4611686018427387904) (hp : Pt w p d) :
    Calls Try.prog 61 #[.pointer (some ⟨p, 0, none⟩)] w fun e w' => e = .returned (.int .i64 (M.opC 1 [])) ∧ After S d w (M.opM 1 [] (M.met.put 1 (M.file 1).settled)) w' := by
  have HD := Lib.hid (sync_any h (k := 1) (by decide) hops)
  clear h
  go_enter Try.func61, Try.ntmps61
  go_wp2_with (go_at_call 23; refine HD.out.mono ?_; rintro e w' ⟨rfl, ha⟩; have HA := Lib.hid ha; clear ha)
  go_ret
  exact ⟨rfl, HA.out⟩
theorem new4_any {w : World} {S : Nat → Prop} {d p : Nat} {M : AD} (h : DiskAt w S d M) (hops : M.ops < 4611686018427387904) (hp : Pt w p d) :
    Calls Try.prog 62 #[.pointer (some ⟨p, 0, none⟩)] w fun e w' => e = .returned (.int .i64 (M.opC 1 [0])) ∧ After S d w (M.opM 1 [0] (M.met.move 1 0)) w' := by
  have HD := Lib.hid (rename_any h (k := 1) (j := 0) (by decide) (by decide) hops)
  clear h
  go_enter Try.func62, Try.ntmps62
  go_wp2_with (go_at_call 63; refine HD.out.mono ?_; rintro e w' ⟨rfl, ha⟩; have HA := Lib.hid ha; clear ha)
  go_ret
  exact ⟨rfl, HA.out⟩

set_option maxHeartbeats 2000000 in
theorem new2_any {w : World} {S : Nat → Prop} {d p0 p1 p2 : Nat} {M : AD} (h : DiskAt w S d M) (hops : M.ops < 4611686018427387904) (hS : ¬ S p0 ∧ ¬ S p1 ∧ ¬ S p2) (h0 : Pt w p0 d) (n : Int) (hn : 0 ≤ n ∧ n < 9223372036854775808) (h1 : w.cell? ⟨p1, 0, none⟩ = some (.int .i64 n))
    {A : Option Addr} {l c : Nat} {s : List Int} (hl : s.length = l) (h2 : w.cell? ⟨p2, 0, none⟩ = some (.slice A l c)) (hs : Sl w A c s) (ho : Oct s) (hb : s.length ≤ 100000) :
    Calls Try.prog 59 #[.pointer (some ⟨p0, 0, none⟩), .pointer (some ⟨p1, 0, none⟩), .pointer (some ⟨p2, 0, none⟩)] w fun e w' => e = .returned (.int .i64 (M.appendC 1 (fileM n s).length)) ∧ After S d w (M.appendM 1 (fileM n s)) w' := by
  have HD := Lib.hid h
  have HS0 := Lib.hid hS
  have HH := Lib.hid (head_any n hn w.drew)
  have HF := Lib.hid (fun W (hW : Below w.heap.size w W) => frame_any 0 (by omega) A c s W (hs.below hW) ho (by omega))
  have hlen : (fileM n s).length = 20 + (s.length + 12) := by rw [fileM_len]; omega
  have HZ := Lib.hid (show headM n ++ frameM 0 s = fileM n s from rfl)
  have hh := headM_len n
  have hf := frameM_len 0 s
  have HAP := Lib.hid (fun W (hW : Below w.heap.size w W) B cb (hr : Rd W W.heap.size B (fileM n s)) => append_any (h.later hW) (k := 1) (by decide) hops B (20 + (l + 12)) cb (fileM n s) (by rw [hlen, hl]) (by omega) hr)
  rw [hl] at hlen hf HF hb
  rw [hlen]
  obtain ⟨Hd, hHd⟩ : ∃ Hd, Hd = headM n := ⟨_, rfl⟩
  obtain ⟨Fr, hFr⟩ : ∃ Fr, Fr = frameM 0 s := ⟨_, rfl⟩
  obtain ⟨Fi, hFi⟩ : ∃ Fi, Fi = fileM n s := ⟨_, rfl⟩
  rw [← hHd] at HH HZ hh
  rw [← hFr] at HF HZ hf
  rw [← hFi] at HAP HZ ⊢
  have HHL := Lib.hid hh
  have HFL := Lib.hid hf
  have HB := Lib.hid hb
  have HC := Lib.hid (And.intro h0 (And.intro h1 h2))
  have hlt : Hid (p0 < w.heap.size ∧ p1 < w.heap.size ∧ p2 < w.heap.size) := ⟨World.block_lt_of_cell? w _ h0, World.block_lt_of_cell? w _ h1, World.block_lt_of_cell? w _ h2⟩
  clear h hS hs ho hlen hl hHd hFr hFi hh hf hb h0 h1 h2
  have keep : Hid (∀ W, Below w.heap.size w W → W.cell? ⟨p0, 0, none⟩ = some (.pointer (some ⟨d, 0, none⟩)) ∧ W.cell? ⟨p1, 0, none⟩ = some (.int .i64 n) ∧ W.cell? ⟨p2, 0, none⟩ = some (.slice A l c)) := fun W hW =>
    ⟨(hW.cell (p := ⟨p0, 0, none⟩) hlt.out.1).trans HC.out.1, (hW.cell (p := ⟨p1, 0, none⟩) hlt.out.2.1).trans HC.out.2.1, (hW.cell (p := ⟨p2, 0, none⟩) hlt.out.2.2).trans HC.out.2.2⟩
  go_enter Try.func59, Try.ntmps59
  go_upto_region 1 with fail
  have k0 := keep.out w.drew (below_drewN (Below.refl _ _) 1)
  go_region_held3 (fun W => W.cell? ⟨p0, 0, none⟩ = some (.pointer (some ⟨d, 0, none⟩)) ∧ W.cell? ⟨p1, 0, none⟩ = some (.int .i64 n) ∧ W.cell? ⟨p2, 0, none⟩ = some (.slice A l c)) (first | exact k0 | exact K1.out | exact K2.out | exact K3.out | exact K4.out) (first
    | (go_at_call 60; refine HH.out.mono ?_; rintro e w1 ⟨A1, c1, rfl, hn1, hb1⟩; rw [HHL.out]; have hb1' := (below_drewN (Below.refl w.heap.size w) 1).trans hb1; have HB1 := Lib.hid hb1'; have K1 := Lib.hid (keep.out _ hb1'); have hr1 := New.low hn1 (Nat.le_refl w.heap.size); unfold New at hr1; rw [HHL.out] at hr1; have HR1 := Lib.hid hr1; clear hn1 hb1 hb1' hr1)
    | (go_at_call 41; refine (HF.out _ HB1.out).mono ?_; rintro e w2 ⟨A2, c2, rfl, hn2, hb2⟩; rw [HFL.out]; have hb2' := HB1.out.trans (hb2.mono HB1.out.size); have HB2 := Lib.hid hb2'; have K2 := Lib.hid (keep.out _ hb2'); have HR2 := Lib.hid (row_later HR1.out hb2); have HS2 := Lib.hid hn2.sl.rd; clear hn2 hb2 hb2')
    | (refine step_app (by rfl) _ _ (by rfl) w.heap.size A1 c1 20 (Hd.map (Value.int .u8)) (by rfl) HR2.out A2 c2 (l + 12) Fr (by rfl) HFL.out HS2.out (by have := HB.out; omega) HB2.out.size ?_; intro A3 c3 w3 hown hg hloc; have hb3 := HB2.out.grown hg HB2.out.size (fun q hq => (HR1.out.lt q (by cases hh : A1 <;> simp_all [Value.ownBlock, blk])).1); have HB3 := Lib.hid hb3; have K3 := Lib.hid (keep.out _ hb3); rw [← List.map_append, HZ.out] at hown; have HAPP := Lib.hid (HAP.out w3 hb3 A3 c3 (Rd.own hown)); clear hown hg hloc hb3)
    | (go_at_call 22; refine HAPP.out.mono ?_; rintro e w4 ⟨rfl, ha⟩; have HA := Lib.hid ha; have K4 := Lib.hid (show w4.cell? ⟨p0, 0, none⟩ = some (.pointer (some ⟨d, 0, none⟩)) ∧ w4.cell? ⟨p1, 0, none⟩ = some (.int .i64 n) ∧ w4.cell? ⟨p2, 0, none⟩ = some (.slice A l c) from ⟨(turn_cell ha.2 HS0.out.1 K3.out.1), (turn_cell ha.2 HS0.out.2.1 K3.out.2.1), (turn_cell ha.2 HS0.out.2.2 K3.out.2.2)⟩); clear ha))
  all_goals (
    go_wp2
    go_ret
    exact ⟨rfl, After.then HD.out (Turn.of_below HB3.out) HA.out⟩)

end Go.Proofs.Ytienabfilnpieaa
