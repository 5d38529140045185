/-
  A new file is made: the steps that renewing answers, done in order.
  A new file is made, whatever the disk meets.
  Format; refuse; lay.
-/
import Derived.Test.YtienabfilnpieaaGreatWalA
import Derived.StillTailTactics
namespace Go.Proofs.YtienabfilnpieaaGreat
open Go.RowKit
set_option linter.unusedVariables false
set_option linter.unusedSimpArgs false
set_option maxRecDepth 100000

/-- The bytes of a log's file that has one part alone. -/
def fileM (n : Int) (s : List Int) : List Int := headM n ++ frameM 0 s
theorem fileM_len (n : Int) (s : List Int) : (fileM n s).length = s.length + 32 := by unfold fileM; rw [List.length_append, headM_len, frameM_len]; omega
theorem fileM_oct (n : Int) {s : List Int} (h : Oct s) : Oct (fileM n s) := oct_append (headM_oct n) (frameM_oct 0 h)

/-- The disk behind so many of the steps, and what the next one answers. -/
def AD.st2 (M : AD) (bs : List Int) : AD := M.dropM.appendM 1 bs
def AD.st3 (M : AD) (bs : List Int) : AD := (M.st2 bs).opM 1 [] ((M.st2 bs).met.put 1 ((M.st2 bs).file 1).settled)
def AD.st4 (M : AD) (bs : List Int) : AD := (M.st3 bs).opM 1 [0] ((M.st3 bs).met.move 1 0)
def AD.st (M : AD) (bs : List Int) : Nat → AD
  | 0 => M
  | 1 => M.dropM
  | 2 => M.st2 bs
  | 3 => M.st3 bs
  | _ => M.st4 bs
def AD.stC (M : AD) (bs : List Int) : Nat → Int
  | 0 => M.dropC
  | 1 => (M.st bs 1).appendC 1 bs.length
  | 2 => (M.st bs 2).opC 1 []
  | _ => (M.st bs 3).opC 1 [0]
def AD.makeC (M : AD) (bs : List Int) : Int := if M.stC bs 0 ≠ 0 then M.stC bs 0 else if M.stC bs 1 ≠ 0 then M.stC bs 1 else if M.stC bs 2 ≠ 0 then M.stC bs 2 else M.stC bs 3
def AD.makeM (M : AD) (bs : List Int) : AD := if M.stC bs 0 ≠ 0 then M.st bs 1 else if M.stC bs 1 ≠ 0 then M.st bs 2 else if M.stC bs 2 ≠ 0 then M.st bs 3 else M.st bs 4

theorem turn_cell {S : Nat → Prop} {w w' : World} {p i : Nat} {v : Value} (h : Turn S w w') (hn : ¬ S p) (hc : w.cell? ⟨p, i, none⟩ = some v) : w'.cell? ⟨p, i, none⟩ = some v := by
  have hb := h.block p (World.block_lt_of_cell? w _ hc) hn
  simp only [World.cell?] at hc ⊢
  rw [hb]
  exact hc
/-- A cell that points to the disk. -/
abbrev Pt (W : World) (p d : Nat) : Prop := W.cell? ⟨p, 0, none⟩ = some (.pointer (some ⟨d, 0, none⟩))

theorem new1_any {w : World} {S : Nat → Prop} {d p : Nat} {M : AD} (h : DiskAt w S d M) (hops : M.ops < 4611686018427387904) (hp : Pt w p d) :
    Calls Tryz.prog 104 #[.pointer (some ⟨p, 0, none⟩)] w fun e w' => e = .returned (.int .i64 M.dropC) ∧ After S d w M.dropM w' := by
  have HD := Lib.hid (dropNew_any h hops)
  clear h
  go_enter Tryz.func104, Tryz.ntmps104
  go_wp2_with (go_at_call 59; refine HD.out.mono ?_; rintro e w' ⟨rfl, ha⟩; have HA := Lib.hid ha; clear ha)
  go_ret
  exact ⟨rfl, HA.out⟩
theorem new3_any {w : World} {S : Nat → Prop} {d p : Nat} {M : AD} (h : DiskAt w S d M) (hops : M.ops < 4611686018427387904) (hp : Pt w p d) :
    Calls Tryz.prog 107 #[.pointer (some ⟨p, 0, none⟩)] w fun e w' => e = .returned (.int .i64 (M.opC 1 [])) ∧ After S d w (M.opM 1 [] (M.met.put 1 (M.file 1).settled)) w' := by
  have HD := Lib.hid (sync_any h (k := 1) (by decide) hops)
  clear h
  go_enter Tryz.func107, Tryz.ntmps107
  go_wp2_with (go_at_call 12; refine HD.out.mono ?_; rintro e w' ⟨rfl, ha⟩; have HA := Lib.hid ha; clear ha)
  go_ret
  exact ⟨rfl, HA.out⟩
theorem new4_any {w : World} {S : Nat → Prop} {d p : Nat} {M : AD} (h : DiskAt w S d M) (hops : M.ops < 4611686018427387904) (hp : Pt w p d) :
    Calls Tryz.prog 108 #[.pointer (some ⟨p, 0, none⟩)] w fun e w' => e = .returned (.int .i64 (M.opC 1 [0])) ∧ After S d w (M.opM 1 [0] (M.met.move 1 0)) w' := by
  have HD := Lib.hid (rename_any h (k := 1) (j := 0) (by decide) (by decide) hops)
  clear h
  go_enter Tryz.func108, Tryz.ntmps108
  go_wp2_with (go_at_call 109; refine HD.out.mono ?_; rintro e w' ⟨rfl, ha⟩; have HA := Lib.hid ha; clear ha)
  go_ret
  exact ⟨rfl, HA.out⟩

set_option maxHeartbeats 2000000 in
theorem new2_any {w : World} {S : Nat → Prop} {d p0 p1 p2 : Nat} {M : AD} (h : DiskAt w S d M) (hops : M.ops < 4611686018427387904) (hS : ¬ S p0 ∧ ¬ S p1 ∧ ¬ S p2) (h0 : Pt w p0 d) (n : Int) (hn : 0 ≤ n ∧ n < 9223372036854775808) (h1 : w.cell? ⟨p1, 0, none⟩ = some (.int .i64 n))
    {A : Option Addr} {l c : Nat} {s : List Int} (hl : s.length = l) (h2 : w.cell? ⟨p2, 0, none⟩ = some (.slice A l c)) (hs : Sl w A c s) (ho : Oct s) (hb : s.length ≤ 100000) :
    Calls Tryz.prog 105 #[.pointer (some ⟨p0, 0, none⟩), .pointer (some ⟨p1, 0, none⟩), .pointer (some ⟨p2, 0, none⟩)] w fun e w' => e = .returned (.int .i64 (M.appendC 1 (fileM n s).length)) ∧ After S d w (M.appendM 1 (fileM n s)) w' := by
  have HD := Lib.hid h
  have HS0 := Lib.hid hS
  have HH := Lib.hid (head_any n hn w.drew)
  have HF := Lib.hid (fun W (hW : Below w.heap.size w W) => frame_any 0 (by omega) A c s W (hs.below hW) ho (by omega))
  have hlen : (fileM n s).length = 20 + (s.length + 12) := by rw [fileM_len]; omega
  have HZ := Lib.hid (show headM n ++ frameM 0 s = fileM n s from rfl)
  have hh := headM_len n
  have hf := frameM_len 0 s
  have HAP := Lib.hid (fun W (hW : Below w.heap.size w W) B cb (hr : Rd W W.heap.size B (fileM n s)) => append_any (h.later hW) (k := 1) (by decide) hops B (20 + (l + 12)) cb (fileM n s) (by rw [hlen, hl]) (by omega) hr)
  rw [hl] at hlen hf HF hb
  rw [hlen]
  obtain ⟨Hd, hHd⟩ : ∃ Hd, Hd = headM n := ⟨_, rfl⟩
  obtain ⟨Fr, hFr⟩ : ∃ Fr, Fr = frameM 0 s := ⟨_, rfl⟩
  obtain ⟨Fi, hFi⟩ : ∃ Fi, Fi = fileM n s := ⟨_, rfl⟩
  rw [← hHd] at HH HZ hh
  rw [← hFr] at HF HZ hf
  rw [← hFi] at HAP HZ ⊢
  have HHL := Lib.hid hh
  have HFL := Lib.hid hf
  have HB := Lib.hid hb
  have HC := Lib.hid (And.intro h0 (And.intro h1 h2))
  have hlt : Hid (p0 < w.heap.size ∧ p1 < w.heap.size ∧ p2 < w.heap.size) := ⟨World.block_lt_of_cell? w _ h0, World.block_lt_of_cell? w _ h1, World.block_lt_of_cell? w _ h2⟩
  clear h hS hs ho hlen hl hHd hFr hFi hh hf hb h0 h1 h2
  have keep : Hid (∀ W, Below w.heap.size w W → W.cell? ⟨p0, 0, none⟩ = some (.pointer (some ⟨d, 0, none⟩)) ∧ W.cell? ⟨p1, 0, none⟩ = some (.int .i64 n) ∧ W.cell? ⟨p2, 0, none⟩ = some (.slice A l c)) := fun W hW =>
    ⟨(hW.cell (p := ⟨p0, 0, none⟩) hlt.out.1).trans HC.out.1, (hW.cell (p := ⟨p1, 0, none⟩) hlt.out.2.1).trans HC.out.2.1, (hW.cell (p := ⟨p2, 0, none⟩) hlt.out.2.2).trans HC.out.2.2⟩
  go_enter Tryz.func105, Tryz.ntmps105
  go_upto_region 1 with fail
  have k0 := keep.out w.drew (below_drewN (Below.refl _ _) 1)
  go_region_held3 (fun W => W.cell? ⟨p0, 0, none⟩ = some (.pointer (some ⟨d, 0, none⟩)) ∧ W.cell? ⟨p1, 0, none⟩ = some (.int .i64 n) ∧ W.cell? ⟨p2, 0, none⟩ = some (.slice A l c)) (first | exact k0 | exact K1.out | exact K2.out | exact K3.out | exact K4.out) (first
    | (go_at_call 106; refine HH.out.mono ?_; rintro e w1 ⟨A1, c1, rfl, hn1, hb1⟩; rw [HHL.out]; have hb1' := (below_drewN (Below.refl w.heap.size w) 1).trans hb1; have HB1 := Lib.hid hb1'; have K1 := Lib.hid (keep.out _ hb1'); have hr1 := New.low hn1 (Nat.le_refl w.heap.size); unfold New at hr1; rw [HHL.out] at hr1; have HR1 := Lib.hid hr1; clear hn1 hb1 hb1' hr1)
    | (go_at_call 69; refine (HF.out _ HB1.out).mono ?_; rintro e w2 ⟨A2, c2, rfl, hn2, hb2⟩; rw [HFL.out]; have hb2' := HB1.out.trans (hb2.mono HB1.out.size); have HB2 := Lib.hid hb2'; have K2 := Lib.hid (keep.out _ hb2'); have HR2 := Lib.hid (row_later HR1.out hb2); have HS2 := Lib.hid hn2.sl.rd; clear hn2 hb2 hb2')
    | (refine step_app (by rfl) _ _ (by rfl) w.heap.size A1 c1 20 (Hd.map (Value.int .u8)) (by rfl) HR2.out A2 c2 (l + 12) Fr (by rfl) HFL.out HS2.out (by have := HB.out; omega) HB2.out.size ?_; intro A3 c3 w3 hown hg hloc; have hb3 := HB2.out.grown hg HB2.out.size (fun q hq => (HR1.out.lt q (by cases hh : A1 <;> simp_all [Value.ownBlock, blk])).1); have HB3 := Lib.hid hb3; have K3 := Lib.hid (keep.out _ hb3); rw [← List.map_append, HZ.out] at hown; have HAPP := Lib.hid (HAP.out w3 hb3 A3 c3 (Rd.own hown)); clear hown hg hloc hb3)
    | (go_at_call 11; refine HAPP.out.mono ?_; rintro e w4 ⟨rfl, ha⟩; have HA := Lib.hid ha; have K4 := Lib.hid (show w4.cell? ⟨p0, 0, none⟩ = some (.pointer (some ⟨d, 0, none⟩)) ∧ w4.cell? ⟨p1, 0, none⟩ = some (.int .i64 n) ∧ w4.cell? ⟨p2, 0, none⟩ = some (.slice A l c) from ⟨(turn_cell ha.2 HS0.out.1 K3.out.1), (turn_cell ha.2 HS0.out.2.1 K3.out.2.1), (turn_cell ha.2 HS0.out.2.2 K3.out.2.2)⟩); clear ha))
  all_goals (
    go_wp2
    go_ret
    exact ⟨rfl, After.then HD.out (Turn.of_below HB3.out) HA.out⟩)

end Go.Proofs.YtienabfilnpieaaGreat

namespace Go.Proofs.YtienabfilnpieaaGreat
open Go.RowKit
set_option linter.unusedVariables false
set_option linter.unusedSimpArgs false
set_option maxRecDepth 100000

theorem met_ops (M : AD) : M.met.ops = M.ops + 1 := by unfold AD.met; split <;> rfl
theorem opM_ops {M M' : AD} (k : Int) (xs : List Int) (h : M'.ops = M.met.ops) : (M.opM k xs M').ops ≤ M.ops + 1 := by
  unfold AD.opM
  have := met_ops M
  split
  · split
    · omega
    · omega
  · omega
theorem appendM_ops (M : AD) (k : Int) (bs : List Int) : (M.appendM k bs).ops ≤ M.ops + 1 := by
  have := met_ops M
  unfold AD.appendM
  split
  · omega
  · split
    · split
      · omega
      · split
        · omega
        · show M.met.ops ≤ _; omega
    · omega
theorem move_ops (M : AD) (k j : Int) : (M.move k j).ops = M.ops := by unfold AD.move; split <;> rfl
theorem dropM_ops (M : AD) : M.dropM.ops ≤ M.ops + 1 := by
  unfold AD.dropM
  split
  · exact opM_ops _ _ rfl
  · omega
theorem st_ops (M : AD) (bs : List Int) (j : Nat) : (M.st bs j).ops ≤ M.ops + 4 := by
  have h1 := dropM_ops M
  have h2 : (M.st2 bs).ops ≤ M.dropM.ops + 1 := appendM_ops _ _ _
  have h3 : (M.st3 bs).ops ≤ (M.st2 bs).ops + 1 := opM_ops _ _ rfl
  have h4 : (M.st4 bs).ops ≤ (M.st3 bs).ops + 1 := opM_ops _ _ (move_ops _ _ _)
  rcases j with _ | _ | _ | _ | j
  · show M.ops ≤ _; omega
  · show M.dropM.ops ≤ _; omega
  · show (M.st2 bs).ops ≤ _; omega
  · show (M.st3 bs).ops ≤ _; omega
  · show (M.st4 bs).ops ≤ _; omega

theorem After.go {S : Nat → Prop} {d : Nat} {w W W' : World} {M M' : AD} (h : After S d w M W) (h' : After (grew S w W) d W M' W') (hl : ∀ i, S i → i < w.heap.size) : After S d w M' W' := by
  have hsz := h.2.size
  refine After.of h'.1 (h.2.trans h'.2 (fun i hi => by rcases hi with e | e; exact .inl e; exact .inr e.1)) (fun i hi => ?_) hl
  rcases hi with (e | e) | e
  · exact .inl e
  · exact .inr e.1
  · exact .inr (Nat.le_trans hsz e.1)
theorem Sl.turn {S : Nat → Prop} {w w' : World} {A : Option Addr} {c : Nat} {bs : List Int} (h : Sl w A c bs) (ht : Turn S w w') (hf : ∀ q, blk A = some q → ¬ S q) : Sl w' A c bs := by
  refine ⟨h.room, h.most, fun hp => ?_⟩
  obtain ⟨b, o, rfl, hb, hc⟩ := h.rd hp
  exact ⟨b, o, rfl, Nat.lt_of_lt_of_le hb ht.size, fun j hj => turn_cell ht (hf b rfl) (hc j hj)⟩

/-- The four steps, as values: their boxes lie at p, p + 1, p + 2. -/
def stepF : Nat → FuncId
  | 0 => 104
  | 1 => 105
  | 2 => 107
  | _ => 108
def stepCaps (p : Nat) : Nat → Array Value
  | 1 => #[.pointer (some ⟨p, 0, none⟩), .pointer (some ⟨p + 1, 0, none⟩), .pointer (some ⟨p + 2, 0, none⟩)]
  | _ => #[.pointer (some ⟨p, 0, none⟩)]
def stepV (p j : Nat) : Value := .func (.func (stepF j)) #[] (stepCaps p j)
structure Renewed (W : World) (p d : Nat) (n : Int) (A : Option Addr) (l c : Nat) : Prop where
  c0 : Pt W p d
  c1 : W.cell? ⟨p + 1, 0, none⟩ = some (.int .i64 n)
  c2 : W.cell? ⟨p + 2, 0, none⟩ = some (.slice A l c)
  fs : W.heap[p + 3]? = some (.cells #[stepV p 0, stepV p 1, stepV p 2, stepV p 3] 71 (0, 0))

theorem renewing_any (w : World) (d : Nat) (n : Int) (A : Option Addr) (l c : Nat) : Calls Tryz.prog 71 #[.pointer (some ⟨d, 0, none⟩), .int .i64 n, .slice A l c] w fun e w' => e = .returned (.slice (some ⟨w.heap.size + 3, 0, none⟩) 4 4) ∧ Renewed w' w.heap.size d n A l c ∧ Below w.heap.size w w' := by
  obtain ⟨W1, hW1⟩ : ∃ W1, W1 = w.alloc (.cells #[.pointer (some ⟨d, 0, none⟩)] 24) := ⟨_, rfl⟩
  obtain ⟨W2, hW2⟩ : ∃ W2, W2 = W1.alloc (.cells #[.int .i64 n] 3) := ⟨_, rfl⟩
  obtain ⟨W3, hW3⟩ : ∃ W3, W3 = W2.alloc (.cells #[.slice A l c] 33) := ⟨_, rfl⟩
  obtain ⟨W4, hW4⟩ : ∃ W4, W4 = W3.alloc (.cells #[stepV w.heap.size 0, stepV w.heap.size 1, stepV w.heap.size 2, stepV w.heap.size 3] 71) := ⟨_, rfl⟩
  have s1 : W1.heap.size = w.heap.size + 1 := by rw [hW1]; simp
  have s2 : W2.heap.size = w.heap.size + 2 := by rw [hW2]; simp [s1]
  have s3 : W3.heap.size = w.heap.size + 3 := by rw [hW3]; simp [s2]
  have b1 : Below w.heap.size w W1 := by rw [hW1]; exact (Below.refl _ w).alloc (Nat.le_refl _) _
  have b2 : Below W1.heap.size W1 W2 := by rw [hW2]; exact (Below.refl _ W1).alloc (Nat.le_refl _) _
  have b3 : Below W2.heap.size W2 W3 := by rw [hW3]; exact (Below.refl _ W2).alloc (Nat.le_refl _) _
  have b4 : Below W3.heap.size W3 W4 := by rw [hW4]; exact (Below.refl _ W3).alloc (Nat.le_refl _) _
  have e1 : W1.heap[w.heap.size]? = some (.cells #[.pointer (some ⟨d, 0, none⟩)] 24 (0, 0)) := by rw [hW1]; exact heap_alloc_new w _
  have e2 : W2.heap[W1.heap.size]? = some (.cells #[.int .i64 n] 3 (0, 0)) := by rw [hW2]; exact heap_alloc_new W1 _
  have e3 : W3.heap[W2.heap.size]? = some (.cells #[.slice A l c] 33 (0, 0)) := by rw [hW3]; exact heap_alloc_new W2 _
  have e4 : W4.heap[W3.heap.size]? = some (.cells #[stepV w.heap.size 0, stepV w.heap.size 1, stepV w.heap.size 2, stepV w.heap.size 3] 71 (0, 0)) := by rw [hW4]; exact heap_alloc_new W3 _
  have f1 : W4.heap[w.heap.size]? = _ := (b4.block _ (by omega)).trans ((b3.block _ (by omega)).trans ((b2.block _ (by omega)).trans e1))
  have f2 : W4.heap[W1.heap.size]? = _ := (b4.block _ (by omega)).trans ((b3.block _ (by omega)).trans e2)
  have f3 : W4.heap[W2.heap.size]? = _ := (b4.block _ (by omega)).trans e3
  rw [s1] at f2
  rw [s2] at f3
  rw [s3] at e4
  have HR := Lib.hid (show Renewed W4 w.heap.size d n A l c from ⟨by show W4.cell? _ = _; simp only [World.cell?, f1]; rfl, by simp only [World.cell?, f2]; rfl, by simp only [World.cell?, f3]; rfl, e4⟩)
  have HB := Lib.hid (b1.trans ((b2.trans ((b3.trans (b4.mono (by omega))).mono (by omega))).mono (by omega)))
  have HW := Lib.hid (show W4 = (((w.alloc (.cells #[.pointer (some ⟨d, 0, none⟩)] 24)).alloc (.cells #[.int .i64 n] 3)).alloc (.cells #[.slice A l c] 33)).alloc (.cells #[stepV w.heap.size 0, stepV w.heap.size 1, stepV w.heap.size 2, stepV w.heap.size 3] 71) by rw [hW4, hW3, hW2, hW1])
  clear hW1 hW2 hW3 hW4 s1 s2 s3 b1 b2 b3 b4 e1 e2 e3 e4 f1 f2 f3
  go_enter Tryz.func71, Tryz.ntmps71
  go_wp2
  go_ret
  have h1 := HR.out
  have h2 := HB.out
  rw [HW.out] at h1 h2
  exact ⟨rfl, h1, h2⟩

theorem enter_s0 (x : Value) (W : World) : (callFunc 104 #[x]).run Tryz.prog W = .ok (.enter 104 #[x]) W := by kernel_rfl
theorem enter_s1 (x y z : Value) (W : World) : (callFunc 105 #[x, y, z]).run Tryz.prog W = .ok (.enter 105 #[x, y, z]) W := by kernel_rfl
theorem enter_s2 (x : Value) (W : World) : (callFunc 107 #[x]).run Tryz.prog W = .ok (.enter 107 #[x]) W := by kernel_rfl
theorem enter_s3 (x : Value) (W : World) : (callFunc 108 #[x]).run Tryz.prog W = .ok (.enter 108 #[x]) W := by kernel_rfl
theorem enter_step (p j : Nat) (W : World) (hj : j < 4) : (callFunc (stepF j) (stepCaps p j)).run Tryz.prog W = .ok (.enter (stepF j) (stepCaps p j)) W := by
  have : j = 0 ∨ j = 1 ∨ j = 2 ∨ j = 3 := by omega
  rcases this with rfl | rfl | rfl | rfl
  · exact enter_s0 _ W
  · exact enter_s1 _ _ _ W
  · exact enter_s2 _ W
  · exact enter_s3 _ W
set_option maxHeartbeats 1000000 in
theorem make_any {w : World} {S : Nat → Prop} {d p : Nat} {M : AD} (h : DiskAt w S d M) (hops : M.ops < 4611686018427387000) {n : Int} (hn : 0 ≤ n ∧ n < 9223372036854775808) {A : Option Addr} {l c : Nat} {s : List Int} (hl : s.length = l) (hs : Sl w A c s) (ho : Oct s) (hb : s.length ≤ 100000)
    (hA : ∀ q, blk A = some q → ¬ S q) (hr : Renewed w p d n A l c) (hS : ∀ j, j < 4 → ¬ S (p + j)) :
    Calls Tryz.prog 52 #[.slice (some ⟨p + 3, 0, none⟩) 4 4] w fun e w' => e = .returned (.int .i64 (M.makeC (fileM n s))) ∧ After S d w (M.makeM (fileM n s)) w' := by
  obtain ⟨bs, hbs⟩ : ∃ bs, bs = fileM n s := ⟨_, rfl⟩
  have hlow : ∀ i, S i → i < w.heap.size := fun i hi => h.low hi
  have hp3 : p + 3 < w.heap.size := lt_of_block hr.fs
  have key := inOrder_any (w := w) (p + 3) 4 4 stepF (stepCaps p) (fun j W => After S d w (M.st bs j) W ∧ ∀ i, i < j → M.stC bs i = 0) (fun cc W => M.makeC bs = cc ∧ After S d w (M.makeM bs) W) (by omega)
    (fun j W hj hI => by
      have hc : w.cell? ⟨p + 3, j, none⟩ = some (stepV p j) := by
        simp only [World.cell?, hr.fs]
        have : j = 0 ∨ j = 1 ∨ j = 2 ∨ j = 3 := by omega
        rcases this with rfl | rfl | rfl | rfl <;> rfl
      exact turn_cell hI.1.2 (hS 3 (by omega)) hc)
    (fun j W hj => enter_step p j W hj)
    (fun j W hj hI => by
      obtain ⟨hI, hz⟩ := hI
      have hgr : ∀ q, q < w.heap.size → ¬ S q → ¬ grew S w W q := fun q hq hn e => e.elim hn (fun e => by omega)
      have k0 : Pt W p d := turn_cell hI.2 (hS 0 (by omega)) hr.c0
      have hj' : j = 0 ∨ j = 1 ∨ j = 2 ∨ j = 3 := by omega
      have hso := st_ops M bs j
      rcases hj' with rfl | rfl | rfl | rfl
      · refine (new1_any hI.1 (by omega) k0).mono ?_
        rintro e W' ⟨rfl, ha⟩
        have hg := hI.go ha hlow
        refine ⟨_, rfl, fun e => ⟨hg, fun i hi => ?_⟩, fun e => ⟨?_, ?_⟩⟩
        · obtain rfl : i = 0 := by omega
          exact e
        · unfold AD.makeC; rw [if_pos (show M.stC bs 0 ≠ 0 from e)]; rfl
        · unfold AD.makeM; rw [if_pos (show M.stC bs 0 ≠ 0 from e)]; exact hg
      · have k1 := turn_cell hI.2 (hS 1 (by omega)) hr.c1
        have k2 := turn_cell hI.2 (hS 2 (by omega)) hr.c2
        have hk := new2_any hI.1 (by omega) ⟨hgr p (by omega) (hS 0 (by omega)), hgr _ (by omega) (hS 1 (by omega)), hgr _ (by omega) (hS 2 (by omega))⟩ k0 n hn k1 hl k2 (hs.turn hI.2 hA) ho hb
        rw [← hbs] at hk
        refine hk.mono ?_
        rintro e W' ⟨rfl, ha⟩
        have hg := hI.go ha hlow
        have z0 := hz 0 (by omega)
        refine ⟨_, rfl, fun e => ⟨hg, fun i hi => ?_⟩, fun e => ⟨?_, ?_⟩⟩
        · have : i = 0 ∨ i = 1 := by omega
          rcases this with rfl | rfl
          · exact z0
          · exact e
        · unfold AD.makeC; rw [if_neg (by rw [z0]; simp), if_pos (show M.stC bs 1 ≠ 0 from e)]; rfl
        · unfold AD.makeM; rw [if_neg (by rw [z0]; simp), if_pos (show M.stC bs 1 ≠ 0 from e)]; exact hg
      · refine (new3_any hI.1 (by omega) k0).mono ?_
        rintro e W' ⟨rfl, ha⟩
        have hg := hI.go ha hlow
        have z0 := hz 0 (by omega)
        have z1 := hz 1 (by omega)
        refine ⟨_, rfl, fun e => ⟨hg, fun i hi => ?_⟩, fun e => ⟨?_, ?_⟩⟩
        · have : i = 0 ∨ i = 1 ∨ i = 2 := by omega
          rcases this with rfl | rfl | rfl
          · exact z0
          · exact z1
          · exact e
        · unfold AD.makeC; rw [if_neg (by rw [z0]; simp), if_neg (by rw [z1]; simp), if_pos (show M.stC bs 2 ≠ 0 from e)]; rfl
        · unfold AD.makeM; rw [if_neg (by rw [z0]; simp), if_neg (by rw [z1]; simp), if_pos (show M.stC bs 2 ≠ 0 from e)]; exact hg
      · refine (new4_any hI.1 (by omega) k0).mono ?_
        rintro e W' ⟨rfl, ha⟩
        have hg := hI.go ha hlow
        have z0 := hz 0 (by omega)
        have z1 := hz 1 (by omega)
        have z2 := hz 2 (by omega)
        refine ⟨_, rfl, fun e => ⟨hg, fun i hi => ?_⟩, fun e => ⟨?_, ?_⟩⟩
        · have : i = 0 ∨ i = 1 ∨ i = 2 ∨ i = 3 := by omega
          rcases this with rfl | rfl | rfl | rfl
          · exact z0
          · exact z1
          · exact z2
          · exact e
        · unfold AD.makeC; rw [if_neg (by rw [z0]; simp), if_neg (by rw [z1]; simp), if_neg (by rw [z2]; simp)]; rfl
        · unfold AD.makeM; rw [if_neg (by rw [z0]; simp), if_neg (by rw [z1]; simp), if_neg (by rw [z2]; simp)]; exact hg)
    ⟨After.same h (Below.refl _ w), fun i hi => by omega⟩
  rw [← hbs]
  refine key.mono ?_
  rintro e W ⟨cc, rfl, hz, hnz⟩
  by_cases hc : cc = 0
  · obtain ⟨hg, hi⟩ := hz hc
    have z0 := hi 0 (by omega)
    have z1 := hi 1 (by omega)
    have z2 := hi 2 (by omega)
    have z3 := hi 3 (by omega)
    refine ⟨?_, ?_⟩
    · unfold AD.makeC; rw [if_neg (by rw [z0]; simp), if_neg (by rw [z1]; simp), if_neg (by rw [z2]; simp), z3, hc]
    · unfold AD.makeM; rw [if_neg (by rw [z0]; simp), if_neg (by rw [z1]; simp), if_neg (by rw [z2]; simp)]; exact hg
  · obtain ⟨h1, h2⟩ := hnz hc
    exact ⟨by rw [h1], h2⟩

end Go.Proofs.YtienabfilnpieaaGreat

namespace Go.Proofs.YtienabfilnpieaaGreat
open Go.RowKit
set_option linter.unusedVariables false
set_option linter.unusedSimpArgs false
set_option maxRecDepth 100000

/-- The disk went on: where it lies now. -/
structure Went (S S' : Nat → Prop) (d : Nat) (w : World) (M : AD) (w' : World) : Prop where
  at_ : DiskAt w' S' d M
  turn : Turn S w w'
  grow : ∀ k, S' k → S k ∨ w.heap.size ≤ k
theorem Went.of {S : Nat → Prop} {d : Nat} {w w' : World} {M : AD} (h : After S d w M w') : Went S (grew S w w') d w M w' := ⟨h.1, h.2, fun k hk => hk.imp id (fun e => e.1)⟩
theorem Went.later {S S' : Nat → Prop} {d : Nat} {w w' w'' : World} {M : AD} (h : Went S S' d w M w') (hb : Below w'.heap.size w' w'') : Went S S' d w M w'' :=
  ⟨h.at_.later hb, h.turn.trans (Turn.of_below (S := fun _ => False) hb) (fun _ e => e.elim), h.grow⟩
theorem room_at {w : World} {S : Nat → Prop} {d : Nat} {M : AD} (h : DiskAt w S d M) : Calls Tryz.prog 79 #[.pointer (some ⟨d, 0, none⟩)] w fun e w' => e = .returned (.int .i64 M.room) ∧ w = w' := by
  obtain ⟨mb, f, A, c, h⟩ := h
  exact room_any w d _ h.c0

theorem format_nil (n : Int) (w : World) : Calls Tryz.prog 31 #[.pointer none, .int .i64 n] w fun e w' => e = .returned (.tuple #[.pointer none, .int .i64 1]) ∧ w = w' := by
  go_enter Tryz.func31, Tryz.ntmps31
  go_wp2
  go_ret2
  exact ⟨rfl, rfl⟩

/-- May a log of that limit not be laid? -/
def BadF (M : AD) (n : Int) : Prop := ¬ Lim n ∨ M.room < 2 * (n + 20)
instance (M : AD) (n : Int) : Decidable (BadF M n) := by unfold BadF; infer_instance
def newW (n : Int) : AW := ⟨n, [[]], false⟩
def FormatAs (S : Nat → Prop) (d : Nat) (w : World) (M : AD) (n : Int) (e : Ending) (w' : World) : Prop :=
  (BadF M n ∧ e = .returned (.tuple #[.pointer none, .int .i64 2]) ∧ Went S S d w M w') ∨
  (¬ BadF M n ∧ M.makeC (fileM n []) ≠ 0 ∧ e = .returned (.tuple #[.pointer none, .int .i64 (M.makeC (fileM n []))]) ∧ ∃ S', Went S S' d w (M.makeM (fileM n [])) w') ∨
  (¬ BadF M n ∧ M.makeC (fileM n []) = 0 ∧ ∃ g S' T, e = .returned (.tuple #[.pointer (some ⟨g, 0, none⟩), .int .i64 0]) ∧ Went S S' d w (M.makeM (fileM n [])) w' ∧ WalAt w' T g d (newW n) ∧ (∀ k, T k → w.heap.size ≤ k ∧ ¬ S' k))

theorem wal_new (W : World) (n : Int) (d : Nat) : WalAt ((W.alloc (.cells #[.slice none 0 0] 33)).alloc (.cells #[.int .i64 n, .slice (some ⟨W.heap.size, 0, none⟩) 1 1, .pointer (some ⟨d, 0, none⟩), .bool false] 90)) (fun k => W.heap.size ≤ k ∧ k < W.heap.size + 2) (W.heap.size + 1) d (newW n) := by
  obtain ⟨W1, hW1⟩ : ∃ W1, W1 = W.alloc (.cells #[.slice none 0 0] 33) := ⟨_, rfl⟩
  have s1 : W1.heap.size = W.heap.size + 1 := by rw [hW1]; simp
  have hrow : W1.ownsRow 0 33 1 (.slice (some ⟨W.heap.size, 0, none⟩) 1 1) 1 [.slice none 0 0] := by rw [hW1]; exact World.ownsRow_lit W _ 1 (Nat.zero_le _) (by simp [maxLen]) rfl
  rw [← hW1]
  have hbox := heap_alloc_new W1 (.cells #[.int .i64 n, .slice (some ⟨W.heap.size, 0, none⟩) 1 1, .pointer (some ⟨d, 0, none⟩), .bool false] 90)
  rw [s1] at hbox
  refine ⟨some ⟨W.heap.size, 0, none⟩, 1, [.slice none 0 0], hbox, ⟨hrow.alloc _, fun i p hp => ?_, fun q hq => ?_⟩, ⟨by omega, by omega⟩, fun k hk => by simp [s1]; omega⟩
  · have hp' : ([[]] : List (List Int))[i]? = some p := hp
    rcases i with _ | i
    · have : p = [] := by simpa using hp'.symm
      subst this
      exact ⟨none, 0, rfl, World.ownsRow_nil _ _ _ _, fun q hq => by simp [blk] at hq, fun b hb => by simp at hb⟩
    · simp at hp'
  · have : q = W.heap.size := by simpa [blk] using hq.symm
    subst this
    exact ⟨Nat.le_refl _, by omega⟩

set_option maxHeartbeats 1000000 in
theorem format_any {w : World} {S : Nat → Prop} {d : Nat} {M : AD} (h : DiskAt w S d M) (hops : M.ops < 4611686018427387000) (n : Int) :
    Calls Tryz.prog 31 #[.pointer (some ⟨d, 0, none⟩), .int .i64 n] w (FormatAs S d w M n) := by
  have H := Lib.hid h
  have HRM := Lib.hid (room_at h)
  have hr2 := h.ok.room2
  have hr1 := h.ok.room1
  by_cases hl : Lim n
  · have HLM := Lib.hid (fun W => isLimit_any n W)
    rw [decide_eq_true hl] at HLM
    have hl' := hl
    obtain ⟨l1, l2⟩ := hl'
    have w1 : IntKind.i64.wrap (n + 20) = n + 20 := i64_fit (by omega)
    have w2 : IntKind.i64.wrap (2 * (n + 20)) = 2 * (n + 20) := i64_fit (by omega)
    by_cases hb : M.room < 2 * (n + 20)
    · have t1 : decide (M.room < 2 * (n + 20)) = true := decide_eq_true hb
      have HB := Lib.hid (show BadF M n from .inr hb)
      clear hb hl h
      go_enter Tryz.func31, Tryz.ntmps31
      go_wp2_with (first | (go_at_call 78; refine (HLM.out _).mono ?_; rintro e w' ⟨rfl, rfl⟩) | (go_at_call 79; refine HRM.out.mono ?_; rintro e w' ⟨rfl, rfl⟩))
      go_ret2
      exact .inl ⟨HB.out, rfl, ⟨H.out, Turn.refl _ _, fun k hk => .inl hk⟩⟩
    · have t1 : decide (M.room < 2 * (n + 20)) = false := decide_eq_false hb
      have HB := Lib.hid (show ¬ BadF M n from fun e => e.elim (fun e => e hl) hb)
      have HRN := Lib.hid (renewing_any w d n none 0 0)
      have HMK := Lib.hid (fun (W : World) (hR : Renewed W w.heap.size d n none 0 0) (hW : Below w.heap.size w W) => make_any (H.out.later hW) hops (n := n) (by omega) (l := 0) (s := []) rfl ⟨by simp, by simp, Rd.empty⟩ (fun b hb => by simp at hb) (by simp) (fun q hq => by simp [blk] at hq) hR (fun j hj e => by have := H.out.low e; omega))
      clear hb hl h
      go_enter Tryz.func31, Tryz.ntmps31
      obtain ⟨cc, hcc⟩ : ∃ cc, cc = M.makeC (fileM n []) := ⟨_, rfl⟩
      have HCC := Lib.hid hcc
      rw [← hcc] at HMK
      clear hcc
      go_upto_region 6 with (first
        | (go_at_call 78; refine (HLM.out _).mono ?_; rintro e w' ⟨rfl, rfl⟩)
        | (go_at_call 79; refine HRM.out.mono ?_; rintro e w' ⟨rfl, rfl⟩)
        | (go_at_call 71; refine HRN.out.mono ?_; rintro e w2 ⟨rfl, hR, hb2⟩; have HB2 := Lib.hid hb2; have HM2 := Lib.hid (HMK.out w2 hR hb2); clear hR hb2)
        | (go_at_call 52; refine HM2.out.mono ?_; rintro e w3 ⟨rfl, ha⟩; have HA := Lib.hid (After.then H.out (Turn.of_below HB2.out) ha); clear ha))
      by_cases hz : cc = 0
      · have t2 : (cc != 0) = false := by simp [hz]
        have HZ := Lib.hid hz
        clear hz
        go_wp2
        go_ret2
        have hw3 := HA.out.2.size
        have hnew := wal_new w3 n d
        refine .inr (.inr ⟨HB.out, by rw [← HCC.out]; exact HZ.out, w3.heap.size + 1, grew S w w3, _, ?_, (Went.of HA.out).later (((Below.refl _ w3).alloc (Nat.le_refl _) _).alloc (by simp) _), hnew, fun k hk => ⟨by omega, fun e => ?_⟩⟩)
        · simp
        · rcases e with e | e
          · have := H.out.low e; omega
          · omega
      · have t2 : (cc != 0) = true := by simp [hz]
        have HZ := Lib.hid hz
        clear hz
        go_wp2
        go_ret2
        exact .inr (.inl ⟨HB.out, by rw [← HCC.out]; exact HZ.out, by rw [← HCC.out]; rfl, _, Went.of HA.out⟩)
  · have HLM := Lib.hid (fun W => isLimit_any n W)
    rw [decide_eq_false hl] at HLM
    have HB := Lib.hid (show BadF M n from .inl hl)
    clear hl h
    go_enter Tryz.func31, Tryz.ntmps31
    go_wp2_with (first | (go_at_call 78; refine (HLM.out _).mono ?_; rintro e w' ⟨rfl, rfl⟩))
    go_ret2
    exact .inl ⟨HB.out, rfl, ⟨H.out, Turn.refl _ _, fun k hk => .inl hk⟩⟩

end Go.Proofs.YtienabfilnpieaaGreat
