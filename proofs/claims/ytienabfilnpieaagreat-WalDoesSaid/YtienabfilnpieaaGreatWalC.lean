/-
  refuse, lay; the steps of Append.
  A record more: the steps of Append in order; the row of parts grows.
  Append: a record more, or not.
  The law's own wakes and some; what nothing answers.
-/
import Derived.Test.YtienabfilnpieaaGreatWalB
import Derived.Deep.CutRange
namespace Go.Proofs.YtienabfilnpieaaGreat
open Go.RowKit
set_option linter.unusedVariables false
set_option linter.unusedSimpArgs false
set_option maxRecDepth 100000

theorem refuse_nil (w : World) (A : Option Addr) (l c : Nat) (room : Int) : Calls Tryz.prog 66 #[.pointer none, .slice A l c, .int .i64 room] w fun e w' => e = .returned (.int .i64 1) ∧ w = w' := by
  go_enter Tryz.func66, Tryz.ntmps66
  go_wp2
  go_ret
  exact ⟨rfl, rfl⟩
def AW.refC (V : AW) (l : Nat) (room : Int) : Int := if V.broken then 8 else fitsC l room
theorem refuse_any {w : World} {T : Nat → Prop} {g d : Nat} {V : AW} (h : WalAt w T g d V) (A : Option Addr) (l c : Nat) (room : Int) (hl : l ≤ 140737488355328) :
    Calls Tryz.prog 66 #[.pointer (some ⟨g, 0, none⟩), .slice A l c, .int .i64 room] w fun e w' => e = .returned (.int .i64 (V.refC l room)) ∧ w = w' := by
  obtain ⟨A1, c1, vs, h⟩ := h
  have c3 := h.c3
  clear h
  have HF := Lib.hid (fun W => wfits_any A l c room W hl)
  rcases hb : V.broken with _ | _
  · have HZ := Lib.hid (show V.refC l room = fitsC l room by unfold AW.refC; rw [hb]; rfl)
    rw [hb] at c3
    clear hb
    go_enter Tryz.func66, Tryz.ntmps66
    go_wp2_with (go_at_call 101; refine (HF.out _).mono ?_; rintro e w' ⟨rfl, rfl⟩)
    go_ret
    rw [HZ.out]
    exact ⟨rfl, rfl⟩
  · have HZ := Lib.hid (show V.refC l room = 8 by unfold AW.refC; rw [hb]; rfl)
    rw [hb] at c3
    clear hb
    go_enter Tryz.func66, Tryz.ntmps66
    go_wp2
    go_ret
    rw [HZ.out]
    exact ⟨rfl, rfl⟩

set_option maxHeartbeats 1000000 in
theorem layW_any {w : World} {g n c : Nat} {A : Option Addr} {cc : Int} {Post : World → Prop} (hin : Calls Tryz.prog 52 #[.slice A n c] w fun e w' => e = .returned (.int .i64 cc) ∧ Post w')
    (hc : ∀ w', Post w' → (∃ b, w'.cell? ⟨g, 3, none⟩ = some (.bool b)) ∧ w'.frozen? ⟨g, 3, none⟩ = false) :
    Calls Tryz.prog 67 #[.pointer (some ⟨g, 0, none⟩), .slice A n c] w fun e w' => e = .returned (.int .i64 cc) ∧ ∃ w1, Post w1 ∧ w' = w1.setCell ⟨g, 3, none⟩ (.bool (!decide (cc = 0))) := by
  have HI := Lib.hid hin
  have HC := Lib.hid hc
  clear hin hc
  by_cases hz : cc = 0
  · have t1 : (cc != 0) = false := by simp [hz]
    have HZ := Lib.hid (show (!decide (cc = 0)) = false by simp [hz])
    clear hz
    go_enter Tryz.func67, Tryz.ntmps67
    go_wp2_with (go_at_call 52; refine HI.out.mono ?_; rintro e w1 ⟨rfl, hp⟩; obtain ⟨⟨b0, hb0⟩, hf0⟩ := HC.out _ hp; have HP := Lib.hid hp; clear hp)
    go_ret
    rw [HZ.out]
    exact ⟨rfl, w1, HP.out, rfl⟩
  · have t1 : (cc != 0) = true := by simp [hz]
    have HZ := Lib.hid (show (!decide (cc = 0)) = true by simp [hz])
    clear hz
    go_enter Tryz.func67, Tryz.ntmps67
    go_wp2_with (go_at_call 52; refine HI.out.mono ?_; rintro e w1 ⟨rfl, hp⟩; obtain ⟨⟨b0, hb0⟩, hf0⟩ := HC.out _ hp; have HP := Lib.hid hp; clear hp)
    go_ret
    rw [HZ.out]
    exact ⟨rfl, w1, HP.out, rfl⟩

/-- What Append does to the disk. -/
def AD.layM (M : AD) (fr : List Int) : AD := if M.appendC 0 fr.length ≠ 0 then M.appendM 0 fr else (M.appendM 0 fr).opM 0 [] ((M.appendM 0 fr).met.put 0 ((M.appendM 0 fr).file 0).settled)
def AD.layC (M : AD) (fr : List Int) : Int := if M.appendC 0 fr.length ≠ 0 then M.appendC 0 fr.length else (M.appendM 0 fr).opC 0 []

set_option maxHeartbeats 1000000 in
theorem lay2_any {w : World} {S T : Nat → Prop} {g d p : Nat} {V : AW} {M : AD} (hw : WalAt w T g d V) (h : DiskAt w S d M) (hops : M.ops < 4611686018427387904) (hp : w.cell? ⟨p, 0, none⟩ = some (.pointer (some ⟨g, 0, none⟩))) :
    Calls Tryz.prog 70 #[.pointer (some ⟨p, 0, none⟩)] w fun e w' => e = .returned (.int .i64 (M.opC 0 [])) ∧ After S d w (M.opM 0 [] (M.met.put 0 (M.file 0).settled)) w' := by
  obtain ⟨A1, c1, vs, hw⟩ := hw
  have c2 := hw.c2
  have HD := Lib.hid (sync_any h (k := 0) (by decide) hops)
  clear h hw
  go_enter Tryz.func70, Tryz.ntmps70
  go_wp2_with (go_at_call 12; refine HD.out.mono ?_; rintro e w' ⟨rfl, ha⟩; have HA := Lib.hid ha; clear ha)
  go_ret
  exact ⟨rfl, HA.out⟩

set_option maxHeartbeats 2000000 in
theorem lay1_any {w : World} {S T : Nat → Prop} {g d p q : Nat} {V : AW} {M : AD} (hw : WalAt w T g d V) (h : DiskAt w S d M) (hTS : ∀ k, T k → ¬ S k) (hops : M.ops < 4611686018427387904) (hS : ¬ S p ∧ ¬ S q) (hp : w.cell? ⟨p, 0, none⟩ = some (.pointer (some ⟨g, 0, none⟩)))
    {A : Option Addr} {l c : Nat} {b : List Int} (hl : b.length = l) (hq : w.cell? ⟨q, 0, none⟩ = some (.slice A l c)) (hs : Sl w A c b) (ho : Oct b) (hb : b.length ≤ 100000) (hn : V.parts.length ≤ 1000000) :
    Calls Tryz.prog 68 #[.pointer (some ⟨p, 0, none⟩), .pointer (some ⟨q, 0, none⟩)] w fun e w' => e = .returned (.int .i64 (M.appendC 0 (frameM V.parts.length b).length)) ∧ After S d w (M.appendM 0 (frameM V.parts.length b)) w' := by
  have HT0 := hTS _ hw.inT
  obtain ⟨A1, c1, vs, hw⟩ := hw
  have HD := Lib.hid h
  have HS0 := Lib.hid (And.intro hS HT0)
  have HF := Lib.hid (fun W (hW : Below w.heap.size w W) => frame_any V.parts.length (by omega) A c b W (hs.below hW) ho (by omega))
  have hf := frameM_len V.parts.length b
  have HAP := Lib.hid (fun W (hW : Below w.heap.size w W) B cb (hr : Rd W W.heap.size B (frameM V.parts.length b)) => append_any (h.later hW) (k := 0) (by decide) hops B (l + 12) cb (frameM V.parts.length b) (by rw [hf, hl]) (by omega) hr)
  obtain ⟨n, hnn⟩ : ∃ n, n = V.parts.length := ⟨_, rfl⟩
  have hw1 := hw.c1
  rw [hl] at hf HF
  rw [← hnn] at HF HAP hf hw1 hn ⊢
  rw [hf]
  obtain ⟨Fr, hFr⟩ : ∃ Fr, Fr = frameM n b := ⟨_, rfl⟩
  rw [← hFr] at HF HAP hf ⊢
  have HFL := Lib.hid hf
  have HC := Lib.hid (And.intro hp (And.intro hq (And.intro hw1 hw.c2)))
  have hlt : Hid (p < w.heap.size ∧ q < w.heap.size ∧ g < w.heap.size) := ⟨World.block_lt_of_cell? w _ hp, World.block_lt_of_cell? w _ hq, lt_of_block hw.box⟩
  clear h hS hs ho hl hFr hf hb hw hTS HT0 hp hq hw1 hnn
  have keep : Hid (∀ W, Below w.heap.size w W → W.cell? ⟨p, 0, none⟩ = some (.pointer (some ⟨g, 0, none⟩)) ∧ W.cell? ⟨q, 0, none⟩ = some (.slice A l c) ∧ W.cell? ⟨g, 1, none⟩ = some (.slice A1 n c1) ∧ W.cell? ⟨g, 2, none⟩ = some (.pointer (some ⟨d, 0, none⟩))) := fun W hW =>
    ⟨(hW.cell (p := ⟨p, 0, none⟩) hlt.out.1).trans HC.out.1, (hW.cell (p := ⟨q, 0, none⟩) hlt.out.2.1).trans HC.out.2.1, (hW.cell (p := ⟨g, 1, none⟩) hlt.out.2.2).trans HC.out.2.2.1, (hW.cell (p := ⟨g, 2, none⟩) hlt.out.2.2).trans HC.out.2.2.2⟩
  go_enter Tryz.func68, Tryz.ntmps68
  go_upto_region 1 with fail
  have k0 := keep.out w.drew (below_drewN (Below.refl _ _) 1)
  go_region_held3 (fun W => W.cell? ⟨p, 0, none⟩ = some (.pointer (some ⟨g, 0, none⟩)) ∧ W.cell? ⟨q, 0, none⟩ = some (.slice A l c) ∧ W.cell? ⟨g, 1, none⟩ = some (.slice A1 n c1) ∧ W.cell? ⟨g, 2, none⟩ = some (.pointer (some ⟨d, 0, none⟩))) (first | exact k0 | exact K2.out | exact K4.out) (first
    | (go_at_call 69; have hbd := below_drewN (Below.refl w.heap.size w) 1; refine (HF.out _ hbd).mono ?_; rintro e w2 ⟨A2, c2, rfl, hn2, hb2⟩; rw [HFL.out]; have hb2' := hbd.trans hb2; have HB2 := Lib.hid hb2'; have K2 := Lib.hid (keep.out _ hb2'); have HAPP := Lib.hid (HAP.out w2 hb2' A2 c2 hn2.sl.rd); clear hn2 hb2 hb2' hbd)
    | (go_at_call 11; refine HAPP.out.mono ?_; rintro e w4 ⟨rfl, ha⟩; have HA := Lib.hid ha; have K4 := Lib.hid (show w4.cell? ⟨p, 0, none⟩ = some (.pointer (some ⟨g, 0, none⟩)) ∧ w4.cell? ⟨q, 0, none⟩ = some (.slice A l c) ∧ w4.cell? ⟨g, 1, none⟩ = some (.slice A1 n c1) ∧ w4.cell? ⟨g, 2, none⟩ = some (.pointer (some ⟨d, 0, none⟩)) from ⟨turn_cell ha.2 HS0.out.1.1 K2.out.1, turn_cell ha.2 HS0.out.1.2 K2.out.2.1, turn_cell ha.2 HS0.out.2 K2.out.2.2.1, turn_cell ha.2 HS0.out.2 K2.out.2.2.2⟩); clear ha))
  all_goals (
    go_wp2
    go_ret
    exact ⟨rfl, After.then HD.out (Turn.of_below HB2.out) HA.out⟩)

end Go.Proofs.YtienabfilnpieaaGreat

namespace Go.Proofs.YtienabfilnpieaaGreat
open Go.RowKit
set_option linter.unusedVariables false
set_option linter.unusedSimpArgs false
set_option maxRecDepth 100000

/-- The world gets a name. -/
theorem name_world {P : Program} {cd : Code} {Q : Exit → Act → World → Prop} {a : Act} {w : World} (Φ : World → Prop) (h : Φ w) (k : ∀ w', Φ w' → Code.wp P cd Q a w') : Code.wp P cd Q a w := k w h
theorem put_cell {w : World} {g i p j : Nat} {v u : Value} (hne : p ≠ g) (h : w.cell? ⟨p, j, none⟩ = some u) : (w.setCell ⟨g, i, none⟩ v).cell? ⟨p, j, none⟩ = some u := by
  have hb := Below.heap_setCell w ⟨g, i, none⟩ v p hne
  simp only [World.cell?] at h ⊢
  rw [hb]
  exact h
theorem enter_l1 (x y : Value) (W : World) : (callFunc 68 #[x, y]).run Tryz.prog W = .ok (.enter 68 #[x, y]) W := by kernel_rfl
theorem enter_l2 (x : Value) (W : World) : (callFunc 70 #[x]).run Tryz.prog W = .ok (.enter 70 #[x]) W := by kernel_rfl
def laysF : Nat → FuncId
  | 0 => 68
  | _ => 70
def laysCaps (p q : Nat) : Nat → Array Value
  | 0 => #[.pointer (some ⟨p, 0, none⟩), .pointer (some ⟨q, 0, none⟩)]
  | _ => #[.pointer (some ⟨p, 0, none⟩)]

set_option maxHeartbeats 1000000 in
theorem lays_any {w : World} {S T : Nat → Prop} {g d p q sb : Nat} {V : AW} {M : AD} (hw : WalAt w T g d V) (h : DiskAt w S d M) (hTS : ∀ k, T k → ¬ S k) (hops : M.ops < 4611686018427387000) (hS : ¬ S p ∧ ¬ S q ∧ ¬ S sb) (hp : w.cell? ⟨p, 0, none⟩ = some (.pointer (some ⟨g, 0, none⟩)))
    {A : Option Addr} {l c : Nat} {b : List Int} (hl : b.length = l) (hq : w.cell? ⟨q, 0, none⟩ = some (.slice A l c)) (hs : Sl w A c b) (ho : Oct b) (hb : b.length ≤ 100000) (hn : V.parts.length ≤ 1000000)
    (hA : ∀ k, blk A = some k → ¬ S k) (hfs : w.heap[sb]? = some (.cells #[.func (.func (laysF 0)) #[] (laysCaps p q 0), .func (.func (laysF 1)) #[] (laysCaps p q 1)] 71 (0, 0))) :
    Calls Tryz.prog 52 #[.slice (some ⟨sb, 0, none⟩) 2 2] w fun e w' => e = .returned (.int .i64 (M.layC (frameM V.parts.length b))) ∧ After S d w (M.layM (frameM V.parts.length b)) w' := by
  obtain ⟨fr, hfr⟩ : ∃ fr, fr = frameM V.parts.length b := ⟨_, rfl⟩
  have hlow : ∀ i, S i → i < w.heap.size := fun i hi => h.low hi
  have hpl := World.block_lt_of_cell? w _ hp
  have hql := World.block_lt_of_cell? w _ hq
  have hao := appendM_ops M 0 fr
  have key := inOrder_any (w := w) sb 2 2 laysF (laysCaps p q) (fun j W => (j = 0 ∧ W = w) ∨ (j = 1 ∧ M.appendC 0 fr.length = 0 ∧ After S d w (M.appendM 0 fr) W) ∨ (j = 2 ∧ M.layC fr = 0 ∧ After S d w (M.layM fr) W)) (fun cc W => M.layC fr = cc ∧ After S d w (M.layM fr) W) (by omega)
    (fun j W hj hI => by
      have hc : w.cell? ⟨sb, j, none⟩ = some (.func (.func (laysF j)) #[] (laysCaps p q j)) := by
        simp only [World.cell?, hfs]
        have : j = 0 ∨ j = 1 := by omega
        rcases this with rfl | rfl <;> rfl
      rcases hI with ⟨_, rfl⟩ | ⟨_, _, ha⟩ | ⟨e, _⟩
      · exact hc
      · exact turn_cell ha.2 hS.2.2 hc
      · omega)
    (fun j W hj => by
      have : j = 0 ∨ j = 1 := by omega
      rcases this with rfl | rfl
      · exact enter_l1 _ _ W
      · exact enter_l2 _ W)
    (fun j W hj hI => by
      rcases hI with ⟨rfl, rfl⟩ | ⟨rfl, hz, ha⟩ | ⟨e, _⟩
      · have hk := lay1_any hw h hTS (by omega) ⟨hS.1, hS.2.1⟩ hp hl hq hs ho hb hn
        rw [← hfr] at hk
        refine hk.mono ?_
        rintro e W' ⟨rfl, ha⟩
        refine ⟨_, rfl, fun e => .inr (.inl ⟨rfl, e, ha⟩), fun e => ⟨?_, ?_⟩⟩
        · unfold AD.layC; rw [if_pos e]
        · unfold AD.layM; rw [if_pos e]; exact ha
      · have hgr : ∀ k, k < w.heap.size → ¬ S k → ¬ grew S w W k := fun k hk hn e => e.elim hn (fun e => by omega)
        have hw' : WalAt W T g d V := hw.other ha.2 hTS
        have hk := lay2_any hw' ha.1 (by omega) (turn_cell ha.2 hS.1 hp)
        refine hk.mono ?_
        rintro e W' ⟨rfl, ha2⟩
        have hg := ha.go ha2 hlow
        refine ⟨_, rfl, fun e => .inr (.inr ⟨rfl, ?_, ?_⟩), fun e => ⟨?_, ?_⟩⟩
        · unfold AD.layC; rw [if_neg (by rw [hz]; simp)]; exact e
        · unfold AD.layM; rw [if_neg (by rw [hz]; simp)]; exact hg
        · unfold AD.layC; rw [if_neg (by rw [hz]; simp)]
        · unfold AD.layM; rw [if_neg (by rw [hz]; simp)]; exact hg
      · omega)
    (.inl ⟨rfl, rfl⟩)
  rw [← hfr]
  refine key.mono ?_
  rintro e W ⟨cc, rfl, hz, hnz⟩
  by_cases hc : cc = 0
  · rcases hz hc with ⟨e, _⟩ | ⟨e, _⟩ | ⟨_, h1, h2⟩
    · omega
    · omega
    · exact ⟨by rw [h1, hc], h2⟩
  · obtain ⟨h1, h2⟩ := hnz hc
    exact ⟨by rw [h1], h2⟩

/-- append(v, x) of one slice of bytes to a row of them, as a step of a region that draws. -/
theorem run_rows {w : World} (ty : TypeId) (A0 : Option Addr) (c0 n : Nat) (xs : List Value) (hown : w.ownsRow 0 33 1 (.slice A0 n c0) n xs) (gx : Nat) (u : Value) (hc : w.cell? ⟨gx, 0, none⟩ = some u) (h1 : u.oneCell' = true) (hbig : n ≤ 1000000) :
    ∃ A1 c1 w', (Builtin.append_ #[29, 29] ty #[.slice A0 n c0, .slice (some ⟨gx, 0, none⟩) 1 1]).run Tryz.prog w = .ok (.slice A1 (n + 1) c1) w' ∧ w'.ownsRow 0 33 1 (.slice A1 (n + 1) c1) (n + 1) (xs ++ [u]) ∧ w.grownBy w' (blk A0) ∧ (blk A1 = blk A0 ∨ blk A1 = some w.heap.size) := by
  obtain ⟨i0, hi, hz0, hz1, hz2⟩ := info_parts infoBytes
  have hob : ∀ (A : Option Addr) n c, (Value.slice A n c).ownBlock = blk A := fun A n c => by cases A <;> rfl
  obtain ⟨v', w', hrun, h1, h2, h3, h4⟩ := run_append_own_at (P := Tryz.prog) w 0 29 ty 33 i0 (.slice none 0 0) 1 24 Tryz.underlying29 hi hz0 hz1 hz2 rfl (by decide) _ n xs hown ⟨gx, 0, none⟩ 1 1 [u] (by simp) (by
      intro j v hj
      rcases j with _ | j
      · have : v = u := by simpa using hj.symm
        subst this
        simpa [Addr.add] using hc
      · simp at hj) (by
      intro v hv
      have : v = u := by simpa using hv
      subst this
      exact h1) (by unfold maxLen; omega) (by omega) (Nat.zero_le _)
  obtain ⟨A1, c1, rfl, _, _⟩ := own_form h1
  rw [hob] at h2 h4
  rw [hob] at h4
  exact ⟨A1, c1, w', hrun, h1, h2, h4⟩
theorem step_rows {w : World} {ops : Array Oper} {o : Oper} {a : Act} {K : Act → World → Prop} {Q : Exit → Act → World → Prop} {E : Prop} (hgd : o.guard = none) (s x : Operand)
    (ho : o.op = .call { callee := .builtin .append, args := #[s, x], argTypes := #[29, 29] })
    (A0 : Option Addr) (c0 n : Nat) (xs : List Value) (hs : a.eval s = .slice A0 n c0) (hown : w.ownsRow 0 33 1 (.slice A0 n c0) n xs)
    (gx : Nat) (u : Value) (hx : a.eval x = .slice (some ⟨gx, 0, none⟩) 1 1) (hc : w.cell? ⟨gx, 0, none⟩ = some u) (h1 : u.oneCell' = true) (hbig : n ≤ 1000000)
    (h : ∀ A1 c1 w', w'.ownsRow 0 33 1 (.slice A1 (n + 1) c1) (n + 1) (xs ++ [u]) → w.grownBy w' (blk A0) → (blk A1 = blk A0 ∨ blk A1 = some w.heap.size) → K (a.put o.dst (.slice A1 (n + 1) c1)) w') :
    if Region.wanted o (yielded ops a.tmps) = true then Oper.wp Tryz.prog o a w K Q else E := by
  have hw : Region.wanted o (yielded ops a.tmps) = true := by simp [Region.wanted, hgd]
  rw [if_pos hw]
  obtain ⟨A1, c1, w', hrun, h1, h2, h3⟩ := run_rows o.type A0 c0 n xs hown gx u hc h1 hbig
  unfold Oper.wp
  simp [execOp, ho, resolve, invoke, builtin, hs, hx, hrun, Result.andThen]
  exact h A1 c1 w' h1 h2 h3

/-- The log has a record more. -/
theorem WalIn.more {X W W2 : World} {T : Nat → Prop} {g d : Nat} {V : AW} {A : Option Addr} {c : Nat} {vs : List Value} (h : WalIn X T g d V A c vs) {b : List Int} (ho : Oct b) {A1 : Option Addr} {c1 : Nat} (hb : Below X.heap.size X W)
    (hn : W.ownsRow X.heap.size 5 1 (.slice A1 b.length c1) b.length (b.map (Value.int .u8))) {A2 : Option Addr} {c2 : Nat} (hr : W2.ownsRow 0 33 1 (.slice A2 (V.parts.length + 1) c2) (V.parts.length + 1) (vs ++ [.slice A1 b.length c1])) (hg : W.grownBy W2 (blk A)) (hl : blk A2 = blk A ∨ blk A2 = some W.heap.size) :
    WalAt (W2.setCell ⟨g, 1, none⟩ (.slice A2 (V.parts.length + 1) c2)) (fun k => T k ∨ (X.heap.size ≤ k ∧ k < W2.heap.size)) g d { V with parts := V.parts ++ [b] } ∧
    Turn (fun k => T k) X (W2.setCell ⟨g, 1, none⟩ (.slice A2 (V.parts.length + 1) c2)) := by
  have hW := h.later hb
  have hgs := hg.size
  have hbs := hb.size
  have hne : (5 : TypeId) ≠ 33 := by decide
  have hneW : (90 : TypeId) ≠ 33 := by decide
  have hneU : (5 : TypeId) ≠ 90 := by decide
  have hgr : blk A ≠ some g := fun e => by
    obtain ⟨cur, hc⟩ := own_block hW.parts.row e
    rw [hW.box] at hc
    simp at hc
    try exact hneW hc.2
  have hbox2 : W2.heap[g]? = some (.cells (walA V A c d) 90 (0, 0)) := (hg.block g (lt_of_block hW.box) (by simpa using fun e => hgr e.symm)).trans hW.box
  have hbox3 := heap_set hbox2 1 (.slice A2 (V.parts.length + 1) c2)
  have hoth : ∀ k, k ≠ g → (W2.setCell ⟨g, 1, none⟩ (.slice A2 (V.parts.length + 1) c2)).heap[k]? = W2.heap[k]? := fun k hk => Below.heap_setCell _ _ _ _ hk
  have hvl : vs.length = V.parts.length := by have := h.parts.row.1; omega
  have keepU : ∀ {B : Option Addr} {cb : Nat} {p : List Int} {base : Nat}, W.ownsRow base 5 1 (.slice B p.length cb) p.length (p.map (Value.int .u8)) → (W2.setCell ⟨g, 1, none⟩ (.slice A2 (V.parts.length + 1) c2)).ownsRow 0 5 1 (.slice B p.length cb) p.length (p.map (Value.int .u8)) := fun {B cb p base} hp => by
    have h1 := hp.kept hg (by
      have := own_apart hne hp hW.parts.row
      have e : (Value.slice A V.parts.length c).ownBlock = blk A := by cases A <;> rfl
      rw [e] at this
      exact this)
    have h2 := New.low (A := B) (bs := p) h1 (Nat.zero_le base)
    refine row_same h2 fun k hk => hoth k (fun e => ?_)
    subst e
    obtain ⟨cur, hc⟩ := own_block h2 hk
    rw [hbox2] at hc
    simp at hc
    try exact hneU hc.2.symm
  refine ⟨⟨A2, c2, vs ++ [.slice A1 b.length c1], ?_, ⟨?_, fun i p hp => ?_, fun k hk => ?_⟩, .inl h.inT, fun k hk => ?_⟩, ?_⟩
  · have e : (walA V A c d).setIfInBounds 1 (.slice A2 (V.parts.length + 1) c2) = walA { V with parts := V.parts ++ [b] } A2 c2 d := by simp [walA]
    rw [← e]
    exact hbox3
  · have e : ({ V with parts := V.parts ++ [b] } : AW).parts.length = V.parts.length + 1 := by simp
    rw [e]
    refine row_same hr fun k hk => hoth k (fun e => ?_)
    subst e
    obtain ⟨cur, hc⟩ := own_block hr hk
    rw [hbox2] at hc
    simp at hc
    try exact hneW hc.2
  · have hp : (V.parts ++ [b])[i]? = some p := hp
    by_cases hi : i < V.parts.length
    · rw [List.getElem?_append_left hi] at hp
      obtain ⟨B, cb, h1, h2, h3, h4⟩ := hW.parts.each i p hp
      exact ⟨B, cb, by rw [List.getElem?_append_left (by omega)]; exact h1, keepU h2, fun k hk => .inl (h3 k hk), h4⟩
    · rw [List.getElem?_append_right (by omega)] at hp
      have hi0 : i - V.parts.length = 0 := by
        rcases hd : i - V.parts.length with _ | j
        · rfl
        · rw [hd] at hp; simp at hp
      rw [hi0] at hp
      have hp : b = p := by simpa using hp
      subst hp
      refine ⟨A1, c1, by rw [List.getElem?_append_right (by omega), hvl, hi0]; rfl, keepU hn, fun k hk => .inr ?_, ho⟩
      have := hn.lt k (by cases A1 <;> simp_all [Value.ownBlock, blk])
      omega
  · rcases hl with e | e
    · rw [e] at hk
      exact .inl (hW.parts.rowT k hk)
    · rw [e] at hk
      have : W.heap.size = k := by simpa using hk
      have h2 := hr.lt k (by cases A2 <;> simp_all [Value.ownBlock, blk])
      exact .inr (by omega)
  · have hsz : (W2.setCell ⟨g, 1, none⟩ (.slice A2 (V.parts.length + 1) c2)).heap.size = W2.heap.size := by simp [World.setCell]
    rcases hk with e | e
    · have := h.low k e; omega
    · omega
  · refine ⟨hg.os.trans hb.os, hg.tape.trans hb.tape, hg.output.trans hb.output, by simp [World.setCell]; omega, fun k hk hnT => ?_⟩
    rw [hoth k (fun e => hnT (e ▸ h.inT)), hg.block k (by omega) (fun e => hnT (h.parts.rowT k e.symm))]
    exact hb.block k hk

end Go.Proofs.YtienabfilnpieaaGreat

namespace Go.Proofs.YtienabfilnpieaaGreat
open Go.RowKit
set_option linter.unusedVariables false
set_option linter.unusedSimpArgs false
set_option maxRecDepth 100000

/-- A log may be so. -/
structure AW.Ok (V : AW) : Prop where
  lim : Lim V.most
  one : 1 ≤ V.parts.length
  cost : (costM V.parts : Int) ≤ V.most
theorem AW.Ok.small {V : AW} (h : V.Ok) : costM V.parts ≤ 16000 ∧ V.parts.length ≤ 16000 := by
  have h1 := h.lim.2
  have h2 := h.cost
  have h3 := costM_len V.parts
  omega
/-- A log and its disk. -/
structure Log (w : World) (S T : Nat → Prop) (g d : Nat) (V : AW) (M : AD) : Prop where
  wal : WalAt w T g d V
  disk : DiskAt w S d M
  sep : ∀ k, T k → ¬ S k
  ok : V.Ok
structure Moved (S T S' T' : Nat → Prop) (w w' : World) : Prop where
  turn : Turn (fun k => S k ∨ T k) w w'
  s : ∀ k, S' k → S k ∨ w.heap.size ≤ k
  t : ∀ k, T' k → T k ∨ w.heap.size ≤ k
def AW.room (V : AW) : Int := V.most - (costM V.parts : Int)
def AW.appC (V : AW) (M : AD) (b : List Int) : Int := if V.refC b.length V.room ≠ 0 then V.refC b.length V.room else M.layC (frameM V.parts.length b)
def AW.appV (V : AW) (M : AD) (b : List Int) : AW := if V.refC b.length V.room ≠ 0 then V else if M.layC (frameM V.parts.length b) ≠ 0 then ⟨V.most, V.parts, true⟩ else ⟨V.most, V.parts ++ [b], false⟩
def AW.appD (V : AW) (M : AD) (b : List Int) : AD := if V.refC b.length V.room ≠ 0 then M else M.layM (frameM V.parts.length b)
theorem appV_ok {V : AW} (h : V.Ok) (M : AD) (b : List Int) : (V.appV M b).Ok := by
  unfold AW.appV
  split
  · exact h
  · rename_i hr
    split
    · exact ⟨h.lim, h.one, h.cost⟩
    · refine ⟨h.lim, by simp, ?_⟩
      show (costM (V.parts ++ [b]) : Int) ≤ V.most
      rw [costM_append, costM_one]
      have : fitsC b.length V.room = 0 := by
        have e : V.refC b.length V.room = 0 := by simpa using hr
        unfold AW.refC at e
        split at e
        · simp at e
        · exact e
      unfold fitsC at this
      split at this
      · simp at this
      · split at this
        · simp at this
        · rename_i h1 h2
          unfold AW.room at h2
          omega

theorem append_nilW (w : World) (A : Option Addr) (l c : Nat) : Calls Tryz.prog 23 #[.pointer none, .slice A l c] w fun e w' => e = .returned (.int .i64 1) ∧ Below w.heap.size w w' := by
  obtain ⟨W1, hW1⟩ : ∃ W1, W1 = (w.alloc (.cells #[.pointer none] 32)).alloc (.cells #[.slice A l c] 33) := ⟨_, rfl⟩
  have hb : Below w.heap.size w W1 := by rw [hW1]; exact ((Below.refl _ w).alloc (Nat.le_refl _) _).alloc (by simp) _
  have k1 : W1.cell? ⟨w.heap.size, 0, none⟩ = some (.pointer none) := by
    rw [hW1]
    have h1 := heap_alloc_new w (.cells #[.pointer none] 32)
    have h2 := ((Below.refl (w.alloc (.cells #[.pointer none] 32)).heap.size _).alloc (Nat.le_refl _) (.cells #[.slice A l c] 33)).block w.heap.size (by simp)
    simp only [World.cell?, h2, h1]
    rfl
  have k2 : W1.cell? ⟨w.heap.size + 1, 0, none⟩ = some (.slice A l c) := by
    rw [hW1]
    have h1 := heap_alloc_new (w.alloc (.cells #[.pointer none] 32)) (.cells #[.slice A l c] 33)
    rw [World.size_alloc] at h1
    simp only [World.cell?, h1]
    rfl
  have HW := Lib.hid hW1
  have HB := Lib.hid hb
  have HL := Lib.hid (fun q : Nat => (left_nilW (W1.drewN q)).mono (fun e w' h => (⟨h.1, h.2.symm⟩ : e = .returned (.int .i64 0) ∧ w' = W1.drewN q)))
  have HR := Lib.hid (fun q : Nat => (refuse_nil (W1.drewN q) A l c 0).mono (fun e w' h => (⟨h.1, h.2.symm⟩ : e = .returned (.int .i64 1) ∧ w' = W1.drewN q)))
  clear hW1 hb
  go_enter Tryz.func23, Tryz.ntmps23
  go_upto_region 1 with fail
  rw [← HW.out]
  go_quiet ((first | (go_at_call 30; with_reducible refine Calls.quiet_of_same (HL.out _)) | (go_at_call 66; with_reducible refine Calls.quiet_of_same (HR.out _))))
  go_wp2
  go_ret
  exact ⟨rfl, below_drewN HB.out _⟩

theorem walA_u8 (V : AW) (A : Option Addr) (c d : Nat) (x : Int) (i : Nat) : (walA V A c d)[i]? ≠ some (.int .u8 x) := by
  intro h
  rcases i with _ | _ | _ | _ | i <;> simp at h
theorem WalIn.odd {w : World} {T : Nat → Prop} {g d : Nat} {V : AW} {A : Option Addr} {c : Nat} {vs : List Value} (h : WalIn w T g d V A c vs) : ∀ o z, w.cell? ⟨g, o, none⟩ ≠ some (.int .u8 z) := fun o z => by
  simp only [World.cell?, h.box]
  exact walA_u8 V A c d z o
/-- The log's own cells are written to: its rows lie as they lay. -/
theorem WalIn.put {w w' : World} {T : Nat → Prop} {g d : Nat} {V : AW} {A : Option Addr} {c : Nat} {vs : List Value} (h : WalIn w T g d V A c vs) (hb : ∀ k, k ≠ g → w'.heap[k]? = w.heap[k]?) : PartsAt w' T A c V.parts vs := by
  have hneW : (90 : TypeId) ≠ 33 := by decide
  have hneU : (5 : TypeId) ≠ 90 := by decide
  refine ⟨row_same h.parts.row fun k hk => hb k (fun e => ?_), fun i p hp => ?_, h.parts.rowT⟩
  · subst e
    obtain ⟨cur, hc⟩ := own_block h.parts.row hk
    rw [h.box] at hc
    simp at hc
    try exact hneW hc.2
  · obtain ⟨B, cb, h1, h2, h3, h4⟩ := h.parts.each i p hp
    refine ⟨B, cb, h1, row_same h2 fun k hk => hb k (fun e => ?_), h3, h4⟩
    subst e
    obtain ⟨cur, hc⟩ := own_block h2 hk
    rw [h.box] at hc
    simp at hc
    try exact hneU hc.2.symm
theorem WalIn.mark {w : World} {T : Nat → Prop} {g d : Nat} {V : AW} {A : Option Addr} {c : Nat} {vs : List Value} (h : WalIn w T g d V A c vs) (bb : Bool) : WalIn (w.setCell ⟨g, 3, none⟩ (.bool bb)) T g d ⟨V.most, V.parts, bb⟩ A c vs := by
  refine ⟨?_, h.put fun k hk => Below.heap_setCell _ _ _ _ hk, h.inT, fun k hk => by have := h.low k hk; simpa [World.setCell] using this⟩
  have := heap_set h.box 3 (.bool bb)
  exact this

set_option maxHeartbeats 4000000 in
theorem append_anyW {w : World} {S T : Nat → Prop} {g d : Nat} {V : AW} {M : AD} (h : Log w S T g d V M) (hops : M.ops < 4611686018427387000) {A : Option Addr} {l c : Nat} {b : List Int} (hl : b.length = l) (hs : Sl w A c b) (ho : Oct b) (hb : b.length ≤ 100000)
    (hA : ∀ k, blk A = some k → ¬ S k) :
    Calls Tryz.prog 23 #[.pointer (some ⟨g, 0, none⟩), .slice A l c] w fun e w' => e = .returned (.int .i64 (V.appC M b)) ∧ ∃ S' T', Log w' S' T' g d (V.appV M b) (V.appD M b) ∧ Moved S T S' T' w w' := by
  obtain ⟨W1, hW1⟩ : ∃ W1, W1 = (w.alloc (.cells #[.pointer (some ⟨g, 0, none⟩)] 32)).alloc (.cells #[.slice A l c] 33) := ⟨_, rfl⟩
  have hb1 : Below w.heap.size w W1 := by rw [hW1]; exact ((Below.refl _ w).alloc (Nat.le_refl _) _).alloc (by simp) _
  have s1 : W1.heap.size = w.heap.size + 2 := by rw [hW1]; simp
  have k1 : W1.cell? ⟨w.heap.size, 0, none⟩ = some (.pointer (some ⟨g, 0, none⟩)) := by
    rw [hW1]
    have h1 := heap_alloc_new w (.cells #[.pointer (some ⟨g, 0, none⟩)] 32)
    have h2 := ((Below.refl (w.alloc (.cells #[.pointer (some ⟨g, 0, none⟩)] 32)).heap.size _).alloc (Nat.le_refl _) (.cells #[.slice A l c] 33)).block w.heap.size (by simp)
    simp only [World.cell?, h2, h1]
    rfl
  have k2 : W1.cell? ⟨w.heap.size + 1, 0, none⟩ = some (.slice A l c) := by
    rw [hW1]
    have h1 := heap_alloc_new (w.alloc (.cells #[.pointer (some ⟨g, 0, none⟩)] 32)) (.cells #[.slice A l c] 33)
    rw [World.size_alloc] at h1
    simp only [World.cell?, h1]
    rfl
  have H := Lib.hid h
  have HW := Lib.hid hW1
  have HB1 := Lib.hid hb1
  have HK := Lib.hid (And.intro k1 k2)
  have HSZ := Lib.hid s1
  have HLW := Lib.hid (show ∀ k, S k ∨ T k → k < w.heap.size from fun k hk => hk.elim (fun e => h.disk.low e) (fun e => h.wal.low e))
  have HS := Lib.hid (hs.below hb1)
  have HX := Lib.hid (And.intro ho (And.intro hb hl))
  have hsm := h.ok.small
  have keep : Hid (∀ W, Below W1.heap.size W1 W → W.cell? ⟨w.heap.size, 0, none⟩ = some (.pointer (some ⟨g, 0, none⟩)) ∧ W.cell? ⟨w.heap.size + 1, 0, none⟩ = some (.slice A l c)) := fun W hW =>
    ⟨(hW.cell (p := ⟨w.heap.size, 0, none⟩) (by simp; omega)).trans k1, (hW.cell (p := ⟨w.heap.size + 1, 0, none⟩) (by simp; omega)).trans k2⟩
  have HLF := Lib.hid (left_any' (w := W1.drew) ((h.wal.later hb1).later (below_drewN (Below.refl _ _) 1)) h.ok.lim (by omega))
  obtain ⟨room, hroom⟩ : ∃ room, room = V.room := ⟨_, rfl⟩
  have HRO := Lib.hid (show V.most - (costM V.parts : Int) = room by rw [hroom]; rfl)
  obtain ⟨rc, hrc⟩ : ∃ rc, rc = V.refC l room := ⟨_, rfl⟩
  have HRF := Lib.hid (fun (W : World) (hW : Below W1.heap.size W1 W) => refuse_any ((h.wal.later hb1).later hW) A l c room (by rw [← hl]; omega))
  rw [← hrc] at HRF
  have HRC := Lib.hid (show V.refC b.length V.room = rc by rw [hrc, hroom, hl])
  clear h hW1 hb1 k1 k2 s1 hs ho hb hl hroom hrc
  rw [HRO.out] at HLF
  go_enter Tryz.func23, Tryz.ntmps23
  go_upto_region 1 with fail
  rw [← HW.out]
  have k0 := keep.out W1.drew (below_drewN (Below.refl _ _) 1)
  go_cut [5] from 7 to 11 (fun s5 wx => s5 = .int .i64 rc ∧ Hid (Below W1.heap.size W1 wx))
  case first =>
    go_region_held3 (fun W => W.cell? ⟨w.heap.size, 0, none⟩ = some (.pointer (some ⟨g, 0, none⟩)) ∧ W.cell? ⟨w.heap.size + 1, 0, none⟩ = some (.slice A l c)) (first | exact k0 | exact K2.out) (first
      | (go_at_call 30; refine HLF.out.mono ?_; rintro e w2 ⟨rfl, hb2⟩; have hb2' := (below_drewN (Below.refl W1.heap.size W1) 1).trans hb2; have HB2 := Lib.hid hb2'; have K2 := Lib.hid (keep.out _ hb2'); clear hb2 hb2')
      | (go_at_call 66; refine (HRF.out _ HB2.out).mono ?_; rintro e w3 ⟨rfl, rfl⟩))
    all_goals (
      go_wp2_with fail
      go_meet
      exact ⟨rfl, HB2⟩)
  case rest =>
    obtain ⟨rfl, HBX⟩ := hcut
    clear HLF HRF k0
    have hbx := HB1.out.trans (HBX.out.mono HB1.out.size)
    have hkx := keep.out wc HBX.out
    obtain ⟨k1, k2⟩ := hkx
    by_cases hz : rc = 0
    · have t1 : (rc != 0) = false := by simp [hz]
      have HZ := Lib.hid hz
      obtain ⟨W4, hW4⟩ : ∃ W4, W4 = wc.alloc (.cells #[.func (.func 68) #[] #[.pointer (some ⟨w.heap.size, 0, none⟩), .pointer (some ⟨w.heap.size + 1, 0, none⟩)], .func (.func 70) #[] #[.pointer (some ⟨w.heap.size, 0, none⟩)]] 71) := ⟨_, rfl⟩
      have hb4 : Below wc.heap.size wc W4 := by rw [hW4]; exact (Below.refl _ wc).alloc (Nat.le_refl _) _
      have hx4 : W4.heap[wc.heap.size]? = some (.cells #[.func (.func 68) #[] #[.pointer (some ⟨w.heap.size, 0, none⟩), .pointer (some ⟨w.heap.size + 1, 0, none⟩)], .func (.func 70) #[] #[.pointer (some ⟨w.heap.size, 0, none⟩)]] 71 (0, 0)) := by rw [hW4]; exact heap_alloc_new wc _
      have hbw4 : Below w.heap.size w W4 := hbx.trans (hb4.mono hbx.size)
      have hb14 : Below W1.heap.size W1 W4 := HBX.out.trans (hb4.mono HBX.out.size)
      have hk4 := keep.out W4 hb14
      have hwc := HBX.out.size
      have hsz := HSZ.out
      have hwal4 := H.out.wal.later hbw4
      have hdsk4 := H.out.disk.later hbw4
      have hsl4 := HS.out.below hb14
      have hg0 := H.out.wal.low H.out.wal.inT
      have hlay := layW_any (g := g) (lays_any hwal4 hdsk4 H.out.sep hops ⟨fun e => by have := HLW.out _ (.inl e); omega, fun e => by have := HLW.out _ (.inl e); omega, fun e => by have := HLW.out _ (.inl e); omega⟩ hk4.1 HX.out.2.2 hk4.2 hsl4 HX.out.1 HX.out.2.1 (by omega) hA hx4) (fun w' ha => by
        obtain ⟨A5, c5, vs5, h5⟩ := hwal4.other ha.2 H.out.sep
        exact ⟨⟨_, h5.c3⟩, h5.fz 3⟩)
      obtain ⟨cc, hcc⟩ : ∃ cc, cc = M.layC (frameM V.parts.length b) := ⟨_, rfl⟩
      have HCC := Lib.hid hcc
      rw [← hcc] at hlay
      have HLAY := Lib.hid hlay
      have HW4 := Lib.hid hW4
      have HK4 := Lib.hid hk4
      have HWL := Lib.hid hwal4
      have HSL := Lib.hid hsl4
      have HBW := Lib.hid hbw4
      have HDK := Lib.hid hdsk4
      have HSZ4 := Lib.hid (show w.heap.size + 2 ≤ W4.heap.size by have := hb14.size; omega)
      clear hz hW4 hb4 hx4 hbw4 hb14 hk4 hwal4 hdsk4 hsl4 hlay hcc hbx
      go_upto_region 5 with (go_at_call 67; rw [← HW4.out]; refine HLAY.out.mono ?_; rintro e w6 ⟨rfl, w5, ha5, rfl⟩; have HA5 := Lib.hid ha5; clear ha5)
      refine name_world (fun X => ∃ A1 c1 vs, WalIn X T g d ⟨V.most, V.parts, !decide (cc = 0)⟩ A1 c1 vs ∧ DiskAt X (grew S W4 w5) d (M.layM (frameM V.parts.length b)) ∧ Turn (fun k => S k ∨ T k) w X ∧ (∀ k, grew S W4 w5 k → k < X.heap.size) ∧ W4.heap.size ≤ X.heap.size ∧ X.cell? ⟨w.heap.size, 0, none⟩ = some (.pointer (some ⟨g, 0, none⟩)) ∧ X.cell? ⟨w.heap.size + 1, 0, none⟩ = some (.slice A l c) ∧ Sl X A c b) (by
        obtain ⟨A5, c5, vs5, h5⟩ := HWL.out.other HA5.out.2 H.out.sep
        have hts : Turn (fun k => k = g) w5 (w5.setCell ⟨g, 3, none⟩ (.bool (!decide (cc = 0)))) := ⟨rfl, rfl, rfl, by simp [World.setCell], fun k hk hn => Below.heap_setCell _ _ _ _ hn⟩
        have hgl := HWL.out.low H.out.wal.inT
        have hgS : ∀ k, grew S W4 w5 k → ¬ k = g := fun k hk e => by
          subst e
          rcases hk with e | e
          · exact H.out.sep _ H.out.wal.inT e
          · omega
        have hpS : ¬ S w.heap.size := fun e => by have := HLW.out _ (.inl e); omega
        have hqS : ¬ S (w.heap.size + 1) := fun e => by have := HLW.out _ (.inl e); omega
        have hgw := H.out.wal.low H.out.wal.inT
        refine ⟨A5, c5, vs5, h5.mark _, HA5.out.1.other hts hgS, ((Turn.of_below (S := fun k => S k ∨ T k) HBW.out).trans HA5.out.2 (fun k e => .inl (.inl e))).trans hts (fun k e => .inl (.inr (by have e : k = g := e; rw [e]; exact H.out.wal.inT))), fun k hk => ?_, ?_, ?_, ?_, ?_⟩
        · have := HA5.out.1.low hk
          simpa [World.setCell] using this
        · have := HA5.out.2.size
          simpa [World.setCell] using this
        · exact turn_cell hts (by show ¬ w.heap.size = g; omega) (turn_cell HA5.out.2 hpS HK4.out.1)
        · exact turn_cell hts (by show ¬ w.heap.size + 1 = g; omega) (turn_cell HA5.out.2 hqS HK4.out.2)
        · exact (HSL.out.turn HA5.out.2 hA).only (g := g) ⟨rfl, rfl, rfl, by simp [World.setCell], fun k hk hn => Below.heap_setCell _ _ _ _ (by simpa using hn)⟩ h5.odd) ?_
      rintro X ⟨A1, c1, vs, hX, hdX, htX, hlX, hsX, kp, kq, slX⟩
      have HX1 := Lib.hid hX
      have HDX := Lib.hid hdX
      have HTX := Lib.hid htX
      have HLX := Lib.hid hlX
      have HKP := Lib.hid (And.intro kp kq)
      have HSX := Lib.hid slX
      have HMS := Lib.hid (show ∀ k, T k → ¬ grew S W4 w5 k from fun k hk e => by
        rcases e with e | e
        · exact H.out.sep _ hk e
        · have h1 := HLW.out k (.inr hk); have h2 := HSZ4.out; omega)
      have HMG := Lib.hid (show ∀ k, grew S W4 w5 k → S k ∨ w.heap.size ≤ k from fun k e => by
        rcases e with e | e
        · exact .inl e
        · have h2 := HSZ4.out; exact .inr (by omega))
      have hXs : Hid (w.heap.size + 2 ≤ X.heap.size) := by unfold Hid; have h2 := HSZ4.out; omega
      clear hX hdX htX hlX slX kp kq hsX HA5 HLAY HWL HSL HDK HBW HK4
      by_cases hc0 : cc = 0
      · have t2 : (cc == 0) = true := by simp [hc0]
        have HC0 := Lib.hid hc0
        have e1 : V.appC M b = cc := by unfold AW.appC; rw [HRC.out, if_neg (by rw [HZ.out]; simp), ← HCC.out]
        have e2 : V.appV M b = ⟨V.most, V.parts ++ [b], false⟩ := by unfold AW.appV; rw [HRC.out, if_neg (by rw [HZ.out]; simp), ← HCC.out, if_neg (by rw [HC0.out]; simp)]
        have e3 : V.appD M b = M.layM (frameM V.parts.length b) := by unfold AW.appD; rw [HRC.out, if_neg (by rw [HZ.out]; simp)]
        have hok : (⟨V.most, V.parts ++ [b], false⟩ : AW).Ok := by rw [← e2]; exact appV_ok H.out.ok M b
        have hin := HX1.out
        rw [show (!decide (cc = 0)) = false by simp [hc0]] at hin
        have HIN := Lib.hid hin
        have HE := Lib.hid (And.intro e1 (And.intro e2 e3))
        have HOK := Lib.hid hok
        obtain ⟨n, hn⟩ : ∃ n, n = V.parts.length := ⟨_, rfl⟩
        have HN := Lib.hid hn
        have hnb : n ≤ 16000 := by rw [hn]; exact hsm.2
        have HCL := Lib.hid (fun (W : World) (hW : Below X.heap.size X W) => (show Calls Tryz.prog 65 #[.slice A l c] W fun e w' => ∃ A3 c3, e = .returned (.slice A3 l c3) ∧ w'.ownsRow W.heap.size 5 1 (.slice A3 l c3) l (b.map (Value.int .u8)) ∧ Below W.heap.size W w' from by
          have hk := clone_b A c b W (HSX.out.below hW) (by have := HX.out.2.1; omega)
          unfold GivesB New at hk
          rw [HX.out.2.2] at hk
          exact hk))
        clear hc0 e1 e2 e3 hok hin hn
        go_upto_region 6 with fail
        have hbd : Below X.heap.size X X.drew := below_drewN (Below.refl _ _) 1
        have cg0 := (HIN.out.later hbd).c1
        dsimp only at cg0
        rw [← HN.out] at cg0
        have kk : Hid (∀ W, Below X.heap.size X W → W.cell? ⟨w.heap.size, 0, none⟩ = some (.pointer (some ⟨g, 0, none⟩)) ∧ W.cell? ⟨w.heap.size + 1, 0, none⟩ = some (.slice A l c)) := fun W hW =>
          ⟨(hW.cell (p := ⟨w.heap.size, 0, none⟩) (by simp; have := hXs.out; omega)).trans HKP.out.1, (hW.cell (p := ⟨w.heap.size + 1, 0, none⟩) (by simp; have := hXs.out; omega)).trans HKP.out.2⟩
        refine wp_region_held_drew (S := fun W => W.cell? ⟨w.heap.size, 0, none⟩ = some (.pointer (some ⟨g, 0, none⟩)) ∧ W.cell? ⟨w.heap.size + 1, 0, none⟩ = some (.slice A l c)) (by kernel_rfl) (kk.out _ hbd) (fun hS => ?_)
        refine wpAnyH_take (i := 0) rfl (by kernel_rfl) (by kernel_rfl) (by kernel_rfl) (fun _ _ _ h => h) (Or.inl ⟨by rfl, fun W h => by have h1 := h.1; have h2 := h.2; clear h; go_simp; rfl⟩) hS ?_
        try simp only [List.getElem_toArray, List.getElem_cons_zero, List.getElem_cons_succ, Act.put, List.setIfInBounds_toArray, List.set_cons_zero, List.set_cons_succ]
        refine wpAnyH_take (i := 1) rfl (by kernel_rfl) (by kernel_rfl) (by kernel_rfl) (fun _ _ _ h => h) (Or.inl ⟨by rfl, fun W h => by have h1 := h.1; have h2 := h.2; clear h; go_simp; rfl⟩) hS ?_
        try simp only [List.getElem_toArray, List.getElem_cons_zero, List.getElem_cons_succ, Act.put, List.setIfInBounds_toArray, List.set_cons_zero, List.set_cons_succ]
        refine wpAnyH_take (i := 2) rfl (by kernel_rfl) (by kernel_rfl) (by kernel_rfl) (fun _ _ _ h => h) (Or.inl ⟨by rfl, fun W h => by have h1 := h.1; have h2 := h.2; clear h; go_simp; rfl⟩) hS ?_
        try simp only [List.getElem_toArray, List.getElem_cons_zero, List.getElem_cons_succ, Act.put, List.setIfInBounds_toArray, List.set_cons_zero, List.set_cons_succ]
        refine wpAnyH_take (i := 3) rfl (by kernel_rfl) (by kernel_rfl) (by kernel_rfl) (fun _ _ _ h => h) (Or.inl ⟨by rfl, fun W h => by have h1 := h.1; have h2 := h.2; clear h; go_simp; rfl⟩) hS ?_
        try simp only [List.getElem_toArray, List.getElem_cons_zero, List.getElem_cons_succ, Act.put, List.setIfInBounds_toArray, List.set_cons_zero, List.set_cons_succ]
        refine wpAnyH_take (i := 4) rfl (by kernel_rfl) (by kernel_rfl) (by kernel_rfl) (fun _ _ _ h => h) (Or.inl ⟨by rfl, fun W h => by have h1 := h.1; have h2 := h.2; clear h; go_simp; rfl⟩) hS ?_
        try simp only [List.getElem_toArray, List.getElem_cons_zero, List.getElem_cons_succ, Act.put, List.setIfInBounds_toArray, List.set_cons_zero, List.set_cons_succ]
        refine wpAnyH_take (i := 6) rfl (by kernel_rfl) (by kernel_rfl) (by kernel_rfl) (fun _ _ _ h => h) (Or.inl ⟨by rfl, fun W h => by have h1 := h.1; have h2 := h.2; clear h; go_simp; rfl⟩) hS ?_
        try simp only [List.getElem_toArray, List.getElem_cons_zero, List.getElem_cons_succ, Act.put, List.setIfInBounds_toArray, List.set_cons_zero, List.set_cons_succ]
        refine wpAnyH_ready (rs := [5, 7]) (by kernel_rfl) (by simp) ?_
        refine AllReadyH.cons rfl (fun K' hK => ?_) (AllReadyH.cons rfl (fun K' hK => ?_) AllReadyH.nil)
        · rw [if_pos (by rfl)]
          have cgl := cg0
          go_simp
          refine hK.out _ _ hS (fun hS => ?_)
          clear hK cgl
          try simp only [List.getElem_toArray, List.getElem_cons_zero, List.getElem_cons_succ, Act.put, List.setIfInBounds_toArray, List.set_cons_zero, List.set_cons_succ]
          refine wpAnyH_ready (rs := [7]) (by kernel_rfl) (by simp) ?_
          refine AllReadyH.cons rfl (fun K' hK => ?_) AllReadyH.nil
          rw [if_pos (by rfl)]
          go_simp
          go_at_call 65
          refine (HCL.out _ hbd).mono ?_
          rintro e wC ⟨A3, c3, rfl, hnC, hbC0⟩
          change K' _ _
          have hbC : Below X.heap.size X wC := hbd.trans hbC0
          refine hK.out _ _ (kk.out _ hbC) (fun hS => ?_)
          clear hK K'
          try simp only [List.getElem_toArray, List.getElem_cons_zero, List.getElem_cons_succ, Act.put, List.setIfInBounds_toArray, List.set_cons_zero, List.set_cons_succ]
          have cg1 := (HIN.out.later hbC).c1
          dsimp only at cg1
          rw [← HN.out] at cg1
          refine wpAnyH_ready (rs := [8]) (by kernel_rfl) (by simp) ?_
          refine AllReadyH.cons rfl (fun K' hK => ?_) AllReadyH.nil
          rw [if_pos (by rfl)]
          go_simp
          have hbD : Below X.heap.size X (wC.alloc (.cells #[.slice A3 l c3] 33)) := hbC.alloc hbC.size _
          refine hK.out _ _ (kk.out _ hbD) (fun hS => ?_)
          clear hK K'
          try simp only [List.getElem_toArray, List.getElem_cons_zero, List.getElem_cons_succ, Act.put, List.setIfInBounds_toArray, List.set_cons_zero, List.set_cons_succ]
          have cg2 := (HIN.out.later hbD).c1
          dsimp only at cg2
          rw [← HN.out] at cg2
          refine wpAnyH_ready (rs := [9]) (by kernel_rfl) (by simp) ?_
          refine AllReadyH.cons rfl (fun K' hK => ?_) AllReadyH.nil
          have hrow := (HIN.out.later hbD).parts.row
          dsimp only at hrow
          rw [← HN.out] at hrow
          refine step_rows (by rfl) _ _ (by rfl) A1 c1 n vs (by rfl) hrow wC.heap.size (.slice A3 l c3) (by rfl) (by have hx9 := heap_alloc_new wC (.cells #[.slice A3 l c3] 33); simp only [World.cell?, hx9]; rfl) (by rfl) (by omega) ?_
          intro A4 c4 w7 hr7 hg7 hl7
          have hpq : ∀ i, i < X.heap.size → blk A1 ≠ some i → w7.heap[i]? = X.heap[i]? := fun i hi hn => (hg7.block i (Nat.lt_of_lt_of_le hi hbD.size) (fun e => hn e.symm)).trans (hbD.block i hi)
          have hrt := HIN.out.parts.rowT
          have hgl := HIN.out.low g HIN.out.inT
          have hTl := HLW.out
          have kp7 : w7.cell? ⟨w.heap.size, 0, none⟩ = some (.pointer (some ⟨g, 0, none⟩)) := by
            have := hpq w.heap.size (by have := hXs.out; omega) (fun e => by have := hTl _ (.inr (hrt _ e)); omega)
            have h9 := HKP.out.1
            simp only [World.cell?] at h9 ⊢
            rw [this]; exact h9
          have kq7 : w7.cell? ⟨w.heap.size + 1, 0, none⟩ = some (.slice A l c) := by
            have := hpq (w.heap.size + 1) (by have := hXs.out; omega) (fun e => by have := hTl _ (.inr (hrt _ e)); omega)
            have h9 := HKP.out.2
            simp only [World.cell?] at h9 ⊢
            rw [this]; exact h9
          have hgA : blk A1 ≠ some g := fun e => by
            obtain ⟨cur, hc⟩ := own_block HIN.out.parts.row e
            rw [HIN.out.box] at hc
            simp at hc
          have hbx7 := (hpq g hgl hgA).trans HIN.out.box
          have cg7 : w7.cell? ⟨g, 1, none⟩ = some (.slice A1 n c1) := by simp only [World.cell?, hbx7]; rw [HN.out]; rfl
          have fz7 : w7.frozen? ⟨g, 1, none⟩ = false := by simp [World.frozen?, hbx7]
          refine hK.out _ _ ⟨kp7, kq7⟩ (fun hS => ?_)
          clear hK K'
          try simp only [List.getElem_toArray, List.getElem_cons_zero, List.getElem_cons_succ, Act.put, List.setIfInBounds_toArray, List.set_cons_zero, List.set_cons_succ]
          refine wpAnyH_take (i := 10) rfl (by kernel_rfl) (by kernel_rfl) (by kernel_rfl) (fun _ _ _ h => h) (Or.inl ⟨by rfl, fun W h => by have h1 := h.1; have h2 := h.2; clear h; go_simp; rfl⟩) hS ?_
          try simp only [List.getElem_toArray, List.getElem_cons_zero, List.getElem_cons_succ, Act.put, List.setIfInBounds_toArray, List.set_cons_zero, List.set_cons_succ]
          refine wpAnyH_take (i := 11) rfl (by kernel_rfl) (by kernel_rfl) (by kernel_rfl) (fun _ _ _ h => h) (Or.inl ⟨by rfl, fun W h => by have h1 := h.1; have h2 := h.2; clear h; go_simp; rfl⟩) hS ?_
          try simp only [List.getElem_toArray, List.getElem_cons_zero, List.getElem_cons_succ, Act.put, List.setIfInBounds_toArray, List.set_cons_zero, List.set_cons_succ]
          refine wpAnyH_take (i := 12) rfl (by kernel_rfl) (by kernel_rfl) (by kernel_rfl) (fun _ _ _ h => h) (Or.inl ⟨by rfl, fun W h => by have h1 := h.1; have h2 := h.2; clear h; go_simp; rfl⟩) hS ?_
          try simp only [List.getElem_toArray, List.getElem_cons_zero, List.getElem_cons_succ, Act.put, List.setIfInBounds_toArray, List.set_cons_zero, List.set_cons_succ]
          refine wpAnyH_ready (rs := [13]) (by kernel_rfl) (by simp) ?_
          refine AllReadyH.cons rfl (fun K' hK => ?_) AllReadyH.nil
          rw [if_pos (by rfl)]
          go_simp
          have hnC' : wC.ownsRow X.heap.size 5 1 (.slice A3 b.length c3) b.length (b.map (Value.int .u8)) := by rw [HX.out.2.2]; exact hnC
          have hmore := HIN.out.more (W := wC.alloc (.cells #[.slice A3 l c3] 33)) (W2 := w7) HX.out.1 hbD (row_later hnC' ((Below.refl _ wC).alloc (Nat.le_refl _) _)) (A2 := A4) (c2 := c4) (by dsimp only; rw [HX.out.2.2, ← HN.out]; exact hr7) hg7 hl7
          dsimp only at hmore
          rw [← HN.out] at hmore
          have hgs : g < w.heap.size := hTl _ (.inr HIN.out.inT)
          refine hK.out _ _ ⟨put_cell (by omega) kp7, put_cell (by omega) kq7⟩ (fun hS => ?_)
          clear hK K'
          try simp only [List.getElem_toArray, List.getElem_cons_zero, List.getElem_cons_succ, Act.put, List.setIfInBounds_toArray, List.set_cons_zero, List.set_cons_succ]
          refine wpAnyH_done (by kernel_rfl) ?_ _
          have HMORE := Lib.hid hmore
          clear hmore cg7 fz7 hbx7 kp7 kq7 hr7 hg7 hl7
          generalize w7.setCell ⟨g, 1, none⟩ (.slice A4 (n + 1) c4) = WZ at *
          go_wp2
          go_ret
          rw [HE.out.1, HE.out.2.1, HE.out.2.2]
          exact ⟨rfl, grew S W4 w5, _, ⟨HMORE.out.1, HDX.out.other HMORE.out.2 (fun k hk e => HMS.out k e hk), fun k hk e => hk.elim (fun h => HMS.out k h e) (fun h => by have := HLX.out k e; omega), HOK.out⟩, ⟨HTX.out.trans HMORE.out.2 (fun i e => .inl (.inr e)), HMG.out, fun k hk => hk.imp id (fun h => by have := hXs.out; omega)⟩⟩
        · rw [if_pos (by rfl)]
          go_simp
          go_at_call 65
          refine (HCL.out _ hbd).mono ?_
          rintro e wC ⟨A3, c3, rfl, hnC, hbC0⟩
          change K' _ _
          have hbC : Below X.heap.size X wC := hbd.trans hbC0
          refine hK.out _ _ (kk.out _ hbC) (fun hS => ?_)
          clear hK K'
          try simp only [List.getElem_toArray, List.getElem_cons_zero, List.getElem_cons_succ, Act.put, List.setIfInBounds_toArray, List.set_cons_zero, List.set_cons_succ]
          have cg1 := (HIN.out.later hbC).c1
          dsimp only at cg1
          rw [← HN.out] at cg1
          refine wpAnyH_ready (rs := [5, 8]) (by kernel_rfl) (by simp) ?_
          refine AllReadyH.cons rfl (fun K' hK => ?_) (AllReadyH.cons rfl (fun K' hK => ?_) AllReadyH.nil)
          · rw [if_pos (by rfl)]
            have cgl := cg1
            go_simp
            refine hK.out _ _ hS (fun hS => ?_)
            clear hK cgl
            try simp only [List.getElem_toArray, List.getElem_cons_zero, List.getElem_cons_succ, Act.put, List.setIfInBounds_toArray, List.set_cons_zero, List.set_cons_succ]
            refine wpAnyH_ready (rs := [8]) (by kernel_rfl) (by simp) ?_
            refine AllReadyH.cons rfl (fun K' hK => ?_) AllReadyH.nil
            rw [if_pos (by rfl)]
            go_simp
            have hbD : Below X.heap.size X (wC.alloc (.cells #[.slice A3 l c3] 33)) := hbC.alloc hbC.size _
            refine hK.out _ _ (kk.out _ hbD) (fun hS => ?_)
            clear hK K'
            try simp only [List.getElem_toArray, List.getElem_cons_zero, List.getElem_cons_succ, Act.put, List.setIfInBounds_toArray, List.set_cons_zero, List.set_cons_succ]
            have cg2 := (HIN.out.later hbD).c1
            dsimp only at cg2
            rw [← HN.out] at cg2
            refine wpAnyH_ready (rs := [9]) (by kernel_rfl) (by simp) ?_
            refine AllReadyH.cons rfl (fun K' hK => ?_) AllReadyH.nil
            have hrow := (HIN.out.later hbD).parts.row
            dsimp only at hrow
            rw [← HN.out] at hrow
            refine step_rows (by rfl) _ _ (by rfl) A1 c1 n vs (by rfl) hrow wC.heap.size (.slice A3 l c3) (by rfl) (by have hx9 := heap_alloc_new wC (.cells #[.slice A3 l c3] 33); simp only [World.cell?, hx9]; rfl) (by rfl) (by omega) ?_
            intro A4 c4 w7 hr7 hg7 hl7
            have hpq : ∀ i, i < X.heap.size → blk A1 ≠ some i → w7.heap[i]? = X.heap[i]? := fun i hi hn => (hg7.block i (Nat.lt_of_lt_of_le hi hbD.size) (fun e => hn e.symm)).trans (hbD.block i hi)
            have hrt := HIN.out.parts.rowT
            have hgl := HIN.out.low g HIN.out.inT
            have hTl := HLW.out
            have kp7 : w7.cell? ⟨w.heap.size, 0, none⟩ = some (.pointer (some ⟨g, 0, none⟩)) := by
              have := hpq w.heap.size (by have := hXs.out; omega) (fun e => by have := hTl _ (.inr (hrt _ e)); omega)
              have h9 := HKP.out.1
              simp only [World.cell?] at h9 ⊢
              rw [this]; exact h9
            have kq7 : w7.cell? ⟨w.heap.size + 1, 0, none⟩ = some (.slice A l c) := by
              have := hpq (w.heap.size + 1) (by have := hXs.out; omega) (fun e => by have := hTl _ (.inr (hrt _ e)); omega)
              have h9 := HKP.out.2
              simp only [World.cell?] at h9 ⊢
              rw [this]; exact h9
            have hgA : blk A1 ≠ some g := fun e => by
              obtain ⟨cur, hc⟩ := own_block HIN.out.parts.row e
              rw [HIN.out.box] at hc
              simp at hc
            have hbx7 := (hpq g hgl hgA).trans HIN.out.box
            have cg7 : w7.cell? ⟨g, 1, none⟩ = some (.slice A1 n c1) := by simp only [World.cell?, hbx7]; rw [HN.out]; rfl
            have fz7 : w7.frozen? ⟨g, 1, none⟩ = false := by simp [World.frozen?, hbx7]
            refine hK.out _ _ ⟨kp7, kq7⟩ (fun hS => ?_)
            clear hK K'
            try simp only [List.getElem_toArray, List.getElem_cons_zero, List.getElem_cons_succ, Act.put, List.setIfInBounds_toArray, List.set_cons_zero, List.set_cons_succ]
            refine wpAnyH_take (i := 10) rfl (by kernel_rfl) (by kernel_rfl) (by kernel_rfl) (fun _ _ _ h => h) (Or.inl ⟨by rfl, fun W h => by have h1 := h.1; have h2 := h.2; clear h; go_simp; rfl⟩) hS ?_
            try simp only [List.getElem_toArray, List.getElem_cons_zero, List.getElem_cons_succ, Act.put, List.setIfInBounds_toArray, List.set_cons_zero, List.set_cons_succ]
            refine wpAnyH_take (i := 11) rfl (by kernel_rfl) (by kernel_rfl) (by kernel_rfl) (fun _ _ _ h => h) (Or.inl ⟨by rfl, fun W h => by have h1 := h.1; have h2 := h.2; clear h; go_simp; rfl⟩) hS ?_
            try simp only [List.getElem_toArray, List.getElem_cons_zero, List.getElem_cons_succ, Act.put, List.setIfInBounds_toArray, List.set_cons_zero, List.set_cons_succ]
            refine wpAnyH_take (i := 12) rfl (by kernel_rfl) (by kernel_rfl) (by kernel_rfl) (fun _ _ _ h => h) (Or.inl ⟨by rfl, fun W h => by have h1 := h.1; have h2 := h.2; clear h; go_simp; rfl⟩) hS ?_
            try simp only [List.getElem_toArray, List.getElem_cons_zero, List.getElem_cons_succ, Act.put, List.setIfInBounds_toArray, List.set_cons_zero, List.set_cons_succ]
            refine wpAnyH_ready (rs := [13]) (by kernel_rfl) (by simp) ?_
            refine AllReadyH.cons rfl (fun K' hK => ?_) AllReadyH.nil
            rw [if_pos (by rfl)]
            go_simp
            have hnC' : wC.ownsRow X.heap.size 5 1 (.slice A3 b.length c3) b.length (b.map (Value.int .u8)) := by rw [HX.out.2.2]; exact hnC
            have hmore := HIN.out.more (W := wC.alloc (.cells #[.slice A3 l c3] 33)) (W2 := w7) HX.out.1 hbD (row_later hnC' ((Below.refl _ wC).alloc (Nat.le_refl _) _)) (A2 := A4) (c2 := c4) (by dsimp only; rw [HX.out.2.2, ← HN.out]; exact hr7) hg7 hl7
            dsimp only at hmore
            rw [← HN.out] at hmore
            have hgs : g < w.heap.size := hTl _ (.inr HIN.out.inT)
            refine hK.out _ _ ⟨put_cell (by omega) kp7, put_cell (by omega) kq7⟩ (fun hS => ?_)
            clear hK K'
            try simp only [List.getElem_toArray, List.getElem_cons_zero, List.getElem_cons_succ, Act.put, List.setIfInBounds_toArray, List.set_cons_zero, List.set_cons_succ]
            refine wpAnyH_done (by kernel_rfl) ?_ _
            have HMORE := Lib.hid hmore
            clear hmore cg7 fz7 hbx7 kp7 kq7 hr7 hg7 hl7
            generalize w7.setCell ⟨g, 1, none⟩ (.slice A4 (n + 1) c4) = WZ at *
            go_wp2
            go_ret
            rw [HE.out.1, HE.out.2.1, HE.out.2.2]
            exact ⟨rfl, grew S W4 w5, _, ⟨HMORE.out.1, HDX.out.other HMORE.out.2 (fun k hk e => HMS.out k e hk), fun k hk e => hk.elim (fun h => HMS.out k h e) (fun h => by have := HLX.out k e; omega), HOK.out⟩, ⟨HTX.out.trans HMORE.out.2 (fun i e => .inl (.inr e)), HMG.out, fun k hk => hk.imp id (fun h => by have := hXs.out; omega)⟩⟩
          · rw [if_pos (by rfl)]
            go_simp
            have hbD : Below X.heap.size X (wC.alloc (.cells #[.slice A3 l c3] 33)) := hbC.alloc hbC.size _
            refine hK.out _ _ (kk.out _ hbD) (fun hS => ?_)
            clear hK K'
            try simp only [List.getElem_toArray, List.getElem_cons_zero, List.getElem_cons_succ, Act.put, List.setIfInBounds_toArray, List.set_cons_zero, List.set_cons_succ]
            have cg2 := (HIN.out.later hbD).c1
            dsimp only at cg2
            rw [← HN.out] at cg2
            refine wpAnyH_ready (rs := [5]) (by kernel_rfl) (by simp) ?_
            refine AllReadyH.cons rfl (fun K' hK => ?_) AllReadyH.nil
            rw [if_pos (by rfl)]
            have cgl := cg2
            go_simp
            refine hK.out _ _ hS (fun hS => ?_)
            clear hK cgl
            try simp only [List.getElem_toArray, List.getElem_cons_zero, List.getElem_cons_succ, Act.put, List.setIfInBounds_toArray, List.set_cons_zero, List.set_cons_succ]
            refine wpAnyH_ready (rs := [9]) (by kernel_rfl) (by simp) ?_
            refine AllReadyH.cons rfl (fun K' hK => ?_) AllReadyH.nil
            have hrow := (HIN.out.later hbD).parts.row
            dsimp only at hrow
            rw [← HN.out] at hrow
            refine step_rows (by rfl) _ _ (by rfl) A1 c1 n vs (by rfl) hrow wC.heap.size (.slice A3 l c3) (by rfl) (by have hx9 := heap_alloc_new wC (.cells #[.slice A3 l c3] 33); simp only [World.cell?, hx9]; rfl) (by rfl) (by omega) ?_
            intro A4 c4 w7 hr7 hg7 hl7
            have hpq : ∀ i, i < X.heap.size → blk A1 ≠ some i → w7.heap[i]? = X.heap[i]? := fun i hi hn => (hg7.block i (Nat.lt_of_lt_of_le hi hbD.size) (fun e => hn e.symm)).trans (hbD.block i hi)
            have hrt := HIN.out.parts.rowT
            have hgl := HIN.out.low g HIN.out.inT
            have hTl := HLW.out
            have kp7 : w7.cell? ⟨w.heap.size, 0, none⟩ = some (.pointer (some ⟨g, 0, none⟩)) := by
              have := hpq w.heap.size (by have := hXs.out; omega) (fun e => by have := hTl _ (.inr (hrt _ e)); omega)
              have h9 := HKP.out.1
              simp only [World.cell?] at h9 ⊢
              rw [this]; exact h9
            have kq7 : w7.cell? ⟨w.heap.size + 1, 0, none⟩ = some (.slice A l c) := by
              have := hpq (w.heap.size + 1) (by have := hXs.out; omega) (fun e => by have := hTl _ (.inr (hrt _ e)); omega)
              have h9 := HKP.out.2
              simp only [World.cell?] at h9 ⊢
              rw [this]; exact h9
            have hgA : blk A1 ≠ some g := fun e => by
              obtain ⟨cur, hc⟩ := own_block HIN.out.parts.row e
              rw [HIN.out.box] at hc
              simp at hc
            have hbx7 := (hpq g hgl hgA).trans HIN.out.box
            have cg7 : w7.cell? ⟨g, 1, none⟩ = some (.slice A1 n c1) := by simp only [World.cell?, hbx7]; rw [HN.out]; rfl
            have fz7 : w7.frozen? ⟨g, 1, none⟩ = false := by simp [World.frozen?, hbx7]
            refine hK.out _ _ ⟨kp7, kq7⟩ (fun hS => ?_)
            clear hK K'
            try simp only [List.getElem_toArray, List.getElem_cons_zero, List.getElem_cons_succ, Act.put, List.setIfInBounds_toArray, List.set_cons_zero, List.set_cons_succ]
            refine wpAnyH_take (i := 10) rfl (by kernel_rfl) (by kernel_rfl) (by kernel_rfl) (fun _ _ _ h => h) (Or.inl ⟨by rfl, fun W h => by have h1 := h.1; have h2 := h.2; clear h; go_simp; rfl⟩) hS ?_
            try simp only [List.getElem_toArray, List.getElem_cons_zero, List.getElem_cons_succ, Act.put, List.setIfInBounds_toArray, List.set_cons_zero, List.set_cons_succ]
            refine wpAnyH_take (i := 11) rfl (by kernel_rfl) (by kernel_rfl) (by kernel_rfl) (fun _ _ _ h => h) (Or.inl ⟨by rfl, fun W h => by have h1 := h.1; have h2 := h.2; clear h; go_simp; rfl⟩) hS ?_
            try simp only [List.getElem_toArray, List.getElem_cons_zero, List.getElem_cons_succ, Act.put, List.setIfInBounds_toArray, List.set_cons_zero, List.set_cons_succ]
            refine wpAnyH_take (i := 12) rfl (by kernel_rfl) (by kernel_rfl) (by kernel_rfl) (fun _ _ _ h => h) (Or.inl ⟨by rfl, fun W h => by have h1 := h.1; have h2 := h.2; clear h; go_simp; rfl⟩) hS ?_
            try simp only [List.getElem_toArray, List.getElem_cons_zero, List.getElem_cons_succ, Act.put, List.setIfInBounds_toArray, List.set_cons_zero, List.set_cons_succ]
            refine wpAnyH_ready (rs := [13]) (by kernel_rfl) (by simp) ?_
            refine AllReadyH.cons rfl (fun K' hK => ?_) AllReadyH.nil
            rw [if_pos (by rfl)]
            go_simp
            have hnC' : wC.ownsRow X.heap.size 5 1 (.slice A3 b.length c3) b.length (b.map (Value.int .u8)) := by rw [HX.out.2.2]; exact hnC
            have hmore := HIN.out.more (W := wC.alloc (.cells #[.slice A3 l c3] 33)) (W2 := w7) HX.out.1 hbD (row_later hnC' ((Below.refl _ wC).alloc (Nat.le_refl _) _)) (A2 := A4) (c2 := c4) (by dsimp only; rw [HX.out.2.2, ← HN.out]; exact hr7) hg7 hl7
            dsimp only at hmore
            rw [← HN.out] at hmore
            have hgs : g < w.heap.size := hTl _ (.inr HIN.out.inT)
            refine hK.out _ _ ⟨put_cell (by omega) kp7, put_cell (by omega) kq7⟩ (fun hS => ?_)
            clear hK K'
            try simp only [List.getElem_toArray, List.getElem_cons_zero, List.getElem_cons_succ, Act.put, List.setIfInBounds_toArray, List.set_cons_zero, List.set_cons_succ]
            refine wpAnyH_done (by kernel_rfl) ?_ _
            have HMORE := Lib.hid hmore
            clear hmore cg7 fz7 hbx7 kp7 kq7 hr7 hg7 hl7
            generalize w7.setCell ⟨g, 1, none⟩ (.slice A4 (n + 1) c4) = WZ at *
            go_wp2
            go_ret
            rw [HE.out.1, HE.out.2.1, HE.out.2.2]
            exact ⟨rfl, grew S W4 w5, _, ⟨HMORE.out.1, HDX.out.other HMORE.out.2 (fun k hk e => HMS.out k e hk), fun k hk e => hk.elim (fun h => HMS.out k h e) (fun h => by have := HLX.out k e; omega), HOK.out⟩, ⟨HTX.out.trans HMORE.out.2 (fun i e => .inl (.inr e)), HMG.out, fun k hk => hk.imp id (fun h => by have := hXs.out; omega)⟩⟩
      · have t2 : (cc == 0) = false := by simp [hc0]
        have HC0 := Lib.hid hc0
        have hin := HX1.out
        rw [show (!decide (cc = 0)) = true by simp [hc0]] at hin
        have e1 : V.appC M b = cc := by unfold AW.appC; rw [HRC.out, if_neg (by rw [HZ.out]; simp), ← HCC.out]
        have e2 : V.appV M b = ⟨V.most, V.parts, true⟩ := by unfold AW.appV; rw [HRC.out, if_neg (by rw [HZ.out]; simp), ← HCC.out, if_pos HC0.out]
        have e3 : V.appD M b = M.layM (frameM V.parts.length b) := by unfold AW.appD; rw [HRC.out, if_neg (by rw [HZ.out]; simp)]
        have HEE := Lib.hid (And.intro e1 (And.intro e2 e3))
        have HE := Lib.hid (show (⟨V.most, V.parts, true⟩ : AW).Ok from ⟨H.out.ok.lim, H.out.ok.one, H.out.ok.cost⟩)
        have HIN := Lib.hid hin
        clear hc0 e1 e2 e3 hin
        go_wp2
        go_ret
        rw [HEE.out.1, HEE.out.2.1, HEE.out.2.2]
        exact ⟨rfl, grew S W4 w5, T, ⟨⟨_, _, _, HIN.out⟩, HDX.out, HMS.out, HE.out⟩, ⟨HTX.out, HMG.out, fun k hk => .inl hk⟩⟩
    · have t1 : (rc != 0) = true := by simp [hz]
      have HZ := Lib.hid hz
      have HBB := Lib.hid hbx
      clear hz hbx
      go_wp2
      go_ret
      have e1 : V.appC M b = rc := by unfold AW.appC; rw [HRC.out, if_pos HZ.out]
      have e2 : V.appV M b = V := by unfold AW.appV; rw [HRC.out, if_pos HZ.out]
      have e3 : V.appD M b = M := by unfold AW.appD; rw [HRC.out, if_pos HZ.out]
      rw [e1, e2, e3]
      exact ⟨rfl, S, T, ⟨H.out.wal.later HBB.out, H.out.disk.later HBB.out, H.out.sep, H.out.ok⟩, ⟨Turn.of_below HBB.out, fun k hk => .inl hk, fun k hk => .inl hk⟩⟩

end Go.Proofs.YtienabfilnpieaaGreat

namespace Go.Proofs.YtienabfilnpieaaGreat
open Go.RowKit
set_option linter.unusedVariables false
set_option linter.unusedSimpArgs false
set_option maxRecDepth 100000

theorem open_nilW (w : World) : Calls Tryz.prog 13 #[.pointer none] w fun e w' => e = .returned (.tuple #[.pointer none, .int .i64 1]) ∧ Below w.heap.size w w' := by
  go_enter Tryz.func13, Tryz.ntmps13
  go_wp2
  go_ret2
  exact ⟨rfl, (Below.refl _ w).alloc (Nat.le_refl _) _⟩
theorem check_nil (w : World) (A : Option Addr) (l c : Nat) : Calls Tryz.prog 24 #[.pointer none, .slice A l c] w fun e w' => e = .returned (.int .i64 1) ∧ w = w' := by
  have HM := Lib.hid (most_nil w)
  have HR := Lib.hid (refuse_nil w A l c 0)
  go_enter Tryz.func24, Tryz.ntmps24
  go_wp2_with (first
    | (go_at_call 16; refine HM.out.mono ?_; rintro e w' ⟨rfl, rfl⟩)
    | (go_at_call 66; refine HR.out.mono ?_; rintro e w' ⟨rfl, rfl⟩))
  go_ret
  exact ⟨rfl, rfl⟩

theorem Oct.takeN {bs : List Int} (h : Oct bs) (k : Nat) : Oct (bs.take k) := fun b hb => h b (List.mem_of_mem_take hb)
set_option maxHeartbeats 1000000 in
theorem some_any (A : Option Addr) (c : Nat) (bs : List Int) (w : World) (hs : Sl w A c bs) : Calls Tryz.prog 22 #[.slice A bs.length c] w (GivesB w (bs.take 300)) := by
  obtain ⟨l, hl⟩ : ∃ l, l = bs.length := ⟨_, rfl⟩
  have HL := Lib.hid (show (bs.take 300).length = min l 300 by rw [List.length_take, hl]; omega)
  have hr := hs.room
  have hm := hs.most
  rw [← hl] at hr ⊢
  have HS := Lib.hid (fun W (hW : Below w.heap.size w W) => ((hs.below hW).rd).take 300)
  obtain ⟨R, hR⟩ : ∃ R, R = bs.take 300 := ⟨_, rfl⟩
  rw [← hR] at HL HS ⊢
  obtain ⟨k, hk⟩ : ∃ k, k = min l 300 := ⟨_, rfl⟩
  rw [← hk] at HL
  have hkl : k ≤ l := by omega
  have hk3 : k ≤ 300 := by omega
  have hmin : min (l : Int) 300 = (k : Int) := by omega
  have hmin2 : min 300 (l : Int) = (k : Int) := by omega
  have k0 : (0 : Int) ≤ (k : Int) := by omega
  have kc : (k : Int) ≤ (c : Int) := by omega
  clear hs hl hR hk
  go_enter Tryz.func22, Tryz.ntmps22
  go_wp2_with (first
    | (at_builtin; refine app_b rfl (.tmp 3) (.tmp 8) rfl w.heap.size (.slice (some ⟨w.heap.size, 0, none⟩) 0 0) 0 [] rfl (World.ownsRow_made w #[] 0 (Nat.le_refl _) (Nat.zero_le _) rfl) A c k R rfl HL.out (HS.out _ ((Below.refl _ w).alloc (Nat.le_refl _) _)) (by omega) (by simp) ?_; intro v2 w2 hown2 hg2; have hb2 : Below w.heap.size w w2 := ((Below.refl _ w).alloc (Nat.le_refl _) _).grown hg2 (by simp) (by intro k hk; simp [Value.ownBlock] at hk; omega); have HO := Lib.hid hown2; have HB := Lib.hid hb2; clear hown2 hg2 hb2))
  go_ret
  refine gives_of ⟨v2, rfl, ?_, HB.out⟩
  have ho := HO.out
  simp only [Nat.zero_add, List.nil_append] at ho
  rw [HL.out]
  exact ho

/-! ### does the layer do anything? -/
def wm0 : AD := AD.new 400
def wm1 : AD := wm0.makeM (fileM 100 [])
theorem wm_bad : ¬ BadF wm0 100 := by decide +kernel
theorem wm_c : wm0.makeC (fileM 100 []) = 0 := by decide +kernel
theorem wm_o : wm1.ops < 4611686018427387000 := by decide +kernel
theorem wm_a : (newW 100).appC wm1 [1, 2, 3] = 0 := by decide +kernel
theorem wm_v : (newW 100).appV wm1 [1, 2, 3] = ⟨100, [[], [1, 2, 3]], false⟩ := by
  have h1 : (newW 100).refC ([1, 2, 3] : List Int).length (newW 100).room = 0 := by decide +kernel
  have h2 : wm1.layC (frameM (newW 100).parts.length [1, 2, 3]) = 0 := by decide +kernel
  unfold AW.appV
  rw [if_neg (by rw [h1]; simp), if_neg (by rw [h2]; simp)]
  rfl
theorem newW_ok {n : Int} (h : Lim n) : (newW n).Ok := ⟨h, by simp [newW], by
  have : costM (newW n).parts = 12 := rfl
  rw [this]
  have := h.1
  show ((12 : Nat) : Int) ≤ n
  omega⟩

set_option maxHeartbeats 2000000 in
theorem wakes_any (w : World) : Calls Tryz.prog 6 #[] w fun e w' => e = .returned (.bool true) ∧ Below w.heap.size w w' := by
  go_enter Tryz.func6, Tryz.ntmps6
  go_wp2_with (first
    | (go_at_call 7; refine (new_yes w 400 (by omega) (by omega)).mono ?_; rintro e w1 ⟨rfl, hd, hb1⟩; have HD := Lib.hid hd; have HB1 := Lib.hid hb1; clear hd hb1)
    | (go_at_call 31; refine (format_any HD.out (by decide) 100).mono ?_; rintro e w2 hf; rcases hf with ⟨hbad, _⟩ | ⟨_, hc, _⟩ | ⟨_, _, g, S', T, rfl, hw, hwal, hT⟩; exact absurd hbad wm_bad; exact absurd wm_c hc; have HW := Lib.hid hw; have HWAL := Lib.hid hwal; have HT := Lib.hid hT; clear hw hwal hT))
  have hlog : Log w2 S' T g (w.heap.size + 1) (newW 100) wm1 := ⟨HWAL.out, HW.out.at_, fun k hk => (HT.out k hk).2, newW_ok ⟨by omega, by omega⟩⟩
  have hb2 : Below w.heap.size w w2 := ⟨HW.out.turn.os.trans HB1.out.os, HW.out.turn.tape.trans HB1.out.tape, HW.out.turn.output.trans HB1.out.output, Nat.le_trans HB1.out.size HW.out.turn.size, fun k hk => (HW.out.turn.block k (Nat.lt_of_lt_of_le hk HB1.out.size) (fun e => by rcases e with e | e <;> omega)).trans (HB1.out.block k hk)⟩
  have hup : ∀ k, S' k ∨ T k → w.heap.size ≤ k := fun k hk => by
    have hs := HB1.out.size
    rcases hk with e | e
    · rcases HW.out.grow k e with e | e
      · rcases e with e | e <;> omega
      · omega
    · have := (HT.out k e).1; omega
  have hlf := left_any' hlog.wal hlog.ok.lim (by have := hlog.ok.small; omega)
  rw [show (newW 100).most - ((costM (newW 100).parts : Nat) : Int) = 88 from by decide +kernel] at hlf
  have HLF := Lib.hid hlf
  have HLOG := Lib.hid hlog
  have HB2 := Lib.hid hb2
  have HUP := Lib.hid hup
  have HAP := Lib.hid (fun (W : World) (hW : Below w2.heap.size w2 W) => (show Calls Tryz.prog 23 #[.pointer (some ⟨g, 0, none⟩), .slice (some ⟨W.heap.size, 0, none⟩) 3 3] (W.alloc (.cells #[.int .u8 1, .int .u8 2, .int .u8 3] 5)) fun e w' => e = .returned (.int .i64 0) ∧ ∃ S2 T2 M2, Log w' S2 T2 g (w.heap.size + 1) ⟨100, [[], [1, 2, 3]], false⟩ M2 ∧ Below w.heap.size w w' from by
    obtain ⟨W', hW'⟩ : ∃ W', W' = W.alloc (.cells #[.int .u8 1, .int .u8 2, .int .u8 3] 5) := ⟨_, rfl⟩
    have hb : Below W.heap.size W W' := by rw [hW']; exact (Below.refl _ W).alloc (Nat.le_refl _) _
    have hn : New W.heap.size W' (some ⟨W.heap.size, 0, none⟩) 3 [1, 2, 3] := by rw [hW']; exact World.ownsRow_lit W _ 3 (Nat.le_refl _) (by simp [maxLen]) rfl
    rw [← hW']
    have hbw : Below w2.heap.size w2 W' := hW.trans (hb.mono hW.size)
    have hl' : Log W' S' T g (w.heap.size + 1) (newW 100) wm1 := ⟨HLOG.out.wal.later hbw, HLOG.out.disk.later hbw, HLOG.out.sep, HLOG.out.ok⟩
    have hk := append_anyW hl' (by decide +kernel) (l := 3) (b := [1, 2, 3]) rfl hn.sl (by intro b hb; simp at hb; omega) (by simp) (fun k hk e => by
      have h1 := HLOG.out.disk.low e
      have : W.heap.size = k := by simpa [blk] using hk
      have := hW.size
      omega)
    rw [wm_a, wm_v] at hk
    refine hk.mono ?_
    rintro e w' ⟨rfl, S2, T2, h1, h2⟩
    have hB2 := HB2.out
    have hz := hW.size
    have hbb := hB2.trans (hbw.mono hB2.size)
    exact ⟨rfl, S2, T2, _, h1, ⟨h2.turn.os.trans hbb.os, h2.turn.tape.trans hbb.tape, h2.turn.output.trans hbb.output, Nat.le_trans hbb.size h2.turn.size, fun k hk => (h2.turn.block k (Nat.lt_of_lt_of_le hk hbb.size) (fun e => by have := HUP.out k e; omega)).trans (hbb.block k hk)⟩⟩))
  clear hlog hb2 hup hlf HWAL HW HT HD HB1
  go_wp2_with (first
    | (go_at_call 30; (with_reducible refine HLF.out.mono ?_); rintro e w3 ⟨rfl, hb3⟩; have HB3 := Lib.hid hb3; clear hb3)
    | (go_at_call 23; refine (HAP.out w3 HB3.out).mono ?_; rintro e w4 ⟨rfl, S2, T2, M2, hlog2, hb4⟩; have hlf2 := left_any' hlog2.wal hlog2.ok.lim (by have := hlog2.ok.small; omega); rw [show (⟨100, [[], [1, 2, 3]], false⟩ : AW).most - ((costM (⟨100, [[], [1, 2, 3]], false⟩ : AW).parts : Nat) : Int) = 73 from by decide +kernel] at hlf2; have HLF2 := Lib.hid hlf2; have HLN := Lib.hid (fun (W : World) (hW : Below w4.heap.size w4 W) => len_any (hlog2.wal.later hW) (by simp)); have HB4 := Lib.hid hb4; clear hlog2 hb4 hlf2)
    | (go_at_call 30; (with_reducible refine HLF2.out.mono ?_); rintro e w5 ⟨rfl, hb5⟩; have HB5 := Lib.hid hb5; clear hb5)
    | (go_at_call 32; refine (HLN.out w5 HB5.out).mono ?_; rintro e w6 ⟨rfl, rfl⟩))
  go_ret
  exact ⟨rfl, HB4.out.trans (HB5.out.mono HB4.out.size)⟩

end Go.Proofs.YtienabfilnpieaaGreat
