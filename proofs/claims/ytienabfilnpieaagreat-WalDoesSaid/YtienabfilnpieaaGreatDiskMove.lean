/-
  Rename, Read, Arm, Fail.
-/
import Derived.Test.YtienabfilnpieaaGreatDiskTrunc
namespace Go.Proofs.YtienabfilnpieaaGreat
open Go.RowKit
set_option linter.unusedVariables false
set_option maxRecDepth 100000

def AF.held (F : AF) : AF := ⟨F.bs, F.syn, true⟩
def AD.move (M : AD) (k j : Int) : AD := if k = j then M else (M.drop k).put j (M.file k).held

theorem len_drop (M : AD) (k j : Int) : (M.drop k).len j = if j = k then 0 else M.len j := by
  unfold AD.len AD.drop
  by_cases e : j = k
  · subst e; simp [upd_same]
  · simp [upd_other _ e, e]
theorem total_drop_eq (M : AD) {k : Int} (hk : Name k) : (M.drop k).total + M.len k = M.total := by
  unfold AD.total
  simp only [len_drop]
  have h4 : k = 0 ∨ k = 1 ∨ k = 2 ∨ k = 3 := by unfold Name at hk; omega
  rcases h4 with rfl | rfl | rfl | rfl <;> simp <;> omega

theorem enter_move (x p1 : Value) (W : World) : (callFunc 130 (#[x] ++ #[p1])).run Tryz.prog W = .ok (.enter 130 (#[x] ++ #[p1])) W := by kernel_rfl
theorem enter_ren1 (p1 p2 p3 : Value) (W : World) : (callFunc 129 #[p1, p2, p3]).run Tryz.prog W = .ok (.enter 129 #[p1, p2, p3]) W := by kernel_rfl

/-- What was another name's is laid at a name. -/
theorem move_disk {w : World} {S : Nat → Prop} {d mb : Nat} {M : AD} {f : Int → Option Value} {A : Int → Option Addr} {c : Int → Nat} (h : DiskIn w S d M mb f A c) {j : Int} (hj : Name j) (F : AF) (B : Option Addr) (cb r : Nat)
    (hr : BoxAt w r B F.bs.length cb F.syn F.kept) (hrow : F.At w B cb) (hfree : ∀ g, blk B = some g → S g ∧ ∀ i, i ≠ j → M.files i ≠ none → blk (A i) ≠ some g) (hok : (M.put j F.held).Ok) :
    Calls Tryz.prog 46 #[.pointer (some ⟨d, 0, none⟩), .int .i64 j, .func (.func 130) #[] #[.pointer (some ⟨r, 0, none⟩)]] w fun e w' => e = .returned (.tuple #[]) ∧ After S d w (M.put j F.held) w' := by
  have hrlt : r < w.heap.size := lt_of_block hr
  refine (change_disk (fun o => o = blk B) 130 #[.pointer (some ⟨r, 0, none⟩)] h hj F.held hok (fun g e => hfree g e.symm) (enter_move _ _) ?_).mono (fun e w' ⟨h1, h2, h3⟩ => ⟨h1, h2, h3⟩)
  intro A0 n0 c0 s0 k0 he hnone
  have hb2 : BoxAt (w.alloc (.cells #[.slice A0 n0 c0, .int .i64 s0, .bool k0] 98)) r B F.bs.length cb F.syn F.kept := (Below.heap_alloc w _ r hrlt).trans hr
  refine (move_any (BoxAt.new w A0 n0 c0 s0 k0) hb2 (by omega)).mono ?_
  rintro e W ⟨rfl, hb, hg⟩
  have hbk : ∀ i, i < w.heap.size → W.heap[i]? = w.heap[i]? := fun i hi => by rw [hg.block i (by simp; omega) (by simp; omega), Below.heap_alloc w _ i hi]
  refine ⟨rfl, B, F.bs.length, cb, F.syn, true, hb, rfl, rfl, rfl, ?_, .inr (.inr rfl), hg.os, hg.tape, hg.output, ?_, fun i hi _ => hbk i hi⟩
  · exact row_same hrow (fun g hgb => by
      obtain ⟨cur, hc⟩ := own_block hrow hgb
      exact hbk g (lt_of_block hc))
  · have := hg.size
    simp at this
    omega

set_option maxHeartbeats 800000 in
theorem ren1_same {W : World} (d : Nat) (k : Int) (p q r : Nat) (hp : W.cell? ⟨p, 0, none⟩ = some (.int .i64 k)) (hq : W.cell? ⟨q, 0, none⟩ = some (.int .i64 k)) :
    Calls Tryz.prog 129 #[.pointer (some ⟨p, 0, none⟩), .pointer (some ⟨q, 0, none⟩), .pointer (some ⟨r, 0, none⟩)] W fun e w' => e = .returned (.tuple #[]) ∧ W = w' := by
  go_enter Tryz.func129, Tryz.ntmps129
  go_wp2
  refine bodyPost_ret (results_none rfl _ _ _) rfl ?_
  exact ⟨rfl, rfl⟩

set_option maxHeartbeats 800000 in
theorem ren1_any {W : World} {S : Nat → Prop} {d mb : Nat} {M : AD} {f : Int → Option Value} {A : Int → Option Addr} {c : Int → Nat} (h : DiskIn W S d M mb f A c) {k j : Int} (hk : Name k) (hj : Name j) (hkj : k ≠ j) (F : AF) (hF : M.files k = some F) (p q r : Nat)
    (hp : W.cell? ⟨p, 0, none⟩ = some (.int .i64 k)) (hq : W.cell? ⟨q, 0, none⟩ = some (.int .i64 j)) (hr : W.cell? ⟨r, 0, none⟩ = some (.pointer (some ⟨d, 0, none⟩))) (hmp : p ≠ mb) (hmq : q ≠ mb) (hmr : r ≠ mb) :
    Calls Tryz.prog 129 #[.pointer (some ⟨p, 0, none⟩), .pointer (some ⟨q, 0, none⟩), .pointer (some ⟨r, 0, none⟩)] W fun e w' => e = .returned (.tuple #[]) ∧ After S d W ((M.drop k).put j F.held) w' := by
  have hlt : ∀ {x : Nat} {v : Value}, W.cell? ⟨x, 0, none⟩ = some v → x < W.heap.size := fun {x v} hx => by
    rcases Nat.lt_or_ge x W.heap.size with h1 | h1
    · exact h1
    · simp [World.cell?, Array.getElem?_eq_none h1] at hx
  have lp := hlt hp
  have lq := hlt hq
  have lr := hlt hr
  have hc1 := h.c1
  have ld := h.lt
  have hl := h.drew.look (name_i64 hk)
  have hl2 := (h.later ((Below.refl _ W).alloc (Nat.le_refl _) (.cells #[.slice none 0 0, .int .i64 0, .bool false] 98))).drew.look (name_i64 hk)
  have hfa : fileAt M A c k = .agg #[.slice (A k) F.bs.length (c k), .int .i64 F.syn, .bool F.kept] := by simp [fileAt, hF, AF.val]
  rw [hfa] at hl hl2
  have hd0 : (k == j) = false := by simp [hkj]
  have HKJ := Lib.hid hkj
  have HD := Lib.hid h
  have HF := Lib.hid hF
  obtain ⟨W1, hW1⟩ : ∃ W1, W1 = (W.alloc (.cells #[.slice (A k) F.bs.length (c k), .int .i64 F.syn, .bool F.kept] 98)).drew := ⟨_, rfl⟩
  have hb1 : Below W.heap.size W W1 := by rw [hW1]; exact ((Below.refl _ W).alloc (Nat.le_refl _) _).drew
  have hx1 : BoxAt W1 W.heap.size (A k) F.bs.length (c k) F.syn F.kept := by rw [hW1]; exact BoxAt.new W _ _ _ _ _
  have HW1 := Lib.hid hW1
  have HB1 := Lib.hid hb1
  have HX1 := Lib.hid hx1
  have p1 := (hb1.cell (p := ⟨p, 0, none⟩) lp).trans hp
  have q1 := (hb1.cell (p := ⟨q, 0, none⟩) lq).trans hq
  have r1 := (hb1.cell (p := ⟨r, 0, none⟩) lr).trans hr
  have d1 := (hb1.cell (p := ⟨d, 1, none⟩) ld).trans hc1
  clear h hF hfa hlt hkj hW1 hb1 hx1
  go_enter Tryz.func129, Tryz.ntmps129
  go_wp2
  go_region
  all_goals go_wp2
  all_goals (
    rw [← HW1.out]
    refine wp_region_still_tail 5 (by kernel_rfl) (by kernel_rfl) ?_
    simp only [List.take_succ_cons, List.take_zero, List.drop_succ_cons, List.drop_zero]
    change wpStill _ _ W1.drew _ _ _
    still_step
    still_step
    still_step
    still_step
    still_step
    refine wpStill_nil ?_
    go_wp2_with (at_delete; refine drop_file rfl _ _ rfl rfl (w := W1.drew) (HD.out.later HB1.out).drew.files.map hk rfl ?_; intro w3 hm3 hg3; have D3 := Lib.hid ((HD.out.later HB1.out).drew.drop hm3 hg3); have p3 := (World.cell?_of_block (a := ⟨p, 0, none⟩) (hg3.block p (Nat.lt_of_lt_of_le lp HB1.out.size) (by simpa using hmp))).trans p1; have q3 := (World.cell?_of_block (a := ⟨q, 0, none⟩) (hg3.block q (Nat.lt_of_lt_of_le lq HB1.out.size) (by simpa using hmq))).trans q1; have r3 := (World.cell?_of_block (a := ⟨r, 0, none⟩) (hg3.block r (Nat.lt_of_lt_of_le lr HB1.out.size) (by simpa using hmr))).trans r1; have HG3 := Lib.hid hg3; clear hm3 hg3)
    have hrow := (HD.out.files.yes k F HF.out).2.1
    have hx3 : BoxAt w3 W.heap.size (A k) F.bs.length (c k) F.syn F.kept := (HG3.out.block _ (lt_of_block HX1.out) (by have := HD.out.low _ HD.out.files.inS; simp; omega)).trans HX1.out
    have hrow3 : F.At w3 (A k) (c k) := row_same (row_same hrow (fun g hg => HB1.out.block g (by obtain ⟨cur, hc⟩ := own_block hrow hg; exact lt_of_block hc))) (fun g hg => by
      obtain ⟨cur, hc⟩ := own_block hrow hg
      have hne := HD.out.noMap hc
      exact HG3.out.block g (Nat.lt_of_lt_of_le (lt_of_block hc) HB1.out.size) (by simpa using hne))
    have hok : ((M.drop k).put j F.held).Ok := by
      have h1 := total_drop_eq M hk
      have h2 : M.len k = F.bs.length := by simp [AD.len, HF.out]
      have h3 := HD.out.ok.tot
      refine Ok.put (Ok.drop HD.out.ok k) hj _ (HD.out.ok.syn k F HF.out) ?_
      show ((M.drop k).total : Int) + F.bs.length ≤ M.room + _
      omega
    refine (move_disk D3.out hj F (A k) (c k) W.heap.size hx3 hrow3 ?_ hok).mono ?_
    · intro g hg
      refine ⟨(HD.out.files.yes k F HF.out).2.2 g hg, fun i hi hfi e => ?_⟩
      have hik : i ≠ k := by
        rintro rfl
        simp [AD.drop, upd_same] at hfi
      simp only [AD.drop, upd_other _ hik] at hfi
      exact HD.out.files.apart i k hik hfi (by rw [HF.out]; simp) g e hg
    · rintro e w4 ⟨rfl, haf⟩
      have HAF := Lib.hid haf
      have ht : Turn S W w3 := (Turn.of_below HB1.out).trans (Turn.of_grown (S := S) (w := W1) ⟨HG3.out.os, HG3.out.tape, HG3.out.output, HG3.out.size, HG3.out.block⟩ (fun i hi => by cases hi; exact .inl HD.out.files.inS)) (fun i hi => .inl hi)
      have HT := Lib.hid ht
      clear haf ht hrow hx3 hrow3 hok
      go_wp2
      go_end0
      exact ⟨rfl, After.then ⟨mb, f, A, c, HD.out⟩ HT.out HAF.out⟩)


theorem row_one (w : World) (x : Value) (e : TypeId) : (w.alloc (.cells #[x] e)).ownsRow w.heap.size e 1 (.slice (some ⟨w.heap.size, 0, none⟩) 1 1) 1 [x] :=
  ⟨by simp, .inr ⟨w.heap.size, 1, #[x], rfl, Nat.le_refl _, heap_alloc_new w _, Nat.le_refl _, by unfold maxLen; omega, rfl, rfl⟩⟩

theorem rename_nil (w : World) (k j : Int) : Calls Tryz.prog 109 #[.pointer none, .int .i64 k, .int .i64 j] w fun e w' => e = .returned (.int .i64 1) ∧ Below w.heap.size w w' := by
  obtain ⟨_, _, _, hb, hsz⟩ := boxes3 w (.pointer none) (.int .i64 k) (.int .i64 j) 24 3 3
  have HB := Lib.hid hb
  have HS := Lib.hid hsz
  clear hb hsz
  go_enter Tryz.func109, Tryz.ntmps109
  go_wp2_with (go_at_call 48; refine (ready_nil _ k (w.heap.size + 3) _ [j] (by rw [← HS.out]; exact row_one _ _ _) (by simp) (by simp)).mono ?_; rintro e w' ⟨rfl, hb1⟩; have HB1 := Lib.hid hb1; clear hb1)
  go_ret
  refine ⟨rfl, (HB.out.alloc HB.out.size _).trans (HB1.out.mono (by omega))⟩

set_option maxHeartbeats 800000 in
theorem rename_any {w : World} {S : Nat → Prop} {d : Nat} {M : AD} (h : DiskAt w S d M) {k j : Int} (hk : I64 k) (hj : I64 j) (hops : M.ops < 4611686018427387904) :
    Calls Tryz.prog 109 #[.pointer (some ⟨d, 0, none⟩), .int .i64 k, .int .i64 j] w fun e w' => e = .returned (.int .i64 (M.opC k [j])) ∧ After S d w (M.opM k [j] (M.met.move k j)) w' := by
  obtain ⟨mb, f, A, c, h⟩ := h
  obtain ⟨hp, hq, hr, hb, hsz⟩ := boxes3 w (.pointer (some ⟨d, 0, none⟩)) (.int .i64 k) (.int .i64 j) 24 3 3
  obtain ⟨W, hW⟩ : ∃ W, W = (((w.alloc (.cells #[.pointer (some ⟨d, 0, none⟩)] 24)).alloc (.cells #[.int .i64 k] 3)).alloc (.cells #[.int .i64 j] 3)).alloc (.cells #[.int .i64 j] 3) := ⟨_, rfl⟩
  have hb' : Below w.heap.size w W := by rw [hW]; exact hb.alloc hb.size _
  have HO := Lib.hid (show W.ownsRow (w.heap.size + 3) 3 1 (.slice (some ⟨w.heap.size + 3, 0, none⟩) 1 1) [j].length ([j].map (Value.int .i64)) by rw [hW, ← hsz]; exact row_one _ _ _)
  have HSZ := Lib.hid (show w.heap.size + 3 ≤ W.heap.size by rw [hW]; simp)
  have HP := Lib.hid (show W.cell? ⟨w.heap.size, 0, none⟩ = some (.pointer (some ⟨d, 0, none⟩)) by rw [hW]; exact Lib.cell?_alloc_some _ hp)
  have HQ := Lib.hid (show W.cell? ⟨w.heap.size + 1, 0, none⟩ = some (.int .i64 k) by rw [hW]; exact Lib.cell?_alloc_some _ hq)
  have HR := Lib.hid (show W.cell? ⟨w.heap.size + 2, 0, none⟩ = some (.int .i64 j) by rw [hW]; exact Lib.cell?_alloc_some _ hr)
  have HB := Lib.hid hb'
  have HD := Lib.hid h
  have HD1 := Lib.hid (h.later hb')
  have HW := Lib.hid hW
  obtain ⟨ac, hac⟩ : ∃ ac, ac = M.ask k [j] := ⟨_, rfl⟩
  have HA := Lib.hid hac
  clear hb hb' h hsz hp hq hr hac hW
  by_cases hz : ac = 0
  · subst hz
    have e1 : M.opC k [j] = M.err := by simp [AD.opC, ← HA.out]
    have e2 : M.opM k [j] (M.met.move k j) = if M.err = 0 then M.met.move k j else M.met := by simp [AD.opM, ← HA.out]
    rw [e1]
    have E2 := Lib.hid e2
    clear e1 e2
    obtain ⟨_, hname, hnames, F, hF⟩ := ask_there HA.out.symm
    have hnj : Name j := hnames j (by simp)
    have HF := Lib.hid hF
    clear hF hnames
    go_enter Tryz.func109, Tryz.ntmps109
    go_wp2_with (go_at_call 48; rw [← HW.out]; refine (ready_any ⟨mb, f, A, c, HD1.out⟩ hk _ _ [j] HO.out (by simp) HSZ.out (fun i hi => by have := HD.out.low i hi; omega)).mono ?_; rw [← HA.out]; rintro e w2 ⟨rfl, hb2⟩; have c1 := (hb2.cell (p := ⟨w.heap.size, 0, none⟩) (by simp)).trans HP.out; have c2 := (hb2.cell (p := ⟨w.heap.size + 1, 0, none⟩) (by simp)).trans HQ.out; have c3 := (hb2.cell (p := ⟨w.heap.size + 2, 0, none⟩) (by simp)).trans HR.out; have D2 := Lib.hid (HD1.out.below hb2 (fun i hi => by have := HD.out.low i hi; omega)); have HB2 := Lib.hid (HB.out.trans (hb2.mono (Nat.le_add_right _ 3))); clear hb2)
    refine (operate_in 129 _ D2.out hops (fun W' => ∃ W1, w2.grownBy W1 (some d) ∧ After S d W1 (M.met.move k j) W') (enter_ren1 _ _ _) ?_).mono ?_
    · intro W3 hDW hgW
      have k1 := D2.out.keeps hgW (fun i hi => HD.out.low i hi) c1
      have k2 := D2.out.keeps hgW (fun i hi => by have := HD.out.low i hi; omega) c2
      have k3 := D2.out.keeps hgW (fun i hi => by have := HD.out.low i hi; omega) c3
      by_cases hkj : k = j
      · subst hkj
        refine (ren1_same d k _ _ _ k2 k3).mono ?_
        rintro e w' ⟨rfl, rfl⟩
        refine ⟨rfl, _, hgW, ?_⟩
        simp only [AD.move, if_true]
        exact After.same ⟨mb, f, A, c, hDW⟩ (Below.refl _ _)
      · have hfile : M.met.file k = F := by simp [AD.file, met_files, HF.out]
        have hmb := HD.out.low _ HD.out.files.inS
        refine (ren1_any hDW hname hnj hkj F (by rw [met_files]; exact HF.out) _ _ _ k2 k3 k1 (by omega) (by omega) (by omega)).mono ?_
        rintro e w' ⟨rfl, haf⟩
        refine ⟨rfl, _, hgW, ?_⟩
        simp only [AD.move, if_neg hkj, hfile]
        exact haf
    · rintro e w3 ⟨rfl, hdone⟩
      have HDN := Lib.hid hdone
      clear hdone
      go_wp2
      go_ret
      exact ⟨rfl, by rw [E2.out]; exact op_after HD.out HB2.out HDN.out⟩
  · have e1 : M.opC k [j] = ac := by rw [HA.out] at hz ⊢; simp [AD.opC, hz]
    have e2 : M.opM k [j] (M.met.move k j) = M := by rw [HA.out] at hz; simp [AD.opM, hz]
    rw [e1, e2]
    clear e1 e2
    have hz1 : (ac == 0) = false := by simp [hz]
    have hz2 : (ac != 0) = true := by simp [hz]
    go_enter Tryz.func109, Tryz.ntmps109
    go_wp2_with (go_at_call 48; rw [← HW.out]; refine (ready_any ⟨mb, f, A, c, HD1.out⟩ hk _ _ [j] HO.out (by simp) HSZ.out (fun i hi => by have := HD.out.low i hi; omega)).mono ?_; rw [← HA.out]; rintro e w2 ⟨rfl, hb2⟩; have c1 := (hb2.cell (p := ⟨w.heap.size, 0, none⟩) (by simp)).trans HP.out; have c2 := (hb2.cell (p := ⟨w.heap.size + 1, 0, none⟩) (by simp)).trans HQ.out; have c3 := (hb2.cell (p := ⟨w.heap.size + 2, 0, none⟩) (by simp)).trans HR.out; have D2 := Lib.hid (HD1.out.below hb2 (fun i hi => by have := HD.out.low i hi; omega)); have HB2 := Lib.hid (HB.out.trans (hb2.mono (Nat.le_add_right _ 3))); clear hb2)
    go_ret
    exact ⟨rfl, After.same ⟨mb, f, A, c, HD.out⟩ HB2.out⟩

end Go.Proofs.YtienabfilnpieaaGreat
