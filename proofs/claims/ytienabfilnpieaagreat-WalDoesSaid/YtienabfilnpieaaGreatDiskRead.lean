/-
  Read, Arm, Fail.
-/
import Derived.Test.YtienabfilnpieaaGreatDiskMove
namespace Go.Proofs.YtienabfilnpieaaGreat
open Go.RowKit
set_option linter.unusedVariables false
set_option maxRecDepth 100000

def AD.setC (M : AD) (n : Int) : Int := if M.dead then 9 else if n < -1 then 2 else 0
def AD.armM (M : AD) (n : Int) : AD := if M.setC n = 0 then { M with armed := n } else M
def AD.failM (M : AD) (n : Int) : AD := if M.setC n = 0 then { M with failing := n } else M

theorem arm_nil (w : World) (n : Int) : Calls Tryz.prog 25 #[.pointer none, .int .i64 n] w fun e w' => e = .returned (.int .i64 1) ∧ w = w' := by
  go_enter Tryz.func25, Tryz.ntmps25
  go_wp2_with (go_at_call 72; refine (awake_nil _).mono ?_; rintro e w' ⟨rfl, rfl⟩)
  go_ret
  exact ⟨rfl, rfl⟩
theorem fail_nil (w : World) (n : Int) : Calls Tryz.prog 26 #[.pointer none, .int .i64 n] w fun e w' => e = .returned (.int .i64 1) ∧ w = w' := by
  go_enter Tryz.func26, Tryz.ntmps26
  go_wp2_with (go_at_call 72; refine (awake_nil _).mono ?_; rintro e w' ⟨rfl, rfl⟩)
  go_ret
  exact ⟨rfl, rfl⟩

theorem Ok.head {M M' : AD} (h : M.Ok) (h1 : M'.room = M.room) (h2 : M'.files = M.files) (h3 : -1 ≤ M'.armed ∧ M'.armed ≤ 9223372036854775807) (h4 : -1 ≤ M'.failing ∧ M'.failing ≤ 9223372036854775807) (h5 : M'.ops = M.ops) : M'.Ok := by
  refine ⟨by rw [h1]; exact h.room1, by rw [h1]; exact h.room2, ?_, h3.1, h3.2, h4.1, h4.2, by rw [h5]; exact h.ops0, by rw [h5]; exact h.ops1, by rw [h2]; exact h.names, by rw [h2]; exact h.syn⟩
  have : M'.total = M.total := by unfold AD.total AD.len; rw [h2]
  rw [this, h1]; exact h.tot

set_option maxHeartbeats 400000 in
theorem arm_any {w : World} {S : Nat → Prop} {d : Nat} {M : AD} (h : DiskAt w S d M) {n : Int} (hn : I64 n) :
    Calls Tryz.prog 25 #[.pointer (some ⟨d, 0, none⟩), .int .i64 n] w fun e w' => e = .returned (.int .i64 (M.setC n)) ∧ DiskAt w' S d (M.armM n) ∧ w.grownBy w' (some d) := by
  obtain ⟨mb, f, A, c, h⟩ := h
  have hc5 := h.c5
  have hc2 := h.c2
  have hf2 := h.fz 2
  have hbn := bounds_i64 hn
  have HD := Lib.hid h
  clear h hn
  rcases hd : M.dead with _ | _
  · rw [hd] at hc5
    by_cases h1 : n < -1
    · have e1 : M.setC n = 2 := by simp [AD.setC, hd, h1]
      have e2 : M.armM n = M := by simp [AD.armM, e1]
      rw [e1, e2]
      clear e1 e2
      go_enter Tryz.func25, Tryz.ntmps25
      go_wp2_with (first
        | (go_at_call 72; refine (awake_any _ d false hc5).mono ?_; rintro e w' ⟨rfl, rfl⟩)
        | (go_at_call 73; refine (set_no n _ _ h1).mono ?_; rintro e w' ⟨rfl, rfl⟩))
      go_ret
      exact ⟨rfl, ⟨mb, f, A, c, HD.out⟩, World.grownBy.refl _ _⟩
    · have h2 : -1 ≤ n := by omega
      have e1 : M.setC n = 0 := by simp [AD.setC, hd, h1]
      have e2 : M.armM n = { M with armed := n } := by simp [AD.armM, e1]
      rw [e1, e2]
      clear e1 e2
      go_enter Tryz.func25, Tryz.ntmps25
      go_wp2_with (first
        | (go_at_call 72; refine (awake_any _ d false hc5).mono ?_; rintro e w' ⟨rfl, rfl⟩)
        | (go_at_call 73; refine (set_yes n d 2 _ _ hc2 hf2 h2).mono ?_; rintro e w' ⟨rfl, rfl⟩))
      go_ret
      have hg : w.grownBy (w.setCell ⟨d, 2, none⟩ (.int .i64 n)) (some d) := (Only.refl d w).set (.inl rfl) _
      exact ⟨rfl, ⟨mb, f, A, c, HD.out.setHead hg (heap_set HD.out.head 2 _) rfl (Ok.head HD.out.ok rfl rfl ⟨h2, hbn.2⟩ ⟨HD.out.ok.fail1, HD.out.ok.fail2⟩ rfl)⟩, hg⟩
  · rw [hd] at hc5
    have e1 : M.setC n = 9 := by simp [AD.setC, hd]
    have e2 : M.armM n = M := by simp [AD.armM, e1]
    rw [e1, e2]
    clear e1 e2
    go_enter Tryz.func25, Tryz.ntmps25
    go_wp2_with (go_at_call 72; refine (awake_any _ d true hc5).mono ?_; rintro e w' ⟨rfl, rfl⟩)
    go_ret
    exact ⟨rfl, ⟨mb, f, A, c, HD.out⟩, World.grownBy.refl _ _⟩

set_option maxHeartbeats 400000 in
theorem fail_any {w : World} {S : Nat → Prop} {d : Nat} {M : AD} (h : DiskAt w S d M) {n : Int} (hn : I64 n) :
    Calls Tryz.prog 26 #[.pointer (some ⟨d, 0, none⟩), .int .i64 n] w fun e w' => e = .returned (.int .i64 (M.setC n)) ∧ DiskAt w' S d (M.failM n) ∧ w.grownBy w' (some d) := by
  obtain ⟨mb, f, A, c, h⟩ := h
  have hc5 := h.c5
  have hc2 := h.c3
  have hf2 := h.fz 3
  have hbn := bounds_i64 hn
  have HD := Lib.hid h
  clear h hn
  rcases hd : M.dead with _ | _
  · rw [hd] at hc5
    by_cases h1 : n < -1
    · have e1 : M.setC n = 2 := by simp [AD.setC, hd, h1]
      have e2 : M.failM n = M := by simp [AD.failM, e1]
      rw [e1, e2]
      clear e1 e2
      go_enter Tryz.func26, Tryz.ntmps26
      go_wp2_with (first
        | (go_at_call 72; refine (awake_any _ d false hc5).mono ?_; rintro e w' ⟨rfl, rfl⟩)
        | (go_at_call 73; refine (set_no n _ _ h1).mono ?_; rintro e w' ⟨rfl, rfl⟩))
      go_ret
      exact ⟨rfl, ⟨mb, f, A, c, HD.out⟩, World.grownBy.refl _ _⟩
    · have h2 : -1 ≤ n := by omega
      have e1 : M.setC n = 0 := by simp [AD.setC, hd, h1]
      have e2 : M.failM n = { M with failing := n } := by simp [AD.failM, e1]
      rw [e1, e2]
      clear e1 e2
      go_enter Tryz.func26, Tryz.ntmps26
      go_wp2_with (first
        | (go_at_call 72; refine (awake_any _ d false hc5).mono ?_; rintro e w' ⟨rfl, rfl⟩)
        | (go_at_call 73; refine (set_yes n d 3 _ _ hc2 hf2 h2).mono ?_; rintro e w' ⟨rfl, rfl⟩))
      go_ret
      have hg : w.grownBy (w.setCell ⟨d, 3, none⟩ (.int .i64 n)) (some d) := (Only.refl d w).set (.inl rfl) _
      exact ⟨rfl, ⟨mb, f, A, c, HD.out.setHead hg (heap_set HD.out.head 3 _) rfl (Ok.head HD.out.ok rfl rfl ⟨HD.out.ok.arm1, HD.out.ok.arm2⟩ ⟨h2, hbn.2⟩ rfl)⟩, hg⟩
  · rw [hd] at hc5
    have e1 : M.setC n = 9 := by simp [AD.setC, hd]
    have e2 : M.failM n = M := by simp [AD.failM, e1]
    rw [e1, e2]
    clear e1 e2
    go_enter Tryz.func26, Tryz.ntmps26
    go_wp2_with (go_at_call 72; refine (awake_any _ d true hc5).mono ?_; rintro e w' ⟨rfl, rfl⟩)
    go_ret
    exact ⟨rfl, ⟨mb, f, A, c, HD.out⟩, World.grownBy.refl _ _⟩

/-! ### Read -/
theorem enter_read1 (p1 p2 p3 : Value) (W : World) : (callFunc 92 #[p1, p2, p3]).run Tryz.prog W = .ok (.enter 92 #[p1, p2, p3]) W := by kernel_rfl

def ReadTo (W : World) (r : Nat) (bs : List Int) (W' : World) : Prop := ∃ A1 c1, W'.cell? ⟨r, 0, none⟩ = some (.slice A1 bs.length c1) ∧ W'.ownsRow W.heap.size 5 1 (.slice A1 bs.length c1) bs.length (bs.map (Value.int .u8)) ∧ W.grownBy W' (some r)

set_option maxHeartbeats 800000 in
theorem read1_any {W : World} {S : Nat → Prop} {d mb : Nat} {M : AD} {f : Int → Option Value} {A : Int → Option Addr} {c : Int → Nat} (h : DiskIn W S d M mb f A c) {k : Int} (hk : Name k) (F : AF) (hF : M.files k = some F) (p q r : Nat)
    (hp : W.cell? ⟨p, 0, none⟩ = some (.pointer (some ⟨d, 0, none⟩))) (hq : W.cell? ⟨q, 0, none⟩ = some (.int .i64 k)) (hr : W.heap[r]? = some (.cells #[.slice none 0 0] 33 (0, 0))) :
    Calls Tryz.prog 92 #[.pointer (some ⟨p, 0, none⟩), .pointer (some ⟨q, 0, none⟩), .pointer (some ⟨r, 0, none⟩)] W fun e w' => e = .returned (.tuple #[]) ∧ ReadTo W r F.bs w' := by
  have hc1 := h.c1
  have hl := h.drew.look (name_i64 hk)
  have hfa : fileAt M A c k = .agg #[.slice (A k) F.bs.length (c k), .int .i64 F.syn, .bool F.kept] := by simp [fileAt, hF, AF.val]
  rw [hfa] at hl
  have hfd := field0 (.slice (A k) F.bs.length (c k)) (.int .i64 F.syn) (.bool F.kept) W.drew
  have hrow := (h.files.yes k F hF).2.1
  have hrd : Rd W W.heap.size (A k) F.bs := Rd.own hrow
  have hsmall : F.bs.length ≤ 140737488355328 := by
    have h1 := len_le M hk
    have h2 : M.len k = F.bs.length := by simp [AD.len, hF]
    have h3 := h.ok.tot
    have h4 := h.ok.room2
    omega
  have hrlt := lt_of_block hr
  obtain ⟨n, hn⟩ : ∃ n, n = F.bs.length := ⟨_, rfl⟩
  have HR := Lib.hid hr
  have HRD := Lib.hid hrd
  have HSM := Lib.hid hsmall
  have HN := Lib.hid hn
  rw [← hn] at hl hfd
  clear h hfa hrow hrd hsmall hr hn
  go_enter Tryz.func92, Tryz.ntmps92
  go_wp2
  refine wp_region_still_tail 7 (by kernel_rfl) (by kernel_rfl) ?_
  simp only [List.take_succ_cons, List.take_zero, List.drop_succ_cons, List.drop_zero]
  change wpStill _ _ W.drew _ _ _
  still_step
  still_step
  still_step
  still_step
  still_step
  still_step
  still_step
  refine wpStill_nil ?_
  go_wp2_with (go_at_call 65; rw [HN.out]; refine (clone_any (A k) (c k) F.bs _ W.drew HRD.out.drew HSM.out).mono ?_; rw [← HN.out]; rintro e w1 ⟨v1, rfl, hown1, hb1⟩; obtain ⟨A1, c1, rfl, _, _⟩ := own_form hown1; have b0 : w1.heap[r]? = some (.cells #[.slice none 0 0] 33 (0, 0)) := (hb1.block r hrlt).trans HR.out; have h0' : w1.cell? ⟨r, 0, none⟩ = some (.slice none 0 0) := (by simp [World.cell?, b0]); have f0' : w1.frozen? ⟨r, 0, none⟩ = false := (by simp [World.frozen?, b0]); have HO := Lib.hid hown1; have HB1 := Lib.hid hb1; have B0 := Lib.hid b0; clear hown1 hb1 b0)
  go_end0
  rw [HN.out] at HO ⊢
  refine ⟨rfl, A1, c1, ?_, ?_, ?_⟩
  · have h1 := heap_set B0.out 0 (.slice A1 F.bs.length c1)
    simp [World.cell?, h1]
  · refine row_same HO.out (fun g hg => Below.heap_setCell w1 _ _ g ?_)
    intro e
    have h1 := (HO.out.lt g (by cases A1 <;> simp_all [Value.ownBlock, blk])).1
    have h2 : W.heap.size ≤ g := h1
    have h3 : g = r := e
    omega
  · have hg1 : W.grownBy w1 (some r) := ⟨HB1.out.os, HB1.out.tape, HB1.out.output, HB1.out.size, fun i hi _ => HB1.out.block i hi⟩
    exact hg1.trans ((Only.refl r w1).set (.inl rfl) _)

theorem read_nil (w : World) (k : Int) : Calls Tryz.prog 42 #[.pointer none, .int .i64 k] w fun e w' => e = .returned (.tuple #[.slice none 0 0, .int .i64 1]) ∧ Below w.heap.size w w' := by
  obtain ⟨_, _, hb, hsz⟩ := boxes w (.pointer none) (.int .i64 k) 24 3
  have HB := Lib.hid hb
  clear hb
  go_enter Tryz.func42, Tryz.ntmps42
  go_wp2_with (go_at_call 48; refine (ready_nil _ k _ _ [] (World.ownsRow_nil _ _ _ _) (by simp) (Nat.le_refl _)).mono ?_; rintro e w' ⟨rfl, hb1⟩; have HB1 := Lib.hid hb1; clear hb1)
  go_ret2
  exact ⟨rfl, HB.out.trans (HB1.out.mono HB.out.size)⟩

/-- What Read answers. -/
def AD.readB (M : AD) (k : Int) : List Int := if M.opC k [] = 0 then (M.file k).bs else []
def ReadsAs (S : Nat → Prop) (d : Nat) (w : World) (M : AD) (k : Int) (e : Ending) (w' : World) : Prop :=
  ∃ v, e = .returned (.tuple #[v, .int .i64 (M.opC k [])]) ∧ w'.ownsRow w.heap.size 5 1 v (M.readB k).length ((M.readB k).map (Value.int .u8)) ∧ DiskAt w' S d (M.opM k [] M.met) ∧ Turn S w w'

set_option maxHeartbeats 400000 in
theorem read_any {w : World} {S : Nat → Prop} {d : Nat} {M : AD} (h : DiskAt w S d M) {k : Int} (hk : I64 k) (hops : M.ops < 4611686018427387904) :
    Calls Tryz.prog 42 #[.pointer (some ⟨d, 0, none⟩), .int .i64 k] w (ReadsAs S d w M k) := by
  obtain ⟨mb, f, A, c, h⟩ := h
  obtain ⟨hp, hq, hb, hsz⟩ := boxes w (.pointer (some ⟨d, 0, none⟩)) (.int .i64 k) 24 3
  have HB := Lib.hid hb
  have HD := Lib.hid h
  have HD1 := Lib.hid (h.later hb)
  have HS := Lib.hid hsz
  have HP := Lib.hid hp
  have HQ := Lib.hid hq
  obtain ⟨ac, hac⟩ : ∃ ac, ac = M.ask k [] := ⟨_, rfl⟩
  have HA := Lib.hid hac
  clear hb h hsz hp hq hac
  by_cases hz : ac = 0
  · subst hz
    have e1 : M.opC k [] = M.err := by simp [AD.opC, ← HA.out]
    have e2 : M.opM k [] M.met = M.met := by simp [AD.opM, ← HA.out]
    have E1 := Lib.hid e1
    have E2 := Lib.hid e2
    clear e1 e2
    obtain ⟨_, hname, _, F, hF⟩ := ask_there HA.out.symm
    have HF := Lib.hid hF
    clear hF
    go_enter Tryz.func42, Tryz.ntmps42
    go_wp2_with (go_at_call 48; refine (ready_any ⟨mb, f, A, c, HD1.out⟩ hk _ _ [] (World.ownsRow_nil _ _ _ _) (by simp) (Nat.le_refl _) HD1.out.low).mono ?_; rw [← HA.out]; rintro e w2 ⟨rfl, hb2⟩; have c1 := (hb2.cell (p := ⟨w.heap.size, 0, none⟩) (by rw [HS.out]; simp)).trans HP.out; have c2 := (hb2.cell (p := ⟨w.heap.size + 1, 0, none⟩) (by rw [HS.out]; simp)).trans HQ.out; have c1' := Lib.cell?_alloc_some (.cells #[.slice none 0 0] 33) c1; have c2' := Lib.cell?_alloc_some (.cells #[.slice none 0 0] 33) c2; have HB2 := Lib.hid hb2; clear hb2)
    clear c1' c2'
    obtain ⟨W3, hW3⟩ : ∃ W3, W3 = w2.alloc (.cells #[.slice none 0 0] 33) := ⟨_, rfl⟩
    have hb3 : Below w2.heap.size w2 W3 := by rw [hW3]; exact (Below.refl _ _).alloc (Nat.le_refl _) _
    have hx3 : W3.heap[w2.heap.size]? = some (.cells #[.slice none 0 0] 33 (0, 0)) := by rw [hW3]; exact heap_alloc_new w2 _
    have hd3 : DiskIn W3 S d M mb f A c := (HD1.out.later HB2.out).later hb3
    have hl2 : w.heap.size + 2 ≤ w2.heap.size := by rw [← HS.out]; exact HB2.out.size
    have k1 : W3.cell? ⟨w.heap.size, 0, none⟩ = some (.pointer (some ⟨d, 0, none⟩)) := (hb3.cell (p := ⟨w.heap.size, 0, none⟩) (by simp; omega)).trans c1
    have k2 : W3.cell? ⟨w.heap.size + 1, 0, none⟩ = some (.int .i64 k) := (hb3.cell (p := ⟨w.heap.size + 1, 0, none⟩) (by simp; omega)).trans c2
    have hbw : Below w.heap.size w W3 := (HB.out.trans (HB2.out.mono HB.out.size)).trans (hb3.mono (by omega))
    rw [← hW3]
    refine (operate_in 92 _ hd3 hops (fun W' => ∃ W1, DiskIn W1 S d M.met mb f A c ∧ W3.grownBy W1 (some d) ∧ ReadTo W1 w2.heap.size F.bs W') (enter_read1 _ _ _) ?_).mono ?_
    · intro W hDW hgW
      have hdlt := HD.out.lt
      have hx4 : W.heap[w2.heap.size]? = some (.cells #[.slice none 0 0] 33 (0, 0)) := (hgW.block _ (lt_of_block hx3) (by simp; omega)).trans hx3
      refine (read1_any hDW hname F (by rw [met_files]; exact HF.out) _ _ _ (hd3.keeps hgW (fun i hi => HD.out.low i hi) k1) (hd3.keeps hgW (fun i hi => by have := HD.out.low i hi; omega) k2) hx4).mono ?_
      rintro e w' ⟨rfl, hrt⟩
      exact ⟨rfl, W, hDW, hgW, hrt⟩
    · rintro e w4 ⟨rfl, hdone⟩
      have hcell : ∃ A1 c1 n, n = (M.readB k).length ∧ w4.cell? ⟨w2.heap.size, 0, none⟩ = some (.slice A1 n c1) ∧ w4.ownsRow w.heap.size 5 1 (.slice A1 n c1) n ((M.readB k).map (Value.int .u8)) ∧ DiskAt w4 S d M.met ∧ Turn S w w4 := by
        have hturn : ∀ {W1 : World}, W3.grownBy W1 (some d) → Turn S w W1 := fun h1 => (Turn.of_below hbw).trans (Turn.of_grown (S := S) h1 (fun i hi => by cases hi; exact .inl HD.out.inS)) (fun i hi => .inl hi)
        rcases hdone with ⟨h0, h1, h2⟩ | ⟨h0, W1, h1, h2, A1, c1, h3, h4, h5⟩
        · have hdlt := HD.out.lt
          refine ⟨none, 0, 0, by simp [AD.readB, E1.out, h0], ?_, ?_, ⟨mb, f, A, c, h1⟩, hturn h2⟩
          · have : w4.heap[w2.heap.size]? = _ := (h2.block _ (lt_of_block hx3) (by simp; omega)).trans hx3
            simp [World.cell?, this]
          · simp [AD.readB, E1.out, h0]
            exact World.ownsRow_nil _ _ _ _
        · have hfile : M.readB k = F.bs := by simp [AD.readB, E1.out, h0, AD.file, HF.out]
          rw [hfile]
          refine ⟨A1, c1, F.bs.length, rfl, h3, ⟨h4.1, ?_⟩, ?_, ?_⟩
          · rcases h4.2 with e | ⟨g, cap, cur, e1, hg, r⟩
            · exact .inl e
            · refine .inr ⟨g, cap, cur, e1, ?_, r⟩
              have := h2.size
              have := hbw.size
              omega
          · refine ⟨mb, f, A, c, h1.turn (fun i hi => h5.block i (h1.low i hi) ?_) h5.size⟩
            have := HD.out.low i hi
            simp; omega
          · refine (hturn h2).trans (Turn.of_grown (S := fun i => i = w2.heap.size) h5 (fun i hi => by cases hi; exact .inl rfl)) (fun i hi => ?_)
            have : i = w2.heap.size := hi
            right; omega
      obtain ⟨A1, c1, n, hn, hc4, hown, hd4, ht4⟩ := hcell
      have HN := Lib.hid hn
      have HO := Lib.hid hown
      have HD4 := Lib.hid hd4
      have HT4 := Lib.hid ht4
      clear hdone hn hown hd4 ht4 hd3 hb3 hx3 k1 k2 hbw hW3
      go_wp2
      go_ret2
      exact ⟨_, by rw [E1.out]; rfl, by rw [← HN.out]; exact HO.out, by rw [E2.out]; exact HD4.out, HT4.out⟩
  · have e1 : M.opC k [] = ac := by rw [HA.out] at hz ⊢; simp [AD.opC, hz]
    have e2 : M.opM k [] M.met = M := by rw [HA.out] at hz; simp [AD.opM, hz]
    have e3 : M.readB k = [] := by rw [← e1] at hz; simp [AD.readB, hz]
    have E1 := Lib.hid e1
    have E2 := Lib.hid e2
    have E3 := Lib.hid e3
    clear e1 e2 e3
    have hz1 : (ac == 0) = false := by simp [hz]
    have hz2 : (ac != 0) = true := by simp [hz]
    go_enter Tryz.func42, Tryz.ntmps42
    go_wp2_with (go_at_call 48; refine (ready_any ⟨mb, f, A, c, HD1.out⟩ hk _ _ [] (World.ownsRow_nil _ _ _ _) (by simp) (Nat.le_refl _) HD1.out.low).mono ?_; rw [← HA.out]; rintro e w2 ⟨rfl, hb2⟩; have HB2 := Lib.hid hb2; clear hb2)
    go_ret2
    exact ⟨_, by rw [E1.out]; rfl, by rw [E3.out]; exact World.ownsRow_nil _ _ _ _, by rw [E2.out]; exact DiskAt.later ⟨mb, f, A, c, HD.out⟩ (HB.out.trans (HB2.out.mono HB.out.size)), Turn.of_below (HB.out.trans (HB2.out.mono HB.out.size))⟩

end Go.Proofs.YtienabfilnpieaaGreat
