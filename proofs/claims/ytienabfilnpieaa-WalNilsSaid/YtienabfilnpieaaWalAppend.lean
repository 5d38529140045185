/-
  Append: a record more, or not.
-/
import Derived.Test.YtienabfilnpieaaWalMore
import Derived.Deep.CutRange
namespace Go.Proofs.Ytienabfilnpieaa
open Go.RowKit
set_option linter.unusedVariables false
set_option maxRecDepth 100000

/-- A log may be so. -/
structure AW.Ok (V : AW) : Prop where
  lim : Lim V.most
  one : 1 ≤ V.parts.length
  cost : (costM V.parts : Int) ≤ V.most
theorem AW.Ok.small {V : AW} (h : V.Ok) : costM V.parts ≤ 16000 ∧ V.parts.length ≤ 16000 := by
  have h1 := h.lim.2
  have h2 := h.cost
  have h3 := costM_len V.parts
  omega
/-- A log and its disk. -/
structure Log (w : World) (S T : Nat → Prop) (g d : Nat) (V : AW) (M : AD) : Prop where
  wal : WalAt w T g d V
  disk : DiskAt w S d M
  sep : ∀ k, T k → ¬ S k
  ok : V.Ok
structure Moved (S T S' T' : Nat → Prop) (w w' : World) : Prop where
  turn : Turn (fun k => S k ∨ T k) w w'
  s : ∀ k, S' k → S k ∨ w.heap.size ≤ k
  t : ∀ k, T' k → T k ∨ w.heap.size ≤ k
def AW.room (V : AW) : Int := V.most - (costM V.parts : Int)
def AW.appC (V : AW) (M : AD) (b : List Int) : Int := if V.refC b.length V.room ≠ 0 then V.refC b.length V.room else M.layC (frameM V.parts.length b)
def AW.appV (V : AW) (M : AD) (b : List Int) : AW := if V.refC b.length V.room ≠ 0 then V else if M.layC (frameM V.parts.length b) ≠ 0 then ⟨V.most, V.parts, true⟩ else ⟨V.most, V.parts ++ [b], false⟩
def AW.appD (V : AW) (M : AD) (b : List Int) : AD := if V.refC b.length V.room ≠ 0 then M else M.layM (frameM V.parts.length b)
theorem appV_ok {V : AW} (h : V.Ok) (M : AD) (b : List Int) : (V.appV M b).Ok := by
  unfold AW.appV
  split
  · exact h
  · rename_i hr
    split
    · exact ⟨h.lim, h.one, h.cost⟩
    · refine ⟨h.lim, by simp, ?_⟩
      show (costM (V.parts ++ [b]) : Int) ≤ V.most
      rw [costM_append, costM_one]
      have : fitsC b.length V.room = 0 := by
        have e : V.refC b.length V.room = 0 := by simpa using hr
        unfold AW.refC at e
        split at e
        · simp at e
        · exact e
      unfold fitsC at this
      split at this
      · simp at this
      · split at this
        · simp at this
        · rename_i h1 h2
          unfold AW.room at h2
          omega

theorem append_nilW (w : World) (A : Option Addr) (l c : Nat) : Calls Try.prog 9 #[.pointer none, .slice A l c] w fun e w' => e = .returned (.int .i64 1) ∧ Below w.heap.size w w' := by
  obtain ⟨W1, hW1⟩ : ∃ W1, W1 = (w.alloc (.cells #[.pointer none] 24)).alloc (.cells #[.slice A l c] 22) := ⟨_, rfl⟩
  have hb : Below w.heap.size w W1 := by rw [hW1]; exact ((Below.refl _ w).alloc (Nat.le_refl _) _).alloc (by simp) _
  have k1 : W1.cell? ⟨w.heap.size, 0, none⟩ = some (.pointer none) := by
    rw [hW1]
    have h1 := heap_alloc_new w (.cells #[.pointer none] 24)
    have h2 := ((Below.refl (w.alloc (.cells #[.pointer none] 24)).heap.size _).alloc (Nat.le_refl _) (.cells #[.slice A l c] 22)).block w.heap.size (by simp)
    simp only [World.cell?, h2, h1]
    rfl
  have k2 : W1.cell? ⟨w.heap.size + 1, 0, none⟩ = some (.slice A l c) := by
    rw [hW1]
    have h1 := heap_alloc_new (w.alloc (.cells #[.pointer none] 24)) (.cells #[.slice A l c] 22)
    rw [World.size_alloc] at h1
    simp only [World.cell?, h1]
    rfl
  have HW := Lib.hid hW1
  have HB := Lib.hid hb
  have HL := Lib.hid (fun q : Nat => (left_nilW (W1.drewN q)).mono (fun e w' h => (⟨h.1, h.2.symm⟩ : e = .returned (.int .i64 0) ∧ w' = W1.drewN q)))
  have HR := Lib.hid (fun q : Nat => (refuse_nil (W1.drewN q) A l c 0).mono (fun e w' h => (⟨h.1, h.2.symm⟩ : e = .returned (.int .i64 1) ∧ w' = W1.drewN q)))
  clear hW1 hb
  go_enter Try.func9, Try.ntmps9
  go_upto_region 1 with fail
  rw [← HW.out]
  go_quiet ((first | (go_at_call 15; with_reducible refine Calls.quiet_of_same (HL.out _)) | (go_at_call 38; with_reducible refine Calls.quiet_of_same (HR.out _))))
  go_wp2
  go_ret
  exact ⟨rfl, below_drewN HB.out _⟩

theorem walA_u8 (V : AW) (A : Option Addr) (c d : Nat) (x : Int) (i : Nat) : (walA V A c d)[i]? ≠ some (.int .u8 x) := by
  intro h
  rcases i with _ | _ | _ | _ | i <;> simp at h
theorem WalIn.odd {w : World} {T : Nat → Prop} {g d : Nat} {V : AW} {A : Option Addr} {c : Nat} {vs : List Value} (h : WalIn w T g d V A c vs) : ∀ o z, w.cell? ⟨g, o, none⟩ ≠ some (.int .u8 z) := fun o z => by
  simp only [World.cell?, h.box]
  exact walA_u8 V A c d z o
/-- The log's own cells are written to: its rows lie as they lay. -/
theorem WalIn.put {w w' : World} {T : Nat → Prop} {g d : Nat} {V : AW} {A : Option Addr} {c : Nat} {vs : List Value} (h : WalIn w T g d V A c vs) (hb : ∀ k, k ≠ g → w'.heap[k]? = w.heap[k]?) : PartsAt w' T A c V.parts vs := by
  have hneW : (63 : TypeId) ≠ 22 := by decide
  have hneU : (5 : TypeId) ≠ 63 := by decide
  refine ⟨row_same h.parts.row fun k hk => hb k (fun e => ?_), fun i p hp => ?_, h.parts.rowT⟩
  · subst e
    obtain ⟨cur, hc⟩ := own_block h.parts.row hk
    rw [h.box] at hc
    simp at hc
    try exact hneW hc.2
  · obtain ⟨B, cb, h1, h2, h3, h4⟩ := h.parts.each i p hp
    refine ⟨B, cb, h1, row_same h2 fun k hk => hb k (fun e => ?_), h3, h4⟩
    subst e
    obtain ⟨cur, hc⟩ := own_block h2 hk
    rw [h.box] at hc
    simp at hc
    try exact hneU hc.2.symm
theorem WalIn.mark {w : World} {T : Nat → Prop} {g d : Nat} {V : AW} {A : Option Addr} {c : Nat} {vs : List Value} (h : WalIn w T g d V A c vs) (bb : Bool) : WalIn (w.setCell ⟨g, 3, none⟩ (.bool bb)) T g d ⟨V.most, V.parts, bb⟩ A c vs := by
  refine ⟨?_, h.put fun k hk => Below.heap_setCell _ _ _ _ hk, h.inT, fun k hk => by have := h.low k hk; simpa [World.setCell] using this⟩
  have := heap_set h.box 3 (.bool bb)
  exact this

set_option maxHeartbeats 4000000 in
theorem append_anyW {w : World} {S T : Nat → Prop} {g d : Nat} {V : AW} {M : AD} (h : Log w S T g d V M) (hops : M.ops < 4611686018427387000) {A : Option Addr} {l c : Nat} {b : List Int} (hl : b.length = l) (hs : Sl w A c b) (ho : Oct b) (hb : b.length ≤ 100000)
    (hA : ∀ k, blk A = some k → ¬ S k) :
    Calls Try.prog 9 #[.pointer (some ⟨g, 0, none⟩), .slice A l c] w fun e w' => e = .returned (.int .i64 (V.appC M b)) ∧ ∃ S' T', Log w' S' T' g d (V.appV M b) (V.appD M b) ∧ Moved S T S' T' w w' := by
  obtain ⟨W1, hW1⟩ : ∃ W1, W1 = (w.alloc (.cells #[.pointer (some ⟨g, 0, none⟩)] 24)).alloc (.cells #[.slice A l c] 22) := ⟨_, rfl⟩
  have hb1 : Below w.heap.size w W1 := by rw [hW1]; exact ((Below.refl _ w).alloc (Nat.le_refl _) _).alloc (by simp) _
  have s1 : W1.heap.size = w.heap.size + 2 := by rw [hW1]; simp
  have k1 : W1.cell? ⟨w.heap.size, 0, none⟩ = some (.pointer (some ⟨g, 0, none⟩)) := by
    rw [hW1]
    have h1 := heap_alloc_new w (.cells #[.pointer (some ⟨g, 0, none⟩)] 24)
    have h2 := ((Below.refl (w.alloc (.cells #[.pointer (some ⟨g, 0, none⟩)] 24)).heap.size _).alloc (Nat.le_refl _) (.cells #[.slice A l c] 22)).block w.heap.size (by simp)
    simp only [World.cell?, h2, h1]
    rfl
  have k2 : W1.cell? ⟨w.heap.size + 1, 0, none⟩ = some (.slice A l c) := by
    rw [hW1]
    have h1 := heap_alloc_new (w.alloc (.cells #[.pointer (some ⟨g, 0, none⟩)] 24)) (.cells #[.slice A l c] 22)
    rw [World.size_alloc] at h1
    simp only [World.cell?, h1]
    rfl
  have H := Lib.hid h
  have HW := Lib.hid hW1
  have HB1 := Lib.hid hb1
  have HK := Lib.hid (And.intro k1 k2)
  have HSZ := Lib.hid s1
  have HLW := Lib.hid (show ∀ k, S k ∨ T k → k < w.heap.size from fun k hk => hk.elim (fun e => h.disk.low e) (fun e => h.wal.low e))
  have HS := Lib.hid (hs.below hb1)
  have HX := Lib.hid (And.intro ho (And.intro hb hl))
  have hsm := h.ok.small
  have keep : Hid (∀ W, Below W1.heap.size W1 W → W.cell? ⟨w.heap.size, 0, none⟩ = some (.pointer (some ⟨g, 0, none⟩)) ∧ W.cell? ⟨w.heap.size + 1, 0, none⟩ = some (.slice A l c)) := fun W hW =>
    ⟨(hW.cell (p := ⟨w.heap.size, 0, none⟩) (by simp; omega)).trans k1, (hW.cell (p := ⟨w.heap.size + 1, 0, none⟩) (by simp; omega)).trans k2⟩
  have HLF := Lib.hid (left_any' (w := W1.drew) ((h.wal.later hb1).later (below_drewN (Below.refl _ _) 1)) h.ok.lim (by omega))
  obtain ⟨room, hroom⟩ : ∃ room, room = V.room := ⟨_, rfl⟩
  have HRO := Lib.hid (show V.most - (costM V.parts : Int) = room by rw [hroom]; rfl)
  obtain ⟨rc, hrc⟩ : ∃ rc, rc = V.refC l room := ⟨_, rfl⟩
  have HRF := Lib.hid (fun (W : World) (hW : Below W1.heap.size W1 W) => refuse_any ((h.wal.later hb1).later hW) A l c room (by rw [← hl]; omega))
  rw [← hrc] at HRF
  have HRC := Lib.hid (show V.refC b.length V.room = rc by rw [hrc, hroom, hl])
  clear h hW1 hb1 k1 k2 s1 hs ho hb hl hroom hrc
  rw [HRO.out] at HLF
  go_enter Try.func9, Try.ntmps9
  go_upto_region 1 with fail
  rw [← HW.out]
  have k0 := keep.out W1.drew (below_drewN (Below.refl _ _) 1)
  go_cut [5] from 7 to 11 (fun s5 wx => s5 = .int .i64 rc ∧ Hid (Below W1.heap.size W1 wx))
  case first =>
    go_region_held3 (fun W => W.cell? ⟨w.heap.size, 0, none⟩ = some (.pointer (some ⟨g, 0, none⟩)) ∧ W.cell? ⟨w.heap.size + 1, 0, none⟩ = some (.slice A l c)) (first | exact k0 | exact K2.out) (first
      | (go_at_call 15; refine HLF.out.mono ?_; rintro e w2 ⟨rfl, hb2⟩; have hb2' := (below_drewN (Below.refl W1.heap.size W1) 1).trans hb2; have HB2 := Lib.hid hb2'; have K2 := Lib.hid (keep.out _ hb2'); clear hb2 hb2')
      | (go_at_call 38; refine (HRF.out _ HB2.out).mono ?_; rintro e w3 ⟨rfl, rfl⟩))
    all_goals (
      go_wp2_with fail
      go_meet
      exact ⟨rfl, HB2⟩)
  case rest =>
    obtain ⟨rfl, HBX⟩ := hcut
    clear HLF HRF k0
    have hbx := HB1.out.trans (HBX.out.mono HB1.out.size)
    have hkx := keep.out wc HBX.out
    obtain ⟨k1, k2⟩ := hkx
    by_cases hz : rc = 0
    · have t1 : (rc != 0) = false := by simp [hz]
      have HZ := Lib.hid hz
      obtain ⟨W4, hW4⟩ : ∃ W4, W4 = wc.alloc (.cells #[.func (.func 40) #[] #[.pointer (some ⟨w.heap.size, 0, none⟩), .pointer (some ⟨w.heap.size + 1, 0, none⟩)], .func (.func 42) #[] #[.pointer (some ⟨w.heap.size, 0, none⟩)]] 66) := ⟨_, rfl⟩
      have hb4 : Below wc.heap.size wc W4 := by rw [hW4]; exact (Below.refl _ wc).alloc (Nat.le_refl _) _
      have hx4 : W4.heap[wc.heap.size]? = some (.cells #[.func (.func 40) #[] #[.pointer (some ⟨w.heap.size, 0, none⟩), .pointer (some ⟨w.heap.size + 1, 0, none⟩)], .func (.func 42) #[] #[.pointer (some ⟨w.heap.size, 0, none⟩)]] 66 (0, 0)) := by rw [hW4]; exact heap_alloc_new wc _
      have hbw4 : Below w.heap.size w W4 := hbx.trans (hb4.mono hbx.size)
      have hb14 : Below W1.heap.size W1 W4 := HBX.out.trans (hb4.mono HBX.out.size)
      have hk4 := keep.out W4 hb14
      have hwc := HBX.out.size
      have hsz := HSZ.out
      have hwal4 := H.out.wal.later hbw4
      have hdsk4 := H.out.disk.later hbw4
      have hsl4 := HS.out.below hb14
      have hg0 := H.out.wal.low H.out.wal.inT
      have hlay := layW_any (g := g) (lays_any hwal4 hdsk4 H.out.sep hops ⟨fun e => by have := HLW.out _ (.inl e); omega, fun e => by have := HLW.out _ (.inl e); omega, fun e => by have := HLW.out _ (.inl e); omega⟩ hk4.1 HX.out.2.2 hk4.2 hsl4 HX.out.1 HX.out.2.1 (by omega) hA hx4) (fun w' ha => by
        obtain ⟨A5, c5, vs5, h5⟩ := hwal4.other ha.2 H.out.sep
        exact ⟨⟨_, h5.c3⟩, h5.fz 3⟩)
      obtain ⟨cc, hcc⟩ : ∃ cc, cc = M.layC (frameM V.parts.length b) := ⟨_, rfl⟩
      have HCC := Lib.hid hcc
      rw [← hcc] at hlay
      have HLAY := Lib.hid hlay
      have HW4 := Lib.hid hW4
      have HK4 := Lib.hid hk4
      have HWL := Lib.hid hwal4
      have HSL := Lib.hid hsl4
      have HBW := Lib.hid hbw4
      have HDK := Lib.hid hdsk4
      have HSZ4 := Lib.hid (show w.heap.size + 2 ≤ W4.heap.size by have := hb14.size; omega)
      clear hz hW4 hb4 hx4 hbw4 hb14 hk4 hwal4 hdsk4 hsl4 hlay hcc hbx
      go_upto_region 5 with (go_at_call 39; rw [← HW4.out]; refine HLAY.out.mono ?_; rintro e w6 ⟨rfl, w5, ha5, rfl⟩; have HA5 := Lib.hid ha5; clear ha5)
      refine name_world (fun X => ∃ A1 c1 vs, WalIn X T g d ⟨V.most, V.parts, !decide (cc = 0)⟩ A1 c1 vs ∧ DiskAt X (grew S W4 w5) d (M.layM (frameM V.parts.length b)) ∧ Turn (fun k => S k ∨ T k) w X ∧ (∀ k, grew S W4 w5 k → k < X.heap.size) ∧ W4.heap.size ≤ X.heap.size ∧ X.cell? ⟨w.heap.size, 0, none⟩ = some (.pointer (some ⟨g, 0, none⟩)) ∧ X.cell? ⟨w.heap.size + 1, 0, none⟩ = some (.slice A l c) ∧ Sl X A c b) (by
        obtain ⟨A5, c5, vs5, h5⟩ := HWL.out.other HA5.out.2 H.out.sep
        have hts : Turn (fun k => k = g) w5 (w5.setCell ⟨g, 3, none⟩ (.bool (!decide (cc = 0)))) := ⟨rfl, rfl, rfl, by simp [World.setCell], fun k hk hn => Below.heap_setCell _ _ _ _ hn⟩
        have hgl := HWL.out.low H.out.wal.inT
        have hgS : ∀ k, grew S W4 w5 k → ¬ k = g := fun k hk e => by
          subst e
          rcases hk with e | e
          · exact H.out.sep _ H.out.wal.inT e
          · omega
        have hpS : ¬ S w.heap.size := fun e => by have := HLW.out _ (.inl e); omega
        have hqS : ¬ S (w.heap.size + 1) := fun e => by have := HLW.out _ (.inl e); omega
        have hgw := H.out.wal.low H.out.wal.inT
        refine ⟨A5, c5, vs5, h5.mark _, HA5.out.1.other hts hgS, ((Turn.of_below (S := fun k => S k ∨ T k) HBW.out).trans HA5.out.2 (fun k e => .inl (.inl e))).trans hts (fun k e => .inl (.inr (by have e : k = g := e; rw [e]; exact H.out.wal.inT))), fun k hk => ?_, ?_, ?_, ?_, ?_⟩
        · have := HA5.out.1.low hk
          simpa [World.setCell] using this
        · have := HA5.out.2.size
          simpa [World.setCell] using this
        · exact turn_cell hts (by show ¬ w.heap.size = g; omega) (turn_cell HA5.out.2 hpS HK4.out.1)
        · exact turn_cell hts (by show ¬ w.heap.size + 1 = g; omega) (turn_cell HA5.out.2 hqS HK4.out.2)
        · exact (HSL.out.turn HA5.out.2 hA).only (g := g) ⟨rfl, rfl, rfl, by simp [World.setCell], fun k hk hn => Below.heap_setCell _ _ _ _ (by simpa using hn)⟩ h5.odd) ?_
      rintro X ⟨A1, c1, vs, hX, hdX, htX, hlX, hsX, kp, kq, slX⟩
      have HX1 := Lib.hid hX
      have HDX := Lib.hid hdX
      have HTX := Lib.hid htX
      have HLX := Lib.hid hlX
      have HKP := Lib.hid (And.intro kp kq)
      have HSX := Lib.hid slX
      have HMS := Lib.hid (show ∀ k, T k → ¬ grew S W4 w5 k from fun k hk e => by
        rcases e with e | e
        · exact H.out.sep _ hk e
        · have h1 := HLW.out k (.inr hk); have h2 := HSZ4.out; omega)
      have HMG := Lib.hid (show ∀ k, grew S W4 w5 k → S k ∨ w.heap.size ≤ k from fun k e => by
        rcases e with e | e
        · exact .inl e
        · have h2 := HSZ4.out; exact .inr (by omega))
      have hXs : Hid (w.heap.size + 2 ≤ X.heap.size) := by unfold Hid; have h2 := HSZ4.out; omega
      clear hX hdX htX hlX slX kp kq hsX HA5 HLAY HWL HSL HDK HBW HK4
      by_cases hc0 : cc = 0
      · have t2 : (cc == 0) = true := by simp [hc0]
        have HC0 := Lib.hid hc0
        have e1 : V.appC M b = cc := by unfold AW.appC; rw [HRC.out, if_neg (by rw [HZ.out]; simp), ← HCC.out]
        have e2 : V.appV M b = ⟨V.most, V.parts ++ [b], false⟩ := by unfold AW.appV; rw [HRC.out, if_neg (by rw [HZ.out]; simp), ← HCC.out, if_neg (by rw [HC0.out]; simp)]
        have e3 : V.appD M b = M.layM (frameM V.parts.length b) := by unfold AW.appD; rw [HRC.out, if_neg (by rw [HZ.out]; simp)]
        have hok : (⟨V.most, V.parts ++ [b], false⟩ : AW).Ok := by rw [← e2]; exact appV_ok H.out.ok M b
        have hin := HX1.out
        rw [show (!decide (cc = 0)) = false by simp [hc0]] at hin
        have HIN := Lib.hid hin
        have HE := Lib.hid (And.intro e1 (And.intro e2 e3))
        have HOK := Lib.hid hok
        obtain ⟨n, hn⟩ : ∃ n, n = V.parts.length := ⟨_, rfl⟩
        have HN := Lib.hid hn
        have hnb : n ≤ 16000 := by rw [hn]; exact hsm.2
        have HCL := Lib.hid (fun (W : World) (hW : Below X.heap.size X W) => (show Calls Try.prog 43 #[.slice A l c] W fun e w' => ∃ A3 c3, e = .returned (.slice A3 l c3) ∧ w'.ownsRow W.heap.size 5 1 (.slice A3 l c3) l (b.map (Value.int .u8)) ∧ Below W.heap.size W w' from by
          have hk := clone_b A c b W (HSX.out.below hW) (by have := HX.out.2.1; omega)
          unfold GivesB New at hk
          rw [HX.out.2.2] at hk
          exact hk))
        clear hc0 e1 e2 e3 hok hin hn
        go_upto_region 6 with fail
        have hbd : Below X.heap.size X X.drew := below_drewN (Below.refl _ _) 1
        have cg0 := (HIN.out.later hbd).c1
        dsimp only at cg0
        rw [← HN.out] at cg0
        have kk : Hid (∀ W, Below X.heap.size X W → W.cell? ⟨w.heap.size, 0, none⟩ = some (.pointer (some ⟨g, 0, none⟩)) ∧ W.cell? ⟨w.heap.size + 1, 0, none⟩ = some (.slice A l c)) := fun W hW =>
          ⟨(hW.cell (p := ⟨w.heap.size, 0, none⟩) (by simp; have := hXs.out; omega)).trans HKP.out.1, (hW.cell (p := ⟨w.heap.size + 1, 0, none⟩) (by simp; have := hXs.out; omega)).trans HKP.out.2⟩
        refine wp_region_held_drew (S := fun W => W.cell? ⟨w.heap.size, 0, none⟩ = some (.pointer (some ⟨g, 0, none⟩)) ∧ W.cell? ⟨w.heap.size + 1, 0, none⟩ = some (.slice A l c)) (by kernel_rfl) (kk.out _ hbd) (fun hS => ?_)
        refine wpAnyH_take (i := 0) rfl (by kernel_rfl) (by kernel_rfl) (by kernel_rfl) (fun _ _ _ h => h) (Or.inl ⟨by rfl, fun W h => by have h1 := h.1; have h2 := h.2; clear h; go_simp; rfl⟩) hS ?_
        try simp only [List.getElem_toArray, List.getElem_cons_zero, List.getElem_cons_succ, Act.put, List.setIfInBounds_toArray, List.set_cons_zero, List.set_cons_succ]
        refine wpAnyH_take (i := 1) rfl (by kernel_rfl) (by kernel_rfl) (by kernel_rfl) (fun _ _ _ h => h) (Or.inl ⟨by rfl, fun W h => by have h1 := h.1; have h2 := h.2; clear h; go_simp; rfl⟩) hS ?_
        try simp only [List.getElem_toArray, List.getElem_cons_zero, List.getElem_cons_succ, Act.put, List.setIfInBounds_toArray, List.set_cons_zero, List.set_cons_succ]
        refine wpAnyH_take (i := 2) rfl (by kernel_rfl) (by kernel_rfl) (by kernel_rfl) (fun _ _ _ h => h) (Or.inl ⟨by rfl, fun W h => by have h1 := h.1; have h2 := h.2; clear h; go_simp; rfl⟩) hS ?_
        try simp only [List.getElem_toArray, List.getElem_cons_zero, List.getElem_cons_succ, Act.put, List.setIfInBounds_toArray, List.set_cons_zero, List.set_cons_succ]
        refine wpAnyH_take (i := 3) rfl (by kernel_rfl) (by kernel_rfl) (by kernel_rfl) (fun _ _ _ h => h) (Or.inl ⟨by rfl, fun W h => by have h1 := h.1; have h2 := h.2; clear h; go_simp; rfl⟩) hS ?_
        try simp only [List.getElem_toArray, List.getElem_cons_zero, List.getElem_cons_succ, Act.put, List.setIfInBounds_toArray, List.set_cons_zero, List.set_cons_succ]
        refine wpAnyH_take (i := 4) rfl (by kernel_rfl) (by kernel_rfl) (by kernel_rfl) (fun _ _ _ h => h) (Or.inl ⟨by rfl, fun W h => by have h1 := h.1; have h2 := h.2; clear h; go_simp; rfl⟩) hS ?_
        try simp only [List.getElem_toArray, List.getElem_cons_zero, List.getElem_cons_succ, Act.put, List.setIfInBounds_toArray, List.set_cons_zero, List.set_cons_succ]
        refine wpAnyH_take (i := 6) rfl (by kernel_rfl) (by kernel_rfl) (by kernel_rfl) (fun _ _ _ h => h) (Or.inl ⟨by rfl, fun W h => by have h1 := h.1; have h2 := h.2; clear h; go_simp; rfl⟩) hS ?_
        try simp only [List.getElem_toArray, List.getElem_cons_zero, List.getElem_cons_succ, Act.put, List.setIfInBounds_toArray, List.set_cons_zero, List.set_cons_succ]
        refine wpAnyH_ready (rs := [5, 7]) (by kernel_rfl) (by simp) ?_
        refine AllReadyH.cons rfl (fun K' hK => ?_) (AllReadyH.cons rfl (fun K' hK => ?_) AllReadyH.nil)
        · rw [if_pos (by rfl)]
          have cgl := cg0
          go_simp
          refine hK.out _ _ hS (fun hS => ?_)
          clear hK cgl
          try simp only [List.getElem_toArray, List.getElem_cons_zero, List.getElem_cons_succ, Act.put, List.setIfInBounds_toArray, List.set_cons_zero, List.set_cons_succ]
          refine wpAnyH_ready (rs := [7]) (by kernel_rfl) (by simp) ?_
          refine AllReadyH.cons rfl (fun K' hK => ?_) AllReadyH.nil
          rw [if_pos (by rfl)]
          go_simp
          go_at_call 43
          refine (HCL.out _ hbd).mono ?_
          rintro e wC ⟨A3, c3, rfl, hnC, hbC0⟩
          change K' _ _
          have hbC : Below X.heap.size X wC := hbd.trans hbC0
          refine hK.out _ _ (kk.out _ hbC) (fun hS => ?_)
          clear hK K'
          try simp only [List.getElem_toArray, List.getElem_cons_zero, List.getElem_cons_succ, Act.put, List.setIfInBounds_toArray, List.set_cons_zero, List.set_cons_succ]
          have cg1 := (HIN.out.later hbC).c1
          dsimp only at cg1
          rw [← HN.out] at cg1
          refine wpAnyH_ready (rs := [8]) (by kernel_rfl) (by simp) ?_
          refine AllReadyH.cons rfl (fun K' hK => ?_) AllReadyH.nil
          rw [if_pos (by rfl)]
          go_simp
          have hbD : Below X.heap.size X (wC.alloc (.cells #[.slice A3 l c3] 22)) := hbC.alloc hbC.size _
          refine hK.out _ _ (kk.out _ hbD) (fun hS => ?_)
          clear hK K'
          try simp only [List.getElem_toArray, List.getElem_cons_zero, List.getElem_cons_succ, Act.put, List.setIfInBounds_toArray, List.set_cons_zero, List.set_cons_succ]
          have cg2 := (HIN.out.later hbD).c1
          dsimp only at cg2
          rw [← HN.out] at cg2
          refine wpAnyH_ready (rs := [9]) (by kernel_rfl) (by simp) ?_
          refine AllReadyH.cons rfl (fun K' hK => ?_) AllReadyH.nil
          have hrow := (HIN.out.later hbD).parts.row
          dsimp only at hrow
          rw [← HN.out] at hrow
          refine step_rows (by rfl) _ _ (by rfl) A1 c1 n vs (by rfl) hrow wC.heap.size (.slice A3 l c3) (by rfl) (by have hx9 := heap_alloc_new wC (.cells #[.slice A3 l c3] 22); simp only [World.cell?, hx9]; rfl) (by rfl) (by omega) ?_
          intro A4 c4 w7 hr7 hg7 hl7
          have hpq : ∀ i, i < X.heap.size → blk A1 ≠ some i → w7.heap[i]? = X.heap[i]? := fun i hi hn => (hg7.block i (Nat.lt_of_lt_of_le hi hbD.size) (fun e => hn e.symm)).trans (hbD.block i hi)
          have hrt := HIN.out.parts.rowT
          have hgl := HIN.out.low g HIN.out.inT
          have hTl := HLW.out
          have kp7 : w7.cell? ⟨w.heap.size, 0, none⟩ = some (.pointer (some ⟨g, 0, none⟩)) := by
            have := hpq w.heap.size (by have := hXs.out; omega) (fun e => by have := hTl _ (.inr (hrt _ e)); omega)
            have h9 := HKP.out.1
            simp only [World.cell?] at h9 ⊢
            rw [this]; exact h9
          have kq7 : w7.cell? ⟨w.heap.size + 1, 0, none⟩ = some (.slice A l c) := by
            have := hpq (w.heap.size + 1) (by have := hXs.out; omega) (fun e => by have := hTl _ (.inr (hrt _ e)); omega)
            have h9 := HKP.out.2
            simp only [World.cell?] at h9 ⊢
            rw [this]; exact h9
          have hgA : blk A1 ≠ some g := fun e => by
            obtain ⟨cur, hc⟩ := own_block HIN.out.parts.row e
            rw [HIN.out.box] at hc
            simp at hc
          have hbx7 := (hpq g hgl hgA).trans HIN.out.box
          have cg7 : w7.cell? ⟨g, 1, none⟩ = some (.slice A1 n c1) := by simp only [World.cell?, hbx7]; rw [HN.out]; rfl
          have fz7 : w7.frozen? ⟨g, 1, none⟩ = false := by simp [World.frozen?, hbx7]
          refine hK.out _ _ ⟨kp7, kq7⟩ (fun hS => ?_)
          clear hK K'
          try simp only [List.getElem_toArray, List.getElem_cons_zero, List.getElem_cons_succ, Act.put, List.setIfInBounds_toArray, List.set_cons_zero, List.set_cons_succ]
          refine wpAnyH_take (i := 10) rfl (by kernel_rfl) (by kernel_rfl) (by kernel_rfl) (fun _ _ _ h => h) (Or.inl ⟨by rfl, fun W h => by have h1 := h.1; have h2 := h.2; clear h; go_simp; rfl⟩) hS ?_
          try simp only [List.getElem_toArray, List.getElem_cons_zero, List.getElem_cons_succ, Act.put, List.setIfInBounds_toArray, List.set_cons_zero, List.set_cons_succ]
          refine wpAnyH_take (i := 11) rfl (by kernel_rfl) (by kernel_rfl) (by kernel_rfl) (fun _ _ _ h => h) (Or.inl ⟨by rfl, fun W h => by have h1 := h.1; have h2 := h.2; clear h; go_simp; rfl⟩) hS ?_
          try simp only [List.getElem_toArray, List.getElem_cons_zero, List.getElem_cons_succ, Act.put, List.setIfInBounds_toArray, List.set_cons_zero, List.set_cons_succ]
          refine wpAnyH_take (i := 12) rfl (by kernel_rfl) (by kernel_rfl) (by kernel_rfl) (fun _ _ _ h => h) (Or.inl ⟨by rfl, fun W h => by have h1 := h.1; have h2 := h.2; clear h; go_simp; rfl⟩) hS ?_
          try simp only [List.getElem_toArray, List.getElem_cons_zero, List.getElem_cons_succ, Act.put, List.setIfInBounds_toArray, List.set_cons_zero, List.set_cons_succ]
          refine wpAnyH_ready (rs := [13]) (by kernel_rfl) (by simp) ?_
          refine AllReadyH.cons rfl (fun K' hK => ?_) AllReadyH.nil
          rw [if_pos (by rfl)]
          go_simp
          have hnC' : wC.ownsRow X.heap.size 5 1 (.slice A3 b.length c3) b.length (b.map (Value.int .u8)) := by rw [HX.out.2.2]; exact hnC
          have hmore := HIN.out.more (W := wC.alloc (.cells #[.slice A3 l c3] 22)) (W2 := w7) HX.out.1 hbD (row_later hnC' ((Below.refl _ wC).alloc (Nat.le_refl _) _)) (A2 := A4) (c2 := c4) (by dsimp only; rw [HX.out.2.2, ← HN.out]; exact hr7) hg7 hl7
          dsimp only at hmore
          rw [← HN.out] at hmore
          have hgs : g < w.heap.size := hTl _ (.inr HIN.out.inT)
          refine hK.out _ _ ⟨put_cell (by omega) kp7, put_cell (by omega) kq7⟩ (fun hS => ?_)
          clear hK K'
          try simp only [List.getElem_toArray, List.getElem_cons_zero, List.getElem_cons_succ, Act.put, List.setIfInBounds_toArray, List.set_cons_zero, List.set_cons_succ]
          refine wpAnyH_done (by kernel_rfl) ?_ _
          have HMORE := Lib.hid hmore
          clear hmore cg7 fz7 hbx7 kp7 kq7 hr7 hg7 hl7
          generalize w7.setCell ⟨g, 1, none⟩ (.slice A4 (n + 1) c4) = WZ at *
          go_wp2
          go_ret
          rw [HE.out.1, HE.out.2.1, HE.out.2.2]
          exact ⟨rfl, grew S W4 w5, _, ⟨HMORE.out.1, HDX.out.other HMORE.out.2 (fun k hk e => HMS.out k e hk), fun k hk e => hk.elim (fun h => HMS.out k h e) (fun h => by have := HLX.out k e; omega), HOK.out⟩, ⟨HTX.out.trans HMORE.out.2 (fun i e => .inl (.inr e)), HMG.out, fun k hk => hk.imp id (fun h => by have := hXs.out; omega)⟩⟩
        · rw [if_pos (by rfl)]
          go_simp
          go_at_call 43
          refine (HCL.out _ hbd).mono ?_
          rintro e wC ⟨A3, c3, rfl, hnC, hbC0⟩
          change K' _ _
          have hbC : Below X.heap.size X wC := hbd.trans hbC0
          refine hK.out _ _ (kk.out _ hbC) (fun hS => ?_)
          clear hK K'
          try simp only [List.getElem_toArray, List.getElem_cons_zero, List.getElem_cons_succ, Act.put, List.setIfInBounds_toArray, List.set_cons_zero, List.set_cons_succ]
          have cg1 := (HIN.out.later hbC).c1
          dsimp only at cg1
          rw [← HN.out] at cg1
          refine wpAnyH_ready (rs := [5, 8]) (by kernel_rfl) (by simp) ?_
          refine AllReadyH.cons rfl (fun K' hK => ?_) (AllReadyH.cons rfl (fun K' hK => ?_) AllReadyH.nil)
          · rw [if_pos (by rfl)]
            have cgl := cg1
            go_simp
            refine hK.out _ _ hS (fun hS => ?_)
            clear hK cgl
            try simp only [List.getElem_toArray, List.getElem_cons_zero, List.getElem_cons_succ, Act.put, List.setIfInBounds_toArray, List.set_cons_zero, List.set_cons_succ]
            refine wpAnyH_ready (rs := [8]) (by kernel_rfl) (by simp) ?_
            refine AllReadyH.cons rfl (fun K' hK => ?_) AllReadyH.nil
            rw [if_pos (by rfl)]
            go_simp
            have hbD : Below X.heap.size X (wC.alloc (.cells #[.slice A3 l c3] 22)) := hbC.alloc hbC.size _
            refine hK.out _ _ (kk.out _ hbD) (fun hS => ?_)
            clear hK K'
            try simp only [List.getElem_toArray, List.getElem_cons_zero, List.getElem_cons_succ, Act.put, List.setIfInBounds_toArray, List.set_cons_zero, List.set_cons_succ]
            have cg2 := (HIN.out.later hbD).c1
            dsimp only at cg2
            rw [← HN.out] at cg2
            refine wpAnyH_ready (rs := [9]) (by kernel_rfl) (by simp) ?_
            refine AllReadyH.cons rfl (fun K' hK => ?_) AllReadyH.nil
            have hrow := (HIN.out.later hbD).parts.row
            dsimp only at hrow
            rw [← HN.out] at hrow
            refine step_rows (by rfl) _ _ (by rfl) A1 c1 n vs (by rfl) hrow wC.heap.size (.slice A3 l c3) (by rfl) (by have hx9 := heap_alloc_new wC (.cells #[.slice A3 l c3] 22); simp only [World.cell?, hx9]; rfl) (by rfl) (by omega) ?_
            intro A4 c4 w7 hr7 hg7 hl7
            have hpq : ∀ i, i < X.heap.size → blk A1 ≠ some i → w7.heap[i]? = X.heap[i]? := fun i hi hn => (hg7.block i (Nat.lt_of_lt_of_le hi hbD.size) (fun e => hn e.symm)).trans (hbD.block i hi)
            have hrt := HIN.out.parts.rowT
            have hgl := HIN.out.low g HIN.out.inT
            have hTl := HLW.out
            have kp7 : w7.cell? ⟨w.heap.size, 0, none⟩ = some (.pointer (some ⟨g, 0, none⟩)) := by
              have := hpq w.heap.size (by have := hXs.out; omega) (fun e => by have := hTl _ (.inr (hrt _ e)); omega)
              have h9 := HKP.out.1
              simp only [World.cell?] at h9 ⊢
              rw [this]; exact h9
            have kq7 : w7.cell? ⟨w.heap.size + 1, 0, none⟩ = some (.slice A l c) := by
              have := hpq (w.heap.size + 1) (by have := hXs.out; omega) (fun e => by have := hTl _ (.inr (hrt _ e)); omega)
              have h9 := HKP.out.2
              simp only [World.cell?] at h9 ⊢
              rw [this]; exact h9
            have hgA : blk A1 ≠ some g := fun e => by
              obtain ⟨cur, hc⟩ := own_block HIN.out.parts.row e
              rw [HIN.out.box] at hc
              simp at hc
            have hbx7 := (hpq g hgl hgA).trans HIN.out.box
            have cg7 : w7.cell? ⟨g, 1, none⟩ = some (.slice A1 n c1) := by simp only [World.cell?, hbx7]; rw [HN.out]; rfl
            have fz7 : w7.frozen? ⟨g, 1, none⟩ = false := by simp [World.frozen?, hbx7]
            refine hK.out _ _ ⟨kp7, kq7⟩ (fun hS => ?_)
            clear hK K'
            try simp only [List.getElem_toArray, List.getElem_cons_zero, List.getElem_cons_succ, Act.put, List.setIfInBounds_toArray, List.set_cons_zero, List.set_cons_succ]
            refine wpAnyH_take (i := 10) rfl (by kernel_rfl) (by kernel_rfl) (by kernel_rfl) (fun _ _ _ h => h) (Or.inl ⟨by rfl, fun W h => by have h1 := h.1; have h2 := h.2; clear h; go_simp; rfl⟩) hS ?_
            try simp only [List.getElem_toArray, List.getElem_cons_zero, List.getElem_cons_succ, Act.put, List.setIfInBounds_toArray, List.set_cons_zero, List.set_cons_succ]
            refine wpAnyH_take (i := 11) rfl (by kernel_rfl) (by kernel_rfl) (by kernel_rfl) (fun _ _ _ h => h) (Or.inl ⟨by rfl, fun W h => by have h1 := h.1; have h2 := h.2; clear h; go_simp; rfl⟩) hS ?_
            try simp only [List.getElem_toArray, List.getElem_cons_zero, List.getElem_cons_succ, Act.put, List.setIfInBounds_toArray, List.set_cons_zero, List.set_cons_succ]
            refine wpAnyH_take (i := 12) rfl (by kernel_rfl) (by kernel_rfl) (by kernel_rfl) (fun _ _ _ h => h) (Or.inl ⟨by rfl, fun W h => by have h1 := h.1; have h2 := h.2; clear h; go_simp; rfl⟩) hS ?_
            try simp only [List.getElem_toArray, List.getElem_cons_zero, List.getElem_cons_succ, Act.put, List.setIfInBounds_toArray, List.set_cons_zero, List.set_cons_succ]
            refine wpAnyH_ready (rs := [13]) (by kernel_rfl) (by simp) ?_
            refine AllReadyH.cons rfl (fun K' hK => ?_) AllReadyH.nil
            rw [if_pos (by rfl)]
            go_simp
            have hnC' : wC.ownsRow X.heap.size 5 1 (.slice A3 b.length c3) b.length (b.map (Value.int .u8)) := by rw [HX.out.2.2]; exact hnC
            have hmore := HIN.out.more (W := wC.alloc (.cells #[.slice A3 l c3] 22)) (W2 := w7) HX.out.1 hbD (row_later hnC' ((Below.refl _ wC).alloc (Nat.le_refl _) _)) (A2 := A4) (c2 := c4) (by dsimp only; rw [HX.out.2.2, ← HN.out]; exact hr7) hg7 hl7
            dsimp only at hmore
            rw [← HN.out] at hmore
            have hgs : g < w.heap.size := hTl _ (.inr HIN.out.inT)
            refine hK.out _ _ ⟨put_cell (by omega) kp7, put_cell (by omega) kq7⟩ (fun hS => ?_)
            clear hK K'
            try simp only [List.getElem_toArray, List.getElem_cons_zero, List.getElem_cons_succ, Act.put, List.setIfInBounds_toArray, List.set_cons_zero, List.set_cons_succ]
            refine wpAnyH_done (by kernel_rfl) ?_ _
            have HMORE := Lib.hid hmore
            clear hmore cg7 fz7 hbx7 kp7 kq7 hr7 hg7 hl7
            generalize w7.setCell ⟨g, 1, none⟩ (.slice A4 (n + 1) c4) = WZ at *
            go_wp2
            go_ret
            rw [HE.out.1, HE.out.2.1, HE.out.2.2]
            exact ⟨rfl, grew S W4 w5, _, ⟨HMORE.out.1, HDX.out.other HMORE.out.2 (fun k hk e => HMS.out k e hk), fun k hk e => hk.elim (fun h => HMS.out k h e) (fun h => by have := HLX.out k e; omega), HOK.out⟩, ⟨HTX.out.trans HMORE.out.2 (fun i e => .inl (.inr e)), HMG.out, fun k hk => hk.imp id (fun h => by have := hXs.out; omega)⟩⟩
          · rw [if_pos (by rfl)]
            go_simp
            have hbD : Below X.heap.size X (wC.alloc (.cells #[.slice A3 l c3] 22)) := hbC.alloc hbC.size _
            refine hK.out _ _ (kk.out _ hbD) (fun hS => ?_)
            clear hK K'
            try simp only [List.getElem_toArray, List.getElem_cons_zero, List.getElem_cons_succ, Act.put, List.setIfInBounds_toArray, List.set_cons_zero, List.set_cons_succ]
            have cg2 := (HIN.out.later hbD).c1
            dsimp only at cg2
            rw [← HN.out] at cg2
            refine wpAnyH_ready (rs := [5]) (by kernel_rfl) (by simp) ?_
            refine AllReadyH.cons rfl (fun K' hK => ?_) AllReadyH.nil
            rw [if_pos (by rfl)]
            have cgl := cg2
            go_simp
            refine hK.out _ _ hS (fun hS => ?_)
            clear hK cgl
            try simp only [List.getElem_toArray, List.getElem_cons_zero, List.getElem_cons_succ, Act.put, List.setIfInBounds_toArray, List.set_cons_zero, List.set_cons_succ]
            refine wpAnyH_ready (rs := [9]) (by kernel_rfl) (by simp) ?_
            refine AllReadyH.cons rfl (fun K' hK => ?_) AllReadyH.nil
            have hrow := (HIN.out.later hbD).parts.row
            dsimp only at hrow
            rw [← HN.out] at hrow
            refine step_rows (by rfl) _ _ (by rfl) A1 c1 n vs (by rfl) hrow wC.heap.size (.slice A3 l c3) (by rfl) (by have hx9 := heap_alloc_new wC (.cells #[.slice A3 l c3] 22); simp only [World.cell?, hx9]; rfl) (by rfl) (by omega) ?_
            intro A4 c4 w7 hr7 hg7 hl7
            have hpq : ∀ i, i < X.heap.size → blk A1 ≠ some i → w7.heap[i]? = X.heap[i]? := fun i hi hn => (hg7.block i (Nat.lt_of_lt_of_le hi hbD.size) (fun e => hn e.symm)).trans (hbD.block i hi)
            have hrt := HIN.out.parts.rowT
            have hgl := HIN.out.low g HIN.out.inT
            have hTl := HLW.out
            have kp7 : w7.cell? ⟨w.heap.size, 0, none⟩ = some (.pointer (some ⟨g, 0, none⟩)) := by
              have := hpq w.heap.size (by have := hXs.out; omega) (fun e => by have := hTl _ (.inr (hrt _ e)); omega)
              have h9 := HKP.out.1
              simp only [World.cell?] at h9 ⊢
              rw [this]; exact h9
            have kq7 : w7.cell? ⟨w.heap.size + 1, 0, none⟩ = some (.slice A l c) := by
              have := hpq (w.heap.size + 1) (by have := hXs.out; omega) (fun e => by have := hTl _ (.inr (hrt _ e)); omega)
              have h9 := HKP.out.2
              simp only [World.cell?] at h9 ⊢
              rw [this]; exact h9
            have hgA : blk A1 ≠ some g := fun e => by
              obtain ⟨cur, hc⟩ := own_block HIN.out.parts.row e
              rw [HIN.out.box] at hc
              simp at hc
            have hbx7 := (hpq g hgl hgA).trans HIN.out.box
            have cg7 : w7.cell? ⟨g, 1, none⟩ = some (.slice A1 n c1) := by simp only [World.cell?, hbx7]; rw [HN.out]; rfl
            have fz7 : w7.frozen? ⟨g, 1, none⟩ = false := by simp [World.frozen?, hbx7]
            refine hK.out _ _ ⟨kp7, kq7⟩ (fun hS => ?_)
            clear hK K'
            try simp only [List.getElem_toArray, List.getElem_cons_zero, List.getElem_cons_succ, Act.put, List.setIfInBounds_toArray, List.set_cons_zero, List.set_cons_succ]
            refine wpAnyH_take (i := 10) rfl (by kernel_rfl) (by kernel_rfl) (by kernel_rfl) (fun _ _ _ h => h) (Or.inl ⟨by rfl, fun W h => by have h1 := h.1; have h2 := h.2; clear h; go_simp; rfl⟩) hS ?_
            try simp only [List.getElem_toArray, List.getElem_cons_zero, List.getElem_cons_succ, Act.put, List.setIfInBounds_toArray, List.set_cons_zero, List.set_cons_succ]
            refine wpAnyH_take (i := 11) rfl (by kernel_rfl) (by kernel_rfl) (by kernel_rfl) (fun _ _ _ h => h) (Or.inl ⟨by rfl, fun W h => by have h1 := h.1; have h2 := h.2; clear h; go_simp; rfl⟩) hS ?_
            try simp only [List.getElem_toArray, List.getElem_cons_zero, List.getElem_cons_succ, Act.put, List.setIfInBounds_toArray, List.set_cons_zero, List.set_cons_succ]
            refine wpAnyH_take (i := 12) rfl (by kernel_rfl) (by kernel_rfl) (by kernel_rfl) (fun _ _ _ h => h) (Or.inl ⟨by rfl, fun W h => by have h1 := h.1; have h2 := h.2; clear h; go_simp; rfl⟩) hS ?_
            try simp only [List.getElem_toArray, List.getElem_cons_zero, List.getElem_cons_succ, Act.put, List.setIfInBounds_toArray, List.set_cons_zero, List.set_cons_succ]
            refine wpAnyH_ready (rs := [13]) (by kernel_rfl) (by simp) ?_
            refine AllReadyH.cons rfl (fun K' hK => ?_) AllReadyH.nil
            rw [if_pos (by rfl)]
            go_simp
            have hnC' : wC.ownsRow X.heap.size 5 1 (.slice A3 b.length c3) b.length (b.map (Value.int .u8)) := by rw [HX.out.2.2]; exact hnC
            have hmore := HIN.out.more (W := wC.alloc (.cells #[.slice A3 l c3] 22)) (W2 := w7) HX.out.1 hbD (row_later hnC' ((Below.refl _ wC).alloc (Nat.le_refl _) _)) (A2 := A4) (c2 := c4) (by dsimp only; rw [HX.out.2.2, ← HN.out]; exact hr7) hg7 hl7
            dsimp only at hmore
            rw [← HN.out] at hmore
            have hgs : g < w.heap.size := hTl _ (.inr HIN.out.inT)
            refine hK.out _ _ ⟨put_cell (by omega) kp7, put_cell (by omega) kq7⟩ (fun hS => ?_)
            clear hK K'
            try simp only [List.getElem_toArray, List.getElem_cons_zero, List.getElem_cons_succ, Act.put, List.setIfInBounds_toArray, List.set_cons_zero, List.set_cons_succ]
            refine wpAnyH_done (by kernel_rfl) ?_ _
            have HMORE := Lib.hid hmore
            clear hmore cg7 fz7 hbx7 kp7 kq7 hr7 hg7 hl7
            generalize w7.setCell ⟨g, 1, none⟩ (.slice A4 (n + 1) c4) = WZ at *
            go_wp2
            go_ret
            rw [HE.out.1, HE.out.2.1, HE.out.2.2]
            exact ⟨rfl, grew S W4 w5, _, ⟨HMORE.out.1, HDX.out.other HMORE.out.2 (fun k hk e => HMS.out k e hk), fun k hk e => hk.elim (fun h => HMS.out k h e) (fun h => by have := HLX.out k e; omega), HOK.out⟩, ⟨HTX.out.trans HMORE.out.2 (fun i e => .inl (.inr e)), HMG.out, fun k hk => hk.imp id (fun h => by have := hXs.out; omega)⟩⟩
      · have t2 : (cc == 0) = false := by simp [hc0]
        have HC0 := Lib.hid hc0
        have hin := HX1.out
        rw [show (!decide (cc = 0)) = true by simp [hc0]] at hin
        have e1 : V.appC M b = cc := by unfold AW.appC; rw [HRC.out, if_neg (by rw [HZ.out]; simp), ← HCC.out]
        have e2 : V.appV M b = ⟨V.most, V.parts, true⟩ := by unfold AW.appV; rw [HRC.out, if_neg (by rw [HZ.out]; simp), ← HCC.out, if_pos HC0.out]
        have e3 : V.appD M b = M.layM (frameM V.parts.length b) := by unfold AW.appD; rw [HRC.out, if_neg (by rw [HZ.out]; simp)]
        have HEE := Lib.hid (And.intro e1 (And.intro e2 e3))
        have HE := Lib.hid (show (⟨V.most, V.parts, true⟩ : AW).Ok from ⟨H.out.ok.lim, H.out.ok.one, H.out.ok.cost⟩)
        have HIN := Lib.hid hin
        clear hc0 e1 e2 e3 hin
        go_wp2
        go_ret
        rw [HEE.out.1, HEE.out.2.1, HEE.out.2.2]
        exact ⟨rfl, grew S W4 w5, T, ⟨⟨_, _, _, HIN.out⟩, HDX.out, HMS.out, HE.out⟩, ⟨HTX.out, HMG.out, fun k hk => .inl hk⟩⟩
    · have t1 : (rc != 0) = true := by simp [hz]
      have HZ := Lib.hid hz
      have HBB := Lib.hid hbx
      clear hz hbx
      go_wp2
      go_ret
      have e1 : V.appC M b = rc := by unfold AW.appC; rw [HRC.out, if_pos HZ.out]
      have e2 : V.appV M b = V := by unfold AW.appV; rw [HRC.out, if_pos HZ.out]
      have e3 : V.appD M b = M := by unfold AW.appD; rw [HRC.out, if_pos HZ.out]
      rw [e1, e2, e3]
      exact ⟨rfl, S, T, ⟨H.out.wal.later HBB.out, H.out.disk.later HBB.out, H.out.sep, H.out.ok⟩, ⟨Turn.of_below HBB.out, fun k hk => .inl hk, fun k hk => .inl hk⟩⟩

end Go.Proofs.Ytienabfilnpieaa
