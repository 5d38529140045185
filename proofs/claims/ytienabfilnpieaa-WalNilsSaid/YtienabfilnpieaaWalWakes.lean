/-
  The law's own wakes and some; what nothing answers.
-/
import Derived.Test.YtienabfilnpieaaWalAppend
namespace Go.Proofs.Ytienabfilnpieaa
open Go.RowKit
set_option linter.unusedVariables false
set_option maxRecDepth 100000

theorem open_nilW (w : World) : Calls Try.prog 8 #[.pointer none] w fun e w' => e = .returned (.tuple #[.pointer none, .int .i64 1]) ∧ Below w.heap.size w w' := by
  go_enter Try.func8, Try.ntmps8
  go_wp2
  go_ret2
  exact ⟨rfl, (Below.refl _ w).alloc (Nat.le_refl _) _⟩
theorem check_nil (w : World) (A : Option Addr) (l c : Nat) : Calls Try.prog 11 #[.pointer none, .slice A l c] w fun e w' => e = .returned (.int .i64 1) ∧ w = w' := by
  have HM := Lib.hid (most_nil w)
  have HR := Lib.hid (refuse_nil w A l c 0)
  go_enter Try.func11, Try.ntmps11
  go_wp2_with (first
    | (go_at_call 16; refine HM.out.mono ?_; rintro e w' ⟨rfl, rfl⟩)
    | (go_at_call 38; refine HR.out.mono ?_; rintro e w' ⟨rfl, rfl⟩))
  go_ret
  exact ⟨rfl, rfl⟩

theorem Oct.takeN {bs : List Int} (h : Oct bs) (k : Nat) : Oct (bs.take k) := fun b hb => h b (List.mem_of_mem_take hb)
set_option maxHeartbeats 1000000 in
theorem some_any (A : Option Addr) (c : Nat) (bs : List Int) (w : World) (hs : Sl w A c bs) : Calls Try.prog 10 #[.slice A bs.length c] w (GivesB w (bs.take 300)) := by
  obtain ⟨l, hl⟩ : ∃ l, l = bs.length := ⟨_, rfl⟩
  have HL := Lib.hid (show (bs.take 300).length = min l 300 by rw [List.length_take, hl]; omega)
  have hr := hs.room
  have hm := hs.most
  rw [← hl] at hr ⊢
  have HS := Lib.hid (fun W (hW : Below w.heap.size w W) => ((hs.below hW).rd).take 300)
  obtain ⟨R, hR⟩ : ∃ R, R = bs.take 300 := ⟨_, rfl⟩
  rw [← hR] at HL HS ⊢
  obtain ⟨k, hk⟩ : ∃ k, k = min l 300 := ⟨_, rfl⟩
  rw [← hk] at HL
  have hkl : k ≤ l := by omega
  have hk3 : k ≤ 300 := by omega
  have hmin : min (l : Int) 300 = (k : Int) := by omega
  have hmin2 : min 300 (l : Int) = (k : Int) := by omega
  have k0 : (0 : Int) ≤ (k : Int) := by omega
  have kc : (k : Int) ≤ (c : Int) := by omega
  clear hs hl hR hk
  go_enter Try.func10, Try.ntmps10
  go_wp2_with (first
    | (at_builtin; refine app_b rfl (.tmp 3) (.tmp 8) rfl w.heap.size (.slice (some ⟨w.heap.size, 0, none⟩) 0 0) 0 [] rfl (World.ownsRow_made w #[] 0 (Nat.le_refl _) (Nat.zero_le _) rfl) A c k R rfl HL.out (HS.out _ ((Below.refl _ w).alloc (Nat.le_refl _) _)) (by omega) (by simp) ?_; intro v2 w2 hown2 hg2; have hb2 : Below w.heap.size w w2 := ((Below.refl _ w).alloc (Nat.le_refl _) _).grown hg2 (by simp) (by intro k hk; simp [Value.ownBlock] at hk; omega); have HO := Lib.hid hown2; have HB := Lib.hid hb2; clear hown2 hg2 hb2))
  go_ret
  refine gives_of ⟨v2, rfl, ?_, HB.out⟩
  have ho := HO.out
  simp only [Nat.zero_add, List.nil_append] at ho
  rw [HL.out]
  exact ho

/-! ### does the layer do anything? -/
def wm0 : AD := AD.new 400
def wm1 : AD := wm0.makeM (fileM 100 [])
theorem wm_bad : ¬ BadF wm0 100 := by decide +kernel
theorem wm_c : wm0.makeC (fileM 100 []) = 0 := by decide +kernel
theorem wm_o : wm1.ops < 4611686018427387000 := by decide +kernel
theorem wm_a : (newW 100).appC wm1 [1, 2, 3] = 0 := by decide +kernel
theorem wm_v : (newW 100).appV wm1 [1, 2, 3] = ⟨100, [[], [1, 2, 3]], false⟩ := by
  have h1 : (newW 100).refC ([1, 2, 3] : List Int).length (newW 100).room = 0 := by decide +kernel
  have h2 : wm1.layC (frameM (newW 100).parts.length [1, 2, 3]) = 0 := by decide +kernel
  unfold AW.appV
  rw [if_neg (by rw [h1]; simp), if_neg (by rw [h2]; simp)]
  rfl
theorem newW_ok {n : Int} (h : Lim n) : (newW n).Ok := ⟨h, by simp [newW], by
  have : costM (newW n).parts = 12 := rfl
  rw [this]
  have := h.1
  show ((12 : Nat) : Int) ≤ n
  omega⟩

set_option maxHeartbeats 2000000 in
theorem wakes_any (w : World) : Calls Try.prog 6 #[] w fun e w' => e = .returned (.bool true) ∧ Below w.heap.size w w' := by
  go_enter Try.func6, Try.ntmps6
  go_wp2_with (first
    | (go_at_call 21; refine (new_yes w 400 (by omega) (by omega)).mono ?_; rintro e w1 ⟨rfl, hd, hb1⟩; have HD := Lib.hid hd; have HB1 := Lib.hid hb1; clear hd hb1)
    | (go_at_call 7; refine (format_any HD.out (by decide) 100).mono ?_; rintro e w2 hf; rcases hf with ⟨hbad, _⟩ | ⟨_, hc, _⟩ | ⟨_, _, g, S', T, rfl, hw, hwal, hT⟩; exact absurd hbad wm_bad; exact absurd wm_c hc; have HW := Lib.hid hw; have HWAL := Lib.hid hwal; have HT := Lib.hid hT; clear hw hwal hT))
  have hlog : Log w2 S' T g (w.heap.size + 1) (newW 100) wm1 := ⟨HWAL.out, HW.out.at_, fun k hk => (HT.out k hk).2, newW_ok ⟨by omega, by omega⟩⟩
  have hb2 : Below w.heap.size w w2 := ⟨HW.out.turn.os.trans HB1.out.os, HW.out.turn.tape.trans HB1.out.tape, HW.out.turn.output.trans HB1.out.output, Nat.le_trans HB1.out.size HW.out.turn.size, fun k hk => (HW.out.turn.block k (Nat.lt_of_lt_of_le hk HB1.out.size) (fun e => by rcases e with e | e <;> omega)).trans (HB1.out.block k hk)⟩
  have hup : ∀ k, S' k ∨ T k → w.heap.size ≤ k := fun k hk => by
    have hs := HB1.out.size
    rcases hk with e | e
    · rcases HW.out.grow k e with e | e
      · rcases e with e | e <;> omega
      · omega
    · have := (HT.out k e).1; omega
  have hlf := left_any' hlog.wal hlog.ok.lim (by have := hlog.ok.small; omega)
  rw [show (newW 100).most - ((costM (newW 100).parts : Nat) : Int) = 88 from by decide +kernel] at hlf
  have HLF := Lib.hid hlf
  have HLOG := Lib.hid hlog
  have HB2 := Lib.hid hb2
  have HUP := Lib.hid hup
  have HAP := Lib.hid (fun (W : World) (hW : Below w2.heap.size w2 W) => (show Calls Try.prog 9 #[.pointer (some ⟨g, 0, none⟩), .slice (some ⟨W.heap.size, 0, none⟩) 3 3] (W.alloc (.cells #[.int .u8 1, .int .u8 2, .int .u8 3] 5)) fun e w' => e = .returned (.int .i64 0) ∧ ∃ S2 T2 M2, Log w' S2 T2 g (w.heap.size + 1) ⟨100, [[], [1, 2, 3]], false⟩ M2 ∧ Below w.heap.size w w' from by
    obtain ⟨W', hW'⟩ : ∃ W', W' = W.alloc (.cells #[.int .u8 1, .int .u8 2, .int .u8 3] 5) := ⟨_, rfl⟩
    have hb : Below W.heap.size W W' := by rw [hW']; exact (Below.refl _ W).alloc (Nat.le_refl _) _
    have hn : New W.heap.size W' (some ⟨W.heap.size, 0, none⟩) 3 [1, 2, 3] := by rw [hW']; exact World.ownsRow_lit W _ 3 (Nat.le_refl _) (by simp [maxLen]) rfl
    rw [← hW']
    have hbw : Below w2.heap.size w2 W' := hW.trans (hb.mono hW.size)
    have hl' : Log W' S' T g (w.heap.size + 1) (newW 100) wm1 := ⟨HLOG.out.wal.later hbw, HLOG.out.disk.later hbw, HLOG.out.sep, HLOG.out.ok⟩
    have hk := append_anyW hl' (by decide +kernel) (l := 3) (b := [1, 2, 3]) rfl hn.sl (by intro b hb; simp at hb; omega) (by simp) (fun k hk e => by
      have h1 := HLOG.out.disk.low e
      have : W.heap.size = k := by simpa [blk] using hk
      have := hW.size
      omega)
    rw [wm_a, wm_v] at hk
    refine hk.mono ?_
    rintro e w' ⟨rfl, S2, T2, h1, h2⟩
    have hB2 := HB2.out
    have hz := hW.size
    have hbb := hB2.trans (hbw.mono hB2.size)
    exact ⟨rfl, S2, T2, _, h1, ⟨h2.turn.os.trans hbb.os, h2.turn.tape.trans hbb.tape, h2.turn.output.trans hbb.output, Nat.le_trans hbb.size h2.turn.size, fun k hk => (h2.turn.block k (Nat.lt_of_lt_of_le hk hbb.size) (fun e => by have := HUP.out k e; omega)).trans (hbb.block k hk)⟩⟩))
  clear hlog hb2 hup hlf HWAL HW HT HD HB1
  go_wp2_with (first
    | (go_at_call 15; (with_reducible refine HLF.out.mono ?_); rintro e w3 ⟨rfl, hb3⟩; have HB3 := Lib.hid hb3; clear hb3)
    | (go_at_call 9; refine (HAP.out w3 HB3.out).mono ?_; rintro e w4 ⟨rfl, S2, T2, M2, hlog2, hb4⟩; have hlf2 := left_any' hlog2.wal hlog2.ok.lim (by have := hlog2.ok.small; omega); rw [show (⟨100, [[], [1, 2, 3]], false⟩ : AW).most - ((costM (⟨100, [[], [1, 2, 3]], false⟩ : AW).parts : Nat) : Int) = 73 from by decide +kernel] at hlf2; have HLF2 := Lib.hid hlf2; have HLN := Lib.hid (fun (W : World) (hW : Below w4.heap.size w4 W) => len_any (hlog2.wal.later hW) (by simp)); have HB4 := Lib.hid hb4; clear hlog2 hb4 hlf2)
    | (go_at_call 15; (with_reducible refine HLF2.out.mono ?_); rintro e w5 ⟨rfl, hb5⟩; have HB5 := Lib.hid hb5; clear hb5)
    | (go_at_call 14; refine (HLN.out w5 HB5.out).mono ?_; rintro e w6 ⟨rfl, rfl⟩))
  go_ret
  exact ⟨rfl, HB4.out.trans (HB5.out.mono HB4.out.size)⟩

end Go.Proofs.Ytienabfilnpieaa
