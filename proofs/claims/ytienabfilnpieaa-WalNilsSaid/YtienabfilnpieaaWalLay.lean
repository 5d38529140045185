/-
  What is laid for a log: costs, limits, marks, frames, heads.
-/
import Derived.Test.YtienabfilnpieaaMarkSeal
import Derived.Test.YtienabfilnpieaaBytesApp
import Derived.Deep.Cut
import Derived.Lib.SlBytesConst
namespace Go.Proofs.Ytienabfilnpieaa
open Go.RowKit
set_option linter.unusedVariables false
set_option maxRecDepth 100000

theorem i64_fit {x : Int} (h : -9223372036854775808 ≤ x ∧ x ≤ 9223372036854775807) : IntKind.i64.wrap x = x := by rw [IntKind.wrap_i64]; omega
def Lim (n : Int) : Prop := 64 ≤ n ∧ n ≤ 16000
instance (n : Int) : Decidable (Lim n) := by unfold Lim; infer_instance
def lettersM : List Int := [113, 117, 105, 118, 114, 108, 111, 103]
def headM (n : Int) : List Int := sealM (lettersM ++ fldOf 4 n)
def markM (k : Int) (b : List Int) : Int := onM (ofM (fldOf 8 k)) b
def frameM (k : Int) (b : List Int) : List Int := fldOf 4 b.length ++ fldOf 8 (markM k b) ++ b

theorem markM_u (k : Int) (b : List Int) : U (markM k b) := onM_u _ _ (onB_u _)
theorem fldOf_len {m : Nat} (x : Int) (h1 : 1 ≤ m) (h2 : m ≤ 8) : (fldOf m x).length = m := by rw [fldOf_yes x h1 h2, fld_length]
theorem fldOf_oct {m : Nat} (x : Int) (h1 : 1 ≤ m) (h2 : m ≤ 8) : Oct (fldOf m x) := by rw [fldOf_yes x h1 h2]; exact fld_oct m x
theorem lettersM_oct : Oct lettersM := by intro b hb; simp [lettersM] at hb; omega
theorem oct_append {a b : List Int} (ha : Oct a) (hb : Oct b) : Oct (a ++ b) := fun x hx => (List.mem_append.1 hx).elim (ha x) (hb x)
theorem headM_len (n : Int) : (headM n).length = 20 := by
  unfold headM
  rw [sealM_length, List.length_append, show ((4 : Int)) = ((4 : Nat) : Int) from rfl, fldOf_len _ (by omega) (by omega)]
  rfl
theorem headM_oct (n : Int) : Oct (headM n) := sealM_oct (oct_append lettersM_oct (fldOf_oct (m := 4) n (by omega) (by omega)))
theorem frameM_len (k : Int) (b : List Int) : (frameM k b).length = b.length + 12 := by
  unfold frameM
  rw [List.length_append, List.length_append, show ((4 : Int)) = ((4 : Nat) : Int) from rfl, show ((8 : Int)) = ((8 : Nat) : Int) from rfl, fldOf_len _ (by omega) (by omega), fldOf_len _ (by omega) (by omega)]
  omega
theorem frameM_oct (k : Int) {b : List Int} (h : Oct b) : Oct (frameM k b) := oct_append (oct_append (fldOf_oct (m := 4) _ (by omega) (by omega)) (fldOf_oct (m := 8) _ (by omega) (by omega))) h

theorem isLimit_any (n : Int) (w : World) : Calls Try.prog 27 #[.int .i64 n] w fun e w' => e = .returned (.bool (decide (Lim n))) ∧ w = w' := by
  by_cases h1 : 64 ≤ n
  · have d1 : decide (64 ≤ n) = true := by simp [h1]
    have HZ : Hid (decide (Lim n) = decide (n ≤ 16000)) := by unfold Hid Lim; simp [h1]
    clear h1
    go_enter Try.func27, Try.ntmps27
    go_wp2
    go_ret
    rw [HZ.out]
    exact ⟨rfl, rfl⟩
  · have d1 : decide (64 ≤ n) = false := by simp; omega
    have HZ : Hid (decide (Lim n) = false) := by unfold Hid; rw [decide_eq_false_iff_not]; unfold Lim; omega
    clear h1
    go_enter Try.func27, Try.ntmps27
    go_wp2
    go_ret
    rw [HZ.out]
    exact ⟨rfl, rfl⟩

theorem costOf_any (A : Option Addr) (n c : Nat) (w : World) (hn : n ≤ 140737488355328) : Calls Try.prog 71 #[.slice A n c] w fun e w' => e = .returned (.int .i64 ((n : Int) + 12)) ∧ w = w' := by
  have hw : IntKind.i64.wrap ((n : Int) + 12) = (n : Int) + 12 := i64_fit (by omega)
  go_enter Try.func71, Try.ntmps71
  go_wp2
  go_ret
  exact ⟨rfl, rfl⟩

def fitsC (n : Nat) (room : Int) : Int := if 16000 < n then 3 else if room < (n : Int) + 12 then 6 else 0
theorem wfits_any (A : Option Addr) (n c : Nat) (room : Int) (w : World) (hn : n ≤ 140737488355328) : Calls Try.prog 68 #[.slice A n c, .int .i64 room] w fun e w' => e = .returned (.int .i64 (fitsC n room)) ∧ w = w' := by
  have HC := Lib.hid (fun W => costOf_any A n c W hn)
  by_cases h1 : 16000 < n
  · have d1 : decide ((16000 : Int) < n) = true := by simp; omega
    have HZ : Hid (fitsC n room = 3) := by unfold Hid fitsC; rw [if_pos h1]
    clear h1 hn
    go_enter Try.func68, Try.ntmps68
    go_wp2
    go_ret
    rw [HZ.out]
    exact ⟨rfl, rfl⟩
  · have d1 : decide ((16000 : Int) < n) = false := by simp; omega
    by_cases h2 : room < (n : Int) + 12
    · have d2 : decide (room < (n : Int) + 12) = true := by simp [h2]
      have HZ : Hid (fitsC n room = 6) := by unfold Hid fitsC; rw [if_neg h1, if_pos h2]
      clear h1 h2 hn
      go_enter Try.func68, Try.ntmps68
      go_wp2_with (go_at_call 71; refine (HC.out _).mono ?_; rintro e w' ⟨rfl, rfl⟩)
      go_ret
      rw [HZ.out]
      exact ⟨rfl, rfl⟩
    · have d2 : decide (room < (n : Int) + 12) = false := by simp; omega
      have HZ : Hid (fitsC n room = 0) := by unfold Hid fitsC; rw [if_neg h1, if_neg h2]
      clear h1 h2 hn
      go_enter Try.func68, Try.ntmps68
      go_wp2_with (go_at_call 71; refine (HC.out _).mono ?_; rintro e w' ⟨rfl, rfl⟩)
      go_ret
      rw [HZ.out]
      exact ⟨rfl, rfl⟩

set_option maxHeartbeats 1000000 in
theorem markOf_any (k : Int) (hk : 0 ≤ k ∧ k < 9223372036854775808) (A : Option Addr) (c : Nat) (b : List Int) (w : World) (hs : Sl w A c b) (ho : Oct b) (hbig : b.length ≤ 140737488355328) :
    Calls Try.prog 70 #[.int .i64 k, .slice A b.length c] w (OnAns w (markM k b)) := by
  have hw : IntKind.u64.wrap k = k := by rw [IntKind.wrap_u64]; omega
  have h1 := put_b none 0 [] 8 k w ⟨by simp, by simp, Rd.empty⟩ (by simp) hk.1 (by omega)
  simp only [List.nil_append, List.length_nil] at h1
  have hl8 : (fldOf 8 k).length = 8 := fldOf_len (m := 8) k (by omega) (by omega)
  have h2 := fun W A' c' (hn : New w.heap.size W A' c' (fldOf 8 k)) => of_any A' c' (fldOf 8 k) W hn.sl (fldOf_oct (m := 8) k (by omega) (by omega)) (by omega)
  have h3 := fun W (hb : Below w.heap.size w W) => on_any A c b (ofM (fldOf 8 k)) W (hs.below hb) ho (onB_u _) (by omega)
  have HZ := Lib.hid (show onM (ofM (fldOf 8 k)) b = markM k b from rfl)
  generalize ofM (fldOf 8 k) = z at *
  generalize b.length = l at *
  obtain ⟨P, hP⟩ : ∃ P, P = fldOf 8 k := ⟨_, rfl⟩
  rw [← hP] at h1 h2 hl8
  have H1 := Lib.hid h1
  have H2 := Lib.hid h2
  have H3 := Lib.hid h3
  have HL := Lib.hid hl8
  clear h1 h2 h3 hP hs ho hbig hl8 hk
  go_enter Try.func70, Try.ntmps70
  go_wp2_with (first
    | (go_at_call 69; refine H1.out.mono ?_; rintro e w1 ⟨A1, c1, rfl, hn1, hb1⟩; have HN1 := Lib.hid hn1; have HB1 := Lib.hid hb1; clear hn1 hb1)
    | (go_at_call 89; refine (H2.out _ _ _ HN1.out).mono ?_; rintro e w2 ⟨rfl, hb2⟩; have HB2 := Lib.hid hb2; clear hb2)
    | (go_at_call 88; refine (H3.out _ (HB1.out.trans (HB2.out.mono HB1.out.size))).mono ?_; rintro e w3 ⟨rfl, hb3⟩; have HB3 := Lib.hid hb3; clear hb3))
  go_ret
  rw [HZ.out]
  have hb12 := HB1.out.trans (HB2.out.mono HB1.out.size)
  exact ⟨rfl, hb12.trans (HB3.out.mono hb12.size)⟩

set_option maxHeartbeats 1000000 in
theorem frame_any (k : Int) (hk : 0 ≤ k ∧ k < 9223372036854775808) (A : Option Addr) (c : Nat) (b : List Int) (w : World) (hs : Sl w A c b) (ho : Oct b) (hbig : b.length ≤ 1000000) :
    Calls Try.prog 41 #[.int .i64 k, .slice A b.length c] w (GivesB w (frameM k b)) := by
  have hw : IntKind.u64.wrap ((b.length : Nat) : Int) = (b.length : Int) := by rw [IntKind.wrap_u64]; omega
  have hl4 : (fldOf 4 b.length).length = 4 := fldOf_len (m := 4) _ (by omega) (by omega)
  have hl8 : (fldOf 8 (markM k b)).length = 8 := fldOf_len (m := 8) _ (by omega) (by omega)
  have hu := markM_u k b
  have h1 := put_b none 0 [] 4 b.length w ⟨by simp, by simp, Rd.empty⟩ (by simp) (by omega) (by omega)
  simp only [List.nil_append, List.length_nil] at h1
  have h2 := fun W (hb : Below w.heap.size w W) => markOf_any k hk A c b W (hs.below hb) ho (by omega)
  have h3 := fun W A' c' (hn : Sl W A' c' (fldOf 4 b.length)) => put_b A' c' (fldOf 4 b.length) 8 (markM k b) W hn (by omega) hu.1 hu.2
  have HS := Lib.hid hs
  have hlen : (fldOf 4 b.length ++ fldOf 8 (markM k b)).length = 12 := by rw [List.length_append, hl4, hl8]
  have HZ := Lib.hid (show fldOf 4 b.length ++ fldOf 8 (markM k b) ++ b = frameM k b from rfl)
  have hfl := frameM_len k b
  generalize frameM k b = Z at *
  generalize markM k b = z at *
  obtain ⟨l, hl⟩ : ∃ l, l = b.length := ⟨_, rfl⟩
  rw [← hl] at h1 h2 h3 hw hl4 hlen HZ hfl hbig
  rw [← hl]
  obtain ⟨P, hP⟩ : ∃ P, P = fldOf 4 l := ⟨_, rfl⟩
  rw [← hP] at h1 h3 hl4 hlen HZ
  obtain ⟨Q, hQ⟩ : ∃ Q, Q = P ++ fldOf 8 z := ⟨_, rfl⟩
  rw [← hQ] at h3 hlen HZ
  have H1 := Lib.hid h1
  have H2 := Lib.hid h2
  have H3 := Lib.hid h3
  have HL := Lib.hid hl
  have HL4 := Lib.hid hl4
  have HLEN := Lib.hid hlen
  have HFL := Lib.hid hfl
  clear h1 h2 h3 hP hQ hs ho hl hl4 hl8 hlen hfl hu
  go_enter Try.func41, Try.ntmps41
  go_wp2_with (first
    | (go_at_call 69; (with_reducible refine H1.out.mono ?_); rintro e w1 ⟨A1, c1, rfl, hn1, hb1⟩; rw [HL4.out]; have HN1 := Lib.hid hn1; have HB1 := Lib.hid hb1; clear hn1 hb1)
    | (go_at_call 70; refine (H2.out _ HB1.out).mono ?_; rintro e w2 ⟨rfl, hb2⟩; have HB2 := Lib.hid hb2; have HN2 := Lib.hid (HN1.out.sl.below hb2); have h3' := H3.out w2 A1 c1 HN2.out; rw [HL4.out] at h3'; have H3' := Lib.hid h3'; clear hb2 h3')
    | (go_at_call 69; refine H3'.out.mono ?_; rintro e w3 ⟨A3, c3, rfl, hn3, hb3⟩; rw [HLEN.out]; have HB3 := Lib.hid hb3; have hb12 := HB1.out.trans (HB2.out.mono HB1.out.size); have hb13 := hb12.trans (hb3.mono hb12.size); have HB13 := Lib.hid hb13; have HN3 := Lib.hid hn3; have HS3 := Lib.hid (HS.out.below hb13); have hr3 := hn3.low hb12.size; unfold New at hr3; rw [HLEN.out] at hr3; have HR3 := Lib.hid hr3; clear hn3 hb3 hb12 hb13 hr3)
    | (at_builtin; refine app_b rfl (.tmp 15) (.tmp 16) rfl w.heap.size (.slice A3 12 c3) 12 (Q.map (Value.int .u8)) rfl HR3.out A c l b rfl HL.out.symm HS3.out.rd (by omega) HB13.out.size ?_; intro v' w4 hown hgrow; have HO := Lib.hid hown; have HG := Lib.hid hgrow; clear hown hgrow))
  go_ret
  refine gives_of ⟨v', rfl, ?_, HB13.out.grown HG.out HB13.out.size (fun q hq => (HR3.out.lt q hq).1)⟩
  rw [← HZ.out, List.map_append, show (Q ++ b).length = 12 + l by rw [List.length_append, HLEN.out, HL.out]]
  exact HO.out

set_option maxHeartbeats 1000000 in
theorem head_any (n : Int) (hn : 0 ≤ n ∧ n < 9223372036854775808) (w : World) :
    Calls Try.prog 60 #[.int .i64 n] w (GivesB w (headM n)) := by
  have hw : IntKind.u64.wrap n = n := by rw [IntKind.wrap_u64]; omega
  have hl4 : (fldOf 4 n).length = 4 := fldOf_len (m := 4) _ (by omega) (by omega)
  have h1 := fun W A' c' (h : Sl W A' c' lettersM) => put_b A' c' lettersM 4 n W h (by simp [lettersM]) hn.1 (by omega)
  have hlen : (lettersM ++ fldOf 4 n).length = 12 := by rw [List.length_append, hl4]; rfl
  have h2 := fun W A' c' (h : Sl W A' c' (lettersM ++ fldOf 4 n)) => seal_b A' c' (lettersM ++ fldOf 4 n) W h (oct_append lettersM_oct (fldOf_oct (m := 4) _ (by omega) (by omega))) (by omega)
  have HZ := Lib.hid (show sealM (lettersM ++ fldOf 4 n) = headM n from rfl)
  obtain ⟨P, hP⟩ : ∃ P, P = lettersM ++ fldOf 4 n := ⟨_, rfl⟩
  rw [← hP] at h1 h2 hlen HZ
  rw [hlen] at h2
  have hz := HZ.out
  have H2 := Lib.hid h2
  have H1 := Lib.hid h1
  have HLEN := Lib.hid hlen
  generalize headM n = Z at *
  clear h1 h2 hP hl4 hlen hz hn
  have kc := fun (w : World) (C : Array Value) (n c : Nat) => Lib.run_convert_bytes_const (P := Try.prog) w 22 5 C n c Try.underlying22 Try.underlying5
  obtain ⟨Wa, hWa⟩ : ∃ Wa, Wa = w.alloc (.cells #[.int .u8 113, .int .u8 117, .int .u8 105, .int .u8 118, .int .u8 114, .int .u8 108, .int .u8 111, .int .u8 103] 5 (8, 9)) := ⟨_, rfl⟩
  have hba : Below w.heap.size w Wa := by rw [hWa]; exact (Below.refl _ w).alloc (Nat.le_refl _) _
  have hxa : Wa.heap[w.heap.size]? = some (.cells #[.int .u8 113, .int .u8 117, .int .u8 105, .int .u8 118, .int .u8 114, .int .u8 108, .int .u8 111, .int .u8 103] 5 (8, 9)) := by rw [hWa]; exact heap_alloc_new w _
  have hsa : Sl Wa (some ⟨w.heap.size, 0, none⟩) 8 lettersM := by
    refine ⟨by simp [lettersM], by omega, fun _ => ⟨w.heap.size, 0, rfl, lt_of_block hxa, fun j hj => ?_⟩⟩
    have hj8 : j < 8 := by simpa [lettersM] using hj
    have hj' : j = 0 ∨ j = 1 ∨ j = 2 ∨ j = 3 ∨ j = 4 ∨ j = 5 ∨ j = 6 ∨ j = 7 := by omega
    simp only [World.cell?, hxa]
    rcases hj' with rfl | rfl | rfl | rfl | rfl | rfl | rfl | rfl <;> rfl
  have HC := Lib.hid (H1.out Wa _ 8 hsa)
  have HWA := Lib.hid hWa
  have HBA := Lib.hid hba
  clear hWa hsa hba
  go_enter Try.func60, Try.ntmps60
  go_wp2_with (first
    | (go_at_call 69; rw [← HWA.out]; refine HC.out.mono ?_; rintro e w1 ⟨A1, c1, rfl, hn1, hb1⟩; rw [HLEN.out]; have HC2 := Lib.hid (H2.out w1 A1 c1 hn1.sl); have HB1 := Lib.hid (HBA.out.trans (hb1.mono HBA.out.size)); clear hn1 hb1)
    | (go_at_call 78; refine HC2.out.mono ?_; rintro e w2 ⟨A2, c2, rfl, hn2, hb2⟩; have HN2 := Lib.hid (hn2.low HB1.out.size); have HB2 := Lib.hid (HB1.out.trans (hb2.mono HB1.out.size)); clear hn2 hb2))
  go_ret
  have hz := HZ.out
  refine ⟨A2, c2, by rw [← hz]; rfl, by rw [← hz]; exact HN2.out, HB2.out⟩

end Go.Proofs.Ytienabfilnpieaa
