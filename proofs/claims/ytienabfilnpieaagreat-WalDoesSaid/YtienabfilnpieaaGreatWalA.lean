/-
  What is laid for a log: costs, limits, marks, frames, heads.
  A log as a value, where it lies in memory, and what it costs.
  What a log tells: Snapshot, All.
  Steps, one behind the other (inOrder); Contains; dropNew.
-/
import Derived.Test.YtienabfilnpieaaGreatMarkSeal
import Derived.Test.YtienabfilnpieaaGreatBytesApp
import Derived.Deep.Cut
import Derived.Lib.SlBytesConst
import Derived.Test.YtienabfilnpieaaGreatDiskCrash
import Derived.Test.YtienabfilnpieaaGreatDiskWakes
import Derived.Deep.RegionHeld3
import Derived.Test.YtienabfilnpieaaGreatDiskEq
import Derived.WalkMore
namespace Go.Proofs.YtienabfilnpieaaGreat
open Go.RowKit
set_option linter.unusedVariables false
set_option linter.unusedSimpArgs false
set_option maxRecDepth 100000

theorem i64_fit {x : Int} (h : -9223372036854775808 ≤ x ∧ x ≤ 9223372036854775807) : IntKind.i64.wrap x = x := by rw [IntKind.wrap_i64]; omega
def Lim (n : Int) : Prop := 64 ≤ n ∧ n ≤ 16000
instance (n : Int) : Decidable (Lim n) := by unfold Lim; infer_instance
def lettersM : List Int := [113, 117, 105, 118, 114, 108, 111, 103]
def headM (n : Int) : List Int := sealM (lettersM ++ fldOf 4 n)
def markM (k : Int) (b : List Int) : Int := onM (ofM (fldOf 8 k)) b
def frameM (k : Int) (b : List Int) : List Int := fldOf 4 b.length ++ fldOf 8 (markM k b) ++ b

theorem markM_u (k : Int) (b : List Int) : U (markM k b) := onM_u _ _ (onB_u _)
theorem fldOf_len {m : Nat} (x : Int) (h1 : 1 ≤ m) (h2 : m ≤ 8) : (fldOf m x).length = m := by rw [fldOf_yes x h1 h2, fld_length]
theorem fldOf_oct {m : Nat} (x : Int) (h1 : 1 ≤ m) (h2 : m ≤ 8) : Oct (fldOf m x) := by rw [fldOf_yes x h1 h2]; exact fld_oct m x
theorem lettersM_oct : Oct lettersM := by intro b hb; simp [lettersM] at hb; omega
theorem oct_append {a b : List Int} (ha : Oct a) (hb : Oct b) : Oct (a ++ b) := fun x hx => (List.mem_append.1 hx).elim (ha x) (hb x)
theorem headM_len (n : Int) : (headM n).length = 20 := by
  unfold headM
  rw [sealM_length, List.length_append, show ((4 : Int)) = ((4 : Nat) : Int) from rfl, fldOf_len _ (by omega) (by omega)]
  rfl
theorem headM_oct (n : Int) : Oct (headM n) := sealM_oct (oct_append lettersM_oct (fldOf_oct (m := 4) n (by omega) (by omega)))
theorem frameM_len (k : Int) (b : List Int) : (frameM k b).length = b.length + 12 := by
  unfold frameM
  rw [List.length_append, List.length_append, show ((4 : Int)) = ((4 : Nat) : Int) from rfl, show ((8 : Int)) = ((8 : Nat) : Int) from rfl, fldOf_len _ (by omega) (by omega), fldOf_len _ (by omega) (by omega)]
  omega
theorem frameM_oct (k : Int) {b : List Int} (h : Oct b) : Oct (frameM k b) := oct_append (oct_append (fldOf_oct (m := 4) _ (by omega) (by omega)) (fldOf_oct (m := 8) _ (by omega) (by omega))) h

theorem isLimit_any (n : Int) (w : World) : Calls Tryz.prog 78 #[.int .i64 n] w fun e w' => e = .returned (.bool (decide (Lim n))) ∧ w = w' := by
  by_cases h1 : 64 ≤ n
  · have d1 : decide (64 ≤ n) = true := by simp [h1]
    have HZ : Hid (decide (Lim n) = decide (n ≤ 16000)) := by unfold Hid Lim; simp [h1]
    clear h1
    go_enter Tryz.func78, Tryz.ntmps78
    go_wp2
    go_ret
    rw [HZ.out]
    exact ⟨rfl, rfl⟩
  · have d1 : decide (64 ≤ n) = false := by simp; omega
    have HZ : Hid (decide (Lim n) = false) := by unfold Hid; rw [decide_eq_false_iff_not]; unfold Lim; omega
    clear h1
    go_enter Tryz.func78, Tryz.ntmps78
    go_wp2
    go_ret
    rw [HZ.out]
    exact ⟨rfl, rfl⟩

theorem costOf_any (A : Option Addr) (n c : Nat) (w : World) (hn : n ≤ 140737488355328) : Calls Tryz.prog 111 #[.slice A n c] w fun e w' => e = .returned (.int .i64 ((n : Int) + 12)) ∧ w = w' := by
  have hw : IntKind.i64.wrap ((n : Int) + 12) = (n : Int) + 12 := i64_fit (by omega)
  go_enter Tryz.func111, Tryz.ntmps111
  go_wp2
  go_ret
  exact ⟨rfl, rfl⟩

def fitsC (n : Nat) (room : Int) : Int := if 16000 < n then 3 else if room < (n : Int) + 12 then 6 else 0
theorem wfits_any (A : Option Addr) (n c : Nat) (room : Int) (w : World) (hn : n ≤ 140737488355328) : Calls Tryz.prog 101 #[.slice A n c, .int .i64 room] w fun e w' => e = .returned (.int .i64 (fitsC n room)) ∧ w = w' := by
  have HC := Lib.hid (fun W => costOf_any A n c W hn)
  by_cases h1 : 16000 < n
  · have d1 : decide ((16000 : Int) < n) = true := by simp; omega
    have HZ : Hid (fitsC n room = 3) := by unfold Hid fitsC; rw [if_pos h1]
    clear h1 hn
    go_enter Tryz.func101, Tryz.ntmps101
    go_wp2
    go_ret
    rw [HZ.out]
    exact ⟨rfl, rfl⟩
  · have d1 : decide ((16000 : Int) < n) = false := by simp; omega
    by_cases h2 : room < (n : Int) + 12
    · have d2 : decide (room < (n : Int) + 12) = true := by simp [h2]
      have HZ : Hid (fitsC n room = 6) := by unfold Hid fitsC; rw [if_neg h1, if_pos h2]
      clear h1 h2 hn
      go_enter Tryz.func101, Tryz.ntmps101
      go_wp2_with (go_at_call 111; refine (HC.out _).mono ?_; rintro e w' ⟨rfl, rfl⟩)
      go_ret
      rw [HZ.out]
      exact ⟨rfl, rfl⟩
    · have d2 : decide (room < (n : Int) + 12) = false := by simp; omega
      have HZ : Hid (fitsC n room = 0) := by unfold Hid fitsC; rw [if_neg h1, if_neg h2]
      clear h1 h2 hn
      go_enter Tryz.func101, Tryz.ntmps101
      go_wp2_with (go_at_call 111; refine (HC.out _).mono ?_; rintro e w' ⟨rfl, rfl⟩)
      go_ret
      rw [HZ.out]
      exact ⟨rfl, rfl⟩

set_option maxHeartbeats 1000000 in
theorem markOf_any (k : Int) (hk : 0 ≤ k ∧ k < 9223372036854775808) (A : Option Addr) (c : Nat) (b : List Int) (w : World) (hs : Sl w A c b) (ho : Oct b) (hbig : b.length ≤ 140737488355328) :
    Calls Tryz.prog 103 #[.int .i64 k, .slice A b.length c] w (OnAns w (markM k b)) := by
  have hw : IntKind.u64.wrap k = k := by rw [IntKind.wrap_u64]; omega
  have h1 := put_b none 0 [] 8 k w ⟨by simp, by simp, Rd.empty⟩ (by simp) hk.1 (by omega)
  simp only [List.nil_append, List.length_nil] at h1
  have hl8 : (fldOf 8 k).length = 8 := fldOf_len (m := 8) k (by omega) (by omega)
  have h2 := fun W A' c' (hn : New w.heap.size W A' c' (fldOf 8 k)) => of_any A' c' (fldOf 8 k) W hn.sl (fldOf_oct (m := 8) k (by omega) (by omega)) (by omega)
  have h3 := fun W (hb : Below w.heap.size w W) => on_any A c b (ofM (fldOf 8 k)) W (hs.below hb) ho (onB_u _) (by omega)
  have HZ := Lib.hid (show onM (ofM (fldOf 8 k)) b = markM k b from rfl)
  generalize ofM (fldOf 8 k) = z at *
  generalize b.length = l at *
  obtain ⟨P, hP⟩ : ∃ P, P = fldOf 8 k := ⟨_, rfl⟩
  rw [← hP] at h1 h2 hl8
  have H1 := Lib.hid h1
  have H2 := Lib.hid h2
  have H3 := Lib.hid h3
  have HL := Lib.hid hl8
  clear h1 h2 h3 hP hs ho hbig hl8 hk
  go_enter Tryz.func103, Tryz.ntmps103
  go_wp2_with (first
    | (go_at_call 102; refine H1.out.mono ?_; rintro e w1 ⟨A1, c1, rfl, hn1, hb1⟩; have HN1 := Lib.hid hn1; have HB1 := Lib.hid hb1; clear hn1 hb1)
    | (go_at_call 127; refine (H2.out _ _ _ HN1.out).mono ?_; rintro e w2 ⟨rfl, hb2⟩; have HB2 := Lib.hid hb2; clear hb2)
    | (go_at_call 126; refine (H3.out _ (HB1.out.trans (HB2.out.mono HB1.out.size))).mono ?_; rintro e w3 ⟨rfl, hb3⟩; have HB3 := Lib.hid hb3; clear hb3))
  go_ret
  rw [HZ.out]
  have hb12 := HB1.out.trans (HB2.out.mono HB1.out.size)
  exact ⟨rfl, hb12.trans (HB3.out.mono hb12.size)⟩

set_option maxHeartbeats 1000000 in
theorem frame_any (k : Int) (hk : 0 ≤ k ∧ k < 9223372036854775808) (A : Option Addr) (c : Nat) (b : List Int) (w : World) (hs : Sl w A c b) (ho : Oct b) (hbig : b.length ≤ 1000000) :
    Calls Tryz.prog 69 #[.int .i64 k, .slice A b.length c] w (GivesB w (frameM k b)) := by
  have hw : IntKind.u64.wrap ((b.length : Nat) : Int) = (b.length : Int) := by rw [IntKind.wrap_u64]; omega
  have hl4 : (fldOf 4 b.length).length = 4 := fldOf_len (m := 4) _ (by omega) (by omega)
  have hl8 : (fldOf 8 (markM k b)).length = 8 := fldOf_len (m := 8) _ (by omega) (by omega)
  have hu := markM_u k b
  have h1 := put_b none 0 [] 4 b.length w ⟨by simp, by simp, Rd.empty⟩ (by simp) (by omega) (by omega)
  simp only [List.nil_append, List.length_nil] at h1
  have h2 := fun W (hb : Below w.heap.size w W) => markOf_any k hk A c b W (hs.below hb) ho (by omega)
  have h3 := fun W A' c' (hn : Sl W A' c' (fldOf 4 b.length)) => put_b A' c' (fldOf 4 b.length) 8 (markM k b) W hn (by omega) hu.1 hu.2
  have HS := Lib.hid hs
  have hlen : (fldOf 4 b.length ++ fldOf 8 (markM k b)).length = 12 := by rw [List.length_append, hl4, hl8]
  have HZ := Lib.hid (show fldOf 4 b.length ++ fldOf 8 (markM k b) ++ b = frameM k b from rfl)
  have hfl := frameM_len k b
  generalize frameM k b = Z at *
  generalize markM k b = z at *
  obtain ⟨l, hl⟩ : ∃ l, l = b.length := ⟨_, rfl⟩
  rw [← hl] at h1 h2 h3 hw hl4 hlen HZ hfl hbig
  rw [← hl]
  obtain ⟨P, hP⟩ : ∃ P, P = fldOf 4 l := ⟨_, rfl⟩
  rw [← hP] at h1 h3 hl4 hlen HZ
  obtain ⟨Q, hQ⟩ : ∃ Q, Q = P ++ fldOf 8 z := ⟨_, rfl⟩
  rw [← hQ] at h3 hlen HZ
  have H1 := Lib.hid h1
  have H2 := Lib.hid h2
  have H3 := Lib.hid h3
  have HL := Lib.hid hl
  have HL4 := Lib.hid hl4
  have HLEN := Lib.hid hlen
  have HFL := Lib.hid hfl
  clear h1 h2 h3 hP hQ hs ho hl hl4 hl8 hlen hfl hu
  go_enter Tryz.func69, Tryz.ntmps69
  go_wp2_with (first
    | (go_at_call 102; (with_reducible refine H1.out.mono ?_); rintro e w1 ⟨A1, c1, rfl, hn1, hb1⟩; rw [HL4.out]; have HN1 := Lib.hid hn1; have HB1 := Lib.hid hb1; clear hn1 hb1)
    | (go_at_call 103; refine (H2.out _ HB1.out).mono ?_; rintro e w2 ⟨rfl, hb2⟩; have HB2 := Lib.hid hb2; have HN2 := Lib.hid (HN1.out.sl.below hb2); have h3' := H3.out w2 A1 c1 HN2.out; rw [HL4.out] at h3'; have H3' := Lib.hid h3'; clear hb2 h3')
    | (go_at_call 102; refine H3'.out.mono ?_; rintro e w3 ⟨A3, c3, rfl, hn3, hb3⟩; rw [HLEN.out]; have HB3 := Lib.hid hb3; have hb12 := HB1.out.trans (HB2.out.mono HB1.out.size); have hb13 := hb12.trans (hb3.mono hb12.size); have HB13 := Lib.hid hb13; have HN3 := Lib.hid hn3; have HS3 := Lib.hid (HS.out.below hb13); have hr3 := hn3.low hb12.size; unfold New at hr3; rw [HLEN.out] at hr3; have HR3 := Lib.hid hr3; clear hn3 hb3 hb12 hb13 hr3)
    | (at_builtin; refine app_b rfl (.tmp 15) (.tmp 16) rfl w.heap.size (.slice A3 12 c3) 12 (Q.map (Value.int .u8)) rfl HR3.out A c l b rfl HL.out.symm HS3.out.rd (by omega) HB13.out.size ?_; intro v' w4 hown hgrow; have HO := Lib.hid hown; have HG := Lib.hid hgrow; clear hown hgrow))
  go_ret
  refine gives_of ⟨v', rfl, ?_, HB13.out.grown HG.out HB13.out.size (fun q hq => (HR3.out.lt q hq).1)⟩
  rw [← HZ.out, List.map_append, show (Q ++ b).length = 12 + l by rw [List.length_append, HLEN.out, HL.out]]
  exact HO.out

set_option maxHeartbeats 1000000 in
theorem head_any (n : Int) (hn : 0 ≤ n ∧ n < 9223372036854775808) (w : World) :
    Calls Tryz.prog 106 #[.int .i64 n] w (GivesB w (headM n)) := by
  have hw : IntKind.u64.wrap n = n := by rw [IntKind.wrap_u64]; omega
  have hl4 : (fldOf 4 n).length = 4 := fldOf_len (m := 4) _ (by omega) (by omega)
  have h1 := fun W A' c' (h : Sl W A' c' lettersM) => put_b A' c' lettersM 4 n W h (by simp [lettersM]) hn.1 (by omega)
  have hlen : (lettersM ++ fldOf 4 n).length = 12 := by rw [List.length_append, hl4]; rfl
  have h2 := fun W A' c' (h : Sl W A' c' (lettersM ++ fldOf 4 n)) => seal_b A' c' (lettersM ++ fldOf 4 n) W h (oct_append lettersM_oct (fldOf_oct (m := 4) _ (by omega) (by omega))) (by omega)
  have HZ := Lib.hid (show sealM (lettersM ++ fldOf 4 n) = headM n from rfl)
  obtain ⟨P, hP⟩ : ∃ P, P = lettersM ++ fldOf 4 n := ⟨_, rfl⟩
  rw [← hP] at h1 h2 hlen HZ
  rw [hlen] at h2
  have hz := HZ.out
  have H2 := Lib.hid h2
  have H1 := Lib.hid h1
  have HLEN := Lib.hid hlen
  generalize headM n = Z at *
  clear h1 h2 hP hl4 hlen hz hn
  have kc := fun (w : World) (C : Array Value) (n c : Nat) => Lib.run_convert_bytes_const (P := Tryz.prog) w 33 5 C n c Tryz.underlying33 Tryz.underlying5
  obtain ⟨Wa, hWa⟩ : ∃ Wa, Wa = w.alloc (.cells #[.int .u8 113, .int .u8 117, .int .u8 105, .int .u8 118, .int .u8 114, .int .u8 108, .int .u8 111, .int .u8 103] 5 (8, 9)) := ⟨_, rfl⟩
  have hba : Below w.heap.size w Wa := by rw [hWa]; exact (Below.refl _ w).alloc (Nat.le_refl _) _
  have hxa : Wa.heap[w.heap.size]? = some (.cells #[.int .u8 113, .int .u8 117, .int .u8 105, .int .u8 118, .int .u8 114, .int .u8 108, .int .u8 111, .int .u8 103] 5 (8, 9)) := by rw [hWa]; exact heap_alloc_new w _
  have hsa : Sl Wa (some ⟨w.heap.size, 0, none⟩) 8 lettersM := by
    refine ⟨by simp [lettersM], by omega, fun _ => ⟨w.heap.size, 0, rfl, lt_of_block hxa, fun j hj => ?_⟩⟩
    have hj8 : j < 8 := by simpa [lettersM] using hj
    have hj' : j = 0 ∨ j = 1 ∨ j = 2 ∨ j = 3 ∨ j = 4 ∨ j = 5 ∨ j = 6 ∨ j = 7 := by omega
    simp only [World.cell?, hxa]
    rcases hj' with rfl | rfl | rfl | rfl | rfl | rfl | rfl | rfl <;> rfl
  have HC := Lib.hid (H1.out Wa _ 8 hsa)
  have HWA := Lib.hid hWa
  have HBA := Lib.hid hba
  clear hWa hsa hba
  go_enter Tryz.func106, Tryz.ntmps106
  go_wp2_with (first
    | (go_at_call 102; rw [← HWA.out]; refine HC.out.mono ?_; rintro e w1 ⟨A1, c1, rfl, hn1, hb1⟩; rw [HLEN.out]; have HC2 := Lib.hid (H2.out w1 A1 c1 hn1.sl); have HB1 := Lib.hid (HBA.out.trans (hb1.mono HBA.out.size)); clear hn1 hb1)
    | (go_at_call 128; refine HC2.out.mono ?_; rintro e w2 ⟨A2, c2, rfl, hn2, hb2⟩; have HN2 := Lib.hid (hn2.low HB1.out.size); have HB2 := Lib.hid (HB1.out.trans (hb2.mono HB1.out.size)); clear hn2 hb2))
  go_ret
  have hz := HZ.out
  refine ⟨A2, c2, by rw [← hz]; rfl, by rw [← hz]; exact HN2.out, HB2.out⟩

end Go.Proofs.YtienabfilnpieaaGreat

namespace Go.Proofs.YtienabfilnpieaaGreat
open Go.RowKit
set_option linter.unusedVariables false
set_option linter.unusedSimpArgs false
set_option maxRecDepth 100000

structure AW where
  most : Int
  parts : List (List Int)
  broken : Bool
def costM (ps : List (List Int)) : Nat := (ps.map fun p => p.length + 12).sum
theorem costM_nil : costM [] = 0 := rfl
theorem costM_append (a b : List (List Int)) : costM (a ++ b) = costM a + costM b := by simp [costM]
theorem costM_one (p : List Int) : costM [p] = p.length + 12 := by simp [costM]
theorem costM_snoc {ps : List (List Int)} {k : Nat} {p : List Int} (h : ps[k]? = some p) : costM (ps.take (k + 1)) = costM (ps.take k) + (p.length + 12) := by
  have : ps.take (k + 1) = ps.take k ++ [p] := by rw [List.take_add_one, h]; rfl
  rw [this, costM_append, costM_one]
theorem costM_take (ps : List (List Int)) (k : Nat) : costM (ps.take k) ≤ costM ps := by
  have := costM_append (ps.take k) (ps.drop k)
  rw [List.take_append_drop] at this
  omega
theorem costM_mem {ps : List (List Int)} {k : Nat} {p : List Int} (h : ps[k]? = some p) : p.length + 12 ≤ costM ps := by
  have h1 := costM_snoc h
  have h2 := costM_take ps (k + 1)
  omega
theorem costM_len (ps : List (List Int)) : 12 * ps.length ≤ costM ps := by
  induction ps with
  | nil => simp [costM]
  | cons p ps ih => simp only [costM, List.map_cons, List.sum_cons, List.length_cons] at ih ⊢; omega

/-- A part's bytes lie in a row of their own, in a block of T. -/
def PartAt (w : World) (T : Nat → Prop) (vs : List Value) (i : Nat) (p : List Int) : Prop :=
  ∃ B cb, vs[i]? = some (.slice B p.length cb) ∧ w.ownsRow 0 5 1 (.slice B p.length cb) p.length (p.map (Value.int .u8)) ∧ (∀ h, blk B = some h → T h) ∧ Oct p
/-- Parts lie in a row of slices, in blocks of T. -/
structure PartsAt (w : World) (T : Nat → Prop) (A : Option Addr) (c : Nat) (ps : List (List Int)) (vs : List Value) : Prop where
  row : w.ownsRow 0 33 1 (.slice A ps.length c) ps.length vs
  each : ∀ i p, ps[i]? = some p → PartAt w T vs i p
  rowT : ∀ h, blk A = some h → T h
abbrev walA (V : AW) (A : Option Addr) (c d : Nat) : Array Value := #[.int .i64 V.most, .slice A V.parts.length c, .pointer (some ⟨d, 0, none⟩), .bool V.broken]
structure WalIn (w : World) (T : Nat → Prop) (g d : Nat) (V : AW) (A : Option Addr) (c : Nat) (vs : List Value) : Prop where
  box : w.heap[g]? = some (.cells (walA V A c d) 90 (0, 0))
  parts : PartsAt w T A c V.parts vs
  inT : T g
  low : ∀ k, T k → k < w.heap.size
def WalAt (w : World) (T : Nat → Prop) (g d : Nat) (V : AW) : Prop := ∃ A c vs, WalIn w T g d V A c vs

section
variable {w w' : World} {T S : Nat → Prop} {g d : Nat} {V : AW} {A : Option Addr} {c : Nat} {vs : List Value} {ps : List (List Int)}
theorem row_turn {e : TypeId} {n m : Nat} {xs : List Value} {B : Option Addr} {cb : Nat} (h : w.ownsRow 0 e 1 (.slice B n cb) m xs) (hT : ∀ k, blk B = some k → T k) (hb : ∀ k, T k → w'.heap[k]? = w.heap[k]?) : w'.ownsRow 0 e 1 (.slice B n cb) m xs :=
  row_same h fun k hk => hb k (hT k hk)
theorem PartsAt.turn (h : PartsAt w T A c ps vs) (hb : ∀ k, T k → w'.heap[k]? = w.heap[k]?) : PartsAt w' T A c ps vs :=
  ⟨row_turn h.row h.rowT hb, fun i p hp => by
    obtain ⟨B, cb, h1, h2, h3, h4⟩ := h.each i p hp
    exact ⟨B, cb, h1, row_turn h2 h3 hb, h3, h4⟩, h.rowT⟩
theorem WalIn.turn (h : WalIn w T g d V A c vs) (hb : ∀ k, T k → w'.heap[k]? = w.heap[k]?) (hs : w.heap.size ≤ w'.heap.size) : WalIn w' T g d V A c vs :=
  ⟨(hb g h.inT).trans h.box, h.parts.turn hb, h.inT, fun k hk => Nat.lt_of_lt_of_le (h.low k hk) hs⟩
theorem WalIn.other (h : WalIn w T g d V A c vs) (ht : Turn S w w') (hd : ∀ k, T k → ¬ S k) : WalIn w' T g d V A c vs :=
  h.turn (fun k hk => ht.block k (h.low k hk) (hd k hk)) ht.size
theorem WalIn.later (h : WalIn w T g d V A c vs) (hb : Below w.heap.size w w') : WalIn w' T g d V A c vs :=
  h.turn (fun k hk => hb.block k (h.low k hk)) hb.size
theorem WalAt.other (h : WalAt w T g d V) (ht : Turn S w w') (hd : ∀ k, T k → ¬ S k) : WalAt w' T g d V := by obtain ⟨A, c, vs, h⟩ := h; exact ⟨A, c, vs, h.other ht hd⟩
theorem WalAt.later (h : WalAt w T g d V) (hb : Below w.heap.size w w') : WalAt w' T g d V := by obtain ⟨A, c, vs, h⟩ := h; exact ⟨A, c, vs, h.later hb⟩
theorem WalAt.low (h : WalAt w T g d V) {k : Nat} (hk : T k) : k < w.heap.size := by obtain ⟨A, c, vs, h⟩ := h; exact h.low k hk
theorem WalAt.inT (h : WalAt w T g d V) : T g := by obtain ⟨A, c, vs, h⟩ := h; exact h.inT
theorem WalIn.c0 (h : WalIn w T g d V A c vs) : w.cell? ⟨g, 0, none⟩ = some (.int .i64 V.most) := by simp [World.cell?, h.box]
theorem WalIn.c1 (h : WalIn w T g d V A c vs) : w.cell? ⟨g, 1, none⟩ = some (.slice A V.parts.length c) := by simp [World.cell?, h.box]
theorem WalIn.c2 (h : WalIn w T g d V A c vs) : w.cell? ⟨g, 2, none⟩ = some (.pointer (some ⟨d, 0, none⟩)) := by simp [World.cell?, h.box]
theorem WalIn.c3 (h : WalIn w T g d V A c vs) : w.cell? ⟨g, 3, none⟩ = some (.bool V.broken) := by simp [World.cell?, h.box]
theorem WalIn.fz (h : WalIn w T g d V A c vs) (i : Nat) : w.frozen? ⟨g, i, none⟩ = false := by simp [World.frozen?, h.box]
/-- The k-th slice of a row of slices. -/
theorem PartsAt.at_ (h : PartsAt w T A c ps vs) {k : Nat} (hk : k < ps.length) : ∃ b p B cb, A = some ⟨b, 0, none⟩ ∧ ps[k]? = some p ∧ w.cell? ⟨b, k, none⟩ = some (.slice B p.length cb) ∧ w.ownsRow 0 5 1 (.slice B p.length cb) p.length (p.map (Value.int .u8)) ∧ (∀ h, blk B = some h → T h) ∧ Oct p := by
  obtain ⟨p, hp⟩ : ∃ p, ps[k]? = some p := ⟨ps[k], List.getElem?_eq_getElem hk⟩
  obtain ⟨B, cb, h1, h2, h3, h4⟩ := h.each k p hp
  rcases h.row.2 with ⟨_, e⟩ | ⟨b, cap, cur, e, _⟩
  · omega
  · injection e with e1 e2 e3
    subst e1
    subst e3
    exact ⟨b, p, B, cb, rfl, hp, (h.row.cellAt k (by omega)).trans h1, h2, h3, h4⟩
end

theorem len_nil (w : World) : Calls Tryz.prog 32 #[.pointer none] w fun e w' => e = .returned (.int .i64 0) ∧ w = w' := by
  go_enter Tryz.func32, Tryz.ntmps32
  go_wp2
  go_ret
  exact ⟨rfl, rfl⟩
theorem left_nilW (w : World) : Calls Tryz.prog 30 #[.pointer none] w fun e w' => e = .returned (.int .i64 0) ∧ w = w' := by
  go_enter Tryz.func30, Tryz.ntmps30
  go_wp2
  go_ret
  exact ⟨rfl, rfl⟩
theorem most_nil (w : World) : Calls Tryz.prog 16 #[.pointer none] w fun e w' => e = .returned (.int .i64 0) ∧ w = w' := by
  go_enter Tryz.func16, Tryz.ntmps16
  go_wp2
  go_ret
  exact ⟨rfl, rfl⟩
theorem broken_nil (w : World) : Calls Tryz.prog 27 #[.pointer none] w fun e w' => e = .returned (.bool false) ∧ w = w' := by
  go_enter Tryz.func27, Tryz.ntmps27
  go_wp2
  go_ret
  exact ⟨rfl, rfl⟩
theorem snap_nil (w : World) : Calls Tryz.prog 18 #[.pointer none] w fun e w' => e = .returned (.slice none 0 0) ∧ w = w' := by
  go_enter Tryz.func18, Tryz.ntmps18
  go_wp2
  go_ret
  exact ⟨rfl, rfl⟩
theorem all_nil (w : World) : Calls Tryz.prog 20 #[.pointer none] w fun e w' => e = .returned (.slice none 0 0) ∧ w = w' := by
  go_enter Tryz.func20, Tryz.ntmps20
  go_wp2
  go_ret
  exact ⟨rfl, rfl⟩

section
variable {w : World} {T : Nat → Prop} {g d : Nat} {V : AW}
theorem len_any (h : WalAt w T g d V) (hl : V.parts.length ≤ 1000000) : Calls Tryz.prog 32 #[.pointer (some ⟨g, 0, none⟩)] w fun e w' => e = .returned (.int .i64 ((V.parts.length : Int) - 1)) ∧ w = w' := by
  obtain ⟨A, c, vs, h⟩ := h
  have c1 := h.c1
  clear h
  generalize V.parts.length = n at *
  have hw : IntKind.i64.wrap ((n : Int) - 1) = (n : Int) - 1 := i64_fit (by omega)
  go_enter Tryz.func32, Tryz.ntmps32
  go_wp2
  go_ret
  exact ⟨rfl, rfl⟩
theorem most_any (h : WalAt w T g d V) : Calls Tryz.prog 16 #[.pointer (some ⟨g, 0, none⟩)] w fun e w' => e = .returned (.int .i64 V.most) ∧ w = w' := by
  obtain ⟨A, c, vs, h⟩ := h
  have c1 := h.c0
  clear h
  go_enter Tryz.func16, Tryz.ntmps16
  go_wp2
  go_ret
  exact ⟨rfl, rfl⟩
theorem broken_any (h : WalAt w T g d V) : Calls Tryz.prog 27 #[.pointer (some ⟨g, 0, none⟩)] w fun e w' => e = .returned (.bool V.broken) ∧ w = w' := by
  obtain ⟨A, c, vs, h⟩ := h
  have c1 := h.c3
  clear h
  go_enter Tryz.func27, Tryz.ntmps27
  go_wp2
  go_ret
  exact ⟨rfl, rfl⟩
end

set_option maxHeartbeats 1000000 in
theorem cost_any {w : World} {T : Nat → Prop} {A : Option Addr} {c : Nat} {ps : List (List Int)} {vs : List Value} (h : PartsAt w T A c ps vs) (hT : ∀ k, T k → k < w.heap.size) (hb : costM ps ≤ 1000000) (m : Int) :
    Calls Tryz.prog 77 #[.agg #[.int .i64 m, .slice A ps.length c]] w fun e w' => e = .returned (.int .i64 (costM ps)) ∧ Below w.heap.size w w' := by
  have H := Lib.hid h
  have HT := Lib.hid hT
  obtain ⟨n, hn⟩ : ∃ n, n = ps.length := ⟨_, rfl⟩
  have HN := Lib.hid hn
  have HC := Lib.hid (show ∀ k p, ps[k]? = some p → costM (ps.take (k + 1)) = costM (ps.take k) + (p.length + 12) ∧ costM (ps.take (k + 1)) ≤ 1000000 from fun k p hp => ⟨costM_snoc hp, Nat.le_trans (costM_take ps _) hb⟩)
  have hnb : n ≤ 1000000 := by have := costM_len ps; omega
  rw [← hn]
  clear h hT hn
  go_enter Tryz.func77, Tryz.ntmps77
  go_wp2_with fail
  go_loopw [3, 9] (fun s i wr => ∃ k : Nat, i = .int .i64 k ∧ s = .int .i64 (costM (ps.take k)) ∧ k ≤ n ∧ Hid (Below w.heap.size w wr)) (fun s i _ => n - (match i with | .int _ k => k.toNat | _ => 0))
  case atStart => exact ⟨0, rfl, by simp [costM], Nat.zero_le _, Lib.hid ((Below.refl _ w).alloc (Nat.le_refl _) _)⟩
  case round =>
    obtain ⟨k, rfl, rfl, hk, HB⟩ := hrel
    by_cases hkn : k < n
    · have hkk : (k : Int) < n := by omega
      have k0 : (0 : Int) ≤ (k : Int) := by omega
      obtain ⟨b, p, B, cb, hA, hp, hcell, hrow, _, _⟩ := H.out.at_ (k := k) (by rw [← HN.out]; exact hkn)
      subst hA
      have hcw := (HB.out.cell (p := ⟨b, k, none⟩) (World.block_lt_of_cell? w _ hcell)).trans hcell
      obtain ⟨hs1, hs2⟩ := HC.out k p hp
      obtain ⟨s2, hs2e⟩ : ∃ s2, s2 = costM (ps.take (k + 1)) := ⟨_, rfl⟩
      have HS2 := Lib.hid hs2e
      rw [← hs2e] at hs1 hs2
      clear hs2e
      generalize costM (ps.take k) = s1 at *
      generalize p.length = pl at *
      have HCO := Lib.hid (fun W => costOf_any B pl cb W (by omega))
      have hsum : IntKind.i64.wrap ((s1 : Int) + ((pl : Int) + 12)) = (s2 : Int) := by rw [i64_fit (by omega)]; omega
      clear hcell hrow hs1 hp
      go_wp2_with (go_at_call 111; refine (HCO.out _).mono ?_; rintro e w' ⟨rfl, rfl⟩)
      go_roundw
      case rel => exact ⟨k + 1, by go_num, by rw [HS2.out], by omega, HB⟩
      case measure => simp; omega
    · obtain rfl : k = n := by omega
      have HZ := Lib.hid (show costM (ps.take k) = costM ps by rw [HN.out, List.take_length])
      generalize costM (ps.take k) = s1 at *
      go_wp2
      go_ret
      rw [HZ.out]
      exact ⟨rfl, HB.out⟩

set_option maxHeartbeats 1000000 in
theorem left_any' {w : World} {T : Nat → Prop} {g d : Nat} {V : AW} (h : WalAt w T g d V) (hm : Lim V.most) (hb : costM V.parts ≤ 1000000) :
    Calls Tryz.prog 30 #[.pointer (some ⟨g, 0, none⟩)] w fun e w' => e = .returned (.int .i64 (V.most - (costM V.parts : Int))) ∧ Below w.heap.size w w' := by
  obtain ⟨A, c, vs, h⟩ := h
  have c0 := h.c0
  have c1 := h.c1
  have HCO := Lib.hid (fun (W : World) (hW : Below w.heap.size w W) => cost_any (h.later hW).parts (h.later hW).low hb V.most)
  have hlt := lt_of_block h.box
  generalize hcs : costM V.parts = cs at *
  generalize V.parts.length = n at *
  obtain ⟨m, hmm⟩ : ∃ m, m = V.most := ⟨_, rfl⟩
  rw [← hmm] at c0 HCO hm ⊢
  have hw : IntKind.i64.wrap (m - (cs : Int)) = m - (cs : Int) := i64_fit (by have := hm.1; have := hm.2; omega)
  have HW := Lib.hid (And.intro c0 c1)
  clear h hmm hcs hm hb c0 c1
  go_enter Tryz.func30, Tryz.ntmps30
  have s1 := HW.out.1
  have s2 := HW.out.2
  go_upto_region 3 with fail
  go_region_held3 (fun W => W.cell? ⟨g, 0, none⟩ = some (.int .i64 m) ∧ W.cell? ⟨g, 1, none⟩ = some (.slice A n c) ∧ Below w.heap.size w W) (first | exact ⟨s1, s2, below_drewN (Below.refl _ _) 1⟩ | exact S2.out) (first | (go_at_call 77; refine (HCO.out _ (below_drewN (Below.refl _ _) 1)).mono ?_; rintro e w2 ⟨rfl, hb2⟩; have S2 := Lib.hid (show w2.cell? ⟨g, 0, none⟩ = some (.int .i64 m) ∧ w2.cell? ⟨g, 1, none⟩ = some (.slice A n c) ∧ Below w.heap.size w w2 from ⟨(hb2.cell (p := ⟨g, 0, none⟩) hlt).trans s1, (hb2.cell (p := ⟨g, 1, none⟩) hlt).trans s2, below_drewN (Below.refl _ _) 1 |>.trans hb2⟩); clear hb2))
  all_goals (
    go_wp2
    go_ret
    exact ⟨rfl, S2.out.2.2⟩)

end Go.Proofs.YtienabfilnpieaaGreat

namespace Go.Proofs.YtienabfilnpieaaGreat
open Go.RowKit
set_option linter.unusedVariables false
set_option linter.unusedSimpArgs false
set_option maxRecDepth 100000

theorem Sl.ofRow {w : World} {base n c : Nat} {A : Option Addr} {bs : List Int} (h : w.ownsRow base 5 1 (.slice A n c) bs.length (bs.map (Value.int .u8))) (hn : n = bs.length) : Sl w A c bs := by
  subst hn
  exact New.sl (B := base) h
/-- Bytes of the call's own. -/
def GivesV (w : World) (bs : List Int) (e : Ending) (w' : World) : Prop := ∃ A c, e = .returned (.slice A bs.length c) ∧ New w.heap.size w' A c bs ∧ Below w.heap.size w w'
/-- Rows of bytes of the call's own. -/
structure RowsAt (w : World) (base : Nat) (v : Value) (ps : List (List Int)) (vs : List Value) : Prop where
  row : w.ownsRow base 33 1 v ps.length vs
  each : ∀ (i : Nat) (p : List Int), ps[i]? = some p → ∃ (B : Option Addr) (cb : Nat), vs[i]? = some (Value.slice B p.length cb) ∧ w.ownsRow base 5 1 (.slice B p.length cb) p.length (p.map (Value.int .u8))
def GivesRows (w : World) (ps : List (List Int)) (e : Ending) (w' : World) : Prop := ∃ v vs, e = .returned v ∧ RowsAt w' w.heap.size v ps vs ∧ Below w.heap.size w w'

set_option maxHeartbeats 1000000 in
theorem snap_any {w : World} {T : Nat → Prop} {g d : Nat} {V : AW} (h : WalAt w T g d V) {s : List Int} (hs : V.parts[0]? = some s) (hb : s.length ≤ 1000000) :
    Calls Tryz.prog 18 #[.pointer (some ⟨g, 0, none⟩)] w (GivesB w s) := by
  obtain ⟨A, c, vs, h⟩ := h
  have c1 := h.c1
  have hlen : 0 < V.parts.length := (List.getElem?_eq_some_iff.1 hs).1
  obtain ⟨b, p, B, cb, hA, hp, hcell, hrow, _, hoct⟩ := h.parts.at_ hlen
  obtain rfl : p = s := by rw [hs] at hp; exact (Option.some.inj hp).symm
  subst hA
  have HC := Lib.hid (clone_b B cb p w (Sl.ofRow hrow rfl) (by omega))
  generalize V.parts.length = n at *
  have hn0 : (0 : Int) < n := by omega
  have hn1 : (0 : Int) ≤ 0 := by omega
  have HP := Lib.hid hb
  clear h hrow hoct hp hs hb
  obtain ⟨pl, hpl⟩ : ∃ pl, pl = p.length := ⟨_, rfl⟩
  rw [← hpl] at HC hcell
  clear hpl
  go_enter Tryz.func18, Tryz.ntmps18
  go_wp2_with (go_at_call 65; refine HC.out.mono ?_; rintro e w' ⟨A1, c1, rfl, hn, hb⟩; have HN := Lib.hid hn; have HB := Lib.hid hb; clear hn hb)
  go_ret
  exact ⟨A1, c1, rfl, HN.out, HB.out⟩

theorem infoBytes : (Tryz.prog.info? 33).map (fun i => (i.zero, i.size, i.bytes)) = some (some (.slice none 0 0), 1, 24) := by kernel_rfl

theorem own_apart {w : World} {b1 b2 n m : Nat} {e1 e2 : TypeId} {v v' : Value} {xs ys : List Value} (hne : e1 ≠ e2) (h : w.ownsRow b1 e1 1 v n xs) (h' : w.ownsRow b2 e2 1 v' m ys) : v.ownBlock = none ∨ v.ownBlock ≠ v'.ownBlock := by
  rcases h.2 with ⟨rfl, _⟩ | ⟨g, cap, cur, rfl, _, hg, _⟩
  · exact .inl rfl
  · right
    intro e
    rcases h'.2 with ⟨rfl, _⟩ | ⟨g', cap', cur', rfl, _, hg', _⟩
    · simp [Value.ownBlock] at e
    · have e2 : g = g' := by simpa [Value.ownBlock] using e
      subst e2
      rw [hg] at hg'
      simp at hg'
      exact hne hg'.2
theorem RowsAt.later {w w' : World} {base : Nat} {v : Value} {ps : List (List Int)} {vs : List Value} (h : RowsAt w base v ps vs) (hb : Below w.heap.size w w') : RowsAt w' base v ps vs :=
  ⟨row_later h.row hb, fun i p hp => by
    obtain ⟨B, cb, h1, h2⟩ := h.each i p hp
    exact ⟨B, cb, h1, row_later h2 hb⟩⟩
/-- One row more. -/
theorem RowsAt.more {w w' : World} {base : Nat} {v v' : Value} {ps : List (List Int)} {vs : List Value} (h : RowsAt w base v ps vs) {p : List Int} {A : Option Addr} {c : Nat} (hp : w.ownsRow base 5 1 (.slice A p.length c) p.length (p.map (Value.int .u8)))
    (hg : w.grownBy w' v.ownBlock) (hr : w'.ownsRow base 33 1 v' (ps.length + 1) (vs ++ [.slice A p.length c])) : RowsAt w' base v' (ps ++ [p]) (vs ++ [.slice A p.length c]) := by
  have hl : vs.length = ps.length := by have := h.row.1; omega
  have hne : (5 : TypeId) ≠ 33 := by decide
  refine ⟨by rw [List.length_append]; exact hr, fun i q hq => ?_⟩
  by_cases hi : i < ps.length
  · rw [List.getElem?_append_left hi] at hq
    obtain ⟨B, cb, h1, h2⟩ := h.each i q hq
    exact ⟨B, cb, by rw [List.getElem?_append_left (by omega)]; exact h1, h2.kept hg (own_apart hne h2 h.row)⟩
  · rw [List.getElem?_append_right (by omega)] at hq
    have hi0 : i - ps.length = 0 := by
      rcases hd : i - ps.length with _ | j
      · rfl
      · rw [hd] at hq; simp at hq
    rw [hi0] at hq
    have hq : p = q := by simpa using hq
    subst hq
    exact ⟨A, c, by rw [List.getElem?_append_right (by omega), hl, hi0]; rfl, hp.kept hg (own_apart hne hp h.row)⟩

set_option maxHeartbeats 2000000 in
theorem all_any {w : World} {T : Nat → Prop} {g d : Nat} {V : AW} (h : WalAt w T g d V) (h1 : 1 ≤ V.parts.length) (hb : costM V.parts ≤ 1000000) :
    Calls Tryz.prog 20 #[.pointer (some ⟨g, 0, none⟩)] w (GivesRows w (V.parts.drop 1)) := by
  obtain ⟨i0, hi, hz0, hz1, hz2⟩ := info_parts infoBytes
  obtain ⟨A, c, vs, h⟩ := h
  have c1 := h.c1
  have H := Lib.hid h.parts
  have HLW := Lib.hid h.low
  obtain ⟨b, p0, B0, cb0, hA, hp0, _⟩ := h.parts.at_ h1
  subst hA
  obtain ⟨n, hn⟩ : ∃ n, n = V.parts.length := ⟨_, rfl⟩
  have HN := Lib.hid hn
  have hle := own_form h.parts.row
  obtain ⟨A', c', hce, hnc, hcm⟩ := hle
  injection hce with hce1 _ hce
  subst hce
  subst hce1
  have hbnd := costM_len V.parts
  have HPB := Lib.hid (fun k p (hp : V.parts[k]? = some p) => Nat.le_trans (costM_mem hp) hb)
  rw [← hn] at c1 h1 hnc hbnd
  obtain ⟨R, hR⟩ : ∃ R, R = V.parts.drop 1 := ⟨_, rfl⟩
  have HR := Lib.hid hR
  have HRL := Lib.hid (show R.length = n - 1 by rw [hR, List.length_drop, ← hn])
  rw [← hR]
  clear h hn hp0 hR
  by_cases hc1 : c = 1
  · subst hc1
    obtain rfl : n = 1 := by omega
    have hr0 : R = [] := List.eq_nil_of_length_eq_zero (by rw [HRL.out])
    have HR0 := Lib.hid hr0
    clear hr0
    go_enter Tryz.func20, Tryz.ntmps20
    go_wp2_with fail
    go_loopw [3, 15] (fun s i wr => i = .int .i64 0 ∧ s = .slice none 0 0 ∧ wr = w) (fun _ _ _ => 0)
    case atStart => exact ⟨rfl, rfl, rfl⟩
    case round =>
      obtain ⟨rfl, rfl, rfl⟩ := hrel
      go_wp2
      go_ret
      rw [HR0.out]
      exact ⟨_, [], rfl, ⟨World.ownsRow_nil _ _ _ _, fun i p hp => by simp at hp⟩, Below.refl _ _⟩
  · have hc2 : ¬ c = 1 := hc1
    have hcd : (c == 1) = false := by simp [hc1]
    go_enter Tryz.func20, Tryz.ntmps20
    go_wp2_with fail
    go_loopw [3, 15] (fun s i wr => ∃ k : Nat, i = .int .i64 k ∧ k ≤ n - 1 ∧ Hid (∃ vs', RowsAt wr w.heap.size s (R.take k) vs' ∧ Below w.heap.size w wr)) (fun s i _ => n - (match i with | .int _ k => k.toNat | _ => 0))
    case atStart => exact ⟨0, rfl, Nat.zero_le _, Lib.hid ⟨[], ⟨World.ownsRow_nil _ _ _ _, fun i p hp => by simp at hp⟩, Below.refl _ _⟩⟩
    case round =>
      obtain ⟨k, rfl, hk, HB⟩ := hrel
      obtain ⟨vs', hrows, hbel⟩ := HB.out
      by_cases hkn : k < n - 1
      · have hkk : (k : Int) < ((n - 1 : Nat) : Int) := by omega
        have k0 : (0 : Int) ≤ (k : Int) := by omega
        obtain ⟨b', p, B, cb, hA, hp, hcell, hrow, hBT, hoct⟩ := H.out.at_ (k := k + 1) (by rw [← HN.out]; omega)
        injection hA with hA
        injection hA with hA
        subst hA
        have hcw : wr.cell? ⟨b, 1 + k, none⟩ = some (.slice B p.length cb) := by rw [Nat.add_comm]; exact (hbel.cell (p := ⟨b, k + 1, none⟩) (World.block_lt_of_cell? w _ hcell)).trans hcell
        have hrow' := row_turn (w' := wr) hrow (T := fun q => q < w.heap.size) (fun q hq => by have := (hrow.lt q (by cases B <;> simp_all [Value.ownBlock, blk])).2; exact this) (fun q hq => hbel.block q hq)
        have hpb := HPB.out _ _ hp
        have HC := Lib.hid (clone_b B cb p wr (Sl.ofRow hrow' rfl) (by omega))
        have hkR : R[k]? = some p := by rw [HR.out, List.getElem?_drop, Nat.add_comm]; exact hp
        have htk : R.take (k + 1) = R.take k ++ [p] := by rw [List.take_add_one, hkR]; rfl
        have HTK := Lib.hid htk
        have hlk : (R.take k).length = k := by rw [List.length_take, HRL.out]; omega
        have HLK := Lib.hid hlk
        have hr1 := hrows.row
        rw [hlk] at hr1
        have HROW := Lib.hid hrows
        have HR1 := Lib.hid hr1
        have HBL := Lib.hid hbel
        obtain ⟨pl, hpl⟩ : ∃ pl, pl = p.length := ⟨_, rfl⟩
        have HPL := Lib.hid hpl
        rw [← hpl] at HC hcw
        clear hrows hbel hcell hrow hrow' hBT hoct hp hkR htk hlk hr1 hpl
        go_wp2_with (first
          | (go_at_call 65; refine HC.out.mono ?_; rintro e w1 ⟨A1, c1', rfl, hn1, hb1⟩; have HN1 := Lib.hid hn1; have HB1 := Lib.hid hb1; clear hn1 hb1)
          | (at_builtin; refine wpList_append_own _ rfl (.tmp 19) (.tmp 22) 29 rfl w.heap.size 33 i0 (.slice none 0 0) 1 24 Tryz.underlying29 hi hz0 hz1 hz2 rfl (by decide) _ k vs' rfl ((row_later HR1.out HB1.out).alloc _) ⟨w1.heap.size, 0, none⟩ 1 1 [.slice A1 p.length c1'] rfl rfl (cell_one_new _ _ _) (by simp [Value.oneCell']) (by unfold maxLen; omega) (by omega) (by have := HBL.out.size; have := HB1.out.size; simp; omega) ?_; intro v' w2 hown' hgrow _; have HO := Lib.hid hown'; have HG := Lib.hid hgrow; clear hown' hgrow))
        go_roundw
        case rel =>
          refine ⟨k + 1, by go_num, by omega, Lib.hid ⟨vs' ++ [.slice A1 p.length c1'], ?_, ?_⟩⟩
          · rw [HTK.out]
            have hx := (HROW.out.later HB1.out).row
            refine RowsAt.more (w := w1.alloc (.cells #[.slice A1 p.length c1'] 33)) ⟨((HROW.out.later HB1.out).later ((Below.refl _ w1).alloc (Nat.le_refl _) _)).row, ((HROW.out.later HB1.out).later ((Below.refl _ w1).alloc (Nat.le_refl _) _)).each⟩ ?_ HG.out (by rw [HLK.out]; exact HO.out)
            exact row_later (New.low HN1.out HBL.out.size) ((Below.refl _ w1).alloc (Nat.le_refl _) _)
          · have hb1 := HBL.out.trans (HB1.out.mono HBL.out.size)
            exact (hb1.alloc hb1.size _).grown HG.out (by have := hb1.size; simp; omega) (fun q hq => (HR1.out.lt q hq).1)
        case measure => simp; omega
      · obtain rfl : k = n - 1 := by omega
        have HTK := Lib.hid (show R.take (n - 1) = R by rw [← HRL.out, List.take_length])
        have HRW := Lib.hid hrows
        have HBL := Lib.hid hbel
        clear hrows hbel
        go_wp2
        go_ret
        have hx := HRW.out
        rw [HTK.out] at hx
        exact ⟨_, vs', rfl, hx, HBL.out⟩

end Go.Proofs.YtienabfilnpieaaGreat

namespace Go.Proofs.YtienabfilnpieaaGreat
open Go.RowKit
set_option linter.unusedVariables false
set_option linter.unusedSimpArgs false
set_option maxRecDepth 100000

theorem indexI_yes (A : Option Addr) (c : Nat) (xs : List Int) (y : Int) (w : World) (h : RdI w A xs) (hs : xs.length ≤ 1000000) (hc : xs.length ≤ c) (hy : y ∈ xs) :
    Calls Tryz.prog 123 #[.slice A xs.length c, .int .i64 y] w fun e w' => (∃ k : Nat, k < xs.length ∧ e = .returned (.int .i64 k)) ∧ w = w' := by
  have h0 : 0 < xs.length := List.length_pos_of_mem hy
  obtain ⟨b, o, rfl, h1⟩ := h h0
  obtain ⟨m, hm, hme⟩ := List.getElem_of_mem hy
  have hmd : xs.getD m 0 = y := by simp [List.getD, List.getElem?_eq_getElem hm, hme]
  obtain ⟨n, hn⟩ : ∃ n, n = xs.length := ⟨_, rfl⟩
  rw [← hn] at h1 hs hc hm ⊢
  have H1 := Lib.hid h1
  have HM := Lib.hid hmd
  clear h h1 hn h0 hy hme hmd
  go_enter Tryz.func123, Tryz.ntmps123
  go_wp2
  go_loopw [8] (fun i wr => ∃ k : Nat, i = .int .i64 k ∧ k ≤ m ∧ wr = w) (fun i _ => n - (match i with | .int _ k => k.toNat | _ => 0))
  case atStart => exact ⟨0, rfl, Nat.zero_le _, rfl⟩
  case round =>
    obtain ⟨k, rfl, hk, rfl⟩ := hrel
    have hkn : k < n := by omega
    have hkk : (k : Int) < n := by omega
    have k0 : (0 : Int) ≤ (k : Int) := by omega
    have c1 := H1.out k hkn
    by_cases he : y = xs.getD k 0
    · have n2 : (y == xs.getD k 0) = true := by rw [beq_iff_eq]; exact he
      have n3 : decide (y = xs.getD k 0) = true := decide_eq_true he
      have HE := Lib.hid he
      clear he
      generalize xs.getD k 0 = x at *
      go_wp2
      go_ret
      exact ⟨⟨k, hkn, rfl⟩, rfl⟩
    · have hkm : k ≠ m := by rintro rfl; exact he HM.out.symm
      have n2 : (y == xs.getD k 0) = false := by simpa using he
      have n3 : decide (y = xs.getD k 0) = false := by simpa using he
      generalize xs.getD k 0 = x at *
      go_wp2
      go_roundw
      case rel => exact ⟨k + 1, by go_num, by omega, by trivial⟩
      case measure => simp; omega

theorem containsI_any (A : Option Addr) (c : Nat) (xs : List Int) (y : Int) (w : World) (h : RdI w A xs) (hs : xs.length ≤ 1000000) (hc : xs.length ≤ c) :
    Calls Tryz.prog 98 #[.slice A xs.length c, .int .i64 y] w fun e w' => e = .returned (.bool (decide (y ∈ xs))) ∧ w = w' := by
  by_cases hy : y ∈ xs
  · have HZ := Lib.hid (decide_eq_true hy)
    have HE := Lib.hid (indexI_yes A c xs y w h hs hc hy)
    generalize xs.length = n at *
    clear h hy
    go_enter Tryz.func98, Tryz.ntmps98
    go_wp2_with (go_at_call 123; refine HE.out.mono ?_; rintro e w' ⟨⟨k, hk, rfl⟩, rfl⟩)
    go_ret
    rw [HZ.out]
    refine ⟨?_, rfl⟩
    simp
  · rw [decide_eq_false hy]
    exact containsI_no A c xs y w h hs hc hy

/-- Is a file there? as a name is among those told. -/
theorem mem_names (M : AD) (k : Nat) (hk : k < 4) : ((k : Int) ∈ M.names) ↔ (M.files (k : Int)).isSome = true := by
  unfold AD.names AD.below
  rw [List.mem_filter]
  constructor
  · exact fun h => h.2
  · exact fun h => ⟨List.mem_map.2 ⟨k, List.mem_range.2 hk, rfl⟩, h⟩

def AD.dropC (M : AD) : Int := if (M.files 1).isSome then M.opC 1 [] else 0
def AD.dropM (M : AD) : AD := if (M.files 1).isSome then M.opM 1 [] (M.met.drop 1) else M

set_option maxHeartbeats 1000000 in
theorem dropNew_any {w : World} {S : Nat → Prop} {d : Nat} {M : AD} (h : DiskAt w S d M) (hops : M.ops < 4611686018427387904) :
    Calls Tryz.prog 59 #[.pointer (some ⟨d, 0, none⟩)] w fun e w' => e = .returned (.int .i64 M.dropC) ∧ After S d w M.dropM w' := by
  have HF := Lib.hid (files_any h)
  have H := Lib.hid h
  have hnl : Hid (M.names.length ≤ 4) := below_length M 4
  have hmem := mem_names M 1 (by omega)
  obtain ⟨NS, hNS⟩ : ∃ NS, NS = M.names := ⟨_, rfl⟩
  rw [← hNS] at HF hnl hmem
  rcases hs : (M.files 1).isSome with _ | _
  · have hc : Hid (M.dropC = 0 ∧ M.dropM = M) := by unfold Hid AD.dropC AD.dropM; simp [hs]
    have hdn : decide ((1 : Int) ∈ NS) = false := decide_eq_false (fun e => by have := hmem.1 e; simp at this; rw [hs] at this; cases this)
    have HDN := Lib.hid hdn
    clear hmem hs hNS h hdn
    go_enter Tryz.func59, Tryz.ntmps59
    go_wp2_with (first
      | (go_at_call 75; refine HF.out.mono ?_; rintro e w1 ⟨v, rfl, hown, hb⟩; obtain ⟨A, c, rfl, hc2, _⟩ := own_form hown; have HCI := Lib.hid (containsI_any A c NS 1 w1 (RdI.own hown) (by have := hnl.out; omega) hc2); rw [HDN.out] at HCI; have HB := Lib.hid hb; clear hown hb hc2)
      | (go_at_call 98; refine HCI.out.mono ?_; rintro e w2 ⟨rfl, rfl⟩))
    go_ret
    rw [hc.out.1, hc.out.2]
    exact ⟨rfl, After.same H.out HB.out⟩
  · have hc : Hid (M.dropC = M.opC 1 [] ∧ M.dropM = M.opM 1 [] (M.met.drop 1)) := by unfold Hid AD.dropC AD.dropM; simp [hs]
    have hdn : decide ((1 : Int) ∈ NS) = true := decide_eq_true (hmem.2 hs)
    have HDN := Lib.hid hdn
    have HRM := Lib.hid (fun W (hW : Below w.heap.size w W) => remove_any (H.out.later hW) (k := 1) (by decide) hops)
    clear hmem hs hNS h hdn
    go_enter Tryz.func59, Tryz.ntmps59
    go_wp2_with (first
      | (go_at_call 75; refine HF.out.mono ?_; rintro e w1 ⟨v, rfl, hown, hb⟩; obtain ⟨A, c, rfl, hc2, _⟩ := own_form hown; have HCI := Lib.hid (containsI_any A c NS 1 w1 (RdI.own hown) (by have := hnl.out; omega) hc2); rw [HDN.out] at HCI; have HB := Lib.hid hb; clear hown hb hc2)
      | (go_at_call 98; refine HCI.out.mono ?_; rintro e w2 ⟨rfl, rfl⟩)
      | (go_at_call 86; refine (HRM.out _ HB.out).mono ?_; rintro e w3 ⟨rfl, ha⟩; have HA := Lib.hid ha; clear ha))
    go_ret
    rw [hc.out.1, hc.out.2]
    exact ⟨rfl, After.then H.out (Turn.of_below HB.out) HA.out⟩

set_option maxHeartbeats 2000000 in
/-- Steps, one behind the other, up to the first one that has an error. -/
theorem inOrder_any {w : World} (b n c : Nat) (fid : Nat → FuncId) (caps : Nat → Array Value) (I : Nat → World → Prop) (Stop : Int → World → Prop) (hn : n ≤ 1000)
    (hcell : ∀ j W, j < n → I j W → W.cell? ⟨b, j, none⟩ = some (.func (.func (fid j)) #[] (caps j)))
    (hen : ∀ j W, j < n → (callFunc (fid j) (caps j)).run Tryz.prog W = .ok (.enter (fid j) (caps j)) W)
    (hstep : ∀ j W, j < n → I j W → Calls Tryz.prog (fid j) (caps j) W fun e W' => ∃ cc, e = .returned (.int .i64 cc) ∧ (cc = 0 → I (j + 1) W') ∧ (cc ≠ 0 → Stop cc W'))
    (h0 : I 0 w) :
    Calls Tryz.prog 52 #[.slice (some ⟨b, 0, none⟩) n c] w fun e w' => ∃ cc, e = .returned (.int .i64 cc) ∧ (cc = 0 → I n w') ∧ (cc ≠ 0 → Stop cc w') := by
  have HC := Lib.hid hcell
  have HE := Lib.hid hen
  have HS := Lib.hid hstep
  have H0 := Lib.hid h0
  clear hcell hen hstep h0
  go_enter Tryz.func52, Tryz.ntmps52
  go_wp2
  go_step3
  go_wp2
  go_step3
  go_wp2
  go_loopw [3, 8] (fun s i wr => ∃ k : Nat, i = .int .i64 k ∧ s = .int .i64 0 ∧ k ≤ n ∧ Hid (I k wr)) (fun s i _ => n - (match i with | .int _ k => k.toNat | _ => 0))
  case atStart => exact ⟨0, rfl, rfl, Nat.zero_le _, H0⟩
  case round =>
    obtain ⟨k, rfl, rfl, hk, HI⟩ := hrel
    by_cases hkn : k < n
    · have hkk : (k : Int) < n := by omega
      have k0 : (0 : Int) ≤ (k : Int) := by omega
      have hc := HC.out k wr hkn HI.out
      have hen := fun W => HE.out k W hkn
      have HT := Lib.hid (HS.out k wr hkn HI.out)
      generalize hfk : fid k = fk at *
      generalize hck : caps k = ck at *
      clear hfk hck
      go_wp2_with fail
      refine HT.out.mono ?_
      rintro e w1 ⟨cc, rfl, h1, h2⟩
      have HA := Lib.hid h1
      have HB := Lib.hid h2
      clear h1 h2 hc hen
      by_cases hz : cc = 0
      · subst hz
        go_wp2
        go_roundw
        case rel => exact ⟨k + 1, by go_num, by trivial, by omega, Lib.hid (HA.out (by simp))⟩
        case measure => simp; omega
      · have t1 : (cc == 0) = false := by simp [hz]
        have HZ := Lib.hid hz
        clear hz
        go_wp2
        rw [Exit.noGoto_ret]
        go_ret
        exact ⟨cc, rfl, fun e => absurd e HZ.out, fun _ => HB.out HZ.out⟩
    · obtain rfl : k = n := by omega
      go_wp2
      rw [Exit.noGoto_ret]
      go_ret
      exact ⟨0, rfl, fun _ => HI.out, fun e => absurd rfl e⟩

end Go.Proofs.YtienabfilnpieaaGreat
