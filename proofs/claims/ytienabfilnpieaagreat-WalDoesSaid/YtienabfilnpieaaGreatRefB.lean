/-
  The document's own bytes for a log (quiverref04): numbers, limits, heads, frames, costs; are bytes the same?
  The document's own heads, frames, parts (quiverref04).
  The document's own part of a file (quiverref04.part).
  The document's own reading of a file (quiverref04.Read): pure, and its facts.
-/
import Derived.Test.YtienabfilnpieaaGreatWalH
import Derived.Test.YtienabfilnpieaaGreatMarkRef
namespace Go.Proofs.YtienabfilnpieaaGreat
open Go.RowKit
set_option linter.unusedVariables false
set_option linter.unusedSimpArgs false
set_option linter.unusedSimpArgs false
set_option maxRecDepth 100000

set_option maxHeartbeats 1000000 in
theorem rHigh_any (x : Int) (m : Nat) (w : World) (h1 : 1 ≤ m) (h8 : m ≤ 8) (h0 : 0 ≤ x) (hx : x < 18446744073709551616) :
    Calls Tryz.prog 99 #[.int .u64 x, .int .i64 m] w (GivesB w (fldOf m x)) := by
  obtain ⟨i0, hi, hz0, hz1, hz2⟩ := info_parts info5
  have HF := Lib.hid (fldOf_yes x h1 h8)
  go_enter Tryz.func99, Tryz.ntmps99
  go_wp2
  go_loopw [5, 6] (fun v i wr => ∃ k : Nat, k ≤ m ∧ i = .int .i64 ((m : Int) - 1 - (k : Int)) ∧ wr.ownsRow w.heap.size 5 1 v k (((fld m x).take k).map (Value.int .u8)) ∧ Below w.heap.size w wr) (fun _ i _ => (intOf i + 1).toNat)
  case atStart => exact ⟨0, Nat.zero_le _, by simp, World.ownsRow_nil _ _ _ _, Below.refl _ _⟩
  case round =>
    obtain ⟨k, hk, rfl, hown, hb⟩ := hrel
    by_cases hkm : k < m
    · have hge : (0 : Int) ≤ (m : Int) - 1 - (k : Int) := by omega
      go_wp2_with (at_builtin; refine wpList_append_own _ rfl _ _ 33 rfl w.heap.size 5 i0 (.int .u8 0) 1 1 Tryz.underlying33 hi hz0 hz1 hz2 rfl (by decide) _ _ _ rfl (hown.alloc _) ⟨wr.heap.size, 0, none⟩ 1 1 [.int .u8 (x / 2 ^ (8 * (m - 1 - k)) % 256)] rfl rfl ?c1 ?c2 ?c3 ?c4 ?c5 ?_)
      case c1 => exact cell_one_new _ _ _
      case c2 => intro u hu; simp at hu; subst hu; rfl
      case c3 => unfold maxLen; omega
      case c4 => omega
      case c5 => have := hb.size; simp; omega
      · intro v' w2 hown' hgrow _
        have hb' : Below w.heap.size w w2 := (hb.alloc hb.size _).grown hgrow (by have := hb.size; simp; omega) (fun k hk => (hown.lt k hk).1)
        have ho : w2.ownsRow w.heap.size 5 1 v' (k + 1) (((fld m x).take (k + 1)).map (Value.int .u8)) := by
          rw [fld_take m k x hkm]
          simpa [Nat.add_assoc] using hown'
        clear hown' hgrow hown hb
        go_wp2
        go_roundw
        case rel => exact ⟨k + 1, by omega, by congr 1; omega, ho, hb'⟩
        case measure => simp [intOf]; omega
    · obtain rfl : k = m := by omega
      have hlt : (k : Int) - 1 - (k : Int) < 0 := by omega
      rw [List.take_of_length_le (by rw [fld_length]; omega)] at hown
      go_wp2
      go_ret
      rw [HF.out]
      exact gives_of ⟨_, rfl, by rw [fld_length]; exact hown, hb⟩

set_option maxHeartbeats 1000000 in
theorem rNumber_any (A : Option Addr) (c : Nat) (bs : List Int) (w : World) (hs : Sl w A c bs) (ho : Oct bs) (h7 : bs.length ≤ 7) :
    Calls Tryz.prog 60 #[.slice A bs.length c] w fun e w' => e = .returned (.int .u64 (val bs)) ∧ w = w' := by
  have H := Lib.hid hs
  have HO := Lib.hid ho
  obtain ⟨n, hn⟩ : ∃ n, n = bs.length := ⟨_, rfl⟩
  rw [← hn] at h7 ⊢
  have HN := Lib.hid hn
  clear hn hs ho
  go_enter Tryz.func60, Tryz.ntmps60
  go_wp2
  go_loop [3, 8] (fun x i => ∃ k : Nat, ∃ z : Int, k ≤ n ∧ i = .int .i64 k ∧ x = .int .u64 z ∧ Hid (z = val (bs.take k))) (fun _ i => n - (intOf i).toNat)
  case atStart => exact ⟨0, 0, Nat.zero_le _, rfl, rfl, by unfold Hid; simp [val]⟩
  case round =>
    obtain ⟨k, z, hk, rfl, rfl, HZ⟩ := hrel
    by_cases hlt : k < n
    · obtain ⟨b, o, rfl, _, hc⟩ := H.out.rd (by rw [← HN.out]; omega)
      have c1 := hc k (by rw [← HN.out]; omega)
      have b1 : (0 : Int) ≤ (k : Int) := by omega
      have b2 : (k : Int) < (n : Int) := by omega
      have hz0 : 0 ≤ z := by rw [HZ.out]; exact val_nonneg (HO.out.takeN k)
      have hz1 : z < 72057594037927936 := by rw [HZ.out]; exact val_seven (HO.out.takeN k) (by rw [List.length_take]; omega)
      have HS : Hid (val (bs.take (k + 1)) = z * 256 + bs.getD k 0) := by
        unfold Hid
        rw [HZ.out, take_snoc (by rw [← HN.out]; exact hlt), val_snoc]
      obtain ⟨y0, y1⟩ := HO.out.at_ k
      generalize bs.getD k 0 = y at *
      clear hc
      go_wp2
      go_round
      case rel =>
        refine ⟨k + 1, _, by omega, by go_num, rfl, ?_⟩
        unfold Hid
        rw [HS.out]
        try simp only [IntKind.wrap_u64]
        try omega
      case measure => simp [intOf]; omega
    · obtain rfl : k = n := by omega
      rw [List.take_of_length_le (by rw [← HN.out]; omega)] at HZ
      rw [show z = val bs from HZ.out]
      go_wp2
      go_ret
      exact ⟨rfl, rfl⟩

theorem rLimit_any (n : Int) (w : World) : Calls Tryz.prog 61 #[.int .i64 n] w fun e w' => e = .returned (.bool (decide (Lim n))) ∧ w = w' := by
  by_cases h1 : 64 ≤ n
  · have d1 : decide (64 ≤ n) = true := by simp [h1]
    have HZ : Hid (decide (Lim n) = decide (n ≤ 16000)) := by unfold Hid Lim; simp [h1]
    clear h1
    go_enter Tryz.func61, Tryz.ntmps61
    go_wp2
    go_ret
    rw [HZ.out]
    exact ⟨rfl, rfl⟩
  · have d1 : decide (64 ≤ n) = false := by simp; omega
    have HZ : Hid (decide (Lim n) = false) := by unfold Hid; rw [decide_eq_false_iff_not]; unfold Lim; omega
    clear h1
    go_enter Tryz.func61, Tryz.ntmps61
    go_wp2
    go_ret
    rw [HZ.out]
    exact ⟨rfl, rfl⟩

/-- A callee that only drew. -/
def Drew (w : World) (b : Bool) (e : Ending) (w' : World) : Prop := e = .returned (.bool b) ∧ ∃ q, w' = w.drewN q
set_option maxHeartbeats 2000000 in
theorem rSame_any (A A' : Option Addr) (c c' : Nat) (xs ys : List Int) (w : World) (h : Sl w A c xs) (h' : Sl w A' c' ys) :
    Calls Tryz.prog 62 #[.slice A xs.length c, .slice A' ys.length c'] w (Drew w (decide (xs = ys))) := by
  by_cases hl : xs.length = ys.length
  · obtain ⟨n, hn⟩ : ∃ n, n = xs.length := ⟨_, rfl⟩
    have HN := Lib.hid hn
    have HM := Lib.hid (hn.trans hl)
    have hm := h.most
    have hr := h.room
    rw [← hl, ← hn]
    rw [← hn] at hr
    have H := Lib.hid h
    have H' := Lib.hid h'
    have hd : ∀ k, k ≤ n → xs.take k = ys.take k → k < n → xs.getD k 0 = ys.getD k 0 → xs.take (k + 1) = ys.take (k + 1) := fun k hk e hkn e2 => by
      rw [take_snoc (by omega), take_snoc (by omega), e, e2]
    have HD := Lib.hid hd
    clear h h' hl hn hd
    go_enter Tryz.func62, Tryz.ntmps62
    go_wp2_with fail
    go_loopw [13] (fun i wr => ∃ k : Nat, i = .int .i64 k ∧ k ≤ n ∧ Hid (xs.take k = ys.take k) ∧ Hid (∃ q, wr = w.drewN q)) (fun i _ => n - (match i with | .int _ k => k.toNat | _ => 0))
    case atStart => exact ⟨0, rfl, Nat.zero_le _, Lib.hid rfl, Lib.hid ⟨0, rfl⟩⟩
    case round =>
      obtain ⟨k, rfl, hk, HK, HW⟩ := hrel
      by_cases hkn : k < n
      · have hkk : (k : Int) < n := by omega
        have k0 : (0 : Int) ≤ (k : Int) := by omega
        obtain ⟨b1, o1, rfl, _, hx⟩ := H.out.rd (by rw [← HN.out]; omega)
        obtain ⟨b2, o2, rfl, _, hy⟩ := H'.out.rd (by rw [← HM.out]; omega)
        have hx := hx k (by rw [← HN.out]; exact hkn)
        have hy := hy k (by rw [← HM.out]; exact hkn)
        have hx : wr.cell? ⟨b1, o1 + k, none⟩ = some (.int .u8 (xs.getD k 0)) := by obtain ⟨q, e⟩ := HW.out; rw [e]; exact hx
        have hy : wr.cell? ⟨b2, o2 + k, none⟩ = some (.int .u8 (ys.getD k 0)) := by obtain ⟨q, e⟩ := HW.out; rw [e]; exact hy
        by_cases hd : xs.getD k 0 = ys.getD k 0
        · have HE := Lib.hid (HD.out k hk HK.out hkn hd)
          rw [hd] at hx
          generalize ys.getD k 0 = y at *
          clear hd
          go_wp2_with fail
          go_quiet (fail)
          go_wp2
          go_roundw
          case rel => exact ⟨k + 1, by go_num, by omega, HE, Lib.hid (by obtain ⟨q, e⟩ := HW.out; exact ⟨q + nq, by rw [e, World.drewN_drewN]⟩)⟩
          case measure => simp; omega
        · have HF := Lib.hid (show decide (xs = ys) = false from decide_eq_false (fun e => hd (by rw [e])))
          have t1 : (xs.getD k 0 == ys.getD k 0) = false := by simpa using hd
          have t2 : (xs.getD k 0 != ys.getD k 0) = true := by simpa using hd
          generalize xs.getD k 0 = x at *
          generalize ys.getD k 0 = y at *
          go_wp2_with fail
          go_quiet (fail)
          go_wp2
          go_ret
          rw [HF.out]
          obtain ⟨q, e⟩ := HW.out
          exact ⟨rfl, q + nq, by rw [e, World.drewN_drewN]⟩
      · obtain rfl : k = n := by omega
        have HT := Lib.hid (show decide (xs = ys) = true from decide_eq_true (by
          have e := HK.out
          rwa [List.take_of_length_le (by rw [← HN.out]; omega), List.take_of_length_le (by rw [← HM.out]; omega)] at e))
        go_wp2
        go_ret
        rw [HT.out]
        exact ⟨rfl, HW.out⟩
  · have HF := Lib.hid (show decide (xs = ys) = false from decide_eq_false (fun e => hl (by rw [e])))
    have t2 : ((xs.length : Int) != (ys.length : Int)) = true := by simp; omega
    generalize xs.length = n at *
    generalize ys.length = m at *
    clear h h' hl
    go_enter Tryz.func62, Tryz.ntmps62
    go_wp2
    go_ret
    rw [HF.out]
    exact ⟨rfl, 0, rfl⟩

set_option maxHeartbeats 1000000 in
theorem rCost_any (A : Option Addr) (c : Nat) (ps : List (List Int)) (w : World) (h : Recs w A ps) (hb : costM ps ≤ 1000000) :
    Calls Tryz.prog 40 #[.slice A ps.length c] w fun e w' => e = .returned (.int .i64 (costM ps)) ∧ w = w' := by
  have H := Lib.hid h
  obtain ⟨n, hn⟩ : ∃ n, n = ps.length := ⟨_, rfl⟩
  have HN := Lib.hid hn
  have HC := Lib.hid (show ∀ k p, ps[k]? = some p → costM (ps.take (k + 1)) = costM (ps.take k) + (p.length + 12) ∧ costM (ps.take (k + 1)) ≤ 1000000 from fun k p hp => ⟨costM_snoc hp, Nat.le_trans (costM_take ps _) hb⟩)
  have hnb : n ≤ 1000000 := by have := costM_len ps; omega
  rw [← hn]
  clear h hn hb
  go_enter Tryz.func40, Tryz.ntmps40
  go_wp2
  go_loop [3, 8] (fun x i => ∃ k : Nat, k ≤ n ∧ i = .int .i64 k ∧ x = .int .i64 (costM (ps.take k))) (fun _ i => n - (intOf i).toNat)
  case atStart => exact ⟨0, Nat.zero_le _, rfl, by simp [costM]⟩
  case round =>
    obtain ⟨k, hk, rfl, rfl⟩ := hrel
    by_cases hkn : k < n
    · have hkk : (k : Int) < n := by omega
      have k0 : (0 : Int) ≤ (k : Int) := by omega
      obtain ⟨p, hp⟩ : ∃ p, ps[k]? = some p := ⟨ps[k]'(by rw [← HN.out]; exact hkn), List.getElem?_eq_getElem _⟩
      obtain ⟨b, o, B, cb, rfl, _, hcell, _, _⟩ := H.out k p hp
      obtain ⟨hs1, hs2⟩ := HC.out k p hp
      obtain ⟨s2, hs2e⟩ : ∃ s2, s2 = costM (ps.take (k + 1)) := ⟨_, rfl⟩
      have HS2 := Lib.hid hs2e
      rw [← hs2e] at hs1 hs2
      clear hs2e hp
      generalize costM (ps.take k) = s1 at *
      generalize p.length = pl at *
      have z1 : IntKind.i64.wrap (12 + (pl : Int)) = 12 + (pl : Int) := i64_fit (by omega)
      have hsum : IntKind.i64.wrap ((s1 : Int) + (12 + (pl : Int))) = (s2 : Int) := by rw [i64_fit (by omega)]; omega
      clear hs1
      go_wp2
      go_round
      case rel => exact ⟨k + 1, by omega, by go_num, by rw [HS2.out]⟩
      case measure => simp [intOf]; omega
    · obtain rfl : k = n := by omega
      have HZ := Lib.hid (show costM (ps.take k) = costM ps by rw [HN.out, List.take_length])
      generalize costM (ps.take k) = s1 at *
      go_wp2
      go_ret
      rw [HZ.out]
      exact ⟨rfl, rfl⟩

end Go.Proofs.YtienabfilnpieaaGreat

namespace Go.Proofs.YtienabfilnpieaaGreat
open Go.RowKit
set_option linter.unusedVariables false
set_option linter.unusedSimpArgs false
set_option linter.unusedSimpArgs false
set_option maxRecDepth 100000

theorem rd_cells {w : World} {b o : Nat} {bs : List Int} (hc : ∀ j, j < bs.length → w.cell? ⟨b, o + j, none⟩ = some (.int .u8 (bs.getD j 0))) : ∀ j u, (bs.map (Value.int .u8))[j]? = some u → w.cell? ((⟨b, o, none⟩ : Addr).add j) = some u := fun j u hj => by
  have hl : j < bs.length := by have := (List.getElem?_eq_some_iff.1 hj).1; simpa using this
  rw [Addr.add_lit, hc j hl]
  rw [List.getElem?_map, List.getElem?_eq_getElem hl] at hj
  simp only [Option.map_some, Option.some.injEq] at hj
  rw [← hj]
  simp [List.getD, List.getElem?_eq_getElem hl]
theorem rd_cells0 {w : World} {b o : Nat} {bs : List Int} (hc : ∀ j, j < bs.length → w.cell? ⟨b, o + j, none⟩ = some (.int .u8 (bs.getD j 0))) : ∀ j u, (bs.map (Value.int .u8))[j]? = some u → w.cell? ⟨b, o + j, none⟩ = some u := fun j u hj => by
  have := rd_cells hc j u hj
  rwa [Addr.add_lit] at this
theorem octs_one (bs : List Int) : ∀ u ∈ bs.map (Value.int .u8), u.oneCell' = true := fun u hu => by
  obtain ⟨z, _, rfl⟩ := List.mem_map.1 hu
  rfl
set_option maxHeartbeats 2000000 in
theorem rHead_any (n : Int) (w : World) (h0 : 0 ≤ n) (h1 : n ≤ 16000) : Calls Tryz.prog 63 #[.int .i64 n] w (GivesB w (headM n)) := by
  obtain ⟨i0, hi, hz0, hz1, hz2⟩ := info_parts info5
  have hw : IntKind.u64.wrap n = n := by rw [IntKind.wrap_u64]; omega
  have HH := Lib.hid (fun W => show Calls Tryz.prog 99 #[.int .u64 n, .int .i64 4] W (GivesB W (fldOf 4 n)) from rHigh_any n 4 W (by omega) (by omega) (by omega) (by omega))
  have hu := onB_u (lettersM ++ fldOf 4 n)
  have HG := Lib.hid (fun W => show Calls Tryz.prog 99 #[.int .u64 (ofM (lettersM ++ fldOf 4 n)), .int .i64 8] W (GivesB W (fldOf 8 (ofM (lettersM ++ fldOf 4 n)))) from rHigh_any (ofM (lettersM ++ fldOf 4 n)) 8 W (by omega) (by omega) hu.1 hu.2)
  have HO := Lib.hid (show Oct (lettersM ++ fldOf 4 n) from oct_append lettersM_oct (fldOf_oct (m := 4) n (by omega) (by omega)))
  have hl4 : (fldOf 4 n).length = 4 := fldOf_len (m := 4) n (by omega) (by omega)
  have hl8 : (fldOf 8 (ofM (lettersM ++ fldOf 4 n))).length = 8 := fldOf_len (m := 8) _ (by omega) (by omega)
  have HE := Lib.hid (show lettersM ++ fldOf 4 n ++ fldOf 8 (ofM (lettersM ++ fldOf 4 n)) = headM n from rfl)
  obtain ⟨mk, hmk⟩ : ∃ mk, mk = ofM (lettersM ++ fldOf 4 n) := ⟨_, rfl⟩
  rw [← hmk] at HG hl8 HE
  obtain ⟨L4, hL4⟩ : ∃ L4, L4 = fldOf 4 n := ⟨_, rfl⟩
  rw [← hL4] at HH HO HE hmk hl4
  obtain ⟨M8, hM8⟩ : ∃ M8, M8 = fldOf 8 mk := ⟨_, rfl⟩
  rw [← hM8] at HG HE hl8
  have HL := Lib.hid (And.intro hl4 hl8)
  have hlp : (lettersM ++ L4).length = 12 := by rw [List.length_append, hl4]; rfl
  have HLP := Lib.hid hlp
  have HMK := Lib.hid hmk
  have kc := fun (w : World) (C : Array Value) (n c : Nat) => Lib.run_convert_bytes_const (P := Tryz.prog) w 33 5 C n c Tryz.underlying33 Tryz.underlying5
  obtain ⟨Wa, hWa⟩ : ∃ Wa, Wa = w.alloc (.cells #[.int .u8 113, .int .u8 117, .int .u8 105, .int .u8 118, .int .u8 114, .int .u8 108, .int .u8 111, .int .u8 103] 5 (8, 9)) := ⟨_, rfl⟩
  have hba : Below w.heap.size w Wa := by rw [hWa]; exact (Below.refl _ w).alloc (Nat.le_refl _) _
  have hxa : Wa.heap[w.heap.size]? = some (.cells #[.int .u8 113, .int .u8 117, .int .u8 105, .int .u8 118, .int .u8 114, .int .u8 108, .int .u8 111, .int .u8 103] 5 (8, 9)) := by rw [hWa]; exact heap_alloc_new w _
  have hla : w.heap.size < Wa.heap.size := lt_of_block hxa
  have hca : ∀ j, j < lettersM.length → Wa.cell? ⟨w.heap.size, 0 + j, none⟩ = some (.int .u8 (lettersM.getD j 0)) := fun j hj => by
    have hj8 : j < 8 := by simpa [lettersM] using hj
    have hj' : j = 0 ∨ j = 1 ∨ j = 2 ∨ j = 3 ∨ j = 4 ∨ j = 5 ∨ j = 6 ∨ j = 7 := by omega
    simp only [World.cell?, hxa]
    rcases hj' with rfl | rfl | rfl | rfl | rfl | rfl | rfl | rfl <;> rfl
  have HCA := Lib.hid (fun (W : World) (hW : Below Wa.heap.size Wa W) => rd_cells0 (w := W) (fun j hj => (hW.cell (p := ⟨w.heap.size, 0 + j, none⟩) hla).trans (hca j hj)))
  have HWA := Lib.hid hWa
  have HBA := Lib.hid hba
  clear hu hl4 hl8 hmk hL4 hM8 hlp hWa hba hxa hla hca
  go_enter Tryz.func63, Tryz.ntmps63
  go_wp2_with (first
    | (go_at_call 99; rw [← HWA.out]; (with_reducible refine (HH.out _).mono ?_); rintro e w2 ⟨A2, c2, rfl, hn2, hb2⟩; obtain ⟨b2, o2, rfl, _, hc2⟩ := hn2.sl.rd (by rw [HL.out.1]; omega); rw [HL.out.1]; have HC2 := Lib.hid (rd_cells hc2); have HB2 := Lib.hid hb2; have HL2 := Lib.hid (HCA.out w2 hb2); clear hn2 hb2 hc2)
    | (at_builtin; refine wpList_append_arg _ rfl (.tmp 5) (.tmp 8) 33 rfl 5 i0 (.int .u8 0) 1 1 Tryz.underlying33 hi hz0 hz1 hz2 rfl (by decide) w.heap.size 0 8 8 (lettersM.map (Value.int .u8)) rfl rfl HL2.out ⟨b2, o2, none⟩ 4 c2 (L4.map (Value.int .u8)) rfl (by rw [List.length_map, HL.out.1]) HC2.out (octs_one L4) (fun h => absurd h (by omega)) (by unfold maxLen; omega) (by omega) (fun h => absurd h (by omega)) ?_; intro _ v3 w3 hown3 hg3; obtain ⟨A3, c3, rfl, _, _⟩ := own_form hown3; have hsz2 : w.heap.size ≤ w2.heap.size := Nat.le_trans HBA.out.size HB2.out.size; have hn3 : New w.heap.size w3 A3 c3 (lettersM ++ L4) := New.low (B := w2.heap.size) (by show w3.ownsRow w2.heap.size 5 1 (.slice A3 (lettersM ++ L4).length c3) (lettersM ++ L4).length ((lettersM ++ L4).map (Value.int .u8)); rw [HLP.out, List.map_append]; exact hown3) hsz2; have hb3 : Below w.heap.size w w3 := (HBA.out.trans (HB2.out.mono HBA.out.size)).grown hg3 hsz2 (by intro k hk; cases hk); have hof := rOf_any A3 c3 (lettersM ++ L4) w3 hn3.sl HO.out; rw [← HMK.out, HLP.out] at hof; have HN3 := Lib.hid hn3; have HB3 := Lib.hid hb3; have HOF := Lib.hid hof; clear hown3 hg3 hn3 hb3 hof)
    | (go_at_call 100; refine HOF.out.mono ?_; rintro e w' ⟨rfl, rfl⟩)
    | (go_at_call 99; (with_reducible refine (HG.out _).mono ?_); rintro e w4 ⟨A4, c4, rfl, hn4, hb4⟩; rw [HL.out.2]; have HN4 := Lib.hid hn4; have HB4 := Lib.hid (HB3.out.trans (hb4.mono HB3.out.size)); have HP4 := Lib.hid (row_later HN3.out hb4); clear hn4 hb4)
    | (at_builtin; refine app_b rfl (.tmp 10) (.tmp 13) rfl w.heap.size (.slice A3 12 c3) 12 ((lettersM ++ L4).map (Value.int .u8)) rfl (by have := HP4.out; rw [HLP.out] at this; exact this) A4 c4 8 M8 rfl HL.out.2 HN4.out.sl.rd (by omega) HB4.out.size ?_; intro v5 w5 hown5 hg5; have HO5 := Lib.hid hown5; have HB5 := Lib.hid (show Below w.heap.size w w5 from HB4.out.grown hg5 HB4.out.size (by intro k hk; exact (HP4.out.lt k (by cases A3 <;> simp_all [Value.ownBlock, blk])).1)); clear hown5 hg5))
  go_ret
  refine gives_of ⟨_, rfl, ?_, HB5.out⟩
  rw [← HE.out, List.length_append, HLP.out, HL.out.2, List.map_append]
  exact HO5.out

theorem apart_new {A1 A2 : Option Addr} {n c m c' N : Nat} (h1 : ∀ q, blk A1 = some q → q < N) (h2 : ∀ q, blk A2 = some q → N ≤ q) : (Value.slice A1 n c).ownBlock = none ∨ (Value.slice A1 n c).ownBlock ≠ (Value.slice A2 m c').ownBlock := by
  rw [ob_eq, ob_eq]
  rcases hA : blk A1 with _ | q
  · exact .inl rfl
  · exact .inr (fun e => by have a := h1 q hA; have b := h2 q e.symm; omega)
set_option maxHeartbeats 4000000 in
theorem rFrame_any (k : Int) (hk0 : 0 ≤ k) (hk1 : k ≤ 1000000) (B : Option Addr) (cb : Nat) (b : List Int) (w : World) (hs : Sl w B cb b) (ho : Oct b) (hl : b.length ≤ 16000) :
    Calls Tryz.prog 88 #[.int .i64 k, .slice B b.length cb] w (GivesB w (frameM k b)) := by
  have hw1 : IntKind.u64.wrap k = k := by rw [IntKind.wrap_u64]; omega
  have hw2 : IntKind.u64.wrap (b.length : Int) = (b.length : Int) := by rw [IntKind.wrap_u64]; omega
  have HH := Lib.hid (fun W => show Calls Tryz.prog 99 #[.int .u64 (b.length : Int), .int .i64 4] W (GivesB W (fldOf 4 (b.length : Int))) from rHigh_any (b.length : Int) 4 W (by omega) (by omega) (by omega) (by omega))
  have HK := Lib.hid (fun W => show Calls Tryz.prog 99 #[.int .u64 k, .int .i64 8] W (GivesB W (fldOf 8 k)) from rHigh_any k 8 W (by omega) (by omega) (by omega) (by omega))
  have hu := markM_u k b
  have HG := Lib.hid (fun W => show Calls Tryz.prog 99 #[.int .u64 (markM k b), .int .i64 8] W (GivesB W (fldOf 8 (markM k b))) from rHigh_any (markM k b) 8 W (by omega) (by omega) hu.1 hu.2)
  have HM := Lib.hid (show ofM (fldOf 8 k ++ b) = markM k b from onM_append _ _ _)
  have HO := Lib.hid (show Oct (fldOf 8 k ++ b) from oct_append (fldOf_oct (m := 8) k (by omega) (by omega)) ho)
  have HL := Lib.hid (show (fldOf 4 (b.length : Int)).length = 4 ∧ (fldOf 8 k).length = 8 ∧ (fldOf 8 (markM k b)).length = 8 from ⟨fldOf_len (m := 4) _ (by omega) (by omega), fldOf_len (m := 8) _ (by omega) (by omega), fldOf_len (m := 8) _ (by omega) (by omega)⟩)
  have HF := Lib.hid (show fldOf 4 (b.length : Int) ++ fldOf 8 (markM k b) ++ b = frameM k b from rfl)
  have HS := Lib.hid hs
  obtain ⟨mk, hmk⟩ : ∃ mk, mk = markM k b := ⟨_, rfl⟩
  rw [← hmk] at HG HM HL HF
  obtain ⟨bl, hbl⟩ : ∃ bl, bl = b.length := ⟨_, rfl⟩
  have HBL := Lib.hid hbl
  rw [← hbl] at hw2 HH HL HF hl ⊢
  obtain ⟨L4, hL4⟩ : ∃ L4, L4 = fldOf 4 (bl : Int) := ⟨_, rfl⟩
  obtain ⟨K8, hK8⟩ : ∃ K8, K8 = fldOf 8 k := ⟨_, rfl⟩
  obtain ⟨M8, hM8⟩ : ∃ M8, M8 = fldOf 8 mk := ⟨_, rfl⟩
  rw [← hL4] at HH HL HF
  rw [← hK8] at HK HL HM HO
  rw [← hM8] at HG HL HF
  clear hs ho hu hmk hbl hL4 hK8 hM8
  go_enter Tryz.func88, Tryz.ntmps88
  go_wp2_with (first
    | (go_at_call 99; (with_reducible refine (HH.out _).mono ?_); rintro e w1 ⟨A1, c1, rfl, hn1, hb1⟩; rw [HL.out.1]; have HN1 := Lib.hid hn1; have HLT1 := Lib.hid (show ∀ q, blk A1 = some q → q < w1.heap.size from fun q hq => (hn1.lt q (by cases A1 <;> simp_all [Value.ownBlock, blk])).2); have HB1 := Lib.hid hb1; clear hn1 hb1)
    | (go_at_call 99; (with_reducible refine (HK.out _).mono ?_); rintro e w2 ⟨A2, c2, rfl, hn2, hb2⟩; rw [HL.out.2.1]; have HN2 := Lib.hid (show New w.heap.size w2 A2 c2 K8 from New.low hn2 HB1.out.size); have HP2 := Lib.hid (row_later HN1.out hb2); have HAP2 := Lib.hid (show ∀ q, blk A2 = some q → w1.heap.size ≤ q from fun q hq => (hn2.lt q (by cases A2 <;> simp_all [Value.ownBlock, blk])).1); have HB2 := Lib.hid (HB1.out.trans (hb2.mono HB1.out.size)); clear hn2 hb2)
    | (at_builtin; refine app_b rfl (.tmp 13) (.tmp 14) rfl w.heap.size (.slice A2 8 c2) 8 (K8.map (Value.int .u8)) rfl (by have := HN2.out; unfold New at this; rw [HL.out.2.1] at this; exact this) B cb bl b rfl HBL.out.symm ((HS.out.below HB2.out).rd) (by omega) HB2.out.size ?_; intro v3 w3 hown3 hg3; obtain ⟨A3, c3, rfl, _, _⟩ := own_form hown3; have hn3 : New w.heap.size w3 A3 c3 (K8 ++ b) := (by show w3.ownsRow w.heap.size 5 1 (.slice A3 (K8 ++ b).length c3) (K8 ++ b).length ((K8 ++ b).map (Value.int .u8)); rw [List.length_append, HL.out.2.1, ← HBL.out, List.map_append]; exact hown3); have hb3 : Below w.heap.size w w3 := HB2.out.grown hg3 HB2.out.size (by intro q hq; exact (HN2.out.lt q (by cases A2 <;> simp_all [Value.ownBlock, blk])).1); have hp3 : New w.heap.size w3 A1 c1 L4 := HP2.out.kept hg3 (apart_new HLT1.out HAP2.out); have hof := rOf_any A3 c3 (K8 ++ b) w3 hn3.sl HO.out; rw [HM.out, show (K8 ++ b).length = 8 + bl from by rw [List.length_append, HL.out.2.1, ← HBL.out]] at hof; have HN3 := Lib.hid hp3; have HB3 := Lib.hid hb3; have HOF := Lib.hid hof; clear hown3 hg3 hn3 hb3 hof hp3)
    | (go_at_call 100; refine HOF.out.mono ?_; rintro e w' ⟨rfl, rfl⟩)
    | (go_at_call 99; (with_reducible refine (HG.out _).mono ?_); rintro e w4 ⟨A4, c4, rfl, hn4, hb4⟩; rw [HL.out.2.2]; have HN4 := Lib.hid hn4; have HB4 := Lib.hid (HB3.out.trans (hb4.mono HB3.out.size)); have HP4 := Lib.hid (row_later HN3.out hb4); clear hn4 hb4)
    | (at_builtin; refine app_b rfl (.tmp 10) (.tmp 17) rfl w.heap.size (.slice A1 4 c1) 4 (L4.map (Value.int .u8)) rfl (by have := HP4.out; unfold New at this; rw [HL.out.1] at this; exact this) A4 c4 8 M8 rfl HL.out.2.2 HN4.out.sl.rd (by omega) HB4.out.size ?_; intro v5 w5 hown5 hg5; obtain ⟨A5, c5, rfl, _, _⟩ := own_form hown5; have HO5 := Lib.hid hown5; have HB5 := Lib.hid (show Below w.heap.size w w5 from HB4.out.grown hg5 HB4.out.size (by intro q hq; exact (HP4.out.lt q (by cases A1 <;> simp_all [Value.ownBlock, blk])).1)); clear hown5 hg5)
    | (at_builtin; refine app_b rfl (.tmp 19) (.tmp 20) rfl w.heap.size (.slice A5 12 c5) 12 (L4.map (Value.int .u8) ++ M8.map (Value.int .u8)) rfl HO5.out B cb bl b rfl HBL.out.symm ((HS.out.below HB5.out).rd) (by omega) HB5.out.size ?_; intro v6 w6 hown6 hg6; have HO6 := Lib.hid hown6; have HB6 := Lib.hid (show Below w.heap.size w w6 from HB5.out.grown hg6 HB5.out.size (by intro q hq; exact (HO5.out.lt q (by cases A5 <;> simp_all [Value.ownBlock, blk])).1)); clear hown6 hg6))
  go_ret
  refine gives_of ⟨_, rfl, ?_, HB6.out⟩
  rw [← HF.out, List.length_append, List.length_append, HL.out.1, HL.out.2.2, ← HBL.out, List.map_append, List.map_append]
  exact HO6.out

end Go.Proofs.YtienabfilnpieaaGreat

namespace Go.Proofs.YtienabfilnpieaaGreat
open Go.RowKit
set_option linter.unusedVariables false
set_option linter.unusedSimpArgs false
set_option linter.unusedSimpArgs false
set_option maxRecDepth 100000

/-- The part with whose frame bytes begin, if it may be one. -/
def partM (k : Int) (r : List Int) : Option (List Int) := match stepM k r with | some (p, _) => if p.length ≤ 16000 then some p else none | none => none
theorem partM_short {k : Int} {r : List Int} (h : r.length < 12) : partM k r = none := by
  unfold partM
  cases hs : stepM k r with
  | none => rfl
  | some pr => obtain ⟨a, b⟩ := pr; have := stepM_len hs; omega
theorem stepM_is {k : Int} {r : List Int} (h12 : 12 ≤ r.length) {s : Nat} (hs : (s : Int) = val (r.take 4)) :
    stepM k r = if r.length < 12 + s then none else if val ((r.drop 4).take 8) ≠ markM k ((r.drop 12).take s) then none else some ((r.drop 12).take s, (r.drop 12).drop s) := by
  have n1 : numS 4 (r, false) = ((s : Int), r.drop 4, false) := by
    unfold numS
    rw [if_neg (by simp; omega), hs]
  have n2 : numS 8 (r.drop 4, false) = (val ((r.drop 4).take 8), r.drop 12, false) := by
    unfold numS
    rw [if_neg (by simp; omega)]
    simp
  unfold stepM
  dsimp only
  rw [n1]
  dsimp only
  rw [n2]
  dsimp only
  by_cases hl : r.length < 12 + s
  · have n3 : bytesS (s : Int) (r.drop 12, false) = ([], r.drop 12, true) := by
      unfold bytesS
      rw [if_pos (by simp; omega)]
    rw [n3, if_pos hl]
    simp
  · have n3 : bytesS (s : Int) (r.drop 12, false) = ((r.drop 12).take s, (r.drop 12).drop s, false) := by
      unfold bytesS
      rw [if_neg (by simp; omega)]
      simp
    rw [n3, if_neg hl]
    by_cases hm : val ((r.drop 4).take 8) ≠ markM k ((r.drop 12).take s)
    · rw [if_pos hm, if_pos (.inr hm)]
    · rw [if_neg hm, if_neg (by rintro (e | e); cases e; exact hm e)]
theorem frame_iff {k : Int} {r : List Int} (ho : Oct r) {s : Nat} (hs : (s : Int) = val (r.take 4)) (hl : ¬ r.length < 12 + s) : frameM k ((r.drop 12).take s) = r.take (12 + s) ↔ val ((r.drop 4).take 8) = markM k ((r.drop 12).take s) := by
  have hp : ((r.drop 12).take s).length = s := by rw [List.length_take, List.length_drop]; omega
  have h4 : (r.take 4).length = 4 := by rw [List.length_take]; omega
  have h8 : ((r.drop 4).take 8).length = 8 := by rw [List.length_take, List.length_drop]; omega
  have hf4 : fldOf 4 (s : Int) = r.take 4 := by
    have := fldOf_yes (m := 4) (s : Int) (by omega) (by omega)
    show fldOf ((4 : Nat) : Int) (s : Int) = _
    rw [this, hs]
    exact fld_val 4 _ h4 (ho.takeN 4)
  have ho8 : Oct ((r.drop 4).take 8) := fun b hb => ho b (List.mem_of_mem_drop (List.mem_of_mem_take hb))
  have et : r.take (12 + s) = r.take 4 ++ (r.drop 4).take 8 ++ (r.drop 12).take s := by
    rw [List.take_add, show (12 : Nat) = 4 + 8 from rfl, List.take_add]
  have hu := markM_u k ((r.drop 12).take s)
  unfold frameM
  rw [hp, hf4, et]
  have hy8 : fldOf 8 (markM k ((r.drop 12).take s)) = fld 8 (markM k ((r.drop 12).take s)) := fldOf_yes (m := 8) _ (by omega) (by omega)
  constructor
  · intro e
    have e1 := List.append_cancel_left (List.append_cancel_right e)
    rw [hy8] at e1
    rw [← e1]
    obtain ⟨X, hX⟩ : ∃ X : Nat, markM k ((r.drop 12).take s) = X := ⟨(markM k ((r.drop 12).take s)).toNat, by have := hu.1; omega⟩
    rw [hX, val_fld, Nat.mod_eq_of_lt (by have := hu.2; rw [hX] at this; simp; omega)]
  · intro e
    rw [hy8, ← e, fld_val 8 _ h8 ho8]
theorem partM_is {k : Int} {r : List Int} (ho : Oct r) (h12 : 12 ≤ r.length) {s : Nat} (hs : (s : Int) = val (r.take 4)) :
    (16000 < s ∨ r.length < 12 + s → partM k r = none) ∧ (¬ (16000 < s ∨ r.length < 12 + s) → partM k r = if frameM k ((r.drop 12).take s) = r.take (12 + s) then some ((r.drop 12).take s) else none) := by
  have hst := stepM_is (k := k) h12 hs
  constructor
  · intro h
    unfold partM
    rw [hst]
    by_cases hl : r.length < 12 + s
    · rw [if_pos hl]
    · rw [if_neg hl]
      split
      · rename_i heq
        split at heq
        · cases heq
        · injection heq with heq
          injection heq with e1 _
          subst e1
          rw [if_neg]
          rw [List.length_take, List.length_drop]
          omega
      · rfl
  · intro h
    have hl : ¬ r.length < 12 + s := fun e => h (.inr e)
    unfold partM
    rw [hst, if_neg hl]
    have hfi := frame_iff (k := k) ho hs hl
    by_cases hm : val ((r.drop 4).take 8) = markM k ((r.drop 12).take s)
    · rw [if_neg (by simpa using hm), if_pos (hfi.2 hm)]
      dsimp only
      rw [if_pos (by rw [List.length_take]; omega)]
    · rw [if_pos hm, if_neg (fun e => hm (hfi.1 e))]

def PartAs (w : World) (k : Int) (r : List Int) (e : Ending) (w' : World) : Prop :=
  Below w.heap.size w w' ∧ (partM k r = none → e = .returned (.tuple #[.slice none 0 0, .bool false])) ∧ (∀ p, partM k r = some p → ∃ A1 c1, e = .returned (.tuple #[.slice A1 p.length c1, .bool true]) ∧ New w.heap.size w' A1 c1 p)
theorem sl_drop {w : World} {b o c : Nat} {bs : List Int} (h : Sl w (some ⟨b, o, none⟩) c bs) (n : Nat) (hn : n ≤ bs.length) : Sl w (some ⟨b, o + n, none⟩) (c - n) (bs.drop n) := by
  have hr := h.room
  have hm := h.most
  refine ⟨by rw [List.length_drop]; omega, by omega, fun hp => ?_⟩
  rw [List.length_drop] at hp
  obtain ⟨b', o', e, hl, hc⟩ := h.rd (by omega)
  injection e with e
  injection e with e1 e2
  subst e1
  subst e2
  refine ⟨b, o + n, rfl, hl, fun j hj => ?_⟩
  rw [List.length_drop] at hj
  have := hc (n + j) (by omega)
  rw [← Nat.add_assoc] at this
  rw [this]
  simp [List.getD]

set_option maxHeartbeats 4000000 in
theorem rPart_any (k : Int) (hk0 : 0 ≤ k) (hk1 : k ≤ 1000000) (A : Option Addr) (c : Nat) (r : List Int) (w : World) (hs : Sl w A c r) (ho : Oct r) (hbig : r.length ≤ 1000000) :
    Calls Tryz.prog 64 #[.int .i64 k, .slice A r.length c] w (PartAs w k r) := by
  have hroom := hs.room
  have hmost := hs.most
  by_cases h12 : r.length < 12
  · have HP := Lib.hid (partM_short (k := k) h12)
    have h12' : (r.length : Int) < 12 := by omega
    generalize hrl : r.length = l at *
    clear hs ho hrl
    go_enter Tryz.func64, Tryz.ntmps64
    go_wp2
    go_ret2
    exact ⟨Below.refl _ _, fun _ => rfl, fun p hp => by rw [HP.out] at hp; cases hp⟩
  · obtain ⟨b, o, hA, hbl, hcells⟩ := hs.rd (by omega)
    subst hA
    have h4 : (r.take 4).length = 4 := by rw [List.length_take]; omega
    have hv0 := val_nonneg (ho.takeN 4)
    have hv1 := val_lt (ho.takeN 4)
    rw [h4] at hv1
    obtain ⟨s, hsv⟩ : ∃ s : Nat, (s : Int) = val (r.take 4) := ⟨(val (r.take 4)).toNat, by omega⟩
    have hsb : (s : Int) < 4294967296 := by rw [hsv]; simpa using hv1
    have hnum := rNumber_any (some ⟨b, o, none⟩) c (r.take 4) w (sl_take hs 4) (ho.takeN 4) (by omega)
    rw [h4, ← hsv] at hnum
    have HNUM := Lib.hid hnum
    obtain ⟨q1, q2⟩ := partM_is (k := k) ho (by omega) hsv
    obtain ⟨l, hl⟩ : ∃ l, l = r.length := ⟨_, rfl⟩
    have w1' : IntKind.u64.wrap (l : Int) = (l : Int) := by rw [IntKind.wrap_u64]; omega
    have w2' : IntKind.u64.wrap (12 + (s : Int)) = 12 + (s : Int) := by rw [IntKind.wrap_u64]; omega
    have h12' : ¬ (l : Int) < 12 := by omega
    have i1 : (12 : Int) ≤ (c : Int) := by omega
    have i2 : (4 : Int) ≤ (c : Int) := by omega
    rw [← hl] at hroom h12 hbig ⊢
    by_cases hbad : 16000 < s ∨ r.length < 12 + s
    · have HP := Lib.hid (q1 hbad)
      rw [← hl] at hbad
      clear hs ho hcells h4 hv0 hv1 hsv hnum q1 q2 hl
      by_cases hg : 16000 < s
      · have g1 : decide ((16000 : Int) < (s : Int)) = true := by simp; omega
        go_enter Tryz.func64, Tryz.ntmps64
        go_wp2_with (go_at_call 60; refine HNUM.out.mono ?_; rintro e w' ⟨rfl, rfl⟩)
        go_ret2
        exact ⟨Below.refl _ _, fun _ => rfl, fun p hp => by rw [HP.out] at hp; cases hp⟩
      · have g1 : decide ((16000 : Int) < (s : Int)) = false := by simp; omega
        have g2 : decide ((l : Int) < 12 + (s : Int)) = true := by simp; omega
        go_enter Tryz.func64, Tryz.ntmps64
        go_wp2_with (go_at_call 60; refine HNUM.out.mono ?_; rintro e w' ⟨rfl, rfl⟩)
        go_ret2
        exact ⟨Below.refl _ _, fun _ => rfl, fun p hp => by rw [HP.out] at hp; cases hp⟩
    · have hq := q2 hbad
      have g1 : decide ((16000 : Int) < (s : Int)) = false := by simp; omega
      have g2 : decide ((l : Int) < 12 + (s : Int)) = false := by simp; omega
      have i3 : 12 + (s : Int) ≤ (c : Int) := by omega
      have i4 : (12 : Int) ≤ 12 + (s : Int) := by omega
      have i5 : (0 : Int) ≤ 12 + (s : Int) := by omega
      have i6 : 12 + (s : Int) ≤ (l : Int) := by omega
      obtain ⟨p, hp⟩ : ∃ p, p = (r.drop 12).take s := ⟨_, rfl⟩
      have hpl : p.length = s := by rw [hp, List.length_take, List.length_drop]; omega
      obtain ⟨PA, hPA⟩ : ∃ PA, PA = (if c = 12 then some (⟨b, o, none⟩ : Addr) else some ⟨b, o + 12, none⟩) := ⟨_, rfl⟩
      have HPA := Lib.hid hPA
      have hps : Sl w PA (c - 12) p := by
        rw [hPA]
        by_cases hc : c = 12
        · rw [if_pos hc]
          exact ⟨by omega, by omega, fun h => by omega⟩
        · rw [if_neg hc, hp]
          exact sl_take (sl_drop hs 12 (by omega)) s
      have hpo : Oct p := by rw [hp]; exact fun x hx => ho x (List.mem_of_mem_drop (List.mem_of_mem_take hx))
      have htl : (r.take (12 + s)).length = 12 + s := by rw [List.length_take]; omega
      have HFR := Lib.hid (fun W (hW : Below w.heap.size w W) => rFrame_any k hk0 hk1 PA (c - 12) p W (hps.below hW) hpo (by omega))
      have HSA := Lib.hid (fun (W : World) (hW : Below w.heap.size w W) (A2 : Option Addr) (c2 : Nat) (h2 : Sl W A2 c2 (frameM k p)) => rSame_any A2 (some ⟨b, o, none⟩) c2 c (frameM k p) (r.take (12 + s)) W h2 ((sl_take hs (12 + s)).below hW))
      rw [htl] at HSA
      rw [← hp] at hq
      have hfl := frameM_len k p
      rw [hpl] at HFR hfl
      rw [hfl] at HSA
      have HFL := Lib.hid hfl
      have HPS := Lib.hid hps
      have HPL := Lib.hid hpl
      clear hs ho hcells h4 hv0 hv1 hsv hnum q1 q2 hl hbad hp hps hpo htl hfl hpl hPA
      by_cases he : frameM k p = r.take (12 + s)
      · rw [if_pos he] at hq
        have HQ := Lib.hid hq
        rw [decide_eq_true he] at HSA
        clear hq he
        go_enter Tryz.func64, Tryz.ntmps64
        go_upto_region 7 with (go_at_call 60; refine HNUM.out.mono ?_; rintro e w' ⟨rfl, rfl⟩)
        rw [← HPA.out, show 12 + s - 12 = s from by omega]
        go_region_held3 (fun W => Below w.heap.size w W) (first | exact below_drewN (Below.refl _ _) 1 | exact HB2.out | exact HB3.out) (first
          | (go_at_call 88; refine (HFR.out _ (below_drewN (Below.refl _ _) 1)).mono ?_; rintro e w2 ⟨A2, c2, rfl, hn2, hb2⟩; rw [HFL.out]; have hb2' := (below_drewN (Below.refl w.heap.size w) 1).trans hb2; have HB2 := Lib.hid hb2'; have HS2 := Lib.hid (HSA.out w2 hb2' A2 c2 hn2.sl); clear hn2 hb2 hb2')
          | (go_at_call 62; refine HS2.out.mono ?_; rintro e w3 ⟨rfl, hq3⟩; have HB3 := Lib.hid (show Below w.heap.size w w3 from by obtain ⟨q, e⟩ := hq3; rw [e]; exact below_drewN HB2.out q); clear hq3))
        all_goals
          go_wp2_with (at_builtin; refine app_b rfl (.tmp 37) (.tmp 38) rfl w3.heap.size (.slice (some ⟨w3.heap.size, 0, none⟩) 0 0) 0 [] rfl (World.ownsRow_made w3 #[] 0 (Nat.le_refl _) (Nat.zero_le _) rfl) PA (c - 12) s p rfl HPL.out ((HPS.out.below (HB3.out.alloc HB3.out.size _)).rd) (by omega) (by simp) ?_; intro v4 w4 hown4 hg4; have HO4 := Lib.hid hown4; have HB4 := Lib.hid (show Below w.heap.size w w4 from (HB3.out.alloc HB3.out.size _).grown hg4 (by have := HB3.out.size; simp; omega) (by intro q hq; simp [Value.ownBlock] at hq; have := HB3.out.size; omega)); clear hown4 hg4)
          go_ret2
          have ho := HO4.out
          simp only [Nat.zero_add, List.nil_append] at ho
          obtain ⟨A5, c5, rfl, _, _⟩ := own_form ho
          refine ⟨HB4.out, fun hn => (by rw [HQ.out] at hn; cases hn), fun p' hp' => ?_⟩
          rw [HQ.out] at hp'
          injection hp' with hp'
          subst hp'
          refine ⟨A5, c5, by rw [HPL.out]; rfl, ?_⟩
          have ho' : New w3.heap.size w4 A5 c5 p := by unfold New; rw [HPL.out]; exact ho
          exact New.low ho' HB3.out.size
      · rw [if_neg he] at hq
        have HQ := Lib.hid hq
        rw [decide_eq_false he] at HSA
        clear hq he
        go_enter Tryz.func64, Tryz.ntmps64
        go_upto_region 7 with (go_at_call 60; refine HNUM.out.mono ?_; rintro e w' ⟨rfl, rfl⟩)
        rw [← HPA.out, show 12 + s - 12 = s from by omega]
        go_region_held3 (fun W => Below w.heap.size w W) (first | exact below_drewN (Below.refl _ _) 1 | exact HB2.out | exact HB3.out) (first
          | (go_at_call 88; refine (HFR.out _ (below_drewN (Below.refl _ _) 1)).mono ?_; rintro e w2 ⟨A2, c2, rfl, hn2, hb2⟩; rw [HFL.out]; have hb2' := (below_drewN (Below.refl w.heap.size w) 1).trans hb2; have HB2 := Lib.hid hb2'; have HS2 := Lib.hid (HSA.out w2 hb2' A2 c2 hn2.sl); clear hn2 hb2 hb2')
          | (go_at_call 62; refine HS2.out.mono ?_; rintro e w3 ⟨rfl, hq3⟩; have HB3 := Lib.hid (show Below w.heap.size w w3 from by obtain ⟨q, e⟩ := hq3; rw [e]; exact below_drewN HB2.out q); clear hq3))
        all_goals
          go_wp2
          go_ret2
          exact ⟨HB3.out, fun _ => rfl, fun p' hp' => by rw [HQ.out] at hp'; cases hp'⟩

end Go.Proofs.YtienabfilnpieaaGreat

namespace Go.Proofs.YtienabfilnpieaaGreat
open Go.RowKit
set_option linter.unusedVariables false
set_option linter.unusedSimpArgs false
set_option linter.unusedSimpArgs false
set_option maxRecDepth 100000

theorem Oct.dropN {bs : List Int} (h : Oct bs) (k : Nat) : Oct (bs.drop k) := fun b hb => h b (List.mem_of_mem_drop hb)
theorem step_rest {k : Int} {r p r' : List Int} (ho : Oct r) (h : stepM k r = some (p, r')) : r' = r.drop (p.length + 12) := by
  have hl := stepM_len h
  obtain ⟨s, hs⟩ : ∃ s : Nat, (s : Int) = val (r.take 4) := ⟨(val (r.take 4)).toNat, by have := val_nonneg (ho.takeN 4); omega⟩
  rw [stepM_is (by omega) hs] at h
  split at h
  · cases h
  · split at h
    · cases h
    · injection h with h
      injection h with e1 e2
      subst e1
      rw [← e2, List.drop_drop]
      congr 1
      rw [List.length_take, List.length_drop]
      omega
/-- What the parts are, one by one. -/
theorem goM_at (fuel : Nat) (room : Int) (k0 : Nat) (r : List Int) (hf : r.length < 12 * fuel) (ho : Oct r) (k : Nat) (hk : k ≤ (goM fuel room k0 r).length) :
    (∀ p, (goM fuel room k0 r)[k]? = some p → partM ((k0 + k : Nat) : Int) (r.drop (costM ((goM fuel room k0 r).take k))) = some p ∧ (costM ((goM fuel room k0 r).take k) : Int) + 12 + p.length ≤ room) ∧
    (k = (goM fuel room k0 r).length → partM ((k0 + k : Nat) : Int) (r.drop (costM ((goM fuel room k0 r).take k))) = none ∨ ∃ p, partM ((k0 + k : Nat) : Int) (r.drop (costM ((goM fuel room k0 r).take k))) = some p ∧ room < (costM ((goM fuel room k0 r).take k) : Int) + 12 + p.length) := by
  induction fuel generalizing room k0 r k with
  | zero => omega
  | succ n ih =>
    have hun : goM (n + 1) room k0 r = (match stepM k0 r with | none => [] | some (p, r') => if fitsC p.length room = 0 then p :: goM n (room - (p.length + 12)) ((k0 : Int) + 1) r' else []) := rfl
    cases hs : stepM k0 r with
    | none =>
      have e : goM (n + 1) room k0 r = [] := by rw [hun, hs]
      rw [e] at hk ⊢
      have : k = 0 := by simpa using hk
      subst this
      refine ⟨fun p hp => by simp at hp, fun _ => .inl ?_⟩
      simp only [List.take_nil, costM_nil, List.drop_zero, Nat.add_zero]
      unfold partM
      rw [hs]
    | some pr =>
      obtain ⟨p, r'⟩ := pr
      have hrest := step_rest ho hs
      have hlen := stepM_len hs
      by_cases hfit : fitsC p.length room = 0
      · have e : goM (n + 1) room k0 r = p :: goM n (room - (p.length + 12)) ((k0 + 1 : Nat) : Int) r' := by rw [hun, hs]; dsimp only; rw [if_pos hfit]; rfl
        have hfit' : p.length ≤ 16000 ∧ (p.length : Int) + 12 ≤ room := by
          unfold fitsC at hfit
          split at hfit
          · omega
          · split at hfit
            · omega
            · omega
        have hpm : partM k0 r = some p := by unfold partM; rw [hs]; dsimp only; rw [if_pos hfit'.1]
        rw [e] at hk ⊢
        cases k with
        | zero =>
          refine ⟨fun q hq => ?_, fun h => by simp at h⟩
          have : p = q := by simpa using hq
          subst this
          simp only [List.take_zero, costM_nil, List.drop_zero, Nat.add_zero]
          exact ⟨hpm, by omega⟩
        | succ k =>
          have := ih (room - (p.length + 12)) (k0 + 1) r' (by omega) (by rw [hrest]; exact ho.dropN _) k (by simpa using hk)
          have hd : ∀ x, r.drop (p.length + 12 + x) = r'.drop x := fun x => by rw [hrest, List.drop_drop]
          rw [List.take_succ_cons, costM_cons, hd, show k0 + (k + 1) = k0 + 1 + k by omega]
          refine ⟨fun q hq => ?_, fun h => ?_⟩
          · obtain ⟨a, b⟩ := this.1 q (by simpa using hq)
            exact ⟨a, by omega⟩
          · rcases this.2 (by simpa using h) with a | ⟨q, a, b⟩
            · exact .inl a
            · exact .inr ⟨q, a, by omega⟩
      · have e : goM (n + 1) room k0 r = [] := by rw [hun, hs]; dsimp only; rw [if_neg hfit]
        rw [e] at hk ⊢
        have : k = 0 := by simpa using hk
        subst this
        refine ⟨fun p hp => by simp at hp, fun _ => ?_⟩
        simp only [List.take_nil, costM_nil, List.drop_zero, Nat.add_zero]
        by_cases h16 : p.length ≤ 16000
        · refine .inr ⟨p, by unfold partM; rw [hs]; dsimp only; rw [if_pos h16], ?_⟩
          unfold fitsC at hfit
          rw [if_neg (by omega)] at hfit
          split at hfit
          · rename_i h; simp; omega
          · exact absurd rfl hfit
        · exact .inl (by unfold partM; rw [hs]; dsimp only; rw [if_neg h16])
theorem parts_at {bs : List Int} (ho : Oct bs) (k : Nat) (hk : k ≤ (partsM bs).length) :
    (∀ p, (partsM bs)[k]? = some p → partM (k : Int) (bs.drop (20 + costM ((partsM bs).take k))) = some p ∧ (costM ((partsM bs).take k) : Int) + 12 + p.length ≤ limitM bs) ∧
    (k = (partsM bs).length → partM (k : Int) (bs.drop (20 + costM ((partsM bs).take k))) = none ∨ ∃ p, partM (k : Int) (bs.drop (20 + costM ((partsM bs).take k))) = some p ∧ limitM bs < (costM ((partsM bs).take k) : Int) + 12 + p.length) := by
  have := goM_at (bs.length + 1) (limitM bs) 0 (bs.drop 20) (by rw [List.length_drop]; omega) (ho.dropN 20) k hk
  rw [List.drop_drop, Nat.zero_add] at this
  exact this
theorem parts_len {bs : List Int} (ho : Oct bs) (k : Nat) (hk : k ≤ (partsM bs).length) (h20 : 20 ≤ bs.length) : 20 + costM ((partsM bs).take k) ≤ bs.length := by
  induction k with
  | zero => simp [costM_nil]; omega
  | succ k ih =>
    have hk' : k < (partsM bs).length := by omega
    obtain ⟨p, hp⟩ : ∃ p, (partsM bs)[k]? = some p := ⟨(partsM bs)[k], List.getElem?_eq_getElem hk'⟩
    have h1 := ((parts_at ho k (by omega)).1 p hp).1
    have h2 := ih (by omega)
    rw [costM_snoc hp]
    unfold partM at h1
    cases hs : stepM (k : Int) (bs.drop (20 + costM ((partsM bs).take k))) with
    | none => rw [hs] at h1; cases h1
    | some pr =>
      obtain ⟨q, r'⟩ := pr
      have hl := stepM_len hs
      rw [hs] at h1
      dsimp only at h1
      split at h1
      · injection h1 with h1
        subst h1
        rw [List.length_drop] at hl
        omega
      · cases h1

/-! ### the box of a Log -/
theorem three_facts {W : World} {r : Nat} {a b c : Value} (h : W.heap[r]? = some (.cells #[a, b, c] 47 (0, 0))) :
    W.cell? ⟨r, 0, none⟩ = some a ∧ W.cell? ⟨r, 1, none⟩ = some b ∧ W.cell? ⟨r, 2, none⟩ = some c ∧ W.frozen? ⟨r, 0, none⟩ = false ∧ W.frozen? ⟨r, 1, none⟩ = false ∧ W.frozen? ⟨r, 2, none⟩ = false := by
  refine ⟨?_, ?_, ?_, ?_, ?_, ?_⟩ <;> simp [World.cell?, World.frozen?, h]
/-- Three cells of a box are set. -/
theorem three_end {W : World} {r : Nat} {a b c x y z : Value} (h : W.heap[r]? = some (.cells #[a, b, c] 47 (0, 0))) :
    (((W.setCell ⟨r, 0, none⟩ x).setCell ⟨r, 1, none⟩ y).setCell ⟨r, 2, none⟩ z).heap[r]? = some (.cells #[x, y, z] 47 (0, 0)) ∧ Below r W (((W.setCell ⟨r, 0, none⟩ x).setCell ⟨r, 1, none⟩ y).setCell ⟨r, 2, none⟩ z) ∧
    (∀ k, k ≠ r → (((W.setCell ⟨r, 0, none⟩ x).setCell ⟨r, 1, none⟩ y).setCell ⟨r, 2, none⟩ z).heap[k]? = W.heap[k]?) ∧ (((W.setCell ⟨r, 0, none⟩ x).setCell ⟨r, 1, none⟩ y).setCell ⟨r, 2, none⟩ z).heap.size = W.heap.size := by
  have e1 := heap_set (heap_set (heap_set h 0 x) 1 y) 2 z
  have e2 : ∀ k, k ≠ r → (((W.setCell ⟨r, 0, none⟩ x).setCell ⟨r, 1, none⟩ y).setCell ⟨r, 2, none⟩ z).heap[k]? = W.heap[k]? := fun k hk => (Below.heap_setCell _ _ _ _ hk).trans ((Below.heap_setCell _ _ _ _ hk).trans (Below.heap_setCell _ _ _ _ hk))
  exact ⟨e1, ⟨rfl, rfl, rfl, by simp [World.setCell], fun k hk => e2 k (by omega)⟩, e2, by simp [World.setCell]⟩

end Go.Proofs.YtienabfilnpieaaGreat
