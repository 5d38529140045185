/-
  The document's own heads, frames, parts (quiverref04).
-/
import Derived.Test.YtienabfilnpieaaGreatRefBytes
namespace Go.Proofs.YtienabfilnpieaaGreat
open Go.RowKit
set_option linter.unusedVariables false
set_option linter.unusedSimpArgs false
set_option maxRecDepth 100000

theorem rd_cells {w : World} {b o : Nat} {bs : List Int} (hc : ∀ j, j < bs.length → w.cell? ⟨b, o + j, none⟩ = some (.int .u8 (bs.getD j 0))) : ∀ j u, (bs.map (Value.int .u8))[j]? = some u → w.cell? ((⟨b, o, none⟩ : Addr).add j) = some u := fun j u hj => by
  have hl : j < bs.length := by have := (List.getElem?_eq_some_iff.1 hj).1; simpa using this
  rw [Addr.add_lit, hc j hl]
  rw [List.getElem?_map, List.getElem?_eq_getElem hl] at hj
  simp only [Option.map_some, Option.some.injEq] at hj
  rw [← hj]
  simp [List.getD, List.getElem?_eq_getElem hl]
theorem rd_cells0 {w : World} {b o : Nat} {bs : List Int} (hc : ∀ j, j < bs.length → w.cell? ⟨b, o + j, none⟩ = some (.int .u8 (bs.getD j 0))) : ∀ j u, (bs.map (Value.int .u8))[j]? = some u → w.cell? ⟨b, o + j, none⟩ = some u := fun j u hj => by
  have := rd_cells hc j u hj
  rwa [Addr.add_lit] at this
theorem octs_one (bs : List Int) : ∀ u ∈ bs.map (Value.int .u8), u.oneCell' = true := fun u hu => by
  obtain ⟨z, _, rfl⟩ := List.mem_map.1 hu
  rfl
set_option maxHeartbeats 2000000 in
theorem rHead_any (n : Int) (w : World) (h0 : 0 ≤ n) (h1 : n ≤ 16000) : Calls Tryz.prog 63 #[.int .i64 n] w (GivesB w (headM n)) := by
  obtain ⟨i0, hi, hz0, hz1, hz2⟩ := info_parts info5
  have hw : IntKind.u64.wrap n = n := by rw [IntKind.wrap_u64]; omega
  have HH := Lib.hid (fun W => show Calls Tryz.prog 99 #[.int .u64 n, .int .i64 4] W (GivesB W (fldOf 4 n)) from rHigh_any n 4 W (by omega) (by omega) (by omega) (by omega))
  have hu := onB_u (lettersM ++ fldOf 4 n)
  have HG := Lib.hid (fun W => show Calls Tryz.prog 99 #[.int .u64 (ofM (lettersM ++ fldOf 4 n)), .int .i64 8] W (GivesB W (fldOf 8 (ofM (lettersM ++ fldOf 4 n)))) from rHigh_any (ofM (lettersM ++ fldOf 4 n)) 8 W (by omega) (by omega) hu.1 hu.2)
  have HO := Lib.hid (show Oct (lettersM ++ fldOf 4 n) from oct_append lettersM_oct (fldOf_oct (m := 4) n (by omega) (by omega)))
  have hl4 : (fldOf 4 n).length = 4 := fldOf_len (m := 4) n (by omega) (by omega)
  have hl8 : (fldOf 8 (ofM (lettersM ++ fldOf 4 n))).length = 8 := fldOf_len (m := 8) _ (by omega) (by omega)
  have HE := Lib.hid (show lettersM ++ fldOf 4 n ++ fldOf 8 (ofM (lettersM ++ fldOf 4 n)) = headM n from rfl)
  obtain ⟨mk, hmk⟩ : ∃ mk, mk = ofM (lettersM ++ fldOf 4 n) := ⟨_, rfl⟩
  rw [← hmk] at HG hl8 HE
  obtain ⟨L4, hL4⟩ : ∃ L4, L4 = fldOf 4 n := ⟨_, rfl⟩
  rw [← hL4] at HH HO HE hmk hl4
  obtain ⟨M8, hM8⟩ : ∃ M8, M8 = fldOf 8 mk := ⟨_, rfl⟩
  rw [← hM8] at HG HE hl8
  have HL := Lib.hid (And.intro hl4 hl8)
  have hlp : (lettersM ++ L4).length = 12 := by rw [List.length_append, hl4]; rfl
  have HLP := Lib.hid hlp
  have HMK := Lib.hid hmk
  have kc := fun (w : World) (C : Array Value) (n c : Nat) => Lib.run_convert_bytes_const (P := Tryz.prog) w 33 5 C n c Tryz.underlying33 Tryz.underlying5
  obtain ⟨Wa, hWa⟩ : ∃ Wa, Wa = w.alloc (.cells #[.int .u8 113, .int .u8 117, .int .u8 105, .int .u8 118, .int .u8 114, .int .u8 108, .int .u8 111, .int .u8 103] 5 (8, 9)) := ⟨_, rfl⟩
  have hba : Below w.heap.size w Wa := by rw [hWa]; exact (Below.refl _ w).alloc (Nat.le_refl _) _
  have hxa : Wa.heap[w.heap.size]? = some (.cells #[.int .u8 113, .int .u8 117, .int .u8 105, .int .u8 118, .int .u8 114, .int .u8 108, .int .u8 111, .int .u8 103] 5 (8, 9)) := by rw [hWa]; exact heap_alloc_new w _
  have hla : w.heap.size < Wa.heap.size := lt_of_block hxa
  have hca : ∀ j, j < lettersM.length → Wa.cell? ⟨w.heap.size, 0 + j, none⟩ = some (.int .u8 (lettersM.getD j 0)) := fun j hj => by
    have hj8 : j < 8 := by simpa [lettersM] using hj
    have hj' : j = 0 ∨ j = 1 ∨ j = 2 ∨ j = 3 ∨ j = 4 ∨ j = 5 ∨ j = 6 ∨ j = 7 := by omega
    simp only [World.cell?, hxa]
    rcases hj' with rfl | rfl | rfl | rfl | rfl | rfl | rfl | rfl <;> rfl
  have HCA := Lib.hid (fun (W : World) (hW : Below Wa.heap.size Wa W) => rd_cells0 (w := W) (fun j hj => (hW.cell (p := ⟨w.heap.size, 0 + j, none⟩) hla).trans (hca j hj)))
  have HWA := Lib.hid hWa
  have HBA := Lib.hid hba
  clear hu hl4 hl8 hmk hL4 hM8 hlp hWa hba hxa hla hca
  go_enter Tryz.func63, Tryz.ntmps63
  go_wp2_with (first
    | (go_at_call 99; rw [← HWA.out]; (with_reducible refine (HH.out _).mono ?_); rintro e w2 ⟨A2, c2, rfl, hn2, hb2⟩; obtain ⟨b2, o2, rfl, _, hc2⟩ := hn2.sl.rd (by rw [HL.out.1]; omega); rw [HL.out.1]; have HC2 := Lib.hid (rd_cells hc2); have HB2 := Lib.hid hb2; have HL2 := Lib.hid (HCA.out w2 hb2); clear hn2 hb2 hc2)
    | (at_builtin; refine wpList_append_arg _ rfl (.tmp 5) (.tmp 8) 33 rfl 5 i0 (.int .u8 0) 1 1 Tryz.underlying33 hi hz0 hz1 hz2 rfl (by decide) w.heap.size 0 8 8 (lettersM.map (Value.int .u8)) rfl rfl HL2.out ⟨b2, o2, none⟩ 4 c2 (L4.map (Value.int .u8)) rfl (by rw [List.length_map, HL.out.1]) HC2.out (octs_one L4) (fun h => absurd h (by omega)) (by unfold maxLen; omega) (by omega) (fun h => absurd h (by omega)) ?_; intro _ v3 w3 hown3 hg3; obtain ⟨A3, c3, rfl, _, _⟩ := own_form hown3; have hsz2 : w.heap.size ≤ w2.heap.size := Nat.le_trans HBA.out.size HB2.out.size; have hn3 : New w.heap.size w3 A3 c3 (lettersM ++ L4) := New.low (B := w2.heap.size) (by show w3.ownsRow w2.heap.size 5 1 (.slice A3 (lettersM ++ L4).length c3) (lettersM ++ L4).length ((lettersM ++ L4).map (Value.int .u8)); rw [HLP.out, List.map_append]; exact hown3) hsz2; have hb3 : Below w.heap.size w w3 := (HBA.out.trans (HB2.out.mono HBA.out.size)).grown hg3 hsz2 (by intro k hk; cases hk); have hof := rOf_any A3 c3 (lettersM ++ L4) w3 hn3.sl HO.out; rw [← HMK.out, HLP.out] at hof; have HN3 := Lib.hid hn3; have HB3 := Lib.hid hb3; have HOF := Lib.hid hof; clear hown3 hg3 hn3 hb3 hof)
    | (go_at_call 100; refine HOF.out.mono ?_; rintro e w' ⟨rfl, rfl⟩)
    | (go_at_call 99; (with_reducible refine (HG.out _).mono ?_); rintro e w4 ⟨A4, c4, rfl, hn4, hb4⟩; rw [HL.out.2]; have HN4 := Lib.hid hn4; have HB4 := Lib.hid (HB3.out.trans (hb4.mono HB3.out.size)); have HP4 := Lib.hid (row_later HN3.out hb4); clear hn4 hb4)
    | (at_builtin; refine app_b rfl (.tmp 10) (.tmp 13) rfl w.heap.size (.slice A3 12 c3) 12 ((lettersM ++ L4).map (Value.int .u8)) rfl (by have := HP4.out; rw [HLP.out] at this; exact this) A4 c4 8 M8 rfl HL.out.2 HN4.out.sl.rd (by omega) HB4.out.size ?_; intro v5 w5 hown5 hg5; have HO5 := Lib.hid hown5; have HB5 := Lib.hid (show Below w.heap.size w w5 from HB4.out.grown hg5 HB4.out.size (by intro k hk; exact (HP4.out.lt k (by cases A3 <;> simp_all [Value.ownBlock, blk])).1)); clear hown5 hg5))
  go_ret
  refine gives_of ⟨_, rfl, ?_, HB5.out⟩
  rw [← HE.out, List.length_append, HLP.out, HL.out.2, List.map_append]
  exact HO5.out

theorem apart_new {A1 A2 : Option Addr} {n c m c' N : Nat} (h1 : ∀ q, blk A1 = some q → q < N) (h2 : ∀ q, blk A2 = some q → N ≤ q) : (Value.slice A1 n c).ownBlock = none ∨ (Value.slice A1 n c).ownBlock ≠ (Value.slice A2 m c').ownBlock := by
  rw [ob_eq, ob_eq]
  rcases hA : blk A1 with _ | q
  · exact .inl rfl
  · exact .inr (fun e => by have a := h1 q hA; have b := h2 q e.symm; omega)
set_option maxHeartbeats 4000000 in
theorem rFrame_any (k : Int) (hk0 : 0 ≤ k) (hk1 : k ≤ 1000000) (B : Option Addr) (cb : Nat) (b : List Int) (w : World) (hs : Sl w B cb b) (ho : Oct b) (hl : b.length ≤ 16000) :
    Calls Tryz.prog 88 #[.int .i64 k, .slice B b.length cb] w (GivesB w (frameM k b)) := by
  have hw1 : IntKind.u64.wrap k = k := by rw [IntKind.wrap_u64]; omega
  have hw2 : IntKind.u64.wrap (b.length : Int) = (b.length : Int) := by rw [IntKind.wrap_u64]; omega
  have HH := Lib.hid (fun W => show Calls Tryz.prog 99 #[.int .u64 (b.length : Int), .int .i64 4] W (GivesB W (fldOf 4 (b.length : Int))) from rHigh_any (b.length : Int) 4 W (by omega) (by omega) (by omega) (by omega))
  have HK := Lib.hid (fun W => show Calls Tryz.prog 99 #[.int .u64 k, .int .i64 8] W (GivesB W (fldOf 8 k)) from rHigh_any k 8 W (by omega) (by omega) (by omega) (by omega))
  have hu := markM_u k b
  have HG := Lib.hid (fun W => show Calls Tryz.prog 99 #[.int .u64 (markM k b), .int .i64 8] W (GivesB W (fldOf 8 (markM k b))) from rHigh_any (markM k b) 8 W (by omega) (by omega) hu.1 hu.2)
  have HM := Lib.hid (show ofM (fldOf 8 k ++ b) = markM k b from onM_append _ _ _)
  have HO := Lib.hid (show Oct (fldOf 8 k ++ b) from oct_append (fldOf_oct (m := 8) k (by omega) (by omega)) ho)
  have HL := Lib.hid (show (fldOf 4 (b.length : Int)).length = 4 ∧ (fldOf 8 k).length = 8 ∧ (fldOf 8 (markM k b)).length = 8 from ⟨fldOf_len (m := 4) _ (by omega) (by omega), fldOf_len (m := 8) _ (by omega) (by omega), fldOf_len (m := 8) _ (by omega) (by omega)⟩)
  have HF := Lib.hid (show fldOf 4 (b.length : Int) ++ fldOf 8 (markM k b) ++ b = frameM k b from rfl)
  have HS := Lib.hid hs
  obtain ⟨mk, hmk⟩ : ∃ mk, mk = markM k b := ⟨_, rfl⟩
  rw [← hmk] at HG HM HL HF
  obtain ⟨bl, hbl⟩ : ∃ bl, bl = b.length := ⟨_, rfl⟩
  have HBL := Lib.hid hbl
  rw [← hbl] at hw2 HH HL HF hl ⊢
  obtain ⟨L4, hL4⟩ : ∃ L4, L4 = fldOf 4 (bl : Int) := ⟨_, rfl⟩
  obtain ⟨K8, hK8⟩ : ∃ K8, K8 = fldOf 8 k := ⟨_, rfl⟩
  obtain ⟨M8, hM8⟩ : ∃ M8, M8 = fldOf 8 mk := ⟨_, rfl⟩
  rw [← hL4] at HH HL HF
  rw [← hK8] at HK HL HM HO
  rw [← hM8] at HG HL HF
  clear hs ho hu hmk hbl hL4 hK8 hM8
  go_enter Tryz.func88, Tryz.ntmps88
  go_wp2_with (first
    | (go_at_call 99; (with_reducible refine (HH.out _).mono ?_); rintro e w1 ⟨A1, c1, rfl, hn1, hb1⟩; rw [HL.out.1]; have HN1 := Lib.hid hn1; have HLT1 := Lib.hid (show ∀ q, blk A1 = some q → q < w1.heap.size from fun q hq => (hn1.lt q (by cases A1 <;> simp_all [Value.ownBlock, blk])).2); have HB1 := Lib.hid hb1; clear hn1 hb1)
    | (go_at_call 99; (with_reducible refine (HK.out _).mono ?_); rintro e w2 ⟨A2, c2, rfl, hn2, hb2⟩; rw [HL.out.2.1]; have HN2 := Lib.hid (show New w.heap.size w2 A2 c2 K8 from New.low hn2 HB1.out.size); have HP2 := Lib.hid (row_later HN1.out hb2); have HAP2 := Lib.hid (show ∀ q, blk A2 = some q → w1.heap.size ≤ q from fun q hq => (hn2.lt q (by cases A2 <;> simp_all [Value.ownBlock, blk])).1); have HB2 := Lib.hid (HB1.out.trans (hb2.mono HB1.out.size)); clear hn2 hb2)
    | (at_builtin; refine app_b rfl (.tmp 13) (.tmp 14) rfl w.heap.size (.slice A2 8 c2) 8 (K8.map (Value.int .u8)) rfl (by have := HN2.out; unfold New at this; rw [HL.out.2.1] at this; exact this) B cb bl b rfl HBL.out.symm ((HS.out.below HB2.out).rd) (by omega) HB2.out.size ?_; intro v3 w3 hown3 hg3; obtain ⟨A3, c3, rfl, _, _⟩ := own_form hown3; have hn3 : New w.heap.size w3 A3 c3 (K8 ++ b) := (by show w3.ownsRow w.heap.size 5 1 (.slice A3 (K8 ++ b).length c3) (K8 ++ b).length ((K8 ++ b).map (Value.int .u8)); rw [List.length_append, HL.out.2.1, ← HBL.out, List.map_append]; exact hown3); have hb3 : Below w.heap.size w w3 := HB2.out.grown hg3 HB2.out.size (by intro q hq; exact (HN2.out.lt q (by cases A2 <;> simp_all [Value.ownBlock, blk])).1); have hp3 : New w.heap.size w3 A1 c1 L4 := HP2.out.kept hg3 (apart_new HLT1.out HAP2.out); have hof := rOf_any A3 c3 (K8 ++ b) w3 hn3.sl HO.out; rw [HM.out, show (K8 ++ b).length = 8 + bl from by rw [List.length_append, HL.out.2.1, ← HBL.out]] at hof; have HN3 := Lib.hid hp3; have HB3 := Lib.hid hb3; have HOF := Lib.hid hof; clear hown3 hg3 hn3 hb3 hof hp3)
    | (go_at_call 100; refine HOF.out.mono ?_; rintro e w' ⟨rfl, rfl⟩)
    | (go_at_call 99; (with_reducible refine (HG.out _).mono ?_); rintro e w4 ⟨A4, c4, rfl, hn4, hb4⟩; rw [HL.out.2.2]; have HN4 := Lib.hid hn4; have HB4 := Lib.hid (HB3.out.trans (hb4.mono HB3.out.size)); have HP4 := Lib.hid (row_later HN3.out hb4); clear hn4 hb4)
    | (at_builtin; refine app_b rfl (.tmp 10) (.tmp 17) rfl w.heap.size (.slice A1 4 c1) 4 (L4.map (Value.int .u8)) rfl (by have := HP4.out; unfold New at this; rw [HL.out.1] at this; exact this) A4 c4 8 M8 rfl HL.out.2.2 HN4.out.sl.rd (by omega) HB4.out.size ?_; intro v5 w5 hown5 hg5; obtain ⟨A5, c5, rfl, _, _⟩ := own_form hown5; have HO5 := Lib.hid hown5; have HB5 := Lib.hid (show Below w.heap.size w w5 from HB4.out.grown hg5 HB4.out.size (by intro q hq; exact (HP4.out.lt q (by cases A1 <;> simp_all [Value.ownBlock, blk])).1)); clear hown5 hg5)
    | (at_builtin; refine app_b rfl (.tmp 19) (.tmp 20) rfl w.heap.size (.slice A5 12 c5) 12 (L4.map (Value.int .u8) ++ M8.map (Value.int .u8)) rfl HO5.out B cb bl b rfl HBL.out.symm ((HS.out.below HB5.out).rd) (by omega) HB5.out.size ?_; intro v6 w6 hown6 hg6; have HO6 := Lib.hid hown6; have HB6 := Lib.hid (show Below w.heap.size w w6 from HB5.out.grown hg6 HB5.out.size (by intro q hq; exact (HO5.out.lt q (by cases A5 <;> simp_all [Value.ownBlock, blk])).1)); clear hown6 hg6))
  go_ret
  refine gives_of ⟨_, rfl, ?_, HB6.out⟩
  rw [← HF.out, List.length_append, List.length_append, HL.out.1, HL.out.2.2, ← HBL.out, List.map_append, List.map_append]
  exact HO6.out

end Go.Proofs.YtienabfilnpieaaGreat
