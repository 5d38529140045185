/-
  The law's own model of a log: there, first, and a new file.
  The law's own model of a log: a new file, whole.
  The law's own model of a log: Open.
-/
import Derived.Test.YtienabfilnpieaaGreatRefC
import Derived.BigRegion
namespace Go.Proofs.YtienabfilnpieaaGreat
open Go.RowKit Go.Shelf
set_option linter.unusedVariables false
set_option linter.unusedSimpArgs false
set_option linter.unusedSimpArgs false
set_option maxRecDepth 100000

/-! ### there -/
set_option maxHeartbeats 1000000 in
theorem there_any {w : World} {S : Nat → Prop} {d : Nat} {M : AD} (h : DiskAt w S d M) (x : Int) :
    Calls Tryz.prog 85 #[.pointer (some ⟨d, 0, none⟩), .int .i64 x] w fun e w' => e = .returned (.bool (decide (x ∈ M.names))) ∧ Below w.heap.size w w' := by
  have HF := Lib.hid (files_any h)
  obtain ⟨NS, hNS⟩ : ∃ NS, NS = M.names := ⟨_, rfl⟩
  have hl4 : NS.length ≤ 4 := by rw [hNS]; exact below_length M 4
  rw [← hNS] at HF ⊢
  obtain ⟨n, hn⟩ : ∃ n, n = NS.length := ⟨_, rfl⟩
  have HN := Lib.hid hn
  rw [← hn] at hl4
  clear h hNS hn
  go_enter Tryz.func85, Tryz.ntmps85
  go_wp2_with fail
  refine HF.out.mono ?_
  rintro e w1 ⟨v, rfl, hown, hb⟩
  rw [← HN.out] at hown
  obtain ⟨A, c, rfl, hc2, _⟩ := own_form hown
  have HR := Lib.hid (RdI.own hown)
  have HB := Lib.hid hb
  clear hown hb
  go_wp2_with fail
  go_loopw [10] (fun i wr => ∃ k : Nat, i = .int .i64 k ∧ k ≤ n ∧ Hid (∀ j, j < k → NS.getD j 0 ≠ x) ∧ Hid (wr = w1)) (fun i _ => n - (match i with | .int _ k => k.toNat | _ => 0))
  case atStart => exact ⟨0, rfl, Nat.zero_le _, Lib.hid (fun j hj => by omega), Lib.hid rfl⟩
  case round =>
    obtain ⟨k, rfl, hk, HK, HW⟩ := hrel
    by_cases hkn : k < n
    · have hkk : (k : Int) < n := by omega
      have k0 : (0 : Int) ≤ (k : Int) := by omega
      obtain ⟨b, o, rfl, hcell⟩ := HR.out (by rw [← HN.out]; omega)
      have hcell := hcell k (by rw [← HN.out]; exact hkn)
      rw [← HW.out] at hcell
      by_cases he : NS.getD k 0 = x
      · have HE := Lib.hid (show decide (x ∈ NS) = true from decide_eq_true (by
          rw [← he, List.getD, List.getElem?_eq_getElem (by rw [← HN.out]; exact hkn)]
          exact List.getElem_mem _))
        have t1 : (NS.getD k 0 == x) = true := by simpa using he
        generalize NS.getD k 0 = y at *
        clear he
        go_wp2
        go_ret
        rw [HE.out]
        exact ⟨rfl, by rw [HW.out]; exact HB.out⟩
      · have t1 : (NS.getD k 0 == x) = false := by simpa using he
        have HE := Lib.hid (show ∀ j, j < k + 1 → NS.getD j 0 ≠ x from fun j hj => by
          by_cases e : j = k
          · subst e; exact he
          · exact HK.out j (by omega))
        generalize NS.getD k 0 = y at *
        clear he
        go_wp2
        go_roundw
        case rel => exact ⟨k + 1, by go_num, by omega, HE, HW⟩
        case measure => simp; omega
    · obtain rfl : k = n := by omega
      have HE := Lib.hid (show decide (x ∈ NS) = false from decide_eq_false (fun e => by
        obtain ⟨j, hj⟩ := List.mem_iff_getElem?.1 e
        have hjl := (List.getElem?_eq_some_iff.1 hj).1
        exact HK.out j (by rw [HN.out]; exact hjl) (by simp [List.getD, hj])))
      go_wp2
      go_ret
      rw [HE.out]
      exact ⟨rfl, by rw [HW.out]; exact HB.out⟩
theorem there_new {w : World} {S : Nat → Prop} {d : Nat} {M : AD} (h : DiskAt w S d M) :
    Calls Tryz.prog 85 #[.pointer (some ⟨d, 0, none⟩), .int .i64 1] w fun e w' => e = .returned (.bool (M.files 1).isSome) ∧ Below w.heap.size w w' := by
  have key := there_any h 1
  have hm := mem_names M 1 (by omega)
  have e : decide ((1 : Int) ∈ M.names) = (M.files 1).isSome := by
    cases hs : (M.files 1).isSome with
    | true => exact decide_eq_true (hm.2 (by simpa using hs))
    | false => exact decide_eq_false (fun e => by have := hm.1 e; simp at this; rw [hs] at this; cases this)
  rw [e] at key
  exact key

/-! ### first -/
set_option maxHeartbeats 2000000 in
/-- Steps, one behind the other, up to the first one that has an error. -/
theorem first_any {w : World} (b n c : Nat) (fid : Nat → FuncId) (caps : Nat → Array Value) (I : Nat → World → Prop) (Stop : Int → World → Prop) (hn : n ≤ 1000)
    (hcell : ∀ j W, j < n → I j W → W.cell? ⟨b, j, none⟩ = some (.func (.func (fid j)) #[] (caps j)))
    (hen : ∀ j W, j < n → (callFunc (fid j) (caps j)).run Tryz.prog W = .ok (.enter (fid j) (caps j)) W)
    (hstep : ∀ j W, j < n → I j W → Calls Tryz.prog (fid j) (caps j) W fun e W' => ∃ cc, e = .returned (.int .i64 cc) ∧ (cc = 0 → I (j + 1) W') ∧ (cc ≠ 0 → Stop cc W'))
    (h0 : I 0 w) :
    Calls Tryz.prog 81 #[.slice (some ⟨b, 0, none⟩) n c] w fun e w' => ∃ cc, e = .returned (.int .i64 cc) ∧ (cc = 0 → I n w') ∧ (cc ≠ 0 → Stop cc w') := by
  have HC := Lib.hid hcell
  have HE := Lib.hid hen
  have HS := Lib.hid hstep
  have H0 := Lib.hid h0
  clear hcell hen hstep h0
  go_enter Tryz.func81, Tryz.ntmps81
  go_wp2_with fail
  go_loopw [8] (fun i wr => ∃ k : Nat, i = .int .i64 k ∧ k ≤ n ∧ Hid (I k wr)) (fun i _ => n - (match i with | .int _ k => k.toNat | _ => 0))
  case atStart => exact ⟨0, rfl, Nat.zero_le _, H0⟩
  case round =>
    obtain ⟨k, rfl, hk, HI⟩ := hrel
    by_cases hkn : k < n
    · have hkk : (k : Int) < n := by omega
      have k0 : (0 : Int) ≤ (k : Int) := by omega
      have hc := HC.out k wr hkn HI.out
      have hen := fun W => HE.out k W hkn
      have HT := Lib.hid (HS.out k wr hkn HI.out)
      generalize hfk : fid k = fk at *
      generalize hck : caps k = ck at *
      clear hfk hck
      go_wp2_with fail
      refine HT.out.mono ?_
      rintro e w1 ⟨cc, rfl, h1, h2⟩
      have HA := Lib.hid h1
      have HB := Lib.hid h2
      clear h1 h2 hc hen
      by_cases hz : cc = 0
      · subst hz
        go_wp2
        go_roundw
        case rel => exact ⟨k + 1, by go_num, by omega, Lib.hid (HA.out (by simp))⟩
        case measure => simp; omega
      · have t1 : (cc == 0) = false := by simp [hz]
        have t2 : (cc != 0) = true := by simp [hz]
        have HZ := Lib.hid hz
        clear hz
        go_wp2
        go_ret
        exact ⟨cc, rfl, fun e => absurd e HZ.out, fun _ => HB.out HZ.out⟩
    · obtain rfl : k = n := by omega
      go_wp2
      go_ret
      exact ⟨0, rfl, fun _ => HI.out, fun e => absurd rfl e⟩

/-! ### File -/
set_option maxHeartbeats 2000000 in
theorem rFile_any (n : Int) (h0 : 0 ≤ n) (h1 : n ≤ 16000) (A : Option Addr) (c : Nat) (ps : List (List Int)) (w : World) (hr : Recs w A ps) (hb : costM ps ≤ 16000) :
    Calls Tryz.prog 114 #[.int .i64 n, .slice A ps.length c] w (GivesB w (logB n ps)) := by
  have HH := Lib.hid (rHead_any n w h0 h1)
  have HHL := Lib.hid (headM_len n)
  have HR := Lib.hid hr
  have hcl := costM_len ps
  obtain ⟨m, hm⟩ : ∃ m, m = ps.length := ⟨_, rfl⟩
  have HM := Lib.hid hm
  have hmb : m ≤ 16000 := by omega
  have HCB := Lib.hid (fun k => Nat.le_trans (costM_take ps k) hb)
  rw [← hm]
  clear hr hcl hm hb
  go_enter Tryz.func114, Tryz.ntmps114
  go_wp2_with fail
  refine HH.out.mono ?_
  rintro e w1 ⟨A1, c1, rfl, hn1, hb1⟩
  rw [HHL.out]
  have HN1 := Lib.hid hn1
  have HB1 := Lib.hid hb1
  clear hn1 hb1
  go_wp2_with fail
  go_loopw [5, 12] (fun s i wr => ∃ (k : Nat) (A : Option Addr) (c : Nat), i = .int .i64 k ∧ s = .slice A (20 + costM (ps.take k)) c ∧ k ≤ m ∧ Hid (New w.heap.size wr A c (headM n ++ framesM 0 (ps.take k)) ∧ Below w.heap.size w wr)) (fun _ i _ => m - (match i with | .int _ k => k.toNat | _ => 0))
  case atStart => exact ⟨0, A1, c1, rfl, rfl, Nat.zero_le _, Lib.hid ⟨by simpa [framesM] using HN1.out, HB1.out⟩⟩
  case round =>
    clear HN1 HB1
    obtain ⟨k, A2, c2, rfl, rfl, hk, HI⟩ := hrel
    by_cases hkm : k < m
    · have hkk : (k : Int) < m := by omega
      have k0 : (0 : Int) ≤ (k : Int) := by omega
      obtain ⟨p, hp⟩ : ∃ p, ps[k]? = some p := ⟨ps[k]'(by rw [← HM.out]; exact hkm), List.getElem?_eq_getElem _⟩
      obtain ⟨b, o, B, cb, rfl, hbl, hcell, hsl, hoct⟩ := (HR.out.later HI.out.2) k p hp
      have hpl : p.length ≤ 16000 := by have := costM_mem hp; have := HCB.out m; rw [HM.out, List.take_length] at this; omega
      have HFR := Lib.hid (rFrame_any k (by omega) (by omega) B cb p wr hsl hoct hpl)
      have hfl := frameM_len k p
      have hst := costM_snoc hp
      have hbd := HCB.out (k + 1)
      have HEQ := Lib.hid (show headM n ++ framesM 0 (ps.take (k + 1)) = headM n ++ framesM 0 (ps.take k) ++ frameM (k : Int) p from by
        have e : ps.take (k + 1) = ps.take k ++ [p] := by rw [List.take_add_one, hp]; rfl
        rw [e, framesM_snoc, List.append_assoc]
        have : (ps.take k).length = k := by rw [List.length_take, ← HM.out]; omega
        rw [Nat.zero_add, this])
      have HLN := Lib.hid (show (headM n ++ framesM 0 (ps.take k)).length = 20 + costM (ps.take k) by rw [List.length_append, headM_len, framesM_len])
      obtain ⟨F, hF⟩ : ∃ F, F = frameM (k : Int) p := ⟨_, rfl⟩
      obtain ⟨G, hG⟩ : ∃ G, G = headM n ++ framesM 0 (ps.take k) := ⟨_, rfl⟩
      obtain ⟨s1, hs1⟩ : ∃ s1, s1 = 20 + costM (ps.take k) := ⟨_, rfl⟩
      obtain ⟨fl, hfl'⟩ : ∃ fl, fl = F.length := ⟨_, rfl⟩
      have HFL := Lib.hid hfl'
      have hs2 : 20 + costM (ps.take (k + 1)) = s1 + fl := by rw [hfl', hF, hfl, hs1, hst]; omega
      have HS2 := Lib.hid hs2
      have hsb : s1 + fl ≤ 20000 := by omega
      have hn := HI.out.1
      have HBW := Lib.hid HI.out.2
      rw [← hG] at hn HEQ HLN
      rw [← hF] at HFR HEQ
      rw [← hs1] at HLN ⊢
      have hn' : wr.ownsRow w.heap.size 5 1 (.slice A2 s1 c2) s1 (G.map (Value.int .u8)) := by have := hn; unfold New at this; rw [HLN.out] at this; exact this
      have HO2 := Lib.hid hn'
      generalize p.length = pl at *
      clear hsl hoct hpl hp hfl hst hbd hF hG hs1 hfl' hs2 hn hn' HI hbl
      go_wp2_with (first
        | (go_at_call 88; refine HFR.out.mono ?_; rintro e w3 ⟨A3, c3, rfl, hn3, hb3⟩; rw [← HFL.out]; have HN3 := Lib.hid hn3.sl.rd; have HB3 := Lib.hid (HBW.out.trans (hb3.mono HBW.out.size)); have HP3 := Lib.hid (row_later HO2.out hb3); clear hn3 hb3)
        | (at_builtin; refine app_b rfl (.tmp 17) (.tmp 20) rfl w.heap.size (.slice A2 s1 c2) s1 (G.map (Value.int .u8)) rfl HP3.out A3 c3 fl F rfl HFL.out.symm HN3.out (by omega) HB3.out.size ?_; intro v4 w4 hown4 hg4; obtain ⟨A4, c4, rfl, _, _⟩ := own_form hown4; have HO4 := Lib.hid hown4; have HB4 := Lib.hid (show Below w.heap.size w w4 from HB3.out.grown hg4 HB3.out.size (by intro q hq; exact (HP3.out.lt q (by cases A2 <;> simp_all [Value.ownBlock, blk])).1)); clear hown4 hg4))
      go_roundw
      case rel =>
        refine ⟨k + 1, A4, c4, by go_num, by rw [HS2.out], by omega, Lib.hid ⟨?_, HB4.out⟩⟩
        have := HO4.out
        rw [HEQ.out]
        show w4.ownsRow w.heap.size 5 1 (.slice A4 (G ++ F).length c4) (G ++ F).length ((G ++ F).map (Value.int .u8))
        rw [List.length_append, HLN.out, ← HFL.out, List.map_append]
        exact this
      case measure => simp; omega
    · obtain rfl : k = m := by omega
      have HZ := Lib.hid (show headM n ++ framesM 0 (ps.take k) = logB n ps ∧ 20 + costM (ps.take k) = (logB n ps).length by
        rw [HM.out, List.take_length, logB_len]
        exact ⟨rfl, by omega⟩)
      rw [HZ.out.2]
      go_wp2
      go_ret
      exact ⟨A2, c2, rfl, by rw [← HZ.out.1]; exact HI.out.1, HI.out.2⟩

/-! ### a new file -/
/-- A box that points to the model, whose first cell points to the disk. -/
structure Mo (W : World) (p mb d : Nat) : Prop where
  p : W.cell? ⟨p, 0, none⟩ = some (.pointer (some ⟨mb, 0, none⟩))
  m : W.cell? ⟨mb, 0, none⟩ = some (.pointer (some ⟨d, 0, none⟩))
theorem Mo.later {W W' : World} {p mb d : Nat} (h : Mo W p mb d) (hb : Below W.heap.size W W') : Mo W' p mb d :=
  ⟨(hb.cell (p := ⟨p, 0, none⟩) (World.block_lt_of_cell? _ _ h.p)).trans h.p, (hb.cell (p := ⟨mb, 0, none⟩) (World.block_lt_of_cell? _ _ h.m)).trans h.m⟩
theorem Mo.turn {S : Nat → Prop} {W W' : World} {p mb d : Nat} (h : Mo W p mb d) (ht : Turn S W W') (h1 : ¬ S p) (h2 : ¬ S mb) : Mo W' p mb d := ⟨turn_cell ht h1 h.p, turn_cell ht h2 h.m⟩
section
variable {w : World} {S : Nat → Prop} {d p mb : Nat} {M : AD}
set_option maxHeartbeats 1000000 in
theorem mNew1_any (h : DiskAt w S d M) (hops : M.ops < 4611686018427387904) (hp : Mo w p mb d) :
    Calls Tryz.prog 112 #[.pointer (some ⟨p, 0, none⟩)] w fun e w' => e = .returned (.int .i64 M.dropC) ∧ After S d w M.dropM w' := by
  have HT := Lib.hid (there_new h)
  have HP := Lib.hid (fun (W : World) (hW : Below w.heap.size w W) => hp.later hW)
  have HRM := Lib.hid (fun (W : World) (hW : Below w.heap.size w W) => (remove_any (h.later hW) (k := 1) (by decide) hops).mono (R' := fun e W' => e = .returned (.int .i64 (M.opC 1 [])) ∧ After S d w (M.opM 1 [] (M.met.drop 1)) W') (fun e W' hh => ⟨hh.1, After.then h (Turn.of_below hW) hh.2⟩))
  have HS := Lib.hid (fun (W : World) (hW : Below w.heap.size w W) => After.same h hW)
  obtain ⟨p1, p2⟩ := hp
  rcases hs : (M.files 1).isSome with _ | _
  · have hc : Hid (M.dropC = 0 ∧ M.dropM = M) := by unfold Hid AD.dropC AD.dropM; simp [hs]
    rw [hs] at HT
    clear h hops hs
    go_enter Tryz.func112, Tryz.ntmps112
    go_wp2_with fail
    refine HT.out.mono ?_
    rintro e w1 ⟨rfl, hb⟩
    have HB := Lib.hid hb
    clear hb
    go_wp2
    go_ret
    rw [hc.out.1, hc.out.2]
    exact ⟨rfl, HS.out _ HB.out⟩
  · have hc : Hid (M.dropC = M.opC 1 [] ∧ M.dropM = M.opM 1 [] (M.met.drop 1)) := by unfold Hid AD.dropC AD.dropM; simp [hs]
    rw [hs] at HT
    clear h hops hs
    go_enter Tryz.func112, Tryz.ntmps112
    go_wp2_with fail
    refine HT.out.mono ?_
    rintro e w1 ⟨rfl, hb⟩
    have HB := Lib.hid hb
    obtain ⟨q1, q2⟩ := HP.out w1 hb
    have HR1 := Lib.hid (HRM.out w1 hb)
    clear hb
    go_wp2_with fail
    refine HR1.out.mono ?_
    rintro e w2 ⟨rfl, ha⟩
    have HA := Lib.hid ha
    clear ha
    go_wp2
    go_ret
    rw [hc.out.1, hc.out.2]
    exact ⟨rfl, HA.out⟩
theorem mNew3_any (h : DiskAt w S d M) (hops : M.ops < 4611686018427387904) (hp : Mo w p mb d) :
    Calls Tryz.prog 115 #[.pointer (some ⟨p, 0, none⟩)] w fun e w' => e = .returned (.int .i64 (M.opC 1 [])) ∧ After S d w (M.opM 1 [] (M.met.put 1 (M.file 1).settled)) w' := by
  have HD := Lib.hid (sync_any h (k := 1) (by decide) hops)
  obtain ⟨p1, p2⟩ := hp
  clear h
  go_enter Tryz.func115, Tryz.ntmps115
  go_wp2_with (go_at_call 12; refine HD.out.mono ?_; rintro e w' ⟨rfl, ha⟩; have HA := Lib.hid ha; clear ha)
  go_ret
  exact ⟨rfl, HA.out⟩
theorem mNew4_any (h : DiskAt w S d M) (hops : M.ops < 4611686018427387904) (hp : Mo w p mb d) :
    Calls Tryz.prog 116 #[.pointer (some ⟨p, 0, none⟩)] w fun e w' => e = .returned (.int .i64 (M.opC 1 [0])) ∧ After S d w (M.opM 1 [0] (M.met.move 1 0)) w' := by
  have HD := Lib.hid (rename_any h (k := 1) (j := 0) (by decide) (by decide) hops)
  obtain ⟨p1, p2⟩ := hp
  clear h
  go_enter Tryz.func116, Tryz.ntmps116
  go_wp2_with (go_at_call 109; refine HD.out.mono ?_; rintro e w' ⟨rfl, ha⟩; have HA := Lib.hid ha; clear ha)
  go_ret
  exact ⟨rfl, HA.out⟩
end

end Go.Proofs.YtienabfilnpieaaGreat

namespace Go.Proofs.YtienabfilnpieaaGreat
open Go.RowKit Go.Shelf
set_option linter.unusedVariables false
set_option linter.unusedSimpArgs false
set_option linter.unusedSimpArgs false
set_option maxRecDepth 100000

section
variable {w : World} {S : Nat → Prop} {d p mb : Nat} {M : AD}
set_option maxHeartbeats 4000000 in
theorem mNew2_any (h : DiskAt w S d M) (hops : M.ops < 4611686018427387904) (hp : Mo w p mb d) {p1 p2 : Nat} (hS : ¬ S p ∧ ¬ S mb ∧ ¬ S p1 ∧ ¬ S p2) {n : Int} (h0 : 0 ≤ n) (h1 : n ≤ 16000) (hc1 : w.cell? ⟨p1, 0, none⟩ = some (.int .i64 n))
    {A : Option Addr} {l c : Nat} {s : List Int} (hl : s.length = l) (hc2 : w.cell? ⟨p2, 0, none⟩ = some (.slice A l c)) (hs : Sl w A c s) (ho : Oct s) (hb : s.length ≤ 10000) :
    Calls Tryz.prog 113 #[.pointer (some ⟨p, 0, none⟩), .pointer (some ⟨p1, 0, none⟩), .pointer (some ⟨p2, 0, none⟩)] w fun e w' => e = .returned (.int .i64 (M.appendC 1 (fileM n s).length)) ∧ After S d w (M.appendM 1 (fileM n s)) w' := by
  obtain ⟨i0, hi, hz0, hz1, hz2⟩ := info_parts infoBytes
  have hlen : (fileM n s).length = l + 32 := by rw [fileM_len, hl]
  rw [hlen]
  have HFI := Lib.hid (fun (W : World) (B : Option Addr) (hrec : Recs W B [s]) => show Calls Tryz.prog 114 #[.int .i64 n, .slice B 1 1] W (GivesB W (fileM n s)) from by have key := rFile_any n h0 h1 B 1 [s] W hrec (by simp [costM]; omega); rw [logB_one] at key; exact key)
  have HAP := Lib.hid (fun (W : World) (hW : Below w.heap.size w W) (B : Option Addr) (cb : Nat) (hr : Rd W W.heap.size B (fileM n s)) => (append_any (h.later hW) (k := 1) (by decide) hops B (l + 32) cb (fileM n s) hlen (by omega) hr).mono (R' := fun e W' => e = .returned (.int .i64 (M.appendC 1 (l + 32))) ∧ After S d w (M.appendM 1 (fileM n s)) W') (fun e W' hh => ⟨hh.1, After.then h (Turn.of_below hW) hh.2⟩))
  have HK := Lib.hid (fun (W : World) (hW : Below w.heap.size w W) => show W.cell? ⟨p, 0, none⟩ = some (.pointer (some ⟨mb, 0, none⟩)) ∧ W.cell? ⟨mb, 0, none⟩ = some (.pointer (some ⟨d, 0, none⟩)) ∧ W.cell? ⟨p1, 0, none⟩ = some (.int .i64 n) ∧ W.cell? ⟨p2, 0, none⟩ = some (.slice A l c) ∧ Turn S w W from
    ⟨(hp.later hW).p, (hp.later hW).m, (hW.cell (p := ⟨p1, 0, none⟩) (World.block_lt_of_cell? _ _ hc1)).trans hc1, (hW.cell (p := ⟨p2, 0, none⟩) (World.block_lt_of_cell? _ _ hc2)).trans hc2, Turn.of_below hW⟩)
  have HRC := Lib.hid (fun (W : World) (hW : Below w.heap.size w W) (q : Nat) (hq : W.cell? ⟨q, 0, none⟩ = some (.slice A l c)) => show Recs W (some ⟨q, 0, none⟩) [s] from fun i p hi => by
    have hi0 : i = 0 := by have := (List.getElem?_eq_some_iff.1 hi).1; simpa using this
    subst hi0
    have e : s = p := by simpa using hi
    subst e
    exact ⟨q, 0, A, c, rfl, World.block_lt_of_cell? _ _ hq, by rw [hl]; exact hq, hs.below hW, ho⟩)
  have HLN := Lib.hid hlen
  have HC0 := Lib.hid (show w.cell? ⟨p, 0, none⟩ = some (.pointer (some ⟨mb, 0, none⟩)) ∧ w.cell? ⟨mb, 0, none⟩ = some (.pointer (some ⟨d, 0, none⟩)) ∧ w.cell? ⟨p1, 0, none⟩ = some (.int .i64 n) ∧ w.cell? ⟨p2, 0, none⟩ = some (.slice A l c) from ⟨hp.p, hp.m, hc1, hc2⟩)
  have HSN := Lib.hid hS
  clear h hp hs ho hb hc1 hc2 hops hlen hl hS
  go_enter Tryz.func113, Tryz.ntmps113
  go_upto_region 1 with fail
  have k0 := HK.out w.drew (below_drewN (Below.refl _ _) 1)
  have hba : Below w.heap.size w (w.drew.alloc (.cells #[.slice A l c] 33)) := (below_drewN (Below.refl _ w) 1).alloc (Nat.le_refl _) _
  have hca : (w.drew.alloc (.cells #[.slice A l c] 33)).cell? ⟨w.heap.size, 0, none⟩ = some (.slice A l c) := by
    have := heap_alloc_new w.drew (.cells #[.slice A l c] 33)
    simp only [World.cell?, show w.heap.size = w.drew.heap.size from rfl, this]
    rfl
  have K1 := Lib.hid (HK.out _ hba)
  have HBA := Lib.hid hba
  have HRE := Lib.hid (HRC.out _ hba _ hca)
  clear hba hca
  go_region_held3 (fun W => W.cell? ⟨p, 0, none⟩ = some (.pointer (some ⟨mb, 0, none⟩)) ∧ W.cell? ⟨mb, 0, none⟩ = some (.pointer (some ⟨d, 0, none⟩)) ∧ W.cell? ⟨p1, 0, none⟩ = some (.int .i64 n) ∧ W.cell? ⟨p2, 0, none⟩ = some (.slice A l c) ∧ Turn S w W) (first | exact k0 | exact K1.out | exact K2.out | exact K3.out) (first
    | (go_at_call 114; refine (HFI.out _ _ HRE.out).mono ?_; rintro e w3 ⟨A3, c3, rfl, hn3, hb3⟩; rw [HLN.out]; have hb3' := HBA.out.trans (hb3.mono HBA.out.size); have K2 := Lib.hid (HK.out _ hb3'); have HA3 := Lib.hid (HAP.out w3 hb3' A3 c3 hn3.sl.rd); clear hn3 hb3 hb3')
    | (go_at_call 11; refine HA3.out.mono ?_; rintro e w4 ⟨rfl, ha⟩; have K3 := Lib.hid (show w4.cell? ⟨p, 0, none⟩ = some (.pointer (some ⟨mb, 0, none⟩)) ∧ w4.cell? ⟨mb, 0, none⟩ = some (.pointer (some ⟨d, 0, none⟩)) ∧ w4.cell? ⟨p1, 0, none⟩ = some (.int .i64 n) ∧ w4.cell? ⟨p2, 0, none⟩ = some (.slice A l c) ∧ Turn S w w4 from ⟨turn_cell ha.2 HSN.out.1 HC0.out.1, turn_cell ha.2 HSN.out.2.1 HC0.out.2.1, turn_cell ha.2 HSN.out.2.2.1 HC0.out.2.2.1, turn_cell ha.2 HSN.out.2.2.2 HC0.out.2.2.2, ha.2⟩); have HA4 := Lib.hid ha; clear ha))
  all_goals (
    go_wp2
    go_ret
    exact ⟨rfl, HA4.out⟩)
/-- The four steps, as values: their boxes lie at p, p + 1, p + 2. -/
def mStepF : Nat → FuncId
  | 0 => 112
  | 1 => 113
  | 2 => 115
  | _ => 116
def mStepCaps (p : Nat) : Nat → Array Value
  | 1 => #[.pointer (some ⟨p, 0, none⟩), .pointer (some ⟨p + 1, 0, none⟩), .pointer (some ⟨p + 2, 0, none⟩)]
  | _ => #[.pointer (some ⟨p, 0, none⟩)]
def mStepV (p j : Nat) : Value := .func (.func (mStepF j)) #[] (mStepCaps p j)
structure MRen (W : World) (p mb d : Nat) (n : Int) (A : Option Addr) (l c : Nat) : Prop where
  c0 : Mo W p mb d
  c1 : W.cell? ⟨p + 1, 0, none⟩ = some (.int .i64 n)
  c2 : W.cell? ⟨p + 2, 0, none⟩ = some (.slice A l c)
  fs : W.heap[p + 3]? = some (.cells #[mStepV p 0, mStepV p 1, mStepV p 2, mStepV p 3] 71 (0, 0))
theorem enter_m0 (x : Value) (W : World) : (callFunc 112 #[x]).run Tryz.prog W = .ok (.enter 112 #[x]) W := by kernel_rfl
theorem enter_m1 (x y z : Value) (W : World) : (callFunc 113 #[x, y, z]).run Tryz.prog W = .ok (.enter 113 #[x, y, z]) W := by kernel_rfl
theorem enter_m2 (x : Value) (W : World) : (callFunc 115 #[x]).run Tryz.prog W = .ok (.enter 115 #[x]) W := by kernel_rfl
theorem enter_m3 (x : Value) (W : World) : (callFunc 116 #[x]).run Tryz.prog W = .ok (.enter 116 #[x]) W := by kernel_rfl
theorem enter_mstep (p j : Nat) (W : World) (hj : j < 4) : (callFunc (mStepF j) (mStepCaps p j)).run Tryz.prog W = .ok (.enter (mStepF j) (mStepCaps p j)) W := by
  have : j = 0 ∨ j = 1 ∨ j = 2 ∨ j = 3 := by omega
  rcases this with rfl | rfl | rfl | rfl
  · exact enter_m0 _ W
  · exact enter_m1 _ _ _ W
  · exact enter_m2 _ W
  · exact enter_m3 _ W
set_option maxHeartbeats 1000000 in
theorem mSteps_any (h : DiskAt w S d M) (hops : M.ops < 4611686018427387000) {n : Int} (hn : 0 ≤ n ∧ n ≤ 16000) {A : Option Addr} {l c : Nat} {s : List Int} (hl : s.length = l) (hs : Sl w A c s) (ho : Oct s) (hb : s.length ≤ 10000)
    (hA : ∀ q, blk A = some q → ¬ S q) (hr : MRen w p mb d n A l c) (hS : ∀ j, j < 4 → ¬ S (p + j)) (hm : ¬ S mb) :
    Calls Tryz.prog 81 #[.slice (some ⟨p + 3, 0, none⟩) 4 4] w fun e w' => e = .returned (.int .i64 (M.makeC (fileM n s))) ∧ After S d w (M.makeM (fileM n s)) w' := by
  obtain ⟨bs, hbs⟩ : ∃ bs, bs = fileM n s := ⟨_, rfl⟩
  have hlow : ∀ i, S i → i < w.heap.size := fun i hi => h.low hi
  have hp3 : p + 3 < w.heap.size := lt_of_block hr.fs
  have hml : mb < w.heap.size := World.block_lt_of_cell? _ _ hr.c0.m
  have key := first_any (w := w) (p + 3) 4 4 mStepF (mStepCaps p) (fun j W => After S d w (M.st bs j) W ∧ ∀ i, i < j → M.stC bs i = 0) (fun cc W => M.makeC bs = cc ∧ After S d w (M.makeM bs) W) (by omega)
    (fun j W hj hI => by
      have hc : w.cell? ⟨p + 3, j, none⟩ = some (mStepV p j) := by
        simp only [World.cell?, hr.fs]
        have : j = 0 ∨ j = 1 ∨ j = 2 ∨ j = 3 := by omega
        rcases this with rfl | rfl | rfl | rfl <;> rfl
      exact turn_cell hI.1.2 (hS 3 (by omega)) hc)
    (fun j W hj => enter_mstep p j W hj)
    (fun j W hj hI => by
      obtain ⟨hI, hz⟩ := hI
      have hgr : ∀ q, q < w.heap.size → ¬ S q → ¬ grew S w W q := fun q hq hn e => e.elim hn (fun e => by omega)
      have k0 : Mo W p mb d := hr.c0.turn hI.2 (hS 0 (by omega)) hm
      have hj' : j = 0 ∨ j = 1 ∨ j = 2 ∨ j = 3 := by omega
      have hso := st_ops M bs j
      rcases hj' with rfl | rfl | rfl | rfl
      · refine (mNew1_any hI.1 (by omega) k0).mono ?_
        rintro e W' ⟨rfl, ha⟩
        have hg := hI.go ha hlow
        refine ⟨_, rfl, fun e => ⟨hg, fun i hi => ?_⟩, fun e => ⟨?_, ?_⟩⟩
        · obtain rfl : i = 0 := by omega
          exact e
        · unfold AD.makeC; rw [if_pos (show M.stC bs 0 ≠ 0 from e)]; rfl
        · unfold AD.makeM; rw [if_pos (show M.stC bs 0 ≠ 0 from e)]; exact hg
      · have k1 := turn_cell hI.2 (hS 1 (by omega)) hr.c1
        have k2 := turn_cell hI.2 (hS 2 (by omega)) hr.c2
        have hk := mNew2_any hI.1 (by omega) k0 ⟨hgr p (by omega) (hS 0 (by omega)), hgr mb hml hm, hgr _ (by omega) (hS 1 (by omega)), hgr _ (by omega) (hS 2 (by omega))⟩ hn.1 hn.2 k1 hl k2 (hs.turn hI.2 hA) ho hb
        rw [← hbs] at hk
        refine hk.mono ?_
        rintro e W' ⟨rfl, ha⟩
        have hg := hI.go ha hlow
        have z0 := hz 0 (by omega)
        refine ⟨_, rfl, fun e => ⟨hg, fun i hi => ?_⟩, fun e => ⟨?_, ?_⟩⟩
        · have : i = 0 ∨ i = 1 := by omega
          rcases this with rfl | rfl
          · exact z0
          · exact e
        · unfold AD.makeC; rw [if_neg (by rw [z0]; simp), if_pos (show M.stC bs 1 ≠ 0 from e)]; rfl
        · unfold AD.makeM; rw [if_neg (by rw [z0]; simp), if_pos (show M.stC bs 1 ≠ 0 from e)]; exact hg
      · refine (mNew3_any hI.1 (by omega) k0).mono ?_
        rintro e W' ⟨rfl, ha⟩
        have hg := hI.go ha hlow
        have z0 := hz 0 (by omega)
        have z1 := hz 1 (by omega)
        refine ⟨_, rfl, fun e => ⟨hg, fun i hi => ?_⟩, fun e => ⟨?_, ?_⟩⟩
        · have : i = 0 ∨ i = 1 ∨ i = 2 := by omega
          rcases this with rfl | rfl | rfl
          · exact z0
          · exact z1
          · exact e
        · unfold AD.makeC; rw [if_neg (by rw [z0]; simp), if_neg (by rw [z1]; simp), if_pos (show M.stC bs 2 ≠ 0 from e)]; rfl
        · unfold AD.makeM; rw [if_neg (by rw [z0]; simp), if_neg (by rw [z1]; simp), if_pos (show M.stC bs 2 ≠ 0 from e)]; exact hg
      · refine (mNew4_any hI.1 (by omega) k0).mono ?_
        rintro e W' ⟨rfl, ha⟩
        have hg := hI.go ha hlow
        have z0 := hz 0 (by omega)
        have z1 := hz 1 (by omega)
        have z2 := hz 2 (by omega)
        refine ⟨_, rfl, fun e => ⟨hg, fun i hi => ?_⟩, fun e => ⟨?_, ?_⟩⟩
        · have : i = 0 ∨ i = 1 ∨ i = 2 ∨ i = 3 := by omega
          rcases this with rfl | rfl | rfl | rfl
          · exact z0
          · exact z1
          · exact z2
          · exact e
        · unfold AD.makeC; rw [if_neg (by rw [z0]; simp), if_neg (by rw [z1]; simp), if_neg (by rw [z2]; simp)]; rfl
        · unfold AD.makeM; rw [if_neg (by rw [z0]; simp), if_neg (by rw [z1]; simp), if_neg (by rw [z2]; simp)]; exact hg)
    ⟨After.same h (Below.refl _ w), fun i hi => by omega⟩
  rw [← hbs]
  refine key.mono ?_
  rintro e W ⟨cc, rfl, hz, hnz⟩
  by_cases hc : cc = 0
  · obtain ⟨hg, hi⟩ := hz hc
    have z0 := hi 0 (by omega)
    have z1 := hi 1 (by omega)
    have z2 := hi 2 (by omega)
    have z3 := hi 3 (by omega)
    refine ⟨?_, ?_⟩
    · unfold AD.makeC; rw [if_neg (by rw [z0]; simp), if_neg (by rw [z1]; simp), if_neg (by rw [z2]; simp), z3, hc]
    · unfold AD.makeM; rw [if_neg (by rw [z0]; simp), if_neg (by rw [z1]; simp), if_neg (by rw [z2]; simp)]; exact hg
  · obtain ⟨h1, h2⟩ := hnz hc
    exact ⟨by rw [h1], h2⟩
set_option maxHeartbeats 1000000 in
theorem makes_any (h : DiskAt w S d M) (hops : M.ops < 4611686018427387000) {n : Int} (hn : 0 ≤ n ∧ n ≤ 16000) {A : Option Addr} {l c : Nat} {s : List Int} (hl : s.length = l) (hs : Sl w A c s) (ho : Oct s) (hb : s.length ≤ 10000)
    (hA : ∀ q, blk A = some q → ¬ S q) (hmb : w.cell? ⟨mb, 0, none⟩ = some (.pointer (some ⟨d, 0, none⟩))) (hm : ¬ S mb) :
    Calls Tryz.prog 80 #[.pointer (some ⟨mb, 0, none⟩), .int .i64 n, .slice A l c] w fun e w' => e = .returned (.int .i64 (M.makeC (fileM n s))) ∧ After S d w (M.makeM (fileM n s)) w' := by
  obtain ⟨W1, hW1⟩ : ∃ W1, W1 = w.alloc (.cells #[.pointer (some ⟨mb, 0, none⟩)] 28) := ⟨_, rfl⟩
  obtain ⟨W2, hW2⟩ : ∃ W2, W2 = W1.alloc (.cells #[.int .i64 n] 3) := ⟨_, rfl⟩
  obtain ⟨W3, hW3⟩ : ∃ W3, W3 = W2.alloc (.cells #[.slice A l c] 33) := ⟨_, rfl⟩
  obtain ⟨W4, hW4⟩ : ∃ W4, W4 = W3.alloc (.cells #[mStepV w.heap.size 0, mStepV w.heap.size 1, mStepV w.heap.size 2, mStepV w.heap.size 3] 71) := ⟨_, rfl⟩
  have s1 : W1.heap.size = w.heap.size + 1 := by rw [hW1]; simp
  have s2 : W2.heap.size = w.heap.size + 2 := by rw [hW2]; simp [s1]
  have s3 : W3.heap.size = w.heap.size + 3 := by rw [hW3]; simp [s2]
  have b1 : Below w.heap.size w W1 := by rw [hW1]; exact (Below.refl _ w).alloc (Nat.le_refl _) _
  have b2 : Below W1.heap.size W1 W2 := by rw [hW2]; exact (Below.refl _ W1).alloc (Nat.le_refl _) _
  have b3 : Below W2.heap.size W2 W3 := by rw [hW3]; exact (Below.refl _ W2).alloc (Nat.le_refl _) _
  have b4 : Below W3.heap.size W3 W4 := by rw [hW4]; exact (Below.refl _ W3).alloc (Nat.le_refl _) _
  have e1 : W1.heap[w.heap.size]? = some (.cells #[.pointer (some ⟨mb, 0, none⟩)] 28 (0, 0)) := by rw [hW1]; exact heap_alloc_new w _
  have e2 : W2.heap[W1.heap.size]? = some (.cells #[.int .i64 n] 3 (0, 0)) := by rw [hW2]; exact heap_alloc_new W1 _
  have e3 : W3.heap[W2.heap.size]? = some (.cells #[.slice A l c] 33 (0, 0)) := by rw [hW3]; exact heap_alloc_new W2 _
  have e4 : W4.heap[W3.heap.size]? = some (.cells #[mStepV w.heap.size 0, mStepV w.heap.size 1, mStepV w.heap.size 2, mStepV w.heap.size 3] 71 (0, 0)) := by rw [hW4]; exact heap_alloc_new W3 _
  have f1 : W4.heap[w.heap.size]? = _ := (b4.block _ (by omega)).trans ((b3.block _ (by omega)).trans ((b2.block _ (by omega)).trans e1))
  have f2 : W4.heap[W1.heap.size]? = _ := (b4.block _ (by omega)).trans ((b3.block _ (by omega)).trans e2)
  have f3 : W4.heap[W2.heap.size]? = _ := (b4.block _ (by omega)).trans e3
  rw [s1] at f2
  rw [s2] at f3
  rw [s3] at e4
  have hb4 : Below w.heap.size w W4 := b1.trans ((b2.trans ((b3.trans (b4.mono (by omega))).mono (by omega))).mono (by omega))
  have hren : MRen W4 w.heap.size mb d n A l c := ⟨⟨by simp only [World.cell?, f1]; rfl, (hb4.cell (p := ⟨mb, 0, none⟩) (World.block_lt_of_cell? _ _ hmb)).trans hmb⟩, by simp only [World.cell?, f2]; rfl, by simp only [World.cell?, f3]; rfl, e4⟩
  have hlow : ∀ k, w.heap.size ≤ k → ¬ S k := fun k hk e => by have := h.low e; omega
  have key := mSteps_any (h.later hb4) hops hn hl (hs.below hb4) ho hb hA hren (fun j hj => hlow _ (by omega)) hm
  have HB4 := Lib.hid hb4
  have H := Lib.hid h
  rw [hW4, hW3, hW2, hW1] at key HB4
  have HK := Lib.hid key
  clear h hn hl hs ho hb hA hmb hm hW1 hW2 hW3 hW4 s1 s2 s3 b1 b2 b3 b4 e1 e2 e3 e4 f1 f2 f3 hb4 hren hlow key W1 W2 W3 W4
  go_enter Tryz.func80, Tryz.ntmps80
  go_wp2_with fail
  refine HK.out.mono ?_
  rintro e w5 ⟨rfl, ha⟩
  have HA := Lib.hid (After.then H.out (Turn.of_below HB4.out) ha)
  clear ha
  go_wp2
  go_ret
  exact ⟨rfl, HA.out⟩
end

end Go.Proofs.YtienabfilnpieaaGreat

namespace Go.Proofs.YtienabfilnpieaaGreat
open Go.RowKit Go.Shelf
set_option linter.unusedVariables false
set_option linter.unusedSimpArgs false
set_option linter.unusedSimpArgs false
set_option maxRecDepth 100000

/-- The model lies in blocks of Q. -/
abbrev modC (o : Nat) (V : AW) (A : Option Addr) (c : Nat) (no : Bool) : Array Value := #[.pointer (some ⟨o, 0, none⟩), .int .i64 V.most, .slice A V.parts.length c, .bool V.broken, .bool no]
structure ModIn (W : World) (Q : Nat → Prop) (mb o : Nat) (V : AW) (no : Bool) (A : Option Addr) (c : Nat) (vs : List Value) : Prop where
  box : W.heap[mb]? = some (.cells (modC o V A c no) 31 (0, 0))
  parts : PartsAt W Q A c V.parts vs
  inQ : Q mb
  low : ∀ k, Q k → k < W.heap.size
def ModAt (W : World) (Q : Nat → Prop) (mb o : Nat) (V : AW) (no : Bool) : Prop := ∃ A c vs, ModIn W Q mb o V no A c vs
section
variable {w w' : World} {Q S : Nat → Prop} {mb o : Nat} {V : AW} {no : Bool} {A : Option Addr} {c : Nat} {vs : List Value}
theorem ModIn.turn (h : ModIn w Q mb o V no A c vs) (hb : ∀ k, Q k → w'.heap[k]? = w.heap[k]?) (hs : w.heap.size ≤ w'.heap.size) : ModIn w' Q mb o V no A c vs :=
  ⟨(hb _ h.inQ).trans h.box, h.parts.turn hb, h.inQ, fun k hk => Nat.lt_of_lt_of_le (h.low k hk) hs⟩
theorem ModIn.later (h : ModIn w Q mb o V no A c vs) (hb : Below w.heap.size w w') : ModIn w' Q mb o V no A c vs := h.turn (fun k hk => hb.block k (h.low k hk)) hb.size
theorem ModIn.other (h : ModIn w Q mb o V no A c vs) (ht : Turn S w w') (hd : ∀ k, Q k → ¬ S k) : ModIn w' Q mb o V no A c vs := h.turn (fun k hk => ht.block k (h.low k hk) (hd k hk)) ht.size
theorem ModAt.later (h : ModAt w Q mb o V no) (hb : Below w.heap.size w w') : ModAt w' Q mb o V no := by obtain ⟨A, c, vs, h⟩ := h; exact ⟨A, c, vs, h.later hb⟩
theorem ModAt.other (h : ModAt w Q mb o V no) (ht : Turn S w w') (hd : ∀ k, Q k → ¬ S k) : ModAt w' Q mb o V no := by obtain ⟨A, c, vs, h⟩ := h; exact ⟨A, c, vs, h.other ht hd⟩
theorem ModAt.low (h : ModAt w Q mb o V no) {k : Nat} (hk : Q k) : k < w.heap.size := by obtain ⟨A, c, vs, h⟩ := h; exact h.low k hk
theorem ModAt.inQ (h : ModAt w Q mb o V no) : Q mb := by obtain ⟨A, c, vs, h⟩ := h; exact h.inQ
theorem mod_cells {a b d e f : Value} (h : w.heap[mb]? = some (.cells #[a, b, d, e, f] 31 (0, 0))) :
    w.cell? ⟨mb, 0, none⟩ = some a ∧ w.cell? ⟨mb, 1, none⟩ = some b ∧ w.cell? ⟨mb, 2, none⟩ = some d ∧ w.cell? ⟨mb, 3, none⟩ = some e ∧ w.cell? ⟨mb, 4, none⟩ = some f ∧
    w.frozen? ⟨mb, 1, none⟩ = false ∧ w.frozen? ⟨mb, 2, none⟩ = false ∧ w.frozen? ⟨mb, 3, none⟩ = false ∧ w.frozen? ⟨mb, 4, none⟩ = false := by
  refine ⟨?_, ?_, ?_, ?_, ?_, ?_, ?_, ?_, ?_⟩ <;> simp [World.cell?, World.frozen?, h]
theorem ModAt.mo (h : ModAt w Q mb o V no) : w.cell? ⟨mb, 0, none⟩ = some (.pointer (some ⟨o, 0, none⟩)) := by
  obtain ⟨A, c, vs, h⟩ := h
  exact (mod_cells h.box).1
end

/-! ### Open's two steps -/
section
variable {w : World} {S : Nat → Prop} {d p mb : Nat} {M : AD}
set_option maxHeartbeats 1000000 in
theorem mOpen1_any (h : DiskAt w S d M) (hops : M.ops < 4611686018427387904) (hp : Mo w p mb d) {x bx : Nat} {en : Int} (hen : I64 en) {B : Option Addr} {l cb : Nat} (hl : l = M.len 0) (hx : w.cell? ⟨x, 2, none⟩ = some (.int .i64 en)) (hb : w.cell? ⟨bx, 0, none⟩ = some (.slice B l cb))
    (hS : ¬ S p ∧ ¬ S mb ∧ ¬ S x) :
    Calls Tryz.prog 82 #[.pointer (some ⟨x, 0, none⟩), .pointer (some ⟨bx, 0, none⟩), .pointer (some ⟨p, 0, none⟩)] w fun e w' => e = .returned (.int .i64 (M.trimC en)) ∧ After S d w (M.trimM en) w' := by
  by_cases hc : en < (l : Int)
  · have t1 : decide (en < (l : Int)) = true := decide_eq_true hc
    have HTR := Lib.hid (truncate_any h (k := 0) (by decide) hen hops)
    have HE := Lib.hid (show M.trimC en = M.truncC 0 en ∧ M.trimM en = M.truncM 0 en from by unfold AD.trimC AD.trimM; rw [if_neg (by omega), if_neg (by omega)]; exact ⟨rfl, rfl⟩)
    have HQ := Lib.hid (fun (n : Nat) => (truncate_any (h.later (below_drewN (Below.refl _ w) n)) (k := 0) (by decide) hen hops).mono (R' := fun e W' => e = .returned (.int .i64 (M.truncC 0 en)) ∧ After S d w (M.truncM 0 en) W') (fun e W' hh => ⟨hh.1, After.then h (Turn.of_below (below_drewN (Below.refl _ w) n)) hh.2⟩))
    have HSN := Lib.hid hS
    have HC := Lib.hid (show w.cell? ⟨p, 0, none⟩ = some (.pointer (some ⟨mb, 0, none⟩)) ∧ w.cell? ⟨mb, 0, none⟩ = some (.pointer (some ⟨d, 0, none⟩)) ∧ w.cell? ⟨x, 2, none⟩ = some (.int .i64 en) from ⟨hp.p, hp.m, hx⟩)
    clear h hp hl hS hc hops
    go_enter Tryz.func82, Tryz.ntmps82
    obtain ⟨c0, c1, _⟩ := HC.out
    go_upto_region 2 with fail
    go_region_held3 (fun W => W.cell? ⟨p, 0, none⟩ = some (.pointer (some ⟨mb, 0, none⟩)) ∧ W.cell? ⟨mb, 0, none⟩ = some (.pointer (some ⟨d, 0, none⟩)) ∧ W.cell? ⟨x, 2, none⟩ = some (.int .i64 en)) (first | exact HC.out | exact K1.out) (first
      | (go_at_call 83; refine (HQ.out 1).mono ?_; rintro e w4 ⟨rfl, ha⟩; have K1 := Lib.hid (show w4.cell? ⟨p, 0, none⟩ = some (.pointer (some ⟨mb, 0, none⟩)) ∧ w4.cell? ⟨mb, 0, none⟩ = some (.pointer (some ⟨d, 0, none⟩)) ∧ w4.cell? ⟨x, 2, none⟩ = some (.int .i64 en) from ⟨turn_cell ha.2 HSN.out.1 HC.out.1, turn_cell ha.2 HSN.out.2.1 HC.out.2.1, turn_cell ha.2 HSN.out.2.2 HC.out.2.2⟩); have HA4 := Lib.hid ha; clear ha))
    all_goals (
      go_wp2
      go_ret
      rw [HE.out.1, HE.out.2]
      exact ⟨rfl, HA4.out⟩)
  · have t1 : decide (en < (l : Int)) = false := decide_eq_false hc
    have HE := Lib.hid (show M.trimC en = 0 ∧ M.trimM en = M from by unfold AD.trimC AD.trimM; rw [if_pos (by omega), if_pos (by omega)]; exact ⟨rfl, rfl⟩)
    have H := Lib.hid h
    obtain ⟨p1, p2⟩ := hp
    clear h hl hS hc hops
    go_enter Tryz.func82, Tryz.ntmps82
    go_wp2
    go_ret
    rw [HE.out.1, HE.out.2]
    exact ⟨rfl, After.same H.out (Below.refl _ w)⟩
set_option maxHeartbeats 1000000 in
theorem mOpen2_any (h : DiskAt w S d M) (hops : M.ops < 4611686018427387904) (hp : Mo w p mb d) :
    Calls Tryz.prog 84 #[.pointer (some ⟨p, 0, none⟩)] w fun e w' => e = .returned (.int .i64 M.dropC) ∧ After S d w M.dropM w' := by
  have HT := Lib.hid (there_new h)
  have HP := Lib.hid (fun (W : World) (hW : Below w.heap.size w W) => hp.later hW)
  have HRM := Lib.hid (fun (W : World) (hW : Below w.heap.size w W) => (remove_any (h.later hW) (k := 1) (by decide) hops).mono (R' := fun e W' => e = .returned (.int .i64 (M.opC 1 [])) ∧ After S d w (M.opM 1 [] (M.met.drop 1)) W') (fun e W' hh => ⟨hh.1, After.then h (Turn.of_below hW) hh.2⟩))
  have HS := Lib.hid (fun (W : World) (hW : Below w.heap.size w W) => After.same h hW)
  obtain ⟨p1, p2⟩ := hp
  rcases hs : (M.files 1).isSome with _ | _
  · have hc : Hid (M.dropC = 0 ∧ M.dropM = M) := by unfold Hid AD.dropC AD.dropM; simp [hs]
    rw [hs] at HT
    clear h hops hs
    go_enter Tryz.func84, Tryz.ntmps84
    go_wp2_with fail
    refine HT.out.mono ?_
    rintro e w1 ⟨rfl, hb⟩
    have HB := Lib.hid hb
    clear hb
    go_wp2
    go_ret
    rw [hc.out.1, hc.out.2]
    exact ⟨rfl, HS.out _ HB.out⟩
  · have hc : Hid (M.dropC = M.opC 1 [] ∧ M.dropM = M.opM 1 [] (M.met.drop 1)) := by unfold Hid AD.dropC AD.dropM; simp [hs]
    rw [hs] at HT
    clear h hops hs
    go_enter Tryz.func84, Tryz.ntmps84
    go_wp2_with fail
    refine HT.out.mono ?_
    rintro e w1 ⟨rfl, hb⟩
    have HB := Lib.hid hb
    obtain ⟨q1, q2⟩ := HP.out w1 hb
    have HR1 := Lib.hid (HRM.out w1 hb)
    clear hb
    go_wp2_with fail
    refine HR1.out.mono ?_
    rintro e w2 ⟨rfl, ha⟩
    have HA := Lib.hid ha
    clear ha
    go_wp2
    go_ret
    rw [hc.out.1, hc.out.2]
    exact ⟨rfl, HA.out⟩
theorem enter_p1 (x y z : Value) (W : World) : (callFunc 82 #[x, y, z]).run Tryz.prog W = .ok (.enter 82 #[x, y, z]) W := by kernel_rfl
theorem enter_p2 (x : Value) (W : World) : (callFunc 84 #[x]).run Tryz.prog W = .ok (.enter 84 #[x]) W := by kernel_rfl
def pStepF : Nat → FuncId
  | 0 => 82
  | _ => 84
def pStepCaps (x bx p : Nat) : Nat → Array Value
  | 0 => #[.pointer (some ⟨x, 0, none⟩), .pointer (some ⟨bx, 0, none⟩), .pointer (some ⟨p, 0, none⟩)]
  | _ => #[.pointer (some ⟨p, 0, none⟩)]
def pStepV (x bx p j : Nat) : Value := .func (.func (pStepF j)) #[] (pStepCaps x bx p j)
/-- Cut, and the new file removed. -/
def AD.twoC (M : AD) (n : Int) : Int := if M.trimC n ≠ 0 then M.trimC n else (M.trimM n).dropC
def AD.twoM (M : AD) (n : Int) : AD := if M.trimC n ≠ 0 then M.trimM n else (M.trimM n).dropM
set_option maxHeartbeats 1000000 in
theorem pSteps_any (h : DiskAt w S d M) (hops : M.ops < 4611686018427387000) (hp : Mo w p mb d) {x bx q : Nat} {en : Int} (hen : I64 en) {B : Option Addr} {l cb : Nat} (hl : l = M.len 0) (hx : w.cell? ⟨x, 2, none⟩ = some (.int .i64 en)) (hb : w.cell? ⟨bx, 0, none⟩ = some (.slice B l cb))
    (hS : ¬ S p ∧ ¬ S mb ∧ ¬ S x ∧ ¬ S q) (hfs : w.heap[q]? = some (.cells #[pStepV x bx p 0, pStepV x bx p 1] 71 (0, 0))) :
    Calls Tryz.prog 81 #[.slice (some ⟨q, 0, none⟩) 2 2] w fun e w' => e = .returned (.int .i64 (M.twoC en)) ∧ After S d w (M.twoM en) w' := by
  have hlow : ∀ i, S i → i < w.heap.size := fun i hi => h.low hi
  have hto := trimM_ops M en
  have key := first_any (w := w) q 2 2 pStepF (pStepCaps x bx p) (fun j W => (j = 0 ∧ W = w) ∨ (j = 1 ∧ M.trimC en = 0 ∧ After S d w (M.trimM en) W) ∨ (j = 2 ∧ M.twoC en = 0 ∧ After S d w (M.twoM en) W)) (fun cc W => M.twoC en = cc ∧ After S d w (M.twoM en) W) (by omega)
    (fun j W hj hI => by
      have hc : w.cell? ⟨q, j, none⟩ = some (pStepV x bx p j) := by
        simp only [World.cell?, hfs]
        have : j = 0 ∨ j = 1 := by omega
        rcases this with rfl | rfl <;> rfl
      rcases hI with ⟨_, rfl⟩ | ⟨_, _, hI⟩ | ⟨e, _⟩
      · exact hc
      · exact turn_cell hI.2 hS.2.2.2 hc
      · omega)
    (fun j W hj => by
      have : j = 0 ∨ j = 1 := by omega
      rcases this with rfl | rfl
      · exact enter_p1 _ _ _ W
      · exact enter_p2 _ W)
    (fun j W hj hI => by
      rcases hI with ⟨rfl, rfl⟩ | ⟨rfl, hz, hI⟩ | ⟨rfl, _⟩
      · refine (mOpen1_any h (by omega) hp hen hl hx hb ⟨hS.1, hS.2.1, hS.2.2.1⟩).mono ?_
        rintro e W' ⟨rfl, ha⟩
        refine ⟨_, rfl, fun e => .inr (.inl ⟨rfl, e, ha⟩), fun e => ⟨?_, ?_⟩⟩
        · unfold AD.twoC; rw [if_pos e]
        · unfold AD.twoM; rw [if_pos e]; exact ha
      · refine (mOpen2_any hI.1 (by omega) (hp.turn hI.2 hS.1 hS.2.1)).mono ?_
        rintro e W' ⟨rfl, ha⟩
        have hg := hI.go ha hlow
        have e1 : M.twoC en = (M.trimM en).dropC := by unfold AD.twoC; rw [if_neg (by rw [hz]; simp)]
        have e2 : M.twoM en = (M.trimM en).dropM := by unfold AD.twoM; rw [if_neg (by rw [hz]; simp)]
        refine ⟨_, rfl, fun e => .inr (.inr ⟨rfl, e1.trans e, by rw [e2]; exact hg⟩), fun e => ⟨e1, by rw [e2]; exact hg⟩⟩
      · omega)
    (.inl ⟨rfl, rfl⟩)
  refine key.mono ?_
  rintro e W ⟨cc, rfl, hz, hnz⟩
  by_cases hc : cc = 0
  · rcases hz hc with ⟨e, _⟩ | ⟨e, _⟩ | ⟨_, h1, h2⟩
    · omega
    · omega
    · exact ⟨by rw [h1, hc], h2⟩
  · obtain ⟨h1, h2⟩ := hnz hc
    exact ⟨by rw [h1], h2⟩
end

end Go.Proofs.YtienabfilnpieaaGreat
