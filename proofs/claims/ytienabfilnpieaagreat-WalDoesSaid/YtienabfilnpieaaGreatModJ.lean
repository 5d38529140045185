/-
  What an event does to the log and to its model: does, whole.
-/
import Derived.Test.YtienabfilnpieaaGreatModO
namespace Go.Proofs.YtienabfilnpieaaGreat
open Go.RowKit Go.Shelf
set_option linter.unusedVariables false
set_option linter.unusedSimpArgs false
set_option maxRecDepth 100000

theorem evs_cells {W : World} {b : Nat} {v0 v1 v2 v3 : Value} (h : W.heap[b]? = some (.cells #[v0, v1, v2, v3] 36 (0, 0))) :
    W.cell? ⟨b, 0, none⟩ = some v0 ∧ W.cell? ⟨b, 1, none⟩ = some v1 ∧ W.cell? ⟨b, 2, none⟩ = some v2 ∧ W.cell? ⟨b, 3, none⟩ = some v3 := by
  simp [World.cell?, h]
theorem RdB.take_ {w : World} {B : Nat} {A : Option Addr} {bs : List Bool} (h : RdB w B A bs) (n : Nat) : RdB w B A (bs.take n) := by
  intro hp
  rw [List.length_take] at hp
  obtain ⟨b, o, e, hl, hc⟩ := h (by omega)
  refine ⟨b, o, e, hl, fun j hj => ?_⟩
  rw [List.length_take] at hj
  rw [hc j (by omega)]
  simp only [List.getD, List.getElem?_take]
  rw [if_pos (by omega)]
section
variable {w1 W0 W : World} {d o mb k : Nat} {lg : Value}
theorem both_append (h : DoesI w1 W0 d o mb k lg) (hb : Below W0.heap.size W0 W) (hk : k ≤ 1000) {A B : Option Addr} {l c cb : Nat} {b : List Int} (hl : b.length = l) (hbl : l ≤ 300) (ho : Oct b)
    (hA : W.ownsRow W0.heap.size 5 1 (.slice A l c) l (b.map (Value.int .u8))) (hB : W.ownsRow W0.heap.size 5 1 (.slice B l cb) l (b.map (Value.int .u8))) (hAB : ∀ q, blk A = some q → blk B ≠ some q) :
    Calls Tryz.prog 23 #[lg, .slice A l c] W fun e W' => ∃ x, e = .returned (.int .i64 x) ∧ Calls Tryz.prog 37 #[.pointer (some ⟨mb, 0, none⟩), .slice B l cb] W' fun e W'' => e = .returned (.int .i64 x) ∧
      Calls Tryz.prog 34 #[.slice A l c] W'' fun e W3 => e = .returned (.tuple #[]) ∧ DoesI w1 W3 d o mb (k + 1) lg :=
  both_bytes 23 37 AW.mAppC AW.mAppV AW.mAppD (fun h1 h2 h3 => log_append h1 h2 h3) (fun h1 h2 h3 h4 h5 => mAppend_any h1 h2 h3 h4 h5) (fun h b => mAppV_ok h b) (fun {M V no b} h1 h2 => by
    unfold AW.mAppD
    split
    · exact h1
    · exact octs_appD h1 h2) (fun {M V no b} => by
    unfold AW.mAppD
    split
    · omega
    · have := appD_ops (M := M) (V := V) b; omega) h hb hk hl hbl ho hA hB hAB
theorem both_check (h : DoesI w1 W0 d o mb k lg) (hb : Below W0.heap.size W0 W) (hk : k ≤ 1000) {A B : Option Addr} {l c cb : Nat} {b : List Int} (hl : b.length = l) (hbl : l ≤ 300) (ho : Oct b)
    (hA : W.ownsRow W0.heap.size 5 1 (.slice A l c) l (b.map (Value.int .u8))) (hB : W.ownsRow W0.heap.size 5 1 (.slice B l cb) l (b.map (Value.int .u8))) (hAB : ∀ q, blk A = some q → blk B ≠ some q) :
    Calls Tryz.prog 24 #[lg, .slice A l c] W fun e W' => ∃ x, e = .returned (.int .i64 x) ∧ Calls Tryz.prog 33 #[.pointer (some ⟨mb, 0, none⟩), .slice B l cb] W' fun e W'' => e = .returned (.int .i64 x) ∧
      Calls Tryz.prog 34 #[.slice A l c] W'' fun e W3 => e = .returned (.tuple #[]) ∧ DoesI w1 W3 d o mb (k + 1) lg :=
  both_bytes 24 33 AW.mChkC AW.mChkV AW.mChkD (fun h1 h2 h3 => log_check h1 h2 h3) (fun h1 h2 h3 h4 h5 => mCheck_any h1 h2 h3 h4 h5) (fun h b => mChkV_ok h b) (fun {M V no b} h1 h2 => by
    unfold AW.mChkD
    split
    · exact h1
    · exact octs_chkD h1 h2) (fun {M V no b} => by
    unfold AW.mChkD
    split
    · omega
    · have := chkD_ops (M := M) (V := V) b; omega) h hb hk hl hbl ho hA hB hAB
theorem both_arm (h : DoesI w1 W0 d o mb k lg) (hb : Below W0.heap.size W0 W) {n : Int} (hn : I64 n) :
    Calls Tryz.prog 25 #[.pointer (some ⟨d, 0, none⟩), .int .i64 n] W fun e W' => ∃ x, e = .returned (.int .i64 x) ∧ KeepX W0 W W' ∧ W'.cell? ⟨mb, 0, none⟩ = some (.pointer (some ⟨o, 0, none⟩)) ∧
      Calls Tryz.prog 25 #[.pointer (some ⟨o, 0, none⟩), .int .i64 n] W' fun e W'' => e = .returned (.int .i64 x) ∧ KeepX W0 W W'' ∧ W''.cell? ⟨mb, 0, none⟩ = some (.pointer (some ⟨o, 0, none⟩)) ∧ DoesI w1 W'' d o mb (k + 1) lg :=
  both_disk 25 (fun d => #[.pointer (some ⟨d, 0, none⟩), .int .i64 n]) (fun M => M.setC n) (fun M => M.armM n) (fun {w S d M} hd _ => (arm_any hd hn).mono fun e w' hh => ⟨hh.1, After.of hh.2.1 (Turn.of_grown hh.2.2 (fun i e => .inl (by injection e with e; subst e; exact hd.inS))) (fun i hi => .inl hi) (fun i hi => hd.low hi)⟩) (fun {M} ho => octs_of ho (by unfold AD.armM; split <;> rfl)) (fun {M} => by unfold AD.armM; split <;> (show M.ops ≤ _; omega)) h hb
theorem both_fail (h : DoesI w1 W0 d o mb k lg) (hb : Below W0.heap.size W0 W) {n : Int} (hn : I64 n) :
    Calls Tryz.prog 26 #[.pointer (some ⟨d, 0, none⟩), .int .i64 n] W fun e W' => ∃ x, e = .returned (.int .i64 x) ∧ KeepX W0 W W' ∧ W'.cell? ⟨mb, 0, none⟩ = some (.pointer (some ⟨o, 0, none⟩)) ∧
      Calls Tryz.prog 26 #[.pointer (some ⟨o, 0, none⟩), .int .i64 n] W' fun e W'' => e = .returned (.int .i64 x) ∧ KeepX W0 W W'' ∧ W''.cell? ⟨mb, 0, none⟩ = some (.pointer (some ⟨o, 0, none⟩)) ∧ DoesI w1 W'' d o mb (k + 1) lg :=
  both_disk 26 (fun d => #[.pointer (some ⟨d, 0, none⟩), .int .i64 n]) (fun M => M.setC n) (fun M => M.failM n) (fun {w S d M} hd _ => (fail_any hd hn).mono fun e w' hh => ⟨hh.1, After.of hh.2.1 (Turn.of_grown hh.2.2 (fun i e => .inl (by injection e with e; subst e; exact hd.inS))) (fun i hi => .inl hi) (fun i hi => hd.low hi)⟩) (fun {M} ho => octs_of ho (by unfold AD.failM; split <;> rfl)) (fun {M} => by unfold AD.failM; split <;> (show M.ops ≤ _; omega)) h hb
theorem both_crash (h : DoesI w1 W0 d o mb k lg) (hb : Below W0.heap.size W0 W) (K : Option Addr) (q kc : Nat) (keep : List Bool) (hq : keep.length = q) (hK : ∀ X, Below w1.heap.size w1 X → RdB X X.heap.size K keep) (h1 : q ≤ kc) (h2 : kc ≤ 9223372036854775807) :
    Calls Tryz.prog 28 #[.pointer (some ⟨d, 0, none⟩), .slice K q kc] W fun e W' => ∃ x, e = .returned (.int .i64 x) ∧ KeepX W0 W W' ∧ W'.cell? ⟨mb, 0, none⟩ = some (.pointer (some ⟨o, 0, none⟩)) ∧
      Calls Tryz.prog 28 #[.pointer (some ⟨o, 0, none⟩), .slice K q kc] W' fun e W'' => e = .returned (.int .i64 x) ∧ KeepX W0 W W'' ∧ W''.cell? ⟨mb, 0, none⟩ = some (.pointer (some ⟨o, 0, none⟩)) ∧ DoesI w1 W'' d o mb (k + 1) lg := by
  subst hq
  exact both_disk 28 (fun d => #[.pointer (some ⟨d, 0, none⟩), .slice K keep.length kc]) (fun M => 0) (fun M => M.crash keep) (fun {w S d M} hd hbw => crash_any hd K kc keep (hK w hbw) h1 h2) (fun {M} ho => octs_crash ho keep) (fun {M} => by show M.ops ≤ _; omega) h hb

set_option maxHeartbeats 8000000 in
theorem does_any (h : DoesI w1 W d o mb k lg) (hk : k ≤ 1000) (ev : AE) {B K : Option Addr} {cb kc : Nat} (hev : EvAt w1 ev B cb K kc) :
    Calls Tryz.prog 8 #[.pointer (some ⟨mb, 0, none⟩), lg, .pointer (some ⟨d, 0, none⟩), .agg #[.int .i64 ev.kind, .int .i64 ev.n, .slice B ev.bs.length cb, .slice K ev.keep.length kc]] W fun e W' => ∃ lg', e = .returned (.tuple #[lg', .bool true]) ∧ DoesI w1 W' d o mb (k + 1) lg' := by
  have hbel := h.bel
  obtain ⟨Wx, hWx⟩ : ∃ Wx, Wx = W.alloc (.cells #[.int .i64 ev.kind, .int .i64 ev.n, .slice B ev.bs.length cb, .slice K ev.keep.length kc] 36) := ⟨_, rfl⟩
  have hbx : Below W.heap.size W Wx := by rw [hWx]; exact (Below.refl _ W).alloc (Nat.le_refl _) _
  have hxx : Wx.heap[W.heap.size]? = some (.cells #[.int .i64 ev.kind, .int .i64 ev.n, .slice B ev.bs.length cb, .slice K ev.keep.length kc] 36 (0, 0)) := by rw [hWx]; exact heap_alloc_new W _
  have HSM := Lib.hid (some_any B cb ev.bs Wx (hev.sl.below (hbel.trans (hbx.mono hbel.size))))
  obtain ⟨bb, hbb⟩ : ∃ bb, bb = ev.bs.take 300 := ⟨_, rfl⟩
  obtain ⟨l, hl⟩ : ∃ l, l = bb.length := ⟨_, rfl⟩
  have hll : l ≤ 300 := by rw [hl, hbb, List.length_take]; omega
  have hbo : Oct bb := by rw [hbb]; exact hev.oct.takeN 300
  rw [← hbb] at HSM
  have HSM2 := Lib.hid (fun (X : World) (A : Option Addr) (c : Nat) (hs : Sl X A c bb) => show Calls Tryz.prog 22 #[.slice A l c] X (GivesB X bb) from by
    have key := some_any A c bb X hs
    rw [← hl] at key
    have e : bb.take 300 = bb := List.take_of_length_le (by omega)
    rw [e] at key
    exact key)
  have HKP := Lib.hid (fun (q : Nat) (X : World) (hX : Below w1.heap.size w1 X) => RdB.take_ (hev.later hX).rk q)
  have HWN := Lib.hid hev.wn
  have kk1 := hev.k1
  have KK2 := Lib.hid hev.k2
  obtain ⟨kp, hkp⟩ : ∃ kp, kp = ev.keep := ⟨_, rfl⟩
  rw [← hkp] at hWx hxx HKP kk1
  obtain ⟨kn, hkn⟩ : ∃ kn, kn = kp.length := ⟨_, rfl⟩
  have HKN := Lib.hid hkn
  rw [← hkp, ← hkn]
  rw [← hkn] at hWx hxx kk1
  obtain ⟨kd, hkd⟩ : ∃ kd, kd = ev.kind := ⟨_, rfl⟩
  obtain ⟨on, hon⟩ : ∃ on, on = ev.n := ⟨_, rfl⟩
  obtain ⟨bn, hbn⟩ : ∃ bn, bn = ev.bs.length := ⟨_, rfl⟩
  rw [← hkd] at hWx hxx ⊢
  rw [← hon] at hWx hxx HWN ⊢
  rw [← hbn] at hWx hxx HSM ⊢
  have HL := Lib.hid hl
  have HO := Lib.hid hbo
  have H := Lib.hid h
  have HBX := Lib.hid hbx
  have HXX := Lib.hid hxx
  have HWX := Lib.hid hWx
  have HMO := Lib.hid (show ∀ X, Below W.heap.size W X → X.cell? ⟨mb, 0, none⟩ = some (.pointer (some ⟨o, 0, none⟩)) from fun X hX => by
    obtain ⟨S, S2, T, Q, M, V, no, h1, _⟩ := h.later hX
    exact h1.md.mo)
  have hx0 := Int.tmod_nonneg 12 (show 0 ≤ IntKind.u64.wrap kd by rw [IntKind.wrap_u64]; omega)
  have hx1 := Int.tmod_lt_of_pos (IntKind.u64.wrap kd) (b := 12) (by omega)
  rw [HWX.out] at HSM
  clear h hbel hbx hxx hbb hl hbo hev hkp hkn hkd hon hbn hWx
  go_enter Tryz.func8, Tryz.ntmps8
  go_wp2_with fail
  refine HSM.out.mono ?_
  rintro e wa ⟨A3, c3, rfl, hn3, hb3⟩
  rw [← HWX.out] at hn3 hb3
  rw [← HL.out]
  have hba : Below W.heap.size W wa := HBX.out.trans (hb3.mono HBX.out.size)
  have hxa : wa.heap[W.heap.size]? = _ := (hb3.block _ (lt_of_block HXX.out)).trans HXX.out
  obtain ⟨v0, v1, v2, v3⟩ := evs_cells hxa
  have hmoa := HMO.out wa hba
  have HN3 := Lib.hid (show wa.ownsRow W.heap.size 5 1 (.slice A3 l c3) l (bb.map (Value.int .u8)) from by have := own_low hn3 HBX.out.size; rwa [← HL.out] at this)
  have HS3 := Lib.hid hn3.sl
  have HBA := Lib.hid hba
  have HXA := Lib.hid hxa
  have HKX := Lib.hid (fun X (hX : KeepX W wa.drew X) => show X.cell? ⟨W.heap.size, 1, none⟩ = some (.int .i64 on) from by
    have e : X.heap[W.heap.size]? = _ := (hX.2 W.heap.size (Nat.le_refl _) (lt_of_block HXA.out)).trans HXA.out
    exact (evs_cells e).2.1)
  have HKY := Lib.hid (fun X (hX : KeepX W wa X) => show X.cell? ⟨W.heap.size, 1, none⟩ = some (.int .i64 on) from by
    have e : X.heap[W.heap.size]? = _ := (hX.2 W.heap.size (Nat.le_refl _) (lt_of_block HXA.out)).trans HXA.out
    exact (evs_cells e).2.1)
  have HBD := Lib.hid (show Below W.heap.size W wa.drew from below_drewN hba 1)
  clear hn3 hb3 hxa hba HSM
  by_cases h5 : (IntKind.u64.wrap kd).tmod 12 = 5
  · have t5 : ((IntKind.u64.wrap kd).tmod 12 == 5) = true := by simp [h5]
    clear h5
    clear hx0 hx1 HKP HKX HKY v1 v2 v3 hmoa
    go_wp2_with fail
    refine (HSM2.out wa A3 c3 HS3.out).mono ?_
    rintro e wb ⟨A4, c4, rfl, hn4, hb4⟩
    rw [← HL.out]
    have HBO := Lib.hid (both_check H.out (HBA.out.trans (hb4.mono HBA.out.size)) hk (l := l) HL.out.symm hll HO.out (show wb.ownsRow W.heap.size 5 1 (.slice A4 l c4) l (bb.map (Value.int .u8)) from by have := own_low hn4 HBA.out.size; rwa [← HL.out] at this) (row_later HN3.out hb4) (fun q h1 h2 => by
      have a1 := (hn4.lt q (by cases A4 <;> simp_all [Value.ownBlock, blk])).1
      have a2 := (HN3.out.lt q (by cases A3 <;> simp_all [Value.ownBlock, blk])).2
      omega))
    clear hn4 hb4
    go_wp2_with (first
      | (go_at_call 24; refine HBO.out.mono ?_; rintro e wc ⟨x, rfl, hm⟩; have HMC := Lib.hid hm; clear hm)
      | (go_at_call 33; refine HMC.out.mono ?_; rintro e wd ⟨rfl, ht⟩; have HTN := Lib.hid ht; clear ht)
      | (go_at_call 34; refine HTN.out.mono ?_; rintro e we ⟨rfl, hd⟩; have HD := Lib.hid hd; clear hd))
    go_ret2
    exact ⟨lg, by simp, HD.out⟩
  · have t5 : ((IntKind.u64.wrap kd).tmod 12 == 5) = false := by simp [h5]
    clear h5
    by_cases h6 : (IntKind.u64.wrap kd).tmod 12 = 6
    · have t6 : ((IntKind.u64.wrap kd).tmod 12 == 6) = true := by simp [h6]
      clear h6
      clear hx0 hx1 HKP HKX HKY v1 v2 v3 hmoa
      go_wp2_with fail
      refine (HSM2.out wa A3 c3 HS3.out).mono ?_
      rintro e wb ⟨A4, c4, rfl, hn4, hb4⟩
      rw [← HL.out]
      have HBO := Lib.hid (both_check H.out (HBA.out.trans (hb4.mono HBA.out.size)) hk (l := l) HL.out.symm hll HO.out (show wb.ownsRow W.heap.size 5 1 (.slice A4 l c4) l (bb.map (Value.int .u8)) from by have := own_low hn4 HBA.out.size; rwa [← HL.out] at this) (row_later HN3.out hb4) (fun q h1 h2 => by
        have a1 := (hn4.lt q (by cases A4 <;> simp_all [Value.ownBlock, blk])).1
        have a2 := (HN3.out.lt q (by cases A3 <;> simp_all [Value.ownBlock, blk])).2
        omega))
      clear hn4 hb4
      go_wp2_with (first
        | (go_at_call 24; refine HBO.out.mono ?_; rintro e wc ⟨x, rfl, hm⟩; have HMC := Lib.hid hm; clear hm)
        | (go_at_call 33; refine HMC.out.mono ?_; rintro e wd ⟨rfl, ht⟩; have HTN := Lib.hid ht; clear ht)
        | (go_at_call 34; refine HTN.out.mono ?_; rintro e we ⟨rfl, hd⟩; have HD := Lib.hid hd; clear hd))
      go_ret2
      exact ⟨lg, by simp, HD.out⟩
    · have t6 : ((IntKind.u64.wrap kd).tmod 12 == 6) = false := by simp [h6]
      clear h6
      by_cases h7 : (IntKind.u64.wrap kd).tmod 12 = 7
      · have t7 : ((IntKind.u64.wrap kd).tmod 12 == 7) = true := by simp [h7]
        clear h7
        clear hx0 hx1 HKP HSM2
        have HBO := Lib.hid (both_arm H.out HBD.out HWN.out)
        go_upto_region 13 with fail
        go_region_held3 (fun X => X.cell? ⟨W.heap.size, 1, none⟩ = some (.int .i64 on) ∧ X.cell? ⟨mb, 0, none⟩ = some (.pointer (some ⟨o, 0, none⟩))) (first | exact ⟨v1, hmoa⟩ | exact K1.out | exact K2.out) (first
          | (go_at_call 25; (with_reducible refine HBO.out.mono ?_); rintro e wc ⟨x, rfl, hk1, hm1, hc1⟩; have K1 := Lib.hid (And.intro (HKX.out wc hk1) hm1); have HC1 := Lib.hid hc1; clear hk1 hm1 hc1)
          | (go_at_call 25; (with_reducible refine HC1.out.mono ?_); rintro e wd ⟨rfl, hk2, hm2, hd⟩; have K2 := Lib.hid (And.intro (HKX.out wd hk2) hm2); have HD := Lib.hid hd; clear hk2 hm2 hd))
        all_goals (
          go_wp2
          go_ret2
          exact ⟨lg, by simp, HD.out⟩)
      · have t7 : ((IntKind.u64.wrap kd).tmod 12 == 7) = false := by simp [h7]
        clear h7
        by_cases h8 : (IntKind.u64.wrap kd).tmod 12 = 8
        · have t8 : ((IntKind.u64.wrap kd).tmod 12 == 8) = true := by simp [h8]
          clear h8
          clear hx0 hx1 HKP HSM2
          have HBO := Lib.hid (both_fail H.out HBD.out HWN.out)
          go_upto_region 15 with fail
          go_region_held3 (fun X => X.cell? ⟨W.heap.size, 1, none⟩ = some (.int .i64 on) ∧ X.cell? ⟨mb, 0, none⟩ = some (.pointer (some ⟨o, 0, none⟩))) (first | exact ⟨v1, hmoa⟩ | exact K1.out | exact K2.out) (first
            | (go_at_call 26; (with_reducible refine HBO.out.mono ?_); rintro e wc ⟨x, rfl, hk1, hm1, hc1⟩; have K1 := Lib.hid (And.intro (HKX.out wc hk1) hm1); have HC1 := Lib.hid hc1; clear hk1 hm1 hc1)
            | (go_at_call 26; (with_reducible refine HC1.out.mono ?_); rintro e wd ⟨rfl, hk2, hm2, hd⟩; have K2 := Lib.hid (And.intro (HKX.out wd hk2) hm2); have HD := Lib.hid hd; clear hk2 hm2 hd))
          all_goals (
            go_wp2
            go_ret2
            exact ⟨lg, by simp, HD.out⟩)
        · have t8 : ((IntKind.u64.wrap kd).tmod 12 == 8) = false := by simp [h8]
          clear h8
          by_cases h9 : (IntKind.u64.wrap kd).tmod 12 = 9
          · have t9 : ((IntKind.u64.wrap kd).tmod 12 == 9) = true := by simp [h9]
            clear h9
            clear hx0 hx1 HSM2
            obtain ⟨q, hq⟩ : ∃ q, q = min kn 200 := ⟨_, rfl⟩
            have q1 : min (kn : Int) 200 = (q : Int) := by omega
            have q2 : min 200 (kn : Int) = (q : Int) := by omega
            have q0 : (0 : Int) ≤ (q : Int) := by omega
            have qc : (q : Int) ≤ (kc : Int) := by omega
            have HBO := Lib.hid (both_crash H.out HBD.out K q kc (kp.take q) (by rw [List.length_take, ← HKN.out]; omega) (HKP.out q) (by omega) KK2.out)
            clear hq
            go_upto_region 18 with fail
            go_region_held3 (fun X => X.cell? ⟨mb, 0, none⟩ = some (.pointer (some ⟨o, 0, none⟩))) (first | exact hmoa | exact K1.out | exact K2.out) (first
              | (go_at_call 28; (with_reducible refine HBO.out.mono ?_); rintro e wc ⟨x, rfl, hk1, hm1, hc1⟩; have K1 := Lib.hid hm1; have HC1 := Lib.hid hc1; clear hk1 hm1 hc1)
              | (go_at_call 28; (with_reducible refine HC1.out.mono ?_); rintro e wd ⟨rfl, hk2, hm2, hd⟩; have K2 := Lib.hid hm2; have HD := Lib.hid hd; clear hk2 hm2 hd))
            all_goals (
              go_wp2
              go_ret2
              exact ⟨lg, by simp, HD.out⟩)
          · have t9 : ((IntKind.u64.wrap kd).tmod 12 == 9) = false := by simp [h9]
            clear h9
            by_cases h10 : (IntKind.u64.wrap kd).tmod 12 = 10
            · have t10 : ((IntKind.u64.wrap kd).tmod 12 == 10) = true := by simp [h10]
              clear h10
              clear hx0 hx1 HKP HSM2
              have HBO := Lib.hid (both_open H.out HBA.out hk)
              go_wp2_with fail
              refine HBO.out.mono ?_
              rintro e wc ⟨x, n', rfl, hm⟩
              have HMC := Lib.hid hm

              clear hm
              go_wp2_with fail
              refine HMC.out.mono ?_
              rintro e wd ⟨rfl, d1, d2⟩
              have HD1 := Lib.hid d1
              have HD2 := Lib.hid d2
              clear d1 d2
              by_cases hx : x = 0
              · subst hx
                go_wp2
                go_ret2
                exact ⟨n', by simp, HD1.out (by simp)⟩
              · have t1 : (x == 0) = false := by simp [hx]
                have HX := Lib.hid hx
                clear hx
                go_wp2
                go_ret2
                exact ⟨lg, by simp, HD2.out HX.out⟩
            · have t10 : ((IntKind.u64.wrap kd).tmod 12 == 10) = false := by simp [h10]
              clear h10
              by_cases h11 : (IntKind.u64.wrap kd).tmod 12 = 11
              · have t11 : ((IntKind.u64.wrap kd).tmod 12 == 11) = true := by simp [h11]
                clear h11
                clear hx0 hx1 HKP HSM2
                have HBO := Lib.hid (both_format H.out HBA.out hk on HWN.out)
                go_wp2_with fail
                refine HBO.out.mono ?_
                rintro e wc ⟨x, n', rfl, hkx, hm⟩
                have HMC := Lib.hid hm
                have v1 := HKY.out wc hkx
                clear hkx
                clear hm
                go_wp2_with fail
                refine HMC.out.mono ?_
                rintro e wd ⟨rfl, d1, d2⟩
                have HD1 := Lib.hid d1
                have HD2 := Lib.hid d2
                clear d1 d2
                by_cases hx : x = 0
                · subst hx
                  go_wp2
                  go_ret2
                  exact ⟨n', by simp, HD1.out (by simp)⟩
                · have t1 : (x == 0) = false := by simp [hx]
                  have HX := Lib.hid hx
                  clear hx
                  go_wp2
                  go_ret2
                  exact ⟨lg, by simp, HD2.out HX.out⟩
              · have t11 : ((IntKind.u64.wrap kd).tmod 12 == 11) = false := by simp [h11]
                clear h11
                clear hx0 hx1 HKP HKX HKY v1 v2 v3 hmoa
                go_wp2_with fail
                refine (HSM2.out wa A3 c3 HS3.out).mono ?_
                rintro e wb ⟨A4, c4, rfl, hn4, hb4⟩
                rw [← HL.out]
                have HBO := Lib.hid (both_append H.out (HBA.out.trans (hb4.mono HBA.out.size)) hk (l := l) HL.out.symm hll HO.out (show wb.ownsRow W.heap.size 5 1 (.slice A4 l c4) l (bb.map (Value.int .u8)) from by have := own_low hn4 HBA.out.size; rwa [← HL.out] at this) (row_later HN3.out hb4) (fun q h1 h2 => by
                  have a1 := (hn4.lt q (by cases A4 <;> simp_all [Value.ownBlock, blk])).1
                  have a2 := (HN3.out.lt q (by cases A3 <;> simp_all [Value.ownBlock, blk])).2
                  omega))
                clear hn4 hb4
                go_wp2_with (first
                  | (go_at_call 23; refine HBO.out.mono ?_; rintro e wc ⟨x, rfl, hm⟩; have HMC := Lib.hid hm; clear hm)
                  | (go_at_call 37; refine HMC.out.mono ?_; rintro e wd ⟨rfl, ht⟩; have HTN := Lib.hid ht; clear ht)
                  | (go_at_call 34; refine HTN.out.mono ?_; rintro e we ⟨rfl, hd⟩; have HD := Lib.hid hd; clear hd))
                go_ret2
                exact ⟨lg, by simp, HD.out⟩
end

end Go.Proofs.YtienabfilnpieaaGreat
