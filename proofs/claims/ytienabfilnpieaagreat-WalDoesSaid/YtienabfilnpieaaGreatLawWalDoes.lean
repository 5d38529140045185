/-
  Proved: the law WalDoes, what comes of a log, and of its disk, by what is done, returns true for every room and row of events, and leaves all memory as it was. No condition.
-/
import Derived.Test.YtienabfilnpieaaGreatModP
import Derived.Test.YtienabfilnpieaaGreatLawFrame
import Derived.Deep.Cut
import Derived.Deep.CutRange
import Derived.Deep.CutBlock
namespace Go.Proofs.YtienabfilnpieaaGreat.walDoes
open Go.ChangeShapes Go.WideShapes Go.ChangeAt Go.RowKit Go.Deep
set_option linter.unusedVariables false
set_option linter.unusedSimpArgs false
set_option maxRecDepth 100000

theorem room_bounds (r : Int) : -1199 ≤ r.tmod 1200 ∧ r.tmod 1200 ≤ 1199 := by
  have h1 := Int.tmod_lt_of_pos r (show (0 : Int) < 1200 by omega)
  have h2 := Int.lt_tmod_of_pos r (show (0 : Int) < 1200 by omega)
  omega
theorem room_bounds2 {x : Int} (h : 0 ≤ x) : 0 ≤ x.tmod 1200 ∧ x.tmod 1200 ≤ 1199 := by
  rw [Int.tmod_eq_emod_of_nonneg h]
  omega
theorem files_new (n : Int) : (AD.new n).Octs := fun k F h => by
  have h : (none : Option AF) = some F := h
  cases h
theorem does_start {w w1 w2 w3 W : World} {S S2 : Nat → Prop} {d o mb : Nat} {room : Int} (hb1 : Below w.heap.size w w1) (hd : DiskAt w2 S d (AD.new room)) (hS : ∀ k, S k → w1.heap.size ≤ k) (hb2 : Below w1.heap.size w1 w2)
    (ho : DiskAt w3 S2 o (AD.new room)) (hS2 : ∀ k, S2 k → w2.heap.size ≤ k) (hb3 : Below w2.heap.size w2 w3) (hb4 : Below w3.heap.size w3 W)
    (hm : W.heap[mb]? = some (.cells #[.pointer (some ⟨o, 0, none⟩), .int .i64 0, .slice none 0 0, .bool false, .bool true] 31 (0, 0))) (hmb : w3.heap.size ≤ mb) : DoesI w1 W d o mb 0 (.pointer none) := by
  have z2 := hb2.size
  have z3 := hb3.size
  have z4 := hb4.size
  have dz : ∀ k, S k → w1.heap.size ≤ k ∧ k < w2.heap.size := fun k hk => ⟨hS k hk, hd.low hk⟩
  have oz : ∀ k, S2 k → w2.heap.size ≤ k ∧ k < w3.heap.size := fun k hk => ⟨hS2 k hk, ho.low hk⟩
  have hml := lt_of_block hm
  refine ⟨_, _, fun _ => False, fun k => k = mb, AD.new room, ⟨0, [], false⟩, true, ⟨(hd.later hb3).later hb4, ho.later hb4, ⟨none, 0, [], hm, ⟨⟨rfl, .inl ⟨rfl, rfl⟩⟩, (fun i p hp => by simp at hp), (fun h hh => by simp [blk] at hh)⟩, rfl, fun k hk => by omega⟩, fun q h => h.elim, ?_, fun q h => h.elim, fun q h => h.elim, ?_, ?_, fun q h e => e, (fun e => by cases e), files_new room, (by show (0 : Int) ≤ _; omega), ?_, ?_⟩, .inl ⟨rfl, rfl⟩⟩
  · intro q e1 e2
    have := dz q e1
    have := oz q e2
    omega
  · intro q e1 e2
    have := dz q e2
    omega
  · intro q e1 e2
    have := oz q e2
    omega
  · exact hb2.trans ((hb3.trans (hb4.mono z3)).mono z2)
  · rintro q (e | e | e | e)
    · exact (dz q e).1
    · have := oz q e; omega
    · exact e.elim
    · omega

set_option maxHeartbeats 8000000 in
theorem walk {w : World} (r : Int) (hr : I64 r) (EA : Option Addr) (ec : Nat) (es : List AE) (he : EvsAt w EA es) (hem : es.length ≤ 9223372036854775807) :
    Calls Tryz.prog 3 #[.int .i64 r, .slice EA es.length ec] w fun e w' => e = .returned (.bool true) ∧ Below w.heap.size w w' := by
  have hb1 := room_bounds r
  obtain ⟨t, ht⟩ : ∃ t, t = r.tmod 1200 := ⟨_, rfl⟩
  rw [← ht] at hb1
  have hb2 := room_bounds2 (x := t + 1200) (by omega)
  obtain ⟨t2, ht2⟩ : ∃ t2, t2 = (t + 1200).tmod 1200 := ⟨_, rfl⟩
  rw [← ht2] at hb2
  have HEV := Lib.hid he
  obtain ⟨n, hn⟩ : ∃ n, n = es.length := ⟨_, rfl⟩
  have HN := Lib.hid hn
  rw [← hn] at hem ⊢
  have ht' := ht.symm
  have ht2' := ht2.symm
  clear he hn ht ht2
  go_enter Tryz.func3, Tryz.ntmps3
  go_wp2_with fail
  refine (wakes_any w).mono ?_
  rintro e w1 ⟨rfl, hbw⟩
  have HB1 := Lib.hid hbw
  clear hbw
  go_wp2_with fail
  refine (new_yes w1 (t2 + 1) (by omega) (by omega)).mono ?_
  rintro e w2 ⟨rfl, hd2, hbn2⟩
  have HD2 := Lib.hid (show ∃ S, DiskAt w2 S (w1.heap.size + 1) (AD.new (t2 + 1)) ∧ ∀ k, S k → w1.heap.size ≤ k from ⟨_, hd2, fun k hk => by rcases hk with e | e <;> omega⟩)
  obtain ⟨d, hd⟩ : ∃ d, d = w1.heap.size + 1 := ⟨_, rfl⟩
  rw [← hd] at HD2 ⊢
  have HB2 := Lib.hid hbn2
  clear hd2 hbn2 hd
  go_wp2_with fail
  refine (new_yes w2 (t2 + 1) (by omega) (by omega)).mono ?_
  rintro e w3 ⟨rfl, hd3, hbn3⟩
  have HD3 := Lib.hid (show ∃ S, DiskAt w3 S (w2.heap.size + 1) (AD.new (t2 + 1)) ∧ ∀ k, S k → w2.heap.size ≤ k from ⟨_, hd3, fun k hk => by rcases hk with e | e <;> omega⟩)
  obtain ⟨o, ho⟩ : ∃ o, o = w2.heap.size + 1 := ⟨_, rfl⟩
  rw [← ho] at HD3 ⊢
  have HB3 := Lib.hid hbn3
  clear hd3 hbn3 ho
  go_wp2_with fail
  have HS0 := Lib.hid (show DoesI w1 (w3.alloc (.cells #[.pointer (some ⟨o, 0, none⟩), .int .i64 0, .slice none 0 0, .bool false, .bool true] 31)) d o w3.heap.size 0 (.pointer none) from by
    obtain ⟨S, a1, a2⟩ := HD2.out
    obtain ⟨S2, a3, a4⟩ := HD3.out
    exact does_start HB1.out a1 a2 HB2.out a3 a4 HB3.out ((Below.refl _ w3).alloc (Nat.le_refl _) _) (heap_alloc_new w3 _) (Nat.le_refl _))
  obtain ⟨mb, hmb⟩ : ∃ mb, mb = w3.heap.size := ⟨_, rfl⟩
  rw [← hmb] at HS0 ⊢
  clear HD2 HB2 HD3 HB3 hmb hb1 hb2 ht' ht2'
  go_loopw [10, 42] (fun lg i wr => ∃ (k : Nat), i = .int .i64 k ∧ k ≤ n ∧ k ≤ 50 ∧ Hid (DoesI w1 wr d o mb k lg)) (fun _ i _ => n - (match i with | .int _ k => k.toNat | _ => 0))
  case atStart => exact ⟨0, rfl, Nat.zero_le _, Nat.zero_le _, HS0⟩
  case round =>
    clear HS0
    obtain ⟨k, rfl, hk, hk50, HA⟩ := hrel
    have HE := Lib.hid (fun (X : World) (hX : Below wr.heap.size wr X) => show Calls Tryz.prog 10 #[.pointer (some ⟨d, 0, none⟩), .pointer (some ⟨o, 0, none⟩)] X (fun e X' => e = .returned (.bool true) ∧ Below w.heap.size w X') from by
      obtain ⟨S, S2, T, Q, M, V, no, h1, h2⟩ := HA.out.later hX
      have := h1.ops
      refine (same_any h1.dd h1.dm h1.oct (by omega)).mono ?_
      rintro e X' ⟨rfl, hb⟩
      exact ⟨rfl, (HB1.out.trans (h1.bel.mono HB1.out.size)).trans (hb.mono (Nat.le_trans HB1.out.size h1.bel.size))⟩)
    by_cases hkn : k < n
    · have hkk : (k : Int) < n := by omega
      have k0 : (0 : Int) ≤ (k : Int) := by omega
      obtain ⟨ev, hev⟩ : ∃ ev, es[k]? = some ev := ⟨es[k]'(by rw [← HN.out]; exact hkn), List.getElem?_eq_getElem _⟩
      obtain ⟨b, off, B, cb, K, kc, rfl, hblt, y0, y1, y2, y3, hev0⟩ := HEV.out k ev hev
      have hbw : Below w.heap.size w wr := HB1.out.trans (HA.out.bel.mono HB1.out.size)
      have y0 := (hbw.cell (p := ⟨b, _, none⟩) hblt).trans y0
      have y1 := (hbw.cell (p := ⟨b, _, none⟩) hblt).trans y1
      have y2 := (hbw.cell (p := ⟨b, _, none⟩) hblt).trans y2
      have y3 := (hbw.cell (p := ⟨b, _, none⟩) hblt).trans y3
      by_cases h50 : k = 50
      · subst h50
        clear hev hev0 hbw HEV
        go_wp2_with fail
        refine (HE.out _ ((Below.refl _ wr).alloc (Nat.le_refl _) _)).mono ?_
        rintro e w' ⟨rfl, hb⟩
        have HB := Lib.hid hb
        clear hb
        go_wp2
        go_ret
        exact ⟨rfl, HB.out⟩
      · have t50 : ((k : Int) == 50) = false := by simp; omega
        clear HE
        have HDO := Lib.hid (fun (X : World) (hX : Below wr.heap.size wr X) => does_any (HA.out.later hX) (by omega) ev (hev0.later HB1.out))
        clear hev hev0 hbw
        generalize ev.bs.length = bn at *
        generalize ev.keep.length = kn at *
        generalize ev.kind = kd at *
        generalize ev.n = on at *
        go_wp2_with fail
        refine (HDO.out _ ((Below.refl _ wr).alloc (Nat.le_refl _) _)).mono ?_
        rintro e wa ⟨lg', rfl, hd⟩
        have HD := Lib.hid hd
        clear hd HDO
        go_wp2_with (go_at_call 9; refine (says_any HD.out).mono ?_; rintro e wb ⟨rfl, hb⟩; have HDN := Lib.hid (HD.out.later hb); clear hb)
        go_roundw
        case rel => exact ⟨k + 1, by go_num, by omega, by omega, HDN⟩
        case measure => simp; omega
    · obtain rfl : k = n := by omega
      clear HEV
      go_wp2_with fail
      refine (HE.out _ (Below.refl _ wr)).mono ?_
      rintro e w' ⟨rfl, hb⟩
      have HB := Lib.hid hb
      clear hb
      go_wp2
      go_ret
      exact ⟨rfl, HB.out⟩

theorem lifted (os : Os) (started : os.Started) (H : Type) (enc : TypeId × Value → H) :
    ReturnsInHanded {} Tryz.checked os 3 .any (Rows.walDoesSpec.pre6 enc Tryz.prog Tryz.f3 Rows.walDoesRow.domain false) (Rows.walDoesSpec.post enc Tryz.prog Tryz.f3 false true false false) := by
  refine returnsInHanded_of_change (C := Tryz.checked) Tryz.own started (by kernel_rfl) Tryz.func3
    (ChangeSpec.witness6 (enc := enc) (C := Tryz.checked) false ⟨#[], #[.int .i64 0, .slice none 0 0], []⟩ 8 (by kernel_rfl) (by kernel_rfl) (by kernel_rfl) (by kernel_rfl)) ?_
  intro W base args ds gs before hval0 hW hcnd _
  have hval : ∀ (j : Nat) t v, Tryz.f3.params[j]? = some t → args[j]? = some v → Value.okWide Tryz.prog W .any base t v := hval0
  have hW' := hW
  obtain ⟨p, q, hA0, hV, rfl, hfz, hnd⟩ := hW
  have hA : DataW.TrodAll enc Tryz.prog W 0 (fun _ => true) true Tryz.f3.params.toList args.toList ds p := hA0
  rw [Tryz.params3] at hA hval
  have hA' := hA
  obtain ⟨v0, vs0, d0, ds0, p0, q0, hargs, rfl, rfl, h0, r0⟩ := trodAll_cons hA
  obtain ⟨v1, vs1, d1, ds1, p1, q1, rfl, rfl, rfl, h1, r1⟩ := trodAll_cons r0
  obtain ⟨rfl, rfl, rfl⟩ := trodAll_nil r1
  obtain rfl : args = #[v0, v1] := by cases args; simp_all
  obtain ⟨rfl, rfl⟩ := trodVars_none hV
  obtain ⟨a0, rfl, rfl, rfl, w0⟩ := open_int Tryz.underlying3 (hval 0 3 v0 rfl rfl) h0
  obtain ⟨A1, len1, c1, rfl⟩ := okWide_slice Tryz.underlying22 (hval 1 22 v1 rfl rfl)
  obtain ⟨z1, rfl, sl1, ll1⟩ := open_evs h1
  clear hA0 hval0
  refine (walk a0 w0 A1 c1 z1 sl1 ll1).mono fun e W' ⟨he, bel⟩ => ?_
  subst he
  exact ⟨_, rfl, _, _, _, [], _, [], hW', trodAll_mk1 (shut_bool Tryz.underlying4 _), trodAll_below bel _ _ _ _ (by kernel_rfl) hA', rfl, bel.frame _, fun h => by cases h⟩

theorem proved : Rows.WalDoesSaid :=
  OpenClaim.holds_of_wide 3 Tryz.f3 rfl rfl rfl rfl rfl rfl rfl ⟨rfl, rfl, rfl, rfl, rfl⟩ rfl rfl rfl rfl rfl (by kernel_rfl) Tryz.func3 (by kernel_rfl)
    (of_decide_eq_true (by kernel_rfl)) (by unfold Func.isWrapper; first | (rw [if_pos (by decide +kernel)]; kernel_rfl) | (rw [if_neg (by decide +kernel)]; exact ⟨rfl, rfl⟩))
    (fun os started H enc _ => lifted os started H enc)
#print axioms proved
end Go.Proofs.YtienabfilnpieaaGreat.walDoes
