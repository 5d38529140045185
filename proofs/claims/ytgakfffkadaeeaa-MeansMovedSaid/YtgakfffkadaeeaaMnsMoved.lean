/-
  The law's moved.
-/
import Derived.Test.YtgakfffkadaeeaaMnsV
namespace Go.Proofs.Ytgakfffkadaeeaa
open Go.RowKit Go.Shelf
set_option linter.unusedVariables false
set_option linter.unusedSimpArgs false
set_option maxRecDepth 100000

theorem OwnV.step {base : Nat} {w W : World} {A1 : Option Addr} {c1 n : Nat} {xs : List Int} {x : Int} (h : OwnV base w A1 c1 xs) (hn : n = xs.length) (hW : Below w.heap.size w W) (hB : base ≤ w.heap.size) (hx : (Lit.int .i32 x).wf = true) :
    Read (W.alloc (.cells #[.int .i32 x] 21)) (some ⟨W.heap.size, 0, none⟩) 1 1 [.int .i32 x] ∧ (W.alloc (.cells #[.int .i32 x] 21)).ownsRow base 21 1 (.slice A1 n c1) n (xs.map (Value.int .i32)) ∧ base ≤ (W.alloc (.cells #[.int .i32 x] 21)).heap.size ∧
      ∀ A2 c2 W', W'.ownsRow base 21 1 (.slice A2 (n + 1) c2) (n + 1) (xs.map (Value.int .i32) ++ [.int .i32 x]) → (W.alloc (.cells #[.int .i32 x] 21)).grownBy W' (blk A1) → OwnV base W' A2 c2 (xs ++ [x]) ∧ Below base w W' := by
  subst hn
  obtain ⟨V, hV⟩ : ∃ V, V = W.alloc (.cells #[.int .i32 x] 21) := ⟨_, rfl⟩
  rw [← hV]
  have hbV : Below W.heap.size W V := by rw [hV]; exact (Below.refl _ W).alloc (Nat.le_refl _) _
  have hb := hW.trans (hbV.mono hW.size)
  have hs1 := hW.size
  have hs2 := hbV.size
  refine ⟨Read.one rfl (by rw [hV]; exact cell_laid _ _ _ 0), (h.below hb).1, by omega, fun A2 c2 W' hr hg => ⟨⟨by rw [List.length_append, List.map_append]; exact hr, fun y hy => ?_⟩, ?_⟩⟩
  · rcases List.mem_append.1 hy with hy | hy
    · exact h.2 y hy
    · obtain rfl : y = x := by simpa using hy
      exact hx
  · exact (hb.mono hB).trans (grown_below hg (by omega) (fun i hi => (h.1.lt i (by rw [own_blk]; exact hi)).1))

/-- May all of them be, once moved? -/
def mvB (b : List Int) (l : List (List Int)) : Bool := (addL b l).all fun x => x.all comp
def GMv (w : World) (b : List Int) (l : List (List Int)) (e : Ending) (w' : World) : Prop :=
  (mvB b l = true → ∃ A c, e = .returned (.tuple #[.slice A l.length c, .bool true]) ∧ Vecs .i32 w' A c (addL b l) ∧ Below w.heap.size w w') ∧
  (mvB b l = false → e = .returned (.tuple #[.slice none 0 0, .bool false]) ∧ Below w.heap.size w w')
theorem addL_take (b : List Int) (l : List (List Int)) {k : Nat} {x : List Int} (h : l[k]? = some x) : addL b (l.take (k + 1)) = addL b (l.take k) ++ [addV b x] := by
  unfold addL; rw [List.take_add_one, h, List.map_append]; rfl
theorem addV_take (b x : List Int) {t : Nat} (ht : t < x.length) : (addV b x).take (t + 1) = (addV b x).take t ++ [x.getD t 0 + b.getD t 0] := by
  have : (addV b x)[t]? = some (x.getD t 0 + b.getD t 0) := by unfold addV; rw [List.getElem?_map, List.getElem?_range ht]; rfl
  rw [List.take_add_one, this]; rfl
theorem i32_in {x : Int} (h : (Lit.int .i32 x).wf = true) : -2147483648 ≤ x ∧ x ≤ 2147483647 := by
  simp [Lit.wf, IntKind.min, IntKind.max, IntKind.signed, IntKind.bits] at h; omega
theorem Vec.getD_fit {k : IntKind} {w : World} {A : Option Addr} {c : Nat} {xs : List Int} (h : Vec k w A c xs) {j : Nat} (hj : j < xs.length) : (Lit.int k (xs.getD j 0)).wf = true := by
  have : xs.getD j 0 = xs[j] := by simp [List.getD, List.getElem?_eq_getElem hj]
  rw [this]; exact h.fit _ (List.getElem_mem hj)

set_option maxHeartbeats 4000000 in
theorem movedL_any (A A' : Option Addr) (c c' : Nat) (l : List (List Int)) (b : List Int) (w : World) (h : Vecs .i32 w A c l) (hb : Vec .i32 w A' c' b) (hl : l.length ≤ 1000000) (hs : ∀ x ∈ l, x.length ≤ 1000000 ∧ x.length ≤ b.length) :
    Calls Try.prog 31 #[.slice A l.length c, .slice A' b.length c'] w (GMv w b l) := by
  obtain ⟨n, hn⟩ : ∃ n, n = l.length := ⟨_, rfl⟩
  obtain ⟨m, hm⟩ : ∃ m, m = b.length := ⟨_, rfl⟩
  have HQ := Lib.hid h
  have HBv := Lib.hid hb
  have HN := Lib.hid hn
  have HM := Lib.hid hm
  have HS := Lib.hid hs
  have HAt := Lib.hid (fun k x (hx : l[k]? = some x) => addL_take b l hx)
  have HVt := Lib.hid (fun (x : List Int) (t : Nat) (ht : t < x.length) => addV_take b x ht)
  have hbm : m ≤ 9223372036854775807 := by rw [hm]; exact Nat.le_trans hb.room hb.most
  have H0 := Lib.hid (show FwI w (addL b (l.take 0)) 0 none 0 w from ⟨[], rfl, by simp [vals, addL], OwnVs.nil _ _, Below.refl _ _⟩)
  have HGt := Lib.hid (fun (A1 : Option Addr) (c1 : Nat) (W : World) (hf : FwI w (addL b l) n A1 c1 W) (hok : (addL b l).all (fun x => x.all comp) = true) => show GMv w b l (.returned (.tuple #[.slice A1 n c1, .bool true])) W from by
    obtain ⟨e, hbw, hv⟩ := hf.len
    refine And.intro (fun _ => ⟨A1, c1, by rw [hn], hv, hbw⟩) (fun hno => ?_)
    unfold mvB at hno
    rw [hok] at hno
    cases hno)
  have HGf := Lib.hid (fun (W : World) (hbw : Below w.heap.size w W) (k t : Nat) (x : List Int) (hx : l[k]? = some x) (ht : t < x.length) (hno : comp (x.getD t 0 + b.getD t 0) = false) => show GMv w b l (.returned (.tuple #[.slice none 0 0, .bool false])) W from by
    have hf : mvB b l = false := by
      unfold mvB
      refine all_no _ (addL b l) (k := k) (x := addV b x) (by unfold addL; rw [List.getElem?_map, hx]; rfl) ?_
      refine all_no _ (addV b x) (k := t) (x := x.getD t 0 + b.getD t 0) (by unfold addV; rw [List.getElem?_map, List.getElem?_range ht]; rfl) hno
    exact ⟨fun hy => (by rw [hf] at hy; cases hy), fun _ => ⟨rfl, hbw⟩⟩)
  rw [← hn] at hl
  rw [← hn, ← hm]
  clear h hb hn hm hs
  go_enter Try.func31, Try.ntmps31
  go_wp2
  go_loopw [6, 14] (fun s i wr => ∃ k A1 c1, k ≤ n ∧ i = .int .i64 (k : Nat) ∧ s = .slice A1 k c1 ∧ Hid (FwI w (addL b (l.take k)) k A1 c1 wr ∧ (addL b (l.take k)).all (fun x => x.all comp) = true)) (fun _ i _ => n - (intOf i).toNat)
  case atStart => exact ⟨0, none, 0, Nat.zero_le _, rfl, rfl, Lib.hid ⟨H0.out, by simp [addL]⟩⟩
  case round =>
    obtain ⟨k, A1, c1, hk, rfl, rfl, HI⟩ := hrel
    by_cases hkn : k < n
    · have HBw := Lib.hid HI.out.1.len.2.1
      obtain ⟨b1, o1, x, B, cb, rfl, hx, _, q0, hv⟩ := (HQ.out.below HBw.out).at_ (i := k) (by rw [← HN.out]; exact hkn)
      have hsx := HS.out x (List.mem_of_getElem? hx)
      have HX := Lib.hid hx
      have HV := Lib.hid hv
      have hvr := hv.room
      obtain ⟨d, hd⟩ : ∃ d, d = x.length := ⟨_, rfl⟩
      have HD := Lib.hid hd
      rw [← hd] at q0 hsx hvr
      rw [← HM.out] at hsx
      have hd1 := hsx.1
      have hdm := hsx.2
      have k0 : (0 : Int) ≤ k := by omega
      have kn : (k : Int) < n := by omega
      obtain ⟨ws, hws⟩ : ∃ ws, ws = wr := ⟨_, rfl⟩
      rw [← hws] at HI HBw HV q0 ⊢
      have HV0 := Lib.hid (show OwnV ws.heap.size ws none 0 ((addV b x).take 0) from by simpa using OwnV.nil _ _)
      clear hx hv hd hsx hws
      go_wp2
      clear q0
      go_loopw [9, 20] (fun s i wv => ∃ t A2 c2, t ≤ d ∧ i = .int .i64 (t : Nat) ∧ s = .slice A2 t c2 ∧ Hid (OwnV ws.heap.size wv A2 c2 ((addV b x).take t) ∧ Below ws.heap.size ws wv ∧ ((addV b x).take t).all comp = true)) (fun _ i _ => d - (intOf i).toNat)
      case atStart => exact ⟨0, none, 0, Nat.zero_le _, rfl, rfl, Lib.hid ⟨HV0.out, Below.refl _ _, by simp⟩⟩
      case round =>
        obtain ⟨t, A2, c2, ht, rfl, rfl, HJ⟩ := hrel
        by_cases htd : t < d
        · have htx : t < x.length := by rw [← HD.out]; exact htd
          have htb : t < b.length := by rw [← HM.out]; omega
          obtain ⟨g1, p1, rfl, _, s1⟩ := (HV.out.below HJ.out.2.1).at_ (j := t) htx
          obtain ⟨g2, p2, rfl, _, s2⟩ := ((HBv.out.below HBw.out).below HJ.out.2.1).at_ (j := t) htb
          have f1 := i32_in (HV.out.getD_fit htx)
          have f2 := i32_in (HBv.out.getD_fit htb)
          have HT := Lib.hid (HVt.out x t htx)
          have HNo := Lib.hid (fun (W : World) (hW : Below w.heap.size w W) (hno : comp (x.getD t 0 + b.getD t 0) = false) => HGf.out W hW k t x HX.out htx hno)
          have hlt : t = ((addV b x).take t).length := by rw [List.length_take, addV_length]; omega
          have HLT := Lib.hid hlt
          generalize x.getD t 0 = u at *
          generalize b.getD t 0 = v at *
          have t0 : (0 : Int) ≤ t := by omega
          have td : (t : Int) < d := by omega
          have tm : (t : Int) < m := by omega
          have w1 : wrap64 (u + v) = u + v := by unfold wrap64; omega
          have HDr := Lib.hid (fun (z : Nat) => show OwnV ws.heap.size (World.drewN _ z) A2 c2 ((addV b x).take t) ∧ Below ws.heap.size ws (World.drewN _ z) from ⟨HJ.out.1.below (below_drewN (Below.refl _ _) z), below_drewN HJ.out.2.1 z⟩)
          by_cases hc : comp (u + v) = true
          · have hc2 : -1073741823 ≤ u + v ∧ u + v ≤ 1073741823 := by unfold comp at hc; simpa using hc
            have e1 : ¬ u + v < -1073741823 := by omega
            have e2 : ¬ 1073741823 < u + v := by omega
            have w3 : RowKit.wrap32 (u + v) = u + v := w32 hc2
            have HAll := Lib.hid (show ((addV b x).take (t + 1)).all comp = true by rw [HT.out, List.all_append, HJ.out.2.2]; simp [hc])
            have hwf := wf32 hc2
            have hsz := HJ.out.2.1.size
            clear hc hlt
            go_wp2
            go_quiet (fail)
            have HJ2 := Lib.hid (HDr.out nq)
            generalize World.drewN _ nq = wq at *
            obtain ⟨r1, r2, r3, r4⟩ := HJ2.out.1.step HLT.out (Below.refl _ _) HJ2.out.2.size hwf
            rw [← HT.out] at r4
            have HR := Lib.hid r1
            have HO := Lib.hid r2
            have HX4 := Lib.hid r4
            clear r1 r2 r4
            go_wp2_with (at_builtin; refine gapp_at rfl (.tmp 40) (.tmp 43) appI rfl ws.heap.size A2 c2 t (((addV b x).take t).map (Value.int .i32)) rfl HO.out (some ⟨wq.heap.size, 0, none⟩) 1 1 [.int .i32 (u + v)] rfl HR.out (by omega) r3 ?_; intro A5 c5 w4 ho hg _; have HN4 := Lib.hid (HX4.out A5 c5 w4 ho hg); clear ho hg)
            go_roundw
            case rel => exact ⟨t + 1, A5, c5, by omega, by go_num, rfl, Lib.hid ⟨HN4.out.1, HJ2.out.2.trans HN4.out.2, HAll.out⟩⟩
            case measure => simp [intOf]; omega
          · have hcf : comp (u + v) = false := by simpa using hc
            have hbw2 := fun z => HNo.out (World.drewN wr z) (below_drewN (below_tr HBw.out HJ.out.2.1) z) hcf
            have HG2 := Lib.hid hbw2
            have hc3 : u + v < -1073741823 ∨ 1073741823 < u + v := by unfold comp at hcf; simp at hcf; omega
            clear hc hcf hlt hbw2
            rcases hc3 with hlo | hhi
            · have t1 : decide (u + v < -1073741823) = true := by simpa using hlo
              go_wp2
              go_quiet (fail)
              go_wp2
              go_ret2
              exact HG2.out nq
            · have t1 : decide (u + v < -1073741823) = false := by simp; omega
              have t2 : decide (1073741823 < u + v) = true := by simpa using hhi
              have t3 : ¬ u + v < -1073741823 := by omega
              go_wp2
              go_quiet (fail)
              go_wp2
              go_ret2
              exact HG2.out nq
        · obtain rfl : t = d := by omega
          have hx2 : (addV b x).take t = addV b x := List.take_of_length_le (by rw [addV_length, ← HD.out]; omega)
          have h1 := HJ.out.1
          have h3 := HJ.out.2.2
          rw [hx2] at h1 h3
          have hk1 : k ≤ 1000000 := by omega
          obtain ⟨vs, r1, r2, r3, r5⟩ := HI.out.1.step HJ.out.2.1 (h1.mono HBw.out.size)
          have hvl : (addV b x).length = t := by rw [addV_length, HD.out]
          rw [hvl] at r1 r2 r3 r5
          rw [← HAt.out k x HX.out] at r5
          have HAll := Lib.hid (show (addL b (l.take (k + 1))).all (fun x => x.all comp) = true by rw [HAt.out k x HX.out, List.all_append, HI.out.2]; simp [h3])
          have HR := Lib.hid r1
          have HO := Lib.hid r2
          have HX4 := Lib.hid r5
          clear r1 r2 r5 hx2 h1 h3 hvl
          go_wp2_with (at_builtin; refine gapp_at rfl (.tmp 46) (.tmp 48) appV rfl w.heap.size A1 c1 k vs rfl HO.out (some ⟨wr.heap.size, 0, none⟩) 1 1 [.slice A2 t c2] rfl HR.out (by omega) r3 ?_; intro A5 c5 w4 ho hg _; have HN4 := Lib.hid (HX4.out A5 c5 w4 ho hg); clear ho hg)
          go_roundw
          case rel => exact ⟨k + 1, A5, c5, by omega, by go_num, rfl, Lib.hid ⟨HN4.out, HAll.out⟩⟩
          case measure => simp [intOf]; omega
    · obtain rfl : k = n := by omega
      have HT := Lib.hid (show l.take k = l by rw [HN.out, List.take_length])
      go_wp2
      go_ret2
      have h1 := HI.out.1
      have h2 := HI.out.2
      rw [HT.out] at h1 h2
      exact HGt.out A1 c1 _ h1 h2
end Go.Proofs.Ytgakfffkadaeeaa
