/-
  Rows of vectors in new memory: copied, drawn, slices.Clone, slices.Grow and slices.Concat at vectors; the law's few and some.
-/
import Derived.Test.YtgakfffkadaeeaaMnsTell
import Derived.Lib.AppendZerosOnto
namespace Go.Proofs.Ytgakfffkadaeeaa
open Go.RowKit Go.Shelf
set_option linter.unusedVariables false
set_option linter.unusedSimpArgs false
set_option maxRecDepth 100000

/-- Rows of the call's own are answered. -/
def GivesV (w : World) (l : List (List Int)) (e : Ending) (w' : World) : Prop := ∃ A c q, e = .returned (.slice A (List.length q) c) ∧ vals q = l ∧ OwnVs w.heap.size w' A c q ∧ Below w.heap.size w w'
/-- What is copied so far. -/
def CpI (w : World) (l : List (List Int)) (k n : Nat) (A1 : Option Addr) (c1 : Nat) (wr : World) : Prop := ∃ q, List.length q = n ∧ vals q = l.take k ∧ OwnVs w.heap.size wr A1 c1 q ∧ Below w.heap.size w wr
theorem CpI.zero (w : World) (l : List (List Int)) : CpI w l 0 0 none 0 w := ⟨[], rfl, by simp [vals], OwnVs.nil _ _, Below.refl _ _⟩
/-- .. and one more. -/
theorem CpI.step {w wr W V : World} {l : List (List Int)} {k n : Nat} {A1 B : Option Addr} {c1 cb : Nat} {x : List Int} (h : CpI w l k n A1 c1 wr) (hx : l[k]? = some x) (hW : Below wr.heap.size wr W) (hv : OwnV w.heap.size W B cb x)
    (hV : V = W.alloc (.cells #[.slice B x.length cb] 35)) :
    ∃ vs, Read V (some ⟨W.heap.size, 0, none⟩) 1 1 [.slice B x.length cb] ∧ V.ownsRow w.heap.size 35 1 (.slice A1 n c1) n vs ∧ w.heap.size ≤ V.heap.size ∧ n ≤ k ∧
      ∀ A2 c2 W', W'.ownsRow w.heap.size 35 1 (.slice A2 (n + 1) c2) (n + 1) (vs ++ [.slice B x.length cb]) → V.grownBy W' (blk A1) → CpI w l (k + 1) (n + 1) A2 c2 W' := by
  obtain ⟨q, h1, h2, h3, h4⟩ := h
  subst h1
  have hbV : Below W.heap.size W V := by rw [hV]; exact (Below.refl _ W).alloc (Nat.le_refl _) _
  have hb := hW.trans (hbV.mono hW.size)
  have hs := h4.size
  have hs1 := hW.size
  have hs2 := hbV.size
  refine ⟨flatV q, Read.one rfl (by rw [hV]; exact cell_laid _ _ _ 0), h3.row.below hb, by omega, ?_, fun A2 c2 W' hr hg => ?_⟩
  · rw [← vals_length, h2, List.length_take]; omega
  · refine ⟨q ++ [⟨x, B, cb⟩], by simp, ?_, (h3.below hb).snoc (p := ⟨x, B, cb⟩) (hv.below hbV) hr hg, ?_⟩
    · rw [vals_append, h2, List.take_add_one, hx]; rfl
    · exact (h4.trans (hb.mono hs)).trans (grown_below hg (by omega) (fun i hi => (h3.row.low i hi).1))

set_option maxHeartbeats 1000000 in
theorem copied_any (A : Option Addr) (c : Nat) (l : List (List Int)) (w : World) (h : Vecs .i32 w A c l) (hl : l.length ≤ 1000000) (hs : ∀ x ∈ l, x.length ≤ 1000000) : Calls Try.prog 52 #[.slice A l.length c] w (GivesV w l) := by
  obtain ⟨n, hn⟩ : ∃ n, n = l.length := ⟨_, rfl⟩
  have HQ := Lib.hid h
  have HN := Lib.hid hn
  have HS := Lib.hid hs
  rw [← hn] at hl ⊢
  have H0 := Lib.hid (CpI.zero w l)
  clear h hn hs
  go_enter Try.func52, Try.ntmps52
  go_wp2
  go_loopw [3, 8] (fun s i wr => ∃ k m A1 c1, k ≤ n ∧ i = .int .i64 (k : Nat) ∧ s = .slice A1 m c1 ∧ Hid (CpI w l k m A1 c1 wr)) (fun _ i _ => n - (intOf i).toNat)
  case atStart => exact ⟨0, 0, none, 0, Nat.zero_le _, rfl, rfl, H0⟩
  case round =>
    obtain ⟨k, m, A1, c1, hk, rfl, rfl, HI⟩ := hrel
    by_cases hkn : k < n
    · obtain ⟨q, q1, q2, q3, q4⟩ := HI.out
      obtain ⟨b, o, x, B, cb, rfl, hx, hb, c0, hv⟩ := (HQ.out.below q4).at_ (i := k) (by rw [← HN.out]; exact hkn)
      have HC := Lib.hid (clone_any B cb x wr hv (HS.out x (List.mem_of_getElem? hx)))
      have HX := Lib.hid hx
      have HSZ := Lib.hid q4.size
      have k0 : (0 : Int) ≤ k := by omega
      have kn : (k : Int) < n := by omega
      obtain ⟨xl, hxl⟩ : ∃ xl, xl = x.length := ⟨_, rfl⟩
      have HXL := Lib.hid hxl
      rw [← hxl] at HC c0
      clear q q1 q2 q3 q4 hv hx hxl hb
      go_wp2_with fail
      refine HC.out.mono ?_
      rintro e w1 ⟨B1, c2, rfl, hv1, hb1⟩
      obtain ⟨V, hV⟩ : ∃ V, V = w1.alloc (.cells #[.slice B1 xl c2] 35) := ⟨_, rfl⟩
      obtain ⟨vs, r1, r2, r3, r4, r5⟩ := HI.out.step (V := V) HX.out hb1 (hv1.mono HSZ.out) (by rw [← HXL.out]; exact hV)
      rw [← HXL.out] at r1 r5
      subst hV
      have HR := Lib.hid r1
      have HO := Lib.hid r2
      have HN5 := Lib.hid r5
      clear hv1 hb1 r1 r2 r5
      go_wp2_with (at_builtin; refine gapp_at rfl (.tmp 12) (.tmp 15) appV rfl w.heap.size A1 c1 m vs rfl HO.out (some ⟨w1.heap.size, 0, none⟩) 1 1 [.slice B1 xl c2] rfl HR.out (by omega) r3 ?_; intro A5 c5 w4 ho hg _; have HN4 := Lib.hid (HN5.out A5 c5 w4 ho hg); clear ho hg)
      go_roundw
      case rel => exact ⟨k + 1, m + 1, A5, c5, by omega, by go_num, rfl, HN4⟩
      case measure => simp [intOf]; omega
    · obtain rfl : k = n := by omega
      have HT := Lib.hid (show l.take k = l by rw [HN.out, List.take_length])
      go_wp2
      go_ret
      obtain ⟨q, q1, q2, q3, q4⟩ := HI.out
      subst q1
      exact ⟨A1, c1, q, rfl, by rw [q2, HT.out], q3, q4⟩

/-! ### rows of vectors that lie elsewhere -/
/-- A row of the call's own whose vectors could be read ahead of it. -/
def BrI (w : World) (L : List (List Int)) (n : Nat) (A1 : Option Addr) (c1 : Nat) (wr : World) : Prop := ∃ q, List.length q = n ∧ vals q = L ∧ RowV w.heap.size wr A1 c1 q ∧ (∀ p ∈ q, Vec .i32 w p.B p.c p.x) ∧ Below w.heap.size w wr
theorem BrI.nil (w : World) : BrI w [] 0 none 0 w := ⟨[], rfl, rfl, RowV.nil _ _, by simp, Below.refl _ _⟩
theorem BrI.below {w wr W : World} {L : List (List Int)} {n : Nat} {A1 : Option Addr} {c1 : Nat} (h : BrI w L n A1 c1 wr) (hb : Below wr.heap.size wr W) : BrI w L n A1 c1 W := by
  obtain ⟨q, h1, h2, h3, h4, h5⟩ := h
  exact ⟨q, h1, h2, h3.below hb, h4, h5.trans (hb.mono h5.size)⟩
theorem BrI.vecs {w wr : World} {L : List (List Int)} {n : Nat} {A1 : Option Addr} {c1 : Nat} (h : BrI w L n A1 c1 wr) : Vecs .i32 wr A1 c1 L ∧ Below w.heap.size w wr ∧ n = L.length := by
  obtain ⟨q, h1, h2, h3, h4, h5⟩ := h
  subst h2
  exact ⟨h3.vecs (fun p hp => (h4 p hp).below h5), h5, by rw [← h1, vals_length]⟩
theorem BrI.step {w wr W : World} {L : List (List Int)} {n : Nat} {A1 B : Option Addr} {c1 cb : Nat} {x : List Int} (h : BrI w L n A1 c1 wr) (hW : Below wr.heap.size wr W) (hv : Vec .i32 w B cb x) :
    ∃ vs, Read (W.alloc (.cells #[.slice B x.length cb] 35)) (some ⟨W.heap.size, 0, none⟩) 1 1 [.slice B x.length cb] ∧ (W.alloc (.cells #[.slice B x.length cb] 35)).ownsRow w.heap.size 35 1 (.slice A1 n c1) n vs ∧ w.heap.size ≤ (W.alloc (.cells #[.slice B x.length cb] 35)).heap.size ∧
      ∀ A2 c2 W', W'.ownsRow w.heap.size 35 1 (.slice A2 (n + 1) c2) (n + 1) (vs ++ [.slice B x.length cb]) → (W.alloc (.cells #[.slice B x.length cb] 35)).grownBy W' (blk A1) → BrI w (L ++ [x]) (n + 1) A2 c2 W' := by
  obtain ⟨q, h1, h2, h3, h4, h5⟩ := h
  subst h1
  obtain ⟨V, hV⟩ : ∃ V, V = W.alloc (.cells #[.slice B x.length cb] 35) := ⟨_, rfl⟩
  rw [← hV]
  have hbV : Below W.heap.size W V := by rw [hV]; exact (Below.refl _ W).alloc (Nat.le_refl _) _
  have hb := hW.trans (hbV.mono hW.size)
  have hs := h5.size
  have hs1 := hW.size
  have hs2 := hbV.size
  refine ⟨flatV q, Read.one rfl (by rw [hV]; exact cell_laid _ _ _ 0), h3.below hb, by omega, fun A2 c2 W' hr hg => ?_⟩
  refine ⟨q ++ [⟨x, B, cb⟩], by simp, by rw [vals_append, h2]; rfl, RowV.snoc (p := ⟨x, B, cb⟩) hr, fun p hp => ?_, ?_⟩
  · rcases List.mem_append.1 hp with hp | hp
    · exact h4 p hp
    · obtain rfl : p = ⟨x, B, cb⟩ := by simpa using hp
      exact hv
  · exact (h5.trans (hb.mono hs)).trans (grown_below hg (by omega) (fun i hi => (h3.low i hi).1))
theorem Vecs.later {w : World} {A : Option Addr} {c : Nat} {l : List (List Int)} (h : Vecs .i32 w A c l) : ∃ q : List Pv, vals q = l ∧ (∀ p ∈ q, Vec .i32 w p.B p.c p.x) ∧ ∀ W, Below w.heap.size w W → Read W A q.length 1 (flatV q) := by
  obtain ⟨q, h1, h2, h3, h4⟩ := h.placed
  refine ⟨q, h1, h2, fun W hW => ⟨h3.1, h3.2.1, h3.2.2.1, fun b e j u hj => ?_⟩⟩
  have hl : j < q.length := by have := (List.getElem?_eq_some_iff.1 hj).1; rw [flatV_length] at this; exact this
  obtain ⟨b', o', e', hb, _⟩ := h4 j _ (List.getElem?_eq_getElem hl)
  have := h3.2.2.2 b e j u hj
  rw [e'] at e
  injection e with e
  subst e
  rw [Addr.add_lit] at this ⊢
  exact (hW.cell (p := ⟨b', o' + j, none⟩) hb).trans this
/-- .. and many more. -/
theorem BrI.more {w wr : World} {L : List (List Int)} {n : Nat} {A1 A2 : Option Addr} {c1 c2 : Nat} {l : List (List Int)} (h : BrI w L n A1 c1 wr) (hl : Vecs .i32 w A2 c2 l) :
    ∃ vs news, Read wr A2 l.length 1 news ∧ wr.ownsRow w.heap.size 35 1 (.slice A1 n c1) n vs ∧ w.heap.size ≤ wr.heap.size ∧
      ∀ A3 c3 W', W'.ownsRow w.heap.size 35 1 (.slice A3 (n + l.length) c3) (n + l.length) (vs ++ news) → wr.grownBy W' (blk A1) → BrI w (L ++ l) (n + l.length) A3 c3 W' := by
  obtain ⟨q, h1, h2, h3, h4, h5⟩ := h
  subst h1
  obtain ⟨r, r1, r2, r3⟩ := hl.later
  have hrl : r.length = l.length := by rw [← vals_length, r1]
  refine ⟨flatV q, flatV r, by rw [← hrl]; exact r3 wr h5, h3, h5.size, fun A3 c3 W' hr hg => ?_⟩
  refine ⟨q ++ r, by rw [List.length_append, hrl], by rw [vals_append, h2, r1], ?_, fun p hp => ?_, ?_⟩
  · unfold RowV; rw [flatV_append, List.length_append, hrl]; exact hr
  · rcases List.mem_append.1 hp with hp | hp
    · exact h4 p hp
    · exact r2 p hp
  · exact h5.trans (grown_below hg h5.size (fun i hi => (h3.low i hi).1))

set_option maxHeartbeats 1000000 in
theorem drawn_any (A A' : Option Addr) (c c' : Nat) (l : List (List Int)) (d : List Int) (w : World) (h : Vecs .i32 w A c l) (hd : Vec .i64 w A' c' d) (hn : 0 < l.length) (hl : l.length ≤ 1000000) (hs : ∀ x ∈ l, x.length ≤ 1000000) (hdl : d.length ≤ 1000000) (hd0 : ∀ x ∈ d, 0 ≤ x) :
    Calls Try.prog 33 #[.slice A l.length c, .slice A' d.length c'] w (GivesV w (startM l d)) := by
  obtain ⟨n, hnn⟩ : ∃ n, n = l.length := ⟨_, rfl⟩
  obtain ⟨m, hm⟩ : ∃ m, m = d.length := ⟨_, rfl⟩
  have HQ := Lib.hid h
  have HD := Lib.hid hd
  have HN := Lib.hid hnn
  have HM := Lib.hid hm
  have HS := Lib.hid hs
  have HD0 := Lib.hid hd0
  have HST := Lib.hid (fun k x (hx : d[k]? = some x) => show startM l (d.take (k + 1)) = startM l (d.take k) ++ [l.getD (x.toNat % l.length) []] by unfold startM; rw [List.take_add_one, hx, List.map_append]; rfl)
  rw [← hnn] at hn hl ⊢
  rw [← hm] at hdl ⊢
  have n0 : (0 : Int) < n := by omega
  have t0 : ((n : Int) == 0) = false := by simp; omega
  have t1 : (n == 0) = false := by simp; omega
  have H0 := Lib.hid (BrI.nil w)
  have HCp := Lib.hid (fun A1 c1 V (hV : BrI w (startM l d) m A1 c1 V) => copied_any A1 c1 (startM l d) V hV.vecs.1 (by rw [start_length]; omega) (fun x hx => HS.out x (start_mem (by rw [← HN.out]; exact hn) d x hx)))
  clear h hd hs hd0 hnn hm
  go_enter Try.func33, Try.ntmps33
  go_wp2
  go_loopw [5, 10] (fun s i wr => ∃ k A1 c1, k ≤ m ∧ i = .int .i64 (k : Nat) ∧ s = .slice A1 k c1 ∧ Hid (BrI w (startM l (d.take k)) k A1 c1 wr)) (fun _ i _ => m - (intOf i).toNat)
  case atStart => exact ⟨0, none, 0, Nat.zero_le _, rfl, rfl, H0⟩
  case round =>
    obtain ⟨k, A1, c1, hk, rfl, rfl, HI⟩ := hrel
    by_cases hkm : k < m
    · have hb := HI.out.vecs.2.1
      obtain ⟨b, o, rfl, hb1, c0⟩ := (HD.out.below hb).at_ (j := k) (by rw [← HM.out]; exact hkm)
      have hx := getD_some (a := d) (k := k) (by rw [← HM.out]; exact hkm)
      have hx0 := HD0.out _ (List.mem_of_getElem? hx)
      have hst := HST.out k _ hx
      generalize d.getD k 0 = x at *
      obtain ⟨y, rfl⟩ := Int.eq_ofNat_of_zero_le hx0
      have hym := Nat.mod_lt y hn
      obtain ⟨b2, o2, z, B, cb, rfl, hz, hb2, c2, hv⟩ := HQ.out.at_ (i := y % n) (by rw [← HN.out]; exact hym)
      have c3 := (hb.cell (p := ⟨b2, o2 + y % n, none⟩) hb2).trans c2
      rw [← HN.out, Int.toNat_natCast, getD_at hz] at hst
      obtain ⟨vs, r1, r2, r3, r5⟩ := HI.out.step (Below.refl _ _) hv
      rw [← hst] at r5
      have HR := Lib.hid r1
      have HO := Lib.hid r2
      have HN5 := Lib.hid r5
      have k0 : (0 : Int) ≤ k := by omega
      have km : (k : Int) < m := by omega
      have m0 : (0 : Int) ≤ ((y % n : Nat) : Int) := by omega
      have m1 : ((y % n : Nat) : Int) < n := by omega
      have m2 : (y : Int) % (n : Int) = ((y % n : Nat) : Int) := by omega
      have m3 : (y : Int).tmod (n : Int) = ((y % n : Nat) : Int) := by rw [Int.tmod_eq_emod_of_nonneg (by omega)]; omega
      obtain ⟨zl, hzl⟩ : ∃ zl, zl = z.length := ⟨_, rfl⟩
      rw [← hzl] at c2 c3 HR HO HN5 r3
      obtain ⟨yn, hyn⟩ : ∃ yn, yn = y % n := ⟨_, rfl⟩
      rw [← hyn] at m0 m1 m2 m3 c3
      clear hb hb1 hx hst hv hb2 c2 r1 r2 r5 hx0 hz hzl hyn
      go_wp2_with (at_builtin; refine gapp_at rfl (.tmp 14) (.tmp 22) appV rfl w.heap.size A1 c1 k vs rfl HO.out (some ⟨wr.heap.size, 0, none⟩) 1 1 [.slice B zl cb] rfl HR.out (by omega) r3 ?_; intro A5 c5 w4 ho hg _; have HN4 := Lib.hid (HN5.out A5 c5 w4 ho hg); clear ho hg)
      go_roundw
      case rel => exact ⟨k + 1, A5, c5, by omega, by go_num, rfl, HN4⟩
      case measure => simp [intOf]; omega
    · obtain rfl : k = m := by omega
      have HT := Lib.hid (show d.take k = d by rw [HM.out, List.take_length])
      have HI2 := Lib.hid (show BrI w (startM l d) k A1 c1 wr by have := HI.out; rw [HT.out] at this; exact this)
      have HC := Lib.hid (HCp.out A1 c1 wr HI2.out)
      have hk2 := HI2.out.vecs.2.2
      rw [← hk2] at HC
      clear hk2
      go_wp2_with fail
      refine HC.out.mono ?_
      rintro e w1 ⟨A3, c3, q, rfl, hq, ho, hb1⟩
      have hsz := HI2.out.vecs.2.1
      have HF := Lib.hid (show vals q = startM l d ∧ OwnVs w.heap.size w1 A3 c3 q ∧ Below w.heap.size w w1 from ⟨hq, ho.mono hsz.size, hsz.trans (hb1.mono hsz.size)⟩)
      clear hq ho hb1 hsz
      go_wp2
      go_ret
      exact ⟨A3, c3, q, rfl, HF.out.1, HF.out.2.1, HF.out.2.2⟩


/-! ### slices.Clone, slices.Grow, slices.Concat -/
theorem cloneV_any (g o : Nat) (c : Nat) (l : List (List Int)) (w : World) (h : Vecs .i32 w (some ⟨g, o, none⟩) c l) (hl : l.length ≤ 1000000) :
    Calls Try.prog 43 #[.slice (some ⟨g, o, none⟩) l.length c] w fun e w' => ∃ A1 c1, e = .returned (.slice A1 l.length c1) ∧ BrI w l l.length A1 c1 w' := by
  have q22 : ∀ (w : World) (a : Option Addr) (n c n' c' : Nat), (binOp .eql 22 (.slice a n c) (.slice none n' c')).run Try.prog w = .ok (.bool a.isNone) w := fun w a n c n' c' => Lib.run_eql_slice_nil w _ _ a n c n' c' Try.underlying22
  obtain ⟨r, r1, r2, r3⟩ := h.later
  have hrl : r.length = l.length := by rw [← vals_length, r1]
  have HR := Lib.hid (r3 _ ((Below.refl _ w).alloc (Nat.le_refl _) (.cells #[] 35)))
  have HO := Lib.hid (World.ownsRow_made (base := w.heap.size) (size := 1) (e := 35) w #[] 0 (Nat.le_refl _) (Nat.zero_le _) rfl)
  rw [hrl] at HR
  have HF := Lib.hid (And.intro r1 (And.intro r2 hrl))
  generalize l.length = n at *
  clear h r1 r2 r3 hrl
  go_enter Try.func43, Try.ntmps43
  go_wp2_with (at_builtin; refine gapp_at rfl (.tmp 5) (.tmp 6) appV rfl w.heap.size (some ⟨w.heap.size, 0, none⟩) 0 0 [] rfl HO.out (some ⟨g, o, none⟩) c n (flatV r) rfl HR.out (by omega) (by simp) ?_; intro A1 c1 w1 ho hg _; have HO1 := Lib.hid ho; have HB1 := Lib.hid (show Below w.heap.size w w1 from ((Below.refl _ w).alloc (Nat.le_refl _) (.cells #[] 35)).grown hg (by simp) (fun k hk => Nat.le_of_eq (show w.heap.size = k by simpa [blk] using hk))); clear ho hg)
  go_ret
  refine ⟨A1, c1, rfl, r, HF.out.2.2, HF.out.1, ?_, HF.out.2.1, HB1.out⟩
  have := HO1.out
  rw [Nat.zero_add, List.nil_append] at this
  unfold RowV
  rw [HF.out.2.2]
  exact this

set_option maxHeartbeats 1000000 in
theorem grow_any (n : Nat) (w : World) (h0 : 0 < n) (hn : n ≤ 1000000) :
    Calls Try.prog 68 #[.slice none 0 0, .int .i64 n] w fun e w' => ∃ A1 c1, e = .returned (.slice A1 0 c1) ∧ BrI w [] 0 A1 c1 w' := by
  obtain ⟨i0, z, hi0, hz0, hs0, hbt, hz1, _, _⟩ := (show AppT Try.prog 22 35 1 24 from appV).2
  have hold : (Builtin.firstCells i0.size 0 (.slice none 0 0)).run Try.prog w.drew = .ok (([] : List Value)).toArray w.drew := run_firstCells_none w.drew i0.size 0 0 0
  have hrz : ∀ ty, (Builtin.append_ #[22, 3] ty #[.slice none 0 0, .int .i64 n]).run Try.prog w =
      .ok (.slice (some ⟨w.heap.size, 0, none⟩) (0 + n) (grownCap w (0 + n) 0 35)) (w.drew.alloc (.cells ((([] : List Value)).toArray ++ Builtin.zeroCells z.cells n ++ Builtin.zeroCells z.cells (grownCap w (0 + n) 0 35 - (0 + n))) 35)) := fun ty =>
    Lib.run_append_grow_zeros w 22 3 ty 35 i0 z .i64 .i64 Try.underlying22 Try.underlying3 hi0 hz0 none 0 0 [] hold n h0 (by rw [hs0]; omega) (by omega) (by omega) (by rw [hbt]; omega)
      (growslice_fits (by omega) (by rw [hbt]; omega))
  have hG := grownCap_ge w (0 + n) 0 35
  have hG2 := grownCap_le_maxLen w (0 + n) 0 35 (by unfold maxLen; omega)
  obtain ⟨G, hGG⟩ : ∃ G, G = grownCap w (0 + n) 0 35 := ⟨_, rfl⟩
  rw [← hGG] at hrz hG hG2
  obtain ⟨cs, hcs⟩ : ∃ cs, cs = ((([] : List Value)).toArray ++ Builtin.zeroCells z.cells n ++ Builtin.zeroCells z.cells (G - (0 + n))) := ⟨_, rfl⟩
  rw [← hcs] at hrz
  have hsz : cs.size = G * 1 := by
    rw [hcs, Array.size_append, Array.size_append, size_zeroCells, size_zeroCells, hz1]
    simp
    omega
  have HO := Lib.hid (World.ownsRow_made (base := w.heap.size) (size := 1) (e := 35) w.drew cs G (Nat.le_refl _) hG2 hsz)
  have n0 : ¬ ((n : Int) < 0) := by omega
  have n1 : (0 : Int) < n := by omega
  have w1 : wrap64 (n : Int) = n := by unfold wrap64; omega
  have g1 : G ≤ 9223372036854775807 := by unfold maxLen at hG2; omega
  have HB := Lib.hid (show Below w.heap.size w (w.drew.alloc (.cells cs 35)) from (below_drew (Below.refl _ w)).alloc (Nat.le_refl _) _)
  rw [Nat.zero_add] at hrz
  have hrz2 := hrz 22
  clear hold hcs hi0 hz0 hs0 hbt hz1 hGG hsz hG2
  go_enter Try.func68, Try.ntmps68
  go_wp2_with (at_builtin; refine Lib.wpList_append_run _ rfl _ _ _ _ rfl _ _ rfl rfl _ _ (hrz _) ?_)
  all_goals (
    go_ret
    exact ⟨some ⟨w.heap.size, 0, none⟩, G, rfl, [], rfl, rfl, HO.out, by simp, HB.out⟩)
end Go.Proofs.Ytgakfffkadaeeaa
