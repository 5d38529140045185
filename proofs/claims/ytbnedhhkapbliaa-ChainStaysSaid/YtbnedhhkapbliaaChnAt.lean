/-
  At and Last.
-/
import Derived.Test.YtbnedhhkapbliaaChnDel
namespace Go.Proofs.Ytbnedhhkapbliaa
open Go.RowKit Go.Shelf
set_option linter.unusedVariables false
set_option linter.unusedSimpArgs false
set_option maxRecDepth 100000
attribute [local go_sem] Oper.semAt_some

def AtI (w : World) (pre : List (Nat × Pl)) (W : World) : Prop := pre = [] ∧ Boxed W (w.heap.size + 1) 3 (.int .i64 0) ∧ Boxed W (w.heap.size + 2) 4 (.bool false) ∧ Below w.heap.size w W
def AtX (w : World) (l : List Vr) (t : Int) (cd : Code) (pre : List (Nat × Pl)) (W : World) : Prop := cd = .ret ∧ ∃ i : Nat, atI l t = some i ∧ Boxed W (w.heap.size + 1) 3 (.int .i64 i) ∧ Boxed W (w.heap.size + 2) 4 (.bool true) ∧ Below w.heap.size w W

set_option maxHeartbeats 4000000 in
theorem at_any (A : Option Addr) (c : Nat) (q : List Pl) (t : Int) (w : World) (h : Chn w A c q) :
    Calls Try.prog 20 #[.slice A q.length c, .int .u64 t] w fun e w' => e = .returned (.tuple #[.int .i64 (atK (atM (vals q) t)), .bool (atB (atM (vals q) t))]) ∧ Below w.heap.size w w' := by
  obtain ⟨n, hn⟩ : ∃ n, n = q.length := ⟨_, rfl⟩
  obtain ⟨W0, hW0⟩ : ∃ W0, W0 = ((w.alloc (.cells #[.int .u64 t] 26)).alloc (.cells #[.int .i64 0] 3)).alloc (.cells #[.bool false] 4) := ⟨_, rfl⟩
  have hz0 : W0.heap.size = w.heap.size + 3 := by rw [hW0]; simp
  have hb0 : Below w.heap.size w W0 := by rw [hW0]; exact (((Below.refl _ w).alloc (Nat.le_refl _) _).alloc (by simp) _).alloc (by simp; omega) _
  have x0 : Boxed W0 w.heap.size 26 (.int .u64 t) := by rw [hW0]; exact ((Boxed.new w _ _).alloc _).alloc _
  have x1 : Boxed W0 (w.heap.size + 1) 3 (.int .i64 0) := by
    rw [hW0]; have := (Boxed.new (w.alloc (.cells #[.int .u64 t] 26)) 3 (.int .i64 0)).alloc (.cells #[.bool false] 4); rwa [World.size_alloc] at this
  have x2 : Boxed W0 (w.heap.size + 2) 4 (.bool false) := by
    rw [hW0]; have := Boxed.new ((w.alloc (.cells #[.int .u64 t] 26)).alloc (.cells #[.int .i64 0] 3)) 4 (.bool false); rwa [World.size_alloc, World.size_alloc] at this
  have HCk := Lib.hid (check_any8 A c q W0 (h.below hb0))
  have HK := Lib.hid (show chkM (vals q) = if chainB (vals q) = true then 0 else 180 from rfl)
  have HR := Lib.hid (show atM (vals q) t = if chainB (vals q) = true then atI (vals q) t else none from rfl)
  generalize chkM (vals q) = E at *
  generalize atM (vals q) t = R at *
  have HS := Lib.hid (And.intro x0 (And.intro x1 (And.intro x2 (And.intro hb0 hz0))))
  have HW0 := Lib.hid hW0
  have HN := Lib.hid hn
  have HQ := Lib.hid h
  rw [← hn] at HCk ⊢
  clear x0 x1 x2 hb0 hz0 hW0 h hn
  cases hc : chainB (vals q) with
  | false =>
    have HE := Lib.hid (show E = 180 by rw [HK.out, hc]; rfl)
    have HR2 := Lib.hid (show R = none by rw [HR.out, hc]; rfl)
    clear hc HK HR
    go_enter Try.func20, Try.ntmps20
    go_wp2_with fail
    simp only [World.size_alloc, Nat.add_assoc, Nat.reduceAdd]
    rw [← HW0.out]
    refine HCk.out.mono ?_
    rw [HE.out]
    rintro e w1 ⟨rfl, hb1⟩
    obtain ⟨x0, x1, x2, hb0, hz0⟩ := HS.out
    have HB1 := Lib.hid (hb0.trans (hb1.mono hb0.size))
    have y1 : Boxed w1 (w.heap.size + 1) 3 (.int .i64 0) := (hb1.block _ x1.lt).trans x1
    have y2 : Boxed w1 (w.heap.size + 2) 4 (.bool false) := (hb1.block _ x2.lt).trans x2
    have c1 := y1.cell
    have f1 := y1.frozen
    have c2 := y2.cell
    have f2 := y2.frozen
    have z1 : Boxed ((w1.setCell ⟨w.heap.size + 1, 0, none⟩ (.int .i64 0)).setCell ⟨w.heap.size + 2, 0, none⟩ (.bool false)) (w.heap.size + 1) 3 (.int .i64 0) := (Below.heap_setCell _ _ _ _ (by simp)).trans (y1.set (.int .i64 0))
    have z2 : Boxed ((w1.setCell ⟨w.heap.size + 1, 0, none⟩ (.int .i64 0)).setCell ⟨w.heap.size + 2, 0, none⟩ (.bool false)) (w.heap.size + 2) 4 (.bool false) := (show Boxed (w1.setCell ⟨w.heap.size + 1, 0, none⟩ (.int .i64 0)) (w.heap.size + 2) 4 (.bool false) from (Below.heap_setCell _ _ _ _ (by simp)).trans y2).set (.bool false)
    have HZ := Lib.hid (And.intro z1.cell z2.cell)
    have hBB : Below w.heap.size w ((w1.setCell ⟨w.heap.size + 1, 0, none⟩ (.int .i64 0)).setCell ⟨w.heap.size + 2, 0, none⟩ (.bool false)) := (HB1.out.setCell (by simp) _).setCell (by simp) _
    have HBB := Lib.hid hBB
    clear hb1 x0 x1 x2 hb0 hz0 y1 y2 z1 z2 hBB
    go_wp2
    obtain ⟨r1, r2⟩ := HZ.out
    exact bodyPost_ret (v := .tuple #[.int .i64 0, .bool false]) (by simp [results, Try.results20, go_sem, r1, r2]) rfl ⟨by rw [HR2.out]; rfl, HBB.out⟩
  | true =>
    have HE := Lib.hid (show E = 0 by rw [HK.out, hc]; rfl)
    have HR2 := Lib.hid (show R = atI (vals q) t by rw [HR.out, hc]; rfl)
    clear hc HK HR
    refine (callsIn_wide (n := 3)).1 ?_
    refine callsIn_of_wp_marks Try.func20 rfl trivial ?_ rfl
    simp only [Try.ntmps20, List.size_toArray, List.length_cons, List.length_nil, Nat.reduceAdd, Nat.reduceSub, Array.replicate_succ, Array.replicate_zero, List.push_toArray, List.append_toArray, List.nil_append, List.cons_append]
    gi_wp2_with fail
    simp only [World.size_alloc, Nat.add_assoc, Nat.reduceAdd]
    rw [← HW0.out]
    refine ⟨trivial, (callsIn_wide.2 HCk.out).mono ?_⟩
    rw [HE.out]
    rintro e w1 ⟨rfl, hb1⟩
    obtain ⟨x0, x1, x2, hb0, hz0⟩ := HS.out
    have hb01 : Below w.heap.size w w1 := hb0.trans (hb1.mono hb0.size)
    have hz1 : w.heap.size + 3 ≤ w1.heap.size := by have := hb1.size; omega
    have y0 : Boxed w1 w.heap.size 26 (.int .u64 t) := (hb1.block _ x0.lt).trans x0
    have y1 : Boxed w1 (w.heap.size + 1) 3 (.int .i64 0) := (hb1.block _ x1.lt).trans x1
    have y2 : Boxed w1 (w.heap.size + 2) 4 (.bool false) := (hb1.block _ x2.lt).trans x2
    obtain ⟨w2, hw2⟩ : ∃ w2, w2 = (w1.alloc (.cells #[.slice A n c] 22)).alloc (.cells #[.func (.func 40) #[] #[.pointer (some ⟨w.heap.size, 0, none⟩)]] 66) := ⟨_, rfl⟩
    have hz2 : w2.heap.size = w1.heap.size + 2 := by rw [hw2]; simp
    have hb2 : Below w1.heap.size w1 w2 := by rw [hw2]; exact ((Below.refl _ w1).alloc (Nat.le_refl _) _).alloc (by simp) _
    have u1 : Boxed w2 w1.heap.size 22 (.slice A n c) := by rw [hw2]; exact (Boxed.new w1 _ _).alloc _
    have u2 : Boxed w2 (w1.heap.size + 1) 66 (.func (.func 40) #[] #[.pointer (some ⟨w.heap.size, 0, none⟩)]) := by
      rw [hw2]; have := Boxed.new (w1.alloc (.cells #[.slice A n c] 22)) 66 (.func (.func 40) #[] #[.pointer (some ⟨w.heap.size, 0, none⟩)]); rwa [World.size_alloc] at this
    have v0 : Boxed w2 w.heap.size 26 (.int .u64 t) := (hb2.block _ y0.lt).trans y0
    have v1 : Boxed w2 (w.heap.size + 1) 3 (.int .i64 0) := (hb2.block _ y1.lt).trans y1
    have v2 : Boxed w2 (w.heap.size + 2) 4 (.bool false) := (hb2.block _ y2.lt).trans y2
    have hb02 : Below w.heap.size w w2 := hb01.trans (hb2.mono hb01.size)
    have hseq := where1_in (w := w2) (w0 := w) (A := A) (c := c) (q := q) (visB · t) 40 #[.pointer (some ⟨w.heap.size, 0, none⟩)] 2 (w.heap.size + 1) w1.heap.size (w1.heap.size + 1) (by omega) (by rw [← HN.out]; exact u1.cell) u2.cell HQ.out hb02 (by omega) (by omega) (by omega) (fun v W => enters_of Try.func40 (by kernel_rfl) rfl _ W)
      (fun p _ X hX => at1_any p.v.b p.v.f p.B p.v.x.length p.c t w.heap.size X (hX.cell v0.cell (show w.heap.size < w2.heap.size by omega) (show w.heap.size ≠ w.heap.size + 1 by omega)))
    have HSeq := Lib.hid hseq
    have HV := Lib.hid (And.intro v1 (And.intro v2 (And.intro hb02 (And.intro hz1 hz2))))
    have HW2 := Lib.hid hw2
    clear hseq v0 v1 v2 u1 u2 hb2 hz2 hw2 y0 y1 y2 hb01 x0 x1 x2 hb0 hz0 hb1 hb02 hz1 HS HW0 HCk
    gi_wp2_with (refine ⟨trivial, ?_⟩; gi_at_call 42; refine (callsIn_wide.2 (where_any _ _ _ _ _ ⟨_, _, _, rfl⟩)).mono ?_; rintro e w' ⟨rfl, rfl⟩)
    rw [← HW2.out]
    obtain ⟨v1, v2, hb02, hz1, hz2⟩ := HV.out
    refine range_own rfl (by omega) (gf := 63) (lb := #[.pointer (some ⟨w1.heap.size, 0, none⟩), .pointer (some ⟨w1.heap.size + 1, 0, none⟩)]) rfl trivial (enters_of Try.func63 (by kernel_rfl) rfl) HSeq.out
      (fun W k h => h.elim) KpD.trans (fun B W k o o' _ hk ho => KpD.put hk ho) (fun _ => rfl) (fun _ _ _ _ _ _ _ _ _ => trivial)
      (AtI w) (AtX w (vals q) t) ?io ?ixo ?ip ?ixp ?h0
      (fun x => { tmps := #[.slice A n c, .int .u64 t, undef, .pointer (some ⟨w.heap.size, 0, none⟩), .pointer (some ⟨w.heap.size + 1, 0, none⟩), .pointer (some ⟨w.heap.size + 2, 0, none⟩), .func (.func 40) #[] #[.pointer (some ⟨w.heap.size, 0, none⟩)], .int .i64 x.1, .slice A n c, .int .i64 0, .bool false,
        .func (.func 40) #[] #[.pointer (some ⟨w.heap.size, 0, none⟩)], .slice A n c, .func (.func 40) #[] #[.pointer (some ⟨w.heap.size, 0, none⟩)], .func (.func 63) #[] #[.pointer (some ⟨w1.heap.size, 0, none⟩), .pointer (some ⟨w1.heap.size + 1, 0, none⟩)],
        .int .i64 x.1, .agg #[.int .u64 x.2.v.b, .int .u64 x.2.v.f, .slice x.2.B x.2.v.x.length x.2.c], undef], defers := [] }) ?assign ?body ?done ?stop
    case io => exact fun s X Y h ht => ⟨h.1, (ht.block _ h.2.1.lt (fun e => e.2)).trans h.2.1, (ht.block _ h.2.2.1.lt (fun e => e.2)).trans h.2.2.1, h.2.2.2.trans (Turn.below ht h.2.2.2.size (fun k e => e.2.elim))⟩
    case ixo =>
      rintro cd s X Y ⟨h1, i, h2, h3, h4, h5⟩ ht
      exact ⟨h1, i, h2, (ht.block _ h3.lt (fun e => e.2)).trans h3, (ht.block _ h4.lt (fun e => e.2)).trans h4, h5.trans (Turn.below ht h5.size (fun k e => e.2.elim))⟩
    case ip => exact fun s X k o o' h hk ho hc => ⟨h.1, put_other ho hc h.2.1 rfl, put_other ho hc h.2.2.1 rfl, h.2.2.2.trans (below_put (by omega) h.2.2.2.size)⟩
    case ixp =>
      rintro cd s X k o o' ⟨h1, i, h2, h3, h4, h5⟩ hk ho hc
      exact ⟨h1, i, h2, put_other ho hc h3 rfl, put_other ho hc h4 rfl, h5.trans (below_put (by omega) h5.size)⟩
    case h0 => exact fun W hb _ => ⟨rfl, (hb.block _ v1.lt).trans v1, (hb.block _ v2.lt).trans v2, hb02.trans (hb.mono hb02.size)⟩
    case assign =>
      intro l x W K hK
      dsimp only [encV]
      gi_wp2
      exact hK
    case body =>
      rintro l pre ⟨i, p⟩ W ⟨rfl, h1, h2, h3⟩ _ _ ⟨hk, hP, hpre⟩
      dsimp only at hk hP hpre ⊢
      have hil : i < q.length := (List.getElem?_eq_some_iff.1 hk).1
      have hF := find_at (vals_at hk) hP (sel_none (Nat.le_of_lt hil) hpre.symm)
      have c1 := h1.cell
      have f1 := h1.frozen
      have c2 := h2.cell
      have f2 := h2.frozen
      have z1 : Boxed ((W.setCell ⟨w.heap.size + 1, 0, none⟩ (.int .i64 i)).setCell ⟨w.heap.size + 2, 0, none⟩ (.bool true)) (w.heap.size + 1) 3 (.int .i64 i) := (Below.heap_setCell _ _ _ _ (by simp)).trans (h1.set (.int .i64 i))
      have z2 : Boxed ((W.setCell ⟨w.heap.size + 1, 0, none⟩ (.int .i64 i)).setCell ⟨w.heap.size + 2, 0, none⟩ (.bool true)) (w.heap.size + 2) 4 (.bool true) := (show Boxed (W.setCell ⟨w.heap.size + 1, 0, none⟩ (.int .i64 i)) (w.heap.size + 2) 4 (.bool false) from (Below.heap_setCell _ _ _ _ (by simp)).trans h2).set (.bool true)
      have HX := Lib.hid (show KeepsFrom w2.heap.size W ((W.setCell ⟨w.heap.size + 1, 0, none⟩ (.int .i64 i)).setCell ⟨w.heap.size + 2, 0, none⟩ (.bool true)) ∧ AtX w (vals q) t .ret ([] ++ [(i, p)]) ((W.setCell ⟨w.heap.size + 1, 0, none⟩ (.int .i64 i)).setCell ⟨w.heap.size + 2, 0, none⟩ (.bool true)) from
        ⟨((KeepsOthers.setCell _ _ _).from _).trans ((KeepsOthers.setCell _ _ _).from _), rfl, i, hF, z1, z2, h3.trans (((Below.refl _ W).setCell (by simp) _).setCell (by simp) _)⟩)
      clear h1 h2 h3 hk hP hpre hil hF z1 z2
      gi_wp2
      exact HX.out
    case done =>
      rintro xs W rfl ⟨hp, h1, h2, h3⟩ hK
      have hF : atI (vals q) t = none := None_.all (by rw [vals_length]; exact sel_none (Nat.le_refl _) hp)
      have c1 := h1.cell
      have f1 := h1.frozen
      have c2 := h2.cell
      have f2 := h2.frozen
      have z1 : Boxed ((W.setCell ⟨w.heap.size + 1, 0, none⟩ (.int .i64 0)).setCell ⟨w.heap.size + 2, 0, none⟩ (.bool false)) (w.heap.size + 1) 3 (.int .i64 0) := (Below.heap_setCell _ _ _ _ (by simp)).trans (h1.set (.int .i64 0))
      have z2 : Boxed ((W.setCell ⟨w.heap.size + 1, 0, none⟩ (.int .i64 0)).setCell ⟨w.heap.size + 2, 0, none⟩ (.bool false)) (w.heap.size + 2) 4 (.bool false) := (show Boxed (W.setCell ⟨w.heap.size + 1, 0, none⟩ (.int .i64 0)) (w.heap.size + 2) 4 (.bool false) from (Below.heap_setCell _ _ _ _ (by simp)).trans h2).set (.bool false)
      have hK2 : ((W.setCell ⟨w.heap.size + 1, 0, none⟩ (.int .i64 0)).setCell ⟨w.heap.size + 2, 0, none⟩ (.bool false)).heap[w2.heap.size]? = some (.deferred (some [])) := (Below.heap_setCell _ _ _ _ (by simp; omega)).trans ((Below.heap_setCell _ _ _ _ (by simp; omega)).trans hK)
      have HZ := Lib.hid (And.intro z1 (And.intro z2 (And.intro hK2 (h3.trans (((Below.refl _ W).setCell (by simp) _).setCell (by simp) (.bool false)) : Below w.heap.size w ((W.setCell ⟨w.heap.size + 1, 0, none⟩ (.int .i64 0)).setCell ⟨w.heap.size + 2, 0, none⟩ (.bool false))))))
      have HT := Lib.hid (show R = none by rw [HR2.out, hF])
      clear h1 h2 h3 hp hF z1 z2 hK2
      gi_wp2
      obtain ⟨z1, z2, hK2, hB⟩ := HZ.out
      refine ⟨by simp, .inl ⟨_, _, rfl, run_takeDeferred hK2, ?_⟩⟩
      have r1 := (show Boxed _ (w.heap.size + 1) 3 (.int .i64 0) from put_other (o' := .deferred none) hK2 rfl z1 rfl).cell
      have r2 := (show Boxed _ (w.heap.size + 2) 4 (.bool false) from put_other (o' := .deferred none) hK2 rfl z2 rfl).cell
      exact ⟨.tuple #[.int .i64 0, .bool false], by simp [results, Try.results20, go_sem, r1, r2], by rw [HT.out]; rfl, hB.trans (below_put (by omega) hB.size)⟩
    case stop =>
      rintro cd pre W _ ⟨rfl, i, h2, h3, h4, h5⟩ hK
      have HT := Lib.hid (show R = some i by rw [HR2.out, h2])
      have HZ := Lib.hid (And.intro h3 (And.intro h4 h5))
      clear h2 h3 h4 h5
      gi_wp2
      obtain ⟨z1, z2, hB⟩ := HZ.out
      refine ⟨by simp, .inl ⟨_, _, rfl, run_takeDeferred hK, ?_⟩⟩
      have r1 := (show Boxed _ (w.heap.size + 1) 3 (.int .i64 i) from put_other (o' := .deferred none) hK rfl z1 rfl).cell
      have r2 := (show Boxed _ (w.heap.size + 2) 4 (.bool true) from put_other (o' := .deferred none) hK rfl z2 rfl).cell
      exact ⟨.tuple #[.int .i64 i, .bool true], by simp [results, Try.results20, go_sem, r1, r2], by rw [HT.out]; rfl, hB.trans (below_put (by omega) hB.size)⟩

theorem last_any (A : Option Addr) (c : Nat) (q : List Pl) (w : World) (h : Chn w A c q) :
    Calls Try.prog 19 #[.slice A q.length c] w fun e w' => e = .returned (.int .u64 (if chainB (vals q) = true then lastM (vals q) else 0)) ∧ Below w.heap.size w w' := by
  have HC := Lib.hid (check_any8 A c q w h)
  have HL := Lib.hid (fun (W : World) (hW : Below w.heap.size w W) => lastTrace_any A c q W (h.below hW))
  have HK := Lib.hid (show chkM (vals q) = if chainB (vals q) = true then 0 else 180 from rfl)
  generalize chkM (vals q) = E at *
  generalize lastM (vals q) = L at *
  generalize q.length = n at *
  clear h
  cases hc : chainB (vals q) with
  | false =>
    have HE := Lib.hid (show E = 180 by rw [HK.out, hc]; rfl)
    clear hc HK
    go_enter Try.func19, Try.ntmps19
    go_wp2_with fail
    refine HC.out.mono ?_
    rw [HE.out]
    rintro e w1 ⟨rfl, hb1⟩
    have HB1 := Lib.hid hb1
    clear hb1
    go_wp2
    go_ret
    exact ⟨rfl, HB1.out⟩
  | true =>
    have HE := Lib.hid (show E = 0 by rw [HK.out, hc]; rfl)
    clear hc HK
    go_enter Try.func19, Try.ntmps19
    go_wp2_with fail
    refine HC.out.mono ?_
    rw [HE.out]
    rintro e w1 ⟨rfl, hb1⟩
    have HB1 := Lib.hid hb1
    clear hb1
    go_wp2_with fail
    refine (HL.out _ HB1.out).mono ?_
    rintro e w2 ⟨rfl, hb2⟩
    have HB2 := Lib.hid (HB1.out.trans (hb2.mono HB1.out.size))
    clear hb2
    go_wp2
    go_ret
    exact ⟨rfl, HB2.out⟩

end Go.Proofs.Ytbnedhhkapbliaa
