/-
  slices.AppendSeq and slices.Collect at vectors; the vectors of a centroid.
-/
import Derived.Test.YtgakfffkadaeeaaMnsSeq
namespace Go.Proofs.Ytgakfffkadaeeaa
open Go.RowKit Go.Shelf
set_option linter.unusedVariables false
set_option linter.unusedSimpArgs false
set_option maxRecDepth 100000
attribute [local go_sem] Oper.semAt_some

theorem turn_set (W : World) (g j : Nat) (u : Value) : Turn (fun i => i = g) W (W.setCell ⟨g, j, none⟩ u) := ⟨rfl, rfl, rfl, by simp [World.setCell], fun k _ hk => Below.heap_setCell _ _ _ _ hk⟩
theorem keeps_turn {B0 : Nat} {S : Nat → Prop} {W W' : World} (h : Turn S W W') (hc : ∀ i, S i → ∃ o, W.heap[i]? = some o ∧ o.isCells = true) : KeepsFrom B0 W W' :=
  ⟨h.size, fun k o _ hk ho => (h.block k (lt_of_block hk) (fun e => by obtain ⟨o2, h2, h3⟩ := hc k e; rw [hk] at h2; cases h2; rw [ho] at h3; cases h3)).trans hk⟩
theorem row_put {w : World} {base : Nat} {e : TypeId} {size : Nat} {v : Value} {n : Nat} {xs : List Value} (h : w.ownsRow base e size v n xs) {k : Nat} {o : Obj} (o' : Obj) (hk : w.heap[k]? = some o) (ho : o.isCells = false) : (w.putObj k o').ownsRow base e size v n xs := by
  rcases h.2 with ⟨e', h0⟩ | ⟨g, cap, cur, e', hg, hh, hnc, hcm, hsz, hcs⟩
  · exact ⟨h.1, .inl ⟨e', h0⟩⟩
  · exact ⟨h.1, .inr ⟨g, cap, cur, e', hg, put_other hk ho hh rfl, hnc, hcm, hsz, hcs⟩⟩
theorem RowV.isCells {base : Nat} {w : World} {A : Option Addr} {c : Nat} {q : List Pv} (h : RowV base w A c q) {i : Nat} (hi : blk A = some i) : ∃ o, w.heap[i]? = some o ∧ o.isCells = true := by
  rcases h.2 with ⟨e, h0⟩ | ⟨g, cap, cur, e, hg, hh, _⟩
  · injection e with e1; subst e1; cases hi
  · injection e with e1; subst e1
    have : g = i := by simpa [blk] using hi
    subst this
    exact ⟨_, hh, rfl⟩

/-- What is collected so far. -/
def SqM (w : World) (pre : List Pv) (W : World) : Prop := ∃ A c, Boxed W w.heap.size 22 (.slice A (List.length pre) c) ∧ RowV (w.heap.size + 1) W A c pre ∧ Below w.heap.size w W
theorem SqM.below {w W W' : World} {pre : List Pv} (h : SqM w pre W) (hb : Below W.heap.size W W') : SqM w pre W' := by
  obtain ⟨A, c, h1, h2, h3⟩ := h
  exact ⟨A, c, (hb.block _ h1.lt).trans h1, h2.below hb, h3.trans (hb.mono h3.size)⟩
theorem SqM.put {w W : World} {pre : List Pv} (h : SqM w pre W) {k : Nat} {o : Obj} (o' : Obj) (hk0 : w.heap.size ≤ k) (hk : W.heap[k]? = some o) (ho : o.isCells = false) : SqM w pre (W.putObj k o') := by
  obtain ⟨A, c, h1, h2, h3⟩ := h
  exact ⟨A, c, put_other hk ho h1 rfl, row_put h2 o' hk ho, h3.trans (below_put hk0 h3.size)⟩
theorem sq_last {w W V w4 : World} {A A5 : Option Addr} {c c5 B : Nat} {pre : List Pv} {x : Pv} (h1 : Boxed W w.heap.size 22 (.slice A pre.length c)) (h2 : RowV (w.heap.size + 1) W A c pre) (h3 : Below w.heap.size w W)
    (hV : V = W.alloc (.cells #[.slice x.B x.x.length x.c] 35))
    (ho : w4.ownsRow (w.heap.size + 1) 35 1 (.slice A5 (pre.length + 1) c5) (pre.length + 1) (flatV pre ++ [.slice x.B x.x.length x.c])) (hgr : V.grownBy w4 (blk A)) :
    w4.cell? ⟨w.heap.size, 0, none⟩ = some (.slice A pre.length c) ∧ w4.frozen? ⟨w.heap.size, 0, none⟩ = false ∧ KeepsFrom (w.heap.size + 1) W (w4.setCell ⟨w.heap.size, 0, none⟩ (.slice A5 (pre.length + 1) c5)) ∧ KpL w.heap.size B W (w4.setCell ⟨w.heap.size, 0, none⟩ (.slice A5 (pre.length + 1) c5)) ∧ SqM w (pre ++ [x]) (w4.setCell ⟨w.heap.size, 0, none⟩ (.slice A5 (pre.length + 1) c5)) := by
  have hA : ∀ i, blk A = some i → w.heap.size + 1 ≤ i ∧ i < W.heap.size := fun i hi => h2.low i hi
  have hbV : Below W.heap.size W V := by rw [hV]; exact (Below.refl _ W).alloc (Nat.le_refl _) _
  have hs1 := h1.lt
  have t4 : Turn (fun i => blk A = some i) W w4 := (Turn.of_below (S := fun i => blk A = some i) hbV).trans (Turn.of_grown hgr (fun i hi => .inl hi)) (fun i hi => .inl hi)
  have hN : RowV (w.heap.size + 1) w4 A5 c5 (pre ++ [x]) := RowV.snoc ho
  have hd4 : Boxed w4 w.heap.size 22 (.slice A pre.length c) := (t4.block _ h1.lt (fun e => by have := hA _ e; omega)).trans h1
  have t5 := turn_set w4 w.heap.size 0 (.slice A5 (pre.length + 1) c5)
  have tt : Turn (fun i => blk A = some i ∨ i = w.heap.size) W (w4.setCell ⟨w.heap.size, 0, none⟩ (.slice A5 (pre.length + 1) c5)) :=
    (t4.mono (S' := fun i => blk A = some i ∨ i = w.heap.size) (fun i hi => .inl hi)).trans t5 (fun i hi => .inl (.inr hi))
  have hlo : ∀ i, (blk A = some i ∨ i = w.heap.size) → w.heap.size ≤ i := fun i hi => hi.elim (fun hi => by have := hA _ hi; omega) (fun hi => by omega)
  refine ⟨hd4.cell, hd4.frozen, keeps_turn tt ?_, KpL.turn tt hlo, A5, c5, ?_, ?_, ?_⟩
  · rintro i (hi | rfl)
    · exact h2.isCells hi
    · exact ⟨_, h1, rfl⟩
  · rw [List.length_append]; exact hd4.set _
  · exact hN.turn t5 (fun i hi e => by have := hN.low i hi; omega)
  · exact h3.trans (tt.below h3.size hlo)

/-- What is collected. -/
def GivesP (w : World) (q : List Pv) (e : Ending) (w' : World) : Prop := ∃ A c, e = .returned (.slice A q.length c) ∧ RowV w.heap.size w' A c q ∧ Below w.heap.size w w'

set_option maxHeartbeats 4000000 in
theorem appendSeq_any (gf : FuncId) (lb : Array Value) (f : Nat → Bool) (q : List Pv) (w : World) (hq : q.length ≤ 1000000) (hgf : ∀ args W, (callFunc gf args).run Try.prog W = .ok (.enter gf args) W)
    (hseq : ∀ W0, Below w.heap.size w W0 → SeqOwn Fence.wide 2 Try.prog gf lb encM (fun _ _ => False) (fun _ _ _ => True) (KpL w.heap.size) (NxM f q) (fun xs => xs = selM f q q.length) (fun _ => True) W0) :
    Calls Try.prog 69 #[.slice none 0 0, .func (.func gf) #[] lb] w (GivesP w (selM f q q.length)) := by
  refine (callsIn_wide (n := 3)).1 ?_
  refine callsIn_of_wp_marks Try.func69 rfl trivial ?_ rfl
  simp only [Try.ntmps69, List.size_toArray, List.length_cons, List.length_nil, Nat.reduceAdd, Nat.reduceSub, Array.replicate_succ, Array.replicate_zero, List.push_toArray, List.append_toArray, List.nil_append, List.cons_append]
  have HGF := Lib.hid hgf
  have HSeq := Lib.hid hseq
  clear hgf hseq
  obtain ⟨W0, hW0⟩ : ∃ W0, W0 = w.alloc (.cells #[.slice none 0 0] 22) := ⟨_, rfl⟩
  have hz0 : W0.heap.size = w.heap.size + 1 := by rw [hW0]; simp
  have hb0 : Below w.heap.size w W0 := by rw [hW0]; exact (Below.refl _ w).alloc (Nat.le_refl _) _
  have hd0 : Boxed W0 w.heap.size 22 (.slice none 0 0) := by rw [hW0]; exact heap_alloc_new _ _
  have HW0 := Lib.hid hW0
  have HZ0 := Lib.hid hz0
  have HB0 := Lib.hid hb0
  have HD0 := Lib.hid hd0
  have HQ := Lib.hid hq
  clear hW0 hz0 hb0 hd0 hq
  gi_wp2
  rw [← HW0.out]
  refine range_own rfl (by omega) (gf := gf) (lb := lb) rfl trivial HGF.out (HSeq.out W0 HB0.out)
    (fun W k h => h.elim) KpL.trans (fun B W k o o' _ hk ho => KpL.put hk ho) (fun _ => rfl) (fun _ _ _ _ _ _ _ _ _ => trivial)
    (SqM w) (fun _ _ _ => False) ?io ?ixo ?ip ?ixp ?h0
    (fun x => { tmps := #[.slice none 0 0, .func (.func gf) #[] lb, .pointer (some ⟨w.heap.size, 0, none⟩), undef, .slice none 0 0, .slice x.B x.x.length x.c, .func (.func gf) #[] lb, .slice x.B x.x.length x.c, undef, undef, undef, undef, undef], defers := [] }) ?assign ?body ?done ?stop
  case io => exact fun s X Y h ht => h.below (Turn.below ht (Nat.le_refl _) (fun i e => e.2.elim))
  case ixo => exact fun _ _ _ _ h _ => h
  case ip => exact fun s X k o o' h hk ho hc => h.put o' (by have := HZ0.out; omega) ho hc
  case ixp => exact fun _ _ _ _ _ _ h _ _ _ => h
  case h0 =>
    intro W hb _
    exact SqM.below (W := W0) ⟨none, 0, HD0.out, RowV.nil _ _, HB0.out⟩ hb
  case assign =>
    intro l x W K hK
    dsimp only [encM]
    gi_wp2
    exact hK
  case body =>
    rintro l pre x W ⟨A0, c0, h1, h2, h3⟩ hsz _ ⟨k, hk, hx, hfk, hpre⟩
    rw [HZ0.out] at hsz ⊢
    have hrl : pre.length ≤ 1000000 := by
      rw [hpre]
      have := selM_len f q k
      have := HQ.out
      omega
    have hc := h1.cell
    obtain ⟨V, hV⟩ : ∃ V, V = W.alloc (.cells #[.slice x.B x.x.length x.c] 35) := ⟨_, rfl⟩
    have hbV : Below W.heap.size W V := by rw [hV]; exact (Below.refl _ W).alloc (Nat.le_refl _) _
    have HO := Lib.hid (h2.below hbV)
    have HR := Lib.hid (show Read V (some ⟨W.heap.size, 0, none⟩) 1 1 [.slice x.B x.x.length x.c] from Read.one rfl (by rw [hV]; exact cell_laid _ _ _ 0))
    have HSW := Lib.hid (show w.heap.size + 1 ≤ V.heap.size by have := hbV.size; omega)
    have HL := Lib.hid (fun (A5 : Option Addr) (c5 : Nat) (w4 : World) (ho : w4.ownsRow (w.heap.size + 1) 35 1 (.slice A5 (pre.length + 1) c5) (pre.length + 1) (flatV pre ++ [.slice x.B x.x.length x.c])) (hgr : V.grownBy w4 (blk A0)) => sq_last (B := w.heap.size + 1 + 2) h1 h2 h3 hV ho hgr)
    have HV := Lib.hid hV
    have HRL := Lib.hid hrl
    generalize hrn : pre.length = rn at *
    have HRN := Lib.hid hrn
    generalize hxl : x.x.length = xl at *
    have HXL := Lib.hid hxl
    clear h1 h2 h3 hpre hk hx hfk hrl hbV hV hsz hrn hxl
    gi_wp2_with (gi_at_builtin; rw [← HV.out]; refine gapp_in rfl (.tmp 8) (.tmp 10) appV rfl (w.heap.size + 1) A0 c0 rn (flatV pre) rfl (by have := HO.out; unfold RowV at this; rw [HRN.out] at this; exact this) (some ⟨W.heap.size, 0, none⟩) 1 1 [.slice x.B xl x.c] rfl HR.out (by have := HRL.out; omega) HSW.out ?_; intro A5 c5 w4 ho5 hg5 _; obtain ⟨v4, f4, hX1, hX2, hX3⟩ := HL.out A5 c5 w4 ho5 hg5; have HX := Lib.hid (And.intro hX1 (And.intro hX2 hX3)); clear ho5 hg5 hX1 hX2 hX3)
    exact HX.out
  case done =>
    rintro xs W rfl ⟨A0, c0, h1, h2, h3⟩ hK
    rw [HZ0.out] at hK
    have hc := h1.cell
    have HX := Lib.hid (And.intro h2 h3)
    clear h1 h2 h3
    gi_wp2
    refine ⟨by simp, .inl ⟨_, _, rfl, run_takeDeferred (by rw [HZ0.out]; exact hK), ?_⟩⟩
    refine ⟨_, results_tmp rfl _ _ _, A0, c0, rfl, ?_, ?_⟩
    · exact row_put (HX.out.1.mono (by omega)) _ (by rw [HZ0.out]; exact hK) rfl
    · exact HX.out.2.trans (below_put (by rw [HZ0.out]; omega) HX.out.2.size)
  case stop =>
    rintro _ _ _ _ h _
    exact h.elim

theorem collect_any (gf : FuncId) (lb : Array Value) (f : Nat → Bool) (q : List Pv) (w : World) (hq : q.length ≤ 1000000) (hgf : ∀ args W, (callFunc gf args).run Try.prog W = .ok (.enter gf args) W)
    (hseq : ∀ W0, Below w.heap.size w W0 → SeqOwn Fence.wide 2 Try.prog gf lb encM (fun _ _ => False) (fun _ _ _ => True) (KpL w.heap.size) (NxM f q) (fun xs => xs = selM f q q.length) (fun _ => True) W0) :
    Calls Try.prog 54 #[.func (.func gf) #[] lb] w (GivesP w (selM f q q.length)) := by
  have HA := Lib.hid (appendSeq_any gf lb f q w hq hgf hseq)
  clear hgf hseq hq
  go_enter Try.func54, Try.ntmps54
  go_wp2_with fail
  refine HA.out.mono ?_
  rintro e w2 ⟨A, c, rfl, hO, hB⟩
  have HX := Lib.hid (And.intro hO hB)
  clear hO hB
  go_wp2
  go_ret
  exact ⟨A, c, rfl, HX.out.1, HX.out.2⟩

/-- The vectors whose centroid stands at j, collected. -/
theorem gather_any (A A' : Option Addr) (c c' : Nat) (cs l : List (List Int)) (j : Nat) (w : World) (hl : Vecs .i32 w A c l) (hp : Vec .i64 w A' c' ((partsM cs l).map fun (k : Nat) => (k : Int))) (hmx : l.length ≤ 1000000) :
    ∃ g1 g2 g3, Calls Try.prog 55 #[.slice A l.length c, .slice A' l.length c', .int .i64 (j : Int)] w fun e w1 => e = .returned (.func (.func 70) #[] #[.pointer (some ⟨g1, 0, none⟩), .pointer (some ⟨g2, 0, none⟩), .pointer (some ⟨g3, 0, none⟩)]) ∧ Below w.heap.size w w1 ∧
      Calls Try.prog 54 #[.func (.func 70) #[] #[.pointer (some ⟨g1, 0, none⟩), .pointer (some ⟨g2, 0, none⟩), .pointer (some ⟨g3, 0, none⟩)]] w1 fun e w2 => ∃ A2 c2, e = .returned (.slice A2 (ownM cs l j).length c2) ∧ Vecs .i32 w2 A2 c2 (ownM cs l j) ∧ Below w.heap.size w w2 := by
  refine ⟨w.heap.size, w.heap.size + 1, w.heap.size + 2, (members_any A A' l.length c l.length c' j w).mono ?_⟩
  rintro e w1 ⟨rfl, hw1⟩
  have hb1 : Below w.heap.size w w1 := by rw [hw1]; exact (((Below.refl _ w).alloc (Nat.le_refl _) _).alloc (by simp) _).alloc (by simp; omega) _
  have hz1 : w1.heap.size = w.heap.size + 3 := by rw [hw1]; simp
  obtain ⟨q, q1, q2, _, q4⟩ := (hl.below hb1).placed
  have hql : q.length = l.length := by rw [← vals_length, q1]
  have hpl : (partsM cs l).length = q.length := by rw [hql]; simp [partsM]
  have x3 : w1.cell? ⟨w.heap.size + 2, 0, none⟩ = some (.int .i64 (j : Int)) := by
    rw [hw1]
    have h := cell_laid ((w.alloc (.cells #[.slice A l.length c] 22)).alloc (.cells #[.slice A' l.length c'] 23)) #[.int .i64 (j : Int)] 3 0
    rw [World.size_alloc, World.size_alloc] at h
    exact h
  have x2 : w1.cell? ⟨w.heap.size + 1, 0, none⟩ = some (.slice A' l.length c') := by
    have h := cell_laid (w.alloc (.cells #[.slice A l.length c] 22)) #[.slice A' l.length c'] 23 0
    rw [World.size_alloc] at h
    rw [hw1]
    exact (((Below.refl _ _).alloc (Nat.le_refl _) (.cells #[.int .i64 (j : Int)] 3)).cell (p := ⟨w.heap.size + 1, 0, none⟩) (by simp)).trans h
  have x1 : w1.cell? ⟨w.heap.size, 0, none⟩ = some (.slice A l.length c) := by
    have h := cell_laid w #[.slice A l.length c] 22 0
    rw [hw1]
    exact ((((Below.refl _ (w.alloc (.cells #[.slice A l.length c] 22))).alloc (Nat.le_refl _) (.cells #[.slice A' l.length c'] 23)).alloc (by simp) (.cells #[.int .i64 (j : Int)] 3)).cell (p := ⟨w.heap.size, 0, none⟩) (by simp)).trans h
  refine ⟨rfl, hb1, ?_⟩
  have hseq : ∀ W0, Below w1.heap.size w1 W0 → SeqOwn Fence.wide 2 Try.prog 70 #[.pointer (some ⟨w.heap.size, 0, none⟩), .pointer (some ⟨w.heap.size + 1, 0, none⟩), .pointer (some ⟨w.heap.size + 2, 0, none⟩)] encM (fun _ _ => False) (fun _ _ _ => True) (KpL w1.heap.size) (NxM (fun k => decide ((partsM cs l).getD k 0 = j)) q) (fun xs => xs = selM (fun k => decide ((partsM cs l).getD k 0 = j)) q q.length) (fun _ => True) W0 := by
    intro W0 hW0
    have hc := fun (a : Addr) v (hv : w1.cell? a = some v) => (hW0.cell (p := a) (World.block_lt_of_cell? w1 _ hv)).trans hv
    refine members1_in (A := A) (A' := A') (c := c) (c' := c') j 2 w1.heap.size _ _ _ (by omega) hpl (by omega) (by rw [hql]; exact hc _ _ x1) (by rw [hql]; exact hc _ _ x2) (hc _ _ x3) (by omega) (by omega) (by omega) (fun i x hx => ?_) (fun i hi => ?_)
    · obtain ⟨b, o, h1, h2, h3⟩ := q4 i x hx
      exact ⟨b, o, h1, h2, hc _ _ h3⟩
    · obtain ⟨b, o, h1, h2, h3⟩ := (hp.below hb1).at_ (j := i) (by rw [List.length_map]; omega)
      refine ⟨b, o, h1, h2, ?_⟩
      rw [hc _ _ h3]
      have : i < (partsM cs l).length := by omega
      simp [List.getD, this]
  refine (collect_any 70 _ _ q w1 (by omega) (fun args W => enters_of Try.func70 (by kernel_rfl) rfl args W) hseq).mono ?_
  rintro e w2 ⟨A2, c2, rfl, hr, hb2⟩
  have hs := selM_own cs l q q1 j
  refine ⟨A2, c2, ?_, ?_, hb1.trans (hb2.mono hb1.size)⟩
  · rw [← hs, vals_length]
  · rw [← hs]
    exact hr.vecs (fun p hp => (q2 p (selM_mem _ q _ p hp)).below hb2)
end Go.Proofs.Ytgakfffkadaeeaa
