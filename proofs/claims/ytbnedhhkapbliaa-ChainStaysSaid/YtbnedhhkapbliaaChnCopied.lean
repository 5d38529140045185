/-
  copied: what an iterator tells, in memory of the call's own.
-/
import Derived.Test.YtbnedhhkapbliaaChnSeq2
namespace Go.Proofs.Ytbnedhhkapbliaa
open Go.RowKit Go.Shelf
set_option linter.unusedVariables false
set_option linter.unusedSimpArgs false
set_option maxRecDepth 100000
attribute [local go_sem] Oper.semAt_some

theorem turn_put (W : World) (k : Nat) (o : Obj) : Turn (fun i => i = k) W (W.putObj k o) := ⟨rfl, rfl, rfl, by simp [World.putObj], fun i _ hn => World.putObj_heap_other hn⟩
theorem turn_set (W : World) (g j : Nat) (u : Value) : Turn (fun i => i = g) W (W.setCell ⟨g, j, none⟩ u) := ⟨rfl, rfl, rfl, by simp [World.setCell], fun k _ hk => Below.heap_setCell _ _ _ _ hk⟩
theorem keeps_turn {B0 : Nat} {S : Nat → Prop} {W W' : World} (h : Turn S W W') (hc : ∀ i, S i → ∃ o, W.heap[i]? = some o ∧ o.isCells = true) : KeepsFrom B0 W W' :=
  ⟨h.size, fun k o _ hk ho => (h.block k (lt_of_block hk) (fun e => by obtain ⟨o2, h2, h3⟩ := hc k e; rw [hk] at h2; cases h2; rw [ho] at h3; cases h3)).trans hk⟩
theorem kpd_turn {d B : Nat} {S : Nat → Prop} {W W' : World} (h : Turn S W W') (hS : ∀ i, S i → i = d ∨ B ≤ i) : KpD d B W W' :=
  ⟨h.size, fun k o hk hd ho _ => (h.block k (lt_of_block ho) (fun e => (hS k e).elim hd (fun e => by omega))).trans ho⟩
theorem row_put {w : World} {base : Nat} {e : TypeId} {size : Nat} {v : Value} {n : Nat} {xs : List Value} (h : w.ownsRow base e size v n xs) {k : Nat} {o : Obj} (o' : Obj) (hk : w.heap[k]? = some o) (ho : o.isCells = false) : (w.putObj k o').ownsRow base e size v n xs := by
  rcases h.2 with ⟨e', h0⟩ | ⟨g, cap, cur, e', hg, hh, hnc, hcm, hsz, hcs⟩
  · exact ⟨h.1, .inl ⟨e', h0⟩⟩
  · exact ⟨h.1, .inr ⟨g, cap, cur, e', hg, put_other hk ho hh rfl, hnc, hcm, hsz, hcs⟩⟩
theorem OwnC.put {base : Nat} {w : World} {A : Option Addr} {c : Nat} {q : List Pl} (h : OwnC base w A c q) {k : Nat} {o : Obj} (o' : Obj) (hk : w.heap[k]? = some o) (ho : o.isCells = false) : OwnC base (w.putObj k o') A c q :=
  ⟨row_put h.row o' hk ho, fun p hp => ⟨row_put (h.el p hp).1 o' hk ho, (h.el p hp).2⟩, h.fit⟩
theorem OwnC.isCells {base : Nat} {w : World} {A : Option Addr} {c : Nat} {q : List Pl} (h : OwnC base w A c q) {i : Nat} (hi : blk A = some i) : ∃ o, w.heap[i]? = some o ∧ o.isCells = true := by
  rcases h.row.2 with ⟨e, h0⟩ | ⟨g, cap, cur, e, hg, hh, _⟩
  · injection e with e1; subst e1; cases hi
  · injection e with e1; subst e1
    have : g = i := by simpa [blk] using hi
    subst this
    exact ⟨_, hh, rfl⟩
theorem sel_len (P : Vr → Bool) (q : List Pl) (k : Nat) : (selT P q k).length ≤ k := by
  induction k with
  | zero => simp [selT]
  | succ k ih =>
    simp only [selT, List.length_append]
    split
    · split <;> simp <;> omega
    · simp; omega

/-- What is copied so far. -/
def CpI (w : World) (pre : List (Nat × Pl)) (W : World) : Prop := ∃ A c r, Boxed W w.heap.size 22 (.slice A (List.length r) c) ∧ vals r = pre.map (fun x => x.2.v) ∧ OwnC (w.heap.size + 3) W A c r ∧ Below w.heap.size w W
theorem CpI.below {w W W' : World} {pre : List (Nat × Pl)} (h : CpI w pre W) (hb : Below W.heap.size W W') : CpI w pre W' := by
  obtain ⟨A, c, r, h1, h2, h3, h4⟩ := h
  exact ⟨A, c, r, (hb.block _ h1.lt).trans h1, h2, h3.below hb, h4.trans (hb.mono h4.size)⟩
theorem CpI.put {w W : World} {pre : List (Nat × Pl)} (h : CpI w pre W) {k : Nat} {o : Obj} (o' : Obj) (hk0 : w.heap.size ≤ k) (hk : W.heap[k]? = some o) (ho : o.isCells = false) : CpI w pre (W.putObj k o') := by
  obtain ⟨A, c, r, h1, h2, h3, h4⟩ := h
  exact ⟨A, c, r, put_other hk ho h1 rfl, h2, h3.put o' hk ho, h4.trans (below_put hk0 h4.size)⟩

/-- One more version is copied: up to the append. -/
theorem cp_first {w W0 W w1 : World} {A0 A1 : Option Addr} {c0 c1 g : Nat} {r : List Pl} {p : Pl} (h1 : Boxed W0 w.heap.size 22 (.slice A0 r.length c0)) (h3 : OwnC (w.heap.size + 3) W0 A0 c0 r) (hz : W0.heap.size = g) (ht : Turn (fun i => i = w.heap.size + 2) W0 W)
    (hg : W.heap[g]? = some (.cells #[.int .u64 p.v.b, .int .u64 p.v.f, .slice p.B p.v.x.length p.c] 35 (0, 0))) (hv : OwnV W.heap.size w1 A1 c1 p.v.x) (hb : Below W.heap.size W w1) :
    w1.cell? ⟨g, 2, none⟩ = some (.slice p.B p.v.x.length p.c) ∧ w1.frozen? ⟨g, 2, none⟩ = false ∧
    (w1.setCell ⟨g, 2, none⟩ (.slice A1 p.v.x.length c1)).cell? ⟨g, 0, none⟩ = some (.int .u64 p.v.b) ∧ (w1.setCell ⟨g, 2, none⟩ (.slice A1 p.v.x.length c1)).cell? ⟨g, 1, none⟩ = some (.int .u64 p.v.f) ∧ (w1.setCell ⟨g, 2, none⟩ (.slice A1 p.v.x.length c1)).cell? ⟨g, 2, none⟩ = some (.slice A1 p.v.x.length c1) ∧
    (w1.setCell ⟨g, 2, none⟩ (.slice A1 p.v.x.length c1)).cell? ⟨w.heap.size, 0, none⟩ = some (.slice A0 r.length c0) ∧
    ∀ W3, W3 = ((w1.setCell ⟨g, 2, none⟩ (.slice A1 p.v.x.length c1)).alloc (.cells #[.int .u64 p.v.b, .int .u64 p.v.f, .slice A1 p.v.x.length c1] 35)) →
      Read W3 (some ⟨w1.heap.size, 0, none⟩) 1 3 (flatC [⟨p.v, A1, c1⟩]) ∧ OwnC (w.heap.size + 3) W3 A0 c0 r ∧ OwnV W.heap.size W3 A1 c1 p.v.x ∧ Boxed W3 w.heap.size 22 (.slice A0 r.length c0) ∧ Turn (fun i => i = g) W W3 ∧ W.heap.size ≤ W3.heap.size := by
  have hlt := lt_of_block hg
  have hx := (hb.block g hlt).trans hg
  have hx3 := box_set (B := A1) (n := p.v.x.length) (c := c1) hx
  have t2 := turn_set w1 g 2 (.slice A1 p.v.x.length c1)
  have tW : Turn (fun i => i = g) W (w1.setCell ⟨g, 2, none⟩ (.slice A1 p.v.x.length c1)) := (Turn.of_below (S := fun i => i = g) hb).trans t2 (fun i hi => .inl hi)
  have h1l := h1.lt
  have tW0 : Turn (fun i => i = w.heap.size + 2) W0 (w1.setCell ⟨g, 2, none⟩ (.slice A1 p.v.x.length c1)) := ht.trans tW (fun i hi => .inr (by omega))
  have hd : Boxed (w1.setCell ⟨g, 2, none⟩ (.slice A1 p.v.x.length c1)) w.heap.size 22 (.slice A0 r.length c0) := (tW0.block _ h1.lt (by omega)).trans h1
  refine ⟨(cell_of_row _ _ 2 _ _ _ hx).trans rfl, frozen_of_row _ _ _ _ _ hx, (cell_of_row _ _ 0 _ _ _ hx3).trans rfl, (cell_of_row _ _ 1 _ _ _ hx3).trans rfl, (cell_of_row _ _ 2 _ _ _ hx3).trans rfl, hd.cell, ?_⟩
  rintro W3 rfl
  have hz3 : (w1.setCell ⟨g, 2, none⟩ (.slice A1 p.v.x.length c1)).heap.size = w1.heap.size := by simp [World.setCell]
  refine ⟨?_, h3.turn (tW0.alloc _) (fun i hi _ e => by omega), ?_, hd.alloc _, tW.alloc _, (tW.alloc _).size⟩
  · rw [← hz3]
    have hc := fun i => cell_laid (w1.setCell ⟨g, 2, none⟩ (.slice A1 p.v.x.length c1)) #[.int .u64 p.v.b, .int .u64 p.v.f, .slice A1 p.v.x.length c1] 35 i
    exact Read.one (p := ⟨p.v, A1, c1⟩) (hc 0) (hc 1) (hc 2)
  · exact (hv.turn t2 (fun i hi _ e => by omega)).below ((Below.refl _ _).alloc (Nat.le_refl _) _)

theorem cp_last {w W0 W W3 w4 : World} {A0 A1 A5 : Option Addr} {c0 c1 c5 g : Nat} {r : List Pl} {p : Pl} {pre : List (Nat × Pl)} {k : Nat} (hb0 : Below w.heap.size w W0) (h1 : Boxed W0 w.heap.size 22 (.slice A0 r.length c0)) (h3 : OwnC (w.heap.size + 3) W0 A0 c0 r) (hr : vals r = pre.map (fun x => x.2.v)) (hz : W0.heap.size = g) (hz0 : w.heap.size + 3 ≤ g) (ht : Turn (fun i => i = w.heap.size + 2) W0 W)
    (hg : W.heap[g]? = some (.cells #[.int .u64 p.v.b, .int .u64 p.v.f, .slice p.B p.v.x.length p.c] 35 (0, 0))) (hf : U64s p.v.b ∧ U64s p.v.f)
    (k1 : OwnC (w.heap.size + 3) W3 A0 c0 r) (k2 : OwnV W.heap.size W3 A1 c1 p.v.x) (k3 : Boxed W3 w.heap.size 22 (.slice A0 r.length c0)) (k4 : Turn (fun i => i = g) W W3)
    (ho : w4.ownsRow (w.heap.size + 3) 35 3 (.slice A5 (r.length + 1) c5) (r.length + 1) (flatC r ++ flatC [⟨p.v, A1, c1⟩])) (hgr : W3.grownBy w4 (blk A0)) :
    w4.cell? ⟨w.heap.size, 0, none⟩ = some (.slice A0 r.length c0) ∧ w4.frozen? ⟨w.heap.size, 0, none⟩ = false ∧ KeepsFrom (w.heap.size + 1) W (w4.setCell ⟨w.heap.size, 0, none⟩ (.slice A5 (r.length + 1) c5)) ∧ KpD w.heap.size (w.heap.size + 1 + 2) W (w4.setCell ⟨w.heap.size, 0, none⟩ (.slice A5 (r.length + 1) c5)) ∧ CpI w (pre ++ [(k, p)]) (w4.setCell ⟨w.heap.size, 0, none⟩ (.slice A5 (r.length + 1) c5)) := by
  have h1l := h1.lt
  have hgl := lt_of_block hg
  have hA : ∀ i, blk A0 = some i → w.heap.size + 3 ≤ i ∧ i < g := fun i hi => by have := h3.low i hi; omega
  have t4 : Turn (fun i => blk A0 = some i) W3 w4 := Turn.of_grown hgr (fun i hi => .inl hi)
  have hd4 : Boxed w4 w.heap.size 22 (.slice A0 r.length c0) := (t4.block _ k3.lt (fun e => by have := hA _ e; omega)).trans k3
  have t5 := turn_set w4 w.heap.size 0 (.slice A5 (r.length + 1) c5)
  have tt : Turn (fun i => i = g ∨ blk A0 = some i ∨ i = w.heap.size) W (w4.setCell ⟨w.heap.size, 0, none⟩ (.slice A5 (r.length + 1) c5)) :=
    (k4.mono (S' := fun i => i = g ∨ blk A0 = some i ∨ i = w.heap.size) (fun i hi => .inl hi)).trans ((t4.mono (S' := fun i => blk A0 = some i ∨ i = w.heap.size) (fun i hi => .inl hi)).trans t5 (fun i hi => .inl (.inr hi))) (fun i hi => .inl (.inr hi))
  have hC := k1.snoc (p := ⟨p.v, A1, c1⟩) (k2.mono (by omega)) hf ho hgr
  have hW0 : ∀ i, i < g → i ≠ w.heap.size + 2 → W.heap[i]? = W0.heap[i]? := fun i hi hn => ht.block i (by omega) hn
  refine ⟨hd4.cell, hd4.frozen, keeps_turn tt ?_, kpd_turn tt ?_, A5, c5, r ++ [⟨p.v, A1, c1⟩], ?_, ?_, ?_, ?_⟩
  · rintro i (rfl | hi | rfl)
    · exact ⟨_, hg, rfl⟩
    · obtain ⟨o, h, hc⟩ := h3.isCells hi
      exact ⟨o, (hW0 i (hA i hi).2 (by have := hA i hi; omega)).trans h, hc⟩
    · exact ⟨_, (hW0 _ (by omega) (by omega)).trans h1, rfl⟩
  · rintro i (rfl | hi | rfl)
    · exact .inr (by omega)
    · exact .inr (by have := hA i hi; omega)
    · exact .inl rfl
  · rw [List.length_append]; exact hd4.set _
  · rw [vals_append, hr, List.map_append]; rfl
  · exact hC.turn t5 (fun i hi _ e => by omega)
  · refine hb0.trans (((ht.mono (S' := fun i => i = w.heap.size + 2 ∨ blk A0 = some i ∨ i = w.heap.size) (fun i hi => .inl hi)).trans tt ?_).below hb0.size ?_)
    · rintro i (rfl | hi | rfl)
      · exact .inr (by omega)
      · exact .inl (.inr (.inl hi))
      · exact .inl (.inr (.inr rfl))
    · rintro i (rfl | hi | rfl)
      · omega
      · have := hA i hi; omega
      · omega

set_option maxHeartbeats 4000000 in
theorem copied_any (gf : FuncId) (lb : Array Value) (P : Vr → Bool) (q : List Pl) (w : World) (hs : Small q) (hel : ∀ p ∈ q, Vec .i32 w p.B p.c p.v.x ∧ U64s p.v.b ∧ U64s p.v.f) (hgf : ∀ args W, (callFunc gf args).run Try.prog W = .ok (.enter gf args) W)
    (hseq : ∀ W0, Below w.heap.size w W0 → SeqOwn Fence.wide 2 Try.prog gf lb encV (fun _ _ => False) (fun _ _ _ => True) (KpD w.heap.size) (NxW P q) (fun xs => xs = selT P q q.length) (fun _ => True) W0) :
    Calls Try.prog 47 #[.func (.func gf) #[] lb] w (GivesC w ((vals q).filter P)) := by
  refine (callsIn_wide (n := 3)).1 ?_
  refine callsIn_of_wp_marks Try.func47 rfl trivial ?_ rfl
  simp only [Try.ntmps47, List.size_toArray, List.length_cons, List.length_nil, Nat.reduceAdd, Nat.reduceSub, Array.replicate_succ, Array.replicate_zero, List.push_toArray, List.append_toArray, List.nil_append, List.cons_append]
  have HSm := Lib.hid hs
  have HEl := Lib.hid hel
  have HGF := Lib.hid hgf
  have HSeq := Lib.hid hseq
  clear hs hel hgf hseq
  obtain ⟨W0, hW0⟩ : ∃ W0, W0 = w.alloc (.cells #[.slice none 0 0] 22) := ⟨_, rfl⟩
  have hz0 : W0.heap.size = w.heap.size + 1 := by rw [hW0]; simp
  have hb0 : Below w.heap.size w W0 := by rw [hW0]; exact (Below.refl _ w).alloc (Nat.le_refl _) _
  have hd0 : Boxed W0 w.heap.size 22 (.slice none 0 0) := by rw [hW0]; exact heap_alloc_new _ _
  have HW0 := Lib.hid hW0
  have HZ0 := Lib.hid hz0
  have HB0 := Lib.hid hb0
  have HD0 := Lib.hid hd0
  clear hW0 hz0 hb0 hd0
  gi_wp2
  rw [← HW0.out]
  refine range_box2 rfl (by omega) (gf := gf) (lb := lb) rfl trivial HGF.out (HSeq.out W0 HB0.out)
    (fun W k h => h.elim) KpD.trans (fun B W k o o' _ hk ho => KpD.put hk ho) (fun _ => rfl) (fun x => .cells #[.int .u64 x.2.v.b, .int .u64 x.2.v.f, .slice x.2.B x.2.v.x.length x.2.c] 35) (fun _ => rfl) (fun B W o => ⟨((Below.refl _ W).alloc (Nat.le_refl _) o).size, fun i o2 _ _ hi _ => (Below.heap_alloc W o i (lt_of_block hi)).trans hi⟩) (fun _ _ _ _ _ => trivial) (fun _ _ _ _ _ _ _ _ _ => trivial)
    (CpI w) (fun _ _ _ => False) ?io ?ixo ?ip ?ixp ?h0
    (fun x g => { tmps := #[.func (.func gf) #[] lb, undef, .slice none 0 0, .pointer (some ⟨w.heap.size, 0, none⟩), undef, .pointer (some ⟨g, 0, none⟩), .func (.func gf) #[] lb, .int .i64 x.1, .agg #[.int .u64 x.2.v.b, .int .u64 x.2.v.f, .slice x.2.B x.2.v.x.length x.2.c],
      undef, undef, undef, undef, undef, undef, undef, undef, undef], defers := [] }) ?assign ?body ?done ?stop
  case io => exact fun s X Y h ht => h.below (Turn.below ht (Nat.le_refl _) (fun i e => e.2.elim))
  case ixo => exact fun _ _ _ _ h _ => h
  case ip => exact fun s X k o o' h hk ho hc => h.put o' (by have := HZ0.out; omega) ho hc
  case ixp => exact fun _ _ _ _ _ _ h _ _ _ => h
  case h0 =>
    intro W hb _
    exact CpI.below (W := W0) ⟨none, 0, [], HD0.out, rfl, OwnC.nil _ _, HB0.out⟩ hb
  case assign =>
    intro l x W K hK
    dsimp only [encV]
    gi_wp2
    exact hK
  case body =>
    rintro l pre ⟨k, p⟩ g W V o o' ⟨A0, c0, r, h1, h2, h3, h4⟩ hzg hWV hlo hoc hsz hgg hg _ ⟨hk, hP, hpre⟩
    rw [HZ0.out] at hWV hlo hsz hgg ⊢
    dsimp only at hk hP hpre hWV hlo hg ⊢
    have hkl : k < q.length := (List.getElem?_eq_some_iff.1 hk).1
    have hpm := List.mem_of_getElem? hk
    obtain ⟨hv, hf⟩ := HEl.out p hpm
    have hpl := HSm.out.dims p hpm
    have hrl : r.length ≤ 100000 := by
      have e : r.length = pre.length := by have := congrArg List.length h2; simpa [vals] using this
      rw [hpre] at e
      have := sel_len P q k
      have := HSm.out.few
      omega
    have hb1 : Below V.heap.size V (V.alloc (.cells #[.int .u64 p.v.b, .int .u64 p.v.f, .slice p.B p.v.x.length p.c] 35)) := ver_alloc _ _ _ _ _ _
    have hd1 := h1.lt
    have ht : Turn (fun i => i = w.heap.size + 2) V W := by
      rw [hWV]
      exact (Turn.of_below (S := fun i => i = w.heap.size + 2) hb1).trans (turn_put _ _ _) (fun i hi => .inl hi)
    have hbW : Below w.heap.size w W := h4.trans (ht.below (by omega) (fun i e => by omega))
    have HC := Lib.hid (clone_any p.B p.c p.v.x W (hv.below hbW) (by omega))
    have HFst := Lib.hid (fun (A1 : Option Addr) (c1 : Nat) (w1 : World) (hv1 : OwnV W.heap.size w1 A1 c1 p.v.x) (hb : Below W.heap.size W w1) => cp_first (w := w) h1 h3 hzg ht hg hv1 hb)
    have HLst := Lib.hid (fun (A1 A5 : Option Addr) (c1 c5 : Nat) (W3 w4 : World) (k1 : OwnC (w.heap.size + 3) W3 A0 c0 r) (k2 : OwnV W.heap.size W3 A1 c1 p.v.x) (k3 : Boxed W3 w.heap.size 22 (.slice A0 r.length c0)) (k4 : Turn (fun i => i = g) W W3)
      (ho : w4.ownsRow (w.heap.size + 3) 35 3 (.slice A5 (r.length + 1) c5) (r.length + 1) (flatC r ++ flatC [⟨p.v, A1, c1⟩])) (hgr : W3.grownBy w4 (blk A0)) => cp_last (k := k) h4 h1 h3 h2 hzg hgg ht hg hf k1 k2 k3 k4 ho hgr)
    have g0 := (cell_of_row _ _ 0 _ _ _ hg).trans rfl
    have g1 := (cell_of_row _ _ 1 _ _ _ hg).trans rfl
    have g2 := (cell_of_row _ _ 2 _ _ _ hg).trans rfl
    have HRL := Lib.hid hrl
    have HSW := Lib.hid (show w.heap.size + 3 ≤ W.heap.size by have := lt_of_block hg; omega)
    generalize hrn : r.length = rn at *
    have HRN := Lib.hid hrn
    clear h1 h2 h3 h4 hzg hWV hlo hoc hsz hg hk hP hpre hkl hpm hv hf hpl hrl hb1 hd1 ht hbW hrn
    gi_wp2_with (first
      | (refine ⟨trivial, ?_⟩; gi_at_call 54; refine (callsIn_wide.2 HC.out).mono ?_; rintro e w1 ⟨A1, c1, rfl, hv1, hb2⟩; obtain ⟨y2, k2, z0, z1, z2, zd, hW3⟩ := HFst.out A1 c1 w1 hv1 hb2; obtain ⟨W3, hW3e⟩ : ∃ W3, W3 = (w1.setCell ⟨g, 2, none⟩ (.slice A1 p.v.x.length c1)).alloc (.cells #[.int .u64 p.v.b, .int .u64 p.v.f, .slice A1 p.v.x.length c1] 35) := ⟨_, rfl⟩; have HW3 := Lib.hid (hW3 W3 hW3e); have HW3e := Lib.hid hW3e; clear hv1 hb2 hW3 hW3e)
      | (gi_at_builtin; rw [← HW3e.out]; refine gapp_in rfl (.tmp 13) (.tmp 15) appV rfl (w.heap.size + 3) A0 c0 rn (flatC r) rfl (by have := HW3.out.2.1.row; rw [HRN.out] at this; exact this) (some ⟨w1.heap.size, 0, none⟩) 1 1 (flatC [⟨p.v, A1, c1⟩]) rfl HW3.out.1 (by have := HRL.out; omega) (Nat.le_trans HSW.out HW3.out.2.2.2.2.2) ?_; intro A5 c5 w4 ho5 hg5 _; obtain ⟨v4, f4, hX1, hX2, hX3⟩ := HLst.out A1 A5 c1 c5 W3 w4 HW3.out.2.1 HW3.out.2.2.1 HW3.out.2.2.2.1 HW3.out.2.2.2.2.1 ho5 hg5; have HX := Lib.hid (And.intro hX1 (And.intro hX2 hX3)); clear ho5 hg5 hX1 hX2 hX3))
    exact HX.out
  case done =>
    rintro xs W rfl ⟨A0, c0, r, h1, h2, h3, h4⟩ hK
    rw [HZ0.out] at hK
    have hc := h1.cell
    have HX := Lib.hid (And.intro h2 (And.intro h3 h4))
    have HV := Lib.hid (sel_all P q)
    clear h1 h2 h3 h4
    gi_wp2
    refine ⟨by simp, .inl ⟨_, _, rfl, run_takeDeferred (by rw [HZ0.out]; exact hK), ?_⟩⟩
    refine ⟨_, results_tmp rfl _ _ _, A0, c0, r, rfl, ?_, ?_, ?_⟩
    · rw [HX.out.1]; exact HV.out
    · exact (HX.out.2.1.mono (by omega)).put _ (by rw [HZ0.out]; exact hK) rfl
    · exact HX.out.2.2.trans (below_put (by rw [HZ0.out]; omega) HX.out.2.2.size)
  case stop =>
    rintro c pre W _ h _
    exact h.elim

end Go.Proofs.Ytbnedhhkapbliaa
