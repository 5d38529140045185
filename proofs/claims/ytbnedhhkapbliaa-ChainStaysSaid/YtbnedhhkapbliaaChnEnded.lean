/-
  ended: the open version of a chain of the call's own ends.
-/
import Derived.Test.YtbnedhhkapbliaaChnCopied
namespace Go.Proofs.Ytbnedhhkapbliaa
open Go.RowKit Go.Shelf
set_option linter.unusedVariables false
set_option linter.unusedSimpArgs false
set_option maxRecDepth 100000
attribute [local go_sem] Oper.semAt_some

def opn (v : Vr) : Bool := decide (v.f = 0)
/-- All but the last one have an end. -/
def Lasts (q : List Pl) : Prop := ∀ (i : Nat) (p : Pl), q[i]? = some p → i + 1 < q.length → opn p.v = false
theorem lasts_sel {q : List Pl} (h : Lasts q) : ∀ i, i + 1 ≤ q.length → selT opn q i = [] := by
  intro i
  induction i with
  | zero => intro _; rfl
  | succ i ih =>
    intro hi
    obtain ⟨p, hp⟩ : ∃ p, q[i]? = some p := ⟨_, List.getElem?_eq_getElem (by omega)⟩
    rw [sel_no hp (h i p hp (by omega)), ih (by omega)]
theorem lasts_good {q : List Pl} (h : Good (vals q)) : Lasts q := by
  intro i p hp hi
  have hv := vals_at hp
  have h2 := List.pairwise_iff_getElem.1 h.ord i (i + 1) (by rw [vals_length]; omega) (by rw [vals_length]; omega) (by omega)
  have e : (vals q)[i]'(by rw [vals_length]; omega) = p.v := Option.some.inj ((List.getElem?_eq_getElem _).symm.trans hv)
  rw [e] at h2
  unfold opn
  simpa using h2.1
theorem end_set {ts : Int} {q : List Pl} {i : Nat} {p : Pl} (h : Lasts q) (hp : q[i]? = some p) (ho : opn p.v = true) : vals (q.set i ⟨⟨p.v.b, ts, p.v.x⟩, p.B, p.c⟩) = endM ts (vals q) := by
  apply List.ext_getElem?
  intro j
  unfold vals endM
  rw [List.map_map, List.getElem?_map, List.getElem?_map, List.getElem?_set]
  have hil : i < q.length := (List.getElem?_eq_some_iff.1 hp).1
  by_cases hj : i = j
  · subst hj
    rw [if_pos rfl, if_pos hil, hp]
    have : p.v.f = 0 := by unfold opn at ho; simpa using ho
    simp [endV, this]
  · rw [if_neg hj]
    cases hq : q[j]? with
    | none => rfl
    | some r =>
      have hjl : j < q.length := (List.getElem?_eq_some_iff.1 hq).1
      have hil' : i + 1 = q.length := by
        by_cases hh : i + 1 < q.length
        · have := h i p hp hh; rw [ho] at this; cases this
        · omega
      have := h j r hq (by omega)
      have hr : r.v.f ≠ 0 := by unfold opn at this; simpa using this
      simp [endV, hr]
theorem end_no {ts : Int} {q : List Pl} (h : selT opn q q.length = []) : endM ts (vals q) = vals q := by
  have hn := sel_none (Nat.le_refl _) h
  refine end_none fun v hv => ?_
  obtain ⟨j, hj, rfl⟩ := List.getElem_of_mem hv
  have := hn j _ (by rw [vals_length] at hj; exact hj) (List.getElem?_eq_getElem hj)
  unfold opn at this
  simpa using this
theorem OwnC.setF {base g c : Nat} {w : World} {q : List Pl} {i : Nat} {p : Pl} {ts : Int} (h : OwnC base w (some ⟨g, 0, none⟩) c q) (hp : q[i]? = some p) (hts : U64s ts) : OwnC base (w.setCell ⟨g, i * 3 + 1, none⟩ (.int .u64 ts)) (some ⟨g, 0, none⟩) c (q.set i ⟨⟨p.v.b, ts, p.v.x⟩, p.B, p.c⟩) := by
  have hs := h.row.stored (i * 3 + 1) (.int .u64 ts)
  rw [flatC_setF q i p ts hp] at hs
  have hlt := h.low g rfl
  have hmem : ∀ r, r ∈ q.set i ⟨⟨p.v.b, ts, p.v.x⟩, p.B, p.c⟩ → r ∈ q ∨ r = ⟨⟨p.v.b, ts, p.v.x⟩, p.B, p.c⟩ := fun r hr => List.mem_or_eq_of_mem_set hr
  have hne : ∀ (B : Option Addr) (cb : Nat) (xs : List Int), OwnV base w B cb xs → OwnV base (w.setCell ⟨g, i * 3 + 1, none⟩ (.int .u64 ts)) B cb xs := by
    intro B cb xs hB
    refine ⟨row_turn hB.1 (turn_set w g (i * 3 + 1) (.int .u64 ts)) (fun k hk e => ?_), hB.2⟩
    subst e
    rcases h.row.2 with ⟨e', _⟩ | ⟨g', cap', cur', e', _, hh', _⟩
    · injection e' with e1; cases e1
    · injection e' with e1
      injection e1 with e1
      injection e1 with e1
      subst e1
      rcases hB.1.2 with ⟨e, h0⟩ | ⟨g2, cap, cur, e, hg, hh, _⟩
      · rw [e] at hk; cases hk
      · rw [e] at hk
        have : g2 = k := by simpa [Value.ownBlock] using hk
        subst this
        rw [hh] at hh'
        injection hh' with hh'
        injection hh' with _ ht _
        exact absurd ht (by decide)
  refine ⟨by rw [List.length_set]; exact hs.1, fun r hr => ?_, fun r hr => ?_⟩
  · rcases hmem r hr with hr | rfl
    · exact hne _ _ _ (h.el r hr)
    · exact hne _ _ _ (h.el p (List.mem_of_getElem? hp))
  · rcases hmem r hr with hr | rfl
    · exact h.fit r hr
    · exact ⟨(h.fit p (List.mem_of_getElem? hp)).1, hts⟩

/-- What has ended so far. -/
def EnI (base : Nat) (A : Option Addr) (c : Nat) (q : List Pl) (ts : Int) (W0 : World) (pre : List (Nat × Pl)) (W : World) : Prop :=
  ∃ q', OwnC base W A c q' ∧ q'.length = q.length ∧ vals q' = (if pre = [] then vals q else endM ts (vals q)) ∧ (pre = [] → q' = q) ∧ Turn (fun k => blk A = some k) W0 W
theorem EnI.below {base : Nat} {A : Option Addr} {c : Nat} {q : List Pl} {ts : Int} {W0 W W' : World} {pre : List (Nat × Pl)} (h : EnI base A c q ts W0 pre W) (hb : Below W.heap.size W W') : EnI base A c q ts W0 pre W' := by
  obtain ⟨q', h1, h2, h3, h4, h5⟩ := h
  exact ⟨q', h1.below hb, h2, h3, h4, h5.trans (Turn.of_below (S := fun _ => False) hb) (by simp)⟩
theorem EnI.put {base : Nat} {A : Option Addr} {c : Nat} {q : List Pl} {ts : Int} {W0 W : World} {pre : List (Nat × Pl)} (h : EnI base A c q ts W0 pre W) {k : Nat} {o : Obj} (o' : Obj) (hk0 : W0.heap.size ≤ k) (hk : W.heap[k]? = some o) (ho : o.isCells = false) : EnI base A c q ts W0 pre (W.putObj k o') := by
  obtain ⟨q', h1, h2, h3, h4, h5⟩ := h
  exact ⟨q', h1.put o' hk ho, h2, h3, h4, h5.trans (turn_put _ _ _) (fun i hi => .inr (by omega))⟩

set_option maxHeartbeats 4000000 in
theorem ended_any (base : Nat) (A : Option Addr) (c : Nat) (q : List Pl) (ts : Int) (w : World) (h : OwnC base w A c q) (hl : Lasts q) (hts : U64s ts) :
    Calls Try.prog 53 #[.slice A q.length c, .int .u64 ts] w fun e w' => e = .returned (.slice A q.length c) ∧ (∃ q', OwnC base w' A c q' ∧ q'.length = q.length ∧ vals q' = endM ts (vals q)) ∧ Turn (fun k => blk A = some k) w w' := by
  refine (callsIn_wide (n := 3)).1 ?_
  refine callsIn_of_wp_marks Try.func53 rfl trivial ?_ rfl
  simp only [Try.ntmps53, List.size_toArray, List.length_cons, List.length_nil, Nat.reduceAdd, Nat.reduceSub, Array.replicate_succ, Array.replicate_zero, List.push_toArray, List.append_toArray, List.nil_append, List.cons_append]
  obtain ⟨m, hm⟩ : ∃ m, m = q.length := ⟨_, rfl⟩
  rw [← hm]
  obtain ⟨W0, hW0⟩ : ∃ W0, W0 = (((w.alloc (.cells #[.slice A m c] 22)).alloc (.cells #[.int .u64 ts] 26)).alloc (.cells #[.slice A m c] 22)).alloc (.cells #[.func (.func 56) #[] #[]] 66) := ⟨_, rfl⟩
  have hz0 : W0.heap.size = w.heap.size + 4 := by rw [hW0]; simp
  have hb0 : Below w.heap.size w W0 := by rw [hW0]; exact ((((Below.refl _ w).alloc (Nat.le_refl _) _).alloc (by simp) _).alloc (by simp; omega) _).alloc (by simp; omega) _
  have x0 : Boxed W0 w.heap.size 22 (.slice A m c) := by rw [hW0]; exact (((Boxed.new w _ _).alloc _).alloc _).alloc _
  have x1 : Boxed W0 (w.heap.size + 1) 26 (.int .u64 ts) := by
    rw [hW0]
    have h := ((Boxed.new (w.alloc (.cells #[.slice A m c] 22)) 26 (.int .u64 ts)).alloc (.cells #[.slice A m c] 22)).alloc (.cells #[.func (.func 56) #[] #[]] 66)
    rw [World.size_alloc] at h; exact h
  have x2 : Boxed W0 (w.heap.size + 2) 22 (.slice A m c) := by
    rw [hW0]
    have h := (Boxed.new ((w.alloc (.cells #[.slice A m c] 22)).alloc (.cells #[.int .u64 ts] 26)) 22 (.slice A m c)).alloc (.cells #[.func (.func 56) #[] #[]] 66)
    rw [World.size_alloc, World.size_alloc] at h; exact h
  have x3 : Boxed W0 (w.heap.size + 3) 66 (.func (.func 56) #[] #[]) := by
    rw [hW0]
    have h := Boxed.new (((w.alloc (.cells #[.slice A m c] 22)).alloc (.cells #[.int .u64 ts] 26)).alloc (.cells #[.slice A m c] 22)) 66 (.func (.func 56) #[] #[])
    rw [World.size_alloc, World.size_alloc, World.size_alloc] at h; exact h
  have h0 : OwnC base W0 A c q := h.below hb0
  have hlow := h.low
  have HM := Lib.hid hm
  have HL := Lib.hid hl
  have HTS := Lib.hid hts
  have HW0 := Lib.hid hW0
  have HS := Lib.hid (And.intro x0 (And.intro x1 (And.intro h0 (And.intro hb0 hz0))))
  have HLow := Lib.hid hlow
  have hseq := where1_last (w := W0) (w0 := W0) (A := A) (c := c) (q := q) opn 56 #[] 2 (w.heap.size + 2) (w.heap.size + 3) (by omega) (by rw [← hm]; exact x2.cell) x3.cell h0.chn (Below.refl _ _) (fun v W => enters_of Try.func56 (by kernel_rfl) rfl _ W) hl (fun p _ X => isOpen_any p.v.b p.v.f p.B p.v.x.length p.c X)
  have HSeq := Lib.hid hseq
  clear h hl hts hm hW0 x0 x1 x2 x3 h0 hb0 hz0 hlow hseq
  gi_wp2_with (refine ⟨trivial, ?_⟩; gi_at_call 42; refine (callsIn_wide.2 (where_any _ _ _ _ _ ⟨_, _, _, rfl⟩)).mono ?_; rintro e w' ⟨rfl, rfl⟩)
  simp only [World.size_alloc, Nat.add_assoc, Nat.reduceAdd]
  rw [← HW0.out]
  obtain ⟨x0, x1, h0, hb0, hz0⟩ := HS.out
  refine range_own rfl (by omega) (gf := 63) (lb := #[.pointer (some ⟨w.heap.size + 2, 0, none⟩), .pointer (some ⟨w.heap.size + 3, 0, none⟩)]) rfl trivial (enters_of Try.func63 (by kernel_rfl) rfl) HSeq.out
    (fun W k h => h.elim) (fun _ _ => trivial) (fun B W k o o' _ hk ho => trivial) (fun _ => rfl) (fun _ _ _ _ _ _ _ _ _ => trivial)
    (EnI base A c q ts W0) (fun _ _ _ => False) ?io ?ixo ?ip ?ixp ?h0
    (fun x => { tmps := #[.slice A m c, .int .u64 ts, .pointer (some ⟨w.heap.size, 0, none⟩), .pointer (some ⟨w.heap.size + 1, 0, none⟩), .slice none 0 0, .int .i64 x.1, .slice A m c, .func (.func 63) #[] #[.pointer (some ⟨w.heap.size + 2, 0, none⟩), .pointer (some ⟨w.heap.size + 3, 0, none⟩)],
      .int .i64 x.1, .agg #[.int .u64 x.2.v.b, .int .u64 x.2.v.f, .slice x.2.B x.2.v.x.length x.2.c], undef, undef, undef, undef, undef, undef], defers := [] }) ?assign ?body ?done ?stop
  case io => exact fun s X Y h ht => h.below (Turn.below ht (Nat.le_refl _) (fun i e => e.2.elim))
  case ixo => exact fun _ _ _ _ h _ => h
  case ip => exact fun s X k o o' h hk ho hc => h.put o' hk ho hc
  case ixp => exact fun _ _ _ _ _ _ h _ _ _ => h
  case h0 =>
    intro W hb _
    exact EnI.below (W := W0) ⟨q, h0, rfl, rfl, fun _ => rfl, Turn.refl _ _⟩ hb
  case assign =>
    intro l x W K hK
    dsimp only [encV]
    gi_wp2
    exact hK
  case body =>
    rintro l pre ⟨k, p⟩ W ⟨q', h1, h2, h3, h4, h5⟩ hsz _ ⟨hk, hP, hpre⟩
    dsimp only at hk hP hpre ⊢
    have hkl : k < q.length := (List.getElem?_eq_some_iff.1 hk).1
    have hp0 : pre = [] := by rw [hpre]; exact lasts_sel HL.out k (by omega)
    subst hp0
    have hqq := h4 rfl
    subst hqq
    have hA : ∀ i, blk A = some i → i < w.heap.size := fun i hi => (HLow.out i hi).2
    have v0 : Boxed W w.heap.size 22 (.slice A m c) := (h5.block _ x0.lt (fun e => by have := hA _ e; omega)).trans x0
    have v1 : Boxed W (w.heap.size + 1) 26 (.int .u64 ts) := (h5.block _ x1.lt (fun e => by have := hA _ e; omega)).trans x1
    obtain ⟨g, rfl⟩ : ∃ g, A = some ⟨g, 0, none⟩ := by
      rcases h1.row.2 with ⟨e, h0⟩ | ⟨g, _, _, e, _⟩
      · omega
      · injection e with e1; exact ⟨g, e1⟩
    have hc1 : W.cell? ⟨g, k * 3 + 1, none⟩ = some (.int .u64 p.v.f) := by
      rw [h1.row.cellAt (k * 3 + 1) (by omega)]; exact (flatC_get q' k p hk).2.1
    have hf1 := h1.row.frozenAt (k * 3 + 1)
    have hset := h1.setF (ts := ts) hk HTS.out
    have HX := Lib.hid (show KeepsFrom W0.heap.size W (W.setCell ⟨g, k * 3 + 1, none⟩ (.int .u64 ts)) ∧ True ∧ EnI base (some ⟨g, 0, none⟩) c q' ts W0 ([] ++ [(k, p)]) (W.setCell ⟨g, k * 3 + 1, none⟩ (.int .u64 ts)) from
      ⟨(KeepsOthers.setCell _ _ _).from _, trivial, _, hset, List.length_set, by rw [if_neg (by simp)]; exact end_set HL.out hk hP, (fun e => by simp at e), h5.trans (turn_set _ _ _ _) (fun i hi => .inl (by rw [hi]; rfl))⟩)
    have c0 := v0.cell
    have c1 := v1.cell
    have k0 : (0 : Int) ≤ k := by omega
    have km : (k : Int) < m := by have := HM.out; omega
    clear h1 h2 h3 h4 h5 hk hP hpre hA v0 v1 hset hsz
    gi_wp2
    exact HX.out
  case done =>
    rintro xs W rfl ⟨q', h1, h2, h3, h4, h5⟩ hK
    have hA : ∀ i, blk A = some i → i < w.heap.size := fun i hi => (HLow.out i hi).2
    have v0 : Boxed W w.heap.size 22 (.slice A m c) := (h5.block _ x0.lt (fun e => by have := hA _ e; omega)).trans x0
    have c0 := v0.cell
    have hv : vals q' = endM ts (vals q) := by
      rw [h3]
      split
      · rename_i he; exact (end_no he).symm
      · rfl
    have HX := Lib.hid (And.intro h1 (And.intro h2 (And.intro hv ((Turn.of_below (S := fun k => blk A = some k) hb0).trans h5 (fun i hi => .inl hi)))))
    clear h1 h2 h3 h4 h5 hA v0 hv
    gi_wp2
    refine ⟨by simp, .inl ⟨_, _, rfl, run_takeDeferred hK, ?_⟩⟩
    refine ⟨_, results_tmp rfl _ _ _, rfl, ⟨q', HX.out.1.put _ hK rfl, HX.out.2.1.trans HM.out.symm, HX.out.2.2.1⟩, ?_⟩
    exact HX.out.2.2.2.trans (turn_put _ _ _) (fun i hi => .inr (by omega))
  case stop =>
    rintro c pre W _ h _
    exact h.elim

end Go.Proofs.Ytbnedhhkapbliaa
