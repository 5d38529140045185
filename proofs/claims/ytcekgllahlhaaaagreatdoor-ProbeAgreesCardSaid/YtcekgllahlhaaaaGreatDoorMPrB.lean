/-
  PrbBel, PrbRows, PrbRows2, PrbWake, PrbLaw.
-/
import Derived.Test.YtcekgllahlhaaaaGreatDoorMPrA
import Derived.Maps.RangeWalk
import Derived.Maps.OwnSet
import Derived.Maps.Ext
import Derived.Maps.OwnIn
import Derived.Deep.RegionHeld3
import Derived.Deep.Cut
namespace Go.Proofs.YtcekgllahlhaaaaGreatDoor
open Go.RowKit Go.Shelf Go.Maps
set_option linter.unusedVariables false
set_option linter.unusedSimpArgs false
set_option maxRecDepth 100000
attribute [local go_sem] Oper.semAt_some

abbrev kl (k : Int) : Lit := .int .i64 k
abbrev I64 (k : Int) : Prop := (Lit.int .i64 k).wf = true
theorem keyed : Keyed Tryz.prog 3 := int_keyed Tryz.underlying3
theorem keyAt {k : Int} (h : I64 k) : keyOf Tryz.prog 3 (.int .i64 k) = some (kl k) := keyOf_int_mk Tryz.underlying3 h
theorem zeroUnit (w : World) : (zeroValue 120).run Tryz.prog w = .ok (.agg #[]) w := by kernel_rfl
/-- The keys of D are these. -/
def SetD (D : DataW Value) (ks : List Int) : Prop := ∀ k, I64 k → has D (kl k) = decide (k ∈ ks)
/-- The map b has these keys. -/
def MapD (w : World) (b n : Nat) (ks : List Int) : Prop := ∃ D : DataW Value, w.ownsMap Tryz.prog 3 unitElem b n D ∧ SetD D ks
theorem MapD.lt {w : World} {b n : Nat} {ks : List Int} (h : MapD w b n ks) : b < w.heap.size := by obtain ⟨D, h, _⟩ := h; exact h.lt
theorem MapD.same {w w' : World} {b n : Nat} {ks : List Int} (h : MapD w b n ks) (hb : w'.heap[b]? = w.heap[b]?) : MapD w' b n ks := by
  obtain ⟨D, ⟨es, clock, h1, h2⟩, ht⟩ := h
  exact ⟨D, ⟨es, clock, hb.trans h1, h2⟩, ht⟩
theorem MapD.made (w : World) : MapD (w.alloc (.map #[] 0)) w.heap.size 0 [] := ⟨_, World.ownsMap_made w _ _ _, fun k _ => by simp [has_eq]⟩
theorem setD_put {D : DataW Value} {ks : List Int} (hm : IsMap D) (h : SetD D ks) {k : Int} (hk : I64 k) (d : DataW Value) : SetD (D.put (kl k) d) (ks ++ [k]) := by
  intro j hj
  by_cases e : j = k
  · subst e; rw [has_put_same hm (k := kl j) trivial]; simp
  · rw [has_put_other (by simpa using e), h j hj]; simp [e]

theorem owns_same {w w' : World} {b n : Nat} {D : DataW Value} (h : w.ownsMap Tryz.prog 3 unitElem b n D) (hb : w'.heap[b]? = w.heap[b]?) : w'.ownsMap Tryz.prog 3 unitElem b n D := by
  obtain ⟨es, clock, h1, h2⟩ := h
  exact ⟨es, clock, hb.trans h1, h2⟩
theorem below_map {w w' : World} {b B : Nat} (h : w.mapTurned w' b) (hb : B ≤ b) (hB : B ≤ w.heap.size) : Below B w w' :=
  (Turn.of_grown (S := fun i => i = b) h.grown (fun i hi => .inl (by injection hi with hi; exact hi.symm))).below hB (fun i hi => by omega)


def inQ (C : List (List Int)) (S : List Nat) (x : List Int) : Bool := decide (nearM C x ∈ S)
def belL (C : List (List Int)) (S : List Nat) (l : List Rv) : List Rv := l.filter fun p => inQ C S p.2
def belE (C : List (List Int)) (l : List Rv) : Int := if (l.all fun p => decide (p.2.length = dimC C)) = true then 0 else 151
theorem near_dim {C : List (List Int)} {x : List Int} (h0 : 0 < C.length) (hC : ∀ y ∈ C, right y = true ∧ y.length = dimC C) (hx : right x = true) :
    nearE C x = (if x.length = dimC C then 0 else 151) ∧ (x.length = dimC C → nearN C x = nearM C x) := by
  have hc : checkM x = 0 := by rw [check_right, if_pos hx]
  have he : nearE C x = (if x.length = dimC C then 0 else 151) := by
    unfold nearE
    rw [if_neg (by omega), if_neg (by simp [hc])]
    by_cases h : x.length = dimC C
    · rw [if_pos h]
      unfold refuseM
      rw [if_pos, if_pos]
      · rw [List.all_eq_true]; intro y hy; have := (hC y hy).2; simp; omega
      · rw [List.all_eq_true]; intro y hy; exact (hC y hy).1
    · rw [if_neg h]
      unfold refuseM
      rw [if_pos, if_neg]
      · rw [List.all_eq_true]
        intro hh
        obtain ⟨y, hy⟩ := List.exists_mem_of_length_pos h0
        have h1 := hh y hy
        have h2 := (hC y hy).2
        simp at h1
        omega
      · rw [List.all_eq_true]; intro y hy; exact (hC y hy).1
  refine ⟨he, fun h => ?_⟩
  unfold nearN
  rw [he, if_pos h, if_pos rfl]

/-- Rows that are told; the error. -/
def GivesRw (w : World) (L : List Rv) (E : Int) (e : Ending) (w' : World) : Prop := ∃ A c r, e = .returned (.tuple #[.slice A (List.length r) c, .int .i64 E]) ∧ rvs r = L ∧ Rws w' A c r ∧ Below w.heap.size w w'
def selR (C : List (List Int)) (S : List Nat) (q : List Pr) (k : Nat) : List Pr := (q.take k).filter fun p => inQ C S p.x
theorem selR_yes {C : List (List Int)} {S : List Nat} {q : List Pr} {k : Nat} {p : Pr} (h : q[k]? = some p) (hp : inQ C S p.x = true) : selR C S q (k + 1) = selR C S q k ++ [p] := by
  unfold selR; rw [List.take_add_one, h, List.filter_append]; simp [hp]
theorem selR_no {C : List (List Int)} {S : List Nat} {q : List Pr} {k : Nat} {p : Pr} (h : q[k]? = some p) (hp : inQ C S p.x = false) : selR C S q (k + 1) = selR C S q k := by
  unfold selR; rw [List.take_add_one, h, List.filter_append]; simp [hp]
theorem selR_rvs (C : List (List Int)) (S : List Nat) (q : List Pr) : rvs (selR C S q q.length) = belL C S (rvs q) := by
  unfold selR belL rvs
  rw [List.take_length, List.filter_map]
  rfl
theorem selR_len (C : List (List Int)) (S : List Nat) (q : List Pr) (k : Nat) : (selR C S q k).length ≤ k := by
  unfold selR; exact Nat.le_trans (List.length_filter_le _ _) (by rw [List.length_take]; omega)
theorem bel_no {C : List (List Int)} {l : List Rv} {k : Nat} {p : Rv} (h : l[k]? = some p) (hp : p.2.length ≠ dimC C) : belE C l = 151 := by
  unfold belE
  rw [if_neg]
  rw [List.all_eq_true]
  intro hh
  have := hh p (List.mem_of_getElem? h)
  simp at this
  exact hp this
theorem bel_yes {C : List (List Int)} {l : List Rv} (h : ∀ j p, j < l.length → l[j]? = some p → p.2.length = dimC C) : belE C l = 0 := by
  unfold belE
  rw [if_pos]
  rw [List.all_eq_true]
  intro p hp
  obtain ⟨j, hj, e⟩ := List.getElem_of_mem hp
  simp [h j p hj (by rw [List.getElem?_eq_getElem hj, e])]

theorem keeps_map {D : DataW Value} {W w6 : World} {b k B0 : Nat} (h : W.mapTurned w6 b) (hb : b < B0) : KeepsFrom B0 W w6 :=
  have t : Turn (fun i => i = b) W w6 := Turn.of_grown (S := fun i => i = b) h.grown (fun i hi => .inl (by injection hi with hi; exact hi.symm))
  ⟨t.size, fun k o hk0 hk _ => (t.block k (lt_of_block hk) (by omega)).trans hk⟩
theorem kpl_map {D : DataW Value} {W w6 : World} {b n lo B : Nat} (h : W.mapTurned w6 b) (hm : W.ownsMap Tryz.prog 3 unitElem b n D) : KpL lo B W w6 := by
  have t : Turn (fun i => i = b) W w6 := Turn.of_grown (S := fun i => i = b) h.grown (fun i hi => .inl (by injection hi with hi; exact hi.symm))
  refine ⟨t.size, fun k o _ hk hc => ?_⟩
  by_cases e : k = b
  · subst e
    obtain ⟨es, clock, h1, _⟩ := hm
    rw [h1] at hk
    injection hk with hk
    subst hk
    cases hc
  · exact (t.block k (lt_of_block hk) e).trans hk
/-- The map while the places are told. -/
def BmI (W3 : World) (bm : Nat) (pre : List Nat) (W : World) : Prop := MapD W bm pre.length (pre.map fun (k : Nat) => (k : Int)) ∧ Turn (fun i => i = bm) W3 W

set_option maxHeartbeats 8000000 in
theorem belonging_any {w : World} {base : Nat} (Av : Option Addr) (nv cv : Nat) (kq ts N : Int) (A : Option Addr) (c : Nat) (C : List (List Int)) (B : Option Addr) (d : Nat) (L : List Nat) (Ar : Option Addr) (cr : Nat) (q : List Pr)
    (hc : Vecs .i32 w A c C) (ho : OwnS base w B d L) (hL : L.length = C.length) (h0 : 0 < C.length) (h6 : C.length ≤ 6) (hC : ∀ y ∈ C, right y = true ∧ y.length = dimC C) (hLb : ∀ k ∈ L, k < 6) (hN : nB N = true) (hr : Rws w Ar cr q) (hrr : rightR (rvs q) = true) (hq : q.length ≤ 100000) :
    Calls Tryz.prog 28 #[sv Av nv cv kq ts N A C.length c B L.length d, .slice Ar q.length cr] w
      (GivesRw w (if belE C (rvs q) = 0 then belL C (L.take (min N.toNat L.length)) (rvs q) else []) (belE C (rvs q))) := by
  obtain ⟨n, hn⟩ : ∃ n, n = C.length := ⟨_, rfl⟩
  obtain ⟨m, hm⟩ : ∃ m, m = L.length := ⟨_, rfl⟩
  obtain ⟨nq, hnq⟩ : ∃ m, m = q.length := ⟨_, rfl⟩
  obtain ⟨g, hg⟩ : ∃ g, g = w.heap.size := ⟨_, rfl⟩
  obtain ⟨W0, hW0⟩ : ∃ W, W = w.alloc (.cells #[.slice Av nv cv, .int .i64 kq, .int .u64 ts, .int .i64 N, .slice A n c, .slice B m d] 76) := ⟨_, rfl⟩
  obtain ⟨W1, hW1⟩ : ∃ W, W = W0.alloc (.map #[] 0) := ⟨_, rfl⟩
  obtain ⟨W2, hW2⟩ : ∃ W, W = W1.alloc (.cells #[.map (some (g + 1))] 119) := ⟨_, rfl⟩
  obtain ⟨W3, hW3⟩ : ∃ W, W = W2.alloc (.cells #[.slice Av nv cv, .int .i64 kq, .int .u64 ts, .int .i64 N, .slice A n c, .slice B m d] 76) := ⟨_, rfl⟩
  have z0 : W0.heap.size = g + 1 := by rw [hW0, hg]; simp
  have z1 : W1.heap.size = g + 2 := by rw [hW1]; simp [z0]
  have z2 : W2.heap.size = g + 3 := by rw [hW2]; simp [z1]
  have z3 : W3.heap.size = g + 4 := by rw [hW3]; simp [z2]
  have b0 : Below w.heap.size w W0 := by rw [hW0]; exact bn1 _ _
  have b1 : Below W0.heap.size W0 W1 := by rw [hW1]; exact bn1 _ _
  have b2 : Below W1.heap.size W1 W2 := by rw [hW2]; exact bn1 _ _
  have b3 : Below W2.heap.size W2 W3 := by rw [hW3]; exact bn1 _ _
  have s0 : SBox W0 g Av nv cv kq ts N A n c B m d := by rw [hW0, hg]; exact SBox.of (heap_alloc_new _ _)
  have c2 : W2.cell? ⟨g + 2, 0, none⟩ = some (.map (some (g + 1))) := by rw [hW2]; exact cell_at _ _ _ 0 _ z1.symm
  have m1 : MapD W1 (g + 1) 0 [] := by rw [hW1, ← z0]; exact MapD.made W0
  have s3 : SBox W3 (g + 3) Av nv cv kq ts N A n c B m d := by rw [hW3, ← z2]; exact SBox.of (heap_alloc_new _ _)
  have hb13 : Below W1.heap.size W1 W3 := b2.trans (b3.mono b2.size)
  have hb03 : Below W0.heap.size W0 W3 := b1.trans (hb13.mono b1.size)
  have hb3 : Below w.heap.size w W3 := b0.trans (hb03.mono b0.size)
  have m3 : MapD W3 (g + 1) 0 [] := m1.same (hb13.block _ (by omega))
  have s03 : SBox W3 g Av nv cv kq ts N A n c B m d := s0.below hb03 (by omega)
  have c3 : W3.cell? ⟨g + 2, 0, none⟩ = some (.map (some (g + 1))) := (b3.cell (p := ⟨g + 2, 0, none⟩) (by show g + 2 < _; omega)).trans c2
  have ho3 : OwnS base W3 B d L := ho.turn (Turn.of_below (S := fun _ => False) hb3) (fun _ _ _ e => e)
  have HSeq := Lib.hid (fun (X : World) (hX : Below W3.heap.size W3 X) => asked_seq (by rw [← hm]; exact s3) ho3 (by omega) hN X hX)
  have HAs := Lib.hid (asked_fn #[] W2 (.slice Av nv cv) (.int .i64 kq) (.int .u64 ts) (.int .i64 N) (.slice A n c) (.slice B m d))
  rw [← hm] at HSeq
  rw [← hW3, z2] at HAs
  have HNd := Lib.hid (fun (x : List Int) (hx : right x = true) => near_dim h0 hC hx)
  have HNe := Lib.hid (fun (X : World) (hX : Below w.heap.size w X) (Bx : Option Addr) (cb : Nat) (x : List Int) (hx : Vec .i32 X Bx cb x) => nearest_any A Bx c cb C x X (hc.below hX) hx)
  rw [← hn] at HNe
  have HRw := Lib.hid (fun (X : World) (hX : Below w.heap.size w X) => hr.below hX)
  have HRr := Lib.hid (fun (k : Nat) (p : Pr) (hp : q[k]? = some p) => show right p.x = true from by
    unfold rightR at hrr
    rw [List.all_eq_true] at hrr
    exact hrr (p.i, p.x) (List.mem_of_getElem? (rvs_at hp)))
  have HB3 := Lib.hid hb3
  have HM3 := Lib.hid m3
  have HZ := Lib.hid (And.intro z0 (And.intro z1 (And.intro z2 z3)))
  have HWs := Lib.hid (And.intro hW0 (And.intro hW1 hW2))
  have HG := Lib.hid hg
  have HLb := Lib.hid hLb
  have HC00 := Lib.hid h0
  have HC06 := Lib.hid h6
  have hm6 : m ≤ 6 := by omega
  rw [← hn, ← hm, ← hnq]
  have HNq := Lib.hid hnq
  rw [← hnq] at hq
  obtain ⟨S, hS⟩ : ∃ S, S = L.take (min N.toNat m) := ⟨_, rfl⟩
  rw [← hS] at HSeq ⊢
  have HSm := Lib.hid hS
  obtain ⟨RL, hRL⟩ : ∃ RL, RL = if belE C (rvs q) = 0 then belL C S (rvs q) else [] := ⟨_, rfl⟩
  obtain ⟨E, hE⟩ : ∃ E, E = belE C (rvs q) := ⟨_, rfl⟩
  have HE1 := Lib.hid (fun (k : Nat) (p : Pr) (hp : q[k]? = some p) (hx : p.x.length ≠ dimC C) => show E = 151 ∧ RL = [] from by
    have h := bel_no (rvs_at hp) hx
    exact ⟨by rw [hE, h], by rw [hRL, h]; rfl⟩)
  have HE0 := Lib.hid (fun (hh : ∀ j p, j < q.length → q[j]? = some p → p.x.length = dimC C) => show E = 0 ∧ RL = rvs (selR C S q q.length) from by
    have h : belE C (rvs q) = 0 := bel_yes (fun j p hj hp => by
      rw [rvs_length] at hj
      have hq := List.getElem?_eq_getElem hj
      have := rvs_at hq
      rw [this] at hp
      injection hp with hp
      rw [← hp]
      exact hh j _ hj hq)
    exact ⟨by rw [hE, h], by rw [hRL, h, if_pos rfl, selR_rvs]⟩)
  rw [← hE] at hRL ⊢
  rw [← hRL]
  obtain ⟨t0, t1, t2, t3, t4, t5⟩ := s0
  clear hn hm hnq hg hW0 hW1 hW2 hW3 z0 z1 z2 z3 b0 b1 b2 b3 m1 s3 hb13 hb03 hb3 m3 ho3 hc ho hL h0 h6 hC hLb hN hr hrr hS hRL hE
  unfold sv
  refine (callsIn_wide (n := 3)).1 ?_
  refine callsIn_of_wp_marks Tryz.func28 rfl trivial ?_ rfl
  simp only [Tryz.ntmps28, List.size_toArray, List.length_cons, List.length_nil, Nat.reduceAdd, Nat.reduceSub, Array.replicate_succ, Array.replicate_zero, List.push_toArray, List.append_toArray, List.nil_append, List.cons_append]
  have hmm := @run_makeMap Tryz.prog
  gi_wp2
  clear hmm
  rw [show w.heap.size + 1 + 1 = g + 2 by rw [HG.out], show w.heap.size + 1 = g + 1 by rw [HG.out], ← HWs.out.1, ← HWs.out.2.1, ← HWs.out.2.2, ← HG.out]
  refine ⟨trivial, (callsIn_wide.2 HAs.out).mono ?_⟩
  rintro e w3 ⟨rfl, rfl⟩
  gi_wp2
  have HC3 := Lib.hid (And.intro c3 s03)
  have HZ3 := Lib.hid HZ.out.2.2.2
  clear t0 t1 t2 t3 t4 t5 c3 s03 c2
  refine range_own rfl (by omega) (gf := 66) (lb := #[.pointer (some ⟨g + 3, 0, none⟩)]) rfl trivial (fun args W => enters_of Tryz.func66 (by kernel_rfl) rfl args W) (HSeq.out w3 (Below.refl _ _))
    (fun W k h => h.elim) KpL.trans (fun B W k o o' _ hk ho => KpL.put hk ho) (fun _ => rfl) (fun _ _ _ _ _ _ _ _ _ => trivial)
    (BmI w3 (g + 1)) (fun _ _ _ => False) ?io ?ixo ?ip ?ixp ?h0
    (fun x => { tmps := #[.agg #[.slice Av nv cv, .int .i64 kq, .int .u64 ts, .int .i64 N, .slice A n c, .slice B m d], .slice Ar nq cr, .pointer (some ⟨g, 0, none⟩), undef, .slice none 0 0, .int .i64 0, .pointer (some ⟨g + 2, 0, none⟩), .int .i64 (x : Int), undef, undef, undef, undef, undef, undef, undef, .map (some (g + 1)), .agg #[.slice Av nv cv, .int .i64 kq, .int .u64 ts, .int .i64 N, .slice A n c, .slice B m d], .func (.func 66) #[] #[.pointer (some ⟨g + 3, 0, none⟩)], .int .i64 (x : Int), undef, undef, undef, undef, undef, undef, undef, undef, undef, undef, undef, undef, undef, undef, undef, undef, undef, undef, undef, undef, undef, undef, undef, undef, undef, undef, undef, undef, undef, undef, undef, undef, undef], defers := [] }) ?assign ?body ?done ?stop
  case io => exact fun s X Y h ht => ⟨h.1.same (ht.block _ h.1.lt (by have := HZ3.out; exact fun e => e.2.elim)), h.2.trans (Turn.mono ht (fun i e => e.2.elim)) (fun i hi => .inl hi)⟩
  case ixo => exact fun _ _ _ _ h _ => h
  case ip => exact fun s X k o o' h hk0 hk hc => ⟨h.1.same (World.putObj_heap_other (by have := HZ3.out; omega)), h.2.trans (turn_put X k o') (fun i hi => .inr (by have := HZ3.out; omega))⟩
  case ixp => exact fun _ _ _ _ _ _ h _ _ _ => h
  case h0 => exact fun W hb _ => ⟨HM3.out.same (hb.block _ HM3.out.lt), Turn.of_below hb⟩
  case assign =>
    intro l x W K hK
    dsimp only [encQ]
    gi_wp2
    exact hK
  case body =>
    rintro l pre x W ⟨hmp, htn⟩ hsz _ ⟨k, hk, hx, hpre⟩
    obtain ⟨D, hown, hset⟩ := hmp
    have hxl := HLb.out x (List.mem_of_getElem? hx)
    have hpl : pre.length ≤ 6 := by rw [hpre, List.length_take]; omega
    have hXI : I64 (x : Int) := by show (Lit.int .i64 (x : Int)).wf = true; simp [Lit.wf, IntKind.min, IntKind.max, IntKind.signed, IntKind.bits]; omega
    have hk9 : pre.length < maxLen := by unfold maxLen; omega
    have hcm : W.cell? ⟨g + 2, 0, none⟩ = some (.map (some (g + 1))) := (World.cell?_of_block (a := ⟨g + 2, 0, none⟩) (htn.block _ (by have := HZ3.out; show g + 2 < _; omega) (by show g + 2 ≠ g + 1; omega))).trans HC3.out.1
    have HSet := Lib.hid hset
    have HXI := Lib.hid hXI
    have HTn := Lib.hid htn
    have HOw := Lib.hid hown
    clear hk hx hpre hxl hpl hset hXI htn hsz
    gi_wp2_with (gi_at_mapUpdate; refine wpListIn_mapUpdate_in _ rfl _ _ _ 119 rfl 3 120 keyed Tryz.underlying119 unitElem (g + 1) pre.length D rfl hown hk9 _ _ _ rfl rfl (keyAt HXI.out) (.agg []) [] unitElem_mk ?_; intro w6 hown6 hturn6; have HX := Lib.hid (And.intro (keeps_map (D := D) (k := 0) (B0 := w3.heap.size) hturn6 (by have := HZ3.out; omega)) (And.intro (kpl_map (lo := w3.heap.size) (B := w3.heap.size + 2) hturn6 HOw.out) (show BmI w3 (g + 1) (pre ++ [x]) w6 from ⟨⟨_, by rw [List.length_append]; exact hown6, by rw [List.map_append]; exact setD_put HOw.out.isMap HSet.out HXI.out _⟩, HTn.out.trans (Turn.of_grown (S := fun i => i = g + 1) hturn6.grown (fun i hi => .inl (by injection hi with hi; exact hi.symm))) (fun i hi => .inl hi)⟩))); clear hown6 hturn6)
    exact HX.out
  case stop =>
    rintro _ _ _ _ h _
    exact h.elim
  case done =>
    rintro xs W hxs ⟨hmp, htn⟩ hK
    rw [hxs] at hmp
    obtain ⟨D, hown, hset⟩ := hmp
    have hz3 := HZ3.out
    have hbw : Below w.heap.size w W := HB3.out.trans (htn.below HB3.out.size (fun i hi => by have := HG.out; omega))
    have hcm : W.cell? ⟨g + 2, 0, none⟩ = some (.map (some (g + 1))) := (World.cell?_of_block (a := ⟨g + 2, 0, none⟩) (htn.block _ (by show g + 2 < _; omega) (by show g + 2 ≠ g + 1; omega))).trans HC3.out.1
    have hc4 : W.cell? ⟨g, 4, none⟩ = some (.slice A n c) := (World.cell?_of_block (a := ⟨g, 4, none⟩) (htn.block _ (by show g < _; omega) (by show g ≠ g + 1; omega))).trans HC3.out.2.c4
    have HS := Lib.hid (fun (X : World) (hX : Below W.heap.size W X) => show X.cell? ⟨g + 2, 0, none⟩ = some (.map (some (g + 1))) ∧ X.cell? ⟨g, 4, none⟩ = some (.slice A n c) from
      ⟨(hX.cell (World.block_lt_of_cell? W _ hcm)).trans hcm, (hX.cell (World.block_lt_of_cell? W _ hc4)).trans hc4⟩)
    have HOw := Lib.hid (fun (X : World) (hX : Below W.heap.size W X) => owns_same hown (hX.block _ hown.lt))
    have HSet := Lib.hid hset
    have HBW := Lib.hid hbw
    have HKk := Lib.hid (fun (X : World) (hX : Below W.heap.size W X) => (hX.block _ (lt_of_block hK)).trans hK)
    have HKz := Lib.hid (show w.heap.size ≤ w3.heap.size from HB3.out.size)
    generalize w3.heap.size = kz at *
    clear hown hset hbw hcm hc4 htn hz3 hK
    gi_wp2
    gi_loopw [8, 24] (fun v i wr => ∃ (k : Nat) (A1 : Option Addr) (c1 s1 : Nat), k ≤ nq ∧ i = .int .i64 k ∧ v = .slice A1 s1 c1 ∧ s1 ≤ k ∧ Hid (s1 = (selR C S q k).length ∧ OwnR W.heap.size wr A1 c1 (selR C S q k)) ∧ Hid (Below W.heap.size W wr) ∧ Hid (∀ j p, j < k → q[j]? = some p → p.x.length = dimC C)) (fun _ i _ => nq - (intOf i).toNat)
    case atStart => exact ⟨0, none, 0, 0, Nat.zero_le _, rfl, rfl, Nat.le_refl _, Lib.hid ⟨rfl, World.ownsRow_nil _ _ _ _⟩, Lib.hid (Below.refl _ _), Lib.hid (fun j p hj => absurd hj (by omega))⟩
    case round =>
      obtain ⟨k, A1, c1, s1, hk, rfl, rfl, hs1, HO, HB, HD⟩ := hrel
      by_cases hkq : k < nq
      · obtain ⟨b, o, p, rfl, hp, hb, ci0, ci1, hvx, hu⟩ := (HRw.out wr (HBW.out.trans (HB.out.mono HBW.out.size))).at_ (i := k) (by rw [← HNq.out]; exact hkq)
        obtain ⟨V, hV⟩ : ∃ V, V = wr.alloc (.cells #[.int .u64 p.i, .slice p.B p.x.length p.c] 52) := ⟨_, rfl⟩
        have hbV : Below wr.heap.size wr V := by rw [hV]; exact bn1 _ _
        have hBV := HB.out.trans (hbV.mono HB.out.size)
        have v0 : V.cell? ⟨wr.heap.size, 0, none⟩ = some (.int .u64 p.i) := by rw [hV]; exact cell_laid _ _ _ 0
        have v1 : V.cell? ⟨wr.heap.size, 1, none⟩ = some (.slice p.B p.x.length p.c) := by rw [hV]; exact cell_laid _ _ _ 1
        obtain ⟨y0, y1⟩ := HS.out V hBV
        have hNr := HNe.out V (HBW.out.trans (hBV.mono HBW.out.size)) p.B p.c p.x (hvx.below hbV)
        obtain ⟨e1, e2⟩ := HNd.out p.x (HRr.out k p hp)
        have HbV := Lib.hid hbV
        have k0 : (0 : Int) ≤ k := by omega
        have kn : (k : Int) < nq := by omega
        have HP := Lib.hid hp
        have HVV := Lib.hid hV
        have HBV := Lib.hid hBV
        have HVs := Lib.hid (fun (X : World) (hX : Below V.heap.size V X) => show X.cell? ⟨wr.heap.size, 0, none⟩ = some (.int .u64 p.i) ∧ X.cell? ⟨wr.heap.size, 1, none⟩ = some (.slice p.B p.x.length p.c) from ⟨(hX.cell (World.block_lt_of_cell? V _ v0)).trans v0, (hX.cell (World.block_lt_of_cell? V _ v1)).trans v1⟩)
        have HXL := Lib.hid (show p.x.length = p.x.length from rfl)
        by_cases hdm : p.x.length = dimC C
        · have hnn := e2 hdm
          rw [e1, if_pos hdm, hnn] at hNr
          have HD1 := Lib.hid (show ∀ j p, j < k + 1 → q[j]? = some p → p.x.length = dimC C from fun j p' hj hp' => by
            by_cases e : j = k
            · subst e; rw [HP.out] at hp'; injection hp' with hp'; rw [← hp']; exact hdm
            · exact HD.out j p' (by omega) hp')
          obtain ⟨nm, hnm⟩ : ∃ nm, nm = nearM C p.x := ⟨_, rfl⟩
          have HNm := Lib.hid hnm
          have hnI : I64 (nm : Int) := by
            have h := nearF_lt (farM C p.x) C.length HC00.out
            have e : nm = nearF (farM C p.x) C.length := hnm
            have := HC00.out
            have := HC06.out
            show (Lit.int .i64 (nm : Int)).wf = true
            simp [Lit.wf, IntKind.min, IntKind.max, IntKind.signed, IntKind.bits]; omega
          have HNI := Lib.hid hnI
          rw [← hnm] at hNr
          have hh : Maps.has D (kl nm) = inQ C S p.x := by
            rw [HSet.out _ hnI]
            unfold inQ
            rw [← hnm, Bool.eq_iff_iff, decide_eq_true_iff, decide_eq_true_iff, List.mem_map]
            exact ⟨fun ⟨a, ha, e⟩ => by have : a = nm := by omega
                                        rw [← this]; exact ha, fun ha => ⟨nm, ha, rfl⟩⟩
          obtain ⟨xl, hxl⟩ : ∃ xl, xl = p.x.length := ⟨_, rfl⟩
          rw [← hxl] at hNr HVV HVs v1 ci1
          have HXl := Lib.hid hxl
          have HNr := Lib.hid hNr
          clear hp hb hvx hu hV hbV hBV hNr e1 e2 hdm hnn hnm hnI hxl
          cases hin : inQ C S p.x with
          | false =>
            have HS1 := Lib.hid (selR_no HP.out hin)
            rw [hin] at hh
            have HH := Lib.hid hh
            clear hin hh
            gi_wp2_with (rw [← HVV.out])
            refine ⟨trivial, (callsIn_wide.2 HNr.out).mono ?_⟩
            rintro e w5 ⟨rfl, hb5⟩
            have HB5 := Lib.hid (HBV.out.trans (hb5.mono HBV.out.size))
            have HBr := Lib.hid (HbV.out.trans (hb5.mono HbV.out.size))
            obtain ⟨u0, u1⟩ := HS.out w5 HB5.out
            have hown5 := HOw.out w5 HB5.out
            clear hb5 v0 v1 y0 y1
            gi_wp2_with (gi_at_lookup; refine wpListIn_lookup_own_unit _ rfl _ _ 119 rfl 3 120 keyed Tryz.underlying119 (zeroUnit _) (g + 1) _ D rfl hown5 _ _ rfl (keyAt HNI.out) ?_; rw [HH.out])
            have HB6 := Lib.hid (HB5.out.alloc HB5.out.size (.cells #[] 120))
            go_roundw
            case rel => exact ⟨k + 1, A1, c1, s1, by omega, by go_num, rfl, by omega, Lib.hid ⟨by rw [HS1.out]; exact HO.out.1, by rw [HS1.out]; exact OwnR.turn (S := fun _ => False) HO.out.2 (Turn.of_below (HBr.out.alloc HBr.out.size _)) (fun _ _ e => e)⟩, HB6, HD1⟩
            case measure => simp [intOf]; omega
          | true =>
            have HS1 := Lib.hid (selR_yes HP.out hin)
            rw [hin] at hh
            have HH := Lib.hid hh
            clear hin hh
            gi_wp2_with (rw [← HVV.out])
            refine ⟨trivial, (callsIn_wide.2 HNr.out).mono ?_⟩
            rintro e w5 ⟨rfl, hb5⟩
            have HB5 := Lib.hid (HBV.out.trans (hb5.mono HBV.out.size))
            have HBr := Lib.hid (HbV.out.trans (hb5.mono HbV.out.size))
            obtain ⟨u0, u1⟩ := HS.out w5 HB5.out
            have hown5 := HOw.out w5 HB5.out
            obtain ⟨r0, r1⟩ := HVs.out w5 hb5
            obtain ⟨r2, r3⟩ := HVs.out (w5.alloc (.cells #[] 120)) (hb5.alloc hb5.size _)
            have HB6 := Lib.hid (HB5.out.alloc HB5.out.size (.cells #[] 120))
            have HB7 := Lib.hid (HB6.out.alloc HB6.out.size (.cells #[.int .u64 p.i, .slice p.B xl p.c] 52))
            have HR7 := Lib.hid (show Read ((w5.alloc (.cells #[] 120)).alloc (.cells #[.int .u64 p.i, .slice p.B xl p.c] 52)) (some ⟨w5.heap.size + 1, 0, none⟩) 1 2 [.int .u64 p.i, .slice p.B xl p.c] from Read.two rfl rfl (cell_at _ _ _ 0 _ (by simp)) (cell_at _ _ _ 1 _ (by simp)))
            have HO7 := Lib.hid (show OwnR W.heap.size ((w5.alloc (.cells #[] 120)).alloc (.cells #[.int .u64 p.i, .slice p.B xl p.c] 52)) A1 c1 (selR C S q k) from OwnR.turn (S := fun _ => False) HO.out.2 (Turn.of_below ((HBr.out.alloc HBr.out.size _).alloc (HBr.out.alloc HBr.out.size (.cells #[] 120)).size _)) (fun _ _ e => e))
            clear hb5 v0 v1 y0 y1
            gi_wp2_with (first
              | (gi_at_lookup; refine wpListIn_lookup_own_unit _ rfl _ _ 119 rfl 3 120 keyed Tryz.underlying119 (zeroUnit _) (g + 1) _ D rfl hown5 _ _ rfl (keyAt HNI.out) ?_; rw [HH.out])
              | (gi_at_builtin; go_loud (refine gapp_in rfl (.tmp 46) (.tmp 48) appR rfl W.heap.size A1 c1 s1 (flatR (selR C S q k)) rfl (by have := HO7.out; unfold OwnR at this; rw [← HO.out.1] at this; exact this) (some ⟨w5.heap.size + 1, 0, none⟩) 1 1 [.int .u64 p.i, .slice p.B xl p.c] rfl HR7.out (by omega) HB7.out.size ?_; intro A5 c5 w8 ho8 hg8 _; have HB8 := Lib.hid (HB7.out.grown hg8 HB7.out.size (fun i hi => (World.ownsRow.lt HO7.out i (by rw [own_blk]; exact hi)).1)); have HO8 := Lib.hid (show s1 + 1 = (selR C S q (k + 1)).length ∧ OwnR W.heap.size w8 A5 c5 (selR C S q (k + 1)) from by (rw [HS1.out]; unfold OwnR; rw [List.length_append, flatR_append, ← HO.out.1]; refine ⟨rfl, ?_⟩; show w8.ownsRow W.heap.size 52 2 (.slice A5 (s1 + 1) c5) (s1 + 1) (flatR (selR C S q k) ++ [.int .u64 p.i, .slice p.B p.x.length p.c]); rw [← HXl.out]; exact ho8)); clear ho8 hg8)))
            go_roundw
            case rel => exact ⟨k + 1, A5, c5, s1 + 1, by omega, by go_num, rfl, by omega, HO8, HB8, HD1⟩
            case measure => simp [intOf]; omega
        · rw [e1, if_neg hdm] at hNr
          have HNr := Lib.hid hNr
          have HF := Lib.hid (HE1.out k p HP.out hdm)
          generalize nearN C p.x = nn at *
          generalize p.x.length = xl at *
          clear hp hb hvx hu hV hbV hBV hNr e1 e2 hdm
          gi_wp2_with (rw [← HVV.out])
          refine ⟨trivial, (callsIn_wide.2 HNr.out).mono ?_⟩
          rintro e w5 ⟨rfl, hb5⟩
          have HB5 := Lib.hid (HBV.out.trans (hb5.mono HBV.out.size))
          clear hb5 v0 v1 y0 y1
          gi_wp2
          refine ⟨by simp, .inl ⟨_, _, rfl, run_takeDeferred (HKk.out w5 HB5.out), ?_⟩⟩
          refine ⟨.tuple #[.slice none 0 0, .int .i64 151], by simp [results, Tryz.results28, go_sem], ?_⟩
          rw [HF.out.1, HF.out.2]
          exact ⟨none, 0, [], rfl, rfl, Rws.nil _, (HBW.out.trans (HB5.out.mono HBW.out.size)).trans (below_put HKz.out (Nat.le_trans HBW.out.size HB5.out.size))⟩
      · obtain rfl : k = nq := by omega
        have HF := Lib.hid (HE0.out (fun j p hj hp => HD.out j p (by rw [HNq.out]; exact hj) hp))
        gi_wp2
        refine ⟨by simp, .inl ⟨_, _, rfl, run_takeDeferred (HKk.out wr HB.out), ?_⟩⟩
        refine ⟨.tuple #[.slice A1 s1 c1, .int .i64 0], by simp [results, Tryz.results28, go_sem], ?_⟩
        have hbz : Below w.heap.size w (wr.putObj kz (.deferred none)) := (HBW.out.trans (HB.out.mono HBW.out.size)).trans (below_put HKz.out (Nat.le_trans HBW.out.size HB.out.size))
        rw [HF.out.1, HF.out.2]
        refine ⟨A1, c1, selR C S q k, by rw [← HO.out.1], by rw [HNq.out], own_rws (base := W.heap.size) ?_ (fun p hp => (HRw.out _ hbz).el p (List.mem_of_mem_take (List.mem_filter.1 hp).1)) (fun p hp => (HRw.out _ hbz).fit p (List.mem_of_mem_take (List.mem_filter.1 hp).1)), hbz⟩
        unfold OwnR
        rw [← HO.out.1]
        have := HO.out.2
        unfold OwnR at this
        rw [← HO.out.1] at this
        exact row_put this _ (HKk.out wr HB.out) rfl
end Go.Proofs.YtcekgllahlhaaaaGreatDoor

namespace Go.Proofs.YtcekgllahlhaaaaGreatDoor
open Go.RowKit Go.Shelf
open TopL (HitM firstM isKM)
set_option linter.unusedVariables false
set_option linter.unusedSimpArgs false
set_option maxRecDepth 100000

theorem checkRow_any (id : Int) (A : Option Addr) (c : Nat) (xs : List Int) (w : World) (h : Vec .i32 w A c xs) :
    Calls Tryz.prog 61 #[.agg #[.int .u64 id, .slice A xs.length c]] w fun e w' => e = .returned (.int .i64 (rowE xs)) ∧ Below w.heap.size w w' := by
  have hB : Below w.heap.size w (w.alloc (.cells #[.int .u64 id, .slice A xs.length c] 52)) := (Below.refl _ w).alloc (Nat.le_refl _) _
  have HC := Lib.hid (check_any A c xs _ (h.below hB))
  have HB := Lib.hid hB
  rw [checkM_eq] at HC
  have HR := Lib.hid (show rowE xs = if right xs = true then 0 else 170 from rfl)
  generalize rowE xs = R at *
  clear h hB
  cases hr : right xs
  · rw [hr] at HC HR
    have HR2 := Lib.hid (show R = 170 by rw [HR.out]; rfl)
    simp only [Bool.false_eq_true, if_false] at HC
    generalize xs.length = n at *
    clear hr HR
    go_enter Tryz.func61, Tryz.ntmps61
    go_wp2_with fail
    refine HC.out.mono ?_
    rintro e w1 ⟨rfl, hb1⟩
    have HB1 := Lib.hid (HB.out.trans (hb1.mono HB.out.size))
    clear hb1
    go_wp2
    go_ret
    rw [HR2.out]
    exact ⟨rfl, HB1.out⟩
  · rw [hr] at HC HR
    have HR2 := Lib.hid (show R = 0 by rw [HR.out]; rfl)
    simp only [if_true] at HC
    generalize xs.length = n at *
    clear hr HR
    go_enter Tryz.func61, Tryz.ntmps61
    go_wp2_with fail
    refine HC.out.mono ?_
    rintro e w1 ⟨rfl, hb1⟩
    have HB1 := Lib.hid (HB.out.trans (hb1.mono HB.out.size))
    clear hb1
    go_wp2
    go_ret
    rw [HR2.out]
    exact ⟨rfl, HB1.out⟩


theorem mayNot_any (p : Pr) (w : World) (hv : Vec .i32 w p.B p.c p.x) :
    Calls Tryz.prog 60 #[.agg #[.int .u64 p.i, .slice p.B p.x.length p.c]] w fun e w' => e = .returned (.bool (!right p.x)) ∧ Below w.heap.size w w' := by
  have hb : Below w.heap.size w (w.alloc (.cells #[.int .u64 p.i, .slice p.B p.x.length p.c] 52)) := (Below.refl _ w).alloc (Nat.le_refl _) _
  have HC := Lib.hid (checkRow_any p.i p.B p.c p.x _ (hv.below hb))
  have HB := Lib.hid hb
  have HR := Lib.hid (show (rowE p.x != 0) = !right p.x by unfold rowE; cases right p.x <;> rfl)
  generalize rowE p.x = E at *
  generalize right p.x = R at *
  generalize p.x.length = n at *
  clear hv hb
  go_enter Tryz.func60, Tryz.ntmps60
  go_wp2_with fail
  refine HC.out.mono ?_
  rintro e w1 ⟨rfl, hb1⟩
  have HB1 := Lib.hid (HB.out.trans (hb1.mono HB.out.size))
  clear hb1
  go_wp2
  go_ret
  rw [← HR.out]
  exact ⟨rfl, HB1.out⟩

/-- Why nothing is looked for among rows, but for dimensions. -/
def rfE (kq N : Int) (l : List Rv) (C : List (List Int)) (v : List Int) : Int := if chkP kq N v = 0 then (if cenE C = 0 then (if rightR l = true then 0 else 170) else cenE C) else chkP kq N v

set_option maxHeartbeats 2000000 in
theorem refuseRows_any (Ar : Option Addr) (cr : Nat) (q : List Pr) (A : Option Addr) (c : Nat) (C : List (List Int)) (v : List Int) (Av : Option Addr) (cv : Nat) (kq ts N : Int) (w : World) (hr : Rws w Ar cr q) (hc : Vecs .i32 w A c C) (hv : Vec .i32 w Av cv v) :
    Calls Tryz.prog 27 #[.slice Ar q.length cr, .slice A C.length c, pv Av v.length cv kq ts N] w fun e w' => e = .returned (.int .i64 (rfE kq N (rvs q) C v)) ∧ Below w.heap.size w w' := by
  obtain ⟨W0, hW0⟩ : ∃ W0, W0 = w.alloc (.cells #[.slice Av v.length cv, .int .i64 kq, .int .u64 ts, .int .i64 N] 31) := ⟨_, rfl⟩
  obtain ⟨hl0, hb0⟩ := pbox w Av v.length cv kq ts N
  rw [← hW0] at hl0 hb0
  obtain ⟨g, hg⟩ : ∃ g, g = w.heap.size := ⟨_, rfl⟩
  rw [← hg] at hl0
  have HCp := Lib.hid (checkP_any v Av cv kq ts N W0 (hv.below hb0))
  have HRf := Lib.hid (fun (X : World) (hX : Below W0.heap.size W0 X) => refuseP_any A c C X ((hc.below hb0).below hX))
  have HCt := Lib.hid (fun (X : World) (hX : Below W0.heap.size W0 X) => containsR_any Ar cr q 60 (fun p => !right p.2) X ((hr.below hb0).below hX) (fun v W => enters_of Tryz.func60 (by kernel_rfl) rfl _ W) (fun p X _ hv => mayNot_any p X hv))
  rw [any_notR] at HCt
  have HR := Lib.hid (show rfE kq N (rvs q) C v = if chkP kq N v = 0 then (if cenE C = 0 then (if rightR (rvs q) = true then 0 else 170) else cenE C) else chkP kq N v from rfl)
  generalize rfE kq N (rvs q) C v = R at *
  generalize chkP kq N v = E1 at *
  generalize cenE C = E2 at *
  generalize rightR (rvs q) = P at *
  unfold pv at *
  generalize v.length = nv at *
  generalize C.length = n at *
  generalize q.length = nq at *
  have HB0 := Lib.hid hb0
  have HW0 := Lib.hid hW0
  have HG := Lib.hid hg
  obtain ⟨x0, x1, x2, x3⟩ := hl0
  clear hr hc hv hb0 hW0 hg
  by_cases h1 : E1 = 0
  · by_cases h2 : E2 = 0
    · cases P with
      | true =>
        have hF : R = 0 := by rw [HR.out, if_pos h1, if_pos h2]; rfl
        subst h1 h2 hF
        go_enter Tryz.func27, Tryz.ntmps27
        go_wp2_with (rw [← HW0.out, ← HG.out])
        refine HCp.out.mono ?_
        rintro e w1 ⟨rfl, hb1⟩
        have HB1 := Lib.hid hb1
        clear hb1
        go_wp2_with fail
        refine (HRf.out w1 HB1.out).mono ?_
        rintro e w2 ⟨rfl, hb2⟩
        have HB2 := Lib.hid (HB1.out.trans (hb2.mono HB1.out.size))
        clear hb2
        go_wp2_with fail
        refine (HCt.out w2 HB2.out).mono ?_
        rintro e w3 ⟨rfl, hb3⟩
        have HB3 := Lib.hid (HB0.out.trans ((HB2.out.trans (hb3.mono HB2.out.size)).mono HB0.out.size))
        clear hb3
        go_wp2
        go_ret
        exact ⟨rfl, HB3.out⟩
      | false =>
        have hF : R = 170 := by rw [HR.out, if_pos h1, if_pos h2]; rfl
        subst h1 h2 hF
        go_enter Tryz.func27, Tryz.ntmps27
        go_wp2_with (rw [← HW0.out, ← HG.out])
        refine HCp.out.mono ?_
        rintro e w1 ⟨rfl, hb1⟩
        have HB1 := Lib.hid hb1
        clear hb1
        go_wp2_with fail
        refine (HRf.out w1 HB1.out).mono ?_
        rintro e w2 ⟨rfl, hb2⟩
        have HB2 := Lib.hid (HB1.out.trans (hb2.mono HB1.out.size))
        clear hb2
        go_wp2_with fail
        refine (HCt.out w2 HB2.out).mono ?_
        rintro e w3 ⟨rfl, hb3⟩
        have HB3 := Lib.hid (HB0.out.trans ((HB2.out.trans (hb3.mono HB2.out.size)).mono HB0.out.size))
        clear hb3
        go_wp2
        go_ret
        exact ⟨rfl, HB3.out⟩
    · have hF : R = E2 := by rw [HR.out, if_pos h1, if_neg h2]
      subst h1 hF
      have t1 : (R != 0) = true := by simpa using h2
      have t2 : (R == 0) = false := by simpa using h2
      clear h2
      go_enter Tryz.func27, Tryz.ntmps27
      go_wp2_with (rw [← HW0.out, ← HG.out])
      refine HCp.out.mono ?_
      rintro e w1 ⟨rfl, hb1⟩
      have HB1 := Lib.hid hb1
      clear hb1
      go_wp2_with fail
      refine (HRf.out w1 HB1.out).mono ?_
      rintro e w2 ⟨rfl, hb2⟩
      have HB2 := Lib.hid (HB0.out.trans ((HB1.out.trans (hb2.mono HB1.out.size)).mono HB0.out.size))
      clear hb2
      go_wp2
      go_ret
      exact ⟨rfl, HB2.out⟩
  · have hF : R = E1 := by rw [HR.out, if_neg h1]
    subst hF
    have t1 : (R != 0) = true := by simpa using h1
    have t2 : (R == 0) = false := by simpa using h1
    clear h1
    go_enter Tryz.func27, Tryz.ntmps27
    go_wp2_with (rw [← HW0.out, ← HG.out])
    refine HCp.out.mono ?_
    rintro e w1 ⟨rfl, hb1⟩
    have HB1 := Lib.hid (HB0.out.trans (hb1.mono HB0.out.size))
    clear hb1
    go_wp2
    go_ret
    exact ⟨rfl, HB1.out⟩
end Go.Proofs.YtcekgllahlhaaaaGreatDoor

namespace Go.Proofs.YtcekgllahlhaaaaGreatDoor
open Go.RowKit Go.Shelf
open TopL (HitM firstM isKM)
set_option linter.unusedVariables false
set_option linter.unusedSimpArgs false
set_option maxRecDepth 100000

/-- The places that are asked. -/
def askM (C : List (List Int)) (v : List Int) (N : Int) : List Nat := askedP (farM C v) C.length N.toNat
/-- What Rows tells, and answers. -/
def prE (kq N : Int) (l : List Rv) (C : List (List Int)) (v : List Int) : Int :=
  if rfE kq N l C v = 0 then (if dimC C = v.length then (if belE C l = 0 then rowsE kq (belL C (askM C v N) l) v else 151) else 151) else rfE kq N l C v
def prL (kq N : Int) (l : List Rv) (C : List (List Int)) (v : List Int) : List HitM := if prE kq N l C v = 0 then rowsL kq (belL C (askM C v N) l) v else []
theorem rfE_ok {kq N : Int} {l : List Rv} {C : List (List Int)} {v : List Int} (h : rfE kq N l C v = 0) : chkP kq N v = 0 ∧ cenE C = 0 ∧ rightR l = true := by
  unfold rfE at h
  split at h
  · rename_i h1
    split at h
    · rename_i h2
      split at h
      · rename_i h3; exact ⟨h1, h2, h3⟩
      · omega
    · rename_i h2; exact absurd h h2
  · rename_i h1; exact absurd h h1

set_option maxHeartbeats 4000000 in
theorem rowsP_any (Ar : Option Addr) (cr : Nat) (q : List Pr) (A : Option Addr) (c : Nat) (C : List (List Int)) (v : List Int) (Av : Option Addr) (cv : Nat) (kq ts N : Int) (w : World) (hr : Rws w Ar cr q) (hc : Vecs .i32 w A c C) (hv : Vec .i32 w Av cv v) (hq : q.length ≤ 100000) :
    Calls Tryz.prog 11 #[.slice Ar q.length cr, .slice A C.length c, pv Av v.length cv kq ts N] w (GivesHE w (prL kq N (rvs q) C v) (prE kq N (rvs q) C v)) := by
  obtain ⟨W0, hW0⟩ : ∃ W0, W0 = w.alloc (.cells #[.slice Av v.length cv, .int .i64 kq, .int .u64 ts, .int .i64 N] 31) := ⟨_, rfl⟩
  obtain ⟨hl0, hb0⟩ := pbox w Av v.length cv kq ts N
  rw [← hW0] at hl0 hb0
  obtain ⟨g, hg⟩ : ∃ g, g = w.heap.size := ⟨_, rfl⟩
  rw [← hg] at hl0
  have HP := Lib.hid (fun (X : World) (hX : Below W0.heap.size W0 X) => hl0.below hX hl0.lt)
  have HRf := Lib.hid (refuseRows_any Ar cr q A c C v Av cv kq ts N W0 (hr.below hb0) (hc.below hb0) (hv.below hb0))
  have HSo := Lib.hid (fun (X : World) (hX : Below W0.heap.size W0 X) => searcherOf_ok A Av c cv C v kq ts N X ((hc.below hb0).below hX) ((hv.below hb0).below hX))
  have HSd := Lib.hid (fun (X : World) (hX : Below W0.heap.size W0 X) => searcherOf_dim A Av c cv C v kq ts N X ((hc.below hb0).below hX) ((hv.below hb0).below hX))
  have HBe := Lib.hid (fun (X : World) (hX : Below W0.heap.size W0 X) (base : Nat) (B : Option Addr) (d : Nat) (L : List Nat) (ho : OwnS base X B d L) (hL : L.length = C.length) h0 h6 hC hLb hN hrr => belonging_any Av v.length cv kq ts N A c C B d L Ar cr q ((hc.below hb0).below hX) ho hL h0 h6 hC hLb hN ((hr.below hb0).below hX) hrr hq)
  have HFl := Lib.hid (fun (X : World) (hX : Below W0.heap.size W0 X) (A2 : Option Addr) (c2 : Nat) (q2 : List Pr) (h : Rws X A2 c2 q2) => rowsQ_any v Av cv kq A2 c2 q2 X ((hv.below hb0).below hX) h)
  have HOk := Lib.hid (fun (h : rfE kq N (rvs q) C v = 0) => rfE_ok h)
  have HE := Lib.hid (show prE kq N (rvs q) C v = if rfE kq N (rvs q) C v = 0 then (if dimC C = v.length then (if belE C (rvs q) = 0 then rowsE kq (belL C (askM C v N) (rvs q)) v else 151) else 151) else rfE kq N (rvs q) C v from rfl)
  have HL := Lib.hid (show prL kq N (rvs q) C v = if prE kq N (rvs q) C v = 0 then rowsL kq (belL C (askM C v N) (rvs q)) v else [] from rfl)
  generalize prL kq N (rvs q) C v = RL at *
  generalize prE kq N (rvs q) C v = R at *
  obtain ⟨E1, hE1⟩ : ∃ E, E = rfE kq N (rvs q) C v := ⟨_, rfl⟩
  rw [← hE1] at HRf HOk HE
  obtain ⟨n, hn⟩ : ∃ n, n = C.length := ⟨_, rfl⟩
  obtain ⟨nv, hnv⟩ : ∃ n, n = v.length := ⟨_, rfl⟩
  obtain ⟨nq, hnq⟩ : ∃ n, n = q.length := ⟨_, rfl⟩
  rw [← hnv] at hl0 hW0
  rw [← hn, ← hnv, ← hnq]
  rw [← hn, ← hnv, ← hnq] at HRf
  rw [← hn] at HSo HSd HBe
  rw [← hnv] at HSo HSd HBe HFl HE HP
  rw [← hnq] at HBe
  have HN := Lib.hid hn
  have HNv := Lib.hid hnv
  have HB0 := Lib.hid hb0
  have HW0 := Lib.hid hW0
  have HG := Lib.hid hg
  obtain ⟨x0, x1, x2, x3⟩ := hl0
  clear hr hc hv hb0 hW0 hg hE1 hn hnv hnq hq
  unfold pv at *
  by_cases h1 : E1 = 0
  · obtain ⟨hcp, hce, hrr⟩ := HOk.out h1
    obtain ⟨hN, hQ⟩ := chkP_ok hcp
    obtain ⟨hK, hvr⟩ := chkQ_ok hQ
    obtain ⟨c0, c6, call⟩ := cenE_ok hce
    by_cases hd : dimC C = nv
    · obtain ⟨PL, hPL⟩ : ∃ PL, PL = placesP (farM C v) C.length := ⟨_, rfl⟩
      have HSoo := Lib.hid (fun (X : World) (hX : Below W0.heap.size W0 X) => HSo.out X hX hvr (fun x hx => by rw [← hd]; exact call x hx) (by rw [HN.out]; exact c6) (by rw [HN.out]; exact c0))
      have hPl : PL.length = n := by rw [hPL, places_len, ← HN.out]
      have hAk : PL.take (min N.toNat n) = askM C v N := by unfold askM; rw [← asked_min, hPL, ← HN.out]; rfl
      have HBee := Lib.hid (fun (X : World) (hX : Below W0.heap.size W0 X) (base : Nat) (B : Option Addr) (d : Nat) (ho : OwnS base X B d PL) => HBe.out X hX base B d PL ho (by rw [hPl]) (by rw [HN.out]; exact c0) (by rw [HN.out]; exact c6) call (fun k hk => by rw [hPL, places_mem] at hk; omega) hN hrr)
      rw [hPl, hAk] at HBee
      rw [HN.out, ← hPL, ← HN.out] at HSoo
      have HFf := Lib.hid HFl.out
      have HE1 := Lib.hid (show R = if belE C (rvs q) = 0 then rowsE kq (belL C (askM C v N) (rvs q)) v else 151 by rw [HE.out, if_pos h1, if_pos hd])
      have HBE := Lib.hid (show belE C (rvs q) ≠ 0 → belE C (rvs q) = 151 from fun h => by unfold belE at *; split at h <;> simp_all)
      generalize belL C (askM C v N) (rvs q) = BL at *
      generalize belE C (rvs q) = BE at *
      subst h1
      clear hcp hce hrr hN hQ hK hvr c0 c6 call hd hPL hPl hAk
      go_enter Tryz.func11, Tryz.ntmps11
      go_wp2_with (rw [← HW0.out, ← HG.out])
      refine HRf.out.mono ?_
      rintro e w1 ⟨rfl, hb1⟩
      have HB1 := Lib.hid hb1
      obtain ⟨y0, y1, y2, y3⟩ := HP.out w1 hb1
      clear hb1 x0 x1 x2 x3
      go_wp2_with fail
      refine (HSoo.out w1 HB1.out).mono ?_
      rintro e w2 ⟨B, d, rfl, ho, hb2⟩
      unfold sv
      obtain ⟨V, hV⟩ : ∃ V, V = w2.alloc (.cells #[.slice Av nv cv, .int .i64 kq, .int .u64 ts, .int .i64 N, .slice A n c, .slice B n d] 76) := ⟨_, rfl⟩
      have hbV : Below w2.heap.size w2 V := by rw [hV]; exact bn1 _ _
      have hsV : SBox V w2.heap.size Av nv cv kq ts N A n c B n d := by rw [hV]; exact SBox.of (heap_alloc_new _ _)
      have hBV : Below W0.heap.size W0 V := (HB1.out.trans (hb2.mono HB1.out.size)).trans (hbV.mono (Nat.le_trans HB1.out.size hb2.size))
      have hBe := HBee.out V hBV w1.heap.size B d (ho.below hbV)
      unfold sv at hBe
      have HBl := Lib.hid hBe
      have HBV := Lib.hid hBV
      have HVV := Lib.hid hV
      obtain ⟨z0, z1, z2, z3, z4, z5⟩ := hsV
      clear ho hb2 hbV hBV hBe hV y0 y1 y2 y3
      go_wp2_with (rw [← HVV.out])
      refine HBl.out.mono ?_
      rintro e w3 ⟨A3, c3, r3, rfl, hr3, hw3, hb3⟩
      have HB3 := Lib.hid (HBV.out.trans (hb3.mono HBV.out.size))
      obtain ⟨y0, y1, y2, y3⟩ := HP.out w3 HB3.out
      by_cases hbe : BE = 0
      · have hF : R = rowsE kq BL v := by rw [HE1.out, if_pos hbe]
        have hrv : rvs r3 = BL := by rw [hr3, if_pos hbe]
        have hfl := HFf.out w3 HB3.out A3 c3 r3 hw3
        rw [hrv, ← hF] at hfl
        have hRL : rowsL kq BL v = RL := by
          rw [HL.out, hF]
          unfold rowsL
          split <;> rfl
        rw [hRL] at hfl
        obtain ⟨n3, hn3⟩ : ∃ n3, n3 = r3.length := ⟨_, rfl⟩
        rw [← hn3] at hfl
        have HFn := Lib.hid hfl
        subst hbe
        clear hF hrv hfl hRL hr3 hw3 hb3 z0 z1 z2 z3 z4 z5
        rw [← hn3]
        clear hn3
        go_wp2_with fail
        refine HFn.out.mono ?_
        rintro e w4 ⟨A4, c4, he, ho4, hb4⟩
        obtain ⟨n4, hn4⟩ : ∃ n4, n4 = RL.length := ⟨_, rfl⟩
        rw [← hn4] at he
        subst he
        have HF4 := Lib.hid (show GivesHE w RL R (.returned (.tuple #[.slice A4 n4 c4, .int .i64 R])) w4 from ⟨A4, c4, by rw [hn4], OwnH.mono ho4 (Nat.le_trans HB0.out.size HB3.out.size), HB0.out.trans ((HB3.out.trans (hb4.mono HB3.out.size)).mono HB0.out.size)⟩)
        clear ho4 hb4 hn4
        go_wp2
        go_ret2
        exact HF4.out
      · have hF : R = BE := by rw [HE1.out, if_neg hbe, HBE.out hbe]
        have hRL : RL = [] := by rw [HL.out, if_neg (by rw [hF]; exact hbe)]
        obtain ⟨n3, hn3⟩ : ∃ n3, n3 = r3.length := ⟨_, rfl⟩
        subst hF
        have t1 : (R != 0) = true := by simpa using hbe
        have t2 : (R == 0) = false := by simpa using hbe
        have HRL := Lib.hid hRL
        clear hbe hRL hr3 hw3 hb3 z0 z1 z2 z3 z4 z5
        rw [← hn3]
        clear hn3
        go_wp2
        go_ret2
        rw [HRL.out]
        exact OwnH.nils (HB0.out.trans (HB3.out.mono HB0.out.size)) R
    · have HSdd := Lib.hid (fun (X : World) (hX : Below W0.heap.size W0 X) => HSd.out X hX hvr (fun x hx => by rw [(call x hx).2]; exact ⟨(call x hx).1, hd⟩) (by rw [HN.out]; exact c0))
      have hF : R = 151 := by rw [HE.out, if_pos h1, if_neg hd]
      have hRL : RL = [] := by rw [HL.out, if_neg (by rw [hF]; decide)]
      have HRL := Lib.hid hRL
      subst h1 hF
      clear hcp hce hrr hN hQ hK hvr c0 c6 call hd hRL
      go_enter Tryz.func11, Tryz.ntmps11
      go_wp2_with (rw [← HW0.out, ← HG.out])
      refine HRf.out.mono ?_
      rintro e w1 ⟨rfl, hb1⟩
      have HB1 := Lib.hid hb1
      obtain ⟨y0, y1, y2, y3⟩ := HP.out w1 hb1
      clear hb1 x0 x1 x2 x3
      go_wp2_with fail
      refine (HSdd.out w1 HB1.out).mono ?_
      rintro e w2 ⟨rfl, hb2⟩
      unfold sv
      have HB2 := Lib.hid (HB1.out.trans (hb2.mono HB1.out.size))
      clear hb2
      go_wp2
      go_ret2
      rw [HRL.out]
      exact OwnH.nils (HB0.out.trans ((HB2.out.alloc HB2.out.size _).mono HB0.out.size)) 151
  · have hF : R = E1 := by rw [HE.out, if_neg h1]
    have hRL : RL = [] := by rw [HL.out, if_neg (by rw [hF]; exact h1)]
    subst hF
    have t1 : (R != 0) = true := by simpa using h1
    have t2 : (R == 0) = false := by simpa using h1
    have HRL := Lib.hid hRL
    clear h1 hRL
    go_enter Tryz.func11, Tryz.ntmps11
    go_wp2_with (rw [← HW0.out, ← HG.out])
    refine HRf.out.mono ?_
    rintro e w1 ⟨rfl, hb1⟩
    have HB1 := Lib.hid (HB0.out.trans (hb1.mono HB0.out.size))
    clear hb1
    go_wp2
    go_ret2
    rw [HRL.out]
    exact OwnH.nils HB1.out R
end Go.Proofs.YtcekgllahlhaaaaGreatDoor

namespace Go.Proofs.YtcekgllahlhaaaaGreatDoor
open Go.RowKit Go.Shelf
open TopL (HitM firstM isKM)
set_option linter.unusedVariables false
set_option linter.unusedSimpArgs false
set_option maxRecDepth 100000

theorem places_of {D : Nat → Int} {n : Nat} {s : List Nat} (hp : s.Perm (List.range n)) (hs : SrtP D s) : placesP D n = s := srtP_eq ((places_perm D n).trans hp.symm) (places_srt D n) hs
def wC : List (List Int) := [[0], [10], [20]]
def wR : List Rv := [(1, [1]), (2, [9]), (3, [12]), (4, [22])]
theorem wk0 : placesP (farM wC [6]) wC.length = [1, 0, 2] := places_of (by decide) (by unfold SrtP; decide +kernel)
theorem wk1 : askM wC [6] 1 = [1] := by unfold askM askedP; rw [wk0]; rfl
theorem wk2 : prE 3 1 wR wC [6] = 0 := by unfold prE; rw [wk1]; decide +kernel
theorem wk3 : prL 3 1 wR wC [6] = [(2, 9), (3, 36)] := by unfold prL; rw [wk2, wk1]; decide +kernel
theorem wk4 : nrE 2 wC [6] = 0 := by decide +kernel
theorem wk5 : nrL 2 wC [6] = [1, 0] := by unfold nrL askedP; rw [wk4, wk0]; rfl
theorem wk6 : prE 3 1 wR [] [6] = 240 := by unfold prE; decide +kernel
theorem wk7 : prL 3 1 wR [] [6] = [] := by unfold prL; rw [wk6]; rfl
theorem vec_one32 (w : World) (x : Int) (hx : (Lit.int .i32 x).wf = true) : Vec .i32 (w.alloc (.cells #[.int .i32 x] 21)) (some ⟨w.heap.size, 0, none⟩) 1 [x] :=
  ⟨by simp, by omega, fun _ => ⟨w.heap.size, 0, rfl, by simp, fun j hj => by
    obtain rfl : j = 0 := by simp at hj; omega
    exact cell_laid _ _ _ 0⟩, fun y hy => by simp at hy; subst hy; exact hx⟩
theorem vec_at32 (w : World) (x : Int) (s : Nat) (hs : s = w.heap.size) (hx : (Lit.int .i32 x).wf = true) : Vec .i32 (w.alloc (.cells #[.int .i32 x] 21)) (some ⟨s, 0, none⟩) 1 [x] := by subst hs; exact vec_one32 w x hx
theorem u64_lit (n : Int) (h0 : 0 ≤ n) (h1 : n ≤ 1000) : U64s n := by
  unfold U64s
  simp [Lit.wf, IntKind.min, IntKind.max, IntKind.signed, IntKind.bits]
  omega
theorem vecs_three {W : World} {g : Nat} {B0 B1 B2 : Option Addr} {a b c : Int} (h0 : W.cell? ⟨g, 0, none⟩ = some (.slice B0 1 1)) (h1 : W.cell? ⟨g, 1, none⟩ = some (.slice B1 1 1)) (h2 : W.cell? ⟨g, 2, none⟩ = some (.slice B2 1 1)) (v0 : Vec .i32 W B0 1 [a]) (v1 : Vec .i32 W B1 1 [b]) (v2 : Vec .i32 W B2 1 [c]) : Vecs .i32 W (some ⟨g, 0, none⟩) 3 [[a], [b], [c]] :=
  ⟨by simp, by omega, fun _ => ⟨g, 0, rfl, World.block_lt_of_cell? W _ h0, fun i y hy => by
    match i, hy with
    | 0, hy => simp at hy; subst hy; exact ⟨B0, 1, h0, v0⟩
    | 1, hy => simp at hy; subst hy; exact ⟨B1, 1, by simpa using h1, v1⟩
    | 2, hy => simp at hy; subst hy; exact ⟨B2, 1, by simpa using h2, v2⟩
    | i + 3, hy => simp at hy⟩⟩
theorem rws_four {W : World} {g : Nat} {p0 p1 p2 p3 : Pr} (hl : p0.x.length = 1 ∧ p1.x.length = 1 ∧ p2.x.length = 1 ∧ p3.x.length = 1)
    (h : ∀ (j : Nat) (v : Value), #[Value.int .u64 p0.i, .slice p0.B 1 1, .int .u64 p1.i, .slice p1.B 1 1, .int .u64 p2.i, .slice p2.B 1 1, .int .u64 p3.i, .slice p3.B 1 1][j]? = some v → W.cell? ⟨g, j, none⟩ = some v)
    (hc : p0.c = 1 ∧ p1.c = 1 ∧ p2.c = 1 ∧ p3.c = 1) (v0 : Vec .i32 W p0.B p0.c p0.x) (v1 : Vec .i32 W p1.B p1.c p1.x) (v2 : Vec .i32 W p2.B p2.c p2.x) (v3 : Vec .i32 W p3.B p3.c p3.x) (f0 : U64s p0.i) (f1 : U64s p1.i) (f2 : U64s p2.i) (f3 : U64s p3.i) : Rws W (some ⟨g, 0, none⟩) 4 [p0, p1, p2, p3] := by
  obtain ⟨l0, l1, l2, l3⟩ := hl
  obtain ⟨c0, c1, c2, c3⟩ := hc
  refine ⟨by simp, by omega, fun _ => ⟨g, 0, rfl, World.block_lt_of_cell? W _ (h 0 _ rfl), fun i p hp => ?_⟩, fun p hp => ?_, fun p hp => ?_⟩
  · match i, hp with
    | 0, hp => simp at hp; subst hp; exact ⟨h 0 _ rfl, by rw [l0, c0]; exact h 1 _ rfl⟩
    | 1, hp => simp at hp; subst hp; exact ⟨h 2 _ rfl, by rw [l1, c1]; exact h 3 _ rfl⟩
    | 2, hp => simp at hp; subst hp; exact ⟨h 4 _ rfl, by rw [l2, c2]; exact h 5 _ rfl⟩
    | 3, hp => simp at hp; subst hp; exact ⟨h 6 _ rfl, by rw [l3, c3]; exact h 7 _ rfl⟩
    | i + 4, hp => simp at hp
  · simp at hp; rcases hp with rfl | rfl | rfl | rfl <;> assumption
  · simp at hp; rcases hp with rfl | rfl | rfl | rfl <;> assumption

set_option maxHeartbeats 4000000 in
theorem wakes_any (w : World) : Calls Tryz.prog 4 #[] w fun e w' => e = .returned (.bool true) ∧ Below w.heap.size w w' := by
  obtain ⟨s, hs⟩ : ∃ s, s = w.heap.size := ⟨_, rfl⟩
  obtain ⟨X0, e0⟩ : ∃ X, X = w.alloc (.cells #[.int .i32 0] 21) := ⟨_, rfl⟩
  obtain ⟨X1, e1⟩ : ∃ X, X = X0.alloc (.cells #[.int .i32 10] 21) := ⟨_, rfl⟩
  obtain ⟨X2, e2⟩ : ∃ X, X = X1.alloc (.cells #[.int .i32 20] 21) := ⟨_, rfl⟩
  obtain ⟨X3, e3⟩ : ∃ X, X = X2.alloc (.cells #[.slice (some ⟨s, 0, none⟩) 1 1, .slice (some ⟨s + 1, 0, none⟩) 1 1, .slice (some ⟨s + 2, 0, none⟩) 1 1] 26) := ⟨_, rfl⟩
  obtain ⟨X4, e4⟩ : ∃ X, X = X3.alloc (.cells #[.int .i32 1] 21) := ⟨_, rfl⟩
  obtain ⟨X5, e5⟩ : ∃ X, X = X4.alloc (.cells #[.int .i32 9] 21) := ⟨_, rfl⟩
  obtain ⟨X6, e6⟩ : ∃ X, X = X5.alloc (.cells #[.int .i32 12] 21) := ⟨_, rfl⟩
  obtain ⟨X7, e7⟩ : ∃ X, X = X6.alloc (.cells #[.int .i32 22] 21) := ⟨_, rfl⟩
  obtain ⟨X8, e8⟩ : ∃ X, X = X7.alloc (.cells #[.int .u64 1, .slice (some ⟨s + 4, 0, none⟩) 1 1, .int .u64 2, .slice (some ⟨s + 5, 0, none⟩) 1 1, .int .u64 3, .slice (some ⟨s + 6, 0, none⟩) 1 1, .int .u64 4, .slice (some ⟨s + 7, 0, none⟩) 1 1] 52) := ⟨_, rfl⟩
  obtain ⟨X9, e9⟩ : ∃ X, X = X8.alloc (.cells #[.int .i32 6] 21) := ⟨_, rfl⟩
  have z0 : X0.heap.size = s + 1 := by rw [e0]; simp [← hs]
  have b0 : Below w.heap.size w X0 := by rw [e0]; exact bn1 _ _
  have z1 : X1.heap.size = s + 2 := by rw [e1]; simp [z0]
  have b1 : Below X0.heap.size X0 X1 := by rw [e1]; exact bn1 _ _
  have z2 : X2.heap.size = s + 3 := by rw [e2]; simp [z1]
  have b2 : Below X1.heap.size X1 X2 := by rw [e2]; exact bn1 _ _
  have z3 : X3.heap.size = s + 4 := by rw [e3]; simp [z2]
  have b3 : Below X2.heap.size X2 X3 := by rw [e3]; exact bn1 _ _
  have z4 : X4.heap.size = s + 5 := by rw [e4]; simp [z3]
  have b4 : Below X3.heap.size X3 X4 := by rw [e4]; exact bn1 _ _
  have z5 : X5.heap.size = s + 6 := by rw [e5]; simp [z4]
  have b5 : Below X4.heap.size X4 X5 := by rw [e5]; exact bn1 _ _
  have z6 : X6.heap.size = s + 7 := by rw [e6]; simp [z5]
  have b6 : Below X5.heap.size X5 X6 := by rw [e6]; exact bn1 _ _
  have z7 : X7.heap.size = s + 8 := by rw [e7]; simp [z6]
  have b7 : Below X6.heap.size X6 X7 := by rw [e7]; exact bn1 _ _
  have z8 : X8.heap.size = s + 9 := by rw [e8]; simp [z7]
  have b8 : Below X7.heap.size X7 X8 := by rw [e8]; exact bn1 _ _
  have z9 : X9.heap.size = s + 10 := by rw [e9]; simp [z8]
  have b9 : Below X8.heap.size X8 X9 := by rw [e9]; exact bn1 _ _
  have d9 : Below X9.heap.size X9 X9 := Below.refl _ _
  have d8 : Below X8.heap.size X8 X9 := b9.trans (d9.mono b9.size)
  have d7 : Below X7.heap.size X7 X9 := b8.trans (d8.mono b8.size)
  have d6 : Below X6.heap.size X6 X9 := b7.trans (d7.mono b7.size)
  have d5 : Below X5.heap.size X5 X9 := b6.trans (d6.mono b6.size)
  have d4 : Below X4.heap.size X4 X9 := b5.trans (d5.mono b5.size)
  have d3 : Below X3.heap.size X3 X9 := b4.trans (d4.mono b4.size)
  have d2 : Below X2.heap.size X2 X9 := b3.trans (d3.mono b3.size)
  have d1 : Below X1.heap.size X1 X9 := b2.trans (d2.mono b2.size)
  have d0 : Below X0.heap.size X0 X9 := b1.trans (d1.mono b1.size)
  have dw : Below w.heap.size w X9 := b0.trans (d0.mono b0.size)
  have v0 : Vec .i32 X9 (some ⟨s, 0, none⟩) 1 [0] := by have := vec_at32 w 0 (s) (hs) (by decide); rw [← e0] at this; exact this.below d0
  have v1 : Vec .i32 X9 (some ⟨s + 1, 0, none⟩) 1 [10] := by have := vec_at32 X0 10 (s + 1) (z0.symm) (by decide); rw [← e1] at this; exact this.below d1
  have v2 : Vec .i32 X9 (some ⟨s + 2, 0, none⟩) 1 [20] := by have := vec_at32 X1 20 (s + 2) (z1.symm) (by decide); rw [← e2] at this; exact this.below d2
  have v4 : Vec .i32 X9 (some ⟨s + 4, 0, none⟩) 1 [1] := by have := vec_at32 X3 1 (s + 4) (z3.symm) (by decide); rw [← e4] at this; exact this.below d4
  have v5 : Vec .i32 X9 (some ⟨s + 5, 0, none⟩) 1 [9] := by have := vec_at32 X4 9 (s + 5) (z4.symm) (by decide); rw [← e5] at this; exact this.below d5
  have v6 : Vec .i32 X9 (some ⟨s + 6, 0, none⟩) 1 [12] := by have := vec_at32 X5 12 (s + 6) (z5.symm) (by decide); rw [← e6] at this; exact this.below d6
  have v7 : Vec .i32 X9 (some ⟨s + 7, 0, none⟩) 1 [22] := by have := vec_at32 X6 22 (s + 7) (z6.symm) (by decide); rw [← e7] at this; exact this.below d7
  have v9 : Vec .i32 X9 (some ⟨s + 9, 0, none⟩) 1 [6] := by have := vec_at32 X8 6 (s + 9) (z8.symm) (by decide); rw [← e9] at this; exact this.below d9
  have hc3 : ∀ (j : Nat) (v : Value), #[Value.slice (some ⟨s, 0, none⟩) 1 1, .slice (some ⟨s + 1, 0, none⟩) 1 1, .slice (some ⟨s + 2, 0, none⟩) 1 1][j]? = some v → X9.cell? ⟨s + 3, j, none⟩ = some v := fun j v hv => by
    have h := (cell_at X2 #[Value.slice (some ⟨s, 0, none⟩) 1 1, .slice (some ⟨s + 1, 0, none⟩) 1 1, .slice (some ⟨s + 2, 0, none⟩) 1 1] 26 j (s + 3) z2.symm).trans hv
    rw [← e3] at h
    exact (d3.cell (World.block_lt_of_cell? _ _ h)).trans h
  have hc8 : ∀ (j : Nat) (v : Value), #[Value.int .u64 1, .slice (some ⟨s + 4, 0, none⟩) 1 1, .int .u64 2, .slice (some ⟨s + 5, 0, none⟩) 1 1, .int .u64 3, .slice (some ⟨s + 6, 0, none⟩) 1 1, .int .u64 4, .slice (some ⟨s + 7, 0, none⟩) 1 1][j]? = some v → X9.cell? ⟨s + 8, j, none⟩ = some v := fun j v hv => by
    have h := (cell_at X7 #[Value.int .u64 1, .slice (some ⟨s + 4, 0, none⟩) 1 1, .int .u64 2, .slice (some ⟨s + 5, 0, none⟩) 1 1, .int .u64 3, .slice (some ⟨s + 6, 0, none⟩) 1 1, .int .u64 4, .slice (some ⟨s + 7, 0, none⟩) 1 1] 52 j (s + 8) z7.symm).trans hv
    rw [← e8] at h
    exact (d8.cell (World.block_lt_of_cell? _ _ h)).trans h
  have hC : Vecs .i32 X9 (some ⟨s + 3, 0, none⟩) 3 wC := vecs_three (hc3 0 _ rfl) (hc3 1 _ rfl) (hc3 2 _ rfl) v0 v1 v2
  have hR : Rws X9 (some ⟨s + 8, 0, none⟩) 4 [⟨1, [1], some ⟨s + 4, 0, none⟩, 1⟩, ⟨2, [9], some ⟨s + 5, 0, none⟩, 1⟩, ⟨3, [12], some ⟨s + 6, 0, none⟩, 1⟩, ⟨4, [22], some ⟨s + 7, 0, none⟩, 1⟩] :=
    rws_four ⟨rfl, rfl, rfl, rfl⟩ hc8 ⟨rfl, rfl, rfl, rfl⟩ v4 v5 v6 v7 (u64_lit 1 (by omega) (by omega)) (u64_lit 2 (by omega) (by omega)) (u64_lit 3 (by omega) (by omega)) (u64_lit 4 (by omega) (by omega))
  have H1 := Lib.hid (show Calls Tryz.prog 11 #[.slice (some ⟨s + 8, 0, none⟩) 4 4, .slice (some ⟨s + 3, 0, none⟩) 3 3, .agg #[.slice (some ⟨s + 9, 0, none⟩) 1 1, .int .i64 3, .int .u64 0, .int .i64 1]] X9 (GivesHE X9 [(2, 9), (3, 36)] 0) from by
    have h := rowsP_any (some ⟨s + 8, 0, none⟩) 4 _ (some ⟨s + 3, 0, none⟩) 3 wC [6] (some ⟨s + 9, 0, none⟩) 1 3 0 1 X9 hR hC v9 (by simp)
    rw [show rvs [⟨1, [1], some ⟨s + 4, 0, none⟩, 1⟩, ⟨2, [9], some ⟨s + 5, 0, none⟩, 1⟩, ⟨3, [12], some ⟨s + 6, 0, none⟩, 1⟩, ⟨4, [22], some ⟨s + 7, 0, none⟩, 1⟩] = wR from rfl, wk2, wk3] at h
    exact h)
  have H2 := Lib.hid (fun (X : World) (hX : Below X9.heap.size X9 X) (B : Option Addr) (hB : Vec .i32 X B 1 [6]) => show Calls Tryz.prog 13 #[.slice (some ⟨s + 3, 0, none⟩) 3 3, .slice B 1 1, .int .i64 2] X (GivesNr X [1, 0] 0) from by
    have h := nearP_any (some ⟨s + 3, 0, none⟩) B 3 1 wC [6] 2 X (hC.below hX) hB
    rw [wk4, wk5] at h
    exact h)
  have H3 := Lib.hid (fun (X : World) (hX : Below X9.heap.size X9 X) (B : Option Addr) (hB : Vec .i32 X B 1 [6]) => show Calls Tryz.prog 11 #[.slice (some ⟨s + 8, 0, none⟩) 4 4, .slice none 0 0, .agg #[.slice B 1 1, .int .i64 3, .int .u64 0, .int .i64 1]] X (GivesHE X [] 240) from by
    have h := rowsP_any (some ⟨s + 8, 0, none⟩) 4 _ none 0 [] [6] B 1 3 0 1 X (hR.below hX) (Vecs.nil _ _) hB (by simp)
    rw [show rvs [⟨1, [1], some ⟨s + 4, 0, none⟩, 1⟩, ⟨2, [9], some ⟨s + 5, 0, none⟩, 1⟩, ⟨3, [12], some ⟨s + 6, 0, none⟩, 1⟩, ⟨4, [22], some ⟨s + 7, 0, none⟩, 1⟩] = wR from rfl, wk6, wk7] at h
    exact h)
  have HS := Lib.hid hs
  have HW := Lib.hid (show X9 = ((((((((((w.alloc (.cells #[.int .i32 0] 21)).alloc (.cells #[.int .i32 10] 21)).alloc (.cells #[.int .i32 20] 21)).alloc (.cells #[.slice (some ⟨s, 0, none⟩) 1 1, .slice (some ⟨s + 1, 0, none⟩) 1 1, .slice (some ⟨s + 2, 0, none⟩) 1 1] 26)).alloc (.cells #[.int .i32 1] 21)).alloc (.cells #[.int .i32 9] 21)).alloc (.cells #[.int .i32 12] 21)).alloc (.cells #[.int .i32 22] 21)).alloc (.cells #[.int .u64 1, .slice (some ⟨s + 4, 0, none⟩) 1 1, .int .u64 2, .slice (some ⟨s + 5, 0, none⟩) 1 1, .int .u64 3, .slice (some ⟨s + 6, 0, none⟩) 1 1, .int .u64 4, .slice (some ⟨s + 7, 0, none⟩) 1 1] 52)).alloc (.cells #[.int .i32 6] 21)) from by rw [e9, e8, e7, e6, e5, e4, e3, e2, e1, e0])
  have HD := Lib.hid dw
  clear e0 z0 b0 d0 e1 z1 b1 d1 e2 z2 b2 d2 e3 z3 b3 d3 e4 z4 b4 d4 e5 z5 b5 d5 e6 z6 b6 d6 e7 z7 b7 d7 e8 z8 b8 d8 e9 z9 b9 d9 v0 v1 v2 v4 v5 v6 v7 v9 dw hc3 hc8 hC hR hs
  go_enter Tryz.func4, Tryz.ntmps4
  go_wp2_with fail
  simp only [Nat.add_assoc, Nat.reduceAdd]
  rw [← HS.out, ← HW.out]
  refine H1.out.mono ?_
  rintro e w1 ⟨A1, c1, rfl, ho1, hb1⟩
  have hb2 : Below X9.heap.size X9 (w1.alloc (.cells #[.int .i32 6] 21)) := hb1.alloc hb1.size _
  have h2 := H2.out _ hb2 (some ⟨w1.heap.size, 0, none⟩) (vec_one32 w1 6 (by decide))
  have HH2 := Lib.hid h2
  have HO1 := Lib.hid ho1
  have HB1 := Lib.hid hb1
  have HB2 := Lib.hid hb2
  clear ho1 hb1 hb2 h2
  go_wp2_with fail
  refine HH2.out.mono ?_
  rintro e w2 ⟨B, d, rfl, ho2, hb3⟩
  have hb4 : Below X9.heap.size X9 (w2.alloc (.cells #[.int .i32 6] 21)) := (HB2.out.trans (hb3.mono HB2.out.size)).alloc (Nat.le_trans HB2.out.size hb3.size) _
  have HH3 := Lib.hid (H3.out _ hb4 (some ⟨w2.heap.size, 0, none⟩) (vec_one32 w2 6 (by decide)))
  have HO2 := Lib.hid ho2
  have HB3 := Lib.hid hb3
  have HB4 := Lib.hid hb4
  clear ho2 hb3 hb4
  go_wp2_with fail
  refine HH3.out.mono ?_
  rintro e w3 ⟨A3, c3, rfl, ho3, hb5⟩
  have hr := (bn1 w2 (.cells #[.int .i32 6] 21)).trans (hb5.mono (by simp))
  have hr1 := ((bn1 w1 (.cells #[.int .i32 6] 21)).trans (HB3.out.mono (by simp))).trans (hr.mono (Nat.le_trans (by simp) HB3.out.size))
  have hh := (HO1.out.below hr1).hits
  obtain ⟨b, rfl, hbl, h1, h2, hcs⟩ := (HO2.out.below hr).at_ (by simp)
  have n0 := hcs 0 1 rfl
  obtain ⟨g, o, rfl, _, d0, d1⟩ := hh.at_ (j := 0) (by simp)
  have hc2 := hh.room
  have hm2 := hh.most
  have d0 : w3.cell? ⟨g, o, none⟩ = some (.int .u64 2) := d0
  have d1 : w3.cell? ⟨g, o + 1, none⟩ = some (.int .u64 9) := d1
  have n0 : w3.cell? ⟨b, 0, none⟩ = some (.int .i64 1) := n0
  have HBB := Lib.hid (HD.out.trans ((HB4.out.trans (hb5.mono HB4.out.size)).mono HD.out.size))
  clear ho3 hb5 hr hr1 hh hcs
  go_wp2
  go_ret
  exact ⟨by simp, HBB.out⟩
end Go.Proofs.YtcekgllahlhaaaaGreatDoor

namespace Go.Proofs.YtcekgllahlhaaaaGreatDoor
open Go.RowKit Go.Shelf
set_option linter.unusedVariables false
set_option linter.unusedSimpArgs false
set_option maxRecDepth 100000

theorem Vec.cut {k : IntKind} {w : World} {A : Option Addr} {c : Nat} {xs : List Int} (h : Vec k w A c xs) (m : Nat) : Vec k w A c (xs.take m) := by
  refine ⟨by rw [List.length_take]; have := h.room; omega, h.most, fun hp => ?_, fun x hx => h.fit x (List.mem_of_mem_take hx)⟩
  rw [List.length_take] at hp
  obtain ⟨b, o, e, hb, hc⟩ := h.rd (by omega)
  refine ⟨b, o, e, hb, fun j hj => ?_⟩
  rw [List.length_take] at hj
  have hg : (xs.take m).getD j 0 = xs.getD j 0 := by rw [List.getD_eq_getElem?_getD, List.getD_eq_getElem?_getD, List.getElem?_take_of_lt (by omega)]
  rw [hg]
  exact hc j (by omega)

set_option maxHeartbeats 1000000 in
theorem vecL_any (A : Option Addr) (c : Nat) (x : List Int) (w : World) (h : Vec .i32 w A c x) :
    Calls Tryz.prog 14 #[.slice A x.length c] w fun e w' => ∃ A' c', e = .returned (.slice A' (x.take 5).length c') ∧ OwnV w.heap.size w' A' c' (x.take 5) ∧ Below w.heap.size w w' := by
  obtain ⟨n, hn⟩ : ∃ n, n = x.length := ⟨_, rfl⟩
  obtain ⟨m, hm⟩ : ∃ m, m = (x.take 5).length := ⟨_, rfl⟩
  have hmn : m = min n 5 := by rw [hm, List.length_take, hn]; omega
  have hmin : min (n : Int) 5 = (m : Int) := by omega
  have HO := Lib.hid (show (w.alloc (.cells #[] 21)).ownsRow w.heap.size 21 1 (.slice (some ⟨w.heap.size, 0, none⟩) 0 0) 0 [] from World.ownsRow_made (base := w.heap.size) (size := 1) (e := 21) w #[] 0 (Nat.le_refl _) (Nat.zero_le _) rfl)
  have hb := bn1 w (.cells #[] 21)
  have HR := Lib.hid (show Read (w.alloc (.cells #[] 21)) A m 1 ((x.take 5).map (Value.int .i32)) from by rw [hm]; exact Read.vec ((h.below hb).cut 5))
  have HF := Lib.hid (fun y (hy : y ∈ x.take 5) => h.fit y (List.mem_of_mem_take hy))
  have HB := Lib.hid hb
  have HM := Lib.hid hm
  have hrd := h.rd
  have hnc := h.room
  have hcm := h.most
  rw [← hn] at hrd hnc
  rw [← hn, ← hm]
  clear h hb hn hm
  cases A with
  | none =>
    have hn0 : n = 0 := by
      apply Nat.eq_zero_of_not_pos
      intro hp
      obtain ⟨b, o, e, _⟩ := hrd hp
      cases e
    have hm0 : m = 0 := by omega
    subst hn0 hm0
    clear hrd hmn
    go_enter Tryz.func14, Tryz.ntmps14
    go_wp2_with (at_builtin; refine gapp_at rfl (.tmp 3) (.tmp 8) appI rfl w.heap.size (some ⟨w.heap.size, 0, none⟩) 0 0 [] rfl HO.out none c 0 _ rfl HR.out (by omega) (by simp) ?_; intro A1 c1 w1 ho hg _; have HO1 := Lib.hid ho; have HB1 := Lib.hid (HB.out.grown hg HB.out.size (fun k hk => Nat.le_of_eq (show w.heap.size = k by simpa [blk] using hk))); clear ho hg)
    go_ret
    refine ⟨A1, c1, rfl, ⟨?_, HF.out⟩, HB1.out⟩
    have := HO1.out
    rw [Nat.zero_add, List.nil_append] at this
    rw [← HM.out]
    exact this
  | some a =>
    obtain ⟨b, o, sp⟩ := a
    have hmc : m ≤ c := by omega
    have m0 : (0 : Int) ≤ m := by omega
    have mc : (m : Int) ≤ c := by omega
    have mn : (m : Int) ≤ n := by omega
    clear hrd hmn
    go_enter Tryz.func14, Tryz.ntmps14
    go_wp2_with (at_builtin; refine gapp_at rfl (.tmp 3) (.tmp 8) appI rfl w.heap.size (some ⟨w.heap.size, 0, none⟩) 0 0 [] rfl HO.out (some ⟨b, o, sp⟩) c m _ rfl HR.out (by omega) (by simp) ?_; intro A1 c1 w1 ho hg _; have HO1 := Lib.hid ho; have HB1 := Lib.hid (HB.out.grown hg HB.out.size (fun k hk => Nat.le_of_eq (show w.heap.size = k by simpa [blk] using hk))); clear ho hg)
    go_ret
    refine ⟨A1, c1, by simp, ⟨?_, HF.out⟩, HB1.out⟩
    have := HO1.out
    rw [Nat.zero_add, List.nil_append] at this
    rw [← HM.out]
    exact this

def cutC (C : List (List Int)) : List (List Int) := (C.take 7).map (·.take 5)
theorem cutC_at {C : List (List Int)} {k : Nat} {x : List Int} (h : C[k]? = some x) (hk : k < 7) : (cutC C)[k]? = some (x.take 5) := by
  unfold cutC; rw [List.getElem?_map, List.getElem?_take_of_lt hk, h]; rfl
theorem cutC_len (C : List (List Int)) : (cutC C).length = min 7 C.length := by simp [cutC]

set_option maxHeartbeats 2000000 in
theorem vecsO_any (A : Option Addr) (c : Nat) (C : List (List Int)) (w : World) (h : Vecs .i32 w A c C) :
    Calls Tryz.prog 8 #[.slice A C.length c] w fun e w' => ∃ A' c' q', e = .returned (.slice A' (cutC C).length c') ∧ vals q' = cutC C ∧ OwnVs w.heap.size w' A' c' q' ∧ Below w.heap.size w w' := by
  obtain ⟨n, hn⟩ : ∃ n, n = C.length := ⟨_, rfl⟩
  have hmx := Nat.le_trans h.room h.most
  have HV := Lib.hid (fun (X : World) (B : Option Addr) (cb : Nat) (x : List Int) (hx : Vec .i32 X B cb x) => vecL_any B cb x X hx)
  have HC := Lib.hid h
  have HN := Lib.hid hn
  rw [← hn] at hmx ⊢
  clear h hn
  go_enter Tryz.func8, Tryz.ntmps8
  go_wp2
  go_loopw [3, 8] (fun v i wr => ∃ (k n1 : Nat) (A1 : Option Addr) (c1 : Nat), k ≤ n ∧ i = .int .i64 k ∧ v = .slice A1 n1 c1 ∧ n1 ≤ k ∧ Hid (CpI w (cutC C) n1 n1 A1 c1 wr) ∧ Hid (n1 = min k 7)) (fun _ i _ => n - (intOf i).toNat)
  case atStart => exact ⟨0, 0, none, 0, Nat.zero_le _, rfl, rfl, Nat.le_refl _, Lib.hid (CpI.zero _ _), Lib.hid rfl⟩
  case round =>
    obtain ⟨k, n1, A1, c1, hk, rfl, rfl, hn1, HI, HM⟩ := hrel
    by_cases hkn : k < n
    · obtain ⟨q, _, _, _, hbw⟩ := HI.out
      obtain ⟨b, o, x, Bx, cb, rfl, hx, hb, cx, hv⟩ := (HC.out.below hbw).at_ (i := k) (by rw [← HN.out]; exact hkn)
      obtain ⟨xl, hxl⟩ : ∃ xl, xl = x.length := ⟨_, rfl⟩
      have hc := HV.out wr Bx cb x hv
      rw [← hxl] at hc cx
      have HCl := Lib.hid hc
      have HX := Lib.hid hx
      have k0 : (0 : Int) ≤ k := by omega
      have kn : (k : Int) < n := by omega
      clear hx hb hv hc hxl hbw
      by_cases h7 : k < 7
      · obtain rfl : n1 = k := by have := HM.out; omega
        have t1 : decide ((n1 : Int) ≤ 6) = true := by simp; omega
        have t2 : decide (n1 ≤ 6) = true := by simp; omega
        go_wp2_with fail
        refine HCl.out.mono ?_
        rintro e w2 ⟨B2, c2, he, hv2, hb2⟩
        obtain ⟨xs, hxs⟩ : ∃ xs, xs = (x.take 5).length := ⟨_, rfl⟩
        rw [← hxs] at he
        subst he
        obtain ⟨V, hV⟩ : ∃ V, V = w2.alloc (.cells #[.slice B2 xs c2] 26) := ⟨_, rfl⟩
        obtain ⟨_, _, _, _, hbw⟩ := HI.out
        obtain ⟨vs, r1, r2, r3, r4, r5⟩ := HI.out.step (V := V) (cutC_at HX.out h7) hb2 (hv2.mono hbw.size) (by rw [← hxs]; exact hV)
        rw [← hxs] at r1 r5
        have HVV := Lib.hid hV
        have HR := Lib.hid r1
        have HO := Lib.hid r2
        have HN5 := Lib.hid r5
        have HM5 := Lib.hid (show n1 + 1 = min (n1 + 1) 7 by omega)
        clear hv2 hb2 r1 r2 r5 hV hxs hbw
        go_wp2_with (at_builtin; rw [← HVV.out]; refine gapp_at rfl (.tmp 15) (.tmp 18) appV rfl w.heap.size A1 c1 n1 vs rfl HO.out (some ⟨w2.heap.size, 0, none⟩) 1 1 [.slice B2 xs c2] rfl HR.out (by omega) r3 ?_; intro A5 c5 w4 ho hg _; have HN4 := Lib.hid (HN5.out A5 c5 w4 ho hg); clear ho hg)
        go_roundw
        case rel => exact ⟨n1 + 1, n1 + 1, A5, c5, by omega, by go_num, rfl, by omega, HN4, HM5⟩
        case measure => simp [intOf]; omega
      · have t1 : decide ((k : Int) ≤ 6) = false := by simp; omega
        have t2 : decide (k ≤ 6) = false := by simp; omega
        have HM5 := Lib.hid (show n1 = min (k + 1) 7 by have := HM.out; omega)
        go_wp2
        go_roundw
        case rel => exact ⟨k + 1, n1, A1, c1, by omega, by go_num, rfl, by omega, HI, HM5⟩
        case measure => simp [intOf]; omega
    · obtain rfl : k = n := by omega
      obtain ⟨q, q1, q2, q3, hbw⟩ := HI.out
      have hn1l : n1 = (cutC C).length := by rw [cutC_len, ← HN.out, HM.out]; omega
      rw [hn1l, List.take_length] at q2
      have HF := Lib.hid (And.intro hn1l (And.intro q2 (And.intro q3 hbw)))
      clear q1 q2 q3 hbw hn1l
      go_wp2
      go_ret
      exact ⟨A1, c1, q, by rw [← HF.out.1]; simp, HF.out.2.1, HF.out.2.2.1, HF.out.2.2.2⟩
theorem vecsL_any (A : Option Addr) (c : Nat) (C : List (List Int)) (w : World) (h : Vecs .i32 w A c C) :
    Calls Tryz.prog 8 #[.slice A C.length c] w fun e w' => ∃ A' c', e = .returned (.slice A' (cutC C).length c') ∧ Vecs .i32 w' A' c' (cutC C) ∧ Below w.heap.size w w' :=
  (vecsO_any A c C w h).mono fun e w' ⟨A', c', q, he, hq, ho, hb⟩ => ⟨A', c', he, by rw [← hq]; exact ho.vecs, hb⟩

def cutR (l : List Rv) : List Rv := (l.take 60).map fun p => (p.1, p.2.take 5)
theorem cutR_at {l : List Rv} {k : Nat} {p : Rv} (h : l[k]? = some p) (hk : k < 60) : (cutR l)[k]? = some (p.1, p.2.take 5) := by
  unfold cutR; rw [List.getElem?_map, List.getElem?_take_of_lt hk, h]; rfl
theorem cutR_len (l : List Rv) : (cutR l).length = min 60 l.length := by simp [cutR]
theorem apart_rowR {base base' : Nat} {w : World} {A B : Option Addr} {c cb : Nat} {q : List Pr} {xs : List Int} (h : OwnR base w A c q) (hB : OwnV base' w B cb xs) : ∀ i, blk B = some i → blk A ≠ some i := by
  intro i hi ha
  rcases hB.1.2 with ⟨e, h0⟩ | ⟨g, cap, cur, e, hg, hh, _⟩
  · injection e with e1; rw [e1] at hi; cases hi
  · injection e with e1
    rw [e1] at hi
    rcases h.2 with ⟨e', _⟩ | ⟨g', cap', cur', e', _, hh', _⟩
    · injection e' with e1'; rw [e1'] at ha; cases ha
    · injection e' with e1'
      rw [e1'] at ha
      have h1 : g = i := by simpa [blk] using hi
      have h2 : g' = i := by simpa [blk] using ha
      subst h1 h2
      rw [hh] at hh'
      injection hh' with hh'
      injection hh' with _ ht _
      exact absurd ht (by decide)
/-- Rows of the call's own, so far. -/
def RpI (w : World) (l : List Rv) (n : Nat) (A1 : Option Addr) (c1 : Nat) (wr : World) : Prop := ∃ q, List.length q = n ∧ rvs q = l.take n ∧ OwnR w.heap.size wr A1 c1 q ∧ (∀ p ∈ q, OwnV w.heap.size wr p.B p.c p.x) ∧ (∀ p ∈ q, U64s p.i) ∧ Below w.heap.size w wr
theorem RpI.zero (w : World) (l : List Rv) : RpI w l 0 none 0 w := ⟨[], rfl, by simp [rvs], World.ownsRow_nil _ _ _ _, by simp, by simp, Below.refl _ _⟩
theorem RpI.step {w wr W V : World} {l : List Rv} {n : Nat} {A1 B : Option Addr} {c1 cb : Nat} {i : Int} {x : List Int} (h : RpI w l n A1 c1 wr) (hx : l[n]? = some (i, x)) (hi : U64s i) (hW : Below wr.heap.size wr W) (hv : OwnV w.heap.size W B cb x)
    (hV : V = W.alloc (.cells #[.int .u64 i, .slice B x.length cb] 52)) :
    ∃ vs, Read V (some ⟨W.heap.size, 0, none⟩) 1 2 [.int .u64 i, .slice B x.length cb] ∧ V.ownsRow w.heap.size 52 2 (.slice A1 n c1) n vs ∧ w.heap.size ≤ V.heap.size ∧
      ∀ A2 c2 W', W'.ownsRow w.heap.size 52 2 (.slice A2 (n + 1) c2) (n + 1) (vs ++ [.int .u64 i, .slice B x.length cb]) → V.grownBy W' (blk A1) → RpI w l (n + 1) A2 c2 W' := by
  obtain ⟨q, h1, h2, h3, h4, h5, h6⟩ := h
  subst h1
  have hbV : Below W.heap.size W V := by rw [hV]; exact bn1 _ _
  have hb := hW.trans (hbV.mono hW.size)
  have hs := h6.size
  have hs1 := hW.size
  have hs2 := hbV.size
  refine ⟨flatR q, by rw [hV]; exact Read.two rfl rfl (cell_laid _ _ _ 0) (cell_laid _ _ _ 1), OwnR.below h3 hb, by omega, fun A2 c2 W' hr hg => ?_⟩
  have ht : Turn (fun i => blk A1 = some i) V W' := Turn.of_grown hg (fun i hi => .inl hi)
  have h3V : OwnR w.heap.size V A1 c1 q := OwnR.below h3 hb
  have other : ∀ {B' : Option Addr} {cb' : Nat} {xs : List Int}, OwnV w.heap.size V B' cb' xs → OwnV w.heap.size W' B' cb' xs := fun hB => ⟨row_turn hB.1 ht (fun i hi => by rw [own_blk] at hi; exact apart_rowR h3V hB i hi), hB.2⟩
  refine ⟨q ++ [⟨i, x, B, cb⟩], by simp, ?_, ?_, fun p hp => ?_, fun p hp => ?_, (h6.trans (hb.mono hs)).trans (grown_below hg (by omega) (fun i hi => (OwnR.low h3 i hi).1))⟩
  · rw [rvs_append, h2, List.take_add_one, hx]; rfl
  · unfold OwnR; rw [flatR_append, List.length_append]; exact hr
  · rcases List.mem_append.1 hp with hp | hp
    · exact other ((h4 p hp).below hb)
    · obtain rfl : p = ⟨i, x, B, cb⟩ := by simpa using hp
      exact other (hv.below hbV)
  · rcases List.mem_append.1 hp with hp | hp
    · exact h5 p hp
    · obtain rfl : p = ⟨i, x, B, cb⟩ := by simpa using hp
      exact hi

/-- Rows of the call's own, their vectors too. -/
structure OwnRs (base : Nat) (w : World) (A : Option Addr) (c : Nat) (q : List Pr) : Prop where
  row : OwnR base w A c q
  el : ∀ p ∈ q, OwnV base w p.B p.c p.x
  fit : ∀ p ∈ q, U64s p.i
theorem OwnRs.rws {base : Nat} {w : World} {A : Option Addr} {c : Nat} {q : List Pr} (h : OwnRs base w A c q) : Rws w A c q := own_rws h.row (fun p hp => (h.el p hp).vec) h.fit
theorem OwnRs.mono {base b : Nat} {w : World} {A : Option Addr} {c : Nat} {q : List Pr} (h : OwnRs base w A c q) (hb : b ≤ base) : OwnRs b w A c q := ⟨World.ownsRow.mono h.row hb, fun p hp => ⟨World.ownsRow.mono (h.el p hp).1 hb, (h.el p hp).2⟩, h.fit⟩
theorem OwnRs.below {base : Nat} {w w' : World} {A : Option Addr} {c : Nat} {q : List Pr} (h : OwnRs base w A c q) (hb : Below w.heap.size w w') : OwnRs base w' A c q := ⟨OwnR.below h.row hb, fun p hp => (h.el p hp).below hb, h.fit⟩

set_option maxHeartbeats 2000000 in
theorem someO_any (Av : Option Addr) (cv : Nat) (v : List Int) (kq ts N : Int) (w : World) (h : Vec .i32 w Av cv v) :
    Calls Tryz.prog 6 #[pv Av v.length cv kq ts N] w fun e w' => ∃ A' c', e = .returned (pv A' (v.take 5).length c' kq ts N) ∧ OwnV w.heap.size w' A' c' (v.take 5) ∧ Below w.heap.size w w' := by
  obtain ⟨g, hg⟩ : ∃ g, g = w.heap.size := ⟨_, rfl⟩
  obtain ⟨nv, hnv⟩ : ∃ n, n = v.length := ⟨_, rfl⟩
  obtain ⟨xs, hxs⟩ : ∃ xs, xs = (v.take 5).length := ⟨_, rfl⟩
  obtain ⟨W0, hW0⟩ : ∃ W0, W0 = (w.alloc (.cells #[.slice Av nv cv, .int .i64 kq, .int .u64 ts, .int .i64 N] 31)).alloc (.cells #[.slice none 0 0, .int .i64 0, .int .u64 0, .int .i64 0] 31) := ⟨_, rfl⟩
  have hb0 : Below w.heap.size w W0 := by rw [hW0]; exact bn2 _ _ _
  have hx0 : W0.heap[g]? = some (.cells #[.slice Av nv cv, .int .i64 kq, .int .u64 ts, .int .i64 N] 31 (0, 0)) := by rw [hW0, hg]; exact (Below.heap_alloc _ _ _ (by simp)).trans (heap_alloc_new _ _)
  have hx1 : W0.heap[g + 1]? = some (.cells #[.slice none 0 0, .int .i64 0, .int .u64 0, .int .i64 0] 31 (0, 0)) := by
    have h := heap_alloc_new (w.alloc (.cells #[.slice Av nv cv, .int .i64 kq, .int .u64 ts, .int .i64 N] 31)) (.cells #[.slice none 0 0, .int .i64 0, .int .u64 0, .int .i64 0] 31)
    rw [World.size_alloc, ← hg, ← hW0] at h
    exact h
  have hc := vecL_any Av cv v W0 (h.below hb0)
  rw [← hnv, ← hxs] at hc
  have HC := Lib.hid hc
  have HX := Lib.hid (And.intro hx0 hx1)
  have HB0 := Lib.hid hb0
  have HW0 := Lib.hid hW0
  have HG := Lib.hid hg
  rw [← hnv, ← hxs]
  obtain ⟨x0, x1, x2, x3⟩ : PBox W0 g Av nv cv kq ts N := ⟨(cell_of_row _ _ 0 _ _ _ hx0).trans rfl, (cell_of_row _ _ 1 _ _ _ hx0).trans rfl, (cell_of_row _ _ 2 _ _ _ hx0).trans rfl, (cell_of_row _ _ 3 _ _ _ hx0).trans rfl⟩
  have HZ := Lib.hid (show W0.heap.size = g + 2 by rw [hW0, hg]; simp)
  clear h hg hnv hxs hW0 hb0 hx0 hx1 hc
  unfold pv
  go_enter Tryz.func6, Tryz.ntmps6
  go_wp2_with (rw [← HW0.out, ← HG.out])
  refine HC.out.mono ?_
  rintro e w1 ⟨B, d, rfl, hv, hb1⟩
  have y0 := (hb1.block _ (lt_of_block HX.out.1)).trans HX.out.1
  have y1 := (hb1.block _ (lt_of_block HX.out.2)).trans HX.out.2
  have r0 := (cell_of_row _ _ 0 _ _ _ y0).trans rfl
  have r1 := (cell_of_row _ _ 1 _ _ _ y0).trans rfl
  have r2 := (cell_of_row _ _ 2 _ _ _ y0).trans rfl
  have r3 := (cell_of_row _ _ 3 _ _ _ y0).trans rfl
  have s0 := (cell_of_row _ _ 0 _ _ _ y1).trans rfl
  have s1 := (cell_of_row _ _ 1 _ _ _ y1).trans rfl
  have s2 := (cell_of_row _ _ 2 _ _ _ y1).trans rfl
  have s3 := (cell_of_row _ _ 3 _ _ _ y1).trans rfl
  have f0 : w1.frozen? ⟨g, 0, none⟩ = false := frozen_of_row _ _ _ _ _ y0
  have q0 : w1.frozen? ⟨g + 1, 0, none⟩ = false := frozen_of_row _ _ _ _ _ y1
  have q1 : w1.frozen? ⟨g + 1, 1, none⟩ = false := frozen_of_row _ _ _ _ _ y1
  have q2 : w1.frozen? ⟨g + 1, 2, none⟩ = false := frozen_of_row _ _ _ _ _ y1
  have q3 : w1.frozen? ⟨g + 1, 3, none⟩ = false := frozen_of_row _ _ _ _ _ y1
  have h0 := (Below.heap_setCell w1 ⟨g, 0, none⟩ (.slice B xs d) (g + 1) (by simp)).trans y1
  have h1 := heap_setCell_same _ (g + 1) 0 _ _ (.slice B xs d) h0
  have h2 := heap_setCell_same _ (g + 1) 1 _ _ (.int .i64 kq) h1
  have h3 := heap_setCell_same _ (g + 1) 2 _ _ (.int .u64 ts) h2
  have h4 := heap_setCell_same _ (g + 1) 3 _ _ (.int .i64 N) h3
  have u0 := (cell_of_row _ _ 0 _ _ _ h4).trans rfl
  have u1 := (cell_of_row _ _ 1 _ _ _ h4).trans rfl
  have u2 := (cell_of_row _ _ 2 _ _ _ h4).trans rfl
  have u3 := (cell_of_row _ _ 3 _ _ _ h4).trans rfl
  have t := ((((turn_set w1 g 0 (.slice B xs d)).mono (S' := fun i => i = g ∨ i = g + 1) (fun i hi => .inl hi)).trans (turn_set _ (g + 1) 0 (.slice B xs d)) (fun i hi => .inl (.inr hi))).trans (turn_set _ (g + 1) 1 (.int .i64 kq)) (fun i hi => .inl (.inr hi))).trans ((turn_set _ (g + 1) 2 (.int .u64 ts)).trans (turn_set _ (g + 1) 3 (.int .i64 N)) (fun i hi => .inl hi)) (fun i hi => .inl (.inr hi))
  have HF := Lib.hid (And.intro (show OwnV W0.heap.size _ B d (v.take 5) from ⟨row_turn hv.1 t (fun i hi e => by have := (World.ownsRow.lt hv.1 i hi).1; have := HZ.out; omega), hv.2⟩) ((HB0.out.trans (hb1.mono HB0.out.size)).trans (t.below (Nat.le_trans HB0.out.size hb1.size) (fun i hi => by have := HG.out; omega))))
  clear x0 x1 x2 x3 y0 y1 h0 h1 h2 h3 h4 t hv hb1
  go_wp2
  refine bodyPost_ret (v := .agg #[.slice B xs d, .int .i64 kq, .int .u64 ts, .int .i64 N]) (by simp [results, Tryz.results6, go_sem, u0, u1, u2, u3]) rfl ?_
  exact ⟨B, d, rfl, ⟨World.ownsRow.mono HF.out.1.1 HB0.out.size, HF.out.1.2⟩, HF.out.2⟩
theorem someL_any (Av : Option Addr) (cv : Nat) (v : List Int) (kq ts N : Int) (w : World) (h : Vec .i32 w Av cv v) :
    Calls Tryz.prog 6 #[pv Av v.length cv kq ts N] w fun e w' => ∃ A' c', e = .returned (pv A' (v.take 5).length c' kq ts N) ∧ Vec .i32 w' A' c' (v.take 5) ∧ Below w.heap.size w w' :=
  (someO_any Av cv v kq ts N w h).mono fun e w' ⟨A', c', he, ho, hb⟩ => ⟨A', c', he, ho.vec, hb⟩
end Go.Proofs.YtcekgllahlhaaaaGreatDoor
