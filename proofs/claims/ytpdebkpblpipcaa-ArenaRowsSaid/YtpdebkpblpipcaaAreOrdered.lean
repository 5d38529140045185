/-
  ordered: the slots of the used cells that are wanted, in order.
-/
import Derived.Test.YtpdebkpblpipcaaAreSort2
namespace Go.Proofs.Ytpdebkpblpipcaa
open Go.RowKit Go.Shelf
set_option linter.unusedVariables false
set_option linter.unusedSimpArgs false
set_option maxRecDepth 100000
attribute [local go_sem] Oper.semAt_some

/-- The slots of the used cells of which P holds. -/
def pickL (l : List Ce) (P : Ce → Bool) : List Nat := (List.range l.length).filter fun k => (ceAt l k).u && P (ceAt l k)
theorem pick_sel (q : List Pa) (P : Ce → Bool) : ∀ k, k ≤ q.length → ((selU q k).filter fun x => P x.2.e).map (fun x => x.1) = (List.range k).filter fun j => (ceAt (ces q) j).u && P (ceAt (ces q) j) := by
  intro k
  induction k with
  | zero => intro _; simp [selU]
  | succ k ih =>
    intro hk
    obtain ⟨p, hp⟩ : ∃ p, q[k]? = some p := ⟨_, List.getElem?_eq_getElem (by omega)⟩
    have hc := ces_ceAt hp
    rw [List.range_succ, List.filter_append, ← ih (by omega)]
    cases h : p.e.u
    · rw [sel_no hp h]; simp [hc, h]
    · rw [sel_yes hp h, List.filter_append, List.map_append]
      congr 1
      cases h2 : P p.e <;> simp [hc, h, h2]
theorem pick_all (q : List Pa) (P : Ce → Bool) : ((selU q q.length).filter fun x => P x.2.e).map (fun x => x.1) = pickL (ces q) P := by
  unfold pickL
  rw [pick_sel q P _ (Nat.le_refl _), ces_length]
theorem pick_nodup (l : List Ce) (P : Ce → Bool) : (pickL l P).Nodup := List.Pairwise.filter _ List.nodup_range
theorem pick_lt (l : List Ce) (P : Ce → Bool) : ∀ k ∈ pickL l P, k < l.length := by
  intro k hk
  unfold pickL at hk
  exact List.mem_range.1 (List.mem_filter.1 hk).1
theorem pick_le (l : List Ce) (P : Ce → Bool) : (pickL l P).length ≤ l.length := by
  unfold pickL
  exact Nat.le_trans (List.length_filter_le _ _) (by simp)
/-- The slots of the used cells of which P holds, by rows. -/
def ordS (l : List Ce) (P : Ce → Bool) : List Nat := ordL l (pickL l P)
theorem ordS_lt (l : List Ce) (P : Ce → Bool) : ∀ k ∈ ordS l P, k < l.length := fun k hk => pick_lt l P k ((ord_perm _ _).mem_iff.1 hk)
theorem ordS_le (l : List Ce) (P : Ce → Bool) : (ordS l P).length ≤ l.length := by
  rw [show (ordS l P).length = (pickL l P).length from (ord_perm _ _).length_eq]; exact pick_le l P

/-- A call that answers slots of the call's own. -/
def GivesS (w : World) (s : List Nat) (e : Ending) (w' : World) : Prop := ∃ A c, e = .returned (.slice A s.length c) ∧ OwnS w.heap.size w' A c s ∧ Below w.heap.size w w'

/-- What is picked so far. -/
def PkI (w : World) (P : Ce → Bool) (W0 : World) (pre : List (Nat × Pa)) (W : World) : Prop := ∃ A c s, Boxed W (w.heap.size + 2) 30 (.slice A (List.length s) c) ∧ s = (pre.filter fun x => P x.2.e).map (fun x => x.1) ∧ OwnS (w.heap.size + 6) W A c s ∧ Turn (fun i => i = w.heap.size + 2) W0 W
theorem PkI.below {w W0 W W' : World} {P : Ce → Bool} {pre : List (Nat × Pa)} (h : PkI w P W0 pre W) (hb : Below W.heap.size W W') : PkI w P W0 pre W' := by
  obtain ⟨A, c, s, h1, h2, h3, h4⟩ := h
  exact ⟨A, c, s, (hb.block _ h1.lt).trans h1, h2, h3.below hb, h4.trans (Turn.of_below (S := fun _ => False) hb) (by simp)⟩
theorem PkI.put {w W0 W : World} {P : Ce → Bool} {pre : List (Nat × Pa)} (h : PkI w P W0 pre W) {k : Nat} {o : Obj} (o' : Obj) (hk0 : W0.heap.size ≤ k) (hk : W.heap[k]? = some o) (ho : o.isCells = false) : PkI w P W0 pre (W.putObj k o') := by
  obtain ⟨A, c, s, h1, h2, h3, h4⟩ := h
  exact ⟨A, c, s, put_other hk ho h1 rfl, h2, row_put h3 o' hk ho, h4.trans (turn_put _ _ _) (fun i hi => .inr (by omega))⟩

theorem slots_box {w w4 : World} {A1 : Option Addr} {c1 : Nat} {s : List Nat} {k : Nat} (ho : w4.ownsRow (w.heap.size + 6) 3 1 (.slice A1 (s.length + 1) c1) (s.length + 1) ((s.map fun (k : Nat) => Value.int .i64 (k : Int)) ++ [.int .i64 (k : Int)])) : OwnS (w.heap.size + 6) w4 A1 c1 (s ++ [k]) := by
  unfold OwnS
  rw [List.length_append, List.map_append]
  exact ho

/-- One more slot is picked: all that the round leaves. -/
theorem pk_step {w W0 W W3 w4 : World} {P : Ce → Bool} {pre : List (Nat × Pa)} {k : Nat} {p : Pa} {A0 A1 : Option Addr} {c0 c1 : Nat} {s : List Nat} (h1 : Boxed W (w.heap.size + 2) 30 (.slice A0 s.length c0)) (h2 : s = (pre.filter fun x => P x.2.e).map (fun x => x.1)) (h3 : OwnS (w.heap.size + 6) W A0 c0 s) (h4 : Turn (fun i => i = w.heap.size + 2) W0 W) (hz : W0.heap.size = w.heap.size + 4) (hP : P p.e = true)
    (hb : Below W.heap.size W W3) (ho : w4.ownsRow (w.heap.size + 6) 3 1 (.slice A1 (s.length + 1) c1) (s.length + 1) ((s.map fun (k : Nat) => Value.int .i64 (k : Int)) ++ [.int .i64 (k : Int)])) (hg : W3.grownBy w4 (blk A0)) :
    w4.cell? ⟨w.heap.size + 2, 0, none⟩ = some (.slice A0 s.length c0) ∧ w4.frozen? ⟨w.heap.size + 2, 0, none⟩ = false ∧
    (KeepsFrom W0.heap.size W (w4.setCell ⟨w.heap.size + 2, 0, none⟩ (.slice A1 (s.length + 1) c1)) ∧ KpD (w.heap.size + 2) (W0.heap.size + 2) W (w4.setCell ⟨w.heap.size + 2, 0, none⟩ (.slice A1 (s.length + 1) c1)) ∧ PkI w P W0 (pre ++ [(k, p)]) (w4.setCell ⟨w.heap.size + 2, 0, none⟩ (.slice A1 (s.length + 1) c1))) := by
  have hA : ∀ i, blk A0 = some i → w.heap.size + 6 ≤ i ∧ i < W.heap.size := fun i hi => World.ownsRow.lt h3 i (by rw [own_blk]; exact hi)
  have h1l := h1.lt
  have t4 : Turn (fun i => blk A0 = some i) W3 w4 := Turn.of_grown hg (fun i hi => .inl hi)
  have tW : Turn (fun i => blk A0 = some i) W w4 := (Turn.of_below (S := fun i => blk A0 = some i) hb).trans t4 (fun i hi => .inl hi)
  have hd4 : Boxed w4 (w.heap.size + 2) 30 (.slice A0 s.length c0) := (tW.block _ h1l (fun e => by have := hA _ e; omega)).trans h1
  have t5 := turn_set w4 (w.heap.size + 2) 0 (.slice A1 (s.length + 1) c1)
  have tt : Turn (fun i => blk A0 = some i ∨ i = w.heap.size + 2) W (w4.setCell ⟨w.heap.size + 2, 0, none⟩ (.slice A1 (s.length + 1) c1)) :=
    (tW.mono (S' := fun i => blk A0 = some i ∨ i = w.heap.size + 2) (fun i hi => .inl hi)).trans t5 (fun i hi => .inl (.inr hi))
  refine ⟨hd4.cell, hd4.frozen, keeps_turn tt ?_, kpd_turn tt ?_, A1, c1, s ++ [k], ?_, ?_, ?_, ?_⟩
  · rintro i (hi | rfl)
    · rcases h3.2 with ⟨e, _⟩ | ⟨g', cap, cur, e, _, hh, _⟩
      · injection e with e1; rw [e1] at hi; cases hi
      · injection e with e1
        rw [e1] at hi
        have : g' = i := by simpa [blk] using hi
        subst this
        exact ⟨_, hh, rfl⟩
    · exact ⟨_, h1, rfl⟩
  · rintro i (hi | rfl)
    · exact .inr (by have := hA i hi; omega)
    · exact .inl rfl
  · rw [List.length_append]; exact hd4.set _
  · rw [h2, List.filter_append, List.map_append]; simp [hP]
  · exact (slots_box ho).turn t5 (fun i hi _ e => by omega)
  · refine h4.trans tt ?_
    rintro i (hi | rfl)
    · exact .inr (by have := hA i hi; omega)
    · exact .inl rfl

set_option maxHeartbeats 4000000 in
theorem ordered_any (A : Option Addr) (c : Nat) (q : List Pa) (fid : FuncId) (cap : Array Value) (P : Ce → Bool) (w : World) (h : Are w A c q) (hq : q.length = 96)
    (hen : ∀ v W, (callFunc fid (#[v] ++ cap)).run Try.prog W = .ok (.enter fid (#[v] ++ cap)) W) (hp : PredC fid cap P w) :
    Calls Try.prog 33 #[.agg #[.slice A q.length c], .func (.func fid) #[] cap] w (GivesS w (ordS (ces q) P)) := by
  refine (callsIn_wide (n := 3)).1 ?_
  refine callsIn_of_wp_marks Try.func33 rfl trivial ?_ rfl
  simp only [Try.ntmps33, List.size_toArray, List.length_cons, List.length_nil, Nat.reduceAdd, Nat.reduceSub, Array.replicate_succ, Array.replicate_zero, List.push_toArray, List.append_toArray, List.nil_append, List.cons_append]
  obtain ⟨m, hm⟩ : ∃ m, m = q.length := ⟨_, rfl⟩
  rw [← hm]
  obtain ⟨W0, hW0⟩ : ∃ W0, W0 = (((w.alloc (.cells #[.slice A m c] 24)).alloc (.cells #[.func (.func fid) #[] cap] 50)).alloc (.cells #[.slice none 0 0] 30)).alloc (.cells #[.slice A m c] 22) := ⟨_, rfl⟩
  have hz0 : W0.heap.size = w.heap.size + 4 := by rw [hW0]; simp
  have hb0 : Below w.heap.size w W0 := by rw [hW0]; exact ((((Below.refl _ w).alloc (Nat.le_refl _) _).alloc (by simp) _).alloc (by simp; omega) _).alloc (by simp; omega) _
  have x0 : Boxed W0 w.heap.size 24 (.slice A m c) := by rw [hW0]; exact (((Boxed.new w _ _).alloc _).alloc _).alloc _
  have x1 : Boxed W0 (w.heap.size + 1) 50 (.func (.func fid) #[] cap) := by
    rw [hW0]
    have h := ((Boxed.new (w.alloc (.cells #[.slice A m c] 24)) 50 (.func (.func fid) #[] cap)).alloc (.cells #[.slice none 0 0] 30)).alloc (.cells #[.slice A m c] 22)
    rw [World.size_alloc] at h; exact h
  have x2 : Boxed W0 (w.heap.size + 2) 30 (.slice none 0 0) := by
    rw [hW0]
    have h := (Boxed.new ((w.alloc (.cells #[.slice A m c] 24)).alloc (.cells #[.func (.func fid) #[] cap] 50)) 30 (.slice none 0 0)).alloc (.cells #[.slice A m c] 22)
    rw [World.size_alloc, World.size_alloc] at h; exact h
  have x3 : Boxed W0 (w.heap.size + 3) 22 (.slice A m c) := by
    rw [hW0]
    have h := Boxed.new (((w.alloc (.cells #[.slice A m c] 24)).alloc (.cells #[.func (.func fid) #[] cap] 50)).alloc (.cells #[.slice none 0 0] 30)) 22 (.slice A m c)
    rw [World.size_alloc, World.size_alloc, World.size_alloc] at h; exact h
  have hseq := used1_in (w := W0) (w0 := w) (A := A) (c := c) (q := q) 2 (w.heap.size + 2) (w.heap.size + 3) (by omega) (by rw [← hm]; exact x3.cell) h hb0 (by omega)
  have HM := Lib.hid hm
  have HZ0 := Lib.hid hz0
  have HX := Lib.hid (And.intro x0 (And.intro x1 (And.intro x2 hb0)))
  have HSeq := Lib.hid hseq
  have HQ := Lib.hid h
  have HQl := Lib.hid hq
  have HP := Lib.hid hp
  have HW0 := Lib.hid hW0
  clear h hq hm hz0 hb0 x0 x1 x2 x3 hseq hp hW0
  gi_wp2_with (refine ⟨trivial, ?_⟩; gi_at_call 39; refine (callsIn_wide.2 (used_any _ _ _ _)).mono ?_; rintro e w' ⟨rfl, rfl⟩)
  simp only [Nat.add_assoc, Nat.reduceAdd]
  rw [← HW0.out]
  obtain ⟨x0, x1, x2, hb0⟩ := HX.out
  refine range_box2 rfl (by omega) (gf := 60) (lb := #[.pointer (some ⟨w.heap.size + 3, 0, none⟩)]) rfl trivial (enters_of Try.func60 (by kernel_rfl) rfl) HSeq.out
    (fun W k h => h.elim) KpD.trans (fun B W k o o' _ hk ho => KpD.put hk ho) (fun _ => rfl) (fun x => .cells #[.bool x.2.e.u, .int .u64 x.2.e.i, .int .u64 x.2.e.b, .int .u64 x.2.e.f, .slice x.2.B x.2.e.x.length x.2.c] 45) (fun _ => rfl) (fun B W o => ⟨((Below.refl _ W).alloc (Nat.le_refl _) o).size, fun i o2 _ _ hi _ => (Below.heap_alloc W o i (lt_of_block hi)).trans hi⟩) (fun _ _ _ _ _ => trivial) (fun _ _ _ _ _ _ _ _ _ => trivial)
    (PkI w P W0) (fun _ _ _ => False) ?io ?ixo ?ip ?ixp ?h0
    (fun x gb => { tmps := #[.agg #[.slice A m c], .func (.func fid) #[] cap, .pointer (some ⟨w.heap.size, 0, none⟩), .pointer (some ⟨w.heap.size + 1, 0, none⟩), .slice none 0 0, .pointer (some ⟨w.heap.size + 2, 0, none⟩), .int .i64 x.1, .pointer (some ⟨gb, 0, none⟩), .pointer (some ⟨w.heap.size, 0, none⟩), .slice A m c, .func (.func 60) #[] #[.pointer (some ⟨w.heap.size + 3, 0, none⟩)], .int .i64 x.1, .agg #[.bool x.2.e.u, .int .u64 x.2.e.i, .int .u64 x.2.e.b, .int .u64 x.2.e.f, .slice x.2.B x.2.e.x.length x.2.c], undef, undef, undef, undef, undef, undef, undef, undef, undef, undef, undef], defers := [] }) ?assign ?body ?done ?stop
  case io => exact fun s X Y h ht => h.below (Turn.below ht (Nat.le_refl _) (fun i e => e.2.elim))
  case ixo => exact fun _ _ _ _ h _ => h
  case ip => exact fun s X k o o' h hk ho hc => h.put o' hk ho hc
  case ixp => exact fun _ _ _ _ _ _ h _ _ _ => h
  case h0 =>
    intro W hb _
    exact PkI.below (W := W0) ⟨none, 0, [], x2, rfl, OwnS.nil _ _, Turn.refl _ _⟩ hb
  case assign =>
    intro l x W K hK
    dsimp only [encC]
    gi_wp2
    exact hK
  case body =>
    rintro l pre ⟨k, p⟩ gb W V o o' hI hzg hWV hlo hoc hsz hgg hg _ ⟨hk, hPu, hpre⟩
    dsimp only at hk hPu hpre hWV hlo hg ⊢
    have hkl : k < q.length := (List.getElem?_eq_some_iff.1 hk).1
    have hpm := List.mem_of_getElem? hk
    have hb1 : Below V.heap.size V (V.alloc (.cells #[.bool p.e.u, .int .u64 p.e.i, .int .u64 p.e.b, .int .u64 p.e.f, .slice p.B p.e.x.length p.c] 45)) := cel_alloc _ _ _ _ _ _ _ _
    have hIW : PkI w P W0 pre W := by rw [hWV]; exact (hI.below hb1).put o' (by omega) hlo hoc
    obtain ⟨A0, c0, s, h1, h2, h3, h4⟩ := hIW
    have hz0 := HZ0.out
    have x1W : Boxed W (w.heap.size + 1) 50 (.func (.func fid) #[] cap) := (h4.block _ x1.lt (by omega)).trans x1
    have hbw : Below w.heap.size w W := hb0.trans (h4.below hb0.size (fun i hi => by omega))
    have hsl : s.length ≤ 96 := by
      have e1 : s.length ≤ pre.length := by rw [h2, List.length_map]; exact List.length_filter_le _ _
      have e2 := sel_len q k
      rw [← hpre] at e2
      have e3 := HQl.out
      omega
    have HC := Lib.hid (HP.out p W hbw ((HQ.out.el p hpm).below hbw) (HQ.out.fit p hpm))
    have hWs : w.heap.size + 6 ≤ W.heap.size := by omega
    have b0 := (cell_of_row _ _ 0 _ _ _ hg).trans rfl
    have b1 := (cell_of_row _ _ 1 _ _ _ hg).trans rfl
    have b2 := (cell_of_row _ _ 2 _ _ _ hg).trans rfl
    have b3 := (cell_of_row _ _ 3 _ _ _ hg).trans rfl
    have b4 := (cell_of_row _ _ 4 _ _ _ hg).trans rfl
    have cf := x1W.cell
    have HI := Lib.hid (And.intro h1 (And.intro h2 (And.intro h3 h4)))
    have HSL := Lib.hid hsl
    have HWS := Lib.hid hWs
    clear hI hzg hWV hlo hoc hsz hgg hg hk hPu hpre hkl hpm hb1 h1 h2 h3 h4 hz0 x1W hbw hsl hWs
    cases hP : P p.e with
    | false =>
      rw [hP] at HC
      have HN := Lib.hid hP
      clear hP
      gi_wp2_with (refine ⟨trivial, (callsIn_wide.2 HC.out).mono ?_⟩; rintro e w1 ⟨rfl, hb1⟩; have HX1 := Lib.hid (show KeepsFrom W0.heap.size W w1 ∧ KpD (w.heap.size + 2) (W0.heap.size + 2) W w1 ∧ PkI w P W0 (pre ++ [(k, p)]) w1 from by
        obtain ⟨h1, h2, h3, h4⟩ := HI.out
        have hI2 : PkI w P W0 pre w1 := PkI.below ⟨A0, c0, s, h1, h2, h3, h4⟩ hb1
        obtain ⟨A0', c0', s', k1, k2, k3, k4⟩ := hI2
        exact ⟨keeps_turn (Turn.of_below (S := fun _ => False) hb1) (fun _ e => e.elim), KpD.below hb1, A0', c0', s', k1, by rw [k2, List.filter_append]; simp [HN.out], k3, k4⟩); clear hb1)
      exact HX1.out
    | true =>
      rw [hP] at HC
      have HSt := Lib.hid (fun (A1 : Option Addr) (c1 : Nat) (W3 w4 : World) (hb : Below W.heap.size W W3) (ho : w4.ownsRow (w.heap.size + 6) 3 1 (.slice A1 (s.length + 1) c1) (s.length + 1) ((s.map fun (k : Nat) => Value.int .i64 (k : Int)) ++ [.int .i64 (k : Int)])) (hg : W3.grownBy w4 (blk A0)) => pk_step (P := P) HI.out.1 HI.out.2.1 HI.out.2.2.1 HI.out.2.2.2 HZ0.out hP hb ho hg)
      have HOw := Lib.hid (fun (X : World) (hX : Below W.heap.size W X) => show X.ownsRow (w.heap.size + 6) 3 1 (.slice A0 s.length c0) s.length (s.map fun (k : Nat) => Value.int .i64 (k : Int)) from HI.out.2.2.1.below hX)
      clear hP
      generalize hsn : s.length = sn at *
      have HSN := Lib.hid hsn
      clear hsn
      gi_wp2_with (first
        | (refine ⟨trivial, (callsIn_wide.2 HC.out).mono ?_⟩; rintro e w1 ⟨rfl, hb1⟩; have c2 : w1.cell? ⟨w.heap.size + 2, 0, none⟩ = some (.slice A0 sn c0) := (hb1.cell (p := ⟨w.heap.size + 2, 0, none⟩) HI.out.1.lt).trans HI.out.1.cell; have HB1 := Lib.hid hb1; clear hb1)
        | (gi_at_builtin; have HB3 := Lib.hid (HB1.out.alloc HB1.out.size (.cells #[.int .i64 (k : Int)] 3)); refine gapp_in rfl (.tmp 16) (.tmp 18) appN rfl (w.heap.size + 6) A0 c0 sn (s.map fun (k : Nat) => Value.int .i64 (k : Int)) rfl (HOw.out _ HB3.out) (some ⟨w1.heap.size, 0, none⟩) 1 1 [.int .i64 (k : Int)] rfl (Read.int (cell_laid _ _ _ 0)) (by have := HSL.out; omega) (Nat.le_trans HWS.out HB3.out.size) ?_; intro A5 c5 w4 ho5 hg5 _; obtain ⟨v4, f4, hX4⟩ := HSt.out A5 c5 _ w4 HB3.out ho5 hg5; have HX4 := Lib.hid hX4; clear ho5 hg5 hX4))
      exact HX4.out
  case done =>
    rintro xs W rfl ⟨A0, c0, s, h1, h2, h3, h4⟩ hK
    rw [pick_all] at h2
    have hz0 := HZ0.out
    have hq := HQl.out
    have hbw : Below w.heap.size w W := hb0.trans (h4.below hb0.size (fun i hi => by omega))
    have x0W : Boxed W w.heap.size 24 (.slice A m c) := (h4.block _ x0.lt (by omega)).trans x0
    have hls : s.length ≤ 96 := by rw [h2]; have := pick_le (ces q) P; rw [ces_length] at this; omega
    have hs : ∀ k ∈ s, k < 96 := by rw [h2]; intro k hk; have := pick_lt (ces q) P k hk; rw [ces_length] at this; omega
    have hS := sortS_any (g := w.heap.size) h3 hs hls HQ.out hq hbw (by omega) (by rw [← HM.out]; exact x0W.cell) (by omega)
    have ho : ordL (ces q) s = ordS (ces q) P := by rw [h2]; rfl
    have hl : (ordS (ces q) P).length = s.length := by rw [← ho]; exact (ord_perm _ _).length_eq
    rw [ho] at hS
    have hA : ∀ i, blk A0 = some i → w.heap.size + 6 ≤ i := fun i hi => (World.ownsRow.lt h3 i (by rw [own_blk]; exact hi)).1
    have hlt := h1.lt
    have HF := Lib.hid (fun (w' : World) (k1 : OwnS (w.heap.size + 6) w' A0 c0 (ordS (ces q) P)) (k2 : Turn (fun i => blk A0 = some i) W w') => show w'.cell? ⟨w.heap.size + 2, 0, none⟩ = some (.slice A0 s.length c0) ∧ w'.heap[W0.heap.size]? = some (.deferred (some [])) ∧ OwnS w.heap.size (w'.putObj W0.heap.size (.deferred none)) A0 c0 (ordS (ces q) P) ∧ Below w.heap.size w (w'.putObj W0.heap.size (.deferred none)) from by
      have e1 : w'.heap[W0.heap.size]? = some (.deferred (some [])) := (k2.block _ (lt_of_block hK) (fun e => by have := hA _ e; omega)).trans hK
      have e2 : Below w.heap.size w w' := hbw.trans (k2.below hbw.size (fun i hi => by have := hA i hi; omega))
      exact ⟨(Boxed.cell ((k2.block _ hlt (fun e => by have := hA _ e; omega)).trans h1)), e1, (row_put (World.ownsRow.mono k1 (by omega)) _ e1 rfl), e2.trans ((turn_put _ _ _).below e2.size (fun i hi => by omega))⟩)
    have c2 := h1.cell
    have HSo := Lib.hid hS
    generalize hsn : s.length = sn at *
    have HL := Lib.hid hl
    clear h1 h2 h3 h4 hK hz0 hq hbw x0W hls hs hS ho hl hA hlt hsn
    gi_wp2_with (refine ⟨trivial, ?_⟩; gi_at_call 54; refine (callsIn_wide.2 HSo.out).mono ?_; rintro e w' ⟨rfl, k1, k2⟩; obtain ⟨d2, hd, hO, hB⟩ := HF.out w' k1 k2; have HD := Lib.hid (And.intro hd (And.intro hO hB)); clear k1 k2 hd hO hB)
    refine ⟨by simp, .inl ⟨_, _, rfl, run_takeDeferred HD.out.1, ?_⟩⟩
    refine ⟨_, results_tmp rfl _ _ _, A0, c0, ?_, HD.out.2.1, HD.out.2.2⟩
    rw [HL.out]; rfl
  case stop =>
    rintro c pre W _ h _
    exact h.elim

end Go.Proofs.Ytpdebkpblpipcaa
