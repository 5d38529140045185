/-
  firstOf.
-/
import Derived.Test.YthobkakmjgmpcaaTopSeq
import Derived.Test.YthobkakmjgmpcaaTopBox
import Derived.Deep.Onto
namespace Go.Proofs.Ythobkakmjgmpcaa
open Go.RowKit Go.Shelf
set_option linter.unusedVariables false
set_option linter.unusedSimpArgs false
set_option maxRecDepth 100000
attribute [local go_sem] Oper.semAt_some

theorem put_other {W : World} {k i : Nat} {o o' o2 : Obj} (h : W.heap[k]? = some o) (ho : o.isCells = false) (hi : W.heap[i]? = some o2) (h2 : o2.isCells = true) : (W.putObj k o').heap[i]? = some o2 := by
  rw [World.putObj_heap_other (fun e => ?_)]
  · exact hi
  · subst e; rw [h] at hi; cases hi; rw [ho] at h2; cases h2
theorem below_put {W : World} {k : Nat} {o : Obj} {B : Nat} (hk : B ≤ k) (hB : B ≤ W.heap.size) : Below B W (W.putObj k o) :=
  ⟨rfl, rfl, rfl, by simp [World.putObj], fun i hi => World.putObj_heap_other (by omega)⟩
theorem turn_put (W : World) (k : Nat) (o : Obj) : Turn (fun i => i = k) W (W.putObj k o) := ⟨rfl, rfl, rfl, by simp [World.putObj], fun i _ hn => World.putObj_heap_other hn⟩
theorem Keep.isCells {w : World} {K : Nat} {A : Option Addr} {c : Nat} {l : List HitM} {k : Int} (h : Keep w K A c l k) {i : Nat} (hi : own K A i) : ∃ o, w.heap[i]? = some o ∧ o.isCells = true := by
  rcases hi with rfl | hi
  · exact ⟨_, h.head, rfl⟩
  · rcases h.row.2 with ⟨e, h0⟩ | ⟨g, cap, cur, e, hg, hh, _⟩
    · injection e with e1; subst e1; cases hi
    · injection e with e1; subst e1
      have : g = i := by simpa [blk] using hi
      subst this
      exact ⟨_, hh, rfl⟩
theorem Keep.put {W : World} {K : Nat} {A : Option Addr} {c : Nat} {l : List HitM} {q : Int} (h : Keep W K A c l q) {k : Nat} {o : Obj} (o' : Obj) (hk : W.heap[k]? = some o) (ho : o.isCells = false) : Keep (W.putObj k o') K A c l q := by
  have hne : ∀ i, own K A i → ¬ i = k := fun i hi e => by
    subst e
    obtain ⟨o2, h2, h3⟩ := h.isCells hi
    rw [hk] at h2; cases h2; rw [ho] at h3; cases h3
  exact h.turn (turn_put W k o') (hne K (.inl rfl)) (fun i hi => hne i (.inr hi))
theorem keeps_turn {B0 : Nat} {S : Nat → Prop} {W W' : World} (h : Turn S W W') (hc : ∀ i, S i → ∃ o, W.heap[i]? = some o ∧ o.isCells = true) : KeepsFrom B0 W W' :=
  ⟨h.size, fun k o _ hk ho => (h.block k (lt_of_block hk) (fun e => by obtain ⟨o2, h2, h3⟩ := hc k e; rw [hk] at h2; cases h2; rw [ho] at h3; cases h3)).trans hk⟩
theorem kpd_turn {d B : Nat} {S : Nat → Prop} {W W' : World} (h : Turn S W W') (hS : ∀ i, S i → i = d ∨ B ≤ i) : KpD d B W W' :=
  ⟨h.size, fun k o hk hd ho _ => (h.block k (lt_of_block ho) (fun e => (hS k e).elim hd (fun e => by omega))).trans ho⟩

def letF (K : Nat) : Value := .func (.func 33) #[] #[.pointer (some ⟨K, 0, none⟩)]
def FiI (w : World) (kk : Nat) (pre : List HitM) (W : World) : Prop :=
  ∃ A c l, Keep W w.heap.size A c l kk ∧ Heap l.length l ∧ l.Perm (firstM kk pre) ∧ (∀ i, blk A = some i → w.heap.size + 5 ≤ i) ∧ Boxed W (w.heap.size + 1) 68 (letF w.heap.size) ∧ Below w.heap.size w W
theorem FiI.put {w W : World} {kk : Nat} {pre : List HitM} (h : FiI w kk pre W) {k : Nat} {o : Obj} (o' : Obj) (hk0 : w.heap.size ≤ k) (hk : W.heap[k]? = some o) (ho : o.isCells = false) : FiI w kk pre (W.putObj k o') := by
  obtain ⟨A, c, l, h1, h2, h3, h4, h5, h6⟩ := h
  exact ⟨A, c, l, h1.put o' hk ho, h2, h3, h4, put_other hk ho h5 rfl, h6.trans (below_put hk0 h6.size)⟩
theorem FiI.below {w W W' : World} {kk : Nat} {pre : List HitM} (h : FiI w kk pre W) (hb : Below W.heap.size W W') : FiI w kk pre W' := by
  obtain ⟨A, c, l, h1, h2, h3, h4, h5, h6⟩ := h
  exact ⟨A, c, l, h1.below hb, h2, h3, h4, (hb.block _ h5.lt).trans h5, h6.trans (hb.mono h6.size)⟩

set_option maxHeartbeats 4000000 in
theorem firstOf_any (A : Option Addr) (c kk : Nat) (ls : List (List HitM)) (w : World) (h : Rows w A c ls) (h1 : 1 ≤ kk) (hkk : kk ≤ 1000) :
    Calls Try.prog 27 #[.int .i64 kk, .slice A ls.length c] w fun e w' => ∃ B cb, e = .returned (.slice B (firstM kk ls.flatten).length cb) ∧ w'.ownsRow w.heap.size 32 2 (.slice B (firstM kk ls.flatten).length cb) (firstM kk ls.flatten).length (flat (firstM kk ls.flatten)) ∧ Below w.heap.size w w' := by
  refine (callsIn_wide (n := 3)).1 ?_
  refine callsIn_of_wp_marks Try.func27 rfl trivial ?_ rfl
  simp only [Try.ntmps27, List.size_toArray, List.length_cons, List.length_nil, Nat.reduceAdd, Nat.reduceSub, Array.replicate_succ, Array.replicate_zero, List.push_toArray, List.append_toArray, List.nil_append, List.cons_append]
  have HR := Lib.hid h
  obtain ⟨n, hn⟩ : ∃ n, n = ls.length := ⟨_, rfl⟩
  have HN := Lib.hid hn
  rw [← hn]
  obtain ⟨R, hR⟩ : ∃ R, R = firstM kk ls.flatten := ⟨_, rfl⟩
  have HRR := Lib.hid hR
  rw [← hR]
  clear h hn hR
  obtain ⟨W1, hW1⟩ : ∃ W1, W1 = w.alloc (.cells #[.slice none 0 0, .int .i64 kk] 65) := ⟨_, rfl⟩
  have hz1 : W1.heap.size = w.heap.size + 1 := by rw [hW1]; simp
  have hb1 : Below w.heap.size w W1 := by rw [hW1]; exact (Below.refl _ w).alloc (Nat.le_refl _) _
  have hK1 : W1.heap[w.heap.size]? = some (.cells #[.slice none 0 0, .int .i64 kk] 65 (0, 0)) := by rw [hW1]; exact heap_alloc_new _ _
  have hF : (W1.alloc (.cells #[.nilFunc] 68)).heap[w.heap.size + 1]? = some (.cells #[.nilFunc] 68 (0, 0)) := by rw [← hz1]; exact heap_alloc_new _ _
  have q1 : (W1.alloc (.cells #[.nilFunc] 68)).cell? ⟨w.heap.size + 1, 0, none⟩ = some .nilFunc := (cell_of_row _ _ _ _ _ _ hF).trans rfl
  have q2 : (W1.alloc (.cells #[.nilFunc] 68)).frozen? ⟨w.heap.size + 1, 0, none⟩ = false := frozen_of_row _ _ _ _ _ hF
  obtain ⟨W2, hW2⟩ : ∃ W2, W2 = (W1.alloc (.cells #[.nilFunc] 68)).setCell ⟨w.heap.size + 1, 0, none⟩ (letF w.heap.size) := ⟨_, rfl⟩
  have hz2 : W2.heap.size = w.heap.size + 2 := by rw [hW2]; simp [World.setCell, hz1]
  have hF2 : Boxed W2 (w.heap.size + 1) 68 (letF w.heap.size) := by rw [hW2]; exact heap_setCell_same _ _ 0 _ _ _ hF
  have hb2 : Below w.heap.size w W2 := by rw [hW2]; exact (hb1.alloc hb1.size _).setCell (by simp) _
  have hK2 : W2.heap[w.heap.size]? = some (.cells #[.slice none 0 0, .int .i64 kk] 65 (0, 0)) := by
    rw [hW2]; exact (Below.heap_setCell _ _ _ _ (by simp)).trans ((Below.heap_alloc _ _ _ (by omega)).trans hK1)
  obtain ⟨W0, hW0⟩ : ∃ W0, W0 = W2.alloc (.cells #[.slice A n c] 34) := ⟨_, rfl⟩
  have hz0 : W0.heap.size = w.heap.size + 3 := by rw [hW0]; simp [hz2]
  have hF0 : Boxed W0 (w.heap.size + 1) 68 (letF w.heap.size) := by rw [hW0]; exact hF2.alloc _
  have hb0 : Below w.heap.size w W0 := by rw [hW0]; exact hb2.alloc hb2.size _
  have hK0 : W0.heap[w.heap.size]? = some (.cells #[.slice none 0 0, .int .i64 kk] 65 (0, 0)) := by rw [hW0]; exact (Below.heap_alloc _ _ _ (by omega)).trans hK2
  have hB0 : W0.cell? ⟨w.heap.size + 2, 0, none⟩ = some (.slice A n c) := by rw [hW0, ← hz2]; exact cell_laid _ _ _ 0
  have HS := Lib.hid (And.intro hF0 (And.intro hb0 (And.intro hK0 (And.intro hB0 hz0))))
  have HW0 := Lib.hid hW0
  have HW1 := Lib.hid hW1
  have HW2 := Lib.hid hW2
  unfold letF at HW2
  clear hb1 hK1 hF hF2 hb2 hK2 hF0 hb0 hK0 hB0 hW0 hW1 hW2
  have HZ1 := Lib.hid hz1
  have HZ2 := Lib.hid hz2
  clear hz0 hz1 hz2
  have hst : (store ⟨w.heap.size + 1, 0, none⟩ (.func (.func 33) #[] #[.pointer (some ⟨w.heap.size, 0, none⟩)])).run Try.prog ((w.alloc (.cells #[.slice none 0 0, .int .i64 kk] 65)).alloc (.cells #[.nilFunc] 68)) = .ok () W2 := by
    rw [← HW1.out, run_store _ _ _ _ _ rfl, HW2.out]
    rw [q1, q2]
    rfl
  clear q1 q2
  gi_wp2_with (refine ⟨trivial, ?_⟩; gi_at_call 36; refine (callsIn_wide.2 (together_any _ _ _ _)).mono ?_; rintro e w' ⟨rfl, rfl⟩)
  rw [← HW0.out]
  clear hst
  obtain ⟨hF0, hb0, hK0, hB0, hz0⟩ := HS.out
  have hseq := together1_in (w := W0) (w0 := w) (A := A) (c := c) (ls := ls) 2 w.heap.size (w.heap.size + 2) (by omega) (by rw [← HN.out]; exact hB0) HR.out hb0 (by omega) (Nat.le_refl _)
  rw [HZ2.out]
  refine range_box rfl (by omega) (gf := 40) (lb := #[.pointer (some ⟨w.heap.size + 2, 0, none⟩)]) rfl trivial (enters_of Try.func40 (by kernel_rfl) rfl) hseq
    (fun W k h => h.elim) KpD.trans (fun B W k o o' _ hk ho => KpD.put hk ho) (fun _ => rfl) (fun x => .cells #[.int .u64 x.1, .int .u64 x.2] 32) (fun _ => rfl) (fun B W o => KpD.below ((Below.refl _ W).alloc (Nat.le_refl _) _)) (fun _ _ _ _ _ => trivial) (fun _ _ _ _ _ _ _ _ _ => trivial)
    (FiI w kk) (fun _ _ _ => False) ?io ?ixo ?ip ?ixp ?h0
    (fun x g => { tmps := #[.int .i64 kk, .slice A n c, undef, undef, .slice none 0 0, .pointer (some ⟨w.heap.size, 0, none⟩), .pointer (some ⟨w.heap.size + 1, 0, none⟩), .pointer (some ⟨g, 0, none⟩), .int .i64 kk,
      .agg #[.slice none 0 0, .int .i64 kk], letF w.heap.size, .slice A n c, .func (.func 40) #[] #[.pointer (some ⟨w.heap.size + 2, 0, none⟩)], .agg #[.int .u64 x.1, .int .u64 x.2], undef, undef, undef, undef, undef, undef], defers := [] }) ?assign ?body ?done ?stop
  case io => exact fun s X Y h ht => h.below (Turn.below ht (Nat.le_refl _) (fun i e => e.2.elim))
  case ixo => exact fun _ _ _ _ h _ => h
  case ip => exact fun s X k o o' h hk ho hc => h.put o' (by omega) ho hc
  case ixp => exact fun _ _ _ _ _ _ h _ _ _ => h
  case h0 =>
    intro W hb _
    exact FiI.below (W := W0) ⟨none, 0, [], ⟨hK0, World.ownsRow_nil _ _ _ _⟩, heap_few (by simp) _, by simp [firstM, sortM], (fun i e => by cases e), hF0, hb0⟩ hb
  case assign =>
    intro l x W K hK
    dsimp only [encH]
    gi_wp2
    exact hK
  case body =>
    rintro l pre x g W ⟨A1, c1, q, hk, hh, hp, hbk, hbx, hbl⟩ hsz hgg hg _ _
    have g0 : W.cell? ⟨g, 0, none⟩ = some (.int .u64 x.1) := (cell_of_row _ _ _ _ _ _ hg).trans rfl
    have g1 : W.cell? ⟨g, 1, none⟩ = some (.int .u64 x.2) := (cell_of_row _ _ _ _ _ _ hg).trans rfl
    have hc := hbx.cell
    unfold letF at hc
    have hql : q.length ≤ kk := by rw [hp.length_eq, first_length]; omega
    rw [hz0] at hsz hgg ⊢
    have fin : ∀ (V w2 : World) (A2 : Option Addr) (c2 : Nat) (p : List HitM), Below W.heap.size W V → Turn (own w.heap.size A1) V w2 → Keep w2 w.heap.size A2 c2 p kk → Heap p.length p → p.Perm (firstM kk (pre ++ [x])) → (∀ i, blk A2 = some i → blk A1 = some i ∨ V.heap.size ≤ i) →
        roundOwn (w.heap.size + 3) (w.heap.size + 3 + 2) (KpD w.heap.size) (FiI w kk) (fun _ _ _ => False) (pre ++ [x]) W .normal { tmps := #[], defers := [] } w2 := by
      intro V w2 A2 c2 p hb ht hk2 hh2 hp2 hb2
      have htt : Turn (own w.heap.size A1) W w2 := (Turn.of_below (S := own w.heap.size A1) hb).trans ht (fun i hi => .inl hi)
      refine ⟨keeps_turn htt (fun i hi => hk.isCells hi), kpd_turn htt (fun i hi => hi.elim .inl (fun e => .inr (by have := hbk i e; omega))), A2, c2, p, hk2, hh2, hp2, ?_, ?_, ?_⟩
      · intro i hi
        rcases hb2 i hi with h | h
        · exact hbk i h
        · have := hb.size; omega
      · refine (htt.block _ hbx.lt ?_).trans hbx
        rintro (h | h)
        · omega
        · have := hbk _ h; omega
      · refine hbl.trans (htt.below hbl.size ?_)
        rintro i (h | h)
        · omega
        · have := hbk _ h; omega
    have FIN := Lib.hid fin
    have HK := Lib.hid hk
    have HH := Lib.hid hh
    have HP := Lib.hid hp
    by_cases hlt : q.length < kk
    · have HL := Lib.hid (let_room w.heap.size A1 c1 kk q x W hk hlt)
      have HPR := Lib.hid (first_room (h := x) hp hlt)
      have HT := Lib.hid (fun (V : World) (hV : Below W.heap.size W V) => take_room w.heap.size A1 c1 kk q x V (hk.below hV) hh (by omega) hlt)
      obtain ⟨x1, x2⟩ := x
      dsimp only at *
      clear fin hk hh hp hbk hbx hbl hg hql hlt
      gi_wp2_with (refine ⟨trivial, ?_⟩; gi_at_call 33; refine (callsIn_wide.2 HL.out).mono ?_; rintro e w1 ⟨rfl, hb1⟩; have e0 := (hb1.cell (p := ⟨g, 0, none⟩) (World.block_lt_of_cell? W _ g0)).trans g0; have e1 := (hb1.cell (p := ⟨g, 1, none⟩) (World.block_lt_of_cell? W _ g1)).trans g1; have HT1 := Lib.hid (HT.out w1 hb1); have HB1 := Lib.hid hb1; clear hb1)
      refine ⟨trivial, ?_⟩
      refine (callsIn_wide.2 HT1.out).mono ?_
      rintro e w2 ⟨rfl, A2, c2, p, hp2, hh2, hk2, hb2, ht2⟩
      have HX := Lib.hid (FIN.out w1 w2 A2 c2 p HB1.out ht2 hk2 hh2 (hp2.trans HPR.out) hb2)
      clear hp2 hh2 hk2 hb2 ht2
      gi_wp2
      exact HX.out
    · have hqe : q.length = kk := by omega
      obtain ⟨r, q', rfl⟩ : ∃ r q', q = r :: q' := by
        cases q with
        | nil => simp at hqe; omega
        | cons r q' => exact ⟨r, q', rfl⟩
      have hmx : ∀ y ∈ r :: q', ahead r y = false := hh.most
      have HL := Lib.hid (let_full w.heap.size A1 c1 kk (r :: q') x W hk hqe (by omega))
      have hr0 : (r :: q').getD 0 z2 = r := rfl
      rw [hr0] at HL
      cases hax : ahead x r with
      | true =>
        rw [hax] at HL
        have HPR := Lib.hid (first_in hp hqe hmx hax)
        have HT := Lib.hid (fun (V : World) (hV : Below W.heap.size W V) => take_full w.heap.size A1 c1 kk (r :: q') x V (hk.below hV) hh (by omega) hqe (by omega))
        have hs0 : (r :: q').set 0 x = x :: q' := rfl
        rw [hs0] at HT
        obtain ⟨x1, x2⟩ := x
        dsimp only at *
        clear fin hk hh hp hbk hbx hbl hg hql hlt hqe hmx hax hr0 hs0
        gi_wp2_with (refine ⟨trivial, ?_⟩; gi_at_call 33; refine (callsIn_wide.2 HL.out).mono ?_; rintro e w1 ⟨rfl, hb1⟩; have e0 := (hb1.cell (p := ⟨g, 0, none⟩) (World.block_lt_of_cell? W _ g0)).trans g0; have e1 := (hb1.cell (p := ⟨g, 1, none⟩) (World.block_lt_of_cell? W _ g1)).trans g1; have HT1 := Lib.hid (HT.out w1 hb1); have HB1 := Lib.hid hb1; clear hb1)
        refine ⟨trivial, ?_⟩
        refine (callsIn_wide.2 HT1.out).mono ?_
        rintro e w2 ⟨rfl, A2, c2, p, hp2, hh2, hk2, hb2, ht2⟩
        have HX := Lib.hid (FIN.out w1 w2 A2 c2 p HB1.out ht2 hk2 hh2 (hp2.trans HPR.out) (fun i hi => (hb2 i hi).elim .inl .inr))
        clear hp2 hh2 hk2 hb2 ht2
        gi_wp2
        exact HX.out
      | false =>
        rw [hax] at HL
        have HPR := Lib.hid (first_out (h := x) hp hqe (fun y hy => ahead_trans hax (hmx y hy)))
        obtain ⟨x1, x2⟩ := x
        dsimp only at *
        clear fin hk hh hp hbk hbx hbl hg hql hlt hqe hmx hax hr0
        gi_wp2_with (refine ⟨trivial, ?_⟩; gi_at_call 33; refine (callsIn_wide.2 HL.out).mono ?_; rintro e w1 ⟨rfl, hb1⟩; have HB1 := Lib.hid hb1; clear hb1)
        exact FIN.out w1 w1 A1 c1 (r :: q') HB1.out (Turn.refl _ _) (HK.out.below HB1.out) HH.out HPR.out (fun i hi => .inl hi)
  case done =>
    rintro xs W rfl ⟨A1, c1, q, hk, hh, hp, hbk, hbx, hbl⟩ hK
    rw [hz0] at hK
    have hql : q.length ≤ kk := by rw [hp.length_eq, first_length]; omega
    have hs : sortM q = firstM kk ls.flatten := by rw [sort_of_perm hp, sort_self (first_srt _ _)]
    have hE := empty_any w.heap.size A1 c1 q kk W hk hh (by omega)
    rw [hs, ← HRR.out, show q.length = R.length by rw [hp.length_eq, HRR.out]] at hE
    have HE := Lib.hid hE
    have HX := Lib.hid (And.intro hk (And.intro hbk hbl))
    clear hE hk hh hp hbk hbx hbl hql hs
    gi_wp2_with (refine ⟨trivial, ?_⟩; gi_at_call 38; refine (callsIn_wide.2 HE.out).mono ?_; rintro e w2 ⟨B, cb, rfl, hro, htu⟩; have HRO := Lib.hid hro; have HTU := Lib.hid htu; clear hro htu)
    refine ⟨by simp, .inl ⟨_, _, rfl, run_takeDeferred ((HTU.out.block _ (lt_of_block hK) (fun e => by obtain ⟨o2, h2, h3⟩ := HX.out.1.isCells e; rw [hK] at h2; cases h2; cases h3)).trans hK), ?_⟩⟩
    refine ⟨_, results_tmp rfl _ _ _, B, cb, rfl, ?_, ?_⟩
    · refine row_turn (HRO.out.mono HX.out.2.2.size) (turn_put _ _ _) (fun i hi e => ?_)
      have := HRO.out.lt i hi
      have := lt_of_block hK
      omega
    · refine (HX.out.2.2.trans (HTU.out.below HX.out.2.2.size ?_)).trans (below_put (by omega) (Nat.le_trans HX.out.2.2.size HTU.out.size))
      rintro i (h | h)
      · omega
      · have := HX.out.2.1 i h; omega
  case stop => exact fun _ _ _ _ h _ => h.elim

end Go.Proofs.Ythobkakmjgmpcaa
