/-
  An op that can be gone through (few).
-/
import Derived.Test.YthpbgejjfdgpaaaDiskWakes
namespace Go.Proofs.Ythpbgejjfdgpaaa
open Go.RowKit
set_option linter.unusedVariables false
set_option maxRecDepth 100000

theorem infoBool : (Try.prog.info? 4).map (fun i => (i.zero, i.size, i.bytes)) = some (some (.bool false), 1, 1) := by kernel_rfl

theorem RdB.take {w : World} {B : Nat} {A : Option Addr} {bs : List Bool} (h : RdB w B A bs) (k : Nat) : RdB w B A (bs.take k) := by
  intro hp
  have hl : (bs.take k).length ≤ bs.length := by simp; omega
  obtain ⟨b, o, rfl, hb, hc⟩ := h (by omega)
  refine ⟨b, o, rfl, hb, fun j hj => ?_⟩
  have hjk : j < k := by simp at hj; omega
  rw [hc j (by omega)]
  simp [List.getD, hjk]
theorem RdB.wide {w : World} {B B' : Nat} {A : Option Addr} {bs : List Bool} (h : RdB w B A bs) (hB : B ≤ B') : RdB w B' A bs := by
  intro hp
  obtain ⟨b, o, rfl, hb, hc⟩ := h hp
  exact ⟨b, o, rfl, by omega, hc⟩
theorem RdB.own {w : World} {base n c : Nat} {A : Option Addr} {bs : List Bool} (h : w.ownsRow base 4 1 (.slice A n c) n (bs.map Value.bool)) : RdB w w.heap.size A bs := by
  intro hp
  have hl := h.1
  simp at hl
  rcases h.2 with ⟨_, h0⟩ | ⟨g, cap, cur, hv, hg, hh, hnc, hcm, hsz, hcs⟩
  · omega
  · injection hv with hA _ hc'
    subst hA
    subst hc'
    refine ⟨g, 0, rfl, lt_of_block hh, fun j hj => ?_⟩
    have := h.cellAt j (by omega)
    rw [Nat.zero_add, this]
    simp [List.getD, List.getElem?_eq_getElem hj]

/-- 'append(v, x...)' of bools. -/
theorem app_bool {w : World} {ops : Array Oper} {rest : List Oper} {o : Oper} {a : Act} {Q : Exit → Act → World → Prop} (hgd : o.guard = none) (s x : Operand)
    (ho : o.op = .call { callee := .builtin .append, args := #[s, x], argTypes := #[35, 35] })
    (base : Nat) (v : Value) (n : Nat) (xs : List Value) (hs : a.eval s = v) (hown : w.ownsRow base 4 1 v n xs)
    (A : Option Addr) (c m : Nat) (bs : List Bool) (hx : a.eval x = .slice A m c) (hm : bs.length = m) (hr : RdB w w.heap.size A bs)
    (hbig : n + m ≤ 140737488355328) (hbase : base ≤ w.heap.size)
    (h : ∀ v' w', w'.ownsRow base 4 1 v' (n + m) (xs ++ bs.map Value.bool) → w.grownBy w' v.ownBlock → wpList Try.prog ops Q rest (a.put o.dst v') w') : wpList Try.prog ops Q (o :: rest) a w := by
  obtain ⟨i0, hi, hz0, hz1, hz2⟩ := info_parts infoBool
  subst hm
  rcases A with _ | ad
  · obtain rfl : bs = [] := by
      rcases bs with _ | ⟨b, bs⟩
      · rfl
      · obtain ⟨_, _, e, _⟩ := hr (by simp)
        cases e
    refine wpList_plain hgd fun K hK => ?_
    have hrun : (Builtin.append_ #[35, 35] o.type #[v, .slice none 0 c]).run Try.prog w = .ok v w := by
      rcases hown.2 with ⟨rfl, rfl⟩ | ⟨g, cap, cur, rfl, _, _, hnc, _⟩
      · simp [Builtin.append_, run_underlying Try.underlying35, sizeOf, typeInfo, hi, Builtin.lenOf, Builtin.firstCells]
      · simp [Builtin.append_, run_underlying Try.underlying35, sizeOf, typeInfo, hi, Builtin.lenOf, Builtin.firstCells, hnc, storeCells]
    unfold Oper.wp
    simp [execOp, ho, resolve, invoke, builtin, hs, hx, hrun, Result.andThen]
    exact hK _ _ (h v w (by simpa using hown) (World.grownBy.refl _ _))
  · refine wpList_append_own w hgd s x 35 ho base 4 i0 (.bool false) 1 1 Try.underlying35 hi hz0 hz1 hz2 rfl (by decide) v n xs hs hown ad bs.length c (bs.map Value.bool) hx (by simp) ?_ ?_ (by unfold maxLen; omega) (by omega) hbase (fun v' w' h1 h2 _ => h v' w' h1 h2)
    · intro j u hj
      have hjn : j < bs.length := by
        have := (List.getElem?_eq_some_iff.1 hj).1
        simpa using this
      obtain ⟨b, o', he, hb, hc⟩ := hr (by omega)
      injection he with he
      subst he
      rw [Addr.add_lit, hc j hjn]
      simpa [List.getD, List.getElem?_eq_getElem hjn] using hj
    · intro u hu
      obtain ⟨z, _, rfl⟩ := List.mem_map.1 hu
      rfl

/-- An op as a value. -/
structure AO where
  kind : Int
  file : Int
  n : Int
  bs : List Int
  keep : List Bool
structure AO.Wf (o : AO) : Prop where
  k : I64 o.kind
  f : I64 o.file
  n : I64 o.n
def opV (o : AO) (A : Option Addr) (c : Nat) (K : Option Addr) (kc : Nat) : Value := .agg #[.int .i64 o.kind, .int .i64 o.file, .int .i64 o.n, .slice A o.bs.length c, .slice K o.keep.length kc]
/-- Its bytes and bools can be read, from whatever lies below B. -/
structure OpAt (w : World) (B : Nat) (o : AO) (A : Option Addr) (c : Nat) (K : Option Addr) (kc : Nat) : Prop where
  rd : Rd w B A o.bs
  rk : RdB w B K o.keep
  c1 : o.bs.length ≤ c
  c2 : c ≤ 9223372036854775807
  k1 : o.keep.length ≤ kc
  k2 : kc ≤ 9223372036854775807
  low : B ≤ w.heap.size
theorem OpAt.below {w w' : World} {B : Nat} {o : AO} {A : Option Addr} {c : Nat} {K : Option Addr} {kc : Nat} (h : OpAt w B o A c K kc) (hb : Below B w w') : OpAt w' B o A c K kc :=
  ⟨h.rd.below hb, h.rk.below hb, h.c1, h.c2, h.k1, h.k2, Nat.le_trans h.low hb.size⟩
def AO.few (o : AO) : AO := ⟨o.kind, o.file, o.n, o.bs.take 300, o.keep.take 200⟩

/-- The op's own rows, from base on. -/
def FewAt (base : Nat) (w : World) (o : AO) (A : Option Addr) (c : Nat) (K : Option Addr) (kc : Nat) : Prop :=
  w.ownsRow base 5 1 (.slice A o.bs.length c) o.bs.length (o.bs.map (Value.int .u8)) ∧ w.ownsRow base 4 1 (.slice K o.keep.length kc) o.keep.length (o.keep.map Value.bool)
def GivesOp (w : World) (o : AO) (e : Ending) (w' : World) : Prop := ∃ A c K kc, e = .returned (opV o A c K kc) ∧ FewAt w.heap.size w' o A c K kc ∧ Below w.heap.size w w'

set_option maxHeartbeats 2000000 in
theorem few_any {w : World} {B : Nat} (o : AO) (A : Option Addr) (c : Nat) (K : Option Addr) (kc : Nat) (h : OpAt w B o A c K kc) : Calls Try.prog 33 #[opV o A c K kc] w (GivesOp w o.few) := by
  obtain ⟨kd, fl, n, bs, keep⟩ := o
  obtain ⟨rd, rk, c1, c2, k1, k2, low⟩ := h
  dsimp only [opV, AO.few] at *
  obtain ⟨bn, hbn⟩ : ∃ bn, bn = bs.length := ⟨_, rfl⟩
  obtain ⟨kn, hkn⟩ : ∃ kn, kn = keep.length := ⟨_, rfl⟩
  rw [← hbn] at c1 ⊢
  rw [← hkn] at k1 ⊢
  have RD := Lib.hid rd
  have RK := Lib.hid rk
  have HBN := Lib.hid hbn
  have HKN := Lib.hid hkn
  clear rd rk hbn hkn
  have e1 : (bs.take 300).length = (min (bn : Int) 300).toNat := by have := HBN.out; simp; omega
  have e2 : (keep.take 200).length = (min (kn : Int) 200).toNat := by have := HKN.out; simp; omega
  have s1 : (min (bn : Int) 300).toNat ≤ 300 := by omega
  have s2 : (min (kn : Int) 200).toNat ≤ 200 := by omega
  have t0 : (0 : Int) ≤ min (bn : Int) 300 := by omega
  have t1 : min (bn : Int) 300 ≤ (c : Int) := by omega
  have t2 : (0 : Int) ≤ min (kn : Int) 200 := by omega
  have t3 : min (kn : Int) 200 ≤ (kc : Int) := by omega
  have E1 := Lib.hid e1
  have E2 := Lib.hid e2
  clear e1 e2
  go_enter Try.func33, Try.ntmps33
  go_wp2_with (at_builtin; refine app_at rfl _ _ rfl w.heap.size (some ⟨w.heap.size + 1 + 1, 0, none⟩) 0 0 [] rfl ?q1 A c _ (bs.take 300) rfl E1.out ?q2 (by omega) (by simp; omega) ?_)
  case q1 =>
    have := World.ownsRow_made (base := w.heap.size) (e := 5) (size := 1) ((w.alloc (.cells #[.int .i64 kd, .int .i64 fl, .int .i64 n, .slice A bn c, .slice K kn kc] 37)).alloc (.cells #[.int .i64 0, .int .i64 0, .int .i64 0, .slice none 0 0, .slice none 0 0] 37)) #[] 0 (by simp; omega) (Nat.zero_le _) rfl
    simpa using this
  case q2 => exact ((RD.out.take 300).below (((((Below.refl _ w).alloc low _).alloc (by simp; omega) _).alloc (by simp; omega) _))).wide (by simp; omega)
  intro A1 c1 w1 hown hgrow hloc
  have hb0 : Below w.heap.size w (((w.alloc (.cells #[.int .i64 kd, .int .i64 fl, .int .i64 n, .slice A bn c, .slice K kn kc] 37)).alloc (.cells #[.int .i64 0, .int .i64 0, .int .i64 0, .slice none 0 0, .slice none 0 0] 37)).alloc (.cells #[] 5)) := (((Below.refl _ w).alloc (Nat.le_refl _) _).alloc (by simp) _).alloc (by simp; omega) _
  have hs0 : (((w.alloc (.cells #[.int .i64 kd, .int .i64 fl, .int .i64 n, .slice A bn c, .slice K kn kc] 37)).alloc (.cells #[.int .i64 0, .int .i64 0, .int .i64 0, .slice none 0 0, .slice none 0 0] 37)).alloc (.cells #[] 5)).heap.size = w.heap.size + 3 := by simp
  have hx0 : (((w.alloc (.cells #[.int .i64 kd, .int .i64 fl, .int .i64 n, .slice A bn c, .slice K kn kc] 37)).alloc (.cells #[.int .i64 0, .int .i64 0, .int .i64 0, .slice none 0 0, .slice none 0 0] 37)).alloc (.cells #[] 5)).heap[w.heap.size]? = some (.cells #[.int .i64 kd, .int .i64 fl, .int .i64 n, .slice A bn c, .slice K kn kc] 37 (0, 0)) := by
    rw [Below.heap_alloc _ _ _ (by simp; omega), Below.heap_alloc _ _ _ (by simp)]; exact heap_alloc_new w _
  have hz0 : (((w.alloc (.cells #[.int .i64 kd, .int .i64 fl, .int .i64 n, .slice A bn c, .slice K kn kc] 37)).alloc (.cells #[.int .i64 0, .int .i64 0, .int .i64 0, .slice none 0 0, .slice none 0 0] 37)).alloc (.cells #[] 5)).heap[w.heap.size + 1]? = some (.cells #[.int .i64 0, .int .i64 0, .int .i64 0, .slice none 0 0, .slice none 0 0] 37 (0, 0)) := by
    rw [Below.heap_alloc _ _ _ (by simp)]
    have := heap_alloc_new (w.alloc (.cells #[.int .i64 kd, .int .i64 fl, .int .i64 n, .slice A bn c, .slice K kn kc] 37)) (.cells #[.int .i64 0, .int .i64 0, .int .i64 0, .slice none 0 0, .slice none 0 0] 37)
    rw [World.size_alloc] at this
    exact this
  generalize (((w.alloc (.cells #[.int .i64 kd, .int .i64 fl, .int .i64 n, .slice A bn c, .slice K kn kc] 37)).alloc (.cells #[.int .i64 0, .int .i64 0, .int .i64 0, .slice none 0 0, .slice none 0 0] 37)).alloc (.cells #[] 5)) = W0 at hgrow hloc hb0 hs0 hx0 hz0
  have hm1 : (min (bn : Int) 300).toNat = (bs.take 300).length := E1.out.symm
  rw [hm1] at hown ⊢
  rw [← List.map_take] at hown
  obtain ⟨m1, hm1'⟩ : ∃ m1, m1 = (bs.take 300).length := ⟨_, rfl⟩
  rw [← hm1'] at hown ⊢
  have HM1 := Lib.hid hm1'
  have hx1 : w1.heap[w.heap.size]? = some (.cells #[.int .i64 kd, .int .i64 fl, .int .i64 n, .slice A bn c, .slice K kn kc] 37 (0, 0)) := (hgrow.block _ (by omega) (by simp [blk] <;> omega)).trans hx0
  have hz1 : w1.heap[w.heap.size + 1]? = some (.cells #[.int .i64 0, .int .i64 0, .int .i64 0, .slice none 0 0, .slice none 0 0] 37 (0, 0)) := (hgrow.block _ (by omega) (by simp [blk] <;> omega)).trans hz0
  have hb1 : Below w.heap.size w w1 := hb0.grown hgrow (by omega) (fun k hk => by simp [blk] at hk; omega)
  have hs1 := hgrow.size
  have b3 : w1.cell? ⟨w.heap.size, 3, none⟩ = some (.slice A bn c) := by simp [World.cell?, hx1]
  have b4 : w1.cell? ⟨w.heap.size, 4, none⟩ = some (.slice K kn kc) := by simp [World.cell?, hx1]
  have f3 : w1.frozen? ⟨w.heap.size, 3, none⟩ = false := by simp [World.frozen?, hx1]
  have HO1 := Lib.hid hown
  have HX1 := Lib.hid hx1
  have HZ1 := Lib.hid hz1
  have HB1 := Lib.hid hb1
  have hlt1 : w.heap.size + 3 ≤ w1.heap.size := by omega
  clear hown hgrow hloc hb0 hs0 hx0 hz0 hm1 hm1' hx1 hz1 hb1 hs1
  have hx2 : (w1.setCell ⟨w.heap.size, 3, none⟩ (.slice A1 m1 c1)).heap[w.heap.size]? = some (.cells #[.int .i64 kd, .int .i64 fl, .int .i64 n, .slice A1 m1 c1, .slice K kn kc] 37 (0, 0)) := heap_set HX1.out 3 _
  have hsz2 : (w1.setCell ⟨w.heap.size, 3, none⟩ (.slice A1 m1 c1)).heap.size = w1.heap.size := by simp [World.setCell]
  have b4' : ((w1.setCell ⟨w.heap.size, 3, none⟩ (.slice A1 m1 c1)).alloc (.cells #[] 4)).cell? ⟨w.heap.size, 4, none⟩ = some (.slice K kn kc) := by
    refine Lib.cell?_alloc_some _ ?_
    simp [World.cell?, hx2]
  have hb2 : Below w.heap.size w ((w1.setCell ⟨w.heap.size, 3, none⟩ (.slice A1 m1 c1)).alloc (.cells #[] 4)) := ((HB1.out.setCell (p := ⟨w.heap.size, 3, none⟩) (Nat.le_refl _) _)).alloc (by rw [hsz2]; omega) _
  have hx2' : ((w1.setCell ⟨w.heap.size, 3, none⟩ (.slice A1 m1 c1)).alloc (.cells #[] 4)).heap[w.heap.size]? = some (.cells #[.int .i64 kd, .int .i64 fl, .int .i64 n, .slice A1 m1 c1, .slice K kn kc] 37 (0, 0)) := (Below.heap_alloc _ _ _ (by rw [hsz2]; omega)).trans hx2
  have hz2' : ((w1.setCell ⟨w.heap.size, 3, none⟩ (.slice A1 m1 c1)).alloc (.cells #[] 4)).heap[w.heap.size + 1]? = some (.cells #[.int .i64 0, .int .i64 0, .int .i64 0, .slice none 0 0, .slice none 0 0] 37 (0, 0)) := (Below.heap_alloc _ _ _ (by rw [hsz2]; omega)).trans ((Below.heap_setCell _ _ _ _ (by simp)).trans HZ1.out)
  have hr2' : ((w1.setCell ⟨w.heap.size, 3, none⟩ (.slice A1 m1 c1)).alloc (.cells #[] 4)).ownsRow w.heap.size 5 1 (.slice A1 m1 c1) m1 ((bs.take 300).map (Value.int .u8)) := by
    refine World.ownsRow.alloc (row_same HO1.out (fun g hg => Below.heap_setCell _ _ _ _ ?_)) _
    rintro rfl
    obtain ⟨cur, hc⟩ := own_block HO1.out hg
    rw [HX1.out] at hc
    simp at hc
  have HB2 := Lib.hid hb2
  have HX2 := Lib.hid hx2'
  have HZ2 := Lib.hid hz2'
  have HR2 := Lib.hid hr2'
  clear hx2 hb2 hx2' hz2' hr2'
  go_wp2_with (at_builtin; refine app_bool rfl _ _ rfl w.heap.size _ 0 [] rfl ?r1 K kc _ (keep.take 200) rfl E2.out ?r2 (by omega) (by simp [World.setCell]; omega) ?_)
  case r1 =>
    have := World.ownsRow_made (base := w.heap.size) (e := 4) (size := 1) (w1.setCell ⟨w.heap.size, 3, none⟩ (.slice A1 m1 c1)) #[] 0 (by rw [hsz2]; omega) (Nat.zero_le _) rfl
    rw [hsz2] at this
    exact this
  case r2 => exact ((RK.out.take 200).below (HB2.out.mono low)).wide (by simp [World.setCell]; omega)
  intro v2 w2 hown2 hgrow2
  generalize ((w1.setCell ⟨w.heap.size, 3, none⟩ (.slice A1 m1 c1)).alloc (.cells #[] 4)) = W2 at hgrow2 HB2 HX2 HZ2 HR2
  have hm2 : (min (kn : Int) 200).toNat = (keep.take 200).length := E2.out.symm
  rw [hm2] at hown2
  rw [← List.map_take] at hown2
  obtain ⟨m2, hm2'⟩ : ∃ m2, m2 = (keep.take 200).length := ⟨_, rfl⟩
  rw [← hm2'] at hown2
  obtain ⟨A2, c2', rfl, _, _⟩ := own_form hown2
  have HM2 := Lib.hid hm2'
  have hob : ∀ k, (Value.slice (some ⟨w1.heap.size, 0, none⟩) 0 0).ownBlock = some k → k = w1.heap.size := fun k hk => by simp [Value.ownBlock] at hk; omega
  have hx3 : w2.heap[w.heap.size]? = some (.cells #[.int .i64 kd, .int .i64 fl, .int .i64 n, .slice A1 m1 c1, .slice K kn kc] 37 (0, 0)) := (hgrow2.block _ (lt_of_block HX2.out) (fun e => by have := hob _ e.symm; omega)).trans HX2.out
  have hz3 : w2.heap[w.heap.size + 1]? = some (.cells #[.int .i64 0, .int .i64 0, .int .i64 0, .slice none 0 0, .slice none 0 0] 37 (0, 0)) := (hgrow2.block _ (lt_of_block HZ2.out) (fun e => by have := hob _ e.symm; omega)).trans HZ2.out
  have hr3 : w2.ownsRow w.heap.size 5 1 (.slice A1 m1 c1) m1 ((bs.take 300).map (Value.int .u8)) := by
    refine row_same HR2.out (fun g hg => hgrow2.block g ?_ (fun e => ?_))
    · obtain ⟨cur, hc⟩ := own_block HR2.out hg; exact lt_of_block hc
    · have h1 := hob _ e.symm
      obtain ⟨cur, hc⟩ := own_block HO1.out hg
      have := lt_of_block hc
      omega
  have hb3 : Below w.heap.size w w2 := HB2.out.grown hgrow2 HB2.out.size (fun k hk => by have := hob k hk; omega)
  have d0 : w2.cell? ⟨w.heap.size, 0, none⟩ = some (.int .i64 kd) := by simp [World.cell?, hx3]
  have g0 : w2.cell? ⟨w.heap.size + 1, 0, none⟩ = some (.int .i64 0) := by simp [World.cell?, hz3]
  have h0 : w2.frozen? ⟨w.heap.size + 1, 0, none⟩ = false := by simp [World.frozen?, hz3]
  have d1 : w2.cell? ⟨w.heap.size, 1, none⟩ = some (.int .i64 fl) := by simp [World.cell?, hx3]
  have g1 : w2.cell? ⟨w.heap.size + 1, 1, none⟩ = some (.int .i64 0) := by simp [World.cell?, hz3]
  have h1 : w2.frozen? ⟨w.heap.size + 1, 1, none⟩ = false := by simp [World.frozen?, hz3]
  have d2 : w2.cell? ⟨w.heap.size, 2, none⟩ = some (.int .i64 n) := by simp [World.cell?, hx3]
  have g2 : w2.cell? ⟨w.heap.size + 1, 2, none⟩ = some (.int .i64 0) := by simp [World.cell?, hz3]
  have h2 : w2.frozen? ⟨w.heap.size + 1, 2, none⟩ = false := by simp [World.frozen?, hz3]
  have d3 : w2.cell? ⟨w.heap.size, 3, none⟩ = some (.slice A1 m1 c1) := by simp [World.cell?, hx3]
  have g3 : w2.cell? ⟨w.heap.size + 1, 3, none⟩ = some (.slice none 0 0) := by simp [World.cell?, hz3]
  have h3 : w2.frozen? ⟨w.heap.size + 1, 3, none⟩ = false := by simp [World.frozen?, hz3]
  have d4 : w2.cell? ⟨w.heap.size, 4, none⟩ = some (.slice K kn kc) := by simp [World.cell?, hx3]
  have g4 : w2.cell? ⟨w.heap.size + 1, 4, none⟩ = some (.slice none 0 0) := by simp [World.cell?, hz3]
  have h4 : w2.frozen? ⟨w.heap.size + 1, 4, none⟩ = false := by simp [World.frozen?, hz3]
  have fb4 : w2.frozen? ⟨w.heap.size, 4, none⟩ = false := by simp [World.frozen?, hx3]
  have HO2 := Lib.hid hown2
  have HX3 := Lib.hid hx3
  have HZ3 := Lib.hid hz3
  have HR3 := Lib.hid hr3
  have HB3 := Lib.hid hb3
  clear hown2 hgrow2 hm2 hm2' hx3 hz3 hr3 hb3 hob b4' hsz2 b3 b4 f3 t0 t1 t2 t3 s1 s2
  go_wp2
  have h9 : ((((((w2.setCell ⟨w.heap.size, 4, none⟩ (.slice A2 m2 c2')).setCell ⟨w.heap.size + 1, 0, none⟩ (.int .i64 kd)).setCell ⟨w.heap.size + 1, 1, none⟩ (.int .i64 fl)).setCell ⟨w.heap.size + 1, 2, none⟩ (.int .i64 n)).setCell ⟨w.heap.size + 1, 3, none⟩ (.slice A1 m1 c1)).setCell ⟨w.heap.size + 1, 4, none⟩ (.slice A2 m2 c2')).heap[w.heap.size + 1]? = some (.cells #[.int .i64 kd, .int .i64 fl, .int .i64 n, .slice A1 m1 c1, .slice A2 m2 c2'] 37 (0, 0)) :=
    heap_set (heap_set (heap_set (heap_set (heap_set ((Below.heap_setCell _ _ _ _ (by simp)).trans HZ3.out) 0 _) 1 _) 2 _) 3 _) 4 _
  have o9 : ∀ g, g ≠ w.heap.size → g ≠ w.heap.size + 1 → ((((((w2.setCell ⟨w.heap.size, 4, none⟩ (.slice A2 m2 c2')).setCell ⟨w.heap.size + 1, 0, none⟩ (.int .i64 kd)).setCell ⟨w.heap.size + 1, 1, none⟩ (.int .i64 fl)).setCell ⟨w.heap.size + 1, 2, none⟩ (.int .i64 n)).setCell ⟨w.heap.size + 1, 3, none⟩ (.slice A1 m1 c1)).setCell ⟨w.heap.size + 1, 4, none⟩ (.slice A2 m2 c2')).heap[g]? = w2.heap[g]? := fun g e1 e2 => by
    rw [Below.heap_setCell _ _ _ _ e2, Below.heap_setCell _ _ _ _ e2, Below.heap_setCell _ _ _ _ e2, Below.heap_setCell _ _ _ _ e2, Below.heap_setCell _ _ _ _ e2, Below.heap_setCell _ _ _ _ e1]
  have b9 : Below w.heap.size w ((((((w2.setCell ⟨w.heap.size, 4, none⟩ (.slice A2 m2 c2')).setCell ⟨w.heap.size + 1, 0, none⟩ (.int .i64 kd)).setCell ⟨w.heap.size + 1, 1, none⟩ (.int .i64 fl)).setCell ⟨w.heap.size + 1, 2, none⟩ (.int .i64 n)).setCell ⟨w.heap.size + 1, 3, none⟩ (.slice A1 m1 c1)).setCell ⟨w.heap.size + 1, 4, none⟩ (.slice A2 m2 c2')) :=
    (((((HB3.out.setCell (p := ⟨w.heap.size, 4, none⟩) (Nat.le_refl _) _).setCell (p := ⟨w.heap.size + 1, 0, none⟩) (by simp) _).setCell (p := ⟨w.heap.size + 1, 1, none⟩) (by simp) _).setCell (p := ⟨w.heap.size + 1, 2, none⟩) (by simp) _).setCell (p := ⟨w.heap.size + 1, 3, none⟩) (by simp) _).setCell (p := ⟨w.heap.size + 1, 4, none⟩) (by simp) _
  generalize ((((((w2.setCell ⟨w.heap.size, 4, none⟩ (.slice A2 m2 c2')).setCell ⟨w.heap.size + 1, 0, none⟩ (.int .i64 kd)).setCell ⟨w.heap.size + 1, 1, none⟩ (.int .i64 fl)).setCell ⟨w.heap.size + 1, 2, none⟩ (.int .i64 n)).setCell ⟨w.heap.size + 1, 3, none⟩ (.slice A1 m1 c1)).setCell ⟨w.heap.size + 1, 4, none⟩ (.slice A2 m2 c2')) = W9 at h9 o9 b9 ⊢
  have r1 : W9.ownsRow w.heap.size 5 1 (.slice A1 m1 c1) m1 ((bs.take 300).map (Value.int .u8)) := row_same HR3.out (fun g hg => by
    obtain ⟨cur, hc⟩ := own_block HR3.out hg
    refine o9 g ?_ ?_
    · rintro rfl; rw [HX3.out] at hc; simp at hc
    · rintro rfl; rw [HZ3.out] at hc; simp at hc)
  have r2 : W9.ownsRow w.heap.size 4 1 (.slice A2 m2 c2') m2 ((keep.take 200).map Value.bool) := row_same HO2.out (fun g hg => by
    obtain ⟨cur, hc⟩ := own_block HO2.out hg
    refine o9 g ?_ ?_
    · rintro rfl; rw [HX3.out] at hc; simp at hc
    · rintro rfl; rw [HZ3.out] at hc; simp at hc)
  have q0 : W9.cell? ⟨w.heap.size + 1, 0, none⟩ = some (.int .i64 kd) := by simp [World.cell?, h9]
  have q1 : W9.cell? ⟨w.heap.size + 1, 1, none⟩ = some (.int .i64 fl) := by simp [World.cell?, h9]
  have q2 : W9.cell? ⟨w.heap.size + 1, 2, none⟩ = some (.int .i64 n) := by simp [World.cell?, h9]
  have q3 : W9.cell? ⟨w.heap.size + 1, 3, none⟩ = some (.slice A1 m1 c1) := by simp [World.cell?, h9]
  have q4 : W9.cell? ⟨w.heap.size + 1, 4, none⟩ = some (.slice A2 m2 c2') := by simp [World.cell?, h9]
  refine bodyPost_ret (v := .agg #[.int .i64 kd, .int .i64 fl, .int .i64 n, .slice A1 m1 c1, .slice A2 m2 c2']) (by simp [results, Try.results33, go_sem, q0, q1, q2, q3, q4]) rfl ⟨A1, c1, A2, c2', ?_, ?_, b9⟩
  · simp only [opV]
    rw [HM1.out, HM2.out]
  · rw [HM1.out] at r1
    rw [HM2.out] at r2
    exact ⟨r1, r2⟩

end Go.Proofs.Ythpbgejjfdgpaaa
