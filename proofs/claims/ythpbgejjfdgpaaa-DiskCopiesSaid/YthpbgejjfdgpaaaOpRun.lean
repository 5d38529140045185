/-
  What an op does with a disk (run).
-/
import Derived.Test.YthpbgejjfdgpaaaOpFew
namespace Go.Proofs.Ythpbgejjfdgpaaa
open Go.RowKit
set_option linter.unusedVariables false
set_option maxRecDepth 100000

/-- Block s is the op that can be gone through; its rows lie behind it. -/
structure RunAt (w : World) (o : AO) (A : Option Addr) (c : Nat) (K : Option Addr) (kc : Nat) (W : World) : Prop where
  box : W.heap[w.heap.size]? = some (.cells #[.int .i64 o.kind, .int .i64 o.file, .int .i64 o.n, .slice A o.bs.length c, .slice K o.keep.length kc] 37 (0, 0))
  row : W.ownsRow (w.heap.size + 1) 5 1 (.slice A o.bs.length c) o.bs.length (o.bs.map (Value.int .u8))
  rok : W.ownsRow (w.heap.size + 1) 4 1 (.slice K o.keep.length kc) o.keep.length (o.keep.map Value.bool)
  bel : Below w.heap.size w W

theorem own_le {w : World} {base n c : Nat} {e : TypeId} {A : Option Addr} {xs : List Value} (h : w.ownsRow base e 1 (.slice A n c) n xs) : n ≤ c := by
  obtain ⟨A', c', e, h1, _⟩ := own_form h
  injection e with _ _ e; omega
theorem own_max {w : World} {base n c : Nat} {e : TypeId} {A : Option Addr} {xs : List Value} (h : w.ownsRow base e 1 (.slice A n c) n xs) : c ≤ 9223372036854775807 := by
  obtain ⟨A', c', e, _, h1⟩ := own_form h
  injection e with _ _ e
  unfold maxLen at h1; omega

theorem run_at {w Wa w1 : World} {q : AO} {kd fl n : Int} {A A1 K K1 : Option Addr} {c c1 kc kc1 bn kn : Nat} (hx : w1.heap[w.heap.size]? = some (.cells #[.int .i64 kd, .int .i64 fl, .int .i64 n, .slice A bn c, .slice K kn kc] 37 (0, 0))) (hf : FewAt Wa.heap.size w1 q A1 c1 K1 kc1) (hb : Below Wa.heap.size Wa w1) (hba : Below w.heap.size w Wa) (hsa : Wa.heap.size = w.heap.size + 1) :
    RunAt w q A1 c1 K1 kc1 (((((w1.setCell ⟨w.heap.size, 0, none⟩ (.int .i64 q.kind)).setCell ⟨w.heap.size, 1, none⟩ (.int .i64 q.file)).setCell ⟨w.heap.size, 2, none⟩ (.int .i64 q.n)).setCell ⟨w.heap.size, 3, none⟩ (.slice A1 q.bs.length c1)).setCell ⟨w.heap.size, 4, none⟩ (.slice K1 q.keep.length kc1)) := by
  have h5 := heap_set (heap_set (heap_set (heap_set (heap_set hx 0 (.int .i64 q.kind)) 1 (.int .i64 q.file)) 2 (.int .i64 q.n)) 3 (.slice A1 q.bs.length c1)) 4 (.slice K1 q.keep.length kc1)
  have o5 : ∀ g, g ≠ w.heap.size → (((((w1.setCell ⟨w.heap.size, 0, none⟩ (.int .i64 q.kind)).setCell ⟨w.heap.size, 1, none⟩ (.int .i64 q.file)).setCell ⟨w.heap.size, 2, none⟩ (.int .i64 q.n)).setCell ⟨w.heap.size, 3, none⟩ (.slice A1 q.bs.length c1)).setCell ⟨w.heap.size, 4, none⟩ (.slice K1 q.keep.length kc1)).heap[g]? = w1.heap[g]? := fun g e1 => by
    rw [Below.heap_setCell _ _ _ _ e1, Below.heap_setCell _ _ _ _ e1, Below.heap_setCell _ _ _ _ e1, Below.heap_setCell _ _ _ _ e1, Below.heap_setCell _ _ _ _ e1]
  obtain ⟨hf1, hf2⟩ := hf
  rw [hsa] at hf1 hf2
  refine ⟨h5, row_same hf1 (fun g hg => o5 g ?_), row_same hf2 (fun g hg => o5 g ?_), ?_⟩
  · rintro rfl; obtain ⟨cur, hc⟩ := own_block hf1 hg; rw [hx] at hc; simp at hc
  · rintro rfl; obtain ⟨cur, hc⟩ := own_block hf2 hg; rw [hx] at hc; simp at hc
  · exact (((((hba.trans (hb.mono hba.size)).setCell (p := ⟨w.heap.size, 0, none⟩) (Nat.le_refl _) _).setCell (p := ⟨w.heap.size, 1, none⟩) (Nat.le_refl _) _).setCell (p := ⟨w.heap.size, 2, none⟩) (Nat.le_refl _) _).setCell (p := ⟨w.heap.size, 3, none⟩) (Nat.le_refl _) _).setCell (p := ⟨w.heap.size, 4, none⟩) (Nat.le_refl _) _

/-- The op's own bytes, turned or not. -/
def Xored (w w3 : World) (m1 c1 g : Nat) (q : AO) (K1 : Option Addr) (kc1 : Nat) (wr : World) : Prop :=
  ∃ xs : List Value, (∀ v ∈ xs, ∃ z, v = .int .u8 z) ∧ wr.ownsRow (w.heap.size + 1) 5 1 (.slice (some ⟨g, 0, none⟩) m1 c1) m1 xs ∧ wr.heap[w.heap.size]? = some (.cells #[.int .i64 q.kind, .int .i64 q.file, .int .i64 q.n, .slice (some ⟨g, 0, none⟩) m1 c1, .slice K1 q.keep.length kc1] 37 (0, 0)) ∧ Turn (fun j => j = g) w3 wr

set_option maxHeartbeats 2000000 in
theorem run_nil {w : World} {B : Nat} (o : AO) (hw : o.Wf) (A : Option Addr) (c : Nat) (K : Option Addr) (kc : Nat) (h : OpAt w B o A c K kc) :
    Calls Try.prog 12 #[opV o A c K kc, .pointer none] w fun e w' => e = .returned (.tuple #[.slice none 0 0, .int .i64 1]) ∧ Below w.heap.size w w' := by
  obtain ⟨Wa, hWa⟩ : ∃ Wa, Wa = w.alloc (.cells #[.int .i64 o.kind, .int .i64 o.file, .int .i64 o.n, .slice A o.bs.length c, .slice K o.keep.length kc] 37) := ⟨_, rfl⟩
  have hba : Below w.heap.size w Wa := by rw [hWa]; exact (Below.refl _ w).alloc (Nat.le_refl _) _
  have hsa : Wa.heap.size = w.heap.size + 1 := by rw [hWa]; simp
  have hxa : Wa.heap[w.heap.size]? = some (.cells #[.int .i64 o.kind, .int .i64 o.file, .int .i64 o.n, .slice A o.bs.length c, .slice K o.keep.length kc] 37 (0, 0)) := by rw [hWa]; exact heap_alloc_new w _
  have HF := Lib.hid (few_any o A c K kc (h.below (hba.mono h.low)))
  have HWA := Lib.hid hWa
  have HXA := Lib.hid hxa
  have HSA := Lib.hid hsa
  have HBA := Lib.hid hba
  obtain ⟨q, hq⟩ : ∃ q, q = o.few := ⟨_, rfl⟩
  have HQ := Lib.hid hq
  rw [← hq] at HF
  obtain ⟨wk, wf, wn⟩ := hw
  clear hWa hxa hsa hba h hq
  dsimp only [opV] at *
  generalize o.bs.length = bn at *
  generalize o.keep.length = kn at *
  go_enter Try.func12, Try.ntmps12
  go_wp2_with (go_at_call 33; rw [← HWA.out]; refine HF.out.mono ?_; rintro e w1 ⟨A1, c1, K1, kc1, rfl, hfw, hb1⟩; dsimp only [opV]; have hx1 := (hb1.block _ (lt_of_block HXA.out)).trans HXA.out; have y0 : w1.cell? ⟨w.heap.size, 0, none⟩ = some (.int .i64 o.kind) := (by simp [World.cell?, hx1]); have y1 : w1.cell? ⟨w.heap.size, 1, none⟩ = some (.int .i64 o.file) := (by simp [World.cell?, hx1]); have y2 : w1.cell? ⟨w.heap.size, 2, none⟩ = some (.int .i64 o.n) := (by simp [World.cell?, hx1]); have y3 : w1.cell? ⟨w.heap.size, 3, none⟩ = some (.slice A bn c) := (by simp [World.cell?, hx1]); have y4 : w1.cell? ⟨w.heap.size, 4, none⟩ = some (.slice K kn kc) := (by simp [World.cell?, hx1]); have z0 : w1.frozen? ⟨w.heap.size, 0, none⟩ = false := (by simp [World.frozen?, hx1]); have z1 : w1.frozen? ⟨w.heap.size, 1, none⟩ = false := (by simp [World.frozen?, hx1]); have z2 : w1.frozen? ⟨w.heap.size, 2, none⟩ = false := (by simp [World.frozen?, hx1]); have z3 : w1.frozen? ⟨w.heap.size, 3, none⟩ = false := (by simp [World.frozen?, hx1]); have z4 : w1.frozen? ⟨w.heap.size, 4, none⟩ = false := (by simp [World.frozen?, hx1]); have HX1 := Lib.hid hx1; have HFW := Lib.hid hfw; have HB1 := Lib.hid hb1; clear hx1 hfw hb1)
  all_goals (
    have hrun : RunAt w q A1 c1 K1 kc1 (((((w1.setCell ⟨w.heap.size, 0, none⟩ (.int .i64 q.kind)).setCell ⟨w.heap.size, 1, none⟩ (.int .i64 q.file)).setCell ⟨w.heap.size, 2, none⟩ (.int .i64 q.n)).setCell ⟨w.heap.size, 3, none⟩ (.slice A1 q.bs.length c1)).setCell ⟨w.heap.size, 4, none⟩ (.slice K1 q.keep.length kc1)) := run_at HX1.out HFW.out HB1.out HBA.out HSA.out
    clear y0 y1 y2 y3 y4 z0 z1 z2 z3 z4
    generalize (((((w1.setCell ⟨w.heap.size, 0, none⟩ (.int .i64 q.kind)).setCell ⟨w.heap.size, 1, none⟩ (.int .i64 q.file)).setCell ⟨w.heap.size, 2, none⟩ (.int .i64 q.n)).setCell ⟨w.heap.size, 3, none⟩ (.slice A1 q.bs.length c1)).setCell ⟨w.heap.size, 4, none⟩ (.slice K1 q.keep.length kc1)) = W2 at hrun ⊢
    have RU := Lib.hid hrun
    clear hrun)
  · refine (sync_nil _ _).mono ?_
    rintro e w3 ⟨rfl, hb3⟩
    have HB3 := Lib.hid hb3
    clear hb3
    go_wp2
    go_ret2
    exact ⟨rfl, RU.out.bel.trans (HB3.out.mono RU.out.bel.size)⟩
  · refine (sync_nil _ _).mono ?_
    rintro e w3 ⟨rfl, hb3⟩
    have HB3 := Lib.hid hb3
    clear hb3
    go_wp2
    go_ret2
    exact ⟨rfl, RU.out.bel.trans (HB3.out.mono RU.out.bel.size)⟩
  · refine (read_nil _ _).mono ?_
    rintro e w3 ⟨rfl, hb3⟩
    have HB3 := Lib.hid hb3
    clear hb3
    go_wp2
    go_ret2
    exact ⟨rfl, RU.out.bel.trans (HB3.out.mono RU.out.bel.size)⟩
  · refine (truncate_nil _ _ _).mono ?_
    rintro e w3 ⟨rfl, hb3⟩
    have HB3 := Lib.hid hb3
    clear hb3
    go_wp2
    go_ret2
    exact ⟨rfl, RU.out.bel.trans (HB3.out.mono RU.out.bel.size)⟩
  · refine (rename_nil _ _ _).mono ?_
    rintro e w3 ⟨rfl, hb3⟩
    have HB3 := Lib.hid hb3
    clear hb3
    go_wp2
    go_ret2
    exact ⟨rfl, RU.out.bel.trans (HB3.out.mono RU.out.bel.size)⟩
  · refine (remove_nil _ _).mono ?_
    rintro e w3 ⟨rfl, hb3⟩
    have HB3 := Lib.hid hb3
    clear hb3
    go_wp2
    go_ret2
    exact ⟨rfl, RU.out.bel.trans (HB3.out.mono RU.out.bel.size)⟩
  · refine (arm_nil _ _).mono ?_
    rintro e w3 ⟨rfl, rfl⟩
    go_wp2
    go_ret2
    exact ⟨rfl, RU.out.bel⟩
  · refine (fail_nil _ _).mono ?_
    rintro e w3 ⟨rfl, rfl⟩
    go_wp2
    go_ret2
    exact ⟨rfl, RU.out.bel⟩
  · refine (crash_nil _ _).mono ?_
    rintro e w3 ⟨rfl, rfl⟩
    go_wp2
    go_ret2
    exact ⟨rfl, RU.out.bel⟩
  · refine (append_nil _ _ _).mono ?_
    rintro e w3 ⟨rfl, hb3⟩
    have HB3 := Lib.hid hb3
    clear hb3
    have bx3 : w3.heap[w.heap.size]? = some (.cells #[.int .i64 q.kind, .int .i64 q.file, .int .i64 q.n, .slice A1 q.bs.length c1, .slice K1 q.keep.length kc1] 37 (0, 0)) := (HB3.out.block _ (lt_of_block RU.out.box)).trans RU.out.box
    have rw3 : w3.ownsRow (w.heap.size + 1) 5 1 (.slice A1 q.bs.length c1) q.bs.length (q.bs.map (Value.int .u8)) := row_later RU.out.row HB3.out
    have hsm : q.bs.length ≤ 300 := by rw [HQ.out]; simp [AO.few]; omega
    obtain ⟨m1, hm1⟩ : ∃ m1, m1 = q.bs.length := ⟨_, rfl⟩
    rw [← hm1] at bx3 rw3 hsm ⊢
    have k3 : w3.cell? ⟨w.heap.size, 3, none⟩ = some (.slice A1 m1 c1) := by simp [World.cell?, bx3]
    have hc1 : m1 ≤ c1 := by
      obtain ⟨A', c', e, h1, _⟩ := own_form rw3
      injection e with _ _ e; omega
    have BX3 := Lib.hid bx3
    have RW3 := Lib.hid rw3
    clear bx3 rw3 hm1
    rcases hA1 : A1 with _ | ad
    · subst hA1
      have hz : m1 = 0 := by
        rcases RW3.out.2 with ⟨_, e⟩ | ⟨_, _, _, e, _⟩
        · exact e
        · cases e
      subst hz
      go_wp2
      go_loopw [78] (fun i wr => i = .int .i64 0 ∧ wr = w3) (fun _ _ => 0)
      case atStart => exact ⟨rfl, rfl⟩
      case round =>
        obtain ⟨rfl, rfl⟩ := hrel
        go_wp2
        go_ret2
        exact ⟨rfl, RU.out.bel.trans (HB3.out.mono RU.out.bel.size)⟩
    · subst hA1
      obtain ⟨g, hg⟩ : ∃ g, ad = ⟨g, 0, none⟩ := by
        rcases RW3.out.2 with ⟨e, _⟩ | ⟨g, cap, cur, e, _⟩
        · cases e
        · injection e with e1 _ _
          injection e1 with e1
          exact ⟨g, e1⟩
      subst hg
      go_wp2
      go_loopw [78] (fun i wr => ∃ k : Nat, i = .int .i64 k ∧ k ≤ m1 ∧ Hid (Xored w w3 m1 c1 g q K1 kc1 wr)) (fun i _ => m1 - (match i with | .int _ k => k.toNat | _ => 0))
      case atStart => exact ⟨0, rfl, Nat.zero_le _, Lib.hid ⟨q.bs.map (Value.int .u8), fun v hv => (by obtain ⟨z, _, rfl⟩ := List.mem_map.1 hv; exact ⟨z, rfl⟩), RW3.out, BX3.out, Turn.refl _ _⟩⟩
      case round =>
        obtain ⟨k, rfl, hk, H⟩ := hrel
        by_cases hkn : k < m1
        · have hkk : (k : Int) < m1 := by omega
          have k0 : (0 : Int) ≤ (k : Int) := by omega
          obtain ⟨xs, hxs, hrow, hbx, htu⟩ := H.out
          have hl : xs.length = m1 := by have := hrow.1; omega
          obtain ⟨z, hz⟩ := hxs (xs[k]'(by omega)) (List.getElem_mem _)
          have kz : wr.cell? ⟨g, k, none⟩ = some (.int .u8 z) := by
            rw [hrow.cellAt k (by omega), List.getElem?_eq_getElem (by omega), hz]
          have fz := hrow.frozenAt k
          have kb : wr.cell? ⟨w.heap.size, 3, none⟩ = some (.slice (some ⟨g, 0, none⟩) m1 c1) := by simp [World.cell?, hbx]
          have hglt := (hrow.lt g rfl)
          have HROW := Lib.hid hrow
          have HBX := Lib.hid hbx
          have HTU := Lib.hid htu
          have HXS := Lib.hid hxs
          clear hrow hbx htu hxs hz
          go_wp2
          go_roundw
          case rel =>
            refine ⟨k + 1, by simp, by omega, Lib.hid ⟨xs.set k _, ?_, (HROW.out.stored k _).1, ?_, ?_⟩⟩
            · intro v hv
              rcases List.mem_or_eq_of_mem_set hv with h1 | h1
              · exact HXS.out v h1
              · exact ⟨_, h1⟩
            · rw [Below.heap_setCell _ _ _ _ (by show w.heap.size ≠ g; omega)]; exact HBX.out
            · exact HTU.out.trans (Turn.of_grown (S := fun j => j = g) ((Only.refl g wr).set (.inl rfl) _) (fun i hi => by cases hi; exact .inl rfl)) (fun i hi => .inl hi)
          case measure => simp; omega
        · obtain rfl : k = m1 := by omega
          obtain ⟨xs, hxs, hrow, hbx, htu⟩ := H.out
          have HTU := Lib.hid htu
          have HROW := Lib.hid hrow
          clear hxs hbx htu hrow
          go_wp2
          go_ret2
          have hgl := (HROW.out.lt g rfl).1
          have hb3 := RU.out.bel.trans (HB3.out.mono RU.out.bel.size)
          exact ⟨rfl, hb3.trans (HTU.out.below hb3.size (fun i hi => by have : i = g := hi; omega))⟩


def AO.op (o : AO) : Int := (IntKind.u64.wrap o.kind).tmod 12
def AD.runC (M : AD) (o : AO) : Int :=
  if o.op = 3 then M.opC o.file [] else if o.op = 4 then M.opC o.file [] else if o.op = 5 then M.opC o.file [] else if o.op = 6 then M.truncC o.file o.n else if o.op = 7 then M.opC o.file [o.n] else if o.op = 8 then M.opC o.file [] else if o.op = 9 then M.setC o.n else if o.op = 10 then M.setC o.n else if o.op = 11 then 0 else M.appendC o.file o.bs.length
def AD.runM (M : AD) (o : AO) : AD :=
  if o.op = 3 then M.opM o.file [] (M.met.put o.file (M.file o.file).settled) else if o.op = 4 then M.opM o.file [] (M.met.put o.file (M.file o.file).settled) else if o.op = 5 then M.opM o.file [] M.met else if o.op = 6 then M.truncM o.file o.n
  else if o.op = 7 then M.opM o.file [o.n] (M.met.move o.file o.n) else if o.op = 8 then M.opM o.file [] (M.met.drop o.file) else if o.op = 9 then M.armM o.n else if o.op = 10 then M.failM o.n else if o.op = 11 then M.crash o.keep else M.appendM o.file o.bs
def AD.runB (M : AD) (o : AO) : List Int := if o.op = 5 then M.readB o.file else []

/-- What an op leaves. -/
def RanAs (S : Nat → Prop) (d : Nat) (w : World) (M : AD) (q : AO) (e : Ending) (w' : World) : Prop :=
  ∃ v S', e = .returned (.tuple #[v, .int .i64 (M.runC q)]) ∧ w'.ownsRow w.heap.size 5 1 v (M.runB q).length ((M.runB q).map (Value.int .u8)) ∧ DiskAt w' S' d (M.runM q) ∧ Turn S w w' ∧ (∀ k, S' k → S k ∨ w.heap.size ≤ k)

theorem ran_of {S S' : Nat → Prop} {d : Nat} {w w' : World} {M M' : AD} {q : AO} {cc : Int} (hb : M.runB q = []) (hc : M.runC q = cc) (hm : M.runM q = M') (hd : DiskAt w' S' d M') (ht : Turn S w w') (hs : ∀ k, S' k → S k ∨ w.heap.size ≤ k) : RanAs S d w M q (.returned (.tuple #[.slice none 0 0, .int .i64 cc])) w' :=
  ⟨.slice none 0 0, S', by rw [hc], by rw [hb]; exact World.ownsRow_nil _ _ _ _, by rw [hm]; exact hd, ht, hs⟩
theorem ran_after {S : Nat → Prop} {d : Nat} {w W w' : World} {M M' : AD} {q : AO} {cc : Int} (hb : M.runB q = []) (hc : M.runC q = cc) (hm : M.runM q = M') (hbel : Below w.heap.size w W) (ha : After S d W M' w') : RanAs S d w M q (.returned (.tuple #[.slice none 0 0, .int .i64 cc])) w' :=
  ran_of hb hc hm ha.1 ((Turn.of_below hbel).trans ha.2 (fun _ h => .inl h)) (fun k hk => hk.imp id (fun e => Nat.le_trans hbel.size e.1))

set_option maxHeartbeats 4000000 in
theorem run_any {w : World} {B : Nat} (o : AO) (hw : o.Wf) (A : Option Addr) (c : Nat) (K : Option Addr) (kc : Nat) (h : OpAt w B o A c K kc) {S : Nat → Prop} {d : Nat} {M : AD} (hD : DiskAt w S d M) (hops : M.ops < 4611686018427387904) :
    Calls Try.prog 12 #[opV o A c K kc, .pointer (some ⟨d, 0, none⟩)] w (RanAs S d w M o.few) := by
  have HDK := Lib.hid hD
  clear hD
  obtain ⟨Wa, hWa⟩ : ∃ Wa, Wa = w.alloc (.cells #[.int .i64 o.kind, .int .i64 o.file, .int .i64 o.n, .slice A o.bs.length c, .slice K o.keep.length kc] 37) := ⟨_, rfl⟩
  have hba : Below w.heap.size w Wa := by rw [hWa]; exact (Below.refl _ w).alloc (Nat.le_refl _) _
  have hsa : Wa.heap.size = w.heap.size + 1 := by rw [hWa]; simp
  have hxa : Wa.heap[w.heap.size]? = some (.cells #[.int .i64 o.kind, .int .i64 o.file, .int .i64 o.n, .slice A o.bs.length c, .slice K o.keep.length kc] 37 (0, 0)) := by rw [hWa]; exact heap_alloc_new w _
  have HF := Lib.hid (few_any o A c K kc (h.below (hba.mono h.low)))
  have HWA := Lib.hid hWa
  have HXA := Lib.hid hxa
  have HSA := Lib.hid hsa
  have HBA := Lib.hid hba
  obtain ⟨q, hq⟩ : ∃ q, q = o.few := ⟨_, rfl⟩
  have HQ := Lib.hid hq
  rw [← hq] at HF ⊢
  have wq : I64 q.file ∧ I64 q.n := by rw [hq]; exact ⟨hw.f, hw.n⟩
  obtain ⟨wk, wf, wn⟩ := hw
  clear hWa hxa hsa hba h hq
  dsimp only [opV] at *
  generalize o.bs.length = bn at *
  generalize o.keep.length = kn at *
  go_enter Try.func12, Try.ntmps12
  go_wp2_with (go_at_call 33; rw [← HWA.out]; refine HF.out.mono ?_; rintro e w1 ⟨A1, c1, K1, kc1, rfl, hfw, hb1⟩; dsimp only [opV]; have hx1 := (hb1.block _ (lt_of_block HXA.out)).trans HXA.out; have y0 : w1.cell? ⟨w.heap.size, 0, none⟩ = some (.int .i64 o.kind) := (by simp [World.cell?, hx1]); have y1 : w1.cell? ⟨w.heap.size, 1, none⟩ = some (.int .i64 o.file) := (by simp [World.cell?, hx1]); have y2 : w1.cell? ⟨w.heap.size, 2, none⟩ = some (.int .i64 o.n) := (by simp [World.cell?, hx1]); have y3 : w1.cell? ⟨w.heap.size, 3, none⟩ = some (.slice A bn c) := (by simp [World.cell?, hx1]); have y4 : w1.cell? ⟨w.heap.size, 4, none⟩ = some (.slice K kn kc) := (by simp [World.cell?, hx1]); have z0 : w1.frozen? ⟨w.heap.size, 0, none⟩ = false := (by simp [World.frozen?, hx1]); have z1 : w1.frozen? ⟨w.heap.size, 1, none⟩ = false := (by simp [World.frozen?, hx1]); have z2 : w1.frozen? ⟨w.heap.size, 2, none⟩ = false := (by simp [World.frozen?, hx1]); have z3 : w1.frozen? ⟨w.heap.size, 3, none⟩ = false := (by simp [World.frozen?, hx1]); have z4 : w1.frozen? ⟨w.heap.size, 4, none⟩ = false := (by simp [World.frozen?, hx1]); have HX1 := Lib.hid hx1; have HFW := Lib.hid hfw; have HB1 := Lib.hid hb1; clear hx1 hfw hb1)
  all_goals (
    have hrun : RunAt w q A1 c1 K1 kc1 (((((w1.setCell ⟨w.heap.size, 0, none⟩ (.int .i64 q.kind)).setCell ⟨w.heap.size, 1, none⟩ (.int .i64 q.file)).setCell ⟨w.heap.size, 2, none⟩ (.int .i64 q.n)).setCell ⟨w.heap.size, 3, none⟩ (.slice A1 q.bs.length c1)).setCell ⟨w.heap.size, 4, none⟩ (.slice K1 q.keep.length kc1)) := run_at HX1.out HFW.out HB1.out HBA.out HSA.out
    clear y0 y1 y2 y3 y4 z0 z1 z2 z3 z4
    generalize (((((w1.setCell ⟨w.heap.size, 0, none⟩ (.int .i64 q.kind)).setCell ⟨w.heap.size, 1, none⟩ (.int .i64 q.file)).setCell ⟨w.heap.size, 2, none⟩ (.int .i64 q.n)).setCell ⟨w.heap.size, 3, none⟩ (.slice A1 q.bs.length c1)).setCell ⟨w.heap.size, 4, none⟩ (.slice K1 q.keep.length kc1)) = W2 at hrun ⊢
    have RU := Lib.hid hrun
    clear hrun)
  · have DW := HDK.out.later RU.out.bel
    have hop : q.op = 3 := by unfold AO.op; first | assumption | (simp_all)
    refine (sync_any DW wq.1 hops).mono ?_
    rintro e w3 ⟨rfl, haf⟩
    have HAF := Lib.hid haf
    clear haf DW
    have HC := Lib.hid (show M.runC q = M.opC q.file [] by simp [AD.runC, hop])
    have HM := Lib.hid (show M.runM q = M.opM q.file [] (M.met.put q.file (M.file q.file).settled) by simp [AD.runM, hop])
    have HBB := Lib.hid (show M.runB q = [] by simp [AD.runB, hop])
    clear hop
    go_wp2
    go_ret2
    exact ran_after HBB.out HC.out HM.out RU.out.bel HAF.out
  · have DW := HDK.out.later RU.out.bel
    have hop : q.op = 4 := by unfold AO.op; first | assumption | (simp_all)
    refine (sync_any DW wq.1 hops).mono ?_
    rintro e w3 ⟨rfl, haf⟩
    have HAF := Lib.hid haf
    clear haf DW
    have HC := Lib.hid (show M.runC q = M.opC q.file [] by simp [AD.runC, hop])
    have HM := Lib.hid (show M.runM q = M.opM q.file [] (M.met.put q.file (M.file q.file).settled) by simp [AD.runM, hop])
    have HBB := Lib.hid (show M.runB q = [] by simp [AD.runB, hop])
    clear hop
    go_wp2
    go_ret2
    exact ran_after HBB.out HC.out HM.out RU.out.bel HAF.out
  · have DW := HDK.out.later RU.out.bel
    have hop : q.op = 5 := by unfold AO.op; first | assumption | (simp_all)
    refine (read_any DW wq.1 hops).mono ?_
    rintro e w3 ⟨v, rfl, hown, hd3, ht3⟩
    obtain ⟨rn, hrn⟩ : ∃ rn, rn = (M.readB q.file).length := ⟨_, rfl⟩
    rw [← hrn] at hown
    obtain ⟨A3, c3, rfl, _, _⟩ := own_form hown
    have HO := Lib.hid hown
    have HD3 := Lib.hid hd3
    have HT3 := Lib.hid ht3
    have HRN := Lib.hid hrn
    clear hown hd3 ht3 hrn DW
    have HC := Lib.hid (show M.runC q = M.opC q.file [] by simp [AD.runC, hop])
    have HM := Lib.hid (show M.runM q = M.opM q.file [] M.met by simp [AD.runM, hop])
    have HBB := Lib.hid (show M.runB q = M.readB q.file by simp [AD.runB, hop])
    clear hop
    go_wp2
    go_ret2
    refine ⟨.slice A3 rn c3, S, by rw [HC.out]; rfl, ?_, by rw [HM.out]; exact HD3.out, (Turn.of_below RU.out.bel).trans HT3.out (fun _ h => .inl h), fun k hk => .inl hk⟩
    rw [HBB.out, ← HRN.out]
    refine ⟨HO.out.1, ?_⟩
    rcases HO.out.2 with e | ⟨g, cap, cur, e1, hg, r⟩
    · exact .inl e
    · exact .inr ⟨g, cap, cur, e1, Nat.le_trans RU.out.bel.size hg, r⟩
  · have DW := HDK.out.later RU.out.bel
    have hop : q.op = 6 := by unfold AO.op; first | assumption | (simp_all)
    refine (truncate_any DW wq.1 wq.2 hops).mono ?_
    rintro e w3 ⟨rfl, haf⟩
    have HAF := Lib.hid haf
    clear haf DW
    have HC := Lib.hid (show M.runC q = M.truncC q.file q.n by simp [AD.runC, hop])
    have HM := Lib.hid (show M.runM q = M.truncM q.file q.n by simp [AD.runM, hop])
    have HBB := Lib.hid (show M.runB q = [] by simp [AD.runB, hop])
    clear hop
    go_wp2
    go_ret2
    exact ran_after HBB.out HC.out HM.out RU.out.bel HAF.out
  · have DW := HDK.out.later RU.out.bel
    have hop : q.op = 7 := by unfold AO.op; first | assumption | (simp_all)
    refine (rename_any DW wq.1 wq.2 hops).mono ?_
    rintro e w3 ⟨rfl, haf⟩
    have HAF := Lib.hid haf
    clear haf DW
    have HC := Lib.hid (show M.runC q = M.opC q.file [q.n] by simp [AD.runC, hop])
    have HM := Lib.hid (show M.runM q = M.opM q.file [q.n] (M.met.move q.file q.n) by simp [AD.runM, hop])
    have HBB := Lib.hid (show M.runB q = [] by simp [AD.runB, hop])
    clear hop
    go_wp2
    go_ret2
    exact ran_after HBB.out HC.out HM.out RU.out.bel HAF.out
  · have DW := HDK.out.later RU.out.bel
    have hop : q.op = 8 := by unfold AO.op; first | assumption | (simp_all)
    refine (remove_any DW wq.1 hops).mono ?_
    rintro e w3 ⟨rfl, haf⟩
    have HAF := Lib.hid haf
    clear haf DW
    have HC := Lib.hid (show M.runC q = M.opC q.file [] by simp [AD.runC, hop])
    have HM := Lib.hid (show M.runM q = M.opM q.file [] (M.met.drop q.file) by simp [AD.runM, hop])
    have HBB := Lib.hid (show M.runB q = [] by simp [AD.runB, hop])
    clear hop
    go_wp2
    go_ret2
    exact ran_after HBB.out HC.out HM.out RU.out.bel HAF.out
  · have DW := HDK.out.later RU.out.bel
    have hop : q.op = 9 := by unfold AO.op; first | assumption | (simp_all)
    refine (arm_any DW wq.2).mono ?_
    rintro e w3 ⟨rfl, hd3, hg3⟩
    have HD3 := Lib.hid hd3
    have HG3 := Lib.hid hg3
    clear hd3 hg3 DW
    have HC := Lib.hid (show M.runC q = M.setC q.n by simp [AD.runC, hop])
    have HM := Lib.hid (show M.runM q = M.armM q.n by simp [AD.runM, hop])
    have HBB := Lib.hid (show M.runB q = [] by simp [AD.runB, hop])
    clear hop
    go_wp2
    go_ret2
    exact ran_of HBB.out HC.out HM.out HD3.out ((Turn.of_below RU.out.bel).trans (Turn.of_grown (S := S) HG3.out (fun i hi => by cases hi; exact .inl HDK.out.inS)) (fun i hi => .inl hi)) (fun k hk => .inl hk)
  · have DW := HDK.out.later RU.out.bel
    have hop : q.op = 10 := by unfold AO.op; first | assumption | (simp_all)
    refine (fail_any DW wq.2).mono ?_
    rintro e w3 ⟨rfl, hd3, hg3⟩
    have HD3 := Lib.hid hd3
    have HG3 := Lib.hid hg3
    clear hd3 hg3 DW
    have HC := Lib.hid (show M.runC q = M.setC q.n by simp [AD.runC, hop])
    have HM := Lib.hid (show M.runM q = M.failM q.n by simp [AD.runM, hop])
    have HBB := Lib.hid (show M.runB q = [] by simp [AD.runB, hop])
    clear hop
    go_wp2
    go_ret2
    exact ran_of HBB.out HC.out HM.out HD3.out ((Turn.of_below RU.out.bel).trans (Turn.of_grown (S := S) HG3.out (fun i hi => by cases hi; exact .inl HDK.out.inS)) (fun i hi => .inl hi)) (fun k hk => .inl hk)
  · have DW := HDK.out.later RU.out.bel
    have hop : q.op = 11 := by unfold AO.op; first | assumption | (simp_all)
    refine (crash_any DW K1 kc1 q.keep (RdB.own RU.out.rok) (own_le RU.out.rok) (own_max RU.out.rok)).mono ?_
    rintro e w3 ⟨rfl, haf⟩
    have HAF := Lib.hid haf
    clear haf DW
    have HC := Lib.hid (show M.runC q = 0 by simp [AD.runC, hop])
    have HM := Lib.hid (show M.runM q = M.crash q.keep by simp [AD.runM, hop])
    have HBB := Lib.hid (show M.runB q = [] by simp [AD.runB, hop])
    clear hop
    go_wp2
    go_ret2
    exact ran_after HBB.out HC.out HM.out RU.out.bel HAF.out
  · have DW := HDK.out.later RU.out.bel
    have n3 : ¬ (IntKind.u64.wrap q.kind).tmod 12 = 3 := by first | assumption | (simp_all)
    have n4 : ¬ (IntKind.u64.wrap q.kind).tmod 12 = 4 := by first | assumption | (simp_all)
    have n5 : ¬ (IntKind.u64.wrap q.kind).tmod 12 = 5 := by first | assumption | (simp_all)
    have n6 : ¬ (IntKind.u64.wrap q.kind).tmod 12 = 6 := by first | assumption | (simp_all)
    have n7 : ¬ (IntKind.u64.wrap q.kind).tmod 12 = 7 := by first | assumption | (simp_all)
    have n8 : ¬ (IntKind.u64.wrap q.kind).tmod 12 = 8 := by first | assumption | (simp_all)
    have n9 : ¬ (IntKind.u64.wrap q.kind).tmod 12 = 9 := by first | assumption | (simp_all)
    have n10 : ¬ (IntKind.u64.wrap q.kind).tmod 12 = 10 := by first | assumption | (simp_all)
    have n11 : ¬ (IntKind.u64.wrap q.kind).tmod 12 = 11 := by first | assumption | (simp_all)
    have hsm0 : q.bs.length ≤ 300 := by rw [HQ.out]; simp [AO.few]; omega
    refine (append_any DW wq.1 hops A1 q.bs.length c1 q.bs rfl (by omega) (Rd.own RU.out.row)).mono ?_
    rintro e w3 ⟨rfl, haf⟩
    have HAF := Lib.hid haf
    have HC := Lib.hid (show M.runC q = M.appendC q.file q.bs.length by simp [AD.runC, AO.op, n3, n4, n5, n6, n7, n8, n9, n10, n11])
    have HM := Lib.hid (show M.runM q = M.appendM q.file q.bs by simp [AD.runM, AO.op, n3, n4, n5, n6, n7, n8, n9, n10, n11])
    have HBB := Lib.hid (show M.runB q = [] by simp [AD.runB, AO.op, n5])
    have hnS : ∀ k, w.heap.size ≤ k → ¬ S k := fun k hk e => by have := HDK.out.low e; omega
    have HNS := Lib.hid hnS
    generalize M.appendC q.file q.bs.length = cc at HC ⊢
    clear haf DW n3 n4 n5 n6 n7 n8 n9 n10 n11 hsm0 hnS
    have bx3 : w3.heap[w.heap.size]? = some (.cells #[.int .i64 q.kind, .int .i64 q.file, .int .i64 q.n, .slice A1 q.bs.length c1, .slice K1 q.keep.length kc1] 37 (0, 0)) := (HAF.out.2.block _ (lt_of_block RU.out.box) (HNS.out _ (Nat.le_refl _))).trans RU.out.box
    have rw3 : w3.ownsRow (w.heap.size + 1) 5 1 (.slice A1 q.bs.length c1) q.bs.length (q.bs.map (Value.int .u8)) := row_same RU.out.row (fun g hg => HAF.out.2.block g (by obtain ⟨cur, hc⟩ := own_block RU.out.row hg; exact lt_of_block hc) (HNS.out g (by have := (RU.out.row.lt g (by cases A1 <;> simp_all [Value.ownBlock, blk])).1; omega)))
    have hsm : q.bs.length ≤ 300 := by rw [HQ.out]; simp [AO.few]; omega
    obtain ⟨m1, hm1⟩ : ∃ m1, m1 = q.bs.length := ⟨_, rfl⟩
    rw [← hm1] at bx3 rw3 hsm ⊢
    have k3 : w3.cell? ⟨w.heap.size, 3, none⟩ = some (.slice A1 m1 c1) := by simp [World.cell?, bx3]
    have hc1 : m1 ≤ c1 := by
      obtain ⟨A', c', e, h1, _⟩ := own_form rw3
      injection e with _ _ e; omega
    have BX3 := Lib.hid bx3
    have RW3 := Lib.hid rw3
    clear bx3 rw3 hm1
    rcases hA1 : A1 with _ | ad
    · subst hA1
      have hz : m1 = 0 := by
        rcases RW3.out.2 with ⟨_, e⟩ | ⟨_, _, _, e, _⟩
        · exact e
        · cases e
      subst hz
      go_wp2
      go_loopw [78] (fun i wr => i = .int .i64 0 ∧ wr = w3) (fun _ _ => 0)
      case atStart => exact ⟨rfl, rfl⟩
      case round =>
        obtain ⟨rfl, rfl⟩ := hrel
        go_wp2
        go_ret2
        exact ran_after HBB.out HC.out HM.out RU.out.bel HAF.out
    · subst hA1
      obtain ⟨g, hg⟩ : ∃ g, ad = ⟨g, 0, none⟩ := by
        rcases RW3.out.2 with ⟨e, _⟩ | ⟨g, cap, cur, e, _⟩
        · cases e
        · injection e with e1 _ _
          injection e1 with e1
          exact ⟨g, e1⟩
      subst hg
      go_wp2
      go_loopw [78] (fun i wr => ∃ k : Nat, i = .int .i64 k ∧ k ≤ m1 ∧ Hid (Xored w w3 m1 c1 g q K1 kc1 wr)) (fun i _ => m1 - (match i with | .int _ k => k.toNat | _ => 0))
      case atStart => exact ⟨0, rfl, Nat.zero_le _, Lib.hid ⟨q.bs.map (Value.int .u8), fun v hv => (by obtain ⟨z, _, rfl⟩ := List.mem_map.1 hv; exact ⟨z, rfl⟩), RW3.out, BX3.out, Turn.refl _ _⟩⟩
      case round =>
        obtain ⟨k, rfl, hk, H⟩ := hrel
        by_cases hkn : k < m1
        · have hkk : (k : Int) < m1 := by omega
          have k0 : (0 : Int) ≤ (k : Int) := by omega
          obtain ⟨xs, hxs, hrow, hbx, htu⟩ := H.out
          have hl : xs.length = m1 := by have := hrow.1; omega
          obtain ⟨z, hz⟩ := hxs (xs[k]'(by omega)) (List.getElem_mem _)
          have kz : wr.cell? ⟨g, k, none⟩ = some (.int .u8 z) := by
            rw [hrow.cellAt k (by omega), List.getElem?_eq_getElem (by omega), hz]
          have fz := hrow.frozenAt k
          have kb : wr.cell? ⟨w.heap.size, 3, none⟩ = some (.slice (some ⟨g, 0, none⟩) m1 c1) := by simp [World.cell?, hbx]
          have hglt := (hrow.lt g rfl)
          have HROW := Lib.hid hrow
          have HBX := Lib.hid hbx
          have HTU := Lib.hid htu
          have HXS := Lib.hid hxs
          clear hrow hbx htu hxs hz
          go_wp2
          go_roundw
          case rel =>
            refine ⟨k + 1, by simp, by omega, Lib.hid ⟨xs.set k _, ?_, (HROW.out.stored k _).1, ?_, ?_⟩⟩
            · intro v hv
              rcases List.mem_or_eq_of_mem_set hv with h1 | h1
              · exact HXS.out v h1
              · exact ⟨_, h1⟩
            · rw [Below.heap_setCell _ _ _ _ (by show w.heap.size ≠ g; omega)]; exact HBX.out
            · exact HTU.out.trans (Turn.of_grown (S := fun j => j = g) ((Only.refl g wr).set (.inl rfl) _) (fun i hi => by cases hi; exact .inl rfl)) (fun i hi => .inl hi)
          case measure => simp; omega
        · obtain rfl : k = m1 := by omega
          obtain ⟨xs, hxs, hrow, hbx, htu⟩ := H.out
          have HTU := Lib.hid htu
          have HROW := Lib.hid hrow
          clear hxs hbx htu hrow
          go_wp2
          go_ret2
          have hgl := (RW3.out.lt g rfl)
          have hg2 : g < W2.heap.size := by
            obtain ⟨cur, hc⟩ := own_block RU.out.row (g := g) rfl
            exact lt_of_block hc
          refine ran_of HBB.out HC.out HM.out (HAF.out.1.other HTU.out ?_) (((Turn.of_below RU.out.bel).trans HAF.out.2 (fun _ h => .inl h)).trans HTU.out (fun i hi => ?_)) (fun k hk => hk.imp id (fun e => Nat.le_trans RU.out.bel.size e.1))
          · intro j hj e
            have e : j = g := e
            subst e
            rcases hj with hj | ⟨hj, _⟩
            · exact HNS.out j (by omega) hj
            · omega
          · have e : i = g := hi
            right; omega

end Go.Proofs.Ythpbgejjfdgpaaa
