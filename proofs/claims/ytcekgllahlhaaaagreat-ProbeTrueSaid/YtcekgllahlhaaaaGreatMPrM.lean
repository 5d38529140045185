/-
  TopCount, TopLeft, TopFit, PrbMap.
-/
import Derived.Test.YtcekgllahlhaaaaGreatMTop
import Derived.Test.YtcekgllahlhaaaaGreatMFrm
import Derived.Maps.RangeWalk
import Derived.Maps.OwnSet
import Derived.Maps.Ext
import Derived.WideKeyEntry
import Derived.DeepKeys5
import Derived.Test.YtcekgllahlhaaaaGreatMPrB
namespace Go.Proofs.YtcekgllahlhaaaaGreat
namespace TopL
open Go.RowKit Go.Shelf Go.Maps
open Go.WideElems (Fit rd rg pl rd_val rd_key rg_of)
open Go.WideMaps (KeyLaw)
set_option linter.unusedVariables false
set_option linter.unusedSimpArgs false
set_option maxRecDepth 100000

abbrev hK (x : HitM) : Value := .agg #[.int .u64 x.1, .int .u64 x.2]
def wfH (x : HitM) : Prop := (Lit.int .u64 x.1).wf = true ∧ (Lit.int .u64 x.2).wf = true
theorem wideHit : (match Tryz.prog.underlying 63 with | some (.array _ _) | some (.struct _) => true | _ => false) = true := by kernel_rfl
theorem lawHit : KeyLaw Tryz.prog 63 := deep_law_laid Tryz.laidOut (m := 2) (by omega) (of_decide_eq_true (by kernel_rfl)) (by kernel_rfl) wideHit
theorem keyedHit : Keyed Tryz.prog 63 := Keyed.of_law lawHit
theorem sizes : ∃ m, Tryz.prog.types.size = m + 1 := ⟨Tryz.prog.types.size - 1, by kernel_rfl⟩
theorem lits_u64 (d : Nat) (v : Value) : Tryz.prog.keyLits (d + 1) 45 [v] = match v with | .int .u64 n => (if (Lit.int .u64 n).wf = true then some [.int .u64 n] else none) | _ => none := by
  unfold Program.keyLits
  rw [Tryz.underlying45]
  cases v with
  | int q n => cases q <;> simp
  | _ => rfl
theorem lits_hit (d : Nat) (a b : Value) : Tryz.prog.keyLits (d + 1 + 1) 63 [a, b] = (Tryz.prog.keyLits (d + 1) 45 [a]).bind fun x => (Tryz.prog.keyLits (d + 1) 45 [b]).map fun y => x ++ y := by
  have hc : Tryz.prog.cellsOf 45 = 1 := by kernel_rfl
  have hc2 : Tryz.prog.cellsOf 63 = 2 := by kernel_rfl
  conv => lhs; unfold Program.keyLits
  rw [Tryz.underlying63]
  generalize hk : Tryz.prog.keyLits (d + 1) = K
  simp [hc, hc2]
  cases K 45 [a] <;> simp
  cases K 45 [b] <;> simp
theorem key_hit {x : HitM} (h : wfH x) : ∃ kl, keyOf Tryz.prog 63 (hK x) = some kl := by
  have hc2 : Tryz.prog.cellsOf 63 = 2 := by kernel_rfl
  have hkt : Tryz.prog.keyType 63 = true := by kernel_rfl
  obtain ⟨m, hm⟩ := sizes
  unfold keyOf
  rw [Tryz.underlying63, hm]
  have hf : (hK x).formed Tryz.prog 63 = true := by show (match (Value.agg #[.int .u64 x.1, .int .u64 x.2]).formed Tryz.prog 63 with | b => b) = true; simp [Value.formed, Tryz.underlying63, hc2]
  have hl : Tryz.prog.keyLits (m + 1 + 1) 63 (hK x).cells.toList = some [.int .u64 x.1, .int .u64 x.2] := by
    show Tryz.prog.keyLits (m + 1 + 1) 63 [.int .u64 x.1, .int .u64 x.2] = _
    rw [lits_hit, lits_u64, lits_u64]
    simp [h.1, h.2]
  simp [hkt, hf, hl]
theorem lits_inv {d : Nat} {v : Value} {ls : List Lit} (h : Tryz.prog.keyLits (d + 1) 45 [v] = some ls) : ∃ n, v = .int .u64 n ∧ (Lit.int .u64 n).wf = true := by
  rw [lits_u64] at h
  split at h
  · rename_i n
    split at h
    · rename_i hw; exact ⟨n, rfl, hw⟩
    · cases h
  · cases h
theorem key_inv {v : Value} {kl : Lit} (h : keyOf Tryz.prog 63 v = some kl) : ∃ x, v = hK x ∧ wfH x := by
  have hc2 : Tryz.prog.cellsOf 63 = 2 := by kernel_rfl
  obtain ⟨m, hm⟩ := sizes
  obtain ⟨xs, L, rfl, hl, _⟩ := keyOf_top wideHit h
  have hs : xs.size = 2 := by
    unfold keyOf at h
    rw [Tryz.underlying63] at h
    dsimp only at h
    split at h
    · rename_i hf
      simp [Value.formed, Tryz.underlying63, hc2] at hf
      exact hf.2
    · cases h
  obtain ⟨a, b, rfl⟩ : ∃ a b, xs = #[a, b] := by
    rcases xs with ⟨_ | ⟨a, _ | ⟨b, _ | ⟨c, l⟩⟩⟩⟩ <;> simp at hs
    exact ⟨a, b, rfl⟩
  rw [hm] at hl
  have hl2 : Tryz.prog.keyLits (m + 1 + 1) 63 [a, b] = some L := hl
  rw [lits_hit, Option.bind_eq_some_iff] at hl2
  obtain ⟨la, h1, h2⟩ := hl2
  rw [Option.map_eq_some_iff] at h2
  obtain ⟨lb, h2, _⟩ := h2
  obtain ⟨n, rfl, w1⟩ := lits_inv h1
  obtain ⟨n', rfl, w2⟩ := lits_inv h2
  exact ⟨(n, n'), rfl, w1, w2⟩

/-! ### the counts -/
noncomputable abbrev Ri (v : Value) : Option (DataW Value × List MemPlace) := plainElem Tryz.prog 3 v
abbrev zl : DataW Value := .lit (.int .i64 0)
def TellsH (D : DataW Value) (f : HitM → Int) : Prop := ∀ x kl, keyOf Tryz.prog 63 (hK x) = some kl → D.atKey kl zl = .lit (.int .i64 (f x))
def MapH (w : World) (b n : Nat) (f : HitM → Int) : Prop := ∃ D : DataW Value, w.ownsMap Tryz.prog 63 Ri b n D ∧ TellsH D f
def updH (f : HitM → Int) (x : HitM) (c : Int) : HitM → Int := fun y => if y = x then c else f y
theorem zeroInt (w : World) : (zeroValue 3).run Tryz.prog w = .ok (.int .i64 0) w := by kernel_rfl
theorem hv_inj {x y : HitM} (h : hK x = hK y) : x = y := by
  simp [hK] at h
  exact Prod.ext h.1 h.2

section
variable {w w' : World} {b n : Nat} {f : HitM → Int}
theorem MapH.lt (h : MapH w b n f) : b < w.heap.size := by obtain ⟨D, h, _⟩ := h; exact h.lt
theorem MapH.same (h : MapH w b n f) (hb : w'.heap[b]? = w.heap[b]?) : MapH w' b n f := by
  obtain ⟨D, ⟨es, clock, h1, h2⟩, ht⟩ := h
  exact ⟨D, ⟨es, clock, hb.trans h1, h2⟩, ht⟩
theorem MapH.mono (h : MapH w b n f) {m : Nat} (hm : n ≤ m) : MapH w b m f := by
  obtain ⟨D, h, ht⟩ := h
  exact ⟨D, h.mono hm, ht⟩
theorem MapH.made (w : World) : MapH (w.alloc (.map #[] 0)) w.heap.size 0 (fun _ => 0) := ⟨_, World.ownsMap_made w _ _ _, fun x kl _ => rfl⟩
theorem MapH.look (h : MapH w b n f) {x : HitM} (hx : wfH x) : (Instr.lookup 67 (.map (some b)) (hK x) false).run Tryz.prog w = .ok (.int .i64 (f x)) w := by
  obtain ⟨D, h, ht⟩ := h
  obtain ⟨kl, hk⟩ := key_hit hx
  obtain ⟨c, hrun, hat, _⟩ := h.lookup_int keyedHit Tryz.underlying67 Tryz.underlying3 (zeroInt w) hk
  have := ht x kl hk
  rw [hat] at this
  injection this with this
  injection this with _ this
  rw [hrun, this]
theorem tells_put {D : DataW Value} (hD : IsMap D) (ht : TellsH D f) {x : HitM} {kl : Lit} (hk : keyOf Tryz.prog 63 (hK x) = some kl) (c : Int) : TellsH (D.put kl (.lit (.int .i64 c))) (updH f x c) := by
  intro y ly hy
  by_cases e : y = x
  · subst e
    rw [hk] at hy
    injection hy with hy
    subst hy
    rw [atKey_put_same hD (keyedHit.key hk), updH, if_pos rfl]
  · have hne : ly ≠ kl := fun e2 => e (hv_inj (keyedHit.inj hy (by rw [e2]; exact hk)))
    rw [atKey_put_other hne, updH, if_neg e]
    exact ht y ly hy
theorem upd_self (f : HitM → Int) (x : HitM) : updH f x (f x) = f := by
  funext y
  unfold updH
  split
  · rename_i e; rw [e]
  · rfl

/-- An entry, and what is stored at it, later. -/
theorem MapH.entry (h : MapH w b n f) (hn : n < 1000000) {x : HitM} (hx : wfH x) :
    ∃ (st : Nat) (w1 : World), (Instr.mapEntry 67 (.map (some b)) (hK x)).run Tryz.prog w = .ok (.tuple #[.int .i64 (f x), .int .i64 (st : Int)]) w1 ∧ MapH w1 b (n + 1) f ∧ w.grownBy w1 (some b) ∧
      ∀ c : Int, (Lit.int .i64 c).wf = true → ∃ w2, (Instr.entryStore 67 (.map (some b)) (.int .i64 (st : Int)) (.int .i64 c)).run Tryz.prog w1 = .ok () w2 ∧ MapH w2 b (n + 1) (updH f x c) ∧ w.grownBy w2 (some b) := by
  have hlook := h.look hx
  obtain ⟨D, hown, ht⟩ := h
  have hown0 := hown
  have hmap : IsMap D := by obtain ⟨es, e, _⟩ := hown.entries keyedHit; exact ⟨es, e⟩
  obtain ⟨kl, hk⟩ := key_hit hx
  obtain ⟨es, clock, hb, F, hsz, hD⟩ := hown
  have hg : ∀ o : Obj, w.grownBy (Go.ChangeMaps.setBlock w b o) (some b) := fun o => ⟨rfl, rfl, rfl, by simp [Go.ChangeMaps.setBlock], fun i _ hi => Go.ChangeMaps.heap_setBlock_other hb _ (fun e => hi (by rw [e]))⟩
  have hup : ∀ c : Int, (Lit.int .i64 c).wf = true → ∃ w', (Instr.mapUpdate 67 (.map (some b)) (hK x) (.int .i64 c)).run Tryz.prog w = .ok () w' ∧ MapH w' b (n + 1) (updH f x c) := fun c hc => by
    obtain ⟨w', hrun, h', _⟩ := hown0.update keyedHit Tryz.underlying67 (by unfold maxLen; omega) hk (plainElem_int Tryz.underlying3 hc)
    exact ⟨w', hrun, _, h', tells_put hmap ht hk c⟩
  obtain ⟨v0, st, es1, clock1, hE, _, hS⟩ := Go.WideElems.entry_then_store (w := w) lawHit Tryz.underlying67 zeroInt hb F hk
  have hcore : v0 = .int .i64 (f x) ∧ MapH (Go.ChangeMaps.setBlock w b (.map es1 clock1)) b (n + 1) f := by
    have hE0 := hE
    rcases lawHit.find w hk es.toList F.keys with ⟨h1, h2⟩ | ⟨j, e0, h1, h2, h3⟩
    · have hl : (Instr.lookup 67 (.map (some b)) (hK x) false).run Tryz.prog w = .ok (.int .i64 0) w := by
        simp [Instr.lookup, run_underlying Tryz.underlying67, MapKept.run_getObj_map hb, lawHit.check w _ hk, h1, zeroInt, Result.andThen]
      rw [hlook] at hl
      injection hl with hl
      injection hl with _ hl
      simp [Instr.mapEntry, run_underlying Tryz.underlying67, MapKept.run_getObj_map hb, lawHit.check w false hk, h1, zeroInt, MapKept.run_setObj_map _ hb, Result.andThen] at hE
      obtain ⟨w', hu, hm⟩ := hup 0 (by decide)
      simp [Instr.mapUpdate, run_underlying Tryz.underlying67, MapKept.run_getObj_map hb, lawHit.check w false hk, h1, MapKept.run_setObj_map _ hb, Result.andThen] at hu
      refine ⟨by rw [hl]; exact hE.1.1.symm, ?_⟩
      have hw : Go.ChangeMaps.setBlock w b (.map es1 clock1) = w' := hE.2.symm.trans hu
      rw [hw]
      have := upd_self f x
      rw [hl] at this
      rw [this] at hm
      exact hm
    · have hj : es[j]? = some e0 := by simpa using h2
      have hl : (Instr.lookup 67 (.map (some b)) (hK x) false).run Tryz.prog w = .ok e0.val w := by
        simp [Instr.lookup, run_underlying Tryz.underlying67, MapKept.run_getObj_map hb, lawHit.check w _ hk, h1, zeroInt, Result.andThen]
      rw [hlook] at hl
      injection hl with hl
      simp [Instr.mapEntry, run_underlying Tryz.underlying67, MapKept.run_getObj_map hb, lawHit.check w false hk, h1, hj, h3, lawHit.stays w hk, zeroInt, MapKept.run_setObj_map _ hb, Result.andThen] at hE
      have hsame : es.modify j (fun e => { e with key := hK x }) = es := by
        refine Array.ext (by simp) (fun i h1 h2 => ?_)
        rw [Array.getElem_modify]
        split
        · rename_i e
          subst e
          have : es[j] = e0 := by simpa [Array.getElem?_eq_getElem h2] using hj
          rw [this, ← h3]
        · rfl
      refine ⟨by rw [hl]; exact hE.1.1.symm, ?_⟩
      have hw := hE.2
      rw [hsame] at hw
      have hh : (Go.ChangeMaps.setBlock w b (.map es1 clock1)).heap[b]? = w.heap[b]? := by
        rw [← hw, hb]
        exact Go.ChangeMaps.heap_setBlock_same hb _
      exact (show MapH w b (n + 1) f from ⟨D, hown0.mono (by omega), ht⟩).same hh
  obtain ⟨rfl, hm1⟩ := hcore
  refine ⟨st, _, hE, hm1, hg _, fun c hc => ?_⟩
  obtain ⟨es2, clock2, hs, hu2⟩ := hS (Go.ChangeMaps.setBlock w b (.map es1 clock1)) (.int .i64 c) (Go.ChangeMaps.heap_setBlock_same hb _)
  obtain ⟨w', hu, hm⟩ := hup c hc
  rw [hu2] at hu
  injection hu with _ hu
  have hb1 := Go.ChangeMaps.heap_setBlock_same hb (.map es1 clock1)
  refine ⟨_, hs, (show MapH (Go.ChangeMaps.setBlock w b (.map es2 clock2)) b (n + 1) (updH f x c) by rw [hu]; exact hm).same ?_, ⟨rfl, rfl, rfl, by simp [Go.ChangeMaps.setBlock], fun i _ hi => ?_⟩⟩
  · rw [Go.ChangeMaps.heap_setBlock_same hb1, Go.ChangeMaps.heap_setBlock_same hb]
  · have hne : i ≠ b := fun e => hi (by rw [e])
    rw [Go.ChangeMaps.heap_setBlock_other hb1 _ hne, Go.ChangeMaps.heap_setBlock_other hb _ hne]
end
end TopL
end Go.Proofs.YtcekgllahlhaaaaGreat

namespace Go.Proofs.YtcekgllahlhaaaaGreat
namespace TopL
open Go.RowKit Go.Shelf Go.Maps
set_option linter.unusedVariables false
set_option linter.unusedSimpArgs false

theorem first_count (k : Nat) (X : List HitM) (x : HitM) : (firstM k X).count x ≤ X.count x := by
  rw [← (sort_perm X).count_eq x]
  exact (List.take_sublist k _).count_le x
theorem left_behind (k : Nat) (X : List HitM) (x : HitM) (j : Nat) (h : (firstM k X).count x < X.count x) (hj : j < (firstM k X).length) : ahead x ((firstM k X).getD j z2) = false := by
  have hs := sort_srt X
  have he : sortM X = (sortM X).take k ++ (sortM X).drop k := (List.take_append_drop k _).symm
  have hc : X.count x = (firstM k X).count x + ((sortM X).drop k).count x := by
    rw [← (sort_perm X).count_eq x]
    conv => lhs; rw [he]
    rw [List.count_append]
    rfl
  have hm : x ∈ (sortM X).drop k := List.count_pos_iff.1 (by omega)
  rw [he] at hs
  unfold Srt at hs
  rw [List.pairwise_append] at hs
  exact hs.2.2 _ (getD_mem2 hj) x hm
def upF (X : List HitM) (j : Nat) : HitM → Int := fun h => ((X.take j).count h : Nat)
def downF (X Y : List HitM) (j : Nat) : HitM → Int := fun h => (X.count h : Nat) - ((Y.take j).count h : Nat)
theorem take_snoc2 {X : List HitM} {j : Nat} (hj : j < X.length) : X.take (j + 1) = X.take j ++ [X.getD j z2] := by
  rw [List.take_add_one, List.getElem?_eq_getElem hj]
  simp [List.getD, hj]
theorem count_snoc {X : List HitM} {j : Nat} (hj : j < X.length) (h : HitM) : (X.take (j + 1)).count h = (X.take j).count h + (if h = X.getD j z2 then 1 else 0) := by
  rw [take_snoc2 hj, List.count_append, List.count_singleton]
  by_cases e : h = X.getD j z2
  · rw [if_pos e, e]; simp
  · rw [if_neg e]
    rw [if_neg (by rw [beq_iff_eq]; exact fun e2 => e e2.symm)]
theorem up_zero (X : List HitM) : upF X 0 = fun _ => 0 := by funext h; simp [upF]
theorem up_step {X : List HitM} {j : Nat} (hj : j < X.length) : updH (upF X j) (X.getD j z2) (upF X j (X.getD j z2) + 1) = upF X (j + 1) := by
  funext h
  unfold updH upF
  rw [count_snoc hj]
  by_cases e : h = X.getD j z2
  · rw [if_pos e, if_pos e, e]; omega
  · rw [if_neg e, if_neg e]; omega
theorem down_zero (X Y : List HitM) : downF X Y 0 = upF X X.length := by funext h; simp [downF, upF]
theorem down_step {X Y : List HitM} {j : Nat} (hj : j < Y.length) : updH (downF X Y j) (Y.getD j z2) (downF X Y j (Y.getD j z2) - 1) = downF X Y (j + 1) := by
  funext h
  unfold updH downF
  rw [count_snoc hj]
  by_cases e : h = Y.getD j z2
  · rw [if_pos e, if_pos e, e]; omega
  · rw [if_neg e, if_neg e]; omega
theorem take_count {X : List HitM} (j : Nat) (h : HitM) : (X.take j).count h ≤ X.count h := (List.take_sublist j X).count_le h
theorem up_in (X : List HitM) (j : Nat) (h : HitM) : 0 ≤ upF X j h ∧ upF X j h ≤ X.length := by
  unfold upF
  have := List.count_le_length (a := h) (l := X.take j)
  have : (X.take j).length ≤ X.length := by simp; omega
  omega
theorem down_in (k : Nat) (X : List HitM) (j : Nat) (h : HitM) : 0 ≤ downF X (firstM k X) j h ∧ downF X (firstM k X) j h ≤ X.length := by
  unfold downF
  have h1 := first_count k X h
  have h2 := take_count (X := firstM k X) j h
  have := List.count_le_length (a := h) (l := X)
  omega
/-- Who is left stands ahead of nobody who is in. -/
theorem down_left {k : Nat} {X : List HitM} {x : HitM} {j : Nat} (h : 0 < downF X (firstM k X) (firstM k X).length x) (hj : j < (firstM k X).length) : ahead x ((firstM k X).getD j z2) = false := by
  refine left_behind k X x j ?_ hj
  unfold downF at h
  rw [List.take_length] at h
  omega
theorem first_fit {k : Nat} {X : List HitM} (h : ∀ x ∈ X, wfH x) : ∀ x ∈ firstM k X, wfH x := fun x hx => h x (first_mem hx)
theorem fit_at {X : List HitM} {j : Nat} (h : ∀ x ∈ X, wfH x) (hj : j < X.length) : wfH (X.getD j z2) := h _ (getD_mem2 hj)
theorem told {D : DataW Value} {f : HitM → Int} (h : TellsH D f) {x : HitM} {c : Int} {kl : Lit} {y : DataW Value × List MemPlace} (hk : keyOf Tryz.prog 63 (hK x) = some kl) (hy : Ri (.int .i64 c) = some y) (ha : ∀ zd, D.atKey kl zd = y.1) : c = f x ∧ wfH x := by
  have h1 := h x kl hk
  rw [ha] at h1
  obtain ⟨c', ec, e2, _⟩ := plainElem_int_inv Tryz.underlying3 hy
  rw [e2] at h1
  injection ec with _ ec
  injection h1 with h1
  injection h1 with _ h1
  refine ⟨by rw [ec]; exact h1, ?_⟩
  obtain ⟨x', e, hw⟩ := key_inv hk
  rw [hv_inj e]
  exact hw
end TopL
end Go.Proofs.YtcekgllahlhaaaaGreat

namespace Go.Proofs.YtcekgllahlhaaaaGreat
namespace TopL
open Go.ChangeShapes Go.WideShapes Go.ChangeAt Go.RowKit Go.Maps Go.Deep
set_option linter.unusedVariables false
set_option linter.unusedSimpArgs false
set_option maxRecDepth 100000

theorem below_grown {W W' : World} {M : Nat} (h : W.grownBy W' (some M)) (hM : M ≤ W.heap.size) : Below M W W' := ⟨h.os, h.tape, h.output, h.size, fun i hi => h.block i (by omega) (by simp; omega)⟩
theorem grownN_below {W W' : World} (h : Below W.heap.size W W') : W.grownBy W' none := ⟨h.os, h.tape, h.output, h.size, fun i hi _ => h.block i hi⟩
theorem MapH.bump {w : World} {b n : Nat} {f : HitM → Int} (h : MapH w b n f) (hn : n < 1000000) {x : HitM} (hx : wfH x) (c : Int) (hc : (Lit.int .i64 c).wf = true) :
    ∃ (st : Nat) (w1 w2 : World), (Instr.lookup 67 (.map (some b)) (.agg #[.int .u64 x.1, .int .u64 x.2]) false).run Tryz.prog w = .ok (.int .i64 (f x)) w ∧
      (Instr.mapEntry 67 (.map (some b)) (.agg #[.int .u64 x.1, .int .u64 x.2])).run Tryz.prog w = .ok (.tuple #[.int .i64 (f x), .int .i64 (st : Int)]) w1 ∧
      (Instr.lookup 67 (.map (some b)) (.agg #[.int .u64 x.1, .int .u64 x.2]) false).run Tryz.prog w1 = .ok (.int .i64 (f x)) w1 ∧
      (Instr.entryStore 67 (.map (some b)) (.int .i64 (st : Int)) (.int .i64 c)).run Tryz.prog w1 = .ok () w2 ∧
      (Instr.lookup 67 (.map (some b)) (.agg #[.int .u64 x.1, .int .u64 x.2]) false).run Tryz.prog w2 = .ok (.int .i64 c) w2 ∧
      MapH w2 b (n + 1) (updH f x c) ∧ w.grownBy w2 (some b) := by
  obtain ⟨st, w1, h1, h2, h3, h4⟩ := h.entry hn hx
  obtain ⟨w2, h5, h6, h7⟩ := h4 c hc
  refine ⟨st, w1, w2, h.look hx, h1, h2.look hx, h5, ?_, h6, h7⟩
  have := h6.look hx
  rw [show updH f x c x = c from if_pos rfl] at this
  exact this

theorem hits_fit_core {H : Type} {enc : TypeId × Value → H} {W : World} {fuel : Nat} {cs : List Value} {x : DataW H × List MemPlace} (h : DataW.trod enc Tryz.prog W 0 (fun _ => true) true fuel 49 cs = some x) :
    ∃ A c l, cs = [.slice A (List.length l) c] ∧ Hits W A c l ∧ ∀ x ∈ l, wfH x := by
  rcases open_slice_pairs (f0 := (match Tryz.prog.underlying 63 with | some (.struct fs) => fs.getD 0 default | _ => default)) (f1 := (match Tryz.prog.underlying 63 with | some (.struct fs) => fs.getD 1 default | _ => default)) Tryz.underlying49 (by kernel_rfl) (by kernel_rfl) (by kernel_rfl) (by kernel_rfl) (by kernel_rfl) (by kernel_rfl) h with ⟨hcs, _⟩ | ⟨a, len, cap, m, n, V0, V1, D0, D1, P0, P1, hcs, _, hl, hm, hmm, _, hcell⟩
  · exact ⟨none, 0, [], hcs, Hits.nil _, fun x hx => by cases hx⟩
  · simp only [if_true] at hmm
    subst hmm
    have each : ∀ j, j < len → ∃ y0 y1, V0 j = .int .u64 y0 ∧ V1 j = .int .u64 y1 ∧ wfH (y0, y1) := fun j hj => by
      obtain ⟨h1, h2, h3, h4⟩ := hcell j (by omega)
      obtain ⟨y0, e0, _, wf0⟩ := DataW.trod_int (k := .u64) (by kernel_rfl) h3
      obtain ⟨y1, e1, _, wf1⟩ := DataW.trod_int (k := .u64) (by kernel_rfl) h4
      exact ⟨y0, y1, by simpa using e0, by simpa using e1, wf0, wf1⟩
    refine ⟨some a, m, (List.range len).map fun i => (intOf (V0 i), intOf (V1 i)), by simpa using hcs, ⟨by simpa using hl, by unfold maxLen at hm; omega, fun hp => ?_⟩, fun x hx => ?_⟩
    · have hlen : 0 < len := by simpa using hp
      obtain ⟨b, off, spot⟩ := a
      have hc0 := (hcell 0 (by omega)).1
      have hspot : spot = none := by simpa [Addr.add] using World.cell?_spot hc0
      subst hspot
      have hbl : b < W.heap.size := by
        have hc' : W.cell? ⟨b, off, none⟩ = some (V0 0) := by simpa [Addr.add] using hc0
        exact World.block_lt_of_cell? W _ hc'
      refine ⟨b, off, rfl, hbl, fun j hj => ?_⟩
      have hj' : j < len := by simpa using hj
      obtain ⟨h1, h2, _, _⟩ := hcell j (by omega)
      obtain ⟨y0, y1, e0', e1', _⟩ := each j hj'
      rw [Addr.add_lit] at h1 h2
      have hg : ((List.range len).map fun i => (intOf (V0 i), intOf (V1 i))).getD j z2 = (y0, y1) := by
        simp [List.getD, hj', e0', e1', intOf]
      rw [hg]
      exact ⟨by rw [h1, e0'], h2.trans (by rw [e1'])⟩
    · obtain ⟨i, hi, rfl⟩ := List.mem_map.1 hx
      obtain ⟨y0, y1, e0, e1, hw⟩ := each i (List.mem_range.1 hi)
      rw [e0, e1]
      exact hw
theorem open_hits_fit {H : Type} {enc : TypeId × Value → H} {W : World} {a : Option Addr} {len cap : Nat} {d : DataW H} {p : List MemPlace}
    (h : DataW.Trod enc Tryz.prog W 0 (fun _ => true) true 49 (.slice a len cap) d p) : ∃ l : List HitM, l.length = len ∧ Hits W a cap l ∧ ∀ x ∈ l, wfH x := by
  obtain ⟨fuel, hf⟩ := h
  obtain ⟨A, c, l, hcs, hh, hw⟩ := hits_fit_core hf
  simp [Value.cells] at hcs
  obtain ⟨rfl, e, rfl⟩ := hcs
  exact ⟨l, e.symm, hh, hw⟩
end TopL
end Go.Proofs.YtcekgllahlhaaaaGreat

namespace Go.Proofs.YtcekgllahlhaaaaGreat
open Go.RowKit Go.Shelf Go.Maps
open TopL (HitM hK z2 wfH MapH updH upF downF)
set_option linter.unusedVariables false
set_option linter.unusedSimpArgs false
set_option maxRecDepth 100000

/-- The map's keys that are true are these. -/
def TellsB (D : DataW Value) (ks : List Int) : Prop := ∀ k, I64 k → D.atKey (kl k) (.lit (.bool false)) = .lit (.bool (decide (k ∈ ks)))
def MapB (w : World) (b n : Nat) (ks : List Int) : Prop := ∃ D : DataW Value, w.ownsMap Tryz.prog 3 (plainElem Tryz.prog 4) b n D ∧ TellsB D ks
theorem MapB.lt {w : World} {b n : Nat} {ks : List Int} (h : MapB w b n ks) : b < w.heap.size := by obtain ⟨D, h, _⟩ := h; exact h.lt
theorem MapB.same {w w' : World} {b n : Nat} {ks : List Int} (h : MapB w b n ks) (hb : w'.heap[b]? = w.heap[b]?) : MapB w' b n ks := by
  obtain ⟨D, ⟨es, clock, h1, h2⟩, ht⟩ := h
  exact ⟨D, ⟨es, clock, hb.trans h1, h2⟩, ht⟩
theorem MapB.made (w : World) : MapB (w.alloc (.map #[] 0)) w.heap.size 0 [] := ⟨_, World.ownsMap_made w _ _ _, fun k _ => rfl⟩
theorem zeroBool (w : World) : (zeroValue 4).run Tryz.prog w = .ok (.bool false) w := by kernel_rfl
theorem MapB.look {w : World} {b n : Nat} {ks : List Int} {s : Int} (h : MapB w b n ks) (hs : I64 s) : (Instr.lookup 64 (.map (some b)) (.int .i64 s) false).run Tryz.prog w = .ok (.bool (decide (s ∈ ks))) w := by
  obtain ⟨D, ho, ht⟩ := h
  obtain ⟨v, ps, hrun, hv⟩ := ho.lookup keyed Tryz.underlying64 (zeroBool w) (plainElem_bool Tryz.underlying4 false) (keyAt hs)
  rw [ht s hs] at hv
  have : v = .bool (decide (s ∈ ks)) := by
    cases v <;> simp [plainElem, Tryz.underlying4] at hv
    obtain ⟨hv, _⟩ := hv
    rw [hv]
  rw [this] at hrun
  exact hrun
theorem tellsB_put {D : DataW Value} {ks : List Int} (hm : IsMap D) (h : TellsB D ks) {k : Int} (hk : I64 k) : TellsB (D.put (kl k) (.lit (.bool true))) (ks ++ [k]) := by
  intro j hj
  by_cases e : j = k
  · subst e; rw [atKey_put_same hm (k := kl j) trivial]; simp
  · rw [atKey_put_other (by simpa using e), h j hj]; simp [e]
theorem MapB.store {w : World} {b n : Nat} {ks : List Int} {s : Int} (h : MapB w b n ks) (hn : n < 1000) (hs : I64 s) : ∃ w', (Instr.mapUpdate 64 (.map (some b)) (.int .i64 s) (.bool true)).run Tryz.prog w = .ok () w' ∧ MapB w' b (n + 1) (ks ++ [s]) ∧ w.mapTurned w' b := by
  obtain ⟨D, ho, ht⟩ := h
  obtain ⟨w', hrun, h1, h2⟩ := ho.store keyed Tryz.underlying64 (by unfold maxLen; omega) (keyAt hs) (plainElem_bool Tryz.underlying4 true)
  exact ⟨w', hrun, ⟨_, h1, tellsB_put ho.isMap ht hs⟩, h2⟩

/-- How often each hit is among these. -/
def cntF (X : List HitM) : HitM → Int := fun h => (X.count h : Nat)
theorem cnt_nil : cntF [] = fun _ => 0 := by funext h; simp [cntF]
theorem cnt_snoc (X : List HitM) (x : HitM) : updH (cntF X) x (cntF X x + 1) = cntF (X ++ [x]) := by
  funext h
  unfold updH cntF
  rw [List.count_append]
  by_cases e : h = x
  · subst e; rw [if_pos rfl]; simp
  · rw [if_neg e]; simp [List.count_singleton, Ne.symm e]
theorem cnt_zero (X Y : List HitM) : downF X Y 0 = cntF X := by funext h; simp [downF, cntF]
theorem cnt_in (X : List HitM) (h : HitM) : 0 ≤ cntF X h ∧ cntF X h ≤ X.length := by
  have := List.count_le_length (a := h) (l := X)
  unfold cntF
  omega

/-- The hits of the first j rows of those that belong. -/
def belH (C : List (List Int)) (S : List Nat) (l : List Rv) (v : List Int) (j : Nat) : List HitM := hitL (belL C S (l.take j)) v
theorem belH_zero (C : List (List Int)) (S : List Nat) (l : List Rv) (v : List Int) : belH C S l v 0 = [] := by unfold belH; rw [List.take_zero]; rfl
theorem belH_all (C : List (List Int)) (S : List Nat) (l : List Rv) (v : List Int) : belH C S l v l.length = hitL (belL C S l) v := by unfold belH; rw [List.take_length]
theorem belH_len (C : List (List Int)) (S : List Nat) (l : List Rv) (v : List Int) (j : Nat) : (belH C S l v j).length ≤ l.length := by
  unfold belH belL
  rw [hit_length]
  exact Nat.le_trans (List.length_filter_le _ _) (by rw [List.length_take]; omega)
theorem belH_step {C : List (List Int)} {S : List Nat} {l : List Rv} {v : List Int} {j : Nat} {p : Rv} (h : l[j]? = some p) :
    belH C S l v (j + 1) = if inQ C S p.2 = true then belH C S l v j ++ [(p.1, distD p.2 v)] else belH C S l v j := by
  obtain ⟨hj, hp⟩ := List.getElem?_eq_some_iff.1 h
  unfold belH belL
  rw [List.take_add_one, h, List.filter_append]
  split
  · rename_i e; simp [e, hitL, hitM]
  · rename_i e; simp [e, hitL]
theorem take_snocN {l : List Nat} {j y : Nat} (h : l[j]? = some y) : l.take (j + 1) = l.take j ++ [y] := by rw [List.take_add_one, h]; rfl
theorem MapB.below_ {w w' : World} {b n : Nat} {ks : List Int} (h : MapB w b n ks) (hb : Below w.heap.size w w') : MapB w' b n ks := h.same (hb.block _ h.lt)
end Go.Proofs.YtcekgllahlhaaaaGreat
