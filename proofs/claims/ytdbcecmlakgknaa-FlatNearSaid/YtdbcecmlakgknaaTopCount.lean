/-
  A map that counts hits: what a look-up, an entry and a store do, whichever comes first.
-/
import Derived.Test.YtdbcecmlakgknaaMTop
import Derived.Test.YtdbcecmlakgknaaMArf
import Derived.Maps.RangeWalk
import Derived.Maps.OwnSet
import Derived.Maps.Ext
import Derived.WideKeyEntry
import Derived.DeepKeys5
namespace Go.Proofs.Ytdbcecmlakgknaa
namespace TopL
open Go.RowKit Go.Shelf Go.Maps
open Go.WideElems (Fit rd rg pl rd_val rd_key rg_of)
open Go.WideMaps (KeyLaw)
set_option linter.unusedVariables false
set_option linter.unusedSimpArgs false
set_option maxRecDepth 100000

abbrev hK (x : HitM) : Value := .agg #[.int .u64 x.1, .int .u64 x.2]
def wfH (x : HitM) : Prop := (Lit.int .u64 x.1).wf = true ∧ (Lit.int .u64 x.2).wf = true
theorem wideHit : (match Try.prog.underlying 76 with | some (.array _ _) | some (.struct _) => true | _ => false) = true := by kernel_rfl
theorem lawHit : KeyLaw Try.prog 76 := deep_law_laid Try.laidOut (m := 2) (by omega) (of_decide_eq_true (by kernel_rfl)) (by kernel_rfl) wideHit
theorem keyedHit : Keyed Try.prog 76 := Keyed.of_law lawHit
theorem sizes : ∃ m, Try.prog.types.size = m + 1 := ⟨Try.prog.types.size - 1, by kernel_rfl⟩
theorem lits_u64 (d : Nat) (v : Value) : Try.prog.keyLits (d + 1) 25 [v] = match v with | .int .u64 n => (if (Lit.int .u64 n).wf = true then some [.int .u64 n] else none) | _ => none := by
  unfold Program.keyLits
  rw [Try.underlying25]
  cases v with
  | int q n => cases q <;> simp
  | _ => rfl
theorem lits_hit (d : Nat) (a b : Value) : Try.prog.keyLits (d + 1 + 1) 76 [a, b] = (Try.prog.keyLits (d + 1) 25 [a]).bind fun x => (Try.prog.keyLits (d + 1) 25 [b]).map fun y => x ++ y := by
  have hc : Try.prog.cellsOf 25 = 1 := by kernel_rfl
  have hc2 : Try.prog.cellsOf 76 = 2 := by kernel_rfl
  conv => lhs; unfold Program.keyLits
  rw [Try.underlying76]
  generalize hk : Try.prog.keyLits (d + 1) = K
  simp [hc, hc2]
  cases K 25 [a] <;> simp
  cases K 25 [b] <;> simp
theorem key_hit {x : HitM} (h : wfH x) : ∃ kl, keyOf Try.prog 76 (hK x) = some kl := by
  have hc2 : Try.prog.cellsOf 76 = 2 := by kernel_rfl
  have hkt : Try.prog.keyType 76 = true := by kernel_rfl
  obtain ⟨m, hm⟩ := sizes
  unfold keyOf
  rw [Try.underlying76, hm]
  have hf : (hK x).formed Try.prog 76 = true := by show (match (Value.agg #[.int .u64 x.1, .int .u64 x.2]).formed Try.prog 76 with | b => b) = true; simp [Value.formed, Try.underlying76, hc2]
  have hl : Try.prog.keyLits (m + 1 + 1) 76 (hK x).cells.toList = some [.int .u64 x.1, .int .u64 x.2] := by
    show Try.prog.keyLits (m + 1 + 1) 76 [.int .u64 x.1, .int .u64 x.2] = _
    rw [lits_hit, lits_u64, lits_u64]
    simp [h.1, h.2]
  simp [hkt, hf, hl]
theorem lits_inv {d : Nat} {v : Value} {ls : List Lit} (h : Try.prog.keyLits (d + 1) 25 [v] = some ls) : ∃ n, v = .int .u64 n ∧ (Lit.int .u64 n).wf = true := by
  rw [lits_u64] at h
  split at h
  · rename_i n
    split at h
    · rename_i hw; exact ⟨n, rfl, hw⟩
    · cases h
  · cases h
theorem key_inv {v : Value} {kl : Lit} (h : keyOf Try.prog 76 v = some kl) : ∃ x, v = hK x ∧ wfH x := by
  have hc2 : Try.prog.cellsOf 76 = 2 := by kernel_rfl
  obtain ⟨m, hm⟩ := sizes
  obtain ⟨xs, L, rfl, hl, _⟩ := keyOf_top wideHit h
  have hs : xs.size = 2 := by
    unfold keyOf at h
    rw [Try.underlying76] at h
    dsimp only at h
    split at h
    · rename_i hf
      simp [Value.formed, Try.underlying76, hc2] at hf
      exact hf.2
    · cases h
  obtain ⟨a, b, rfl⟩ : ∃ a b, xs = #[a, b] := by
    rcases xs with ⟨_ | ⟨a, _ | ⟨b, _ | ⟨c, l⟩⟩⟩⟩ <;> simp at hs
    exact ⟨a, b, rfl⟩
  rw [hm] at hl
  have hl2 : Try.prog.keyLits (m + 1 + 1) 76 [a, b] = some L := hl
  rw [lits_hit, Option.bind_eq_some_iff] at hl2
  obtain ⟨la, h1, h2⟩ := hl2
  rw [Option.map_eq_some_iff] at h2
  obtain ⟨lb, h2, _⟩ := h2
  obtain ⟨n, rfl, w1⟩ := lits_inv h1
  obtain ⟨n', rfl, w2⟩ := lits_inv h2
  exact ⟨(n, n'), rfl, w1, w2⟩

/-! ### the counts -/
noncomputable abbrev Ri (v : Value) : Option (DataW Value × List MemPlace) := plainElem Try.prog 3 v
abbrev zl : DataW Value := .lit (.int .i64 0)
def TellsH (D : DataW Value) (f : HitM → Int) : Prop := ∀ x kl, keyOf Try.prog 76 (hK x) = some kl → D.atKey kl zl = .lit (.int .i64 (f x))
def MapH (w : World) (b n : Nat) (f : HitM → Int) : Prop := ∃ D : DataW Value, w.ownsMap Try.prog 76 Ri b n D ∧ TellsH D f
def updH (f : HitM → Int) (x : HitM) (c : Int) : HitM → Int := fun y => if y = x then c else f y
theorem zeroInt (w : World) : (zeroValue 3).run Try.prog w = .ok (.int .i64 0) w := by kernel_rfl
theorem hv_inj {x y : HitM} (h : hK x = hK y) : x = y := by
  simp [hK] at h
  exact Prod.ext h.1 h.2

section
variable {w w' : World} {b n : Nat} {f : HitM → Int}
theorem MapH.lt (h : MapH w b n f) : b < w.heap.size := by obtain ⟨D, h, _⟩ := h; exact h.lt
theorem MapH.same (h : MapH w b n f) (hb : w'.heap[b]? = w.heap[b]?) : MapH w' b n f := by
  obtain ⟨D, ⟨es, clock, h1, h2⟩, ht⟩ := h
  exact ⟨D, ⟨es, clock, hb.trans h1, h2⟩, ht⟩
theorem MapH.mono (h : MapH w b n f) {m : Nat} (hm : n ≤ m) : MapH w b m f := by
  obtain ⟨D, h, ht⟩ := h
  exact ⟨D, h.mono hm, ht⟩
theorem MapH.made (w : World) : MapH (w.alloc (.map #[] 0)) w.heap.size 0 (fun _ => 0) := ⟨_, World.ownsMap_made w _ _ _, fun x kl _ => rfl⟩
theorem MapH.look (h : MapH w b n f) {x : HitM} (hx : wfH x) : (Instr.lookup 80 (.map (some b)) (hK x) false).run Try.prog w = .ok (.int .i64 (f x)) w := by
  obtain ⟨D, h, ht⟩ := h
  obtain ⟨kl, hk⟩ := key_hit hx
  obtain ⟨c, hrun, hat, _⟩ := h.lookup_int keyedHit Try.underlying80 Try.underlying3 (zeroInt w) hk
  have := ht x kl hk
  rw [hat] at this
  injection this with this
  injection this with _ this
  rw [hrun, this]
theorem tells_put {D : DataW Value} (hD : IsMap D) (ht : TellsH D f) {x : HitM} {kl : Lit} (hk : keyOf Try.prog 76 (hK x) = some kl) (c : Int) : TellsH (D.put kl (.lit (.int .i64 c))) (updH f x c) := by
  intro y ly hy
  by_cases e : y = x
  · subst e
    rw [hk] at hy
    injection hy with hy
    subst hy
    rw [atKey_put_same hD (keyedHit.key hk), updH, if_pos rfl]
  · have hne : ly ≠ kl := fun e2 => e (hv_inj (keyedHit.inj hy (by rw [e2]; exact hk)))
    rw [atKey_put_other hne, updH, if_neg e]
    exact ht y ly hy
theorem upd_self (f : HitM → Int) (x : HitM) : updH f x (f x) = f := by
  funext y
  unfold updH
  split
  · rename_i e; rw [e]
  · rfl

/-- An entry, and what is stored at it, later. -/
theorem MapH.entry (h : MapH w b n f) (hn : n < 1000000) {x : HitM} (hx : wfH x) :
    ∃ (st : Nat) (w1 : World), (Instr.mapEntry 80 (.map (some b)) (hK x)).run Try.prog w = .ok (.tuple #[.int .i64 (f x), .int .i64 (st : Int)]) w1 ∧ MapH w1 b (n + 1) f ∧ w.grownBy w1 (some b) ∧
      ∀ c : Int, (Lit.int .i64 c).wf = true → ∃ w2, (Instr.entryStore 80 (.map (some b)) (.int .i64 (st : Int)) (.int .i64 c)).run Try.prog w1 = .ok () w2 ∧ MapH w2 b (n + 1) (updH f x c) ∧ w.grownBy w2 (some b) := by
  have hlook := h.look hx
  obtain ⟨D, hown, ht⟩ := h
  have hown0 := hown
  have hmap : IsMap D := by obtain ⟨es, e, _⟩ := hown.entries keyedHit; exact ⟨es, e⟩
  obtain ⟨kl, hk⟩ := key_hit hx
  obtain ⟨es, clock, hb, F, hsz, hD⟩ := hown
  have hg : ∀ o : Obj, w.grownBy (Go.ChangeMaps.setBlock w b o) (some b) := fun o => ⟨rfl, rfl, rfl, by simp [Go.ChangeMaps.setBlock], fun i _ hi => Go.ChangeMaps.heap_setBlock_other hb _ (fun e => hi (by rw [e]))⟩
  have hup : ∀ c : Int, (Lit.int .i64 c).wf = true → ∃ w', (Instr.mapUpdate 80 (.map (some b)) (hK x) (.int .i64 c)).run Try.prog w = .ok () w' ∧ MapH w' b (n + 1) (updH f x c) := fun c hc => by
    obtain ⟨w', hrun, h', _⟩ := hown0.update keyedHit Try.underlying80 (by unfold maxLen; omega) hk (plainElem_int Try.underlying3 hc)
    exact ⟨w', hrun, _, h', tells_put hmap ht hk c⟩
  obtain ⟨v0, st, es1, clock1, hE, _, hS⟩ := Go.WideElems.entry_then_store (w := w) lawHit Try.underlying80 zeroInt hb F hk
  have hcore : v0 = .int .i64 (f x) ∧ MapH (Go.ChangeMaps.setBlock w b (.map es1 clock1)) b (n + 1) f := by
    have hE0 := hE
    rcases lawHit.find w hk es.toList F.keys with ⟨h1, h2⟩ | ⟨j, e0, h1, h2, h3⟩
    · have hl : (Instr.lookup 80 (.map (some b)) (hK x) false).run Try.prog w = .ok (.int .i64 0) w := by
        simp [Instr.lookup, run_underlying Try.underlying80, MapKept.run_getObj_map hb, lawHit.check w _ hk, h1, zeroInt, Result.andThen]
      rw [hlook] at hl
      injection hl with hl
      injection hl with _ hl
      simp [Instr.mapEntry, run_underlying Try.underlying80, MapKept.run_getObj_map hb, lawHit.check w false hk, h1, zeroInt, MapKept.run_setObj_map _ hb, Result.andThen] at hE
      obtain ⟨w', hu, hm⟩ := hup 0 (by decide)
      simp [Instr.mapUpdate, run_underlying Try.underlying80, MapKept.run_getObj_map hb, lawHit.check w false hk, h1, MapKept.run_setObj_map _ hb, Result.andThen] at hu
      refine ⟨by rw [hl]; exact hE.1.1.symm, ?_⟩
      have hw : Go.ChangeMaps.setBlock w b (.map es1 clock1) = w' := hE.2.symm.trans hu
      rw [hw]
      have := upd_self f x
      rw [hl] at this
      rw [this] at hm
      exact hm
    · have hj : es[j]? = some e0 := by simpa using h2
      have hl : (Instr.lookup 80 (.map (some b)) (hK x) false).run Try.prog w = .ok e0.val w := by
        simp [Instr.lookup, run_underlying Try.underlying80, MapKept.run_getObj_map hb, lawHit.check w _ hk, h1, zeroInt, Result.andThen]
      rw [hlook] at hl
      injection hl with hl
      simp [Instr.mapEntry, run_underlying Try.underlying80, MapKept.run_getObj_map hb, lawHit.check w false hk, h1, hj, h3, lawHit.stays w hk, zeroInt, MapKept.run_setObj_map _ hb, Result.andThen] at hE
      have hsame : es.modify j (fun e => { e with key := hK x }) = es := by
        refine Array.ext (by simp) (fun i h1 h2 => ?_)
        rw [Array.getElem_modify]
        split
        · rename_i e
          subst e
          have : es[j] = e0 := by simpa [Array.getElem?_eq_getElem h2] using hj
          rw [this, ← h3]
        · rfl
      refine ⟨by rw [hl]; exact hE.1.1.symm, ?_⟩
      have hw := hE.2
      rw [hsame] at hw
      have hh : (Go.ChangeMaps.setBlock w b (.map es1 clock1)).heap[b]? = w.heap[b]? := by
        rw [← hw, hb]
        exact Go.ChangeMaps.heap_setBlock_same hb _
      exact (show MapH w b (n + 1) f from ⟨D, hown0.mono (by omega), ht⟩).same hh
  obtain ⟨rfl, hm1⟩ := hcore
  refine ⟨st, _, hE, hm1, hg _, fun c hc => ?_⟩
  obtain ⟨es2, clock2, hs, hu2⟩ := hS (Go.ChangeMaps.setBlock w b (.map es1 clock1)) (.int .i64 c) (Go.ChangeMaps.heap_setBlock_same hb _)
  obtain ⟨w', hu, hm⟩ := hup c hc
  rw [hu2] at hu
  injection hu with _ hu
  have hb1 := Go.ChangeMaps.heap_setBlock_same hb (.map es1 clock1)
  refine ⟨_, hs, (show MapH (Go.ChangeMaps.setBlock w b (.map es2 clock2)) b (n + 1) (updH f x c) by rw [hu]; exact hm).same ?_, ⟨rfl, rfl, rfl, by simp [Go.ChangeMaps.setBlock], fun i _ hi => ?_⟩⟩
  · rw [Go.ChangeMaps.heap_setBlock_same hb1, Go.ChangeMaps.heap_setBlock_same hb]
  · have hne : i ≠ b := fun e => hi (by rw [e])
    rw [Go.ChangeMaps.heap_setBlock_other hb1 _ hne, Go.ChangeMaps.heap_setBlock_other hb _ hne]
end
end TopL
end Go.Proofs.Ytdbcecmlakgknaa
