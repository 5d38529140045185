/-
  A map of files by their names, as a function: what a look-up, a store, a deletion and a copy do. Names are 0 to 3.
-/
import Derived.Test.YtienabfilnpieaaGreatProg
import Derived.Maps.RangeWalk
import Derived.Maps.OwnSet
import Derived.Maps.Ext
import Derived.WalkKit
import Derived.OpenShut
namespace Go.Proofs.YtienabfilnpieaaGreat
open Go.RowKit Go.Maps
open Go.WideElems (Fit rd rg pl rd_val rd_key rg_of)
set_option linter.unusedVariables false

/-- An element reads as itself. -/
def Rv (v : Value) : Option (DataW Value × List MemPlace) := some (.held v, [])
abbrev kl (k : Int) : Lit := .int .i64 k
abbrev I64 (k : Int) : Prop := (Lit.int .i64 k).wf = true
theorem name_i64 {k : Int} (h : 0 ≤ k ∧ k < 4) : I64 k := WalkArith.wf_i64 (by omega)
theorem keyed : Keyed Tryz.prog 3 := int_keyed Tryz.underlying3
theorem keyAt {k : Int} (h : I64 k) : keyOf Tryz.prog 3 (.int .i64 k) = some (kl k) := keyOf_int_mk Tryz.underlying3 h

/-- A file that is not there. -/
def noFile : Value := .agg #[.slice none 0 0, .int .i64 0, .bool false]
theorem zeroFile (w : World) : (zeroValue 98).run Tryz.prog w = .ok noFile w := by kernel_rfl

def Tells (D : DataW Value) (f : Int → Option Value) : Prop :=
  (∀ k, I64 k → has D (kl k) = (f k).isSome) ∧ (∀ k v, I64 k → f k = some v → ∀ z, D.atKey (kl k) z = .held v) ∧ ∀ k, f k ≠ none → 0 ≤ k ∧ k < 4

/-- Block b is the map that leads from names to files as f says. -/
def MapAt (w : World) (b : Nat) (f : Int → Option Value) : Prop := ∃ D : DataW Value, w.ownsMap Tryz.prog 3 Rv b 4 D ∧ Tells D f

def upd {α : Type} (f : Int → α) (k : Int) (v : α) : Int → α := fun j => if j = k then v else f j
theorem upd_same {α : Type} (f : Int → α) (k : Int) (v : α) : upd f k v k = v := by simp [upd]
theorem upd_other {α : Type} (f : Int → α) {k j : Int} (h : j ≠ k) (v : α) : upd f k v j = f j := by simp [upd, h]

theorem length_names : ∀ (s l : List Int), l.Nodup → (∀ x ∈ l, x ∈ s) → l.length ≤ s.length
  | [], l, _, h => by
    rcases l with _ | ⟨x, l⟩
    · simp
    · exact absurd (h x (by simp)) (by simp)
  | a :: s, l, hn, h => by
    have h1 := length_names s (l.erase a) (hn.erase a) (fun x hx => by
      have hxl := List.mem_of_mem_erase hx
      rcases List.mem_cons.1 (h x hxl) with rfl | h'
      · exact absurd hx (by rw [List.Nodup.mem_erase_iff hn]; simp)
      · exact h')
    have h2 : l.length ≤ (l.erase a).length + 1 := by
      rw [List.length_erase]; split <;> omega
    simp; omega

theorem keyLit {w : World} {b n : Nat} {D : DataW Value} (h : w.ownsMap Tryz.prog 3 Rv b n D) : ∃ es, D = .map es ∧ es.Pairwise (fun p q => p.1 ≠ q.1) ∧ ∀ p ∈ es, ∃ x, p.1 = kl x ∧ I64 x := by
  obtain ⟨es, hD, hp, _⟩ := h.entries keyed
  refine ⟨es, hD, hp, fun p hpm => ?_⟩
  obtain ⟨es', clock, _, F, _, hD'⟩ := h
  rw [hD] at hD'
  injection hD' with hD'
  subst hD'
  obtain ⟨x, hx, rfl⟩ := List.mem_map.1 (mem_sorted.1 hpm)
  obtain ⟨y, hy⟩ := F.reads x hx
  rw [rg_of hy]
  obtain ⟨z, _, hz, hw⟩ := keyOf_int_inv Tryz.underlying3 (rd_key hy)
  exact ⟨z, hz, hw⟩

theorem few_entries {w : World} {b n : Nat} {D : DataW Value} {f : Int → Option Value} (h : w.ownsMap Tryz.prog 3 Rv b n D) (ht : Tells D f) : w.ownsMap Tryz.prog 3 Rv b 4 D := by
  obtain ⟨es, rfl, hp, hk⟩ := keyLit h
  obtain ⟨es', clock, hb, F, hs, hD⟩ := h
  refine ⟨es', clock, hb, F, ?_, hD⟩
  injection hD with hD
  have e1 : es'.size = es.length := by rw [hD, length_sorted]; simp
  rw [e1]
  have hall : ∀ p ∈ es, p.1 ∈ [kl 0, kl 1, kl 2, kl 3] := fun p hpm => by
    obtain ⟨x, hx, hw⟩ := hk p hpm
    have hh : has (.map es) (kl x) = true := by
      rw [has_eq, List.any_eq_true]
      exact ⟨p, hpm, by rw [hx]; simp [Lit.sameKey]⟩
    rw [ht.1 x hw] at hh
    have := ht.2.2 x (by intro e; rw [e] at hh; simp at hh)
    rw [hx]
    have : x = 0 ∨ x = 1 ∨ x = 2 ∨ x = 3 := by omega
    rcases this with rfl | rfl | rfl | rfl <;> simp
  let g : Lit → Int := fun l => match l with | .int _ x => x | _ => 0
  have hn : ((es.map (·.1)).map g).Nodup := by
    rw [List.map_map]
    refine List.pairwise_map.2 (List.Pairwise.imp_of_mem ?_ hp)
    · intro p q hpm hqm hne he
      apply hne
      obtain ⟨x, hx, _⟩ := hk p hpm
      obtain ⟨y, hy, _⟩ := hk q hqm
      simp [g, hx, hy] at he
      rw [hx, hy, he]
  have := length_names [0, 1, 2, 3] _ hn (fun x hx => by
    obtain ⟨l, hl, rfl⟩ := List.mem_map.1 hx
    obtain ⟨p, hpm, rfl⟩ := List.mem_map.1 hl
    have := hall p hpm
    simp at this
    rcases this with e | e | e | e <;> simp [g, e])
  simpa using this

section
variable {w w' : World} {b : Nat} {f : Int → Option Value}

theorem MapAt.lt (h : MapAt w b f) : b < w.heap.size := by obtain ⟨D, h, _⟩ := h; exact h.lt
theorem MapAt.names (h : MapAt w b f) {k : Int} (hk : f k ≠ none) : 0 ≤ k ∧ k < 4 := by obtain ⟨D, _, ht⟩ := h; exact ht.2.2 k hk
theorem MapAt.kept {row : Option Nat} (h : MapAt w b f) (hg : w.grownBy w' row) (hne : some b ≠ row) : MapAt w' b f := by
  obtain ⟨D, h, ht⟩ := h
  exact ⟨D, h.kept hg hne, ht⟩
theorem MapAt.same (h : MapAt w b f) (hb : w'.heap[b]? = w.heap[b]?) : MapAt w' b f := by
  obtain ⟨D, ⟨es, clock, h1, h2⟩, ht⟩ := h
  exact ⟨D, ⟨es, clock, hb.trans h1, h2⟩, ht⟩
theorem MapAt.noCell (h : MapAt w b f) (o : Nat) : w.cell? ⟨b, o, none⟩ = none := by
  obtain ⟨D, ⟨es, clock, h1, h2⟩, ht⟩ := h
  simp [World.cell?, h1]
theorem MapAt.made (w : World) : MapAt (w.alloc (.map #[] 0)) w.heap.size (fun _ => none) :=
  ⟨_, (World.ownsMap_made w _ _ _).mono (Nat.zero_le _), fun k _ => rfl, fun k v _ e => (by cases e), fun k e => absurd rfl e⟩

theorem MapAt.look (h : MapAt w b f) {k : Int} (hk : I64 k) (c : Bool) :
    (Instr.lookup 66 (.map (some b)) (.int .i64 k) c).run Tryz.prog w = .ok (if c then .tuple #[(f k).getD noFile, .bool (f k).isSome] else (f k).getD noFile) w := by
  obtain ⟨D, h, ht⟩ := h
  have h0 := h
  obtain ⟨es, clock, hb, F, _, rfl⟩ := h
  have hat : ∀ (e0 : MapEntry) (y : DataW Value × List MemPlace), Rv e0.val = some y → (∀ zd, (DataW.map ((es.toList.map (rg Tryz.prog 3 Rv)).foldr DataW.insert [])).atKey (kl k) zd = y.1) → f k = some e0.val := by
    intro e0 y hy hz
    have hh : has (.map ((es.toList.map (rg Tryz.prog 3 Rv)).foldr DataW.insert [])) (kl k) = true := has_true_of_atKey hz
    rw [ht.1 k hk] at hh
    obtain ⟨v, hv⟩ := Option.isSome_iff_exists.1 hh
    have := ht.2.1 k v hk hv .nil
    rw [hz] at this
    simp [Rv] at hy
    rw [← hy] at this
    simp at this
    rw [hv, this]
  rcases fit_look c keyed Tryz.underlying66 (zeroFile w) hb F (keyAt hk) with ⟨hrun, _, hz⟩ | ⟨e0, y, _, _, hrun, hRv, hz, _⟩
  · have hh := has_false_of_atKey hz
    rw [ht.1 k hk] at hh
    have : f k = none := by simpa using hh
    rw [hrun, this]
    simp
  · rw [hrun, hat e0 y hRv hz]
    simp

theorem MapAt.store (h : MapAt w b f) {k : Int} (hk : 0 ≤ k ∧ k < 4) (v : Value) :
    ∃ w', (Instr.mapUpdate 66 (.map (some b)) (.int .i64 k) v).run Tryz.prog w = .ok () w' ∧ MapAt w' b (upd f k (some v)) ∧ w.mapTurned w' b := by
  obtain ⟨D, h, ht⟩ := h
  obtain ⟨w', hrun, h', hg⟩ := h.store (val := v) (d := .held v) (ps := []) keyed Tryz.underlying66 (by unfold maxLen; omega) (keyAt (name_i64 hk)) rfl
  have hm : IsMap D := by obtain ⟨es, e, _⟩ := h.entries keyed; exact ⟨es, e⟩
  have ht' : Tells (D.put (kl k) (.held v)) (upd f k (some v)) := by
    refine ⟨fun j hj => ?_, fun j u hj hu z => ?_, fun j hj => ?_⟩
    · by_cases e : j = k
      · subst e; rw [has_put_same hm (k := kl j) trivial, upd_same]; rfl
      · rw [has_put_other (by simpa using e), upd_other _ e, ht.1 j hj]
    · by_cases e : j = k
      · subst e; rw [upd_same] at hu; cases hu; exact atKey_put_same hm (k := kl j) trivial _ _
      · rw [upd_other _ e] at hu; rw [atKey_put_other (by simpa using e)]; exact ht.2.1 j u hj hu z
    · by_cases e : j = k
      · subst e; exact hk
      · rw [upd_other _ e] at hj; exact ht.2.2 j hj
  exact ⟨w', hrun, ⟨_, few_entries h' ht', ht'⟩, hg⟩

theorem MapAt.drop (h : MapAt w b f) {k : Int} (hk : I64 k) (ty : TypeId) :
    ∃ w', (Builtin.delete_ #[66, 3] ty #[.map (some b), .int .i64 k]).run Tryz.prog w = .ok (.tuple #[]) w' ∧ MapAt w' b (upd f k none) ∧ w.mapTurned w' b := by
  obtain ⟨D, h, ht⟩ := h
  obtain ⟨w', hrun, h', hg⟩ := h.drop keyed Tryz.underlying66 (keyAt hk) ty
  have ht' : Tells (D.del (kl k)) (upd f k none) := by
    refine ⟨fun j hj => ?_, fun j u hj hu z => ?_, fun j hj => ?_⟩
    · by_cases e : j = k
      · subst e; rw [has_del_same, upd_same]; rfl
      · rw [has_del_other (by simpa using e), upd_other _ e, ht.1 j hj]
    · by_cases e : j = k
      · subst e; rw [upd_same] at hu; cases hu
      · rw [upd_other _ e] at hu; rw [atKey_del_other (by simpa using e)]; exact ht.2.1 j u hj hu z
    · by_cases e : j = k
      · subst e; exact absurd (upd_same _ _ _) hj
      · rw [upd_other _ e] at hj; exact ht.2.2 j hj
  exact ⟨w', hrun, ⟨_, h', ht'⟩, hg⟩
end

end Go.Proofs.YtienabfilnpieaaGreat
