/-
  A record more: the steps of Append in order; the row of parts grows.
-/
import Derived.Test.YtienabfilnpieaaWalLays
namespace Go.Proofs.Ytienabfilnpieaa
open Go.RowKit
set_option linter.unusedVariables false
set_option maxRecDepth 100000

/-- The world gets a name. -/
theorem name_world {P : Program} {cd : Code} {Q : Exit → Act → World → Prop} {a : Act} {w : World} (Φ : World → Prop) (h : Φ w) (k : ∀ w', Φ w' → Code.wp P cd Q a w') : Code.wp P cd Q a w := k w h
theorem put_cell {w : World} {g i p j : Nat} {v u : Value} (hne : p ≠ g) (h : w.cell? ⟨p, j, none⟩ = some u) : (w.setCell ⟨g, i, none⟩ v).cell? ⟨p, j, none⟩ = some u := by
  have hb := Below.heap_setCell w ⟨g, i, none⟩ v p hne
  simp only [World.cell?] at h ⊢
  rw [hb]
  exact h
theorem enter_l1 (x y : Value) (W : World) : (callFunc 40 #[x, y]).run Try.prog W = .ok (.enter 40 #[x, y]) W := by kernel_rfl
theorem enter_l2 (x : Value) (W : World) : (callFunc 42 #[x]).run Try.prog W = .ok (.enter 42 #[x]) W := by kernel_rfl
def laysF : Nat → FuncId
  | 0 => 40
  | _ => 42
def laysCaps (p q : Nat) : Nat → Array Value
  | 0 => #[.pointer (some ⟨p, 0, none⟩), .pointer (some ⟨q, 0, none⟩)]
  | _ => #[.pointer (some ⟨p, 0, none⟩)]

set_option maxHeartbeats 1000000 in
theorem lays_any {w : World} {S T : Nat → Prop} {g d p q sb : Nat} {V : AW} {M : AD} (hw : WalAt w T g d V) (h : DiskAt w S d M) (hTS : ∀ k, T k → ¬ S k) (hops : M.ops < 4611686018427387000) (hS : ¬ S p ∧ ¬ S q ∧ ¬ S sb) (hp : w.cell? ⟨p, 0, none⟩ = some (.pointer (some ⟨g, 0, none⟩)))
    {A : Option Addr} {l c : Nat} {b : List Int} (hl : b.length = l) (hq : w.cell? ⟨q, 0, none⟩ = some (.slice A l c)) (hs : Sl w A c b) (ho : Oct b) (hb : b.length ≤ 100000) (hn : V.parts.length ≤ 1000000)
    (hA : ∀ k, blk A = some k → ¬ S k) (hfs : w.heap[sb]? = some (.cells #[.func (.func (laysF 0)) #[] (laysCaps p q 0), .func (.func (laysF 1)) #[] (laysCaps p q 1)] 66 (0, 0))) :
    Calls Try.prog 29 #[.slice (some ⟨sb, 0, none⟩) 2 2] w fun e w' => e = .returned (.int .i64 (M.layC (frameM V.parts.length b))) ∧ After S d w (M.layM (frameM V.parts.length b)) w' := by
  obtain ⟨fr, hfr⟩ : ∃ fr, fr = frameM V.parts.length b := ⟨_, rfl⟩
  have hlow : ∀ i, S i → i < w.heap.size := fun i hi => h.low hi
  have hpl := World.block_lt_of_cell? w _ hp
  have hql := World.block_lt_of_cell? w _ hq
  have hao := appendM_ops M 0 fr
  have key := inOrder_any (w := w) sb 2 2 laysF (laysCaps p q) (fun j W => (j = 0 ∧ W = w) ∨ (j = 1 ∧ M.appendC 0 fr.length = 0 ∧ After S d w (M.appendM 0 fr) W) ∨ (j = 2 ∧ M.layC fr = 0 ∧ After S d w (M.layM fr) W)) (fun cc W => M.layC fr = cc ∧ After S d w (M.layM fr) W) (by omega)
    (fun j W hj hI => by
      have hc : w.cell? ⟨sb, j, none⟩ = some (.func (.func (laysF j)) #[] (laysCaps p q j)) := by
        simp only [World.cell?, hfs]
        have : j = 0 ∨ j = 1 := by omega
        rcases this with rfl | rfl <;> rfl
      rcases hI with ⟨_, rfl⟩ | ⟨_, _, ha⟩ | ⟨e, _⟩
      · exact hc
      · exact turn_cell ha.2 hS.2.2 hc
      · omega)
    (fun j W hj => by
      have : j = 0 ∨ j = 1 := by omega
      rcases this with rfl | rfl
      · exact enter_l1 _ _ W
      · exact enter_l2 _ W)
    (fun j W hj hI => by
      rcases hI with ⟨rfl, rfl⟩ | ⟨rfl, hz, ha⟩ | ⟨e, _⟩
      · have hk := lay1_any hw h hTS (by omega) ⟨hS.1, hS.2.1⟩ hp hl hq hs ho hb hn
        rw [← hfr] at hk
        refine hk.mono ?_
        rintro e W' ⟨rfl, ha⟩
        refine ⟨_, rfl, fun e => .inr (.inl ⟨rfl, e, ha⟩), fun e => ⟨?_, ?_⟩⟩
        · unfold AD.layC; rw [if_pos e]
        · unfold AD.layM; rw [if_pos e]; exact ha
      · have hgr : ∀ k, k < w.heap.size → ¬ S k → ¬ grew S w W k := fun k hk hn e => e.elim hn (fun e => by omega)
        have hw' : WalAt W T g d V := hw.other ha.2 hTS
        have hk := lay2_any hw' ha.1 (by omega) (turn_cell ha.2 hS.1 hp)
        refine hk.mono ?_
        rintro e W' ⟨rfl, ha2⟩
        have hg := ha.go ha2 hlow
        refine ⟨_, rfl, fun e => .inr (.inr ⟨rfl, ?_, ?_⟩), fun e => ⟨?_, ?_⟩⟩
        · unfold AD.layC; rw [if_neg (by rw [hz]; simp)]; exact e
        · unfold AD.layM; rw [if_neg (by rw [hz]; simp)]; exact hg
        · unfold AD.layC; rw [if_neg (by rw [hz]; simp)]
        · unfold AD.layM; rw [if_neg (by rw [hz]; simp)]; exact hg
      · omega)
    (.inl ⟨rfl, rfl⟩)
  rw [← hfr]
  refine key.mono ?_
  rintro e W ⟨cc, rfl, hz, hnz⟩
  by_cases hc : cc = 0
  · rcases hz hc with ⟨e, _⟩ | ⟨e, _⟩ | ⟨_, h1, h2⟩
    · omega
    · omega
    · exact ⟨by rw [h1, hc], h2⟩
  · obtain ⟨h1, h2⟩ := hnz hc
    exact ⟨by rw [h1], h2⟩

/-- append(v, x) of one slice of bytes to a row of them, as a step of a region that draws. -/
theorem run_rows {w : World} (ty : TypeId) (A0 : Option Addr) (c0 n : Nat) (xs : List Value) (hown : w.ownsRow 0 22 1 (.slice A0 n c0) n xs) (gx : Nat) (u : Value) (hc : w.cell? ⟨gx, 0, none⟩ = some u) (h1 : u.oneCell' = true) (hbig : n ≤ 1000000) :
    ∃ A1 c1 w', (Builtin.append_ #[32, 32] ty #[.slice A0 n c0, .slice (some ⟨gx, 0, none⟩) 1 1]).run Try.prog w = .ok (.slice A1 (n + 1) c1) w' ∧ w'.ownsRow 0 22 1 (.slice A1 (n + 1) c1) (n + 1) (xs ++ [u]) ∧ w.grownBy w' (blk A0) ∧ (blk A1 = blk A0 ∨ blk A1 = some w.heap.size) := by
  obtain ⟨i0, hi, hz0, hz1, hz2⟩ := info_parts infoBytes
  have hob : ∀ (A : Option Addr) n c, (Value.slice A n c).ownBlock = blk A := fun A n c => by cases A <;> rfl
  obtain ⟨v', w', hrun, h1, h2, h3, h4⟩ := run_append_own_at (P := Try.prog) w 0 32 ty 22 i0 (.slice none 0 0) 1 24 Try.underlying32 hi hz0 hz1 hz2 rfl (by decide) _ n xs hown ⟨gx, 0, none⟩ 1 1 [u] (by simp) (by
      intro j v hj
      rcases j with _ | j
      · have : v = u := by simpa using hj.symm
        subst this
        simpa [Addr.add] using hc
      · simp at hj) (by
      intro v hv
      have : v = u := by simpa using hv
      subst this
      exact h1) (by unfold maxLen; omega) (by omega) (Nat.zero_le _)
  obtain ⟨A1, c1, rfl, _, _⟩ := own_form h1
  rw [hob] at h2 h4
  rw [hob] at h4
  exact ⟨A1, c1, w', hrun, h1, h2, h4⟩
theorem step_rows {w : World} {ops : Array Oper} {o : Oper} {a : Act} {K : Act → World → Prop} {Q : Exit → Act → World → Prop} {E : Prop} (hgd : o.guard = none) (s x : Operand)
    (ho : o.op = .call { callee := .builtin .append, args := #[s, x], argTypes := #[32, 32] })
    (A0 : Option Addr) (c0 n : Nat) (xs : List Value) (hs : a.eval s = .slice A0 n c0) (hown : w.ownsRow 0 22 1 (.slice A0 n c0) n xs)
    (gx : Nat) (u : Value) (hx : a.eval x = .slice (some ⟨gx, 0, none⟩) 1 1) (hc : w.cell? ⟨gx, 0, none⟩ = some u) (h1 : u.oneCell' = true) (hbig : n ≤ 1000000)
    (h : ∀ A1 c1 w', w'.ownsRow 0 22 1 (.slice A1 (n + 1) c1) (n + 1) (xs ++ [u]) → w.grownBy w' (blk A0) → (blk A1 = blk A0 ∨ blk A1 = some w.heap.size) → K (a.put o.dst (.slice A1 (n + 1) c1)) w') :
    if Region.wanted o (yielded ops a.tmps) = true then Oper.wp Try.prog o a w K Q else E := by
  have hw : Region.wanted o (yielded ops a.tmps) = true := by simp [Region.wanted, hgd]
  rw [if_pos hw]
  obtain ⟨A1, c1, w', hrun, h1, h2, h3⟩ := run_rows o.type A0 c0 n xs hown gx u hc h1 hbig
  unfold Oper.wp
  simp [execOp, ho, resolve, invoke, builtin, hs, hx, hrun, Result.andThen]
  exact h A1 c1 w' h1 h2 h3

/-- The log has a record more. -/
theorem WalIn.more {X W W2 : World} {T : Nat → Prop} {g d : Nat} {V : AW} {A : Option Addr} {c : Nat} {vs : List Value} (h : WalIn X T g d V A c vs) {b : List Int} (ho : Oct b) {A1 : Option Addr} {c1 : Nat} (hb : Below X.heap.size X W)
    (hn : W.ownsRow X.heap.size 5 1 (.slice A1 b.length c1) b.length (b.map (Value.int .u8))) {A2 : Option Addr} {c2 : Nat} (hr : W2.ownsRow 0 22 1 (.slice A2 (V.parts.length + 1) c2) (V.parts.length + 1) (vs ++ [.slice A1 b.length c1])) (hg : W.grownBy W2 (blk A)) (hl : blk A2 = blk A ∨ blk A2 = some W.heap.size) :
    WalAt (W2.setCell ⟨g, 1, none⟩ (.slice A2 (V.parts.length + 1) c2)) (fun k => T k ∨ (X.heap.size ≤ k ∧ k < W2.heap.size)) g d { V with parts := V.parts ++ [b] } ∧
    Turn (fun k => T k) X (W2.setCell ⟨g, 1, none⟩ (.slice A2 (V.parts.length + 1) c2)) := by
  have hW := h.later hb
  have hgs := hg.size
  have hbs := hb.size
  have hne : (5 : TypeId) ≠ 22 := by decide
  have hneW : (63 : TypeId) ≠ 22 := by decide
  have hneU : (5 : TypeId) ≠ 63 := by decide
  have hgr : blk A ≠ some g := fun e => by
    obtain ⟨cur, hc⟩ := own_block hW.parts.row e
    rw [hW.box] at hc
    simp at hc
    try exact hneW hc.2
  have hbox2 : W2.heap[g]? = some (.cells (walA V A c d) 63 (0, 0)) := (hg.block g (lt_of_block hW.box) (by simpa using fun e => hgr e.symm)).trans hW.box
  have hbox3 := heap_set hbox2 1 (.slice A2 (V.parts.length + 1) c2)
  have hoth : ∀ k, k ≠ g → (W2.setCell ⟨g, 1, none⟩ (.slice A2 (V.parts.length + 1) c2)).heap[k]? = W2.heap[k]? := fun k hk => Below.heap_setCell _ _ _ _ hk
  have hvl : vs.length = V.parts.length := by have := h.parts.row.1; omega
  have keepU : ∀ {B : Option Addr} {cb : Nat} {p : List Int} {base : Nat}, W.ownsRow base 5 1 (.slice B p.length cb) p.length (p.map (Value.int .u8)) → (W2.setCell ⟨g, 1, none⟩ (.slice A2 (V.parts.length + 1) c2)).ownsRow 0 5 1 (.slice B p.length cb) p.length (p.map (Value.int .u8)) := fun {B cb p base} hp => by
    have h1 := hp.kept hg (by
      have := own_apart hne hp hW.parts.row
      have e : (Value.slice A V.parts.length c).ownBlock = blk A := by cases A <;> rfl
      rw [e] at this
      exact this)
    have h2 := New.low (A := B) (bs := p) h1 (Nat.zero_le base)
    refine row_same h2 fun k hk => hoth k (fun e => ?_)
    subst e
    obtain ⟨cur, hc⟩ := own_block h2 hk
    rw [hbox2] at hc
    simp at hc
    try exact hneU hc.2.symm
  refine ⟨⟨A2, c2, vs ++ [.slice A1 b.length c1], ?_, ⟨?_, fun i p hp => ?_, fun k hk => ?_⟩, .inl h.inT, fun k hk => ?_⟩, ?_⟩
  · have e : (walA V A c d).setIfInBounds 1 (.slice A2 (V.parts.length + 1) c2) = walA { V with parts := V.parts ++ [b] } A2 c2 d := by simp [walA]
    rw [← e]
    exact hbox3
  · have e : ({ V with parts := V.parts ++ [b] } : AW).parts.length = V.parts.length + 1 := by simp
    rw [e]
    refine row_same hr fun k hk => hoth k (fun e => ?_)
    subst e
    obtain ⟨cur, hc⟩ := own_block hr hk
    rw [hbox2] at hc
    simp at hc
    try exact hneW hc.2
  · have hp : (V.parts ++ [b])[i]? = some p := hp
    by_cases hi : i < V.parts.length
    · rw [List.getElem?_append_left hi] at hp
      obtain ⟨B, cb, h1, h2, h3, h4⟩ := hW.parts.each i p hp
      exact ⟨B, cb, by rw [List.getElem?_append_left (by omega)]; exact h1, keepU h2, fun k hk => .inl (h3 k hk), h4⟩
    · rw [List.getElem?_append_right (by omega)] at hp
      have hi0 : i - V.parts.length = 0 := by
        rcases hd : i - V.parts.length with _ | j
        · rfl
        · rw [hd] at hp; simp at hp
      rw [hi0] at hp
      have hp : b = p := by simpa using hp
      subst hp
      refine ⟨A1, c1, by rw [List.getElem?_append_right (by omega), hvl, hi0]; rfl, keepU hn, fun k hk => .inr ?_, ho⟩
      have := hn.lt k (by cases A1 <;> simp_all [Value.ownBlock, blk])
      omega
  · rcases hl with e | e
    · rw [e] at hk
      exact .inl (hW.parts.rowT k hk)
    · rw [e] at hk
      have : W.heap.size = k := by simpa using hk
      have h2 := hr.lt k (by cases A2 <;> simp_all [Value.ownBlock, blk])
      exact .inr (by omega)
  · have hsz : (W2.setCell ⟨g, 1, none⟩ (.slice A2 (V.parts.length + 1) c2)).heap.size = W2.heap.size := by simp [World.setCell]
    rcases hk with e | e
    · have := h.low k e; omega
    · omega
  · refine ⟨hg.os.trans hb.os, hg.tape.trans hb.tape, hg.output.trans hb.output, by simp [World.setCell]; omega, fun k hk hnT => ?_⟩
    rw [hoth k (fun e => hnT (e ▸ h.inT)), hg.block k (by omega) (fun e => hnT (h.parts.rowT k e.symm))]
    exact hb.block k hk

end Go.Proofs.Ytienabfilnpieaa
