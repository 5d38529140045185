/-
  What the bytes of a file say: hear.
  hear: of a log.
  hear: of a log.
-/
import Derived.Test.YtienabfilnpieaaGreatWalE
import Derived.Test.YtienabfilnpieaaGreatDiskPending
import Derived.Test.YtienabfilnpieaaGreatWalD
namespace Go.Proofs.YtienabfilnpieaaGreat
open Go.RowKit Go.Shelf
set_option linter.unusedVariables false
set_option linter.unusedSimpArgs false
set_option maxRecDepth 100000
attribute [local go_sem] Oper.semAt_some

def saidV (m : Int) (A : Option Addr) (n c : Nat) : Value := .agg #[.int .i64 m, .slice A n c]
theorem name_post {P : Program} {f : Func} {R : Ending → World → Prop} {e : Exit} {a : Act} {w : World} (Φ : World → Prop) (h : Φ w) (k : ∀ w', Φ w' → bodyPost P f R e a w') : bodyPost P f R e a w := k w h
theorem two_facts {w : World} {r : Nat} {a b : Value} {t : TypeId} (h : w.heap[r]? = some (.cells #[a, b] t (0, 0))) : w.cell? ⟨r, 0, none⟩ = some a ∧ w.cell? ⟨r, 1, none⟩ = some b ∧ w.frozen? ⟨r, 0, none⟩ = false ∧ w.frozen? ⟨r, 1, none⟩ = false := by
  refine ⟨?_, ?_, ?_, ?_⟩ <;> simp [World.cell?, World.frozen?, h]
set_option maxHeartbeats 1000000 in
theorem hear_no (A : Option Addr) (c : Nat) (bs : List Int) (w : World) (hr : Sl w A c bs) (ho : Oct bs) (hbig : bs.length ≤ 1000000) (hl : limitM bs = 0) :
    Calls Tryz.prog 97 #[.slice A bs.length c] w (fun e w' => e = .returned (.tuple #[saidV 0 none 0 0, .int .i64 140]) ∧ Below w.heap.size w w') := by
  have HL := Lib.hid (fun (W : World) (hW : Below w.heap.size w W) => limit_any A c bs W (hr.below hW) ho (by omega))
  rw [hl] at HL
  generalize bs.length = l at *
  have hb1 : Below w.heap.size w (w.alloc (.cells #[.int .i64 0, .slice none 0 0] 83)) := (Below.refl _ w).alloc (Nat.le_refl _) _
  have HB1 := Lib.hid hb1
  have HN1 := Lib.hid (heap_alloc_new w (.cells #[.int .i64 0, .slice none 0 0] 83))
  clear hr ho hbig hl hb1
  go_enter Tryz.func97, Tryz.ntmps97
  go_wp2_with (go_at_call 121; refine (HL.out _ HB1.out).mono ?_; rintro e w2 ⟨rfl, hb2⟩; have HBX := Lib.hid (show (w2.alloc (.cells #[.int .i64 0, .slice none 0 0] 83)).heap[w.heap.size]? = some (.cells #[.int .i64 0, .slice none 0 0] 83 (0, 0)) from (Below.heap_alloc _ _ _ (Nat.lt_of_lt_of_le (lt_of_block HN1.out) hb2.size)).trans ((hb2.block _ (lt_of_block HN1.out)).trans HN1.out)); have h3 := two_facts HBX.out; obtain ⟨k0, k1, k2, k3⟩ := h3; have HSZ := Lib.hid (Nat.lt_of_lt_of_le (lt_of_block HN1.out) hb2.size); have HB2 := Lib.hid (HB1.out.trans (hb2.mono HB1.out.size)); clear hb2)
  refine name_post (fun X => Below w.heap.size w X ∧ X.cell? ⟨w.heap.size, 0, none⟩ = some (.int .i64 0) ∧ X.cell? ⟨w.heap.size, 1, none⟩ = some (.slice none 0 0)) (by
    refine ⟨((HB2.out.alloc HB2.out.size _).setCell (p := ⟨w.heap.size, 0, none⟩) (Nat.le_refl _) _).setCell (p := ⟨w.heap.size, 1, none⟩) (Nat.le_refl _) _, ?_, ?_⟩
    · have := HBX.out; simp only [World.cell?, World.setCell, Array.getElem?_modify]; simp [this]
    · have := HBX.out; simp only [World.cell?, World.setCell, Array.getElem?_modify]; simp [this]) ?_
  rintro X ⟨hX, q0, q1⟩
  refine bodyPost_ret (v := .tuple #[.agg #[.int .i64 0, .slice none 0 0], .int .i64 140]) (by simp [results, Tryz.results97, go_sem, q0, q1]) rfl ⟨rfl, hX⟩
/-! ### what lies on while the iterator goes on -/
theorem own_block_keep {w w' : World} {B base n c m : Nat} {e : TypeId} {A : Option Addr} {xs : List Value} (h : w.ownsRow base e 1 (.slice A n c) m xs) (he : e ≠ 140) (ht : Turn (fun k => B ≤ k ∧ OwnScan w k) w w') : ∀ k, blk A = some k → w'.heap[k]? = w.heap[k]? := fun k hk => by
  rcases h.2 with ⟨hv, _⟩ | ⟨g, cap, cur, hv, hg, hh, r⟩
  · injection hv with hv
    rw [hv] at hk
    cases hk
  · injection hv with hv
    rw [hv] at hk
    injection hk with hk
    subst hk
    refine ht.block _ (lt_of_block hh) (fun hown => ?_)
    obtain ⟨cs, st, ho⟩ := hown.2
    rw [hh] at ho
    injection ho with ho
    injection ho with _ e2 _
    exact he e2
theorem own_keep {w w' : World} {B base n c m : Nat} {e : TypeId} {A : Option Addr} {xs : List Value} (h : w.ownsRow base e 1 (.slice A n c) m xs) (he : e ≠ 140) (ht : Turn (fun k => B ≤ k ∧ OwnScan w k) w w') : w'.ownsRow base e 1 (.slice A n c) m xs := by
  refine row_same h fun k hk => ?_
  rcases h.2 with ⟨hv, _⟩ | ⟨g, cap, cur, hv, hg, hh, r⟩
  · injection hv with hv
    rw [hv] at hk
    cases hk
  · injection hv with hv
    rw [hv] at hk
    injection hk with hk
    subst hk
    refine ht.block _ (lt_of_block hh) (fun hown => ?_)
    obtain ⟨cs, st, ho⟩ := hown.2
    rw [hh] at ho
    injection ho with ho
    injection ho with _ e2 _
    exact he e2
theorem part_keep {w w' : World} {B : Nat} {T : Nat → Prop} {vs : List Value} {i : Nat} {p : List Int} (h : PartAt w T vs i p) (ht : Turn (fun k => B ≤ k ∧ OwnScan w k) w w') : PartAt w' T vs i p := by
  obtain ⟨A, c, h1, h2, h3, h4⟩ := h
  exact ⟨A, c, h1, own_keep h2 (by decide) ht, h3, h4⟩
theorem parts_keep {w w' : World} {B : Nat} {T : Nat → Prop} {A : Option Addr} {c : Nat} {ps : List (List Int)} {vs : List Value} (h : PartsAt w T A c ps vs) (ht : Turn (fun k => B ≤ k ∧ OwnScan w k) w w') : PartsAt w' T A c ps vs :=
  ⟨own_keep h.row (by decide) ht, fun i p hp => part_keep (h.each i p hp) ht, h.rowT⟩
/-- What the loop of hear holds: the box of what is heard, and the room that is left. -/
structure HearI (w : World) (q : Nat) (lim : Int) (pre : List Xp) (W : World) : Prop where
  said : ∃ A c vs, W.heap[q]? = some (.cells #[.int .i64 lim, .slice A pre.length c] 83 (0, 0)) ∧ PartsAt W (fun k => w.heap.size ≤ k ∧ k < W.heap.size) A c (pre.map (·.2.2)) vs ∧ AllC NoByte W (.slice A pre.length c)
  room : W.heap[q + 1]? = some (.cells #[.int .i64 (lim - costM (pre.map (·.2.2)))] 3 (0, 0))
  res : W.heap[w.heap.size]? = some (.cells #[.int .i64 0, .slice none 0 0] 83 (0, 0))
  bel : Below w.heap.size w W
  fit : (costM (pre.map (·.2.2)) : Int) ≤ lim ∧ ∀ x ∈ pre, x.2.2.length ≤ 16000
theorem box_keep {w w' : World} {B k : Nat} {cs : Array Value} {e : TypeId} (h : w.heap[k]? = some (.cells cs e (0, 0))) (he : e ≠ 140) (ht : Turn (fun k => B ≤ k ∧ OwnScan w k) w w') : w'.heap[k]? = some (.cells cs e (0, 0)) := by
  rw [ht.block k (lt_of_block h) (fun hown => ?_), h]
  obtain ⟨cs', st, ho⟩ := hown.2
  rw [h] at ho
  injection ho with ho
  injection ho with _ e2 _
  exact he e2
theorem PartsAt.widen {w : World} {T T' : Nat → Prop} {A : Option Addr} {c : Nat} {ps : List (List Int)} {vs : List Value} (h : PartsAt w T A c ps vs) (hT : ∀ k, T k → T' k) : PartsAt w T' A c ps vs :=
  ⟨h.row, fun i p hp => by obtain ⟨B, cb, h1, h2, h3, h4⟩ := h.each i p hp; exact ⟨B, cb, h1, h2, fun k hk => hT k (h3 k hk), h4⟩, fun k hk => hT k (h.rowT k hk)⟩
theorem hearI_abides (w : World) (q B : Nat) (lim : Int) (hB : w.heap.size ≤ B) : AbideOwn OwnScan B (HearI w q lim) := by
  rintro pre W W' ⟨⟨A, c, vs, h1, h2, ho⟩, h3, h4, h5, h6⟩ ht
  refine ⟨⟨A, c, vs, box_keep h1 (by decide) ht, (parts_keep h2 ht).widen (fun k hk => ⟨hk.1, Nat.lt_of_lt_of_le hk.2 ht.size⟩), ho.same (fun k hk => own_block_keep h2.row (by decide) ht k (by cases A <;> simp_all [Value.ownBlock, blk]))⟩, box_keep h3 (by decide) ht, box_keep h4 (by decide) ht, h5.trans (ht.below h5.size (fun k hk => Nat.le_trans hB hk.1)), h6⟩
theorem kpX_trans {B : Nat} {X Y Z : World} (h : KpX B X Y) (k : KpX B Y Z) : KpX B X Z :=
  ⟨Nat.le_trans h.size k.size, fun p z hp => k.bytes p z (h.bytes p z hp), fun i cs st hi hs => by
    have h1 := h.scan i cs st hi hs
    exact (k.scan i cs st hi (h1.trans hs)).trans h1⟩
theorem kpX_put (B : Nat) (W : World) (k : Nat) (o o' : Obj) (hk : k < B) (h : W.heap[k]? = some o) (ho : o.isCells = false) : KpX B W (W.putObj k o') := by
  refine ⟨by simp [World.putObj], fun p z hp => ?_, fun i cs st hi hs => World.putObj_heap_other (by omega)⟩
  have hne : p.block ≠ k := fun e => by
    unfold World.cell? at hp
    rw [e, h] at hp
    cases o <;> simp_all [Obj.isCells]
  unfold World.cell? at hp ⊢
  rw [World.putObj_heap_other hne]
  exact hp

end Go.Proofs.YtienabfilnpieaaGreat

namespace Go.Proofs.YtienabfilnpieaaGreat
open Go.RowKit Go.Shelf
set_option linter.unusedVariables false
set_option linter.unusedSimpArgs false
set_option maxRecDepth 100000
attribute [local go_sem] Oper.semAt_some

theorem ob_eq (A : Option Addr) (n c : Nat) : (Value.slice A n c).ownBlock = blk A := by cases A <;> rfl
theorem put_other {W : World} {k i : Nat} {o o' o2 : Obj} (h : W.heap[k]? = some o) (ho : o.isCells = false) (hi : W.heap[i]? = some o2) (h2 : o2.isCells = true) : (W.putObj k o').heap[i]? = some o2 := by
  rw [World.putObj_heap_other (fun e => ?_)]
  · exact hi
  · subst e; rw [h] at hi; cases hi; rw [ho] at h2; cases h2
theorem own_put {W : World} {base k n c m : Nat} {e : TypeId} {A : Option Addr} {xs : List Value} {o o' : Obj} (h : W.ownsRow base e 1 (.slice A n c) m xs) (hk : W.heap[k]? = some o) (ho : o.isCells = false) : (W.putObj k o').ownsRow base e 1 (.slice A n c) m xs := by
  refine row_same h fun i hi => ?_
  rcases h.2 with ⟨hv, _⟩ | ⟨g, cap, cur, hv, hg, hh, r⟩
  · injection hv with hv
    rw [hv] at hi
    cases hi
  · injection hv with hv
    rw [hv] at hi
    injection hi with hi
    subst hi
    rw [hh]
    exact put_other hk ho hh rfl
theorem factX_put (B : Nat) (x : Xp) (W : World) (k : Nat) (o o' : Obj) (h : FactX B x W) (hk : W.heap[k]? = some o) (ho : o.isCells = false) : FactX B x (W.putObj k o') := ⟨own_put h.1 hk ho, h.2⟩
theorem parts_put {W : World} {T : Nat → Prop} {A : Option Addr} {c k : Nat} {ps : List (List Int)} {vs : List Value} {o o' : Obj} (h : PartsAt W T A c ps vs) (hk : W.heap[k]? = some o) (ho : o.isCells = false) : PartsAt (W.putObj k o') T A c ps vs :=
  ⟨own_put h.row hk ho, fun i p hp => by obtain ⟨B, cb, h1, h2, h3, h4⟩ := h.each i p hp; exact ⟨B, cb, h1, own_put h2 hk ho, h3, h4⟩, h.rowT⟩
theorem hearI_put (w : World) (q : Nat) (lim : Int) (pre : List Xp) (W : World) (k : Nat) (o o' : Obj) (h : HearI w q lim pre W) (hw : w.heap.size ≤ k) (hk : W.heap[k]? = some o) (ho : o.isCells = false) : HearI w q lim pre (W.putObj k o') := by
  obtain ⟨⟨A, c, vs, h1, h2, hodd⟩, h3, h4, h5, h6⟩ := h
  have hz : (W.putObj k o').heap.size = W.heap.size := by simp [World.putObj]
  refine ⟨⟨A, c, vs, put_other hk ho h1 rfl, (parts_put h2 hk ho).widen (fun i hi => by rw [hz]; exact hi), hodd.same (fun g hg => by
    obtain ⟨cur, hc⟩ := own_block h2.row (by rw [ob_eq] at hg; exact hg)
    rw [hc]
    exact put_other hk ho hc rfl)⟩, put_other hk ho h3 rfl, put_other hk ho h4 rfl, h5.trans ⟨rfl, rfl, rfl, Nat.le_of_eq hz.symm, fun i hi => World.putObj_heap_other (by omega)⟩, h6⟩
/-- The loop is left: the last one that came did not fit. -/
def HearX (w : World) (q : Nat) (lim : Int) (cd : Code) (pre : List Xp) (W : World) : Prop := ∃ ys x, pre = ys ++ [x] ∧ HearI w q lim ys W ∧ fitsC x.2.2.length (lim - costM (ys.map (·.2.2))) ≠ 0 ∧ cd = .exit 0

theorem ownScan_cells (W : World) (k : Nat) (h : OwnScan W k) : ∃ o, W.heap[k]? = some o ∧ o.isCells = true := by obtain ⟨cs, st, h⟩ := h; exact ⟨_, h, rfl⟩
theorem hearX_abides (w : World) (q B : Nat) (lim : Int) (hB : w.heap.size ≤ B) (cd : Code) : AbideOwn OwnScan B (HearX w q lim cd) := by
  rintro pre W W' ⟨ys, x, e, h, h2⟩ ht
  exact ⟨ys, x, e, hearI_abides w q B lim hB _ _ _ h ht, h2⟩
theorem hearX_put (w : World) (q : Nat) (lim : Int) (cd : Code) (pre : List Xp) (W : World) (k : Nat) (o o' : Obj) (h : HearX w q lim cd pre W) (hw : w.heap.size ≤ k) (hk : W.heap[k]? = some o) (ho : o.isCells = false) : HearX w q lim cd pre (W.putObj k o') := by
  obtain ⟨ys, x, e, h, h2⟩ := h
  exact ⟨ys, x, e, hearI_put w q lim _ _ _ _ _ h hw hk ho, h2⟩
theorem hearI_later {w W W' : World} {q : Nat} {lim : Int} {pre : List Xp} (h : HearI w q lim pre W) (hb : Below W.heap.size W W') : HearI w q lim pre W' := by
  obtain ⟨⟨A, c, vs, h1, h2, hodd⟩, h3, h4, h5, h6⟩ := h
  exact ⟨⟨A, c, vs, (hb.block _ (lt_of_block h1)).trans h1, (h2.turn (fun k hk => hb.block k hk.2)).widen (fun k hk => ⟨hk.1, Nat.lt_of_lt_of_le hk.2 hb.size⟩), hodd.same (fun g hg => by
    obtain ⟨cur, hc⟩ := own_block h2.row (by rw [ob_eq] at hg; exact hg)
    exact hb.block g (lt_of_block hc))⟩, (hb.block _ (lt_of_block h3)).trans h3, (hb.block _ (lt_of_block h4)).trans h4, h5.trans (hb.mono h5.size), h6⟩

/-- One block holds something else. -/
structure Put1 (W W' : World) (k : Nat) (o : Obj) : Prop where
  size : W'.heap.size = W.heap.size
  os : W'.os = W.os
  tape : W'.tape = W.tape
  output : W'.output = W.output
  at_ : W'.heap[k]? = some o
  other : ∀ i, i ≠ k → W'.heap[i]? = W.heap[i]?
theorem put1_set {W : World} {k : Nat} {v u : Value} {t : TypeId} (h : W.heap[k]? = some (.cells #[u] t (0, 0))) : Put1 W (W.setCell ⟨k, 0, none⟩ v) k (.cells #[v] t (0, 0)) :=
  ⟨by simp [World.setCell], rfl, rfl, rfl, heap_set h 0 v, fun i hi => Below.heap_setCell _ _ _ _ hi⟩
theorem Put1.drew {W W' : World} {k : Nat} {o : Obj} (h : Put1 W W' k o) : Put1 W W'.drew k o := ⟨h.size, h.os, h.tape, h.output, h.at_, h.other⟩
theorem Put1.of_drew {W W' : World} {k : Nat} {o : Obj} (h : Put1 W.drew W' k o) : Put1 W W' k o := ⟨h.size, h.os, h.tape, h.output, h.at_, h.other⟩

/-- The loop's round that takes a part. -/
theorem hear_more {w W W8 W10 : World} {q B B0 : Nat} {lim : Int} {pre : List Xp} {x : Xp} {A A2 : Option Addr} {c c2 : Nat} {vs : List Value} {tmp : Obj} (h : HearI w q lim pre W) (hq : w.heap.size < q) (hf : FactX B x W) (hB : w.heap.size ≤ B)
    (hbox : W.heap[q]? = some (.cells #[.int .i64 lim, .slice A pre.length c] 83 (0, 0))) (hp : PartsAt W (fun k => w.heap.size ≤ k ∧ k < W.heap.size) A c (pre.map (·.2.2)) vs) (hodd : AllC NoByte W (.slice A pre.length c))
    (h8 : Put1 W W8 (q + 1) (.cells #[.int .i64 (lim - costM ((pre ++ [x]).map (·.2.2)))] 3 (0, 0))) (hfit : (costM ((pre ++ [x]).map (·.2.2)) : Int) ≤ lim) (h16 : x.2.2.length ≤ 16000)
    (hown : W10.ownsRow 0 33 1 (.slice A2 (pre.length + 1) c2) (pre.length + 1) (vs ++ [.slice x.1 x.2.2.length x.2.1])) (hg : (W8.alloc tmp).grownBy W10 (blk A)) (hloc : blk A2 = blk A ∨ blk A2 = some (W8.alloc tmp).heap.size) (hodd2 : AllC NoByte W10 (.slice A2 (pre.length + 1) c2)) :
    KeepsFrom B0 W (W10.setCell ⟨q, 1, none⟩ (.slice A2 (pre.length + 1) c2)) ∧ KpX B W (W10.setCell ⟨q, 1, none⟩ (.slice A2 (pre.length + 1) c2)) ∧ HearI w q lim (pre ++ [x]) (W10.setCell ⟨q, 1, none⟩ (.slice A2 (pre.length + 1) c2)) := by
  have hz8 : (W8.alloc tmp).heap.size = W.heap.size + 1 := by rw [World.size_alloc, h8.size]
  have hz10 := hg.size
  rw [hz8] at hz10
  obtain ⟨W11, hW11⟩ : ∃ W11, W11 = W10.setCell ⟨q, 1, none⟩ (.slice A2 (pre.length + 1) c2) := ⟨_, rfl⟩
  have hz11 : W11.heap.size = W10.heap.size := by rw [hW11]; simp [World.setCell]
  rw [← hW11]
  have hqlt := lt_of_block hbox
  have hq1lt := lt_of_block h.room
  have tA : ∀ a, blk A = some a → ∃ cur, W.heap[a]? = some (.cells cur 33 (0, 0)) := fun a ha => own_block hp.row ha
  have neT : ∀ {k : Nat} {cs cs' : Array Value} {e e' : TypeId} {f f' : Nat × Nat}, W.heap[k]? = some (.cells cs e f) → W.heap[k]? = some (.cells cs' e' f') → e = e' := fun h1 h2 => by
    rw [h1] at h2
    injection h2 with h2
    injection h2
  have hqA : blk A ≠ some q := fun e => by obtain ⟨cur, hc⟩ := tA q e; exact absurd (neT hbox hc) (by decide)
  have hq1A : blk A ≠ some (q + 1) := fun e => by obtain ⟨cur, hc⟩ := tA _ e; exact absurd (neT h.room hc) (by decide)
  have old10 : ∀ i, i < W.heap.size → i ≠ q + 1 → blk A ≠ some i → W10.heap[i]? = W.heap[i]? := fun i hi h1 h2 => by
    rw [hg.block i (by rw [hz8]; omega) (fun e => h2 e.symm), Below.heap_alloc W8 tmp i (by rw [h8.size]; exact hi)]
    exact h8.other i h1
  have key : ∀ i, i < W.heap.size → i ≠ q → i ≠ q + 1 → blk A ≠ some i → W11.heap[i]? = W.heap[i]? := fun i hi h0 h1 h2 => by
    rw [hW11, Below.heap_setCell _ _ _ _ h0]
    exact old10 i hi h1 h2
  have box10 : W10.heap[q]? = some (.cells #[.int .i64 lim, .slice A pre.length c] 83 (0, 0)) := (old10 q hqlt (by omega) hqA).trans hbox
  have box11 : W11.heap[q]? = some (.cells #[.int .i64 lim, .slice A2 (pre.length + 1) c2] 83 (0, 0)) := by rw [hW11]; exact heap_set box10 1 _
  have nq : ∀ {k : Nat} {cs : Array Value} {e : TypeId}, W10.heap[k]? = some (.cells cs e (0, 0)) → e ≠ 83 → k ≠ q := fun {k cs e} h1 h2 h3 => by
    subst h3
    rw [box10] at h1
    injection h1 with h1
    injection h1 with _ h1
    exact h2 h1.symm
  have hA2q : ∀ k, blk A2 = some k → k ≠ q := fun k hk => by obtain ⟨cur, hc⟩ := own_block hown hk; exact nq hc (by decide)
  have keep8 : ∀ {Bp : Option Addr} {cb base : Nat} {p : List Int}, W.ownsRow base 5 1 (.slice Bp p.length cb) p.length (p.map (Value.int .u8)) → W11.ownsRow base 5 1 (.slice Bp p.length cb) p.length (p.map (Value.int .u8)) := fun {Bp cb base p} hr =>
    row_same hr fun k hk => by
      obtain ⟨cur, hc⟩ := own_block hr hk
      refine key k (lt_of_block hc) (fun e => ?_) (fun e => ?_) (fun e => ?_)
      · subst e; exact absurd (neT hbox hc) (by decide)
      · subst e; exact absurd (neT h.room hc) (by decide)
      · obtain ⟨cur', hc'⟩ := tA k e; exact absurd (neT hc' hc) (by decide)
  have hvl : vs.length = pre.length := by have := hp.row.1; simp at this; omega
  have hpl : (pre.map (·.2.2)).length = pre.length := by simp
  have hmp : (pre ++ [x]).map (·.2.2) = pre.map (·.2.2) ++ [x.2.2] := by simp
  refine ⟨⟨by omega, fun k o _ hk ho => ?_⟩, ⟨by omega, fun p z hpz => ?_, fun k cs st _ hk => ?_⟩, ⟨⟨A2, c2, vs ++ [.slice x.1 x.2.2.length x.2.1], ?_, ⟨?_, fun i p hi => ?_, fun k hk => ?_⟩, ?_⟩, ?_, ?_, ?_, ?_⟩⟩
  · -- no cells
    refine (key k (lt_of_block hk) (fun e => ?_) (fun e => ?_) (fun e => ?_)).trans hk
    · subst e; rw [hbox] at hk; cases hk; cases ho
    · subst e; rw [h.room] at hk; cases hk; cases ho
    · obtain ⟨cur', hc'⟩ := tA k e; rw [hc'] at hk; cases hk; cases ho
  · -- bytes
    obtain ⟨b, o, sp⟩ := p
    have hs : sp = none := World.cell?_spot hpz
    subst hs
    have hb := World.block_lt_of_cell? W _ hpz
    refine (World.cell?_of_block (a := ⟨b, o, none⟩) (key b hb (fun e => ?_) (fun e => ?_) (fun e => ?_))).trans hpz
    · subst e
      simp only [World.cell?, hbox] at hpz
      rcases o with _ | _ | o <;> simp at hpz
    · subst e
      simp only [World.cell?, h.room] at hpz
      rcases o with _ | o <;> simp at hpz
    · exact hodd b (by rw [← e]; cases A <;> rfl) o _ hpz z rfl
  · -- scans
    refine key k (lt_of_block hk) (fun e => ?_) (fun e => ?_) (fun e => ?_)
    · subst e; exact absurd (neT hbox hk) (by decide)
    · subst e; exact absurd (neT h.room hk) (by decide)
    · obtain ⟨cur', hc'⟩ := tA k e; exact absurd (neT hc' hk) (by decide)
  · rw [List.length_append]; exact box11
  · rw [hmp, List.length_append, hpl]
    exact row_same hown fun k hk => by rw [hW11, Below.heap_setCell _ _ _ _ (hA2q k hk)]
  · rw [hmp] at hi
    by_cases hlt : i < pre.length
    · rw [List.getElem?_append_left (by omega)] at hi
      obtain ⟨Bp, cb, g1, g2, g3, g4⟩ := hp.each i p hi
      exact ⟨Bp, cb, by rw [List.getElem?_append_left (by omega)]; exact g1, keep8 g2, fun k hk => ⟨(g3 k hk).1, by have := (g3 k hk).2; omega⟩, g4⟩
    · rw [List.getElem?_append_right (by omega), hpl] at hi
      have hi0 : i - pre.length = 0 := by
        rcases hd : i - pre.length with _ | j
        · rfl
        · rw [hd] at hi; simp at hi
      rw [hi0] at hi
      have hi : x.2.2 = p := by simpa using hi
      subst hi
      refine ⟨x.1, x.2.1, by rw [List.getElem?_append_right (by omega), hvl, hi0]; rfl, New.low (A := x.1) (bs := x.2.2) (keep8 hf.1) (Nat.zero_le _), fun k hk => ?_, hf.2⟩
      have := hf.1.lt k (by rw [ob_eq]; exact hk)
      omega
  · rcases hloc with e | e
    · rw [e] at hk
      have := hp.rowT k hk
      exact ⟨this.1, by have := this.2; omega⟩
    · rw [e] at hk
      injection hk with hk
      have h2 := hown.lt k (by cases A2 <;> simp_all [Value.ownBlock, blk])
      rw [hz8] at hk
      exact ⟨by omega, by omega⟩
  · rw [List.length_append]
    exact hodd2.same fun k hk => by rw [ob_eq] at hk; rw [hW11, Below.heap_setCell _ _ _ _ (hA2q k hk)]
  · rw [hW11, Below.heap_setCell _ _ _ _ (by show q + 1 ≠ q; omega), hg.block (q + 1) (by rw [hz8]; omega) (fun e => hq1A e.symm), Below.heap_alloc W8 tmp _ (by rw [h8.size]; exact hq1lt)]
    exact h8.at_
  · refine (key w.heap.size (lt_of_block h.res) (by omega) (by omega) (fun e => ?_)).trans h.res
    obtain ⟨cur', hc'⟩ := tA _ e
    exact absurd (neT h.res hc') (by decide)
  · refine h.bel.trans ⟨?_, ?_, ?_, by omega, fun i hi => ?_⟩
    · rw [hW11]; exact hg.os.trans h8.os
    · rw [hW11]; exact hg.tape.trans h8.tape
    · rw [hW11]; exact hg.output.trans h8.output
    · have := h.bel.size
      exact key i (by omega) (by omega) (by omega) (fun e => by have := (hp.rowT i e).1; omega)
  · exact ⟨hfit, fun y hy => by
      rcases List.mem_append.1 hy with h1 | h1
      · exact h.fit.2 y h1
      · obtain rfl : y = x := by simpa using h1
        exact h16⟩

end Go.Proofs.YtienabfilnpieaaGreat

namespace Go.Proofs.YtienabfilnpieaaGreat
open Go.RowKit Go.Shelf
set_option linter.unusedVariables false
set_option linter.unusedSimpArgs false
set_option maxRecDepth 100000
attribute [local go_sem] Oper.semAt_some

/-! ### what is heard, as a function -/
/-- The parts that stand from r on, the first one with the number k, as long as they fit into so much room. -/
def goM : Nat → Int → Int → List Int → List (List Int)
  | 0, _, _, _ => []
  | n + 1, room, k, r => match stepM k r with
    | none => []
    | some (p, r') => if fitsC p.length room = 0 then p :: goM n (room - (p.length + 12)) (k + 1) r' else []
/-- All parts that a file says. -/
def partsM (bs : List Int) : List (List Int) := goM (bs.length + 1) (limitM bs) 0 (bs.drop 20)
theorem goM_more (n m : Nat) (room k : Int) (r : List Int) (hn : r.length < 12 * n) (hm : r.length < 12 * m) : goM n room k r = goM m room k r := by
  induction n generalizing m room k r with
  | zero => omega
  | succ n ih =>
    cases m with
    | zero => omega
    | succ m =>
      unfold goM
      cases hs : stepM k r with
      | none => rfl
      | some pr =>
        obtain ⟨p, r'⟩ := pr
        have := stepM_len hs
        dsimp only
        rw [ih m _ _ r' (by omega) (by omega)]
/-- Parts that were heard one by one, each of which fits. -/
theorem goM_run {bs : List Int} {xs : List Xp} {r : List Int} (h : Run bs xs r) (lim : Int) (hc : (costM (xs.map (·.2.2)) : Int) ≤ lim) (h16 : ∀ x ∈ xs, x.2.2.length ≤ 16000) (n : Nat) (hn : bs.length < 12 * n) :
    goM n lim 0 bs = xs.map (·.2.2) ++ goM n (lim - costM (xs.map (·.2.2))) xs.length r := by
  induction h with
  | nil => simp [costM]
  | @snoc xs r r' x hrun hs ih =>
    have hmp : (xs ++ [x]).map (·.2.2) = xs.map (·.2.2) ++ [x.2.2] := by simp
    rw [hmp, costM_append, costM_one] at hc
    have e := ih (by omega) (fun y hy => h16 y (by simp [hy]))
    have hl := hrun.len
    have hsl := stepM_len hs
    have hx := h16 x (by simp)
    rw [e, hmp, List.append_assoc]
    congr 1
    rw [costM_append, costM_one]
    cases n with
    | zero => omega
    | succ n =>
      conv => lhs; unfold goM
      rw [hs]
      dsimp only
      have hf : fitsC x.2.2.length (lim - costM (xs.map (·.2.2))) = 0 := by
        unfold fitsC
        rw [if_neg (by omega), if_neg (by omega)]
      rw [if_pos hf]
      show x.2.2 :: _ = x.2.2 :: _
      congr 1
      rw [goM_more n (n + 1) _ _ r' (by omega) (by omega)]
      congr 1
      · omega
      · simp
theorem parts_done {bs : List Int} {xs : List Xp} {r : List Int} (h : Run (bs.drop 20) xs r) (hc : (costM (xs.map (·.2.2)) : Int) ≤ limitM bs) (h16 : ∀ x ∈ xs, x.2.2.length ≤ 16000) (hs : stepM xs.length r = none) : partsM bs = xs.map (·.2.2) := by
  unfold partsM
  rw [goM_run h (limitM bs) hc h16 (bs.length + 1) (by simp; omega)]
  conv => lhs; rhs; unfold goM
  rw [hs]
  simp
theorem parts_stop {bs : List Int} {xs : List Xp} {r p r' : List Int} (h : Run (bs.drop 20) xs r) (hc : (costM (xs.map (·.2.2)) : Int) ≤ limitM bs) (h16 : ∀ x ∈ xs, x.2.2.length ≤ 16000) (hs : stepM xs.length r = some (p, r')) (hf : fitsC p.length (limitM bs - costM (xs.map (·.2.2))) ≠ 0) : partsM bs = xs.map (·.2.2) := by
  unfold partsM
  rw [goM_run h (limitM bs) hc h16 (bs.length + 1) (by simp; omega)]
  conv => lhs; rhs; unfold goM
  rw [hs]
  dsimp only
  rw [if_neg hf]
  simp

/-- What hear answers of a log. -/
structure Heard (w : World) (bs : List Int) (A : Option Addr) (c : Nat) (w' : World) : Prop where
  parts : ∃ vs, PartsAt w' (fun k => w.heap.size ≤ k ∧ k < w'.heap.size) A c (partsM bs) vs
  bel : Below w.heap.size w w'
  fit : (costM (partsM bs) : Int) ≤ limitM bs

theorem run_snoc {bs : List Int} {xs : List Xp} {x : Xp} {r : List Int} (h : Run bs (xs ++ [x]) r) : ∃ r0, Run bs xs r0 ∧ stepM xs.length r0 = some (x.2.2, r) := by
  generalize hz : xs ++ [x] = zs at h
  cases h with
  | nil => simp at hz
  | @snoc ys r0 _ y h1 h2 =>
    obtain ⟨e1, e2⟩ := List.append_inj' hz rfl
    subst e1
    have e2 : x = y := by simpa using e2
    subst e2
    exact ⟨r0, h1, h2⟩

end Go.Proofs.YtienabfilnpieaaGreat
