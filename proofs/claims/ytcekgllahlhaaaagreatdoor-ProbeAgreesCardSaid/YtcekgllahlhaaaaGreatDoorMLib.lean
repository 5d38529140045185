/-
  LisCopy, LisCopied, LisChanged, LisSlots, LisParted, LisBuild.
-/
import Derived.Test.YtcekgllahlhaaaaGreatDoorMLis
import Derived.Deep.OwnRows
namespace Go.Proofs.YtcekgllahlhaaaaGreatDoor
open Go.RowKit Go.Shelf
open MskL (Mk Ms mv has mk Fine MRow MBox rightM slotB hasB cnt has_mk mk_congr mk_fine ofM ofE withM withW GivesM GivesME chkM)
set_option linter.unusedVariables false
set_option linter.unusedSimpArgs false
set_option maxRecDepth 100000

/-- Lists in a block of their own. -/
def LRow (W : World) (g : Nat) (A : Option Addr) (n c : Nat) (B : Option Addr) (m d : Nat) : Prop := W.heap[g]? = some (.cells #[.slice A n c, .slice B m d] 37 (0, 0))
section
variable {W W' : World} {g n c m d : Nat} {A B : Option Addr}
theorem LRow.lt (h : LRow W g A n c B m d) : g < W.heap.size := lt_of_block h
theorem LRow.box (h : LRow W g A n c B m d) : LBox W g A n c B m d := ⟨cell_of_row _ _ 0 _ _ (0, 0) h, cell_of_row _ _ 1 _ _ (0, 0) h⟩
theorem LRow.frozen (h : LRow W g A n c B m d) (i : Nat) : W.frozen? ⟨g, i, none⟩ = false := frozen_of_row _ _ _ _ _ h
theorem LRow.below {b : Nat} (h : LRow W g A n c B m d) (hb : Below b W W') (hg : g < b) : LRow W' g A n c B m d := (hb.block g hg).trans h
theorem LRow.turn {S : Nat → Prop} (h : LRow W g A n c B m d) (ht : Turn S W W') (hg : ¬ S g) : LRow W' g A n c B m d := (ht.block g h.lt hg).trans h
theorem LRow.new (W : World) (A : Option Addr) (n c : Nat) (B : Option Addr) (m d : Nat) : LRow (W.alloc (.cells #[.slice A n c, .slice B m d] 37)) W.heap.size A n c B m d := heap_alloc_new W _
theorem LRow.set0 (h : LRow W g A n c B m d) (A' : Option Addr) (n' c' : Nat) : LRow (W.setCell ⟨g, 0, none⟩ (.slice A' n' c')) g A' n' c' B m d := by
  have h1 : W.heap[g]? = some (.cells #[.slice A n c, .slice B m d] 37 (0, 0)) := h
  unfold LRow World.setCell
  simp only [Array.getElem?_modify, if_true, h1, Option.map_some]
  rfl
theorem LRow.set1 (h : LRow W g A n c B m d) (B' : Option Addr) (m' d' : Nat) : LRow (W.setCell ⟨g, 1, none⟩ (.slice B' m' d')) g A n c B' m' d' := by
  have h1 : W.heap[g]? = some (.cells #[.slice A n c, .slice B m d] 37 (0, 0)) := h
  unfold LRow World.setCell
  simp only [Array.getElem?_modify, if_true, h1, Option.map_some]
  rfl
theorem LRow.other (h : LRow W g A n c B m d) (p : Addr) (v : Value) (hp : g ≠ p.block) : LRow (W.setCell p v) g A n c B m d := (Below.heap_setCell W p v g hp).trans h
end
theorem own_blocks {w : World} {b1 b2 s1 s2 n1 n2 : Nat} {e1 e2 : TypeId} {v1 v2 : Value} {xs ys : List Value} (h1 : w.ownsRow b1 e1 s1 v1 n1 xs) (h2 : w.ownsRow b2 e2 s2 v2 n2 ys) (hne : e1 ≠ e2) : ∀ i, v1.ownBlock = some i → v2.ownBlock ≠ some i := by
  intro i hi ha
  rcases h1.2 with ⟨e, h0⟩ | ⟨g, cap, cur, e, hg, hh, _⟩
  · rw [e] at hi; cases hi
  · rcases h2.2 with ⟨e', _⟩ | ⟨g', cap', cur', e', _, hh', _⟩
    · rw [e'] at ha; cases ha
    · rw [e] at hi; rw [e'] at ha
      have h1 : g = i := by simpa [own_blk, blk] using hi
      have h2 : g' = i := by simpa [own_blk, blk] using ha
      subst h1 h2
      rw [hh] at hh'
      injection hh' with hh'
      injection hh' with _ ht _
      exact hne ht
theorem OwnVs.aside {base base' : Nat} {w w' : World} {A B : Option Addr} {c d : Nat} {q : List Pv} {M : List Mk} (h : OwnVs base w A c q) (hM : OwnM base' w B d M) (ht : Turn (fun i => blk B = some i) w w') : OwnVs base w' A c q :=
  ⟨h.row.turn ht (fun i hi hj => own_blocks h.row hM.1 (by decide) i (by rw [own_blk]; exact hi) (by rw [own_blk]; exact hj)), fun p hp => ⟨row_turn (h.el p hp).1 ht (fun i hi hj => own_blocks (h.el p hp).1 hM.1 (by decide) i hi (by rw [own_blk]; exact hj)), (h.el p hp).2⟩⟩

set_option maxHeartbeats 400000 in
theorem cloneMs_any (A : Option Addr) (c : Nat) (M : List Mk) (w : World) (h : Ms w A c M) (hbig : M.length ≤ 1000000) :
    Calls Tryz.prog 73 #[.slice A M.length c] w fun e w' => ∃ A1 c1, e = .returned (.slice A1 M.length c1) ∧ OwnM w.heap.size w' A1 c1 M ∧ Below w.heap.size w w' := by
  have q22 : ∀ (w : World) (a : Option Addr) (n c n' c' : Nat), (binOp .eql 35 (.slice a n c) (.slice none n' c')).run Tryz.prog w = .ok (.bool a.isNone) w := fun w a n c n' c' => Lib.run_eql_slice_nil w _ _ a n c n' c' Tryz.underlying35
  rcases A with _ | a
  · obtain rfl : M = [] := by
      rcases M with _ | ⟨x, xs⟩
      · rfl
      · obtain ⟨_, _, e, _⟩ := h.rd (by simp); cases e
    have HO := Lib.hid (OwnM.nil w.heap.size w)
    rw [List.length_nil]
    clear h
    go_enter Tryz.func73, Tryz.ntmps73
    go_wp2
    go_ret
    exact ⟨none, 0, rfl, HO.out, Below.refl _ _⟩
  · have HR := Lib.hid (Read.masks (h.below ((Below.refl _ w).alloc (Nat.le_refl _) (.cells #[] 70))))
    have HF := Lib.hid h.fine
    have HO := Lib.hid (World.ownsRow_made (base := w.heap.size) (size := 2) (e := 70) w #[] 0 (Nat.le_refl _) (Nat.zero_le _) rfl)
    generalize hn : M.length = n at *
    have HN := Lib.hid hn
    clear h hn
    go_enter Tryz.func73, Tryz.ntmps73
    go_wp2_with (at_builtin; refine gapp_at rfl (.tmp 5) (.tmp 6) appM rfl w.heap.size (some ⟨w.heap.size, 0, none⟩) 0 0 [] rfl HO.out (some a) c n (flatM M) rfl HR.out (by omega) (by simp) ?_; intro A1 c1 w1 ho hg _; have HO1 := Lib.hid ho; have HB1 := Lib.hid (show Below w.heap.size w w1 from ((Below.refl _ w).alloc (Nat.le_refl _) (.cells #[] 70)).grown hg (by simp) (fun k hk => Nat.le_of_eq (show w.heap.size = k by simpa [blk] using hk))); clear ho hg)
    go_ret
    refine ⟨A1, c1, rfl, ⟨?_, HF.out⟩, HB1.out⟩
    have := HO1.out
    rw [Nat.zero_add, List.nil_append] at this
    rw [HN.out]
    exact this

/-- What is copied so far: the lists in the block g, that was made last in wg. -/
def CpJ (g : Nat) (wg : World) (C : List (List Int)) (B : Option Addr) (m d : Nat) (k n : Nat) (A1 : Option Addr) (c1 : Nat) (wr : World) : Prop :=
  ∃ q, List.length q = n ∧ vals q = C.take k ∧ OwnVs (g + 1) wr A1 c1 q ∧ LRow wr g A1 n c1 B m d ∧ Turn (fun i => i = g) wg wr
theorem CpJ.step {g : Nat} {wg wr W V : World} {C : List (List Int)} {B A1 Bx : Option Addr} {m d k n c1 cb : Nat} {x : List Int} (h : CpJ g wg C B m d k n A1 c1 wr) (hgw : wg.heap.size = g + 1) (hx : C[k]? = some x) (hW : Below wr.heap.size wr W) (hv : OwnV wr.heap.size W Bx cb x)
    (hV : V = W.alloc (.cells #[.slice Bx x.length cb] 26)) :
    ∃ vs, Read V (some ⟨W.heap.size, 0, none⟩) 1 1 [.slice Bx x.length cb] ∧ V.ownsRow (g + 1) 26 1 (.slice A1 n c1) n vs ∧ g + 1 ≤ V.heap.size ∧ n ≤ k ∧
      ∀ A2 c2 W', W'.ownsRow (g + 1) 26 1 (.slice A2 (n + 1) c2) (n + 1) (vs ++ [.slice Bx x.length cb]) → V.grownBy W' (blk A1) → LRow W' g A1 n c1 B m d ∧ CpJ g wg C B m d (k + 1) (n + 1) A2 c2 (W'.setCell ⟨g, 0, none⟩ (.slice A2 (n + 1) c2)) := by
  obtain ⟨q, h1, h2, h3, h4, h5⟩ := h
  subst h1
  have hbV : Below W.heap.size W V := by rw [hV]; exact (Below.refl _ W).alloc (Nat.le_refl _) _
  have hb := hW.trans (hbV.mono hW.size)
  have hs := h5.size
  have hs1 := hW.size
  have hs2 := hbV.size
  refine ⟨flatV q, Read.one rfl (by rw [hV]; exact cell_laid _ _ _ 0), h3.row.below hb, by omega, ?_, fun A2 c2 W' hr hg => ?_⟩
  · rw [← vals_length, h2, List.length_take]; omega
  · have hlow := fun i (hi : blk A1 = some i) => (h3.row.low i hi).1
    have ht : Turn (fun i => blk A1 = some i) wr W' := (Turn.of_below (S := fun i => blk A1 = some i) hb).trans (Turn.of_grown hg (fun i hi => .inl hi)) (fun i hi => .inl hi)
    have hl' : LRow W' g A1 q.length c1 B m d := h4.turn ht (fun e => by have := hlow _ e; omega)
    have t5 := turn_set W' g 0 (.slice A2 (q.length + 1) c2)
    refine ⟨hl', q ++ [⟨x, Bx, cb⟩], by simp, ?_, ?_, hl'.set0 _ _ _, ?_⟩
    · rw [vals_append, h2, List.take_add_one, hx]; rfl
    · exact ((h3.below hb).snoc (p := ⟨x, Bx, cb⟩) ((hv.mono (show g + 1 ≤ wr.heap.size by omega)).below hbV) hr hg).turn t5 (fun i hi _ e => by omega)
    · have t6 : Turn (fun i => blk A1 = some i ∨ i = g) wr (W'.setCell ⟨g, 0, none⟩ (.slice A2 (q.length + 1) c2)) := (ht.mono (S' := fun i => blk A1 = some i ∨ i = g) (fun i hi => .inl hi)).trans t5 (fun i hi => .inl (.inr hi))
      exact h5.trans t6 (fun i hi => hi.elim (fun hi => .inr (by have := hlow _ hi; omega)) (fun hi => .inl hi))
def GivesO (w : World) (C : List (List Int)) (M : List Mk) (e : Ending) (w' : World) : Prop := ∃ A c q B d, e = .returned (lv A c (List.length q) B d M.length) ∧ vals q = C ∧ OwnVs w.heap.size w' A c q ∧ OwnM w.heap.size w' B d M ∧ Below w.heap.size w w'
def GivesOE (w : World) (C : List (List Int)) (M : List Mk) (E : Int) (e : Ending) (w' : World) : Prop := ∃ A c q B d, e = .returned (.tuple #[lv A c (List.length q) B d M.length, .int .i64 E]) ∧ vals q = C ∧ OwnVs w.heap.size w' A c q ∧ OwnM w.heap.size w' B d M ∧ Below w.heap.size w w'
theorem GivesOE.le {w w' : World} {C : List (List Int)} {M : List Mk} {E : Int} {e : Ending} (h : GivesOE w C M E e w') : GivesLE w C M E e w' := by
  obtain ⟨A, c, q, B, d, h1, h2, h3, h4, h5⟩ := h
  have hv := h3.vecs
  rw [h2] at hv
  exact ⟨A, c, B, d, by rw [h1, ← h2, vals_length], ⟨hv, h4.ms⟩, h5⟩
/-- Lists are laid into the block of a result. -/
theorem ret_lis {w X : World} {g base n m c d c' d' n' m' : Nat} {A B A' B' : Option Addr} {q : List Pv} {M : List Mk} (E : Int) (h : LRow X g A' n' c' B' m' d') (hb : Below w.heap.size w X) (hg : w.heap.size ≤ g) (hv : OwnVs base X A c q) (hm : OwnM base X B d M) (hgb : g < base) (hq : n = q.length) (hM : m = M.length) :
    (X.cell? ⟨g, 0, none⟩ = some (.slice A' n' c') ∧ X.cell? ⟨g, 1, none⟩ = some (.slice B' m' d') ∧ X.frozen? ⟨g, 0, none⟩ = false ∧ X.frozen? ⟨g, 1, none⟩ = false) ∧
    ((X.setCell ⟨g, 0, none⟩ (.slice A n c)).setCell ⟨g, 1, none⟩ (.slice B m d)).cell? ⟨g, 0, none⟩ = some (.slice A n c) ∧ ((X.setCell ⟨g, 0, none⟩ (.slice A n c)).setCell ⟨g, 1, none⟩ (.slice B m d)).cell? ⟨g, 1, none⟩ = some (.slice B m d) ∧
    GivesOE w (vals q) M E (.returned (.tuple #[.agg #[.slice A n c, .slice B m d], .int .i64 E])) ((X.setCell ⟨g, 0, none⟩ (.slice A n c)).setCell ⟨g, 1, none⟩ (.slice B m d)) := by
  subst hq hM
  have h2 := (h.set0 A q.length c).set1 B M.length d
  have ts := (turn_set X g 0 (.slice A q.length c)).trans (turn_set (X.setCell ⟨g, 0, none⟩ (.slice A q.length c)) g 1 (.slice B M.length d)) (fun i hi => .inl hi)
  exact ⟨⟨h.box.c0, h.box.c1, h.frozen 0, h.frozen 1⟩, h2.box.c0, h2.box.c1, A, c, q, B, d, rfl, rfl, (hv.turn ts (fun i hi _ e => by omega)).mono (by omega), (hm.turn ts (fun i hi e => by have := (hm.low i hi).1; omega)).mono (by omega), hb.trans (ts.below hb.size (fun i hi => by omega))⟩
theorem ret_nil {w X : World} {g c' d' n' m' : Nat} {A' B' : Option Addr} (E : Int) (h : LRow X g A' n' c' B' m' d') (hb : Below w.heap.size w X) (hg : w.heap.size ≤ g) :
    (X.cell? ⟨g, 0, none⟩ = some (.slice A' n' c') ∧ X.cell? ⟨g, 1, none⟩ = some (.slice B' m' d') ∧ X.frozen? ⟨g, 0, none⟩ = false ∧ X.frozen? ⟨g, 1, none⟩ = false) ∧
    ((X.setCell ⟨g, 0, none⟩ (.slice none 0 0)).setCell ⟨g, 1, none⟩ (.slice none 0 0)).cell? ⟨g, 0, none⟩ = some (.slice none 0 0) ∧ ((X.setCell ⟨g, 0, none⟩ (.slice none 0 0)).setCell ⟨g, 1, none⟩ (.slice none 0 0)).cell? ⟨g, 1, none⟩ = some (.slice none 0 0) ∧
    GivesOE w [] [] E (.returned (.tuple #[.agg #[.slice none 0 0, .slice none 0 0], .int .i64 E])) ((X.setCell ⟨g, 0, none⟩ (.slice none 0 0)).setCell ⟨g, 1, none⟩ (.slice none 0 0)) :=
  ret_lis (q := []) (M := []) E h hb hg (OwnVs.nil (g + 1) X) (OwnM.nil (g + 1) X) (by omega) rfl rfl
end Go.Proofs.YtcekgllahlhaaaaGreatDoor

namespace Go.Proofs.YtcekgllahlhaaaaGreatDoor
open Go.RowKit Go.Shelf
open MskL (Mk Ms mv has mk Fine MRow MBox rightM slotB hasB cnt has_mk mk_congr mk_fine ofM ofE withM withW GivesM GivesME chkM)
set_option linter.unusedVariables false
set_option linter.unusedSimpArgs false
set_option maxRecDepth 100000

set_option maxHeartbeats 8000000 in
theorem copiedL_any (A : Option Addr) (c : Nat) (C : List (List Int)) (B : Option Addr) (d : Nat) (M : List Mk) (w : World) (h : Lis w A c C B d M) (hC : C.length ≤ 1000000) (hs : ∀ x ∈ C, x.length ≤ 1000000) (hMl : M.length ≤ 1000000) :
    Calls Tryz.prog 42 #[lv A c C.length B d M.length] w (GivesO w C M) := by
  obtain ⟨g0, hg0⟩ : ∃ g0, g0 = w.heap.size := ⟨_, rfl⟩
  obtain ⟨n, hn⟩ : ∃ n, n = C.length := ⟨_, rfl⟩
  obtain ⟨m, hm⟩ : ∃ m, m = M.length := ⟨_, rfl⟩
  obtain ⟨W0, hW0⟩ : ∃ W0, W0 = (w.alloc (.cells #[.slice A n c, .slice B m d] 37)).alloc (.cells #[.slice none 0 0, .slice none 0 0] 37) := ⟨_, rfl⟩
  have hb0 : Below w.heap.size w W0 := by rw [hW0]; exact ((Below.refl _ w).alloc (Nat.le_refl _) _).alloc (by simp) _
  have hl0 : LRow W0 g0 A n c B m d := by rw [hW0, hg0]; exact (LRow.new w A n c B m d).below ((Below.refl _ _).alloc (Nat.le_refl _) _) (by simp)
  have hr0 : LRow W0 (g0 + 1) none 0 0 none 0 0 := by
    rw [hW0, hg0]; have := LRow.new (w.alloc (.cells #[.slice A n c, .slice B m d] 37)) none 0 0 none 0 0
    rwa [World.size_alloc] at this
  have HCl := Lib.hid (cloneMs_any B d M W0 (h.ms.below hb0) hMl)
  have hcm : c ≤ 9223372036854775807 := h.cs.most
  have hnc : n ≤ c := by rw [hn]; exact h.cs.room
  rw [← hm] at HCl hMl
  rw [← hn] at hC
  have HQ := Lib.hid h.cs
  have HN := Lib.hid hn
  have HM := Lib.hid hm
  have HS := Lib.hid hs
  have HB0 := Lib.hid hb0
  have HL0 := Lib.hid (And.intro hl0 hr0)
  have HW0 := Lib.hid hW0
  have HG := Lib.hid hg0
  have x1 := hl0.box.c1
  have x0 := hl0.box.c0
  rw [← hn, ← hm]
  clear h hs hn hm hb0 hW0 hl0 hr0 hg0
  unfold lv
  go_enter Tryz.func42, Tryz.ntmps42
  go_wp2_with (rw [← HW0.out, ← HG.out])
  refine HCl.out.mono ?_
  rintro e w1 ⟨B1, d1, rfl, hO1, hb1⟩
  obtain ⟨g, hg⟩ : ∃ g, g = w1.heap.size := ⟨_, rfl⟩
  obtain ⟨wg, hwg⟩ : ∃ wg, wg = w1.alloc (.cells #[.slice none 0 0, .slice B1 m d1] 37) := ⟨_, rfl⟩
  have hb1g : Below w1.heap.size w1 wg := by rw [hwg]; exact (Below.refl _ _).alloc (Nat.le_refl _) _
  have hbg : Below W0.heap.size W0 wg := hb1.trans (hb1g.mono hb1.size)
  have hlg : LRow wg g none 0 0 B1 m d1 := by rw [hwg, hg]; exact LRow.new _ _ _ _ _ _ _
  have hzg : wg.heap.size = g + 1 := by rw [hwg, hg]; simp
  have hl0 := HL0.out.1.below hbg HL0.out.1.lt
  have y0 := hl0.box.c0
  have hsz : g0 + 1 < g := by have := HL0.out.2.lt; have := hb1.size; omega
  have hgw : w.heap.size ≤ g := by rw [← HG.out]; omega
  have HBl := Lib.hid (fun (X : World) (hX : Turn (fun i => i = g) wg X) => show Below w.heap.size w X from (HB0.out.trans (hbg.mono HB0.out.size)).trans (hX.below (by rw [hzg]; omega) (fun i hi => by omega)))
  have HRs := Lib.hid (fun (X : World) (hX : Turn (fun i => i = g) wg X) => show LRow X (g0 + 1) none 0 0 none 0 0 from (HL0.out.2.below hbg HL0.out.2.lt).turn hX (by omega))
  have HOm := Lib.hid (fun (X : World) (hX : Turn (fun i => i = g) wg X) => show OwnM w.heap.size X B1 d1 M from ((hO1.below hb1g).turn hX (fun i hi e => by have := (hO1.low i hi).2; omega)).mono HB0.out.size)
  have H0 := Lib.hid (show CpJ g wg C B1 m d1 0 0 none 0 wg from ⟨[], rfl, by simp [vals], OwnVs.nil _ _, hlg, Turn.refl _ _⟩)
  have HZ := Lib.hid (And.intro hzg hsz)
  have HWg := Lib.hid hwg
  have HGe := Lib.hid hg
  clear hO1 hb1 hb1g hbg hlg hzg hl0 hsz hgw hwg hg x0 x1
  go_wp2_with (rw [← HWg.out, ← HGe.out])
  go_loopw [5, 13] (fun v i wr => ∃ k n1 A1 c1, k ≤ n ∧ i = .int .i64 (k : Nat) ∧ Hid (CpJ g wg C B1 m d1 k n1 A1 c1 wr)) (fun _ i _ => n - (intOf i).toNat)
  case atStart => exact ⟨0, 0, none, 0, Nat.zero_le _, rfl, H0⟩
  case round =>
    obtain ⟨k, n1, A1, c1, hk, rfl, HI⟩ := hrel
    by_cases hkn : k < n
    · obtain ⟨q, q1, q2, q3, q4, q5⟩ := HI.out
      obtain ⟨b, o, x, Bx, cb, rfl, hx, hb, cx, hv⟩ := (HQ.out.below (HBl.out _ q5)).at_ (i := k) (by rw [← HN.out]; exact hkn)
      have hv' : Vec .i32 wr.drew Bx cb x := hv.below (below_drew (Below.refl _ _))
      have HC := Lib.hid (clone_any Bx cb x wr.drew hv' (HS.out x (List.mem_of_getElem? hx)))
      have HX := Lib.hid hx
      have k0 : (0 : Int) ≤ k := by omega
      have kn : (k : Int) < n := by omega
      obtain ⟨xl, hxl⟩ : ∃ xl, xl = x.length := ⟨_, rfl⟩
      have HXL := Lib.hid hxl
      rw [← hxl] at HC cx
      have HLr := Lib.hid q4
      have HSx := Lib.hid (fun (X : World) (hX : LRow X g A1 n1 c1 B1 m d1) => show X.cell? ⟨g, 0, none⟩ = some (.slice A1 n1 c1) ∧ X.frozen? ⟨g, 0, none⟩ = false from ⟨hX.box.c0, hX.frozen 0⟩)
      have HLb := Lib.hid (fun (X Y : World) (hX : LRow X g A1 n1 c1 B1 m d1) (hb : Below X.heap.size X Y) => show LRow Y g A1 n1 c1 B1 m d1 from hX.below hb hX.lt)
      obtain ⟨s0, s1⟩ := HSx.out wr q4
      clear q q1 q2 q3 q4 q5 hv hv' hx hxl hb
      go_upto_region 5 with fail
      obtain ⟨s2, s3⟩ := HSx.out wr.drew HLr.out
      go_region_law (first
        | (go_simp; go_at_call 74; (with_reducible refine HC.out.mono ?_); rintro e w2 ⟨B2, c2, rfl, hv2, hb2⟩; have HL1 := Lib.hid (HLb.out wr w2 HLr.out ((below_drew (Below.refl _ _)).trans hb2)); obtain ⟨u0, u1⟩ := HSx.out _ HL1.out; obtain ⟨u2, u3⟩ := HSx.out _ (HLb.out _ _ HL1.out ((Below.refl _ _).alloc (Nat.le_refl _) (.cells #[.slice B2 xl c2] 26))); obtain ⟨V, hV⟩ : ∃ V, V = w2.alloc (.cells #[.slice B2 xl c2] 26) := ⟨_, rfl⟩; obtain ⟨vs, r1, r2, r3, r4, r5⟩ := HI.out.step (V := V) HZ.out.1 HX.out ((below_drew (Below.refl _ _)).trans hb2) (hv2.mono (Nat.le_refl _)) (by rw [← HXL.out]; exact hV); rw [← HXL.out] at r1 r5; subst hV; have HR := Lib.hid r1; have HO := Lib.hid r2; have HN5 := Lib.hid r5; clear hv2 hb2 r1 r2 r5)
        | (refine gapp_step (by rfl) _ _ appV (by rfl) (g + 1) A1 c1 n1 vs (by rfl) HO.out (some ⟨w2.heap.size, 0, none⟩) 1 1 [.slice B2 xl c2] (by rfl) HR.out (by omega) r3 ?_; intro A5 c5 w4 ho hg _; have HN4 := Lib.hid (HN5.out A5 c5 w4 ho hg).2; obtain ⟨k1, k2⟩ := HSx.out _ (HN5.out A5 c5 w4 ho hg).1; clear ho hg))
      all_goals (
        go_wp2
        go_roundw
        case rel => exact ⟨k + 1, n1 + 1, A5, c5, by omega, by go_num, HN4⟩
        case measure => simp [intOf]; omega)
    · obtain rfl : k = n := by omega
      have HT := Lib.hid (show C.take k = C by rw [HN.out, List.take_length])
      obtain ⟨q, q1, q2, q3, q4, q5⟩ := HI.out
      have s0 := q4.box.c0
      have s1 := q4.box.c1
      have hr := HRs.out wr q5
      have r0 := hr.box.c0
      have r1 := hr.box.c1
      have f0 := hr.frozen 0
      have f1 := hr.frozen 1
      have hr2 := (hr.set0 A1 n1 c1).set1 B1 m d1
      have u0 := hr2.box.c0
      have u1 := hr2.box.c1
      have ts := (turn_set wr (g0 + 1) 0 (.slice A1 n1 c1)).trans (turn_set (wr.setCell ⟨g0 + 1, 0, none⟩ (.slice A1 n1 c1)) (g0 + 1) 1 (.slice B1 m d1)) (fun i hi => .inl hi)
      have HF := Lib.hid (show GivesO w C M (.returned (lv A1 c1 n1 B1 d1 m)) ((wr.setCell ⟨g0 + 1, 0, none⟩ (.slice A1 n1 c1)).setCell ⟨g0 + 1, 1, none⟩ (.slice B1 m d1)) from by
        have hz := HZ.out
        have hgw : w.heap.size ≤ g0 + 1 := by rw [← HG.out]; omega
        refine ⟨A1, c1, q, B1, d1, by rw [q1, HM.out], by rw [q2, HT.out], (q3.turn ts (fun i hi _ e => by omega)).mono (by omega), (HOm.out wr q5).turn ts (fun i hi e => ?_), (HBl.out wr q5).trans (ts.below (HBl.out wr q5).size (fun i hi => by omega))⟩
        subst e
        have h1 := own_blocks (HOm.out wr q5).1 (show wr.ownsRow 0 37 2 (.slice (some ⟨g0 + 1, 0, none⟩) 1 1) 1 [.slice none 0 0, .slice none 0 0] from ⟨rfl, .inr ⟨g0 + 1, 1, _, rfl, Nat.zero_le _, hr, Nat.le_refl _, by decide, rfl, rfl⟩⟩) (by decide) (g0 + 1) (by rw [own_blk]; exact hi)
        exact h1 rfl)
      clear q1 q2 q3 q4 q5 hr hr2 ts
      go_wp2
      exact bodyPost_ret (v := .agg #[.slice A1 n1 c1, .slice B1 m d1]) (by simp [results, Tryz.results42, go_sem, u0, u1]) rfl HF.out
end Go.Proofs.YtcekgllahlhaaaaGreatDoor

namespace Go.Proofs.YtcekgllahlhaaaaGreatDoor
open Go.RowKit Go.Shelf
open MskL (Mk Ms mv has mk Fine MRow MBox rightM slotB hasB cnt has_mk mk_congr mk_fine ofM ofE withM withW GivesM GivesME chkM)
set_option linter.unusedVariables false
set_option linter.unusedSimpArgs false
set_option maxRecDepth 100000

/-- The first k masks turned. -/
def mapTo (F : Nat → Mk → Mk) (M : List Mk) (k : Nat) : List Mk := (List.range M.length).map fun i => if i < k then F i (M.getD i mz) else M.getD i mz
theorem mapTo_len (F : Nat → Mk → Mk) (M : List Mk) (k : Nat) : (mapTo F M k).length = M.length := by simp [mapTo]
theorem mapTo_get (F : Nat → Mk → Mk) (M : List Mk) (k : Nat) {i : Nat} {m : Mk} (h : M[i]? = some m) : (mapTo F M k)[i]? = some (if i < k then F i m else m) := by
  have hi := (List.getElem?_eq_some_iff.1 h).1
  unfold mapTo
  simp [-List.getD_eq_getElem?_getD, hi, mgetD h]
theorem mapTo_zero (F : Nat → Mk → Mk) (M : List Mk) : mapTo F M 0 = M := by
  refine List.ext_getElem? (fun i => ?_)
  cases h : M[i]? with
  | none =>
    have : (mapTo F M 0).length ≤ i := by rw [mapTo_len]; exact List.getElem?_eq_none_iff.1 h
    exact List.getElem?_eq_none this
  | some m => rw [mapTo_get F M 0 h]; simp
theorem mapTo_succ (F : Nat → Mk → Mk) (M : List Mk) {k : Nat} {m : Mk} (h : M[k]? = some m) : mapTo F M (k + 1) = (mapTo F M k).set k (F k m) := by
  have hk := (List.getElem?_eq_some_iff.1 h).1
  refine List.ext_getElem? (fun i => ?_)
  cases h1 : M[i]? with
  | none =>
    have h2 : M.length ≤ i := List.getElem?_eq_none_iff.1 h1
    rw [List.getElem?_eq_none (by rw [mapTo_len]; exact h2), List.getElem?_eq_none (by rw [List.length_set, mapTo_len]; exact h2)]
  | some x =>
    rw [mapTo_get F M (k + 1) h1, List.getElem?_set, mapTo_len]
    by_cases e : k = i
    · subst e
      rw [h] at h1
      cases h1
      simp [hk]
    · rw [if_neg e, mapTo_get F M k h1]
      have : i < k + 1 ↔ i < k := by omega
      simp [this]
/-- A function handed in that turns a mask, and tells no error. -/
def PredF (fid : FuncId) (cap : Array Value) (F : Nat → Mk → Mk) (M : List Mk) (w : World) : Prop := ∀ (k : Nat) (m : Mk) (X : World), M[k]? = some m → Fine m → Below w.heap.size w X → Fine (F k m) ∧ Calls Tryz.prog fid (#[.int .i64 k, mv m] ++ cap) X (GivesME X (F k m) 0)

set_option maxHeartbeats 8000000 in
theorem changed_any (A : Option Addr) (c : Nat) (C : List (List Int)) (B : Option Addr) (d : Nat) (M : List Mk) (fid : FuncId) (cap : Array Value) (F : Nat → Mk → Mk) (w : World) (h : Lis w A c C B d M) (hC : C.length ≤ 1000000) (hs : ∀ x ∈ C, x.length ≤ 1000000) (hMl : M.length ≤ 1000000)
    (hen : ∀ v u W, (callFunc fid (#[v, u] ++ cap)).run Tryz.prog W = .ok (.enter fid (#[v, u] ++ cap)) W) (hp : PredF fid cap F M w) :
    Calls Tryz.prog 18 #[lv A c C.length B d M.length, .func (.func fid) #[] cap] w (GivesOE w C (mapTo F M M.length) 0) := by
  obtain ⟨g0, hg0⟩ : ∃ g0, g0 = w.heap.size := ⟨_, rfl⟩
  obtain ⟨n, hn⟩ : ∃ n, n = C.length := ⟨_, rfl⟩
  obtain ⟨m, hm⟩ : ∃ m, m = M.length := ⟨_, rfl⟩
  obtain ⟨W0, hW0⟩ : ∃ W0, W0 = (w.alloc (.cells #[.slice A n c, .slice B m d] 37)).alloc (.cells #[.slice none 0 0, .slice none 0 0] 37) := ⟨_, rfl⟩
  have hb0 : Below w.heap.size w W0 := by rw [hW0]; exact ((Below.refl _ w).alloc (Nat.le_refl _) _).alloc (by simp) _
  have hl0 : LRow W0 g0 A n c B m d := by rw [hW0, hg0]; exact (LRow.new w A n c B m d).below ((Below.refl _ _).alloc (Nat.le_refl _) _) (by simp)
  have hr0 : LRow W0 (g0 + 1) none 0 0 none 0 0 := by
    rw [hW0, hg0]; have := LRow.new (w.alloc (.cells #[.slice A n c, .slice B m d] 37)) none 0 0 none 0 0
    rwa [World.size_alloc] at this
  have HCp := Lib.hid (copiedL_any A c C B d M W0 (h.below hb0) hC hs hMl)
  rw [← hn, ← hm] at HCp
  rw [← hm] at hMl
  have HN := Lib.hid hn
  have HM := Lib.hid hm
  have HB0 := Lib.hid hb0
  have HL0 := Lib.hid hr0
  have HW0 := Lib.hid hW0
  have HG := Lib.hid hg0
  have HPr := Lib.hid hp
  have x0 := hl0.box.c0
  have x1 := hl0.box.c1
  have HGF := Lib.hid (fun (e : Ending) (w' : World) (hh : GivesOE w C (mapTo F M M.length) 0 e w') => hh)
  rw [← hn, ← hm]
  rw [← hm] at HGF
  clear h hs hC hn hb0 hW0 hl0 hr0 hg0 hp hm
  unfold lv at *
  go_enter Tryz.func18, Tryz.ntmps18
  go_wp2_with (rw [← HW0.out, ← HG.out])
  refine HCp.out.mono ?_
  rintro e w1 ⟨A1, c1, q, B1, d1, rfl, hq, hOv, hOm, hb1⟩
  have hqn : q.length = n := by rw [← vals_length, hq, HN.out]
  rw [hqn, ← HM.out]
  obtain ⟨g, hg⟩ : ∃ g, g = w1.heap.size := ⟨_, rfl⟩
  obtain ⟨wg, hwg⟩ : ∃ wg, wg = w1.alloc (.cells #[.slice A1 n c1, .slice B1 m d1] 37) := ⟨_, rfl⟩
  have hb1g : Below w1.heap.size w1 wg := by rw [hwg]; exact (Below.refl _ _).alloc (Nat.le_refl _) _
  have hbg : Below W0.heap.size W0 wg := hb1.trans (hb1g.mono hb1.size)
  have hlg : LRow wg g A1 n c1 B1 m d1 := by rw [hwg, hg]; exact LRow.new _ _ _ _ _ _ _
  have hOm' : OwnM W0.heap.size wg B1 d1 M := hOm.below hb1g
  have hOv' : OwnVs W0.heap.size wg A1 c1 q := hOv.below hb1g
  have hlow := fun i (hi : blk B1 = some i) => hOm.low i hi
  have hrg := HL0.out.below hbg HL0.out.lt
  have HBl := Lib.hid (fun (X : World) (hX : Turn (fun i => blk B1 = some i) wg X) => show Below w.heap.size w X from (HB0.out.trans (hbg.mono HB0.out.size)).trans (hX.below (HB0.out.trans (hbg.mono HB0.out.size)).size (fun i hi => Nat.le_trans HB0.out.size (hlow i hi).1)))
  have HLg := Lib.hid (fun (X : World) (hX : Turn (fun i => blk B1 = some i) wg X) => show LRow X g A1 n c1 B1 m d1 ∧ LRow X (g0 + 1) none 0 0 none 0 0 from ⟨hlg.turn hX (fun e => by have := (hlow _ e).2; omega), hrg.turn hX (fun e => by have := (hlow _ e).1; have := HL0.out.lt; omega)⟩)
  have HOv := Lib.hid (fun (X : World) (hX : Turn (fun i => blk B1 = some i) wg X) => show OwnVs W0.heap.size X A1 c1 q from hOv'.aside hOm' hX)
  have H0 := Lib.hid (show OwnM W0.heap.size wg B1 d1 (mapTo F M 0) from by rw [mapTo_zero]; exact hOm')
  have HQ := Lib.hid (And.intro hq hqn)
  have HWg := Lib.hid hwg
  have HGe := Lib.hid hg
  have HGg := Lib.hid (show g0 + 1 < g by have := HL0.out.lt; have := hb1.size; omega)
  clear hq hqn hOv hOm hb1 hb1g hbg hlg hOm' hOv' hlow hrg hwg hg x0 x1
  obtain ⟨y0, y1⟩ := (HLg.out wg (Turn.refl _ _)).1.box
  unfold lv
  go_wp2_with (rw [← HWg.out, ← HGe.out])
  clear y0 y1
  go_loopw [7, 8, 9, 10, 16, 21] (fun _ _ _ _ i _ wr => ∃ k, k ≤ m ∧ i = .int .i64 (k : Nat) ∧ Hid (OwnM W0.heap.size wr B1 d1 (mapTo F M k) ∧ Turn (fun i => blk B1 = some i) wg wr)) (fun _ _ _ _ i _ _ => m - (intOf i).toNat)
  case atStart => exact ⟨0, Nat.zero_le _, rfl, Lib.hid ⟨H0.out, Turn.refl _ _⟩⟩
  case round =>
    obtain ⟨k, hk, rfl, HI⟩ := hrel
    by_cases hkm : k < m
    · obtain ⟨x, hx⟩ : ∃ x, M[k]? = some x := ⟨_, List.getElem?_eq_getElem (by rw [← HM.out]; exact hkm)⟩
      have hxk := mapTo_get F M k hx
      rw [if_neg (Nat.lt_irrefl _)] at hxk
      have hfx : Fine x := HI.out.1.2 x (List.mem_of_getElem? hxk)
      obtain ⟨gB, rfl, hgB, hlt, hroom, d0, e0, f0, f1⟩ := HI.out.1.at_ hxk
      rw [mapTo_len, ← HM.out] at hroom
      have hd1 : d1 ≤ 9223372036854775807 := by have := HI.out.1.ms.most; omega
      have k0 : (0 : Int) ≤ k := by omega
      have km : (k : Int) < m := by omega
      obtain ⟨V, hV⟩ : ∃ V, V = wr.alloc (.cells #[.int .u64 x.1, .int .u64 x.2] 70) := ⟨_, rfl⟩
      obtain ⟨t, ht⟩ : ∃ t, t = wr.heap.size := ⟨_, rfl⟩
      have hbV : Below wr.heap.size wr V := by rw [hV]; exact (Below.refl _ _).alloc (Nat.le_refl _) _
      have hrV : MRow V t x.1 x.2 := by rw [hV, ht]; exact MRow.new wr _ _
      have hTV : Turn (fun i => blk (some (⟨gB, 0, none⟩ : Addr)) = some i) wg V := HI.out.2.trans (Turn.of_below (S := fun _ => False) hbV) (fun i hi => hi.elim)
      obtain ⟨hfF, hCall⟩ := HPr.out k x V hx hfx (HBl.out V hTV)
      have z0 := hrV.cell0
      have z1 := hrV.cell1
      have HCall := Lib.hid hCall
      obtain ⟨y, hy⟩ : ∃ y, y = F k x := ⟨_, rfl⟩
      rw [← hy] at hfF HCall
      have HNx := Lib.hid (fun (X : World) (hX : Below V.heap.size V X) => show ((X.cell? ⟨gB, k * 2, none⟩ = some (.int .u64 x.1) ∧ X.cell? ⟨gB, k * 2 + 1, none⟩ = some (.int .u64 x.2)) ∧ (X.frozen? ⟨gB, k * 2, none⟩ = false ∧ X.frozen? ⟨gB, k * 2 + 1, none⟩ = false)) ∧ (X.cell? ⟨g, 1, none⟩ = some (.slice (some ⟨gB, 0, none⟩) m d1)) ∧
          (OwnM W0.heap.size ((X.setCell ⟨gB, k * 2, none⟩ (.int .u64 y.1)).setCell ⟨gB, k * 2 + 1, none⟩ (.int .u64 y.2)) (some ⟨gB, 0, none⟩) d1 (mapTo F M (k + 1)) ∧ Turn (fun i => blk (some (⟨gB, 0, none⟩ : Addr)) = some i) wg ((X.setCell ⟨gB, k * 2, none⟩ (.int .u64 y.1)).setCell ⟨gB, k * 2 + 1, none⟩ (.int .u64 y.2))) from by
        have hbX := hbV.trans (hX.mono hbV.size)
        have hTX : Turn (fun i => blk (some (⟨gB, 0, none⟩ : Addr)) = some i) wg X := HI.out.2.trans (Turn.of_below (S := fun _ => False) hbX) (fun i hi => hi.elim)
        have hO := HI.out.1.below hbX
        obtain ⟨gB', e1, _, _, _, u0, u1, u2, u3⟩ := hO.at_ hxk
        injection e1 with e1
        injection e1 with e1
        subst e1
        refine ⟨⟨⟨u0, u1⟩, u2, u3⟩, (HLg.out X hTX).1.box.c1, ?_, hTX.trans (set2_turn X gB (k * 2) (k * 2 + 1) _ _) (fun i hi => .inl (by simp [blk]; exact hi.symm))⟩
        rw [mapTo_succ F M hx, ← hy]
        exact hO.put k y (by rw [mapTo_len, ← HM.out]; exact hkm) hfF)
      obtain ⟨w0, w1x⟩ := (HLg.out wr HI.out.2).1.box
      have HV := Lib.hid hV
      have HT := Lib.hid ht
      have HTs := Lib.hid (show t < V.heap.size from hrV.lt)
      unfold GivesME mv at HCall
      clear hx hxk hfx hgB hlt hbV hrV hTV hfF hCall hV ht hy
      go_wp2_with (rw [← HV.out, ← HT.out])
      clear d0 e0 f0 f1
      refine HCall.out.mono ?_
      rintro e w3 ⟨rfl, hb3⟩
      obtain ⟨Y, hY⟩ : ∃ Y, Y = w3.alloc (.cells #[.int .u64 y.1, .int .u64 y.2] 70) := ⟨_, rfl⟩
      obtain ⟨s, hs⟩ : ∃ s, s = w3.heap.size := ⟨_, rfl⟩
      have hbY : Below V.heap.size V Y := by rw [hY]; exact hb3.alloc hb3.size _
      have hrY : MRow Y s y.1 y.2 := by rw [hY, hs]; exact MRow.new w3 _ _
      obtain ⟨⟨⟨u0, u1⟩, u2, u3⟩, u4, hO2, hT2⟩ := HNx.out Y hbY
      have v0 := hrY.cell0
      have v1 := hrY.cell1
      have HI2 := Lib.hid (And.intro hO2 hT2)
      have HY := Lib.hid hY
      have HSe := Lib.hid hs
      clear hb3 hbY hrY hY hs hO2 hT2 z0 z1 w0 w1x
      go_wp2_with (rw [← HY.out, ← HSe.out])
      go_roundw
      case rel => exact ⟨k + 1, by omega, by go_num, HI2⟩
      case measure => simp [intOf]; omega
    · obtain rfl : k = m := by omega
      obtain ⟨hl, hr⟩ := HLg.out wr HI.out.2
      have s0 := hl.box.c0
      have s1 := hl.box.c1
      have r0 := hr.box.c0
      have r1 := hr.box.c1
      have f0 := hr.frozen 0
      have f1 := hr.frozen 1
      have hr2 := (hr.set0 A1 n c1).set1 B1 k d1
      have u0 := hr2.box.c0
      have u1 := hr2.box.c1
      have HF := Lib.hid (show GivesOE w C (mapTo F M k) 0 (.returned (.tuple #[lv A1 c1 n B1 d1 k, .int .i64 0])) ((wr.setCell ⟨g0 + 1, 0, none⟩ (.slice A1 n c1)).setCell ⟨g0 + 1, 1, none⟩ (.slice B1 k d1)) from by
        have h1 := (ret_lis (w := w) (n := n) (m := k) 0 hr (HBl.out wr HI.out.2) (by rw [← HG.out]; omega) (HOv.out wr HI.out.2) HI.out.1 HL0.out.lt HQ.out.2.symm (by rw [mapTo_len, HM.out])).2.2.2
        rw [HQ.out.1] at h1
        exact h1)
      unfold lv at HF
      clear hl hr hr2
      go_wp2
      exact bodyPost_ret (v := .tuple #[.agg #[.slice A1 n c1, .slice B1 k d1], .int .i64 0]) (by simp [results, Tryz.results18, go_sem, u0, u1]) rfl HF.out
end Go.Proofs.YtcekgllahlhaaaaGreatDoor

namespace Go.Proofs.YtcekgllahlhaaaaGreatDoor
open Go.RowKit Go.Shelf
open MskL (Mk Ms mv has mk Fine MRow MBox rightM slotB hasB cnt has_mk mk_congr mk_fine ofM ofE withM withW GivesM GivesME chkM)
set_option linter.unusedVariables false
set_option linter.unusedSimpArgs false
set_option maxRecDepth 100000

/-! ### which slots -/
def slotsTo (C : List (List Int)) (l : List Ce) (k : Nat) : List (List Int) := (List.range C.length).map fun p => ((List.range k).filter (inP C l p)).map fun (j : Nat) => (j : Int)
theorem slotsTo_len (C : List (List Int)) (l : List Ce) (k : Nat) : (slotsTo C l k).length = C.length := by simp [slotsTo]
theorem slotsTo_get (C : List (List Int)) (l : List Ce) (k : Nat) {p : Nat} (hp : p < C.length) : (slotsTo C l k)[p]? = some (((List.range k).filter (inP C l p)).map fun (j : Nat) => (j : Int)) := by
  unfold slotsTo
  simp [hp]
theorem slotsTo_no {C : List (List Int)} {l : List Ce} {k : Nat} (h : (ceAt l k).u = false) : slotsTo C l (k + 1) = slotsTo C l k := by
  unfold slotsTo
  refine List.map_congr_left (fun p _ => ?_)
  rw [List.range_succ, List.filter_append]
  simp [inP, h]
theorem slotsTo_yes {C : List (List Int)} {l : List Ce} {k P : Nat} (h : (ceAt l k).u = true) (hP : nearM C (ceAt l k).x = P) (hPc : P < C.length) {y : List Int} (hy : (slotsTo C l k)[P]? = some y) : slotsTo C l (k + 1) = (slotsTo C l k).set P (y ++ [(k : Int)]) := by
  refine List.ext_getElem? (fun p => ?_)
  by_cases hp : p < C.length
  · rw [slotsTo_get C l (k + 1) hp, List.getElem?_set, slotsTo_len, List.range_succ, List.filter_append, List.map_append]
    by_cases e : P = p
    · subst e
      rw [slotsTo_get C l k hp] at hy
      injection hy with hy
      rw [if_pos rfl, if_pos hp, ← hy]
      simp [inP, h, hP]
    · rw [if_neg e, slotsTo_get C l k hp]
      simp [inP, h, hP, e]
  · rw [List.getElem?_eq_none (by rw [slotsTo_len]; omega), List.getElem?_eq_none (by rw [List.length_set, slotsTo_len]; omega)]
theorem slotsTo_zero (C : List (List Int)) (l : List Ce) : slotsTo C l 0 = List.replicate C.length [] := by
  unfold slotsTo
  refine List.ext_getElem? (fun p => ?_)
  by_cases hp : p < C.length <;> simp [hp]

/-! ### rows of slots -/
structure Pn where
  x : List Int
  B : Option Addr
  c : Nat
def valN (q : List Pn) : List (List Int) := q.map (·.x)
def flatN (q : List Pn) : List Value := q.map fun p => .slice p.B p.x.length p.c
theorem valN_at {q : List Pn} {i : Nat} {p : Pn} (h : q[i]? = some p) : (valN q)[i]? = some p.x := by simp [valN, h]
theorem flatN_at {q : List Pn} {i : Nat} {p : Pn} (h : q[i]? = some p) : (flatN q)[i]? = some (.slice p.B p.x.length p.c) := by simp [flatN, h]
theorem valN_set (q : List Pn) (k : Nat) (p : Pn) : valN (q.set k p) = (valN q).set k p.x := by simp [valN, List.map_set]
theorem flatN_set (q : List Pn) (k : Nat) (p : Pn) : flatN (q.set k p) = (flatN q).set k (.slice p.B p.x.length p.c) := by simp [flatN, List.map_set]
theorem OwnN.turn {S : Nat → Prop} {base : Nat} {w w' : World} {A : Option Addr} {c : Nat} {xs : List Int} (h : OwnN base w A c xs) (ht : Turn S w w') (hS : ∀ i, blk A = some i → ¬ S i) : OwnN base w' A c xs := ⟨row_turn h.1 ht (fun i hi => hS i (by rw [own_blk] at hi; exact hi)), h.2⟩
/-- A row of rows of slots, each with memory of its own. -/
structure SlN (base : Nat) (w : World) (g : Nat) (q : List Pn) : Prop where
  row : w.ownsRow base 53 1 (.slice (some ⟨g, 0, none⟩) q.length q.length) q.length (flatN q)
  el : ∀ (i : Nat) p, q[i]? = some p → OwnN base w p.B p.c p.x
  apart : ∀ (i j : Nat) (p r : Pn), q[i]? = some p → q[j]? = some r → i ≠ j → ∀ b, blk p.B = some b → blk r.B ≠ some b
theorem SlN.below {base : Nat} {w w' : World} {g : Nat} {q : List Pn} (h : SlN base w g q) (hb : Below w.heap.size w w') : SlN base w' g q :=
  ⟨row_turn h.row (Turn.of_below (S := fun _ => False) hb) (fun _ _ e => e), fun i p hp => (h.el i p hp).below hb, h.apart⟩
theorem SlN.at_ {base : Nat} {w : World} {g : Nat} {q : List Pn} (h : SlN base w g q) {i : Nat} {p : Pn} (hp : q[i]? = some p) : w.cell? ⟨g, i, none⟩ = some (.slice p.B p.x.length p.c) ∧ w.frozen? ⟨g, i, none⟩ = false := by
  have hl := (List.getElem?_eq_some_iff.1 hp).1
  exact ⟨by rw [World.ownsRow.cellAt h.row i (by omega), flatN_at hp], World.ownsRow.frozenAt h.row i⟩
theorem SlN.vecs {base : Nat} {w : World} {g : Nat} {q : List Pn} (h : SlN base w g q) (hm : q.length ≤ 1000) : Vecs .i64 w (some ⟨g, 0, none⟩) q.length (valN q) := by
  refine ⟨by simp [valN], by omega, fun hp => ⟨g, 0, rfl, ?_, fun i x hx => ?_⟩⟩
  · have h1 := h.row.lt g (by rfl)
    exact h1.2
  · have hl : i < q.length := by have := (List.getElem?_eq_some_iff.1 hx).1; simpa [valN] using this
    have hp := List.getElem?_eq_getElem hl
    have hv := valN_at hp
    rw [hx] at hv
    injection hv with hv
    rw [Nat.zero_add, (h.at_ hp).1, hv]
    exact ⟨_, _, rfl, (h.el i _ hp).vec⟩
theorem SlN.step {base : Nat} {wr W V : World} {g P x n : Nat} {q : List Pn} {p : Pn} (h : SlN base wr g q) (hp : q[P]? = some p) (hn : n = p.x.length) (hW : Below wr.heap.size wr W) (hV : V = W.alloc (.cells #[.int .i64 x] 3)) (hx : (Lit.int .i64 (x : Int)).wf = true) (hbs : base ≤ wr.heap.size) :
    Read V (some ⟨W.heap.size, 0, none⟩) 1 1 [.int .i64 x] ∧ V.ownsRow base 3 1 (.slice p.B n p.c) n (p.x.map (Value.int .i64)) ∧ base ≤ V.heap.size ∧
      ∀ A2 c2 W', W'.ownsRow base 3 1 (.slice A2 (n + 1) c2) (n + 1) (p.x.map (Value.int .i64) ++ [.int .i64 x]) → V.grownBy W' (blk p.B) → (blk A2 = blk p.B ∨ blk A2 = some V.heap.size) →
        (W'.cell? ⟨g, P, none⟩ = some (.slice p.B n p.c) ∧ W'.frozen? ⟨g, P, none⟩ = false) ∧ SlN base (W'.setCell ⟨g, P, none⟩ (.slice A2 (n + 1) c2)) g (q.set P ⟨p.x ++ [(x : Int)], A2, c2⟩) ∧ Below base wr (W'.setCell ⟨g, P, none⟩ (.slice A2 (n + 1) c2)) := by
  subst hn
  have hbV : Below W.heap.size W V := by rw [hV]; exact (Below.refl _ W).alloc (Nat.le_refl _) _
  have hb := hW.trans (hbV.mono hW.size)
  have hpl := (List.getElem?_eq_some_iff.1 hp).1
  have he := h.el P p hp
  refine ⟨Read.int (by rw [hV]; exact cell_laid _ _ _ 0), (he.below hb).1, Nat.le_trans hbs hb.size, fun A2 c2 W' ho hg hA => ?_⟩
  have ht : Turn (fun i => blk p.B = some i) wr W' := (Turn.of_below (S := fun i => blk p.B = some i) hb).trans (Turn.of_grown hg (fun i hi => .inl hi)) (fun i hi => .inl hi)
  have hgp : ¬ blk p.B = some g := fun e => own_blocks he.1 h.row (by decide) g (by rw [own_blk]; exact e) rfl
  have hrow : W'.ownsRow base 53 1 (.slice (some ⟨g, 0, none⟩) q.length q.length) q.length (flatN q) := row_turn h.row ht (fun i hi e => by
    have h1 : g = i := by simpa [own_blk, blk] using hi
    subst h1; exact hgp e)
  have t5 := turn_set W' g P (.slice A2 (p.x.length + 1) c2)
  have hg0 := (h.row.lt g (by rfl)).1
  refine ⟨⟨by rw [World.ownsRow.cellAt hrow P (by omega), flatN_at hp], World.ownsRow.frozenAt hrow P⟩, ⟨?_, ?_, ?_⟩, ?_⟩
  · rw [flatN_set, List.length_set]
    have := (hrow.stored P (.slice A2 (p.x.length + 1) c2)).1
    simpa using this
  · intro i r hr
    rw [List.getElem?_set] at hr
    by_cases e : P = i
    · rw [if_pos e, if_pos (by omega)] at hr
      injection hr with hr
      subst hr
      have h6 : OwnN base W' A2 c2 (p.x ++ [(x : Int)]) := ⟨by rw [List.length_append, List.map_append]; exact ho, fun y hy => by
        rcases List.mem_append.1 hy with hy | hy
        · exact he.2 y hy
        · obtain rfl : y = (x : Int) := by simpa using hy
          exact hx⟩
      exact h6.turn t5 (fun k hk e2 => by subst e2; exact own_blocks h6.1 hrow (by decide) k (by rw [own_blk]; exact hk) rfl)
    · rw [if_neg e] at hr
      have h6 := (h.el i r hr).turn ht (fun k hk e2 => h.apart i P r p hr hp (fun e3 => e e3.symm) k hk e2)
      exact h6.turn t5 (fun k hk e2 => by subst e2; exact own_blocks h6.1 hrow (by decide) k (by rw [own_blk]; exact hk) rfl)
  · have hsz := hb.size
    have hnew : ∀ (i : Nat) (r : Pn), q[i]? = some r → i ≠ P → ∀ b, blk r.B = some b → blk A2 ≠ some b := by
      intro i r hr hi b hbr e
      rcases hA with hA | hA
      · rw [hA] at e; exact h.apart i P r p hr hp hi b hbr e
      · rw [hA] at e
        injection e with e
        have := ((h.el i r hr).low b hbr).2
        omega
    intro i j a b ha hb' hij k hk
    rw [List.getElem?_set] at ha hb'
    by_cases ei : P = i
    · rw [if_pos ei, if_pos (by omega)] at ha
      injection ha with ha
      subst ha
      rw [if_neg (fun e => hij (by omega))] at hb'
      exact fun e => hnew j b hb' (by omega) k e hk
    · rw [if_neg ei] at ha
      by_cases ej : P = j
      · rw [if_pos ej, if_pos (by omega)] at hb'
        injection hb' with hb'
        subst hb'
        exact hnew i a ha (by omega) k hk
      · rw [if_neg ej] at hb'
        exact h.apart i j a b ha hb' hij k hk
  · exact (ht.below hbs (fun i hi => (he.low i hi).1)).trans (t5.below (Nat.le_trans hbs ht.size) (fun i hi => by omega))
theorem SlN.made (base : Nat) (W : World) (n : Nat) (hb : base ≤ W.heap.size) (hn : n ≤ 1000) : SlN base (W.alloc (.cells (madeCells #[.slice none 0 0] n) 53)) W.heap.size (List.replicate n ⟨[], none, 0⟩) := by
  refine ⟨?_, fun i p hp => ?_, fun i j p r hp hr hij b hb => ?_⟩
  · refine ⟨by simp [flatN], .inr ⟨W.heap.size, n, madeCells #[.slice none 0 0] n, by simp, hb, heap_alloc_new W _, by simp, by unfold maxLen; omega, by rw [size_madeCells]; omega, ?_⟩⟩
    rw [toList_madeCells_one]
    simp [flatN]
  · have := List.mem_of_getElem? hp
    obtain ⟨_, rfl⟩ := List.mem_replicate.1 this
    exact OwnN.nil _ _
  · have := List.mem_of_getElem? hp
    obtain ⟨_, rfl⟩ := List.mem_replicate.1 this
    cases hb
theorem madeS (n : Nat) (h : n ≤ 1000) (W : World) : (Instr.makeSlice 65 (.int .i64 (n : Int)) (.int .i64 (n : Int))).run Tryz.prog W = .ok (.slice (some ⟨W.heap.size, 0, none⟩) n n) (W.alloc (.cells (madeCells #[.slice none 0 0] n) 53)) :=
  run_make_row' 65 53 (.slice none 0 0) 24 Tryz.underlying65 (by kernel_rfl) rfl _ _ n (by omega) (by omega) W
end Go.Proofs.YtcekgllahlhaaaaGreatDoor

namespace Go.Proofs.YtcekgllahlhaaaaGreatDoor
open Go.RowKit Go.Shelf
open MskL (Mk Ms mv has mk Fine MRow MBox rightM slotB hasB cnt has_mk mk_congr mk_fine ofM ofE withM withW GivesM GivesME chkM)
set_option linter.unusedVariables false
set_option linter.unusedSimpArgs false
set_option maxRecDepth 100000

theorem checkM_right {x : List Int} (h : right x = true) : checkM x = 0 := by unfold checkM refuseM; simp [h]
theorem refuse_dim {C : List (List Int)} (hC : allM C = 0) (h0 : 0 < C.length) (d : Nat) : refuseM (d : Nat) C = if d = dimC C then 0 else 151 := by
  have ha := allM_all hC
  have hr : C.all right = true := List.all_eq_true.2 (fun x hx => (ha x hx).1)
  unfold refuseM
  rw [hr]
  simp only [if_true]
  by_cases e : d = dimC C
  · rw [if_pos e, if_pos]
    rw [List.all_eq_true]
    intro x hx
    have := (ha x hx).2
    unfold dimC at e
    simp
    rw [this, e]
  · rw [if_neg e, if_neg]
    rw [List.all_eq_true]
    intro h
    have hx := List.getElem_mem h0
    have h1 := h _ hx
    have h2 := (ha _ hx).2
    unfold dimC at e
    simp only [decide_eq_true_eq] at h1
    omega
theorem nearE_dim {C : List (List Int)} (hC : allM C = 0) (h0 : 0 < C.length) {x : List Int} (hx : right x = true) : nearE C x = if x.length = dimC C then 0 else 151 := by
  unfold nearE
  rw [if_neg (by omega), checkM_right hx, if_neg (by simp), refuse_dim hC h0]
theorem used_right {l : List Ce} (h : arB l = true) {k : Nat} {e : Ce} (hk : l[k]? = some e) (hu : e.u = true) : right e.x = true := by
  have h1 := sound_ver (may_used (arB_may h e (List.mem_of_getElem? hk)) hu)
  unfold verR at h1
  simp at h1
  exact h1.1

set_option maxHeartbeats 8000000 in
theorem parted_any (A : Option Addr) (c : Nat) (q : List Pa) (Ac : Option Addr) (cc : Nat) (C : List (List Int)) (w : World) (h : Are w A c q) (hc : Vecs .i32 w Ac cc C) (hq : arB (ces q) = true) (hC : cenB C = true) (h0 : 0 < C.length) :
    Calls Tryz.prog 17 #[.agg #[.slice A q.length c], .slice Ac C.length cc] w fun e w' => Below w.heap.size w w' ∧
      (((ces q).all (fitsE C) = true ∧ ∃ g, e = .returned (.tuple #[.slice (some ⟨g, 0, none⟩) C.length C.length, .int .i64 0]) ∧ Vecs .i64 w' (some ⟨g, 0, none⟩) C.length (slotsTo C (ces q) 96)) ∨
       ((ces q).all (fitsE C) = false ∧ e = .returned (.tuple #[.slice none 0 0, .int .i64 151]))) := by
  have hq96 : q.length = 96 := by have := arB_len hq; rwa [ces_length] at this
  obtain ⟨hC6, hCa⟩ : C.length ≤ 6 ∧ allM C = 0 := by unfold cenB at hC; simp at hC; exact hC
  obtain ⟨n, hn⟩ : ∃ n, n = C.length := ⟨_, rfl⟩
  obtain ⟨W0, hW0⟩ : ∃ W0, W0 = w.alloc (.cells #[.slice A 96 c] 24) := ⟨_, rfl⟩
  have hb0 : Below w.heap.size w W0 := by rw [hW0]; exact (Below.refl _ w).alloc (Nat.le_refl _) _
  obtain ⟨g, hg⟩ : ∃ g, g = W0.heap.size := ⟨_, rfl⟩
  obtain ⟨V0, hV0⟩ : ∃ V0, V0 = W0.alloc (.cells (madeCells #[.slice none 0 0] n) 53) := ⟨_, rfl⟩
  have hbV : Below W0.heap.size W0 V0 := by rw [hV0]; exact (Below.refl _ _).alloc (Nat.le_refl _) _
  have hb : Below w.heap.size w V0 := hb0.trans (hbV.mono hb0.size)
  have hx0 : V0.cell? ⟨w.heap.size, 0, none⟩ = some (.slice A 96 c) := by
    have h1 : W0.cell? ⟨w.heap.size, 0, none⟩ = some (.slice A 96 c) := by rw [hW0]; exact cell_laid _ _ _ 0
    exact (hbV.cell (p := ⟨w.heap.size, 0, none⟩) (World.block_lt_of_cell? _ _ h1)).trans h1
  have hmade := madeS n (by omega) W0
  rw [← hV0, ← hg] at hmade
  have H0 := Lib.hid (show ∃ r, SlN w.heap.size V0 g r ∧ List.length r = n ∧ valN r = slotsTo C (ces q) 0 ∧ Below w.heap.size w V0 from
    ⟨List.replicate n ⟨[], none, 0⟩, by rw [hV0, hg]; exact SlN.made _ W0 n hb0.size (by omega), by simp, by rw [slotsTo_zero, ← hn]; simp [valN], hb⟩)
  have HQ := Lib.hid h
  have HL := Lib.hid hq96
  have HNr := Lib.hid (fun (k : Nat) (p : Pa) (hp : q[k]? = some p) (hu : p.e.u = true) (V : World) (hV : Below w.heap.size w V) (hv : Vec .i32 V p.B p.c p.e.x) => show Calls Tryz.prog 41 #[.slice Ac n cc, .slice p.B p.e.x.length p.c] V (fun e w' => e = .returned (.tuple #[.int .i64 ((if p.e.x.length = dimC C then nearM C p.e.x else 0 : Nat) : Int), .int .i64 (if p.e.x.length = dimC C then 0 else 151)]) ∧ Below V.heap.size V w') from by
    have := nearest_any Ac p.B cc p.c C p.e.x V (hc.below hV) hv
    have he := nearE_dim hCa h0 (used_right hq (ces_at hp) hu)
    unfold nearN at this
    rw [he, ← hn] at this
    by_cases e : p.e.x.length = dimC C
    · rw [if_pos e] at this ⊢; rw [if_pos e]; simpa using this
    · rw [if_neg e] at this ⊢; rw [if_neg e]; simpa using this)
  have HLt := Lib.hid (fun (x : List Int) => show nearM C x < n from by rw [hn]; exact nearF_lt _ _ h0)
  have HN := Lib.hid hn
  have HV0 := Lib.hid hV0
  have HG := Lib.hid hg
  have HW0 := Lib.hid hW0
  rw [hq96, ← hn]
  rw [← hn] at h0 hC6
  clear h hc hq hC hCa hq96 hn hb0 hbV hb hV0 hg hW0
  go_enter Tryz.func17, Tryz.ntmps17
  have cm : c ≤ 9223372036854775807 := HQ.out.most
  have c96 : 96 ≤ c := by have := HQ.out.room; rw [HL.out] at this; exact this
  go_wp2_with (rw [← HW0.out, hmade])
  go_loopw [17] (fun i wr => ∃ k : Nat, k ≤ 96 ∧ i = .int .i64 k ∧ Hid (∃ r, SlN w.heap.size wr g r ∧ List.length r = n ∧ valN r = slotsTo C (ces q) k ∧ Below w.heap.size w wr) ∧ Hid (((ces q).take k).all (fitsE C) = true)) (fun i _ => 96 - (intOf i).toNat)
  case atStart => exact ⟨0, Nat.zero_le _, rfl, H0, Lib.hid rfl⟩
  case round =>
    obtain ⟨k, hk, rfl, HI, HF⟩ := hrel
    by_cases hkm : k < 96
    · obtain ⟨r, hr1, hr2, hr3, hr4⟩ := HI.out
      obtain ⟨b, o, p, rfl, hp, hb, d0, d1, d2, d3, d4, hv, hf⟩ := (HQ.out.below hr4).at_ (i := k) (by rw [HL.out]; exact hkm)
      have k0 : (0 : Int) ≤ k := by omega
      have km : (k : Int) < 96 := by omega
      have hce := ces_ceAt hp
      have HT := Lib.hid (all_take_snoc (fitsE C) (ces q) (ces_at hp))
      have HNo := Lib.hid (fun (hh : fitsE C p.e = false) => all_no (fitsE C) (ces q) (ces_at hp) hh)
      obtain ⟨W1, hW1⟩ : ∃ W1, W1 = wr.alloc (.cells #[.bool p.e.u, .int .u64 p.e.i, .int .u64 p.e.b, .int .u64 p.e.f, .slice p.B p.e.x.length p.c] 61) := ⟨_, rfl⟩
      have hb1 : Below wr.heap.size wr W1 := by rw [hW1]; exact (Below.refl _ _).alloc (Nat.le_refl _) _
      have HW1 := Lib.hid hW1
      cases hu : p.e.u with
      | false =>
        have HS := Lib.hid (slotsTo_no (C := C) (l := ces q) (k := k) (by rw [hce]; exact hu))
        have HI2 := Lib.hid (show ∃ r, SlN w.heap.size W1 g r ∧ List.length r = n ∧ valN r = slotsTo C (ces q) (k + 1) ∧ Below w.heap.size w W1 from ⟨r, hr1.below hb1, hr2, by rw [HS.out, hr3], hr4.trans (hb1.mono hr4.size)⟩)
        have HF2 := Lib.hid (show ((ces q).take (k + 1)).all (fitsE C) = true by rw [HT.out, HF.out]; unfold fitsE; simp [hu])
        rw [hu] at d0 HW1
        clear hr1 hr2 hr3 hr4 hp hb hv hf hce hb1 hW1 hu
        go_wp2
        go_roundw
        case rel => exact ⟨k + 1, by omega, by go_num, by rw [← HW1.out]; exact HI2, HF2⟩
        case measure => simp [intOf]; omega
      | true =>
        have HC := Lib.hid (HNr.out k p hp hu W1 (hr4.trans (hb1.mono hr4.size)) (hv.below hb1))
        obtain ⟨P, hP⟩ : ∃ P, P = nearM C p.e.x := ⟨_, rfl⟩
        have hPn := HLt.out p.e.x
        rw [← hP] at HC hPn
        by_cases hd : p.e.x.length = dimC C
        · rw [if_pos hd, if_pos hd] at HC
          obtain ⟨y, hy⟩ : ∃ y, r[P]? = some y := ⟨_, List.getElem?_eq_getElem (by rw [hr2]; exact hPn)⟩
          obtain ⟨yl, hyl⟩ : ∃ yl, yl = y.x.length := ⟨_, rfl⟩
          have HS := Lib.hid (slotsTo_yes (C := C) (l := ces q) (k := k) (P := P) (by rw [hce]; exact hu) (by rw [hce]; exact hP.symm) (by rw [← HN.out]; exact hPn) (y := y.x) (by rw [← hr3]; exact valN_at hy))
          have HF2 := Lib.hid (show ((ces q).take (k + 1)).all (fitsE C) = true by rw [HT.out, HF.out]; unfold fitsE; simp [hu, hd])
          have hylm : yl ≤ 1000000 := by
            have h1 := valN_at hy
            rw [hr3, slotsTo_get C (ces q) k (by rw [← HN.out]; exact hPn)] at h1
            injection h1 with h1
            rw [hyl, ← h1, List.length_map]
            have := List.length_filter_le (inP C (ces q) P) (List.range k)
            rw [List.length_range] at this
            omega
          have hsz := hr4.size
          have hst := fun (W : World) (hW : Below wr.heap.size wr W) => hr1.step (W := W) (x := k) hy hyl hW rfl (WalkArith.wf_i64 (by omega)) hsz
          have HSt := Lib.hid hst
          have HAt := Lib.hid (fun (W : World) (hW : Below wr.heap.size wr W) => show W.cell? ⟨g, P, none⟩ = some (.slice y.B yl y.c) from by rw [hyl]; exact ((hr1.below hW).at_ hy).1)
          have HI3 := Lib.hid (And.intro hr2 (And.intro hr3 hr4))
          have P0 : (0 : Int) ≤ P := by omega
          have Pn' : (P : Int) < n := by omega
          have HB1 := Lib.hid hb1
          rw [hu] at d0 HW1
          generalize p.e.x.length = xl at *
          clear hr1 hr2 hr3 hr4 hp hb hv hf hce hb1 hW1 hu hy hyl hst hsz hd hP
          go_wp2_with fail
          rw [← HW1.out]
          refine HC.out.mono ?_
          rintro e w2 ⟨rfl, hb2⟩
          have HB2 := Lib.hid (HB1.out.trans (hb2.mono HB1.out.size))
          have a0 := HAt.out w2 HB2.out
          have a1 := HAt.out (w2.alloc (.cells #[.int .i64 k] 3)) (HB2.out.alloc HB2.out.size _)
          obtain ⟨s1, s2, s3, s4⟩ := HSt.out w2 HB2.out
          have HR := Lib.hid s1
          have HO := Lib.hid s2
          have H4 := Lib.hid s4
          clear hb2 s1 s2 s4
          go_wp2_with (at_builtin; refine gapp_at rfl (.tmp 41) (.tmp 43) appN rfl w.heap.size y.B y.c yl (y.x.map (Value.int .i64)) rfl HO.out (some ⟨w2.heap.size, 0, none⟩) 1 1 [.int .i64 (k : Int)] rfl HR.out (by omega) s3 ?_; intro A5 c5 w4 ho hg hbk; obtain ⟨⟨e0, e1⟩, e2, e3⟩ := H4.out A5 c5 w4 ho hg hbk; have HE2 := Lib.hid e2; have HE3 := Lib.hid e3; clear ho hg hbk e2 e3)
          go_roundw
          case rel =>
            refine ⟨k + 1, by omega, by go_num, Lib.hid ⟨_, HE2.out, by rw [List.length_set]; exact HI3.out.1, by rw [valN_set, HI3.out.2.1, HS.out], ?_⟩, HF2⟩
            exact HI3.out.2.2.trans HE3.out
          case measure => simp [intOf]; omega
        · rw [if_neg hd, if_neg hd] at HC
          have HFF := Lib.hid (HNo.out (by unfold fitsE; simp [hu, hd]))
          have HB1 := Lib.hid (hr4.trans (hb1.mono hr4.size))
          rw [hu] at d0 HW1
          generalize p.e.x.length = xl at *
          clear hr1 hr2 hr3 hr4 hp hb hv hf hce hb1 hW1 hu hd hP
          go_wp2_with fail
          rw [← HW1.out]
          refine HC.out.mono ?_
          rintro e w2 ⟨rfl, hb2⟩
          have HB2 := Lib.hid (HB1.out.trans (hb2.mono HB1.out.size))
          clear hb2
          go_wp2
          go_ret2
          exact ⟨HB2.out, .inr ⟨HFF.out, rfl⟩⟩
    · obtain rfl : k = 96 := by omega
      obtain ⟨r, hr1, hr2, hr3, hr4⟩ := HI.out
      have HA := Lib.hid (show (ces q).all (fitsE C) = true by have h1 := HF.out; rw [show (96 : Nat) = (ces q).length by rw [ces_length, HL.out], List.take_length] at h1; exact h1)
      have HVs := Lib.hid (show Vecs .i64 wr (some ⟨g, 0, none⟩) n (slotsTo C (ces q) 96) by have := hr1.vecs (by omega); rw [hr2, hr3] at this; exact this)
      have HB := Lib.hid hr4
      clear hr1 hr2 hr3 hr4
      go_wp2
      go_ret2
      exact ⟨HB.out, .inl ⟨HA.out, g, rfl, HVs.out⟩⟩
end Go.Proofs.YtcekgllahlhaaaaGreatDoor

namespace Go.Proofs.YtcekgllahlhaaaaGreatDoor
open Go.RowKit Go.Shelf
open MskL (Mk Ms mv has mk Fine MRow MBox rightM slotB hasB cnt has_mk mk_congr mk_fine ofM ofE withM withW GivesM GivesME chkM)
set_option linter.unusedVariables false
set_option linter.unusedSimpArgs false
set_option maxRecDepth 100000

/-! ### masks made -/
theorem madeMB (n : Nat) (h : n ≤ 1000) (w : World) : (Instr.makeSlice 35 (.int .i64 (n : Int)) (.int .i64 (n : Int))).run Tryz.prog w = .ok (.slice (some ⟨w.heap.size, 0, none⟩) n n) (w.alloc (.cells (madeCells #[.int .u64 0, .int .u64 0] (n * 2)) 70)) := by
  have hb : ((Tryz.prog.info? 70).get (by kernel_rfl)).bytes = 16 := by kernel_rfl
  have hz : ((Tryz.prog.info? 70).get (by kernel_rfl)).size = 2 := by kernel_rfl
  have := run_make (P := Tryz.prog) w 35 70 ((Tryz.prog.info? 70).get (by kernel_rfl)) (.agg #[.int .u64 0, .int .u64 0]) Tryz.underlying35 (Option.some_get _).symm (by kernel_rfl) .i64 .i64 n n (by omega) (by omega) (by rw [hb]; omega) (by omega)
  rw [hz, Int.toNat_natCast] at this
  exact this
theorem madeMB_ms (n : Nat) (h : n ≤ 1000) (W : World) : Ms (W.alloc (.cells (madeCells #[.int .u64 0, .int .u64 0] (n * 2)) 70)) (some ⟨W.heap.size, 0, none⟩) n (List.replicate n mz) := by
  refine ⟨by simp, by omega, fun hp => ⟨W.heap.size, 0, rfl, by simp, fun j m hm => ?_⟩, fun m hm => by rw [List.eq_of_mem_replicate hm]; exact ⟨by decide, by decide⟩⟩
  have hj : j < n := by have := (List.getElem?_eq_some_iff.1 hm).1; simpa using this
  obtain rfl : m = mz := List.eq_of_mem_replicate (List.mem_of_getElem? hm)
  have hn := heap_alloc_new W (.cells (madeCells #[.int .u64 0, .int .u64 0] (n * 2)) 70)
  have hr : ∀ i, i < n * 2 → (Array.range (n * 2))[i]? = some i := fun i hi => Array.getElem?_eq_some_iff.2 ⟨by simpa using hi, by simp⟩
  have e0 : (madeCells (#[.int .u64 0, .int .u64 0] : Array Value) (n * 2))[0 + j * 2]? = some (.int .u64 0) := by
    unfold madeCells
    rw [Array.getElem?_map, hr _ (by omega)]
    simp
  have e1 : (madeCells (#[.int .u64 0, .int .u64 0] : Array Value) (n * 2))[0 + j * 2 + 1]? = some (.int .u64 0) := by
    unfold madeCells
    rw [Array.getElem?_map, hr _ (by omega)]
    have : (0 + j * 2 + 1) % 2 = 1 := by omega
    simp [this]
  exact ⟨(cell_of_row _ _ (0 + j * 2) _ _ _ hn).trans e0, (cell_of_row _ _ (0 + j * 2 + 1) _ _ _ hn).trans e1⟩

/-! ### the closure of Build -/
theorem of_inP (C : List (List Int)) (l : List Ce) (p : Nat) : ofE (((List.range 96).filter (inP C l p)).map fun (j : Nat) => (j : Int)) = 0 ∧ ofM (((List.range 96).filter (inP C l p)).map fun (j : Nat) => (j : Int)) = maskOf C l p := by
  constructor
  · unfold ofE
    rw [if_pos]
    rw [List.all_eq_true]
    intro x hx
    obtain ⟨j, hj, rfl⟩ := List.mem_map.1 hx
    have := List.mem_range.1 (List.mem_filter.1 hj).1
    unfold slotB
    simp
    omega
  · unfold ofM maskOf
    refine mk_congr (fun j hj => ?_)
    rw [Bool.eq_iff_iff, decide_eq_true_iff, List.mem_map]
    constructor
    · rintro ⟨i, hi, e⟩
      obtain rfl : i = j := by omega
      exact (List.mem_filter.1 hi).2
    · intro h
      exact ⟨j, List.mem_filter.2 ⟨List.mem_range.2 hj, h⟩, rfl⟩

set_option maxHeartbeats 1000000 in
theorem build1_any (g gs n k : Nat) (m x : Mk) (S : List (List Int)) (y : List Int) (W : World) (hgs : W.cell? ⟨gs, 0, none⟩ = some (.slice (some ⟨g, 0, none⟩) n n)) (hS : Vecs .i64 W (some ⟨g, 0, none⟩) n S) (hn : S.length = n) (hy : S[k]? = some y) (h0 : ofE y = 0) (h1 : ofM y = x) :
    Calls Tryz.prog 19 #[.int .i64 k, mv m, .pointer (some ⟨gs, 0, none⟩)] W (GivesME W x 0) := by
  have hk : k < n := by have := (List.getElem?_eq_some_iff.1 hy).1; omega
  have hnm : n ≤ 9223372036854775807 := by rw [← hn]; exact Nat.le_trans hS.room hS.most
  obtain ⟨b, o, x1, B, cb, hA, hx1, hb, hc, hv⟩ := hS.at_ (i := k) (by omega)
  rw [hy] at hx1
  injection hx1 with hx1
  subst hx1
  injection hA with hA
  injection hA with e1 e2
  subst e1 e2
  rw [Nat.zero_add] at hc
  obtain ⟨t, ht⟩ : ∃ t, t = W.heap.size := ⟨_, rfl⟩
  obtain ⟨W0, hW0⟩ : ∃ W0, W0 = (W.alloc (.cells #[.int .u64 m.1, .int .u64 m.2] 70)).alloc (.cells #[.int .u64 (0 : Nat), .int .u64 (0 : Nat)] 70) := ⟨_, rfl⟩
  have hb0 : Below W.heap.size W W0 := by rw [hW0]; exact ((Below.refl _ W).alloc (Nat.le_refl _) _).alloc (by simp) _
  have hr0 : MRow W0 (t + 1) 0 0 := by
    rw [hW0, ht]; have := MRow.new (W.alloc (.cells #[.int .u64 m.1, .int .u64 m.2] 70)) 0 0
    rwa [World.size_alloc] at this
  have c0 : W0.cell? ⟨gs, 0, none⟩ = some (.slice (some ⟨g, 0, none⟩) n n) := (hb0.cell (p := ⟨gs, 0, none⟩) (World.block_lt_of_cell? W _ hgs)).trans hgs
  have c1 : W0.cell? ⟨g, k, none⟩ = some (.slice B y.length cb) := (hb0.cell (p := ⟨g, k, none⟩) (World.block_lt_of_cell? W _ hc)).trans hc
  have HOf := Lib.hid (show Calls Tryz.prog 20 #[.slice B y.length cb] W0 (fun e w' => e = .returned (.tuple #[mv x, .int .i64 0]) ∧ Below W0.heap.size W0 w') from by
    have := MskL.of_any B cb y W0 (hv.below hb0)
    rw [h0, if_pos rfl, h1] at this
    exact this)
  have HR := Lib.hid hr0
  have HB := Lib.hid hb0
  have HT := Lib.hid ht
  have HW0 := Lib.hid hW0
  have k0 : (0 : Int) ≤ k := by omega
  have kn : (k : Int) < n := by omega
  generalize y.length = yl at *
  clear hgs hS hn hy h0 h1 hb hc hv hb0 hr0 hW0 ht
  unfold mv at *
  go_enter Tryz.func19, Tryz.ntmps19
  go_wp2_with (rw [show (W.alloc (.cells #[.int .u64 m.1, .int .u64 m.2] 70)).alloc (.cells #[.int .u64 0, .int .u64 0] 70) = W0 from HW0.out.symm, ← HT.out])
  refine HOf.out.mono ?_
  rintro e w1 ⟨rfl, hb1⟩
  obtain ⟨⟨r0, r1, f0, f1⟩, u0, u1, hbE⟩ := MskL.mask_end (M := x) (HR.out.below hb1 HR.out.lt) (HB.out.trans (hb1.mono HB.out.size)) (by rw [HT.out]; omega)
  have HBE := Lib.hid hbE
  clear hb1 hbE c0 c1
  go_wp2
  refine bodyPost_ret (v := .tuple #[.agg #[.int .u64 x.1, .int .u64 x.2], .int .i64 0]) (by simp [results, Tryz.results19, go_sem, u0, u1]) rfl ?_
  exact ⟨rfl, HBE.out⟩

/-! ### Build -/
theorem map_masks (C : List (List Int)) (l : List Ce) : mapTo (fun k _ => maskOf C l k) (List.replicate C.length mz) (List.replicate C.length mz).length = masksOf C l := by
  unfold mapTo masksOf
  simp only [List.length_replicate]
  refine List.map_congr_left (fun i hi => ?_)
  rw [if_pos (List.mem_range.1 hi)]

set_option maxHeartbeats 8000000 in
theorem build_any (A : Option Addr) (c : Nat) (q : List Pa) (Ac : Option Addr) (cc : Nat) (C : List (List Int)) (w : World) (h : Are w A c q) (hc : Vecs .i32 w Ac cc C) :
    Calls Tryz.prog 7 #[.agg #[.slice A q.length c], .slice Ac C.length cc] w (GivesOE w (buildC C (ces q)) (buildM C (ces q)) (buildE C (ces q))) := by
  obtain ⟨g0, hg0⟩ : ∃ g0, g0 = w.heap.size := ⟨_, rfl⟩
  obtain ⟨N, hN⟩ : ∃ N, N = q.length := ⟨_, rfl⟩
  obtain ⟨n, hn⟩ : ∃ n, n = C.length := ⟨_, rfl⟩
  obtain ⟨W0, hW0⟩ : ∃ W0, W0 = (w.alloc (.cells #[.slice A N c] 24)).alloc (.cells #[.slice none 0 0, .slice none 0 0] 37) := ⟨_, rfl⟩
  have hb0 : Below w.heap.size w W0 := by rw [hW0]; exact ((Below.refl _ w).alloc (Nat.le_refl _) _).alloc (by simp) _
  have hx0 : W0.cell? ⟨g0, 0, none⟩ = some (.slice A N c) := by
    have h1 : (w.alloc (.cells #[.slice A N c] 24)).cell? ⟨g0, 0, none⟩ = some (.slice A N c) := by rw [hg0]; exact cell_laid _ _ _ 0
    rw [hW0]
    exact (((Below.refl _ _).alloc (Nat.le_refl _) _).cell (p := ⟨g0, 0, none⟩) (World.block_lt_of_cell? _ _ h1)).trans h1
  have hr0 : LRow W0 (g0 + 1) none 0 0 none 0 0 := by
    rw [hW0, hg0]; have := LRow.new (w.alloc (.cells #[.slice A N c] 24)) none 0 0 none 0 0
    rwa [World.size_alloc] at this
  have HCk := Lib.hid (checkA_any A c q W0 (h.below hb0))
  have HCe := Lib.hid (fun (X : World) (hX : Below W0.heap.size W0 X) => areCen_any Ac cc C X ((hc.below hb0).below hX))
  have HPa := Lib.hid (fun (X : World) (hX : Below W0.heap.size W0 X) (ha : arB (ces q) = true) (hC : cenB C = true) (h0 : 0 < C.length) => parted_any A c q Ac cc C X ((h.below hb0).below hX) ((hc.below hb0).below hX) ha hC h0)
  have HCs := Lib.hid (fun (X : World) (hX : Below W0.heap.size W0 X) => (hc.below hb0).below hX)
  have HB0 := Lib.hid hb0
  have HX := Lib.hid (fun (X : World) (hX : Below W0.heap.size W0 X) => show X.cell? ⟨g0, 0, none⟩ = some (.slice A N c) ∧ LRow X (g0 + 1) none 0 0 none 0 0 from ⟨(hX.cell (p := ⟨g0, 0, none⟩) (World.block_lt_of_cell? _ _ hx0)).trans hx0, hr0.below hX hr0.lt⟩)
  have HW0 := Lib.hid hW0
  have HG := Lib.hid hg0
  have HN := Lib.hid hn
  have HE := Lib.hid (show buildE C (ces q) = if arB (ces q) = true then (if cenB C = true then (if C.length = 0 then 0 else if (ces q).all (fitsE C) = true then 0 else 151) else 230) else 190 from rfl)
  have HNil := Lib.hid (fun (hh : buildE C (ces q) ≠ 0) => show buildC C (ces q) = [] ∧ buildM C (ces q) = [] from ⟨by unfold buildC; rw [if_neg hh], by unfold buildM; rw [if_neg hh]⟩)
  have HOk := Lib.hid (fun (hh : buildE C (ces q) = 0) => show buildC C (ces q) = C ∧ buildM C (ces q) = masksOf C (ces q) from ⟨by unfold buildC; rw [if_pos hh], by unfold buildM; rw [if_pos hh]⟩)
  rw [← hN] at HCk HPa ⊢
  rw [← hn] at HCe HPa HE ⊢
  have HCa := Lib.hid (fun (hh : cenB C = true) => cen_small hh)
  generalize buildE C (ces q) = E at *
  generalize hCC : buildC C (ces q) = CC at *
  generalize hMM : buildM C (ces q) = MM at *
  clear h hc hb0 hr0 hW0 hg0 hN hn hCC hMM
  cases ha : arB (ces q) with
  | false =>
    have HF := Lib.hid (show E = 190 by rw [HE.out, ha]; rfl)
    have HF2 := Lib.hid (HNil.out (by rw [HF.out]; decide))
    rw [chkA_no ha] at HCk
    clear ha
    go_enter Tryz.func7, Tryz.ntmps7
    go_wp2_with (rw [← HW0.out, ← HG.out])
    refine HCk.out.mono ?_
    rintro e w1 ⟨rfl, hb1⟩
    obtain ⟨⟨r0, r1, f0, f1⟩, u0, u1, hR⟩ := ret_nil (w := w) 190 (HX.out w1 hb1).2 (HB0.out.trans (hb1.mono HB0.out.size)) (by rw [HG.out]; omega)
    have HR := Lib.hid hR
    clear hb1 hR hx0
    go_wp2
    refine bodyPost_ret (v := .tuple #[.agg #[.slice none 0 0, .slice none 0 0], .int .i64 190]) (by simp [results, Tryz.results7, go_sem, u0, u1]) rfl ?_
    rw [HF.out, HF2.out.1, HF2.out.2]
    exact HR.out
  | true =>
    rw [chkA_ok ha] at HCk
    cases hce : cenB C with
    | false =>
      have HF := Lib.hid (show E = 230 by rw [HE.out, ha, hce]; rfl)
      have HF2 := Lib.hid (HNil.out (by rw [HF.out]; decide))
      rw [hce] at HCe
      clear ha hce
      go_enter Tryz.func7, Tryz.ntmps7
      go_wp2_with (rw [← HW0.out, ← HG.out])
      refine HCk.out.mono ?_
      rintro e w1 ⟨rfl, hb1⟩
      have HB1 := Lib.hid hb1
      clear hb1 hx0
      go_wp2_with fail
      refine (HCe.out w1 HB1.out).mono ?_
      rintro e w2 ⟨rfl, hb2⟩
      have hb12 := HB1.out.trans (hb2.mono HB1.out.size)
      obtain ⟨⟨r0, r1, f0, f1⟩, u0, u1, hR⟩ := ret_nil (w := w) 230 (HX.out w2 hb12).2 (HB0.out.trans (hb12.mono HB0.out.size)) (by rw [HG.out]; omega)
      have HR := Lib.hid hR
      clear hb2 hb12 hR
      go_wp2
      refine bodyPost_ret (v := .tuple #[.agg #[.slice none 0 0, .slice none 0 0], .int .i64 230]) (by simp [results, Tryz.results7, go_sem, u0, u1]) rfl ?_
      rw [HF.out, HF2.out.1, HF2.out.2]
      exact HR.out
    | true =>
      rw [hce] at HCe
      obtain ⟨n6, xs4⟩ := HCa.out hce
      rw [← HN.out] at n6
      by_cases h0 : n = 0
      · have HF := Lib.hid (show E = 0 by rw [HE.out, ha, hce, if_pos h0]; rfl)
        have HF2 := Lib.hid (show CC = [] ∧ MM = [] by
          obtain ⟨e1, e2⟩ := HOk.out HF.out
          have : C = [] := List.eq_nil_of_length_eq_zero (by rw [← HN.out]; exact h0)
          subst this
          exact ⟨e1, by rw [e2]; rfl⟩)
        subst h0
        clear ha hce n6 xs4
        go_enter Tryz.func7, Tryz.ntmps7
        go_wp2_with (rw [← HW0.out, ← HG.out])
        refine HCk.out.mono ?_
        rintro e w1 ⟨rfl, hb1⟩
        have HB1 := Lib.hid hb1
        clear hb1 hx0
        go_wp2_with fail
        refine (HCe.out w1 HB1.out).mono ?_
        rintro e w2 ⟨rfl, hb2⟩
        have hb12 := HB1.out.trans (hb2.mono HB1.out.size)
        obtain ⟨⟨r0, r1, f0, f1⟩, u0, u1, hR⟩ := ret_nil (w := w) 0 (HX.out w2 hb12).2 (HB0.out.trans (hb12.mono HB0.out.size)) (by rw [HG.out]; omega)
        have HR := Lib.hid hR
        clear hb2 hb12 hR
        go_wp2
        refine bodyPost_ret (v := .tuple #[.agg #[.slice none 0 0, .slice none 0 0], .int .i64 0]) (by simp [results, Tryz.results7, go_sem, u0, u1]) rfl ?_
        rw [HF.out, HF2.out.1, HF2.out.2]
        exact HR.out
      · have t1 : ((n : Int) == 0) = false := by simp; omega
        have t2 : (n == 0) = false := by simpa using h0
        have HP := Lib.hid (fun (X : World) (hX : Below W0.heap.size W0 X) => HPa.out X hX ha hce (by omega))
        have HEf := Lib.hid (show E = if (ces q).all (fitsE C) = true then 0 else 151 by rw [HE.out, ha, hce, if_neg h0]; rfl)
        have HMk := Lib.hid (show (List.replicate n mz).length = n by simp)
        have HCg := Lib.hid (fun (X : World) (Am : Option Addr) (hX : Below W0.heap.size W0 X) (hm : Ms X Am n (List.replicate n mz)) (fid : FuncId) (cap : Array Value) (hen) (hp) => changed_any Ac cc C Am n (List.replicate n mz) fid cap (fun k _ => maskOf C (ces q) k) X ⟨HCs.out X hX, hm⟩ (by rw [← HN.out]; omega) (fun x hx => by have := xs4 x hx; omega) (by simp; omega) hen hp)
        rw [HMk.out] at HCg
        rw [← HN.out] at HCg
        have HMp := Lib.hid (show mapTo (fun k _ => maskOf C (ces q) k) (List.replicate n mz) n = masksOf C (ces q) by have := map_masks C (ces q); rw [← HN.out, List.length_replicate] at this; exact this)
        rw [HMp.out] at HCg
        clear ha hce h0 xs4
        go_enter Tryz.func7, Tryz.ntmps7
        go_wp2_with (rw [← HW0.out, ← HG.out])
        refine HCk.out.mono ?_
        rintro e w1 ⟨rfl, hb1⟩
        have HB1 := Lib.hid hb1
        clear hb1 hx0
        go_wp2_with fail
        refine (HCe.out w1 HB1.out).mono ?_
        rintro e w2 ⟨rfl, hb2⟩
        have hb12 := HB1.out.trans (hb2.mono HB1.out.size)
        have HB2 := Lib.hid hb12
        have a0 := (HX.out w2 hb12).1
        clear hb2 hb12
        go_wp2_with fail
        refine (HP.out w2 HB2.out).mono ?_
        rintro e w3 ⟨hb3, (⟨hfit, g, rfl, hsl⟩ | ⟨hfit, rfl⟩)⟩
        · have hb03 := HB2.out.trans (hb3.mono HB2.out.size)
          have HF := Lib.hid (show E = 0 by rw [HEf.out, hfit]; rfl)
          have HF2 := Lib.hid (HOk.out HF.out)
          obtain ⟨gs, hgs⟩ : ∃ gs, gs = w3.heap.size := ⟨_, rfl⟩
          obtain ⟨V, hV⟩ : ∃ V, V = w3.alloc (.cells #[.slice (some ⟨g, 0, none⟩) n n] 65) := ⟨_, rfl⟩
          have hbV : Below w3.heap.size w3 V := by rw [hV]; exact (Below.refl _ _).alloc (Nat.le_refl _) _
          have hcV : V.cell? ⟨gs, 0, none⟩ = some (.slice (some ⟨g, 0, none⟩) n n) := by rw [hV, hgs]; exact cell_laid _ _ _ 0
          have hmade := madeMB n (by omega) V
          obtain ⟨V2, hV2⟩ : ∃ V2, V2 = V.alloc (.cells (madeCells #[.int .u64 0, .int .u64 0] (n * 2)) 70) := ⟨_, rfl⟩
          have hms := madeMB_ms n (by omega) V
          obtain ⟨gm, hgm⟩ : ∃ gm, gm = V.heap.size := ⟨_, rfl⟩
          rw [← hV2, ← hgm] at hmade hms
          obtain ⟨V3, hV3⟩ : ∃ V3, V3 = V2.alloc (.cells #[.slice Ac n cc, .slice (some ⟨gm, 0, none⟩) n n] 37) := ⟨_, rfl⟩
          have hbV2 : Below V.heap.size V V2 := by rw [hV2]; exact (Below.refl _ _).alloc (Nat.le_refl _) _
          have hbV3 : Below V2.heap.size V2 V3 := by rw [hV3]; exact (Below.refl _ _).alloc (Nat.le_refl _) _
          have hbV23 : Below V.heap.size V V3 := hbV2.trans (hbV3.mono hbV2.size)
          have hb33 : Below w3.heap.size w3 V3 := hbV.trans (hbV23.mono hbV.size)
          have hb0V3 : Below W0.heap.size W0 V3 := hb03.trans (hb33.mono hb03.size)
          have hcV3 : V3.cell? ⟨gs, 0, none⟩ = some (.slice (some ⟨g, 0, none⟩) n n) := (hbV23.cell (p := ⟨gs, 0, none⟩) (World.block_lt_of_cell? _ _ hcV)).trans hcV
          have hsl3 := hsl.below hb33
          have hlen : (slotsTo C (ces q) 96).length = n := by rw [slotsTo_len, ← HN.out]
          have hcall := HCg.out V3 (some ⟨gm, 0, none⟩) hb0V3 (hms.below hbV3) 19 #[.pointer (some ⟨gs, 0, none⟩)] (fun v u W => enters_of Tryz.func19 (by kernel_rfl) rfl _ W) (fun k m X hk hm hX => by
            have hkn : k < n := by have := (List.getElem?_eq_some_iff.1 hk).1; simpa using this
            refine ⟨mk_fine _, ?_⟩
            obtain ⟨o1, o2⟩ := of_inP C (ces q) k
            exact build1_any g gs n k m _ (slotsTo C (ces q) 96) _ X ((hX.cell (p := ⟨gs, 0, none⟩) (World.block_lt_of_cell? _ _ hcV3)).trans hcV3) (hsl3.below hX) hlen (slotsTo_get C (ces q) 96 (by rw [← HN.out]; exact hkn)) o1 o2)
          have HCall := Lib.hid hcall
          have HB3 := Lib.hid hb0V3
          have HV := Lib.hid hV
          have HGs := Lib.hid hgs
          have HV3 := Lib.hid hV3
          have cn : (n : Int) ≤ 9223372036854775807 := by omega
          unfold lv at HCall
          clear hb3 hb03 hfit hsl hbV hcV hms hbV2 hbV3 hbV23 hb33 hb0V3 hcV3 hsl3 hlen hcall hV hgs hV2 hgm hV3 a0
          go_wp2_with (rw [← HV.out, ← HGs.out, hmade])
          rw [← HV3.out]
          refine HCall.out.mono ?_
          rintro e w4 ⟨A4, c4, q4, B4, d4, rfl, hq4, hv4, hm4, hb4⟩
          have hb04 := HB3.out.trans (hb4.mono HB3.out.size)
          have hqn : q4.length = n := by rw [← vals_length, hq4, ← HN.out]
          have hmn : (masksOf C (ces q)).length = n := by unfold masksOf; rw [List.length_map, List.length_range, ← HN.out]
          have hg1 : g0 + 1 < V3.heap.size := Nat.lt_of_lt_of_le (HX.out W0 (Below.refl _ _)).2.lt HB3.out.size
          obtain ⟨⟨r0, r1, f0, f1⟩, u0, u1, hR⟩ := ret_lis (w := w) (n := n) (m := n) 0 (HX.out w4 hb04).2 (HB0.out.trans (hb04.mono HB0.out.size)) (by rw [HG.out]; omega) hv4 hm4 hg1 hqn.symm hmn.symm
          rw [hq4] at hR
          have HR := Lib.hid hR
          rw [hqn, hmn]
          clear hq4 hv4 hm4 hb4 hb04 hqn hmn hg1 hR
          unfold lv
          go_wp2
          refine bodyPost_ret (v := .tuple #[.agg #[.slice A4 n c4, .slice B4 n d4], .int .i64 0]) (by simp [results, Tryz.results7, go_sem, u0, u1]) rfl ?_
          rw [HF.out, HF2.out.1, HF2.out.2]
          exact HR.out
        · have HF := Lib.hid (show E = 151 by rw [HEf.out, hfit]; rfl)
          have HF2 := Lib.hid (HNil.out (by rw [HF.out]; decide))
          have hb03 := HB2.out.trans (hb3.mono HB2.out.size)
          have hb4 : Below W0.heap.size W0 (w3.alloc (.cells #[.slice none 0 0] 65)) := hb03.alloc hb03.size _
          obtain ⟨⟨r0, r1, f0, f1⟩, u0, u1, hR⟩ := ret_nil (w := w) 151 (HX.out _ hb4).2 (HB0.out.trans (hb4.mono HB0.out.size)) (by rw [HG.out]; omega)
          have HR := Lib.hid hR
          clear hb3 hfit hb03 hb4 hR a0
          go_wp2
          refine bodyPost_ret (v := .tuple #[.agg #[.slice none 0 0, .slice none 0 0], .int .i64 151]) (by simp [results, Tryz.results7, go_sem, u0, u1]) rfl ?_
          rw [HF.out, HF2.out.1, HF2.out.2]
          exact HR.out
end Go.Proofs.YtcekgllahlhaaaaGreatDoor
