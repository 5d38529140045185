/-
  The document's Found.
-/
import Derived.Test.YtdbcecmlakgknaaFlaCut
import Derived.Deep.RegionHeld3
import Derived.BigQuiet
namespace Go.Proofs.Ytdbcecmlakgknaa
open Go.BigFrame Go.RowKit Go.Shelf
open TopL (HitM z2 flat flat_length flat_append flat_cons flat_get flat_cell firstM Hits isKM)
set_option linter.unusedVariables false
set_option linter.unusedSimpArgs false
set_option maxRecDepth 100000

theorem region_quiet11 {P : Program} {id : Nat} {Q : Exit → Act → World → Prop} {a : Act} {w : World} {l : List Oper} (C : World → Prop) (hm : P.follows .mixedOrders = true) (hB : Region.lexB .any l.toArray = true) (hC : C { w with drawn := w.drawn + 1 })
    (h : wpQuiet P l.toArray C (fun a' => ∀ w', C w' → Q .normal a' w') l a) : (Code.region id l.toArray true).wp P Q a w :=
  wp_region_quiet (C := C) hm hB hC (by simpa using h)
theorem row_some11 {w : World} {base n size c : Nat} {e : TypeId} {A : Option Addr} {xs : List Value} (hn : 0 < n) (h : w.ownsRow base e size (.slice A n c) n xs) : ∃ g, A = some ⟨g, 0, none⟩ ∧ base ≤ g := by
  rcases h.2 with ⟨e, h0⟩ | ⟨g, cap, cur, e, hg, hh, _⟩
  · omega
  · injection e with e1
    exact ⟨g, e1, hg⟩
theorem read_own11 {w : World} {base n size c g : Nat} {e : TypeId} {xs : List Value} (h : w.ownsRow base e size (.slice (some ⟨g, 0, none⟩) n c) n xs) (h1 : ∀ u ∈ xs, u.oneCell' = true) : Read w (some ⟨g, 0, none⟩) n size xs := by
  refine ⟨h.1, h1, fun e => (by cases e), fun b hb j u hj => ?_⟩
  injection hb with hb
  subst hb
  exact h.cells (g := g) rfl j u hj

/-- What is found among the first k. -/
def FndI (w : World) (K : Nat) (v : List Int) (l : List Rv) (k n : Nat) (A : Option Addr) (c : Nat) (wr : World) : Prop :=
  n = (firstM K (hitL (l.take k) v)).length ∧ n ≤ K ∧ Hits wr A c (firstM K (hitL (l.take k) v)) ∧ (A = none → c = 0) ∧ (∀ a, A = some a → 0 < n) ∧ dimB (l.take k) v = true ∧ Below w.heap.size w wr
theorem FndI.below {w wr X : World} {K k n c : Nat} {v : List Int} {l : List Rv} {A : Option Addr} (h : FndI w K v l k n A c wr) (hX : Below wr.heap.size wr X) : FndI w K v l k n A c X := by
  obtain ⟨h1, h2, h3, h4, h7, h5, h6⟩ := h
  exact ⟨h1, h2, h3.below hX, h4, h7, h5, h6.trans (hX.mono h6.size)⟩
theorem found_laid {w : World} {base p n c : Nat} {e : TypeId} {A : Option Addr} {O : List HitM} {h : HitM} (hn : n = O.length) (hp : p ≤ n) (hs : TopL.Srt O) (h1 : ∀ j, p ≤ j → j < n → TopL.ahead h (O.getD j z2) = true) (h2 : 0 < p → TopL.ahead h (O.getD (p - 1) z2) = false)
    (ho : w.ownsRow base e 2 (.slice A (n + 1) c) (n + 1) ((flat O).take (p * 2) ++ (flat [h] ++ (flat O).drop (p * 2)))) : Hits w A c (TopL.ins h O) ∧ n + 1 ≤ c ∧ ∃ g, A = some ⟨g, 0, none⟩ := by
  subst hn
  have e1 : (flat O).take (p * 2) ++ (flat [h] ++ (flat O).drop (p * 2)) = flat (TopL.ins h O) := by
    rw [← ins_at O p hs hp h1 h2, flat_append, flat_take, show h :: O.drop p = [h] ++ O.drop p from rfl, flat_append, flat_drop]
  rw [e1] at ho
  have hl : O.length + 1 = (TopL.ins h O).length := (TopL.ins_length h O).symm
  obtain ⟨g, hA, _⟩ := row_some11 (by omega) ho
  rw [hl] at ho ⊢
  obtain ⟨A', c', e2, hh, _⟩ := Hits.own ho
  injection e2 with e3 _ e4
  subst e3 e4
  exact ⟨hh, hh.room, g, hA⟩
theorem found_next {w wr X : World} {K k n c c' : Nat} {v : List Int} {l : List Rv} {A A' : Option Addr} {h : HitM} {g : Nat} (hI : FndI w K v l k n A c wr) (hX : Below wr.heap.size wr X) (hs : hitL (l.take (k + 1)) v = hitL (l.take k) v ++ [h]) (hd : dimB (l.take (k + 1)) v = true) (hg : A' = some ⟨g, 0, none⟩)
    (hh : Hits X A' c' (TopL.ins h (firstM K (hitL (l.take k) v)))) : FndI w K v l (k + 1) (min K (n + 1)) A' c' X ∨ K = 0 := by
  obtain ⟨h1, h2, h3, h4, h7, h5, h6⟩ := hI
  rcases Nat.eq_zero_or_pos K with h0 | h0
  · exact .inr h0
  refine .inl ⟨?_, Nat.min_le_left _ _, ?_, (fun e => by rw [hg] at e; cases e), (fun _ _ => by omega), hd, h6.trans (hX.mono h6.size)⟩
  · rw [hs, TopL.first_snoc, List.length_take, TopL.ins_length, ← h1]
  · rw [hs, TopL.first_snoc]
    exact hh.take K (Nat.le_trans (by rw [List.length_take]; omega) hh.room) hh.most

theorem hits_new1 (w : World) (j : Nat) : ((w.alloc (.cells #[.int .u64 0, .int .u64 0] 76)).drewN j).cell? ⟨w.heap.size, 0, none⟩ = some (.int .u64 0) ∧ ((w.alloc (.cells #[.int .u64 0, .int .u64 0] 76)).drewN j).cell? ⟨w.heap.size, 1, none⟩ = some (.int .u64 0) ∧
    ((w.alloc (.cells #[.int .u64 0, .int .u64 0] 76)).drewN j).frozen? ⟨w.heap.size, 0, none⟩ = false ∧ ((w.alloc (.cells #[.int .u64 0, .int .u64 0] 76)).drewN j).frozen? ⟨w.heap.size, 1, none⟩ = false := by
  have h := heap_alloc_new w (.cells #[.int .u64 0, .int .u64 0] 76)
  have h : ((w.alloc (.cells #[.int .u64 0, .int .u64 0] 76)).drewN j).heap[w.heap.size]? = _ := h
  exact ⟨(cell_of_row _ _ 0 _ _ _ h).trans rfl, (cell_of_row _ _ 1 _ _ _ h).trans rfl, frozen_of_row _ _ _ _ _ h, frozen_of_row _ _ _ _ _ h⟩
theorem hits_new2 (w : World) (j : Nat) : ((w.drewN j).alloc (.cells #[.int .u64 0, .int .u64 0] 76)).cell? ⟨w.heap.size, 0, none⟩ = some (.int .u64 0) ∧ ((w.drewN j).alloc (.cells #[.int .u64 0, .int .u64 0] 76)).cell? ⟨w.heap.size, 1, none⟩ = some (.int .u64 0) ∧
    ((w.drewN j).alloc (.cells #[.int .u64 0, .int .u64 0] 76)).frozen? ⟨w.heap.size, 0, none⟩ = false ∧ ((w.drewN j).alloc (.cells #[.int .u64 0, .int .u64 0] 76)).frozen? ⟨w.heap.size, 1, none⟩ = false := by
  have h := heap_alloc_new (w.drewN j) (.cells #[.int .u64 0, .int .u64 0] 76)
  exact ⟨(cell_of_row _ _ 0 _ _ _ h).trans rfl, (cell_of_row _ _ 1 _ _ _ h).trans rfl, frozen_of_row _ _ _ _ _ h, frozen_of_row _ _ _ _ _ h⟩

theorem set_new1 (w : World) (j : Nat) (x y : Value) : Below w.heap.size w ((((w.drewN j).alloc (.cells #[.int .u64 0, .int .u64 0] 76)).setCell ⟨w.heap.size, 0, none⟩ x).setCell ⟨w.heap.size, 1, none⟩ y) ∧
    ((((w.drewN j).alloc (.cells #[.int .u64 0, .int .u64 0] 76)).setCell ⟨w.heap.size, 0, none⟩ x).setCell ⟨w.heap.size, 1, none⟩ y).heap[w.heap.size]? = some (.cells #[x, y] 76 (0, 0)) :=
  ⟨(((below_drewN (Below.refl _ _) _).alloc (Nat.le_refl _) _).setCell (Nat.le_refl _) _).setCell (Nat.le_refl _) _, TopL.set2 (heap_alloc_new (w.drewN j) (.cells #[.int .u64 0, .int .u64 0] 76)) x y⟩
theorem set_new2 (w : World) (j : Nat) (x y : Value) : Below w.heap.size w ((((w.alloc (.cells #[.int .u64 0, .int .u64 0] 76)).drewN j).setCell ⟨w.heap.size, 0, none⟩ x).setCell ⟨w.heap.size, 1, none⟩ y) ∧
    ((((w.alloc (.cells #[.int .u64 0, .int .u64 0] 76)).drewN j).setCell ⟨w.heap.size, 0, none⟩ x).setCell ⟨w.heap.size, 1, none⟩ y).heap[w.heap.size]? = some (.cells #[x, y] 76 (0, 0)) :=
  ⟨((below_drewN ((Below.refl _ _).alloc (Nat.le_refl _) _) _).setCell (Nat.le_refl _) _).setCell (Nat.le_refl _) _, TopL.set2 (w := (w.alloc (.cells #[.int .u64 0, .int .u64 0] 76)).drewN j) (heap_alloc_new w (.cells #[.int .u64 0, .int .u64 0] 76)) x y⟩

set_option maxHeartbeats 8000000 in
theorem found_any (v : List Int) (Av : Option Addr) (cv : Nat) (K : Nat) (A : Option Addr) (c : Nat) (q : List Pr) (w : World) (hv : Vec .i32 w Av cv v) (h : Rws w A c q) (hr : rightR (rvs q) = true) (hvr : right v = true) (hK1 : 1 ≤ K) (hK2 : K ≤ 16) :
    Calls Try.prog 29 #[.slice A q.length c, .agg #[.slice Av v.length cv, .int .i64 K]] w fun e w' => ∃ A' c', e = .returned (.tuple #[.slice A' (nearL K (rvs q) v).length c', .bool (dimB (rvs q) v)]) ∧ Hits w' A' c' (nearL K (rvs q) v) ∧ Below w.heap.size w w' := by
  obtain ⟨m, hm⟩ : ∃ m, m = q.length := ⟨_, rfl⟩
  have hml : m ≤ 9223372036854775807 := by rw [hm]; exact h.many
  obtain ⟨nv, hnv⟩ : ∃ n, n = v.length := ⟨_, rfl⟩
  obtain ⟨W0, hW0⟩ : ∃ W0, W0 = w.alloc (.cells #[.slice Av nv cv, .int .i64 K] 50) := ⟨_, rfl⟩
  have hb0 : Below w.heap.size w W0 := by rw [hW0]; exact (Below.refl _ w).alloc (Nat.le_refl _) _
  have hx0 : W0.heap[w.heap.size]? = some (.cells #[.slice Av nv cv, .int .i64 K] 50 (0, 0)) := by rw [hW0]; exact heap_alloc_new w _
  have HX := Lib.hid (fun (X : World) (hX : Below W0.heap.size W0 X) => show X.cell? ⟨w.heap.size, 0, none⟩ = some (.slice Av nv cv) ∧ X.cell? ⟨w.heap.size, 1, none⟩ = some (.int .i64 K) from by
    have X0 := (hX.block _ (lt_of_block hx0)).trans hx0
    exact ⟨(cell_of_row _ _ 0 _ _ _ X0).trans rfl, (cell_of_row _ _ 1 _ _ _ X0).trans rfl⟩)
  have HW := Lib.hid hW0
  have HV := Lib.hid (hv.below hb0)
  have HQ := Lib.hid (h.below hb0)
  have HR := Lib.hid hr
  have HVR := Lib.hid hvr
  have HM := Lib.hid hm
  have HN := Lib.hid hnv
  have HB0 := Lib.hid hb0
  obtain ⟨l, hl⟩ : ∃ l, l = rvs q := ⟨_, rfl⟩
  obtain ⟨L, hL⟩ : ∃ L, L = nearL K l v := ⟨_, rfl⟩
  obtain ⟨E, hE⟩ : ∃ E, E = dimB l v := ⟨_, rfl⟩
  have HLL := Lib.hid hl
  have HL := Lib.hid hL
  have HE := Lib.hid hE
  rw [← hl, ← hL, ← hE, ← hm, ← hnv]
  rw [← hl] at HR
  have hml2 : m = l.length := by rw [hl, rvs_length, hm]
  have HML := Lib.hid hml2
  clear hv h hr hvr hm hnv hW0 hb0 hx0 hl hL hE hml2
  go_enter Try.func29, Try.ntmps29
  go_wp2_with (rw [← HW.out])
  go_loopw [6, 7] (fun o i wr => ∃ (k n : Nat) (Ao : Option Addr) (co : Nat), k ≤ m ∧ n ≤ K ∧ o = .slice Ao n co ∧ i = .int .i64 k ∧ Hid (FndI W0 K v l k n Ao co wr)) (fun _ i _ => m - (intOf i).toNat)
  case atStart => exact ⟨0, 0, none, 0, Nat.zero_le _, Nat.zero_le _, rfl, rfl, Lib.hid ⟨by simp [hitL, firstM, TopL.sortM], Nat.zero_le _, by simpa [hitL, firstM, TopL.sortM] using Hits.nil _, fun _ => rfl, (fun _ e => by cases e), rfl, Below.refl _ _⟩⟩
  case round =>
    obtain ⟨k, n, Ao, co, hk, hnK, rfl, rfl, HI⟩ := hrel
    rename World => wo
    by_cases hkm : k < m
    · obtain ⟨b, o, p, rfl, hp, hb, d0, d1, hvx, hf⟩ := (HQ.out.below HI.out.2.2.2.2.2.2).at_ (i := k) (by rw [← HM.out]; exact hkm)
      obtain ⟨i, x, B, cb⟩ := p
      dsimp only at d0 d1 hvx hf
      have hpr : l[k]? = some (i, x) := by rw [HLL.out]; simp [rvs, hp]
      have hrx : right x = true := List.all_eq_true.1 HR.out _ (List.mem_of_getElem? hpr)
      have k0 : (0 : Int) ≤ k := by omega
      have km : (k : Int) < m := by omega
      have HDS := Lib.hid (dim_snoc (v := v) hpr)
      have HHS := Lib.hid (hitL_snoc (v := v) hpr)
      have HPR := Lib.hid hpr
      obtain ⟨nx, hnx⟩ : ∃ n, n = x.length := ⟨_, rfl⟩
      have HNX := Lib.hid hnx
      rw [← hnx] at d1
      have HC := Lib.hid (fun (X : World) (hX : Below wo.heap.size wo X) => show (X.cell? ⟨b, o + k * 2, none⟩ = some (.int .u64 i) ∧ X.cell? ⟨b, o + k * 2 + 1, none⟩ = some (.slice B nx cb)) ∧ X.cell? ⟨w.heap.size, 0, none⟩ = some (.slice Av nv cv) ∧ X.cell? ⟨w.heap.size, 1, none⟩ = some (.int .i64 K) from
        ⟨⟨(hX.cell (p := ⟨b, _, none⟩) hb).trans d0, (hX.cell (p := ⟨b, _, none⟩) hb).trans d1⟩, HX.out X (HI.out.2.2.2.2.2.2.trans (hX.mono HI.out.2.2.2.2.2.2.size))⟩)
      have HVX := Lib.hid hvx
      have HRX := Lib.hid hrx
      have HB8 := Lib.hid hb
      clear hp d0 d1 hvx hf hpr hrx hnx hb
      go_wp2_with fail
      refine region_quiet11 (fun X => Below wo.heap.size wo X) (by kernel_rfl) (by kernel_rfl) (below_drew (Below.refl _ _)) ?_
      repeat (first | go_big_quiet_skip | (go_big_quiet_want; go_big_quiet_op; first | go_big_quiet_on | (refine ⟨_, fun _ _ => rfl, ?_⟩; go_big_quiet_on) | (refine ⟨_, fun W hW => (by obtain ⟨⟨z1, z2⟩, z3, z4⟩ := HC.out W hW; simp only [z1, z2, z3, z4]; exact ⟨rfl, rfl⟩), ?_⟩; go_big_quiet_on)))
      refine wpQuiet_nil ?_
      intro w9 hq9
      have HW9 := Lib.hid hq9
      clear hq9
      by_cases hxl : nx = nv
      · have hE0 : distE x v = 0 := by rw [dist_dim HRX.out HVR.out, ← HNX.out, ← HN.out, hxl]; simp
        have hlv : v.length = x.length := by rw [← HNX.out, ← HN.out]; exact hxl.symm
        have HDn := Lib.hid (show dimB (l.take (k + 1)) v = true by rw [HDS.out, HI.out.2.2.2.2.2.1]; simp; rw [← HNX.out, ← HN.out]; exact hxl)
        obtain ⟨D, hD⟩ : ∃ D, D = distM x v := ⟨_, rfl⟩
        have HDi := Lib.hid (fun (X : World) (hX : Below w9.heap.size w9 X) => show Calls Try.prog 67 #[.slice B nx cb, .slice Av nv cv] X fun e w' => e = .returned (.int .u64 D) ∧ ∃ q, w' = X.drewN q from by
          have hXo : Below wo.heap.size wo X := HW9.out.trans (hX.mono HW9.out.size)
          have := rDist_any B Av cb cv x v X (HVX.out.below hXo) (HV.out.below (HI.out.2.2.2.2.2.2.trans (hXo.mono HI.out.2.2.2.2.2.2.size))) HRX.out HVR.out hlv
          rw [← HNX.out, ← HN.out, ← hD] at this
          exact this)
        have HHm := Lib.hid (show hitM v (i, x) = (i, D) by unfold hitM; dsimp only; rw [hD]; unfold distD; rw [if_pos hE0])
        have HC9 := Lib.hid (fun (X : World) (hX : Below w9.heap.size w9 X) => HC.out X (HW9.out.trans (hX.mono HW9.out.size)))
        clear hD hE0 hlv
        subst hxl
        have tx : ((nx : Int) != nx) = false := by simp
        obtain ⟨⟨z1, z2⟩, z3, z4⟩ := HC9.out w9 (Below.refl _ _)
        have HKS := Lib.hid (fun (X : World) (u v : Value) (hX : Below w9.heap.size w9 X) => HC9.out _ ((hX.setCell (p := ⟨w9.heap.size, 0, none⟩) (Nat.le_refl _) u).setCell (p := ⟨w9.heap.size, 1, none⟩) (Nat.le_refl _) v))
        have HD1 := Lib.hid (fun (j : Nat) (o : Obj) => show Below w9.heap.size w9 ((w9.drewN j).alloc o) from (below_drewN (Below.refl _ _) _).alloc (Nat.le_refl _) _)
        have HD2 := Lib.hid (fun (j : Nat) (o : Obj) => show Below w9.heap.size w9 ((w9.alloc o).drewN j) from below_drewN ((Below.refl _ _).alloc (Nat.le_refl _) _) _)
        have HS1 := Lib.hid (fun (j : Nat) => hits_new1 w9 j)
        have HS2 := Lib.hid (fun (j : Nat) => hits_new2 w9 j)
        go_wp2_with fail
        go_region_held3 (fun X => (X.cell? ⟨b, o + k * 2, none⟩ = some (.int .u64 i) ∧ X.cell? ⟨b, o + k * 2 + 1, none⟩ = some (.slice B nx cb)) ∧ X.cell? ⟨w.heap.size, 0, none⟩ = some (.slice Av nx cv) ∧ X.cell? ⟨w.heap.size, 1, none⟩ = some (.int .i64 K))
          (first | (with_reducible assumption) | (with_reducible exact HC9.out _ (below_drew (Below.refl _ _))) | (with_reducible exact HC9.out _ (below_drew ((Below.refl _ _).alloc (Nat.le_refl _) _))) | (with_reducible exact HC9.out _ (below_drewN (Below.refl _ _) _)) | (with_reducible exact HC9.out _ (HD1.out _ _)) | (with_reducible exact HC9.out _ (HD2.out _ _)) | (with_reducible exact HKS.out _ _ _ (HD1.out _ _)) | (with_reducible exact HKS.out _ _ _ (HD2.out _ _)))
          (first
          | (with_reducible refine (HDi.out _ (below_drew (Below.refl _ _))).mono ?_; rintro e w' ⟨rfl, q', rfl⟩; obtain ⟨u1, u2, u3, u4⟩ := HS1.out (1 + q'); obtain ⟨u5, u6, u7, u8⟩ := HS2.out (1 + q'))
          | (with_reducible refine (HDi.out _ (below_drew ((Below.refl _ _).alloc (Nat.le_refl _) _))).mono ?_; rintro e w' ⟨rfl, q', rfl⟩; obtain ⟨u1, u2, u3, u4⟩ := HS1.out (1 + q'); obtain ⟨u5, u6, u7, u8⟩ := HS2.out (1 + q')))
        all_goals (first | (have hF := set_new1 w9 (1 + q') (.int .u64 i) (.int .u64 D); obtain ⟨w10, hw10⟩ : ∃ X, X = ((((w9.drewN (1 + q')).alloc (.cells #[.int .u64 0, .int .u64 0] 76)).setCell ⟨w9.heap.size, 0, none⟩ (.int .u64 i)).setCell ⟨w9.heap.size, 1, none⟩ (.int .u64 D)) := ⟨_, rfl⟩; rw [← hw10]; rw [← hw10] at hF; clear hw10) | (have hF := set_new2 w9 (1 + q') (.int .u64 i) (.int .u64 D); obtain ⟨w10, hw10⟩ : ∃ X, X = ((((w9.alloc (.cells #[.int .u64 0, .int .u64 0] 76)).drewN (1 + q')).setCell ⟨w9.heap.size, 0, none⟩ (.int .u64 i)).setCell ⟨w9.heap.size, 1, none⟩ (.int .u64 D)) := ⟨_, rfl⟩; rw [← hw10]; rw [← hw10] at hF; clear hw10))
        all_goals
          have HF10 := Lib.hid hF
          have HH10 := Lib.hid (fun (X : World) (hX : Below w10.heap.size w10 X) => show X.cell? ⟨w9.heap.size, 0, none⟩ = some (.int .u64 i) ∧ X.cell? ⟨w9.heap.size, 1, none⟩ = some (.int .u64 D) from by
            have h := (hX.block _ (lt_of_block HF10.out.2)).trans HF10.out.2
            exact ⟨(cell_of_row _ _ 0 _ _ _ h).trans rfl, (cell_of_row _ _ 1 _ _ _ h).trans rfl⟩)
          have HI10 := Lib.hid (fun (X : World) (hX : Below w10.heap.size w10 X) => show FndI W0 K v l k n Ao co X from HI.out.below (HW9.out.trans ((HF10.out.1.trans (hX.mono HF10.out.1.size)).mono HW9.out.size)))
          have HC10 := Lib.hid (fun (X : World) (hX : Below w10.heap.size w10 X) => show X.cell? ⟨w.heap.size, 0, none⟩ = some (.slice Av nx cv) ∧ X.cell? ⟨w.heap.size, 1, none⟩ = some (.int .i64 K) from (HC9.out X (HF10.out.1.trans (hX.mono HF10.out.1.size))).2)
          obtain ⟨O, hO⟩ : ∃ O, O = firstM K (hitL (l.take k) v) := ⟨_, rfl⟩
          have HO := Lib.hid hO
          have HOs := Lib.hid (show n = O.length ∧ TopL.Srt O from ⟨by rw [hO]; exact HI.out.1, by rw [hO]; exact TopL.first_srt _ _⟩)
          clear hF hO z1 z2 z3 z4 u1 u2 u3 u4 u5 u6 u7 u8
          have n0 : (0 : Int) ≤ n := by omega
          go_wp2
          go_loopw [9] (fun at_ wr2 => ∃ (pp : Nat), at_ = .int .i64 pp ∧ pp ≤ n ∧ Hid (Below w10.heap.size w10 wr2 ∧ ∀ j, pp ≤ j → j < n → TopL.ahead (i, D) (O.getD j z2) = true)) (fun at_ _ => (intOf at_).toNat)
          case atStart => exact ⟨n, rfl, Nat.le_refl _, Lib.hid ⟨Below.refl _ _, fun j h1 h2 => by omega⟩⟩
          case round =>
            obtain ⟨pp, rfl, hpp, HJ⟩ := hrel
            by_cases hp0 : pp = 0
            · subst hp0
              go_wp2
              refine region_quiet11 (fun X => Below wr.heap.size wr X) (by kernel_rfl) (by kernel_rfl) (below_drew (Below.refl _ _)) ?_
              repeat (first | go_big_quiet_skip | (go_big_quiet_want; go_big_quiet_op; first | go_big_quiet_on | (refine ⟨_, fun _ _ => rfl, ?_⟩; go_big_quiet_on)))
              refine wpQuiet_nil ?_
              intro wq hqq
              have HWq := Lib.hid (HJ.out.1.trans (hqq.mono HJ.out.1.size))
              clear hqq
              go_wp2
              have HNot := Lib.hid (show 0 < 0 → TopL.ahead (i, D) (O.getD (0 - 1) z2) = false from fun h => absurd h (Nat.lt_irrefl _))
              have HAll := Lib.hid HJ.out.2
              rcases Ao with _ | a8
              · have hnz : n = 0 := by
                  rcases Nat.eq_zero_or_pos n with h | h
                  · exact h
                  · have hh := HI.out.2.2.1
                    obtain ⟨_, _, e, _⟩ := hh.rd (by rw [← HI.out.1]; exact h)
                    cases e
                have hcz : co = 0 := HI.out.2.2.2.1 rfl
                have hOz : O = [] := List.eq_nil_of_length_eq_zero (by rw [← HOs.out.1]; exact hnz)
                have HRf := Lib.hid (fun (X : World) (hX : Below wq.heap.size wq X) => show Read X none 0 2 ((flat O).take (0 * 2)) from ⟨by simp, by simp, fun _ => rfl, fun _ e => by cases e⟩)
                have HRl := Lib.hid (fun (X : World) (hX : Below wq.heap.size wq X) => show Read X none 0 2 ((flat O).drop (0 * 2)) from ⟨by rw [hOz]; rfl, by rw [hOz]; simp [flat], fun _ => rfl, fun _ e => by cases e⟩)
                clear hOz
                subst hnz hcz
                have HT := Lib.hid (fun (X : World) (hX : Below wq.heap.size wq X) => HH10.out X (HWq.out.trans (hX.mono HWq.out.size)))
                obtain ⟨e0, e1⟩ := HT.out wq (Below.refl _ _)
                have HOn := Lib.hid (show World.ownsRow ((wq.alloc (.cells #[.int .u64 i, .int .u64 D] 76)).drew) wq.heap.size 76 2 (.slice (some ⟨wq.heap.size, 0, none⟩) 1 1) 1 (flat [(i, D)]) from ⟨rfl, .inr ⟨wq.heap.size, 1, _, rfl, Nat.le_refl _, heap_alloc_new wq _, Nat.le_refl _, by decide, rfl, rfl⟩⟩)
                have hlen : 0 + (1 + 0) = 0 + 1 := by omega
                go_region_held3 (fun X => X.cell? ⟨w9.heap.size, 0, none⟩ = some (.int .u64 i) ∧ X.cell? ⟨w9.heap.size, 1, none⟩ = some (.int .u64 D))
                  (first | (with_reducible assumption) | (with_reducible exact HT.out _ (below_drew (Below.refl _ _))) | (with_reducible exact HT.out _ (below_drew ((Below.refl _ _).alloc (Nat.le_refl _) _))) | (with_reducible exact HT.out _ HB5.out) | (with_reducible exact HT.out _ HB6.out))
                  (first
                  | (refine gapp_step (by rfl) _ _ appH (by rfl) wq.heap.size (some ⟨wq.heap.size, 0, none⟩) 1 1 _ (by rfl) HOn.out none 0 0 ((flat O).drop (0 * 2)) (by rfl) (HRl.out _ (below_drew ((Below.refl _ _).alloc (Nat.le_refl _) _))) (by omega) (by simp) ?_; intro A5 c5 w5 ho5 hg5 _; have HB5 := Lib.hid (show Below wq.heap.size wq w5 from (below_drew ((Below.refl _ wq).alloc (Nat.le_refl _) _)).grown hg5 (by simp) (fun k hk => Nat.le_of_eq (show wq.heap.size = k by simpa [blk] using hk))); obtain ⟨g5, rfl, hg5l⟩ := row_some11 (by omega) ho5; have HO5 := Lib.hid ho5; clear ho5 hg5)
                  | (refine cut_step (by rfl) _ _ appH (by rfl) none 0 0 ((flat O).take (0 * 2)) rfl (by rfl) (HRf.out _ HB5.out) ⟨g5, 0, none⟩ _ (1 + 0) _ (by rfl) (read_own11 HO5.out (fun u hu => (List.mem_append.1 hu).elim (fun hu => flat_cell [(i, D)] u hu) (fun hu => flat_cell O u (List.mem_of_mem_drop hu)))) (by omega) (by omega) ?_; intro A6 c6 w6 ho6 hb6; rw [hlen] at ho6; rw [hlen]; have HB6 := Lib.hid (HB5.out.trans (hb6.mono HB5.out.size)); have HO6 := Lib.hid ho6; clear ho6 hb6))
                obtain ⟨hh6, hc6, g6, rfl⟩ := found_laid (p := 0) HOs.out.1 (by omega) HOs.out.2 HAll.out HNot.out HO6.out
                have HBx := Lib.hid (HWq.out.trans (HB6.out.mono HWq.out.size))
                have hnx := found_next (A' := some ⟨g6, 0, none⟩) (HI10.out w10 (Below.refl _ _)) HBx.out (HHS.out.trans (by rw [HHm.out])) HDn.out rfl (by rw [← HO.out]; exact hh6)
                have HNx := Lib.hid (hnx.resolve_right (by omega))
                have hc6i : (0 : Int) + 1 ≤ c6 := by omega
                obtain ⟨z3, z4⟩ := HC10.out w6 HBx.out
                clear hnx hh6 e0 e1
                by_cases hfull : K < 0 + 1
                · exact absurd hfull (by omega)
                · have t1 : decide ((K : Int) < (0 : Int) + 1) = false := by simp; omega
                  have hmin : min K (0 + 1) = 0 + 1 := by omega
                  rw [hmin] at HNx
                  go_wp2
                  go_roundw
                  case rel => exact ⟨k + 1, 0 + 1, some ⟨g6, 0, none⟩, c6, by omega, by omega, rfl, by go_num, HNx⟩
                  case measure => simp [intOf]; omega
              · have hpos : 0 < n := HI.out.2.2.2.2.1 _ rfl
                obtain ⟨b8, o8, e8, hb8, _⟩ := HI.out.2.2.1.rd (by rw [← HI.out.1]; exact hpos)
                injection e8 with e8
                subst e8
                have hnc : n ≤ co := by have h := HI.out.2.2.1.room; rw [← HI.out.1] at h; exact h
                have HRe := Lib.hid (fun (X : World) (hX : Below wq.heap.size wq X) => show Read X (some ⟨b8, o8, none⟩) n 2 (flat O) from by
                  have h := Read.hits (HI10.out X (HWq.out.trans (hX.mono HWq.out.size))).2.2.1
                  rw [← HO.out, ← HOs.out.1] at h
                  exact h)
                have HRf := Lib.hid (fun (X : World) (hX : Below wq.heap.size wq X) => (HRe.out X hX).first (k := 0) (by omega))
                have HRl := Lib.hid (fun (X : World) (hX : Below wq.heap.size wq X) => show Read X (some ⟨b8, o8, none⟩) n 2 ((flat O).drop (0 * 2)) from by simpa using HRe.out X hX)
                clear hb8
                have HT := Lib.hid (fun (X : World) (hX : Below wq.heap.size wq X) => HH10.out X (HWq.out.trans (hX.mono HWq.out.size)))
                obtain ⟨e0, e1⟩ := HT.out wq (Below.refl _ _)
                have HOn := Lib.hid (show World.ownsRow ((wq.alloc (.cells #[.int .u64 i, .int .u64 D] 76)).drew) wq.heap.size 76 2 (.slice (some ⟨wq.heap.size, 0, none⟩) 1 1) 1 (flat [(i, D)]) from ⟨rfl, .inr ⟨wq.heap.size, 1, _, rfl, Nat.le_refl _, heap_alloc_new wq _, Nat.le_refl _, by decide, rfl, rfl⟩⟩)
                have hlen : 0 + (1 + n) = n + 1 := by omega
                have hnco : (n : Int) ≤ co := by omega
                have co0 : (0 : Int) ≤ co := by omega
                have hcj2 : (co == 0) = false := by simp; omega
                have hcj3 : ¬ (co = 0) := by omega
                go_region_held3 (fun X => X.cell? ⟨w9.heap.size, 0, none⟩ = some (.int .u64 i) ∧ X.cell? ⟨w9.heap.size, 1, none⟩ = some (.int .u64 D))
                  (first | (with_reducible assumption) | (with_reducible exact HT.out _ (below_drew (Below.refl _ _))) | (with_reducible exact HT.out _ (below_drew ((Below.refl _ _).alloc (Nat.le_refl _) _))) | (with_reducible exact HT.out _ HB5.out) | (with_reducible exact HT.out _ HB6.out))
                  (first
                  | (refine gapp_step (by rfl) _ _ appH (by rfl) wq.heap.size (some ⟨wq.heap.size, 0, none⟩) 1 1 _ (by rfl) HOn.out (some ⟨b8, o8, none⟩) co n ((flat O).drop (0 * 2)) (by rfl) (HRl.out _ (below_drew ((Below.refl _ _).alloc (Nat.le_refl _) _))) (by omega) (by simp) ?_; intro A5 c5 w5 ho5 hg5 _; have HB5 := Lib.hid (show Below wq.heap.size wq w5 from (below_drew ((Below.refl _ wq).alloc (Nat.le_refl _) _)).grown hg5 (by simp) (fun k hk => Nat.le_of_eq (show wq.heap.size = k by simpa [blk] using hk))); obtain ⟨g5, rfl, hg5l⟩ := row_some11 (by omega) ho5; have HO5 := Lib.hid ho5; clear ho5 hg5)
                  | (refine cut_step (by rfl) _ _ appH (by rfl) (some ⟨b8, o8, none⟩) 0 0 ((flat O).take (0 * 2)) rfl (by rfl) (HRf.out _ HB5.out) ⟨g5, 0, none⟩ _ (1 + n) _ (by rfl) (read_own11 HO5.out (fun u hu => (List.mem_append.1 hu).elim (fun hu => flat_cell [(i, D)] u hu) (fun hu => flat_cell O u (List.mem_of_mem_drop hu)))) (by omega) (by omega) ?_; intro A6 c6 w6 ho6 hb6; rw [hlen] at ho6; rw [hlen]; have HB6 := Lib.hid (HB5.out.trans (hb6.mono HB5.out.size)); have HO6 := Lib.hid ho6; clear ho6 hb6))
                obtain ⟨hh6, hc6, g6, rfl⟩ := found_laid (p := 0) HOs.out.1 (by omega) HOs.out.2 HAll.out HNot.out HO6.out
                have HBx := Lib.hid (HWq.out.trans (HB6.out.mono HWq.out.size))
                have hnx := found_next (A' := some ⟨g6, 0, none⟩) (HI10.out w10 (Below.refl _ _)) HBx.out (HHS.out.trans (by rw [HHm.out])) HDn.out rfl (by rw [← HO.out]; exact hh6)
                have HNx := Lib.hid (hnx.resolve_right (by omega))
                have hc6i : (n : Int) + 1 ≤ c6 := by omega
                obtain ⟨z3, z4⟩ := HC10.out w6 HBx.out
                clear hnx hh6 e0 e1
                by_cases hfull : K < n + 1
                · have hKn : K = n := by omega
                  have t1 : decide ((K : Int) < (n : Int) + 1) = true := by simp; omega
                  have K0 : (0 : Int) ≤ K := by omega
                  have Kc : (K : Int) ≤ c6 := by omega
                  have hmin : min K (n + 1) = K := by omega
                  rw [hmin] at HNx
                  clear hKn
                  go_wp2
                  go_roundw
                  case rel => exact ⟨k + 1, K, some ⟨g6, 0, none⟩, c6, by omega, Nat.le_refl _, rfl, by go_num, HNx⟩
                  case measure => simp [intOf]; omega
                · have t1 : decide ((K : Int) < (n : Int) + 1) = false := by simp; omega
                  have hmin : min K (n + 1) = n + 1 := by omega
                  rw [hmin] at HNx
                  go_wp2
                  go_roundw
                  case rel => exact ⟨k + 1, n + 1, some ⟨g6, 0, none⟩, c6, by omega, by omega, rfl, by go_num, HNx⟩
                  case measure => simp [intOf]; omega
            · obtain ⟨j, rfl⟩ : ∃ j, pp = j + 1 := ⟨pp - 1, by omega⟩
              obtain ⟨b8, o8, e8, hb8, g0, g1⟩ := (HI10.out wr HJ.out.1).2.2.1.at_ (j := j) (by rw [← HI.out.1]; omega)
              subst e8
              rw [← HO.out] at g0 g1
              obtain ⟨y, hy⟩ : ∃ y, y = O.getD j z2 := ⟨_, rfl⟩
              rw [← hy] at g0 g1
              have HY := Lib.hid hy
              obtain ⟨y1, y2⟩ := y
              dsimp only at g0 g1
              have HBe := Lib.hid (fun (X : World) => rBefore_any i D y1 y2 X)
              have HK := Lib.hid (fun (X : World) (hX : Below wr.heap.size wr X) => show (X.cell? ⟨w9.heap.size, 0, none⟩ = some (.int .u64 i) ∧ X.cell? ⟨w9.heap.size, 1, none⟩ = some (.int .u64 D)) ∧ X.cell? ⟨b8, o8 + j * 2, none⟩ = some (.int .u64 y1) ∧ X.cell? ⟨b8, o8 + j * 2 + 1, none⟩ = some (.int .u64 y2) from
                ⟨HH10.out X (HJ.out.1.trans (hX.mono HJ.out.1.size)), (hX.cell (p := ⟨b8, _, none⟩) hb8).trans g0, (hX.cell (p := ⟨b8, _, none⟩) hb8).trans g1⟩)
              have j0 : (0 : Int) ≤ j := by omega
              have jn : (j : Int) < n := by omega
              have hsub : ((j + 1 : Nat) : Int) - 1 = j := by omega
              have hsub2 : (j : Int) + 1 - 1 = j := by omega
              have hw : IntKind.i64.wrap (j : Int) = j := by rw [IntKind.wrap_i64, Int.emod_eq_of_lt (by omega) (by omega)]; omega
              have tk : decide ((0 : Int) < (j : Int) + 1) = true := by simp
              clear hb8 g0 g1 hy
              go_wp2
              refine region_quiet11 (fun X => Below wr.heap.size wr X) (by kernel_rfl) (by kernel_rfl) (below_drew (Below.refl _ _)) ?_
              repeat (first | go_big_quiet_skip | (go_big_quiet_want; go_big_quiet_op; first | go_big_quiet_on | (refine ⟨_, fun _ _ => rfl, ?_⟩; go_big_quiet_on) | (refine ⟨_, fun W hW => (HBe.out W).mono (fun _ _ h => ⟨h.1, hW.trans (h.2.mono hW.size)⟩), ?_⟩; go_big_quiet_on) | (refine ⟨_, fun W hW => (by obtain ⟨⟨z1, z2⟩, y1, y2⟩ := HK.out W hW; simp only [z1]; exact ⟨rfl, rfl⟩), ?_⟩; go_big_quiet_on) | (refine ⟨_, fun W hW => (by obtain ⟨⟨z1, z2⟩, y1, y2⟩ := HK.out W hW; simp only [Result.andThen, z1, z2, y1, y2]; exact ⟨trivial, rfl⟩), ?_⟩; go_big_quiet_on)))
              refine wpQuiet_nil ?_
              intro wq hqq
              have HWq := Lib.hid (HJ.out.1.trans (hqq.mono HJ.out.1.size))
              clear hqq
              cases hah : TopL.ahead (i, D) (y1, y2) with
              | true =>
                have HN2 := Lib.hid (show ∀ z, j ≤ z → z < n → TopL.ahead (i, D) (O.getD z z2) = true from fun z hz hzn => by
                  rcases Nat.eq_or_lt_of_le hz with h | h
                  · rw [← h, ← HY.out]; exact hah
                  · exact HJ.out.2 z h hzn)
                clear hah
                go_wp2
                go_roundw
                case rel => exact ⟨j, by go_num, by omega, Lib.hid ⟨HWq.out, HN2.out⟩⟩
                case measure => simp [intOf]
              | false =>
                have HNot := Lib.hid (show 0 < j + 1 → TopL.ahead (i, D) (O.getD (j + 1 - 1) z2) = false from fun _ => by rw [Nat.add_sub_cancel, ← HY.out]; exact hah)
                have HAll := Lib.hid HJ.out.2
                clear hah
                go_wp2
                have hnc : n ≤ co := by have h := HI.out.2.2.1.room; rw [← HI.out.1] at h; exact h
                have hjn : j + 1 ≤ n := hpp
                have HRe := Lib.hid (fun (X : World) (hX : Below wq.heap.size wq X) => show Read X (some ⟨b8, o8, none⟩) n 2 (flat O) from by
                  have h := Read.hits (HI10.out X (HWq.out.trans (hX.mono HWq.out.size))).2.2.1
                  rw [← HO.out, ← HOs.out.1] at h
                  exact h)
                have HRf := Lib.hid (fun (X : World) (hX : Below wq.heap.size wq X) => (HRe.out X hX).first (k := j + 1) (by omega))
                have hnco : (n : Int) ≤ co := by omega
                have j1n : (j : Int) + 1 ≤ n := by omega
                have j1c : (j : Int) + 1 ≤ co := by omega
                have j10 : (0 : Int) ≤ (j : Int) + 1 := by omega
                by_cases hcj : co = j + 1
                · have hne : n = j + 1 := by omega
                  have HRl := Lib.hid (fun (X : World) (hX : Below wq.heap.size wq X) => show Read X (some ⟨b8, o8, none⟩) 0 2 ((flat O).drop ((j + 1) * 2)) from ⟨by rw [List.length_drop, flat_length, ← HOs.out.1, hne]; simp, fun u hu => flat_cell O u (List.mem_of_mem_drop hu), fun _ => rfl, fun _ _ z u hz => by
                    have hd : (flat O).drop ((j + 1) * 2) = [] := List.drop_eq_nil_of_le (by rw [flat_length, ← HOs.out.1, hne]; exact Nat.le_refl _)
                    rw [hd] at hz
                    simp at hz⟩)
                  subst hne
                  subst hcj
                  have HT := Lib.hid (fun (X : World) (hX : Below wq.heap.size wq X) => HH10.out X (HWq.out.trans (hX.mono HWq.out.size)))
                  obtain ⟨e0, e1⟩ := HT.out wq (Below.refl _ _)
                  have HOn := Lib.hid (show World.ownsRow ((wq.alloc (.cells #[.int .u64 i, .int .u64 D] 76)).drew) wq.heap.size 76 2 (.slice (some ⟨wq.heap.size, 0, none⟩) 1 1) 1 (flat [(i, D)]) from ⟨rfl, .inr ⟨wq.heap.size, 1, _, rfl, Nat.le_refl _, heap_alloc_new wq _, Nat.le_refl _, by decide, rfl, rfl⟩⟩)
                  have hlen : (j + 1) + (1 + 0) = (j + 1) + 1 := by omega
                  go_region_held3 (fun X => X.cell? ⟨w9.heap.size, 0, none⟩ = some (.int .u64 i) ∧ X.cell? ⟨w9.heap.size, 1, none⟩ = some (.int .u64 D))
                    (first | (with_reducible assumption) | (with_reducible exact HT.out _ (below_drew (Below.refl _ _))) | (with_reducible exact HT.out _ (below_drew ((Below.refl _ _).alloc (Nat.le_refl _) _))) | (with_reducible exact HT.out _ HB5.out) | (with_reducible exact HT.out _ HB6.out))
                    (first
                    | (refine gapp_step (by rfl) _ _ appH (by rfl) wq.heap.size (some ⟨wq.heap.size, 0, none⟩) 1 1 _ (by rfl) HOn.out (some ⟨b8, o8, none⟩) 0 0 ((flat O).drop ((j + 1) * 2)) (by rfl) (HRl.out _ (below_drew ((Below.refl _ _).alloc (Nat.le_refl _) _))) (by omega) (by simp) ?_; intro A5 c5 w5 ho5 hg5 _; have HB5 := Lib.hid (show Below wq.heap.size wq w5 from (below_drew ((Below.refl _ wq).alloc (Nat.le_refl _) _)).grown hg5 (by simp) (fun k hk => Nat.le_of_eq (show wq.heap.size = k by simpa [blk] using hk))); obtain ⟨g5, rfl, hg5l⟩ := row_some11 (by omega) ho5; have HO5 := Lib.hid ho5; clear ho5 hg5)
                    | (refine cut_step (by rfl) _ _ appH (by rfl) (some ⟨b8, o8, none⟩) (j + 1) (j + 1) ((flat O).take ((j + 1) * 2)) rfl (by rfl) (HRf.out _ HB5.out) ⟨g5, 0, none⟩ _ (1 + 0) _ (by rfl) (read_own11 HO5.out (fun u hu => (List.mem_append.1 hu).elim (fun hu => flat_cell [(i, D)] u hu) (fun hu => flat_cell O u (List.mem_of_mem_drop hu)))) (by omega) (by omega) ?_; intro A6 c6 w6 ho6 hb6; rw [hlen] at ho6; rw [hlen]; have HB6 := Lib.hid (HB5.out.trans (hb6.mono HB5.out.size)); have HO6 := Lib.hid ho6; clear ho6 hb6))
                  obtain ⟨hh6, hc6, g6, rfl⟩ := found_laid (p := (j + 1)) HOs.out.1 (by omega) HOs.out.2 HAll.out HNot.out HO6.out
                  have HBx := Lib.hid (HWq.out.trans (HB6.out.mono HWq.out.size))
                  have hnx := found_next (A' := some ⟨g6, 0, none⟩) (HI10.out w10 (Below.refl _ _)) HBx.out (HHS.out.trans (by rw [HHm.out])) HDn.out rfl (by rw [← HO.out]; exact hh6)
                  have HNx := Lib.hid (hnx.resolve_right (by omega))
                  have hc6i : ((j + 1) : Int) + 1 ≤ c6 := by omega
                  obtain ⟨z3, z4⟩ := HC10.out w6 HBx.out
                  clear hnx hh6 e0 e1
                  by_cases hfull : K < (j + 1) + 1
                  · have hKn : K = (j + 1) := by omega
                    have t1 : decide ((K : Int) < ((j + 1) : Int) + 1) = true := by simp; omega
                    have K0 : (0 : Int) ≤ K := by omega
                    have Kc : (K : Int) ≤ c6 := by omega
                    have hmin : min K ((j + 1) + 1) = K := by omega
                    rw [hmin] at HNx
                    clear hKn
                    go_wp2
                    go_roundw
                    case rel => exact ⟨k + 1, K, some ⟨g6, 0, none⟩, c6, by omega, Nat.le_refl _, rfl, by go_num, HNx⟩
                    case measure => simp [intOf]; omega
                  · have t1 : decide ((K : Int) < ((j + 1) : Int) + 1) = false := by simp; omega
                    have hmin : min K ((j + 1) + 1) = (j + 1) + 1 := by omega
                    rw [hmin] at HNx
                    go_wp2
                    go_roundw
                    case rel => exact ⟨k + 1, (j + 1) + 1, some ⟨g6, 0, none⟩, c6, by omega, by omega, rfl, by go_num, HNx⟩
                    case measure => simp [intOf]; omega
                · have hcj2 : (co - (j + 1) == 0) = false := by simp; omega
                  have hcj3 : ¬ (co = j + 1) := hcj
                  have hcj4 : ¬ ((co : Int) = (j : Int) + 1) := by omega
                  have HRl := Lib.hid (fun (X : World) (hX : Below wq.heap.size wq X) => show Read X (some ⟨b8, o8 + (j + 1) * 2, none⟩) (n - (j + 1)) 2 ((flat O).drop ((j + 1) * 2)) from by
                    have := (HRe.out X hX).last (k := j + 1) (by omega)
                    simpa [Addr.add] using this)
                  have HT := Lib.hid (fun (X : World) (hX : Below wq.heap.size wq X) => HH10.out X (HWq.out.trans (hX.mono HWq.out.size)))
                  obtain ⟨e0, e1⟩ := HT.out wq (Below.refl _ _)
                  have HOn := Lib.hid (show World.ownsRow ((wq.alloc (.cells #[.int .u64 i, .int .u64 D] 76)).drew) wq.heap.size 76 2 (.slice (some ⟨wq.heap.size, 0, none⟩) 1 1) 1 (flat [(i, D)]) from ⟨rfl, .inr ⟨wq.heap.size, 1, _, rfl, Nat.le_refl _, heap_alloc_new wq _, Nat.le_refl _, by decide, rfl, rfl⟩⟩)
                  have hlen : (j + 1) + (1 + (n - (j + 1))) = n + 1 := by omega
                  go_region_held3 (fun X => X.cell? ⟨w9.heap.size, 0, none⟩ = some (.int .u64 i) ∧ X.cell? ⟨w9.heap.size, 1, none⟩ = some (.int .u64 D))
                    (first | (with_reducible assumption) | (with_reducible exact HT.out _ (below_drew (Below.refl _ _))) | (with_reducible exact HT.out _ (below_drew ((Below.refl _ _).alloc (Nat.le_refl _) _))) | (with_reducible exact HT.out _ HB5.out) | (with_reducible exact HT.out _ HB6.out))
                    (first
                    | (refine gapp_step (by rfl) _ _ appH (by rfl) wq.heap.size (some ⟨wq.heap.size, 0, none⟩) 1 1 _ (by rfl) HOn.out (some ⟨b8, o8 + (j + 1) * 2, none⟩) (co - (j + 1)) (n - (j + 1)) ((flat O).drop ((j + 1) * 2)) (by rfl) (HRl.out _ (below_drew ((Below.refl _ _).alloc (Nat.le_refl _) _))) (by omega) (by simp) ?_; intro A5 c5 w5 ho5 hg5 _; have HB5 := Lib.hid (show Below wq.heap.size wq w5 from (below_drew ((Below.refl _ wq).alloc (Nat.le_refl _) _)).grown hg5 (by simp) (fun k hk => Nat.le_of_eq (show wq.heap.size = k by simpa [blk] using hk))); obtain ⟨g5, rfl, hg5l⟩ := row_some11 (by omega) ho5; have HO5 := Lib.hid ho5; clear ho5 hg5)
                    | (refine cut_step (by rfl) _ _ appH (by rfl) (some ⟨b8, o8, none⟩) (j + 1) (j + 1) ((flat O).take ((j + 1) * 2)) rfl (by rfl) (HRf.out _ HB5.out) ⟨g5, 0, none⟩ _ (1 + (n - (j + 1))) _ (by rfl) (read_own11 HO5.out (fun u hu => (List.mem_append.1 hu).elim (fun hu => flat_cell [(i, D)] u hu) (fun hu => flat_cell O u (List.mem_of_mem_drop hu)))) (by omega) (by omega) ?_; intro A6 c6 w6 ho6 hb6; rw [hlen] at ho6; rw [hlen]; have HB6 := Lib.hid (HB5.out.trans (hb6.mono HB5.out.size)); have HO6 := Lib.hid ho6; clear ho6 hb6))
                  obtain ⟨hh6, hc6, g6, rfl⟩ := found_laid (p := (j + 1)) HOs.out.1 (by omega) HOs.out.2 HAll.out HNot.out HO6.out
                  have HBx := Lib.hid (HWq.out.trans (HB6.out.mono HWq.out.size))
                  have hnx := found_next (A' := some ⟨g6, 0, none⟩) (HI10.out w10 (Below.refl _ _)) HBx.out (HHS.out.trans (by rw [HHm.out])) HDn.out rfl (by rw [← HO.out]; exact hh6)
                  have HNx := Lib.hid (hnx.resolve_right (by omega))
                  have hc6i : (n : Int) + 1 ≤ c6 := by omega
                  obtain ⟨z3, z4⟩ := HC10.out w6 HBx.out
                  clear hnx hh6 e0 e1
                  by_cases hfull : K < n + 1
                  · have hKn : K = n := by omega
                    have t1 : decide ((K : Int) < (n : Int) + 1) = true := by simp; omega
                    have K0 : (0 : Int) ≤ K := by omega
                    have Kc : (K : Int) ≤ c6 := by omega
                    have hmin : min K (n + 1) = K := by omega
                    rw [hmin] at HNx
                    clear hKn
                    go_wp2
                    go_roundw
                    case rel => exact ⟨k + 1, K, some ⟨g6, 0, none⟩, c6, by omega, Nat.le_refl _, rfl, by go_num, HNx⟩
                    case measure => simp [intOf]; omega
                  · have t1 : decide ((K : Int) < (n : Int) + 1) = false := by simp; omega
                    have hmin : min K (n + 1) = n + 1 := by omega
                    rw [hmin] at HNx
                    go_wp2
                    go_roundw
                    case rel => exact ⟨k + 1, n + 1, some ⟨g6, 0, none⟩, c6, by omega, by omega, rfl, by go_num, HNx⟩
                    case measure => simp [intOf]; omega
      · have tx : ((nx : Int) != nv) = true := by simp; omega
        have hdn : dimB l v = false := dim_no HPR.out (by dsimp only; rw [← HNX.out, ← HN.out]; exact hxl)
        have HE1 := Lib.hid (show E = false by rw [HE.out, hdn])
        have HL1 := Lib.hid (show L = [] by rw [HL.out]; unfold nearL; rw [hdn]; rfl)
        have HBf := Lib.hid (HI.out.2.2.2.2.2.2.trans (HW9.out.mono HI.out.2.2.2.2.2.2.size))
        clear hxl hdn
        go_wp2
        go_ret2
        rw [HE1.out, HL1.out]
        exact ⟨none, 0, rfl, Hits.nil _, HB0.out.trans (HBf.out.mono HB0.out.size)⟩
    · obtain rfl : k = m := by omega
      obtain ⟨i1, i2, i3, i4, i7, i5, i6⟩ := HI.out
      have ht : l.take k = l := List.take_of_length_le (Nat.le_of_eq HML.out.symm)
      rw [ht] at i1 i3 i5
      have HE1 := Lib.hid (show E = true by rw [HE.out, i5])
      have HL1 := Lib.hid (show L = firstM K (hitL l v) by rw [HL.out]; unfold nearL; rw [if_pos i5])
      have HF := Lib.hid (show n = L.length ∧ Hits wo Ao co L ∧ Below W0.heap.size W0 wo by rw [HL1.out]; exact ⟨i1, i3, i6⟩)
      clear i1 i2 i3 i4 i5 i6 i7 ht
      go_wp2
      go_ret2
      rw [HE1.out, ← HF.out.1]
      exact ⟨Ao, co, rfl, HF.out.2.1, HB0.out.trans (HF.out.2.2.mono HB0.out.size)⟩

end Go.Proofs.Ytdbcecmlakgknaa
