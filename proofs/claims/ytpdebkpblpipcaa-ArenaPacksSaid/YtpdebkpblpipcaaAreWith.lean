/-
  The document's With: an arena with another cell in a slot.
-/
import Derived.Test.YtpdebkpblpipcaaAreRef
import Derived.Test.YtpdebkpblpipcaaArePut
import Derived.Test.YtpdebkpblpipcaaArePack
namespace Go.Proofs.Ytpdebkpblpipcaa
open Go.RowKit Go.Shelf
set_option linter.unusedVariables false
set_option linter.unusedSimpArgs false
set_option maxRecDepth 100000

theorem vec_empty {k : IntKind} {w w' : World} {A : Option Addr} {c : Nat} {xs : List Int} (h : Vec k w A c xs) (hx : xs = []) : Vec k w' A c xs := by
  subst hx
  exact ⟨h.room, h.most, fun h => absurd h (by simp), by simp⟩
/-- A row of cells of the call's own. -/
def RowA (base : Nat) (w : World) (A : Option Addr) (c : Nat) (q : List Pa) : Prop := w.ownsRow base 45 5 (.slice A q.length c) q.length (flatA q)
theorem RowA.are {base : Nat} {w0 w : World} {A : Option Addr} {c : Nat} {q : List Pa} (h : RowA base w A c q) (hv : ∀ p ∈ q, Vec .i32 w0 p.B p.c p.e.x) (hf : ∀ p ∈ q, Fit p.e) (hb : Below w0.heap.size w0 w) : Are w A c q :=
  own_are h (fun p hp => (hv p hp).below hb) hf
theorem RowA.turn {base : Nat} {w w' : World} {A : Option Addr} {c : Nat} {q : List Pa} {S : Nat → Prop} (h : RowA base w A c q) (ht : Turn S w w') (hS : ∀ i, blk A = some i → ¬ S i) : RowA base w' A c q :=
  row_turn h ht (fun i hi => hS i (by rw [own_blk] at hi; exact hi))
theorem RowA.lo {base : Nat} {w : World} {A : Option Addr} {c : Nat} {q : List Pa} (h : RowA base w A c q) : ∀ i, blk A = some i → base ≤ i ∧ i < w.heap.size := fun i hi => World.ownsRow.lt h i (by rw [own_blk]; exact hi)
theorem row_put5 {base g c n : Nat} {w : World} {q : List Pa} {i : Nat} {p : Pa} (h : w.ownsRow base 45 5 (.slice (some ⟨g, 0, none⟩) n c) n (flatA q)) (hn : q.length = n) (hi : i < n) : RowA base (put5 w g (i * 5) p) (some ⟨g, 0, none⟩) c (q.set i p) := by
  have hs := (((((h.stored (i * 5) (.bool p.e.u)).1.stored (i * 5 + 1) (.int .u64 p.e.i)).1.stored (i * 5 + 2) (.int .u64 p.e.b)).1.stored (i * 5 + 3) (.int .u64 p.e.f)).1.stored (i * 5 + 4) (.slice p.B p.e.x.length p.c)).1
  rw [flatA_set q i p (by omega)] at hs
  unfold RowA
  rw [List.length_set, hn]
  exact hs

/-- What lies in the boxes of With. -/
structure WithB (w W0 : World) (A : Option Addr) (n c : Nat) (u : Bool) (i b f : Int) (B : Option Addr) (nx cx : Nat) : Prop where
  size : W0.heap.size = w.heap.size + 3
  below : Below w.heap.size w W0
  ar : Boxed W0 w.heap.size 24 (.slice A n c)
  ce : W0.heap[w.heap.size + 1]? = some (.cells #[.bool u, .int .u64 i, .int .u64 b, .int .u64 f, .slice B nx cx] 45 (0, 0))
  res : Boxed W0 (w.heap.size + 2) 24 (.slice none 0 0)
theorem withB (w : World) (A : Option Addr) (n c : Nat) (u : Bool) (i b f : Int) (B : Option Addr) (nx cx : Nat) : WithB w (((w.alloc (.cells #[.slice A n c] 24)).alloc (.cells #[.bool u, .int .u64 i, .int .u64 b, .int .u64 f, .slice B nx cx] 45)).alloc (.cells #[.slice none 0 0] 24)) A n c u i b f B nx cx := by
  refine ⟨by simp, (((Below.refl _ w).alloc (Nat.le_refl _) _).alloc (by simp) _).alloc (by simp; omega) _, ((Boxed.new w _ _).alloc _).alloc _, ?_, ?_⟩
  · have h := heap_alloc_new (w.alloc (.cells #[.slice A n c] 24)) (.cells #[.bool u, .int .u64 i, .int .u64 b, .int .u64 f, .slice B nx cx] 45)
    rw [World.size_alloc] at h
    exact (Below.heap_alloc _ _ _ (by simp)).trans h
  · have h := Boxed.new ((w.alloc (.cells #[.slice A n c] 24)).alloc (.cells #[.bool u, .int .u64 i, .int .u64 b, .int .u64 f, .slice B nx cx] 45)) 24 (.slice none 0 0)
    rw [World.size_alloc, World.size_alloc] at h
    exact h

theorem with_after {w W0 w1 : World} {A A1 : Option Addr} {n c c1 k : Nat} {u : Bool} {i b f : Int} {B : Option Addr} {nx cx : Nat} {q : List Pa} (hP : WithB w W0 A n c u i b f B nx cx)
    (ho : w1.ownsRow W0.heap.size 45 5 (.slice A1 (0 + n) c1) (0 + n) ([] ++ flatA q)) (hg : (W0.alloc (.cells #[] 45)).grownBy w1 (blk (some ⟨W0.heap.size, 0, none⟩))) (hn : q.length = n) (hk : k < n) :
    ∃ g, A1 = some ⟨g, 0, none⟩ ∧ W0.heap.size ≤ g ∧ w1.ownsRow W0.heap.size 45 5 (.slice (some ⟨g, 0, none⟩) n c1) n (flatA q) ∧ Below W0.heap.size W0 w1 ∧
      (∃ p0 : Pa, w1.cell? ⟨g, k * 5, none⟩ = some (.bool p0.e.u) ∧ w1.cell? ⟨g, k * 5 + 1, none⟩ = some (.int .u64 p0.e.i) ∧ w1.cell? ⟨g, k * 5 + 2, none⟩ = some (.int .u64 p0.e.b) ∧ w1.cell? ⟨g, k * 5 + 3, none⟩ = some (.int .u64 p0.e.f) ∧ w1.cell? ⟨g, k * 5 + 4, none⟩ = some (.slice p0.B p0.e.x.length p0.c)) ∧
      (w1.frozen? ⟨g, k * 5, none⟩ = false ∧ w1.frozen? ⟨g, k * 5 + 1, none⟩ = false ∧ w1.frozen? ⟨g, k * 5 + 2, none⟩ = false ∧ w1.frozen? ⟨g, k * 5 + 3, none⟩ = false ∧ w1.frozen? ⟨g, k * 5 + 4, none⟩ = false) ∧
      (w1.cell? ⟨w.heap.size + 1, 0, none⟩ = some (.bool u) ∧ w1.cell? ⟨w.heap.size + 1, 1, none⟩ = some (.int .u64 i) ∧ w1.cell? ⟨w.heap.size + 1, 2, none⟩ = some (.int .u64 b) ∧ w1.cell? ⟨w.heap.size + 1, 3, none⟩ = some (.int .u64 f) ∧ w1.cell? ⟨w.heap.size + 1, 4, none⟩ = some (.slice B nx cx)) := by
  rw [Nat.zero_add, List.nil_append] at ho
  have hB : Below W0.heap.size W0 w1 := ((Below.refl _ W0).alloc (Nat.le_refl _) (.cells #[] 45)).grown hg (by simp) (fun k hk => Nat.le_of_eq (show W0.heap.size = k by simpa [blk] using hk))
  have hgs : ∃ g, A1 = some ⟨g, 0, none⟩ ∧ W0.heap.size ≤ g := by
    rcases ho.2 with ⟨e, h0⟩ | ⟨g, cap, cur, e, hg, hh, _⟩
    · omega
    · injection e with e1
      exact ⟨g, e1, hg⟩
  obtain ⟨g, rfl, hgl⟩ := hgs
  obtain ⟨p0, hp⟩ : ∃ p0, q[k]? = some p0 := ⟨_, List.getElem?_eq_getElem (by omega)⟩
  obtain ⟨f0, f1, f2, f3, f4⟩ := flatA_get q k p0 hp
  have e1 := (hB.block _ (lt_of_block hP.ce)).trans hP.ce
  refine ⟨g, rfl, hgl, ho, hB, ⟨p0, (ho.cellAt _ (by omega)).trans f0, (ho.cellAt _ (by omega)).trans f1, (ho.cellAt _ (by omega)).trans f2, (ho.cellAt _ (by omega)).trans f3, (ho.cellAt _ (by omega)).trans f4⟩, ⟨ho.frozenAt _, ho.frozenAt _, ho.frozenAt _, ho.frozenAt _, ho.frozenAt _⟩, ?_⟩
  exact ⟨(cell_of_row _ _ 0 _ _ _ e1).trans rfl, (cell_of_row _ _ 1 _ _ _ e1).trans rfl, (cell_of_row _ _ 2 _ _ _ e1).trans rfl, (cell_of_row _ _ 3 _ _ _ e1).trans rfl, (cell_of_row _ _ 4 _ _ _ e1).trans rfl⟩

set_option maxHeartbeats 2000000 in
theorem rWith_any (A : Option Addr) (c : Nat) (q : List Pa) (k : Nat) (p : Pa) (w : World) (h : Are w A c q) (hk : k < q.length) (hq : q.length ≤ 1000) :
    Calls Try.prog 25 #[.agg #[.slice A q.length c], .int .i64 k, .agg #[.bool p.e.u, .int .u64 p.e.i, .int .u64 p.e.b, .int .u64 p.e.f, .slice p.B p.e.x.length p.c]] w fun e w' => ∃ A' c', e = .returned (.agg #[.slice A' q.length c']) ∧ RowA w.heap.size w' A' c' (q.set k p) ∧ Below w.heap.size w w' := by
  obtain ⟨W0, hW0⟩ : ∃ W0, W0 = ((w.alloc (.cells #[.slice A q.length c] 24)).alloc (.cells #[.bool p.e.u, .int .u64 p.e.i, .int .u64 p.e.b, .int .u64 p.e.f, .slice p.B p.e.x.length p.c] 45)).alloc (.cells #[.slice none 0 0] 24) := ⟨_, rfl⟩
  have hP := withB w A q.length c p.e.u p.e.i p.e.b p.e.f p.B p.e.x.length p.c
  rw [← hW0] at hP
  obtain ⟨n, hn⟩ : ∃ n, n = q.length := ⟨_, rfl⟩
  have HR := Lib.hid (show Read (W0.alloc (.cells #[] 45)) A n 5 (flatA q) from by rw [hn]; exact Read.cells ((h.below hP.below).below ((Below.refl _ W0).alloc (Nat.le_refl _) _)))
  have HO := Lib.hid (World.ownsRow_made (base := W0.heap.size) (size := 5) (e := 45) W0 #[] 0 (Nat.le_refl _) (Nat.zero_le _) rfl)
  rw [← hn] at hP hW0 hk hq ⊢
  have HP := Lib.hid hP
  have HW := Lib.hid hW0
  have HN := Lib.hid hn
  have HK := Lib.hid hk
  have k0 : (0 : Int) ≤ k := by omega
  have kn : (k : Int) < n := by omega
  have hnx : n ≤ 9223372036854775807 := by omega
  have HZ := Lib.hid hP.size
  have b0 := hP.ar.cell
  have b1 := (hP.ar.alloc (.cells #[] 45)).cell
  have b2 := (hP.res.alloc (.cells #[] 45)).cell
  clear h hP hW0 hn
  go_enter Try.func25, Try.ntmps25
  go_wp2_with (first
    | (rw [← HW.out])
    | (at_builtin; refine gapp_at rfl (.tmp 8) (.tmp 10) appA rfl W0.heap.size (some ⟨W0.heap.size, 0, none⟩) 0 0 [] rfl HO.out A c n (flatA q) rfl HR.out (by omega) (by simp) ?_; intro A1 c1 w1 ho hg _
       obtain ⟨g, rfl, hgl, ho2, hB, ⟨p0, d0, d1, d2, d3, d4⟩, ⟨f0, f1, f2, f3, f4⟩, ⟨e0, e1, e2, e3, e4⟩⟩ := with_after (k := k) HP.out ho hg HN.out.symm HK.out
       have hz := HZ.out
       have xr : Boxed (put5 w1 g (k * 5) p) (w.heap.size + 2) 24 (.slice none 0 0) := ((put5_turn w1 g (k * 5) p).block _ (Nat.lt_of_lt_of_le HP.out.res.lt hB.size) (by omega)).trans ((hB.block _ HP.out.res.lt).trans HP.out.res)
       have hbP : Below w.heap.size w (put5 w1 g (k * 5) p) := (HP.out.below.trans (hB.mono HP.out.below.size)).trans ((put5_turn w1 g (k * 5) p).below (Nat.le_trans HP.out.below.size hB.size) (fun i hi => by omega))
       obtain ⟨r0, hbR⟩ := res_set (.slice (some ⟨g, 0, none⟩) n c1) xr hbP (by omega)
       have hR := row_put5 (p := p) ho2 HN.out.symm HK.out
       have hR2 : RowA w.heap.size ((put5 w1 g (k * 5) p).setCell ⟨w.heap.size + 2, 0, none⟩ (.slice (some ⟨g, 0, none⟩) n c1)) (some ⟨g, 0, none⟩) c1 (q.set k p) := World.ownsRow.mono (hR.turn (turn_set _ (w.heap.size + 2) 0 _) (fun i hi e => by have e2 : g = i := (by simpa [blk] using hi); omega)) (by omega)
       have x0 := xr.cell
       have x1 := xr.frozen
       have HRes := Lib.hid (And.intro hR2 hbR)
       unfold put5 at x0 x1 r0 HRes
       clear ho hg hB ho2 xr hbP hbR hR hR2 hgl hz))
  exact bodyPost_ret (v := .agg #[.slice (some ⟨g, 0, none⟩) n c1]) (by simp [results, Try.results25, go_sem, r0]) rfl ⟨_, _, rfl, HRes.out.1, HRes.out.2⟩

end Go.Proofs.Ytpdebkpblpipcaa
