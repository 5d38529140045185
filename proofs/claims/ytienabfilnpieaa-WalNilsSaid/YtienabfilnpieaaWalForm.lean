/-
  A new file is made, whatever the disk meets.
-/
import Derived.Test.YtienabfilnpieaaWalMake
namespace Go.Proofs.Ytienabfilnpieaa
open Go.RowKit
set_option linter.unusedVariables false
set_option maxRecDepth 100000

theorem met_ops (M : AD) : M.met.ops = M.ops + 1 := by unfold AD.met; split <;> rfl
theorem opM_ops {M M' : AD} (k : Int) (xs : List Int) (h : M'.ops = M.met.ops) : (M.opM k xs M').ops ≤ M.ops + 1 := by
  unfold AD.opM
  have := met_ops M
  split
  · split
    · omega
    · omega
  · omega
theorem appendM_ops (M : AD) (k : Int) (bs : List Int) : (M.appendM k bs).ops ≤ M.ops + 1 := by
  have := met_ops M
  unfold AD.appendM
  split
  · omega
  · split
    · split
      · omega
      · split
        · omega
        · show M.met.ops ≤ _; omega
    · omega
theorem move_ops (M : AD) (k j : Int) : (M.move k j).ops = M.ops := by unfold AD.move; split <;> rfl
theorem dropM_ops (M : AD) : M.dropM.ops ≤ M.ops + 1 := by
  unfold AD.dropM
  split
  · exact opM_ops _ _ rfl
  · omega
theorem st_ops (M : AD) (bs : List Int) (j : Nat) : (M.st bs j).ops ≤ M.ops + 4 := by
  have h1 := dropM_ops M
  have h2 : (M.st2 bs).ops ≤ M.dropM.ops + 1 := appendM_ops _ _ _
  have h3 : (M.st3 bs).ops ≤ (M.st2 bs).ops + 1 := opM_ops _ _ rfl
  have h4 : (M.st4 bs).ops ≤ (M.st3 bs).ops + 1 := opM_ops _ _ (move_ops _ _ _)
  rcases j with _ | _ | _ | _ | j
  · show M.ops ≤ _; omega
  · show M.dropM.ops ≤ _; omega
  · show (M.st2 bs).ops ≤ _; omega
  · show (M.st3 bs).ops ≤ _; omega
  · show (M.st4 bs).ops ≤ _; omega

theorem After.go {S : Nat → Prop} {d : Nat} {w W W' : World} {M M' : AD} (h : After S d w M W) (h' : After (grew S w W) d W M' W') (hl : ∀ i, S i → i < w.heap.size) : After S d w M' W' := by
  have hsz := h.2.size
  refine After.of h'.1 (h.2.trans h'.2 (fun i hi => by rcases hi with e | e; exact .inl e; exact .inr e.1)) (fun i hi => ?_) hl
  rcases hi with (e | e) | e
  · exact .inl e
  · exact .inr e.1
  · exact .inr (Nat.le_trans hsz e.1)
theorem Sl.turn {S : Nat → Prop} {w w' : World} {A : Option Addr} {c : Nat} {bs : List Int} (h : Sl w A c bs) (ht : Turn S w w') (hf : ∀ q, blk A = some q → ¬ S q) : Sl w' A c bs := by
  refine ⟨h.room, h.most, fun hp => ?_⟩
  obtain ⟨b, o, rfl, hb, hc⟩ := h.rd hp
  exact ⟨b, o, rfl, Nat.lt_of_lt_of_le hb ht.size, fun j hj => turn_cell ht (hf b rfl) (hc j hj)⟩

/-- The four steps, as values: their boxes lie at p, p + 1, p + 2. -/
def stepF : Nat → FuncId
  | 0 => 58
  | 1 => 59
  | 2 => 61
  | _ => 62
def stepCaps (p : Nat) : Nat → Array Value
  | 1 => #[.pointer (some ⟨p, 0, none⟩), .pointer (some ⟨p + 1, 0, none⟩), .pointer (some ⟨p + 2, 0, none⟩)]
  | _ => #[.pointer (some ⟨p, 0, none⟩)]
def stepV (p j : Nat) : Value := .func (.func (stepF j)) #[] (stepCaps p j)
structure Renewed (W : World) (p d : Nat) (n : Int) (A : Option Addr) (l c : Nat) : Prop where
  c0 : Pt W p d
  c1 : W.cell? ⟨p + 1, 0, none⟩ = some (.int .i64 n)
  c2 : W.cell? ⟨p + 2, 0, none⟩ = some (.slice A l c)
  fs : W.heap[p + 3]? = some (.cells #[stepV p 0, stepV p 1, stepV p 2, stepV p 3] 66 (0, 0))

theorem renewing_any (w : World) (d : Nat) (n : Int) (A : Option Addr) (l c : Nat) : Calls Try.prog 30 #[.pointer (some ⟨d, 0, none⟩), .int .i64 n, .slice A l c] w fun e w' => e = .returned (.slice (some ⟨w.heap.size + 3, 0, none⟩) 4 4) ∧ Renewed w' w.heap.size d n A l c ∧ Below w.heap.size w w' := by
  obtain ⟨W1, hW1⟩ : ∃ W1, W1 = w.alloc (.cells #[.pointer (some ⟨d, 0, none⟩)] 36) := ⟨_, rfl⟩
  obtain ⟨W2, hW2⟩ : ∃ W2, W2 = W1.alloc (.cells #[.int .i64 n] 3) := ⟨_, rfl⟩
  obtain ⟨W3, hW3⟩ : ∃ W3, W3 = W2.alloc (.cells #[.slice A l c] 22) := ⟨_, rfl⟩
  obtain ⟨W4, hW4⟩ : ∃ W4, W4 = W3.alloc (.cells #[stepV w.heap.size 0, stepV w.heap.size 1, stepV w.heap.size 2, stepV w.heap.size 3] 66) := ⟨_, rfl⟩
  have s1 : W1.heap.size = w.heap.size + 1 := by rw [hW1]; simp
  have s2 : W2.heap.size = w.heap.size + 2 := by rw [hW2]; simp [s1]
  have s3 : W3.heap.size = w.heap.size + 3 := by rw [hW3]; simp [s2]
  have b1 : Below w.heap.size w W1 := by rw [hW1]; exact (Below.refl _ w).alloc (Nat.le_refl _) _
  have b2 : Below W1.heap.size W1 W2 := by rw [hW2]; exact (Below.refl _ W1).alloc (Nat.le_refl _) _
  have b3 : Below W2.heap.size W2 W3 := by rw [hW3]; exact (Below.refl _ W2).alloc (Nat.le_refl _) _
  have b4 : Below W3.heap.size W3 W4 := by rw [hW4]; exact (Below.refl _ W3).alloc (Nat.le_refl _) _
  have e1 : W1.heap[w.heap.size]? = some (.cells #[.pointer (some ⟨d, 0, none⟩)] 36 (0, 0)) := by rw [hW1]; exact heap_alloc_new w _
  have e2 : W2.heap[W1.heap.size]? = some (.cells #[.int .i64 n] 3 (0, 0)) := by rw [hW2]; exact heap_alloc_new W1 _
  have e3 : W3.heap[W2.heap.size]? = some (.cells #[.slice A l c] 22 (0, 0)) := by rw [hW3]; exact heap_alloc_new W2 _
  have e4 : W4.heap[W3.heap.size]? = some (.cells #[stepV w.heap.size 0, stepV w.heap.size 1, stepV w.heap.size 2, stepV w.heap.size 3] 66 (0, 0)) := by rw [hW4]; exact heap_alloc_new W3 _
  have f1 : W4.heap[w.heap.size]? = _ := (b4.block _ (by omega)).trans ((b3.block _ (by omega)).trans ((b2.block _ (by omega)).trans e1))
  have f2 : W4.heap[W1.heap.size]? = _ := (b4.block _ (by omega)).trans ((b3.block _ (by omega)).trans e2)
  have f3 : W4.heap[W2.heap.size]? = _ := (b4.block _ (by omega)).trans e3
  rw [s1] at f2
  rw [s2] at f3
  rw [s3] at e4
  have HR := Lib.hid (show Renewed W4 w.heap.size d n A l c from ⟨by show W4.cell? _ = _; simp only [World.cell?, f1]; rfl, by simp only [World.cell?, f2]; rfl, by simp only [World.cell?, f3]; rfl, e4⟩)
  have HB := Lib.hid (b1.trans ((b2.trans ((b3.trans (b4.mono (by omega))).mono (by omega))).mono (by omega)))
  have HW := Lib.hid (show W4 = (((w.alloc (.cells #[.pointer (some ⟨d, 0, none⟩)] 36)).alloc (.cells #[.int .i64 n] 3)).alloc (.cells #[.slice A l c] 22)).alloc (.cells #[stepV w.heap.size 0, stepV w.heap.size 1, stepV w.heap.size 2, stepV w.heap.size 3] 66) by rw [hW4, hW3, hW2, hW1])
  clear hW1 hW2 hW3 hW4 s1 s2 s3 b1 b2 b3 b4 e1 e2 e3 e4 f1 f2 f3
  go_enter Try.func30, Try.ntmps30
  go_wp2
  go_ret
  have h1 := HR.out
  have h2 := HB.out
  rw [HW.out] at h1 h2
  exact ⟨rfl, h1, h2⟩

theorem enter_s0 (x : Value) (W : World) : (callFunc 58 #[x]).run Try.prog W = .ok (.enter 58 #[x]) W := by kernel_rfl
theorem enter_s1 (x y z : Value) (W : World) : (callFunc 59 #[x, y, z]).run Try.prog W = .ok (.enter 59 #[x, y, z]) W := by kernel_rfl
theorem enter_s2 (x : Value) (W : World) : (callFunc 61 #[x]).run Try.prog W = .ok (.enter 61 #[x]) W := by kernel_rfl
theorem enter_s3 (x : Value) (W : World) : (callFunc 62 #[x]).run Try.prog W = .ok (.enter 62 #[x]) W := by kernel_rfl
theorem enter_step (p j : Nat) (W : World) (hj : j < 4) : (callFunc (stepF j) (stepCaps p j)).run Try.prog W = .ok (.enter (stepF j) (stepCaps p j)) W := by
  have : j = 0 ∨ j = 1 ∨ j = 2 ∨ j = 3 := by omega
  rcases this with rfl | rfl | rfl | rfl
  · exact enter_s0 _ W
  · exact enter_s1 _ _ _ W
  · exact enter_s2 _ W
  · exact enter_s3 _ W
set_option maxHeartbeats 1000000 in
theorem make_any {w : World} {S : Nat → Prop} {d p : Nat} {M : AD} (h : DiskAt w S d M) (hops : M.ops < 4611686018427387000) {n : Int} (hn : 0 ≤ n ∧ n < 9223372036854775808) {A : Option Addr} {l c : Nat} {s : List Int} (hl : s.length = l) (hs : Sl w A c s) (ho : Oct s) (hb : s.length ≤ 100000)
    (hA : ∀ q, blk A = some q → ¬ S q) (hr : Renewed w p d n A l c) (hS : ∀ j, j < 4 → ¬ S (p + j)) :
    Calls Try.prog 29 #[.slice (some ⟨p + 3, 0, none⟩) 4 4] w fun e w' => e = .returned (.int .i64 (M.makeC (fileM n s))) ∧ After S d w (M.makeM (fileM n s)) w' := by
  obtain ⟨bs, hbs⟩ : ∃ bs, bs = fileM n s := ⟨_, rfl⟩
  have hlow : ∀ i, S i → i < w.heap.size := fun i hi => h.low hi
  have hp3 : p + 3 < w.heap.size := lt_of_block hr.fs
  have key := inOrder_any (w := w) (p + 3) 4 4 stepF (stepCaps p) (fun j W => After S d w (M.st bs j) W ∧ ∀ i, i < j → M.stC bs i = 0) (fun cc W => M.makeC bs = cc ∧ After S d w (M.makeM bs) W) (by omega)
    (fun j W hj hI => by
      have hc : w.cell? ⟨p + 3, j, none⟩ = some (stepV p j) := by
        simp only [World.cell?, hr.fs]
        have : j = 0 ∨ j = 1 ∨ j = 2 ∨ j = 3 := by omega
        rcases this with rfl | rfl | rfl | rfl <;> rfl
      exact turn_cell hI.1.2 (hS 3 (by omega)) hc)
    (fun j W hj => enter_step p j W hj)
    (fun j W hj hI => by
      obtain ⟨hI, hz⟩ := hI
      have hgr : ∀ q, q < w.heap.size → ¬ S q → ¬ grew S w W q := fun q hq hn e => e.elim hn (fun e => by omega)
      have k0 : Pt W p d := turn_cell hI.2 (hS 0 (by omega)) hr.c0
      have hj' : j = 0 ∨ j = 1 ∨ j = 2 ∨ j = 3 := by omega
      have hso := st_ops M bs j
      rcases hj' with rfl | rfl | rfl | rfl
      · refine (new1_any hI.1 (by omega) k0).mono ?_
        rintro e W' ⟨rfl, ha⟩
        have hg := hI.go ha hlow
        refine ⟨_, rfl, fun e => ⟨hg, fun i hi => ?_⟩, fun e => ⟨?_, ?_⟩⟩
        · obtain rfl : i = 0 := by omega
          exact e
        · unfold AD.makeC; rw [if_pos (show M.stC bs 0 ≠ 0 from e)]; rfl
        · unfold AD.makeM; rw [if_pos (show M.stC bs 0 ≠ 0 from e)]; exact hg
      · have k1 := turn_cell hI.2 (hS 1 (by omega)) hr.c1
        have k2 := turn_cell hI.2 (hS 2 (by omega)) hr.c2
        have hk := new2_any hI.1 (by omega) ⟨hgr p (by omega) (hS 0 (by omega)), hgr _ (by omega) (hS 1 (by omega)), hgr _ (by omega) (hS 2 (by omega))⟩ k0 n hn k1 hl k2 (hs.turn hI.2 hA) ho hb
        rw [← hbs] at hk
        refine hk.mono ?_
        rintro e W' ⟨rfl, ha⟩
        have hg := hI.go ha hlow
        have z0 := hz 0 (by omega)
        refine ⟨_, rfl, fun e => ⟨hg, fun i hi => ?_⟩, fun e => ⟨?_, ?_⟩⟩
        · have : i = 0 ∨ i = 1 := by omega
          rcases this with rfl | rfl
          · exact z0
          · exact e
        · unfold AD.makeC; rw [if_neg (by rw [z0]; simp), if_pos (show M.stC bs 1 ≠ 0 from e)]; rfl
        · unfold AD.makeM; rw [if_neg (by rw [z0]; simp), if_pos (show M.stC bs 1 ≠ 0 from e)]; exact hg
      · refine (new3_any hI.1 (by omega) k0).mono ?_
        rintro e W' ⟨rfl, ha⟩
        have hg := hI.go ha hlow
        have z0 := hz 0 (by omega)
        have z1 := hz 1 (by omega)
        refine ⟨_, rfl, fun e => ⟨hg, fun i hi => ?_⟩, fun e => ⟨?_, ?_⟩⟩
        · have : i = 0 ∨ i = 1 ∨ i = 2 := by omega
          rcases this with rfl | rfl | rfl
          · exact z0
          · exact z1
          · exact e
        · unfold AD.makeC; rw [if_neg (by rw [z0]; simp), if_neg (by rw [z1]; simp), if_pos (show M.stC bs 2 ≠ 0 from e)]; rfl
        · unfold AD.makeM; rw [if_neg (by rw [z0]; simp), if_neg (by rw [z1]; simp), if_pos (show M.stC bs 2 ≠ 0 from e)]; exact hg
      · refine (new4_any hI.1 (by omega) k0).mono ?_
        rintro e W' ⟨rfl, ha⟩
        have hg := hI.go ha hlow
        have z0 := hz 0 (by omega)
        have z1 := hz 1 (by omega)
        have z2 := hz 2 (by omega)
        refine ⟨_, rfl, fun e => ⟨hg, fun i hi => ?_⟩, fun e => ⟨?_, ?_⟩⟩
        · have : i = 0 ∨ i = 1 ∨ i = 2 ∨ i = 3 := by omega
          rcases this with rfl | rfl | rfl | rfl
          · exact z0
          · exact z1
          · exact z2
          · exact e
        · unfold AD.makeC; rw [if_neg (by rw [z0]; simp), if_neg (by rw [z1]; simp), if_neg (by rw [z2]; simp)]; rfl
        · unfold AD.makeM; rw [if_neg (by rw [z0]; simp), if_neg (by rw [z1]; simp), if_neg (by rw [z2]; simp)]; exact hg)
    ⟨After.same h (Below.refl _ w), fun i hi => by omega⟩
  rw [← hbs]
  refine key.mono ?_
  rintro e W ⟨cc, rfl, hz, hnz⟩
  by_cases hc : cc = 0
  · obtain ⟨hg, hi⟩ := hz hc
    have z0 := hi 0 (by omega)
    have z1 := hi 1 (by omega)
    have z2 := hi 2 (by omega)
    have z3 := hi 3 (by omega)
    refine ⟨?_, ?_⟩
    · unfold AD.makeC; rw [if_neg (by rw [z0]; simp), if_neg (by rw [z1]; simp), if_neg (by rw [z2]; simp), z3, hc]
    · unfold AD.makeM; rw [if_neg (by rw [z0]; simp), if_neg (by rw [z1]; simp), if_neg (by rw [z2]; simp)]; exact hg
  · obtain ⟨h1, h2⟩ := hnz hc
    exact ⟨by rw [h1], h2⟩

end Go.Proofs.Ytienabfilnpieaa
