/-
  Check, Of, Dist, Compare, Nearest.
-/
import Derived.Test.YtgakfffkadaeeaaVecDist
import Derived.Deep.RegionHeld3
namespace Go.Proofs.Ytgakfffkadaeeaa
open Go.RowKit Go.Shelf
set_option linter.unusedVariables false
set_option maxRecDepth 100000

/-- A row of one, and of two, that has just been laid. -/
theorem vecs_one {w W : World} {g cb : Nat} {B : Option Addr} {x : List Int} (hc : W.cell? ⟨g, 0, none⟩ = some (.slice B x.length cb)) (hx : Vec .i32 W B cb x) : Vecs .i32 W (some ⟨g, 0, none⟩) 1 [x] :=
  ⟨by simp, by omega, fun _ => ⟨g, 0, rfl, World.block_lt_of_cell? W _ hc, fun i y hy => by
    cases i with
    | zero => simp at hy; subst hy; exact ⟨B, cb, hc, hx⟩
    | succ i => simp at hy⟩⟩
theorem vecs_two {W : World} {g cb cb' : Nat} {B B' : Option Addr} {x x' : List Int} (hc : W.cell? ⟨g, 0, none⟩ = some (.slice B x.length cb)) (hc' : W.cell? ⟨g, 1, none⟩ = some (.slice B' x'.length cb')) (hx : Vec .i32 W B cb x) (hx' : Vec .i32 W B' cb' x') : Vecs .i32 W (some ⟨g, 0, none⟩) 2 [x, x'] :=
  ⟨by simp, by omega, fun _ => ⟨g, 0, rfl, World.block_lt_of_cell? W _ hc, fun i y hy => by
    match i, hy with
    | 0, hy => simp at hy; subst hy; exact ⟨B, cb, hc, hx⟩
    | 1, hy => simp at hy; subst hy; exact ⟨B', cb', by simpa using hc', hx'⟩
    | i + 2, hy => simp at hy⟩⟩

theorem cell_laid (w : World) (cs : Array Value) (t : TypeId) (i : Nat) : (w.alloc (.cells cs t)).cell? ⟨w.heap.size, i, none⟩ = cs[i]? := cell_of_row _ _ _ cs t (0, 0) (heap_alloc_new w _)

def checkM (xs : List Int) : Int := refuseM xs.length [xs]
theorem check_any (A : Option Addr) (c : Nat) (xs : List Int) (w : World) (h : Vec .i32 w A c xs) :
    Calls Try.prog 59 #[.slice A xs.length c] w fun e w' => e = .returned (.int .i64 (checkM xs)) ∧ Below w.heap.size w w' := by
  obtain ⟨W, hW⟩ : ∃ W, W = w.alloc (.cells #[.slice A xs.length c] 35) := ⟨_, rfl⟩
  have hb : Below w.heap.size w W := by rw [hW]; exact (Below.refl _ w).alloc (Nat.le_refl _) _
  have HR := Lib.hid (refuse_any (some ⟨w.heap.size, 0, none⟩) 1 xs.length [xs] W (vecs_one (w := w) (by rw [hW]; exact cell_laid _ _ _ 0) (h.below hb)))
  have HB := Lib.hid hb
  unfold checkM
  generalize refuseM xs.length [xs] = R at *
  rw [hW] at HR HB
  generalize xs.length = n at *
  clear hb h hW
  go_enter Try.func59, Try.ntmps59
  go_wp2_with fail
  refine HR.out.mono ?_
  rintro e w1 ⟨rfl, hb1⟩
  have HB1 := Lib.hid (HB.out.trans (hb1.mono HB.out.size))
  clear hb1
  go_wp2
  go_ret
  exact ⟨rfl, HB1.out⟩

theorem refuse_ok {dim : Int} {l : List (List Int)} (h : refuseM dim l = 0) : ∀ x ∈ l, right x = true ∧ (x.length : Int) = dim := by
  unfold refuseM at h
  split at h
  · rename_i h1
    split at h
    · rename_i h2
      rw [List.all_eq_true] at h1 h2
      exact fun x hx => ⟨h1 x hx, by simpa using h2 x hx⟩
    · omega
  · omega
theorem refuse_set (dim : Int) (l : List (List Int)) : refuseM dim l = 0 ∨ refuseM dim l = 150 ∨ refuseM dim l = 151 := by
  unfold refuseM
  split
  · split <;> simp
  · simp

/-- What Dist answers: the error, and the distance beside OK. -/
def distE (a b : List Int) : Int := refuseM a.length [a, b]
def distD (a b : List Int) : Int := if distE a b = 0 then distM a b else 0

theorem dist_any (A A' : Option Addr) (c c' : Nat) (a b : List Int) (w : World) (ha : Vec .i32 w A c a) (hb : Vec .i32 w A' c' b) :
    Calls Try.prog 30 #[.slice A a.length c, .slice A' b.length c'] w fun e w' => e = .returned (.tuple #[.int .u64 (distD a b), .int .i64 (distE a b)]) ∧ Below w.heap.size w w' := by
  obtain ⟨W, hW⟩ : ∃ W, W = w.alloc (.cells #[.slice A a.length c, .slice A' b.length c'] 35) := ⟨_, rfl⟩
  have hbw : Below w.heap.size w W := by rw [hW]; exact (Below.refl _ w).alloc (Nat.le_refl _) _
  have HR := Lib.hid (refuse_any (some ⟨w.heap.size, 0, none⟩) 2 a.length [a, b] W (vecs_two (by rw [hW]; exact cell_laid _ _ _ 0) (by rw [hW]; exact cell_laid _ _ _ 1) (ha.below hbw) (hb.below hbw)))
  have HB := Lib.hid hbw
  have hE : distE a b = refuseM a.length [a, b] := rfl
  rw [← hE] at HR
  have HS := Lib.hid (refuse_set a.length [a, b])
  rw [← hE] at HS
  have HD := Lib.hid (show distE a b = 0 → distD a b = distM a b from fun h => by unfold distD; rw [if_pos h])
  have HD0 := Lib.hid (show distE a b ≠ 0 → distD a b = 0 from fun h => by unfold distD; rw [if_neg h])
  have HX := Lib.hid (fun (h : distE a b = 0) (V : World) (hV : Below w.heap.size w V) => by
    have h1 := refuse_ok h a (by simp)
    have h2 := refuse_ok h b (by simp)
    exact distance_any A A' c c' a b V (ha.below hV) (hb.below hV) h1.1 h2.1 (by omega))
  rw [hW] at HR HB
  generalize distD a b = D at *
  generalize distM a b = DM at *
  generalize distE a b = E at *
  clear ha hb hbw hE hW
  generalize a.length = n at *
  generalize b.length = m at *
  by_cases h0 : E = 0
  · have HX0 := Lib.hid (HX.out h0)
    have HD1 := Lib.hid (HD.out h0)
    clear HX HD HD0 HS
    subst h0
    go_enter Try.func30, Try.ntmps30
    go_wp2_with fail
    refine HR.out.mono ?_
    rintro e w1 ⟨rfl, hb1⟩
    have HB1 := Lib.hid (HB.out.trans (hb1.mono HB.out.size))
    clear hb1
    go_wp2_with fail
    refine (HX0.out w1 HB1.out).mono ?_
    rintro e w2 ⟨rfl, hb2⟩
    have HB2 := Lib.hid (HB1.out.trans (hb2.mono HB1.out.size))
    clear hb2
    go_wp2
    go_ret2
    rw [HD1.out]
    exact ⟨rfl, HB2.out⟩
  · have HD1 := Lib.hid (HD0.out h0)
    have t1 : (E == 0) = false := by simpa using h0
    have t2 : (E != 0) = true := by simpa using h0
    clear HX HD HD0 HS
    go_enter Try.func30, Try.ntmps30
    go_wp2_with fail
    refine HR.out.mono ?_
    rintro e w1 ⟨rfl, hb1⟩
    have HB1 := Lib.hid (HB.out.trans (hb1.mono HB.out.size))
    clear hb1
    go_wp2
    go_ret2
    rw [HD1.out]
    exact ⟨rfl, HB1.out⟩

/-! ### the order of hits -/
def cmpM (x y : Int) : Int := if x < y then -1 else if y < x then 1 else 0
def orM (x y : Int) : Int := if x ≠ 0 then x else y

end Go.Proofs.Ytgakfffkadaeeaa
