/-
  Next.
-/
import Derived.Test.YtgljmcddakeoiaaDoorMskSlots
import Derived.Test.YtgljmcddakeoiaaDoorMskE
namespace Go.Proofs.YtgljmcddakeoiaaDoor
open Go.RowKit Go.Shelf
set_option linter.unusedVariables false
set_option linter.unusedSimpArgs false
set_option maxRecDepth 100000
attribute [local go_sem] Oper.semAt_some

/-- The least slot of m from n on. -/
def nextM (m : Mk) (n : Int) : Option Nat := (slots m).find? fun (k : Nat) => decide (n ≤ (k : Int))
def nextK (m : Mk) (n : Int) : Int := match nextM m n with | some k => (k : Int) | none => 0
def nextB (m : Mk) (n : Int) : Bool := (nextM m n).isSome

/-- What a loop that is left in its first round has found. -/
def FrI (w : World) (pre : List Nat) (W : World) : Prop := pre = [] ∧ Boxed W (w.heap.size + 1) 3 (.int .i64 0) ∧ Boxed W (w.heap.size + 2) 4 (.bool false) ∧ Below w.heap.size w W
def FrX (w : World) (m : Mk) (n : Int) (cd : Code) (_ : List Nat) (W : World) : Prop := cd = .ret ∧ ∃ k : Nat, nextM m n = some k ∧ Boxed W (w.heap.size + 1) 3 (.int .i64 (k : Int)) ∧ Boxed W (w.heap.size + 2) 4 (.bool true) ∧ Below w.heap.size w W

theorem find_first {f : Nat → Bool} {m D : Mk} (hD : D = mk (fun k => has m k && f k)) {x : Nat} (hx : has D x = true) (hpre : [] = upto D x) : (slots m).find? f = some x := by
  have hx' := hx
  have h96 := has_lt hx
  rw [hD, has_mk] at hx'
  simp only [Bool.and_eq_true, decide_eq_true_eq] at hx'
  have hno : ∀ k, k < x → has m k = true → f k = false := by
    intro k hk hm
    cases hf : f k with
    | false => rfl
    | true =>
      have hDk : has D k = true := by rw [hD, has_mk]; simp [hm, hf]; omega
      have : k ∈ upto D x := by unfold upto; rw [List.mem_filter]; exact ⟨List.mem_range.2 hk, hDk⟩
      rw [← hpre] at this
      cases this
  have hs : slots m = upto m x ++ x :: (slots m).drop ((upto m x).length + 1) := by
    have h1 : slots m = (List.range 96).filter (has m) := rfl
    have h2 : List.range 96 = List.range x ++ x :: (List.range (96 - x - 1)).map (· + (x + 1)) := by
      rw [show (96 : Nat) = (x + 1) + (96 - x - 1) by omega, List.range_add, List.range_succ]
      simp only [List.append_assoc, List.singleton_append]
      congr 2
      rw [show x + 1 + (96 - x - 1) - x - 1 = 96 - x - 1 by omega]
      exact List.map_congr_left (fun a _ => by omega)
    have h3 : slots m = upto m x ++ x :: (((List.range (96 - x - 1)).map (· + (x + 1))).filter (has m)) := by
      rw [h1, h2, List.filter_append, List.filter_cons, if_pos hx'.2.1]; rfl
    rw [h3]
    congr 1
    rw [List.drop_append]
    simp
  rw [hs, List.find?_append]
  have h0 : (upto m x).find? f = none := by
    rw [List.find?_eq_none]
    intro k hk
    unfold upto at hk
    obtain ⟨h1, h2⟩ := List.mem_filter.1 hk
    rw [hno k (List.mem_range.1 h1) h2]
    simp
  rw [h0]
  simp [hx'.2.2]
theorem find_nothing {f : Nat → Bool} {m D : Mk} (hD : D = mk (fun k => has m k && f k)) (hpre : [] = slots D) : (slots m).find? f = none := by
  rw [List.find?_eq_none]
  intro k hk
  have hm := (List.mem_filter.1 hk).2
  cases hf : f k with
  | false => simp
  | true =>
    exfalso
    have hDk : has D k = true := by rw [hD, has_mk]; simp [hm, hf]; exact has_lt hm
    have : k ∈ slots D := by unfold slots; rw [List.mem_filter]; exact ⟨List.mem_range.2 (has_lt hm), hDk⟩
    rw [← hpre] at this
    cases this

set_option maxHeartbeats 4000000 in
theorem next_any (m : Mk) (n : Int) (w : World) (h : Fine m) (hn : -9223372036854775808 ≤ n ∧ n ≤ 9223372036854775807) (hT : Tab w) :
    Calls Tryd.prog 11 #[mv m, .int .i64 n] w fun e w' => e = .returned (.tuple #[.int .i64 (nextK m n), .bool (nextB m n)]) ∧ Below w.heap.size w w' := by
  obtain ⟨S, hS⟩ : ∃ S, S = mk fun k => decide ((k : Int) < n) := ⟨_, rfl⟩
  obtain ⟨D, hD⟩ : ∃ D, D = mk fun k => has m k && decide (n ≤ (k : Int)) := ⟨_, rfl⟩
  have HSg := Lib.hid (fun W => show Calls Tryd.prog 26 #[.int .i64 n] W (fun e w' => e = .returned (mv S) ∧ Below W.heap.size W w') from by rw [hS]; exact below_any n W hn)
  have HMi := Lib.hid (fun (W : World) => show Calls Tryd.prog 25 #[mv m, mv S] W (fun e w' => e = .returned (mv D) ∧ Below W.heap.size W w') from by
    have := minus_any m S W h (by rw [hS]; exact mk_fine _)
    unfold GivesM at this
    rw [show mk (fun n => has m n && !has S n) = D from by rw [hD, hS]; exact mk_congr (fun k hk => by rw [has_mk, Bool.eq_iff_iff]; simp [hk])] at this
    exact this)
  have HAl := Lib.hid (fun W => all_any D W)
  have hDf : Fine D := by rw [hD]; exact mk_fine _
  obtain ⟨W0, hW0⟩ : ∃ W0, W0 = ((w.alloc (.cells #[.int .u64 m.1, .int .u64 m.2] 25)).alloc (.cells #[.int .i64 0] 3)).alloc (.cells #[.bool false] 4) := ⟨_, rfl⟩
  have hz0 : W0.heap.size = w.heap.size + 3 := by rw [hW0]; simp
  have hb0 : Below w.heap.size w W0 := by rw [hW0]; exact (((Below.refl _ w).alloc (Nat.le_refl _) _).alloc (by simp) _).alloc (by simp; omega) _
  have hm0 : MRow W0 w.heap.size m.1 m.2 := by
    rw [hW0]
    exact ((MRow.new w m.1 m.2).below ((Below.refl _ _).alloc (Nat.le_refl _) _) (by simp)).below ((Below.refl _ _).alloc (Nat.le_refl _) _) (by simp; omega)
  have x1 : Boxed W0 (w.heap.size + 1) 3 (.int .i64 0) := by
    rw [hW0]; have := (Boxed.new (w.alloc (.cells #[.int .u64 m.1, .int .u64 m.2] 25)) 3 (.int .i64 0)).alloc (.cells #[.bool false] 4); rwa [World.size_alloc] at this
  have x2 : Boxed W0 (w.heap.size + 2) 4 (.bool false) := by
    rw [hW0]; have := Boxed.new ((w.alloc (.cells #[.int .u64 m.1, .int .u64 m.2] 25)).alloc (.cells #[.int .i64 0] 3)) 4 (.bool false); rwa [World.size_alloc, World.size_alloc] at this
  have HK := Lib.hid (fun (X : World) (hX : Below W0.heap.size W0 X) => show X.cell? ⟨w.heap.size, 0, none⟩ = some (.int .u64 m.1) ∧ X.cell? ⟨w.heap.size, 1, none⟩ = some (.int .u64 m.2) from by
    have h := hm0.below hX hm0.lt
    exact ⟨h.cell0, h.cell1⟩)
  have HS := Lib.hid (And.intro x1 (And.intro x2 (And.intro hb0 hz0)))
  have HW0 := Lib.hid hW0
  have HD := Lib.hid hD
  have HDf := Lib.hid hDf
  have HT := Lib.hid (hT.below hb0)
  clear h hn hT hS hD hDf x1 x2 hb0 hz0 hW0 hm0
  unfold mv at *
  refine (callsIn_wide (n := 3)).1 ?_
  refine callsIn_of_wp_marks Tryd.func11 rfl trivial ?_ rfl
  simp only [Tryd.ntmps11, List.size_toArray, List.length_cons, List.length_nil, Nat.reduceAdd, Nat.reduceSub, Array.replicate_succ, Array.replicate_zero, List.push_toArray, List.append_toArray, List.nil_append, List.cons_append]
  obtain ⟨c0, c1⟩ := HK.out W0 (Below.refl _ _)
  gi_wp2_with fail
  simp only [World.size_alloc, Nat.add_assoc, Nat.reduceAdd]
  rw [← HW0.out]
  refine wpIn_wide.2 ?_
  go_region_held3 (fun X => X.cell? ⟨w.heap.size, 0, none⟩ = some (.int .u64 m.1) ∧ X.cell? ⟨w.heap.size, 1, none⟩ = some (.int .u64 m.2))
    (first | (with_reducible assumption) | (with_reducible exact HK.out _ (below_drew (Below.refl _ _))) | (with_reducible exact HK.out _ HC2.out) | (with_reducible exact HK.out _ HC3.out) | (with_reducible exact HK.out _ (HC3.out.alloc HC3.out.size _)))
    (first
    | (go_at_call 26; (with_reducible refine (HSg.out W0.drew).mono ?_); rintro e w2 ⟨rfl, hb2⟩; have HC2 := Lib.hid (show Below W0.heap.size W0 w2 from (below_drew (Below.refl _ W0)).trans hb2); clear hb2)
    | (go_at_call 25; (with_reducible refine (HMi.out w2).mono ?_); rintro e w3 ⟨rfl, hb3⟩; have HC3 := Lib.hid (show Below W0.heap.size W0 w3 from HC2.out.trans (hb3.mono HC2.out.size)); clear hb3)
    | (go_at_call 22; (with_reducible refine (HAl.out w3).mono ?_); rintro e w4 ⟨rfl, rfl⟩))
  obtain ⟨w4, hw4⟩ : ∃ w4, w4 = w3.alloc (.cells #[.int .u64 D.1, .int .u64 D.2] 25) := ⟨_, rfl⟩
  rw [← hw4]
  obtain ⟨x1, x2, hb0, hz0⟩ := HS.out
  have hb4 : Below W0.heap.size W0 w4 := by rw [hw4]; exact HC3.out.alloc HC3.out.size _
  have hr4 : MRow w4 w3.heap.size D.1 D.2 := by rw [hw4]; exact MRow.new w3 _ _
  have hb04 : Below w.heap.size w w4 := hb0.trans (hb4.mono hb0.size)
  have hz4 : w.heap.size + 3 ≤ w4.heap.size := by have := hb4.size; omega
  have v1 : Boxed w4 (w.heap.size + 1) 3 (.int .i64 0) := (hb4.block _ x1.lt).trans x1
  have v2 : Boxed w4 (w.heap.size + 2) 4 (.bool false) := (hb4.block _ x2.lt).trans x2
  have hT4 : Tab w4 := HT.out.below hb4
  have HSeq := Lib.hid (all1_in D HDf.out 2 w3.heap.size (by omega) hr4.cell0 hr4.cell1 hT4)
  have HV := Lib.hid (And.intro v1 (And.intro v2 (And.intro hb04 hz4)))
  clear hw4 x1 x2 hb0 hz0 hb4 hr4 hb04 hz4 v1 v2 hT4 HS HW0 HK HC2 HC3 c0 c1 HSg HMi HAl HT HDf
  gi_wp2_with fail
  obtain ⟨v1, v2, hb04, hz4⟩ := HV.out
  refine range_own rfl (by omega) (gf := 43) (lb := #[.pointer (some ⟨w3.heap.size, 0, none⟩)]) rfl trivial (enters_of Tryd.func43 (by kernel_rfl) rfl) HSeq.out
    (fun W k h => h.elim) KpT.trans (fun B W k o o' _ hk ho => KpT.put hk ho) (fun _ => rfl) (fun _ _ _ _ _ _ _ _ _ => trivial)
    (FrI w) (FrX w m n) ?io ?ixo ?ip ?ixp ?h0
    (fun x => { tmps := #[.agg #[.int .u64 m.1, .int .u64 m.2], .int .i64 n, .pointer (some ⟨w.heap.size, 0, none⟩), undef, .pointer (some ⟨w.heap.size + 1, 0, none⟩), .pointer (some ⟨w.heap.size + 2, 0, none⟩), .int .i64 x,
      .agg #[.int .u64 m.1, .int .u64 m.2], .int .i64 n, .agg #[.int .u64 S.1, .int .u64 S.2], .agg #[.int .u64 D.1, .int .u64 D.2], .func (.func 43) #[] #[.pointer (some ⟨w3.heap.size, 0, none⟩)], .int .i64 x, undef], defers := [] }) ?assign ?body ?done ?stop
  case io => exact fun s X Y h ht => ⟨h.1, (ht.block _ h.2.1.lt (fun e => e.2)).trans h.2.1, (ht.block _ h.2.2.1.lt (fun e => e.2)).trans h.2.2.1, h.2.2.2.trans (Turn.below ht h.2.2.2.size (fun k e => e.2.elim))⟩
  case ixo =>
    rintro cd s X Y ⟨h1, i, h2, h3, h4, h5⟩ ht
    exact ⟨h1, i, h2, (ht.block _ h3.lt (fun e => e.2)).trans h3, (ht.block _ h4.lt (fun e => e.2)).trans h4, h5.trans (Turn.below ht h5.size (fun k e => e.2.elim))⟩
  case ip => exact fun s X k o o' h hk ho hc => ⟨h.1, put_other ho hc h.2.1 rfl, put_other ho hc h.2.2.1 rfl, h.2.2.2.trans (below_put (by omega) h.2.2.2.size)⟩
  case ixp =>
    rintro cd s X k o o' ⟨h1, i, h2, h3, h4, h5⟩ hk ho hc
    exact ⟨h1, i, h2, put_other ho hc h3 rfl, put_other ho hc h4 rfl, h5.trans (below_put (by omega) h5.size)⟩
  case h0 => exact fun W hb _ => ⟨rfl, (hb.block _ v1.lt).trans v1, (hb.block _ v2.lt).trans v2, hb04.trans (hb.mono hb04.size)⟩
  case assign =>
    intro l x W K hK
    dsimp only [encN]
    gi_wp2
    exact hK
  case body =>
    rintro l pre x W ⟨rfl, h1, h2, h3⟩ _ _ ⟨hin, hpre⟩
    have hF : nextM m n = some x := find_first HD.out hin hpre
    have c1 := h1.cell
    have f1 := h1.frozen
    have c2 := h2.cell
    have f2 := h2.frozen
    have z1 : Boxed ((W.setCell ⟨w.heap.size + 1, 0, none⟩ (.int .i64 x)).setCell ⟨w.heap.size + 2, 0, none⟩ (.bool true)) (w.heap.size + 1) 3 (.int .i64 x) := (Below.heap_setCell _ _ _ _ (by simp)).trans (h1.set (.int .i64 x))
    have z2 : Boxed ((W.setCell ⟨w.heap.size + 1, 0, none⟩ (.int .i64 x)).setCell ⟨w.heap.size + 2, 0, none⟩ (.bool true)) (w.heap.size + 2) 4 (.bool true) := (show Boxed (W.setCell ⟨w.heap.size + 1, 0, none⟩ (.int .i64 x)) (w.heap.size + 2) 4 (.bool false) from (Below.heap_setCell _ _ _ _ (by simp)).trans h2).set (.bool true)
    have HX := Lib.hid (show KeepsFrom w4.heap.size W ((W.setCell ⟨w.heap.size + 1, 0, none⟩ (.int .i64 x)).setCell ⟨w.heap.size + 2, 0, none⟩ (.bool true)) ∧ FrX w m n .ret ([] ++ [x]) ((W.setCell ⟨w.heap.size + 1, 0, none⟩ (.int .i64 x)).setCell ⟨w.heap.size + 2, 0, none⟩ (.bool true)) from
      ⟨((KeepsOthers.setCell _ _ _).from _).trans ((KeepsOthers.setCell _ _ _).from _), rfl, x, hF, z1, z2, h3.trans (((Below.refl _ W).setCell (by simp) _).setCell (by simp) _)⟩)
    clear h1 h2 h3 hin hpre hF z1 z2
    gi_wp2
    exact HX.out
  case done =>
    rintro xs W rfl ⟨hp, h1, h2, h3⟩ hK
    have hF : nextM m n = none := find_nothing HD.out hp.symm
    have c1 := h1.cell
    have f1 := h1.frozen
    have c2 := h2.cell
    have f2 := h2.frozen
    have z1 : Boxed ((W.setCell ⟨w.heap.size + 1, 0, none⟩ (.int .i64 0)).setCell ⟨w.heap.size + 2, 0, none⟩ (.bool false)) (w.heap.size + 1) 3 (.int .i64 0) := (Below.heap_setCell _ _ _ _ (by simp)).trans (h1.set (.int .i64 0))
    have z2 : Boxed ((W.setCell ⟨w.heap.size + 1, 0, none⟩ (.int .i64 0)).setCell ⟨w.heap.size + 2, 0, none⟩ (.bool false)) (w.heap.size + 2) 4 (.bool false) := (show Boxed (W.setCell ⟨w.heap.size + 1, 0, none⟩ (.int .i64 0)) (w.heap.size + 2) 4 (.bool false) from (Below.heap_setCell _ _ _ _ (by simp)).trans h2).set (.bool false)
    have hK2 : ((W.setCell ⟨w.heap.size + 1, 0, none⟩ (.int .i64 0)).setCell ⟨w.heap.size + 2, 0, none⟩ (.bool false)).heap[w4.heap.size]? = some (.deferred (some [])) := (Below.heap_setCell _ _ _ _ (by simp; omega)).trans ((Below.heap_setCell _ _ _ _ (by simp; omega)).trans hK)
    have HZ := Lib.hid (And.intro z1 (And.intro z2 (And.intro hK2 (h3.trans (((Below.refl _ W).setCell (by simp) _).setCell (by simp) (.bool false)) : Below w.heap.size w ((W.setCell ⟨w.heap.size + 1, 0, none⟩ (.int .i64 0)).setCell ⟨w.heap.size + 2, 0, none⟩ (.bool false))))))
    have HTn := Lib.hid (show nextK m n = 0 ∧ nextB m n = false by unfold nextK nextB; rw [hF]; exact ⟨rfl, rfl⟩)
    clear h1 h2 h3 hp hF z1 z2 hK2
    gi_wp2
    obtain ⟨z1, z2, hK2, hB⟩ := HZ.out
    refine ⟨by simp, .inl ⟨_, _, rfl, run_takeDeferred hK2, ?_⟩⟩
    have r1 := (show Boxed _ (w.heap.size + 1) 3 (.int .i64 0) from put_other (o' := .deferred none) hK2 rfl z1 rfl).cell
    have r2 := (show Boxed _ (w.heap.size + 2) 4 (.bool false) from put_other (o' := .deferred none) hK2 rfl z2 rfl).cell
    exact ⟨.tuple #[.int .i64 0, .bool false], by simp [results, Tryd.results11, go_sem, r1, r2], by rw [HTn.out.1, HTn.out.2], hB.trans (below_put (by omega) hB.size)⟩
  case stop =>
    rintro cd pre W _ ⟨rfl, i, h2, h3, h4, h5⟩ hK
    have HTn := Lib.hid (show nextK m n = (i : Int) ∧ nextB m n = true by unfold nextK nextB; rw [h2]; exact ⟨rfl, rfl⟩)
    have HZ := Lib.hid (And.intro h3 (And.intro h4 h5))
    clear h2 h3 h4 h5
    gi_wp2
    obtain ⟨z1, z2, hB⟩ := HZ.out
    refine ⟨by simp, .inl ⟨_, _, rfl, run_takeDeferred hK, ?_⟩⟩
    have r1 := (show Boxed _ (w.heap.size + 1) 3 (.int .i64 i) from put_other (o' := .deferred none) hK rfl z1 rfl).cell
    have r2 := (show Boxed _ (w.heap.size + 2) 4 (.bool true) from put_other (o' := .deferred none) hK rfl z2 rfl).cell
    exact ⟨.tuple #[.int .i64 i, .bool true], by simp [results, Tryd.results11, go_sem, r1, r2], by rw [HTn.out.1, HTn.out.2], hB.trans (below_put (by omega) hB.size)⟩
end Go.Proofs.YtgljmcddakeoiaaDoor
