/-
  Pending.
-/
import Derived.Test.YthpbgejjfdgpaaaDiskPieces
import Derived.Maps.OwnIn
namespace Go.Proofs.Ythpbgejjfdgpaaa
open Go.RowKit Go.Shelf
set_option linter.unusedVariables false
set_option maxRecDepth 100000
attribute [local go_sem] Oper.semAt_some

def AD.pend (M : AD) : List Int := M.pcs.map (fun x => (x.nm : Int))

theorem pending_nil (w : World) : Calls Try.prog 22 #[.pointer none] w fun e w' => e = .returned (.slice none 0 0) ∧ w = w' := by
  go_enter Try.func22, Try.ntmps22
  go_wp2
  go_ret
  exact ⟨rfl, rfl⟩

/-- A box, and the row to which what it holds leads. -/
def boxDirt (B : Nat) (W : World) (k : Nat) : Prop := k = B ∨ ∃ v, W.cell? ⟨B, 0, none⟩ = some v ∧ v.ownBlock = some k
theorem boxDirt_grow {B n₀ : Nat} (hB : B < n₀) : Dirt n₀ (boxDirt B) := by
  refine ⟨fun W W' hn hg k hk => ?_⟩
  rcases hk with e | ⟨v, hv, hb⟩
  · exact .inl e
  · exact .inr ⟨v, (World.cell?_of_block (a := ⟨B, 0, none⟩) (hg.block B (by omega) (by simp))).symm.trans hv, hb⟩

theorem kq_put {B : Nat} {W : World} {l : Nat} {o : Obj} (o' : Obj) (hl : W.heap[l]? = some o) (h1 : o.isCells = false) (h2 : o.isWalk = false) (hne : B ≠ l) : Kq (boxDirt B) W (W.putObj l o') := by
  have hg := grownBy_putObj' W l o'
  have hsz : (W.putObj l o').heap.size = W.heap.size := by simp [World.putObj]
  have hcell : (W.putObj l o').cell? ⟨B, 0, none⟩ = W.cell? ⟨B, 0, none⟩ := by
    unfold World.cell?
    rw [World.putObj_heap_other hne]
  have hd : ∀ k, boxDirt B (W.putObj l o') k → boxDirt B W k := fun k hk => by
    unfold boxDirt at hk ⊢
    rw [hcell] at hk
    exact hk
  refine ⟨Nat.le_of_eq hsz.symm, fun k o2 hk hkind hn => ?_, fun k hk => .inl (hd k hk), fun hlow k hk => by rw [hsz]; exact hlow k (hd k hk)⟩
  rw [World.putObj_heap_other ?_]
  · exact hk
  · rintro rfl
    rw [hl] at hk
    cases hk
    rcases hkind with e | e
    · rw [h1] at e; cases e
    · rw [h2] at e; cases e

theorem kq_append {B n₀ : Nat} {t e : TypeId} {W w1 : World} {v v' : Value} {k m : Nat} {xs ys : List Value} {tmp : Obj} (hv : Boxed W B t v) (hte : t ≠ e) (hrow : W.ownsRow n₀ e 1 v k xs) (hown' : w1.ownsRow n₀ e 1 v' m ys) (hgrow : (W.alloc tmp).grownBy w1 v.ownBlock)
    (hloc : v'.ownBlock = v.ownBlock ∨ v'.ownBlock = some (W.alloc tmp).heap.size) : Kq (boxDirt B) W (w1.setCell ⟨B, 0, none⟩ v') := by
  have hv1 : Boxed w1 B t v := (hv.alloc tmp).kept hgrow (hv.not_row hte hrow)
  have hv2 := hv1.set v'
  have hs1 := hgrow.size
  have hsz : (w1.setCell ⟨B, 0, none⟩ v').heap.size = w1.heap.size := by simp [World.setCell]
  simp at hs1
  have hnew : ∀ j, boxDirt B (w1.setCell ⟨B, 0, none⟩ v') j → boxDirt B W j ∨ (W.heap.size ≤ j ∧ j < w1.heap.size) := fun j hj => by
    rcases hj with e1 | ⟨u, hu, hb⟩
    · exact .inl (.inl e1)
    · rw [hv2.cell] at hu
      cases hu
      rcases hloc with e1 | e1
      · exact .inl (.inr ⟨v, hv.cell, by rw [← e1]; exact hb⟩)
      · have hlt := (hown'.lt j hb).2
        rw [e1] at hb
        simp at hb
        exact .inr ⟨by omega, hlt⟩
  refine ⟨by rw [hsz]; omega, fun j o hj hkind hn => ?_, fun j hj => (hnew j hj).imp id (·.1), fun hlow j hj => ?_⟩
  · have hjlt := (Array.getElem?_eq_some_iff.1 hj).1
    have hjB : j ≠ B := fun e => hn (.inl e)
    have hjr : some j ≠ v.ownBlock := fun e => hn (.inr ⟨v, hv.cell, e.symm⟩)
    rw [Below.heap_setCell w1 ⟨B, 0, none⟩ v' j hjB, hgrow.block j (by simp; omega) hjr, Below.heap_alloc W tmp j hjlt]
    exact hj
  · rw [hsz]
    rcases hnew j hj with e | e
    · have := hlow j e; omega
    · exact e.2

theorem pcs_all (M : AD) : M.pcs = M.pcsOf 0 ++ M.pcsOf 1 ++ M.pcsOf 2 ++ M.pcsOf 3 := by
  have e : ∀ L : List Nat, (L.filter (fun i : Nat => (M.files (i : Int)).isSome)).flatMap M.pcsOf = L.flatMap M.pcsOf := by
    intro L
    induction L with
    | nil => rfl
    | cons a L ih =>
      rw [List.filter_cons]
      split
      · rw [List.flatMap_cons, List.flatMap_cons, ih]
      · rename_i hn
        have h0 : M.pcsOf a = [] := by
          unfold AD.pcsOf
          rcases hf : M.files (a : Int) with _ | F
          · rfl
          · rw [hf] at hn; simp at hn
        rw [List.flatMap_cons, h0, ih]
        rfl
  unfold AD.pcs AD.below'
  rw [e]
  simp [List.range_succ]
theorem pcsOf_le (M : AD) (k : Nat) : (M.pcsOf k).length ≤ M.len (k : Int) := by
  unfold AD.pcsOf AD.len
  rcases M.files (k : Int) with _ | F
  · simp
  · simp [pcsAt, AF.pn]; omega
theorem pcs_le (M : AD) : M.pcs.length ≤ M.total := by
  rw [pcs_all]
  have h0 := pcsOf_le M 0
  have h1 := pcsOf_le M 1
  have h2 := pcsOf_le M 2
  have h3 := pcsOf_le M 3
  simp at *
  unfold AD.total
  omega

set_option maxHeartbeats 2000000 in
theorem pending_any {w : World} {S : Nat → Prop} {d : Nat} {M : AD} (h : DiskAt w S d M) : Calls Try.prog 22 #[.pointer (some ⟨d, 0, none⟩)] w (GivesI w M.pend) := by
  obtain ⟨mb, f, A, c, h⟩ := h
  have HD := Lib.hid h
  have h1 : DiskIn ((w.alloc (.cells #[.slice none 0 0] 48)).alloc (.cells #[.pointer (some ⟨d, 0, none⟩)] 24)) S d M mb f A c := h.later (((Below.refl _ w).alloc (Nat.le_refl _) _).alloc (by simp) _)
  have HD1 := Lib.hid h1
  have hdlt := h.lt
  have hmlt := h.low _ h.files.inS
  obtain ⟨i0, hi, hz0, hz1, hz2⟩ := info_parts infoInt
  have hpl : M.pcs.length ≤ 100000 := by have h1 := pcs_le M; have h2 := h.ok.tot; have h3 := h.ok.room2; omega
  clear h h1
  refine (callsIn_wide (n := 3)).1 ?_
  refine callsIn_of_wp_marks Try.func22 rfl trivial ?_ rfl
  simp only [Try.ntmps22, List.size_toArray, List.length_cons, List.length_nil, Nat.reduceAdd, Nat.reduceSub, Array.replicate_succ, Array.replicate_zero, List.push_toArray, List.append_toArray, List.nil_append, List.cons_append]
  gi_wp2_with (refine ⟨trivial, ?_⟩; gi_at_call 58; refine (callsIn_wide.2 (pieces_any _ _)).mono ?_; rintro e w' ⟨rfl, rfl⟩)
  have hsz : ((w.alloc (.cells #[.slice none 0 0] 48)).alloc (.cells #[.pointer (some ⟨d, 0, none⟩)] 24)).heap.size = w.heap.size + 2 := by simp
  have hB0 : Boxed ((w.alloc (.cells #[.slice none 0 0] 48)).alloc (.cells #[.pointer (some ⟨d, 0, none⟩)] 24)) w.heap.size 48 (.slice none 0 0) := (Boxed.new w _ _).alloc _
  have hbx : ((w.alloc (.cells #[.slice none 0 0] 48)).alloc (.cells #[.pointer (some ⟨d, 0, none⟩)] 24)).heap[w.heap.size + 1]? = some (.cells #[.pointer (some ⟨d, 0, none⟩)] 24 (0, 0)) := by
    have := heap_alloc_new (w.alloc (.cells #[.slice none 0 0] 48)) (.cells #[.pointer (some ⟨d, 0, none⟩)] 24)
    rw [World.size_alloc] at this
    exact this
  have hbw : Below w.heap.size w ((w.alloc (.cells #[.slice none 0 0] 48)).alloc (.cells #[.pointer (some ⟨d, 0, none⟩)] 24)) := ((Below.refl _ w).alloc (Nat.le_refl _) _).alloc (by simp) _
  generalize (w.alloc (.cells #[.slice none 0 0] 48)).alloc (.cells #[.pointer (some ⟨d, 0, none⟩)] 24) = W0 at HD1 hsz hB0 hbx hbw ⊢
  have hnd : ∀ k, boxDirt w.heap.size W0 k → k = w.heap.size := fun k hk => by
    rcases hk with e | ⟨v, hv, hb⟩
    · exact e
    · rw [hB0.cell] at hv; cases hv; cases hb
  refine wpIn_rangeFunc_ownG rfl (by omega) (gf := 81) (lb := #[.pointer (some ⟨w.heap.size + 1, 0, none⟩)]) rfl trivial (enters_of Try.func81 (by kernel_rfl) rfl)
    (pieces_stops (boxDirt w.heap.size) (w.heap.size + 1) (boxDirt_grow (by omega)) HD1.out 2 (w.heap.size + 1) (by omega) (by omega) hbx (fun k hk e => by have := hnd k e; omega) (fun k e => by have := hnd k e; omega))
    Kq.trans (fun W l o o' hl ho h1 h2 => kq_put o' ho h1 h2 (by omega)) (Below.refl _ _) (fun _ => rfl)
    (fun pre W => (∃ v, Boxed W w.heap.size 48 v ∧ W.ownsRow w.heap.size 3 1 v pre.length ((pre.map (fun x : Pc => (x.nm : Int))).map (Value.int .i64)) ∧ True) ∧ Below w.heap.size w W)
    (fun _ _ _ => False)
    (OwnFrom.and (Own.from (holdsRow_own w.heap.size w.heap.size 48 3 1 (fun pre : List Pc => pre.length) (fun pre => (pre.map (fun x : Pc => (x.nm : Int))).map (Value.int .i64)) (fun _ _ => True)) _) (ownFrom_below (Nat.le_refl _) (by omega)))
    (fun _ _ _ _ _ hs _ _ => hs)
    ⟨⟨_, hB0, World.ownsRow_nil _ _ _ _, trivial⟩, hbw⟩
    (fun x => { tmps := #[.pointer (some ⟨d, 0, none⟩), undef, .slice none 0 0, .pointer (some ⟨w.heap.size, 0, none⟩), .int .i64 (x.nm : Nat), .pointer (some ⟨d, 0, none⟩), .bool false, .pointer (some ⟨d, 0, none⟩), .func (.func 81) #[] #[.pointer (some ⟨w.heap.size + 1, 0, none⟩)], .int .i64 (x.nm : Nat), .int .i64 (x.sz : Nat), undef, undef, undef, undef, undef], defers := [] }) ?assign ?body ?done ?stop
  case assign =>
    intro l x W K hK
    dsimp only [Pc.enc]
    gi_wp2
    exact hK
  case body =>
    rintro l pre x W ⟨⟨v, hv, hrow, _⟩, hB⟩ hlen
    have hc := hv.cell
    have hpre : pre.length ≤ 100000 := by omega
    have HV := Lib.hid hv
    have HR := Lib.hid hrow
    have HB := Lib.hid hB
    obtain ⟨pn, hpn⟩ : ∃ pn, pn = pre.length := ⟨_, rfl⟩
    rw [← hpn] at HR hpre
    have HP := Lib.hid hpn
    obtain ⟨A0, c0, rfl, _, _⟩ := own_form HR.out
    clear hv hrow hB hpn hlen
    gi_wp2_with (gi_at_builtin; refine wpListIn_append_own_at _ rfl _ _ 48 rfl w.heap.size 3 i0 (.int .i64 0) 1 8 Try.underlying48 hi hz0 hz1 hz2 rfl (by decide) _ _ _ rfl (HR.out.alloc _) ⟨W.heap.size, 0, none⟩ 1 1 [.int .i64 (x.nm : Nat)] rfl rfl (cell_one_new _ _ _) (by simp [Value.oneCell']) (by unfold maxLen; omega) (by omega) (by have := HB.out.size; simp; omega) ?_; intro v' w1 hown' hgrow _ hloc; obtain ⟨g', cap', rfl⟩ := ownsRow_succ hown'; obtain ⟨hv1, hv2, hr2, hk2, hb2⟩ := HV.out.appended (by decide) HR.out HB.out.size (Nat.le_refl _) hown' hgrow; have hkq := kq_append HV.out (by decide) HR.out hown' hgrow hloc; have hc1 := hv1.cell; have hf1 := hv1.frozen; have X2 := Lib.hid hv2; have R2 := Lib.hid hr2; have K2 := Lib.hid hk2; have B2 := Lib.hid hb2; have Q2 := Lib.hid hkq; clear hv1 hv2 hr2 hk2 hb2 hkq hown' hgrow hloc)
    refine ⟨K2.out.from _, Q2.out, ⟨⟨_, X2.out, ?_, trivial⟩, HB.out.trans B2.out⟩⟩
    rw [List.length_append, ← HP.out]
    simpa using R2.out
  case done =>
    rintro D ys W hD rfl ⟨⟨v, hv, hrow, _⟩, hB⟩ hK
    have hc := hv.cell
    have HR := Lib.hid hrow
    have HB := Lib.hid hB
    obtain ⟨A0, c0, rfl, _, _⟩ := own_form hrow
    clear hv hrow hB
    gi_wp2
    refine ⟨by simp, .inl ⟨_, _, rfl, run_takeDeferred hK, ?_⟩⟩
    refine ⟨_, results_tmp rfl _ _ _, _, rfl, ?_, ?_⟩
    · have := ownsRow_putObj HR.out (.deferred none) hK rfl
      simpa [AD.pend] using this
    · exact HB.out.trans (belowK_b (w := w) (Nat.le_refl _) W D _ _ (by omega) hK rfl rfl)
  case stop =>
    rintro D c pre W _ _ h _
    exact h.elim

end Go.Proofs.Ythpbgejjfdgpaaa
