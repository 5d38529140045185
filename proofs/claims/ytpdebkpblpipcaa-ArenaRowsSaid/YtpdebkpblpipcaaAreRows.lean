/-
  Of and ByRows.
-/
import Derived.Test.YtpdebkpblpipcaaAreOrdered
namespace Go.Proofs.Ytpdebkpblpipcaa
open Go.RowKit Go.Shelf
set_option linter.unusedVariables false
set_option linter.unusedSimpArgs false
set_option maxRecDepth 100000

def ofA (l : List Ce) (id : Int) : List Nat := if arB l = true then ordS l (fun e => decide (e.i = id)) else []
def rowsS (l : List Ce) : List Nat := ordS l (fun _ => true)
def rowsA (l : List Ce) : List Ce := if arB l = true then (rowsS l).map (ceAt l) else []
/-- A call that answers slots of the call's own, and an error. -/
def GivesSE (w : World) (s : List Nat) (er : Int) (e : Ending) (w' : World) : Prop := ∃ A c, e = .returned (.tuple #[.slice A s.length c, .int .i64 er]) ∧ OwnS w.heap.size w' A c s ∧ Below w.heap.size w w'
/-- A call that answers cells of the call's own, and an error. -/
def GivesCE (w : World) (l : List Ce) (er : Int) (e : Ending) (w' : World) : Prop := ∃ A c q, e = .returned (.tuple #[.slice A (List.length q) c, .int .i64 er]) ∧ ces q = l ∧ OwnA w.heap.size w' A c q ∧ Below w.heap.size w w'

set_option maxHeartbeats 1000000 in
theorem of_any9 (A : Option Addr) (c : Nat) (q : List Pa) (id : Int) (w : World) (h : Are w A c q) :
    Calls Try.prog 11 #[.agg #[.slice A q.length c], .int .u64 id] w (GivesSE w (ofA (ces q) id) (chkA (ces q))) := by
  obtain ⟨W0, hW0⟩ : ∃ W0, W0 = (w.alloc (.cells #[.slice A q.length c] 24)).alloc (.cells #[.int .u64 id] 25) := ⟨_, rfl⟩
  have hb0 : Below w.heap.size w W0 := by rw [hW0]; exact ((Below.refl _ w).alloc (Nat.le_refl _) _).alloc (by simp) _
  have hz0 : W0.heap.size = w.heap.size + 2 := by rw [hW0]; simp
  have x0 : Boxed W0 w.heap.size 24 (.slice A q.length c) := by rw [hW0]; exact (Boxed.new w _ _).alloc _
  have x1 : Boxed W0 (w.heap.size + 1) 25 (.int .u64 id) := by
    rw [hW0]
    have h := Boxed.new (w.alloc (.cells #[.slice A q.length c] 24)) 25 (.int .u64 id)
    rw [World.size_alloc] at h; exact h
  have HC := Lib.hid (checkA_any A c q W0 (h.below hb0))
  have HB := Lib.hid hb0
  have HW := Lib.hid hW0
  cases hr : arB (ces q) with
  | false =>
    have HF := Lib.hid (show ofA (ces q) id = [] by unfold ofA; rw [hr]; rfl)
    have HE := Lib.hid (chkA_no hr)
    generalize ofA (ces q) id = s at *
    generalize chkA (ces q) = E at *
    generalize q.length = n at *
    clear h hW0 hb0 hz0 x0 x1 hr
    go_enter Try.func11, Try.ntmps11
    go_wp2_with fail
    rw [← HW.out]
    refine HC.out.mono ?_
    rw [HE.out]
    rintro e w1 ⟨rfl, hb1⟩
    have HB1 := Lib.hid (HB.out.trans (hb1.mono HB.out.size))
    clear hb1
    go_wp2
    go_ret2
    exact ⟨none, 0, by rw [HF.out, HE.out]; rfl, by rw [HF.out]; exact OwnS.nil _ _, HB1.out⟩
  | true =>
    have HF := Lib.hid (show ofA (ces q) id = ordS (ces q) (fun e => decide (e.i = id)) by unfold ofA; rw [if_pos hr])
    have HE := Lib.hid (chkA_ok hr)
    have HO := Lib.hid (fun (X : World) (hX : Below W0.heap.size W0 X) => ordered_any A c q 34 #[.pointer (some ⟨w.heap.size + 1, 0, none⟩)] (fun e => decide (e.i = id)) X ((h.below hb0).below hX) (by rw [← ces_length]; exact arB_len hr) (fun v Y => enters_of Try.func34 (by kernel_rfl) rfl _ Y)
      (fun p Y hY hv hf => of1_any p (w.heap.size + 1) id Y (Boxed.cell ((hY.block (w.heap.size + 1) (Nat.lt_of_lt_of_le x1.lt hX.size)).trans ((hX.block _ x1.lt).trans x1)))))
    have HX0 := Lib.hid (fun (X : World) (hX : Below W0.heap.size W0 X) => show X.cell? ⟨w.heap.size, 0, none⟩ = some (.slice A q.length c) from Boxed.cell ((hX.block _ x0.lt).trans x0))
    generalize ofA (ces q) id = s at *
    generalize ordS (ces q) (fun e => decide (e.i = id)) = s2 at *
    generalize chkA (ces q) = E at *
    generalize q.length = n at *
    clear h hW0 hb0 hz0 x0 x1 hr
    go_enter Try.func11, Try.ntmps11
    go_wp2_with fail
    rw [← HW.out]
    refine HC.out.mono ?_
    rw [HE.out]
    rintro e w1 ⟨rfl, hb1⟩
    have HB1 := Lib.hid (HB.out.trans (hb1.mono HB.out.size))
    have HO1 := Lib.hid (HO.out w1 hb1)
    have cbx := HX0.out w1 hb1
    clear hb1
    go_wp2_with fail
    refine HO1.out.mono ?_
    rintro e w2 ⟨A2, c2, rfl, ho2, hb2⟩
    have HB2 := Lib.hid (And.intro (World.ownsRow.mono ho2 HB1.out.size) (HB1.out.trans (hb2.mono HB1.out.size)))
    clear ho2 hb2
    go_wp2
    go_ret2
    exact ⟨A2, c2, by rw [HF.out, HE.out]; rfl, by rw [HF.out]; exact HB2.out.1, HB2.out.2⟩

/-- One more cell of the call's own. -/
theorem OwnA.snoc {base : Nat} {w w' : World} {A A1 : Option Addr} {c c1 : Nat} {q : List Pa} {p : Pa} (h : OwnA base w A c q) (hp : OwnV base w p.B p.c p.e.x) (hf : Fit p.e)
    (hr : w'.ownsRow base 45 5 (.slice A1 (q.length + 1) c1) (q.length + 1) (flatA q ++ flatA [p])) (hg : w.grownBy w' (blk A)) : OwnA base w' A1 c1 (q ++ [p]) := by
  have hne : ∀ (B : Option Addr) (cb : Nat) (xs : List Int), OwnV base w B cb xs → OwnV base w' B cb xs := by
    intro B cb xs hB
    refine ⟨hB.1.kept hg ?_, hB.2⟩
    rcases hB.1.2 with ⟨e, h0⟩ | ⟨g, cap, cur, e, hg, hh, _⟩
    · left; rw [e]; rfl
    · right
      rw [e, own_blk]
      intro hbb
      rcases h.row.2 with ⟨e', _⟩ | ⟨g', cap', cur', e', _, hh', _⟩
      · injection e' with e1; rw [e1] at hbb; cases hbb
      · injection e' with e1
        rw [e1] at hbb
        have : g = g' := by simpa [blk] using hbb
        subst this
        rw [hh] at hh'
        injection hh' with hh'
        injection hh' with _ ht _
        exact absurd ht (by decide)
  refine ⟨by rw [flatA_append, List.length_append]; exact hr, fun r hr => ?_, fun r hr => ?_⟩
  · rcases List.mem_append.1 hr with hr | hr
    · exact hne _ _ _ (h.el r hr)
    · obtain rfl : r = p := by simpa using hr
      exact hne _ _ _ hp
  · rcases List.mem_append.1 hr with hr | hr
    · exact h.fit r hr
    · obtain rfl : r = p := by simpa using hr
      exact hf
theorem grown_below {w w' : World} {B : Nat} {A : Option Addr} (hg : w.grownBy w' (blk A)) (hb : B ≤ w.heap.size) (hA : ∀ i, blk A = some i → B ≤ i) : Below B w w' :=
  (Turn.of_grown (S := fun i => blk A = some i) hg (fun i hi => .inl hi)).below hb hA
theorem OwnA.low {base : Nat} {w : World} {A : Option Addr} {c : Nat} {q : List Pa} (h : OwnA base w A c q) : ∀ i, blk A = some i → base ≤ i ∧ i < w.heap.size := fun i hi => h.row.lt i (by rw [own_blk]; exact hi)

/-- The cells told so far. -/
def RwI (w : World) (l : List Ce) (s : List Nat) (k : Nat) (A1 : Option Addr) (c1 : Nat) (wr : World) : Prop := ∃ r, List.length r = k ∧ ces r = (s.take k).map (ceAt l) ∧ OwnA w.heap.size wr A1 c1 r

set_option maxHeartbeats 4000000 in
theorem byRows_any (A : Option Addr) (c : Nat) (q : List Pa) (w : World) (h : Are w A c q) :
    Calls Try.prog 12 #[.agg #[.slice A q.length c]] w (GivesCE w (rowsA (ces q)) (chkA (ces q))) := by
  obtain ⟨W0, hW0⟩ : ∃ W0, W0 = w.alloc (.cells #[.slice A q.length c] 24) := ⟨_, rfl⟩
  have hb0 : Below w.heap.size w W0 := by rw [hW0]; exact (Below.refl _ w).alloc (Nat.le_refl _) _
  have x0 : Boxed W0 w.heap.size 24 (.slice A q.length c) := by rw [hW0]; exact Boxed.new w _ _
  have HC := Lib.hid (checkA_any A c q W0 (h.below hb0))
  have HB := Lib.hid hb0
  have HW := Lib.hid hW0
  cases hr : arB (ces q) with
  | false =>
    have HF := Lib.hid (show rowsA (ces q) = [] by unfold rowsA; rw [hr]; rfl)
    have HE := Lib.hid (chkA_no hr)
    generalize rowsA (ces q) = s at *
    generalize chkA (ces q) = E at *
    generalize q.length = n at *
    clear h hW0 hb0 x0 hr
    go_enter Try.func12, Try.ntmps12
    go_wp2_with fail
    rw [← HW.out]
    refine HC.out.mono ?_
    rw [HE.out]
    rintro e w1 ⟨rfl, hb1⟩
    have HB1 := Lib.hid (HB.out.trans (hb1.mono HB.out.size))
    clear hb1
    go_wp2
    go_ret2
    exact ⟨none, 0, [], by rw [HE.out]; rfl, by rw [HF.out]; rfl, OwnA.nil _ _, HB1.out⟩
  | true =>
    have hl96 : q.length = 96 := by rw [← ces_length]; exact arB_len hr
    have HF := Lib.hid (show rowsA (ces q) = (rowsS (ces q)).map (ceAt (ces q)) by unfold rowsA; rw [if_pos hr])
    have HE := Lib.hid (chkA_ok hr)
    have HO := Lib.hid (fun (X : World) (hX : Below W0.heap.size W0 X) => ordered_any A c q 35 #[] (fun _ => true) X ((h.below hb0).below hX) hl96 (fun v Y => enters_of Try.func35 (by kernel_rfl) rfl _ Y)
      (fun p Y hY hv hf => by rw [Array.append_empty]; exact rows1_any p Y))
    have HX0 := Lib.hid (fun (X : World) (hX : Below W0.heap.size W0 X) => show X.cell? ⟨w.heap.size, 0, none⟩ = some (.slice A q.length c) from Boxed.cell ((hX.block _ x0.lt).trans x0))
    have HSl := Lib.hid (show ∀ k ∈ rowsS (ces q), k < 96 from fun k hk => by have := ordS_lt (ces q) _ k hk; rw [ces_length, hl96] at this; exact this)
    have HSn := Lib.hid (show (rowsS (ces q)).length ≤ 96 from by have := ordS_le (ces q) (fun _ => true); rw [ces_length, hl96] at this; exact this)
    have HMay := Lib.hid (show ∀ p ∈ q, p.e.x.length ≤ 4 from fun p hp => may_len (arB_may hr p.e (List.mem_map.2 ⟨p, hp, rfl⟩)))
    have HQ := Lib.hid h
    have HL96 := Lib.hid hl96
    change Hid (∀ (X : World) (hX : Below W0.heap.size W0 X), Calls Try.prog 33 #[.agg #[.slice A q.length c], .func (.func 35) #[] #[]] X (GivesS X (rowsS (ces q)))) at HO
    generalize hs : rowsS (ces q) = s at *
    clear hs
    generalize chkA (ces q) = E at *
    obtain ⟨n, hn⟩ : ∃ n, n = q.length := ⟨_, rfl⟩
    have n96 : n = 96 := by rw [hn]; exact hl96
    rw [← hn] at HC HO HX0 HW ⊢
    have HN := Lib.hid hn
    have HN96 := Lib.hid n96
    have hn96 : n ≤ 9223372036854775807 := by omega
    clear n96
    obtain ⟨m, hm⟩ : ∃ m, m = s.length := ⟨_, rfl⟩
    have hm96 : m ≤ 96 := by rw [hm]; exact HSn.out
    have HM := Lib.hid hm
    clear h hW0 hb0 x0 hr hn hm hl96
    go_enter Try.func12, Try.ntmps12
    go_wp2_with fail
    rw [← HW.out]
    refine HC.out.mono ?_
    rw [HE.out]
    rintro e w1 ⟨rfl, hb1⟩
    have HB01 := Lib.hid hb1
    have HB1 := Lib.hid (HB.out.trans (hb1.mono HB.out.size))
    have HO1 := Lib.hid (HO.out w1 hb1)
    have cbx := HX0.out w1 hb1
    clear hb1
    go_wp2_with fail
    refine HO1.out.mono ?_
    rintro e w2 ⟨A2, c2, rfl, ho2, hb2⟩
    have hv2 := OwnS.vec ho2 (fun k hk => by have := HSl.out k hk; omega)
    have HV := Lib.hid hv2
    have HB02 := Lib.hid (HB01.out.trans (hb2.mono HB01.out.size))
    have HB2 := Lib.hid (HB1.out.trans (hb2.mono HB1.out.size))
    rw [← HM.out]
    clear ho2 hb2 hv2
    go_wp2
    go_loopw [5, 16] (fun v i wr => ∃ (k : Nat) (A1 : Option Addr) (c1 : Nat), k ≤ m ∧ i = .int .i64 k ∧ v = .slice A1 k c1 ∧ Hid (RwI w2 (ces q) s k A1 c1 wr) ∧ Hid (Below w2.heap.size w2 wr)) (fun _ i _ => m - (intOf i).toNat)
    case atStart => exact ⟨0, none, 0, Nat.zero_le _, rfl, rfl, Lib.hid ⟨[], rfl, rfl, OwnA.nil _ _⟩, Lib.hid (Below.refl _ _)⟩
    case round =>
      obtain ⟨k, A1, c1, hk, rfl, rfl, HR, HBr⟩ := hrel
      by_cases hkm : k < m
      · obtain ⟨x, hx⟩ : ∃ x, s[k]? = some x := ⟨_, List.getElem?_eq_getElem (by rw [← HM.out]; exact hkm)⟩
        have hx96 := HSl.out x (List.mem_of_getElem? hx)
        obtain ⟨b, o, rfl, hb, ci⟩ := HV.out.at_ (j := k) (by rw [List.length_map, ← HM.out]; exact hkm)
        have hgx : (s.map fun (k : Nat) => (k : Int)).getD k 0 = (x : Int) := by simp [List.getD, hx]
        rw [hgx] at ci
        have ci := (HBr.out.cell (p := ⟨b, o + k, none⟩) hb).trans ci
        have hbw := HB2.out.trans (HBr.out.mono HB2.out.size)
        obtain ⟨b', o', p, e', hp, hb', d0, d1, d2, d3, d4, hv, hf⟩ := (HQ.out.below hbw).at_ (i := x) (by rw [HL96.out]; exact hx96)
        subst e'
        have ca := HX0.out wr (HB02.out.trans (HBr.out.mono HB02.out.size))
        have HC := Lib.hid (owned_any p wr hv (by have := HMay.out p (List.mem_of_getElem? hp); omega))
        obtain ⟨r, hr1, hr2, hr3⟩ := HR.out
        have HT := Lib.hid (show (s.take (k + 1)).map (ceAt (ces q)) = ces r ++ [p.e] by rw [List.take_add_one, hx, List.map_append, ← hr2]; simp [ces_ceAt hp])
        have k0 : (0 : Int) ≤ k := by omega
        have km : (k : Int) < m := by omega
        have x00 : (0 : Int) ≤ x := by omega
        have xn : (x : Int) < n := by have := HN96.out; omega
        have HR1 := Lib.hid hr1
        have HR3 := Lib.hid hr3
        have HFi := Lib.hid hf
        have HBW := Lib.hid hbw
        clear hx hx96 hgx hbw hp hv hf hr1 hr2 hr3 hb hb'
        go_wp2_with (first
          | (go_at_call 36; refine HC.out.mono ?_; rintro e w3 ⟨B3, c3, rfl, hv3, hb3⟩; have HB4 := Lib.hid (hb3.alloc hb3.size (.cells #[.bool p.e.u, .int .u64 p.e.i, .int .u64 p.e.b, .int .u64 p.e.f, .slice B3 p.e.x.length c3] 45)); have HO4 := Lib.hid (HR3.out.below HB4.out); have HV4 := Lib.hid ((hv3.below ((Below.refl _ w3).alloc (Nat.le_refl _) (.cells #[.bool p.e.u, .int .u64 p.e.i, .int .u64 p.e.b, .int .u64 p.e.f, .slice B3 p.e.x.length c3] 45))).mono HBr.out.size); clear hv3 hb3)
          | (at_builtin; refine gapp_at rfl (.tmp 20) (.tmp 27) appA rfl w2.heap.size A1 c1 k (flatA r) rfl (by have := HO4.out.row; rw [HR1.out] at this; exact this) (some ⟨w3.heap.size, 0, none⟩) 1 1 (flatA [⟨p.e, B3, c3⟩]) rfl (Read.cell (p := ⟨p.e, B3, c3⟩) (cell_laid _ _ _ 0) (cell_laid _ _ _ 1) (cell_laid _ _ _ 2) (cell_laid _ _ _ 3) (cell_laid _ _ _ 4)) (by omega) (Nat.le_trans HBr.out.size HB4.out.size) ?_; intro A5 c5 w5 ho5 hg5 _; have HO5 := Lib.hid (HO4.out.snoc (p := ⟨p.e, B3, c3⟩) HV4.out HFi.out (by rw [HR1.out]; exact ho5) hg5); have HG5 := Lib.hid (HBr.out.trans ((HB4.out.mono HBr.out.size).trans (grown_below (B := w2.heap.size) hg5 (Nat.le_trans HBr.out.size HB4.out.size) (fun i hi => (HO4.out.low i hi).1)))); clear ho5 hg5))
        go_roundw
        case rel => exact ⟨k + 1, A5, c5, by omega, by go_num, rfl, Lib.hid ⟨r ++ [⟨p.e, B3, c3⟩], by rw [List.length_append, HR1.out]; rfl, by rw [HT.out, ces_append]; rfl, HO5.out⟩, HG5⟩
        case measure => simp [intOf]; omega
      · obtain rfl : k = m := by omega
        have HT := Lib.hid (show s.take k = s by rw [HM.out]; exact List.take_length)
        go_wp2
        go_ret2
        obtain ⟨r, h1, h2, h3⟩ := HR.out
        exact ⟨A1, c1, r, by rw [h1, HE.out]; rfl, by rw [h2, HT.out, HF.out], h3.mono HB2.out.size, HB2.out.trans (HBr.out.mono HB2.out.size)⟩

end Go.Proofs.Ytpdebkpblpipcaa
