/-
  Put.
-/
import Derived.Test.YtpdebkpblpipcaaArePack
namespace Go.Proofs.Ytpdebkpblpipcaa
open Go.RowKit Go.Shelf
set_option linter.unusedVariables false
set_option linter.unusedSimpArgs false
set_option maxRecDepth 100000

def putE (l : List Ce) (b f : Int) (x : List Int) : Int := if arB l = true then (if verR b f x = true then (match leastO l with | some _ => 0 | none => 6) else 171) else 190
def putK (l : List Ce) (b f : Int) (x : List Int) : Int := if putE l b f x = 0 then idxK (leastO l) else 0
def putL (l : List Ce) (id b f : Int) (x : List Int) : List Ce := if putE l b f x = 0 then (match leastO l with | some k => l.set k ⟨true, id, b, f, x⟩ | none => []) else []
theorem put_no {l : List Ce} {b f : Int} {x : List Int} {E : Int} (h : putE l b f x = E) (hE : E ≠ 0) (id : Int) : putK l b f x = 0 ∧ putL l id b f x = [] := by unfold putK putL; rw [h, if_neg hE, if_neg hE]; exact ⟨rfl, rfl⟩
/-- A call that answers an arena of the call's own, a slot and an error. -/
def GivesP (w : World) (l : List Ce) (k er : Int) (e : Ending) (w' : World) : Prop := ∃ A c q, e = .returned (.tuple #[.agg #[.slice A (List.length q) c], .int .i64 k, .int .i64 er]) ∧ ces q = l ∧ OwnA w.heap.size w' A c q ∧ Below w.heap.size w w'
theorem verE_iff (b f : Int) (x : List Int) : verE b f x = if verR b f x = true then 0 else 171 := rfl

/-- What lies in the boxes of Put. -/
structure PutB (w W0 : World) (A : Option Addr) (n c : Nat) (b f : Int) (B : Option Addr) (nx cx : Nat) : Prop where
  size : W0.heap.size = w.heap.size + 3
  below : Below w.heap.size w W0
  ar : Boxed W0 w.heap.size 24 (.slice A n c)
  ver : W0.heap[w.heap.size + 1]? = some (.cells #[.int .u64 b, .int .u64 f, .slice B nx cx] 43 (0, 0))
  res : Boxed W0 (w.heap.size + 2) 24 (.slice none 0 0)
theorem putB (w : World) (A : Option Addr) (n c : Nat) (b f : Int) (B : Option Addr) (nx cx : Nat) : PutB w (((w.alloc (.cells #[.slice A n c] 24)).alloc (.cells #[.int .u64 b, .int .u64 f, .slice B nx cx] 43)).alloc (.cells #[.slice none 0 0] 24)) A n c b f B nx cx := by
  refine ⟨by simp, (((Below.refl _ w).alloc (Nat.le_refl _) _).alloc (by simp) _).alloc (by simp; omega) _, ((Boxed.new w _ _).alloc _).alloc _, ?_, ?_⟩
  · have h := heap_alloc_new (w.alloc (.cells #[.slice A n c] 24)) (.cells #[.int .u64 b, .int .u64 f, .slice B nx cx] 43)
    rw [World.size_alloc] at h
    exact (Below.heap_alloc _ _ _ (by simp)).trans h
  · have h := Boxed.new ((w.alloc (.cells #[.slice A n c] 24)).alloc (.cells #[.int .u64 b, .int .u64 f, .slice B nx cx] 43)) 24 (.slice none 0 0)
    rw [World.size_alloc, World.size_alloc] at h
    exact h
theorem PutB.later {w W0 X : World} {A : Option Addr} {n c : Nat} {b f : Int} {B : Option Addr} {nx cx : Nat} (h : PutB w W0 A n c b f B nx cx) (hX : Below W0.heap.size W0 X) :
    Below w.heap.size w X ∧ Boxed X w.heap.size 24 (.slice A n c) ∧ X.heap[w.heap.size + 1]? = some (.cells #[.int .u64 b, .int .u64 f, .slice B nx cx] 43 (0, 0)) ∧ Boxed X (w.heap.size + 2) 24 (.slice none 0 0) :=
  ⟨h.below.trans (hX.mono h.below.size), (hX.block _ h.ar.lt).trans h.ar, (hX.block _ (lt_of_block h.ver)).trans h.ver, (hX.block _ h.res.lt).trans h.res⟩

set_option maxHeartbeats 4000000 in
theorem put_any (A : Option Addr) (c : Nat) (q : List Pa) (id b f : Int) (B : Option Addr) (cx : Nat) (x : List Int) (w : World) (h : Are w A c q) (hv : Vec .i32 w B cx x) (hid : U64s id) (hb : U64s b) (hf : U64s f) :
    Calls Try.prog 26 #[.agg #[.slice A q.length c], .int .u64 id, .agg #[.int .u64 b, .int .u64 f, .slice B x.length cx]] w (GivesP w (putL (ces q) id b f x) (putK (ces q) b f x) (putE (ces q) b f x)) := by
  obtain ⟨W0, hW0⟩ : ∃ W0, W0 = ((w.alloc (.cells #[.slice A q.length c] 24)).alloc (.cells #[.int .u64 b, .int .u64 f, .slice B x.length cx] 43)).alloc (.cells #[.slice none 0 0] 24) := ⟨_, rfl⟩
  have hP := putB w A q.length c b f B x.length cx
  rw [← hW0] at hP
  have HP := Lib.hid hP
  have HW := Lib.hid hW0
  have HC := Lib.hid (checkA_any A c q W0 (h.below hP.below))
  have HV := Lib.hid (fun (X : World) (hX : Below W0.heap.size W0 X) => checkVersion_any b f B cx x X ((hv.below hP.below).below hX))
  have HI := Lib.hid (fun (X : World) (hX : Below W0.heap.size W0 X) => indexC_any A c q 46 #[] (fun e => !e.u) X ((h.below hP.below).below hX) (fun v Y => enters_of Try.func46 (by kernel_rfl) rfl _ Y) (fun p Y _ _ _ => by rw [Array.append_empty]; exact put1_any p Y))
  change Hid (∀ (X : World) (hX : Below W0.heap.size W0 X), Calls Try.prog 45 #[.slice A q.length c, .func (.func 46) #[] #[]] X fun e w' => e = .returned (.int .i64 (idxK (leastO (ces q)))) ∧ Below X.heap.size X w') at HI
  have HX := Lib.hid (fun (X : World) (hX : Below W0.heap.size W0 X) => hP.later hX)
  cases hr : arB (ces q) with
  | false =>
    have hE : putE (ces q) b f x = 190 := by unfold putE; rw [hr]; rfl
    obtain ⟨hK, hL⟩ := put_no hE (by decide) id
    rw [chkA_no hr] at HC
    have HF := Lib.hid (And.intro hE (And.intro hK hL))
    generalize putL (ces q) id b f x = L at *
    generalize putK (ces q) b f x = K0 at *
    generalize putE (ces q) b f x = E at *
    generalize q.length = n at *
    generalize x.length = nx at *
    clear h hv hid hb hf hP hW0 hr hE hK hL HV HI
    go_enter Try.func26, Try.ntmps26
    go_wp2_with fail
    rw [← HW.out]
    refine HC.out.mono ?_
    rintro e w1 ⟨rfl, hb1⟩
    obtain ⟨hbw, x0, xv, xr⟩ := HX.out w1 hb1
    obtain ⟨r0, hbR⟩ := res_set (.slice none 0 0) xr hbw (by omega)
    have c0 := xr.cell
    have f0 := xr.frozen
    have HB := Lib.hid hbR
    clear hb1 hbw x0 xv xr hbR
    go_wp2
    refine bodyPost_ret (v := .tuple #[.agg #[.slice none 0 0], .int .i64 0, .int .i64 190]) (by simp [results, Try.results26, go_sem, r0]) rfl ?_
    rw [HF.out.1, HF.out.2.1, HF.out.2.2]
    exact ⟨none, 0, [], rfl, rfl, OwnA.nil _ _, HB.out⟩
  | true =>
    rw [chkA_ok hr] at HC
    cases hvr : verR b f x with
    | false =>
      have hE : putE (ces q) b f x = 171 := by unfold putE; rw [hr, hvr]; rfl
      obtain ⟨hK, hL⟩ := put_no hE (by decide) id
      have HV2 := Lib.hid (show verE b f x = 171 by rw [verE_iff, hvr]; rfl)
      rw [HV2.out] at HV
      have HF := Lib.hid (And.intro hE (And.intro hK hL))
      generalize putL (ces q) id b f x = L at *
      generalize putK (ces q) b f x = K0 at *
      generalize putE (ces q) b f x = E at *
      generalize q.length = n at *
      generalize x.length = nx at *
      clear h hv hid hb hf hP hW0 hr hE hK hL HI hvr HV2
      go_enter Try.func26, Try.ntmps26
      go_wp2_with fail
      rw [← HW.out]
      refine HC.out.mono ?_
      rintro e w1 ⟨rfl, hb1⟩
      have HV1 := Lib.hid (HV.out w1 hb1)
      have HB1 := Lib.hid hb1
      obtain ⟨hbw, x0, xv, xr⟩ := HX.out w1 hb1
      have v0 := (cell_of_row _ _ 0 _ _ _ xv).trans rfl
      have v1 := (cell_of_row _ _ 1 _ _ _ xv).trans rfl
      have v2 := (cell_of_row _ _ 2 _ _ _ xv).trans rfl
      clear hb1 hbw x0 xv xr
      go_wp2_with fail
      refine HV1.out.mono ?_
      rintro e w2 ⟨rfl, hb2⟩
      obtain ⟨hbw, x0, xv, xr⟩ := HX.out w2 (HB1.out.trans (hb2.mono HB1.out.size))
      obtain ⟨r0, hbR⟩ := res_set (.slice none 0 0) xr hbw (by omega)
      have c0 := xr.cell
      have f0 := xr.frozen
      have HB := Lib.hid hbR
      clear hb2 hbw x0 xv xr hbR
      go_wp2
      refine bodyPost_ret (v := .tuple #[.agg #[.slice none 0 0], .int .i64 0, .int .i64 171]) (by simp [results, Try.results26, go_sem, r0]) rfl ?_
      rw [HF.out.1, HF.out.2.1, HF.out.2.2]
      exact ⟨none, 0, [], rfl, rfl, OwnA.nil _ _, HB.out⟩
    | true =>
      have HV2 := Lib.hid (show verE b f x = 0 by rw [verE_iff, hvr]; rfl)
      rw [HV2.out] at HV
      clear HV2
      cases hlo : leastO (ces q) with
      | none =>
        have hE : putE (ces q) b f x = 6 := by unfold putE; rw [hr, hvr, hlo]; rfl
        obtain ⟨hK, hL⟩ := put_no hE (by decide) id
        have HF := Lib.hid (And.intro hE (And.intro hK hL))
        rw [hlo] at HI
        generalize putL (ces q) id b f x = L at *
        generalize putK (ces q) b f x = K0 at *
        generalize putE (ces q) b f x = E at *
        generalize q.length = n at *
        generalize x.length = nx at *
        clear h hv hid hb hf hP hW0 hr hE hK hL hvr hlo
        go_enter Try.func26, Try.ntmps26
        go_wp2_with fail
        rw [← HW.out]
        refine HC.out.mono ?_
        rintro e w1 ⟨rfl, hb1⟩
        have HV1 := Lib.hid (HV.out w1 hb1)
        have HB1 := Lib.hid hb1
        obtain ⟨hbw, x0, xv, xr⟩ := HX.out w1 hb1
        have v0 := (cell_of_row _ _ 0 _ _ _ xv).trans rfl
        have v1 := (cell_of_row _ _ 1 _ _ _ xv).trans rfl
        have v2 := (cell_of_row _ _ 2 _ _ _ xv).trans rfl
        clear hb1 hbw x0 xv xr
        go_wp2_with fail
        refine HV1.out.mono ?_
        rintro e w2 ⟨rfl, hb2⟩
        have HB2 := Lib.hid (HB1.out.trans (hb2.mono HB1.out.size))
        obtain ⟨hbw, x0, xv, xr⟩ := HX.out w2 HB2.out
        have a0 := x0.cell
        have HI1 := Lib.hid (HI.out w2 HB2.out)
        clear hb2 hbw x0 xv xr
        go_wp2_with fail
        refine HI1.out.mono ?_
        rintro e w3 ⟨rfl, hb3⟩
        obtain ⟨hbw, x0, xv, xr⟩ := HX.out w3 (HB2.out.trans (hb3.mono HB2.out.size))
        obtain ⟨r0, hbR⟩ := res_set (.slice none 0 0) xr hbw (by omega)
        have c0 := xr.cell
        have f0 := xr.frozen
        have HB := Lib.hid hbR
        have HM1 := Lib.hid (show idxK none = -1 from rfl)
        rw [HM1.out]
        clear hb3 hbw x0 xv xr hbR
        go_wp2
        refine bodyPost_ret (v := .tuple #[.agg #[.slice none 0 0], .int .i64 0, .int .i64 6]) (by simp [results, Try.results26, go_sem, r0]) rfl ?_
        rw [HF.out.1, HF.out.2.1, HF.out.2.2]
        exact ⟨none, 0, [], rfl, rfl, OwnA.nil _ _, HB.out⟩
      | some s =>
        have hE : putE (ces q) b f x = 0 := by unfold putE; rw [hr, hvr, hlo]; rfl
        have hK : putK (ces q) b f x = (s : Int) := by unfold putK; rw [hE, if_pos rfl, hlo]; rfl
        have hL : putL (ces q) id b f x = (ces q).set s ⟨true, id, b, f, x⟩ := by unfold putL; rw [hE, if_pos rfl, hlo]
        have hs96 : s < 96 := by have := (least_some hlo).1; rw [arB_len hr] at this; exact this
        have hxl := (ver_len hvr).2
        have HF := Lib.hid (And.intro hE (And.intro hK hL))
        have HM1 := Lib.hid (show idxK (leastO (ces q)) = (s : Int) by rw [hlo]; rfl)
        rw [HM1.out] at HI
        have HCp := Lib.hid (fun (X : World) (hX : Below W0.heap.size W0 X) => copied_any A c q X ((h.below hP.below).below hX) (by rw [← ces_length, arB_len hr]; exact Nat.le_refl _) (fun p hp hu => by
          have := may_len (arB_may hr p.e (List.mem_map.2 ⟨p, hp, rfl⟩))
          omega))
        rw [pad_same hr] at HCp
        have HOw := Lib.hid (fun (X : World) (hX : Below W0.heap.size W0 X) => owned_any ⟨⟨true, id, b, f, x⟩, B, cx⟩ X ((hv.below hP.below).below hX) (by show x.length ≤ 1000000; omega))
        have HFit := Lib.hid (show Fit ⟨true, id, b, f, x⟩ from ⟨hid, hb, hf⟩)
        have HZ0 := Lib.hid hP.size
        generalize putL (ces q) id b f x = L at *
        generalize putK (ces q) b f x = K0 at *
        generalize putE (ces q) b f x = E at *
        generalize q.length = n at *
        dsimp only at HOw
        generalize hnx : x.length = nx at *
        have HNX := Lib.hid hnx
        have s0 : (0 : Int) ≤ s := by omega
        have s9 : (s : Int) < 96 := by omega
        have ts : decide ((s : Int) < 0) = false := by simp
        clear h hv hid hb hf hP hW0 hr hE hK hL hvr hlo hxl HM1 hnx
        go_enter Try.func26, Try.ntmps26
        go_wp2_with fail
        rw [← HW.out]
        refine HC.out.mono ?_
        rintro e w1 ⟨rfl, hb1⟩
        have HV1 := Lib.hid (HV.out w1 hb1)
        have HB1 := Lib.hid hb1
        obtain ⟨hbw, x0, xv, xr⟩ := HX.out w1 hb1
        have v0 := (cell_of_row _ _ 0 _ _ _ xv).trans rfl
        have v1 := (cell_of_row _ _ 1 _ _ _ xv).trans rfl
        have v2 := (cell_of_row _ _ 2 _ _ _ xv).trans rfl
        clear hb1 hbw x0 xv xr
        go_wp2_with fail
        refine HV1.out.mono ?_
        rintro e w2 ⟨rfl, hb2⟩
        have HB2 := Lib.hid (HB1.out.trans (hb2.mono HB1.out.size))
        obtain ⟨hbw, x0, xv, xr⟩ := HX.out w2 HB2.out
        have a0 := x0.cell
        have HI1 := Lib.hid (HI.out w2 HB2.out)
        clear hb2 hbw x0 xv xr v0 v1 v2
        go_wp2_with fail
        refine HI1.out.mono ?_
        rintro e w3 ⟨rfl, hb3⟩
        have HB3 := Lib.hid (HB2.out.trans (hb3.mono HB2.out.size))
        obtain ⟨hbw, x0, xv, xr⟩ := HX.out w3 HB3.out
        have a1 := x0.cell
        have HCp1 := Lib.hid (HCp.out w3 HB3.out)
        clear hb3 hbw x0 xv xr a0
        go_wp2_with fail
        refine HCp1.out.mono ?_
        rintro e w4 ⟨g, q4, rfl, hq4, hl4, ho4, hb4⟩
        have hB4 := HB3.out.trans (hb4.mono HB3.out.size)
        obtain ⟨z, hz⟩ : ∃ z, z = w4.heap.size := ⟨_, rfl⟩
        obtain ⟨V, hV⟩ : ∃ V, V = w4.alloc (.cells #[.slice (some ⟨g, 0, none⟩) 96 96] 24) := ⟨_, rfl⟩
        have hbV : Below w4.heap.size w4 V := by rw [hV]; exact (Below.refl _ w4).alloc (Nat.le_refl _) _
        have hB5 : Below W0.heap.size W0 V := hB4.trans (hbV.mono hB4.size)
        have hx12 : Boxed V z 24 (.slice (some ⟨g, 0, none⟩) 96 96) := by rw [hV, hz]; exact Boxed.new w4 _ _
        have hoV : OwnA W0.heap.size V (some ⟨g, 0, none⟩) 96 q4 := (ho4.mono HB3.out.size).below hbV
        have hgz : W0.heap.size ≤ g ∧ g < z := by rw [hz]; exact (ho4.mono HB3.out.size).lo
        have HS := Lib.hid (fun (X : World) (hX : Turn (fun i => i = g) V X) => show X.cell? ⟨z, 0, none⟩ = some (.slice (some ⟨g, 0, none⟩) 96 96) ∧ X.cell? ⟨w.heap.size + 1, 0, none⟩ = some (.int .u64 b) ∧ X.cell? ⟨w.heap.size + 1, 1, none⟩ = some (.int .u64 f) ∧ X.cell? ⟨w.heap.size + 1, 2, none⟩ = some (.slice B nx cx) from by
          obtain ⟨_, _, xv, _⟩ := HX.out V hB5
          have hz0 := HZ0.out
          have e1 := (hX.block z hx12.lt (by omega)).trans hx12
          have e2 := (hX.block (w.heap.size + 1) (lt_of_block xv) (by omega)).trans xv
          exact ⟨Boxed.cell e1, (cell_of_row _ _ 0 _ _ _ e2).trans rfl, (cell_of_row _ _ 1 _ _ _ e2).trans rfl, (cell_of_row _ _ 2 _ _ _ e2).trans rfl⟩)
        have HPt := Lib.hid (fun (X : World) (A1 : Option Addr) (c1 : Nat) (hX : Below V.heap.size V X) (hvX : OwnV V.heap.size X A1 c1 x) => show (∃ p0 : Pa, X.cell? ⟨g, s * 5, none⟩ = some (.bool p0.e.u) ∧ X.cell? ⟨g, s * 5 + 1, none⟩ = some (.int .u64 p0.e.i) ∧ X.cell? ⟨g, s * 5 + 2, none⟩ = some (.int .u64 p0.e.b) ∧ X.cell? ⟨g, s * 5 + 3, none⟩ = some (.int .u64 p0.e.f) ∧ X.cell? ⟨g, s * 5 + 4, none⟩ = some (.slice p0.B p0.e.x.length p0.c)) ∧
            (X.frozen? ⟨g, s * 5, none⟩ = false ∧ X.frozen? ⟨g, s * 5 + 1, none⟩ = false ∧ X.frozen? ⟨g, s * 5 + 2, none⟩ = false ∧ X.frozen? ⟨g, s * 5 + 3, none⟩ = false ∧ X.frozen? ⟨g, s * 5 + 4, none⟩ = false) ∧
            (OwnA W0.heap.size (put5 X g (s * 5) ⟨⟨true, id, b, f, x⟩, A1, c1⟩) (some ⟨g, 0, none⟩) 96 (q4.set s ⟨⟨true, id, b, f, x⟩, A1, c1⟩) ∧ Turn (fun i => i = g) V (put5 X g (s * 5) ⟨⟨true, id, b, f, x⟩, A1, c1⟩)) from by
          have ho := hoV.below hX
          obtain ⟨p0, _, d0, d1, d2, d3, d4, f0, f1, f2, f3, f4⟩ := ho.cells (i := s) (by omega)
          exact ⟨⟨p0, d0, d1, d2, d3, d4⟩, ⟨f0, f1, f2, f3, f4⟩, ho.put (by omega) (hvX.mono hB5.size) HFit.out, (Turn.of_below (S := fun i => i = g) hX).trans (put5_turn _ _ _ _) (fun i hi => .inl hi)⟩)
        have HOw1 := Lib.hid (fun (X : World) (hX : Below V.heap.size V X) => HOw.out X (hB5.trans (hX.mono hB5.size)))
        have HV := Lib.hid hV
        have HQ4 := Lib.hid (And.intro hq4 hl4)
        have HB5 := Lib.hid hB5
        have HGZ := Lib.hid hgz
        have HZZ := Lib.hid (show w4.heap.size = z from hz.symm)
        clear hb4 hB4 hbV hB5 hx12 hoV hgz ho4 hq4 hl4 hV a1 hz
        go_wp2_with (rw [← HV.out])
        rw [HZZ.out]
        go_region_held3 (fun X => X.cell? ⟨z, 0, none⟩ = some (.slice (some ⟨g, 0, none⟩) 96 96) ∧ X.cell? ⟨w.heap.size + 1, 0, none⟩ = some (.int .u64 b) ∧ X.cell? ⟨w.heap.size + 1, 1, none⟩ = some (.int .u64 f) ∧ X.cell? ⟨w.heap.size + 1, 2, none⟩ = some (.slice B nx cx))
          (first | (with_reducible assumption) | (with_reducible exact HS.out _ (Turn.of_below (below_drew (Below.refl _ _)))) | (with_reducible exact HS.out _ HT0.out) | (with_reducible exact HS.out _ HT6.out))
          (first | (go_at_call 36; refine (HOw1.out _ (below_drew (Below.refl _ _))).mono ?_; rintro e w6 ⟨A6, c6, rfl, hv6, hb6⟩; have HB6 := Lib.hid (show Below V.heap.size V w6 from (below_drew (Below.refl _ V)).trans hb6); have HT0 := Lib.hid (show Turn (fun i => i = g) V w6 from Turn.of_below HB6.out); have HP6 := Lib.hid (HPt.out w6 A6 c6 HB6.out hv6); have HT6 := Lib.hid (show Turn (fun i => i = g) V (((((w6.setCell ⟨g, s * 5, none⟩ (.bool true)).setCell ⟨g, s * 5 + 1, none⟩ (.int .u64 id)).setCell ⟨g, s * 5 + 2, none⟩ (.int .u64 b)).setCell ⟨g, s * 5 + 3, none⟩ (.int .u64 f)).setCell ⟨g, s * 5 + 4, none⟩ (.slice A6 nx c6)) from by rw [← HNX.out]; exact HP6.out.2.2.2); obtain ⟨⟨p0, d0, d1, d2, d3, d4⟩, ⟨f0, f1, f2, f3, f4⟩, _⟩ := HP6.out; clear hv6 hb6))
        obtain ⟨W6, hW6⟩ : ∃ W6, W6 = (((((w6.setCell ⟨g, s * 5, none⟩ (.bool true)).setCell ⟨g, s * 5 + 1, none⟩ (.int .u64 id)).setCell ⟨g, s * 5 + 2, none⟩ (.int .u64 b)).setCell ⟨g, s * 5 + 3, none⟩ (.int .u64 f)).setCell ⟨g, s * 5 + 4, none⟩ (.slice A6 nx c6)) := ⟨_, rfl⟩
        have hO6 : OwnA W0.heap.size W6 (some ⟨g, 0, none⟩) 96 (q4.set s ⟨⟨true, id, b, f, x⟩, A6, c6⟩) := by rw [hW6, ← HNX.out]; exact HP6.out.2.2.1
        have hT6 : Turn (fun i => i = g) V W6 := by rw [hW6]; exact HT6.out
        have e12 := (HS.out W6 hT6).1
        rw [← hW6]
        obtain ⟨_, _, _, xrV⟩ := HX.out V HB5.out
        have hz0 := HZ0.out
        have xr : Boxed W6 (w.heap.size + 2) 24 (.slice none 0 0) := (hT6.block _ xrV.lt (by have := HGZ.out; omega)).trans xrV
        have hbV : Below w.heap.size w V := (HX.out V HB5.out).1
        have hb6 : Below w.heap.size w W6 := hbV.trans (hT6.below hbV.size (fun i hi => by have := HGZ.out; omega))
        obtain ⟨r0, hbR⟩ := res_set (.slice (some ⟨g, 0, none⟩) 96 96) xr hb6 (by omega)
        have hO7 : OwnA w.heap.size (W6.setCell ⟨w.heap.size + 2, 0, none⟩ (.slice (some ⟨g, 0, none⟩) 96 96)) (some ⟨g, 0, none⟩) 96 (q4.set s ⟨⟨true, id, b, f, x⟩, A6, c6⟩) := (hO6.turn (turn_set _ _ _ _) (fun i hi _ e => by omega)).mono (by omega)
        have c0 := xr.cell
        have f0 := xr.frozen
        have HB := Lib.hid (And.intro hO7 hbR)
        clear hW6 hO6 hT6 xrV hz0 xr hbV hb6 hbR hO7 d0 d1 d2 d3 d4 f1 f2 f3 f4 HT6 HP6
        go_wp2
        refine bodyPost_ret (v := .tuple #[.agg #[.slice (some ⟨g, 0, none⟩) 96 96], .int .i64 s, .int .i64 0]) (by simp [results, Try.results26, go_sem, r0]) rfl ?_
        rw [HF.out.1, HF.out.2.1, HF.out.2.2]
        exact ⟨some ⟨g, 0, none⟩, 96, q4.set s ⟨⟨true, id, b, f, x⟩, A6, c6⟩, by rw [List.length_set, HQ4.out.2], by rw [ces_set, HQ4.out.1], HB.out.1, HB.out.2⟩

end Go.Proofs.Ytpdebkpblpipcaa
