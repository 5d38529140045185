/-
  Proved: the law ArenaBack, what was put is there, no other cell is changed, dropped again it leaves what was, returns true for every arena, number and version, and leaves all memory as it was. No condition.
-/
import Derived.Test.YtpdebkpblpipcaaLawFrame
import Derived.Test.YtpdebkpblpipcaaAreDrop
import Derived.Test.YtpdebkpblpipcaaAreRef
import Derived.Deep.RegionHeld3
import Derived.BigQuiet
namespace Go.Proofs.Ytpdebkpblpipcaa.arenaBack
open Go.ChangeShapes Go.WideShapes Go.ChangeAt Go.RowKit
set_option linter.unusedVariables false
set_option linter.unusedSimpArgs false
set_option maxRecDepth 100000

theorem put_yes {l : List Ce} {b f : Int} {x : List Int} (h : putE l b f x = 0) : arB l = true ∧ verR b f x = true ∧ ∃ s, leastO l = some s := by
  unfold putE at h
  cases hr : arB l
  · rw [hr] at h; simp at h
  · cases hv : verR b f x
    · rw [hr, hv] at h; simp at h
    · cases hs : leastO l with
      | none => rw [hr, hv, hs] at h; simp at h
      | some s => exact ⟨rfl, rfl, s, rfl⟩
theorem put_full {l : List Ce} {b f : Int} {x : List Int} (h : putE l b f x = 6) : freeA l = 0 := by
  unfold putE at h
  cases hr : arB l
  · rw [hr] at h; simp at h
  · cases hv : verR b f x
    · rw [hr, hv] at h; simp at h
    · cases hs : leastO l with
      | none => unfold freeA; rw [hr, if_pos rfl, least_none hs]; rfl
      | some s => rw [hr, hv, hs] at h; simp at h
theorem at_zero {l : List Ce} {s : Nat} (hr : arB l = true) (h : leastO l = some s) : ceAt l s = zc := by
  obtain ⟨h1, h2, _⟩ := least_some h
  exact may_free (arB_may hr _ (List.mem_of_getElem? (at_ce h1))) h2
theorem at_set {l : List Ce} {s : Nat} {e : Ce} (hs : s < l.length) : ceAt (l.set s e) s = e := by simp [ceAt, List.getD, hs]
theorem set_back {l : List Ce} {s : Nat} {e : Ce} (hs : s < l.length) (hz : ceAt l s = zc) : setZ (l.set s e) [(s : Int)] = l := by
  apply List.ext_getElem?
  intro j
  unfold setZ
  rw [List.getElem?_mapIdx, List.getElem?_set]
  by_cases hj : s = j
  · subst hj
    rw [if_pos rfl, if_pos hs, at_ce hs, hz]; simp
  · rw [if_neg hj]
    cases h : l[j]? with
    | none => rfl
    | some e' => simp; intro h2; omega
theorem drop_back {l : List Ce} {s : Nat} {e : Ce} (hr : arB l = true) (hm : mayE e = true) (hu : e.u = true) (hs : leastO l = some s) : dropE (l.set s e) [(s : Int)] = 0 ∧ dropL (l.set s e) [(s : Int)] = l := by
  have hl := (least_some hs).1
  have hok : dropOk (l.set s e) [(s : Int)] = true := by
    unfold dropOk
    have : usedB (l.set s e) (s : Int) = true := (usedB_iff _ _).2 ⟨s, rfl, by rw [List.length_set]; exact hl, by rw [at_set hl]; exact hu⟩
    simp [this]
  have h0 := drop_good (set_right hr hm) hok
  exact ⟨h0, by unfold dropL; rw [h0, if_pos rfl, set_back hl (at_zero hr hs)]⟩
theorem of_there {l : List Ce} {s : Nat} {e : Ce} (hr : arB l = true) (hm : mayE e = true) (hu : e.u = true) (hs : leastO l = some s) : s ∈ ofA (l.set s e) e.i := by
  have hl := (least_some hs).1
  unfold ofA
  rw [if_pos (set_right hr hm)]
  refine (ord_perm _ _).mem_iff.2 ?_
  unfold pickL
  rw [List.mem_filter]
  exact ⟨List.mem_range.2 (by rw [List.length_set]; exact hl), by rw [at_set hl]; simp [hu]⟩
theorem free_less {l : List Ce} {s : Nat} {e : Ce} (hr : arB l = true) (hm : mayE e = true) (hu : e.u = true) (hs : leastO l = some s) : freeA (l.set s e) = freeA l - 1 ∧ 1 ≤ freeA l ∧ freeA l ≤ 96 := by
  obtain ⟨h1, h2, _⟩ := least_some hs
  have h3 := freeN_set h1 h2 hu
  have h4 := used_free l
  have h5 := arB_len hr
  unfold freeA
  rw [set_right hr hm, hr, if_pos rfl, if_pos rfl]
  omega

theorem vec_one {X : World} {z : Nat} {k : Nat} (hz : X.cell? ⟨z, 0, none⟩ = some (.int .i64 k)) (hk : k < 96) : Vec .i64 X (some ⟨z, 0, none⟩) 1 [(k : Int)] := by
  refine ⟨Nat.le_refl _, by decide, fun _ => ⟨z, 0, rfl, World.block_lt_of_cell? X _ hz, fun j hj => ?_⟩, fun y hy => ?_⟩
  · obtain rfl : j = 0 := by simp at hj; omega
    exact hz
  · obtain rfl : y = (k : Int) := by simpa using hy
    simp [Lit.wf, IntKind.min, IntKind.max, IntKind.signed, IntKind.bits]; omega

/-- What lies in the boxes of the law. -/
structure BackB (w W0 : World) (A : Option Addr) (n c : Nat) (b f : Int) (B : Option Addr) (nx cx : Nat) : Prop where
  size : W0.heap.size = w.heap.size + 2
  below : Below w.heap.size w W0
  ar : Boxed W0 w.heap.size 24 (.slice A n c)
  ver : W0.heap[w.heap.size + 1]? = some (.cells #[.int .u64 b, .int .u64 f, .slice B nx cx] 43 (0, 0))
theorem backB (w : World) (A : Option Addr) (n c : Nat) (b f : Int) (B : Option Addr) (nx cx : Nat) : BackB w ((w.alloc (.cells #[.slice A n c] 24)).alloc (.cells #[.int .u64 b, .int .u64 f, .slice B nx cx] 43)) A n c b f B nx cx := by
  refine ⟨by simp, ((Below.refl _ w).alloc (Nat.le_refl _) _).alloc (by simp) _, (Boxed.new w _ _).alloc _, ?_⟩
  have h := heap_alloc_new (w.alloc (.cells #[.slice A n c] 24)) (.cells #[.int .u64 b, .int .u64 f, .slice B nx cx] 43)
  rw [World.size_alloc] at h
  exact h
theorem BackB.cells {w W0 X : World} {A : Option Addr} {n c : Nat} {b f : Int} {B : Option Addr} {nx cx : Nat} (h : BackB w W0 A n c b f B nx cx) (hX : Below W0.heap.size W0 X) :
    X.cell? ⟨w.heap.size, 0, none⟩ = some (.slice A n c) ∧ X.cell? ⟨w.heap.size + 1, 0, none⟩ = some (.int .u64 b) ∧ X.cell? ⟨w.heap.size + 1, 1, none⟩ = some (.int .u64 f) ∧ X.cell? ⟨w.heap.size + 1, 2, none⟩ = some (.slice B nx cx) := by
  have e1 := (hX.block _ h.ar.lt).trans h.ar
  have e2 := (hX.block _ (lt_of_block h.ver)).trans h.ver
  exact ⟨Boxed.cell e1, (cell_of_row _ _ 0 _ _ _ e2).trans rfl, (cell_of_row _ _ 1 _ _ _ e2).trans rfl, (cell_of_row _ _ 2 _ _ _ e2).trans rfl⟩

set_option maxHeartbeats 8000000 in
theorem walk {w : World} (A : Option Addr) (c : Nat) (q : List Pa) (H : Are w A c q) (id : Int) (hid : U64s id) (b f : Int) (B : Option Addr) (cx : Nat) (x : List Int) (hb : U64s b) (hf : U64s f) (hv : Vec .i32 w B cx x) :
    Calls Try.prog 5 #[.agg #[.slice A q.length c], .int .u64 id, .agg #[.int .u64 b, .int .u64 f, .slice B x.length cx]] w fun e w' => e = .returned (.bool true) ∧ Below w.heap.size w w' := by
  obtain ⟨W0, hW0⟩ : ∃ W0, W0 = (w.alloc (.cells #[.slice A q.length c] 24)).alloc (.cells #[.int .u64 b, .int .u64 f, .slice B x.length cx] 43) := ⟨_, rfl⟩
  have hP := backB w A q.length c b f B x.length cx
  rw [← hW0] at hP
  have HW := Lib.hid hW0
  have HB0 := Lib.hid hP.below
  have HZ0 := Lib.hid hP.size
  have HCs := Lib.hid (fun (X : World) (hX : Below W0.heap.size W0 X) => hP.cells hX)
  have HWk := Lib.hid (wakes_any W0)
  have HOv := Lib.hid (fun (X : World) (hX : Below W0.heap.size W0 X) => over_any A c q X ((H.below hP.below).below hX))
  have HPu := Lib.hid (fun (X : World) (hX : Below W0.heap.size W0 X) => put_any A c q id b f B cx x X ((H.below hP.below).below hX) ((hv.below hP.below).below hX) hid hb hf)
  have HFa := Lib.hid (fun (X : World) (hX : Below W0.heap.size W0 X) => free_any A c q X ((H.below hP.below).below hX))
  have HAr := Lib.hid (fun (X : World) (hX : Below W0.heap.size W0 X) => (H.below hP.below).below hX)
  have HVx := Lib.hid (fun (X : World) (hX : Below W0.heap.size W0 X) => (hv.below hP.below).below hX)
  have HFi := Lib.hid (show U64s id ∧ U64s b ∧ U64s f from ⟨hid, hb, hf⟩)
  obtain ⟨l, hl⟩ : ∃ l, l = ces q := ⟨_, rfl⟩
  rw [← hl] at HOv HPu HFa
  have HL := Lib.hid hl
  generalize hn : q.length = n at *
  generalize hnx : x.length = nx at *
  have HN := Lib.hid hn
  have HNX := Lib.hid hnx
  clear H hid hb hf hv hP hW0 hl hn hnx
  cases hov : overB l with
  | true =>
    rw [hov] at HOv
    clear hov
    go_enter Try.func5, Try.ntmps5
    go_wp2_with fail
    rw [← HW.out]
    refine HWk.out.mono ?_
    rintro e w1 ⟨rfl, hb1⟩
    have HB1 := Lib.hid hb1
    obtain ⟨c0, c1, c2, c3⟩ := HCs.out w1 hb1
    clear hb1
    go_wp2_with fail
    refine (HOv.out w1 HB1.out).mono ?_
    rintro e w2 ⟨rfl, hb2⟩
    have HB2 := Lib.hid (HB0.out.trans ((HB1.out.trans (hb2.mono HB1.out.size)).mono HB0.out.size))
    clear hb2
    go_wp2
    go_ret
    exact ⟨rfl, HB2.out⟩
  | false =>
    rw [hov] at HOv
    by_cases h50 : 50 < nx
    · have t5 : (50 : Int) < nx := by omega
      clear hov h50
      go_enter Try.func5, Try.ntmps5
      go_wp2_with fail
      rw [← HW.out]
      refine HWk.out.mono ?_
      rintro e w1 ⟨rfl, hb1⟩
      have HB1 := Lib.hid hb1
      obtain ⟨c0, c1, c2, c3⟩ := HCs.out w1 hb1
      clear hb1
      go_wp2_with fail
      refine (HOv.out w1 HB1.out).mono ?_
      rintro e w2 ⟨rfl, hb2⟩
      obtain ⟨d0, d1, d2, d3⟩ := HCs.out w2 (HB1.out.trans (hb2.mono HB1.out.size))
      have HB2 := Lib.hid (HB0.out.trans ((HB1.out.trans (hb2.mono HB1.out.size)).mono HB0.out.size))
      clear hb2 c0 c1 c2 c3
      go_wp2
      go_ret
      exact ⟨rfl, HB2.out⟩
    · have t5 : decide ((50 : Int) < nx) = false := by simp; omega
      clear hov h50
      obtain ⟨E, hE⟩ : ∃ E, E = putE l b f x := ⟨_, rfl⟩
      obtain ⟨K, hK⟩ : ∃ K, K = putK l b f x := ⟨_, rfl⟩
      rw [← hE, ← hK] at HPu
      have HE := Lib.hid hE
      have HK := Lib.hid hK
      clear hE hK
      go_enter Try.func5, Try.ntmps5
      go_wp2_with fail
      rw [← HW.out]
      refine HWk.out.mono ?_
      rintro e w1 ⟨rfl, hb1⟩
      have HB1 := Lib.hid hb1
      obtain ⟨c0, c1, c2, c3⟩ := HCs.out w1 hb1
      clear hb1
      go_wp2_with fail
      refine (HOv.out w1 HB1.out).mono ?_
      rintro e w2 ⟨rfl, hb2⟩
      have HB2 := Lib.hid (HB1.out.trans (hb2.mono HB1.out.size))
      obtain ⟨d0, d1, d2, d3⟩ := HCs.out w2 HB2.out
      clear hb2 c0 c1 c2 c3
      go_wp2_with fail
      refine (HPu.out w2 HB2.out).mono ?_
      rintro e w3 ⟨A3, c3, q3, rfl, hq3, ho3, hb3⟩
      have HB3 := Lib.hid (HB2.out.trans (hb3.mono HB2.out.size))
      have HQ3 := Lib.hid hq3
      have HA3 := Lib.hid ho3.are
      clear hb3 hq3 ho3 d0 d1 d2 d3
      by_cases hE0 : E = 0
      · subst hE0
        obtain ⟨hr, hvr, s, hs⟩ := put_yes HE.out.symm
        have hKs : K = s := by rw [HK.out]; unfold putK; rw [← HE.out, if_pos rfl, hs]; rfl
        have hLs : ces q3 = l.set s ⟨true, id, b, f, x⟩ := by rw [HQ3.out]; unfold putL; rw [← HE.out, if_pos rfl, hs]
        have hlen := (least_some hs).1
        have h96 : l.length = 96 := arB_len hr
        have hm : mayE ⟨true, id, b, f, x⟩ = true := by rw [may_true]; exact hvr
        have hq96 : q3.length = 96 := by rw [← ces_length, hLs, List.length_set, h96]
        obtain ⟨b', o, p, rfl, hp, hb', d0, d1, d2, d3, d4, hv', hf'⟩ := HA3.out.at_ (i := s) (by omega)
        have hpe : p.e = ⟨true, id, b, f, x⟩ := by rw [← ces_ceAt hp, hLs, at_set hlen]
        obtain ⟨pe, pB, pc⟩ := p
        dsimp only at hpe d0 d1 d2 d3 d4 hv'
        subst hpe
        dsimp only at d0 d1 d2 d3 d4 hv'
        have hr2 := set_right (e := ⟨true, id, b, f, x⟩) (k := s) hr hm
        have hfl := free_less hr hm rfl hs
        have HCk := Lib.hid (fun (X : World) (hX : Below w3.heap.size w3 X) => show Calls Try.prog 10 #[.agg #[.slice (some ⟨b', o, none⟩) 96 c3]] X (fun e w' => e = .returned (.int .i64 0) ∧ Below X.heap.size X w') from by
          have := checkA_any _ c3 q3 X (HA3.out.below hX)
          rw [hq96, hLs, chkA_ok hr2] at this
          exact this)
        obtain ⟨Fr, hFr⟩ : ∃ Fr, Fr = freeA l := ⟨_, rfl⟩
        rw [← hFr] at HFa hfl
        obtain ⟨hfl1, hfl2, hfl3⟩ := hfl
        have HFn := Lib.hid (fun (X : World) (hX : Below w3.heap.size w3 X) => show Calls Try.prog 18 #[.agg #[.slice (some ⟨b', o, none⟩) 96 c3]] X (fun e w' => e = .returned (.int .i64 (Fr - 1)) ∧ Below X.heap.size X w') from by
          have := free_any _ c3 q3 X (HA3.out.below hX)
          rw [hq96, hLs, hfl1] at this
          exact this)
        have HSv := Lib.hid (fun (X : World) (hX : Below w3.heap.size w3 X) (hX0 : Below W0.heap.size W0 X) => show Calls Try.prog 27 #[.agg #[.int .u64 b, .int .u64 f, .slice pB nx pc], .agg #[.int .u64 b, .int .u64 f, .slice B nx cx]] X (fun e w' => e = .returned (.bool true) ∧ Below X.heap.size X w') from by
          have := sameVersion_any b b f f pB B pc cx x x X (hv'.below hX) (HVx.out X hX0)
          rw [show sameV b b f f x x = true by simp [sameV], HNX.out] at this
          exact this)
        obtain ⟨S, hS⟩ : ∃ S, S = ofA (l.set s ⟨true, id, b, f, x⟩) id := ⟨_, rfl⟩
        have hsS : s ∈ S := by rw [hS]; exact of_there hr hm rfl hs
        have hSlt : ∀ k ∈ S, k < 96 := by
          intro k hk
          rw [hS] at hk
          unfold ofA at hk
          rw [if_pos hr2] at hk
          have := ordS_lt _ _ k hk
          rwa [List.length_set, h96] at this
        have HOf := Lib.hid (fun (X : World) (hX : Below w3.heap.size w3 X) => show Calls Try.prog 11 #[.agg #[.slice (some ⟨b', o, none⟩) 96 c3], .int .u64 id] X (GivesSE X S 0) from by
          have := of_any9 _ c3 q3 id X (HA3.out.below hX)
          rw [hq96, hLs, chkA_ok hr2, ← hS] at this
          exact this)
        have hdb := drop_back hr hm rfl hs
        have HDr := Lib.hid (fun (X : World) (z : Nat) (hz : X.cell? ⟨z, 0, none⟩ = some (.int .i64 s)) (hX : Below w3.heap.size w3 X) => show Calls Try.prog 28 #[.agg #[.slice (some ⟨b', o, none⟩) 96 c3], .slice (some ⟨z, 0, none⟩) 1 1] X (GivesAE X l 0) from by
          have := drop_any _ c3 q3 (some ⟨z, 0, none⟩) 1 [(s : Int)] X (HA3.out.below hX) (vec_one hz (by omega))
          rw [hq96, hLs, hdb.1, hdb.2] at this
          exact this)
        have HSm := Lib.hid (fun (X : World) (A' : Option Addr) (c' : Nat) (r : List Pa) (hX : Below W0.heap.size W0 X) (hr' : Are X A' c' r) (he : ces r = l) => show Calls Try.prog 13 #[.agg #[.slice A' r.length c'], .agg #[.slice A n c]] X (fun e w' => e = .returned (.bool true) ∧ Below X.heap.size X w') from by
          have := sameA_any A' A c' c r q X hr' (HAr.out X hX)
          rw [HN.out, decide_eq_true (he.trans HL.out)] at this
          exact this)
        have s0 : (0 : Int) ≤ s := by omega
        have s96 : (s : Int) < 96 := by omega
        have td0 : decide ((s : Int) < 0) = false := by simp
        have td1 : decide ((96 : Int) ≤ s) = false := by simp; omega
        have td2 : (Fr - 1 != IntKind.i64.wrap (Fr - 1)) = false := by
          rw [show IntKind.i64.wrap (Fr - 1) = Fr - 1 by rw [IntKind.wrap_i64, Int.emod_eq_of_lt (by omega) (by omega)]; omega]
          simp
        have td3 : ((id : Int) != id) = false := by simp
        obtain ⟨V, hV⟩ : ∃ V, V = w3.alloc (.cells #[.slice (some ⟨b', o, none⟩) 96 c3] 24) := ⟨_, rfl⟩
        have hbV : Below w3.heap.size w3 V := by rw [hV]; exact (Below.refl _ w3).alloc (Nat.le_refl _) _
        have hxV : Boxed V w3.heap.size 24 (.slice (some ⟨b', o, none⟩) 96 c3) := by rw [hV]; exact Boxed.new w3 _ _
        have HS := Lib.hid (fun (X : World) (hX : Below V.heap.size V X) => show (X.cell? ⟨w3.heap.size, 0, none⟩ = some (.slice (some ⟨b', o, none⟩) 96 c3) ∧ X.cell? ⟨w.heap.size, 0, none⟩ = some (.slice A n c)) ∧ (X.cell? ⟨w.heap.size + 1, 0, none⟩ = some (.int .u64 b) ∧ X.cell? ⟨w.heap.size + 1, 1, none⟩ = some (.int .u64 f) ∧ X.cell? ⟨w.heap.size + 1, 2, none⟩ = some (.slice B nx cx)) ∧ (X.cell? ⟨b', o + s * 5 + 1, none⟩ = some (.int .u64 id) ∧ X.cell? ⟨b', o + s * 5 + 2, none⟩ = some (.int .u64 b) ∧ X.cell? ⟨b', o + s * 5 + 3, none⟩ = some (.int .u64 f) ∧ X.cell? ⟨b', o + s * 5 + 4, none⟩ = some (.slice pB nx pc)) from by
          have e0 := Boxed.cell ((hX.block _ hxV.lt).trans hxV)
          have hX3 : Below w3.heap.size w3 X := hbV.trans (hX.mono hbV.size)
          obtain ⟨g0, g1, g2, g3⟩ := HCs.out X (HB3.out.trans (hX3.mono HB3.out.size))
          exact ⟨⟨e0, g0⟩, ⟨g1, g2, g3⟩, ⟨(hX3.cell (p := ⟨b', _, none⟩) hb').trans d1, (hX3.cell (p := ⟨b', _, none⟩) hb').trans d2, (hX3.cell (p := ⟨b', _, none⟩) hb').trans d3, (hX3.cell (p := ⟨b', _, none⟩) hb').trans (by rw [d4, HNX.out])⟩⟩)
        have HBV := Lib.hid hbV
        have HV := Lib.hid hV
        have HSs := Lib.hid hsS
        have HSl := Lib.hid hSlt
        obtain ⟨⟨v0, v1⟩, ⟨v2, v3, v4⟩, ⟨v5, v6, v7, v8⟩⟩ := HS.out V (Below.refl _ _)
        rw [hKs, hq96]
        clear hr hvr hs hKs hLs hlen h96 hm hq96 hp hb' d0 d1 d2 d3 d4 hv' hf' hr2 hfl1 hFr hS hsS hSlt hdb hbV hxV hV HA3 HQ3 HE HK
        go_wp2_with (rw [← HV.out])
        go_region_held3 (fun X => (X.cell? ⟨w3.heap.size, 0, none⟩ = some (.slice (some ⟨b', o, none⟩) 96 c3) ∧ X.cell? ⟨w.heap.size, 0, none⟩ = some (.slice A n c)) ∧ (X.cell? ⟨w.heap.size + 1, 0, none⟩ = some (.int .u64 b) ∧ X.cell? ⟨w.heap.size + 1, 1, none⟩ = some (.int .u64 f) ∧ X.cell? ⟨w.heap.size + 1, 2, none⟩ = some (.slice B nx cx)) ∧ (X.cell? ⟨b', o + s * 5 + 1, none⟩ = some (.int .u64 id) ∧ X.cell? ⟨b', o + s * 5 + 2, none⟩ = some (.int .u64 b) ∧ X.cell? ⟨b', o + s * 5 + 3, none⟩ = some (.int .u64 f) ∧ X.cell? ⟨b', o + s * 5 + 4, none⟩ = some (.slice pB nx pc)))
          (first | (with_reducible assumption) | (with_reducible exact HS.out _ (below_drew (Below.refl _ _))) | (with_reducible exact HS.out _ HC5.out) | (with_reducible exact HS.out _ HC6.out) | (with_reducible exact HS.out _ HC7.out) | (with_reducible exact HS.out _ HC8.out))
          (first
          | (go_at_call 10; (with_reducible refine (HCk.out V.drew (below_drew HBV.out)).mono ?_); rintro e w5 ⟨rfl, hb5⟩; have HC5 := Lib.hid (show Below V.heap.size V w5 from (below_drew (Below.refl _ V)).trans hb5); clear hb5)
          | (go_at_call 18; (with_reducible refine (HFn.out w5 (HBV.out.trans (HC5.out.mono HBV.out.size))).mono ?_); rintro e w6 ⟨rfl, hb6⟩; have HC6 := Lib.hid (HC5.out.trans (hb6.mono HC5.out.size)); clear hb6)
          | (go_at_call 18; (with_reducible refine (HFa.out w6 (HB3.out.trans ((HBV.out.trans (HC6.out.mono HBV.out.size)).mono HB3.out.size))).mono ?_); rintro e w7 ⟨rfl, hb7⟩; have HC7 := Lib.hid (HC6.out.trans (hb7.mono HC6.out.size)); clear hb7)
          | (go_at_call 27; (with_reducible refine (HSv.out w7 (HBV.out.trans (HC7.out.mono HBV.out.size)) (HB3.out.trans ((HBV.out.trans (HC7.out.mono HBV.out.size)).mono HB3.out.size))).mono ?_); rintro e w8 ⟨rfl, hb8⟩; have HC8 := Lib.hid (HC7.out.trans (hb8.mono HC7.out.size)); clear hb8))
        obtain ⟨⟨x0, x1⟩, _⟩ := HS.out w8 HC8.out
        have HB8 := Lib.hid (HBV.out.trans (HC8.out.mono HBV.out.size))
        go_wp2_with fail
        refine (HOf.out w8 HB8.out).mono ?_
        rintro e w9 ⟨A9, c9, rfl, ho9, hb9⟩
        have HC9 := Lib.hid (HC8.out.trans (hb9.mono HC8.out.size))
        have HO9 := Lib.hid (ho9.vec (fun k hk => by have := HSl.out k hk; omega))
        obtain ⟨m, hm⟩ : ∃ m, m = S.length := ⟨_, rfl⟩
        rw [← hm]
        have hmx : m ≤ 9223372036854775807 := by
          have h1 := HO9.out.room
          have h2 := HO9.out.most
          rw [List.length_map, ← hm] at h1
          exact Nat.le_trans h1 h2
        have HM := Lib.hid hm
        clear ho9 hb9 hm v0 v1 v2 v3 v4 v5 v6 v7 v8 x0 x1
        go_wp2
        go_loopw [11, 100] (fun fl i wr => ∃ (k : Nat) (fb : Bool), k ≤ m ∧ i = .int .i64 k ∧ fl = .bool fb ∧ wr = w9 ∧ Hid (fb = decide (s ∈ S.take k))) (fun fl i _ => m - (intOf i).toNat)
        case atStart => exact ⟨0, false, Nat.zero_le _, rfl, rfl, rfl, Lib.hid (by simp)⟩
        case round =>
          obtain ⟨k, fb, hk, rfl, rfl, rfl, HFb⟩ := hrel
          by_cases hkm : k < m
          · obtain ⟨y, hy⟩ : ∃ y, S[k]? = some y := ⟨_, List.getElem?_eq_getElem (by rw [← HM.out]; exact hkm)⟩
            obtain ⟨bS, oS, rfl, hbS, cS⟩ := HO9.out.at_ (j := k) (by rw [List.length_map, ← HM.out]; exact hkm)
            rw [show (S.map fun (k : Nat) => (k : Int)).getD k 0 = (y : Int) by simp [List.getD, hy]] at cS
            have k0 : (0 : Int) ≤ k := by omega
            have km : (k : Int) < m := by omega
            have HT := Lib.hid (show S.take (k + 1) = S.take k ++ [y] by rw [List.take_add_one, hy]; rfl)
            clear hy hbS
            cases fb with
            | true =>
              go_wp2
              go_roundw
              case rel => exact ⟨k + 1, true, by omega, by go_num, by simp, by simp, Lib.hid (by
                rw [HT.out]
                have := HFb.out
                simp only [List.mem_append]
                simp at this
                simp [this])⟩
              case measure => simp [intOf]; omega
            | false =>
              by_cases hys : y = s
              · subst hys
                go_wp2
                go_roundw
                case rel => exact ⟨k + 1, true, by omega, by go_num, by simp, by simp, Lib.hid (by rw [HT.out]; simp)⟩
                case measure => simp [intOf]; omega
              · have t1 : ((y : Int) == (s : Int)) = false := by simp; omega
                have t2 : (y == s) = false := by simpa using hys
                have HYs := Lib.hid hys
                clear hys
                go_wp2
                go_roundw
                case rel => exact ⟨k + 1, false, by omega, by go_num, by simp, by simp, Lib.hid (by
                  rw [HT.out]
                  have h1 := HFb.out
                  have h2 := HYs.out
                  simp at h1
                  simp [h1]
                  exact fun e => h2 e.symm)⟩
                case measure => simp [intOf]; omega
          · obtain rfl : k = m := by omega
            obtain rfl : fb = true := by
              rw [HFb.out, HM.out, List.take_length]
              exact decide_eq_true HSs.out
            obtain ⟨⟨x0, x1⟩, _⟩ := HS.out wr HC9.out
            have HC9 := HC9
            have HBz := Lib.hid (show Below V.heap.size V (wr.alloc (.cells #[.int .i64 s] 3)) from HC9.out.alloc HC9.out.size _)
            go_wp2_with fail
            refine (HDr.out _ wr.heap.size (cell_laid _ _ _ 0) (HBV.out.trans (HBz.out.mono HBV.out.size))).mono ?_
            rintro e w10 ⟨A10, c10, q10, rfl, hq10, ho10, hb10⟩
            have HC10 := Lib.hid (HBz.out.trans (hb10.mono HBz.out.size))
            obtain ⟨V11, hV11⟩ : ∃ V11, V11 = w10.alloc (.cells #[.slice A10 q10.length c10] 24) := ⟨_, rfl⟩
            have hb11 : Below w10.heap.size w10 V11 := by rw [hV11]; exact (Below.refl _ _).alloc (Nat.le_refl _) _
            have hx11 : V11.cell? ⟨w10.heap.size, 0, none⟩ = some (.slice A10 q10.length c10) := by rw [hV11]; exact cell_laid _ _ _ 0
            have hbV11 := HC10.out.trans (hb11.mono HC10.out.size)
            obtain ⟨⟨_, y1⟩, _⟩ := HS.out V11 hbV11
            have HB11 := Lib.hid (HB3.out.trans ((HBV.out.trans (hbV11.mono HBV.out.size)).mono HB3.out.size))
            have HS11 := Lib.hid (HSm.out V11 A10 c10 q10 HB11.out (ho10.are.below hb11) hq10)
            have HV11 := Lib.hid hV11
            generalize q10.length = n10 at *
            clear hq10 ho10 hb10 hV11 hb11 hbV11 x0 x1
            go_wp2_with (first | (rw [← HV11.out]) | (go_at_call 13; refine HS11.out.mono ?_; rintro e w12 ⟨rfl, hb12⟩; have HB12 := Lib.hid (HB0.out.trans ((HB11.out.trans (hb12.mono HB11.out.size)).mono HB0.out.size)); clear hb12))
            go_ret
            exact ⟨rfl, HB12.out⟩
      · have HF := Lib.hid (put_no HE.out.symm hE0 id).2
        have hl3 : q3.length = 0 := by rw [← ces_length, HQ3.out, HF.out]; rfl
        rw [hl3]
        have tE : (E != 0) = true := by simpa using hE0
        by_cases hE6 : E = 6
        · subst hE6
          have HF6 := Lib.hid (put_full HE.out.symm)
          rw [HF6.out] at HFa
          obtain ⟨V, hV⟩ : ∃ V, V = w3.alloc (.cells #[.slice A3 0 c3] 24) := ⟨_, rfl⟩
          have hbV : Below w3.heap.size w3 V := by rw [hV]; exact (Below.refl _ w3).alloc (Nat.le_refl _) _
          have HBV := Lib.hid (HB3.out.trans (hbV.mono HB3.out.size))
          obtain ⟨d0, d1, d2, d3⟩ := HCs.out V HBV.out
          have hxV : V.cell? ⟨w3.heap.size, 0, none⟩ = some (.slice A3 0 c3) := by rw [hV]; exact cell_laid _ _ _ 0
          have HV := Lib.hid hV
          clear hV hbV hl3 hE0 tE
          go_wp2_with (first | (rw [← HV.out]) | (go_at_call 18; refine (HFa.out V HBV.out).mono ?_; rintro e w5 ⟨rfl, hb5⟩; have HB5 := Lib.hid (HB0.out.trans ((HBV.out.trans (hb5.mono HBV.out.size)).mono HB0.out.size)); clear hb5))
          go_ret
          exact ⟨rfl, HB5.out⟩
        · have t6 : (E != 6) = true := by simpa using hE6
          have HBV := Lib.hid (HB0.out.trans ((HB3.out.alloc HB3.out.size (.cells #[.slice A3 0 c3] 24)).mono HB0.out.size))
          clear hl3 hE0 hE6
          go_wp2
          go_ret
          exact ⟨rfl, HBV.out⟩

set_option maxRecDepth 100000 in
theorem lifted (os : Os) (started : os.Started) (H : Type) (enc : TypeId × Value → H) :
    ReturnsInHanded {} Try.checked os 5 .any (Rows.arenaBackSpec.pre6 enc Try.prog Try.f5 Rows.arenaBackRow.domain false) (Rows.arenaBackSpec.post enc Try.prog Try.f5 false true false false) := by
  refine returnsInHanded_of_change (C := Try.checked) Try.own started (by kernel_rfl) Try.func5
    (ChangeSpec.witness6 (enc := enc) (C := Try.checked) false ⟨#[], #[.agg #[.slice none 0 0], .int .u64 0, .agg #[.int .u64 0, .int .u64 0, .slice none 0 0]], []⟩ 8 (by kernel_rfl) (by kernel_rfl) (by kernel_rfl) (by kernel_rfl)) ?_
  intro W base args ds gs before hval0 hW hcnd _
  have hval : ∀ (j : Nat) t v, Try.f5.params[j]? = some t → args[j]? = some v → Value.okWide Try.prog W .any base t v := hval0
  have hW' := hW
  obtain ⟨p, q, hA0, hV, rfl, hfz, hnd⟩ := hW
  have hA : DataW.TrodAll enc Try.prog W 0 (fun _ => true) true Try.f5.params.toList args.toList ds p := hA0
  rw [Try.params5] at hA hval
  have hA' := hA
  obtain ⟨v0, vs0, d0, ds0, p0, q0, hargs, rfl, rfl, h0, r0⟩ := trodAll_cons hA
  obtain ⟨v1, vs1, d1, ds1, p1, q1, rfl, rfl, rfl, h1, r1⟩ := trodAll_cons r0
  obtain ⟨v2, vs2, d2, ds2, p2, q2, rfl, rfl, rfl, h2, r2⟩ := trodAll_cons r1
  obtain ⟨rfl, rfl, rfl⟩ := trodAll_nil r2
  obtain rfl : args = #[v0, v1, v2] := by cases args; simp_all
  obtain ⟨rfl, rfl⟩ := trodVars_none hV
  obtain ⟨A0, c0, z0, rfl, sl0⟩ := open_arena (hval 0 24 v0 rfl rfl) h0
  obtain ⟨a1, rfl, w1⟩ := open_time (hval 1 25 v1 rfl rfl) h1
  obtain ⟨b2, f2, A2, c2, z2, rfl, wb2, wf2, sl2⟩ := open_ver (hval 2 43 v2 rfl rfl) h2
  clear hA0 hval0
  refine (walk A0 c0 z0 sl0 a1 w1 b2 f2 A2 c2 z2 wb2 wf2 sl2).mono fun e W' ⟨he, bel⟩ => ?_
  subst he
  exact ⟨_, rfl, _, _, _, [], _, [], hW', trodAll_mk1 (shut_bool Try.underlying4 _), trodAll_below bel _ _ _ _ (by kernel_rfl) hA', rfl, bel.frame _, fun h => by cases h⟩

theorem proved : Rows.ArenaBackSaid :=
  OpenClaim.holds_of_wide 5 Try.f5 rfl rfl rfl rfl rfl rfl rfl ⟨rfl, rfl, rfl, rfl, rfl⟩ rfl rfl rfl rfl rfl (by kernel_rfl) Try.func5 (by kernel_rfl)
    (of_decide_eq_true (by kernel_rfl)) (by unfold Func.isWrapper; first | (rw [if_pos (by decide +kernel)]; kernel_rfl) | (rw [if_neg (by decide +kernel)]; exact ⟨rfl, rfl⟩))
    (fun os started H enc _ => lifted os started H enc)
#print axioms proved
end Go.Proofs.Ytpdebkpblpipcaa.arenaBack
