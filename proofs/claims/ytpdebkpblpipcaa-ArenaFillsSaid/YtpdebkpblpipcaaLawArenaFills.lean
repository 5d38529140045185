/-
  Proved: the law ArenaFills, as many are put as are free, then no more, each gets a slot of its own, returns true for every arena, version and slots, and leaves all memory as it was. No condition.
-/
import Derived.Test.YtpdebkpblpipcaaLawFrame
import Derived.Test.YtpdebkpblpipcaaAreDrop
import Derived.Test.YtpdebkpblpipcaaAreRef
import Derived.Deep.Cut
import Derived.Deep.CutRange
import Derived.RegionTactic
namespace Go.Proofs.Ytpdebkpblpipcaa.arenaFills
open Go.ChangeShapes Go.WideShapes Go.ChangeAt Go.RowKit Go.Maps
set_option linter.unusedVariables false
set_option linter.unusedSimpArgs false
set_option maxRecDepth 100000

/-- What lies in the boxes of the law. -/
structure FillB (w W0 : World) (A : Option Addr) (n c : Nat) (b f : Int) (B : Option Addr) (nx cx : Nat) : Prop where
  size : W0.heap.size = w.heap.size + 2
  below : Below w.heap.size w W0
  ar : Boxed W0 w.heap.size 24 (.slice A n c)
  ver : W0.heap[w.heap.size + 1]? = some (.cells #[.int .u64 b, .int .u64 f, .slice B nx cx] 43 (0, 0))
theorem fillB (w : World) (A : Option Addr) (n c : Nat) (b f : Int) (B : Option Addr) (nx cx : Nat) : FillB w ((w.alloc (.cells #[.slice A n c] 24)).alloc (.cells #[.int .u64 b, .int .u64 f, .slice B nx cx] 43)) A n c b f B nx cx := by
  refine ⟨by simp, ((Below.refl _ w).alloc (Nat.le_refl _) _).alloc (by simp) _, (Boxed.new w _ _).alloc _, ?_⟩
  have h := heap_alloc_new (w.alloc (.cells #[.slice A n c] 24)) (.cells #[.int .u64 b, .int .u64 f, .slice B nx cx] 43)
  rw [World.size_alloc] at h
  exact h
theorem turn_sub {S S' : Nat → Prop} {w w' : World} (h : Turn S' w w') (hS : ∀ i, S' i → S i) : Turn S w w' := ⟨h.os, h.tape, h.output, h.size, fun k hk hn => h.block k hk (fun e => hn (hS k e))⟩
theorem turn_both {S : Nat → Prop} {a b c : World} (h : Turn S a b) (k : Turn S b c) : Turn S a c := h.trans k (fun i hi => .inl hi)
/-- The version's box, while it does not turn. -/
theorem FillB.vers {S : Nat → Prop} {w W0 X : World} {A : Option Addr} {n c : Nat} {b f : Int} {B : Option Addr} {nx cx : Nat} (h : FillB w W0 A n c b f B nx cx) (hX : Turn S W0 X) (hS : ¬ S (w.heap.size + 1)) :
    X.cell? ⟨w.heap.size + 1, 0, none⟩ = some (.int .u64 b) ∧ X.cell? ⟨w.heap.size + 1, 1, none⟩ = some (.int .u64 f) ∧ X.cell? ⟨w.heap.size + 1, 2, none⟩ = some (.slice B nx cx) := by
  have e2 := (hX.block _ (lt_of_block h.ver) hS).trans h.ver
  exact ⟨(cell_of_row _ _ 0 _ _ _ e2).trans rfl, (cell_of_row _ _ 1 _ _ _ e2).trans rfl, (cell_of_row _ _ 2 _ _ _ e2).trans rfl⟩

/-- An arena that can be read, whatever lies in S's blocks. -/
def AreO (S : Nat → Prop) (w : World) (A : Option Addr) (c : Nat) (q : List Pa) : Prop := ∀ X, Turn S w X → Are X A c q
theorem AreO.later {S : Nat → Prop} {w w' : World} {A : Option Addr} {c : Nat} {q : List Pa} (h : AreO S w A c q) (ht : Turn S w w') : AreO S w' A c q := fun X hX => h X (turn_both ht hX)
theorem AreO.now {S : Nat → Prop} {w : World} {A : Option Addr} {c : Nat} {q : List Pa} (h : AreO S w A c q) : Are w A c q := h w (Turn.refl _ _)
theorem own_areO {S : Nat → Prop} {base : Nat} {w : World} {A : Option Addr} {c : Nat} {q : List Pa} (h : OwnA base w A c q) (hS : ∀ i, S i → i < base) : AreO S w A c q := fun X hX => (h.turn hX (fun i hi _ e => by have := hS i e; omega)).are

/-- The box holds an arena that may be. -/
def BoxA (S : Nat → Prop) (g : Nat) (W0 wr : World) (l : List Ce) : Prop := ∃ A c q, Boxed wr g 24 (.slice A 96 c) ∧ List.length q = 96 ∧ ces q = l ∧ arB l = true ∧ AreO S wr A c q ∧ Turn S W0 wr
theorem BoxA.right {S : Nat → Prop} {g : Nat} {W0 wr : World} {l : List Ce} (h : BoxA S g W0 wr l) : arB l = true := by obtain ⟨A, c, q, h1, h2, h3, h4, h5, h6⟩ := h; exact h4
theorem BoxA.turn {S : Nat → Prop} {g : Nat} {W0 wr : World} {l : List Ce} (h : BoxA S g W0 wr l) : Turn S W0 wr := by obtain ⟨A, c, q, h1, h2, h3, h4, h5, h6⟩ := h; exact h6
theorem BoxA.below {S : Nat → Prop} {g : Nat} {W0 wr X : World} {l : List Ce} (h : BoxA S g W0 wr l) (hX : Below wr.heap.size wr X) : BoxA S g W0 X l := by
  obtain ⟨A, c, q, h1, h2, h3, h4, h5, h6⟩ := h
  exact ⟨A, c, q, (hX.block _ h1.lt).trans h1, h2, h3, h4, h5.later (Turn.of_below hX), turn_both h6 (Turn.of_below hX)⟩
/-- Another arena is laid into the box. -/
theorem BoxA.set {S : Nat → Prop} {g : Nat} {W0 wr : World} {l l' : List Ce} {A : Option Addr} {c : Nat} {q : List Pa} (h : BoxA S g W0 wr l) (hg : S g) (ho : AreO S wr A c q) (hl : ces q = l') (hr : arB l' = true) : BoxA S g W0 (wr.setCell ⟨g, 0, none⟩ (.slice A 96 c)) l' := by
  obtain ⟨A0, c0, q0, h1, h2, h3, h4, h5, h6⟩ := h
  have ht : Turn S wr (wr.setCell ⟨g, 0, none⟩ (.slice A 96 c)) := turn_sub (turn_set wr g 0 _) (fun i hi => by subst hi; exact hg)
  exact ⟨A, c, q, h1.set _, by rw [← ces_length, hl]; exact arB_len hr, hl, hr, ho.later ht, turn_both h6 ht⟩
/-- A new block may turn too. -/
theorem BoxA.more {S S' : Nat → Prop} {g : Nat} {W0 wr X : World} {l : List Ce} (h : BoxA S g W0 wr l) (hX : Below wr.heap.size wr X) (h1' : ∀ i, S' i → S i ∨ wr.heap.size ≤ i) (h2' : ∀ i, S i → S' i) (h0 : W0.heap.size ≤ wr.heap.size) : BoxA S' g W0 X l := by
  obtain ⟨A, c, q, h1, h2, h3, h4, h5, h6⟩ := h
  refine ⟨A, c, q, (hX.block _ h1.lt).trans h1, h2, h3, h4, fun Y hY => h5 Y ((Turn.of_below (S := S) hX).trans hY h1'), turn_sub (h6.trans (Turn.of_below (S := S) hX) (fun i hi => .inl hi)) h2'⟩

theorem drop_one {l : List Ce} {s : Int} (hr : arB l = true) (h : dropE l [s] = 0) : arB (dropL l [s]) = true := by
  have hl := arB_len hr
  unfold dropL
  rw [if_pos h]
  unfold arB
  have h1 : (setZ l [s]).length = 96 := by unfold setZ; rw [List.length_mapIdx, hl]
  have h2 : (setZ l [s]).all mayE = true := by
    rw [List.all_eq_true]
    intro e he
    unfold setZ at he
    obtain ⟨j, hj, rfl⟩ := List.mem_mapIdx.1 he
    split
    · exact may_zc
    · exact arB_may hr _ (List.getElem_mem _)
  rw [h1, h2]; rfl
theorem put_ok {l : List Ce} {b f : Int} {x : List Int} (hr : arB l = true) (hv : verR b f x = true) (hf : 0 < freeN l) : ∃ s, leastO l = some s ∧ s < 96 ∧ (ceAt l s).u = false ∧ putE l b f x = 0 ∧ putK l b f x = s ∧ ∀ id, putL l id b f x = l.set s ⟨true, id, b, f, x⟩ := by
  cases hs : leastO l with
  | none => have := least_none hs; omega
  | some s =>
    obtain ⟨h1, h2, _⟩ := least_some hs
    have hE : putE l b f x = 0 := by unfold putE; rw [hr, hv, hs]; rfl
    exact ⟨s, rfl, by rw [← arB_len hr]; exact h1, h2, hE, by unfold putK; rw [if_pos hE, hs]; rfl, fun id => by unfold putL; rw [if_pos hE, hs]⟩
theorem put_none {l : List Ce} {b f : Int} {x : List Int} (hr : arB l = true) (hv : verR b f x = true) (hf : freeN l = 0) : putE l b f x = 6 := by
  cases hs : leastO l with
  | none => unfold putE; rw [hr, hv, hs]; rfl
  | some s => have := least_free hs; omega

/-- The map b has these keys, all of them true. -/
def MapT (w : World) (b n : Nat) (ks : List Int) : Prop := ∃ D : DataW Value, w.ownsMap Try.prog 3 (plainElem Try.prog 4) b n D ∧ SetD D ks
theorem MapT.lt {w : World} {b n : Nat} {ks : List Int} (h : MapT w b n ks) : b < w.heap.size := by obtain ⟨D, h, _⟩ := h; exact h.lt
theorem MapT.same {w w' : World} {b n : Nat} {ks : List Int} (h : MapT w b n ks) (hb : w'.heap[b]? = w.heap[b]?) : MapT w' b n ks := by
  obtain ⟨D, ⟨es, clock, h1, h2⟩, ht⟩ := h
  exact ⟨D, ⟨es, clock, hb.trans h1, h2⟩, ht⟩
theorem MapT.made (w : World) : MapT (w.alloc (.map #[] 0)) w.heap.size 0 [] := ⟨_, World.ownsMap_made w _ _ _, fun k _ => by simp [has_eq]⟩
theorem zeroBool (w : World) : (zeroValue 4).run Try.prog w = .ok (.bool false) w := by kernel_rfl
theorem MapT.look {w : World} {b n : Nat} {ks : List Int} {s : Int} (h : MapT w b n ks) (hs : I64 s) (hn : s ∉ ks) : (Instr.lookup 58 (.map (some b)) (.int .i64 s) false).run Try.prog w = .ok (.bool false) w := by
  obtain ⟨D, ho, ht⟩ := h
  obtain ⟨v, ps, hrun, hv⟩ := ho.lookup keyed Try.underlying58 (zeroBool w) (plainElem_bool Try.underlying4 false) (keyAt hs)
  rw [atKey_of_not_has (by rw [ht s hs]; simpa using hn)] at hv
  have : v = .bool false := by
    cases v <;> simp [plainElem, Try.underlying4] at hv
    obtain ⟨rfl, _⟩ := hv
    rfl
  rw [this] at hrun
  exact hrun
theorem MapT.store {w : World} {b n : Nat} {ks : List Int} {s : Int} (h : MapT w b n ks) (hn : n < 1000) (hs : I64 s) : ∃ w', (Instr.mapUpdate 58 (.map (some b)) (.int .i64 s) (.bool true)).run Try.prog w = .ok () w' ∧ MapT w' b (n + 1) (ks ++ [s]) ∧ w.mapTurned w' b := by
  obtain ⟨D, ho, ht⟩ := h
  obtain ⟨w', hrun, h1, h2⟩ := ho.store keyed Try.underlying58 (by unfold maxLen; omega) (keyAt hs) (plainElem_bool Try.underlying4 true)
  exact ⟨w', hrun, ⟨_, h1, setD_put ho.isMap ht hs _⟩, h2⟩

theorem vec_at {X : World} {z : Nat} {s : Int} (hz : X.cell? ⟨z, 0, none⟩ = some (.int .i64 s)) (hs : I64 s) : Vec .i64 X (some ⟨z, 0, none⟩) 1 [s] := by
  refine ⟨Nat.le_refl _, by decide, fun _ => ⟨z, 0, rfl, World.block_lt_of_cell? X _ hz, fun j hj => ?_⟩, fun y hy => ?_⟩
  · obtain rfl : j = 0 := by simp at hj; omega
    exact hz
  · obtain rfl : y = s := by simpa using hy
    exact hs

theorem BoxA.turned {S S' : Nat → Prop} {g : Nat} {W0 wr X : World} {l : List Ce} (h : BoxA S g W0 wr l) (hX : Turn S' wr X) (hS : ∀ i, S' i → S i) (hg : ¬ S' g) : BoxA S g W0 X l := by
  obtain ⟨A, c, q, h1, h2, h3, h4, h5, h6⟩ := h
  exact ⟨A, c, q, (hX.block _ h1.lt hg).trans h1, h2, h3, h4, h5.later (turn_sub hX hS), turn_both h6 (turn_sub hX hS)⟩
theorem turn_map {w w' : World} {b : Nat} (h : w.mapTurned w' b) : Turn (fun i => i = b) w w' := Turn.of_grown (S := fun i => i = b) h.grown (fun i hi => .inl (by injection hi with hi; exact hi.symm))
/-- Between the rounds: what is put so far. -/
def FlI (S : Nat → Prop) (g bm F : Nat) (W0 : World) (k : Nat) (l : List Ce) (ks : List Int) (wr : World) : Prop := BoxA S g W0 wr l ∧ freeN l + k = F ∧ MapT wr bm k ks ∧ ∀ j ∈ ks, ∃ n : Nat, j = (n : Int) ∧ (ceAt l n).u = true
theorem FlI.step {S : Nat → Prop} {g bm F : Nat} {W0 wr X : World} {k s : Nat} {l : List Ce} {ks : List Int} {e : Ce} (h : FlI S g bm F W0 k l ks wr) (hs : leastO l = some s) (hu : (ceAt l s).u = false) (he : e.u = true) (hX : BoxA S g W0 X (l.set s e)) (hm : MapT X bm (k + 1) (ks ++ [(s : Int)])) : FlI S g bm F W0 (k + 1) (l.set s e) (ks ++ [(s : Int)]) X := by
  obtain ⟨h1, h2, h3, h4⟩ := h
  have hl := (least_some hs).1
  refine ⟨hX, by have := freeN_set hl hu he; omega, hm, fun j hj => ?_⟩
  rcases List.mem_append.1 hj with hj | hj
  · obtain ⟨n, rfl, hn⟩ := h4 j hj
    refine ⟨n, rfl, ?_⟩
    have hne : s ≠ n := by rintro rfl; rw [hu] at hn; cases hn
    have : ceAt (l.set s e) n = ceAt l n := by unfold ceAt List.getD; rw [List.getElem?_set_ne hne]
    rw [this]; exact hn
  · obtain rfl : j = (s : Int) := by simpa using hj
    exact ⟨s, rfl, by simp [ceAt, List.getD, hl, he]⟩
theorem u64_nat {k : Nat} (h : k ≤ 1000) : U64s (k : Int) := by
  unfold U64s
  simp [I64, U64s, kl, Lit.wf, IntKind.min, IntKind.max, IntKind.signed, IntKind.bits]; omega
theorem i64_nat {k : Nat} (h : k ≤ 1000) : I64 (k : Int) := by
  simp [I64, U64s, kl, Lit.wf, IntKind.min, IntKind.max, IntKind.signed, IntKind.bits]; omega

set_option maxHeartbeats 8000000 in
theorem walk {w : World} (A : Option Addr) (c : Nat) (q : List Pa) (H : Are w A c q) (b f : Int) (B : Option Addr) (cx : Nat) (x : List Int) (hb : U64s b) (hf : U64s f) (hv : Vec .i32 w B cx x) (Ad : Option Addr) (cd : Nat) (ds : List Int) (hd : Vec .i64 w Ad cd ds) :
    Calls Try.prog 7 #[.agg #[.slice A q.length c], .agg #[.int .u64 b, .int .u64 f, .slice B x.length cx], .slice Ad ds.length cd] w fun e w' => e = .returned (.bool true) ∧ Below w.heap.size w w' := by
  obtain ⟨W0, hW0⟩ : ∃ W0, W0 = (w.alloc (.cells #[.slice A q.length c] 24)).alloc (.cells #[.int .u64 b, .int .u64 f, .slice B x.length cx] 43) := ⟨_, rfl⟩
  have hP := fillB w A q.length c b f B x.length cx
  rw [← hW0] at hP
  have HW := Lib.hid hW0
  have HB0 := Lib.hid hP.below
  have HZ0 := Lib.hid hP.size
  have HVr := Lib.hid (fun (S : Nat → Prop) (X : World) (hX : Turn S W0 X) (hS : ¬ S (w.heap.size + 1)) => hP.vers hX hS)
  have HAr0 := Lib.hid (fun (X : World) (hX : Below W0.heap.size W0 X) => Boxed.cell ((hX.block _ hP.ar.lt).trans hP.ar))
  have HBx0 := Lib.hid hP.ar
  have HWk := Lib.hid (wakes_any W0)
  have HOv := Lib.hid (fun (X : World) (hX : Below W0.heap.size W0 X) => over_any A c q X ((H.below hP.below).below hX))
  have HCk := Lib.hid (fun (X : World) (hX : Below W0.heap.size W0 X) => checkA_any A c q X ((H.below hP.below).below hX))
  have HVx := Lib.hid (fun (X : World) (hX : Below w.heap.size w X) => hv.below hX)
  have HDs := Lib.hid (fun (X : World) (hX : Below w.heap.size w X) => hd.below hX)
  have HCv := Lib.hid (fun (X : World) (hX : Below w.heap.size w X) => checkVersion_any b f B cx x X (hv.below hX))
  have HAO := Lib.hid (show AreO (fun i => i = w.heap.size) W0 A c q from fun X hX => H.below (hP.below.trans (hX.below hP.below.size (fun i hi => by omega))))
  have HFi := Lib.hid (show U64s b ∧ U64s f from ⟨hb, hf⟩)
  obtain ⟨l, hl⟩ : ∃ l, l = ces q := ⟨_, rfl⟩
  rw [← hl] at HOv HCk
  have HL := Lib.hid hl
  have hmx : ds.length ≤ 9223372036854775807 := Nat.le_trans hd.room hd.most
  generalize hn : q.length = n at *
  generalize hnx : x.length = nx at *
  obtain ⟨m, hm⟩ : ∃ m, m = ds.length := ⟨_, rfl⟩
  rw [← hm] at hmx ⊢
  have HN := Lib.hid hn
  have HNX := Lib.hid hnx
  have HM := Lib.hid hm
  clear H hb hf hv hd hP hW0 hl hn hnx hm
  cases hov : overB l with
  | true =>
    rw [hov] at HOv
    clear hov
    go_enter Try.func7, Try.ntmps7
    go_wp2_with fail
    rw [← HW.out]
    refine HWk.out.mono ?_
    rintro e w1 ⟨rfl, hb1⟩
    have HB1 := Lib.hid hb1
    have c0 := HAr0.out w1 hb1
    clear hb1
    go_wp2_with fail
    refine (HOv.out w1 HB1.out).mono ?_
    rintro e w2 ⟨rfl, hb2⟩
    have HB2 := Lib.hid (HB0.out.trans ((HB1.out.trans (hb2.mono HB1.out.size)).mono HB0.out.size))
    clear hb2
    go_wp2
    go_ret
    exact ⟨rfl, HB2.out⟩
  | false =>
    rw [hov] at HOv
    by_cases h50 : 50 < nx
    · have t5 : (50 : Int) < nx := by omega
      clear hov h50
      go_enter Try.func7, Try.ntmps7
      go_wp2_with fail
      rw [← HW.out]
      refine HWk.out.mono ?_
      rintro e w1 ⟨rfl, hb1⟩
      have HB1 := Lib.hid hb1
      have c0 := HAr0.out w1 hb1
      clear hb1
      go_wp2_with fail
      refine (HOv.out w1 HB1.out).mono ?_
      rintro e w2 ⟨rfl, hb2⟩
      obtain ⟨d1, d2, d3⟩ := HVr.out (fun _ => False) w2 (Turn.of_below (HB1.out.trans (hb2.mono HB1.out.size))) (fun e => e)
      have HB2 := Lib.hid (HB0.out.trans ((HB1.out.trans (hb2.mono HB1.out.size)).mono HB0.out.size))
      clear hb2 c0
      go_wp2
      go_ret
      exact ⟨rfl, HB2.out⟩
    · have t5 : decide ((50 : Int) < nx) = false := by simp; omega
      clear hov h50
      cases hr : arB l with
      | false =>
        rw [chkA_no hr] at HCk
        clear hr
        go_enter Try.func7, Try.ntmps7
        go_wp2_with fail
        rw [← HW.out]
        refine HWk.out.mono ?_
        rintro e w1 ⟨rfl, hb1⟩
        have HB1 := Lib.hid hb1
        have c0 := HAr0.out w1 hb1
        clear hb1
        go_wp2_with fail
        refine (HOv.out w1 HB1.out).mono ?_
        rintro e w2 ⟨rfl, hb2⟩
        have HB2 := Lib.hid (HB1.out.trans (hb2.mono HB1.out.size))
        obtain ⟨d1, d2, d3⟩ := HVr.out (fun _ => False) w2 (Turn.of_below HB2.out) (fun e => e)
        have d0 := HAr0.out w2 HB2.out
        clear hb2 c0
        go_wp2_with fail
        refine (HCk.out w2 HB2.out).mono ?_
        rintro e w3 ⟨rfl, hb3⟩
        have HB3 := Lib.hid (HB0.out.trans ((HB2.out.trans (hb3.mono HB2.out.size)).mono HB0.out.size))
        clear hb3
        go_wp2
        go_ret
        exact ⟨rfl, HB3.out⟩
      | true =>
        rw [chkA_ok hr] at HCk
        have HRg := Lib.hid hr
        cases hvr : verR b f x with
        | false =>
          rw [verE_iff, hvr] at HCv
          clear hr hvr
          go_enter Try.func7, Try.ntmps7
          go_wp2_with fail
          rw [← HW.out]
          refine HWk.out.mono ?_
          rintro e w1 ⟨rfl, hb1⟩
          have HB1 := Lib.hid hb1
          have c0 := HAr0.out w1 hb1
          clear hb1
          go_wp2_with fail
          refine (HOv.out w1 HB1.out).mono ?_
          rintro e w2 ⟨rfl, hb2⟩
          have HB2 := Lib.hid (HB1.out.trans (hb2.mono HB1.out.size))
          obtain ⟨d1, d2, d3⟩ := HVr.out (fun _ => False) w2 (Turn.of_below HB2.out) (fun e => e)
          have d0 := HAr0.out w2 HB2.out
          clear hb2 c0
          go_wp2_with fail
          refine (HCk.out w2 HB2.out).mono ?_
          rintro e w3 ⟨rfl, hb3⟩
          have HB3 := Lib.hid (HB2.out.trans (hb3.mono HB2.out.size))
          obtain ⟨g1, g2, g3⟩ := HVr.out (fun _ => False) w3 (Turn.of_below HB3.out) (fun e => e)
          have HBw3 := Lib.hid (HB0.out.trans (HB3.out.mono HB0.out.size))
          clear hb3 d0 d1 d2 d3
          go_wp2_with fail
          refine (HCv.out w3 HBw3.out).mono ?_
          rintro e w4 ⟨rfl, hb4⟩
          have HB4 := Lib.hid (HBw3.out.trans (hb4.mono HBw3.out.size))
          clear hb4
          go_wp2
          go_ret
          exact ⟨rfl, HB4.out⟩
        | true =>
          rw [verE_iff, hvr] at HCv
          have HVR := Lib.hid hvr
          clear hr hvr
          go_enter Try.func7, Try.ntmps7
          go_wp2_with fail
          rw [← HW.out]
          refine HWk.out.mono ?_
          rintro e w1 ⟨rfl, hb1⟩
          have HB1 := Lib.hid hb1
          have c0 := HAr0.out w1 hb1
          clear hb1
          go_wp2_with fail
          refine (HOv.out w1 HB1.out).mono ?_
          rintro e w2 ⟨rfl, hb2⟩
          have HB2 := Lib.hid (HB1.out.trans (hb2.mono HB1.out.size))
          obtain ⟨d1, d2, d3⟩ := HVr.out (fun _ => False) w2 (Turn.of_below HB2.out) (fun e => e)
          have d0 := HAr0.out w2 HB2.out
          clear hb2 c0
          go_wp2_with fail
          refine (HCk.out w2 HB2.out).mono ?_
          rintro e w3 ⟨rfl, hb3⟩
          have HB3 := Lib.hid (HB2.out.trans (hb3.mono HB2.out.size))
          obtain ⟨g1, g2, g3⟩ := HVr.out (fun _ => False) w3 (Turn.of_below HB3.out) (fun e => e)
          have HBw3 := Lib.hid (HB0.out.trans (HB3.out.mono HB0.out.size))
          clear hb3 d0 d1 d2 d3
          go_wp2_with fail
          refine (HCv.out w3 HBw3.out).mono ?_
          rintro e w4 ⟨rfl, hb4⟩
          have HB4 := Lib.hid (HB3.out.trans (hb4.mono HB3.out.size))
          have HI0 := Lib.hid (show BoxA (fun i => i = w.heap.size) w.heap.size W0 w4 l from by
            have hn96 : n = 96 := by rw [← HN.out, ← ces_length, ← HL.out]; exact arB_len HRg.out
            have hx := HBx0.out
            rw [hn96] at hx
            have hz := HZ0.out
            exact ⟨A, c, q, (HB4.out.block _ hx.lt).trans hx, HN.out.trans hn96, HL.out.symm, HRg.out, HAO.out.later (Turn.of_below HB4.out), Turn.of_below HB4.out⟩)
          clear hb4 g1 g2 g3
          have HTb := Lib.hid (fun (X : World) (hX : Turn (fun i => i = w.heap.size) W0 X) => show Below w.heap.size w X from HB0.out.trans (hX.below HB0.out.size (fun i hi => by omega)))
          go_upto_region 5 with fail
          iterate 13 (first | go_step | go_simp)
          go_cut [7] from 39 to 58 (fun _ wx => ∃ l', Hid (BoxA (fun i => i = w.heap.size) w.heap.size W0 wx l'))
          case first =>
            go_wp2_with fail
            go_loopw [41] (fun i wr => ∃ (k : Nat) (l' : List Ce), k ≤ m ∧ i = .int .i64 k ∧ Hid (BoxA (fun i => i = w.heap.size) w.heap.size W0 wr l')) (fun i _ => m - (intOf i).toNat)
            case atStart => exact ⟨0, l, Nat.zero_le _, rfl, HI0⟩
            case round =>
              obtain ⟨k, l', hk, rfl, HI⟩ := hrel
              by_cases hkm : k < m
              · have HBw := Lib.hid (HTb.out wr HI.out.turn)
                obtain ⟨bd, od, rfl, hbd, ci⟩ := (HDs.out wr HBw.out).at_ (j := k) (by rw [← HM.out]; exact hkm)
                obtain ⟨s, hs⟩ : ∃ s, s = ds.getD k 0 := ⟨_, rfl⟩
                rw [← hs] at ci
                have hsi : I64 s := by
                  rw [hs]
                  have hkl : k < ds.length := by rw [← HM.out]; exact hkm
                  have : ds.getD k 0 = ds[k] := by simp [List.getD, hkl]
                  rw [this]
                  exact (HDs.out wr HBw.out).fit _ (List.getElem_mem _)
                have k0 : (0 : Int) ≤ k := by omega
                have km : (k : Int) < m := by omega
                by_cases h100 : k = 100
                · have t100 : ((k : Int) == 100) = true := by simp; omega
                  clear hbd hs hsi h100
                  go_wp2
                  go_meet
                  case rel => exact ⟨l', HI⟩
                · have t100 : ((k : Int) == 100) = false := by simp; omega
                  have t101 : (k == 100) = false := by simp; omega
                  obtain ⟨A2, c2, q2, h1, h2, h3, h4, h5, h6⟩ := HI.out
                  have c0 := h1.cell
                  have HX1 := Lib.hid h1
                  obtain ⟨X, hX⟩ : ∃ X, X = wr.alloc (.cells #[.int .i64 s] 3) := ⟨_, rfl⟩
                  have hbX : Below wr.heap.size wr X := by rw [hX]; exact (Below.refl _ wr).alloc (Nat.le_refl _) _
                  have hcX : X.cell? ⟨wr.heap.size, 0, none⟩ = some (.int .i64 s) := by rw [hX]; exact cell_laid _ _ _ 0
                  have HDr := Lib.hid (drop_any A2 c2 q2 (some ⟨wr.heap.size, 0, none⟩) 1 [s] X (h5.now.below hbX) (vec_at hcX hsi))
                  obtain ⟨E, hE⟩ : ∃ E, E = dropE l' [s] := ⟨_, rfl⟩
                  rw [h2, h3, ← hE] at HDr
                  have HE := Lib.hid hE
                  have HXe := Lib.hid hX
                  have HBX := Lib.hid hbX
                  clear h1 h2 h3 h4 h5 h6 hX hbX hcX hE hbd hs hsi h100
                  go_wp2_with (rw [← HXe.out])
                  refine HDr.out.mono ?_
                  rintro e w5 ⟨A5, c5, q5, rfl, hq5, ho5, hb5⟩
                  obtain ⟨m5, hm5⟩ : ∃ m5, m5 = q5.length := ⟨_, rfl⟩
                  rw [← hm5]
                  obtain ⟨V, hV⟩ : ∃ V, V = w5.alloc (.cells #[.slice A5 m5 c5] 24) := ⟨_, rfl⟩
                  have hbV5 : Below w5.heap.size w5 V := by rw [hV]; exact (Below.refl _ w5).alloc (Nat.le_refl _) _
                  have hcV : V.cell? ⟨w5.heap.size, 0, none⟩ = some (.slice A5 m5 c5) := by rw [hV]; exact cell_laid _ _ _ 0
                  have HBV := Lib.hid (HBX.out.trans ((hb5.trans (hbV5.mono hb5.size)).mono HBX.out.size))
                  have HO5 := Lib.hid (ho5.below hbV5)
                  have HQ5 := Lib.hid (And.intro hq5 hm5)
                  have hxV : Boxed V w.heap.size 24 (.slice A2 96 c2) := (HBV.out.block _ HX1.out.lt).trans HX1.out
                  have x0 := hxV.cell
                  have x1 := hxV.frozen
                  have HLt := Lib.hid (show w.heap.size < X.heap.size from Nat.lt_of_lt_of_le HX1.out.lt HBX.out.size)
                  have HV := Lib.hid hV
                  clear hV hbV5 ho5 hq5 hm5 hb5 hxV c0
                  by_cases hE0 : E = 0
                  · subst hE0
                    have HR := Lib.hid (drop_one HI.out.right HE.out.symm)
                    obtain rfl : m5 = 96 := by rw [HQ5.out.2, ← ces_length, HQ5.out.1]; exact arB_len HR.out
                    go_wp2_with (rw [← HV.out])
                    go_roundw
                    case rel => exact ⟨k + 1, dropL l' [s], by omega, by go_num, Lib.hid ((HI.out.below HBV.out).set rfl (own_areO HO5.out (fun i hi => by have := HLt.out; omega)) HQ5.out.1 HR.out)⟩
                    case measure => simp [intOf]; omega
                  · have tE : (E == 0) = false := by simpa using hE0
                    clear hE0
                    go_wp2_with (rw [← HV.out])
                    go_roundw
                    case rel => exact ⟨k + 1, l', by omega, by go_num, Lib.hid (HI.out.below HBV.out)⟩
                    case measure => simp [intOf]; omega
              · obtain rfl : k = m := by omega
                go_wp2
                go_meet
                case rel => exact ⟨l', HI⟩
          case rest =>
            obtain ⟨l', HI⟩ := hcut
            have hmm := @run_makeMap Try.prog
            obtain ⟨A1, c1, q1, h1, h2, h3, h4, h5, h6⟩ := HI.out
            obtain ⟨bm, hbm⟩ : ∃ bm, bm = wc.heap.size := ⟨_, rfl⟩
            obtain ⟨Wm, hWm⟩ : ∃ Wm, Wm = wc.alloc (.map #[] 0) := ⟨_, rfl⟩
            have hbW : Below wc.heap.size wc Wm := by rw [hWm]; exact (Below.refl _ wc).alloc (Nat.le_refl _) _
            have hM0 : MapT Wm bm 0 [] := by rw [hWm, hbm]; exact MapT.made wc
            have hx : Boxed Wm w.heap.size 24 (.slice A1 96 c1) := (hbW.block _ h1.lt).trans h1
            have c0 := hx.cell
            have hsz : W0.heap.size ≤ wc.heap.size := h6.size
            obtain ⟨F, hF⟩ : ∃ F, F = freeN l' := ⟨_, rfl⟩
            have hFa : freeA (ces q1) = F := by rw [h3]; unfold freeA; rw [if_pos h4, hF]
            have hF96 : F ≤ 96 := by have := used_free l'; have := arB_len h4; omega
            have HFr := Lib.hid (free_any A1 c1 q1 Wm (h5.now.below hbW))
            rw [h2, hFa] at HFr
            have HI2 := Lib.hid (HI.out.more (S' := fun i => i = w.heap.size ∨ i = bm) hbW (fun i hi => hi.imp id (fun e => by rw [e, hbm]; exact Nat.le_refl _)) (fun i hi => .inl hi) hsz)
            have HSz := Lib.hid (show W0.heap.size ≤ bm ∧ bm < Wm.heap.size from ⟨by rw [hbm]; exact hsz, hM0.lt⟩)
            have HM0 := Lib.hid hM0
            have HFe := Lib.hid hF
            have HWm := Lib.hid hWm
            have HBm := Lib.hid hbm
            clear h1 h2 h3 h4 h5 h6 hx hsz hF hFa hM0 hbW hWm hbm HI
            go_wp2_with (first | (rw [← HWm.out]) | (go_at_call 18; refine HFr.out.mono ?_; rintro e w5 ⟨rfl, hb5⟩; have HB5 := Lib.hid hb5; clear hb5))
            clear hmm
            try rw [← HBm.out]
            go_loopw [62] (fun i wr => ∃ (k : Nat) (l2 : List Ce) (ks : List Int), k ≤ F ∧ i = .int .i64 k ∧ Hid (FlI (fun i => i = w.heap.size ∨ i = bm) w.heap.size bm F W0 k l2 ks wr)) (fun i _ => F - (intOf i).toNat)
            case atStart => exact ⟨0, l', [], Nat.zero_le _, rfl, Lib.hid ⟨HI2.out.below HB5.out, by have := HFe.out; omega, HM0.out.same (HB5.out.block _ HSz.out.2), by simp⟩⟩
            case round =>
              obtain ⟨k, l2, ks, hk, rfl, HI3⟩ := hrel
              have HBw := Lib.hid (show Below w.heap.size w wr from HB0.out.trans (HI3.out.1.turn.below HB0.out.size (fun i hi => by have := HSz.out.1; have := HZ0.out; rcases hi with e | e <;> omega)))
              obtain ⟨v1, v2, v3⟩ := HVr.out (fun i => i = w.heap.size ∨ i = bm) wr HI3.out.1.turn (by have := HSz.out.1; have := HZ0.out; rintro (e | e) <;> omega)
              obtain ⟨A2, c2, q2, h1, h2, h3, h4, h5, h6⟩ := HI3.out.1
              have c0 := h1.cell
              have HX1 := Lib.hid h1
              by_cases hkF : k < F
              · obtain ⟨s, hs, hs96, hsu, hE, hK, hL⟩ := put_ok (b := b) (f := f) (x := x) h4 HVR.out (by have := HI3.out.2.1; omega)
                have HPu := Lib.hid (put_any A2 c2 q2 k b f B cx x wr h5.now (HVx.out wr HBw.out) (u64_nat (by omega)) HFi.out.1 HFi.out.2)
                rw [h2, h3, hE, hK, hL, HNX.out] at HPu
                obtain ⟨b2, o2, p, rfl, hp, hb2, d0, _⟩ := h5.now.at_ (i := s) (by omega)
                have hpu : p.e.u = false := by rw [← ces_ceAt hp, h3]; exact hsu
                rw [hpu] at d0
                have hwk : IntKind.u64.wrap (k : Int) = k := by rw [IntKind.wrap_u64, Int.emod_eq_of_lt (by omega) (by omega)]
                have k0 : (0 : Int) ≤ k := by omega
                have kF : (k : Int) < F := by omega
                have s0 : (0 : Int) ≤ s := by omega
                have s1 : (s : Int) < 96 := by omega
                have td0 : decide ((s : Int) < 0) = false := by simp
                have td1 : decide ((96 : Int) ≤ s) = false := by simp; omega
                have HS := Lib.hid (And.intro hs hsu)
                have hr2 : arB (l2.set s ⟨true, k, b, f, x⟩) = true := set_right h4 (by rw [may_true]; exact HVR.out)
                have HR2 := Lib.hid hr2
                have HD0 := Lib.hid (And.intro hb2 d0)
                have hnk : (s : Int) ∉ ks := by
                  intro hm
                  obtain ⟨n2, e2, hn2⟩ := HI3.out.2.2.2 _ hm
                  have : n2 = s := by omega
                  subst this
                  rw [hsu] at hn2; cases hn2
                have HNk := Lib.hid hnk
                clear h1 h2 h3 h4 h5 h6 hs hs96 hsu hE hK hL hp hb2 d0 hpu hr2 hnk
                go_wp2_with fail
                refine HPu.out.mono ?_
                rintro e w6 ⟨A5, c5, q5, rfl, hq5, ho5, hb6⟩
                have hl5 : q5.length = 96 := by rw [← ces_length, hq5]; exact arB_len HR2.out
                rw [hl5]
                obtain ⟨V, hV⟩ : ∃ V, V = w6.alloc (.cells #[.slice A5 96 c5] 24) := ⟨_, rfl⟩
                have hbV : Below w6.heap.size w6 V := by rw [hV]; exact (Below.refl _ w6).alloc (Nat.le_refl _) _
                have HBV := Lib.hid (hb6.trans (hbV.mono hb6.size))
                have HB6 := Lib.hid hb6.size
                have hcV : V.cell? ⟨w6.heap.size, 0, none⟩ = some (.slice A5 96 c5) := by rw [hV]; exact cell_laid _ _ _ 0
                have HX13 := Lib.hid (show Boxed V w6.heap.size 24 (.slice A5 96 c5) from by rw [hV]; exact Boxed.new w6 _ _)
                have hxV : Boxed V w.heap.size 24 (.slice (some ⟨b2, o2, none⟩) 96 c2) := (HBV.out.block _ HX1.out.lt).trans HX1.out
                have x0 := hxV.cell
                have x2 : V.cell? ⟨b2, o2 + s * 5, none⟩ = some (.bool false) := (HBV.out.cell (p := ⟨b2, _, none⟩) HD0.out.1).trans HD0.out.2
                have hmV : MapT V bm k ks := HI3.out.2.2.1.same (HBV.out.block _ HI3.out.2.2.1.lt)
                have hlk := hmV.look (i64_nat (k := s) (by omega)) HNk.out
                have HMV := Lib.hid hmV
                have HO5 := Lib.hid (ho5.below hbV)
                have HQ5 := Lib.hid hq5
                have HXV := Lib.hid hxV
                have HV := Lib.hid hV
                clear hV hbV hxV hmV ho5 hq5 hb6 hl5 c0 v1 v2 v3
                go_wp2_with (rw [← HV.out])
                obtain ⟨w7, hrun, hM7, hT7⟩ := MapT.store (w := V.drew) (show MapT V.drew bm k ks from HMV.out) (by omega) (i64_nat (k := s) (by omega))
                have ht7 : Turn (fun i => i = bm) V w7 := (Turn.of_below (S := fun i => i = bm) (below_drew (Below.refl _ V))).trans (turn_map hT7) (fun i hi => .inl hi)
                have hne : w.heap.size ≠ bm := by have := HSz.out.1; have := HZ0.out; omega
                have hne6 : w6.heap.size ≠ bm := by have := HSz.out.2; have := HMV.out.lt; have := HI3.out.2.2.1.lt; have := HB6.out; omega
                have hx7 : Boxed w7 w.heap.size 24 (.slice (some ⟨b2, o2, none⟩) 96 c2) := (ht7.block _ HXV.out.lt hne).trans HXV.out
                have y0 := hx7.cell
                have y1 := hx7.frozen
                have y2 : w7.cell? ⟨w6.heap.size, 0, none⟩ = some (.slice A5 96 c5) := Boxed.cell ((ht7.block _ HX13.out.lt hne6).trans HX13.out)
                have y3 : V.drew.cell? ⟨w6.heap.size, 0, none⟩ = some (.slice A5 96 c5) := hcV
                have HFin := Lib.hid (show FlI (fun i => i = w.heap.size ∨ i = bm) w.heap.size bm F W0 (k + 1) (l2.set s ⟨true, k, b, f, x⟩) (ks ++ [(s : Int)]) (w7.setCell ⟨w.heap.size, 0, none⟩ (.slice A5 96 c5)) from by
                  refine FlI.step HI3.out HS.out.1 HS.out.2 rfl (((HI3.out.1.below HBV.out).turned ht7 (fun i hi => .inr hi) hne).set (.inl rfl) ((own_areO HO5.out (fun i hi => by have := HSz.out; have := HI3.out.2.2.1.lt; have := HX1.out.lt; rcases hi with e | e <;> omega)).later (turn_sub ht7 (fun i hi => .inr hi))) HQ5.out HR2.out) (hM7.same (Below.heap_setCell _ _ _ _ (fun e => hne e.symm)))
                )
                clear hM7 hT7 ht7 hne hne6 hx7 hcV hlk
                go_region
                all_goals (
                  go_wp2
                  go_roundw
                  case rel => exact ⟨k + 1, _, _, by omega, by go_num, HFin⟩
                  case measure => simp [intOf]; omega)
              · obtain rfl : k = F := by omega
                have hf0 : freeN l2 = 0 := by have := HI3.out.2.1; omega
                have hE := put_none (b := b) (f := f) (x := x) h4 HVR.out hf0
                have HPu := Lib.hid (put_any A2 c2 q2 1 b f B cx x wr h5.now (HVx.out wr HBw.out) (u64_nat (k := 1) (by omega)) HFi.out.1 HFi.out.2)
                rw [h2, h3, hE, HNX.out] at HPu
                have hFa : freeA (ces q2) = 0 := by rw [h3]; unfold freeA; rw [if_pos h4, hf0]; rfl
                have HFr2 := Lib.hid (fun (X : World) (hX : Below wr.heap.size wr X) => show Calls Try.prog 18 #[.agg #[.slice A2 96 c2]] X (fun e w' => e = .returned (.int .i64 0) ∧ Below X.heap.size X w') from by
                  have := free_any A2 c2 q2 X (h5.now.below hX)
                  rw [h2, hFa] at this
                  exact this)
                clear h1 h2 h3 h4 h5 h6 hf0 hE hFa
                go_wp2_with fail
                refine HPu.out.mono ?_
                rintro e w6 ⟨A5, c5, q5, rfl, hq5, ho5, hb6⟩
                obtain ⟨m5, hm5⟩ : ∃ m5, m5 = q5.length := ⟨_, rfl⟩
                rw [← hm5]
                obtain ⟨V, hV⟩ : ∃ V, V = w6.alloc (.cells #[.slice A5 m5 c5] 24) := ⟨_, rfl⟩
                have hbV : Below w6.heap.size w6 V := by rw [hV]; exact (Below.refl _ w6).alloc (Nat.le_refl _) _
                have HBV := Lib.hid (hb6.trans (hbV.mono hb6.size))
                have hxV : Boxed V w.heap.size 24 (.slice A2 96 c2) := (HBV.out.block _ HX1.out.lt).trans HX1.out
                have x0 := hxV.cell
                have HV := Lib.hid hV
                clear hV hbV hxV hb6 ho5 hq5 c0 hm5
                go_wp2_with (first | (rw [← HV.out]) | (go_at_call 18; refine (HFr2.out V HBV.out).mono ?_; rintro e w7 ⟨rfl, hb7⟩; have HB7 := Lib.hid (HBw.out.trans ((HBV.out.trans (hb7.mono HBV.out.size)).mono HBw.out.size)); clear hb7))
                go_ret
                exact ⟨rfl, HB7.out⟩

set_option maxRecDepth 100000 in
theorem lifted (os : Os) (started : os.Started) (H : Type) (enc : TypeId × Value → H) :
    ReturnsInHanded {} Try.checked os 7 .any (Rows.arenaFillsSpec.pre6 enc Try.prog Try.f7 Rows.arenaFillsRow.domain false) (Rows.arenaFillsSpec.post enc Try.prog Try.f7 false true false false) := by
  refine returnsInHanded_of_change (C := Try.checked) Try.own started (by kernel_rfl) Try.func7
    (ChangeSpec.witness6 (enc := enc) (C := Try.checked) false ⟨#[], #[.agg #[.slice none 0 0], .agg #[.int .u64 0, .int .u64 0, .slice none 0 0], .slice none 0 0], []⟩ 8 (by kernel_rfl) (by kernel_rfl) (by kernel_rfl) (by kernel_rfl)) ?_
  intro W base args ds gs before hval0 hW hcnd _
  have hval : ∀ (j : Nat) t v, Try.f7.params[j]? = some t → args[j]? = some v → Value.okWide Try.prog W .any base t v := hval0
  have hW' := hW
  obtain ⟨p, q, hA0, hV, rfl, hfz, hnd⟩ := hW
  have hA : DataW.TrodAll enc Try.prog W 0 (fun _ => true) true Try.f7.params.toList args.toList ds p := hA0
  rw [Try.params7] at hA hval
  have hA' := hA
  obtain ⟨v0, vs0, d0, ds0, p0, q0, hargs, rfl, rfl, h0, r0⟩ := trodAll_cons hA
  obtain ⟨v1, vs1, d1, ds1, p1, q1, rfl, rfl, rfl, h1, r1⟩ := trodAll_cons r0
  obtain ⟨v2, vs2, d2, ds2, p2, q2, rfl, rfl, rfl, h2, r2⟩ := trodAll_cons r1
  obtain ⟨rfl, rfl, rfl⟩ := trodAll_nil r2
  obtain rfl : args = #[v0, v1, v2] := by cases args; simp_all
  obtain ⟨rfl, rfl⟩ := trodVars_none hV
  obtain ⟨A0, c0, z0, rfl, sl0⟩ := open_arena (hval 0 24 v0 rfl rfl) h0
  obtain ⟨b1, f1, A1, c1, z1, rfl, wb1, wf1, sl1⟩ := open_ver (hval 1 43 v1 rfl rfl) h1
  obtain ⟨A2, len2, c2, rfl⟩ := okWide_slice Try.underlying30 (hval 2 30 v2 rfl rfl)
  obtain ⟨z2, rfl, sl2⟩ := open_slots h2
  clear hA0 hval0
  refine (walk A0 c0 z0 sl0 b1 f1 A1 c1 z1 wb1 wf1 sl1 A2 c2 z2 sl2).mono fun e W' ⟨he, bel⟩ => ?_
  subst he
  exact ⟨_, rfl, _, _, _, [], _, [], hW', trodAll_mk1 (shut_bool Try.underlying4 _), trodAll_below bel _ _ _ _ (by kernel_rfl) hA', rfl, bel.frame _, fun h => by cases h⟩

theorem proved : Rows.ArenaFillsSaid :=
  OpenClaim.holds_of_wide 7 Try.f7 rfl rfl rfl rfl rfl rfl rfl ⟨rfl, rfl, rfl, rfl, rfl⟩ rfl rfl rfl rfl rfl (by kernel_rfl) Try.func7 (by kernel_rfl)
    (of_decide_eq_true (by kernel_rfl)) (by unfold Func.isWrapper; first | (rw [if_pos (by decide +kernel)]; kernel_rfl) | (rw [if_neg (by decide +kernel)]; exact ⟨rfl, rfl⟩))
    (fun os started H enc _ => lifted os started H enc)
#print axioms proved
end Go.Proofs.Ytpdebkpblpipcaa.arenaFills
