/-
  PrbAgr, PrbLawA, PrbLawL, PrbLawS, PrbLawT, PrbLawZ, PrbSeen.
-/
import Derived.Test.YtcekgllahlhaaaaGreatDoorMPrS
import Derived.Test.YtcekgllahlhaaaaGreatDoorMPrB
import Derived.Test.YtcekgllahlhaaaaGreatDoorMPrF
import Derived.Test.YtcekgllahlhaaaaGreatDoorMLis
import Derived.Test.YtcekgllahlhaaaaGreatDoorMMsl
namespace Go.Proofs.YtcekgllahlhaaaaGreatDoor
open Go.RowKit Go.Shelf
open TopL (HitM)
open MskL (Mk mv has hasB slotB Fine mk_fine has_mk)
set_option linter.unusedVariables false
set_option linter.unusedSimpArgs false
set_option maxRecDepth 100000

theorem has_B (m : Mk) (k : Nat) : hasB m (k : Int) = (decide (k < 96) && has m k) := by
  unfold hasB slotB
  rw [Int.toNat_natCast]
  congr 1
  rw [Bool.eq_iff_iff]
  simp
  try omega
/-- The rows that are visible at a time. -/
def visR (l : List Ce) (t : Int) : List Rv := inK (fun k : Nat => hasB (visM l t) (k : Int)) l l.length
theorem uni_has (C : List (List Int)) (l : List Ce) (v : List Int) (N : Int) (k : Nat) : has (MskL.mk fun n => (askI C v N).any fun p => has ((masksOf C l).getD p.toNat mz) n) k = (decide (k < 96) && ((ceAt l k).u && decide (nearM C (ceAt l k).x ∈ askM C v N))) := by
  by_cases hk : k < 96
  · rw [has_mk]
    congr 1
    unfold askI
    rw [List.any_map, Bool.eq_iff_iff, List.any_eq_true]
    have hg : ∀ p, p < C.length → (masksOf C l).getD p mz = maskOf C l p := by
      intro p hp
      unfold masksOf
      rw [List.getD, List.getElem?_map, List.getElem?_range hp]
      rfl
    constructor
    · rintro ⟨p, hp, h⟩
      have hp' := asked_mem hp
      simp only [Function.comp, Int.toNat_natCast] at h
      rw [hg p hp'] at h
      unfold maskOf at h
      rw [has_mk] at h
      unfold inP at h
      simp at h
      simp [h.2.1, h.2.2, hp]
    · intro h
      simp at h
      refine ⟨nearM C (ceAt l k).x, h.2, ?_⟩
      simp only [Function.comp, Int.toNat_natCast]
      rw [hg _ (asked_mem h.2)]
      unfold maskOf
      rw [has_mk]
      unfold inP
      simp [hk, h.1]
  · rw [has_mk]
    simp [hk]
theorem agr_rows (C : List (List Int)) (l : List Ce) (v : List Int) (N t : Int) : ∀ m, inK (fun k : Nat => hasB (srM C (masksOf C l) l v t N) (k : Int)) l m = belL C (askM C v N) (inK (fun k : Nat => hasB (visM l t) (k : Int)) l m) := by
  intro m
  induction m with
  | zero => rfl
  | succ m ih =>
    show inK _ l m ++ _ = belL C (askM C v N) (inK _ l m ++ _)
    rw [ih]
    unfold belL
    rw [List.filter_append]
    congr 1
    have e1 : hasB (srM C (masksOf C l) l v t N) (m : Int) = (decide (m < 96) && (((ceAt l m).u && decide (nearM C (ceAt l m).x ∈ askM C v N)) && has (visM l t) m)) := by
      rw [has_B]
      unfold srM lookM unionM
      rw [has_mk, uni_has]
      cases decide (m < 96) <;> simp
    simp only [e1, has_B]
    unfold inQ
    cases hu : (ceAt l m).u <;> cases h2 : decide (m < 96) <;> cases h3 : has (visM l t) m <;> cases h4 : decide (nearM C (ceAt l m).x ∈ askM C v N) <;> simp [h4]
theorem inK_mem {f : Nat → Bool} {l : List Ce} {p : Rv} : ∀ k, p ∈ inK f l k → ∃ j, j < k ∧ (ceAt l j).u = true ∧ p.2 = (ceAt l j).x := by
  intro k
  induction k with
  | zero => intro h; simp [inK] at h
  | succ k ih =>
    intro h
    change p ∈ inK f l k ++ _ at h
    rcases List.mem_append.1 h with h | h
    · obtain ⟨j, hj, h1⟩ := ih h; exact ⟨j, by omega, h1⟩
    · split at h
      · rename_i hc
        obtain rfl : p = ((ceAt l k).i, (ceAt l k).x) := by simpa using h
        refine ⟨k, by omega, ?_, rfl⟩
        simp at hc; exact hc.1
      · simp at h
/-- Just what is found among the rows that are visible. -/
theorem agrees {kq ts N : Int} {v : List Int} {C : List (List Int)} {l : List Ce} (hb : buildE C l = 0) (he : srE kq ts N v C (masksOf C l) l = 0) :
    prE kq N (visR l ts) C v = 0 ∧ prL kq N (visR l ts) C v = srL kq ts N v C (masksOf C l) l := by
  have hrows := agr_rows C l v N ts l.length
  have h0 := he
  unfold srE at h0
  by_cases hrs : rsE kq N v C (masksOf C l) l = 0
  · rw [if_pos hrs] at h0
    obtain ⟨hp, hok, hca, hce⟩ := rsE_ok hrs
    by_cases hd : dimC C = v.length
    · rw [if_pos hd] at h0
      have har := (chkA_iff l).1 hca
      have hfit : ∀ e ∈ l, fitsE C e = true := by
        unfold buildE at hb
        rw [if_pos har] at hb
        have hC := (cenE_ok hce).1
        split at hb
        · rw [if_neg (by omega)] at hb
          split at hb
          · rename_i h; exact List.all_eq_true.1 h
          · omega
        · omega
      have hdim : ∀ p ∈ visR l ts, p.2.length = dimC C := by
        intro p hp
        obtain ⟨j, hj, hu, e⟩ := inK_mem _ hp
        have := hfit _ (List.mem_of_getElem? (at_ce hj))
        unfold fitsE at this
        rw [hu] at this
        rw [e]
        simpa using this
      have hright : rightR (visR l ts) = true := inK_right har _ (Nat.le_refl _)
      have hbelE : belE C (visR l ts) = 0 := by
        unfold belE
        rw [if_pos]
        rw [List.all_eq_true]
        intro p hp
        simpa using hdim p hp
      have hrf : rfE kq N (visR l ts) C v = 0 := by
        unfold rfE
        rw [if_pos hp, if_pos hce, if_pos hright]
      obtain ⟨_, hq⟩ := chkP_ok hp
      have hsub : ∀ p ∈ belL C (askM C v N) (visR l ts), p ∈ visR l ts := fun p hp => (List.mem_filter.1 hp).1
      have hlen : (belL C (askM C v N) (visR l ts)).length ≤ 2000 := by
        have h1 := List.length_filter_le (fun p : Rv => inQ C (askM C v N) p.2) (visR l ts)
        have h2 := inK_len (fun k : Nat => hasB (visM l ts) (k : Int)) l l.length
        have h3 := arB_len har
        unfold belL visR at *
        omega
      have hrr : rowsE kq (belL C (askM C v N) (visR l ts)) v = 0 := by
        unfold rowsE refR fnearE
        rw [if_pos hq]
        have h1 : rightR (belL C (askM C v N) (visR l ts)) = true := by
          unfold rightR at *
          rw [List.all_eq_true] at *
          exact fun p hp => hright p (hsub p hp)
        have h2 : dimB (belL C (askM C v N) (visR l ts)) v = true := by
          unfold dimB
          rw [List.all_eq_true]
          intro p hp
          simpa [hd] using hdim p (hsub p hp)
        rw [if_pos h1, if_neg (show ¬ 2000 < (belL C (askM C v N) (visR l ts)).length by omega), if_pos h2]
        rfl
      have hpr : prE kq N (visR l ts) C v = 0 := by
        unfold prE
        rw [if_pos hrf, if_pos hd, if_pos hbelE]
        exact hrr
      refine ⟨hpr, ?_⟩
      unfold prL srL
      rw [if_pos hpr, if_pos he]
      unfold rowsL scanL
      rw [if_pos hrr, if_pos h0, hrows]
      rfl
    · rw [if_neg hd] at h0; omega
  · rw [if_neg hrs] at h0; exact absurd h0 hrs
end Go.Proofs.YtcekgllahlhaaaaGreatDoor

namespace Go.Proofs.YtcekgllahlhaaaaGreatDoor
open Go.RowKit Go.Shelf
set_option linter.unusedVariables false
set_option linter.unusedSimpArgs false
set_option maxRecDepth 100000

def cutE (e : Ce) : Ce := { e with x := e.x.take 5 }
def cutA (l : List Ce) : List Ce := (l.take 97).map cutE
theorem cutA_at {l : List Ce} {k : Nat} {e : Ce} (h : l[k]? = some e) (hk : k < 97) : (cutA l)[k]? = some (cutE e) := by
  unfold cutA; rw [List.getElem?_map, List.getElem?_take_of_lt hk, h]; rfl
theorem cutA_len (l : List Ce) : (cutA l).length = min 97 l.length := by simp [cutA]
theorem apart_rowA {base base' : Nat} {w : World} {A B : Option Addr} {c n cb : Nat} {l : List Value} {xs : List Int} (h : w.ownsRow base 61 5 (.slice A n c) n l) (hB : OwnV base' w B cb xs) : ∀ i, blk B = some i → blk A ≠ some i := by
  intro i hi ha
  rcases hB.1.2 with ⟨e, h0⟩ | ⟨g, cap, cur, e, hg, hh, _⟩
  · injection e with e1; rw [e1] at hi; cases hi
  · injection e with e1
    rw [e1] at hi
    rcases h.2 with ⟨e', _⟩ | ⟨g', cap', cur', e', _, hh', _⟩
    · injection e' with e1'; rw [e1'] at ha; cases ha
    · injection e' with e1'
      rw [e1'] at ha
      have h1 : g = i := by simpa [blk] using hi
      have h2 : g' = i := by simpa [blk] using ha
      subst h1 h2
      rw [hh] at hh'
      injection hh' with hh'
      injection hh' with _ ht _
      exact absurd ht (by decide)
/-- Cells of the call's own, so far; the slice lies in a box. -/
def ArI (w : World) (l : List Ce) (n : Nat) (A1 : Option Addr) (c1 : Nat) (wr : World) : Prop :=
  ∃ q, List.length q = n ∧ ces q = l.take n ∧ OwnA (w.heap.size + 3) wr A1 c1 q ∧ Boxed wr (w.heap.size + 2) 24 (.slice A1 n c1) ∧ Boxed wr (w.heap.size + 1) 24 (.slice none 0 0) ∧ Below w.heap.size w wr
theorem ArI.below {w wr W : World} {l : List Ce} {n : Nat} {A1 : Option Addr} {c1 : Nat} (h : ArI w l n A1 c1 wr) (hb : Below wr.heap.size wr W) : ArI w l n A1 c1 W := by
  obtain ⟨q, h1, h2, h3, h4, h5, h6⟩ := h
  exact ⟨q, h1, h2, h3.below hb, (hb.block _ h4.lt).trans h4, (hb.block _ h5.lt).trans h5, h6.trans (hb.mono h6.size)⟩
theorem ar_step {w wr W7 : World} {l : List Ce} {n : Nat} {A1 : Option Addr} {c1 : Nat} {p : Pa} (h : ArI w l n A1 c1 wr) (hl : l[n]? = some p.e) (hf : Fit p.e) (h7 : Below wr.heap.size wr W7) (hv : OwnV (w.heap.size + 3) W7 p.B p.c p.e.x) :
    ∃ vs, W7.ownsRow (w.heap.size + 3) 61 5 (.slice A1 n c1) n vs ∧ w.heap.size + 3 ≤ W7.heap.size ∧
      ∀ A9 c9 w8, w8.ownsRow (w.heap.size + 3) 61 5 (.slice A9 (n + 1) c9) (n + 1) (vs ++ flatA [p]) → W7.grownBy w8 (blk A1) →
        Boxed w8 (w.heap.size + 2) 24 (.slice A1 n c1) ∧ ArI w l (n + 1) A9 c9 (w8.setCell ⟨w.heap.size + 2, 0, none⟩ (.slice A9 (n + 1) c9)) := by
  obtain ⟨q, h1, h2, h3, h4, h5, h6⟩ := h.below h7
  subst h1
  refine ⟨flatA q, h3.row, h4.lt, fun A9 c9 w8 ho hg => ?_⟩
  have hA : ∀ i, blk A1 = some i → w.heap.size + 3 ≤ i ∧ i < W7.heap.size := fun i hi => World.ownsRow.lt h3.row i (by rw [own_blk]; exact hi)
  have t : Turn (fun i => blk A1 = some i) W7 w8 := Turn.of_grown hg (fun i hi => .inl hi)
  have b2 : Boxed w8 (w.heap.size + 2) 24 (.slice A1 q.length c1) := (t.block _ h4.lt (fun e => by have := hA _ e; omega)).trans h4
  have b1 : Boxed w8 (w.heap.size + 1) 24 (.slice none 0 0) := (t.block _ h5.lt (fun e => by have := hA _ e; omega)).trans h5
  refine ⟨b2, q ++ [p], by simp, ?_, ⟨?_, ?_, ?_⟩, b2.set _, ?_, ?_⟩
  · rw [ces_append, h2, List.take_add_one, hl]; rfl
  · rw [List.length_append, flatA_append]
    exact row_turn ho (turn_set _ _ _ _) (fun i hi e => by have := (World.ownsRow.lt ho i hi).1; omega)
  · intro x hx
    have hx7 : OwnV (w.heap.size + 3) W7 x.B x.c x.e.x := by
      rcases List.mem_append.1 hx with hx | hx
      · exact h3.el x hx
      · obtain rfl : x = p := by simpa using hx
        exact hv
    have hx8 : OwnV (w.heap.size + 3) w8 x.B x.c x.e.x := ⟨row_turn hx7.1 t (fun i hi => by rw [own_blk] at hi; exact fun e => apart_rowA h3.row hx7 i hi e), hx7.2⟩
    exact ⟨row_turn hx8.1 (turn_set _ _ _ _) (fun i hi e => by have := (World.ownsRow.lt hx8.1 i hi).1; omega), hx8.2⟩
  · intro x hx
    rcases List.mem_append.1 hx with hx | hx
    · exact h3.fit x hx
    · obtain rfl : x = p := by simpa using hx
      exact hf
  · exact (Below.heap_setCell _ _ _ _ (by simp)).trans b1
  · exact (h6.trans (t.below h6.size (fun i hi => by have := hA i hi; omega))).setCell (by simp) _

theorem ar_mid {base : Nat} {wr V w5 W6 W7 : World} {p : Pa} {A5 : Option Addr} {c5 m : Nat} {c0 : Value} (hm : m = (p.e.x.take 5).length) (hfit : ∀ y ∈ p.e.x.take 5, (Lit.int .i32 y).wf = true)
    (hbV : Below wr.heap.size wr V) (hlt : wr.heap.size < V.heap.size) (h3 : base ≤ wr.heap.size) (h5 : Below V.heap.size V w5)
    (ho : w5.ownsRow V.heap.size 21 1 (.slice A5 m c5) m ((p.e.x.take 5).map (Value.int .i32)))
    (hc : w5.heap[wr.heap.size]? = some (.cells #[.bool p.e.u, .int .u64 p.e.i, .int .u64 p.e.b, .int .u64 p.e.f, c0] 61 (0, 0)))
    (hW6 : W6 = w5.setCell ⟨wr.heap.size, 4, none⟩ (.slice A5 m c5)) (hW7 : W7 = W6.alloc (.cells #[.bool p.e.u, .int .u64 p.e.i, .int .u64 p.e.b, .int .u64 p.e.f, .slice A5 m c5] 61)) :
    W6.heap[wr.heap.size]? = some (.cells #[.bool p.e.u, .int .u64 p.e.i, .int .u64 p.e.b, .int .u64 p.e.f, .slice A5 m c5] 61 (0, 0)) ∧
    Read W7 (some ⟨W6.heap.size, 0, none⟩) 1 5 (flatA [⟨cutE p.e, A5, c5⟩]) ∧ Below wr.heap.size wr W7 ∧ OwnV base W7 A5 c5 (p.e.x.take 5) := by
  have h6 : W6.heap[wr.heap.size]? = some (.cells #[.bool p.e.u, .int .u64 p.e.i, .int .u64 p.e.b, .int .u64 p.e.f, .slice A5 m c5] 61 (0, 0)) := by
    rw [hW6]; exact heap_setCell_same _ _ 4 _ _ _ hc
  have h7 : W7.heap[W6.heap.size]? = some (.cells #[.bool p.e.u, .int .u64 p.e.i, .int .u64 p.e.b, .int .u64 p.e.f, .slice A5 m c5] 61 (0, 0)) := by
    rw [hW7]; exact heap_alloc_new _ _
  have t6 : Turn (fun i => i = wr.heap.size) w5 W6 := by rw [hW6]; exact turn_set _ _ _ _
  have b7 : Below W6.heap.size W6 W7 := by rw [hW7]; exact bn1 _ _
  have t7 : Turn (fun i => i = wr.heap.size) w5 W7 := t6.trans (Turn.of_below (S := fun _ => False) b7) (fun i hi => hi.elim)
  have h15 : Below wr.heap.size wr w5 := hbV.trans (h5.mono hbV.size)
  refine ⟨h6, ?_, h15.trans (t7.below h15.size (fun i hi => by omega)), ?_, hfit⟩
  · subst hm
    exact Read.cell (p := ⟨cutE p.e, A5, c5⟩) ((cell_of_row _ _ 0 _ _ _ h7).trans rfl) ((cell_of_row _ _ 1 _ _ _ h7).trans rfl) ((cell_of_row _ _ 2 _ _ _ h7).trans rfl) ((cell_of_row _ _ 3 _ _ _ h7).trans rfl) ((cell_of_row _ _ 4 _ _ _ h7).trans rfl)
  · subst hm
    exact World.ownsRow.mono (row_turn ho t7 (fun i hi e => by have := (World.ownsRow.lt ho i hi).1; omega)) (by omega)

set_option maxHeartbeats 4000000 in
theorem arenaO_any (A : Option Addr) (c : Nat) (q : List Pa) (w : World) (h : Are w A c q) :
    Calls Tryz.prog 5 #[.agg #[.slice A q.length c]] w fun e w' => ∃ A' c' q', e = .returned (.agg #[.slice A' (List.length q') c']) ∧ ces q' = cutA (ces q) ∧ OwnA w.heap.size w' A' c' q' ∧ Below w.heap.size w w' := by
  obtain ⟨n, hn⟩ : ∃ n, n = q.length := ⟨_, rfl⟩
  have hmx : n ≤ 9223372036854775807 := by rw [hn]; exact h.many
  obtain ⟨W0, hW0⟩ : ∃ W0, W0 = ((w.alloc (.cells #[.slice A n c] 24)).alloc (.cells #[.slice none 0 0] 24)).alloc (.cells #[.slice none 0 0] 24) := ⟨_, rfl⟩
  have hb0 : Below w.heap.size w W0 := by rw [hW0]; exact (((Below.refl _ w).alloc (Nat.le_refl _) _).alloc (by simp) _).alloc (by simp; omega) _
  have hx0 : Boxed W0 w.heap.size 24 (.slice A n c) := by rw [hW0]; exact ((Boxed.new w 24 (.slice A n c)).alloc _).alloc _
  have hx1 : Boxed W0 (w.heap.size + 1) 24 (.slice none 0 0) := by
    rw [hW0]
    have := (Boxed.new (w.alloc (.cells #[.slice A n c] 24)) 24 (.slice none 0 0)).alloc (.cells #[.slice none 0 0] 24)
    rwa [World.size_alloc] at this
  have hx2 : Boxed W0 (w.heap.size + 2) 24 (.slice none 0 0) := by
    rw [hW0]
    have := Boxed.new ((w.alloc (.cells #[.slice A n c] 24)).alloc (.cells #[.slice none 0 0] 24)) 24 (.slice none 0 0)
    rwa [World.size_alloc, World.size_alloc] at this
  have HI0 := Lib.hid (show ArI w (cutA (ces q)) 0 none 0 W0 from ⟨[], rfl, rfl, OwnA.nil _ _, hx2, hx1, hb0⟩)
  have HW := Lib.hid hW0
  have HA := Lib.hid (fun (X : World) (hX : Below w.heap.size w X) => h.below hX)
  have HN := Lib.hid hn
  have u0 := hx0.cell
  rw [← hn]
  clear h hn hW0 hb0 hx0 hx1 hx2
  go_enter Tryz.func5, Tryz.ntmps5
  go_wp2_with (rw [← HW.out])
  go_loopw [9] (fun i wr => ∃ (k n1 : Nat) (A1 : Option Addr) (c1 : Nat), k ≤ n ∧ i = .int .i64 k ∧ n1 = min k 97 ∧ Hid (ArI w (cutA (ces q)) n1 A1 c1 wr)) (fun i _ => n - (intOf i).toNat)
  case atStart => exact ⟨0, 0, none, 0, Nat.zero_le _, rfl, rfl, by first | exact HI0 | (rw [← HW.out]; exact HI0)⟩
  case round =>
    obtain ⟨k, n1, A1, c1, hk, rfl, hn1, HI⟩ := hrel
    have HN1 := Lib.hid hn1
    by_cases hkn : k < n
    · have hbw : Below w.heap.size w wr := by obtain ⟨_, _, _, _, _, _, h6⟩ := HI.out; exact h6
      obtain ⟨b, o, p, rfl, hp, hb, d0, d1, d2, d3, d4, hvx, hfit⟩ := (HA.out wr hbw).at_ (i := k) (by rw [← HN.out]; exact hkn)
      obtain ⟨xl, hxl⟩ : ∃ xl, xl = p.e.x.length := ⟨_, rfl⟩
      rw [← hxl] at d4
      obtain ⟨V, hV⟩ : ∃ V, V = wr.alloc (.cells #[.bool p.e.u, .int .u64 p.e.i, .int .u64 p.e.b, .int .u64 p.e.f, .slice p.B xl p.c] 61) := ⟨_, rfl⟩
      obtain ⟨g, hg⟩ : ∃ g, g = wr.heap.size := ⟨_, rfl⟩
      have hbV : Below wr.heap.size wr V := by rw [hV]; exact bn1 _ _
      have hxV : V.heap[g]? = some (.cells #[.bool p.e.u, .int .u64 p.e.i, .int .u64 p.e.b, .int .u64 p.e.f, .slice p.B xl p.c] 61 (0, 0)) := by rw [hV, hg]; exact heap_alloc_new _ _
      have k0 : (0 : Int) ≤ k := by omega
      have kn : (k : Int) < n := by omega
      have HVV := Lib.hid hV
      have HG := Lib.hid hg
      by_cases hk97 : k < 97
      · have t1 : decide ((k : Int) ≤ 96) = true := by simp; omega
        obtain rfl : n1 = k := by omega
        clear hn1
        obtain ⟨m, hm⟩ : ∃ m, m = (p.e.x.take 5).length := ⟨_, rfl⟩
        have hmn : m = min xl 5 := by rw [hm, List.length_take, hxl]; omega
        have hmin : min (xl : Int) 5 = (m : Int) := by omega
        have HR := Lib.hid (show Read V p.B m 1 ((p.e.x.take 5).map (Value.int .i32)) from by rw [hm]; exact Read.vec ((hvx.below hbV).cut 5))
        have hIV := HI.out.below hbV
        have hbV2 : w.heap.size + 2 < wr.heap.size := by obtain ⟨_, _, _, _, h4, _, _⟩ := HI.out; exact h4.lt
        have HOut := Lib.hid (fun (X : World) (hX : Below V.heap.size V X) => show Boxed X (w.heap.size + 2) 24 (.slice A1 n1 c1) from by obtain ⟨_, _, _, _, h4, _, _⟩ := hIV.below hX; exact h4)
        have HVc := Lib.hid (fun (X : World) (hX : Below V.heap.size V X) => show X.heap[wr.heap.size]? = some (.cells #[.bool p.e.u, .int .u64 p.e.i, .int .u64 p.e.b, .int .u64 p.e.f, .slice p.B xl p.c] 61 (0, 0)) from by rw [← hg]; exact (hX.block _ (lt_of_block hxV)).trans hxV)
        have hcut : (cutA (ces q))[n1]? = some (cutE p.e) := cutA_at (ces_at hp) hk97
        have HF := Lib.hid (fun y (hy : y ∈ p.e.x.take 5) => hvx.fit y (List.mem_of_mem_take hy))
        have HSt := Lib.hid (fun (W7 : World) (h7 : Below wr.heap.size wr W7) (A5 : Option Addr) (c5 : Nat) (hv : OwnV (w.heap.size + 3) W7 A5 c5 (p.e.x.take 5)) => ar_step (p := ⟨cutE p.e, A5, c5⟩) HI.out hcut hfit h7 hv)
        have HM := Lib.hid hm
        have HbV := Lib.hid hbV
        have n1' : ¬ w.heap.size + 2 = wr.heap.size := by omega
        have n2' : ¬ wr.heap.size = w.heap.size + 2 := by omega
        have HVs := Lib.hid (show wr.heap.size < V.heap.size from by rw [← hg]; exact lt_of_block hxV)
        have hrd := hvx.rd
        have hroom := hvx.room
        have hmost := hvx.most
        rw [← hxl] at hrd hroom
        clear hp hb hvx hfit hxl hV hg hbV hxV hIV hcut hm hbw
        have HPB := Lib.hid (show 0 < xl → p.B ≠ none from fun h => by obtain ⟨b, o, e, _⟩ := hrd h; rw [e]; simp)
        clear hrd
        cases hB : p.B with
        | none =>
          have hx0 : xl = 0 := by
            rcases Nat.eq_zero_or_pos xl with h | h
            · exact h
            · exact absurd hB (HPB.out h)
          have hm0 : m = 0 := by omega
          subst hx0 hm0
          rw [hB] at HR HVV d4 HVc
          clear hmn hB
          have cV := HVc.out V (Below.refl _ _)
          have v4 := (cell_of_row _ _ 4 _ _ _ cV).trans rfl
          clear cV
          go_wp2_with (first
            | (rw [← HVV.out])
            | (at_builtin; refine gapp_at rfl (.const (.slice none 0 0)) (.tmp 24) appI rfl V.heap.size none 0 0 [] rfl (World.ownsRow_nil _ _ _ _) none p.c 0 ((p.e.x.take 5).map (Value.int .i32)) rfl HR.out (by omega) (Nat.le_refl _) ?_
               intro A5 c5 w5 ho5 hg5 _
               rw [Nat.zero_add, List.nil_append] at ho5
               rw [Nat.zero_add]
               have hb5 : Below V.heap.size V w5 := (Below.refl _ V).grown hg5 (Nat.le_refl _) (fun k hk => by simp [blk] at hk)
               have hc5 := HVc.out w5 hb5
               have f4 : w5.frozen? ⟨wr.heap.size, 4, none⟩ = false := frozen_of_row _ _ _ _ _ hc5
               have k4 := (cell_of_row _ _ 4 _ _ _ hc5).trans rfl
               obtain ⟨W6, hW6⟩ : ∃ W, W = w5.setCell ⟨wr.heap.size, 4, none⟩ (.slice A5 0 c5) := ⟨_, rfl⟩
               obtain ⟨W7, hW7⟩ : ∃ W, W = W6.alloc (.cells #[.bool p.e.u, .int .u64 p.e.i, .int .u64 p.e.b, .int .u64 p.e.f, .slice A5 0 c5] 61) := ⟨_, rfl⟩
               obtain ⟨hc6, hrd7, hb7, hv7⟩ := ar_mid (base := w.heap.size + 3) HM.out HF.out HbV.out HVs.out (by omega) hb5 ho5 hc5 hW6 hW7
               have q0 := (cell_of_row _ _ 0 _ _ _ hc6).trans rfl
               have q1 := (cell_of_row _ _ 1 _ _ _ hc6).trans rfl
               have q2 := (cell_of_row _ _ 2 _ _ _ hc6).trans rfl
               have q3 := (cell_of_row _ _ 3 _ _ _ hc6).trans rfl
               have q4 := (cell_of_row _ _ 4 _ _ _ hc6).trans rfl
               have r0 := (HOut.out w5 hb5).cell
               have HRD := Lib.hid hrd7
               have HBB := Lib.hid hb7
               have HVV7 := Lib.hid hv7
               have HW6 := Lib.hid hW6
               have HW7 := Lib.hid hW7
               have r6 : W6.cell? ⟨w.heap.size + 1 + 1, 0, none⟩ = some (.slice A1 n1 c1) := by rw [hW6]; exact (Boxed.cell ((Below.heap_setCell _ _ _ _ (by simpa using n1')).trans (HOut.out w5 hb5)))
               clear ho5 hg5 hb5 hc5 hW6 hW7 hc6 hrd7 hb7 hv7 r0)
            | (rw [← HW6.out])
            | (rw [← HW7.out])
            | (obtain ⟨vs, ho7, hs7, hst⟩ := HSt.out W7 HBB.out A5 c5 HVV7.out
               at_builtin; refine gapp_at rfl (.tmp 29) (.tmp 31) appA rfl (w.heap.size + 3) A1 c1 n1 vs rfl ho7 (some ⟨W6.heap.size, 0, none⟩) 1 1 _ rfl HRD.out (by omega) hs7 ?_
               intro A9 c9 w8 ho8 hg8 _
               obtain ⟨hbx, hA9⟩ := hst A9 c9 w8 ho8 hg8
               have c8 : w8.cell? ⟨w.heap.size + 1 + 1, 0, none⟩ = some (.slice A1 n1 c1) := hbx.cell
               have g8 : w8.frozen? ⟨w.heap.size + 1 + 1, 0, none⟩ = false := hbx.frozen
               have HA9 := Lib.hid hA9
               clear ho7 hs7 hst ho8 hg8 hbx hA9)
            | fail)
          go_roundw
          case rel => exact ⟨n1 + 1, n1 + 1, A9, c9, by omega, by go_num, by omega, HA9⟩
          case measure => simp [intOf]; omega
        | some ad =>
          obtain ⟨b1, o1, sp⟩ := ad
          have hmc : m ≤ p.c := by omega
          have m0 : (0 : Int) ≤ m := by omega
          have mc : (m : Int) ≤ p.c := by omega
          have mn : (m : Int) ≤ xl := by omega
          rw [hB] at HR HVV d4 HVc
          clear hmn hB
          have cV := HVc.out V (Below.refl _ _)
          have v4 := (cell_of_row _ _ 4 _ _ _ cV).trans rfl
          clear cV
          go_wp2_with (first
            | (rw [← HVV.out])
            | (at_builtin; refine gapp_at rfl (.const (.slice none 0 0)) (.tmp 24) appI rfl V.heap.size none 0 0 [] rfl (World.ownsRow_nil _ _ _ _) (some ⟨b1, o1, sp⟩) p.c m ((p.e.x.take 5).map (Value.int .i32)) rfl HR.out (by omega) (Nat.le_refl _) ?_
               intro A5 c5 w5 ho5 hg5 _
               rw [Nat.zero_add, List.nil_append] at ho5
               rw [Nat.zero_add]
               have hb5 : Below V.heap.size V w5 := (Below.refl _ V).grown hg5 (Nat.le_refl _) (fun k hk => by simp [blk] at hk)
               have hc5 := HVc.out w5 hb5
               have f4 : w5.frozen? ⟨wr.heap.size, 4, none⟩ = false := frozen_of_row _ _ _ _ _ hc5
               have k4 := (cell_of_row _ _ 4 _ _ _ hc5).trans rfl
               obtain ⟨W6, hW6⟩ : ∃ W, W = w5.setCell ⟨wr.heap.size, 4, none⟩ (.slice A5 m c5) := ⟨_, rfl⟩
               obtain ⟨W7, hW7⟩ : ∃ W, W = W6.alloc (.cells #[.bool p.e.u, .int .u64 p.e.i, .int .u64 p.e.b, .int .u64 p.e.f, .slice A5 m c5] 61) := ⟨_, rfl⟩
               obtain ⟨hc6, hrd7, hb7, hv7⟩ := ar_mid (base := w.heap.size + 3) HM.out HF.out HbV.out HVs.out (by omega) hb5 ho5 hc5 hW6 hW7
               have q0 := (cell_of_row _ _ 0 _ _ _ hc6).trans rfl
               have q1 := (cell_of_row _ _ 1 _ _ _ hc6).trans rfl
               have q2 := (cell_of_row _ _ 2 _ _ _ hc6).trans rfl
               have q3 := (cell_of_row _ _ 3 _ _ _ hc6).trans rfl
               have q4 := (cell_of_row _ _ 4 _ _ _ hc6).trans rfl
               have r0 := (HOut.out w5 hb5).cell
               have HRD := Lib.hid hrd7
               have HBB := Lib.hid hb7
               have HVV7 := Lib.hid hv7
               have HW6 := Lib.hid hW6
               have HW7 := Lib.hid hW7
               have r6 : W6.cell? ⟨w.heap.size + 1 + 1, 0, none⟩ = some (.slice A1 n1 c1) := by rw [hW6]; exact (Boxed.cell ((Below.heap_setCell _ _ _ _ (by simpa using n1')).trans (HOut.out w5 hb5)))
               clear ho5 hg5 hb5 hc5 hW6 hW7 hc6 hrd7 hb7 hv7 r0)
            | (rw [← HW6.out])
            | (rw [← HW7.out])
            | (obtain ⟨vs, ho7, hs7, hst⟩ := HSt.out W7 HBB.out A5 c5 HVV7.out
               at_builtin; refine gapp_at rfl (.tmp 29) (.tmp 31) appA rfl (w.heap.size + 3) A1 c1 n1 vs rfl ho7 (some ⟨W6.heap.size, 0, none⟩) 1 1 _ rfl HRD.out (by omega) hs7 ?_
               intro A9 c9 w8 ho8 hg8 _
               obtain ⟨hbx, hA9⟩ := hst A9 c9 w8 ho8 hg8
               have c8 : w8.cell? ⟨w.heap.size + 1 + 1, 0, none⟩ = some (.slice A1 n1 c1) := hbx.cell
               have g8 : w8.frozen? ⟨w.heap.size + 1 + 1, 0, none⟩ = false := hbx.frozen
               have HA9 := Lib.hid hA9
               clear ho7 hs7 hst ho8 hg8 hbx hA9)
            | fail)
          go_roundw
          case rel => exact ⟨n1 + 1, n1 + 1, A9, c9, by omega, by go_num, by omega, HA9⟩
          case measure => simp [intOf]; omega
      · have t1 : decide ((k : Int) ≤ 96) = false := by simp; omega
        have HI2 := Lib.hid (HI.out.below hbV)
        clear hp hb hvx hfit hxl hV hg hbV hxV hbw hn1
        go_wp2_with (rw [← HVV.out])
        go_roundw
        case rel => exact ⟨k + 1, n1, A1, c1, by omega, by go_num, by have := HN1.out; omega, by first | exact HI2 | (rw [← HVV.out]; exact HI2)⟩
        case measure => simp [intOf]; omega
    · obtain rfl : k = n := by omega
      obtain ⟨q1, e1, e2, e3, e4, e5, e6⟩ := HI.out
      have b2 := e4.cell
      have b1 := e5.cell
      have f1 := e5.frozen
      have hz := (show Boxed (wr.setCell ⟨w.heap.size + 1, 0, none⟩ (.slice A1 n1 c1)) (w.heap.size + 1) 24 (.slice A1 n1 c1) from e5.set _).cell
      have hF := (e3.turn (turn_set wr (w.heap.size + 1) 0 (.slice A1 n1 c1)) (fun i hi _ e => by omega)).mono (show w.heap.size ≤ w.heap.size + 3 by omega)
      have HF := Lib.hid (And.intro e1 (And.intro e2 (And.intro hF (e6.setCell (p := ⟨w.heap.size + 1, 0, none⟩) (by simp) (.slice A1 n1 c1)))))
      clear e1 e2 e3 e4 e5 e6 hF hn1
      go_wp2
      refine bodyPost_ret (v := .agg #[.slice A1 n1 c1]) (by simp [results, Tryz.results5, go_sem, hz]) rfl ?_
      refine ⟨A1, c1, q1, by rw [HF.out.1], ?_, HF.out.2.2.1, HF.out.2.2.2⟩
      rw [HF.out.2.1]
      refine List.take_of_length_le ?_
      rw [cutA_len, ces_length, ← HN.out]
      have := HN1.out
      omega

end Go.Proofs.YtcekgllahlhaaaaGreatDoor

namespace Go.Proofs.YtcekgllahlhaaaaGreatDoor
open Go.RowKit Go.Shelf
open MskL (Mk mv mk has MRow Ms Fine fillR setL setF setL_same setL_other setF_same setF_other)
set_option linter.unusedVariables false
set_option linter.unusedSimpArgs false
set_option maxRecDepth 100000

/-! ### append onto an empty row without room -/
theorem run_gapp0 {w : World} {t e : TypeId} {size bytes : Nat} (hT : AppT Tryz.prog t e size bytes) (ty : TypeId) (base : Nat) (A0 : Option Addr) (hown : w.ownsRow base e size (.slice A0 0 0) 0 [])
    (A : Option Addr) (c m : Nat) (news : List Value) (hr : Read w A m size news) (hbig : m ≤ 1099511627776) (hbase : base ≤ w.heap.size) :
    ∃ A1 c1 w', (Builtin.append_ #[t, t] ty #[.slice A0 0 0, .slice A m c]).run Tryz.prog w = .ok (.slice A1 m c1) w' ∧ w'.ownsRow base e size (.slice A1 m c1) m news ∧ Below w.heap.size w w' := by
  obtain ⟨A1, c1, w', hrun, h1, h2, _⟩ := run_gapp hT ty base A0 0 0 [] hown A c m news hr (by omega) hbase
  rw [Nat.zero_add] at hrun h1
  rw [List.nil_append] at h1
  refine ⟨A1, c1, w', hrun, h1, ?_⟩
  rcases hown.2 with ⟨e1, _⟩ | ⟨g, cap, cur, e1, _, hg, _, _, hcs, _⟩
  · injection e1 with e1
    subst e1
    exact (Below.refl _ w).grown h2 (Nat.le_refl _) (fun k hk => by simp [blk] at hk)
  · injection e1 with e1 _ e3
    subst e1
    subst e3
    obtain ⟨ht, i0, z, hi, hz0, hz1, hz2, hz3, hz4, hz5⟩ := hT
    obtain ⟨hl, hone, hn, hrd⟩ := hr
    have hcur : cur = #[] := Array.eq_empty_of_size_eq_zero (by rw [hcs]; omega)
    rcases A with _ | ad
    · obtain rfl := hn rfl
      simp [Builtin.append_, run_underlying ht, sizeOf, typeInfo, hi, Builtin.lenOf, Builtin.firstCells, storeCells] at hrun
      rw [← hrun.2]
      exact Below.refl _ _
    · by_cases hm : m = 0
      · subst hm
        obtain rfl : news = [] := List.eq_nil_of_length_eq_zero (by simpa using hl)
        have hr0 := run_append_room (P := Tryz.prog) w t ty e i0 ht hi g 0 0 cur hg ad 0 c [] (by simp) (hrd ad rfl) hone (Nat.le_refl _) (by simp)
        rw [hrun] at hr0
        injection hr0 with _ hr0
        subst hr0
        refine ⟨rfl, rfl, rfl, by simp, fun k hk => ?_⟩
        by_cases hkg : k = g
        · subst hkg
          rw [setRow_heap w k cur _ e _ hg, hg, hcur]
          simp
        · exact setRow_other _ _ _ _ hkg
      · have hb : m * i0.bytes ≤ 140737488355328 := by
          have : m * i0.bytes ≤ 1099511627776 * 100 := Nat.mul_le_mul hbig (by omega)
          omega
        have hr0 := run_append_grow (P := Tryz.prog) w t ty e i0 z ht hi hz0 ⟨g, 0, none⟩ 0 0 [] (by simp) (by simp) ad m c news (by rw [hl, hz1]) (hrd ad rfl) (by omega) (by omega) (growslice_fits (by omega) (by simpa using hb))
        rw [hrun] at hr0
        injection hr0 with _ hr0
        subst hr0
        exact ((below_drew (Below.refl _ w)).alloc (Nat.le_refl _) _)
theorem gapp0_rel {w : World} {ops : Array Oper} {o : Oper} {a : Act} {K : Act → World → Prop} {Q : Exit → Act → World → Prop} (hgd : o.guard = none) (s x : Operand) {t e : TypeId} {size bytes : Nat} (hT : AppT Tryz.prog t e size bytes)
    (ho : o.op = .call { callee := .builtin .append, args := #[s, x], argTypes := #[t, t] })
    (base : Nat) (A0 : Option Addr) (hs : a.eval s = .slice A0 0 0) (hown : w.ownsRow base e size (.slice A0 0 0) 0 [])
    (A : Option Addr) (c m : Nat) (news : List Value) (hx : a.eval x = .slice A m c) (hr : Read w A m size news) (hbig : m ≤ 1099511627776) (hbase : base ≤ w.heap.size)
    (h : ∀ A1 c1 w', w'.ownsRow base e size (.slice A1 m c1) m news → Below w.heap.size w w' → K (a.put o.dst (.slice A1 m c1)) w') :
    Region.wanted o (yielded ops a.tmps) = true ∧ Oper.wp Tryz.prog o a w K Q := by
  refine ⟨by simp [Region.wanted, hgd], ?_⟩
  obtain ⟨A1, c1, w', hrun, h1, h2⟩ := run_gapp0 hT o.type base A0 hown A c m news hr hbig hbase
  unfold Oper.wp
  simp [execOp, ho, resolve, invoke, builtin, hs, hx, hrun, Result.andThen]
  exact h A1 c1 w' h1 h2

namespace MskL
open Go Go.RowKit
theorem allR_all (p : Nat → Oper → Prop) : ∀ (l : List Oper) (i : Nat), (∀ j o, l[j]? = some o → p (i + j) o) → allR p i l
  | [], _, _ => trivial
  | o :: r, i, h => ⟨by simpa using h 0 o rfl, allR_all p r (i + 1) fun j x hx => by have := h (j + 1) x (by simpa using hx); rwa [Nat.add_assoc, Nat.add_comm 1 j]⟩
/-- A region that draws its order, whose last operation waits for all the others. -/
theorem region_relS {P : Program} {Q : Exit → Act → World → Prop} {id : Nat} {l : List Oper} {a : Act} {w : World} (n : Nat) (hn : l.length = n + 1) (C D : World → Prop) (L : List (Value → World → Prop)) (hst : ∀ r ∈ L, ∀ v w w', r v w → Below w.heap.size w w' → r v w') (hm : P.follows .mixedOrders = true) (hC : C { w with drawn := w.drawn + 1 })
    (hap : apartR l = true) (hbd : boundR 0 l = true) (hsz : (l.all fun o => match o.dst with | some t => decide (t < a.tmps.size) | none => true) = true)
    (hall : (match l[n]? with | some o => (List.range n).all (fun k => o.after.any fun e => Region.binds .any e && e.on == k) | none => false) = true)
    (how : allR (fun j o => j = n ∨ OweR P Q l C (relG L) a j o) 0 l)
    (hlast : ∀ o, l[n]? = some o → ∀ (f : Nat → Value) (w : World), C w → (∀ j, j < n → relG L j (f j) w) → Region.wanted o (yielded l.toArray (fillR 0 l f a).tmps) = true ∧ o.wp P (fillR 0 l f a) w (fun a' w' => ∃ v, a' = (fillR 0 l f a).put o.dst v ∧ D w') Q)
    (hend : ∀ f w, D w → Q .normal (fillR 0 l f a) w) : (Code.region id l.toArray true).wp P Q a w := by
  have hin : ∀ (o : Oper) (Lf : Nat → Bool), (∀ e ∈ o.after, Region.binds .any e = true → Lf e.on = true) → ∀ k, (o.after.any fun e => Region.binds .any e && e.on == k) = true → Lf k = true := by
    intro o Lf hd k h
    obtain ⟨i, hi, he⟩ := Array.any_eq_true.1 h
    simp only [Bool.and_eq_true, beq_iff_eq] at he
    have := hd _ (Array.getElem_mem hi) he.1
    rw [he.2] at this
    exact this
  refine region_inv (fun Lf f X => (Lf n = false ∧ C X ∧ ∀ j, j ≤ n → Lf j = true → relG L j (f j) X) ∨ ((∀ j, j ≤ n → Lf j = true) ∧ D X)) hm ?_ hap hbd hsz ?_ ?_
  · intro Lf f h0
    exact .inl ⟨h0 n (by omega), hC, fun j hj hL => by rw [h0 j (by omega)] at hL; cases hL⟩
  · refine allR_all _ l 0 fun j o ho => ?_
    rw [Nat.zero_add]
    have hjn : j ≤ n := by have := (List.getElem?_eq_some_iff.1 ho).1; omega
    intro Lf f X hLj hdeps hI
    rcases hI with ⟨hLn, hCX, hR⟩ | ⟨hA, _⟩
    · by_cases hj : j = n
      · subst hj
        rw [ho] at hall
        have hp : ∀ k, k < j → Lf k = true := fun k hk => hin o Lf hdeps k (List.all_eq_true.1 hall k (List.mem_range.2 hk))
        obtain ⟨hw, hop⟩ := hlast o ho f X hCX (fun k hk => hR k (by omega) (hp k hk))
        refine .inl ⟨hw, Oper.wp_mono (fun a' w' h => ?_) hop⟩
        obtain ⟨v, e, hD⟩ := h
        refine ⟨v, e, .inr ⟨fun k hk => ?_, hD⟩⟩
        by_cases hkj : k = j
        · subst hkj; exact setL_same _ _
        · rw [setL_other _ hkj]; exact hp k (by omega)
      · have hO := allR_of _ l 0 how j o ho
        rw [Nat.zero_add] at hO
        rcases hO with hO | hO
        · exact absurd hO hj
        · have hst' : ∀ (v : Value) (w' : World), relG L j v w' → C w' → Below X.heap.size X w' → (setL Lf j) n = false ∧ C w' ∧ ∀ k, k ≤ n → setL Lf j k = true → relG L k (setF f j v k) w' := by
            intro v w' hv hC' hb
            refine ⟨by rw [setL_other _ (Ne.symm hj)]; exact hLn, hC', fun k hk hLk => ?_⟩
            by_cases hkj : k = j
            · subst hkj; rw [setF_same]; exact hv
            · rw [setL_other _ hkj] at hLk
              rw [setF_other _ _ hkj]
              exact relG_stable hst k (hR k hk hLk) hb
          rcases hO f X hCX (fun e he hb => by
            have h1 := hdeps e he hb
            have h2 : e.on < j := by have := boundR_spec l 0 hbd j o ho e he hb; omega
            exact hR e.on (by omega) h1) with ⟨hw, hop⟩ | ⟨hw, hu⟩
          · refine .inl ⟨hw, Oper.wp_mono (fun a' w' h => ?_) hop⟩
            obtain ⟨v, e, hv, hC', hb⟩ := h
            exact ⟨v, e, .inl (hst' v w' hv hC' hb)⟩
          · exact .inr ⟨hw, .inl (hst' undef X hu hCX (Below.refl _ _))⟩
    · rw [hA j hjn] at hLj; cases hLj
  · intro Lf f X hL hI
    rcases hI with ⟨h, _⟩ | ⟨_, h⟩
    · rw [hL n (by omega)] at h; cases h
    · exact hend f X h
end MskL
def r3ms (b : Nat) (M : List Mk) (v : Value) (w : World) : Prop := ∃ A c, v = .slice A M.length c ∧ OwnM b w A c M
def r3lis (b : Nat) (C : List (List Int)) (M : List Mk) (v : Value) (w : World) : Prop := ∃ A c q B d, v = lv A c C.length B d M.length ∧ vals q = C ∧ OwnVs b w A c q ∧ OwnM b w B d M
def r3lisE (b : Nat) (C : List (List Int)) (M : List Mk) (e : Ending) (w : World) : Prop := ∃ A c q B d, e = .returned (lv A c C.length B d M.length) ∧ vals q = C ∧ OwnVs b w A c q ∧ OwnM b w B d M
def r3emp (b : Nat) (v : Value) (w : World) : Prop := ∃ A, v = .slice A 0 0 ∧ w.ownsRow b 70 2 (.slice A 0 0) 0 []
def r3box2 (s b g : Nat) (w0 : World) (C : List (List Int)) (M : List Mk) (w : World) : Prop := ∃ A c q B d, w.cell? ⟨g, 0, none⟩ = some (.slice A C.length c) ∧ w.cell? ⟨g, 1, none⟩ = some (.slice B M.length d) ∧ vals q = C ∧ OwnVs b w A c q ∧ OwnM b w B d M ∧ Below s w0 w
theorem row_below {w w' : World} {base : Nat} {e : TypeId} {size : Nat} {v : Value} {n : Nat} {xs : List Value} (h : w.ownsRow base e size v n xs) (hb : Below w.heap.size w w') : w'.ownsRow base e size v n xs :=
  row_turn h (Turn.of_below (S := fun _ => False) hb) (fun _ _ e => e)

end Go.Proofs.YtcekgllahlhaaaaGreatDoor

namespace Go.Proofs.YtcekgllahlhaaaaGreatDoor
namespace MskL
open Go Go.RowKit
set_option linter.unusedVariables false
set_option linter.unusedSimpArgs false
set_option maxRecDepth 100000
/-- The operation o waits for k, itself or by one that it waits for. -/
def waits (l : List Oper) (o : Oper) (k : Nat) : Bool :=
  (o.after.any fun e => Region.binds .any e && e.on == k) || (o.after.any fun e => Region.binds .any e && (match l[e.on]? with | some o' => o'.after.any fun e' => Region.binds .any e' && e'.on == k | none => false))
theorem region_relS2 {P : Program} {Q : Exit → Act → World → Prop} {id : Nat} {l : List Oper} {a : Act} {w : World} (n : Nat) (hn : l.length = n + 2) (C : World → Prop) (D1 D2 : (Nat → Value) → World → Prop) (L : List (Value → World → Prop)) (hst : ∀ r ∈ L, ∀ v w w', r v w → Below w.heap.size w w' → r v w') (hm : P.follows .mixedOrders = true) (hC : C { w with drawn := w.drawn + 1 })
    (hap : apartR l = true) (hbd : boundR 0 l = true) (hsz : (l.all fun o => match o.dst with | some t => decide (t < a.tmps.size) | none => true) = true)
    (hall1 : (match l[n]? with | some o => (List.range n).all (waits l o) | none => false) = true)
    (hall2 : (match l[n + 1]? with | some o => (List.range (n + 1)).all (waits l o) | none => false) = true)
    (how : allR (fun j o => n ≤ j ∨ OweR P Q l C (relG L) a j o) 0 l)
    (hlast1 : ∀ o, l[n]? = some o → ∀ (f : Nat → Value) (w : World), C w → (∀ j, j < n → relG L j (f j) w) → Region.wanted o (yielded l.toArray (fillR 0 l f a).tmps) = true ∧ o.wp P (fillR 0 l f a) w (fun a' w' => ∃ v, a' = (fillR 0 l f a).put o.dst v ∧ D1 (setF f n v) w') Q)
    (hlast2 : ∀ o, l[n + 1]? = some o → ∀ (f : Nat → Value) (w : World), D1 f w → Region.wanted o (yielded l.toArray (fillR 0 l f a).tmps) = true ∧ o.wp P (fillR 0 l f a) w (fun a' w' => ∃ v, a' = (fillR 0 l f a).put o.dst v ∧ D2 (setF f (n + 1) v) w') Q)
    (hend : ∀ f w, D2 f w → Q .normal (fillR 0 l f a) w) : (Code.region id l.toArray true).wp P Q a w := by
  have hin : ∀ (o : Oper) (Lf : Nat → Bool), (∀ e ∈ o.after, Region.binds .any e = true → Lf e.on = true) → (∀ j o, l[j]? = some o → Lf j = true → ∀ e ∈ o.after, Region.binds .any e = true → Lf e.on = true) → ∀ k, waits l o k = true → Lf k = true := by
    intro o Lf hd hcl k h
    unfold waits at h
    rw [Bool.or_eq_true] at h
    rcases h with h | h
    · obtain ⟨i, hi, he⟩ := Array.any_eq_true.1 h
      simp only [Bool.and_eq_true, beq_iff_eq] at he
      have := hd _ (Array.getElem_mem hi) he.1
      rw [he.2] at this
      exact this
    · obtain ⟨i, hi, he⟩ := Array.any_eq_true.1 h
      simp only [Bool.and_eq_true] at he
      have h1 := hd _ (Array.getElem_mem hi) he.1
      have h2 := he.2
      split at h2
      · rename_i o' ho'
        obtain ⟨i', hi', he'⟩ := Array.any_eq_true.1 h2
        simp only [Bool.and_eq_true, beq_iff_eq] at he'
        have := hcl _ _ ho' h1 _ (Array.getElem_mem hi') he'.1
        rw [he'.2] at this
        exact this
      · cases h2
  refine region_inv (fun Lf f X => (∀ j o, l[j]? = some o → Lf j = true → ∀ e ∈ o.after, Region.binds .any e = true → Lf e.on = true) ∧
    ((Lf n = false ∧ Lf (n + 1) = false ∧ C X ∧ ∀ j, j < n → Lf j = true → relG L j (f j) X) ∨ (Lf (n + 1) = false ∧ (∀ j, j ≤ n → Lf j = true) ∧ D1 f X) ∨ ((∀ j, j ≤ n + 1 → Lf j = true) ∧ D2 f X))) hm ?_ hap hbd hsz ?_ ?_
  · intro Lf f h0
    refine ⟨fun j o ho hj => ?_, .inl ⟨h0 n (by omega), h0 (n + 1) (by omega), hC, fun j hj hL => by rw [h0 j (by omega)] at hL; cases hL⟩⟩
    have := (List.getElem?_eq_some_iff.1 ho).1
    rw [h0 j this] at hj
    cases hj
  · refine allR_all _ l 0 fun j o ho => ?_
    rw [Nat.zero_add]
    have hjn : j ≤ n + 1 := by have := (List.getElem?_eq_some_iff.1 ho).1; omega
    intro Lf f X hLj hdeps ⟨hcl, hI⟩
    have hcl' : ∀ i oi, l[i]? = some oi → setL Lf j i = true → ∀ e ∈ oi.after, Region.binds .any e = true → setL Lf j e.on = true := by
      intro i oi hi hLi e he hb
      by_cases hej : e.on = j
      · rw [hej]; exact setL_same _ _
      · rw [setL_other _ hej]
        by_cases hij : i = j
        · subst hij
          rw [ho] at hi
          obtain rfl := Option.some.inj hi
          exact hdeps e he hb
        · rw [setL_other _ hij] at hLi
          exact hcl i oi hi hLi e he hb
    rcases hI with ⟨hLn, hLn1, hCX, hR⟩ | ⟨hLn1, hA, hD⟩ | ⟨hA, _⟩
    · by_cases hj : j = n
      · subst hj
        rw [ho] at hall1
        have hp : ∀ k, k < j → Lf k = true := fun k hk => hin o Lf hdeps hcl k (List.all_eq_true.1 hall1 k (List.mem_range.2 hk))
        obtain ⟨hw, hop⟩ := hlast1 o ho f X hCX (fun k hk => hR k hk (hp k hk))
        refine .inl ⟨hw, Oper.wp_mono (fun a' w' h => ?_) hop⟩
        obtain ⟨v, e, hD⟩ := h
        refine ⟨v, e, hcl', .inr (.inl ⟨by rw [setL_other _ (by omega)]; exact hLn1, fun k hk => ?_, hD⟩)⟩
        by_cases hkj : k = j
        · subst hkj; exact setL_same _ _
        · rw [setL_other _ hkj]; exact hp k (by omega)
      · by_cases hj1 : j = n + 1
        · subst hj1
          rw [ho] at hall2
          have := hin o Lf hdeps hcl n (List.all_eq_true.1 hall2 n (List.mem_range.2 (by omega)))
          rw [hLn] at this
          cases this
        · have hO := allR_of _ l 0 how j o ho
          rw [Nat.zero_add] at hO
          rcases hO with hO | hO
          · omega
          · have hst' : ∀ (v : Value) (w' : World), relG L j v w' → C w' → Below X.heap.size X w' → (setL Lf j) n = false ∧ (setL Lf j) (n + 1) = false ∧ C w' ∧ ∀ k, k < n → setL Lf j k = true → relG L k (setF f j v k) w' := by
              intro v w' hv hC' hb
              refine ⟨by rw [setL_other _ (Ne.symm hj)]; exact hLn, by rw [setL_other _ (Ne.symm hj1)]; exact hLn1, hC', fun k hk hLk => ?_⟩
              by_cases hkj : k = j
              · subst hkj; rw [setF_same]; exact hv
              · rw [setL_other _ hkj] at hLk
                rw [setF_other _ _ hkj]
                exact relG_stable hst k (hR k hk hLk) hb
            rcases hO f X hCX (fun e he hb => by
              have h1 := hdeps e he hb
              have h2 : e.on < j := by have := boundR_spec l 0 hbd j o ho e he hb; omega
              exact hR e.on (by omega) h1) with ⟨hw, hop⟩ | ⟨hw, hu⟩
            · refine .inl ⟨hw, Oper.wp_mono (fun a' w' h => ?_) hop⟩
              obtain ⟨v, e, hv, hC', hb⟩ := h
              exact ⟨v, e, hcl', .inl (hst' v w' hv hC' hb)⟩
            · exact .inr ⟨hw, hcl', .inl (hst' undef X hu hCX (Below.refl _ _))⟩
    · by_cases hj1 : j = n + 1
      · subst hj1
        obtain ⟨hw, hop⟩ := hlast2 o ho f X hD
        refine .inl ⟨hw, Oper.wp_mono (fun a' w' h => ?_) hop⟩
        obtain ⟨v, e, hD⟩ := h
        refine ⟨v, e, hcl', .inr (.inr ⟨fun k hk => ?_, hD⟩)⟩
        by_cases hkj : k = n + 1
        · subst hkj; exact setL_same _ _
        · rw [setL_other _ hkj]; exact hA k (by omega)
      · rw [hA j (by omega)] at hLj; cases hLj
    · rw [hA j hjn] at hLj; cases hLj
  · intro Lf f X hL hI
    rcases hI.2 with ⟨h, _⟩ | ⟨h, _⟩ | ⟨_, h⟩
    · rw [hL n (by omega)] at h; cases h
    · rw [hL (n + 1) (by omega)] at h; cases h
    · exact hend f X h
end MskL
end Go.Proofs.YtcekgllahlhaaaaGreatDoor

namespace Go.Proofs.YtcekgllahlhaaaaGreatDoor
namespace MskL
open Go Go.RowKit
set_option linter.unusedVariables false
set_option linter.unusedSimpArgs false
set_option maxRecDepth 100000
/-- The operation o waits for k, itself or by those that it waits for. -/
def waitsF (l : List Oper) : Nat → Oper → Nat → Bool
  | 0, o, k => o.after.any fun e => Region.binds .any e && e.on == k
  | f + 1, o, k => (o.after.any fun e => Region.binds .any e && e.on == k) || (o.after.any fun e => Region.binds .any e && (match l[e.on]? with | some o' => waitsF l f o' k | none => false))
theorem waitsF_of {l : List Oper} {Lf : Nat → Bool} (hcl : ∀ j o, l[j]? = some o → Lf j = true → ∀ e ∈ o.after, Region.binds .any e = true → Lf e.on = true) :
    ∀ (f : Nat) (o : Oper), (∀ e ∈ o.after, Region.binds .any e = true → Lf e.on = true) → ∀ k, waitsF l f o k = true → Lf k = true := by
  have h0 : ∀ (o : Oper), (∀ e ∈ o.after, Region.binds .any e = true → Lf e.on = true) → ∀ k, (o.after.any fun e => Region.binds .any e && e.on == k) = true → Lf k = true := by
    intro o hd k h
    obtain ⟨i, hi, he⟩ := Array.any_eq_true.1 h
    simp only [Bool.and_eq_true, beq_iff_eq] at he
    have := hd _ (Array.getElem_mem hi) he.1
    rw [he.2] at this
    exact this
  intro f
  induction f with
  | zero => exact h0
  | succ f ih =>
    intro o hd k h
    unfold waitsF at h
    rw [Bool.or_eq_true] at h
    rcases h with h | h
    · exact h0 o hd k h
    · obtain ⟨i, hi, he⟩ := Array.any_eq_true.1 h
      simp only [Bool.and_eq_true] at he
      have h1 := hd _ (Array.getElem_mem hi) he.1
      have h2 := he.2
      split at h2
      · rename_i o' ho'
        exact ih o' (hcl _ _ ho' h1) k h2
      · cases h2
theorem region_invF {P : Program} {Q : Exit → Act → World → Prop} {id : Nat} {l : List Oper} {a : Act} {w : World} (I : (Nat → Bool) → (Nat → Value) → World → Prop) (hm : P.follows .mixedOrders = true)
    (hI : ∀ L f, fillR 0 l f a = a → (∀ j, j < l.length → L j = false) → I L f { w with drawn := w.drawn + 1 }) (hap : apartR l = true) (hbd : boundR 0 l = true) (hsz : (l.all fun o => match o.dst with | some t => decide (t < a.tmps.size) | none => true) = true)
    (how : allR (fun j o => OweI P Q l I a j o) 0 l) (hend : ∀ L f w, (∀ j, j < l.length → L j = true) → I L f w → Q .normal (fillR 0 l f a) w) : (Code.region id l.toArray true).wp P Q a w := by
  have hb := boundR_spec l 0 hbd
  obtain ⟨f0, hf0⟩ := fillR_self l 0 a (fun o ho t ht => by
    have := List.all_eq_true.1 hsz o ho
    rw [ht] at this
    simpa using this)
  have hI0 := hI (fun k => (Array.replicate l.length false).getD k true) f0 hf0 (fun j hj => by simp [Array.getD, hj])
  refine wp_region_any hm ?_
  have hsize : l.toArray.size = l.length := by simp
  rw [hsize, ← hf0]
  refine inv_any l a I hap (fun j o ho e he hbb => by have := hb j o ho e he hbb; omega) (fun j o ho => by have := allR_of _ l 0 how j o ho; rw [Nat.zero_add] at this; exact this) hend l.length _ f0 _ (by simp) ?_ hI0
  unfold left
  exact Nat.le_trans (List.length_filter_le _ _) (by simp)
/-- As OweR, with one slot's value told. -/
def OweV (P : Program) (Q : Exit → Act → World → Prop) (l : List Oper) (C : World → Prop) (R : Nat → Value → World → Prop) (a : Act) (z : Nat) (v0 : Value) (j : Nat) (o : Oper) : Prop :=
  ∀ (f : Nat → Value) (w : World), f z = v0 → C w → (∀ e ∈ o.after, Region.binds .any e = true → R e.on (f e.on) w) →
    (Region.wanted o (yielded l.toArray (fillR 0 l f a).tmps) = true ∧ o.wp P (fillR 0 l f a) w (fun a' w' => ∃ v, a' = (fillR 0 l f a).put o.dst v ∧ R j v w' ∧ C w' ∧ Below w.heap.size w w') Q) ∨
    (Region.wanted o (yielded l.toArray (fillR 0 l f a).tmps) = false ∧ R j undef w)
theorem region_relU2 {P : Program} {Q : Exit → Act → World → Prop} {id : Nat} {l : List Oper} {a : Act} {w : World} (n fu : Nat) (hn : l.length = n + 2) (C : World → Prop) (v0 : Value) (D1 D2 : (Nat → Value) → World → Prop) (L : List (Value → World → Prop)) (hst : ∀ r ∈ L, ∀ v w w', r v w → Below w.heap.size w w' → r v w') (hm : P.follows .mixedOrders = true) (hC : C { w with drawn := w.drawn + 1 }) (h0v : ∀ f, fillR 0 l f a = a → f (n + 1) = v0)
    (hap : apartR l = true) (hbd : boundR 0 l = true) (hsz : (l.all fun o => match o.dst with | some t => decide (t < a.tmps.size) | none => true) = true)
    (hall1 : (match l[n]? with | some o => (List.range n).all (waitsF l fu o) | none => false) = true)
    (hall2 : (match l[n + 1]? with | some o => (List.range (n + 1)).all (waitsF l fu o) | none => false) = true)
    (how : allR (fun j o => n ≤ j ∨ OweV P Q l C (relG L) a (n + 1) v0 j o) 0 l)
    (hlast1 : ∀ o, l[n]? = some o → ∀ (f : Nat → Value) (w : World), f (n + 1) = v0 → C w → (∀ j, j < n → relG L j (f j) w) → Region.wanted o (yielded l.toArray (fillR 0 l f a).tmps) = true ∧ o.wp P (fillR 0 l f a) w (fun a' w' => ∃ v, a' = (fillR 0 l f a).put o.dst v ∧ D1 (setF f n v) w') Q)
    (hlast2 : ∀ o, l[n + 1]? = some o → ∀ (f : Nat → Value) (w : World), D1 f w → Region.wanted o (yielded l.toArray (fillR 0 l f a).tmps) = true ∧ o.wp P (fillR 0 l f a) w (fun a' w' => ∃ v, a' = (fillR 0 l f a).put o.dst v ∧ D2 (setF f (n + 1) v) w') Q)
    (hend : ∀ f w, D2 f w → Q .normal (fillR 0 l f a) w) : (Code.region id l.toArray true).wp P Q a w := by
  have hin : ∀ (o : Oper) (Lf : Nat → Bool), (∀ e ∈ o.after, Region.binds .any e = true → Lf e.on = true) → (∀ j o, l[j]? = some o → Lf j = true → ∀ e ∈ o.after, Region.binds .any e = true → Lf e.on = true) → ∀ k, waitsF l fu o k = true → Lf k = true := fun o Lf hd hcl k h => waitsF_of hcl fu o hd k h
  refine region_invF (fun Lf f X => (∀ j o, l[j]? = some o → Lf j = true → ∀ e ∈ o.after, Region.binds .any e = true → Lf e.on = true) ∧
    ((Lf n = false ∧ Lf (n + 1) = false ∧ f (n + 1) = v0 ∧ C X ∧ ∀ j, j < n → Lf j = true → relG L j (f j) X) ∨ (Lf (n + 1) = false ∧ (∀ j, j ≤ n → Lf j = true) ∧ D1 f X) ∨ ((∀ j, j ≤ n + 1 → Lf j = true) ∧ D2 f X))) hm ?_ hap hbd hsz ?_ ?_
  · intro Lf f hfl h0
    refine ⟨fun j o ho hj => ?_, .inl ⟨h0 n (by omega), h0 (n + 1) (by omega), h0v f hfl, hC, fun j hj hL => by rw [h0 j (by omega)] at hL; cases hL⟩⟩
    have := (List.getElem?_eq_some_iff.1 ho).1
    rw [h0 j this] at hj
    cases hj
  · refine allR_all _ l 0 fun j o ho => ?_
    rw [Nat.zero_add]
    have hjn : j ≤ n + 1 := by have := (List.getElem?_eq_some_iff.1 ho).1; omega
    intro Lf f X hLj hdeps ⟨hcl, hI⟩
    have hcl' : ∀ i oi, l[i]? = some oi → setL Lf j i = true → ∀ e ∈ oi.after, Region.binds .any e = true → setL Lf j e.on = true := by
      intro i oi hi hLi e he hb
      by_cases hej : e.on = j
      · rw [hej]; exact setL_same _ _
      · rw [setL_other _ hej]
        by_cases hij : i = j
        · subst hij
          rw [ho] at hi
          obtain rfl := Option.some.inj hi
          exact hdeps e he hb
        · rw [setL_other _ hij] at hLi
          exact hcl i oi hi hLi e he hb
    rcases hI with ⟨hLn, hLn1, hv0, hCX, hR⟩ | ⟨hLn1, hA, hD⟩ | ⟨hA, _⟩
    · by_cases hj : j = n
      · subst hj
        rw [ho] at hall1
        have hp : ∀ k, k < j → Lf k = true := fun k hk => hin o Lf hdeps hcl k (List.all_eq_true.1 hall1 k (List.mem_range.2 hk))
        obtain ⟨hw, hop⟩ := hlast1 o ho f X hv0 hCX (fun k hk => hR k hk (hp k hk))
        refine .inl ⟨hw, Oper.wp_mono (fun a' w' h => ?_) hop⟩
        obtain ⟨v, e, hD⟩ := h
        refine ⟨v, e, hcl', .inr (.inl ⟨by rw [setL_other _ (by omega)]; exact hLn1, fun k hk => ?_, hD⟩)⟩
        by_cases hkj : k = j
        · subst hkj; exact setL_same _ _
        · rw [setL_other _ hkj]; exact hp k (by omega)
      · by_cases hj1 : j = n + 1
        · subst hj1
          rw [ho] at hall2
          have := hin o Lf hdeps hcl n (List.all_eq_true.1 hall2 n (List.mem_range.2 (by omega)))
          rw [hLn] at this
          cases this
        · have hO := allR_of _ l 0 how j o ho
          rw [Nat.zero_add] at hO
          rcases hO with hO | hO
          · omega
          · have hst' : ∀ (v : Value) (w' : World), relG L j v w' → C w' → Below X.heap.size X w' → (setL Lf j) n = false ∧ (setL Lf j) (n + 1) = false ∧ setF f j v (n + 1) = v0 ∧ C w' ∧ ∀ k, k < n → setL Lf j k = true → relG L k (setF f j v k) w' := by
              intro v w' hv hC' hb
              refine ⟨by rw [setL_other _ (Ne.symm hj)]; exact hLn, by rw [setL_other _ (Ne.symm hj1)]; exact hLn1, by rw [setF_other _ _ (Ne.symm hj1)]; exact hv0, hC', fun k hk hLk => ?_⟩
              by_cases hkj : k = j
              · subst hkj; rw [setF_same]; exact hv
              · rw [setL_other _ hkj] at hLk
                rw [setF_other _ _ hkj]
                exact relG_stable hst k (hR k hk hLk) hb
            rcases hO f X hv0 hCX (fun e he hb => by
              have h1 := hdeps e he hb
              have h2 : e.on < j := by have := boundR_spec l 0 hbd j o ho e he hb; omega
              exact hR e.on (by omega) h1) with ⟨hw, hop⟩ | ⟨hw, hu⟩
            · refine .inl ⟨hw, Oper.wp_mono (fun a' w' h => ?_) hop⟩
              obtain ⟨v, e, hv, hC', hb⟩ := h
              exact ⟨v, e, hcl', .inl (hst' v w' hv hC' hb)⟩
            · exact .inr ⟨hw, hcl', .inl (hst' undef X hu hCX (Below.refl _ _))⟩
    · by_cases hj1 : j = n + 1
      · subst hj1
        obtain ⟨hw, hop⟩ := hlast2 o ho f X hD
        refine .inl ⟨hw, Oper.wp_mono (fun a' w' h => ?_) hop⟩
        obtain ⟨v, e, hD⟩ := h
        refine ⟨v, e, hcl', .inr (.inr ⟨fun k hk => ?_, hD⟩)⟩
        by_cases hkj : k = n + 1
        · subst hkj; exact setL_same _ _
        · rw [setL_other _ hkj]; exact hA k (by omega)
      · rw [hA j (by omega)] at hLj; cases hLj
    · rw [hA j hjn] at hLj; cases hLj
  · intro Lf f X hL hI
    rcases hI.2 with ⟨h, _⟩ | ⟨h, _⟩ | ⟨_, h⟩
    · rw [hL n (by omega)] at h; cases h
    · rw [hL (n + 1) (by omega)] at h; cases h
    · exact hend f X h
end MskL
end Go.Proofs.YtcekgllahlhaaaaGreatDoor

namespace Go.Proofs.YtcekgllahlhaaaaGreatDoor
namespace MskL
open Go Go.RowKit
set_option linter.unusedVariables false
set_option linter.unusedSimpArgs false
set_option maxRecDepth 100000
theorem region_relZ {P : Program} {Q : Exit → Act → World → Prop} {id : Nat} {l : List Oper} {a : Act} {w : World} (n fu : Nat) (Z T : Nat → Bool) (C : World → Prop) (D : (Nat → Value) → World → Prop) (L : List (Value → World → Prop)) (Pv : Nat → Value → Prop) (hst : ∀ r ∈ L, ∀ v w w', r v w → Below w.heap.size w w' → r v w')
    (hPR : ∀ j v w, relG L j v w → Pv j v) (hm : P.follows .mixedOrders = true) (hC : C { w with drawn := w.drawn + 1 })
    (hap : apartR l = true) (hbd : boundR 0 l = true) (hsz : (l.all fun o => match o.dst with | some t => decide (t < a.tmps.size) | none => true) = true) (hnl : n < l.length)
    (hall : (match l[n]? with | some o => (List.range l.length).all (fun k => k == n || Z k || waitsF l fu o k) | none => false) = true)
    (hT : (List.range l.length).all (fun j => !T j || (match l[j]? with | some o => waitsF l fu o n | none => false)) = true) (hZn : Z n = false)
    (how : allR (fun j o => j = n ∨ T j = true ∨ OweR P Q l C (relG L) a j o) 0 l)
    (howZ : ∀ j o, Z j = true → l[j]? = some o → ∀ (f : Nat → Value) (w : World), D f w → (∀ e ∈ o.after, Region.binds .any e = true → e.on ≠ n → Pv e.on (f e.on)) →
      Region.wanted o (yielded l.toArray (fillR 0 l f a).tmps) = true ∧ o.wp P (fillR 0 l f a) w (fun a' w' => ∃ v, a' = (fillR 0 l f a).put o.dst v ∧ Pv j v ∧ D (setF f j v) w') Q)
    (hlast : ∀ o, l[n]? = some o → ∀ (f : Nat → Value) (w : World), C w → (∀ j, j < l.length → j ≠ n → Z j = false → relG L j (f j) w) → Region.wanted o (yielded l.toArray (fillR 0 l f a).tmps) = true ∧ o.wp P (fillR 0 l f a) w (fun a' w' => ∃ v, a' = (fillR 0 l f a).put o.dst v ∧ D (setF f n v) w') Q)
    (hend : ∀ f w, D f w → (∀ j, j < l.length → j ≠ n → Pv j (f j)) → Q .normal (fillR 0 l f a) w) : (Code.region id l.toArray true).wp P Q a w := by
  refine region_inv (fun Lf f X => (∀ j o, l[j]? = some o → Lf j = true → ∀ e ∈ o.after, Region.binds .any e = true → Lf e.on = true) ∧
    ((Lf n = false ∧ C X ∧ ∀ j, j < l.length → Lf j = true → relG L j (f j) X) ∨ (Lf n = true ∧ (∀ j, j < l.length → Z j = false → Lf j = true) ∧ D f X ∧ ∀ j, j < l.length → j ≠ n → Lf j = true → Pv j (f j)))) hm ?_ hap hbd hsz ?_ ?_
  · intro Lf f h0
    refine ⟨fun j o ho hj => ?_, .inl ⟨h0 n hnl, hC, fun j hj hL => by rw [h0 j hj] at hL; cases hL⟩⟩
    have := (List.getElem?_eq_some_iff.1 ho).1
    rw [h0 j this] at hj
    cases hj
  · refine allR_all _ l 0 fun j o ho => ?_
    rw [Nat.zero_add]
    have hjl : j < l.length := (List.getElem?_eq_some_iff.1 ho).1
    intro Lf f X hLj hdeps ⟨hcl, hI⟩
    have hcl' : ∀ i oi, l[i]? = some oi → setL Lf j i = true → ∀ e ∈ oi.after, Region.binds .any e = true → setL Lf j e.on = true := by
      intro i oi hi hLi e he hb
      by_cases hej : e.on = j
      · rw [hej]; exact setL_same _ _
      · rw [setL_other _ hej]
        by_cases hij : i = j
        · subst hij
          rw [ho] at hi
          obtain rfl := Option.some.inj hi
          exact hdeps e he hb
        · rw [setL_other _ hij] at hLi
          exact hcl i oi hi hLi e he hb
    have hon : ∀ e ∈ o.after, Region.binds .any e = true → e.on < l.length := fun e he hb => by
      have := boundR_spec l 0 hbd j o ho e he hb; omega
    rcases hI with ⟨hLn, hCX, hR⟩ | ⟨hLn, hA, hD, hP⟩
    · by_cases hj : j = n
      · subst hj
        rw [ho] at hall
        have hp : ∀ k, k < l.length → k ≠ j → Z k = false → Lf k = true := fun k hk hkj hz => by
          have := List.all_eq_true.1 hall k (List.mem_range.2 hk)
          simp only [Bool.or_eq_true, beq_iff_eq] at this
          rcases this with (h | h) | h
          · exact absurd h hkj
          · rw [hz] at h; cases h
          · exact waitsF_of hcl fu o hdeps k h
        obtain ⟨hw, hop⟩ := hlast o ho f X hCX (fun k hk hkj hz => hR k hk (hp k hk hkj hz))
        refine .inl ⟨hw, Oper.wp_mono (fun a' w' h => ?_) hop⟩
        obtain ⟨v, e, hD⟩ := h
        refine ⟨v, e, hcl', .inr ⟨setL_same _ _, fun k hk hz => ?_, hD, fun k hk hkj hLk => ?_⟩⟩
        · by_cases hkj : k = j
          · subst hkj; exact setL_same _ _
          · rw [setL_other _ hkj]; exact hp k hk hkj hz
        · rw [setL_other _ hkj] at hLk
          rw [setF_other _ _ hkj]
          exact hPR k _ X (hR k hk hLk)
      · have hO := allR_of _ l 0 how j o ho
        rw [Nat.zero_add] at hO
        rcases hO with hO | hO | hO
        · exact absurd hO hj
        · exfalso
          have := List.all_eq_true.1 hT j (List.mem_range.2 hjl)
          rw [hO, ho] at this
          have h1 := waitsF_of hcl fu o hdeps n (by simpa using this)
          rw [hLn] at h1
          cases h1
        · have hst' : ∀ (v : Value) (w' : World), relG L j v w' → C w' → Below X.heap.size X w' → (setL Lf j) n = false ∧ C w' ∧ ∀ k, k < l.length → setL Lf j k = true → relG L k (setF f j v k) w' := by
            intro v w' hv hC' hb
            refine ⟨by rw [setL_other _ (Ne.symm hj)]; exact hLn, hC', fun k hk hLk => ?_⟩
            by_cases hkj : k = j
            · subst hkj; rw [setF_same]; exact hv
            · rw [setL_other _ hkj] at hLk
              rw [setF_other _ _ hkj]
              exact relG_stable hst k (hR k hk hLk) hb
          rcases hO f X hCX (fun e he hb => hR e.on (hon e he hb) (hdeps e he hb)) with ⟨hw, hop⟩ | ⟨hw, hu⟩
          · refine .inl ⟨hw, Oper.wp_mono (fun a' w' h => ?_) hop⟩
            obtain ⟨v, e, hv, hC', hb⟩ := h
            exact ⟨v, e, hcl', .inl (hst' v w' hv hC' hb)⟩
          · exact .inr ⟨hw, hcl', .inl (hst' undef X hu hCX (Below.refl _ _))⟩
    · have hzj : Z j = true := by
        cases h : Z j with
        | true => rfl
        | false => rw [hA j hjl h] at hLj; cases hLj
      have hjn : j ≠ n := fun e => by rw [e, hLn] at hLj; cases hLj
      obtain ⟨hw, hop⟩ := howZ j o hzj ho f X hD (fun e he hb hne => hP e.on (hon e he hb) hne (hdeps e he hb))
      refine .inl ⟨hw, Oper.wp_mono (fun a' w' h => ?_) hop⟩
      obtain ⟨v, e, hv, hD'⟩ := h
      refine ⟨v, e, hcl', .inr ⟨by rw [setL_other _ (Ne.symm hjn)]; exact hLn, fun k hk hz => ?_, hD', fun k hk hkn hLk => ?_⟩⟩
      · by_cases hkj : k = j
        · subst hkj; exact setL_same _ _
        · rw [setL_other _ hkj]; exact hA k hk hz
      · by_cases hkj : k = j
        · subst hkj; rw [setF_same]; exact hv
        · rw [setL_other _ hkj] at hLk
          rw [setF_other _ _ hkj]
          exact hP k hk hkn hLk
  · intro Lf f X hL hI
    rcases hI.2 with ⟨h, _⟩ | ⟨_, _, hD, hP⟩
    · rw [hL n hnl] at h; cases h
    · exact hend f X hD (fun j hj hjn => hP j hj hjn (hL j hj))
end MskL
end Go.Proofs.YtcekgllahlhaaaaGreatDoor

namespace Go.Proofs.YtcekgllahlhaaaaGreatDoor
open Go.RowKit Go.Shelf
open TopL (HitM)
open MskL (Mk mv has hasB slotB slots Fine mk_fine has_mk)
set_option linter.unusedVariables false
set_option linter.unusedSimpArgs false
set_option maxRecDepth 100000

def rowsAt (q : List Pa) (S : List Nat) : List Pr := S.filterMap fun s => (q[s]?).map fun p => toPr (s, p)
theorem rowsAt_snoc {q : List Pa} {S : List Nat} {k s : Nat} {p : Pa} (hs : S[k]? = some s) (hp : q[s]? = some p) : rowsAt q (S.take (k + 1)) = rowsAt q (S.take k) ++ [toPr (s, p)] := by
  unfold rowsAt; rw [List.take_add_one, hs, List.filterMap_append]; simp [hp]
theorem rowsAt_mem {q : List Pa} {S : List Nat} {r : Pr} (h : r ∈ rowsAt q S) : ∃ s p, p ∈ q ∧ r = toPr (s, p) := by
  unfold rowsAt at h
  obtain ⟨s, _, h2⟩ := List.mem_filterMap.1 h
  cases hp : q[s]? with
  | none => rw [hp] at h2; simp at h2
  | some p => rw [hp] at h2; simp at h2; exact ⟨s, p, List.mem_of_getElem? hp, h2.symm⟩
theorem rowsAt_sel {q : List Pa} {m : Mk} (hu : ∀ (k : Nat) p, q[k]? = some p → has m k = true → p.e.u = true) : ∀ k, k ≤ q.length → k ≤ 96 → rowsAt q ((List.range k).filter (has m)) = (selI (fun j : Nat => hasB m (j : Int)) q k).map toPr := by
  intro k
  induction k with
  | zero => intro _ _; rfl
  | succ k ih =>
    intro hk h9
    obtain ⟨p, hp⟩ : ∃ p, q[k]? = some p := ⟨_, List.getElem?_eq_getElem (by omega)⟩
    have h96 : decide (k < 96) = true := by simp; omega
    show _ = (selI _ q k ++ _).map toPr
    rw [List.range_succ, List.filter_append, List.map_append, ← ih (by omega) (by omega)]
    unfold rowsAt
    rw [List.filterMap_append]
    congr 1
    have e := has_B m k
    rw [h96, Bool.true_and] at e
    cases hh : has m k with
    | false => simp [hh, hp, e]
    | true =>
      have := hu k p hp hh
      simp [hh, hp, e, this]
theorem rowsAt_vis {q : List Pa} {t : Int} (h : arB (ces q) = true) : rvs (rowsAt q (slots (visM (ces q) t))) = visR (ces q) t := by
  have h9 := arB_len h
  have hq : q.length = 96 := by rw [ces_length] at h9; exact h9
  unfold slots visR
  rw [rowsAt_sel (q := q) (fun k p hp hh => by
    unfold visM at hh
    rw [has_mk, ces_ceAt hp] at hh
    simp at hh
    exact hh.2.1) 96 (by omega) (Nat.le_refl _), selI_rvs _ q 96 (by omega), h9]
theorem ownN_at {base : Nat} {w : World} {As : Option Addr} {cs : Nat} {S : List Nat} {k s : Nat} (h : MskL.OwnN base w As cs S) (hs : S[k]? = some s) : ∃ g, As = some ⟨g, 0, none⟩ ∧ w.cell? ⟨g, k, none⟩ = some (.int .i64 (s : Int)) := by
  have hk := (List.getElem?_eq_some_iff.1 hs).1
  rcases (show w.ownsRow base 3 1 (.slice As S.length cs) S.length (S.map fun (k : Nat) => Value.int .i64 (k : Int)) from h).2 with ⟨e, h0⟩ | ⟨g, cap, cur, e, _⟩
  · omega
  · injection e with e1 _ _
    subst e1
    refine ⟨g, rfl, ?_⟩
    have := World.ownsRow.cells (g := g) h rfl k (.int .i64 (s : Int)) (by rw [List.getElem?_map, hs]; rfl)
    rwa [Addr.add_lit, Nat.zero_add] at this
/-- Rows of the call's own, so far. -/
def SeI (w5 : World) (q : List Pa) (S : List Nat) (k : Nat) (A1 : Option Addr) (c1 : Nat) (wr : World) : Prop :=
  wr.ownsRow w5.heap.size 52 2 (.slice A1 k c1) k (flatR (rowsAt q (S.take k))) ∧ (rowsAt q (S.take k)).length = k ∧ Below w5.heap.size w5 wr
def sePair (a0 a1 : Value) (v : Value) (w : World) : Prop := ∃ g, v = .slice (some ⟨g, 0, none⟩) 1 1 ∧ w.heap[g]? = some (.cells #[a0, a1] 52 (0, 0))
def seD (j : Nat) (w5 : World) (q : List Pa) (S : List Nat) (k : Nat) (f : Nat → Value) (w : World) : Prop := ∃ A9 c9, f j = .slice A9 (k + 1) c9 ∧ SeI w5 q S (k + 1) A9 c9 w

theorem gapp_rel {w : World} {ops : Array Oper} {o : Oper} {a : Act} {K : Act → World → Prop} {Q : Exit → Act → World → Prop} (hgd : o.guard = none) (s x : Operand) {t e : TypeId} {size bytes : Nat} (hT : AppT Tryz.prog t e size bytes)
    (ho : o.op = .call { callee := .builtin .append, args := #[s, x], argTypes := #[t, t] })
    (base : Nat) (A0 : Option Addr) (c0 n : Nat) (xs : List Value) (hs : a.eval s = .slice A0 n c0) (hown : w.ownsRow base e size (.slice A0 n c0) n xs)
    (A : Option Addr) (c m : Nat) (news : List Value) (hx : a.eval x = .slice A m c) (hr : Read w A m size news) (hbig : n + m ≤ 1099511627776) (hbase : base ≤ w.heap.size)
    (h : ∀ A1 c1 w', w'.ownsRow base e size (.slice A1 (n + m) c1) (n + m) (xs ++ news) → w.grownBy w' (blk A0) → K (a.put o.dst (.slice A1 (n + m) c1)) w') :
    Region.wanted o (yielded ops a.tmps) = true ∧ Oper.wp Tryz.prog o a w K Q := by
  refine ⟨by simp [Region.wanted, hgd], ?_⟩
  obtain ⟨A1, c1, w', hrun, h1, h2, _⟩ := run_gapp hT o.type base A0 c0 n xs hown A c m news hr hbig hbase
  unfold Oper.wp
  simp [execOp, ho, resolve, invoke, builtin, hs, hx, hrun, Result.andThen]
  exact h A1 c1 w' h1 h2

set_option maxHeartbeats 4000000 in
theorem seen_any (A : Option Addr) (c : Nat) (q : List Pa) (t : Int) (w : World) (h : Are w A c q) (hT : MskL.Tab w) (hca : chkA (ces q) = 0) :
    Calls Tryz.prog 10 #[.agg #[.slice A q.length c], .int .u64 t] w fun e w' => ∃ A' c' r, e = .returned (.tuple #[.slice A' (List.length r) c', .bool true]) ∧ rvs r = visR (ces q) t ∧ Rws w' A' c' r ∧ Below w.heap.size w w' := by
  have har := (chkA_iff _).1 hca
  have h9 := arB_len har
  rw [ces_length] at h9
  obtain ⟨n, hn⟩ : ∃ n, n = q.length := ⟨_, rfl⟩
  obtain ⟨m, hm⟩ : ∃ m, m = visM (ces q) t := ⟨_, rfl⟩
  have hmf : Fine m := by rw [hm]; exact mk_fine _
  obtain ⟨S, hS⟩ : ∃ S, S = slots m := ⟨_, rfl⟩
  obtain ⟨ns, hns⟩ : ∃ k, k = S.length := ⟨_, rfl⟩
  have hSq : ∀ s ∈ S, s < n := by
    intro s hs
    rw [hS] at hs
    unfold slots at hs
    have := (List.mem_filter.1 hs).1
    rw [List.mem_range] at this
    omega
  have hns9 : ns ≤ 96 := by
    rw [hns, hS]
    unfold slots
    have := List.length_filter_le (has m) (List.range 96)
    rw [List.length_range] at this
    exact this
  obtain ⟨W0, hW0⟩ : ∃ W0, W0 = w.alloc (.cells #[.slice A n c] 24) := ⟨_, rfl⟩
  have hb0 : Below w.heap.size w W0 := by rw [hW0]; exact bn1 _ _
  have hx0 : W0.heap[w.heap.size]? = some (.cells #[.slice A n c] 24 (0, 0)) := by rw [hW0]; exact heap_alloc_new _ _
  have HXa := Lib.hid (fun (X : World) (hX : Below W0.heap.size W0 X) => show X.heap[w.heap.size]? = some (.cells #[.slice A n c] 24 (0, 0)) from (hX.block _ (lt_of_block hx0)).trans hx0)
  have HA := Lib.hid (fun (X : World) (hX : Below w.heap.size w X) => h.below hX)
  have HVi := Lib.hid (fun (X : World) (hX : Below w.heap.size w X) => by
    have h1 := visible_any A c q t X (h.below hX)
    rw [hca, if_pos rfl, ← hm, ← hn] at h1
    exact h1)
  have HSl := Lib.hid (fun (X : World) (hX : Below w.heap.size w X) => by
    have h1 := MskL.slots_any m X hmf (hT.below hX)
    rw [← hS] at h1
    exact h1)
  have HM := Lib.hid (show rvs (rowsAt q S) = visR (ces q) t from by rw [hS, hm]; exact rowsAt_vis har)
  have HSq := Lib.hid hSq
  have HN := Lib.hid hn
  have HNs := Lib.hid hns
  have HB0 := Lib.hid hb0
  have HW0 := Lib.hid hW0
  have x0 := (cell_of_row _ _ 0 _ _ _ hx0).trans rfl
  rw [← hn]
  clear h hT hca har h9 hn hm hmf hS hns hSq hW0 hb0 hx0
  go_enter Tryz.func10, Tryz.ntmps10
  go_wp2_with (rw [← HW0.out])
  refine (HVi.out W0 HB0.out).mono ?_
  rintro e w1 ⟨rfl, hb1⟩
  obtain ⟨V, hV⟩ : ∃ V, V = w1.alloc (.cells #[.int .u64 0, .int .u64 0] 70) := ⟨_, rfl⟩
  obtain ⟨V2, hV2⟩ : ∃ V2, V2 = (V.setCell ⟨w1.heap.size, 0, none⟩ (.int .u64 m.1)).setCell ⟨w1.heap.size, 1, none⟩ (.int .u64 m.2) := ⟨_, rfl⟩
  have hxV : V.heap[w1.heap.size]? = some (.cells #[.int .u64 0, .int .u64 0] 70 (0, 0)) := by rw [hV]; exact heap_alloc_new _ _
  have hy2 := heap_setCell_same _ w1.heap.size 1 _ _ (.int .u64 (m.2 : Int)) (heap_setCell_same _ w1.heap.size 0 _ _ (.int .u64 (m.1 : Int)) hxV)
  have k0 := (cell_of_row _ _ 0 _ _ _ hxV).trans rfl
  have k1 := (cell_of_row _ _ 1 _ _ _ hxV).trans rfl
  have f0 : V.frozen? ⟨w1.heap.size, 0, none⟩ = false := frozen_of_row _ _ _ _ _ hxV
  have f1 : V.frozen? ⟨w1.heap.size, 1, none⟩ = false := frozen_of_row _ _ _ _ _ hxV
  have bV : Below w1.heap.size w1 V := by rw [hV]; exact bn1 _ _
  have tV : Turn (fun i => i = w1.heap.size) V V2 := by rw [hV2]; exact (turn_set _ _ _ _).trans (turn_set _ _ _ _) (fun i hi => .inl hi)
  have bV2 : Below w1.heap.size w1 V2 := bV.trans (tV.below bV.size (fun i hi => by omega))
  rw [← hV2] at hy2
  have m0 := (cell_of_row _ _ 0 _ _ _ hy2).trans rfl
  have m1 := (cell_of_row _ _ 1 _ _ _ hy2).trans rfl
  have HV := Lib.hid hV
  have HV2 := Lib.hid hV2
  have HBV := Lib.hid (hb1.trans (bV2.mono hb1.size))
  clear hV hV2 hxV hy2 bV tV bV2 hb1
  go_wp2_with (first | (rw [← HV.out]) | (rw [← HV2.out]) | fail)
  refine (HSl.out V2 (HB0.out.trans (HBV.out.mono HB0.out.size))).mono ?_
  rintro e w5 ⟨As, cs, he, hs5, hb5⟩
  rw [← HNs.out] at he
  subst he
  have HB5 := Lib.hid (HBV.out.trans (hb5.mono HBV.out.size))
  have HS5 := Lib.hid hs5
  clear hb5 hs5 k0 k1 f0 f1 m0 m1 x0
  have HI0 := Lib.hid (show SeI w5 q S 0 none 0 w5 from ⟨World.ownsRow_nil _ _ _ _, rfl, Below.refl _ _⟩)
  go_wp2
  go_loopw [8, 22] (fun o i wr => ∃ (k : Nat) (A1 : Option Addr) (c1 : Nat), k ≤ ns ∧ o = .slice A1 k c1 ∧ i = .int .i64 k ∧ Hid (SeI w5 q S k A1 c1 wr)) (fun _ i _ => ns - (intOf i).toNat)
  case atStart => exact ⟨0, none, 0, Nat.zero_le _, rfl, rfl, HI0⟩
  case round =>
    obtain ⟨k, A1, c1, hk, rfl, rfl, HI⟩ := hrel
    by_cases hkn : k < ns
    · obtain ⟨s, hs⟩ : ∃ s, S[k]? = some s := ⟨_, List.getElem?_eq_getElem (by rw [← HNs.out]; exact hkn)⟩
      have hsn := HSq.out s (List.mem_of_getElem? hs)
      have hbw := HI.out.2.2
      obtain ⟨gs, rfl, sc⟩ := ownN_at (HS5.out.below hbw) hs
      obtain ⟨b, o, p, rfl, hp, hb, d0, d1, d2, d3, d4, hvx, hfit⟩ := (HA.out wr (HB0.out.trans ((below_tr HB5.out hbw).mono HB0.out.size))).at_ (i := s) (by rw [← HN.out]; exact hsn)
      obtain ⟨xl, hxl⟩ : ∃ xl, xl = p.e.x.length := ⟨_, rfl⟩
      rw [← hxl] at d4
      have k0 : (0 : Int) ≤ k := by omega
      have kn : (k : Int) < ns := by omega
      have s0 : (0 : Int) ≤ s := by omega
      have sN : (s : Int) < n := by omega
      have HCe := Lib.hid (fun (X : World) (hX : Below wr.heap.size wr X) => show X.cell? ⟨b, o + s * 5 + 1, none⟩ = some (.int .u64 p.e.i) ∧ X.cell? ⟨b, o + s * 5 + 4, none⟩ = some (.slice p.B xl p.c) from ⟨(hX.cell (World.block_lt_of_cell? _ _ d1)).trans d1, (hX.cell (World.block_lt_of_cell? _ _ d4)).trans d4⟩)
      have HXb := Lib.hid (fun (X : World) (hX : Below wr.heap.size wr X) => HXa.out X (below_tr HB5.out (below_tr hbw hX)))
      have HCw := Lib.hid (Below.refl wr.heap.size wr)
      have HSn := Lib.hid (rowsAt_snoc hs hp)
      have HXl := Lib.hid hxl
      clear d0 d1 d2 d3 d4 hvx hfit hb hp hs hsn hbw hxl
      go_upto_region 8 with fail
      refine MskL.region_relU2 16 10 rfl (fun X => Below wr.heap.size wr X) (.slice A1 k c1) (seD 16 w5 q S k) (seD 17 w5 q S k) [fun v _ => v = .slice A1 k c1, fun v _ => v = .pointer (some ⟨w.heap.size, 0, none⟩), fun v _ => v = .slice (some ⟨b, o, none⟩) n c, fun v _ => v = .int .i64 (s : Nat), fun v _ => v = .pointer (some ⟨b, o + s * 5, none⟩), fun v _ => v = .pointer (some ⟨b, o + s * 5 + 1, none⟩), fun v _ => v = .int .u64 p.e.i, fun v _ => v = .pointer (some ⟨w.heap.size, 0, none⟩), fun v _ => v = .slice (some ⟨b, o, none⟩) n c, fun v _ => v = .int .i64 (s : Nat), fun v _ => v = .pointer (some ⟨b, o + s * 5, none⟩), fun v _ => v = .pointer (some ⟨b, o + s * 5 + 2, none⟩), fun v _ => v = .pointer (some ⟨b, o + s * 5 + 4, none⟩), fun v _ => v = .slice p.B xl p.c, fun v _ => v = .agg #[.int .u64 p.e.i, .slice p.B xl p.c], sePair (.int .u64 p.e.i) (.slice p.B xl p.c)]
        (fun r hr v2 w7 w8 h hb => by
          simp only [List.mem_cons, List.mem_nil_iff, or_false] at hr
          rcases hr with rfl | rfl | rfl | rfl | rfl | rfl | rfl | rfl | rfl | rfl | rfl | rfl | rfl | rfl | rfl | rfl
          iterate 15 (first | exact h | skip)
          all_goals (first | exact h | (obtain ⟨g, h1, h2⟩ := h; exact ⟨g, h1, (hb.block _ (lt_of_block h2)).trans h2⟩)))
        (by kernel_rfl) (below_drew HCw.out) (fun f hf => by have := congrArg (fun a => a.tmps.getD 8 undef) hf; simpa [MskL.fillR, Act.put] using this) (by kernel_rfl) (by kernel_rfl) (by kernel_rfl) (by kernel_rfl) (by kernel_rfl) ?_ ?_ ?_ ?_
      · refine ⟨.inr ?_, .inr ?_, .inr ?_, .inr ?_, .inr ?_, .inr ?_, .inr ?_, .inr ?_, .inr ?_, .inr ?_, .inr ?_, .inr ?_, .inr ?_, .inr ?_, .inr ?_, .inr ?_, .inl (by decide), .inl (by decide), trivial⟩
        · intro f w6 hv0 hw hd
          simp [MskL.fillR, Act.put, go_sem, MskL.relG, hw, Below.refl, hv0]
        · intro f w6 hv0 hw hd
          simp [MskL.fillR, Act.put, go_sem, MskL.relG, hw, Below.refl]
        · intro f w6 hv0 hw hd
          have e1 : f 1 = .pointer (some ⟨w.heap.size, 0, none⟩) := MskL.depG_of hd 1 (by kernel_rfl)
          have z0 := (cell_of_row _ _ 0 _ _ _ (HXb.out w6 hw)).trans rfl
          simp [MskL.fillR, Act.put, go_sem, MskL.relG, hw, Below.refl, e1, z0]
        · intro f w6 hv0 hw hd
          simp [MskL.fillR, Act.put, go_sem, MskL.relG, hw, Below.refl]
        · intro f w6 hv0 hw hd
          have e2 : f 2 = .slice (some ⟨b, o, none⟩) n c := MskL.depG_of hd 2 (by kernel_rfl)
          have e3 : f 3 = .int .i64 (s : Nat) := MskL.depG_of hd 3 (by kernel_rfl)
          simp [MskL.fillR, Act.put, go_sem, MskL.relG, hw, Below.refl, e2, e3, s0, sN]
        · intro f w6 hv0 hw hd
          have e4 : f 4 = .pointer (some ⟨b, o + s * 5, none⟩) := MskL.depG_of hd 4 (by kernel_rfl)
          simp [MskL.fillR, Act.put, go_sem, MskL.relG, hw, Below.refl, e4]
        · intro f w6 hv0 hw hd
          have e5 : f 5 = .pointer (some ⟨b, o + s * 5 + 1, none⟩) := MskL.depG_of hd 5 (by kernel_rfl)
          obtain ⟨z0, z1⟩ := HCe.out w6 hw
          simp [MskL.fillR, Act.put, go_sem, MskL.relG, hw, Below.refl, e5, z0, z1]
        · intro f w6 hv0 hw hd
          simp [MskL.fillR, Act.put, go_sem, MskL.relG, hw, Below.refl]
        · intro f w6 hv0 hw hd
          have e7 : f 7 = .pointer (some ⟨w.heap.size, 0, none⟩) := MskL.depG_of hd 7 (by kernel_rfl)
          have z0 := (cell_of_row _ _ 0 _ _ _ (HXb.out w6 hw)).trans rfl
          simp [MskL.fillR, Act.put, go_sem, MskL.relG, hw, Below.refl, e7, z0]
        · intro f w6 hv0 hw hd
          simp [MskL.fillR, Act.put, go_sem, MskL.relG, hw, Below.refl]
        · intro f w6 hv0 hw hd
          have e8 : f 8 = .slice (some ⟨b, o, none⟩) n c := MskL.depG_of hd 8 (by kernel_rfl)
          have e9 : f 9 = .int .i64 (s : Nat) := MskL.depG_of hd 9 (by kernel_rfl)
          simp [MskL.fillR, Act.put, go_sem, MskL.relG, hw, Below.refl, e8, e9, s0, sN]
        · intro f w6 hv0 hw hd
          have e10 : f 10 = .pointer (some ⟨b, o + s * 5, none⟩) := MskL.depG_of hd 10 (by kernel_rfl)
          simp [MskL.fillR, Act.put, go_sem, MskL.relG, hw, Below.refl, e10]
        · intro f w6 hv0 hw hd
          have e11 : f 11 = .pointer (some ⟨b, o + s * 5 + 2, none⟩) := MskL.depG_of hd 11 (by kernel_rfl)
          simp [MskL.fillR, Act.put, go_sem, MskL.relG, hw, Below.refl, e11]
        · intro f w6 hv0 hw hd
          have e12 : f 12 = .pointer (some ⟨b, o + s * 5 + 4, none⟩) := MskL.depG_of hd 12 (by kernel_rfl)
          obtain ⟨z0, z1⟩ := HCe.out w6 hw
          simp [MskL.fillR, Act.put, go_sem, MskL.relG, hw, Below.refl, e12, z0, z1]
        · intro f w6 hv0 hw hd
          have e6 : f 6 = .int .u64 p.e.i := MskL.depG_of hd 6 (by kernel_rfl)
          have e13 : f 13 = .slice p.B xl p.c := MskL.depG_of hd 13 (by kernel_rfl)
          simp [MskL.fillR, Act.put, go_sem, MskL.relG, hw, Below.refl, e6, e13]
        · intro f w6 hv0 hw hd
          have e14 : f 14 = .agg #[.int .u64 p.e.i, .slice p.B xl p.c] := MskL.depG_of hd 14 (by kernel_rfl)
          simp [MskL.fillR, Act.put, go_sem, MskL.relG, hw, Below.refl, e14]
          exact ⟨⟨_, rfl, heap_alloc_new _ _⟩, hw.alloc hw.size _, bn1 _ _⟩
      · intro o' ho f w6 hv0 hw hr
        obtain rfl : _ = o' := Option.some.inj ho
        have e0 : f 0 = .slice A1 k c1 := hr 0 (by decide)
        obtain ⟨g, e15, hg⟩ : sePair (.int .u64 p.e.i) (.slice p.B xl p.c) (f 15) w6 := hr 15 (by decide)
        have hrd : Read w6 (some ⟨g, 0, none⟩) 1 2 (flatR [toPr (s, p)]) := by
          have := Read.two (w := w6) (g := g) (o := 0) (a := .int .u64 p.e.i) (b := .slice p.B xl p.c) rfl rfl ((cell_of_row _ _ 0 _ _ _ hg).trans rfl) ((cell_of_row _ _ 1 _ _ _ hg).trans rfl)
          rw [HXl.out] at this
          exact this
        have hI := HI.out
        have hsz := Nat.le_trans hI.2.2.size hw.size
        refine gapp_rel rfl (.tmp 26) (.tmp 41) appR rfl w5.heap.size A1 c1 k (flatR (rowsAt q (S.take k))) (by simp [MskL.fillR, Act.put, go_sem, e0]) (row_below hI.1 hw) (some ⟨g, 0, none⟩) 1 1 (flatR [toPr (s, p)]) (by simp [MskL.fillR, Act.put, go_sem, e15]) hrd (by omega) hsz ?_
        intro A9 c9 w7 ho7 hg7
        refine ⟨_, rfl, A9, c9, MskL.setF_same _ _ _, ?_, ?_, ?_⟩
        · rw [HSn.out, flatR_append]; exact ho7
        · rw [HSn.out, List.length_append, hI.2.1]; rfl
        · exact (hI.2.2.trans (hw.mono hI.2.2.size)).grown hg7 hsz (fun i hi => (World.ownsRow.lt hI.1 i (by rw [own_blk]; exact hi)).1)
      · intro o' ho f w6 hD
        obtain rfl : _ = o' := Option.some.inj ho
        obtain ⟨A9, c9, e16, hI⟩ := hD
        simp [MskL.fillR, Act.put, go_sem, e16]
        exact ⟨A9, c9, MskL.setF_same _ _ _, hI⟩
      intro f w6 hD
      obtain ⟨A9, c9, e17, hI9⟩ := hD
      have HI9 := Lib.hid hI9
      clear hI9
      simp only [MskL.fillR, Act.put, List.size_toArray, List.length_cons, List.length_nil, List.setIfInBounds_toArray, List.set_cons_succ, List.set_cons_zero, e17]
      go_wp2
      go_roundw
      case rel => exact ⟨k + 1, A9, c9, by omega, rfl, by go_num, HI9⟩
      case measure => simp [intOf]; omega
    · obtain rfl : k = ns := by omega
      have hI := HI.out
      have hkS : S.take k = S := by rw [HNs.out, List.take_length]
      have HF := Lib.hid (show A1 = A1 ∧ (rowsAt q S).length = k ∧ Rws wr A1 c1 (rowsAt q S) ∧ Below w.heap.size w wr from by
        have hbw := HB0.out.trans ((below_tr HB5.out hI.2.2).mono HB0.out.size)
        have hA := HA.out wr hbw
        have h2 := hI.2.1
        have h1 := hI.1
        rw [hkS] at h1 h2
        refine ⟨rfl, h2, own_rws (base := w5.heap.size) (by unfold OwnR; rw [h2]; exact h1) (fun r hr => ?_) (fun r hr => ?_), hbw⟩
        · obtain ⟨s, p, hp, rfl⟩ := rowsAt_mem hr; exact hA.el p hp
        · obtain ⟨s, p, hp, rfl⟩ := rowsAt_mem hr; exact (hA.fit p hp).1)
      clear hI hkS
      go_wp2
      go_ret2
      exact ⟨A1, c1, rowsAt q S, by rw [HF.out.2.1]; rfl, HM.out, HF.out.2.2.1, HF.out.2.2.2⟩
end Go.Proofs.YtcekgllahlhaaaaGreatDoor
