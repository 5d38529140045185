/-
  slices.Concat of two rows of vectors; the law's few and some.
-/
import Derived.Test.YtgakfffkadaeeaaMnsCopy
namespace Go.Proofs.Ytgakfffkadaeeaa
open Go.RowKit Go.Shelf
set_option linter.unusedVariables false
set_option linter.unusedSimpArgs false
set_option maxRecDepth 100000

theorem below_tr {w a b : World} (h : Below w.heap.size w a) (k : Below a.heap.size a b) : Below w.heap.size w b := h.trans (k.mono h.size)
/-- A row behind what was made since. -/
theorem BrI.since {w W wr : World} {n : Nat} {L : List (List Int)} {A1 : Option Addr} {c1 : Nat} (h : BrI W L n A1 c1 wr) (hw : Below w.heap.size w W) (hv : ∀ q, vals q = L → (∀ p ∈ q, Vec .i32 W p.B p.c p.x) → ∀ p ∈ q, Vec .i32 w p.B p.c p.x) : BrI w L n A1 c1 wr := by
  obtain ⟨q, h1, h2, h3, h4, h5⟩ := h
  exact ⟨q, h1, h2, h3.mono hw.size, hv q h2 h4, below_tr hw h5⟩

set_option maxHeartbeats 1000000 in
theorem concat_any (g : Nat) (A A' : Option Addr) (c c' : Nat) (a b : List (List Int)) (w : World) (ha : Vecs .i32 w A c a) (hb : Vecs .i32 w A' c' b) (ha0 : 0 < a.length) (hal : a.length ≤ 1000) (hbl : b.length ≤ 1000)
    (h0 : w.cell? ⟨g, 0, none⟩ = some (.slice A a.length c)) (h1 : w.cell? ⟨g, 1, none⟩ = some (.slice A' b.length c')) :
    Calls Try.prog 53 #[.slice (some ⟨g, 0, none⟩) 2 2] w fun e w' => ∃ A1 c1, e = .returned (.slice A1 (a.length + b.length) c1) ∧ BrI w (a ++ b) (a.length + b.length) A1 c1 w' := by
  obtain ⟨n, hn⟩ : ∃ n, n = a.length := ⟨_, rfl⟩
  obtain ⟨m, hm⟩ : ∃ m, m = b.length := ⟨_, rfl⟩
  have HA := Lib.hid ha
  have HB := Lib.hid hb
  have HN := Lib.hid hn
  have HM := Lib.hid hm
  have HG := Lib.hid (grow_any (n + m) w (by omega) (by omega))
  have HC := Lib.hid (And.intro h0 h1)
  rw [← hn] at h0 hal ha0 HC
  rw [← hm] at h1 hbl HC
  rw [← hn, ← hm]
  clear ha hb hn hm
  go_enter Try.func53, Try.ntmps53
  go_wp2
  go_loopw [3, 11] (fun s i wr => w = wr ∧ ((s = .int .i64 0 ∧ i = .int .i64 0) ∨ (s = .int .i64 n ∧ i = .int .i64 1) ∨ (s = .int .i64 ((n + m : Nat) : Int) ∧ i = .int .i64 2))) (fun _ i _ => 2 - (intOf i).toNat)
  case atStart => exact ⟨rfl, .inl ⟨rfl, rfl⟩⟩
  case round =>
    obtain ⟨rfl, hrel⟩ := hrel
    rcases hrel with ⟨rfl, rfl⟩ | ⟨rfl, rfl⟩ | ⟨rfl, rfl⟩
    · have w1 : wrap64 (0 + (n : Int)) = n := by unfold wrap64; omega
      have n0 : ¬ ((n : Int) < 0) := by omega
      go_wp2
      go_roundw
      case rel => exact ⟨by first | rfl | trivial, .inr (.inl ⟨by first | rfl | go_num | simp, by first | rfl | go_num | simp⟩)⟩
      case measure => simp [intOf]
    · have w1 : wrap64 ((n : Int) + (m : Int)) = ((n + m : Nat) : Int) := by unfold wrap64; omega
      have n0 : ¬ ((n : Int) + (m : Int) < 0) := by omega
      go_wp2
      go_roundw
      case rel => exact ⟨by first | rfl | trivial, .inr (.inr ⟨by first | rfl | go_num | simp, by first | rfl | go_num | simp⟩)⟩
      case measure => simp [intOf]
    · go_wp2_with fail
      refine HG.out.mono ?_
      rintro e w1 ⟨A1, c1, rfl, hI⟩
      have HI := Lib.hid hI
      clear hI
      go_wp2
      go_loopw [6, 27] (fun s i wr => (∃ A1 c1, s = .slice A1 0 c1 ∧ i = .int .i64 0 ∧ Hid (BrI w [] 0 A1 c1 wr)) ∨ (∃ A1 c1, s = .slice A1 n c1 ∧ i = .int .i64 1 ∧ Hid (BrI w a n A1 c1 wr)) ∨ (∃ A1 c1, s = .slice A1 (n + m) c1 ∧ i = .int .i64 2 ∧ Hid (BrI w (a ++ b) (n + m) A1 c1 wr))) (fun _ i _ => 2 - (intOf i).toNat)
      case atStart => exact .inl ⟨A1, c1, rfl, rfl, HI⟩
      case round =>
        rcases hrel with ⟨A2, c2, rfl, rfl, HI2⟩ | ⟨A2, c2, rfl, rfl, HI2⟩ | ⟨A2, c2, rfl, rfl, HI2⟩
        · have hb2 := HI2.out.vecs.2.1
          have e0 := (hb2.cell (p := ⟨g, 0, none⟩) (World.block_lt_of_cell? w _ HC.out.1)).trans HC.out.1
          obtain ⟨vs, news, r1, r2, r3, r4⟩ := HI2.out.more HA.out
          rw [← HN.out] at r1 r4
          rw [Nat.zero_add, List.nil_append] at r4
          have HR := Lib.hid r1
          have HO := Lib.hid r2
          have HX := Lib.hid r4
          clear hb2 r1 r2 r4 h0 h1
          go_wp2_with (at_builtin; refine gapp_at rfl (.tmp 31) (.tmp 32) appV rfl w.heap.size A2 c2 0 vs rfl HO.out A c n news rfl HR.out (by omega) r3 ?_; intro A5 c5 w4 ho hg _; rw [Nat.zero_add] at ho ⊢; have HN4 := Lib.hid (HX.out A5 c5 w4 ho hg); clear ho hg)
          go_roundw
          case rel => exact .inr (.inl ⟨A5, c5, rfl, by first | rfl | go_num | simp, HN4⟩)
          case measure => simp [intOf]
        · have hb2 := HI2.out.vecs.2.1
          have e0 := (hb2.cell (p := ⟨g, 1, none⟩) (World.block_lt_of_cell? w _ HC.out.2)).trans HC.out.2
          obtain ⟨vs, news, r1, r2, r3, r4⟩ := HI2.out.more HB.out
          rw [← HM.out] at r1 r4
          have HR := Lib.hid r1
          have HO := Lib.hid r2
          have HX := Lib.hid r4
          clear hb2 r1 r2 r4 h0 h1
          go_wp2_with (at_builtin; refine gapp_at rfl (.tmp 31) (.tmp 32) appV rfl w.heap.size A2 c2 n vs rfl HO.out A' c' m news rfl HR.out (by omega) r3 ?_; intro A5 c5 w4 ho hg _; have HN4 := Lib.hid (HX.out A5 c5 w4 ho hg); clear ho hg)
          go_roundw
          case rel => exact .inr (.inr ⟨A5, c5, rfl, by first | rfl | go_num | simp, HN4⟩)
          case measure => simp [intOf]
        · go_wp2
          go_ret
          exact ⟨A2, c2, rfl, HI2.out⟩

/-! ### the law's few and some -/
def fewM (l : List (List Int)) (m : Nat) : List (List Int) := (l.take m).map (·.take 5)
theorem few_take (l : List (List Int)) (m k : Nat) : fewM (l.take k) m = fewM l (min m k) := by unfold fewM; rw [List.take_take]
theorem few_yes {l : List (List Int)} {m k : Nat} {x : List Int} (hx : l[k]? = some x) (hk : k < m) : fewM (l.take (k + 1)) m = fewM (l.take k) m ++ [x.take 5] := by
  rw [few_take, few_take, show min m (k + 1) = k + 1 by omega, show min m k = k by omega]
  unfold fewM
  rw [List.take_add_one, hx, List.map_append]; rfl
theorem few_no {l : List (List Int)} {m k : Nat} (hk : ¬ k < m) : fewM (l.take (k + 1)) m = fewM (l.take k) m := by
  rw [few_take, few_take, show min m (k + 1) = m by omega, show min m k = m by omega]
theorem few_length (l : List (List Int)) (m : Nat) : (fewM l m).length = min m l.length := by unfold fewM; simp
theorem few_short (l : List (List Int)) (m : Nat) : ∀ x ∈ fewM l m, x.length ≤ 5 := by
  intro x hx
  unfold fewM at hx
  obtain ⟨y, _, rfl⟩ := List.mem_map.1 hx
  simp; omega
theorem few_more {l : List (List Int)} {a b : Nat} (h : (fewM l b).length ≤ a) (hab : a ≤ b) : fewM l a = fewM l b := by
  rw [few_length] at h
  unfold fewM
  congr 1
  rcases Nat.le_or_le l.length a with h1 | h1
  · rw [List.take_of_length_le h1, List.take_of_length_le (by omega)]
  · rw [show a = min b l.length by omega]
    rcases Nat.le_or_le b l.length with h2 | h2
    · rw [Nat.min_eq_left h2]
    · rw [Nat.min_eq_right h2, List.take_of_length_le (Nat.le_refl _), List.take_of_length_le h2]
theorem Vec.take {k : IntKind} {w : World} {A : Option Addr} {c : Nat} {xs : List Int} (h : Vec k w A c xs) (n : Nat) : Vec k w A c (xs.take n) := by
  have hl : (xs.take n).length ≤ xs.length := by simp; omega
  refine ⟨Nat.le_trans hl h.room, h.most, fun hp => ?_, fun x hx => h.fit x (List.mem_of_mem_take hx)⟩
  obtain ⟨b, o, e, hb, hc⟩ := h.rd (by omega)
  refine ⟨b, o, e, hb, fun j hj => ?_⟩
  rw [hc j (by omega)]
  have hjn : j < n := by rw [List.length_take] at hj; omega
  simp [List.getD, List.getElem?_take, hjn]
/-- The few so far. -/
def FwI (w : World) (L : List (List Int)) (n : Nat) (A1 : Option Addr) (c1 : Nat) (wr : World) : Prop := ∃ q, List.length q = n ∧ vals q = L ∧ OwnVs w.heap.size wr A1 c1 q ∧ Below w.heap.size w wr
theorem FwI.step {w wr W : World} {L : List (List Int)} {n : Nat} {A1 B : Option Addr} {c1 cb : Nat} {x : List Int} (h : FwI w L n A1 c1 wr) (hW : Below wr.heap.size wr W) (hv : OwnV w.heap.size W B cb x) :
    ∃ vs, Read (W.alloc (.cells #[.slice B x.length cb] 35)) (some ⟨W.heap.size, 0, none⟩) 1 1 [.slice B x.length cb] ∧ (W.alloc (.cells #[.slice B x.length cb] 35)).ownsRow w.heap.size 35 1 (.slice A1 n c1) n vs ∧ w.heap.size ≤ (W.alloc (.cells #[.slice B x.length cb] 35)).heap.size ∧
      ∀ A2 c2 W', W'.ownsRow w.heap.size 35 1 (.slice A2 (n + 1) c2) (n + 1) (vs ++ [.slice B x.length cb]) → (W.alloc (.cells #[.slice B x.length cb] 35)).grownBy W' (blk A1) → FwI w (L ++ [x]) (n + 1) A2 c2 W' := by
  obtain ⟨q, h1, h2, h3, h4⟩ := h
  subst h1
  obtain ⟨V, hV⟩ : ∃ V, V = W.alloc (.cells #[.slice B x.length cb] 35) := ⟨_, rfl⟩
  rw [← hV]
  have hbV : Below W.heap.size W V := by rw [hV]; exact (Below.refl _ W).alloc (Nat.le_refl _) _
  have hb := hW.trans (hbV.mono hW.size)
  have hs := h4.size
  have hs1 := hW.size
  have hs2 := hbV.size
  refine ⟨flatV q, Read.one rfl (by rw [hV]; exact cell_laid _ _ _ 0), h3.row.below hb, by omega, fun A2 c2 W' hr hg => ?_⟩
  refine ⟨q ++ [⟨x, B, cb⟩], by simp, by rw [vals_append, h2]; rfl, (h3.below hb).snoc (p := ⟨x, B, cb⟩) (hv.below hbV) hr hg, ?_⟩
  exact (h4.trans (hb.mono hs)).trans (grown_below hg (by omega) (fun i hi => (h3.row.low i hi).1))
theorem FwI.below {w wr W : World} {L : List (List Int)} {n : Nat} {A1 : Option Addr} {c1 : Nat} (h : FwI w L n A1 c1 wr) (hb : Below wr.heap.size wr W) : FwI w L n A1 c1 W := by
  obtain ⟨q, h1, h2, h3, h4⟩ := h
  exact ⟨q, h1, h2, h3.below hb, below_tr h4 hb⟩
theorem FwI.len {w wr : World} {L : List (List Int)} {n : Nat} {A1 : Option Addr} {c1 : Nat} (h : FwI w L n A1 c1 wr) : n = L.length ∧ Below w.heap.size w wr ∧ Vecs .i32 wr A1 c1 L := by
  obtain ⟨q, h1, h2, h3, h4⟩ := h
  subst h2
  exact ⟨by rw [← h1, vals_length], h4, h3.vecs⟩
/-- An append of numbers to none. -/
theorem own_app {w W W' : World} {B A5 : Option Addr} {cb c5 : Nat} {x : List Int} (hW : w.heap.size ≤ W.heap.size) (hf : ∀ y ∈ x, (Lit.int .i32 y).wf = true)
    (ho : W'.ownsRow W.heap.size 21 1 (.slice A5 (0 + x.length) c5) (0 + x.length) ([] ++ x.map (Value.int .i32))) (hg : (W.alloc (.cells #[] 21)).grownBy W' (blk (some ⟨W.heap.size, 0, none⟩))) : OwnV w.heap.size W' A5 c5 x ∧ Below W.heap.size W W' := by
  rw [Nat.zero_add, List.nil_append] at ho
  exact ⟨⟨ho.mono hW, hf⟩, ((Below.refl _ W).alloc (Nat.le_refl _) (.cells #[] 21)).grown hg (by simp) (fun k hk => Nat.le_of_eq (show W.heap.size = k by simpa [blk] using hk))⟩

set_option maxHeartbeats 2000000 in
theorem few_any (A : Option Addr) (c : Nat) (l : List (List Int)) (most : Nat) (w : World) (h : Vecs .i32 w A c l) (hmo : most ≤ 1000000) : Calls Try.prog 13 #[.slice A l.length c, .int .i64 most] w (GivesV w (fewM l most)) := by
  obtain ⟨n, hn⟩ : ∃ n, n = l.length := ⟨_, rfl⟩
  have hmx : n ≤ 9223372036854775807 := by rw [hn]; exact Nat.le_trans h.room h.most
  have HQ := Lib.hid h
  have HN := Lib.hid hn
  rw [← hn]
  have H0 := Lib.hid (show FwI w (fewM (l.take 0) most) 0 none 0 w from ⟨[], rfl, by simp [vals, fewM], OwnVs.nil _ _, Below.refl _ _⟩)
  clear h hn
  go_enter Try.func13, Try.ntmps13
  go_wp2
  go_loopw [5, 10] (fun s i wr => ∃ k m A1 c1, k ≤ n ∧ i = .int .i64 (k : Nat) ∧ s = .slice A1 m c1 ∧ Hid (FwI w (fewM (l.take k) most) m A1 c1 wr)) (fun _ i _ => n - (intOf i).toNat)
  case atStart => exact ⟨0, 0, none, 0, Nat.zero_le _, rfl, rfl, H0⟩
  case round =>
    obtain ⟨k, m, A1, c1, hk, rfl, rfl, HI⟩ := hrel
    by_cases hkn : k < n
    · obtain ⟨hml, hbw, _⟩ := HI.out.len
      obtain ⟨b, o, x, B, cb, rfl, hx, hb, c0, hv⟩ := (HQ.out.below hbw).at_ (i := k) (by rw [← HN.out]; exact hkn)
      have HX := Lib.hid hx
      have k0 : (0 : Int) ≤ k := by omega
      have kn : (k : Int) < n := by omega
      by_cases hkm : k < most
      · have tk : decide ((k : Int) < (most : Int)) = true := by simp; omega
        have hm1 : m ≤ 1000000 := by rw [hml, few_length]; omega
        have HF := Lib.hid (few_yes hx hkm)
        have hvr := hv.room
        have hvm := hv.most
        have hv5 := hv.take 5
        have HR := Lib.hid (Read.vec (hv5.below ((Below.refl _ wr).alloc (Nat.le_refl _) (.cells #[] 21))))
        have HO := Lib.hid (World.ownsRow_made (base := wr.heap.size) (size := 1) (e := 21) wr #[] 0 (Nat.le_refl _) (Nat.zero_le _) rfl)
        have HAp := Lib.hid (fun A5 c5 W' => own_app (w := w) (W := wr) (W' := W') (B := B) (A5 := A5) (cb := cb) (c5 := c5) (x := x.take 5) hbw.size hv5.fit)
        have hx5 : (x.take 5).length = min x.length 5 := by simp; omega
        obtain ⟨xl, hxl⟩ : ∃ xl, xl = x.length := ⟨_, rfl⟩
        obtain ⟨zl, hzl⟩ : ∃ zl, zl = (x.take 5).length := ⟨_, rfl⟩
        have HZL := Lib.hid hzl
        have hz5 : zl ≤ 5 := by omega
        have hzx : zl ≤ xl := by omega
        have hmin : min (xl : Int) 5 = (zl : Int) := by omega
        rw [← hxl] at c0 hvr
        rw [← hzl] at HR HAp
        have HST := Lib.hid (fun (A5 : Option Addr) (c5 : Nat) (w4 : World) (hb4 : Below wr.heap.size wr w4) (hov : OwnV w.heap.size w4 A5 c5 (x.take 5)) => HI.out.step hb4 hov)
        rw [← hzl] at HST
        rw [← HF.out] at HST
        clear hx hb hv hv5 hx5 hbw hml hxl hzl
        go_wp2_with (first
          | (at_builtin; refine gapp_at rfl (.tmp 19) (.tmp 24) appI rfl wr.heap.size (some ⟨wr.heap.size, 0, none⟩) 0 0 [] rfl HO.out B cb zl ((x.take 5).map (Value.int .i32)) rfl HR.out (by omega) (by simp) ?_; intro A5 c5 w4 ho hg _; obtain ⟨hov, hb4⟩ := HAp.out A5 c5 w4 ho hg; obtain ⟨vs, r1, r2, r3, r5⟩ := HST.out A5 c5 w4 hb4 hov; have HR1 := Lib.hid r1; have HR2 := Lib.hid r2; have HR5 := Lib.hid r5; rw [Nat.zero_add]; clear ho hg hov hb4 r1 r2 r5)
          | (at_builtin; refine gapp_at rfl (.tmp 18) (.tmp 26) appV rfl w.heap.size A1 c1 m vs rfl HR2.out (some ⟨w4.heap.size, 0, none⟩) 1 1 [.slice A5 zl c5] rfl HR1.out (by omega) r3 ?_; intro A6 c6 w6 ho hg _; have HN4 := Lib.hid (HR5.out A6 c6 w6 ho hg); clear ho hg))
        go_roundw
        case rel => exact ⟨k + 1, m + 1, A6, c6, by omega, by go_num, rfl, HN4⟩
        case measure => simp [intOf]; omega
      · have tk : decide ((k : Int) < (most : Int)) = false := by simp; omega
        have HF := Lib.hid (few_no (l := l) hkm)
        clear hx hb hv
        go_wp2
        go_roundw
        case rel => exact ⟨k + 1, m, A1, c1, by omega, by go_num, rfl, Lib.hid (by rw [HF.out]; exact HI.out)⟩
        case measure => simp [intOf]; omega
    · obtain rfl : k = n := by omega
      have HT := Lib.hid (show l.take k = l by rw [HN.out, List.take_length])
      go_wp2
      go_ret
      obtain ⟨q, q1, q2, q3, q4⟩ := HI.out
      subst q1
      exact ⟨A1, c1, q, rfl, by rw [q2, HT.out], q3, q4⟩

/-! ### numbers of the call's own -/
def OwnN (base : Nat) (w : World) (A : Option Addr) (c : Nat) (xs : List Int) : Prop := w.ownsRow base 3 1 (.slice A xs.length c) xs.length (xs.map (Value.int .i64)) ∧ ∀ x ∈ xs, (Lit.int .i64 x).wf = true
theorem OwnN.vec {base : Nat} {w : World} {A : Option Addr} {c : Nat} {xs : List Int} (h : OwnN base w A c xs) : Vec .i64 w A c xs := by
  obtain ⟨A', c', e, hv⟩ := Vec.own (m := 0) h.1 h.2
  injection e with e1 _ e2
  subst e1
  subst e2
  exact hv
theorem OwnN.nil (base : Nat) (w : World) : OwnN base w none 0 [] := ⟨World.ownsRow_nil _ _ _ _, by simp⟩
theorem OwnN.low {base : Nat} {w : World} {A : Option Addr} {c : Nat} {xs : List Int} (h : OwnN base w A c xs) : ∀ i, blk A = some i → base ≤ i ∧ i < w.heap.size := fun i hi => h.1.lt i (by rw [own_blk]; exact hi)
theorem OwnN.below {base : Nat} {w w' : World} {A : Option Addr} {c : Nat} {xs : List Int} (h : OwnN base w A c xs) (hb : Below w.heap.size w w') : OwnN base w' A c xs := ⟨row_turn h.1 (Turn.of_below (S := fun _ => False) hb) (fun _ _ e => e), h.2⟩
/-- One more number. -/
theorem OwnN.step {base : Nat} {w W : World} {A1 : Option Addr} {c1 n : Nat} {xs : List Int} {x : Int} (h : OwnN base w A1 c1 xs) (hn : n = xs.length) (hW : Below w.heap.size w W) (hB : base ≤ w.heap.size) (hx : (Lit.int .i64 x).wf = true) :
    Read (W.alloc (.cells #[.int .i64 x] 3)) (some ⟨W.heap.size, 0, none⟩) 1 1 [.int .i64 x] ∧ (W.alloc (.cells #[.int .i64 x] 3)).ownsRow base 3 1 (.slice A1 n c1) n (xs.map (Value.int .i64)) ∧ base ≤ (W.alloc (.cells #[.int .i64 x] 3)).heap.size ∧
      ∀ A2 c2 W', W'.ownsRow base 3 1 (.slice A2 (n + 1) c2) (n + 1) (xs.map (Value.int .i64) ++ [.int .i64 x]) → (W.alloc (.cells #[.int .i64 x] 3)).grownBy W' (blk A1) → OwnN base W' A2 c2 (xs ++ [x]) ∧ Below base w W' := by
  subst hn
  obtain ⟨V, hV⟩ : ∃ V, V = W.alloc (.cells #[.int .i64 x] 3) := ⟨_, rfl⟩
  rw [← hV]
  have hbV : Below W.heap.size W V := by rw [hV]; exact (Below.refl _ W).alloc (Nat.le_refl _) _
  have hb := hW.trans (hbV.mono hW.size)
  have hs1 := hW.size
  have hs2 := hbV.size
  refine ⟨Read.int (by rw [hV]; exact cell_laid _ _ _ 0), (h.below hb).1, by omega, fun A2 c2 W' hr hg => ⟨⟨by rw [List.length_append, List.map_append]; exact hr, fun y hy => ?_⟩, ?_⟩⟩
  · rcases List.mem_append.1 hy with hy | hy
    · exact h.2 y hy
    · obtain rfl : y = x := by simpa using hy
      exact hx
  · exact (hb.mono hB).trans (grown_below hg (by omega) (fun i hi => (h.low i hi).1))

theorem some_any (A : Option Addr) (c : Nat) (d : List Int) (w : World) (h : Vec .i64 w A c d) : Calls Try.prog 14 #[.slice A d.length c] w fun e w' => ∃ A1 c1, e = .returned (.slice A1 (d.take 7).length c1) ∧ Vec .i64 w' A1 c1 (d.take 7) ∧ Below w.heap.size w w' := by
  have h7 := h.take 7
  have hr := h.room
  have hm := h.most
  have HR := Lib.hid (Read.vec (h7.below ((Below.refl _ w).alloc (Nat.le_refl _) (.cells #[] 3))))
  have HO := Lib.hid (World.ownsRow_made (base := w.heap.size) (size := 1) (e := 3) w #[] 0 (Nat.le_refl _) (Nat.zero_le _) rfl)
  have HF := Lib.hid h7.fit
  have hx7 : (d.take 7).length = min d.length 7 := by simp; omega
  obtain ⟨xl, hxl⟩ : ∃ xl, xl = d.length := ⟨_, rfl⟩
  obtain ⟨zl, hzl⟩ : ∃ zl, zl = (d.take 7).length := ⟨_, rfl⟩
  have HZ := Lib.hid hzl
  have hz7 : zl ≤ 7 := by omega
  have hzx : zl ≤ xl := by omega
  have hmin : min (xl : Int) 7 = (zl : Int) := by omega
  rw [← hxl] at hr ⊢
  rw [← hzl] at HR ⊢
  clear h h7 hx7 hxl hzl
  go_enter Try.func14, Try.ntmps14
  go_wp2_with (at_builtin; refine gapp_at rfl (.tmp 3) (.tmp 8) appN rfl w.heap.size (some ⟨w.heap.size, 0, none⟩) 0 0 [] rfl HO.out A c zl ((d.take 7).map (Value.int .i64)) rfl HR.out (by omega) (by simp) ?_; intro A5 c5 w4 ho hg _; rw [Nat.zero_add] at ho ⊢; rw [List.nil_append] at ho; have HO4 := Lib.hid ho; have HB4 := Lib.hid (show Below w.heap.size w w4 from ((Below.refl _ w).alloc (Nat.le_refl _) (.cells #[] 3)).grown hg (by simp) (fun k hk => Nat.le_of_eq (show w.heap.size = k by simpa [blk] using hk))); clear ho hg)
  go_ret
  exact ⟨A5, c5, rfl, OwnN.vec (base := w.heap.size) ⟨by rw [← HZ.out]; exact HO4.out, HF.out⟩, HB4.out⟩
end Go.Proofs.Ytgakfffkadaeeaa
