/-
  The document's Prune.
-/
import Derived.Test.YtbnedhhkapbliaaChnRefDo
namespace Go.Proofs.Ytbnedhhkapbliaa
open Go.RowKit Go.Shelf
set_option linter.unusedVariables false
set_option linter.unusedSimpArgs false
set_option maxRecDepth 100000

theorem ownV_grown {base b2 n c : Nat} {w w' : World} {A : Option Addr} {xs : List Value} {B : Option Addr} {cb : Nat} {x : List Int} (hB : OwnV base w B cb x) (hr : w.ownsRow b2 35 3 (.slice A n c) n xs) (hg : w.grownBy w' (blk A)) : OwnV base w' B cb x := by
  refine ⟨hB.1.kept hg ?_, hB.2⟩
  rcases hB.1.2 with ⟨e, h0⟩ | ⟨g, cap, cur, e, hg, hh, _⟩
  · left; rw [e]; rfl
  · right
    rw [e, own_blk]
    intro hbb
    rcases hr.2 with ⟨e', _⟩ | ⟨g', cap', cur', e', _, hh', _⟩
    · injection e' with e1; rw [e1] at hbb; cases hbb
    · injection e' with e1
      rw [e1] at hbb
      have : g = g' := by simpa [blk] using hbb
      subst this
      rw [hh] at hh'
      injection hh' with hh'
      injection hh' with _ ht _
      exact absurd ht (by decide)
theorem OwnC.grown {base b2 n c c2 : Nat} {w w' : World} {A A2 : Option Addr} {xs : List Value} {q : List Pl} (h : OwnC base w A2 c2 q) (hr : w.ownsRow b2 35 3 (.slice A n c) n xs) (hg : w.grownBy w' (blk A)) (hne : ∀ i, blk A = some i → blk A2 ≠ some i) : OwnC base w' A2 c2 q := by
  refine ⟨h.row.kept hg ?_, fun p hp => ownV_grown (h.el p hp) hr hg, h.fit⟩
  rw [own_blk]
  cases hb : blk A2 with
  | none => exact .inl rfl
  | some i => exact .inr (fun e => hne i e.symm hb)

/-- The rows that stay and go so far. -/
structure PrI (w W2 : World) (l : List Vr) (t : Int) (k : Nat) (W : World) (A1 : Option Addr) (c1 n1 : Nat) (A2 : Option Addr) (c2 n2 : Nat) (r1 r2 : List Pl) : Prop where
  l1 : r1.length = n1
  l2 : r2.length = n2
  v1 : vals r1 = (l.take k).filter (lastsB · t)
  v2 : vals r2 = (l.take k).filter (fun v => !lastsB v t)
  o1 : OwnC w.heap.size W A1 c1 r1
  o2 : OwnC w.heap.size W A2 c2 r2
  low1 : ∀ i, blk A1 = some i → W2.heap.size ≤ i
  low2 : ∀ i, blk A2 = some i → W2.heap.size ≤ i
  sep : ∀ i, blk A1 = some i → blk A2 ≠ some i
  bel : Below W2.heap.size W2 W
theorem filter_more {l : List Vr} {P : Vr → Bool} {k : Nat} {v : Vr} (h : l[k]? = some v) : (l.take (k + 1)).filter P = (l.take k).filter P ++ (if P v = true then [v] else []) := by
  rw [List.take_add_one, h, List.filter_append]
  cases hp : P v <;> simp [hp]
theorem filter_le {l : List Vr} {P : Vr → Bool} {k : Nat} : ((l.take k).filter P).length ≤ k := Nat.le_trans (List.length_filter_le _ _) (by simp; omega)
section
variable {w W2 W V V' : World} {l : List Vr} {t : Int} {k c1 n1 c2 n2 c5 : Nat} {A1 A2 A5 : Option Addr} {r1 r2 : List Pl} {p : Pl}
theorem PrI.yes (h : PrI w W2 l t k W A1 c1 n1 A2 c2 n2 r1 r2) (hw : Below W.heap.size W V) (hl : l[k]? = some p.v) (hp : lastsB p.v t = true) (hv : OwnV w.heap.size V p.B p.c p.v.x) (hf : U64s p.v.b ∧ U64s p.v.f)
    (ho : V'.ownsRow w.heap.size 35 3 (.slice A5 (n1 + 1) c5) (n1 + 1) (flatC r1 ++ flatC [p])) (hg : V.grownBy V' (blk A1)) (hloc : blk A5 = blk A1 ∨ blk A5 = some V.heap.size) : PrI w W2 l t (k + 1) V' A5 c5 (n1 + 1) A2 c2 n2 (r1 ++ [p]) r2 := by
  have o1 := h.o1.below hw
  have o2 := h.o2.below hw
  have l1 := h.l1
  have z1 := hw.size
  have z2 := h.bel.size
  have hn : ∀ i, blk A5 = some i → blk A1 = some i ∨ i = V.heap.size := fun i hi => hloc.elim (fun e => .inl (by rw [← e]; exact hi)) (fun e => .inr (by rw [e] at hi; injection hi with hi; exact hi.symm))
  refine ⟨by rw [List.length_append, l1]; rfl, h.l2, by rw [vals_append, h.v1, filter_more hl, hp]; rfl, by rw [filter_more hl, hp, h.v2]; simp, o1.snoc hv hf (by rw [l1]; exact ho) hg, o2.grown (by have := o1.row; exact this) hg h.sep, ?_, h.low2, ?_, ?_⟩
  · intro i hi
    rcases hn i hi with h1 | h1
    · exact h.low1 i h1
    · omega
  · intro i hi e
    rcases hn i hi with h1 | h1
    · exact h.sep i h1 e
    · have := o2.low i e; omega
  · exact (h.bel.trans (hw.mono z2)).trans (grown_below hg (Nat.le_trans z2 z1) h.low1)
theorem PrI.no (h : PrI w W2 l t k W A1 c1 n1 A2 c2 n2 r1 r2) (hw : Below W.heap.size W V) (hl : l[k]? = some p.v) (hp : lastsB p.v t = false) (hv : OwnV w.heap.size V p.B p.c p.v.x) (hf : U64s p.v.b ∧ U64s p.v.f)
    (ho : V'.ownsRow w.heap.size 35 3 (.slice A5 (n2 + 1) c5) (n2 + 1) (flatC r2 ++ flatC [p])) (hg : V.grownBy V' (blk A2)) (hloc : blk A5 = blk A2 ∨ blk A5 = some V.heap.size) : PrI w W2 l t (k + 1) V' A1 c1 n1 A5 c5 (n2 + 1) r1 (r2 ++ [p]) := by
  have o1 := h.o1.below hw
  have o2 := h.o2.below hw
  have l2 := h.l2
  have z1 := hw.size
  have z2 := h.bel.size
  have hn : ∀ i, blk A5 = some i → blk A2 = some i ∨ i = V.heap.size := fun i hi => hloc.elim (fun e => .inl (by rw [← e]; exact hi)) (fun e => .inr (by rw [e] at hi; injection hi with hi; exact hi.symm))
  refine ⟨h.l1, by rw [List.length_append, l2]; rfl, by rw [filter_more hl, hp, h.v1]; simp, by rw [vals_append, h.v2, filter_more hl, hp]; rfl, o1.grown (by have := o2.row; exact this) hg (fun i hi e => h.sep i e hi), o2.snoc hv hf (by rw [l2]; exact ho) hg, h.low1, ?_, ?_, ?_⟩
  · intro i hi
    rcases hn i hi with h1 | h1
    · exact h.low2 i h1
    · omega
  · intro i hi e
    rcases hn i e with h1 | h1
    · exact h.sep i hi h1
    · have := o1.low i hi; omega
  · exact (h.bel.trans (hw.mono z2)).trans (grown_below hg (Nat.le_trans z2 z1) h.low2)
end

set_option maxHeartbeats 2000000 in
theorem rPrune_any (A : Option Addr) (c : Nat) (q : List Pl) (t : Int) (w : World) (h : Chn w A c q) (hs : Small q) :
    Calls Try.prog 31 #[.slice A q.length c, .int .u64 t] w fun e w' => ∃ B d r B' d' r', e = .returned (.tuple #[.slice B (List.length r) d, .slice B' (List.length r') d']) ∧ vals r = (vals q).filter (lastsB · t) ∧ OwnC w.heap.size w' B d r ∧ vals r' = (vals q).filter (fun v => !lastsB v t) ∧ OwnC w.heap.size w' B' d' r' ∧ Below w.heap.size w w' := by
  have HCp := Lib.hid (rCopy_any A c q w h hs)
  obtain ⟨n, hn⟩ : ∃ n, n = q.length := ⟨_, rfl⟩
  have hqs : n ≤ 100000 := by rw [hn]; exact hs.few
  have HN := Lib.hid hn
  rw [← hn] at HCp ⊢
  obtain ⟨l, hl⟩ : ∃ l, l = vals q := ⟨_, rfl⟩
  rw [← hl] at HCp ⊢
  have HL := Lib.hid (show l.length = n by rw [hl, vals_length, hn])
  clear h hs hn hl
  go_enter Try.func31, Try.ntmps31
  go_wp2_with fail
  refine HCp.out.mono ?_
  rintro e w2 ⟨A2, c2, q2, rfl, hv2, ho2, hb2⟩
  have hl2 : q2.length = n := by rw [← HL.out]; have := congrArg List.length hv2; rw [vals_length] at this; exact this
  rw [hl2]
  have HO2 := Lib.hid ho2
  have HB2 := Lib.hid hb2
  have HV2 := Lib.hid hv2
  have HL2 := Lib.hid hl2
  clear hv2 ho2 hb2 hl2
  go_wp2
  go_loopw [6, 7, 13] (fun u v i wr => ∃ (k : Nat) (B1 : Option Addr) (d1 n1 : Nat) (B2 : Option Addr) (d2 n2 : Nat), k ≤ n ∧ i = .int .i64 k ∧ u = .slice B1 n1 d1 ∧ v = .slice B2 n2 d2 ∧ Hid (∃ r1 r2, PrI w w2 l t k wr B1 d1 n1 B2 d2 n2 r1 r2)) (fun _ _ i _ => n - (intOf i).toNat)
  case atStart => exact ⟨0, none, 0, 0, none, 0, 0, Nat.zero_le _, rfl, rfl, rfl, Lib.hid ⟨[], [], rfl, rfl, by simp [vals], by simp [vals], OwnC.nil _ _, OwnC.nil _ _, (fun i hi => by cases hi), (fun i hi => by cases hi), (fun i hi => by cases hi), Below.refl _ _⟩⟩
  case round =>
    obtain ⟨k, B1, d1, n1, B2, d2, n2, hk, rfl, rfl, rfl, HI⟩ := hrel
    obtain ⟨r1, r2, hI⟩ := HI.out
    by_cases hkn : k < n
    · obtain ⟨b, o, p, rfl, hp, hb, e0, e1, e2, hv, hf⟩ := (HO2.out.chn.below hI.bel).at_ (i := k) (by rw [HL2.out]; exact hkn)
      have k0 : (0 : Int) ≤ k := by omega
      have kn : (k : Int) < n := by omega
      have hn1 : n1 ≤ 100000 := by rw [← hI.l1, ← vals_length, hI.v1]; have := filter_le (l := l) (P := (lastsB · t)) (k := k); omega
      have hn2 : n2 ≤ 100000 := by rw [← hI.l2, ← vals_length, hI.v2]; have := filter_le (l := l) (P := (fun v => !lastsB v t)) (k := k); omega
      have hlk : l[k]? = some p.v := by rw [← HV2.out]; exact vals_at hp
      have hvp : OwnV w.heap.size wr p.B p.c p.v.x := (HO2.out.el p (List.mem_of_getElem? hp)).below hI.bel
      obtain ⟨W1, hW1⟩ : ∃ W1, W1 = (wr.alloc (.cells #[.int .u64 p.v.b, .int .u64 p.v.f, .slice p.B p.v.x.length p.c] 35)).alloc (.cells #[.int .u64 p.v.b, .int .u64 p.v.f, .slice p.B p.v.x.length p.c] 35) := ⟨_, rfl⟩
      have hb1 : Below wr.heap.size wr W1 := by rw [hW1]; exact ((Below.refl _ wr).alloc (Nat.le_refl _) _).alloc (by simp) _
      have hz0 : (wr.alloc (.cells #[.int .u64 p.v.b, .int .u64 p.v.f, .slice p.B p.v.x.length p.c] 35)).heap.size = wr.heap.size + 1 := World.size_alloc _ _
      have hrd : Read W1 (some ⟨wr.heap.size + 1, 0, none⟩) 1 3 (flatC [p]) := by
        have hc := fun i => cell_laid (wr.alloc (.cells #[.int .u64 p.v.b, .int .u64 p.v.f, .slice p.B p.v.x.length p.c] 35)) #[.int .u64 p.v.b, .int .u64 p.v.f, .slice p.B p.v.x.length p.c] 35 i
        rw [← hW1, hz0] at hc
        exact Read.one (p := p) (hc 0) (hc 1) (hc 2)
      have HRd := Lib.hid hrd
      have HB1 := Lib.hid hb1
      have HW1 := Lib.hid hW1
      have HO1r := Lib.hid (show W1.ownsRow w.heap.size 35 3 (.slice B1 n1 d1) n1 (flatC r1) from by have := (hI.o1.below hb1).row; rw [hI.l1] at this; exact this)
      have HO2r := Lib.hid (show W1.ownsRow w.heap.size 35 3 (.slice B2 n2 d2) n2 (flatC r2) from by have := (hI.o2.below hb1).row; rw [hI.l2] at this; exact this)
      have HBs := Lib.hid (show w.heap.size ≤ W1.heap.size from Nat.le_trans HB2.out.size (Nat.le_trans hI.bel.size hb1.size))
      have HYes := Lib.hid (fun (hp2 : lastsB p.v t = true) (A5 : Option Addr) (c5 : Nat) (V' : World) (ho) (hg) (hloc) => hI.yes (p := p) (V := W1) (V' := V') (A5 := A5) (c5 := c5) hb1 hlk hp2 (hvp.below hb1) hf ho hg hloc)
      have HNo := Lib.hid (fun (hp2 : lastsB p.v t = false) (A5 : Option Addr) (c5 : Nat) (V' : World) (ho) (hg) (hloc) => hI.no (p := p) (V := W1) (V' := V') (A5 := A5) (c5 := c5) hb1 hlk hp2 (hvp.below hb1) hf ho hg hloc)
      clear hI HI hv hf hp hlk hvp hrd hb1 hW1 hz0
      by_cases g0 : p.v.f = 0
      · have HY := Lib.hid (HYes.out (by unfold lastsB; simp [g0]))
        have t1 : (p.v.f == 0) = true := by simpa using g0
        clear g0
        go_wp2_with (at_builtin; rw [← HW1.out]; refine gapp_at rfl (.tmp 26) (.tmp 28) appV rfl w.heap.size B1 d1 n1 (flatC r1) rfl HO1r.out (some ⟨wr.heap.size + 1, 0, none⟩) 1 1 (flatC [p]) rfl HRd.out (by omega) HBs.out ?_; intro A5 c5 w5 ho5 hg5 hl5; have HX := Lib.hid (HY.out A5 c5 w5 ho5 hg5 hl5); clear ho5 hg5 hl5)
        go_roundw
        case rel => exact ⟨k + 1, A5, c5, n1 + 1, B2, d2, n2, by omega, by go_num, rfl, rfl, Lib.hid ⟨_, _, HX.out⟩⟩
        case measure => simp [intOf]; omega
      · have t1 : (p.v.f == 0) = false := by simpa using g0
        by_cases g1 : t < p.v.f
        · have HY := Lib.hid (HYes.out (by unfold lastsB; simp [g1]))
          have t2 : decide (t < p.v.f) = true := by simpa using g1
          clear g0 g1
          go_wp2_with (at_builtin; rw [← HW1.out]; refine gapp_at rfl (.tmp 26) (.tmp 28) appV rfl w.heap.size B1 d1 n1 (flatC r1) rfl HO1r.out (some ⟨wr.heap.size + 1, 0, none⟩) 1 1 (flatC [p]) rfl HRd.out (by omega) HBs.out ?_; intro A5 c5 w5 ho5 hg5 hl5; have HX := Lib.hid (HY.out A5 c5 w5 ho5 hg5 hl5); clear ho5 hg5 hl5)
          go_roundw
          case rel => exact ⟨k + 1, A5, c5, n1 + 1, B2, d2, n2, by omega, by go_num, rfl, rfl, Lib.hid ⟨_, _, HX.out⟩⟩
          case measure => simp [intOf]; omega
        · have HY := Lib.hid (HNo.out (by unfold lastsB; simp [g0, g1]))
          have t2 : decide (t < p.v.f) = false := by simpa using g1
          clear g0 g1
          go_wp2_with (at_builtin; rw [← HW1.out]; refine gapp_at rfl (.tmp 30) (.tmp 32) appV rfl w.heap.size B2 d2 n2 (flatC r2) rfl HO2r.out (some ⟨wr.heap.size + 1, 0, none⟩) 1 1 (flatC [p]) rfl HRd.out (by omega) HBs.out ?_; intro A5 c5 w5 ho5 hg5 hl5; have HX := Lib.hid (HY.out A5 c5 w5 ho5 hg5 hl5); clear ho5 hg5 hl5)
          go_roundw
          case rel => exact ⟨k + 1, B1, d1, n1, A5, c5, n2 + 1, by omega, by go_num, rfl, rfl, Lib.hid ⟨_, _, HX.out⟩⟩
          case measure => simp [intOf]; omega
    · obtain rfl : k = n := by omega
      have hT : l.take k = l := by rw [← HL.out, List.take_length]
      have h1 := hI.v1
      have h2 := hI.v2
      rw [hT] at h1 h2
      have HX := Lib.hid (And.intro h1 (And.intro h2 hI))
      clear hI h1 h2 hT
      go_wp2
      go_ret2
      exact ⟨B1, d1, r1, B2, d2, r2, by rw [HX.out.2.2.l1, HX.out.2.2.l2]; rfl, HX.out.1, HX.out.2.2.o1, HX.out.2.1, HX.out.2.2.o2, HB2.out.trans (HX.out.2.2.bel.mono HB2.out.size)⟩

end Go.Proofs.Ytbnedhhkapbliaa
