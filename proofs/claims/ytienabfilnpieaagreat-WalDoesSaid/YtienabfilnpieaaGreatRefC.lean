/-
  The document's own reading of a file (quiverref04.Read).
  The document's SameAll; what Open makes of a file that lies alone on a disk.
-/
import Derived.Test.YtienabfilnpieaaGreatRefB
import Derived.Test.YtienabfilnpieaaGreatWalCutI
import Derived.Test.YtienabfilnpieaaGreatWalAlone
namespace Go.Proofs.YtienabfilnpieaaGreat
open Go.RowKit
set_option linter.unusedVariables false
set_option linter.unusedSimpArgs false
set_option linter.unusedSimpArgs false
set_option maxRecDepth 100000

theorem part_oct {k : Int} {r p : List Int} (ho : Oct r) (h : partM k r = some p) : Oct p := by
  unfold partM at h
  cases hs : stepM k r with
  | none => rw [hs] at h; cases h
  | some pr =>
    obtain ⟨q, r'⟩ := pr
    have hl := stepM_len hs
    obtain ⟨s, hsv⟩ : ∃ s : Nat, (s : Int) = val (r.take 4) := ⟨(val (r.take 4)).toNat, by have := val_nonneg (ho.takeN 4); omega⟩
    rw [hs] at h
    dsimp only at h
    rw [stepM_is (by omega) hsv] at hs
    split at h
    · injection h with h
      subst h
      split at hs
      · cases hs
      · split at hs
        · cases hs
        · injection hs with hs
          injection hs with e1 _
          rw [← e1]
          exact (ho.dropN 12).takeN s
    · cases h
theorem parts_octs {bs : List Int} (ho : Oct bs) : ∀ p ∈ partsM bs, Oct p := fun p hp => by
  obtain ⟨k, hk⟩ := List.mem_iff_getElem?.1 hp
  have hkl := (List.getElem?_eq_some_iff.1 hk).1
  exact part_oct (ho.dropN _) ((parts_at ho k (by omega)).1 p hk).1
theorem part_len {k : Int} {r p : List Int} (h : partM k r = some p) : p.length ≤ 16000 := by
  unfold partM at h
  cases hs : stepM k r with
  | none => rw [hs] at h; cases h
  | some pr =>
    obtain ⟨q, r'⟩ := pr
    rw [hs] at h
    dsimp only at h
    split at h
    · injection h with h
      subst h
      assumption
    · cases h
def okL (bs : List Int) : Prop := limitM bs ≠ 0 ∧ partsM bs ≠ []
abbrev zeroL : Value := .agg #[.int .i64 0, .slice none 0 0, .int .i64 0]
def ReadL (w : World) (bs : List Int) (e : Ending) (w' : World) : Prop :=
  Below w.heap.size w w' ∧ (¬ okL bs → e = .returned (.tuple #[zeroL, .bool false])) ∧
  (okL bs → ∃ A c vs, e = .returned (.tuple #[.agg #[.int .i64 (limitM bs), .slice A (partsM bs).length c, .int .i64 ((costM (partsM bs) + 20 : Nat) : Int)], .bool true]) ∧ RowsAt w' w.heap.size (.slice A (partsM bs).length c) (partsM bs) vs)
theorem RowsAt.keep {w w' : World} {base : Nat} {v : Value} {ps : List (List Int)} {vs : List Value} (h : RowsAt w base v ps vs) (hb : ∀ q, base ≤ q → w'.heap[q]? = w.heap[q]?) : RowsAt w' base v ps vs := by
  obtain ⟨A, c, rfl, _, _⟩ := own_form h.row
  refine ⟨row_same h.row fun q hq => hb q (h.row.lt q (by cases A <;> simp_all [Value.ownBlock, blk])).1, fun i p hp => ?_⟩
  obtain ⟨B, cb, h1, h2⟩ := h.each i p hp
  exact ⟨B, cb, h1, row_same h2 fun q hq => hb q (h2.lt q (by cases B <;> simp_all [Value.ownBlock, blk])).1⟩
theorem own_low {w : World} {b1 b2 : Nat} {e : TypeId} {v : Value} {n : Nat} {xs : List Value} (h : w.ownsRow b1 e 1 v n xs) (hb : b2 ≤ b1) : w.ownsRow b2 e 1 v n xs := by
  refine ⟨h.1, ?_⟩
  rcases h.2 with h0 | ⟨g, cap, cur, e1, hg, r⟩
  · exact .inl h0
  · exact .inr ⟨g, cap, cur, e1, Nat.le_trans hb hg, r⟩
theorem RowsAt.low {w : World} {base b2 : Nat} {v : Value} {ps : List (List Int)} {vs : List Value} (h : RowsAt w base v ps vs) (hb : b2 ≤ base) : RowsAt w b2 v ps vs :=
  ⟨own_low h.row hb, fun i p hp => by obtain ⟨B, cb, h1, h2⟩ := h.each i p hp; exact ⟨B, cb, h1, own_low h2 hb⟩⟩
/-- While parts are read. -/
def ReadI (w : World) (bs : List Int) (k : Nat) (A : Option Addr) (c : Nat) (vs : List Value) (wr : World) : Prop :=
  wr.heap[w.heap.size]? = some (.cells #[.int .i64 0, .slice none 0 0, .int .i64 0] 47 (0, 0)) ∧ wr.heap[w.heap.size + 1]? = some (.cells #[.int .i64 (limitM bs), .slice A k c, .int .i64 ((20 + costM ((partsM bs).take k) : Nat) : Int)] 47 (0, 0)) ∧
  RowsAt wr (w.heap.size + 2) (.slice A k c) ((partsM bs).take k) vs ∧ k ≤ (partsM bs).length ∧ Below w.heap.size w wr
theorem read_later {w wr w5 : World} {bs : List Int} {k : Nat} {A : Option Addr} {c : Nat} {vs : List Value} (h : ReadI w bs k A c vs wr) (hb : Below wr.heap.size wr w5) (n : Nat) : ReadI w bs k A c vs (w5.drewN n) := by
  obtain ⟨h1, h2, h3, h4, h5⟩ := h
  have hb' : Below wr.heap.size wr (w5.drewN n) := below_drewN hb n
  exact ⟨(hb'.block _ (lt_of_block h1)).trans h1, (hb'.block _ (lt_of_block h2)).trans h2, h3.later hb', h4, h5.trans (hb'.mono h5.size)⟩
theorem read_alloc {w W W' : World} {bs : List Int} {k : Nat} {A : Option Addr} {c : Nat} {vs : List Value} (h : ReadI w bs k A c vs W) (hb : Below W.heap.size W W') : ReadI w bs k A c vs W' := by
  obtain ⟨h1, h2, h3, h4, h5⟩ := h
  exact ⟨(hb.block _ (lt_of_block h1)).trans h1, (hb.block _ (lt_of_block h2)).trans h2, h3.later hb, h4, h5.trans (hb.mono h5.size)⟩
theorem read_more {w W W2 : World} {bs : List Int} {k : Nat} {A : Option Addr} {c : Nat} {vs : List Value} (h : ReadI w bs k A c vs W) {p : List Int} (hp : (partsM bs)[k]? = some p) {B : Option Addr} {cb : Nat} (hn : W.ownsRow (w.heap.size + 2) 5 1 (.slice B p.length cb) p.length (p.map (Value.int .u8)))
    (hg : W.grownBy W2 (blk A)) {A2 : Option Addr} {c2 : Nat} (hr : W2.ownsRow (w.heap.size + 2) 33 1 (.slice A2 (k + 1) c2) (k + 1) (vs ++ [.slice B p.length cb])) :
    W2.heap[w.heap.size + 1]? = some (.cells #[.int .i64 (limitM bs), .slice A k c, .int .i64 ((20 + costM ((partsM bs).take k) : Nat) : Int)] 47 (0, 0)) ∧
    ReadI w bs (k + 1) A2 c2 (vs ++ [.slice B p.length cb]) ((W2.setCell ⟨w.heap.size + 1, 1, none⟩ (.slice A2 (k + 1) c2)).setCell ⟨w.heap.size + 1, 2, none⟩ (.int .i64 ((20 + costM ((partsM bs).take (k + 1)) : Nat) : Int))) := by
  obtain ⟨h1, h2, h3, h4, h5⟩ := h
  have hbA : ∀ q, blk A = some q → w.heap.size + 2 ≤ q := fun q hq => (h3.row.lt q (by cases A <;> simp_all [Value.ownBlock, blk])).1
  have k2 : W2.heap[w.heap.size + 1]? = _ := (hg.block _ (lt_of_block h2) (fun e => by have := hbA _ e.symm; omega)).trans h2
  have k1 : W2.heap[w.heap.size]? = _ := (hg.block _ (lt_of_block h1) (fun e => by have := hbA _ e.symm; omega)).trans h1
  have e2 : ∀ q, q ≠ w.heap.size + 1 → ((W2.setCell ⟨w.heap.size + 1, 1, none⟩ (.slice A2 (k + 1) c2)).setCell ⟨w.heap.size + 1, 2, none⟩ (.int .i64 ((20 + costM ((partsM bs).take (k + 1)) : Nat) : Int))).heap[q]? = W2.heap[q]? := fun q hq => (Below.heap_setCell _ _ _ _ hq).trans (Below.heap_setCell _ _ _ _ hq)
  have hk : k < (partsM bs).length := (List.getElem?_eq_some_iff.1 hp).1
  have hlk : ((partsM bs).take k).length = k := by rw [List.length_take]; omega
  have htk : (partsM bs).take (k + 1) = (partsM bs).take k ++ [p] := by rw [List.take_add_one, hp]; rfl
  have hrows : RowsAt W2 (w.heap.size + 2) (.slice A2 (k + 1) c2) ((partsM bs).take (k + 1)) (vs ++ [.slice B p.length cb]) := by
    rw [htk]
    exact RowsAt.more h3 hn (by rw [ob_eq]; exact hg) (by rw [hlk]; exact hr)
  refine ⟨k2, (e2 _ (by omega)).trans k1, heap_set (heap_set k2 1 _) 2 _, hrows.keep (fun q hq => e2 q (by omega)), by omega, ?_⟩
  have hz := hg.size
  have hs5 := h5.size
  refine ⟨hg.os.trans h5.os, hg.tape.trans h5.tape, hg.output.trans h5.output, by simp [World.setCell]; omega, fun q hq => ?_⟩
  rw [e2 q (by omega), hg.block q (by omega) (fun e => by have := hbA _ e.symm; omega)]
  exact h5.block q hq

set_option maxHeartbeats 8000000 in
theorem rRead_any (A : Option Addr) (c : Nat) (bs : List Int) (w : World) (hs : Sl w A c bs) (ho : Oct bs) (hbig : bs.length ≤ 100000) : Calls Tryz.prog 14 #[.slice A bs.length c] w (ReadL w bs) := by
  obtain ⟨i0, hi, hz0, hz1, hz2⟩ := info_parts infoBytes
  have hb1 : Below w.heap.size w (w.alloc (.cells #[.int .i64 0, .slice none 0 0, .int .i64 0] 47)) := (Below.refl _ w).alloc (Nat.le_refl _) _
  have hx1 := heap_alloc_new w (.cells #[.int .i64 0, .slice none 0 0, .int .i64 0] 47)
  by_cases h20 : bs.length < 20
  · have HNO := Lib.hid (show ¬ okL bs from fun e => e.1 (limit_short bs h20))
    have h20' : (bs.length : Int) < 20 := by omega
    obtain ⟨g0, g1, g2, g3, g4, g5⟩ := three_facts hx1
    have HB1 := Lib.hid hb1
    have HX1 := Lib.hid hx1
    generalize bs.length = l at *
    clear hs ho hb1 hx1 h20 hbig
    go_enter Tryz.func14, Tryz.ntmps14
    go_wp2
    obtain ⟨z1, z2, z3, z4⟩ := three_end (x := .int .i64 0) (y := .slice none 0 0) (z := .int .i64 0) HX1.out
    obtain ⟨y0, y1, y2, _⟩ := three_facts z1
    refine bodyPost_ret (v := .tuple #[.agg #[.int .i64 0, .slice none 0 0, .int .i64 0], .bool false]) (by simp [results, Tryz.results14, go_sem, g0, g1, g2]) rfl ⟨HB1.out, fun _ => rfl, fun e => absurd e HNO.out⟩
  · have hroom := hs.room
    have hmost := hs.most
    obtain ⟨b, o, hA, hbl, _⟩ := hs.rd (by omega)
    subst hA
    obtain ⟨nM, hnM⟩ : ∃ nM, nM = numM bs := ⟨_, rfl⟩
    have h84 : ((bs.drop 8).take 4).length = 4 := by rw [List.length_take, List.length_drop]; omega
    have ho84 : Oct ((bs.drop 8).take 4) := (ho.dropN 8).takeN 4
    have hn0 : 0 ≤ nM := by rw [hnM]; exact val_nonneg ho84
    have hn1 : nM < 4294967296 := by rw [hnM]; have := val_lt ho84; rw [h84] at this; simpa [numM] using this
    obtain ⟨W1, hW1⟩ : ∃ W1, W1 = w.alloc (.cells #[.int .i64 0, .slice none 0 0, .int .i64 0] 47) := ⟨_, rfl⟩
    obtain ⟨W2, hW2⟩ : ∃ W2, W2 = W1.alloc (.cells #[.int .i64 nM, .slice none 0 0, .int .i64 20] 47) := ⟨_, rfl⟩
    rw [← hW1] at hb1 hx1
    have s1 : W1.heap.size = w.heap.size + 1 := by rw [hW1]; simp
    have s2 : W2.heap.size = w.heap.size + 2 := by rw [hW2]; simp [s1]
    have hb2 : Below W1.heap.size W1 W2 := by rw [hW2]; exact (Below.refl _ W1).alloc (Nat.le_refl _) _
    have hx2 : W2.heap[W1.heap.size]? = some (.cells #[.int .i64 nM, .slice none 0 0, .int .i64 20] 47 (0, 0)) := by rw [hW2]; exact heap_alloc_new W1 _
    rw [s1] at hx2
    have hx1' := (hb2.block _ (by omega)).trans hx1
    have hbw : Below w.heap.size w W2 := hb1.trans (hb2.mono (by omega))
    have hnum := rNumber_any (some ⟨b, o + 8, none⟩) (c - 8) ((bs.drop 8).take 4) W1 ((sl_take (sl_drop hs 8 (by omega)) 4).below hb1) ho84 (by omega)
    rw [h84, show val ((bs.drop 8).take 4) = nM from hnM.symm] at hnum
    have HNUM := Lib.hid hnum
    have hconv : IntKind.i64.wrap nM = nM := i64_fit (by omega)
    have HNM := Lib.hid hnM
    have HS := Lib.hid hs
    have HO := Lib.hid ho
    have HWW := Lib.hid (show W2 = (w.alloc (.cells #[.int .i64 0, .slice none 0 0, .int .i64 0] 47)).alloc (.cells #[.int .i64 nM, .slice none 0 0, .int .i64 20] 47) by rw [hW2, hW1])
    have HW1 := Lib.hid hW1
    have HBW := Lib.hid hbw
    have HX1 := Lib.hid hx1'
    have HX2 := Lib.hid hx2
    have HLE := Lib.hid (And.intro h20 (And.intro hbig hroom))
    obtain ⟨g0, g1, g2, g3, g4, g5⟩ := three_facts hx1'
    obtain ⟨j0, j1, j2, j3, j4, j5⟩ := three_facts hx2
    have hc8 : c ≠ 8 := by omega
    have hc20 : (20 : Int) ≤ (c : Int) := by omega
    have h20' : ¬ (bs.length : Int) < 20 := by omega
    obtain ⟨l, hl⟩ : ∃ l, l = bs.length := ⟨_, rfl⟩
    have HL := Lib.hid hl
    have hSZ := Lib.hid s2
    rw [← hl] at h20' ⊢
    rw [HW1.out] at HNUM
    clear hs ho hbl hnM h84 ho84 hW1 hW2 s1 s2 hb1 hb2 hx1 hx2 hx1' hbw hnum h20 hroom hl HW1 W1
    by_cases hlim : Lim nM
    · have hlm := hlim.1
      have hlx := hlim.2
      have DL := Lib.hid (show decide (Lim nM) = true from decide_eq_true hlim)
      have HSA := Lib.hid (fun (W : World) (hW : Below W2.heap.size W2 W) (A3 : Option Addr) (c3 : Nat) (h3 : Sl W A3 c3 (headM nM)) => rSame_any A3 (some ⟨b, o, none⟩) c3 c (headM nM) (bs.take 20) W h3 ((sl_take HS.out 20).below (HBW.out.trans (hW.mono (HBW.out.size)))))
      rw [headM_len, show (bs.take 20).length = 20 from by rw [List.length_take]; have := HLE.out.1; omega] at HSA
      have HHL := Lib.hid (headM_len nM)
      by_cases hh : headM nM = bs.take 20
      · have HLIM := Lib.hid (show limitM bs ≠ 0 by unfold limitM; rw [if_pos ⟨by have := HLE.out.1; omega, by rw [← HNM.out]; exact hlim, by rw [← HNM.out]; exact hh.symm⟩, ← HNM.out]; omega)
        have HLN := Lib.hid (show limitM bs = nM by unfold limitM; rw [if_pos ⟨by have := HLE.out.1; omega, by rw [← HNM.out]; exact hlim, by rw [← HNM.out]; exact hh.symm⟩, ← HNM.out])
        rw [decide_eq_true hh] at HSA
        clear hlim hh
        go_enter Tryz.func14, Tryz.ntmps14
        go_upto_region 4 with (go_at_call 60; refine HNUM.out.mono ?_; rintro e w' ⟨rfl, rfl⟩)
        rw [← HWW.out]
        go_region_held3 (fun W => W.cell? ⟨w.heap.size + 1, 0, none⟩ = some (.int .i64 nM) ∧ Below W2.heap.size W2 W) (first | exact ⟨j0, below_drewN (Below.refl _ _) 1⟩ | exact S3.out | exact S4.out) (first
          | (go_at_call 61; refine (rLimit_any _ _).mono ?_; rw [DL.out]; rintro e w' ⟨rfl, rfl⟩)
          | (go_at_call 63; refine (rHead_any nM _ hn0 hlx).mono ?_; rintro e w3 ⟨A3, c3, rfl, hn3, hb3⟩; rw [HHL.out]; have hb3' := (below_drewN (Below.refl W2.heap.size W2) 1).trans hb3; have HSM := Lib.hid (HSA.out w3 hb3' A3 c3 hn3.sl); have S3 := Lib.hid (show w3.cell? ⟨w.heap.size + 1, 0, none⟩ = some (.int .i64 nM) ∧ Below W2.heap.size W2 w3 from ⟨(hb3'.cell (p := ⟨w.heap.size + 1, 0, none⟩) (lt_of_block HX2.out)).trans j0, hb3'⟩); clear hn3 hb3 hb3')
          | (go_at_call 62; refine HSM.out.mono ?_; rintro e w4 ⟨rfl, hq4⟩; have S4 := Lib.hid (show w4.cell? ⟨w.heap.size + 1, 0, none⟩ = some (.int .i64 nM) ∧ Below W2.heap.size W2 w4 from by obtain ⟨q, e⟩ := hq4; rw [e]; exact ⟨S3.out.1, below_drewN S3.out.2 q⟩); clear hq4))
        all_goals
          have HB4 := Lib.hid (HBW.out.trans (S4.out.2.mono (HBW.out.size)))
          have HX3 := Lib.hid ((S4.out.2.block _ (lt_of_block HX1.out)).trans HX1.out)
          have HX4 := Lib.hid ((S4.out.2.block _ (lt_of_block HX2.out)).trans HX2.out)
          clear g0 g1 g2 g3 g4 g5 j0 j1 j2 j3 j4 j5
          go_wp2_with fail
          go_loopw [5] (fun _ wr => ∃ (k : Nat) (A : Option Addr) (c : Nat) (vs : List Value), Hid (ReadI w bs k A c vs wr)) (fun _ wr => 200000 - (match wr.cell? ⟨w.heap.size + 1, 1, none⟩ with | some (.slice _ n _) => n | _ => 0))
          case atStart =>
            refine ⟨0, none, 0, [], Lib.hid ⟨HX3.out, ?_, ⟨World.ownsRow_nil _ _ _ _, fun i p hp => by simp at hp⟩, Nat.zero_le _, HB4.out⟩⟩
            rw [HLN.out]
            exact HX4.out
          case round =>
            obtain ⟨k, A5, c5, vs5, HI⟩ := hrel
            obtain ⟨x1, x2, x3, x4, x5⟩ := HI.out
            have hel := parts_len HO.out k x4 (by have := HLE.out.1; omega)
            have hat := parts_at HO.out k x4
            have hkb : k ≤ 100000 := by have h1 := costM_len ((partsM bs).take k); rw [List.length_take] at h1; have := HLE.out.2.1; omega
            obtain ⟨cs, hcs⟩ : ∃ cs, cs = costM ((partsM bs).take k) := ⟨_, rfl⟩
            have HCS := Lib.hid hcs
            obtain ⟨en, hen⟩ : ∃ en, en = 20 + cs := ⟨_, rfl⟩
            rw [← hcs] at x2 hat hel
            rw [← hen] at x2 hat hel
            have HEN := Lib.hid hen
            rw [← HL.out] at hel
            have hlb : l ≤ 100000 := by rw [HL.out]; exact HLE.out.2.1
            have hlc : l ≤ c := by rw [HL.out]; exact HLE.out.2.2
            obtain ⟨m0, m1, m2, m3, m4, m5⟩ := three_facts x2
            have HIX := Lib.hid x2
            have HROW := Lib.hid x3
            have HPO := Lib.hid (show ∀ q ∈ (partsM bs).take k, Oct q from fun q hq => parts_octs HO.out q (List.mem_of_mem_take hq))
            have HTL := Lib.hid (show ((partsM bs).take k).length = k by rw [List.length_take]; omega)
            obtain ⟨PA, hPA⟩ : ∃ PA, PA = (if c = en then some (⟨b, o, none⟩ : Addr) else some ⟨b, o + en, none⟩) := ⟨_, rfl⟩
            have HPA := Lib.hid hPA
            have hsw : Sl wr PA (c - en) (bs.drop en) := by
              have hr := HS.out.below x5
              rw [hPA]
              by_cases hc : c = en
              · rw [if_pos hc]
                exact ⟨by rw [List.length_drop, ← HL.out]; omega, by have := hr.most; omega, fun h => by rw [List.length_drop, ← HL.out] at h; omega⟩
              · rw [if_neg hc]
                exact sl_drop hr en (by rw [← HL.out]; exact hel)
            have HPT := Lib.hid (fun W (hW : Below wr.heap.size wr W) => rPart_any (k : Int) (by omega) (by omega) PA (c - en) (bs.drop en) W (hsw.below hW) (HO.out.dropN en) (by rw [List.length_drop, ← HL.out]; omega))
            rw [List.length_drop, ← HL.out] at HPT
            have hcb : cs ≤ 100000 := by omega
            have e0 : (0 : Int) ≤ (en : Int) := by omega
            have e1 : (en : Int) ≤ (l : Int) := by omega
            have e2 : (en : Int) ≤ (c : Int) := by omega
            clear hsw hPA hcs hen x1 x2 x3 x5
            by_cases hkP : k = (partsM bs).length
            · have HPL := Lib.hid (show (partsM bs).length = k from hkP.symm)
              have HKP := Lib.hid hkP
              have hat2 := hat.2 hkP
              clear hat hkP x4
              rcases hat2 with hnone | ⟨p, hsome, hex⟩
              · have HNN := Lib.hid hnone
                clear hnone hel hlb hlc
                go_wp2_with fail
                go_region_held3 (fun W => W.cell? ⟨w.heap.size + 1, 1, none⟩ = some (.slice A5 k c5) ∧ W.cell? ⟨w.heap.size + 1, 2, none⟩ = some (.int .i64 (en : Int)) ∧ Below wr.heap.size wr W) (first | exact ⟨m1, m2, below_drewN (Below.refl _ _) 1⟩ | exact S5.out) (first
                  | (go_at_call 64; rw [← HPA.out]; refine (HPT.out _ (below_drewN (Below.refl _ _) 1)).mono ?_; rintro e w5 ⟨hb5, hno, hyes⟩; have hb5' := (below_drewN (Below.refl wr.heap.size wr) 1).trans hb5; have S5 := Lib.hid (show w5.cell? ⟨w.heap.size + 1, 1, none⟩ = some (.slice A5 k c5) ∧ w5.cell? ⟨w.heap.size + 1, 2, none⟩ = some (.int .i64 (en : Int)) ∧ Below wr.heap.size wr w5 from ⟨(hb5'.cell (p := ⟨w.heap.size + 1, 1, none⟩) (lt_of_block HIX.out)).trans m1, (hb5'.cell (p := ⟨w.heap.size + 1, 2, none⟩) (lt_of_block HIX.out)).trans m2, hb5'⟩); (have hee := hno HNN.out); subst hee; clear hno hyes hb5 hb5'))
                all_goals
                  have HB5 := Lib.hid S5.out.2.2
                  clear m0 m1 m2 m3 m4 m5
                  go_wp2_with fail
                  go_quiet (fail)
                  have HX5 := Lib.hid (read_later HI.out HB5.out nq)
                  obtain ⟨x1, x2, x3, x4, x5⟩ := HX5.out
                  obtain ⟨E, hE⟩ : ∃ E : Int, E = ((20 + costM ((partsM bs).take k) : Nat) : Int) := ⟨_, rfl⟩
                  rw [← hE] at x2
                  have HE := Lib.hid hE
                  clear hE
                  obtain ⟨g0, g1, g2, g3, g4, g5⟩ := three_facts x1
                  obtain ⟨j0, j1, j2, j3, j4, j5⟩ := three_facts x2
                  by_cases hz : k = 0
                  · subst hz
                    have HNO := Lib.hid (show ¬ okL bs from fun e => e.2 (List.eq_nil_of_length_eq_zero HPL.out))
                    go_wp2
                    obtain ⟨z1, z2, z3, z4⟩ := three_end (x := .int .i64 0) (y := .slice none 0 0) (z := .int .i64 0) HX5.out.1
                    obtain ⟨y0, y1, y2, _⟩ := three_facts z1
                    refine bodyPost_ret (v := .tuple #[.agg #[.int .i64 0, .slice none 0 0, .int .i64 0], .bool false]) (by simp [results, Tryz.results14, go_sem, y0, y1, y2]) rfl ⟨HX5.out.2.2.2.2.trans z2, fun _ => rfl, fun e => absurd e HNO.out⟩
                  · have hk0' : ((k : Int) == 0) = false := by simp; omega
                    have HYES := Lib.hid (show okL bs from ⟨HLIM.out, fun e => hz (by rw [HKP.out, e]; simp)⟩)
                    clear hz
                    go_wp2
                    obtain ⟨z1, z2, z3, z4⟩ := three_end (x := .int .i64 (limitM bs)) (y := .slice A5 k c5) (z := .int .i64 E) HX5.out.1
                    obtain ⟨y0, y1, y2, _⟩ := three_facts z1
                    refine bodyPost_ret (v := .tuple #[.agg #[.int .i64 (limitM bs), .slice A5 k c5, .int .i64 E], .bool true]) (by simp [results, Tryz.results14, go_sem, y0, y1, y2]) rfl ⟨HX5.out.2.2.2.2.trans z2, fun e => absurd HYES.out e, fun _ => ?_⟩
                    have htk : (partsM bs).take k = partsM bs := List.take_of_length_le (by rw [← HPL.out]; omega)
                    have hr := (HX5.out.2.2.1.keep (fun q hq => z3 q (by omega))).low (show w.heap.size ≤ w.heap.size + 2 by omega)
                    rw [htk] at hr
                    exact ⟨A5, c5, vs5, by rw [HE.out, htk, ← HKP.out, Nat.add_comm 20], by rw [← HKP.out]; exact hr⟩
              · have HSS := Lib.hid hsome
                have hpl := part_len hsome
                have u1 : IntKind.i64.wrap ((cs : Int) + 12) = (cs : Int) + 12 := i64_fit (by omega)
                have u2 : IntKind.i64.wrap ((cs : Int) + 12 + (p.length : Int)) = (cs : Int) + 12 + (p.length : Int) := i64_fit (by omega)
                have u3 : decide (limitM bs < (cs : Int) + 12 + (p.length : Int)) = true := decide_eq_true hex
                clear hsome hel hlb hlc hex hpl
                go_wp2_with fail
                go_region_held3 (fun W => W.cell? ⟨w.heap.size + 1, 1, none⟩ = some (.slice A5 k c5) ∧ W.cell? ⟨w.heap.size + 1, 2, none⟩ = some (.int .i64 (en : Int)) ∧ Below wr.heap.size wr W) (first | exact ⟨m1, m2, below_drewN (Below.refl _ _) 1⟩ | exact S5.out) (first
                  | (go_at_call 64; rw [← HPA.out]; refine (HPT.out _ (below_drewN (Below.refl _ _) 1)).mono ?_; rintro e w5 ⟨hb5, hno, hyes⟩; have hb5' := (below_drewN (Below.refl wr.heap.size wr) 1).trans hb5; have S5 := Lib.hid (show w5.cell? ⟨w.heap.size + 1, 1, none⟩ = some (.slice A5 k c5) ∧ w5.cell? ⟨w.heap.size + 1, 2, none⟩ = some (.int .i64 (en : Int)) ∧ Below wr.heap.size wr w5 from ⟨(hb5'.cell (p := ⟨w.heap.size + 1, 1, none⟩) (lt_of_block HIX.out)).trans m1, (hb5'.cell (p := ⟨w.heap.size + 1, 2, none⟩) (lt_of_block HIX.out)).trans m2, hb5'⟩); obtain ⟨A6, c6, rfl, hn6⟩ := hyes p HSS.out; clear hno hyes hb5 hb5'))
                all_goals
                  have HB5 := Lib.hid S5.out.2.2
                  obtain ⟨n0, n1, n2, _⟩ := three_facts ((S5.out.2.2.block _ (lt_of_block HIX.out)).trans HIX.out)
                  have HCO := Lib.hid (fun x => show Calls Tryz.prog 40 #[.slice A5 k c5] (w5.drewN x) fun e w' => e = .returned (.int .i64 (cs : Int)) ∧ w' = w5.drewN x from by
                    have hrec := (HROW.out.later (below_drewN S5.out.2.2 x)).recs HPO.out
                    obtain ⟨A', c', e, hrec⟩ := hrec
                    injection e with e1 _ _
                    subst e1
                    have := rCost_any A5 c5 ((partsM bs).take k) (w5.drewN x) hrec (by rw [← HCS.out]; omega)
                    rw [← HCS.out, HTL.out] at this
                    exact this.mono fun _ _ h => ⟨h.1, h.2.symm⟩)
                  clear m0 m1 m2 m3 m4 m5
                  go_wp2_with fail
                  go_quiet ((go_at_call 40; with_reducible refine Calls.quiet_of_same (HCO.out _)))
                  have HX5 := Lib.hid (read_later HI.out HB5.out nq)
                  obtain ⟨x1, x2, x3, x4, x5⟩ := HX5.out
                  obtain ⟨E, hE⟩ : ∃ E : Int, E = ((20 + costM ((partsM bs).take k) : Nat) : Int) := ⟨_, rfl⟩
                  rw [← hE] at x2
                  have HE := Lib.hid hE
                  clear hE
                  obtain ⟨g0, g1, g2, g3, g4, g5⟩ := three_facts x1
                  obtain ⟨j0, j1, j2, j3, j4, j5⟩ := three_facts x2
                  by_cases hz : k = 0
                  · subst hz
                    have HNO := Lib.hid (show ¬ okL bs from fun e => e.2 (List.eq_nil_of_length_eq_zero HPL.out))
                    go_wp2
                    obtain ⟨z1, z2, z3, z4⟩ := three_end (x := .int .i64 0) (y := .slice none 0 0) (z := .int .i64 0) HX5.out.1
                    obtain ⟨y0, y1, y2, _⟩ := three_facts z1
                    refine bodyPost_ret (v := .tuple #[.agg #[.int .i64 0, .slice none 0 0, .int .i64 0], .bool false]) (by simp [results, Tryz.results14, go_sem, y0, y1, y2]) rfl ⟨HX5.out.2.2.2.2.trans z2, fun _ => rfl, fun e => absurd e HNO.out⟩
                  · have hk0' : ((k : Int) == 0) = false := by simp; omega
                    have HYES := Lib.hid (show okL bs from ⟨HLIM.out, fun e => hz (by rw [HKP.out, e]; simp)⟩)
                    clear hz
                    go_wp2
                    obtain ⟨z1, z2, z3, z4⟩ := three_end (x := .int .i64 (limitM bs)) (y := .slice A5 k c5) (z := .int .i64 E) HX5.out.1
                    obtain ⟨y0, y1, y2, _⟩ := three_facts z1
                    refine bodyPost_ret (v := .tuple #[.agg #[.int .i64 (limitM bs), .slice A5 k c5, .int .i64 E], .bool true]) (by simp [results, Tryz.results14, go_sem, y0, y1, y2]) rfl ⟨HX5.out.2.2.2.2.trans z2, fun e => absurd HYES.out e, fun _ => ?_⟩
                    have htk : (partsM bs).take k = partsM bs := List.take_of_length_le (by rw [← HPL.out]; omega)
                    have hr := (HX5.out.2.2.1.keep (fun q hq => z3 q (by omega))).low (show w.heap.size ≤ w.heap.size + 2 by omega)
                    rw [htk] at hr
                    exact ⟨A5, c5, vs5, by rw [HE.out, htk, ← HKP.out, Nat.add_comm 20], by rw [← HKP.out]; exact hr⟩
            · have hkl : k < (partsM bs).length := by omega
              obtain ⟨p, hp⟩ : ∃ p, (partsM bs)[k]? = some p := ⟨(partsM bs)[k], List.getElem?_eq_getElem hkl⟩
              obtain ⟨hsome, hfit⟩ := hat.1 p hp
              have HSS := Lib.hid hsome
              have HPP := Lib.hid hp
              have hst := costM_snoc hp
              have hlim2 : limitM bs ≤ 16000 := by rw [HLN.out]; exact hlx
              have u1 : IntKind.i64.wrap ((cs : Int) + 12) = (cs : Int) + 12 := i64_fit (by omega)
              have u2 : IntKind.i64.wrap ((cs : Int) + 12 + (p.length : Int)) = (cs : Int) + 12 + (p.length : Int) := i64_fit (by omega)
              have u3 : decide (limitM bs < (cs : Int) + 12 + (p.length : Int)) = false := decide_eq_false (by omega)
              have u4 : IntKind.i64.wrap (12 + (p.length : Int)) = 12 + (p.length : Int) := i64_fit (by omega)
              have u5 : IntKind.i64.wrap ((en : Int) + (12 + (p.length : Int))) = (en : Int) + (12 + (p.length : Int)) := i64_fit (by omega)
              have HNX := Lib.hid (show (((20 + costM ((partsM bs).take (k + 1)) : Nat) : Int)) = (en : Int) + (12 + (p.length : Int)) by rw [hst, ← HCS.out, HEN.out]; omega)
              clear hat hsome hel hlb hlc hfit hp hst hlim2 hkP
              go_wp2_with fail
              go_region_held3 (fun W => W.cell? ⟨w.heap.size + 1, 1, none⟩ = some (.slice A5 k c5) ∧ W.cell? ⟨w.heap.size + 1, 2, none⟩ = some (.int .i64 (en : Int)) ∧ Below wr.heap.size wr W) (first | exact ⟨m1, m2, below_drewN (Below.refl _ _) 1⟩ | exact S5.out) (first
                | (go_at_call 64; rw [← HPA.out]; refine (HPT.out _ (below_drewN (Below.refl _ _) 1)).mono ?_; rintro e w5 ⟨hb5, hno, hyes⟩; have hb5' := (below_drewN (Below.refl wr.heap.size wr) 1).trans hb5; have S5 := Lib.hid (show w5.cell? ⟨w.heap.size + 1, 1, none⟩ = some (.slice A5 k c5) ∧ w5.cell? ⟨w.heap.size + 1, 2, none⟩ = some (.int .i64 (en : Int)) ∧ Below wr.heap.size wr w5 from ⟨(hb5'.cell (p := ⟨w.heap.size + 1, 1, none⟩) (lt_of_block HIX.out)).trans m1, (hb5'.cell (p := ⟨w.heap.size + 1, 2, none⟩) (lt_of_block HIX.out)).trans m2, hb5'⟩); obtain ⟨A6, c6, rfl, hn6⟩ := hyes p HSS.out; have HN6 := Lib.hid hn6; clear hno hyes hb5 hb5'))
              all_goals
                have HB5 := Lib.hid S5.out.2.2
                obtain ⟨n0, n1, n2, _⟩ := three_facts ((S5.out.2.2.block _ (lt_of_block HIX.out)).trans HIX.out)
                have HCO := Lib.hid (fun x => show Calls Tryz.prog 40 #[.slice A5 k c5] (w5.drewN x) fun e w' => e = .returned (.int .i64 (cs : Int)) ∧ w' = w5.drewN x from by
                  have hrec := (HROW.out.later (below_drewN S5.out.2.2 x)).recs HPO.out
                  obtain ⟨A', c', e, hrec⟩ := hrec
                  injection e with e1 _ _
                  subst e1
                  have := rCost_any A5 c5 ((partsM bs).take k) (w5.drewN x) hrec (by rw [← HCS.out]; omega)
                  rw [← HCS.out, HTL.out] at this
                  exact this.mono fun _ _ h => ⟨h.1, h.2.symm⟩)
                clear m0 m1 m2 m3 m4 m5
                go_wp2_with fail
                go_quiet ((go_at_call 40; with_reducible refine Calls.quiet_of_same (HCO.out _)))
                have HX5 := Lib.hid (read_later HI.out HB5.out nq)
                obtain ⟨x1, x2, x3, x4, x5⟩ := HX5.out
                rw [← HCS.out, ← HEN.out] at x2
                obtain ⟨j0, j1, j2, j3, j4, j5⟩ := three_facts x2
                have HR5 := Lib.hid x3.row
                rw [HTL.out] at HR5
                have hz5 := lt_of_block x2
                have HZ5 := Lib.hid hz5
                have HN7 := Lib.hid (show (w5.drewN nq).ownsRow (w.heap.size + 2) 5 1 (.slice A6 p.length c6) p.length (p.map (Value.int .u8)) from row_later (own_low HN6.out (show w.heap.size + 2 ≤ wr.heap.size from by have := lt_of_block HI.out.2.1; omega)) (below_drewN (Below.refl _ w5) nq))
                clear x1 x2 x3 x4 x5 hz5
                go_wp2_with (at_builtin; refine wpList_append_own _ rfl (.tmp 56) (.tmp 58) 29 rfl (w.heap.size + 2) 33 i0 (.slice none 0 0) 1 24 Tryz.underlying29 hi hz0 hz1 hz2 rfl (by decide) (.slice A5 k c5) k vs5 rfl (HR5.out.alloc _) ⟨(w5.drewN nq).heap.size, 0, none⟩ 1 1 [.slice A6 p.length c6] rfl rfl (cell_one_new _ _ _) (by simp [Value.oneCell']) (by unfold maxLen; omega) (by omega) (by have := HZ5.out; simp at this ⊢; omega) ?_; intro v7 w7 hown7 hg7 _; obtain ⟨A7, c7, rfl, _, _⟩ := own_form hown7; rw [ob_eq] at hg7; have hbx := (Below.refl (w5.drewN nq).heap.size (w5.drewN nq)).alloc (Nat.le_refl _) (.cells #[.slice A6 p.length c6] 33); have hri0 := read_later HI.out HB5.out nq; have hmo := read_more (W := (w5.drewN nq).alloc (.cells #[.slice A6 p.length c6] 33)) (read_alloc hri0 hbx) HPP.out (row_later HN7.out hbx) hg7 hown7; obtain ⟨hk7, hri⟩ := hmo; rw [HNX.out] at hri; rw [← HCS.out, ← HEN.out] at hk7; obtain ⟨q0, q1, q2, q3, q4, q5⟩ := three_facts hk7; have HK7 := Lib.hid hk7; have HRI := Lib.hid hri; clear hown7 hg7 hbx hri hk7 hri0 j0 j1 j2 j3 j4 j5 n0 n1 n2)
                go_roundw
                case rel => exact ⟨k + 1, A7, c7, _, HRI.out⟩
                case measure =>
                  obtain ⟨r0, r1, r2, _⟩ := three_facts HRI.out.2.1
                  obtain ⟨t0, t1, t2, _⟩ := three_facts HIX.out
                  simp [r1, t1]
                  omega
      · have HNO := Lib.hid (show ¬ okL bs from fun e => e.1 (by unfold limitM; rw [if_neg (fun e => hh (by rw [HNM.out]; exact e.2.2.symm))]))
        rw [decide_eq_false hh] at HSA
        clear hlim hh
        go_enter Tryz.func14, Tryz.ntmps14
        go_upto_region 4 with (go_at_call 60; refine HNUM.out.mono ?_; rintro e w' ⟨rfl, rfl⟩)
        rw [← HWW.out]
        go_region_held3 (fun W => W.cell? ⟨w.heap.size + 1, 0, none⟩ = some (.int .i64 nM) ∧ Below W2.heap.size W2 W) (first | exact ⟨j0, below_drewN (Below.refl _ _) 1⟩ | exact S3.out | exact S4.out) (first
          | (go_at_call 61; refine (rLimit_any _ _).mono ?_; rw [DL.out]; rintro e w' ⟨rfl, rfl⟩)
          | (go_at_call 63; refine (rHead_any nM _ hn0 hlx).mono ?_; rintro e w3 ⟨A3, c3, rfl, hn3, hb3⟩; rw [HHL.out]; have hb3' := (below_drewN (Below.refl W2.heap.size W2) 1).trans hb3; have HSM := Lib.hid (HSA.out w3 hb3' A3 c3 hn3.sl); have S3 := Lib.hid (show w3.cell? ⟨w.heap.size + 1, 0, none⟩ = some (.int .i64 nM) ∧ Below W2.heap.size W2 w3 from ⟨(hb3'.cell (p := ⟨w.heap.size + 1, 0, none⟩) (lt_of_block HX2.out)).trans j0, hb3'⟩); clear hn3 hb3 hb3')
          | (go_at_call 62; refine HSM.out.mono ?_; rintro e w4 ⟨rfl, hq4⟩; have S4 := Lib.hid (show w4.cell? ⟨w.heap.size + 1, 0, none⟩ = some (.int .i64 nM) ∧ Below W2.heap.size W2 w4 from by obtain ⟨q, e⟩ := hq4; rw [e]; exact ⟨S3.out.1, below_drewN S3.out.2 q⟩); clear hq4))
        all_goals
          have HB4 := Lib.hid (HBW.out.trans (S4.out.2.mono (HBW.out.size)))
          have HX3 := Lib.hid ((S4.out.2.block _ (lt_of_block HX1.out)).trans HX1.out)
          have HX4 := Lib.hid ((S4.out.2.block _ (lt_of_block HX2.out)).trans HX2.out)
          clear g0 g1 g2 g3 g4 g5 j0 j1 j2 j3 j4 j5
          obtain ⟨k0, k1, k2, k3, k4, k5⟩ := three_facts HX3.out
          go_wp2
          obtain ⟨z1, z2, z3, z4⟩ := three_end (x := .int .i64 0) (y := .slice none 0 0) (z := .int .i64 0) HX3.out
          obtain ⟨y0, y1, y2, _⟩ := three_facts z1
          refine bodyPost_ret (v := .tuple #[.agg #[.int .i64 0, .slice none 0 0, .int .i64 0], .bool false]) (by simp [results, Tryz.results14, go_sem, y0, y1, y2]) rfl ⟨HB4.out.trans z2, fun _ => rfl, fun e => absurd e HNO.out⟩
    · have HNO := Lib.hid (show ¬ okL bs from fun e => e.1 (by unfold limitM; rw [if_neg (fun e => hlim (by rw [HNM.out]; exact e.2.1))]))
      have HLM := Lib.hid (fun x => show Calls Tryz.prog 61 #[.int .i64 nM] (W2.drewN x) fun e w' => e = .returned (.bool false) ∧ w' = W2.drewN x from by
        have := rLimit_any nM (W2.drewN x)
        rw [decide_eq_false hlim] at this
        exact this.mono fun _ _ h => ⟨h.1, h.2.symm⟩)
      clear hlim
      go_enter Tryz.func14, Tryz.ntmps14
      go_upto_region 4 with (go_at_call 60; refine HNUM.out.mono ?_; rintro e w' ⟨rfl, rfl⟩)
      rw [← HWW.out]
      go_quiet ((go_at_call 61; with_reducible refine Calls.quiet_of_same (HLM.out _)))
      have hx := (show (W2.drewN nq).heap[w.heap.size]? = _ from HX1.out)
      obtain ⟨k0, k1, k2, k3, k4, k5⟩ := three_facts hx
      have HX := Lib.hid hx
      clear hx
      go_wp2
      obtain ⟨z1, z2, z3, z4⟩ := three_end (x := .int .i64 0) (y := .slice none 0 0) (z := .int .i64 0) HX.out
      obtain ⟨y0, y1, y2, _⟩ := three_facts z1
      refine bodyPost_ret (v := .tuple #[.agg #[.int .i64 0, .slice none 0 0, .int .i64 0], .bool false]) (by simp [results, Tryz.results14, go_sem, y0, y1, y2]) rfl ⟨(below_drewN HBW.out nq).trans z2, fun _ => rfl, fun e => absurd e HNO.out⟩

end Go.Proofs.YtienabfilnpieaaGreat

namespace Go.Proofs.YtienabfilnpieaaGreat
open Go.RowKit
set_option linter.unusedVariables false
set_option linter.unusedSimpArgs false
set_option linter.unusedSimpArgs false
set_option maxRecDepth 100000

theorem recs_two {w : World} {A1 A2 : Option Addr} {xs ys : List (List Int)} (h1 : Recs w A1 xs) (h2 : Recs w A2 ys) {k : Nat} (hx : k < xs.length) (hy : k < ys.length) :
    ∃ b1 o1 B1 c1 b2 o2 B2 c2 x y, A1 = some ⟨b1, o1, none⟩ ∧ A2 = some ⟨b2, o2, none⟩ ∧ xs[k]? = some x ∧ ys[k]? = some y ∧ w.cell? ⟨b1, o1 + k, none⟩ = some (.slice B1 x.length c1) ∧ w.cell? ⟨b2, o2 + k, none⟩ = some (.slice B2 y.length c2) ∧ Sl w B1 c1 x ∧ Sl w B2 c2 y := by
  obtain ⟨x, hxk⟩ : ∃ x, xs[k]? = some x := ⟨xs[k], List.getElem?_eq_getElem hx⟩
  obtain ⟨y, hyk⟩ : ∃ y, ys[k]? = some y := ⟨ys[k], List.getElem?_eq_getElem hy⟩
  obtain ⟨b1, o1, B1, c1, rfl, _, h3, h4, h5⟩ := h1 k x hxk
  obtain ⟨b2, o2, B2, c2, rfl, _, h6, h7, h8⟩ := h2 k y hyk
  exact ⟨b1, o1, B1, c1, b2, o2, B2, c2, x, y, rfl, rfl, hxk, hyk, h3, h6, h4, h7⟩
set_option maxHeartbeats 2000000 in
theorem rSameAll_any (A A' : Option Addr) (c c' : Nat) (xs ys : List (List Int)) (w : World) (h : Recs w A xs) (h' : Recs w A' ys) (hx : xs.length ≤ 1000000) (hy : ys.length ≤ 1000000) :
    Calls Tryz.prog 19 #[.slice A xs.length c, .slice A' ys.length c'] w (Drew w (decide (xs = ys))) := by
  by_cases hl : xs.length = ys.length
  · obtain ⟨n, hn⟩ : ∃ n, n = xs.length := ⟨_, rfl⟩
    have HN := Lib.hid hn
    have HM := Lib.hid (hn.trans hl)
    have H := Lib.hid h
    have H' := Lib.hid h'
    rw [← hl, ← hn]
    have hnb : n ≤ 1000000 := by omega
    clear h h' hl hn hx hy
    go_enter Tryz.func19, Tryz.ntmps19
    go_wp2_with fail
    go_loopw [13] (fun i wr => ∃ k : Nat, i = .int .i64 k ∧ k ≤ n ∧ Hid (xs.take k = ys.take k) ∧ Hid (∃ q, wr = w.drewN q)) (fun i _ => n - (match i with | .int _ k => k.toNat | _ => 0))
    case atStart => exact ⟨0, rfl, Nat.zero_le _, Lib.hid rfl, Lib.hid ⟨0, rfl⟩⟩
    case round =>
      obtain ⟨k, rfl, hk, HK, HW⟩ := hrel
      by_cases hkn : k < n
      · have hkk : (k : Int) < n := by omega
        have k0 : (0 : Int) ≤ (k : Int) := by omega
        have hbw : Below w.heap.size w wr := by obtain ⟨q, e⟩ := HW.out; rw [e]; exact below_drewN (Below.refl _ _) q
        obtain ⟨b1, o1, B1, d1, b2, o2, B2, d2, x, y, rfl, rfl, hxk, hyk, hc1, hc2, hs1, hs2⟩ := recs_two (H.out.later hbw) (H'.out.later hbw) (k := k) (by rw [← HN.out]; exact hkn) (by rw [← HM.out]; exact hkn)
        have HE := Lib.hid (fun r => show Calls Tryz.prog 62 #[.slice B1 x.length d1, .slice B2 y.length d2] (wr.drewN r) (fun e w' => e = .returned (.bool (decide (x = y))) ∧ ∃ m, w' = (wr.drewN r).drewN m) from rSame_any B1 B2 d1 d2 x y (wr.drewN r) (hs1.below (below_drewN (Below.refl _ _) r)) (hs2.below (below_drewN (Below.refl _ _) r)))
        generalize x.length = xl at *
        generalize y.length = yl at *
        clear hs1 hs2 hbw
        by_cases hd : x = y
        · rw [decide_eq_true hd] at HE
          have HD := Lib.hid (show xs[k]? = ys[k]? by rw [hxk, hyk, hd])
          clear hd hxk hyk
          go_wp2_with fail
          go_quiet ((go_at_call 62; with_reducible refine Calls.quiet_of (HE.out _)))
          go_wp2
          go_roundw
          case rel => exact ⟨k + 1, by go_num, by omega, Lib.hid (take_eq_succ HK.out HD.out), Lib.hid (by obtain ⟨q, e⟩ := HW.out; exact ⟨q + nq, by rw [e, World.drewN_drewN]⟩)⟩
          case measure => simp; omega
        · rw [decide_eq_false hd] at HE
          have HF := Lib.hid (show decide (xs = ys) = false from decide_eq_false (fun e => hd (by rw [e] at hxk; rw [hxk] at hyk; injection hyk)))
          clear hd hxk hyk
          go_wp2_with fail
          go_quiet ((go_at_call 62; with_reducible refine Calls.quiet_of (HE.out _)))
          go_wp2
          go_ret
          rw [HF.out]
          obtain ⟨q, e⟩ := HW.out
          exact ⟨rfl, q + nq, by rw [e, World.drewN_drewN]⟩
      · obtain rfl : k = n := by omega
        have HT := Lib.hid (show decide (xs = ys) = true from decide_eq_true (by
          have e := HK.out
          rwa [List.take_of_length_le (by rw [← HN.out]; omega), List.take_of_length_le (by rw [← HM.out]; omega)] at e))
        go_wp2
        go_ret
        rw [HT.out]
        exact ⟨rfl, HW.out⟩
  · have HF := Lib.hid (show decide (xs = ys) = false from decide_eq_false (fun e => hl (by rw [e])))
    have t1 : ((xs.length : Int) == (ys.length : Int)) = false := by simp; omega
    have t2 : ((xs.length : Int) != (ys.length : Int)) = true := by simp; omega
    generalize xs.length = a at *
    generalize ys.length = b at *
    clear h h' hl
    go_enter Tryz.func19, Tryz.ntmps19
    go_wp2
    go_ret
    rw [HF.out]
    exact ⟨rfl, 0, rfl⟩

/-! ### a file that lies alone on a disk -/
def opD (bs : List Int) : AD := (cutD bs).opM 0 [] ((cutD bs).met.put 0 ((cutD bs).file 0).settled)
theorem opD_calm (bs : List Int) (h : bs.length ≤ 65536) : (cutD bs).opC 0 [] = 0 ∧ Calm (opD bs) 65536 (setF bs) none := by
  obtain ⟨_, hc⟩ := cutD_calm bs h
  have hne : (cutD bs).files 0 ≠ none := by rw [hc.f0]; simp
  refine ⟨hc.opC (by decide) hne, ?_⟩
  unfold opD
  rw [hc.opM (by decide) hne]
  have hf : ((cutD bs).file 0).settled = ⟨bs, bs.length, true⟩ := by unfold AD.file; rw [hc.f0]; rfl
  rw [hf]
  exact hc.met.put0 _
theorem opD_ops (bs : List Int) : (opD bs).ops ≤ 2 := by
  have h1 := cutD_ops bs
  have h2 : (opD bs).ops ≤ (cutD bs).ops + 1 := opM_ops _ _ rfl
  omega
theorem opens_no {bs : List Int} (h : bs.length ≤ 65536) (hn : ¬ okL bs) : (opD bs).openC = 140 ∧ (opD bs).openM.len 0 = bs.length := by
  obtain ⟨_, hc⟩ := opD_calm bs h
  have hne : (opD bs).files 0 ≠ none := by rw [hc.f0]; simp
  have hr : (opD bs).readB 0 = bs := hc.read (by decide) hc.f0
  have l1 : (opD bs).loadC = 140 := by
    unfold AD.loadC
    rw [hc.opC (by decide) hne, if_pos rfl, hr]
    unfold hearC
    rw [if_pos]
    by_cases h1 : limitM bs = 0
    · exact .inl h1
    · by_cases h2 : partsM bs = []
      · exact .inr h2
      · exact absurd ⟨h1, h2⟩ hn
  have l2 : (opD bs).loadM = (opD bs).met := hc.opM (by decide) hne _
  constructor
  · unfold AD.openC; rw [l1, if_pos (by decide)]
  · unfold AD.openM; rw [l1, if_pos (by decide), l2]; unfold AD.len; rw [hc.met.f0]
theorem opens_yes {bs : List Int} (h : bs.length ≤ 65536) (ho : Oct bs) (hy : okL bs) : (opD bs).openC = 0 ∧ (opD bs).openM.len 0 = costM (partsM bs) + 20 ∧ openV (opD bs) = ⟨limitM bs, partsM bs, false⟩ := by
  obtain ⟨_, hc⟩ := opD_calm bs h
  have hr : (opD bs).readB 0 = bs := hc.read (by decide) hc.f0
  have hh : hearC bs = 0 := by unfold hearC; rw [if_neg (fun e => e.elim hy.1 hy.2)]
  have h20 := (limitM_lim bs hy.1).2
  have hln := parts_len ho (partsM bs).length (Nat.le_refl _) h20
  rw [List.take_length] at hln
  obtain ⟨o1, F', o2, o3, _⟩ := hc.open_ (F := ⟨bs, bs.length, true⟩) hh (by show (costM (partsM bs) : Int) + 20 ≤ (bs.length : Int); omega)
  refine ⟨o1, ?_, by unfold openV; rw [hr]⟩
  unfold AD.len
  rw [o2.f0]
  show F'.bs.length = _
  rw [o3]
  show (bs.take (costM (partsM bs) + 20)).length = _
  rw [List.length_take]
  omega

end Go.Proofs.YtienabfilnpieaaGreat
