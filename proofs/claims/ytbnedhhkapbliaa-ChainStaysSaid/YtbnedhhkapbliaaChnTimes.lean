/-
  The laws' times, and shown; append of a long slice.
-/
import Derived.Test.YtbnedhhkapbliaaChnWakes
namespace Go.Proofs.Ytbnedhhkapbliaa
open Go.RowKit Go.Shelf
set_option linter.unusedVariables false
set_option linter.unusedSimpArgs false
set_option maxRecDepth 100000

def OwnU (base : Nat) (w : World) (A : Option Addr) (c : Nat) (ts : List Int) : Prop := w.ownsRow base 26 1 (.slice A ts.length c) ts.length (ts.map (Value.int .u64)) ∧ ∀ t ∈ ts, U64s t
theorem OwnU.vec {base c : Nat} {w : World} {A : Option Addr} {ts : List Int} (h : OwnU base w A c ts) : Vec .u64 w A c ts := by
  obtain ⟨A', c', e, hv⟩ := Vec.own (m := 0) h.1 h.2
  injection e with e1 _ e2
  subst e1
  subst e2
  exact hv
theorem OwnU.below {base c : Nat} {w w' : World} {A : Option Addr} {ts : List Int} (h : OwnU base w A c ts) (hb : Below w.heap.size w w') : OwnU base w' A c ts :=
  ⟨row_turn h.1 (Turn.of_below (S := fun _ => False) hb) (fun _ _ e => e), h.2⟩
theorem OwnU.low {base c : Nat} {w : World} {A : Option Addr} {ts : List Int} (h : OwnU base w A c ts) : ∀ i, blk A = some i → base ≤ i ∧ i < w.heap.size := fun i hi => h.1.lt i (by rw [own_blk]; exact hi)
theorem read3 (w : World) (a b c : Int) : Read (w.alloc (.cells #[.int .u64 a, .int .u64 b, .int .u64 c] 26)) (some ⟨w.heap.size, 0, none⟩) 3 1 ([a, b, c].map (Value.int .u64)) := by
  refine ⟨rfl, by simp; exact ⟨rfl, rfl, rfl⟩, (fun e => by cases e), fun d e j u hj => ?_⟩
  injection e with e
  subst e
  rw [Addr.add_lit, Nat.zero_add]
  have hc := cell_laid w #[.int .u64 a, .int .u64 b, .int .u64 c] 26 j
  rw [hc]
  match j, hj with
  | 0, hj => simpa using hj
  | 1, hj => simpa using hj
  | 2, hj => simpa using hj
  | j + 3, hj => simp at hj
theorem read2 (w : World) (a b : Int) : Read (w.alloc (.cells #[.int .u64 a, .int .u64 b] 26)) (some ⟨w.heap.size, 0, none⟩) 2 1 ([a, b].map (Value.int .u64)) := by
  refine ⟨rfl, by simp; exact ⟨rfl, rfl⟩, (fun e => by cases e), fun d e j u hj => ?_⟩
  injection e with e
  subst e
  rw [Addr.add_lit, Nat.zero_add]
  have hc := cell_laid w #[.int .u64 a, .int .u64 b] 26 j
  rw [hc]
  match j, hj with
  | 0, hj => simpa using hj
  | 1, hj => simpa using hj
  | j + 2, hj => simp at hj
theorem OwnU.app {base c c5 : Nat} {w V w' : World} {A A5 : Option Addr} {ts us : List Int} (h : OwnU base w A c ts) (hV : Below w.heap.size w V) (hbs : base ≤ w.heap.size) (hu : ∀ t ∈ us, U64s t) {n m : Nat} (hn : ts.length = n) (hm : us.length = m)
    (ho : w'.ownsRow base 26 1 (.slice A5 (n + m) c5) (n + m) (ts.map (Value.int .u64) ++ us.map (Value.int .u64))) (hg : V.grownBy w' (blk A)) : OwnU base w' A5 c5 (ts ++ us) ∧ Below base w w' := by
  subst hn
  subst hm
  refine ⟨⟨by rw [List.length_append, List.map_append]; exact ho, fun t ht => (List.mem_append.1 ht).elim (h.2 t) (hu t)⟩, (hV.mono hbs).trans (grown_below hg (Nat.le_trans hbs hV.size) (fun i hi => (h.low i hi).1))⟩

theorem idx0 (w : World) (a b : Int) : (Instr.index 53 (.agg #[.int .u64 a, .int .u64 b]) (.int .i64 0)).run Try.prog w = .ok (.int .u64 a) w := by
  have hu := Try.underlying53
  have h1 : Try.prog.cellsOf 26 = 1 := by kernel_rfl
  simp [Instr.index, run_underlying hu, go_sem]
theorem idx1 (w : World) (a b : Int) : (Instr.index 53 (.agg #[.int .u64 a, .int .u64 b]) (.int .i64 1)).run Try.prog w = .ok (.int .u64 b) w := by
  have hu := Try.underlying53
  have h1 : Try.prog.cellsOf 26 = 1 := by kernel_rfl
  simp [Instr.index, run_underlying hu, go_sem]

set_option maxHeartbeats 2000000 in
theorem times_any (A : Option Addr) (c : Nat) (q : List Pl) (w : World) (h : Chn w A c q) (hq : q.length ≤ 97) :
    Calls Try.prog 23 #[.slice A q.length c] w fun e w' => ∃ A1 c1 ts, e = .returned (.slice A1 (List.length ts) c1) ∧ OwnU w.heap.size w' A1 c1 ts ∧ 3 ≤ ts.length ∧ ts.length ≤ 3 + 6 * q.length ∧ Below w.heap.size w w' := by
  obtain ⟨n, hn⟩ : ∃ n, n = q.length := ⟨_, rfl⟩
  have hmn : n ≤ 97 := by omega
  have HQ := Lib.hid h
  have HN := Lib.hid hn
  have HO0 := Lib.hid (show OwnU w.heap.size (w.alloc (.cells #[.int .u64 0, .int .u64 1, .int .u64 1099511627776] 26)) (some ⟨w.heap.size, 0, none⟩) 3 [0, 1, 1099511627776] from ⟨World.ownsRow_lit (base := w.heap.size) (size := 1) (e := 26) w #[.int .u64 0, .int .u64 1, .int .u64 1099511627776] 3 (Nat.le_refl _) (by decide) rfl, fun t ht => by
    rw [u64s_iff]; simp at ht; omega⟩)
  have HB0 := Lib.hid (show Below w.heap.size w (w.alloc (.cells #[.int .u64 0, .int .u64 1, .int .u64 1099511627776] 26)) from (Below.refl _ _).alloc (Nat.le_refl _) _)
  rw [← hn]
  clear h hn hq
  have ix0 := idx0
  have ix1 := idx1
  go_enter Try.func23, Try.ntmps23
  go_wp2
  go_loopw [3, 11] (fun v i wr => ∃ (k : Nat) (A1 : Option Addr) (c1 m : Nat), k ≤ n ∧ i = .int .i64 k ∧ v = .slice A1 m c1 ∧ 3 ≤ m ∧ m ≤ 3 + 6 * k ∧ Hid (∃ ts, List.length ts = m ∧ OwnU w.heap.size wr A1 c1 ts) ∧ Hid (Below w.heap.size w wr)) (fun _ i _ => n - (intOf i).toNat)
  case atStart => exact ⟨0, _, _, 3, Nat.zero_le _, rfl, rfl, by omega, by omega, Lib.hid ⟨_, rfl, HO0.out⟩, HB0⟩
  case round =>
    obtain ⟨k, A1, c1, m, hk, rfl, rfl, hm3, hm, HO, HB⟩ := hrel
    by_cases hkn : k < n
    · obtain ⟨b, o, p, rfl, hp, hb, d0, d1, d2, hv, hf⟩ := (HQ.out.below HB.out).at_ (i := k) (by rw [← HN.out]; exact hkn)
      have k0 : (0 : Int) ≤ k := by omega
      have kn : (k : Int) < n := by omega
      have HBX := Lib.hid (ver_alloc wr p.v.b p.v.f p.B p.v.x.length p.c)
      obtain ⟨hf1, hf2⟩ := hf
      rw [u64s_iff] at hf1 hf2
      have HI := Lib.hid (show ∃ ts, List.length ts = m ∧ OwnU w.heap.size (wr.alloc (.cells #[.int .u64 p.v.b, .int .u64 p.v.f, .slice p.B p.v.x.length p.c] 35)) A1 c1 ts from by
        obtain ⟨ts, h1, h2⟩ := HO.out
        exact ⟨ts, h1, h2.below HBX.out⟩)
      have HBI := Lib.hid (HB.out.trans (HBX.out.mono HB.out.size))
      generalize p.v.b = pb at *
      generalize p.v.f = pf at *
      clear hv hp HO
      go_wp2
      go_loopw [3, 20] (fun v i wx => ∃ (j : Nat) (A1 : Option Addr) (c1 m : Nat), j ≤ 2 ∧ i = .int .i64 j ∧ v = .slice A1 m c1 ∧ 3 ≤ m ∧ m ≤ 3 + 6 * k + 3 * j ∧ Hid (∃ ts, List.length ts = m ∧ OwnU w.heap.size wx A1 c1 ts) ∧ Hid (Below w.heap.size w wx)) (fun _ i _ => 2 - (intOf i).toNat)
      case atStart => exact ⟨0, A1, c1, m, Nat.zero_le _, rfl, rfl, hm3, by omega, HI, HBI⟩
      case round =>
        obtain ⟨j, A2, c2, m2, hj, rfl, rfl, hm23, hm2, HO, HB⟩ := hrel
        have step : ∀ t : Int, 0 < t → t < 18446744073709551616 → ∀ a3, a3 = IntKind.u64.wrap (t + 1) →
            ∃ ts, List.length ts = m2 ∧ wr.ownsRow w.heap.size 26 1 (.slice A2 m2 c2) m2 (ts.map (Value.int .u64)) ∧ ∀ A5 c5 w5, w5.ownsRow w.heap.size 26 1 (.slice A5 (m2 + 3) c5) (m2 + 3) (ts.map (Value.int .u64) ++ [t - 1, t, a3].map (Value.int .u64)) → (wr.alloc (.cells #[.int .u64 (t - 1), .int .u64 t, .int .u64 a3] 26)).grownBy w5 (blk A2) →
              (∃ ts, List.length ts = m2 + 3 ∧ OwnU w.heap.size w5 A5 c5 ts) ∧ Below w.heap.size w w5 := by
          intro t ht0 ht1 a3 ha3
          obtain ⟨ts, h1, h2⟩ := HO.out
          refine ⟨ts, h1, by have := h2.1; rw [h1] at this; exact this, fun A5 c5 w5 h5 g5 => ?_⟩
          obtain ⟨r1, r2⟩ := h2.app (us := [t - 1, t, a3]) ((Below.refl _ _).alloc (Nat.le_refl _) _) HB.out.size (fun x hx => by
            simp at hx
            rcases hx with rfl | rfl | rfl
            · rw [u64s_iff]; omega
            · rw [u64s_iff]; omega
            · rw [ha3]; exact wrap_u64s _) h1 rfl h5 g5
          exact ⟨⟨_, by rw [List.length_append, h1]; rfl, r1⟩, HB.out.trans (r2.mono (Nat.le_refl _))⟩
        have HStep := Lib.hid step
        clear step
        by_cases hj2 : j < 2
        · have hjj : j = 0 ∨ j = 1 := by omega
          rcases hjj with rfl | rfl
          · by_cases ht : 0 < pb
            · obtain ⟨a3, ha3⟩ : ∃ a3, a3 = IntKind.u64.wrap (pb + 1) := ⟨_, rfl⟩
              obtain ⟨ts, hs1, hs2, hs3⟩ := HStep.out pb ht hf1.2 a3 ha3
              have s1 : IntKind.u64.wrap (pb + 1) = a3 := ha3.symm
              have s2 : IntKind.u64.wrap (pb - 1) = pb - 1 := by rw [IntKind.wrap_u64]; omega
              have HS2 := Lib.hid hs2
              have HS3 := Lib.hid hs3
              have HRd := Lib.hid (read3 wr (pb - 1) pb a3)
              have HBs := Lib.hid (show w.heap.size ≤ (wr.alloc (.cells #[.int .u64 (pb - 1), .int .u64 pb, .int .u64 a3] 26)).heap.size from by have := HB.out.size; simp; omega)
              have HO2 := Lib.hid (show (wr.alloc (.cells #[.int .u64 (pb - 1), .int .u64 pb, .int .u64 a3] 26)).ownsRow w.heap.size 26 1 (.slice A2 m2 c2) m2 (ts.map (Value.int .u64)) from hs2.alloc _)
              clear ha3 hs1 hs2 hs3
              go_wp2_with (at_builtin; refine gapp_at rfl (.tmp 25) (.tmp 31) appU rfl w.heap.size A2 c2 m2 (ts.map (Value.int .u64)) rfl HO2.out (some ⟨wr.heap.size, 0, none⟩) 3 3 ([pb - 1, pb, a3].map (Value.int .u64)) rfl HRd.out (by omega) HBs.out ?_; intro A5 c5 w5 ho5 hg5 _; have HX := Lib.hid (HS3.out A5 c5 w5 ho5 hg5); clear ho5 hg5)
              go_roundw
              case rel => exact ⟨1, A5, c5, m2 + 3, by omega, by go_num, rfl, by omega, by omega, Lib.hid HX.out.1, Lib.hid HX.out.2⟩
              case measure => simp [intOf]
            · have t0 : decide (0 < pb) = false := by simpa using ht
              clear ht
              go_wp2
              go_roundw
              case rel => exact ⟨1, A2, c2, m2, by omega, by go_num, rfl, hm23, by omega, HO, HB⟩
              case measure => simp [intOf]
          · by_cases ht : 0 < pf
            · obtain ⟨a3, ha3⟩ : ∃ a3, a3 = IntKind.u64.wrap (pf + 1) := ⟨_, rfl⟩
              obtain ⟨ts, hs1, hs2, hs3⟩ := HStep.out pf ht hf2.2 a3 ha3
              have s1 : IntKind.u64.wrap (pf + 1) = a3 := ha3.symm
              have s2 : IntKind.u64.wrap (pf - 1) = pf - 1 := by rw [IntKind.wrap_u64]; omega
              have HS3 := Lib.hid hs3
              have HRd := Lib.hid (read3 wr (pf - 1) pf a3)
              have HBs := Lib.hid (show w.heap.size ≤ (wr.alloc (.cells #[.int .u64 (pf - 1), .int .u64 pf, .int .u64 a3] 26)).heap.size from by have := HB.out.size; simp; omega)
              have HO2 := Lib.hid (show (wr.alloc (.cells #[.int .u64 (pf - 1), .int .u64 pf, .int .u64 a3] 26)).ownsRow w.heap.size 26 1 (.slice A2 m2 c2) m2 (ts.map (Value.int .u64)) from hs2.alloc _)
              clear ha3 hs1 hs2 hs3
              go_wp2_with (at_builtin; refine gapp_at rfl (.tmp 25) (.tmp 31) appU rfl w.heap.size A2 c2 m2 (ts.map (Value.int .u64)) rfl HO2.out (some ⟨wr.heap.size, 0, none⟩) 3 3 ([pf - 1, pf, a3].map (Value.int .u64)) rfl HRd.out (by omega) HBs.out ?_; intro A5 c5 w5 ho5 hg5 _; have HX := Lib.hid (HS3.out A5 c5 w5 ho5 hg5); clear ho5 hg5)
              go_roundw
              case rel => exact ⟨2, A5, c5, m2 + 3, by omega, by go_num, rfl, by omega, by omega, Lib.hid HX.out.1, Lib.hid HX.out.2⟩
              case measure => simp [intOf]
            · have t0 : decide (0 < pf) = false := by simpa using ht
              clear ht
              go_wp2
              go_roundw
              case rel => exact ⟨2, A2, c2, m2, by omega, by go_num, rfl, hm23, by omega, HO, HB⟩
              case measure => simp [intOf]
        · obtain rfl : j = 2 := by omega
          go_wp2
          go_roundw
          case rel => exact ⟨k + 1, A2, c2, m2, by omega, by go_num, rfl, hm23, by omega, HO, HB⟩
          case measure => simp [intOf]; omega
    · obtain rfl : k = n := by omega
      go_wp2
      go_ret
      obtain ⟨ts, h1, h2⟩ := HO.out
      exact ⟨A1, c1, ts, by rw [h1]; rfl, h2, by omega, by omega, HB.out⟩

/-- What is visible at a time. -/
def shownM (l : List Vr) (t : Int) : List Int := match atM l t with | some i => (l.getD i zv).x | none => []
set_option maxHeartbeats 400000 in
theorem shown_any (A : Option Addr) (c : Nat) (q : List Pl) (t : Int) (w : World) (h : Chn w A c q) :
    Calls Try.prog 25 #[.slice A q.length c, .int .u64 t] w fun e w' => ∃ B cb, e = .returned (.slice B (shownM (vals q) t).length cb) ∧ Vec .i32 w' B cb (shownM (vals q) t) ∧ (atM (vals q) t = none → B = none) ∧ Below w.heap.size w w' := by
  have HA := Lib.hid (at_any A c q t w h)
  have hm := h.many
  cases ha : atM (vals q) t with
  | none =>
    have HS := Lib.hid (show shownM (vals q) t = [] by unfold shownM; rw [ha])
    rw [ha] at HA
    unfold atK atB at HA
    dsimp only at HA
    generalize shownM (vals q) t = S at *
    generalize q.length = n at *
    clear h ha
    go_enter Try.func25, Try.ntmps25
    go_wp2_with fail
    refine HA.out.mono ?_
    rintro e w1 ⟨rfl, hb1⟩
    have HB1 := Lib.hid hb1
    clear hb1
    go_wp2
    go_ret
    rw [HS.out]
    exact ⟨none, 0, rfl, Vec.nil _ _, fun _ => rfl, HB1.out⟩
  | some i =>
    have hil : i < q.length := by
      unfold atM at ha
      split at ha
      · unfold atI at ha
        obtain ⟨hi, _⟩ := List.findIdx?_eq_some_iff_getElem.1 ha
        rw [vals_length] at hi; exact hi
      · cases ha
    obtain ⟨b, o, p, rfl, hp, hb, d0, d1, d2, hv, hf⟩ := h.at_ (i := i) hil
    have HS := Lib.hid (show shownM (vals q) t = p.v.x by unfold shownM; rw [ha]; dsimp only; rw [vals_getD hp])
    rw [ha] at HA
    unfold atK atB at HA
    dsimp only at HA
    generalize shownM (vals q) t = S at *
    generalize hn : q.length = n at *
    have i0 : (0 : Int) ≤ i := by omega
    have in_ : (i : Int) < n := by omega
    have HV := Lib.hid hv
    have HD2 := Lib.hid (fun (X : World) (hX : Below w.heap.size w X) => show X.cell? ⟨b, o + i * 3 + 2, none⟩ = some (.slice p.B p.v.x.length p.c) from (hX.cell (p := ⟨b, o + i * 3 + 2, none⟩) hb).trans d2)
    clear h ha hv hf hp d0 d1 d2 hb hil hn
    go_enter Try.func25, Try.ntmps25
    go_wp2_with fail
    refine HA.out.mono ?_
    rintro e w1 ⟨rfl, hb1⟩
    have HB1 := Lib.hid hb1
    have d2 := HD2.out w1 hb1
    clear hb1
    go_wp2
    go_ret
    rw [HS.out]
    exact ⟨p.B, p.c, rfl, HV.out.below HB1.out, (fun e => by cases e), HB1.out⟩

end Go.Proofs.Ytbnedhhkapbliaa
