/-
  The document's ByRows.
-/
import Derived.Test.YtdbcecmlakgknaaAreCut
import Derived.Deep.RegionHeld3
import Derived.BigQuiet
namespace Go.Proofs.Ytdbcecmlakgknaa
open Go.BigFrame Go.RowKit Go.Shelf
set_option linter.unusedVariables false
set_option linter.unusedSimpArgs false
set_option maxRecDepth 100000

theorem region_quiet9 {P : Program} {id : Nat} {Q : Exit → Act → World → Prop} {a : Act} {w : World} {l : List Oper} (C : World → Prop) (hm : P.follows .mixedOrders = true) (hB : Region.lexB .any l.toArray = true) (hC : C { w with drawn := w.drawn + 1 })
    (h : wpQuiet P l.toArray C (fun a' => ∀ w', C w' → Q .normal a' w') l a) : (Code.region id l.toArray true).wp P Q a w :=
  wp_region_quiet (C := C) hm hB hC (by simpa using h)
theorem row_some9 {w : World} {base n size c : Nat} {e : TypeId} {A : Option Addr} {xs : List Value} (hn : 0 < n) (h : w.ownsRow base e size (.slice A n c) n xs) : ∃ g, A = some ⟨g, 0, none⟩ ∧ base ≤ g := by
  rcases h.2 with ⟨e, h0⟩ | ⟨g, cap, cur, e, hg, hh, _⟩
  · omega
  · injection e with e1
    exact ⟨g, e1, hg⟩
theorem read_own9 {w : World} {base n size c g : Nat} {e : TypeId} {xs : List Value} (h : w.ownsRow base e size (.slice (some ⟨g, 0, none⟩) n c) n xs) (h1 : ∀ u ∈ xs, u.oneCell' = true) : Read w (some ⟨g, 0, none⟩) n size xs := by
  refine ⟨h.1, h1, fun e => (by cases e), fun b hb j u hj => ?_⟩
  injection hb with hb
  subst hb
  exact h.cells (g := g) rfl j u hj
theorem read_nil9 {w : World} {b : Addr} {size : Nat} {xs : List Value} (h : xs = []) : Read w (some b) 0 size xs := by
  subst h
  exact ⟨by simp, by simp, fun _ => rfl, fun _ _ j u hj => by simp at hj⟩

/-- Slots as values. -/
def sV (s : List Nat) : List Value := s.map fun (k : Nat) => Value.int .i64 (k : Int)
theorem sV_cell (s : List Nat) : ∀ u ∈ sV s, u.oneCell' = true := by
  intro u hu
  unfold sV at hu
  obtain ⟨k, _, rfl⟩ := List.mem_map.1 hu
  rfl
theorem sV_len (s : List Nat) : (sV s).length = s.length := by simp [sV]

/-- What is laid when the first k are gone through. -/
def RbI (W0 : World) (q : List Pa) (k n : Nat) (Ao : Option Addr) (co : Nat) (As : Option Addr) (cs : Nat) (wr : World) (qo : List Pa) (s : List Nat) : Prop :=
  (qo.length = n ∧ s.length = n) ∧ (ces qo = s.map (ceAt (ces q)) ∧ ∀ p ∈ qo, p ∈ q) ∧ Are wr Ao co qo ∧ OwnS 0 wr As cs s ∧ ((Ao = none → co = 0) ∧ (As = none → cs = 0)) ∧ ((∀ a, Ao = some a → 0 < n) ∧ (∀ a, As = some a → 0 < n)) ∧ Srt (ces q) s ∧ s.Perm (usedK (ces q) k) ∧ Below W0.heap.size W0 wr
theorem RbI.below {W0 wr X : World} {q : List Pa} {k n : Nat} {Ao As : Option Addr} {co cs : Nat} {qo : List Pa} {s : List Nat} (h : RbI W0 q k n Ao co As cs wr qo s) (hX : Below wr.heap.size wr X) : RbI W0 q k n Ao co As cs X qo s := by
  obtain ⟨h1, h2, h3, h4, h5, h6, h7, h8, h9⟩ := h
  exact ⟨h1, h2, h3.below hX, row_turn h4 (Turn.of_below (S := fun _ => False) hX) (fun _ _ e => e), h5, h6, h7, h8, h9.trans (hX.mono h9.size)⟩
theorem RbI.skip {W0 wr : World} {q : List Pa} {k n : Nat} {Ao As : Option Addr} {co cs : Nat} {qo : List Pa} {s : List Nat} (h : RbI W0 q k n Ao co As cs wr qo s) (hu : (ceAt (ces q) k).u = false) : RbI W0 q (k + 1) n Ao co As cs wr qo s := by
  obtain ⟨h1, h2, h3, h4, h5, h6, h7, h8, h9⟩ := h
  exact ⟨h1, h2, h3, h4, h5, h6, h7, by rw [usedK_no hu]; exact h8, h9⟩
theorem RbI.next {W0 wr w8 : World} {q : List Pa} {k n p : Nat} {Ao As A6 A8 : Option Addr} {co cs c6 c8 b6 b8 : Nat} {qo : List Pa} {s : List Nat} {P : Pa} {A : Option Addr} {c : Nat} (h : RbI W0 q k n Ao co As cs wr qo s) (hQ : Are W0 A c q) (hk : q[k]? = some P) (hu : P.e.u = true) (hp : p ≤ n)
    (hA6 : ∃ g, A6 = some ⟨g, 0, none⟩) (hA8 : ∃ g, A8 = some ⟨g, 0, none⟩) (hB : Below W0.heap.size W0 w8)
    (ho6 : w8.ownsRow b6 45 5 (.slice A6 (n + 1) c6) (n + 1) ((flatA qo).take (p * 5) ++ (flatA [P] ++ (flatA qo).drop (p * 5))))
    (ho8 : w8.ownsRow b8 3 1 (.slice A8 (n + 1) c8) (n + 1) ((sV s).take (p * 1) ++ (sV [k] ++ (sV s).drop (p * 1))))
    (hAll : ∀ z ∈ s.drop p, aheadB (ceAt (ces q) k) (ceAt (ces q) z) = true) (hNot : ∀ y, 0 < p → s[p - 1]? = some y → aheadB (ceAt (ces q) k) (ceAt (ces q) y) = false) :
    RbI W0 q (k + 1) (n + 1) A6 c6 A8 c8 w8 (qo.take p ++ P :: qo.drop p) (s.take p ++ k :: s.drop p) := by
  obtain ⟨⟨h1, h1'⟩, ⟨h2, h2'⟩, h3, h4, h5, h6, h7, h8, h9⟩ := h
  obtain ⟨g6, rfl⟩ := hA6
  obtain ⟨g8, rfl⟩ := hA8
  have l1 : (qo.take p ++ P :: qo.drop p).length = n + 1 := by simp; omega
  have l2 : (s.take p ++ k :: s.drop p).length = n + 1 := by simp; omega
  have hmem : ∀ x ∈ qo.take p ++ P :: qo.drop p, x ∈ q := by
    intro x hx
    rcases List.mem_append.1 hx with hx | hx
    · exact h2' x (List.mem_of_mem_take hx)
    · rcases List.mem_cons.1 hx with rfl | hx
      · exact List.mem_of_getElem? hk
      · exact h2' x (List.mem_of_mem_drop hx)
  have e6 : (flatA qo).take (p * 5) ++ (flatA [P] ++ (flatA qo).drop (p * 5)) = flatA (qo.take p ++ P :: qo.drop p) := by
    rw [flatA_append, flatA_take, show P :: qo.drop p = [P] ++ qo.drop p from rfl, flatA_append, flatA_drop]
  have e8 : (sV s).take (p * 1) ++ (sV [k] ++ (sV s).drop (p * 1)) = sV (s.take p ++ k :: s.drop p) := by
    simp [sV, List.map_take, List.map_drop]
  have hce : ceAt (ces q) k = P.e := ces_ceAt hk
  refine ⟨⟨l1, l2⟩, ⟨?_, hmem⟩, ?_, ?_, ⟨fun e => by (cases e), fun e => by (cases e)⟩, ⟨fun _ _ => Nat.succ_pos _, fun _ _ => Nat.succ_pos _⟩, ?_, ?_, hB⟩
  · unfold ces at h2 ⊢
    rw [List.map_append, List.map_cons, List.map_append, List.map_cons, List.map_take, List.map_drop, h2, List.map_take, List.map_drop]
    congr 2
    exact hce.symm
  · refine own_are (base := b6) ?_ (fun p hp => (hQ.below hB).el p (hmem p hp)) (fun p hp => hQ.fit p (hmem p hp))
    rw [l1, ← e6]
    exact ho6
  · unfold OwnS
    rw [l2]
    have := World.ownsRow.mono ho8 (Nat.zero_le _)
    rw [e8] at this
    exact this
  · exact ins_srt h7 (fun y hy => usedK_lt y (h8.mem_iff.1 hy)) hAll hNot (by omega)
  · rw [usedK_yes (by rw [hce]; exact hu)]
    exact ins_perm.trans (List.Perm.append_right _ h8)

set_option maxHeartbeats 8000000 in
theorem rByRows_any (A : Option Addr) (c : Nat) (q : List Pa) (w : World) (h : Are w A c q) (hq : q.length ≤ 96) :
    Calls Try.prog 21 #[.agg #[.slice A q.length c]] w fun e w' => ∃ n Ao co As cs qo s, e = .returned (.tuple #[.slice Ao n co, .slice As n cs]) ∧ (qo.length = n ∧ s.length = n) ∧ ces qo = s.map (ceAt (ces q)) ∧ Are w' Ao co qo ∧ OwnS 0 w' As cs s ∧ s = rowsS (ces q) ∧ Below w.heap.size w w' := by
  obtain ⟨m, hm⟩ : ∃ m, m = q.length := ⟨_, rfl⟩
  obtain ⟨W0, hW0⟩ : ∃ W0, W0 = w.alloc (.cells #[.slice A m c] 24) := ⟨_, rfl⟩
  have hb0 : Below w.heap.size w W0 := by rw [hW0]; exact (Below.refl _ w).alloc (Nat.le_refl _) _
  have x0 : Boxed W0 w.heap.size 24 (.slice A m c) := by rw [hW0]; exact Boxed.new w _ _
  have HW := Lib.hid hW0
  have HX := Lib.hid (fun (X : World) (hX : Below W0.heap.size W0 X) => show X.cell? ⟨w.heap.size, 0, none⟩ = some (.slice A m c) from Boxed.cell ((hX.block _ x0.lt).trans x0))
  have HQ := Lib.hid (h.below hb0)
  have HB0 := Lib.hid hb0
  have HM := Lib.hid hm
  have m96 : m ≤ 96 := by rw [hm]; exact hq
  rw [← hm]
  have HI0 := Lib.hid (show RbI W0 q 0 0 none 0 none 0 W0 [] [] from ⟨⟨rfl, rfl⟩, ⟨rfl, fun _ h => by cases h⟩, Are.nil _, World.ownsRow_nil _ _ _ _, ⟨fun _ => rfl, fun _ => rfl⟩, ⟨fun _ e => (by cases e), fun _ e => (by cases e)⟩, List.Pairwise.nil, List.Perm.refl _, Below.refl _ _⟩)
  clear h hq hm hW0 hb0 x0
  go_enter Try.func21, Try.ntmps21
  go_wp2_with (rw [← HW.out])
  go_loopw [4, 5, 6] (fun v4 v5 i wr => ∃ (k n : Nat) (Ao As : Option Addr) (co cs : Nat), k ≤ m ∧ n ≤ k ∧ v4 = .slice Ao n co ∧ v5 = .slice As n cs ∧ i = .int .i64 k ∧ Hid (∃ qo s, RbI W0 q k n Ao co As cs wr qo s)) (fun _ _ i _ => m - (intOf i).toNat)
  case atStart => exact ⟨0, 0, none, none, 0, 0, Nat.zero_le _, Nat.le_refl _, rfl, rfl, rfl, Lib.hid ⟨[], [], HI0.out⟩⟩
  case round =>
    obtain ⟨k, n, Ao, As, co, cs, hk, hnk, rfl, rfl, rfl, HIe⟩ := hrel
    rename World => wo
    obtain ⟨qo, s, hI⟩ := HIe.out
    have HI := Lib.hid hI
    clear hI HIe
    have HBo := Lib.hid (show Below W0.heap.size W0 wo from HI.out.2.2.2.2.2.2.2.2)
    have c0 := HX.out wo HBo.out
    by_cases hkm : k < m
    · obtain ⟨b, o, p, rfl, hp, hb, a0, a1, a2, a3, a4, hv, hf⟩ := HQ.out.at_ (i := k) (by rw [← HM.out]; exact hkm)
      have HT0 := Lib.hid (fun (X : World) (hX : Below W0.heap.size W0 X) => show X.cell? ⟨w.heap.size, 0, none⟩ = some (.slice (some ⟨b, o, none⟩) m c) ∧ (X.cell? ⟨b, o + k * 5, none⟩ = some (.bool p.e.u) ∧ X.cell? ⟨b, o + k * 5 + 1, none⟩ = some (.int .u64 p.e.i) ∧ X.cell? ⟨b, o + k * 5 + 2, none⟩ = some (.int .u64 p.e.b) ∧ X.cell? ⟨b, o + k * 5 + 3, none⟩ = some (.int .u64 p.e.f) ∧ X.cell? ⟨b, o + k * 5 + 4, none⟩ = some (.slice p.B p.e.x.length p.c)) from
        ⟨HX.out X hX, (hX.cell (p := ⟨b, _, none⟩) hb).trans a0, (hX.cell (p := ⟨b, _, none⟩) hb).trans a1, (hX.cell (p := ⟨b, _, none⟩) hb).trans a2, (hX.cell (p := ⟨b, _, none⟩) hb).trans a3, (hX.cell (p := ⟨b, _, none⟩) hb).trans a4⟩)
      have hce : ceAt (ces q) k = p.e := ces_ceAt hp
      have k0 : (0 : Int) ≤ k := by omega
      have km : (k : Int) < m := by omega
      have HP := Lib.hid hp
      have HCe := Lib.hid hce
      replace a0 := (HBo.out.cell (p := ⟨b, _, none⟩) hb).trans a0
      cases hu : p.e.u with
      | false =>
        have HI2 := Lib.hid (HI.out.skip (by rw [hce]; exact hu))
        rw [hu] at a0
        clear hu hp hce hv hf hb a1 a2 a3 a4
        go_wp2
        go_roundw
        case rel => exact ⟨k + 1, n, Ao, As, co, cs, by omega, by omega, rfl, rfl, by go_num, Lib.hid ⟨qo, s, HI2.out⟩⟩
        case measure => simp [intOf]; omega
      | true =>
        rw [hu] at a0
        rw [hu] at HT0
        have HU := Lib.hid hu
        have n0 : (0 : Int) ≤ n := by omega
        have hn96 : n ≤ 96 := by omega
        clear hp hce hv hf hb a1 a2 a3 a4
        go_wp2
        go_loopw [7] (fun at_ wr2 => ∃ (pp : Nat), at_ = .int .i64 pp ∧ pp ≤ n ∧ Hid (Below wo.heap.size wo wr2 ∧ ∀ z ∈ s.drop pp, aheadB (ceAt (ces q) k) (ceAt (ces q) z) = true)) (fun at_ _ => (intOf at_).toNat)
        case atStart =>
          exact ⟨n, rfl, Nat.le_refl _, Lib.hid ⟨Below.refl _ _, fun z hz => by rw [List.drop_eq_nil_of_le (by rw [HI.out.1.2]; exact Nat.le_refl _)] at hz; cases hz⟩⟩
        case round =>
          obtain ⟨pp, rfl, hpp, HJ⟩ := hrel
          have HB8 := Lib.hid (HBo.out.trans (HJ.out.1.mono HBo.out.size))
          by_cases hp0 : pp = 0
          · subst hp0
            clear a0 c0
            go_wp2
            refine region_quiet9 (fun X => Below wr.heap.size wr X) (by kernel_rfl) (by kernel_rfl) (below_drew (Below.refl _ _)) ?_
            repeat (first | go_big_quiet_skip | (go_big_quiet_want; go_big_quiet_op; first | go_big_quiet_on | (refine ⟨_, fun _ _ => rfl, ?_⟩; go_big_quiet_on)))
            refine wpQuiet_nil ?_
            intro wq hq
            have HWq := Lib.hid (HJ.out.1.trans (hq.mono HJ.out.1.size))
            clear hq
            have HAll := Lib.hid HJ.out.2
            have HNot := Lib.hid (show ∀ y, 0 < 0 → s[0 - 1]? = some y → aheadB (ceAt (ces q) k) (ceAt (ces q) y) = false from fun _ h => absurd h (Nat.lt_irrefl _))
            have HIq := Lib.hid (HI.out.below HWq.out)
            go_wp2
            rcases Ao with _ | a8
            · have hnz : n = 0 := by
                rcases Nat.eq_zero_or_pos n with h | h
                · exact h
                · obtain ⟨_, _, e, _⟩ := HI.out.2.2.1.rd (by rw [HI.out.1.1]; exact h)
                  cases e
              have hcz : co = 0 := HI.out.2.2.2.2.1.1 rfl
              have hqz : qo = [] := List.eq_nil_of_length_eq_zero (by rw [HI.out.1.1]; exact hnz)
              have hsz : s = [] := List.eq_nil_of_length_eq_zero (by rw [HI.out.1.2]; exact hnz)
              have hAs : As = none := by
                cases As with
                | none => rfl
                | some a => exact absurd (HI.out.2.2.2.2.2.1.2 a rfl) (by omega)
              subst hAs
              have hcsz : cs = 0 := HI.out.2.2.2.2.1.2 rfl
              have HRf := Lib.hid (fun (X : World) (hX : Below wq.heap.size wq X) => show Read X none 0 5 ((flatA qo).take (0 * 5)) from ⟨by simp, by simp, fun _ => rfl, fun _ e => by cases e⟩)
              have HRl := Lib.hid (fun (X : World) (hX : Below wq.heap.size wq X) => show Read X none 0 5 ((flatA qo).drop (0 * 5)) from ⟨by rw [hqz]; rfl, by rw [hqz]; simp [flatA], fun _ => rfl, fun _ e => by cases e⟩)
              have HSf := Lib.hid (fun (w6 X : World) (hX : Below w6.heap.size w6 X) => show Read X none 0 1 ((sV s).take (0 * 1)) from ⟨by simp, by simp, fun _ => rfl, fun _ e => by cases e⟩)
              have HSl := Lib.hid (fun (w6 X : World) (hX : Below w6.heap.size w6 X) => show Read X none 0 1 ((sV s).drop (0 * 1)) from ⟨by rw [hsz]; rfl, by rw [hsz]; simp [sV], fun _ => rfl, fun _ e => by cases e⟩)
              clear hqz hsz
              subst hnz hcz hcsz
              have HT := Lib.hid (fun (X : World) (hX : Below wq.heap.size wq X) => HT0.out X (HIq.out.2.2.2.2.2.2.2.2.trans (hX.mono HIq.out.2.2.2.2.2.2.2.2.size)))
              obtain ⟨e0, ⟨e1, e2, e3, e4, e5⟩⟩ := HT.out wq (Below.refl _ _)
              have HOn := Lib.hid (show World.ownsRow ((wq.alloc (.cells #[.bool true, .int .u64 p.e.i, .int .u64 p.e.b, .int .u64 p.e.f, .slice p.B p.e.x.length p.c] 45)).drew) wq.heap.size 45 5 (.slice (some ⟨wq.heap.size, 0, none⟩) 1 1) 1 (flatA [⟨⟨true, p.e.i, p.e.b, p.e.f, p.e.x⟩, p.B, p.c⟩]) from ⟨rfl, .inr ⟨wq.heap.size, 1, _, rfl, Nat.le_refl _, heap_alloc_new wq _, Nat.le_refl _, by decide, rfl, rfl⟩⟩)
              have hlen : 0 + (1 + 0) = 0 + 1 := by omega
              go_region_held3 (fun X => X.cell? ⟨w.heap.size, 0, none⟩ = some (.slice (some ⟨b, o, none⟩) m c) ∧ (X.cell? ⟨b, o + k * 5, none⟩ = some (.bool true) ∧ X.cell? ⟨b, o + k * 5 + 1, none⟩ = some (.int .u64 p.e.i) ∧ X.cell? ⟨b, o + k * 5 + 2, none⟩ = some (.int .u64 p.e.b) ∧ X.cell? ⟨b, o + k * 5 + 3, none⟩ = some (.int .u64 p.e.f) ∧ X.cell? ⟨b, o + k * 5 + 4, none⟩ = some (.slice p.B p.e.x.length p.c)))
                (first | (with_reducible assumption) | (with_reducible exact HT.out _ (below_drew (Below.refl _ _))) | (with_reducible exact HT.out _ (below_drew ((Below.refl _ _).alloc (Nat.le_refl _) _))) | (with_reducible exact HT.out _ HB5.out) | (with_reducible exact HT.out _ HB6.out))
                (first
                | (refine gapp_step (by rfl) _ _ appA (by rfl) wq.heap.size (some ⟨wq.heap.size, 0, none⟩) 1 1 _ (by rfl) HOn.out none 0 0 ((flatA qo).drop (0 * 5)) (by rfl) (HRl.out _ (below_drew ((Below.refl _ _).alloc (Nat.le_refl _) _))) (by omega) (by simp) ?_; intro A5 c5 w5 ho5 hg5 _; have HB5 := Lib.hid (show Below wq.heap.size wq w5 from (below_drew ((Below.refl _ wq).alloc (Nat.le_refl _) _)).grown hg5 (by simp) (fun k hk => Nat.le_of_eq (show wq.heap.size = k by simpa [blk] using hk))); obtain ⟨g5, rfl, hg5l⟩ := row_some9 (by omega) ho5; have HO5 := Lib.hid ho5; clear ho5 hg5)
                | (refine cut_step (by rfl) _ _ appA (by rfl) none 0 0 ((flatA qo).take (0 * 5)) rfl (by rfl) (HRf.out _ HB5.out) ⟨g5, 0, none⟩ _ (1 + 0) _ (by rfl) (read_own9 HO5.out (fun u hu => (List.mem_append.1 hu).elim (fun hu => flatA_cell [⟨⟨true, p.e.i, p.e.b, p.e.f, p.e.x⟩, p.B, p.c⟩] u hu) (fun hu => flatA_cell qo u (List.mem_of_mem_drop hu)))) (by omega) (by omega) ?_; intro A6 c6 w6 ho6 hb6; rw [hlen] at ho6; rw [hlen]; have HB6 := Lib.hid (HB5.out.trans (hb6.mono HB5.out.size)); have HO6 := Lib.hid ho6; clear ho6 hb6))
              obtain ⟨g6, hg6, -⟩ := row_some9 (Nat.succ_pos _) HO6.out
              subst hg6
              clear e0 e1 e2 e3 e4 e5
              have HI6 := Lib.hid (HIq.out.below HB6.out)
              go_wp2
              replace HSf := Lib.hid (HSf.out w6)
              replace HSl := Lib.hid (HSl.out w6)
              have HOm := Lib.hid (show World.ownsRow ((w6.alloc (.cells #[.int .i64 k] 3)).drew) w6.heap.size 3 1 (.slice (some ⟨w6.heap.size, 0, none⟩) 1 1) 1 (sV [k]) from ⟨rfl, .inr ⟨w6.heap.size, 1, _, rfl, Nat.le_refl _, heap_alloc_new w6 _, Nat.le_refl _, by decide, rfl, rfl⟩⟩)
              have hlen2 : 0 + (1 + 0) = 0 + 1 := by omega
              go_region_held3 (fun _ => True)
                (exact trivial)
                (first
                | (refine gapp_step (by rfl) _ _ appN (by rfl) w6.heap.size (some ⟨w6.heap.size, 0, none⟩) 1 1 _ (by rfl) HOm.out none 0 0 ((sV s).drop (0 * 1)) (by rfl) (HSl.out _ (below_drew ((Below.refl _ _).alloc (Nat.le_refl _) _))) (by omega) (by simp) ?_; intro A7 c7 w7 ho7 hg7 _; have HB7 := Lib.hid (show Below w6.heap.size w6 w7 from (below_drew ((Below.refl _ w6).alloc (Nat.le_refl _) _)).grown hg7 (by simp) (fun k hk => Nat.le_of_eq (show w6.heap.size = k by simpa [blk] using hk))); obtain ⟨g7, rfl, hg7l⟩ := row_some9 (by omega) ho7; have HO7 := Lib.hid ho7; clear ho7 hg7)
                | (refine cut_step (by rfl) _ _ appN (by rfl) none 0 0 ((sV s).take (0 * 1)) rfl (by rfl) (HSf.out _ HB7.out) ⟨g7, 0, none⟩ _ (1 + 0) _ (by rfl) (read_own9 HO7.out (fun u hu => (List.mem_append.1 hu).elim (fun hu => sV_cell [k] u hu) (fun hu => sV_cell s u (List.mem_of_mem_drop hu)))) (by omega) (by omega) ?_; intro A8 c8 w8 ho8 hb8; rw [hlen2] at ho8; rw [hlen2]; have HB8x := Lib.hid (HB7.out.trans (hb8.mono HB7.out.size)); have HO8 := Lib.hid ho8; clear ho8 hb8))
              obtain ⟨g8, hg8, -⟩ := row_some9 (Nat.succ_pos _) HO8.out
              subst hg8
              have HNx := Lib.hid (RbI.next (p := 0) HI6.out HQ.out HP.out HU.out (by omega) ⟨g6, rfl⟩ ⟨g8, rfl⟩ (HI6.out.2.2.2.2.2.2.2.2.trans (HB8x.out.mono HI6.out.2.2.2.2.2.2.2.2.size)) (by have := row_turn HO6.out (Turn.of_below (S := fun _ => False) HB8x.out) (fun _ _ e => e); rw [show (⟨⟨true, p.e.i, p.e.b, p.e.f, p.e.x⟩, p.B, p.c⟩ : Pa) = p from by obtain ⟨⟨u, _, _, _, _⟩, _, _⟩ := p; have := HU.out; dsimp only at this; subst this; rfl] at this; exact this) HO8.out HAll.out HNot.out)
              go_wp2
              go_roundw
              case rel => exact ⟨k + 1, 0 + 1, some ⟨g6, 0, none⟩, some ⟨g8, 0, none⟩, c6, c8, by omega, by omega, rfl, rfl, by go_num, Lib.hid ⟨_, _, HNx.out⟩⟩
              case measure => simp [intOf]; omega
            · have hpos : 0 < n := HI.out.2.2.2.2.2.1.1 _ rfl
              obtain ⟨b8, o8, e8, hb8, _⟩ := HI.out.2.2.1.rd (by rw [HI.out.1.1]; exact hpos)
              injection e8 with e8
              subst e8
              obtain ⟨gs, hgs, -⟩ := row_some9 (A := As) (c := cs) (n := n) (by omega) (show wo.ownsRow 0 _ 1 (.slice As n cs) n _ from by have h := HI.out.2.2.2.1; unfold OwnS at h; rw [HI.out.1.2] at h; exact h)
              subst hgs
              have hnc : n ≤ co := by have h := HI.out.2.2.1.room; rw [HI.out.1.1] at h; exact h
              have HRe := Lib.hid (fun (X : World) (hX : Below wq.heap.size wq X) => show Read X (some ⟨b8, o8, none⟩) n 5 (flatA qo) from by
                have h := Read.cells (HIq.out.below hX).2.2.1
                rw [HI.out.1.1] at h
                exact h)
              have HSo := Lib.hid (fun (X : World) (hX : Below wq.heap.size wq X) => show X.ownsRow 0 3 1 (.slice (some ⟨gs, 0, none⟩) n cs) n (sV s) from by
                have h := (HIq.out.below hX).2.2.2.1
                unfold OwnS at h
                rw [HI.out.1.2] at h
                exact h)
              have hncs : n ≤ cs := by
                rcases (HSo.out wq (Below.refl _ _)).2 with ⟨_, h0⟩ | ⟨g, cap, cur, e, _, _, hx, _⟩
                · omega
                · injection e with _ _ e3; rw [e3]; exact hx
              have HSe := Lib.hid (fun (X : World) (hX : Below wq.heap.size wq X) => read_own9 (HSo.out X hX) (sV_cell s))
              clear hb8
              have HRf := Lib.hid (fun (X : World) (hX : Below wq.heap.size wq X) => (HRe.out X hX).first (k := 0) (by omega))
              have HRl := Lib.hid (fun (X : World) (hX : Below wq.heap.size wq X) => show Read X (some ⟨b8, o8, none⟩) n 5 ((flatA qo).drop (0 * 5)) from by simpa using HRe.out X hX)
              have hnco : (n : Int) ≤ co := by omega
              have co0 : (0 : Int) ≤ co := by omega
              have hcj2 : (co == 0) = false := by simp; omega
              have hcj3 : ¬ (co = 0) := by omega
              have hncsi : (n : Int) ≤ cs := by omega
              have cs0 : (0 : Int) ≤ cs := by omega
              have hcs2 : (cs == 0) = false := by simp; omega
              have hcs3 : ¬ (cs = 0) := by omega
              have HT := Lib.hid (fun (X : World) (hX : Below wq.heap.size wq X) => HT0.out X (HIq.out.2.2.2.2.2.2.2.2.trans (hX.mono HIq.out.2.2.2.2.2.2.2.2.size)))
              obtain ⟨e0, ⟨e1, e2, e3, e4, e5⟩⟩ := HT.out wq (Below.refl _ _)
              have HOn := Lib.hid (show World.ownsRow ((wq.alloc (.cells #[.bool true, .int .u64 p.e.i, .int .u64 p.e.b, .int .u64 p.e.f, .slice p.B p.e.x.length p.c] 45)).drew) wq.heap.size 45 5 (.slice (some ⟨wq.heap.size, 0, none⟩) 1 1) 1 (flatA [⟨⟨true, p.e.i, p.e.b, p.e.f, p.e.x⟩, p.B, p.c⟩]) from ⟨rfl, .inr ⟨wq.heap.size, 1, _, rfl, Nat.le_refl _, heap_alloc_new wq _, Nat.le_refl _, by decide, rfl, rfl⟩⟩)
              have hlen : 0 + (1 + n) = n + 1 := by omega
              go_region_held3 (fun X => X.cell? ⟨w.heap.size, 0, none⟩ = some (.slice (some ⟨b, o, none⟩) m c) ∧ (X.cell? ⟨b, o + k * 5, none⟩ = some (.bool true) ∧ X.cell? ⟨b, o + k * 5 + 1, none⟩ = some (.int .u64 p.e.i) ∧ X.cell? ⟨b, o + k * 5 + 2, none⟩ = some (.int .u64 p.e.b) ∧ X.cell? ⟨b, o + k * 5 + 3, none⟩ = some (.int .u64 p.e.f) ∧ X.cell? ⟨b, o + k * 5 + 4, none⟩ = some (.slice p.B p.e.x.length p.c)))
                (first | (with_reducible assumption) | (with_reducible exact HT.out _ (below_drew (Below.refl _ _))) | (with_reducible exact HT.out _ (below_drew ((Below.refl _ _).alloc (Nat.le_refl _) _))) | (with_reducible exact HT.out _ HB5.out) | (with_reducible exact HT.out _ HB6.out))
                (first
                | (refine gapp_step (by rfl) _ _ appA (by rfl) wq.heap.size (some ⟨wq.heap.size, 0, none⟩) 1 1 _ (by rfl) HOn.out (some ⟨b8, o8, none⟩) co n ((flatA qo).drop (0 * 5)) (by rfl) (HRl.out _ (below_drew ((Below.refl _ _).alloc (Nat.le_refl _) _))) (by omega) (by simp) ?_; intro A5 c5 w5 ho5 hg5 _; have HB5 := Lib.hid (show Below wq.heap.size wq w5 from (below_drew ((Below.refl _ wq).alloc (Nat.le_refl _) _)).grown hg5 (by simp) (fun k hk => Nat.le_of_eq (show wq.heap.size = k by simpa [blk] using hk))); obtain ⟨g5, rfl, hg5l⟩ := row_some9 (by omega) ho5; have HO5 := Lib.hid ho5; clear ho5 hg5)
                | (refine cut_step (by rfl) _ _ appA (by rfl) (some ⟨b8, o8, none⟩) 0 0 ((flatA qo).take (0 * 5)) rfl (by rfl) (HRf.out _ HB5.out) ⟨g5, 0, none⟩ _ (1 + n) _ (by rfl) (read_own9 HO5.out (fun u hu => (List.mem_append.1 hu).elim (fun hu => flatA_cell [⟨⟨true, p.e.i, p.e.b, p.e.f, p.e.x⟩, p.B, p.c⟩] u hu) (fun hu => flatA_cell qo u (List.mem_of_mem_drop hu)))) (by omega) (by omega) ?_; intro A6 c6 w6 ho6 hb6; rw [hlen] at ho6; rw [hlen]; have HB6 := Lib.hid (HB5.out.trans (hb6.mono HB5.out.size)); have HO6 := Lib.hid ho6; clear ho6 hb6))
              obtain ⟨g6, hg6, -⟩ := row_some9 (Nat.succ_pos _) HO6.out
              subst hg6
              clear e0 e1 e2 e3 e4 e5
              have HI6 := Lib.hid (HIq.out.below HB6.out)
              go_wp2
              have HSf := Lib.hid (fun (X : World) (hX : Below w6.heap.size w6 X) => (HSe.out X (HB6.out.trans (hX.mono HB6.out.size))).first (k := 0) (by omega))
              have HSl := Lib.hid (fun (X : World) (hX : Below w6.heap.size w6 X) => show Read X (some ⟨gs, 0, none⟩) n 1 ((sV s).drop (0 * 1)) from by simpa using HSe.out X (HB6.out.trans (hX.mono HB6.out.size)))
              have HOm := Lib.hid (show World.ownsRow ((w6.alloc (.cells #[.int .i64 k] 3)).drew) w6.heap.size 3 1 (.slice (some ⟨w6.heap.size, 0, none⟩) 1 1) 1 (sV [k]) from ⟨rfl, .inr ⟨w6.heap.size, 1, _, rfl, Nat.le_refl _, heap_alloc_new w6 _, Nat.le_refl _, by decide, rfl, rfl⟩⟩)
              have hlen2 : 0 + (1 + n) = n + 1 := by omega
              go_region_held3 (fun _ => True)
                (exact trivial)
                (first
                | (refine gapp_step (by rfl) _ _ appN (by rfl) w6.heap.size (some ⟨w6.heap.size, 0, none⟩) 1 1 _ (by rfl) HOm.out (some ⟨gs, 0, none⟩) cs n ((sV s).drop (0 * 1)) (by rfl) (HSl.out _ (below_drew ((Below.refl _ _).alloc (Nat.le_refl _) _))) (by omega) (by simp) ?_; intro A7 c7 w7 ho7 hg7 _; have HB7 := Lib.hid (show Below w6.heap.size w6 w7 from (below_drew ((Below.refl _ w6).alloc (Nat.le_refl _) _)).grown hg7 (by simp) (fun k hk => Nat.le_of_eq (show w6.heap.size = k by simpa [blk] using hk))); obtain ⟨g7, rfl, hg7l⟩ := row_some9 (by omega) ho7; have HO7 := Lib.hid ho7; clear ho7 hg7)
                | (refine cut_step (by rfl) _ _ appN (by rfl) (some ⟨gs, 0, none⟩) 0 0 ((sV s).take (0 * 1)) rfl (by rfl) (HSf.out _ HB7.out) ⟨g7, 0, none⟩ _ (1 + n) _ (by rfl) (read_own9 HO7.out (fun u hu => (List.mem_append.1 hu).elim (fun hu => sV_cell [k] u hu) (fun hu => sV_cell s u (List.mem_of_mem_drop hu)))) (by omega) (by omega) ?_; intro A8 c8 w8 ho8 hb8; rw [hlen2] at ho8; rw [hlen2]; have HB8x := Lib.hid (HB7.out.trans (hb8.mono HB7.out.size)); have HO8 := Lib.hid ho8; clear ho8 hb8))
              obtain ⟨g8, hg8, -⟩ := row_some9 (Nat.succ_pos _) HO8.out
              subst hg8
              have HNx := Lib.hid (RbI.next (p := 0) HI6.out HQ.out HP.out HU.out (by omega) ⟨g6, rfl⟩ ⟨g8, rfl⟩ (HI6.out.2.2.2.2.2.2.2.2.trans (HB8x.out.mono HI6.out.2.2.2.2.2.2.2.2.size)) (by have := row_turn HO6.out (Turn.of_below (S := fun _ => False) HB8x.out) (fun _ _ e => e); rw [show (⟨⟨true, p.e.i, p.e.b, p.e.f, p.e.x⟩, p.B, p.c⟩ : Pa) = p from by obtain ⟨⟨u, _, _, _, _⟩, _, _⟩ := p; have := HU.out; dsimp only at this; subst this; rfl] at this; exact this) HO8.out HAll.out HNot.out)
              go_wp2
              go_roundw
              case rel => exact ⟨k + 1, n + 1, some ⟨g6, 0, none⟩, some ⟨g8, 0, none⟩, c6, c8, by omega, by omega, rfl, rfl, by go_num, Lib.hid ⟨_, _, HNx.out⟩⟩
              case measure => simp [intOf]; omega
          · obtain ⟨j, rfl⟩ : ∃ j, pp = j + 1 := ⟨pp - 1, by omega⟩
            obtain ⟨b8, o8, p8, e8, hp8, hb8, g0, g1, g2, g3, g4, hv8, hf8⟩ := HI.out.2.2.1.at_ (i := j) (by rw [HI.out.1.1]; omega)
            subst e8
            obtain ⟨y, hy⟩ : ∃ y, s[j]? = some y := ⟨_, List.getElem?_eq_getElem (by rw [HI.out.1.2]; omega)⟩
            have hcy : ceAt (ces q) y = p8.e := by
              have e1 := ces_at hp8
              rw [HI.out.2.1.1, List.getElem?_map, hy] at e1
              injection e1
            have HAh := Lib.hid (fun (X : World) (hX : Below wr.heap.size wr X) => rAhead_any p p8 X)
            have HKy := Lib.hid (And.intro hy hcy)
            have HK := Lib.hid (fun (X : World) (hX : Below wr.heap.size wr X) => show X.cell? ⟨w.heap.size, 0, none⟩ = some (.slice (some ⟨b, o, none⟩) m c) ∧ (X.cell? ⟨b, o + k * 5, none⟩ = some (.bool true) ∧ X.cell? ⟨b, o + k * 5 + 1, none⟩ = some (.int .u64 p.e.i) ∧ X.cell? ⟨b, o + k * 5 + 2, none⟩ = some (.int .u64 p.e.b) ∧ X.cell? ⟨b, o + k * 5 + 3, none⟩ = some (.int .u64 p.e.f) ∧ X.cell? ⟨b, o + k * 5 + 4, none⟩ = some (.slice p.B p.e.x.length p.c)) ∧ (X.cell? ⟨b8, o8 + j * 5, none⟩ = some (.bool p8.e.u) ∧ X.cell? ⟨b8, o8 + j * 5 + 1, none⟩ = some (.int .u64 p8.e.i) ∧ X.cell? ⟨b8, o8 + j * 5 + 2, none⟩ = some (.int .u64 p8.e.b) ∧ X.cell? ⟨b8, o8 + j * 5 + 3, none⟩ = some (.int .u64 p8.e.f) ∧ X.cell? ⟨b8, o8 + j * 5 + 4, none⟩ = some (.slice p8.B p8.e.x.length p8.c)) from by
              have hXr : Below wo.heap.size wo X := HJ.out.1.trans (hX.mono HJ.out.1.size)
              obtain ⟨t0, t1⟩ := HT0.out X (HB8.out.trans (hX.mono HB8.out.size))
              exact ⟨t0, t1, ⟨(hXr.cell (p := ⟨b8, _, none⟩) hb8).trans g0, (hXr.cell (p := ⟨b8, _, none⟩) hb8).trans g1, (hXr.cell (p := ⟨b8, _, none⟩) hb8).trans g2, (hXr.cell (p := ⟨b8, _, none⟩) hb8).trans g3, (hXr.cell (p := ⟨b8, _, none⟩) hb8).trans g4⟩⟩)
            have j0 : (0 : Int) ≤ j := by omega
            have jn : (j : Int) < n := by omega
            have hsub : ((j + 1 : Nat) : Int) - 1 = j := by omega
            have hsub2 : (j : Int) + 1 - 1 = j := by omega
            have hw : IntKind.i64.wrap (j : Int) = j := by rw [IntKind.wrap_i64, Int.emod_eq_of_lt (by omega) (by omega)]; omega
            have tk : decide ((0 : Int) < (j : Int) + 1) = true := by simp
            rw [hu] at HAh
            clear a0 c0 hp8 hb8 g0 g1 g2 g3 g4 hv8 hf8 hy hcy
            go_wp2
            refine region_quiet9 (fun X => Below wr.heap.size wr X) (by kernel_rfl) (by kernel_rfl) (below_drew (Below.refl _ _)) ?_
            repeat (first | go_big_quiet_skip | (go_big_quiet_want; go_big_quiet_op; first | go_big_quiet_on | (refine ⟨_, fun _ _ => rfl, ?_⟩; go_big_quiet_on) | (refine ⟨_, fun W hW => (HAh.out W hW).mono (fun _ _ h => ⟨h.1, hW.trans (h.2.mono hW.size)⟩), ?_⟩; go_big_quiet_on) | (refine ⟨_, fun W hW => (by obtain ⟨z0, ⟨z1, z2, z3, z4, z5⟩, ⟨y1, y2, y3, y4, y5⟩⟩ := HK.out W hW; simp only [z0]; exact ⟨rfl, rfl⟩), ?_⟩; go_big_quiet_on) | (refine ⟨_, fun W hW => (by obtain ⟨z0, ⟨z1, z2, z3, z4, z5⟩, ⟨y1, y2, y3, y4, y5⟩⟩ := HK.out W hW; simp only [Result.andThen, z1, z2, z3, z4, z5, y1, y2, y3, y4, y5]; exact ⟨trivial, rfl⟩), ?_⟩; go_big_quiet_on)))
            refine wpQuiet_nil ?_
            intro wq hq
            have HWq := Lib.hid (HJ.out.1.trans (hq.mono HJ.out.1.size))
            clear hq
            have HIq := Lib.hid (HI.out.below HWq.out)
            cases hah : aheadB p.e p8.e with
            | true =>
              have HN2 := Lib.hid (show ∀ z ∈ s.drop j, aheadB (ceAt (ces q) k) (ceAt (ces q) z) = true from fun z hz => by
                rw [List.drop_eq_getElem_cons (i := j) (by rw [HI.out.1.2]; omega)] at hz
                rcases List.mem_cons.1 hz with h | h
                · have e := HKy.out.1
                  rw [List.getElem?_eq_getElem (by rw [HI.out.1.2]; omega)] at e
                  injection e with e
                  rw [h, e, HKy.out.2, HCe.out]
                  exact hah
                · exact HJ.out.2 z h)
              clear hah
              go_wp2
              go_roundw
              case rel => exact ⟨j, by go_num, by omega, Lib.hid ⟨HWq.out, HN2.out⟩⟩
              case measure => simp [intOf]
            | false =>
              have HNot := Lib.hid (show ∀ y, 0 < j + 1 → s[j + 1 - 1]? = some y → aheadB (ceAt (ces q) k) (ceAt (ces q) y) = false from fun z _ hz => by
                rw [Nat.add_sub_cancel, HKy.out.1] at hz
                injection hz with hz
                rw [← hz, HKy.out.2, HCe.out]
                exact hah)
              have HAll := Lib.hid HJ.out.2
              clear hah
              go_wp2
              have hjn : j + 1 ≤ n := hpp
              obtain ⟨gs, hgs, -⟩ := row_some9 (A := As) (c := cs) (n := n) (by omega) (show wo.ownsRow 0 _ 1 (.slice As n cs) n _ from by have h := HI.out.2.2.2.1; unfold OwnS at h; rw [HI.out.1.2] at h; exact h)
              subst hgs
              have hnc : n ≤ co := by have h := HI.out.2.2.1.room; rw [HI.out.1.1] at h; exact h
              have HRe := Lib.hid (fun (X : World) (hX : Below wq.heap.size wq X) => show Read X (some ⟨b8, o8, none⟩) n 5 (flatA qo) from by
                have h := Read.cells (HIq.out.below hX).2.2.1
                rw [HI.out.1.1] at h
                exact h)
              have HSo := Lib.hid (fun (X : World) (hX : Below wq.heap.size wq X) => show X.ownsRow 0 3 1 (.slice (some ⟨gs, 0, none⟩) n cs) n (sV s) from by
                have h := (HIq.out.below hX).2.2.2.1
                unfold OwnS at h
                rw [HI.out.1.2] at h
                exact h)
              have hncs : n ≤ cs := by
                rcases (HSo.out wq (Below.refl _ _)).2 with ⟨_, h0⟩ | ⟨g, cap, cur, e, _, _, hx, _⟩
                · omega
                · injection e with _ _ e3; rw [e3]; exact hx
              have HSe := Lib.hid (fun (X : World) (hX : Below wq.heap.size wq X) => read_own9 (HSo.out X hX) (sV_cell s))
              have HRf := Lib.hid (fun (X : World) (hX : Below wq.heap.size wq X) => (HRe.out X hX).first (k := j + 1) (by omega))
              have hnco : (n : Int) ≤ co := by omega
              have hncsi : (n : Int) ≤ cs := by omega
              have j1n : (j : Int) + 1 ≤ n := by omega
              have j1c : (j : Int) + 1 ≤ co := by omega
              have j1s : (j : Int) + 1 ≤ cs := by omega
              have j10 : (0 : Int) ≤ (j : Int) + 1 := by omega
              by_cases hne : n = j + 1
              · subst hne
                by_cases hcj : co = j + 1
                · subst hcj
                  have HRl := Lib.hid (fun (X : World) (hX : Below wq.heap.size wq X) => show Read X (some ⟨b8, o8, none⟩) 0 5 ((flatA qo).drop ((j + 1) * 5)) from read_nil9 (List.drop_eq_nil_of_le (by rw [flatA_length, HI.out.1.1]; exact Nat.le_refl _)))
                  have HT := Lib.hid (fun (X : World) (hX : Below wq.heap.size wq X) => HT0.out X (HIq.out.2.2.2.2.2.2.2.2.trans (hX.mono HIq.out.2.2.2.2.2.2.2.2.size)))
                  obtain ⟨e0, ⟨e1, e2, e3, e4, e5⟩⟩ := HT.out wq (Below.refl _ _)
                  have HOn := Lib.hid (show World.ownsRow ((wq.alloc (.cells #[.bool true, .int .u64 p.e.i, .int .u64 p.e.b, .int .u64 p.e.f, .slice p.B p.e.x.length p.c] 45)).drew) wq.heap.size 45 5 (.slice (some ⟨wq.heap.size, 0, none⟩) 1 1) 1 (flatA [⟨⟨true, p.e.i, p.e.b, p.e.f, p.e.x⟩, p.B, p.c⟩]) from ⟨rfl, .inr ⟨wq.heap.size, 1, _, rfl, Nat.le_refl _, heap_alloc_new wq _, Nat.le_refl _, by decide, rfl, rfl⟩⟩)
                  have hlen : (j + 1) + (1 + 0) = (j + 1) + 1 := by omega
                  go_region_held3 (fun X => X.cell? ⟨w.heap.size, 0, none⟩ = some (.slice (some ⟨b, o, none⟩) m c) ∧ (X.cell? ⟨b, o + k * 5, none⟩ = some (.bool true) ∧ X.cell? ⟨b, o + k * 5 + 1, none⟩ = some (.int .u64 p.e.i) ∧ X.cell? ⟨b, o + k * 5 + 2, none⟩ = some (.int .u64 p.e.b) ∧ X.cell? ⟨b, o + k * 5 + 3, none⟩ = some (.int .u64 p.e.f) ∧ X.cell? ⟨b, o + k * 5 + 4, none⟩ = some (.slice p.B p.e.x.length p.c)))
                    (first | (with_reducible assumption) | (with_reducible exact HT.out _ (below_drew (Below.refl _ _))) | (with_reducible exact HT.out _ (below_drew ((Below.refl _ _).alloc (Nat.le_refl _) _))) | (with_reducible exact HT.out _ HB5.out) | (with_reducible exact HT.out _ HB6.out))
                    (first
                    | (refine gapp_step (by rfl) _ _ appA (by rfl) wq.heap.size (some ⟨wq.heap.size, 0, none⟩) 1 1 _ (by rfl) HOn.out (some ⟨b8, o8, none⟩) 0 0 ((flatA qo).drop ((j + 1) * 5)) (by rfl) (HRl.out _ (below_drew ((Below.refl _ _).alloc (Nat.le_refl _) _))) (by omega) (by simp) ?_; intro A5 c5 w5 ho5 hg5 _; have HB5 := Lib.hid (show Below wq.heap.size wq w5 from (below_drew ((Below.refl _ wq).alloc (Nat.le_refl _) _)).grown hg5 (by simp) (fun k hk => Nat.le_of_eq (show wq.heap.size = k by simpa [blk] using hk))); obtain ⟨g5, rfl, hg5l⟩ := row_some9 (by omega) ho5; have HO5 := Lib.hid ho5; clear ho5 hg5)
                    | (refine cut_step (by rfl) _ _ appA (by rfl) (some ⟨b8, o8, none⟩) (j + 1) (j + 1) ((flatA qo).take ((j + 1) * 5)) rfl (by rfl) (HRf.out _ HB5.out) ⟨g5, 0, none⟩ _ (1 + 0) _ (by rfl) (read_own9 HO5.out (fun u hu => (List.mem_append.1 hu).elim (fun hu => flatA_cell [⟨⟨true, p.e.i, p.e.b, p.e.f, p.e.x⟩, p.B, p.c⟩] u hu) (fun hu => flatA_cell qo u (List.mem_of_mem_drop hu)))) (by omega) (by omega) ?_; intro A6 c6 w6 ho6 hb6; rw [hlen] at ho6; rw [hlen]; have HB6 := Lib.hid (HB5.out.trans (hb6.mono HB5.out.size)); have HO6 := Lib.hid ho6; clear ho6 hb6))
                  obtain ⟨g6, hg6, -⟩ := row_some9 (Nat.succ_pos _) HO6.out
                  subst hg6
                  clear e0 e1 e2 e3 e4 e5
                  have HI6 := Lib.hid (HIq.out.below HB6.out)
                  go_wp2
                  by_cases hcs : cs = j + 1
                  · subst hcs
                    have HSf := Lib.hid (fun (X : World) (hX : Below w6.heap.size w6 X) => (HSe.out X (HB6.out.trans (hX.mono HB6.out.size))).first (k := (j + 1)) (by omega))
                    have HSl := Lib.hid (fun (X : World) (hX : Below w6.heap.size w6 X) => show Read X (some ⟨gs, 0, none⟩) 0 1 ((sV s).drop ((j + 1) * 1)) from read_nil9 (List.drop_eq_nil_of_le (by rw [sV_len, HI.out.1.2]; omega)))
                    have HOm := Lib.hid (show World.ownsRow ((w6.alloc (.cells #[.int .i64 k] 3)).drew) w6.heap.size 3 1 (.slice (some ⟨w6.heap.size, 0, none⟩) 1 1) 1 (sV [k]) from ⟨rfl, .inr ⟨w6.heap.size, 1, _, rfl, Nat.le_refl _, heap_alloc_new w6 _, Nat.le_refl _, by decide, rfl, rfl⟩⟩)
                    have hlen2 : (j + 1) + (1 + 0) = (j + 1) + 1 := by omega
                    go_region_held3 (fun _ => True)
                      (exact trivial)
                      (first
                      | (refine gapp_step (by rfl) _ _ appN (by rfl) w6.heap.size (some ⟨w6.heap.size, 0, none⟩) 1 1 _ (by rfl) HOm.out (some ⟨gs, 0, none⟩) 0 0 ((sV s).drop ((j + 1) * 1)) (by rfl) (HSl.out _ (below_drew ((Below.refl _ _).alloc (Nat.le_refl _) _))) (by omega) (by simp) ?_; intro A7 c7 w7 ho7 hg7 _; have HB7 := Lib.hid (show Below w6.heap.size w6 w7 from (below_drew ((Below.refl _ w6).alloc (Nat.le_refl _) _)).grown hg7 (by simp) (fun k hk => Nat.le_of_eq (show w6.heap.size = k by simpa [blk] using hk))); obtain ⟨g7, rfl, hg7l⟩ := row_some9 (by omega) ho7; have HO7 := Lib.hid ho7; clear ho7 hg7)
                      | (refine cut_step (by rfl) _ _ appN (by rfl) (some ⟨gs, 0, none⟩) (j + 1) (j + 1) ((sV s).take ((j + 1) * 1)) rfl (by rfl) (HSf.out _ HB7.out) ⟨g7, 0, none⟩ _ (1 + 0) _ (by rfl) (read_own9 HO7.out (fun u hu => (List.mem_append.1 hu).elim (fun hu => sV_cell [k] u hu) (fun hu => sV_cell s u (List.mem_of_mem_drop hu)))) (by omega) (by omega) ?_; intro A8 c8 w8 ho8 hb8; rw [hlen2] at ho8; rw [hlen2]; have HB8x := Lib.hid (HB7.out.trans (hb8.mono HB7.out.size)); have HO8 := Lib.hid ho8; clear ho8 hb8))
                    obtain ⟨g8, hg8, -⟩ := row_some9 (Nat.succ_pos _) HO8.out
                    subst hg8
                    have HNx := Lib.hid (RbI.next (p := (j + 1)) HI6.out HQ.out HP.out HU.out (by omega) ⟨g6, rfl⟩ ⟨g8, rfl⟩ (HI6.out.2.2.2.2.2.2.2.2.trans (HB8x.out.mono HI6.out.2.2.2.2.2.2.2.2.size)) (by have := row_turn HO6.out (Turn.of_below (S := fun _ => False) HB8x.out) (fun _ _ e => e); rw [show (⟨⟨true, p.e.i, p.e.b, p.e.f, p.e.x⟩, p.B, p.c⟩ : Pa) = p from by obtain ⟨⟨u, _, _, _, _⟩, _, _⟩ := p; have := HU.out; dsimp only at this; subst this; rfl] at this; exact this) HO8.out HAll.out HNot.out)
                    go_wp2
                    go_roundw
                    case rel => exact ⟨k + 1, (j + 1) + 1, some ⟨g6, 0, none⟩, some ⟨g8, 0, none⟩, c6, c8, by omega, by omega, rfl, rfl, by go_num, Lib.hid ⟨_, _, HNx.out⟩⟩
                    case measure => simp [intOf]; omega
                  · have hjcs2 : (cs - (j + 1) == 0) = false := by simp; omega
                    have hjcs4 : ¬ ((cs : Int) = (j : Int) + 1) := by omega
                    have HSf := Lib.hid (fun (X : World) (hX : Below w6.heap.size w6 X) => (HSe.out X (HB6.out.trans (hX.mono HB6.out.size))).first (k := (j + 1)) (by omega))
                    have HSl := Lib.hid (fun (X : World) (hX : Below w6.heap.size w6 X) => show Read X (some ⟨gs, (j + 1), none⟩) 0 1 ((sV s).drop ((j + 1) * 1)) from read_nil9 (List.drop_eq_nil_of_le (by rw [sV_len, HI.out.1.2]; omega)))
                    have HOm := Lib.hid (show World.ownsRow ((w6.alloc (.cells #[.int .i64 k] 3)).drew) w6.heap.size 3 1 (.slice (some ⟨w6.heap.size, 0, none⟩) 1 1) 1 (sV [k]) from ⟨rfl, .inr ⟨w6.heap.size, 1, _, rfl, Nat.le_refl _, heap_alloc_new w6 _, Nat.le_refl _, by decide, rfl, rfl⟩⟩)
                    have hlen2 : (j + 1) + (1 + 0) = (j + 1) + 1 := by omega
                    go_region_held3 (fun _ => True)
                      (exact trivial)
                      (first
                      | (refine gapp_step (by rfl) _ _ appN (by rfl) w6.heap.size (some ⟨w6.heap.size, 0, none⟩) 1 1 _ (by rfl) HOm.out (some ⟨gs, (j + 1), none⟩) (cs - (j + 1)) 0 ((sV s).drop ((j + 1) * 1)) (by rfl) (HSl.out _ (below_drew ((Below.refl _ _).alloc (Nat.le_refl _) _))) (by omega) (by simp) ?_; intro A7 c7 w7 ho7 hg7 _; have HB7 := Lib.hid (show Below w6.heap.size w6 w7 from (below_drew ((Below.refl _ w6).alloc (Nat.le_refl _) _)).grown hg7 (by simp) (fun k hk => Nat.le_of_eq (show w6.heap.size = k by simpa [blk] using hk))); obtain ⟨g7, rfl, hg7l⟩ := row_some9 (by omega) ho7; have HO7 := Lib.hid ho7; clear ho7 hg7)
                      | (refine cut_step (by rfl) _ _ appN (by rfl) (some ⟨gs, 0, none⟩) (j + 1) (j + 1) ((sV s).take ((j + 1) * 1)) rfl (by rfl) (HSf.out _ HB7.out) ⟨g7, 0, none⟩ _ (1 + 0) _ (by rfl) (read_own9 HO7.out (fun u hu => (List.mem_append.1 hu).elim (fun hu => sV_cell [k] u hu) (fun hu => sV_cell s u (List.mem_of_mem_drop hu)))) (by omega) (by omega) ?_; intro A8 c8 w8 ho8 hb8; rw [hlen2] at ho8; rw [hlen2]; have HB8x := Lib.hid (HB7.out.trans (hb8.mono HB7.out.size)); have HO8 := Lib.hid ho8; clear ho8 hb8))
                    obtain ⟨g8, hg8, -⟩ := row_some9 (Nat.succ_pos _) HO8.out
                    subst hg8
                    have HNx := Lib.hid (RbI.next (p := (j + 1)) HI6.out HQ.out HP.out HU.out (by omega) ⟨g6, rfl⟩ ⟨g8, rfl⟩ (HI6.out.2.2.2.2.2.2.2.2.trans (HB8x.out.mono HI6.out.2.2.2.2.2.2.2.2.size)) (by have := row_turn HO6.out (Turn.of_below (S := fun _ => False) HB8x.out) (fun _ _ e => e); rw [show (⟨⟨true, p.e.i, p.e.b, p.e.f, p.e.x⟩, p.B, p.c⟩ : Pa) = p from by obtain ⟨⟨u, _, _, _, _⟩, _, _⟩ := p; have := HU.out; dsimp only at this; subst this; rfl] at this; exact this) HO8.out HAll.out HNot.out)
                    go_wp2
                    go_roundw
                    case rel => exact ⟨k + 1, (j + 1) + 1, some ⟨g6, 0, none⟩, some ⟨g8, 0, none⟩, c6, c8, by omega, by omega, rfl, rfl, by go_num, Lib.hid ⟨_, _, HNx.out⟩⟩
                    case measure => simp [intOf]; omega
                · have hjco2 : (co - (j + 1) == 0) = false := by simp; omega
                  have hjco4 : ¬ ((co : Int) = (j : Int) + 1) := by omega
                  have hcj3 : ¬ (co = j + 1) := hcj
                  have HRl := Lib.hid (fun (X : World) (hX : Below wq.heap.size wq X) => show Read X (some ⟨b8, o8 + (j + 1) * 5, none⟩) 0 5 ((flatA qo).drop ((j + 1) * 5)) from read_nil9 (List.drop_eq_nil_of_le (by rw [flatA_length, HI.out.1.1]; exact Nat.le_refl _)))
                  have HT := Lib.hid (fun (X : World) (hX : Below wq.heap.size wq X) => HT0.out X (HIq.out.2.2.2.2.2.2.2.2.trans (hX.mono HIq.out.2.2.2.2.2.2.2.2.size)))
                  obtain ⟨e0, ⟨e1, e2, e3, e4, e5⟩⟩ := HT.out wq (Below.refl _ _)
                  have HOn := Lib.hid (show World.ownsRow ((wq.alloc (.cells #[.bool true, .int .u64 p.e.i, .int .u64 p.e.b, .int .u64 p.e.f, .slice p.B p.e.x.length p.c] 45)).drew) wq.heap.size 45 5 (.slice (some ⟨wq.heap.size, 0, none⟩) 1 1) 1 (flatA [⟨⟨true, p.e.i, p.e.b, p.e.f, p.e.x⟩, p.B, p.c⟩]) from ⟨rfl, .inr ⟨wq.heap.size, 1, _, rfl, Nat.le_refl _, heap_alloc_new wq _, Nat.le_refl _, by decide, rfl, rfl⟩⟩)
                  have hlen : (j + 1) + (1 + 0) = (j + 1) + 1 := by omega
                  go_region_held3 (fun X => X.cell? ⟨w.heap.size, 0, none⟩ = some (.slice (some ⟨b, o, none⟩) m c) ∧ (X.cell? ⟨b, o + k * 5, none⟩ = some (.bool true) ∧ X.cell? ⟨b, o + k * 5 + 1, none⟩ = some (.int .u64 p.e.i) ∧ X.cell? ⟨b, o + k * 5 + 2, none⟩ = some (.int .u64 p.e.b) ∧ X.cell? ⟨b, o + k * 5 + 3, none⟩ = some (.int .u64 p.e.f) ∧ X.cell? ⟨b, o + k * 5 + 4, none⟩ = some (.slice p.B p.e.x.length p.c)))
                    (first | (with_reducible assumption) | (with_reducible exact HT.out _ (below_drew (Below.refl _ _))) | (with_reducible exact HT.out _ (below_drew ((Below.refl _ _).alloc (Nat.le_refl _) _))) | (with_reducible exact HT.out _ HB5.out) | (with_reducible exact HT.out _ HB6.out))
                    (first
                    | (refine gapp_step (by rfl) _ _ appA (by rfl) wq.heap.size (some ⟨wq.heap.size, 0, none⟩) 1 1 _ (by rfl) HOn.out (some ⟨b8, o8 + (j + 1) * 5, none⟩) (co - (j + 1)) 0 ((flatA qo).drop ((j + 1) * 5)) (by rfl) (HRl.out _ (below_drew ((Below.refl _ _).alloc (Nat.le_refl _) _))) (by omega) (by simp) ?_; intro A5 c5 w5 ho5 hg5 _; have HB5 := Lib.hid (show Below wq.heap.size wq w5 from (below_drew ((Below.refl _ wq).alloc (Nat.le_refl _) _)).grown hg5 (by simp) (fun k hk => Nat.le_of_eq (show wq.heap.size = k by simpa [blk] using hk))); obtain ⟨g5, rfl, hg5l⟩ := row_some9 (by omega) ho5; have HO5 := Lib.hid ho5; clear ho5 hg5)
                    | (refine cut_step (by rfl) _ _ appA (by rfl) (some ⟨b8, o8, none⟩) (j + 1) (j + 1) ((flatA qo).take ((j + 1) * 5)) rfl (by rfl) (HRf.out _ HB5.out) ⟨g5, 0, none⟩ _ (1 + 0) _ (by rfl) (read_own9 HO5.out (fun u hu => (List.mem_append.1 hu).elim (fun hu => flatA_cell [⟨⟨true, p.e.i, p.e.b, p.e.f, p.e.x⟩, p.B, p.c⟩] u hu) (fun hu => flatA_cell qo u (List.mem_of_mem_drop hu)))) (by omega) (by omega) ?_; intro A6 c6 w6 ho6 hb6; rw [hlen] at ho6; rw [hlen]; have HB6 := Lib.hid (HB5.out.trans (hb6.mono HB5.out.size)); have HO6 := Lib.hid ho6; clear ho6 hb6))
                  obtain ⟨g6, hg6, -⟩ := row_some9 (Nat.succ_pos _) HO6.out
                  subst hg6
                  clear e0 e1 e2 e3 e4 e5
                  have HI6 := Lib.hid (HIq.out.below HB6.out)
                  go_wp2
                  by_cases hcs : cs = j + 1
                  · subst hcs
                    have HSf := Lib.hid (fun (X : World) (hX : Below w6.heap.size w6 X) => (HSe.out X (HB6.out.trans (hX.mono HB6.out.size))).first (k := (j + 1)) (by omega))
                    have HSl := Lib.hid (fun (X : World) (hX : Below w6.heap.size w6 X) => show Read X (some ⟨gs, 0, none⟩) 0 1 ((sV s).drop ((j + 1) * 1)) from read_nil9 (List.drop_eq_nil_of_le (by rw [sV_len, HI.out.1.2]; omega)))
                    have HOm := Lib.hid (show World.ownsRow ((w6.alloc (.cells #[.int .i64 k] 3)).drew) w6.heap.size 3 1 (.slice (some ⟨w6.heap.size, 0, none⟩) 1 1) 1 (sV [k]) from ⟨rfl, .inr ⟨w6.heap.size, 1, _, rfl, Nat.le_refl _, heap_alloc_new w6 _, Nat.le_refl _, by decide, rfl, rfl⟩⟩)
                    have hlen2 : (j + 1) + (1 + 0) = (j + 1) + 1 := by omega
                    go_region_held3 (fun _ => True)
                      (exact trivial)
                      (first
                      | (refine gapp_step (by rfl) _ _ appN (by rfl) w6.heap.size (some ⟨w6.heap.size, 0, none⟩) 1 1 _ (by rfl) HOm.out (some ⟨gs, 0, none⟩) 0 0 ((sV s).drop ((j + 1) * 1)) (by rfl) (HSl.out _ (below_drew ((Below.refl _ _).alloc (Nat.le_refl _) _))) (by omega) (by simp) ?_; intro A7 c7 w7 ho7 hg7 _; have HB7 := Lib.hid (show Below w6.heap.size w6 w7 from (below_drew ((Below.refl _ w6).alloc (Nat.le_refl _) _)).grown hg7 (by simp) (fun k hk => Nat.le_of_eq (show w6.heap.size = k by simpa [blk] using hk))); obtain ⟨g7, rfl, hg7l⟩ := row_some9 (by omega) ho7; have HO7 := Lib.hid ho7; clear ho7 hg7)
                      | (refine cut_step (by rfl) _ _ appN (by rfl) (some ⟨gs, 0, none⟩) (j + 1) (j + 1) ((sV s).take ((j + 1) * 1)) rfl (by rfl) (HSf.out _ HB7.out) ⟨g7, 0, none⟩ _ (1 + 0) _ (by rfl) (read_own9 HO7.out (fun u hu => (List.mem_append.1 hu).elim (fun hu => sV_cell [k] u hu) (fun hu => sV_cell s u (List.mem_of_mem_drop hu)))) (by omega) (by omega) ?_; intro A8 c8 w8 ho8 hb8; rw [hlen2] at ho8; rw [hlen2]; have HB8x := Lib.hid (HB7.out.trans (hb8.mono HB7.out.size)); have HO8 := Lib.hid ho8; clear ho8 hb8))
                    obtain ⟨g8, hg8, -⟩ := row_some9 (Nat.succ_pos _) HO8.out
                    subst hg8
                    have HNx := Lib.hid (RbI.next (p := (j + 1)) HI6.out HQ.out HP.out HU.out (by omega) ⟨g6, rfl⟩ ⟨g8, rfl⟩ (HI6.out.2.2.2.2.2.2.2.2.trans (HB8x.out.mono HI6.out.2.2.2.2.2.2.2.2.size)) (by have := row_turn HO6.out (Turn.of_below (S := fun _ => False) HB8x.out) (fun _ _ e => e); rw [show (⟨⟨true, p.e.i, p.e.b, p.e.f, p.e.x⟩, p.B, p.c⟩ : Pa) = p from by obtain ⟨⟨u, _, _, _, _⟩, _, _⟩ := p; have := HU.out; dsimp only at this; subst this; rfl] at this; exact this) HO8.out HAll.out HNot.out)
                    go_wp2
                    go_roundw
                    case rel => exact ⟨k + 1, (j + 1) + 1, some ⟨g6, 0, none⟩, some ⟨g8, 0, none⟩, c6, c8, by omega, by omega, rfl, rfl, by go_num, Lib.hid ⟨_, _, HNx.out⟩⟩
                    case measure => simp [intOf]; omega
                  · have hjcs2 : (cs - (j + 1) == 0) = false := by simp; omega
                    have hjcs4 : ¬ ((cs : Int) = (j : Int) + 1) := by omega
                    have HSf := Lib.hid (fun (X : World) (hX : Below w6.heap.size w6 X) => (HSe.out X (HB6.out.trans (hX.mono HB6.out.size))).first (k := (j + 1)) (by omega))
                    have HSl := Lib.hid (fun (X : World) (hX : Below w6.heap.size w6 X) => show Read X (some ⟨gs, (j + 1), none⟩) 0 1 ((sV s).drop ((j + 1) * 1)) from read_nil9 (List.drop_eq_nil_of_le (by rw [sV_len, HI.out.1.2]; omega)))
                    have HOm := Lib.hid (show World.ownsRow ((w6.alloc (.cells #[.int .i64 k] 3)).drew) w6.heap.size 3 1 (.slice (some ⟨w6.heap.size, 0, none⟩) 1 1) 1 (sV [k]) from ⟨rfl, .inr ⟨w6.heap.size, 1, _, rfl, Nat.le_refl _, heap_alloc_new w6 _, Nat.le_refl _, by decide, rfl, rfl⟩⟩)
                    have hlen2 : (j + 1) + (1 + 0) = (j + 1) + 1 := by omega
                    go_region_held3 (fun _ => True)
                      (exact trivial)
                      (first
                      | (refine gapp_step (by rfl) _ _ appN (by rfl) w6.heap.size (some ⟨w6.heap.size, 0, none⟩) 1 1 _ (by rfl) HOm.out (some ⟨gs, (j + 1), none⟩) (cs - (j + 1)) 0 ((sV s).drop ((j + 1) * 1)) (by rfl) (HSl.out _ (below_drew ((Below.refl _ _).alloc (Nat.le_refl _) _))) (by omega) (by simp) ?_; intro A7 c7 w7 ho7 hg7 _; have HB7 := Lib.hid (show Below w6.heap.size w6 w7 from (below_drew ((Below.refl _ w6).alloc (Nat.le_refl _) _)).grown hg7 (by simp) (fun k hk => Nat.le_of_eq (show w6.heap.size = k by simpa [blk] using hk))); obtain ⟨g7, rfl, hg7l⟩ := row_some9 (by omega) ho7; have HO7 := Lib.hid ho7; clear ho7 hg7)
                      | (refine cut_step (by rfl) _ _ appN (by rfl) (some ⟨gs, 0, none⟩) (j + 1) (j + 1) ((sV s).take ((j + 1) * 1)) rfl (by rfl) (HSf.out _ HB7.out) ⟨g7, 0, none⟩ _ (1 + 0) _ (by rfl) (read_own9 HO7.out (fun u hu => (List.mem_append.1 hu).elim (fun hu => sV_cell [k] u hu) (fun hu => sV_cell s u (List.mem_of_mem_drop hu)))) (by omega) (by omega) ?_; intro A8 c8 w8 ho8 hb8; rw [hlen2] at ho8; rw [hlen2]; have HB8x := Lib.hid (HB7.out.trans (hb8.mono HB7.out.size)); have HO8 := Lib.hid ho8; clear ho8 hb8))
                    obtain ⟨g8, hg8, -⟩ := row_some9 (Nat.succ_pos _) HO8.out
                    subst hg8
                    have HNx := Lib.hid (RbI.next (p := (j + 1)) HI6.out HQ.out HP.out HU.out (by omega) ⟨g6, rfl⟩ ⟨g8, rfl⟩ (HI6.out.2.2.2.2.2.2.2.2.trans (HB8x.out.mono HI6.out.2.2.2.2.2.2.2.2.size)) (by have := row_turn HO6.out (Turn.of_below (S := fun _ => False) HB8x.out) (fun _ _ e => e); rw [show (⟨⟨true, p.e.i, p.e.b, p.e.f, p.e.x⟩, p.B, p.c⟩ : Pa) = p from by obtain ⟨⟨u, _, _, _, _⟩, _, _⟩ := p; have := HU.out; dsimp only at this; subst this; rfl] at this; exact this) HO8.out HAll.out HNot.out)
                    go_wp2
                    go_roundw
                    case rel => exact ⟨k + 1, (j + 1) + 1, some ⟨g6, 0, none⟩, some ⟨g8, 0, none⟩, c6, c8, by omega, by omega, rfl, rfl, by go_num, Lib.hid ⟨_, _, HNx.out⟩⟩
                    case measure => simp [intOf]; omega
              · have hjco2 : (co - (j + 1) == 0) = false := by simp; omega
                have hjco4 : ¬ ((co : Int) = (j : Int) + 1) := by omega
                have hjcs2 : (cs - (j + 1) == 0) = false := by simp; omega
                have hjcs4 : ¬ ((cs : Int) = (j : Int) + 1) := by omega
                have hcj3 : ¬ (co = j + 1) := by omega
                have hcs3 : ¬ (cs = j + 1) := by omega
                have HRl := Lib.hid (fun (X : World) (hX : Below wq.heap.size wq X) => show Read X (some ⟨b8, o8 + (j + 1) * 5, none⟩) (n - (j + 1)) 5 ((flatA qo).drop ((j + 1) * 5)) from by
                  have := (HRe.out X hX).last (k := j + 1) (by omega)
                  simpa [Addr.add] using this)
                have HT := Lib.hid (fun (X : World) (hX : Below wq.heap.size wq X) => HT0.out X (HIq.out.2.2.2.2.2.2.2.2.trans (hX.mono HIq.out.2.2.2.2.2.2.2.2.size)))
                obtain ⟨e0, ⟨e1, e2, e3, e4, e5⟩⟩ := HT.out wq (Below.refl _ _)
                have HOn := Lib.hid (show World.ownsRow ((wq.alloc (.cells #[.bool true, .int .u64 p.e.i, .int .u64 p.e.b, .int .u64 p.e.f, .slice p.B p.e.x.length p.c] 45)).drew) wq.heap.size 45 5 (.slice (some ⟨wq.heap.size, 0, none⟩) 1 1) 1 (flatA [⟨⟨true, p.e.i, p.e.b, p.e.f, p.e.x⟩, p.B, p.c⟩]) from ⟨rfl, .inr ⟨wq.heap.size, 1, _, rfl, Nat.le_refl _, heap_alloc_new wq _, Nat.le_refl _, by decide, rfl, rfl⟩⟩)
                have hlen : (j + 1) + (1 + (n - (j + 1))) = n + 1 := by omega
                go_region_held3 (fun X => X.cell? ⟨w.heap.size, 0, none⟩ = some (.slice (some ⟨b, o, none⟩) m c) ∧ (X.cell? ⟨b, o + k * 5, none⟩ = some (.bool true) ∧ X.cell? ⟨b, o + k * 5 + 1, none⟩ = some (.int .u64 p.e.i) ∧ X.cell? ⟨b, o + k * 5 + 2, none⟩ = some (.int .u64 p.e.b) ∧ X.cell? ⟨b, o + k * 5 + 3, none⟩ = some (.int .u64 p.e.f) ∧ X.cell? ⟨b, o + k * 5 + 4, none⟩ = some (.slice p.B p.e.x.length p.c)))
                  (first | (with_reducible assumption) | (with_reducible exact HT.out _ (below_drew (Below.refl _ _))) | (with_reducible exact HT.out _ (below_drew ((Below.refl _ _).alloc (Nat.le_refl _) _))) | (with_reducible exact HT.out _ HB5.out) | (with_reducible exact HT.out _ HB6.out))
                  (first
                  | (refine gapp_step (by rfl) _ _ appA (by rfl) wq.heap.size (some ⟨wq.heap.size, 0, none⟩) 1 1 _ (by rfl) HOn.out (some ⟨b8, o8 + (j + 1) * 5, none⟩) (co - (j + 1)) (n - (j + 1)) ((flatA qo).drop ((j + 1) * 5)) (by rfl) (HRl.out _ (below_drew ((Below.refl _ _).alloc (Nat.le_refl _) _))) (by omega) (by simp) ?_; intro A5 c5 w5 ho5 hg5 _; have HB5 := Lib.hid (show Below wq.heap.size wq w5 from (below_drew ((Below.refl _ wq).alloc (Nat.le_refl _) _)).grown hg5 (by simp) (fun k hk => Nat.le_of_eq (show wq.heap.size = k by simpa [blk] using hk))); obtain ⟨g5, rfl, hg5l⟩ := row_some9 (by omega) ho5; have HO5 := Lib.hid ho5; clear ho5 hg5)
                  | (refine cut_step (by rfl) _ _ appA (by rfl) (some ⟨b8, o8, none⟩) (j + 1) (j + 1) ((flatA qo).take ((j + 1) * 5)) rfl (by rfl) (HRf.out _ HB5.out) ⟨g5, 0, none⟩ _ (1 + (n - (j + 1))) _ (by rfl) (read_own9 HO5.out (fun u hu => (List.mem_append.1 hu).elim (fun hu => flatA_cell [⟨⟨true, p.e.i, p.e.b, p.e.f, p.e.x⟩, p.B, p.c⟩] u hu) (fun hu => flatA_cell qo u (List.mem_of_mem_drop hu)))) (by omega) (by omega) ?_; intro A6 c6 w6 ho6 hb6; rw [hlen] at ho6; rw [hlen]; have HB6 := Lib.hid (HB5.out.trans (hb6.mono HB5.out.size)); have HO6 := Lib.hid ho6; clear ho6 hb6))
                obtain ⟨g6, hg6, -⟩ := row_some9 (Nat.succ_pos _) HO6.out
                subst hg6
                clear e0 e1 e2 e3 e4 e5
                have HI6 := Lib.hid (HIq.out.below HB6.out)
                go_wp2
                have HSf := Lib.hid (fun (X : World) (hX : Below w6.heap.size w6 X) => (HSe.out X (HB6.out.trans (hX.mono HB6.out.size))).first (k := (j + 1)) (by omega))
                have HSl := Lib.hid (fun (X : World) (hX : Below w6.heap.size w6 X) => show Read X (some ⟨gs, (j + 1), none⟩) (n - (j + 1)) 1 ((sV s).drop ((j + 1) * 1)) from by
                  have := (HSe.out X (HB6.out.trans (hX.mono HB6.out.size))).last (k := j + 1) (by omega)
                  simpa [Addr.add] using this)
                have HOm := Lib.hid (show World.ownsRow ((w6.alloc (.cells #[.int .i64 k] 3)).drew) w6.heap.size 3 1 (.slice (some ⟨w6.heap.size, 0, none⟩) 1 1) 1 (sV [k]) from ⟨rfl, .inr ⟨w6.heap.size, 1, _, rfl, Nat.le_refl _, heap_alloc_new w6 _, Nat.le_refl _, by decide, rfl, rfl⟩⟩)
                have hlen2 : (j + 1) + (1 + (n - (j + 1))) = n + 1 := by omega
                go_region_held3 (fun _ => True)
                  (exact trivial)
                  (first
                  | (refine gapp_step (by rfl) _ _ appN (by rfl) w6.heap.size (some ⟨w6.heap.size, 0, none⟩) 1 1 _ (by rfl) HOm.out (some ⟨gs, (j + 1), none⟩) (cs - (j + 1)) (n - (j + 1)) ((sV s).drop ((j + 1) * 1)) (by rfl) (HSl.out _ (below_drew ((Below.refl _ _).alloc (Nat.le_refl _) _))) (by omega) (by simp) ?_; intro A7 c7 w7 ho7 hg7 _; have HB7 := Lib.hid (show Below w6.heap.size w6 w7 from (below_drew ((Below.refl _ w6).alloc (Nat.le_refl _) _)).grown hg7 (by simp) (fun k hk => Nat.le_of_eq (show w6.heap.size = k by simpa [blk] using hk))); obtain ⟨g7, rfl, hg7l⟩ := row_some9 (by omega) ho7; have HO7 := Lib.hid ho7; clear ho7 hg7)
                  | (refine cut_step (by rfl) _ _ appN (by rfl) (some ⟨gs, 0, none⟩) (j + 1) (j + 1) ((sV s).take ((j + 1) * 1)) rfl (by rfl) (HSf.out _ HB7.out) ⟨g7, 0, none⟩ _ (1 + (n - (j + 1))) _ (by rfl) (read_own9 HO7.out (fun u hu => (List.mem_append.1 hu).elim (fun hu => sV_cell [k] u hu) (fun hu => sV_cell s u (List.mem_of_mem_drop hu)))) (by omega) (by omega) ?_; intro A8 c8 w8 ho8 hb8; rw [hlen2] at ho8; rw [hlen2]; have HB8x := Lib.hid (HB7.out.trans (hb8.mono HB7.out.size)); have HO8 := Lib.hid ho8; clear ho8 hb8))
                obtain ⟨g8, hg8, -⟩ := row_some9 (Nat.succ_pos _) HO8.out
                subst hg8
                have HNx := Lib.hid (RbI.next (p := (j + 1)) HI6.out HQ.out HP.out HU.out (by omega) ⟨g6, rfl⟩ ⟨g8, rfl⟩ (HI6.out.2.2.2.2.2.2.2.2.trans (HB8x.out.mono HI6.out.2.2.2.2.2.2.2.2.size)) (by have := row_turn HO6.out (Turn.of_below (S := fun _ => False) HB8x.out) (fun _ _ e => e); rw [show (⟨⟨true, p.e.i, p.e.b, p.e.f, p.e.x⟩, p.B, p.c⟩ : Pa) = p from by obtain ⟨⟨u, _, _, _, _⟩, _, _⟩ := p; have := HU.out; dsimp only at this; subst this; rfl] at this; exact this) HO8.out HAll.out HNot.out)
                go_wp2
                go_roundw
                case rel => exact ⟨k + 1, n + 1, some ⟨g6, 0, none⟩, some ⟨g8, 0, none⟩, c6, c8, by omega, by omega, rfl, rfl, by go_num, Lib.hid ⟨_, _, HNx.out⟩⟩
                case measure => simp [intOf]; omega
    · obtain rfl : k = m := by omega
      have hs : rowsS (ces q) = s := rowsS_of HI.out.2.2.2.2.2.2.1 (by have h := HI.out.2.2.2.2.2.2.2.1; rw [HM.out, ← ces_length q] at h; exact h)
      have HS := Lib.hid hs
      clear hs
      go_wp2
      go_ret2
      exact ⟨n, Ao, co, As, cs, qo, s, rfl, HI.out.1, HI.out.2.1.1, HI.out.2.2.1, HI.out.2.2.2.1, HS.out.symm, HB0.out.trans (HBo.out.mono HB0.out.size)⟩

end Go.Proofs.Ytdbcecmlakgknaa
