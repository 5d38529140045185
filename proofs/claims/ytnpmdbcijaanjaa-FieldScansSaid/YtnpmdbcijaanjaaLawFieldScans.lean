/-
  Proved: the law FieldScans, whatever is asked of a scan of whatever bytes, one behind the other, is told as the document says, returns true for all bytes b and all rows of asks l, and leaves all memory as it was. No condition.
-/
import Derived.Test.YtnpmdbcijaanjaaLawPairs
import Derived.Test.YtnpmdbcijaanjaaFieldWakes
import Derived.Test.YtnpmdbcijaanjaaScanStep
import Derived.Deep.RegionHeld3
namespace Go.Proofs.Ytnpmdbcijaanjaa.fieldScans
open Go.ChangeShapes Go.WideShapes Go.ChangeAt Go.RowKit
set_option linter.unusedVariables false

theorem walk_out (A B : Option Addr) (l c k d : Nat) (w : World) (h : 5000 < l ∨ 200 < k) :
    Calls Try.prog 4 #[.slice A l c, .slice B k d] w fun e w' => e = .returned (.bool true) ∧ Below w.heap.size w w' := by
  by_cases h1 : 5000 < l
  · have h1' : (5000 : Int) < (l : Int) := by omega
    go_enter Try.func4, Try.ntmps4
    go_wp2_with (go_at_call 10; refine (wakes_any w).mono ?_; rintro e w1 ⟨rfl, hb1⟩)
    go_ret
    exact ⟨rfl, hb1⟩
  have d1 : decide ((5000 : Int) < (l : Int)) = false := by simp; omega
  have h2 : (200 : Int) < (k : Int) := by omega
  clear h
  go_enter Try.func4, Try.ntmps4
  go_wp2_with (go_at_call 10; refine (wakes_any w).mono ?_; rintro e w1 ⟨rfl, hb1⟩)
  go_ret
  exact ⟨rfl, hb1⟩

/-- What stays while the bytes that were handed in are turned: the scan, the other scan, and all that was there. -/
def Still (w : World) (g h : Nat) (As : Option Addr) (cs : Nat) (A : Option Addr) (c : Nat) (bs : List Int) (wr : World) : Prop :=
  Sc wr g As cs bs 0 false ∧ wr.heap[h]? = some (.cells #[.slice A bs.length c, .int .i64 0, .bool false] 35 (0, 0)) ∧ Below w.heap.size w wr

theorem New.blk {B : Nat} {w : World} {A : Option Addr} {c : Nat} {bs : List Int} (h : New B w A c bs) (h0 : 0 < bs.length) : ∃ g, A = some ⟨g, 0, none⟩ ∧ B ≤ g ∧ g < w.heap.size := by
  rcases h.2 with ⟨_, hn⟩ | ⟨g, cap, cur, hv, hg, hh, _⟩
  · omega
  · injection hv with hA
    exact ⟨g, hA, hg, lt_of_block hh⟩
theorem New.setk {B : Nat} {w : World} {g : Nat} {c : Nat} {bs : List Int} (h : New B w (some ⟨g, 0, none⟩) c bs) (k : Nat) (x : Int) : New B (w.setCell ⟨g, k, none⟩ (.int .u8 x)) (some ⟨g, 0, none⟩) c (bs.set k x) := by
  have := (World.ownsRow.stored h k (.int .u8 x)).1
  unfold New
  rw [List.length_set, List.map_set]
  exact this
theorem Still.write {w wr : World} {g h : Nat} {As : Option Addr} {cs : Nat} {A : Option Addr} {c : Nat} {bs : List Int} (s : Still w g h As cs A c bs wr) {p : Addr} (u : Value)
    (h1 : p.block ≠ g) (h2 : p.block ≠ h) (h3 : ∀ a, As = some a → a.block ≠ p.block) (h4 : w.heap.size ≤ p.block) : Still w g h As cs A c bs (wr.setCell p u) := by
  obtain ⟨sc, hh, hb⟩ := s
  refine ⟨⟨?_, ⟨sc.sl.room, sc.sl.most, fun hp => ?_⟩, sc.oct, sc.lo, sc.hi⟩, ?_, hb.setCell h4 u⟩
  · rw [Below.heap_setCell _ _ _ _ (Ne.symm h1)]
    exact sc.blk
  · obtain ⟨b, o, e, hbl, hc⟩ := sc.sl.rd hp
    refine ⟨b, o, e, by simpa [World.setCell] using hbl, fun j hj => ?_⟩
    rw [World.cell?_setCell_other _ _ _ _ (fun e' => h3 _ e (by rw [e']))]
    exact hc j hj
  · rw [Below.heap_setCell _ _ _ _ (Ne.symm h2)]
    exact hh

/-- The two scans side by side. -/
def Side (w : World) (g h : Nat) (A : Option Addr) (c : Nat) (bs : List Int) (wr : World) : Prop :=
  ∃ (p : Nat) (bd : Bool), p ≤ bs.length ∧ (∃ As cs, Sc wr g As cs (bs.drop p) p bd) ∧ wr.heap[h]? = some (.cells #[.slice A bs.length c, .int .i64 (p : Int), .bool bd] 35 (0, 0)) ∧ Below w.heap.size w wr

theorem bad_q (w : World) (g : Nat) (bd : Bool) (hc : w.cell? ⟨g, 2, none⟩ = some (.bool bd)) : Calls Try.prog 27 #[.pointer (some ⟨g, 0, none⟩)] w fun e w' => e = .returned (.bool bd) ∧ w' = w := (bad_any w g bd hc).mono fun _ _ ⟨a, b⟩ => ⟨a, b.symm⟩
theorem place_q (w : World) (g : Nat) (pl : Int) (hc : w.cell? ⟨g, 1, none⟩ = some (.int .i64 pl)) : Calls Try.prog 28 #[.pointer (some ⟨g, 0, none⟩)] w fun e w' => e = .returned (.int .i64 pl) ∧ w' = w := (place_any w g pl hc).mono fun _ _ ⟨a, b⟩ => ⟨a, b.symm⟩
theorem left_q (w : World) (g l c : Nat) (A : Option Addr) (hc : w.cell? ⟨g, 0, none⟩ = some (.slice A l c)) : Calls Try.prog 29 #[.pointer (some ⟨g, 0, none⟩)] w fun e w' => e = .returned (.int .i64 l) ∧ w' = w := (left_any w g l c A hc).mono fun _ _ ⟨a, b⟩ => ⟨a, b.symm⟩

theorem keep3 (w : World) (h : Nat) (a b c : Value) (x : Addr) (hx : x.block ≠ h) : (((w.setCell ⟨h, 0, none⟩ a).setCell ⟨h, 1, none⟩ b).setCell ⟨h, 2, none⟩ c).cell? x = w.cell? x := by
  rw [World.cell?_setCell_other _ _ _ _ (fun e => hx (by rw [← e])), World.cell?_setCell_other _ _ _ _ (fun e => hx (by rw [← e])), World.cell?_setCell_other _ _ _ _ (fun e => hx (by rw [← e]))]

/-- Three cells of a block. -/
theorem three {w : World} {h : Nat} {a b c : Value} {t : TypeId} (hb : w.heap[h]? = some (.cells #[a, b, c] t (0, 0))) : w.cell? ⟨h, 0, none⟩ = some a ∧ w.cell? ⟨h, 1, none⟩ = some b ∧ w.cell? ⟨h, 2, none⟩ = some c ∧ w.frozen? ⟨h, 0, none⟩ = false ∧ w.frozen? ⟨h, 1, none⟩ = false ∧ w.frozen? ⟨h, 2, none⟩ = false := by
  simp [World.cell?, World.frozen?, hb]
theorem three_odd {w : World} {h : Nat} {A : Option Addr} {l c : Nat} {p : Int} {bd : Bool} {t : TypeId} (hb : w.heap[h]? = some (.cells #[.slice A l c, .int .i64 p, .bool bd] t (0, 0))) : ∀ o z, w.cell? ⟨h, o, none⟩ ≠ some (.int .u8 z) := by
  intro o z hc
  simp [World.cell?, hb] at hc
  match o, hc with
  | 0, hc => simp at hc
  | 1, hc => simp at hc
  | 2, hc => simp at hc
  | o + 3, hc => simp at hc

/-- The other scan is stored over: both are side by side again. -/
theorem Side.mk {w w8 : World} {g h : Nat} {A As : Option Addr} {c cs p p' : Nat} {bs : List Int} {bd bd' : Bool} (hsc : Sc w8 g As cs (bs.drop p') p' bd') (hb : w8.heap[h]? = some (.cells #[.slice A bs.length c, .int .i64 (p : Int), .bool bd] 35 (0, 0))) (hgh : g < h) (hp : p' ≤ bs.length) (hbe : Below w.heap.size w w8) (hwh : w.heap.size ≤ h) :
    Sc (((w8.setCell ⟨h, 0, none⟩ (.slice A bs.length c)).setCell ⟨h, 1, none⟩ (.int .i64 (p' : Int))).setCell ⟨h, 2, none⟩ (.bool bd')) g As cs (bs.drop p') p' bd' ∧
    (((w8.setCell ⟨h, 0, none⟩ (.slice A bs.length c)).setCell ⟨h, 1, none⟩ (.int .i64 (p' : Int))).setCell ⟨h, 2, none⟩ (.bool bd')).heap[h]? = some (.cells #[.slice A bs.length c, .int .i64 (p' : Int), .bool bd'] 35 (0, 0)) ∧
    Below w.heap.size w (((w8.setCell ⟨h, 0, none⟩ (.slice A bs.length c)).setCell ⟨h, 1, none⟩ (.int .i64 (p' : Int))).setCell ⟨h, 2, none⟩ (.bool bd')) := by
  refine ⟨?_, by simp [World.setCell, Array.getElem?_modify, hb], ((hbe.setCell (p := ⟨h, 0, none⟩) hwh _).setCell (p := ⟨h, 1, none⟩) hwh _).setCell (p := ⟨h, 2, none⟩) hwh _⟩
  exact hsc.far ((((Only.refl h w8).set (p := ⟨h, 0, none⟩) (.inl rfl) _).set (p := ⟨h, 1, none⟩) (.inl rfl) _).set (p := ⟨h, 2, none⟩) (.inl rfl) _) (three_odd hb) (by omega)

set_option maxHeartbeats 4000000 in
set_option maxRecDepth 100000 in
theorem walk_rows (A B : Option Addr) (c d : Nat) (bs : List Int) (ps : List (Int × Int)) (w : World) (hs : Sl w A c bs) (ho : Oct bs) (hp : Pairs .i64 .i64 w B ps) (hl : bs.length ≤ 5000) (hk : ps.length ≤ 200) :
    Calls Try.prog 4 #[.slice A bs.length c, .slice B ps.length d] w fun e w' => e = .returned (.bool true) ∧ Below w.heap.size w w' := by
  have d1 : decide ((5000 : Int) < (bs.length : Int)) = false := by simp; omega
  have d2 : decide ((200 : Int) < (ps.length : Int)) = false := by simp; omega
  have HS := Lib.hid hs
  have HO := Lib.hid ho
  have HP := Lib.hid hp
  obtain ⟨l, el⟩ : ∃ l, l = bs.length := ⟨_, rfl⟩
  rw [← el] at hl d1 ⊢
  have HL := Lib.hid el
  clear hs ho hp el
  go_enter Try.func4, Try.ntmps4
  go_wp2_with fail
  refine (wakes_any w).mono ?_
  rintro e w1 ⟨rfl, hb1⟩
  have HB1 := Lib.hid hb1
  have HS1 := Lib.hid (HS.out.below hb1)
  clear hb1
  go_wp2_with (at_builtin; refine app_b rfl (.tmp 28) (.tmp 29) rfl w1.heap.size (.slice (some ⟨w1.heap.size, 0, none⟩) 0 0) 0 [] rfl (World.ownsRow_made w1 #[] 0 (Nat.le_refl _) (Nat.zero_le _) rfl) A c l bs rfl HL.out.symm ((HS1.out.alloc _).rd) (by omega) (by simp) ?_; intro v2 w2 hown2 hg2; have hb2 : Below w1.heap.size w1 w2 := ((Below.refl _ w1).alloc (Nat.le_refl _) _).grown hg2 (by simp) (by intro k hk; simp [Value.ownBlock] at hk; omega); simp only [Nat.zero_add, List.nil_append] at hown2; obtain ⟨A2, c2, rfl, _, _⟩ := own_form hown2; have HO2 := Lib.hid hown2; have HB2 := Lib.hid hb2; clear hown2 hg2 hb2)
  have hn2 : New w1.heap.size w2 A2 c2 bs := by
    have := HO2.out
    unfold New
    rw [← HL.out]
    exact this
  have k := read_n A2 c2 bs w2 hn2.sl HO.out (by rw [← HL.out]; omega)
  rw [← HL.out] at k
  refine k.mono ?_
  clear k HO2
  rintro e w3 ⟨g, As, cs, rfl, hsc3, hg, hb3, hns3⟩
  have hw12 := HB2.out.size
  have hww := HB1.out.size
  have hn3 : New w1.heap.size w3 A2 c2 bs := World.ownsRow.kept hn2 (row := none) (World.grownBy.mk hb3.os hb3.tape hb3.output hb3.size (fun i hi _ => hb3.block i hi)) (by rcases A2 with _ | a <;> simp [Value.ownBlock])
  have hlt2 : ∀ a, A2 = some a → 0 < bs.length → a.block < w2.heap.size ∧ w1.heap.size ≤ a.block := by
    intro a ha h0
    obtain ⟨q, hq, h1, h2⟩ := New.blk hn2 h0
    rw [hq] at ha
    injection ha with ha
    subst ha
    exact ⟨h2, h1⟩
  have hAs : ∀ a, As = some a → 0 < bs.length → w2.heap.size ≤ a.block := by
    intro a ha h0
    obtain ⟨q, hq, h1, h2⟩ := New.blk hns3 h0
    rw [hq] at ha
    injection ha with ha
    subst ha
    exact h1
  have hbW : Below w.heap.size w w3 := (HB1.out.trans (HB2.out.mono hww)).trans (hb3.mono (by omega))
  have hgl := hsc3.lt
  have HG := Lib.hid hg
  have HST : Hid (Still w g w3.heap.size As cs A c bs (w3.alloc (.cells #[.slice A l c, .int .i64 0, .bool false] 35))) := by
    refine ⟨hsc3.below ((Below.refl _ w3).alloc (Nat.le_refl _) _), ?_, hbW.alloc hbW.size _⟩
    rw [heap_alloc_new w3 _, HL.out]
  have HN3 : Hid (New w1.heap.size (w3.alloc (.cells #[.slice A l c, .int .i64 0, .bool false] 35)) A2 c2 bs) := World.ownsRow.alloc hn3 _
  have HL2 := Lib.hid hlt2
  have HAs := Lib.hid hAs
  have hw23 := hb3.size
  clear hn2 hn3 hns3 hsc3 hg hb3 hlt2 hAs hbW HB1 HB2 HS1
  go_wp2_with fail
  obtain ⟨h, eh⟩ : ∃ h, h = w3.heap.size := ⟨_, rfl⟩
  rw [← eh]
  rw [← eh] at HST hgl
  have hgh : g < h := hgl
  have hw2h : w2.heap.size ≤ h := by omega
  generalize w3.alloc (.cells #[.slice A l c, .int .i64 0, .bool false] 35) = W3 at *
  clear hw23 eh hgl
  go_loopw [37] (fun i wr => ∃ k : Nat, ∃ L : List Int, k ≤ l ∧ i = .int .i64 k ∧ Hid (L.length = l) ∧ Hid (New w1.heap.size wr A2 c2 L) ∧ Hid (Still w g h As cs A c bs wr)) (fun i _ => l - (intOf i).toNat)
  case atStart => exact ⟨0, bs, Nat.zero_le _, rfl, HL.out.symm, HN3, HST⟩
  case round =>
    clear HN3 HST
    obtain ⟨k, L, hkl, rfl, HLl, HN, HSt⟩ := hrel
    by_cases hlt : k < l
    · obtain ⟨q, hq, hq1, hq2⟩ := New.blk HN.out (by rw [HLl.out]; omega)
      obtain ⟨hq3, hq4⟩ := HL2.out _ hq (by rw [← HL.out]; omega)
      subst hq
      have hc := World.ownsRow.cellAt HN.out k (by rw [HLl.out]; omega)
      have hf := World.ownsRow.frozenAt HN.out k
      have hck : wr.cell? ⟨q, k, none⟩ = some (.int .u8 (L.getD k 0)) := by
        rw [hc]
        simp [List.getD, show k < L.length by rw [HLl.out]; exact hlt]
      generalize L.getD k 0 = z at hck
      clear hc
      have b1 : (0 : Int) ≤ (k : Int) := by omega
      have b2 : (k : Int) < (l : Int) := by omega
      go_wp2
      go_roundw
      case rel =>
        refine ⟨k + 1, L.set k (bits .xor .u8 z 85), by omega, by go_num, by unfold Hid; rw [List.length_set]; exact HLl.out, New.setk HN.out k _, Still.write HSt.out _ ?_ ?_ ?_ ?_⟩
        · have := HG.out
          simp at hq3
          show q ≠ g
          omega
        · simp at hq3
          show q ≠ h
          omega
        · intro a ha
          have := HAs.out a ha (by rw [← HL.out]; omega)
          simp at hq3
          show a.block ≠ q
          omega
        · simp at hq4
          show w.heap.size ≤ q
          omega
      case measure => simp [intOf]; omega
    · have HSide : Hid (Side w g h A c bs wr) := by
        obtain ⟨s1, s2, s3⟩ := HSt.out
        exact ⟨0, false, Nat.zero_le _, ⟨As, cs, by simpa using s1⟩, by simpa using s2, s3⟩
      clear HN HSt HLl HL2 HAs
      go_wp2_with fail
      go_loopw [49] (fun i wq => ∃ k : Nat, k ≤ ps.length ∧ i = .int .i64 k ∧ Hid (Side w g h A c bs wq)) (fun i _ => ps.length - (intOf i).toNat)
      case atStart => exact ⟨0, Nat.zero_le _, rfl, HSide⟩
      case round =>
        clear HSide
        obtain ⟨j, hjl, rfl, HSd⟩ := hrel
        by_cases hjt : j < ps.length
        · obtain ⟨p, bd, hpl, ⟨At, ct, hsc⟩, hblk, hbe⟩ := HSd.out
          obtain ⟨b, o, rfl, hbl, hcell⟩ := (HP.out.below hbe) (by omega)
          obtain ⟨hc0, hc1, wf0, wf1⟩ := hcell j hjt
          clear hcell HSd
          obtain ⟨K, eK⟩ : ∃ K, K = (ps.getD j (0, 0)).1 := ⟨_, rfl⟩
          obtain ⟨N, eN⟩ : ∃ N, N = (ps.getD j (0, 0)).2 := ⟨_, rfl⟩
          rw [← eK] at hc0 wf0
          rw [← eN] at hc1 wf1
          have bK := bounds_i64 wf0
          clear eK eN wf0 wf1
          have hb5 : Below wr.heap.size wr (wr.alloc (.cells #[.int .i64 K, .int .i64 N] 37)) := (Below.refl _ wr).alloc (Nat.le_refl _) _
          have HB5 := Lib.hid (hbe.trans (hb5.mono hbe.size))
          have HS5 := Lib.hid (hsc.below hb5)
          have hhl : h < wr.heap.size := lt_of_block hblk
          have hblk5 := (hb5.block h hhl).trans hblk
          have HK5 := Lib.hid hblk5
          have hgw : g < wr.heap.size := hsc.lt
          have hz : wr.heap.size < (wr.alloc (.cells #[.int .i64 K, .int .i64 N] 37)).heap.size := by simp
          have hv0 : (wr.alloc (.cells #[.int .i64 K, .int .i64 N] 37)).cell? ⟨wr.heap.size, 0, none⟩ = some (.int .i64 K) := cell_new _ _ _ _
          have hv1 : (wr.alloc (.cells #[.int .i64 K, .int .i64 N] 37)).cell? ⟨wr.heap.size, 1, none⟩ = some (.int .i64 N) := cell_new _ _ _ _
          obtain ⟨r, er, hr0, hr2⟩ : ∃ r : Int, (IntKind.u64.wrap K).tmod 3 = r ∧ 0 ≤ r ∧ r < 3 := by
            have h0 : 0 ≤ IntKind.u64.wrap K := by rw [IntKind.wrap_u64]; omega
            refine ⟨_, rfl, ?_, ?_⟩
            · rw [Int.tmod_eq_emod_of_nonneg h0]; omega
            · rw [Int.tmod_eq_emod_of_nonneg h0]; omega
          have er2 : IntKind.u64.wrap K % 3 = r := by
            have h0 : 0 ≤ IntKind.u64.wrap K := by rw [IntKind.wrap_u64]; omega
            rw [← Int.tmod_eq_emod_of_nonneg h0]; exact er
          have s0 : (wr.alloc (.cells #[.int .i64 K, .int .i64 N] 37)).cell? ⟨h, 0, none⟩ = some (.slice A l c) := by simp only [World.cell?, hblk5]; rw [HL.out]; rfl
          have s1 : (wr.alloc (.cells #[.int .i64 K, .int .i64 N] 37)).cell? ⟨h, 1, none⟩ = some (.int .i64 (p : Int)) := by simp only [World.cell?, hblk5]; rfl
          have s2 : (wr.alloc (.cells #[.int .i64 K, .int .i64 N] 37)).cell? ⟨h, 2, none⟩ = some (.bool bd) := by simp only [World.cell?, hblk5]; rfl
          clear hblk hblk5 hsc hbe hb5
          rcases (show r = 0 ∨ r = 1 ∨ r = 2 by omega) with rfl | rfl | rfl
          · go_wp2_with fail
            clear hc0 hc1 er er2 s0 s1 s2 hv0
            obtain ⟨p', bd', V, hp', kN, kS⟩ := num_step A c g p bs bd N HO.out hpl (by rw [← HL.out]; exact hl)
            generalize wr.alloc (.cells #[.int .i64 K, .int .i64 N] 37) = W5 at *
            have kr := kN W5 (HS.out.below HB5.out)
            have HKS := Lib.hid kS
            rw [← HL.out] at kr
            clear kN kS
            refine kr.mono ?_
            clear kr
            rintro e w6 ⟨rfl, hb6⟩
            have hb7 : Below w6.heap.size w6 (w6.alloc (.cells #[.slice A l c, .int .i64 (p' : Int), .bool bd'] 35)) := (Below.refl _ w6).alloc (Nat.le_refl _) _
            have hb57 : Below W5.heap.size W5 (w6.alloc (.cells #[.slice A l c, .int .i64 (p' : Int), .bool bd'] 35)) := hb6.trans (hb7.mono hb6.size)
            have HB7 := Lib.hid (HB5.out.trans (hb57.mono HB5.out.size))
            have HS7 := Lib.hid (HS5.out.below hb57)
            have HK7 := Lib.hid ((hb57.block h (by omega)).trans HK5.out)
            have hv7 : (w6.alloc (.cells #[.slice A l c, .int .i64 (p' : Int), .bool bd'] 35)).cell? ⟨wr.heap.size, 1, none⟩ = some (.int .i64 N) := (hb57.cell (p := ⟨wr.heap.size, 1, none⟩) hz).trans hv1
            have ht7 := heap_alloc_new w6 (.cells #[.slice A l c, .int .i64 (p' : Int), .bool bd'] 35)
            have hz67 : w6.heap.size < (w6.alloc (.cells #[.slice A l c, .int .i64 (p' : Int), .bool bd'] 35)).heap.size := by simp
            have hz6 : wr.heap.size < w6.heap.size := Nat.lt_of_lt_of_le hz hb6.size
            have HT7 := Lib.hid ht7
            clear hb6 hb7 hb57 HB5 HS5 HK5 hv1 hz ht7
            have hVV : (V == V) = true := by simp
            go_wp2_with fail
            generalize w6.alloc (.cells #[.slice A l c, .int .i64 (p' : Int), .bool bd'] 35) = W7 at *
            obtain ⟨t0, t1, t2, _, _, _⟩ := three HT7.out
            have hn1 : wr.heap.size ≠ h := by omega
            have hn2 : w6.heap.size ≠ h := by omega
            go_region_held3 (fun w' => w'.cell? ⟨wr.heap.size, 1, none⟩ = some (.int .i64 N) ∧ w'.cell? ⟨w6.heap.size, 0, none⟩ = some (.slice A l c) ∧ w'.cell? ⟨w6.heap.size, 1, none⟩ = some (.int .i64 (p' : Int)) ∧ w'.cell? ⟨w6.heap.size, 2, none⟩ = some (.bool bd'))
              (first | go_keep | exact hall8 | exact ⟨(keep3 w8 h _ _ _ _ hn1).trans hall8.1, (keep3 w8 h _ _ _ _ hn2).trans hall8.2.1, (keep3 w8 h _ _ _ _ hn2).trans hall8.2.2.1, (keep3 w8 h _ _ _ _ hn2).trans hall8.2.2.2⟩)
              (first
                | (go_at_call 22; refine (HKS.out _ _ _ HS7.out.drew).mono ?_; rintro e w8 ⟨rfl, ⟨A8, c8, hs8⟩, ho8⟩; have hk8 := (ho8.block h (by have := lt_of_block HK7.out; exact this) (by simp; omega)).trans HK7.out; obtain ⟨hc80, hc81, hc82, hf80, hf81, hf82⟩ := three hk8; have hall8 : w8.cell? ⟨wr.heap.size, 1, none⟩ = some (.int .i64 N) ∧ w8.cell? ⟨w6.heap.size, 0, none⟩ = some (.slice A l c) ∧ w8.cell? ⟨w6.heap.size, 1, none⟩ = some (.int .i64 (p' : Int)) ∧ w8.cell? ⟨w6.heap.size, 2, none⟩ = some (.bool bd') := ⟨(World.cell?_of_block (a := ⟨wr.heap.size, 1, none⟩) (w := W7.drew) (ho8.block wr.heap.size (Nat.lt_trans hz6 hz67) (by simp; omega))).trans hv7, (World.cell?_of_block (a := ⟨w6.heap.size, 0, none⟩) (w := W7.drew) (ho8.block w6.heap.size hz67 (by simp; omega))).trans t0, (World.cell?_of_block (a := ⟨w6.heap.size, 1, none⟩) (w := W7.drew) (ho8.block w6.heap.size hz67 (by simp; omega))).trans t1, (World.cell?_of_block (a := ⟨w6.heap.size, 2, none⟩) (w := W7.drew) (ho8.block w6.heap.size hz67 (by simp; omega))).trans t2⟩))
            have hwg : w.heap.size ≤ g := by have := HG.out; omega
            have hbe8 := HB7.out.drew.trans (below_of_only ho8 hwg HB7.out.size)
            obtain ⟨hsc9, hk9, hbe9⟩ := Side.mk hs8 hk8 hgh hp' hbe8 (by omega)
            rw [← HL.out] at hsc9 hk9 hbe9
            clear hs8 hk8 ho8 hbe8 hall8 hc80 hc81 hc82 hf80 hf81 hf82 HB7 HS7 HK7 HT7 HKS t0 t1 t2 hv7 hz6 hz67 hn1 hn2 hVV
            go_wp2_with fail
            generalize ((w8.setCell ⟨h, 0, none⟩ (.slice A l c)).setCell ⟨h, 1, none⟩ (.int .i64 (p' : Int))).setCell ⟨h, 2, none⟩ (.bool bd') = W9 at *
            obtain ⟨R', eR⟩ : ∃ R', R' = bs.drop p' := ⟨_, rfl⟩
            rw [← eR] at hsc9
            have hx1 : (bd' != bd') = false := by simp
            have hx2 : ((p' : Int) != (p' : Int)) = false := by simp
            have hx3 : ((R'.length : Int) != (l : Int) - (p' : Int)) = false := by
              have := HL.out
              rw [eR]
              simp
              omega
            have y0 := hsc9.c0
            have y1 := hsc9.c1
            have y2 := hsc9.c2
            obtain ⟨z0, z1, z2, _, _, _⟩ := three hk9
            have HSC9 := Lib.hid hsc9
            have HK9 := Lib.hid hk9
            have HBE9 := Lib.hid hbe9
            have ER := Lib.hid eR
            clear hsc9 hk9 hbe9 eR
            have hp9 : p' ≤ l := by rw [HL.out]; exact hp'
            have hsub : IntKind.i64.wrap ((l : Int) - (p' : Int)) = (l : Int) - (p' : Int) := IntWalk.i64_in _ (by omega)
            go_quiet ((first | (go_at_call 27; exact Calls.quiet_of_same (bad_q _ g bd' y2)) | (go_at_call 28; exact Calls.quiet_of_same (place_q _ g p' y1)) | (go_at_call 29; exact Calls.quiet_of_same (left_q _ g _ _ _ y0))))
            clear hsub
            go_wp2
            go_roundw
            case rel =>
              refine ⟨j + 1, by omega, by go_num, ?_⟩
              have h1 := HSC9.out
              rw [ER.out] at h1
              have h2 := HK9.out
              rw [HL.out] at h2
              exact ⟨p', bd', hp', ⟨_, _, h1.drewN _⟩, h2, below_drewN HBE9.out _⟩
            case measure => simp [intOf]; omega
          · go_wp2_with fail
            clear hc0 hc1 er er2 s0 s1 s2 hv0
            obtain ⟨p', bd', V, hp', kN, kS⟩ := int_step A c g p bs bd N HO.out hpl (by rw [← HL.out]; exact hl)
            generalize wr.alloc (.cells #[.int .i64 K, .int .i64 N] 37) = W5 at *
            have kr := kN W5 (HS.out.below HB5.out)
            have HKS := Lib.hid kS
            rw [← HL.out] at kr
            clear kN kS
            refine kr.mono ?_
            clear kr
            rintro e w6 ⟨rfl, hb6⟩
            have hb7 : Below w6.heap.size w6 (w6.alloc (.cells #[.slice A l c, .int .i64 (p' : Int), .bool bd'] 35)) := (Below.refl _ w6).alloc (Nat.le_refl _) _
            have hb57 : Below W5.heap.size W5 (w6.alloc (.cells #[.slice A l c, .int .i64 (p' : Int), .bool bd'] 35)) := hb6.trans (hb7.mono hb6.size)
            have HB7 := Lib.hid (HB5.out.trans (hb57.mono HB5.out.size))
            have HS7 := Lib.hid (HS5.out.below hb57)
            have HK7 := Lib.hid ((hb57.block h (by omega)).trans HK5.out)
            have hv7 : (w6.alloc (.cells #[.slice A l c, .int .i64 (p' : Int), .bool bd'] 35)).cell? ⟨wr.heap.size, 1, none⟩ = some (.int .i64 N) := (hb57.cell (p := ⟨wr.heap.size, 1, none⟩) hz).trans hv1
            have ht7 := heap_alloc_new w6 (.cells #[.slice A l c, .int .i64 (p' : Int), .bool bd'] 35)
            have hz67 : w6.heap.size < (w6.alloc (.cells #[.slice A l c, .int .i64 (p' : Int), .bool bd'] 35)).heap.size := by simp
            have hz6 : wr.heap.size < w6.heap.size := Nat.lt_of_lt_of_le hz hb6.size
            have HT7 := Lib.hid ht7
            clear hb6 hb7 hb57 HB5 HS5 HK5 hv1 hz ht7
            have hVV : (V == V) = true := by simp
            go_wp2_with fail
            generalize w6.alloc (.cells #[.slice A l c, .int .i64 (p' : Int), .bool bd'] 35) = W7 at *
            obtain ⟨t0, t1, t2, _, _, _⟩ := three HT7.out
            have hn1 : wr.heap.size ≠ h := by omega
            have hn2 : w6.heap.size ≠ h := by omega
            go_region_held3 (fun w' => w'.cell? ⟨wr.heap.size, 1, none⟩ = some (.int .i64 N) ∧ w'.cell? ⟨w6.heap.size, 0, none⟩ = some (.slice A l c) ∧ w'.cell? ⟨w6.heap.size, 1, none⟩ = some (.int .i64 (p' : Int)) ∧ w'.cell? ⟨w6.heap.size, 2, none⟩ = some (.bool bd'))
              (first | go_keep | exact hall8 | exact ⟨(keep3 w8 h _ _ _ _ hn1).trans hall8.1, (keep3 w8 h _ _ _ _ hn2).trans hall8.2.1, (keep3 w8 h _ _ _ _ hn2).trans hall8.2.2.1, (keep3 w8 h _ _ _ _ hn2).trans hall8.2.2.2⟩)
              (first
                | (go_at_call 24; refine (HKS.out _ _ _ HS7.out.drew).mono ?_; rintro e w8 ⟨rfl, ⟨A8, c8, hs8⟩, ho8⟩; have hk8 := (ho8.block h (by have := lt_of_block HK7.out; exact this) (by simp; omega)).trans HK7.out; obtain ⟨hc80, hc81, hc82, hf80, hf81, hf82⟩ := three hk8; have hall8 : w8.cell? ⟨wr.heap.size, 1, none⟩ = some (.int .i64 N) ∧ w8.cell? ⟨w6.heap.size, 0, none⟩ = some (.slice A l c) ∧ w8.cell? ⟨w6.heap.size, 1, none⟩ = some (.int .i64 (p' : Int)) ∧ w8.cell? ⟨w6.heap.size, 2, none⟩ = some (.bool bd') := ⟨(World.cell?_of_block (a := ⟨wr.heap.size, 1, none⟩) (w := W7.drew) (ho8.block wr.heap.size (Nat.lt_trans hz6 hz67) (by simp; omega))).trans hv7, (World.cell?_of_block (a := ⟨w6.heap.size, 0, none⟩) (w := W7.drew) (ho8.block w6.heap.size hz67 (by simp; omega))).trans t0, (World.cell?_of_block (a := ⟨w6.heap.size, 1, none⟩) (w := W7.drew) (ho8.block w6.heap.size hz67 (by simp; omega))).trans t1, (World.cell?_of_block (a := ⟨w6.heap.size, 2, none⟩) (w := W7.drew) (ho8.block w6.heap.size hz67 (by simp; omega))).trans t2⟩))
            have hwg : w.heap.size ≤ g := by have := HG.out; omega
            have hbe8 := HB7.out.drew.trans (below_of_only ho8 hwg HB7.out.size)
            obtain ⟨hsc9, hk9, hbe9⟩ := Side.mk hs8 hk8 hgh hp' hbe8 (by omega)
            rw [← HL.out] at hsc9 hk9 hbe9
            clear hs8 hk8 ho8 hbe8 hall8 hc80 hc81 hc82 hf80 hf81 hf82 HB7 HS7 HK7 HT7 HKS t0 t1 t2 hv7 hz6 hz67 hn1 hn2 hVV
            go_wp2_with fail
            generalize ((w8.setCell ⟨h, 0, none⟩ (.slice A l c)).setCell ⟨h, 1, none⟩ (.int .i64 (p' : Int))).setCell ⟨h, 2, none⟩ (.bool bd') = W9 at *
            obtain ⟨R', eR⟩ : ∃ R', R' = bs.drop p' := ⟨_, rfl⟩
            rw [← eR] at hsc9
            have hx1 : (bd' != bd') = false := by simp
            have hx2 : ((p' : Int) != (p' : Int)) = false := by simp
            have hx3 : ((R'.length : Int) != (l : Int) - (p' : Int)) = false := by
              have := HL.out
              rw [eR]
              simp
              omega
            have y0 := hsc9.c0
            have y1 := hsc9.c1
            have y2 := hsc9.c2
            obtain ⟨z0, z1, z2, _, _, _⟩ := three hk9
            have HSC9 := Lib.hid hsc9
            have HK9 := Lib.hid hk9
            have HBE9 := Lib.hid hbe9
            have ER := Lib.hid eR
            clear hsc9 hk9 hbe9 eR
            have hp9 : p' ≤ l := by rw [HL.out]; exact hp'
            have hsub : IntKind.i64.wrap ((l : Int) - (p' : Int)) = (l : Int) - (p' : Int) := IntWalk.i64_in _ (by omega)
            go_quiet ((first | (go_at_call 27; exact Calls.quiet_of_same (bad_q _ g bd' y2)) | (go_at_call 28; exact Calls.quiet_of_same (place_q _ g p' y1)) | (go_at_call 29; exact Calls.quiet_of_same (left_q _ g _ _ _ y0))))
            clear hsub
            go_wp2
            go_roundw
            case rel =>
              refine ⟨j + 1, by omega, by go_num, ?_⟩
              have h1 := HSC9.out
              rw [ER.out] at h1
              have h2 := HK9.out
              rw [HL.out] at h2
              exact ⟨p', bd', hp', ⟨_, _, h1.drewN _⟩, h2, below_drewN HBE9.out _⟩
            case measure => simp [intOf]; omega
          · go_wp2_with fail
            clear hc0 hc1 er er2 s0 s1 s2 hv0
            obtain ⟨p', bd', D, hp', kN, kS⟩ := bytes_step A c g p bs bd N HO.out hpl (by rw [← HL.out]; exact hl)
            generalize wr.alloc (.cells #[.int .i64 K, .int .i64 N] 37) = W5 at *
            have kr := kN W5 (HS.out.below HB5.out)
            have HKS := Lib.hid kS
            rw [← HL.out] at kr
            clear kN kS
            refine kr.mono ?_
            clear kr
            rintro e w6 ⟨A6, c6, rfl, hsl6, hb6⟩
            have hb7 : Below w6.heap.size w6 (w6.alloc (.cells #[.slice A l c, .int .i64 (p' : Int), .bool bd'] 35)) := (Below.refl _ w6).alloc (Nat.le_refl _) _
            have hb57 : Below W5.heap.size W5 (w6.alloc (.cells #[.slice A l c, .int .i64 (p' : Int), .bool bd'] 35)) := hb6.trans (hb7.mono hb6.size)
            have HB7 := Lib.hid (HB5.out.trans (hb57.mono HB5.out.size))
            have HS7 := Lib.hid (HS5.out.below hb57)
            have HK7 := Lib.hid ((hb57.block h (by omega)).trans HK5.out)
            have hv7 : (w6.alloc (.cells #[.slice A l c, .int .i64 (p' : Int), .bool bd'] 35)).cell? ⟨wr.heap.size, 1, none⟩ = some (.int .i64 N) := (hb57.cell (p := ⟨wr.heap.size, 1, none⟩) hz).trans hv1
            have ht7 := heap_alloc_new w6 (.cells #[.slice A l c, .int .i64 (p' : Int), .bool bd'] 35)
            have hz67 : w6.heap.size < (w6.alloc (.cells #[.slice A l c, .int .i64 (p' : Int), .bool bd'] 35)).heap.size := by simp
            have hz6 : wr.heap.size < w6.heap.size := Nat.lt_of_lt_of_le hz hb6.size
            have HT7 := Lib.hid ht7
            have HD7 := Lib.hid (hsl6.below hb7)
            clear hsl6 hb6 hb7 hb57 HB5 HS5 HK5 hv1 hz ht7
            go_wp2_with fail
            generalize w6.alloc (.cells #[.slice A l c, .int .i64 (p' : Int), .bool bd'] 35) = W7 at *
            obtain ⟨t0, t1, t2, _, _, _⟩ := three HT7.out
            have hn1 : wr.heap.size ≠ h := by omega
            have hn2 : w6.heap.size ≠ h := by omega
            go_region_held3 (fun w' => w'.cell? ⟨wr.heap.size, 1, none⟩ = some (.int .i64 N) ∧ w'.cell? ⟨w6.heap.size, 0, none⟩ = some (.slice A l c) ∧ w'.cell? ⟨w6.heap.size, 1, none⟩ = some (.int .i64 (p' : Int)) ∧ w'.cell? ⟨w6.heap.size, 2, none⟩ = some (.bool bd'))
              (first | go_keep | exact hallB | exact hall8 | exact ⟨(keep3 w8 h _ _ _ _ hn1).trans hall8.1, (keep3 w8 h _ _ _ _ hn2).trans hall8.2.1, (keep3 w8 h _ _ _ _ hn2).trans hall8.2.2.1, (keep3 w8 h _ _ _ _ hn2).trans hall8.2.2.2⟩)
              (first
                | (go_at_call 26; refine (HKS.out _ _ _ HS7.out.drew).mono ?_; rintro e wB ⟨AB, cB, rfl, hslB, ⟨A8, c8, hsB⟩, hoB⟩; have hallB : wB.cell? ⟨wr.heap.size, 1, none⟩ = some (.int .i64 N) ∧ wB.cell? ⟨w6.heap.size, 0, none⟩ = some (.slice A l c) ∧ wB.cell? ⟨w6.heap.size, 1, none⟩ = some (.int .i64 (p' : Int)) ∧ wB.cell? ⟨w6.heap.size, 2, none⟩ = some (.bool bd') := ⟨(World.cell?_of_block (a := ⟨wr.heap.size, 1, none⟩) (w := W7.drew) (hoB.block wr.heap.size (Nat.lt_trans hz6 hz67) (by simp; omega))).trans hv7, (World.cell?_of_block (a := ⟨w6.heap.size, 0, none⟩) (w := W7.drew) (hoB.block w6.heap.size hz67 (by simp; omega))).trans t0, (World.cell?_of_block (a := ⟨w6.heap.size, 1, none⟩) (w := W7.drew) (hoB.block w6.heap.size hz67 (by simp; omega))).trans t1, (World.cell?_of_block (a := ⟨w6.heap.size, 2, none⟩) (w := W7.drew) (hoB.block w6.heap.size hz67 (by simp; omega))).trans t2⟩; have hkB := (hoB.block h (by have := lt_of_block HK7.out; exact this) (by simp; omega)).trans HK7.out; have hDB := Sl.only (w := W7.drew) (g := g) ⟨HD7.out.room, HD7.out.most, HD7.out.rd⟩ hoB HS7.out.drew.odd)
                | (go_at_call 13; refine (same_b AB A6 cB c6 D wB hslB hDB).mono ?_; rintro e w8 ⟨rfl, q8, hq8⟩; have hs8 : Sc w8 g A8 c8 (bs.drop p') p' bd' := (by rw [hq8]; exact hsB.drewN q8); have ho8 : Only g W7.drew w8 := (by rw [hq8]; exact Only.drewN hoB q8); have hk8 : w8.heap[h]? = some (.cells #[.slice A bs.length c, .int .i64 (p : Int), .bool bd] 35 (0, 0)) := (by rw [hq8]; exact hkB); obtain ⟨hc80, hc81, hc82, hf80, hf81, hf82⟩ := three hk8; have hall8 : w8.cell? ⟨wr.heap.size, 1, none⟩ = some (.int .i64 N) ∧ w8.cell? ⟨w6.heap.size, 0, none⟩ = some (.slice A l c) ∧ w8.cell? ⟨w6.heap.size, 1, none⟩ = some (.int .i64 (p' : Int)) ∧ w8.cell? ⟨w6.heap.size, 2, none⟩ = some (.bool bd') := (by rw [hq8]; exact hallB); clear hq8 hallB hkB hDB hsB hoB hslB))
            have hwg : w.heap.size ≤ g := by have := HG.out; omega
            have hbe8 := HB7.out.drew.trans (below_of_only ho8 hwg HB7.out.size)
            obtain ⟨hsc9, hk9, hbe9⟩ := Side.mk hs8 hk8 hgh hp' hbe8 (by omega)
            rw [← HL.out] at hsc9 hk9 hbe9
            clear hs8 hk8 ho8 hbe8 hall8 hc80 hc81 hc82 hf80 hf81 hf82 HB7 HS7 HK7 HT7 HKS t0 t1 t2 hv7 hz6 hz67 hn1 hn2 HD7
            go_wp2_with fail
            generalize ((w8.setCell ⟨h, 0, none⟩ (.slice A l c)).setCell ⟨h, 1, none⟩ (.int .i64 (p' : Int))).setCell ⟨h, 2, none⟩ (.bool bd') = W9 at *
            obtain ⟨R', eR⟩ : ∃ R', R' = bs.drop p' := ⟨_, rfl⟩
            rw [← eR] at hsc9
            have hx1 : (bd' != bd') = false := by simp
            have hx2 : ((p' : Int) != (p' : Int)) = false := by simp
            have hx3 : ((R'.length : Int) != (l : Int) - (p' : Int)) = false := by
              have := HL.out
              rw [eR]
              simp
              omega
            have y0 := hsc9.c0
            have y1 := hsc9.c1
            have y2 := hsc9.c2
            obtain ⟨z0, z1, z2, _, _, _⟩ := three hk9
            have HSC9 := Lib.hid hsc9
            have HK9 := Lib.hid hk9
            have HBE9 := Lib.hid hbe9
            have ER := Lib.hid eR
            clear hsc9 hk9 hbe9 eR
            have hp9 : p' ≤ l := by rw [HL.out]; exact hp'
            have hsub : IntKind.i64.wrap ((l : Int) - (p' : Int)) = (l : Int) - (p' : Int) := IntWalk.i64_in _ (by omega)
            go_quiet ((first | (go_at_call 27; exact Calls.quiet_of_same (bad_q _ g bd' y2)) | (go_at_call 28; exact Calls.quiet_of_same (place_q _ g p' y1)) | (go_at_call 29; exact Calls.quiet_of_same (left_q _ g _ _ _ y0))))
            clear hsub
            go_wp2
            go_roundw
            case rel =>
              refine ⟨j + 1, by omega, by go_num, ?_⟩
              have h1 := HSC9.out
              rw [ER.out] at h1
              have h2 := HK9.out
              rw [HL.out] at h2
              exact ⟨p', bd', hp', ⟨_, _, h1.drewN _⟩, h2, below_drewN HBE9.out _⟩
            case measure => simp [intOf]; omega
        · obtain ⟨_, _, _, _, _, hbe⟩ := HSd.out
          have HBE := Lib.hid hbe
          clear hbe HSd
          go_wp2
          go_ret
          exact ⟨rfl, HBE.out⟩

theorem walk {w : World} (A : Option Addr) (c : Nat) (bs : List Int) (hs : Sl w A c bs) (ho : Oct bs) (B : Option Addr) (d : Nat) (ps : List (Int × Int)) (hp : Pairs .i64 .i64 w B ps) :
    Calls Try.prog 4 #[.slice A bs.length c, .slice B ps.length d] w fun e w' => e = .returned (.bool true) ∧ Below w.heap.size w w' := by
  by_cases h : 5000 < bs.length ∨ 200 < ps.length
  · exact walk_out A B _ c _ d w h
  · exact walk_rows A B c d bs ps w hs ho hp (by omega) (by omega)

set_option maxRecDepth 100000 in
theorem lifted (os : Os) (started : os.Started) (H : Type) (enc : TypeId × Value → H) :
    ReturnsInHanded {} Try.checked os 4 .any (Rows.fieldScansSpec.pre6 enc Try.prog Try.f4 Rows.fieldScansRow.domain false) (Rows.fieldScansSpec.post enc Try.prog Try.f4 false true false false) := by
  refine returnsInHanded_of_change (C := Try.checked) Try.own started (by kernel_rfl) Try.func4
    (ChangeSpec.witness6 (enc := enc) (C := Try.checked) false ⟨#[], #[.slice none 0 0, .slice none 0 0], []⟩ 8 (by kernel_rfl) (by kernel_rfl) (by kernel_rfl) (by kernel_rfl)) ?_
  intro W base args ds gs before hval0 hW hcnd _
  have hval : ∀ (j : Nat) t v, Try.f4.params[j]? = some t → args[j]? = some v → Value.okWide Try.prog W .any base t v := hval0
  have hW' := hW
  obtain ⟨p, q, hA0, hV, rfl, hfz, hnd⟩ := hW
  have hA : DataW.TrodAll enc Try.prog W 0 (fun _ => true) true Try.f4.params.toList args.toList ds p := hA0
  rw [Try.params4] at hA hval
  have hA' := hA
  obtain ⟨v0, vs0, d0, ds0, p0, q0, hargs, rfl, rfl, h0, r0⟩ := trodAll_cons hA
  obtain ⟨v1, vs1, d1, ds1, p1, q1, rfl, rfl, rfl, h1, r1⟩ := trodAll_cons r0
  obtain ⟨rfl, rfl, rfl⟩ := trodAll_nil r1
  obtain rfl : args = #[v0, v1] := by cases args; simp_all
  obtain ⟨rfl, rfl⟩ := trodVars_none hV
  obtain ⟨A0, len0, c0, rfl⟩ := okWide_slice Try.underlying22 (hval 0 22 v0 rfl rfl)
  obtain ⟨z0, rfl, sl0, oc0⟩ := open_bytes h0
  obtain ⟨A1, len1, c1, rfl⟩ := okWide_slice Try.underlying31 (hval 1 31 v1 rfl rfl)
  obtain ⟨z1, rfl, sl1⟩ := open_asks h1
  clear hA0 hval0
  refine (walk A0 c0 z0 sl0 oc0 A1 c1 z1 sl1).mono fun e W' ⟨he, bel⟩ => ?_
  subst he
  exact ⟨_, rfl, _, _, _, [], _, [], hW', trodAll_mk1 (shut_bool Try.underlying4 _), trodAll_below bel _ _ _ _ (by kernel_rfl) hA', rfl, bel.frame _, fun h => by cases h⟩

theorem proved : Rows.FieldScansSaid :=
  OpenClaim.holds_of_wide 4 Try.f4 rfl rfl rfl rfl rfl rfl rfl ⟨rfl, rfl, rfl, rfl, rfl⟩ rfl rfl rfl rfl rfl (by kernel_rfl) Try.func4 (by kernel_rfl)
    (of_decide_eq_true (by kernel_rfl)) (by unfold Func.isWrapper; first | (rw [if_pos (by decide +kernel)]; kernel_rfl) | (rw [if_neg (by decide +kernel)]; exact ⟨rfl, rfl⟩))
    (fun os started H enc _ => lifted os started H enc)
#print axioms proved
end Go.Proofs.Ytnpmdbcijaanjaa.fieldScans
