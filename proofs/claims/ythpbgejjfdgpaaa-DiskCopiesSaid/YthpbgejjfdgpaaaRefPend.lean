/-
  The document's Pending.
-/
import Derived.Test.YthpbgejjfdgpaaaRefNames
namespace Go.Proofs.Ythpbgejjfdgpaaa
open Go.RowKit
set_option linter.unusedVariables false
set_option maxRecDepth 100000

/-- c 0 times 0, then c 1 times 1, ... -/
def rowP (c : Nat → Nat) : Nat → List Int
  | 0 => []
  | k + 1 => rowP c k ++ List.replicate (c k) (k : Int)
theorem rowP_len {c : Nat → Nat} (h : ∀ k, k < 4 → c k ≤ 8192) : ∀ k, k ≤ 4 → (rowP c k).length ≤ 8192 * k
  | 0, _ => by simp [rowP]
  | k + 1, hk => by
    have h1 := rowP_len h k (by omega)
    have h2 := h k (by omega)
    simp only [rowP, List.length_append, List.length_replicate]
    omega
theorem nm_all {k : Nat} {xs : List Pc} (h : ∀ x ∈ xs, x.nm = k) : xs.map (fun x => (x.nm : Int)) = List.replicate xs.length (k : Int) := by
  induction xs with
  | nil => rfl
  | cons x xs ih =>
    rw [List.map_cons, ih (fun y hy => h y (by simp [hy])), h x (by simp)]
    rfl
theorem rowP_pend {W : World} {N : Nat → Prop} {D : RD} {M : AD} (h : RefIs W N D M) : M.pend = rowP (fun k => ((D.file k).m + 7) / 8) 4 := by
  have e : ∀ k : Nat, k < 4 → (M.pcsOf k).map (fun x => (x.nm : Int)) = List.replicate (((D.file k).m + 7) / 8) (k : Int) := by
    intro k hk
    have hl := (h.file k hk).loose.len
    rw [List.length_drop] at hl
    unfold AD.pcsOf
    unfold AD.file at hl
    rcases hq : M.files (k : Int) with _ | F
    · rw [hq] at hl
      have : (D.file k).m = 0 := by rw [← hl]; rfl
      rw [this]
      rfl
    · rw [hq] at hl
      have hl : F.bs.length - F.syn = (D.file k).m := hl
      show (pcsAt k F).map _ = _
      rw [nm_all (pcsAt_nm hk F), ← hl]
      congr 1
      simp [pcsAt, AF.pn]
  unfold AD.pend
  rw [pcs_all, List.map_append, List.map_append, List.map_append, e 0 (by omega), e 1 (by omega), e 2 (by omega), e 3 (by omega)]
  simp only [rowP, List.nil_append]

theorem rowsApart {W : World} {base g n : Nat} {s : Value} {xs : List Value} {F : RF} (hs : W.ownsRow base 3 1 s n xs) (hg : W.heap[g]? = some (.cells (rfA F) 30 (0, 0))) : s.ownBlock ≠ some g := by
  intro e
  rcases hs.2 with ⟨hv, _⟩ | ⟨q, cap, cur, hv, hq, hh, _⟩
  · rw [hv] at e; cases e
  · rw [hv] at e
    have hqg : q = g := by simpa [Value.ownBlock] using e
    subst hqg
    rw [hh] at hg
    cases hg

set_option maxHeartbeats 2000000 in
theorem pending_ref {w : World} {N : Nat → Prop} {D : RD} {M : AD} (h : RefIs w N D M) (hu : D.used 4 ≤ 65536) : Calls Try.prog 53 #[.agg (rdA D)] w (GivesI w M.pend) := by
  obtain ⟨i0, hi, hz0, hz1, hz2⟩ := info_parts infoInt
  rw [rowP_pend h]
  have hc : ∀ k, k < 4 → (D.file k).m ≤ 65536 := by
    intro k hk
    have h4 : k = 0 ∨ k = 1 ∨ k = 2 ∨ k = 3 := by omega
    rcases h4 with rfl | rfl | rfl | rfl <;> simp only [RD.used, RD.file] at hu ⊢ <;> omega
  obtain ⟨cn, hcn⟩ : ∃ cn : Nat → Nat, cn = fun k => ((D.file k).m + 7) / 8 := ⟨_, rfl⟩
  rw [← hcn]
  have hck : ∀ k, k < 4 → cn k ≤ 8192 := fun k hk => by have := hc k hk; rw [hcn]; show ((D.file k).m + 7) / 8 ≤ _; omega
  have hcm : ∀ k, cn k = ((D.file k).m + 7) / 8 := fun k => by rw [hcn]
  have HLP := Lib.hid (rowP_len hck)
  have HCK := Lib.hid hck
  have HCM := Lib.hid hcm
  have HC := Lib.hid hc
  obtain ⟨W1, hW1⟩ : ∃ W1, W1 = w.alloc (.cells (rdA D) 33) := ⟨_, rfl⟩
  have hD : BoxR w w.heap.size D W1 := by rw [hW1]; exact BoxR.new w D
  have HW1 := Lib.hid hW1
  have HD := Lib.hid hD
  clear hW1 hD h hu hc hcn hck hcm
  go_enter Try.func53, Try.ntmps53
  go_upto_region 1 with fail
  rw [← HW1.out]
  go_wp2_with (refine wpList_load_mid rfl 31 _ rfl _ 1 rfl (arrF D) _ HD.out.files Try.underlying31 rfl sizeA ?_)
  go_loopw [3, 9] (fun s i wr => ∃ k : Nat, i = .int .i64 k ∧ k ≤ 4 ∧ Hid (wr.ownsRow w.heap.size 3 1 s (rowP cn k).length ((rowP cn k).map (Value.int .i64)) ∧ Below w.heap.size w wr)) (fun s i _ => 4 - (intOf i).toNat)
  case atStart => exact ⟨0, rfl, by omega, Lib.hid ⟨World.ownsRow_nil _ _ _ _, HD.out.bel⟩⟩
  case round =>
    obtain ⟨k, rfl, hk, H⟩ := hrel
    by_cases hk4 : k < 4
    · have hkk : (k : Int) < 4 := by omega
      have ix := fun W => ix_file D k hk4 W
      have HM := Lib.hid (HC.out k hk4)
      have HN := Lib.hid (HCM.out k)
      have HNK := Lib.hid (HCK.out k hk4)
      have HL := Lib.hid (HLP.out k hk)
      generalize D.file k = Fk at *
      generalize (arrF D).toArray = AR at *
      go_upto_region 5 with fail
      obtain ⟨g, hg⟩ : ∃ g, g = wr.heap.size := ⟨_, rfl⟩
      refine name_world (fun W => W.heap[g]? = some (.cells (rfA Fk) 30 (0, 0)) ∧ Below wr.heap.size wr W) (by rw [hg]; exact ⟨heap_alloc_new wr _, (Below.refl _ wr).alloc (Nat.le_refl _) _⟩) ?_
      rintro w1 ⟨hx, hb1⟩
      rw [← hg]
      have HX := Lib.hid hx
      have HB := Lib.hid hb1
      have HGW := Lib.hid (show w.heap.size ≤ g by rw [hg]; exact H.out.2.size)
      clear hx hb1 hg ix
      go_wp2
      go_loopw [3, 6] (fun s f wq => ∃ t x : Nat, f = .int .i64 x ∧ Hid (x = 8 * t ∧ t ≤ cn k) ∧ Hid (wq.ownsRow w.heap.size 3 1 s ((rowP cn k).length + t) ((rowP cn k ++ List.replicate t (k : Int)).map (Value.int .i64)) ∧ Below w.heap.size w wq ∧ wq.heap[g]? = some (.cells (rfA Fk) 30 (0, 0)))) (fun s f _ => 70000 - (intOf f).toNat)
      case atStart =>
        refine ⟨0, 0, rfl, Lib.hid ⟨rfl, Nat.zero_le _⟩, Lib.hid ⟨?_, H.out.2.trans (HB.out.mono H.out.2.size), HX.out⟩⟩
        simpa using row_later H.out.1 HB.out
      case round =>
        obtain ⟨t, x, rfl, HT, HR⟩ := hrel
        have g3 : wr.cell? ⟨g, 3, none⟩ = some (.slice Fk.B Fk.m Fk.d) := by simp [World.cell?, HR.out.2.2]
        have hm := HM.out
        by_cases hx8 : x < Fk.m
        · have hxx : (x : Int) < Fk.m := by omega
          have hlen : (rowP cn k).length + t + 1 ≤ 60000 := by have := HL.out; have := HNK.out; have := HT.out.2; omega
          go_wp2_with (at_builtin; refine wpList_append_own _ rfl _ _ 48 rfl w.heap.size 3 i0 (.int .i64 0) 1 8 Try.underlying48 hi hz0 hz1 hz2 rfl (by decide) _ _ _ rfl (HR.out.1.alloc _) ⟨wr.heap.size, 0, none⟩ 1 1 [.int .i64 (k : Int)] rfl rfl (cell_one_new _ _ _) (by simp [Value.oneCell']) (by unfold maxLen; omega) (by omega) (by have := HR.out.2.1.size; simp; omega) ?_; intro v' w2 hown' hgrow _; have HO := Lib.hid hown'; have HG := Lib.hid hgrow; clear hown' hgrow)
          go_round
          case rel =>
            have hbb := HR.out.2.1
            have hgl := lt_of_block HR.out.2.2
            have h8 := HT.out
            have hn := HN.out
            refine ⟨t + 1, x + 8, by go_num, Lib.hid ⟨by omega, by omega⟩, Lib.hid ⟨?_, ?_, ?_⟩⟩
            · rw [List.replicate_succ', ← List.append_assoc, List.map_append]
              exact HO.out
            · exact (hbb.alloc hbb.size _).grown HG.out (by have := hbb.size; simp; omega) (fun q hq => (HR.out.1.lt q hq).1)
            · exact (HG.out.block g (by simp; omega) (rowsApart HR.out.1 HR.out.2.2).symm).trans ((Below.heap_alloc wr _ g hgl).trans HR.out.2.2)
          case measure => simp [intOf]; omega
        · have hxx : ¬ (x : Int) < Fk.m := by omega
          go_wp2
          refine ⟨⟨k + 1, by go_num, by omega, Lib.hid ⟨?_, HR.out.2.1⟩⟩, by simp [intOf]; omega⟩
          have ht : t = cn k := by have h8 := HT.out; have hn := HN.out; omega
          have hr := HR.out.1
          rw [ht] at hr
          simpa [rowP] using hr
    · obtain rfl : k = 4 := by omega
      go_wp2
      go_ret
      exact ⟨_, rfl, H.out.1, H.out.2⟩

end Go.Proofs.Ythpbgejjfdgpaaa
