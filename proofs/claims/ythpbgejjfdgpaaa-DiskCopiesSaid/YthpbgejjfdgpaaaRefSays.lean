/-
  The law's own says: a disk tells what the document says of it.
-/
import Derived.Test.YthpbgejjfdgpaaaRefWants
import Derived.Test.YthpbgejjfdgpaaaDiskPending
import Derived.Test.YthpbgejjfdgpaaaDiskEq
namespace Go.Proofs.Ythpbgejjfdgpaaa
open Go.RowKit
set_option linter.unusedVariables false
set_option maxRecDepth 100000

theorem GivesI.rd {w W : World} {xs : List Int} {v : Value} (h : W.ownsRow w.heap.size 3 1 v xs.length (xs.map (Value.int .i64))) : ∃ A c, v = .slice A xs.length c ∧ RdI W A xs ∧ xs.length ≤ c := by
  obtain ⟨A, c, rfl, hc, _⟩ := own_form h
  exact ⟨A, c, rfl, RdI.own h, hc⟩
theorem RdI.below {w w' : World} {A : Option Addr} {xs : List Int} (h : RdI w A xs) (hb : Below w.heap.size w w') : RdI w' A xs := by
  intro hp
  obtain ⟨b, o, rfl, hc⟩ := h hp
  exact ⟨b, o, rfl, fun j hj => (hb.cell (p := ⟨b, o + j, none⟩) (cell_lt (hc j hj))).trans (hc j hj)⟩

theorem room_at {w : World} {S : Nat → Prop} {d : Nat} {M : AD} (h : DiskAt w S d M) : Calls Try.prog 19 #[.pointer (some ⟨d, 0, none⟩)] w fun e w' => e = .returned (.int .i64 M.room) ∧ w = w' := by
  obtain ⟨mb, f, A, c, h⟩ := h
  exact room_any w d _ h.c0
theorem ops_at' {w : World} {S : Nat → Prop} {d : Nat} {M : AD} (h : DiskAt w S d M) : Calls Try.prog 23 #[.pointer (some ⟨d, 0, none⟩)] w fun e w' => e = .returned (.int .i64 M.ops) ∧ w = w' := by
  obtain ⟨mb, f, A, c, h⟩ := h
  exact ops_any w d _ h.c4
theorem dead_at {w : World} {S : Nat → Prop} {d : Nat} {M : AD} (h : DiskAt w S d M) : Calls Try.prog 24 #[.pointer (some ⟨d, 0, none⟩)] w fun e w' => e = .returned (.bool M.dead) ∧ w = w' := by
  obtain ⟨mb, f, A, c, h⟩ := h
  exact dead_any w d _ h.c5
theorem yields_loadRg {w : World} {ops : Array Oper} {S : World → Prop} {o : Oper} {a : Act} (hw : Region.wanted o (yielded ops a.tmps) = true) (x : Operand) (ho : o.op = .load 33 x) {b : Nat} {D : RD} (hx : a.eval x = .pointer (some ⟨b, 0, none⟩)) (hS : ∀ W, S W → BoxR w b D W) :
    YieldsIf Try.prog ops S o (.agg (rdA D)) a :=
  .inl ⟨hw, fun W hW => by
    unfold execOp
    simp only [ho, hx, (hS W hW).load, Sem.run_bind, Sem.run_pure, Result.andThen_ok]⟩
/-- How many bytes a file of the document's has. -/
theorem size_ref {W : World} {N : Nat → Prop} {D : RD} {M : AD} (h : RefIs W N D M) {k : Nat} (hk : k < 4) : (D.file k).n + (D.file k).m = M.len (k : Int) ∧ (D.file k).n ≤ M.len (k : Int) := by
  have hf := h.file k hk
  have h1 := hf.syn.len
  have h2 := hf.loose.len
  rw [← len_file, ← h1, ← h2, List.length_take, List.length_drop]
  omega

set_option maxHeartbeats 4000000 in
theorem says_one {w : World} {N S : Nat → Prop} {d : Nat} {D : RD} {M : AD} (hd : DiskAt w S d M) (h : RefIs w N D M) :
    Calls Try.prog 16 #[.pointer (some ⟨d, 0, none⟩), .agg (rdA D)] w fun e w' => e = .returned (.bool true) ∧ Below w.heap.size w w' := by
  have H := Lib.hid h
  have HD := Lib.hid hd
  have HDD := Lib.hid h.dead
  have HOP := Lib.hid h.ops
  have HRM := Lib.hid h.room
  have hnl : Hid (M.names.length ≤ 4) := below_length M 4
  have hu : Hid (D.used 4 ≤ 65536) := by unfold Hid; rw [used_total h]; have h1 := hd.ok.tot; have h2 := hd.ok.room2; omega
  have hlb : Hid (∀ k : Int, Name k → M.len k ≤ 65536) := fun k hk => by have h1 := hd.ok.tot; have h2 := hd.ok.room2; have h3 := len_le M hk; omega
  have hpl : Hid (M.pend.length ≤ 65536) := by unfold Hid AD.pend; rw [List.length_map]; have h0 := pcs_le M; have h1 := hd.ok.tot; have h2 := hd.ok.room2; omega
  have hL4 : Hid (M.len 4 = 0 ∧ M.len (-1) = 0) := by
    have hn := hd.ok.names
    constructor
    · unfold AD.len
      rcases hf : M.files 4 with _ | F
      · rfl
      · exact absurd (hn 4 (by rw [hf]; simp)) (by omega)
    · unfold AD.len
      rcases hf : M.files (-1) with _ | F
      · rfl
      · exact absurd (hn (-1) (by rw [hf]; simp)) (by omega)
  obtain ⟨NS, hNS⟩ : ∃ NS, NS = M.names := ⟨_, rfl⟩
  obtain ⟨PS, hPS⟩ : ∃ PS, PS = M.pend := ⟨_, rfl⟩
  have HNS := Lib.hid hNS
  have HPS := Lib.hid hPS
  rw [← hNS] at hnl
  rw [← hPS] at hpl
  clear h hd hNS hPS
  go_enter Try.func16, Try.ntmps16
  go_upto_region 1 with fail
  refine name_world (fun W => BoxR w w.heap.size D W) (BoxR.new w D) ?_
  intro W1 hb1
  have B1 := Lib.hid hb1
  have hI1 := H.out.below hb1.bel
  have hD1 := HD.out.later hb1.bel
  clear hb1
  refine wp_region_held_drew (S := fun W => BoxR w w.heap.size D W ∧ DiskAt W S d M ∧ RefIs W N D M) (by kernel_rfl) ⟨B1.out.drewN 1, hD1.drew, hI1.below ⟨rfl, rfl, rfl, Nat.le_refl _, fun _ _ => rfl⟩⟩ (fun hS => ?_)
  clear hI1 hD1
  refine wpAnyH_take (i := 0) rfl (by kernel_rfl) (by kernel_rfl) (by kernel_rfl) (fun _ _ _ h => h) (Or.inl ⟨by rfl, fun W h => by go_simp; rfl⟩) hS ?_
  try simp only [Act.put, List.setIfInBounds_toArray, List.set_cons_zero, List.set_cons_succ]
  refine wpAnyH_take (i := 2) rfl (by kernel_rfl) (by kernel_rfl) (by kernel_rfl) (fun _ _ _ h => h) (Or.inl ⟨by rfl, fun W h => by go_simp; rfl⟩) hS ?_
  try simp only [Act.put, List.setIfInBounds_toArray, List.set_cons_zero, List.set_cons_succ]
  refine wpAnyH_take (i := 3) rfl (by kernel_rfl) (by kernel_rfl) (by kernel_rfl) (fun _ _ _ h => h) (Or.inl ⟨by rfl, fun W h => by have c0 := h.1.c0; rw [HRM.out] at c0; go_simp; rfl⟩) hS ?_
  try simp only [Act.put, List.setIfInBounds_toArray, List.set_cons_zero, List.set_cons_succ]
  refine wpAnyH_ready (rs := [1]) (by kernel_rfl) (by simp) ?_
  refine AllReadyH.cons rfl (fun K hK => ?_) AllReadyH.nil
  rw [if_pos (by rfl)]
  go_simp
  go_at_call 19
  have HC := room_at hS.2.1
  refine HC.mono ?_
  clear HC
  rintro e w1 ⟨rfl, rfl⟩
  change K _ _
  refine hK.out _ _ hS (fun hS => ?_)
  clear hK K
  try simp only [Act.put, List.setIfInBounds_toArray, List.set_cons_zero, List.set_cons_succ]
  refine wpAnyH_take (i := 4) rfl (by kernel_rfl) (by kernel_rfl) (by kernel_rfl) (fun _ _ _ h => h) (Or.inl ⟨by rfl, fun W h => by go_simp; rfl⟩) hS ?_
  try simp only [Act.put, List.setIfInBounds_toArray, List.set_cons_zero, List.set_cons_succ]
  refine wpAnyH_take (i := 5) rfl (by kernel_rfl) (by kernel_rfl) (by kernel_rfl) (fun _ _ _ h => h) (Or.inl ⟨by rfl, fun W h => by go_simp; rfl⟩) hS ?_
  try simp only [Act.put, List.setIfInBounds_toArray, List.set_cons_zero, List.set_cons_succ]
  refine wpAnyH_take (i := 6) rfl (by kernel_rfl) (by kernel_rfl) (by kernel_rfl) (fun _ _ _ h => h) (Or.inl ⟨by rfl, fun W h => by go_simp; rfl⟩) hS ?_
  try simp only [Act.put, List.setIfInBounds_toArray, List.set_cons_zero, List.set_cons_succ]
  refine wpAnyH_take (i := 8) rfl (by kernel_rfl) (by kernel_rfl) (by kernel_rfl) (fun _ _ _ h => h) (Or.inl ⟨by rfl, fun W h => by go_simp; rfl⟩) hS ?_
  try simp only [Act.put, List.setIfInBounds_toArray, List.set_cons_zero, List.set_cons_succ]
  refine wpAnyH_take (i := 9) rfl (by kernel_rfl) (by kernel_rfl) (by kernel_rfl) (fun _ _ _ h => h) (Or.inl ⟨by rfl, fun W h => by have c0 := h.1.c17; rw [HOP.out] at c0; go_simp; rfl⟩) hS ?_
  try simp only [Act.put, List.setIfInBounds_toArray, List.set_cons_zero, List.set_cons_succ]
  refine wpAnyH_ready (rs := [7]) (by kernel_rfl) (by simp) ?_
  refine AllReadyH.cons rfl (fun K hK => ?_) AllReadyH.nil
  rw [if_pos (by rfl)]
  go_simp
  go_at_call 23
  have HC := ops_at' hS.2.1
  refine HC.mono ?_
  clear HC
  rintro e w7 ⟨rfl, rfl⟩
  change K _ _
  refine hK.out _ _ hS (fun hS => ?_)
  clear hK K
  try simp only [Act.put, List.setIfInBounds_toArray, List.set_cons_zero, List.set_cons_succ]
  refine wpAnyH_take (i := 10) rfl (by kernel_rfl) (by kernel_rfl) (by kernel_rfl) (fun _ _ _ h => h) (Or.inl ⟨by rfl, fun W h => by go_simp; rfl⟩) hS ?_
  try simp only [Act.put, List.setIfInBounds_toArray, List.set_cons_zero, List.set_cons_succ]
  refine wpAnyH_take (i := 11) rfl (by kernel_rfl) (by kernel_rfl) (by kernel_rfl) (fun _ _ _ h => h) (Or.inl ⟨by rfl, fun W h => by go_simp; rfl⟩) hS ?_
  try simp only [Act.put, List.setIfInBounds_toArray, List.set_cons_zero, List.set_cons_succ]
  refine wpAnyH_take (i := 12) rfl (by kernel_rfl) (by kernel_rfl) (by kernel_rfl) (fun _ _ _ h => h) (Or.inl ⟨by rfl, fun W h => by go_simp; rfl⟩) hS ?_
  try simp only [Act.put, List.setIfInBounds_toArray, List.set_cons_zero, List.set_cons_succ]
  refine wpAnyH_take (i := 13) rfl (by kernel_rfl) (by kernel_rfl) (by kernel_rfl) (fun _ _ _ h => h) (Or.inl ⟨by rfl, fun W h => by go_simp; rfl⟩) hS ?_
  try simp only [Act.put, List.setIfInBounds_toArray, List.set_cons_zero, List.set_cons_succ]
  refine wpAnyH_take (i := 15) rfl (by kernel_rfl) (by kernel_rfl) (by kernel_rfl) (fun _ _ _ h => h) (Or.inl ⟨by rfl, fun W h => by go_simp; rfl⟩) hS ?_
  try simp only [Act.put, List.setIfInBounds_toArray, List.set_cons_zero, List.set_cons_succ]
  refine wpAnyH_take (i := 16) rfl (by kernel_rfl) (by kernel_rfl) (by kernel_rfl) (fun _ _ _ h => h) (Or.inl ⟨by rfl, fun W h => by have c0 := h.1.c20; rw [HDD.out] at c0; go_simp; rfl⟩) hS ?_
  try simp only [Act.put, List.setIfInBounds_toArray, List.set_cons_zero, List.set_cons_succ]
  refine wpAnyH_ready (rs := [14]) (by kernel_rfl) (by simp) ?_
  refine AllReadyH.cons rfl (fun K hK => ?_) AllReadyH.nil
  rw [if_pos (by rfl)]
  go_simp
  go_at_call 24
  have HC := dead_at hS.2.1
  refine HC.mono ?_
  clear HC
  rintro e w14 ⟨rfl, rfl⟩
  change K _ _
  refine hK.out _ _ hS (fun hS => ?_)
  clear hK K
  try simp only [Act.put, List.setIfInBounds_toArray, List.set_cons_zero, List.set_cons_succ]
  refine wpAnyH_take (i := 17) rfl (by kernel_rfl) (by kernel_rfl) (by kernel_rfl) (fun _ _ _ h => h) (Or.inl ⟨by rfl, fun W h => by go_simp; rfl⟩) hS ?_
  try simp only [Act.put, List.setIfInBounds_toArray, List.set_cons_zero, List.set_cons_succ]
  refine wpAnyH_take (i := 18) rfl (by kernel_rfl) (by kernel_rfl) (by kernel_rfl) (fun _ _ _ h => h) (Or.inl ⟨by rfl, fun W h => by go_simp; rfl⟩) hS ?_
  try simp only [Act.put, List.setIfInBounds_toArray, List.set_cons_zero, List.set_cons_succ]
  refine wpAnyH_take (i := 19) rfl (by kernel_rfl) (by kernel_rfl) (by kernel_rfl) (fun _ _ _ h => h) (Or.inl ⟨by rfl, fun W h => by go_simp; rfl⟩) hS ?_
  try simp only [Act.put, List.setIfInBounds_toArray, List.set_cons_zero, List.set_cons_succ]
  refine wpAnyH_take (i := 20) rfl (by kernel_rfl) (by kernel_rfl) (by kernel_rfl) (fun _ _ _ h => h) (Or.inl ⟨by rfl, fun W h => by go_simp; rfl⟩) hS ?_
  try simp only [Act.put, List.setIfInBounds_toArray, List.set_cons_zero, List.set_cons_succ]
  refine wpAnyH_take (i := 22) rfl (by kernel_rfl) (by kernel_rfl) (by kernel_rfl) (fun _ _ _ h => h) (yields_loadRg (D := D) rfl _ rfl rfl (fun W h => h.1)) hS ?_
  try simp only [Act.put, List.setIfInBounds_toArray, List.set_cons_zero, List.set_cons_succ]
  refine wpAnyH_ready (rs := [21]) (by kernel_rfl) (by simp) ?_
  refine AllReadyH.cons rfl (fun K hK => ?_) AllReadyH.nil
  rw [if_pos (by rfl)]
  go_simp
  go_at_call 20
  have HC := files_any hS.2.1
  rw [← HNS.out] at HC
  refine HC.mono ?_
  clear HC
  rintro e w21 ⟨v, rfl, hown, hb21⟩
  obtain ⟨A1, c1, rfl, rd1, le1⟩ := GivesI.rd hown
  clear hown
  change K _ _
  refine hK.out _ _ ⟨hS.1.later hb21, hS.2.1.later hb21, hS.2.2.below hb21⟩ (fun hS => ?_)
  clear hK K
  try simp only [Act.put, List.setIfInBounds_toArray, List.set_cons_zero, List.set_cons_succ]
  refine wpAnyH_ready (rs := [23]) (by kernel_rfl) (by simp) ?_
  refine AllReadyH.cons rfl (fun K hK => ?_) AllReadyH.nil
  rw [if_pos (by rfl)]
  go_simp
  go_at_call 52
  have HC := names_ref_any hS.2.2
  rw [← HNS.out] at HC
  refine HC.mono ?_
  clear HC
  rintro e w23 ⟨v, rfl, hown, hb23⟩
  obtain ⟨A2, c2, rfl, rd2, le2⟩ := GivesI.rd hown
  have rd1b := rd1.below hb23
  clear hown rd1
  change K _ _
  refine hK.out _ _ ⟨hS.1.later hb23, hS.2.1.later hb23, hS.2.2.below hb23⟩ (fun hS => ?_)
  clear hK K
  try simp only [Act.put, List.setIfInBounds_toArray, List.set_cons_zero, List.set_cons_succ]
  refine wpAnyH_ready (rs := [24]) (by kernel_rfl) (by simp) ?_
  refine AllReadyH.cons rfl (fun K hK => ?_) AllReadyH.nil
  rw [if_pos (by rfl)]
  go_simp
  go_at_call 31
  have HC := equalI A1 A2 c1 c2 NS _ rd1b rd2 (by have := hnl.out; omega) le1 le2
  refine HC.mono ?_
  clear HC
  rintro e w24 ⟨rfl, hb24⟩
  clear rd1b rd2
  change K _ _
  refine hK.out _ _ ⟨hS.1.later hb24, hS.2.1.later hb24, hS.2.2.below hb24⟩ (fun hS => ?_)
  clear hK K
  try simp only [Act.put, List.setIfInBounds_toArray, List.set_cons_zero, List.set_cons_succ]
  refine wpAnyH_take (i := 25) rfl (by kernel_rfl) (by kernel_rfl) (by kernel_rfl) (fun _ _ _ h => h) (Or.inl ⟨by rfl, fun W h => by go_simp; rfl⟩) hS ?_
  try simp only [Act.put, List.setIfInBounds_toArray, List.set_cons_zero, List.set_cons_succ]
  refine wpAnyH_take (i := 26) rfl (by kernel_rfl) (by kernel_rfl) (by kernel_rfl) (fun _ _ _ h => h) (Or.inl ⟨by rfl, fun W h => by go_simp; rfl⟩) hS ?_
  try simp only [Act.put, List.setIfInBounds_toArray, List.set_cons_zero, List.set_cons_succ]
  refine wpAnyH_take (i := 27) rfl (by kernel_rfl) (by kernel_rfl) (by kernel_rfl) (fun _ _ _ h => h) (Or.inl ⟨by rfl, fun W h => by go_simp; rfl⟩) hS ?_
  try simp only [Act.put, List.setIfInBounds_toArray, List.set_cons_zero, List.set_cons_succ]
  refine wpAnyH_take (i := 28) rfl (by kernel_rfl) (by kernel_rfl) (by kernel_rfl) (fun _ _ _ h => h) (Or.inl ⟨by rfl, fun W h => by go_simp; rfl⟩) hS ?_
  try simp only [Act.put, List.setIfInBounds_toArray, List.set_cons_zero, List.set_cons_succ]
  refine wpAnyH_take (i := 30) rfl (by kernel_rfl) (by kernel_rfl) (by kernel_rfl) (fun _ _ _ h => h) (yields_loadRg (D := D) rfl _ rfl rfl (fun W h => h.1)) hS ?_
  try simp only [Act.put, List.setIfInBounds_toArray, List.set_cons_zero, List.set_cons_succ]
  refine wpAnyH_ready (rs := [29]) (by kernel_rfl) (by simp) ?_
  refine AllReadyH.cons rfl (fun K hK => ?_) AllReadyH.nil
  rw [if_pos (by rfl)]
  go_simp
  go_at_call 22
  have HC := pending_any hS.2.1
  rw [← HPS.out] at HC
  refine HC.mono ?_
  clear HC
  rintro e w29 ⟨v, rfl, hown, hb29⟩
  obtain ⟨A3, c3, rfl, rd3, le3⟩ := GivesI.rd hown
  clear hown
  change K _ _
  refine hK.out _ _ ⟨hS.1.later hb29, hS.2.1.later hb29, hS.2.2.below hb29⟩ (fun hS => ?_)
  clear hK K
  try simp only [Act.put, List.setIfInBounds_toArray, List.set_cons_zero, List.set_cons_succ]
  refine wpAnyH_ready (rs := [31]) (by kernel_rfl) (by simp) ?_
  refine AllReadyH.cons rfl (fun K hK => ?_) AllReadyH.nil
  rw [if_pos (by rfl)]
  go_simp
  go_at_call 53
  have HC := pending_ref hS.2.2 hu.out
  rw [← HPS.out] at HC
  refine HC.mono ?_
  clear HC
  rintro e w31 ⟨v, rfl, hown, hb31⟩
  obtain ⟨A4, c4, rfl, rd4, le4⟩ := GivesI.rd hown
  have rd3b := rd3.below hb31
  clear hown rd3
  change K _ _
  refine hK.out _ _ ⟨hS.1.later hb31, hS.2.1.later hb31, hS.2.2.below hb31⟩ (fun hS => ?_)
  clear hK K
  try simp only [Act.put, List.setIfInBounds_toArray, List.set_cons_zero, List.set_cons_succ]
  refine wpAnyH_ready (rs := [32]) (by kernel_rfl) (by simp) ?_
  refine AllReadyH.cons rfl (fun K hK => ?_) AllReadyH.nil
  rw [if_pos (by rfl)]
  go_simp
  go_at_call 31
  have HC := equalI A3 A4 c3 c4 PS _ rd3b rd4 (by have := hpl.out; omega) le3 le4
  refine HC.mono ?_
  clear HC
  rintro e w32 ⟨rfl, hb32⟩
  clear rd3b rd4
  change K _ _
  refine hK.out _ _ ⟨hS.1.later hb32, hS.2.1.later hb32, hS.2.2.below hb32⟩ (fun hS => ?_)
  clear hK K
  try simp only [Act.put, List.setIfInBounds_toArray, List.set_cons_zero, List.set_cons_succ]
  refine wpAnyH_take (i := 33) rfl (by kernel_rfl) (by kernel_rfl) (by kernel_rfl) (fun _ _ _ h => h) (Or.inl ⟨by rfl, fun W h => by go_simp; rfl⟩) hS ?_
  try simp only [Act.put, List.setIfInBounds_toArray, List.set_cons_zero, List.set_cons_succ]
  refine wpAnyH_take (i := 34) rfl (by kernel_rfl) (by kernel_rfl) (by kernel_rfl) (fun _ _ _ h => h) (Or.inl ⟨by rfl, fun W h => by go_simp; rfl⟩) hS ?_
  try simp only [Act.put, List.setIfInBounds_toArray, List.set_cons_zero, List.set_cons_succ]
  refine wpAnyH_done (by kernel_rfl) ?_ _
  have B2 := Lib.hid hS.1
  have I2 := Lib.hid hS.2.2
  have D2 := Lib.hid hS.2.1
  clear hS
  go_upto_region 3 with fail
  go_wp2_with (refine wpList_load_mid rfl 31 _ rfl _ 1 rfl (arrF D) _ B2.out.files Try.underlying31 rfl sizeA ?_)
  go_loopw [44] (fun i wr => ∃ k : Nat, i = .int .i64 k ∧ k ≤ 4 ∧ Hid (Below w.heap.size w wr)) (fun i _ => 4 - (intOf i).toNat)
  case atStart => exact ⟨0, rfl, by omega, Lib.hid B2.out.bel⟩
  case round =>
    obtain ⟨k, rfl, hk, HB⟩ := hrel
    by_cases hk4 : k < 4
    · have hkk : (k : Int) < 4 := by omega
      have ix := fun W => ix_file D k hk4 W
      have hsz := size_ref H.out hk4
      have hbn := hlb.out (k : Int) ⟨by omega, by omega⟩
      have i64k : I64 (k : Int) := by
        have h1 : k = 0 ∨ k = 1 ∨ k = 2 ∨ k = 3 := by omega
        rcases h1 with rfl | rfl | rfl | rfl <;> decide
      have HSZ := Lib.hid (fun (W : World) (hW : Below w.heap.size w W) (q : Nat) => size_st (DiskAt.drewN (HD.out.later hW) q) (k := (k : Int)) i64k)
      generalize D.file k = Fk at *
      generalize (arrF D).toArray = AR at *
      generalize M.len (k : Int) = ln at *
      obtain ⟨n, m, hn, hm⟩ : ∃ n m, n = Fk.n ∧ m = Fk.m := ⟨_, _, rfl, rfl⟩
      rw [← hn, ← hm] at hsz
      have hsum : IntKind.i64.wrap ((n : Int) + (m : Int)) = (ln : Int) := by rw [IntWalk.i64_in _ (by omega)]; omega
      go_upto_region 6 with fail
      refine name_world (fun W => W.cell? ⟨wr.heap.size, 2, none⟩ = some (.slice Fk.A Fk.n Fk.c) ∧ W.cell? ⟨wr.heap.size, 3, none⟩ = some (.slice Fk.B Fk.m Fk.d) ∧ Below wr.heap.size wr W) (by
        have hx := heap_alloc_new wr (.cells (rfA Fk) 30)
        exact ⟨by simp only [World.cell?, hx]; rfl, by simp only [World.cell?, hx]; rfl, (Below.refl _ wr).alloc (Nat.le_refl _) _⟩) ?_
      rintro w9 ⟨e2, e3, hb9⟩
      rw [← hn] at e2
      rw [← hm] at e3
      have hbw := HB.out.trans (hb9.mono HB.out.size)
      have HQ := Lib.hid (HSZ.out w9 hbw)
      have HBW := Lib.hid hbw
      clear hb9 hbw HSZ hn hm hsz hbn i64k
      go_quiet ((go_at_call 21; with_reducible refine Calls.quiet_of_same (HQ.out _)))
      go_wp2
      go_roundw
      case rel => exact ⟨k + 1, by go_num, by omega, Lib.hid (below_drewN HBW.out _)⟩
      case measure => simp [intOf]; omega
    · obtain rfl : k = 4 := by omega
      have HS1 := Lib.hid (size_any (HD.out.later HB.out) (k := -1) (by decide))
      have HS2 := Lib.hid (size_any (HD.out.later HB.out) (k := 4) (by decide))
      rw [hL4.out.1] at HS2
      rw [hL4.out.2] at HS1
      go_wp2_with (first | (go_at_call 21; (with_reducible refine HS1.out.mono ?_); rintro e w' ⟨rfl, rfl⟩) | (go_at_call 21; (with_reducible refine HS2.out.mono ?_); rintro e w' ⟨rfl, rfl⟩))
      go_ret
      exact ⟨rfl, HB.out⟩

end Go.Proofs.Ythpbgejjfdgpaaa
