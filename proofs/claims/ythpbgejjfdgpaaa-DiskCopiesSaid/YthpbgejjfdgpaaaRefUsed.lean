/-
  The document's Used.
-/
import Derived.Test.YthpbgejjfdgpaaaRefLaid
namespace Go.Proofs.Ythpbgejjfdgpaaa
open Go.RowKit
set_option linter.unusedVariables false
set_option maxRecDepth 100000

abbrev arrF (D : RD) : List Value := [
  .bool D.f0.there, .bool D.f0.kept, .slice D.f0.A D.f0.n D.f0.c, .slice D.f0.B D.f0.m D.f0.d,
  .bool D.f1.there, .bool D.f1.kept, .slice D.f1.A D.f1.n D.f1.c, .slice D.f1.B D.f1.m D.f1.d,
  .bool D.f2.there, .bool D.f2.kept, .slice D.f2.A D.f2.n D.f2.c, .slice D.f2.B D.f2.m D.f2.d,
  .bool D.f3.there, .bool D.f3.kept, .slice D.f3.A D.f3.n D.f3.c, .slice D.f3.B D.f3.m D.f3.d]
theorem sizeA : (Try.prog.info? 31).map (·.size) = some 16 := by kernel_rfl
theorem BoxR.files {w W : World} {b : Nat} {D : RD} (h : BoxR w b D W) : W.rangeAt b 1 (arrF D) := by
  intro j v hj
  rw [h.cell]
  have hj16 : j < 16 := by
    have := (List.getElem?_eq_some_iff.1 hj).1
    simpa using this
  have e : (rdA D)[1 + j]? = (arrF D)[j]? := by
    iterate 16 (rcases j with _ | j; · rfl)
    omega
  rw [e]
  exact hj
def RD.used (D : RD) (k : Nat) : Nat := match k with
  | 0 => 0
  | 1 => D.f0.n + D.f0.m
  | 2 => D.f0.n + D.f0.m + (D.f1.n + D.f1.m)
  | 3 => D.f0.n + D.f0.m + (D.f1.n + D.f1.m) + (D.f2.n + D.f2.m)
  | _ => D.f0.n + D.f0.m + (D.f1.n + D.f1.m) + (D.f2.n + D.f2.m) + (D.f3.n + D.f3.m)
theorem ix_f0 (D : RD) (W : World) : (Instr.index 31 (.agg (arrF D).toArray) (.int .i64 0)).run Try.prog W = .ok (.agg (rfA D.f0)) W := by kernel_rfl
theorem ix_f1 (D : RD) (W : World) : (Instr.index 31 (.agg (arrF D).toArray) (.int .i64 1)).run Try.prog W = .ok (.agg (rfA D.f1)) W := by kernel_rfl
theorem ix_f2 (D : RD) (W : World) : (Instr.index 31 (.agg (arrF D).toArray) (.int .i64 2)).run Try.prog W = .ok (.agg (rfA D.f2)) W := by kernel_rfl
theorem ix_f3 (D : RD) (W : World) : (Instr.index 31 (.agg (arrF D).toArray) (.int .i64 3)).run Try.prog W = .ok (.agg (rfA D.f3)) W := by kernel_rfl
theorem ix_file (D : RD) (k : Nat) (hk : k < 4) (W : World) : (Instr.index 31 (.agg (arrF D).toArray) (.int .i64 k)).run Try.prog W = .ok (.agg (rfA (D.file k))) W := by
  have h : k = 0 ∨ k = 1 ∨ k = 2 ∨ k = 3 := by omega
  rcases h with rfl | rfl | rfl | rfl
  · exact ix_f0 D W
  · exact ix_f1 D W
  · exact ix_f2 D W
  · exact ix_f3 D W
theorem used_total {W : World} {N : Nat → Prop} {D : RD} {M : AD} (h : RefIs W N D M) : D.used 4 = M.total := by
  have hl : ∀ n : Nat, n < 4 → (D.file n).n + (D.file n).m = M.len (n : Int) := fun n hn => by
    have hF := h.file n hn
    have h1 := hF.syn.len
    have h2 := hF.loose.len
    rw [List.length_take] at h1
    rw [List.length_drop] at h2
    have := len_file M (n : Int)
    omega
  have h0 := hl 0 (by omega)
  have h1 := hl 1 (by omega)
  have h2 := hl 2 (by omega)
  have h3 := hl 3 (by omega)
  simp only [RD.file] at h0 h1 h2 h3
  unfold AD.total
  show D.f0.n + D.f0.m + (D.f1.n + D.f1.m) + (D.f2.n + D.f2.m) + (D.f3.n + D.f3.m) = _
  have e0 : ((0 : Nat) : Int) = 0 := rfl
  have e1 : ((1 : Nat) : Int) = 1 := rfl
  have e2 : ((2 : Nat) : Int) = 2 := rfl
  have e3 : ((3 : Nat) : Int) = 3 := rfl
  rw [e0] at h0
  rw [e1] at h1
  rw [e2] at h2
  rw [e3] at h3
  omega

set_option maxHeartbeats 2000000 in
theorem used_ref (D : RD) (w : World) (hb : D.used 4 ≤ 65536) : Calls Try.prog 78 #[.agg (rdA D)] w fun e w' => e = .returned (.int .i64 (D.used 4 : Nat)) ∧ Below w.heap.size w w' := by
  obtain ⟨W1, hW1⟩ : ∃ W1, W1 = w.alloc (.cells (rdA D) 33) := ⟨_, rfl⟩
  have hD : BoxR w w.heap.size D W1 := by rw [hW1]; exact BoxR.new w D
  have HW1 := Lib.hid hW1
  have HD := Lib.hid hD
  have HB := Lib.hid hb
  clear hW1 hD hb
  go_enter Try.func78, Try.ntmps78
  go_upto_region 1 with fail
  rw [← HW1.out]
  go_wp2_with (refine wpList_load_mid rfl 31 _ rfl _ 1 rfl (arrF D) _ HD.out.files Try.underlying31 rfl sizeA ?_)
  go_loopw [3, 8] (fun s i wr => ∃ k : Nat, k ≤ 4 ∧ i = .int .i64 k ∧ s = .int .i64 (D.used k : Nat) ∧ Hid (Below w.heap.size w wr)) (fun _ i _ => 4 - (intOf i).toNat)
  case atStart => exact ⟨0, by omega, rfl, rfl, Lib.hid HD.out.bel⟩
  case round =>
    obtain ⟨k, hk, rfl, rfl, HBw⟩ := hrel
    by_cases hlt : k < 4
    · have hk4 : k = 0 ∨ k = 1 ∨ k = 2 ∨ k = 3 := by omega
      have ix := fun W => ix_file D k hlt W
      have u4 := HB.out
      have hst : D.used (k + 1) = D.used k + ((D.file k).n + (D.file k).m) := by rcases hk4 with rfl | rfl | rfl | rfl <;> simp [RD.used, RD.file]
      have hle : D.used k + ((D.file k).n + (D.file k).m) ≤ 65536 := by
        rcases hk4 with rfl | rfl | rfl | rfl <;> simp only [RD.used, RD.file] at u4 ⊢ <;> omega
      have HST := Lib.hid hst
      clear hk4 hst u4
      generalize D.used k = uk at *
      generalize D.file k = Fk at *
      generalize (arrF D).toArray = AR at *
      have z1 : (k : Int) < 4 := by omega
      go_upto_region 5 with fail
      refine name_world (fun W => W.cell? ⟨wr.heap.size, 2, none⟩ = some (.slice Fk.A Fk.n Fk.c) ∧ W.cell? ⟨wr.heap.size, 3, none⟩ = some (.slice Fk.B Fk.m Fk.d) ∧ Below w.heap.size w W) (by
        have hx := heap_alloc_new wr (.cells (rfA Fk) 30)
        exact ⟨by simp only [World.cell?, hx]; rfl, by simp only [World.cell?, hx]; rfl, HBw.out.alloc HBw.out.size _⟩) ?_
      rintro W5 ⟨c2, c3, hb5⟩
      have HB5 := Lib.hid hb5
      clear hb5
      go_wp2
      go_round
      case rel => exact ⟨k + 1, by omega, by go_num, by rw [HST.out]; go_num, HB5⟩
      case measure => simp [intOf]; omega
    · obtain rfl : k = 4 := by omega
      go_wp2
      go_ret
      exact ⟨rfl, HBw.out⟩

end Go.Proofs.Ythpbgejjfdgpaaa
