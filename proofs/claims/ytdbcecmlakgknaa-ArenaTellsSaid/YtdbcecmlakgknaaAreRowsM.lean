/-
  What follows of the cells by rows: packed, they are the same ones by rows.
-/
import Derived.Test.YtdbcecmlakgknaaMArf
import Derived.Test.YtdbcecmlakgknaaMAre
namespace Go.Proofs.Ytdbcecmlakgknaa
open Go.RowKit Go.Shelf
set_option linter.unusedVariables false
set_option linter.unusedSimpArgs false
set_option maxRecDepth 100000

theorem map_at (l : List Ce) : (List.range l.length).map (ceAt l) = l := by
  apply List.ext_getElem?
  intro k
  rw [List.getElem?_map]
  by_cases hk : k < l.length
  · rw [List.getElem?_range hk]; exact (at_ce hk).symm
  · rw [List.getElem?_eq_none (by simp; omega), List.getElem?_eq_none (by omega)]; rfl
theorem pick_used (l : List Ce) : (pickL l fun _ => true).map (ceAt l) = l.filter (·.u) := by
  unfold pickL
  conv => rhs; rw [← map_at l, List.filter_map]
  simp [Function.comp_def]
theorem rows_len (l : List Ce) : (rowsS l).length = usedN l := by
  rw [show (rowsS l).length = (pickL l fun _ => true).length from (ord_perm _ _).length_eq, ← List.length_map (f := ceAt l), pick_used]
  rfl
theorem rows_mem {l : List Ce} {k : Nat} (h : k ∈ rowsS l) : k < l.length ∧ (ceAt l k).u = true := by
  have h1 := (ord_perm l (pickL l fun _ => true)).mem_iff.1 h
  unfold pickL at h1
  rw [List.mem_filter] at h1
  exact ⟨List.mem_range.1 h1.1, by simpa using h1.2⟩
theorem rowsA_eq {l : List Ce} (hr : arB l = true) : rowsA l = (rowsS l).map (ceAt l) := by unfold rowsA; rw [if_pos hr]
theorem rows_sound {l : List Ce} (hr : arB l = true) : (rowsA l).all soundE = true := by
  rw [rowsA_eq hr, List.all_eq_true]
  intro e he
  obtain ⟨k, hk, rfl⟩ := List.mem_map.1 he
  obtain ⟨h1, h2⟩ := rows_mem hk
  exact may_used (arB_may hr _ (List.mem_of_getElem? (at_ce h1))) h2
theorem rowsA_len {l : List Ce} (hr : arB l = true) : (rowsA l).length = usedN l ∧ (rowsA l).length ≤ 96 ∧ freeA l = 96 - ((rowsA l).length : Int) := by
  have h1 : (rowsA l).length = usedN l := by rw [rowsA_eq hr, List.length_map, rows_len]
  have h2 := used_free l
  have h3 := arB_len hr
  refine ⟨h1, by omega, ?_⟩
  unfold freeA
  rw [if_pos hr]
  omega
theorem rows_pack {l : List Ce} (hr : arB l = true) : packE (rowsA l) = 0 ∧ packL (rowsA l) = padL (rowsA l) ∧ arB (padL (rowsA l)) = true := by
  have h1 : packE (rowsA l) = 0 := by
    unfold packE
    rw [if_neg (by have := (rowsA_len hr).2.1; omega), if_pos (rows_sound hr)]
  exact ⟨h1, by unfold packL; rw [if_pos h1], pad_right (rowsA_len hr).2.1 (rows_sound hr)⟩
theorem pad_at {R : List Ce} (h : R.all soundE = true) {k : Nat} (hk : k < R.length) : ceAt (padL R) k = ceAt R k := by
  rw [pad_all h]
  unfold ceAt List.getD
  rw [List.getElem?_append_left hk]
theorem pad_off {R : List Ce} (h : R.all soundE = true) {k : Nat} (hk : R.length ≤ k) : ceAt (padL R) k = zc := by
  rw [pad_all h]
  unfold ceAt List.getD
  rw [List.getElem?_append_right hk, List.getElem?_replicate]
  split <;> rfl
/-- Its cells stand in order. -/
def SrtC (R : List Ce) : Prop := R.Pairwise fun x y => x.i < y.i ∨ x.i = y.i ∧ x.b ≤ y.b
theorem srt_cells {l : List Ce} {s : List Nat} (h : Srt l s) : SrtC (s.map (ceAt l)) := by
  unfold SrtC
  rw [List.pairwise_map]
  exact List.Pairwise.imp (fun h => by unfold Ahd at h; omega) h
theorem rows_srt {l : List Ce} (hr : arB l = true) : SrtC (rowsA l) := by rw [rowsA_eq hr]; exact srt_cells (ord_srt l (pick_nodup l _))
theorem srt_at {R : List Ce} (h : SrtC R) {j k : Nat} (hj : j < k) (hk : k < R.length) : (ceAt R j).i < (ceAt R k).i ∨ (ceAt R j).i = (ceAt R k).i ∧ (ceAt R j).b ≤ (ceAt R k).b := by
  have := List.pairwise_iff_getElem.1 h j k (by omega) hk hj
  rw [show ceAt R j = R[j] by simp [ceAt, List.getD, show j < R.length by omega], show ceAt R k = R[k] by simp [ceAt, List.getD, hk]]
  exact this
theorem pick_pad {R : List Ce} (h : R.all soundE = true) (hl : R.length ≤ 96) : pickL (padL R) (fun _ => true) = List.range R.length := by
  unfold pickL
  rw [pad_length hl, show (96 : Nat) = R.length + (96 - R.length) by omega, List.range_add, List.filter_append]
  rw [List.filter_eq_self.2 (fun k hk => by
    have hk := List.mem_range.1 hk
    rw [pad_at h hk, Bool.and_true]
    exact sound_used (List.all_eq_true.1 h _ (List.mem_of_getElem? (at_ce hk))))]
  rw [List.filter_eq_nil_iff.2 (fun k hk => by
    obtain ⟨j, _, rfl⟩ := List.mem_map.1 hk
    rw [pad_off h (by omega)]; decide), List.append_nil]
theorem rows_same {l : List Ce} (hr : arB l = true) : rowsA (padL (rowsA l)) = rowsA l := by
  have hs := rows_sound hr
  have hl := (rowsA_len hr).2.1
  have ht := rows_srt hr
  have hp := (rows_pack hr).2.2
  generalize rowsA l = R at *
  rw [rowsA_eq hp]
  have : rowsS (padL R) = List.range R.length := by
    unfold rowsS ordS
    rw [pick_pad hs hl]
    refine ord_of (List.Perm.refl _) ?_ List.nodup_range
    unfold Srt
    rw [List.pairwise_iff_getElem]
    intro i j hi hj hij
    rw [List.length_range] at hi hj
    rw [List.getElem_range, List.getElem_range]
    unfold Ahd
    rw [pad_at hs hi, pad_at hs hj]
    have := srt_at ht hij hj
    omega
  rw [this]
  conv => rhs; rw [← map_at R]
  exact List.map_congr_left fun k hk => pad_at hs (List.mem_range.1 hk)
theorem pad_freeA {l : List Ce} (hr : arB l = true) : freeA (padL (rowsA l)) = freeA l := by
  have h := rowsA_len (rows_pack hr).2.2
  rw [rows_same hr] at h
  rw [h.2.2, (rowsA_len hr).2.2]

end Go.Proofs.Ytdbcecmlakgknaa
