/-
  The layer does something: wakes.
-/
import Derived.Test.YthbpnngfdpdjkaaCodBack
import Derived.Test.YthbpnngfdpdjkaaBytesApp
namespace Go.Proofs.Ythbpnngfdpdjkaa
open Go.RowKit Go.Shelf
set_option linter.unusedVariables false
set_option linter.unusedSimpArgs false
set_option maxRecDepth 100000

theorem right5 : right [5] = true := by decide
theorem made0 (w : World) (cs : Array Value) (t : TypeId) (h : cs = #[]) : (w.alloc (.cells cs t)).ownsRow w.heap.size t 1 (.slice (some ⟨w.heap.size, 0, none⟩) 0 0) 0 [] := by
  subst h
  exact ⟨rfl, .inr ⟨w.heap.size, 0, #[], rfl, Nat.le_refl _, heap_alloc_new w _, Nat.le_refl _, by simp [maxLen], rfl, rfl⟩⟩

theorem rd_one (w : World) (x : Int) (t : TypeId) : Rd (w.alloc (.cells #[.int .u8 x] t)) (w.alloc (.cells #[.int .u8 x] t)).heap.size (some ⟨w.heap.size, 0, none⟩) [x] := fun _ => ⟨w.heap.size, 0, rfl, by simp, fun j hj => by
  obtain rfl : j = 0 := by simpa using hj
  exact cell_laid _ _ _ 0⟩

set_option maxHeartbeats 2000000 in
theorem wakes_any (w : World) : Calls Try.prog 8 #[] w fun e w' => e = .returned (.bool true) ∧ Below w.heap.size w w' := by
  obtain ⟨P, hP⟩ : ∃ P, P = rowB 258 [5] := ⟨_, rfl⟩
  have hlen : P.length = 13 := by rw [hP]; unfold rowB; rw [List.length_append, numB_len, vecB_len]; rfl
  have HOct := Lib.hid (show Oct (P ++ [7]) from (by rw [hP]; exact (rowB_oct _ _).append (by intro b hb; simp at hb; omega)))
  have hb0 : Below w.heap.size w (w.alloc (.cells #[.int .i32 5] 21)) := (Below.refl _ w).alloc (Nat.le_refl _) _
  have HRow := Lib.hid (row_any 258 (some ⟨w.heap.size, 0, none⟩) 1 [5] (w.alloc (.cells #[.int .i32 5] 21)) (by decide) (vec_one (cell_laid _ _ _ 0) (by decide)))
  have e1 : rowO 258 [5] = P := by unfold rowO; rw [if_pos right5, hP]
  have e2 : rowE [5] = 0 := by unfold rowE; rw [if_pos right5]
  rw [e1, e2] at HRow
  simp only [List.length_singleton] at HRow
  have HT := Lib.hid (fun (A : Option Addr) (c : Nat) (V : World) (h : Sl V A c (P ++ [7])) => takeRow_any A c (P ++ [7]) V h HOct.out (by rw [List.length_append, hlen]; decide))
  have e3 : tkR (P ++ [7]) = (0, 13, 258, [5]) := by
    rw [tkR_eq _ HOct.out, hP, tr_back 258 [5] [7] right5 (by decide), ← hP, hlen]; rfl
  rw [e3] at HT
  have hlen2 : (P ++ [7]).length = 14 := by rw [List.length_append, hlen]; rfl
  simp only [hlen2] at HT
  have HL2 := Lib.hid hlen2
  have HL := Lib.hid hlen
  have HB0 := Lib.hid hb0
  clear hP e1 e2 e3 hb0
  go_enter Try.func8, Try.ntmps8
  go_wp2_with fail
  refine HRow.out.mono ?_
  rintro e w1 ⟨A1, c1, rfl, hs1, hb1⟩
  rw [HL.out]
  have HB1 := Lib.hid (HB0.out.trans (hb1.mono HB0.out.size))
  have hbA : Below w1.heap.size w1 (w1.alloc (.cells #[] 5)) := (Below.refl _ w1).alloc (Nat.le_refl _) _
  have HS1 := Lib.hid (hs1.below hbA)
  have HBA := Lib.hid hbA
  have HM := Lib.hid (made0 w1 #[] 5 rfl)
  clear hs1 hb1 hbA
  go_wp2_with (first
    | (at_builtin; refine app_b rfl (.tmp 13) (.tmp 14) rfl w1.heap.size (.slice (some ⟨w1.heap.size, 0, none⟩) 0 0) 0 [] rfl HM.out A1 c1 13 P rfl HL.out HS1.out.rd (by omega) (by simp) ?_; intro v2 w2 hown2 hg2; have hB2 : Below w1.heap.size w1 w2 := HBA.out.grown hg2 (by simp) (by intro k hk; simp [Value.ownBlock] at hk; omega); simp only [Nat.zero_add, List.nil_append] at hown2; obtain ⟨A2, c2, rfl, _, _⟩ := own_form hown2; have HO2 := Lib.hid (World.ownsRow.alloc hown2 (.cells #[.int .u8 7] 5)); have HB2 := Lib.hid hB2; have hbx2 : Below w2.heap.size w2 (w2.alloc (.cells #[.int .u8 7] 5)) := (Below.refl _ w2).alloc (Nat.le_refl _) _; have HB3 := Lib.hid (hB2.trans (hbx2.mono hB2.size)); have HR2 := Lib.hid (rd_one w2 7 5); clear hown2 hg2 hB2 hbx2)
    | (at_builtin; refine app_b rfl (.tmp 15) (.tmp 16) rfl w1.heap.size (.slice A2 13 c2) 13 (P.map (Value.int .u8)) rfl HO2.out (some ⟨w2.heap.size, 0, none⟩) 1 1 [7] rfl rfl HR2.out (by omega) HB3.out.size ?_; intro v3 w3 hown3 hg3; have hB3 : Below w1.heap.size w1 w3 := HB3.out.grown hg3 HB3.out.size (by intro k hk; exact (HO2.out.lt k hk).1); obtain ⟨A3, c3, rfl, hn3⟩ := new_of (bs := P ++ [7]) hown3 (by simp) (by rw [List.length_append, HL.out]; rfl); have HN3 := Lib.hid hn3.sl; have HB4 := Lib.hid hB3; have HT3 := Lib.hid (HT.out A3 c3 w3 hn3.sl); clear hown3 hg3 hB3 hn3))
  refine HT3.out.mono ?_
  rintro e w4 ⟨A4, c4, rfl, hv4, hb4⟩
  dsimp only at hv4 ⊢
  have HB5 := Lib.hid (HB1.out.trans ((HB4.out.trans (hb4.mono HB4.out.size)).mono HB1.out.size))
  obtain ⟨b, o, rfl, hb, hc⟩ := hv4.at_ (j := 0) (by decide)
  have hc1 : (w4.alloc (.cells #[.int .u64 258, .slice (some ⟨b, o, none⟩) 1 c4] 25)).cell? ⟨b, o, none⟩ = some (.int .i32 5) := (((Below.refl _ w4).alloc (Nat.le_refl _) _).cell (p := ⟨b, o, none⟩) hb).trans hc
  have hroom := hv4.room
  clear hv4 hb4 hc
  go_wp2
  go_ret
  exact ⟨rfl, HB5.out.alloc HB5.out.size _⟩

end Go.Proofs.Ythbpnngfdpdjkaa
