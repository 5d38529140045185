/-
  slices.SortFunc, called by ordered.
-/
import Derived.Test.YtpdebkpblpipcaaAreSort
namespace Go.Proofs.Ytpdebkpblpipcaa
open Go.RowKit Go.Shelf
set_option linter.unusedVariables false
set_option linter.unusedSimpArgs false
set_option maxRecDepth 100000

def toF (s : List Nat) : Array (Fin 96) := (s.map fun (k : Nat) => Fin.ofNat 96 k).toArray
theorem toF_val {s : List Nat} (h : ∀ k ∈ s, k < 96) : (toF s).toList.map (fun x => x.val) = s := by
  unfold toF
  rw [List.map_map]
  conv => rhs; rw [← List.map_id s]
  refine List.map_congr_left fun k hk => ?_
  exact Nat.mod_eq_of_lt (h k hk)
theorem toF_size (s : List Nat) : (toF s).size = s.length := by simp [toF]

theorem sortS_any {base : Nat} {W W0 : World} {A : Option Addr} {c c0 g : Nat} {A0 : Option Addr} {q : List Pa} {s : List Nat} (ho : OwnS base W A c s) (hs : ∀ k ∈ s, k < 96) (hls : s.length ≤ 96) (h : Are W0 A0 c0 q) (hq : q.length = 96) (hb : Below W0.heap.size W0 W) (hB : W0.heap.size ≤ base)
    (hg : W.cell? ⟨g, 0, none⟩ = some (.slice A0 q.length c0)) (hgb : g < base) :
    Calls Try.prog 54 #[.slice A s.length c, .func (.func 55) #[] #[.pointer (some ⟨g, 0, none⟩)]] W fun e w' => e = .returned (.tuple #[]) ∧ OwnS base w' A c (ordL (ces q) s) ∧ Turn (fun i => blk A = some i) W w' := by
  by_cases h0 : s = []
  · subst h0
    have hcon := Go.Proofs.AnyF.slices_SortFunc_none (P := Try.prog) (ρ := sortIren) { sortI with } A c (.func (.func 55) #[] #[.pointer (some ⟨g, 0, none⟩)]) W
    refine Calls.mono hcon ?_
    rintro e w' ⟨rfl, rfl⟩
    exact ⟨rfl, by unfold ordL; simpa using ho, Turn.refl _ _⟩
  · obtain ⟨g1, rfl, hg1, hg2⟩ : ∃ g1, A = some ⟨g1, 0, none⟩ ∧ base ≤ g1 ∧ g1 < W.heap.size := by
      rcases ho.2 with ⟨e, hn⟩ | ⟨g1, cap, cur, e, hg, hh, _⟩
      · exact absurd (List.eq_nil_of_length_eq_zero hn) h0
      · injection e with e1; exact ⟨g1, e1, hg, lt_of_block hh⟩
    have hcmp : Go.Proofs.CmpLays1 Try.prog 55 #[.pointer (some ⟨g, 0, none⟩)] encF (cfF (ces q)) g1 0 (toF s).size W := by
      intro m os dk hdk x y
      have ht := sort_turn W g1 m dk os hg2
      have hb2 : Below W0.heap.size W0 (Go.Proofs.sortWorld encF W g1 0 m dk os) := hb.trans (ht.below hb.size (fun i hi => by omega))
      have hg3 : (Go.Proofs.sortWorld encF W g1 0 m dk os).cell? ⟨g, 0, none⟩ = some (.slice A0 q.length c0) :=
        (World.cell?_of_block (a := ⟨g, 0, none⟩) (ht.block g (World.block_lt_of_cell? W _ hg) (by omega))).trans hg
      exact ord1_any A0 c0 q g x.val y.val _ (h.below hb2) hg3 (by rw [hq]; exact x.isLt) (by rw [hq]; exact y.isLt)
    have hv := toF_val hs
    have hz := toF_size s
    have hcon := Go.Proofs.Any.slices_SortFunc_total (P := Try.prog) (ρ := sortIren) sortI encF (fun _ => rfl) (cfF (ces q)) (swoF (ces q)) 55 #[.pointer (some ⟨g, 0, none⟩)] g1 0 c (toF s) W
      (fun args w => enters_of Try.func55 (by kernel_rfl) rfl args w) hcmp (holdsF ho (toF s) hv) hg2 (by omega) (totF (ces q))
    rw [hz] at hcon
    refine Calls.mono hcon ?_
    rintro e w' ⟨rfl, n, os, rfl⟩
    refine ⟨rfl, ?_, (sort_turn W g1 n _ os hg2).mono (fun i hi => by subst hi; rfl)⟩
    have hm := merge_val (ces q) (toF s).toList
    have hl : (ordL (ces q) s).length = s.length := (ord_perm _ _).length_eq
    have hd : ((toF s).toList.mergeSort fun x y => !(Go.Proofs.ltOf (cfF (ces q))) y x).toArray.size = s.length := by
      rw [List.size_toArray, (List.mergeSort_perm _ _).length_eq, Array.length_toList, hz]
    have := sort_own (m := n) ho ((toF s).toList.mergeSort fun x y => !(Go.Proofs.ltOf (cfF (ces q))) y x).toArray hd os
    rw [hm, hv] at this
    exact this

end Go.Proofs.Ytpdebkpblpipcaa
