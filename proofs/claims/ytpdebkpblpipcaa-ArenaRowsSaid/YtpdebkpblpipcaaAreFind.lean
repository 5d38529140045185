/-
  slices.IndexFunc, slices.ContainsFunc and slices.EqualFunc at cells; every, Check, Same, isUsed.
-/
import Derived.Test.YtpdebkpblpipcaaAreAsk
import Derived.Test.YtpdebkpblpipcaaAreCmp
namespace Go.Proofs.Ytpdebkpblpipcaa
open Go.RowKit Go.Shelf
set_option linter.unusedVariables false
set_option linter.unusedSimpArgs false
set_option maxRecDepth 100000

/-- A function of cells that only reads. -/
def PredC (fid : FuncId) (cap : Array Value) (P : Ce → Bool) (w : World) : Prop := ∀ (p : Pa) (X : World), Below w.heap.size w X → Vec .i32 X p.B p.c p.e.x → Fit p.e →
  Calls Try.prog fid (#[.agg #[.bool p.e.u, .int .u64 p.e.i, .int .u64 p.e.b, .int .u64 p.e.f, .slice p.B p.e.x.length p.c]] ++ cap) X fun e w' => e = .returned (.bool (P p.e)) ∧ Below X.heap.size X w'
theorem PredC.below {fid : FuncId} {cap : Array Value} {P : Ce → Bool} {w w' : World} (h : PredC fid cap P w) (hb : Below w.heap.size w w') : PredC fid cap P w' :=
  fun p X hX hv hf => h p X (hb.trans (hX.mono hb.size)) hv hf

/-- None of the first k is so. -/
def NoneC (P : Ce → Bool) (l : List Ce) (k : Nat) : Prop := ∀ (j : Nat) (u : Ce), j < k → l[j]? = some u → P u = false
theorem NoneC.step {P : Ce → Bool} {l : List Ce} {k : Nat} {v : Ce} (h : NoneC P l k) (hk : l[k]? = some v) (hv : P v = false) : NoneC P l (k + 1) := by
  intro j u hj hu
  by_cases e : j = k
  · subst e; rw [hk] at hu; cases hu; exact hv
  · exact h j u (by omega) hu
theorem NoneC.all {P : Ce → Bool} {l : List Ce} (h : NoneC P l l.length) : l.findIdx? P = none :=
  idx_no fun j u hu => h j u (List.getElem?_eq_some_iff.1 hu).1 hu

set_option maxHeartbeats 1000000 in
theorem indexC_any (A : Option Addr) (c : Nat) (q : List Pa) (fid : FuncId) (cap : Array Value) (P : Ce → Bool) (w : World) (h : Are w A c q)
    (hen : ∀ v W, (callFunc fid (#[v] ++ cap)).run Try.prog W = .ok (.enter fid (#[v] ++ cap)) W) (hp : PredC fid cap P w) :
    Calls Try.prog 45 #[.slice A q.length c, .func (.func fid) #[] cap] w fun e w' => e = .returned (.int .i64 (idxK ((ces q).findIdx? P))) ∧ Below w.heap.size w w' := by
  obtain ⟨n, hn⟩ : ∃ n, n = q.length := ⟨_, rfl⟩
  have hmn : n ≤ 9223372036854775807 := by rw [hn]; exact h.many
  have HQ := Lib.hid h
  have HN := Lib.hid hn
  have HPr := Lib.hid hp
  generalize hR : idxK ((ces q).findIdx? P) = R at *
  have HR := Lib.hid hR
  rw [← hn]
  clear h hn hp hR
  go_enter Try.func45, Try.ntmps45
  go_wp2
  go_loopw [8] (fun i wr => ∃ k : Nat, k ≤ n ∧ i = .int .i64 k ∧ Hid (NoneC P (ces q) k) ∧ Hid (Below w.heap.size w wr)) (fun i _ => n - (intOf i).toNat)
  case atStart => exact ⟨0, Nat.zero_le _, rfl, Lib.hid (fun j u hj => by omega), Lib.hid (Below.refl _ _)⟩
  case round =>
    obtain ⟨k, hk, rfl, HK, HB⟩ := hrel
    by_cases hkn : k < n
    · obtain ⟨b, o, p, rfl, hp, hb, c0, c1, c2, c3, c4, hv, hf⟩ := (HQ.out.below HB.out).at_ (i := k) (by rw [← HN.out]; exact hkn)
      have HP := Lib.hid (ces_at hp)
      have k0 : (0 : Int) ≤ k := by omega
      have kn : (k : Int) < n := by omega
      have HV := Lib.hid (HPr.out p wr HB.out hv hf)
      clear hv hp hf
      cases hvis : P p.e with
      | true =>
        have HF := Lib.hid (show R = k by rw [← HR.out, idx_at HP.out hvis HK.out]; rfl)
        rw [hvis] at HV
        clear hvis
        go_wp2_with fail
        refine HV.out.mono ?_
        rintro e w1 ⟨rfl, hb1⟩
        have HB1 := Lib.hid (HB.out.trans (hb1.mono HB.out.size))
        clear hb1
        go_wp2
        go_ret
        rw [HF.out]
        exact ⟨rfl, HB1.out⟩
      | false =>
        have HK2 := Lib.hid (HK.out.step HP.out hvis)
        rw [hvis] at HV
        clear hvis
        go_wp2_with fail
        refine HV.out.mono ?_
        rintro e w1 ⟨rfl, hb1⟩
        have HB1 := Lib.hid (HB.out.trans (hb1.mono HB.out.size))
        clear hb1
        go_wp2
        go_roundw
        case rel => exact ⟨k + 1, by omega, by go_num, HK2, HB1⟩
        case measure => simp [intOf]; omega
    · obtain rfl : k = n := by omega
      have HF := Lib.hid (show R = -1 by rw [← HR.out, NoneC.all (l := ces q) (P := P) (by rw [ces_length, ← HN.out]; exact HK.out)]; rfl)
      go_wp2
      go_ret
      rw [HF.out]
      exact ⟨rfl, HB.out⟩

theorem idx_ge {α : Type} (l : List α) (P : α → Bool) : decide (0 ≤ idxK (l.findIdx? P)) = l.any P := by
  cases h : l.findIdx? P with
  | none =>
    rw [List.findIdx?_eq_none_iff] at h
    have : l.any P = false := by rw [List.any_eq_false]; intro x hx; rw [h x hx]; simp
    rw [this]; rfl
  | some i =>
    rw [List.findIdx?_eq_some_iff_getElem] at h
    obtain ⟨hi, hp, _⟩ := h
    have : l.any P = true := List.any_eq_true.2 ⟨_, List.getElem_mem hi, hp⟩
    rw [this]; simp [idxK]
theorem containsC_any (A : Option Addr) (c : Nat) (q : List Pa) (fid : FuncId) (cap : Array Value) (P : Ce → Bool) (w : World) (h : Are w A c q)
    (hen : ∀ v W, (callFunc fid (#[v] ++ cap)).run Try.prog W = .ok (.enter fid (#[v] ++ cap)) W) (hp : PredC fid cap P w) :
    Calls Try.prog 52 #[.slice A q.length c, .func (.func fid) #[] cap] w fun e w' => e = .returned (.bool ((ces q).any P)) ∧ Below w.heap.size w w' := by
  have HC := Lib.hid (indexC_any A c q fid cap P w h hen hp)
  have HR := Lib.hid (idx_ge (ces q) P)
  generalize (ces q).any P = R at *
  generalize idxK ((ces q).findIdx? P) = K at *
  generalize q.length = n at *
  clear h hen hp
  go_enter Try.func52, Try.ntmps52
  go_wp2_with fail
  refine HC.out.mono ?_
  rintro e w1 ⟨rfl, hb1⟩
  have HB1 := Lib.hid hb1
  clear hb1
  go_wp2
  go_ret
  rw [HR.out]
  exact ⟨rfl, HB1.out⟩

theorem every1_any (p : Pa) (g : Nat) (fid : FuncId) (P : Ce → Bool) (w : World) (hg : w.cell? ⟨g, 0, none⟩ = some (.func (.func fid) #[] #[])) (hv : Vec .i32 w p.B p.c p.e.x) (hf : Fit p.e)
    (hen : ∀ v W, (callFunc fid #[v]).run Try.prog W = .ok (.enter fid #[v]) W) (hp : PredC fid #[] P w) :
    Calls Try.prog 53 #[.agg #[.bool p.e.u, .int .u64 p.e.i, .int .u64 p.e.b, .int .u64 p.e.f, .slice p.B p.e.x.length p.c], .pointer (some ⟨g, 0, none⟩)] w fun y w' => y = .returned (.bool (!P p.e)) ∧ Below w.heap.size w w' := by
  have hB := cel_alloc w p.e.u p.e.i p.e.b p.e.f p.B p.e.x.length p.c
  have hg2 : (w.alloc (.cells #[.bool p.e.u, .int .u64 p.e.i, .int .u64 p.e.b, .int .u64 p.e.f, .slice p.B p.e.x.length p.c] 45)).cell? ⟨g, 0, none⟩ = some _ := (hB.cell (p := ⟨g, 0, none⟩) (World.block_lt_of_cell? w _ hg)).trans hg
  have hne : g ≠ w.heap.size := by have := World.block_lt_of_cell? w _ hg; simp at this; omega
  have HC := Lib.hid (hp p _ hB (hv.below hB) hf)
  rw [Array.append_empty] at HC
  have HB := Lib.hid hB
  generalize P p.e = R at *
  clear hB hp hv hf hg
  go_enter Try.func53, Try.ntmps53
  go_wp2_with fail
  refine HC.out.mono ?_
  rintro e w1 ⟨rfl, hb1⟩
  have HB1 := Lib.hid (HB.out.trans (hb1.mono HB.out.size))
  clear hb1
  go_wp2
  go_ret
  exact ⟨rfl, HB1.out⟩
theorem any_not {α : Type} (l : List α) (P : α → Bool) : (!l.any fun e => !P e) = l.all P := by
  induction l with
  | nil => rfl
  | cons a l ih => simp only [List.any_cons, List.all_cons, ← ih]; cases P a <;> simp
theorem everyC_any (A : Option Addr) (c : Nat) (q : List Pa) (fid : FuncId) (P : Ce → Bool) (w : World) (h : Are w A c q)
    (hen : ∀ v W, (callFunc fid #[v]).run Try.prog W = .ok (.enter fid #[v]) W) (hp : PredC fid #[] P w) :
    Calls Try.prog 31 #[.slice A q.length c, .func (.func fid) #[] #[]] w fun e w' => e = .returned (.bool ((ces q).all P)) ∧ Below w.heap.size w w' := by
  obtain ⟨W, hW⟩ : ∃ W, W = w.alloc (.cells #[.func (.func fid) #[] #[]] 50) := ⟨_, rfl⟩
  have hb : Below w.heap.size w W := by rw [hW]; exact (Below.refl _ w).alloc (Nat.le_refl _) _
  have hx : W.cell? ⟨w.heap.size, 0, none⟩ = some (.func (.func fid) #[] #[]) := by rw [hW]; exact cell_laid _ _ _ 0
  have HC := Lib.hid (containsC_any A c q 53 #[.pointer (some ⟨w.heap.size, 0, none⟩)] (fun e => !P e) W (h.below hb) (fun v X => enters_of Try.func53 (by kernel_rfl) rfl _ X)
    (fun p X hX hv hf => every1_any p w.heap.size fid P X ((hX.cell (p := ⟨w.heap.size, 0, none⟩) (World.block_lt_of_cell? W _ hx)).trans hx) hv hf hen (hp.below (hb.trans (hX.mono hb.size)))))
  have HB := Lib.hid hb
  have HR := Lib.hid (any_not (ces q) P)
  rw [hW] at HC
  have HW := Lib.hid hW
  generalize (ces q).all P = R at *
  generalize (ces q).any (fun e => !P e) = S at *
  generalize q.length = n at *
  clear h hen hp hb hx hW
  go_enter Try.func31, Try.ntmps31
  go_wp2_with fail
  refine HC.out.mono ?_
  rw [← HW.out]
  rintro e w1 ⟨rfl, hb1⟩
  have HB1 := Lib.hid (HB.out.trans (hb1.mono HB.out.size))
  clear hb1
  go_wp2
  go_ret
  rw [HR.out]
  exact ⟨rfl, HB1.out⟩

theorem pred_may (w : World) : PredC 32 #[] mayE w := fun p X _ hv _ => mayCell_any p X hv
theorem pred_sound (w : World) : PredC 42 #[] soundE w := fun p X _ hv _ => isSound_any p X hv
theorem enter_may (v : Value) (W : World) : (callFunc 32 #[v]).run Try.prog W = .ok (.enter 32 #[v]) W := enters_of Try.func32 (by kernel_rfl) rfl _ W
theorem enter_sound (v : Value) (W : World) : (callFunc 42 #[v]).run Try.prog W = .ok (.enter 42 #[v]) W := enters_of Try.func42 (by kernel_rfl) rfl _ W

theorem checkA_any (A : Option Addr) (c : Nat) (q : List Pa) (w : World) (h : Are w A c q) :
    Calls Try.prog 10 #[.agg #[.slice A q.length c]] w fun e w' => e = .returned (.int .i64 (chkA (ces q))) ∧ Below w.heap.size w w' := by
  have hb : Below w.heap.size w (w.alloc (.cells #[.slice A q.length c] 24)) := (Below.refl _ w).alloc (Nat.le_refl _) _
  have HC := Lib.hid (everyC_any A c q 32 mayE _ (h.below hb) enter_may (pred_may _))
  have HB := Lib.hid hb
  have HR := Lib.hid (show chkA (ces q) = if (decide (q.length = 96) && (ces q).all mayE) = true then 0 else 190 from by unfold chkA arB; rw [ces_length])
  generalize chkA (ces q) = R at *
  generalize (ces q).all mayE = S at *
  generalize q.length = n at *
  clear h hb
  by_cases h96 : n = 96
  · cases S with
    | true =>
      have HF := Lib.hid (show R = 0 by rw [HR.out]; simp [h96])
      have t1 : ((n : Int) != 96) = false := by simp; omega
      clear HR h96
      go_enter Try.func10, Try.ntmps10
      go_wp2_with fail
      refine HC.out.mono ?_
      rintro e w1 ⟨rfl, hb1⟩
      have HB1 := Lib.hid (HB.out.trans (hb1.mono HB.out.size))
      clear hb1
      go_wp2
      go_ret
      rw [HF.out]
      exact ⟨rfl, HB1.out⟩
    | false =>
      have HF := Lib.hid (show R = 190 by rw [HR.out]; simp)
      have t1 : ((n : Int) != 96) = false := by simp; omega
      clear HR h96
      go_enter Try.func10, Try.ntmps10
      go_wp2_with fail
      refine HC.out.mono ?_
      rintro e w1 ⟨rfl, hb1⟩
      have HB1 := Lib.hid (HB.out.trans (hb1.mono HB.out.size))
      clear hb1
      go_wp2
      go_ret
      rw [HF.out]
      exact ⟨rfl, HB1.out⟩
  · have HF := Lib.hid (show R = 190 by rw [HR.out]; simp [h96])
    have t1 : ((n : Int) != 96) = true := by simp; omega
    clear HR h96
    go_enter Try.func10, Try.ntmps10
    go_wp2
    go_ret
    rw [HF.out]
    exact ⟨rfl, HB.out⟩

end Go.Proofs.Ytpdebkpblpipcaa
