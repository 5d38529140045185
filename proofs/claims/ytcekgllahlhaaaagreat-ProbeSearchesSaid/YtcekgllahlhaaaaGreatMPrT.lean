/-
  PrbSM, PrbSR, PrbLawA, PrbLawL, PrbLawS.
-/
import Derived.Test.YtcekgllahlhaaaaGreatMPrS
import Derived.Test.YtcekgllahlhaaaaGreatMPrC
import Derived.Test.YtcekgllahlhaaaaGreatMAre
import Derived.Test.YtcekgllahlhaaaaGreatMFla
import Derived.Test.YtcekgllahlhaaaaGreatMPrB
import Derived.Test.YtcekgllahlhaaaaGreatMPrF
import Derived.Test.YtcekgllahlhaaaaGreatMLis
namespace Go.Proofs.YtcekgllahlhaaaaGreat
open Go.RowKit Go.Shelf
open TopL (HitM firstM isKM flat)
open MskL (Mk mk has hasB mv Fine has_mk mk_fine rightM)
set_option linter.unusedVariables false
set_option linter.unusedSimpArgs false

/-- The cell k is looked at. -/
def skB (M : List Mk) (l : List Ce) (S : List Nat) (t : Int) (k : Nat) : Bool := visB (ceAt l k).b (ceAt l k).f t && decide (whereK M (k : Int) ∈ S.map fun z : Nat => (z : Int))
theorem ap_meet {M : List Mk} {C : List (List Int)} (h : okB C M = true) {i j : Nat} (hi : i < M.length) (hj : j < M.length) (hne : i ≠ j) {s : Nat} (h1 : has (M.getD i mz) s = true) (h2 : has (M.getD j mz) s = true) : False := by
  have hap := (okB_iff h).2.2.2
  unfold apTo at hap
  rw [List.all_eq_true] at hap
  have key : ∀ a b, b < a → a < M.length → has (M.getD a mz) s = true → has (M.getD b mz) s = true → False := by
    intro a b hba ha ha1 hb1
    have h3 := hap a (List.mem_range.2 ha)
    rw [Bool.and_eq_true, List.all_eq_true] at h3
    have h4 := h3.2 b (List.mem_range.2 hba)
    have h5 : meet (M.getD a mz) (M.getD b mz) = true := (meet_iff _ _).2 ⟨s, ha1, hb1⟩
    rw [h5] at h4
    cases h4
  rcases Nat.lt_or_gt_of_ne hne with h | h
  · exact key j i h hj h2 h1
  · exact key i j h hi h1 h2
theorem has_mz (s : Nat) : has mz s = false := by unfold has mz; split <;> simp
theorem hasB_nat (m : Mk) {k : Nat} (hk : k < 96) : hasB m (k : Int) = has m k := by
  have h : MskL.slotB (k : Int) = true := by unfold MskL.slotB; simp; omega
  unfold hasB
  rw [h, Int.toNat_natCast, Bool.true_and]
theorem look_same {C : List (List Int)} {M : List Mk} {l : List Ce} {S : List Nat} {t : Int} (hok : okB C M = true) {k : Nat} (hk : k < 96) (hu : (ceAt l k).u = true) : hasB (lookM M l (S.map fun z : Nat => (z : Int)) t) (k : Int) = skB M l S t k := by
  rw [hasB_nat _ hk]
  unfold lookM skB visM
  rw [has_mk, has_mk]
  simp only [hk, decide_true, Bool.true_and, hu]
  have e1 : has (unionM M (S.map fun z : Nat => (z : Int))) k = decide (whereK M (k : Int) ∈ S.map fun z : Nat => (z : Int)) := by
    unfold unionM
    rw [has_mk]
    simp only [hk, decide_true, Bool.true_and]
    rw [Bool.eq_iff_iff, List.any_eq_true, decide_eq_true_iff]
    constructor
    · rintro ⟨p, hp, hh⟩
      obtain ⟨z, hz, rfl⟩ := List.mem_map.1 hp
      rw [Int.toNat_natCast] at hh
      have hzl : z < M.length := by
        rcases Nat.lt_or_ge z M.length with h | h
        · exact h
        · rw [List.getD, List.getElem?_eq_none h] at hh
          simp only [Option.getD_none] at hh
          rw [has_mz] at hh
          cases hh
      have hw : whereK M (k : Int) = (z : Int) := by
        unfold whereK
        cases hf : M.findIdx? (fun m => hasB m (k : Int)) with
        | none =>
          rw [List.findIdx?_eq_none_iff] at hf
          have := hf _ (List.getElem_mem hzl)
          rw [hasB_nat _ hk] at this
          rw [List.getD, List.getElem?_eq_getElem hzl] at hh
          simp only [Option.getD_some] at hh
          rw [hh] at this
          cases this
        | some i =>
          rw [List.findIdx?_eq_some_iff_getElem] at hf
          obtain ⟨hi, hp2, _⟩ := hf
          rw [hasB_nat _ hk] at hp2
          have h2 : has (M.getD i mz) k = true := by rw [List.getD, List.getElem?_eq_getElem hi]; exact hp2
          by_cases e : i = z
          · rw [e]; rfl
          · exact (ap_meet hok hi hzl e h2 hh).elim
      rw [hw]
      exact hp
    · intro hp
      obtain ⟨z, hz, e⟩ := List.mem_map.1 hp
      refine ⟨(z : Int), List.mem_map.2 ⟨z, hz, rfl⟩, ?_⟩
      unfold whereK at e
      cases hf : M.findIdx? (fun m => hasB m (k : Int)) with
      | none => rw [hf] at e; exfalso; have : (z : Int) = -1 := e; omega
      | some i =>
        rw [hf] at e
        have ez : z = i := by have : (z : Int) = (i : Int) := e; omega
        rw [List.findIdx?_eq_some_iff_getElem] at hf
        obtain ⟨hi, hp2, _⟩ := hf
        rw [hasB_nat _ hk] at hp2
        rw [ez, Int.toNat_natCast, List.getD, List.getElem?_eq_getElem hi]
        exact hp2
  rw [e1, Bool.and_comm]
theorem inK_used {f g : Nat → Bool} {l : List Ce} : ∀ k, (∀ j, j < k → (ceAt l j).u = true → f j = g j) → inK f l k = inK g l k := by
  intro k
  induction k with
  | zero => intro _; rfl
  | succ k ih =>
    intro h
    show inK f l k ++ _ = inK g l k ++ _
    rw [ih (fun j hj => h j (by omega))]
    congr 1
    cases hu : (ceAt l k).u with
    | false => rfl
    | true => rw [h k (by omega) hu]
theorem look_rows {C : List (List Int)} {M : List Mk} {l : List Ce} {S : List Nat} {t : Int} (hok : okB C M = true) (hl : l.length = 96) : inK (fun k : Nat => hasB (lookM M l (S.map fun z : Nat => (z : Int)) t) (k : Int)) l l.length = inK (skB M l S t) l l.length :=
  inK_used _ (fun j hj hu => look_same hok (by omega) hu)
end Go.Proofs.YtcekgllahlhaaaaGreat

namespace Go.Proofs.YtcekgllahlhaaaaGreat
open Go.RowKit Go.Shelf
open TopL (HitM firstM isKM flat)
open MskL (Mk mk has hasB mv Fine has_mk mk_fine rightM)
set_option linter.unusedVariables false
set_option linter.unusedSimpArgs false
set_option maxRecDepth 100000

theorem sel_right {f : Nat → Bool} {q : List Pa} (h : arB (ces q) = true) : ∀ k, k ≤ q.length → rightR (rvs ((selI f q k).map toPr)) = true := by
  intro k hk
  rw [selI_rvs f q k hk]
  exact inK_right h k (by rw [ces_length]; exact hk)

set_option maxHeartbeats 16000000 in
theorem rSearch_any (Aa : Option Addr) (ca : Nat) (qa : List Pa) (A : Option Addr) (c : Nat) (C : List (List Int)) (B : Option Addr) (d : Nat) (M : List Mk) (Av : Option Addr) (cv : Nat) (v : List Int) (kq ts N : Int) (w : World) (ha : Are w Aa ca qa) (hl : Lis w A c C B d M) (hv : Vec .i32 w Av cv v) (hqa : qa.length ≤ 100000) :
    Calls Tryz.prog 19 #[.agg #[.slice Aa qa.length ca], lv A c C.length B d M.length, pv Av v.length cv kq ts N] w (GivesHE w (srL kq ts N v C M (ces qa)) (srE kq ts N v C M (ces qa))) := by
  obtain ⟨g, hg⟩ : ∃ g, g = w.heap.size := ⟨_, rfl⟩
  obtain ⟨na, hna⟩ : ∃ n, n = qa.length := ⟨_, rfl⟩
  obtain ⟨n, hn⟩ : ∃ n, n = C.length := ⟨_, rfl⟩
  obtain ⟨m, hm⟩ : ∃ n, n = M.length := ⟨_, rfl⟩
  obtain ⟨nv, hnv⟩ : ∃ n, n = v.length := ⟨_, rfl⟩
  obtain ⟨W0, hW0⟩ : ∃ W0, W0 = ((w.alloc (.cells #[.slice Aa na ca] 36)).alloc (.cells #[.slice A n c, .slice B m d] 39)).alloc (.cells #[.slice Av nv cv, .int .i64 kq, .int .u64 ts, .int .i64 N] 47) := ⟨_, rfl⟩
  have hb0 : Below w.heap.size w W0 := by rw [hW0]; exact (((Below.refl _ w).alloc (Nat.le_refl _) _).alloc (by simp) _).alloc (by simp; omega) _
  have hx0 : W0.cell? ⟨g, 0, none⟩ = some (.slice Aa na ca) := by
    have h1 : (w.alloc (.cells #[.slice Aa na ca] 36)).cell? ⟨w.heap.size, 0, none⟩ = some (.slice Aa na ca) := cell_laid _ _ _ 0
    have h2 := ((Below.refl _ (w.alloc (.cells #[.slice Aa na ca] 36))).alloc (Nat.le_refl _) (.cells #[.slice A n c, .slice B m d] 39)).cell (World.block_lt_of_cell? _ _ h1)
    have h3 := ((Below.refl _ _).alloc (Nat.le_refl _) (.cells #[.slice Av nv cv, .int .i64 kq, .int .u64 ts, .int .i64 N] 47)).cell (World.block_lt_of_cell? _ _ (h2.trans h1))
    rw [hW0, hg]
    exact h3.trans (h2.trans h1)
  have hx1 : W0.cell? ⟨g + 1, 0, none⟩ = some (.slice A n c) ∧ W0.cell? ⟨g + 1, 1, none⟩ = some (.slice B m d) := by
    have h0 : (w.alloc (.cells #[.slice Aa na ca] 36)).heap.size = g + 1 := by rw [World.size_alloc, hg]
    obtain ⟨h1, _⟩ := lbox (w.alloc (.cells #[.slice Aa na ca] 36)) A n c B m d
    rw [h0] at h1
    have hb := (Below.refl _ ((w.alloc (.cells #[.slice Aa na ca] 36)).alloc (.cells #[.slice A n c, .slice B m d] 39))).alloc (Nat.le_refl _) (.cells #[.slice Av nv cv, .int .i64 kq, .int .u64 ts, .int .i64 N] 47)
    rw [hW0]
    exact ⟨(hb.cell (World.block_lt_of_cell? _ _ h1.c0)).trans h1.c0, (hb.cell (World.block_lt_of_cell? _ _ h1.c1)).trans h1.c1⟩
  have hx2 : PBox W0 (g + 2) Av nv cv kq ts N := by
    have h0 : ((w.alloc (.cells #[.slice Aa na ca] 36)).alloc (.cells #[.slice A n c, .slice B m d] 39)).heap.size = g + 2 := by rw [World.size_alloc, World.size_alloc, hg]
    obtain ⟨h1, _⟩ := pbox ((w.alloc (.cells #[.slice Aa na ca] 36)).alloc (.cells #[.slice A n c, .slice B m d] 39)) Av nv cv kq ts N
    rw [h0, ← hW0] at h1
    exact h1
  have HX := Lib.hid (fun (X : World) (hX : Below W0.heap.size W0 X) => show X.cell? ⟨g, 0, none⟩ = some (.slice Aa na ca) ∧ X.cell? ⟨g + 1, 0, none⟩ = some (.slice A n c) ∧ X.cell? ⟨g + 1, 1, none⟩ = some (.slice B m d) from
    ⟨(hX.cell (World.block_lt_of_cell? _ _ hx0)).trans hx0, (hX.cell (World.block_lt_of_cell? _ _ hx1.1)).trans hx1.1, (hX.cell (World.block_lt_of_cell? _ _ hx1.2)).trans hx1.2⟩)
  have HP := Lib.hid (fun (X : World) (hX : Below W0.heap.size W0 X) => hx2.below hX hx2.lt)
  have HEr := Lib.hid (rErrP_any v Av cv kq ts N W0 (hv.below hb0))
  have HRl := Lib.hid (fun (X : World) (hX : Below W0.heap.size W0 X) => rRightL_any A c C B d M X ((hl.below hb0).below hX))
  have HRa := Lib.hid (fun (X : World) (hX : Below W0.heap.size W0 X) => rRightA_any Aa ca qa X ((ha.below hb0).below hX))
  have HCt := Lib.hid (fun (X : World) (hX : Below W0.heap.size W0 X) => rCent_any A Av c cv C v X ((hl.below hb0).below hX).cs ((hv.below hb0).below hX))
  have HNq := Lib.hid (fun (X : World) (hX : Below W0.heap.size W0 X) hvr hC h6 h0 h1 h2 => rNearQ_any A Av c cv C v N X ((hl.below hb0).below hX).cs ((hv.below hb0).below hX) hvr hC h6 h0 h1 h2)
  have HWh := Lib.hid (fun (X : World) (hX : Below W0.heap.size W0 X) (s : Int) hs => rWhereL_any A c C B d M s X ((hl.below hb0).below hX) hs)
  have HAr := Lib.hid (fun (X : World) (hX : Below W0.heap.size W0 X) => (ha.below hb0).below hX)
  have HFo := Lib.hid (fun (X : World) (hX : Below W0.heap.size W0 X) (A2 : Option Addr) (c2 : Nat) (q2 : List Pr) (h : Rws X A2 c2 q2) hrr hvr hk hq => found_any A2 c2 q2 v Av cv kq X h ((hv.below hb0).below hX) hrr hvr hk hq)
  have HE := Lib.hid (show srE kq ts N v C M (ces qa) = if rsE kq N v C M (ces qa) = 0 then (if dimC C = v.length then scanE kq (ces qa) (fun (k : Nat) => hasB (srM C M (ces qa) v ts N) (k : Int)) v else 151) else rsE kq N v C M (ces qa) from rfl)
  have HL := Lib.hid (show srL kq ts N v C M (ces qa) = if srE kq ts N v C M (ces qa) = 0 then scanL kq (ces qa) (fun (k : Nat) => hasB (srM C M (ces qa) v ts N) (k : Int)) v else [] from rfl)
  have HRs := Lib.hid (show rsE kq N v C M (ces qa) = if chkP kq N v = 0 then (if chkL C M = 0 then (if chkA (ces qa) = 0 then cenE C else chkA (ces qa)) else chkL C M) else chkP kq N v from rfl)
  have HOk := Lib.hid (fun (h : chkP kq N v = 0) => chkP_ok h)
  have HCs := Lib.hid (ctE_set (C := C) (v := v))
  have hrl : srE kq ts N v C M (ces qa) ≠ 0 → srL kq ts N v C M (ces qa) = [] := fun h => by rw [HL.out, if_neg h]
  generalize srL kq ts N v C M (ces qa) = RL at *
  generalize srE kq ts N v C M (ces qa) = R at *
  have HNil := Lib.hid hrl
  obtain ⟨E1, hE1⟩ : ∃ E, E = chkP kq N v := ⟨_, rfl⟩
  rw [← hE1] at HEr HOk HRs
  obtain ⟨CT, hCT⟩ : ∃ E, E = ctE C v := ⟨_, rfl⟩
  rw [← hCT] at HCt HCs
  rw [← hna, ← hn, ← hm, ← hnv]
  rw [← hn, ← hm] at HRl HWh
  rw [← hna] at HRa
  rw [← hn, ← hnv] at HCt
  rw [← hnv] at HEr HFo HE
  rw [← hna] at hqa
  have HN := Lib.hid hn
  have HNv := Lib.hid hnv
  have HNa := Lib.hid hna
  have HB0 := Lib.hid hb0
  have HW0 := Lib.hid hW0
  have HG := Lib.hid hg
  obtain ⟨x0, x1, x2, x3⟩ := hx2
  obtain ⟨u0, u1, u2⟩ := HX.out W0 (Below.refl _ _)
  clear ha hl hv hb0 hx0 hx1 hW0 hg hna hn hm hnv hE1 hCT hrl
  unfold lv pv at *
  by_cases h1 : E1 = 0
  · obtain ⟨hNB, hQ⟩ := HOk.out h1
    obtain ⟨hK, hvr⟩ := chkQ_ok hQ
    cases hok : okB C M with
    | false =>
      have hcl : chkL C M = 230 := by unfold chkL; rw [hok]; rfl
      have hF : R = 230 := by rw [HE.out, HRs.out, if_pos h1, hcl]; rfl
      have HF := Lib.hid (And.intro hF (HNil.out (by rw [hF]; decide)))
      rw [hok] at HRl
      subst h1
      clear hNB hQ hK hvr hok hcl hF
      go_enter Tryz.func19, Tryz.ntmps19
      go_wp2_with (rw [← HW0.out, ← HG.out])
      refine HEr.out.mono ?_
      rintro e w1 ⟨rfl, hb1⟩
      have HB1 := Lib.hid hb1
      obtain ⟨y0, y1, y2, y3⟩ := HP.out w1 hb1
      obtain ⟨v0, v1, v2⟩ := HX.out w1 hb1
      clear hb1 x0 x1 x2 x3 u0 u1 u2
      go_wp2_with fail
      refine (HRl.out w1 HB1.out).mono ?_
      rintro e w2 ⟨rfl, hb2⟩
      have HB2 := Lib.hid (HB1.out.trans (hb2.mono HB1.out.size))
      clear hb2
      go_wp2
      go_ret2
      rw [HF.out.1, HF.out.2]
      exact OwnH.nils (HB0.out.trans (HB2.out.mono HB0.out.size)) 230
    | true =>
      have hcl : chkL C M = 0 := by unfold chkL; rw [hok]; rfl
      cases har : arB (ces qa) with
      | false =>
        have hca : chkA (ces qa) = 190 := by unfold chkA; rw [har]; rfl
        have hF : R = 190 := by rw [HE.out, HRs.out, if_pos h1, if_pos hcl, hca]; rfl
        have HF := Lib.hid (And.intro hF (HNil.out (by rw [hF]; decide)))
        rw [hok] at HRl
        rw [har] at HRa
        subst h1
        clear hNB hQ hK hvr hok hcl hca hF har
        go_enter Tryz.func19, Tryz.ntmps19
        go_wp2_with (rw [← HW0.out, ← HG.out])
        refine HEr.out.mono ?_
        rintro e w1 ⟨rfl, hb1⟩
        have HB1 := Lib.hid hb1
        obtain ⟨y0, y1, y2, y3⟩ := HP.out w1 hb1
        obtain ⟨v0, v1, v2⟩ := HX.out w1 hb1
        clear hb1 x0 x1 x2 x3 u0 u1 u2
        go_wp2_with fail
        refine (HRl.out w1 HB1.out).mono ?_
        rintro e w2 ⟨rfl, hb2⟩
        have HB2 := Lib.hid (HB1.out.trans (hb2.mono HB1.out.size))
        clear hb2 y0 y1 y2 y3 v0 v1 v2
        obtain ⟨y0, y1, y2, y3⟩ := HP.out w2 HB2.out
        obtain ⟨v0, v1, v2⟩ := HX.out w2 HB2.out
        go_wp2_with fail
        refine (HRa.out w2 HB2.out).mono ?_
        rintro e w3 ⟨rfl, hb3⟩
        have HB3 := Lib.hid (HB2.out.trans (hb3.mono HB2.out.size))
        clear hb3
        go_wp2
        go_ret2
        rw [HF.out.1, HF.out.2]
        exact OwnH.nils (HB0.out.trans (HB3.out.mono HB0.out.size)) 190
      | true =>
        have hca : chkA (ces qa) = 0 := chkA_ok har
        by_cases h2 : CT = 0
        · have hcen : cenE C = 0 := by rcases HCs.out with h | h | h <;> first | exact h.1 | (exfalso; omega)
          have hdim : dimC C = nv := by
            rcases HCs.out with h | h | h
            · have h3 := h.2
              rw [h2] at h3
              unfold dimE at h3
              rw [HNv.out]
              split at h3
              · rename_i h4; exact h4
              · omega
            · omega
            · omega
          have hRs : R = scanE kq (ces qa) (fun (k : Nat) => hasB (srM C M (ces qa) v ts N) (k : Int)) v := by rw [HE.out, HRs.out, if_pos h1, if_pos hcl, if_pos hca, if_pos hcen, if_pos hdim]
          obtain ⟨c0, c6, call⟩ := cenE_ok hcen
          have hlen : (ces qa).length = 96 := arB_len har
          have hna96 : na = 96 := by rw [HNa.out, ← ces_length, hlen]
          have hlk := look_rows (S := askM C v N) (t := ts) hok hlen
          obtain ⟨S, hS⟩ : ∃ S, S = askM C v N := ⟨_, rfl⟩
          rw [← hS] at hlk
          have hsrm : srM C M (ces qa) v ts N = lookM M (ces qa) (S.map fun z : Nat => (z : Int)) ts := by unfold srM askI; rw [hS]
          have hRf : R = fnearE (inK (skB M (ces qa) S ts) (ces qa) (ces qa).length) v := by
            rw [hRs, hsrm]
            unfold scanE
            rw [if_pos hQ, if_pos hca, hlk]
          have hRLf : RL = nearL kq.toNat (inK (skB M (ces qa) S ts) (ces qa) (ces qa).length) v := by
            rw [HL.out]
            unfold scanL
            rw [← hRs, hsrm, hlk, nearL_E, ← hRf]
            split <;> rfl
          have HSb := Lib.hid (show ∀ z ∈ S, z < 6 from fun z hz => by rw [hS] at hz; have := asked_mem hz; omega)
          have hnq := fun (X : World) (hX : Below W0.heap.size W0 X) => HNq.out X hX hvr (fun x hx => by rw [← HNv.out, ← hdim]; exact call x hx) c6 c0 (nB_iff.1 hNB).1 (nB_iff.1 hNB).2
          rw [← HN.out, ← HNv.out, show askedP (farM C v) n N.toNat = S by rw [hS, HN.out]; rfl] at hnq
          have HNQ := Lib.hid hnq
          have HFin := Lib.hid (And.intro hRf (And.intro hRLf (And.intro har (And.intro hvr (And.intro hK hna96)))))
          rw [hok] at HRl
          rw [har] at HRa
          subst h1
          subst h2
          clear hNB hQ hK hvr hok hcl hca har hcen hdim hRs c0 c6 call hlen hlk hS hsrm hRf hRLf hnq hna96
          go_enter Tryz.func19, Tryz.ntmps19
          go_wp2_with (rw [← HW0.out, ← HG.out])
          refine HEr.out.mono ?_
          rintro e w1 ⟨rfl, hb1⟩
          have HB1 := Lib.hid hb1
          obtain ⟨y0, y1, y2, y3⟩ := HP.out w1 hb1
          obtain ⟨v0, v1, v2⟩ := HX.out w1 hb1
          clear hb1 x0 x1 x2 x3 u0 u1 u2
          go_wp2_with fail
          refine (HRl.out w1 HB1.out).mono ?_
          rintro e w2 ⟨rfl, hb2⟩
          have HB2 := Lib.hid (HB1.out.trans (hb2.mono HB1.out.size))
          clear hb2 y0 y1 y2 y3 v0 v1 v2
          obtain ⟨y0, y1, y2, y3⟩ := HP.out w2 HB2.out
          obtain ⟨v0, v1, v2⟩ := HX.out w2 HB2.out
          go_wp2_with fail
          refine (HRa.out w2 HB2.out).mono ?_
          rintro e w3 ⟨rfl, hb3⟩
          have HB3 := Lib.hid (HB2.out.trans (hb3.mono HB2.out.size))
          clear hb3 y0 y1 y2 y3 v0 v1 v2
          obtain ⟨y0, y1, y2, y3⟩ := HP.out w3 HB3.out
          obtain ⟨v0, v1, v2⟩ := HX.out w3 HB3.out
          go_wp2_with fail
          refine (HCt.out w3 HB3.out).mono ?_
          rintro e w4 ⟨rfl, hb4⟩
          have HB4 := Lib.hid (HB3.out.trans (hb4.mono HB3.out.size))
          obtain ⟨y0, y1, y2, y3⟩ := HP.out w4 HB4.out
          obtain ⟨v0, v1, v2⟩ := HX.out w4 HB4.out
          clear hb4
          go_wp2_with fail
          refine (HNQ.out w4 HB4.out).mono ?_
          rintro e w5 ⟨BS, dS, he, hos, hb5⟩
          obtain ⟨nS, hnS⟩ : ∃ z, z = S.length := ⟨_, rfl⟩
          rw [← hnS] at he
          subst he
          have HOs := Lib.hid (fun (X : World) (hX : Below w5.heap.size w5 X) => show Vec .i64 X BS dS (S.map fun (z : Nat) => (z : Int)) from (hos.below hX).vec (fun z hz => by have := HSb.out z hz; omega))
          have HNS := Lib.hid hnS
          have HB5 := Lib.hid (HB4.out.trans (hb5.mono HB4.out.size))
          obtain ⟨z0, z1, z2, z3⟩ := HP.out w5 HB5.out
          obtain ⟨t0, t1, t2⟩ := HX.out w5 HB5.out
          clear hos hb5 hnS y0 y1 y2 y3 v0 v1 v2
          go_wp2
          clear z0 z1 z2 z3 t0 t1 t2
          go_loopw [10, 47] (fun lv i wr => ∃ (j : Nat) (A1 : Option Addr) (c1 s1 : Nat), j ≤ na ∧ i = .int .i64 j ∧ lv = .slice A1 s1 c1 ∧ s1 ≤ j ∧ Hid (s1 = ((selI (skB M (ces qa) S ts) qa j).map toPr).length ∧ OwnR w5.heap.size wr A1 c1 ((selI (skB M (ces qa) S ts) qa j).map toPr)) ∧ Hid (Below w5.heap.size w5 wr)) (fun _ i _ => na - (intOf i).toNat)
          case atStart => exact ⟨0, none, 0, 0, Nat.zero_le _, rfl, rfl, Nat.le_refl _, Lib.hid ⟨rfl, World.ownsRow_nil _ _ _ _⟩, Lib.hid (Below.refl _ _)⟩
          case round =>
            obtain ⟨j, A1, c1, s1, hj, rfl, rfl, hs1, HO, HBw⟩ := hrel
            by_cases hjn : j < na
            · obtain ⟨b, o, p, rfl, hp, hb, d0, d1, d2, d3, d4, hvx, hfit⟩ := (HAr.out wr (HB5.out.trans (HBw.out.mono HB5.out.size))).at_ (i := j) (by rw [← HNa.out]; exact hjn)
              have hceq := ces_ceAt hp
              obtain ⟨xl, hxl⟩ : ∃ xl, xl = p.e.x.length := ⟨_, rfl⟩
              rw [← hxl] at d4
              obtain ⟨V, hV⟩ : ∃ V, V = wr.alloc (.cells #[.bool p.e.u, .int .u64 p.e.i, .int .u64 p.e.b, .int .u64 p.e.f, .slice p.B xl p.c] 90) := ⟨_, rfl⟩
              have hbV : Below wr.heap.size wr V := by rw [hV]; exact bn1 _ _
              have hx1 : V.heap[wr.heap.size]? = some (.cells #[.bool p.e.u, .int .u64 p.e.i, .int .u64 p.e.b, .int .u64 p.e.f, .slice p.B xl p.c] 90 (0, 0)) := by rw [hV]; exact heap_alloc_new _ _
              have HVc := Lib.hid (fun (X : World) (hX : Below V.heap.size V X) => show X.cell? ⟨wr.heap.size, 0, none⟩ = some (.bool p.e.u) ∧ X.cell? ⟨wr.heap.size, 1, none⟩ = some (.int .u64 p.e.i) ∧ X.cell? ⟨wr.heap.size, 2, none⟩ = some (.int .u64 p.e.b) ∧ X.cell? ⟨wr.heap.size, 3, none⟩ = some (.int .u64 p.e.f) ∧ X.cell? ⟨wr.heap.size, 4, none⟩ = some (.slice p.B xl p.c) from by
                have h := (hX.block _ (lt_of_block hx1)).trans hx1
                exact ⟨(cell_of_row _ _ 0 _ _ _ h).trans rfl, (cell_of_row _ _ 1 _ _ _ h).trans rfl, (cell_of_row _ _ 2 _ _ _ h).trans rfl, (cell_of_row _ _ 3 _ _ _ h).trans rfl, (cell_of_row _ _ 4 _ _ _ h).trans rfl⟩)
              have hBV := HBw.out.trans (hbV.mono HBw.out.size)
              have HBV := Lib.hid hBV
              have HbV := Lib.hid hbV
              have HVV := Lib.hid hV
              have HPp := Lib.hid hp
              have HXl := Lib.hid hxl
              have HPf := Lib.hid (show ∀ X, Below W0.heap.size W0 X → PBox X (g + 2) Av nv cv kq ts N from HP.out)
              have hBV0 := HB5.out.trans (hBV.mono HB5.out.size)
              have HBV0 := Lib.hid hBV0
              obtain ⟨z0, z1, z2, z3⟩ := HP.out V hBV0
              obtain ⟨q0, q1, q2, q3, q4⟩ := HVc.out V (Below.refl _ _)
              have k0 : (0 : Int) ≤ j := by omega
              have kn : (j : Int) < na := by omega
              have hsk : skB M (ces qa) S ts j = (visB p.e.b p.e.f ts && decide (whereK M (j : Int) ∈ S.map fun z : Nat => (z : Int))) := by unfold skB; rw [hceq]
              clear hb hvx hfit hxl hV hbV hx1 hBV hBV0 hceq
              cases hu : p.e.u with
              | false =>
                have HS1 := Lib.hid (selI_no (f := skB M (ces qa) S ts) hp (by rw [hu]; rfl))
                rw [hu] at HVV d0 q0
                have HO2 := Lib.hid (show s1 = ((selI (skB M (ces qa) S ts) qa (j + 1)).map toPr).length ∧ OwnR w5.heap.size V A1 c1 ((selI (skB M (ces qa) S ts) qa (j + 1)).map toPr) from by
                  rw [HS1.out]; exact ⟨HO.out.1, OwnR.below HO.out.2 HbV.out⟩)
                clear hu hp hsk
                go_wp2_with (rw [← HVV.out])
                go_roundw
                case rel => exact ⟨j + 1, A1, c1, s1, by omega, by go_num, rfl, by omega, by first | exact HO2 | (rw [← HVV.out]; exact HO2), by first | exact HBV | (rw [← HVV.out]; exact HBV)⟩
                case measure => simp [intOf]; omega
              | true =>
                rw [hu] at HVV d0 q0
                have HVi := Lib.hid (rVis_any p.e.b p.e.f ts p.B xl p.c V)
                cases hvi : visB p.e.b p.e.f ts with
                | false =>
                  rw [hvi] at hsk HVi
                  have HS1 := Lib.hid (selI_no (f := skB M (ces qa) S ts) hp (by rw [hu, hsk]; rfl))
                  clear hu hp hsk hvi
                  go_wp2_with (rw [← HVV.out])
                  refine HVi.out.mono ?_
                  rintro e w6 ⟨rfl, hb6⟩
                  have HB6 := Lib.hid (HBV.out.trans (hb6.mono HBV.out.size))
                  have HO2 := Lib.hid (show s1 = ((selI (skB M (ces qa) S ts) qa (j + 1)).map toPr).length ∧ OwnR w5.heap.size w6 A1 c1 ((selI (skB M (ces qa) S ts) qa (j + 1)).map toPr) from by
                    rw [HS1.out]; exact ⟨HO.out.1, OwnR.below HO.out.2 (HbV.out.trans (hb6.mono HbV.out.size))⟩)
                  clear hb6
                  go_wp2
                  go_roundw
                  case rel => exact ⟨j + 1, A1, c1, s1, by omega, by go_num, rfl, by omega, HO2, HB6⟩
                  case measure => simp [intOf]; omega
                | true =>
                  rw [hvi] at hsk HVi
                  rw [Bool.true_and] at hsk
                  have HWj := Lib.hid (fun (X : World) (hX : Below W0.heap.size W0 X) => HWh.out X hX (j : Int) ⟨by omega, by have := HFin.out.2.2.2.2.2; omega⟩)
                  have hha := fun (X : World) (hX : Below w5.heap.size w5 X) => rHasQ_any BS dS (S.map fun (z : Nat) => (z : Int)) (whereK M (j : Int)) X (HOs.out X hX)
                  rw [List.length_map, ← HNS.out, ← hsk] at hha
                  have HHA := Lib.hid hha
                  have HSk := Lib.hid (show (p.e.u && skB M (ces qa) S ts j) = skB M (ces qa) S ts j from by rw [hu, Bool.true_and])
                  have HPu := Lib.hid hu
                  generalize whereK M (j : Int) = wk at *
                  clear hha hvi hu hp hsk
                  go_wp2_with (rw [← HVV.out])
                  refine HVi.out.mono ?_
                  rintro e w6 ⟨rfl, hb6⟩
                  have hB6 := HBV0.out.trans (hb6.mono HBV0.out.size)
                  obtain ⟨r0, r1, r2⟩ := HX.out w6 hB6
                  have HB6 := Lib.hid (And.intro hb6 hB6)
                  clear hb6 hB6 z0 z1 z2 z3
                  go_wp2_with fail
                  refine (HWj.out w6 HB6.out.2).mono ?_
                  rintro e w7 ⟨rfl, hb7⟩
                  have hB7 := HB6.out.1.trans (hb7.mono HB6.out.1.size)
                  have HB7 := Lib.hid (And.intro hB7 (HBV.out.trans (hB7.mono HBV.out.size)))
                  clear hb7 hB7 r0 r1 r2
                  cases hsk : skB M (ces qa) S ts j with
                  | false =>
                    have HS1 := Lib.hid (selI_no (f := skB M (ces qa) S ts) HPp.out (by rw [HSk.out, hsk]))
                    rw [hsk] at HHA
                    clear hsk
                    go_wp2_with fail
                    refine (HHA.out w7 HB7.out.2).mono ?_
                    rintro e w8 ⟨rfl, hz⟩
                    have hb8 : Below w7.heap.size w7 w8 := by obtain ⟨z, hz⟩ := hz; rw [hz]; exact below_drewN (Below.refl _ _) z
                    have HB8 := Lib.hid (HB7.out.2.trans (hb8.mono HB7.out.2.size))
                    have HO2 := Lib.hid (show s1 = ((selI (skB M (ces qa) S ts) qa (j + 1)).map toPr).length ∧ OwnR w5.heap.size w8 A1 c1 ((selI (skB M (ces qa) S ts) qa (j + 1)).map toPr) from by
                      rw [HS1.out]; exact ⟨HO.out.1, OwnR.below HO.out.2 (HbV.out.trans ((HB7.out.1.trans (hb8.mono HB7.out.1.size)).mono HbV.out.size))⟩)
                    clear hz hb8
                    go_wp2
                    go_roundw
                    case rel => exact ⟨j + 1, A1, c1, s1, by omega, by go_num, rfl, by omega, HO2, HB8⟩
                    case measure => simp [intOf]; omega
                  | true =>
                    have HS1 := Lib.hid (selI_yes (f := skB M (ces qa) S ts) HPp.out HPu.out hsk)
                    rw [hsk] at HHA
                    clear hsk
                    go_wp2_with fail
                    refine (HHA.out w7 HB7.out.2).mono ?_
                    rintro e w8 ⟨rfl, hz⟩
                    have hb8 : Below w7.heap.size w7 w8 := by obtain ⟨z, hz⟩ := hz; rw [hz]; exact below_drewN (Below.refl _ _) z
                    have hB8 := HB7.out.1.trans (hb8.mono HB7.out.1.size)
                    have hB85 := HB7.out.2.trans (hb8.mono HB7.out.2.size)
                    obtain ⟨r0, r1, r2, r3, r4⟩ := HVc.out w8 hB8
                    have HBa := Lib.hid (hB85.alloc hB85.size (.cells #[.int .u64 p.e.i, .slice p.B xl p.c] 69))
                    have HR7 := Lib.hid (show Read (w8.alloc (.cells #[.int .u64 p.e.i, .slice p.B xl p.c] 69)) (some ⟨w8.heap.size, 0, none⟩) 1 2 [.int .u64 p.e.i, .slice p.B xl p.c] from Read.two rfl rfl (cell_laid _ _ _ 0) (cell_laid _ _ _ 1))
                    have HO7 := Lib.hid (show OwnR w5.heap.size (w8.alloc (.cells #[.int .u64 p.e.i, .slice p.B xl p.c] 69)) A1 c1 ((selI (skB M (ces qa) S ts) qa j).map toPr) from OwnR.below HO.out.2 ((HbV.out.trans (hB8.mono HbV.out.size)).alloc (Nat.le_trans HbV.out.size hB8.size) _))
                    clear hz hb8 hB8 hB85
                    go_wp2_with (at_builtin; refine gapp_at rfl (.tmp 68) (.tmp 75) appR rfl w5.heap.size A1 c1 s1 (flatR ((selI (skB M (ces qa) S ts) qa j).map toPr)) rfl (by have := HO7.out; unfold OwnR at this; rw [← HO.out.1] at this; exact this) (some ⟨w8.heap.size, 0, none⟩) 1 1 [.int .u64 p.e.i, .slice p.B xl p.c] rfl HR7.out (by omega) HBa.out.size ?_; intro A5 c5 w9 ho9 hg9 _; have HB9 := Lib.hid (HBa.out.grown hg9 HBa.out.size (fun i hi => (World.ownsRow.lt HO7.out i (by rw [own_blk]; exact hi)).1)); have HO9 := Lib.hid (show s1 + 1 = ((selI (skB M (ces qa) S ts) qa (j + 1)).map toPr).length ∧ OwnR w5.heap.size w9 A5 c5 ((selI (skB M (ces qa) S ts) qa (j + 1)).map toPr) from by (rw [HS1.out, List.map_append]; unfold OwnR; rw [List.length_append, flatR_append, ← HO.out.1]; refine ⟨rfl, ?_⟩; show World.ownsRow _ _ _ _ (.slice A5 (s1 + 1) c5) (s1 + 1) (_ ++ [.int .u64 p.e.i, .slice p.B p.e.x.length p.c]); rw [← HXl.out]; exact ho9)); clear ho9 hg9)
                    go_roundw
                    case rel => exact ⟨j + 1, A5, c5, s1 + 1, by omega, by go_num, rfl, by omega, HO9, HB9⟩
                    case measure => simp [intOf]; omega
            · obtain rfl : j = na := by omega
              have hBw := HB5.out.trans (HBw.out.mono HB5.out.size)
              obtain ⟨z0, z1, z2, z3⟩ := HP.out wr hBw
              obtain ⟨hRf, hRLf, har, hvr, hK, h96⟩ := HFin.out
              have hrw : Rws wr A1 c1 ((selI (skB M (ces qa) S ts) qa qa.length).map toPr) := by
                have ho := HO.out.2
                rw [HNa.out] at ho
                exact own_rws ho (fun p hp => by
                  obtain ⟨x, hx, rfl⟩ := List.mem_map.1 hp
                  exact (HAr.out _ hBw).el x.2 (selI_mem _ hx)) (fun p hp => by
                  obtain ⟨x, hx, rfl⟩ := List.mem_map.1 hp
                  exact ((HAr.out _ hBw).fit x.2 (selI_mem _ hx)).1)
              have hsl : s1 = ((selI (skB M (ces qa) S ts) qa qa.length).map toPr).length := by rw [HO.out.1, HNa.out]
              have hfo := HFo.out wr hBw A1 c1 _ hrw (sel_right har _ (Nat.le_refl _)) hvr hK (by rw [← hsl]; omega)
              have hin : rvs ((selI (skB M (ces qa) S ts) qa qa.length).map toPr) = inK (skB M (ces qa) S ts) (ces qa) (ces qa).length := by rw [selI_rvs _ _ _ (Nat.le_refl _), ces_length]
              rw [hin, ← hRf, ← hRLf, ← hsl] at hfo
              have HFO := Lib.hid hfo
              have HBW := Lib.hid hBw
              clear hBw hrw hsl hfo hin hRf hRLf har hvr hK h96
              go_wp2_with fail
              refine HFO.out.mono ?_
              rintro e w9 ⟨A9, c9, he, ho9, hb9⟩
              obtain ⟨n9, hn9⟩ : ∃ z, z = RL.length := ⟨_, rfl⟩
              rw [← hn9] at he
              subst he
              have HF9 := Lib.hid (show GivesHE w RL R (.returned (.tuple #[.slice A9 n9 c9, .int .i64 R])) w9 from ⟨A9, c9, by rw [hn9], OwnH.mono ho9 (Nat.le_trans HB0.out.size HBW.out.size), HB0.out.trans ((HBW.out.trans (hb9.mono HBW.out.size)).mono HB0.out.size)⟩)
              clear ho9 hb9 hn9
              go_wp2
              go_ret2
              exact HF9.out
        · have hF : R = CT := by
            rw [HE.out, HRs.out, if_pos h1, if_pos hcl, if_pos hca]
            rcases HCs.out with h | h | h
            · rw [if_pos h.1]
              have h3 := h.2
              unfold dimE at h3
              split at h3
              · exact absurd h3 h2
              · rename_i h4; rw [HNv.out, if_neg h4, h3]
            · rw [h.1, if_neg (by decide), h.2]
            · rw [h.1, if_neg (by decide), h.2]
          have hRL := HNil.out (by rw [hF]; exact h2)
          have HRL := Lib.hid hRL
          subst hF
          have p1 : (R != 0) = true := by simpa using h2
          have p2 : (R == 0) = false := by simpa using h2
          rw [hok] at HRl
          rw [har] at HRa
          subst h1
          clear hNB hQ hK hvr hok hcl hca har h2 hRL
          go_enter Tryz.func19, Tryz.ntmps19
          go_wp2_with (rw [← HW0.out, ← HG.out])
          refine HEr.out.mono ?_
          rintro e w1 ⟨rfl, hb1⟩
          have HB1 := Lib.hid hb1
          obtain ⟨y0, y1, y2, y3⟩ := HP.out w1 hb1
          obtain ⟨v0, v1, v2⟩ := HX.out w1 hb1
          clear hb1 x0 x1 x2 x3 u0 u1 u2
          go_wp2_with fail
          refine (HRl.out w1 HB1.out).mono ?_
          rintro e w2 ⟨rfl, hb2⟩
          have HB2 := Lib.hid (HB1.out.trans (hb2.mono HB1.out.size))
          clear hb2 y0 y1 y2 y3 v0 v1 v2
          obtain ⟨y0, y1, y2, y3⟩ := HP.out w2 HB2.out
          obtain ⟨v0, v1, v2⟩ := HX.out w2 HB2.out
          go_wp2_with fail
          refine (HRa.out w2 HB2.out).mono ?_
          rintro e w3 ⟨rfl, hb3⟩
          have HB3 := Lib.hid (HB2.out.trans (hb3.mono HB2.out.size))
          clear hb3 y0 y1 y2 y3 v0 v1 v2
          obtain ⟨y0, y1, y2, y3⟩ := HP.out w3 HB3.out
          obtain ⟨v0, v1, v2⟩ := HX.out w3 HB3.out
          go_wp2_with fail
          refine (HCt.out w3 HB3.out).mono ?_
          rintro e w4 ⟨rfl, hb4⟩
          have HB4 := Lib.hid (HB3.out.trans (hb4.mono HB3.out.size))
          clear hb4
          go_wp2
          go_ret2
          rw [HRL.out]
          exact OwnH.nils (HB0.out.trans (HB4.out.mono HB0.out.size)) R
  · have hF : R = E1 := by rw [HE.out, HRs.out, if_neg h1, if_neg h1]
    have hRL := HNil.out (by rw [hF]; exact h1)
    have HRL := Lib.hid hRL
    subst hF
    have p1 : (R != 0) = true := by simpa using h1
    have p2 : (R == 0) = false := by simpa using h1
    clear h1 hRL
    go_enter Tryz.func19, Tryz.ntmps19
    go_wp2_with (rw [← HW0.out, ← HG.out])
    refine HEr.out.mono ?_
    rintro e w1 ⟨rfl, hb1⟩
    have HB1 := Lib.hid (HB0.out.trans (hb1.mono HB0.out.size))
    clear hb1
    go_wp2
    go_ret2
    rw [HRL.out]
    exact OwnH.nils HB1.out R
end Go.Proofs.YtcekgllahlhaaaaGreat

namespace Go.Proofs.YtcekgllahlhaaaaGreat
open Go.RowKit Go.Shelf
set_option linter.unusedVariables false
set_option linter.unusedSimpArgs false
set_option maxRecDepth 100000

def cutE (e : Ce) : Ce := { e with x := e.x.take 5 }
def cutA (l : List Ce) : List Ce := (l.take 97).map cutE
theorem cutA_at {l : List Ce} {k : Nat} {e : Ce} (h : l[k]? = some e) (hk : k < 97) : (cutA l)[k]? = some (cutE e) := by
  unfold cutA; rw [List.getElem?_map, List.getElem?_take_of_lt hk, h]; rfl
theorem cutA_len (l : List Ce) : (cutA l).length = min 97 l.length := by simp [cutA]
theorem apart_rowA {base base' : Nat} {w : World} {A B : Option Addr} {c n cb : Nat} {l : List Value} {xs : List Int} (h : w.ownsRow base 90 5 (.slice A n c) n l) (hB : OwnV base' w B cb xs) : ∀ i, blk B = some i → blk A ≠ some i := by
  intro i hi ha
  rcases hB.1.2 with ⟨e, h0⟩ | ⟨g, cap, cur, e, hg, hh, _⟩
  · injection e with e1; rw [e1] at hi; cases hi
  · injection e with e1
    rw [e1] at hi
    rcases h.2 with ⟨e', _⟩ | ⟨g', cap', cur', e', _, hh', _⟩
    · injection e' with e1'; rw [e1'] at ha; cases ha
    · injection e' with e1'
      rw [e1'] at ha
      have h1 : g = i := by simpa [blk] using hi
      have h2 : g' = i := by simpa [blk] using ha
      subst h1 h2
      rw [hh] at hh'
      injection hh' with hh'
      injection hh' with _ ht _
      exact absurd ht (by decide)
/-- Cells of the call's own, so far; the slice lies in a box. -/
def ArI (w : World) (l : List Ce) (n : Nat) (A1 : Option Addr) (c1 : Nat) (wr : World) : Prop :=
  ∃ q, List.length q = n ∧ ces q = l.take n ∧ OwnA (w.heap.size + 3) wr A1 c1 q ∧ Boxed wr (w.heap.size + 2) 36 (.slice A1 n c1) ∧ Boxed wr (w.heap.size + 1) 36 (.slice none 0 0) ∧ Below w.heap.size w wr
theorem ArI.below {w wr W : World} {l : List Ce} {n : Nat} {A1 : Option Addr} {c1 : Nat} (h : ArI w l n A1 c1 wr) (hb : Below wr.heap.size wr W) : ArI w l n A1 c1 W := by
  obtain ⟨q, h1, h2, h3, h4, h5, h6⟩ := h
  exact ⟨q, h1, h2, h3.below hb, (hb.block _ h4.lt).trans h4, (hb.block _ h5.lt).trans h5, h6.trans (hb.mono h6.size)⟩
theorem ar_step {w wr W7 : World} {l : List Ce} {n : Nat} {A1 : Option Addr} {c1 : Nat} {p : Pa} (h : ArI w l n A1 c1 wr) (hl : l[n]? = some p.e) (hf : Fit p.e) (h7 : Below wr.heap.size wr W7) (hv : OwnV (w.heap.size + 3) W7 p.B p.c p.e.x) :
    ∃ vs, W7.ownsRow (w.heap.size + 3) 90 5 (.slice A1 n c1) n vs ∧ w.heap.size + 3 ≤ W7.heap.size ∧
      ∀ A9 c9 w8, w8.ownsRow (w.heap.size + 3) 90 5 (.slice A9 (n + 1) c9) (n + 1) (vs ++ flatA [p]) → W7.grownBy w8 (blk A1) →
        Boxed w8 (w.heap.size + 2) 36 (.slice A1 n c1) ∧ ArI w l (n + 1) A9 c9 (w8.setCell ⟨w.heap.size + 2, 0, none⟩ (.slice A9 (n + 1) c9)) := by
  obtain ⟨q, h1, h2, h3, h4, h5, h6⟩ := h.below h7
  subst h1
  refine ⟨flatA q, h3.row, h4.lt, fun A9 c9 w8 ho hg => ?_⟩
  have hA : ∀ i, blk A1 = some i → w.heap.size + 3 ≤ i ∧ i < W7.heap.size := fun i hi => World.ownsRow.lt h3.row i (by rw [own_blk]; exact hi)
  have t : Turn (fun i => blk A1 = some i) W7 w8 := Turn.of_grown hg (fun i hi => .inl hi)
  have b2 : Boxed w8 (w.heap.size + 2) 36 (.slice A1 q.length c1) := (t.block _ h4.lt (fun e => by have := hA _ e; omega)).trans h4
  have b1 : Boxed w8 (w.heap.size + 1) 36 (.slice none 0 0) := (t.block _ h5.lt (fun e => by have := hA _ e; omega)).trans h5
  refine ⟨b2, q ++ [p], by simp, ?_, ⟨?_, ?_, ?_⟩, b2.set _, ?_, ?_⟩
  · rw [ces_append, h2, List.take_add_one, hl]; rfl
  · rw [List.length_append, flatA_append]
    exact row_turn ho (turn_set _ _ _ _) (fun i hi e => by have := (World.ownsRow.lt ho i hi).1; omega)
  · intro x hx
    have hx7 : OwnV (w.heap.size + 3) W7 x.B x.c x.e.x := by
      rcases List.mem_append.1 hx with hx | hx
      · exact h3.el x hx
      · obtain rfl : x = p := by simpa using hx
        exact hv
    have hx8 : OwnV (w.heap.size + 3) w8 x.B x.c x.e.x := ⟨row_turn hx7.1 t (fun i hi => by rw [own_blk] at hi; exact fun e => apart_rowA h3.row hx7 i hi e), hx7.2⟩
    exact ⟨row_turn hx8.1 (turn_set _ _ _ _) (fun i hi e => by have := (World.ownsRow.lt hx8.1 i hi).1; omega), hx8.2⟩
  · intro x hx
    rcases List.mem_append.1 hx with hx | hx
    · exact h3.fit x hx
    · obtain rfl : x = p := by simpa using hx
      exact hf
  · exact (Below.heap_setCell _ _ _ _ (by simp)).trans b1
  · exact (h6.trans (t.below h6.size (fun i hi => by have := hA i hi; omega))).setCell (by simp) _

theorem ar_mid {base : Nat} {wr V w5 W6 W7 : World} {p : Pa} {A5 : Option Addr} {c5 m : Nat} {c0 : Value} (hm : m = (p.e.x.take 5).length) (hfit : ∀ y ∈ p.e.x.take 5, (Lit.int .i32 y).wf = true)
    (hbV : Below wr.heap.size wr V) (hlt : wr.heap.size < V.heap.size) (h3 : base ≤ wr.heap.size) (h5 : Below V.heap.size V w5)
    (ho : w5.ownsRow V.heap.size 21 1 (.slice A5 m c5) m ((p.e.x.take 5).map (Value.int .i32)))
    (hc : w5.heap[wr.heap.size]? = some (.cells #[.bool p.e.u, .int .u64 p.e.i, .int .u64 p.e.b, .int .u64 p.e.f, c0] 90 (0, 0)))
    (hW6 : W6 = w5.setCell ⟨wr.heap.size, 4, none⟩ (.slice A5 m c5)) (hW7 : W7 = W6.alloc (.cells #[.bool p.e.u, .int .u64 p.e.i, .int .u64 p.e.b, .int .u64 p.e.f, .slice A5 m c5] 90)) :
    W6.heap[wr.heap.size]? = some (.cells #[.bool p.e.u, .int .u64 p.e.i, .int .u64 p.e.b, .int .u64 p.e.f, .slice A5 m c5] 90 (0, 0)) ∧
    Read W7 (some ⟨W6.heap.size, 0, none⟩) 1 5 (flatA [⟨cutE p.e, A5, c5⟩]) ∧ Below wr.heap.size wr W7 ∧ OwnV base W7 A5 c5 (p.e.x.take 5) := by
  have h6 : W6.heap[wr.heap.size]? = some (.cells #[.bool p.e.u, .int .u64 p.e.i, .int .u64 p.e.b, .int .u64 p.e.f, .slice A5 m c5] 90 (0, 0)) := by
    rw [hW6]; exact heap_setCell_same _ _ 4 _ _ _ hc
  have h7 : W7.heap[W6.heap.size]? = some (.cells #[.bool p.e.u, .int .u64 p.e.i, .int .u64 p.e.b, .int .u64 p.e.f, .slice A5 m c5] 90 (0, 0)) := by
    rw [hW7]; exact heap_alloc_new _ _
  have t6 : Turn (fun i => i = wr.heap.size) w5 W6 := by rw [hW6]; exact turn_set _ _ _ _
  have b7 : Below W6.heap.size W6 W7 := by rw [hW7]; exact bn1 _ _
  have t7 : Turn (fun i => i = wr.heap.size) w5 W7 := t6.trans (Turn.of_below (S := fun _ => False) b7) (fun i hi => hi.elim)
  have h15 : Below wr.heap.size wr w5 := hbV.trans (h5.mono hbV.size)
  refine ⟨h6, ?_, h15.trans (t7.below h15.size (fun i hi => by omega)), ?_, hfit⟩
  · subst hm
    exact Read.cell (p := ⟨cutE p.e, A5, c5⟩) ((cell_of_row _ _ 0 _ _ _ h7).trans rfl) ((cell_of_row _ _ 1 _ _ _ h7).trans rfl) ((cell_of_row _ _ 2 _ _ _ h7).trans rfl) ((cell_of_row _ _ 3 _ _ _ h7).trans rfl) ((cell_of_row _ _ 4 _ _ _ h7).trans rfl)
  · subst hm
    exact World.ownsRow.mono (row_turn ho t7 (fun i hi e => by have := (World.ownsRow.lt ho i hi).1; omega)) (by omega)

set_option maxHeartbeats 4000000 in
theorem arenaO_any (A : Option Addr) (c : Nat) (q : List Pa) (w : World) (h : Are w A c q) :
    Calls Tryz.prog 15 #[.agg #[.slice A q.length c]] w fun e w' => ∃ A' c' q', e = .returned (.agg #[.slice A' (List.length q') c']) ∧ ces q' = cutA (ces q) ∧ OwnA w.heap.size w' A' c' q' ∧ Below w.heap.size w w' := by
  obtain ⟨n, hn⟩ : ∃ n, n = q.length := ⟨_, rfl⟩
  have hmx : n ≤ 9223372036854775807 := by rw [hn]; exact h.many
  obtain ⟨W0, hW0⟩ : ∃ W0, W0 = ((w.alloc (.cells #[.slice A n c] 36)).alloc (.cells #[.slice none 0 0] 36)).alloc (.cells #[.slice none 0 0] 36) := ⟨_, rfl⟩
  have hb0 : Below w.heap.size w W0 := by rw [hW0]; exact (((Below.refl _ w).alloc (Nat.le_refl _) _).alloc (by simp) _).alloc (by simp; omega) _
  have hx0 : Boxed W0 w.heap.size 36 (.slice A n c) := by rw [hW0]; exact ((Boxed.new w 36 (.slice A n c)).alloc _).alloc _
  have hx1 : Boxed W0 (w.heap.size + 1) 36 (.slice none 0 0) := by
    rw [hW0]
    have := (Boxed.new (w.alloc (.cells #[.slice A n c] 36)) 36 (.slice none 0 0)).alloc (.cells #[.slice none 0 0] 36)
    rwa [World.size_alloc] at this
  have hx2 : Boxed W0 (w.heap.size + 2) 36 (.slice none 0 0) := by
    rw [hW0]
    have := Boxed.new ((w.alloc (.cells #[.slice A n c] 36)).alloc (.cells #[.slice none 0 0] 36)) 36 (.slice none 0 0)
    rwa [World.size_alloc, World.size_alloc] at this
  have HI0 := Lib.hid (show ArI w (cutA (ces q)) 0 none 0 W0 from ⟨[], rfl, rfl, OwnA.nil _ _, hx2, hx1, hb0⟩)
  have HW := Lib.hid hW0
  have HA := Lib.hid (fun (X : World) (hX : Below w.heap.size w X) => h.below hX)
  have HN := Lib.hid hn
  have u0 := hx0.cell
  rw [← hn]
  clear h hn hW0 hb0 hx0 hx1 hx2
  go_enter Tryz.func15, Tryz.ntmps15
  go_wp2_with (rw [← HW.out])
  go_loopw [9] (fun i wr => ∃ (k n1 : Nat) (A1 : Option Addr) (c1 : Nat), k ≤ n ∧ i = .int .i64 k ∧ n1 = min k 97 ∧ Hid (ArI w (cutA (ces q)) n1 A1 c1 wr)) (fun i _ => n - (intOf i).toNat)
  case atStart => exact ⟨0, 0, none, 0, Nat.zero_le _, rfl, rfl, by first | exact HI0 | (rw [← HW.out]; exact HI0)⟩
  case round =>
    obtain ⟨k, n1, A1, c1, hk, rfl, hn1, HI⟩ := hrel
    have HN1 := Lib.hid hn1
    by_cases hkn : k < n
    · have hbw : Below w.heap.size w wr := by obtain ⟨_, _, _, _, _, _, h6⟩ := HI.out; exact h6
      obtain ⟨b, o, p, rfl, hp, hb, d0, d1, d2, d3, d4, hvx, hfit⟩ := (HA.out wr hbw).at_ (i := k) (by rw [← HN.out]; exact hkn)
      obtain ⟨xl, hxl⟩ : ∃ xl, xl = p.e.x.length := ⟨_, rfl⟩
      rw [← hxl] at d4
      obtain ⟨V, hV⟩ : ∃ V, V = wr.alloc (.cells #[.bool p.e.u, .int .u64 p.e.i, .int .u64 p.e.b, .int .u64 p.e.f, .slice p.B xl p.c] 90) := ⟨_, rfl⟩
      obtain ⟨g, hg⟩ : ∃ g, g = wr.heap.size := ⟨_, rfl⟩
      have hbV : Below wr.heap.size wr V := by rw [hV]; exact bn1 _ _
      have hxV : V.heap[g]? = some (.cells #[.bool p.e.u, .int .u64 p.e.i, .int .u64 p.e.b, .int .u64 p.e.f, .slice p.B xl p.c] 90 (0, 0)) := by rw [hV, hg]; exact heap_alloc_new _ _
      have k0 : (0 : Int) ≤ k := by omega
      have kn : (k : Int) < n := by omega
      have HVV := Lib.hid hV
      have HG := Lib.hid hg
      by_cases hk97 : k < 97
      · have t1 : decide ((k : Int) ≤ 96) = true := by simp; omega
        obtain rfl : n1 = k := by omega
        clear hn1
        obtain ⟨m, hm⟩ : ∃ m, m = (p.e.x.take 5).length := ⟨_, rfl⟩
        have hmn : m = min xl 5 := by rw [hm, List.length_take, hxl]; omega
        have hmin : min (xl : Int) 5 = (m : Int) := by omega
        have HR := Lib.hid (show Read V p.B m 1 ((p.e.x.take 5).map (Value.int .i32)) from by rw [hm]; exact Read.vec ((hvx.below hbV).cut 5))
        have hIV := HI.out.below hbV
        have hbV2 : w.heap.size + 2 < wr.heap.size := by obtain ⟨_, _, _, _, h4, _, _⟩ := HI.out; exact h4.lt
        have HOut := Lib.hid (fun (X : World) (hX : Below V.heap.size V X) => show Boxed X (w.heap.size + 2) 36 (.slice A1 n1 c1) from by obtain ⟨_, _, _, _, h4, _, _⟩ := hIV.below hX; exact h4)
        have HVc := Lib.hid (fun (X : World) (hX : Below V.heap.size V X) => show X.heap[wr.heap.size]? = some (.cells #[.bool p.e.u, .int .u64 p.e.i, .int .u64 p.e.b, .int .u64 p.e.f, .slice p.B xl p.c] 90 (0, 0)) from by rw [← hg]; exact (hX.block _ (lt_of_block hxV)).trans hxV)
        have hcut : (cutA (ces q))[n1]? = some (cutE p.e) := cutA_at (ces_at hp) hk97
        have HF := Lib.hid (fun y (hy : y ∈ p.e.x.take 5) => hvx.fit y (List.mem_of_mem_take hy))
        have HSt := Lib.hid (fun (W7 : World) (h7 : Below wr.heap.size wr W7) (A5 : Option Addr) (c5 : Nat) (hv : OwnV (w.heap.size + 3) W7 A5 c5 (p.e.x.take 5)) => ar_step (p := ⟨cutE p.e, A5, c5⟩) HI.out hcut hfit h7 hv)
        have HM := Lib.hid hm
        have HbV := Lib.hid hbV
        have n1' : ¬ w.heap.size + 2 = wr.heap.size := by omega
        have n2' : ¬ wr.heap.size = w.heap.size + 2 := by omega
        have HVs := Lib.hid (show wr.heap.size < V.heap.size from by rw [← hg]; exact lt_of_block hxV)
        have hrd := hvx.rd
        have hroom := hvx.room
        have hmost := hvx.most
        rw [← hxl] at hrd hroom
        clear hp hb hvx hfit hxl hV hg hbV hxV hIV hcut hm hbw
        have HPB := Lib.hid (show 0 < xl → p.B ≠ none from fun h => by obtain ⟨b, o, e, _⟩ := hrd h; rw [e]; simp)
        clear hrd
        cases hB : p.B with
        | none =>
          have hx0 : xl = 0 := by
            rcases Nat.eq_zero_or_pos xl with h | h
            · exact h
            · exact absurd hB (HPB.out h)
          have hm0 : m = 0 := by omega
          subst hx0 hm0
          rw [hB] at HR HVV d4 HVc
          clear hmn hB
          have cV := HVc.out V (Below.refl _ _)
          have v4 := (cell_of_row _ _ 4 _ _ _ cV).trans rfl
          clear cV
          go_wp2_with (first
            | (rw [← HVV.out])
            | (at_builtin; refine gapp_at rfl (.const (.slice none 0 0)) (.tmp 24) appI rfl V.heap.size none 0 0 [] rfl (World.ownsRow_nil _ _ _ _) none p.c 0 ((p.e.x.take 5).map (Value.int .i32)) rfl HR.out (by omega) (Nat.le_refl _) ?_
               intro A5 c5 w5 ho5 hg5 _
               rw [Nat.zero_add, List.nil_append] at ho5
               rw [Nat.zero_add]
               have hb5 : Below V.heap.size V w5 := (Below.refl _ V).grown hg5 (Nat.le_refl _) (fun k hk => by simp [blk] at hk)
               have hc5 := HVc.out w5 hb5
               have f4 : w5.frozen? ⟨wr.heap.size, 4, none⟩ = false := frozen_of_row _ _ _ _ _ hc5
               have k4 := (cell_of_row _ _ 4 _ _ _ hc5).trans rfl
               obtain ⟨W6, hW6⟩ : ∃ W, W = w5.setCell ⟨wr.heap.size, 4, none⟩ (.slice A5 0 c5) := ⟨_, rfl⟩
               obtain ⟨W7, hW7⟩ : ∃ W, W = W6.alloc (.cells #[.bool p.e.u, .int .u64 p.e.i, .int .u64 p.e.b, .int .u64 p.e.f, .slice A5 0 c5] 90) := ⟨_, rfl⟩
               obtain ⟨hc6, hrd7, hb7, hv7⟩ := ar_mid (base := w.heap.size + 3) HM.out HF.out HbV.out HVs.out (by omega) hb5 ho5 hc5 hW6 hW7
               have q0 := (cell_of_row _ _ 0 _ _ _ hc6).trans rfl
               have q1 := (cell_of_row _ _ 1 _ _ _ hc6).trans rfl
               have q2 := (cell_of_row _ _ 2 _ _ _ hc6).trans rfl
               have q3 := (cell_of_row _ _ 3 _ _ _ hc6).trans rfl
               have q4 := (cell_of_row _ _ 4 _ _ _ hc6).trans rfl
               have r0 := (HOut.out w5 hb5).cell
               have HRD := Lib.hid hrd7
               have HBB := Lib.hid hb7
               have HVV7 := Lib.hid hv7
               have HW6 := Lib.hid hW6
               have HW7 := Lib.hid hW7
               have r6 : W6.cell? ⟨w.heap.size + 1 + 1, 0, none⟩ = some (.slice A1 n1 c1) := by rw [hW6]; exact (Boxed.cell ((Below.heap_setCell _ _ _ _ (by simpa using n1')).trans (HOut.out w5 hb5)))
               clear ho5 hg5 hb5 hc5 hW6 hW7 hc6 hrd7 hb7 hv7 r0)
            | (rw [← HW6.out])
            | (rw [← HW7.out])
            | (obtain ⟨vs, ho7, hs7, hst⟩ := HSt.out W7 HBB.out A5 c5 HVV7.out
               at_builtin; refine gapp_at rfl (.tmp 29) (.tmp 31) appA rfl (w.heap.size + 3) A1 c1 n1 vs rfl ho7 (some ⟨W6.heap.size, 0, none⟩) 1 1 _ rfl HRD.out (by omega) hs7 ?_
               intro A9 c9 w8 ho8 hg8 _
               obtain ⟨hbx, hA9⟩ := hst A9 c9 w8 ho8 hg8
               have c8 : w8.cell? ⟨w.heap.size + 1 + 1, 0, none⟩ = some (.slice A1 n1 c1) := hbx.cell
               have g8 : w8.frozen? ⟨w.heap.size + 1 + 1, 0, none⟩ = false := hbx.frozen
               have HA9 := Lib.hid hA9
               clear ho7 hs7 hst ho8 hg8 hbx hA9)
            | fail)
          go_roundw
          case rel => exact ⟨n1 + 1, n1 + 1, A9, c9, by omega, by go_num, by omega, HA9⟩
          case measure => simp [intOf]; omega
        | some ad =>
          obtain ⟨b1, o1, sp⟩ := ad
          have hmc : m ≤ p.c := by omega
          have m0 : (0 : Int) ≤ m := by omega
          have mc : (m : Int) ≤ p.c := by omega
          have mn : (m : Int) ≤ xl := by omega
          rw [hB] at HR HVV d4 HVc
          clear hmn hB
          have cV := HVc.out V (Below.refl _ _)
          have v4 := (cell_of_row _ _ 4 _ _ _ cV).trans rfl
          clear cV
          go_wp2_with (first
            | (rw [← HVV.out])
            | (at_builtin; refine gapp_at rfl (.const (.slice none 0 0)) (.tmp 24) appI rfl V.heap.size none 0 0 [] rfl (World.ownsRow_nil _ _ _ _) (some ⟨b1, o1, sp⟩) p.c m ((p.e.x.take 5).map (Value.int .i32)) rfl HR.out (by omega) (Nat.le_refl _) ?_
               intro A5 c5 w5 ho5 hg5 _
               rw [Nat.zero_add, List.nil_append] at ho5
               rw [Nat.zero_add]
               have hb5 : Below V.heap.size V w5 := (Below.refl _ V).grown hg5 (Nat.le_refl _) (fun k hk => by simp [blk] at hk)
               have hc5 := HVc.out w5 hb5
               have f4 : w5.frozen? ⟨wr.heap.size, 4, none⟩ = false := frozen_of_row _ _ _ _ _ hc5
               have k4 := (cell_of_row _ _ 4 _ _ _ hc5).trans rfl
               obtain ⟨W6, hW6⟩ : ∃ W, W = w5.setCell ⟨wr.heap.size, 4, none⟩ (.slice A5 m c5) := ⟨_, rfl⟩
               obtain ⟨W7, hW7⟩ : ∃ W, W = W6.alloc (.cells #[.bool p.e.u, .int .u64 p.e.i, .int .u64 p.e.b, .int .u64 p.e.f, .slice A5 m c5] 90) := ⟨_, rfl⟩
               obtain ⟨hc6, hrd7, hb7, hv7⟩ := ar_mid (base := w.heap.size + 3) HM.out HF.out HbV.out HVs.out (by omega) hb5 ho5 hc5 hW6 hW7
               have q0 := (cell_of_row _ _ 0 _ _ _ hc6).trans rfl
               have q1 := (cell_of_row _ _ 1 _ _ _ hc6).trans rfl
               have q2 := (cell_of_row _ _ 2 _ _ _ hc6).trans rfl
               have q3 := (cell_of_row _ _ 3 _ _ _ hc6).trans rfl
               have q4 := (cell_of_row _ _ 4 _ _ _ hc6).trans rfl
               have r0 := (HOut.out w5 hb5).cell
               have HRD := Lib.hid hrd7
               have HBB := Lib.hid hb7
               have HVV7 := Lib.hid hv7
               have HW6 := Lib.hid hW6
               have HW7 := Lib.hid hW7
               have r6 : W6.cell? ⟨w.heap.size + 1 + 1, 0, none⟩ = some (.slice A1 n1 c1) := by rw [hW6]; exact (Boxed.cell ((Below.heap_setCell _ _ _ _ (by simpa using n1')).trans (HOut.out w5 hb5)))
               clear ho5 hg5 hb5 hc5 hW6 hW7 hc6 hrd7 hb7 hv7 r0)
            | (rw [← HW6.out])
            | (rw [← HW7.out])
            | (obtain ⟨vs, ho7, hs7, hst⟩ := HSt.out W7 HBB.out A5 c5 HVV7.out
               at_builtin; refine gapp_at rfl (.tmp 29) (.tmp 31) appA rfl (w.heap.size + 3) A1 c1 n1 vs rfl ho7 (some ⟨W6.heap.size, 0, none⟩) 1 1 _ rfl HRD.out (by omega) hs7 ?_
               intro A9 c9 w8 ho8 hg8 _
               obtain ⟨hbx, hA9⟩ := hst A9 c9 w8 ho8 hg8
               have c8 : w8.cell? ⟨w.heap.size + 1 + 1, 0, none⟩ = some (.slice A1 n1 c1) := hbx.cell
               have g8 : w8.frozen? ⟨w.heap.size + 1 + 1, 0, none⟩ = false := hbx.frozen
               have HA9 := Lib.hid hA9
               clear ho7 hs7 hst ho8 hg8 hbx hA9)
            | fail)
          go_roundw
          case rel => exact ⟨n1 + 1, n1 + 1, A9, c9, by omega, by go_num, by omega, HA9⟩
          case measure => simp [intOf]; omega
      · have t1 : decide ((k : Int) ≤ 96) = false := by simp; omega
        have HI2 := Lib.hid (HI.out.below hbV)
        clear hp hb hvx hfit hxl hV hg hbV hxV hbw hn1
        go_wp2_with (rw [← HVV.out])
        go_roundw
        case rel => exact ⟨k + 1, n1, A1, c1, by omega, by go_num, by have := HN1.out; omega, by first | exact HI2 | (rw [← HVV.out]; exact HI2)⟩
        case measure => simp [intOf]; omega
    · obtain rfl : k = n := by omega
      obtain ⟨q1, e1, e2, e3, e4, e5, e6⟩ := HI.out
      have b2 := e4.cell
      have b1 := e5.cell
      have f1 := e5.frozen
      have hz := (show Boxed (wr.setCell ⟨w.heap.size + 1, 0, none⟩ (.slice A1 n1 c1)) (w.heap.size + 1) 36 (.slice A1 n1 c1) from e5.set _).cell
      have hF := (e3.turn (turn_set wr (w.heap.size + 1) 0 (.slice A1 n1 c1)) (fun i hi _ e => by omega)).mono (show w.heap.size ≤ w.heap.size + 3 by omega)
      have HF := Lib.hid (And.intro e1 (And.intro e2 (And.intro hF (e6.setCell (p := ⟨w.heap.size + 1, 0, none⟩) (by simp) (.slice A1 n1 c1)))))
      clear e1 e2 e3 e4 e5 e6 hF hn1
      go_wp2
      refine bodyPost_ret (v := .agg #[.slice A1 n1 c1]) (by simp [results, Tryz.results15, go_sem, hz]) rfl ?_
      refine ⟨A1, c1, q1, by rw [HF.out.1], ?_, HF.out.2.2.1, HF.out.2.2.2⟩
      rw [HF.out.2.1]
      refine List.take_of_length_le ?_
      rw [cutA_len, ces_length, ← HN.out]
      have := HN1.out
      omega

end Go.Proofs.YtcekgllahlhaaaaGreat

namespace Go.Proofs.YtcekgllahlhaaaaGreat
open Go.RowKit Go.Shelf
open MskL (Mk mv mk has MRow Ms Fine fillR setL setF setL_same setL_other setF_same setF_other)
set_option linter.unusedVariables false
set_option linter.unusedSimpArgs false
set_option maxRecDepth 100000

/-! ### append onto an empty row without room -/
theorem run_gapp0 {w : World} {t e : TypeId} {size bytes : Nat} (hT : AppT Tryz.prog t e size bytes) (ty : TypeId) (base : Nat) (A0 : Option Addr) (hown : w.ownsRow base e size (.slice A0 0 0) 0 [])
    (A : Option Addr) (c m : Nat) (news : List Value) (hr : Read w A m size news) (hbig : m ≤ 1099511627776) (hbase : base ≤ w.heap.size) :
    ∃ A1 c1 w', (Builtin.append_ #[t, t] ty #[.slice A0 0 0, .slice A m c]).run Tryz.prog w = .ok (.slice A1 m c1) w' ∧ w'.ownsRow base e size (.slice A1 m c1) m news ∧ Below w.heap.size w w' := by
  obtain ⟨A1, c1, w', hrun, h1, h2, _⟩ := run_gapp hT ty base A0 0 0 [] hown A c m news hr (by omega) hbase
  rw [Nat.zero_add] at hrun h1
  rw [List.nil_append] at h1
  refine ⟨A1, c1, w', hrun, h1, ?_⟩
  rcases hown.2 with ⟨e1, _⟩ | ⟨g, cap, cur, e1, _, hg, _, _, hcs, _⟩
  · injection e1 with e1
    subst e1
    exact (Below.refl _ w).grown h2 (Nat.le_refl _) (fun k hk => by simp [blk] at hk)
  · injection e1 with e1 _ e3
    subst e1
    subst e3
    obtain ⟨ht, i0, z, hi, hz0, hz1, hz2, hz3, hz4, hz5⟩ := hT
    obtain ⟨hl, hone, hn, hrd⟩ := hr
    have hcur : cur = #[] := Array.eq_empty_of_size_eq_zero (by rw [hcs]; omega)
    rcases A with _ | ad
    · obtain rfl := hn rfl
      simp [Builtin.append_, run_underlying ht, sizeOf, typeInfo, hi, Builtin.lenOf, Builtin.firstCells, storeCells] at hrun
      rw [← hrun.2]
      exact Below.refl _ _
    · by_cases hm : m = 0
      · subst hm
        obtain rfl : news = [] := List.eq_nil_of_length_eq_zero (by simpa using hl)
        have hr0 := run_append_room (P := Tryz.prog) w t ty e i0 ht hi g 0 0 cur hg ad 0 c [] (by simp) (hrd ad rfl) hone (Nat.le_refl _) (by simp)
        rw [hrun] at hr0
        injection hr0 with _ hr0
        subst hr0
        refine ⟨rfl, rfl, rfl, by simp, fun k hk => ?_⟩
        by_cases hkg : k = g
        · subst hkg
          rw [setRow_heap w k cur _ e _ hg, hg, hcur]
          simp
        · exact setRow_other _ _ _ _ hkg
      · have hb : m * i0.bytes ≤ 140737488355328 := by
          have : m * i0.bytes ≤ 1099511627776 * 100 := Nat.mul_le_mul hbig (by omega)
          omega
        have hr0 := run_append_grow (P := Tryz.prog) w t ty e i0 z ht hi hz0 ⟨g, 0, none⟩ 0 0 [] (by simp) (by simp) ad m c news (by rw [hl, hz1]) (hrd ad rfl) (by omega) (by omega) (growslice_fits (by omega) (by simpa using hb))
        rw [hrun] at hr0
        injection hr0 with _ hr0
        subst hr0
        exact ((below_drew (Below.refl _ w)).alloc (Nat.le_refl _) _)
theorem gapp0_rel {w : World} {ops : Array Oper} {o : Oper} {a : Act} {K : Act → World → Prop} {Q : Exit → Act → World → Prop} (hgd : o.guard = none) (s x : Operand) {t e : TypeId} {size bytes : Nat} (hT : AppT Tryz.prog t e size bytes)
    (ho : o.op = .call { callee := .builtin .append, args := #[s, x], argTypes := #[t, t] })
    (base : Nat) (A0 : Option Addr) (hs : a.eval s = .slice A0 0 0) (hown : w.ownsRow base e size (.slice A0 0 0) 0 [])
    (A : Option Addr) (c m : Nat) (news : List Value) (hx : a.eval x = .slice A m c) (hr : Read w A m size news) (hbig : m ≤ 1099511627776) (hbase : base ≤ w.heap.size)
    (h : ∀ A1 c1 w', w'.ownsRow base e size (.slice A1 m c1) m news → Below w.heap.size w w' → K (a.put o.dst (.slice A1 m c1)) w') :
    Region.wanted o (yielded ops a.tmps) = true ∧ Oper.wp Tryz.prog o a w K Q := by
  refine ⟨by simp [Region.wanted, hgd], ?_⟩
  obtain ⟨A1, c1, w', hrun, h1, h2⟩ := run_gapp0 hT o.type base A0 hown A c m news hr hbig hbase
  unfold Oper.wp
  simp [execOp, ho, resolve, invoke, builtin, hs, hx, hrun, Result.andThen]
  exact h A1 c1 w' h1 h2

namespace MskL
open Go Go.RowKit
theorem allR_all (p : Nat → Oper → Prop) : ∀ (l : List Oper) (i : Nat), (∀ j o, l[j]? = some o → p (i + j) o) → allR p i l
  | [], _, _ => trivial
  | o :: r, i, h => ⟨by simpa using h 0 o rfl, allR_all p r (i + 1) fun j x hx => by have := h (j + 1) x (by simpa using hx); rwa [Nat.add_assoc, Nat.add_comm 1 j]⟩
/-- A region that draws its order, whose last operation waits for all the others. -/
theorem region_relS {P : Program} {Q : Exit → Act → World → Prop} {id : Nat} {l : List Oper} {a : Act} {w : World} (n : Nat) (hn : l.length = n + 1) (C D : World → Prop) (L : List (Value → World → Prop)) (hst : ∀ r ∈ L, ∀ v w w', r v w → Below w.heap.size w w' → r v w') (hm : P.follows .mixedOrders = true) (hC : C { w with drawn := w.drawn + 1 })
    (hap : apartR l = true) (hbd : boundR 0 l = true) (hsz : (l.all fun o => match o.dst with | some t => decide (t < a.tmps.size) | none => true) = true)
    (hall : (match l[n]? with | some o => (List.range n).all (fun k => o.after.any fun e => Region.binds .any e && e.on == k) | none => false) = true)
    (how : allR (fun j o => j = n ∨ OweR P Q l C (relG L) a j o) 0 l)
    (hlast : ∀ o, l[n]? = some o → ∀ (f : Nat → Value) (w : World), C w → (∀ j, j < n → relG L j (f j) w) → Region.wanted o (yielded l.toArray (fillR 0 l f a).tmps) = true ∧ o.wp P (fillR 0 l f a) w (fun a' w' => ∃ v, a' = (fillR 0 l f a).put o.dst v ∧ D w') Q)
    (hend : ∀ f w, D w → Q .normal (fillR 0 l f a) w) : (Code.region id l.toArray true).wp P Q a w := by
  have hin : ∀ (o : Oper) (Lf : Nat → Bool), (∀ e ∈ o.after, Region.binds .any e = true → Lf e.on = true) → ∀ k, (o.after.any fun e => Region.binds .any e && e.on == k) = true → Lf k = true := by
    intro o Lf hd k h
    obtain ⟨i, hi, he⟩ := Array.any_eq_true.1 h
    simp only [Bool.and_eq_true, beq_iff_eq] at he
    have := hd _ (Array.getElem_mem hi) he.1
    rw [he.2] at this
    exact this
  refine region_inv (fun Lf f X => (Lf n = false ∧ C X ∧ ∀ j, j ≤ n → Lf j = true → relG L j (f j) X) ∨ ((∀ j, j ≤ n → Lf j = true) ∧ D X)) hm ?_ hap hbd hsz ?_ ?_
  · intro Lf f h0
    exact .inl ⟨h0 n (by omega), hC, fun j hj hL => by rw [h0 j (by omega)] at hL; cases hL⟩
  · refine allR_all _ l 0 fun j o ho => ?_
    rw [Nat.zero_add]
    have hjn : j ≤ n := by have := (List.getElem?_eq_some_iff.1 ho).1; omega
    intro Lf f X hLj hdeps hI
    rcases hI with ⟨hLn, hCX, hR⟩ | ⟨hA, _⟩
    · by_cases hj : j = n
      · subst hj
        rw [ho] at hall
        have hp : ∀ k, k < j → Lf k = true := fun k hk => hin o Lf hdeps k (List.all_eq_true.1 hall k (List.mem_range.2 hk))
        obtain ⟨hw, hop⟩ := hlast o ho f X hCX (fun k hk => hR k (by omega) (hp k hk))
        refine .inl ⟨hw, Oper.wp_mono (fun a' w' h => ?_) hop⟩
        obtain ⟨v, e, hD⟩ := h
        refine ⟨v, e, .inr ⟨fun k hk => ?_, hD⟩⟩
        by_cases hkj : k = j
        · subst hkj; exact setL_same _ _
        · rw [setL_other _ hkj]; exact hp k (by omega)
      · have hO := allR_of _ l 0 how j o ho
        rw [Nat.zero_add] at hO
        rcases hO with hO | hO
        · exact absurd hO hj
        · have hst' : ∀ (v : Value) (w' : World), relG L j v w' → C w' → Below X.heap.size X w' → (setL Lf j) n = false ∧ C w' ∧ ∀ k, k ≤ n → setL Lf j k = true → relG L k (setF f j v k) w' := by
            intro v w' hv hC' hb
            refine ⟨by rw [setL_other _ (Ne.symm hj)]; exact hLn, hC', fun k hk hLk => ?_⟩
            by_cases hkj : k = j
            · subst hkj; rw [setF_same]; exact hv
            · rw [setL_other _ hkj] at hLk
              rw [setF_other _ _ hkj]
              exact relG_stable hst k (hR k hk hLk) hb
          rcases hO f X hCX (fun e he hb => by
            have h1 := hdeps e he hb
            have h2 : e.on < j := by have := boundR_spec l 0 hbd j o ho e he hb; omega
            exact hR e.on (by omega) h1) with ⟨hw, hop⟩ | ⟨hw, hu⟩
          · refine .inl ⟨hw, Oper.wp_mono (fun a' w' h => ?_) hop⟩
            obtain ⟨v, e, hv, hC', hb⟩ := h
            exact ⟨v, e, .inl (hst' v w' hv hC' hb)⟩
          · exact .inr ⟨hw, .inl (hst' undef X hu hCX (Below.refl _ _))⟩
    · rw [hA j hjn] at hLj; cases hLj
  · intro Lf f X hL hI
    rcases hI with ⟨h, _⟩ | ⟨_, h⟩
    · rw [hL n (by omega)] at h; cases h
    · exact hend f X h
end MskL
def r3ms (b : Nat) (M : List Mk) (v : Value) (w : World) : Prop := ∃ A c, v = .slice A M.length c ∧ OwnM b w A c M
def r3lis (b : Nat) (C : List (List Int)) (M : List Mk) (v : Value) (w : World) : Prop := ∃ A c q B d, v = lv A c C.length B d M.length ∧ vals q = C ∧ OwnVs b w A c q ∧ OwnM b w B d M
def r3lisE (b : Nat) (C : List (List Int)) (M : List Mk) (e : Ending) (w : World) : Prop := ∃ A c q B d, e = .returned (lv A c C.length B d M.length) ∧ vals q = C ∧ OwnVs b w A c q ∧ OwnM b w B d M
def r3emp (b : Nat) (v : Value) (w : World) : Prop := ∃ A, v = .slice A 0 0 ∧ w.ownsRow b 93 2 (.slice A 0 0) 0 []
def r3box2 (s b g : Nat) (w0 : World) (C : List (List Int)) (M : List Mk) (w : World) : Prop := ∃ A c q B d, w.cell? ⟨g, 0, none⟩ = some (.slice A C.length c) ∧ w.cell? ⟨g, 1, none⟩ = some (.slice B M.length d) ∧ vals q = C ∧ OwnVs b w A c q ∧ OwnM b w B d M ∧ Below s w0 w
theorem row_below {w w' : World} {base : Nat} {e : TypeId} {size : Nat} {v : Value} {n : Nat} {xs : List Value} (h : w.ownsRow base e size v n xs) (hb : Below w.heap.size w w') : w'.ownsRow base e size v n xs :=
  row_turn h (Turn.of_below (S := fun _ => False) hb) (fun _ _ e => e)

set_option maxHeartbeats 4000000 in
theorem listsO_any (A : Option Addr) (c : Nat) (C : List (List Int)) (B : Option Addr) (d : Nat) (M : List Mk) (w : World) (h : Lis w A c C B d M) :
    Calls Tryz.prog 16 #[lv A c C.length B d M.length] w fun e w' => r3lisE w.heap.size (cutC C) (M.take 7) e w' ∧ Below w.heap.size w w' := by
  obtain ⟨g, hg⟩ : ∃ g, g = w.heap.size := ⟨_, rfl⟩
  obtain ⟨n, hn⟩ : ∃ n, n = C.length := ⟨_, rfl⟩
  obtain ⟨m, hm⟩ : ∃ n, n = M.length := ⟨_, rfl⟩
  obtain ⟨W1, hW1⟩ : ∃ W1, W1 = w.alloc (.cells #[.slice A n c, .slice B m d] 39) := ⟨_, rfl⟩
  obtain ⟨W0, hW0⟩ : ∃ W0, W0 = W1.alloc (.cells #[.slice none 0 0, .slice none 0 0] 39) := ⟨_, rfl⟩
  obtain ⟨hl1, hb1⟩ := lbox w A n c B m d
  rw [← hW1] at hl1 hb1
  rw [← hg] at hl1
  have hb01 : Below W1.heap.size W1 W0 := by rw [hW0]; exact bn1 _ _
  have hb0 : Below w.heap.size w W0 := hb1.trans (hb01.mono hb1.size)
  have hl0 := hl1.below hb01 hl1.lt
  have hz1 : W1.heap.size = g + 1 := by rw [hW1, hg]; exact World.size_alloc _ _
  have hx0 : W0.heap[W1.heap.size]? = some (.cells #[.slice none 0 0, .slice none 0 0] 39 (0, 0)) := by rw [hW0]; exact heap_alloc_new _ _
  have hz0 : W0.heap.size = g + 2 := by rw [hW0, World.size_alloc, hz1]
  obtain ⟨C1, hC1⟩ : ∃ C1, C1 = cutC C := ⟨_, rfl⟩
  obtain ⟨M1, hM1⟩ : ∃ M1, M1 = M.take 7 := ⟨_, rfl⟩
  obtain ⟨k, hk⟩ : ∃ k, k = M1.length := ⟨_, rfl⟩
  have hkm : k = min m 7 := by rw [hk, hM1, List.length_take, hm]; omega
  have hms := h.ms
  have HV := Lib.hid (fun (X : World) (hX : Below W0.heap.size W0 X) => by
    have h1 := vecsO_any A c C X ((h.cs.below hb0).below hX)
    rw [← hn, ← hC1] at h1
    exact h1)
  have HR := Lib.hid (fun (X : World) (hX : Below W0.heap.size W0 X) => show Read X B k 2 (flatM M1) from by
    rw [hk, hM1]
    exact Read.masks (Ms.take ((hms.below hb0).below hX) 7))
  have HF := Lib.hid (fun x (hx : x ∈ M1) => hms.fine x (by rw [hM1] at hx; exact List.mem_of_mem_take hx))
  have HBX := Lib.hid (fun (X : World) (hX : Below W0.heap.size W0 X) => show LBox X g A n c B m d ∧ X.heap[W1.heap.size]? = some (.cells #[.slice none 0 0, .slice none 0 0] 39 (0, 0)) from ⟨hl0.below hX hl0.lt, (hX.block _ (lt_of_block hx0)).trans hx0⟩)
  have HZ0 := Lib.hid hz0
  have HZ1 := Lib.hid hz1
  have HB0 := Lib.hid hb0
  have HG := Lib.hid hg
  have HW1 := Lib.hid hW1
  have HW0 := Lib.hid hW0
  have HK := Lib.hid hk
  have hrd := hms.rd
  have hroom := hms.room
  have hmost := hms.most
  rw [← hm] at hrd hroom
  have HPB := Lib.hid (show 0 < m → B ≠ none from fun h => by obtain ⟨b, o, e, _⟩ := hrd h; rw [e]; simp)
  rw [← hn, ← hm, ← hC1, ← hM1]
  have HC0 := Lib.hid (Below.refl W0.heap.size W0)
  clear h hms hrd hg hn hm hW1 hW0 hl1 hb1 hb01 hb0 hl0 hz1 hx0 hz0 hC1 hM1 hk
  unfold lv
  cases B with
  | none =>
    have hm0 : m = 0 := by
      rcases Nat.eq_zero_or_pos m with h | h
      · exact h
      · exact absurd rfl (HPB.out h)
    have hk0 : k = 0 := by omega
    subst hm0 hk0
    clear hkm
    have h07 : min (0 : Int) 7 = 0 := by decide
    go_enter Tryz.func16, Tryz.ntmps16
    go_upto_region 1 with (first | (rw [← HW1.out]) | (rw [← HW0.out, ← HG.out]) | fail)
    refine MskL.region_relS 13 rfl (fun X => Below W0.heap.size W0 X) (r3box2 w.heap.size W0.heap.size (W1.heap.size) w C1 M1) [fun v _ => v = .pointer (some ⟨g, 0, none⟩), fun v _ => v = .slice A n c, r3vecs W0.heap.size C1, r3emp W0.heap.size, fun v _ => v = .pointer (some ⟨g, 1, none⟩), fun v _ => v = .slice none 0 d, fun v _ => v = .pointer (some ⟨g, 1, none⟩), fun v _ => v = .slice none 0 d, fun v _ => v = .int .i64 (0 : Nat), fun v _ => v = .int .i64 (0 : Nat), fun v _ => v = .slice none 0 d, r3ms W0.heap.size M1, r3lis W0.heap.size C1 M1]
      (fun r hr v2 w7 w8 h hb => by
        simp only [List.mem_cons, List.mem_nil_iff, or_false] at hr
        rcases hr with rfl | rfl | rfl | rfl | rfl | rfl | rfl | rfl | rfl | rfl | rfl | rfl | rfl
        · exact h
        · exact h
        · obtain ⟨A, c, q, h1, h2, h3⟩ := h; exact ⟨A, c, q, h1, h2, h3.below hb⟩
        · obtain ⟨A, h1, h2⟩ := h; exact ⟨A, h1, row_below h2 hb⟩
        · exact h
        · exact h
        · exact h
        · exact h
        · exact h
        · exact h
        · exact h
        · obtain ⟨A, c, h1, h2⟩ := h; exact ⟨A, c, h1, h2.below hb⟩
        · obtain ⟨A, c, q, B, d, h1, h2, h3, h4⟩ := h; exact ⟨A, c, q, B, d, h1, h2, h3.below hb, h4.below hb⟩)
      (by kernel_rfl) (below_drew HC0.out) (by kernel_rfl) (by kernel_rfl) (by kernel_rfl) (by kernel_rfl) ?_ ?_ ?_
    · refine ⟨.inr ?_, .inr ?_, .inr ?_, .inr ?_, .inr ?_, .inr ?_, .inr ?_, .inr ?_, .inr ?_, .inr ?_, .inr ?_, .inr ?_, .inr ?_, .inl rfl, trivial⟩
      · intro f w1 hw hd
        simp [MskL.fillR, Act.put, go_sem, MskL.relG, hw, Below.refl]
      · intro f w1 hw hd
        have e0 : f 0 = .pointer (some ⟨g, 0, none⟩) := MskL.depG_of hd 0 (by kernel_rfl)
        obtain ⟨⟨x0, x1⟩, _⟩ := HBX.out w1 hw
        simp [MskL.fillR, Act.put, go_sem, MskL.relG, hw, Below.refl, e0, x0]
      · intro f w1 hw hd
        have e1 : f 1 = .slice A n c := MskL.depG_of hd 1 (by kernel_rfl)
        simp [MskL.fillR, Act.put, go_sem, MskL.relG, hw, Below.refl, e1]
        refine (HV.out w1 hw).mono ?_
        rintro e w2 ⟨A', c', q, rfl, hq, hr, hb⟩
        exact ⟨⟨A', c', q, rfl, hq, hr.mono hw.size⟩, hw.trans (hb.mono hw.size), hb⟩
      · intro f w1 hw hd
        simp [MskL.fillR, Act.put, go_sem, MskL.relG, hw, Below.refl]
        exact ⟨⟨_, rfl, World.ownsRow_lit (base := W0.heap.size) (size := 2) (e := 93) w1 #[] 0 hw.size (by decide) rfl⟩, hw.alloc hw.size _, bn1 _ _⟩
      · intro f w1 hw hd
        simp [MskL.fillR, Act.put, go_sem, MskL.relG, hw, Below.refl]
      · intro f w1 hw hd
        have e0 : f 4 = .pointer (some ⟨g, 1, none⟩) := MskL.depG_of hd 4 (by kernel_rfl)
        obtain ⟨⟨x0, x1⟩, _⟩ := HBX.out w1 hw
        simp [MskL.fillR, Act.put, go_sem, MskL.relG, hw, Below.refl, e0, x1]
      · intro f w1 hw hd
        simp [MskL.fillR, Act.put, go_sem, MskL.relG, hw, Below.refl]
      · intro f w1 hw hd
        have e0 : f 6 = .pointer (some ⟨g, 1, none⟩) := MskL.depG_of hd 6 (by kernel_rfl)
        obtain ⟨⟨x0, x1⟩, _⟩ := HBX.out w1 hw
        simp [MskL.fillR, Act.put, go_sem, MskL.relG, hw, Below.refl, e0, x1]
      · intro f w1 hw hd
        have e0 : f 7 = .slice none 0 d := MskL.depG_of hd 7 (by kernel_rfl)
        simp [MskL.fillR, Act.put, go_sem, MskL.relG, hw, Below.refl, e0]
      · intro f w1 hw hd
        have e0 : f 8 = .int .i64 (0 : Nat) := MskL.depG_of hd 8 (by kernel_rfl)
        simp [MskL.fillR, Act.put, go_sem, MskL.relG, hw, Below.refl, e0, h07]
      · intro f w1 hw hd
        have e0 : f 5 = .slice none 0 d := MskL.depG_of hd 5 (by kernel_rfl)
        have e1 : f 9 = .int .i64 (0 : Nat) := MskL.depG_of hd 9 (by kernel_rfl)
        simp [MskL.fillR, Act.put, go_sem, MskL.relG, hw, Below.refl, e0, e1, h07]
      · intro f w1 hw hd
        obtain ⟨A0, e0, ho⟩ : r3emp W0.heap.size (f 3) w1 := MskL.depG_of hd 3 (by kernel_rfl)
        have e1 : f 10 = .slice none 0 d := MskL.depG_of hd 10 (by kernel_rfl)
        refine .inl (gapp0_rel rfl (.tmp 6) (.tmp 13) appM rfl W0.heap.size A0 (by simp [MskL.fillR, Act.put, go_sem, e0]) ho none d 0 (flatM M1) (by simp [MskL.fillR, Act.put, go_sem, e1]) (HR.out w1 hw) (by omega) hw.size ?_)
        intro A1 c1 w2 ho2 hb
        refine ⟨_, rfl, ⟨A1, c1, by rw [← HK.out], ?_, HF.out⟩, hw.trans (hb.mono hw.size), hb⟩
        rw [← HK.out]
        exact ho2
      · intro f w1 hw hd
        obtain ⟨A2, c2, q, e0, hq, ho⟩ : r3vecs W0.heap.size C1 (f 2) w1 := MskL.depG_of hd 2 (by kernel_rfl)
        obtain ⟨A3, c3, e1, hm⟩ : r3ms W0.heap.size M1 (f 11) w1 := MskL.depG_of hd 11 (by kernel_rfl)
        simp [MskL.fillR, Act.put, go_sem, MskL.relG, hw, Below.refl, e0, e1]
        exact ⟨A2, c2, q, A3, c3, rfl, hq, ho, hm⟩
    · intro o ho f w1 hw hr
      obtain rfl : _ = o := Option.some.inj ho
      obtain ⟨A2, c2, q, A3, c3, e0, hq, hv, hm⟩ : r3lis W0.heap.size C1 M1 (f 12) w1 := hr 12 (by decide)
      obtain ⟨_, hx⟩ := HBX.out w1 hw
      unfold lv at e0
      have f0 : w1.frozen? ⟨W1.heap.size, 0, none⟩ = false := frozen_of_row _ _ _ _ _ hx
      have f1 : w1.frozen? ⟨W1.heap.size, 1, none⟩ = false := frozen_of_row _ _ _ _ _ hx
      have k0 := (cell_of_row _ _ 0 _ _ _ hx).trans rfl
      have k1 := (cell_of_row _ _ 1 _ _ _ hx).trans rfl
      have y1 := heap_setCell_same _ (W1.heap.size) 0 _ _ (.slice A2 C1.length c2) hx
      have y2 := heap_setCell_same _ (W1.heap.size) 1 _ _ (.slice A3 M1.length c3) y1
      have z0 := (cell_of_row _ _ 0 _ _ _ y2).trans rfl
      have z1 := (cell_of_row _ _ 1 _ _ _ y2).trans rfl
      have t : Turn (fun i => i = W1.heap.size) w1 ((w1.setCell ⟨W1.heap.size, 0, none⟩ (.slice A2 C1.length c2)).setCell ⟨W1.heap.size, 1, none⟩ (.slice A3 M1.length c3)) := (turn_set _ _ _ _).trans (turn_set _ _ _ _) (fun i hi => .inl hi)
      have hD : r3box2 w.heap.size W0.heap.size (W1.heap.size) w C1 M1 ((w1.setCell ⟨W1.heap.size, 0, none⟩ (.slice A2 C1.length c2)).setCell ⟨W1.heap.size, 1, none⟩ (.slice A3 M1.length c3)) := by
        have h1 := HZ0.out
        have h5 := HZ1.out
        have h2 := HG.out
        have h3 := hw.size
        have h4 := HB0.out.trans (hw.mono HB0.out.size)
        refine ⟨A2, c2, q, A3, c3, z0, z1, hq, hv.turn t (fun i hi _ e => by omega), hm.turn t (fun i hi e => by have := hm.low i hi; omega), h4.trans (t.below h4.size (fun i hi => by omega))⟩
      simp [MskL.fillR, Act.put, go_sem, e0, k0, k1, f0, f1, -getElem?_eq_none_iff]
      exact hD
    intro f w1 hD
    obtain ⟨A2, c2, q, A3, c3, z0, z1, hq, hv, hm, hb⟩ := hD
    have HF2 := Lib.hid (And.intro hq (And.intro hv (And.intro hm hb)))
    clear hq hv hm hb
    simp only [MskL.fillR, Act.put, List.size_toArray, List.length_cons, List.length_nil, List.setIfInBounds_toArray, List.set_cons_succ, List.set_cons_zero]
    go_wp2
    refine bodyPost_ret (v := .agg #[.slice A2 C1.length c2, .slice A3 M1.length c3]) (by simp [results, Tryz.results16, go_sem, z0, z1]) rfl ?_
    exact ⟨⟨A2, c2, q, A3, c3, rfl, HF2.out.1, HF2.out.2.1.mono HB0.out.size, HF2.out.2.2.1.mono HB0.out.size⟩, HF2.out.2.2.2⟩
  | some ad =>
    obtain ⟨b1, o1, sp⟩ := ad
    have hmin : min (m : Int) 7 = (k : Int) := by omega
    have hkd : k ≤ d := by omega
    have hkl : (k : Int) ≤ d := by omega
    have hk0 : (0 : Int) ≤ k := by omega
    have hkn : (k : Int) ≤ m := by omega
    go_enter Tryz.func16, Tryz.ntmps16
    go_upto_region 1 with (first | (rw [← HW1.out]) | (rw [← HW0.out, ← HG.out]) | fail)
    refine MskL.region_relS 13 rfl (fun X => Below W0.heap.size W0 X) (r3box2 w.heap.size W0.heap.size (W1.heap.size) w C1 M1) [fun v _ => v = .pointer (some ⟨g, 0, none⟩), fun v _ => v = .slice A n c, r3vecs W0.heap.size C1, r3emp W0.heap.size, fun v _ => v = .pointer (some ⟨g, 1, none⟩), fun v _ => v = .slice (some ⟨b1, o1, sp⟩) m d, fun v _ => v = .pointer (some ⟨g, 1, none⟩), fun v _ => v = .slice (some ⟨b1, o1, sp⟩) m d, fun v _ => v = .int .i64 (m : Nat), fun v _ => v = .int .i64 (k : Nat), fun v _ => v = .slice (some ⟨b1, o1, sp⟩) k d, r3ms W0.heap.size M1, r3lis W0.heap.size C1 M1]
      (fun r hr v2 w7 w8 h hb => by
        simp only [List.mem_cons, List.mem_nil_iff, or_false] at hr
        rcases hr with rfl | rfl | rfl | rfl | rfl | rfl | rfl | rfl | rfl | rfl | rfl | rfl | rfl
        · exact h
        · exact h
        · obtain ⟨A, c, q, h1, h2, h3⟩ := h; exact ⟨A, c, q, h1, h2, h3.below hb⟩
        · obtain ⟨A, h1, h2⟩ := h; exact ⟨A, h1, row_below h2 hb⟩
        · exact h
        · exact h
        · exact h
        · exact h
        · exact h
        · exact h
        · exact h
        · obtain ⟨A, c, h1, h2⟩ := h; exact ⟨A, c, h1, h2.below hb⟩
        · obtain ⟨A, c, q, B, d, h1, h2, h3, h4⟩ := h; exact ⟨A, c, q, B, d, h1, h2, h3.below hb, h4.below hb⟩)
      (by kernel_rfl) (below_drew HC0.out) (by kernel_rfl) (by kernel_rfl) (by kernel_rfl) (by kernel_rfl) ?_ ?_ ?_
    · refine ⟨.inr ?_, .inr ?_, .inr ?_, .inr ?_, .inr ?_, .inr ?_, .inr ?_, .inr ?_, .inr ?_, .inr ?_, .inr ?_, .inr ?_, .inr ?_, .inl rfl, trivial⟩
      · intro f w1 hw hd
        simp [MskL.fillR, Act.put, go_sem, MskL.relG, hw, Below.refl]
      · intro f w1 hw hd
        have e0 : f 0 = .pointer (some ⟨g, 0, none⟩) := MskL.depG_of hd 0 (by kernel_rfl)
        obtain ⟨⟨x0, x1⟩, _⟩ := HBX.out w1 hw
        simp [MskL.fillR, Act.put, go_sem, MskL.relG, hw, Below.refl, e0, x0]
      · intro f w1 hw hd
        have e1 : f 1 = .slice A n c := MskL.depG_of hd 1 (by kernel_rfl)
        simp [MskL.fillR, Act.put, go_sem, MskL.relG, hw, Below.refl, e1]
        refine (HV.out w1 hw).mono ?_
        rintro e w2 ⟨A', c', q, rfl, hq, hr, hb⟩
        exact ⟨⟨A', c', q, rfl, hq, hr.mono hw.size⟩, hw.trans (hb.mono hw.size), hb⟩
      · intro f w1 hw hd
        simp [MskL.fillR, Act.put, go_sem, MskL.relG, hw, Below.refl]
        exact ⟨⟨_, rfl, World.ownsRow_lit (base := W0.heap.size) (size := 2) (e := 93) w1 #[] 0 hw.size (by decide) rfl⟩, hw.alloc hw.size _, bn1 _ _⟩
      · intro f w1 hw hd
        simp [MskL.fillR, Act.put, go_sem, MskL.relG, hw, Below.refl]
      · intro f w1 hw hd
        have e0 : f 4 = .pointer (some ⟨g, 1, none⟩) := MskL.depG_of hd 4 (by kernel_rfl)
        obtain ⟨⟨x0, x1⟩, _⟩ := HBX.out w1 hw
        simp [MskL.fillR, Act.put, go_sem, MskL.relG, hw, Below.refl, e0, x1]
      · intro f w1 hw hd
        simp [MskL.fillR, Act.put, go_sem, MskL.relG, hw, Below.refl]
      · intro f w1 hw hd
        have e0 : f 6 = .pointer (some ⟨g, 1, none⟩) := MskL.depG_of hd 6 (by kernel_rfl)
        obtain ⟨⟨x0, x1⟩, _⟩ := HBX.out w1 hw
        simp [MskL.fillR, Act.put, go_sem, MskL.relG, hw, Below.refl, e0, x1]
      · intro f w1 hw hd
        have e0 : f 7 = .slice (some ⟨b1, o1, sp⟩) m d := MskL.depG_of hd 7 (by kernel_rfl)
        simp [MskL.fillR, Act.put, go_sem, MskL.relG, hw, Below.refl, e0]
      · intro f w1 hw hd
        have e0 : f 8 = .int .i64 (m : Nat) := MskL.depG_of hd 8 (by kernel_rfl)
        simp [MskL.fillR, Act.put, go_sem, MskL.relG, hw, Below.refl, e0, hmin]
      · intro f w1 hw hd
        have e0 : f 5 = .slice (some ⟨b1, o1, sp⟩) m d := MskL.depG_of hd 5 (by kernel_rfl)
        have e1 : f 9 = .int .i64 (k : Nat) := MskL.depG_of hd 9 (by kernel_rfl)
        simp [MskL.fillR, Act.put, go_sem, MskL.relG, hw, Below.refl, e0, e1, hkd, hkl, hk0, hkn]
      · intro f w1 hw hd
        obtain ⟨A0, e0, ho⟩ : r3emp W0.heap.size (f 3) w1 := MskL.depG_of hd 3 (by kernel_rfl)
        have e1 : f 10 = .slice (some ⟨b1, o1, sp⟩) k d := MskL.depG_of hd 10 (by kernel_rfl)
        refine .inl (gapp0_rel rfl (.tmp 6) (.tmp 13) appM rfl W0.heap.size A0 (by simp [MskL.fillR, Act.put, go_sem, e0]) ho (some ⟨b1, o1, sp⟩) d k (flatM M1) (by simp [MskL.fillR, Act.put, go_sem, e1]) (HR.out w1 hw) (by omega) hw.size ?_)
        intro A1 c1 w2 ho2 hb
        refine ⟨_, rfl, ⟨A1, c1, by rw [← HK.out], ?_, HF.out⟩, hw.trans (hb.mono hw.size), hb⟩
        rw [← HK.out]
        exact ho2
      · intro f w1 hw hd
        obtain ⟨A2, c2, q, e0, hq, ho⟩ : r3vecs W0.heap.size C1 (f 2) w1 := MskL.depG_of hd 2 (by kernel_rfl)
        obtain ⟨A3, c3, e1, hm⟩ : r3ms W0.heap.size M1 (f 11) w1 := MskL.depG_of hd 11 (by kernel_rfl)
        simp [MskL.fillR, Act.put, go_sem, MskL.relG, hw, Below.refl, e0, e1]
        exact ⟨A2, c2, q, A3, c3, rfl, hq, ho, hm⟩
    · intro o ho f w1 hw hr
      obtain rfl : _ = o := Option.some.inj ho
      obtain ⟨A2, c2, q, A3, c3, e0, hq, hv, hm⟩ : r3lis W0.heap.size C1 M1 (f 12) w1 := hr 12 (by decide)
      obtain ⟨_, hx⟩ := HBX.out w1 hw
      unfold lv at e0
      have f0 : w1.frozen? ⟨W1.heap.size, 0, none⟩ = false := frozen_of_row _ _ _ _ _ hx
      have f1 : w1.frozen? ⟨W1.heap.size, 1, none⟩ = false := frozen_of_row _ _ _ _ _ hx
      have k0 := (cell_of_row _ _ 0 _ _ _ hx).trans rfl
      have k1 := (cell_of_row _ _ 1 _ _ _ hx).trans rfl
      have y1 := heap_setCell_same _ (W1.heap.size) 0 _ _ (.slice A2 C1.length c2) hx
      have y2 := heap_setCell_same _ (W1.heap.size) 1 _ _ (.slice A3 M1.length c3) y1
      have z0 := (cell_of_row _ _ 0 _ _ _ y2).trans rfl
      have z1 := (cell_of_row _ _ 1 _ _ _ y2).trans rfl
      have t : Turn (fun i => i = W1.heap.size) w1 ((w1.setCell ⟨W1.heap.size, 0, none⟩ (.slice A2 C1.length c2)).setCell ⟨W1.heap.size, 1, none⟩ (.slice A3 M1.length c3)) := (turn_set _ _ _ _).trans (turn_set _ _ _ _) (fun i hi => .inl hi)
      have hD : r3box2 w.heap.size W0.heap.size (W1.heap.size) w C1 M1 ((w1.setCell ⟨W1.heap.size, 0, none⟩ (.slice A2 C1.length c2)).setCell ⟨W1.heap.size, 1, none⟩ (.slice A3 M1.length c3)) := by
        have h1 := HZ0.out
        have h5 := HZ1.out
        have h2 := HG.out
        have h3 := hw.size
        have h4 := HB0.out.trans (hw.mono HB0.out.size)
        refine ⟨A2, c2, q, A3, c3, z0, z1, hq, hv.turn t (fun i hi _ e => by omega), hm.turn t (fun i hi e => by have := hm.low i hi; omega), h4.trans (t.below h4.size (fun i hi => by omega))⟩
      simp [MskL.fillR, Act.put, go_sem, e0, k0, k1, f0, f1, -getElem?_eq_none_iff]
      exact hD
    intro f w1 hD
    obtain ⟨A2, c2, q, A3, c3, z0, z1, hq, hv, hm, hb⟩ := hD
    have HF2 := Lib.hid (And.intro hq (And.intro hv (And.intro hm hb)))
    clear hq hv hm hb
    simp only [MskL.fillR, Act.put, List.size_toArray, List.length_cons, List.length_nil, List.setIfInBounds_toArray, List.set_cons_succ, List.set_cons_zero]
    go_wp2
    refine bodyPost_ret (v := .agg #[.slice A2 C1.length c2, .slice A3 M1.length c3]) (by simp [results, Tryz.results16, go_sem, z0, z1]) rfl ?_
    exact ⟨⟨A2, c2, q, A3, c3, rfl, HF2.out.1, HF2.out.2.1.mono HB0.out.size, HF2.out.2.2.1.mono HB0.out.size⟩, HF2.out.2.2.2⟩
end Go.Proofs.YtcekgllahlhaaaaGreat

namespace Go.Proofs.YtcekgllahlhaaaaGreat
namespace MskL
open Go Go.RowKit
set_option linter.unusedVariables false
set_option linter.unusedSimpArgs false
set_option maxRecDepth 100000
/-- The operation o waits for k, itself or by one that it waits for. -/
def waits (l : List Oper) (o : Oper) (k : Nat) : Bool :=
  (o.after.any fun e => Region.binds .any e && e.on == k) || (o.after.any fun e => Region.binds .any e && (match l[e.on]? with | some o' => o'.after.any fun e' => Region.binds .any e' && e'.on == k | none => false))
theorem region_relS2 {P : Program} {Q : Exit → Act → World → Prop} {id : Nat} {l : List Oper} {a : Act} {w : World} (n : Nat) (hn : l.length = n + 2) (C : World → Prop) (D1 D2 : (Nat → Value) → World → Prop) (L : List (Value → World → Prop)) (hst : ∀ r ∈ L, ∀ v w w', r v w → Below w.heap.size w w' → r v w') (hm : P.follows .mixedOrders = true) (hC : C { w with drawn := w.drawn + 1 })
    (hap : apartR l = true) (hbd : boundR 0 l = true) (hsz : (l.all fun o => match o.dst with | some t => decide (t < a.tmps.size) | none => true) = true)
    (hall1 : (match l[n]? with | some o => (List.range n).all (waits l o) | none => false) = true)
    (hall2 : (match l[n + 1]? with | some o => (List.range (n + 1)).all (waits l o) | none => false) = true)
    (how : allR (fun j o => n ≤ j ∨ OweR P Q l C (relG L) a j o) 0 l)
    (hlast1 : ∀ o, l[n]? = some o → ∀ (f : Nat → Value) (w : World), C w → (∀ j, j < n → relG L j (f j) w) → Region.wanted o (yielded l.toArray (fillR 0 l f a).tmps) = true ∧ o.wp P (fillR 0 l f a) w (fun a' w' => ∃ v, a' = (fillR 0 l f a).put o.dst v ∧ D1 (setF f n v) w') Q)
    (hlast2 : ∀ o, l[n + 1]? = some o → ∀ (f : Nat → Value) (w : World), D1 f w → Region.wanted o (yielded l.toArray (fillR 0 l f a).tmps) = true ∧ o.wp P (fillR 0 l f a) w (fun a' w' => ∃ v, a' = (fillR 0 l f a).put o.dst v ∧ D2 (setF f (n + 1) v) w') Q)
    (hend : ∀ f w, D2 f w → Q .normal (fillR 0 l f a) w) : (Code.region id l.toArray true).wp P Q a w := by
  have hin : ∀ (o : Oper) (Lf : Nat → Bool), (∀ e ∈ o.after, Region.binds .any e = true → Lf e.on = true) → (∀ j o, l[j]? = some o → Lf j = true → ∀ e ∈ o.after, Region.binds .any e = true → Lf e.on = true) → ∀ k, waits l o k = true → Lf k = true := by
    intro o Lf hd hcl k h
    unfold waits at h
    rw [Bool.or_eq_true] at h
    rcases h with h | h
    · obtain ⟨i, hi, he⟩ := Array.any_eq_true.1 h
      simp only [Bool.and_eq_true, beq_iff_eq] at he
      have := hd _ (Array.getElem_mem hi) he.1
      rw [he.2] at this
      exact this
    · obtain ⟨i, hi, he⟩ := Array.any_eq_true.1 h
      simp only [Bool.and_eq_true] at he
      have h1 := hd _ (Array.getElem_mem hi) he.1
      have h2 := he.2
      split at h2
      · rename_i o' ho'
        obtain ⟨i', hi', he'⟩ := Array.any_eq_true.1 h2
        simp only [Bool.and_eq_true, beq_iff_eq] at he'
        have := hcl _ _ ho' h1 _ (Array.getElem_mem hi') he'.1
        rw [he'.2] at this
        exact this
      · cases h2
  refine region_inv (fun Lf f X => (∀ j o, l[j]? = some o → Lf j = true → ∀ e ∈ o.after, Region.binds .any e = true → Lf e.on = true) ∧
    ((Lf n = false ∧ Lf (n + 1) = false ∧ C X ∧ ∀ j, j < n → Lf j = true → relG L j (f j) X) ∨ (Lf (n + 1) = false ∧ (∀ j, j ≤ n → Lf j = true) ∧ D1 f X) ∨ ((∀ j, j ≤ n + 1 → Lf j = true) ∧ D2 f X))) hm ?_ hap hbd hsz ?_ ?_
  · intro Lf f h0
    refine ⟨fun j o ho hj => ?_, .inl ⟨h0 n (by omega), h0 (n + 1) (by omega), hC, fun j hj hL => by rw [h0 j (by omega)] at hL; cases hL⟩⟩
    have := (List.getElem?_eq_some_iff.1 ho).1
    rw [h0 j this] at hj
    cases hj
  · refine allR_all _ l 0 fun j o ho => ?_
    rw [Nat.zero_add]
    have hjn : j ≤ n + 1 := by have := (List.getElem?_eq_some_iff.1 ho).1; omega
    intro Lf f X hLj hdeps ⟨hcl, hI⟩
    have hcl' : ∀ i oi, l[i]? = some oi → setL Lf j i = true → ∀ e ∈ oi.after, Region.binds .any e = true → setL Lf j e.on = true := by
      intro i oi hi hLi e he hb
      by_cases hej : e.on = j
      · rw [hej]; exact setL_same _ _
      · rw [setL_other _ hej]
        by_cases hij : i = j
        · subst hij
          rw [ho] at hi
          obtain rfl := Option.some.inj hi
          exact hdeps e he hb
        · rw [setL_other _ hij] at hLi
          exact hcl i oi hi hLi e he hb
    rcases hI with ⟨hLn, hLn1, hCX, hR⟩ | ⟨hLn1, hA, hD⟩ | ⟨hA, _⟩
    · by_cases hj : j = n
      · subst hj
        rw [ho] at hall1
        have hp : ∀ k, k < j → Lf k = true := fun k hk => hin o Lf hdeps hcl k (List.all_eq_true.1 hall1 k (List.mem_range.2 hk))
        obtain ⟨hw, hop⟩ := hlast1 o ho f X hCX (fun k hk => hR k hk (hp k hk))
        refine .inl ⟨hw, Oper.wp_mono (fun a' w' h => ?_) hop⟩
        obtain ⟨v, e, hD⟩ := h
        refine ⟨v, e, hcl', .inr (.inl ⟨by rw [setL_other _ (by omega)]; exact hLn1, fun k hk => ?_, hD⟩)⟩
        by_cases hkj : k = j
        · subst hkj; exact setL_same _ _
        · rw [setL_other _ hkj]; exact hp k (by omega)
      · by_cases hj1 : j = n + 1
        · subst hj1
          rw [ho] at hall2
          have := hin o Lf hdeps hcl n (List.all_eq_true.1 hall2 n (List.mem_range.2 (by omega)))
          rw [hLn] at this
          cases this
        · have hO := allR_of _ l 0 how j o ho
          rw [Nat.zero_add] at hO
          rcases hO with hO | hO
          · omega
          · have hst' : ∀ (v : Value) (w' : World), relG L j v w' → C w' → Below X.heap.size X w' → (setL Lf j) n = false ∧ (setL Lf j) (n + 1) = false ∧ C w' ∧ ∀ k, k < n → setL Lf j k = true → relG L k (setF f j v k) w' := by
              intro v w' hv hC' hb
              refine ⟨by rw [setL_other _ (Ne.symm hj)]; exact hLn, by rw [setL_other _ (Ne.symm hj1)]; exact hLn1, hC', fun k hk hLk => ?_⟩
              by_cases hkj : k = j
              · subst hkj; rw [setF_same]; exact hv
              · rw [setL_other _ hkj] at hLk
                rw [setF_other _ _ hkj]
                exact relG_stable hst k (hR k hk hLk) hb
            rcases hO f X hCX (fun e he hb => by
              have h1 := hdeps e he hb
              have h2 : e.on < j := by have := boundR_spec l 0 hbd j o ho e he hb; omega
              exact hR e.on (by omega) h1) with ⟨hw, hop⟩ | ⟨hw, hu⟩
            · refine .inl ⟨hw, Oper.wp_mono (fun a' w' h => ?_) hop⟩
              obtain ⟨v, e, hv, hC', hb⟩ := h
              exact ⟨v, e, hcl', .inl (hst' v w' hv hC' hb)⟩
            · exact .inr ⟨hw, hcl', .inl (hst' undef X hu hCX (Below.refl _ _))⟩
    · by_cases hj1 : j = n + 1
      · subst hj1
        obtain ⟨hw, hop⟩ := hlast2 o ho f X hD
        refine .inl ⟨hw, Oper.wp_mono (fun a' w' h => ?_) hop⟩
        obtain ⟨v, e, hD⟩ := h
        refine ⟨v, e, hcl', .inr (.inr ⟨fun k hk => ?_, hD⟩)⟩
        by_cases hkj : k = n + 1
        · subst hkj; exact setL_same _ _
        · rw [setL_other _ hkj]; exact hA k (by omega)
      · rw [hA j (by omega)] at hLj; cases hLj
    · rw [hA j hjn] at hLj; cases hLj
  · intro Lf f X hL hI
    rcases hI.2 with ⟨h, _⟩ | ⟨h, _⟩ | ⟨_, h⟩
    · rw [hL n (by omega)] at h; cases h
    · rw [hL (n + 1) (by omega)] at h; cases h
    · exact hend f X h
end MskL
end Go.Proofs.YtcekgllahlhaaaaGreat
