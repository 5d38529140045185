/-
  PrbRef, PrbRef2, PrbRefR, PrbRefS.
-/
import Derived.Test.YtcekgllahlhaaaaGreatMPrB
import Derived.Test.YtcekgllahlhaaaaGreatMTor
namespace Go.Proofs.YtcekgllahlhaaaaGreat
open Go.RowKit Go.Shelf
set_option linter.unusedVariables false
set_option linter.unusedSimpArgs false
set_option maxRecDepth 100000

theorem rHasQ_any (A : Option Addr) (c : Nat) (l : List Int) (x : Int) (w : World) (h : Vec .i64 w A c l) :
    Calls Tryz.prog 39 #[.slice A l.length c, .int .i64 x] w fun e w' => e = .returned (.bool (decide (x ∈ l))) ∧ ∃ q, w' = w.drewN q := by
  obtain ⟨n, hn⟩ : ∃ n, n = l.length := ⟨_, rfl⟩
  have hmx := Nat.le_trans h.room h.most
  have HC := Lib.hid h
  have HN := Lib.hid hn
  have HR := Lib.hid (fun (hh : ∀ j, j < n → l.getD j 0 ≠ x) => show decide (x ∈ l) = false from by
    rw [decide_eq_false_iff_not]
    intro hm
    obtain ⟨j, hj, e⟩ := List.getElem_of_mem hm
    exact hh j (by omega) (by simp [List.getD, hj, e]))
  have HT := Lib.hid (fun (j : Nat) (hj : j < n) (e : l.getD j 0 = x) => show decide (x ∈ l) = true from by
    rw [decide_eq_true_iff, ← e, List.getD_eq_getElem?_getD, List.getElem?_eq_getElem (by omega)]
    exact List.getElem_mem _)
  generalize decide (x ∈ l) = R at *
  rw [← hn] at hmx ⊢
  clear h hn
  go_enter Tryz.func39, Tryz.ntmps39
  go_wp2
  go_loopw [9] (fun i wr => ∃ k : Nat, k ≤ n ∧ i = .int .i64 k ∧ wr = w ∧ Hid (∀ j, j < k → l.getD j 0 ≠ x)) (fun i _ => n - (intOf i).toNat)
  case atStart => exact ⟨0, Nat.zero_le _, rfl, rfl, Lib.hid (fun j hj => absurd hj (by omega))⟩
  case round =>
    obtain ⟨k, hk, rfl, rfl, HD⟩ := hrel
    by_cases hkn : k < n
    · obtain ⟨b, o, rfl, hb, hc⟩ := HC.out.at_ (j := k) (by rw [← HN.out]; exact hkn)
      obtain ⟨y, hy⟩ : ∃ y, y = l.getD k 0 := ⟨_, rfl⟩
      rw [← hy] at hc
      have HY := Lib.hid hy
      have k0 : (0 : Int) ≤ k := by omega
      have kn : (k : Int) < n := by omega
      clear hb hy
      by_cases he : y = x
      · have HF := Lib.hid (HT.out k hkn (by rw [← HY.out, he]))
        have t1 : (y == x) = true := by simpa using he
        have t2 : decide (y = x) = true := by simpa using he
        clear he
        go_wp2
        go_ret
        rw [HF.out]
        exact ⟨rfl, 0, rfl⟩
      · have HD1 := Lib.hid (show ∀ j, j < k + 1 → l.getD j 0 ≠ x from fun j hj => by
          by_cases e : j = k
          · subst e; rw [← HY.out]; exact he
          · exact HD.out j (by omega))
        have t1 : (y == x) = false := by simpa using he
        have t2 : decide (y = x) = false := by simpa using he
        clear he
        go_wp2
        go_roundw
        case rel => exact ⟨k + 1, by omega, by go_num, by first | rfl | trivial, HD1⟩
        case measure => simp [intOf]; omega
    · obtain rfl : k = n := by omega
      have HF := Lib.hid (HR.out HD.out)
      go_wp2
      go_ret
      rw [HF.out]
      exact ⟨rfl, 0, rfl⟩

/-- What is told of centroids, as the document says. -/
def ctE (C : List (List Int)) (v : List Int) : Int := if cenE C = 0 then dimE C v else cenE C
set_option maxHeartbeats 1000000 in
theorem rCent_any (A Av : Option Addr) (c cv : Nat) (C : List (List Int)) (v : List Int) (w : World) (hc : Vecs .i32 w A c C) (hv : Vec .i32 w Av cv v) :
    Calls Tryz.prog 38 #[.slice A C.length c, .slice Av v.length cv] w fun e w' => e = .returned (.int .i64 (ctE C v)) ∧ Below w.heap.size w w' := by
  obtain ⟨n, hn⟩ : ∃ n, n = C.length := ⟨_, rfl⟩
  obtain ⟨nv, hnv⟩ : ∃ n, n = v.length := ⟨_, rfl⟩
  have HCe := Lib.hid (rCenL_any A c C w hc)
  have HE := Lib.hid (show ctE C v = if n = 0 then 240 else if cenB C = true then (if dimC C = nv then 0 else 151) else 230 by
    unfold ctE cenE dimE
    rw [← hn, ← hnv]
    split
    · rfl
    · split
      · rfl
      · rfl)
  generalize ctE C v = E at *
  rw [← hn] at HCe
  rw [← hn, ← hnv]
  by_cases h0 : n = 0
  · have HF := Lib.hid (show E = 240 by rw [HE.out, if_pos h0])
    have t1 : ((n : Int) == 0) = true := by simp [h0]
    have t2 : (n == 0) = true := by simp [h0]
    clear hc hv hn hnv h0
    go_enter Tryz.func38, Tryz.ntmps38
    go_wp2
    go_ret
    rw [HF.out]
    exact ⟨rfl, Below.refl _ _⟩
  · have t1 : ((n : Int) == 0) = false := by simpa using h0
    have t2 : (n == 0) = false := by simpa using h0
    have HF := Lib.hid (show E = if cenB C = true then (if dimC C = nv then 0 else 151) else 230 by rw [HE.out, if_neg h0])
    obtain ⟨b, o, rfl, hbl, hrow⟩ := hc.rd (by omega)
    obtain ⟨Ad, cd, hcell, _⟩ := hrow 0 (C.getD 0 []) (by simp [List.getD, List.getElem?_eq_getElem (show 0 < C.length by omega)])
    obtain ⟨DM, hDM⟩ : ∃ k, k = dimC C := ⟨_, rfl⟩
    have hcell2 : w.cell? ⟨b, o, none⟩ = some (.slice Ad DM cd) := by rw [hDM]; exact hcell
    have HC0 := Lib.hid (fun (X : World) (hX : Below w.heap.size w X) => (hX.cell (World.block_lt_of_cell? _ _ hcell2)).trans hcell2)
    have hroom := hc.room
    have hmost := hc.most
    rw [← hDM] at HF
    have n0 : 0 < n := by omega
    have n1 : (0 : Int) < n := by omega
    generalize cenB C = P at *
    rw [← hn] at hroom
    clear hc hv hn hnv h0 hrow hcell hcell2 hbl hDM HE
    cases P with
    | false =>
      have HF := Lib.hid (show E = 230 by rw [HF.out]; rfl)
      go_enter Tryz.func38, Tryz.ntmps38
      go_wp2_with fail
      refine HCe.out.mono ?_
      rintro e w1 ⟨rfl, hb1⟩
      have HB1 := Lib.hid hb1
      clear hb1
      go_wp2
      go_ret
      rw [HF.out]
      exact ⟨rfl, HB1.out⟩
    | true =>
      by_cases hd : DM = nv
      · have HF2 := Lib.hid (show E = 0 by rw [HF.out]; simp [hd])
        have t3 : ((DM : Int) != (nv : Int)) = false := by simp [hd]
        have t4 : (DM != nv) = false := by simp [hd]
        clear hd
        go_enter Tryz.func38, Tryz.ntmps38
        go_wp2_with fail
        refine HCe.out.mono ?_
        rintro e w1 ⟨rfl, hb1⟩
        have HB1 := Lib.hid hb1
        have z0 := HC0.out w1 hb1
        clear hb1
        go_wp2
        go_ret
        rw [HF2.out]
        exact ⟨rfl, HB1.out⟩
      · have HF2 := Lib.hid (show E = 151 by rw [HF.out]; simp [hd])
        have t3 : ((DM : Int) != (nv : Int)) = true := by simp; omega
        have t4 : (DM != nv) = true := by simpa using hd
        clear hd
        go_enter Tryz.func38, Tryz.ntmps38
        go_wp2_with fail
        refine HCe.out.mono ?_
        rintro e w1 ⟨rfl, hb1⟩
        have HB1 := Lib.hid hb1
        have z0 := HC0.out w1 hb1
        clear hb1
        go_wp2
        go_ret
        rw [HF2.out]
        exact ⟨rfl, HB1.out⟩

set_option maxHeartbeats 1000000 in
theorem rNearE_any (A Av : Option Addr) (c cv : Nat) (C : List (List Int)) (v : List Int) (N : Int) (w : World) (hc : Vecs .i32 w A c C) (hv : Vec .i32 w Av cv v) :
    Calls Tryz.prog 13 #[.slice A C.length c, .slice Av v.length cv, .int .i64 N] w fun e w' => e = .returned (.int .i64 (nrE N C v)) ∧ Below w.heap.size w w' := by
  have HE := Lib.hid (show nrE N C v = if nB N = true then (if right v = true then ctE C v else 150) else 2 from rfl)
  have HR := Lib.hid (rRight_any Av cv v w hv)
  have HC := Lib.hid (fun (X : World) (hX : Below w.heap.size w X) => rCent_any A Av c cv C v X (hc.below hX) (hv.below hX))
  generalize nrE N C v = E at *
  generalize ctE C v = E1 at *
  generalize right v = P at *
  generalize C.length = n at *
  generalize v.length = nv at *
  clear hc hv
  by_cases h1 : N < 1
  · have HF := Lib.hid (show E = 2 by rw [HE.out, if_neg (by rw [nB_iff]; omega)])
    have t1 : decide (N < 1) = true := by simpa using h1
    go_enter Tryz.func13, Tryz.ntmps13
    go_wp2
    go_ret
    rw [HF.out]
    exact ⟨rfl, Below.refl _ _⟩
  · have t1 : decide (N < 1) = false := by simpa using h1
    by_cases h2 : 1048576 < N
    · have HF := Lib.hid (show E = 2 by rw [HE.out, if_neg (by rw [nB_iff]; omega)])
      have t2 : decide (1048576 < N) = true := by simpa using h2
      go_enter Tryz.func13, Tryz.ntmps13
      go_wp2
      go_ret
      rw [HF.out]
      exact ⟨rfl, Below.refl _ _⟩
    · have t2 : decide (1048576 < N) = false := by simpa using h2
      have HF := Lib.hid (show E = if P = true then E1 else 150 by rw [HE.out, if_pos (by rw [nB_iff]; omega)])
      cases P with
      | false =>
        have HF := Lib.hid (show E = 150 by rw [HF.out]; rfl)
        go_enter Tryz.func13, Tryz.ntmps13
        go_wp2_with fail
        refine HR.out.mono ?_
        rintro e w1 ⟨rfl, rfl⟩
        go_wp2
        go_ret
        rw [HF.out]
        exact ⟨rfl, Below.refl _ _⟩
      | true =>
        have HF := Lib.hid (show E = E1 by rw [HF.out]; rfl)
        go_enter Tryz.func13, Tryz.ntmps13
        go_wp2_with fail
        refine HR.out.mono ?_
        rintro e w1 ⟨rfl, rfl⟩
        go_wp2_with fail
        refine (HC.out _ (Below.refl _ _)).mono ?_
        rintro e w2 ⟨rfl, hb2⟩
        have HB2 := Lib.hid hb2
        clear hb2
        go_wp2
        go_ret
        rw [HF.out]
        exact ⟨rfl, HB2.out⟩
end Go.Proofs.YtcekgllahlhaaaaGreat

namespace Go.Proofs.YtcekgllahlhaaaaGreat
open Go.RowKit Go.Shelf
set_option linter.unusedVariables false
set_option linter.unusedSimpArgs false
set_option maxRecDepth 100000

theorem OwnS.snoc {base : Nat} {w' : World} {A5 : Option Addr} {c5 : Nat} {s : List Nat} {x n : Nat} (hn : n = s.length) (ho : w'.ownsRow base 3 1 (.slice A5 (n + 1) c5) (n + 1) ((s.map fun (k : Nat) => Value.int .i64 (k : Int)) ++ [.int .i64 (x : Int)])) : OwnS base w' A5 c5 (s ++ [x]) := by
  subst hn
  unfold OwnS
  rw [List.length_append, List.map_append]
  exact ho

set_option maxHeartbeats 8000000 in
theorem rNearQ_any (A Av : Option Addr) (c cv : Nat) (C : List (List Int)) (v : List Int) (N : Int) (w : World) (hc : Vecs .i32 w A c C) (hv : Vec .i32 w Av cv v) (hr : right v = true) (hC : ∀ x ∈ C, right x = true ∧ x.length = v.length) (h6 : C.length ≤ 6) (h0 : 0 < C.length) (hN : 1 ≤ N) (hN1 : N ≤ 1048576) :
    Calls Tryz.prog 14 #[.slice A C.length c, .slice Av v.length cv, .int .i64 N] w (GivesPl w (askedP (farM C v) C.length N.toNat)) := by
  obtain ⟨n, hn⟩ : ∃ n, n = C.length := ⟨_, rfl⟩
  obtain ⟨nv, hnv⟩ : ∃ n, n = v.length := ⟨_, rfl⟩
  obtain ⟨m, hm⟩ : ∃ m, m = min N.toNat n := ⟨_, rfl⟩
  have hmin : min N (n : Int) = (m : Int) := by omega
  have HL := Lib.hid (show askedP (farM C v) C.length N.toNat = askedP (farM C v) n m by rw [hm, asked_min, hn])
  have HDi := Lib.hid (fun (X : World) (hX : Below w.heap.size w X) (k : Nat) (B : Option Addr) (cb : Nat) (x : List Int) (hx : C[k]? = some x) (hb : Vec .i32 X B cb x) => show Calls Tryz.prog 40 #[.slice B x.length cb, .slice Av v.length cv] X (fun e w' => e = .returned (.int .u64 (farM C v k)) ∧ ∃ q, w' = X.drewN q) from by
    have h := rDist_any B Av cb cv x v X hb (hv.below hX) (hC x (List.mem_of_getElem? hx)).1 hr (hC x (List.mem_of_getElem? hx)).2.symm
    rw [show farM C v k = distM x v by unfold farM; rw [getD_at hx]]
    exact h)
  have HCs := Lib.hid (fun (X : World) (hX : Below w.heap.size w X) => hc.below hX)
  have HAl := Lib.hid (fun k (hk : k ≤ n) => show (askedP (farM C v) n k).length = k by rw [asked_len]; omega)
  have HAm := Lib.hid (fun k j (hj : j ∈ askedP (farM C v) n k) => asked_mem hj)
  have HNx := Lib.hid (fun (k : Nat) (b : Int) (hk : k < n) (h : BestI (farM C v) (askedP (farM C v) n k) n b) => best_next hk h)
  rw [HL.out]
  generalize farM C v = D at *
  rw [← hnv] at HDi
  rw [← hn, ← hnv]
  have HN := Lib.hid hn
  have hn6 : n ≤ 6 := by rw [hn]; exact h6
  have hmn : m ≤ n := by omega
  clear hc hv hr hC h6 h0 hn hnv hm HL
  go_enter Tryz.func14, Tryz.ntmps14
  go_wp2
  go_loopw [7] (fun p wr => ∃ (k : Nat) (B : Option Addr) (d : Nat), k ≤ m ∧ p = .slice B k d ∧ Hid (OwnS w.heap.size wr B d (askedP D n k)) ∧ Hid (Below w.heap.size w wr)) (fun p _ => m - (match p with | .slice _ z _ => z | _ => 0))
  case atStart => exact ⟨0, none, 0, Nat.zero_le _, rfl, Lib.hid (OwnS.nil _ _), Lib.hid (Below.refl _ _)⟩
  case round =>
    obtain ⟨k, B, d, hk, rfl, HO, HB⟩ := hrel
    obtain ⟨WB, rfl⟩ : ∃ X, X = wr := ⟨_, rfl⟩
    by_cases hkm : k < m
    · have t1 : decide ((k : Int) < (m : Int)) = true := by simp; omega
      have t2 : decide (k < m) = true := by simpa using hkm
      have hkn : k < n := by omega
      have HOv := Lib.hid (show Vec .i64 WB B d ((askedP D n k).map fun (k : Nat) => (k : Int)) from OwnS.vec HO.out (fun j hj => by have := HAm.out k j hj; omega))
      have HAk := Lib.hid (HAl.out k (by omega))
      go_wp2
      go_loopw [8, 19] (fun bst i wr2 => ∃ (j : Nat) (bb : Int), j ≤ n ∧ i = .int .i64 j ∧ bst = .int .i64 bb ∧ Hid (BestI D (askedP D n k) j bb) ∧ Hid (∃ q, wr2 = WB.drewN q)) (fun _ i _ => n - (intOf i).toNat)
      case atStart => exact ⟨0, -1, Nat.zero_le _, rfl, rfl, Lib.hid (best_zero _ _), Lib.hid ⟨0, rfl⟩⟩
      case round =>
        obtain ⟨j, bb, hj, rfl, rfl, HI, HW⟩ := hrel
        by_cases hjn : j < n
        · have hwr : Below w.heap.size w WB := HB.out
          obtain ⟨b, o, x, Bx, cb, rfl, hx, hb, cx, hvx⟩ := (HCs.out WB hwr).at_ (i := j) (by rw [← HN.out]; exact hjn)
          have HHs := Lib.hid (fun (r : Nat) => show Calls Tryz.prog 39 #[.slice B k d, .int .i64 (j : Int)] (wr.drewN r) (fun e w' => e = .returned (.bool (decide (j ∈ askedP D n k))) ∧ ∃ q, w' = (wr.drewN r).drewN q) from by
            have h := rHasQ_any B d ((askedP D n k).map fun (k : Nat) => (k : Int)) (j : Int) (wr.drewN r) (by obtain ⟨q, e⟩ := HW.out; rw [e, World.drewN_drewN]; exact HOv.out.drewN _)
            rw [List.length_map, HAk.out] at h
            rw [show decide ((j : Int) ∈ (askedP D n k).map fun (k : Nat) => (k : Int)) = decide (j ∈ askedP D n k) from by
              rw [Bool.eq_iff_iff, decide_eq_true_iff, decide_eq_true_iff, List.mem_map]
              exact ⟨fun ⟨a, ha, e⟩ => by have : a = j := by omega
                                          rw [← this]; exact ha, fun ha => ⟨j, ha, rfl⟩⟩] at h
            exact h)
          have HX := Lib.hid (fun (r : Nat) => HDi.out (wr.drewN r) (by obtain ⟨q, e⟩ := HW.out; rw [e, World.drewN_drewN]; exact below_drewN hwr _) j Bx cb x hx (by obtain ⟨q, e⟩ := HW.out; rw [e, World.drewN_drewN]; exact hvx.drewN _))
          obtain ⟨xl, hxl⟩ : ∃ xl, xl = x.length := ⟨_, rfl⟩
          rw [← hxl] at HX cx
          have cx : wr.cell? ⟨b, o + j, none⟩ = some (.slice Bx xl cb) := by obtain ⟨q, e⟩ := HW.out; rw [e]; exact cx
          have j0 : (0 : Int) ≤ j := by omega
          have j1 : (j : Int) < n := by omega
          clear hx hb hvx hxl hwr
          by_cases hin : j ∈ askedP D n k
          · rw [decide_eq_true hin] at HHs
            have HI1 := Lib.hid (best_in HI.out hin)
            clear hin
            go_wp2
            go_quiet ((first | (go_at_call 39; with_reducible refine Calls.quiet_of (HHs.out _))))
            go_wp2
            go_roundw
            case rel => exact ⟨j + 1, bb, by omega, by go_num, rfl, HI1, Lib.hid (by obtain ⟨q, e⟩ := HW.out; exact ⟨q + nq, by rw [e, World.drewN_drewN]⟩)⟩
            case measure => simp [intOf]; omega
          · rw [decide_eq_false hin] at HHs
            rcases best_ge HI.out with hbb | ⟨z, hbz, hz⟩
            · subst hbb
              have HI1 := Lib.hid (best_first HI.out hin)
              clear hin
              go_wp2
              go_quiet ((first | (go_at_call 39; with_reducible refine Calls.quiet_of (HHs.out _))))
              go_wp2
              go_roundw
              case rel => exact ⟨j + 1, (j : Int), by omega, by go_num, rfl, HI1, Lib.hid (by obtain ⟨q, e⟩ := HW.out; exact ⟨q + nq, by rw [e, World.drewN_drewN]⟩)⟩
              case measure => simp [intOf]; omega
            · subst hbz
              obtain ⟨b', o', y, By, cy, he, hy, _, cz, hvy⟩ := (HCs.out WB HB.out).at_ (i := z) (by rw [← HN.out]; omega)
              injection he with he
              injection he with e1 e2
              subst e1
              subst e2
              have HY := Lib.hid (fun (r : Nat) => HDi.out (wr.drewN r) (by obtain ⟨q, e⟩ := HW.out; rw [e, World.drewN_drewN]; exact below_drewN HB.out _) z By cy y hy (by obtain ⟨q, e⟩ := HW.out; rw [e, World.drewN_drewN]; exact hvy.drewN _))
              obtain ⟨yl, hyl⟩ : ∃ yl, yl = y.length := ⟨_, rfl⟩
              rw [← hyl] at HY cz
              have cz : wr.cell? ⟨b, o + z, none⟩ = some (.slice By yl cy) := by obtain ⟨q, e⟩ := HW.out; rw [e]; exact cz
              have z0 : (0 : Int) ≤ z := by omega
              have z1 : (z : Int) < n := by omega
              have z2 : z < n := by omega
              obtain ⟨dj, hdj⟩ : ∃ dj, dj = D j := ⟨_, rfl⟩
              obtain ⟨dz, hdz⟩ : ∃ dz, dz = D z := ⟨_, rfl⟩
              rw [← hdj] at HX
              rw [← hdz] at HY
              by_cases hle : dz ≤ dj
              · have HI1 := Lib.hid (best_skip HI.out (by rw [← hdj, ← hdz]; exact hle))
                clear hin hdj hdz hy hvy hyl
                go_wp2
                go_quiet ((first | (go_at_call 39; with_reducible refine Calls.quiet_of (HHs.out _)) | (go_at_call 40; with_reducible refine Calls.quiet_of (HX.out _)) | (go_at_call 40; with_reducible refine Calls.quiet_of (HY.out _))))
                go_wp2
                go_roundw
                case rel => exact ⟨j + 1, (z : Int), by omega, by go_num, rfl, HI1, Lib.hid (by obtain ⟨q, e⟩ := HW.out; exact ⟨q + nq, by rw [e, World.drewN_drewN]⟩)⟩
                case measure => simp [intOf]; omega
              · have HI1 := Lib.hid (best_less HI.out hin (by rw [← hdj, ← hdz]; omega))
                clear hin hdj hdz hy hvy hyl
                go_wp2
                go_quiet ((first | (go_at_call 39; with_reducible refine Calls.quiet_of (HHs.out _)) | (go_at_call 40; with_reducible refine Calls.quiet_of (HX.out _)) | (go_at_call 40; with_reducible refine Calls.quiet_of (HY.out _))))
                go_wp2
                go_roundw
                case rel => exact ⟨j + 1, (j : Int), by omega, by go_num, rfl, HI1, Lib.hid (by obtain ⟨q, e⟩ := HW.out; exact ⟨q + nq, by rw [e, World.drewN_drewN]⟩)⟩
                case measure => simp [intOf]; omega
        · obtain rfl : j = n := by omega
          obtain ⟨p, hbp, hpn, hnx⟩ := HNx.out k bb hkn HI.out
          subst hbp
          have HBr := Lib.hid (show Below w.heap.size w wr from by obtain ⟨q, e⟩ := HW.out; rw [e]; exact below_drewN HB.out _)
          have HOr := Lib.hid (show OwnS w.heap.size wr B d (askedP D j k) from by obtain ⟨q, e⟩ := HW.out; rw [e]; exact OwnS.turn (S := fun _ => False) HO.out ⟨rfl, rfl, rfl, Nat.le_refl _, fun _ _ _ => rfl⟩ (fun _ _ _ e => e))
          have HO1 := Lib.hid (OwnS.below HOr.out (bn1 wr (.cells #[.int .i64 (p : Int)] 3)))
          have HR1 := Lib.hid (show Read (wr.alloc (.cells #[.int .i64 (p : Int)] 3)) (some ⟨wr.heap.size, 0, none⟩) 1 1 [.int .i64 (p : Int)] from Read.int (cell_laid _ _ _ 0))
          have HBa := Lib.hid (HBr.out.alloc HBr.out.size (.cells #[.int .i64 (p : Int)] 3))
          have HNn := Lib.hid hnx
          clear hnx
          go_wp2_with (at_builtin; refine gapp_at rfl (.tmp 46) (.tmp 48) appN rfl w.heap.size B d k ((askedP D j k).map fun (k : Nat) => Value.int .i64 (k : Int)) rfl (by have := HO1.out; unfold OwnS at this; rw [HAk.out] at this; exact this) (some ⟨wr.heap.size, 0, none⟩) 1 1 [.int .i64 (p : Int)] rfl HR1.out (by omega) HBa.out.size ?_; intro A5 c5 w4 ho hg _; have HO5 := Lib.hid (show OwnS w.heap.size w4 A5 c5 (askedP D j (k + 1)) from by (rw [HNn.out]; exact OwnS.snoc HAk.out.symm ho)); have HB5 := Lib.hid (HBa.out.grown hg HBa.out.size (fun i hi => (World.ownsRow.lt HO1.out i (by rw [own_blk]; exact hi)).1)); clear ho hg)
          go_roundw
          case rel => exact ⟨k + 1, A5, c5, by omega, rfl, HO5, HB5⟩
          case measure => simp; omega
    · obtain rfl : k = m := by omega
      have t1 : decide ((k : Int) < (k : Int)) = false := by simp
      have HF := Lib.hid (show GivesPl w (askedP D n k) (.returned (.slice B k d)) WB from ⟨B, d, by rw [HAl.out k hmn], HO.out, HB.out⟩)
      go_wp2
      go_ret
      exact HF.out
end Go.Proofs.YtcekgllahlhaaaaGreat

namespace Go.Proofs.YtcekgllahlhaaaaGreat
open Go.RowKit Go.Shelf
open TopL (HitM firstM isKM flat)
set_option linter.unusedVariables false
set_option linter.unusedSimpArgs false
set_option maxRecDepth 100000

theorem chkP_K {kq N : Int} {v : List Int} (h : kq < 1 ∨ 16 < kq) : chkP kq N v = 2 := by
  unfold chkP chkQ isKM
  have : (decide (1 ≤ kq) && decide (kq ≤ 16)) = false := by rcases h with h | h <;> simp <;> omega
  rw [this]
  split <;> rfl
set_option maxHeartbeats 1000000 in
theorem rErrP_any (v : List Int) (Av : Option Addr) (cv : Nat) (kq ts N : Int) (w : World) (hv : Vec .i32 w Av cv v) :
    Calls Tryz.prog 22 #[pv Av v.length cv kq ts N] w fun e w' => e = .returned (.int .i64 (chkP kq N v)) ∧ Below w.heap.size w w' := by
  obtain ⟨W0, hW0⟩ : ∃ W0, W0 = w.alloc (.cells #[.slice Av v.length cv, .int .i64 kq, .int .u64 ts, .int .i64 N] 47) := ⟨_, rfl⟩
  obtain ⟨hl0, hb0⟩ := pbox w Av v.length cv kq ts N
  rw [← hW0] at hl0 hb0
  obtain ⟨g, hg⟩ : ∃ g, g = w.heap.size := ⟨_, rfl⟩
  rw [← hg] at hl0
  have HR := Lib.hid (rRight_any Av cv v W0 (hv.below hb0))
  have HK := Lib.hid (fun (h : kq < 1 ∨ 16 < kq) => chkP_K (N := N) (v := v) h)
  have HNn := Lib.hid (fun (h : N < 1 ∨ 1048576 < N) => show chkP kq N v = 2 from by unfold chkP; rw [if_neg (by rw [nB_iff]; omega)])
  have HF := Lib.hid (fun (h1 : ¬ (kq < 1 ∨ 16 < kq)) (h2 : ¬ (N < 1 ∨ 1048576 < N)) => show chkP kq N v = if right v = true then 0 else 150 from by
    unfold chkP chkQ
    rw [if_pos (by rw [nB_iff]; omega), if_pos (by rw [TopL.isK_iff]; omega)])
  generalize chkP kq N v = E at *
  generalize right v = P at *
  generalize v.length = n at *
  have HB0 := Lib.hid hb0
  have HW0 := Lib.hid hW0
  have HG := Lib.hid hg
  obtain ⟨x0, x1, x2, x3⟩ := hl0
  clear hv hb0 hW0 hg
  unfold pv
  by_cases h1 : kq < 1
  · have HE := Lib.hid (HK.out (.inl h1))
    have t1 : decide (kq < 1) = true := by simpa using h1
    go_enter Tryz.func22, Tryz.ntmps22
    go_wp2_with (rw [← HW0.out, ← HG.out])
    go_ret
    rw [HE.out]
    exact ⟨rfl, HB0.out⟩
  · have t1 : decide (kq < 1) = false := by simpa using h1
    by_cases h2 : 16 < kq
    · have HE := Lib.hid (HK.out (.inr h2))
      have t2 : decide (16 < kq) = true := by simpa using h2
      go_enter Tryz.func22, Tryz.ntmps22
      go_wp2_with (rw [← HW0.out, ← HG.out])
      go_ret
      rw [HE.out]
      exact ⟨rfl, HB0.out⟩
    · have t2 : decide (16 < kq) = false := by simpa using h2
      by_cases h3 : N < 1
      · have HE := Lib.hid (HNn.out (.inl h3))
        have t3 : decide (N < 1) = true := by simpa using h3
        go_enter Tryz.func22, Tryz.ntmps22
        go_wp2_with (rw [← HW0.out, ← HG.out])
        go_ret
        rw [HE.out]
        exact ⟨rfl, HB0.out⟩
      · have t3 : decide (N < 1) = false := by simpa using h3
        by_cases h4 : 1048576 < N
        · have HE := Lib.hid (HNn.out (.inr h4))
          have t4 : decide (1048576 < N) = true := by simpa using h4
          go_enter Tryz.func22, Tryz.ntmps22
          go_wp2_with (rw [← HW0.out, ← HG.out])
          go_ret
          rw [HE.out]
          exact ⟨rfl, HB0.out⟩
        · have t4 : decide (1048576 < N) = false := by simpa using h4
          have hE := HF.out (by omega) (by omega)
          cases P with
          | true =>
            have HE := Lib.hid (show E = 0 by rw [hE]; rfl)
            clear hE
            go_enter Tryz.func22, Tryz.ntmps22
            go_wp2_with (rw [← HW0.out, ← HG.out])
            refine HR.out.mono ?_
            rintro e w1 ⟨rfl, rfl⟩
            go_wp2
            go_ret
            rw [HE.out]
            exact ⟨rfl, HB0.out⟩
          | false =>
            have HE := Lib.hid (show E = 150 by rw [hE]; rfl)
            clear hE
            go_enter Tryz.func22, Tryz.ntmps22
            go_wp2_with (rw [← HW0.out, ← HG.out])
            refine HR.out.mono ?_
            rintro e w1 ⟨rfl, rfl⟩
            go_wp2
            go_ret
            rw [HE.out]
            exact ⟨rfl, HB0.out⟩

theorem dimB_no {l : List Rv} {v : List Int} {k : Nat} {p : Rv} (h : l[k]? = some p) (hp : p.2.length ≠ v.length) : fnearE l v = 151 := by
  unfold fnearE dimB
  rw [if_neg]
  rw [List.all_eq_true]
  intro hh
  have := hh p (List.mem_of_getElem? h)
  simp at this
  exact hp this
theorem dimB_yes {l : List Rv} {v : List Int} (h : ∀ j p, j < l.length → l[j]? = some p → p.2.length = v.length) : fnearE l v = 0 := by
  unfold fnearE dimB
  rw [if_pos]
  rw [List.all_eq_true]
  intro p hp
  obtain ⟨j, hj, e⟩ := List.getElem_of_mem hp
  simp [h j p hj (by rw [List.getElem?_eq_getElem hj, e])]

set_option maxHeartbeats 4000000 in
theorem found_any (Ar : Option Addr) (cr : Nat) (q : List Pr) (v : List Int) (Av : Option Addr) (cv : Nat) (kq : Int) (w : World) (hr : Rws w Ar cr q) (hv : Vec .i32 w Av cv v) (hrr : rightR (rvs q) = true) (hvr : right v = true) (hk : isKM kq = true) (hq : q.length ≤ 2000) :
    Calls Tryz.prog 48 #[.slice Ar q.length cr, .agg #[.slice Av v.length cv, .int .i64 kq]] w (GivesHE w (nearL kq.toNat (rvs q) v) (fnearE (rvs q) v)) := by
  obtain ⟨n, hn⟩ : ∃ n, n = q.length := ⟨_, rfl⟩
  obtain ⟨nv, hnv⟩ : ∃ n, n = v.length := ⟨_, rfl⟩
  obtain ⟨g, hg⟩ : ∃ g, g = w.heap.size := ⟨_, rfl⟩
  obtain ⟨W0, hW0⟩ : ∃ W0, W0 = w.alloc (.cells #[.slice Av nv cv, .int .i64 kq] 44) := ⟨_, rfl⟩
  have hb0 : Below w.heap.size w W0 := by rw [hW0]; exact bn1 _ _
  have x0 : W0.cell? ⟨g, 0, none⟩ = some (.slice Av nv cv) := by rw [hW0, hg]; exact cell_laid _ _ _ 0
  have x1 : W0.cell? ⟨g, 1, none⟩ = some (.int .i64 kq) := by rw [hW0, hg]; exact cell_laid _ _ _ 1
  have HS := Lib.hid (fun (X : World) (hX : Below W0.heap.size W0 X) => show X.cell? ⟨g, 0, none⟩ = some (.slice Av nv cv) ∧ X.cell? ⟨g, 1, none⟩ = some (.int .i64 kq) from ⟨(hX.cell (World.block_lt_of_cell? _ _ x0)).trans x0, (hX.cell (World.block_lt_of_cell? _ _ x1)).trans x1⟩)
  have HRw := Lib.hid (fun (X : World) (hX : Below W0.heap.size W0 X) => (hr.below hb0).below hX)
  have HRr := Lib.hid (fun (k : Nat) (p : Pr) (hp : q[k]? = some p) => show right p.x = true from by
    unfold rightR at hrr
    rw [List.all_eq_true] at hrr
    exact hrr (p.i, p.x) (List.mem_of_getElem? (rvs_at hp)))
  have HDi := Lib.hid (fun (X : World) (hX : Below W0.heap.size W0 X) (B : Option Addr) (cb : Nat) (x : List Int) (hx : Vec .i32 X B cb x) (hxr : right x = true) (hl : v.length = x.length) => show Calls Tryz.prog 40 #[.slice B x.length cb, .slice Av v.length cv] X (fun e w' => e = .returned (.int .u64 (distM x v)) ∧ Below X.heap.size X w') from
    (rDist_any B Av cb cv x v X hx ((hv.below hb0).below hX) hxr hvr hl).mono fun e w' ⟨h1, z, h2⟩ => ⟨h1, by rw [h2]; exact below_drewN (Below.refl _ _) z⟩)
  have HFi := Lib.hid (fun (k : Nat) (hk : k ≤ 1000000000) (X : World) (A : Option Addr) (c : Nat) (l : List HitM) (hl : TopL.Hits X A c l) (hb : l.length ≤ 1000000000) => TopL.rFirst_any A c k l X hl hb hk)
  have HE1 := Lib.hid (fun (k : Nat) (p : Pr) (hp : q[k]? = some p) (hx : p.x.length ≠ v.length) => dimB_no (rvs_at hp) hx)
  have HE0 := Lib.hid (fun (hh : ∀ j p, j < q.length → q[j]? = some p → p.x.length = v.length) => dimB_yes (l := rvs q) (v := v) (fun j p hj hp => by
      rw [rvs_length] at hj
      have hq := List.getElem?_eq_getElem hj
      have := rvs_at hq
      rw [this] at hp
      injection hp with hp
      rw [← hp]
      exact hh j _ hj hq))
  have HL := Lib.hid (show nearL kq.toNat (rvs q) v = if fnearE (rvs q) v = 0 then firstM kq.toNat (hitL (rvs q) v) else [] from nearL_E)
  obtain ⟨K, rfl, hK⟩ : ∃ K : Nat, kq = (K : Int) ∧ K ≤ 16 := by rw [TopL.isK_iff] at hk; exact ⟨kq.toNat, by omega, by omega⟩
  have hKt : ((K : Int)).toNat = K := by omega
  rw [hKt] at HL ⊢
  generalize nearL K (rvs q) v = RL at *
  generalize fnearE (rvs q) v = RE at *
  rw [← hnv] at HDi HE1 HE0
  rw [← hn] at HE0 hq
  rw [← hn, ← hnv]
  have HN := Lib.hid hn
  have HVR := Lib.hid hvr
  have HNV := Lib.hid hnv
  have HB0 := Lib.hid hb0
  have HW0 := Lib.hid hW0
  have HG := Lib.hid hg
  clear hr hv hrr hvr hk hn hnv hg hW0 hb0 hKt
  go_enter Tryz.func48, Tryz.ntmps48
  go_wp2_with (rw [← HW0.out, ← HG.out])
  go_loopw [6, 11] (fun p i wr => ∃ (j : Nat) (A : Option Addr) (c : Nat), j ≤ n ∧ i = .int .i64 j ∧ p = .slice A j c ∧ Hid (OwnH W0.heap.size wr A c (hitL (rvs (q.take j)) v)) ∧ Hid (Below W0.heap.size W0 wr) ∧ Hid (∀ i p, i < j → q[i]? = some p → p.x.length = nv)) (fun _ i _ => n - (intOf i).toNat)
  case atStart => exact ⟨0, none, 0, Nat.zero_le _, rfl, rfl, Lib.hid (OwnH.nil _ _), Lib.hid (Below.refl _ _), Lib.hid (fun i p hi => absurd hi (by omega))⟩
  case round =>
    obtain ⟨k, A1, c1, hk, rfl, rfl, HO, HB, HD⟩ := hrel
    by_cases hkn : k < n
    · obtain ⟨b, o, p, rfl, hp, hb, c0', c1', hvx, hu⟩ := (HRw.out wr HB.out).at_ (i := k) (by rw [← HN.out]; exact hkn)
      obtain ⟨xl, hxl⟩ : ∃ xl, xl = p.x.length := ⟨_, rfl⟩
      rw [← hxl] at c1'
      obtain ⟨V, hV⟩ : ∃ V, V = wr.alloc (.cells #[.int .u64 p.i, .slice p.B xl p.c] 69) := ⟨_, rfl⟩
      have hbV : Below wr.heap.size wr V := by rw [hV]; exact bn1 _ _
      have hBV := HB.out.trans (hbV.mono HB.out.size)
      have v0 : V.cell? ⟨wr.heap.size, 0, none⟩ = some (.int .u64 p.i) := by rw [hV]; exact cell_laid _ _ _ 0
      have v1 : V.cell? ⟨wr.heap.size, 1, none⟩ = some (.slice p.B xl p.c) := by rw [hV]; exact cell_laid _ _ _ 1
      obtain ⟨y0, y1⟩ := HS.out V hBV
      have hlen : (hitL (rvs (q.take k)) v).length = k := by rw [hit_length, rvs_length, List.length_take, ← HN.out]; omega
      have k0 : (0 : Int) ≤ k := by omega
      have kn : (k : Int) < n := by omega
      have HX := Lib.hid hxl
      have HP := Lib.hid hp
      have HVV := Lib.hid hV
      have HBV := Lib.hid hBV
      have HbV := Lib.hid hbV
      have HLn := Lib.hid hlen
      by_cases hd : xl = nv
      · have t1 : ((xl : Int) != (nv : Int)) = false := by simp [hd]
        have t2 : (xl != nv) = false := by simp [hd]
        have hdi := HDi.out V.drew (hBV.trans ((bd0 V).mono hBV.size)) p.B p.c p.x ((hvx.below hbV).below (bd0 V)) (HRr.out k p hp) (by rw [← HX.out]; omega)
        rw [← hxl] at hdi
        obtain ⟨d, hdd⟩ : ∃ d, d = distM p.x v := ⟨_, rfl⟩
        rw [← hdd] at hdi
        have HDD := Lib.hid hdi
        have HD1 := Lib.hid (show ∀ i p, i < k + 1 → q[i]? = some p → p.x.length = nv from fun i p' hi hp' => by
          by_cases e : i = k
          · subst e; rw [HP.out] at hp'; injection hp' with hp'; rw [← hp', ← HX.out]; exact hd
          · exact HD.out i p' (by omega) hp')
        have HT := Lib.hid (show hitL (rvs (q.take (k + 1))) v = hitL (rvs (q.take k)) v ++ [(p.i, d)] from by
          rw [List.take_add_one, HP.out, rvs_append]
          unfold hitL
          rw [List.map_append]
          have hdE : distE p.x v = 0 := by rw [dist_dim (HRr.out k p HP.out) HVR.out]; simp [← HX.out, hd, HNV.out]
          simp [rvs, hitM, distD, hdE, hdd])
        clear hp hb hvx hu hxl hV hbV hBV hlen hd hdi hdd
        go_upto_region 7 with (rw [← HVV.out])
        go_region_law (first
          | (go_simp; go_at_call 40; (with_reducible refine HDD.out.mono ?_); rintro e w2 ⟨rfl, hb2⟩; have hv2 := (bd0 V).trans hb2; have u0 := (hv2.cell (World.block_lt_of_cell? _ _ v0)).trans v0; have u1 := (hv2.cell (World.block_lt_of_cell? _ _ v1)).trans v1; obtain ⟨u2, u3⟩ := HS.out w2 (HBV.out.trans (hv2.mono HBV.out.size)); have HB2 := Lib.hid ((HBV.out.trans (hv2.mono HBV.out.size)).alloc (Nat.le_trans HBV.out.size hv2.size) (.cells #[.int .u64 p.i, .int .u64 d] 63)); have HO2 := Lib.hid (OwnH.below HO.out ((HbV.out.trans (hv2.mono HbV.out.size)).trans ((bn1 w2 (.cells #[.int .u64 p.i, .int .u64 d] 63)).mono (Nat.le_trans HbV.out.size hv2.size)))); have HR2 := Lib.hid (show Read (w2.alloc (.cells #[.int .u64 p.i, .int .u64 d] 63)) (some ⟨w2.heap.size, 0, none⟩) 1 2 [.int .u64 p.i, .int .u64 d] from Read.two rfl rfl (cell_laid _ _ _ 0) (cell_laid _ _ _ 1)); clear hv2 hb2)
          | (refine gapp_step (by rfl) _ _ appH (by rfl) W0.heap.size A1 c1 k (flat (hitL (rvs (q.take k)) v)) (by rfl) (by have := HO2.out; unfold OwnH at this; rw [HLn.out] at this; exact this) (some ⟨w2.heap.size, 0, none⟩) 1 1 [.int .u64 p.i, .int .u64 d] (by rfl) HR2.out (by omega) HB2.out.size ?_; intro A5 c5 w4 ho hg4 _; have HO5 := Lib.hid (show OwnH W0.heap.size w4 A5 c5 (hitL (rvs (q.take (k + 1))) v) from by (rw [HT.out]; unfold OwnH; rw [List.length_append, HLn.out, TopL.flat_append]; exact ho)); have HB5 := Lib.hid (HB2.out.grown hg4 HB2.out.size (fun i hi => (World.ownsRow.lt HO2.out i (by rw [own_blk]; exact hi)).1)); clear ho hg4))
        all_goals (
          go_wp2
          go_roundw
          case rel => exact ⟨k + 1, A5, c5, by omega, by go_num, rfl, HO5, HB5, HD1⟩
          case measure => simp [intOf]; omega)
      · have t1 : ((xl : Int) != (nv : Int)) = true := by simp; omega
        have t2 : (xl != nv) = true := by simpa using hd
        have hE := HE1.out k p hp (by rw [← hxl]; exact hd)
        have hRL : RL = [] := by rw [HL.out, if_neg (by rw [hE]; decide)]
        have HRL := Lib.hid (And.intro hE hRL)
        clear hp hb hvx hu hxl hV hbV hBV hlen hd hE hRL
        go_wp2_with (rw [← HVV.out])
        go_ret2
        rw [HRL.out.1, HRL.out.2]
        exact OwnH.nils (HB0.out.trans (HBV.out.mono HB0.out.size)) 151
    · obtain rfl : k = n := by omega
      have hE := HE0.out (fun j p hj hp => HD.out j p hj hp)
      have hlen : (hitL (rvs (q.take k)) v).length = k := by rw [hit_length, rvs_length, List.length_take, ← HN.out]; omega
      have ht : q.take k = q := by rw [HN.out, List.take_length]
      have hRL : RL = firstM K (hitL (rvs q) v) := by rw [HL.out, if_pos hE]
      have hhits := HO.out.hits
      have hf := HFi.out K (by omega) wr A1 c1 _ hhits (by rw [hlen]; omega)
      rw [hlen, ht, ← hRL] at hf
      have HF := Lib.hid hf
      obtain ⟨y0, y1⟩ := HS.out wr HB.out
      subst hE
      clear hlen ht hRL hhits hf
      go_wp2_with fail
      refine HF.out.mono ?_
      rintro e w5 ⟨vv, rfl, B5, c5, rfl, ho5, hb5⟩
      obtain ⟨m5, hm5⟩ : ∃ m, m = RL.length := ⟨_, rfl⟩
      have HF5 := Lib.hid (show GivesHE w RL 0 (.returned (.tuple #[.slice B5 m5 c5, .int .i64 0])) w5 from ⟨B5, c5, by rw [hm5], World.ownsRow.mono ho5 (Nat.le_trans HB0.out.size HB.out.size), HB0.out.trans ((HB.out.trans (hb5.mono HB.out.size)).mono HB0.out.size)⟩)
      rw [← hm5]
      clear ho5 hb5 hm5
      go_wp2
      go_ret2
      exact HF5.out
end Go.Proofs.YtcekgllahlhaaaaGreat

namespace Go.Proofs.YtcekgllahlhaaaaGreat
open Go.RowKit Go.Shelf
open TopL (HitM firstM isKM flat)
set_option linter.unusedVariables false
set_option linter.unusedSimpArgs false
set_option maxRecDepth 100000

theorem ctE_set {C : List (List Int)} {v : List Int} : (cenE C = 0 ∧ ctE C v = dimE C v) ∨ (cenE C = 240 ∧ ctE C v = 240) ∨ (cenE C = 230 ∧ ctE C v = 230) := by
  unfold ctE cenE
  split
  · exact .inr (.inl ⟨rfl, rfl⟩)
  · split
    · exact .inl ⟨rfl, rfl⟩
    · exact .inr (.inr ⟨rfl, rfl⟩)
theorem selR_right {C : List (List Int)} {S : List Nat} {q : List Pr} (h : rightR (rvs q) = true) (k : Nat) : rightR (rvs (selR C S q k)) = true := by
  unfold rightR at *
  rw [List.all_eq_true] at *
  intro p hp
  obtain ⟨r, hr, e⟩ := List.mem_map.1 hp
  exact h p (List.mem_map.2 ⟨r, List.mem_of_mem_take (List.mem_filter.1 hr).1, e⟩)
/-- What is told of rows that are looked at: the same, once they may be, and are as long. -/
theorem rows_tell {kq : Int} {l : List Rv} {v : List Int} (hQ : chkQ kq v = 0) (hr : rightR l = true) (hl : l.length ≤ 2000) : rowsE kq l v = fnearE l v ∧ rowsL kq l v = nearL kq.toNat l v := by
  have h1 : refR l = 0 := by unfold refR; rw [if_pos hr, if_neg (by omega)]
  have h2 : rowsE kq l v = fnearE l v := by unfold rowsE; rw [if_pos hQ, if_pos h1]
  exact ⟨h2, by unfold rowsL; rw [h2, nearL_E]⟩

set_option maxHeartbeats 16000000 in
theorem rRowsQ_any (Ar : Option Addr) (cr : Nat) (q : List Pr) (A : Option Addr) (c : Nat) (C : List (List Int)) (v : List Int) (Av : Option Addr) (cv : Nat) (kq ts N : Int) (w : World) (hr : Rws w Ar cr q) (hc : Vecs .i32 w A c C) (hv : Vec .i32 w Av cv v) (hq : q.length ≤ 2000) :
    Calls Tryz.prog 25 #[.slice Ar q.length cr, .slice A C.length c, pv Av v.length cv kq ts N] w (GivesHE w (prL kq N (rvs q) C v) (prE kq N (rvs q) C v)) := by
  obtain ⟨W0, hW0⟩ : ∃ W0, W0 = w.alloc (.cells #[.slice Av v.length cv, .int .i64 kq, .int .u64 ts, .int .i64 N] 47) := ⟨_, rfl⟩
  obtain ⟨hl0, hb0⟩ := pbox w Av v.length cv kq ts N
  rw [← hW0] at hl0 hb0
  obtain ⟨g, hg⟩ : ∃ g, g = w.heap.size := ⟨_, rfl⟩
  rw [← hg] at hl0
  have HP := Lib.hid (fun (X : World) (hX : Below W0.heap.size W0 X) => hl0.below hX hl0.lt)
  have HEr := Lib.hid (rErrP_any v Av cv kq ts N W0 (hv.below hb0))
  have HCt := Lib.hid (fun (X : World) (hX : Below W0.heap.size W0 X) => rCent_any A Av c cv C v X ((hc.below hb0).below hX) ((hv.below hb0).below hX))
  have HRi := Lib.hid (fun (X : World) (B : Option Addr) (cb : Nat) (x : List Int) (hx : Vec .i32 X B cb x) => rRight_any B cb x X hx)
  have HRw := Lib.hid (fun (X : World) (hX : Below W0.heap.size W0 X) => (hr.below hb0).below hX)
  have HNq := Lib.hid (fun (X : World) (hX : Below W0.heap.size W0 X) hvr hC h6 h0 h1 h2 => rNearQ_any A Av c cv C v N X ((hc.below hb0).below hX) ((hv.below hb0).below hX) hvr hC h6 h0 h1 h2)
  have HNe := Lib.hid (fun (X : World) (hX : Below W0.heap.size W0 X) (B : Option Addr) (cb : Nat) (x : List Int) (hx : Vec .i32 X B cb x) h1 hxr hall => rNearest_any A B c cb C x X ((hc.below hb0).below hX) hx h1 hxr hall)
  have HFo := Lib.hid (fun (X : World) (hX : Below W0.heap.size W0 X) (A2 : Option Addr) (c2 : Nat) (q2 : List Pr) (h : Rws X A2 c2 q2) hrr hvr hk hq => found_any A2 c2 q2 v Av cv kq X h ((hv.below hb0).below hX) hrr hvr hk hq)
  have HE := Lib.hid (show prE kq N (rvs q) C v = if rfE kq N (rvs q) C v = 0 then (if dimC C = v.length then (if belE C (rvs q) = 0 then rowsE kq (belL C (askM C v N) (rvs q)) v else 151) else 151) else rfE kq N (rvs q) C v from rfl)
  have HRf := Lib.hid (show rfE kq N (rvs q) C v = if chkP kq N v = 0 then (if cenE C = 0 then (if rightR (rvs q) = true then 0 else 170) else cenE C) else chkP kq N v from rfl)
  have HL := Lib.hid (show prL kq N (rvs q) C v = if prE kq N (rvs q) C v = 0 then rowsL kq (belL C (askM C v N) (rvs q)) v else [] from rfl)
  have HOk := Lib.hid (fun (h : chkP kq N v = 0) => chkP_ok h)
  have HCs := Lib.hid (ctE_set (C := C) (v := v))
  have HSl := Lib.hid (fun (S : List Nat) => selR_rvs C S q)
  obtain ⟨RL, hRL⟩ : ∃ X, X = prL kq N (rvs q) C v := ⟨_, rfl⟩
  obtain ⟨R, hR⟩ : ∃ X, X = prE kq N (rvs q) C v := ⟨_, rfl⟩
  rw [← hRL, ← hR] at HL
  rw [← hR] at HE
  rw [← hRL, ← hR]
  obtain ⟨E1, hE1⟩ : ∃ E, E = chkP kq N v := ⟨_, rfl⟩
  rw [← hE1] at HEr HOk HRf
  obtain ⟨CT, hCT⟩ : ∃ E, E = ctE C v := ⟨_, rfl⟩
  rw [← hCT] at HCt HCs
  obtain ⟨n, hn⟩ : ∃ n, n = C.length := ⟨_, rfl⟩
  obtain ⟨nv, hnv⟩ : ∃ n, n = v.length := ⟨_, rfl⟩
  obtain ⟨nq, hnq⟩ : ∃ n, n = q.length := ⟨_, rfl⟩
  rw [← hnv] at hl0 hW0
  rw [← hn, ← hnv, ← hnq]
  rw [← hn] at HCt HNe
  rw [← hnv] at HCt HEr HFo HP HE
  rw [← hnq] at hq
  have HN := Lib.hid hn
  have HNv := Lib.hid hnv
  have HNqq := Lib.hid hnq
  have HB0 := Lib.hid hb0
  have HW0 := Lib.hid hW0
  have HG := Lib.hid hg
  have HNil := Lib.hid (fun (h : R ≠ 0) => show RL = [] from by rw [HL.out, if_neg h])
  obtain ⟨x0, x1, x2, x3⟩ := hl0
  clear hr hc hv hb0 hW0 hg hE1 hCT hn hnv hnq hRL hR
  unfold pv at *
  by_cases h1 : E1 = 0
  · obtain ⟨hNB, hQ⟩ := HOk.out h1
    obtain ⟨hK, hvr⟩ := chkQ_ok hQ
    by_cases h2 : cenE C = 0
    · obtain ⟨c0, c6, call⟩ := cenE_ok h2
      have hct : CT = dimE C v := by
        rcases HCs.out with h | h | h
        · exact h.2
        · omega
        · omega
      have hrf : rfE kq N (rvs q) C v = if rightR (rvs q) = true then 0 else 170 := by rw [HRf.out, if_pos h1, if_pos h2]
      have t1 : (CT == 240) = false := by rw [hct]; unfold dimE; split <;> rfl
      have t2 : (CT == 230) = false := by rw [hct]; unfold dimE; split <;> rfl
      have HH := Lib.hid (And.intro hNB (And.intro hQ (And.intro hK (And.intro hvr (And.intro c0 (And.intro c6 (And.intro call (And.intro hct hrf))))))))
      subst h1
      clear hNB hQ hK hvr c0 c6 call hct hrf h2
      go_enter Tryz.func25, Tryz.ntmps25
      go_wp2_with (rw [← HW0.out, ← HG.out])
      refine HEr.out.mono ?_
      rintro e w1 ⟨rfl, hb1⟩
      have HB1 := Lib.hid hb1
      obtain ⟨y0, y1, y2, y3⟩ := HP.out w1 hb1
      clear hb1 x0 x1 x2 x3
      go_wp2_with fail
      refine (HCt.out w1 HB1.out).mono ?_
      rintro e w2 ⟨rfl, hb2⟩
      have HB2 := Lib.hid (HB1.out.trans (hb2.mono HB1.out.size))
      clear hb2 y0 y1 y2 y3
      go_wp2
      go_loopw [37] (fun i wr => ∃ j : Nat, j ≤ nq ∧ i = .int .i64 j ∧ Hid (Below W0.heap.size W0 wr) ∧ Hid (∀ i p, i < j → q[i]? = some p → right p.x = true)) (fun i _ => nq - (intOf i).toNat)
      case atStart => exact ⟨0, Nat.zero_le _, rfl, HB2, Lib.hid (fun i p hi => absurd hi (by omega))⟩
      case round =>
        obtain ⟨k, hk, rfl, HB, HD⟩ := hrel
        by_cases hkn : k < nq
        · obtain ⟨b, o, p, rfl, hp, hb, c0', c1', hvx, hu⟩ := (HRw.out wr HB.out).at_ (i := k) (by rw [← HNqq.out]; exact hkn)
          obtain ⟨xl, hxl⟩ : ∃ xl, xl = p.x.length := ⟨_, rfl⟩
          rw [← hxl] at c1'
          obtain ⟨V, hV⟩ : ∃ V, V = wr.alloc (.cells #[.int .u64 p.i, .slice p.B xl p.c] 69) := ⟨_, rfl⟩
          have hbV : Below wr.heap.size wr V := by rw [hV]; exact bn1 _ _
          have HBV := Lib.hid (HB.out.trans (hbV.mono HB.out.size))
          have v0 : V.cell? ⟨wr.heap.size, 0, none⟩ = some (.int .u64 p.i) := by rw [hV]; exact cell_laid _ _ _ 0
          have v1 : V.cell? ⟨wr.heap.size, 1, none⟩ = some (.slice p.B xl p.c) := by rw [hV]; exact cell_laid _ _ _ 1
          have hri := HRi.out V p.B p.c p.x (hvx.below hbV)
          rw [← hxl] at hri
          have HVV := Lib.hid hV
          have HPp := Lib.hid hp
          have k0 : (0 : Int) ≤ k := by omega
          have kn : (k : Int) < nq := by omega
          clear hp hb hvx hu hxl hV hbV
          cases hrx : right p.x with
          | true =>
            have HD1 := Lib.hid (show ∀ i p, i < k + 1 → q[i]? = some p → right p.x = true from fun i p' hi hp' => by
              by_cases e : i = k
              · subst e; rw [HPp.out] at hp'; injection hp' with hp'; rw [← hp']; exact hrx
              · exact HD.out i p' (by omega) hp')
            rw [hrx] at hri
            have HRI := Lib.hid hri
            clear hri hrx
            go_wp2_with (rw [← HVV.out])
            refine HRI.out.mono ?_
            rintro e w5 ⟨rfl, rfl⟩
            go_wp2
            go_roundw
            case rel => exact ⟨k + 1, by omega, by go_num, HBV, HD1⟩
            case measure => simp [intOf]; omega
          | false =>
            have hF : R = 170 := by
              have hnr : rightR (rvs q) = false := by
                rw [Bool.eq_false_iff]
                intro hh
                unfold rightR at hh
                rw [List.all_eq_true] at hh
                have := hh (p.i, p.x) (List.mem_of_getElem? (rvs_at HPp.out))
                rw [hrx] at this
                cases this
              rw [HE.out, HH.out.2.2.2.2.2.2.2.2, hnr]
              rfl
            have HF := Lib.hid (And.intro hF (HNil.out (by rw [hF]; decide)))
            rw [hrx] at hri
            have HRI := Lib.hid hri
            clear hri hrx hF
            go_wp2_with (rw [← HVV.out])
            refine HRI.out.mono ?_
            rintro e w5 ⟨rfl, rfl⟩
            go_wp2
            go_ret2
            rw [HF.out.1, HF.out.2]
            exact OwnH.nils (HB0.out.trans (HBV.out.mono HB0.out.size)) 170
        · obtain rfl : k = nq := by omega
          have hrr : rightR (rvs q) = true := by
            unfold rightR
            rw [List.all_eq_true]
            intro p hp
            obtain ⟨r, hr, e⟩ := List.mem_map.1 hp
            obtain ⟨j, hj, e2⟩ := List.getElem_of_mem hr
            rw [← e]
            exact HD.out j r (by rw [HNqq.out]; exact hj) (by rw [List.getElem?_eq_getElem hj, e2])
          have hrf : rfE kq N (rvs q) C v = 0 := by rw [HH.out.2.2.2.2.2.2.2.2, hrr]; rfl
          have HRR := Lib.hid hrr
          have HRE := Lib.hid (show R = if dimC C = nv then (if belE C (rvs q) = 0 then rowsE kq (belL C (askM C v N) (rvs q)) v else 151) else 151 by rw [HE.out, if_pos hrf])
          clear hrr hrf
          by_cases hd : dimC C = nv
          · have hCT : CT = 0 := by rw [HH.out.2.2.2.2.2.2.2.1]; unfold dimE; rw [← HNv.out, if_pos hd]
            have HRE1 := Lib.hid (show R = if belE C (rvs q) = 0 then rowsE kq (belL C (askM C v N) (rvs q)) v else 151 by rw [HRE.out, if_pos hd])
            have HDd := Lib.hid hd
            subst hCT
            clear hd t1 t2
            go_wp2
            go_loopw [51] (fun i wr => ∃ j : Nat, j ≤ k ∧ i = .int .i64 j ∧ Hid (Below W0.heap.size W0 wr) ∧ Hid (∀ i p, i < j → q[i]? = some p → p.x.length = dimC C)) (fun i _ => k - (intOf i).toNat)
            case atStart => exact ⟨0, Nat.zero_le _, rfl, HB, Lib.hid (fun i p hi => absurd hi (by omega))⟩
            case round =>
              obtain ⟨j, hj, rfl, HB3, HD3⟩ := hrel
              by_cases hjn : j < k
              · obtain ⟨b, o, p, rfl, hp, hb, c0', c1', hvx, hu⟩ := (HRw.out wr HB3.out).at_ (i := j) (by rw [← HNqq.out]; exact hjn)
                obtain ⟨xl, hxl⟩ : ∃ xl, xl = p.x.length := ⟨_, rfl⟩
                rw [← hxl] at c1'
                obtain ⟨V, hV⟩ : ∃ V, V = wr.alloc (.cells #[.int .u64 p.i, .slice p.B xl p.c] 69) := ⟨_, rfl⟩
                have hbV : Below wr.heap.size wr V := by rw [hV]; exact bn1 _ _
                have hBV := HB3.out.trans (hbV.mono HB3.out.size)
                have HBV := Lib.hid hBV
                have v0 : V.cell? ⟨wr.heap.size, 0, none⟩ = some (.int .u64 p.i) := by rw [hV]; exact cell_laid _ _ _ 0
                have v1 : V.cell? ⟨wr.heap.size, 1, none⟩ = some (.slice p.B xl p.c) := by rw [hV]; exact cell_laid _ _ _ 1
                obtain ⟨y0, y1, y2, y3⟩ := HP.out V hBV
                have HVV := Lib.hid hV
                have HPp := Lib.hid hp
                have HXl := Lib.hid hxl
                have k0 : (0 : Int) ≤ j := by omega
                have kn : (j : Int) < k := by omega
                clear hp hb hvx hu hxl hV hbV hBV
                by_cases hd : xl = nv
                · have t1 : ((xl : Int) != (nv : Int)) = false := by simp [hd]
                  have t2 : (xl != nv) = false := by simp [hd]
                  have HD1 := Lib.hid (show ∀ i p, i < j + 1 → q[i]? = some p → p.x.length = dimC C from fun i p' hi hp' => by
                    by_cases e : i = j
                    · subst e; rw [HPp.out] at hp'; injection hp' with hp'; rw [← hp', ← HXl.out, hd, HDd.out]
                    · exact HD3.out i p' (by omega) hp')
                  clear hd
                  go_wp2_with (rw [← HVV.out])
                  go_roundw
                  case rel => exact ⟨j + 1, by omega, by go_num, by first | exact HBV | (rw [← HVV.out]; exact HBV), HD1⟩
                  case measure => simp [intOf]; omega
                · have t1 : ((xl : Int) != (nv : Int)) = true := by simp; omega
                  have t2 : (xl != nv) = true := by simpa using hd
                  have hF : R = 151 := by rw [HRE1.out, if_neg]; rw [bel_no (rvs_at HPp.out) (by rw [HDd.out]; show p.x.length ≠ nv; rw [← HXl.out]; exact hd)]; decide
                  have HF := Lib.hid (And.intro hF (HNil.out (by rw [hF]; decide)))
                  clear hd hF
                  go_wp2_with (rw [← HVV.out])
                  go_ret2
                  rw [HF.out.1, HF.out.2]
                  exact OwnH.nils (HB0.out.trans (HBV.out.mono HB0.out.size)) 151
              · obtain rfl : j = k := by omega
                have hbe : belE C (rvs q) = 0 := bel_yes (fun i p hi hp => by
                  rw [rvs_length] at hi
                  have hq := List.getElem?_eq_getElem hi
                  have := rvs_at hq
                  rw [this] at hp
                  injection hp with hp
                  rw [← hp]
                  exact HD3.out i _ (by rw [HNqq.out]; exact hi) hq)
                have HRE2 := Lib.hid (show R = rowsE kq (belL C (askM C v N) (rvs q)) v by rw [HRE1.out, if_pos hbe])
                obtain ⟨y0, y1, y2, y3⟩ := HP.out wr HB3.out
                obtain ⟨hNB, hQ, hK, hvr, c0, c6, call, _, _⟩ := HH.out
                have hnq := HNq.out wr HB3.out hvr (fun x hx => by rw [← HNv.out, ← HDd.out]; exact call x hx) c6 c0 (nB_iff.1 hNB).1 (nB_iff.1 hNB).2
                rw [← HN.out, ← HNv.out] at hnq
                obtain ⟨S, hS⟩ : ∃ S, S = askM C v N := ⟨_, rfl⟩
                rw [show askedP (farM C v) n N.toNat = S by rw [hS, HN.out]; rfl] at hnq
                rw [← hS] at HRE2
                have HSS := Lib.hid hS
                have HSb := Lib.hid (show ∀ z ∈ S, z < 6 from fun z hz => by rw [hS] at hz; have := asked_mem hz; omega)
                have HNQ := Lib.hid hnq
                clear hbe hNB hQ hK hvr c0 c6 call hnq hS
                go_wp2_with fail
                refine HNQ.out.mono ?_
                rintro e w3 ⟨BS, dS, he, hos, hb3⟩
                obtain ⟨nS, hnS⟩ : ∃ z, z = S.length := ⟨_, rfl⟩
                rw [← hnS] at he
                subst he
                have HOs := Lib.hid (fun (X : World) (hX : Below w3.heap.size w3 X) => show Vec .i64 X BS dS (S.map fun (z : Nat) => (z : Int)) from (hos.below hX).vec (fun z hz => by have := HSb.out z hz; omega))
                have HNS := Lib.hid hnS
                have HB4 := Lib.hid (HB3.out.trans (hb3.mono HB3.out.size))
                clear hos hb3 hnS y0 y1 y2 y3
                go_wp2
                go_loopw [15, 73] (fun lv i wr => ∃ (j2 : Nat) (A1 : Option Addr) (c1 s1 : Nat), j2 ≤ j ∧ i = .int .i64 j2 ∧ lv = .slice A1 s1 c1 ∧ s1 ≤ j2 ∧ Hid (s1 = (selR C S q j2).length ∧ OwnR w3.heap.size wr A1 c1 (selR C S q j2)) ∧ Hid (Below w3.heap.size w3 wr)) (fun _ i _ => j - (intOf i).toNat)
                case atStart => exact ⟨0, none, 0, 0, Nat.zero_le _, rfl, rfl, Nat.le_refl _, Lib.hid ⟨rfl, World.ownsRow_nil _ _ _ _⟩, Lib.hid (Below.refl _ _)⟩
                case round =>
                  obtain ⟨m, A1, c1, s1, hm, rfl, rfl, hs1, HO, HBw⟩ := hrel
                  by_cases hmn : m < j
                  · obtain ⟨b, o, p, rfl, hp, hb, c0', c1', hvx, hu⟩ := (HRw.out wr (HB4.out.trans (HBw.out.mono HB4.out.size))).at_ (i := m) (by rw [← HNqq.out]; exact hmn)
                    obtain ⟨V, hV⟩ : ∃ V, V = wr.alloc (.cells #[.int .u64 p.i, .slice p.B p.x.length p.c] 69) := ⟨_, rfl⟩
                    have hbV : Below wr.heap.size wr V := by rw [hV]; exact bn1 _ _
                    have hBV := HBw.out.trans (hbV.mono HBw.out.size)
                    have v0 : V.cell? ⟨wr.heap.size, 0, none⟩ = some (.int .u64 p.i) := by rw [hV]; exact cell_laid _ _ _ 0
                    have v1 : V.cell? ⟨wr.heap.size, 1, none⟩ = some (.slice p.B p.x.length p.c) := by rw [hV]; exact cell_laid _ _ _ 1
                    obtain ⟨hNB, hQ, hK, hvr, c0, c6, call, _, _⟩ := HH.out
                    have hne := HNe.out V (HB4.out.trans (hBV.mono HB4.out.size)) p.B p.c p.x (hvx.below hbV) (by rw [HN.out]; exact c0) (HD.out m p hmn hp) (fun x hx => ⟨(call x hx).1, by rw [(call x hx).2]; exact (HD3.out m p hmn hp).symm⟩)
                    obtain ⟨nm, hnm⟩ : ∃ nm, nm = nearM C p.x := ⟨_, rfl⟩
                    rw [← hnm] at hne
                    have hha := fun (X : World) (hX : Below w3.heap.size w3 X) => rHasQ_any BS dS (S.map fun (z : Nat) => (z : Int)) (nm : Int) X (HOs.out X hX)
                    rw [List.length_map, ← HNS.out] at hha
                    rw [show decide ((nm : Int) ∈ S.map fun (z : Nat) => (z : Int)) = inQ C S p.x from by
                      unfold inQ
                      rw [← hnm, Bool.eq_iff_iff, decide_eq_true_iff, decide_eq_true_iff, List.mem_map]
                      exact ⟨fun ⟨a, ha, e⟩ => by have : a = nm := by omega
                                                  rw [← this]; exact ha, fun ha => ⟨nm, ha, rfl⟩⟩] at hha
                    obtain ⟨xl, hxl⟩ : ∃ xl, xl = p.x.length := ⟨_, rfl⟩
                    rw [← hxl] at hne hV v1 c1'
                    have HXl := Lib.hid hxl
                    have HNE := Lib.hid hne
                    have HVV := Lib.hid hV
                    have HBV := Lib.hid hBV
                    have HbV := Lib.hid hbV
                    have HP2 := Lib.hid hp
                    have k0 : (0 : Int) ≤ m := by omega
                    have kn : (m : Int) < j := by omega
                    have HVs := Lib.hid (fun (X : World) (hX : Below V.heap.size V X) => show X.cell? ⟨wr.heap.size, 0, none⟩ = some (.int .u64 p.i) ∧ X.cell? ⟨wr.heap.size, 1, none⟩ = some (.slice p.B xl p.c) from ⟨(hX.cell (World.block_lt_of_cell? V _ v0)).trans v0, (hX.cell (World.block_lt_of_cell? V _ v1)).trans v1⟩)
                    clear hp hb hvx hu hxl hV hbV hBV hNB hQ hK hvr c0 c6 call hne hnm
                    cases hin : inQ C S p.x with
                    | false =>
                      have HS1 := Lib.hid (selR_no HP2.out hin)
                      rw [hin] at hha
                      have HHA := Lib.hid hha
                      clear hin hha
                      go_wp2_with (rw [← HVV.out])
                      refine HNE.out.mono ?_
                      rintro e w5 ⟨rfl, hb5⟩
                      have HB5 := Lib.hid (HBV.out.trans (hb5.mono HBV.out.size))
                      have HBr := Lib.hid (HbV.out.trans (hb5.mono HbV.out.size))
                      clear hb5
                      go_wp2_with fail
                      refine (HHA.out w5 HB5.out).mono ?_
                      rintro e w6 ⟨rfl, z, rfl⟩
                      have HB6 := Lib.hid (below_drewN HB5.out z)
                      have HO6 := Lib.hid (show s1 = (selR C S q (m + 1)).length ∧ OwnR w3.heap.size (w5.drewN z) A1 c1 (selR C S q (m + 1)) from by
                        rw [HS1.out]; exact ⟨HO.out.1, OwnR.below HO.out.2 (below_drewN HBr.out z)⟩)
                      go_wp2
                      go_roundw
                      case rel => exact ⟨m + 1, A1, c1, s1, by omega, by go_num, rfl, by omega, HO6, HB6⟩
                      case measure => simp [intOf]; omega
                    | true =>
                      have HS1 := Lib.hid (selR_yes HP2.out hin)
                      rw [hin] at hha
                      have HHA := Lib.hid hha
                      clear hin hha
                      go_wp2_with (rw [← HVV.out])
                      refine HNE.out.mono ?_
                      rintro e w5 ⟨rfl, hb5⟩
                      have HB5 := Lib.hid (HBV.out.trans (hb5.mono HBV.out.size))
                      have HBr := Lib.hid (HbV.out.trans (hb5.mono HbV.out.size))
                      have HBq := Lib.hid hb5
                      clear hb5
                      go_wp2_with fail
                      refine (HHA.out w5 HB5.out).mono ?_
                      rintro e w6 ⟨rfl, hz⟩
                      have hb6 : Below w5.heap.size w5 w6 := by obtain ⟨z, hz⟩ := hz; rw [hz]; exact below_drewN (Below.refl _ _) z
                      obtain ⟨r0, r1⟩ := HVs.out w6 (HBq.out.trans (hb6.mono HBq.out.size))
                      have HB7 := Lib.hid ((HB5.out.trans (hb6.mono HB5.out.size)).alloc (Nat.le_trans HB5.out.size hb6.size) (.cells #[.int .u64 p.i, .slice p.B xl p.c] 69))
                      have HR7 := Lib.hid (show Read (w6.alloc (.cells #[.int .u64 p.i, .slice p.B xl p.c] 69)) (some ⟨w6.heap.size, 0, none⟩) 1 2 [.int .u64 p.i, .slice p.B xl p.c] from Read.two rfl rfl (cell_laid _ _ _ 0) (cell_laid _ _ _ 1))
                      have HO7 := Lib.hid (show OwnR w3.heap.size (w6.alloc (.cells #[.int .u64 p.i, .slice p.B xl p.c] 69)) A1 c1 (selR C S q m) from OwnR.below HO.out.2 ((HBr.out.trans (hb6.mono HBr.out.size)).alloc (Nat.le_trans HBr.out.size hb6.size) _))
                      clear hz hb6
                      go_wp2_with (at_builtin; refine gapp_at rfl (.tmp 83) (.tmp 85) appR rfl w3.heap.size A1 c1 s1 (flatR (selR C S q m)) rfl (by have := HO7.out; unfold OwnR at this; rw [← HO.out.1] at this; exact this) (some ⟨w6.heap.size, 0, none⟩) 1 1 [.int .u64 p.i, .slice p.B xl p.c] rfl HR7.out (by omega) HB7.out.size ?_; intro A5 c5 w8 ho8 hg8 _; have HB8 := Lib.hid (HB7.out.grown hg8 HB7.out.size (fun i hi => (World.ownsRow.lt HO7.out i (by rw [own_blk]; exact hi)).1)); have HO8 := Lib.hid (show s1 + 1 = (selR C S q (m + 1)).length ∧ OwnR w3.heap.size w8 A5 c5 (selR C S q (m + 1)) from by (rw [HS1.out]; unfold OwnR; rw [List.length_append, flatR_append, ← HO.out.1]; refine ⟨rfl, ?_⟩; show w8.ownsRow w3.heap.size 69 2 (.slice A5 (s1 + 1) c5) (s1 + 1) (flatR (selR C S q m) ++ [.int .u64 p.i, .slice p.B p.x.length p.c]); rw [← HXl.out]; exact ho8)); clear ho8 hg8)
                      go_roundw
                      case rel => exact ⟨m + 1, A5, c5, s1 + 1, by omega, by go_num, rfl, by omega, HO8, HB8⟩
                      case measure => simp [intOf]; omega
                  · obtain rfl : m = j := by omega
                    have hBw := HB4.out.trans (HBw.out.mono HB4.out.size)
                    obtain ⟨y0, y1, y2, y3⟩ := HP.out wr hBw
                    have hs2 : s1 ≤ 2000 := by omega
                    have t5 : decide (2000 < (s1 : Int)) = false := by simp; omega
                    have t6 : decide (2000 < s1) = false := by simp; omega
                    have hrw : Rws wr A1 c1 (selR C S q q.length) := by
                      have ho := HO.out.2
                      rw [HNqq.out] at ho
                      exact own_rws ho (fun p hp => (HRw.out _ hBw).el p (List.mem_of_mem_take (List.mem_filter.1 hp).1)) (fun p hp => (HRw.out _ hBw).fit p (List.mem_of_mem_take (List.mem_filter.1 hp).1))
                    obtain ⟨hNB, hQ, hK, hvr, _⟩ := HH.out
                    have hsl : s1 = (selR C S q q.length).length := by rw [HO.out.1, HNqq.out]
                    have hfo := HFo.out wr hBw A1 c1 _ hrw (selR_right HRR.out _) hvr hK (by rw [← hsl]; exact hs2)
                    have htl := rows_tell (l := rvs (selR C S q q.length)) hQ (selR_right HRR.out _) (by rw [rvs_length, ← hsl]; exact hs2)
                    have hRb : R = fnearE (rvs (selR C S q q.length)) v := by rw [HRE2.out, ← HSl.out S, htl.1]
                    have hRLb : RL = nearL kq.toNat (rvs (selR C S q q.length)) v := by
                      rw [HL.out, ← HSS.out, ← HSl.out S, htl.2, nearL_E, ← hRb]
                      split <;> rfl
                    rw [← hsl, ← hRb, ← hRLb] at hfo
                    have HFO := Lib.hid hfo
                    have HBW := Lib.hid hBw
                    clear hBw hrw hNB hQ hK hvr hsl hfo htl hRb hRLb
                    go_wp2_with fail
                    refine HFO.out.mono ?_
                    rintro e w9 ⟨A9, c9, he, ho9, hb9⟩
                    obtain ⟨n9, hn9⟩ : ∃ z, z = RL.length := ⟨_, rfl⟩
                    rw [← hn9] at he
                    subst he
                    have HF9 := Lib.hid (show GivesHE w RL R (.returned (.tuple #[.slice A9 n9 c9, .int .i64 R])) w9 from ⟨A9, c9, by rw [hn9], OwnH.mono ho9 (Nat.le_trans HB0.out.size HBW.out.size), HB0.out.trans ((HBW.out.trans (hb9.mono HBW.out.size)).mono HB0.out.size)⟩)
                    clear ho9 hb9 hn9
                    go_wp2
                    go_ret2
                    exact HF9.out
          · have hF : R = 151 := by rw [HRE.out, if_neg hd]
            have hCT : CT = 151 := by rw [HH.out.2.2.2.2.2.2.2.1]; unfold dimE; rw [← HNv.out, if_neg hd]
            have HF := Lib.hid (And.intro hF (HNil.out (by rw [hF]; decide)))
            have HBr := Lib.hid HB.out
            subst hCT
            clear hd hF t1 t2
            go_wp2
            go_ret2
            rw [HF.out.1, HF.out.2]
            exact OwnH.nils (HB0.out.trans (HBr.out.mono HB0.out.size)) 151
    · have hct : CT = 240 ∧ cenE C = 240 ∨ CT = 230 ∧ cenE C = 230 := by
        rcases HCs.out with h | h | h
        · exact absurd h.1 h2
        · exact .inl ⟨h.2, h.1⟩
        · exact .inr ⟨h.2, h.1⟩
      have hF : R = CT := by rw [HE.out, HRf.out, if_pos h1, if_neg h2, if_neg h2]; rcases hct with h | h <;> omega
      have HF := Lib.hid (And.intro hF (HNil.out (by rw [hF]; rcases hct with h | h <;> omega)))
      have HH := Lib.hid hct
      subst h1
      clear h2 hct hF
      go_enter Tryz.func25, Tryz.ntmps25
      go_wp2_with (rw [← HW0.out, ← HG.out])
      refine HEr.out.mono ?_
      rintro e w1 ⟨rfl, hb1⟩
      have HB1 := Lib.hid hb1
      obtain ⟨y0, y1, y2, y3⟩ := HP.out w1 hb1
      clear hb1 x0 x1 x2 x3
      go_wp2_with fail
      refine (HCt.out w1 HB1.out).mono ?_
      rintro e w2 ⟨rfl, hb2⟩
      have HB2 := Lib.hid (HB0.out.trans ((HB1.out.trans (hb2.mono HB1.out.size)).mono HB0.out.size))
      clear hb2 y0 y1 y2 y3
      rcases HH.out with h | h
      · have hct := h.1
        subst hct
        clear h
        go_wp2
        go_ret2
        rw [HF.out.1, HF.out.2]
        exact OwnH.nils HB2.out 240
      · have hct := h.1
        subst hct
        clear h
        go_wp2
        go_ret2
        rw [HF.out.1, HF.out.2]
        exact OwnH.nils HB2.out 230
  · have hF : R = E1 := by rw [HE.out, HRf.out, if_neg h1, if_neg h1]
    have hRL := HNil.out (by rw [hF]; exact h1)
    have HRL := Lib.hid hRL
    subst hF
    have t1 : (R != 0) = true := by simpa using h1
    have t2 : (R == 0) = false := by simpa using h1
    clear h1 hRL
    go_enter Tryz.func25, Tryz.ntmps25
    go_wp2_with (rw [← HW0.out, ← HG.out])
    refine HEr.out.mono ?_
    rintro e w1 ⟨rfl, hb1⟩
    have HB1 := Lib.hid (HB0.out.trans (hb1.mono HB0.out.size))
    clear hb1
    go_wp2
    go_ret2
    rw [HRL.out]
    exact OwnH.nils HB1.out R
end Go.Proofs.YtcekgllahlhaaaaGreat
