/-
  Compare, and Nearest.
-/
import Derived.Test.YtgakfffkadaeeaaVecAsk
namespace Go.Proofs.Ytgakfffkadaeeaa
open Go.RowKit Go.Shelf
set_option linter.unusedVariables false
set_option maxRecDepth 100000

def hitV (id dist : Int) : Value := .agg #[.int .u64 id, .int .u64 dist]
def compareM (i d i' d' : Int) : Int := orM (cmpM d d') (cmpM i i')

/-- The place of the first least one of so many. -/
def nearF (D : Nat → Int) : Nat → Nat
  | 0 => 0
  | n + 1 => if D n < D (nearF D n) then n else nearF D n
theorem nearF_lt (D : Nat → Int) (n : Nat) (h : 0 < n) : nearF D n < n := by
  induction n with
  | zero => omega
  | succ n ih =>
    unfold nearF
    split
    · omega
    · rcases Nat.eq_zero_or_pos n with rfl | h0
      · simp [nearF]
      · have := ih h0; omega
theorem nearF_least (D : Nat → Int) (n : Nat) : (∀ j, j < n → D (nearF D n) ≤ D j) ∧ D (nearF D n) ≤ D 0 ∧ ∀ j, j < nearF D n → D (nearF D n) < D j := by
  induction n with
  | zero => exact ⟨fun j hj => absurd hj (by omega), by simp [nearF], fun j hj => absurd hj (by simp [nearF])⟩
  | succ n ih =>
    obtain ⟨h1, h2, h3⟩ := ih
    unfold nearF
    split
    · rename_i hlt
      refine ⟨fun j hj => ?_, by omega, fun j hj => ?_⟩
      · rcases Nat.lt_or_eq_of_le (Nat.le_of_lt_succ hj) with h | rfl
        · have := h1 j h; omega
        · omega
      · have := h1 j hj; omega
    · rename_i hge
      refine ⟨fun j hj => ?_, h2, h3⟩
      rcases Nat.lt_or_eq_of_le (Nat.le_of_lt_succ hj) with h | rfl
      · exact h1 j h
      · omega
/-- How far each is. -/
def farM (l : List (List Int)) (v : List Int) (i : Nat) : Int := distM (l.getD i []) v
def nearM (l : List (List Int)) (v : List Int) : Nat := nearF (farM l v) l.length
def nearE (l : List (List Int)) (v : List Int) : Int := if l.length = 0 then 4 else if checkM v ≠ 0 then checkM v else refuseM v.length l
def nearN (l : List (List Int)) (v : List Int) : Nat := if nearE l v = 0 then nearM l v else 0

theorem getD_at {l : List (List Int)} {i : Nat} {x : List Int} (h : l[i]? = some x) : l.getD i [] = x := by simp [List.getD, h]

set_option maxHeartbeats 1000000 in
theorem nearest_ok (A A' : Option Addr) (c c' : Nat) (l : List (List Int)) (v : List Int) (w : World) (hl : Vecs .i32 w A c l) (hv : Vec .i32 w A' c' v) (h1 : l.length ≠ 0) (h2 : checkM v = 0) (h3 : refuseM v.length l = 0) :
    Calls Try.prog 44 #[.slice A l.length c, .slice A' v.length c'] w fun e w' => e = .returned (.tuple #[.int .i64 (nearM l v), .int .i64 0]) ∧ Below w.heap.size w w' := by
  have hall := refuse_ok h3
  have hrv := (refuse_ok h2 v (by simp)).1
  have HC := Lib.hid (check_any A' c' v w hv)
  rw [h2] at HC
  have HR := Lib.hid (fun (V : World) (hV : Below w.heap.size w V) => refuse_any A c v.length l V (hl.below hV))
  rw [h3] at HR
  have HD := Lib.hid (fun (V : World) (hV : Below w.heap.size w V) (i : Nat) (B : Option Addr) (cb : Nat) (x : List Int) (hx : l[i]? = some x) (hb : Vec .i32 w B cb x) =>
    distance_any B A' cb c' x v V (hb.below hV) (hv.below hV) (hall x (List.mem_of_getElem? hx)).1 hrv (by have := (hall x (List.mem_of_getElem? hx)).2; omega))
  have HN := Lib.hid (show nearM l v = nearF (farM l v) l.length from rfl)
  have HF := Lib.hid (fun (i : Nat) (x : List Int) (hx : l[i]? = some x) => (show farM l v i = distM x v by unfold farM; rw [getD_at hx]))
  generalize nearM l v = R at *
  obtain ⟨b, o, x0, B0, cb0, rfl, hx0, hblt, hc0, hb0⟩ := hl.at_ (i := 0) (by omega)
  have HV := Lib.hid hl
  obtain ⟨n, hn⟩ : ∃ n, n = l.length := ⟨_, rfl⟩
  have hroom := hl.room
  have hmost := hl.most
  have HLN := Lib.hid hn
  rw [← hn] at h1 hroom HR HN ⊢
  have t1 : ((n : Int) == 0) = false := by simp; omega
  have t2 : (n == 0) = false := by simp; omega
  have t3 : 0 < n := by omega
  have t4 : (0 : Int) < n := by omega
  generalize v.length = m at *
  have HX0 := Lib.hid hx0
  have HVB0 := Lib.hid hb0
  have HC0 := Lib.hid hc0
  obtain ⟨n0, hn0⟩ : ∃ n0, n0 = x0.length := ⟨_, rfl⟩
  have HN0 := Lib.hid hn0
  rw [← hn0] at hc0
  clear h1 h2 h3 hv hl hn hx0 hb0 hall hrv hn0
  go_enter Try.func44, Try.ntmps44
  go_wp2_with fail
  refine HC.out.mono ?_
  rintro e w1 ⟨rfl, hb1⟩
  have HB1 := Lib.hid hb1
  clear hb1
  go_wp2_with fail
  refine (HR.out w1 HB1.out).mono ?_
  rintro e w2 ⟨rfl, hb2⟩
  have hb2' := HB1.out.trans (hb2.mono HB1.out.size)
  have HB2 := Lib.hid hb2'
  have c2 : w2.cell? ⟨b, o, none⟩ = some (.slice B0 n0 cb0) := (hb2'.cell (p := ⟨b, o, none⟩) hblt).trans hc0
  have HD0 := Lib.hid (HD.out w2 hb2' 0 B0 cb0 x0 HX0.out HVB0.out)
  rw [← HN0.out, ← HF.out 0 x0 HX0.out] at HD0
  clear hb2 hb2' hc0
  go_wp2_with fail
  refine HD0.out.mono ?_
  rintro e w3 ⟨rfl, hb3⟩
  have HB3 := Lib.hid (HB2.out.trans (hb3.mono HB2.out.size))
  clear hb3 c2
  go_wp2
  go_loopw [8, 9, 10, 11, 12, 35] (fun p q _ _ _ i wr => ∃ k : Nat, k ≤ n ∧ i = .int .i64 k ∧ p = .int .i64 (nearF (farM l v) k) ∧ q = .int .u64 (farM l v (nearF (farM l v) k)) ∧ Hid (Below w.heap.size w wr)) (fun _ _ _ _ _ i _ => n - (intOf i).toNat)
  case atStart => exact ⟨0, Nat.zero_le _, rfl, rfl, rfl, HB3⟩
  case round =>
    obtain ⟨k, hk, rfl, rfl, rfl, HB⟩ := hrel
    by_cases hkn : k < n
    · obtain ⟨b', o', x, B, cb, he, hx, _, hc, hvb⟩ := HV.out.at_ (i := k) (by rw [← HLN.out]; exact hkn)
      injection he with he
      injection he with he1 he2
      subst he1
      subst he2
      have HDK := Lib.hid (HD.out wr HB.out k B cb x hx hvb)
      rw [← HF.out k x hx] at HDK
      have hcw : wr.cell? ⟨b, o + k, none⟩ = some (.slice B x.length cb) := (HB.out.cell (p := ⟨b, o + k, none⟩) hblt).trans hc
      obtain ⟨xl, hxl⟩ : ∃ xl, xl = x.length := ⟨_, rfl⟩
      rw [← hxl] at hcw HDK
      have HS := Lib.hid (show nearF (farM l v) (k + 1) = if farM l v k < farM l v (nearF (farM l v) k) then k else nearF (farM l v) k from rfl)
      clear hx hvb hc hxl
      generalize nearF (farM l v) k = p at *
      generalize hdk : farM l v k = dk at *
      generalize hdp : farM l v p = dp at *
      have HDKE := Lib.hid hdk
      have HDPE := Lib.hid hdp
      clear hdk hdp
      by_cases hlt : dk < dp
      · have HP := Lib.hid (show nearF (farM l v) (k + 1) = k by rw [HS.out, if_pos hlt])
        go_wp2_with fail
        refine HDK.out.mono ?_
        rintro e w4 ⟨rfl, hb4⟩
        have HB4 := Lib.hid (HB.out.trans (hb4.mono HB.out.size))
        clear hb4
        go_wp2
        go_roundw
        case rel => exact ⟨k + 1, by omega, by go_num, by rw [HP.out], by rw [HP.out, HDKE.out], HB4⟩
        case measure => simp [intOf]; omega
      · have HP := Lib.hid (show nearF (farM l v) (k + 1) = p by rw [HS.out, if_neg hlt])
        go_wp2_with fail
        refine HDK.out.mono ?_
        rintro e w4 ⟨rfl, hb4⟩
        have HB4 := Lib.hid (HB.out.trans (hb4.mono HB.out.size))
        clear hb4
        go_wp2
        go_roundw
        case rel => exact ⟨k + 1, by omega, by go_num, by rw [HP.out], by rw [HP.out, HDPE.out], HB4⟩
        case measure => simp [intOf]; omega
    · obtain rfl : k = n := by omega
      rw [← HN.out]
      go_wp2
      go_ret2
      exact ⟨rfl, HB.out⟩

theorem nearest_any (A A' : Option Addr) (c c' : Nat) (l : List (List Int)) (v : List Int) (w : World) (hl : Vecs .i32 w A c l) (hv : Vec .i32 w A' c' v) :
    Calls Try.prog 44 #[.slice A l.length c, .slice A' v.length c'] w fun e w' => e = .returned (.tuple #[.int .i64 (nearN l v), .int .i64 (nearE l v)]) ∧ Below w.heap.size w w' := by
  by_cases h1 : l.length = 0
  · have hE : nearE l v = 4 := by unfold nearE; rw [if_pos h1]
    have hN : nearN l v = 0 := by unfold nearN; rw [hE]; rfl
    rw [hE, hN, h1]
    clear hl hv
    go_enter Try.func44, Try.ntmps44
    go_wp2
    go_ret2
    exact ⟨rfl, Below.refl _ _⟩
  · by_cases h2 : checkM v = 0
    · by_cases h3 : refuseM v.length l = 0
      · have hE : nearE l v = 0 := by unfold nearE; rw [if_neg h1, if_neg (by simp [h2]), h3]
        have hN : nearN l v = nearM l v := by unfold nearN; rw [if_pos hE]
        rw [hE, hN]
        exact nearest_ok A A' c c' l v w hl hv h1 h2 h3
      · have hE : nearE l v = refuseM v.length l := by unfold nearE; rw [if_neg h1, if_neg (by simp [h2])]
        have hN : nearN l v = 0 := by unfold nearN; rw [if_neg (by rw [hE]; exact h3)]
        rw [hE, hN]
        have HC := Lib.hid (check_any A' c' v w hv)
        rw [h2] at HC
        have HR := Lib.hid (fun (V : World) (hV : Below w.heap.size w V) => refuse_any A c v.length l V (hl.below hV))
        generalize refuseM v.length l = E at *
        have t1 : ((l.length : Int) == 0) = false := by simp; intro e; rw [e] at h1; simp at h1
        have t2 : (l.length == 0) = false := by simp; intro e; rw [e] at h1; simp at h1
        have t3 : (E == 0) = false := by simpa using h3
        have t4 : (E != 0) = true := by simpa using h3
        generalize l.length = n at *
        generalize v.length = m at *
        clear hl hv hE hN h2
        go_enter Try.func44, Try.ntmps44
        go_wp2_with fail
        refine HC.out.mono ?_
        rintro e w1 ⟨rfl, hb1⟩
        have HB1 := Lib.hid hb1
        clear hb1
        go_wp2_with fail
        refine (HR.out w1 HB1.out).mono ?_
        rintro e w2 ⟨rfl, hb2⟩
        have HB2 := Lib.hid (HB1.out.trans (hb2.mono HB1.out.size))
        clear hb2
        go_wp2
        go_ret2
        exact ⟨rfl, HB2.out⟩
    · have hE : nearE l v = checkM v := by unfold nearE; rw [if_neg h1, if_pos (by simpa using h2)]
      have hN : nearN l v = 0 := by unfold nearN; rw [if_neg (by rw [hE]; exact h2)]
      rw [hE, hN]
      have HC := Lib.hid (check_any A' c' v w hv)
      generalize checkM v = E at *
      have t1 : ((l.length : Int) == 0) = false := by simp; intro e; rw [e] at h1; simp at h1
      have t2 : (l.length == 0) = false := by simp; intro e; rw [e] at h1; simp at h1
      have t3 : (E == 0) = false := by simpa using h2
      have t4 : (E != 0) = true := by simpa using h2
      generalize l.length = n at *
      generalize v.length = m at *
      clear hl hv hE hN
      go_enter Try.func44, Try.ntmps44
      go_wp2_with fail
      refine HC.out.mono ?_
      rintro e w1 ⟨rfl, hb1⟩
      have HB1 := Lib.hid hb1
      clear hb1
      go_wp2
      go_ret2
      exact ⟨rfl, HB1.out⟩

end Go.Proofs.Ytgakfffkadaeeaa
