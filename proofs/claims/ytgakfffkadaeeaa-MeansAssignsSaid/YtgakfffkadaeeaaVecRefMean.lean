/-
  The document's mean; which hit stands ahead.
-/
import Derived.Test.YtgakfffkadaeeaaVecRef
import Derived.Maps.AppendAt
namespace Go.Proofs.Ytgakfffkadaeeaa
open Go.RowKit Go.Shelf
set_option linter.unusedVariables false
set_option maxRecDepth 100000

theorem infoI32 : (Try.prog.info? 21).map (fun i => (i.zero, i.size, i.bytes)) = some (some (.int .i32 0), 1, 4) := by kernel_rfl
theorem row_later {w w' : World} {base : Nat} {e : TypeId} {size : Nat} {v : Value} {n : Nat} {xs : List Value} (h : w.ownsRow base e size v n xs) (hb : Below w.heap.size w w') : w'.ownsRow base e size v n xs := by
  refine ⟨h.1, ?_⟩
  rcases h.2 with h0 | ⟨g, cap, cur, e, hg, hh, r⟩
  · exact .inl h0
  · exact .inr ⟨g, cap, cur, e, hg, (hb.block g (lt_of_block hh)).trans hh, r⟩

/-- A slice of the call's own, whatever make. -/
theorem own_form {w : World} {base : Nat} {e : TypeId} {size : Nat} {v : Value} {n : Nat} {xs : List Value} (h : w.ownsRow base e size v n xs) : ∃ A c, v = .slice A n c ∧ n ≤ c ∧ c ≤ maxLen := by
  rcases h.2 with ⟨rfl, rfl⟩ | ⟨g, cap, cur, rfl, _, _, hnc, hcm, _, _⟩
  · exact ⟨none, 0, rfl, Nat.le_refl _, by simp [maxLen]⟩
  · exact ⟨_, cap, rfl, hnc, hcm⟩

theorem floor_any (s n : Int) (hn : 0 < n) : (s < s.tdiv n * n → s / n = s.tdiv n - 1) ∧ (¬ s < s.tdiv n * n → s / n = s.tdiv n) := by
  have h := Int.mul_tdiv_add_tmod s n
  rw [Int.mul_comm] at h
  rcases Int.lt_or_le s 0 with hs | hs
  · obtain ⟨f1, f2, _⟩ := floor_neg s n hn hs
    exact ⟨fun h1 => f1 (by omega), fun h1 => f2 (by omega)⟩
  · rw [Int.tdiv_eq_ediv_of_nonneg hs] at *
    rw [Int.tmod_eq_emod_of_nonneg hs] at h
    have := Int.emod_nonneg s (show n ≠ 0 by omega)
    exact ⟨fun h1 => by omega, fun _ => rfl⟩

theorem meanM_take (l : List (List Int)) {k : Nat} (hk : k < (l.getD 0 []).length) : (meanM l).take (k + 1) = (meanM l).take k ++ [colM l k / (l.length : Int)] := by
  have : (meanM l)[k]? = some (colM l k / (l.length : Int)) := by
    unfold meanM; rw [List.getElem?_map, List.getElem?_range hk]; rfl
  rw [List.take_add_one, this]; rfl

set_option maxHeartbeats 2000000 in
theorem rMean_any (A : Option Addr) (c : Nat) (l : List (List Int)) (w : World) (hl : Vecs .i32 w A c l) (hn : l.length ≤ 1000000) (h1 : l.length ≠ 0) (h2 : refuseM (l.getD 0 []).length l = 0) :
    Calls Try.prog 40 #[.slice A l.length c] w fun e w' => (∃ A' c', e = .returned (.slice A' (meanM l).length c') ∧ Vec .i32 w' A' c' (meanM l)) ∧ Below w.heap.size w w' := by
  obtain ⟨i0, hi, hz0, hz1, hz2⟩ := info_parts infoI32
  have hall := refuse_ok h2
  have hr := fun x hx => (hall x hx).1
  obtain ⟨b, o, x0, B0, cb0, rfl, hx0, hblt, hc0, hb0⟩ := hl.at_ (i := 0) (by omega)
  have e0 := getD_at hx0
  have hlx := right_len (hr x0 (List.mem_of_getElem? hx0))
  have HC := Lib.hid (fun i => col_mean l i hr (by omega))
  have HCB := Lib.hid (fun k i => colM_le (l.take k) i (fun y hy => hr y (List.mem_of_mem_take hy)))
  have HRX := Lib.hid (fun x hx => right_comp (hr x hx))
  have HML := Lib.hid (show (meanM l).length = x0.length by unfold meanM; rw [e0]; simp)
  obtain ⟨d, hd⟩ : ∃ d, d = x0.length := ⟨_, rfl⟩
  have HT := Lib.hid (fun k (hk : k < d) => meanM_take l (k := k) (by rw [e0, ← hd]; exact hk))
  have HLEN := Lib.hid (fun x (hx : x ∈ l) => show x.length = d by have := (hall x hx).2; rw [e0] at this; omega)
  have HWF := Lib.hid (show ∀ x ∈ meanM l, (Lit.int .i32 x).wf = true from fun x hx => by
    unfold meanM at hx
    obtain ⟨i, _, rfl⟩ := List.mem_map.1 hx
    exact wf32 (col_mean l i hr (by omega)))
  have HS := Lib.hid (fun k i x (hx : l[k]? = some x) => colM_snoc l (i := i) hx)
  obtain ⟨n, hnn⟩ : ∃ n, n = l.length := ⟨_, rfl⟩
  have HN := Lib.hid hnn
  have HV := Lib.hid hl
  have hroom := hl.room
  have hmost := hl.most
  rw [← hnn] at HC HT h1 hn hroom ⊢
  rw [← hd] at HML hlx hc0
  rw [HML.out]
  rw [Nat.add_zero] at hc0
  have HC0 := Lib.hid hc0
  have t3 : 0 < n := by omega
  have t4 : (0 : Int) < n := by omega
  have tn : ((n : Int) == 0) = false := by simp; omega
  have tn2 : (n == 0) = false := by simp; omega
  have d4 := hlx.2
  generalize meanM l = R at *
  clear hl hall hr h2 e0 hb0 hx0 hnn hd hlx hc0
  go_enter Try.func40, Try.ntmps40
  go_wp2
  go_loopw [3, 4, 5, 6, 7, 8] (fun v i _ _ _ _ wr => ∃ k : Nat, k ≤ d ∧ i = .int .i64 k ∧ Hid (wr.ownsRow w.heap.size 21 1 v k ((R.take k).map (Value.int .i32)) ∧ Below w.heap.size w wr)) (fun _ i _ _ _ _ _ => d - (intOf i).toNat)
  case atStart => exact ⟨0, Nat.zero_le _, rfl, Lib.hid ⟨World.ownsRow_nil _ _ _ _, Below.refl _ _⟩⟩
  case round =>
    obtain ⟨k, hk, rfl, HB⟩ := hrel
    have hcw : wr.cell? ⟨b, o, none⟩ = some (.slice B0 d cb0) := (HB.out.2.cell (p := ⟨b, o, none⟩) hblt).trans HC0.out
    by_cases hkd : k < d
    · have k0 : (0 : Int) ≤ k := by omega
      have kd : (k : Int) < d := by omega
      obtain ⟨A1, c1, rfl, _, _⟩ := own_form HB.out.1
      go_wp2
      obtain ⟨wo, hwo⟩ : ∃ wo : World, wo = wr := ⟨_, rfl⟩
      rw [← hwo] at HB hcw ⊢
      clear hwo
      go_loopw [5, 6] (fun s t ws => ∃ j : Nat, j ≤ n ∧ t = .int .i64 j ∧ s = .int .i64 (colM (l.take j) k) ∧ ws = wo) (fun _ t _ => n - (intOf t).toNat)
      case atStart => exact ⟨0, Nat.zero_le _, rfl, by simp [colM], rfl⟩
      case round =>
        obtain ⟨j, hj, rfl, rfl, rfl⟩ := hrel
        have hbd := HCB.out j k
        have hjl : ((l.take j).length : Int) ≤ n := by rw [List.length_take, ← HN.out]; omega
        by_cases hjn : j < n
        · obtain ⟨b', o', x, B, cb, he, hx, _, hc, hvb⟩ := HV.out.at_ (i := j) (by rw [← HN.out]; exact hjn)
          injection he with he
          injection he with he1 he2
          subst he1
          subst he2
          have hxl := HLEN.out x (List.mem_of_getElem? hx)
          obtain ⟨b2, o2, rfl, hb2, hc2⟩ := hvb.at_ (j := k) (by rw [hxl]; exact hkd)
          have e1 := (HB.out.2.cell (p := ⟨b, o + j, none⟩) hblt).trans hc
          have e2 := (HB.out.2.cell (p := ⟨b2, o2 + k, none⟩) hb2).trans hc2
          rw [hxl] at e1
          have hxt : -1073741823 ≤ x.getD k 0 ∧ x.getD k 0 ≤ 1073741823 := by
            have : x.getD k 0 = x[k]'(by rw [hxl]; exact hkd) := by simp [List.getD, List.getElem?_eq_getElem (show k < x.length by rw [hxl]; exact hkd)]
            rw [this]
            exact HRX.out x (List.mem_of_getElem? hx) _ (List.getElem_mem _)
          have HSS := Lib.hid (HS.out j k x hx)
          generalize x.getD k 0 = y at *
          generalize colM (l.take j) k = s at *
          have q1 : -9000000000000000000 ≤ s := by omega
          have q2 : s ≤ 9000000000000000000 := by omega
          have q3 := hxt.1
          have q4 := hxt.2
          have j0 : (0 : Int) ≤ j := by omega
          have jn : (j : Int) < n := by omega
          clear hbd hjl hxt hc hc2 hb2 hvb hx hxl
          go_wp2
          go_roundw
          case rel => exact ⟨j + 1, by omega, by go_num, by rw [HSS.out], by first | rfl | trivial⟩
          case measure => simp [intOf]; omega
        · obtain rfl : j = n := by omega
          have hlt : l.take j = l := by rw [HN.out, List.take_length]
          rw [hlt] at hbd hjl ⊢
          obtain ⟨f1, f2⟩ := floor_any (colM l k) j (by omega)
          have F1 := Lib.hid f1
          have F2 := Lib.hid f2
          have HQ := Lib.hid (HC.out k)
          have HTK := Lib.hid (HT.out k hkd)
          have hq := HC.out k
          have hll : ((l.take j).length : Int) = j := by rw [List.length_take, ← HN.out]; omega
          rw [hlt] at hll
          rw [hll] at hbd
          obtain ⟨s, hs⟩ : ∃ s, s = colM l k := ⟨_, rfl⟩
          rw [← hs] at f1 f2 F1 F2 HQ HTK hbd hq ⊢
          have q1 : -2000000000000000000 ≤ s := by omega
          have q2 : s ≤ 2000000000000000000 := by omega
          have fq : (s < s.tdiv j * j) ∨ ¬ (s < s.tdiv j * j) := Classical.em _
          have hm := Int.mul_tdiv_add_tmod s j
          rw [Int.mul_comm] at hm
          have hml : -2000000 ≤ s.tmod j ∧ s.tmod j ≤ 2000000 := by
            have a1 := Int.tmod_lt_of_pos s (b := (j : Int)) (by omega)
            have a2 := Int.lt_tmod_of_pos s (b := (j : Int)) (by omega)
            omega
          have w1 : wrap64 (s.tdiv j) = s.tdiv j := by
            unfold wrap64
            rcases fq with h | h
            · have := f1 h; omega
            · have := f2 h; omega
          have w2 : wrap64 (s.tdiv j * j) = s.tdiv j * j := by unfold wrap64; omega
          have hk4 : k ≤ 4 := by omega
          rcases fq with h | h
          · have e3 := F1.out h
            have w3 : wrap64 (s.tdiv j - 1) = s.tdiv j - 1 := by unfold wrap64; omega
            have w4 : RowKit.wrap32 (s.tdiv j - 1) = s.tdiv j - 1 := by unfold RowKit.wrap32; omega
            rw [e3] at HTK
            clear hlt hbd hjl f1 f2 hll hs hm hml hq e3
            go_wp2_with (at_builtin; refine wpList_append_own _ rfl (.tmp 45) (.tmp 48) 35 rfl w.heap.size 21 i0 (.int .i32 0) 1 4 Try.underlying35 hi hz0 hz1 hz2 rfl (by decide) _ k _ rfl (HB.out.1.alloc _) ⟨wr.heap.size, 0, none⟩ 1 1 [.int .i32 (s.tdiv j - 1)] rfl rfl (cell_one_new _ _ _) (by simp [Value.oneCell']) (by unfold maxLen; omega) (by omega) (by have := HB.out.2.size; simp; omega) ?_; intro v' w2 hown' hgrow _; have HO := Lib.hid hown'; have HG := Lib.hid hgrow; clear hown' hgrow)
            go_roundw
            case rel => exact ⟨k + 1, by omega, by go_num, Lib.hid ⟨by rw [HTK.out, List.map_append]; exact HO.out, (HB.out.2.alloc HB.out.2.size _).grown HG.out (by have := HB.out.2.size; simp; omega) (fun q hq => (HB.out.1.lt q hq).1)⟩⟩
            case measure => simp [intOf]; omega
          · have e3 := F2.out h
            have w4 : RowKit.wrap32 (s.tdiv j) = s.tdiv j := by unfold RowKit.wrap32; omega
            rw [e3] at HTK
            clear hlt hbd hjl f1 f2 hll hs hm hml hq e3
            go_wp2_with (at_builtin; refine wpList_append_own _ rfl (.tmp 45) (.tmp 48) 35 rfl w.heap.size 21 i0 (.int .i32 0) 1 4 Try.underlying35 hi hz0 hz1 hz2 rfl (by decide) _ k _ rfl (HB.out.1.alloc _) ⟨wr.heap.size, 0, none⟩ 1 1 [.int .i32 (s.tdiv j)] rfl rfl (cell_one_new _ _ _) (by simp [Value.oneCell']) (by unfold maxLen; omega) (by omega) (by have := HB.out.2.size; simp; omega) ?_; intro v' w2 hown' hgrow _; have HO := Lib.hid hown'; have HG := Lib.hid hgrow; clear hown' hgrow)
            go_roundw
            case rel => exact ⟨k + 1, by omega, by go_num, Lib.hid ⟨by rw [HTK.out, List.map_append]; exact HO.out, (HB.out.2.alloc HB.out.2.size _).grown HG.out (by have := HB.out.2.size; simp; omega) (fun q hq => (HB.out.1.lt q hq).1)⟩⟩
            case measure => simp [intOf]; omega
    · obtain rfl : k = d := by omega
      obtain ⟨A1, c1, hv, hvec⟩ := Vec.own (m := 0) (xs := R) (k := .i32) (by have := HB.out.1; rw [List.take_of_length_le (Nat.le_of_eq HML.out)] at this; rw [HML.out]; exact this) HWF.out
      rw [HML.out] at hv
      subst hv
      have HVEC := Lib.hid hvec
      clear hvec
      go_wp2
      go_ret
      exact ⟨⟨_, _, rfl, HVEC.out⟩, HB.out.2⟩

end Go.Proofs.Ytgakfffkadaeeaa
