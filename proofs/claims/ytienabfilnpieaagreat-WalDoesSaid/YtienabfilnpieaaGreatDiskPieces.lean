/-
  The iterator over a disk's pieces.
-/
import Derived.Test.YtienabfilnpieaaGreatDiskSafe
namespace Go.Proofs.YtienabfilnpieaaGreat
open Go.RowKit Go.Shelf
set_option linter.unusedVariables false
set_option maxRecDepth 100000
attribute [local go_sem] Oper.semAt_some

theorem pieces_any (w : World) (p : Option Addr) : Calls Tryz.prog 110 #[.pointer p] w fun e w' => e = .returned (.func (.func 131) #[] #[.pointer (some ⟨w.heap.size, 0, none⟩)]) ∧ w' = w.alloc (.cells #[.pointer p] 24) := by
  go_enter Tryz.func110, Tryz.ntmps110
  go_wp2
  go_ret
  exact ⟨rfl, rfl⟩

/-- What has come when the files of the first i names are through. -/
def AD.come (M : AD) (i : Nat) : List Pc := ((M.below' 4).take i).flatMap M.pcsOf
theorem come_succ (M : AD) {i : Nat} {k : Nat} (h : (M.below' 4)[i]? = some k) : M.come (i + 1) = M.come i ++ M.pcsOf k := by
  unfold AD.come
  rw [List.take_add_one, h]
  simp [List.flatMap_append]
theorem come_all (M : AD) {i : Nat} (h : (M.below' 4).length ≤ i) : M.come i = M.pcs := by
  unfold AD.come AD.pcs
  rw [List.take_of_length_le h]
theorem come_lt (M : AD) {i k : Nat} (h : (M.below' 4)[i]? = some k) {t : Nat} (ht : t < (M.pcsOf k).length) : (M.come i ++ (M.pcsOf k).take t).length < M.pcs.length := by
  have h1 : M.pcs = M.come i ++ M.pcsOf k ++ ((M.below' 4).drop (i + 1)).flatMap M.pcsOf := by
    rw [← come_succ M h]
    unfold AD.pcs AD.come
    rw [← List.flatMap_append, List.take_append_drop]
  rw [h1]
  simp
  omega

structure Rest (dirty : World → Nat → Prop) (d bx mb g : Nat) (M : AD) (o : Obj) (cur : Array Value) (W : World) : Prop where
  box : Safe dirty W bx (.cells #[.pointer (some ⟨d, 0, none⟩)] 24 (0, 0))
  head : Safe dirty W d (.cells (headCells M mb) 69 (0, 0))
  map : Safe dirty W mb o
  names : Safe dirty W g (.cells cur 3 (0, 0))
  low : ∀ k, dirty W k → k < W.heap.size
section
variable {dirty : World → Nat → Prop} {n₀ d bx mb g : Nat} {M : AD} {o : Obj} {cur : Array Value} {W W' : World}
theorem Rest.round (h : Rest dirty d bx mb g M o cur W) (hk : Kq dirty W W') : Rest dirty d bx mb g M o cur W' := ⟨h.box.round hk, h.head.round hk, h.map.round hk, h.names.round hk, hk.low h.low⟩
theorem Rest.step (hd : Dirt n₀ dirty) (h : Rest dirty d bx mb g M o cur W) (hn : n₀ ≤ W.heap.size) (hg : W.grownBy W' none) : Rest dirty d bx mb g M o cur W' :=
  ⟨h.box.step hd hn hg, h.head.step hd hn hg, h.map.step hd hn hg, h.names.step hd hn hg, fun k hk => Nat.lt_of_lt_of_le (h.low k (hd.grow W W' hn hg k hk)) hg.size⟩
end

set_option maxHeartbeats 2000000 in
theorem pieces1_in (dirty : World → Nat → Prop) (n₀ : Nat) (hd : Dirt n₀ dirty) {W0 : World} {S : Nat → Prop} {d mb : Nat} {M : AD} {f : Int → Option Value} {A : Int → Option Addr} {c : Int → Nat} (h : DiskIn W0 S d M mb f A c) (o : Obj) (ho : W0.heap[mb]? = some o)
    (n l bx : Nat) (hn : 1 ≤ n) (J Jx : List Pc → World → Prop)
    (hY : ∀ pre x W1, J pre W1 → pre.length < M.pcs.length → YieldAt Fence.wide (n - 1) Tryz.prog l x.enc W1 fun e W' => (e = .returned (.bool true) ∧ J (pre ++ [x]) W' ∧ Kq dirty W1 W') ∨ (e = .returned (.bool false) ∧ Jx (pre ++ [x]) W'))
    (W : World) (hn0 : n₀ ≤ W.heap.size) (hJ : AbidesFrom W.heap.size J) (hDW : DiskIn W S d M mb f A c) (sbx : Safe dirty W bx (.cells #[.pointer (some ⟨d, 0, none⟩)] 24 (0, 0))) (shd : Safe dirty W d (.cells (headCells M mb) 69 (0, 0))) (smb : Safe dirty W mb o) (hlow : ∀ k, dirty W k → k < W.heap.size) (h0 : J [] W) :
    CallsIn Fence.wide n Tryz.prog 131 #[.func (.yield l) #[] #[], .pointer (some ⟨bx, 0, none⟩)] W fun e W' => (∃ v, e = .returned v) ∧ ((∃ ys, ys = M.pcs ∧ J ys W') ∨ (∃ pre, True ∧ Jx pre W')) := by
  have hcb : W.cell? ⟨bx, 0, none⟩ = some (.pointer (some ⟨d, 0, none⟩)) := by simp [World.cell?, sbx.at_]
  have HD := Lib.hid h
  have HO := Lib.hid ho
  have HJ := Lib.hid hJ
  have HY := Lib.hid hY
  have HDW := Lib.hid hDW
  have SBX := Lib.hid sbx
  have SHD := Lib.hid shd
  have SMB := Lib.hid smb
  have H0 := Lib.hid h0
  have HLOW := Lib.hid hlow
  have HDD := Lib.hid hd
  clear h ho hJ hY hDW sbx shd smb h0 hd hlow
  refine callsIn_of_wp Tryz.func131 rfl trivial ?_ rfl
  simp only [Tryz.ntmps131, List.size_toArray, List.length_cons, List.length_nil, Nat.reduceAdd, Nat.reduceSub, Array.replicate_succ, Array.replicate_zero, List.push_toArray, List.append_toArray, List.nil_append, List.cons_append]
  gi_wp2_with (refine ⟨trivial, ?_⟩; gi_at_call 75; refine (callsIn_wide.2 (files_any ⟨mb, f, A, c, HDW.out⟩)).mono ?_; rintro e W1 ⟨v, rfl, hown, hb⟩; obtain ⟨n1, hn1⟩ : ∃ n1, n1 = M.names.length := ⟨_, rfl⟩; rw [← hn1] at hown; obtain ⟨A0, c0, rfl, _, _⟩ := own_form hown; have HOW := Lib.hid hown; have HB := Lib.hid hb; have HN1 := Lib.hid hn1; clear hown hb hn1)
  have hlen : n1 = (M.below' 4).length := by rw [HN1.out]; unfold AD.names; rw [below_eq]; simp
  have HL := Lib.hid hlen
  have hle4 : n1 ≤ 4 := by rw [HN1.out]; exact below_length M 4
  clear hlen
  rcases hA0 : A0 with _ | ad
  · -- no file is there
    subst hA0
    have hz : n1 = 0 := by
      rcases HOW.out.2 with ⟨_, e⟩ | ⟨_, _, _, e, _⟩
      · exact e
      · cases e
    subst hz
    have hJ1 := HJ.out [] W W1 none H0.out (grown_of_below HB.out) (by simp)
    have HJ1 := Lib.hid hJ1
    clear hJ1
    gi_loopw [10] (fun i wr => i = .int .i64 0 ∧ wr = W1) (fun _ _ => 0)
    case atStart => exact ⟨rfl, rfl⟩
    case round =>
      obtain ⟨rfl, rfl⟩ := hrel
      gi_wp2
      go_end0
      exact ⟨⟨_, rfl⟩, .inl ⟨_, rfl, by rw [← come_all M (i := 0) (Nat.le_of_eq HL.out.symm)]; exact HJ1.out⟩⟩
  · subst hA0
    obtain ⟨g, cur, hge, hgb, hgl, hgc⟩ : ∃ g cur, ad = ⟨g, 0, none⟩ ∧ W1.heap[g]? = some (.cells cur 3 (0, 0)) ∧ W.heap.size ≤ g ∧ cur.toList.take n1 = M.names.map (Value.int .i64) := by
      rcases HOW.out.2 with ⟨e, _⟩ | ⟨g, cap, cur, e, h1, h2, _, _, _, h3⟩
      · cases e
      · injection e with e1 _ _
        injection e1 with e1
        exact ⟨g, cur, e1, h2, h1, by simpa using h3⟩
    subst hge
    have hg1 : W.grownBy W1 none := grown_of_below HB.out
    have hR1 : Rest dirty d bx mb g M o cur W1 := ⟨SBX.out.step HDD.out hn0 hg1, SHD.out.step HDD.out hn0 hg1, SMB.out.step HDD.out hn0 hg1, Safe.fresh HDD.out HLOW.out hn0 hg1 hgl hgb (.inl rfl), fun k hk => Nat.lt_of_lt_of_le (HLOW.out k (HDD.out.grow W W1 hn0 hg1 k hk)) hg1.size⟩
    have hnm : ∀ i k : Nat, (M.below' 4)[i]? = some k → cur[i]? = some (Value.int .i64 ((k : Nat) : Int)) := fun i k hik => by
      have h1 : (M.names.map (Value.int .i64))[i]? = some (Value.int .i64 ((k : Nat) : Int)) := by unfold AD.names; rw [below_eq]; simp [hik]
      rw [← hgc, List.getElem?_take] at h1
      split at h1
      · simpa using h1
      · cases h1
    have HNM := Lib.hid hnm
    have HR1 := Lib.hid hR1
    have HJ1 := Lib.hid (HJ.out [] W W1 none H0.out hg1 (by simp))
    have HSZ := Lib.hid (Nat.le_trans hn0 hg1.size)
    clear hg1 hR1 hnm hgb hgl hgc HOW
    gi_loopw [10] (fun i wr => ∃ k : Nat, i = .int .i64 k ∧ k ≤ n1 ∧ Hid (J (M.come k) wr ∧ Rest dirty d bx mb g M o cur wr ∧ n₀ ≤ wr.heap.size ∧ W.heap.size ≤ wr.heap.size)) (fun i _ => n1 - (match i with | .int _ k => k.toNat | _ => 0))
    case atStart => exact ⟨0, rfl, Nat.zero_le _, Lib.hid ⟨HJ1.out, HR1.out, HSZ.out, HB.out.size⟩⟩
    case round =>
      obtain ⟨i, rfl, hi, H⟩ := hrel
      by_cases hin : i < n1
      · have hii : (i : Int) < n1 := by omega
        obtain ⟨k, hk⟩ : ∃ k, (M.below' 4)[i]? = some k := ⟨_, List.getElem?_eq_getElem (by rw [← HL.out]; exact hin)⟩
        obtain ⟨hk4, F, hF⟩ := names_lt M (List.mem_of_getElem? hk)
        have kbx : wr.cell? ⟨bx, 0, none⟩ = some (.pointer (some ⟨d, 0, none⟩)) := by simp [World.cell?, H.out.2.1.box.at_]
        have kd1 : wr.cell? ⟨d, 1, none⟩ = some (.map (some mb)) := by simp [World.cell?, H.out.2.1.head.at_, headCells]
        have kg : wr.cell? ⟨g, i, none⟩ = some (.int .i64 (k : Nat)) := by simp [World.cell?, H.out.2.1.names.at_, HNM.out i k hk]
        have klk := look_block HD.out HO.out H.out.2.1.map.at_ (k := (k : Nat)) (name_i64 (by omega))
        have hfa : fileAt M A c (k : Nat) = .agg #[.slice (A (k : Nat)) F.bs.length (c (k : Nat)), .int .i64 F.syn, .bool F.kept] := by simp [fileAt, hF, AF.val]
        rw [hfa] at klk
        have HK := Lib.hid hk
        have HF := Lib.hid hF
        clear hk hF hfa
        have hlenF : F.bs.length ≤ 65536 := by
          have h1 := len_le M (k := (k : Nat)) (by unfold Name; omega)
          have h2 : M.len (k : Nat) = F.bs.length := by simp [AD.len, HF.out]
          have h3 := HD.out.ok.tot
          have h4 := HD.out.ok.room2
          omega
        have hsynF : F.syn ≤ F.bs.length := HD.out.ok.syn _ F HF.out
        have hpc : M.pcsOf k = pcsAt k F := by simp [AD.pcsOf, HF.out]
        have HPC := Lib.hid hpc
        clear hpc
        gi_wp2
        obtain ⟨W2, hW2⟩ : ∃ W2, W2 = wr.alloc (.cells #[.slice (A (k : Nat)) F.bs.length (c (k : Nat)), .int .i64 F.syn, .bool F.kept] 98) := ⟨_, rfl⟩
        have hg2 : wr.grownBy W2 none := by rw [hW2]; exact World.grownBy_alloc wr _ none
        have hq2 : W2.heap[wr.heap.size]? = some (.cells #[.slice (A (k : Nat)) F.bs.length (c (k : Nat)), .int .i64 F.syn, .bool F.kept] 98 (0, 0)) := by rw [hW2]; exact heap_alloc_new wr _
        have HS2 := Lib.hid (Safe.fresh HDD.out H.out.2.1.low H.out.2.2.1 hg2 (Nat.le_refl _) hq2 (.inl rfl))
        have HR2 := Lib.hid (H.out.2.1.step HDD.out H.out.2.2.1 hg2)
        have HJ2 := Lib.hid (HJ.out _ wr W2 none H.out.1 hg2 (by simp))
        have HZ2 := Lib.hid (And.intro (Nat.le_trans H.out.2.2.1 hg2.size) (Nat.le_trans H.out.2.2.2 hg2.size))
        rw [← hW2]
        clear hW2 hg2 hq2 kbx kd1 kg klk
        generalize wr.heap.size = q at HS2 ⊢
        gi_loopw [6] (fun a ws => ∃ t : Nat, a = .int .i64 ((F.syn + 8 * t : Nat) : Int) ∧ t ≤ F.pn ∧ Hid (J (M.come i ++ (M.pcsOf k).take t) ws ∧ Rest dirty d bx mb g M o cur ws ∧ Safe dirty ws q (.cells #[.slice (A (k : Nat)) F.bs.length (c (k : Nat)), .int .i64 F.syn, .bool F.kept] 98 (0, 0)) ∧ n₀ ≤ ws.heap.size ∧ W.heap.size ≤ ws.heap.size))
          (fun a _ => F.bs.length + 8 - (match a with | .int _ k => k.toNat | _ => 0))
        case atStart => exact ⟨0, by simp, Nat.zero_le _, Lib.hid ⟨by simpa using HJ2.out, HR2.out, HS2.out, HZ2.out.1, HZ2.out.2⟩⟩
        case round =>
          obtain ⟨t, rfl, ht, H3⟩ := hrel
          obtain ⟨at', hat⟩ : ∃ at' : Nat, at' = F.syn + 8 * t := ⟨_, rfl⟩
          rw [← hat]
          by_cases htp : t < F.pn
          · have hlt : at' < F.bs.length := by rw [hat]; exact pn_spec.1 htp
            have hlt' : (at' : Int) < (F.bs.length : Int) := by omega
            have q0 : wr.cell? ⟨q, 0, none⟩ = some (.slice (A (k : Nat)) F.bs.length (c (k : Nat))) := by simp [World.cell?, H3.out.2.2.1.at_]
            have hlen3 : (M.come i ++ (M.pcsOf k).take t).length < M.pcs.length := come_lt M HK.out (by rw [HPC.out]; simp [pcsAt]; exact htp)
            obtain ⟨fn, tmps, assign, body, hy, hR⟩ := HY.out _ (mkPc k (F.bs.length - at')) wr H3.out.1 hlen3
            have henc : (mkPc k (F.bs.length - at')).enc = #[.int .i64 (k : Nat), .int .i64 (min 8 ((F.bs.length : Int) - (at' : Int)))] := by
              have e1 : (mkPc k (F.bs.length - at')).nm = k := by simp [mkPc]; omega
              have e2 : ((mkPc k (F.bs.length - at')).sz : Int) = min 8 ((F.bs.length : Int) - (at' : Int)) := by simp only [mkPc]; omega
              unfold Pc.enc
              rw [e1, e2]
            rw [henc] at hy
            have hstep : M.come i ++ (M.pcsOf k).take t ++ [mkPc k (F.bs.length - at')] = M.come i ++ (M.pcsOf k).take (t + 1) := by
              rw [List.take_add_one, HPC.out]
              have : (pcsAt k F)[t]? = some (mkPc k (F.bs.length - at')) := by simp [pcsAt, htp, hat]
              rw [this]
              simp
            have HR := Lib.hid hR
            have HST := Lib.hid hstep
            have HAT := Lib.hid hat
            clear hR hstep hlen3 henc hat
            gi_wp2
            refine HR.out.mono ?_
            rintro e W3 (⟨rfl, hJ3, hk3⟩ | ⟨rfl, hJx3⟩)
            · rw [HST.out] at hJ3
              have HH := Lib.hid (show J (M.come i ++ (M.pcsOf k).take (t + 1)) W3 ∧ Rest dirty d bx mb g M o cur W3 ∧ Safe dirty W3 q (.cells #[.slice (A (k : Nat)) F.bs.length (c (k : Nat)), .int .i64 F.syn, .bool F.kept] 98 (0, 0)) ∧ n₀ ≤ W3.heap.size ∧ W.heap.size ≤ W3.heap.size from
                ⟨hJ3, H3.out.2.1.round hk3, H3.out.2.2.1.round hk3, Nat.le_trans H3.out.2.2.2.1 hk3.size, Nat.le_trans H3.out.2.2.2.2 hk3.size⟩)
              clear hJ3 hk3
              gi_wp2
              go_roundw
              case rel => exact ⟨t + 1, by rw [HAT.out]; simp; omega, by omega, HH⟩
              case measure => simp; omega
            · have HX := Lib.hid hJx3
              clear hJx3
              gi_wp2
              refine bodyPost_ret (results_none rfl _ _ _) rfl ?_
              exact ⟨⟨_, rfl⟩, .inr ⟨_, trivial, HX.out⟩⟩
          · have htp' : ¬ F.syn + 8 * t < F.bs.length := fun e => htp (pn_spec.2 e)
            have hle' : (F.bs.length : Int) ≤ (at' : Int) := by omega
            have q0 : wr.cell? ⟨q, 0, none⟩ = some (.slice (A (k : Nat)) F.bs.length (c (k : Nat))) := by simp [World.cell?, H3.out.2.2.1.at_]
            have hfull : M.come i ++ (M.pcsOf k).take t = M.come (i + 1) := by
              rw [come_succ M HK.out, List.take_of_length_le]
              rw [HPC.out]
              simp [pcsAt]
              omega
            have HFU := Lib.hid hfull
            clear hfull htp' hat htp
            gi_wp2
            go_roundw
            case rel => exact ⟨i + 1, by simp, by omega, Lib.hid ⟨by rw [← HFU.out]; exact H3.out.1, H3.out.2.1, H3.out.2.2.2.1, H3.out.2.2.2.2⟩⟩
            case measure => simp; omega
      · obtain rfl : i = n1 := by omega
        gi_wp2
        go_end0
        exact ⟨⟨_, rfl⟩, .inl ⟨_, rfl, by rw [← come_all M (Nat.le_of_eq HL.out.symm)]; exact H.out.1⟩⟩


theorem pieces_stops (dirty : World → Nat → Prop) (n₀ : Nat) (hd : Dirt n₀ dirty) {w : World} {S : Nat → Prop} {d mb : Nat} {M : AD} {f : Int → Option Value} {A : Int → Option Addr} {c : Int → Nat} (h : DiskIn w S d M mb f A c) (n bx : Nat) (hn : 1 ≤ n) (hn0 : n₀ ≤ w.heap.size)
    (hbx : w.heap[bx]? = some (.cells #[.pointer (some ⟨d, 0, none⟩)] 24 (0, 0))) (hcl : ∀ k, k = bx ∨ k = d ∨ k = mb → ¬ dirty w k) (hlow : ∀ k, dirty w k → k < w.heap.size) :
    SeqStopsK Fence.wide n Tryz.prog 131 #[.pointer (some ⟨bx, 0, none⟩)] Pc.enc (Kq dirty) (fun ys => ys = M.pcs) (fun _ => True) M.pcs.length w := fun l J Jx W hW hJ hJx hY h0 => by
  obtain ⟨D, ⟨es, clock, hm, _⟩, _⟩ := h.files.map
  have hg := grown_of_below hW
  have cl : ∀ {k : Nat} {o : Obj}, w.heap[k]? = some o → (o.isCells = true ∨ o.isWalk = true) → (k = bx ∨ k = d ∨ k = mb) → Safe dirty W k o := fun hk hkind hin =>
    Safe.step hd ⟨hk, hkind, hcl _ hin⟩ hn0 hg
  exact pieces1_in dirty n₀ hd h _ hm n l bx hn J Jx hY W (Nat.le_trans hn0 hW.size) hJ (h.later hW) (cl hbx (.inl rfl) (.inl rfl)) (cl h.head (.inl rfl) (.inr (.inl rfl))) (cl hm (.inr rfl) (.inr (.inr rfl)))
    (fun k hk => Nat.lt_of_lt_of_le (hlow k (hd.grow w W hn0 hg k hk)) hW.size) h0

end Go.Proofs.YtienabfilnpieaaGreat
