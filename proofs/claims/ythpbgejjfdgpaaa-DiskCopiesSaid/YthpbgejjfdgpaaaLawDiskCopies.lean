/-
  Proved: the law DiskCopies, what is done to a copy of a disk is not seen of the other one and both tell what the document says, returns true for every room and two rows of ops, and leaves all memory as it was. No condition.
-/
import Derived.Test.YthpbgejjfdgpaaaCopyState
import Derived.Deep.CutRange
namespace Go.Proofs.Ythpbgejjfdgpaaa.diskCopies
open Go.ChangeShapes Go.WideShapes Go.ChangeAt Go.RowKit
set_option linter.unusedVariables false
set_option maxRecDepth 100000

theorem new_is (W : World) (S : Nat → Prop) (r : Int) : RefIs W S (newR r) (AD.new r) := by
  refine ⟨rfl, rfl, rfl, fun _ => rfl, fun _ => rfl, ⟨by simp [newR], by simp [newR], by simp [newR], by simp [newR], by simp [newR], by simp [newR]⟩, fun k hk => ?_⟩
  have h1 : (newR r).file k = RF.none := by
    have h2 : k = 0 ∨ k = 1 ∨ k = 2 ∨ k = 3 := by omega
    rcases h2 with rfl | rfl | rfl | rfl <;> rfl
  rw [h1]
  exact FileIs.none W S
theorem ops_below {w W : World} {A : Option Addr} {os : List AO} (h : OpsAt w A os) (hb : Below w.heap.size w W) : OpsAt W A os := by
  intro hp
  obtain ⟨b, off, e, hi⟩ := h hp
  refine ⟨b, off, e, fun i hl => ?_⟩
  obtain ⟨B, cb, K, kc, h0, h1, h2, h3, h4, hw, ho⟩ := hi i hl
  have t : ∀ {x : Nat} {v : Value}, w.cell? ⟨b, x, none⟩ = some v → W.cell? ⟨b, x, none⟩ = some v := fun {x v} hx => (hb.cell (p := ⟨b, x, none⟩) (cell_lt hx)).trans hx
  have ho' := ho.below hb
  exact ⟨B, cb, K, kc, t h0, t h1, t h2, t h3, t h4, hw, ⟨ho'.rd.wide hb.size, ho'.rk.wide hb.size, ho'.c1, ho'.c2, ho'.k1, ho'.k2, Nat.le_refl _⟩⟩

theorem runB_le {M : AD} (hok : M.Ok) (q : AO) : (M.runB q).length ≤ 65536 := by
  unfold AD.runB
  split
  · unfold AD.readB
    split
    · rename_i h5 h
      have h1 := hok.tot
      have h2 := hok.room2
      rw [len_file]
      unfold AD.len
      rcases hf : M.files q.file with _ | F
      · simp
      · have hn := hok.names q.file (by rw [hf]; simp)
        have h3 := len_le M (k := q.file) hn
        unfold AD.len at h3
        rw [hf] at h3
        simp only at h3 ⊢
        omega
    · simp
  · simp
/-- The pair at the first loop's head. -/
def Mid1 (w : World) (d g k : Nat) (W : World) : Prop := ∃ S M D, Pair w S d g M D W ∧ M.ops ≤ k
def Mid2 (w : World) (d g c g2 k : Nat) (W : World) : Prop := ∃ S M D T Mc Dn, Both w d g c g2 S M D T Mc Dn W ∧ M.ops ≤ 30 ∧ Mc.ops ≤ 30 + k
/-- An op's own box. -/
structure OpBox (W : World) (q : Nat) (o : AO) (B : Option Addr) (bn cb : Nat) (K : Option Addr) (kn kc : Nat) : Prop where
  box : W.heap[q]? = some (.cells #[.int .i64 o.kind, .int .i64 o.file, .int .i64 o.n, .slice B bn cb, .slice K kn kc] 37 (0, 0))
section
variable {W : World} {q : Nat} {o : AO} {B : Option Addr} {bn cb : Nat} {K : Option Addr} {kn kc : Nat}
theorem OpBox.y0 (h : OpBox W q o B bn cb K kn kc) : W.cell? ⟨q, 0, none⟩ = some (.int .i64 o.kind) := by simp [World.cell?, h.box]
theorem OpBox.y1 (h : OpBox W q o B bn cb K kn kc) : W.cell? ⟨q, 1, none⟩ = some (.int .i64 o.file) := by simp [World.cell?, h.box]
theorem OpBox.y2 (h : OpBox W q o B bn cb K kn kc) : W.cell? ⟨q, 2, none⟩ = some (.int .i64 o.n) := by simp [World.cell?, h.box]
theorem OpBox.y3 (h : OpBox W q o B bn cb K kn kc) : W.cell? ⟨q, 3, none⟩ = some (.slice B bn cb) := by simp [World.cell?, h.box]
theorem OpBox.y4 (h : OpBox W q o B bn cb K kn kc) : W.cell? ⟨q, 4, none⟩ = some (.slice K kn kc) := by simp [World.cell?, h.box]
end

set_option maxHeartbeats 8000000 in
theorem walk {w : World} (r : Int) (hr : I64 r) (A : Option Addr) (c : Nat) (os : List AO) (ho : OpsAt w A os) (hc : os.length ≤ c) (hcm : c ≤ 9223372036854775807)
    (A' : Option Addr) (c' : Nat) (ms : List AO) (hm : OpsAt w A' ms) (hc' : ms.length ≤ c') (hcm' : c' ≤ 9223372036854775807) :
    Calls Try.prog 3 #[.int .i64 r, .slice A os.length c, .slice A' ms.length c'] w fun e w' => e = .returned (.bool true) ∧ Below w.heap.size w w' := by
  have hb1 := room_bounds r
  obtain ⟨t, ht⟩ : ∃ t, t = r.tmod 400 := ⟨_, rfl⟩
  rw [← ht] at hb1
  have hb2 := room_bounds2 (x := t + 400) (by omega)
  obtain ⟨t2, ht2⟩ : ∃ t2, t2 = (t + 400).tmod 400 := ⟨_, rfl⟩
  rw [← ht2] at hb2
  have HO := Lib.hid ho
  have HM := Lib.hid hm
  obtain ⟨n, hn⟩ : ∃ n, n = os.length := ⟨_, rfl⟩
  obtain ⟨n', hn'⟩ : ∃ n', n' = ms.length := ⟨_, rfl⟩
  have HN := Lib.hid hn
  have HN' := Lib.hid hn'
  rw [← hn] at hc ⊢
  rw [← hn'] at hc' ⊢
  have ht' := ht.symm
  have ht2' := ht2.symm
  clear ho hm hn hn' ht ht2
  go_enter Try.func3, Try.ntmps3
  go_upto_region 7 with (first
    | (go_at_call 9; refine (wakes_any _).mono ?_; rintro e w1 ⟨rfl, hb0⟩; have HB0 := Lib.hid hb0; clear hb0)
    | (go_at_call 10; refine (new_yes _ (t2 + 1) (by omega) (by omega)).mono ?_; rintro e w2 ⟨rfl, hd2, hb2'⟩; obtain ⟨d, hd⟩ : ∃ d, d = w1.heap.size + 1 := ⟨_, rfl⟩; rw [← hd] at hd2 ⊢; obtain ⟨S0, hS0⟩ : ∃ S0 : Nat → Prop, S0 = fun k => k = w1.heap.size ∨ k = d := ⟨_, rfl⟩; rw [← hS0] at hd2; have HSU := Lib.hid (show ∀ k, S0 k → w.heap.size ≤ k ∧ k < w2.heap.size from fun k hk => (by have h1 := HB0.out.size; have h2 := hd2.low hk; rw [hS0] at hk; rcases hk with e | e <;> omega)); have D2 := Lib.hid hd2; have HB2 := Lib.hid (HB0.out.trans (hb2'.mono HB0.out.size)); clear hd2 hb2' hd hS0))
  go_upto_region 8 with (first
    | (go_at_call 11; refine (new_ref _ _).mono ?_; rintro e w3 ⟨rfl, hb3⟩; have HB3 := Lib.hid hb3; clear hb3)
    | (refine wp_storeR (D' := newR (t2 + 1)) rfl _ _ rfl rfl rfl (BoxR.new _ zeroR) ?_))
  refine name_world (fun W => Mid1 w d w3.heap.size 0 W) (by
    have hb := HB2.out.trans (HB3.out.mono HB2.out.size)
    have hx := (BoxR.new w3 zeroR).fill (Nat.le_refl _) (newR (t2 + 1))
    refine ⟨S0, AD.new (t2 + 1), newR (t2 + 1), ⟨(D2.out.later HB3.out).later hx.bel, fun k hk => (HSU.out k hk).1, ⟨hx.box, hb.trans (hx.bel.mono hb.size)⟩, hb.size, fun e => ?_, new_is _ _ _⟩, Int.le_refl _⟩
    have h1 := (HSU.out _ e).2
    have h2 := HB3.out.size
    omega) ?_
  intro W4 hm4
  obtain ⟨g, hg⟩ : ∃ g, g = w3.heap.size := ⟨_, rfl⟩
  rw [← hg] at hm4 ⊢
  have M4 := Lib.hid hm4
  clear hm4 hg ht' ht2' hb1 hb2
  go_wp2_with fail
  go_loopw [42] (fun i wr => ∃ k : Nat, i = .int .i64 k ∧ k ≤ n ∧ Hid (Mid1 w d g (min k 30) wr)) (fun i _ => n - (match i with | .int _ k => k.toNat | _ => 0))
  case atStart => exact ⟨0, rfl, Nat.zero_le _, M4⟩
  case round =>
    obtain ⟨k, rfl, hk, H⟩ := hrel
    by_cases hkn : k < n
    · have hkk : (k : Int) < n := by omega
      have k0 : (0 : Int) ≤ (k : Int) := by omega
      obtain ⟨S, M, D, hP, hO⟩ := H.out
      have hbw := hP.box.bel
      obtain ⟨b, off, o, B, cb, K, kc, hA, hcs, hw, hop⟩ := ops_at HO.out hbw (k := k) (by rw [← HN.out]; exact hkn)
      subst hA
      obtain ⟨y0, y1, y2, y3, y4⟩ := hcs
      obtain ⟨bn, hbn⟩ : ∃ bn, bn = o.bs.length := ⟨_, rfl⟩
      obtain ⟨kn, hkn'⟩ : ∃ kn, kn = o.keep.length := ⟨_, rfl⟩
      rw [← hbn] at y3
      rw [← hkn'] at y4
      have HBN := Lib.hid hbn
      have HKN := Lib.hid hkn'
      have HP := Lib.hid hP
      have HWF := Lib.hid hw
      have HOP := Lib.hid (And.intro hop hbw)
      have HOO := Lib.hid hO
      clear hP hw hop hbn hkn' hbw hO
      go_upto_region 11 with fail
      refine name_world (fun W => OpBox W wr.heap.size o B bn cb K kn kc ∧ Below wr.heap.size wr W) ⟨⟨heap_alloc_new wr _⟩, (Below.refl _ wr).alloc (Nat.le_refl _) _⟩ ?_
      rintro W5 ⟨hox, hb5⟩
      have HB5 := Lib.hid hb5
      have HX5 := Lib.hid hox
      clear hb5 hox y0 y1 y2 y3 y4
      have x0 := HX5.out.y0
      have x1 := HX5.out.y1
      have x2 := HX5.out.y2
      have x3 := HX5.out.y3
      have x4 := HX5.out.y4
      by_cases h30 : k < 30
      · have h30' : (k : Int) < 30 := by omega
        -- RUN1
        have HE := run_any o HWF.out B cb K kc (HOP.out.1.below (HB5.out.mono HOP.out.2.size)) (HP.out.later HB5.out).at_ (by have := HOO.out; omega)
        dsimp only [opV] at HE
        rw [← HBN.out, ← HKN.out] at HE
        have HE := Lib.hid HE
        go_wp2_with fail
        refine HE.out.mono ?_
        rintro e W6 ⟨v, S', rfl, hown, hd6, ht6, hs6⟩
        obtain ⟨hbox6, hup6, hfar6, hi6, hlt6⟩ := (HP.out.later HB5.out).ran ht6 hd6 hs6
        have hx6 : OpBox W6 wr.heap.size o B bn cb K kn kc := ⟨(ht6.block _ (lt_of_block HX5.out.box) (fun e => by have := HP.out.at_.low e; omega)).trans HX5.out.box⟩
        have HW := wants_any hi6 HP.out.at_.ok hlt6 (by have := HOO.out; omega) o HWF.out B cb K kc ((HOP.out.1.below (HB5.out.mono HOP.out.2.size)).below (ht6.below (by have h1 := HOP.out.2.size; have h2 := HB5.out.size; omega) HP.out.up))
        dsimp only [opV] at HW
        rw [← HBN.out, ← HKN.out] at HW
        have HW := Lib.hid HW
        have BX6 := Lib.hid hbox6
        have HD6 := Lib.hid hd6
        have FX6 := Lib.hid (And.intro hup6 hfar6)
        clear x0 x1 x2 x3 x4 HE hown ht6 hs6 hbox6 hup6 hfar6 hi6 hlt6 hd6
        have x0 := hx6.y0
        have x1 := hx6.y1
        have x2 := hx6.y2
        have x3 := hx6.y3
        have x4 := hx6.y4
        clear hx6
        go_wp2_with (refine wp_loadR rfl _ rfl rfl BX6.out ?_)
        refine HW.out.mono ?_
        rintro e W7 ⟨D', A7, n7, c7, rfl, hi7, sl7, hb7⟩
        have HI7 := Lib.hid hi7
        have HB7 := Lib.hid hb7
        have BX7 := Lib.hid (BX6.out.later hb7)
        clear hi7 hb7 sl7 HW x0 x1 x2 x3 x4
        go_upto_region 14 with (refine wp_storeR rfl _ _ rfl rfl rfl BX7.out ?_)
        refine name_world (fun W => Mid1 w d g (min (k + 1) 30) W) ⟨S', M.runM o.few, D', Pair.laid HD6.out HB7.out BX6.out FX6.out.1 HP.out.low FX6.out.2 HI7.out, by have h1 := ops_run M o.few; have h2 := HOO.out; omega⟩ ?_
        intro W8 hm8
        have M8 := Lib.hid hm8
        clear hm8
        go_wp2
        go_roundw
        case rel => exact ⟨k + 1, by simp, by omega, M8⟩
        case measure => simp; omega
      · have h30d : decide ((k : Int) < 30) = false := by simp; omega
        go_wp2
        go_roundw
        case rel => exact ⟨k + 1, by simp, by omega, Lib.hid ⟨S, M, D, HP.out.later HB5.out, by have := HOO.out; omega⟩⟩
        case measure => simp; omega
    · obtain rfl : k = n := by omega
      obtain ⟨S, M, D, hP, hO⟩ := H.out
      have HP := Lib.hid hP
      have HOO := Lib.hid hO
      clear hP hO H
      go_upto_region 15 with fail
      go_cut [12, 13] from 60 to 62 (fun x y wx => ∃ c2 g2 : Nat, x = .pointer (some ⟨c2, 0, none⟩) ∧ y = .pointer (some ⟨g2, 0, none⟩) ∧ Hid (Mid2 w d g c2 g2 0 wx))
      case first =>
        refine wp_region_held_drew (S := fun W => Below wr.heap.size wr W) (by kernel_rfl) (below_drewN (Below.refl _ wr) 1) (fun hS => ?_)
        refine wpAnyH_take (i := 0) rfl (by kernel_rfl) (by kernel_rfl) (by kernel_rfl) (fun _ _ _ h => h) (Or.inl ⟨by rfl, fun W h => by go_simp; rfl⟩) hS ?_
        try simp only [Act.put, List.setIfInBounds_toArray, List.set_cons_zero, List.set_cons_succ]
        refine wpAnyH_take (i := 2) rfl (by kernel_rfl) (by kernel_rfl) (by kernel_rfl) (fun _ _ _ h => h) (yields_loadRg (D := D) rfl _ rfl rfl (fun W h => (HP.out.later h).box)) hS ?_
        try simp only [Act.put, List.setIfInBounds_toArray, List.set_cons_zero, List.set_cons_succ]
        refine wpAnyH_ready (rs := [1, 3]) (by kernel_rfl) (by simp) ?_
        refine AllReadyH.cons rfl (fun K' hK => ?_) (AllReadyH.cons rfl (fun K' hK => ?_) AllReadyH.nil)
        · rw [if_pos (by rfl)]
          go_simp
          go_at_call 14
          refine (copy_any (HP.out.later hS).at_).mono ?_
          rintro e wX ⟨p, rfl, hdc, hbX⟩
          change K' _ _
          have hX := HP.out.later hS
          refine hK.out _ _ (hS.trans (hbX.mono hS.size)) (fun hS2 => ?_)
          clear hK K'
          try simp only [Act.put, List.setIfInBounds_toArray, List.set_cons_zero, List.set_cons_succ]
          refine wpAnyH_ready (rs := [3]) (by kernel_rfl) (by simp) ?_
          refine AllReadyH.cons rfl (fun K' hK => ?_) AllReadyH.nil
          rw [if_pos (by rfl)]
          go_simp
          have hbA : Below wX.heap.size wX (wX.alloc (.cells (rdA zeroR) 33)) := (Below.refl _ wX).alloc (Nat.le_refl _) _
          refine hK.out _ _ (hS2.trans (hbA.mono hS2.size)) (fun hS3 => ?_)
          clear hK K'
          try simp only [Act.put, List.setIfInBounds_toArray, List.set_cons_zero, List.set_cons_succ]
          refine wpAnyH_take (i := 4) rfl (by kernel_rfl) (by kernel_rfl) (by kernel_rfl) (fun _ _ _ h => h) (Or.inl ⟨by rfl, fun W h => by go_simp; rfl⟩) hS3 ?_
          simp only [List.getElem_toArray, List.getElem_cons_zero, List.getElem_cons_succ, Act.put, List.setIfInBounds_toArray, List.set_cons_zero, List.set_cons_succ]
          refine wpAnyH_ready (rs := [5]) (by kernel_rfl) (by simp) ?_
          refine AllReadyH.cons rfl (fun K' hK => ?_) AllReadyH.nil
          rw [if_pos (by rfl)]
          refine wp_storeRow rfl _ _ rfl rfl rfl (BoxR.new wX zeroR) ?_
          have hbR := (BoxR.new wX zeroR).fill (Nat.le_refl _) D
          have hbS := hS2.trans (hbR.bel.mono hS2.size)
          refine hK.out _ _ hbS (fun hS4 => ?_)
          clear hK K'
          try simp only [Act.put, List.setIfInBounds_toArray, List.set_cons_zero, List.set_cons_succ]
          refine wpAnyH_done (by kernel_rfl) ?_ _
          go_wp2_with fail
          go_meet
          have hsX := hbX.size
          exact ⟨p, wX.heap.size, rfl, rfl, Lib.hid ⟨S, M, D, _, M, D, Both.new hX (hbX.trans (hbR.bel.mono hbX.size)) (hdc.later hbR.bel) (fun q hq => hq.1) hsX (fun e => by omega) hbR.box, by have := HOO.out; omega, by have := HOO.out; omega⟩⟩
        · rw [if_pos (by rfl)]
          go_simp
          change K' _ (wr.drew.alloc (.cells (rdA zeroR) 33))
          have hX := HP.out.later hS
          have hbA : Below wr.drew.heap.size wr.drew (wr.drew.alloc (.cells (rdA zeroR) 33)) := (Below.refl _ wr.drew).alloc (Nat.le_refl _) _
          have hbN := BoxR.new wr.drew zeroR
          refine hK.out _ _ (hS.trans (hbA.mono hS.size)) (fun hS2 => ?_)
          clear hK K'
          try simp only [Act.put, List.setIfInBounds_toArray, List.set_cons_zero, List.set_cons_succ]
          refine wpAnyH_ready (rs := [1]) (by kernel_rfl) (by simp) ?_
          refine AllReadyH.cons rfl (fun K' hK => ?_) AllReadyH.nil
          rw [if_pos (by rfl)]
          go_simp
          go_at_call 14
          refine (copy_any (HP.out.later hS2).at_).mono ?_
          rintro e wY ⟨p, rfl, hdc, hbY⟩
          change K' _ _
          refine hK.out _ _ (hS2.trans (hbY.mono hS2.size)) (fun hS3 => ?_)
          clear hK K'
          try simp only [Act.put, List.setIfInBounds_toArray, List.set_cons_zero, List.set_cons_succ]
          refine wpAnyH_take (i := 4) rfl (by kernel_rfl) (by kernel_rfl) (by kernel_rfl) (fun _ _ _ h => h) (Or.inl ⟨by rfl, fun W h => by go_simp; rfl⟩) hS3 ?_
          simp only [List.getElem_toArray, List.getElem_cons_zero, List.getElem_cons_succ, Act.put, List.setIfInBounds_toArray, List.set_cons_zero, List.set_cons_succ]
          refine wpAnyH_ready (rs := [5]) (by kernel_rfl) (by simp) ?_
          refine AllReadyH.cons rfl (fun K' hK => ?_) AllReadyH.nil
          rw [if_pos (by rfl)]
          have hbZ := hbN.later hbY
          refine wp_storeRow rfl _ _ rfl rfl rfl hbZ ?_
          have hbR := hbZ.fill (Nat.le_refl _) D
          refine hK.out _ _ (hS.trans (hbR.bel.mono hS.size)) (fun hS4 => ?_)
          clear hK K'
          try simp only [Act.put, List.setIfInBounds_toArray, List.set_cons_zero, List.set_cons_succ]
          refine wpAnyH_done (by kernel_rfl) ?_ _
          go_wp2_with fail
          go_meet
          have hsz : (wr.drew.alloc (.cells (rdA zeroR) 33)).heap.size = wr.drew.heap.size + 1 := by simp
          exact ⟨p, wr.drew.heap.size, rfl, rfl, Lib.hid ⟨S, M, D, _, M, D, Both.new hX hbR.bel (hdc.other (turn_row wY wr.drew.heap.size (rdA D)) (fun q hq e => by have e : q = _ := e; have := hq.1; omega)) (fun q hq => by have := hq.1; omega) (Nat.le_refl _) (fun e => by have := e.1; omega) hbR.box, by have := HOO.out; omega, by have := HOO.out; omega⟩⟩
      case rest =>
        obtain ⟨c2, g2, rfl, rfl, MC⟩ := hcut
        clear HP HOO
        go_wp2_with fail
        go_loopw [65] (fun i wr => ∃ k : Nat, i = .int .i64 k ∧ k ≤ n' ∧ Hid (Mid2 w d g c2 g2 (min k 30) wr)) (fun i _ => n' - (match i with | .int _ k => k.toNat | _ => 0))
        case atStart => exact ⟨0, rfl, Nat.zero_le _, MC⟩
        case round =>
          clear MC
          obtain ⟨k, rfl, hk, H⟩ := hrel
          by_cases hkn : k < n'
          · have hkk : (k : Int) < n' := by omega
            have k0 : (0 : Int) ≤ (k : Int) := by omega
            obtain ⟨S, M, D, T, Mc, Dn, hP, hO⟩ := H.out
            have hbw := hP.one.box.bel
            obtain ⟨b, off, o, B, cb, K, kc, hA, hcs, hw, hop⟩ := ops_at HM.out hbw (k := k) (by rw [← HN'.out]; exact hkn)
            subst hA
            obtain ⟨y0, y1, y2, y3, y4⟩ := hcs
            obtain ⟨bn, hbn⟩ : ∃ bn, bn = o.bs.length := ⟨_, rfl⟩
            obtain ⟨kn, hkn'⟩ : ∃ kn, kn = o.keep.length := ⟨_, rfl⟩
            rw [← hbn] at y3
            rw [← hkn'] at y4
            have HBN := Lib.hid hbn
            have HKN := Lib.hid hkn'
            have HP := Lib.hid hP
            have HWF := Lib.hid hw
            have HOP := Lib.hid (And.intro hop hbw)
            have HOO := Lib.hid hO
            clear hP hw hop hbn hkn' hbw hO
            go_upto_region 19 with fail
            refine name_world (fun W => OpBox W wr.heap.size o B bn cb K kn kc ∧ Below wr.heap.size wr W) ⟨⟨heap_alloc_new wr _⟩, (Below.refl _ wr).alloc (Nat.le_refl _) _⟩ ?_
            rintro W5 ⟨hox, hb5⟩
            have HB5 := Lib.hid hb5
            have HX5 := Lib.hid hox
            clear hb5 hox y0 y1 y2 y3 y4
            have x0 := HX5.out.y0
            have x1 := HX5.out.y1
            have x2 := HX5.out.y2
            have x3 := HX5.out.y3
            have x4 := HX5.out.y4
            by_cases h30 : k < 30
            · have h30' : (k : Int) < 30 := by omega
              have HP5 := Lib.hid (HP.out.later HB5.out)
              have HE := run_any o HWF.out B cb K kc (HOP.out.1.below (HB5.out.mono HOP.out.2.size)) HP5.out.two.at_ (by have := HOO.out; omega)
              dsimp only [opV] at HE
              rw [← HBN.out, ← HKN.out] at HE
              have hrl := runB_le HP.out.two.at_.ok o.few
              obtain ⟨BB, hBB⟩ : ∃ BB, BB = Mc.runB o.few := ⟨_, rfl⟩
              obtain ⟨cc, hcc⟩ : ∃ cc, cc = Mc.runC o.few := ⟨_, rfl⟩
              obtain ⟨Mn, hMn⟩ : ∃ Mn, Mn = Mc.runM o.few := ⟨_, rfl⟩
              have hopn := ops_run Mc o.few
              rw [← hMn] at hopn
              rw [← hBB] at hrl
              have HE := Lib.hid HE
              go_wp2_with fail
              refine HE.out.mono ?_
              rintro e W6 ⟨v, T', rfl, hown, hd6, ht6, hs6⟩
              rw [← hcc]
              rw [← hBB] at hown
              rw [← hMn] at hd6
              obtain ⟨hbox6, hup6, hfar6, hi6, hlt6⟩ := HP5.out.two.ran ht6 hd6 hs6
              have hx6 : OpBox W6 wr.heap.size o B bn cb K kn kc := ⟨(ht6.block _ (lt_of_block HX5.out.box) (fun e => by have := HP.out.two.at_.low e; omega)).trans HX5.out.box⟩
              have HW := wants_any hi6 HP.out.two.at_.ok hlt6 (by have := HOO.out; omega) o HWF.out B cb K kc ((HOP.out.1.below (HB5.out.mono HOP.out.2.size)).below (ht6.below (by have h1 := HOP.out.2.size; have h2 := HB5.out.size; omega) HP.out.two.up))
              dsimp only [opV] at HW
              rw [← HBN.out, ← HKN.out] at HW
              have HW := Lib.hid HW
              obtain ⟨bl, hbl⟩ : ∃ bl, bl = BB.length := ⟨_, rfl⟩
              rw [← hbl] at hown hrl
              obtain ⟨A6, c6, rfl, hlc6, hlm6⟩ := own_form hown
              have HBL := Lib.hid hbl
              have hsl6 : SlN W6 (fun _ => False) A6 bl c6 BB := by
                have := SlN.own (N := fun _ => False) (A := A6) (n := bl) (c := c6) (xs := BB) hown (fun g hg => hg.elim)
                exact this
              have SL6 := Lib.hid hsl6
              have BX6 := Lib.hid hbox6
              have HD6 := Lib.hid hd6
              have HT6 := Lib.hid ht6
              have HS6 := Lib.hid hs6
              have FX6 := Lib.hid (And.intro hup6 hfar6)
              have HCC := Lib.hid hcc
              have HBB := Lib.hid hBB
              have HMN := Lib.hid hMn
              clear x0 x1 x2 x3 x4 HE hown ht6 hs6 hbox6 hup6 hfar6 hi6 hlt6 hd6 hsl6 hcc hBB hMn hbl
              have x0 := hx6.y0
              have x1 := hx6.y1
              have x2 := hx6.y2
              have x3 := hx6.y3
              have x4 := hx6.y4
              clear hx6
              go_wp2_with (refine wp_loadR rfl _ rfl rfl BX6.out ?_)
              refine HW.out.mono ?_
              rintro e W7 ⟨D', A7, n7, c7, rfl, hi7, sl7, hb7⟩
              rw [← HCC.out]
              rw [← HBB.out] at sl7
              rw [← HMN.out] at hi7
              obtain rfl : n7 = bl := by rw [← sl7.len, HBL.out]
              have HI7 := Lib.hid hi7
              have HB7 := Lib.hid hb7
              have SL7 := Lib.hid sl7
              have BX7 := Lib.hid (BX6.out.later hb7)
              clear hi7 hb7 sl7 HW x0 x1 x2 x3 x4
              go_upto_region 22 with (refine wp_storeR rfl _ _ rfl rfl rfl (BoxR.new _ zeroR) ?_)
              refine name_world (fun W => BoxR W7 W7.heap.size D' W) ((BoxR.new W7 zeroR).fill (Nat.le_refl _) D') ?_
              intro W8 hb8
              have BN8 := Lib.hid hb8
              have BX8 := Lib.hid (BX7.out.later hb8.bel)
              have hsz7 := lt_of_block BX7.out.box
              clear hb8
              go_upto_region 23 with (first | (refine wp_loadR rfl _ rfl rfl BN8.out ?_) | (refine wp_storeR rfl _ _ rfl rfl rfl BX8.out ?_))
              refine name_world (fun W => Both w d g c2 g2 S M D T' Mn D' W ∧ Rd W W.heap.size A6 BB ∧ Rd W W.heap.size A7 BB) (by
                have hb68 : Below W6.heap.size W6 W8 := HB7.out.trans (BN8.out.bel.mono HB7.out.size)
                have hi8 := HI7.out.below BN8.out.bel
                have hpair := Pair.laid HD6.out hb68 BX6.out FX6.out.1 HP.out.two.low FX6.out.2 hi8
                have hturn : Turn (fun k => T k ∨ k = g2) W5 (W8.setRow g2 (rdA D')) := ((HT6.out.mono (fun k e => .inl e)).trans (Turn.of_below (S := fun _ => False) hb68) (fun _ e => e.elim)).trans (turn_row W8 g2 (rdA D')) (fun k e => .inl (.inr e))
                exact ⟨HP5.out.went hturn HS6.out hpair, ((SL6.out.below hb68).row BX8.out.box (rdA D')).rd, ((SL7.out.below BN8.out.bel).row BX8.out.box (rdA D')).rd⟩) ?_
              rintro W9 ⟨hbo, hr6, hr7⟩
              have HBO := Lib.hid hbo
              have hsm := same_ref A6 A7 c6 c7 BB W9 hr6 hr7 (by rw [← HBL.out]; omega)
              rw [← HBL.out] at hsm
              have HSM := Lib.hid hsm
              clear hbo hr6 hr7 hsm
              go_wp2_with (go_at_call 15; refine HSM.out.mono ?_; rintro e W10 ⟨rfl, hb10⟩; have HB10 := Lib.hid hb10; clear hb10)
              go_roundw
              case rel => exact ⟨k + 1, by simp, by omega, Lib.hid ⟨S, M, D, T', Mn, D', HBO.out.later HB10.out, HOO.out.1, by have := HOO.out.2; omega⟩⟩
              case measure => simp; omega
            · have h30d : decide ((k : Int) < 30) = false := by simp; omega
              go_wp2
              go_roundw
              case rel => exact ⟨k + 1, by simp, by omega, Lib.hid ⟨S, M, D, T, Mc, Dn, HP.out.later HB5.out, HOO.out.1, by have := HOO.out.2; omega⟩⟩
              case measure => simp; omega
          · obtain rfl : k = n' := by omega
            go_upto_region 26 with fail
            obtain ⟨S, M, D, T, Mc, Dn, hP, hO⟩ := H.out
            have HP := Lib.hid hP
            have HOO := Lib.hid hO.1
            have BG := Lib.hid hP.one.box
            have BG2 := Lib.hid hP.two.box
            have SY2 := Lib.hid (says_one hP.two.at_ hP.two.is_)
            clear hP hO H
            go_wp2_with (first
              | (refine wp_loadR rfl _ rfl rfl BG2.out ?_)
              | (go_at_call 16; (with_reducible refine SY2.out.mono ?_); rintro e W1 ⟨rfl, hb1⟩; have HB1 := Lib.hid hb1; have BG1 := Lib.hid (BG.out.later hb1); have SY1 := Lib.hid (says_one (HP.out.later hb1).one.at_ (HP.out.later hb1).one.is_); clear hb1)
              | (refine wp_loadRG (by rfl) _ rfl rfl BG1.out ?_)
              | (go_at_call 16; (with_reducible refine SY1.out.mono ?_); rintro e W2 ⟨rfl, hb2⟩; have HB2 := Lib.hid hb2; clear hb2))
            have HP2 := Lib.hid ((HP.out.later HB1.out).later HB2.out).one
            clear HB1 HB2 SY1 SY2 BG BG1 BG2 HP
            go_loopw [106] (fun i wr => ∃ k : Nat, i = .int .i64 k ∧ k ≤ 4 ∧ Hid (Mid3 w d g S M D k wr)) (fun i _ => 4 - (match i with | .int _ k => k.toNat | _ => 0))
            case atStart => exact ⟨0, rfl, by omega, Lib.hid (Mid3.new HP2.out HOO.out)⟩
            case round =>
              clear HP2
              obtain ⟨k, rfl, hk, H⟩ := hrel
              have HX := H
              by_cases hk4 : k < 4
              · have hkk : (k : Int) < 4 := by omega
                have k0 : (0 : Int) ≤ (k : Int) := by omega
                obtain ⟨M', i, h3⟩ := H.out
                have H3 := Lib.hid h3
                clear h3 H
                have c20 := H3.out.box.c20
                have c18 := H3.out.box.c18
                have c19 := H3.out.box.c19
                have f0 := H3.out.box.file0 hk4
                rcases hdd : D.dead with _ | _
                · rw [hdd] at c20
                  rcases hth : (D.file k).there with _ | _
                  · rw [hth] at f0
                    go_wp2
                    go_roundw
                    case rel => exact ⟨k + 1, by simp, by omega, Lib.hid HX.out.more⟩
                    case measure => simp; omega
                  · rw [hth] at f0
                    by_cases ha : 0 ≤ D.armed
                    · have qa : decide (0 ≤ D.armed) = true := by simp [ha]
                      go_wp2
                      go_roundw
                      case rel => exact ⟨k + 1, by simp, by omega, Lib.hid HX.out.more⟩
                      case measure => simp; omega
                    · have qa : decide (0 ≤ D.armed) = false := by simp; omega
                      by_cases hf : 0 ≤ D.failing
                      · have qf : decide (0 ≤ D.failing) = true := by simp [hf]
                        go_wp2
                        go_roundw
                        case rel => exact ⟨k + 1, by simp, by omega, Lib.hid HX.out.more⟩
                        case measure => simp; omega
                      · have qf : decide (0 ≤ D.failing) = false := by simp; omega
                        obtain ⟨F, hF, hfree, hcode, hbs, hfr2⟩ := H3.out.reads hk4 hdd hth ha hf
                        have hok := H3.out.at_.ok
                        have i64k : I64 (k : Int) := by
                          have h1 : k = 0 ∨ k = 1 ∨ k = 2 ∨ k = 3 := by omega
                          rcases h1 with rfl | rfl | rfl | rfl <;> decide
                        have HRD := read_any H3.out.at_ i64k (by have := H3.out.ops; omega)
                        unfold ReadsAs at HRD
                        rw [hcode, hbs] at HRD
                        have hbl : F.bs.length ≤ 65536 := by
                          have h1 := hok.tot
                          have h2 := hok.room2
                          have h3 := len_le M' (k := (k : Int)) ⟨by omega, by omega⟩
                          unfold AD.len at h3
                          rw [H3.out.files, hF] at h3
                          simp only at h3
                          omega
                        have HAL := Lib.hid (fun W (hi : RefIs W (fun q => S q ∨ q = g) D M) => H3.out.alls hk4 hF hbl hi)
                        obtain ⟨bs, hbb⟩ : ∃ bs, bs = F.bs := ⟨_, rfl⟩
                        rw [← hbb] at HRD HAL hbl
                        obtain ⟨bl, hll⟩ : ∃ bl, bl = bs.length := ⟨_, rfl⟩
                        rw [← hll] at HRD hbl
                        have HLL := Lib.hid hll
                        have HRD := Lib.hid HRD
                        have HFR := Lib.hid hfr2
                        have HFE := Lib.hid hfree
                        clear hF hfree hcode hbs hfr2 hok hbb hll
                        go_upto_region 33 with (go_at_call 17; refine HRD.out.mono ?_; rintro e w3 ⟨v, rfl, hown, hd3, ht3⟩; obtain ⟨A4, c4, rfl, _, _⟩ := own_form hown; have HOW := Lib.hid (Rd.own hown); have HD3 := Lib.hid hd3; have HT3 := Lib.hid ht3; clear hown hd3 ht3)
                        have h33 := H3.out.went HT3.out HD3.out HFR.out HFE.out
                        have H33 := Lib.hid h33
                        have BX := Lib.hid h33.box
                        have HA := Lib.hid (HAL.out w3 h33.is_)
                        clear h33 HAL c18 c19 c20 f0
                        go_wp2_with (first
                          | (refine wp_loadFG (by rfl) _ rfl hk4 rfl BX.out ?_)
                          | (go_at_call 18; refine HA.out.mono ?_; rintro e w4 ⟨A5, c5, rfl, hown5, hb4⟩; rw [← HLL.out]; have HSM := same_ref A4 A5 c4 c5 bs w4 (HOW.out.below hb4) (Rd.own hown5) (by rw [← HLL.out]; omega); rw [← HLL.out] at HSM; have HSM := Lib.hid HSM; have HB4 := Lib.hid hb4; clear hown5 hb4)
                          | (go_at_call 15; refine HSM.out.mono ?_; rintro e w5 ⟨rfl, hb5⟩; have HB5 := Lib.hid hb5; clear hb5))
                        go_roundw
                        case rel => exact ⟨k + 1, by simp, by omega, Lib.hid ⟨_, _, (H33.out.later HB4.out).later HB5.out⟩⟩
                        case measure => simp; omega
                · rw [hdd] at c20
                  go_wp2
                  go_roundw
                  case rel => exact ⟨k + 1, by simp, by omega, Lib.hid HX.out.more⟩
                  case measure => simp; omega
              · obtain rfl : k = 4 := by omega
                obtain ⟨M', i, h3⟩ := H.out
                have HB := Lib.hid h3.box.bel
                clear h3 HX H
                go_wp2
                go_ret
                exact ⟨rfl, HB.out⟩

set_option maxRecDepth 100000 in
theorem lifted (os : Os) (started : os.Started) (H : Type) (enc : TypeId × Value → H) :
    ReturnsInHanded {} Try.checked os 3 .any (Rows.diskCopiesSpec.pre6 enc Try.prog Try.f3 Rows.diskCopiesRow.domain false) (Rows.diskCopiesSpec.post enc Try.prog Try.f3 false true false false) := by
  refine returnsInHanded_of_change (C := Try.checked) Try.own started (by kernel_rfl) Try.func3
    (ChangeSpec.witness6 (enc := enc) (C := Try.checked) false ⟨#[], #[.int .i64 0, .slice none 0 0, .slice none 0 0], []⟩ 8 (by kernel_rfl) (by kernel_rfl) (by kernel_rfl) (by kernel_rfl)) ?_
  intro W base args ds gs before hval0 hW hcnd _
  have hval : ∀ (j : Nat) t v, Try.f3.params[j]? = some t → args[j]? = some v → Value.okWide Try.prog W .any base t v := hval0
  have hW' := hW
  obtain ⟨p, q, hA0, hV, rfl, hfz, hnd⟩ := hW
  have hA : DataW.TrodAll enc Try.prog W 0 (fun _ => true) true Try.f3.params.toList args.toList ds p := hA0
  rw [Try.params3] at hA hval
  have hA' := hA
  obtain ⟨v0, vs0, d0, ds0, p0, q0, hargs, rfl, rfl, h0, r0⟩ := trodAll_cons hA
  obtain ⟨v1, vs1, d1, ds1, p1, q1, rfl, rfl, rfl, h1, r1⟩ := trodAll_cons r0
  obtain ⟨v2, vs2, d2, ds2, p2, q2, rfl, rfl, rfl, h2, r2⟩ := trodAll_cons r1
  obtain ⟨rfl, rfl, rfl⟩ := trodAll_nil r2
  obtain rfl : args = #[v0, v1, v2] := by cases args; simp_all
  obtain ⟨rfl, rfl⟩ := trodVars_none hV
  obtain ⟨a0, rfl, rfl, rfl, w0⟩ := open_int Try.underlying3 (hval 0 3 v0 rfl rfl) h0
  obtain ⟨A1, len1, c1, rfl⟩ := okWide_slice Try.underlying22 (hval 1 22 v1 rfl rfl)
  obtain ⟨z1, rfl, sl1, le1, mx1⟩ := open_ops h1
  obtain ⟨A2, len2, c2, rfl⟩ := okWide_slice Try.underlying22 (hval 2 22 v2 rfl rfl)
  obtain ⟨z2, rfl, sl2, le2, mx2⟩ := open_ops h2
  clear hA0 hval0
  refine (walk a0 w0 A1 c1 z1 sl1 le1 mx1 A2 c2 z2 sl2 le2 mx2).mono fun e W' ⟨he, bel⟩ => ?_
  subst he
  exact ⟨_, rfl, _, _, _, [], _, [], hW', trodAll_mk1 (shut_bool Try.underlying4 _), trodAll_below bel _ _ _ _ (by kernel_rfl) hA', rfl, bel.frame _, fun h => by cases h⟩

theorem proved : Rows.DiskCopiesSaid :=
  OpenClaim.holds_of_wide 3 Try.f3 rfl rfl rfl rfl rfl rfl rfl ⟨rfl, rfl, rfl, rfl, rfl⟩ rfl rfl rfl rfl rfl (by kernel_rfl) Try.func3 (by kernel_rfl)
    (of_decide_eq_true (by kernel_rfl)) (by unfold Func.isWrapper; first | (rw [if_pos (by decide +kernel)]; kernel_rfl) | (rw [if_neg (by decide +kernel)]; exact ⟨rfl, rfl⟩))
    (fun os started H enc _ => lifted os started H enc)
#print axioms proved
end Go.Proofs.Ythpbgejjfdgpaaa.diskCopies
