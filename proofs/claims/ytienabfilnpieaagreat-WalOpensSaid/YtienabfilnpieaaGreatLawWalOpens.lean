/-
  Proved: the law WalOpens, what Open makes of a file is what the document reads in it, returns true for every row of bytes, and leaves all memory as it was. No condition.
-/
import Derived.Test.YtienabfilnpieaaGreatRefAll
import Derived.Test.YtienabfilnpieaaGreatLawFrame
import Derived.Deep.Matrix
import Derived.Deep.Cut
import Derived.Deep.CutRange
import Derived.Deep.CutBlock
namespace Go.Proofs.YtienabfilnpieaaGreat.walOpens
open Go.ChangeShapes Go.WideShapes Go.ChangeAt Go.RowKit Go.Deep
set_option linter.unusedVariables false
set_option linter.unusedSimpArgs false
set_option maxRecDepth 100000

theorem open_rows {H : Type} {enc : TypeId × Value → H} {W : World} {a : Option Addr} {len cap : Nat} {d : DataW H} {p : List MemPlace}
    (h : DataW.Trod enc Tryz.prog W 0 (fun _ => true) true 29 (.slice a len cap) d p) : ∃ l : List (List Int), l.length = len ∧ Recs W a l ∧ len ≤ 9223372036854775807 := by
  obtain ⟨fuel, hf⟩ := h
  rcases open_int_rows Tryz.underlying29 Tryz.underlying33 Tryz.underlying5 (by kernel_rfl) (by kernel_rfl) hf with ⟨hcs, _⟩ | ⟨x, l, c, A, L, C, Z, hcs, _, hl, hm, _, hrow⟩
  · simp [Value.cells] at hcs
    obtain ⟨rfl, rfl, rfl⟩ := hcs
    exact ⟨[], rfl, fun i p hp => by simp at hp, by omega⟩
  · simp [Value.cells] at hcs
    obtain ⟨rfl, rfl, rfl⟩ := hcs
    refine ⟨(List.range len).map (fun r => (Z r).take (L r)), by simp, fun i y hy => ?_, by unfold maxLen at hm; omega⟩
    have hi : i < len := by have := (List.getElem?_eq_some_iff.1 hy).1; simpa using this
    simp [hi] at hy
    subst hy
    obtain ⟨h1, h2, h3, h4, h5, h6, h7⟩ := hrow i (by omega)
    obtain ⟨b, off, spot⟩ := x
    have hc0 := (hrow 0 (by omega)).1
    have hspot : spot = none := by simpa [Addr.add] using World.cell?_spot hc0
    subst hspot
    rw [Addr.add_lit] at h1
    have hc' : W.cell? ⟨b, off + i, none⟩ = some (.slice (A i) (L i) (C i)) := h1
    have hzl : ((Z i).take (L i)).length = L i := by simp; omega
    refine ⟨b, off, A i, C i, rfl, World.block_lt_of_cell? W _ hc', by rw [hzl]; exact hc', ⟨by omega, by unfold maxLen at h3; omega, fun hp => ?_⟩, fun z hz => ?_⟩
    · rw [hzl] at hp
      cases hA : A i with
      | none => have := h6 hA; omega
      | some a' =>
        obtain ⟨b', off', spot'⟩ := a'
        have hx := (h7 _ hA).2
        have hx0 := hx 0 (by omega)
        have hspot : spot' = none := by simpa [Addr.add] using World.cell?_spot hx0
        subst hspot
        have hx0' : W.cell? ⟨b', off', none⟩ = some (.int .u8 ((Z i).getD 0 0)) := by simpa [Addr.add] using hx0
        refine ⟨b', off', rfl, World.block_lt_of_cell? W _ hx0', fun j hj => ?_⟩
        rw [hzl] at hj
        have h9 := hx j (by omega)
        rw [Addr.add_lit] at h9
        rw [h9]
        simp [List.getD, hj]
    · have := h5 z (List.mem_of_mem_take hz)
      have := bounds_u8 this
      omega

/-- The disk of one round, the file synced. -/
structure Laid (wr W : World) (d : Nat) (S : Nat → Prop) (R : List Int) (A : Option Addr) (c : Nat) : Prop where
  disk : DiskAt W S d (opD R)
  sl : Sl W A c R
  blkA : ∀ q, blk A = some q → q < W.heap.size ∧ ¬ S q
  bel : Below wr.heap.size wr W
  up : ∀ q, S q → wr.heap.size ≤ q
/-- Behind Open. -/
theorem opened_no {wr W W2 : World} {d : Nat} {S S' : Nat → Prop} {R : List Int} {A : Option Addr} {c : Nat} {M : AD} (h : Laid wr W d S R A c) (hw : Went S S' d W M W2) : DiskAt W2 S' d M ∧ Sl W2 A c R ∧ Below wr.heap.size wr W2 :=
  ⟨hw.at_, h.sl.turn hw.turn (fun q hq => (h.blkA q hq).2), h.bel.trans (hw.turn.below h.bel.size h.up)⟩

theorem lay_app {wr w2 w3 : World} {A : Option Addr} {m c : Nat} {R : List Int} (hm : m = R.length) (h20 : m ≤ 2000) (hn : w2.ownsRow wr.heap.size 5 1 (.slice A m c) m (R.map (Value.int .u8))) (hb : Below wr.heap.size wr w2) (hd : DiskAt w3 (fun k => k = w2.heap.size ∨ k = w2.heap.size + 1) (w2.heap.size + 1) (AD.new 65536)) (hb3 : Below w2.heap.size w2 w3) :
    Calls Tryz.prog 11 #[.pointer (some ⟨w2.heap.size + 1, 0, none⟩), .int .i64 0, .slice A m c] w3 fun e w4 => e = .returned (.int .i64 0) ∧
      Calls Tryz.prog 12 #[.pointer (some ⟨w2.heap.size + 1, 0, none⟩), .int .i64 0] w4 fun e w5 => e = .returned (.int .i64 0) ∧ ∃ S, Laid wr w5 (w2.heap.size + 1) S R A c := by
  subst hm
  have hn' : New wr.heap.size w2 A c R := hn
  have hs := hn'.sl.below hb3
  have hnl : ∀ q, blk A = some q → wr.heap.size ≤ q ∧ q < w2.heap.size := fun q hq => hn.lt q (by cases A <;> simp_all [Value.ownBlock, blk])
  have key := append_any hd (k := 0) (by decide) (by decide) A R.length c R rfl (by omega) hs.rd
  rw [(cutD_calm R (by omega)).1] at key
  refine key.mono ?_
  rintro e w4 ⟨rfl, ha⟩
  refine ⟨rfl, ?_⟩
  have hops := cutD_ops R
  have key2 := sync_any (M := cutD R) ha.1 (k := 0) (by decide) (by omega)
  rw [(opD_calm R (by omega)).1] at key2
  refine key2.mono ?_
  rintro e w5 ⟨rfl, ha2⟩
  have hz3 := hb3.size
  have hgo := ha.go ha2 (fun i hi => hd.low hi)
  have hup : ∀ q, (q = w2.heap.size ∨ q = w2.heap.size + 1) → wr.heap.size ≤ q := fun q hq => by have := hb.size; omega
  refine ⟨rfl, _, hgo.1, hs.turn hgo.2 (fun q hq e => by have := (hnl q hq).2; omega), fun q hq => ⟨Nat.lt_of_lt_of_le (Nat.lt_of_lt_of_le (hnl q hq).2 hz3) hgo.2.size, fun e => ?_⟩, ?_, fun q hq => ?_⟩
  · have := (hnl q hq).2
    rcases e with e | e <;> omega
  · exact (hb.trans (hb3.mono hb.size)).trans (hgo.2.below (Nat.le_trans hb.size hz3) hup)
  · rcases hq with e | e
    · exact hup q e
    · have := hb.size; omega
theorem Recs.drop1 {w : World} {b o : Nat} {p : List Int} {ps : List (List Int)} (h : Recs w (some ⟨b, o, none⟩) (p :: ps)) : Recs w (some ⟨b, o + 1, none⟩) ps := fun i q hq => by
  obtain ⟨b', o', B, cb, h1, h2, h3, h4⟩ := h (i + 1) q (by simpa using hq)
  injection h1 with h1
  injection h1 with h1 h1'
  subst h1
  subst h1'
  exact ⟨b, o + 1, B, cb, rfl, h2, by rw [show o + 1 + i = o + (i + 1) by omega]; exact h3, h4⟩
theorem laid_open {wr W : World} {d : Nat} {S : Nat → Prop} {R : List Int} {A : Option Addr} {c : Nat} (h : Laid wr W d S R A c) (ho : Oct R) (hl : R.length ≤ 2000) :
    Calls Tryz.prog 13 #[.pointer (some ⟨d, 0, none⟩)] W (OpenAs S d W (opD R)) := by
  have hops := opD_ops R
  have hr : (opD R).readB 0 = R := (opD_calm R (by omega)).2.read (by decide) (opD_calm R (by omega)).2.f0
  exact open_any h.disk (by omega) (by rw [hr]; exact ho) (by rw [hr]; omega)

set_option maxHeartbeats 8000000 in
theorem walk {w : World} (LA : Option Addr) (lc : Nat) (l : List (List Int)) (hl : Recs w LA l) (hlm : l.length ≤ 9223372036854775807) :
    Calls Tryz.prog 4 #[.slice LA l.length lc] w fun e w' => e = .returned (.bool true) ∧ Below w.heap.size w w' := by
  have HL := Lib.hid hl
  obtain ⟨n, hn⟩ : ∃ n, n = l.length := ⟨_, rfl⟩
  have HN := Lib.hid hn
  rw [← hn] at hlm ⊢
  have HLM := Lib.hid hlm
  clear hl hn hlm
  go_enter Tryz.func4, Tryz.ntmps4
  go_wp2_with fail
  refine (wakes_any w).mono ?_
  rintro e w1 ⟨rfl, hb1⟩
  have HB1 := Lib.hid hb1
  clear hb1
  go_wp2_with fail
  go_loopw [14] (fun i wr => ∃ k : Nat, i = .int .i64 k ∧ k ≤ n ∧ k ≤ 6 ∧ Hid (Below w.heap.size w wr)) (fun i _ => n - (match i with | .int _ k => k.toNat | _ => 0))
  case atStart => exact ⟨0, rfl, Nat.zero_le _, Nat.zero_le _, HB1⟩
  case round =>
    clear HB1
    obtain ⟨k, rfl, hk, hk6, HB⟩ := hrel
    by_cases hkn : k < n
    · have hkk : (k : Int) < n := by omega
      have k0 : (0 : Int) ≤ (k : Int) := by omega
      obtain ⟨p, hp⟩ : ∃ p, l[k]? = some p := ⟨l[k]'(by rw [← HN.out]; exact hkn), List.getElem?_eq_getElem _⟩
      obtain ⟨b, o, B, cb, rfl, hblt, hcell, hsl, hoct⟩ := HL.out k p hp
      have hcell := (HB.out.cell (p := ⟨b, o + k, none⟩) hblt).trans hcell
      have hsl := hsl.below HB.out
      by_cases h6 : k = 6
      · subst h6
        generalize p.length = pl at *
        clear hsl hp hoct
        go_wp2
        go_ret
        exact ⟨rfl, HB.out⟩
      · have t6 : ((k : Int) == 6) = false := by simp; omega
        obtain ⟨R, hR⟩ : ∃ R, R = p.take 2000 := ⟨_, rfl⟩
        have hro : Oct R := by rw [hR]; exact hoct.takeN 2000
        obtain ⟨pl, hpl⟩ : ∃ pl, pl = p.length := ⟨_, rfl⟩
        obtain ⟨m, hm⟩ : ∃ m, m = R.length := ⟨_, rfl⟩
        have hmm : m = min pl 2000 := by rw [hm, hR, List.length_take, hpl]; omega
        have HM := Lib.hid hm
        have HO := Lib.hid hro
        have HS := Lib.hid (fun W (hW : Below wr.heap.size wr W) => show Rd W W.heap.size B R from by rw [hR]; exact ((hsl.below hW).rd).take 2000)
        have hpc := hsl.room
        have hcm := hsl.most
        rw [← hpl] at hcell hpc
        have hm20 : m ≤ 2000 := by omega
        have hmp : m ≤ pl := by omega
        have hmin : min (pl : Int) 2000 = (m : Int) := by omega
        have hmin2 : min 2000 (pl : Int) = (m : Int) := by omega
        have m0 : (0 : Int) ≤ (m : Int) := by omega
        have mc : (m : Int) ≤ (cb : Int) := by omega
        clear hp hsl hoct hR hro hpl hm hmm
        go_wp2_with (first
          | (at_builtin; refine app_b rfl (.tmp 21) (.tmp 26) rfl wr.heap.size (.slice (some ⟨wr.heap.size, 0, none⟩) 0 0) 0 [] rfl (World.ownsRow_made wr #[] 0 (Nat.le_refl _) (Nat.zero_le _) rfl) B cb m R rfl HM.out.symm (HS.out _ ((Below.refl _ wr).alloc (Nat.le_refl _) _)) (by omega) (by simp) ?_; intro v2 w2 hown2 hg2; have hb2 : Below wr.heap.size wr w2 := ((Below.refl _ wr).alloc (Nat.le_refl _) _).grown hg2 (by simp) (by intro k hk; simp [Value.ownBlock] at hk; omega); simp only [Nat.zero_add, List.nil_append] at hown2; obtain ⟨A2, c2, rfl, _, _⟩ := own_form hown2; have HO2 := Lib.hid hown2; have HB2 := Lib.hid hb2; clear hown2 hg2 hb2))
        have HBR := Lib.hid (HB.out.trans (HB2.out.mono HB.out.size))
        go_wp2_with fail
        refine (new_yes w2 65536 (by omega) (by omega)).mono ?_
        rintro e w3 ⟨rfl, hd3, hb3⟩
        have HAP := Lib.hid (lay_app HM.out hm20 HO2.out HB2.out hd3 hb3)
        clear hd3 hb3 HS HO2
        go_wp2_with (first
          | (go_at_call 11; refine HAP.out.mono ?_; rintro e w4 ⟨rfl, hsy⟩; have HSY := Lib.hid hsy; clear hsy)
          | (go_at_call 12; refine HSY.out.mono ?_; rintro e w5 ⟨rfl, S, hlaid⟩; have HLD := Lib.hid hlaid; clear hlaid))
        clear HAP HSY
        have HOP := Lib.hid (laid_open HLD.out HO.out (by rw [← HM.out]; exact hm20))
        by_cases hok : okL R
        · obtain ⟨o1, o2, o3⟩ := opens_yes (by rw [← HM.out]; omega) HO.out hok
          have h20 := (limitM_lim R hok.1).2
          have hpl1 : 1 ≤ (partsM R).length := List.length_pos_iff.2 hok.2
          go_wp2_with fail
          refine HOP.out.mono ?_
          rintro e w6 (⟨hz, _⟩ | ⟨_, g, S', T, rfl, hw, hwal, hT⟩)
          · exact absurd o1 hz
          rw [o3] at hwal
          obtain ⟨hd6, hs6, hb6⟩ := opened_no HLD.out hw
          have hrd := rRead_any A2 c2 R w6 hs6 HO.out (by rw [← HM.out]; omega)
          have hln := parts_len HO.out (partsM R).length (Nat.le_refl _) h20
          rw [List.take_length, ← HM.out] at hln
          have hoct := parts_octs HO.out
          rw [← HM.out] at hrd
          unfold ReadL at hrd
          obtain ⟨lm, hlmm⟩ : ∃ lm, lm = limitM R := ⟨_, rfl⟩
          obtain ⟨s0, rest, hsr⟩ : ∃ s0 rest, partsM R = s0 :: rest := by
            cases h : partsM R with
            | nil => exact absurd h hok.2
            | cons a l => exact ⟨a, l, rfl⟩
          obtain ⟨en, hen⟩ : ∃ en : Nat, en = costM (s0 :: rest) + 20 := ⟨_, rfl⟩
          rw [hsr, ← hen, ← hlmm] at hrd
          rw [hsr, ← hen] at o2
          rw [hsr, ← hlmm] at hwal
          rw [hsr] at hln hoct
          have hcm := costM_len (s0 :: rest)
          have hrl : rest.length ≤ 2000 := by simp at hcm; omega
          have hs0l : s0.length ≤ 1000000 := by have := costM_mem (ps := s0 :: rest) (k := 0) (p := s0) rfl; omega
          have HRD := Lib.hid hrd
          have HB6 := Lib.hid hb6
          have HOK := Lib.hid hok
          have HOC := Lib.hid hoct
          have HMO := Lib.hid (fun (X : World) (hX : Below w6.heap.size w6 X) => show Calls Tryz.prog 16 #[.pointer (some ⟨g, 0, none⟩)] X (fun e w' => e = .returned (.int .i64 lm) ∧ X = w') from most_any (hwal.later hX))
          have HSZ := Lib.hid (fun (X : World) (hX : Below w6.heap.size w6 X) => size_any (hd6.later hX) (k := 0) (by decide))
          rw [o2] at HSZ
          have HSN := Lib.hid (fun (X : World) (hX : Below w6.heap.size w6 X) => snap_any (hwal.later hX) (s := s0) rfl hs0l)
          have HAL := Lib.hid (fun (X : World) (hX : Below w6.heap.size w6 X) => show Calls Tryz.prog 20 #[.pointer (some ⟨g, 0, none⟩)] X (GivesRows X rest) from all_any (hwal.later hX) (by simp) (by show costM (s0 :: rest) ≤ _; omega))
          clear o1 o2 o3 hw hwal hT hd6 hs6 hb6 hrd hok hln hoct hsr hen hlmm hcm h20 hpl1
          go_wp2_with fail
          refine HRD.out.mono ?_
          rintro e w7 ⟨hb7, _, hyes⟩
          obtain ⟨A7, c7, vs7, rfl, hrows⟩ := hyes HOK.out
          obtain ⟨A8, c8, e8, hrecs⟩ := hrows.recs HOC.out
          injection e8 with e8 _ e9
          subst e8
          subst e9
          obtain ⟨_, _, e10, hpc7, hcm7⟩ := own_form hrows.row
          injection e10 with e11 e12 e10
          subst e10
          clear e11 e12
          have hc71 : 1 ≤ c7 := by simp at hpc7; omega
          obtain ⟨b7, o7, B0, cb0, rfl, hbl7, hc70, hsl0, hoc0⟩ := hrecs 0 s0 rfl
          have HB7 := Lib.hid hb7
          obtain ⟨pn, hpn⟩ : ∃ pn, pn = (s0 :: rest).length := ⟨_, rfl⟩
          have hpr : pn = rest.length + 1 := hpn
          rw [← hpn] at hpc7 ⊢
          by_cases hc7 : c7 = 1
          · subst hc7
            obtain rfl : rest = [] := List.eq_nil_of_length_eq_zero (by omega)
            obtain rfl : pn = 1 := hpr
            have HRC := Lib.hid (show Recs w7 (some ⟨b7, o7, none⟩) [] from fun i q hq => by simp at hq)
            have hbo := (Below.refl _ w7).alloc (Nat.le_refl _) (.cells #[.int .i64 lm, .slice (some ⟨b7, o7, none⟩) 1 1, .int .i64 (en : Int)] 47)
            obtain ⟨W8, hW8⟩ : ∃ W8, W8 = w7.alloc (.cells #[.int .i64 lm, .slice (some ⟨b7, o7, none⟩) 1 1, .int .i64 (en : Int)] 47) := ⟨_, rfl⟩
            rw [← hW8] at hbo
            have hx8 : W8.heap[w7.heap.size]? = some (.cells #[.int .i64 lm, .slice (some ⟨b7, o7, none⟩) 1 1, .int .i64 (en : Int)] 47 (0, 0)) := by rw [hW8]; exact heap_alloc_new w7 _
            obtain ⟨j0, j1, j2, _⟩ := three_facts hx8
            have hx0 : W8.cell? ⟨b7, o7, none⟩ = some (.slice B0 s0.length cb0) := (hbo.cell (p := ⟨b7, o7, none⟩) hbl7).trans (by simpa using hc70)
            have HEQ := Lib.hid (fun (X : World) (hX : Below w7.heap.size w7 X) (B : Option Addr) (cb : Nat) (hN : Sl X B cb s0) => equalAny B B0 cb cb0 s0 s0 X hN.rd (hsl0.below hX).rd hoc0 hoc0)
            rw [show decide (s0 = s0) = true from decide_eq_true rfl] at HEQ
            have HBO := Lib.hid hbo
            have HW8 := Lib.hid hW8
            have HKEEP := Lib.hid (fun (X : World) (hX : Below W8.heap.size W8 X) => show X.cell? ⟨w7.heap.size, 0, none⟩ = some (.int .i64 lm) ∧ X.cell? ⟨w7.heap.size, 1, none⟩ = some (.slice (some ⟨b7, o7, none⟩) 1 1) ∧ X.cell? ⟨w7.heap.size, 2, none⟩ = some (.int .i64 (en : Int)) ∧ X.cell? ⟨b7, o7, none⟩ = some (.slice B0 s0.length cb0) ∧ Below W8.heap.size W8 X from
              ⟨(hX.cell (p := ⟨w7.heap.size, 0, none⟩) (lt_of_block hx8)).trans j0, (hX.cell (p := ⟨w7.heap.size, 1, none⟩) (lt_of_block hx8)).trans j1, (hX.cell (p := ⟨w7.heap.size, 2, none⟩) (lt_of_block hx8)).trans j2, (hX.cell (p := ⟨b7, o7, none⟩) (World.block_lt_of_cell? _ _ hx0)).trans hx0, hX⟩)
            have HUP := Lib.hid (show w6.heap.size ≤ W8.heap.size ∧ w7.heap.size ≤ W8.heap.size from ⟨Nat.le_trans hb7.size hbo.size, hbo.size⟩)
            have HB78 := Lib.hid (show Below w6.heap.size w6 W8 from hb7.trans (hbo.mono hb7.size))
            have HB87 := Lib.hid (show Below w7.heap.size w7 W8 from hbo)
            have HBW := Lib.hid (show Below w.heap.size w W8 from HB.out.trans ((HB6.out.trans ((hb7.trans (hbo.mono hb7.size)).mono HB6.out.size)).mono HB.out.size))
            have HO10 := Lib.hid (fun q (hq : q ∈ ([] : List (List Int))) => HOC.out q (by simp at hq))
            have HRL := Lib.hid (show 0 ≤ 1000000 by omega)
            clear hb7 hyes hrows HRD hrecs hbl7 hc70 hsl0 hoc0 hbo hW8 hx8 hx0 hpc7 hcm7 hpn
            go_upto_region 16 with fail
            rw [show w7.alloc (.cells #[.int .i64 lm, .slice (some ⟨b7, o7, none⟩) 1 1, .int .i64 (en : Int)] 47) = W8 from HW8.out.symm]
            go_region_held3 (fun X => X.cell? ⟨w7.heap.size, 0, none⟩ = some (.int .i64 lm) ∧ X.cell? ⟨w7.heap.size, 1, none⟩ = some (.slice (some ⟨b7, o7, none⟩) 1 1) ∧ X.cell? ⟨w7.heap.size, 2, none⟩ = some (.int .i64 (en : Int)) ∧ X.cell? ⟨b7, o7, none⟩ = some (.slice B0 s0.length cb0) ∧ Below W8.heap.size W8 X) (first | exact HKEEP.out _ (below_drewN (Below.refl _ _) 1) | exact S9.out | exact S10.out | exact S11.out) (first
              | (go_at_call 16; refine (HMO.out _ (HB78.out.trans ((below_drewN (Below.refl _ _) 1).mono HUP.out.1))).mono ?_; rintro e x ⟨rfl, rfl⟩)
              | (go_at_call 15; refine (HSZ.out _ (HB78.out.trans ((below_drewN (Below.refl _ _) 1).mono HUP.out.1))).mono ?_; rintro e x ⟨rfl, rfl⟩)
              | (go_at_call 18; refine (HSN.out _ (HB78.out.trans ((below_drewN (Below.refl _ _) 1).mono HUP.out.1))).mono ?_; rintro e x9 ⟨A9, c9, rfl, hn9, hb9⟩; have hb9' := (below_drewN (Below.refl W8.heap.size W8) 1).trans hb9; have HB9 := Lib.hid hb9'; have S9 := Lib.hid (HKEEP.out _ hb9'); have HE9 := Lib.hid (HEQ.out x9 (HB87.out.trans (hb9'.mono HUP.out.2)) A9 c9 hn9.sl); clear hn9 hb9 hb9')
              | (go_at_call 17; (with_reducible refine HE9.out.mono ?_); rintro e x ⟨rfl, rfl⟩)
              | (go_at_call 20; refine (HAL.out _ (HB78.out.trans (HB9.out.mono HUP.out.1))).mono ?_; rintro e x10 ⟨v10, vs10, rfl, hr10, hb10⟩; obtain ⟨A10, c10, rfl, hrc10⟩ := RowsAt.recs hr10 HO10.out; have hb10' := HB9.out.trans (hb10.mono HB9.out.size); have HB10 := Lib.hid hb10'; have S10 := Lib.hid (HKEEP.out _ hb10'); have HA10 := Lib.hid (rSameAll_any A10 (some ⟨b7, o7, none⟩) c10 0 [] [] x10 hrc10 (HRC.out.later (HB87.out.trans (hb10'.mono HUP.out.2))) HRL.out HRL.out); clear hr10 hrc10 hb10 hb10')
              | (go_at_call 19; refine HA10.out.mono ?_; rintro e x11 ⟨rfl, hq⟩; have S11 := Lib.hid (HKEEP.out x11 (by obtain ⟨q, e⟩ := hq; rw [e]; exact below_drewN HB10.out q)); have HB11 := Lib.hid S11.out.2.2.2.2; clear hq))
            all_goals
              have HBE := Lib.hid (HBW.out.trans (HB11.out.mono HBW.out.size))
              clear j0 j1 j2
              go_wp2
              go_roundw
              case rel => exact ⟨k + 1, by go_num, by omega, by omega, HBE⟩
              case measure => simp; omega
          · have HRC := Lib.hid (Recs.drop1 hrecs)
            have hbo := (Below.refl _ w7).alloc (Nat.le_refl _) (.cells #[.int .i64 lm, .slice (some ⟨b7, o7, none⟩) pn c7, .int .i64 (en : Int)] 47)
            obtain ⟨W8, hW8⟩ : ∃ W8, W8 = w7.alloc (.cells #[.int .i64 lm, .slice (some ⟨b7, o7, none⟩) pn c7, .int .i64 (en : Int)] 47) := ⟨_, rfl⟩
            rw [← hW8] at hbo
            have hx8 : W8.heap[w7.heap.size]? = some (.cells #[.int .i64 lm, .slice (some ⟨b7, o7, none⟩) pn c7, .int .i64 (en : Int)] 47 (0, 0)) := by rw [hW8]; exact heap_alloc_new w7 _
            obtain ⟨j0, j1, j2, _⟩ := three_facts hx8
            have hx0 : W8.cell? ⟨b7, o7, none⟩ = some (.slice B0 s0.length cb0) := (hbo.cell (p := ⟨b7, o7, none⟩) hbl7).trans (by simpa using hc70)
            have HEQ := Lib.hid (fun (X : World) (hX : Below w7.heap.size w7 X) (B : Option Addr) (cb : Nat) (hN : Sl X B cb s0) => equalAny B B0 cb cb0 s0 s0 X hN.rd (hsl0.below hX).rd hoc0 hoc0)
            rw [show decide (s0 = s0) = true from decide_eq_true rfl] at HEQ
            have HBO := Lib.hid hbo
            have HW8 := Lib.hid hW8
            have HKEEP := Lib.hid (fun (X : World) (hX : Below W8.heap.size W8 X) => show X.cell? ⟨w7.heap.size, 0, none⟩ = some (.int .i64 lm) ∧ X.cell? ⟨w7.heap.size, 1, none⟩ = some (.slice (some ⟨b7, o7, none⟩) pn c7) ∧ X.cell? ⟨w7.heap.size, 2, none⟩ = some (.int .i64 (en : Int)) ∧ X.cell? ⟨b7, o7, none⟩ = some (.slice B0 s0.length cb0) ∧ Below W8.heap.size W8 X from
              ⟨(hX.cell (p := ⟨w7.heap.size, 0, none⟩) (lt_of_block hx8)).trans j0, (hX.cell (p := ⟨w7.heap.size, 1, none⟩) (lt_of_block hx8)).trans j1, (hX.cell (p := ⟨w7.heap.size, 2, none⟩) (lt_of_block hx8)).trans j2, (hX.cell (p := ⟨b7, o7, none⟩) (World.block_lt_of_cell? _ _ hx0)).trans hx0, hX⟩)
            have HUP := Lib.hid (show w6.heap.size ≤ W8.heap.size ∧ w7.heap.size ≤ W8.heap.size from ⟨Nat.le_trans hb7.size hbo.size, hbo.size⟩)
            have c70 : (1 : Int) ≤ (c7 : Int) := by omega
            have HB78 := Lib.hid (show Below w6.heap.size w6 W8 from hb7.trans (hbo.mono hb7.size))
            have HB87 := Lib.hid (show Below w7.heap.size w7 W8 from hbo)
            have HBW := Lib.hid (show Below w.heap.size w W8 from HB.out.trans ((HB6.out.trans ((hb7.trans (hbo.mono hb7.size)).mono HB6.out.size)).mono HB.out.size))
            have HO10 := Lib.hid (fun q (hq : q ∈ rest) => HOC.out q (by simp [hq]))
            have HRL := Lib.hid (show rest.length ≤ 1000000 by omega)
            have r1 : (pn : Int) ≤ (c7 : Int) := by omega
            have r2 : (1 : Int) ≤ (pn : Int) := by omega
            have r3 : (0 : Int) < (pn : Int) := by omega
            have r4 : 0 < pn := by omega
            have r7 : pn ≤ c7 := by omega
            have r5 : ¬ pn = 0 := by omega
            have r6 : 1 ≤ pn := by omega
            have HPN := Lib.hid (show pn - 1 = rest.length by omega)
            clear hb7 hyes hrows HRD hrecs hbl7 hc70 hsl0 hoc0 hbo hW8 hx8 hx0 hpc7 hcm7 hpn hpr
            go_upto_region 16 with fail
            rw [show w7.alloc (.cells #[.int .i64 lm, .slice (some ⟨b7, o7, none⟩) pn c7, .int .i64 (en : Int)] 47) = W8 from HW8.out.symm]
            go_region_held3 (fun X => X.cell? ⟨w7.heap.size, 0, none⟩ = some (.int .i64 lm) ∧ X.cell? ⟨w7.heap.size, 1, none⟩ = some (.slice (some ⟨b7, o7, none⟩) pn c7) ∧ X.cell? ⟨w7.heap.size, 2, none⟩ = some (.int .i64 (en : Int)) ∧ X.cell? ⟨b7, o7, none⟩ = some (.slice B0 s0.length cb0) ∧ Below W8.heap.size W8 X) (first | exact HKEEP.out _ (below_drewN (Below.refl _ _) 1) | exact S9.out | exact S10.out | exact S11.out) (first
              | (go_at_call 16; refine (HMO.out _ (HB78.out.trans ((below_drewN (Below.refl _ _) 1).mono HUP.out.1))).mono ?_; rintro e x ⟨rfl, rfl⟩)
              | (go_at_call 15; refine (HSZ.out _ (HB78.out.trans ((below_drewN (Below.refl _ _) 1).mono HUP.out.1))).mono ?_; rintro e x ⟨rfl, rfl⟩)
              | (go_at_call 18; refine (HSN.out _ (HB78.out.trans ((below_drewN (Below.refl _ _) 1).mono HUP.out.1))).mono ?_; rintro e x9 ⟨A9, c9, rfl, hn9, hb9⟩; have hb9' := (below_drewN (Below.refl W8.heap.size W8) 1).trans hb9; have HB9 := Lib.hid hb9'; have S9 := Lib.hid (HKEEP.out _ hb9'); have HE9 := Lib.hid (HEQ.out x9 (HB87.out.trans (hb9'.mono HUP.out.2)) A9 c9 hn9.sl); clear hn9 hb9 hb9')
              | (go_at_call 17; (with_reducible refine HE9.out.mono ?_); rintro e x ⟨rfl, rfl⟩)
              | (go_at_call 20; refine (HAL.out _ (HB78.out.trans (HB9.out.mono HUP.out.1))).mono ?_; rintro e x10 ⟨v10, vs10, rfl, hr10, hb10⟩; obtain ⟨A10, c10, rfl, hrc10⟩ := RowsAt.recs hr10 HO10.out; have hb10' := HB9.out.trans (hb10.mono HB9.out.size); have HB10 := Lib.hid hb10'; have S10 := Lib.hid (HKEEP.out _ hb10'); have HA10 := Lib.hid (rSameAll_any A10 (some ⟨b7, o7 + 1, none⟩) c10 (c7 - 1) rest rest x10 hrc10 (HRC.out.later (HB87.out.trans (hb10'.mono HUP.out.2))) HRL.out HRL.out); clear hr10 hrc10 hb10 hb10')
              | (go_at_call 19; rw [HPN.out]; refine HA10.out.mono ?_; rintro e x11 ⟨rfl, hq⟩; have S11 := Lib.hid (HKEEP.out x11 (by obtain ⟨q, e⟩ := hq; rw [e]; exact below_drewN HB10.out q)); have HB11 := Lib.hid S11.out.2.2.2.2; clear hq))
            all_goals
              have HBE := Lib.hid (HBW.out.trans (HB11.out.mono HBW.out.size))
              clear j0 j1 j2
              go_wp2
              go_roundw
              case rel => exact ⟨k + 1, by go_num, by omega, by omega, HBE⟩
              case measure => simp; omega
        · obtain ⟨o1, o2⟩ := opens_no (by rw [← HM.out]; omega) hok
          go_wp2_with fail
          refine HOP.out.mono ?_
          rintro e w6 hh
          obtain ⟨S', hw, rfl⟩ : ∃ S', Went S S' _ w5 (opD R).openM w6 ∧ e = .returned (.tuple #[.pointer none, .int .i64 140]) := by
            rcases hh with ⟨_, he, S', hw⟩ | ⟨hz, _⟩
            · exact ⟨S', hw, by rw [he, o1]⟩
            · omega
          clear hh
          obtain ⟨hd6, hs6, hb6⟩ := opened_no HLD.out hw
          have hrd := rRead_any A2 c2 R w6 hs6 HO.out (by rw [← HM.out]; omega)
          rw [← HM.out] at hrd o2
          have HRD := Lib.hid hrd
          have HSZ := Lib.hid (fun (X : World) (hX : Below w6.heap.size w6 X) => size_any (hd6.later hX) (k := 0) (by decide))
          rw [o2] at HSZ
          have HB6 := Lib.hid hb6
          have HNO := Lib.hid hok
          clear o1 o2 hw hd6 hs6 hb6 hrd hok
          go_wp2_with fail
          refine HRD.out.mono ?_
          rintro e w7 ⟨hb7, hno, _⟩
          have e7 := hno HNO.out
          subst e7
          have HB7 := Lib.hid hb7
          clear hb7 hno HRD
          go_wp2_with fail
          refine (HSZ.out _ (HB7.out.trans (((Below.refl _ w7).alloc (Nat.le_refl _) _).mono HB7.out.size))).mono ?_
          rintro e w8 ⟨rfl, rfl⟩
          have HBE := Lib.hid (show Below w.heap.size w (w7.alloc (.cells #[.int .i64 0, .slice none 0 0, .int .i64 0] 47)) from HB.out.trans ((HB6.out.trans ((HB7.out.trans (((Below.refl _ w7).alloc (Nat.le_refl _) _).mono HB7.out.size)).mono HB6.out.size)).mono HB.out.size))
          clear HSZ
          go_wp2
          go_roundw
          case rel => exact ⟨k + 1, by go_num, by omega, by omega, HBE⟩
          case measure => simp; omega
    · obtain rfl : k = n := by omega
      go_wp2
      go_ret
      exact ⟨rfl, HB.out⟩

theorem lifted (os : Os) (started : os.Started) (H : Type) (enc : TypeId × Value → H) :
    ReturnsInHanded {} Tryz.checked os 4 .any (Rows.walOpensSpec.pre6 enc Tryz.prog Tryz.f4 Rows.walOpensRow.domain false) (Rows.walOpensSpec.post enc Tryz.prog Tryz.f4 false true false false) := by
  refine returnsInHanded_of_change (C := Tryz.checked) Tryz.own started (by kernel_rfl) Tryz.func4
    (ChangeSpec.witness6 (enc := enc) (C := Tryz.checked) false ⟨#[], #[.slice none 0 0], []⟩ 8 (by kernel_rfl) (by kernel_rfl) (by kernel_rfl) (by kernel_rfl)) ?_
  intro W base args ds gs before hval0 hW hcnd _
  have hval : ∀ (j : Nat) t v, Tryz.f4.params[j]? = some t → args[j]? = some v → Value.okWide Tryz.prog W .any base t v := hval0
  have hW' := hW
  obtain ⟨p, q, hA0, hV, rfl, hfz, hnd⟩ := hW
  have hA : DataW.TrodAll enc Tryz.prog W 0 (fun _ => true) true Tryz.f4.params.toList args.toList ds p := hA0
  rw [Tryz.params4] at hA hval
  have hA' := hA
  obtain ⟨v0, vs0, d0, ds0, p0, q0, hargs, rfl, rfl, h0, r0⟩ := trodAll_cons hA
  obtain ⟨rfl, rfl, rfl⟩ := trodAll_nil r0
  obtain rfl : args = #[v0] := by cases args; simp_all
  obtain ⟨rfl, rfl⟩ := trodVars_none hV
  obtain ⟨A0, len0, c0, rfl⟩ := okWide_slice Tryz.underlying29 (hval 0 29 v0 rfl rfl)
  obtain ⟨z0, rfl, sl0, ll0⟩ := open_rows h0
  clear hA0 hval0
  refine (walk A0 c0 z0 sl0 ll0).mono fun e W' ⟨he, bel⟩ => ?_
  subst he
  exact ⟨_, rfl, _, _, _, [], _, [], hW', trodAll_mk1 (shut_bool Tryz.underlying4 _), trodAll_below bel _ _ _ _ (by kernel_rfl) hA', rfl, bel.frame _, fun h => by cases h⟩

theorem proved : Rows.WalOpensSaid :=
  OpenClaim.holds_of_wide 4 Tryz.f4 rfl rfl rfl rfl rfl rfl rfl ⟨rfl, rfl, rfl, rfl, rfl⟩ rfl rfl rfl rfl rfl (by kernel_rfl) Tryz.func4 (by kernel_rfl)
    (of_decide_eq_true (by kernel_rfl)) (by unfold Func.isWrapper; first | (rw [if_pos (by decide +kernel)]; kernel_rfl) | (rw [if_neg (by decide +kernel)]; exact ⟨rfl, rfl⟩))
    (fun os started H enc _ => lifted os started H enc)
#print axioms proved
end Go.Proofs.YtienabfilnpieaaGreat.walOpens
