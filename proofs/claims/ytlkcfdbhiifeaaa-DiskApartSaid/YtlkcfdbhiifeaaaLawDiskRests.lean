/-
  DiskRests: what was synced all over is untouched by a loss of power: for every room, row of operations, and keep.
-/
import Derived.Test.YtlkcfdbhiifeaaaLawWhole
import Derived.Test.YtlkcfdbhiifeaaaLawDiskDies
namespace Go.Proofs.Ytlkcfdbhiifeaaa.diskRests
open Go.ChangeShapes Go.WideShapes Go.ChangeAt Go.RowKit
set_option linter.unusedVariables false
set_option maxRecDepth 100000

/-- The files of the first i names are synced. -/
structure Settling (M0 M : AD) (i : Nat) : Prop where
  calm : Calm (40 + i) M
  same : ∀ k, (M.files k).map (·.bs) = (M0.files k).map (·.bs)
  done : ∀ j k, j < i → M0.names[j]? = some k → ∀ F, M.files k = some F → F.syn = F.bs.length ∧ F.kept = true

theorem settle_step {M0 M : AD} {i : Nat} (h : Settling M0 M i) (hok : M.Ok) {k : Int} (hk : M0.names[i]? = some k) (hok0 : M0.Ok) : M.opC k [] = 0 ∧ Settling M0 (M.opM k [] (M.met.put k (M.file k).settled)) (i + 1) := by
  have hne : M0.files k ≠ none := (names_mem M0 hok0 k).1 (List.mem_of_getElem? hk)
  obtain ⟨F0, hF0⟩ := Option.ne_none_iff_exists'.1 hne
  have hs := h.same k
  rw [hF0] at hs
  obtain ⟨F, hF, hFb⟩ : ∃ F, M.files k = some F ∧ F.bs = F0.bs := by
    rcases hf : M.files k with _ | F
    · rw [hf] at hs; cases hs
    · rw [hf] at hs; exact ⟨F, rfl, by simpa using hs⟩
  have hn := hok.names k (by rw [hF]; simp)
  have hask : M.ask k [] = 0 := by simp [AD.ask, h.calm.dead, hF, Name, hn]
  have herr : M.err = 0 := by simp [AD.err, h.calm.armed, h.calm.failing]
  have hm : M.met = { M with ops := M.ops + 1, armed := stepC M.armed, failing := stepC M.failing } := by unfold AD.met; rw [if_neg (by rw [h.calm.armed]; omega)]
  have hM : M.opM k [] (M.met.put k (M.file k).settled) = M.met.put k F.settled := by simp [AD.opM, hask, herr, AD.file, hF]
  rw [hM]
  have ho := h.calm.ops
  refine ⟨by simp [AD.opC, hask, herr], ⟨?_, ?_, ?_, ?_, ?_⟩, fun x => ?_, fun j x hj hx G hG => ?_⟩
  · rw [hm]; simp [AD.put, stepC, h.calm.armed]
  · rw [hm]; simp [AD.put, stepC, h.calm.failing]
  · rw [hm]; exact h.calm.dead
  · rw [hm]; simp [AD.put]; omega
  · rw [hm]; exact h.calm.room
  · by_cases e : x = k
    · subst e
      simp only [AD.put, upd_same, hF0]
      simp [AF.settled, hFb]
    · simp only [AD.put, upd_other _ e, met_files]
      exact h.same x
  · by_cases e : x = k
    · subst e
      simp only [AD.put, upd_same, Option.some.injEq] at hG
      subst hG
      exact ⟨rfl, rfl⟩
    · simp only [AD.put, upd_other _ e, met_files] at hG
      have hji : j < i := by
        rcases Nat.lt_or_ge j i with h1 | h1
        · exact h1
        · obtain rfl : j = i := by omega
          rw [hk] at hx; cases hx; exact absurd rfl e
      exact h.done j x hji hx G hG

/-- All over synced: no piece, and a crash leaves it all. -/
theorem all_synced {M0 M : AD} (h : Settling M0 M M0.names.length) (hok : M.Ok) (hok0 : M0.Ok) : (∀ k F, M.files k = some F → F.syn = F.bs.length ∧ F.kept = true) := by
  intro k F hF
  have hs := h.same k
  rw [hF] at hs
  have hne : M0.files k ≠ none := by intro e; rw [e] at hs; cases hs
  obtain ⟨j, hj, e⟩ := List.mem_iff_getElem.1 ((names_mem M0 hok0 k).2 hne)
  exact h.done j k hj (by rw [List.getElem?_eq_getElem hj, e]) F hF
theorem no_pieces {M : AD} (h : ∀ k F, M.files k = some F → F.syn = F.bs.length ∧ F.kept = true) : M.pcs = [] := by
  have e : ∀ k, M.pcsOf k = [] := fun k => by
    unfold AD.pcsOf
    rcases hf : M.files (k : Int) with _ | F
    · rfl
    · have := (h _ F hf).1
      simp [pcsAt, AF.pn, this]
  rw [pcs_all, e, e, e, e]
  rfl
theorem crash_rests {M : AD} (hok : M.Ok) (h : ∀ k F, M.files k = some F → F.syn = F.bs.length ∧ F.kept = true) (keep : List Bool) : (M.crash keep).files = M.files := by
  funext k
  unfold AD.crash
  simp only
  rcases hf : M.files k with _ | F
  · rfl
  · obtain ⟨h1, h2⟩ := h k F hf
    obtain ⟨b1, b2⟩ := left_bounds hok keep hf
    have hl : M.left keep k = F.bs.length := by omega
    simp only [Option.bind_some, AF.lives, h2]
    rw [hl]
    simp
    obtain ⟨bs, syn, kept⟩ := F
    simp at h1 h2 ⊢
    exact ⟨h1.symm, h2⟩


def Mid (w1 W3 : World) (d g : Nat) (M0 : AD) (cur : Array Value) (i : Nat) (wr : World) : Prop := (∃ M, (∃ S, LiveS w1 S wr d M ∧ ¬ S g) ∧ Settling M0 M i) ∧ wr.heap[g]? = some (.cells cur 3 (0, 0)) ∧ W3.heap.size ≤ wr.heap.size

/-- Four slices, by number. -/
theorem slices_of {base : Nat} {W : World} {x : Nat → Value} {M : AD} (h : ∀ j, j < 4 → RowIs base W (x j) (M.file (j : Nat)).bs) : ∃ (a : Nat → Option Addr) (m c : Nat → Nat), (∀ j, m j = (M.file (j : Nat)).bs.length) ∧ arr4 x = #[.slice (a 0) (m 0) (c 0), .slice (a 1) (m 1) (c 1), .slice (a 2) (m 2) (c 2), .slice (a 3) (m 3) (c 3)] ∧ ∀ j, j < 4 → x j = .slice (a j) (m j) (c j) := by
  have e : ∀ j, j < 4 → x j = .slice (match x j with | .slice a _ _ => a | _ => none) ((M.file (j : Nat)).bs.length) (match x j with | .slice _ _ c => c | _ => 0) := fun j hj => by
    obtain ⟨A, c, e, _, _⟩ := own_form (h j hj)
    rw [e]
  refine ⟨_, fun j => (M.file (j : Nat)).bs.length, _, fun j => rfl, ?_, e⟩
  unfold arr4
  rw [← e 0 (by omega), ← e 1 (by omega), ← e 2 (by omega), ← e 3 (by omega)]

/-- A box of four slices whose rows hold bytes. -/
structure Four (W : World) (b : Nat) (M : AD) (a : Nat → Option Addr) (m c : Nat → Nat) : Prop where
  box : W.heap[b]? = some (.cells #[.slice (a 0) (m 0) (c 0), .slice (a 1) (m 1) (c 1), .slice (a 2) (m 2) (c 2), .slice (a 3) (m 3) (c 3)] 55 (0, 0))
  len : ∀ j, m j = (M.file (j : Nat)).bs.length
  rd : ∀ j, j < 4 → W.ownsRow 0 5 1 (.slice (a j) (m j) (c j)) (m j) ((M.file (j : Nat)).bs.map (Value.int .u8))
theorem Four.cell {W : World} {b : Nat} {M : AD} {a : Nat → Option Addr} {m c : Nat → Nat} (h : Four W b M a m c) {k : Nat} (hk : k < 4) : W.cell? ⟨b, k, none⟩ = some (.slice (a k) (m k) (c k)) := by
  have : k = 0 ∨ k = 1 ∨ k = 2 ∨ k = 3 := by omega
  rcases this with rfl | rfl | rfl | rfl <;> simp [World.cell?, h.box]
theorem Four.turn {W W' : World} {S : Nat → Prop} {b : Nat} {M : AD} {a : Nat → Option Addr} {m c : Nat → Nat} (h : Four W b M a m c) (ht : Turn S W W') (hb : ¬ S b) (hr : ∀ j, j < 4 → ∀ g, blk (a j) = some g → ¬ S g) : Four W' b M a m c :=
  ⟨(ht.block b (lt_of_block h.box) hb).trans h.box, h.len, fun j hj => row_same (h.rd j hj) (fun g hg => ht.block g (by obtain ⟨cur, hc⟩ := own_block (h.rd j hj) hg; exact lt_of_block hc) (hr j hj g hg))⟩
theorem Four.drewN {W : World} {b : Nat} {M : AD} {a : Nat → Option Addr} {m c : Nat → Nat} (h : Four W b M a m c) (q : Nat) : Four (W.drewN q) b M a m c := ⟨h.box, h.len, h.rd⟩
structure Fin (w wr : World) (p1 p2 : Nat) (M M6 : AD) (a : Nat → Option Addr) (m ca : Nat → Nat) (b : Nat → Option Addr) (m' cb : Nat → Nat) : Prop where
  f1 : Four wr p1 M a m ca
  f2 : Four wr p2 M6 b m' cb
  bel : Below w.heap.size w wr
theorem Fin.eq {w wr : World} {p1 p2 : Nat} {M M6 : AD} {a : Nat → Option Addr} {m ca : Nat → Nat} {b : Nat → Option Addr} {m' cb : Nat → Nat} (h : Fin w wr p1 p2 M M6 a m ca b m' cb) (hf : M6.files = M.files) {k : Nat} (hk : k < 4) (q : Nat) : Calls Try.prog 29 #[.slice (a k) (m k) (ca k), .slice (b k) (m' k) (cb k)] (wr.drewN q) fun e w' => e = .returned (.bool true) ∧ w' = wr.drewN q := by
  have hb : (M6.file (k : Nat)).bs = (M.file (k : Nat)).bs := by unfold AD.file; rw [hf]
  have r1 := Rd.own (h.f1.rd k hk)
  have r2 := Rd.own (h.f2.rd k hk)
  rw [hb] at r2
  rw [h.f1.len, h.f2.len, hb]
  exact (equalB _ _ _ _ _ _ (r1.drewN q) (r2.drewN q)).mono fun _ _ h => ⟨h.1, h.2.symm⟩
theorem four_of {w W : World} {x : Nat → Value} {M : AD} {a : Nat → Option Addr} {m c : Nat → Nat} (h : ∀ j, j < 4 → RowIs w.heap.size W (x j) (M.file (j : Nat)).bs) (hm : ∀ j, m j = (M.file (j : Nat)).bs.length) (hx : ∀ j, j < 4 → x j = .slice (a j) (m j) (c j)) :
    Four (W.alloc (.cells #[.slice (a 0) (m 0) (c 0), .slice (a 1) (m 1) (c 1), .slice (a 2) (m 2) (c 2), .slice (a 3) (m 3) (c 3)] 55)) W.heap.size M a m c ∧ ∀ j, j < 4 → ∀ g, blk (a j) = some g → w.heap.size ≤ g := by
  refine ⟨⟨heap_alloc_new W _, hm, fun j hj => ?_⟩, fun j hj g hg => ?_⟩
  · have h1 := h j hj
    unfold RowIs at h1
    rw [hx j hj, ← hm j] at h1
    exact World.ownsRow.alloc (row_base h1 (Nat.zero_le _)) _
  · have h1 := h j hj
    unfold RowIs at h1
    rw [hx j hj] at h1
    exact (h1.lt g (by cases hh : a j <;> simp_all [Value.ownBlock, blk])).1

set_option maxHeartbeats 8000000 in
theorem walk {w : World} (r : Int) (hr : I64 r) (A : Option Addr) (c : Nat) (os : List AO) (ho : OpsAt w A os) (hc : os.length ≤ c) (hcm : c ≤ 9223372036854775807) (K : Option Addr) (kc : Nat) (keep : List Bool) (hk : RdB w w.heap.size K keep) (hkl : keep.length ≤ kc) (hkm : kc ≤ 9223372036854775807) :
    Calls Try.prog 6 #[.int .i64 r, .slice A os.length c, .slice K keep.length kc] w fun e w' => e = .returned (.bool true) ∧ Below w.heap.size w w' := by
  have HRL := Lib.hid (fun (W : World) (hb : Below w.heap.size w W) => run_law r hr A c os (diskDies.ops_below ho hb) hc hcm)
  have HK := Lib.hid hk
  obtain ⟨n, hn⟩ : ∃ n, n = os.length := ⟨_, rfl⟩
  rw [← hn] at hc HRL ⊢
  obtain ⟨kn, hkn⟩ : ∃ kn, kn = keep.length := ⟨_, rfl⟩
  have HKN := Lib.hid hkn
  rw [← hkn] at hkl ⊢
  clear ho hn hk hkn
  go_enter Try.func6, Try.ntmps6
  go_wp2_with (first
    | (go_at_call 9; refine (wakes_any _).mono ?_; rintro e w1 ⟨rfl, hb1⟩; have HB1 := Lib.hid hb1; clear hb1)
    | (go_at_call 25; refine (HRL.out w1 HB1.out).mono ?_; rintro e w2 ⟨d, M0, rfl, ⟨S, hL⟩, hcalm⟩; have HL := Lib.hid hL; have HC := Lib.hid hcalm; clear hL hcalm)
    | (go_at_call 20; refine (files_any HL.out.at_).mono ?_; rintro e W3 ⟨v, rfl, hown, hb3⟩; obtain ⟨n1, hn1⟩ : ∃ n1, n1 = M0.names.length := ⟨_, rfl⟩; rw [← hn1] at hown; obtain ⟨A0, c0, rfl, _, _⟩ := own_form hown; have HOW := Lib.hid hown; have HB3 := Lib.hid hb3; have HN1 := Lib.hid hn1; clear hown hb3 hn1))
  have hle4 : n1 ≤ 4 := by rw [HN1.out]; exact below_length M0 4
  have hset0 : Settling M0 M0 0 := ⟨HC.out, fun _ => rfl, fun j k hj => absurd hj (by omega)⟩
  have hL3 := HL.out.later HB3.out
  have HL3 := Lib.hid hL3
  have HSET0 := Lib.hid hset0
  have HOK0 := Lib.hid HL.out.at_.ok
  clear hset0 hL3
  rcases hA0 : A0 with _ | ad
  · subst hA0
    have hz : n1 = 0 := by
      rcases HOW.out.2 with ⟨_, e⟩ | ⟨_, _, _, e, _⟩
      · exact e
      · cases e
    subst hz
    go_loopw [28] (fun i wr => i = .int .i64 0 ∧ wr = W3) (fun _ _ => 0)
    case atStart => exact ⟨rfl, rfl⟩
    case round =>
      obtain ⟨rfl, rfl⟩ := hrel
      have HLV := Lib.hid (show ∃ M S, LiveS w1 S wr d M ∧ Settling M0 M M0.names.length from ⟨M0, S, HL3.out, by rw [← HN1.out]; exact HSET0.out⟩)
      obtain ⟨M, S1, hLv, hset⟩ := HLV.out
      have HSYN := Lib.hid (all_synced hset hLv.at_.ok HOK0.out)
      have hdead : M.dead = false := hset.calm.dead
      have hops : M.ops < 4000000000000000000 := by have := hset.calm.ops; have : M0.names.length ≤ 4 := below_length M0 4; omega
      have HWH := Lib.hid (whole_any hLv.at_ hdead hops)
      have HLW := Lib.hid hLv
      clear hLv hset HLV
      go_wp2_with (first
        | (go_at_call 26; refine HWH.out.mono ?_; rintro e Wa ⟨x, rfl, hx, hba⟩; obtain ⟨a, m, ca, hm, hxa, hxe⟩ := slices_of hx; rw [hxa]; have HFR := Lib.hid (four_of hx hm hxe); have HBA := Lib.hid hba; clear hx hm hxa hxe hba HWH))
      have hsl : ∀ i, S1 i → i < wr.heap.size := fun i hi => HLW.out.at_.low hi
      have HSL := Lib.hid hsl
      have hszA : wr.heap.size ≤ Wa.heap.size := HBA.out.size
      have hbB : Below wr.heap.size wr (Wa.alloc (.cells #[.slice (a 0) (m 0) (ca 0), .slice (a 1) (m 1) (ca 1), .slice (a 2) (m 2) (ca 2), .slice (a 3) (m 3) (ca 3)] 55)) := HBA.out.alloc HBA.out.size _
      have hszB : (Wa.alloc (.cells #[.slice (a 0) (m 0) (ca 0), .slice (a 1) (m 1) (ca 1), .slice (a 2) (m 2) (ca 2), .slice (a 3) (m 3) (ca 3)] 55)).heap.size = Wa.heap.size + 1 := by simp
      obtain ⟨hFB, hrow⟩ := HFR.out
      generalize (Wa.alloc (.cells #[.slice (a 0) (m 0) (ca 0), .slice (a 1) (m 1) (ca 1), .slice (a 2) (m 2) (ca 2), .slice (a 3) (m 3) (ca 3)] 55)) = Wb at hbB hszB hFB ⊢
      have HLB := Lib.hid (HLW.out.later hbB)
      have HFB := Lib.hid hFB
      have HROW := Lib.hid hrow
      obtain ⟨p1, hp1⟩ : ∃ p1, p1 = Wa.heap.size := ⟨_, rfl⟩
      rw [← hp1] at hszA hszB HFB ⊢
      clear hsl hbB hFB hrow HFR HBA hp1
      refine (files_any HLB.out.at_).mono ?_
      rintro e W4 ⟨v4, rfl, hown4, hb4⟩
      obtain ⟨nn, hnn⟩ : ∃ nn, nn = M.names.length := ⟨_, rfl⟩
      rw [← hnn] at hown4
      obtain ⟨A4, c4, rfl, h4c, _⟩ := own_form hown4
      have HO4 := Lib.hid hown4
      have HNN := Lib.hid hnn
      have HB4 := Lib.hid hb4
      have HL4 := Lib.hid (HLB.out.later hb4)
      have hpe := pending_any HL4.out.at_
      have hpn : M.pend = [] := by unfold AD.pend; rw [no_pieces HSYN.out]; rfl
      rw [hpn] at hpe
      have HPE := Lib.hid hpe
      have e2 : (keep.take 200).length = (min (kn : Int) 200).toNat := by have := HKN.out; simp; omega
      have t2 : (0 : Int) ≤ min (kn : Int) 200 := by omega
      have t3 : min (kn : Int) 200 ≤ (kc : Int) := by omega
      have E2 := Lib.hid e2
      clear hown4 hnn hb4 hpe hpn e2
      go_wp2_with (first
        | (go_at_call 22; refine HPE.out.mono ?_; rintro e W5 ⟨v5, rfl, hown5, hb5⟩; dsimp only [List.length_nil] at hown5; obtain ⟨A5, c5, rfl, _, _⟩ := own_form hown5; have HB5 := Lib.hid hb5; have HL5 := Lib.hid (HL4.out.later hb5); clear hown5 hb5)
        | (go_at_call 27; have hcr := crash_any HL5.out.at_ K kc (keep.take 200) (((HK.out.take 200).below (HB1.out.trans (HL5.out.bel.mono HB1.out.size))).wide (Nat.le_trans HB1.out.size HL5.out.bel.size)) (by rw [E2.out]; omega) hkm; rw [E2.out] at hcr; refine hcr.mono ?_; clear hcr; rintro e W6 ⟨rfl, haf⟩; have HAF := Lib.hid haf; clear haf))
      have hfl : (M.crash (keep.take 200)).files = M.files := crash_rests HLW.out.at_.ok HSYN.out (keep.take 200)
      have hd6 : (M.crash (keep.take 200)).dead = false := rfl
      have ho6 : (M.crash (keep.take 200)).ops < 4000000000000000000 := hops
      have HL6 := Lib.hid (HL5.out.after HAF.out)
      have HT6 := Lib.hid HAF.out.2
      generalize M.crash (keep.take 200) = M6 at hfl hd6 ho6 HL6 HAF
      have HFL := Lib.hid hfl
      have hnm6 : M6.names = M.names := by unfold AD.names AD.below; rw [hfl]
      clear HAF hfl
      refine (whole_any HL6.out.at_ hd6 ho6).mono ?_
      rintro e Wc ⟨y, rfl, hy, hbc⟩
      obtain ⟨b, m', cb, hm, hxa, hxe⟩ := slices_of hy
      rw [hxa]
      have HFR := Lib.hid (four_of hy hm hxe)
      have HBC := Lib.hid hbc
      clear hy hm hxa hxe hbc
      go_wp2_with fail
      have hbD : Below W6.heap.size W6 (Wc.alloc (.cells #[.slice (b 0) (m' 0) (cb 0), .slice (b 1) (m' 1) (cb 1), .slice (b 2) (m' 2) (cb 2), .slice (b 3) (m' 3) (cb 3)] 55)) := HBC.out.alloc HBC.out.size _
      obtain ⟨hFD, hrow⟩ := HFR.out
      generalize (Wc.alloc (.cells #[.slice (b 0) (m' 0) (cb 0), .slice (b 1) (m' 1) (cb 1), .slice (b 2) (m' 2) (cb 2), .slice (b 3) (m' 3) (cb 3)] 55)) = Wd at hbD hFD ⊢
      have HLD := Lib.hid (HL6.out.later hbD)
      have HFD := Lib.hid hFD
      have HBD := Lib.hid hbD
      obtain ⟨p2, hp2⟩ : ∃ p2, p2 = Wc.heap.size := ⟨_, rfl⟩
      rw [← hp2] at HFD ⊢
      clear hbD hFD hrow HFR HBC hp2
      refine (files_any HLD.out.at_).mono ?_
      rw [hnm6]
      rintro e W8 ⟨v8, rfl, hown8, hb8⟩
      rw [← HNN.out] at hown8
      obtain ⟨A8, c8, rfl, h8c, _⟩ := own_form hown8
      have ht8 : Turn S1 Wb W8 := ((((Turn.of_below HB4.out).trans (Turn.of_below HB5.out) (fun i hi => .inl hi)).trans HT6.out (fun i hi => .inl hi)).trans (Turn.of_below HBD.out) (fun i hi => .inl hi)).trans (Turn.of_below hb8) (fun i hi => .inl hi)
      have ht48 : Turn S1 W4 W8 := (((Turn.of_below HB5.out).trans HT6.out (fun i hi => .inl hi)).trans (Turn.of_below HBD.out) (fun i hi => .inl hi)).trans (Turn.of_below hb8) (fun i hi => .inl hi)
      have hro : W8.ownsRow Wb.heap.size 3 1 (.slice A4 nn c4) nn (M.names.map (Value.int .i64)) := row_same HO4.out (fun g hg => by
        have hge : Wb.heap.size ≤ g := (HO4.out.lt g (by cases hh : A4 <;> simp_all [Value.ownBlock, blk])).1
        obtain ⟨cu, hcu⟩ := own_block HO4.out hg
        exact ht48.block g (lt_of_block hcu) (fun e => by have := HSL.out g e; omega))
      have hle : M.names.length ≤ 4 := below_length M 4
      have heq := equalI A4 A8 c4 c8 M.names W8 (RdI.own hro) (RdI.own hown8) (by omega) (by rw [← HNN.out]; exact h4c) (by rw [← HNN.out]; exact h8c)
      rw [← HNN.out] at heq
      have HEQ := Lib.hid heq
      have HT8 := Lib.hid ht8
      have HB8 := Lib.hid hb8
      clear ht8 ht48 hro heq hown8 hb8 hle
      go_wp2_with (go_at_call 31; refine HEQ.out.mono ?_; rintro e W9 ⟨rfl, hb9⟩; have HB9 := Lib.hid hb9; clear hb9)
      have FIN := Lib.hid (show Fin w W9 p1 p2 M M6 a m ca b m' cb from ⟨HFB.out.turn (HT8.out.trans (Turn.of_below HB9.out) (fun i hi => .inl hi)) (fun e => by have := HSL.out _ e; omega) (fun j hj g hg e => by have := HSL.out _ e; have := HROW.out j hj g hg; omega), HFD.out.turn ((Turn.of_below (S := fun _ => False) HB8.out).trans (Turn.of_below (S := fun _ => False) HB9.out) (fun i hi => .inl hi)) (fun e => e) (fun j hj g hg e => e), HB1.out.trans (((HLD.out.later HB8.out).later HB9.out).bel.mono HB1.out.size)⟩)
      clear HT8 HB8 HB9 HEQ HT6 HB4 HB5 HBD HFB HFD
      go_loopw [76] (fun i wq => ∃ k : Nat, i = .int .i64 k ∧ k ≤ 4 ∧ Hid (Fin w wq p1 p2 M M6 a m ca b m' cb)) (fun i _ => 4 - (match i with | .int _ k => k.toNat | _ => 0))
      case atStart => exact ⟨0, rfl, Nat.zero_le _, FIN⟩
      case round =>
        obtain ⟨k, rfl, hk, H⟩ := hrel
        by_cases hk4 : k < 4
        · have hk4' : (k : Int) < 4 := by omega
          have k1 := H.out.f1.cell hk4
          have k2 := H.out.f2.cell hk4
          have HQ := Lib.hid (fun q => H.out.eq HFL.out hk4 q)
          go_wp2_with fail
          go_quiet ((go_at_call 29; refine Calls.quiet_of_same (HQ.out _)))
          go_wp2
          go_roundw
          case rel => exact ⟨k + 1, by simp, by omega, Lib.hid ⟨H.out.f1.drewN _, H.out.f2.drewN _, below_drewN H.out.bel _⟩⟩
          case measure => simp; omega
        · obtain rfl : k = 4 := by omega
          go_wp2
          go_ret
          exact ⟨rfl, H.out.bel⟩
  · subst hA0
    obtain ⟨g, cur, hge, hgb, hgl, hgc⟩ : ∃ g cur, ad = ⟨g, 0, none⟩ ∧ W3.heap[g]? = some (.cells cur 3 (0, 0)) ∧ w2.heap.size ≤ g ∧ cur.toList.take n1 = M0.names.map (Value.int .i64) := by
      rcases HOW.out.2 with ⟨e, _⟩ | ⟨g, cap, cur, e, h1, h2, _, _, _, h3⟩
      · cases e
      · injection e with e1 _ _
        injection e1 with e1
        exact ⟨g, cur, e1, h2, h1, by simpa using h3⟩
    subst hge
    have hszg := lt_of_block hgb
    have hnm : ∀ i k : Nat, (M0.below' 4)[i]? = some k → cur[i]? = some (Value.int .i64 ((k : Nat) : Int)) := fun i k hik => by
      have h1 : (M0.names.map (Value.int .i64))[i]? = some (Value.int .i64 ((k : Nat) : Int)) := by unfold AD.names; rw [below_eq]; simp [hik]
      rw [← hgc, List.getElem?_take] at h1
      split at h1
      · simpa using h1
      · cases h1
    have hnames : ∀ i k : Nat, (M0.below' 4)[i]? = some k → M0.names[i]? = some (k : Int) := fun i k hik => by unfold AD.names; rw [below_eq]; simp [hik]
    have hlen : n1 = (M0.below' 4).length := by rw [HN1.out]; unfold AD.names; rw [below_eq]; simp
    have HNM := Lib.hid hnm
    have HNN := Lib.hid hnames
    have HLN := Lib.hid hlen
    have HM0 := Lib.hid (show Mid w1 W3 d g M0 cur 0 W3 from ⟨⟨M0, ⟨S, HL3.out, fun e => by have := HL.out.at_.low e; omega⟩, HSET0.out⟩, hgb, Nat.le_refl _⟩)
    clear hnm hnames hlen hgb hgc HOW
    go_loopw [28] (fun i wr => ∃ k : Nat, i = .int .i64 k ∧ k ≤ n1 ∧ Hid (Mid w1 W3 d g M0 cur k wr)) (fun i _ => n1 - (match i with | .int _ k => k.toNat | _ => 0))
    case atStart => exact ⟨0, rfl, Nat.zero_le _, HM0⟩
    case round =>
      obtain ⟨i, rfl, hi, H⟩ := hrel
      obtain ⟨⟨M, ⟨S', hL', hgS⟩, hse⟩, hgw, hszw⟩ := H.out
      by_cases hin : i < n1
      · have hii : (i : Int) < n1 := by omega
        obtain ⟨k, hk⟩ : ∃ k, (M0.below' 4)[i]? = some k := ⟨_, List.getElem?_eq_getElem (by rw [← HLN.out]; exact hin)⟩
        obtain ⟨hk4, F, hF⟩ := names_lt M0 (List.mem_of_getElem? hk)
        have kg : wr.cell? ⟨g, i, none⟩ = some (.int .i64 (k : Nat)) := by simp [World.cell?, hgw, HNM.out i k hk]
        obtain ⟨ho0, hse2⟩ := settle_step hse hL'.at_.ok (HNN.out i k hk) HOK0.out
        have hsy := sync_any hL'.at_ (k := (k : Nat)) (name_i64 (by omega)) (by have := hse.calm.ops; omega)
        rw [ho0] at hsy
        have HSY := Lib.hid hsy
        have HSE2 := Lib.hid hse2
        have HLL := Lib.hid hL'
        have HGS := Lib.hid hgS
        have HGW := Lib.hid hgw
        clear hsy hse2 hL' hgS hgw ho0 hse hk hF
        go_wp2_with (go_at_call 30; refine HSY.out.mono ?_; rintro e wy ⟨rfl, haf⟩; have HNX := Lib.hid (show Mid w1 W3 d g M0 cur (i + 1) wy from ⟨⟨_, ⟨_, HLL.out.after haf, fun e => e.elim HGS.out (fun e => by have := lt_of_block HGW.out; omega)⟩, HSE2.out⟩, (haf.2.block g (lt_of_block HGW.out) HGS.out).trans HGW.out, Nat.le_trans hszw haf.2.size⟩); clear haf)
        go_roundw
        case rel => exact ⟨i + 1, by simp, by omega, HNX⟩
        case measure => simp; omega
      · obtain rfl : i = n1 := by omega
        have HLV := Lib.hid (show ∃ M S, LiveS w1 S wr d M ∧ Settling M0 M M0.names.length from ⟨M, S', hL', by rw [← HN1.out]; exact hse⟩)
        clear hL' hgS hse hgw
        obtain ⟨M, S1, hLv, hset⟩ := HLV.out
        have HSYN := Lib.hid (all_synced hset hLv.at_.ok HOK0.out)
        have hdead : M.dead = false := hset.calm.dead
        have hops : M.ops < 4000000000000000000 := by have := hset.calm.ops; have : M0.names.length ≤ 4 := below_length M0 4; omega
        have HWH := Lib.hid (whole_any hLv.at_ hdead hops)
        have HLW := Lib.hid hLv
        clear hLv hset HLV
        go_wp2_with (first
          | (go_at_call 26; refine HWH.out.mono ?_; rintro e Wa ⟨x, rfl, hx, hba⟩; obtain ⟨a, m, ca, hm, hxa, hxe⟩ := slices_of hx; rw [hxa]; have HFR := Lib.hid (four_of hx hm hxe); have HBA := Lib.hid hba; clear hx hm hxa hxe hba HWH))
        have hsl : ∀ i, S1 i → i < wr.heap.size := fun i hi => HLW.out.at_.low hi
        have HSL := Lib.hid hsl
        have hszA : wr.heap.size ≤ Wa.heap.size := HBA.out.size
        have hbB : Below wr.heap.size wr (Wa.alloc (.cells #[.slice (a 0) (m 0) (ca 0), .slice (a 1) (m 1) (ca 1), .slice (a 2) (m 2) (ca 2), .slice (a 3) (m 3) (ca 3)] 55)) := HBA.out.alloc HBA.out.size _
        have hszB : (Wa.alloc (.cells #[.slice (a 0) (m 0) (ca 0), .slice (a 1) (m 1) (ca 1), .slice (a 2) (m 2) (ca 2), .slice (a 3) (m 3) (ca 3)] 55)).heap.size = Wa.heap.size + 1 := by simp
        obtain ⟨hFB, hrow⟩ := HFR.out
        generalize (Wa.alloc (.cells #[.slice (a 0) (m 0) (ca 0), .slice (a 1) (m 1) (ca 1), .slice (a 2) (m 2) (ca 2), .slice (a 3) (m 3) (ca 3)] 55)) = Wb at hbB hszB hFB ⊢
        have HLB := Lib.hid (HLW.out.later hbB)
        have HFB := Lib.hid hFB
        have HROW := Lib.hid hrow
        obtain ⟨p1, hp1⟩ : ∃ p1, p1 = Wa.heap.size := ⟨_, rfl⟩
        rw [← hp1] at hszA hszB HFB ⊢
        clear hsl hbB hFB hrow HFR HBA hp1
        refine (files_any HLB.out.at_).mono ?_
        rintro e W4 ⟨v4, rfl, hown4, hb4⟩
        obtain ⟨nn, hnn⟩ : ∃ nn, nn = M.names.length := ⟨_, rfl⟩
        rw [← hnn] at hown4
        obtain ⟨A4, c4, rfl, h4c, _⟩ := own_form hown4
        have HO4 := Lib.hid hown4
        have HNN := Lib.hid hnn
        have HB4 := Lib.hid hb4
        have HL4 := Lib.hid (HLB.out.later hb4)
        have hpe := pending_any HL4.out.at_
        have hpn : M.pend = [] := by unfold AD.pend; rw [no_pieces HSYN.out]; rfl
        rw [hpn] at hpe
        have HPE := Lib.hid hpe
        have e2 : (keep.take 200).length = (min (kn : Int) 200).toNat := by have := HKN.out; simp; omega
        have t2 : (0 : Int) ≤ min (kn : Int) 200 := by omega
        have t3 : min (kn : Int) 200 ≤ (kc : Int) := by omega
        have E2 := Lib.hid e2
        clear hown4 hnn hb4 hpe hpn e2
        go_wp2_with (first
          | (go_at_call 22; refine HPE.out.mono ?_; rintro e W5 ⟨v5, rfl, hown5, hb5⟩; dsimp only [List.length_nil] at hown5; obtain ⟨A5, c5, rfl, _, _⟩ := own_form hown5; have HB5 := Lib.hid hb5; have HL5 := Lib.hid (HL4.out.later hb5); clear hown5 hb5)
          | (go_at_call 27; have hcr := crash_any HL5.out.at_ K kc (keep.take 200) (((HK.out.take 200).below (HB1.out.trans (HL5.out.bel.mono HB1.out.size))).wide (Nat.le_trans HB1.out.size HL5.out.bel.size)) (by rw [E2.out]; omega) hkm; rw [E2.out] at hcr; refine hcr.mono ?_; clear hcr; rintro e W6 ⟨rfl, haf⟩; have HAF := Lib.hid haf; clear haf))
        have hfl : (M.crash (keep.take 200)).files = M.files := crash_rests HLW.out.at_.ok HSYN.out (keep.take 200)
        have hd6 : (M.crash (keep.take 200)).dead = false := rfl
        have ho6 : (M.crash (keep.take 200)).ops < 4000000000000000000 := hops
        have HL6 := Lib.hid (HL5.out.after HAF.out)
        have HT6 := Lib.hid HAF.out.2
        generalize M.crash (keep.take 200) = M6 at hfl hd6 ho6 HL6 HAF
        have HFL := Lib.hid hfl
        have hnm6 : M6.names = M.names := by unfold AD.names AD.below; rw [hfl]
        clear HAF hfl
        refine (whole_any HL6.out.at_ hd6 ho6).mono ?_
        rintro e Wc ⟨y, rfl, hy, hbc⟩
        obtain ⟨b, m', cb, hm, hxa, hxe⟩ := slices_of hy
        rw [hxa]
        have HFR := Lib.hid (four_of hy hm hxe)
        have HBC := Lib.hid hbc
        clear hy hm hxa hxe hbc
        go_wp2_with fail
        have hbD : Below W6.heap.size W6 (Wc.alloc (.cells #[.slice (b 0) (m' 0) (cb 0), .slice (b 1) (m' 1) (cb 1), .slice (b 2) (m' 2) (cb 2), .slice (b 3) (m' 3) (cb 3)] 55)) := HBC.out.alloc HBC.out.size _
        obtain ⟨hFD, hrow⟩ := HFR.out
        generalize (Wc.alloc (.cells #[.slice (b 0) (m' 0) (cb 0), .slice (b 1) (m' 1) (cb 1), .slice (b 2) (m' 2) (cb 2), .slice (b 3) (m' 3) (cb 3)] 55)) = Wd at hbD hFD ⊢
        have HLD := Lib.hid (HL6.out.later hbD)
        have HFD := Lib.hid hFD
        have HBD := Lib.hid hbD
        obtain ⟨p2, hp2⟩ : ∃ p2, p2 = Wc.heap.size := ⟨_, rfl⟩
        rw [← hp2] at HFD ⊢
        clear hbD hFD hrow HFR HBC hp2
        refine (files_any HLD.out.at_).mono ?_
        rw [hnm6]
        rintro e W8 ⟨v8, rfl, hown8, hb8⟩
        rw [← HNN.out] at hown8
        obtain ⟨A8, c8, rfl, h8c, _⟩ := own_form hown8
        have ht8 : Turn S1 Wb W8 := ((((Turn.of_below HB4.out).trans (Turn.of_below HB5.out) (fun i hi => .inl hi)).trans HT6.out (fun i hi => .inl hi)).trans (Turn.of_below HBD.out) (fun i hi => .inl hi)).trans (Turn.of_below hb8) (fun i hi => .inl hi)
        have ht48 : Turn S1 W4 W8 := (((Turn.of_below HB5.out).trans HT6.out (fun i hi => .inl hi)).trans (Turn.of_below HBD.out) (fun i hi => .inl hi)).trans (Turn.of_below hb8) (fun i hi => .inl hi)
        have hro : W8.ownsRow Wb.heap.size 3 1 (.slice A4 nn c4) nn (M.names.map (Value.int .i64)) := row_same HO4.out (fun g hg => by
          have hge : Wb.heap.size ≤ g := (HO4.out.lt g (by cases hh : A4 <;> simp_all [Value.ownBlock, blk])).1
          obtain ⟨cu, hcu⟩ := own_block HO4.out hg
          exact ht48.block g (lt_of_block hcu) (fun e => by have := HSL.out g e; omega))
        have hle : M.names.length ≤ 4 := below_length M 4
        have heq := equalI A4 A8 c4 c8 M.names W8 (RdI.own hro) (RdI.own hown8) (by omega) (by rw [← HNN.out]; exact h4c) (by rw [← HNN.out]; exact h8c)
        rw [← HNN.out] at heq
        have HEQ := Lib.hid heq
        have HT8 := Lib.hid ht8
        have HB8 := Lib.hid hb8
        clear ht8 ht48 hro heq hown8 hb8 hle
        go_wp2_with (go_at_call 31; refine HEQ.out.mono ?_; rintro e W9 ⟨rfl, hb9⟩; have HB9 := Lib.hid hb9; clear hb9)
        have FIN := Lib.hid (show Fin w W9 p1 p2 M M6 a m ca b m' cb from ⟨HFB.out.turn (HT8.out.trans (Turn.of_below HB9.out) (fun i hi => .inl hi)) (fun e => by have := HSL.out _ e; omega) (fun j hj g hg e => by have := HSL.out _ e; have := HROW.out j hj g hg; omega), HFD.out.turn ((Turn.of_below (S := fun _ => False) HB8.out).trans (Turn.of_below (S := fun _ => False) HB9.out) (fun i hi => .inl hi)) (fun e => e) (fun j hj g hg e => e), HB1.out.trans (((HLD.out.later HB8.out).later HB9.out).bel.mono HB1.out.size)⟩)
        clear HT8 HB8 HB9 HEQ HT6 HB4 HB5 HBD HFB HFD
        go_loopw [76] (fun i wq => ∃ k : Nat, i = .int .i64 k ∧ k ≤ 4 ∧ Hid (Fin w wq p1 p2 M M6 a m ca b m' cb)) (fun i _ => 4 - (match i with | .int _ k => k.toNat | _ => 0))
        case atStart => exact ⟨0, rfl, Nat.zero_le _, FIN⟩
        case round =>
          obtain ⟨k, rfl, hk, H⟩ := hrel
          by_cases hk4 : k < 4
          · have hk4' : (k : Int) < 4 := by omega
            have k1 := H.out.f1.cell hk4
            have k2 := H.out.f2.cell hk4
            have HQ := Lib.hid (fun q => H.out.eq HFL.out hk4 q)
            go_wp2_with fail
            go_quiet ((go_at_call 29; refine Calls.quiet_of_same (HQ.out _)))
            go_wp2
            go_roundw
            case rel => exact ⟨k + 1, by simp, by omega, Lib.hid ⟨H.out.f1.drewN _, H.out.f2.drewN _, below_drewN H.out.bel _⟩⟩
            case measure => simp; omega
          · obtain rfl : k = 4 := by omega
            go_wp2
            go_ret
            exact ⟨rfl, H.out.bel⟩

set_option maxRecDepth 100000 in
theorem lifted (os : Os) (started : os.Started) (H : Type) (enc : TypeId × Value → H) :
    ReturnsInHanded {} Try.checked os 6 .any (Rows.diskRestsSpec.pre6 enc Try.prog Try.f6 Rows.diskRestsRow.domain false) (Rows.diskRestsSpec.post enc Try.prog Try.f6 false true false false) := by
  refine returnsInHanded_of_change (C := Try.checked) Try.own started (by kernel_rfl) Try.func6
    (ChangeSpec.witness6 (enc := enc) (C := Try.checked) false ⟨#[], #[.int .i64 0, .slice none 0 0, .slice none 0 0], []⟩ 8 (by kernel_rfl) (by kernel_rfl) (by kernel_rfl) (by kernel_rfl)) ?_
  intro W base args ds gs before hval0 hW hcnd _
  have hval : ∀ (j : Nat) t v, Try.f6.params[j]? = some t → args[j]? = some v → Value.okWide Try.prog W .any base t v := hval0
  have hW' := hW
  obtain ⟨p, q, hA0, hV, rfl, hfz, hnd⟩ := hW
  have hA : DataW.TrodAll enc Try.prog W 0 (fun _ => true) true Try.f6.params.toList args.toList ds p := hA0
  rw [Try.params6] at hA hval
  have hA' := hA
  obtain ⟨v0, vs0, d0, ds0, p0, q0, hargs, rfl, rfl, h0, r0⟩ := trodAll_cons hA
  obtain ⟨v1, vs1, d1, ds1, p1, q1, rfl, rfl, rfl, h1, r1⟩ := trodAll_cons r0
  obtain ⟨v2, vs2, d2, ds2, p2, q2, rfl, rfl, rfl, h2, r2⟩ := trodAll_cons r1
  obtain ⟨rfl, rfl, rfl⟩ := trodAll_nil r2
  obtain rfl : args = #[v0, v1, v2] := by cases args; simp_all
  obtain ⟨rfl, rfl⟩ := trodVars_none hV
  obtain ⟨a0, rfl, rfl, rfl, w0⟩ := open_int Try.underlying3 (hval 0 3 v0 rfl rfl) h0
  obtain ⟨A1, len1, c1, rfl⟩ := okWide_slice Try.underlying22 (hval 1 22 v1 rfl rfl)
  obtain ⟨z1, rfl, sl1, le1, mx1⟩ := open_ops h1
  obtain ⟨A2, len2, c2, rfl⟩ := okWide_slice Try.underlying35 (hval 2 35 v2 rfl rfl)
  obtain ⟨z2, rfl, sl2, le2, mx2⟩ := open_keep h2
  clear hA0 hval0
  refine (walk a0 w0 A1 c1 z1 sl1 le1 mx1 A2 c2 z2 sl2 le2 mx2).mono fun e W' ⟨he, bel⟩ => ?_
  subst he
  exact ⟨_, rfl, _, _, _, [], _, [], hW', trodAll_mk1 (shut_bool Try.underlying4 _), trodAll_below bel _ _ _ _ (by kernel_rfl) hA', rfl, bel.frame _, fun h => by cases h⟩

theorem proved : Rows.DiskRestsSaid :=
  OpenClaim.holds_of_wide 6 Try.f6 rfl rfl rfl rfl rfl rfl rfl ⟨rfl, rfl, rfl, rfl, rfl⟩ rfl rfl rfl rfl rfl (by kernel_rfl) Try.func6 (by kernel_rfl)
    (of_decide_eq_true (by kernel_rfl)) (by unfold Func.isWrapper; first | (rw [if_pos (by decide +kernel)]; kernel_rfl) | (rw [if_neg (by decide +kernel)]; exact ⟨rfl, rfl⟩))
    (fun os started H enc _ => lifted os started H enc)
#print axioms proved
end Go.Proofs.Ytlkcfdbhiifeaaa.diskRests
