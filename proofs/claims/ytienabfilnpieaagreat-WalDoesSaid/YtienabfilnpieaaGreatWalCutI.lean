/-
  WalCuts: the log with its records, as calls meet it; the disk with the file that is cut.
-/
import Derived.Test.YtienabfilnpieaaGreatWalH
namespace Go.Proofs.YtienabfilnpieaaGreat
open Go.RowKit
set_option linter.unusedVariables false
set_option maxRecDepth 100000

theorem CutI.later {w0 W W' : World} {g d k : Nat} {A : Option Addr} {c : Nat} {recs : List (List Int)} (h : CutI w0 W g d k A c recs) (hb : Below W.heap.size W W') : CutI w0 W' g d k A c recs := by
  obtain ⟨S, T, V, M, R, vs, h1, h2, h3, h4, h5⟩ := h
  exact ⟨S, T, V, M, R, vs, h1.later hb, h2, h3.turn (fun q hq => hb.block q (h4 q hq).2.1), fun q hq => ⟨(h4 q hq).1, Nat.lt_of_lt_of_le (h4 q hq).2.1 hb.size, (h4 q hq).2.2⟩, h5⟩
theorem CutI.bel {w0 W : World} {g d k : Nat} {A : Option Addr} {c : Nat} {recs : List (List Int)} (h : CutI w0 W g d k A c recs) : Below w0.heap.size w0 W := by
  obtain ⟨S, T, V, M, R, vs, h1, _⟩ := h
  exact h1.bel
theorem CutI.few {w0 W : World} {g d k : Nat} {A : Option Addr} {c : Nat} {recs : List (List Int)} (h : CutI w0 W g d k A c recs) : costM recs + 12 ≤ 400 ∧ recs.length ≤ 40 ∧ (∀ p ∈ recs, Oct p) ∧ Recs W A recs ∧ recs.length ≤ c ∧ c ≤ 9223372036854775807 := by
  obtain ⟨S, T, V, M, R, vs, h1, h2, h3, _⟩ := h
  obtain ⟨r1, r2, r3, r4⟩ := play_room h1
  rw [h2, costM_cons] at r3
  rw [h2] at r4
  simp at r3 r4
  obtain ⟨A', c', e, e1, e2⟩ := own_form h3.row
  injection e with _ _ e
  subst e
  refine ⟨by omega, by omega, fun p hp => h1.oct p (by rw [h2]; simp [hp]), h3.recs, e1, e2⟩
/-- The room that is left. -/
def lf (recs : List (List Int)) : Int := 388 - (costM recs : Int)
theorem cutI_left {w0 W : World} {g d k : Nat} {A : Option Addr} {c : Nat} {recs : List (List Int)} (h : CutI w0 W g d k A c recs) : Calls Tryz.prog 30 #[.pointer (some ⟨g, 0, none⟩)] W fun e w' => e = .returned (.int .i64 (lf recs)) ∧ Below W.heap.size W w' := by
  obtain ⟨S, T, V, M, R, vs, h1, h2, _⟩ := h
  have hr := (play_room h1).2.2.1
  rw [h2, costM_cons] at hr
  simp at hr
  have e : V.room = lf recs := by unfold lf; omega
  rw [← e]
  exact play_left h1
/-- Behind an Append that was taken: what a row more would make of it. -/
def CutMid (w0 W2 : World) (g d k : Nat) (A : Option Addr) (c : Nat) (recs : List (List Int)) (b : List Int) (A1 : Option Addr) (c1 : Nat) : Prop :=
  ∃ vs, W2.ownsRow 0 33 1 (.slice A recs.length c) recs.length vs ∧ ∀ W3 W4 A2 c2, Below W2.heap.size W2 W3 → W4.ownsRow 0 33 1 (.slice A2 (recs.length + 1) c2) (recs.length + 1) (vs ++ [.slice A1 b.length c1]) → W3.grownBy W4 (blk A) → (blk A2 = blk A ∨ blk A2 = some W3.heap.size) → CutI w0 W4 g d (k + 1) A2 c2 (recs ++ [b])
theorem cutI_append {w0 W W1 : World} {g d k : Nat} {A : Option Addr} {c : Nat} {recs : List (List Int)} (h : CutI w0 W g d k A c recs) (hk : k ≤ 100) (hb : Below W.heap.size W W1) {b : List Int} (ho : Oct b) (hl : b.length ≤ 300) {A1 : Option Addr} {c1 : Nat} (hn : W1.ownsRow W.heap.size 5 1 (.slice A1 b.length c1) b.length (b.map (Value.int .u8))) :
    Calls Tryz.prog 23 #[.pointer (some ⟨g, 0, none⟩), .slice A1 b.length c1] W1 fun e W2 => e = .returned (.int .i64 (if lf recs < (b.length : Int) + 12 then 6 else 0)) ∧ (lf recs < (b.length : Int) + 12 → CutI w0 W2 g d (k + 1) A c recs) ∧ (¬ lf recs < (b.length : Int) + 12 → CutMid w0 W2 g d k A c recs b A1 c1) := by
  obtain ⟨S, T, V, M, R, vs, h1, h2, h3, h4, h5⟩ := h
  have hr := (play_room h1).2.2.1
  rw [h2, costM_cons] at hr
  simp at hr
  have e : V.room = lf recs := by unfold lf; omega
  have hnl : ∀ q, blk A1 = some q → W.heap.size ≤ q ∧ q < W1.heap.size := fun q hq => hn.lt q (by cases A1 <;> simp_all [Value.ownBlock, blk])
  have key := play_append (h1.later hb) (by simp [lenF]) (by omega) rfl (Sl.ofRow hn rfl) ho hl (fun q hq e => by have := (hnl q hq).1; have := h1.log.disk.low e; omega)
  refine key.mono ?_
  rintro e2 W2 ⟨rfl, S', T', M', hp, hm, hops⟩
  unfold AW.gives
  rw [e]
  refine ⟨rfl, fun hf => ?_, fun hf => ?_⟩
  · have hv : V.grows b = V := by unfold AW.grows; rw [e, if_pos hf]
    rw [hv] at hp
    exact cutI_same hb hp h2 h3 h4 hm h5 hops
  · have hv : V.grows b = ⟨V.most, V.parts ++ [b], false⟩ := by unfold AW.grows; rw [e, if_neg hf]
    rw [hv] at hp
    have hRk : ∀ q, R q → W2.heap[q]? = W.heap[q]? := fun q hq => by
      obtain ⟨a1, a2, a3, a4⟩ := h4 q hq
      have := hb.size
      exact (hm.turn.block q (by omega) (fun e => e.elim a3 a4)).trans (hb.block q a2)
    refine ⟨vs, (h3.turn hRk).row, fun W3 W4 A2 c2 hb3 hrow hg hl2 => ?_⟩
    exact cutI_more hb ho hn hp (by show V.parts ++ [b] = _; rw [h2]) h3 h4 (fun q hq => hq.elim (fun e => h1.log.disk.low e) (fun e => h1.log.wal.low e)) h1.bel.size hm h5 hops hb3 hrow hg hl2
/-- The bytes of the log's file. -/
def allB (recs : List (List Int)) : List Int := logB 400 ([] :: recs)
theorem allB_len (recs : List (List Int)) : (allB recs).length = costM recs + 32 := by unfold allB; rw [logB_len, costM_cons]; simp; omega
theorem cutI_read {w0 W : World} {g d k : Nat} {A : Option Addr} {c : Nat} {recs : List (List Int)} (h : CutI w0 W g d k A c recs) (hk : k ≤ 100) : Calls Tryz.prog 42 #[.pointer (some ⟨d, 0, none⟩), .int .i64 0] W fun e W' => ∃ A1 c1, e = .returned (.tuple #[.slice A1 (allB recs).length c1, .int .i64 0]) ∧ Sl W' A1 c1 (allB recs) ∧ (∀ q, blk A1 = some q → W.heap.size ≤ q) ∧ CutI w0 W' g d (k + 1) A c recs := by
  obtain ⟨S, T, V, M, R, vs, h1, h2, h3, h4, h5⟩ := h
  have hne : M.files 0 ≠ none := by rw [h1.calm.f0]; simp
  have hrd : M.readB 0 = allB recs := by rw [h1.calm.read (by decide) h1.calm.f0]; show logB 400 V.parts = _; rw [h2]; rfl
  have key := read_any h1.log.disk (k := 0) (by decide) (by omega)
  refine key.mono ?_
  rintro e W2 ⟨v, rfl, hrow, hd, ht⟩
  rw [h1.calm.opC (by decide) hne]
  rw [h1.calm.opM (by decide) hne] at hd
  rw [hrd] at hrow
  obtain ⟨A1, c1, rfl, hlc, hcm⟩ := own_form hrow
  have hz := ht.size
  refine ⟨A1, c1, rfl, Sl.ofRow hrow rfl, fun q hq => (hrow.lt q (by cases A1 <;> simp_all [Value.ownBlock, blk])).1, S, T, V, M.met, R, vs, ⟨⟨h1.log.wal.other ht h1.log.sep, hd, h1.log.sep, h1.log.ok⟩, h1.calm.met, h1.most, h1.live, h1.oct, h1.bel.trans (ht.below h1.bel.size (fun q hq => h1.up q (.inl hq))), h1.up⟩, h2, h3.turn (fun q hq => ht.block q (h4 q hq).2.1 (h4 q hq).2.2.1), fun q hq => ⟨(h4 q hq).1, by have := (h4 q hq).2.1; omega, (h4 q hq).2.2⟩, ?_⟩
  rw [met_ops]
  omega
theorem cutI_has {w0 W : World} {g d k : Nat} {A : Option Addr} {c : Nat} {recs : List (List Int)} (h : CutI w0 W g d k A c recs) : Calls Tryz.prog 29 #[.pointer (some ⟨g, 0, none⟩), .slice none 0 0, .slice A recs.length c] W (HasAs W true) := by
  obtain ⟨S, T, V, M, R, vs, h1, h2, h3, h4, h5⟩ := h
  have key := has_same h1.log.wal h2 (by have := (play_room h1).2.2.1; have := (play_room h1).1; omega) none A 0 c (s := []) ⟨Nat.le_refl _, by omega, Rd.empty⟩ h3.recs rfl
  rw [decide_eq_true rfl] at key
  exact key

/-! ### the file that is cut -/
def cutD (bs : List Int) : AD := (AD.new 65536).appendM 0 bs
theorem new_calm : Calm (AD.new 65536) 65536 none none := ⟨rfl, rfl, rfl, rfl, rfl, rfl, rfl, rfl⟩
theorem cutD_calm (bs : List Int) (h : bs.length ≤ 65536) : (AD.new 65536).appendC 0 bs.length = 0 ∧ Calm (cutD bs) 65536 (some ⟨bs, 0, false⟩) none := by
  obtain ⟨h1, h2⟩ := new_calm.append (k := 0) (by decide) bs (by simp [lenF]; omega)
  refine ⟨h1, ?_⟩
  unfold cutD
  rw [h2]
  exact new_calm.met.put0 ⟨bs, 0, false⟩
theorem cutD_ops (bs : List Int) : (cutD bs).ops ≤ 1 := appendM_ops (AD.new 65536) 0 bs
theorem cut_short {recs : List (List Int)} (hc : costM recs + 12 ≤ 400) {n : Nat} (hn : n ≤ (allB recs).length) (h32 : n < 32) : (cutD ((allB recs).take n)).openC = 140 := by
  have hl : ((allB recs).take n).length = n := by rw [List.length_take]; omega
  obtain ⟨_, hcalm⟩ := cutD_calm ((allB recs).take n) (by omega)
  have hne : (cutD ((allB recs).take n)).files 0 ≠ none := by rw [hcalm.f0]; simp
  have hr : (cutD ((allB recs).take n)).readB 0 = (allB recs).take n := hcalm.read (by decide) hcalm.f0
  have hh : hearC ((allB recs).take n) = 140 := by
    unfold hearC
    rw [if_pos]
    by_cases h20 : n < 20
    · exact .inl (limit_short _ (by omega))
    · refine .inr ?_
      have := (parts_cut (m := 400) ⟨by omega, by omega⟩ ([] :: recs) (by rw [costM_cons]; simp; omega) n (by omega) hn).2
      unfold allB
      rw [this, wholeM_cons, if_neg (by simp; omega)]
      rfl
  have hlc : (cutD ((allB recs).take n)).loadC = 140 := by unfold AD.loadC; rw [hcalm.opC (by decide) hne, if_pos rfl, hr, hh]
  unfold AD.openC
  rw [hlc, if_pos (by omega)]
theorem cut_whole {recs : List (List Int)} (hc : costM recs + 12 ≤ 400) {n : Nat} (hn : n ≤ (allB recs).length) (h32 : 32 ≤ n) : (cutD ((allB recs).take n)).openC = 0 ∧ openV (cutD ((allB recs).take n)) = ⟨400, [] :: recs.take (wholeM (n - 32) recs), false⟩ := by
  have hl : ((allB recs).take n).length = n := by rw [List.length_take]; omega
  rw [allB_len] at hn
  obtain ⟨_, hcalm⟩ := cutD_calm ((allB recs).take n) (by omega)
  have hr : (cutD ((allB recs).take n)).readB 0 = (allB recs).take n := hcalm.read (by decide) hcalm.f0
  obtain ⟨p1, p2⟩ := parts_cut (m := 400) ⟨by omega, by omega⟩ ([] :: recs) (by rw [costM_cons]; simp; omega) n (by omega) (by have := allB_len recs; unfold allB at this; omega)
  have p2' : partsM ((allB recs).take n) = [] :: recs.take (wholeM (n - 32) recs) := by
    unfold allB
    rw [p2, wholeM_cons, if_pos (by simp; omega), List.take_succ_cons]
    congr 2
  have hh : hearC ((allB recs).take n) = 0 := by
    unfold hearC
    rw [if_neg]
    rw [p2']
    rintro (e | e)
    · have : limitM ((allB recs).take n) = 400 := p1
      omega
    · cases e
  have hw : costM (recs.take (wholeM (n - 32) recs)) ≤ n - 32 := by
    rcases hz : wholeM (n - 32) recs with _ | j
    · simp [costM_nil]
    · have hle := whole_le (n - 32) recs
      exact (whole_iff (n - 32) recs j (by omega)).2 (by omega)
  obtain ⟨o1, _⟩ := hcalm.open_ hh (by rw [p2', costM_cons]; show _ ≤ (((allB recs).take n).length : Int); rw [hl]; simp; omega)
  refine ⟨o1, ?_⟩
  unfold openV
  rw [hr, p2']
  have : limitM ((allB recs).take n) = 400 := p1
  rw [this]

theorem lf_snoc (recs : List (List Int)) (b : List Int) : lf (recs ++ [b]) = lf recs - 12 - (b.length : Int) := by
  unfold lf
  rw [costM_append, costM_one]
  omega
theorem cutOpen {W : World} {S : Nat → Prop} {d : Nat} {bs : List Int} (h : DiskAt W S d (cutD bs)) (ho : Oct bs) (hl : bs.length ≤ 65536) : Calls Tryz.prog 13 #[.pointer (some ⟨d, 0, none⟩)] W (OpenAs S d W (cutD bs)) := by
  have hc := (cutD_calm bs hl).2
  have hr : (cutD bs).readB 0 = bs := hc.read (by decide) hc.f0
  exact open_any h (by have := cutD_ops bs; omega) (by rw [hr]; exact ho) (by rw [hr]; omega)
theorem cutOpen_short {W : World} {S : Nat → Prop} {d B : Nat} {recs : List (List Int)} (hc : costM recs + 12 ≤ 400) {n : Nat} (hn : n ≤ (allB recs).length) (h32 : n < 32) (h : DiskAt W S d (cutD ((allB recs).take n))) (ho : Oct (allB recs)) (hB : B ≤ W.heap.size) (hS : ∀ k, S k → B ≤ k) :
    Calls Tryz.prog 13 #[.pointer (some ⟨d, 0, none⟩)] W fun e w' => e = .returned (.tuple #[.pointer none, .int .i64 140]) ∧ Below B W w' := by
  have hl := allB_len recs
  refine (cutOpen h (ho.takeN n) (by rw [List.length_take]; omega)).mono fun e w' hh => ?_
  rw [OpenAs, cut_short hc hn h32] at hh
  rcases hh with ⟨_, rfl, S', hw⟩ | ⟨h0, _⟩
  · exact ⟨rfl, hw.turn.below hB hS⟩
  · omega
theorem cutOpen_whole {W : World} {S : Nat → Prop} {d B : Nat} {recs : List (List Int)} (hc : costM recs + 12 ≤ 400) {n : Nat} (hn : n ≤ (allB recs).length) (h32 : 32 ≤ n) (h : DiskAt W S d (cutD ((allB recs).take n))) (ho : Oct (allB recs)) (hB : B ≤ W.heap.size) (hS : ∀ k, S k → B ≤ k) :
    Calls Tryz.prog 13 #[.pointer (some ⟨d, 0, none⟩)] W fun e w' => ∃ g T, e = .returned (.tuple #[.pointer (some ⟨g, 0, none⟩), .int .i64 0]) ∧ WalAt w' T g d ⟨400, [] :: recs.take (wholeM (n - 32) recs), false⟩ ∧ Below B W w' := by
  have hl := allB_len recs
  obtain ⟨o1, o2⟩ := cut_whole hc hn h32
  refine (cutOpen h (ho.takeN n) (by rw [List.length_take]; omega)).mono fun e w' hh => ?_
  rw [OpenAs, o1, o2] at hh
  rcases hh with ⟨h0, _⟩ | ⟨_, g, S', T, rfl, hw, hwal, _⟩
  · omega
  · exact ⟨g, T, rfl, hwal, hw.turn.below hB hS⟩
theorem allB_oct {recs : List (List Int)} (h : ∀ p ∈ recs, Oct p) : Oct (allB recs) := logB_oct 400 (fun p hp => by
  rcases List.mem_cons.1 hp with e | e
  · subst e; intro b hb; simp at hb
  · exact h p e)
/-- The place that is drawn. -/
theorem place_of (a : Int) (N : Nat) (hN : N ≤ 65536) : ∃ n : Nat, n ≤ N ∧ IntKind.i64.wrap ((IntKind.u64.wrap a).tmod ((N : Int) + 1)) = (n : Int) := by
  have hu : 0 ≤ IntKind.u64.wrap a := by rw [IntKind.wrap_u64]; omega
  have h1 := Int.tmod_nonneg ((N : Int) + 1) hu
  have h2 := Int.tmod_lt_of_pos (IntKind.u64.wrap a) (b := (N : Int) + 1) (by omega)
  refine ⟨((IntKind.u64.wrap a).tmod ((N : Int) + 1)).toNat, by omega, ?_⟩
  rw [i64_fit (by omega)]
  omega

end Go.Proofs.YtienabfilnpieaaGreat
