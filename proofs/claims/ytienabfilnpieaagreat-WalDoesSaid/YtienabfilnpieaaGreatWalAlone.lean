/-
  WalAlone: the log and the other file, as calls meet them; events that came in.
-/
import Derived.Test.YtienabfilnpieaaGreatWalH
import Derived.Test.YtienabfilnpieaaGreatLawFrame
import Derived.Test.YtienabfilnpieaaGreatLawOps
namespace Go.Proofs.YtienabfilnpieaaGreat
open Go.ChangeShapes Go.WideShapes Go.ChangeAt Go.RowKit Go.Deep
set_option linter.unusedVariables false
set_option maxRecDepth 100000

/-! ### the whole file -/
theorem hear_full {ps : List (List Int)} (hne : ps ≠ []) (hc : (costM ps : Int) ≤ 400) : limitM (logB 400 ps) = 400 ∧ partsM (logB 400 ps) = ps := by
  have hl := logB_len 400 ps
  obtain ⟨p1, p2⟩ := parts_cut (m := 400) ⟨by omega, by omega⟩ ps hc (logB 400 ps).length (by omega) (Nat.le_refl _)
  rw [List.take_length] at p1 p2
  refine ⟨p1, p2.trans ?_⟩
  have hpos : 0 < ps.length := List.length_pos_iff.2 hne
  have hw := (whole_iff ((logB 400 ps).length - 20) ps (ps.length - 1) (by omega)).1 (by
    rw [show ps.length - 1 + 1 = ps.length by omega, List.take_length]
    omega)
  exact List.take_of_length_le (by omega)

/-! ### the log and the other file -/
def AloneI (w1 W : World) (d g k : Nat) (A : Option Addr) (c : Nat) (own : List Int) : Prop :=
  ∃ S T V M, Play w1 W S T g d V M (setF own) ∧ M.ops ≤ 20 + 10 * (k : Int) ∧ Sl W A c own ∧ Oct own ∧ own.length ≤ 60 ∧ ∀ q, blk A = some q → q < W.heap.size ∧ ¬ S q ∧ ¬ T q
section
variable {w1 W W1 : World} {d g k c : Nat} {A : Option Addr} {own : List Int}
theorem AloneI.later (h : AloneI w1 W d g k A c own) (hb : Below W.heap.size W W1) : AloneI w1 W1 d g k A c own := by
  obtain ⟨S, T, V, M, h1, h2, h3, h4, h5, h6⟩ := h
  exact ⟨S, T, V, M, h1.later hb, h2, h3.below hb, h4, h5, fun q hq => ⟨Nat.lt_of_lt_of_le (h6 q hq).1 hb.size, (h6 q hq).2⟩⟩
theorem AloneI.bel (h : AloneI w1 W d g k A c own) : Below w1.heap.size w1 W := by
  obtain ⟨S, T, V, M, h1, _⟩ := h
  exact h1.bel
theorem AloneI.next (h : AloneI w1 W d g k A c own) {j : Nat} (hj : k ≤ j) : AloneI w1 W d g j A c own := by
  obtain ⟨S, T, V, M, h1, h2, h3⟩ := h
  exact ⟨S, T, V, M, h1, by omega, h3⟩
theorem aloneI_moved {W2 : World} {S T S' T' : Nat → Prop} {V : AW} {M M' : AD} (hp : Play w1 W2 S' T' g d V M' (setF own)) (hm : Moved S T S' T' W1 W2) (ho : M.ops ≤ 20 + 10 * (k : Int)) (ho2 : M'.ops ≤ M.ops + 10) (h3 : Sl W1 A c own) (h4 : Oct own) (h5 : own.length ≤ 60) (h6 : ∀ q, blk A = some q → q < W1.heap.size ∧ ¬ S q ∧ ¬ T q) : AloneI w1 W2 d g (k + 1) A c own :=
  ⟨S', T', V, M', hp, by omega, h3.turn hm.turn (fun q hq e => e.elim (h6 q hq).2.1 (h6 q hq).2.2), h4, h5, fun q hq => by
    obtain ⟨a1, a2, a3⟩ := h6 q hq
    exact ⟨Nat.lt_of_lt_of_le a1 hm.turn.size, fun e => (hm.s q e).elim a2 (fun e => by omega), fun e => (hm.t q e).elim a3 (fun e => by omega)⟩⟩
theorem alone_append (h : AloneI w1 W d g k A c own) (hk : k ≤ 1000) (hb : Below W.heap.size W W1) {b : List Int} (ho : Oct b) (hl : b.length ≤ 300) {A1 : Option Addr} {c1 : Nat} (hn : New W.heap.size W1 A1 c1 b) :
    Calls Tryz.prog 23 #[.pointer (some ⟨g, 0, none⟩), .slice A1 b.length c1] W1 fun e W2 => (∃ x, e = .returned (.int .i64 x)) ∧ AloneI w1 W2 d g (k + 1) A c own := by
  obtain ⟨S, T, V, M, h1, h2, h3, h4, h5, h6⟩ := h
  have hnl : ∀ q, blk A1 = some q → W.heap.size ≤ q := fun q hq => (hn.lt q (by cases A1 <;> simp_all [Value.ownBlock, blk])).1
  have key := play_append (h1.later hb) (by show own.length ≤ 60; exact h5) (by omega) rfl hn.sl ho hl (fun q hq e => by have := hnl q hq; have := h1.log.disk.low e; omega)
  refine key.mono ?_
  rintro e W2 ⟨rfl, S', T', M', hp, hm, hops⟩
  have hz := hb.size
  exact ⟨⟨_, rfl⟩, aloneI_moved hp hm h2 (by omega) (h3.below hb) h4 h5 (fun q hq => ⟨by have := (h6 q hq).1; omega, (h6 q hq).2⟩)⟩
theorem alone_check (h : AloneI w1 W d g k A c own) (hk : k ≤ 1000) (hb : Below W.heap.size W W1) {b : List Int} (ho : Oct b) (hl : b.length ≤ 300) {A1 : Option Addr} {c1 : Nat} (hn : New W.heap.size W1 A1 c1 b) :
    Calls Tryz.prog 24 #[.pointer (some ⟨g, 0, none⟩), .slice A1 b.length c1] W1 fun e W2 => (∃ x, e = .returned (.int .i64 x)) ∧ AloneI w1 W2 d g (k + 1) A c own := by
  obtain ⟨S, T, V, M, h1, h2, h3, h4, h5, h6⟩ := h
  have hnl : ∀ q, blk A1 = some q → W.heap.size ≤ q := fun q hq => (hn.lt q (by cases A1 <;> simp_all [Value.ownBlock, blk])).1
  have key := play_check (h1.later hb) (by show own.length ≤ 60; exact h5) (by omega) rfl hn.sl ho hl (fun q hq e => by have := hnl q hq; have := h1.log.disk.low e; omega)
  refine key.mono ?_
  rintro e W2 ⟨rfl, S', T', M', hp, hm, hops⟩
  have hz := hb.size
  exact ⟨⟨_, rfl⟩, aloneI_moved hp hm h2 (by omega) (h3.below hb) h4 h5 (fun q hq => ⟨by have := (h6 q hq).1; omega, (h6 q hq).2⟩)⟩
theorem after_moved {W2 : World} {S T : Nat → Prop} {M' : AD} (ha : After S d W M' W2) : Moved S T (grew S W W2) T W W2 :=
  ⟨ha.2.mono (fun q hq => .inl hq), fun q hq => hq.imp id (fun e => e.1), fun q hq => .inl hq⟩
theorem alone_crash (h : AloneI w1 W d g k A c own) (K : Option Addr) (kn kc : Nat) (keep : List Bool) (hkl : keep.length = kn) (hK : RdB W W.heap.size K keep) (hkn : kn ≤ kc) (hkc : kc ≤ 9223372036854775807) :
    Calls Tryz.prog 28 #[.pointer (some ⟨d, 0, none⟩), .slice K kn kc] W fun e W2 => e = .returned (.int .i64 0) ∧ AloneI w1 W2 d g (k + 1) A c own := by
  subst hkl
  obtain ⟨S, T, V, M, h1, h2, h3, h4, h5, h6⟩ := h
  have key := crash_any h1.log.disk K kc keep hK hkn hkc
  refine key.mono ?_
  rintro e W2 ⟨rfl, ha⟩
  have hm : Moved S T (grew S W W2) T W W2 := after_moved ha
  obtain ⟨u1, u2⟩ := moved_up hm h1.bel h1.up
  have hc := h1.calm.crash h1.log.disk.ok (fun F hF => by injection hF with hF; subst hF; exact ⟨rfl, rfl⟩) (fun F hF => by injection hF with hF; subst hF; exact ⟨rfl, rfl⟩) keep
  refine ⟨rfl, aloneI_moved (V := V) (M' := M.crash keep) ⟨⟨h1.log.wal.other ha.2 h1.log.sep, ha.1, fun q hq e => ?_, h1.log.ok⟩, hc, h1.most, h1.live, h1.oct, u1, u2⟩ hm h2 (by show M.ops ≤ _; omega) h3 h4 h5 h6⟩
  rcases e with e | e
  · exact h1.log.sep q hq e
  · have := h1.log.wal.low hq; omega
theorem alone_open (h : AloneI w1 W d g k A c own) (hk : k ≤ 1000) :
    Calls Tryz.prog 13 #[.pointer (some ⟨d, 0, none⟩)] W fun e W2 => ∃ g', e = .returned (.tuple #[.pointer (some ⟨g', 0, none⟩), .int .i64 0]) ∧ AloneI w1 W2 d g' (k + 1) A c own := by
  obtain ⟨S, T, V, M, h1, h2, h3, h4, h5, h6⟩ := h
  have hcost := h1.log.ok.cost
  have hone := h1.log.ok.one
  have hmost := h1.most
  obtain ⟨p1, p2⟩ := hear_full (ps := V.parts) (fun e => by rw [e] at hone; simp at hone) (by omega)
  have hr : M.readB 0 = logB 400 V.parts := h1.calm.read (by decide) h1.calm.f0
  have hll := logB_len 400 V.parts
  have hh : hearC (logB 400 V.parts) = 0 := by
    unfold hearC
    rw [if_neg]
    rw [p1, p2]
    rintro (e | e)
    · omega
    · rw [e] at hone; simp at hone
  obtain ⟨o1, F', o2, o3, o4, o5⟩ := h1.calm.open_ hh (by rw [p2]; show _ ≤ ((logB 400 V.parts).length : Int); omega)
  have hF' : F' = ⟨logB 400 V.parts, (logB 400 V.parts).length, true⟩ := by
    have hb : F'.bs = logB 400 V.parts := by
      rw [o3, p2]
      exact List.take_of_length_le (by show (logB 400 V.parts).length ≤ _; omega)
    have hs : F'.syn = F'.bs.length := o4 rfl
    obtain ⟨b, s, kp⟩ := F'
    dsimp only at hb hs o5
    subst hb
    rw [hs, o5]
  rw [hF'] at o2
  have key := open_any h1.log.disk (by omega) (by rw [hr]; exact logB_oct 400 h1.oct) (by rw [hr]; omega)
  refine key.mono ?_
  rintro e W2 (⟨hn, _⟩ | ⟨_, g', S', T', rfl, hw, hwal, hT⟩)
  · exact absurd o1 hn
  · have hv : openV M = ⟨400, V.parts, false⟩ := by unfold openV; rw [hr, p1, p2]
    rw [hv] at hwal
    have hops := openM_ops M
    have hm : Moved S (fun _ => False) S' T' W W2 := ⟨hw.turn.mono (fun q hq => .inl hq), hw.grow, fun q hq => .inr (hT q hq).1⟩
    obtain ⟨u1, u2⟩ := moved_up (T := fun _ => False) hm h1.bel (fun q hq => hq.elim (fun e => h1.up q (.inl e)) (fun e => e.elim))
    exact ⟨g', rfl, aloneI_moved (V := ⟨400, V.parts, false⟩) ⟨⟨hwal, hw.at_, fun q hq => (hT q hq).2, ⟨(show Lim 400 from ⟨by omega, by omega⟩), hone, by show (costM V.parts : Int) ≤ 400; omega⟩⟩, o2, rfl, rfl, h1.oct, u1, u2⟩ hm h2 (by omega) h3 h4 h5 (fun q hq => ⟨(h6 q hq).1, (h6 q hq).2.1, fun e => e⟩)⟩
theorem alone_read (h : AloneI w1 W d g k A c own) (hk : k ≤ 1000) : Calls Tryz.prog 42 #[.pointer (some ⟨d, 0, none⟩), .int .i64 3] W fun e W' => ∃ A1 c1, e = .returned (.tuple #[.slice A1 own.length c1, .int .i64 0]) ∧ Sl W' A1 c1 own ∧ AloneI w1 W' d g (k + 1) A c own := by
  obtain ⟨S, T, V, M, h1, h2, h3, h4, h5, h6⟩ := h
  have hne : M.files 3 ≠ none := by rw [h1.calm.f3]; simp
  have hrd : M.readB 3 = own := h1.calm.read (by decide) h1.calm.f3
  have key := read_any h1.log.disk (k := 3) (by decide) (by omega)
  refine key.mono ?_
  rintro e W2 ⟨v, rfl, hrow, hd, ht⟩
  rw [h1.calm.opC (by decide) hne]
  rw [h1.calm.opM (by decide) hne] at hd
  rw [hrd] at hrow
  obtain ⟨A1, c1, rfl, hlc, hcm⟩ := own_form hrow
  have hz := ht.size
  have hm : Moved S T S T W W2 := ⟨ht.mono (fun q hq => .inl hq), fun q hq => .inl hq, fun q hq => .inl hq⟩
  obtain ⟨u1, u2⟩ := moved_up hm h1.bel h1.up
  refine ⟨A1, c1, rfl, Sl.ofRow hrow rfl, aloneI_moved (V := V) (M' := M.met) ⟨⟨h1.log.wal.other ht h1.log.sep, hd, h1.log.sep, h1.log.ok⟩, h1.calm.met, h1.most, h1.live, h1.oct, u1, u2⟩ hm h2 (by rw [met_ops]; omega) h3 h4 h5 h6⟩
theorem alone_size (h : AloneI w1 W d g k A c own) : Calls Tryz.prog 15 #[.pointer (some ⟨d, 0, none⟩), .int .i64 1] W fun e W' => e = .returned (.int .i64 0) ∧ W = W' := by
  obtain ⟨S, T, V, M, h1, _⟩ := h
  have key := size_any h1.log.disk (k := 1) (by decide)
  have : M.len 1 = 0 := by unfold AD.len; rw [h1.calm.f1]
  rw [this] at key
  exact key
theorem alone_equal (h : AloneI w1 W d g k A c own) {A1 : Option Addr} {c1 : Nat} (hs : Sl W A1 c1 own) : Calls Tryz.prog 17 #[.slice A1 own.length c1, .slice A own.length c] W fun e W' => e = .returned (.bool true) ∧ W = W' := by
  obtain ⟨S, T, V, M, h1, h2, h3, h4, h5, h6⟩ := h
  have key := equalAny A1 A c1 c own own W hs.rd h3.rd h4 h4
  rw [decide_eq_true rfl] at key
  exact key
end

/-! ### the other file is laid -/
theorem lay3_append {w1 W W1 : World} {S T : Nat → Prop} {g d : Nat} (h : Play w1 W S T g d (newW 400) fm1 none) (hb : Below W.heap.size W W1) (A : Option Addr) (m c : Nat) (own : List Int) (hm : own.length = m) (h60 : m ≤ 60) (hs : Sl W1 A c own) :
    Calls Tryz.prog 11 #[.pointer (some ⟨d, 0, none⟩), .int .i64 3, .slice A m c] W1 fun e W2 => e = .returned (.int .i64 0) ∧ After S d W1 (fm1.met.put 3 ⟨own, 0, false⟩) W2 := by
  have hops := fm_ops
  have hc := h.calm
  obtain ⟨a1, a2⟩ := hc.append (k := 3) (by decide) own (by show (((logB 400 (newW 400).parts).length + 0 + own.length : Nat) : Int) ≤ 940; rw [logB_len]; have : costM (newW 400).parts = 12 := rfl; omega)
  have hf : fm1.file 3 = AF.none := by show Option.getD (fm1.files 3) AF.none = _; rw [hc.f3]; rfl
  rw [hf] at a2
  have key := append_any (h.log.disk.later hb) (k := 3) (by decide) (by omega) A m c own hm (by omega) hs.rd
  rw [← hm] at key ⊢
  rw [a1, a2] at key
  exact key
theorem lay3_sync {w1 W W1 W2 : World} {S T : Nat → Prop} {g d : Nat} (h : Play w1 W S T g d (newW 400) fm1 none) (hb : Below W.heap.size W W1) {A : Option Addr} {c : Nat} {own : List Int} (h60 : own.length ≤ 60) (ho : Oct own) (hs : Sl W1 A c own) (hA : ∀ q, blk A = some q → W.heap.size ≤ q ∧ q < W1.heap.size) (ha : After S d W1 (fm1.met.put 3 ⟨own, 0, false⟩) W2) :
    Calls Tryz.prog 12 #[.pointer (some ⟨d, 0, none⟩), .int .i64 3] W2 fun e W3 => e = .returned (.int .i64 0) ∧ AloneI w1 W3 d g 0 A c own := by
  have hops := fm_ops
  obtain ⟨M1, hM1⟩ : ∃ M1, M1 = fm1.met.put 3 ⟨own, 0, false⟩ := ⟨_, rfl⟩
  have hc1 : Calm M1 940 (setF (logB 400 (newW 400).parts)) (some ⟨own, 0, false⟩) := by rw [hM1]; exact h.calm.met.put3 _
  have ho1 : M1.ops = fm1.ops + 1 := by rw [hM1, put_ops, met_ops]
  rw [← hM1] at ha
  have hne : M1.files 3 ≠ none := by rw [hc1.f3]; simp
  have hf : M1.file 3 = ⟨own, 0, false⟩ := by show Option.getD (M1.files 3) AF.none = _; rw [hc1.f3]; rfl
  have key := sync_any ha.1 (k := 3) (by decide) (by omega)
  rw [hc1.opC (by decide) hne, hc1.opM (by decide) hne, hf] at key
  refine key.mono ?_
  rintro e W3 ⟨rfl, ha2⟩
  have hgo := ha.go ha2 (fun i hi => Nat.lt_of_lt_of_le (h.log.disk.low hi) hb.size)
  have hm : Moved S T (grew S W1 W3) T W1 W3 := after_moved hgo
  obtain ⟨u1, u2⟩ := moved_up hm (h.later hb).bel h.up
  have hz := hb.size
  have hcalm : Calm (M1.met.put 3 (AF.settled ⟨own, 0, false⟩)) 940 (setF (logB 400 (newW 400).parts)) (setF own) := hc1.met.put3 _
  refine ⟨rfl, grew S W1 W3, T, newW 400, _, ⟨⟨(h.log.wal.later hb).other hgo.2 h.log.sep, hgo.1, fun q hq e => ?_, h.log.ok⟩, hcalm, rfl, rfl, h.oct, u1, u2⟩, by rw [put_ops, met_ops]; omega, hs.turn hgo.2 (fun q hq e => by have := (hA q hq).1; have := h.log.disk.low e; omega), ho, h60, fun q hq => ?_⟩
  · rcases e with e | e
    · exact h.log.sep q hq e
    · have := h.log.wal.low hq; omega
  · obtain ⟨a1, a2⟩ := hA q hq
    refine ⟨Nat.lt_of_lt_of_le a2 hgo.2.size, fun e => ?_, fun e => by have := h.log.wal.low e; omega⟩
    rcases e with e | e
    · have := h.log.disk.low e; omega
    · omega

/-! ### events that came in -/
structure AE where
  kind : Int
  n : Int
  bs : List Int
  keep : List Bool
structure EvAt (W : World) (o : AE) (B : Option Addr) (cb : Nat) (K : Option Addr) (kc : Nat) : Prop where
  sl : Sl W B cb o.bs
  oct : Oct o.bs
  rk : RdB W W.heap.size K o.keep
  k1 : o.keep.length ≤ kc
  k2 : kc ≤ 9223372036854775807
  wk : I64 o.kind
  wn : I64 o.n
theorem EvAt.later {W W' : World} {o : AE} {B : Option Addr} {cb : Nat} {K : Option Addr} {kc : Nat} (h : EvAt W o B cb K kc) (hb : Below W.heap.size W W') : EvAt W' o B cb K kc := by
  refine ⟨h.sl.below hb, h.oct, fun hp => ?_, h.k1, h.k2, h.wk, h.wn⟩
  obtain ⟨b, o', e, hl, hc⟩ := h.rk.below hb hp
  exact ⟨b, o', e, Nat.lt_of_lt_of_le hl hb.size, hc⟩
/-- A row of events that came in. -/
def EvsAt (W : World) (A : Option Addr) (os : List AE) : Prop :=
  ∀ i o, os[i]? = some o → ∃ b off B cb K kc, A = some ⟨b, off, none⟩ ∧ b < W.heap.size ∧ W.cell? ⟨b, off + i * 4, none⟩ = some (.int .i64 o.kind) ∧ W.cell? ⟨b, off + i * 4 + 1, none⟩ = some (.int .i64 o.n) ∧
    W.cell? ⟨b, off + i * 4 + 2, none⟩ = some (.slice B o.bs.length cb) ∧ W.cell? ⟨b, off + i * 4 + 3, none⟩ = some (.slice K o.keep.length kc) ∧ EvAt W o B cb K kc
theorem EvsAt.later {W W' : World} {A : Option Addr} {os : List AE} (h : EvsAt W A os) (hb : Below W.heap.size W W') : EvsAt W' A os := fun i o hi => by
  obtain ⟨b, off, B, cb, K, kc, h0, h1, h2, h3, h4, h5, h6⟩ := h i o hi
  exact ⟨b, off, B, cb, K, kc, h0, Nat.lt_of_lt_of_le h1 hb.size, (hb.cell (p := ⟨b, _, none⟩) h1).trans h2, (hb.cell (p := ⟨b, _, none⟩) h1).trans h3, (hb.cell (p := ⟨b, _, none⟩) h1).trans h4, (hb.cell (p := ⟨b, _, none⟩) h1).trans h5, h6.later hb⟩
section
variable {H : Type} {enc : TypeId × Value → H} {W : World}
theorem cells_octs {fuel : Nat} {v : Value} {x : DataW H × List MemPlace} (h : DataW.trod enc Tryz.prog W 0 (fun _ => true) true fuel 33 [v] = some x) :
    ∃ A c bs, v = .slice A bs.length c ∧ Sl W A c bs ∧ Oct bs := by
  obtain ⟨A, c, bs, rfl, _⟩ := cells_bytes h
  obtain ⟨bs', e, hs, ho⟩ := open_bytes (a := A) (len := bs.length) (cap := c) (d := x.1) (p := x.2) ⟨fuel, by simpa [Value.cells] using h⟩
  exact ⟨A, c, bs', by rw [e], hs, ho⟩
theorem cells_ev {fuel : Nat} {cs : List Value} {x : DataW H × List MemPlace} (h : DataW.trod enc Tryz.prog W 0 (fun _ => true) true fuel 36 cs = some x) :
    ∃ o A c K kc, cs = [.int .i64 o.kind, .int .i64 o.n, .slice A o.bs.length c, .slice K o.keep.length kc] ∧ EvAt W o A c K kc := by
  have hu := Tryz.underlying36
  have hone := fun i f => hone_of (P := Tryz.prog) (fs := (match Tryz.prog.underlying 36 with | some (.struct fs) => fs | _ => #[])) (by kernel_rfl) i f
  rw [hu] at hone
  obtain ⟨ys, n, _, _, hlen, _, hf⟩ := DataW.trod_struct hu h
  have h5 : Tryz.prog.cellsOf 36 = 4 := by kernel_rfl
  rw [h5] at hlen
  match cs, hlen with
  | [v0, v1, v2, v3], _ =>
    have f0 : DataW.trod enc Tryz.prog W 0 (fun _ => true) true n 3 [v0] = ys[0]? := by have h1 := hf 0 _ rfl; obtain ⟨o1, k1⟩ := hone 0 _ rfl; rw [o1, k1] at h1; exact h1
    have f1 : DataW.trod enc Tryz.prog W 0 (fun _ => true) true n 3 [v1] = ys[1]? := by have h1 := hf 1 _ rfl; obtain ⟨o1, k1⟩ := hone 1 _ rfl; rw [o1, k1] at h1; exact h1
    have f2 : DataW.trod enc Tryz.prog W 0 (fun _ => true) true n 33 [v2] = ys[2]? := by have h1 := hf 2 _ rfl; obtain ⟨o1, k1⟩ := hone 2 _ rfl; rw [o1, k1] at h1; exact h1
    have f3 : DataW.trod enc Tryz.prog W 0 (fun _ => true) true n 34 [v3] = ys[3]? := by have h1 := hf 3 _ rfl; obtain ⟨o1, k1⟩ := hone 3 _ rfl; rw [o1, k1] at h1; exact h1
    have g : ∀ (i : Nat) (hi : i < 4), ∃ y, ys[i]? = some y := fun i hi => by
      have hl := ‹ys.length = _›
      exact ⟨_, List.getElem?_eq_getElem (by rw [hl]; exact hi)⟩
    obtain ⟨y0, e0⟩ := g 0 (by omega)
    obtain ⟨y1, e1⟩ := g 1 (by omega)
    obtain ⟨y2, e2⟩ := g 2 (by omega)
    obtain ⟨y3, e3⟩ := g 3 (by omega)
    rw [e0] at f0
    rw [e1] at f1
    rw [e2] at f2
    rw [e3] at f3
    obtain ⟨kd, hk, _, wk⟩ := DataW.trod_int Tryz.underlying3 f0
    obtain ⟨nn, hnn, _, wn⟩ := DataW.trod_int Tryz.underlying3 f1
    obtain ⟨A, c, bs, hb, hr, ho⟩ := cells_octs f2
    obtain ⟨K, kc, keep, hkp, hrk, hk1, hk2⟩ := cells_bools f3
    simp only [List.cons.injEq, and_true] at hk hnn
    subst hk; subst hnn; subst hb; subst hkp
    exact ⟨⟨kd, nn, bs, keep⟩, A, c, K, kc, rfl, ⟨hr, ho, hrk, hk1, hk2, wk, wn⟩⟩
theorem addr0 (x : Addr) : x.add 0 = x := by
  obtain ⟨b, o, s⟩ := x
  cases s <;> simp [Addr.add]
theorem open_evs {A : Option Addr} {len c : Nat} {d : DataW H} {p : List MemPlace} (h : DataW.Trod enc Tryz.prog W 0 (fun _ => true) true 22 (.slice A len c) d p) :
    ∃ os : List AE, os.length = len ∧ EvsAt W A os ∧ len ≤ 9223372036854775807 := by
  obtain ⟨fuel, hf⟩ := h
  have h5 : Tryz.prog.cellsOf 36 = 4 := by kernel_rfl
  rcases open_slice Tryz.underlying22 hf with ⟨hcs, _⟩ | ⟨a, l, cap, m, nn, D, Pl, hcs, _, hl, hm, hmm, _, hi⟩
  · simp [Value.cells] at hcs
    obtain ⟨rfl, rfl, rfl⟩ := hcs
    exact ⟨[], rfl, fun i o hi => by simp at hi, by omega⟩
  · simp [Value.cells] at hcs
    obtain ⟨rfl, rfl, rfl⟩ := hcs
    have hmc : m = c := by simpa using hmm
    subst hmc
    rw [h5] at hi
    have each : ∀ i, i < len → ∃ (o : AE) (B : Option Addr) (cb : Nat) (K : Option Addr) (kc : Nat), W.cell? (a.add (i * 4)) = some (.int .i64 o.kind) ∧ W.cell? ((a.add (i * 4)).add 1) = some (.int .i64 o.n) ∧
        W.cell? ((a.add (i * 4)).add 2) = some (.slice B o.bs.length cb) ∧ W.cell? ((a.add (i * 4)).add 3) = some (.slice K o.keep.length kc) ∧ EvAt W o B cb K kc := fun i him => by
      obtain ⟨cs', hc, ht⟩ := hi i (by omega)
      obtain ⟨o, B, cb, K, kc, hcs', ho⟩ := cells_ev ht
      obtain ⟨_, _, hat⟩ := World.cells?_some hc
      subst hcs'
      refine ⟨o, B, cb, K, kc, ?_, ?_, ?_, ?_, ho⟩
      · have := hat 0 (by omega); rw [addr0] at this; simpa using this
      · simpa using hat 1 (by omega)
      · simpa using hat 2 (by omega)
      · simpa using hat 3 (by omega)
    obtain ⟨f, hf2⟩ : ∃ f : Nat → AE, ∀ i, i < len → ∃ (B : Option Addr) (cb : Nat) (K : Option Addr) (kc : Nat), W.cell? (a.add (i * 4)) = some (.int .i64 (f i).kind) ∧ W.cell? ((a.add (i * 4)).add 1) = some (.int .i64 (f i).n) ∧
        W.cell? ((a.add (i * 4)).add 2) = some (.slice B (f i).bs.length cb) ∧ W.cell? ((a.add (i * 4)).add 3) = some (.slice K (f i).keep.length kc) ∧ EvAt W (f i) B cb K kc := by
      refine ⟨fun i => if h : i < len then Classical.choose (each i h) else ⟨0, 0, [], []⟩, fun i h => ?_⟩
      simp only [h, dif_pos]
      exact Classical.choose_spec (each i h)
    refine ⟨(List.range len).map f, by simp, fun i o hi' => ?_, by unfold maxLen at hm; omega⟩
    have hil : i < len := by have := (List.getElem?_eq_some_iff.1 hi').1; simpa using this
    simp [hil] at hi'
    subst hi'
    obtain ⟨b, off, spot⟩ := a
    obtain ⟨_, _, _, _, hc0, _⟩ := hf2 0 (by omega)
    have hspot : spot = none := by simpa [Addr.add] using World.cell?_spot hc0
    subst hspot
    obtain ⟨B, cb, K, kc, h0, h1, h2, h3, ho⟩ := hf2 i hil
    simp only [Addr.add_lit] at h0 h1 h2 h3
    exact ⟨b, off, B, cb, K, kc, rfl, World.block_lt_of_cell? W _ h0, h0, h1, h2, h3, ho⟩
end

end Go.Proofs.YtienabfilnpieaaGreat
