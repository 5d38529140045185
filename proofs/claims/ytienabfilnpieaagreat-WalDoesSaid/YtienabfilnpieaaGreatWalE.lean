/-
  The frames of a file, one behind the other: the iterator.
  The iterator over frames, walked.
  append onto a row of the call's own, with a word on all cells of the row, its spare ones too. No program is named here.
-/
import Derived.Test.YtienabfilnpieaaGreatWalD
import Derived.Test.YtienabfilnpieaaGreatDiskPieces
import Derived.Maps.OwnIn
namespace Go.Proofs.YtienabfilnpieaaGreat
open Go.RowKit Go.Shelf
set_option linter.unusedVariables false
set_option linter.unusedSimpArgs false
set_option maxRecDepth 100000
attribute [local go_sem] Oper.semAt_some

/-- What a scan tells of a number, and how it stands behind it. -/
def numS (m : Nat) (s : List Int × Bool) : Int × List Int × Bool := if s.2 = true ∨ s.1.length < m then (0, s.1, true) else (val (s.1.take m), s.1.drop m, false)
def bytesS (n : Int) (s : List Int × Bool) : List Int × List Int × Bool := if s.2 = true ∨ n < 0 ∨ (s.1.length : Int) < n then ([], s.1, true) else (s.1.take n.toNat, s.1.drop n.toNat, false)
def Sst (w : World) (g : Nat) (s : List Int × Bool) : Prop := ∃ A c pl, Sc w g A c s.1 pl s.2
theorem num_gen (w : World) (g m : Nat) (s : List Int × Bool) (h : Sst w g s) (h1 : 1 ≤ m) (h8 : m ≤ 8) :
    Calls Tryz.prog 135 #[.pointer (some ⟨g, 0, none⟩), .int .i64 m] w fun e w' => e = .returned (.int .u64 (numS m s).1) ∧ Sst w' g (numS m s).2 ∧ Only g w w' := by
  obtain ⟨bs, bd⟩ := s
  obtain ⟨A, c, pl, h⟩ := h
  dsimp only at h
  cases bd with
  | true =>
    have e : numS m (bs, true) = (0, bs, true) := by unfold numS; simp
    rw [e]
    exact (num_bad w g A c bs pl m h).mono fun e w' ⟨h1, h2, h3⟩ => ⟨h1, ⟨_, _, _, h2⟩, h3⟩
  | false =>
    by_cases hl : bs.length < m
    · have e : numS m (bs, false) = (0, bs, true) := by unfold numS; simp [hl]
      rw [e]
      exact (num_no w g A c bs pl m h (.inr (by omega))).mono fun e w' ⟨h1, h2, h3⟩ => ⟨h1, ⟨_, _, _, h2⟩, h3⟩
    · have e : numS m (bs, false) = (val (bs.take m), bs.drop m, false) := by unfold numS; simp [hl]
      rw [e]
      exact (num_yes w g A c bs pl m h h1 h8 (by omega)).mono fun e w' ⟨h1, ⟨A', c', h2⟩, h3⟩ => ⟨h1, ⟨_, _, _, h2⟩, h3⟩
theorem bytes_gen (w : World) (g : Nat) (n : Int) (s : List Int × Bool) (h : Sst w g s) :
    Calls Tryz.prog 134 #[.pointer (some ⟨g, 0, none⟩), .int .i64 n] w fun e w' => ∃ A' c', e = .returned (.slice A' (bytesS n s).1.length c') ∧ New w.heap.size w' A' c' (bytesS n s).1 ∧ Oct (bytesS n s).1 ∧ Sst w' g (bytesS n s).2 ∧ Only g w w' := by
  obtain ⟨bs, bd⟩ := s
  obtain ⟨A, c, pl, h⟩ := h
  dsimp only at h
  cases bd with
  | true =>
    have e : bytesS n (bs, true) = ([], bs, true) := by unfold bytesS; simp
    rw [e]
    exact (bytes_bad w g A c bs pl n h).mono fun e w' ⟨h1, h2, h3⟩ => ⟨none, 0, h1, World.ownsRow_nil _ _ _ _, by intro b hb; simp at hb, ⟨_, _, _, h2⟩, h3⟩
  | false =>
    by_cases hl : n < 0 ∨ (bs.length : Int) < n
    · have e : bytesS n (bs, false) = ([], bs, true) := by unfold bytesS; simp [hl]
      rw [e]
      exact (bytes_no w g A c bs pl n h hl).mono fun e w' ⟨h1, h2, h3⟩ => ⟨none, 0, h1, World.ownsRow_nil _ _ _ _, by intro b hb; simp at hb, ⟨_, _, _, h2⟩, h3⟩
    · have e : bytesS n (bs, false) = (bs.take n.toNat, bs.drop n.toNat, false) := by unfold bytesS; simp [hl]
      rw [e]
      obtain ⟨m, rfl⟩ : ∃ m : Nat, n = m := ⟨n.toNat, by omega⟩
      have hm : m ≤ bs.length := by omega
      have hlen : (bs.take m).length = m := by simp; omega
      refine (bytes_yes w g A c bs pl m h hm).mono fun e w' ⟨A', c', h1, h2, ⟨A'', c'', h3⟩, h4⟩ => ⟨A', c', ?_, h2, h.oct.take m, ⟨_, _, _, h3⟩, h4⟩
      show e = .returned (.slice A' (bs.take m).length c')
      rw [hlen]
      exact h1
theorem numS_u (m : Nat) (s : List Int × Bool) (ho : Oct s.1) (h7 : m ≤ 7) : 0 ≤ (numS m s).1 ∧ (numS m s).1 < 72057594037927936 := by
  unfold numS
  split
  · simp
  · exact ⟨val_nonneg (ho.take m), val_seven (ho.take m) (by simp; omega)⟩

/-- The frame that stands at the beginning of r, with that number: its part, and what is behind it. -/
def stepM (k : Int) (r : List Int) : Option (List Int × List Int) :=
  let r1 := numS 4 (r, false)
  let r2 := numS 8 r1.2
  let r3 := bytesS r1.1 r2.2
  if r3.2.2 = true ∨ r2.1 ≠ markM k r3.1 then none else some (r3.1, r3.2.1)
theorem bytesS_len {n : Int} {s : List Int × Bool} (h : (bytesS n s).2.2 = false) : (bytesS n s).1.length + (bytesS n s).2.1.length = s.1.length ∧ s.2 = false := by
  unfold bytesS at h ⊢
  split
  · rename_i hc
    simp [hc] at h
  · rename_i hc
    refine ⟨by simp; omega, ?_⟩
    cases hb : s.2 with
    | true => exact (hc (.inl hb)).elim
    | false => rfl
theorem numS_len {m : Nat} {s : List Int × Bool} (h : (numS m s).2.2 = false) : m + (numS m s).2.1.length = s.1.length ∧ s.2 = false := by
  unfold numS at h ⊢
  split
  · rename_i hc
    simp [hc] at h
  · rename_i hc
    refine ⟨by simp; omega, ?_⟩
    cases hb : s.2 with
    | true => exact (hc (.inl hb)).elim
    | false => rfl
theorem stepM_len {k : Int} {r p r' : List Int} (h : stepM k r = some (p, r')) : p.length + r'.length + 12 = r.length := by
  unfold stepM at h
  dsimp only at h
  split at h
  · cases h
  · rename_i hc
    have h3 := bytesS_len (n := (numS 4 (r, false)).1) (s := (numS 8 (numS 4 (r, false)).2).2) (by
      cases hb : (bytesS (numS 4 (r, false)).1 (numS 8 (numS 4 (r, false)).2).2).2.2 with
      | true => exact (hc (.inl hb)).elim
      | false => rfl)
    have h2 := numS_len h3.2
    have h1 := numS_len h2.2
    injection h with h
    injection h with e1 e2
    rw [← e1, ← e2]
    have := h3.1
    have := h2.1
    have := h1.1
    dsimp only at *
    omega

abbrev Xp := Option Addr × Nat × List Int
def Xp.enc (x : Xp) : Array Value := #[.slice x.1 x.2.2.length x.2.1]
inductive Run (bs : List Int) : List Xp → List Int → Prop
  | nil : Run bs [] bs
  | snoc {xs : List Xp} {r r' : List Int} (x : Xp) : Run bs xs r → stepM xs.length r = some (x.2.2, r') → Run bs (xs ++ [x]) r'
theorem Run.len {bs : List Int} {xs : List Xp} {r : List Int} (h : Run bs xs r) : 12 * xs.length + r.length ≤ bs.length := by
  induction h with
  | nil => simp
  | snoc x _ hs ih => have := stepM_len hs; simp; omega
/-- The iterator's own block: the scan's. -/
def OwnScan (W : World) (k : Nat) : Prop := ∃ cs st, W.heap[k]? = some (.cells cs 140 st)
def FactX (B : Nat) (x : Xp) (W : World) : Prop := New B W x.1 x.2.1 x.2.2 ∧ Oct x.2.2
structure KpX (B : Nat) (W W' : World) : Prop where
  size : W.heap.size ≤ W'.heap.size
  bytes : ∀ p z, W.cell? p = some (.int .u8 z) → W'.cell? p = some (.int .u8 z)
  scan : ∀ k cs st, B ≤ k → W.heap[k]? = some (.cells cs 140 st) → W'.heap[k]? = W.heap[k]?
theorem KpX.sst {B : Nat} {W W' : World} (h : KpX B W W') {g : Nat} (hg : B ≤ g) {s : List Int × Bool} (hs : Sst W g s) : Sst W' g s := by
  obtain ⟨A, c, pl, hs⟩ := hs
  refine ⟨A, c, pl, (h.scan g _ _ hg hs.blk).trans hs.blk, ⟨hs.sl.room, hs.sl.most, fun hp => ?_⟩, hs.oct, hs.lo, hs.hi⟩
  obtain ⟨b, o, e, hb, hc⟩ := hs.sl.rd hp
  exact ⟨b, o, e, Nat.lt_of_lt_of_le hb h.size, fun j hj => h.bytes _ _ (hc j hj)⟩

theorem frames_any (w : World) (A : Option Addr) (l c : Nat) : Calls Tryz.prog 122 #[.slice A l c] w fun e w' => e = .returned (.func (.func 137) #[] #[.pointer (some ⟨w.heap.size, 0, none⟩)]) ∧ w' = w.alloc (.cells #[.slice A l c] 33) := by
  go_enter Tryz.func122, Tryz.ntmps122
  go_wp2
  go_ret
  exact ⟨rfl, rfl⟩

end Go.Proofs.YtienabfilnpieaaGreat

namespace Go.Proofs.YtienabfilnpieaaGreat
open Go.RowKit Go.Shelf
set_option linter.unusedVariables false
set_option linter.unusedSimpArgs false
set_option maxRecDepth 100000
attribute [local go_sem] Oper.semAt_some

theorem turn_only {g B : Nat} {w w' : World} (h : Only g w w') (hB : B ≤ g) (ho : OwnScan w g) : Turn (fun k => B ≤ k ∧ OwnScan w k) w w' :=
  ⟨h.os, h.tape, h.output, h.size, fun k hk hn => h.block k hk (fun e => by
    injection e with e
    subst e
    exact hn ⟨hB, ho⟩)⟩
theorem Sst.own {w : World} {g : Nat} {s : List Int × Bool} (h : Sst w g s) : OwnScan w g := by obtain ⟨A, c, pl, h⟩ := h; exact ⟨_, _, h.blk⟩
theorem Sst.bad {w : World} {g : Nat} {s : List Int × Bool} (h : Sst w g s) : w.cell? ⟨g, 2, none⟩ = some (.bool s.2) := by obtain ⟨A, c, pl, h⟩ := h; exact h.c2
theorem Sst.below {w w' : World} {g : Nat} {s : List Int × Bool} (h : Sst w g s) (hb : Below w.heap.size w w') : Sst w' g s := by obtain ⟨A, c, pl, h⟩ := h; exact ⟨_, _, _, h.below hb⟩
theorem Sst.far {w : World} {g : Nat} {s : List Int × Bool} (h : Sst w g s) : g < w.heap.size := by obtain ⟨A, c, pl, h⟩ := h; exact h.lt

set_option maxHeartbeats 2000000 in
theorem frames1_in {w : World} {A : Option Addr} {c : Nat} {bs : List Int} (n bx : Nat) (hn : 1 ≤ n) (hbx : w.cell? ⟨bx, 0, none⟩ = some (.slice A bs.length c)) (hs : Sl w A c bs) (ho : Oct bs) (hbig : bs.length ≤ 1000000) :
    SeqOwn Fence.wide n Tryz.prog 137 #[.pointer (some ⟨bx, 0, none⟩)] Xp.enc OwnScan FactX KpX (fun xs x => ∃ r r', Run bs xs r ∧ stepM xs.length r = some (x.2.2, r')) (fun xs => ∃ r, Run bs xs r ∧ stepM xs.length r = none) (fun pre => ∃ r, Run bs pre r) w := by
  intro l J Jx W hW hJ hJx hY h0
  have hcb : W.cell? ⟨bx, 0, none⟩ = some (.slice A bs.length c) := (hW.cell (p := ⟨bx, 0, none⟩) (World.block_lt_of_cell? w _ hbx)).trans hbx
  have HR0 := Lib.hid (read_n A c bs W (hs.below hW) ho (by omega))
  have HJ := Lib.hid hJ
  have HY := Lib.hid hY
  have H0 := Lib.hid h0
  have HBIG := Lib.hid hbig
  generalize hm : bs.length = m at *
  have HM := Lib.hid hm
  clear hbx hs ho hW hJ hJx hY h0 hm
  refine callsIn_of_wp Tryz.func137 rfl trivial ?_ rfl
  simp only [Tryz.ntmps137, List.size_toArray, List.length_cons, List.length_nil, Nat.reduceAdd, Nat.reduceSub, Array.replicate_succ, Array.replicate_zero, List.push_toArray, List.append_toArray, List.nil_append, List.cons_append]
  gi_wp2_with (refine ⟨trivial, ?_⟩; gi_at_call 133; refine (callsIn_wide.2 HR0.out).mono ?_; rintro e W1 ⟨g, A1, c1, rfl, hs1, hg, hb1, _⟩; have HS1 := Lib.hid hs1; have HG := Lib.hid hg; have HB1 := Lib.hid hb1; clear hs1 hg hb1)
  gi_loopw [4] (fun i wr => ∃ k : Nat, i = .int .i64 k ∧ 12 * k ≤ m ∧ Hid (∃ xs r, xs.length = k ∧ J xs wr ∧ Run bs xs r ∧ Sst wr g (r, false) ∧ W.heap.size ≤ wr.heap.size ∧ Oct r ∧ r.length ≤ m)) (fun i _ => m + 12 - 12 * (match i with | .int _ k => k.toNat | _ => 0))
  case atStart => exact ⟨0, rfl, by omega, Lib.hid ⟨[], bs, rfl, HJ.out [] W W1 H0.out (Turn.of_below HB1.out), .nil, ⟨_, _, _, HS1.out⟩, HB1.out.size, HS1.out.oct, Nat.le_of_eq HM.out⟩⟩
  case round =>
    obtain ⟨k, rfl, hk, HH⟩ := hrel
    have hex : ∃ xs r, Hid (xs.length = k ∧ J xs wr ∧ Run bs xs r ∧ Sst wr g (r, false) ∧ W.heap.size ≤ wr.heap.size ∧ Oct r ∧ r.length ≤ m) := by obtain ⟨xs, r, h⟩ := HH.out; exact ⟨xs, r, Lib.hid h⟩
    obtain ⟨xs, r, HX⟩ := hex
    clear HH
    obtain ⟨x1, hx1⟩ : ∃ x1, x1 = (numS 4 (r, false)).1 := ⟨_, rfl⟩
    obtain ⟨s1, hs1⟩ : ∃ s1, s1 = (numS 4 (r, false)).2 := ⟨_, rfl⟩
    obtain ⟨x2, hx2⟩ : ∃ x2, x2 = (numS 8 s1).1 := ⟨_, rfl⟩
    obtain ⟨s2, hs2⟩ : ∃ s2, s2 = (numS 8 s1).2 := ⟨_, rfl⟩
    obtain ⟨p, hp⟩ : ∃ p, p = (bytesS x1 s2).1 := ⟨_, rfl⟩
    obtain ⟨s3, hs3⟩ : ∃ s3, s3 = (bytesS x1 s2).2 := ⟨_, rfl⟩
    have hstep : stepM k r = if s3.2 = true ∨ x2 ≠ markM k p then none else some (p, s3.1) := by rw [hp, hs3, hx2, hs2, hx1, hs1]; rfl
    have hb1 : 0 ≤ x1 ∧ x1 < 72057594037927936 := by rw [hx1]; exact numS_u 4 (r, false) HX.out.2.2.2.2.2.1 (by omega)
    have hw1 : IntKind.i64.wrap x1 = x1 := i64_fit (by omega)
    have HC1 := Lib.hid (num_gen wr g 4 (r, false) HX.out.2.2.2.1 (by omega) (by omega))
    rw [← hx1, ← hs1] at HC1
    have HC2 := Lib.hid (fun (V : World) (h : Sst V g s1) => num_gen V g 8 s1 h (by omega) (by omega))
    rw [← hx2, ← hs2] at HC2
    have HC3 := Lib.hid (fun (V : World) (h : Sst V g s2) => bytes_gen V g x1 s2 h)
    rw [← hp, ← hs3] at HC3
    have HC4 := Lib.hid (fun (V : World) (h : Sst V g s3) => bad_any V g s3.2 h.bad)
    have hpl : p.length ≤ 1000000 := by
      have hr := HX.out.2.2.2.2.2.2
      have := HBIG.out
      rw [hp]; unfold bytesS; rw [hs2]; unfold numS; rw [hs1]; unfold numS
      dsimp only
      repeat' split
      all_goals simp
      all_goals omega
    have HC5 := Lib.hid (fun (V : World) A' c' (h : Sl V A' c' p) (ho : Oct p) => markOf_any k (by omega) A' c' p V h ho (by omega))
    have HST := Lib.hid hstep
    have HPL := Lib.hid hpl
    clear hx1 hs1 hx2 hs2 hp hs3 hstep hb1 hpl
    obtain ⟨q, hq⟩ : ∃ q, q = p.length := ⟨_, rfl⟩
    have HQ := Lib.hid hq
    rw [← hq] at HC3 HC5
    clear hq
    obtain ⟨r3, b3⟩ := s3
    dsimp only at HC4 HST
    cases b3 with
    | true =>
      have hnone := Lib.hid (show stepM k r = none by rw [HST.out]; simp)
      gi_wp2_with (refine ⟨trivial, ?_⟩; first
        | (gi_at_call 134; refine (callsIn_wide.2 (HC3.out _ HS3.out)).mono ?_; rintro e w4 ⟨A', c', rfl, hn4, ho4, hs4, hon4⟩; have HN4 := Lib.hid hn4; have HO4 := Lib.hid ho4; have HS4 := Lib.hid hs4; have HJ4 := Lib.hid (HJ.out xs _ _ HJ3.out (turn_only hon4 HG.out HS3.out.own)); have HZ4 := Lib.hid (Nat.le_trans HZ3.out hon4.size); have HZ34 := Lib.hid HZ3.out; clear hn4 ho4 hs4 hon4)
        | (gi_at_call 138; refine (callsIn_wide.2 (HC4.out _ HS4.out)).mono ?_; rintro e w4b ⟨rfl, rfl⟩)
        | (gi_at_call 135; refine (callsIn_wide.2 (HC2.out _ HS2.out)).mono ?_; rintro e w3 ⟨rfl, hs3, hon3⟩; have HS3 := Lib.hid hs3; have HJ3 := Lib.hid (HJ.out xs _ _ HJ2.out (turn_only hon3 HG.out HS2.out.own)); have HZ3 := Lib.hid (Nat.le_trans HZ2.out hon3.size); clear hs3 hon3)
        | (gi_at_call 135; refine (callsIn_wide.2 HC1.out).mono ?_; rintro e w2 ⟨rfl, hs2, hon2⟩; have HS2 := Lib.hid hs2; have HJ2 := Lib.hid (HJ.out xs _ _ HX.out.2.1 (turn_only hon2 HG.out HX.out.2.2.2.1.own)); have HZ2 := Lib.hid (Nat.le_trans HX.out.2.2.2.2.1 hon2.size); clear hs2 hon2)
        | skip)
      refine ⟨fun f h => (by cases h), ?_⟩
      gi_wp2
      refine bodyPost_ret (results_none rfl _ _ _) rfl ?_
      exact ⟨⟨_, rfl⟩, .inl ⟨xs, ⟨r, HX.out.2.2.1, by rw [HX.out.1]; exact hnone.out⟩, HJ4.out⟩⟩
    | false =>
      by_cases hmk : x2 = markM k p
      · have hsome := Lib.hid (show stepM k r = some (p, r3) by rw [HST.out]; simp [hmk])
        have hMK := Lib.hid hmk
        rw [← hmk] at HC5
        clear hmk
        gi_wp2_with (refine ⟨trivial, ?_⟩; first
          | (gi_at_call 134; refine (callsIn_wide.2 (HC3.out _ HS3.out)).mono ?_; rintro e w4 ⟨A', c', rfl, hn4, ho4, hs4, hon4⟩; have HN4 := Lib.hid hn4; have HO4 := Lib.hid ho4; have HS4 := Lib.hid hs4; have HJ4 := Lib.hid (HJ.out xs _ _ HJ3.out (turn_only hon4 HG.out HS3.out.own)); have HZ4 := Lib.hid (Nat.le_trans HZ3.out hon4.size); have HZ34 := Lib.hid HZ3.out; clear hn4 ho4 hs4 hon4)
          | (gi_at_call 138; refine (callsIn_wide.2 (HC4.out _ HS4.out)).mono ?_; rintro e w4b ⟨rfl, rfl⟩)
          | (gi_at_call 103; refine (callsIn_wide.2 (HC5.out _ _ _ HN4.out.sl HO4.out)).mono ?_; rintro e w5 ⟨rfl, hb5⟩; have HS5 := Lib.hid (HS4.out.below hb5); have HJ5 := Lib.hid (HJ.out xs _ _ HJ4.out (Turn.of_below hb5)); have HZ5 := Lib.hid (Nat.le_trans HZ4.out hb5.size); have HF5 := Lib.hid (show FactX W.heap.size (A', c', p) w5 from ⟨row_later (HN4.out.low HZ34.out) hb5, HO4.out⟩); obtain ⟨fn, tmps, assign, body, hy, hRD⟩ := HY.out xs (A', c', p) w5 HJ5.out HZ5.out HF5.out ⟨r, r3, HX.out.2.2.1, by rw [HX.out.1]; exact hsome.out⟩; unfold Xp.enc at hy; dsimp only at hy; rw [← HQ.out] at hy; have HRD := Lib.hid hRD; clear hRD; clear hb5)
          | (gi_at_call 135; refine (callsIn_wide.2 (HC2.out _ HS2.out)).mono ?_; rintro e w3 ⟨rfl, hs3, hon3⟩; have HS3 := Lib.hid hs3; have HJ3 := Lib.hid (HJ.out xs _ _ HJ2.out (turn_only hon3 HG.out HS2.out.own)); have HZ3 := Lib.hid (Nat.le_trans HZ2.out hon3.size); clear hs3 hon3)
          | (gi_at_call 135; refine (callsIn_wide.2 HC1.out).mono ?_; rintro e w2 ⟨rfl, hs2, hon2⟩; have HS2 := Lib.hid hs2; have HJ2 := Lib.hid (HJ.out xs _ _ HX.out.2.1 (turn_only hon2 HG.out HX.out.2.2.2.1.own)); have HZ2 := Lib.hid (Nat.le_trans HX.out.2.2.2.2.1 hon2.size); clear hs2 hon2))
        refine HRD.out.mono ?_
        rintro e W6 (⟨rfl, hJ6, hk6⟩ | ⟨rfl, hJx6⟩)
        · have hr3 : Run bs (xs ++ [((A', c', p) : Xp)]) r3 := .snoc (x := (A', c', p)) HX.out.2.2.1 (by rw [HX.out.1]; exact hsome.out)
          have hln := hr3.len
          have hls := stepM_len hsome.out
          have HN := Lib.hid (show ∃ xs r, xs.length = k + 1 ∧ J xs W6 ∧ Run bs xs r ∧ Sst W6 g (r, false) ∧ W.heap.size ≤ W6.heap.size ∧ Oct r ∧ r.length ≤ m from ⟨_, r3, by simp [HX.out.1], hJ6, hr3, hk6.sst HG.out HS5.out, Nat.le_trans HZ5.out hk6.size, by obtain ⟨_, _, _, h⟩ := HS5.out; exact h.oct, by have := HX.out.2.2.2.2.2.2; omega⟩)
          have hk2 : 12 * (k + 1) ≤ m := by
            have := HM.out
            have := HX.out.1
            simp at hln
            omega
          clear hJ6 hk6 hr3 hln hls
          have hkk : IntKind.i64.wrap ((k : Int) + 1) = ((k + 1 : Nat) : Int) := by rw [i64_fit (by omega)]; simp
          gi_wp2
          go_roundw
          case rel => exact ⟨k + 1, by first | rfl | simp, hk2, HN⟩
          case measure => simp; omega
        · have HXX := Lib.hid hJx6
          clear hJx6
          gi_wp2
          refine bodyPost_ret (results_none rfl _ _ _) rfl ?_
          exact ⟨⟨_, rfl⟩, .inr ⟨_, ⟨r3, .snoc (x := (A', c', p)) HX.out.2.2.1 (by rw [HX.out.1]; exact hsome.out)⟩, HXX.out⟩⟩
      · have hnone := Lib.hid (show stepM k r = none by rw [HST.out]; simp [hmk])
        obtain ⟨mk, hmm⟩ : ∃ mk, mk = markM k p := ⟨_, rfl⟩
        rw [← hmm] at HC5 hmk
        have t1 : (x2 == mk) = false := by simpa using hmk
        have t2 : decide (x2 = mk) = false := by simpa using hmk
        clear hmm
        gi_wp2_with (refine ⟨trivial, ?_⟩; first
          | (gi_at_call 134; refine (callsIn_wide.2 (HC3.out _ HS3.out)).mono ?_; rintro e w4 ⟨A', c', rfl, hn4, ho4, hs4, hon4⟩; have HN4 := Lib.hid hn4; have HO4 := Lib.hid ho4; have HS4 := Lib.hid hs4; have HJ4 := Lib.hid (HJ.out xs _ _ HJ3.out (turn_only hon4 HG.out HS3.out.own)); have HZ4 := Lib.hid (Nat.le_trans HZ3.out hon4.size); have HZ34 := Lib.hid HZ3.out; clear hn4 ho4 hs4 hon4)
          | (gi_at_call 138; refine (callsIn_wide.2 (HC4.out _ HS4.out)).mono ?_; rintro e w4b ⟨rfl, rfl⟩)
          | (gi_at_call 103; refine (callsIn_wide.2 (HC5.out _ _ _ HN4.out.sl HO4.out)).mono ?_; rintro e w5 ⟨rfl, hb5⟩; have HS5 := Lib.hid (HS4.out.below hb5); have HJ5 := Lib.hid (HJ.out xs _ _ HJ4.out (Turn.of_below hb5)); have HZ5 := Lib.hid (Nat.le_trans HZ4.out hb5.size); clear hb5)
          | (gi_at_call 135; refine (callsIn_wide.2 (HC2.out _ HS2.out)).mono ?_; rintro e w3 ⟨rfl, hs3, hon3⟩; have HS3 := Lib.hid hs3; have HJ3 := Lib.hid (HJ.out xs _ _ HJ2.out (turn_only hon3 HG.out HS2.out.own)); have HZ3 := Lib.hid (Nat.le_trans HZ2.out hon3.size); clear hs3 hon3)
          | (gi_at_call 135; refine (callsIn_wide.2 HC1.out).mono ?_; rintro e w2 ⟨rfl, hs2, hon2⟩; have HS2 := Lib.hid hs2; have HJ2 := Lib.hid (HJ.out xs _ _ HX.out.2.1 (turn_only hon2 HG.out HX.out.2.2.2.1.own)); have HZ2 := Lib.hid (Nat.le_trans HX.out.2.2.2.2.1 hon2.size); clear hs2 hon2)
          | skip)
        refine ⟨fun f h => (by cases h), ?_⟩
        gi_wp2
        refine bodyPost_ret (results_none rfl _ _ _) rfl ?_
        exact ⟨⟨_, rfl⟩, .inl ⟨xs, ⟨r, HX.out.2.2.1, by rw [HX.out.1]; exact hnone.out⟩, HJ5.out⟩⟩

end Go.Proofs.YtienabfilnpieaaGreat

namespace Go.Proofs.YtienabfilnpieaaGreat
open Go.RowKit
set_option linter.unusedVariables false
set_option linter.unusedSimpArgs false

/-- No byte. -/
def NoByte (v : Value) : Prop := ∀ z, v ≠ .int .u8 z

section
variable {P : Program} (w : World)
/-- All cells of the block to which a slice leads are so. -/
def AllC (Pv : Value → Prop) (w : World) (v : Value) : Prop := ∀ g, v.ownBlock = some g → ∀ o u, w.cell? ⟨g, o, none⟩ = some u → Pv u

theorem AllC.same {Pv : Value → Prop} {w w' : World} {v : Value} (h : AllC Pv w v) (hb : ∀ g, v.ownBlock = some g → w'.heap[g]? = w.heap[g]?) : AllC Pv w' v := fun g hg o u hu => by
  refine h g hg o u ?_
  rw [← World.cell?_of_block (a := ⟨g, o, none⟩) (hb g hg)]
  exact hu
theorem zeros_all {z : Value} (hz : z.cells = #[z]) (n : Nat) {o : Nat} {u : Value} (h : (Builtin.zeroCells z.cells n)[o]? = some u) : u = z := by
  rw [hz] at h
  unfold Builtin.zeroCells at h
  obtain ⟨_, h⟩ := Array.getElem?_eq_some_iff.1 h
  simp at h
  rw [← h]
  have : o % 1 = 0 := by omega
  simp [this]

theorem run_append_all (base : Nat) (t ty e : TypeId) (i : TypeInfo) (z : Value) (bytes : Nat) (ht : P.underlying t = some (.slice e)) (hi : P.info? e = some i) (hz : i.zero = some z)
    (hsize : i.size = 1) (hby : i.bytes = bytes) (hzc : z.cells = #[z])
    (v : Value) (n : Nat) (xs : List Value) (hown : w.ownsRow base e 1 v n xs)
    (a : Addr) (m c : Nat) (news : List Value) (hl : news.length = m) (hnews : ∀ j u, news[j]? = some u → w.cell? (a.add j) = some u) (h1 : ∀ u ∈ news, u.oneCell' = true)
    (h63 : n + m ≤ maxLen) (hbytes : (n + m) * bytes ≤ 140737488355328) (hbase : base ≤ w.heap.size)
    (Pv : Value → Prop) (hP : AllC Pv w v) (hPn : ∀ u ∈ news, Pv u) (hPz : Pv z) :
    ∃ v' w', (Builtin.append_ #[t, t] ty #[v, .slice (some a) m c]).run P w = .ok v' w' ∧ w'.ownsRow base e 1 v' (n + m) (xs ++ news) ∧ w.grownBy w' v.ownBlock ∧
      (v'.ownBlock = v.ownBlock ∨ v'.ownBlock = some w.heap.size) ∧ AllC Pv w' v' := by
  subst hby
  have hlm : news.length = m * i.size := by rw [hsize, hl]; omega
  have hxl : xs.length = n := by have := hown.1; omega
  have hsmall : n + m ≤ 9223372036854775807 := by simp only [maxLen] at h63; omega
  have hlen : (xs ++ news).length = (n + m) * 1 := by rw [List.length_append, hxl, hl]; omega
  have hPx : ∀ u ∈ xs, Pv u := fun u hu => by
    obtain ⟨j, hj⟩ := List.getElem?_of_mem hu
    rcases hown.2 with ⟨rfl, h0⟩ | ⟨g, cap, cur, rfl, hbg, hg, r⟩
    · have := (List.getElem?_eq_some_iff.1 hj).1; omega
    · have := (hown.cells (g := g) rfl) j u hj
      rw [Addr.add_lit] at this
      exact hP g rfl _ u this
  have grown : ∀ (old : Nat), old < n + m → ∀ (row : Option Nat),
      (w.drew.alloc (.cells (xs.toArray ++ news.toArray ++ Builtin.zeroCells z.cells (grownCap w (n + m) old e - (n + m))) e)).ownsRow base e 1
        (.slice (some ⟨w.heap.size, 0, none⟩) (n + m) (grownCap w (n + m) old e)) (n + m) (xs ++ news) ∧
      w.grownBy (w.drew.alloc (.cells (xs.toArray ++ news.toArray ++ Builtin.zeroCells z.cells (grownCap w (n + m) old e - (n + m))) e)) row ∧
      AllC Pv (w.drew.alloc (.cells (xs.toArray ++ news.toArray ++ Builtin.zeroCells z.cells (grownCap w (n + m) old e - (n + m))) e)) (.slice (some ⟨w.heap.size, 0, none⟩) (n + m) (grownCap w (n + m) old e)) := by
    intro old ho row
    have hge := grownCap_ge w (n + m) old e
    have hcm : grownCap w (n + m) old e ≤ maxLen := grownCap_le_maxLen w (n + m) old e h63
    refine ⟨⟨hlen, .inr ⟨w.heap.size, _, _, rfl, hbase, heap_alloc_new w.drew _, hge, hcm, ?_, ?_⟩⟩, ⟨rfl, rfl, rfl, by simp, fun k hk _ => Below.heap_alloc w.drew _ k hk⟩, fun g hg o u hu => ?_⟩
    · simp only [Array.size_append, List.size_toArray, size_zeroCells, hzc, hxl, hl]
      simp
      omega
    · simp only [Array.toList_append, List.append_assoc]
      rw [← List.append_assoc, ← hlen]
      exact List.take_left
    · have hg : w.heap.size = g := by simpa [Value.ownBlock] using hg
      subst hg
      have hc := cell_of_row _ _ o _ _ _ (show (w.drew.alloc (.cells (xs.toArray ++ news.toArray ++ Builtin.zeroCells z.cells (grownCap w (n + m) old e - (n + m))) e)).heap[w.heap.size]? = _ from heap_alloc_new w.drew _)
      rw [hc, Array.getElem?_append, Array.getElem?_append] at hu
      split at hu
      · split at hu
        · exact hPx u (List.mem_of_getElem? (by simpa using hu))
        · exact hPn u (List.mem_of_getElem? (by simpa using hu))
      · rw [zeros_all hzc _ hu]; exact hPz
  rcases hown.2 with ⟨rfl, rfl⟩ | ⟨g, cap, cur, rfl, hbg, hg, hnc, hcm, hcs, htake⟩
  · have hx : xs = [] := List.eq_nil_of_length_eq_zero hxl
    subst hx
    by_cases hm : m = 0
    · subst hm
      have hn : news = [] := List.eq_nil_of_length_eq_zero hl
      subst hn
      refine ⟨.slice none 0 0, w, ?_, World.ownsRow_nil w base e 1, ⟨rfl, rfl, rfl, Nat.le_refl _, fun _ _ _ => rfl⟩, Or.inl rfl, hP⟩
      simp [Builtin.append_, run_underlying ht, sizeOf, typeInfo, hi, Builtin.lenOf, Builtin.firstCells, loadCells, loadCellsFrom]
    · have hr := run_append_nil (P := P) w t ty e i z ht hi hz a m c news hlm hnews (by omega) (by omega) (by have hb := hbytes; simp only [Nat.zero_add] at hb; omega)
      have hgr := grown 0 (by omega) (Value.ownBlock (.slice none 0 0))
      simp only [Nat.zero_add, List.nil_append, Array.empty_append] at hgr ⊢
      exact ⟨_, _, hr, hgr.1, hgr.2.1, Or.inr rfl, hgr.2.2⟩
  · by_cases hroom : n + m ≤ cap
    · have hfit : n * i.size + news.length ≤ cur.size := by rw [hsize, hl, hcs]; omega
      have hr := run_append_room (P := P) w t ty e i ht hi g n cap cur hg a m c news hlm hnews h1 hroom hfit
      have hset := setRow_heap w g cur (cur.toList.take (n * i.size) ++ news ++ cur.toList.drop (n * i.size + news.length)).toArray e (0, 0) hg
      refine ⟨_, _, hr, ⟨hlen, .inr ⟨g, cap, _, rfl, hbg, hset, hroom, hcm, ?_, ?_⟩⟩, ⟨rfl, rfl, rfl, by simp, fun k _ hk => setRow_other w g k _ (fun e => hk (by simp [Value.ownBlock, e]))⟩, Or.inl rfl, fun g' hg' o u hu => ?_⟩
      · simp only [List.size_toArray, List.length_append, List.length_take, List.length_drop, Array.length_toList]
        omega
      · rw [hsize, htake, ← hlen]
        exact List.take_left
      · have hg' : g = g' := by simpa [Value.ownBlock] using hg'
        subst hg'
        rw [cell_of_row _ _ _ _ _ _ hset] at hu
        have hmem : u ∈ cur.toList.take (n * i.size) ++ news ++ cur.toList.drop (n * i.size + news.length) := List.mem_of_getElem? (by simpa using hu)
        have hcur : ∀ x ∈ cur.toList, Pv x := fun x hx => by
          obtain ⟨j, hj⟩ := List.getElem?_of_mem hx
          exact hP g rfl j x (by rw [cell_of_row _ _ _ _ _ _ hg]; simpa using hj)
        rcases List.mem_append.1 hmem with h | h
        · rcases List.mem_append.1 h with h | h
          · exact hcur u (List.mem_of_mem_take h)
          · exact hPn u h
        · exact hcur u (List.mem_of_mem_drop h)
    · have holds : ∀ j u, xs[j]? = some u → w.cell? ((⟨g, 0, none⟩ : Addr).add j) = some u := hown.cells (g := g) rfl
      have hr := run_append_grow (P := P) w t ty e i z ht hi hz ⟨g, 0, none⟩ n cap xs (by rw [hsize]; exact hown.1) holds a m c news hlm hnews (by omega) (by omega) (growslice_fits (by omega) hbytes)
      have hgr := grown cap (by omega) (Value.ownBlock (.slice (some ⟨g, 0, none⟩) n cap))
      exact ⟨_, _, hr, hgr.1, hgr.2.1, Or.inr rfl, hgr.2.2⟩
end

section
variable {F : Fence} {nF : Nat} {P : Program} {w : World}
theorem wpListIn_append_all {ops : Array Oper} {rest : List Oper} {o : Oper} {a : Act} {Q : Exit → Act → World → Prop} (hgd : o.guard = none) (s x : Operand) (t : TypeId)
    (ho : o.op = .call { callee := .builtin .append, args := #[s, x], argTypes := #[t, t] })
    (base : Nat) (e : TypeId) (i : TypeInfo) (z : Value) (bytes : Nat) (ht : P.underlying t = some (.slice e)) (hi : P.info? e = some i) (hz : i.zero = some z)
    (hsize : i.size = 1) (hby : i.bytes = bytes) (hzc : z.cells = #[z])
    (v : Value) (n : Nat) (xs : List Value) (hs : a.eval s = v) (hown : w.ownsRow base e 1 v n xs)
    (ad : Addr) (m c : Nat) (news : List Value) (hx : a.eval x = .slice (some ad) m c) (hl : news.length = m) (hnews : ∀ j u, news[j]? = some u → w.cell? (ad.add j) = some u) (h1 : ∀ u ∈ news, u.oneCell' = true)
    (h63 : n + m ≤ maxLen) (hbytes : (n + m) * bytes ≤ 140737488355328) (hbase : base ≤ w.heap.size) (Pv : Value → Prop) (hP : AllC Pv w v) (hPn : ∀ u ∈ news, Pv u) (hPz : Pv z)
    (h : ∀ v' w', w'.ownsRow base e 1 v' (n + m) (xs ++ news) → w.grownBy w' v.ownBlock → (v'.ownBlock = v.ownBlock ∨ v'.ownBlock = some w.heap.size) → AllC Pv w' v' → wpListIn F nF P ops Q rest (a.put o.dst v') w') :
    wpListIn F nF P ops Q (o :: rest) a w := by
  refine wpListIn_plain hgd fun K hK => ?_
  obtain ⟨v', w', hr, h2, h3, h4, h5⟩ := run_append_all (P := P) w base t o.type e i z bytes ht hi hz hsize hby hzc v n xs hown ad m c news hl hnews h1 h63 hbytes hbase Pv hP hPn hPz
  unfold Oper.wpIn
  refine ⟨by simp [Oper.about, ho, resolve, Target.leads, Sem.run_pure], ?_⟩
  rw [Oper.semAt_plain F _ _ (by rw [ho]; intro c hc'; cases hc')]
  simp [execOp, ho, resolve, invoke, builtin, hs, hx, hr, Result.andThen]
  exact hK _ _ (h v' w' h2 h3 h4 h5)
end
end Go.Proofs.YtienabfilnpieaaGreat
