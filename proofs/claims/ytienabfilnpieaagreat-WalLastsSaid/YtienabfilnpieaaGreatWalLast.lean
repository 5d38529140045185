/-
  WalLasts, pure: a disk that stands, what an operation that goes wrong leaves, and what is there behind a loss of power.
-/
import Derived.Test.YtienabfilnpieaaGreatWalAlone
namespace Go.Proofs.YtienabfilnpieaaGreat
open Go.RowKit
set_option linter.unusedVariables false
set_option linter.unusedSimpArgs false
set_option maxRecDepth 100000

/-- The log's file is synced, and no other file is there; what is armed is free. -/
structure Steady (M : AD) (ps : List (List Int)) : Prop where
  f0 : M.files 0 = setF (logB 400 ps)
  f1 : M.files 1 = none
  f2 : M.files 2 = none
  f3 : M.files 3 = none
  room_ : M.room = 940
  live : M.dead = false
/-- Something went wrong: behind a loss of power the log's file says these parts, or those. -/
structure Shaken (M : AD) (ps qs : List (List Int)) : Prop where
  f0 : ∃ F, M.files 0 = some F ∧ F.kept = true ∧ (logB 400 ps).length ≤ F.syn ∧ (F.bs = logB 400 ps ∨ ∃ b, F.bs = logB 400 (ps ++ [b]) ∧ qs = ps ++ [b])
  f2 : M.files 2 = none
  f3 : M.files 3 = none
  room_ : M.room = 940
section
variable {M : AD} {ps qs : List (List Int)}
theorem shaken_of (h0 : M.files 0 = setF (logB 400 ps)) (h2 : M.files 2 = none) (h3 : M.files 3 = none) (hr : M.room = 940) : Shaken M ps qs :=
  ⟨⟨_, h0, rfl, Nat.le_refl _, .inl rfl⟩, h2, h3, hr⟩
theorem Steady.shaken (h : Steady M ps) (qs : List (List Int)) : Shaken M ps qs := shaken_of h.f0 h.f2 h.f3 h.room_
theorem err_cases (M : AD) : M.err = 0 ∨ M.err = 8 ∨ M.err = 9 := by
  unfold AD.err
  split
  · exact .inr (.inr rfl)
  · split
    · exact .inr (.inl rfl)
    · exact .inl rfl
theorem err_arm {M : AD} (h : M.err = 0) : M.armed ≠ 0 := by
  intro e
  unfold AD.err at h
  rw [if_pos e] at h
  omega
theorem met_dead {M : AD} (h : M.armed ≠ 0) : M.met.dead = M.dead := by
  unfold AD.met
  rw [if_neg h]
theorem Steady.total (h : Steady M ps) : M.total = (logB 400 ps).length := by
  unfold AD.total AD.len
  rw [h.f0, h.f1, h.f2, h.f3]
  simp
theorem Steady.lay (h : Steady M ps) (b : List Int) (hc : (costM ps : Int) + b.length + 12 ≤ 400) :
    (M.layC (frameM ps.length b) = 0 ∧ Steady (M.layM (frameM ps.length b)) (ps ++ [b])) ∨ (M.layC (frameM ps.length b) ≠ 0 ∧ M.layC (frameM ps.length b) ≠ 6 ∧ Shaken (M.layM (frameM ps.length b)) ps (ps ++ [b])) := by
  obtain ⟨fr, hfr⟩ : ∃ fr, fr = frameM ps.length b := ⟨_, rfl⟩
  have hfl : fr.length = b.length + 12 := by rw [hfr]; exact frameM_len _ _
  have hlb := logB_len 400 ps
  have hsn : logB 400 (ps ++ [b]) = logB 400 ps ++ fr := by rw [hfr]; exact logB_snoc 400 ps b
  have ht := h.total
  have hrm := h.room_
  have hac : M.appendC 0 fr.length = M.err := by
    unfold AD.appendC
    rw [h.live, if_neg (by simp), if_pos (by decide), if_neg (by omega)]
  have ham : M.appendM 0 fr = if M.err = 8 then M.met else M.met.put 0 ((M.file 0).lay fr) := by
    unfold AD.appendM
    rw [h.live, if_neg (by simp), if_pos (by decide), if_neg (by omega)]
  have hf : (M.file 0).lay fr = ⟨logB 400 (ps ++ [b]), (logB 400 ps).length, true⟩ := by
    unfold AD.file
    rw [h.f0, hsn]
    rfl
  rw [hf] at ham
  rw [← hfr]
  rcases err_cases M with e | e | e
  · have harm := err_arm e
    obtain ⟨M1, hM1⟩ : ∃ M1, M1 = M.met.put 0 ⟨logB 400 (ps ++ [b]), (logB 400 ps).length, true⟩ := ⟨_, rfl⟩
    rw [e, if_neg (by decide), ← hM1] at ham
    have k0 : M1.files 0 = some ⟨logB 400 (ps ++ [b]), (logB 400 ps).length, true⟩ := by rw [hM1]; rfl
    have k1 : M1.files 1 = none := by rw [hM1]; show M.met.files 1 = _; rw [met_files]; exact h.f1
    have k2 : M1.files 2 = none := by rw [hM1]; show M.met.files 2 = _; rw [met_files]; exact h.f2
    have k3 : M1.files 3 = none := by rw [hM1]; show M.met.files 3 = _; rw [met_files]; exact h.f3
    have kr : M1.room = 940 := by rw [hM1]; show M.met.room = _; rw [met_room]; exact h.room_
    have kd : M1.dead = false := by rw [hM1]; show M.met.dead = _; rw [met_dead harm]; exact h.live
    have ka : M1.ask 0 [] = 0 := by unfold AD.ask; rw [kd, k0]; simp [Name]
    have hlc : M.layC fr = M1.err := by
      unfold AD.layC
      rw [hac, e, if_neg (by simp), ham]
      unfold AD.opC
      rw [if_pos ka]
    have hset : (M1.file 0).settled = ⟨logB 400 (ps ++ [b]), (logB 400 (ps ++ [b])).length, true⟩ := by unfold AD.file; rw [k0]; rfl
    have hlm : M.layM fr = if M1.err = 0 then M1.met.put 0 ⟨logB 400 (ps ++ [b]), (logB 400 (ps ++ [b])).length, true⟩ else M1.met := by
      unfold AD.layM
      rw [hac, e, if_neg (by simp), ham, hset]
      unfold AD.opM
      rw [if_pos ka]
    by_cases e1 : M1.err = 0
    · left
      rw [hlc, hlm, if_pos e1]
      refine ⟨e1, rfl, ?_, ?_, ?_, ?_, ?_⟩
      · show M1.met.files 1 = _; rw [met_files]; exact k1
      · show M1.met.files 2 = _; rw [met_files]; exact k2
      · show M1.met.files 3 = _; rw [met_files]; exact k3
      · show M1.met.room = _; rw [met_room]; exact kr
      · show M1.met.dead = _; rw [met_dead (err_arm e1)]; exact kd
    · right
      rw [hlc, hlm, if_neg e1]
      refine ⟨e1, by rcases err_cases M1 with x | x | x <;> omega, ⟨_, by rw [met_files]; exact k0, rfl, Nat.le_refl _, .inr ⟨b, rfl, rfl⟩⟩, by rw [met_files]; exact k2, by rw [met_files]; exact k3, by rw [met_room]; exact kr⟩
  · right
    rw [e, if_pos rfl] at ham
    have hlc : M.layC fr = 8 := by unfold AD.layC; rw [hac, e, if_pos (by decide)]
    have hlm : M.layM fr = M.met := by unfold AD.layM; rw [hac, e, if_pos (by decide), ham]
    rw [hlc, hlm]
    exact ⟨by decide, by decide, shaken_of (by rw [met_files]; exact h.f0) (by rw [met_files]; exact h.f2) (by rw [met_files]; exact h.f3) (by rw [met_room]; exact h.room_)⟩
  · right
    rw [e, if_neg (by decide)] at ham
    have hlc : M.layC fr = 9 := by unfold AD.layC; rw [hac, e, if_pos (by decide)]
    have hlm : M.layM fr = M.met.put 0 ⟨logB 400 (ps ++ [b]), (logB 400 ps).length, true⟩ := by unfold AD.layM; rw [hac, e, if_pos (by decide), ham]
    rw [hlc, hlm]
    refine ⟨by decide, by decide, ⟨_, rfl, rfl, Nat.le_refl _, .inr ⟨b, rfl, rfl⟩⟩, ?_, ?_, ?_⟩
    · show M.met.files 2 = _; rw [met_files]; exact h.f2
    · show M.met.files 3 = _; rw [met_files]; exact h.f3
    · show M.met.room = _; rw [met_room]; exact h.room_
theorem Steady.make (h : Steady M ps) (b : List Int) (hc : (costM ps : Int) ≤ 400) (hb : b.length ≤ 388) :
    (M.makeC (fileM 400 b) = 0 ∧ Steady (M.makeM (fileM 400 b)) [b]) ∨ (M.makeC (fileM 400 b) ≠ 0 ∧ M.makeC (fileM 400 b) ≠ 6 ∧ Shaken (M.makeM (fileM 400 b)) ps [b]) := by
  have hone := logB_one 400 b
  obtain ⟨bs, hbs⟩ : ∃ bs, bs = fileM 400 b := ⟨_, rfl⟩
  have hbl : bs.length = b.length + 32 := by rw [hbs]; exact fileM_len _ _
  have hlb := logB_len 400 ps
  have ht := h.total
  have hrm := h.room_
  rw [← hbs] at hone ⊢
  have d1 : M.dropC = 0 := by unfold AD.dropC; rw [h.f1]; rfl
  have d2 : M.dropM = M := by unfold AD.dropM; rw [h.f1]; rfl
  have s0 : M.stC bs 0 = 0 := d1
  have s1 : M.stC bs 1 = M.err := by
    show M.dropM.appendC 1 bs.length = _
    rw [d2]
    unfold AD.appendC
    rw [h.live, if_neg (by simp), if_pos (by decide), if_neg (by omega)]
  have hf : (M.file 1).lay bs = ⟨bs, 0, false⟩ := by
    unfold AD.file
    rw [h.f1]
    rfl
  have e2 : M.st2 bs = if M.err = 8 then M.met else M.met.put 1 ⟨bs, 0, false⟩ := by
    unfold AD.st2
    rw [d2]
    unfold AD.appendM
    rw [h.live, if_neg (by simp), if_pos (by decide), if_neg (by omega), hf]
  rcases err_cases M with e | e | e
  · have harm := err_arm e
    obtain ⟨M2, hM2⟩ : ∃ M2, M2 = M.met.put 1 ⟨bs, 0, false⟩ := ⟨_, rfl⟩
    rw [e, if_neg (by decide), ← hM2] at e2
    have k0 : M2.files 0 = setF (logB 400 ps) := by rw [hM2]; show M.met.files 0 = _; rw [met_files]; exact h.f0
    have k1 : M2.files 1 = some ⟨bs, 0, false⟩ := by rw [hM2]; rfl
    have k2 : M2.files 2 = none := by rw [hM2]; show M.met.files 2 = _; rw [met_files]; exact h.f2
    have k3 : M2.files 3 = none := by rw [hM2]; show M.met.files 3 = _; rw [met_files]; exact h.f3
    have kr : M2.room = 940 := by rw [hM2]; show M.met.room = _; rw [met_room]; exact h.room_
    have kd : M2.dead = false := by rw [hM2]; show M.met.dead = _; rw [met_dead harm]; exact h.live
    have ka : M2.ask 1 [] = 0 := by unfold AD.ask; rw [kd, k1]; simp [Name]
    have s2 : M.stC bs 2 = M2.err := by
      show (M.st2 bs).opC 1 [] = _
      rw [e2]
      unfold AD.opC
      rw [if_pos ka]
    have hset : (M2.file 1).settled = ⟨bs, bs.length, true⟩ := by unfold AD.file; rw [k1]; rfl
    have e3 : M.st3 bs = if M2.err = 0 then M2.met.put 1 ⟨bs, bs.length, true⟩ else M2.met := by
      unfold AD.st3
      rw [e2, hset]
      unfold AD.opM
      rw [if_pos ka]
    by_cases x2 : M2.err = 0
    · obtain ⟨M3, hM3⟩ : ∃ M3, M3 = M2.met.put 1 ⟨bs, bs.length, true⟩ := ⟨_, rfl⟩
      rw [if_pos x2, ← hM3] at e3
      have l0 : M3.files 0 = setF (logB 400 ps) := by rw [hM3]; show M2.met.files 0 = _; rw [met_files]; exact k0
      have l1 : M3.files 1 = some ⟨bs, bs.length, true⟩ := by rw [hM3]; rfl
      have l2 : M3.files 2 = none := by rw [hM3]; show M2.met.files 2 = _; rw [met_files]; exact k2
      have l3 : M3.files 3 = none := by rw [hM3]; show M2.met.files 3 = _; rw [met_files]; exact k3
      have lr : M3.room = 940 := by rw [hM3]; show M2.met.room = _; rw [met_room]; exact kr
      have ld : M3.dead = false := by rw [hM3]; show M2.met.dead = _; rw [met_dead (err_arm x2)]; exact kd
      have la : M3.ask 1 [0] = 0 := by unfold AD.ask; rw [ld, l1]; simp [Name]
      have s3 : M.stC bs 3 = M3.err := by
        show (M.st3 bs).opC 1 [0] = _
        rw [e3]
        unfold AD.opC
        rw [if_pos la]
      have e4 : M.st4 bs = if M3.err = 0 then M3.met.move 1 0 else M3.met := by
        unfold AD.st4
        rw [e3]
        unfold AD.opM
        rw [if_pos la]
      have hmc : M.makeC bs = M3.err := by unfold AD.makeC; rw [s0, s1, s2, s3, e, x2]; rfl
      have hmm : M.makeM bs = M.st4 bs := by unfold AD.makeM; rw [s0, s1, s2, e, x2]; rfl
      rw [hmc, hmm, e4]
      by_cases x3 : M3.err = 0
      · left
        rw [if_pos x3]
        have hmv : M3.met.move 1 0 = (M3.met.drop 1).put 0 (M3.met.file 1).held := by unfold AD.move; rw [if_neg (by decide)]
        have hfl : (M3.met.file 1).held = ⟨bs, bs.length, true⟩ := by unfold AD.file; rw [met_files, l1]; rfl
        rw [hmv, hfl]
        refine ⟨x3, by rw [hone]; rfl, rfl, ?_, ?_, ?_, ?_⟩
        · show M3.met.files 2 = _; rw [met_files]; exact l2
        · show M3.met.files 3 = _; rw [met_files]; exact l3
        · show M3.met.room = _; rw [met_room]; exact lr
        · show M3.met.dead = _; rw [met_dead (err_arm x3)]; exact ld
      · right
        rw [if_neg x3]
        exact ⟨x3, by rcases err_cases M3 with x | x | x <;> omega, shaken_of (by rw [met_files]; exact l0) (by rw [met_files]; exact l2) (by rw [met_files]; exact l3) (by rw [met_room]; exact lr)⟩
    · rw [if_neg x2] at e3
      have hmc : M.makeC bs = M2.err := by unfold AD.makeC; rw [s0, s1, s2, e, if_neg (by simp), if_neg (by simp), if_pos x2]
      have hmm : M.makeM bs = M2.met := by unfold AD.makeM; rw [s0, s1, s2, e, if_neg (by simp), if_neg (by simp), if_pos x2]; exact e3
      rw [hmc, hmm]
      exact .inr ⟨x2, by rcases err_cases M2 with x | x | x <;> omega, shaken_of (by rw [met_files]; exact k0) (by rw [met_files]; exact k2) (by rw [met_files]; exact k3) (by rw [met_room]; exact kr)⟩
  · rw [e, if_pos rfl] at e2
    have hmc : M.makeC bs = 8 := by unfold AD.makeC; rw [s0, s1, e, if_neg (by simp), if_pos (by decide)]
    have hmm : M.makeM bs = M.met := by unfold AD.makeM; rw [s0, s1, e, if_neg (by simp), if_pos (by decide)]; exact e2
    rw [hmc, hmm]
    exact .inr ⟨by decide, by decide, shaken_of (by rw [met_files]; exact h.f0) (by rw [met_files]; exact h.f2) (by rw [met_files]; exact h.f3) (by rw [met_room]; exact h.room_)⟩
  · rw [e, if_neg (by decide)] at e2
    have hmc : M.makeC bs = 9 := by unfold AD.makeC; rw [s0, s1, e, if_neg (by simp), if_pos (by decide)]
    have hmm : M.makeM bs = M.met.put 1 ⟨bs, 0, false⟩ := by unfold AD.makeM; rw [s0, s1, e, if_neg (by simp), if_pos (by decide)]; exact e2
    rw [hmc, hmm]
    refine .inr ⟨by decide, by decide, shaken_of ?_ ?_ ?_ ?_⟩
    · show M.met.files 0 = _; rw [met_files]; exact h.f0
    · show M.met.files 2 = _; rw [met_files]; exact h.f2
    · show M.met.files 3 = _; rw [met_files]; exact h.f3
    · show M.met.room = _; rw [met_room]; exact h.room_

/-- Behind a loss of power: the log's file says these parts. -/
structure Risen (M : AD) (bs : List Int) (ps : List (List Int)) : Prop where
  f0 : M.files 0 = setF bs
  f2 : M.files 2 = none
  f3 : M.files 3 = none
  room_ : M.room = 940
  arm : M.armed = -1
  fail : M.failing = -1
  live : M.dead = false
  lim : limitM bs = 400
  parts : partsM bs = ps
  cut : bs.take (costM ps + 20) = logB 400 ps
  long : costM ps + 20 ≤ bs.length
  short : bs.length ≤ 1000
  oct : Oct bs
theorem Shaken.crash (h : Shaken M ps qs) (hok : M.Ok) (hne : ps ≠ []) (hps : (costM ps : Int) ≤ 400) (hqs : (costM qs : Int) ≤ 400) (hop : ∀ p ∈ ps, Oct p) (hoq : ∀ p ∈ qs, Oct p) (keep : List Bool) :
    ∃ bs rs, (rs = ps ∨ rs = qs) ∧ Risen (M.crash keep) bs rs := by
  obtain ⟨F, hF, hk, hs, hb⟩ := h.f0
  obtain ⟨b1, b2⟩ := left_bounds hok keep hF
  obtain ⟨n, hn⟩ : ∃ n, n = M.left keep 0 := ⟨_, rfl⟩
  rw [← hn] at b1 b2
  have hlb := logB_len 400 ps
  have k0 : (M.crash keep).files 0 = setF (F.bs.take n) := by
    show (M.files 0).bind _ = _
    rw [hF]
    show F.lives _ = _
    rw [← hn]
    unfold AF.lives
    rw [if_neg (by rw [hk]; simp)]
    have : (F.bs.take n).length = n := by rw [List.length_take]; omega
    unfold setF
    rw [this]
  have k2 : (M.crash keep).files 2 = none := by
    show (M.files 2).bind _ = _
    rw [h.f2]
    rfl
  have k3 : (M.crash keep).files 3 = none := by
    show (M.files 3).bind _ = _
    rw [h.f3]
    rfl
  rcases hb with e | ⟨b, e, hq⟩
  · obtain ⟨p1, p2⟩ := hear_full hne hps
    have hx : F.bs.take n = logB 400 ps := by
      rw [e] at b2 ⊢
      exact List.take_of_length_le (by omega)
    rw [hx] at k0
    exact ⟨_, ps, .inl rfl, k0, k2, k3, h.room_, rfl, rfl, rfl, p1, p2, List.take_of_length_le (by omega), by omega, by omega, logB_oct 400 hop⟩
  · have hlq := logB_len 400 (ps ++ [b])
    rw [hq] at hqs hoq
    rw [e] at b2
    obtain ⟨p1, p2⟩ := parts_cut (m := 400) ⟨by omega, by omega⟩ (ps ++ [b]) hqs n (by omega) b2
    have hpos : 0 < ps.length := List.length_pos_iff.2 hne
    have hw := (whole_iff (n - 20) (ps ++ [b]) (ps.length - 1) (by simp only [List.length_append, List.length_singleton]; omega)).1 (by
      rw [show ps.length - 1 + 1 = ps.length by omega, List.take_append_of_le_length (Nat.le_refl _), List.take_length]
      omega)
    have hw2 := whole_le (n - 20) (ps ++ [b])
    rw [List.length_append, List.length_singleton] at hw2
    rw [e] at k0
    have ho : Oct ((logB 400 (ps ++ [b])).take n) := (logB_oct 400 hoq).takeN n
    have hln : ((logB 400 (ps ++ [b])).take n).length = n := by rw [List.length_take]; omega
    by_cases hwh : wholeM (n - 20) (ps ++ [b]) = ps.length
    · rw [hwh, List.take_append_of_le_length (Nat.le_refl _), List.take_length] at p2
      refine ⟨_, ps, .inl rfl, k0, k2, k3, h.room_, rfl, rfl, rfl, p1, p2, ?_, by omega, by omega, ho⟩
      rw [List.take_take, Nat.min_eq_left (by omega), logB_snoc, List.take_append_of_le_length (by omega), List.take_of_length_le (by omega)]
    · have hwl : wholeM (n - 20) (ps ++ [b]) = ps.length + 1 := by omega
      have hwn := (whole_iff (n - 20) (ps ++ [b]) ps.length (by simp only [List.length_append, List.length_singleton]; omega)).2 (by omega)
      have htk : (ps ++ [b]).take (ps.length + 1) = ps ++ [b] := List.take_of_length_le (by simp)
      rw [htk] at hwn
      rw [hwl, htk] at p2
      refine ⟨_, qs, .inr rfl, k0, k2, k3, h.room_, rfl, rfl, rfl, p1, by rw [p2, hq], ?_, by rw [hq]; omega, by omega, ho⟩
      rw [hq, List.take_take, List.take_of_length_le (by omega)]

/-- Nothing is armed. -/
structure Tame (M : AD) : Prop where
  arm : M.armed = -1
  fail : M.failing = -1
  live : M.dead = false
theorem Tame.err (h : Tame M) : M.err = 0 := by unfold AD.err; rw [h.arm, h.fail]; rfl
theorem Tame.met (h : Tame M) : Tame M.met := by
  unfold AD.met
  rw [if_neg (by rw [h.arm]; decide)]
  exact ⟨by rw [h.arm]; rfl, by rw [h.fail]; rfl, h.live⟩
theorem Tame.ask (h : Tame M) {k : Int} (hk : Name k) (hf : M.files k ≠ none) : M.ask k [] = 0 := by
  unfold AD.ask
  rw [h.live]
  simp [hk, Option.isSome_iff_ne_none.2 hf]
theorem Risen.open_ {bs : List Int} (h : Risen M bs ps) (hne : ps ≠ []) : M.readB 0 = bs ∧ M.openC = 0 ∧ Calm M.openM 940 (setF (logB 400 ps)) none ∧ openV M = ⟨400, ps, false⟩ := by
  have ht : Tame M := ⟨h.arm, h.fail, h.live⟩
  have hne0 : M.files 0 ≠ none := by rw [h.f0]; simp
  have ha : M.ask 0 [] = 0 := ht.ask (by decide) hne0
  have hoc : M.opC 0 [] = 0 := by unfold AD.opC; rw [if_pos ha, ht.err]
  have hr : M.readB 0 = bs := by
    unfold AD.readB
    rw [hoc, if_pos rfl]
    unfold AD.file
    rw [h.f0]
    rfl
  have hh : hearC bs = 0 := by
    unfold hearC
    rw [if_neg]
    rw [h.lim, h.parts]
    rintro (e | e)
    · omega
    · exact hne e
  have l1 : M.loadC = 0 := by unfold AD.loadC; rw [hoc, if_pos rfl, hr]; exact hh
  have l2 : M.loadM = M.met := by unfold AD.loadM AD.opM; rw [if_pos ha, if_pos ht.err]
  have hm := ht.met
  have m0 : M.met.files 0 = setF bs := by rw [met_files]; exact h.f0
  have hne2 : M.met.files 0 ≠ none := by rw [m0]; simp
  have ha2 : M.met.ask 0 [] = 0 := hm.ask (by decide) hne2
  have hend : M.endM = (costM ps : Int) + 20 := by unfold AD.endM; rw [hr, h.parts]
  have hln : M.met.len 0 = bs.length := by unfold AD.len; rw [m0]
  have hcut := h.cut
  have hlong := h.long
  have hlb := logB_len 400 ps
  obtain ⟨c1, c0, c2, c3, c4, c5⟩ : M.cutC = 0 ∧ M.cutM.files 0 = setF (logB 400 ps) ∧ M.cutM.files 2 = none ∧ M.cutM.files 3 = none ∧ M.cutM.room = 940 ∧ Tame M.cutM := by
    unfold AD.cutC AD.cutM
    rw [l2]
    unfold AD.trimC AD.trimM
    by_cases hc : (M.met.len 0 : Int) ≤ M.endM
    · rw [if_pos hc, if_pos hc]
      rw [hln, hend] at hc
      rw [List.take_of_length_le (by omega)] at hcut
      rw [hcut] at m0
      exact ⟨rfl, m0, by rw [met_files]; exact h.f2, by rw [met_files]; exact h.f3, by rw [met_room]; exact h.room_, hm⟩
    · rw [if_neg hc, if_neg hc]
      unfold AD.truncC AD.truncM
      rw [if_pos ha2, if_pos ha2, hln, hend, if_neg (by omega), if_neg (by omega), hm.err, if_pos rfl]
      have hf : M.met.file 0 = ⟨bs, bs.length, true⟩ := by unfold AD.file; rw [m0]; rfl
      have hcf : (M.met.file 0).cut (((costM ps : Nat) : Int) + 20).toNat = ⟨logB 400 ps, (logB 400 ps).length, true⟩ := by
        rw [hf]
        have e1 : (((costM ps : Nat) : Int) + 20).toNat = costM ps + 20 := by omega
        rw [e1]
        unfold AF.cut
        dsimp only
        rw [hcut, show min bs.length (costM ps + 20) = (logB 400 ps).length by omega]
      rw [hcf]
      refine ⟨rfl, rfl, ?_, ?_, ?_, hm.met.arm, hm.met.fail, hm.met.live⟩
      · show M.met.met.files 2 = _; rw [met_files, met_files]; exact h.f2
      · show M.met.met.files 3 = _; rw [met_files, met_files]; exact h.f3
      · show M.met.met.room = _; rw [met_room, met_room]; exact h.room_
  have hop : openV M = ⟨400, ps, false⟩ := by unfold openV; rw [hr, h.lim, h.parts]
  refine ⟨hr, ?_, ?_, hop⟩
  · unfold AD.openC
    rw [l1, if_neg (by simp), c1, if_neg (by simp)]
    unfold AD.dropC
    split
    · rename_i hs
      unfold AD.opC
      rw [if_pos (c5.ask (by decide) (Option.isSome_iff_ne_none.1 hs)), c5.err]
    · rfl
  · unfold AD.openM
    rw [l1, if_neg (by simp), c1, if_neg (by simp)]
    unfold AD.dropM
    split
    · rename_i hs
      unfold AD.opM
      rw [if_pos (c5.ask (by decide) (Option.isSome_iff_ne_none.1 hs)), if_pos c5.err]
      have hm2 := c5.met
      refine ⟨?_, rfl, ?_, ?_, ?_, hm2.arm, hm2.fail, hm2.live⟩
      · show M.cutM.met.files 0 = _; rw [met_files]; exact c0
      · show M.cutM.met.files 2 = _; rw [met_files]; exact c2
      · show M.cutM.met.files 3 = _; rw [met_files]; exact c3
      · show M.cutM.met.room = _; rw [met_room]; exact c4
    · rename_i hs
      refine ⟨c0, ?_, c2, c3, c4, c5.arm, c5.fail, c5.live⟩
      rcases h1 : M.cutM.files 1 with _ | F
      · rfl
      · rw [h1] at hs; simp at hs
theorem Calm.steady (h : Calm M 940 (setF (logB 400 ps)) none) : Steady M ps := ⟨h.f0, h.f1, h.f2, h.f3, h.room_, h.live⟩
end

end Go.Proofs.YtienabfilnpieaaGreat
