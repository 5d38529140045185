/-
  Disks on which nothing goes wrong, and the files of logs: pure.
  The laws' own fresh and has.
  A log that is played with, on a disk on which nothing goes wrong: a record more, a new snapshot.
-/
import Derived.Test.YtienabfilnpieaaGreatWalG
import Derived.Test.YtienabfilnpieaaGreatWalD
import Derived.Test.YtienabfilnpieaaGreatWalC
import Derived.OwnWalk
namespace Go.Proofs.YtienabfilnpieaaGreat
open Go.RowKit
set_option linter.unusedVariables false
set_option linter.unusedSimpArgs false
set_option maxRecDepth 100000

/-! ### frames -/
theorem numS_fld (m : Nat) (x : Int) (r : List Int) (h1 : 1 ≤ m) (h8 : m ≤ 8) (h0 : 0 ≤ x) (hx : x < ((256 ^ m : Nat) : Int)) : numS m (fldOf m x ++ r, false) = (x, r, false) := by
  have hl : (fldOf (m : Int) x).length = m := fldOf_len x h1 h8
  unfold numS
  rw [if_neg (by simp; omega)]
  have e1 : (fldOf (m : Int) x ++ r).take m = fldOf (m : Int) x := by rw [List.take_append_of_le_length (by omega), List.take_of_length_le (by omega)]
  have e2 : (fldOf (m : Int) x ++ r).drop m = r := by rw [List.drop_append_of_le_length (by omega), List.drop_of_length_le (by omega)]; simp
  dsimp only
  rw [e1, e2, fldOf_yes x h1 h8]
  obtain ⟨X, rfl⟩ : ∃ X : Nat, x = X := ⟨x.toNat, by omega⟩
  rw [val_fld, Nat.mod_eq_of_lt (by omega)]
theorem stepM_frame (k : Int) (p r : List Int) (hp : p.length < 4294967296) : stepM k (frameM k p ++ r) = some (p, r) := by
  have hu := markM_u k p
  unfold stepM frameM
  have e4 : ((4 : Int)) = ((4 : Nat) : Int) := rfl
  have e8 : ((8 : Int)) = ((8 : Nat) : Int) := rfl
  have n1 : numS 4 (fldOf 4 (p.length : Int) ++ fldOf 8 (markM k p) ++ p ++ r, false) = ((p.length : Int), fldOf 8 (markM k p) ++ (p ++ r), false) := by
    rw [e4, List.append_assoc, List.append_assoc]
    exact numS_fld 4 _ _ (by omega) (by omega) (by omega) (by simp; omega)
  have n2 : numS 8 (fldOf 8 (markM k p) ++ (p ++ r), false) = (markM k p, p ++ r, false) := by
    rw [e8]
    exact numS_fld 8 _ _ (by omega) (by omega) hu.1 (by have := hu.2; simp; omega)
  have n3 : bytesS (p.length : Int) (p ++ r, false) = (p, r, false) := by
    unfold bytesS
    rw [if_neg (by simp; omega)]
    simp
  dsimp only
  rw [n1]
  dsimp only
  rw [n2]
  dsimp only
  rw [n3]
  simp
/-- What is cut off in a frame is none. -/
theorem stepM_cut (k : Int) (p r : List Int) (n : Nat) (hp : p.length < 4294967296) (hn : n < p.length + 12) : stepM k ((frameM k p ++ r).take n) = none := by
  have hf := frameM_len k p
  have e0 : (frameM k p ++ r).take n = (frameM k p).take n := by rw [List.take_append_of_le_length (by omega)]
  rw [e0]
  cases hs : stepM k ((frameM k p).take n) with
  | none => rfl
  | some pr =>
    exfalso
    obtain ⟨q, r'⟩ := pr
    have hl := stepM_len hs
    rw [List.length_take] at hl
    -- the length that is said is the whole part's
    unfold stepM at hs
    dsimp only at hs
    split at hs
    · cases hs
    · rename_i hc
      have h3 := bytesS_len (n := (numS 4 ((frameM k p).take n, false)).1) (s := (numS 8 (numS 4 ((frameM k p).take n, false)).2).2) (by
        cases hb : (bytesS (numS 4 ((frameM k p).take n, false)).1 (numS 8 (numS 4 ((frameM k p).take n, false)).2).2).2.2 with
        | true => exact (hc (.inl hb)).elim
        | false => rfl)
      injection hs with hs
      injection hs with e1 e2
      have hn12 : 12 ≤ n := by omega
      have e : (frameM k p).take n = fldOf 4 (p.length : Int) ++ ((fldOf 8 (markM k p) ++ p).take (n - 4)) := by
        unfold frameM
        rw [List.append_assoc, List.take_append, show ((4 : Int)) = ((4 : Nat) : Int) from rfl, fldOf_len _ (by omega) (by omega), List.take_of_length_le (by rw [fldOf_len _ (by omega) (by omega)]; omega)]
      have n1 : (numS 4 ((frameM k p).take n, false)).1 = (p.length : Int) := by
        rw [e, show ((4 : Int)) = ((4 : Nat) : Int) from rfl, numS_fld 4 _ _ (by omega) (by omega) (by omega) (by simp; omega)]
      rw [n1] at h3 e1 hc
      have hq : q.length = p.length := by
        rw [← e1]
        unfold bytesS
        unfold bytesS at hc
        split
        · rename_i hcc
          rw [if_pos hcc] at hc
          exact (hc (.inl rfl)).elim
        · rename_i hcc
          simp
          omega
      omega
def framesM : Nat → List (List Int) → List Int
  | _, [] => []
  | k, p :: ps => frameM k p ++ framesM (k + 1) ps
def logB (n : Int) (ps : List (List Int)) : List Int := headM n ++ framesM 0 ps
theorem framesM_snoc (k : Nat) (ps : List (List Int)) (p : List Int) : framesM k (ps ++ [p]) = framesM k ps ++ frameM ((k + ps.length : Nat) : Int) p := by
  induction ps generalizing k with
  | nil => simp [framesM]
  | cons a ps ih =>
    rw [List.cons_append]
    unfold framesM
    rw [ih (k + 1), List.append_assoc, List.length_cons, show k + 1 + ps.length = k + (ps.length + 1) by omega]
theorem framesM_len (k : Nat) (ps : List (List Int)) : (framesM k ps).length = costM ps := by
  induction ps generalizing k with
  | nil => rfl
  | cons a ps ih =>
    unfold framesM
    rw [List.length_append, frameM_len, ih]
    simp [costM]
theorem framesM_oct (k : Nat) (ps : List (List Int)) (h : ∀ p ∈ ps, Oct p) : Oct (framesM k ps) := by
  induction ps generalizing k with
  | nil => intro b hb; simp [framesM] at hb
  | cons a ps ih =>
    unfold framesM
    exact oct_append (frameM_oct _ (h a (by simp))) (ih (k + 1) (fun p hp => h p (by simp [hp])))
theorem logB_len (n : Int) (ps : List (List Int)) : (logB n ps).length = costM ps + 20 := by unfold logB; rw [List.length_append, headM_len, framesM_len]; omega
theorem logB_oct (n : Int) {ps : List (List Int)} (h : ∀ p ∈ ps, Oct p) : Oct (logB n ps) := oct_append (headM_oct n) (framesM_oct 0 ps h)
theorem logB_snoc (n : Int) (ps : List (List Int)) (p : List Int) : logB n (ps ++ [p]) = logB n ps ++ frameM ((ps.length : Nat) : Int) p := by
  unfold logB
  rw [framesM_snoc, List.append_assoc]
  simp
theorem logB_one (n : Int) (p : List Int) : logB n [p] = fileM n p := by simp [logB, framesM, fileM]

/-- How many parts are whole in so many bytes. -/
def wholeM : Nat → List (List Int) → Nat
  | _, [] => 0
  | n, p :: ps => if p.length + 12 ≤ n then wholeM (n - (p.length + 12)) ps + 1 else 0
theorem wholeM_cons (n : Nat) (p : List Int) (ps : List (List Int)) : wholeM n (p :: ps) = if p.length + 12 ≤ n then wholeM (n - (p.length + 12)) ps + 1 else 0 := rfl
theorem costM_cons (p : List Int) (ps : List (List Int)) : costM (p :: ps) = p.length + 12 + costM ps := by simp [costM]
theorem whole_iff (n : Nat) (ps : List (List Int)) (k : Nat) (hk : k < ps.length) : costM (ps.take (k + 1)) ≤ n ↔ k + 1 ≤ wholeM n ps := by
  induction ps generalizing n k with
  | nil => simp at hk
  | cons p ps ih =>
    unfold wholeM
    rw [List.take_succ_cons, costM_cons]
    split
    · rename_i h
      cases k with
      | zero => simp [costM_nil]; omega
      | succ k =>
        have := ih (n - (p.length + 12)) k (by simpa using hk)
        constructor
        · intro h2
          have := this.1 (by omega)
          omega
        · intro h2
          have := this.2 (by omega)
          omega
    · rename_i h
      constructor
      · intro h2; omega
      · intro h2; omega
theorem whole_le (n : Nat) (ps : List (List Int)) : wholeM n ps ≤ ps.length := by
  induction ps generalizing n with
  | nil => simp [wholeM]
  | cons p ps ih =>
    unfold wholeM
    split
    · have := ih (n - (p.length + 12)); simp; omega
    · omega
theorem goM_cut (fuel : Nat) (room : Int) (k : Nat) (ps : List (List Int)) (n : Nat) (hf : ps.length < fuel) (hc : (costM ps : Int) ≤ room) (h16 : ∀ p ∈ ps, p.length ≤ 16000) :
    goM fuel room k ((framesM k ps).take n) = ps.take (wholeM n ps) := by
  induction ps generalizing fuel room k n with
  | nil =>
    cases fuel with
    | zero => omega
    | succ f =>
      unfold goM
      have hs : stepM k (([] : List Int).take n) = none := by
        cases hs : stepM k (([] : List Int).take n) with
        | none => rfl
        | some pr => obtain ⟨a, b⟩ := pr; have := stepM_len hs; simp at this
      show (match stepM k (([] : List Int).take n) with | none => [] | some (p, r') => _) = _
      rw [hs]
      simp [wholeM]
  | cons p ps ih =>
    cases fuel with
    | zero => omega
    | succ f =>
      have hp16 := h16 p (by simp)
      rw [costM_cons] at hc
      unfold goM
      by_cases hn : p.length + 12 ≤ n
      · have e : (framesM k (p :: ps)).take n = frameM k p ++ (framesM (k + 1) ps).take (n - (p.length + 12)) := by
          show (frameM k p ++ framesM (k + 1) ps).take n = _
          rw [List.take_append, frameM_len, List.take_of_length_le (by rw [frameM_len]; omega)]
        rw [e, stepM_frame k p _ (by omega)]
        dsimp only
        have hfit : fitsC p.length room = 0 := by
          unfold fitsC
          rw [if_neg (by omega), if_neg (by omega)]
        rw [if_pos hfit]
        have := ih f (room - (p.length + 12)) (k + 1) (n - (p.length + 12)) (by simpa using hf) (by omega) (fun q hq => h16 q (by simp [hq]))
        rw [show ((k + 1 : Nat) : Int) = (k : Int) + 1 by omega] at this
        rw [this, wholeM_cons, if_pos hn, List.take_succ_cons]
      · have e : (framesM k (p :: ps)).take n = (frameM k p ++ framesM (k + 1) ps).take n := rfl
        rw [e, stepM_cut k p _ n (by omega) (by omega)]
        rw [wholeM_cons, if_neg hn]
        rfl
theorem numM_head {n : Int} (hn : Lim n) (r : List Int) : numM (headM n ++ r) = n := by
  unfold numM
  have h1 := hn.1
  have h2 := hn.2
  have e : (headM n ++ r).drop 8 = fldOf 4 n ++ (fld 8 (ofM (lettersM ++ fldOf 4 n)) ++ r) := by
    unfold headM
    rw [sealM_eq, List.append_assoc, List.append_assoc, List.drop_append_of_le_length (by decide), List.drop_of_length_le (by decide)]
    simp
  rw [e, show ((4 : Int)) = ((4 : Nat) : Int) from rfl, List.take_append_of_le_length (by rw [fldOf_len _ (by omega) (by omega)]; omega), List.take_of_length_le (by rw [fldOf_len _ (by omega) (by omega)]; omega), fldOf_yes n (by omega) (by omega)]
  obtain ⟨X, rfl⟩ : ∃ X : Nat, n = X := ⟨n.toNat, by omega⟩
  rw [val_fld, Nat.mod_eq_of_lt (by omega)]
theorem limit_head {n : Int} (hn : Lim n) (r : List Int) : limitM (headM n ++ r) = n := by
  unfold limitM
  rw [numM_head hn, if_pos]
  refine ⟨by rw [List.length_append, headM_len]; omega, hn, ?_⟩
  rw [List.take_append_of_le_length (by rw [headM_len]; omega), List.take_of_length_le (by rw [headM_len]; omega)]
/-- What a log's file that is cut says. -/
theorem parts_cut {m : Int} (hm : Lim m) (ps : List (List Int)) (hc : (costM ps : Int) ≤ m) (n : Nat) (hn : 20 ≤ n) (hnl : n ≤ (logB m ps).length) : limitM ((logB m ps).take n) = m ∧ partsM ((logB m ps).take n) = ps.take (wholeM (n - 20) ps) := by
  have e : (logB m ps).take n = headM m ++ (framesM 0 ps).take (n - 20) := by
    unfold logB
    rw [List.take_append, headM_len, List.take_of_length_le (by rw [headM_len]; omega)]
  have hl : limitM ((logB m ps).take n) = m := by rw [e]; exact limit_head hm _
  refine ⟨hl, ?_⟩
  unfold partsM
  rw [hl, e]
  have hlen := costM_len ps
  rw [logB_len] at hnl
  have hd : (headM m ++ (framesM 0 ps).take (n - 20)).drop 20 = (framesM 0 ps).take (n - 20) := by
    rw [List.drop_append_of_le_length (by rw [headM_len]; omega), List.drop_of_length_le (by rw [headM_len]; omega)]
    simp
  have h16 : ∀ p ∈ ps, p.length ≤ 16000 := fun p hp => by
    obtain ⟨i, hi⟩ := List.mem_iff_getElem?.1 hp
    have := costM_mem hi
    have := hm.2
    omega
  rw [hd]
  have hg := goM_more ((headM m ++ (framesM 0 ps).take (n - 20)).length + 1) (ps.length + n + 1) m 0 ((framesM 0 ps).take (n - 20)) (by simp [headM_len]; omega) (by rw [List.length_take]; omega)
  rw [hg]
  exact goM_cut _ m 0 ps (n - 20) (by omega) hc h16
theorem limit_short (bs : List Int) (h : bs.length < 20) : limitM bs = 0 := by
  by_cases e : limitM bs = 0
  · exact e
  · have := (limitM_lim bs e).2; omega

/-! ### calm disks -/
structure Calm (M : AD) (room : Int) (F0 F3 : Option AF) : Prop where
  f0 : M.files 0 = F0
  f1 : M.files 1 = none
  f2 : M.files 2 = none
  f3 : M.files 3 = F3
  room_ : M.room = room
  arm : M.armed = -1
  fail : M.failing = -1
  live : M.dead = false
def lenF (F : Option AF) : Nat := match F with | some F => F.bs.length | none => 0
abbrev setF (bs : List Int) : Option AF := some ⟨bs, bs.length, true⟩
section
variable {M : AD} {room : Int} {F0 F3 : Option AF}
theorem Calm.err (h : Calm M room F0 F3) : M.err = 0 := by unfold AD.err; rw [h.arm, h.fail]; rfl
theorem Calm.met (h : Calm M room F0 F3) : Calm M.met room F0 F3 := by
  unfold AD.met
  rw [if_neg (by rw [h.arm]; decide)]
  exact ⟨h.f0, h.f1, h.f2, h.f3, h.room_, by rw [h.arm]; rfl, by rw [h.fail]; rfl, h.live⟩
theorem Calm.total (h : Calm M room F0 F3) : M.total = lenF F0 + lenF F3 := by
  unfold AD.total AD.len
  rw [h.f0, h.f1, h.f2, h.f3]
  rcases F0 with _ | F0 <;> rcases F3 with _ | F3 <;> simp [lenF]
theorem Calm.dropC (h : Calm M room F0 F3) : M.dropC = 0 ∧ M.dropM = M := by
  unfold AD.dropC AD.dropM
  rw [h.f1]
  exact ⟨rfl, rfl⟩
theorem Calm.put0 (h : Calm M room F0 F3) (F : AF) : Calm (M.put 0 F) room (some F) F3 := ⟨rfl, h.f1, h.f2, h.f3, h.room_, h.arm, h.fail, h.live⟩
theorem Calm.put3 (h : Calm M room F0 F3) (F : AF) : Calm (M.put 3 F) room F0 (some F) := ⟨h.f0, h.f1, h.f2, rfl, h.room_, h.arm, h.fail, h.live⟩
theorem Calm.ask (h : Calm M room F0 F3) {k : Int} (hk : Name k) (hf : M.files k ≠ none) : M.ask k [] = 0 := by
  unfold AD.ask
  rw [h.live]
  simp [hk, Option.isSome_iff_ne_none.2 hf]
theorem Calm.opC (h : Calm M room F0 F3) {k : Int} (hk : Name k) (hf : M.files k ≠ none) : M.opC k [] = 0 := by
  unfold AD.opC
  rw [if_pos (h.ask hk hf), h.err]
theorem Calm.opM (h : Calm M room F0 F3) {k : Int} (hk : Name k) (hf : M.files k ≠ none) (M' : AD) : M.opM k [] M' = M' := by
  unfold AD.opM
  rw [if_pos (h.ask hk hf), if_pos h.err]
theorem Calm.append (h : Calm M room F0 F3) {k : Int} (hk : Name k) (bs : List Int) (hr : (lenF F0 + lenF F3 + bs.length : Nat) ≤ room) : M.appendC k bs.length = 0 ∧ M.appendM k bs = M.met.put k ((M.file k).lay bs) := by
  have ht := h.total
  have hrm := h.room_
  have he := h.err
  unfold AD.appendC AD.appendM
  simp only [h.live, Bool.false_eq_true, if_false]
  rw [if_pos hk, if_pos hk, if_neg (by omega), if_neg (by omega), he]
  exact ⟨rfl, if_neg (by omega)⟩
/-- A frame more. -/
theorem Calm.lay {bs : List Int} (h : Calm M room (setF bs) F3) (fr : List Int) (hr : (bs.length + lenF F3 + fr.length : Nat) ≤ room) : M.layC fr = 0 ∧ Calm (M.layM fr) room (setF (bs ++ fr)) F3 := by
  obtain ⟨h1, h2⟩ := h.append (k := 0) (by decide) fr hr
  have hf : M.file 0 = ⟨bs, bs.length, true⟩ := by show Option.getD (M.files 0) AF.none = _; rw [h.f0]; rfl
  rw [hf] at h2
  obtain ⟨G, hG⟩ : ∃ G : AF, G = AF.lay ⟨bs, bs.length, true⟩ fr := ⟨_, rfl⟩
  rw [← hG] at h2
  have hc : Calm (M.met.put 0 G) room (some G) F3 := h.met.put0 _
  have hne : (M.met.put 0 G).files 0 ≠ none := by rw [hc.f0]; simp
  unfold AD.layC AD.layM
  rw [h1, if_neg (by simp), if_neg (by simp), h2]
  refine ⟨hc.opC (by decide) hne, ?_⟩
  rw [hc.opM (by decide) hne]
  have hf2 : (M.met.put 0 G).file 0 = G := by show Option.getD ((M.met.put 0 G).files 0) AF.none = _; rw [hc.f0]; rfl
  rw [hf2]
  have hs : G.settled = ⟨bs ++ fr, (bs ++ fr).length, true⟩ := by rw [hG]; rfl
  rw [hs]
  exact hc.met.put0 _
/-- A new file in the place of the old one. -/
theorem Calm.make (h : Calm M room F0 F3) (bs : List Int) (hr : (lenF F0 + lenF F3 + bs.length : Nat) ≤ room) : M.makeC bs = 0 ∧ Calm (M.makeM bs) room (setF bs) F3 := by
  obtain ⟨d1, d2⟩ := h.dropC
  obtain ⟨a1, a2⟩ := h.append (k := 1) (by decide) bs hr
  have hf1 : M.file 1 = AF.none := by unfold AD.file; rw [h.f1]; rfl
  have s1 : M.stC bs 0 = 0 := d1
  have s2 : M.stC bs 1 = 0 := by show (M.dropM).appendC 1 bs.length = 0; rw [d2]; exact a1
  obtain ⟨M2, hM2⟩ : ∃ M2, M2 = M.st2 bs := ⟨_, rfl⟩
  have e2 : M2 = M.met.put 1 ⟨bs, 0, false⟩ := by rw [hM2]; unfold AD.st2; rw [d2, a2, hf1]; rfl
  have hm := h.met
  have E2 : M2.err = 0 := by rw [e2]; exact hm.err
  have L2 : M2.dead = false := by rw [e2]; exact hm.live
  have F2 : M2.files 1 = some ⟨bs, 0, false⟩ := by rw [e2]; rfl
  have A2 : M2.ask 1 [] = 0 := by
    unfold AD.ask
    rw [L2, F2]
    simp [Name]
  have s3 : M.stC bs 2 = 0 := by
    show (M.st2 bs).opC 1 [] = 0
    rw [← hM2]
    unfold AD.opC
    rw [if_pos A2]
    exact E2
  obtain ⟨M3, hM3⟩ : ∃ M3, M3 = M.st3 bs := ⟨_, rfl⟩
  have e3 : M3 = M2.met.put 1 ⟨bs, bs.length, true⟩ := by
    rw [hM3]
    unfold AD.st3
    rw [← hM2]
    unfold AD.opM
    rw [if_pos A2, if_pos E2]
    have : M2.file 1 = ⟨bs, 0, false⟩ := by unfold AD.file; rw [F2]; rfl
    rw [this]
    rfl
  have M2r : M2.armed = -1 ∧ M2.failing = -1 ∧ M2.room = room ∧ M2.files 0 = F0 ∧ M2.files 2 = none ∧ M2.files 3 = F3 := by
    rw [e2]; exact ⟨hm.arm, hm.fail, hm.room_, hm.f0, hm.f2, hm.f3⟩
  obtain ⟨r1, r2, r3, r4, r5, r6⟩ := M2r
  have met2 : M2.met = { M2 with ops := M2.ops + 1 } := by
    unfold AD.met
    rw [if_neg (by rw [r1]; decide), r1, r2]
    simp [stepC, ← r1, ← r2]
  have E3 : M3.err = 0 := by rw [e3, met2]; show (if M2.armed = 0 then _ else if M2.failing = 0 then _ else _) = _; rw [r1, r2]; rfl
  have L3 : M3.dead = false := by rw [e3, met2]; exact L2
  have F3' : M3.files 1 = some ⟨bs, bs.length, true⟩ := by rw [e3]; rfl
  have A3 : M3.ask 1 [0] = 0 := by
    unfold AD.ask
    rw [L3, F3']
    simp [Name]
  have s4 : M.stC bs 3 = 0 := by
    show (M.st3 bs).opC 1 [0] = 0
    rw [← hM3]
    unfold AD.opC
    rw [if_pos A3]
    exact E3
  have M3r : M3.armed = -1 ∧ M3.failing = -1 ∧ M3.room = room ∧ M3.files 2 = none ∧ M3.files 3 = F3 := by
    rw [e3, met2]; exact ⟨r1, r2, r3, r5, r6⟩
  obtain ⟨t1, t2, t3, t4, t5⟩ := M3r
  have met3 : M3.met = { M3 with ops := M3.ops + 1 } := by
    unfold AD.met
    rw [if_neg (by rw [t1]; decide), t1, t2]
    simp [stepC, ← t1, ← t2]
  refine ⟨by unfold AD.makeC; rw [s1, s2, s3, s4]; rfl, ?_⟩
  have em : M.makeM bs = M.st4 bs := by unfold AD.makeM; rw [s1, s2, s3]; rfl
  rw [em]
  unfold AD.st4
  rw [← hM3]
  unfold AD.opM
  rw [if_pos A3, if_pos E3, met3]
  have hmv : AD.move { M3 with ops := M3.ops + 1 } 1 0 = (AD.drop { M3 with ops := M3.ops + 1 } 1).put 0 ((AD.file { M3 with ops := M3.ops + 1 } 1).held) := by unfold AD.move; rw [if_neg (by decide)]
  rw [hmv]
  have hfl : (AD.file { M3 with ops := M3.ops + 1 } 1).held = ⟨bs, bs.length, true⟩ := by
    unfold AD.file
    show (Option.getD (M3.files 1) AF.none).held = _
    rw [F3']
    rfl
  rw [hfl]
  exact ⟨rfl, rfl, t4, t5, t3, t1, t2, L3⟩
/-- A loss of power takes nothing that is settled. -/
theorem Calm.crash (h : Calm M room F0 F3) (hok : M.Ok) (h0 : ∀ F, F0 = some F → F.syn = F.bs.length ∧ F.kept = true) (h3 : ∀ F, F3 = some F → F.syn = F.bs.length ∧ F.kept = true) (keep : List Bool) : Calm (M.crash keep) room F0 F3 := by
  have key : ∀ k F, M.files k = some F → F.syn = F.bs.length → F.kept = true → (M.crash keep).files k = some F := fun k F hF hs hk => by
    show (M.files k).bind _ = _
    rw [hF]
    show F.lives _ = _
    obtain ⟨b1, b2⟩ := left_bounds hok keep hF
    have : M.left keep k = F.bs.length := by omega
    rw [this]
    unfold AF.lives
    rw [if_neg (by rw [hk]; simp), List.take_of_length_le (Nat.le_refl _)]
    obtain ⟨b, s, kp⟩ := F
    simp at hs hk
    subst hs hk
    rfl
  have none_ : ∀ k, M.files k = none → (M.crash keep).files k = none := fun k hF => by
    show (M.files k).bind _ = _
    rw [hF]
    rfl
  refine ⟨?_, none_ 1 h.f1, none_ 2 h.f2, ?_, h.room_, rfl, rfl, rfl⟩
  · rcases F0 with _ | F
    · exact none_ 0 h.f0
    · exact key 0 F h.f0 (h0 F rfl).1 (h0 F rfl).2
  · rcases F3 with _ | F
    · exact none_ 3 h.f3
    · exact key 3 F h.f3 (h3 F rfl).1 (h3 F rfl).2
theorem Calm.read (h : Calm M room F0 F3) {k : Int} {F : AF} (hk : Name k) (hF : M.files k = some F) : M.readB k = F.bs := by
  unfold AD.readB
  rw [h.opC hk (by rw [hF]; simp), if_pos rfl]
  unfold AD.file
  rw [hF]
  rfl
/-- Open of a calm disk. -/
theorem Calm.open_ {F : AF} (h : Calm M room (some F) F3) (hl : hearC F.bs = 0) (hlen : (costM (partsM F.bs) : Int) + 20 ≤ F.bs.length) :
    M.openC = 0 ∧ ∃ F', Calm M.openM room (some F') F3 ∧ F'.bs = F.bs.take (costM (partsM F.bs) + 20) ∧ (F.syn = F.bs.length → F'.syn = F'.bs.length) ∧ F'.kept = F.kept := by
  have hr : M.readB 0 = F.bs := h.read (by decide) h.f0
  have hne : M.files 0 ≠ none := by rw [h.f0]; simp
  have l1 : M.loadC = 0 := by unfold AD.loadC; rw [h.opC (by decide) hne, if_pos rfl, hr]; exact hl
  have l2 : M.loadM = M.met := h.opM (by decide) hne _
  have hm := h.met
  have hne2 : M.met.files 0 ≠ none := by rw [hm.f0]; simp
  have hend : M.endM = (costM (partsM F.bs) : Int) + 20 := by unfold AD.endM; rw [hr]
  have ha : M.met.ask 0 [] = 0 := hm.ask (by decide) hne2
  have hln : M.met.len 0 = F.bs.length := by unfold AD.len; rw [hm.f0]
  obtain ⟨c1, F', c2, c3, c4, c5⟩ : M.cutC = 0 ∧ ∃ F', Calm M.cutM room (some F') F3 ∧ F'.bs = F.bs.take (costM (partsM F.bs) + 20) ∧ (F.syn = F.bs.length → F'.syn = F'.bs.length) ∧ F'.kept = F.kept := by
    unfold AD.cutC AD.cutM
    rw [l2]
    unfold AD.trimC AD.trimM
    by_cases hc : (M.met.len 0 : Int) ≤ M.endM
    · rw [if_pos hc, if_pos hc]
      rw [hln, hend] at hc
      exact ⟨rfl, F, hm, (List.take_of_length_le (by omega)).symm, fun e => e, rfl⟩
    · rw [if_neg hc, if_neg hc]
      unfold AD.truncC AD.truncM
      rw [if_pos ha, if_pos ha, hln, hend, if_neg (by omega), if_neg (by omega), hm.err, if_pos rfl]
      have hf : M.met.file 0 = F := by unfold AD.file; rw [hm.f0]; rfl
      refine ⟨rfl, F.cut (((costM (partsM F.bs) : Nat) : Int) + 20).toNat, ?_, ?_, ?_, rfl⟩
      · rw [hf]; exact hm.met.put0 _
      · show F.bs.take _ = _; congr 1
      · intro e
        show min F.syn _ = (F.bs.take _).length
        rw [e, List.length_take]
        omega
  obtain ⟨d1, d2⟩ := c2.dropC
  refine ⟨?_, F', ?_, c3, c4, c5⟩
  · unfold AD.openC; rw [l1, if_neg (by simp), c1, if_neg (by simp)]; exact d1
  · unfold AD.openM; rw [l1, if_neg (by simp), c1, if_neg (by simp), d2]; exact c2
end

end Go.Proofs.YtienabfilnpieaaGreat

namespace Go.Proofs.YtienabfilnpieaaGreat
open Go.RowKit
set_option linter.unusedVariables false
set_option linter.unusedSimpArgs false
set_option maxRecDepth 100000

/-! ### fresh -/
def fm0 : AD := AD.new 940
def fm1 : AD := fm0.makeM (fileM 400 [])
theorem fm_bad : ¬ BadF fm0 400 := by decide +kernel
theorem fm0_calm : Calm fm0 940 none none := ⟨rfl, rfl, rfl, rfl, rfl, rfl, rfl, rfl⟩
theorem fm_make : fm0.makeC (fileM 400 []) = 0 ∧ Calm fm1 940 (setF (logB 400 [[]])) none := by
  rw [logB_one]
  exact fm0_calm.make (fileM 400 []) (by rw [fileM_len]; simp [lenF])
theorem fm_ops : fm1.ops ≤ 10 := by decide +kernel
/-- A log that is played with, on a disk on which nothing goes wrong; all since w0. -/
structure Play (w0 W : World) (S T : Nat → Prop) (g d : Nat) (V : AW) (M : AD) (F3 : Option AF) : Prop where
  log : Log W S T g d V M
  calm : Calm M 940 (setF (logB 400 V.parts)) F3
  most : V.most = 400
  live : V.broken = false
  oct : ∀ p ∈ V.parts, Oct p
  bel : Below w0.heap.size w0 W
  up : ∀ k, S k ∨ T k → w0.heap.size ≤ k
theorem Play.later {w0 W W' : World} {S T : Nat → Prop} {g d : Nat} {V : AW} {M : AD} {F3 : Option AF} (h : Play w0 W S T g d V M F3) (hb : Below W.heap.size W W') : Play w0 W' S T g d V M F3 :=
  ⟨⟨h.log.wal.later hb, h.log.disk.later hb, h.log.sep, h.log.ok⟩, h.calm, h.most, h.live, h.oct, h.bel.trans (hb.mono h.bel.size), h.up⟩

set_option maxHeartbeats 1000000 in
theorem fresh_any (w : World) : Calls Tryz.prog 21 #[] w fun e w' => ∃ g d S T, e = .returned (.tuple #[.pointer (some ⟨g, 0, none⟩), .pointer (some ⟨d, 0, none⟩), .bool true]) ∧ Play w w' S T g d (newW 400) fm1 none := by
  go_enter Tryz.func21, Tryz.ntmps21
  go_wp2_with fail
  refine (new_yes w 940 (by omega) (by omega)).mono ?_
  rintro e w1 ⟨rfl, hd, hb1⟩
  have HD := Lib.hid hd
  have HB1 := Lib.hid hb1
  clear hd hb1
  go_wp2_with fail
  refine (format_any HD.out (by decide) 400).mono ?_
  rintro e w2 hf
  rcases hf with ⟨hbad, _⟩ | ⟨_, hc, _⟩ | ⟨_, _, g, S', T, rfl, hw, hwal, hT⟩
  · exact absurd hbad fm_bad
  · exact absurd fm_make.1 hc
  have HW := Lib.hid hw
  have HWAL := Lib.hid hwal
  have HT := Lib.hid hT
  clear hw hwal hT
  go_wp2
  refine bodyPost_ret (v := .tuple #[.pointer (some ⟨g, 0, none⟩), .pointer (some ⟨w.heap.size + 1, 0, none⟩), .bool true]) (by simp [results, Tryz.results21, go_sem]) rfl ?_
  have s1 := HB1.out.size
  have hup : ∀ k, S' k ∨ T k → w.heap.size ≤ k := fun k hk => by
    rcases hk with e | e
    · rcases HW.out.grow k e with e | e
      · rcases e with e | e <;> omega
      · omega
    · have := (HT.out k e).1; omega
  refine ⟨g, _, S', T, rfl, ⟨HWAL.out, HW.out.at_, fun k hk => (HT.out k hk).2, newW_ok ⟨by omega, by omega⟩⟩, fm_make.2, rfl, rfl, ?_, ?_, hup⟩
  · intro p hp
    have : p = [] := by simpa [newW] using hp
    subst this
    intro b hb
    simp at hb
  · exact ⟨HW.out.turn.os.trans HB1.out.os, HW.out.turn.tape.trans HB1.out.tape, HW.out.turn.output.trans HB1.out.output, Nat.le_trans HB1.out.size HW.out.turn.size, fun k hk => (HW.out.turn.block k (Nat.lt_of_lt_of_le hk HB1.out.size) (fun e => by rcases e with e | e <;> omega)).trans (HB1.out.block k hk)⟩

/-! ### has -/
/-- Rows of bytes that can be read. -/
def Recs (w : World) (A : Option Addr) (ps : List (List Int)) : Prop :=
  ∀ i p, ps[i]? = some p → ∃ b o B cb, A = some ⟨b, o, none⟩ ∧ b < w.heap.size ∧ w.cell? ⟨b, o + i, none⟩ = some (.slice B p.length cb) ∧ Sl w B cb p ∧ Oct p
theorem Recs.later {w w' : World} {A : Option Addr} {ps : List (List Int)} (h : Recs w A ps) (hb : Below w.heap.size w w') : Recs w' A ps := fun i p hp => by
  obtain ⟨b, o, B, cb, h1, h2, h3, h4, h5⟩ := h i p hp
  exact ⟨b, o, B, cb, h1, Nat.lt_of_lt_of_le h2 hb.size, (hb.cell (p := ⟨b, o + i, none⟩) h2).trans h3, h4.below hb, h5⟩
theorem Recs.take {w : World} {A : Option Addr} {ps : List (List Int)} (h : Recs w A ps) (k : Nat) : Recs w A (ps.take k) := fun i p hp => h i p (by
  rw [List.getElem?_take] at hp
  split at hp
  · exact hp
  · cases hp)
theorem PartsAt.recs {w : World} {T : Nat → Prop} {A : Option Addr} {c : Nat} {ps : List (List Int)} {vs : List Value} (h : PartsAt w T A c ps vs) : Recs w A ps := fun i p hp => by
  obtain ⟨b, q, B, cb, hA, hq, hc, hr, _, ho⟩ := h.at_ (k := i) (List.getElem?_eq_some_iff.1 hp).1
  rw [hp] at hq
  injection hq with hq
  subst hq
  exact ⟨b, 0, B, cb, hA, World.block_lt_of_cell? w _ hc, by simpa using hc, Sl.ofRow hr rfl, ho⟩
theorem RowsAt.recs {w : World} {base : Nat} {v : Value} {ps : List (List Int)} {vs : List Value} (h : RowsAt w base v ps vs) (ho : ∀ p ∈ ps, Oct p) : ∃ A c, v = .slice A ps.length c ∧ Recs w A ps := by
  obtain ⟨A, c, rfl, hlc, hcm⟩ := own_form h.row
  refine ⟨A, c, rfl, fun i p hp => ?_⟩
  have hi := (List.getElem?_eq_some_iff.1 hp).1
  obtain ⟨B, cb, h1, h2⟩ := h.each i p hp
  rcases h.row.2 with ⟨_, e⟩ | ⟨b, cap, cur, e, _⟩
  · omega
  · injection e with e1 e2 e3
    subst e1
    subst e3
    have hc := (h.row.cellAt i (by omega)).trans h1
    exact ⟨b, 0, B, cb, rfl, World.block_lt_of_cell? w _ hc, by simpa using hc, Sl.ofRow h2 rfl, ho p (List.mem_of_getElem? hp)⟩
theorem recs_equal {w : World} {A1 A2 : Option Addr} {xs ys : List (List Int)} (h1 : Recs w A1 xs) (h2 : Recs w A2 ys) {k : Nat} (hx : k < xs.length) (hy : k < ys.length) :
    ∃ b1 o1 B1 c1 b2 o2 B2 c2 l1 l2, A1 = some ⟨b1, o1, none⟩ ∧ A2 = some ⟨b2, o2, none⟩ ∧ w.cell? ⟨b1, o1 + k, none⟩ = some (.slice B1 l1 c1) ∧ w.cell? ⟨b2, o2 + k, none⟩ = some (.slice B2 l2 c2) ∧
      ∀ q, Calls Tryz.prog 17 #[.slice B1 l1 c1, .slice B2 l2 c2] (w.drewN q) fun e w' => e = .returned (.bool (decide (xs[k]? = ys[k]?))) ∧ w' = w.drewN q := by
  obtain ⟨x, hxk⟩ : ∃ x, xs[k]? = some x := ⟨xs[k], List.getElem?_eq_getElem hx⟩
  obtain ⟨y, hyk⟩ : ∃ y, ys[k]? = some y := ⟨ys[k], List.getElem?_eq_getElem hy⟩
  obtain ⟨b1, o1, B1, c1, rfl, _, h3, h4, h5⟩ := h1 k x hxk
  obtain ⟨b2, o2, B2, c2, rfl, _, h6, h7, h8⟩ := h2 k y hyk
  refine ⟨b1, o1, B1, c1, b2, o2, B2, c2, _, _, rfl, rfl, h3, h6, fun q => ?_⟩
  have hb : Below w.heap.size w (w.drewN q) := below_drewN (Below.refl _ w) q
  have e := equalAny B1 B2 c1 c2 x y (w.drewN q) (h4.below hb).rd (h7.below hb).rd h5 h8
  have hd : decide (xs[k]? = ys[k]?) = decide (x = y) := by rw [hxk, hyk]; simp
  rw [hd]
  exact e.mono fun _ _ h => ⟨h.1, h.2.symm⟩
theorem take_eq_succ {xs ys : List (List Int)} {k : Nat} (h : xs.take k = ys.take k) (hk : xs[k]? = ys[k]?) : xs.take (k + 1) = ys.take (k + 1) := by rw [List.take_add_one, List.take_add_one, h, hk]

def HasAs (w : World) (b : Bool) (e : Ending) (w' : World) : Prop := e = .returned (.bool b) ∧ Below w.heap.size w w'
set_option maxHeartbeats 2000000 in
theorem has_same {w : World} {T : Nat → Prop} {g d : Nat} {V : AW} (h : WalAt w T g d V) {s : List Int} {rs recs : List (List Int)} (hp : V.parts = s :: rs) (hb : costM V.parts ≤ 1000000) (C A : Option Addr) (cc c : Nat) (hsn : Sl w C cc s) (hr : Recs w A recs) (hl : rs.length = recs.length) :
    Calls Tryz.prog 29 #[.pointer (some ⟨g, 0, none⟩), .slice C s.length cc, .slice A recs.length c] w (HasAs w (decide (rs = recs))) := by
  have hoct : ∀ p ∈ V.parts, Oct p := fun p hm => by
    obtain ⟨A1, c1, vs, hi⟩ := h
    obtain ⟨i, hi'⟩ := List.mem_iff_getElem?.1 hm
    obtain ⟨_, _, _, _, _, ho⟩ := hi.parts.each i p hi'
    exact ho
  have hcl := costM_len V.parts
  have hpl : V.parts.length = recs.length + 1 := by rw [hp]; simp [hl]
  have hcs : s.length ≤ 1000000 := by
    have := costM_mem (ps := V.parts) (k := 0) (p := s) (by rw [hp]; rfl)
    omega
  have HAL := Lib.hid (all_any h (by omega) hb)
  have hd1 : V.parts.drop 1 = rs := by rw [hp]; rfl
  rw [hd1] at HAL
  have HSN := Lib.hid (fun (W : World) (hW : Below w.heap.size w W) => snap_any (h.later hW) (s := s) (by rw [hp]; rfl) hcs)
  have HEQ := Lib.hid (fun (W : World) (hW : Below w.heap.size w W) (B : Option Addr) (cb : Nat) (hN : Sl W B cb s) => equalAny B C cb cc s s W hN.rd (hsn.below hW).rd (hoct s (by rw [hp]; simp)) (hoct s (by rw [hp]; simp)))
  rw [show decide (s = s) = true from decide_eq_true rfl] at HEQ
  have HLN := Lib.hid (fun (W : World) (hW : Below w.heap.size w W) => (len_any (h.later hW) (by omega)).mono (R' := fun e w' => e = .returned (.int .i64 (recs.length : Nat)) ∧ W = w') (fun e w' hh => ⟨by rw [hh.1, hpl]; congr 2; omega, hh.2⟩))
  have HO := Lib.hid (fun p (hm : p ∈ rs) => hoct p (by rw [hp]; simp [hm]))
  have HR := Lib.hid (fun (W : World) (hW : Below w.heap.size w W) => hr.later hW)
  have HL := Lib.hid hl
  obtain ⟨n, hn⟩ : ∃ n, n = recs.length := ⟨_, rfl⟩
  have HN := Lib.hid hn
  have hnb : n ≤ 1000000 := by omega
  rw [← hn] at HLN ⊢
  clear h hp hb hsn hr hl hoct hcl hpl hcs hd1 hn
  go_enter Tryz.func29, Tryz.ntmps29
  go_wp2_with fail
  refine HAL.out.mono ?_
  rintro e w1 ⟨v, vs1, rfl, hrows, hb1⟩
  obtain ⟨A1, c1, rfl, hrecs⟩ := hrows.recs HO.out
  rw [HL.out, ← HN.out]
  have HB1 := Lib.hid hb1
  have HX := Lib.hid hrecs
  clear hrows hb1 hrecs
  go_wp2_with fail
  refine (HSN.out _ HB1.out).mono ?_
  rintro e w2 ⟨A2, c2, rfl, hn2, hb2⟩
  have HB2 := Lib.hid (HB1.out.trans (hb2.mono HB1.out.size))
  have HX2 := Lib.hid (HX.out.later hb2)
  have HE := Lib.hid (HEQ.out w2 (HB1.out.trans (hb2.mono HB1.out.size)) A2 c2 hn2.sl)
  clear hn2 hb2
  go_wp2_with (first
    | (go_at_call 17; (with_reducible refine HE.out.mono ?_); rintro e w' ⟨rfl, rfl⟩)
    | (go_at_call 32; refine (HLN.out _ HB2.out).mono ?_; rintro e w' ⟨rfl, rfl⟩))
  have HY2 := Lib.hid (HR.out _ HB2.out)
  clear HSN HEQ HLN HR HE HX HAL
  go_loopw [32] (fun i wr => ∃ k : Nat, i = .int .i64 k ∧ k ≤ n ∧ Hid (rs.take k = recs.take k) ∧ Hid (∃ q, wr = w2.drewN q)) (fun i _ => n - (match i with | .int _ k => k.toNat | _ => 0))
  case atStart => exact ⟨0, rfl, Nat.zero_le _, Lib.hid rfl, Lib.hid ⟨0, rfl⟩⟩
  case round =>
    obtain ⟨k, rfl, hk, HK, HW⟩ := hrel
    by_cases hkn : k < n
    · have hkk : (k : Int) < n := by omega
      have k0 : (0 : Int) ≤ (k : Int) := by omega
      obtain ⟨b1, o1, B1, d1, b2, o2, B2, d2, l1, l2, rfl, rfl, hx, hy, heq⟩ := recs_equal HX2.out HY2.out (k := k) (by rw [HL.out, ← HN.out]; exact hkn) (by rw [← HN.out]; exact hkn)
      have HE := Lib.hid (fun r => show Calls Tryz.prog 17 #[.slice B1 l1 d1, .slice B2 l2 d2] (wr.drewN r) fun e w' => e = .returned (.bool (decide (rs[k]? = recs[k]?))) ∧ w' = wr.drewN r from by
        obtain ⟨q, e⟩ := HW.out
        rw [e, World.drewN_drewN]
        exact heq _)
      have hx : wr.cell? ⟨b1, o1 + k, none⟩ = some (.slice B1 l1 d1) := by obtain ⟨q, e⟩ := HW.out; rw [e]; exact hx
      have hy : wr.cell? ⟨b2, o2 + k, none⟩ = some (.slice B2 l2 d2) := by obtain ⟨q, e⟩ := HW.out; rw [e]; exact hy
      clear heq
      by_cases hd : rs[k]? = recs[k]?
      · rw [decide_eq_true hd] at HE
        have HD := Lib.hid hd
        clear hd
        go_wp2_with fail
        go_quiet ((go_at_call 17; with_reducible refine Calls.quiet_of_same (HE.out _)))
        go_wp2
        go_roundw
        case rel => exact ⟨k + 1, by go_num, by omega, Lib.hid (take_eq_succ HK.out HD.out), Lib.hid (by obtain ⟨q, e⟩ := HW.out; exact ⟨q + nq, by rw [e, World.drewN_drewN]⟩)⟩
        case measure => simp; omega
      · rw [decide_eq_false hd] at HE
        have HD := Lib.hid (show decide (rs = recs) = false from decide_eq_false (fun e => hd (by rw [e])))
        clear hd
        go_wp2_with fail
        go_quiet ((go_at_call 17; with_reducible refine Calls.quiet_of_same (HE.out _)))
        go_wp2
        go_ret
        rw [HD.out]
        refine ⟨rfl, HB2.out.trans ?_⟩
        obtain ⟨q, e⟩ := HW.out
        rw [e, World.drewN_drewN]
        exact below_drewN (Below.refl _ _ |>.mono HB2.out.size) _
    · obtain rfl : k = n := by omega
      have HD := Lib.hid (show decide (rs = recs) = true from decide_eq_true (by
        have e := HK.out
        rwa [List.take_of_length_le (by rw [HL.out, ← HN.out]; omega), List.take_of_length_le (by rw [← HN.out]; omega)] at e))
      go_wp2
      go_ret
      rw [HD.out]
      refine ⟨rfl, HB2.out.trans ?_⟩
      obtain ⟨q, e⟩ := HW.out
      rw [e]
      exact below_drewN (Below.refl _ _ |>.mono HB2.out.size) _

end Go.Proofs.YtienabfilnpieaaGreat

namespace Go.Proofs.YtienabfilnpieaaGreat
open Go.RowKit
set_option linter.unusedVariables false
set_option linter.unusedSimpArgs false
set_option maxRecDepth 100000

theorem Play.other {w0 W W' : World} {S T Q : Nat → Prop} {g d : Nat} {V : AW} {M : AD} {F3 : Option AF} (h : Play w0 W S T g d V M F3) (ht : Turn Q W W') (hd : ∀ k, S k ∨ T k → ¬ Q k) (hq : ∀ k, Q k → w0.heap.size ≤ k) : Play w0 W' S T g d V M F3 :=
  ⟨⟨h.log.wal.other ht (fun k hk => hd k (.inr hk)), h.log.disk.other ht (fun k hk => hd k (.inl hk)), h.log.sep, h.log.ok⟩, h.calm, h.most, h.live, h.oct, h.bel.trans (ht.below h.bel.size hq), h.up⟩
theorem layM_ops (M : AD) (fr : List Int) : (M.layM fr).ops ≤ M.ops + 2 := by
  have h1 := appendM_ops M 0 fr
  unfold AD.layM
  split
  · omega
  · have := opM_ops (M := M.appendM 0 fr) (M' := (M.appendM 0 fr).met.put 0 ((M.appendM 0 fr).file 0).settled) 0 [] rfl
    omega
theorem makeM_ops (M : AD) (bs : List Int) : (M.makeM bs).ops ≤ M.ops + 4 := by
  have h1 := st_ops M bs 1
  have h2 := st_ops M bs 2
  have h3 := st_ops M bs 3
  have h4 := st_ops M bs 4
  unfold AD.makeM
  split
  · exact h1
  · split
    · exact h2
    · split
      · exact h3
      · exact h4
theorem moved_up {S T S' T' : Nat → Prop} {w0 w w' : World} (h : Moved S T S' T' w w') (hb : Below w0.heap.size w0 w) (hu : ∀ k, S k ∨ T k → w0.heap.size ≤ k) : Below w0.heap.size w0 w' ∧ ∀ k, S' k ∨ T' k → w0.heap.size ≤ k := by
  have hz := hb.size
  refine ⟨⟨h.turn.os.trans hb.os, h.turn.tape.trans hb.tape, h.turn.output.trans hb.output, Nat.le_trans hz h.turn.size, fun k hk => (h.turn.block k (by omega) (fun e => by have := hu k e; omega)).trans (hb.block k hk)⟩, fun k hk => ?_⟩
  rcases hk with e | e
  · rcases h.s k e with e | e
    · exact hu k (.inl e)
    · omega
  · rcases h.t k e with e | e
    · exact hu k (.inr e)
    · omega
/-- What an Append answers of a log that is played with, and what it makes of it. -/
def AW.gives (V : AW) (b : List Int) : Int := if V.room < (b.length : Int) + 12 then 6 else 0
def AW.grows (V : AW) (b : List Int) : AW := if V.room < (b.length : Int) + 12 then V else ⟨V.most, V.parts ++ [b], false⟩
theorem logB_room {w : World} {S T : Nat → Prop} {g d : Nat} {V : AW} {M : AD} (h : Log w S T g d V M) : (logB V.most V.parts).length = costM V.parts + 20 := logB_len _ _
theorem play_append {w0 W : World} {S T : Nat → Prop} {g d : Nat} {V : AW} {M : AD} {F3 : Option AF} (h : Play w0 W S T g d V M F3) (hf3 : lenF F3 ≤ 60) (hops : M.ops < 4611686018427387000) {A : Option Addr} {l c : Nat} {b : List Int} (hl : b.length = l) (hs : Sl W A c b) (ho : Oct b) (hb : l ≤ 300) (hA : ∀ k, blk A = some k → ¬ S k) :
    Calls Tryz.prog 23 #[.pointer (some ⟨g, 0, none⟩), .slice A l c] W fun e W' => e = .returned (.int .i64 (V.gives b)) ∧ ∃ S' T' M', Play w0 W' S' T' g d (V.grows b) M' F3 ∧ Moved S T S' T' W W' ∧ M'.ops ≤ M.ops + 2 := by
  have hk := append_anyW h.log hops hl hs ho (by omega) hA
  have hr : V.refC b.length V.room = V.gives b := by
    unfold AW.refC AW.gives fitsC
    rw [h.live, if_neg (by decide), if_neg (by omega)]
  have hcost := h.log.ok.cost
  have hmost := h.most
  by_cases hf : V.room < (b.length : Int) + 12
  · have hg : V.gives b = 6 := if_pos hf
    have hv : V.grows b = V := if_pos hf
    have e1 : V.appC M b = 6 := by unfold AW.appC; rw [hr, hg]; rfl
    have e2 : V.appV M b = V := by unfold AW.appV; rw [hr, hg]; rfl
    have e3 : V.appD M b = M := by unfold AW.appD; rw [hr, hg]; rfl
    rw [e1, e2, e3] at hk
    rw [hg, hv]
    refine hk.mono ?_
    rintro e W' ⟨rfl, S', T', hlog, hmv⟩
    obtain ⟨u1, u2⟩ := moved_up hmv h.bel h.up
    exact ⟨rfl, S', T', M, ⟨hlog, h.calm, h.most, h.live, h.oct, u1, u2⟩, hmv, by omega⟩
  · have hg : V.gives b = 0 := if_neg hf
    have hv : V.grows b = ⟨V.most, V.parts ++ [b], false⟩ := if_neg hf
    have hroom : (costM V.parts : Int) + b.length + 12 ≤ 400 := by unfold AW.room at hf; omega
    obtain ⟨l1, l2⟩ := h.calm.lay (frameM V.parts.length b) (by rw [logB_len, frameM_len]; omega)
    have e1 : V.appC M b = 0 := by unfold AW.appC; rw [hr, hg, if_neg (by simp)]; exact l1
    have e2 : V.appV M b = ⟨V.most, V.parts ++ [b], false⟩ := by unfold AW.appV; rw [hr, hg, if_neg (by simp), l1, if_neg (by simp)]
    have e3 : V.appD M b = M.layM (frameM V.parts.length b) := by unfold AW.appD; rw [hr, hg, if_neg (by simp)]
    rw [e1, e2, e3] at hk
    rw [hg, hv]
    refine hk.mono ?_
    rintro e W' ⟨rfl, S', T', hlog, hmv⟩
    obtain ⟨u1, u2⟩ := moved_up hmv h.bel h.up
    refine ⟨rfl, S', T', _, ⟨hlog, ?_, h.most, rfl, ?_, u1, u2⟩, hmv, layM_ops _ _⟩
    · show Calm _ 940 (setF (logB 400 (V.parts ++ [b]))) F3
      rw [logB_snoc]
      exact l2
    · intro p hp
      have hp : p ∈ V.parts ++ [b] := hp
      rcases List.mem_append.1 hp with e | e
      · exact h.oct p e
      · have : p = b := by simpa using e
        subst this
        exact ho
def AW.givesC (V : AW) (b : List Int) : Int := if (400 : Int) < (b.length : Int) + 12 then 6 else 0
def AW.fresh (V : AW) (b : List Int) : AW := if (400 : Int) < (b.length : Int) + 12 then V else ⟨V.most, [b], false⟩
theorem play_check {w0 W : World} {S T : Nat → Prop} {g d : Nat} {V : AW} {M : AD} {F3 : Option AF} (h : Play w0 W S T g d V M F3) (hf3 : lenF F3 ≤ 60) (hops : M.ops < 4611686018427387000) {A : Option Addr} {l c : Nat} {b : List Int} (hl : b.length = l) (hs : Sl W A c b) (ho : Oct b) (hb : l ≤ 300) (hA : ∀ k, blk A = some k → ¬ S k) :
    Calls Tryz.prog 24 #[.pointer (some ⟨g, 0, none⟩), .slice A l c] W fun e W' => e = .returned (.int .i64 0) ∧ ∃ S' T' M', Play w0 W' S' T' g d ⟨400, [b], false⟩ M' F3 ∧ Moved S T S' T' W W' ∧ M'.ops ≤ M.ops + 4 := by
  have hk := check_anyW h.log hops hl hs ho (by omega) hA
  have hcost := h.log.ok.cost
  have hmost := h.most
  have hr : V.refC b.length V.most = 0 := by
    unfold AW.refC fitsC
    rw [h.live, if_neg (by decide), if_neg (by omega), if_neg (by omega)]
  obtain ⟨l1, l2⟩ := h.calm.make (fileM V.most b) (by rw [fileM_len, show lenF (setF (logB 400 V.parts)) = (logB 400 V.parts).length from rfl, logB_len]; omega)
  have e1 : V.chkC M b = 0 := by unfold AW.chkC; rw [hr, if_neg (by simp)]; exact l1
  have e2 : V.chkV M b = ⟨400, [b], false⟩ := by unfold AW.chkV; rw [hr, if_neg (by simp), l1, if_neg (by simp), hmost]
  have e3 : V.chkD M b = M.makeM (fileM V.most b) := by unfold AW.chkD; rw [hr, if_neg (by simp)]
  rw [e1, e2, e3] at hk
  refine hk.mono ?_
  rintro e W' ⟨rfl, S', T', hlog, hmv⟩
  obtain ⟨u1, u2⟩ := moved_up hmv h.bel h.up
  refine ⟨rfl, S', T', _, ⟨hlog, ?_, rfl, rfl, ?_, u1, u2⟩, hmv, makeM_ops _ _⟩
  · show Calm _ 940 (setF (logB 400 [b])) F3
    rw [logB_one, ← hmost]
    exact l2
  · intro p hp
    have hp : p ∈ [b] := hp
    have : p = b := by simpa using hp
    subst this
    exact ho
theorem play_room {w0 W : World} {S T : Nat → Prop} {g d : Nat} {V : AW} {M : AD} {F3 : Option AF} (h : Play w0 W S T g d V M F3) : 0 ≤ V.room ∧ V.room ≤ 388 ∧ V.room = 400 - (costM V.parts : Int) ∧ V.parts.length ≤ 40 := by
  have h1 := h.log.ok.cost
  have h2 := h.log.ok.one
  have h3 := costM_len V.parts
  have h4 := h.most
  unfold AW.room
  omega
theorem play_left {w0 W : World} {S T : Nat → Prop} {g d : Nat} {V : AW} {M : AD} {F3 : Option AF} (h : Play w0 W S T g d V M F3) : Calls Tryz.prog 30 #[.pointer (some ⟨g, 0, none⟩)] W fun e w' => e = .returned (.int .i64 V.room) ∧ Below W.heap.size W w' :=
  left_any' h.log.wal h.log.ok.lim (by have := (play_room h).2.2.1; have := (play_room h).1; omega)

/-- A row of bytes more, in memory of its own. -/
theorem PartsAt.more {W W2 : World} {T U : Nat → Prop} {A : Option Addr} {c : Nat} {ps : List (List Int)} {vs : List Value} (h : PartsAt W T A c ps vs) {b : List Int} (ho : Oct b) {A1 : Option Addr} {c1 : Nat}
    (hn : W.ownsRow 0 5 1 (.slice A1 b.length c1) b.length (b.map (Value.int .u8))) {A2 : Option Addr} {c2 : Nat} (hr : W2.ownsRow 0 33 1 (.slice A2 (ps.length + 1) c2) (ps.length + 1) (vs ++ [.slice A1 b.length c1])) (hg : W.grownBy W2 (blk A)) {q : Nat} (hl : blk A2 = blk A ∨ (blk A2 = some q ∧ U q)) (hU : ∀ k, blk A1 = some k → U k) :
    PartsAt W2 (fun k => T k ∨ U k) A2 c2 (ps ++ [b]) (vs ++ [.slice A1 b.length c1]) := by
  have hne : (5 : TypeId) ≠ 33 := by decide
  have hvl : vs.length = ps.length := by have := h.row.1; omega
  have hob : (Value.slice A ps.length c).ownBlock = blk A := by cases A <;> rfl
  have keepU : ∀ {B : Option Addr} {cb : Nat} {p : List Int}, W.ownsRow 0 5 1 (.slice B p.length cb) p.length (p.map (Value.int .u8)) → W2.ownsRow 0 5 1 (.slice B p.length cb) p.length (p.map (Value.int .u8)) := fun {B cb p} hp =>
    hp.kept hg (by
      have := own_apart hne hp h.row
      rw [hob] at this
      exact this)
  refine ⟨by rw [List.length_append]; exact hr, fun i p hp => ?_, fun k hk => ?_⟩
  · by_cases hi : i < ps.length
    · rw [List.getElem?_append_left hi] at hp
      obtain ⟨B, cb, h1, h2, h3, h4⟩ := h.each i p hp
      exact ⟨B, cb, by rw [List.getElem?_append_left (by omega)]; exact h1, keepU h2, fun k hk => .inl (h3 k hk), h4⟩
    · rw [List.getElem?_append_right (by omega)] at hp
      have hi0 : i - ps.length = 0 := by
        rcases hd : i - ps.length with _ | j
        · rfl
        · rw [hd] at hp; simp at hp
      rw [hi0] at hp
      have hp : b = p := by simpa using hp
      subst hp
      exact ⟨A1, c1, by rw [List.getElem?_append_right (by omega), hvl, hi0]; rfl, keepU hn, fun k hk => .inr (hU k hk), ho⟩
  · rcases hl with e | ⟨e, hq⟩
    · rw [e] at hk
      exact .inl (h.rowT k hk)
    · rw [e] at hk
      have : q = k := by simpa using hk
      exact .inr (this ▸ hq)

/-- WalCuts' first loop: the log, and the records that it took. -/
def CutI (w0 W : World) (g d k : Nat) (A : Option Addr) (c : Nat) (recs : List (List Int)) : Prop :=
  ∃ S T V M R vs, Play w0 W S T g d V M none ∧ V.parts = [] :: recs ∧ PartsAt W R A c recs vs ∧ (∀ q, R q → w0.heap.size ≤ q ∧ q < W.heap.size ∧ ¬ S q ∧ ¬ T q) ∧ M.ops ≤ 10 + 2 * (k : Int)
theorem cutI_start {w0 W : World} {S T : Nat → Prop} {g d : Nat} (h : Play w0 W S T g d (newW 400) fm1 none) : CutI w0 W g d 0 none 0 [] :=
  ⟨S, T, _, _, fun _ => False, [], h, rfl, ⟨World.ownsRow_nil _ _ _ _, fun i p hp => by simp at hp, fun k hk => by simp [blk] at hk⟩, fun q hq => hq.elim, by have := fm_ops; omega⟩
/-- A round that lays nothing. -/
theorem cutI_same {w0 W W1 W2 : World} {g d k : Nat} {A : Option Addr} {c : Nat} {recs : List (List Int)} {S T S' T' R : Nat → Prop} {V : AW} {M M' : AD} {vs : List Value} (hb : Below W.heap.size W W1) (hp : Play w0 W2 S' T' g d V M' none) (hparts : V.parts = [] :: recs) (hr : PartsAt W R A c recs vs) (hR : ∀ q, R q → w0.heap.size ≤ q ∧ q < W.heap.size ∧ ¬ S q ∧ ¬ T q) (hm : Moved S T S' T' W1 W2) (hops : M.ops ≤ 10 + 2 * (k : Int)) (ho2 : M'.ops ≤ M.ops + 2) :
    CutI w0 W2 g d (k + 1) A c recs := by
  have h1 := hb.size
  have h2 := hm.turn.size
  refine ⟨S', T', V, M', R, vs, hp, hparts, hr.turn (fun q hq => ?_), fun q hq => ?_, by omega⟩
  · obtain ⟨a1, a2, a3, a4⟩ := hR q hq
    exact (hm.turn.block q (by omega) (fun e => e.elim a3 a4)).trans (hb.block q a2)
  · obtain ⟨a1, a2, a3, a4⟩ := hR q hq
    refine ⟨a1, by omega, fun e => ?_, fun e => ?_⟩
    · exact (hm.s q e).elim a3 (fun e => by omega)
    · exact (hm.t q e).elim a4 (fun e => by omega)
theorem cutI_more {w0 W W1 W2 W3 W4 : World} {g d k : Nat} {A : Option Addr} {c : Nat} {recs : List (List Int)} {S T S' T' R : Nat → Prop} {V' : AW} {M M' : AD} {vs : List Value} {b : List Int} {A1 : Option Addr} {c1 : Nat}
    (hb : Below W.heap.size W W1) (ho : Oct b) (hn : W1.ownsRow W.heap.size 5 1 (.slice A1 b.length c1) b.length (b.map (Value.int .u8))) (hp : Play w0 W2 S' T' g d V' M' none) (hparts : V'.parts = ([] :: recs) ++ [b]) (hr : PartsAt W R A c recs vs) (hR : ∀ q, R q → w0.heap.size ≤ q ∧ q < W.heap.size ∧ ¬ S q ∧ ¬ T q) (hlow : ∀ q, S q ∨ T q → q < W.heap.size) (hup : w0.heap.size ≤ W.heap.size) (hm : Moved S T S' T' W1 W2) (hops : M.ops ≤ 10 + 2 * (k : Int)) (ho2 : M'.ops ≤ M.ops + 2)
    (hb3 : Below W2.heap.size W2 W3) {A2 : Option Addr} {c2 : Nat} (hrow : W4.ownsRow 0 33 1 (.slice A2 (recs.length + 1) c2) (recs.length + 1) (vs ++ [.slice A1 b.length c1])) (hg : W3.grownBy W4 (blk A)) (hl : blk A2 = blk A ∨ blk A2 = some W3.heap.size) :
    CutI w0 W4 g d (k + 1) A2 c2 (recs ++ [b]) := by
  have h1 := hb.size
  have h2 := hm.turn.size
  have h3 := hb3.size
  have h4 := hg.size
  have hRk : ∀ q, R q → W3.heap[q]? = W.heap[q]? := fun q hq => by
    obtain ⟨a1, a2, a3, a4⟩ := hR q hq
    exact (hb3.block q (by omega)).trans ((hm.turn.block q (by omega) (fun e => e.elim a3 a4)).trans (hb.block q a2))
  have hnl : ∀ q, blk A1 = some q → W.heap.size ≤ q ∧ q < W1.heap.size := fun q hq => hn.lt q (by cases A1 <;> simp_all [Value.ownBlock, blk])
  have hn3 : W3.ownsRow 0 5 1 (.slice A1 b.length c1) b.length (b.map (Value.int .u8)) := row_same (New.low (A := A1) (bs := b) hn (Nat.zero_le _)) fun q hq => by
    obtain ⟨a1, a2⟩ := hnl q hq
    exact (hb3.block q (by omega)).trans (hm.turn.block q a2 (fun e => by have := hlow q e; omega))
  have hqS : ∀ q, R q → ¬ S' q ∧ ¬ T' q := fun q hq => by
    obtain ⟨a1, a2, a3, a4⟩ := hR q hq
    exact ⟨fun e => (hm.s q e).elim a3 (fun e => by omega), fun e => (hm.t q e).elim a4 (fun e => by omega)⟩
  have hpl : Play w0 W4 S' T' g d V' M' none := (hp.later hb3).other (Q := fun q => blk A = some q) (Turn.of_grown hg (fun q hq => .inl hq)) (fun q hq e => by
    have := hqS q (hr.rowT q e)
    rcases hq with e | e
    · exact this.1 e
    · exact this.2 e) (fun q hq => (hR q (hr.rowT q hq)).1)
  have fin : ∀ q, (R q ∨ (W.heap.size ≤ q ∧ q < W1.heap.size) ∨ (W3.heap.size ≤ q ∧ q < W4.heap.size)) → w0.heap.size ≤ q ∧ q < W4.heap.size ∧ ¬ S' q ∧ ¬ T' q := fun q hq => by
    rcases hq with hq | hq | hq
    · obtain ⟨a1, a2, a3, a4⟩ := hR q hq
      exact ⟨a1, by omega, hqS q hq⟩
    · exact ⟨by omega, by omega, fun e => (hm.s q e).elim (fun e => by have := hlow q (.inl e); omega) (fun e => by omega), fun e => (hm.t q e).elim (fun e => by have := hlow q (.inr e); omega) (fun e => by omega)⟩
    · exact ⟨by omega, by omega, fun e => by have := hp.log.disk.low e; omega, fun e => by have := hp.log.wal.low e; omega⟩
  have hl' : blk A2 = blk A ∨ (blk A2 = some W3.heap.size ∧ ((W.heap.size ≤ W3.heap.size ∧ W3.heap.size < W1.heap.size) ∨ (W3.heap.size ≤ W3.heap.size ∧ W3.heap.size < W4.heap.size))) := hl.imp id (fun e => ⟨e, .inr ⟨Nat.le_refl _, (hrow.lt W3.heap.size (by cases A2 <;> simp_all [Value.ownBlock, blk])).2⟩⟩)
  exact ⟨S', T', V', M', _, _, hpl, by rw [hparts]; rfl, (hr.turn hRk).more (U := fun q => (W.heap.size ≤ q ∧ q < W1.heap.size) ∨ (W3.heap.size ≤ q ∧ q < W4.heap.size)) ho hn3 hrow hg hl' (fun q hq => .inl (hnl q hq)), fin, by omega⟩

end Go.Proofs.YtienabfilnpieaaGreat
