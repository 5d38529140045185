/-
  What Seal and Open answer, called with any bytes; bytes.Clone; the document's Seal and Open.
-/
import Derived.Test.YtienabfilnpieaaGreatMarkRef
namespace Go.Proofs.YtienabfilnpieaaGreat
open Go.RowKit
set_option maxRecDepth 100000
set_option linter.unusedVariables false

theorem onB_u (bs : List Int) : U (ofM bs) := onM_u _ bs ofs_u
/-- Sealed bytes. -/
def sealM (bs : List Int) : List Int := bs ++ fldOf 8 (ofM bs)
theorem sealM_eq (bs : List Int) : sealM bs = bs ++ fld 8 (ofM bs) := by
  have : fldOf ((8 : Nat) : Int) (ofM bs) = fld 8 (ofM bs) := fldOf_yes _ (by omega) (by omega)
  unfold sealM
  rw [← this]
  rfl
theorem sealM_length (bs : List Int) : (sealM bs).length = bs.length + 8 := by rw [sealM_eq, List.length_append, fld_length]
theorem sealM_oct {bs : List Int} (h : Oct bs) : Oct (sealM bs) := by
  rw [sealM_eq]
  intro b hb
  rcases List.mem_append.1 hb with hb | hb
  · exact h b hb
  · exact fld_oct 8 _ b hb

set_option maxHeartbeats 400000 in
theorem seal_b (A : Option Addr) (c : Nat) (bs : List Int) (w : World) (hs : Sl w A c bs) (ho : Oct bs) (hbig : bs.length + 8 ≤ 140737488355328) :
    Calls Tryz.prog 128 #[.slice A bs.length c] w (GivesB w (sealM bs)) := by
  have h1 := of_any A c bs w hs ho (by omega)
  have hu := onB_u bs
  have h2 := fun w1 (hb : Below w.heap.size w w1) => put_b A c bs 8 (ofM bs) w1 (hs.below hb) hbig hu.1 hu.2
  have hS := Lib.hid (show bs ++ fldOf 8 (ofM bs) = sealM bs from rfl)
  generalize ofM bs = z at *
  obtain ⟨P, hP⟩ : ∃ P, P = bs ++ fldOf 8 z := ⟨_, rfl⟩
  rw [← hP] at h2 hS
  have hS := hS.out
  rw [← hS]
  clear hS
  generalize bs.length = l at *
  have H1 := Lib.hid h1
  have H2 := Lib.hid h2
  clear h1 h2 hs ho hP
  go_enter Tryz.func128, Tryz.ntmps128
  go_wp2_with fail
  refine H1.out.mono ?_
  rintro e w1 ⟨rfl, hb1⟩
  have HB1 := Lib.hid hb1
  clear hb1
  go_wp2_with fail
  refine (H2.out w1 HB1.out).mono ?_
  rintro e w2 ⟨A2, c2, rfl, hn2, hb2⟩
  have HN := Lib.hid (hn2.low HB1.out.size)
  have HB := Lib.hid (HB1.out.trans (hb2.mono HB1.out.size))
  clear hn2 hb2
  go_wp2
  go_ret
  exact ⟨A2, c2, rfl, HN.out, HB.out⟩

/-- What Open makes of bytes: what stands ahead of the last 8, and the error. -/
def openM (bs : List Int) : List Int × Int := if bs.length < 8 then ([], 7) else if val (bs.drop (bs.length - 8)) = ofM (bs.take (bs.length - 8)) then (bs.take (bs.length - 8), 0) else ([], 130)
def GivesO (w : World) (r : List Int × Int) (e : Ending) (w' : World) : Prop := ∃ A c, e = .returned (.tuple #[.slice A r.1.length c, .int .i64 r.2]) ∧ New w.heap.size w' A c r.1 ∧ Below w.heap.size w w'
theorem New.none (B : Nat) (w : World) : New B w Option.none 0 [] := World.ownsRow_nil _ _ _ _
theorem openM_few {bs : List Int} (h : bs.length < 8) : openM bs = ([], 7) := by simp [openM, h]
theorem openM_no {bs : List Int} {n : Nat} (h : bs.length = n + 8) (hv : val (bs.drop n) ≠ ofM (bs.take n)) : openM bs = ([], 130) := by
  unfold openM
  rw [if_neg (by omega), h, Nat.add_sub_cancel, if_neg hv]
theorem openM_yes {bs : List Int} {n : Nat} (h : bs.length = n + 8) (hv : val (bs.drop n) = ofM (bs.take n)) : openM bs = (bs.take n, 0) := by
  unfold openM
  rw [if_neg (by omega), h, Nat.add_sub_cancel, if_pos hv]
theorem gives_no {w w' : World} {k : Int} (h : Below w.heap.size w w') : GivesO w ([], k) (.returned (.tuple #[.slice none 0 0, .int .i64 k])) w' := ⟨none, 0, rfl, New.none _ _, h⟩
/-- Bytes are those sealed that stand ahead just if the last 8 say their mark. -/
theorem seal_iff {bs : List Int} {n : Nat} (h : bs.length = n + 8) (ho : Oct bs) : sealM (bs.take n) = bs ↔ val (bs.drop n) = ofM (bs.take n) := by
  have hu := onB_u (bs.take n)
  have hd : (bs.drop n).length = 8 := by simp; omega
  rw [sealM_eq]
  constructor
  · intro e
    have e2 : bs.take n ++ fld 8 (ofM (bs.take n)) = bs.take n ++ bs.drop n := by rw [List.take_append_drop]; exact e
    have e3 := List.append_cancel_left e2
    rw [← e3]
    obtain ⟨x, hx⟩ := Int.eq_ofNat_of_zero_le hu.1
    have := hu.2
    rw [hx, val_fld]
    rw [hx] at this
    omega
  · intro e
    rw [← e, fld_val 8 _ hd (ho.drop n), List.take_append_drop]
theorem Sl.first_ {w : World} {A : Option Addr} {c : Nat} {bs : List Int} (h : Sl w A c bs) (n : Nat) (hn : n ≤ bs.length) : Sl w A c (bs.take n) := by
  refine ⟨by have := h.room; simp; omega, h.most, h.rd.take n⟩
theorem Sl.drewN {w : World} {A : Option Addr} {c : Nat} {bs : List Int} (h : Sl w A c bs) (q : Nat) : Sl (w.drewN q) A c bs := ⟨h.room, h.most, h.rd⟩
theorem Sl.less {w : World} {A : Option Addr} {c c' : Nat} {bs : List Int} (h : Sl w A c bs) (h1 : bs.length ≤ c') (h2 : c' ≤ c) : Sl w A c' bs := ⟨h1, by have := h.most; omega, h.rd⟩

end Go.Proofs.YtienabfilnpieaaGreat
