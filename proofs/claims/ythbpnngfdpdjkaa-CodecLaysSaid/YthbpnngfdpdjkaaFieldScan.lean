/-
  What a scan is in memory, and what Read, Bad, Left, Place, cut and take do.
-/
import Derived.Test.YthbpnngfdpdjkaaFieldPut
import Derived.BigQuiet
import Derived.Deep.QuietTactic
namespace Go.Proofs.Ythbpnngfdpdjkaa
open Go.RowKit
set_option linter.unusedVariables false

/-- Each of these is a byte. -/
def Oct (bs : List Int) : Prop := ∀ b ∈ bs, 0 ≤ b ∧ b < 256
theorem Oct.take {bs : List Int} (h : Oct bs) (k : Nat) : Oct (bs.take k) := fun b hb => h b (List.mem_of_mem_take hb)
theorem Oct.drop {bs : List Int} (h : Oct bs) (k : Nat) : Oct (bs.drop k) := fun b hb => h b (List.mem_of_mem_drop hb)
theorem Oct.at_ {bs : List Int} (h : Oct bs) (k : Nat) : 0 ≤ bs.getD k 0 ∧ bs.getD k 0 < 256 := by
  by_cases hk : k < bs.length
  · have := h bs[k] (List.getElem_mem hk)
    simpa [List.getD, List.getElem?_eq_getElem hk] using this
  · simp [List.getD, List.getElem?_eq_none (by omega : bs.length ≤ k)]

/-- The slice at A, of room c, holds the bytes bs. -/
structure Sl (w : World) (A : Option Addr) (c : Nat) (bs : List Int) : Prop where
  room : bs.length ≤ c
  most : c ≤ 9223372036854775807
  rd : Rd w w.heap.size A bs

/-- Block g is a scan with the bytes bs left, at place pl, bad or not. -/
structure Sc (w : World) (g : Nat) (A : Option Addr) (c : Nat) (bs : List Int) (pl : Int) (bd : Bool) : Prop where
  blk : w.heap[g]? = some (.cells #[.slice A bs.length c, .int .i64 pl, .bool bd] 99 (0, 0))
  sl : Sl w A c bs
  oct : Oct bs
  lo : 0 ≤ pl
  hi : pl + bs.length ≤ 140737488355328

section
variable {w : World} {g : Nat} {A : Option Addr} {c : Nat} {bs : List Int} {pl : Int} {bd : Bool}
theorem Sc.c0 (h : Sc w g A c bs pl bd) : w.cell? ⟨g, 0, none⟩ = some (.slice A bs.length c) := by simp [World.cell?, h.blk]
theorem Sc.c1 (h : Sc w g A c bs pl bd) : w.cell? ⟨g, 1, none⟩ = some (.int .i64 pl) := by simp [World.cell?, h.blk]
theorem Sc.c2 (h : Sc w g A c bs pl bd) : w.cell? ⟨g, 2, none⟩ = some (.bool bd) := by simp [World.cell?, h.blk]
theorem Sc.fz (h : Sc w g A c bs pl bd) (i : Nat) : w.frozen? ⟨g, i, none⟩ = false := by simp [World.frozen?, h.blk]
theorem Sc.lt (h : Sc w g A c bs pl bd) : g < w.heap.size := lt_of_block h.blk
theorem Sc.odd (h : Sc w g A c bs pl bd) : ∀ o z, w.cell? ⟨g, o, none⟩ ≠ some (.int .u8 z) := by
  intro o z hc
  have := h.blk
  simp [World.cell?, this] at hc
  match o, hc with
  | 0, hc => simp at hc
  | 1, hc => simp at hc
  | 2, hc => simp at hc
  | o + 3, hc => simp at hc
end

theorem bad_nil (w : World) : Calls Try.prog 56 #[.pointer none] w fun e w' => e = .returned (.bool true) ∧ w = w' := by
  go_enter Try.func56, Try.ntmps56
  go_wp2
  go_ret
  exact ⟨rfl, rfl⟩

theorem bad_any (w : World) (g : Nat) (bd : Bool) (hc : w.cell? ⟨g, 2, none⟩ = some (.bool bd)) : Calls Try.prog 56 #[.pointer (some ⟨g, 0, none⟩)] w fun e w' => e = .returned (.bool bd) ∧ w = w' := by
  go_enter Try.func56, Try.ntmps56
  go_wp2
  go_ret
  exact ⟨rfl, rfl⟩

theorem place_nil (w : World) : Calls Try.prog 57 #[.pointer none] w fun e w' => e = .returned (.int .i64 0) ∧ w = w' := by
  go_enter Try.func57, Try.ntmps57
  go_wp2
  go_ret
  exact ⟨rfl, rfl⟩

theorem place_any (w : World) (g : Nat) (pl : Int) (hc : w.cell? ⟨g, 1, none⟩ = some (.int .i64 pl)) : Calls Try.prog 57 #[.pointer (some ⟨g, 0, none⟩)] w fun e w' => e = .returned (.int .i64 pl) ∧ w = w' := by
  go_enter Try.func57, Try.ntmps57
  go_wp2
  go_ret
  exact ⟨rfl, rfl⟩

/-- Where a slice goes on behind n elements. -/
def behind (A : Option Addr) (c n : Nat) : Option Addr := if c = n then A else A.map (·.add n)

set_option maxHeartbeats 400000 in
theorem cut_any (A : Option Addr) (l c n : Nat) (w : World) (h1 : n ≤ l) (h2 : l ≤ c) (h3 : c ≤ 9223372036854775807) :
    Calls Try.prog 68 #[.slice A l c, .int .i64 n] w fun e w' => e = .returned (.tuple #[.slice A n n, .slice (behind A c n) (l - n) (c - n)]) ∧ ∃ q, w' = w.drewN q := by
  by_cases hc : c = n
  · have hb : Hid (behind A c n = A) := by unfold Hid behind; rw [if_pos hc]
    subst hc
    go_enter Try.func68, Try.ntmps68
    go_wp2
    go_quiet (fail)
    go_wp2
    go_ret2
    rw [hb.out]
    exact ⟨by simp; omega, _, rfl⟩
  · have hb : Hid (behind A c n = A.map (·.add n)) := by unfold Hid behind; rw [if_neg hc]
    go_enter Try.func68, Try.ntmps68
    go_wp2
    go_quiet (fail)
    go_wp2
    go_ret2
    rw [hb.out]
    exact ⟨rfl, _, rfl⟩

theorem Sl.cut {w : World} {A : Option Addr} {c : Nat} {bs : List Int} (h : Sl w A c bs) (n : Nat) (hn : n ≤ bs.length) : Sl w (behind A c n) (c - n) (bs.drop n) := by
  refine ⟨by have := h.room; simp; omega, by have := h.most; omega, fun hp => ?_⟩
  have hl : (bs.drop n).length = bs.length - n := by simp
  obtain ⟨b, o, rfl, hb, hc⟩ := h.rd (by omega)
  have := h.room
  refine ⟨b, o + n, ?_, hb, fun j hj => ?_⟩
  · unfold behind
    rw [if_neg (by omega)]
    simp [Addr.add_lit]
  · rw [Nat.add_assoc, hc (n + j) (by omega)]
    simp [List.getD]

/-- Bytes in memory of the call's own. -/
def New (B : Nat) (w : World) (A : Option Addr) (c : Nat) (bs : List Int) : Prop := w.ownsRow B 5 1 (.slice A bs.length c) bs.length (bs.map (Value.int .u8))
theorem New.sl {B : Nat} {w : World} {A : Option Addr} {c : Nat} {bs : List Int} (h : New B w A c bs) : Sl w A c bs := by
  refine ⟨?_, ?_, Rd.own h⟩
  · rcases h.2 with ⟨hv, hn⟩ | ⟨g, cap, cur, hv, _, _, hnc, _, _, _⟩
    · omega
    · injection hv with _ _ hc; omega
  · rcases h.2 with ⟨hv, hn⟩ | ⟨g, cap, cur, hv, _, _, hnc, hm, _, _⟩
    · injection hv with _ _ hc; omega
    · injection hv with _ _ hc; unfold maxLen at hm; omega

/-- A call that answers new bytes. -/
def GivesB (w : World) (bs : List Int) (e : Ending) (w' : World) : Prop := ∃ A c, e = .returned (.slice A bs.length c) ∧ New w.heap.size w' A c bs ∧ Below w.heap.size w w'
theorem gives_of {w w' : World} {bs : List Int} {e : Ending} (h : ∃ v', e = .returned v' ∧ w'.ownsRow w.heap.size 5 1 v' bs.length (bs.map (Value.int .u8)) ∧ Below w.heap.size w w') : GivesB w bs e w' := by
  obtain ⟨v, rfl, ho, hb⟩ := h
  obtain ⟨A, c, rfl, _, _⟩ := own_form ho
  exact ⟨A, c, rfl, ho, hb⟩

theorem clone_b (A : Option Addr) (c : Nat) (bs : List Int) (w : World) (hr : Sl w A c bs) (hbig : bs.length ≤ 140737488355328) :
    Calls Try.prog 31 #[.slice A bs.length c] w (GivesB w bs) := (clone_any A c bs _ w hr.rd hbig).mono fun _ _ h => gives_of h
theorem put_b (A : Option Addr) (c : Nat) (bs : List Int) (n x : Int) (w : World) (hr : Sl w A c bs) (hbig : bs.length + 8 ≤ 140737488355328) (hx : 0 ≤ x) (hx2 : x < 18446744073709551616) :
    Calls Try.prog 65 #[.slice A bs.length c, .int .i64 n, .int .u64 x] w (GivesB w (bs ++ fldOf n x)) := (put_any A c bs n x _ w hr.rd hbig hx hx2).mono fun _ _ h => gives_of h
theorem lay_b (A : Option Addr) (c : Nat) (bs : List Int) (n x : Int) (w : World) (hr : Sl w A c bs) (hbig : bs.length + 8 ≤ 140737488355328) :
    Calls Try.prog 53 #[.slice A bs.length c, .int .i64 n, .int .i64 x] w (GivesB w (bs ++ fldOf n (unsg x))) := (lay_any A c bs n x _ w hr.rd hbig).mono fun _ _ h => gives_of h

/-- Read: a new scan of a copy. -/
def GivesS (w : World) (bs : List Int) (e : Ending) (w' : World) : Prop := ∃ g A c, e = .returned (.pointer (some ⟨g, 0, none⟩)) ∧ Sc w' g A c bs 0 false ∧ w.heap.size ≤ g ∧ Below w.heap.size w w'

theorem Sl.keep {w w' : World} {A : Option Addr} {c : Nat} {bs : List Int} (h : Sl w A c bs) (hk : ∀ p : Addr, p.block < w.heap.size → w'.cell? p = w.cell? p) (hs : w.heap.size ≤ w'.heap.size) : Sl w' A c bs :=
  ⟨h.room, h.most, (h.rd.keep hk).wide hs⟩
theorem Sl.below {w w' : World} {A : Option Addr} {c : Nat} {bs : List Int} (h : Sl w A c bs) (hb : Below w.heap.size w w') : Sl w' A c bs := h.keep (fun _ hp => hb.cell hp) hb.size
theorem Sl.alloc {w : World} {A : Option Addr} {c : Nat} {bs : List Int} (h : Sl w A c bs) (o : Obj) : Sl (w.alloc o) A c bs := h.below ((Below.refl _ w).alloc (Nat.le_refl _) o)

/-- Read, and that the copy lies in memory of its own. -/
def GivesN (w : World) (bs : List Int) (e : Ending) (w' : World) : Prop := ∃ g A c, e = .returned (.pointer (some ⟨g, 0, none⟩)) ∧ Sc w' g A c bs 0 false ∧ w.heap.size ≤ g ∧ Below w.heap.size w w' ∧ New w.heap.size w' A c bs

set_option maxHeartbeats 400000 in
theorem read_n (A : Option Addr) (c : Nat) (bs : List Int) (w : World) (hr : Sl w A c bs) (ho : Oct bs) (hbig : bs.length ≤ 140737488355328) :
    Calls Try.prog 55 #[.slice A bs.length c] w (GivesN w bs) := by
  have H := Lib.hid hr
  have HO := Lib.hid ho
  clear hr ho
  obtain ⟨n, hn⟩ : ∃ n, n = bs.length := ⟨_, rfl⟩
  have HN := Lib.hid hn
  go_enter Try.func55, Try.ntmps55
  go_wp2_with ((go_at_call 31; refine (clone_b A c bs w H.out (by omega)).mono ?_; rintro e w1 ⟨A1, c1, rfl, hown1, hb1⟩))
  go_ret
  refine ⟨_, A1, c1, rfl, ⟨heap_alloc_new w1 _, hown1.sl.alloc _, HO.out, by omega, by omega⟩, hb1.size, hb1.alloc hb1.size _, World.ownsRow.alloc hown1 _⟩

theorem read_b (A : Option Addr) (c : Nat) (bs : List Int) (w : World) (hr : Sl w A c bs) (ho : Oct bs) (hbig : bs.length ≤ 140737488355328) :
    Calls Try.prog 55 #[.slice A bs.length c] w (GivesS w bs) :=
  (read_n A c bs w hr ho hbig).mono fun _ _ ⟨g, A', c', h1, h2, h3, h4, _⟩ => ⟨g, A', c', h1, h2, h3, h4⟩

/-- take of no scan, or of a bad one: nothing. -/
theorem take_nil (w : World) (may : Bool) (n : Int) (f : Value) : Calls Try.prog 59 #[.pointer none, .bool may, .int .i64 n, f] w fun e w' => e = .returned (.tuple #[]) ∧ w = w' := by
  go_enter Try.func59, Try.ntmps59
  go_wp2_with (go_at_call 56; refine (bad_nil _).mono ?_; rintro e w' ⟨rfl, rfl⟩)
  refine bodyPost_ret (results_none rfl _ _ _) rfl ?_
  exact ⟨rfl, rfl⟩

theorem take_bad (w : World) (g : Nat) (may : Bool) (n : Int) (f : Value) (hc : w.cell? ⟨g, 2, none⟩ = some (.bool true)) : Calls Try.prog 59 #[.pointer (some ⟨g, 0, none⟩), .bool may, .int .i64 n, f] w fun e w' => e = .returned (.tuple #[]) ∧ w = w' := by
  go_enter Try.func59, Try.ntmps59
  go_wp2_with (go_at_call 56; refine (bad_any _ g true hc).mono ?_; rintro e w' ⟨rfl, rfl⟩)
  refine bodyPost_ret (results_none rfl _ _ _) rfl ?_
  exact ⟨rfl, rfl⟩

/-- take of what it may not take, or of more than is left: it is bad. -/
theorem take_may (w : World) (g l c : Nat) (A : Option Addr) (n : Int) (f : Value) (hc : w.cell? ⟨g, 2, none⟩ = some (.bool false)) (h0 : w.cell? ⟨g, 0, none⟩ = some (.slice A l c)) (hf : w.frozen? ⟨g, 2, none⟩ = false) :
    Calls Try.prog 59 #[.pointer (some ⟨g, 0, none⟩), .bool false, .int .i64 n, f] w fun e w' => e = .returned (.tuple #[]) ∧ w.setCell ⟨g, 2, none⟩ (.bool true) = w' := by
  go_enter Try.func59, Try.ntmps59
  go_wp2_with (go_at_call 56; refine (bad_any _ g false hc).mono ?_; rintro e w' ⟨rfl, rfl⟩)
  refine bodyPost_ret (results_none rfl _ _ _) rfl ?_
  exact ⟨rfl, rfl⟩

theorem take_more (w : World) (g l c : Nat) (A : Option Addr) (n : Int) (f : Value) (hc : w.cell? ⟨g, 2, none⟩ = some (.bool false)) (h0 : w.cell? ⟨g, 0, none⟩ = some (.slice A l c)) (hf : w.frozen? ⟨g, 2, none⟩ = false) (hn : (l : Int) < n) :
    Calls Try.prog 59 #[.pointer (some ⟨g, 0, none⟩), .bool true, .int .i64 n, f] w fun e w' => e = .returned (.tuple #[]) ∧ w.setCell ⟨g, 2, none⟩ (.bool true) = w' := by
  go_enter Try.func59, Try.ntmps59
  go_wp2_with (go_at_call 56; refine (bad_any _ g false hc).mono ?_; rintro e w' ⟨rfl, rfl⟩)
  refine bodyPost_ret (results_none rfl _ _ _) rfl ?_
  exact ⟨rfl, rfl⟩

set_option maxHeartbeats 400000 in
/-- take of n bytes that are left: what is told of the closure, called with them where the scan has gone on, is told of take. -/
theorem take_yes (fid : FuncId) (p1 p2 : Value) (w : World) (g c : Nat) (A : Option Addr) (bs : List Int) (pl : Int) (n : Nat) (hs : Sc w g A c bs pl false) (hn : n ≤ bs.length) (R : World → Prop)
    (hen : ∀ W : World, (callFunc fid #[.slice A n n, p1, p2]).run Try.prog W = .ok (.enter fid #[.slice A n n, p1, p2]) W)
    (hcl : ∀ q, Calls Try.prog fid #[.slice A n n, p1, p2] ((((w.drewN q).setCell ⟨g, 0, none⟩ (.slice (behind A c n) (bs.length - n) (c - n))).setCell ⟨g, 1, none⟩ (.int .i64 (pl + n)))) fun e w' => e = .returned (.tuple #[]) ∧ R w') :
    Calls Try.prog 59 #[.pointer (some ⟨g, 0, none⟩), .bool true, .int .i64 n, .func (.func fid) #[] #[p1, p2]] w fun e w' => e = .returned (.tuple #[]) ∧ R w' := by
  have hc0 := hs.c0
  have hc1 := hs.c1
  have hc2 := hs.c2
  have hf0 := hs.fz 0
  have hf1 := hs.fz 1
  have hlo := hs.lo
  have hhi := hs.hi
  have hr1 := hs.sl.room
  have hr2 := hs.sl.most
  clear hs
  obtain ⟨l, hl⟩ : ∃ l, l = bs.length := ⟨_, rfl⟩
  rw [← hl] at hc0 hn hhi hr1 hcl
  have HL := Lib.hid hl
  have HC := Lib.hid hcl
  clear hl hcl
  go_enter Try.func59, Try.ntmps59
  go_wp2_with (first
   | (go_at_call 56; refine (bad_any _ g false hc2).mono ?_; rintro e w' ⟨rfl, rfl⟩)
   | (go_at_call 68; refine (cut_any A l c n w hn hr1 hr2).mono ?_; rintro e w' ⟨rfl, q, rfl⟩))
  refine (HC.out q).mono ?_
  rintro e w2 ⟨rfl, hR⟩
  have HR := Lib.hid hR
  clear hR
  go_wp2
  go_end0
  exact ⟨rfl, HR.out⟩

set_option maxHeartbeats 400000 in
/-- So with one variable that the closure keeps: what is told of the closure, called with them where the scan has gone on, is told of take. -/
theorem take_yes1 (fid : FuncId) (p1 : Value) (w : World) (g c : Nat) (A : Option Addr) (bs : List Int) (pl : Int) (n : Nat) (hs : Sc w g A c bs pl false) (hn : n ≤ bs.length) (R : World → Prop)
    (hen : ∀ W : World, (callFunc fid #[.slice A n n, p1]).run Try.prog W = .ok (.enter fid #[.slice A n n, p1]) W)
    (hcl : ∀ q, Calls Try.prog fid #[.slice A n n, p1] ((((w.drewN q).setCell ⟨g, 0, none⟩ (.slice (behind A c n) (bs.length - n) (c - n))).setCell ⟨g, 1, none⟩ (.int .i64 (pl + n)))) fun e w' => e = .returned (.tuple #[]) ∧ R w') :
    Calls Try.prog 59 #[.pointer (some ⟨g, 0, none⟩), .bool true, .int .i64 n, .func (.func fid) #[] #[p1]] w fun e w' => e = .returned (.tuple #[]) ∧ R w' := by
  have hc0 := hs.c0
  have hc1 := hs.c1
  have hc2 := hs.c2
  have hf0 := hs.fz 0
  have hf1 := hs.fz 1
  have hlo := hs.lo
  have hhi := hs.hi
  have hr1 := hs.sl.room
  have hr2 := hs.sl.most
  clear hs
  obtain ⟨l, hl⟩ : ∃ l, l = bs.length := ⟨_, rfl⟩
  rw [← hl] at hc0 hn hhi hr1 hcl
  have HL := Lib.hid hl
  have HC := Lib.hid hcl
  clear hl hcl
  go_enter Try.func59, Try.ntmps59
  go_wp2_with (first
   | (go_at_call 56; refine (bad_any _ g false hc2).mono ?_; rintro e w' ⟨rfl, rfl⟩)
   | (go_at_call 68; refine (cut_any A l c n w hn hr1 hr2).mono ?_; rintro e w' ⟨rfl, q, rfl⟩))
  refine (HC.out q).mono ?_
  rintro e w2 ⟨rfl, hR⟩
  have HR := Lib.hid hR
  clear hR
  go_wp2
  go_end0
  exact ⟨rfl, HR.out⟩

theorem enter_num (x p1 p2 : Value) (W : World) : (callFunc 61 #[x, p1, p2]).run Try.prog W = .ok (.enter 61 #[x, p1, p2]) W := by kernel_rfl
theorem enter_int (x p1 p2 : Value) (W : World) : (callFunc 67 #[x, p1, p2]).run Try.prog W = .ok (.enter 67 #[x, p1, p2]) W := by kernel_rfl

end Go.Proofs.Ythbpnngfdpdjkaa
