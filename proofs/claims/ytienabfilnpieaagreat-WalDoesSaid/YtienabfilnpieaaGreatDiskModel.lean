/-
  A disk as a value, what the document says of it, and where it lies in memory.
-/
import Derived.Test.YtienabfilnpieaaGreatDiskMap
import Derived.Test.YtienabfilnpieaaGreatDiskBase
namespace Go.Proofs.YtienabfilnpieaaGreat
open Go.RowKit
set_option linter.unusedVariables false

/-- A file that is there: its bytes, of which the first syn are synced; is it kept? -/
structure AF where
  bs : List Int
  syn : Nat
  kept : Bool

structure AD where
  room : Int
  files : Int → Option AF
  armed : Int
  failing : Int
  ops : Int
  dead : Bool

def AF.none : AF := ⟨[], 0, false⟩
def AD.len (M : AD) (k : Int) : Nat := match M.files k with | some F => F.bs.length | Option.none => 0
def AD.total (M : AD) : Nat := M.len 0 + M.len 1 + M.len 2 + M.len 3

structure AD.Ok (M : AD) : Prop where
  room1 : 1 ≤ M.room
  room2 : M.room ≤ 65536
  tot : (M.total : Int) ≤ M.room
  arm1 : -1 ≤ M.armed
  arm2 : M.armed ≤ 9223372036854775807
  fail1 : -1 ≤ M.failing
  fail2 : M.failing ≤ 9223372036854775807
  ops0 : 0 ≤ M.ops
  ops1 : M.ops ≤ 9223372036854775807
  names : ∀ k, M.files k ≠ Option.none → 0 ≤ k ∧ k < 4
  syn : ∀ k F, M.files k = some F → F.syn ≤ F.bs.length

def Name (k : Int) : Prop := 0 ≤ k ∧ k < 4
instance (k : Int) : Decidable (Name k) := by unfold Name; infer_instance

/-! ### what an operation meets -/
def stepC (c : Int) : Int := if c = -1 then -1 else c - 1
def AD.err (M : AD) : Int := if M.armed = 0 then 9 else if M.failing = 0 then 8 else 0
def AD.met (M : AD) : AD :=
  if M.armed = 0 then { M with ops := M.ops + 1, dead := true } else { M with ops := M.ops + 1, armed := stepC M.armed, failing := stepC M.failing }

/-! ### in memory -/
def AF.val (F : AF) (A : Option Addr) (c : Nat) : Value := .agg #[.slice A F.bs.length c, .int .i64 F.syn, .bool F.kept]
/-- The bytes of a file lie in a row of their own. -/
def AF.At (F : AF) (w : World) (A : Option Addr) (c : Nat) : Prop := w.ownsRow 0 5 1 (.slice A F.bs.length c) F.bs.length (F.bs.map (Value.int .u8))
def blk (A : Option Addr) : Option Nat := A.map (·.block)

def headCells (M : AD) (mb : Nat) : Array Value := #[.int .i64 M.room, .map (some mb), .int .i64 M.armed, .int .i64 M.failing, .int .i64 M.ops, .bool M.dead]

/-- The files M.files stand in the map at mb; their rows lie in blocks of S, each in its own. -/
structure FilesAt (w : World) (S : Nat → Prop) (mb : Nat) (files : Int → Option AF) (f : Int → Option Value) (A : Int → Option Addr) (c : Int → Nat) : Prop where
  map : MapAt w mb f
  inS : S mb
  yes : ∀ k F, files k = some F → f k = some (F.val (A k) (c k)) ∧ F.At w (A k) (c k) ∧ ∀ g, blk (A k) = some g → S g
  no : ∀ k, files k = Option.none → f k = Option.none
  apart : ∀ j k, j ≠ k → files j ≠ Option.none → files k ≠ Option.none → ∀ g, blk (A j) = some g → blk (A k) ≠ some g

/-- Block d is the disk M, in blocks of S. -/
structure DiskIn (w : World) (S : Nat → Prop) (d : Nat) (M : AD) (mb : Nat) (f : Int → Option Value) (A : Int → Option Addr) (c : Int → Nat) : Prop where
  head : w.heap[d]? = some (.cells (headCells M mb) 69 (0, 0))
  files : FilesAt w S mb M.files f A c
  ok : M.Ok
  inS : S d
  low : ∀ k, S k → k < w.heap.size

def DiskAt (w : World) (S : Nat → Prop) (d : Nat) (M : AD) : Prop := ∃ mb f A c, DiskIn w S d M mb f A c

/-- Only blocks of S, and new ones, have turned. -/
structure Turn (S : Nat → Prop) (w w' : World) : Prop where
  os : w'.os = w.os
  tape : w'.tape = w.tape
  output : w'.output = w.output
  size : w.heap.size ≤ w'.heap.size
  block : ∀ k, k < w.heap.size → ¬ S k → w'.heap[k]? = w.heap[k]?

section
variable {S S' : Nat → Prop} {w w' w'' : World}
theorem Turn.refl (S : Nat → Prop) (w : World) : Turn S w w := ⟨rfl, rfl, rfl, Nat.le_refl _, fun _ _ _ => rfl⟩
theorem Turn.trans (h : Turn S w w') (k : Turn S' w' w'') (hs : ∀ i, S' i → S i ∨ w.heap.size ≤ i) : Turn S w w'' :=
  ⟨k.os.trans h.os, k.tape.trans h.tape, k.output.trans h.output, Nat.le_trans h.size k.size, fun i hi hn =>
    (k.block i (Nat.lt_of_lt_of_le hi h.size) (fun e => (hs i e).elim hn (fun e => by omega))).trans (h.block i hi hn)⟩
theorem Turn.of_grown {row : Option Nat} (h : w.grownBy w' row) (hr : ∀ i, row = some i → S i ∨ w.heap.size ≤ i) : Turn S w w' :=
  ⟨h.os, h.tape, h.output, h.size, fun i hi hn => h.block i hi (fun e => (hr i e.symm).elim hn (fun e => by omega))⟩
theorem Turn.of_below (h : Below w.heap.size w w') : Turn S w w' := ⟨h.os, h.tape, h.output, h.size, fun i hi _ => h.block i hi⟩
theorem Turn.below {B : Nat} (h : Turn S w w') (hB : B ≤ w.heap.size) (hs : ∀ i, S i → B ≤ i) : Below B w w' :=
  ⟨h.os, h.tape, h.output, h.size, fun i hi => h.block i (by omega) (fun e => by have := hs i e; omega)⟩
theorem Turn.mono (h : Turn S w w') (hs : ∀ i, S i → S' i) : Turn S' w w' := ⟨h.os, h.tape, h.output, h.size, fun i hi hn => h.block i hi (fun e => hn (hs i e))⟩
theorem Turn.drew (h : Turn S w w') : Turn S w w'.drew := ⟨h.os, h.tape, h.output, h.size, h.block⟩
theorem Turn.alloc (h : Turn S w w') (o : Obj) : Turn S w (w'.alloc o) := h.trans (Turn.of_grown (S := fun _ => False) (World.grownBy_alloc w' o Option.none) (by simp)) (by simp)

theorem FilesAt.turn {mb : Nat} {files : Int → Option AF} {f : Int → Option Value} {A : Int → Option Addr} {c : Int → Nat} (h : FilesAt w S mb files f A c) (hb : ∀ k, S k → w'.heap[k]? = w.heap[k]?) : FilesAt w' S mb files f A c := by
  refine ⟨h.map.same (hb _ h.inS), h.inS, fun k F hk => ?_, h.no, h.apart⟩
  obtain ⟨h1, h2, h3⟩ := h.yes k F hk
  refine ⟨h1, ⟨h2.1, ?_⟩, h3⟩
  rcases h2.2 with h0 | ⟨g, cap, cur, e, hg, hh, r⟩
  · exact .inl h0
  · refine .inr ⟨g, cap, cur, e, hg, ?_, r⟩
    injection e with e1
    rw [hb g (h3 g (by simp [blk, e1]))]
    exact hh
theorem DiskIn.turn {d mb : Nat} {M : AD} {f : Int → Option Value} {A : Int → Option Addr} {c : Int → Nat} (h : DiskIn w S d M mb f A c) (hb : ∀ k, S k → w'.heap[k]? = w.heap[k]?) (hs : w.heap.size ≤ w'.heap.size) : DiskIn w' S d M mb f A c :=
  ⟨(hb _ h.inS).trans h.head, h.files.turn hb, h.ok, h.inS, fun k hk => Nat.lt_of_lt_of_le (h.low k hk) hs⟩
theorem DiskIn.below {d mb B : Nat} {M : AD} {f : Int → Option Value} {A : Int → Option Addr} {c : Int → Nat} (h : DiskIn w S d M mb f A c) (hb : Below B w w') (hB : ∀ k, S k → k < B) : DiskIn w' S d M mb f A c :=
  h.turn (fun k hk => hb.block k (hB k hk)) hb.size
theorem DiskIn.later {d mb : Nat} {M : AD} {f : Int → Option Value} {A : Int → Option Addr} {c : Int → Nat} (h : DiskIn w S d M mb f A c) (hb : Below w.heap.size w w') : DiskIn w' S d M mb f A c := h.below hb h.low
theorem DiskIn.other {d mb : Nat} {M : AD} {f : Int → Option Value} {A : Int → Option Addr} {c : Int → Nat} (h : DiskIn w S d M mb f A c) (ht : Turn S' w w') (hd : ∀ k, S k → ¬ S' k) : DiskIn w' S d M mb f A c :=
  h.turn (fun k hk => ht.block k (h.low k hk) (hd k hk)) ht.size
theorem DiskIn.drew {d mb : Nat} {M : AD} {f : Int → Option Value} {A : Int → Option Addr} {c : Int → Nat} (h : DiskIn w S d M mb f A c) : DiskIn w.drew S d M mb f A c := h.turn (fun _ _ => rfl) (Nat.le_refl _)
theorem DiskAt.later {d : Nat} {M : AD} (h : DiskAt w S d M) (hb : Below w.heap.size w w') : DiskAt w' S d M := by obtain ⟨mb, f, A, c, h⟩ := h; exact ⟨mb, f, A, c, h.later hb⟩
theorem DiskAt.other {d : Nat} {M : AD} (h : DiskAt w S d M) (ht : Turn S' w w') (hd : ∀ k, S k → ¬ S' k) : DiskAt w' S d M := by obtain ⟨mb, f, A, c, h⟩ := h; exact ⟨mb, f, A, c, h.other ht hd⟩
theorem DiskAt.drew {d : Nat} {M : AD} (h : DiskAt w S d M) : DiskAt w.drew S d M := by obtain ⟨mb, f, A, c, h⟩ := h; exact ⟨mb, f, A, c, h.drew⟩
theorem DiskAt.ok {d : Nat} {M : AD} (h : DiskAt w S d M) : M.Ok := by obtain ⟨mb, f, A, c, h⟩ := h; exact h.ok
theorem DiskAt.low {d : Nat} {M : AD} (h : DiskAt w S d M) {k : Nat} (hk : S k) : k < w.heap.size := by obtain ⟨mb, f, A, c, h⟩ := h; exact h.low k hk
theorem DiskAt.inS {d : Nat} {M : AD} (h : DiskAt w S d M) : S d := by obtain ⟨mb, f, A, c, h⟩ := h; exact h.inS
end

section
variable {w : World} {S : Nat → Prop} {d mb : Nat} {M : AD} {f : Int → Option Value} {A : Int → Option Addr} {c : Int → Nat}
theorem DiskIn.c0 (h : DiskIn w S d M mb f A c) : w.cell? ⟨d, 0, none⟩ = some (.int .i64 M.room) := by simp [World.cell?, h.head, headCells]
theorem DiskIn.c1 (h : DiskIn w S d M mb f A c) : w.cell? ⟨d, 1, none⟩ = some (.map (some mb)) := by simp [World.cell?, h.head, headCells]
theorem DiskIn.c2 (h : DiskIn w S d M mb f A c) : w.cell? ⟨d, 2, none⟩ = some (.int .i64 M.armed) := by simp [World.cell?, h.head, headCells]
theorem DiskIn.c3 (h : DiskIn w S d M mb f A c) : w.cell? ⟨d, 3, none⟩ = some (.int .i64 M.failing) := by simp [World.cell?, h.head, headCells]
theorem DiskIn.c4 (h : DiskIn w S d M mb f A c) : w.cell? ⟨d, 4, none⟩ = some (.int .i64 M.ops) := by simp [World.cell?, h.head, headCells]
theorem DiskIn.c5 (h : DiskIn w S d M mb f A c) : w.cell? ⟨d, 5, none⟩ = some (.bool M.dead) := by simp [World.cell?, h.head, headCells]
theorem DiskIn.fz (h : DiskIn w S d M mb f A c) (i : Nat) : w.frozen? ⟨d, i, none⟩ = false := by simp [World.frozen?, h.head]
theorem DiskIn.lt (h : DiskIn w S d M mb f A c) : d < w.heap.size := h.low d h.inS
/-- The value that stands at a name: a file's, or that of none. -/
def fileAt (M : AD) (A : Int → Option Addr) (c : Int → Nat) (k : Int) : Value := match M.files k with | some F => F.val (A k) (c k) | Option.none => noFile
theorem DiskIn.isSome (h : DiskIn w S d M mb f A c) (k : Int) : (f k).isSome = (M.files k).isSome := by
  rcases hk : M.files k with _ | F
  · rw [h.files.no k hk]; rfl
  · rw [(h.files.yes k F hk).1]; rfl
theorem DiskIn.getD (h : DiskIn w S d M mb f A c) (k : Int) : (f k).getD noFile = fileAt M A c k := by
  unfold fileAt
  rcases hk : M.files k with _ | F
  · rw [h.files.no k hk]; rfl
  · rw [(h.files.yes k F hk).1]; rfl
theorem DiskIn.look (h : DiskIn w S d M mb f A c) {k : Int} (hk : I64 k) : (Instr.lookup 66 (.map (some mb)) (.int .i64 k) false).run Tryz.prog w = .ok (fileAt M A c k) w := by
  rw [h.files.map.look hk, ← h.getD]; rfl
theorem DiskIn.look2 (h : DiskIn w S d M mb f A c) {k : Int} (hk : I64 k) : (Instr.lookup 66 (.map (some mb)) (.int .i64 k) true).run Tryz.prog w = .ok (.tuple #[fileAt M A c k, .bool (M.files k).isSome]) w := by
  rw [h.files.map.look hk, ← h.getD, ← h.isSome]; rfl
/-- .. as an aggregate that is written out. -/
theorem fileAt_form (M : AD) (A : Int → Option Addr) (c : Int → Nat) (k : Int) : ∃ A' c' n s kp, fileAt M A c k = .agg #[.slice A' n c', .int .i64 s, .bool kp] ∧ n = M.len k ∧ (M.files k = Option.none → A' = Option.none ∧ s = 0 ∧ kp = false ∧ c' = 0) ∧ (∀ F, M.files k = some F → A' = A k ∧ c' = c k ∧ n = F.bs.length ∧ s = F.syn ∧ kp = F.kept) := by
  unfold fileAt AD.len
  rcases hk : M.files k with _ | F
  · exact ⟨Option.none, 0, 0, 0, false, rfl, rfl, fun _ => ⟨rfl, rfl, rfl, rfl⟩, fun F e => by cases e⟩
  · exact ⟨A k, c k, F.bs.length, F.syn, F.kept, rfl, rfl, (fun e => (by cases e)), (fun F' e => (by cases e; exact ⟨rfl, rfl, rfl, rfl, rfl⟩))⟩
/-- A store to the disk's own struct. -/
theorem DiskIn.setHead (h : DiskIn w S d M mb f A c) {w' : World} {M' : AD} (hg : w.grownBy w' (some d)) (hh : w'.heap[d]? = some (.cells (headCells M' mb) 69 (0, 0))) (hf : M'.files = M.files) (ok : M'.Ok) : DiskIn w' S d M' mb f A c := by
  have hne : ∀ k, k ≠ d → k < w.heap.size → w'.heap[k]? = w.heap[k]? := fun k hk hl => hg.block k hl (by simpa using hk)
  have hd : ∀ g cur, w.heap[g]? = some (.cells cur 5 (0, 0)) → g ≠ d := by
    rintro g cur hc rfl
    rw [h.head] at hc
    simp at hc
  refine ⟨hh, ⟨?_, h.files.inS, ?_, ?_, ?_⟩, ok, h.inS, fun k hk => Nat.lt_of_lt_of_le (h.low k hk) hg.size⟩
  · refine h.files.map.same (hne mb ?_ (h.low _ h.files.inS))
    rintro rfl
    have := h.c1
    rw [h.files.map.noCell] at this
    cases this
  · intro k F hk
    rw [hf] at hk
    obtain ⟨h1, h2, h3⟩ := h.files.yes k F hk
    refine ⟨h1, ⟨h2.1, ?_⟩, h3⟩
    rcases h2.2 with h0 | ⟨g, cap, cur, e, hg', hb, r⟩
    · exact .inl h0
    · exact .inr ⟨g, cap, cur, e, hg', (hne g (hd g cur hb) (lt_of_block hb)).trans hb, r⟩
  · intro k hk; rw [hf] at hk; exact h.files.no k hk
  · intro j k hjk hj hk; rw [hf] at hj hk; exact h.files.apart j k hjk hj hk
end

theorem heap_set {w : World} {d : Nat} {cs : Array Value} {t : TypeId} (h : w.heap[d]? = some (.cells cs t (0, 0))) (i : Nat) (v : Value) : (w.setCell ⟨d, i, none⟩ v).heap[d]? = some (.cells (cs.setIfInBounds i v) t (0, 0)) := by
  simp [World.setCell, Array.getElem?_modify, h]

end Go.Proofs.YtienabfilnpieaaGreat
