/-
  Append.
-/
import Derived.Test.YtienabfilnpieaaGreatDiskCut
import Derived.Deep.RegionHeld3
namespace Go.Proofs.YtienabfilnpieaaGreat
open Go.RowKit
set_option linter.unusedVariables false
set_option maxRecDepth 100000

/-- What an operation leaves. -/
def After (S : Nat → Prop) (d : Nat) (w : World) (M : AD) (w' : World) : Prop := DiskAt w' (grew S w w') d M ∧ Turn S w w'

section
variable {S S' : Nat → Prop} {w w' w'' : World} {d : Nat} {M : AD}
theorem DiskAt.widen (h : DiskAt w S d M) (h1 : ∀ i, S i → S' i) (h2 : ∀ i, S' i → i < w.heap.size) : DiskAt w S' d M := by
  obtain ⟨mb, f, A, c, h⟩ := h
  exact ⟨mb, f, A, c, h.head, ⟨h.files.map, h1 _ h.files.inS, fun k F hk => let ⟨a, b, e⟩ := h.files.yes k F hk; ⟨a, b, fun g hg => h1 g (e g hg)⟩, h.files.no, h.files.apart⟩, h.ok, h1 _ h.inS, h2⟩
theorem After.of (h : DiskAt w' S' d M) (ht : Turn S w w') (hs : ∀ i, S' i → S i ∨ w.heap.size ≤ i) (hl : ∀ i, S i → i < w.heap.size) : After S d w M w' :=
  ⟨h.widen (fun i hi => (hs i hi).imp id (fun e => ⟨e, h.low hi⟩)) (fun i hi => hi.elim (fun e => Nat.lt_of_lt_of_le (hl i e) ht.size) (fun e => e.2)), ht⟩
theorem After.same (h : DiskAt w S d M) (hb : Below w.heap.size w w') : After S d w M w' := After.of (h.later hb) (Turn.of_below hb) (fun i hi => .inl hi) (fun i hi => h.low hi)
/-- One behind another. -/
theorem After.then {M' : AD} (h : DiskAt w S d M) (ht : Turn S w w') (h' : After S d w' M' w'') : After S d w M' w'' := by
  refine After.of h'.1 (ht.trans h'.2 (fun i hi => .inl hi)) (fun i hi => ?_) (fun i hi => h.low hi)
  rcases hi with hi | ⟨hi, _⟩
  · exact .inl hi
  · exact .inr (Nat.le_trans ht.size hi)
end

def AD.file (M : AD) (k : Int) : AF := (M.files k).getD AF.none
def AF.lay (F : AF) (bs : List Int) : AF := ⟨F.bs ++ bs, F.syn, F.kept⟩
def AD.appendC (M : AD) (k : Int) (n : Nat) : Int := if M.dead then 9 else if Name k then (if M.room - M.total < n then 6 else M.err) else 120
def AD.appendM (M : AD) (k : Int) (bs : List Int) : AD := if M.dead then M else if Name k then (if M.room - M.total < bs.length then M else if M.err = 8 then M.met else M.met.put k ((M.file k).lay bs)) else M

theorem append_nil (w : World) (k : Int) (v : Value) : Calls Tryz.prog 11 #[.pointer none, .int .i64 k, v] w fun e w' => e = .returned (.int .i64 1) ∧ Below w.heap.size w w' := by
  go_enter Tryz.func11, Tryz.ntmps11
  go_wp2_with (go_at_call 43; refine (named_nil _ _).mono ?_; rintro e w' ⟨rfl, rfl⟩)
  go_ret
  exact ⟨rfl, (Below.refl _ w).alloc (Nat.le_refl _) _⟩

theorem met_files (M : AD) : M.met.files = M.files := by unfold AD.met; split <;> rfl
theorem met_room (M : AD) : M.met.room = M.room := by unfold AD.met; split <;> rfl
theorem met_total (M : AD) : M.met.total = M.total := by unfold AD.total AD.len; rw [met_files]

theorem len_put (M : AD) (k j : Int) (F : AF) : (M.put k F).len j = if j = k then F.bs.length else M.len j := by
  unfold AD.len AD.put
  by_cases e : j = k
  · subst e; simp [upd_same]
  · simp [upd_other _ e, e]
theorem total_put (M : AD) {k : Int} (hk : Name k) (F : AF) : (M.put k F).total + M.len k = M.total + F.bs.length := by
  unfold AD.total
  simp only [len_put]
  have h4 : k = 0 ∨ k = 1 ∨ k = 2 ∨ k = 3 := by unfold Name at hk; omega
  rcases h4 with rfl | rfl | rfl | rfl <;> simp <;> omega
theorem len_le (M : AD) {k : Int} (hk : Name k) : M.len k ≤ M.total := by
  have h4 : k = 0 ∨ k = 1 ∨ k = 2 ∨ k = 3 := by unfold Name at hk; omega
  unfold AD.total
  rcases h4 with rfl | rfl | rfl | rfl <;> omega
theorem len_file (M : AD) (k : Int) : (M.file k).bs.length = M.len k := by
  unfold AD.file AD.len
  cases M.files k <;> rfl
theorem syn_file {M : AD} (h : M.Ok) (k : Int) : (M.file k).syn ≤ (M.file k).bs.length := by
  unfold AD.file
  rcases hf : M.files k with _ | F
  · simp [AF.none]
  · exact h.syn k F hf
theorem Ok.put {M : AD} (h : M.Ok) {k : Int} (hk : Name k) (F : AF) (hs : F.syn ≤ F.bs.length) (ht : (M.total : Int) + F.bs.length ≤ M.room + M.len k) : (M.put k F).Ok := by
  refine ⟨h.room1, h.room2, ?_, h.arm1, h.arm2, h.fail1, h.fail2, h.ops0, h.ops1, ?_, ?_⟩
  · have := total_put M hk F
    show ((M.put k F).total : Int) ≤ M.room
    omega
  · intro j hj
    by_cases e : j = k
    · subst e; exact hk
    · simp only [AD.put, upd_other _ e] at hj; exact h.names j hj
  · intro j F' hj
    by_cases e : j = k
    · subst e; simp only [AD.put, upd_same, Option.some.injEq] at hj; subst hj; exact hs
    · simp only [AD.put, upd_other _ e] at hj; exact h.syn j F' hj

theorem enter_lay (x p1 : Value) (W : World) : (callFunc 95 (#[x] ++ #[p1])).run Tryz.prog W = .ok (.enter 95 (#[x] ++ #[p1])) W := by kernel_rfl

/-- Bytes of a disk's own are no cells of its head. -/
theorem DiskIn.odd {w : World} {S : Nat → Prop} {d mb : Nat} {M : AD} {f : Int → Option Value} {A : Int → Option Addr} {c : Int → Nat} (h : DiskIn w S d M mb f A c) : ∀ o z, w.cell? ⟨d, o, none⟩ ≠ some (.int .u8 z) := by
  intro o z hc
  simp [World.cell?, h.head, headCells] at hc
  match o, hc with
  | 0, hc => simp at hc
  | 1, hc => simp at hc
  | 2, hc => simp at hc
  | 3, hc => simp at hc
  | 4, hc => simp at hc
  | 5, hc => simp at hc
  | o + 6, hc => simp at hc

/-- The bytes are laid, whatever the operation met (but ErrIo). -/
theorem lay_disk {w : World} {S : Nat → Prop} {d mb : Nat} {M : AD} {f : Int → Option Value} {A : Int → Option Addr} {c : Int → Nat} (h : DiskIn w S d M mb f A c) {k : Int} (hk : Name k) (b : Nat) (B : Option Addr) (m cb : Nat) (bs : List Int)
    (hb : w.cell? ⟨b, 0, none⟩ = some (.slice B m cb)) (hm : bs.length = m) (hr : Rd w w.heap.size B bs) (hfit : (M.total : Int) + bs.length ≤ M.room) :
    Calls Tryz.prog 46 #[.pointer (some ⟨d, 0, none⟩), .int .i64 k, .func (.func 95) #[] #[.pointer (some ⟨b, 0, none⟩)]] w fun e w' => e = .returned (.tuple #[]) ∧ After S d w (M.put k ((M.file k).lay bs)) w' := by
  have ok := h.ok
  have hlen := len_file M k
  have hr2 := ok.room2
  have hle := len_le M hk
  have hblt : b < w.heap.size := by
    rcases Nat.lt_or_ge b w.heap.size with h1 | h1
    · exact h1
    · simp [World.cell?, Array.getElem?_eq_none h1] at hb
  have hok : (M.put k ((M.file k).lay bs)).Ok := by
    refine Ok.put ok hk _ ?_ ?_
    · have := syn_file ok k; simp [AF.lay]; omega
    · simp [AF.lay]; omega
  refine (change_disk (fun _ => False) 95 #[.pointer (some ⟨b, 0, none⟩)] h hk ((M.file k).lay bs) hok (fun _ e => e.elim) (enter_lay _ _) ?_).mono ?_
  · intro A0 n0 c0 s0 k0 he hnone
    obtain ⟨A', c', n', s', k', he', hn', hno, hso⟩ := fileAt_form M A c k
    rw [he] at he'
    simp only [Value.agg.injEq, Array.mk.injEq, List.cons.injEq, Value.slice.injEq, Value.int.injEq, Value.bool.injEq, true_and, and_true] at he'
    obtain ⟨⟨rfl, rfl, rfl⟩, rfl, rfl⟩ := he'
    -- the file's row
    have hF : n0 = (M.file k).bs.length ∧ s0 = (M.file k).syn ∧ k0 = (M.file k).kept ∧ w.ownsRow 0 5 1 (.slice A0 n0 c0) n0 ((M.file k).bs.map (Value.int .u8)) := by
      rcases hf : M.files k with _ | F
      · obtain ⟨rfl, rfl, rfl, rfl⟩ := hno hf
        have e : M.file k = AF.none := by simp [AD.file, hf]
        have hn0 : n0 = 0 := by rw [hn']; simp [AD.len, hf]
        subst hn0
        rw [e]
        exact ⟨rfl, rfl, rfl, World.ownsRow_nil _ _ _ _⟩
      · obtain ⟨rfl, rfl, rfl, rfl, rfl⟩ := hso F hf
        have e : M.file k = F := by simp [AD.file, hf]
        rw [e]
        exact ⟨rfl, rfl, rfl, (h.files.yes k F hf).2.1⟩
    obtain ⟨e1, e2, e3, hrow⟩ := hF
    have hq : some w.heap.size ≠ blk A0 := fun e => by
      obtain ⟨cur, hc⟩ := own_block hrow e.symm
      have := lt_of_block hc
      omega
    have hcell : (w.alloc (.cells #[.slice A0 n0 c0, .int .i64 s0, .bool k0] 98)).cell? ⟨b, 0, none⟩ = some (.slice B m cb) := Lib.cell?_alloc_some _ hb
    have hrd : Rd (w.alloc (.cells #[.slice A0 n0 c0, .int .i64 s0, .bool k0] 98)) (w.alloc (.cells #[.slice A0 n0 c0, .int .i64 s0, .bool k0] 98)).heap.size B bs :=
      (hr.below ((Below.refl _ w).alloc (Nat.le_refl _) _)).wide (by simp)
    refine (lay_any (BoxAt.new w A0 n0 c0 s0 k0) hcell (hrow.alloc _) hm hrd (by omega) hq).mono ?_
    rintro e W' ⟨rfl, A1, c1, W1, hbox, hown, hg1, hloc, hg2⟩
    refine ⟨rfl, A1, n0 + m, c1, s0, k0, hbox, ?_⟩
    have hq1 : some w.heap.size ≠ blk A1 := fun e => by
      rcases hloc with e' | e'
      · rw [e'] at e; exact hq e
      · rw [e'] at e; simp at e
    refine ⟨?_, e2, e3, ?_, ?_, hg2.os.trans hg1.os, hg2.tape.trans hg1.tape, hg2.output.trans hg1.output, ?_, ?_⟩
    · simp [AF.lay]; omega
    · have : n0 + m = ((M.file k).lay bs).bs.length := by simp [AF.lay]; omega
      unfold AF.At
      rw [← this]
      refine row_same hown (fun g hg => hg2.block g ?_ ?_)
      · obtain ⟨cur, hc⟩ := own_block hown hg
        exact lt_of_block hc
      · intro e; injection e with e; subst e; exact hq1 hg.symm
    · rcases hloc with e' | e'
      · exact .inl e'
      · refine .inr (.inl (fun g hg => ?_))
        rw [e'] at hg
        simp at hg
        omega
    · have h1 := hg1.size
      have h2 := hg2.size
      simp at h1
      omega
    · intro j hj h0
      have h1 := hg1.size
      simp at h1
      rw [hg2.block j (by omega) (by simp; omega), hg1.block j (by simp; omega) h0, Below.heap_alloc w _ j hj]
  · rintro e w' ⟨rfl, hD, hT⟩
    exact ⟨rfl, hD, hT⟩


theorem wrap_in {x : Int} (h : -9223372036854775808 ≤ x ∧ x ≤ 9223372036854775807) : IntKind.i64.wrap x = x := by
  rw [IntKind.wrap_i64]
  omega

theorem append_refused {M : AD} {k : Int} {bs : List Int} {m : Nat} (h : namedC M.dead [k] ≠ 0) : M.appendC k m = namedC M.dead [k] ∧ M.appendM k bs = M := by
  unfold namedC at h ⊢
  unfold AD.appendC AD.appendM
  revert h
  generalize M.dead = b
  by_cases hn : Name k
  · cases b <;> simp [hn]
  · cases b <;> simp [hn]
theorem append_named {M : AD} {k : Int} (h : 0 = namedC M.dead [k]) : M.dead = false ∧ Name k := by
  unfold namedC at h
  revert h
  generalize M.dead = b
  by_cases hn : Name k
  · cases b <;> simp [hn]
  · cases b <;> simp [hn]

set_option maxHeartbeats 800000 in
theorem append_any {w : World} {S : Nat → Prop} {d : Nat} {M : AD} (h : DiskAt w S d M) {k : Int} (hk : I64 k) (hops : M.ops < 4611686018427387904) (B : Option Addr) (m cb : Nat) (bs : List Int) (hm : bs.length = m) (hbig : m ≤ 140737488355328) (hr : Rd w w.heap.size B bs) :
    Calls Tryz.prog 11 #[.pointer (some ⟨d, 0, none⟩), .int .i64 k, .slice B m cb] w fun e w' => e = .returned (.int .i64 (M.appendC k m)) ∧ After S d w (M.appendM k bs) w' := by
  obtain ⟨mb, f, A, c, h⟩ := h
  have hD0 := Lib.hid h
  have h1 : DiskIn (w.alloc (.cells #[.int .i64 k] 3)) S d M mb f A c := h.later ((Below.refl _ w).alloc (Nat.le_refl _) _)
  have hc5 := h1.c5
  have HD1 := Lib.hid h1
  have HR := Lib.hid hr
  have HM := Lib.hid hm
  have hcs : ∀ j, j < 1 → (w.alloc (.cells #[.int .i64 k] 3)).cell? ⟨w.heap.size, j, none⟩ = some (.int .i64 ([k].getD j 0)) := fun j hj => by
    obtain rfl : j = 0 := by omega
    rw [cell_new]; rfl
  have HC := Lib.hid hcs
  obtain ⟨nc, hnc⟩ : ∃ nc, nc = namedC M.dead [k] := ⟨_, rfl⟩
  have HN := Lib.hid hnc
  clear h h1 hr hm hcs hnc
  by_cases hz : nc = 0
  · subst hz
    obtain ⟨hdead, hname⟩ := append_named HN.out
    have ok := hD0.out.ok
    have ht1 := ok.tot
    have ht2 := ok.room2
    have ht3 := ok.room1
    have hcode : M.appendC k m = if M.room - M.total < m then 6 else M.err := by simp [AD.appendC, hdead, hname]
    have hmod : M.appendM k bs = if M.room - M.total < bs.length then M else if M.err = 8 then M.met else M.met.put k ((M.file k).lay bs) := by simp [AD.appendM, hdead, hname]
    have HCODE := Lib.hid hcode
    have HMOD := Lib.hid hmod
    clear ok hcode hmod
    have hz0 := HN.out
    have hbW : Below w.heap.size w (w.alloc (.cells #[.int .i64 k] 3)) := (Below.refl _ w).alloc (Nat.le_refl _) _
    have HBW := Lib.hid hbW
    clear hbW hz0
    by_cases hful : M.room - M.total < (m : Int)
    · have hdf : decide (IntKind.i64.wrap (M.room - (M.total : Int)) < (m : Int)) = true := by rw [wrap_in (by omega)]; simp; omega
      go_enter Tryz.func11, Tryz.ntmps11
      go_wp2_with (go_at_call 43; refine (named_any _ d _ 1 1 M.dead [k] hc5 rfl (by omega) (by omega) HC.out).mono ?_; rw [← HN.out]; rintro e w' ⟨rfl, rfl⟩)
      clear hc5 HC
      generalize w.alloc (.cells #[.int .i64 k] 3) = W1 at HD1 HBW ⊢
      have hr0 := HD1.out.c0
      go_region_held3 (fun w' => w'.cell? ⟨d, 0, none⟩ = some (.int .i64 M.room)) (first | exact hr0 | exact hr2) (first | (go_at_call 44; refine (used_any ⟨mb, f, A, c, HD1.out.drew⟩).mono ?_; rintro e w2 ⟨rfl, hb2⟩; have d2 : DiskIn w2 S d M mb f A c := HD1.out.drew.later hb2; have hr2 := d2.c0; have D2 := Lib.hid d2; have HB2 := Lib.hid (HBW.out.drew.trans (hb2.mono HBW.out.size)); clear d2 hb2))
      go_wp2_with fail
      go_ret
      rw [HCODE.out, HMOD.out, HM.out, if_pos hful, if_pos hful]
      exact ⟨rfl, After.same ⟨mb, f, A, c, hD0.out⟩ HB2.out⟩
    · have hful2 : (m : Int) ≤ M.room - M.total := by omega
      have hdf : decide (IntKind.i64.wrap (M.room - (M.total : Int)) < (m : Int)) = false := by rw [wrap_in (by omega)]; simp; omega
      rw [HCODE.out, HMOD.out, HM.out, if_neg hful, if_neg hful]
      clear hful
      obtain ⟨er, her⟩ : ∃ er, er = M.err := ⟨_, rfl⟩
      rw [← her]
      have HE := Lib.hid her
      clear her
      by_cases h8 : er = 8
      · subst h8
        go_enter Tryz.func11, Tryz.ntmps11
        go_wp2_with (go_at_call 43; refine (named_any _ d _ 1 1 M.dead [k] hc5 rfl (by omega) (by omega) HC.out).mono ?_; rw [← HN.out]; rintro e w' ⟨rfl, rfl⟩)
        clear hc5 HC
        generalize w.alloc (.cells #[.int .i64 k] 3) = W1 at HD1 HBW ⊢
        have hr0 := HD1.out.c0
        go_region_held3 (fun w' => w'.cell? ⟨d, 0, none⟩ = some (.int .i64 M.room)) (first | exact hr0 | exact hr2) (first | (go_at_call 44; refine (used_any ⟨mb, f, A, c, HD1.out.drew⟩).mono ?_; rintro e w2 ⟨rfl, hb2⟩; have d2 : DiskIn w2 S d M mb f A c := HD1.out.drew.later hb2; have hr2 := d2.c0; have D2 := Lib.hid d2; have HB2 := Lib.hid (HBW.out.drew.trans (hb2.mono HBW.out.size)); clear d2 hb2))
        go_wp2_with (go_at_call 45; refine (meet_any D2.out hops).mono ?_; rw [← HE.out]; rintro e w3 ⟨rfl, hd3, hg3⟩; have D3 := Lib.hid hd3; have G3 := Lib.hid hg3; clear hd3 hg3)
        go_ret
        refine ⟨rfl, After.of ⟨mb, f, A, c, D3.out⟩ ((Turn.of_below HB2.out).trans (Turn.of_grown (S := S) G3.out (fun i hi => by cases hi; exact .inl hD0.out.inS)) (fun i hi => .inl hi)) (fun i hi => .inl hi) (fun i hi => hD0.out.low i hi)⟩
      · rw [if_neg h8]
        have H8 := Lib.hid h8
        have hz1 : (er == 8) = false := by simp [h8]
        have hz2 : (er != 8) = true := by simp [h8]
        go_enter Tryz.func11, Tryz.ntmps11
        go_wp2_with (go_at_call 43; refine (named_any _ d _ 1 1 M.dead [k] hc5 rfl (by omega) (by omega) HC.out).mono ?_; rw [← HN.out]; rintro e w' ⟨rfl, rfl⟩)
        clear hc5 HC
        generalize w.alloc (.cells #[.int .i64 k] 3) = W1 at HD1 HBW ⊢
        have hr0 := HD1.out.c0
        go_region_held3 (fun w' => w'.cell? ⟨d, 0, none⟩ = some (.int .i64 M.room)) (first | exact hr0 | exact hr2) (first | (go_at_call 44; refine (used_any ⟨mb, f, A, c, HD1.out.drew⟩).mono ?_; rintro e w2 ⟨rfl, hb2⟩; have d2 : DiskIn w2 S d M mb f A c := HD1.out.drew.later hb2; have hr2 := d2.c0; have D2 := Lib.hid d2; have HB2 := Lib.hid (HBW.out.drew.trans (hb2.mono HBW.out.size)); clear d2 hb2))
        go_wp2_with (first
          | (go_at_call 45; refine (meet_any D2.out hops).mono ?_; rw [← HE.out]; rintro e w3 ⟨rfl, hd3, hg3⟩; have D3 := Lib.hid hd3; have G3 := Lib.hid hg3; clear hd3 hg3)
          | (go_at_call 47; refine (layBehind_any B m cb _).mono ?_; rintro e w4 ⟨rfl, hw4⟩; have HW4 := Lib.hid hw4; clear hw4))
        have hb3 : Below w3.heap.size w3 w4 := by rw [HW4.out]; exact (Below.refl _ w3).alloc (Nat.le_refl _) _
        have hc4 : w4.cell? ⟨w3.heap.size, 0, none⟩ = some (.slice B m cb) := by rw [HW4.out, cell_new]; rfl
        have hrd : Rd w4 w4.heap.size B bs := (((((HR.out.below HB2.out).wide HB2.out.size).only G3.out D2.out.odd).below hb3)).wide hb3.size
        have htot := met_total M
        have hroom := met_room M
        have hturn : Turn S w w4 := ((Turn.of_below HB2.out).trans (Turn.of_grown (S := S) G3.out (fun i hi => by cases hi; exact .inl hD0.out.inS)) (fun i hi => .inl hi)).trans (Turn.of_below (S := S) hb3) (fun i hi => .inl hi)
        have hfile : M.met.file k = M.file k := by simp [AD.file, met_files]
        refine (lay_disk (D3.out.later hb3) hname _ B m cb bs hc4 HM.out hrd (by rw [htot, hroom, HM.out]; omega)).mono ?_
        rw [hfile]
        rintro e w5 ⟨rfl, haf⟩
        have HAF := Lib.hid haf
        have HT := Lib.hid hturn
        clear haf hturn hrd hc4 hb3
        go_wp2
        go_ret
        exact ⟨rfl, After.then ⟨mb, f, A, c, hD0.out⟩ HT.out HAF.out⟩
  · have hz1 : (nc == 0) = false := by simp [hz]
    have hz2 : (nc != 0) = true := by simp [hz]
    go_enter Tryz.func11, Tryz.ntmps11
    go_wp2_with (go_at_call 43; refine (named_any _ d _ 1 1 M.dead [k] hc5 rfl (by omega) (by omega) HC.out).mono ?_; rw [← HN.out]; rintro e w' ⟨rfl, rfl⟩)
    go_ret
    obtain ⟨e1, e2⟩ := append_refused (M := M) (k := k) (bs := bs) (m := m) (by rw [← HN.out]; exact hz)
    rw [e1, e2, ← HN.out]
    exact ⟨rfl, After.same ⟨mb, f, A, c, hD0.out⟩ ((Below.refl _ w).alloc (Nat.le_refl _) _)⟩

end Go.Proofs.YtienabfilnpieaaGreat
