/-
  Copy.
-/
import Derived.Test.YtienabfilnpieaaGreatDiskCrash
import Derived.Shelf.SlMaps.Clone
namespace Go.Proofs.YtienabfilnpieaaGreat
open Go.RowKit Go.Shelf
set_option linter.unusedVariables false
set_option maxRecDepth 100000

theorem find_clone : Extern.find Tryz.f120 = some Extern.MapsClone.clone := by kernel_rfl
theorem enter_clone {w : World} {b : Nat} {es : Array MapEntry} {clock : Nat} (hb : w.heap[b]? = some (.map es clock)) :
    (callFunc 120 #[.iface 66 (.map (some b))]).run Tryz.prog w = .ok (.value (.iface 66 (.map (some w.heap.size)))) (w.alloc (.map es clock)) := by
  rw [run_callFunc_extern Tryz.func120 (by kernel_rfl) (by kernel_rfl) (by kernel_rfl) find_clone, run_maps_clone_sl w 66 hb]
  rfl
theorem mapsClone_any {w : World} {b : Nat} {es : Array MapEntry} {clock : Nat} (hb : w.heap[b]? = some (.map es clock)) :
    Calls Tryz.prog 90 #[.map (some b)] w fun e w' => e = .returned (.map (some w.heap.size)) ∧ w' = w.alloc (.map es clock) := by
  have hq := fun w => run_eql_map_nil_sl (P := Tryz.prog) w 66 _ _ (some b) Tryz.underlying66
  have hen := enter_clone hb
  have hta := run_typeAssert_map_sl (P := Tryz.prog) (w.alloc (.map es clock)) 66 20 _ _ (.map (some w.heap.size)) Tryz.underlying66
  go_enter Tryz.func90, Tryz.ntmps90
  go_wp2
  go_ret
  exact ⟨rfl, rfl⟩

theorem row_base {w : World} {base base' : Nat} {e : TypeId} {size : Nat} {v : Value} {n : Nat} {xs : List Value} (h : w.ownsRow base e size v n xs) (hb : base' ≤ base) : w.ownsRow base' e size v n xs := by
  refine ⟨h.1, ?_⟩
  rcases h.2 with h0 | ⟨g, cap, cur, e1, hg, r⟩
  · exact .inl h0
  · exact .inr ⟨g, cap, cur, e1, Nat.le_trans hb hg, r⟩

theorem enter_copy1 (x : Value) (W : World) : (callFunc 91 (#[x] ++ #[])).run Tryz.prog W = .ok (.enter 91 (#[x] ++ #[])) W := by kernel_rfl

/-- A file of a copy gets a row of its own; nothing that was there turns but the copy's map. -/
def CopiedTo (w : World) (S : Nat → Prop) (p mb : Nat) (M : AD) (f : Int → Option Value) (A : Int → Option Addr) (c : Int → Nat) (k : Int) (w' : World) : Prop :=
  ∃ f' A1 c1, DiskIn w' (grew S w w') p M mb f' (upd A k A1) (upd c k c1) ∧ (∀ g, blk A1 = some g → w.heap.size ≤ g) ∧ Turn (fun j => j = mb) w w'
theorem copy_step {w : World} {S : Nat → Prop} {p mb : Nat} {M : AD} {f : Int → Option Value} {A : Int → Option Addr} {c : Int → Nat} (h : DiskIn w S p M mb f A c) {k : Int} (hk : Name k) (F : AF) (hF : M.files k = some F) :
    Calls Tryz.prog 46 #[.pointer (some ⟨p, 0, none⟩), .int .i64 k, .func (.func 91) #[] #[]] w fun e w' => e = .returned (.tuple #[]) ∧ CopiedTo w S p mb M f A c k w' := by
  have he : fileAt M A c k = .agg #[.slice (A k) F.bs.length (c k), .int .i64 F.syn, .bool F.kept] := by simp [fileAt, hF, AF.val]
  obtain ⟨hf, hrow, hgS⟩ := h.files.yes k F hF
  have hpm : p ≠ mb := h.noMap h.head
  have hsm : F.bs.length ≤ 140737488355328 := by
    have h1 := len_le M hk
    have h2 : M.len k = F.bs.length := by simp [AD.len, hF]
    have h3 := h.ok.tot
    have h4 := h.ok.room2
    omega
  refine (change_in 91 #[] h hk (A k) F.bs.length (c k) F.syn F.kept he (fun W A1 n1 c1 s1 k1 => n1 = F.bs.length ∧ s1 = F.syn ∧ k1 = F.kept ∧ W.ownsRow (w.heap.size + 1) 5 1 (.slice A1 F.bs.length c1) F.bs.length (F.bs.map (Value.int .u8)) ∧ Below w.heap.size w W) (enter_copy1 _) ?_).mono ?_
  · have hrd : Rd (w.alloc (.cells #[.slice (A k) F.bs.length (c k), .int .i64 F.syn, .bool F.kept] 98)) (w.alloc (.cells #[.slice (A k) F.bs.length (c k), .int .i64 F.syn, .bool F.kept] 98)).heap.size (A k) F.bs :=
      ((Rd.own hrow).below ((Below.refl _ w).alloc (Nat.le_refl _) _)).wide (by simp)
    refine (copy1_any (BoxAt.new w (A k) F.bs.length (c k) F.syn F.kept) F.bs rfl hrd hsm).mono ?_
    rintro e W ⟨rfl, A1, c1, W1, hbox, hown, hb1, hg1⟩
    have hs1 := hb1.size
    simp at hs1
    have hbW : Below w.heap.size w W := (((Below.refl _ w).alloc (Nat.le_refl _) _).trans (hb1.mono (by simp))).grown hg1 (by omega) (fun j hj => by cases hj; exact Nat.le_refl _)
    refine ⟨rfl, (hbW.cell (p := ⟨p, 1, none⟩) h.lt).trans h.c1, h.files.map.same (hbW.block _ (h.low _ h.files.inS)), A1, F.bs.length, c1, F.syn, F.kept, hbox, rfl, rfl, rfl, ?_, hbW⟩
    have hown' : W1.ownsRow (w.heap.size + 1) 5 1 (.slice A1 F.bs.length c1) F.bs.length (F.bs.map (Value.int .u8)) := by simpa using hown
    refine row_same hown' (fun g hg => hg1.block g ?_ ?_)
    · obtain ⟨cur, hc⟩ := own_block hown' hg; exact lt_of_block hc
    · have := (hown'.lt g (by cases A1 <;> simp_all [Value.ownBlock, blk])).1
      simp; omega
  · rintro e w' ⟨rfl, W, A1, n1, c1, s1, k1, ⟨rfl, rfl, rfl, hown, hbW⟩, hm, hg⟩
    refine ⟨rfl, upd f k (some (.agg #[.slice A1 F.bs.length c1, .int .i64 F.syn, .bool F.kept])), A1, c1, ?_, ?_, ?_⟩
    rotate_left
    · intro g hgb
      have := (hown.lt g (by cases A1 <;> simp_all [Value.ownBlock, blk])).1
      omega
    · exact ⟨hg.os.trans hbW.os, hg.tape.trans hbW.tape, hg.output.trans hbW.output, Nat.le_trans hbW.size hg.size, fun j hj hn => (hg.block j (Nat.lt_of_lt_of_le hj hbW.size) (by simpa using hn)).trans (hbW.block j hj)⟩
    · have hblk : ∀ j, j < w.heap.size → j ≠ mb → w'.heap[j]? = w.heap[j]? := fun j hj hn => (hg.block j (Nat.lt_of_lt_of_le hj hbW.size) (by simpa using hn)).trans (hbW.block j hj)
      have hmW : MapAt W mb f := h.files.map.same (hbW.block _ (h.low _ h.files.inS))
      have hA1 : ∀ g, blk A1 = some g → w.heap.size ≤ g ∧ g < W.heap.size := fun g hgb => by
        have := hown.lt g (by cases A1 <;> simp_all [Value.ownBlock, blk])
        omega
      refine ⟨(hblk p h.lt hpm).trans h.head, ⟨hm, .inl h.files.inS, ?_, ?_, ?_⟩, h.ok, .inl h.inS, ?_⟩
      · intro j F' hj
        by_cases e : j = k
        · subst e
          rw [hF] at hj
          cases hj
          simp only [upd_same]
          refine ⟨rfl, row_same (row_base hown (Nat.zero_le _)) (fun g hgb => hg.block g (hA1 g hgb).2 (fun e => ?_)), fun g hgb => .inr ⟨(hA1 g hgb).1, Nat.lt_of_lt_of_le (hA1 g hgb).2 hg.size⟩⟩
          injection e with e
          have := (hA1 g hgb).1
          have := h.low _ h.files.inS
          omega
        · simp only [upd_other _ e]
          obtain ⟨h1, h2, h3⟩ := h.files.yes j F' hj
          refine ⟨h1, row_same h2 (fun g hgb => hblk g (h.low g (h3 g hgb)) ?_), fun g hgb => .inl (h3 g hgb)⟩
          obtain ⟨cur, hc⟩ := own_block h2 hgb
          exact h.noMap hc
      · intro j hj
        have e : j ≠ k := by rintro rfl; rw [hF] at hj; cases hj
        simp only [upd_other _ e]
        exact h.files.no j hj
      · have one : ∀ j, j ≠ k → M.files j ≠ none → ∀ g, blk (A j) = some g → blk A1 ≠ some g := by
          intro j e hj g hg' h1
          obtain ⟨F', hF'⟩ := Option.ne_none_iff_exists'.1 hj
          have := h.low g ((h.files.yes j F' hF').2.2 g hg')
          have := (hA1 g h1).1
          omega
        intro i j hij hi hj g hgi hgj
        by_cases ei : i = k
        · subst ei
          have ej : j ≠ i := fun e => hij e.symm
          simp only [upd_other _ ej] at hgj
          simp only [upd_same] at hgi
          exact one j ej hj g hgj hgi
        · simp only [upd_other _ ei] at hgi
          by_cases ej : j = k
          · subst ej
            simp only [upd_same] at hgj
            exact one i ei hi g hgi hgj
          · simp only [upd_other _ ej] at hgj
            exact h.files.apart i j hij hi hj g hgi hgj
      · rintro i (hi | ⟨_, hi⟩)
        · exact Nat.lt_of_lt_of_le (h.low i hi) (Nat.le_trans hbW.size hg.size)
        · exact hi


/-- A copy between two of its files: those of the first i names have rows of their own. -/
def CopyMid (w : World) (S : Nat → Prop) (p mb2 : Nat) (M : AD) (W3 : World) (i : Nat) (wr : World) : Prop :=
  ∃ S' f A c, DiskIn wr S' p M mb2 f A c ∧ (∀ k, S' k → S k ∨ w.heap.size ≤ k) ∧ (∀ j k, j < i → M.names[j]? = some k → ∀ h, blk (A k) = some h → w.heap.size ≤ h) ∧ Turn (fun j => j = mb2) W3 wr

/-- A disk of one's own that is the same. -/
def CopyAt (w : World) (M : AD) (e : Ending) (w' : World) : Prop := ∃ p, e = .returned (.pointer (some ⟨p, 0, none⟩)) ∧ DiskAt w' (fun k => w.heap.size ≤ k ∧ k < w'.heap.size) p M ∧ Below w.heap.size w w'

theorem copy_end {w wr W3 : World} {S : Nat → Prop} {p mb2 : Nat} {M : AD} (hb3 : Below w.heap.size w W3) (hp : w.heap.size ≤ p) (hm : w.heap.size ≤ mb2) (h : CopyMid w S p mb2 M W3 M.names.length wr) :
    DiskAt wr (fun k => w.heap.size ≤ k ∧ k < wr.heap.size) p M ∧ Below w.heap.size w wr := by
  obtain ⟨S', f, A, c, hd, hS, hnew, ht⟩ := h
  refine ⟨⟨mb2, f, A, c, hd.head, ⟨hd.files.map, ⟨hm, hd.low _ hd.files.inS⟩, fun k F hk => ?_, hd.files.no, hd.files.apart⟩, hd.ok, ⟨hp, hd.lt⟩, fun k hk => hk.2⟩, hb3.trans (ht.below hb3.size (fun i hi => by have : i = mb2 := hi; omega))⟩
  obtain ⟨h1, h2, h3⟩ := hd.files.yes k F hk
  refine ⟨h1, h2, fun h hh => ⟨?_, hd.low h (h3 h hh)⟩⟩
  obtain ⟨j, hj, e⟩ := List.mem_iff_getElem.1 ((names_mem M hd.ok k).2 (by rw [hk]; simp))
  exact hnew j k hj (by rw [List.getElem?_eq_getElem hj, e]) h hh

set_option maxHeartbeats 2000000 in
theorem copy_any {w : World} {S : Nat → Prop} {d : Nat} {M : AD} (h : DiskAt w S d M) : Calls Tryz.prog 41 #[.pointer (some ⟨d, 0, none⟩)] w (CopyAt w M) := by
  obtain ⟨mb, f, A, c, h⟩ := h
  obtain ⟨D, hown0, htell⟩ := h.files.map
  obtain ⟨es, clock, hmb, hFit, hle, hDD⟩ := hown0
  have hc0 := h.c0
  have hc1 := h.c1
  have hc2 := h.c2
  have hc3 := h.c3
  have hc4 := h.c4
  have hc5 := h.c5
  have hdlt := h.lt
  have hmlt := h.low _ h.files.inS
  -- the struct's copy, and the map's
  obtain ⟨W1, hW1⟩ : ∃ W1, W1 = w.alloc (.cells (headCells M mb) 69) := ⟨_, rfl⟩
  have hb1 : Below w.heap.size w W1 := by rw [hW1]; exact (Below.refl _ w).alloc (Nat.le_refl _) _
  have hs1 : W1.heap.size = w.heap.size + 1 := by rw [hW1]; simp
  have hx1 : W1.heap[w.heap.size]? = some (.cells (headCells M mb) 69 (0, 0)) := by rw [hW1]; exact heap_alloc_new w _
  have hm1 : W1.heap[mb]? = some (.map es clock) := (hb1.block mb hmlt).trans hmb
  obtain ⟨W2, hW2⟩ : ∃ W2, W2 = (W1.alloc (.map es clock)).setCell ⟨w.heap.size, 1, none⟩ (.map (some W1.heap.size)) := ⟨_, rfl⟩
  have hs2 : W2.heap.size = w.heap.size + 2 := by rw [hW2]; simp [World.setCell]; omega
  have hb2 : Below w.heap.size w W2 := by rw [hW2]; exact ((hb1.alloc (by omega) _).setCell (p := ⟨w.heap.size, 1, none⟩) (Nat.le_refl _) _)
  have hx2 : W2.heap[w.heap.size]? = some (.cells (headCells M (w.heap.size + 1)) 69 (0, 0)) := by
    rw [hW2, heap_set ((Below.heap_alloc W1 _ _ (by omega)).trans hx1), hs1]
    rfl
  have hm2 : W2.heap[w.heap.size + 1]? = some (.map es clock) := by
    rw [hW2, Below.heap_setCell _ _ _ _ (by simp), ← hs1]
    exact heap_alloc_new W1 _
  have hD2 : DiskIn W2 (fun k => (S k ∧ k < w.heap.size) ∨ k = w.heap.size ∨ k = w.heap.size + 1) w.heap.size M (w.heap.size + 1) f A c := by
    refine ⟨hx2, ⟨⟨D, ⟨es, clock, hm2, hFit, hle, hDD⟩, htell⟩, .inr (.inr rfl), fun k F hk => ?_, h.files.no, h.files.apart⟩, h.ok, .inr (.inl rfl), fun k hk => by omega⟩
    obtain ⟨h1, h2, h3⟩ := h.files.yes k F hk
    exact ⟨h1, row_same h2 (fun g hg => hb2.block g (h.low g (h3 g hg))), fun g hg => .inl ⟨h3 g hg, h.low g (h3 g hg)⟩⟩
  have f1 : (W1.alloc (.map es clock)).frozen? ⟨w.heap.size, 1, none⟩ = false := by
    have := (Below.heap_alloc W1 (.map es clock) _ (by omega)).trans hx1
    simp [World.frozen?, this]
  have q1 : (W1.alloc (.map es clock)).cell? ⟨w.heap.size, 1, none⟩ = some (.map (some mb)) := by
    have := (Below.heap_alloc W1 (.map es clock) _ (by omega)).trans hx1
    simp [World.cell?, this, headCells]
  have r1 : W1.cell? ⟨d, 1, none⟩ = some (.map (some mb)) := (hb1.cell (p := ⟨d, 1, none⟩) hdlt).trans hc1
  have HCL := Lib.hid (mapsClone_any hm1)
  have HW1 := Lib.hid hW1
  have HW2 := Lib.hid hW2
  have HD2 := Lib.hid hD2
  have HB2 := Lib.hid hb2
  have HS2 := Lib.hid hs2
  have HS1 := Lib.hid hs1
  have HOK := Lib.hid h.ok
  clear hW1 hW2 hD2 hb2 hs2 hb1 hx1 hm1 hx2 hm2 htell hFit hle hDD hmb h hs1
  go_enter Tryz.func41, Tryz.ntmps41
  go_wp2_with (first
    | (go_at_call 90; change Calls _ _ _ (w.alloc (.cells (headCells M mb) 69)) _; rw [← HW1.out]; refine HCL.out.mono ?_; rintro e w' ⟨rfl, rfl⟩)
    | (go_at_call 75; rw [← HW2.out]; refine (files_any ⟨_, _, _, _, HD2.out⟩).mono ?_; rintro e W3 ⟨v, rfl, hown, hb3⟩; obtain ⟨n1, hn1⟩ : ∃ n1, n1 = M.names.length := ⟨_, rfl⟩; rw [← hn1] at hown; obtain ⟨A0, c0, rfl, _, _⟩ := own_form hown; have HOW := Lib.hid hown; have HB3 := Lib.hid hb3; have HN1 := Lib.hid hn1; clear hown hb3 hn1))
  have hle4 : n1 ≤ 4 := by rw [HN1.out]; exact below_length M 4
  have hb3w : Below w.heap.size w W3 := HB2.out.trans (HB3.out.mono HB2.out.size)
  have hD3 := HD2.out.later HB3.out
  have hm0 : CopyMid w S w.heap.size (w.heap.size + 1) M W3 0 W3 := ⟨_, _, _, _, hD3, (fun k hk => hk.elim (fun e => .inl e.1) (fun e => .inr (by omega))), fun j k hj => absurd hj (by omega), Turn.refl _ _⟩
  have HM0 := Lib.hid hm0
  have HB3W := Lib.hid hb3w
  have hs3 : w.heap.size + 2 ≤ W3.heap.size := by rw [← HS2.out]; exact HB3.out.size
  clear hm0 hb3w hD3
  rcases hA0 : A0 with _ | ad
  · subst hA0
    have hz : n1 = 0 := by
      rcases HOW.out.2 with ⟨_, e⟩ | ⟨_, _, _, e, _⟩
      · exact e
      · cases e
    subst hz
    go_loopw [19] (fun i wr => i = .int .i64 0 ∧ wr = W3) (fun _ _ => 0)
    case atStart => exact ⟨rfl, rfl⟩
    case round =>
      obtain ⟨rfl, rfl⟩ := hrel
      go_wp2
      go_ret
      obtain ⟨e1, e2⟩ := copy_end (p := w.heap.size) (mb2 := w.heap.size + 1) HB3W.out (Nat.le_refl _) (by omega) (by rw [← HN1.out]; exact HM0.out)
      exact ⟨w.heap.size, rfl, e1, e2⟩
  · subst hA0
    obtain ⟨g, cur, hge, hgb, hgl, hgc⟩ : ∃ g cur, ad = ⟨g, 0, none⟩ ∧ W3.heap[g]? = some (.cells cur 3 (0, 0)) ∧ w.heap.size + 2 ≤ g ∧ cur.toList.take n1 = M.names.map (Value.int .i64) := by
      rcases HOW.out.2 with ⟨e, _⟩ | ⟨g, cap, cur, e, h1, h2, _, _, _, h3⟩
      · cases e
      · injection e with e1 _ _
        injection e1 with e1
        exact ⟨g, cur, e1, h2, by rw [← HS2.out]; exact h1, by simpa using h3⟩
    subst hge
    have hszg := lt_of_block hgb
    have hnm : ∀ i k : Nat, (M.below' 4)[i]? = some k → cur[i]? = some (Value.int .i64 ((k : Nat) : Int)) := fun i k hik => by
      have h1 : (M.names.map (Value.int .i64))[i]? = some (Value.int .i64 ((k : Nat) : Int)) := by unfold AD.names; rw [below_eq]; simp [hik]
      rw [← hgc, List.getElem?_take] at h1
      split at h1
      · simpa using h1
      · cases h1
    have hnames : ∀ i k : Nat, (M.below' 4)[i]? = some k → M.names[i]? = some (k : Int) := fun i k hik => by unfold AD.names; rw [below_eq]; simp [hik]
    have hlen : n1 = (M.below' 4).length := by rw [HN1.out]; unfold AD.names; rw [below_eq]; simp
    have HNM := Lib.hid hnm
    have HNN := Lib.hid hnames
    have HL := Lib.hid hlen
    have HGB := Lib.hid hgb
    clear hnm hnames hlen hgb hgc HOW
    go_loopw [19] (fun i wr => ∃ k : Nat, i = .int .i64 k ∧ k ≤ n1 ∧ Hid (CopyMid w S w.heap.size (w.heap.size + 1) M W3 k wr)) (fun i _ => n1 - (match i with | .int _ k => k.toNat | _ => 0))
    case atStart => exact ⟨0, rfl, Nat.zero_le _, HM0⟩
    case round =>
      obtain ⟨i, rfl, hi, H⟩ := hrel
      by_cases hin : i < n1
      · have hii : (i : Int) < n1 := by omega
        obtain ⟨k, hk⟩ : ∃ k, (M.below' 4)[i]? = some k := ⟨_, List.getElem?_eq_getElem (by rw [← HL.out]; exact hin)⟩
        obtain ⟨hk4, F, hF⟩ := names_lt M (List.mem_of_getElem? hk)
        obtain ⟨S', f', A', c', hd, hS', hnew, ht⟩ := H.out
        have kg : wr.cell? ⟨g, i, none⟩ = some (.int .i64 (k : Nat)) := by
          have h1 : wr.heap[g]? = _ := (ht.block g hszg (by omega)).trans HGB.out
          simp [World.cell?, h1, HNM.out i k hk]
        have hki := HNN.out i k hk
        have HD := Lib.hid hd
        have HF := Lib.hid hF
        have HSS := Lib.hid hS'
        have HNEW := Lib.hid hnew
        have HT := Lib.hid ht
        have HKI := Lib.hid hki
        clear hd hF hS' hnew ht hki hk
        go_wp2_with (go_at_call 46; refine (copy_step HD.out (k := (k : Nat)) (by unfold Name; omega) F HF.out).mono ?_; rintro e wy ⟨rfl, hcp⟩; have HCP := Lib.hid hcp; clear hcp)
        have hnext : CopyMid w S w.heap.size (w.heap.size + 1) M W3 (i + 1) wy := by
          obtain ⟨f2, A1, c1, hd2, hA1, ht2⟩ := HCP.out
          have hsz := HT.out.size
          refine ⟨_, f2, _, _, hd2, fun j hj => ?_, fun j x hj hx h hh => ?_, HT.out.trans ht2 (fun j hj => .inl hj)⟩
          · rcases hj with hj | ⟨hj, _⟩
            · exact HSS.out j hj
            · exact .inr (by omega)
          · by_cases e : x = (k : Int)
            · subst e
              rw [upd_same] at hh
              have := hA1 h hh
              omega
            · rw [upd_other _ e] at hh
              have hji : j < i := by
                rcases Nat.lt_or_ge j i with h1 | h1
                · exact h1
                · obtain rfl : j = i := by omega
                  rw [HKI.out] at hx
                  cases hx
                  exact absurd rfl e
              exact HNEW.out j x hji hx h hh
        have HNX := Lib.hid hnext
        clear hnext
        go_wp2
        go_roundw
        case rel => exact ⟨i + 1, by simp, by omega, HNX⟩
        case measure => simp; omega
      · obtain rfl : i = n1 := by omega
        go_wp2
        go_ret
        obtain ⟨e1, e2⟩ := copy_end (p := w.heap.size) (mb2 := w.heap.size + 1) HB3W.out (Nat.le_refl _) (by omega) (by rw [← HN1.out]; exact H.out)
        exact ⟨w.heap.size, rfl, e1, e2⟩

end Go.Proofs.YtienabfilnpieaaGreat
