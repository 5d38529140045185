/-
  How many bytes of each file are left when the power comes back.
-/
import Derived.Test.YtienabfilnpieaaGreatDiskPending
namespace Go.Proofs.YtienabfilnpieaaGreat
open Go.RowKit Go.Shelf
set_option linter.unusedVariables false
set_option maxRecDepth 100000
attribute [local go_sem] Oper.semAt_some

/-- At the address A the bools bs can be read, in a block below B. -/
def RdB (w : World) (B : Nat) (A : Option Addr) (bs : List Bool) : Prop :=
  0 < bs.length → ∃ b o, A = some ⟨b, o, none⟩ ∧ b < B ∧ ∀ j, j < bs.length → w.cell? ⟨b, o + j, none⟩ = some (.bool (bs.getD j false))
theorem RdB.below {w w' : World} {B : Nat} {A : Option Addr} {bs : List Bool} (h : RdB w B A bs) (hb : Below B w w') : RdB w' B A bs := by
  intro hp
  obtain ⟨b, o, e, hlt, hc⟩ := h hp
  exact ⟨b, o, e, hlt, fun j hj => (hb.cell (p := ⟨b, o + j, none⟩) hlt).trans (hc j hj)⟩

/-- What has come of the files behind some pieces: how many bytes are left, and which are torn. -/
structure Sv where
  i : Nat
  L : Nat → Nat
  T : Nat → Bool
def Sv.go (keep : List Bool) (s : Sv) (x : Pc) : Sv :=
  ⟨s.i + 1, fun j => if j = x.nm then (if s.T j || !keep.getD s.i false then s.L j else s.L j + x.sz) else s.L j, fun j => if j = x.nm then s.T j || !keep.getD s.i false else s.T j⟩
def AD.syn0 (M : AD) (j : Nat) : Nat := match M.files (j : Int) with | some F => F.syn | none => 0
def AD.sv (M : AD) (keep : List Bool) (pre : List Pc) : Sv := pre.foldl (Sv.go keep) ⟨0, M.syn0, fun _ => false⟩
theorem sv_snoc (M : AD) (keep : List Bool) (pre : List Pc) (x : Pc) : M.sv keep (pre ++ [x]) = (M.sv keep pre).go keep x := by simp [AD.sv, List.foldl_append]
theorem sv_i (M : AD) (keep : List Bool) (pre : List Pc) : (M.sv keep pre).i = pre.length := by
  have e : ∀ (pre : List Pc) (s : Sv), (pre.foldl (Sv.go keep) s).i = s.i + pre.length := by
    intro pre
    induction pre with
    | nil => intro s; rfl
    | cons x pre ih => intro s; rw [List.foldl_cons, ih]; simp [Sv.go]; omega
  have := e pre ⟨0, M.syn0, fun _ => false⟩
  simpa [AD.sv] using this

def fill (M : AD) (k : Nat) : Array Value := #[.int .i64 ((if 0 < k then M.syn0 0 else 0 : Nat) : Int), .int .i64 ((if 1 < k then M.syn0 1 else 0 : Nat) : Int), .int .i64 ((if 2 < k then M.syn0 2 else 0 : Nat) : Int), .int .i64 ((if 3 < k then M.syn0 3 else 0 : Nat) : Int)]
theorem fill_succ (M : AD) {k : Nat} (hk : k < 4) : (fill M k).setIfInBounds k (.int .i64 (M.syn0 k : Nat)) = fill M (k + 1) := by
  have : k = 0 ∨ k = 1 ∨ k = 2 ∨ k = 3 := by omega
  rcases this with rfl | rfl | rfl | rfl <;> simp [fill]
theorem fill_at (M : AD) {k : Nat} (hk : k < 4) : ∃ v, (fill M k)[k]? = some (.int .i64 v) := by
  have : k = 0 ∨ k = 1 ∨ k = 2 ∨ k = 3 := by omega
  rcases this with rfl | rfl | rfl | rfl <;> simp [fill]

theorem sv_le (M : AD) (keep : List Bool) (pre : List Pc) (j : Nat) : (M.sv keep pre).L j ≤ M.syn0 j + 8 * pre.length := by
  have e : ∀ (pre : List Pc) (s : Sv), (pre.foldl (Sv.go keep) s).L j ≤ s.L j + 8 * pre.length := by
    intro pre
    induction pre with
    | nil => intro s; simp
    | cons x pre ih =>
      intro s
      rw [List.foldl_cons]
      refine Nat.le_trans (ih _) ?_
      have h2 := x.h2.2
      simp only [Sv.go, List.length_cons]
      split
      · split <;> omega
      · omega
  exact e pre ⟨0, M.syn0, fun _ => false⟩
theorem syn0_le {M : AD} (h : M.Ok) {j : Nat} (hj : j < 4) : M.syn0 j ≤ 65536 := by
  have h1 := len_le M (k := (j : Nat)) (by unfold Name; omega)
  have h3 := h.tot
  have h4 := h.room2
  unfold AD.syn0
  rcases hf : M.files (j : Nat) with _ | F
  · simp
  · have h5 := h.syn _ F hf
    have h6 : M.len (j : Nat) = F.bs.length := by simp [AD.len, hf]
    simp
    omega

def arrL (v : Sv) : Array Value := #[.int .i64 ((v.L 0 : Nat) : Int), .int .i64 ((v.L 1 : Nat) : Int), .int .i64 ((v.L 2 : Nat) : Int), .int .i64 ((v.L 3 : Nat) : Int)]
def arrT (v : Sv) : Array Value := #[.bool (v.T 0), .bool (v.T 1), .bool (v.T 2), .bool (v.T 3)]
theorem arrL_at (v : Sv) {k : Nat} (hk : k < 4) : (arrL v)[k]? = some (.int .i64 ((v.L k : Nat) : Int)) := by
  have : k = 0 ∨ k = 1 ∨ k = 2 ∨ k = 3 := by omega
  rcases this with rfl | rfl | rfl | rfl <;> simp [arrL]
theorem arrT_at (v : Sv) {k : Nat} (hk : k < 4) : (arrT v)[k]? = some (.bool (v.T k)) := by
  have : k = 0 ∨ k = 1 ∨ k = 2 ∨ k = 3 := by omega
  rcases this with rfl | rfl | rfl | rfl <;> simp [arrT]
theorem arrT_go (keep : List Bool) (v : Sv) (x : Pc) {b : Bool} (hb : b = (v.T x.nm || !keep.getD v.i false)) : (arrT v).setIfInBounds x.nm (.bool b) = arrT (v.go keep x) := by
  have h4 := x.h1
  have : x.nm = 0 ∨ x.nm = 1 ∨ x.nm = 2 ∨ x.nm = 3 := by omega
  subst hb
  rcases this with e | e | e | e <;> simp [arrT, Sv.go, e]
theorem arrL_yes (keep : List Bool) (v : Sv) (x : Pc) (hb : (v.T x.nm || !keep.getD v.i false) = false) : (arrL v).setIfInBounds x.nm (.int .i64 (((v.L x.nm : Nat) : Int) + ((x.sz : Nat) : Int))) = arrL (v.go keep x) := by
  have h4 := x.h1
  have : x.nm = 0 ∨ x.nm = 1 ∨ x.nm = 2 ∨ x.nm = 3 := by omega
  rcases this with e | e | e | e <;> rw [e] at hb <;> simp [arrL, Sv.go, e] <;> simp at hb <;> simp [hb]
theorem arrL_no (keep : List Bool) (v : Sv) (x : Pc) (hb : (v.T x.nm || !keep.getD v.i false) = true) : arrL v = arrL (v.go keep x) := by
  have h4 := x.h1
  have : x.nm = 0 ∨ x.nm = 1 ∨ x.nm = 2 ∨ x.nm = 3 := by omega
  rcases this with e | e | e | e <;> rw [e] at hb <;> simp [arrL, Sv.go, e] <;> simp at hb <;> simp [hb]

/-- These blocks, and no others, may be dirty. -/
def setDirt (Ds : Nat → Prop) (W : World) (k : Nat) : Prop := Ds k
theorem setDirt_grow (Ds : Nat → Prop) (n₀ : Nat) : Dirt n₀ (setDirt Ds) := ⟨fun _ _ _ _ _ h => h⟩
theorem kq_refl (Ds : Nat → Prop) (W : World) : Kq (setDirt Ds) W W := ⟨Nat.le_refl _, fun _ _ h _ _ => h, fun _ h => .inl h, fun h => h⟩
theorem kq_set {Ds : Nat → Prop} {W W' : World} (h : Kq (setDirt Ds) W W') {b : Nat} (hb : Ds b) (i : Nat) (v : Value) : Kq (setDirt Ds) W (W'.setCell ⟨b, i, none⟩ v) := by
  have hsz : (W'.setCell ⟨b, i, none⟩ v).heap.size = W'.heap.size := by simp [World.setCell]
  refine ⟨by rw [hsz]; exact h.size, fun k o hk hkind hn => ?_, fun k hk => .inl hk, fun hl k hk => by rw [hsz]; exact Nat.lt_of_lt_of_le (hl k hk) h.size⟩
  rw [Below.heap_setCell W' ⟨b, i, none⟩ v k (fun e => hn (by rw [e]; exact hb))]
  exact h.keep k o hk hkind hn
theorem kq_put' {Ds : Nat → Prop} {W : World} {l : Nat} {o : Obj} (o' : Obj) (hl : W.heap[l]? = some o) (h1 : o.isCells = false) (h2 : o.isWalk = false) : Kq (setDirt Ds) W (W.putObj l o') := by
  have hsz : (W.putObj l o').heap.size = W.heap.size := by simp [World.putObj]
  refine ⟨Nat.le_of_eq hsz.symm, fun k o2 hk hkind hn => ?_, fun k hk => .inl hk, fun hlow k hk => by rw [hsz]; exact hlow k hk⟩
  rw [World.putObj_heap_other ?_]
  · exact hk
  · rintro rfl
    rw [hl] at hk
    cases hk
    rcases hkind with e | e
    · rw [h1] at e; cases e
    · rw [h2] at e; cases e

structure SvAt (w : World) (K : Option Addr) (kn kc : Nat) (v : Sv) (W : World) : Prop where
  kbox : W.heap[w.heap.size]? = some (.cells #[.slice K kn kc] 34 (0, 0))
  res : W.heap[w.heap.size + 1]? = some (.cells #[.int .i64 0, .int .i64 0, .int .i64 0, .int .i64 0] 103 (0, 0))
  left : W.heap[w.heap.size + 1 + 1]? = some (.cells (arrL v) 103 (0, 0))
  torn : W.heap[w.heap.size + 3]? = some (.cells (arrT v) 117 (0, 0))
  ix : W.heap[w.heap.size + 3 + 1]? = some (.cells #[.int .i64 (v.i : Nat)] 3 (0, 0))
  bel : Below w.heap.size w W
/-- What a round over a piece leaves. -/
def SvDone (w : World) (B : Nat) (K : Option Addr) (kn kc : Nat) (v : Sv) (W W' : World) : Prop :=
  KeepsFrom B W W' ∧ Kq (setDirt (fun k => k = w.heap.size + 2 ∨ k = w.heap.size + 3 ∨ k = w.heap.size + 4)) W W' ∧ SvAt w K kn kc v W'
theorem svAt_own {w : World} {K : Option Addr} {kn kc B : Nat} (hB : w.heap.size ≤ B) (g : List Pc → Sv) : OwnFrom B (fun pre W => SvAt w K kn kc (g pre) W) := by
  intro s W W' row hs hg hr
  have kb : ∀ {k : Nat} {cs : Array Value} {t : TypeId}, W.heap[k]? = some (.cells cs t (0, 0)) → W'.heap[k]? = some (.cells cs t (0, 0)) := fun {k cs t} hk => by
    refine (hg.block k (lt_of_block hk) ?_).trans hk
    intro e
    obtain ⟨_, o, ho, hc⟩ := hr k e.symm
    rw [hk] at ho
    cases ho
    cases hc
  refine ⟨kb hs.kbox, kb hs.res, kb hs.left, kb hs.torn, kb hs.ix, hs.bel.grown hg hs.bel.size (fun r e => ?_)⟩
  have := (hr r e).1
  omega

set_option maxHeartbeats 2000000 in
theorem survive_any {w : World} {S : Nat → Prop} {d : Nat} {M : AD} (h : DiskAt w S d M) (K : Option Addr) (kc : Nat) (keep : List Bool) (hK : RdB w w.heap.size K keep) (hkn : keep.length ≤ kc) (hkc : kc ≤ 9223372036854775807) : Calls Tryz.prog 74 #[.pointer (some ⟨d, 0, none⟩), .slice K keep.length kc] w
    fun e w' => e = .returned (.agg #[.int .i64 ((M.sv keep M.pcs).L 0 : Nat), .int .i64 ((M.sv keep M.pcs).L 1 : Nat), .int .i64 ((M.sv keep M.pcs).L 2 : Nat), .int .i64 ((M.sv keep M.pcs).L 3 : Nat)]) ∧ Below w.heap.size w w' := by
  obtain ⟨mb, f, A, c, h⟩ := h
  obtain ⟨kn, hn⟩ : ∃ kn, kn = keep.length := ⟨_, rfl⟩
  rw [← hn] at hkn ⊢
  have HN := Lib.hid hn
  have HK := Lib.hid hK
  have HD := Lib.hid h
  have hc1 := h.c1
  have hdlt := h.lt
  have hmlt := h.low _ h.files.inS
  clear h hn hK
  refine (callsIn_wide (n := 3)).1 ?_
  refine callsIn_of_wp_marks Tryz.func74 rfl trivial ?_ rfl
  simp only [Tryz.ntmps74, List.size_toArray, List.length_cons, List.length_nil, Nat.reduceAdd, Nat.reduceSub, Array.replicate_succ, Array.replicate_zero, List.push_toArray, List.append_toArray, List.nil_append, List.cons_append]
  gi_wp2
  obtain ⟨W1, hW1⟩ : ∃ W1, W1 = (((w.alloc (.cells #[.slice K kn kc] 34)).alloc (.cells #[.int .i64 0, .int .i64 0, .int .i64 0, .int .i64 0] 103)).alloc (.cells #[.int .i64 0, .int .i64 0, .int .i64 0, .int .i64 0] 103)) := ⟨_, rfl⟩
  have hb1 : Below w.heap.size w W1 := by rw [hW1]; exact (((Below.refl _ w).alloc (Nat.le_refl _) _).alloc (by simp) _).alloc (by simp; omega) _
  have hs1 : W1.heap.size = w.heap.size + 3 := by rw [hW1]; simp
  have hk1 : W1.heap[w.heap.size]? = some (.cells #[.slice K kn kc] 34 (0, 0)) := by
    rw [hW1, Below.heap_alloc _ _ _ (by simp; omega), Below.heap_alloc _ _ _ (by simp)]; exact heap_alloc_new w _
  have hr1 : W1.heap[w.heap.size + 1]? = some (.cells #[.int .i64 0, .int .i64 0, .int .i64 0, .int .i64 0] 103 (0, 0)) := by
    rw [hW1, Below.heap_alloc _ _ _ (by simp)]
    have := heap_alloc_new (w.alloc (.cells #[.slice K kn kc] 34)) (.cells #[.int .i64 0, .int .i64 0, .int .i64 0, .int .i64 0] 103)
    rw [World.size_alloc] at this
    exact this
  have hl1 : W1.heap[w.heap.size + 1 + 1]? = some (.cells #[.int .i64 0, .int .i64 0, .int .i64 0, .int .i64 0] 103 (0, 0)) := by
    rw [hW1]
    have := heap_alloc_new ((w.alloc (.cells #[.slice K kn kc] 34)).alloc (.cells #[.int .i64 0, .int .i64 0, .int .i64 0, .int .i64 0] 103)) (.cells #[.int .i64 0, .int .i64 0, .int .i64 0, .int .i64 0] 103)
    rw [World.size_alloc, World.size_alloc] at this
    exact this
  rw [← hW1]
  have HB1 := Lib.hid hb1
  have HS1 := Lib.hid hs1
  have HK1 := Lib.hid hk1
  have HR1 := Lib.hid hr1
  have HL1 := Lib.hid hl1
  clear hW1 hb1 hk1 hr1 hl1 hs1 hc1
  gi_loopw [11] (fun i wr => ∃ k : Nat, i = .int .i64 k ∧ k ≤ 4 ∧ Hid (W1.grownBy wr (some (w.heap.size + 2)) ∧ wr.heap[w.heap.size + 1 + 1]? = some (.cells (fill M k) 103 (0, 0)) ∧ wr.heap.size = w.heap.size + 3)) (fun i _ => 4 - (match i with | .int _ k => k.toNat | _ => 0))
  case atStart => exact ⟨0, rfl, Nat.zero_le _, Lib.hid ⟨World.grownBy.refl _ _, HL1.out, HS1.out⟩⟩
  case round =>
    obtain ⟨k, rfl, hk, H⟩ := hrel
    have hbw : Below w.heap.size w wr := HB1.out.grown H.out.1 HB1.out.size (fun j hj => by cases hj; omega)
    have hdw : DiskIn wr S d M mb f A c := HD.out.later hbw
    by_cases hk4 : k < 4
    · have hkk : (k : Int) < 4 := by omega
      have hk0 : (0 : Int) ≤ (k : Int) := by omega
      have hc1 := hdw.c1
      have hl := hdw.look (k := (k : Nat)) (name_i64 (by omega))
      obtain ⟨A', c', n', s', kp, e, hn, hno, hso⟩ := fileAt_form M A c (k : Nat)
      have hs' : s' = (M.syn0 k : Nat) := by
        unfold AD.syn0
        rcases hf : M.files (k : Nat) with _ | F
        · rw [(hno hf).2.1]; rfl
        · rw [(hso F hf).2.2.2.1]
      rw [e] at hl
      have hfd := field1 (.slice A' n' c') (.int .i64 s') (.bool kp) wr
      obtain ⟨v0, hv0⟩ := fill_at M hk4
      have hcell : wr.cell? ⟨w.heap.size + 1 + 1, k, none⟩ = some (.int .i64 v0) := by simp [World.cell?, H.out.2.1, hv0]
      have hfz : wr.frozen? ⟨w.heap.size + 1 + 1, k, none⟩ = false := by simp [World.frozen?, H.out.2.1]
      have HS' := Lib.hid hs'
      clear e hn hno hso hs' hdw hbw hv0
      gi_wp2
      go_roundw
      case rel =>
        refine ⟨k + 1, by simp, by omega, Lib.hid ⟨H.out.1.trans ((Only.refl _ wr).set (.inl rfl) _), ?_, by simp [World.setCell]; exact H.out.2.2⟩⟩
        rw [heap_set H.out.2.1, HS'.out, fill_succ M hk4]
      case measure => simp; omega
    · obtain rfl : k = 4 := by omega
      have hsz := H.out.2.2
      have hfl : fill M 4 = arrL (M.sv keep []) := by simp [fill, arrL, AD.sv]
      have hkb : wr.heap[w.heap.size]? = some (.cells #[.slice K kn kc] 34 (0, 0)) := (H.out.1.block _ (lt_of_block HK1.out) (by simp)).trans HK1.out
      have hrb : wr.heap[w.heap.size + 1]? = some (.cells #[.int .i64 0, .int .i64 0, .int .i64 0, .int .i64 0] 103 (0, 0)) := (H.out.1.block _ (lt_of_block HR1.out) (by simp)).trans HR1.out
      have hlb := H.out.2.1
      rw [hfl] at hlb
      have HDW := Lib.hid hdw
      have HBW := Lib.hid hbw
      have HKB := Lib.hid hkb
      have HRB := Lib.hid hrb
      have HLB := Lib.hid hlb
      clear hdw hbw hkb hrb hlb hfl
      gi_wp2_with (refine ⟨trivial, ?_⟩; gi_at_call 110; refine (callsIn_wide.2 (pieces_any _ _)).mono ?_; rintro e w' ⟨rfl, rfl⟩)
      obtain ⟨W3, hW3⟩ : ∃ W3, W3 = ((wr.alloc (.cells #[.bool false, .bool false, .bool false, .bool false] 117)).alloc (.cells #[.int .i64 0] 3)).alloc (.cells #[.pointer (some ⟨d, 0, none⟩)] 24) := ⟨_, rfl⟩
      have hs3 : W3.heap.size = w.heap.size + 6 := by rw [hW3]; simp; omega
      have hb3 : Below wr.heap.size wr W3 := by rw [hW3]; exact (((Below.refl _ wr).alloc (Nat.le_refl _) _).alloc (by simp) _).alloc (by simp; omega) _
      have ht3 : W3.heap[w.heap.size + 3]? = some (.cells #[.bool false, .bool false, .bool false, .bool false] 117 (0, 0)) := by
        rw [hW3, Below.heap_alloc _ _ _ (by simp; omega), Below.heap_alloc _ _ _ (by simp; omega), ← hsz]; exact heap_alloc_new wr _
      have hi3 : W3.heap[w.heap.size + 3 + 1]? = some (.cells #[.int .i64 0] 3 (0, 0)) := by
        rw [hW3, Below.heap_alloc _ _ _ (by simp; omega)]
        have := heap_alloc_new (wr.alloc (.cells #[.bool false, .bool false, .bool false, .bool false] 117)) (.cells #[.int .i64 0] 3)
        rw [World.size_alloc, hsz] at this
        exact this
      have hx3 : W3.heap[w.heap.size + 3 + 1 + 1]? = some (.cells #[.pointer (some ⟨d, 0, none⟩)] 24 (0, 0)) := by
        rw [hW3]
        have := heap_alloc_new ((wr.alloc (.cells #[.bool false, .bool false, .bool false, .bool false] 117)).alloc (.cells #[.int .i64 0] 3)) (.cells #[.pointer (some ⟨d, 0, none⟩)] 24)
        rw [World.size_alloc, World.size_alloc, hsz] at this
        exact this
      have hD3 : DiskIn W3 S d M mb f A c := HDW.out.later hb3
      have hSv : SvAt w K kn kc (M.sv keep []) W3 := ⟨(hb3.block _ (lt_of_block HKB.out)).trans HKB.out, (hb3.block _ (lt_of_block HRB.out)).trans HRB.out, (hb3.block _ (lt_of_block HLB.out)).trans HLB.out, ht3, hi3, HBW.out.trans (hb3.mono (by omega))⟩
      rw [← hW3]
      have HSV := Lib.hid hSv
      have HD3 := Lib.hid hD3
      clear hW3 hb3 ht3 hi3 hD3 hSv HDW HBW HKB HRB HLB hsz
      have hpl : M.pcs.length ≤ 65536 := by have h1 := pcs_le M; have h2 := HD.out.ok.tot; have h3 := HD.out.ok.room2; omega
      refine wpIn_rangeFunc_ownG rfl (by omega) (gf := 131) (lb := #[.pointer (some ⟨w.heap.size + 3 + 1 + 1, 0, none⟩)]) rfl trivial (enters_of Tryz.func131 (by kernel_rfl) rfl)
        (pieces_stops (setDirt (fun k => k = w.heap.size + 2 ∨ k = w.heap.size + 3 ∨ k = w.heap.size + 4)) 0 (setDirt_grow _ _) HD3.out 2 (w.heap.size + 3 + 1 + 1) (by omega) (Nat.zero_le _) hx3 (fun k hk e => by have e : k = w.heap.size + 2 ∨ k = w.heap.size + 3 ∨ k = w.heap.size + 4 := e; omega) (fun k e => by have e : k = w.heap.size + 2 ∨ k = w.heap.size + 3 ∨ k = w.heap.size + 4 := e; omega))
        Kq.trans (fun W l o o' hl ho h1 h2 => kq_put' o' ho h1 h2) (Below.refl _ _) (fun _ => rfl)
        (fun pre W => SvAt w K kn kc (M.sv keep pre) W)
        (fun _ _ _ => False)
        (svAt_own (by omega) _)
        (fun _ _ _ _ _ hs _ _ => hs)
        HSV.out
        (fun x => { tmps := #[.pointer (some ⟨d, 0, none⟩), .slice K kn kc, undef, .pointer (some ⟨w.heap.size, 0, none⟩), .pointer (some ⟨w.heap.size + 1, 0, none⟩), .pointer (some ⟨w.heap.size + 1 + 1, 0, none⟩), u6, .pointer (some ⟨w.heap.size + 3, 0, none⟩), .pointer (some ⟨w.heap.size + 3 + 1, 0, none⟩), .int .i64 (x.nm : Nat), .int .i64 (x.sz : Nat), .int .i64 4, .bool false, u13, u14, u15, u16, u17, u18, u19, u20, u21, u22, u23, .pointer (some ⟨d, 0, none⟩), .func (.func 131) #[] #[.pointer (some ⟨w.heap.size + 3 + 1 + 1, 0, none⟩)], .int .i64 (x.nm : Nat), .int .i64 (x.sz : Nat), undef, undef, undef, undef, undef, undef, undef, undef, undef, undef, undef, undef, undef, undef, undef, undef, undef, undef, undef, undef, undef, undef, undef, undef, undef, undef, undef, undef, undef, undef, undef], defers := [] }) ?assign ?body ?done ?stop
      case assign =>
        intro l x W K hK
        dsimp only [Pc.enc]
        gi_wp2
        exact hK
      case body =>
        rintro l pre x W hI hlen
        obtain ⟨v, hv⟩ : ∃ v, v = M.sv keep pre := ⟨_, rfl⟩
        have hi0 := sv_i M keep pre
        have hle := sv_le M keep pre x.nm
        have hsy := syn0_le HD.out.ok x.h1
        have hgo := sv_snoc M keep pre x
        rw [← hv] at hI hi0 hle hgo
        have hx1 := x.h1
        have hx2 := x.h2
        have kk : W.cell? ⟨w.heap.size, 0, none⟩ = some (.slice K kn kc) := by simp [World.cell?, hI.kbox]
        have kt : W.cell? ⟨w.heap.size + 3, x.nm, none⟩ = some (.bool (v.T x.nm)) := by simp [World.cell?, hI.torn, arrT_at v hx1]
        have kl : W.cell? ⟨w.heap.size + 1 + 1, x.nm, none⟩ = some (.int .i64 (v.L x.nm : Nat)) := by simp [World.cell?, hI.left, arrL_at v hx1]
        have ki : W.cell? ⟨w.heap.size + 3 + 1, 0, none⟩ = some (.int .i64 (v.i : Nat)) := by simp [World.cell?, hI.ix]
        have ft : W.frozen? ⟨w.heap.size + 3, x.nm, none⟩ = false := by simp [World.frozen?, hI.torn]
        have fl : W.frozen? ⟨w.heap.size + 1 + 1, x.nm, none⟩ = false := by simp [World.frozen?, hI.left]
        have fi : W.frozen? ⟨w.heap.size + 3 + 1, 0, none⟩ = false := by simp [World.frozen?, hI.ix]
        have n0 : (0 : Int) ≤ (x.nm : Int) := by omega
        have n4 : (x.nm : Int) < 4 := by omega
        have vi : (v.i : Int) < 65536 := by omega
        have vi0 : (0 : Int) ≤ (v.i : Int) := by omega
        have vl : (v.L x.nm : Int) ≤ 600000 := by omega
        have HI := Lib.hid hI
        have HGO := Lib.hid hgo
        obtain ⟨b, hb⟩ : ∃ b, b = (v.T x.nm || !keep.getD v.i false) := ⟨_, rfl⟩
        -- what a round leaves
        have tornS : ∀ W' : World, W' = ((W.setCell ⟨w.heap.size + 3, x.nm, none⟩ (.bool true)).setCell ⟨w.heap.size + 3 + 1, 0, none⟩ (.int .i64 ((v.i : Int) + 1))) → b = true → SvDone w W3.heap.size K kn kc (M.sv keep (pre ++ [x])) W W' := by
          rintro W' rfl hbt
          rw [HGO.out]
          have hI := HI.out
          refine ⟨((KeepsOthers.setCell _ _ _).trans (KeepsOthers.setCell _ _ _)).from _, kq_set (kq_set (kq_refl _ W) (.inr (.inl rfl)) _ _) (.inr (.inr rfl)) _ _, ?_, ?_, ?_, ?_, ?_, ?_⟩
          · rw [Below.heap_setCell _ _ _ _ (by simp <;> omega), Below.heap_setCell _ _ _ _ (by simp <;> omega)]; exact hI.kbox
          · rw [Below.heap_setCell _ _ _ _ (by simp <;> omega), Below.heap_setCell _ _ _ _ (by simp <;> omega)]; exact hI.res
          · rw [Below.heap_setCell _ _ _ _ (by simp <;> omega), Below.heap_setCell _ _ _ _ (by simp <;> omega), hI.left, arrL_no keep v x (by rw [← hb]; exact hbt)]
          · rw [Below.heap_setCell _ _ _ _ (by simp <;> omega), heap_set hI.torn, arrT_go keep v x (b := true) (by rw [← hb]; exact hbt.symm)]
          · refine (heap_set ((Below.heap_setCell _ _ _ _ (by simp <;> omega)).trans hI.ix) 0 _).trans ?_
            simp [Sv.go]
          · exact (hI.bel.setCell (p := ⟨w.heap.size + 3, x.nm, none⟩) (by simp) _).setCell (p := ⟨w.heap.size + 3 + 1, 0, none⟩) (by simp <;> omega) _
        have leftS : ∀ W' : World, W' = (((W.setCell ⟨w.heap.size + 3, x.nm, none⟩ (.bool false)).setCell ⟨w.heap.size + 1 + 1, x.nm, none⟩ (.int .i64 ((v.L x.nm : Int) + (x.sz : Int)))).setCell ⟨w.heap.size + 3 + 1, 0, none⟩ (.int .i64 ((v.i : Int) + 1))) → b = false → SvDone w W3.heap.size K kn kc (M.sv keep (pre ++ [x])) W W' := by
          rintro W' rfl hbt
          rw [HGO.out]
          have hI := HI.out
          refine ⟨(((KeepsOthers.setCell _ _ _).trans (KeepsOthers.setCell _ _ _)).trans (KeepsOthers.setCell _ _ _)).from _, kq_set (kq_set (kq_set (kq_refl _ W) (.inr (.inl rfl)) _ _) (.inl rfl) _ _) (.inr (.inr rfl)) _ _, ?_, ?_, ?_, ?_, ?_, ?_⟩
          · rw [Below.heap_setCell _ _ _ _ (by simp <;> omega), Below.heap_setCell _ _ _ _ (by simp <;> omega), Below.heap_setCell _ _ _ _ (by simp <;> omega)]; exact hI.kbox
          · rw [Below.heap_setCell _ _ _ _ (by simp <;> omega), Below.heap_setCell _ _ _ _ (by simp <;> omega), Below.heap_setCell _ _ _ _ (by simp <;> omega)]; exact hI.res
          · rw [Below.heap_setCell _ _ _ _ (by simp <;> omega), heap_set ((Below.heap_setCell _ _ _ _ (by simp <;> omega)).trans hI.left), arrL_yes keep v x (by rw [← hb]; exact hbt)]
          · rw [Below.heap_setCell _ _ _ _ (by simp <;> omega), Below.heap_setCell _ _ _ _ (by simp <;> omega), heap_set hI.torn, arrT_go keep v x (b := false) (by rw [← hb]; exact hbt.symm)]
          · refine (heap_set (((Below.heap_setCell _ _ _ _ (by simp <;> omega)).trans (Below.heap_setCell _ _ _ _ (by simp <;> omega))).trans hI.ix) 0 _).trans ?_
            simp [Sv.go]
          · exact ((hI.bel.setCell (p := ⟨w.heap.size + 3, x.nm, none⟩) (by simp) _).setCell (p := ⟨w.heap.size + 1 + 1, x.nm, none⟩) (by simp <;> omega) _).setCell (p := ⟨w.heap.size + 3 + 1, 0, none⟩) (by simp <;> omega) _
        have TS := Lib.hid tornS
        have LS := Lib.hid leftS
        have HBB := Lib.hid hb
        clear tornS leftS hI hgo hb hle hsy hi0 hv
        rcases hT : v.T x.nm with _ | _
        · rw [hT] at kt
          by_cases hki : v.i < kn
          · have hki' : (v.i : Int) < (kn : Int) := by omega
            have hd1 : decide (kn ≤ v.i) = false := by simp; omega
            obtain ⟨kb, ko, hKe, hkl, hkcell⟩ := (HK.out.below HI.out.bel) (by rw [← HN.out]; omega)
            subst hKe
            have kc1 := hkcell v.i (by rw [← HN.out]; exact hki)
            rcases hkv : keep.getD v.i false with _ | _
            · rw [hkv] at kc1
              gi_wp2
              exact TS.out _ rfl (by rw [HBB.out, hT, hkv]; rfl)
            · rw [hkv] at kc1
              have LS' := LS.out
              generalize v.L x.nm = ln at kl vl LS'
              have hs1 : (x.sz : Int) ≤ 8 := by omega
              have hs0 : (0 : Int) ≤ (x.sz : Int) := by omega
              have LS2 := Lib.hid LS'
              have ne1 : (⟨w.heap.size + 1 + 1, x.nm, none⟩ : Addr) ≠ ⟨w.heap.size + 3, x.nm, none⟩ := by simp
              have q1 : (W.setCell ⟨w.heap.size + 3, x.nm, none⟩ (.bool false)).cell? ⟨w.heap.size + 1 + 1, x.nm, none⟩ = some (.int .i64 (ln : Nat)) := by
                rw [World.cell?_of_block (w := W) (Below.heap_setCell W ⟨w.heap.size + 3, x.nm, none⟩ _ _ (by simp))]; exact kl
              have q2 : (W.setCell ⟨w.heap.size + 3, x.nm, none⟩ (.bool false)).frozen? ⟨w.heap.size + 1 + 1, x.nm, none⟩ = false := by
                rw [World.frozen?_of_block (w := W) (Below.heap_setCell W ⟨w.heap.size + 3, x.nm, none⟩ _ _ (by simp))]; exact fl
              clear LS' LS TS
              clear hs3 hx3 hpl hlen hdlt hmlt hk hk4 H HR1 HL1 HS1 HB1 HK1 hkcell hkl hkc hx2 hx1 hkn
              gi_wp2
              exact LS2.out _ rfl (by rw [HBB.out, hT, hkv]; rfl)
          · have hki' : (kn : Int) ≤ (v.i : Int) := by omega
            have hkv : keep.getD v.i false = false := by simp [List.getD, List.getElem?_eq_none (by rw [← HN.out]; omega : keep.length ≤ v.i)]
            gi_wp2
            exact TS.out _ rfl (by rw [HBB.out, hT, hkv]; rfl)
        · rw [hT] at kt
          gi_wp2
          exact TS.out _ rfl (by rw [HBB.out, hT]; rfl)
      case done =>
        rintro D ys W hD rfl hI hK
        have l0 : W.cell? ⟨w.heap.size + 1 + 1, 0, none⟩ = some (.int .i64 ((M.sv keep M.pcs).L 0 : Nat)) := by simp [World.cell?, hI.left, arrL]
        have r0 : W.cell? ⟨w.heap.size + 1, 0, none⟩ = some (.int .i64 0) := by simp [World.cell?, hI.res]
        have f0 : W.frozen? ⟨w.heap.size + 1, 0, none⟩ = false := by simp [World.frozen?, hI.res]
        have l1 : W.cell? ⟨w.heap.size + 1 + 1, 1, none⟩ = some (.int .i64 ((M.sv keep M.pcs).L 1 : Nat)) := by simp [World.cell?, hI.left, arrL]
        have r1 : W.cell? ⟨w.heap.size + 1, 1, none⟩ = some (.int .i64 0) := by simp [World.cell?, hI.res]
        have f1 : W.frozen? ⟨w.heap.size + 1, 1, none⟩ = false := by simp [World.frozen?, hI.res]
        have l2 : W.cell? ⟨w.heap.size + 1 + 1, 2, none⟩ = some (.int .i64 ((M.sv keep M.pcs).L 2 : Nat)) := by simp [World.cell?, hI.left, arrL]
        have r2 : W.cell? ⟨w.heap.size + 1, 2, none⟩ = some (.int .i64 0) := by simp [World.cell?, hI.res]
        have f2 : W.frozen? ⟨w.heap.size + 1, 2, none⟩ = false := by simp [World.frozen?, hI.res]
        have l3 : W.cell? ⟨w.heap.size + 1 + 1, 3, none⟩ = some (.int .i64 ((M.sv keep M.pcs).L 3 : Nat)) := by simp [World.cell?, hI.left, arrL]
        have r3 : W.cell? ⟨w.heap.size + 1, 3, none⟩ = some (.int .i64 0) := by simp [World.cell?, hI.res]
        have f3 : W.frozen? ⟨w.heap.size + 1, 3, none⟩ = false := by simp [World.frozen?, hI.res]
        have HI := Lib.hid hI
        clear hI
        obtain ⟨v, hv⟩ : ∃ v, v = M.sv keep M.pcs := ⟨_, rfl⟩
        rw [← hv] at l0 l1 l2 l3 HI
        have HV := Lib.hid hv
        clear hv
        gi_wp2
        refine ⟨by simp, .inl ⟨_, _, rfl, run_takeDeferred ?_, ?_⟩⟩
        · rw [Below.heap_setCell _ _ _ _ (by simp <;> omega), Below.heap_setCell _ _ _ _ (by simp <;> omega), Below.heap_setCell _ _ _ _ (by simp <;> omega), Below.heap_setCell _ _ _ _ (by simp <;> omega)]
          exact hK
        · have h4 := heap_set (heap_set (heap_set (heap_set HI.out.res 0 (.int .i64 (v.L 0 : Nat))) 1 (.int .i64 (v.L 1 : Nat))) 2 (.int .i64 (v.L 2 : Nat))) 3 (.int .i64 (v.L 3 : Nat))
          have hb4 : Below w.heap.size w ((((W.setCell ⟨w.heap.size + 1, 0, none⟩ (.int .i64 (v.L 0 : Nat))).setCell ⟨w.heap.size + 1, 1, none⟩ (.int .i64 (v.L 1 : Nat))).setCell ⟨w.heap.size + 1, 2, none⟩ (.int .i64 (v.L 2 : Nat))).setCell ⟨w.heap.size + 1, 3, none⟩ (.int .i64 (v.L 3 : Nat))) :=
            (((HI.out.bel.setCell (p := ⟨w.heap.size + 1, 0, none⟩) (by simp) _).setCell (p := ⟨w.heap.size + 1, 1, none⟩) (by simp) _).setCell (p := ⟨w.heap.size + 1, 2, none⟩) (by simp) _).setCell (p := ⟨w.heap.size + 1, 3, none⟩) (by simp) _
          have hk4 : ((((W.setCell ⟨w.heap.size + 1, 0, none⟩ (.int .i64 (v.L 0 : Nat))).setCell ⟨w.heap.size + 1, 1, none⟩ (.int .i64 (v.L 1 : Nat))).setCell ⟨w.heap.size + 1, 2, none⟩ (.int .i64 (v.L 2 : Nat))).setCell ⟨w.heap.size + 1, 3, none⟩ (.int .i64 (v.L 3 : Nat))).heap[D]? = some (.deferred (some [])) := by
            rw [Below.heap_setCell _ _ _ _ (by simp <;> omega), Below.heap_setCell _ _ _ _ (by simp <;> omega), Below.heap_setCell _ _ _ _ (by simp <;> omega), Below.heap_setCell _ _ _ _ (by simp <;> omega)]
            exact hK
          generalize (((W.setCell ⟨w.heap.size + 1, 0, none⟩ (.int .i64 (v.L 0 : Nat))).setCell ⟨w.heap.size + 1, 1, none⟩ (.int .i64 (v.L 1 : Nat))).setCell ⟨w.heap.size + 1, 2, none⟩ (.int .i64 (v.L 2 : Nat))).setCell ⟨w.heap.size + 1, 3, none⟩ (.int .i64 (v.L 3 : Nat)) = W4 at h4 hb4 hk4 ⊢
          have h5 : (W4.putObj D (.deferred none)).heap[w.heap.size + 1]? = some (.cells #[.int .i64 (v.L 0 : Nat), .int .i64 (v.L 1 : Nat), .int .i64 (v.L 2 : Nat), .int .i64 (v.L 3 : Nat)] 103 (0, 0)) := (World.putObj_heap_other (by omega)).trans h4
          have hb5 : Below w.heap.size w (W4.putObj D (.deferred none)) := hb4.trans (belowK_b (w := w) (Nat.le_refl _) W4 D _ _ (by omega) hk4 rfl rfl)
          generalize W4.putObj D (.deferred none) = W5 at h5 hb5 ⊢
          have c0 : W5.cell? ⟨w.heap.size + 1, 0, none⟩ = some (.int .i64 (v.L 0 : Nat)) := by simp [World.cell?, h5]
          have c1 : W5.cell? ⟨w.heap.size + 1, 1, none⟩ = some (.int .i64 (v.L 1 : Nat)) := by simp [World.cell?, h5]
          have c2 : W5.cell? ⟨w.heap.size + 1, 2, none⟩ = some (.int .i64 (v.L 2 : Nat)) := by simp [World.cell?, h5]
          have c3 : W5.cell? ⟨w.heap.size + 1, 3, none⟩ = some (.int .i64 (v.L 3 : Nat)) := by simp [World.cell?, h5]
          refine ⟨.agg #[.int .i64 (v.L 0 : Nat), .int .i64 (v.L 1 : Nat), .int .i64 (v.L 2 : Nat), .int .i64 (v.L 3 : Nat)], ?_, ?_⟩
          · simp [results, Tryz.results74, go_sem, c0, c1, c2, c3]
          · exact ⟨by rw [HV.out], hb5⟩
      case stop =>
        rintro D c pre W _ _ h _
        exact h.elim

end Go.Proofs.YtienabfilnpieaaGreat
