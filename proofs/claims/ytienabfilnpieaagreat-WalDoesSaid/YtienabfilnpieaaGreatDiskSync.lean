/-
  Sync, Remove.
-/
import Derived.Test.YtienabfilnpieaaGreatDiskAppend
namespace Go.Proofs.YtienabfilnpieaaGreat
open Go.RowKit
set_option linter.unusedVariables false
set_option maxRecDepth 100000

/-- The first t elements of a row of one's own. -/
theorem row_take {w : World} {base : Nat} {e : TypeId} {A : Option Addr} {n c t : Nat} {xs : List Value} (h : w.ownsRow base e 1 (.slice A n c) n xs) (ht : t ≤ n) : w.ownsRow base e 1 (.slice A t c) t (xs.take t) := by
  have h1 := h.1
  refine ⟨by simp; omega, ?_⟩
  rcases h.2 with ⟨e1, e2⟩ | ⟨g, cap, cur, e1, hb, hh, hnc, hcm, hsz, hcs⟩
  · subst e2
    injection e1 with e1 _ e3
    subst e1; subst e3
    obtain rfl : t = 0 := by omega
    exact .inl ⟨rfl, rfl⟩
  · injection e1 with e1 _ e3
    subst e1; subst e3
    refine .inr ⟨g, c, cur, rfl, hb, hh, by omega, hcm, hsz, ?_⟩
    rw [← hcs, List.take_take]
    congr 1
    omega

/-- A function changes a file in its own row. -/
theorem keep_disk (fid : FuncId) (caps : Array Value) {w : World} {S : Nat → Prop} {d mb : Nat} {M : AD} {f : Int → Option Value} {A : Int → Option Addr} {c : Int → Nat} (h : DiskIn w S d M mb f A c) {k : Int} (hk : Name k) (F : AF) (hF : M.files k = some F) (F1 : AF)
    (t : Nat) (ht : t ≤ F.bs.length) (hF1 : F1.bs = F.bs.take t) (hs : F1.syn ≤ t)
    (hen : ∀ W : World, (callFunc fid (#[.pointer (some ⟨w.heap.size, 0, none⟩)] ++ caps)).run Tryz.prog W = .ok (.enter fid (#[.pointer (some ⟨w.heap.size, 0, none⟩)] ++ caps)) W)
    (hcl : ∀ W A0 c0, BoxAt W w.heap.size A0 F.bs.length c0 F.syn F.kept → Below w.heap.size w W → F.bs.length ≤ c0 → c0 ≤ 9223372036854775807 → Calls Tryz.prog fid (#[.pointer (some ⟨w.heap.size, 0, none⟩)] ++ caps) W fun e W' => e = .returned (.tuple #[]) ∧ BoxAt W' w.heap.size A0 t c0 F1.syn F1.kept ∧ W.grownBy W' (some w.heap.size)) :
    Calls Tryz.prog 46 #[.pointer (some ⟨d, 0, none⟩), .int .i64 k, .func (.func fid) #[] caps] w fun e w' => e = .returned (.tuple #[]) ∧ After S d w (M.put k F1) w' := by
  have ok := h.ok
  have hl : M.len k = F.bs.length := by simp [AD.len, hF]
  have hl1 : F1.bs.length = t := by rw [hF1]; simp; omega
  have hok : (M.put k F1).Ok := Ok.put ok hk F1 (by omega) (by have := ok.tot; omega)
  obtain ⟨hf, hrow, hg⟩ := h.files.yes k F hF
  refine (change_disk (fun _ => False) fid caps h hk F1 hok (fun _ e => e.elim) hen ?_).mono (fun e w' ⟨h1, h2, h3⟩ => ⟨h1, h2, h3⟩)
  intro A0 n0 c0 s0 k0 he hnone
  have he' : fileAt M A c k = F.val (A k) (c k) := by simp [fileAt, hF]
  rw [he'] at he
  simp only [AF.val, Value.agg.injEq, Array.mk.injEq, List.cons.injEq, Value.slice.injEq, Value.int.injEq, Value.bool.injEq, true_and, and_true] at he
  obtain ⟨⟨rfl, rfl, rfl⟩, rfl, rfl⟩ := he
  have hform := own_form hrow
  obtain ⟨A', c', e', hc1, hc2⟩ := hform
  injection e' with _ _ e3
  subst e3
  have hq : some w.heap.size ≠ blk (A k) := fun e => by
    obtain ⟨cur, hc⟩ := own_block hrow e.symm
    have := lt_of_block hc
    omega
  refine (hcl _ (A k) (c k) (BoxAt.new w _ _ _ _ _) ((Below.refl _ w).alloc (Nat.le_refl _) _) hc1 (by unfold maxLen at hc2; omega)).mono ?_
  rintro e W' ⟨rfl, hb, hg'⟩
  refine ⟨rfl, A k, t, c k, F1.syn, F1.kept, hb, hl1.symm, rfl, rfl, ?_, .inl rfl, hg'.os, hg'.tape, hg'.output, ?_, ?_⟩
  · unfold AF.At
    rw [hl1, hF1, List.map_take]
    refine row_same (row_take (World.ownsRow.alloc hrow _) ht) (fun g hgb => hg'.block g ?_ ?_)
    · obtain ⟨cur, hc⟩ := own_block hrow hgb
      have := lt_of_block hc
      simp; omega
    · intro e; injection e with e; subst e; exact hq hgb.symm
  · have := hg'.size
    simp at this
    omega
  · intro j hj _
    rw [hg'.block j (by simp; omega) (by simp; omega), Below.heap_alloc w _ j hj]

def AF.settled (F : AF) : AF := ⟨F.bs, F.bs.length, true⟩
theorem enter_settle (x : Value) (W : World) : (callFunc 51 (#[x] ++ #[])).run Tryz.prog W = .ok (.enter 51 (#[x] ++ #[])) W := by kernel_rfl
theorem settle_disk {w : World} {S : Nat → Prop} {d mb : Nat} {M : AD} {f : Int → Option Value} {A : Int → Option Addr} {c : Int → Nat} (h : DiskIn w S d M mb f A c) {k : Int} (hk : Name k) (F : AF) (hF : M.files k = some F) :
    Calls Tryz.prog 46 #[.pointer (some ⟨d, 0, none⟩), .int .i64 k, .func (.func 51) #[] #[]] w fun e w' => e = .returned (.tuple #[]) ∧ After S d w (M.put k F.settled) w' :=
  keep_disk 51 #[] h hk F hF F.settled F.bs.length (Nat.le_refl _) (by simp [AF.settled]) (Nat.le_refl _) (enter_settle _) (fun W A0 c0 hb _ _ _ => settle_any hb)

/-- An operation on a file that has to be there. -/
def AD.opC (M : AD) (k : Int) (xs : List Int) : Int := if M.ask k xs = 0 then M.err else M.ask k xs
def AD.opM (M : AD) (k : Int) (xs : List Int) (M' : AD) : AD := if M.ask k xs = 0 then (if M.err = 0 then M' else M.met) else M
theorem ask_there {M : AD} {k : Int} {xs : List Int} (h : M.ask k xs = 0) : M.dead = false ∧ Name k ∧ (∀ x ∈ xs, Name x) ∧ ∃ F, M.files k = some F := by
  unfold AD.ask at h
  revert h
  generalize M.dead = b
  rcases hq : (xs ++ [k]).all (fun x => decide (Name x)) with _ | _
  · cases b <;> simp
  · have hall := List.all_eq_true.1 hq
    rcases hf : M.files k with _ | F
    · cases b <;> simp
    · intro h
      refine ⟨?_, of_decide_eq_true (hall k (by simp)), fun x hx => of_decide_eq_true (hall x (by simp [hx])), F, rfl⟩
      cases b
      · rfl
      · simp at h

/-- The two boxes of a call, and what lies ahead of them. -/
theorem boxes (w : World) (u v : Value) (t t' : TypeId) : ((w.alloc (.cells #[u] t)).alloc (.cells #[v] t')).cell? ⟨w.heap.size, 0, none⟩ = some u ∧ ((w.alloc (.cells #[u] t)).alloc (.cells #[v] t')).cell? ⟨w.heap.size + 1, 0, none⟩ = some v ∧
    Below w.heap.size w ((w.alloc (.cells #[u] t)).alloc (.cells #[v] t')) ∧ ((w.alloc (.cells #[u] t)).alloc (.cells #[v] t')).heap.size = w.heap.size + 2 := by
  refine ⟨Lib.cell?_alloc_some _ (by rw [cell_new]; rfl), ?_, ((Below.refl _ w).alloc (Nat.le_refl _) _).alloc (by simp) _, by simp⟩
  have h1 := cell_new (w.alloc (.cells #[u] t)) #[v] t' 0
  rw [World.size_alloc] at h1
  exact h1

theorem enter_sync1 (p1 p2 : Value) (W : World) : (callFunc 50 #[p1, p2]).run Tryz.prog W = .ok (.enter 50 #[p1, p2]) W := by kernel_rfl
theorem sync1_any {W : World} {S : Nat → Prop} {d mb : Nat} {M : AD} {f : Int → Option Value} {A : Int → Option Addr} {c : Int → Nat} (h : DiskIn W S d M mb f A c) {k : Int} (hk : Name k) (F : AF) (hF : M.files k = some F) (p q : Nat)
    (hp : W.cell? ⟨p, 0, none⟩ = some (.pointer (some ⟨d, 0, none⟩))) (hq : W.cell? ⟨q, 0, none⟩ = some (.int .i64 k)) :
    Calls Tryz.prog 50 #[.pointer (some ⟨p, 0, none⟩), .pointer (some ⟨q, 0, none⟩)] W fun e w' => e = .returned (.tuple #[]) ∧ After S d W (M.put k F.settled) w' := by
  have HD := Lib.hid h
  have HF := Lib.hid hF
  clear h hF
  go_enter Tryz.func50, Tryz.ntmps50
  go_wp2_with (go_at_call 46; refine (settle_disk HD.out hk F HF.out).mono ?_; rintro e w' ⟨rfl, h⟩; have H := Lib.hid h; clear h)
  go_end0
  exact ⟨rfl, H.out⟩

theorem sync_nil (w : World) (k : Int) : Calls Tryz.prog 12 #[.pointer none, .int .i64 k] w fun e w' => e = .returned (.int .i64 1) ∧ Below w.heap.size w w' := by
  obtain ⟨_, _, hb, hsz⟩ := boxes w (.pointer none) (.int .i64 k) 24 3
  have HB := Lib.hid hb
  clear hb
  go_enter Tryz.func12, Tryz.ntmps12
  go_wp2_with (go_at_call 48; refine (ready_nil _ k _ _ [] (World.ownsRow_nil _ _ _ _) (by simp) (Nat.le_refl _)).mono ?_; rintro e w' ⟨rfl, hb1⟩; have HB1 := Lib.hid hb1; clear hb1)
  go_ret
  exact ⟨rfl, HB.out.trans (HB1.out.mono HB.out.size)⟩


/-- What comes of an operation that is done unless it meets something, from the call's beginning on. -/
theorem op_after {w W w' : World} {S : Nat → Prop} {d mb : Nat} {M M' : AD} {f : Int → Option Value} {A : Int → Option Addr} {c : Int → Nat} (h : DiskIn w S d M mb f A c) (hb : Below w.heap.size w W)
    (hd : DoneBy M S d mb f A c W (fun W' => ∃ W1, W.grownBy W1 (some d) ∧ After S d W1 M' W') w') : After S d w (if M.err = 0 then M' else M.met) w' := by
  have hg : ∀ {W1 : World}, W.grownBy W1 (some d) → Turn S w W1 := fun h1 => (Turn.of_below hb).trans (Turn.of_grown (S := S) h1 (fun i hi => by cases hi; exact .inl h.inS)) (fun i hi => .inl hi)
  rcases hd with ⟨h0, h1, h2⟩ | ⟨h0, W1, h1, h2⟩
  · rw [if_neg h0]
    exact After.of ⟨mb, f, A, c, h1⟩ (hg h2) (fun i hi => .inl hi) (fun i hi => h.low i hi)
  · rw [if_pos h0]
    exact After.then ⟨mb, f, A, c, h⟩ (hg h1) h2

/-- A box is no disk. -/
theorem DiskIn.keeps {w W1 : World} {S : Nat → Prop} {d mb : Nat} {M : AD} {f : Int → Option Value} {A : Int → Option Addr} {c : Int → Nat} (h : DiskIn w S d M mb f A c) (hg : w.grownBy W1 (some d)) {p : Nat} {v : Value} (hp : ∀ i, S i → i < p) (hc : w.cell? ⟨p, 0, none⟩ = some v) : W1.cell? ⟨p, 0, none⟩ = some v := by
  have hlt : p < w.heap.size := by
    rcases Nat.lt_or_ge p w.heap.size with h1 | h1
    · exact h1
    · simp [World.cell?, Array.getElem?_eq_none h1] at hc
  have := hp d h.inS
  exact (World.cell?_of_block (a := ⟨p, 0, none⟩) (hg.block p hlt (by simp; omega))).trans hc

set_option maxHeartbeats 400000 in
theorem sync_any {w : World} {S : Nat → Prop} {d : Nat} {M : AD} (h : DiskAt w S d M) {k : Int} (hk : I64 k) (hops : M.ops < 4611686018427387904) :
    Calls Tryz.prog 12 #[.pointer (some ⟨d, 0, none⟩), .int .i64 k] w fun e w' => e = .returned (.int .i64 (M.opC k [])) ∧ After S d w (M.opM k [] (M.met.put k (M.file k).settled)) w' := by
  obtain ⟨mb, f, A, c, h⟩ := h
  obtain ⟨hp, hq, hb, hsz⟩ := boxes w (.pointer (some ⟨d, 0, none⟩)) (.int .i64 k) 24 3
  have HB := Lib.hid hb
  have HD := Lib.hid h
  have HD1 := Lib.hid (h.later hb)
  have HS := Lib.hid hsz
  have HP := Lib.hid hp
  have HQ := Lib.hid hq
  obtain ⟨ac, hac⟩ : ∃ ac, ac = M.ask k [] := ⟨_, rfl⟩
  have HA := Lib.hid hac
  clear hb h hsz hp hq hac
  by_cases hz : ac = 0
  · subst hz
    have e1 : M.opC k [] = M.err := by simp [AD.opC, ← HA.out]
    have e2 : M.opM k [] (M.met.put k (M.file k).settled) = if M.err = 0 then M.met.put k (M.file k).settled else M.met := by simp [AD.opM, ← HA.out]
    rw [e1]
    have E2 := Lib.hid e2
    clear e1 e2
    obtain ⟨_, hname, _, F, hF⟩ := ask_there HA.out.symm
    have HF := Lib.hid hF
    clear hF
    go_enter Tryz.func12, Tryz.ntmps12
    go_wp2_with (go_at_call 48; refine (ready_any ⟨mb, f, A, c, HD1.out⟩ hk _ _ [] (World.ownsRow_nil _ _ _ _) (by simp) (Nat.le_refl _) HD1.out.low).mono ?_; rw [← HA.out]; rintro e w2 ⟨rfl, hb2⟩; have c1 := (hb2.cell (p := ⟨w.heap.size, 0, none⟩) (by rw [HS.out]; simp)).trans HP.out; have c2 := (hb2.cell (p := ⟨w.heap.size + 1, 0, none⟩) (by rw [HS.out]; simp)).trans HQ.out; have HB2 := Lib.hid hb2; clear hb2)
    refine (operate_in 50 _ (HD1.out.later HB2.out) hops (fun W' => ∃ W1, w2.grownBy W1 (some d) ∧ After S d W1 (M.met.put k (M.file k).settled) W') (enter_sync1 _ _) ?_).mono ?_
    · intro W hDW hgW
      have hfile : M.file k = F := by simp [AD.file, HF.out]
      refine (sync1_any hDW hname F (by rw [met_files]; exact HF.out) _ _ ((HD1.out.later HB2.out).keeps hgW (fun i hi => HD.out.low i hi) c1) ((HD1.out.later HB2.out).keeps hgW (fun i hi => by have := HD.out.low i hi; omega) c2)).mono ?_
      rw [hfile]
      rintro e w' ⟨rfl, haf⟩
      exact ⟨rfl, W, hgW, haf⟩
    · rintro e w3 ⟨rfl, hdone⟩
      have HDN := Lib.hid hdone
      clear hdone
      go_wp2
      go_ret
      exact ⟨rfl, by rw [E2.out]; exact op_after HD.out (HB.out.trans (HB2.out.mono HB.out.size)) HDN.out⟩
  · have e1 : M.opC k [] = ac := by rw [HA.out] at hz ⊢; simp [AD.opC, hz]
    have e2 : M.opM k [] (M.met.put k (M.file k).settled) = M := by rw [HA.out] at hz; simp [AD.opM, hz]
    rw [e1, e2]
    clear e1 e2
    have hz1 : (ac == 0) = false := by simp [hz]
    have hz2 : (ac != 0) = true := by simp [hz]
    go_enter Tryz.func12, Tryz.ntmps12
    go_wp2_with (go_at_call 48; refine (ready_any ⟨mb, f, A, c, HD1.out⟩ hk _ _ [] (World.ownsRow_nil _ _ _ _) (by simp) (Nat.le_refl _) HD1.out.low).mono ?_; rw [← HA.out]; rintro e w2 ⟨rfl, hb2⟩; have HB2 := Lib.hid hb2; clear hb2)
    go_ret
    exact ⟨rfl, After.same ⟨mb, f, A, c, HD.out⟩ (HB.out.trans (HB2.out.mono HB.out.size))⟩


/-! ### Remove -/
def AD.drop (M : AD) (k : Int) : AD := { M with files := upd M.files k none }
theorem total_drop (M : AD) (k : Int) : (M.drop k).total ≤ M.total := by
  have e : ∀ j, (M.drop k).len j ≤ M.len j := fun j => by
    unfold AD.len AD.drop
    by_cases h : j = k
    · subst h; simp [upd_same]
    · simp [upd_other _ h]
  unfold AD.total
  have := e 0; have := e 1; have := e 2; have := e 3
  omega
theorem Ok.drop {M : AD} (h : M.Ok) (k : Int) : (M.drop k).Ok := by
  refine ⟨h.room1, h.room2, ?_, h.arm1, h.arm2, h.fail1, h.fail2, h.ops0, h.ops1, ?_, ?_⟩
  · have h1 := total_drop M k
    have h2 := h.tot
    show ((M.drop k).total : Int) ≤ M.room
    omega
  · intro j hj
    by_cases e : j = k
    · subst e; simp [AD.drop, upd_same] at hj
    · simp only [AD.drop, upd_other _ e] at hj; exact h.names j hj
  · intro j F' hj
    by_cases e : j = k
    · subst e; simp [AD.drop, upd_same] at hj
    · simp only [AD.drop, upd_other _ e] at hj; exact h.syn j F' hj

/-- 'delete(m, k)'. -/
theorem drop_file {w : World} {ops : Array Oper} {rest : List Oper} {o : Oper} {a : Act} {Q : Exit → Act → World → Prop} (hg : o.guard = none) (m x : Operand) (hop : o.op = Op.call { callee := Callee.builtin Builtin.delete, args := #[m, x], argTypes := #[66, 3] })
    {b : Nat} {f : Int → Option Value} (hm : a.eval m = .map (some b)) (h : MapAt w b f) {k : Int} (hk : Name k) (hx : a.eval x = .int .i64 k)
    (hK : ∀ w', MapAt w' b (upd f k none) → w.grownBy w' (some b) → wpList Tryz.prog ops Q rest (a.put o.dst (.tuple #[])) w') : wpList Tryz.prog ops Q (o :: rest) a w := by
  refine wpList_plain hg fun K' hK' => ?_
  obtain ⟨w', hrun, r1, r2⟩ := h.drop (name_i64 hk) o.type
  unfold Oper.wp
  simp [execOp, hop, resolve, invoke, builtin, hm, hx, hrun, Result.andThen]
  exact hK' _ _ (hK w' r1 r2.grown)

theorem DiskIn.noMap {w : World} {S : Nat → Prop} {d mb : Nat} {M : AD} {f : Int → Option Value} {A : Int → Option Addr} {c : Int → Nat} (h : DiskIn w S d M mb f A c) {g : Nat} {cur : Array Value} {t : TypeId} (hc : w.heap[g]? = some (.cells cur t (0, 0))) : g ≠ mb := by
  rintro rfl
  obtain ⟨D, ⟨es, clock, h1, _⟩, _⟩ := h.files.map
  rw [h1] at hc
  cases hc

theorem DiskIn.drop {w w' : World} {S : Nat → Prop} {d mb : Nat} {M : AD} {f : Int → Option Value} {A : Int → Option Addr} {c : Int → Nat} (h : DiskIn w S d M mb f A c) {k : Int} (hm : MapAt w' mb (upd f k none)) (hg : w.grownBy w' (some mb)) : DiskIn w' S d (M.drop k) mb (upd f k none) A c := by
  refine ⟨(hg.block d h.lt (by have := h.noMap h.head; simpa using this)).trans h.head, ⟨hm, h.files.inS, ?_, ?_, ?_⟩, Ok.drop h.ok k, h.inS, fun i hi => Nat.lt_of_lt_of_le (h.low i hi) hg.size⟩
  · intro j F hj
    by_cases e : j = k
    · subst e; simp [AD.drop, upd_same] at hj
    · simp only [AD.drop, upd_other _ e] at hj
      simp only [upd_other _ e]
      obtain ⟨h1, h2, h3⟩ := h.files.yes j F hj
      refine ⟨h1, row_same h2 (fun g hgb => ?_), h3⟩
      obtain ⟨cur, hc⟩ := own_block h2 hgb
      exact hg.block g (lt_of_block hc) (by have := h.noMap hc; simpa using this)
  · intro j hj
    by_cases e : j = k
    · subst e; simp [upd_same]
    · simp only [AD.drop, upd_other _ e] at hj
      simp only [upd_other _ e]
      exact h.files.no j hj
  · intro i j hij hi hj
    have fix : ∀ i, (M.drop k).files i ≠ none → M.files i ≠ none := fun i hi => by
      by_cases e : i = k
      · subst e; simp [AD.drop, upd_same] at hi
      · simpa only [AD.drop, upd_other _ e] using hi
    exact h.files.apart i j hij (fix i hi) (fix j hj)

theorem enter_rem1 (p1 p2 : Value) (W : World) : (callFunc 119 #[p1, p2]).run Tryz.prog W = .ok (.enter 119 #[p1, p2]) W := by kernel_rfl
theorem rem1_any {W : World} {S : Nat → Prop} {d mb : Nat} {M : AD} {f : Int → Option Value} {A : Int → Option Addr} {c : Int → Nat} (h : DiskIn W S d M mb f A c) {k : Int} (hk : Name k) (p q : Nat)
    (hp : W.cell? ⟨p, 0, none⟩ = some (.pointer (some ⟨d, 0, none⟩))) (hq : W.cell? ⟨q, 0, none⟩ = some (.int .i64 k)) :
    Calls Tryz.prog 119 #[.pointer (some ⟨p, 0, none⟩), .pointer (some ⟨q, 0, none⟩)] W fun e w' => e = .returned (.tuple #[]) ∧ After S d W (M.drop k) w' := by
  have hc1 := h.c1
  have HD := Lib.hid h
  clear h
  go_enter Tryz.func119, Tryz.ntmps119
  go_wp2
  refine wp_region_still_tail 5 (by kernel_rfl) (by kernel_rfl) ?_
  simp only [List.take_succ_cons, List.take_zero, List.drop_succ_cons, List.drop_zero]
  change wpStill _ _ W.drew _ _ _
  still_step
  still_step
  still_step
  still_step
  still_step
  refine wpStill_nil ?_
  go_wp2_with (at_delete; refine drop_file rfl _ _ rfl rfl (w := W.drew) HD.out.drew.files.map hk rfl ?_; intro w3 hm3 hg3; have HM3 := Lib.hid hm3; have HG3 := Lib.hid hg3; clear hm3 hg3)
  go_end0
  refine ⟨rfl, After.of ⟨mb, _, A, c, HD.out.drew.drop HM3.out HG3.out⟩ ?_ (fun i hi => .inl hi) (fun i hi => HD.out.low i hi)⟩
  exact (Turn.refl S W).drew.trans (Turn.of_grown (S := S) HG3.out (fun i hi => by cases hi; exact .inl HD.out.files.inS)) (fun i hi => .inl hi)

theorem remove_nil (w : World) (k : Int) : Calls Tryz.prog 86 #[.pointer none, .int .i64 k] w fun e w' => e = .returned (.int .i64 1) ∧ Below w.heap.size w w' := by
  obtain ⟨_, _, hb, hsz⟩ := boxes w (.pointer none) (.int .i64 k) 24 3
  have HB := Lib.hid hb
  clear hb
  go_enter Tryz.func86, Tryz.ntmps86
  go_wp2_with (go_at_call 48; refine (ready_nil _ k _ _ [] (World.ownsRow_nil _ _ _ _) (by simp) (Nat.le_refl _)).mono ?_; rintro e w' ⟨rfl, hb1⟩; have HB1 := Lib.hid hb1; clear hb1)
  go_ret
  exact ⟨rfl, HB.out.trans (HB1.out.mono HB.out.size)⟩


set_option maxHeartbeats 400000 in
theorem remove_any {w : World} {S : Nat → Prop} {d : Nat} {M : AD} (h : DiskAt w S d M) {k : Int} (hk : I64 k) (hops : M.ops < 4611686018427387904) :
    Calls Tryz.prog 86 #[.pointer (some ⟨d, 0, none⟩), .int .i64 k] w fun e w' => e = .returned (.int .i64 (M.opC k [])) ∧ After S d w (M.opM k [] (M.met.drop k)) w' := by
  obtain ⟨mb, f, A, c, h⟩ := h
  obtain ⟨hp, hq, hb, hsz⟩ := boxes w (.pointer (some ⟨d, 0, none⟩)) (.int .i64 k) 24 3
  have HB := Lib.hid hb
  have HD := Lib.hid h
  have HD1 := Lib.hid (h.later hb)
  have HS := Lib.hid hsz
  have HP := Lib.hid hp
  have HQ := Lib.hid hq
  obtain ⟨ac, hac⟩ : ∃ ac, ac = M.ask k [] := ⟨_, rfl⟩
  have HA := Lib.hid hac
  clear hb h hsz hp hq hac
  by_cases hz : ac = 0
  · subst hz
    have e1 : M.opC k [] = M.err := by simp [AD.opC, ← HA.out]
    have e2 : M.opM k [] (M.met.drop k) = if M.err = 0 then M.met.drop k else M.met := by simp [AD.opM, ← HA.out]
    rw [e1]
    have E2 := Lib.hid e2
    clear e1 e2
    obtain ⟨_, hname, _, F, hF⟩ := ask_there HA.out.symm
    have HF := Lib.hid hF
    clear hF
    go_enter Tryz.func86, Tryz.ntmps86
    go_wp2_with (go_at_call 48; refine (ready_any ⟨mb, f, A, c, HD1.out⟩ hk _ _ [] (World.ownsRow_nil _ _ _ _) (by simp) (Nat.le_refl _) HD1.out.low).mono ?_; rw [← HA.out]; rintro e w2 ⟨rfl, hb2⟩; have c1 := (hb2.cell (p := ⟨w.heap.size, 0, none⟩) (by rw [HS.out]; simp)).trans HP.out; have c2 := (hb2.cell (p := ⟨w.heap.size + 1, 0, none⟩) (by rw [HS.out]; simp)).trans HQ.out; have HB2 := Lib.hid hb2; clear hb2)
    refine (operate_in 119 _ (HD1.out.later HB2.out) hops (fun W' => ∃ W1, w2.grownBy W1 (some d) ∧ After S d W1 (M.met.drop k) W') (enter_rem1 _ _) ?_).mono ?_
    · intro W hDW hgW
      refine (rem1_any hDW hname _ _ ((HD1.out.later HB2.out).keeps hgW (fun i hi => HD.out.low i hi) c1) ((HD1.out.later HB2.out).keeps hgW (fun i hi => by have := HD.out.low i hi; omega) c2)).mono ?_
      rintro e w' ⟨rfl, haf⟩
      exact ⟨rfl, W, hgW, haf⟩
    · rintro e w3 ⟨rfl, hdone⟩
      have HDN := Lib.hid hdone
      clear hdone
      go_wp2
      go_ret
      exact ⟨rfl, by rw [E2.out]; exact op_after HD.out (HB.out.trans (HB2.out.mono HB.out.size)) HDN.out⟩
  · have e1 : M.opC k [] = ac := by rw [HA.out] at hz ⊢; simp [AD.opC, hz]
    have e2 : M.opM k [] (M.met.drop k) = M := by rw [HA.out] at hz; simp [AD.opM, hz]
    rw [e1, e2]
    clear e1 e2
    have hz1 : (ac == 0) = false := by simp [hz]
    have hz2 : (ac != 0) = true := by simp [hz]
    go_enter Tryz.func86, Tryz.ntmps86
    go_wp2_with (go_at_call 48; refine (ready_any ⟨mb, f, A, c, HD1.out⟩ hk _ _ [] (World.ownsRow_nil _ _ _ _) (by simp) (Nat.le_refl _) HD1.out.low).mono ?_; rw [← HA.out]; rintro e w2 ⟨rfl, hb2⟩; have HB2 := Lib.hid hb2; clear hb2)
    go_ret
    exact ⟨rfl, After.same ⟨mb, f, A, c, HD.out⟩ (HB.out.trans (HB2.out.mono HB.out.size))⟩


end Go.Proofs.YtienabfilnpieaaGreat
