/-
  Which files there are, how many bytes they have; which names are names.
-/
import Derived.Test.YtienabfilnpieaaGreatDiskMeet
namespace Go.Proofs.YtienabfilnpieaaGreat
open Go.RowKit
set_option linter.unusedVariables false

theorem infoInt : (Tryz.prog.info? 3).map (fun i => (i.zero, i.size, i.bytes)) = some (some (.int .i64 0), 1, 8) := by kernel_rfl
theorem info5 : (Tryz.prog.info? 5).map (fun i => (i.zero, i.size, i.bytes)) = some (some (.int .u8 0), 1, 1) := by kernel_rfl

theorem row_later {w w' : World} {base : Nat} {e : TypeId} {size : Nat} {v : Value} {n : Nat} {xs : List Value} (h : w.ownsRow base e size v n xs) (hb : Below w.heap.size w w') : w'.ownsRow base e size v n xs := by
  refine ⟨h.1, ?_⟩
  rcases h.2 with h0 | ⟨g, cap, cur, e, hg, hh, r⟩
  · exact .inl h0
  · exact .inr ⟨g, cap, cur, e, hg, (hb.block g (lt_of_block hh)).trans hh, r⟩

/-- The names below k of files that are there. -/
def AD.below (M : AD) (k : Nat) : List Int := ((List.range k).map (fun i : Nat => (i : Int))).filter (fun i => (M.files i).isSome)
def AD.names (M : AD) : List Int := M.below 4
theorem below_zero (M : AD) : M.below 0 = [] := rfl
theorem below_succ (M : AD) (k : Nat) : M.below (k + 1) = M.below k ++ (if (M.files (k : Int)).isSome then [(k : Int)] else []) := by
  unfold AD.below
  rw [List.range_succ, List.map_append, List.filter_append]
  congr 1
  by_cases h : (M.files (k : Int)).isSome = true <;> simp [h]
theorem below_length (M : AD) (k : Nat) : (M.below k).length ≤ k := by
  unfold AD.below
  refine Nat.le_trans (List.length_filter_le _ _) (by simp)

theorem files_nil (w : World) : Calls Tryz.prog 75 #[.pointer none] w fun e w' => e = .returned (.slice none 0 0) ∧ w = w' := by
  go_enter Tryz.func75, Tryz.ntmps75
  go_wp2
  go_ret
  exact ⟨rfl, rfl⟩

/-- Numbers in memory of the call's own. -/
def GivesI (w : World) (xs : List Int) (e : Ending) (w' : World) : Prop := ∃ v, e = .returned v ∧ w'.ownsRow w.heap.size 3 1 v xs.length (xs.map (Value.int .i64)) ∧ Below w.heap.size w w'

set_option maxHeartbeats 400000 in
theorem files_any {w : World} {S : Nat → Prop} {d : Nat} {M : AD} (h : DiskAt w S d M) : Calls Tryz.prog 75 #[.pointer (some ⟨d, 0, none⟩)] w (GivesI w M.names) := by
  obtain ⟨i0, hi, hz0, hz1, hz2⟩ := info_parts infoInt
  have HD := Lib.hid h
  clear h
  go_enter Tryz.func75, Tryz.ntmps75
  go_wp2
  go_loopw [3, 7] (fun s i wr => ∃ k : Nat, i = .int .i64 k ∧ k ≤ 4 ∧ Hid (wr.ownsRow w.heap.size 3 1 s (M.below k).length ((M.below k).map (Value.int .i64)) ∧ Below w.heap.size w wr)) (fun s i _ => 4 - (match i with | .int _ k => k.toNat | _ => 0))
  case atStart =>
    exact ⟨0, rfl, by omega, Lib.hid ⟨World.ownsRow_nil _ _ _ _, Below.refl _ _⟩⟩
  case round =>
    obtain ⟨k, rfl, hk, H⟩ := hrel
    by_cases hk4 : k < 4
    · have hkk : (k : Int) < 4 := by omega
      have HA := Lib.hid (HD.out.later H.out.2)
      have hI : I64 (k : Int) := name_i64 (by omega)
      have HL := Lib.hid (below_length M k)
      rcases hb : (M.files (k : Int)).isSome with _ | _
      · go_wp2_with (go_at_call 96; refine (has_any HA.out hI).mono ?_; rw [hb]; rintro e w1 ⟨rfl, hb1⟩; have HB := Lib.hid hb1; clear hb1)
        go_roundw
        case rel =>
          refine ⟨k + 1, by simp, by omega, Lib.hid ⟨?_, H.out.2.trans (HB.out.mono H.out.2.size)⟩⟩
          rw [below_succ, hb]
          simpa using row_later H.out.1 HB.out
        case measure => simp; omega
      · go_wp2_with (first
          | (go_at_call 96; refine (has_any HA.out hI).mono ?_; rw [hb]; rintro e w1 ⟨rfl, hb1⟩; have HB := Lib.hid hb1; clear hb1)
          | (at_builtin; refine wpList_append_own _ rfl _ _ 105 rfl w.heap.size 3 i0 (.int .i64 0) 1 8 Tryz.underlying105 hi hz0 hz1 hz2 rfl (by decide) _ _ _ rfl ((row_later H.out.1 HB.out).alloc _) ⟨w1.heap.size, 0, none⟩ 1 1 [.int .i64 (k : Int)] rfl rfl (cell_one_new _ _ _) (by simp [Value.oneCell']) (by have := HL.out; unfold maxLen; omega) (by have := HL.out; omega) (by have := H.out.2.size; have := HB.out.size; simp; omega) ?_; intro v' w2 hown' hgrow _; have HO := Lib.hid hown'; have HG := Lib.hid hgrow; clear hown' hgrow))
        go_roundw
        case rel =>
          refine ⟨k + 1, by simp, by omega, Lib.hid ⟨?_, ?_⟩⟩
          · rw [below_succ, hb]
            simpa using HO.out
          · have hbb := H.out.2.trans (HB.out.mono H.out.2.size)
            exact (hbb.alloc hbb.size _).grown HG.out (by have := hbb.size; simp; omega) (fun k hk => (H.out.1.lt k hk).1)
        case measure => simp; omega
    · obtain rfl : k = 4 := by omega
      go_wp2
      go_ret
      exact ⟨_, rfl, H.out.1, H.out.2⟩


/-! ### how many bytes there are -/
def sumLeft (M : AD) (left : Lit → Bool) : Nat := (if left (kl 0) then 0 else M.len 0) + (if left (kl 1) then 0 else M.len 1) + (if left (kl 2) then 0 else M.len 2) + (if left (kl 3) then 0 else M.len 3)
theorem sumLeft_all (M : AD) {left : Lit → Bool} (h : ∀ k, left k = false) : sumLeft M left = M.total := by simp [sumLeft, h, AD.total]
theorem sumLeft_start (M : AD) {left : Lit → Bool} (h : ∀ k, I64 k → left (kl k) = (M.files k).isSome) : sumLeft M left = 0 := by
  have e : ∀ k, I64 k → (if left (kl k) = true then 0 else M.len k) = 0 := fun k hk => by
    rw [h k hk]
    unfold AD.len
    cases M.files k <;> simp
  simp [sumLeft, e 0 (by decide), e 1 (by decide), e 2 (by decide), e 3 (by decide)]
theorem sumLeft_step (M : AD) {left : Lit → Bool} {x : Int} (hx : Name x) (h : left (kl x) = true) : sumLeft M (fun z => left z && !z.sameKey (kl x)) = sumLeft M left + M.len x := by
  have h4 : x = 0 ∨ x = 1 ∨ x = 2 ∨ x = 3 := by unfold Name at hx; omega
  unfold sumLeft
  rcases h4 with rfl | rfl | rfl | rfl <;> simp [h, Lit.sameKey] <;> omega
theorem sumLeft_le (M : AD) (left : Lit → Bool) : sumLeft M left ≤ M.total := by
  unfold sumLeft AD.total
  split <;> split <;> split <;> split <;> omega

/-- A step over the files of a map. -/
theorem next_file {w : World} {ops : Array Oper} {rest : List Oper} {o : Oper} {a : Act} {Q : Exit → Act → World → Prop} (hg : o.guard = none) (it : Operand) (hop : o.op = Op.next it false) (b r n : Nat) (D : DataW Value) (left : Lit → Bool) (cnt : Nat) (len : Int → Nat)
    (hit : a.eval it = .pointer (some ⟨r, 0, none⟩)) (h : w.ranges Tryz.prog 3 Rv b r n D left cnt)
    (hel : ∀ (x : Int) (v : Value), I64 x → Maps.has D (kl x) = true → (∀ zd, D.atKey (kl x) zd = .held v) → Name x ∧ ∃ (A' : Option Addr) (c' : Nat) (s : Int) (kp : Nat), v = .agg #[.slice A' (len x) c', .int .i64 s, .bool (decide (kp = 1))])
    (hDone : (∀ kl, left kl = false) → wpList Tryz.prog ops Q rest (a.put o.dst (.tuple #[.bool false])) w)
    (hMore : ∀ (x : Int) (A' : Option Addr) (c' : Nat) (s : Int) (kp : Nat) (w' : World) (cnt' : Nat), Name x → left (kl x) = true → w'.ranges Tryz.prog 3 Rv b r n D (fun z => left z && !z.sameKey (kl x)) cnt' → cnt' < cnt →
      w.grownBy w' (some r) → w'.heap.size = w.heap.size → (Instr.entry (.pointer (some ⟨r, 0, none⟩))).run Tryz.prog w' = .ok (.tuple #[.int .i64 x, .agg #[.slice A' (len x) c', .int .i64 s, .bool (decide (kp = 1))]]) w' →
      wpList Tryz.prog ops Q rest (a.put o.dst (.tuple #[.bool true, .int .i64 x, .agg #[.slice A' (len x) c', .int .i64 s, .bool (decide (kp = 1))]])) w') :
    wpList Tryz.prog ops Q (o :: rest) a w := by
  refine wpList_plain hg fun K' hK' => ?_
  unfold Oper.wp
  rcases h.next keyed o.type with ⟨h0, hl, hrun⟩ | ⟨key, v, kl0, y, w', cnt', hkey, hlk, hv, hat, hrun, hrg, hlt, hgr, hsz, hen⟩
  · simp [execOp, hop, hit, hrun, Result.andThen]
    exact hK' _ _ (hDone hl)
  · obtain ⟨x, rfl, rfl, hx⟩ := Maps.keyOf_int_inv Tryz.underlying3 hkey
    have hy : y = (.held v, []) := by simpa [Rv] using hv.symm
    subst hy
    obtain ⟨hnm, A', c', s, kp, rfl⟩ := hel x v hx (Maps.has_true_of_atKey hat) hat
    simp [execOp, hop, hit, hrun, Result.andThen]
    exact hK' _ _ (hMore x A' c' s kp w' cnt' hnm hlk hrg hlt hgr hsz hen)

set_option maxHeartbeats 800000 in
set_option maxRecDepth 100000 in
theorem used_any {w : World} {S : Nat → Prop} {d : Nat} {M : AD} (h : DiskAt w S d M) : Calls Tryz.prog 44 #[.pointer (some ⟨d, 0, none⟩)] w fun e w' => e = .returned (.int .i64 M.total) ∧ Below w.heap.size w w' := by
  obtain ⟨mb, f, A, c, h⟩ := h
  have hc1 := h.c1
  have ok := h.ok
  have ht1 := ok.tot
  have ht2 := ok.room2
  have HT := Lib.hid h
  obtain ⟨D, hown, ht⟩ := h.files.map
  -- an element is a file of the disk
  have hel : ∀ (x : Int) (v : Value), I64 x → Maps.has D (kl x) = true → (∀ zd, D.atKey (kl x) zd = .held v) → Name x ∧ ∃ (A' : Option Addr) (c' : Nat) (s : Int) (kp : Nat), v = .agg #[.slice A' (M.len x) c', .int .i64 s, .bool (decide (kp = 1))] := by
    intro x v hx hh hv
    rw [ht.1 x hx] at hh
    obtain ⟨u, hu⟩ := Option.isSome_iff_exists.1 hh
    have e := ht.2.1 x u hx hu .nil
    rw [hv] at e
    injection e with e
    subst e
    refine ⟨ht.2.2 x (by rw [hu]; simp), ?_⟩
    have hs := HT.out.isSome x
    rw [hu] at hs
    obtain ⟨F, hF⟩ := Option.isSome_iff_exists.1 hs.symm
    have hy := (HT.out.files.yes x F hF).1
    rw [hu] at hy
    injection hy with hy
    exact ⟨A x, c x, F.syn, if F.kept then 1 else 0, by rw [hy]; simp [AF.val, AD.len, hF]⟩
  have hst : ∀ k, I64 k → Maps.has D (kl k) = (M.files k).isSome := fun k hk => by rw [ht.1 k hk, HT.out.isSome]
  have HE := Lib.hid hel
  have HS := Lib.hid hst
  have HO := Lib.hid hown
  clear hel hst hown ht h ok HT
  go_enter Tryz.func44, Tryz.ntmps44
  go_wp2_with (at_range; refine wpList_range_own _ rfl _ 66 rfl 3 98 keyed Tryz.underlying66 Rv mb 4 D rfl HO.out ?_; intro w0 hrg0 hg0 hs0; have RG := Lib.hid hrg0; have G0 := Lib.hid hg0; clear hrg0 hg0)
  go_frame
  go_loopw [3, 5] (fun s _ wr => ∃ left cnt, s = .int .i64 (sumLeft M left : Nat) ∧ Hid (wr.ranges Tryz.prog 3 Rv mb w.heap.size 4 D left cnt ∧ Below w.heap.size w wr)) (fun _ _ wr => wr.rangeLeft mb w.heap.size)
  case atStart =>
    refine ⟨_, _, ?_, Lib.hid ⟨RG.out, ?_⟩⟩
    · rw [sumLeft_start M HS.out]; rfl
    · exact ⟨G0.out.os, G0.out.tape, G0.out.output, G0.out.size, fun k hk => G0.out.block k hk (by simp)⟩
  case round =>
    obtain ⟨left, cnt, rfl, H⟩ := hrel
    have hle := sumLeft_le M left
    go_wp2_with (at_next; refine next_file rfl _ rfl mb w.heap.size 4 D left cnt M.len rfl H.out.1 HE.out ?c1 ?c2)
    case c1 =>
      intro hl0
      have e := sumLeft_all M hl0
      rw [e]
      go_wp2
      go_ret
      exact ⟨rfl, H.out.2⟩
    case c2 =>
      intro x A' c' s kp w1 cnt1 hx hlx hrg1 hlt hg1 hs1 hen
      have hst := sumLeft_step M hx hlx
      have hle2 := sumLeft_le M (fun z => left z && !z.sameKey (kl x))
      have hsum : (sumLeft M left : Int) + (M.len x : Int) ≤ 65536 := by omega
      have R1 := Lib.hid hrg1
      have G1 := Lib.hid hg1
      have ST := Lib.hid hst
      clear hrg1 hg1 hst hle2 hle
      go_wp2
      go_roundw
      case rel =>
        refine ⟨_, cnt1, ?_, Lib.hid ⟨R1.out.alloc _, ?_⟩⟩
        · rw [ST.out]; simp
        · exact (H.out.2.grown G1.out H.out.2.size (fun k hk => by cases hk; exact Nat.le_refl _)).alloc (by have := H.out.2.size; omega) _
      case measure =>
        rw [(R1.out.alloc _).left_eq, H.out.1.left_eq]
        omega

end Go.Proofs.YtienabfilnpieaaGreat
