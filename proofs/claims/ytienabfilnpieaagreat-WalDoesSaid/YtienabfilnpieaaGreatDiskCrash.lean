/-
  Crash.
-/
import Derived.Test.YtienabfilnpieaaGreatDiskSurvive
namespace Go.Proofs.YtienabfilnpieaaGreat
open Go.RowKit
set_option linter.unusedVariables false
set_option maxRecDepth 100000

/-! ### how many bytes are left, file by file -/
def pcSum (j : Nat) : List Pc → Nat
  | [] => 0
  | x :: xs => (if x.nm = j then x.sz else 0) + pcSum j xs
theorem pcSum_append (j : Nat) (xs ys : List Pc) : pcSum j (xs ++ ys) = pcSum j xs + pcSum j ys := by
  induction xs with
  | nil => simp [pcSum]
  | cons x xs ih => simp [pcSum, ih]; omega
theorem sv_sum (M : AD) (keep : List Bool) (pre : List Pc) (j : Nat) : M.syn0 j ≤ (M.sv keep pre).L j ∧ (M.sv keep pre).L j ≤ M.syn0 j + pcSum j pre := by
  have e : ∀ (pre : List Pc) (s : Sv), s.L j ≤ (pre.foldl (Sv.go keep) s).L j ∧ (pre.foldl (Sv.go keep) s).L j ≤ s.L j + pcSum j pre := by
    intro pre
    induction pre with
    | nil => intro s; simp [pcSum]
    | cons x pre ih =>
      intro s
      rw [List.foldl_cons]
      obtain ⟨h1, h2⟩ := ih (s.go keep x)
      have h3 : s.L j ≤ (s.go keep x).L j ∧ (s.go keep x).L j ≤ s.L j + (if x.nm = j then x.sz else 0) := by
        simp only [Sv.go]
        by_cases e : j = x.nm
        · subst e
          simp only [if_true]
          split <;> omega
        · have e' : ¬ x.nm = j := fun h => e h.symm
          simp [e, e']
      simp only [pcSum]
      omega
  exact e pre ⟨0, M.syn0, fun _ => false⟩
theorem pcsAt_nm {k : Nat} (hk : k < 4) (F : AF) : ∀ x ∈ pcsAt k F, x.nm = k := by
  intro x hx
  obtain ⟨t, _, rfl⟩ := List.mem_map.1 hx
  simp [mkPc]; omega
theorem pcSum_other {j k : Nat} (h : j ≠ k) {xs : List Pc} (hx : ∀ x ∈ xs, x.nm = k) : pcSum j xs = 0 := by
  induction xs with
  | nil => rfl
  | cons x xs ih =>
    have h1 := hx x (by simp)
    have h2 : ¬ x.nm = j := by omega
    simp [pcSum, h2, ih (fun y hy => hx y (by simp [hy]))]
theorem pcSum_at {k : Nat} (hk : k < 4) (F : AF) : pcSum k (pcsAt k F) = F.bs.length - F.syn := by
  have e : ∀ m, m ≤ F.pn → pcSum k ((List.range m).map (fun t => mkPc k (F.bs.length - (F.syn + 8 * t)))) = min (8 * m) (F.bs.length - F.syn) := by
    intro m
    induction m with
    | zero => intro _; simp [pcSum]
    | succ m ih =>
      intro hm
      rw [List.range_succ, List.map_append, pcSum_append, ih (by omega)]
      have hlt : F.syn + 8 * m < F.bs.length := pn_spec.1 (by omega)
      have hnm : (mkPc k (F.bs.length - (F.syn + 8 * m))).nm = k := by simp [mkPc]; omega
      simp only [List.map_cons, List.map_nil, pcSum, hnm, if_true]
      simp only [mkPc]
      omega
  unfold pcsAt
  rw [e F.pn (Nat.le_refl _)]
  unfold AF.pn
  omega
theorem pcSum_of (M : AD) {j k : Nat} (hk : k < 4) : pcSum j (M.pcsOf k) = if j = k then (match M.files (k : Int) with | some F => F.bs.length - F.syn | none => 0) else 0 := by
  unfold AD.pcsOf
  rcases M.files (k : Int) with _ | F
  · simp [pcSum]
  · by_cases e : j = k
    · subst e; simp [pcSum_at hk]
    · simp [e, pcSum_other e (pcsAt_nm hk F)]
theorem pcSum_pcs (M : AD) {j : Nat} (hj : j < 4) : pcSum j M.pcs = (match M.files (j : Int) with | some F => F.bs.length - F.syn | none => 0) := by
  rw [pcs_all, pcSum_append, pcSum_append, pcSum_append, pcSum_of M (by omega), pcSum_of M (by omega), pcSum_of M (by omega), pcSum_of M (by omega)]
  have : j = 0 ∨ j = 1 ∨ j = 2 ∨ j = 3 := by omega
  rcases this with rfl | rfl | rfl | rfl <;> simp
/-- What is left of a file: at least what is synced, no more than all. -/
def AD.left (M : AD) (keep : List Bool) (k : Int) : Nat := (M.sv keep M.pcs).L k.toNat
theorem left_bounds {M : AD} (h : M.Ok) (keep : List Bool) {k : Int} {F : AF} (hF : M.files k = some F) : F.syn ≤ M.left keep k ∧ M.left keep k ≤ F.bs.length := by
  have hk := h.names k (by rw [hF]; simp)
  have hs := h.syn k F hF
  have hkk : ((k.toNat : Nat) : Int) = k := by omega
  obtain ⟨h1, h2⟩ := sv_sum M keep M.pcs k.toNat
  rw [pcSum_pcs M (by omega)] at h2
  unfold AD.syn0 at h1 h2
  rw [hkk, hF] at h1 h2
  simp at h1 h2
  unfold AD.left
  omega

/-! ### Crash -/
def AF.lives (F : AF) (n : Nat) : Option AF := if n = 0 ∧ F.kept = false then Option.none else some ⟨F.bs.take n, n, true⟩
def crashAt (M : AD) (keep : List Bool) (M' : AD) (k : Int) : AD := match M.files k with | some F => (match F.lives (M.left keep k) with | some G => M'.put k G | none => M'.drop k) | none => M'
def AD.crash (M : AD) (keep : List Bool) : AD := { M with files := fun k => (M.files k).bind (fun F => F.lives (M.left keep k)), armed := -1, failing := -1, dead := false }
def AD.crashTo (M : AD) (keep : List Bool) (i : Nat) : AD := (M.names.take i).foldl (crashAt M keep) M

theorem crashAt_files (M M' : AD) (keep : List Bool) {k : Int} (hk : M.files k ≠ none) (j : Int) : (crashAt M keep M' k).files j = if j = k then (M.files k).bind (fun F => F.lives (M.left keep k)) else M'.files j := by
  obtain ⟨F, hF⟩ := Option.ne_none_iff_exists'.1 hk
  unfold crashAt
  rw [hF]
  simp only [Option.bind_some]
  rcases F.lives (M.left keep k) with _ | G
  · by_cases e : j = k
    · subst e; simp [AD.drop, upd_same]
    · simp [AD.drop, upd_other _ e, e]
  · by_cases e : j = k
    · subst e; simp [AD.put, upd_same]
    · simp [AD.put, upd_other _ e, e]
theorem crashAt_rest (M M' : AD) (keep : List Bool) (k : Int) : (crashAt M keep M' k).room = M'.room ∧ (crashAt M keep M' k).armed = M'.armed ∧ (crashAt M keep M' k).failing = M'.failing ∧ (crashAt M keep M' k).ops = M'.ops ∧ (crashAt M keep M' k).dead = M'.dead := by
  unfold crashAt
  rcases M.files k with _ | F
  · exact ⟨rfl, rfl, rfl, rfl, rfl⟩
  · simp only
    rcases F.lives (M.left keep k) with _ | G <;> exact ⟨rfl, rfl, rfl, rfl, rfl⟩

theorem names_mem (M : AD) (h : M.Ok) (k : Int) : k ∈ M.names ↔ M.files k ≠ none := by
  unfold AD.names AD.below
  rw [List.mem_filter]
  constructor
  · rintro ⟨_, h2⟩ e
    rw [e] at h2; cases h2
  · intro hk
    have := h.names k hk
    refine ⟨List.mem_map.2 ⟨k.toNat, by simp; omega, by omega⟩, ?_⟩
    rcases hf : M.files k with _ | F
    · exact absurd hf hk
    · rfl
theorem names_nodup (M : AD) : M.names.Nodup := by
  unfold AD.names AD.below
  refine List.Pairwise.filter _ ?_
  exact List.Pairwise.map _ (fun a b (h : a ≠ b) => by omega) (List.nodup_range (n := 4))


theorem crash_fold (M : AD) (keep : List Bool) : ∀ (L : List Int) (M' : AD), (∀ k ∈ L, M.files k ≠ none) → ∀ j, (L.foldl (crashAt M keep) M').files j = if j ∈ L then (M.files j).bind (fun F => F.lives (M.left keep j)) else M'.files j
  | [], M', _, j => by simp
  | k :: L, M', h, j => by
    rw [List.foldl_cons, crash_fold M keep L _ (fun x hx => h x (by simp [hx])), crashAt_files M M' keep (h k (by simp))]
    by_cases e : j ∈ L
    · simp [e]
    · by_cases e2 : j = k
      · subst e2; simp [e]
      · simp [e, e2]
theorem crash_rest (M : AD) (keep : List Bool) : ∀ (L : List Int) (M' : AD), (L.foldl (crashAt M keep) M').room = M'.room ∧ (L.foldl (crashAt M keep) M').armed = M'.armed ∧ (L.foldl (crashAt M keep) M').failing = M'.failing ∧ (L.foldl (crashAt M keep) M').ops = M'.ops ∧ (L.foldl (crashAt M keep) M').dead = M'.dead
  | [], M' => ⟨rfl, rfl, rfl, rfl, rfl⟩
  | k :: L, M' => by
    rw [List.foldl_cons]
    obtain ⟨a, b, c, d, e⟩ := crash_rest M keep L (crashAt M keep M' k)
    obtain ⟨a', b', c', d', e'⟩ := crashAt_rest M M' keep k
    exact ⟨a.trans a', b.trans b', c.trans c', d.trans d', e.trans e'⟩
/-- A file that is still as it was. -/
theorem crashTo_file (M : AD) (h : M.Ok) (keep : List Bool) {i : Nat} {k : Int} (hk : M.names[i]? = some k) : (M.crashTo keep i).files k = M.files k := by
  unfold AD.crashTo
  rw [crash_fold M keep _ _ (fun x hx => (names_mem M h x).1 (List.mem_of_mem_take hx))]
  have hn := names_nodup M
  have : k ∉ M.names.take i := by
    intro hm
    obtain ⟨j, hj, e⟩ := List.mem_iff_getElem.1 hm
    rw [List.getElem_take] at e
    have hji : j < i := by simp at hj; omega
    obtain ⟨hi, e2⟩ := List.getElem?_eq_some_iff.1 hk
    have := (List.pairwise_iff_getElem.1 hn) j i (by omega) hi hji
    exact this (e.trans e2.symm)
  simp [this]
theorem crashTo_succ (M : AD) (keep : List Bool) {i : Nat} {k : Int} (hk : M.names[i]? = some k) : M.crashTo keep (i + 1) = crashAt M keep (M.crashTo keep i) k := by
  unfold AD.crashTo
  rw [List.take_add_one, hk, List.foldl_append]
  rfl
theorem crashTo_all (M : AD) (h : M.Ok) (keep : List Bool) : { (M.crashTo keep M.names.length) with armed := -1, failing := -1, dead := false } = M.crash keep := by
  obtain ⟨a, b, c, d, e⟩ := crash_rest M keep (M.names.take M.names.length) M
  have hf : (M.crashTo keep M.names.length).files = (M.crash keep).files := by
    funext j
    unfold AD.crashTo
    rw [List.take_length, crash_fold M keep _ _ (fun x hx => (names_mem M h x).1 hx)]
    by_cases hj : j ∈ M.names
    · simp [hj, AD.crash]
    · have : M.files j = none := by
        rcases hfj : M.files j with _ | F
        · rfl
        · exact absurd ((names_mem M h j).2 (by rw [hfj]; simp)) hj
      simp [hj, AD.crash, this]
  have h1 : (M.crashTo keep M.names.length).room = M.room := a
  have h2 : (M.crashTo keep M.names.length).ops = M.ops := d
  unfold AD.crash at hf ⊢
  dsimp only at hf ⊢
  rw [hf, h1, h2]

theorem enter_crash1 (x p1 p2 : Value) (W : World) : (callFunc 76 (#[x] ++ #[p1, p2])).run Tryz.prog W = .ok (.enter 76 (#[x] ++ #[p1, p2])) W := by kernel_rfl
theorem crash_disk {w : World} {S : Nat → Prop} {d mb : Nat} {M : AD} {f : Int → Option Value} {A : Int → Option Addr} {c : Int → Nat} (h : DiskIn w S d M mb f A c) {j : Nat} (hj : j < 4) (F : AF) (hF : M.files (j : Nat) = some F) (L nb m : Nat) (hL : w.cell? ⟨L, j, none⟩ = some (.int .i64 (m : Nat))) (hnb : w.cell? ⟨nb, 0, none⟩ = some (.int .i64 (j : Nat))) (hm : m ≤ F.bs.length) :
    Calls Tryz.prog 46 #[.pointer (some ⟨d, 0, none⟩), .int .i64 (j : Nat), .func (.func 76) #[] #[.pointer (some ⟨L, 0, none⟩), .pointer (some ⟨nb, 0, none⟩)]] w fun e w' => e = .returned (.tuple #[]) ∧ After S d w (M.put (j : Nat) ⟨F.bs.take m, m, true⟩) w' := by
  have hlt : ∀ {x i : Nat} {v : Value}, w.cell? ⟨x, i, none⟩ = some v → x < w.heap.size := fun {x i v} hx => by
    rcases Nat.lt_or_ge x w.heap.size with h1 | h1
    · exact h1
    · simp [World.cell?, Array.getElem?_eq_none h1] at hx
  refine keep_disk 76 #[.pointer (some ⟨L, 0, none⟩), .pointer (some ⟨nb, 0, none⟩)] h (by unfold Name; omega) F hF ⟨F.bs.take m, m, true⟩ m hm rfl (Nat.le_refl _) (enter_crash1 _ _ _) (fun W A0 c0 hbox hbel h1 h2 => ?_)
  exact crash1_any hbox ((hbel.cell (p := ⟨nb, 0, none⟩) (hlt hnb)).trans hnb) hj ((hbel.cell (p := ⟨L, j, none⟩) (hlt hL)).trans hL) hm h1 h2

theorem crash_nil (w : World) (v : Value) : Calls Tryz.prog 28 #[.pointer none, v] w fun e w' => e = .returned (.int .i64 1) ∧ w = w' := by
  go_enter Tryz.func28, Tryz.ntmps28
  go_wp2
  go_ret
  exact ⟨rfl, rfl⟩


/-- Between two files of a Crash. -/
def CrashMid (w W3 : World) (S : Nat → Prop) (d : Nat) (M : AD) (keep : List Bool) (Lb g : Nat) (o o' : Obj) (i : Nat) (wr : World) : Prop :=
  ∃ S', DiskAt wr S' d (M.crashTo keep i) ∧ Turn S w wr ∧ (∀ k, S' k → S k ∨ W3.heap.size ≤ k) ∧ wr.heap[Lb]? = some o ∧ wr.heap[g]? = some o' ∧ W3.heap.size ≤ wr.heap.size

set_option maxHeartbeats 2000000 in
theorem crash_any {w : World} {S : Nat → Prop} {d : Nat} {M : AD} (h : DiskAt w S d M) (K : Option Addr) (kc : Nat) (keep : List Bool) (hK : RdB w w.heap.size K keep) (hkn : keep.length ≤ kc) (hkc : kc ≤ 9223372036854775807) :
    Calls Tryz.prog 28 #[.pointer (some ⟨d, 0, none⟩), .slice K keep.length kc] w fun e w' => e = .returned (.int .i64 0) ∧ After S d w (M.crash keep) w' := by
  have HD := Lib.hid h
  have HSU := Lib.hid (survive_any h K kc keep hK hkn hkc)
  have ok := h.ok
  obtain ⟨kn, hn⟩ : ∃ kn, kn = keep.length := ⟨_, rfl⟩
  rw [← hn] at HSU ⊢
  have HOK := Lib.hid ok
  clear h hK hkn hkc hn ok
  go_enter Tryz.func28, Tryz.ntmps28
  go_wp2_with (first
    | (go_at_call 74; refine HSU.out.mono ?_; rintro e w1 ⟨rfl, hb1⟩; have HB1 := Lib.hid hb1; have D1 := Lib.hid (HD.out.later hb1); clear hb1)
    | (go_at_call 75; refine (files_any (D1.out.later ((Below.refl _ w1).alloc (Nat.le_refl _) _))).mono ?_; rintro e W3 ⟨v, rfl, hown, hb3⟩; obtain ⟨n1, hn1⟩ : ∃ n1, n1 = M.names.length := ⟨_, rfl⟩; rw [← hn1] at hown; obtain ⟨A0, c0, rfl, _, _⟩ := own_form hown; have HOW := Lib.hid hown; have HB3 := Lib.hid hb3; have HN1 := Lib.hid hn1; clear hown hb3 hn1))
  have hle4 : n1 ≤ 4 := by rw [HN1.out]; exact below_length M 4
  obtain ⟨Lb, hLb⟩ : ∃ Lb, Lb = w1.heap.size := ⟨_, rfl⟩
  obtain ⟨oL, hoL⟩ : ∃ oL : Obj, oL = .cells (arrL (M.sv keep M.pcs)) 103 (0, 0) := ⟨_, rfl⟩
  have hL3 : W3.heap[Lb]? = some oL := by
    rw [hLb, hoL, HB3.out.block _ (by simp)]
    exact heap_alloc_new w1 _
  have hb3w : Below w.heap.size w W3 := (HB1.out.trans (((Below.refl _ w1).alloc (Nat.le_refl _) _).mono HB1.out.size)).trans (HB3.out.mono (by have := HB1.out.size; simp; omega))
  have hLw : w.heap.size ≤ Lb := by rw [hLb]; exact HB1.out.size
  have hszL : Lb < W3.heap.size := lt_of_block (by rw [hL3, hoL])
  rw [← hLb]
  have HL3 := Lib.hid hL3
  have HB3W := Lib.hid hb3w
  have HOL := Lib.hid hoL
  have hD3 := HD.out.later hb3w
  have HD3 := Lib.hid hD3
  -- the end
  have fin : ∀ wr S', DiskAt wr S' d (M.crashTo keep M.names.length) → Turn S w wr → (∀ k, S' k → S k ∨ W3.heap.size ≤ k) → ∀ W5, W5 = ((wr.setCell ⟨d, 5, none⟩ (.bool false)).setCell ⟨d, 2, none⟩ (.int .i64 (-1))).setCell ⟨d, 3, none⟩ (.int .i64 (-1)) → After S d w (M.crash keep) W5 := by
    rintro wr S' ⟨mb, f, A, c, hd⟩ ht hS W5 rfl
    have hg : wr.grownBy (((wr.setCell ⟨d, 5, none⟩ (.bool false)).setCell ⟨d, 2, none⟩ (.int .i64 (-1))).setCell ⟨d, 3, none⟩ (.int .i64 (-1))) (some d) := (((Only.refl d wr).set (.inl rfl) _).set (.inl rfl) _).set (.inl rfl) _
    have hh := heap_set (heap_set (heap_set hd.head 5 (.bool false)) 2 (.int .i64 (-1))) 3 (.int .i64 (-1))
    have hok : ({ (M.crashTo keep M.names.length) with armed := -1, failing := -1, dead := false } : AD).Ok := Ok.head hd.ok rfl rfl ⟨by simp, by simp⟩ ⟨by simp, by simp⟩ rfl
    rw [← crashTo_all M HOK.out keep]
    refine After.of ⟨mb, f, A, c, hd.setHead hg hh rfl hok⟩ (ht.trans (Turn.of_grown (S := S) hg (fun i hi => by cases hi; exact .inl HD.out.inS)) (fun i hi => .inl hi)) (fun i hi => (hS i hi).imp id (fun e => Nat.le_trans hb3w.size e)) (fun i hi => HD.out.low hi)
  have FIN := Lib.hid fin
  clear hL3 hb3w hLb hoL hD3 fin
  rcases hA0 : A0 with _ | ad
  · subst hA0
    have hz : n1 = 0 := by
      rcases HOW.out.2 with ⟨_, e⟩ | ⟨_, _, _, e, _⟩
      · exact e
      · cases e
    subst hz
    go_loopw [16] (fun i wr => i = .int .i64 0 ∧ wr = W3) (fun _ _ => 0)
    case atStart => exact ⟨rfl, rfl⟩
    case round =>
      obtain ⟨rfl, rfl⟩ := hrel
      have hcr : M.crashTo keep M.names.length = M := by unfold AD.crashTo; rw [← HN1.out]; simp
      obtain ⟨mb, f, A, c, hdd⟩ := HD3.out
      obtain ⟨M0, hM0⟩ : ∃ M0, M0 = M := ⟨_, rfl⟩
      rw [← hM0] at hdd
      have HM0 := Lib.hid hM0
      clear hM0
      have cd2 : wr.cell? ⟨d, 2, none⟩ = some (.int .i64 M0.armed) := hdd.c2
      have cd3 : wr.cell? ⟨d, 3, none⟩ = some (.int .i64 M0.failing) := hdd.c3
      have cd5 : wr.cell? ⟨d, 5, none⟩ = some (.bool M0.dead) := hdd.c5
      have fd2 := hdd.fz 2
      have fd3 := hdd.fz 3
      have fd5 := hdd.fz 5
      clear hdd
      go_wp2
      go_ret
      exact ⟨rfl, FIN.out wr S (by rw [hcr]; exact HD3.out) (Turn.of_below HB3W.out) (fun k hk => .inl hk) _ rfl⟩
  · subst hA0
    obtain ⟨g, cur, hge, hgb, hgl, hgc⟩ : ∃ g cur, ad = ⟨g, 0, none⟩ ∧ W3.heap[g]? = some (.cells cur 3 (0, 0)) ∧ w.heap.size ≤ g ∧ cur.toList.take n1 = M.names.map (Value.int .i64) := by
      rcases HOW.out.2 with ⟨e, _⟩ | ⟨g, cap, cur, e, h1, h2, _, _, _, h3⟩
      · cases e
      · injection e with e1 _ _
        injection e1 with e1
        refine ⟨g, cur, e1, h2, ?_, by simpa using h3⟩
        have := HB1.out.size
        simp at h1
        omega
    subst hge
    have hszg := lt_of_block hgb
    have hnm : ∀ i k : Nat, (M.below' 4)[i]? = some k → cur[i]? = some (Value.int .i64 ((k : Nat) : Int)) := fun i k hik => by
      have h1 : (M.names.map (Value.int .i64))[i]? = some (Value.int .i64 ((k : Nat) : Int)) := by unfold AD.names; rw [below_eq]; simp [hik]
      rw [← hgc, List.getElem?_take] at h1
      split at h1
      · simpa using h1
      · cases h1
    have hnames : ∀ i k : Nat, (M.below' 4)[i]? = some k → M.names[i]? = some (k : Int) := fun i k hik => by unfold AD.names; rw [below_eq]; simp [hik]
    have hlen : n1 = (M.below' 4).length := by rw [HN1.out]; unfold AD.names; rw [below_eq]; simp
    have HNM := Lib.hid hnm
    have HNN := Lib.hid hnames
    have HL := Lib.hid hlen
    have HGB := Lib.hid hgb
    clear hnm hnames hlen hgb hgc HOW
    go_loopw [16] (fun i wr => ∃ k : Nat, i = .int .i64 k ∧ k ≤ n1 ∧ Hid (CrashMid w W3 S d M keep Lb g oL (.cells cur 3 (0, 0)) k wr)) (fun i _ => n1 - (match i with | .int _ k => k.toNat | _ => 0))
    case atStart => exact ⟨0, rfl, Nat.zero_le _, Lib.hid ⟨S, by unfold AD.crashTo; simpa using HD3.out, Turn.of_below HB3W.out, fun k hk => .inl hk, HL3.out, HGB.out, Nat.le_refl _⟩⟩
    case round =>
      obtain ⟨i, rfl, hi, H⟩ := hrel
      by_cases hin : i < n1
      · have hii : (i : Int) < n1 := by omega
        obtain ⟨k, hk⟩ : ∃ k, (M.below' 4)[i]? = some k := ⟨_, List.getElem?_eq_getElem (by rw [← HL.out]; exact hin)⟩
        obtain ⟨hk4, F, hF⟩ := names_lt M (List.mem_of_getElem? hk)
        obtain ⟨S', hdk, htu, hS', hLo, hgo, hsz⟩ := H.out
        obtain ⟨mb, f, A, c, hdd⟩ := hdk
        have hFi : (M.crashTo keep i).files (k : Nat) = some F := by rw [crashTo_file M HOK.out keep (HNN.out i k hk)]; exact hF
        have hsucc := crashTo_succ M keep (HNN.out i k hk)
        have kg : wr.cell? ⟨g, i, none⟩ = some (.int .i64 (k : Nat)) := by simp [World.cell?, hgo, HNM.out i k hk]
        obtain ⟨m, hm⟩ : ∃ m, m = M.left keep (k : Nat) := ⟨_, rfl⟩
        have hmb := (left_bounds HOK.out keep hF).2
        rw [← hm] at hmb
        have hmL : (M.sv keep M.pcs).L k = m := by rw [hm]; simp [AD.left]
        -- the round's own variable
        obtain ⟨wx, hwx⟩ : ∃ wx, wx = wr.alloc (.cells #[.int .i64 (k : Nat)] 3) := ⟨_, rfl⟩
        have hbx : Below wr.heap.size wr wx := by rw [hwx]; exact (Below.refl _ wr).alloc (Nat.le_refl _) _
        have hdx : DiskIn wx S' d (M.crashTo keep i) mb f A c := hdd.later hbx
        have kx : wx.cell? ⟨wr.heap.size, 0, none⟩ = some (.int .i64 (k : Nat)) := by rw [hwx, cell_new]; rfl
        have hLx : wx.heap[Lb]? = some oL := (hbx.block _ (by omega)).trans hLo
        have hgx : wx.heap[g]? = some (.cells cur 3 (0, 0)) := (hbx.block _ (by omega)).trans hgo
        have kL : wx.cell? ⟨Lb, k, none⟩ = some (.int .i64 (m : Nat)) := by rw [HOL.out] at hLx; simp [World.cell?, hLx, arrL_at _ hk4, hmL]
        have kd1 := hdx.c1
        have hfa : fileAt (M.crashTo keep i) A c (k : Nat) = .agg #[.slice (A (k : Nat)) F.bs.length (c (k : Nat)), .int .i64 F.syn, .bool F.kept] := by simp [fileAt, hFi, AF.val]
        have klk : ∀ q, (Instr.lookup 66 (.map (some mb)) (.int .i64 (k : Nat)) false).run Tryz.prog (wx.drewN q) = .ok (.agg #[.slice (A (k : Nat)) F.bs.length (c (k : Nat)), .int .i64 F.syn, .bool F.kept]) (wx.drewN q) := fun q => by
          rw [← hfa]
          exact (hdx.turn (w' := wx.drewN q) (fun _ _ => rfl) (Nat.le_refl _)).look (name_i64 (by omega))
        have hfd := field2 (.slice (A (k : Nat)) F.bs.length (c (k : Nat))) (.int .i64 F.syn) (.bool F.kept)
        have k0 : (0 : Int) ≤ (k : Int) := by omega
        have k4 : (k : Int) < 4 := by omega
        -- what a round leaves
        have nxt : ∀ wy S'', DiskAt wy S'' d (M.crashTo keep (i + 1)) → Turn S' wx wy → (∀ j, S'' j → S' j ∨ wx.heap.size ≤ j) → CrashMid w W3 S d M keep Lb g oL (.cells cur 3 (0, 0)) (i + 1) wy := by
          intro wy S'' h1 h2 h3
          have hxs := hbx.size
          refine ⟨S'', h1, ?_, ?_, ?_, ?_, Nat.le_trans hsz (Nat.le_trans hxs h2.size)⟩
          · refine (htu.trans (Turn.of_below (S := S) hbx) (fun j hj => .inl hj)).trans h2 (fun j hj => ?_)
            rcases hS' j hj with e | e
            · exact .inl e
            · exact .inr (by have := HB3W.out.size; omega)
          · intro j hj
            rcases h3 j hj with e | e
            · exact hS' j e
            · exact .inr (by omega)
          · refine (h2.block Lb (by omega) (fun e => ?_)).trans hLx
            rcases hS' Lb e with e | e
            · have := HD.out.low e; omega
            · omega
          · refine (h2.block g (by omega) (fun e => ?_)).trans hgx
            rcases hS' g e with e | e
            · have := HD.out.low e; omega
            · omega
        have HDX := Lib.hid hdx
        have HFI := Lib.hid hFi
        have HSU2 := Lib.hid hsucc
        have HM := Lib.hid hm
        have HF := Lib.hid hF
        have HWX := Lib.hid hwx
        have HBX := Lib.hid hbx
        have NXT := Lib.hid nxt
        have KLK := Lib.hid klk
        have HMB := Lib.hid hmb
        clear hk hdd hdx hFi hsucc hm hmL hF hwx hbx nxt hLx hgx hfa hLo hgo htu hS' hmb
        by_cases hm0 : m = 0
        · subst hm0
          rcases hkp : F.kept with _ | _
          · -- nothing is left of it
            rw [hkp] at hfd
            have klk := KLK.out
            rw [hkp] at klk
            go_wp2
            rw [← HWX.out]
            go_quiet (fail)
            clear klk
            go_wp2
            have D4 : DiskIn (wx.drewN nq) S' d (M.crashTo keep i) mb f A c := HDX.out.turn (fun _ _ => rfl) (Nat.le_refl _)
            have t4 : Turn S' wx (wx.drewN nq) := ⟨rfl, rfl, rfl, Nat.le_refl _, fun _ _ _ => rfl⟩
            have kx4 : (wx.drewN nq).cell? ⟨wr.heap.size, 0, none⟩ = some (.int .i64 (k : Nat)) := kx
            have kd4 : (wx.drewN nq).cell? ⟨d, 1, none⟩ = some (.map (some mb)) := kd1
            generalize wx.drewN nq = wz at D4 t4 kx4 kd4 ⊢
            have HD4 := Lib.hid D4
            have HT4 := Lib.hid t4
            clear D4 t4
            refine wp_region_still_tail 5 (by kernel_rfl) (by kernel_rfl) ?_
            simp only [List.take_succ_cons, List.take_zero, List.drop_succ_cons, List.drop_zero]
            change wpStill _ _ wz.drew _ _ _
            still_step
            still_step
            still_step
            still_step
            still_step
            refine wpStill_nil ?_
            go_wp2_with (at_delete; refine drop_file rfl _ _ rfl rfl (w := wz.drew) HD4.out.drew.files.map (k := (k : Nat)) (by unfold Name; omega) rfl ?_; intro w5 hm5 hg5; have D5 := Lib.hid (HD4.out.drew.drop hm5 hg5); have HG5 := Lib.hid hg5; clear hm5 hg5)
            have hcr : M.crashTo keep (i + 1) = (M.crashTo keep i).drop (k : Nat) := by
              rw [HSU2.out]
              unfold crashAt
              rw [HF.out]
              simp [AF.lives, ← HM.out, hkp]
            have HN2 := Lib.hid (NXT.out w5 S' (by rw [hcr]; exact ⟨mb, _, A, c, D5.out⟩) (HT4.out.drew.trans (Turn.of_grown (S := S') HG5.out (fun j hj => by cases hj; exact .inl HD4.out.files.inS)) (fun j hj => .inl hj)) (fun j hj => .inl hj))
            clear hcr
            go_wp2
            go_roundw
            case rel => exact ⟨i + 1, by simp, by omega, HN2⟩
            case measure => simp; omega
          · rw [hkp] at hfd
            have klk := KLK.out
            rw [hkp] at klk
            go_wp2
            rw [← HWX.out]
            go_quiet (fail)
            clear klk
            go_wp2_with fail
            have D4 : DiskIn (wx.drewN nq) S' d (M.crashTo keep i) mb f A c := HDX.out.turn (fun _ _ => rfl) (Nat.le_refl _)
            refine (crash_disk D4 hk4 F HFI.out Lb wr.heap.size 0 kL kx HMB.out).mono ?_
            rintro e wy ⟨rfl, haf⟩
            have HN2 := Lib.hid (NXT.out wy (grew S' (wx.drewN nq) wy) (by rw [HSU2.out]; exact (by have e : crashAt M keep (M.crashTo keep i) (k : Nat) = (M.crashTo keep i).put (k : Nat) ⟨F.bs.take 0, 0, true⟩ := (by unfold crashAt; rw [HF.out]; simp [AF.lives, ← HM.out, hkp]); rw [e]; exact haf.1)) ((show Turn S' wx (wx.drewN nq) from ⟨rfl, rfl, rfl, Nat.le_refl _, fun _ _ _ => rfl⟩).trans haf.2 (fun j hj => .inl hj)) (fun j (hj : grew S' (wx.drewN nq) wy j) => hj.imp id (fun e => e.1)))
            clear haf D4
            go_wp2
            go_roundw
            case rel => exact ⟨i + 1, by simp, by omega, HN2⟩
            case measure => simp; omega
        · have hq1 : decide ((m : Int) = 0) = false := by simp; omega
          have hq2 : ((m : Int) == 0) = false := by simp; omega
          have klk := KLK.out
          go_wp2
          rw [← HWX.out]
          go_quiet (fail)
          clear klk
          go_wp2_with fail
          have D4 : DiskIn (wx.drewN nq) S' d (M.crashTo keep i) mb f A c := HDX.out.turn (fun _ _ => rfl) (Nat.le_refl _)
          refine (crash_disk D4 hk4 F HFI.out Lb wr.heap.size m kL kx HMB.out).mono ?_
          rintro e wy ⟨rfl, haf⟩
          have HN2 := Lib.hid (NXT.out wy (grew S' (wx.drewN nq) wy) (by rw [HSU2.out]; exact (by have e : crashAt M keep (M.crashTo keep i) (k : Nat) = (M.crashTo keep i).put (k : Nat) ⟨F.bs.take m, m, true⟩ := (by unfold crashAt; rw [HF.out]; simp [AF.lives, ← HM.out, hm0]); rw [e]; exact haf.1)) ((show Turn S' wx (wx.drewN nq) from ⟨rfl, rfl, rfl, Nat.le_refl _, fun _ _ _ => rfl⟩).trans haf.2 (fun j hj => .inl hj)) (fun j (hj : grew S' (wx.drewN nq) wy j) => hj.imp id (fun e => e.1)))
          clear haf D4
          go_wp2
          go_roundw
          case rel => exact ⟨i + 1, by simp, by omega, HN2⟩
          case measure => simp; omega
      · obtain rfl : i = n1 := by omega
        obtain ⟨S', hdk, htu, hS', hLo, hgo, hsz⟩ := H.out
        rw [HN1.out] at hdk
        have hdk' := hdk
        obtain ⟨mb, f, A, c, hdd⟩ := hdk'
        generalize hM0 : M.crashTo keep M.names.length = M0 at hdd
        have HDK := Lib.hid hdk
        have HTU := Lib.hid htu
        have HSS := Lib.hid hS'
        clear hdk htu hS' hLo hgo hM0
        have cd2 : wr.cell? ⟨d, 2, none⟩ = some (.int .i64 M0.armed) := hdd.c2
        have cd3 : wr.cell? ⟨d, 3, none⟩ = some (.int .i64 M0.failing) := hdd.c3
        have cd5 : wr.cell? ⟨d, 5, none⟩ = some (.bool M0.dead) := hdd.c5
        have fd2 := hdd.fz 2
        have fd3 := hdd.fz 3
        have fd5 := hdd.fz 5
        clear hdd
        go_wp2
        go_ret
        exact ⟨rfl, FIN.out wr S' HDK.out HTU.out HSS.out _ rfl⟩

end Go.Proofs.YtienabfilnpieaaGreat
