/-
  A file is handed to a function, and what that makes of it is laid (change); an operation is done unless it meets something (operate).
-/
import Derived.Test.YtienabfilnpieaaGreatDiskAsk
namespace Go.Proofs.YtienabfilnpieaaGreat
open Go.RowKit
set_option linter.unusedVariables false

/-- 'm[k] = v' at a name. -/
theorem store_file {w : World} {ops : Array Oper} {rest : List Oper} {o : Oper} {a : Act} {Q : Exit → Act → World → Prop} (hg : o.guard = none) (m x v : Operand) (hop : o.op = Op.mapUpdate 66 m x v)
    {b : Nat} {f : Int → Option Value} (hm : a.eval m = .map (some b)) (h : MapAt w b f) {k : Int} (hk : Name k) (hx : a.eval x = .int .i64 k) {val : Value} (hv : a.eval v = val)
    (hK : ∀ w', MapAt w' b (upd f k (some val)) → w.grownBy w' (some b) → wpList Tryz.prog ops Q rest (a.put o.dst undef) w') : wpList Tryz.prog ops Q (o :: rest) a w := by
  refine wpList_plain hg fun K' hK' => ?_
  obtain ⟨w', hrun, r1, r2⟩ := h.store hk val
  unfold Oper.wp
  simp [execOp, hop, hm, hx, hv, hrun, Result.andThen]
  exact hK' _ _ (hK w' r1 r2.grown)

/-- What a function made of a file stands in the map. -/
def LaidAt (mb : Nat) (f : Int → Option Value) (k : Int) (Q : World → Option Addr → Nat → Nat → Int → Bool → Prop) (w' : World) : Prop :=
  ∃ W A1 n1 c1 s1 k1, Q W A1 n1 c1 s1 k1 ∧ MapAt w' mb (upd f k (some (.agg #[.slice A1 n1 c1, .int .i64 s1, .bool k1]))) ∧ W.grownBy w' (some mb)

set_option maxHeartbeats 800000 in
set_option maxRecDepth 100000 in
theorem change_in (fid : FuncId) (caps : Array Value) {w : World} {S : Nat → Prop} {d mb : Nat} {M : AD} {f : Int → Option Value} {A : Int → Option Addr} {c : Int → Nat} (h : DiskIn w S d M mb f A c) {k : Int} (hk : Name k)
    (A0 : Option Addr) (n0 c0 : Nat) (s0 : Int) (k0 : Bool) (he : fileAt M A c k = .agg #[.slice A0 n0 c0, .int .i64 s0, .bool k0]) (Q : World → Option Addr → Nat → Nat → Int → Bool → Prop)
    (hen : ∀ W : World, (callFunc fid (#[.pointer (some ⟨w.heap.size, 0, none⟩)] ++ caps)).run Tryz.prog W = .ok (.enter fid (#[.pointer (some ⟨w.heap.size, 0, none⟩)] ++ caps)) W)
    (hcl : Calls Tryz.prog fid (#[.pointer (some ⟨w.heap.size, 0, none⟩)] ++ caps) (w.alloc (.cells #[.slice A0 n0 c0, .int .i64 s0, .bool k0] 98)) fun e W => e = .returned (.tuple #[]) ∧
      W.cell? ⟨d, 1, none⟩ = some (.map (some mb)) ∧ MapAt W mb f ∧ ∃ A1 n1 c1 s1 k1, W.heap[w.heap.size]? = some (.cells #[.slice A1 n1 c1, .int .i64 s1, .bool k1] 98 (0, 0)) ∧ Q W A1 n1 c1 s1 k1) :
    Calls Tryz.prog 46 #[.pointer (some ⟨d, 0, none⟩), .int .i64 k, .func (.func fid) #[] caps] w fun e w' => e = .returned (.tuple #[]) ∧ LaidAt mb f k Q w' := by
  have hc1 := h.c1
  have hl := h.look (k := k) (name_i64 hk)
  rw [he] at hl
  have HC := Lib.hid hcl
  clear h he hcl
  go_enter Tryz.func46, Tryz.ntmps46
  go_wp2
  refine HC.out.mono ?_
  rintro e W ⟨rfl, hd1, hm, A1, n1, c1, s1, k1, hb, hQ⟩
  have h0 : W.cell? ⟨w.heap.size, 0, none⟩ = some (.slice A1 n1 c1) := by simp [World.cell?, hb]
  have h1 : W.cell? ⟨w.heap.size, 1, none⟩ = some (.int .i64 s1) := by simp [World.cell?, hb]
  have h2 : W.cell? ⟨w.heap.size, 2, none⟩ = some (.bool k1) := by simp [World.cell?, hb]
  have HM := Lib.hid hm
  have HQ := Lib.hid hQ
  clear hm hQ hb hl hc1 hen
  go_wp2
  refine wp_region_still_tail 6 (by kernel_rfl) (by kernel_rfl) ?_
  simp only [List.take_succ_cons, List.take_zero, List.drop_succ_cons, List.drop_zero]
  change wpStill _ _ W.drew _ _ _
  still_step
  still_step
  still_step
  still_step
  still_step
  still_step
  refine wpStill_nil ?_
  go_wp2_with (at_mapUpdate; refine store_file rfl _ _ _ rfl rfl (w := W.drew) (MapAt.same HM.out rfl) hk rfl rfl ?_; intro w3 hm3 hg3; have HM3 := Lib.hid hm3; have HG3 := Lib.hid hg3; clear hm3 hg3)
  go_end0
  exact ⟨rfl, W, A1, n1, c1, s1, k1, HQ.out, HM3.out, ⟨HG3.out.os, HG3.out.tape, HG3.out.output, HG3.out.size, HG3.out.block⟩⟩


/-- An operation that is done unless it meets something. -/
def DoneBy (M : AD) (S : Nat → Prop) (d mb : Nat) (f : Int → Option Value) (A : Int → Option Addr) (c : Int → Nat) (w : World) (R : World → Prop) (w' : World) : Prop :=
  (M.err ≠ 0 ∧ DiskIn w' S d M.met mb f A c ∧ w.grownBy w' (some d)) ∨ (M.err = 0 ∧ R w')

set_option maxHeartbeats 400000 in
theorem operate_in (fid : FuncId) (caps : Array Value) {w : World} {S : Nat → Prop} {d mb : Nat} {M : AD} {f : Int → Option Value} {A : Int → Option Addr} {c : Int → Nat} (h : DiskIn w S d M mb f A c) (hops : M.ops < 4611686018427387904) (R : World → Prop)
    (hen : ∀ W : World, (callFunc fid caps).run Tryz.prog W = .ok (.enter fid caps) W)
    (hcl : ∀ W, DiskIn W S d M.met mb f A c → w.grownBy W (some d) → Calls Tryz.prog fid caps W fun e W' => e = .returned (.tuple #[]) ∧ R W') :
    Calls Tryz.prog 49 #[.pointer (some ⟨d, 0, none⟩), .func (.func fid) #[] caps] w fun e w' => e = .returned (.int .i64 M.err) ∧ DoneBy M S d mb f A c w R w' := by
  obtain ⟨er, her⟩ : ∃ er, er = M.err := ⟨_, rfl⟩
  have HC := Lib.hid hcl
  have HE := Lib.hid her
  have HD := Lib.hid h
  rw [← her]
  clear hcl her h
  by_cases hz : er = 0
  · subst hz
    go_enter Tryz.func49, Tryz.ntmps49
    go_wp2_with (go_at_call 45; refine (meet_any HD.out hops).mono ?_; rw [← HE.out]; rintro e W ⟨rfl, hd1, hg1⟩; have HD1 := Lib.hid hd1; have HG1 := Lib.hid hg1; clear hd1 hg1)
    refine (HC.out _ HD1.out HG1.out).mono ?_
    rintro e W' ⟨rfl, hR⟩
    have HR := Lib.hid hR
    clear hR
    go_wp2
    go_ret
    exact ⟨rfl, .inr ⟨HE.out.symm, HR.out⟩⟩
  · have HZ := Lib.hid hz
    have hz1 : (er == 0) = false := by simp [hz]
    have hz2 : (er != 0) = true := by simp [hz]
    go_enter Tryz.func49, Tryz.ntmps49
    go_wp2_with (go_at_call 45; refine (meet_any HD.out hops).mono ?_; rw [← HE.out]; rintro e W ⟨rfl, hd1, hg1⟩; have HD1 := Lib.hid hd1; have HG1 := Lib.hid hg1; clear hd1 hg1)
    go_ret
    exact ⟨rfl, .inl ⟨by rw [← HE.out]; exact HZ.out, HD1.out, HG1.out⟩⟩

end Go.Proofs.YtienabfilnpieaaGreat
