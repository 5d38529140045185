/-
  A scan as a value; what Num, Int and the reader's vec make of it.
-/
import Derived.Test.YthbpnngfdpdjkaaCodSame
import Derived.Test.YthbpnngfdpdjkaaCodBytes
import Derived.OwnWalk
namespace Go.Proofs.Ythbpnngfdpdjkaa
open Go.RowKit Go.Shelf
set_option linter.unusedVariables false
set_option linter.unusedSimpArgs false
set_option maxRecDepth 100000

/-- What is left of a scan, its place, and whether it is bad. -/
abbrev St := List Int × Int × Bool
/-- Block g is a scan; its bytes lie below B. -/
def Sst (w : World) (g B : Nat) (s : St) : Prop := ∃ A c, Sc w g A c s.1 s.2.1 s.2.2 ∧ ∀ a, A = some a → a.block < B
def okS (m : Nat) (s : St) : Bool := !s.2.2 && decide (m ≤ s.1.length)
def numV (m : Nat) (s : St) : Int := if okS m s = true then val (s.1.take m) else 0
def intV (m : Nat) (s : St) : Int := if okS m s = true then vali (s.1.take m) else 0
def stepS (m : Nat) (s : St) : St := if okS m s = true then (s.1.drop m, s.2.1 + m, false) else (s.1, s.2.1, true)

section
variable {w w' : World} {g B : Nat} {s : St}
theorem Sst.below (h : Sst w g B s) (hb : Below w.heap.size w w') : Sst w' g B s := by obtain ⟨A, c, h, h2⟩ := h; exact ⟨A, c, h.below hb, h2⟩
theorem Sst.lt (h : Sst w g B s) : g < w.heap.size := by obtain ⟨A, c, h, h2⟩ := h; exact h.lt
theorem Sst.oct (h : Sst w g B s) : Oct s.1 := by obtain ⟨A, c, h, h2⟩ := h; exact h.oct
theorem Sst.drewN (h : Sst w g B s) (q : Nat) : Sst (w.drewN q) g B s := by obtain ⟨A, c, h, h2⟩ := h; exact ⟨A, c, h.drewN q, h2⟩
theorem Sst.drew (h : Sst w g B s) : Sst w.drew g B s := by obtain ⟨A, c, h, h2⟩ := h; exact ⟨A, c, h.drew, h2⟩
theorem Sst.bad (h : Sst w g B s) : w.cell? ⟨g, 2, none⟩ = some (.bool s.2.2) := by obtain ⟨A, c, h, h2⟩ := h; exact h.c2
theorem Sst.place (h : Sst w g B s) : w.cell? ⟨g, 1, none⟩ = some (.int .i64 s.2.1) := by obtain ⟨A, c, h, h2⟩ := h; exact h.c1
/-- Another block has turned, not that of the bytes. -/
theorem Sst.far {x : Nat} (h : Sst w g B s) (ho : Only x w w') (hx : B ≤ x) (hne : g ≠ x) : Sst w' g B s := by
  obtain ⟨A, c, h, h2⟩ := h
  refine ⟨A, c, ⟨(ho.block g h.lt (by simpa using hne)).trans h.blk, ⟨h.sl.room, h.sl.most, fun hp => ?_⟩, h.oct, h.lo, h.hi⟩, h2⟩
  obtain ⟨b, o, rfl, hb, hc⟩ := h.sl.rd hp
  have := h2 _ rfl
  dsimp only at this
  exact ⟨b, o, rfl, Nat.lt_of_lt_of_le hb ho.size, fun j hj => (World.cell?_of_block (a := ⟨b, o + j, none⟩) (w := w) (ho.block b hb (by simp; omega))).trans (hc j hj)⟩
theorem Sst.grown {ob : Option Nat} (h : Sst w g B s) (k : w.grownBy w' ob) (hx : ∀ b, ob = some b → g ≠ b ∧ B ≤ b) : Sst w' g B s := by
  cases ob with
  | none => exact h.below ⟨k.os, k.tape, k.output, k.size, fun i hi => k.block i hi (by simp)⟩
  | some b => exact h.far k (hx b rfl).2 (hx b rfl).1
theorem behind_below {A : Option Addr} {c n : Nat} (h : ∀ a, A = some a → a.block < B) : ∀ a, behind A c n = some a → a.block < B := by
  intro a ha
  unfold behind at ha
  split at ha
  · exact h a ha
  · cases A with
    | none => cases ha
    | some a0 =>
      have e : a0.add n = a := by simpa using ha
      have := h a0 rfl
      rw [← e]
      unfold Addr.add
      split <;> exact this
end

theorem num_gen (w : World) (g B m : Nat) (s : St) (h : Sst w g B s) (h1 : 1 ≤ m) (h8 : m ≤ 8) :
    Calls Try.prog 47 #[.pointer (some ⟨g, 0, none⟩), .int .i64 m] w fun e w' => e = .returned (.int .u64 (numV m s)) ∧ Sst w' g B (stepS m s) ∧ Only g w w' := by
  obtain ⟨bs, pl, bd⟩ := s
  obtain ⟨A, c, h, hA⟩ := h
  dsimp only at h
  unfold numV stepS okS
  cases bd with
  | true => exact (num_bad w g A c bs pl m h).mono fun e w' ⟨h1, h2, h3⟩ => ⟨by simpa using h1, ⟨A, c, by simpa using h2, hA⟩, h3⟩
  | false =>
    by_cases hm : m ≤ bs.length
    · refine (num_yes w g A c bs pl m h h1 h8 hm).mono fun e w' ⟨k1, k2, k3⟩ => ⟨by simpa [hm] using k1, ⟨_, _, by simpa [hm] using k2, behind_below hA⟩, k3⟩
    · refine (num_no w g A c bs pl m h (.inr (by omega))).mono fun e w' ⟨k1, k2, k3⟩ => ⟨by simpa [hm] using k1, ⟨A, c, by simpa [hm] using k2, hA⟩, k3⟩
theorem int_gen (w : World) (g B m : Nat) (s : St) (h : Sst w g B s) (h1 : 1 ≤ m) (h8 : m ≤ 8) :
    Calls Try.prog 58 #[.pointer (some ⟨g, 0, none⟩), .int .i64 m] w fun e w' => e = .returned (.int .i64 (intV m s)) ∧ Sst w' g B (stepS m s) ∧ Only g w w' := by
  obtain ⟨bs, pl, bd⟩ := s
  obtain ⟨A, c, h, hA⟩ := h
  dsimp only at h
  unfold intV stepS okS
  cases bd with
  | true => exact (int_bad w g A c bs pl m h).mono fun e w' ⟨h1, h2, h3⟩ => ⟨by simpa using h1, ⟨A, c, by simpa using h2, hA⟩, h3⟩
  | false =>
    by_cases hm : m ≤ bs.length
    · refine (int_yes w g A c bs pl m h h1 h8 hm).mono fun e w' ⟨k1, k2, k3⟩ => ⟨by simpa [hm] using k1, ⟨_, _, by simpa [hm] using k2, behind_below hA⟩, k3⟩
    · refine (int_no w g A c bs pl m h (.inr (by omega))).mono fun e w' ⟨k1, k2, k3⟩ => ⟨by simpa [hm] using k1, ⟨A, c, by simpa [hm] using k2, hA⟩, k3⟩

/-- So many components taken off. -/
def intsS : Nat → St → List Int × St
  | 0, s => ([], s)
  | k + 1, s => ((intsS k s).1 ++ [intV 4 (intsS k s).2], stepS 4 (intsS k s).2)
/-- A vector taken off. -/
def vecS (s : St) : List Int × St := if 4 < numV 1 s then ([], stepS 1 s) else intsS (numV 1 s).toNat (stepS 1 s)

theorem step_oct {s : St} (h : Oct s.1) (m : Nat) : Oct (stepS m s).1 := by
  unfold stepS
  split
  · exact h.drop m
  · exact h
theorem ints_oct {s : St} (h : Oct s.1) (k : Nat) : Oct (intsS k s).2.1 := by
  induction k with
  | zero => exact h
  | succ k ih => exact step_oct ih 4
theorem ints_len (s : St) (k : Nat) : (intsS k s).1.length = k := by
  induction k with
  | zero => rfl
  | succ k ih => simp [intsS, ih]
theorem num1_lt {s : St} (h : Oct s.1) : 0 ≤ numV 1 s ∧ numV 1 s < 256 := by
  unfold numV
  split
  · have h1 := val_lt (h.take 1)
    have h2 := val_nonneg (h.take 1)
    have h3 : (256 : Int) ^ (s.1.take 1).length ≤ 256 ^ 1 := by
      have h := Nat.pow_le_pow_right (n := 256) (by omega) (show (s.1.take 1).length ≤ 1 by simp; omega)
      rw [show (256 : Int) = ((256 : Nat) : Int) from rfl, ← Int.natCast_pow, ← Int.natCast_pow]
      exact Int.ofNat_le.2 h
    omega
  · omega
theorem numV_u64 {m : Nat} {s : St} (h : Oct s.1) (h8 : m ≤ 8) : 0 ≤ numV m s ∧ numV m s < 18446744073709551616 := by
  unfold numV
  split
  · exact ⟨val_nonneg (h.take m), val_u64 (h.take m) (by simp; omega)⟩
  · omega
theorem vali4 {l : List Int} (h : Oct l) (h4 : l.length = 4) : -2147483648 ≤ vali l ∧ vali l < 2147483648 := by
  have := vali_bd h (by omega)
  rw [h4] at this
  simpa using this
theorem int4_in {s : St} (h : Oct s.1) : -2147483648 ≤ intV 4 s ∧ intV 4 s < 2147483648 := by
  unfold intV okS
  split
  · rename_i hc
    simp at hc
    exact vali4 (h.take 4) (by simp; omega)
  · omega
theorem i32_wf {x : Int} (h : -2147483648 ≤ x ∧ x < 2147483648) : (Lit.int .i32 x).wf = true := by
  simp [Lit.wf, IntKind.min, IntKind.max, IntKind.signed, IntKind.bits]; omega
theorem u64_wf {x : Int} (h : 0 ≤ x ∧ x < 18446744073709551616) : (Lit.int .u64 x).wf = true := by
  simp [Lit.wf, IntKind.min, IntKind.max, IntKind.signed, IntKind.bits]; omega
theorem ints_fit {s : St} (h : Oct s.1) (k : Nat) : ∀ x ∈ (intsS k s).1, (Lit.int .i32 x).wf = true := by
  induction k with
  | zero => intro x hx; simp [intsS] at hx
  | succ k ih =>
    intro x hx
    simp only [intsS, List.mem_append, List.mem_singleton] at hx
    rcases hx with hx | rfl
    · exact ih x hx
    · exact i32_wf (int4_in (ints_oct h k))

theorem own_only {w w' : World} {base g : Nat} {e : TypeId} {v : Value} {n : Nat} {xs : List Value} (h : w.ownsRow base e 1 v n xs) (ho : Only g w w') (hg : g < base) : w'.ownsRow base e 1 v n xs := by
  obtain ⟨h1, h2⟩ := h
  refine ⟨h1, ?_⟩
  rcases h2 with h2 | ⟨b, cap, cur, hv, hb, hh, r⟩
  · exact .inl h2
  · exact .inr ⟨b, cap, cur, hv, hb, (ho.block b (lt_of_block hh) (by simp; omega)).trans hh, r⟩
/-- A vector is told, and the scan stands where it says. -/
def GivesV (w : World) (g B : Nat) (r : List Int × St) (e : Ending) (w' : World) : Prop := ∃ A c, e = .returned (.slice A r.1.length c) ∧ Vec .i32 w' A c r.1 ∧ Sst w' g B r.2 ∧ Only g w w'

theorem info21 : (Try.prog.info? 21).map (fun i => (i.zero, i.size, i.bytes)) = some (some (.int .i32 0), 1, 4) := by kernel_rfl

theorem Only.grown {a w w' : World} {g : Nat} {ob : Option Nat} (h : Only g a w) (k : w.grownBy w' ob) (hx : ∀ b, ob = some b → a.heap.size ≤ b) : Only g a w' := by
  refine ⟨k.os.trans h.os, k.tape.trans h.tape, k.output.trans h.output, Nat.le_trans h.size k.size, fun i hi hne => ?_⟩
  rw [k.block i (Nat.lt_of_lt_of_le hi h.size) (fun e => by have := hx i e.symm; omega)]
  exact h.block i hi hne

set_option maxHeartbeats 2000000 in
theorem rvec_any (w : World) (g B : Nat) (s : St) (h : Sst w g B s) (hB : B ≤ w.heap.size) :
    Calls Try.prog 43 #[.agg #[.pointer (some ⟨g, 0, none⟩)]] w (GivesV w g B (vecS s)) := by
  obtain ⟨i0, hi, hz0, hz1, hz2⟩ := info_parts info21
  obtain ⟨W, hW⟩ : ∃ W, W = w.alloc (.cells #[.pointer (some ⟨g, 0, none⟩)] 68) := ⟨_, rfl⟩
  have hb : Below w.heap.size w W := by rw [hW]; exact (Below.refl _ w).alloc (Nat.le_refl _) _
  have hsz : W.heap.size = w.heap.size + 1 := by rw [hW]; simp
  have hbox : W.cell? ⟨w.heap.size, 0, none⟩ = some (.pointer (some ⟨g, 0, none⟩)) := by rw [hW]; exact cell_laid _ _ _ 0
  have hlt := h.lt
  have HN := Lib.hid (num_gen W g B 1 s (h.below hb) (by omega) (by omega))
  have HW := Lib.hid hW
  have HO := Lib.hid h.oct
  have HL := Lib.hid hlt
  have HZ := Lib.hid hsz
  have HBX := Lib.hid hbox
  have HOW := Lib.hid ((Only.refl g w).below hb)
  have HBB := Lib.hid hB
  obtain ⟨hn0, hn1⟩ := num1_lt h.oct
  have HR := Lib.hid (show vecS s = if 4 < numV 1 s then ([], stepS 1 s) else intsS (numV 1 s).toNat (stepS 1 s) from rfl)
  have HO1 := Lib.hid (step_oct h.oct 1)
  generalize vecS s = R at *
  generalize numV 1 s = n at *
  generalize stepS 1 s = s1 at *
  obtain ⟨k, rfl⟩ : ∃ k : Nat, n = k := ⟨n.toNat, by omega⟩
  rw [Int.toNat_natCast] at HR
  have hk : k < 256 := by omega
  rw [hW] at HN
  clear h hb hsz hbox hW hn0 hn1 hlt hB
  by_cases h4 : 4 < k
  · have HR2 := Lib.hid (show R = ([], s1) by rw [HR.out, if_pos (by omega)])
    clear HR
    go_enter Try.func43, Try.ntmps43
    go_wp2_with fail
    refine HN.out.mono ?_
    rw [← HW.out]
    rintro e w1 ⟨rfl, hs1, ho1⟩
    have HS1 := Lib.hid hs1
    have HO2 := Lib.hid (HOW.out.trans ho1)
    clear hs1 ho1
    go_wp2
    go_ret
    rw [HR2.out]
    exact ⟨none, 0, rfl, Vec.nil _ _, HS1.out, HO2.out⟩
  · have HR2 := Lib.hid (show R = intsS k s1 by rw [HR.out, if_neg (by omega)])
    clear HR
    go_enter Try.func43, Try.ntmps43
    go_wp2_with fail
    refine HN.out.mono ?_
    rw [← HW.out]
    rintro e w1 ⟨rfl, hs1, ho1⟩
    have HS1 := Lib.hid hs1
    have HO2 := Lib.hid (HOW.out.trans ho1)
    have hbl1 := ho1.block w.heap.size (by have := HZ.out; omega) (by have := HL.out; simp; omega)
    have hbx1 : w1.cell? ⟨w.heap.size, 0, none⟩ = some (.pointer (some ⟨g, 0, none⟩)) := (World.cell?_of_block (a := ⟨w.heap.size, 0, none⟩) (w := W) hbl1).trans HBX.out
    have HBX1 := Lib.hid hbx1
    have hzz1 := ho1.size
    rw [HZ.out] at hzz1
    have HZ1 := Lib.hid hzz1
    clear hs1 ho1 hbx1 hzz1 hbl1
    go_wp2
    go_loopw [4, 12] (fun v i wr => ∃ j : Nat, j ≤ k ∧ i = .int .i64 j ∧ Hid (wr.ownsRow (w.heap.size + 1) 21 1 v j ((intsS j s1).1.map (Value.int .i32))) ∧ Hid (Sst wr g B (intsS j s1).2) ∧ Hid (Only g w wr) ∧ Hid (wr.cell? ⟨w.heap.size, 0, none⟩ = some (.pointer (some ⟨g, 0, none⟩))) ∧ Hid (w.heap.size + 1 ≤ wr.heap.size)) (fun _ i _ => k - (intOf i).toNat)
    case atStart => exact ⟨0, Nat.zero_le _, rfl, Lib.hid (World.ownsRow_nil _ _ _ _), HS1, HO2, HBX1, HZ1⟩
    case round =>
      obtain ⟨j, hj, rfl, HV, HS, HOn, HBr, HZr⟩ := hrel
      have hcb := HBr.out
      by_cases hjk : j < k
      · obtain ⟨x, hx⟩ : ∃ x, x = intV 4 (intsS j s1).2 := ⟨_, rfl⟩
        have hin : -2147483648 ≤ x ∧ x < 2147483648 := by rw [hx]; exact int4_in (ints_oct HO1.out j)
        obtain ⟨hx1, hx2⟩ := hin
        have HI := Lib.hid (int_gen wr g B 4 (intsS j s1).2 HS.out (by omega) (by omega))
        rw [← hx] at HI
        have HE := Lib.hid (show (intsS (j + 1) s1).1.map (Value.int .i32) = (intsS j s1).1.map (Value.int .i32) ++ [.int .i32 x] by rw [hx]; simp [intsS])
        have HE2 := Lib.hid (show (intsS (j + 1) s1).2 = stepS 4 (intsS j s1).2 from rfl)
        clear hx
        go_wp2_with fail
        refine HI.out.mono ?_
        rintro e w2 ⟨rfl, hs2, ho2⟩
        have hne : (g : Nat) ≠ w.heap.size := by have := HL.out; omega
        have hbl2 := ho2.block w.heap.size (by have := HZr.out; omega) (by have := HL.out; simp; omega)
        have hcb2 : w2.cell? ⟨w.heap.size, 0, none⟩ = some (.pointer (some ⟨g, 0, none⟩)) := (World.cell?_of_block (a := ⟨w.heap.size, 0, none⟩) (w := wr) hbl2).trans HBr.out
        have HV2 := Lib.hid (own_only HV.out ho2 (by have := HL.out; omega))
        have HS2 := Lib.hid hs2
        have HO3 := Lib.hid (HOn.out.trans ho2)
        have hzz2 := Nat.le_trans HZr.out ho2.size
        have HZ2 := Lib.hid hzz2
        have HCB2 := Lib.hid hcb2
        clear hs2 ho2 hcb hne hzz2 hcb2 hbl2
        go_wp2_with (at_builtin; refine wpList_append_own _ rfl _ _ 23 rfl (w.heap.size + 1) 21 i0 (.int .i32 0) 1 4 Try.underlying23 hi hz0 hz1 hz2 rfl (by decide) _ _ _ rfl (HV2.out.alloc _) ⟨w2.heap.size, 0, none⟩ 1 1 [.int .i32 x] rfl rfl ?c1 ?c2 ?c3 ?c4 ?c5 ?_)
        case c1 => exact cell_one_new _ _ _
        case c2 => intro u hu; simp at hu; subst hu; rfl
        case c3 => unfold maxLen; omega
        case c4 => omega
        case c5 => have := HZ2.out; simp; omega
        · intro v' w3 hown' hgrow _
          have hbA : Below w2.heap.size w2 (w2.alloc (.cells #[.int .i32 x] 21)) := (Below.refl _ w2).alloc (Nat.le_refl _) _
          have hlo := fun b hb => (HV2.out.lt b hb).1
          have HV3 := Lib.hid hown'
          have HS3 := Lib.hid ((HS2.out.below hbA).grown hgrow (fun b hb => by have := hlo b hb; have := HL.out; have := HBB.out; omega))
          have HO4 := Lib.hid ((HO3.out.below hbA).grown hgrow (fun b hb => by have := hlo b hb; omega))
          have hz3 : w.heap.size + 1 ≤ w3.heap.size := by have := hgrow.size; have := HZ2.out; have := hbA.size; omega
          have hzA : w.heap.size < (w2.alloc (.cells #[.int .i32 x] 21)).heap.size := by have := HZ2.out; have := hbA.size; omega
          have hbl3 := hgrow.block w.heap.size hzA (fun e => by have := hlo w.heap.size e.symm; omega)
          have hcb3 : w3.cell? ⟨w.heap.size, 0, none⟩ = some (.pointer (some ⟨g, 0, none⟩)) := (World.cell?_of_block (a := ⟨w.heap.size, 0, none⟩) (w := w2.alloc (.cells #[.int .i32 x] 21)) hbl3).trans ((hbA.cell (p := ⟨w.heap.size, 0, none⟩) (by have := HZ2.out; simp; omega)).trans HCB2.out)
          have HZ3 := Lib.hid hz3
          have HCB3 := Lib.hid hcb3
          clear hown' hgrow hbA hlo hz3 hcb3 hzA hbl3
          go_wp2
          go_roundw
          case rel => exact ⟨j + 1, by omega, by go_num, Lib.hid (by rw [HE.out]; exact HV3.out), Lib.hid (by rw [HE2.out]; exact HS3.out), HO4, HCB3, HZ3⟩
          case measure => simp [intOf]; omega
      · obtain rfl : j = k := by omega
        obtain ⟨A, c, hvv, hvec⟩ := Vec.own (m := 0) (xs := (intsS j s1).1) (by rw [ints_len]; exact HV.out) (ints_fit HO1.out j)
        have HVV := Lib.hid hvv
        have HVC := Lib.hid hvec
        clear hvv hvec
        go_wp2
        go_ret
        rw [HR2.out]
        exact ⟨A, c, by rw [← HVV.out]; rfl, HVC.out, HS.out, HOn.out⟩

end Go.Proofs.Ythbpnngfdpdjkaa
