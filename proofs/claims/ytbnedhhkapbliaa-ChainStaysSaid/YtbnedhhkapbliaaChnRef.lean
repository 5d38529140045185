/-
  The document's Last, open, time, At.
-/
import Derived.Test.YtbnedhhkapbliaaChnCheck
namespace Go.Proofs.Ytbnedhhkapbliaa
open Go.RowKit Go.Shelf
set_option linter.unusedVariables false
set_option linter.unusedSimpArgs false
set_option maxRecDepth 100000

theorem rLast_take {l : List Vr} {k : Nat} {v : Vr} (h : l[k]? = some v) : rLast (l.take (k + 1)) = max (max (rLast (l.take k)) v.b) v.f := by
  rw [List.take_add_one, h]; exact rLast_snoc _ _

set_option maxHeartbeats 1000000 in
theorem rLast_any (A : Option Addr) (c : Nat) (q : List Pl) (w : World) (h : Chn w A c q) :
    Calls Try.prog 18 #[.slice A q.length c] w fun e w' => e = .returned (.int .u64 (rLast (vals q))) ∧ Below w.heap.size w w' := by
  obtain ⟨n, hn⟩ : ∃ n, n = q.length := ⟨_, rfl⟩
  have hmn : n ≤ 9223372036854775807 := by rw [hn]; exact h.many
  have HQ := Lib.hid h
  have HN := Lib.hid hn
  rw [← hn]
  clear h hn
  go_enter Try.func18, Try.ntmps18
  go_wp2
  go_loopw [3, 8] (fun s i wr => ∃ k : Nat, k ≤ n ∧ i = .int .i64 k ∧ s = .int .u64 (rLast ((vals q).take k)) ∧ Hid (Below w.heap.size w wr)) (fun _ i _ => n - (intOf i).toNat)
  case atStart => exact ⟨0, Nat.zero_le _, rfl, rfl, Lib.hid (Below.refl _ _)⟩
  case round =>
    obtain ⟨k, hk, rfl, rfl, HB⟩ := hrel
    by_cases hkn : k < n
    · obtain ⟨b, o, p, rfl, hp, hb, c0, c1, c2, hv, hf⟩ := (HQ.out.below HB.out).at_ (i := k) (by rw [← HN.out]; exact hkn)
      have HR := Lib.hid (rLast_take (vals_at hp))
      have HBX := Lib.hid (ver_alloc wr p.v.b p.v.f p.B p.v.x.length p.c)
      generalize rLast ((vals q).take k) = T at *
      generalize p.v.x.length = m at *
      generalize p.v.b = pb at *
      generalize p.v.f = pf at *
      have k0 : (0 : Int) ≤ k := by omega
      have kn : (k : Int) < n := by omega
      clear hv hp hf
      go_wp2
      go_roundw
      case rel => exact ⟨k + 1, by omega, by go_num, by rw [HR.out]; congr 1; (repeat' split) <;> omega, Lib.hid (HB.out.trans (HBX.out.mono HB.out.size))⟩
      case measure => simp [intOf]; omega
    · obtain rfl : k = n := by omega
      have HT := Lib.hid (show (vals q).take k = vals q by rw [HN.out, ← vals_length, List.take_length])
      go_wp2
      go_ret
      rw [HT.out]
      exact ⟨rfl, HB.out⟩

/-- The first one of which something holds. -/
theorem find_at {l : List Vr} {P : Vr → Bool} {k : Nat} {v : Vr} (h : l[k]? = some v) (hv : P v = true) (hn : ∀ (j : Nat) (u : Vr), j < k → l[j]? = some u → P u = false) : l.findIdx? P = some k := by
  have hk : k < l.length := (List.getElem?_eq_some_iff.1 h).1
  rw [List.findIdx?_eq_some_iff_getElem]
  have e : l[k] = v := by rw [List.getElem?_eq_getElem hk] at h; exact Option.some.inj h
  refine ⟨hk, by rw [e]; exact hv, fun j hj => ?_⟩
  have := hn j _ hj (List.getElem?_eq_getElem (by omega))
  simp [this]
theorem find_no {l : List Vr} {P : Vr → Bool} (hn : ∀ (j : Nat) (u : Vr), l[j]? = some u → P u = false) : l.findIdx? P = none := by
  rw [List.findIdx?_eq_none_iff]
  intro v hv
  obtain ⟨j, hj, rfl⟩ := List.getElem_of_mem hv
  exact hn j _ (List.getElem?_eq_getElem hj)
/-- Of none of the first k ones it holds. -/
def None_ (P : Vr → Bool) (l : List Vr) (k : Nat) : Prop := ∀ (j : Nat) (u : Vr), j < k → l[j]? = some u → P u = false
theorem None_.step {P : Vr → Bool} {l : List Vr} {k : Nat} {v : Vr} (h : None_ P l k) (hk : l[k]? = some v) (hv : P v = false) : None_ P l (k + 1) := by
  intro j u hj hu
  by_cases hjk : j < k
  · exact h j u hjk hu
  · have : j = k := by omega
    subst this
    rw [hk] at hu; cases hu; exact hv
theorem None_.all {P : Vr → Bool} {l : List Vr} (h : None_ P l l.length) : l.findIdx? P = none :=
  find_no (fun j u hu => h j u (List.getElem?_eq_some_iff.1 hu).1 hu)
def openK (o : Option Nat) : Int := match o with | some i => i | none => -1

set_option maxHeartbeats 1000000 in
theorem rOpen_any (A : Option Addr) (c : Nat) (q : List Pl) (w : World) (h : Chn w A c q) :
    Calls Try.prog 59 #[.slice A q.length c] w fun e w' => e = .returned (.int .i64 (openK (rOpen (vals q)))) ∧ Below w.heap.size w w' := by
  obtain ⟨n, hn⟩ : ∃ n, n = q.length := ⟨_, rfl⟩
  have hmn : n ≤ 9223372036854775807 := by rw [hn]; exact h.many
  have HQ := Lib.hid h
  have HN := Lib.hid hn
  have HR := Lib.hid (show openK (rOpen (vals q)) = openK ((vals q).findIdx? (fun v => decide (v.f = 0))) from rfl)
  generalize openK (rOpen (vals q)) = R at *
  rw [← hn]
  clear h hn
  go_enter Try.func59, Try.ntmps59
  go_wp2
  go_loopw [7] (fun i wr => ∃ k : Nat, k ≤ n ∧ i = .int .i64 k ∧ Hid (None_ (fun v => decide (v.f = 0)) (vals q) k) ∧ Hid (Below w.heap.size w wr)) (fun i _ => n - (intOf i).toNat)
  case atStart => exact ⟨0, Nat.zero_le _, rfl, Lib.hid (fun j u hj => by omega), Lib.hid (Below.refl _ _)⟩
  case round =>
    obtain ⟨k, hk, rfl, HK, HB⟩ := hrel
    by_cases hkn : k < n
    · obtain ⟨b, o, p, rfl, hp, hb, c0, c1, c2, hv, hf⟩ := (HQ.out.below HB.out).at_ (i := k) (by rw [← HN.out]; exact hkn)
      have HBX := Lib.hid (ver_alloc wr p.v.b p.v.f p.B p.v.x.length p.c)
      have HP := Lib.hid (vals_at hp)
      have k0 : (0 : Int) ≤ k := by omega
      have kn : (k : Int) < n := by omega
      clear hv hp hf
      by_cases h0 : p.v.f = 0
      · have HF := Lib.hid (show R = k by rw [HR.out, find_at HP.out (by simp [h0]) HK.out]; rfl)
        rw [h0] at c1
        have HBX2 := Lib.hid (ver_alloc wr p.v.b 0 p.B p.v.x.length p.c)
        clear h0
        go_wp2
        go_ret
        rw [HF.out]
        exact ⟨rfl, HB.out.trans (HBX2.out.mono HB.out.size)⟩
      · have HK2 := Lib.hid (HK.out.step HP.out (by simp [h0]))
        have t0 : (p.v.f == 0) = false := by simpa using h0
        go_wp2
        go_roundw
        case rel => exact ⟨k + 1, by omega, by go_num, HK2, Lib.hid (HB.out.trans (HBX.out.mono HB.out.size))⟩
        case measure => simp [intOf]; omega
    · obtain rfl : k = n := by omega
      have HT := Lib.hid (show R = -1 by rw [HR.out, None_.all (by rw [vals_length, ← HN.out]; exact HK.out)]; rfl)
      go_wp2
      go_ret
      rw [HT.out]
      exact ⟨rfl, HB.out⟩

set_option maxHeartbeats 1000000 in
theorem rAt_any (A : Option Addr) (c : Nat) (q : List Pl) (t : Int) (w : World) (h : Chn w A c q) :
    Calls Try.prog 21 #[.slice A q.length c, .int .u64 t] w fun e w' => e = .returned (.tuple #[.int .i64 (atK (atI (vals q) t)), .bool (atB (atI (vals q) t))]) ∧ Below w.heap.size w w' := by
  obtain ⟨n, hn⟩ : ∃ n, n = q.length := ⟨_, rfl⟩
  have hmn : n ≤ 9223372036854775807 := by rw [hn]; exact h.many
  have HQ := Lib.hid h
  have HN := Lib.hid hn
  have HR := Lib.hid (show atI (vals q) t = (vals q).findIdx? (visB · t) from rfl)
  generalize atI (vals q) t = R at *
  rw [← hn]
  clear h hn
  go_enter Try.func21, Try.ntmps21
  go_wp2
  go_loopw [10] (fun i wr => ∃ k : Nat, k ≤ n ∧ i = .int .i64 k ∧ Hid (None_ (visB · t) (vals q) k) ∧ Hid (Below w.heap.size w wr)) (fun i _ => n - (intOf i).toNat)
  case atStart => exact ⟨0, Nat.zero_le _, rfl, Lib.hid (fun j u hj => by omega), Lib.hid (Below.refl _ _)⟩
  case round =>
    obtain ⟨k, hk, rfl, HK, HB⟩ := hrel
    by_cases hkn : k < n
    · obtain ⟨b, o, p, rfl, hp, hb, c0, c1, c2, hv, hf⟩ := (HQ.out.below HB.out).at_ (i := k) (by rw [← HN.out]; exact hkn)
      have HBX := Lib.hid (ver_alloc wr p.v.b p.v.f p.B p.v.x.length p.c)
      have HP := Lib.hid (vals_at hp)
      have k0 : (0 : Int) ≤ k := by omega
      have kn : (k : Int) < n := by omega
      have HV := Lib.hid (fun W => visible_any p.v.b p.v.f p.B p.v.x.length p.c t W)
      have HE := Lib.hid (show visB p.v t = visF p.v.b p.v.f t from rfl)
      clear hv hp hf
      cases hvis : visF p.v.b p.v.f t with
      | true =>
        have HF := Lib.hid (show R = some k by rw [HR.out, find_at HP.out (by show visB p.v t = true; rw [HE.out, hvis]) HK.out])
        rw [hvis] at HV
        clear hvis
        go_wp2_with fail
        refine (HV.out _).mono ?_
        rintro e w1 ⟨rfl, hb1⟩
        have HB1 := Lib.hid (HB.out.trans ((HBX.out.trans (hb1.mono HBX.out.size)).mono HB.out.size))
        clear hb1
        go_wp2
        rw [HF.out]
        go_ret2
        exact ⟨rfl, HB1.out⟩
      | false =>
        have HK2 := Lib.hid (HK.out.step HP.out (by show visB p.v t = false; rw [HE.out, hvis]))
        rw [hvis] at HV
        clear hvis
        go_wp2_with fail
        refine (HV.out _).mono ?_
        rintro e w1 ⟨rfl, hb1⟩
        have HB1 := Lib.hid (HB.out.trans ((HBX.out.trans (hb1.mono HBX.out.size)).mono HB.out.size))
        clear hb1
        go_wp2
        go_roundw
        case rel => exact ⟨k + 1, by omega, by go_num, HK2, HB1⟩
        case measure => simp [intOf]; omega
    · obtain rfl : k = n := by omega
      have HT := Lib.hid (show R = none by rw [HR.out]; exact None_.all (by rw [vals_length, ← HN.out]; exact HK.out))
      go_wp2
      rw [HT.out]
      go_ret2
      exact ⟨rfl, HB.out⟩

set_option maxHeartbeats 1000000 in
theorem rTime_any (A : Option Addr) (c : Nat) (q : List Pl) (t : Int) (w : World) (h : Chn w A c q) :
    Calls Try.prog 58 #[.slice A q.length c, .int .u64 t] w fun e w' => e = .returned (.bool (decide (rLast (vals q) < t) && decide (t ≤ 1099511627776))) ∧ Below w.heap.size w w' := by
  have HL := Lib.hid (rLast_any A c q w h)
  generalize rLast (vals q) = L at *
  generalize q.length = n at *
  clear h
  by_cases h1 : L < t
  · have HR := Lib.hid (show (decide (L < t) && decide (t ≤ 1099511627776)) = decide (t ≤ 1099511627776) by simp [h1])
    generalize (decide (L < t) && decide (t ≤ 1099511627776)) = R at *
    go_enter Try.func58, Try.ntmps58
    go_wp2_with fail
    refine HL.out.mono ?_
    rintro e w1 ⟨rfl, hb1⟩
    have HB1 := Lib.hid hb1
    clear hb1
    go_wp2
    go_ret
    rw [HR.out]
    exact ⟨rfl, HB1.out⟩
  · have HR := Lib.hid (show (decide (L < t) && decide (t ≤ 1099511627776)) = false by simp [h1])
    have t1 : decide (L < t) = false := by simpa using h1
    generalize (decide (L < t) && decide (t ≤ 1099511627776)) = R at *
    go_enter Try.func58, Try.ntmps58
    go_wp2_with fail
    refine HL.out.mono ?_
    rintro e w1 ⟨rfl, hb1⟩
    have HB1 := Lib.hid hb1
    clear hb1
    go_wp2
    go_ret
    rw [HR.out]
    exact ⟨rfl, HB1.out⟩

end Go.Proofs.Ytbnedhhkapbliaa
