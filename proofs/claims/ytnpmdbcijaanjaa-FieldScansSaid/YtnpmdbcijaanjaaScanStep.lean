/-
  A scan of package field and one of quiverref01, asked the same, tell the same and stay side by side.
-/
import Derived.Test.YtnpmdbcijaanjaaRefInt
import Derived.Test.YtnpmdbcijaanjaaFieldAsk
namespace Go.Proofs.Ytnpmdbcijaanjaa
open Go.RowKit
set_option linter.unusedVariables false

theorem val_cons' (x : Int) (t : List Int) : val (x :: t) = x * 256 ^ t.length + val t := by
  have := val_append [x] t
  simpa [val] using this

theorem int_same {D : List Int} (m : Nat) (h1 : 1 ≤ m) (h8 : m ≤ 8) (hl : D.length = m) (ho : Oct D) : intOfNum m (val D) = vali D := by
  rcases D with _ | ⟨d, t⟩
  · simp at hl; omega
  · have hd := ho d (by simp)
    have ot : Oct t := fun z hz => ho z (by simp [hz])
    have ht0 := val_nonneg ot
    have ht1 := val_lt ot
    have htl : t.length = m - 1 := by simp at hl; omega
    have hs : sizeB (m : Int) = true := by unfold sizeB; simp; omega
    rw [vali_val (by simp), val_cons', hl]
    rw [htl] at ht1 ⊢
    show intOfNum m _ = if d < 128 then _ else _
    unfold intOfNum sgn
    rw [hs, show ((m : Int)).toNat = m by omega]
    generalize val t = T at *
    rcases sizes h1 h8 with rfl | rfl | rfl | rfl | rfl | rfl | rfl | rfl <;> simp at ht1 ⊢ <;> split <;> (try split) <;> (try split) <;> omega

theorem intOfNum_zero (n : Int) : intOfNum n 0 = 0 := by
  unfold intOfNum
  rw [if_neg]
  · rfl
  · rintro ⟨hs, h8, hle⟩
    have := size_yes hs
    obtain ⟨m, rfl⟩ := Int.eq_ofNat_of_zero_le (show 0 ≤ n by omega)
    rw [show ((m : Int)).toNat = m by omega] at hle
    rcases sizes (show 1 ≤ m by omega) (show m ≤ 8 by omega) with rfl | rfl | rfl | rfl | rfl | rfl | rfl | rfl <;> simp at hle <;> omega

/-- The program's answer, and where its scan stands then. -/
def Told (W : World) (g : Nat) (R : List Int) (p : Int) (bd : Bool) (v : Value) (e : Ending) (w' : World) : Prop :=
  e = .returned v ∧ (∃ As cs, Sc w' g As cs R p bd) ∧ Only g W w'
def ToldB (W : World) (g : Nat) (R : List Int) (p : Int) (bd : Bool) (D : List Int) (e : Ending) (w' : World) : Prop :=
  ∃ A' c', e = .returned (.slice A' D.length c') ∧ Sl w' A' c' D ∧ (∃ As cs, Sc w' g As cs R p bd) ∧ Only g W w'

theorem drop_drop' (bs : List Int) (p m : Nat) : (bs.drop p).drop m = bs.drop (p + m) := by rw [List.drop_drop]

theorem num_step (A : Option Addr) (c g p : Nat) (bs : List Int) (bd : Bool) (N : Int) (ho : Oct bs) (hp : p ≤ bs.length) (hl : bs.length ≤ 5000) :
    ∃ (p' : Nat) (bd' : Bool) (V : Int), p' ≤ bs.length ∧
      (∀ W, Sl W A c bs → Calls Try.prog 21 #[scanV A bs.length c p bd, .int .i64 N] W (RTells W A bs.length c p' bd' (.int .u64 V))) ∧
      (∀ W As cs, Sc W g As cs (bs.drop p) p bd → Calls Try.prog 22 #[.pointer (some ⟨g, 0, none⟩), .int .i64 N] W (Told W g (bs.drop p') p' bd' (.int .u64 V))) := by
  have hdl : (bs.drop p).length = bs.length - p := by simp
  by_cases h : bd = false ∧ sizeB N = true ∧ N ≤ (bs.length : Int) - p
  · obtain ⟨rfl, hs, hN⟩ := h
    obtain ⟨m, rfl, h1, h8⟩ := size_nat hs
    have hlen : ((bs.drop p).take m).length = m := by simp; omega
    refine ⟨p + m, false, val ((bs.drop p).take m), by omega, fun W hW => ?_, fun W As cs hW => ?_⟩
    · have k := rNum_of A bs.length c p ((p : Int) + m) m m false false ((bs.drop p).take m) W (by rw [hs]; rfl) (by omega) ((ho.drop p).take m) (fun W' hb => rBytes_some A c p m bs W' (hW.below hb) (by omega) (by omega))
      rw [show ((p + m : Nat) : Int) = (p : Int) + m by omega]
      exact k
    · refine (num_yes W g As cs (bs.drop p) p m hW h1 h8 (by omega)).mono ?_
      rintro e w' ⟨rfl, ⟨A', c', hs'⟩, ho'⟩
      rw [drop_drop'] at hs'
      exact ⟨rfl, ⟨A', c', by rw [show ((p + m : Nat) : Int) = (p : Int) + m by omega]; exact hs'⟩, ho'⟩
  · have hno : bd = true ∨ sizeB N = false ∨ (bs.length : Int) - p < N := by
      rcases bd with _ | _
      · rcases hs : sizeB N with _ | _
        · exact .inr (.inl rfl)
        · exact .inr (.inr (by have := h; simp [hs] at this; omega))
      · exact .inl rfl
    refine ⟨p, true, 0, hp, fun W hW => ?_, fun W As cs hW => ?_⟩
    · have k := rNum_of A bs.length c p p N (if sizeB N then N else -1) bd true [] W rfl (by simp) (by simp [Oct]) (fun W' hb => rBytes_none A bs.length c p bd _ W' hp (by omega) (by
        rcases hno with h' | h' | h'
        · exact .inl h'
        · exact .inr (.inl (by rw [h']; simp))
        · rcases hs : sizeB N with _ | _
          · exact .inr (.inl (by simp))
          · exact .inr (.inr (by simpa using h'))))
      exact k
    · rcases bd with _ | _
      · refine (num_no W g As cs (bs.drop p) p N hW (by
          rcases hno with h' | h' | h'
          · cases h'
          · exact .inl h'
          · exact .inr (by omega))).mono ?_
        rintro e w' ⟨rfl, hs', ho'⟩
        exact ⟨rfl, ⟨As, cs, hs'⟩, ho'⟩
      · refine (num_bad W g As cs (bs.drop p) p N hW).mono ?_
        rintro e w' ⟨rfl, hs', ho'⟩
        exact ⟨rfl, ⟨As, cs, hs'⟩, ho'⟩

theorem int_step (A : Option Addr) (c g p : Nat) (bs : List Int) (bd : Bool) (N : Int) (ho : Oct bs) (hp : p ≤ bs.length) (hl : bs.length ≤ 5000) :
    ∃ (p' : Nat) (bd' : Bool) (V : Int), p' ≤ bs.length ∧
      (∀ W, Sl W A c bs → Calls Try.prog 23 #[scanV A bs.length c p bd, .int .i64 N] W (RTells W A bs.length c p' bd' (.int .i64 V))) ∧
      (∀ W As cs, Sc W g As cs (bs.drop p) p bd → Calls Try.prog 24 #[.pointer (some ⟨g, 0, none⟩), .int .i64 N] W (Told W g (bs.drop p') p' bd' (.int .i64 V))) := by
  have hdl : (bs.drop p).length = bs.length - p := by simp
  by_cases h : bd = false ∧ sizeB N = true ∧ N ≤ (bs.length : Int) - p
  · obtain ⟨rfl, hs, hN⟩ := h
    obtain ⟨m, rfl, h1, h8⟩ := size_nat hs
    have hlen : ((bs.drop p).take m).length = m := by simp; omega
    have oD : Oct ((bs.drop p).take m) := (ho.drop p).take m
    refine ⟨p + m, false, vali ((bs.drop p).take m), by omega, fun W hW => ?_, fun W As cs hW => ?_⟩
    · have k := rInt_of A bs.length c p ((p : Int) + m) m (val ((bs.drop p).take m)) false false W (val_nonneg oD) (val_u64 oD (by omega)) (fun h => val_seven oD (by omega))
        (fun W' hb => rNum_of A bs.length c p ((p : Int) + m) m m false false ((bs.drop p).take m) W' (by rw [hs]; rfl) (by omega) oD (fun W'' hb' => rBytes_some A c p m bs W'' ((hW.below hb).below hb') (by omega) (by omega)))
      rw [int_same m h1 h8 hlen oD] at k
      rw [show ((p + m : Nat) : Int) = (p : Int) + m by omega]
      exact k
    · refine (int_yes W g As cs (bs.drop p) p m hW h1 h8 (by omega)).mono ?_
      rintro e w' ⟨rfl, ⟨A', c', hs'⟩, ho'⟩
      rw [drop_drop'] at hs'
      exact ⟨rfl, ⟨A', c', by rw [show ((p + m : Nat) : Int) = (p : Int) + m by omega]; exact hs'⟩, ho'⟩
  · have hno : bd = true ∨ sizeB N = false ∨ (bs.length : Int) - p < N := by
      rcases bd with _ | _
      · rcases hs : sizeB N with _ | _
        · exact .inr (.inl rfl)
        · exact .inr (.inr (by have := h; simp [hs] at this; omega))
      · exact .inl rfl
    refine ⟨p, true, 0, hp, fun W hW => ?_, fun W As cs hW => ?_⟩
    · have k := rInt_of A bs.length c p p N 0 bd true W (by omega) (by omega) (fun _ => by omega) (fun W' hb => rNum_of A bs.length c p p N (if sizeB N then N else -1) bd true [] W' rfl (by simp) (by simp [Oct]) (fun W'' hb' => rBytes_none A bs.length c p bd _ W'' hp (by omega) (by
        rcases hno with h' | h' | h'
        · exact .inl h'
        · exact .inr (.inl (by rw [h']; simp))
        · rcases hs : sizeB N with _ | _
          · exact .inr (.inl (by simp))
          · exact .inr (.inr (by simpa using h')))))
      rw [intOfNum_zero] at k
      exact k
    · rcases bd with _ | _
      · refine (int_no W g As cs (bs.drop p) p N hW (by
          rcases hno with h' | h' | h'
          · cases h'
          · exact .inl h'
          · exact .inr (by omega))).mono ?_
        rintro e w' ⟨rfl, hs', ho'⟩
        exact ⟨rfl, ⟨As, cs, hs'⟩, ho'⟩
      · refine (int_bad W g As cs (bs.drop p) p N hW).mono ?_
        rintro e w' ⟨rfl, hs', ho'⟩
        exact ⟨rfl, ⟨As, cs, hs'⟩, ho'⟩

theorem bytes_step (A : Option Addr) (c g p : Nat) (bs : List Int) (bd : Bool) (N : Int) (ho : Oct bs) (hp : p ≤ bs.length) (hl : bs.length ≤ 5000) :
    ∃ (p' : Nat) (bd' : Bool) (D : List Int), p' ≤ bs.length ∧
      (∀ W, Sl W A c bs → Calls Try.prog 25 #[scanV A bs.length c p bd, .int .i64 N] W (RGives W A bs.length c p' bd' D)) ∧
      (∀ W As cs, Sc W g As cs (bs.drop p) p bd → Calls Try.prog 26 #[.pointer (some ⟨g, 0, none⟩), .int .i64 N] W (ToldB W g (bs.drop p') p' bd' D)) := by
  have hdl : (bs.drop p).length = bs.length - p := by simp
  by_cases h : bd = false ∧ 0 ≤ N ∧ N ≤ (bs.length : Int) - p
  · obtain ⟨rfl, h0, hN⟩ := h
    obtain ⟨m, rfl⟩ := Int.eq_ofNat_of_zero_le h0
    have hlen : ((bs.drop p).take m).length = m := by simp; omega
    refine ⟨p + m, false, (bs.drop p).take m, by omega, fun W hW => ?_, fun W As cs hW => ?_⟩
    · have k := rBytes_some A c p m bs W hW (by omega) (by omega)
      rw [show ((p + m : Nat) : Int) = (p : Int) + m by omega]
      exact k
    · refine (bytes_yes W g As cs (bs.drop p) p m hW (by omega)).mono ?_
      rintro e w' ⟨A', c', rfl, hnew, ⟨A'', c'', hs'⟩, ho'⟩
      rw [drop_drop'] at hs'
      exact ⟨A', c', by rw [hlen], hnew.sl, ⟨A'', c'', by rw [show ((p + m : Nat) : Int) = (p : Int) + m by omega]; exact hs'⟩, ho'⟩
  · have hno : bd = true ∨ N < 0 ∨ (bs.length : Int) - p < N := by
      rcases bd with _ | _
      · exact .inr (by have := h; simp at this; omega)
      · exact .inl rfl
    refine ⟨p, true, [], hp, fun W hW => rBytes_none A bs.length c p bd N W hp (by omega) hno, fun W As cs hW => ?_⟩
    rcases bd with _ | _
    · refine (bytes_no W g As cs (bs.drop p) p N hW (by
        rcases hno with h' | h' | h'
        · cases h'
        · exact .inl h'
        · exact .inr (by omega))).mono ?_
      rintro e w' ⟨rfl, hs', ho'⟩
      exact ⟨none, 0, rfl, ⟨by simp, by omega, Rd.empty⟩, ⟨As, cs, hs'⟩, ho'⟩
    · refine (bytes_bad W g As cs (bs.drop p) p N hW).mono ?_
      rintro e w' ⟨rfl, hs', ho'⟩
      exact ⟨none, 0, rfl, ⟨by simp, by omega, Rd.empty⟩, ⟨As, cs, hs'⟩, ho'⟩

end Go.Proofs.Ytnpmdbcijaanjaa
