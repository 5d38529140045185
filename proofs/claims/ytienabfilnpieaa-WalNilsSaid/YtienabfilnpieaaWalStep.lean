/-
  Steps, one behind the other (inOrder); Contains; dropNew.
-/
import Derived.Test.YtienabfilnpieaaWalTold
import Derived.Test.YtienabfilnpieaaDiskEq
import Derived.WalkMore
namespace Go.Proofs.Ytienabfilnpieaa
open Go.RowKit
set_option linter.unusedVariables false
set_option maxRecDepth 100000

theorem indexI_yes (A : Option Addr) (c : Nat) (xs : List Int) (y : Int) (w : World) (h : RdI w A xs) (hs : xs.length ≤ 1000000) (hc : xs.length ≤ c) (hy : y ∈ xs) :
    Calls Try.prog 85 #[.slice A xs.length c, .int .i64 y] w fun e w' => (∃ k : Nat, k < xs.length ∧ e = .returned (.int .i64 k)) ∧ w = w' := by
  have h0 : 0 < xs.length := List.length_pos_of_mem hy
  obtain ⟨b, o, rfl, h1⟩ := h h0
  obtain ⟨m, hm, hme⟩ := List.getElem_of_mem hy
  have hmd : xs.getD m 0 = y := by simp [List.getD, List.getElem?_eq_getElem hm, hme]
  obtain ⟨n, hn⟩ : ∃ n, n = xs.length := ⟨_, rfl⟩
  rw [← hn] at h1 hs hc hm ⊢
  have H1 := Lib.hid h1
  have HM := Lib.hid hmd
  clear h h1 hn h0 hy hme hmd
  go_enter Try.func85, Try.ntmps85
  go_wp2
  go_loopw [8] (fun i wr => ∃ k : Nat, i = .int .i64 k ∧ k ≤ m ∧ wr = w) (fun i _ => n - (match i with | .int _ k => k.toNat | _ => 0))
  case atStart => exact ⟨0, rfl, Nat.zero_le _, rfl⟩
  case round =>
    obtain ⟨k, rfl, hk, rfl⟩ := hrel
    have hkn : k < n := by omega
    have hkk : (k : Int) < n := by omega
    have k0 : (0 : Int) ≤ (k : Int) := by omega
    have c1 := H1.out k hkn
    by_cases he : y = xs.getD k 0
    · have n2 : (y == xs.getD k 0) = true := by rw [beq_iff_eq]; exact he
      have n3 : decide (y = xs.getD k 0) = true := decide_eq_true he
      have HE := Lib.hid he
      clear he
      generalize xs.getD k 0 = x at *
      go_wp2
      go_ret
      exact ⟨⟨k, hkn, rfl⟩, rfl⟩
    · have hkm : k ≠ m := by rintro rfl; exact he HM.out.symm
      have n2 : (y == xs.getD k 0) = false := by simpa using he
      have n3 : decide (y = xs.getD k 0) = false := by simpa using he
      generalize xs.getD k 0 = x at *
      go_wp2
      go_roundw
      case rel => exact ⟨k + 1, by go_num, by omega, by trivial⟩
      case measure => simp; omega

theorem containsI_any (A : Option Addr) (c : Nat) (xs : List Int) (y : Int) (w : World) (h : RdI w A xs) (hs : xs.length ≤ 1000000) (hc : xs.length ≤ c) :
    Calls Try.prog 66 #[.slice A xs.length c, .int .i64 y] w fun e w' => e = .returned (.bool (decide (y ∈ xs))) ∧ w = w' := by
  by_cases hy : y ∈ xs
  · have HZ := Lib.hid (decide_eq_true hy)
    have HE := Lib.hid (indexI_yes A c xs y w h hs hc hy)
    generalize xs.length = n at *
    clear h hy
    go_enter Try.func66, Try.ntmps66
    go_wp2_with (go_at_call 85; refine HE.out.mono ?_; rintro e w' ⟨⟨k, hk, rfl⟩, rfl⟩)
    go_ret
    rw [HZ.out]
    refine ⟨?_, rfl⟩
    simp
  · rw [decide_eq_false hy]
    exact containsI_no A c xs y w h hs hc hy

/-- Is a file there? as a name is among those told. -/
theorem mem_names (M : AD) (k : Nat) (hk : k < 4) : ((k : Int) ∈ M.names) ↔ (M.files (k : Int)).isSome = true := by
  unfold AD.names AD.below
  rw [List.mem_filter]
  constructor
  · exact fun h => h.2
  · exact fun h => ⟨List.mem_map.2 ⟨k, List.mem_range.2 hk, rfl⟩, h⟩

def AD.dropC (M : AD) : Int := if (M.files 1).isSome then M.opC 1 [] else 0
def AD.dropM (M : AD) : AD := if (M.files 1).isSome then M.opM 1 [] (M.met.drop 1) else M

set_option maxHeartbeats 1000000 in
theorem dropNew_any {w : World} {S : Nat → Prop} {d : Nat} {M : AD} (h : DiskAt w S d M) (hops : M.ops < 4611686018427387904) :
    Calls Try.prog 37 #[.pointer (some ⟨d, 0, none⟩)] w fun e w' => e = .returned (.int .i64 M.dropC) ∧ After S d w M.dropM w' := by
  have HF := Lib.hid (files_any h)
  have H := Lib.hid h
  have hnl : Hid (M.names.length ≤ 4) := below_length M 4
  have hmem := mem_names M 1 (by omega)
  obtain ⟨NS, hNS⟩ : ∃ NS, NS = M.names := ⟨_, rfl⟩
  rw [← hNS] at HF hnl hmem
  rcases hs : (M.files 1).isSome with _ | _
  · have hc : Hid (M.dropC = 0 ∧ M.dropM = M) := by unfold Hid AD.dropC AD.dropM; simp [hs]
    have hdn : decide ((1 : Int) ∈ NS) = false := decide_eq_false (fun e => by have := hmem.1 e; simp at this; rw [hs] at this; cases this)
    have HDN := Lib.hid hdn
    clear hmem hs hNS h hdn
    go_enter Try.func37, Try.ntmps37
    go_wp2_with (first
      | (go_at_call 56; refine HF.out.mono ?_; rintro e w1 ⟨v, rfl, hown, hb⟩; obtain ⟨A, c, rfl, hc2, _⟩ := own_form hown; have HCI := Lib.hid (containsI_any A c NS 1 w1 (RdI.own hown) (by have := hnl.out; omega) hc2); rw [HDN.out] at HCI; have HB := Lib.hid hb; clear hown hb hc2)
      | (go_at_call 66; refine HCI.out.mono ?_; rintro e w2 ⟨rfl, rfl⟩))
    go_ret
    rw [hc.out.1, hc.out.2]
    exact ⟨rfl, After.same H.out HB.out⟩
  · have hc : Hid (M.dropC = M.opC 1 [] ∧ M.dropM = M.opM 1 [] (M.met.drop 1)) := by unfold Hid AD.dropC AD.dropM; simp [hs]
    have hdn : decide ((1 : Int) ∈ NS) = true := decide_eq_true (hmem.2 hs)
    have HDN := Lib.hid hdn
    have HRM := Lib.hid (fun W (hW : Below w.heap.size w W) => remove_any (H.out.later hW) (k := 1) (by decide) hops)
    clear hmem hs hNS h hdn
    go_enter Try.func37, Try.ntmps37
    go_wp2_with (first
      | (go_at_call 56; refine HF.out.mono ?_; rintro e w1 ⟨v, rfl, hown, hb⟩; obtain ⟨A, c, rfl, hc2, _⟩ := own_form hown; have HCI := Lib.hid (containsI_any A c NS 1 w1 (RdI.own hown) (by have := hnl.out; omega) hc2); rw [HDN.out] at HCI; have HB := Lib.hid hb; clear hown hb hc2)
      | (go_at_call 66; refine HCI.out.mono ?_; rintro e w2 ⟨rfl, rfl⟩)
      | (go_at_call 67; refine (HRM.out _ HB.out).mono ?_; rintro e w3 ⟨rfl, ha⟩; have HA := Lib.hid ha; clear ha))
    go_ret
    rw [hc.out.1, hc.out.2]
    exact ⟨rfl, After.then H.out (Turn.of_below HB.out) HA.out⟩

set_option maxHeartbeats 2000000 in
/-- Steps, one behind the other, up to the first one that has an error. -/
theorem inOrder_any {w : World} (b n c : Nat) (fid : Nat → FuncId) (caps : Nat → Array Value) (I : Nat → World → Prop) (Stop : Int → World → Prop) (hn : n ≤ 1000)
    (hcell : ∀ j W, j < n → I j W → W.cell? ⟨b, j, none⟩ = some (.func (.func (fid j)) #[] (caps j)))
    (hen : ∀ j W, j < n → (callFunc (fid j) (caps j)).run Try.prog W = .ok (.enter (fid j) (caps j)) W)
    (hstep : ∀ j W, j < n → I j W → Calls Try.prog (fid j) (caps j) W fun e W' => ∃ cc, e = .returned (.int .i64 cc) ∧ (cc = 0 → I (j + 1) W') ∧ (cc ≠ 0 → Stop cc W'))
    (h0 : I 0 w) :
    Calls Try.prog 29 #[.slice (some ⟨b, 0, none⟩) n c] w fun e w' => ∃ cc, e = .returned (.int .i64 cc) ∧ (cc = 0 → I n w') ∧ (cc ≠ 0 → Stop cc w') := by
  have HC := Lib.hid hcell
  have HE := Lib.hid hen
  have HS := Lib.hid hstep
  have H0 := Lib.hid h0
  clear hcell hen hstep h0
  go_enter Try.func29, Try.ntmps29
  go_wp2
  go_step3
  go_wp2
  go_step3
  go_wp2
  go_loopw [3, 8] (fun s i wr => ∃ k : Nat, i = .int .i64 k ∧ s = .int .i64 0 ∧ k ≤ n ∧ Hid (I k wr)) (fun s i _ => n - (match i with | .int _ k => k.toNat | _ => 0))
  case atStart => exact ⟨0, rfl, rfl, Nat.zero_le _, H0⟩
  case round =>
    obtain ⟨k, rfl, rfl, hk, HI⟩ := hrel
    by_cases hkn : k < n
    · have hkk : (k : Int) < n := by omega
      have k0 : (0 : Int) ≤ (k : Int) := by omega
      have hc := HC.out k wr hkn HI.out
      have hen := fun W => HE.out k W hkn
      have HT := Lib.hid (HS.out k wr hkn HI.out)
      generalize hfk : fid k = fk at *
      generalize hck : caps k = ck at *
      clear hfk hck
      go_wp2_with fail
      refine HT.out.mono ?_
      rintro e w1 ⟨cc, rfl, h1, h2⟩
      have HA := Lib.hid h1
      have HB := Lib.hid h2
      clear h1 h2 hc hen
      by_cases hz : cc = 0
      · subst hz
        go_wp2
        go_roundw
        case rel => exact ⟨k + 1, by go_num, by trivial, by omega, Lib.hid (HA.out (by simp))⟩
        case measure => simp; omega
      · have t1 : (cc == 0) = false := by simp [hz]
        have HZ := Lib.hid hz
        clear hz
        go_wp2
        rw [Exit.noGoto_ret]
        go_ret
        exact ⟨cc, rfl, fun e => absurd e HZ.out, fun _ => HB.out HZ.out⟩
    · obtain rfl : k = n := by omega
      go_wp2
      rw [Exit.noGoto_ret]
      go_ret
      exact ⟨0, rfl, fun _ => HI.out, fun e => absurd rfl e⟩

end Go.Proofs.Ytienabfilnpieaa
