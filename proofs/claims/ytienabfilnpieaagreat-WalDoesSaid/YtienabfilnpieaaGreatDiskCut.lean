/-
  A file that is cut, copied, or left by a loss of power; one that is moved.
-/
import Derived.Test.YtienabfilnpieaaGreatDiskActs
namespace Go.Proofs.YtienabfilnpieaaGreat
open Go.RowKit
set_option linter.unusedVariables false
set_option maxRecDepth 100000

set_option maxHeartbeats 400000 in
theorem cut_any {W : World} {q b n c : Nat} {A : Option Addr} {s m : Nat} {k : Bool} (h : BoxAt W q A n c s k) (hb : W.cell? ⟨b, 0, none⟩ = some (.int .i64 m)) (hbq : b ≠ q) (hm : m ≤ n) (hc : n ≤ c) (hcm : c ≤ 9223372036854775807) (hs : s ≤ n) :
    Calls Tryz.prog 132 #[.pointer (some ⟨q, 0, none⟩), .pointer (some ⟨b, 0, none⟩)] W fun e W' => e = .returned (.tuple #[]) ∧ BoxAt W' q A m c ((min s m : Nat) : Int) k ∧ W.grownBy W' (some q) := by
  have h0 := h.c0
  have h1 := h.c1
  have f0 := h.fz 0
  have f1 := h.fz 1
  have HB := Lib.hid h
  clear h
  have i0 : (0 : Int) ≤ (m : Int) := by omega
  have i1 : (m : Int) ≤ (c : Int) := by omega
  have i2 : (m : Int) ≤ (n : Int) := by omega
  go_enter Tryz.func132, Tryz.ntmps132
  go_wp2
  go_region
  go_wp2
  go_region
  go_wp2
  go_end0
  refine ⟨rfl, ?_, ?_⟩
  · have e : ((min s m : Nat) : Int) = min (s : Int) (m : Int) := by omega
    rw [e]
    exact heap_set (heap_set (show W.heap[q]? = _ from HB.out) 0 (.slice A m c)) 1 (.int .i64 (min (s : Int) (m : Int)))
  · exact ((((Only.refl q W).set (.inl rfl) _).set (.inl rfl) _).drew).drew

set_option maxHeartbeats 1000000 in
theorem clone_any (A : Option Addr) (c : Nat) (bs : List Int) (B : Nat) (w : World) (hr : Rd w B A bs) (hbig : bs.length ≤ 140737488355328) :
    Calls Tryz.prog 65 #[.slice A bs.length c] w fun e w' => ∃ v', e = .returned v' ∧ w'.ownsRow w.heap.size 5 1 v' bs.length (bs.map (Value.int .u8)) ∧ Below w.heap.size w w' := by
  obtain ⟨i0, hi, hz0, hz1, hz2⟩ := info_parts info5
  have q22 : ∀ (w : World) (a : Option Addr) (n c n' c' : Nat), (binOp .eql 33 (.slice a n c) (.slice none n' c')).run Tryz.prog w = .ok (.bool a.isNone) w := fun w a n c n' c' => Lib.run_eql_slice_nil w _ _ a n c n' c' Tryz.underlying33
  have H := Lib.hid hr
  clear hr
  rcases A with _ | ad
  · obtain rfl : bs = [] := by
      rcases bs with _ | ⟨b, bs⟩
      · rfl
      · obtain ⟨_, _, h, _⟩ := H.out (by simp)
        cases h
    go_enter Tryz.func65, Tryz.ntmps65
    go_wp2
    go_ret
    exact ⟨_, rfl, World.ownsRow_nil _ _ _ _, Below.refl _ _⟩
  · obtain ⟨n, hn⟩ : ∃ n, n = bs.length := ⟨_, rfl⟩
    rw [← hn] at hbig ⊢
    have HN := Lib.hid hn
    clear hn
    go_enter Tryz.func65, Tryz.ntmps65
    go_wp2_with (at_builtin; refine wpList_append_own _ rfl _ _ 33 rfl w.heap.size 5 i0 (.int .u8 0) 1 1 Tryz.underlying33 hi hz0 hz1 hz2 rfl (by decide) _ _ _ rfl (World.ownsRow_made w #[] 0 (Nat.le_refl _) (Nat.zero_le _) rfl) ad n c (bs.map (Value.int .u8)) rfl ?qc1 ?qc2 ?qc3 ?qc4 ?qc5 ?qc6 ?_)
    case qc1 => simp [HN.out]
    case qc2 =>
      intro j u hj
      have hjn : j < bs.length := by
        have := (List.getElem?_eq_some_iff.1 hj).1
        simpa using this
      obtain ⟨b, o, he, hb, hc⟩ := H.out (by omega)
      injection he with he
      subst he
      rw [Addr.add_lit]
      refine Lib.cell?_alloc_some _ ?_
      rw [hc j hjn]
      simpa [List.getD, List.getElem?_eq_getElem hjn] using hj
    case qc3 => intro u hu; obtain ⟨x, _, rfl⟩ := List.mem_map.1 hu; rfl
    case qc4 => unfold maxLen; omega
    case qc5 => omega
    case qc6 => simp
    intro v' w1 hown hgrow hnil
    go_wp2
    go_ret
    refine ⟨v', rfl, by simpa using hown, ?_⟩
    exact ((Below.refl _ w).alloc (Nat.le_refl _) _).grown hgrow (by simp) (by intro k hk; simp [Value.ownBlock] at hk; omega)

/-- The box's file has its bytes in new memory. -/
def CopiedBox (W : World) (q n : Nat) (s : Int) (k : Bool) (bs : List Int) (W' : World) : Prop :=
  ∃ A1 c1 W1, BoxAt W' q A1 n c1 s k ∧ W1.ownsRow W.heap.size 5 1 (.slice A1 n c1) n (bs.map (Value.int .u8)) ∧ Below W.heap.size W W1 ∧ W1.grownBy W' (some q)

set_option maxHeartbeats 400000 in
theorem copy1_any {W : World} {q n c : Nat} {A : Option Addr} {s : Int} {k : Bool} (h : BoxAt W q A n c s k) (bs : List Int) (hn : bs.length = n) (hr : Rd W W.heap.size A bs) (hbig : n ≤ 140737488355328) :
    Calls Tryz.prog 91 #[.pointer (some ⟨q, 0, none⟩)] W fun e W' => e = .returned (.tuple #[]) ∧ CopiedBox W q n s k bs W' := by
  have h0 := h.c0
  have f0 := h.fz 0
  have hlt : q < W.heap.size := lt_of_block h
  have HB := Lib.hid h
  have HR := Lib.hid hr
  have HN := Lib.hid hn
  clear h hr hn
  go_enter Tryz.func91, Tryz.ntmps91
  go_wp2_with (go_at_call 65; rw [← HN.out]; refine (clone_any A c bs _ W HR.out (by rw [HN.out]; exact hbig)).mono ?_; rw [HN.out]; rintro e w1 ⟨v1, rfl, hown1, hb1⟩; obtain ⟨A1, c1, rfl, _, _⟩ := own_form hown1; have b0 : BoxAt w1 q A n c s k := (hb1.block q hlt).trans HB.out; have h0' := b0.c0; have f0' := b0.fz 0; have HO := Lib.hid hown1; have HB1 := Lib.hid hb1; have B0 := Lib.hid b0; clear hown1 hb1 b0)
  go_end0
  refine ⟨rfl, A1, c1, w1, heap_set B0.out 0 _, HO.out, HB1.out, (Only.refl q w1).set (.inl rfl) _⟩

set_option maxHeartbeats 400000 in
theorem crash1_any {W : World} {q L nb n c : Nat} {A : Option Addr} {s : Int} {k : Bool} {j m : Nat} (h : BoxAt W q A n c s k) (hnb : W.cell? ⟨nb, 0, none⟩ = some (.int .i64 (j : Nat))) (hj : j < 4) (hL : W.cell? ⟨L, j, none⟩ = some (.int .i64 (m : Nat))) (hm : m ≤ n) (hc : n ≤ c) (hcm : c ≤ 9223372036854775807) :
    Calls Tryz.prog 76 #[.pointer (some ⟨q, 0, none⟩), .pointer (some ⟨L, 0, none⟩), .pointer (some ⟨nb, 0, none⟩)] W fun e W' => e = .returned (.tuple #[]) ∧ BoxAt W' q A m c (m : Nat) true ∧ W.grownBy W' (some q) := by
  have h0 := h.c0
  have f0 := h.fz 0
  have HB := Lib.hid h
  clear h
  have i0 : (0 : Int) ≤ (m : Int) := by omega
  have i1 : (m : Int) ≤ (c : Int) := by omega
  have i2 : (m : Int) ≤ (n : Int) := by omega
  have j0 : (0 : Int) ≤ (j : Int) := by omega
  have j1 : (j : Int) < 4 := by omega
  have b1 : BoxAt ((W.setCell ⟨q, 0, none⟩ (.slice A m c)).drew) q A m c s k := heap_set HB.out 0 _
  have B1 := Lib.hid b1
  clear b1
  go_enter Tryz.func76, Tryz.ntmps76
  go_wp2
  go_region
  go_wp2_with (go_at_call 51; refine (settle_any B1.out).mono ?_; rintro e W1 ⟨rfl, hb, hg⟩; have HB2 := Lib.hid hb; have HG2 := Lib.hid hg; clear hb hg)
  go_end0
  exact ⟨rfl, HB2.out, (((Only.refl q W).set (.inl rfl) _).drew).trans HG2.out⟩


/-- '*f = moved; f.kept = true'. -/
theorem move_any {W : World} {q r n c n' c' : Nat} {A A' : Option Addr} {s s' : Int} {k k' : Bool} (h : BoxAt W q A n c s k) (h' : BoxAt W r A' n' c' s' k') (hne : q ≠ r) :
    Calls Tryz.prog 130 #[.pointer (some ⟨q, 0, none⟩), .pointer (some ⟨r, 0, none⟩)] W fun e W' => e = .returned (.tuple #[]) ∧ BoxAt W' q A' n' c' s' true ∧ W.grownBy W' (some q) := by
  have h0 := h'.c0
  have h1 := h'.c1
  have h2 := h'.c2
  have q0 := h.c0
  have q1 := h.c1
  have q2 := h.c2
  have f0 := h.fz 0
  have f1 := h.fz 1
  have f2 := h.fz 2
  have HB := Lib.hid h
  clear h h'
  go_enter Tryz.func130, Tryz.ntmps130
  go_wp2
  go_end0
  refine ⟨rfl, ?_, ?_⟩
  · exact heap_set (heap_set (heap_set (heap_set (show W.heap[q]? = _ from HB.out) 0 _) 1 _) 2 _) 2 _
  · exact ((((Only.refl q W).set (.inl rfl) _).set (.inl rfl) _).set (.inl rfl) _).set (.inl rfl) _

end Go.Proofs.YtienabfilnpieaaGreat
