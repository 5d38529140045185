/-
  load: what the log's file says.
  Open: the three steps, and the log that comes of them.
  Open: its three steps in order, and the log that comes of them.
-/
import Derived.Test.YtienabfilnpieaaGreatWalHearY
import Derived.Test.YtienabfilnpieaaGreatWalC
namespace Go.Proofs.YtienabfilnpieaaGreat
open Go.RowKit Go.Shelf
set_option linter.unusedVariables false
set_option linter.unusedSimpArgs false
set_option maxRecDepth 100000

def hearC (bs : List Int) : Int := if limitM bs = 0 ∨ partsM bs = [] then 140 else 0
theorem hearC_no {bs : List Int} (h : hearC bs ≠ 0) : hearC bs = 140 := by
  unfold hearC at h ⊢
  split at h
  · rename_i hc
    rw [if_pos hc]
  · exact absurd rfl h
/-- What hear answers, whatever the bytes. -/
def HearsA (w : World) (bs : List Int) (e : Ending) (w' : World) : Prop :=
  Below w.heap.size w w' ∧ (hearC bs ≠ 0 → e = .returned (.tuple #[saidV 0 none 0 0, .int .i64 140])) ∧
  (hearC bs = 0 → ∃ A c, e = .returned (.tuple #[saidV (limitM bs) A (partsM bs).length c, .int .i64 0]) ∧ Heard w bs A c w')
theorem limitM_lim (bs : List Int) (h : limitM bs ≠ 0) : Lim (limitM bs) ∧ 20 ≤ bs.length := by
  unfold limitM at h ⊢
  split at h
  · rename_i hc
    rw [if_pos hc]
    refine ⟨hc.2.1, ?_⟩
    have := congrArg List.length hc.2.2
    rw [headM_len] at this
    simp at this
    omega
  · exact absurd rfl h
theorem hear_any (A : Option Addr) (c : Nat) (bs : List Int) (w : World) (hr : Sl w A c bs) (ho : Oct bs) (hbig : bs.length ≤ 1000000) :
    Calls Tryz.prog 97 #[.slice A bs.length c] w (HearsA w bs) := by
  by_cases hl : limitM bs = 0
  · refine (hear_no A c bs w hr ho hbig hl).mono fun e w' h => ⟨h.2, fun _ => h.1, fun h0 => ?_⟩
    unfold hearC at h0
    rw [if_pos (.inl hl)] at h0
    omega
  · obtain ⟨h1, h2⟩ := limitM_lim bs hl
    have key : Calls Tryz.prog 97 #[.slice A bs.length c] w (HearsY w bs (limitM bs)) := by
      by_cases hc : c = 20
      · exact hear_tight A c bs w hr ho hbig _ rfl h1 h2 hc
      · exact hear_wide A c bs w hr ho hbig _ rfl h1 h2 hc
    refine key.mono fun e w' h => ⟨h.1, fun h0 => ?_, fun h0 => ?_⟩
    · refine h.2.1 ?_
      unfold hearC at h0
      by_cases hp : partsM bs = []
      · exact hp
      · rw [if_neg (fun e => e.elim hl hp)] at h0
        exact absurd rfl h0
    · refine h.2.2 (fun hp => ?_)
      unfold hearC at h0
      rw [if_pos (.inr hp)] at h0
      omega

def AD.loadC (M : AD) : Int := if M.opC 0 [] = 0 then hearC (M.readB 0) else if M.opC 0 [] = 4 then 140 else M.opC 0 []
def AD.loadM (M : AD) : AD := M.opM 0 [] M.met
def LoadAs (S : Nat → Prop) (d : Nat) (w : World) (M : AD) (e : Ending) (w' : World) : Prop :=
  DiskAt w' S d M.loadM ∧ Turn S w w' ∧ (M.loadC ≠ 0 → e = .returned (.tuple #[saidV 0 none 0 0, .int .i64 M.loadC])) ∧
  (M.loadC = 0 → ∃ A c vs, e = .returned (.tuple #[saidV (limitM (M.readB 0)) A (partsM (M.readB 0)).length c, .int .i64 0]) ∧ PartsAt w' (fun k => w.heap.size ≤ k ∧ k < w'.heap.size) A c (partsM (M.readB 0)) vs)

theorem row_sl {w : World} {base n : Nat} {v : Value} {bs : List Int} (h : w.ownsRow base 5 1 v bs.length (bs.map (Value.int .u8))) : ∃ A c, v = .slice A bs.length c ∧ Sl w A c bs := by
  obtain ⟨A, c, rfl, _, _⟩ := own_form h
  exact ⟨A, c, rfl, Sl.ofRow h rfl⟩

/-- Behind the two cells of the answer, the end of load. -/
theorem load_end {W : World} {r : Nat} {a b u v : Value} (hbr : W.heap[r]? = some (.cells #[u, v] 83 (0, 0))) :
    ((W.setCell ⟨r, 0, none⟩ a).setCell ⟨r, 1, none⟩ b).cell? ⟨r, 0, none⟩ = some a ∧ ((W.setCell ⟨r, 0, none⟩ a).setCell ⟨r, 1, none⟩ b).cell? ⟨r, 1, none⟩ = some b ∧
    Below r W ((W.setCell ⟨r, 0, none⟩ a).setCell ⟨r, 1, none⟩ b) ∧ (∀ k, k ≠ r → ((W.setCell ⟨r, 0, none⟩ a).setCell ⟨r, 1, none⟩ b).heap[k]? = W.heap[k]?) ∧ ((W.setCell ⟨r, 0, none⟩ a).setCell ⟨r, 1, none⟩ b).heap.size = W.heap.size := by
  have e1 : ((W.setCell ⟨r, 0, none⟩ a).setCell ⟨r, 1, none⟩ b).heap[r]? = some (.cells #[a, b] 83 (0, 0)) := heap_set (heap_set hbr 0 a) 1 b
  have e2 : ∀ k, k ≠ r → ((W.setCell ⟨r, 0, none⟩ a).setCell ⟨r, 1, none⟩ b).heap[k]? = W.heap[k]? := fun k hk => (Below.heap_setCell _ _ _ _ hk).trans (Below.heap_setCell _ _ _ _ hk)
  exact ⟨by simp [World.cell?, e1], by simp [World.cell?, e1], ⟨rfl, rfl, rfl, by simp [World.setCell], fun k hk => e2 k (by omega)⟩, e2, by simp [World.setCell]⟩
theorem parts_said1 {W X : World} {T : Nat → Prop} {A : Option Addr} {c r : Nat} {ps : List (List Int)} {vs : List Value} {u v : Value} (hp : PartsAt W T A c ps vs) (hb : ∀ k, k ≠ r → X.heap[k]? = W.heap[k]?) (hr : W.heap[r]? = some (.cells #[u, v] 83 (0, 0))) : PartsAt X T A c ps vs := by
  have key : ∀ {k : Nat} {cur : Array Value} {e : TypeId}, W.heap[k]? = some (.cells cur e (0, 0)) → e ≠ 83 → X.heap[k]? = W.heap[k]? := fun {k cur e} hk he => by
    refine hb k (fun h => ?_)
    subst h
    rw [hr] at hk
    injection hk with hk
    injection hk with _ hk
    exact he hk.symm
  refine ⟨row_same hp.row fun k hk => ?_, fun i p hi => ?_, hp.rowT⟩
  · obtain ⟨cur, hc⟩ := own_block hp.row hk
    exact key hc (by decide)
  · obtain ⟨B, cb, h1, h2, h3, h4⟩ := hp.each i p hi
    exact ⟨B, cb, h1, row_same h2 fun k hk => by obtain ⟨cur, hc⟩ := own_block h2 hk; exact key hc (by decide), h3, h4⟩

set_option maxHeartbeats 2000000 in
theorem load_any {w : World} {S : Nat → Prop} {d : Nat} {M : AD} (h : DiskAt w S d M) (hops : M.ops < 4611686018427387904) (ho : Oct (M.readB 0)) (hlen : (M.readB 0).length ≤ 1000000) :
    Calls Tryz.prog 54 #[.pointer (some ⟨d, 0, none⟩)] w (LoadAs S d w M) := by
  have hb1 : Below w.heap.size w (w.alloc (.cells #[.int .i64 0, .slice none 0 0] 83)) := (Below.refl _ w).alloc (Nat.le_refl _) _
  have hn1 := heap_alloc_new w (.cells #[.int .i64 0, .slice none 0 0] 83)
  have hrS : ¬ S w.heap.size := fun e => by have := h.low e; omega
  have HR := Lib.hid (read_any (h.later hb1) (k := 0) (by decide) hops)
  have HB1 := Lib.hid hb1
  have HN1 := Lib.hid hn1
  have HRS := Lib.hid hrS
  have HO := Lib.hid (And.intro ho hlen)
  have HLW := Lib.hid (fun k (hk : S k) => h.low hk)
  obtain ⟨oc, hoc⟩ : ∃ oc, oc = M.opC 0 [] := ⟨_, rfl⟩
  have HC := Lib.hid (show M.loadC = if oc = 0 then hearC (M.readB 0) else if oc = 4 then 140 else oc by unfold AD.loadC; rw [hoc])
  have HOC := Lib.hid hoc
  clear h hb1 hn1 hrS ho hlen hoc
  -- behind the read
  have key : ∀ (K : World → Prop) (w2 : World), Turn S (w.alloc (.cells #[.int .i64 0, .slice none 0 0] 83)) w2 → w2.heap[w.heap.size]? = some (.cells #[.int .i64 0, .slice none 0 0] 83 (0, 0)) := fun _ w2 ht => (ht.block _ (lt_of_block HN1.out) HRS.out).trans HN1.out
  have turn0 : ∀ (X Y : World), Turn S (w.alloc (.cells #[.int .i64 0, .slice none 0 0] 83)) X → Below w.heap.size X Y → Turn S w Y := fun X Y h1 h2 => by
    have hz := h1.size
    simp at hz
    refine ⟨h2.os.trans (h1.os.trans HB1.out.os), h2.tape.trans (h1.tape.trans HB1.out.tape), h2.output.trans (h1.output.trans HB1.out.output), by have := h2.size; omega, fun k hk hn => ?_⟩
    rw [h2.block k hk, h1.block k (by simp; omega) hn]
    exact HB1.out.block k hk
  have KEY := Lib.hid key
  have TURN := Lib.hid turn0
  clear key turn0
  by_cases h0 : oc = 0
  · have HC0 := Lib.hid (show M.loadC = hearC (M.readB 0) by rw [HC.out, if_pos h0])
    subst h0
    go_enter Tryz.func54, Tryz.ntmps54
    go_wp2_with fail
    refine HR.out.mono ?_
    rintro e w2 ⟨v, rfl, hrow, hd2, ht2⟩
    rw [← HOC.out]
    obtain ⟨A, c, rfl, hsl⟩ := row_sl (n := 0) hrow
    have HH := Lib.hid (hear_any A c (M.readB 0) w2 hsl HO.out.1 HO.out.2)
    have HT2 := Lib.hid ht2
    have HD2 := Lib.hid hd2
    have HBR := Lib.hid (KEY.out (fun _ => True) w2 ht2)
    have hz2 := ht2.size
    simp at hz2
    generalize (M.readB 0).length = bl at *
    clear hrow hd2 ht2 hsl
    go_wp2_with fail
    refine HH.out.mono ?_
    rintro e w3 ⟨hb3, hno, hyes⟩
    have hbr3 := (hb3.block _ (lt_of_block HBR.out)).trans HBR.out
    have HB3 := Lib.hid hb3
    have HBR3 := Lib.hid hbr3
    obtain ⟨k0, k1, k2, k3⟩ := two_facts hbr3
    by_cases hhc : hearC (M.readB 0) = 0
    · obtain ⟨A3, c3, rfl, hheard⟩ := hyes hhc
      unfold saidV
      have HHD := Lib.hid hheard
      have HHC := Lib.hid hhc
      clear hb3 hno hyes hheard hhc hbr3
      go_wp2
      obtain ⟨q1, q2, q3, q4, q5⟩ := load_end (a := .int .i64 (limitM (M.readB 0))) (b := .slice A3 (partsM (M.readB 0)).length c3) HBR3.out
      refine bodyPost_ret (v := .tuple #[.agg #[.int .i64 (limitM (M.readB 0)), .slice A3 (partsM (M.readB 0)).length c3], .int .i64 0]) (by simp [results, Tryz.results54, go_sem, q1, q2]) rfl ⟨?_, ?_, fun hn => absurd (HC0.out.trans HHC.out) hn, fun _ => ?_⟩
      · exact (HD2.out.later HB3.out).other (S' := fun k => k = w.heap.size) ⟨q3.os, q3.tape, q3.output, q3.size, fun k _ hn => q4 k hn⟩ (fun k hk e => HRS.out (e ▸ hk))
      · exact TURN.out _ _ HT2.out ((HB3.out.mono (by omega)).trans q3)
      · obtain ⟨vs, hvs⟩ := HHD.out.parts
        exact ⟨A3, c3, vs, rfl, (parts_said1 hvs q4 HBR3.out).widen (fun k hk => ⟨by omega, by rw [q5]; exact hk.2⟩)⟩
    · have e1 := hno hhc
      subst e1
      unfold saidV
      have HHC := Lib.hid (hearC_no hhc)
      clear hb3 hno hyes hhc hbr3
      go_wp2
      obtain ⟨q1, q2, q3, q4, q5⟩ := load_end (a := .int .i64 0) (b := .slice none 0 0) HBR3.out
      refine bodyPost_ret (v := .tuple #[.agg #[.int .i64 0, .slice none 0 0], .int .i64 140]) (by simp [results, Tryz.results54, go_sem, q1, q2]) rfl ⟨?_, ?_, fun _ => by rw [HC0.out, HHC.out]; rfl, fun hz => ?_⟩
      · exact (HD2.out.later HB3.out).other (S' := fun k => k = w.heap.size) ⟨q3.os, q3.tape, q3.output, q3.size, fun k _ hn => q4 k hn⟩ (fun k hk e => HRS.out (e ▸ hk))
      · exact TURN.out _ _ HT2.out ((HB3.out.mono (by omega)).trans q3)
      · rw [HC0.out, HHC.out] at hz; omega
  · obtain ⟨code, hcode⟩ : ∃ code : Int, code = if oc = 4 then 140 else oc := ⟨_, rfl⟩
    have HCC := Lib.hid (show M.loadC = code by rw [HC.out, if_neg h0, hcode])
    have hc0 : code ≠ 0 := by rw [hcode]; split <;> omega
    have t1 : (oc == 0) = false := by simpa using h0
    by_cases h4 : oc = 4
    · subst h4
      obtain rfl : code = 140 := hcode
      go_enter Tryz.func54, Tryz.ntmps54
      go_wp2_with fail
      refine HR.out.mono ?_
      rintro e w2 ⟨v, rfl, hrow, hd2, ht2⟩
      rw [← HOC.out]
      have HT2 := Lib.hid ht2
      have HD2 := Lib.hid hd2
      have HBR := Lib.hid (KEY.out (fun _ => True) w2 ht2)
      obtain ⟨k0, k1, k2, k3⟩ := two_facts HBR.out
      have hz2 := ht2.size
      simp at hz2
      clear hrow hd2 ht2
      go_wp2
      obtain ⟨q1, q2, q3, q4, q5⟩ := load_end (a := .int .i64 0) (b := .slice none 0 0) HBR.out
      refine bodyPost_ret (v := .tuple #[.agg #[.int .i64 0, .slice none 0 0], .int .i64 140]) (by simp [results, Tryz.results54, go_sem, q1, q2]) rfl ⟨?_, ?_, fun _ => by rw [HCC.out]; rfl, fun hz => ?_⟩
      · exact HD2.out.other (S' := fun k => k = w.heap.size) ⟨q3.os, q3.tape, q3.output, q3.size, fun k _ hn => q4 k hn⟩ (fun k hk e => HRS.out (e ▸ hk))
      · exact TURN.out _ _ HT2.out q3
      · rw [HCC.out] at hz; omega
    · have t2 : (oc == 4) = false := by simpa using h4
      have hce : code = oc := by rw [hcode, if_neg h4]
      have HCO := Lib.hid hce
      have H0 := Lib.hid hc0
      clear hcode hce hc0 h0 h4
      go_enter Tryz.func54, Tryz.ntmps54
      go_wp2_with fail
      refine HR.out.mono ?_
      rintro e w2 ⟨v, rfl, hrow, hd2, ht2⟩
      rw [← HOC.out]
      have HT2 := Lib.hid ht2
      have HD2 := Lib.hid hd2
      have HBR := Lib.hid (KEY.out (fun _ => True) w2 ht2)
      obtain ⟨k0, k1, k2, k3⟩ := two_facts HBR.out
      have hz2 := ht2.size
      simp at hz2
      clear hrow hd2 ht2
      go_wp2
      obtain ⟨q1, q2, q3, q4, q5⟩ := load_end (a := .int .i64 0) (b := .slice none 0 0) HBR.out
      refine bodyPost_ret (v := .tuple #[.agg #[.int .i64 0, .slice none 0 0], .int .i64 oc]) (by simp [results, Tryz.results54, go_sem, q1, q2]) rfl ⟨?_, ?_, fun _ => by rw [HCC.out, HCO.out]; rfl, fun hz => ?_⟩
      · exact HD2.out.other (S' := fun k => k = w.heap.size) ⟨q3.os, q3.tape, q3.output, q3.size, fun k _ hn => q4 k hn⟩ (fun k hk e => HRS.out (e ▸ hk))
      · exact TURN.out _ _ HT2.out q3
      · rw [HCC.out] at hz; exact absurd hz H0.out

end Go.Proofs.YtienabfilnpieaaGreat

namespace Go.Proofs.YtienabfilnpieaaGreat
open Go.RowKit Go.Shelf
set_option linter.unusedVariables false
set_option linter.unusedSimpArgs false
set_option maxRecDepth 100000

/-- The box of what is said, and its parts. -/
def SaidAt (W : World) (T : Nat → Prop) (q : Nat) (m : Int) (ps : List (List Int)) : Prop := ∃ A c vs, W.heap[q]? = some (.cells #[.int .i64 m, .slice A ps.length c] 83 (0, 0)) ∧ PartsAt W T A c ps vs

set_option maxHeartbeats 1000000 in
theorem open1_any {W : World} {S : Nat → Prop} {d p q : Nat} {M : AD} {u v : Value} (h : DiskAt W S d M) (hops : M.ops < 4611686018427387904) (ho : Oct (M.readB 0)) (hlen : (M.readB 0).length ≤ 1000000) (hp : W.cell? ⟨p, 0, none⟩ = some (.pointer (some ⟨d, 0, none⟩))) (hq : W.heap[q]? = some (.cells #[u, v] 83 (0, 0))) (hS : ¬ S q) :
    Calls Tryz.prog 53 #[.pointer (some ⟨p, 0, none⟩), .pointer (some ⟨q, 0, none⟩)] W fun e W' => e = .returned (.int .i64 M.loadC) ∧ DiskAt W' S d M.loadM ∧ Turn (fun k => S k ∨ k = q) W W' ∧
      (M.loadC = 0 → SaidAt W' (fun k => W.heap.size ≤ k ∧ k < W'.heap.size) q (limitM (M.readB 0)) (partsM (M.readB 0))) := by
  have HL := Lib.hid (load_any h hops ho hlen)
  have HQ := Lib.hid (fun (W' : World) (ht : Turn S W W') => (ht.block q (lt_of_block hq) hS).trans hq)
  have HS := Lib.hid hS
  obtain ⟨lc, hlc⟩ : ∃ lc, lc = M.loadC := ⟨_, rfl⟩
  have HLC := Lib.hid hlc
  rw [← hlc]
  clear h hops ho hlen hq hS hlc
  have fin : ∀ (X : World) (a b : Value), Turn S W X → DiskAt X S d M.loadM → DiskAt ((X.setCell ⟨q, 0, none⟩ a).setCell ⟨q, 1, none⟩ b) S d M.loadM ∧ Turn (fun k => S k ∨ k = q) W ((X.setCell ⟨q, 0, none⟩ a).setCell ⟨q, 1, none⟩ b) := fun X a b ht hd => by
    obtain ⟨q1, q2, q3, q4, q5⟩ := load_end (a := a) (b := b) (HQ.out X ht)
    have tq : Turn (fun k => k = q) X ((X.setCell ⟨q, 0, none⟩ a).setCell ⟨q, 1, none⟩ b) := ⟨q3.os, q3.tape, q3.output, q3.size, fun k _ hn => q4 k hn⟩
    exact ⟨hd.other tq (fun k hk e => HS.out (e ▸ hk)), (ht.mono (fun k hk => .inl hk)).trans tq (fun k hk => .inl (.inr hk))⟩
  have FIN := Lib.hid fin
  clear fin
  by_cases h0 : lc = 0
  · subst h0
    go_enter Tryz.func53, Tryz.ntmps53
    go_wp2_with fail
    refine HL.out.mono ?_
    rintro e w2 ⟨hd, ht, _, hyes⟩
    obtain ⟨A, c, vs, rfl, hps⟩ := hyes HLC.out.symm
    unfold saidV
    have HD := Lib.hid hd
    have HT := Lib.hid ht
    have HP := Lib.hid hps
    have hbox := HQ.out w2 ht
    have HBX := Lib.hid hbox
    obtain ⟨k0, k1, k2, k3⟩ := two_facts hbox
    clear hd ht hyes hps hbox
    go_wp2
    go_ret
    obtain ⟨f1, f2⟩ := FIN.out w2 (.int .i64 (limitM (M.readB 0))) (.slice A (partsM (M.readB 0)).length c) HT.out HD.out
    obtain ⟨q1, q2, q3, q4, q5⟩ := load_end (a := .int .i64 (limitM (M.readB 0))) (b := .slice A (partsM (M.readB 0)).length c) HBX.out
    exact ⟨rfl, f1, f2, fun _ => ⟨A, c, vs, heap_set (heap_set HBX.out 0 _) 1 _, (parts_said1 HP.out q4 HBX.out).widen (fun k hk => ⟨hk.1, by rw [q5]; exact hk.2⟩)⟩⟩
  · have HN := Lib.hid h0
    clear h0
    go_enter Tryz.func53, Tryz.ntmps53
    go_wp2_with fail
    refine HL.out.mono ?_
    rintro e w2 ⟨hd, ht, hno, _⟩
    have e1 := hno (by rw [← HLC.out]; exact HN.out)
    rw [← HLC.out] at e1
    subst e1
    unfold saidV
    have HD := Lib.hid hd
    have HT := Lib.hid ht
    have hbox := HQ.out w2 ht
    obtain ⟨k0, k1, k2, k3⟩ := two_facts hbox
    clear hd ht hno hbox
    go_wp2
    go_ret
    obtain ⟨f1, f2⟩ := FIN.out w2 (.int .i64 0) (.slice none 0 0) HT.out HD.out
    exact ⟨rfl, f1, f2, fun hz => absurd hz HN.out⟩

set_option maxHeartbeats 1000000 in
theorem open2_any {W : World} {S T : Nat → Prop} {d p q : Nat} {M : AD} {m : Int} {ps : List (List Int)} (h : DiskAt W S d M) (hops : M.ops < 4611686018427387904) (hp : W.cell? ⟨p, 0, none⟩ = some (.pointer (some ⟨d, 0, none⟩))) (hq : SaidAt W T q m ps) (hT : ∀ k, T k → k < W.heap.size) (hb : costM ps ≤ 1000000) :
    Calls Tryz.prog 55 #[.pointer (some ⟨p, 0, none⟩), .pointer (some ⟨q, 0, none⟩)] W fun e W' => e = .returned (.int .i64 (M.trimC ((costM ps : Int) + 20))) ∧ After S d W (M.trimM ((costM ps : Int) + 20)) W' := by
  obtain ⟨A, c, vs, hbox, hparts⟩ := hq
  obtain ⟨k0, k1, k2, k3⟩ := two_facts hbox
  have hpl := World.block_lt_of_cell? W _ hp
  have HE := Lib.hid (fun (V : World) (hV : Below W.heap.size W V) => end_any (hparts.turn (fun k hk => hV.block k (hT k hk))) (fun k hk => Nat.lt_of_lt_of_le (hT k hk) hV.size) hb m)
  have hi : I64 ((costM ps : Int) + 20) := WalkArith.wf_i64 (by omega)
  have HC := Lib.hid (fun (V : World) (hV : Below W.heap.size W V) => (wcutAt_any (h.later hV) hops (n := (costM ps : Int) + 20) hi).mono (R' := fun e W' => e = .returned (.int .i64 (M.trimC ((costM ps : Int) + 20))) ∧ After S d W (M.trimM ((costM ps : Int) + 20)) W') (fun e W' hh => ⟨hh.1, After.then h (Turn.of_below hV) hh.2⟩))
  generalize M.trimC ((costM ps : Int) + 20) = tc at *
  generalize M.trimM ((costM ps : Int) + 20) = tm at *
  generalize costM ps = s at *
  generalize ps.length = n at *
  clear h hbox hparts hT hb hi
  go_enter Tryz.func55, Tryz.ntmps55
  go_wp2
  go_region_with (first
    | (go_at_call 57; refine (HE.out _ (below_drewN (Below.refl _ _) 1)).mono ?_; rintro e w2 ⟨rfl, hb2⟩; have hb2' := (below_drewN (Below.refl W.heap.size W) 1).trans hb2; have HB2 := Lib.hid hb2'; have p2 := (hb2'.cell (p := ⟨p, 0, none⟩) hpl).trans hp; clear hb2 hb2')
    | (go_at_call 56; refine (HC.out _ HB2.out).mono ?_; rintro e w3 ⟨rfl, ha⟩; have HA := Lib.hid ha; clear ha))
  all_goals
    go_wp2
    go_ret
    exact ⟨rfl, HA.out⟩

theorem open3_any {W : World} {S : Nat → Prop} {d p : Nat} {M : AD} (h : DiskAt W S d M) (hops : M.ops < 4611686018427387904) (hp : W.cell? ⟨p, 0, none⟩ = some (.pointer (some ⟨d, 0, none⟩))) :
    Calls Tryz.prog 58 #[.pointer (some ⟨p, 0, none⟩)] W fun e W' => e = .returned (.int .i64 M.dropC) ∧ After S d W M.dropM W' := by
  have HD := Lib.hid (dropNew_any h hops)
  clear h hops
  generalize M.dropC = dc at *
  go_enter Tryz.func58, Tryz.ntmps58
  go_wp2_with fail
  refine HD.out.mono ?_
  rintro e w2 ⟨rfl, ha⟩
  have HA := Lib.hid ha
  clear ha
  go_wp2
  go_ret
  exact ⟨rfl, HA.out⟩

end Go.Proofs.YtienabfilnpieaaGreat

namespace Go.Proofs.YtienabfilnpieaaGreat
open Go.RowKit Go.Shelf
set_option linter.unusedVariables false
set_option linter.unusedSimpArgs false
set_option maxRecDepth 100000

theorem goM_cost (n : Nat) (room k : Int) (r : List Int) (h : 0 ≤ room) : (costM (goM n room k r) : Int) ≤ room := by
  induction n generalizing room k r with
  | zero => simpa [goM, costM] using h
  | succ n ih =>
    unfold goM
    cases stepM k r with
    | none => simpa [costM] using h
    | some pr =>
      obtain ⟨p, r'⟩ := pr
      dsimp only
      split
      · rename_i hf
        have hf' : (p.length : Int) + 12 ≤ room := by
          unfold fitsC at hf
          split at hf
          · omega
          · split at hf
            · omega
            · omega
        have := ih (room - (p.length + 12)) (k + 1) r' (by omega)
        have e : costM (p :: goM n (room - (p.length + 12)) (k + 1) r') = p.length + 12 + costM (goM n (room - (p.length + 12)) (k + 1) r') := by simp [costM]
        rw [e]
        omega
      · simpa [costM] using h
/-- A log of what a file says. -/
def openV (M : AD) : AW := ⟨limitM (M.readB 0), partsM (M.readB 0), false⟩
theorem parts_cost (bs : List Int) (h : limitM bs ≠ 0) : (costM (partsM bs) : Int) ≤ limitM bs := goM_cost _ _ _ _ (by have := (limitM_lim bs h).1.1; omega)
theorem loadC_zero {M : AD} (h : M.loadC = 0) : M.opC 0 [] = 0 ∧ limitM (M.readB 0) ≠ 0 ∧ partsM (M.readB 0) ≠ [] := by
  unfold AD.loadC at h
  split at h
  · rename_i h0
    refine ⟨h0, ?_⟩
    unfold hearC at h
    split at h
    · omega
    · rename_i hn
      exact ⟨fun e => hn (.inl e), fun e => hn (.inr e)⟩
  · rename_i h0
    split at h
    · omega
    · exact absurd h h0
theorem openV_ok {M : AD} (h : M.loadC = 0) : (openV M).Ok := by
  obtain ⟨h1, h2, h3⟩ := loadC_zero h
  refine ⟨(limitM_lim _ h2).1, ?_, parts_cost _ h2⟩
  show 1 ≤ (partsM (M.readB 0)).length
  rcases hp : partsM (M.readB 0) with _ | ⟨a, l⟩
  · exact absurd hp h3
  · simp
def AD.endM (M : AD) : Int := (costM (partsM (M.readB 0)) : Int) + 20
/-- The disk behind load and the cut. -/
def AD.cutM (M : AD) : AD := M.loadM.trimM M.endM
def AD.cutC (M : AD) : Int := M.loadM.trimC M.endM
def AD.openC (M : AD) : Int := if M.loadC ≠ 0 then M.loadC else if M.cutC ≠ 0 then M.cutC else M.cutM.dropC
def AD.openM (M : AD) : AD := if M.loadC ≠ 0 then M.loadM else if M.cutC ≠ 0 then M.cutM else M.cutM.dropM
theorem loadM_ops (M : AD) : M.loadM.ops ≤ M.ops + 1 := opM_ops _ _ rfl
theorem put_ops (M : AD) (k : Int) (F : AF) : (M.put k F).ops = M.ops := rfl
theorem truncM_ops (M : AD) (k n : Int) : (M.truncM k n).ops ≤ M.ops + 1 := by
  have := met_ops M
  unfold AD.truncM
  split
  · split
    · omega
    · split
      · rw [put_ops]; omega
      · omega
  · omega
theorem trimM_ops (M : AD) (n : Int) : (M.trimM n).ops ≤ M.ops + 1 := by
  unfold AD.trimM
  split
  · omega
  · exact truncM_ops _ _ _
theorem openM_ops (M : AD) : M.openM.ops ≤ M.ops + 3 := by
  have h1 := loadM_ops M
  have h2 : M.cutM.ops ≤ M.loadM.ops + 1 := trimM_ops _ _
  have h3 := dropM_ops M.cutM
  unfold AD.openM
  split
  · omega
  · split
    · omega
    · omega

theorem SaidAt.keep {W W' : World} {T : Nat → Prop} {q : Nat} {m : Int} {ps : List (List Int)} (h : SaidAt W T q m ps) (hq : W'.heap[q]? = W.heap[q]?) (hT : ∀ k, T k → W'.heap[k]? = W.heap[k]?) : SaidAt W' T q m ps := by
  obtain ⟨A, c, vs, h1, h2⟩ := h
  exact ⟨A, c, vs, hq.trans h1, h2.turn hT⟩
theorem SaidAt.more {W : World} {T T' : Nat → Prop} {q : Nat} {m : Int} {ps : List (List Int)} (h : SaidAt W T q m ps) (hT : ∀ k, T k → T' k) : SaidAt W T' q m ps := by
  obtain ⟨A, c, vs, h1, h2⟩ := h
  exact ⟨A, c, vs, h1, h2.widen hT⟩

/-- While Open goes on: where the disk lies, and what was said. -/
def OpenI (S : Nat → Prop) (d q : Nat) (w : World) (bs : List Int) (H : Prop) (M : AD) (W : World) : Prop :=
  ∃ S', DiskAt W S' d M ∧ (∀ k, S' k → S k ∨ w.heap.size ≤ k) ∧ Turn (fun k => S k ∨ k = q) w W ∧ (H → ∃ T, SaidAt W T q (limitM bs) (partsM bs) ∧ ∀ k, T k → w.heap.size ≤ k ∧ k < W.heap.size ∧ ¬ S' k)
theorem OpenI.go {S S' : Nat → Prop} {d q : Nat} {w W W' : World} {bs : List Int} {M' : AD} {T : Nat → Prop} (hq : q < w.heap.size) (hS : ¬ S q) (h2 : ∀ k, S' k → S k ∨ w.heap.size ≤ k) (h3 : Turn (fun k => S k ∨ k = q) w W) (h4 : SaidAt W T q (limitM bs) (partsM bs)) (h5 : ∀ k, T k → w.heap.size ≤ k ∧ k < W.heap.size ∧ ¬ S' k) (ha : After S' d W M' W') (H : Prop) : OpenI S d q w bs H M' W' := by
  have hz := h3.size
  have hz2 := ha.2.size
  have hq' : ¬ S' q := fun e => (h2 q e).elim hS (fun e => by omega)
  refine ⟨grew S' W W', ha.1, fun k hk => ?_, h3.trans ha.2 (fun k hk => (h2 k hk).imp .inl id), fun _ => ⟨T, h4.keep (ha.2.block q (by omega) hq') (fun k hk => ha.2.block k (h5 k hk).2.1 (h5 k hk).2.2), fun k hk => ⟨(h5 k hk).1, Nat.lt_of_lt_of_le (h5 k hk).2.1 hz2, fun e => ?_⟩⟩⟩
  · rcases hk with e | e
    · exact h2 k e
    · exact .inr (by omega)
  · rcases e with e | e
    · exact (h5 k hk).2.2 e
    · have := (h5 k hk).2.1; omega

theorem enter_o1 (x y : Value) (W : World) : (callFunc 53 #[x, y]).run Tryz.prog W = .ok (.enter 53 #[x, y]) W := by kernel_rfl
theorem enter_o2 (x y : Value) (W : World) : (callFunc 55 #[x, y]).run Tryz.prog W = .ok (.enter 55 #[x, y]) W := by kernel_rfl
theorem enter_o3 (x : Value) (W : World) : (callFunc 58 #[x]).run Tryz.prog W = .ok (.enter 58 #[x]) W := by kernel_rfl
def openF : Nat → FuncId
  | 0 => 53
  | 1 => 55
  | _ => 58
def openCaps (p q : Nat) : Nat → Array Value
  | 0 => #[.pointer (some ⟨p, 0, none⟩), .pointer (some ⟨q, 0, none⟩)]
  | 1 => #[.pointer (some ⟨p, 0, none⟩), .pointer (some ⟨q, 0, none⟩)]
  | _ => #[.pointer (some ⟨p, 0, none⟩)]

set_option maxHeartbeats 1000000 in
theorem opens_any {w : World} {S : Nat → Prop} {d p q sb : Nat} {M : AD} {u v : Value} (h : DiskAt w S d M) (hops : M.ops < 4611686018427387000) (ho : Oct (M.readB 0)) (hlen : (M.readB 0).length ≤ 1000000) (hp : w.cell? ⟨p, 0, none⟩ = some (.pointer (some ⟨d, 0, none⟩))) (hq : w.heap[q]? = some (.cells #[u, v] 83 (0, 0)))
    (hS : ¬ S p ∧ ¬ S q ∧ ¬ S sb) (hne : p ≠ q ∧ sb ≠ q) (hfs : w.heap[sb]? = some (.cells #[.func (.func (openF 0)) #[] (openCaps p q 0), .func (.func (openF 1)) #[] (openCaps p q 1), .func (.func (openF 2)) #[] (openCaps p q 2)] 71 (0, 0))) :
    Calls Tryz.prog 52 #[.slice (some ⟨sb, 0, none⟩) 3 3] w fun e w' => e = .returned (.int .i64 M.openC) ∧ OpenI S d q w (M.readB 0) (M.openC = 0) M.openM w' := by
  have hql := lt_of_block hq
  have hl1 := loadM_ops M
  have hl2 : M.cutM.ops ≤ M.loadM.ops + 1 := trimM_ops _ _
  have key := inOrder_any (w := w) sb 3 3 openF (openCaps p q) (fun j W => (j = 0 ∧ W = w) ∨ (j = 1 ∧ M.loadC = 0 ∧ OpenI S d q w (M.readB 0) True M.loadM W) ∨ (j = 2 ∧ M.loadC = 0 ∧ M.cutC = 0 ∧ OpenI S d q w (M.readB 0) True M.cutM W) ∨ (j = 3 ∧ M.openC = 0 ∧ OpenI S d q w (M.readB 0) True M.openM W)) (fun cc W => M.openC = cc ∧ OpenI S d q w (M.readB 0) False M.openM W) (by omega)
    (fun j W hj hI => by
      have hc : w.cell? ⟨sb, j, none⟩ = some (.func (.func (openF j)) #[] (openCaps p q j)) := by
        simp only [World.cell?, hfs]
        have : j = 0 ∨ j = 1 ∨ j = 2 := by omega
        rcases this with rfl | rfl | rfl <;> rfl
      have hn : ¬ (S sb ∨ sb = q) := fun e => e.elim hS.2.2 hne.2
      rcases hI with ⟨_, rfl⟩ | ⟨_, _, hI⟩ | ⟨_, _, _, hI⟩ | ⟨e, _⟩
      · exact hc
      · obtain ⟨S', _, _, ht, _⟩ := hI
        exact turn_cell ht hn hc
      · obtain ⟨S', _, _, ht, _⟩ := hI
        exact turn_cell ht hn hc
      · omega)
    (fun j W hj => by
      have : j = 0 ∨ j = 1 ∨ j = 2 := by omega
      rcases this with rfl | rfl | rfl
      · exact enter_o1 _ _ W
      · exact enter_o2 _ _ W
      · exact enter_o3 _ W)
    (fun j W hj hI => by
      have hn : ¬ (S p ∨ p = q) := fun e => e.elim hS.1 hne.1
      rcases hI with ⟨rfl, rfl⟩ | ⟨rfl, hz, hI⟩ | ⟨rfl, hz, hz2, hI⟩ | ⟨rfl, _⟩
      · have hk := open1_any h (by omega) ho hlen hp hq hS.2.1
        refine hk.mono ?_
        rintro e W' ⟨rfl, hd, ht, hs⟩
        refine ⟨_, rfl, fun e => .inr (.inl ⟨rfl, e, S, hd, fun k hk => .inl hk, ht, fun _ => ⟨_, hs e, fun k hk => ⟨hk.1, hk.2, fun e => by have := h.low e; omega⟩⟩⟩), fun e => ⟨?_, ?_⟩⟩
        · unfold AD.openC; rw [if_pos e]
        · unfold AD.openM; rw [if_pos e]; exact ⟨S, hd, fun k hk => .inl hk, ht, fun e => e.elim⟩
      · obtain ⟨S', hd, hg, ht, hs⟩ := hI
        obtain ⟨T, hsaid, hT⟩ := hs trivial
        have hcost := parts_cost _ (loadC_zero hz).2.1
        have hlim := (limitM_lim _ (loadC_zero hz).2.1).1.2
        have hk := open2_any hd (by omega) (turn_cell ht hn hp) hsaid (fun k hk => (hT k hk).2.1) (by omega)
        refine hk.mono ?_
        rintro e W' ⟨rfl, ha⟩
        have hgo := fun H => OpenI.go hql hS.2.1 hg ht hsaid hT ha H
        refine ⟨_, rfl, fun e => .inr (.inr (.inl ⟨rfl, hz, e, hgo True⟩)), fun e => ⟨?_, ?_⟩⟩
        · unfold AD.openC; rw [if_neg (by rw [hz]; simp), if_pos (show M.cutC ≠ 0 from e)]; rfl
        · unfold AD.openM; rw [if_neg (by rw [hz]; simp), if_pos (show M.cutC ≠ 0 from e)]; exact hgo False
      · obtain ⟨S', hd, hg, ht, hs⟩ := hI
        obtain ⟨T, hsaid, hT⟩ := hs trivial
        have hk := open3_any hd (by omega) (turn_cell ht hn hp)
        refine hk.mono ?_
        rintro e W' ⟨rfl, ha⟩
        have hgo := fun H => OpenI.go hql hS.2.1 hg ht hsaid hT ha H
        have e1 : M.openC = M.cutM.dropC := by unfold AD.openC; rw [if_neg (by rw [hz]; simp), if_neg (by rw [hz2]; simp)]
        have e2 : M.openM = M.cutM.dropM := by unfold AD.openM; rw [if_neg (by rw [hz]; simp), if_neg (by rw [hz2]; simp)]
        refine ⟨_, rfl, fun e => .inr (.inr (.inr ⟨rfl, e1.trans e, ?_⟩)), fun e => ⟨e1, ?_⟩⟩
        · rw [e2]; exact hgo True
        · rw [e2]; exact hgo False
      · omega)
    (.inl ⟨rfl, rfl⟩)
  refine key.mono ?_
  rintro e W ⟨cc, rfl, hz, hnz⟩
  by_cases hc : cc = 0
  · rcases hz hc with ⟨e, _⟩ | ⟨e, _⟩ | ⟨e, _⟩ | ⟨_, h1, S', a, b, c, f⟩
    · omega
    · omega
    · omega
    · exact ⟨by rw [h1, hc], S', a, b, c, fun _ => f trivial⟩
  · obtain ⟨h1, S', a, b, c, _⟩ := hnz hc
    exact ⟨by rw [h1], S', a, b, c, fun e => absurd (h1.symm.trans e) hc⟩

def OpenAs (S : Nat → Prop) (d : Nat) (w : World) (M : AD) (e : Ending) (w' : World) : Prop :=
  (M.openC ≠ 0 ∧ e = .returned (.tuple #[.pointer none, .int .i64 M.openC]) ∧ ∃ S', Went S S' d w M.openM w') ∨
  (M.openC = 0 ∧ ∃ g S' T, e = .returned (.tuple #[.pointer (some ⟨g, 0, none⟩), .int .i64 0]) ∧ Went S S' d w M.openM w' ∧ WalAt w' T g d (openV M) ∧ (∀ k, T k → w.heap.size ≤ k ∧ ¬ S' k))

/-- The log of what was said, in a new box. -/
theorem wal_said {W : World} {T : Nat → Prop} {d : Nat} {M : AD} {A : Option Addr} {c : Nat} {vs : List Value} (hp : PartsAt W T A c (partsM (M.readB 0)) vs) (hT : ∀ k, T k → k < W.heap.size) :
    WalAt (W.alloc (.cells (walA (openV M) A c d) 90)) (fun k => T k ∨ k = W.heap.size) W.heap.size d (openV M) := by
  refine ⟨A, c, vs, heap_alloc_new W _, ?_, .inr rfl, fun k hk => ?_⟩
  · have hb : Below W.heap.size W (W.alloc (.cells (walA (openV M) A c d) 90)) := (Below.refl _ W).alloc (Nat.le_refl _) _
    exact (hp.turn (fun k hk => hb.block k (hT k hk))).widen (fun k hk => .inl hk)
  · simp
    rcases hk with e | e
    · have := hT k e; omega
    · omega

set_option maxHeartbeats 2000000 in
theorem open_any {w : World} {S : Nat → Prop} {d : Nat} {M : AD} (h : DiskAt w S d M) (hops : M.ops < 4611686018427387000) (ho : Oct (M.readB 0)) (hlen : (M.readB 0).length ≤ 1000000) :
    Calls Tryz.prog 13 #[.pointer (some ⟨d, 0, none⟩)] w (OpenAs S d w M) := by
  obtain ⟨W1, hW1⟩ : ∃ W1, W1 = w.alloc (.cells #[.pointer (some ⟨d, 0, none⟩)] 24) := ⟨_, rfl⟩
  obtain ⟨W2, hW2⟩ : ∃ W2, W2 = W1.alloc (.cells #[.int .i64 0, .slice none 0 0] 83) := ⟨_, rfl⟩
  obtain ⟨W3, hW3⟩ : ∃ W3, W3 = W2.alloc (.cells #[.func (.func (openF 0)) #[] (openCaps w.heap.size (w.heap.size + 1) 0), .func (.func (openF 1)) #[] (openCaps w.heap.size (w.heap.size + 1) 1), .func (.func (openF 2)) #[] (openCaps w.heap.size (w.heap.size + 1) 2)] 71) := ⟨_, rfl⟩
  have s1 : W1.heap.size = w.heap.size + 1 := by rw [hW1]; simp
  have s2 : W2.heap.size = w.heap.size + 2 := by rw [hW2]; simp [s1]
  have s3 : W3.heap.size = w.heap.size + 3 := by rw [hW3]; simp [s2]
  have b1 : Below w.heap.size w W1 := by rw [hW1]; exact (Below.refl _ w).alloc (Nat.le_refl _) _
  have b2 : Below W1.heap.size W1 W2 := by rw [hW2]; exact (Below.refl _ W1).alloc (Nat.le_refl _) _
  have b3 : Below W2.heap.size W2 W3 := by rw [hW3]; exact (Below.refl _ W2).alloc (Nat.le_refl _) _
  have e1 : W1.heap[w.heap.size]? = some (.cells #[.pointer (some ⟨d, 0, none⟩)] 24 (0, 0)) := by rw [hW1]; exact heap_alloc_new w _
  have e2 : W2.heap[W1.heap.size]? = some (.cells #[.int .i64 0, .slice none 0 0] 83 (0, 0)) := by rw [hW2]; exact heap_alloc_new W1 _
  have e3 : W3.heap[W2.heap.size]? = some (.cells #[.func (.func (openF 0)) #[] (openCaps w.heap.size (w.heap.size + 1) 0), .func (.func (openF 1)) #[] (openCaps w.heap.size (w.heap.size + 1) 1), .func (.func (openF 2)) #[] (openCaps w.heap.size (w.heap.size + 1) 2)] 71 (0, 0)) := by rw [hW3]; exact heap_alloc_new W2 _
  have f1 : W3.heap[w.heap.size]? = _ := (b3.block _ (by omega)).trans ((b2.block _ (by omega)).trans e1)
  have f2 : W3.heap[W1.heap.size]? = _ := (b3.block _ (by omega)).trans e2
  rw [s1] at f2
  rw [s2] at e3
  have b : Below w.heap.size w W3 := b1.trans ((b2.trans (b3.mono (by omega))).mono (by omega))
  have hlow : ∀ k, w.heap.size ≤ k → ¬ S k := fun k hk e => by have := h.low e; omega
  have hst := opens_any (h.later b) hops ho hlen (by simp only [World.cell?, f1]; rfl) f2 ⟨hlow _ (Nat.le_refl _), hlow _ (by omega), hlow _ (by omega)⟩ ⟨by omega, by omega⟩ e3
  -- what is known behind the steps
  have hend : ∀ X, OpenI S d (w.heap.size + 1) W3 (M.readB 0) (M.openC = 0) M.openM X → (∃ S', Went S S' d w M.openM X) ∧ X.cell? ⟨w.heap.size, 0, none⟩ = some (.pointer (some ⟨d, 0, none⟩)) ∧ (M.openC = 0 → ∃ S' T A c vs, Went S S' d w M.openM X ∧ X.heap[w.heap.size + 1]? = some (.cells #[.int .i64 (limitM (M.readB 0)), .slice A (partsM (M.readB 0)).length c] 83 (0, 0)) ∧ PartsAt X T A c (partsM (M.readB 0)) vs ∧ ∀ k, T k → w.heap.size ≤ k ∧ k < X.heap.size ∧ ¬ S' k) := fun X hI => by
    obtain ⟨S', hd, hg, ht, hs⟩ := hI
    have htz := ht.size
    have hwent : Went S S' d w M.openM X := ⟨hd, ⟨ht.os.trans b.os, ht.tape.trans b.tape, ht.output.trans b.output, by omega, fun k hk hn => (ht.block k (by omega) (fun e => e.elim hn (fun e => by omega))).trans (b.block k hk)⟩, fun k hk => (hg k hk).imp id (fun e => by omega)⟩
    refine ⟨⟨S', hwent⟩, turn_cell ht (fun e => e.elim (hlow _ (Nat.le_refl _)) (fun e => by omega)) (by simp only [World.cell?, f1]; rfl), fun hz => ?_⟩
    obtain ⟨T, ⟨A, c, vs, g1, g2⟩, hT⟩ := hs hz
    exact ⟨S', T, A, c, vs, hwent, g1, g2, fun k hk => ⟨by have := (hT k hk).1; omega, (hT k hk).2⟩⟩
  have HE := Lib.hid hend
  rw [hW3, hW2, hW1] at hst
  have HST := Lib.hid hst
  obtain ⟨cc, hcc⟩ : ∃ cc, cc = M.openC := ⟨_, rfl⟩
  have HCC := Lib.hid hcc
  rw [hW3, hW2, hW1] at HE
  rw [← hcc] at HST HE
  clear h ho hlen hW1 hW2 hW3 s1 s2 s3 b1 b2 b3 e1 e2 e3 f1 f2 b hlow hst hend hcc W1 W2 W3
  by_cases hz : cc = 0
  · subst hz
    go_enter Tryz.func13, Tryz.ntmps13
    go_wp2_with fail
    refine HST.out.mono ?_
    rintro e w3 ⟨rfl, hI⟩
    obtain ⟨_, hp, hyes⟩ := HE.out w3 hI
    obtain ⟨S', T, A, c, vs, hwent, hbox, hparts, hT⟩ := hyes trivial
    have HW := Lib.hid hwent
    have HP := Lib.hid hparts
    have HT := Lib.hid hT
    obtain ⟨k0, k1, k2, k3⟩ := two_facts hbox
    clear hI hyes hwent hparts hT
    go_wp2
    go_ret2
    have hnew := wal_said (d := d) HP.out (fun k hk => (HT.out k hk).2.1)
    refine .inr ⟨HCC.out.symm, w3.heap.size, S', _, rfl, HW.out.later ((Below.refl _ w3).alloc (Nat.le_refl _) _), hnew, fun k hk => ?_⟩
    rcases hk with e | e
    · exact ⟨(HT.out k e).1, (HT.out k e).2.2⟩
    · have h1 := HW.out.turn.size
      exact ⟨by omega, fun e' => by have := HW.out.at_.low e'; omega⟩
  · have t1 : (cc != 0) = true := by simp [hz]
    have HZ := Lib.hid hz
    clear hz
    go_enter Tryz.func13, Tryz.ntmps13
    go_wp2_with fail
    refine HST.out.mono ?_
    rintro e w3 ⟨rfl, hI⟩
    obtain ⟨hwent, hp, _⟩ := HE.out w3 hI
    have HW := Lib.hid hwent
    clear hI hwent
    go_wp2
    go_ret2
    exact .inl ⟨by rw [← HCC.out]; exact HZ.out, by rw [← HCC.out]; rfl, HW.out⟩

end Go.Proofs.YtienabfilnpieaaGreat
