/-
  What Seal and Open answer, called with any bytes; bytes.Clone; the document's Seal and Open.
-/
import Derived.Test.YtnlhfnebbkpfgaaMarkRef
namespace Go.Proofs.Ytnlhfnebbkpfgaa
open Go.RowKit
set_option linter.unusedVariables false

theorem onB_u (bs : List Int) : U (ofM bs) := onM_u _ bs ofs_u
/-- Sealed bytes. -/
def sealM (bs : List Int) : List Int := bs ++ fldOf 8 (ofM bs)
theorem sealM_eq (bs : List Int) : sealM bs = bs ++ fld 8 (ofM bs) := by
  have : fldOf ((8 : Nat) : Int) (ofM bs) = fld 8 (ofM bs) := fldOf_yes _ (by omega) (by omega)
  unfold sealM
  rw [← this]
  rfl
theorem sealM_length (bs : List Int) : (sealM bs).length = bs.length + 8 := by rw [sealM_eq, List.length_append, fld_length]
theorem sealM_oct {bs : List Int} (h : Oct bs) : Oct (sealM bs) := by
  rw [sealM_eq]
  intro b hb
  rcases List.mem_append.1 hb with hb | hb
  · exact h b hb
  · exact fld_oct 8 _ b hb

set_option maxHeartbeats 400000 in
theorem seal_b (A : Option Addr) (c : Nat) (bs : List Int) (w : World) (hs : Sl w A c bs) (ho : Oct bs) (hbig : bs.length + 8 ≤ 140737488355328) :
    Calls Try.prog 18 #[.slice A bs.length c] w (GivesB w (sealM bs)) := by
  have h1 := of_any A c bs w hs ho (by omega)
  have hu := onB_u bs
  have h2 := fun w1 (hb : Below w.heap.size w w1) => put_b A c bs 8 (ofM bs) w1 (hs.below hb) hbig hu.1 hu.2
  have hS := Lib.hid (show bs ++ fldOf 8 (ofM bs) = sealM bs from rfl)
  generalize ofM bs = z at *
  obtain ⟨P, hP⟩ : ∃ P, P = bs ++ fldOf 8 z := ⟨_, rfl⟩
  rw [← hP] at h2 hS
  have hS := hS.out
  rw [← hS]
  clear hS
  generalize bs.length = l at *
  have H1 := Lib.hid h1
  have H2 := Lib.hid h2
  clear h1 h2 hs ho hP
  go_enter Try.func18, Try.ntmps18
  go_wp2_with fail
  refine H1.out.mono ?_
  rintro e w1 ⟨rfl, hb1⟩
  have HB1 := Lib.hid hb1
  clear hb1
  go_wp2_with fail
  refine (H2.out w1 HB1.out).mono ?_
  rintro e w2 ⟨A2, c2, rfl, hn2, hb2⟩
  have HN := Lib.hid (hn2.low HB1.out.size)
  have HB := Lib.hid (HB1.out.trans (hb2.mono HB1.out.size))
  clear hn2 hb2
  go_wp2
  go_ret
  exact ⟨A2, c2, rfl, HN.out, HB.out⟩

/-- What Open makes of bytes: what stands ahead of the last 8, and the error. -/
def openM (bs : List Int) : List Int × Int := if bs.length < 8 then ([], 7) else if val (bs.drop (bs.length - 8)) = ofM (bs.take (bs.length - 8)) then (bs.take (bs.length - 8), 0) else ([], 130)
def GivesO (w : World) (r : List Int × Int) (e : Ending) (w' : World) : Prop := ∃ A c, e = .returned (.tuple #[.slice A r.1.length c, .int .i64 r.2]) ∧ New w.heap.size w' A c r.1 ∧ Below w.heap.size w w'
theorem New.none (B : Nat) (w : World) : New B w Option.none 0 [] := World.ownsRow_nil _ _ _ _
theorem openM_few {bs : List Int} (h : bs.length < 8) : openM bs = ([], 7) := by simp [openM, h]
theorem openM_no {bs : List Int} {n : Nat} (h : bs.length = n + 8) (hv : val (bs.drop n) ≠ ofM (bs.take n)) : openM bs = ([], 130) := by
  unfold openM
  rw [if_neg (by omega), h, Nat.add_sub_cancel, if_neg hv]
theorem openM_yes {bs : List Int} {n : Nat} (h : bs.length = n + 8) (hv : val (bs.drop n) = ofM (bs.take n)) : openM bs = (bs.take n, 0) := by
  unfold openM
  rw [if_neg (by omega), h, Nat.add_sub_cancel, if_pos hv]
theorem gives_no {w w' : World} {k : Int} (h : Below w.heap.size w w') : GivesO w ([], k) (.returned (.tuple #[.slice none 0 0, .int .i64 k])) w' := ⟨none, 0, rfl, New.none _ _, h⟩
/-- Bytes are those sealed that stand ahead just if the last 8 say their mark. -/
theorem seal_iff {bs : List Int} {n : Nat} (h : bs.length = n + 8) (ho : Oct bs) : sealM (bs.take n) = bs ↔ val (bs.drop n) = ofM (bs.take n) := by
  have hu := onB_u (bs.take n)
  have hd : (bs.drop n).length = 8 := by simp; omega
  rw [sealM_eq]
  constructor
  · intro e
    have e2 : bs.take n ++ fld 8 (ofM (bs.take n)) = bs.take n ++ bs.drop n := by rw [List.take_append_drop]; exact e
    have e3 := List.append_cancel_left e2
    rw [← e3]
    obtain ⟨x, hx⟩ := Int.eq_ofNat_of_zero_le hu.1
    have := hu.2
    rw [hx, val_fld]
    rw [hx] at this
    omega
  · intro e
    rw [← e, fld_val 8 _ hd (ho.drop n), List.take_append_drop]
theorem Sl.first_ {w : World} {A : Option Addr} {c : Nat} {bs : List Int} (h : Sl w A c bs) (n : Nat) (hn : n ≤ bs.length) : Sl w A c (bs.take n) := by
  refine ⟨by have := h.room; simp; omega, h.most, h.rd.take n⟩
theorem Sl.drewN {w : World} {A : Option Addr} {c : Nat} {bs : List Int} (h : Sl w A c bs) (q : Nat) : Sl (w.drewN q) A c bs := ⟨h.room, h.most, h.rd⟩
theorem Sl.less {w : World} {A : Option Addr} {c c' : Nat} {bs : List Int} (h : Sl w A c bs) (h1 : bs.length ≤ c') (h2 : c' ≤ c) : Sl w A c' bs := ⟨h1, by have := h.most; omega, h.rd⟩

set_option maxHeartbeats 1000000 in
theorem open_few (A : Option Addr) (l c : Nat) (w : World) (h : l < 8) :
    Calls Try.prog 19 #[.slice A l c] w fun e w' => e = .returned (.tuple #[.slice none 0 0, .int .i64 7]) ∧ w = w' := by
  have d : ((l : Int) - 8) < 0 := by omega
  go_enter Try.func19, Try.ntmps19
  go_wp2
  go_ret2
  exact ⟨rfl, rfl⟩

set_option maxHeartbeats 1000000 in
set_option maxRecDepth 100000 in
theorem open_all (A : Option Addr) (c n : Nat) (bs : List Int) (w : World) (hl : bs.length = n + 8) (hs : Sl w A c bs) (ho : Oct bs) (hbig : bs.length ≤ 140737488355328) :
    Calls Try.prog 19 #[.slice A (n + 8) c] w (GivesO w (openM bs)) := by
  have hr := hs.room
  rw [hl] at hr hbig
  have hm := hs.most
  have hcut := hs.cut n (by omega)
  obtain ⟨b, o, rfl, _⟩ := hs.rd (by omega)
  have hbh : behind (some ⟨b, o, none⟩) c n = some ⟨b, o + n, none⟩ := by
    unfold behind
    rw [if_neg (by omega)]
    simp [Addr.add_lit]
  rw [hbh] at hcut
  have HCUT := Lib.hid hcut
  have HF := Lib.hid ((hs.first_ n (by omega)).less (c' := n) (by simp; omega) (by omega))
  have HO := Lib.hid ho
  have HD := Lib.hid (show (bs.drop n).length = 8 by simp; omega)
  have HT := Lib.hid (show (bs.take n).length = n by simp; omega)
  have HL := Lib.hid hl
  clear hcut hs ho hbh hl
  have e8 : ((n : Int) + 8 - 8) = (n : Int) := by omega
  go_enter Try.func19, Try.ntmps19
  go_wp2_with fail
  have k := read_b (some ⟨b, o + n, none⟩) (c - n) (bs.drop n) w HCUT.out (HO.out.drop n) (by rw [HD.out]; omega)
  rw [HD.out] at k
  refine k.mono ?_
  clear k
  rintro e w1 ⟨g, A1, c1, rfl, hs1, hg, hb1⟩
  have HS1 := Lib.hid hs1
  have HG := Lib.hid hg
  have HB1 := Lib.hid hb1
  clear hs1 hg hb1
  go_wp2_with fail
  refine (num_yes w1 g A1 c1 (bs.drop n) 0 8 HS1.out (by omega) (by omega) (by rw [HD.out]; omega)).mono ?_
  rintro e w2 ⟨rfl, _, ho2⟩
  have HB2 := Lib.hid (HB1.out.trans (below_of_only ho2 HG.out HB1.out.size))
  have HV := Lib.hid (show (bs.drop n).take 8 = bs.drop n by rw [List.take_of_length_le (by rw [HD.out]; omega)])
  rw [HV.out]
  clear HB1 HS1 HG ho2
  obtain ⟨v, hv⟩ : ∃ v, v = val (bs.drop n) := ⟨_, rfl⟩
  rw [← hv]
  have GV := Lib.hid hv
  clear hv
  go_wp2_with fail
  have k := of_any (some ⟨b, o, none⟩) n (bs.take n) w2 (HF.out.below HB2.out) (HO.out.take n) (by rw [HT.out]; omega)
  rw [HT.out] at k
  refine k.mono ?_
  clear k
  rintro e w3 ⟨rfl, hb3⟩
  have HB3 := Lib.hid (HB2.out.trans (hb3.mono HB2.out.size))
  obtain ⟨z, hz⟩ : ∃ z, z = ofM (bs.take n) := ⟨_, rfl⟩
  rw [← hz]
  have GZ := Lib.hid hz
  clear hb3 HB2 hz
  by_cases e : v = z
  · have hvz : (v != z) = false := by simp [e]
    have HR := Lib.hid (openM_yes (bs := bs) HL.out (by rw [← GV.out, ← GZ.out]; exact e))
    clear e
    go_wp2_with fail
    have k := clone_b (some ⟨b, o, none⟩) n (bs.take n) w3 (HF.out.below HB3.out) (by rw [HT.out]; omega)
    obtain ⟨L, hL⟩ : ∃ L, L = bs.take n := ⟨_, rfl⟩
    have q := HT.out
    rw [← hL] at k q
    have HLL := Lib.hid hL
    rw [q] at k
    clear hL
    refine k.mono ?_
    clear k
    rintro e w4 ⟨A4, c4, rfl, hn4, hb4⟩
    rw [q]
    have HN4 := Lib.hid (hn4.low HB3.out.size)
    have HB4 := Lib.hid (HB3.out.trans (hb4.mono HB3.out.size))
    have HQ := Lib.hid q
    clear hn4 hb4 HB3 q
    go_wp2
    go_ret2
    rw [HR.out]
    refine ⟨A4, c4, ?_, ?_, HB4.out⟩
    · rw [HT.out]; rfl
    · rw [← HLL.out]; exact HN4.out
  · have hvz : (v != z) = true := by simp [e]
    have HR := Lib.hid (openM_no (bs := bs) HL.out (by rw [← GV.out, ← GZ.out]; exact e))
    clear e
    go_wp2
    go_ret2
    rw [HR.out]
    exact gives_no HB3.out

theorem open_b (A : Option Addr) (c : Nat) (bs : List Int) (w : World) (hs : Sl w A c bs) (ho : Oct bs) (hbig : bs.length ≤ 140737488355328) :
    Calls Try.prog 19 #[.slice A bs.length c] w (GivesO w (openM bs)) := by
  by_cases h : bs.length < 8
  · rw [openM_few h]
    exact (open_few A bs.length c w h).mono fun e w' ⟨h1, h2⟩ => by subst h1; subst h2; exact gives_no (Below.refl _ _)
  · obtain ⟨n, hn⟩ : ∃ n, bs.length = n + 8 := ⟨bs.length - 8, by omega⟩
    rw [hn]
    exact open_all A c n bs w hn hs ho hbig

set_option maxHeartbeats 1000000 in
set_option maxRecDepth 100000 in
theorem bclone_any (A : Option Addr) (c : Nat) (bs : List Int) (B : Nat) (w : World) (hr : Rd w B A bs) (hbig : bs.length ≤ 140737488355328) :
    Calls Try.prog 24 #[.slice A bs.length c] w fun e w' => ∃ v', e = .returned v' ∧ w'.ownsRow w.heap.size 5 1 v' bs.length (bs.map (Value.int .u8)) ∧ Below w.heap.size w w' := by
  obtain ⟨i0, hi, hz0, hz1, hz2⟩ := info_parts info5
  have q22 : ∀ (w : World) (a : Option Addr) (n c n' c' : Nat), (binOp .eql 23 (.slice a n c) (.slice none n' c')).run Try.prog w = .ok (.bool a.isNone) w := fun w a n c n' c' => Lib.run_eql_slice_nil w _ _ a n c n' c' Try.underlying23
  have H := Lib.hid hr
  clear hr
  rcases A with _ | ad
  · obtain rfl : bs = [] := by
      rcases bs with _ | ⟨b, bs⟩
      · rfl
      · obtain ⟨_, _, h, _⟩ := H.out (by simp)
        cases h
    go_enter Try.func24, Try.ntmps24
    go_wp2
    go_ret
    exact ⟨_, rfl, World.ownsRow_nil _ _ _ _, Below.refl _ _⟩
  · obtain ⟨n, hn⟩ : ∃ n, n = bs.length := ⟨_, rfl⟩
    rw [← hn] at hbig ⊢
    have HN := Lib.hid hn
    clear hn
    go_enter Try.func24, Try.ntmps24
    go_wp2_with (at_builtin; refine wpList_append_own _ rfl _ _ 23 rfl w.heap.size 5 i0 (.int .u8 0) 1 1 Try.underlying23 hi hz0 hz1 hz2 rfl (by decide) _ _ _ rfl (World.ownsRow_made w #[] 0 (Nat.le_refl _) (Nat.zero_le _) rfl) ad n c (bs.map (Value.int .u8)) rfl ?qc1 ?qc2 ?qc3 ?qc4 ?qc5 ?qc6 ?_)
    case qc1 => simp [HN.out]
    case qc2 =>
      intro j u hj
      have hjn : j < bs.length := by
        have := (List.getElem?_eq_some_iff.1 hj).1
        simpa using this
      obtain ⟨b, o, he, hb, hc⟩ := H.out (by omega)
      injection he with he
      subst he
      rw [Addr.add_lit]
      refine Lib.cell?_alloc_some _ ?_
      rw [hc j hjn]
      simpa [List.getD, List.getElem?_eq_getElem hjn] using hj
    case qc3 => intro u hu; obtain ⟨x, _, rfl⟩ := List.mem_map.1 hu; rfl
    case qc4 => unfold maxLen; omega
    case qc5 => omega
    case qc6 => simp
    intro v' w1 hown hgrow hnil
    go_wp2
    go_ret
    refine ⟨v', rfl, by simpa using hown, ?_⟩
    exact ((Below.refl _ w).alloc (Nat.le_refl _) _).grown hgrow (by simp) (by intro k hk; simp [Value.ownBlock] at hk; omega)

theorem bclone_b (A : Option Addr) (c : Nat) (bs : List Int) (w : World) (hr : Sl w A c bs) (hbig : bs.length ≤ 140737488355328) :
    Calls Try.prog 24 #[.slice A bs.length c] w (GivesB w bs) := (bclone_any A c bs _ w hr.rd hbig).mono fun _ _ h => gives_of h

set_option maxHeartbeats 400000 in
theorem rSeal_b (A : Option Addr) (c : Nat) (bs : List Int) (w : World) (hs : Sl w A c bs) (ho : Oct bs) (hbig : bs.length + 8 ≤ 140737488355328) :
    Calls Try.prog 21 #[.slice A bs.length c] w (GivesB w (sealM bs)) := by
  have h1 := rOf_any A c bs w hs ho
  have hu := onB_u bs
  have h2 := rPut_b A c bs 8 (ofM bs) w hs hbig hu.1 hu.2
  have hS := Lib.hid (show bs ++ fldOf 8 (ofM bs) = sealM bs from rfl)
  generalize ofM bs = z at *
  obtain ⟨P, hP⟩ : ∃ P, P = bs ++ fldOf 8 z := ⟨_, rfl⟩
  rw [← hP] at h2 hS
  have hS := hS.out
  rw [← hS]
  clear hS
  generalize bs.length = l at *
  have H1 := Lib.hid h1
  have H2 := Lib.hid h2
  clear h1 h2 hs ho hP
  go_enter Try.func21, Try.ntmps21
  go_wp2_with fail
  refine H1.out.mono ?_
  rintro e w1 ⟨rfl, rfl⟩
  go_wp2_with fail
  refine H2.out.mono ?_
  rintro e w2 ⟨A2, c2, rfl, hn2, hb2⟩
  go_wp2
  go_ret
  exact ⟨A2, c2, rfl, hn2, hb2⟩

theorem rOpen_few (A : Option Addr) (l c : Nat) (w : World) (h : l < 8) :
    Calls Try.prog 20 #[.slice A l c] w fun e w' => e = .returned (.tuple #[.slice none 0 0, .int .i64 7]) ∧ w = w' := by
  have d : (l : Int) < 8 := by omega
  go_enter Try.func20, Try.ntmps20
  go_wp2
  go_ret2
  exact ⟨rfl, rfl⟩

set_option maxHeartbeats 1000000 in
set_option maxRecDepth 100000 in
theorem rOpen_all (A : Option Addr) (c n : Nat) (bs : List Int) (w : World) (hl : bs.length = n + 8) (hs : Sl w A c bs) (ho : Oct bs) (hbig : bs.length ≤ 140737488355328) :
    Calls Try.prog 20 #[.slice A (n + 8) c] w (GivesO w (openM bs)) := by
  have hr := hs.room
  rw [hl] at hr hbig
  have hm := hs.most
  obtain ⟨L, hL⟩ : ∃ L, L = bs.take n := ⟨_, rfl⟩
  have hLL : L.length = n := by rw [hL]; simp; omega
  have hF : Sl w A c L := by rw [hL]; exact hs.first_ n (by omega)
  have oL : Oct L := by rw [hL]; exact ho.take n
  have hseal := rSeal_b A c L w hF oL (by omega)
  have hsl := sealM_length L
  have hiff := seal_iff hl ho
  rw [← hL] at hiff
  have hno := fun h => openM_no (bs := bs) hl h
  have hyes := fun h => openM_yes (bs := bs) hl h
  rw [← hL] at hno hyes
  obtain ⟨P, hP⟩ : ∃ P, P = sealM L := ⟨_, rfl⟩
  rw [← hP] at hseal hsl hiff
  rw [hLL] at hseal hsl
  have HS := Lib.hid hs
  have HF := Lib.hid hF
  have H1 := Lib.hid hseal
  have HP := Lib.hid hsl
  have HI := Lib.hid hiff
  have HNO := Lib.hid hno
  have HYES := Lib.hid hyes
  have HL := Lib.hid hl
  have HLL := Lib.hid hLL
  clear hs ho hl hF oL hseal hsl hiff hno hyes hP hLL hL
  have e8 : ((n : Int) + 8 - 8) = (n : Int) := by omega
  have d8 : decide ((n : Int) + 8 < 8) = false := by simp; omega
  go_enter Try.func20, Try.ntmps20
  go_wp2_with fail
  refine H1.out.mono ?_
  clear H1
  rintro e w1 ⟨A1, c1, he, hn1, hb1⟩
  have HB1 := Lib.hid hb1
  have HN1 := Lib.hid hn1
  rw [HP.out] at he
  clear hn1 hb1
  subst he
  go_wp2_with fail
  have k := same_any A1 A c1 c P bs w1 HN1.out.sl (HS.out.below HB1.out)
  rw [HP.out, HL.out] at k
  refine k.mono ?_
  clear k
  rintro e w2 ⟨rfl, q, hq⟩
  have HB2 := Lib.hid (show Below w.heap.size w w2 by rw [hq]; exact below_drewN HB1.out q)
  clear hq HB1 HN1
  by_cases e : P = bs
  · rw [show decide (P = bs) = true from decide_eq_true e]
    have HR := Lib.hid (HYES.out (HI.out.1 e))
    clear e
    go_wp2_with (at_builtin; refine app_b rfl (.tmp 18) (.tmp 21) rfl w2.heap.size (.slice (some ⟨w2.heap.size, 0, none⟩) 0 0) 0 [] rfl (World.ownsRow_made w2 #[] 0 (Nat.le_refl _) (Nat.zero_le _) rfl) A c n L rfl HLL.out (((HF.out.below HB2.out).alloc _).rd) (by omega) (by simp) ?_; intro v3 w3 hown3 hg3)
    have hb3 : Below w2.heap.size w2 w3 := ((Below.refl _ w2).alloc (Nat.le_refl _) _).grown hg3 (by simp) (by intro k hk; simp [Value.ownBlock] at hk; omega)
    obtain ⟨A3, c3, rfl, hn3⟩ := new_of (bs := L) hown3 (by simp) (by rw [HLL.out]; omega)
    have HN3 := Lib.hid (hn3.low HB2.out.size)
    have HB3 := Lib.hid (HB2.out.trans (hb3.mono HB2.out.size))
    clear hown3 hg3 hb3 hn3 HB2
    go_wp2
    go_ret2
    rw [HR.out]
    exact ⟨A3, c3, rfl, HN3.out, HB3.out⟩
  · rw [show decide (P = bs) = false from decide_eq_false e]
    have HR := Lib.hid (HNO.out (fun h => e (HI.out.2 h)))
    clear e
    go_wp2
    go_ret2
    rw [HR.out]
    exact gives_no HB2.out

theorem rOpen_b (A : Option Addr) (c : Nat) (bs : List Int) (w : World) (hs : Sl w A c bs) (ho : Oct bs) (hbig : bs.length ≤ 140737488355328) :
    Calls Try.prog 20 #[.slice A bs.length c] w (GivesO w (openM bs)) := by
  by_cases h : bs.length < 8
  · rw [openM_few h]
    exact (rOpen_few A bs.length c w h).mono fun e w' ⟨h1, h2⟩ => by subst h1; subst h2; exact gives_no (Below.refl _ _)
  · obtain ⟨n, hn⟩ : ∃ n, bs.length = n + 8 := ⟨bs.length - 8, by omega⟩
    rw [hn]
    exact rOpen_all A c n bs w hn hs ho hbig

end Go.Proofs.Ytnlhfnebbkpfgaa
