/-
  The law's own model of a log: Open, whole.
  The law's own model of a log: Format, Checkpoint.
  The law's own model of a log: Append.
-/
import Derived.Test.YtienabfilnpieaaGreatModM
namespace Go.Proofs.YtienabfilnpieaaGreat
open Go.RowKit Go.Shelf
set_option linter.unusedVariables false
set_option linter.unusedSimpArgs false
set_option linter.unusedSimpArgs false
set_option maxRecDepth 100000

/-- The disk and the model behind a call. -/
def MGo (S Q : Nat → Prop) (w : World) (mb o : Nat) (M' : AD) (V' : AW) (no' : Bool) (w' : World) : Prop :=
  ∃ S' Q', DiskAt w' S' o M' ∧ ModAt w' Q' mb o V' no' ∧ (∀ k, Q' k → ¬ S' k) ∧ Moved S Q S' Q' w w'
section
variable {w : World} {S Q : Nat → Prop} {o mb : Nat} {M : AD} {V : AW} {no : Bool}
theorem mgo_same {w' : World} {S' : Nat → Prop} {M' : AD} (hm : ModAt w Q mb o V no) (hsep : ∀ k, Q k → ¬ S k) (hd' : DiskAt w' S' o M') (ht : Turn S w w') (hg : ∀ k, S' k → S k ∨ w.heap.size ≤ k) : MGo S Q w mb o M' V no w' :=
  ⟨S', Q, hd', hm.other ht hsep, fun k hk e => (hg k e).elim (hsep k hk) (fun e => by have := hm.low hk; omega), ⟨ht.mono (fun k hk => .inl hk), hg, fun k hk => .inl hk⟩⟩
theorem rows_parts {W : World} {base : Nat} {A : Option Addr} {c : Nat} {ps : List (List Int)} {vs : List Value} (h : RowsAt W base (.slice A ps.length c) ps vs) (ho : ∀ p ∈ ps, Oct p) : PartsAt W (fun k => base ≤ k ∧ k < W.heap.size) A c ps vs := by
  have key : ∀ {e : TypeId} {n m : Nat} {B : Option Addr} {cb : Nat} {xs : List Value}, W.ownsRow base e 1 (.slice B n cb) m xs → W.ownsRow 0 e 1 (.slice B n cb) m xs ∧ ∀ q, blk B = some q → base ≤ q ∧ q < W.heap.size := fun {e n m B cb xs} h => by
    refine ⟨⟨h.1, ?_⟩, fun q hq => h.lt q (by cases B <;> simp_all [Value.ownBlock, blk])⟩
    rcases h.2 with h0 | ⟨g, cap, cur, e1, hg, r⟩
    · exact .inl h0
    · exact .inr ⟨g, cap, cur, e1, Nat.zero_le _, r⟩
  refine ⟨(key h.row).1, fun i p hp => ?_, (key h.row).2⟩
  obtain ⟨B, cb, h1, h2⟩ := h.each i p hp
  exact ⟨B, cb, h1, (key h2).1, (key h2).2, ho p (List.mem_of_getElem? hp)⟩
/-- The four cells of the model are set. -/
theorem mod_end {W : World} {a b d e f b' d' e' f' : Value} (h : W.heap[mb]? = some (.cells #[a, b, d, e, f] 31 (0, 0))) :
    ((((W.setCell ⟨mb, 1, none⟩ b').setCell ⟨mb, 2, none⟩ d').setCell ⟨mb, 3, none⟩ e').setCell ⟨mb, 4, none⟩ f').heap[mb]? = some (.cells #[a, b', d', e', f'] 31 (0, 0)) ∧
    (∀ k, k ≠ mb → ((((W.setCell ⟨mb, 1, none⟩ b').setCell ⟨mb, 2, none⟩ d').setCell ⟨mb, 3, none⟩ e').setCell ⟨mb, 4, none⟩ f').heap[k]? = W.heap[k]?) ∧
    Turn (fun k => k = mb) W ((((W.setCell ⟨mb, 1, none⟩ b').setCell ⟨mb, 2, none⟩ d').setCell ⟨mb, 3, none⟩ e').setCell ⟨mb, 4, none⟩ f') := by
  have e2 : ∀ k, k ≠ mb → ((((W.setCell ⟨mb, 1, none⟩ b').setCell ⟨mb, 2, none⟩ d').setCell ⟨mb, 3, none⟩ e').setCell ⟨mb, 4, none⟩ f').heap[k]? = W.heap[k]? := fun k hk => (Below.heap_setCell _ _ _ _ hk).trans ((Below.heap_setCell _ _ _ _ hk).trans ((Below.heap_setCell _ _ _ _ hk).trans (Below.heap_setCell _ _ _ _ hk)))
  exact ⟨heap_set (heap_set (heap_set (heap_set h 1 b') 2 d') 3 e') 4 f', e2, ⟨rfl, rfl, rfl, by simp [World.setCell], fun k _ hn => e2 k hn⟩⟩

theorem MGo.later {w' w'' : World} {M' : AD} {V' : AW} {no' : Bool} (h : MGo S Q w mb o M' V' no' w') (hb : Below w'.heap.size w' w'') : MGo S Q w mb o M' V' no' w'' := by
  obtain ⟨S', Q', h1, h2, h3, h4⟩ := h
  exact ⟨S', Q', h1.later hb, h2.later hb, h3, ⟨h4.turn.trans (Turn.of_below (S := fun _ => False) hb) (fun _ e => e.elim), h4.s, h4.t⟩⟩
/-- What Open makes of the model. -/
def AD.opV (M : AD) (V : AW) : AW := if M.openC = 0 then openV M else V
def AD.opN (M : AD) (no : Bool) : Bool := if M.openC = 0 then false else no
theorem two_open {bs : List Int} (hoc : M.opC 0 [] = 0) (hbs : bs = M.readB 0) (hok : okL bs) : M.loadC = 0 ∧ M.openC = M.loadM.twoC ((costM (partsM bs) : Int) + 20) ∧ M.openM = M.loadM.twoM ((costM (partsM bs) : Int) + 20) ∧ M.loadM.len 0 = bs.length := by
  have hh : hearC bs = 0 := by unfold hearC; rw [if_neg (fun e => e.elim hok.1 hok.2)]
  have l1 : M.loadC = 0 := by unfold AD.loadC; rw [hoc, if_pos rfl, ← hbs]; exact hh
  have e1 : M.endM = (costM (partsM bs) : Int) + 20 := by unfold AD.endM; rw [hbs]
  have e2 : M.cutC = M.loadM.trimC ((costM (partsM bs) : Int) + 20) := by unfold AD.cutC; rw [e1]
  have e3 : M.cutM = M.loadM.trimM ((costM (partsM bs) : Int) + 20) := by unfold AD.cutM; rw [e1]
  refine ⟨l1, ?_, ?_, ?_⟩
  · unfold AD.openC AD.twoC; rw [l1, if_neg (by simp), e2, e3]
  · unfold AD.openM AD.twoM; rw [l1, if_neg (by simp), e2, e3]
  · have hr : M.readB 0 = (M.file 0).bs := by unfold AD.readB; rw [hoc, if_pos rfl]
    have ha : M.ask 0 [] = 0 := by
      unfold AD.opC at hoc
      split at hoc
      · assumption
      · exact hoc
    have he : M.err = 0 := by unfold AD.opC at hoc; rw [if_pos ha] at hoc; exact hoc
    have hl : M.loadM = M.met := by unfold AD.loadM AD.opM; rw [if_pos ha, if_pos he]
    rw [hl, hbs, hr, len_file]
    unfold AD.len
    rw [met_files]

set_option maxHeartbeats 4000000 in
theorem mOpen_any (hd : DiskAt w S o M) (hops : M.ops < 4611686018427380000) (hm : ModAt w Q mb o V no) (hsep : ∀ k, Q k → ¬ S k) (ho : Oct (M.readB 0)) (hlen : (M.readB 0).length ≤ 100000) :
    Calls Tryz.prog 35 #[.pointer (some ⟨mb, 0, none⟩)] w fun e w' => e = .returned (.int .i64 M.openC) ∧ MGo S Q w mb o M.openM (M.opV V) (M.opN no) w' := by
  obtain ⟨W1, hW1⟩ : ∃ W1, W1 = w.alloc (.cells #[.pointer (some ⟨mb, 0, none⟩)] 28) := ⟨_, rfl⟩
  have hb1 : Below w.heap.size w W1 := by rw [hW1]; exact (Below.refl _ w).alloc (Nat.le_refl _) _
  have s1 : W1.heap.size = w.heap.size + 1 := by rw [hW1]; simp
  have hx1 : W1.heap[w.heap.size]? = some (.cells #[.pointer (some ⟨mb, 0, none⟩)] 28 (0, 0)) := by rw [hW1]; exact heap_alloc_new w _
  have hmo := hm.mo
  have hmS : ¬ S mb := hsep mb hm.inQ
  have hlowS : ∀ k, w.heap.size ≤ k → ¬ S k := fun k hk e => by have := hd.low e; omega
  have hmo1 : Mo W1 w.heap.size mb o := ⟨by simp only [World.cell?, hx1]; rfl, (hb1.cell (p := ⟨mb, 0, none⟩) (World.block_lt_of_cell? _ _ hmo)).trans hmo⟩
  have HRD := Lib.hid (read_any (hd.later hb1) (k := 0) (by decide) (by omega))
  obtain ⟨oc, hoc⟩ : ∃ oc, oc = M.opC 0 [] := ⟨_, rfl⟩
  have HOC := Lib.hid hoc
  have HLC := Lib.hid (show M.loadC = if oc = 0 then hearC (M.readB 0) else if oc = 4 then 140 else oc by unfold AD.loadC; rw [hoc])
  have HSAME := Lib.hid (fun (w' : World) (M' : AD) (hd' : DiskAt w' S o M') (ht : Turn S W1 w') => mgo_same hm hsep hd' ((Turn.of_below (S := S) hb1).trans ht (fun k hk => .inl hk)) (fun k hk => .inl hk))
  have HNO := Lib.hid (show M.loadC ≠ 0 → M.openC = M.loadC ∧ M.openM = M.loadM from fun h => by unfold AD.openC AD.openM; rw [if_pos h, if_pos h]; exact ⟨rfl, rfl⟩)
  obtain ⟨cc, hcc⟩ : ∃ cc, cc = M.openC := ⟨_, rfl⟩
  have HCC := Lib.hid hcc
  have HFIN := Lib.hid (fun (w' : World) (hl : M.loadC ≠ 0) (hg : MGo S Q w mb o M.loadM V no w') => show cc = M.loadC ∧ MGo S Q w mb o M.openM (M.opV V) (M.opN no) w' from by obtain ⟨e1, e2⟩ := HNO.out hl; unfold AD.opV AD.opN; rw [e2, e1, if_neg hl, if_neg hl]; exact ⟨hcc.trans e1, hg⟩)
  rw [← hcc]
  clear hcc
  have HW1 := Lib.hid hW1
  have HMO := Lib.hid hmo1
  have HLS := Lib.hid (And.intro hmS hlowS)
  have HOL := Lib.hid (And.intro ho hlen)
  have HD := Lib.hid hd
  have HM := Lib.hid hm
  have HB1 := Lib.hid (And.intro hb1 s1)
  have HSP := Lib.hid hsep
  have HOPS := Lib.hid hops
  have hop1 := hmo1.p
  have hop2 := hmo1.m
  rw [HW1.out] at HRD hop1 hop2
  clear hd hops hm hsep ho hlen hW1 hb1 s1 hx1 hmo hmS hlowS hmo1 hoc
  by_cases h0 : oc = 0
  · subst h0
    have HC := Lib.hid (show M.loadC = hearC (M.readB 0) by rw [HLC.out, if_pos rfl])
    go_enter Tryz.func35, Tryz.ntmps35
    go_wp2_with fail
    refine HRD.out.mono ?_
    rintro e w2 ⟨v, rfl, hrow, hd2, ht2⟩
    rw [← HW1.out] at ht2
    rw [← HOC.out]
    obtain ⟨A, c, rfl, hsl⟩ := row_sl (n := 0) hrow
    obtain ⟨bs, hbs⟩ : ∃ bs, bs = M.readB 0 := ⟨_, rfl⟩
    rw [← hbs] at hsl HOL HC ⊢
    obtain ⟨l, hl⟩ : ∃ l, l = bs.length := ⟨_, rfl⟩
    have hrd := fun (W : World) (hW : Below w2.heap.size w2 W) => rRead_any A c bs W (hsl.below hW) HOL.out.1 HOL.out.2
    rw [← hl] at hrd ⊢
    have HRR := Lib.hid hrd
    have hbo := (Below.refl _ w2).alloc (Nat.le_refl _) (.cells #[.slice A l c] 33)
    have hxb := heap_alloc_new w2 (.cells #[.slice A l c] 33)
    have HG2 := Lib.hid (HSAME.out w2 M.loadM hd2 ht2)
    by_cases hok : okL bs
    · have HOK := Lib.hid hok
      have HBS := Lib.hid hbs
      have HL := Lib.hid hl
      have HT2 := Lib.hid ht2
      have HD2 := Lib.hid (show DiskAt w2 S o M.loadM from hd2)
      have HBO := Lib.hid hbo
      have HXB := Lib.hid hxb
      clear hrow hd2 ht2 hsl hbs hl hrd hbo hxb hok
      go_wp2_with fail
      refine (HRR.out _ HBO.out).mono ?_
      rintro e w4 ⟨hb4, _, hyes⟩
      obtain ⟨A7, c7, vs7, rfl, hrows⟩ := hyes HOK.out
      have HB4 := Lib.hid hb4
      have HRW := Lib.hid hrows
      clear hb4 hyes hrows
      obtain ⟨W5, hW5⟩ : ∃ W5, W5 = w4.alloc (.cells #[.int .i64 (limitM bs), .slice A7 (partsM bs).length c7, .int .i64 ((costM (partsM bs) : Int) + 20)] 47) := ⟨_, rfl⟩
      obtain ⟨W6, hW6⟩ : ∃ W6, W6 = W5.alloc (.cells #[pStepV w4.heap.size w2.heap.size w.heap.size 0, pStepV w4.heap.size w2.heap.size w.heap.size 1] 71) := ⟨_, rfl⟩
      have s5 : W5.heap.size = w4.heap.size + 1 := by rw [hW5]; simp
      have s6 : W6.heap.size = w4.heap.size + 2 := by rw [hW6]; simp [s5]
      have b5 : Below w4.heap.size w4 W5 := by rw [hW5]; exact (Below.refl _ w4).alloc (Nat.le_refl _) _
      have b56 : Below W5.heap.size W5 W6 := by rw [hW6]; exact (Below.refl _ W5).alloc (Nat.le_refl _) _
      have b6 : Below w4.heap.size w4 W6 := b5.trans (b56.mono (by omega))
      have s3 : (w2.alloc (.cells #[.slice A l c] 33)).heap.size = w2.heap.size + 1 := by simp
      have s4 := HB4.out.size
      have b24 : Below w2.heap.size w2 w4 := HBO.out.trans (HB4.out.mono HBO.out.size)
      have b26 : Below w2.heap.size w2 W6 := b24.trans (b6.mono b24.size)
      have sw2 : w.heap.size + 1 ≤ w2.heap.size := by have := HT2.out.size; have := HB1.out.2; omega
      have e5 : W5.heap[w4.heap.size]? = some (.cells #[.int .i64 (limitM bs), .slice A7 (partsM bs).length c7, .int .i64 ((costM (partsM bs) : Int) + 20)] 47 (0, 0)) := by rw [hW5]; exact heap_alloc_new w4 _
      have e6 : W6.heap[W5.heap.size]? = some (.cells #[pStepV w4.heap.size w2.heap.size w.heap.size 0, pStepV w4.heap.size w2.heap.size w.heap.size 1] 71 (0, 0)) := by rw [hW6]; exact heap_alloc_new W5 _
      have f5 : W6.heap[w4.heap.size]? = _ := (b56.block _ (by omega)).trans e5
      rw [s5] at e6
      have hnS : ∀ k, w.heap.size ≤ k → ¬ S k := HLS.out.2
      have hd6 := HD2.out.later b26
      have hmod2 : ModAt w2 Q mb o V no := ((HM.out.later HB1.out.1).other HT2.out HSP.out)
      have hmod6 := hmod2.later b26
      have hmo2 : Mo w2 w.heap.size mb o := HMO.out.turn HT2.out (hnS _ (Nat.le_refl _)) HLS.out.1
      have hmo6 := hmo2.later b26
      have hbx6 : W6.cell? ⟨w2.heap.size, 0, none⟩ = some (.slice A l c) := by
        have : W6.heap[w2.heap.size]? = _ := (b6.block _ (by omega)).trans ((HB4.out.block _ (by omega)).trans HXB.out)
        simp only [World.cell?, this]
        rfl
      obtain ⟨l1, o1, o2, o3⟩ := two_open HOC.out.symm HBS.out HOK.out
      have hlo := loadM_ops M
      have hcl : costM (partsM bs) ≤ 16000 := by have := parts_cost bs HOK.out.1; have := (limitM_lim bs HOK.out.1).1.2; omega
      have hops := HOPS.out
      have key := pSteps_any hd6 (by omega) hmo6 (x := w4.heap.size) (bx := w2.heap.size) (q := w4.heap.size + 1) (en := (costM (partsM bs) : Int) + 20) (WalkArith.wf_i64 (by omega)) (l := l) (by rw [o3]; exact HL.out) (three_facts f5).2.2.1 hbx6 ⟨hnS _ (Nat.le_refl _), HLS.out.1, hnS _ (by omega), hnS _ (by omega)⟩ e6
      rw [← o1, ← o2] at key
      -- what the end wants to know
      have hend : ∀ w7, After S o W6 M.openM w7 → Mo w7 w.heap.size mb o ∧ (∃ A0 c0 vs0, ModIn w7 Q mb o V no A0 c0 vs0) ∧ w7.heap[w4.heap.size]? = some (.cells #[.int .i64 (limitM bs), .slice A7 (partsM bs).length c7, .int .i64 ((costM (partsM bs) : Int) + 20)] 47 (0, 0)) ∧
          PartsAt w7 (fun k => (w2.alloc (.cells #[.slice A l c] 33)).heap.size ≤ k ∧ k < w4.heap.size) A7 c7 (partsM bs) vs7 ∧ Turn S w w7 ∧ w4.heap.size ≤ W6.heap.size ∧ w.heap.size < w2.heap.size := fun w7 ha => by
        refine ⟨hmo6.turn ha.2 (hnS _ (Nat.le_refl _)) HLS.out.1, hmod6.other ha.2 HSP.out, (ha.2.block _ (by omega) (hnS _ (by omega))).trans f5, ?_, ?_, by omega, by omega⟩
        · refine (rows_parts HRW.out (parts_octs HOL.out.1)).turn fun k hk => ?_
          exact (ha.2.block k (by omega) (hnS _ (by omega))).trans (b6.block k hk.2)
        · have t1 : Turn S w w2 := (Turn.of_below (S := S) HB1.out.1).trans HT2.out (fun k hk => .inl hk)
          exact (t1.trans (Turn.of_below (S := S) b26) (fun k hk => .inl hk)).trans ha.2 (fun k hk => .inl hk)
      have HEND := Lib.hid hend
      have HK := Lib.hid key
      have HS46 := Lib.hid (And.intro s6 (And.intro s3 s4))
      have HSW := Lib.hid (And.intro sw2 b24.size)
      rw [hW6, hW5] at HK HEND HS46
      rw [← HCC.out] at HK
      clear key hW5 hW6 s5 s6 b5 b56 b6 s3 s4 b24 b26 sw2 e5 e6 f5 hnS hd6 hmod2 hmod6 hmo2 hmo6 hbx6 l1 o1 o2 o3 hlo hcl hops hend W5 W6
      by_cases hz : cc = 0
      · subst hz
        have HV := Lib.hid (show M.opV V = ⟨limitM bs, partsM bs, false⟩ ∧ M.opN no = false from by unfold AD.opV AD.opN; rw [← HCC.out, if_pos rfl, if_pos rfl]; exact ⟨by unfold openV; rw [← HBS.out], rfl⟩)
        go_wp2_with fail
        refine HK.out.mono ?_
        rintro e w7 ⟨rfl, ha⟩
        obtain ⟨g1, ⟨A0, c0, vs0, g2⟩, g3, g4, g5, g6, g7⟩ := HEND.out w7 ha
        have HA := Lib.hid ha
        have HX := Lib.hid (And.intro g4 (And.intro g5 (And.intro g6 g7)))
        have HB7 := Lib.hid g2
        obtain ⟨p1, p2⟩ := g1
        obtain ⟨m0, m1, m2, m3, m4, m5, m6, m7, m8⟩ := mod_cells g2.box
        obtain ⟨x0, x1, x2, _⟩ := three_facts g3
        have hml := HM.out.low HM.out.inQ
        have hsw := HSW.out
        have n1 : ¬ w4.heap.size = mb := by omega
        have n2 : ¬ mb = w4.heap.size := by omega
        have n3 : ¬ w.heap.size = mb := by omega
        have n4 : ¬ mb = w.heap.size := by omega
        have n5 : w4.heap.size ≠ mb := n1
        have n6 : w.heap.size ≠ mb := n3
        clear ha g2 g3 g4 g5 g6 g7 hml
        go_upto_region 11 with fail
        go_region
        obtain ⟨q1, q2, q3⟩ := mod_end (b' := .int .i64 (limitM bs)) (d' := .slice A7 (partsM bs).length c7) (e' := .bool false) (f' := .bool false) HB7.out.box
        obtain ⟨W8, hW8⟩ : ∃ W8, W8 = ((((w7.setCell ⟨mb, 1, none⟩ (.int .i64 (limitM bs))).setCell ⟨mb, 2, none⟩ (.slice A7 (partsM bs).length c7)).setCell ⟨mb, 3, none⟩ (.bool false)).setCell ⟨mb, 4, none⟩ (.bool false)).drew := ⟨_, rfl⟩
        have HQ := Lib.hid (show W8.heap[mb]? = some (.cells #[.pointer (some ⟨o, 0, none⟩), .int .i64 (limitM bs), .slice A7 (partsM bs).length c7, .bool false, .bool false] 31 (0, 0)) ∧ (∀ k, k ≠ mb → W8.heap[k]? = w7.heap[k]?) ∧ Turn (fun k => k = mb) w7 W8 from by rw [hW8]; exact ⟨q1, q2, q3.drew⟩)
        rw [← hW8]
        clear q1 q2 q3 hW8 p1 p2 m0 m1 m2 m3 m4 m5 m6 m7 m8 x0 x1 x2 n1 n2 n3 n4 n5 n6
        go_wp2
        go_ret
        rw [HV.out.1, HV.out.2]
        have hml := HM.out.low HM.out.inQ
        have hsw := HSW.out
        have h46 := HS46.out
        have hx := HX.out
        have hz78 := HQ.out.2.2.size
        have hmbS : ¬ grew S ((w4.alloc (.cells #[.int .i64 (limitM bs), .slice A7 (partsM bs).length c7, .int .i64 ((costM (partsM bs) : Int) + 20)] 47)).alloc (.cells #[pStepV w4.heap.size w2.heap.size w.heap.size 0, pStepV w4.heap.size w2.heap.size w.heap.size 1] 71)) w7 mb := fun e => e.elim HLS.out.1 (fun e => by omega)
        refine ⟨rfl, _, fun k => k = mb ∨ ((w2.alloc (.cells #[.slice A l c] 33)).heap.size ≤ k ∧ k < w4.heap.size), HA.out.1.other HQ.out.2.2 (fun k hk e => hmbS (by rw [← e]; exact hk)), ⟨A7, c7, vs7, HQ.out.1, ?_, .inl rfl, fun k hk => ?_⟩, fun k hk e => ?_, ⟨(hx.2.1.mono (fun k hk => .inl hk)).trans HQ.out.2.2 (fun k hk => .inl (.inr (by rw [hk]; exact HM.out.inQ))), fun k hk => hk.imp id (fun e => by omega), fun k hk => ?_⟩⟩
        · refine (hx.1.turn fun k hk => HQ.out.2.1 k (by omega)).widen (fun k hk => .inr hk)
        · have := HA.out.2.size
          rcases hk with e | e <;> omega
        · rcases hk with e2 | e2
          · exact hmbS (by rw [← e2]; exact e)
          · rcases e with e | e
            · have := HLS.out.2 k (by omega); exact this e
            · omega
        · rcases hk with e | e
          · exact .inl (by rw [e]; exact HM.out.inQ)
          · exact .inr (by omega)
      · have t1 : (cc == 0) = false := by simp [hz]
        have HV := Lib.hid (show M.opV V = V ∧ M.opN no = no from by unfold AD.opV AD.opN; rw [← HCC.out, if_neg hz, if_neg hz]; exact ⟨rfl, rfl⟩)
        clear hz
        go_wp2_with fail
        refine HK.out.mono ?_
        rintro e w7 ⟨rfl, ha⟩
        obtain ⟨_, g2, _, _, g5, g6, g7⟩ := HEND.out w7 ha
        have HA := Lib.hid ha
        have HX := Lib.hid (And.intro g2 (And.intro g5 (And.intro g6 g7)))
        clear ha g2 g5 g6 g7
        go_wp2
        go_ret
        rw [HV.out.1, HV.out.2]
        refine ⟨rfl, _, Q, HA.out.1, HX.out.1, fun k hk e => ?_, ⟨HX.out.2.1.mono (fun k hk => .inl hk), fun k hk => hk.imp id (fun e => ?_), fun k hk => .inl hk⟩⟩
        · rcases e with e | e
          · exact HSP.out k hk e
          · have := HM.out.low hk
            have := HX.out.2.2.1
            have := HX.out.2.2.2
            have := HS46.out
            omega
        · have := HX.out.2.2.1
          have := HX.out.2.2.2
          have := HS46.out
          omega
    · have hh : hearC bs = 140 := by
        unfold hearC
        rw [if_pos]
        by_cases h1 : limitM bs = 0
        · exact .inl h1
        · by_cases h2 : partsM bs = []
          · exact .inr h2
          · exact absurd ⟨h1, h2⟩ hok
      have HNK := Lib.hid hok
      have HH := Lib.hid (show M.loadC = 140 from HC.out.trans hh)
      have HBO := Lib.hid hbo
      clear hrow hd2 ht2 hsl hbs hl hrd hbo hxb hok hh
      go_wp2_with fail
      refine (HRR.out _ HBO.out).mono ?_
      rintro e w4 ⟨hb4, hno, _⟩
      have e4 := hno HNK.out
      subst e4
      have HB4 := Lib.hid hb4
      clear hb4 hno
      go_wp2
      go_ret
      obtain ⟨f1, f2⟩ := HFIN.out _ (by rw [HH.out]; decide) ((HG2.out.later (HBO.out.trans (HB4.out.mono HBO.out.size))).later ((Below.refl _ w4).alloc (Nat.le_refl _) (.cells #[.int .i64 0, .slice none 0 0, .int .i64 0] 47)))
      exact ⟨by rw [f1, HH.out]; rfl, f2⟩
  · by_cases h4 : oc = 4
    · subst h4
      have HH := Lib.hid (show M.loadC = 140 by rw [HLC.out]; rfl)
      clear h0
      go_enter Tryz.func35, Tryz.ntmps35
      go_wp2_with fail
      refine HRD.out.mono ?_
      rintro e w2 ⟨v, rfl, hrow, hd2, ht2⟩
      rw [← HW1.out] at ht2
      rw [← HOC.out]
      obtain ⟨A, c, rfl, _⟩ := row_sl (n := 0) hrow
      generalize (M.readB 0).length = l at *
      have HG2 := Lib.hid (HSAME.out w2 M.loadM hd2 ht2)
      clear hrow hd2 ht2
      go_wp2
      go_ret
      obtain ⟨f1, f2⟩ := HFIN.out _ (by rw [HH.out]; decide) (HG2.out.later ((Below.refl _ w2).alloc (Nat.le_refl _) (.cells #[.slice A l c] 33)))
      exact ⟨by rw [f1, HH.out]; rfl, f2⟩
    · have t1 : (oc == 4) = false := by simpa using h4
      have t2 : (oc != 0) = true := by simpa using h0
      have t3 : (oc == 0) = false := by simpa using h0
      have HH := Lib.hid (show M.loadC = oc by rw [HLC.out, if_neg h0, if_neg h4])
      have H0 := Lib.hid h0
      clear h0 h4
      go_enter Tryz.func35, Tryz.ntmps35
      go_wp2_with fail
      refine HRD.out.mono ?_
      rintro e w2 ⟨v, rfl, hrow, hd2, ht2⟩
      rw [← HW1.out] at ht2
      rw [← HOC.out]
      obtain ⟨A, c, rfl, _⟩ := row_sl (n := 0) hrow
      generalize (M.readB 0).length = l at *
      have HG2 := Lib.hid (HSAME.out w2 M.loadM hd2 ht2)
      clear hrow hd2 ht2
      go_wp2
      go_ret
      obtain ⟨f1, f2⟩ := HFIN.out _ (by rw [HH.out]; exact H0.out) (HG2.out.later ((Below.refl _ w2).alloc (Nat.le_refl _) (.cells #[.slice A l c] 33)))
      exact ⟨by rw [f1, HH.out]; rfl, f2⟩
end

end Go.Proofs.YtienabfilnpieaaGreat

namespace Go.Proofs.YtienabfilnpieaaGreat
open Go.RowKit Go.Shelf
set_option linter.unusedVariables false
set_option linter.unusedSimpArgs false
set_option linter.unusedSimpArgs false
set_option maxRecDepth 100000

def AD.fmtC (M : AD) (n : Int) : Int := if BadF M n then 2 else M.makeC (fileM n [])
def AD.fmtM (M : AD) (n : Int) : AD := if BadF M n then M else M.makeM (fileM n [])
def AD.fmtV (M : AD) (n : Int) (V : AW) : AW := if M.fmtC n = 0 then newW n else V
def AD.fmtN (M : AD) (n : Int) (no : Bool) : Bool := if M.fmtC n = 0 then false else no
theorem one_row {W : World} {g : Nat} {u : Value} (h : W.heap[g]? = some (.cells #[u] 33 (0, 0))) : W.ownsRow 0 33 1 (.slice (some ⟨g, 0, none⟩) 1 1) 1 [u] :=
  ⟨rfl, .inr ⟨g, 1, _, rfl, Nat.zero_le _, h, Nat.le_refl _, by simp [maxLen], rfl, rfl⟩⟩
theorem no_row {W : World} {g : Nat} (h : W.heap[g]? = some (.cells #[] 5 (0, 0))) : W.ownsRow 0 5 1 (.slice (some ⟨g, 0, none⟩) 0 0) 0 [] :=
  ⟨rfl, .inr ⟨g, 0, _, rfl, Nat.zero_le _, h, Nat.le_refl _, by simp [maxLen], rfl, rfl⟩⟩
section
variable {w : World} {S Q : Nat → Prop} {o mb : Nat} {M : AD} {V : AW} {no : Bool}
/-- The model got other cells, and parts of its own. -/
theorem mgo_set {w2 w4 : World} {S' : Nat → Prop} {M' : AD} {V' : AW} {no' : Bool} {A : Option Addr} {c : Nat} {vs : List Value} {R : Nat → Prop}
    (hm : ModAt w Q mb o V no) (hsep : ∀ k, Q k → ¬ S k) (hd2 : DiskAt w2 S' o M') (ht : Turn S w w2) (hg : ∀ k, S' k → S k ∨ w.heap.size ≤ k)
    (hbox : w4.heap[mb]? = some (.cells (modC o V' A c no') 31 (0, 0))) (ht4 : Turn (fun k => k = mb ∨ (R k ∧ ¬ S' k ∧ (Q k ∨ w.heap.size ≤ k))) w2 w4) (hp : PartsAt w4 R A c V'.parts vs)
    (hR : ∀ k, R k → k < w4.heap.size ∧ ¬ S' k ∧ (Q k ∨ w.heap.size ≤ k)) : MGo S Q w mb o M' V' no' w4 := by
  have hmb := hm.inQ
  have hml := hm.low hmb
  have hmS' : ¬ S' mb := fun e => (hg mb e).elim (hsep mb hmb) (fun e => by omega)
  have hz2 := ht.size
  have hz4 := ht4.size
  refine ⟨S', fun k => k = mb ∨ R k, hd2.other ht4 (fun k hk e => ?_), ⟨A, c, vs, hbox, hp.widen (fun k hk => .inr hk), .inl rfl, fun k hk => ?_⟩, fun k hk e => ?_, ⟨?_, hg, fun k hk => ?_⟩⟩
  · rcases e with e | e
    · exact hmS' (by rw [← e]; exact hk)
    · exact e.2.1 hk
  · rcases hk with e | e
    · omega
    · exact (hR k e).1
  · rcases hk with e2 | e2
    · exact hmS' (by rw [← e2]; exact e)
    · exact (hR k e2).2.1 e
  · refine (ht.mono (fun k hk => .inl hk)).trans ht4 (fun k hk => ?_)
    rcases hk with e | e
    · exact .inl (.inr (by rw [e]; exact hmb))
    · exact e.2.2.imp .inr id
  · rcases hk with e | e
    · exact .inl (by rw [e]; exact hmb)
    · exact (hR k e).2.2
theorem ModAt.boxed (h : ModAt w Q mb o V no) {w2 : World} (ht : Turn S w w2) (hsep : ∀ k, Q k → ¬ S k) : ∃ A c vs, ModIn w2 Q mb o V no A c vs := h.other ht hsep

set_option maxHeartbeats 2000000 in
theorem mFormat_any (hd : DiskAt w S o M) (hops : M.ops < 4611686018427380000) (hm : ModAt w Q mb o V no) (hsep : ∀ k, Q k → ¬ S k) (n : Int) (hn : I64 n) :
    Calls Tryz.prog 36 #[.pointer (some ⟨mb, 0, none⟩), .int .i64 n] w fun e w' => e = .returned (.int .i64 (M.fmtC n)) ∧ MGo S Q w mb o (M.fmtM n) (M.fmtV n V) (M.fmtN n no) w' := by
  have hmo := hm.mo
  have HLI := Lib.hid (rLimit_any n)
  have HSAME := Lib.hid (mgo_same hm hsep hd (Turn.refl S w) (fun k hk => .inl hk))
  obtain ⟨cc, hcc⟩ : ∃ cc, cc = M.fmtC n := ⟨_, rfl⟩
  by_cases hl : Lim n
  · have HRM := Lib.hid (room_at hd)
    obtain ⟨l1, l2⟩ := hl
    have z1 : IntKind.i64.wrap (n + 20) = n + 20 := i64_fit (by omega)
    have z2 : IntKind.i64.wrap (2 * (n + 20)) = 2 * (n + 20) := i64_fit (by omega)
    have HLY := Lib.hid (show decide (Lim n) = true from decide_eq_true ⟨l1, l2⟩)
    by_cases hr : M.room < 2 * (n + 20)
    · have t1 : decide (M.room < 2 * (n + 20)) = true := decide_eq_true hr
      have hbad : BadF M n := .inr hr
      have HE := Lib.hid (show cc = 2 ∧ M.fmtM n = M ∧ M.fmtV n V = V ∧ M.fmtN n no = no from by
        have e : M.fmtC n = 2 := by unfold AD.fmtC; rw [if_pos hbad]
        unfold AD.fmtM AD.fmtV AD.fmtN
        rw [e, if_pos hbad, if_neg (by decide), if_neg (by decide)]
        exact ⟨hcc.trans e, rfl, rfl, rfl⟩)
      rw [← hcc]
      clear hd hops hm hsep hcc hbad hr
      generalize M.room = rm at *
      go_enter Tryz.func36, Tryz.ntmps36
      go_wp2_with (first
        | (go_at_call 61; refine (HLI.out _).mono ?_; rw [HLY.out]; rintro e w' ⟨rfl, rfl⟩)
        | (go_at_call 79; refine HRM.out.mono ?_; rintro e w' ⟨rfl, rfl⟩))
      go_ret
      rw [HE.out.1, HE.out.2.1, HE.out.2.2.1, HE.out.2.2.2]
      exact ⟨rfl, HSAME.out⟩
    · have t1 : decide (M.room < 2 * (n + 20)) = false := decide_eq_false hr
      have hbad : ¬ BadF M n := fun e => e.elim (fun e => e ⟨l1, l2⟩) hr
      have e0 : M.fmtC n = M.makeC (fileM n []) := by unfold AD.fmtC; rw [if_neg hbad]
      have e1 : M.fmtM n = M.makeM (fileM n []) := by unfold AD.fmtM; rw [if_neg hbad]
      have HMK := Lib.hid (makes_any hd (by omega) (n := n) ⟨by omega, l2⟩ (A := none) (l := 0) (c := 0) (s := []) rfl ⟨by simp, by simp, fun h => by simp at h⟩ (fun b hb => by simp at hb) (by simp) (fun q hq => by simp [blk] at hq) hmo (hsep mb hm.inQ))
      rw [← e0, ← e1, ← hcc] at HMK
      have HD := Lib.hid hd
      have HM := Lib.hid hm
      have HSP := Lib.hid hsep
      rw [← hcc]
      clear hd hops hm hsep hbad hr e0 e1
      generalize M.room = rm at *
      by_cases hz : cc = 0
      · subst hz
        have HE := Lib.hid (show M.fmtV n V = newW n ∧ M.fmtN n no = false from by unfold AD.fmtV AD.fmtN; rw [← hcc, if_pos rfl, if_pos rfl]; exact ⟨rfl, rfl⟩)
        clear hcc
        go_enter Tryz.func36, Tryz.ntmps36
        go_wp2_with (first
          | (go_at_call 61; refine (HLI.out _).mono ?_; rw [HLY.out]; rintro e w' ⟨rfl, rfl⟩)
          | (go_at_call 79; refine HRM.out.mono ?_; rintro e w' ⟨rfl, rfl⟩))
        refine HMK.out.mono ?_
        rintro e w2 ⟨rfl, ha⟩
        have HA := Lib.hid ha
        obtain ⟨A0, c0, vs0, g2⟩ := HM.out.other ha.2 HSP.out
        obtain ⟨m0, m1, m2, m3, m4, m5, m6, m7, m8⟩ := mod_cells g2.box
        have HB2 := Lib.hid g2
        have hml : mb < w2.heap.size := g2.low mb g2.inQ
        have n1 : ¬ mb = w2.heap.size := by omega
        have n2 : ¬ mb = w2.heap.size + 1 := by omega
        have n3 : mb < w2.heap.size + 1 := by omega
        clear ha g2
        go_wp2_with fail
        go_ret
        rw [HE.out.1, HE.out.2]
        refine ⟨rfl, ?_⟩
        obtain ⟨q1, q2, q3⟩ := mod_end (b' := .int .i64 n) (d' := .slice (some ⟨w2.heap.size + 1, 0, none⟩) 1 1) (e' := .bool false) (f' := .bool false) HB2.out.box
        obtain ⟨W3, hW3⟩ : ∃ W3, W3 = (((w2.setCell ⟨mb, 1, none⟩ (.int .i64 n)).setCell ⟨mb, 2, none⟩ (.slice (some ⟨w2.heap.size + 1, 0, none⟩) 1 1)).setCell ⟨mb, 3, none⟩ (.bool false)).setCell ⟨mb, 4, none⟩ (.bool false) := ⟨_, rfl⟩
        have s3 : W3.heap.size = w2.heap.size := by rw [hW3]; simp [World.setCell]
        rw [← hW3] at q1 q2 q3 ⊢
        obtain ⟨W4, hW4⟩ : ∃ W4, W4 = W3.alloc (.cells #[] 5) := ⟨_, rfl⟩
        have s4 : W4.heap.size = w2.heap.size + 1 := by rw [hW4]; simp [s3]
        have b4 : Below W3.heap.size W3 W4 := by rw [hW4]; exact (Below.refl _ W3).alloc (Nat.le_refl _) _
        have e4 : W4.heap[w2.heap.size]? = some (.cells #[] 5 (0, 0)) := by rw [hW4, ← s3]; exact heap_alloc_new W3 _
        rw [← hW4]
        obtain ⟨W5, hW5⟩ : ∃ W5, W5 = W4.alloc (.cells #[.slice (some ⟨w2.heap.size, 0, none⟩) 0 0] 33) := ⟨_, rfl⟩
        have s5 : W5.heap.size = w2.heap.size + 2 := by rw [hW5]; simp [s4]
        have b5 : Below W4.heap.size W4 W5 := by rw [hW5]; exact (Below.refl _ W4).alloc (Nat.le_refl _) _
        have e5 : W5.heap[w2.heap.size + 1]? = some (.cells #[.slice (some ⟨w2.heap.size, 0, none⟩) 0 0] 33 (0, 0)) := by rw [hW5, ← s4]; exact heap_alloc_new W4 _
        have e45 : W5.heap[w2.heap.size]? = _ := (b5.block _ (by omega)).trans e4
        rw [← hW5]
        have hb : Below W3.heap.size W3 W5 := b4.trans (b5.mono (by omega))
        have hz2 := HA.out.2.size
        refine mgo_set (V' := newW n) (A := some ⟨w2.heap.size + 1, 0, none⟩) (c := 1) (vs := [.slice (some ⟨w2.heap.size, 0, none⟩) 0 0]) (R := fun k => k = w2.heap.size ∨ k = w2.heap.size + 1) HM.out HSP.out HA.out.1 HA.out.2 (fun k hk => hk.imp id (fun e => e.1)) ((hb.block mb (by omega)).trans q1) ((q3.mono (fun k hk => .inl hk)).trans (Turn.of_below (S := fun _ => False) hb) (fun _ e => e.elim)) ⟨one_row e5, fun i p hp => ?_, fun k hk => ?_⟩ (fun k hk => ⟨by omega, fun e => ?_, .inr (by omega)⟩)
        · have hi : i = 0 := by have := (List.getElem?_eq_some_iff.1 hp).1; simpa [newW] using this
          subst hi
          have : p = [] := by simpa [newW] using hp.symm
          subst this
          exact ⟨some ⟨w2.heap.size, 0, none⟩, 0, rfl, no_row e45, fun k hk => .inl (by simpa [blk] using hk.symm), fun b hb => by simp at hb⟩
        · exact .inr (by simpa [blk] using hk.symm)
        · have := HA.out.1.low e; omega
      · have HE := Lib.hid (show M.fmtV n V = V ∧ M.fmtN n no = no from by unfold AD.fmtV AD.fmtN; rw [← hcc, if_neg hz, if_neg hz]; exact ⟨rfl, rfl⟩)
        have t2 : (cc == 0) = false := by simp [hz]
        clear hcc hz
        go_enter Tryz.func36, Tryz.ntmps36
        go_wp2_with (first
          | (go_at_call 61; refine (HLI.out _).mono ?_; rw [HLY.out]; rintro e w' ⟨rfl, rfl⟩)
          | (go_at_call 79; refine HRM.out.mono ?_; rintro e w' ⟨rfl, rfl⟩))
        refine HMK.out.mono ?_
        rintro e w2 ⟨rfl, ha⟩
        have HA := Lib.hid ha
        clear ha
        go_wp2
        go_ret
        rw [HE.out.1, HE.out.2]
        exact ⟨rfl, mgo_same HM.out HSP.out HA.out.1 HA.out.2 (fun k hk => hk.imp id (fun e => e.1))⟩
  · have HLN := Lib.hid (show decide (Lim n) = false from decide_eq_false hl)
    have HE := Lib.hid (show cc = 2 ∧ M.fmtM n = M ∧ M.fmtV n V = V ∧ M.fmtN n no = no from by
      have hbad : BadF M n := .inl hl
      have e : M.fmtC n = 2 := by unfold AD.fmtC; rw [if_pos hbad]
      unfold AD.fmtM AD.fmtV AD.fmtN
      rw [e, if_pos hbad, if_neg (by decide), if_neg (by decide)]
      exact ⟨hcc.trans e, rfl, rfl, rfl⟩)
    rw [← hcc]
    clear hd hops hm hsep hcc hl
    go_enter Tryz.func36, Tryz.ntmps36
    go_wp2_with (first
      | (go_at_call 61; refine (HLI.out _).mono ?_; rw [HLN.out]; rintro e w' ⟨rfl, rfl⟩))
    go_ret
    rw [HE.out.1, HE.out.2.1, HE.out.2.2.1, HE.out.2.2.2]
    exact ⟨rfl, HSAME.out⟩
theorem parts_model {W X : World} {T : Nat → Prop} {A : Option Addr} {c r : Nat} {ps : List (List Int)} {vs : List Value} {cs : Array Value} (hp : PartsAt W T A c ps vs) (hb : ∀ k, k ≠ r → X.heap[k]? = W.heap[k]?) (hr : W.heap[r]? = some (.cells cs 31 (0, 0))) : PartsAt X T A c ps vs := by
  have key : ∀ {k : Nat} {cur : Array Value} {e : TypeId}, W.heap[k]? = some (.cells cur e (0, 0)) → e ≠ 31 → X.heap[k]? = W.heap[k]? := fun {k cur e} hk he => by
    refine hb k (fun h => ?_)
    subst h
    rw [hr] at hk
    injection hk with hk
    injection hk with _ hk
    exact he hk.symm
  refine ⟨row_same hp.row fun k hk => ?_, fun i p hi => ?_, hp.rowT⟩
  · obtain ⟨cur, hc⟩ := own_block hp.row hk
    exact key hc (by decide)
  · obtain ⟨B, cb, h1, h2, h3, h4⟩ := hp.each i p hi
    exact ⟨B, cb, h1, row_same h2 fun k hk => by obtain ⟨cur, hc⟩ := own_block h2 hk; exact key hc (by decide), h3, h4⟩
theorem row_ne {W : World} {r n cb m base : Nat} {B : Option Addr} {xs : List Value} {cs : Array Value} (h : W.ownsRow base 5 1 (.slice B n cb) m xs) (hr : W.heap[r]? = some (.cells cs 31 (0, 0))) : ∀ q, blk B = some q → q ≠ r := fun q hq e => by
  obtain ⟨cur, hc⟩ := own_block h hq
  rw [e, hr] at hc
  injection hc with hc
  injection hc with _ hc
  exact absurd hc (by decide)
/-- The model is broken. -/
theorem mgo_broken {w2 : World} {S' : Nat → Prop} {M' : AD} {x : Bool} {A : Option Addr} {c : Nat} {vs : List Value} (hm : ModAt w Q mb o V no) (hsep : ∀ k, Q k → ¬ S k) (hd2 : DiskAt w2 S' o M') (ht : Turn S w w2) (hg : ∀ k, S' k → S k ∨ w.heap.size ≤ k) (h2 : ModIn w2 Q mb o V no A c vs) :
    MGo S Q w mb o M' ⟨V.most, V.parts, x⟩ no (w2.setCell ⟨mb, 3, none⟩ (.bool x)) := by
  have hoth : ∀ k, k ≠ mb → (w2.setCell ⟨mb, 3, none⟩ (.bool x)).heap[k]? = w2.heap[k]? := fun k hk => Below.heap_setCell _ _ _ _ hk
  have hmb := hm.inQ
  refine mgo_set hm hsep hd2 ht hg (V' := ⟨V.most, V.parts, x⟩) (R := Q) (A := A) (c := c) (vs := vs) (heap_set h2.box 3 (.bool x)) ⟨rfl, rfl, rfl, by simp [World.setCell], fun k _ hn => hoth k (fun e => hn (.inl e))⟩ (parts_model h2.parts hoth h2.box) (fun k hk => ⟨by have := h2.low k hk; simp [World.setCell]; omega, fun e => (hg k e).elim (hsep k hk) (fun e => by have := hm.low hk; omega), .inl hk⟩)

/-! ### Checkpoint -/
def AW.mChkC (V : AW) (no : Bool) (M : AD) (b : List Int) : Int := if no then 1 else V.chkC M b
def AW.mChkV (V : AW) (no : Bool) (M : AD) (b : List Int) : AW := if no then V else V.chkV M b
def AW.mChkD (V : AW) (no : Bool) (M : AD) (b : List Int) : AD := if no then M else V.chkD M b
set_option maxHeartbeats 2000000 in
theorem mCheck_any (hd : DiskAt w S o M) (hops : M.ops < 4611686018427380000) (hm : ModAt w Q mb o V no) (hsep : ∀ k, Q k → ¬ S k) (hok : no = false → V.Ok) {B : Option Addr} {l cb : Nat} {b : List Int} (hl : b.length = l) (hb : l ≤ 300) (hr : w.ownsRow 0 5 1 (.slice B l cb) l (b.map (Value.int .u8))) (ho : Oct b) (hBQ : ∀ q, blk B = some q → Q q) :
    Calls Tryz.prog 33 #[.pointer (some ⟨mb, 0, none⟩), .slice B l cb] w fun e w' => e = .returned (.int .i64 (V.mChkC no M b)) ∧ MGo S Q w mb o (V.mChkD no M b) (V.mChkV no M b) no w' := by
  have hmo := hm.mo
  have HSAME := Lib.hid (mgo_same hm hsep hd (Turn.refl S w) (fun k hk => .inl hk))
  obtain ⟨A0, c0, vs0, g0⟩ := hm
  obtain ⟨m0, m1, m2, m3, m4, m5, m6, m7, m8⟩ := mod_cells g0.box
  have HM := Lib.hid (show ModAt w Q mb o V no from ⟨A0, c0, vs0, g0⟩)
  have HSP := Lib.hid hsep
  have hbig : decide ((16000 : Int) < (l : Int)) = false := by simp; omega
  obtain ⟨cc, hcc⟩ : ∃ cc, cc = V.mChkC no M b := ⟨_, rfl⟩
  rw [← hcc]
  by_cases hno : no = true
  · subst hno
    have HE := Lib.hid (show cc = 1 ∧ V.mChkD true M b = M ∧ V.mChkV true M b = V from ⟨hcc.trans rfl, rfl, rfl⟩)
    clear hd hops hsep hok hl hr ho hBQ g0 hcc
    go_enter Tryz.func33, Tryz.ntmps33
    go_wp2
    go_ret
    rw [HE.out.1, HE.out.2.1, HE.out.2.2]
    exact ⟨rfl, HSAME.out⟩
  · obtain rfl : no = false := by simpa using hno
    have e1 : V.mChkC false M b = V.chkC M b := rfl
    have e2 : V.mChkD false M b = V.chkD M b := rfl
    have e3 : V.mChkV false M b = V.chkV M b := rfl
    rw [e1] at hcc
    rw [e2, e3]
    have hvok := hok rfl
    by_cases hbr : V.broken = true
    · have hrc : V.refC b.length V.most = 8 := by unfold AW.refC; rw [if_pos hbr]
      have HE := Lib.hid (show cc = 8 ∧ V.chkD M b = M ∧ V.chkV M b = V from by
        unfold AW.chkC at hcc
        unfold AW.chkD AW.chkV
        rw [hrc] at hcc ⊢
        exact ⟨hcc, rfl, rfl⟩)
      rw [hbr] at m3
      clear hd hops hsep hok hl hr ho hBQ g0 hcc hno e1 e2 e3 hrc hbr hvok
      go_enter Tryz.func33, Tryz.ntmps33
      go_wp2
      go_ret
      rw [HE.out.1, HE.out.2.1, HE.out.2.2]
      exact ⟨rfl, HSAME.out⟩
    · have hbr' : V.broken = false := by simpa using hbr
      rw [hbr'] at m3
      have hlim := hvok.lim
      obtain ⟨vm, hvm⟩ : ∃ vm, vm = V.most := ⟨_, rfl⟩
      have z1 : IntKind.i64.wrap (12 + (l : Int)) = 12 + (l : Int) := i64_fit (by omega)
      rw [← hvm] at m1 hlim
      by_cases hf : vm < 12 + (l : Int)
      · have t1 : decide (vm < 12 + (l : Int)) = true := decide_eq_true hf
        have hrc : V.refC b.length V.most = 6 := by unfold AW.refC fitsC; rw [if_neg hbr, if_neg (by omega), if_pos (by omega)]
        have HE := Lib.hid (show cc = 6 ∧ V.chkD M b = M ∧ V.chkV M b = V from by
          unfold AW.chkC at hcc
          unfold AW.chkD AW.chkV
          rw [hrc] at hcc ⊢
          exact ⟨hcc, rfl, rfl⟩)
        clear hd hops hsep hok hl hr ho hBQ g0 hcc hno e1 e2 e3 hrc hbr hvok hlim hvm hf hbr'
        go_enter Tryz.func33, Tryz.ntmps33
        go_wp2
        go_ret
        rw [HE.out.1, HE.out.2.1, HE.out.2.2]
        exact ⟨rfl, HSAME.out⟩
      · have t1 : decide (vm < 12 + (l : Int)) = false := decide_eq_false hf
        have hrc : V.refC b.length V.most = 0 := by unfold AW.refC fitsC; rw [if_neg hbr, if_neg (by omega), if_neg (by omega)]
        have c1 : V.chkC M b = M.makeC (fileM vm b) := by unfold AW.chkC; rw [hrc, hvm]; rfl
        have c2 : V.chkD M b = M.makeM (fileM vm b) := by unfold AW.chkD; rw [hrc, hvm]; rfl
        have c3 : V.chkV M b = if M.makeC (fileM vm b) ≠ 0 then ⟨vm, V.parts, true⟩ else ⟨vm, [b], false⟩ := by unfold AW.chkV; rw [hrc, hvm]; rfl
        rw [c1] at hcc
        have hs : Sl w B cb b := Sl.ofRow (base := 0) (n := l) (by rw [hl]; exact hr) hl.symm
        have HMK := Lib.hid (makes_any hd (by omega) (n := vm) ⟨by have := hlim.1; omega, hlim.2⟩ hl hs ho (by omega) (fun q hq => hsep q (hBQ q hq)) hmo (hsep mb g0.inQ))
        rw [← c2, ← hcc] at HMK
        rw [← hcc] at c3
        have HR := Lib.hid hr
        have HO := Lib.hid (And.intro ho (And.intro hl (And.intro hBQ hvm)))
        by_cases hz : cc = 0
        · subst hz
          have HE := Lib.hid (show V.chkV M b = ⟨vm, [b], false⟩ from c3.trans (if_neg (by simp)))
          clear hd hops hsep hok hl hr ho hBQ hcc hno e1 e2 e3 hrc hbr hvok hlim hvm hf hbr' c1 c2 c3 hs
          go_enter Tryz.func33, Tryz.ntmps33
          go_wp2_with fail
          refine HMK.out.mono ?_
          rintro e w2 ⟨rfl, ha⟩
          have HA := Lib.hid ha
          have g2 := g0.other ha.2 HSP.out
          obtain ⟨m0, m1, m2, m3, m4, m5, m6, m7, m8⟩ := mod_cells g2.box
          have HB2 := Lib.hid g2
          have hml : mb < w2.heap.size := g2.low mb g2.inQ
          have n1 : ¬ mb = w2.heap.size := by omega
          clear ha g2
          go_wp2_with fail
          go_ret
          rw [HE.out]
          refine ⟨rfl, ?_⟩
          have hbox2 := heap_set (heap_set HB2.out.box 3 (.bool false)) 2 (.slice (some ⟨w2.heap.size, 0, none⟩) 1 1)
          have hoth : ∀ k, k ≠ mb → ((w2.setCell ⟨mb, 3, none⟩ (.bool false)).setCell ⟨mb, 2, none⟩ (.slice (some ⟨w2.heap.size, 0, none⟩) 1 1)).heap[k]? = w2.heap[k]? := fun k hk => (Below.heap_setCell _ _ _ _ hk).trans (Below.heap_setCell _ _ _ _ hk)
          obtain ⟨W3, hW3⟩ : ∃ W3, W3 = (w2.setCell ⟨mb, 3, none⟩ (.bool false)).setCell ⟨mb, 2, none⟩ (.slice (some ⟨w2.heap.size, 0, none⟩) 1 1) := ⟨_, rfl⟩
          have s3 : W3.heap.size = w2.heap.size := by rw [hW3]; simp [World.setCell]
          have t3 : Turn (fun k => k = mb) w2 W3 := by rw [hW3]; exact ⟨rfl, rfl, rfl, by simp [World.setCell], fun k _ hn => hoth k hn⟩
          rw [← hW3] at hbox2 hoth ⊢
          obtain ⟨W4, hW4⟩ : ∃ W4, W4 = W3.alloc (.cells #[.slice B l cb] 33) := ⟨_, rfl⟩
          have s4 : W4.heap.size = w2.heap.size + 1 := by rw [hW4]; simp [s3]
          have b4 : Below W3.heap.size W3 W4 := by rw [hW4]; exact (Below.refl _ W3).alloc (Nat.le_refl _) _
          have e4 : W4.heap[w2.heap.size]? = some (.cells #[.slice B l cb] 33 (0, 0)) := by rw [hW4, ← s3]; exact heap_alloc_new W3 _
          rw [← hW4]
          have hz2 := HA.out.2.size
          obtain ⟨oct, hl, hBQ, hvm⟩ := HO.out
          have hne := row_ne HR.out g0.box
          have hrow4 : W4.ownsRow 0 5 1 (.slice B l cb) l (b.map (Value.int .u8)) := row_same HR.out fun q hq => by
            have hq1 := g0.low q (hBQ q hq)
            exact (b4.block q (by omega)).trans ((hoth q (hne q hq)).trans (HA.out.2.block q hq1 (HSP.out q (hBQ q hq))))
          refine mgo_set (V' := ⟨vm, [b], false⟩) (A := some ⟨w2.heap.size, 0, none⟩) (c := 1) (vs := [.slice B l cb]) (R := fun k => k = w2.heap.size ∨ blk B = some k) HM.out HSP.out HA.out.1 HA.out.2 (fun k hk => hk.imp id (fun e => e.1)) (by rw [hvm]; exact (b4.block mb (by omega)).trans hbox2) ((t3.mono (fun k hk => .inl hk)).trans (Turn.of_below (S := fun _ => False) b4) (fun _ e => e.elim)) ⟨one_row e4, fun i p hp => ?_, fun k hk => .inl (by simpa [blk] using hk.symm)⟩ (fun k hk => ?_)
          · have hi : i = 0 := by have := (List.getElem?_eq_some_iff.1 hp).1; simpa using this
            subst hi
            have : b = p := by simpa using hp
            subst this
            exact ⟨B, cb, by rw [hl]; rfl, by rw [hl]; exact hrow4, fun k hk => .inr hk, oct⟩
          · rcases hk with e | e
            · exact ⟨by omega, fun e2 => by have := HA.out.1.low e2; omega, .inr (by omega)⟩
            · have hq := hBQ k e
              have hq1 := g0.low k hq
              exact ⟨by omega, fun e2 => e2.elim (HSP.out k hq) (fun e2 => by omega), .inl hq⟩
        · have t2 : (cc == 0) = false := by simp [hz]
          have t3 : (cc != 0) = true := by simp [hz]
          have HE := Lib.hid (show V.chkV M b = ⟨vm, V.parts, true⟩ from c3.trans (if_pos hz))
          clear hd hops hsep hok hl hr ho hBQ hcc hno e1 e2 e3 hrc hbr hvok hlim hvm hf hbr' c1 c2 c3 hs hz
          go_enter Tryz.func33, Tryz.ntmps33
          go_wp2_with fail
          refine HMK.out.mono ?_
          rintro e w2 ⟨rfl, ha⟩
          have HA := Lib.hid ha
          have g2 := g0.other ha.2 HSP.out
          obtain ⟨m0, m1, m2, m3, m4, m5, m6, m7, m8⟩ := mod_cells g2.box
          have HB2 := Lib.hid g2
          clear ha g2
          go_wp2_with fail
          go_ret
          rw [HE.out]
          have key := mgo_broken (x := true) HM.out HSP.out HA.out.1 HA.out.2 (fun k hk => hk.imp id (fun e => e.1)) HB2.out
          rw [← HO.out.2.2.2] at key
          exact ⟨rfl, key⟩
end

end Go.Proofs.YtienabfilnpieaaGreat

namespace Go.Proofs.YtienabfilnpieaaGreat
open Go.RowKit Go.Shelf
set_option linter.unusedVariables false
set_option linter.unusedSimpArgs false
set_option linter.unusedSimpArgs false
set_option maxRecDepth 100000

section
variable {w : World} {S : Nat → Prop} {d p mb : Nat} {M : AD}
set_option maxHeartbeats 2000000 in
theorem mApp1_any (h : DiskAt w S d M) (hops : M.ops < 4611686018427387904) (hp : Mo w p mb d) {bx n c l cb : Nat} {A B : Option Addr} {b : List Int} (hS : ¬ S p ∧ ¬ S mb ∧ ¬ S bx) (hn : n ≤ 100000) (hc2 : w.cell? ⟨mb, 2, none⟩ = some (.slice A n c)) (hbx : w.cell? ⟨bx, 0, none⟩ = some (.slice B l cb)) (hl : b.length = l) (hs : Sl w B cb b) (ho : Oct b) (hb : l ≤ 10000) :
    Calls Tryz.prog 87 #[.pointer (some ⟨p, 0, none⟩), .pointer (some ⟨bx, 0, none⟩)] w fun e w' => e = .returned (.int .i64 (M.appendC 0 (frameM n b).length)) ∧ After S d w (M.appendM 0 (frameM n b)) w' := by
  have hfl := frameM_len n b
  rw [hfl, hl]
  have HFR := Lib.hid (fun (W : World) (hW : Below w.heap.size w W) => show Calls Tryz.prog 88 #[.int .i64 n, .slice B l cb] W (GivesB W (frameM n b)) from by have key := rFrame_any n (by omega) (by omega) B cb b W (hs.below hW) ho (by omega); rw [hl] at key; exact key)
  have HAP := Lib.hid (fun (W : World) (hW : Below w.heap.size w W) (B : Option Addr) (cb : Nat) (hr : Rd W W.heap.size B (frameM n b)) => (append_any (h.later hW) (k := 0) (by decide) hops B (l + 12) cb (frameM n b) (by rw [hfl, hl]) (by omega) hr).mono (R' := fun e W' => e = .returned (.int .i64 (M.appendC 0 (l + 12))) ∧ After S d w (M.appendM 0 (frameM n b)) W') (fun e W' hh => ⟨hh.1, After.then h (Turn.of_below hW) hh.2⟩))
  have HLN := Lib.hid (show (frameM n b).length = l + 12 by rw [hfl, hl])
  have HC0 := Lib.hid (show w.cell? ⟨p, 0, none⟩ = some (.pointer (some ⟨mb, 0, none⟩)) ∧ w.cell? ⟨mb, 0, none⟩ = some (.pointer (some ⟨d, 0, none⟩)) ∧ w.cell? ⟨mb, 2, none⟩ = some (.slice A n c) ∧ w.cell? ⟨bx, 0, none⟩ = some (.slice B l cb) from ⟨hp.p, hp.m, hc2, hbx⟩)
  have HK := Lib.hid (fun (W : World) (hW : Below w.heap.size w W) => show W.cell? ⟨p, 0, none⟩ = some (.pointer (some ⟨mb, 0, none⟩)) ∧ W.cell? ⟨mb, 0, none⟩ = some (.pointer (some ⟨d, 0, none⟩)) ∧ W.cell? ⟨mb, 2, none⟩ = some (.slice A n c) ∧ W.cell? ⟨bx, 0, none⟩ = some (.slice B l cb) ∧ Turn S w W from
    ⟨(hp.later hW).p, (hp.later hW).m, (hW.cell (p := ⟨mb, 2, none⟩) (World.block_lt_of_cell? _ _ hc2)).trans hc2, (hW.cell (p := ⟨bx, 0, none⟩) (World.block_lt_of_cell? _ _ hbx)).trans hbx, Turn.of_below hW⟩)
  have HSN := Lib.hid hS
  generalize frameM n b = fr at *
  clear h hp hs ho hb hc2 hbx hops hl hS hfl
  go_enter Tryz.func87, Tryz.ntmps87
  go_upto_region 1 with fail
  have k0 := HK.out w.drew (below_drewN (Below.refl _ _) 1)
  have HB1 := Lib.hid (below_drewN (Below.refl w.heap.size w) 1)
  go_region_held3 (fun W => W.cell? ⟨p, 0, none⟩ = some (.pointer (some ⟨mb, 0, none⟩)) ∧ W.cell? ⟨mb, 0, none⟩ = some (.pointer (some ⟨d, 0, none⟩)) ∧ W.cell? ⟨mb, 2, none⟩ = some (.slice A n c) ∧ W.cell? ⟨bx, 0, none⟩ = some (.slice B l cb) ∧ Turn S w W) (first | exact k0 | exact K2.out | exact K3.out) (first
    | (go_at_call 88; refine (HFR.out _ HB1.out).mono ?_; rintro e w3 ⟨A3, c3, rfl, hn3, hb3⟩; rw [HLN.out]; have hb3' := HB1.out.trans (hb3.mono HB1.out.size); have K2 := Lib.hid (HK.out _ hb3'); have HA3 := Lib.hid (HAP.out w3 hb3' A3 c3 hn3.sl.rd); clear hn3 hb3 hb3')
    | (go_at_call 11; refine HA3.out.mono ?_; rintro e w4 ⟨rfl, ha⟩; have K3 := Lib.hid (show w4.cell? ⟨p, 0, none⟩ = some (.pointer (some ⟨mb, 0, none⟩)) ∧ w4.cell? ⟨mb, 0, none⟩ = some (.pointer (some ⟨d, 0, none⟩)) ∧ w4.cell? ⟨mb, 2, none⟩ = some (.slice A n c) ∧ w4.cell? ⟨bx, 0, none⟩ = some (.slice B l cb) ∧ Turn S w w4 from ⟨turn_cell ha.2 HSN.out.1 HC0.out.1, turn_cell ha.2 HSN.out.2.1 HC0.out.2.1, turn_cell ha.2 HSN.out.2.1 HC0.out.2.2.1, turn_cell ha.2 HSN.out.2.2 HC0.out.2.2.2, ha.2⟩); have HA4 := Lib.hid ha; clear ha))
  all_goals (
    go_wp2
    go_ret
    exact ⟨rfl, HA4.out⟩)
theorem mApp2_any (h : DiskAt w S d M) (hops : M.ops < 4611686018427387904) (hp : Mo w p mb d) :
    Calls Tryz.prog 89 #[.pointer (some ⟨p, 0, none⟩)] w fun e w' => e = .returned (.int .i64 (M.opC 0 [])) ∧ After S d w (M.opM 0 [] (M.met.put 0 (M.file 0).settled)) w' := by
  have HD := Lib.hid (sync_any h (k := 0) (by decide) hops)
  obtain ⟨p1, p2⟩ := hp
  clear h
  go_enter Tryz.func89, Tryz.ntmps89
  go_wp2_with (go_at_call 12; refine HD.out.mono ?_; rintro e w' ⟨rfl, ha⟩; have HA := Lib.hid ha; clear ha)
  go_ret
  exact ⟨rfl, HA.out⟩
theorem enter_a1 (x y : Value) (W : World) : (callFunc 87 #[x, y]).run Tryz.prog W = .ok (.enter 87 #[x, y]) W := by kernel_rfl
theorem enter_a2 (x : Value) (W : World) : (callFunc 89 #[x]).run Tryz.prog W = .ok (.enter 89 #[x]) W := by kernel_rfl
def aStepF : Nat → FuncId
  | 0 => 87
  | _ => 89
def aStepCaps (p bx : Nat) : Nat → Array Value
  | 0 => #[.pointer (some ⟨p, 0, none⟩), .pointer (some ⟨bx, 0, none⟩)]
  | _ => #[.pointer (some ⟨p, 0, none⟩)]
def aStepV (p bx j : Nat) : Value := .func (.func (aStepF j)) #[] (aStepCaps p bx j)
set_option maxHeartbeats 1000000 in
theorem aSteps_any (h : DiskAt w S d M) (hops : M.ops < 4611686018427387000) (hp : Mo w p mb d) {bx n c l cb q : Nat} {A B : Option Addr} {b : List Int} (hS : ¬ S p ∧ ¬ S mb ∧ ¬ S bx ∧ ¬ S q) (hn : n ≤ 100000) (hc2 : w.cell? ⟨mb, 2, none⟩ = some (.slice A n c)) (hbx : w.cell? ⟨bx, 0, none⟩ = some (.slice B l cb)) (hl : b.length = l) (hs : Sl w B cb b) (ho : Oct b) (hb : l ≤ 10000)
    (hfs : w.heap[q]? = some (.cells #[aStepV p bx 0, aStepV p bx 1] 71 (0, 0))) :
    Calls Tryz.prog 81 #[.slice (some ⟨q, 0, none⟩) 2 2] w fun e w' => e = .returned (.int .i64 (M.layC (frameM n b))) ∧ After S d w (M.layM (frameM n b)) w' := by
  have hlow : ∀ i, S i → i < w.heap.size := fun i hi => h.low hi
  obtain ⟨fr, hfr⟩ : ∃ fr, fr = frameM n b := ⟨_, rfl⟩
  have hto := appendM_ops M 0 fr
  rw [← hfr]
  have key := first_any (w := w) q 2 2 aStepF (aStepCaps p bx) (fun j W => (j = 0 ∧ W = w) ∨ (j = 1 ∧ M.appendC 0 fr.length = 0 ∧ After S d w (M.appendM 0 fr) W) ∨ (j = 2 ∧ M.layC fr = 0 ∧ After S d w (M.layM fr) W)) (fun cc W => M.layC fr = cc ∧ After S d w (M.layM fr) W) (by omega)
    (fun j W hj hI => by
      have hc : w.cell? ⟨q, j, none⟩ = some (aStepV p bx j) := by
        simp only [World.cell?, hfs]
        have : j = 0 ∨ j = 1 := by omega
        rcases this with rfl | rfl <;> rfl
      rcases hI with ⟨_, rfl⟩ | ⟨_, _, hI⟩ | ⟨e, _⟩
      · exact hc
      · exact turn_cell hI.2 hS.2.2.2 hc
      · omega)
    (fun j W hj => by
      have : j = 0 ∨ j = 1 := by omega
      rcases this with rfl | rfl
      · exact enter_a1 _ _ W
      · exact enter_a2 _ W)
    (fun j W hj hI => by
      rcases hI with ⟨rfl, rfl⟩ | ⟨rfl, hz, hI⟩ | ⟨rfl, _⟩
      · have hk := mApp1_any h (by omega) hp ⟨hS.1, hS.2.1, hS.2.2.1⟩ hn hc2 hbx hl hs ho hb
        rw [← hfr] at hk
        refine hk.mono ?_
        rintro e W' ⟨rfl, ha⟩
        refine ⟨_, rfl, fun e => .inr (.inl ⟨rfl, e, ha⟩), fun e => ⟨?_, ?_⟩⟩
        · unfold AD.layC; rw [if_pos e]
        · unfold AD.layM; rw [if_pos e]; exact ha
      · refine (mApp2_any hI.1 (by omega) (hp.turn hI.2 hS.1 hS.2.1)).mono ?_
        rintro e W' ⟨rfl, ha⟩
        have hg := hI.go ha hlow
        have e1 : M.layC fr = (M.appendM 0 fr).opC 0 [] := by unfold AD.layC; rw [if_neg (by rw [hz]; simp)]
        have e2 : M.layM fr = (M.appendM 0 fr).opM 0 [] ((M.appendM 0 fr).met.put 0 ((M.appendM 0 fr).file 0).settled) := by unfold AD.layM; rw [if_neg (by rw [hz]; simp)]
        refine ⟨_, rfl, fun e => .inr (.inr ⟨rfl, e1.trans e, by rw [e2]; exact hg⟩), fun e => ⟨e1, by rw [e2]; exact hg⟩⟩
      · omega)
    (.inl ⟨rfl, rfl⟩)
  refine key.mono ?_
  rintro e W ⟨cc, rfl, hz, hnz⟩
  by_cases hc : cc = 0
  · rcases hz hc with ⟨e, _⟩ | ⟨e, _⟩ | ⟨_, h1, h2⟩
    · omega
    · omega
    · exact ⟨by rw [h1, hc], h2⟩
  · obtain ⟨h1, h2⟩ := hnz hc
    exact ⟨by rw [h1], h2⟩
end

def AW.mAppC (V : AW) (no : Bool) (M : AD) (b : List Int) : Int := if no then 1 else V.appC M b
def AW.mAppV (V : AW) (no : Bool) (M : AD) (b : List Int) : AW := if no then V else V.appV M b
def AW.mAppD (V : AW) (no : Bool) (M : AD) (b : List Int) : AD := if no then M else V.appD M b
section
variable {w : World} {S Q : Nat → Prop} {o mb : Nat} {M : AD} {V : AW} {no : Bool}
set_option maxHeartbeats 4000000 in
theorem mAppend_any (hd : DiskAt w S o M) (hops : M.ops < 4611686018427380000) (hm : ModAt w Q mb o V no) (hsep : ∀ k, Q k → ¬ S k) (hok : no = false → V.Ok) {B : Option Addr} {l cb : Nat} {b : List Int} (hl : b.length = l) (hb : l ≤ 300) (hr : w.ownsRow 0 5 1 (.slice B l cb) l (b.map (Value.int .u8))) (ho : Oct b) (hBQ : ∀ q, blk B = some q → Q q) :
    Calls Tryz.prog 37 #[.pointer (some ⟨mb, 0, none⟩), .slice B l cb] w fun e w' => e = .returned (.int .i64 (V.mAppC no M b)) ∧ MGo S Q w mb o (V.mAppD no M b) (V.mAppV no M b) no w' := by
  obtain ⟨W1, hW1⟩ : ∃ W1, W1 = w.alloc (.cells #[.pointer (some ⟨mb, 0, none⟩)] 28) := ⟨_, rfl⟩
  obtain ⟨W2, hW2⟩ : ∃ W2, W2 = W1.alloc (.cells #[.slice B l cb] 33) := ⟨_, rfl⟩
  have s1 : W1.heap.size = w.heap.size + 1 := by rw [hW1]; simp
  have s2 : W2.heap.size = w.heap.size + 2 := by rw [hW2]; simp [s1]
  have b1 : Below w.heap.size w W1 := by rw [hW1]; exact (Below.refl _ w).alloc (Nat.le_refl _) _
  have b2 : Below W1.heap.size W1 W2 := by rw [hW2]; exact (Below.refl _ W1).alloc (Nat.le_refl _) _
  have bw : Below w.heap.size w W2 := b1.trans (b2.mono (by omega))
  have e1 : W1.heap[w.heap.size]? = some (.cells #[.pointer (some ⟨mb, 0, none⟩)] 28 (0, 0)) := by rw [hW1]; exact heap_alloc_new w _
  have e2 : W2.heap[W1.heap.size]? = some (.cells #[.slice B l cb] 33 (0, 0)) := by rw [hW2]; exact heap_alloc_new W1 _
  rw [s1] at e2
  have f1 : W2.heap[w.heap.size]? = _ := (b2.block _ (by omega)).trans e1
  have hcp : W2.cell? ⟨w.heap.size, 0, none⟩ = some (.pointer (some ⟨mb, 0, none⟩)) := by simp only [World.cell?, f1]; rfl
  have hcb : W2.cell? ⟨w.heap.size + 1, 0, none⟩ = some (.slice B l cb) := by simp only [World.cell?, e2]; rfl
  have hsame := (mgo_same hm hsep hd (Turn.refl S w) (fun k hk => .inl hk)).later bw
  have HSAME2 := Lib.hid hsame
  have HSAME := Lib.hid hsame
  obtain ⟨A0, c0, vs0, g0⟩ := hm.later bw
  obtain ⟨m0, m1, m2, m3, m4, m5, m6, m7, m8⟩ := mod_cells g0.box
  have HC2 := Lib.hid (And.intro hcp (And.intro hcb g0.box))
  have HG0 := Lib.hid g0
  have HW := Lib.hid (show W2 = (w.alloc (.cells #[.pointer (some ⟨mb, 0, none⟩)] 28)).alloc (.cells #[.slice B l cb] 33) by rw [hW2, hW1])
  have HM := Lib.hid hm
  have HSP := Lib.hid hsep
  have HBW := Lib.hid bw
  have HS2 := Lib.hid s2
  have hbig : decide ((16000 : Int) < (l : Int)) = false := by simp; omega
  have hlowS : ∀ k, w.heap.size ≤ k → ¬ S k := fun k hk e => by have := hd.low e; omega
  have hd2 := hd.later bw
  have hr2 := row_later hr bw
  have hs2 : Sl W2 B cb b := Sl.ofRow (base := 0) (n := l) (by rw [hl]; exact hr2) hl.symm
  rw [HW.out] at HSAME
  obtain ⟨cc, hcc⟩ : ∃ cc, cc = V.mAppC no M b := ⟨_, rfl⟩
  rw [← hcc]
  by_cases hno : no = true
  · subst hno
    have HE := Lib.hid (show cc = 1 ∧ V.mAppD true M b = M ∧ V.mAppV true M b = V from ⟨hcc.trans rfl, rfl, rfl⟩)
    rw [HW.out] at m0 m1 m2 m3 m4 hcp hcb
    clear hd hops hm hsep hok hl hr ho hBQ g0 hcc hW1 hW2 s1 s2 b1 b2 bw e1 e2 f1 hsame hlowS hd2 hr2 hs2
    go_enter Tryz.func37, Tryz.ntmps37
    go_wp2
    go_ret
    rw [HE.out.1, HE.out.2.1, HE.out.2.2]
    exact ⟨rfl, HSAME.out⟩
  · obtain rfl : no = false := by simpa using hno
    have e1' : V.mAppC false M b = V.appC M b := rfl
    have e2' : V.mAppD false M b = V.appD M b := rfl
    have e3' : V.mAppV false M b = V.appV M b := rfl
    rw [e1'] at hcc
    rw [e2', e3']
    have hvok := hok rfl
    by_cases hbr : V.broken = true
    · have hrc : V.refC b.length V.room = 8 := by unfold AW.refC; rw [if_pos hbr]
      have HE := Lib.hid (show cc = 8 ∧ V.appD M b = M ∧ V.appV M b = V from by
        unfold AW.appC at hcc
        unfold AW.appD AW.appV
        rw [hrc] at hcc ⊢
        exact ⟨hcc, rfl, rfl⟩)
      rw [hbr] at m3
      rw [HW.out] at m0 m1 m2 m3 m4 hcp hcb
      clear hd hops hm hsep hok hl hr ho hBQ g0 hcc hW1 hW2 s1 s2 b1 b2 bw e1 e2 f1 hsame hlowS hd2 hr2 hs2 hno e1' e2' e3' hrc hbr hvok
      go_enter Tryz.func37, Tryz.ntmps37
      go_wp2
      go_ret
      rw [HE.out.1, HE.out.2.1, HE.out.2.2]
      exact ⟨rfl, HSAME.out⟩
    · have hbr' : V.broken = false := by simpa using hbr
      rw [hbr'] at m3
      have hlim := hvok.lim
      have hcost := hvok.cost
      have hlim2 := hlim.2
      have hcl := costM_len V.parts
      obtain ⟨vm, hvm⟩ : ∃ vm, vm = V.most := ⟨_, rfl⟩
      obtain ⟨cs, hcs⟩ : ∃ cs, cs = costM V.parts := ⟨_, rfl⟩
      obtain ⟨n, hn⟩ : ∃ n, n = V.parts.length := ⟨_, rfl⟩
      rw [← hvm, ← hcs] at hcost
      rw [← hcs, ← hn] at hcl
      rw [← hvm] at m1 hlim2
      rw [← hn] at m2
      have hroom : V.room = vm - (cs : Int) := by unfold AW.room; rw [hvm, hcs]
      have z1 : IntKind.i64.wrap ((cs : Int) + 12) = (cs : Int) + 12 := i64_fit (by omega)
      have z2 : IntKind.i64.wrap ((cs : Int) + 12 + (l : Int)) = (cs : Int) + 12 + (l : Int) := i64_fit (by omega)
      have HCO := Lib.hid (fun q => show Calls Tryz.prog 40 #[.slice A0 n c0] (W2.drewN q) (fun e w' => e = .returned (.int .i64 cs) ∧ w' = W2.drewN q) from by
        have key := rCost_any A0 c0 V.parts (W2.drewN q) (g0.parts.recs.later (below_drewN (Below.refl _ W2) q)) (by omega)
        rw [← hn, ← hcs] at key
        exact key.mono fun _ _ h => ⟨h.1, h.2.symm⟩)
      have m0' := m0
      have m1' := m1
      have m2' := m2
      have hcp' := hcp
      have hcb' := hcb
      rw [HW.out] at m0 m1 m2 m3 m4 hcp hcb
      by_cases hf : vm < (cs : Int) + 12 + (l : Int)
      · have t1 : decide (vm < (cs : Int) + 12 + (l : Int)) = true := decide_eq_true hf
        have hrc : V.refC b.length V.room = 6 := by unfold AW.refC fitsC; rw [if_neg hbr, if_neg (by omega), if_pos (by omega)]
        have HE := Lib.hid (show cc = 6 ∧ V.appD M b = M ∧ V.appV M b = V from by
          unfold AW.appC at hcc
          unfold AW.appD AW.appV
          rw [hrc] at hcc ⊢
          exact ⟨hcc, rfl, rfl⟩)
        clear hd hops hm hsep hok hl hr ho hBQ g0 hcc hW1 hW2 s1 s2 b1 b2 bw e1 e2 f1 hsame hlowS hd2 hr2 hs2 hno e1' e2' e3' hrc hbr hvok hlim hcost hlim2 hcl hvm hcs hn hroom hf hbr'
        go_enter Tryz.func37, Tryz.ntmps37
        go_upto_region 7 with fail
        rw [← HW.out]
        clear m0 m1 m2 m3 m4 hcp hcb
        go_quiet ((go_at_call 40; with_reducible refine Calls.quiet_of_same (HCO.out _)))
        go_wp2
        go_ret
        rw [HE.out.1, HE.out.2.1, HE.out.2.2]
        exact ⟨rfl, HSAME2.out.later (below_drewN (Below.refl _ _) nq)⟩
      · have t1 : decide (vm < (cs : Int) + 12 + (l : Int)) = false := decide_eq_false hf
        have hrc : V.refC b.length V.room = 0 := by unfold AW.refC fitsC; rw [if_neg hbr, if_neg (by omega), if_neg (by omega)]
        have a1 : V.appC M b = M.layC (frameM n b) := by unfold AW.appC; rw [hrc, hn]; rfl
        have a2 : V.appD M b = M.layM (frameM n b) := by unfold AW.appD; rw [hrc, hn]; rfl
        have a3 : V.appV M b = if M.layC (frameM n b) ≠ 0 then ⟨vm, V.parts, true⟩ else ⟨vm, V.parts ++ [b], false⟩ := by unfold AW.appV; rw [hrc, hn, hvm]; rfl
        rw [a1] at hcc
        rw [← hcc] at a3
        have hml := hm.low hm.inQ
        have hst : ∀ q, Calls Tryz.prog 81 #[.slice (some ⟨W2.heap.size, 0, none⟩) 2 2] ((W2.drewN q).alloc (.cells #[aStepV w.heap.size (w.heap.size + 1) 0, aStepV w.heap.size (w.heap.size + 1) 1] 71)) fun e w' => e = .returned (.int .i64 cc) ∧ After S o W2 (V.appD M b) w' ∧ W2.heap.size + 1 ≤ w'.heap.size := fun q => by
          have hbq : Below W2.heap.size W2 ((W2.drewN q).alloc (.cells #[aStepV w.heap.size (w.heap.size + 1) 0, aStepV w.heap.size (w.heap.size + 1) 1] 71)) := (below_drewN (Below.refl _ W2) q).alloc (Nat.le_refl _) _
          have hx := heap_alloc_new (W2.drewN q) (.cells #[aStepV w.heap.size (w.heap.size + 1) 0, aStepV w.heap.size (w.heap.size + 1) 1] 71)
          have key := aSteps_any (hd2.later hbq) (by omega) ((Mo.mk hcp' m0').later hbq) (bx := w.heap.size + 1) (n := n) (q := W2.heap.size) (A := A0) (c := c0) (B := B) (cb := cb) ⟨hlowS _ (Nat.le_refl _), hsep mb hm.inQ, hlowS _ (by omega), hlowS _ (by omega)⟩ (by omega) ((hbq.cell (p := ⟨mb, 2, none⟩) (by show mb < _; omega)).trans m2') ((hbq.cell (p := ⟨w.heap.size + 1, 0, none⟩) (by show w.heap.size + 1 < _; omega)).trans hcb') hl (hs2.below hbq) ho (by omega) hx
          rw [← hcc, ← a2] at key
          refine key.mono fun e w' hh => ⟨hh.1, After.then hd2 (Turn.of_below hbq) hh.2, ?_⟩
          have := hh.2.2.size
          simp at this
          omega
        have HST := Lib.hid hst
        have HLS := Lib.hid hlowS
        have HR2 := Lib.hid hr2
        have HO := Lib.hid (And.intro ho (And.intro hl (And.intro hBQ (And.intro hvm hn))))
        have hnb : n ≤ 1000000 := by omega
        by_cases hz : cc = 0
        · subst hz
          have HE := Lib.hid (show V.appV M b = ⟨vm, V.parts ++ [b], false⟩ from a3.trans (if_neg (by simp)))
          clear hd hops hm hsep hok hl hr ho hBQ g0 hcc hW1 hW2 s1 s2 b1 b2 bw e1 e2 f1 hsame hlowS hd2 hr2 hs2 hno e1' e2' e3' hrc hbr hvok hlim hcost hlim2 hcl hvm hcs hn hroom hf hbr' a1 a2 a3 hst hml
          go_enter Tryz.func37, Tryz.ntmps37
          go_upto_region 7 with fail
          rw [← HW.out]
          clear m0 m1 m2 m3 m4 hcp hcb
          go_quiet ((go_at_call 40; with_reducible refine Calls.quiet_of_same (HCO.out _)))
          go_wp2_with fail
          refine (HST.out _).mono ?_
          rintro e w5 ⟨rfl, ha, hz5⟩
          have HA := Lib.hid ha
          have g5 := HG0.out.other ha.2 HSP.out
          have HG5 := Lib.hid g5
          have hp5 := turn_cell ha.2 (HLS.out _ (Nat.le_refl _)) HC2.out.1
          have hb5 := turn_cell ha.2 (HLS.out _ (by omega)) HC2.out.2.1
          obtain ⟨k0, k1, k2, k3, k4, k5, k6, k7, k8⟩ := mod_cells g5.box
          rw [← HO.out.2.2.2.2] at k2
          have HC5 := Lib.hid (And.intro hp5 hb5)
          have hml := HM.out.low HM.out.inQ
          have HZ5 := Lib.hid (And.intro hz5 hml)
          have n1 : ¬ mb = w.heap.size := by omega
          have n2 : ¬ w.heap.size = mb := by omega
          have n3 : ¬ mb = w.heap.size + 1 := by omega
          have n4 : ¬ w.heap.size + 1 = mb := by omega
          clear ha g5 hz5 hml
          go_upto_region 12 with fail
          obtain ⟨W6, hW6⟩ : ∃ W6, W6 = w5.setCell ⟨mb, 3, none⟩ (.bool false) := ⟨_, rfl⟩
          have hoth6 : ∀ k, k ≠ mb → W6.heap[k]? = w5.heap[k]? := fun k hk => by rw [hW6]; exact Below.heap_setCell _ _ _ _ hk
          have s6 : W6.heap.size = w5.heap.size := by rw [hW6]; simp [World.setCell]
          have hbox6 : W6.heap[mb]? = some (.cells #[.pointer (some ⟨o, 0, none⟩), .int .i64 V.most, .slice A0 V.parts.length c0, .bool false, .bool false] 31 (0, 0)) := by rw [hW6]; exact heap_set HG5.out.box 3 (.bool false)
          have t56 : Turn (fun k => k = mb) w5 W6 := ⟨by rw [hW6]; rfl, by rw [hW6]; rfl, by rw [hW6]; rfl, by rw [s6]; exact Nat.le_refl _, fun k _ hn => hoth6 k hn⟩
          have hparts6 : PartsAt W6 Q A0 c0 V.parts vs0 := parts_model HG5.out.parts hoth6 HG5.out.box
          rw [← hW6]
          have hcell6 : ∀ q v, q ≠ mb → w5.cell? ⟨q, 0, none⟩ = some v → W6.cell? ⟨q, 0, none⟩ = some v := fun q v hq hc => by
            simp only [World.cell?] at hc ⊢
            rw [hoth6 q hq]
            exact hc
          have hp6 := hcell6 _ _ n2 HC5.out.1
          have hb6 := hcell6 _ _ n4 HC5.out.2
          obtain ⟨j0, j1, j2, j3, j4, j5, j6, j7, j8⟩ := mod_cells hbox6
          rw [← HO.out.2.2.2.2] at j2
          have HRB := Lib.hid (show W6.ownsRow 0 5 1 (.slice B l cb) l (b.map (Value.int .u8)) from row_same HR2.out fun q hq => by
            have hne := row_ne HR2.out HG0.out.box q hq
            have hq1 := HG0.out.low q (HO.out.2.2.1 q hq)
            exact (hoth6 q hne).trans (HA.out.2.block q hq1 (HSP.out q (HO.out.2.2.1 q hq))))
          have hnA : ∀ k, blk A0 = some k → k ≠ mb := fun k hk e => by
            obtain ⟨cur, hc⟩ := own_block hparts6.row hk
            rw [e, hbox6] at hc
            injection hc with hc
            injection hc with _ hc
            exact absurd hc (by decide)
          have hQl := fun k (hk : Q k) => HM.out.low hk
          have h7 : ∀ w7, (W6.drew.alloc (.cells #[.slice B l cb] 33)).grownBy w7 (blk A0) → w7.cell? ⟨w.heap.size, 0, none⟩ = some (.pointer (some ⟨mb, 0, none⟩)) ∧ w7.heap[mb]? = some (.cells #[.pointer (some ⟨o, 0, none⟩), .int .i64 V.most, .slice A0 V.parts.length c0, .bool false, .bool false] 31 (0, 0)) := fun w7 hg => by
            have hbd : Below W6.heap.size W6 (W6.drew.alloc (.cells #[.slice B l cb] 33)) := (below_drewN (Below.refl _ W6) 1).alloc (Nat.le_refl _) _
            have hpl := World.block_lt_of_cell? _ _ hp6
            have hpl : w.heap.size < W6.heap.size := hpl
            have e1 : w7.heap[w.heap.size]? = W6.heap[w.heap.size]? := (hg.block _ (Nat.lt_of_lt_of_le hpl hbd.size) (fun e => by have := hparts6.rowT _ e.symm; have := hQl _ this; omega)).trans (hbd.block _ hpl)
            have hml : mb < W6.heap.size := lt_of_block hbox6
            have e2 : w7.heap[mb]? = W6.heap[mb]? := (hg.block _ (Nat.lt_of_lt_of_le hml hbd.size) (fun e => hnA mb e.symm rfl)).trans (hbd.block _ hml)
            refine ⟨?_, e2.trans hbox6⟩
            simp only [World.cell?] at hp6 ⊢
            rw [e1]
            exact hp6
          have HCN := Lib.hid (show (W6.drew.alloc (.cells #[.slice B l cb] 33)).cell? ⟨W6.heap.size, 0, none⟩ = some (.slice B l cb) from by
            have hx := heap_alloc_new W6.drew (.cells #[.slice B l cb] 33)
            simp only [World.cell?, show W6.heap.size = W6.drew.heap.size from rfl, hx]
            rfl)
          have y1 : mb < W6.heap.size := lt_of_block hbox6
          have y2 : w.heap.size < W6.heap.size := World.block_lt_of_cell? _ _ hp6
          have y3 : w.heap.size + 1 < W6.heap.size := World.block_lt_of_cell? _ _ hb6
          have y4 : ¬ mb = W6.heap.size := by omega
          have y5 : ¬ w.heap.size = W6.heap.size := by omega
          have y6 : ¬ w.heap.size + 1 = W6.heap.size := by omega
          have H7 := Lib.hid h7
          have HP6 := Lib.hid hparts6
          have HBD := Lib.hid (show Below W6.heap.size W6 (W6.drew.alloc (.cells #[.slice B l cb] 33)) from (below_drewN (Below.refl _ W6) 1).alloc (Nat.le_refl _) _)
          have HT6 := Lib.hid (And.intro t56 s6)
          have hrow6 := hparts6.row
          rw [← HO.out.2.2.2.2] at hrow6
          have HRW := Lib.hid hrow6
          have HNA := Lib.hid hnA
          have hfin : ∀ (w7 : World) (A7 : Option Addr) (c7 : Nat), w7.ownsRow 0 33 1 (.slice A7 (n + 1) c7) (n + 1) (vs0 ++ [.slice B l cb]) → (W6.drew.alloc (.cells #[.slice B l cb] 33)).grownBy w7 (blk A0) → (blk A7 = blk A0 ∨ blk A7 = some (W6.drew.alloc (.cells #[.slice B l cb] 33)).heap.size) →
              MGo S Q w mb o (V.appD M b) ⟨vm, V.parts ++ [b], false⟩ false (w7.setCell ⟨mb, 2, none⟩ (.slice A7 (n + 1) c7)) := fun w7 A7 c7 hr7 hg7 hl7 => by
            obtain ⟨oct, hl, hBQ, hvm, hn⟩ := HO.out
            obtain ⟨_, hbox7⟩ := H7.out w7 hg7
            have hbd : Below W6.heap.size W6 (W6.drew.alloc (.cells #[.slice B l cb] 33)) := (below_drewN (Below.refl _ W6) 1).alloc (Nat.le_refl _) _
            have hPD : PartsAt (W6.drew.alloc (.cells #[.slice B l cb] 33)) Q A0 c0 V.parts vs0 := hparts6.turn fun k hk => hbd.block k (by have := hQl k hk; omega)
            have hBD := row_later HRB.out hbd
            obtain ⟨X, hX⟩ : ∃ X, X = W6.drew.alloc (.cells #[.slice B l cb] 33) := ⟨_, rfl⟩
            rw [← hX] at hg7 hl7 hPD hBD hbd
            have hmore := hPD.more (b := b) oct (by rw [hl]; exact hBD) (A2 := A7) (c2 := c7) (by rw [← hn, hl]; exact hr7) hg7 (U := fun k => blk B = some k ∨ blk A7 = some k) (q := X.heap.size) (hl7.imp id (fun e => ⟨e, .inr e⟩)) (fun k hk => .inl hk)
            rw [hl] at hmore
            have hoth8 : ∀ k, k ≠ mb → (w7.setCell ⟨mb, 2, none⟩ (.slice A7 (n + 1) c7)).heap[k]? = w7.heap[k]? := fun k hk => Below.heap_setCell _ _ _ _ hk
            have hp8 := parts_model hmore hoth8 hbox7
            have hs8 : (w7.setCell ⟨mb, 2, none⟩ (.slice A7 (n + 1) c7)).heap.size = w7.heap.size := by simp [World.setCell]
            have hbox8 := heap_set hbox7 2 (.slice A7 (n + 1) c7)
            have hA7 : ∀ k, blk A7 = some k → k < w7.heap.size := fun k hk => (hr7.lt k (by cases A7 <;> simp_all [Value.ownBlock, blk])).2
            have hgs := hg7.size
            have hbs := hbd.size
            have hbw := HBW.out.size
            have hs2 := HS2.out
            have hz5 := HZ5.out.1
            have hA7w : ∀ k, blk A7 = some k → Q k ∨ w5.heap.size ≤ k := fun k hk => by
              rcases hl7 with e | e
              · rw [e] at hk; exact .inl (hparts6.rowT k hk)
              · rw [e] at hk
                have : X.heap.size = k := by simpa using hk
                exact .inr (by omega)
            have hR : ∀ k, (Q k ∨ blk B = some k ∨ blk A7 = some k) → k < w7.heap.size ∧ ¬ grew S W2 w5 k ∧ (Q k ∨ w.heap.size ≤ k) := fun k hk => by
              have hq : Q k ∨ w5.heap.size ≤ k := by
                rcases hk with e | e | e
                · exact .inl e
                · exact .inl (hBQ k e)
                · exact hA7w k e
              refine ⟨?_, ?_, hq.imp id (fun e => by omega)⟩
              · rcases hk with e | e | e
                · have := hQl k e; omega
                · have := hQl k (hBQ k e); omega
                · exact hA7 k e
              · rcases hq with e | e
                · exact fun e2 => e2.elim (HSP.out k e) (fun e2 => by have := hQl k e; omega)
                · exact fun e2 => e2.elim (fun e2 => by have := HA.out.1.low (.inl e2); omega) (fun e2 => by omega)
            refine mgo_set (V' := ⟨vm, V.parts ++ [b], false⟩) (A := A7) (c := c7) (vs := vs0 ++ [.slice B l cb]) (R := fun k => Q k ∨ blk B = some k ∨ blk A7 = some k) HM.out HSP.out HA.out.1 ((Turn.of_below (S := S) HBW.out).trans HA.out.2 (fun k hk => .inl hk)) (fun k hk => hk.imp id (fun e => by omega)) (by rw [hvm]; show (w7.setCell ⟨mb, 2, none⟩ (.slice A7 (n + 1) c7)).heap[mb]? = some (.cells #[.pointer (some ⟨o, 0, none⟩), .int .i64 V.most, .slice A7 (V.parts ++ [b]).length c7, .bool false, .bool false] 31 (0, 0)); rw [List.length_append, List.length_singleton, ← hn]; exact hbox8) ?_ hp8 (fun k hk => ⟨by rw [hs8]; exact (hR k hk).1, (hR k hk).2⟩)
            have ta : Turn (fun k => k = mb) w5 X := t56.trans (Turn.of_below (S := fun _ => False) hbd) (fun _ e => e.elim)
            have tb : Turn (fun k => blk A0 = some k) X w7 := Turn.of_grown hg7 (fun k e => .inl e)
            have tc : Turn (fun k => k = mb) w7 (w7.setCell ⟨mb, 2, none⟩ (.slice A7 (n + 1) c7)) := ⟨rfl, rfl, rfl, by rw [hs8]; exact Nat.le_refl _, fun k _ hn => hoth8 k hn⟩
            refine ((ta.mono (fun k hk => .inl hk)).trans tb (fun k hk => .inl (.inr ?_))).trans tc (fun k hk => .inl (.inl hk))
            have hq := hparts6.rowT k hk
            exact ⟨.inl hq, (hR k (.inl hq)).2⟩
          have HFIN := Lib.hid hfin
          clear hfin
          clear hW6 hoth6 s6 hbox6 t56 hparts6 hcell6 hnA hQl h7 hrow6 k0 k1 k2 k3 k4 k5 k6 k7 k8 hp5 hb5
          go_region_law ((refine step_rows (by rfl) _ _ (by rfl) A0 c0 n vs0 (by rfl) (row_later HRW.out HBD.out) W6.heap.size (.slice B l cb) (by rfl) HCN.out (by rfl) hnb ?_; intro A7 c7 w7 hr7 hg7 hl7; obtain ⟨p7, hbox7⟩ := H7.out w7 hg7; obtain ⟨i0, i1, i2, i3, i4, i5, i6, i7, i8⟩ := mod_cells hbox7; rw [← HO.out.2.2.2.2] at i2; have HR7 := Lib.hid hr7; have HG7 := Lib.hid hg7; have HL7 := Lib.hid hl7; have HX7 := Lib.hid hbox7; clear hr7 hg7 hl7 hbox7))
          all_goals (
            go_wp2
            go_ret
            rw [HE.out]
            exact ⟨rfl, HFIN.out _ _ _ HR7.out HG7.out HL7.out⟩)
        · have t2 : (cc == 0) = false := by simp [hz]
          have t3 : (cc != 0) = true := by simp [hz]
          have HE := Lib.hid (show V.appV M b = ⟨vm, V.parts, true⟩ from a3.trans (if_pos hz))
          clear hd hops hm hsep hok hl hr ho hBQ g0 hcc hW1 hW2 s1 s2 b1 b2 bw e1 e2 f1 hsame hlowS hd2 hr2 hs2 hno e1' e2' e3' hrc hbr hvok hlim hcost hlim2 hcl hvm hcs hn hroom hf hbr' a1 a2 a3 hst hz hml
          go_enter Tryz.func37, Tryz.ntmps37
          go_upto_region 7 with fail
          rw [← HW.out]
          clear m0 m1 m2 m3 m4 hcp hcb
          go_quiet ((go_at_call 40; with_reducible refine Calls.quiet_of_same (HCO.out _)))
          go_wp2_with fail
          refine (HST.out _).mono ?_
          rintro e w5 ⟨rfl, ha, hz5⟩
          have HA := Lib.hid ha
          have g5 := HG0.out.other ha.2 HSP.out
          have HG5 := Lib.hid g5
          have hp5 := turn_cell ha.2 (HLS.out _ (Nat.le_refl _)) HC2.out.1
          obtain ⟨k0, k1, k2, k3, k4, k5, k6, k7, k8⟩ := mod_cells g5.box
          have hml := HM.out.low HM.out.inQ
          have n1 : ¬ mb = w.heap.size := by omega
          have n2 : ¬ w.heap.size = mb := by omega
          clear ha g5 hz5 hml
          go_wp2
          go_ret
          rw [HE.out]
          have key := mgo_broken (x := true) HM.out HSP.out HA.out.1 ((Turn.of_below (S := S) HBW.out).trans HA.out.2 (fun k hk => .inl hk)) (fun k hk => hk.imp id (fun e => Nat.le_trans HBW.out.size e.1)) HG5.out
          rw [← HO.out.2.2.2.1] at key
          exact ⟨rfl, key⟩
end

end Go.Proofs.YtienabfilnpieaaGreat
