/-
  hear: of a log, walked.
-/
import Derived.Test.YtienabfilnpieaaGreatWalF
namespace Go.Proofs.YtienabfilnpieaaGreat
open Go.RowKit Go.Shelf
set_option linter.unusedVariables false
set_option maxRecDepth 100000
attribute [local go_sem] Oper.semAt_some

theorem name_worldIn {F : Fence} {n : Nat} {P : Program} {cd : Code} {Q : Exit → Act → World → Prop} {a : Act} {w : World} (Φ : World → Prop) (h : Φ w) (k : ∀ w', Φ w' → Code.wpIn F n P cd Q a w') : Code.wpIn F n P cd Q a w := k w h
theorem noByte_one (A : Option Addr) (n c : Nat) : ∀ u ∈ [Value.slice A n c], NoByte u := by
  intro u hu z e
  rw [List.mem_singleton] at hu
  rw [hu] at e
  cases e
theorem noByte_nil : NoByte (.slice none 0 0) := by intro z e; cases e
theorem drop_le (bs : List Int) (n : Nat) : (bs.drop n).length ≤ bs.length := by simp
theorem hear_end {W : World} {r D : Nat} {a b u v : Value} {o : Obj} (hbr : W.heap[r]? = some (.cells #[u, v] 83 (0, 0))) (hK : W.heap[D]? = some (.deferred (some []))) (hne : r < D) :
    ((W.setCell ⟨r, 0, none⟩ a).setCell ⟨r, 1, none⟩ b).heap[D]? = some (.deferred (some [])) ∧ (((W.setCell ⟨r, 0, none⟩ a).setCell ⟨r, 1, none⟩ b).putObj D o).cell? ⟨r, 0, none⟩ = some a ∧ (((W.setCell ⟨r, 0, none⟩ a).setCell ⟨r, 1, none⟩ b).putObj D o).cell? ⟨r, 1, none⟩ = some b ∧
    Below r W (((W.setCell ⟨r, 0, none⟩ a).setCell ⟨r, 1, none⟩ b).putObj D o) ∧ (∀ k, k ≠ r → k ≠ D → (((W.setCell ⟨r, 0, none⟩ a).setCell ⟨r, 1, none⟩ b).putObj D o).heap[k]? = W.heap[k]?) ∧ (((W.setCell ⟨r, 0, none⟩ a).setCell ⟨r, 1, none⟩ b).putObj D o).heap.size = W.heap.size := by
  have e1 : ((W.setCell ⟨r, 0, none⟩ a).setCell ⟨r, 1, none⟩ b).heap[r]? = some (.cells #[a, b] 83 (0, 0)) := heap_set (heap_set hbr 0 a) 1 b
  have e2 : ∀ k, k ≠ r → ((W.setCell ⟨r, 0, none⟩ a).setCell ⟨r, 1, none⟩ b).heap[k]? = W.heap[k]? := fun k hk => (Below.heap_setCell _ _ _ _ hk).trans (Below.heap_setCell _ _ _ _ hk)
  have e3 : (((W.setCell ⟨r, 0, none⟩ a).setCell ⟨r, 1, none⟩ b).putObj D o).heap[r]? = some (.cells #[a, b] 83 (0, 0)) := (World.putObj_heap_other (by omega)).trans e1
  refine ⟨(e2 D (by omega)).trans hK, by simp [World.cell?, e3], by simp [World.cell?, e3], ⟨rfl, rfl, rfl, by simp [World.putObj, World.setCell], fun k hk => (World.putObj_heap_other (by omega)).trans (e2 k (by omega))⟩, fun k h1 h2 => (World.putObj_heap_other h2).trans (e2 k h1), by simp [World.putObj, World.setCell]⟩
theorem parts_said {W X : World} {T : Nat → Prop} {A : Option Addr} {c r D : Nat} {ps : List (List Int)} {vs : List Value} {u v : Value} (hp : PartsAt W T A c ps vs) (hb : ∀ k, k ≠ r → k ≠ D → X.heap[k]? = W.heap[k]?) (hr : W.heap[r]? = some (.cells #[u, v] 83 (0, 0))) (hD : W.heap[D]? = some (.deferred (some []))) : PartsAt X T A c ps vs := by
  have key : ∀ {k : Nat} {cur : Array Value} {e : TypeId}, W.heap[k]? = some (.cells cur e (0, 0)) → e ≠ 83 → X.heap[k]? = W.heap[k]? := fun {k cur e} hk he => by
    refine hb k (fun h => ?_) (fun h => ?_)
    · subst h
      rw [hr] at hk
      injection hk with hk
      injection hk with _ hk
      exact he hk.symm
    · subst h
      rw [hD] at hk
      cases hk
  refine ⟨row_same hp.row fun k hk => ?_, fun i p hi => ?_, hp.rowT⟩
  · obtain ⟨cur, hc⟩ := own_block hp.row hk
    exact key hc (by decide)
  · obtain ⟨B, cb, h1, h2, h3, h4⟩ := hp.each i p hi
    exact ⟨B, cb, h1, row_same h2 fun k hk => by obtain ⟨cur, hc⟩ := own_block h2 hk; exact key hc (by decide), h3, h4⟩
/-- What hear answers. -/
def HearsY (w : World) (bs : List Int) (lim : Int) (e : Ending) (w' : World) : Prop :=
  Below w.heap.size w w' ∧ (partsM bs = [] → e = .returned (.tuple #[saidV 0 none 0 0, .int .i64 140])) ∧
  (partsM bs ≠ [] → ∃ A c, e = .returned (.tuple #[saidV lim A (partsM bs).length c, .int .i64 0]) ∧ Heard w bs A c w')
theorem hear_own {W W8 : World} {q : Nat} {a b : Value} {A : Option Addr} {c : Nat} {ps : List (List Int)} {vs : List Value} {n : Nat} {T : Nat → Prop} {tmp : Obj} (hroom : W.heap[q + 1]? = some (.cells #[b] 3 (0, 0))) (hp : PartsAt W T A c ps vs) (hodd : AllC NoByte W (.slice A n c)) (h8 : Put1 W W8 (q + 1) (.cells #[a] 3 (0, 0))) (hn : ps.length = n := by simp) :
    (W8.alloc tmp).ownsRow 0 33 1 (.slice A n c) n vs ∧ AllC NoByte (W8.alloc tmp) (.slice A n c) := by
  subst hn
  have key : ∀ k, blk A = some k → (W8.alloc tmp).heap[k]? = W.heap[k]? := fun k hk => by
    obtain ⟨cur, hc⟩ := own_block hp.row hk
    rw [Below.heap_alloc W8 tmp k (by rw [h8.size]; exact lt_of_block hc)]
    refine h8.other k (fun e => ?_)
    subst e
    rw [hroom] at hc
    injection hc with hc
    injection hc with _ hc
    exact absurd hc (by decide)
  exact ⟨row_same hp.row key, hodd.same fun k hk => key k (by rw [ob_eq] at hk; exact hk)⟩
theorem hear_box {W W8 W10 : World} {q : Nat} {a b x y : Value} {A : Option Addr} {c : Nat} {ps : List (List Int)} {vs : List Value} {T : Nat → Prop} {tmp : Obj} (hbox : W.heap[q]? = some (.cells #[x, y] 83 (0, 0))) (hroom : W.heap[q + 1]? = some (.cells #[b] 3 (0, 0))) (hp : PartsAt W T A c ps vs) (h8 : Put1 W W8 (q + 1) (.cells #[a] 3 (0, 0)))
    (hg : (W8.alloc tmp).grownBy W10 (blk A)) : W10.heap[q]? = some (.cells #[x, y] 83 (0, 0)) := by
  have hlt := lt_of_block hbox
  rw [hg.block q (by rw [World.size_alloc, h8.size]; omega) (fun e => ?_), Below.heap_alloc W8 tmp q (by rw [h8.size]; exact hlt), h8.other q (by omega)]
  · exact hbox
  · obtain ⟨cur, hc⟩ := own_block hp.row e.symm
    rw [hbox] at hc
    injection hc with hc
    injection hc with _ hc
    exact absurd hc (by decide)

set_option maxHeartbeats 4000000 in
theorem hear_wide (A : Option Addr) (c : Nat) (bs : List Int) (w : World) (hr : Sl w A c bs) (ho : Oct bs) (hbig : bs.length ≤ 1000000) (lim : Int) (hl : limitM bs = lim) (hlim : Lim lim) (h20 : 20 ≤ bs.length) (hc : ¬ c = 20) :
    Calls Tryz.prog 97 #[.slice A bs.length c] w (HearsY w bs lim) := by
  have HL := Lib.hid (fun (W : World) (hW : Below w.heap.size w W) => limit_any A c bs W (hr.below hW) ho (by omega))
  rw [hl] at HL
  have HLIM := Lib.hid hl
  have HO := Lib.hid ho
  have hrm := hr.room
  have hrm2 := hr.most
  obtain ⟨l, hll⟩ : ∃ l, l = bs.length := ⟨_, rfl⟩
  have HLL := Lib.hid hll
  have HBIG := Lib.hid hbig
  rw [← hll] at HL hbig hrm h20 ⊢
  have hz := hr.cut 20 (by omega)
  have i1 : (20 : Int) ≤ (l : Int) := by omega
  have i2 : (l : Int) ≤ (c : Int) := by omega
  rw [behind, if_neg hc] at hz
  have hAZ : (A.map (·.add 20)) = Option.map (fun x : Addr => { block := x.block, off := x.off + 20, spot := none }) A := by cases A <;> rfl
  rw [hAZ] at hz
  clear hAZ
  have t1 : (lim == 0) = false := by have := hlim.1; simp; omega
  have t1b : ¬ lim = 0 := by have := hlim.1; omega
  have HLM := Lib.hid hlim
  have hb1 : Below w.heap.size w (w.alloc (.cells #[.int .i64 0, .slice none 0 0] 83)) := (Below.refl _ w).alloc (Nat.le_refl _) _
  have HB1 := Lib.hid hb1
  have HN1 := Lib.hid (heap_alloc_new w (.cells #[.int .i64 0, .slice none 0 0] 83))
  have HZ := Lib.hid hz
  clear hr ho hl hb1 hll hlim hz
  refine (callsIn_wide (n := 3)).1 ?_
  refine callsIn_of_wp_marks Tryz.func97 rfl trivial ?_ rfl
  simp only [Tryz.ntmps97, List.size_toArray, List.length_cons, List.length_nil, Nat.reduceAdd, Nat.reduceSub, Array.replicate_succ, Array.replicate_zero, List.push_toArray, List.append_toArray, List.nil_append, List.cons_append]
  gi_wp2_with (refine ⟨trivial, ?_⟩; first
    | (gi_at_call 121; refine (callsIn_wide.2 (HL.out _ HB1.out)).mono ?_; rintro e w2 ⟨rfl, hb2⟩; have HB2 := Lib.hid hb2; clear hb2)
    | (gi_at_call 122; refine (callsIn_wide.2 (frames_any _ _ _ _)).mono ?_; rintro e w' ⟨rfl, rfl⟩))
  generalize Option.map (fun x : Addr => ({ block := x.block, off := x.off + 20, spot := none } : Addr)) A = Z at HZ ⊢
  generalize c - 20 = cz at HZ ⊢
  have HSZ := Lib.hid (HZ.out.below (HB1.out.trans (HB2.out.mono HB1.out.size)))
  obtain ⟨q, hq⟩ : ∃ q, q = w2.heap.size := ⟨_, rfl⟩
  have HQ := Lib.hid hq
  obtain ⟨W0, hW0⟩ : ∃ W0, W0 = ((w2.alloc (.cells #[.int .i64 lim, .slice none 0 0] 83)).alloc (.cells #[.int .i64 lim] 3)).alloc (.cells #[.slice Z (l - 20) cz] 33) := ⟨_, rfl⟩
  rw [← hW0, ← hq]
  have hbW : Below w2.heap.size w2 W0 := by rw [hW0]; exact (((Below.refl _ w2).alloc (Nat.le_refl _) _).alloc (by simp) _).alloc (by simp; omega) _
  have hzW : W0.heap.size = q + 3 := by rw [hW0, hq]; simp
  have f0 : W0.heap[q]? = some (.cells #[.int .i64 lim, .slice none 0 0] 83 (0, 0)) := by
    rw [hW0, hq, Below.heap_alloc _ _ _ (by simp; omega), Below.heap_alloc _ _ _ (by simp)]; exact heap_alloc_new _ _
  have f1 : W0.heap[q + 1]? = some (.cells #[.int .i64 lim] 3 (0, 0)) := by
    rw [hW0, hq, Below.heap_alloc _ _ _ (by simp)]
    have := heap_alloc_new (w2.alloc (.cells #[.int .i64 lim, .slice none 0 0] 83)) (.cells #[.int .i64 lim] 3)
    rwa [World.size_alloc] at this
  have f2 : W0.cell? ⟨q + 2, 0, none⟩ = some (.slice Z (l - 20) cz) := by
    have := heap_alloc_new ((w2.alloc (.cells #[.int .i64 lim, .slice none 0 0] 83)).alloc (.cells #[.int .i64 lim] 3)) (.cells #[.slice Z (l - 20) cz] 33)
    rw [World.size_alloc, World.size_alloc, ← hW0, ← hq] at this
    simp [World.cell?, this]
  have hbw0 : Below w.heap.size w W0 := (HB1.out.trans (HB2.out.mono HB1.out.size)).trans (hbW.mono (HB1.out.trans (HB2.out.mono HB1.out.size)).size)
  have hwq : w.heap.size < q := by rw [hq]; exact Nat.lt_of_lt_of_le (lt_of_block HN1.out) HB2.out.size
  have fr : W0.heap[w.heap.size]? = some (.cells #[.int .i64 0, .slice none 0 0] 83 (0, 0)) := (hbW.block _ (Nat.lt_of_lt_of_le (lt_of_block HN1.out) HB2.out.size)).trans ((HB2.out.block _ (lt_of_block HN1.out)).trans HN1.out)
  have hI0 : HearI w q lim [] W0 := ⟨⟨none, 0, [], f0, ⟨World.ownsRow_nil _ _ _ _, fun i p hp => by simp at hp, fun k hk => by cases hk⟩, fun g hg => by simp [Value.ownBlock] at hg⟩, by simpa [costM] using f1, fr, hbw0, by have := HLM.out.1; simp [costM]; omega, fun x hx => by simp at hx⟩
  have HI0 := Lib.hid hI0
  have HSW := Lib.hid (HSZ.out.below hbW)
  have hdl : (bs.drop 20).length = (l - 20) := by rw [List.length_drop, ← HLL.out]
  have hsw0 := hbw0.size
  have HZW := Lib.hid hzW
  have HSW0 := Lib.hid hsw0
  have HWQ := Lib.hid hwq
  clear f0 f1 fr hI0 hW0 hbW hq hzW
  refine range_own rfl (by omega) (gf := 137) (lb := #[.pointer (some ⟨q + 2, 0, none⟩)]) rfl trivial (enters_of Tryz.func137 (by kernel_rfl) rfl)
    (frames1_in 2 (q + 2) (by omega) (by rw [hdl]; exact f2) HSW.out (HO.out.drop 20) (by rw [hdl]; omega)) ownScan_cells kpX_trans kpX_put (fun _ => rfl) factX_put (HearI w q lim) (HearX w q lim)
    (hearI_abides w q _ lim (by omega)) (fun cd => hearX_abides w q _ lim (by omega) cd)
    (fun s W k o o' hi hk => hearI_put w q lim s W k o o' hi (by omega)) (fun cd s W k o o' hi hk => hearX_put w q lim cd s W k o o' hi (by omega))
    (fun W hb _ => hearI_later HI0.out hb)
    (fun x => { tmps := #[.slice A l c, undef, .pointer (some ⟨w.heap.size, 0, none⟩), .int .i64 0, .pointer (some ⟨q, 0, none⟩), .pointer (some ⟨q + 1, 0, none⟩), .slice x.1 x.2.2.length x.2.1, .slice A l c, .int .i64 lim, .agg #[.int .i64 lim, .slice none 0 0], .pointer (some ⟨q, 0, none⟩), .int .i64 lim, .bool false, undef, .pointer (some ⟨q, 0, none⟩), .int .i64 lim, .slice A l c, .slice Z (l - 20) cz, .func (.func 137) #[] #[.pointer (some ⟨q + 2, 0, none⟩)], .slice x.1 x.2.2.length x.2.1, undef, undef, undef, undef, undef, undef, undef, undef, undef, undef, undef, undef, undef, undef, undef, undef, undef, undef, undef, undef], defers := [] }) ?assign ?body ?done ?stop
  case assign =>
    intro lp x W K hK
    dsimp only [Xp.enc]
    gi_wp2
    exact hK
  case body =>
    intro lp pre x W hI hsz hf hnx
    have HIW := Lib.hid hI
    obtain ⟨r0', r1', hrun, hstep⟩ := hnx
    have hpre := hrun.len
    have hstl := stepM_len hstep
    have hdle := drop_le bs 20
    have hbig2 := HBIG.out
    have hplb : x.2.2.length ≤ 1000000 := by omega
    have hpreb : pre.length ≤ 1000000 := by omega
    clear hdle hbig2
    obtain ⟨⟨A1, c1, vs, b0, hp, hodd⟩, b1, br, hbel, hfit⟩ := hI
    have r0 : W.cell? ⟨q + 1, 0, none⟩ = some (.int .i64 (lim - costM (pre.map (·.2.2)))) := by simp [World.cell?, b1]
    obtain ⟨xa, xc, p⟩ := x
    have HF := Lib.hid hf
    obtain ⟨rm, hrm⟩ : ∃ rm, rm = lim - costM (pre.map (·.2.2)) := ⟨_, rfl⟩
    rw [← hrm] at r0
    have HRM := Lib.hid hrm
    have hrm0 : 0 ≤ rm ∧ rm ≤ 16000 := by have := hfit.1; have := HLM.out.2; omega
    have HB0 := Lib.hid b0
    have HB1' := Lib.hid b1
    have HP := Lib.hid hp
    have HODD := Lib.hid hodd
    clear hrm hfit b0 b1 br hp hbel hf hodd hrun hstep hpre hstl
    dsimp only at hplb
    have HFT := Lib.hid (fun V => wfits_any xa p.length xc rm V (by omega))
    have HCT := Lib.hid (fun V => costOf_any xa p.length xc V (by omega))
    obtain ⟨pl, hpl⟩ : ∃ pl, pl = p.length := ⟨_, rfl⟩
    have HPLE := Lib.hid hpl
    rw [← hpl] at HFT HCT hplb
    dsimp only at hpl ⊢
    rw [← hpl]
    clear hpl
    by_cases hfc : fitsC pl rm = 0
    · have hf2 : pl ≤ 16000 ∧ (pl : Int) + 12 ≤ rm := by
        unfold fitsC at hfc
        split at hfc
        · omega
        · split at hfc <;> omega
      rw [hfc] at HFT
      clear hfc
      gi_wp2_with (refine ⟨trivial, ?_⟩; first
        | (gi_at_call 101; refine (callsIn_wide.2 (HFT.out _)).mono ?_; rintro e w5 ⟨rfl, rfl⟩))
      have r0f : W.frozen? ⟨q + 1, 0, none⟩ = false := by have := HB1'.out; simp [World.frozen?, this]
      have hw8 : IntKind.i64.wrap (rm - ((pl : Int) + 12)) = rm - ((pl : Int) + 12) := i64_fit (by omega)
      gi_region_with (refine ⟨trivial, ?_⟩; gi_at_call 111; refine (callsIn_wide.2 (HCT.out _)).mono ?_; rintro e w' ⟨rfl, rfl⟩)
      all_goals
        first
          | (obtain ⟨W8, hW8⟩ : ∃ W8, W8 = (W.setCell ⟨q + 1, 0, none⟩ (.int .i64 (rm - ((pl : Int) + 12)))).drew := ⟨_, rfl⟩
             rw [← hW8])
          | (obtain ⟨W8, hW8⟩ : ∃ W8, W8 = W.drew.setCell ⟨q + 1, 0, none⟩ (.int .i64 (rm - ((pl : Int) + 12))) := ⟨_, rfl⟩
             rw [← hW8])
        have hp8 : Put1 W W8 (q + 1) (.cells #[.int .i64 (rm - ((pl : Int) + 12))] 3 (0, 0)) := by
          rw [hW8]
          first | exact (put1_set HB1'.out).drew | exact Put1.of_drew (put1_set HB1'.out)
        clear hW8
        have HP8 := Lib.hid hp8
        have g1 : W8.cell? ⟨q, 1, none⟩ = some (.slice A1 pre.length c1) := by
          have := hp8.other q (by omega)
          rw [HB0.out] at this
          simp [World.cell?, this]
        have HO8 := Lib.hid (fun tmp => hear_own (tmp := tmp) HB1'.out HP.out HODD.out hp8)
        clear hp8 r0 r0f hw8
        obtain ⟨i0, hi, hz0, hz1, hz2⟩ := info_parts infoBytes
        gi_wp2_with (gi_at_builtin; refine wpListIn_append_all rfl (.tmp 29) (.tmp 31) 29 rfl 0 33 i0 (.slice none 0 0) 24 Tryz.underlying29 hi hz0 hz1 hz2 rfl (.slice A1 pre.length c1) pre.length vs rfl (HO8.out _).1 ⟨W8.heap.size, 0, none⟩ 1 1 [.slice xa pl xc] rfl rfl (cell_one_new _ _ _) (by simp [Value.oneCell']) (by unfold maxLen; omega) (by omega) (Nat.zero_le _) NoByte (HO8.out _).2 (noByte_one _ _ _) noByte_nil ?_; intro v' W10 hown' hgrow' hloc' hodd'; obtain ⟨A2, c2, rfl, _, _⟩ := own_form hown'; have hbox := hear_box HB0.out HB1'.out HP.out HP8.out (by rw [ob_eq] at hgrow'; exact hgrow'); obtain ⟨_, g2, _, g3⟩ := two_facts hbox; have HOWN := Lib.hid hown'; have HGRW := Lib.hid hgrow'; have HLOC := Lib.hid hloc'; have HODD' := Lib.hid hodd'; clear hown' hgrow' hloc' hodd' hbox)
        have hcs : costM ((pre ++ [((xa, xc, p) : Xp)]).map (·.2.2)) = costM (pre.map (·.2.2)) + (p.length + 12) := by rw [List.map_append, costM_append]; simp [costM]
        have hpe := HPLE.out
        have hre := HRM.out
        have h3 := HGRW.out
        have h4 := HLOC.out
        rw [ob_eq] at h3 h4
        rw [ob_eq] at h4
        exact hear_more (A := A1) (c := c1) (vs := vs) HIW.out HWQ.out HF.out (by have := HSW0.out; omega) HB0.out HP.out HODD.out (by rw [hcs, show lim - ((costM (pre.map (·.2.2)) + (p.length + 12) : Nat) : Int) = rm - ((pl : Int) + 12) by omega]; exact HP8.out) (by rw [hcs]; omega) (by show p.length ≤ 16000; omega) (by rw [← HPLE.out]; exact HOWN.out) h3 h4 HODD'.out
    · obtain ⟨fc, hfe⟩ : ∃ fc, fc = fitsC pl rm := ⟨_, rfl⟩
      rw [← hfe] at HFT hfc
      have t1 : (fc != 0) = true := by simp [hfc]
      have HFE := Lib.hid (And.intro hfe hfc)
      clear hfe hfc
      gi_wp2_with (refine ⟨trivial, ?_⟩; first
        | (gi_at_call 101; refine (callsIn_wide.2 (HFT.out _)).mono ?_; rintro e w5 ⟨rfl, rfl⟩))
      exact ⟨KeepsFrom.refl _ _, pre, (xa, xc, p), rfl, HIW.out, by show fitsC p.length _ ≠ 0; rw [← HPLE.out, ← HRM.out, ← HFE.out.1]; exact HFE.out.2, rfl⟩
  case done =>
    rintro xs W ⟨r, hrun, hst⟩ hI hK
    have hps : partsM bs = xs.map (·.2.2) := parts_done hrun (by rw [HLIM.out]; exact hI.fit.1) hI.fit.2 hst
    have HPS := Lib.hid hps
    obtain ⟨⟨A1, c1, vs, b0, hp, _⟩, b1, br, hbel, hfit⟩ := hI
    obtain ⟨g0, g1, g2, g3⟩ := two_facts b0
    obtain ⟨h0, h1, h2, h3⟩ := two_facts br
    have HP := Lib.hid hp
    have HBEL := Lib.hid hbel
    have HFIT := Lib.hid hfit
    have HBR := Lib.hid br
    have HB0 := Lib.hid b0
    have HK := Lib.hid hK
    have hqw := HWQ.out
    have HXL := Lib.hid (show (xs.map (·.2.2)).length = xs.length by simp)
    clear hp hbel hfit b0 br b1 hps
    by_cases hn : xs.length = 0
    · have HE := Lib.hid (show partsM bs = [] by rw [HPS.out]; exact List.eq_nil_of_length_eq_zero (by rw [HXL.out]; exact hn))
      rw [hn] at g1
      clear hn hK
      gi_wp2
      obtain ⟨q1, q2, q3, q4, q5, q6⟩ := hear_end (o := .deferred none) (a := .int .i64 0) (b := .slice none 0 0) HBR.out HK.out (by have := HZW.out; have := HWQ.out; omega)
      refine ⟨by simp, .inl ⟨_, _, rfl, run_takeDeferred q1, ?_⟩⟩
      exact ⟨.tuple #[.agg #[.int .i64 0, .slice none 0 0], .int .i64 140], by simp [results, Tryz.results97, go_sem, q2, q3], HBEL.out.trans q4, fun _ => rfl, fun hne => absurd HE.out hne⟩
    · have t2 : ((xs.length : Int) == 0) = false := by simp; intro e; rw [e] at hn; simp at hn
      have t3 : (xs.length == 0) = false := by simp; intro e; rw [e] at hn; simp at hn
      have HN := Lib.hid hn
      clear hn hK
      gi_wp2
      obtain ⟨q1, q2, q3, q4, q5, q6⟩ := hear_end (o := .deferred none) (a := .int .i64 lim) (b := .slice A1 xs.length c1) HBR.out HK.out (by have := HZW.out; have := HWQ.out; omega)
      refine ⟨by simp, .inl ⟨_, _, rfl, run_takeDeferred q1, ?_⟩⟩
      have hpl : (partsM bs).length = xs.length := by rw [HPS.out]; exact HXL.out
      refine ⟨.tuple #[.agg #[.int .i64 lim, .slice A1 xs.length c1], .int .i64 0], by simp [results, Tryz.results97, go_sem, q2, q3], HBEL.out.trans q4, fun he => ?_, fun _ => ⟨A1, c1, by unfold saidV; rw [hpl], ⟨vs, ?_⟩, HBEL.out.trans q4, ?_⟩⟩
      · rw [he] at hpl
        exact absurd hpl.symm HN.out
      · rw [HPS.out]
        exact (parts_said HP.out q5 HBR.out HK.out).widen (fun k hk => ⟨hk.1, by rw [q6]; exact hk.2⟩)
      · rw [HPS.out, HLIM.out]
        exact HFIT.out.1
  case stop =>
    rintro cd pre W ⟨r, hrun⟩ ⟨xs, x, rfl, hI, hfx, rfl⟩ hK
    obtain ⟨r0', hrun0, hst⟩ := run_snoc hrun
    have hps : partsM bs = xs.map (·.2.2) := parts_stop hrun0 (by rw [HLIM.out]; exact hI.fit.1) hI.fit.2 hst (by rw [HLIM.out]; exact hfx)
    clear hrun hrun0 hst hfx
    have HPS := Lib.hid hps
    obtain ⟨⟨A1, c1, vs, b0, hp, _⟩, b1, br, hbel, hfit⟩ := hI
    obtain ⟨g0, g1, g2, g3⟩ := two_facts b0
    obtain ⟨h0, h1, h2, h3⟩ := two_facts br
    have HP := Lib.hid hp
    have HBEL := Lib.hid hbel
    have HFIT := Lib.hid hfit
    have HBR := Lib.hid br
    have HB0 := Lib.hid b0
    have HK := Lib.hid hK
    have hqw := HWQ.out
    have HXL := Lib.hid (show (xs.map (·.2.2)).length = xs.length by simp)
    clear hp hbel hfit b0 br b1 hps
    by_cases hn : xs.length = 0
    · have HE := Lib.hid (show partsM bs = [] by rw [HPS.out]; exact List.eq_nil_of_length_eq_zero (by rw [HXL.out]; exact hn))
      rw [hn] at g1
      clear hn hK
      gi_wp2
      obtain ⟨q1, q2, q3, q4, q5, q6⟩ := hear_end (o := .deferred none) (a := .int .i64 0) (b := .slice none 0 0) HBR.out HK.out (by have := HZW.out; have := HWQ.out; omega)
      refine ⟨by simp, .inl ⟨_, _, rfl, run_takeDeferred q1, ?_⟩⟩
      exact ⟨.tuple #[.agg #[.int .i64 0, .slice none 0 0], .int .i64 140], by simp [results, Tryz.results97, go_sem, q2, q3], HBEL.out.trans q4, fun _ => rfl, fun hne => absurd HE.out hne⟩
    · have t2 : ((xs.length : Int) == 0) = false := by simp; intro e; rw [e] at hn; simp at hn
      have t3 : (xs.length == 0) = false := by simp; intro e; rw [e] at hn; simp at hn
      have HN := Lib.hid hn
      clear hn hK
      gi_wp2
      obtain ⟨q1, q2, q3, q4, q5, q6⟩ := hear_end (o := .deferred none) (a := .int .i64 lim) (b := .slice A1 xs.length c1) HBR.out HK.out (by have := HZW.out; have := HWQ.out; omega)
      refine ⟨by simp, .inl ⟨_, _, rfl, run_takeDeferred q1, ?_⟩⟩
      have hpl : (partsM bs).length = xs.length := by rw [HPS.out]; exact HXL.out
      refine ⟨.tuple #[.agg #[.int .i64 lim, .slice A1 xs.length c1], .int .i64 0], by simp [results, Tryz.results97, go_sem, q2, q3], HBEL.out.trans q4, fun he => ?_, fun _ => ⟨A1, c1, by unfold saidV; rw [hpl], ⟨vs, ?_⟩, HBEL.out.trans q4, ?_⟩⟩
      · rw [he] at hpl
        exact absurd hpl.symm HN.out
      · rw [HPS.out]
        exact (parts_said HP.out q5 HBR.out HK.out).widen (fun k hk => ⟨hk.1, by rw [q6]; exact hk.2⟩)
      · rw [HPS.out, HLIM.out]
        exact HFIT.out.1

set_option maxHeartbeats 4000000 in
theorem hear_tight (A : Option Addr) (c : Nat) (bs : List Int) (w : World) (hr : Sl w A c bs) (ho : Oct bs) (hbig : bs.length ≤ 1000000) (lim : Int) (hl : limitM bs = lim) (hlim : Lim lim) (h20 : 20 ≤ bs.length) (hc : c = 20) :
    Calls Tryz.prog 97 #[.slice A bs.length c] w (HearsY w bs lim) := by
  have HL := Lib.hid (fun (W : World) (hW : Below w.heap.size w W) => limit_any A c bs W (hr.below hW) ho (by omega))
  rw [hl] at HL
  have HLIM := Lib.hid hl
  have HO := Lib.hid ho
  have hrm := hr.room
  have hrm2 := hr.most
  obtain ⟨l, hll⟩ : ∃ l, l = bs.length := ⟨_, rfl⟩
  have HLL := Lib.hid hll
  have HBIG := Lib.hid hbig
  rw [← hll] at HL hbig hrm h20 ⊢
  have hz := hr.cut 20 (by omega)
  subst hc
  obtain rfl : l = 20 := by omega
  rw [behind, if_pos rfl] at hz
  have t1 : (lim == 0) = false := by have := hlim.1; simp; omega
  have t1b : ¬ lim = 0 := by have := hlim.1; omega
  have HLM := Lib.hid hlim
  have hb1 : Below w.heap.size w (w.alloc (.cells #[.int .i64 0, .slice none 0 0] 83)) := (Below.refl _ w).alloc (Nat.le_refl _) _
  have HB1 := Lib.hid hb1
  have HN1 := Lib.hid (heap_alloc_new w (.cells #[.int .i64 0, .slice none 0 0] 83))
  have HA := Lib.hid hz
  clear hr ho hl hb1 hll hlim hz
  refine (callsIn_wide (n := 3)).1 ?_
  refine callsIn_of_wp_marks Tryz.func97 rfl trivial ?_ rfl
  simp only [Tryz.ntmps97, List.size_toArray, List.length_cons, List.length_nil, Nat.reduceAdd, Nat.reduceSub, Array.replicate_succ, Array.replicate_zero, List.push_toArray, List.append_toArray, List.nil_append, List.cons_append]
  gi_wp2_with (refine ⟨trivial, ?_⟩; first
    | (gi_at_call 121; refine (callsIn_wide.2 (HL.out _ HB1.out)).mono ?_; rintro e w2 ⟨rfl, hb2⟩; have HB2 := Lib.hid hb2; clear hb2)
    | (gi_at_call 122; refine (callsIn_wide.2 (frames_any _ _ _ _)).mono ?_; rintro e w' ⟨rfl, rfl⟩))
  skip
  have HSZ := Lib.hid (HA.out.below (HB1.out.trans (HB2.out.mono HB1.out.size)))
  obtain ⟨q, hq⟩ : ∃ q, q = w2.heap.size := ⟨_, rfl⟩
  have HQ := Lib.hid hq
  obtain ⟨W0, hW0⟩ : ∃ W0, W0 = ((w2.alloc (.cells #[.int .i64 lim, .slice none 0 0] 83)).alloc (.cells #[.int .i64 lim] 3)).alloc (.cells #[.slice A 0 0] 33) := ⟨_, rfl⟩
  rw [← hW0, ← hq]
  have hbW : Below w2.heap.size w2 W0 := by rw [hW0]; exact (((Below.refl _ w2).alloc (Nat.le_refl _) _).alloc (by simp) _).alloc (by simp; omega) _
  have hzW : W0.heap.size = q + 3 := by rw [hW0, hq]; simp
  have f0 : W0.heap[q]? = some (.cells #[.int .i64 lim, .slice none 0 0] 83 (0, 0)) := by
    rw [hW0, hq, Below.heap_alloc _ _ _ (by simp; omega), Below.heap_alloc _ _ _ (by simp)]; exact heap_alloc_new _ _
  have f1 : W0.heap[q + 1]? = some (.cells #[.int .i64 lim] 3 (0, 0)) := by
    rw [hW0, hq, Below.heap_alloc _ _ _ (by simp)]
    have := heap_alloc_new (w2.alloc (.cells #[.int .i64 lim, .slice none 0 0] 83)) (.cells #[.int .i64 lim] 3)
    rwa [World.size_alloc] at this
  have f2 : W0.cell? ⟨q + 2, 0, none⟩ = some (.slice A 0 0) := by
    have := heap_alloc_new ((w2.alloc (.cells #[.int .i64 lim, .slice none 0 0] 83)).alloc (.cells #[.int .i64 lim] 3)) (.cells #[.slice A 0 0] 33)
    rw [World.size_alloc, World.size_alloc, ← hW0, ← hq] at this
    simp [World.cell?, this]
  have hbw0 : Below w.heap.size w W0 := (HB1.out.trans (HB2.out.mono HB1.out.size)).trans (hbW.mono (HB1.out.trans (HB2.out.mono HB1.out.size)).size)
  have hwq : w.heap.size < q := by rw [hq]; exact Nat.lt_of_lt_of_le (lt_of_block HN1.out) HB2.out.size
  have fr : W0.heap[w.heap.size]? = some (.cells #[.int .i64 0, .slice none 0 0] 83 (0, 0)) := (hbW.block _ (Nat.lt_of_lt_of_le (lt_of_block HN1.out) HB2.out.size)).trans ((HB2.out.block _ (lt_of_block HN1.out)).trans HN1.out)
  have hI0 : HearI w q lim [] W0 := ⟨⟨none, 0, [], f0, ⟨World.ownsRow_nil _ _ _ _, fun i p hp => by simp at hp, fun k hk => by cases hk⟩, fun g hg => by simp [Value.ownBlock] at hg⟩, by simpa [costM] using f1, fr, hbw0, by have := HLM.out.1; simp [costM]; omega, fun x hx => by simp at hx⟩
  have HI0 := Lib.hid hI0
  have HSW := Lib.hid (HSZ.out.below hbW)
  have hdl : (bs.drop 20).length = 0 := by rw [List.length_drop, ← HLL.out]
  have hsw0 := hbw0.size
  have HZW := Lib.hid hzW
  have HSW0 := Lib.hid hsw0
  have HWQ := Lib.hid hwq
  clear f0 f1 fr hI0 hW0 hbW hq hzW
  refine range_own rfl (by omega) (gf := 137) (lb := #[.pointer (some ⟨q + 2, 0, none⟩)]) rfl trivial (enters_of Tryz.func137 (by kernel_rfl) rfl)
    (frames1_in 2 (q + 2) (by omega) (by rw [hdl]; exact f2) HSW.out (HO.out.drop 20) (by rw [hdl]; omega)) ownScan_cells kpX_trans kpX_put (fun _ => rfl) factX_put (HearI w q lim) (HearX w q lim)
    (hearI_abides w q _ lim (by omega)) (fun cd => hearX_abides w q _ lim (by omega) cd)
    (fun s W k o o' hi hk => hearI_put w q lim s W k o o' hi (by omega)) (fun cd s W k o o' hi hk => hearX_put w q lim cd s W k o o' hi (by omega))
    (fun W hb _ => hearI_later HI0.out hb)
    (fun x => { tmps := #[.slice A 20 20, undef, .pointer (some ⟨w.heap.size, 0, none⟩), .int .i64 0, .pointer (some ⟨q, 0, none⟩), .pointer (some ⟨q + 1, 0, none⟩), .slice x.1 x.2.2.length x.2.1, .slice A 20 20, .int .i64 lim, .agg #[.int .i64 lim, .slice none 0 0], .pointer (some ⟨q, 0, none⟩), .int .i64 lim, .bool false, undef, .pointer (some ⟨q, 0, none⟩), .int .i64 lim, .slice A 20 20, .slice A 0 0, .func (.func 137) #[] #[.pointer (some ⟨q + 2, 0, none⟩)], .slice x.1 x.2.2.length x.2.1, undef, undef, undef, undef, undef, undef, undef, undef, undef, undef, undef, undef, undef, undef, undef, undef, undef, undef, undef, undef], defers := [] }) ?assign ?body ?done ?stop
  case assign =>
    intro lp x W K hK
    dsimp only [Xp.enc]
    gi_wp2
    exact hK
  case body =>
    intro lp pre x W hI hsz hf hnx
    have HIW := Lib.hid hI
    obtain ⟨r0', r1', hrun, hstep⟩ := hnx
    have hpre := hrun.len
    have hstl := stepM_len hstep
    have hdle := drop_le bs 20
    have hbig2 := HBIG.out
    have hplb : x.2.2.length ≤ 1000000 := by omega
    have hpreb : pre.length ≤ 1000000 := by omega
    clear hdle hbig2
    obtain ⟨⟨A1, c1, vs, b0, hp, hodd⟩, b1, br, hbel, hfit⟩ := hI
    have r0 : W.cell? ⟨q + 1, 0, none⟩ = some (.int .i64 (lim - costM (pre.map (·.2.2)))) := by simp [World.cell?, b1]
    obtain ⟨xa, xc, p⟩ := x
    have HF := Lib.hid hf
    obtain ⟨rm, hrm⟩ : ∃ rm, rm = lim - costM (pre.map (·.2.2)) := ⟨_, rfl⟩
    rw [← hrm] at r0
    have HRM := Lib.hid hrm
    have hrm0 : 0 ≤ rm ∧ rm ≤ 16000 := by have := hfit.1; have := HLM.out.2; omega
    have HB0 := Lib.hid b0
    have HB1' := Lib.hid b1
    have HP := Lib.hid hp
    have HODD := Lib.hid hodd
    clear hrm hfit b0 b1 br hp hbel hf hodd hrun hstep hpre hstl
    dsimp only at hplb
    have HFT := Lib.hid (fun V => wfits_any xa p.length xc rm V (by omega))
    have HCT := Lib.hid (fun V => costOf_any xa p.length xc V (by omega))
    obtain ⟨pl, hpl⟩ : ∃ pl, pl = p.length := ⟨_, rfl⟩
    have HPLE := Lib.hid hpl
    rw [← hpl] at HFT HCT hplb
    dsimp only at hpl ⊢
    rw [← hpl]
    clear hpl
    by_cases hfc : fitsC pl rm = 0
    · have hf2 : pl ≤ 16000 ∧ (pl : Int) + 12 ≤ rm := by
        unfold fitsC at hfc
        split at hfc
        · omega
        · split at hfc <;> omega
      rw [hfc] at HFT
      clear hfc
      gi_wp2_with (refine ⟨trivial, ?_⟩; first
        | (gi_at_call 101; refine (callsIn_wide.2 (HFT.out _)).mono ?_; rintro e w5 ⟨rfl, rfl⟩))
      have r0f : W.frozen? ⟨q + 1, 0, none⟩ = false := by have := HB1'.out; simp [World.frozen?, this]
      have hw8 : IntKind.i64.wrap (rm - ((pl : Int) + 12)) = rm - ((pl : Int) + 12) := i64_fit (by omega)
      gi_region_with (refine ⟨trivial, ?_⟩; gi_at_call 111; refine (callsIn_wide.2 (HCT.out _)).mono ?_; rintro e w' ⟨rfl, rfl⟩)
      all_goals
        first
          | (obtain ⟨W8, hW8⟩ : ∃ W8, W8 = (W.setCell ⟨q + 1, 0, none⟩ (.int .i64 (rm - ((pl : Int) + 12)))).drew := ⟨_, rfl⟩
             rw [← hW8])
          | (obtain ⟨W8, hW8⟩ : ∃ W8, W8 = W.drew.setCell ⟨q + 1, 0, none⟩ (.int .i64 (rm - ((pl : Int) + 12))) := ⟨_, rfl⟩
             rw [← hW8])
        have hp8 : Put1 W W8 (q + 1) (.cells #[.int .i64 (rm - ((pl : Int) + 12))] 3 (0, 0)) := by
          rw [hW8]
          first | exact (put1_set HB1'.out).drew | exact Put1.of_drew (put1_set HB1'.out)
        clear hW8
        have HP8 := Lib.hid hp8
        have g1 : W8.cell? ⟨q, 1, none⟩ = some (.slice A1 pre.length c1) := by
          have := hp8.other q (by omega)
          rw [HB0.out] at this
          simp [World.cell?, this]
        have HO8 := Lib.hid (fun tmp => hear_own (tmp := tmp) HB1'.out HP.out HODD.out hp8)
        clear hp8 r0 r0f hw8
        obtain ⟨i0, hi, hz0, hz1, hz2⟩ := info_parts infoBytes
        gi_wp2_with (gi_at_builtin; refine wpListIn_append_all rfl (.tmp 29) (.tmp 31) 29 rfl 0 33 i0 (.slice none 0 0) 24 Tryz.underlying29 hi hz0 hz1 hz2 rfl (.slice A1 pre.length c1) pre.length vs rfl (HO8.out _).1 ⟨W8.heap.size, 0, none⟩ 1 1 [.slice xa pl xc] rfl rfl (cell_one_new _ _ _) (by simp [Value.oneCell']) (by unfold maxLen; omega) (by omega) (Nat.zero_le _) NoByte (HO8.out _).2 (noByte_one _ _ _) noByte_nil ?_; intro v' W10 hown' hgrow' hloc' hodd'; obtain ⟨A2, c2, rfl, _, _⟩ := own_form hown'; have hbox := hear_box HB0.out HB1'.out HP.out HP8.out (by rw [ob_eq] at hgrow'; exact hgrow'); obtain ⟨_, g2, _, g3⟩ := two_facts hbox; have HOWN := Lib.hid hown'; have HGRW := Lib.hid hgrow'; have HLOC := Lib.hid hloc'; have HODD' := Lib.hid hodd'; clear hown' hgrow' hloc' hodd' hbox)
        have hcs : costM ((pre ++ [((xa, xc, p) : Xp)]).map (·.2.2)) = costM (pre.map (·.2.2)) + (p.length + 12) := by rw [List.map_append, costM_append]; simp [costM]
        have hpe := HPLE.out
        have hre := HRM.out
        have h3 := HGRW.out
        have h4 := HLOC.out
        rw [ob_eq] at h3 h4
        rw [ob_eq] at h4
        exact hear_more (A := A1) (c := c1) (vs := vs) HIW.out HWQ.out HF.out (by have := HSW0.out; omega) HB0.out HP.out HODD.out (by rw [hcs, show lim - ((costM (pre.map (·.2.2)) + (p.length + 12) : Nat) : Int) = rm - ((pl : Int) + 12) by omega]; exact HP8.out) (by rw [hcs]; omega) (by show p.length ≤ 16000; omega) (by rw [← HPLE.out]; exact HOWN.out) h3 h4 HODD'.out
    · obtain ⟨fc, hfe⟩ : ∃ fc, fc = fitsC pl rm := ⟨_, rfl⟩
      rw [← hfe] at HFT hfc
      have t1 : (fc != 0) = true := by simp [hfc]
      have HFE := Lib.hid (And.intro hfe hfc)
      clear hfe hfc
      gi_wp2_with (refine ⟨trivial, ?_⟩; first
        | (gi_at_call 101; refine (callsIn_wide.2 (HFT.out _)).mono ?_; rintro e w5 ⟨rfl, rfl⟩))
      exact ⟨KeepsFrom.refl _ _, pre, (xa, xc, p), rfl, HIW.out, by show fitsC p.length _ ≠ 0; rw [← HPLE.out, ← HRM.out, ← HFE.out.1]; exact HFE.out.2, rfl⟩
  case done =>
    rintro xs W ⟨r, hrun, hst⟩ hI hK
    have hps : partsM bs = xs.map (·.2.2) := parts_done hrun (by rw [HLIM.out]; exact hI.fit.1) hI.fit.2 hst
    have HPS := Lib.hid hps
    obtain ⟨⟨A1, c1, vs, b0, hp, _⟩, b1, br, hbel, hfit⟩ := hI
    obtain ⟨g0, g1, g2, g3⟩ := two_facts b0
    obtain ⟨h0, h1, h2, h3⟩ := two_facts br
    have HP := Lib.hid hp
    have HBEL := Lib.hid hbel
    have HFIT := Lib.hid hfit
    have HBR := Lib.hid br
    have HB0 := Lib.hid b0
    have HK := Lib.hid hK
    have hqw := HWQ.out
    have HXL := Lib.hid (show (xs.map (·.2.2)).length = xs.length by simp)
    clear hp hbel hfit b0 br b1 hps
    by_cases hn : xs.length = 0
    · have HE := Lib.hid (show partsM bs = [] by rw [HPS.out]; exact List.eq_nil_of_length_eq_zero (by rw [HXL.out]; exact hn))
      rw [hn] at g1
      clear hn hK
      gi_wp2
      obtain ⟨q1, q2, q3, q4, q5, q6⟩ := hear_end (o := .deferred none) (a := .int .i64 0) (b := .slice none 0 0) HBR.out HK.out (by have := HZW.out; have := HWQ.out; omega)
      refine ⟨by simp, .inl ⟨_, _, rfl, run_takeDeferred q1, ?_⟩⟩
      exact ⟨.tuple #[.agg #[.int .i64 0, .slice none 0 0], .int .i64 140], by simp [results, Tryz.results97, go_sem, q2, q3], HBEL.out.trans q4, fun _ => rfl, fun hne => absurd HE.out hne⟩
    · have t2 : ((xs.length : Int) == 0) = false := by simp; intro e; rw [e] at hn; simp at hn
      have t3 : (xs.length == 0) = false := by simp; intro e; rw [e] at hn; simp at hn
      have HN := Lib.hid hn
      clear hn hK
      gi_wp2
      obtain ⟨q1, q2, q3, q4, q5, q6⟩ := hear_end (o := .deferred none) (a := .int .i64 lim) (b := .slice A1 xs.length c1) HBR.out HK.out (by have := HZW.out; have := HWQ.out; omega)
      refine ⟨by simp, .inl ⟨_, _, rfl, run_takeDeferred q1, ?_⟩⟩
      have hpl : (partsM bs).length = xs.length := by rw [HPS.out]; exact HXL.out
      refine ⟨.tuple #[.agg #[.int .i64 lim, .slice A1 xs.length c1], .int .i64 0], by simp [results, Tryz.results97, go_sem, q2, q3], HBEL.out.trans q4, fun he => ?_, fun _ => ⟨A1, c1, by unfold saidV; rw [hpl], ⟨vs, ?_⟩, HBEL.out.trans q4, ?_⟩⟩
      · rw [he] at hpl
        exact absurd hpl.symm HN.out
      · rw [HPS.out]
        exact (parts_said HP.out q5 HBR.out HK.out).widen (fun k hk => ⟨hk.1, by rw [q6]; exact hk.2⟩)
      · rw [HPS.out, HLIM.out]
        exact HFIT.out.1
  case stop =>
    rintro cd pre W ⟨r, hrun⟩ ⟨xs, x, rfl, hI, hfx, rfl⟩ hK
    obtain ⟨r0', hrun0, hst⟩ := run_snoc hrun
    have hps : partsM bs = xs.map (·.2.2) := parts_stop hrun0 (by rw [HLIM.out]; exact hI.fit.1) hI.fit.2 hst (by rw [HLIM.out]; exact hfx)
    clear hrun hrun0 hst hfx
    have HPS := Lib.hid hps
    obtain ⟨⟨A1, c1, vs, b0, hp, _⟩, b1, br, hbel, hfit⟩ := hI
    obtain ⟨g0, g1, g2, g3⟩ := two_facts b0
    obtain ⟨h0, h1, h2, h3⟩ := two_facts br
    have HP := Lib.hid hp
    have HBEL := Lib.hid hbel
    have HFIT := Lib.hid hfit
    have HBR := Lib.hid br
    have HB0 := Lib.hid b0
    have HK := Lib.hid hK
    have hqw := HWQ.out
    have HXL := Lib.hid (show (xs.map (·.2.2)).length = xs.length by simp)
    clear hp hbel hfit b0 br b1 hps
    by_cases hn : xs.length = 0
    · have HE := Lib.hid (show partsM bs = [] by rw [HPS.out]; exact List.eq_nil_of_length_eq_zero (by rw [HXL.out]; exact hn))
      rw [hn] at g1
      clear hn hK
      gi_wp2
      obtain ⟨q1, q2, q3, q4, q5, q6⟩ := hear_end (o := .deferred none) (a := .int .i64 0) (b := .slice none 0 0) HBR.out HK.out (by have := HZW.out; have := HWQ.out; omega)
      refine ⟨by simp, .inl ⟨_, _, rfl, run_takeDeferred q1, ?_⟩⟩
      exact ⟨.tuple #[.agg #[.int .i64 0, .slice none 0 0], .int .i64 140], by simp [results, Tryz.results97, go_sem, q2, q3], HBEL.out.trans q4, fun _ => rfl, fun hne => absurd HE.out hne⟩
    · have t2 : ((xs.length : Int) == 0) = false := by simp; intro e; rw [e] at hn; simp at hn
      have t3 : (xs.length == 0) = false := by simp; intro e; rw [e] at hn; simp at hn
      have HN := Lib.hid hn
      clear hn hK
      gi_wp2
      obtain ⟨q1, q2, q3, q4, q5, q6⟩ := hear_end (o := .deferred none) (a := .int .i64 lim) (b := .slice A1 xs.length c1) HBR.out HK.out (by have := HZW.out; have := HWQ.out; omega)
      refine ⟨by simp, .inl ⟨_, _, rfl, run_takeDeferred q1, ?_⟩⟩
      have hpl : (partsM bs).length = xs.length := by rw [HPS.out]; exact HXL.out
      refine ⟨.tuple #[.agg #[.int .i64 lim, .slice A1 xs.length c1], .int .i64 0], by simp [results, Tryz.results97, go_sem, q2, q3], HBEL.out.trans q4, fun he => ?_, fun _ => ⟨A1, c1, by unfold saidV; rw [hpl], ⟨vs, ?_⟩, HBEL.out.trans q4, ?_⟩⟩
      · rw [he] at hpl
        exact absurd hpl.symm HN.out
      · rw [HPS.out]
        exact (parts_said HP.out q5 HBR.out HK.out).widen (fun k hk => ⟨hk.1, by rw [q6]; exact hk.2⟩)
      · rw [HPS.out, HLIM.out]
        exact HFIT.out.1
end Go.Proofs.YtienabfilnpieaaGreat
