/-
  What a disk's files have (whole).
-/
import Derived.Test.YthpbgejjfdgpaaaLawRun
import Derived.Test.YthpbgejjfdgpaaaDiskCopy
namespace Go.Proofs.Ythpbgejjfdgpaaa
open Go.RowKit
set_option linter.unusedVariables false
set_option maxRecDepth 100000

def arr4 (x : Nat → Value) : Array Value := #[x 0, x 1, x 2, x 3]
theorem arr4_at (x : Nat → Value) {k : Nat} (hk : k < 4) : (arr4 x)[k]? = some (x k) := by
  have : k = 0 ∨ k = 1 ∨ k = 2 ∨ k = 3 := by omega
  rcases this with rfl | rfl | rfl | rfl <;> rfl
theorem arr4_set (x : Nat → Value) {k : Nat} (hk : k < 4) (v : Value) : (arr4 x).setIfInBounds k v = arr4 (fun j => if j = k then v else x j) := by
  have : k = 0 ∨ k = 1 ∨ k = 2 ∨ k = 3 := by omega
  rcases this with rfl | rfl | rfl | rfl <;> rfl

/-- A row of bytes of the call's own. -/
def RowIs (base : Nat) (W : World) (v : Value) (bs : List Int) : Prop := W.ownsRow base 5 1 v bs.length (bs.map (Value.int .u8))
/-- What whole answers. -/
def WholeAs (w : World) (M : AD) (e : Ending) (w' : World) : Prop :=
  ∃ x : Nat → Value, e = .returned (.tuple #[.agg (arr4 x), .bool true]) ∧ (∀ j, j < 4 → RowIs w.heap.size w' (x j) (M.file (j : Nat)).bs) ∧ Below w.heap.size w w'

/-- A disk that is neither armed nor set to fail. -/
structure Free (M0 M : AD) (i : Nat) : Prop where
  files : M.files = M0.files
  armed : M.armed = -1
  failing : M.failing = -1
  dead : M.dead = false
  ops : M.ops = M0.ops + i
theorem free_read {M0 M : AD} {i : Nat} (h : Free M0 M i) {k : Int} {F : AF} (hok : M.Ok) (hF : M0.files k = some F) : M.opC k [] = 0 ∧ M.readB k = F.bs ∧ Free M0 (M.opM k [] M.met) (i + 1) := by
  have hF' : M.files k = some F := by rw [h.files]; exact hF
  have hn := hok.names k (by rw [hF']; simp)
  have hask : M.ask k [] = 0 := by simp [AD.ask, h.dead, hF', Name, hn]
  have herr : M.err = 0 := by simp [AD.err, h.armed, h.failing]
  have hopc : M.opC k [] = 0 := by simp [AD.opC, hask, herr]
  have hm : M.met = { M with ops := M.ops + 1, armed := stepC M.armed, failing := stepC M.failing } := by unfold AD.met; rw [if_neg (by rw [h.armed]; omega)]
  refine ⟨hopc, by simp [AD.readB, hopc, AD.file, hF'], ?_⟩
  have : M.opM k [] M.met = M.met := by simp [AD.opM, hask]
  rw [this, hm]
  exact ⟨h.files, by simp [stepC, h.armed], by simp [stepC, h.failing], h.dead, by simp [h.ops]; omega⟩

structure WholeMid (w : World) (S0 : Nat → Prop) (p : Nat) (M : AD) (i : Nat) (wr : World) : Prop where
  disk : ∃ M', DiskAt wr S0 p M' ∧ Free M M' i
  res : wr.heap[w.heap.size]? = some (.cells (arr4 (fun _ => .slice none 0 0)) 55 (0, 0))
  out : ∃ x : Nat → Value, wr.heap[w.heap.size + 1]? = some (.cells (arr4 x) 55 (0, 0)) ∧ ∀ j, j < 4 → RowIs w.heap.size wr (x j) (if (j : Int) ∈ M.names.take i then (M.file (j : Nat)).bs else []) ∧ (∀ h, (x j).ownBlock = some h → ¬ S0 h ∧ w.heap.size + 1 < h)
  bel : Below w.heap.size w wr


set_option maxHeartbeats 4000000 in
theorem whole_any {w : World} {S : Nat → Prop} {d : Nat} {M : AD} (h : DiskAt w S d M) (hdead : M.dead = false) (hops : M.ops < 4000000000000000000) : Calls Try.prog 26 #[.pointer (some ⟨d, 0, none⟩)] w (WholeAs w M) := by
  obtain ⟨W2, hW2⟩ : ∃ W2, W2 = (w.alloc (.cells #[.slice none 0 0, .slice none 0 0, .slice none 0 0, .slice none 0 0] 55)).alloc (.cells #[.slice none 0 0, .slice none 0 0, .slice none 0 0, .slice none 0 0] 55) := ⟨_, rfl⟩
  have hb2 : Below w.heap.size w W2 := by rw [hW2]; exact ((Below.refl _ w).alloc (Nat.le_refl _) _).alloc (by simp) _
  have hs2 : W2.heap.size = w.heap.size + 2 := by rw [hW2]; simp
  have hr2 : W2.heap[w.heap.size]? = some (.cells (arr4 (fun _ => .slice none 0 0)) 55 (0, 0)) := by rw [hW2, Below.heap_alloc _ _ _ (by simp)]; exact heap_alloc_new w _
  have ho2 : W2.heap[w.heap.size + 1]? = some (.cells (arr4 (fun _ => .slice none 0 0)) 55 (0, 0)) := by
    rw [hW2]
    have := heap_alloc_new (w.alloc (.cells #[.slice none 0 0, .slice none 0 0, .slice none 0 0, .slice none 0 0] 55)) (.cells #[.slice none 0 0, .slice none 0 0, .slice none 0 0, .slice none 0 0] 55)
    rw [World.size_alloc] at this
    exact this
  have HCP := Lib.hid (copy_any (h.later hb2))
  have HW2 := Lib.hid hW2
  have HB2 := Lib.hid hb2
  have HR2 := Lib.hid hr2
  have HO2 := Lib.hid ho2
  have HOK := Lib.hid h.ok
  have hset1 : M.setC (-1) = 0 := by simp [AD.setC, hdead]
  have harm : M.armM (-1) = { M with armed := -1 } := by simp [AD.armM, hset1]
  have hset2 : ({ M with armed := -1 } : AD).setC (-1) = 0 := by simp [AD.setC, hdead]
  have hfai : ({ M with armed := -1 } : AD).failM (-1) = { M with armed := -1, failing := -1 } := by simp [AD.failM, hset2]
  clear hW2 hb2 hr2 ho2 h
  go_enter Try.func26, Try.ntmps26
  go_wp2_with (first
    | (go_at_call 14; rw [← HW2.out]; refine HCP.out.mono ?_; rintro e w3 ⟨p, rfl, hd3, hb3⟩; obtain ⟨S0, hS0⟩ : ∃ S0 : Nat → Prop, S0 = fun k => W2.heap.size ≤ k ∧ k < w3.heap.size := ⟨_, rfl⟩; rw [← hS0] at hd3; have hSl : ∀ k, S0 k → w.heap.size + 2 ≤ k ∧ k < w3.heap.size := (fun k hk => by rw [hS0] at hk; omega); have D3 := Lib.hid hd3; have HB3 := Lib.hid hb3; have HSL := Lib.hid hSl; clear hd3 hb3 hS0 hSl)
    | (go_at_call 35; refine (arm_any D3.out (n := -1) (by decide)).mono ?_; rw [hset1, harm]; rintro e w4 ⟨rfl, hd4, hg4⟩; have D4 := Lib.hid hd4; have HG4 := Lib.hid hg4; clear hd4 hg4)
    | (go_at_call 40; refine (fail_any D4.out (n := -1) (by decide)).mono ?_; rw [hset2, hfai]; rintro e w5 ⟨rfl, hd5, hg5⟩; have D5 := Lib.hid hd5; have HG5 := Lib.hid hg5; clear hd5 hg5)
    | (go_at_call 20; refine (files_any D5.out).mono ?_; rintro e W3 ⟨v, rfl, hown, hb6⟩; have hnm0 : ({ M with armed := -1, failing := -1 } : AD).names = M.names := rfl; rw [hnm0] at hown; obtain ⟨n1, hn1⟩ : ∃ n1, n1 = M.names.length := ⟨_, rfl⟩; rw [← hn1] at hown; obtain ⟨A0, c0, rfl, _, _⟩ := own_form hown; have HOW := Lib.hid hown; have HB6 := Lib.hid hb6; have HN1 := Lib.hid hn1; clear hown hb6 hn1 hnm0))
  have hle4 : n1 ≤ 4 := by rw [HN1.out]; exact below_length M 4
  have hp := HSL.out p D3.out.inS
  have tr : ∀ k, k < w3.heap.size → k ≠ p → W3.heap[k]? = w3.heap[k]? := fun k hk hne => by
    have h4 := HG4.out.size
    have h5 := HG5.out.size
    rw [HB6.out.block k (by omega), HG5.out.block k (by omega) (by simpa using hne), HG4.out.block k hk (by simpa using hne)]
  have hb2s := HB2.out.size
  have hs3 := HB3.out.size
  have hres : W3.heap[w.heap.size]? = some (.cells (arr4 (fun _ => .slice none 0 0)) 55 (0, 0)) := (tr _ (by omega) (by omega)).trans ((HB3.out.block _ (by omega)).trans HR2.out)
  have hout : W3.heap[w.heap.size + 1]? = some (.cells (arr4 (fun _ => .slice none 0 0)) 55 (0, 0)) := (tr _ (by omega) (by omega)).trans ((HB3.out.block _ (by omega)).trans HO2.out)
  have hbel : Below w.heap.size w W3 := by
    have b3 : Below w.heap.size w w3 := HB2.out.trans (HB3.out.mono HB2.out.size)
    have b5 : Below w.heap.size w w5 := (b3.grown HG4.out b3.size (fun k hk => by cases hk; omega)).grown HG5.out (by have := HG4.out.size; omega) (fun k hk => by cases hk; omega)
    exact b5.trans (HB6.out.mono b5.size)
  have D6 := Lib.hid (D5.out.later HB6.out)
  have HRES := Lib.hid hres
  have HOUT := Lib.hid hout
  have HBEL := Lib.hid hbel
  have hw3 : w3.heap.size ≤ w5.heap.size := Nat.le_trans HG4.out.size HG5.out.size
  clear hres hout hbel tr hset1 hset2 harm hfai
  have hfree : Free M ({ M with armed := -1, failing := -1 } : AD) 0 := ⟨rfl, rfl, rfl, hdead, by simp⟩
  have mid0 : WholeMid w S0 p M 0 W3 :=
    ⟨⟨_, D6.out, hfree⟩, HRES.out, ⟨_, HOUT.out, fun j hj => ⟨by simp; exact World.ownsRow_nil _ _ _ _, fun h hh => by simp [Value.ownBlock] at hh⟩⟩, HBEL.out⟩
  have MID0 := Lib.hid mid0
  clear mid0 hfree
  rcases hA0 : A0 with _ | ad
  · subst hA0
    have hz : n1 = 0 := by
      rcases HOW.out.2 with ⟨_, e⟩ | ⟨_, _, _, e, _⟩
      · exact e
      · cases e
    subst hz
    go_loopw [24] (fun i wr => i = .int .i64 0 ∧ wr = W3) (fun _ _ => 0)
    case atStart => exact ⟨rfl, rfl⟩
    case round =>
      obtain ⟨rfl, rfl⟩ := hrel
      have HMID := MID0
      obtain ⟨x, hx, hrows⟩ := HMID.out.out
      obtain ⟨a0, c_0, e0, _, _⟩ := own_form (hrows 0 (by omega)).1
      obtain ⟨a1, c_1, e1, _, _⟩ := own_form (hrows 1 (by omega)).1
      obtain ⟨a2, c_2, e2, _, _⟩ := own_form (hrows 2 (by omega)).1
      obtain ⟨a3, c_3, e3, _, _⟩ := own_form (hrows 3 (by omega)).1
      have hin : ∀ j : Nat, j < 4 → (if (j : Int) ∈ M.names.take 0 then (M.file (j : Nat)).bs else []) = (M.file (j : Nat)).bs := fun j hj => by
        rw [HN1.out, List.take_length]
        split
        · rfl
        · rename_i hn
          have : M.files (j : Nat) = none := by
            rcases hf : M.files (j : Nat) with _ | F
            · rfl
            · exact absurd ((names_mem M HOK.out j).2 (by rw [hf]; simp)) hn
          simp [AD.file, this, AF.none]
      have hres := HMID.out.res
      have r0 : wr.cell? ⟨w.heap.size, 0, none⟩ = some (.slice none 0 0) := by simp [World.cell?, hres, arr4]
      have r1 : wr.cell? ⟨w.heap.size, 1, none⟩ = some (.slice none 0 0) := by simp [World.cell?, hres, arr4]
      have r2 : wr.cell? ⟨w.heap.size, 2, none⟩ = some (.slice none 0 0) := by simp [World.cell?, hres, arr4]
      have r3 : wr.cell? ⟨w.heap.size, 3, none⟩ = some (.slice none 0 0) := by simp [World.cell?, hres, arr4]
      have f0 : wr.frozen? ⟨w.heap.size, 0, none⟩ = false := by simp [World.frozen?, hres]
      have f1 : wr.frozen? ⟨w.heap.size, 1, none⟩ = false := by simp [World.frozen?, hres]
      have f2 : wr.frozen? ⟨w.heap.size, 2, none⟩ = false := by simp [World.frozen?, hres]
      have f3 : wr.frozen? ⟨w.heap.size, 3, none⟩ = false := by simp [World.frozen?, hres]
      obtain ⟨m0, hm0⟩ : ∃ m0, m0 = (if ((0 : Nat) : Int) ∈ M.names.take 0 then (M.file ((0 : Nat) : Int)).bs else []).length := ⟨_, rfl⟩
      obtain ⟨m1, hm1⟩ : ∃ m1, m1 = (if ((1 : Nat) : Int) ∈ M.names.take 0 then (M.file ((1 : Nat) : Int)).bs else []).length := ⟨_, rfl⟩
      obtain ⟨m2, hm2⟩ : ∃ m2, m2 = (if ((2 : Nat) : Int) ∈ M.names.take 0 then (M.file ((2 : Nat) : Int)).bs else []).length := ⟨_, rfl⟩
      obtain ⟨m3, hm3⟩ : ∃ m3, m3 = (if ((3 : Nat) : Int) ∈ M.names.take 0 then (M.file ((3 : Nat) : Int)).bs else []).length := ⟨_, rfl⟩
      rw [← hm0] at e0
      rw [← hm1] at e1
      rw [← hm2] at e2
      rw [← hm3] at e3
      have l0 : wr.cell? ⟨w.heap.size + 1, 0, none⟩ = some (.slice a0 m0 c_0) := by rw [← e0]; simp [World.cell?, hx, arr4]
      have l1 : wr.cell? ⟨w.heap.size + 1, 1, none⟩ = some (.slice a1 m1 c_1) := by rw [← e1]; simp [World.cell?, hx, arr4]
      have l2 : wr.cell? ⟨w.heap.size + 1, 2, none⟩ = some (.slice a2 m2 c_2) := by rw [← e2]; simp [World.cell?, hx, arr4]
      have l3 : wr.cell? ⟨w.heap.size + 1, 3, none⟩ = some (.slice a3 m3 c_3) := by rw [← e3]; simp [World.cell?, hx, arr4]
      have EX := Lib.hid (show arr4 x = #[.slice a0 m0 c_0, .slice a1 m1 c_1, .slice a2 m2 c_2, .slice a3 m3 c_3] by simp only [arr4]; rw [e0, e1, e2, e3])
      have ROWS := Lib.hid hrows
      have HIN := Lib.hid hin
      clear hx hrows hin e0 e1 e2 e3 hm0 hm1 hm2 hm3 hres
      go_wp2
      have h9 := heap_set (heap_set (heap_set (heap_set HMID.out.res 0 (.slice a0 m0 c_0)) 1 (.slice a1 m1 c_1)) 2 (.slice a2 m2 c_2)) 3 (.slice a3 m3 c_3)
      have o9 : ∀ g, g ≠ w.heap.size → ((((wr.setCell ⟨w.heap.size, 0, none⟩ (.slice a0 m0 c_0)).setCell ⟨w.heap.size, 1, none⟩ (.slice a1 m1 c_1)).setCell ⟨w.heap.size, 2, none⟩ (.slice a2 m2 c_2)).setCell ⟨w.heap.size, 3, none⟩ (.slice a3 m3 c_3)).heap[g]? = wr.heap[g]? := fun g e => by
        rw [Below.heap_setCell _ _ _ _ e, Below.heap_setCell _ _ _ _ e, Below.heap_setCell _ _ _ _ e, Below.heap_setCell _ _ _ _ e]
      have b9 : Below w.heap.size w ((((wr.setCell ⟨w.heap.size, 0, none⟩ (.slice a0 m0 c_0)).setCell ⟨w.heap.size, 1, none⟩ (.slice a1 m1 c_1)).setCell ⟨w.heap.size, 2, none⟩ (.slice a2 m2 c_2)).setCell ⟨w.heap.size, 3, none⟩ (.slice a3 m3 c_3)) :=
        (((HMID.out.bel.setCell (p := ⟨w.heap.size, 0, none⟩) (Nat.le_refl _) _).setCell (p := ⟨w.heap.size, 1, none⟩) (Nat.le_refl _) _).setCell (p := ⟨w.heap.size, 2, none⟩) (Nat.le_refl _) _).setCell (p := ⟨w.heap.size, 3, none⟩) (Nat.le_refl _) _
      generalize (((wr.setCell ⟨w.heap.size, 0, none⟩ (.slice a0 m0 c_0)).setCell ⟨w.heap.size, 1, none⟩ (.slice a1 m1 c_1)).setCell ⟨w.heap.size, 2, none⟩ (.slice a2 m2 c_2)).setCell ⟨w.heap.size, 3, none⟩ (.slice a3 m3 c_3) = W9 at h9 o9 b9 ⊢
      have q0 : W9.cell? ⟨w.heap.size, 0, none⟩ = some (.slice a0 m0 c_0) := by simp [World.cell?, h9, arr4]
      have q1 : W9.cell? ⟨w.heap.size, 1, none⟩ = some (.slice a1 m1 c_1) := by simp [World.cell?, h9, arr4]
      have q2 : W9.cell? ⟨w.heap.size, 2, none⟩ = some (.slice a2 m2 c_2) := by simp [World.cell?, h9, arr4]
      have q3 : W9.cell? ⟨w.heap.size, 3, none⟩ = some (.slice a3 m3 c_3) := by simp [World.cell?, h9, arr4]
      refine bodyPost_ret (v := .tuple #[.agg #[.slice a0 m0 c_0, .slice a1 m1 c_1, .slice a2 m2 c_2, .slice a3 m3 c_3], .bool true]) (by simp [results, Try.results26, go_sem, q0, q1, q2, q3]) rfl ⟨x, by rw [EX.out], fun j hj => ?_, b9⟩
      have hrow := (ROWS.out j hj).1
      rw [HIN.out j hj] at hrow
      refine ⟨hrow.1, ?_⟩
      rcases hrow.2 with h0 | ⟨gg, cap, cur', e, hgg, hh, r⟩
      · exact .inl h0
      · refine .inr ⟨gg, cap, cur', e, hgg, ?_, r⟩
        rw [o9 gg ?_]
        · exact hh
        · have := (ROWS.out j hj).2 gg (by rw [e]; rfl)
          omega
  · subst hA0
    obtain ⟨g, cur, hge, hgb, hgl, hgc⟩ : ∃ g cur, ad = ⟨g, 0, none⟩ ∧ W3.heap[g]? = some (.cells cur 3 (0, 0)) ∧ w5.heap.size ≤ g ∧ cur.toList.take n1 = M.names.map (Value.int .i64) := by
      rcases HOW.out.2 with ⟨e, _⟩ | ⟨g, cap, cur, e, h1, h2, _, _, _, h3⟩
      · cases e
      · injection e with e1 _ _
        injection e1 with e1
        exact ⟨g, cur, e1, h2, h1, by simpa using h3⟩
    subst hge
    have hszg := lt_of_block hgb
    have hnm : ∀ i k : Nat, (M.below' 4)[i]? = some k → cur[i]? = some (Value.int .i64 ((k : Nat) : Int)) := fun i k hik => by
      have h1 : (M.names.map (Value.int .i64))[i]? = some (Value.int .i64 ((k : Nat) : Int)) := by unfold AD.names; rw [below_eq]; simp [hik]
      rw [← hgc, List.getElem?_take] at h1
      split at h1
      · simpa using h1
      · cases h1
    have hnames : ∀ i k : Nat, (M.below' 4)[i]? = some k → M.names[i]? = some (k : Int) := fun i k hik => by unfold AD.names; rw [below_eq]; simp [hik]
    have hlen : n1 = (M.below' 4).length := by rw [HN1.out]; unfold AD.names; rw [below_eq]; simp
    have HNM := Lib.hid hnm
    have HNN := Lib.hid hnames
    have HL := Lib.hid hlen
    have HM0 := Lib.hid (And.intro MID0.out hgb)
    clear hnm hnames hlen hgb hgc HOW
    go_loopw [24] (fun i wr => ∃ k : Nat, i = .int .i64 k ∧ k ≤ n1 ∧ Hid (WholeMid w S0 p M k wr ∧ wr.heap[g]? = some (.cells cur 3 (0, 0)))) (fun i _ => n1 - (match i with | .int _ k => k.toNat | _ => 0))
    case atStart => exact ⟨0, rfl, Nat.zero_le _, HM0⟩
    case round =>
      obtain ⟨i, rfl, hi, H⟩ := hrel
      by_cases hin : i < n1
      · have hii : (i : Int) < n1 := by omega
        obtain ⟨k, hk⟩ : ∃ k, (M.below' 4)[i]? = some k := ⟨_, List.getElem?_eq_getElem (by rw [← HL.out]; exact hin)⟩
        obtain ⟨hk4, F, hF⟩ := names_lt M (List.mem_of_getElem? hk)
        have hki := HNN.out i k hk
        obtain ⟨hmid, hgw⟩ := H.out
        obtain ⟨M', hdm, hfree⟩ := hmid.disk
        obtain ⟨x, hx, hrows⟩ := hmid.out
        have kg : wr.cell? ⟨g, i, none⟩ = some (.int .i64 (k : Nat)) := by simp [World.cell?, hgw, HNM.out i k hk]
        obtain ⟨hop0, hrb, hfree2⟩ := free_read hfree hdm.ok hF
        have hrd := read_any hdm (k := (k : Nat)) (name_i64 (by omega)) (by rw [hfree.ops]; omega)
        have k0 : (0 : Int) ≤ (k : Int) := by omega
        have k4 : (k : Int) < 4 := by omega
        have hS0lt : ∀ h, S0 h → h < wr.heap.size := fun h hh => hdm.low hh
        have hso := lt_of_block hx
        have HRD := Lib.hid hrd
        have HOP := Lib.hid hop0
        have HRB := Lib.hid hrb
        have HFR := Lib.hid hfree2
        have HX := Lib.hid hx
        have HROWS := Lib.hid hrows
        have HMIDD := Lib.hid hmid
        have HGW := Lib.hid hgw
        have HKI := Lib.hid hki
        have HFF := Lib.hid hF
        have HLT := Lib.hid hS0lt
        clear hmid hgw hdm hfree hx hrows hop0 hrb hfree2 hrd hk hF hki hS0lt
        go_wp2_with (go_at_call 17; refine HRD.out.mono ?_; rintro e w7 ⟨v, rfl, hown, hd7, ht7⟩; rw [HOP.out]; rw [HRB.out] at hown; obtain ⟨fn, hfn⟩ : ∃ fn, fn = F.bs.length := ⟨_, rfl⟩; rw [← hfn] at hown; obtain ⟨A7, c7, rfl, _, _⟩ := own_form hown; have x7 : w7.heap[w.heap.size + 1]? = some (.cells (arr4 x) 55 (0, 0)) := (ht7.block _ hso (fun e => by have := (HSL.out _ e).1; omega)).trans HX.out; have kx : w7.cell? ⟨w.heap.size + 1, k, none⟩ = some (x k) := (by simp [World.cell?, x7, arr4_at x hk4]); have fx : w7.frozen? ⟨w.heap.size + 1, k, none⟩ = false := (by simp [World.frozen?, x7]); have X7 := Lib.hid x7; have D7 := Lib.hid hd7; have T7 := Lib.hid ht7; have O7 := Lib.hid hown; have FN := Lib.hid hfn; clear hown hd7 ht7 hfn x7)
        have hnext : WholeMid w S0 p M (i + 1) (w7.setCell ⟨w.heap.size + 1, k, none⟩ (.slice A7 fn c7)) := by
          have hsz7 := T7.out.size
          have hset : ∀ j, j ≠ w.heap.size + 1 → (w7.setCell ⟨w.heap.size + 1, k, none⟩ (.slice A7 fn c7)).heap[j]? = w7.heap[j]? := fun j hj => Below.heap_setCell _ _ _ _ hj
          refine ⟨⟨_, ?_, HFR.out⟩, ?_, ⟨fun j => if j = k then .slice A7 fn c7 else x j, ?_, fun j hj => ?_⟩, ?_⟩
          · obtain ⟨mb, f, A', c', hdd⟩ := D7.out
            exact ⟨mb, f, A', c', hdd.turn (fun q hq => hset q (by have := (HSL.out q hq).1; omega)) (by simp [World.setCell])⟩
          · rw [hset _ (by omega), T7.out.block _ (by omega) (fun e => by have := (HSL.out _ e).1; omega)]; exact HMIDD.out.res
          · rw [heap_set X7.out, arr4_set x hk4]
          · by_cases e : j = k
            · subst e
              have hmem : ((j : Nat) : Int) ∈ M.names.take (i + 1) := by rw [List.take_add_one, HKI.out]; simp
              simp only [if_true, if_pos hmem]
              have hfile : M.file ((j : Nat) : Int) = F := by simp [AD.file, HFF.out]
              rw [hfile]
              refine ⟨?_, fun h hh => ?_⟩
              · have h1 : w7.ownsRow w.heap.size 5 1 (.slice A7 fn c7) fn (F.bs.map (Value.int .u8)) := row_base O7.out (by have := HMIDD.out.bel.size; omega)
                unfold RowIs
                rw [← FN.out]
                refine row_same h1 (fun q hq => hset q ?_)
                have := (O7.out.lt q (by cases A7 <;> simp_all [Value.ownBlock, blk])).1
                omega
              · have h1 := (O7.out.lt h hh).1
                exact ⟨fun e => by have := HLT.out h e; omega, by omega⟩
            · have hmem : (((j : Nat) : Int) ∈ M.names.take (i + 1)) ↔ (((j : Nat) : Int) ∈ M.names.take i) := by
                rw [List.take_add_one, HKI.out]
                simp
                intro e2
                omega
              simp only [if_neg e, hmem]
              obtain ⟨h1, h2⟩ := HROWS.out j hj
              refine ⟨⟨h1.1, ?_⟩, h2⟩
              rcases h1.2 with h0 | ⟨gg, cap, cur', e3, hgg, hh, r⟩
              · exact .inl h0
              · obtain ⟨n1', n2'⟩ := h2 gg (by rw [e3]; rfl)
                refine .inr ⟨gg, cap, cur', e3, hgg, ?_, r⟩
                rw [hset gg (by omega), T7.out.block gg (lt_of_block hh) n1']
                exact hh
          · exact (HMIDD.out.bel.trans (T7.out.below HMIDD.out.bel.size (fun q hq => by have := (HSL.out q hq).1; omega))).setCell (p := ⟨w.heap.size + 1, k, none⟩) (by simp) _
        have hgn : (w7.setCell ⟨w.heap.size + 1, k, none⟩ (.slice A7 fn c7)).heap[g]? = some (.cells cur 3 (0, 0)) := by
          rw [Below.heap_setCell _ _ _ _ (by show g ≠ w.heap.size + 1; omega), T7.out.block g (lt_of_block HGW.out) (fun e => by have := (HSL.out g e).2; omega)]
          exact HGW.out
        have HNX := Lib.hid (And.intro hnext hgn)
        clear hnext hgn
        go_wp2
        go_roundw
        case rel => exact ⟨i + 1, by simp, by omega, HNX⟩
        case measure => simp; omega
      · obtain rfl : i = n1 := by omega
        have HMID := Lib.hid H.out.1
        obtain ⟨x, hx, hrows⟩ := HMID.out.out
        obtain ⟨a0, c_0, e0, _, _⟩ := own_form (hrows 0 (by omega)).1
        obtain ⟨a1, c_1, e1, _, _⟩ := own_form (hrows 1 (by omega)).1
        obtain ⟨a2, c_2, e2, _, _⟩ := own_form (hrows 2 (by omega)).1
        obtain ⟨a3, c_3, e3, _, _⟩ := own_form (hrows 3 (by omega)).1
        have hin : ∀ j : Nat, j < 4 → (if (j : Int) ∈ M.names.take i then (M.file (j : Nat)).bs else []) = (M.file (j : Nat)).bs := fun j hj => by
          rw [HN1.out, List.take_length]
          split
          · rfl
          · rename_i hn
            have : M.files (j : Nat) = none := by
              rcases hf : M.files (j : Nat) with _ | F
              · rfl
              · exact absurd ((names_mem M HOK.out j).2 (by rw [hf]; simp)) hn
            simp [AD.file, this, AF.none]
        have hres := HMID.out.res
        have r0 : wr.cell? ⟨w.heap.size, 0, none⟩ = some (.slice none 0 0) := by simp [World.cell?, hres, arr4]
        have r1 : wr.cell? ⟨w.heap.size, 1, none⟩ = some (.slice none 0 0) := by simp [World.cell?, hres, arr4]
        have r2 : wr.cell? ⟨w.heap.size, 2, none⟩ = some (.slice none 0 0) := by simp [World.cell?, hres, arr4]
        have r3 : wr.cell? ⟨w.heap.size, 3, none⟩ = some (.slice none 0 0) := by simp [World.cell?, hres, arr4]
        have f0 : wr.frozen? ⟨w.heap.size, 0, none⟩ = false := by simp [World.frozen?, hres]
        have f1 : wr.frozen? ⟨w.heap.size, 1, none⟩ = false := by simp [World.frozen?, hres]
        have f2 : wr.frozen? ⟨w.heap.size, 2, none⟩ = false := by simp [World.frozen?, hres]
        have f3 : wr.frozen? ⟨w.heap.size, 3, none⟩ = false := by simp [World.frozen?, hres]
        obtain ⟨m0, hm0⟩ : ∃ m0, m0 = (if ((0 : Nat) : Int) ∈ M.names.take i then (M.file ((0 : Nat) : Int)).bs else []).length := ⟨_, rfl⟩
        obtain ⟨m1, hm1⟩ : ∃ m1, m1 = (if ((1 : Nat) : Int) ∈ M.names.take i then (M.file ((1 : Nat) : Int)).bs else []).length := ⟨_, rfl⟩
        obtain ⟨m2, hm2⟩ : ∃ m2, m2 = (if ((2 : Nat) : Int) ∈ M.names.take i then (M.file ((2 : Nat) : Int)).bs else []).length := ⟨_, rfl⟩
        obtain ⟨m3, hm3⟩ : ∃ m3, m3 = (if ((3 : Nat) : Int) ∈ M.names.take i then (M.file ((3 : Nat) : Int)).bs else []).length := ⟨_, rfl⟩
        rw [← hm0] at e0
        rw [← hm1] at e1
        rw [← hm2] at e2
        rw [← hm3] at e3
        have l0 : wr.cell? ⟨w.heap.size + 1, 0, none⟩ = some (.slice a0 m0 c_0) := by rw [← e0]; simp [World.cell?, hx, arr4]
        have l1 : wr.cell? ⟨w.heap.size + 1, 1, none⟩ = some (.slice a1 m1 c_1) := by rw [← e1]; simp [World.cell?, hx, arr4]
        have l2 : wr.cell? ⟨w.heap.size + 1, 2, none⟩ = some (.slice a2 m2 c_2) := by rw [← e2]; simp [World.cell?, hx, arr4]
        have l3 : wr.cell? ⟨w.heap.size + 1, 3, none⟩ = some (.slice a3 m3 c_3) := by rw [← e3]; simp [World.cell?, hx, arr4]
        have EX := Lib.hid (show arr4 x = #[.slice a0 m0 c_0, .slice a1 m1 c_1, .slice a2 m2 c_2, .slice a3 m3 c_3] by simp only [arr4]; rw [e0, e1, e2, e3])
        have ROWS := Lib.hid hrows
        have HIN := Lib.hid hin
        clear hx hrows hin e0 e1 e2 e3 hm0 hm1 hm2 hm3 hres
        go_wp2
        have h9 := heap_set (heap_set (heap_set (heap_set HMID.out.res 0 (.slice a0 m0 c_0)) 1 (.slice a1 m1 c_1)) 2 (.slice a2 m2 c_2)) 3 (.slice a3 m3 c_3)
        have o9 : ∀ g, g ≠ w.heap.size → ((((wr.setCell ⟨w.heap.size, 0, none⟩ (.slice a0 m0 c_0)).setCell ⟨w.heap.size, 1, none⟩ (.slice a1 m1 c_1)).setCell ⟨w.heap.size, 2, none⟩ (.slice a2 m2 c_2)).setCell ⟨w.heap.size, 3, none⟩ (.slice a3 m3 c_3)).heap[g]? = wr.heap[g]? := fun g e => by
          rw [Below.heap_setCell _ _ _ _ e, Below.heap_setCell _ _ _ _ e, Below.heap_setCell _ _ _ _ e, Below.heap_setCell _ _ _ _ e]
        have b9 : Below w.heap.size w ((((wr.setCell ⟨w.heap.size, 0, none⟩ (.slice a0 m0 c_0)).setCell ⟨w.heap.size, 1, none⟩ (.slice a1 m1 c_1)).setCell ⟨w.heap.size, 2, none⟩ (.slice a2 m2 c_2)).setCell ⟨w.heap.size, 3, none⟩ (.slice a3 m3 c_3)) :=
          (((HMID.out.bel.setCell (p := ⟨w.heap.size, 0, none⟩) (Nat.le_refl _) _).setCell (p := ⟨w.heap.size, 1, none⟩) (Nat.le_refl _) _).setCell (p := ⟨w.heap.size, 2, none⟩) (Nat.le_refl _) _).setCell (p := ⟨w.heap.size, 3, none⟩) (Nat.le_refl _) _
        generalize (((wr.setCell ⟨w.heap.size, 0, none⟩ (.slice a0 m0 c_0)).setCell ⟨w.heap.size, 1, none⟩ (.slice a1 m1 c_1)).setCell ⟨w.heap.size, 2, none⟩ (.slice a2 m2 c_2)).setCell ⟨w.heap.size, 3, none⟩ (.slice a3 m3 c_3) = W9 at h9 o9 b9 ⊢
        have q0 : W9.cell? ⟨w.heap.size, 0, none⟩ = some (.slice a0 m0 c_0) := by simp [World.cell?, h9, arr4]
        have q1 : W9.cell? ⟨w.heap.size, 1, none⟩ = some (.slice a1 m1 c_1) := by simp [World.cell?, h9, arr4]
        have q2 : W9.cell? ⟨w.heap.size, 2, none⟩ = some (.slice a2 m2 c_2) := by simp [World.cell?, h9, arr4]
        have q3 : W9.cell? ⟨w.heap.size, 3, none⟩ = some (.slice a3 m3 c_3) := by simp [World.cell?, h9, arr4]
        refine bodyPost_ret (v := .tuple #[.agg #[.slice a0 m0 c_0, .slice a1 m1 c_1, .slice a2 m2 c_2, .slice a3 m3 c_3], .bool true]) (by simp [results, Try.results26, go_sem, q0, q1, q2, q3]) rfl ⟨x, by rw [EX.out], fun j hj => ?_, b9⟩
        have hrow := (ROWS.out j hj).1
        rw [HIN.out j hj] at hrow
        refine ⟨hrow.1, ?_⟩
        rcases hrow.2 with h0 | ⟨gg, cap, cur', e, hgg, hh, r⟩
        · exact .inl h0
        · refine .inr ⟨gg, cap, cur', e, hgg, ?_, r⟩
          rw [o9 gg ?_]
          · exact hh
          · have := (ROWS.out j hj).2 gg (by rw [e]; rfl)
            omega


end Go.Proofs.Ythpbgejjfdgpaaa
