/-
  What bytes begin with: take and its closures.
-/
import Derived.Test.YthbpnngfdpdjkaaCodScan
namespace Go.Proofs.Ythbpnngfdpdjkaa
open Go.RowKit Go.Shelf
set_option linter.unusedVariables false
set_option linter.unusedSimpArgs false
set_option maxRecDepth 100000

theorem Sl.begin {w : World} {A : Option Addr} {c : Nat} {bs : List Int} (h : Sl w A c bs) (k : Nat) : Sl w A c (bs.take k) :=
  ⟨by have := h.room; simp; omega, h.most, h.rd.take k⟩
/-- Read, as a scan whose bytes lie below the world's end. -/
theorem read_st {w w1 : World} {g : Nat} {A : Option Addr} {c : Nat} {bs : List Int} (hs : Sc w1 g A c bs 0 false) (hn : New w.heap.size w1 A c bs) : Sst w1 g w1.heap.size (bs, 0, false) := by
  refine ⟨A, c, hs, fun a ha => ?_⟩
  rcases hn.2 with ⟨hv, _⟩ | ⟨b, cap, cur, hv, _, hh, _⟩
  · injection hv with e; rw [e] at ha; cases ha
  · injection hv with e; rw [e] at ha; cases ha; exact lt_of_block hh

set_option maxHeartbeats 400000 in
theorem tv1_any (w : World) (g B : Nat) (s : St) (h : Sst w g B s) (hB : B ≤ w.heap.size) :
    Calls Try.prog 42 #[.agg #[.pointer (some ⟨g, 0, none⟩)]] w (GivesV w g B (vecS s)) := by
  have hb : Below w.heap.size w (w.alloc (.cells #[.pointer (some ⟨g, 0, none⟩)] 68)) := (Below.refl _ w).alloc (Nat.le_refl _) _
  have HV := Lib.hid (rvec_any _ g B s (h.below hb) (Nat.le_trans hB hb.size))
  have HO := Lib.hid ((Only.refl g w).below hb)
  generalize vecS s = R at *
  clear h hB hb
  go_enter Try.func42, Try.ntmps42
  go_wp2_with fail
  refine HV.out.mono ?_
  rintro e w1 ⟨A, c, rfl, hv, hs, ho⟩
  have HV1 := Lib.hid hv
  have HS1 := Lib.hid hs
  have HO1 := Lib.hid (HO.out.trans ho)
  clear hv hs ho
  go_wp2
  go_ret
  exact ⟨A, c, rfl, HV1.out, HS1.out, HO1.out⟩

/-- What a call answers that takes a vector off. -/
def GivesT (w : World) (r : Int × Int × List Int) (e : Ending) (w' : World) : Prop := ∃ A c, e = .returned (.tuple #[.slice A r.2.2.length c, .int .i64 r.2.1, .int .i64 r.1]) ∧ Vec .i32 w' A c r.2.2 ∧ Below w.heap.size w w'
def tkV (bs : List Int) : Int × Int × List Int := 
  let r := vecS (bs.take 33, 0, false)
  if r.2.2.2 = true then (7, 0, []) else if right r.1 = true then (0, r.2.2.1, r.1) else (172, 0, [])

set_option maxHeartbeats 1000000 in
theorem takeV_any (A : Option Addr) (c : Nat) (bs : List Int) (w : World) (h : Sl w A c bs) (ho : Oct bs) (hbig : bs.length ≤ 1000000) :
    Calls Try.prog 41 #[.slice A bs.length c, .func (.func 34) #[] #[], .func (.func 42) #[] #[]] w (GivesT w (tkV bs)) := by
  have hroom := h.room
  have hmost := h.most
  have HRd := Lib.hid (read_n A c (bs.take 33) w (h.begin 33) (ho.take 33) (by simp; omega))
  obtain ⟨m, hm⟩ : ∃ m, m = (bs.take 33).length := ⟨_, rfl⟩
  have HR := Lib.hid (show tkV bs = if (vecS (bs.take 33, 0, false)).2.2.2 = true then (7, 0, []) else if right (vecS (bs.take 33, 0, false)).1 = true then (0, (vecS (bs.take 33, 0, false)).2.2.1, (vecS (bs.take 33, 0, false)).1) else (172, 0, []) from rfl)
  have hml : m = min 33 bs.length := by rw [hm]; simp
  generalize tkV bs = R at *
  generalize bs.take 33 = l at *
  obtain ⟨xs, s', hV⟩ : ∃ xs s', vecS (l, 0, false) = (xs, s') := ⟨_, _, rfl⟩
  rw [hV] at HR
  rw [← hm] at HRd
  generalize bs.length = n at *
  have hmin : min (n : Int) 33 = (m : Int) := by omega
  have hmn : m ≤ n := by omega
  have HV := Lib.hid hV
  have HM := Lib.hid hm
  clear h ho hm hml hV
  go_enter Try.func41, Try.ntmps41
  go_wp2_with fail
  refine HRd.out.mono ?_
  rintro e w1 ⟨g, A1, c1, rfl, hs1, hg1, hb1, hnew⟩
  have HS1 := Lib.hid (read_st hs1 hnew)
  have HG := Lib.hid hg1
  have HB1 := Lib.hid hb1
  clear hs1 hg1 hb1 hnew
  have hbx : Below w1.heap.size w1 (w1.alloc (.cells #[.pointer (some ⟨g, 0, none⟩)] 68)) := (Below.refl _ w1).alloc (Nat.le_refl _) _
  have HT := Lib.hid (tv1_any _ g w1.heap.size (l, 0, false) (HS1.out.below hbx) hbx.size)
  rw [HV.out] at HT
  have hcx := cell_laid w1 #[.pointer (some ⟨g, 0, none⟩)] 68 0
  have hgl := HS1.out.lt
  have HCX := Lib.hid (fun (V : World) (hV : Only g (w1.alloc (.cells #[.pointer (some ⟨g, 0, none⟩)] 68)) V) => show V.cell? ⟨w1.heap.size, 0, none⟩ = some (.pointer (some ⟨g, 0, none⟩)) from (World.cell?_of_block (a := ⟨w1.heap.size, 0, none⟩) (hV.block w1.heap.size (by simp) (by simp; omega))).trans hcx)
  have HBX := Lib.hid (fun (V : World) (hV : Only g (w1.alloc (.cells #[.pointer (some ⟨g, 0, none⟩)] 68)) V) => show Below w.heap.size w V from (HB1.out.trans (hbx.mono HB1.out.size)).trans (below_of_only hV HG.out (Nat.le_trans HB1.out.size hbx.size)))
  clear hbx hcx hgl
  go_wp2_with fail
  refine HT.out.mono ?_
  rintro e w3 ⟨A3, c3, rfl, hv, hs, ho⟩
  dsimp only at hv hs
  have hbd := hs.bad
  have hpl := hs.place
  have hcx := HCX.out w3 ho
  have HB3 := Lib.hid (HBX.out w3 ho)
  have HC := Lib.hid (check_any A3 c3 xs w3 hv)
  rw [checkM_eq] at HC
  have HVX := Lib.hid hv
  have HS3 := Lib.hid hs.lt
  clear hv hs ho HCX HBX HT
  obtain ⟨sl, pl, bd⟩ := s'
  dsimp only at hbd hpl HR ⊢
  cases bd with
  | true =>
    have HR2 := Lib.hid (show R = (7, 0, []) by rw [HR.out]; rfl)
    go_wp2_with (go_at_call 56; refine (bad_any _ g true hbd).mono ?_; rintro e w' ⟨rfl, rfl⟩)
    go_ret3
    rw [HR2.out]
    exact ⟨none, 0, rfl, Vec.nil _ _, HB3.out⟩
  | false =>
    simp only [Bool.false_eq_true, if_false] at HR
    cases hr : right xs with
    | false =>
      rw [hr] at HC HR
      simp only [Bool.false_eq_true, if_false] at HR HC
      generalize xs.length = k at *
      clear hr
      go_wp2_with (go_at_call 56; refine (bad_any _ g false hbd).mono ?_; rintro e w' ⟨rfl, rfl⟩)
      refine HC.out.mono ?_
      rintro e w4 ⟨rfl, hb4⟩
      have HB4 := Lib.hid (HB3.out.trans (hb4.mono HB3.out.size))
      clear hb4
      go_wp2
      go_ret3
      rw [HR.out]
      exact ⟨none, 0, rfl, Vec.nil _ _, HB4.out⟩
    | true =>
      rw [hr] at HC HR
      simp only [if_true] at HR HC
      generalize hk : xs.length = k at *
      have HK := Lib.hid hk
      clear hr hk
      go_wp2_with (go_at_call 56; refine (bad_any _ g false hbd).mono ?_; rintro e w' ⟨rfl, rfl⟩)
      refine HC.out.mono ?_
      rintro e w4 ⟨rfl, hb4⟩
      have HB4 := Lib.hid (HB3.out.trans (hb4.mono HB3.out.size))
      have hpl4 := (hb4.cell (p := ⟨g, 1, none⟩) HS3.out).trans hpl
      have hcx4 := (hb4.cell (p := ⟨w1.heap.size, 0, none⟩) (World.block_lt_of_cell? w3 _ hcx)).trans hcx
      have HV4 := Lib.hid (HVX.out.below hb4)
      clear hb4 hpl hcx hbd
      go_wp2_with (go_at_call 57; refine (place_any _ g pl hpl4).mono ?_; rintro e w' ⟨rfl, rfl⟩)
      go_ret3
      rw [HR.out]
      exact ⟨A3, c3, by rw [← HK.out]; rfl, HV4.out, HB4.out⟩

theorem set2 {w : World} {g : Nat} {a b : Value} {t : TypeId} (h : w.heap[g]? = some (.cells #[a, b] t (0, 0))) (x y : Value) : ((w.setCell ⟨g, 0, none⟩ x).setCell ⟨g, 1, none⟩ y).heap[g]? = some (.cells #[x, y] t (0, 0)) := by
  have h1 := heap_setCell_same w g 0 _ _ x h
  have h2 := heap_setCell_same _ g 1 _ _ y h1
  exact h2

theorem set3 {w : World} {g : Nat} {a b c : Value} {t : TypeId} (h : w.heap[g]? = some (.cells #[a, b, c] t (0, 0))) (x y z : Value) : (((w.setCell ⟨g, 0, none⟩ x).setCell ⟨g, 1, none⟩ y).setCell ⟨g, 2, none⟩ z).heap[g]? = some (.cells #[x, y, z] t (0, 0)) := by
  have h1 := heap_setCell_same w g 0 _ _ x h
  have h2 := heap_setCell_same _ g 1 _ _ y h1
  have h3 := heap_setCell_same _ g 2 _ _ z h2
  exact h3
theorem Vec.turned {w w' : World} {A : Option Addr} {c x : Nat} {xs : List Int} (h : Vec .i32 w A c xs) (ho : Only x w w') (hx : ∀ o z, w.cell? ⟨x, o, none⟩ ≠ some (.int .i32 z)) : Vec .i32 w' A c xs := by
  refine ⟨h.room, h.most, fun hp => ?_, h.fit⟩
  obtain ⟨b, o, rfl, hb, hc⟩ := h.rd hp
  have hne : b ≠ x := by
    rintro rfl
    exact hx _ _ (hc 0 hp)
  have hbl := ho.block b hb (by simpa using hne)
  exact ⟨b, o, rfl, Nat.lt_of_lt_of_le hb ho.size, fun j hj => (World.cell?_of_block (a := ⟨b, o + j, none⟩) (w := w) hbl).trans (hc j hj)⟩
theorem odd2 {w : World} {x : Nat} {u : Int} {A : Option Addr} {n c : Nat} {t : TypeId} (h : w.heap[x]? = some (.cells #[.int .u64 u, .slice A n c] t (0, 0))) : ∀ o z, w.cell? ⟨x, o, none⟩ ≠ some (.int .i32 z) := by
  intro o z hc
  simp [World.cell?, h] at hc
  match o, hc with
  | 0, hc => simp at hc
  | 1, hc => simp at hc
  | o + 2, hc => simp at hc
theorem odd3 {w : World} {x : Nat} {u v : Int} {A : Option Addr} {n c : Nat} {t : TypeId} (h : w.heap[x]? = some (.cells #[.int .u64 u, .int .u64 v, .slice A n c] t (0, 0))) : ∀ o z, w.cell? ⟨x, o, none⟩ ≠ some (.int .i32 z) := by
  intro o z hc
  simp [World.cell?, h] at hc
  match o, hc with
  | 0, hc => simp at hc
  | 1, hc => simp at hc
  | 2, hc => simp at hc
  | o + 3, hc => simp at hc

/-- A row is told, and the scan stands where it says. -/
def GivesR1 (w : World) (g B : Nat) (id : Int) (r : List Int × St) (e : Ending) (w' : World) : Prop := ∃ A c, e = .returned (.agg #[.int .u64 id, .slice A r.1.length c]) ∧ Vec .i32 w' A c r.1 ∧ Sst w' g B r.2 ∧ Only g w w'

set_option maxHeartbeats 1000000 in
theorem tr1_any (w : World) (g B : Nat) (s : St) (h : Sst w g B s) (hB : B ≤ w.heap.size) :
    Calls Try.prog 46 #[.agg #[.pointer (some ⟨g, 0, none⟩)]] w (GivesR1 w g B (numV 8 s) (vecS (stepS 8 s))) := by
  obtain ⟨W, hW⟩ : ∃ W, W = (w.alloc (.cells #[.pointer (some ⟨g, 0, none⟩)] 68)).alloc (.cells #[.int .u64 0, .slice none 0 0] 25) := ⟨_, rfl⟩
  have hb : Below w.heap.size w W := by rw [hW]; exact ((Below.refl _ w).alloc (Nat.le_refl _) _).alloc (by simp) _
  have hz : W.heap.size = w.heap.size + 2 := by rw [hW]; simp
  have hbox : W.cell? ⟨w.heap.size, 0, none⟩ = some (.pointer (some ⟨g, 0, none⟩)) := by
    rw [hW]
    exact (((Below.refl _ _).alloc (Nat.le_refl _) _).cell (p := ⟨w.heap.size, 0, none⟩) (by simp)).trans (cell_laid w _ _ 0)
  have hres : W.heap[w.heap.size + 1]? = some (.cells #[.int .u64 0, .slice none 0 0] 25 (0, 0)) := by
    rw [hW]
    have := heap_alloc_new (w.alloc (.cells #[.pointer (some ⟨g, 0, none⟩)] 68)) (.cells #[.int .u64 0, .slice none 0 0] 25)
    rwa [World.size_alloc] at this
  have hgl := h.lt
  have HN := Lib.hid (show Calls Try.prog 47 #[.pointer (some ⟨g, 0, none⟩), .int .i64 8] W.drew fun e w' => e = .returned (.int .u64 (numV 8 s)) ∧ Sst w' g B (stepS 8 s) ∧ Only g W.drew w' from num_gen W.drew g B 8 s (h.below hb).drew (by omega) (by omega))
  have HL := Lib.hid (fun (V : World) (hV : Sst V g B (stepS 8 s)) (hs : W.heap.size ≤ V.heap.size) => rvec_any V g B _ hV (by omega))
  have HK := Lib.hid (fun (V : World) (hV : Only g W V) => show V.cell? ⟨w.heap.size, 0, none⟩ = some (.pointer (some ⟨g, 0, none⟩)) ∧ V.heap[w.heap.size + 1]? = some (.cells #[.int .u64 0, .slice none 0 0] 25 (0, 0)) from
    ⟨(World.cell?_of_block (a := ⟨w.heap.size, 0, none⟩) (hV.block w.heap.size (by omega) (by simp; omega))).trans hbox, (hV.block (w.heap.size + 1) (by omega) (by simp; omega)).trans hres⟩)
  have HB0 := Lib.hid hb
  have HB := Lib.hid (show B < w.heap.size + 1 by omega)
  have S0 := Lib.hid (show W.drew.cell? ⟨w.heap.size, 0, none⟩ = some (.pointer (some ⟨g, 0, none⟩)) from hbox)
  have HG := Lib.hid hgl
  have HW := Lib.hid hW
  have HZ := Lib.hid hz
  generalize numV 8 s = id at *
  generalize vecS (stepS 8 s) = R at *
  generalize stepS 8 s = s1 at *
  clear h hb hz hbox hres hgl hW hB
  go_enter Try.func46, Try.ntmps46
  go_wp2
  rw [← HW.out]
  go_region_held3 (fun V => V.cell? ⟨w.heap.size, 0, none⟩ = some (.pointer (some ⟨g, 0, none⟩))) (first | exact S0.out | exact S3.out | exact S4.out | exact S5.out) (first
    | (go_at_call 47; refine HN.out.mono ?_; rintro e w3 ⟨rfl, hs3, ho3⟩; have HO3 := Lib.hid ((Only.refl g W).drew.trans ho3); have S3 := Lib.hid (HK.out w3 HO3.out).1; have HS3 := Lib.hid hs3; clear hs3 ho3)
    | (go_at_call 43; refine (HL.out w3 HS3.out HO3.out.size).mono ?_; rintro e w4 ⟨A4, c4, rfl, hv4, hs4, ho4⟩; have HO4 := Lib.hid (HO3.out.trans ho4); have S4 := Lib.hid (HK.out w4 HO4.out).1; have r4 := (HK.out w4 HO4.out).2; have HV4 := Lib.hid hv4; have HS4 := Lib.hid hs4; have q0 : w4.cell? ⟨w.heap.size + 1, 0, none⟩ = some (.int .u64 0) := (cell_of_row _ _ _ _ _ _ r4).trans rfl; have q1 : w4.cell? ⟨w.heap.size + 1, 1, none⟩ = some (.slice none 0 0) := (cell_of_row _ _ _ _ _ _ r4).trans rfl; have f0 : w4.frozen? ⟨w.heap.size + 1, 0, none⟩ = false := frozen_of_row _ _ _ _ _ r4; have f1 : w4.frozen? ⟨w.heap.size + 1, 1, none⟩ = false := frozen_of_row _ _ _ _ _ r4; have S5 := Lib.hid (show ((w4.setCell ⟨w.heap.size + 1, 0, none⟩ (.int .u64 id)).setCell ⟨w.heap.size + 1, 1, none⟩ (.slice A4 R.1.length c4)).cell? ⟨w.heap.size, 0, none⟩ = some (.pointer (some ⟨g, 0, none⟩)) by rw [World.cell?_setCell_other _ _ _ _ (fun e => by have := congrArg Addr.block e; simp at this), World.cell?_setCell_other _ _ _ _ (fun e => by have := congrArg Addr.block e; simp at this)]; exact S4.out); have HX := Lib.hid (set2 r4 (.int .u64 id) (.slice A4 R.1.length c4)); have HOX := Lib.hid (((Only.refl (w.heap.size + 1) w4).set (p := ⟨w.heap.size + 1, 0, none⟩) (.inl rfl) (.int .u64 id)).set (p := ⟨w.heap.size + 1, 1, none⟩) (.inl rfl) (.slice A4 R.1.length c4)); have HOD := Lib.hid (odd2 r4); have HZ4 := Lib.hid (((Only.refl g w).below HB0.out).trans HO4.out); clear hv4 hs4 ho4 r4))
  all_goals (
    have r0 := (cell_of_row _ _ 0 _ _ _ HX.out).trans rfl
    have r1 := (cell_of_row _ _ 1 _ _ _ HX.out).trans rfl
    go_wp2
    exact bodyPost_ret (v := .agg #[.int .u64 id, .slice A4 R.1.length c4]) (by simp [results, Try.results46, go_sem, r0, r1]) rfl ⟨A4, c4, rfl, HV4.out.turned HOX.out HOD.out, HS4.out.far HOX.out (by have := HB.out; omega) (by have := HG.out; omega), HZ4.out.other HOX.out (by omega)⟩)

end Go.Proofs.Ythbpnngfdpdjkaa
