/-
  slices.Collect, all, Slots.
-/
import Derived.Test.YtgljmcddakeoiaaDoorMskSeq
namespace Go.Proofs.YtgljmcddakeoiaaDoor
open Go.RowKit Go.Shelf
set_option linter.unusedVariables false
set_option linter.unusedSimpArgs false
set_option maxRecDepth 100000

theorem Tab.pos {w : World} (h : Tab w) : 0 < w.heap.size := World.block_lt_of_cell? w _ (h 0 (by decide))

theorem collect_any (gf : FuncId) (lb : Array Value) (m : Mk) (w : World) (h0 : 0 < w.heap.size) (hgf : ∀ args W, (callFunc gf args).run Tryd.prog W = .ok (.enter gf args) W)
    (hseq : ∀ W0, Below w.heap.size w W0 → SeqOwn Fence.wide 2 Tryd.prog gf lb encN (fun _ _ => False) (fun _ _ _ => True) KpT (NxT m) (fun xs => xs = slots m) (fun _ => True) W0) :
    Calls Tryd.prog 21 #[.func (.func gf) #[] lb] w (GivesN w (slots m)) := by
  have HA := Lib.hid (appendSeq_any gf lb m w h0 hgf hseq)
  clear h0 hgf hseq
  go_enter Tryd.func21, Tryd.ntmps21
  go_wp2_with fail
  refine HA.out.mono ?_
  rintro e w2 ⟨A, c, rfl, hO, hB⟩
  have HX := Lib.hid (And.intro hO hB)
  clear hO hB
  go_wp2
  go_ret
  exact ⟨A, c, rfl, HX.out.1, HX.out.2⟩

theorem all_any (m : Mk) (w : World) : Calls Tryd.prog 22 #[mv m] w fun e w' => e = .returned (.func (.func 43) #[] #[.pointer (some ⟨w.heap.size, 0, none⟩)]) ∧ w' = w.alloc (.cells #[.int .u64 m.1, .int .u64 m.2] 25) := by
  unfold mv
  go_enter Tryd.func22, Tryd.ntmps22
  go_wp2
  go_ret
  exact ⟨rfl, rfl⟩

set_option maxHeartbeats 2000000 in
theorem slots_any (m : Mk) (w : World) (h : Fine m) (hT : Tab w) : Calls Tryd.prog 8 #[mv m] w (GivesN w (slots m)) := by
  obtain ⟨hb0, hm0⟩ := mbox_world w m
  obtain ⟨w1, hw1⟩ : ∃ w1, w1 = w.alloc (.cells #[.int .u64 m.1, .int .u64 m.2] 25) := ⟨_, rfl⟩
  rw [← hw1] at hb0 hm0
  obtain ⟨hb1, hm1⟩ := mbox_world w1 m
  obtain ⟨w2, hw2⟩ : ∃ w2, w2 = w1.alloc (.cells #[.int .u64 m.1, .int .u64 m.2] 25) := ⟨_, rfl⟩
  rw [← hw2] at hb1 hm1
  have hb2 : Below w.heap.size w w2 := hb0.trans (hb1.mono hb0.size)
  have HAl := Lib.hid (all_any m w1)
  have HCo := Lib.hid (collect_any 43 #[.pointer (some ⟨w1.heap.size, 0, none⟩)] m w2 (hT.below hb2).pos (fun args W => enters_of Tryd.func43 (by kernel_rfl) rfl args W)
    (fun W0 hW0 => all1_in m h 2 w1.heap.size (by omega) ((hm1.below hW0 hm1.lt).cell0) ((hm1.below hW0 hm1.lt).cell1) ((hT.below hb2).below hW0)))
  rw [← hw2] at HAl
  have HB2 := Lib.hid hb2
  have HW1 := Lib.hid hw1
  have z0 := hm0.cell0
  have z1 := hm0.cell1
  clear h hT hb0 hm0 hb1 hm1 hb2 hw1 hw2
  unfold mv at *
  go_enter Tryd.func8, Tryd.ntmps8
  go_wp2_with (rw [← HW1.out])
  refine HAl.out.mono ?_
  rintro e w3 ⟨rfl, rfl⟩
  go_wp2_with fail
  refine HCo.out.mono ?_
  rintro e w4 ⟨A, c, rfl, hO, hB⟩
  have HX := Lib.hid (And.intro (hO.mono HB2.out.size) (HB2.out.trans (hB.mono HB2.out.size)))
  clear hO hB
  go_wp2
  go_ret
  exact ⟨A, c, rfl, HX.out.1, HX.out.2⟩
end Go.Proofs.YtgljmcddakeoiaaDoor
