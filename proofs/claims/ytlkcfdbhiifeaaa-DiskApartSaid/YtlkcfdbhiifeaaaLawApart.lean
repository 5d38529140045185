/-
  Plain facts for DiskApart: what an op does to the files of a disk that is neither armed nor set to fail nor dead.
-/
import Derived.Test.YtlkcfdbhiifeaaaLawDiskRests
namespace Go.Proofs.Ytlkcfdbhiifeaaa
open Go.RowKit
set_option linter.unusedVariables false

/-- What is done to one file changes no other one; what is refused changes none. -/
structure ApartF (M M' : AD) (q : AO) (e : Int) : Prop where
  room : M'.room = M.room
  rest : ∀ j : Int, ¬ (e = 0 ∧ (j = q.file ∨ (q.op = 7 ∧ j = q.n))) → (M'.file j).bs = (M.file j).bs
  name : e = 0 → Name q.file
  app : e = 0 → q.op < 3 → (M'.file q.file).bs = (M.file q.file).bs ++ q.bs
  cut : e = 0 → q.op = 6 → 0 ≤ q.n ∧ q.n ≤ (M.file q.file).bs.length ∧ (M'.file q.file).bs = (M.file q.file).bs.take q.n.toNat
  mov : e = 0 → q.op = 7 → q.file ≠ q.n → Name q.n ∧ (M'.file q.n).bs = (M.file q.file).bs ∧ (M'.file q.file).bs = []
  rem : e = 0 → q.op = 8 → (M'.file q.file).bs = [] ∧ M'.files q.file = none
  keep : e = 0 → 3 ≤ q.op → q.op ≠ 6 → q.op ≠ 8 → ¬ (q.op = 7 ∧ q.file ≠ q.n) → (M'.file q.file).bs = (M.file q.file).bs

theorem file_put (M : AD) (k j : Int) (F : AF) : (M.put k F).file j = if j = k then F else M.file j := by
  unfold AD.file AD.put
  by_cases h : j = k
  · subst h; simp [upd]
  · simp [upd, h]
theorem file_drop (M : AD) (k j : Int) : (M.drop k).file j = if j = k then AF.none else M.file j := by
  unfold AD.file AD.drop
  by_cases h : j = k
  · subst h; simp [upd]
  · simp [upd, h]
theorem file_met (M : AD) (j : Int) : M.met.file j = M.file j := by unfold AD.file; rw [met_files]

theorem apart_op {M M1 : AD} {q : AO} {xs : List Int} (herr : M.err = 0) (hroom : M1.room = M.room) (h : M.ask q.file xs = 0 → ApartF M M1 q 0) : ApartF M (M.opM q.file xs M1) q (M.opC q.file xs) := by
  unfold AD.opM AD.opC
  by_cases hz : M.ask q.file xs = 0
  · rw [if_pos hz, if_pos hz, herr, if_pos rfl]
    exact h hz
  · rw [if_neg hz, if_neg hz]
    exact ⟨rfl, fun j _ => rfl, fun e => absurd e hz, fun e => absurd e hz, fun e => absurd e hz, fun e => absurd e hz, fun e => absurd e hz, fun e => absurd e hz⟩

theorem apart_run {M : AD} (hok : M.Ok) (ha : M.armed = -1) (hf : M.failing = -1) (hd : M.dead = false) (q : AO) (h9 : q.op < 9) : ApartF M (M.runM q) q (M.runC q) := by
  have herr : M.err = 0 := by simp [AD.err, ha, hf]
  have h0 := (op_range q).1
  have hr : M.met.room = M.room := met_room M
  by_cases h3 : q.op = 3
  · have e1 : M.runM q = M.opM q.file [] (M.met.put q.file (M.file q.file).settled) := by simp [AD.runM, h3]
    have e2 : M.runC q = M.opC q.file [] := by simp [AD.runC, h3]
    rw [e1, e2]
    refine apart_op herr hr fun hz => ?_
    obtain ⟨_, hn, _, _⟩ := ask_there hz
    have hfile : ∀ j, ((M.met.put q.file (M.file q.file).settled).file j).bs = (M.file j).bs := fun j => by
      rw [file_put]
      by_cases e : j = q.file
      · rw [if_pos e, e]; rfl
      · rw [if_neg e, file_met]
    exact ⟨hr, fun j _ => hfile j, fun _ => hn, fun _ h => by omega, fun _ h => by omega, fun _ h => by omega, fun _ h => by omega, fun _ _ _ _ _ => hfile _⟩
  by_cases h4 : q.op = 4
  · have e1 : M.runM q = M.opM q.file [] (M.met.put q.file (M.file q.file).settled) := by simp [AD.runM, h4]
    have e2 : M.runC q = M.opC q.file [] := by simp [AD.runC, h4]
    rw [e1, e2]
    refine apart_op herr hr fun hz => ?_
    obtain ⟨_, hn, _, _⟩ := ask_there hz
    have hfile : ∀ j, ((M.met.put q.file (M.file q.file).settled).file j).bs = (M.file j).bs := fun j => by
      rw [file_put]
      by_cases e : j = q.file
      · rw [if_pos e, e]; rfl
      · rw [if_neg e, file_met]
    exact ⟨hr, fun j _ => hfile j, fun _ => hn, fun _ h => by omega, fun _ h => by omega, fun _ h => by omega, fun _ h => by omega, fun _ _ _ _ _ => hfile _⟩
  by_cases h5 : q.op = 5
  · have e1 : M.runM q = M.opM q.file [] M.met := by simp [AD.runM, h5]
    have e2 : M.runC q = M.opC q.file [] := by simp [AD.runC, h5]
    rw [e1, e2]
    refine apart_op herr hr fun hz => ?_
    obtain ⟨_, hn, _, _⟩ := ask_there hz
    have hfile : ∀ j, (M.met.file j).bs = (M.file j).bs := fun j => by rw [file_met]
    exact ⟨hr, fun j _ => hfile j, fun _ => hn, fun _ h => by omega, fun _ h => by omega, fun _ h => by omega, fun _ h => by omega, fun _ _ _ _ _ => hfile _⟩
  by_cases h6 : q.op = 6
  · have e1 : M.runM q = M.truncM q.file q.n := by simp [AD.runM, h6]
    have e2 : M.runC q = M.truncC q.file q.n := by simp [AD.runC, h6]
    rw [e1, e2]
    unfold AD.truncM AD.truncC
    by_cases hz : M.ask q.file [] = 0
    · rw [if_pos hz, if_pos hz]
      obtain ⟨_, hn, _, _⟩ := ask_there hz
      by_cases hb : q.n < 0 ∨ M.len q.file < q.n
      · rw [if_pos hb, if_pos hb]
        exact ⟨rfl, fun j _ => rfl, fun e => by omega, fun e => by omega, fun e => by omega, fun e => by omega, fun e => by omega, fun e => by omega⟩
      · rw [if_neg hb, if_neg hb, herr, if_pos rfl]
        refine ⟨hr, fun j hj => ?_, fun _ => hn, fun _ h => by omega, fun _ _ => ⟨by omega, by rw [len_file]; omega, ?_⟩, fun _ h => by omega, fun _ h => by omega, fun _ _ h => absurd h6 h⟩
        · rw [file_put, if_neg (fun e => hj ⟨rfl, .inl e⟩), file_met]
        · rw [file_put, if_pos rfl]; rfl
    · rw [if_neg hz, if_neg hz]
      exact ⟨rfl, fun j _ => rfl, fun e => absurd e hz, fun e => absurd e hz, fun e => absurd e hz, fun e => absurd e hz, fun e => absurd e hz, fun e => absurd e hz⟩
  by_cases h7 : q.op = 7
  · have e1 : M.runM q = M.opM q.file [q.n] (M.met.move q.file q.n) := by simp [AD.runM, h7]
    have e2 : M.runC q = M.opC q.file [q.n] := by simp [AD.runC, h7]
    rw [e1, e2]
    refine apart_op herr (by unfold AD.move; split <;> exact hr) fun hz => ?_
    obtain ⟨_, hn, hx, _⟩ := ask_there hz
    by_cases e : q.file = q.n
    · have hm : M.met.move q.file q.n = M.met := by simp [AD.move, e]
      rw [hm]
      have hfile : ∀ j, (M.met.file j).bs = (M.file j).bs := fun j => by rw [file_met]
      exact ⟨hr, fun j _ => hfile j, fun _ => hn, fun _ h => by omega, fun _ h => by omega, fun _ _ h => absurd e h, fun _ h => by omega, fun _ _ _ _ _ => hfile _⟩
    · have hm : M.met.move q.file q.n = (M.met.drop q.file).put q.n (M.met.file q.file).held := by simp [AD.move, e]
      rw [hm]
      refine ⟨hr, fun j hj => ?_, fun _ => hn, fun _ h => by omega, fun _ h => by omega, fun _ _ _ => ⟨hx q.n (by simp), ?_, ?_⟩, fun _ h => by omega, fun _ _ _ _ h => absurd ⟨h7, e⟩ h⟩
      · rw [file_put, if_neg (fun x => hj ⟨rfl, .inr ⟨h7, x⟩⟩), file_drop, if_neg (fun x => hj ⟨rfl, .inl x⟩), file_met]
      · rw [file_put, if_pos rfl, file_met]; rfl
      · rw [file_put, if_neg e, file_drop, if_pos rfl]; rfl
  by_cases h8 : q.op = 8
  · have e1 : M.runM q = M.opM q.file [] (M.met.drop q.file) := by simp [AD.runM, h8]
    have e2 : M.runC q = M.opC q.file [] := by simp [AD.runC, h8]
    rw [e1, e2]
    refine apart_op herr hr fun hz => ?_
    obtain ⟨_, hn, _, _⟩ := ask_there hz
    refine ⟨hr, fun j hj => ?_, fun _ => hn, fun _ h => by omega, fun _ h => by omega, fun _ h => by omega, fun _ _ => ⟨?_, ?_⟩, fun _ _ _ h => absurd h8 h⟩
    · rw [file_drop, if_neg (fun x => hj ⟨rfl, .inl x⟩), file_met]
    · rw [file_drop, if_pos rfl]; rfl
    · simp [AD.drop, upd]
  · have hlt : q.op < 3 := by omega
    have n3 : q.op ≠ 9 ∧ q.op ≠ 10 ∧ q.op ≠ 11 := by omega
    have e1 : M.runM q = M.appendM q.file q.bs := by simp [AD.runM, h3, h4, h5, h6, h7, h8, n3]
    have e2 : M.runC q = M.appendC q.file q.bs.length := by simp [AD.runC, h3, h4, h5, h6, h7, h8, n3]
    rw [e1, e2]
    unfold AD.appendM AD.appendC
    rw [hd]
    simp only [Bool.false_eq_true, if_false]
    by_cases hn : Name q.file
    · rw [if_pos hn, if_pos hn]
      by_cases hb : M.room - M.total < (q.bs.length : Int)
      · rw [if_pos hb, if_pos hb]
        exact ⟨rfl, fun j _ => rfl, fun e => by omega, fun e => by omega, fun e => by omega, fun e => by omega, fun e => by omega, fun e => by omega⟩
      · rw [if_neg hb, if_neg hb, herr, if_neg (by omega)]
        refine ⟨hr, fun j hj => ?_, fun _ => hn, fun _ _ => ?_, fun _ h => by omega, fun _ h => by omega, fun _ h => by omega, fun _ h => by omega⟩
        · rw [file_put, if_neg (fun x => hj ⟨rfl, .inl x⟩), file_met]
        · rw [file_put, if_pos rfl]; rfl
    · rw [if_neg hn, if_neg hn]
      exact ⟨rfl, fun j _ => rfl, fun e => by omega, fun e => by omega, fun e => by omega, fun e => by omega, fun e => by omega, fun e => by omega⟩

end Go.Proofs.Ytlkcfdbhiifeaaa
