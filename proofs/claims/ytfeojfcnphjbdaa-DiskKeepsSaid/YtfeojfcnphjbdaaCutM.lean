/- A script played on a disk whose power fails; two disks side by side. -/
import Derived.Test.YtfeojfcnphjbdaaPlayM
namespace Go.Proofs.Ytfeojfcnphjbdaa
open Go.RowKit Go.Maps
set_option linter.unusedVariables false

section
variable (fs : List (Key × File)) (r p : Int)
theorem pw_err (hp : 0 < p) (k : Key) : (St.mk fs r p).err k = (St.mk fs r (-1)).err k := by
  unfold St.err
  rw [if_neg (show ¬ (St.mk fs r p).power = 0 from (by simp only; omega)), if_neg (show ¬ (St.mk fs r (-1)).power = 0 from (by simp only; omega))]
theorem pw_app (hp : 0 < p) (k : Key) (b : List UInt8) : appE (St.mk fs r p) k b = appE (St.mk fs r (-1)) k b := by
  unfold appE
  rw [if_neg (show ¬ (St.mk fs r p).power = 0 from (by simp only; omega)), if_neg (show ¬ (St.mk fs r (-1)).power = 0 from (by simp only; omega))]; rfl
theorem pw_ren (hp : 0 < p) (k k2 : Key) : renE (St.mk fs r p) k k2 = renE (St.mk fs r (-1)) k k2 := by
  unfold renE; rw [pw_err fs r p hp]
theorem pw_E (hp : 0 < p) (x : StepV) : pE (St.mk fs r p) x = pE (St.mk fs r (-1)) x := by
  unfold pE; rw [pw_app fs r p hp, pw_err fs r p hp, pw_ren fs r p hp]
/-- A step with power left: the same files; a call that was done takes one of it. -/
theorem pw_S (hp : 0 < p) (x : StepV) : ∃ fs2, pS (St.mk fs r (-1)) x = St.mk fs2 r (-1) ∧ pS (St.mk fs r p) x = St.mk fs2 r (if pE (St.mk fs r (-1)) x = 0 then p - 1 else p) := by
  have hs : spent p = p - 1 := by unfold spent; rw [if_pos hp]
  have hm : spent (-1) = -1 := by unfold spent; rw [if_neg (by omega)]
  unfold pS pE mAppend mSync mRename mTrunc mDelete St.to
  simp only [pw_app fs r p hp, pw_err fs r p hp, pw_ren fs r p hp, hs, hm]
  have ha : ∀ k, (St.mk fs r p).at k = (St.mk fs r (-1)).at k := fun _ => rfl
  simp only [ha]
  by_cases h0 : x.app = true
  · simp only [h0, if_true]
    split <;> exact ⟨_, rfl, rfl⟩
  simp only [h0, Bool.false_eq_true, if_false]
  by_cases h4 : x.what = 4
  · simp only [h4, if_true]
    split <;> exact ⟨_, rfl, rfl⟩
  simp only [h4, if_false]
  by_cases h5 : x.what = 5
  · simp only [h5, if_true]
    split <;> exact ⟨_, rfl, rfl⟩
  simp only [h5, if_false]
  by_cases h6 : x.what = 6
  · simp only [h6, if_true]
    split <;> exact ⟨_, rfl, rfl⟩
  simp only [h6, if_false]
  by_cases h7 : x.what = 7
  · simp only [h7, if_true]
    split <;> exact ⟨_, rfl, rfl⟩
  simp only [h7, if_false]
  exact ⟨_, rfl, rfl⟩
/-- A dead disk does nothing. -/
theorem dead_E (x : StepV) : pE (St.mk fs r 0) x ≠ 0 := by
  unfold pE renE
  have he : ∀ k, (St.mk fs r 0).err k = 43 := fun k => by simp [St.err]
  have ha : ∀ k b, appE (St.mk fs r 0) k b = 43 := fun k b => by simp [appE]
  simp only [he, ha]
  split
  · decide
  split
  · decide
  split
  · rw [if_neg (by decide)]; decide
  split
  · decide
  split
  · decide
  · decide
theorem dead_S (x : StepV) : pS (St.mk fs r 0) x = St.mk fs r 0 := by
  unfold pS mAppend mSync mRename mTrunc mDelete renE
  have he : ∀ k, (St.mk fs r 0).err k = 43 := fun k => by simp [St.err]
  have ha : ∀ k b, appE (St.mk fs r 0) k b = 43 := fun k b => by simp [appE]
  simp [he, ha]
end
theorem dead_run (fs : List (Key × File)) (r : Int) : ∀ l : List StepV, pCnt (St.mk fs r 0) l = 0 ∧ pEnd (St.mk fs r 0) l = St.mk fs r 0
  | [] => ⟨rfl, rfl⟩
  | x :: t => by
    obtain ⟨h1, h2⟩ := dead_run fs r t
    simp only [pCnt, pEnd, List.foldl_cons, dead_S, done0, if_neg (dead_E fs r x)]
    exact ⟨by rw [h1], h2⟩
/-- So many calls are done as there is power for; then it is dead; while it isn't, it has the same files. -/
theorem cut_run (r : Int) : ∀ (l : List StepV) (fs : List (Key × File)) (p : Nat), pCnt (St.mk fs r p) l = min (pCnt (St.mk fs r (-1)) l) p ∧ ∃ fs2, pEnd (St.mk fs r p) l = St.mk fs2 r ((p - min (pCnt (St.mk fs r (-1)) l) p : Nat) : Int) ∧ (pCnt (St.mk fs r (-1)) l < p → pEnd (St.mk fs r (-1)) l = St.mk fs2 r (-1))
  | [], fs, p => by simp [pCnt, pEnd]
  | x :: t, fs, p => by
    rcases Nat.eq_zero_or_pos p with rfl | hp
    · obtain ⟨h1, h2⟩ := dead_run fs r (x :: t)
      simp only [Int.natCast_zero] at *
      rw [h1, h2]
      exact ⟨by simp, fs, by simp, fun h => by omega⟩
    · have hp' : (0 : Int) < (p : Int) := by omega
      obtain ⟨fs2, e1, e2⟩ := pw_S fs r p hp' x
      simp only [pCnt, pEnd, List.foldl_cons, e1, e2, pw_E fs r p hp', done0]
      by_cases hE : pE (St.mk fs r (-1)) x = 0
      · simp only [hE, if_true]
        have ep : (p : Int) - 1 = ((p - 1 : Nat) : Int) := by omega
        rw [ep]
        obtain ⟨i1, fs3, i2, i3⟩ := cut_run r t fs2 (p - 1)
        simp only [pEnd] at i2 i3
        rw [i1, i2]
        refine ⟨by omega, fs3, ?_, fun h => i3 (by omega)⟩
        congr 1; omega
      · simp only [hE, if_false, Nat.zero_add]
        obtain ⟨i1, fs3, i2, i3⟩ := cut_run r t fs2 p
        simp only [pEnd] at i2 i3
        exact ⟨i1, fs3, i2, i3⟩

/-- Of two disks, one of which is called. -/
theorem Live.other {w0 w w' : World} {b : Nat} {Fa Fa' Fb : Nat → Prop} {s : St} (h : Live w0 w b Fb s) (t : Step Fa Fa' w w') (ha : ∀ k, Fa k → w0.heap.size ≤ k) (hd : ∀ k, Fa k → ¬ Fb k) : Live w0 w' b Fb s ∧ ∀ k, Fa' k → ¬ Fb k := by
  refine ⟨⟨h.disk.touch t.touch fun k hk ha => hd k ha hk, ?_, h.new⟩, fun k hx hb => hd k (t.foot k (h.disk.lt hb) hx) hb⟩
  exact h.since.then t.touch fun k hk x => absurd hk (Nat.not_lt.2 (ha k x))
theorem Live.weaken {w0 w1 w : World} {d : Nat} {F : Nat → Prop} {s : St} (h : Live w1 w d F s) (t : Touch (fun _ => False) w0 w1) : Live w0 w d F s := ⟨h.disk, t.trans h.since, fun k hk => Nat.le_trans t.size (h.new k hk)⟩
end Go.Proofs.Ytfeojfcnphjbdaa
