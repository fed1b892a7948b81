/- The room of a disk, by its state. It speaks of no program but for what a step is. -/
import Derived.Test.YtahikcjgnnmnbaaPlayM
namespace Go.Proofs.Ytahikcjgnnmnbaa
open Go.RowKit Go.Maps
set_option linter.unusedVariables false

theorem Live.rising {w0 w : World} {d : Nat} {F : Nat → Prop} {s : St} (h : Live w0 w d F s) : Rising s.fs := by
  obtain ⟨m, es, hC, _, hfs, _⟩ := h.disk
  exact rising_abs hC.rising hfs

/-- What holds of the state behind every step. -/
structure RI (c n : Nat) (s : St) : Prop where
  power : s.power = -1
  room : s.room = (c : Int)
  used : s.used ≤ c
  len : s.fs.length ≤ n

/-- What a step does. -/
def rS (s : St) (x : StepV) : St := if x.app then mAppend s x.nm x.b else if x.what = 6 then mTrunc s x.nm x.n else if x.what = 7 then mDelete s x.nm else s

section
variable {c n : Nat} {s : St}
theorem at_le (k : Key) : (s.at k).1.length ≤ s.used := by
  unfold St.at St.used
  cases e : aget k s.fs with
  | none => simp
  | some f => exact asum_le (fun x : File => x.1.length) (aget_mem e)
theorem RI.appE (h : RI c n s) (hc : c ≤ 200) (k : Key) (b : List UInt8) : (Proofs.Ytahikcjgnnmnbaa.appE s k b = 0 ↔ (isNm k = true ∧ s.used + b.length ≤ c)) := by
  have ha := at_le (s := s) k
  have hu := h.used
  unfold Proofs.Ytahikcjgnnmnbaa.appE
  rw [if_neg (by rw [h.power]; decide), h.room]
  cases hk : isNm k with
  | false => simp
  | true =>
    simp only [Bool.true_eq_false, if_false, true_and]
    by_cases hx : s.used + b.length ≤ c
    · rw [if_neg (by rintro (q | q) <;> omega)]; simp [hx]
    · rw [if_pos (.inr (by omega))]; simp [hx]
theorem put_used (hr : Rising s.fs) (k : Key) (f : File) (hf : f.1.length + s.used ≤ c + (s.at k).1.length) : (s.to (aput k f s.fs)).used ≤ c := by
  have := asum_aput (k := k) (x := f) (fun x : File => x.1.length) hr
  unfold St.at at hf
  unfold St.used at hf
  show asum (fun x : File => x.1.length) (aput k f s.fs) ≤ c
  cases e : aget k s.fs with
  | none => rw [e] at this hf; simp at this hf; omega
  | some g => rw [e] at this hf; simp at this hf; omega
theorem RI.to (h : RI c n s) (fs : List (Key × File)) (hu : (s.to fs).used ≤ c) (hl : fs.length ≤ n + 1) : RI c (n + 1) (s.to fs) :=
  ⟨by show spent s.power = -1; rw [h.power]; rfl, h.room, hu, hl⟩
theorem RI.step (h : RI c n s) (hr : Rising s.fs) (hc : c ≤ 200) (x : StepV) : RI c (n + 1) (rS s x) := by
  have hkeep : RI c (n + 1) s := ⟨h.power, h.room, h.used, Nat.le_succ_of_le h.len⟩
  have hl := h.len
  unfold rS
  split
  · unfold mAppend
    split
    · rename_i hz
      have := (h.appE hc _ _).1 hz
      exact h.to _ (put_used hr _ _ (by simp only [List.length_append]; omega)) (by have := length_aput x.nm ((s.at x.nm).1 ++ x.b, (s.at x.nm).2) s.fs; omega)
    · exact hkeep
  split
  · unfold mTrunc
    split
    · refine h.to _ (put_used hr _ _ ?_) (by have := length_aput x.nm (firstA (s.at x.nm) x.n) s.fs; omega)
      have := h.used
      simp only [firstA, List.length_take]; omega
    · exact hkeep
  split
  · unfold mDelete
    split
    · refine h.to _ ?_ (by have := length_adel x.nm s.fs; omega)
      have := asum_adel (k := x.nm) (fun y : File => y.1.length) hr
      have hu := h.used
      unfold St.used at hu
      show asum (fun y : File => y.1.length) (adel x.nm s.fs) ≤ c
      omega
    · exact hkeep
  · exact hkeep
end
theorem read_at {s : St} (hp : s.power = -1) (k : Key) : mRead s k = (s.at k).1 := by
  unfold mRead St.err St.at
  rw [hp]
  cases e : aget k s.fs with
  | none => simp
  | some f => simp
/-- What is read behind an append. -/
theorem read_app {s : St} (hp : s.power = -1) (k : Key) (b : List UInt8) (h : appE s k b = 0) : mRead (mAppend s k b) k = mRead s k ++ b := by
  unfold mAppend
  rw [if_pos h, read_at hp]
  have e1 : (s.to (aput k ((s.at k).1 ++ b, (s.at k).2) s.fs)).power = -1 := by show spent s.power = -1; rw [hp]; rfl
  rw [read_at e1]
  show (Option.getD (aget k (aput k ((s.at k).1 ++ b, (s.at k).2) s.fs)) ([], 0)).1 = _
  rw [aget_aput_same]; rfl
end Go.Proofs.Ytahikcjgnnmnbaa
