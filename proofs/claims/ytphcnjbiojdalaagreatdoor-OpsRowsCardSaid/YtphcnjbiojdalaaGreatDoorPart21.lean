/- An operation laid anew into a slice of our own; two that are changed for one another. -/
import Derived.Test.YtphcnjbiojdalaaGreatDoorPart14
import Derived.Deep.MidRow
import Derived.Test.YtphcnjbiojdalaaGreatDoorPart6
namespace Go.Proofs.YtphcnjbiojdalaaGreatDoor
open Go.RowKit Go.Maps
set_option linter.unusedVariables false
set_option linter.unusedSimpArgs false

theorem OwnP.sets {W : World} {v : Value} {n : Nat} {g cap : Nat} (e : v = .slice (some ⟨g, 0, none⟩) n cap) : ∀ (vs : List Value) (i : Nat) {w : World} {xs : List Value}, OwnP W w v n xs → i + vs.length ≤ n * 22 → (∀ y ∈ vs, y.oneCell' = true) → OwnP W (w.setCells g i vs) v n ((vs.zipIdx i).foldl (fun c x => c.set x.2 x.1) xs)
  | [], _, _, _, h, _, _ => h
  | y :: vs, i, w, xs, h, hi, hy => by
    rw [List.length_cons] at hi
    exact OwnP.sets e vs (i + 1) (h.set e i (by omega) y (hy y (List.mem_cons_self ..))) (by omega) (fun z hz => hy z (List.mem_cons_of_mem _ hz))
theorem sets_append (a b : List Value) : ∀ (vs cs : List Value) (i : Nat), i = a.length → cs.length = vs.length → (vs.zipIdx i).foldl (fun c x => c.set x.2 x.1) (a ++ cs ++ b) = a ++ vs ++ b := by
  intro vs
  induction vs generalizing a with
  | nil =>
    intro cs i _ hc
    have : cs = [] := List.length_eq_zero_iff.1 hc
    subst this
    rfl
  | cons y vs ih =>
    intro cs i hi hc
    cases cs with
    | nil => cases hc
    | cons z cs =>
      have e : (a ++ z :: cs ++ b).set i y = (a ++ [y]) ++ cs ++ b := by
        subst hi
        simp
      have := ih (a ++ [y]) cs (i + 1) (by simp [hi]) (by simpa using hc)
      show (vs.zipIdx (i + 1)).foldl _ ((a ++ z :: cs ++ b).set i y) = _
      rw [e, this]
      simp
theorem cellsP_split (l : List O) (j : Nat) (hj : j < l.length) (x : O) : cellsP l = cellsP (l.take j) ++ cellP l[j] ++ cellsP (l.drop (j + 1)) ∧ cellsP (l.set j x) = cellsP (l.take j) ++ cellP x ++ cellsP (l.drop (j + 1)) := by
  constructor
  · have e : l = l.take j ++ l[j] :: l.drop (j + 1) := by rw [List.getElem_cons_drop, List.take_append_drop]
    have := congrArg cellsP e
    rw [cellsP_append, cellsP_cons, ← List.append_assoc] at this
    exact this
  · rw [List.set_eq_take_append_cons_drop, if_pos hj, cellsP_append, cellsP_cons, ← List.append_assoc]
theorem NewP.setRow {W w : World} {v : Value} {l : List O} (h : NewP W w v l) {g cap : Nat} (e : v = .slice (some ⟨g, 0, none⟩) l.length cap) (j : Nat) (hj : j < l.length) (x : O) : NewP W (w.setCells g (j * 22) x.vals.toList) v (l.set j x) := by
  have h2 : OwnP W (w.setCells g (j * 22) x.vals.toList) v l.length (((cellP x).zipIdx (j * 22)).foldl (fun c x => c.set x.2 x.1) (cellsP l)) := OwnP.sets e (cellP x) (j * 22) h (by rw [cellP_len]; omega) (fun y hy => cellsP_one [x] y (by simpa [cellsP] using hy))
  have hs := cellsP_split l j hj x
  rw [hs.1, sets_append _ _ _ _ _ (by rw [cellsP_len, List.length_take]; congr 1; omega) (by rw [cellP_len, cellP_len]), ← hs.2] at h2
  show OwnP W _ v (l.set j x).length _
  rw [List.length_set]
  exact h2
theorem swap_perm (l : List O) (i k : Nat) (hi : i < l.length) (hk : k < l.length) : ((l.set i l[k]).set k l[i]).Perm l := List.set_set_perm hi hk
end Go.Proofs.YtphcnjbiojdalaaGreatDoor

/- The document's Less. -/
namespace Go.Proofs.YtphcnjbiojdalaaGreatDoor
open Go.RowKit Go.Maps
set_option linter.unusedVariables false
set_option linter.unusedSimpArgs false
set_option maxRecDepth 100000

set_option maxHeartbeats 800000 in
theorem rless_any (a b c d : Int) (w : World) : Calls Tryz.prog 56 #[idV a b, idV c d] w fun e w' => e = .returned (.bool (lessI a b c d)) ∧ w' = (w.alloc (idO a b)).alloc (idO c d) := by
  unfold lessI
  by_cases h1 : a = c
  · subst h1
    rw [if_pos rfl]
    go_enter Tryz.func56, Tryz.ntmps56
    go_wp2_with fail
    go_ret
    exact ⟨by simp, rfl⟩
  · rw [if_neg h1]
    by_cases h2 : a < c
    · go_enter Tryz.func56, Tryz.ntmps56
      go_wp2_with fail
      go_ret
      exact ⟨by simp [h2], rfl⟩
    · go_enter Tryz.func56, Tryz.ntmps56
      go_wp2_with fail
      go_ret
      exact ⟨by simp; omega, rfl⟩

end Go.Proofs.YtphcnjbiojdalaaGreatDoor
