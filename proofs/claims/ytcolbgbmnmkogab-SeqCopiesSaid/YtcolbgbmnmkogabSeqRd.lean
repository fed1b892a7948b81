/- Package seq's row: add. -/
import Derived.Test.YtcolbgbmnmkogabTreU
namespace Go.Proofs.Ytcolbgbmnmkogab
open Go.RowKit
set_option linter.unusedVariables false
set_option linter.unusedSimpArgs false
set_option maxRecDepth 100000

set_option maxHeartbeats 2000000 in
theorem drawn_any (i : Int) (w : World) : Calls Try.prog 75 #[iV i] w fun e w' => (∃ v : Int, e = .returned (.int .u64 v)) ∧ w' = w := by
  go_enter Try.func75, Try.ntmps75
  go_wp2_with fail
  go_ret
  exact ⟨⟨_, rfl⟩, rfl⟩
/-- lift, at a row in its form. -/
theorem lift_seen {w : World} {b k g cap : Nat} {L : List Th} (h : Things w b k g cap L) {n x : Nat} {F : List Nat} {q : Nat → Int} {f : Fr} {c : List Fr} {a d : Tr} (hn : L.length = n) (hS : Seen (gt L) n x F q (f :: c) a d) (hs : (plug (f :: c) (.node a x d)).sum (gt L) ≤ 1152921504606846976) :
    Calls Try.prog 76 #[rP b k, iV (x : Int)] w fun e w' => e = .returned (.tuple #[]) ∧ (∃ L' a' d', Things w' b k g cap L' ∧ L'.length = n ∧ Seen (gt L') n x F q c a' d') ∧ Touch (· = g) w w' := by
  have hW : (gt L 0).whole = 0 := by rw [hS.ok.head]
  have hfit : ∀ y ∈ (plug (f :: c) (.node a x d)).flat, y < L.length := fun y hy => by rw [hn]; exact ((hS.ok.lab y).1 hy).2
  have hT := hS.ok.tame hs
  obtain ⟨a', d', hS'⟩ := hS.lift
  have fin : ∀ (e : Ending) (w' : World), (e = .returned (.tuple #[]) ∧ (∃ L', Things w' b k g cap L' ∧ L'.length = L.length ∧ gt L' = liftA (gt L) x) ∧ Touch (· = g) w w') → (e = .returned (.tuple #[]) ∧ (∃ L' a' d', Things w' b k g cap L' ∧ L'.length = n ∧ Seen (gt L') n x F q c a' d') ∧ Touch (· = g) w w') := by
    rintro e w' ⟨rfl, ⟨L', h1, h2, h3⟩, t⟩
    exact ⟨rfl, ⟨L', a', d', h1, by rw [h2]; exact hn, by rw [h3]; exact hS'⟩, t⟩
  cases f with
  | L u r =>
    have hd : (gt L 0).d1 = topC c u := by rw [hS.ok.head]; exact root_plug (.L u r :: c) (.node a x d)
    exact (lift_rowL h hS.ok.rep (apart_L hS.ok.nod hS.zero) hfit (by rw [hn]; exact hS.ok.n0) hW (fun e => by rw [hd, e]; rfl) hT).mono fin
  | R r u =>
    have hd : (gt L 0).d1 = topC c u := by rw [hS.ok.head]; exact root_plug (.R r u :: c) (.node a x d)
    exact (lift_rowR h hS.ok.rep (apart_R hS.ok.nod hS.zero) hfit (by rw [hn]; exact hS.ok.n0) hW (fun e => by rw [hd, e]; rfl) hT).mono fin
end Go.Proofs.Ytcolbgbmnmkogab
