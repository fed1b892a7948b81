/- Package seq's row: what hangs where, counted anew. -/
import Derived.Test.YtcolbgbmnmkogabSeqR1
namespace Go.Proofs.Ytcolbgbmnmkogab
open Go.RowKit
set_option linter.unusedVariables false
set_option linter.unusedSimpArgs false
set_option maxRecDepth 100000

def gt (L : List Th) (i : Nat) : Th := (L[i]?).getD ⟨0, 0, 0, 0, 0⟩
theorem gt_of {L : List Th} {i : Nat} (h : i < L.length) : gt L i = L[i] := by unfold gt; rw [List.getElem?_eq_getElem h]; rfl
/-- One cell laid anew. -/
def st (L : List Th) (i f : Nat) (y : Int) : List Th := L.set i ((gt L i).put f y)
theorem st_len (L : List Th) (i f : Nat) (y : Int) : (st L i f y).length = L.length := List.length_set
theorem gt_st {L : List Th} {i j f : Nat} {y : Int} (h : i < L.length) : gt (st L i f y) j = if j = i then (gt L i).put f y else gt L j := by
  unfold st
  by_cases e : j = i
  · subst e
    rw [if_pos rfl]
    unfold gt
    rw [List.getElem?_set_self h]
    rfl
  · rw [if_neg e]
    show ((L.set i _)[j]?).getD _ = _
    rw [List.getElem?_set_ne (by omega)]
    rfl
theorem Things.st {w : World} {b k g cap : Nat} {L : List Th} (h : Things w b k g cap L) (i : Nat) (hi : i < L.length) (f : Nat) (hf : f < 5) (y : Int) (hy : 0 ≤ y ∨ 3 ≤ f) : Things (w.setCell ⟨g, i * 5 + f, none⟩ (iV y)) b k g cap (Go.Proofs.Ytcolbgbmnmkogab.st L i f y) := by
  unfold Go.Proofs.Ytcolbgbmnmkogab.st
  rw [gt_of hi]
  exact h.put i hi f hf y hy
theorem Things.cellAt {w : World} {b k g cap : Nat} {L : List Th} (h : Things w b k g cap L) (i : Nat) (hi : i < L.length) (f : Nat) (hf : f < 5) : ∃ v, w.cell? ⟨g, i * 5 + f, none⟩ = some v := by
  have hl := cellsH_len L
  have : i * 5 + f < (cellsH L).length := by omega
  exact ⟨_, h.at i hi f _ (List.getElem?_eq_getElem this) hf⟩
theorem Touch.cellG {w w' : World} {g : Nat} (t : Touch (· = g) w w') (j : Nat) (y : Value) : Touch (· = g) w (w'.setCell ⟨g, j, none⟩ y) := t.setCell _ _ (fun _ => rfl)
/-- i hung on a side of u. -/
def hangL (L : List Th) (u s i : Nat) : List Th := if i = 0 then st L u (1 + s) (i : Int) else st (st L u (1 + s) (i : Int)) i 0 (u : Int)
theorem hangL_len (L : List Th) (u s i : Nat) : (hangL L u s i).length = L.length := by
  unfold hangL
  split <;> simp only [st_len]
set_option maxHeartbeats 4000000 in
theorem hang_any {w : World} {b k g cap : Nat} {L : List Th} (h : Things w b k g cap L) (u s i : Nat) (hu : u < L.length) (hs : s < 2) (hi : i < L.length) : Calls Try.prog 73 #[rP b k, iV (u : Int), iV (s : Int), iV (i : Int)] w fun e w' => e = .returned (.tuple #[]) ∧ Things w' b k g cap (hangL L u s i) ∧ Touch (· = g) w w' := by
  have hc := h.cell
  obtain ⟨v0, c0⟩ := h.cellAt u hu (1 + s) (by omega)
  have c0' : w.cell? ⟨g, u * 5 + 1 + s, none⟩ = some v0 := by rw [Nat.add_assoc]; exact c0
  have z0 : w.frozen? ⟨g, u * 5 + 1 + s, none⟩ = false := h.free _
  have l0 : (u : Int) < (L.length : Int) := by omega
  have l1 : (0 : Int) ≤ (u : Int) := by omega
  have l2 : (s : Int) < 2 := by omega
  have l3 : (0 : Int) ≤ (s : Int) := by omega
  have l4 : (i : Int) < (L.length : Int) := by omega
  have l5 : (0 : Int) ≤ (i : Int) := by omega
  obtain ⟨W1, hW1⟩ : ∃ W, Hid (W = w.setCell ⟨g, u * 5 + 1 + s, none⟩ (iV (i : Int))) := ⟨_, Eq.refl _⟩
  have H1 : Hid (Things W1 b k g cap (st L u (1 + s) (i : Int)) ∧ Touch (· = g) w W1) := by
    rw [hW1.out, Nat.add_assoc]
    exact ⟨h.st u hu (1 + s) (by omega) _ (.inl l5), (Touch.refl _ _).cellG _ _⟩
  clear c0 h
  go_enter Try.func73, Try.ntmps73
  go_upto_region 1 with fail
  rw [← hW1.out]
  clear hW1 c0' z0 hc
  by_cases hi0 : i = 0
  · have e0 : ((i : Int) != 0) = false := by simp [hi0]
    have HF : Hid (Things W1 b k g cap (hangL L u s i) ∧ Touch (· = g) w W1) := by
      unfold hangL
      rw [if_pos hi0]
      exact H1.out
    clear hi0
    go_wp2_with fail
    go_end0
    exact ⟨rfl, HF.out⟩
  · have e0 : ((i : Int) != 0) = true := by simp [hi0]
    have hl1 : (st L u (1 + s) (i : Int)).length = L.length := st_len _ _ _ _
    have hc := H1.out.1.cell
    rw [hl1] at hc
    obtain ⟨v1, c1⟩ := H1.out.1.cellAt i (by omega) 0 (by omega)
    have z1 : W1.frozen? ⟨g, i * 5, none⟩ = false := H1.out.1.free _
    have c1' : W1.cell? ⟨g, i * 5, none⟩ = some v1 := c1
    have HF : Hid (Things (W1.setCell ⟨g, i * 5, none⟩ (iV (u : Int))) b k g cap (hangL L u s i) ∧ Touch (· = g) w (W1.setCell ⟨g, i * 5, none⟩ (iV (u : Int)))) := by
      unfold hangL
      rw [if_neg hi0]
      exact ⟨H1.out.1.st i (by omega) 0 (by omega) _ (.inl l1), H1.out.2.cellG _ _⟩
    clear hi0 hl1 c1 H1
    go_wp2_with fail
    go_end0
    exact ⟨rfl, HF.out⟩
/-- Its whole counted anew. -/
def countL (L : List Th) (i : Nat) : List Th := st L i 4 ((gt L (gt L i).d0).whole + (gt L i).long + (gt L (gt L i).d1).whole)
end Go.Proofs.Ytcolbgbmnmkogab
