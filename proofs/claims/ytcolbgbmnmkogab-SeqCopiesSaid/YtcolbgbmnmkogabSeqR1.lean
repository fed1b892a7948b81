/- Package seq's row: the small functions. -/
import Derived.Test.YtcolbgbmnmkogabChecked
import Derived.Test.YtcolbgbmnmkogabSeqH
import Derived.BigRegion
import Derived.Sort.Grow
import Derived.Deep.Draws
import Derived.Deep.LoopGhost
import Derived.Deep.RegionHeld3
import Derived.Deep.QuietTactic
import Derived.BigQuiet
import Derived.Deep.DeepCutAuto
namespace Go.Proofs.Ytcolbgbmnmkogab
open Go.RowKit
set_option linter.unusedVariables false
set_option linter.unusedSimpArgs false
set_option maxRecDepth 100000

abbrev rP (b k : Nat) : Value := .pointer (some ⟨b, k, none⟩)
set_option maxHeartbeats 2000000 in
theorem top_any {w : World} {b k g cap : Nat} {L : List Th} (h : Things w b k g cap L) (h0 : 0 < L.length) : Calls Try.prog 47 #[rP b k] w fun e w' => e = .returned (iV L[0].d1) ∧ w' = w := by
  have hc := h.cell
  have t0 := h.th 0 h0
  have c2 : w.cell? ⟨g, 2, none⟩ = some (iV L[0].d1) := by have := t0.c2; simpa using this
  have l0 : (0 : Int) < (L.length : Int) := by omega
  generalize L[0] = t at *
  clear t0 h
  go_enter Try.func47, Try.ntmps47
  go_wp2_with fail
  go_ret
  exact ⟨rfl, rfl⟩
set_option maxHeartbeats 2000000 in
theorem lengthOf_any {w : World} {b k g cap : Nat} {L : List Th} (h : Things w b k g cap L) (i : Nat) (hi : i < L.length) : Calls Try.prog 29 #[rP b k, iV (i : Int)] w fun e w' => e = .returned (iV L[i].long) ∧ w' = w := by
  have hc := h.cell
  have c3 := (h.th i hi).c3
  have l0 : (i : Int) < (L.length : Int) := by omega
  have l1 : (0 : Int) ≤ (i : Int) := by omega
  generalize L[i] = t at *
  clear h
  go_enter Try.func29, Try.ntmps29
  go_wp2_with fail
  go_ret
  exact ⟨rfl, rfl⟩
set_option maxHeartbeats 4000000 in
theorem length_any {w : World} {b k g cap : Nat} {L : List Th} (h : Things w b k g cap L) (h0 : 0 < L.length) (hr : L[0].d1 < L.length) : Calls Try.prog 27 #[rP b k] w fun e w' => e = .returned (iV L[L[0].d1].whole) ∧ Touch (fun _ => False) w w' := by
  have HT : Hid (∀ W, Things W b k g cap L → Calls Try.prog 47 #[rP b k] W fun e w' => e = .returned (iV L[0].d1) ∧ w' = W) := fun W hW => top_any hW h0
  have hc := h.cell
  have c4 := (h.th _ hr).c4
  have l0 : (L[0].d1 : Int) < (L.length : Int) := by omega
  have l1 : (0 : Int) ≤ (L[0].d1 : Int) := by omega
  have HH : Hid (Things w.drew b k g cap L) := h.keep (S := fun _ => False) (Touch.refl _ _).drew id id
  generalize L[L[0].d1] = t at *
  generalize L[0].d1 = i at *
  clear h
  go_enter Try.func27, Try.ntmps27
  go_upto_region 1 with fail
  go_region_with (go_at_call 47; (with_reducible refine (HT.out _ HH.out).mono ?_); rintro e w' ⟨rfl, rfl⟩)
  all_goals (go_wp2_with fail; go_ret; exact ⟨rfl, (Touch.refl _ _).drew⟩)
set_option maxHeartbeats 4000000 in
theorem side_any {w : World} {b k g cap : Nat} {L : List Th} (h : Things w b k g cap L) (i : Nat) (hi : i < L.length) (hu : L[i].up < L.length) : Calls Try.prog 51 #[rP b k, iV (i : Int)] w fun e w' => e = .returned (iV (if L[L[i].up].d1 = i then 1 else 0)) ∧ Touch (fun _ => False) w w' := by
  have hc := h.cell
  have c0 := (h.th i hi).c0
  have c2 := (h.th _ hu).c2
  have l0 : (i : Int) < (L.length : Int) := by omega
  have l1 : (0 : Int) ≤ (i : Int) := by omega
  have l2 : (L[i].up : Int) < (L.length : Int) := by omega
  have l3 : (0 : Int) ≤ (L[i].up : Int) := by omega
  generalize L[L[i].up] = t at *
  generalize L[i].up = u at *
  clear h
  go_enter Try.func51, Try.ntmps51
  by_cases hd : t.d1 = i
  · have e1 : ((t.d1 : Int) == (i : Int)) = true := by rw [hd]; simp
    rw [if_pos hd]
    clear hd
    go_upto_region 1 with fail
    go_quiet (fail)
    go_wp2_with fail
    go_ret
    exact ⟨rfl, ⟨rfl, rfl, rfl, Nat.le_refl _, fun _ _ _ => rfl⟩⟩
  · have e1 : ((t.d1 : Int) == (i : Int)) = false := by simp; omega
    rw [if_neg hd]
    clear hd
    go_upto_region 1 with fail
    go_quiet (fail)
    go_wp2_with fail
    go_ret
    exact ⟨rfl, ⟨rfl, rfl, rfl, Nat.le_refl _, fun _ _ _ => rfl⟩⟩
end Go.Proofs.Ytcolbgbmnmkogab
