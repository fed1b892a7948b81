/- Walks over frames that are held as an array with some slots known: for functions of many slots. -/
import Derived.Test.YtphcnjbiojdalaaGreatDoorLib
import Derived.Test.YtphcnjbiojdalaaGreatDoorProg
import Derived.Orders
import Derived.Deep.Cut
import Derived.LoopN
namespace Go.Proofs.YtphcnjbiojdalaaGreatDoor
open Go.RowKit
set_option linter.unusedVariables false

theorem wp_abs {P : Program} {s : Code} {Q : Exit → Act → World → Prop} {T : Array Value} {ds : List Deferred} {w : World} (F : Array Value → Prop) (hF : F T) (h : ∀ T', F T' → s.wp P Q ⟨T', ds⟩ w) : s.wp P Q ⟨T, ds⟩ w := h T hF
theorem rounds_abs {P : Program} {s : Code} {n : Nat} {Q : Exit → Act → World → Prop} {T : Array Value} {ds : List Deferred} {w : World} (F : Array Value → Prop) (hF : F T) (h : ∀ T', F T' → Code.rounds P s Q n ⟨T', ds⟩ w) : Code.rounds P s Q n ⟨T, ds⟩ w := h T hF
theorem getD_set (T : Array Value) (i j : Nat) (v : Value) (h : i < T.size) : (T.setIfInBounds i v).getD j undef = if i = j then v else T.getD j undef := by
  simp only [Array.getD_eq_getD_getElem?, Array.getElem?_setIfInBounds]
  by_cases e : i = j
  · subst e; simp [h]
  · simp [e]
/-- A beginning of a region's operations, and what is so behind it. -/
def wpToR (P : Program) (ops : Array Oper) (Q : Exit → Act → World → Prop) (R : Act → World → Prop) : List Oper → Act → World → Prop
  | [], a, w => R a w
  | o :: rest, a, w => if Region.wanted o (yielded ops a.tmps) then o.wp P a w (wpToR P ops Q R rest) Q else wpToR P ops Q R rest (a.put o.dst undef) w
structure wpTo (P : Program) (ops : Array Oper) (Q : Exit → Act → World → Prop) (R : Act → World → Prop) (l : List Oper) (a : Act) (w : World) : Prop where
  out : wpToR P ops Q R l a w
section
variable {P : Program} {ops : Array Oper} {Q : Exit → Act → World → Prop} {R : Act → World → Prop} {w : World} {rest : List Oper} {o : Oper} {T : Array Value} {ds : List Deferred}
theorem wpTo_list : ∀ (l m : List Oper) (a : Act) (w : World), wpToR P ops Q R l a w → (∀ a' w', R a' w' → wpList P ops Q m a' w') → wpList P ops Q (l ++ m) a w
  | [], m, a, w, h, k => k a w h
  | o :: l, m, a, w, h, k => by
    rw [List.cons_append]
    refine wpList_step fun K hK => ?_
    unfold wpToR at h
    split
    · rename_i hw
      rw [if_pos hw] at h
      exact Oper.wp_mono (fun a' w' hh => hK a' w' (wpTo_list l m a' w' hh k)) h
    · rename_i hw
      rw [if_neg hw] at h
      exact hK _ _ (wpTo_list l m _ w h k)
theorem wpList_cutAt {l : List Oper} {a : Act} (n : Nat) (R : Act → World → Prop) (first : wpTo P ops Q R (l.take n) a w) (rest : ∀ a' w', R a' w' → wpList P ops Q (l.drop n) a' w') : wpList P ops Q l a w := by
  have := wpTo_list (l.take n) (l.drop n) a w first.out rest
  rwa [List.take_append_drop] at this
theorem wpTo_nil {a : Act} (h : R a w) : wpTo P ops Q R [] a w := ⟨h⟩
theorem wpTo_plain {a : Act} (hg : o.guard = none) (h : ∀ K : Act → World → Prop, (∀ a w, wpTo P ops Q R rest a w → K a w) → o.wp P a w K Q) : wpTo P ops Q R (o :: rest) a w := by
  refine ⟨?_⟩
  unfold wpToR
  rw [if_pos (by simp [Region.wanted, hg])]
  exact Oper.wp_mono (fun a w hh => hh.out) (h (fun a w => wpTo P ops Q R rest a w) (fun _ _ h => h))
theorem wanted_at (j d : Nat) (b : Bool) (hg : o.guard = some (j, true)) (hd : (ops[j]?).bind (·.dst) = some d) (hs : d < T.size) (hv : T.getD d undef = .bool b) : Region.wanted o (yielded ops T) = b := by
  unfold Region.wanted yielded
  have h : T[d]? = some (.bool b) := by
    rw [Array.getD_eq_getD_getElem?, Array.getElem?_eq_getElem hs, Option.getD_some] at hv
    rw [Array.getElem?_eq_getElem hs, hv]
  simp only [hg, hd, Option.bind_some, h]
  cases b <;> rfl
theorem wpTo_go (j d : Nat) (hg : o.guard = some (j, true)) (hd : (ops[j]?).bind (·.dst) = some d) (hs : d < T.size) (hv : T.getD d undef = .bool true) (h : ∀ K : Act → World → Prop, (∀ a w, wpTo P ops Q R rest a w → K a w) → o.wp P ⟨T, ds⟩ w K Q) : wpTo P ops Q R (o :: rest) ⟨T, ds⟩ w := by
  refine ⟨?_⟩
  unfold wpToR
  rw [if_pos (wanted_at j d true hg hd hs hv)]
  exact Oper.wp_mono (fun a w hh => hh.out) (h (fun a w => wpTo P ops Q R rest a w) (fun _ _ h => h))
theorem wpTo_skip (j d : Nat) (hg : o.guard = some (j, true)) (hd : (ops[j]?).bind (·.dst) = some d) (hs : d < T.size) (hv : T.getD d undef = .bool false) (h : wpTo P ops Q R rest ((⟨T, ds⟩ : Act).put o.dst undef) w) : wpTo P ops Q R (o :: rest) ⟨T, ds⟩ w := by
  refine ⟨?_⟩
  unfold wpToR
  rw [if_neg (by rw [wanted_at j d false hg hd hs hv]; simp)]
  exact h.out
end
end Go.Proofs.YtphcnjbiojdalaaGreatDoor
