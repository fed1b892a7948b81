/- The contract of utf.place at its two uses: its words. -/
import Derived.Test.YteemjbnhiiadaaaDoorUtfLen16
namespace Go.Proofs.YteemjbnhiiadaaaDoor
open Go.RowKit Go.Shelf
set_option linter.unusedVariables false
set_option maxRecDepth 100000
attribute [local go_sem] Oper.semAt_some

def one1 (_ : Nat) : Nat := 1
theorem one_one (r : Nat) (w : World) : Calls Tryd.prog 34 #[.int .i32 (r : Int)] w fun e w' => e = .returned (.int .i64 (one1 r : Int)) ∧ w' = w := one_any r w
def ssum (f : Nat → Nat) (l : List Nat) : Nat := (l.map f).sum
/-- Where the count stops: behind k runes, the first place that is n or above, or at the end. -/
def StopAt (f : Nat → Nat) (n : Int) (rs : List Nat) (k : Nat) : Prop := k ≤ rs.length ∧ (∀ j, j < k → (ssum f (rs.take j) : Int) < n) ∧ (k = rs.length ∨ n ≤ (ssum f (rs.take k) : Int))
theorem enumR_take (k m : Nat) (l : List Nat) : (enumR k l).take m = enumR k (l.take m) := by
  induction l generalizing k m with
  | nil => simp [enumR]
  | cons r l ih => cases m with
    | zero => simp [enumR]
    | succ m => simp [enumR, ih]
theorem sumP_take (f : Nat → Nat) (m : Nat) (l : List Nat) : sumP f ((enumR 0 l).take m) = ssum f (l.take m) := by
  rw [enumR_take, sumP_enum]; rfl
/-- All places ahead are below n. -/
def Under (f : Nat → Nat) (n : Int) (pre : List (Nat × Nat)) : Prop := ∀ j, j < pre.length → (sumP f (pre.take j) : Int) < n
theorem under_snoc {f : Nat → Nat} {n : Int} {pre : List (Nat × Nat)} {x : Nat × Nat} (h : Under f n pre) (hx : (sumP f pre : Int) < n) : Under f n (pre ++ [x]) := by
  intro j hj
  rw [List.length_append, List.length_singleton] at hj
  by_cases e : j < pre.length
  · rw [List.take_append_of_le_length (by omega)]; exact h j e
  · rw [show j = pre.length from by omega, List.take_left]; exact hx
theorem stop_end {f : Nat → Nat} {n : Int} {rs : List Nat} (h : Under f n (enumR 0 rs)) : StopAt f n rs rs.length := by
  refine ⟨Nat.le_refl _, fun j hj => ?_, .inl rfl⟩
  have := h j (by rw [enumR_len]; exact hj)
  rwa [sumP_take] at this
theorem stop_mid {f : Nat → Nat} {n : Int} {rs : List Nat} {pre : List (Nat × Nat)} {x : Nat × Nat} (hp : pre ++ [x] <+: enumR 0 rs) (h : Under f n pre) (hn : n ≤ (sumP f pre : Int)) : StopAt f n rs pre.length ∧ pre = (enumR 0 rs).take pre.length := by
  have hp' : pre <+: enumR 0 rs := (List.prefix_append _ _).trans hp
  have ht : pre = (enumR 0 rs).take pre.length := List.prefix_iff_eq_take.1 hp'
  have hl := hp.length_le
  rw [enumR_len, List.length_append] at hl
  refine ⟨⟨by omega, fun j hj => ?_, .inr ?_⟩, ht⟩
  · have := h j hj
    rw [ht, List.take_take, Nat.min_eq_left (by omega), sumP_take] at this
    exact this
  · rw [ht, sumP_take] at hn; exact hn
/-- What place answers. -/
def PlacePost (f g : Nat → Nat) (n : Int) (l : List UInt8) (w : World) (e : Ending) (w' : World) : Prop :=
  Touch (fun _ => False) w w' ∧ ((runesOf l = none ∧ e = .returned (.tuple #[.int .i64 0, .int .i64 31])) ∨
    ∃ rs k, runesOf l = some rs ∧ StopAt f n rs k ∧ ((((ssum f (rs.take k) : Int) = n) ∧ e = .returned (.tuple #[.int .i64 (ssum g (rs.take k) : Int), .int .i64 0])) ∨ (((ssum f (rs.take k) : Int) ≠ n) ∧ e = .returned (.tuple #[.int .i64 0, .int .i64 30]))))
theorem one1_bd (r : Nat) : one1 r ≤ 2 := by unfold one1; omega
/-- A round that leaves the loop: the place is there, or passed. -/
def PlaceX (f g : Nat → Nat) (n : Int) (B0 B1 : Nat) (w : World) (c : Code) (xs : List (Nat × Nat)) (W : World) : Prop :=
  (c = .exit 0 ∧ ∃ pre x, xs = pre ++ [x] ∧ Under f n pre ∧ n ≤ (sumP f pre : Int) ∧ Boxed W B0 3 (.int .i64 (sumP f pre : Int)) ∧ Boxed W (B0 + 1) 3 (.int .i64 (sumP g pre : Int))) ∧ (Boxed W B1 3 (.int .i64 n) ∧ Below w.heap.size w W)
theorem placeX_own (f g : Nat → Nat) (n : Int) (B0 B1 N : Nat) (w : World) (hN : w.heap.size ≤ N) (c : Code) : OwnFrom N (PlaceX f g n B0 B1 w c) := by
  refine OwnFrom.and (fun xs A B row hs hg hr => ?_) (OwnFrom.and (Own.from (boxed_own _ _ (fun _ => .int .i64 n)) _) (ownFrom_below (Nat.le_refl _) hN))
  obtain ⟨hc, pre, x, he, hu, hn, h1, h2⟩ := hs
  have hr' : ∀ r, row = some r → ∃ o : Obj, A.heap[r]? = some o ∧ o.isCells = false := fun r e => (hr r e).2
  exact ⟨hc, pre, x, he, hu, hn, boxed_own _ _ (fun _ : Unit => _) () A B row h1 hg hr', boxed_own _ _ (fun _ : Unit => _) () A B row h2 hg hr'⟩
theorem boxed_keep {w w' : World} {B : Nat} {t : TypeId} {v : Value} (h : Boxed w B t v) (hT : Touch (fun _ => False) w w') : Boxed w' B t v := (hT.block B h.lt id).trans h
end Go.Proofs.YteemjbnhiiadaaaDoor
