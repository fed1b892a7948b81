/- The contract of utf.Len16. -/
import Derived.Test.YteemjbnhiiadaaaDoorUtfLen
import Derived.Test.YteemjbnhiiadaaaDoorUtfSmall
namespace Go.Proofs.YteemjbnhiiadaaaDoor
open Go.RowKit Go.Shelf
set_option linter.unusedVariables false
set_option maxRecDepth 100000
attribute [local go_sem] Oper.semAt_some

def sumP (f : Nat → Nat) (l : List (Nat × Nat)) : Nat := (l.map fun p => f p.2).sum
theorem sumP_snoc (f : Nat → Nat) (l : List (Nat × Nat)) (x : Nat × Nat) : sumP f (l ++ [x]) = sumP f l + f x.2 := by simp [sumP]
theorem sumP_enum (f : Nat → Nat) (k : Nat) (l : List Nat) : sumP f (enumR k l) = (l.map f).sum := by
  induction l generalizing k with
  | nil => rfl
  | cons r l ih => simp only [enumR, sumP, List.map_cons, List.sum_cons]; rw [← ih (k + 1)]; rfl
theorem sumP_le (f : Nat → Nat) (hf : ∀ r, f r ≤ 2) (l : List (Nat × Nat)) : sumP f l ≤ 2 * l.length := by
  induction l with
  | nil => simp [sumP]
  | cons x l ih => have := hf x.2; simp only [sumP, List.map_cons, List.sum_cons, List.length_cons] at ih ⊢; omega

theorem boxed_drew {W : World} {B : Nat} {t : TypeId} {v : Value} (h : Boxed W B t v) : Boxed W.drew B t v := h
/-- A round that adds to a box, and draws its order. -/
theorem box_add {W w : World} {B T U N : Nat} (HX : Boxed W B 3 (.int .i64 (T : Int))) (HP : N = T + U) (h : T + U ≤ 9223372036854775807) (hB : Below w.heap.size w W) (hb : w.heap.size ≤ B) :
    KeepsOthers W (W.setCell ⟨B, 0, none⟩ (.int .i64 (IntKind.i64.wrap ((T : Int) + (U : Int))))).drew ∧ KeepsWalks W (W.setCell ⟨B, 0, none⟩ (.int .i64 (IntKind.i64.wrap ((T : Int) + (U : Int))))).drew ∧
      Boxed (W.setCell ⟨B, 0, none⟩ (.int .i64 (IntKind.i64.wrap ((T : Int) + (U : Int))))).drew B 3 (.int .i64 (N : Int)) ∧ Below w.heap.size w (W.setCell ⟨B, 0, none⟩ (.int .i64 (IntKind.i64.wrap ((T : Int) + (U : Int))))).drew := by
  have hk : KeepsOthers W (W.setCell ⟨B, 0, none⟩ (.int .i64 (IntKind.i64.wrap ((T : Int) + (U : Int))))).drew := (KeepsOthers.setCell _ _ _).trans (KeepsOthers.drew _)
  refine ⟨hk, walks_of hk, ?_, (hB.setCell (p := ⟨B, 0, none⟩) hb _).drew⟩
  rw [IntWalk.i64_in _ (by omega), HP]
  have := HX.set (.int .i64 ((T : Int) + (U : Int)))
  rw [show ((T : Int) + (U : Int)) = ((T + U : Nat) : Int) from by omega] at this ⊢
  exact this

set_option maxHeartbeats 2000000 in
theorem utf_len16 (s : ByteArray) (hs : s.size ≤ 2305843009213693952) (w : World) (hT : TabsU w) : Calls Tryd.prog 14 #[.string s] w fun e w' => e = .returned (.int .i64 (sum16 (rsOf s.data.toList) : Int)) ∧ Touch (fun _ => False) w w' := by
  have hln : (rsOf s.data.toList).length ≤ s.size := by have := rsOf_len s.data.toList; simpa using this
  refine (callsIn_wide (n := 3)).1 ?_
  refine callsIn_of_wp_marks Tryd.func14 rfl trivial ?_ rfl
  simp only [Tryd.ntmps14, List.size_toArray, List.length_cons, List.length_nil, Nat.reduceAdd, Nat.reduceSub, Array.replicate_succ, Array.replicate_zero, List.push_toArray, List.append_toArray, List.nil_append, List.cons_append]
  gi_wp2_with fail
  refine ⟨trivial, (callsIn_wide.2 (utf_runes s _)).mono ?_⟩
  rintro e w1 ⟨rfl, rfl⟩
  gi_wp2
  have hs0 := (Boxed.new w 3 (.int .i64 0)).alloc (.cells #[.string s] 9)
  have hb := Boxed.new (w.alloc (.cells #[.int .i64 0] 3)) 9 (.string s)
  rw [World.size_alloc] at hb
  have hB0 : Below w.heap.size w ((w.alloc (.cells #[.int .i64 0] 3)).alloc (.cells #[.string s] 9)) := ((Below.refl _ w).alloc (Nat.le_refl _) _).alloc (by simp) _
  refine wpIn_rangeFunc_ownF rfl (by decide) (gf := 30) (lb := #[.pointer (some ⟨w.heap.size + 1, 0, none⟩)]) rfl trivial (enters_of Tryd.func30 (by kernel_rfl) rfl)
    (iter_of _ (w.heap.size + 1) s (by omega) _ (hT.keep (Touch.ofBelow hB0)) hb.cell) walksK_t walksK_b (Below.refl _ _) (fun _ => rfl)
    (fun pre W => Boxed W w.heap.size 3 (.int .i64 (sumP un16 pre : Int)) ∧ Below w.heap.size w W)
    (fun _ _ _ => False)
    (OwnFrom.and (Own.from (boxed_own _ _ _) _) (ownFrom_below (Nat.le_refl _) (by simp; omega)))
    (fun _ _ _ _ _ hs _ _ => hs)
    ⟨hs0, hB0⟩
    (fun x => { tmps := #[.string s, undef, .int .i64 0, .pointer (some ⟨w.heap.size, 0, none⟩), undef, .int .i32 (x.2 : Int), .string s, .func (.func 30) #[] #[.pointer (some ⟨w.heap.size + 1, 0, none⟩)], .int .i64 (x.1 : Int), .int .i32 (x.2 : Int), undef, undef, undef, undef, undef], defers := [] }) ?assign ?body ?done ?stop
  case assign =>
    intro l x W K hK
    gi_wp2
    first | exact hK | simpa [enc2] using hK
  case body =>
    rintro l pre x W ⟨hX, hB⟩ hlt
    have hsb := sumP_le un16 (fun r => (un16_bd r).2) pre
    have hub := un16_bd x.2
    have hlt2 : sumP un16 pre + un16 x.2 ≤ 9223372036854775807 := by omega
    have hc := hX.cell
    have hf := hX.frozen
    have HX : Hid (Boxed W w.heap.size 3 (.int .i64 (sumP un16 pre : Int))) := hX
    have HP : Hid (sumP un16 (pre ++ [x]) = sumP un16 pre + un16 x.2) := sumP_snoc _ _ _
    have HU : Hid (∀ w, Calls Tryd.prog 27 #[.int .i32 (x.2 : Int)] w fun e w' => e = .returned (.int .i64 (un16 x.2 : Int)) ∧ w' = w) := fun w => units16_any x.2 w
    clear hX hsb hub hlt
    generalize un16 x.2 = U at *
    generalize sumP un16 pre = T at *
    have hmx : Tryd.prog.follows .mixedOrders = true := by kernel_rfl
    gi_wp2
    gi_region_with_o (refine ⟨trivial, ?_⟩; gi_at_call 27; refine (CallsIn.inRound l (callsIn_wide.2 (HU.out _))).mono ?_; rintro e w' ⟨rfl, rfl⟩)
    all_goals gi_wp2
    all_goals exact box_add HX.out HP.out hlt2 hB (by simp)
  case done =>
    rintro D ys W hD rfl ⟨hX, hB⟩ hK
    rw [sumP_enum] at hX
    have hc := hX.cell
    gi_wp2
    refine ⟨by simp, .inl ⟨_, _, rfl, run_takeDeferred hK, ?_⟩⟩
    exact ⟨_, results_tmp rfl _ _ _, rfl, Touch.ofBelow (hB.trans (belowK_b (w := w) (Nat.le_refl _) W D _ _ (by simp at hD; omega) hK rfl rfl))⟩
  case stop =>
    rintro D c pre W _ _ h _
    exact h.elim
end Go.Proofs.YteemjbnhiiadaaaDoor
