/- (*seq.Seq).All$1's drawn region, within a round: its loads and its call of unit, in every order. -/
import Derived.Test.YtnbphdmpbjahhabPart21
import Derived.Test.YtnbphdmpbjahhabPart12
namespace Go.Proofs.Ytnbphdmpbjahhab
open Go.RowKit Go.Shelf
set_option linter.unusedVariables false
set_option linter.unusedSimpArgs false
set_option maxRecDepth 100000
attribute [local go_sem] Oper.semAt_some

abbrev all4 : Array Oper := #[{ dst := some 8, op := Go.Op.load 95 (Go.Operand.tmp 2), type := 95, pos := "seq.go:68", after := #[], guard := none }, { dst := some 9, op := Go.Op.load 3 (Go.Operand.tmp 3), type := 3, pos := "seq.go:68", after := #[], guard := none }, { dst := some 10, op := Go.Op.load 24 (Go.Operand.tmp 1), type := 24, pos := "seq.go:68", after := #[], guard := none }, { dst := some 11, op := Go.Op.load 47 (Go.Operand.tmp 4), type := 47, pos := "seq.go:68", after := #[], guard := none }, { dst := some 12, op := Go.Op.call { callee := Go.Callee.value (Go.Operand.func 25), args := #[Go.Operand.tmp 10, Go.Operand.tmp 11], argTypes := #[24, 47] }, type := 33, pos := "seq.go:68", after := #[{ on := 2, ground := Go.Ground.data }, { on := 3, ground := Go.Ground.data }], guard := none }, { dst := some 13, op := Go.Op.call { callee := Go.Callee.value (Go.Operand.tmp 8), args := #[Go.Operand.tmp 9, Go.Operand.tmp 12], argTypes := #[3, 33] }, type := 4, pos := "seq.go:68", after := #[{ on := 0, ground := Go.Ground.data }, { on := 1, ground := Go.Ground.data }, { on := 4, ground := Go.Ground.data }, { on := 4, ground := Go.Ground.chain }], guard := none }, { dst := some 14, op := Go.Op.unOp Go.UnOp.not 4 (Go.Operand.tmp 13), type := 4, pos := "seq.go:68", after := #[{ on := 5, ground := Go.Ground.data }], guard := none }]
set_option maxHeartbeats 8000000 in
theorem all_reg4 {q n : Nat} {Q : Exit → Act → World → Prop} {w : World} (l C Y P X i : Nat) (B : Bk) (x : Sp) (u : Un) (b5 b6 b7 : Value)
    (hc : ∀ w', Touch (fun _ => False) w w' → w'.cell? ⟨Y, 0, none⟩ = some (.func (.yield l) #[] #[]) ∧ w'.cell? ⟨P, 0, none⟩ = some (iV (i : Int)) ∧ w'.cell? ⟨C, 0, none⟩ = some (sP B) ∧ w'.cell? ⟨X, 0, none⟩ = some (iV (x.run : Int)) ∧ w'.cell? ⟨X, 1, none⟩ = some (u64 x.pos))
    (hu : ∀ w', Touch (fun _ => False) w w' → Calls Try.prog 25 #[sP B, spV x] w' fun e w2 => e = .returned (unV u) ∧ Touch (fun _ => False) w' w2)
    (hQ : ∀ w1, Touch (fun _ => False) w w1 → wpAnyIn (Fence.wide.inRound q) n Try.prog .any all4 Q 2 #[true, true, true, true, true, false, false] { tmps := #[.func (.yield l) #[] #[], .pointer (some ⟨C, 0, none⟩), .pointer (some ⟨Y, 0, none⟩), .pointer (some ⟨P, 0, none⟩), .pointer (some ⟨X, 0, none⟩), b5, b6, b7, .func (.yield l) #[] #[], iV (i : Int), sP B, spV x, unV u, undef, undef, undef, undef], defers := [] } w1) :
    (Code.region 4 all4 true).wpIn (Fence.wide.inRound q) n Try.prog Q { tmps := #[.func (.yield l) #[] #[], .pointer (some ⟨C, 0, none⟩), .pointer (some ⟨Y, 0, none⟩), .pointer (some ⟨P, 0, none⟩), .pointer (some ⟨X, 0, none⟩), b5, b6, b7, undef, undef, undef, undef, undef, undef, undef, undef, undef], defers := [] } w := by
  have H11110 : ∀ w1, Touch (fun _ => False) w w1 → wpAnyIn (Fence.wide.inRound q) n Try.prog .any all4 Q 3 #[true, true, true, true, false, false, false] { tmps := #[.func (.yield l) #[] #[], .pointer (some ⟨C, 0, none⟩), .pointer (some ⟨Y, 0, none⟩), .pointer (some ⟨P, 0, none⟩), .pointer (some ⟨X, 0, none⟩), b5, b6, b7, .func (.yield l) #[] #[], iV (i : Int), sP B, spV x, undef, undef, undef, undef, undef], defers := [] } w1 := fun w1 t => by
    obtain ⟨c0, c1, c2, c3, c4⟩ := hc w1 t
    refine wpAnyIn_ready (rs := [4]) (by kernel_rfl) (by simp) ?_
    refine AllReadyIn.cons rfl (fun K hK => ?_) ?_
    · gi_wp2_with fail
      refine ⟨trivial, wideN, (CallsIn.inRound q (callsIn_wide.2 (hu w1 t))).mono ?_⟩
      rintro e w2 ⟨rfl, t2⟩
      exact hK _ _ (hQ w2 (t.trans t2))
    exact AllReadyIn.nil
  have H10111 : ∀ w1, Touch (fun _ => False) w w1 → wpAnyIn (Fence.wide.inRound q) n Try.prog .any all4 Q 3 #[true, false, true, true, true, false, false] { tmps := #[.func (.yield l) #[] #[], .pointer (some ⟨C, 0, none⟩), .pointer (some ⟨Y, 0, none⟩), .pointer (some ⟨P, 0, none⟩), .pointer (some ⟨X, 0, none⟩), b5, b6, b7, .func (.yield l) #[] #[], undef, sP B, spV x, unV u, undef, undef, undef, undef], defers := [] } w1 := fun w1 t => by
    obtain ⟨c0, c1, c2, c3, c4⟩ := hc w1 t
    refine wpAnyIn_ready (rs := [1]) (by kernel_rfl) (by simp) ?_
    refine AllReadyIn.cons rfl (fun K hK => ?_) ?_
    · go_simp
      exact hK _ _ (hQ w1 t)
    exact AllReadyIn.nil
  have H01111 : ∀ w1, Touch (fun _ => False) w w1 → wpAnyIn (Fence.wide.inRound q) n Try.prog .any all4 Q 3 #[false, true, true, true, true, false, false] { tmps := #[.func (.yield l) #[] #[], .pointer (some ⟨C, 0, none⟩), .pointer (some ⟨Y, 0, none⟩), .pointer (some ⟨P, 0, none⟩), .pointer (some ⟨X, 0, none⟩), b5, b6, b7, undef, iV (i : Int), sP B, spV x, unV u, undef, undef, undef, undef], defers := [] } w1 := fun w1 t => by
    obtain ⟨c0, c1, c2, c3, c4⟩ := hc w1 t
    refine wpAnyIn_ready (rs := [0]) (by kernel_rfl) (by simp) ?_
    refine AllReadyIn.cons rfl (fun K hK => ?_) ?_
    · go_simp
      exact hK _ _ (hQ w1 t)
    exact AllReadyIn.nil
  have H11100 : ∀ w1, Touch (fun _ => False) w w1 → wpAnyIn (Fence.wide.inRound q) n Try.prog .any all4 Q 4 #[true, true, true, false, false, false, false] { tmps := #[.func (.yield l) #[] #[], .pointer (some ⟨C, 0, none⟩), .pointer (some ⟨Y, 0, none⟩), .pointer (some ⟨P, 0, none⟩), .pointer (some ⟨X, 0, none⟩), b5, b6, b7, .func (.yield l) #[] #[], iV (i : Int), sP B, undef, undef, undef, undef, undef, undef], defers := [] } w1 := fun w1 t => by
    obtain ⟨c0, c1, c2, c3, c4⟩ := hc w1 t
    refine wpAnyIn_ready (rs := [3]) (by kernel_rfl) (by simp) ?_
    refine AllReadyIn.cons rfl (fun K hK => ?_) ?_
    · go_simp
      exact hK _ _ (H11110 w1 t)
    exact AllReadyIn.nil
  have H11010 : ∀ w1, Touch (fun _ => False) w w1 → wpAnyIn (Fence.wide.inRound q) n Try.prog .any all4 Q 4 #[true, true, false, true, false, false, false] { tmps := #[.func (.yield l) #[] #[], .pointer (some ⟨C, 0, none⟩), .pointer (some ⟨Y, 0, none⟩), .pointer (some ⟨P, 0, none⟩), .pointer (some ⟨X, 0, none⟩), b5, b6, b7, .func (.yield l) #[] #[], iV (i : Int), undef, spV x, undef, undef, undef, undef, undef], defers := [] } w1 := fun w1 t => by
    obtain ⟨c0, c1, c2, c3, c4⟩ := hc w1 t
    refine wpAnyIn_ready (rs := [2]) (by kernel_rfl) (by simp) ?_
    refine AllReadyIn.cons rfl (fun K hK => ?_) ?_
    · go_simp
      exact hK _ _ (H11110 w1 t)
    exact AllReadyIn.nil
  have H10110 : ∀ w1, Touch (fun _ => False) w w1 → wpAnyIn (Fence.wide.inRound q) n Try.prog .any all4 Q 4 #[true, false, true, true, false, false, false] { tmps := #[.func (.yield l) #[] #[], .pointer (some ⟨C, 0, none⟩), .pointer (some ⟨Y, 0, none⟩), .pointer (some ⟨P, 0, none⟩), .pointer (some ⟨X, 0, none⟩), b5, b6, b7, .func (.yield l) #[] #[], undef, sP B, spV x, undef, undef, undef, undef, undef], defers := [] } w1 := fun w1 t => by
    obtain ⟨c0, c1, c2, c3, c4⟩ := hc w1 t
    refine wpAnyIn_ready (rs := [1, 4]) (by kernel_rfl) (by simp) ?_
    refine AllReadyIn.cons rfl (fun K hK => ?_) ?_
    · go_simp
      exact hK _ _ (H11110 w1 t)
    refine AllReadyIn.cons rfl (fun K hK => ?_) ?_
    · gi_wp2_with fail
      refine ⟨trivial, wideN, (CallsIn.inRound q (callsIn_wide.2 (hu w1 t))).mono ?_⟩
      rintro e w2 ⟨rfl, t2⟩
      exact hK _ _ (H10111 w2 (t.trans t2))
    exact AllReadyIn.nil
  have H01110 : ∀ w1, Touch (fun _ => False) w w1 → wpAnyIn (Fence.wide.inRound q) n Try.prog .any all4 Q 4 #[false, true, true, true, false, false, false] { tmps := #[.func (.yield l) #[] #[], .pointer (some ⟨C, 0, none⟩), .pointer (some ⟨Y, 0, none⟩), .pointer (some ⟨P, 0, none⟩), .pointer (some ⟨X, 0, none⟩), b5, b6, b7, undef, iV (i : Int), sP B, spV x, undef, undef, undef, undef, undef], defers := [] } w1 := fun w1 t => by
    obtain ⟨c0, c1, c2, c3, c4⟩ := hc w1 t
    refine wpAnyIn_ready (rs := [0, 4]) (by kernel_rfl) (by simp) ?_
    refine AllReadyIn.cons rfl (fun K hK => ?_) ?_
    · go_simp
      exact hK _ _ (H11110 w1 t)
    refine AllReadyIn.cons rfl (fun K hK => ?_) ?_
    · gi_wp2_with fail
      refine ⟨trivial, wideN, (CallsIn.inRound q (callsIn_wide.2 (hu w1 t))).mono ?_⟩
      rintro e w2 ⟨rfl, t2⟩
      exact hK _ _ (H01111 w2 (t.trans t2))
    exact AllReadyIn.nil
  have H00111 : ∀ w1, Touch (fun _ => False) w w1 → wpAnyIn (Fence.wide.inRound q) n Try.prog .any all4 Q 4 #[false, false, true, true, true, false, false] { tmps := #[.func (.yield l) #[] #[], .pointer (some ⟨C, 0, none⟩), .pointer (some ⟨Y, 0, none⟩), .pointer (some ⟨P, 0, none⟩), .pointer (some ⟨X, 0, none⟩), b5, b6, b7, undef, undef, sP B, spV x, unV u, undef, undef, undef, undef], defers := [] } w1 := fun w1 t => by
    obtain ⟨c0, c1, c2, c3, c4⟩ := hc w1 t
    refine wpAnyIn_ready (rs := [0, 1]) (by kernel_rfl) (by simp) ?_
    refine AllReadyIn.cons rfl (fun K hK => ?_) ?_
    · go_simp
      exact hK _ _ (H10111 w1 t)
    refine AllReadyIn.cons rfl (fun K hK => ?_) ?_
    · go_simp
      exact hK _ _ (H01111 w1 t)
    exact AllReadyIn.nil
  have H11000 : ∀ w1, Touch (fun _ => False) w w1 → wpAnyIn (Fence.wide.inRound q) n Try.prog .any all4 Q 5 #[true, true, false, false, false, false, false] { tmps := #[.func (.yield l) #[] #[], .pointer (some ⟨C, 0, none⟩), .pointer (some ⟨Y, 0, none⟩), .pointer (some ⟨P, 0, none⟩), .pointer (some ⟨X, 0, none⟩), b5, b6, b7, .func (.yield l) #[] #[], iV (i : Int), undef, undef, undef, undef, undef, undef, undef], defers := [] } w1 := fun w1 t => by
    obtain ⟨c0, c1, c2, c3, c4⟩ := hc w1 t
    refine wpAnyIn_ready (rs := [2, 3]) (by kernel_rfl) (by simp) ?_
    refine AllReadyIn.cons rfl (fun K hK => ?_) ?_
    · go_simp
      exact hK _ _ (H11100 w1 t)
    refine AllReadyIn.cons rfl (fun K hK => ?_) ?_
    · go_simp
      exact hK _ _ (H11010 w1 t)
    exact AllReadyIn.nil
  have H10100 : ∀ w1, Touch (fun _ => False) w w1 → wpAnyIn (Fence.wide.inRound q) n Try.prog .any all4 Q 5 #[true, false, true, false, false, false, false] { tmps := #[.func (.yield l) #[] #[], .pointer (some ⟨C, 0, none⟩), .pointer (some ⟨Y, 0, none⟩), .pointer (some ⟨P, 0, none⟩), .pointer (some ⟨X, 0, none⟩), b5, b6, b7, .func (.yield l) #[] #[], undef, sP B, undef, undef, undef, undef, undef, undef], defers := [] } w1 := fun w1 t => by
    obtain ⟨c0, c1, c2, c3, c4⟩ := hc w1 t
    refine wpAnyIn_ready (rs := [1, 3]) (by kernel_rfl) (by simp) ?_
    refine AllReadyIn.cons rfl (fun K hK => ?_) ?_
    · go_simp
      exact hK _ _ (H11100 w1 t)
    refine AllReadyIn.cons rfl (fun K hK => ?_) ?_
    · go_simp
      exact hK _ _ (H10110 w1 t)
    exact AllReadyIn.nil
  have H10010 : ∀ w1, Touch (fun _ => False) w w1 → wpAnyIn (Fence.wide.inRound q) n Try.prog .any all4 Q 5 #[true, false, false, true, false, false, false] { tmps := #[.func (.yield l) #[] #[], .pointer (some ⟨C, 0, none⟩), .pointer (some ⟨Y, 0, none⟩), .pointer (some ⟨P, 0, none⟩), .pointer (some ⟨X, 0, none⟩), b5, b6, b7, .func (.yield l) #[] #[], undef, undef, spV x, undef, undef, undef, undef, undef], defers := [] } w1 := fun w1 t => by
    obtain ⟨c0, c1, c2, c3, c4⟩ := hc w1 t
    refine wpAnyIn_ready (rs := [1, 2]) (by kernel_rfl) (by simp) ?_
    refine AllReadyIn.cons rfl (fun K hK => ?_) ?_
    · go_simp
      exact hK _ _ (H11010 w1 t)
    refine AllReadyIn.cons rfl (fun K hK => ?_) ?_
    · go_simp
      exact hK _ _ (H10110 w1 t)
    exact AllReadyIn.nil
  have H01100 : ∀ w1, Touch (fun _ => False) w w1 → wpAnyIn (Fence.wide.inRound q) n Try.prog .any all4 Q 5 #[false, true, true, false, false, false, false] { tmps := #[.func (.yield l) #[] #[], .pointer (some ⟨C, 0, none⟩), .pointer (some ⟨Y, 0, none⟩), .pointer (some ⟨P, 0, none⟩), .pointer (some ⟨X, 0, none⟩), b5, b6, b7, undef, iV (i : Int), sP B, undef, undef, undef, undef, undef, undef], defers := [] } w1 := fun w1 t => by
    obtain ⟨c0, c1, c2, c3, c4⟩ := hc w1 t
    refine wpAnyIn_ready (rs := [0, 3]) (by kernel_rfl) (by simp) ?_
    refine AllReadyIn.cons rfl (fun K hK => ?_) ?_
    · go_simp
      exact hK _ _ (H11100 w1 t)
    refine AllReadyIn.cons rfl (fun K hK => ?_) ?_
    · go_simp
      exact hK _ _ (H01110 w1 t)
    exact AllReadyIn.nil
  have H01010 : ∀ w1, Touch (fun _ => False) w w1 → wpAnyIn (Fence.wide.inRound q) n Try.prog .any all4 Q 5 #[false, true, false, true, false, false, false] { tmps := #[.func (.yield l) #[] #[], .pointer (some ⟨C, 0, none⟩), .pointer (some ⟨Y, 0, none⟩), .pointer (some ⟨P, 0, none⟩), .pointer (some ⟨X, 0, none⟩), b5, b6, b7, undef, iV (i : Int), undef, spV x, undef, undef, undef, undef, undef], defers := [] } w1 := fun w1 t => by
    obtain ⟨c0, c1, c2, c3, c4⟩ := hc w1 t
    refine wpAnyIn_ready (rs := [0, 2]) (by kernel_rfl) (by simp) ?_
    refine AllReadyIn.cons rfl (fun K hK => ?_) ?_
    · go_simp
      exact hK _ _ (H11010 w1 t)
    refine AllReadyIn.cons rfl (fun K hK => ?_) ?_
    · go_simp
      exact hK _ _ (H01110 w1 t)
    exact AllReadyIn.nil
  have H00110 : ∀ w1, Touch (fun _ => False) w w1 → wpAnyIn (Fence.wide.inRound q) n Try.prog .any all4 Q 5 #[false, false, true, true, false, false, false] { tmps := #[.func (.yield l) #[] #[], .pointer (some ⟨C, 0, none⟩), .pointer (some ⟨Y, 0, none⟩), .pointer (some ⟨P, 0, none⟩), .pointer (some ⟨X, 0, none⟩), b5, b6, b7, undef, undef, sP B, spV x, undef, undef, undef, undef, undef], defers := [] } w1 := fun w1 t => by
    obtain ⟨c0, c1, c2, c3, c4⟩ := hc w1 t
    refine wpAnyIn_ready (rs := [0, 1, 4]) (by kernel_rfl) (by simp) ?_
    refine AllReadyIn.cons rfl (fun K hK => ?_) ?_
    · go_simp
      exact hK _ _ (H10110 w1 t)
    refine AllReadyIn.cons rfl (fun K hK => ?_) ?_
    · go_simp
      exact hK _ _ (H01110 w1 t)
    refine AllReadyIn.cons rfl (fun K hK => ?_) ?_
    · gi_wp2_with fail
      refine ⟨trivial, wideN, (CallsIn.inRound q (callsIn_wide.2 (hu w1 t))).mono ?_⟩
      rintro e w2 ⟨rfl, t2⟩
      exact hK _ _ (H00111 w2 (t.trans t2))
    exact AllReadyIn.nil
  have H10000 : ∀ w1, Touch (fun _ => False) w w1 → wpAnyIn (Fence.wide.inRound q) n Try.prog .any all4 Q 6 #[true, false, false, false, false, false, false] { tmps := #[.func (.yield l) #[] #[], .pointer (some ⟨C, 0, none⟩), .pointer (some ⟨Y, 0, none⟩), .pointer (some ⟨P, 0, none⟩), .pointer (some ⟨X, 0, none⟩), b5, b6, b7, .func (.yield l) #[] #[], undef, undef, undef, undef, undef, undef, undef, undef], defers := [] } w1 := fun w1 t => by
    obtain ⟨c0, c1, c2, c3, c4⟩ := hc w1 t
    refine wpAnyIn_ready (rs := [1, 2, 3]) (by kernel_rfl) (by simp) ?_
    refine AllReadyIn.cons rfl (fun K hK => ?_) ?_
    · go_simp
      exact hK _ _ (H11000 w1 t)
    refine AllReadyIn.cons rfl (fun K hK => ?_) ?_
    · go_simp
      exact hK _ _ (H10100 w1 t)
    refine AllReadyIn.cons rfl (fun K hK => ?_) ?_
    · go_simp
      exact hK _ _ (H10010 w1 t)
    exact AllReadyIn.nil
  have H01000 : ∀ w1, Touch (fun _ => False) w w1 → wpAnyIn (Fence.wide.inRound q) n Try.prog .any all4 Q 6 #[false, true, false, false, false, false, false] { tmps := #[.func (.yield l) #[] #[], .pointer (some ⟨C, 0, none⟩), .pointer (some ⟨Y, 0, none⟩), .pointer (some ⟨P, 0, none⟩), .pointer (some ⟨X, 0, none⟩), b5, b6, b7, undef, iV (i : Int), undef, undef, undef, undef, undef, undef, undef], defers := [] } w1 := fun w1 t => by
    obtain ⟨c0, c1, c2, c3, c4⟩ := hc w1 t
    refine wpAnyIn_ready (rs := [0, 2, 3]) (by kernel_rfl) (by simp) ?_
    refine AllReadyIn.cons rfl (fun K hK => ?_) ?_
    · go_simp
      exact hK _ _ (H11000 w1 t)
    refine AllReadyIn.cons rfl (fun K hK => ?_) ?_
    · go_simp
      exact hK _ _ (H01100 w1 t)
    refine AllReadyIn.cons rfl (fun K hK => ?_) ?_
    · go_simp
      exact hK _ _ (H01010 w1 t)
    exact AllReadyIn.nil
  have H00100 : ∀ w1, Touch (fun _ => False) w w1 → wpAnyIn (Fence.wide.inRound q) n Try.prog .any all4 Q 6 #[false, false, true, false, false, false, false] { tmps := #[.func (.yield l) #[] #[], .pointer (some ⟨C, 0, none⟩), .pointer (some ⟨Y, 0, none⟩), .pointer (some ⟨P, 0, none⟩), .pointer (some ⟨X, 0, none⟩), b5, b6, b7, undef, undef, sP B, undef, undef, undef, undef, undef, undef], defers := [] } w1 := fun w1 t => by
    obtain ⟨c0, c1, c2, c3, c4⟩ := hc w1 t
    refine wpAnyIn_ready (rs := [0, 1, 3]) (by kernel_rfl) (by simp) ?_
    refine AllReadyIn.cons rfl (fun K hK => ?_) ?_
    · go_simp
      exact hK _ _ (H10100 w1 t)
    refine AllReadyIn.cons rfl (fun K hK => ?_) ?_
    · go_simp
      exact hK _ _ (H01100 w1 t)
    refine AllReadyIn.cons rfl (fun K hK => ?_) ?_
    · go_simp
      exact hK _ _ (H00110 w1 t)
    exact AllReadyIn.nil
  have H00010 : ∀ w1, Touch (fun _ => False) w w1 → wpAnyIn (Fence.wide.inRound q) n Try.prog .any all4 Q 6 #[false, false, false, true, false, false, false] { tmps := #[.func (.yield l) #[] #[], .pointer (some ⟨C, 0, none⟩), .pointer (some ⟨Y, 0, none⟩), .pointer (some ⟨P, 0, none⟩), .pointer (some ⟨X, 0, none⟩), b5, b6, b7, undef, undef, undef, spV x, undef, undef, undef, undef, undef], defers := [] } w1 := fun w1 t => by
    obtain ⟨c0, c1, c2, c3, c4⟩ := hc w1 t
    refine wpAnyIn_ready (rs := [0, 1, 2]) (by kernel_rfl) (by simp) ?_
    refine AllReadyIn.cons rfl (fun K hK => ?_) ?_
    · go_simp
      exact hK _ _ (H10010 w1 t)
    refine AllReadyIn.cons rfl (fun K hK => ?_) ?_
    · go_simp
      exact hK _ _ (H01010 w1 t)
    refine AllReadyIn.cons rfl (fun K hK => ?_) ?_
    · go_simp
      exact hK _ _ (H00110 w1 t)
    exact AllReadyIn.nil
  have H00000 : ∀ w1, Touch (fun _ => False) w w1 → wpAnyIn (Fence.wide.inRound q) n Try.prog .any all4 Q 7 #[false, false, false, false, false, false, false] { tmps := #[.func (.yield l) #[] #[], .pointer (some ⟨C, 0, none⟩), .pointer (some ⟨Y, 0, none⟩), .pointer (some ⟨P, 0, none⟩), .pointer (some ⟨X, 0, none⟩), b5, b6, b7, undef, undef, undef, undef, undef, undef, undef, undef, undef], defers := [] } w1 := fun w1 t => by
    obtain ⟨c0, c1, c2, c3, c4⟩ := hc w1 t
    refine wpAnyIn_ready (rs := [0, 1, 2, 3]) (by kernel_rfl) (by simp) ?_
    refine AllReadyIn.cons rfl (fun K hK => ?_) ?_
    · go_simp
      exact hK _ _ (H10000 w1 t)
    refine AllReadyIn.cons rfl (fun K hK => ?_) ?_
    · go_simp
      exact hK _ _ (H01000 w1 t)
    refine AllReadyIn.cons rfl (fun K hK => ?_) ?_
    · go_simp
      exact hK _ _ (H00100 w1 t)
    refine AllReadyIn.cons rfl (fun K hK => ?_) ?_
    · go_simp
      exact hK _ _ (H00010 w1 t)
    exact AllReadyIn.nil
  refine wpIn_region_any (by kernel_rfl) ?_
  exact H00000 _ (Touch.refl _ w).drew
end Go.Proofs.Ytnbphdmpbjahhab
