/- (*seq.Seq).All$1's drawn region, within a round: its loads and its call of unit, in every order. -/
import Derived.Test.YtnbphdmpbjahhaaOwn1
import Derived.Test.YtnbphdmpbjahhaaPart9
namespace Go.Proofs.Ytnbphdmpbjahhaa
open Go.RowKit Go.Shelf
set_option linter.unusedVariables false
set_option linter.unusedSimpArgs false
set_option maxRecDepth 100000
attribute [local go_sem] Oper.semAt_some

abbrev all4 : Array Oper := #[{ dst := some 8, op := Go.Op.load 112 (Go.Operand.tmp 2), type := 112, pos := "seq.go:68", after := #[], guard := none }, { dst := some 9, op := Go.Op.load 3 (Go.Operand.tmp 3), type := 3, pos := "seq.go:68", after := #[], guard := none }, { dst := some 10, op := Go.Op.load 24 (Go.Operand.tmp 1), type := 24, pos := "seq.go:68", after := #[], guard := none }, { dst := some 11, op := Go.Op.load 62 (Go.Operand.tmp 4), type := 62, pos := "seq.go:68", after := #[], guard := none }, { dst := some 12, op := Go.Op.call { callee := Go.Callee.value (Go.Operand.func 46), args := #[Go.Operand.tmp 10, Go.Operand.tmp 11], argTypes := #[24, 62] }, type := 35, pos := "seq.go:68", after := #[{ on := 2, ground := Go.Ground.data }, { on := 3, ground := Go.Ground.data }], guard := none }, { dst := some 13, op := Go.Op.call { callee := Go.Callee.value (Go.Operand.tmp 8), args := #[Go.Operand.tmp 9, Go.Operand.tmp 12], argTypes := #[3, 35] }, type := 4, pos := "seq.go:68", after := #[{ on := 0, ground := Go.Ground.data }, { on := 1, ground := Go.Ground.data }, { on := 4, ground := Go.Ground.data }, { on := 4, ground := Go.Ground.chain }], guard := none }, { dst := some 14, op := Go.Op.unOp Go.UnOp.not 4 (Go.Operand.tmp 13), type := 4, pos := "seq.go:68", after := #[{ on := 5, ground := Go.Ground.data }], guard := none }]
set_option maxHeartbeats 8000000 in
theorem all_reg4 {q n : Nat} {Q : Exit → Act → World → Prop} {w : World} (l C Y P X i : Nat) (B : Bk) (x : Sp) (u : Un) (b5 b6 b7 : Value)
    (hc : ∀ w', Touch (fun _ => False) w w' → w'.cell? ⟨Y, 0, none⟩ = some (.func (.yield l) #[] #[]) ∧ w'.cell? ⟨P, 0, none⟩ = some (iV (i : Int)) ∧ w'.cell? ⟨C, 0, none⟩ = some (sP B) ∧ w'.cell? ⟨X, 0, none⟩ = some (iV (x.run : Int)) ∧ w'.cell? ⟨X, 1, none⟩ = some (u64 x.pos))
    (hu : ∀ w', Touch (fun _ => False) w w' → Calls Try.prog 46 #[sP B, spV x] w' fun e w2 => e = .returned (unV u) ∧ Touch (fun _ => False) w' w2)
    (hQ : ∀ w1, Touch (fun _ => False) w w1 → wpAnyIn (Fence.wide.inRound q) n Try.prog .any all4 Q 2 #[true, true, true, true, true, false, false] { tmps := #[.func (.yield l) #[] #[], .pointer (some ⟨C, 0, none⟩), .pointer (some ⟨Y, 0, none⟩), .pointer (some ⟨P, 0, none⟩), .pointer (some ⟨X, 0, none⟩), b5, b6, b7, .func (.yield l) #[] #[], iV (i : Int), sP B, spV x, unV u, undef, undef, undef, undef], defers := [] } w1) :
    (Code.region 4 all4 true).wpIn (Fence.wide.inRound q) n Try.prog Q { tmps := #[.func (.yield l) #[] #[], .pointer (some ⟨C, 0, none⟩), .pointer (some ⟨Y, 0, none⟩), .pointer (some ⟨P, 0, none⟩), .pointer (some ⟨X, 0, none⟩), b5, b6, b7, undef, undef, undef, undef, undef, undef, undef, undef, undef], defers := [] } w := by
  have H11110 : ∀ w1, Touch (fun _ => False) w w1 → wpAnyIn (Fence.wide.inRound q) n Try.prog .any all4 Q 3 #[true, true, true, true, false, false, false] { tmps := #[.func (.yield l) #[] #[], .pointer (some ⟨C, 0, none⟩), .pointer (some ⟨Y, 0, none⟩), .pointer (some ⟨P, 0, none⟩), .pointer (some ⟨X, 0, none⟩), b5, b6, b7, .func (.yield l) #[] #[], iV (i : Int), sP B, spV x, undef, undef, undef, undef, undef], defers := [] } w1 := fun w1 t => by
    obtain ⟨c0, c1, c2, c3, c4⟩ := hc w1 t
    refine wpAnyIn_ready (rs := [4]) (by kernel_rfl) (by simp) ?_
    refine AllReadyIn.cons rfl (fun K hK => ?_) ?_
    · gi_wp2_with fail
      refine ⟨trivial, wideN, (CallsIn.inRound q (callsIn_wide.2 (hu w1 t))).mono ?_⟩
      rintro e w2 ⟨rfl, t2⟩
      exact hK _ _ (hQ w2 (t.trans t2))
    exact AllReadyIn.nil
  have H10111 : ∀ w1, Touch (fun _ => False) w w1 → wpAnyIn (Fence.wide.inRound q) n Try.prog .any all4 Q 3 #[true, false, true, true, true, false, false] { tmps := #[.func (.yield l) #[] #[], .pointer (some ⟨C, 0, none⟩), .pointer (some ⟨Y, 0, none⟩), .pointer (some ⟨P, 0, none⟩), .pointer (some ⟨X, 0, none⟩), b5, b6, b7, .func (.yield l) #[] #[], undef, sP B, spV x, unV u, undef, undef, undef, undef], defers := [] } w1 := fun w1 t => by
    obtain ⟨c0, c1, c2, c3, c4⟩ := hc w1 t
    refine wpAnyIn_ready (rs := [1]) (by kernel_rfl) (by simp) ?_
    refine AllReadyIn.cons rfl (fun K hK => ?_) ?_
    · go_simp
      exact hK _ _ (hQ w1 t)
    exact AllReadyIn.nil
  have H01111 : ∀ w1, Touch (fun _ => False) w w1 → wpAnyIn (Fence.wide.inRound q) n Try.prog .any all4 Q 3 #[false, true, true, true, true, false, false] { tmps := #[.func (.yield l) #[] #[], .pointer (some ⟨C, 0, none⟩), .pointer (some ⟨Y, 0, none⟩), .pointer (some ⟨P, 0, none⟩), .pointer (some ⟨X, 0, none⟩), b5, b6, b7, undef, iV (i : Int), sP B, spV x, unV u, undef, undef, undef, undef], defers := [] } w1 := fun w1 t => by
    obtain ⟨c0, c1, c2, c3, c4⟩ := hc w1 t
    refine wpAnyIn_ready (rs := [0]) (by kernel_rfl) (by simp) ?_
    refine AllReadyIn.cons rfl (fun K hK => ?_) ?_
    · go_simp
      exact hK _ _ (hQ w1 t)
    exact AllReadyIn.nil
  have H11100 : ∀ w1, Touch (fun _ => False) w w1 → wpAnyIn (Fence.wide.inRound q) n Try.prog .any all4 Q 4 #[true, true, true, false, false, false, false] { tmps := #[.func (.yield l) #[] #[], .pointer (some ⟨C, 0, none⟩), .pointer (some ⟨Y, 0, none⟩), .pointer (some ⟨P, 0, none⟩), .pointer (some ⟨X, 0, none⟩), b5, b6, b7, .func (.yield l) #[] #[], iV (i : Int), sP B, undef, undef, undef, undef, undef, undef], defers := [] } w1 := fun w1 t => by
    obtain ⟨c0, c1, c2, c3, c4⟩ := hc w1 t
    refine wpAnyIn_ready (rs := [3]) (by kernel_rfl) (by simp) ?_
    refine AllReadyIn.cons rfl (fun K hK => ?_) ?_
    · go_simp
      exact hK _ _ (H11110 w1 t)
    exact AllReadyIn.nil
  have H11010 : ∀ w1, Touch (fun _ => False) w w1 → wpAnyIn (Fence.wide.inRound q) n Try.prog .any all4 Q 4 #[true, true, false, true, false, false, false] { tmps := #[.func (.yield l) #[] #[], .pointer (some ⟨C, 0, none⟩), .pointer (some ⟨Y, 0, none⟩), .pointer (some ⟨P, 0, none⟩), .pointer (some ⟨X, 0, none⟩), b5, b6, b7, .func (.yield l) #[] #[], iV (i : Int), undef, spV x, undef, undef, undef, undef, undef], defers := [] } w1 := fun w1 t => by
    obtain ⟨c0, c1, c2, c3, c4⟩ := hc w1 t
    refine wpAnyIn_ready (rs := [2]) (by kernel_rfl) (by simp) ?_
    refine AllReadyIn.cons rfl (fun K hK => ?_) ?_
    · go_simp
      exact hK _ _ (H11110 w1 t)
    exact AllReadyIn.nil
  have H10110 : ∀ w1, Touch (fun _ => False) w w1 → wpAnyIn (Fence.wide.inRound q) n Try.prog .any all4 Q 4 #[true, false, true, true, false, false, false] { tmps := #[.func (.yield l) #[] #[], .pointer (some ⟨C, 0, none⟩), .pointer (some ⟨Y, 0, none⟩), .pointer (some ⟨P, 0, none⟩), .pointer (some ⟨X, 0, none⟩), b5, b6, b7, .func (.yield l) #[] #[], undef, sP B, spV x, undef, undef, undef, undef, undef], defers := [] } w1 := fun w1 t => by
    obtain ⟨c0, c1, c2, c3, c4⟩ := hc w1 t
    refine wpAnyIn_ready (rs := [1, 4]) (by kernel_rfl) (by simp) ?_
    refine AllReadyIn.cons rfl (fun K hK => ?_) ?_
    · go_simp
      exact hK _ _ (H11110 w1 t)
    refine AllReadyIn.cons rfl (fun K hK => ?_) ?_
    · gi_wp2_with fail
      refine ⟨trivial, wideN, (CallsIn.inRound q (callsIn_wide.2 (hu w1 t))).mono ?_⟩
      rintro e w2 ⟨rfl, t2⟩
      exact hK _ _ (H10111 w2 (t.trans t2))
    exact AllReadyIn.nil
  have H01110 : ∀ w1, Touch (fun _ => False) w w1 → wpAnyIn (Fence.wide.inRound q) n Try.prog .any all4 Q 4 #[false, true, true, true, false, false, false] { tmps := #[.func (.yield l) #[] #[], .pointer (some ⟨C, 0, none⟩), .pointer (some ⟨Y, 0, none⟩), .pointer (some ⟨P, 0, none⟩), .pointer (some ⟨X, 0, none⟩), b5, b6, b7, undef, iV (i : Int), sP B, spV x, undef, undef, undef, undef, undef], defers := [] } w1 := fun w1 t => by
    obtain ⟨c0, c1, c2, c3, c4⟩ := hc w1 t
    refine wpAnyIn_ready (rs := [0, 4]) (by kernel_rfl) (by simp) ?_
    refine AllReadyIn.cons rfl (fun K hK => ?_) ?_
    · go_simp
      exact hK _ _ (H11110 w1 t)
    refine AllReadyIn.cons rfl (fun K hK => ?_) ?_
    · gi_wp2_with fail
      refine ⟨trivial, wideN, (CallsIn.inRound q (callsIn_wide.2 (hu w1 t))).mono ?_⟩
      rintro e w2 ⟨rfl, t2⟩
      exact hK _ _ (H01111 w2 (t.trans t2))
    exact AllReadyIn.nil
  have H00111 : ∀ w1, Touch (fun _ => False) w w1 → wpAnyIn (Fence.wide.inRound q) n Try.prog .any all4 Q 4 #[false, false, true, true, true, false, false] { tmps := #[.func (.yield l) #[] #[], .pointer (some ⟨C, 0, none⟩), .pointer (some ⟨Y, 0, none⟩), .pointer (some ⟨P, 0, none⟩), .pointer (some ⟨X, 0, none⟩), b5, b6, b7, undef, undef, sP B, spV x, unV u, undef, undef, undef, undef], defers := [] } w1 := fun w1 t => by
    obtain ⟨c0, c1, c2, c3, c4⟩ := hc w1 t
    refine wpAnyIn_ready (rs := [0, 1]) (by kernel_rfl) (by simp) ?_
    refine AllReadyIn.cons rfl (fun K hK => ?_) ?_
    · go_simp
      exact hK _ _ (H10111 w1 t)
    refine AllReadyIn.cons rfl (fun K hK => ?_) ?_
    · go_simp
      exact hK _ _ (H01111 w1 t)
    exact AllReadyIn.nil
  have H11000 : ∀ w1, Touch (fun _ => False) w w1 → wpAnyIn (Fence.wide.inRound q) n Try.prog .any all4 Q 5 #[true, true, false, false, false, false, false] { tmps := #[.func (.yield l) #[] #[], .pointer (some ⟨C, 0, none⟩), .pointer (some ⟨Y, 0, none⟩), .pointer (some ⟨P, 0, none⟩), .pointer (some ⟨X, 0, none⟩), b5, b6, b7, .func (.yield l) #[] #[], iV (i : Int), undef, undef, undef, undef, undef, undef, undef], defers := [] } w1 := fun w1 t => by
    obtain ⟨c0, c1, c2, c3, c4⟩ := hc w1 t
    refine wpAnyIn_ready (rs := [2, 3]) (by kernel_rfl) (by simp) ?_
    refine AllReadyIn.cons rfl (fun K hK => ?_) ?_
    · go_simp
      exact hK _ _ (H11100 w1 t)
    refine AllReadyIn.cons rfl (fun K hK => ?_) ?_
    · go_simp
      exact hK _ _ (H11010 w1 t)
    exact AllReadyIn.nil
  have H10100 : ∀ w1, Touch (fun _ => False) w w1 → wpAnyIn (Fence.wide.inRound q) n Try.prog .any all4 Q 5 #[true, false, true, false, false, false, false] { tmps := #[.func (.yield l) #[] #[], .pointer (some ⟨C, 0, none⟩), .pointer (some ⟨Y, 0, none⟩), .pointer (some ⟨P, 0, none⟩), .pointer (some ⟨X, 0, none⟩), b5, b6, b7, .func (.yield l) #[] #[], undef, sP B, undef, undef, undef, undef, undef, undef], defers := [] } w1 := fun w1 t => by
    obtain ⟨c0, c1, c2, c3, c4⟩ := hc w1 t
    refine wpAnyIn_ready (rs := [1, 3]) (by kernel_rfl) (by simp) ?_
    refine AllReadyIn.cons rfl (fun K hK => ?_) ?_
    · go_simp
      exact hK _ _ (H11100 w1 t)
    refine AllReadyIn.cons rfl (fun K hK => ?_) ?_
    · go_simp
      exact hK _ _ (H10110 w1 t)
    exact AllReadyIn.nil
  have H10010 : ∀ w1, Touch (fun _ => False) w w1 → wpAnyIn (Fence.wide.inRound q) n Try.prog .any all4 Q 5 #[true, false, false, true, false, false, false] { tmps := #[.func (.yield l) #[] #[], .pointer (some ⟨C, 0, none⟩), .pointer (some ⟨Y, 0, none⟩), .pointer (some ⟨P, 0, none⟩), .pointer (some ⟨X, 0, none⟩), b5, b6, b7, .func (.yield l) #[] #[], undef, undef, spV x, undef, undef, undef, undef, undef], defers := [] } w1 := fun w1 t => by
    obtain ⟨c0, c1, c2, c3, c4⟩ := hc w1 t
    refine wpAnyIn_ready (rs := [1, 2]) (by kernel_rfl) (by simp) ?_
    refine AllReadyIn.cons rfl (fun K hK => ?_) ?_
    · go_simp
      exact hK _ _ (H11010 w1 t)
    refine AllReadyIn.cons rfl (fun K hK => ?_) ?_
    · go_simp
      exact hK _ _ (H10110 w1 t)
    exact AllReadyIn.nil
  have H01100 : ∀ w1, Touch (fun _ => False) w w1 → wpAnyIn (Fence.wide.inRound q) n Try.prog .any all4 Q 5 #[false, true, true, false, false, false, false] { tmps := #[.func (.yield l) #[] #[], .pointer (some ⟨C, 0, none⟩), .pointer (some ⟨Y, 0, none⟩), .pointer (some ⟨P, 0, none⟩), .pointer (some ⟨X, 0, none⟩), b5, b6, b7, undef, iV (i : Int), sP B, undef, undef, undef, undef, undef, undef], defers := [] } w1 := fun w1 t => by
    obtain ⟨c0, c1, c2, c3, c4⟩ := hc w1 t
    refine wpAnyIn_ready (rs := [0, 3]) (by kernel_rfl) (by simp) ?_
    refine AllReadyIn.cons rfl (fun K hK => ?_) ?_
    · go_simp
      exact hK _ _ (H11100 w1 t)
    refine AllReadyIn.cons rfl (fun K hK => ?_) ?_
    · go_simp
      exact hK _ _ (H01110 w1 t)
    exact AllReadyIn.nil
  have H01010 : ∀ w1, Touch (fun _ => False) w w1 → wpAnyIn (Fence.wide.inRound q) n Try.prog .any all4 Q 5 #[false, true, false, true, false, false, false] { tmps := #[.func (.yield l) #[] #[], .pointer (some ⟨C, 0, none⟩), .pointer (some ⟨Y, 0, none⟩), .pointer (some ⟨P, 0, none⟩), .pointer (some ⟨X, 0, none⟩), b5, b6, b7, undef, iV (i : Int), undef, spV x, undef, undef, undef, undef, undef], defers := [] } w1 := fun w1 t => by
    obtain ⟨c0, c1, c2, c3, c4⟩ := hc w1 t
    refine wpAnyIn_ready (rs := [0, 2]) (by kernel_rfl) (by simp) ?_
    refine AllReadyIn.cons rfl (fun K hK => ?_) ?_
    · go_simp
      exact hK _ _ (H11010 w1 t)
    refine AllReadyIn.cons rfl (fun K hK => ?_) ?_
    · go_simp
      exact hK _ _ (H01110 w1 t)
    exact AllReadyIn.nil
  have H00110 : ∀ w1, Touch (fun _ => False) w w1 → wpAnyIn (Fence.wide.inRound q) n Try.prog .any all4 Q 5 #[false, false, true, true, false, false, false] { tmps := #[.func (.yield l) #[] #[], .pointer (some ⟨C, 0, none⟩), .pointer (some ⟨Y, 0, none⟩), .pointer (some ⟨P, 0, none⟩), .pointer (some ⟨X, 0, none⟩), b5, b6, b7, undef, undef, sP B, spV x, undef, undef, undef, undef, undef], defers := [] } w1 := fun w1 t => by
    obtain ⟨c0, c1, c2, c3, c4⟩ := hc w1 t
    refine wpAnyIn_ready (rs := [0, 1, 4]) (by kernel_rfl) (by simp) ?_
    refine AllReadyIn.cons rfl (fun K hK => ?_) ?_
    · go_simp
      exact hK _ _ (H10110 w1 t)
    refine AllReadyIn.cons rfl (fun K hK => ?_) ?_
    · go_simp
      exact hK _ _ (H01110 w1 t)
    refine AllReadyIn.cons rfl (fun K hK => ?_) ?_
    · gi_wp2_with fail
      refine ⟨trivial, wideN, (CallsIn.inRound q (callsIn_wide.2 (hu w1 t))).mono ?_⟩
      rintro e w2 ⟨rfl, t2⟩
      exact hK _ _ (H00111 w2 (t.trans t2))
    exact AllReadyIn.nil
  have H10000 : ∀ w1, Touch (fun _ => False) w w1 → wpAnyIn (Fence.wide.inRound q) n Try.prog .any all4 Q 6 #[true, false, false, false, false, false, false] { tmps := #[.func (.yield l) #[] #[], .pointer (some ⟨C, 0, none⟩), .pointer (some ⟨Y, 0, none⟩), .pointer (some ⟨P, 0, none⟩), .pointer (some ⟨X, 0, none⟩), b5, b6, b7, .func (.yield l) #[] #[], undef, undef, undef, undef, undef, undef, undef, undef], defers := [] } w1 := fun w1 t => by
    obtain ⟨c0, c1, c2, c3, c4⟩ := hc w1 t
    refine wpAnyIn_ready (rs := [1, 2, 3]) (by kernel_rfl) (by simp) ?_
    refine AllReadyIn.cons rfl (fun K hK => ?_) ?_
    · go_simp
      exact hK _ _ (H11000 w1 t)
    refine AllReadyIn.cons rfl (fun K hK => ?_) ?_
    · go_simp
      exact hK _ _ (H10100 w1 t)
    refine AllReadyIn.cons rfl (fun K hK => ?_) ?_
    · go_simp
      exact hK _ _ (H10010 w1 t)
    exact AllReadyIn.nil
  have H01000 : ∀ w1, Touch (fun _ => False) w w1 → wpAnyIn (Fence.wide.inRound q) n Try.prog .any all4 Q 6 #[false, true, false, false, false, false, false] { tmps := #[.func (.yield l) #[] #[], .pointer (some ⟨C, 0, none⟩), .pointer (some ⟨Y, 0, none⟩), .pointer (some ⟨P, 0, none⟩), .pointer (some ⟨X, 0, none⟩), b5, b6, b7, undef, iV (i : Int), undef, undef, undef, undef, undef, undef, undef], defers := [] } w1 := fun w1 t => by
    obtain ⟨c0, c1, c2, c3, c4⟩ := hc w1 t
    refine wpAnyIn_ready (rs := [0, 2, 3]) (by kernel_rfl) (by simp) ?_
    refine AllReadyIn.cons rfl (fun K hK => ?_) ?_
    · go_simp
      exact hK _ _ (H11000 w1 t)
    refine AllReadyIn.cons rfl (fun K hK => ?_) ?_
    · go_simp
      exact hK _ _ (H01100 w1 t)
    refine AllReadyIn.cons rfl (fun K hK => ?_) ?_
    · go_simp
      exact hK _ _ (H01010 w1 t)
    exact AllReadyIn.nil
  have H00100 : ∀ w1, Touch (fun _ => False) w w1 → wpAnyIn (Fence.wide.inRound q) n Try.prog .any all4 Q 6 #[false, false, true, false, false, false, false] { tmps := #[.func (.yield l) #[] #[], .pointer (some ⟨C, 0, none⟩), .pointer (some ⟨Y, 0, none⟩), .pointer (some ⟨P, 0, none⟩), .pointer (some ⟨X, 0, none⟩), b5, b6, b7, undef, undef, sP B, undef, undef, undef, undef, undef, undef], defers := [] } w1 := fun w1 t => by
    obtain ⟨c0, c1, c2, c3, c4⟩ := hc w1 t
    refine wpAnyIn_ready (rs := [0, 1, 3]) (by kernel_rfl) (by simp) ?_
    refine AllReadyIn.cons rfl (fun K hK => ?_) ?_
    · go_simp
      exact hK _ _ (H10100 w1 t)
    refine AllReadyIn.cons rfl (fun K hK => ?_) ?_
    · go_simp
      exact hK _ _ (H01100 w1 t)
    refine AllReadyIn.cons rfl (fun K hK => ?_) ?_
    · go_simp
      exact hK _ _ (H00110 w1 t)
    exact AllReadyIn.nil
  have H00010 : ∀ w1, Touch (fun _ => False) w w1 → wpAnyIn (Fence.wide.inRound q) n Try.prog .any all4 Q 6 #[false, false, false, true, false, false, false] { tmps := #[.func (.yield l) #[] #[], .pointer (some ⟨C, 0, none⟩), .pointer (some ⟨Y, 0, none⟩), .pointer (some ⟨P, 0, none⟩), .pointer (some ⟨X, 0, none⟩), b5, b6, b7, undef, undef, undef, spV x, undef, undef, undef, undef, undef], defers := [] } w1 := fun w1 t => by
    obtain ⟨c0, c1, c2, c3, c4⟩ := hc w1 t
    refine wpAnyIn_ready (rs := [0, 1, 2]) (by kernel_rfl) (by simp) ?_
    refine AllReadyIn.cons rfl (fun K hK => ?_) ?_
    · go_simp
      exact hK _ _ (H10010 w1 t)
    refine AllReadyIn.cons rfl (fun K hK => ?_) ?_
    · go_simp
      exact hK _ _ (H01010 w1 t)
    refine AllReadyIn.cons rfl (fun K hK => ?_) ?_
    · go_simp
      exact hK _ _ (H00110 w1 t)
    exact AllReadyIn.nil
  have H00000 : ∀ w1, Touch (fun _ => False) w w1 → wpAnyIn (Fence.wide.inRound q) n Try.prog .any all4 Q 7 #[false, false, false, false, false, false, false] { tmps := #[.func (.yield l) #[] #[], .pointer (some ⟨C, 0, none⟩), .pointer (some ⟨Y, 0, none⟩), .pointer (some ⟨P, 0, none⟩), .pointer (some ⟨X, 0, none⟩), b5, b6, b7, undef, undef, undef, undef, undef, undef, undef, undef, undef], defers := [] } w1 := fun w1 t => by
    obtain ⟨c0, c1, c2, c3, c4⟩ := hc w1 t
    refine wpAnyIn_ready (rs := [0, 1, 2, 3]) (by kernel_rfl) (by simp) ?_
    refine AllReadyIn.cons rfl (fun K hK => ?_) ?_
    · go_simp
      exact hK _ _ (H10000 w1 t)
    refine AllReadyIn.cons rfl (fun K hK => ?_) ?_
    · go_simp
      exact hK _ _ (H01000 w1 t)
    refine AllReadyIn.cons rfl (fun K hK => ?_) ?_
    · go_simp
      exact hK _ _ (H00100 w1 t)
    refine AllReadyIn.cons rfl (fun K hK => ?_) ?_
    · go_simp
      exact hK _ _ (H00010 w1 t)
    exact AllReadyIn.nil
  refine wpIn_region_any (by kernel_rfl) ?_
  exact H00000 _ (Touch.refl _ w).drew
end Go.Proofs.Ytnbphdmpbjahhaa

/- Package seq: the places and units of a sequence one after another: All's iterator, over spots'. -/
namespace Go.Proofs.Ytnbphdmpbjahhaa
open Go.RowKit Go.Shelf
set_option linter.unusedVariables false
set_option linter.unusedSimpArgs false
set_option maxRecDepth 100000
attribute [local go_sem] Oper.semAt_some

/-- Units with their places. -/
def numd (S : SS) (l : List Sp) : List (Nat × Un) := l.zipIdx.map fun p => (p.2, S.unit p.1)
theorem numd_snoc (S : SS) (l : List Sp) (x : Sp) : numd S (l ++ [x]) = numd S l ++ [(l.length, S.unit x)] := by
  unfold numd
  rw [List.zipIdx_append, List.map_append]; simp
theorem numd_pre (S : SS) {a b : List Sp} (h : a <+: b) : numd S a <+: numd S b := by
  obtain ⟨t, rfl⟩ := h
  unfold numd
  rw [List.zipIdx_append, List.map_append]
  exact List.prefix_append _ _
theorem numd_len (S : SS) (l : List Sp) : (numd S l).length = l.length := by simp [numd]
theorem Inv.spot_in {S : SS} (h : Inv S) {x : Sp} (hx : x ∈ S.spots) : x.run < S.runs.length ∧ 0 ≤ x.pos ∧ 0 ≤ (rn S.runs x.run).first.k ∧ (rn S.runs x.run).first.k + x.pos ≤ 18014398509481984 := by
  unfold SS.spots at hx
  obtain ⟨i, hi, hx⟩ := List.mem_flatMap.1 hx
  obtain ⟨j, hj, rfl⟩ := spotsFrom_mem hx
  have hl := (h.ordF.lab i).1 hi
  obtain ⟨z1, z2, z3, z4, z5⟩ := h.pcs i hl.1 hl.2
  have hr := h.runs (S.pc i).run z1 z2
  have h1 : 1 ≤ (rn S.runs (S.pc i).run).first.k := hr.2.2.2.2.2.2.2.2.2.2.1
  simp only
  exact ⟨z2, by omega, by omega, by omega⟩
abbrev allEnc (x : Nat × Un) : Array Value := #[iV (x.1 : Int), unV x.2]
/-- Between two rounds of the range over the spots. -/
structure AlI (S : SS) (J : List (Nat × Un) → (Nat → Prop) → World → Prop) (l : Nat) (Φ : Nat → Prop) (W : World) (m1 : Nat) (pre : List Sp) (Ω : Nat → Prop) (W' : World) (Ψ : Nat → Prop) : Prop where
  sub : ∀ k, Ψ k → Ω k
  lt : ∀ k, Ω k → k < W'.heap.size
  p : Ω (W.heap.size + 1)
  j : J (numd S pre) Ψ W'
  t : Touch Φ W W'
  s : Swells Φ Ψ m1
  y : W'.heap[W.heap.size]? = some (yO l 112)
  n : W'.heap[W.heap.size + 1]? = some (.cells #[iV (pre.length : Int)] 3 (0, 0))
def AlE (S : SS) (J : List (Nat × Un) → (Nat → Prop) → World → Prop) (l : Nat) (Φ : Nat → Prop) (W : World) (m1 : Nat) (pre : List Sp) (Ω : Nat → Prop) (W' : World) : Prop := ∃ Ψ, AlI S J l Φ W m1 pre Ω W' Ψ
theorem AlI.keep {S : SS} {J : List (Nat × Un) → (Nat → Prop) → World → Prop} {l : Nat} {Φ : Nat → Prop} {W : World} {m1 : Nat} {pre : List Sp} {Ω Ψ : Nat → Prop} {A B : World} (f : Foot W.heap.size J) (hw : W.heap.size + 2 ≤ m1) (h : AlI S J l Φ W m1 pre Ω A Ψ) (t : Touch (fun k => m1 ≤ k ∧ ¬ Ω k) A B) : AlI S J l Φ W m1 pre Ω B Ψ :=
  ⟨h.sub, fun k hk => Nat.lt_of_lt_of_le (h.lt k hk) t.size, h.p, (f.up (by omega : W.heap.size ≤ m1)).keep _ _ _ _ h.j (t.mono fun k _ q => ⟨q.1, fun x => q.2 (h.sub k x)⟩), h.t.then t fun k hk q => absurd q.1 (by omega), h.s, (t.block _ (lt_of_heap h.y) fun q => absurd q.1 (by omega)).trans h.y, (t.block _ (lt_of_heap h.n) fun q => absurd q.1 (by omega)).trans h.n⟩
theorem AlE.foot {S : SS} {J : List (Nat × Un) → (Nat → Prop) → World → Prop} {l : Nat} {Φ : Nat → Prop} {W : World} {m1 : Nat} (f : Foot W.heap.size J) (hw : W.heap.size + 2 ≤ m1) : Foot m1 (AlE S J l Φ W m1) :=
  ⟨fun s Ω A B ⟨Ψ, h⟩ t => ⟨Ψ, h.keep f hw t⟩, fun s Ω A ⟨Ψ, h⟩ => h.lt⟩
structure AlX (S : SS) (Jx : List (Nat × Un) → (Nat → Prop) → World → Prop) (Φ : Nat → Prop) (W : World) (m1 : Nat) (c : Code) (pre : List Sp) (Ω : Nat → Prop) (W' : World) : Prop where
  c : c = .ret
  j : ∃ ys Ψ, ys <+: numd S S.spots ∧ Jx ys Ψ W' ∧ (∀ k, Ψ k → Ω k) ∧ Swells Φ Ψ m1
  lt : ∀ k, Ω k → k < W'.heap.size
  t : Touch Φ W W'
theorem AlX.foot {S : SS} {Jx : List (Nat × Un) → (Nat → Prop) → World → Prop} {Φ : Nat → Prop} {W : World} {m1 : Nat} (f : Foot W.heap.size Jx) (hw : W.heap.size + 2 ≤ m1) (c : Code) : Foot m1 (AlX S Jx Φ W m1 c) :=
  ⟨fun s Ω A B h t => ⟨h.c, by obtain ⟨ys, Ψ, h1, h2, h3, h4⟩ := h.j; exact ⟨ys, Ψ, h1, (f.up (by omega : W.heap.size ≤ m1)).keep _ _ _ _ h2 (t.mono fun k _ q => ⟨q.1, fun x => q.2 (h3 k x)⟩), h3, h4⟩, fun k hk => Nat.lt_of_lt_of_le (h.lt k hk) t.size, h.t.then t fun k hk q => absurd q.1 (by omega)⟩, fun s Ω A h => h.lt⟩

set_option maxHeartbeats 8000000 in
theorem all_stops {w : World} {B : Bk} {S : SS} (h : SeqM w B S) (hi : Inv S) (C : Nat) (hC : w.heap[C]? = some (.cells #[sP B] 24 (0, 0))) :
    SeqP Try.prog 65 #[.pointer (some ⟨C, 0, none⟩)] allEnc (fun x => x = C ∨ B.has x) (numd S S.spots) w := fun l n' J Jx W Φ hW fJ fJx hR hY h0 => by
  have hCl : C < W.heap.size := Nat.lt_of_lt_of_le (lt_of_heap hC) hW.size
  have hBl : ∀ x, B.has x → x < W.heap.size := fun x hx => Nat.lt_of_lt_of_le (h.lt hx) hW.size
  have HB : Hid (∀ wr, Touch Φ W wr → wr.cell? ⟨C, 0, none⟩ = some (sP B)) := fun wr t => by
    have e := (hW.block _ (lt_of_heap hC) fun q => q (.inl rfl)).trans hC
    rw [cell_of_block ((t.block _ (lt_of_heap e) (hR C (.inl rfl))).trans e)]; rfl
  have HM : Hid (∀ wr, Touch Φ W wr → SeqM wr B S) := fun wr t => (h.keep hW fun x hx q => q (.inr hx)).keep t fun x hx => hR x (.inr hx)
  have HY : Hid _ := hY
  have HFJ : Hid (Foot W.heap.size J) := fJ
  have HFx : Hid (Foot W.heap.size Jx) := fJx
  have HRP : Hid (∀ (Ψ : Nat → Prop) m, W.heap.size ≤ m → Swells Φ Ψ m → ∀ x, (x = C ∨ B.has x) → ¬ Ψ x) := fun Ψ m hm hs x hx hp => by
    rcases hs x hp with q | q
    · exact hR x hx q
    · have h1 : x < W.heap.size := by
        rcases hx with rfl | hx
        · exact hCl
        · exact hBl x hx
      omega
  have HRn : Hid (∀ x, (x = C ∨ B.has x) → ¬ Φ x) := hR
  have HΦ : Hid (∀ k, Φ k → k < W.heap.size) := fJ.lt _ _ _ h0
  have HInv : Hid (Inv S) := hi
  have HBl : Hid (∀ x, B.has x → x < W.heap.size) := hBl
  have HTa : Hid (Touch (fun _ => False) W ((W.alloc (yO l 112)).alloc (.cells #[iV 0] 3))) := ((Touch.refl _ W).alloc _).alloc _
  have hc0 := HB.out _ (HTa.out.mono fun _ _ q => q.elim)
  have H0 : Hid (J [] Φ W) := h0
  have HCl : Hid (C < W.heap.size) := hCl
  clear hW hR hY hC h hi fJ fJx hBl h0 hCl
  refine callsIn_of_wp_marks Try.func65 rfl trivial ?_ rfl
  simp only [Try.ntmps65, List.size_toArray, List.length_cons, List.length_nil, Nat.reduceAdd, Nat.reduceSub, Array.replicate_succ, Array.replicate_zero, List.push_toArray, List.append_toArray, List.nil_append, List.cons_append]
  gi_wp2_with fail
  refine ⟨trivial, wideN, (callsIn_wide.2 (spots_any B.b _)).mono ?_⟩
  rintro e W1 ⟨rfl, hW1⟩
  rw [World.size_alloc, World.size_alloc]
  have hs1 : W1.heap.size = W.heap.size + 3 := by rw [hW1]; simp
  have t1' : Touch (fun _ => False) W W1 := by rw [hW1]; exact (((Touch.refl _ W).alloc _).alloc _).alloc _
  have t1 : Touch Φ W W1 := t1'.mono fun _ _ q => q.elim
  have y1 : W1.heap[W.heap.size]? = some (yO l 112) := by
    rw [hW1]; exact (Below.heap_alloc _ _ _ (by simp; omega)).trans ((Below.heap_alloc _ _ _ (by simp)).trans (World.alloc_heap_new W _))
  have n1 : W1.heap[W.heap.size + 1]? = some (.cells #[iV 0] 3 (0, 0)) := by
    have := World.alloc_heap_new (W.alloc (yO l 112)) (.cells #[iV 0] 3 (0, 0))
    rw [World.size_alloc] at this
    rw [hW1]; exact (Below.heap_alloc _ _ _ (by simp)).trans this
  have a1 : W1.heap[W.heap.size + 1 + 1]? = some (.cells #[sP B] 24 (0, 0)) := by
    have := World.alloc_heap_new ((W.alloc (yO l 112)).alloc (.cells #[iV 0] 3 (0, 0))) (.cells #[sP B] 24 (0, 0))
    rw [World.size_alloc, World.size_alloc] at this
    rw [hW1]; exact this
  clear hW1 hc0 HTa
  gi_wp2
  have HSp := spots_stops (HM.out W1 t1) HInv.out (W.heap.size + 1 + 1) a1
  refine wp_range (gf := 75) (lb := #[.pointer (some ⟨W.heap.size + 1 + 1, 0, none⟩)]) rfl (enters_of Try.func75 (by kernel_rfl) rfl)
    HSp (Touch.refl _ _) ?hRw (fun _ => rfl) (AlE S J l Φ W W1.heap.size) (AlX S Jx Φ W W1.heap.size) (AlE.foot HFJ.out (by omega)) (AlX.foot HFx.out (by omega)) (fun k => Φ k ∨ k = W.heap.size + 1) ?hR ?h0
    (fun x a' pre Ω W' => AlE S J l Φ W W1.heap.size pre Ω W' ∧ ∃ X, Ω X ∧ W'.heap[X]? = some (spO x) ∧ a' = { tmps := #[.func (.yield l) #[] #[], .pointer (some ⟨C, 0, none⟩), .pointer (some ⟨W.heap.size, 0, none⟩), .pointer (some ⟨W.heap.size + 1, 0, none⟩), .pointer (some ⟨X, 0, none⟩), sP B, .func (.func 75) #[] #[.pointer (some ⟨W.heap.size + 1 + 1, 0, none⟩)], spV x, undef, undef, undef, undef, undef, undef, undef, undef, undef], defers := [] }) ?fA ?assign ?body ?done ?stop
  case hRw =>
    rintro k (rfl | hk)
    · omega
    · have := HBl.out _ hk; omega
  case hR =>
    rintro k (rfl | hk) (q | q)
    · have := HΦ.out _ q; omega
    · omega
    · exact HRn.out _ (.inr hk) q
    · have := HBl.out _ hk; omega
  case h0 =>
    refine ⟨Φ, fun k h => .inl h, fun k h => ?_, .inr rfl, ?_, t1, Swells.refl _ _, y1, n1⟩
    · rcases h with h | h
      · have := HΦ.out _ h; omega
      · omega
    · exact HFJ.out.keep _ _ _ _ H0.out (t1'.mono fun _ _ q => q.elim)
  case fA =>
    refine fun x a' => ⟨?_, fun s Ω A q => (AlE.foot HFJ.out (by omega)).lt _ _ _ q.1⟩
    rintro s Ω A A2 ⟨q1, X, q2, q3, q4⟩ t
    exact ⟨(AlE.foot HFJ.out (by omega)).keep _ _ _ _ q1 t, X, q2, (t.block _ (lt_of_heap q3) fun h => h.2 q2).trans q3, q4⟩
  case assign =>
    rintro q pre x Ω W' K ⟨Ψ, hI⟩ hK
    gi_wp2
    refine hK _ _ (fun k => Ω k ∨ k = W'.heap.size) ((Touch.refl _ W').alloc _) (fun k h => h.imp id fun e => by omega) ⟨⟨Ψ, ?_⟩, W'.heap.size, .inr rfl, World.alloc_heap_new W' _, rfl⟩
    have t := (Touch.refl (fun _ => False) W').alloc (spO x)
    exact ⟨fun k h => .inl (hI.sub k h), fun k h => by rw [World.size_alloc]; rcases h with h | h; (have := hI.lt k h; omega); omega, .inl hI.p, HFJ.out.keep _ _ _ _ hI.j (t.mono fun _ _ q => q.elim), hI.t.trans (t.mono fun _ _ q => q.elim), hI.s, heap_keep t hI.y, heap_keep t hI.n⟩
  case body =>
    rintro q pre x a' Ω W2 hsz hRk hpre ⟨⟨Ψ, hI⟩, X, hX, hXb, rfl⟩
    have hx := HInv.out.spot_in (hpre.subset (by simp) : x ∈ S.spots)
    have HPj : Hid (numd S pre ++ [(pre.length, S.unit x)] <+: numd S S.spots) := by
      rw [Hid, ← numd_snoc]; exact numd_pre S hpre
    have HI : Hid (AlI S J l Φ W W1.heap.size pre Ω W2 Ψ) := hI
    have HSn : Hid (numd S (pre ++ [x]) = numd S pre ++ [(pre.length, S.unit x)]) := numd_snoc S pre x
    have HW1 : Hid (W1.heap.size = W.heap.size + 3) := hs1
    have HRr : Hid (∀ k, (k = C ∨ B.has k) → ¬ Ψ k) := HRP.out Ψ W1.heap.size (by omega) hI.s
    have HnY : Hid (¬ Ψ W.heap.size ∧ ¬ Ψ (W.heap.size + 1)) := ⟨fun h => by
        rcases hI.s _ h with h | h
        · have := HΦ.out _ h; omega
        · omega, fun h => by
        rcases hI.s _ h with h | h
        · have := HΦ.out _ h; omega
        · omega⟩
    have HXb : Hid (W2.heap[X]? = some (spO x)) := hXb
    have hlen : pre.length < 9007199254740992 := by
      have h1 := hpre.length_le
      have h2 := HInv.out.spots_len
      have h3 := HInv.out.smax
      rw [List.length_append] at h1
      simp only [List.length_singleton] at h1
      omega
    have HS2 : Hid (W1.heap.size ≤ W2.heap.size) := by rw [Hid]; omega
    clear t1 t1' y1 n1 a1 HSp hRk hpre hI hX hXb hs1 hsz
    gi_wp2
    refine all_reg4 l C W.heap.size (W.heap.size + 1) X pre.length B x (S.unit x) _ _ _ (fun w' t => ?_) (fun w' t => ?_) (fun w1 t => ?_)
    · have e1 := heap_keep t HI.out.y
      have e2 := heap_keep t HI.out.n
      have e3 := heap_keep t HXb.out
      exact ⟨by rw [cell_of_block e1]; rfl, by rw [cell_of_block e2]; rfl, HB.out w' (HI.out.t.trans (t.mono fun _ _ q => q.elim)), by rw [cell_of_block e3]; rfl, by rw [cell_of_block e3]; rfl⟩
    · exact unit_any (HM.out w' (HI.out.t.trans (t.mono fun _ _ q => q.elim))).runs x hx.1 hx.2.1 hx.2.2.1 hx.2.2.2
    · have HT : Hid (Touch (fun _ => False) W2 w1) := t
      have hJ1 : J (numd S pre) Ψ w1 := HFJ.out.keep _ _ _ _ HI.out.j (t.mono fun _ _ q => q.elim)
      obtain ⟨fn, tmps, assign, body, hyy, hRd⟩ := HY.out _ (pre.length, S.unit x) Ψ w1 hJ1 HRr.out HPj.out 0
      clear t hJ1
      dsimp only [allEnc] at hyy
      refine wpAnyIn_ready (rs := [5]) (by kernel_rfl) (by simp) ?_
      refine AllReadyIn.cons rfl (fun K hK => ?_) AllReadyIn.nil
      go_simp
      refine ⟨wideN, (round_in q hRd).mono ?_⟩
      rintro e W3 ⟨t3, Ψ3, s3, (⟨rfl, hJ3⟩ | ⟨rfl, hJ3⟩)⟩
      · have HT23 : Hid (Touch Ψ W2 W3) := (HT.out.mono fun _ _ q => q.elim).trans t3
        have HTW : Hid (Touch Φ W W3) := HI.out.t.swell HT23.out fun k hk => (HI.out.s k hk).imp id fun h => by have := HW1.out; omega
        have HSW : Hid (Swells Φ Ψ3 W1.heap.size) := HI.out.s.trans s3 (by have := HT.out.size; have := HS2.out; omega)
        have HSO : Hid (Swells Ω (fun k => Ω k ∨ Ψ3 k) W2.heap.size) := fun k hk => by
          rcases hk with hk | hk
          · exact .inl hk
          · rcases s3 k hk with h | h
            · exact .inl (HI.out.sub k h)
            · exact .inr (Nat.le_trans HT.out.size h)
        have HLt : Hid (∀ k, Ω k ∨ Ψ3 k → k < W3.heap.size) := fun k hk => by
          rcases hk with hk | hk
          · exact Nat.lt_of_lt_of_le (HI.out.lt k hk) HT23.out.size
          · exact HFJ.out.lt _ _ _ hJ3 k hk
        have HnP3 : Hid (¬ Ψ3 (W.heap.size + 1)) := fun h => by
          rcases s3 _ h with h | h
          · exact HnY.out.2 h
          · have := HT.out.size; have := HS2.out; have := HW1.out; omega
        have y3 : W3.heap[W.heap.size]? = some (yO l 112) := (HT23.out.block _ (lt_of_heap HI.out.y) HnY.out.1).trans HI.out.y
        have n3 : W3.heap[W.heap.size + 1]? = some (.cells #[iV (pre.length : Int)] 3 (0, 0)) := (HT23.out.block _ (lt_of_heap HI.out.n) HnY.out.2).trans HI.out.n
        have c3 : W3.cell? ⟨W.heap.size + 1, 0, none⟩ = some (iV (pre.length : Int)) := by rw [cell_of_block n3]; rfl
        have f3 : W3.frozen? ⟨W.heap.size + 1, 0, none⟩ = false := free_of_block n3
        have HY3 : Hid (W3.heap[W.heap.size]? = some (yO l 112)) := y3
        have HN3 : Hid (W3.heap[W.heap.size + 1]? = some (.cells #[iV (pre.length : Int)] 3 (0, 0))) := n3
        have HJ3 : Hid (J (numd S pre ++ [(pre.length, S.unit x)]) Ψ3 W3) := hJ3
        clear hyy hRd t3 s3 hJ3 y3 n3
        refine hK _ _ ?_
        refine wpAnyIn_ready (rs := [6]) (by kernel_rfl) (by simp) ?_
        refine AllReadyIn.cons rfl (fun K hK => ?_) AllReadyIn.nil
        go_simp
        refine hK _ _ ?_
        clear hK K
        refine wpAnyIn_done (by kernel_rfl) ?_ _
        gi_wp2
        have ew : ((pre ++ [x]).length : Int) = (pre.length : Int) + 1 := by simp
        refine ⟨(HT23.out.mono fun k _ h => HI.out.sub k h).setCell _ _ fun _ => HI.out.p, (fun k => Ω k ∨ Ψ3 k), HSO.out, Ψ3, fun k h => .inr h, fun k h => by rw [size_setCell]; exact HLt.out k h, .inl HI.out.p, ?_, HTW.out.setCell _ _ fun h => absurd h (by simp only; omega), HSW.out, ?_, ?_⟩
        · rw [HSn.out]
          exact HFJ.out.keep _ _ _ _ HJ3.out ((Touch.refl _ W3).setCell _ _ fun _ => ⟨by show W.heap.size ≤ W.heap.size + 1; omega, HnP3.out⟩)
        · rw [heap_setCell_other _ _ _ _ (by simp only; omega)]; exact HY3.out
        · rw [ew]
          exact heap_setCell_same W3 (W.heap.size + 1) 0 _ HN3.out
      · have HT23 : Hid (Touch Ψ W2 W3) := (HT.out.mono fun _ _ q => q.elim).trans t3
        have HTW : Hid (Touch Φ W W3) := HI.out.t.swell HT23.out fun k hk => (HI.out.s k hk).imp id fun h => by have := HW1.out; omega
        have HSW : Hid (Swells Φ Ψ3 W1.heap.size) := HI.out.s.trans s3 (by have := HT.out.size; have := HS2.out; omega)
        have HSO : Hid (Swells Ω (fun k => Ω k ∨ Ψ3 k) W2.heap.size) := fun k hk => by
          rcases hk with hk | hk
          · exact .inl hk
          · rcases s3 k hk with h | h
            · exact .inl (HI.out.sub k h)
            · exact .inr (Nat.le_trans HT.out.size h)
        have HLt : Hid (∀ k, Ω k ∨ Ψ3 k → k < W3.heap.size) := fun k hk => by
          rcases hk with hk | hk
          · exact Nat.lt_of_lt_of_le (HI.out.lt k hk) HT23.out.size
          · exact HFx.out.lt _ _ _ hJ3 k hk
        have HJ3 : Hid (Jx (numd S pre ++ [(pre.length, S.unit x)]) Ψ3 W3) := hJ3
        clear hyy hRd t3 s3 hJ3
        refine hK _ _ ?_
        refine wpAnyIn_ready (rs := [6]) (by kernel_rfl) (by simp) ?_
        refine AllReadyIn.cons rfl (fun K hK => ?_) AllReadyIn.nil
        go_simp
        refine hK _ _ ?_
        clear hK K
        refine wpAnyIn_done (by kernel_rfl) ?_ _
        gi_wp2
        exact ⟨HT23.out.mono fun k _ h => HI.out.sub k h, (fun k => Ω k ∨ Ψ3 k), HSO.out, rfl, ⟨_, Ψ3, HPj.out, HJ3.out, fun k h => .inr h, HSW.out⟩, HLt.out, HTW.out⟩
  case done =>
    rintro D Ω W3 hD hnD hT hS ⟨Ψ, hI⟩ hK
    gi_wp2
    refine ⟨by simp, .inl ⟨_, _, rfl, run_takeDeferred hK, ?_⟩⟩
    exact ⟨_, results_none rfl _ _ _, ⟨_, rfl⟩, hI.t.putObj _ _ fun h => absurd h (by omega), Ψ, (Swells.refl Φ W.heap.size).trans hI.s (by omega), .inl (HFJ.out.keep _ _ _ _ hI.j ((Touch.refl _ W3).putObj _ _ fun _ => ⟨by omega, fun h => hnD (hI.sub _ h)⟩))⟩
  case stop =>
    rintro D c pre Ω W3 hD hnD hT hS hpre ⟨rfl, ⟨ys, Ψ, h1, h2, h3, h4⟩, hlt, ht⟩ hK
    gi_wp2
    refine ⟨by simp, .inl ⟨_, _, rfl, run_takeDeferred hK, ?_⟩⟩
    exact ⟨_, results_none rfl _ _ _, ⟨_, rfl⟩, ht.putObj _ _ fun h => absurd h (by omega), Ψ, (Swells.refl Φ W.heap.size).trans h4 (by omega), .inr ⟨ys, h1, HFx.out.keep _ _ _ _ h2 ((Touch.refl _ W3).putObj _ _ fun _ => ⟨by omega, fun h => hnD (h3 _ h)⟩)⟩⟩
end Go.Proofs.Ytnbphdmpbjahhaa
