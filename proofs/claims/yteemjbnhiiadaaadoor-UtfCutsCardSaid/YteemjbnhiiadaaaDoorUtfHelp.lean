/- The contract of quirehelp.Place. -/
import Derived.Test.YteemjbnhiiadaaaDoorLib
import Derived.Test.YteemjbnhiiadaaaDoorProg
namespace Go.Proofs.YteemjbnhiiadaaaDoor
open Go.RowKit
set_option linter.unusedVariables false

/-- quirehelp.Place: a place below n. -/
theorem help_place (k : Int) (n : Nat) (hn : 1 ≤ n) (hn2 : n ≤ 1000000) (hk : -9223372036854775808 ≤ k ∧ k ≤ 9223372036854775807) (w : World) : Calls Tryd.prog 20 #[.int .i64 k, .int .i64 (n : Int)] w fun e w' => (∃ p : Nat, p < n ∧ e = .returned (.int .i64 (p : Int))) ∧ w' = w := by
  have h1 : (n : Int) ≠ 0 := by omega
  have hlt := Int.tmod_lt_of_pos k (show (0 : Int) < (n : Int) by omega)
  have hgt : -(n : Int) < k.tmod (n : Int) := by
    have := Int.tmod_lt_of_pos (-k) (show (0 : Int) < (n : Int) by omega)
    rw [Int.neg_tmod] at this; omega
  have hnb : ((n : Int) == 0) = false := by rw [beq_eq_false_iff_ne]; exact h1
  by_cases hneg : k.tmod (n : Int) < 0
  · have HE : Hid (∃ p : Nat, p < n ∧ k.tmod (n : Int) + (n : Int) = (p : Int)) := ⟨(k.tmod (n : Int) + (n : Int)).toNat, by omega, by omega⟩
    go_enter Tryd.func20, Tryd.ntmps20
    go_wp2_with fail
    go_ret
    obtain ⟨p, hp, he⟩ := HE.out
    exact ⟨⟨p, hp, by rw [← he]; rfl⟩, rfl⟩
  · have HE : Hid (∃ p : Nat, p < n ∧ k.tmod (n : Int) = (p : Int)) := ⟨(k.tmod (n : Int)).toNat, by omega, by omega⟩
    go_enter Tryd.func20, Tryd.ntmps20
    go_wp2_with fail
    go_ret
    obtain ⟨p, hp, he⟩ := HE.out
    exact ⟨⟨p, hp, by rw [← he]; rfl⟩, rfl⟩
end Go.Proofs.YteemjbnhiiadaaaDoor
