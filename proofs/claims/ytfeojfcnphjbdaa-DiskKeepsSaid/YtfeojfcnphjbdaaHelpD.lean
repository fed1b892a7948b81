/- The contracts of quirehelp's Bytes and Place. -/
import Derived.Test.YtfeojfcnphjbdaaBClone
import Derived.Test.YtfeojfcnphjbdaaLiesS
import Derived.Laws.IdiomStrings
import Derived.Laws.BytesArg
namespace Go.Proofs.Ytfeojfcnphjbdaa
open Go.RowKit
set_option linter.unusedVariables false
set_option linter.unusedSimpArgs false

set_option maxRecDepth 100000 in
set_option maxHeartbeats 400000 in
theorem help_bytes (g g2 : Nat) (ao bo : Option Addr) (a b : List UInt8) (n m c d : Nat) (hn : n = a.length) (hm : m = b.length) (w : World) (h1 : Lies w g ao a) (h2 : Lies w g2 bo b) :
    Calls Try.prog 25 #[.slice ao n c, .slice bo m d] w fun e w' => e = .returned (.bool (a == b)) ∧ w' = w := by
  subst hn hm
  have k1 := lies_string h1 a.length c rfl
  have k2 := lies_string h2 b.length d rfl
  clear h1 h2
  go_enter Try.func25, Try.ntmps25
  go_wp2
  go_ret
  exact ⟨rfl, rfl⟩

/-- A place below m. -/
def place (k m : Int) : Int := if k.tmod m < 0 then k.tmod m + m else k.tmod m
theorem place_nat (k : Int) (m : Nat) (hm : 0 < m) : ∃ c : Nat, c < m ∧ place k m = (c : Int) := by
  have h1 := Int.tmod_lt_of_pos k (b := m) (by omega)
  have h2 := Int.lt_tmod_of_pos k (b := m) (by omega)
  refine ⟨(place k m).toNat, ?_, ?_⟩ <;> unfold place <;> split <;> omega

set_option maxRecDepth 100000 in
set_option maxHeartbeats 400000 in
theorem place_any (k m : Int) (hk : -9223372036854775808 ≤ k ∧ k ≤ 9223372036854775807) (hm : 0 < m ∧ m ≤ 4611686018427387904) (w : World) :
    Calls Try.prog 39 #[.int .i64 k, .int .i64 m] w fun e w' => e = .returned (.int .i64 (place k m)) ∧ w' = w := by
  have h1 := Int.tmod_lt_of_pos k hm.1
  have h2 := Int.lt_tmod_of_pos k hm.1
  have h0 : m ≠ 0 := by omega
  have h00 : (m == 0) = false := by simpa using h0
  unfold place
  by_cases e : k.tmod m < 0
  · rw [if_pos e]
    go_enter Try.func39, Try.ntmps39
    go_wp2
    go_ret
    first | exact ⟨rfl, rfl⟩ | trace_state
  · rw [if_neg e]
    go_enter Try.func39, Try.ntmps39
    go_wp2
    go_ret
    first | exact ⟨rfl, rfl⟩ | trace_state
end Go.Proofs.Ytfeojfcnphjbdaa
