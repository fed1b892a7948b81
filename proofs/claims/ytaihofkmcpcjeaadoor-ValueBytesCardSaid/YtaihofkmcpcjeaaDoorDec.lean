/- The contract of quireref2.Dec: decimal digits. -/
import Derived.Test.YtaihofkmcpcjeaaDoorPart1
import Derived.Test.YtaihofkmcpcjeaaDoorProg
import Derived.Laws.Concat
import Derived.Laws.BitsAllLaws
namespace Go.Proofs.YtaihofkmcpcjeaaDoor
open Go.RowKit
set_option linter.unusedVariables false

/-- Decimal digits ahead of what is there. -/
def decGo : Nat → Nat → ByteArray → ByteArray
  | 0, _, out => out
  | f + 1, n, out => if n / 10 = 0 then ⟨#[UInt8.ofNat (48 + n % 10)]⟩ ++ out else decGo f (n / 10) (⟨#[UInt8.ofNat (48 + n % 10)]⟩ ++ out)
def refDec (n : Int) : ByteArray := (if n < 0 then ⟨#[45]⟩ else ⟨#[]⟩) ++ decGo 20 n.natAbs ⟨#[]⟩

theorem digit_cut (d : Nat) (h : d < 10) : (ByteArray.mk #[48, 49, 50, 51, 52, 53, 54, 55, 56, 57]).extract d (d + 1) = ⟨#[UInt8.ofNat (48 + d)]⟩ := by
  have h' : d = 0 ∨ d = 1 ∨ d = 2 ∨ d = 3 ∨ d = 4 ∨ d = 5 ∨ d = 6 ∨ d = 7 ∨ d = 8 ∨ d = 9 := by omega
  rcases h' with rfl | rfl | rfl | rfl | rfl | rfl | rfl | rfl | rfl | rfl <;> decide +kernel

set_option maxRecDepth 100000 in
set_option maxHeartbeats 1000000 in
theorem ref_dec_up (n : Int) (hn : ¬ n < 0) (h1 : n < 9223372036854775808) (w : World) :
    Calls Tryd.prog 69 #[.int .i64 n] w fun e w' => e = .returned (.string (refDec n)) ∧ w' = w := by
  have h3 : wrap64 n = n := by rw [wrap64]; omega
  have h4 : n % 18446744073709551616 = n := by omega
  have HP : Hid (n.natAbs < 10 ^ 20) := by
    have : (10 : Nat) ^ 20 = 100000000000000000000 := by decide
    rw [Hid]; omega
  have HR : Hid (refDec n = ⟨#[]⟩ ++ decGo 20 n.natAbs ⟨#[]⟩) := by rw [Hid, refDec, if_neg hn]
  generalize refDec n = R at *
  go_enter Tryd.func69, Tryd.ntmps69
  go_wp2_with fail
  go_loopw [3, 5] (fun a b wr => ∃ N f : Nat, ∃ s : ByteArray, a = .int .u64 N ∧ b = .string s ∧ N < 10 ^ f ∧ f ≤ 20 ∧ 0 < f ∧ N < 18446744073709551616 ∧ s.size + f = 20 ∧ decGo f N s = decGo 20 n.natAbs ⟨#[]⟩ ∧ wr = w) (fun a _ _ => (intOf a).toNat)
  case atStart => exact ⟨n.natAbs, 20, ⟨#[]⟩, by congr 1; omega, rfl, HP.out, by omega, by omega, by omega, rfl, rfl, rfl⟩
  case round =>
    obtain ⟨N, f, s, rfl, rfl, hf, hf20, hf0, hN, hs, he, rfl⟩ := hrel
    obtain ⟨f, rfl⟩ : ∃ k, f = k + 1 := ⟨f - 1, by omega⟩
    have HE : Hid (decGo (f + 1) N s = decGo 20 n.natAbs ⟨#[]⟩) := he
    have HD : Hid ((ByteArray.mk #[48, 49, 50, 51, 52, 53, 54, 55, 56, 57]).extract (N % 10) (N % 10 + 1) = ⟨#[UInt8.ofNat (48 + N % 10)]⟩) := digit_cut _ (Nat.mod_lt _ (by decide))
    have HF : Hid (N < 10 ^ (f + 1)) := hf
    have HS : Hid ((ByteArray.mk #[UInt8.ofNat (48 + N % 10)] ++ s).size + f = 20) := by
      rw [Hid, ByteArray.size_append]
      show 1 + s.size + f = 20
      omega
    clear he hf
    by_cases hz : N / 10 = 0
    · have HQ : Hid (R = ⟨#[]⟩ ++ (⟨#[UInt8.ofNat (48 + N % 10)]⟩ ++ s)) := by rw [Hid, HR.out, ← HE.out, decGo, if_pos hz]
      go_wp2_with fail
      simp only [HD.out]
      go_ret
      exact ⟨congrArg (fun x => Ending.returned (.string x)) HQ.out.symm, rfl⟩
    · have HQ : Hid (decGo f (N / 10) (⟨#[UInt8.ofNat (48 + N % 10)]⟩ ++ s) = decGo 20 n.natAbs ⟨#[]⟩) := by rw [Hid, ← HE.out, decGo, if_neg hz]
      have HG : Hid (N / 10 < 10 ^ f ∧ 0 < f) := by
        have h := HF.out
        rw [Nat.pow_succ] at h
        refine ⟨by omega, ?_⟩
        cases f with
        | zero => exact absurd h (by simp; omega)
        | succ k => omega
      go_wp2_with fail
      simp only [HD.out]
      go_roundw
      case rel => exact ⟨N / 10, f, _, by go_num, rfl, HG.out.1, by omega, HG.out.2, by omega, HS.out, HQ.out, trivial⟩
      case measure => simp [intOf]; omega

set_option maxRecDepth 100000 in
set_option maxHeartbeats 1000000 in
theorem ref_dec_down (n : Int) (hn : n < 0) (h1 : -9223372036854775808 ≤ n) (w : World) :
    Calls Tryd.prog 69 #[.int .i64 n] w fun e w' => e = .returned (.string (refDec n)) ∧ w' = w := by
  have HW : Hid (IntKind.u64.wrap (-IntKind.u64.wrap n) = (n.natAbs : Int)) := by
    rw [Hid, IntKind.wrap_u64, IntKind.wrap_u64]; omega
  have HP : Hid (n.natAbs < 10 ^ 20) := by
    have : (10 : Nat) ^ 20 = 100000000000000000000 := by decide
    rw [Hid]; omega
  have HR : Hid (refDec n = ⟨#[45]⟩ ++ decGo 20 n.natAbs ⟨#[]⟩) := by rw [Hid, refDec, if_pos hn]
  generalize refDec n = R at *
  go_enter Tryd.func69, Tryd.ntmps69
  go_wp2_with fail
  go_loopw [3, 5] (fun a b wr => ∃ N f : Nat, ∃ s : ByteArray, a = .int .u64 N ∧ b = .string s ∧ N < 10 ^ f ∧ f ≤ 20 ∧ 0 < f ∧ N < 18446744073709551616 ∧ s.size + f = 20 ∧ decGo f N s = decGo 20 n.natAbs ⟨#[]⟩ ∧ wr = w) (fun a _ _ => (intOf a).toNat)
  case atStart => exact ⟨n.natAbs, 20, ⟨#[]⟩, congrArg (Value.int .u64) HW.out, rfl, HP.out, by omega, by omega, by omega, rfl, rfl, rfl⟩
  case round =>
    obtain ⟨N, f, s, rfl, rfl, hf, hf20, hf0, hN, hs, he, rfl⟩ := hrel
    obtain ⟨f, rfl⟩ : ∃ k, f = k + 1 := ⟨f - 1, by omega⟩
    have HE : Hid (decGo (f + 1) N s = decGo 20 n.natAbs ⟨#[]⟩) := he
    have HD : Hid ((ByteArray.mk #[48, 49, 50, 51, 52, 53, 54, 55, 56, 57]).extract (N % 10) (N % 10 + 1) = ⟨#[UInt8.ofNat (48 + N % 10)]⟩) := digit_cut _ (Nat.mod_lt _ (by decide))
    have HF : Hid (N < 10 ^ (f + 1)) := hf
    have HS : Hid ((ByteArray.mk #[UInt8.ofNat (48 + N % 10)] ++ s).size + f = 20) := by
      rw [Hid, ByteArray.size_append]
      show 1 + s.size + f = 20
      omega
    clear he hf
    by_cases hz : N / 10 = 0
    · have HQ : Hid (R = ⟨#[45]⟩ ++ (⟨#[UInt8.ofNat (48 + N % 10)]⟩ ++ s)) := by rw [Hid, HR.out, ← HE.out, decGo, if_pos hz]
      go_wp2_with fail
      simp only [HD.out]
      go_ret
      exact ⟨congrArg (fun x => Ending.returned (.string x)) HQ.out.symm, rfl⟩
    · have HQ : Hid (decGo f (N / 10) (⟨#[UInt8.ofNat (48 + N % 10)]⟩ ++ s) = decGo 20 n.natAbs ⟨#[]⟩) := by rw [Hid, ← HE.out, decGo, if_neg hz]
      have HG : Hid (N / 10 < 10 ^ f ∧ 0 < f) := by
        have h := HF.out
        rw [Nat.pow_succ] at h
        refine ⟨by omega, ?_⟩
        cases f with
        | zero => exact absurd h (by simp; omega)
        | succ k => omega
      go_wp2_with fail
      simp only [HD.out]
      go_roundw
      case rel => exact ⟨N / 10, f, _, by go_num, rfl, HG.out.1, by omega, HG.out.2, by omega, HS.out, HQ.out, trivial⟩
      case measure => simp [intOf]; omega

theorem ref_dec (n : Int) (h0 : -9223372036854775808 ≤ n) (h1 : n < 9223372036854775808) (w : World) :
    Calls Tryd.prog 69 #[.int .i64 n] w fun e w' => e = .returned (.string (refDec n)) ∧ w' = w := by
  by_cases h : n < 0
  · exact ref_dec_down n h h0 w
  · exact ref_dec_up n h h1 w
end Go.Proofs.YtaihofkmcpcjeaaDoor
