/- Unlike values have unlike texts and bytes. It speaks of no program. -/
import Derived.Test.YtijkekkjiboomaaGreatDoorPart8
import Derived.Test.YtijkekkjiboomaaGreatDoorPart4
import Derived.Lib.ItoaNum
import Derived.WalkKit
import Derived.Test.YtijkekkjiboomaaGreatDoorPart1
import Derived.Test.YtijkekkjiboomaaGreatDoorProg
import Derived.Laws.Concat
import Derived.Laws.BitsAllLaws
namespace Go.Proofs.YtijkekkjiboomaaGreatDoor
open Go.RowKit
set_option linter.unusedVariables false
set_option linter.unusedSimpArgs false
set_option maxRecDepth 10000

/-! ### Digits -/
def decVal (l : List UInt8) : Nat := l.foldl (fun a d => a * 10 + (d.toNat - 48)) 0
theorem decVal_snoc (l : List UInt8) (d : UInt8) : decVal (l ++ [d]) = decVal l * 10 + (d.toNat - 48) := by
  unfold decVal; rw [List.foldl_append]; rfl
theorem digit_toNat (d : Nat) (h : d < 10) : (UInt8.ofNat (48 + d)).toNat = 48 + d := by
  rw [UInt8.toNat_ofNat']; omega
theorem decDigits_val (u : Nat) : decVal (Go.Lib.decDigits u) = u ∧ Go.Lib.decDigits u ≠ [] ∧ ∀ c ∈ Go.Lib.decDigits u, 48 ≤ c.toNat ∧ c.toNat < 58 := by
  induction u using Nat.strongRecOn with
  | ind u ih =>
    rw [Go.Lib.decDigits]
    by_cases h : u < 10
    · rw [dif_pos h]
      have hd := digit_toNat u h
      refine ⟨?_, by simp, ?_⟩
      · show 0 * 10 + ((UInt8.ofNat (48 + u)).toNat - 48) = u
        rw [hd]; omega
      · intro c hc
        rw [List.mem_singleton] at hc
        subst hc; rw [hd]; omega
    · rw [dif_neg h]
      obtain ⟨h1, h2, h3⟩ := ih (u / 10) (by omega)
      have hd := digit_toNat (u % 10) (Nat.mod_lt _ (by decide))
      refine ⟨?_, by simp, ?_⟩
      · rw [decVal_snoc, h1, hd]; omega
      · intro c hc
        rw [List.mem_append] at hc
        rcases hc with hc | hc
        · exact h3 c hc
        · rw [List.mem_singleton] at hc
          subst hc; rw [hd]; omega
theorem itoa_inj {a b : Int} (h : Go.Lib.itoa a = Go.Lib.itoa b) : a = b := by
  unfold Go.Lib.itoa at h
  have no : ∀ u (l : List UInt8), Go.Lib.decDigits u ≠ 45 :: l := by
    intro u l e
    have := (decDigits_val u).2.2 45 (by rw [e]; simp)
    have h45 : (45 : UInt8).toNat = 45 := rfl
    omega
  by_cases ha : a < 0 <;> by_cases hb : b < 0
  · rw [if_pos ha, if_pos hb] at h
    have := congrArg decVal (List.cons.inj h).2
    rw [(decDigits_val _).1, (decDigits_val _).1] at this; omega
  · rw [if_pos ha, if_neg hb] at h; exact absurd h.symm (no _ _)
  · rw [if_neg ha, if_pos hb] at h; exact absurd h (no _ _)
  · rw [if_neg ha, if_neg hb] at h
    have := congrArg decVal h
    rw [(decDigits_val _).1, (decDigits_val _).1] at this; omega

/-! ### Quotes -/
theorem quoteGo_inj {a b : List UInt8} (h : quoteGo a = quoteGo b) : a = b := by
  induction a generalizing b with
  | nil =>
    cases b with
    | nil => rfl
    | cons d ds => simp only [quoteGo] at h; split at h <;> cases h
  | cons c cs ih =>
    cases b with
    | nil => simp only [quoteGo] at h; split at h <;> cases h
    | cons d ds =>
      simp only [quoteGo] at h
      by_cases hc : c = 34 ∨ c = 92 <;> by_cases hd : d = 34 ∨ d = 92
      · rw [if_pos hc, if_pos hd] at h
        injection h with _ h; injection h with h1 h2
        rw [h1, ih h2]
      · rw [if_pos hc, if_neg hd] at h
        injection h with h1 h2
        exact absurd (.inr h1.symm) hd
      · rw [if_neg hc, if_pos hd] at h
        injection h with h1 h2
        exact absurd (.inr h1) hc
      · rw [if_neg hc, if_neg hd] at h
        injection h with h1 h2
        rw [h1, ih h2]

/-! ### Numbers in bytes: none begins another -/
theorem putGo_free {f : Nat} {n m : Nat} {x y : List UInt8} (hn : n < 2 * 128 ^ f) (hm : m < 2 * 128 ^ f) (h : putGo f n ++ x = putGo f m ++ y) : n = m ∧ x = y := by
  induction f generalizing n m with
  | zero =>
    simp only [putGo, List.singleton_append] at h
    injection h with h1 h2
    have := congrArg UInt8.toNat h1
    rw [UInt8.toNat_ofNat', UInt8.toNat_ofNat'] at this
    simp at hn hm
    exact ⟨by omega, h2⟩
  | succ f ih =>
    simp only [putGo] at h
    have hp : 128 ^ (f + 1) = 128 ^ f * 128 := Nat.pow_succ _ _
    by_cases h1 : n < 128 <;> by_cases h2 : m < 128
    · rw [if_pos h1, if_pos h2] at h
      simp only [List.singleton_append] at h
      injection h with e1 e2
      have := congrArg UInt8.toNat e1
      rw [UInt8.toNat_ofNat', UInt8.toNat_ofNat'] at this
      exact ⟨by omega, e2⟩
    · rw [if_pos h1, if_neg h2] at h
      simp only [List.singleton_append, List.cons_append] at h
      injection h with e1 e2
      have := congrArg UInt8.toNat e1
      rw [UInt8.toNat_ofNat', UInt8.toNat_ofNat'] at this
      omega
    · rw [if_neg h1, if_pos h2] at h
      simp only [List.singleton_append, List.cons_append] at h
      injection h with e1 e2
      have := congrArg UInt8.toNat e1
      rw [UInt8.toNat_ofNat', UInt8.toNat_ofNat'] at this
      omega
    · rw [if_neg h1, if_neg h2] at h
      simp only [List.cons_append] at h
      injection h with e1 e2
      have := congrArg UInt8.toNat e1
      rw [UInt8.toNat_ofNat', UInt8.toNat_ofNat'] at this
      obtain ⟨e3, e4⟩ := ih (by omega) (by omega) e2
      exact ⟨by omega, e4⟩
theorem putU_free {n m : Nat} {x y : List UInt8} (hn : n < 18446744073709551616) (hm : m < 18446744073709551616) (h : putU n ++ x = putU m ++ y) : n = m ∧ x = y :=
  putGo_free (f := 9) (by have : 2 * 128 ^ 9 = 18446744073709551616 := by decide
                          omega) (by have : 2 * 128 ^ 9 = 18446744073709551616 := by decide
                                     omega) h
theorem unzz_inj {a b : Int} (h : unzz a = unzz b) : a = b := by
  unfold unzz at h; split at h <;> split at h <;> omega
theorem mod_pows {b n m : Nat} (k : Nat) (h : ∀ j, j < k → n / b ^ j % b = m / b ^ j % b) : n % b ^ k = m % b ^ k := by
  induction k with
  | zero => simp [Nat.mod_one]
  | succ k ih => rw [Nat.mod_pow_succ, Nat.mod_pow_succ, ih (fun j hj => h j (by omega)), h k (by omega)]
theorem putF_inj {n m : Nat} (hn : n < 18446744073709551616) (hm : m < 18446744073709551616) (h : putF n = putF m) : n = m := by
  have key : ∀ j, j < 8 → n / 256 ^ j % 256 = m / 256 ^ j % 256 := by
    intro j hj
    have e := congrArg (fun l => l[7 - j]?) h
    simp only [putF, List.getElem?_map, List.getElem?_range (show 7 - j < 8 by omega), Option.map_some, Option.some.injEq] at e
    have e2 := congrArg UInt8.toNat e
    rw [UInt8.toNat_ofNat', UInt8.toNat_ofNat'] at e2
    have e3 : (2 : Nat) ^ (56 - 8 * (7 - j)) = 256 ^ j := by rw [show (256 : Nat) = 2 ^ 8 from rfl, ← Nat.pow_mul]; congr 1; omega
    rw [e3] at e2
    exact e2
  have := mod_pows (b := 256) 8 key
  rw [show (256 : Nat) ^ 8 = 18446744073709551616 from by decide, Nat.mod_eq_of_lt hn, Nat.mod_eq_of_lt hm] at this
  exact this
end Go.Proofs.YtijkekkjiboomaaGreatDoor

/- A word in sixteen digits, as a list. It speaks of no program. -/
namespace Go.Proofs.YtijkekkjiboomaaGreatDoor
set_option linter.unusedVariables false

def hexDigits : List UInt8 := [48, 49, 50, 51, 52, 53, 54, 55, 56, 57, 97, 98, 99, 100, 101, 102]
/-- The k highest of sixteen digits. -/
def hexGo (n : Nat) (k : Nat) : List UInt8 := (List.range k).map fun j => hexDigits.getD (n / 16 ^ (15 - j) % 16) 0
theorem hexGo_succ (n k : Nat) : hexGo n (k + 1) = hexGo n k ++ [hexDigits.getD (n / 16 ^ (15 - k) % 16) 0] := by
  unfold hexGo; rw [List.range_succ, List.map_append]; rfl
theorem hexGo_length (n k : Nat) : (hexGo n k).length = k := by simp [hexGo]
end Go.Proofs.YtijkekkjiboomaaGreatDoor

/- The contract of quireref2.Dec: decimal digits. -/
namespace Go.Proofs.YtijkekkjiboomaaGreatDoor
open Go.RowKit
set_option linter.unusedVariables false

/-- Decimal digits ahead of what is there. -/
def decGo : Nat → Nat → ByteArray → ByteArray
  | 0, _, out => out
  | f + 1, n, out => if n / 10 = 0 then ⟨#[UInt8.ofNat (48 + n % 10)]⟩ ++ out else decGo f (n / 10) (⟨#[UInt8.ofNat (48 + n % 10)]⟩ ++ out)
def refDec (n : Int) : ByteArray := (if n < 0 then ⟨#[45]⟩ else ⟨#[]⟩) ++ decGo 20 n.natAbs ⟨#[]⟩

theorem digit_cut (d : Nat) (h : d < 10) : (ByteArray.mk #[48, 49, 50, 51, 52, 53, 54, 55, 56, 57]).extract d (d + 1) = ⟨#[UInt8.ofNat (48 + d)]⟩ := by
  have h' : d = 0 ∨ d = 1 ∨ d = 2 ∨ d = 3 ∨ d = 4 ∨ d = 5 ∨ d = 6 ∨ d = 7 ∨ d = 8 ∨ d = 9 := by omega
  rcases h' with rfl | rfl | rfl | rfl | rfl | rfl | rfl | rfl | rfl | rfl <;> decide +kernel

set_option maxRecDepth 100000 in
set_option maxHeartbeats 1000000 in
theorem ref_dec_up (n : Int) (hn : ¬ n < 0) (h1 : n < 9223372036854775808) (w : World) :
    Calls Tryz.prog 55 #[.int .i64 n] w fun e w' => e = .returned (.string (refDec n)) ∧ w' = w := by
  have h3 : wrap64 n = n := by rw [wrap64]; omega
  have h4 : n % 18446744073709551616 = n := by omega
  have HP : Hid (n.natAbs < 10 ^ 20) := by
    have : (10 : Nat) ^ 20 = 100000000000000000000 := by decide
    rw [Hid]; omega
  have HR : Hid (refDec n = ⟨#[]⟩ ++ decGo 20 n.natAbs ⟨#[]⟩) := by rw [Hid, refDec, if_neg hn]
  generalize refDec n = R at *
  go_enter Tryz.func55, Tryz.ntmps55
  go_wp2_with fail
  go_loopw [3, 5] (fun a b wr => ∃ N f : Nat, ∃ s : ByteArray, a = .int .u64 N ∧ b = .string s ∧ N < 10 ^ f ∧ f ≤ 20 ∧ 0 < f ∧ N < 18446744073709551616 ∧ s.size + f = 20 ∧ decGo f N s = decGo 20 n.natAbs ⟨#[]⟩ ∧ wr = w) (fun a _ _ => (intOf a).toNat)
  case atStart => exact ⟨n.natAbs, 20, ⟨#[]⟩, by congr 1; omega, rfl, HP.out, by omega, by omega, by omega, rfl, rfl, rfl⟩
  case round =>
    obtain ⟨N, f, s, rfl, rfl, hf, hf20, hf0, hN, hs, he, rfl⟩ := hrel
    obtain ⟨f, rfl⟩ : ∃ k, f = k + 1 := ⟨f - 1, by omega⟩
    have HE : Hid (decGo (f + 1) N s = decGo 20 n.natAbs ⟨#[]⟩) := he
    have HD : Hid ((ByteArray.mk #[48, 49, 50, 51, 52, 53, 54, 55, 56, 57]).extract (N % 10) (N % 10 + 1) = ⟨#[UInt8.ofNat (48 + N % 10)]⟩) := digit_cut _ (Nat.mod_lt _ (by decide))
    have HF : Hid (N < 10 ^ (f + 1)) := hf
    have HS : Hid ((ByteArray.mk #[UInt8.ofNat (48 + N % 10)] ++ s).size + f = 20) := by
      rw [Hid, ByteArray.size_append]
      show 1 + s.size + f = 20
      omega
    clear he hf
    by_cases hz : N / 10 = 0
    · have HQ : Hid (R = ⟨#[]⟩ ++ (⟨#[UInt8.ofNat (48 + N % 10)]⟩ ++ s)) := by rw [Hid, HR.out, ← HE.out, decGo, if_pos hz]
      go_wp2_with fail
      simp only [HD.out]
      go_ret
      exact ⟨congrArg (fun x => Ending.returned (.string x)) HQ.out.symm, rfl⟩
    · have HQ : Hid (decGo f (N / 10) (⟨#[UInt8.ofNat (48 + N % 10)]⟩ ++ s) = decGo 20 n.natAbs ⟨#[]⟩) := by rw [Hid, ← HE.out, decGo, if_neg hz]
      have HG : Hid (N / 10 < 10 ^ f ∧ 0 < f) := by
        have h := HF.out
        rw [Nat.pow_succ] at h
        refine ⟨by omega, ?_⟩
        cases f with
        | zero => exact absurd h (by simp; omega)
        | succ k => omega
      go_wp2_with fail
      simp only [HD.out]
      go_roundw
      case rel => exact ⟨N / 10, f, _, by go_num, rfl, HG.out.1, by omega, HG.out.2, by omega, HS.out, HQ.out, trivial⟩
      case measure => simp [intOf]; omega

set_option maxRecDepth 100000 in
set_option maxHeartbeats 1000000 in
theorem ref_dec_down (n : Int) (hn : n < 0) (h1 : -9223372036854775808 ≤ n) (w : World) :
    Calls Tryz.prog 55 #[.int .i64 n] w fun e w' => e = .returned (.string (refDec n)) ∧ w' = w := by
  have HW : Hid (IntKind.u64.wrap (-IntKind.u64.wrap n) = (n.natAbs : Int)) := by
    rw [Hid, IntKind.wrap_u64, IntKind.wrap_u64]; omega
  have HP : Hid (n.natAbs < 10 ^ 20) := by
    have : (10 : Nat) ^ 20 = 100000000000000000000 := by decide
    rw [Hid]; omega
  have HR : Hid (refDec n = ⟨#[45]⟩ ++ decGo 20 n.natAbs ⟨#[]⟩) := by rw [Hid, refDec, if_pos hn]
  generalize refDec n = R at *
  go_enter Tryz.func55, Tryz.ntmps55
  go_wp2_with fail
  go_loopw [3, 5] (fun a b wr => ∃ N f : Nat, ∃ s : ByteArray, a = .int .u64 N ∧ b = .string s ∧ N < 10 ^ f ∧ f ≤ 20 ∧ 0 < f ∧ N < 18446744073709551616 ∧ s.size + f = 20 ∧ decGo f N s = decGo 20 n.natAbs ⟨#[]⟩ ∧ wr = w) (fun a _ _ => (intOf a).toNat)
  case atStart => exact ⟨n.natAbs, 20, ⟨#[]⟩, congrArg (Value.int .u64) HW.out, rfl, HP.out, by omega, by omega, by omega, rfl, rfl, rfl⟩
  case round =>
    obtain ⟨N, f, s, rfl, rfl, hf, hf20, hf0, hN, hs, he, rfl⟩ := hrel
    obtain ⟨f, rfl⟩ : ∃ k, f = k + 1 := ⟨f - 1, by omega⟩
    have HE : Hid (decGo (f + 1) N s = decGo 20 n.natAbs ⟨#[]⟩) := he
    have HD : Hid ((ByteArray.mk #[48, 49, 50, 51, 52, 53, 54, 55, 56, 57]).extract (N % 10) (N % 10 + 1) = ⟨#[UInt8.ofNat (48 + N % 10)]⟩) := digit_cut _ (Nat.mod_lt _ (by decide))
    have HF : Hid (N < 10 ^ (f + 1)) := hf
    have HS : Hid ((ByteArray.mk #[UInt8.ofNat (48 + N % 10)] ++ s).size + f = 20) := by
      rw [Hid, ByteArray.size_append]
      show 1 + s.size + f = 20
      omega
    clear he hf
    by_cases hz : N / 10 = 0
    · have HQ : Hid (R = ⟨#[45]⟩ ++ (⟨#[UInt8.ofNat (48 + N % 10)]⟩ ++ s)) := by rw [Hid, HR.out, ← HE.out, decGo, if_pos hz]
      go_wp2_with fail
      simp only [HD.out]
      go_ret
      exact ⟨congrArg (fun x => Ending.returned (.string x)) HQ.out.symm, rfl⟩
    · have HQ : Hid (decGo f (N / 10) (⟨#[UInt8.ofNat (48 + N % 10)]⟩ ++ s) = decGo 20 n.natAbs ⟨#[]⟩) := by rw [Hid, ← HE.out, decGo, if_neg hz]
      have HG : Hid (N / 10 < 10 ^ f ∧ 0 < f) := by
        have h := HF.out
        rw [Nat.pow_succ] at h
        refine ⟨by omega, ?_⟩
        cases f with
        | zero => exact absurd h (by simp; omega)
        | succ k => omega
      go_wp2_with fail
      simp only [HD.out]
      go_roundw
      case rel => exact ⟨N / 10, f, _, by go_num, rfl, HG.out.1, by omega, HG.out.2, by omega, HS.out, HQ.out, trivial⟩
      case measure => simp [intOf]; omega

theorem ref_dec (n : Int) (h0 : -9223372036854775808 ≤ n) (h1 : n < 9223372036854775808) (w : World) :
    Calls Tryz.prog 55 #[.int .i64 n] w fun e w' => e = .returned (.string (refDec n)) ∧ w' = w := by
  by_cases h : n < 0
  · exact ref_dec_down n h h0 w
  · exact ref_dec_up n h h1 w
end Go.Proofs.YtijkekkjiboomaaGreatDoor
