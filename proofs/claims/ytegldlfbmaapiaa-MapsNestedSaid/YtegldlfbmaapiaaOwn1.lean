/- Bytes between marks, as lists. It speaks of no program. -/
import Derived.WalkKit
import Derived.Test.YtegldlfbmaapiaaPart10
import Derived.Test.YtegldlfbmaapiaaPart18
import Derived.Test.YtegldlfbmaapiaaPart9
import Derived.Lib.ItoaNum
import Derived.Test.YtegldlfbmaapiaaPart1
import Derived.Test.YtegldlfbmaapiaaProg
import Derived.Laws.Concat
import Derived.Laws.BitsAllLaws
import Derived.WalkLawsBesides
import Derived.Maps.AppendAt
import Derived.Laws.IdiomStrings
import Derived.Laws.IdiomRangeMap
import Derived.Test.YtegldlfbmaapiaaPart6
import Derived.BigQuiet
import Derived.Deep.RegionHeld3
import Derived.Deep.LoopGhost
import Derived.Deep.Cut
import Derived.Deep.CutBlock
namespace Go.Proofs.Ytegldlfbmaapiaa
open Go.RowKit
set_option linter.unusedVariables false

/-- Bytes with a stroke ahead of each mark and stroke. -/
def quoteGo : List UInt8 → List UInt8
  | [] => []
  | c :: cs => if c = 34 ∨ c = 92 then 92 :: c :: quoteGo cs else c :: quoteGo cs
theorem quoteGo_append (a b : List UInt8) : quoteGo (a ++ b) = quoteGo a ++ quoteGo b := by
  induction a with
  | nil => rfl
  | cons c cs ih =>
    simp only [List.cons_append, quoteGo, ih]
    split <;> rfl
theorem quoteGo_length (a : List UInt8) : (quoteGo a).length ≤ 2 * a.length := by
  induction a with
  | nil => simp [quoteGo]
  | cons c cs ih =>
    simp only [quoteGo]
    split <;> simp <;> omega
def refQuote (s : ByteArray) : ByteArray := ⟨(34 :: quoteGo s.data.toList ++ [34]).toArray⟩
end Go.Proofs.Ytegldlfbmaapiaa

/- What is written, as bytes: numbers, texts. It speaks of no program. -/
namespace Go.Proofs.Ytegldlfbmaapiaa
open Go.RowKit
set_option linter.unusedVariables false

/-- A number's bytes, f more at most. -/
def putGo : Nat → Nat → List UInt8
  | 0, n => [UInt8.ofNat n]
  | f + 1, n => if n < 128 then [UInt8.ofNat n] else UInt8.ofNat (n % 128 + 128) :: putGo f (n / 128)
def putU (n : Nat) : List UInt8 := putGo 9 n

theorem putGo_last {f n : Nat} (h : n < 128) : putGo f n = [UInt8.ofNat n] := by
  cases f with
  | zero => rfl
  | succ f => rw [putGo, if_pos h]
theorem putGo_more {f n : Nat} (h : ¬ n < 128) : putGo (f + 1) n = UInt8.ofNat (n % 128 + 128) :: putGo f (n / 128) := by rw [putGo, if_neg h]
theorem putGo_length : ∀ (f n : Nat), (putGo f n).length ≤ f + 1
  | 0, n => by simp [putGo]
  | f + 1, n => by
    rw [putGo]; split
    · simp
    · have := putGo_length f (n / 128); simp; omega

theorem u8_more (n : Nat) : bits .or .u8 ((n : Int) % 256) 128 = ((UInt8.ofNat (n % 128 + 128)).toNat : Int) := by
  have h : ∀ x : Fin 256, bits .or .u8 ((x : Nat) : Int) 128 = (((x : Nat) % 128 + 128 : Nat) : Int) := by decide +kernel
  have e : (n : Int) % 256 = ((n % 256 : Nat) : Int) := by omega
  have := h ⟨n % 256, Nat.mod_lt _ (by decide)⟩
  rw [e, this]
  simp only [UInt8.toNat_ofNat']
  omega
theorem u8_last (n : Nat) (h : n < 128) : (n : Int) = ((UInt8.ofNat n).toNat : Int) := by
  simp only [UInt8.toNat_ofNat']; omega

/-- The number with its sign in the lowest bit. -/
def unzz (n : Int) : Nat := if n < 0 then (-n).toNat * 2 - 1 else n.toNat * 2

theorem u64_xor_zero (a : Nat) (h : a < 18446744073709551616) : bits .xor .u64 (a : Int) 0 = a := by
  have := u64_xor_nat a 0 h (by decide)
  simpa using this
theorem u64_xor_ones (a : Nat) (h : a < 18446744073709551616) : bits .xor .u64 (a : Int) 18446744073709551615 = ((18446744073709551615 - a : Nat) : Int) := by
  show IntKind.u64.wrap ((BitVec.ofInt 64 (a : Int) ^^^ BitVec.ofInt 64 18446744073709551615).toNat : Int) = _
  have e : BitVec.ofInt 64 18446744073709551615 = BitVec.allOnes 64 := by decide
  rw [e, BitVec.xor_allOnes, BitVec.toNat_not, ofInt_u64 a h, IntKind.wrap_u64]; omega

theorem unzz_eq (n : Int) (h0 : -9223372036854775808 ≤ n) (h1 : n < 9223372036854775808) :
    bits .xor .u64 (IntKind.u64.wrap (IntKind.u64.wrap n * 2)) (IntKind.u64.wrap (n / 9223372036854775808)) = (unzz n : Int) ∧ unzz n < 18446744073709551616 := by
  have hb : unzz n < 18446744073709551616 := by unfold unzz; split <;> omega
  refine ⟨?_, hb⟩
  rw [IntKind.wrap_u64, IntKind.wrap_u64, IntKind.wrap_u64]
  by_cases hn : n < 0
  · have e1 : n / 9223372036854775808 % 18446744073709551616 = 18446744073709551615 := by omega
    obtain ⟨a, ha⟩ : ∃ a : Nat, (n % 18446744073709551616 * 2 % 18446744073709551616) = a := ⟨(n % 18446744073709551616 * 2 % 18446744073709551616).toNat, by omega⟩
    rw [e1, ha, u64_xor_ones a (by omega)]
    unfold unzz; rw [if_pos hn]; omega
  · have e1 : n / 9223372036854775808 % 18446744073709551616 = 0 := by omega
    obtain ⟨a, ha⟩ : ∃ a : Nat, (n % 18446744073709551616 * 2 % 18446744073709551616) = a := ⟨(n % 18446744073709551616 * 2 % 18446744073709551616).toNat, by omega⟩
    rw [e1, ha, u64_xor_zero a (by omega)]
    unfold unzz; rw [if_neg hn]; omega

/-- A number's eight bytes, the highest first. -/
def putF (n : Nat) : List UInt8 := (List.range 8).map fun k => UInt8.ofNat (n / 2 ^ (56 - 8 * k))

theorem putF_length (n : Nat) : (putF n).length = 8 := by simp [putF]
theorem putF_snoc (n k : Nat) (h : k < 8) : (putF n).take (k + 1) = (putF n).take k ++ [UInt8.ofNat (n / 2 ^ (56 - 8 * k))] := by
  rw [List.take_succ_eq_append_getElem (by rw [putF_length]; exact h)]
  simp [putF]

/-- A text's bytes. -/
def putT (s : ByteArray) : List UInt8 := putU s.size ++ s.data.toList

end Go.Proofs.Ytegldlfbmaapiaa

/- Unlike values have unlike texts and bytes. It speaks of no program. -/
namespace Go.Proofs.Ytegldlfbmaapiaa
open Go.RowKit
set_option linter.unusedVariables false
set_option linter.unusedSimpArgs false
set_option maxRecDepth 10000

/-! ### Digits -/
def decVal (l : List UInt8) : Nat := l.foldl (fun a d => a * 10 + (d.toNat - 48)) 0
theorem decVal_snoc (l : List UInt8) (d : UInt8) : decVal (l ++ [d]) = decVal l * 10 + (d.toNat - 48) := by
  unfold decVal; rw [List.foldl_append]; rfl
theorem digit_toNat (d : Nat) (h : d < 10) : (UInt8.ofNat (48 + d)).toNat = 48 + d := by
  rw [UInt8.toNat_ofNat']; omega
theorem decDigits_val (u : Nat) : decVal (Go.Lib.decDigits u) = u ∧ Go.Lib.decDigits u ≠ [] ∧ ∀ c ∈ Go.Lib.decDigits u, 48 ≤ c.toNat ∧ c.toNat < 58 := by
  induction u using Nat.strongRecOn with
  | ind u ih =>
    rw [Go.Lib.decDigits]
    by_cases h : u < 10
    · rw [dif_pos h]
      have hd := digit_toNat u h
      refine ⟨?_, by simp, ?_⟩
      · show 0 * 10 + ((UInt8.ofNat (48 + u)).toNat - 48) = u
        rw [hd]; omega
      · intro c hc
        rw [List.mem_singleton] at hc
        subst hc; rw [hd]; omega
    · rw [dif_neg h]
      obtain ⟨h1, h2, h3⟩ := ih (u / 10) (by omega)
      have hd := digit_toNat (u % 10) (Nat.mod_lt _ (by decide))
      refine ⟨?_, by simp, ?_⟩
      · rw [decVal_snoc, h1, hd]; omega
      · intro c hc
        rw [List.mem_append] at hc
        rcases hc with hc | hc
        · exact h3 c hc
        · rw [List.mem_singleton] at hc
          subst hc; rw [hd]; omega
theorem itoa_inj {a b : Int} (h : Go.Lib.itoa a = Go.Lib.itoa b) : a = b := by
  unfold Go.Lib.itoa at h
  have no : ∀ u (l : List UInt8), Go.Lib.decDigits u ≠ 45 :: l := by
    intro u l e
    have := (decDigits_val u).2.2 45 (by rw [e]; simp)
    have h45 : (45 : UInt8).toNat = 45 := rfl
    omega
  by_cases ha : a < 0 <;> by_cases hb : b < 0
  · rw [if_pos ha, if_pos hb] at h
    have := congrArg decVal (List.cons.inj h).2
    rw [(decDigits_val _).1, (decDigits_val _).1] at this; omega
  · rw [if_pos ha, if_neg hb] at h; exact absurd h.symm (no _ _)
  · rw [if_neg ha, if_pos hb] at h; exact absurd h (no _ _)
  · rw [if_neg ha, if_neg hb] at h
    have := congrArg decVal h
    rw [(decDigits_val _).1, (decDigits_val _).1] at this; omega

/-! ### Quotes -/
theorem quoteGo_inj {a b : List UInt8} (h : quoteGo a = quoteGo b) : a = b := by
  induction a generalizing b with
  | nil =>
    cases b with
    | nil => rfl
    | cons d ds => simp only [quoteGo] at h; split at h <;> cases h
  | cons c cs ih =>
    cases b with
    | nil => simp only [quoteGo] at h; split at h <;> cases h
    | cons d ds =>
      simp only [quoteGo] at h
      by_cases hc : c = 34 ∨ c = 92 <;> by_cases hd : d = 34 ∨ d = 92
      · rw [if_pos hc, if_pos hd] at h
        injection h with _ h; injection h with h1 h2
        rw [h1, ih h2]
      · rw [if_pos hc, if_neg hd] at h
        injection h with h1 h2
        exact absurd (.inr h1.symm) hd
      · rw [if_neg hc, if_pos hd] at h
        injection h with h1 h2
        exact absurd (.inr h1) hc
      · rw [if_neg hc, if_neg hd] at h
        injection h with h1 h2
        rw [h1, ih h2]

/-! ### Numbers in bytes: none begins another -/
theorem putGo_free {f : Nat} {n m : Nat} {x y : List UInt8} (hn : n < 2 * 128 ^ f) (hm : m < 2 * 128 ^ f) (h : putGo f n ++ x = putGo f m ++ y) : n = m ∧ x = y := by
  induction f generalizing n m with
  | zero =>
    simp only [putGo, List.singleton_append] at h
    injection h with h1 h2
    have := congrArg UInt8.toNat h1
    rw [UInt8.toNat_ofNat', UInt8.toNat_ofNat'] at this
    simp at hn hm
    exact ⟨by omega, h2⟩
  | succ f ih =>
    simp only [putGo] at h
    have hp : 128 ^ (f + 1) = 128 ^ f * 128 := Nat.pow_succ _ _
    by_cases h1 : n < 128 <;> by_cases h2 : m < 128
    · rw [if_pos h1, if_pos h2] at h
      simp only [List.singleton_append] at h
      injection h with e1 e2
      have := congrArg UInt8.toNat e1
      rw [UInt8.toNat_ofNat', UInt8.toNat_ofNat'] at this
      exact ⟨by omega, e2⟩
    · rw [if_pos h1, if_neg h2] at h
      simp only [List.singleton_append, List.cons_append] at h
      injection h with e1 e2
      have := congrArg UInt8.toNat e1
      rw [UInt8.toNat_ofNat', UInt8.toNat_ofNat'] at this
      omega
    · rw [if_neg h1, if_pos h2] at h
      simp only [List.singleton_append, List.cons_append] at h
      injection h with e1 e2
      have := congrArg UInt8.toNat e1
      rw [UInt8.toNat_ofNat', UInt8.toNat_ofNat'] at this
      omega
    · rw [if_neg h1, if_neg h2] at h
      simp only [List.cons_append] at h
      injection h with e1 e2
      have := congrArg UInt8.toNat e1
      rw [UInt8.toNat_ofNat', UInt8.toNat_ofNat'] at this
      obtain ⟨e3, e4⟩ := ih (by omega) (by omega) e2
      exact ⟨by omega, e4⟩
theorem putU_free {n m : Nat} {x y : List UInt8} (hn : n < 18446744073709551616) (hm : m < 18446744073709551616) (h : putU n ++ x = putU m ++ y) : n = m ∧ x = y :=
  putGo_free (f := 9) (by have : 2 * 128 ^ 9 = 18446744073709551616 := by decide
                          omega) (by have : 2 * 128 ^ 9 = 18446744073709551616 := by decide
                                     omega) h
theorem unzz_inj {a b : Int} (h : unzz a = unzz b) : a = b := by
  unfold unzz at h; split at h <;> split at h <;> omega
theorem mod_pows {b n m : Nat} (k : Nat) (h : ∀ j, j < k → n / b ^ j % b = m / b ^ j % b) : n % b ^ k = m % b ^ k := by
  induction k with
  | zero => simp [Nat.mod_one]
  | succ k ih => rw [Nat.mod_pow_succ, Nat.mod_pow_succ, ih (fun j hj => h j (by omega)), h k (by omega)]
theorem putF_inj {n m : Nat} (hn : n < 18446744073709551616) (hm : m < 18446744073709551616) (h : putF n = putF m) : n = m := by
  have key : ∀ j, j < 8 → n / 256 ^ j % 256 = m / 256 ^ j % 256 := by
    intro j hj
    have e := congrArg (fun l => l[7 - j]?) h
    simp only [putF, List.getElem?_map, List.getElem?_range (show 7 - j < 8 by omega), Option.map_some, Option.some.injEq] at e
    have e2 := congrArg UInt8.toNat e
    rw [UInt8.toNat_ofNat', UInt8.toNat_ofNat'] at e2
    have e3 : (2 : Nat) ^ (56 - 8 * (7 - j)) = 256 ^ j := by rw [show (256 : Nat) = 2 ^ 8 from rfl, ← Nat.pow_mul]; congr 1; omega
    rw [e3] at e2
    exact e2
  have := mod_pows (b := 256) 8 key
  rw [show (256 : Nat) ^ 8 = 18446744073709551616 from by decide, Nat.mod_eq_of_lt hn, Nat.mod_eq_of_lt hm] at this
  exact this
end Go.Proofs.Ytegldlfbmaapiaa

/- A word in sixteen digits, as a list. It speaks of no program. -/
namespace Go.Proofs.Ytegldlfbmaapiaa
set_option linter.unusedVariables false

def hexDigits : List UInt8 := [48, 49, 50, 51, 52, 53, 54, 55, 56, 57, 97, 98, 99, 100, 101, 102]
/-- The k highest of sixteen digits. -/
def hexGo (n : Nat) (k : Nat) : List UInt8 := (List.range k).map fun j => hexDigits.getD (n / 16 ^ (15 - j) % 16) 0
theorem hexGo_succ (n k : Nat) : hexGo n (k + 1) = hexGo n k ++ [hexDigits.getD (n / 16 ^ (15 - k) % 16) 0] := by
  unfold hexGo; rw [List.range_succ, List.map_append]; rfl
theorem hexGo_length (n k : Nat) : (hexGo n k).length = k := by simp [hexGo]
end Go.Proofs.Ytegldlfbmaapiaa

/- The contract of quireref2.Dec: decimal digits. -/
namespace Go.Proofs.Ytegldlfbmaapiaa
open Go.RowKit
set_option linter.unusedVariables false

/-- Decimal digits ahead of what is there. -/
def decGo : Nat → Nat → ByteArray → ByteArray
  | 0, _, out => out
  | f + 1, n, out => if n / 10 = 0 then ⟨#[UInt8.ofNat (48 + n % 10)]⟩ ++ out else decGo f (n / 10) (⟨#[UInt8.ofNat (48 + n % 10)]⟩ ++ out)
def refDec (n : Int) : ByteArray := (if n < 0 then ⟨#[45]⟩ else ⟨#[]⟩) ++ decGo 20 n.natAbs ⟨#[]⟩

theorem digit_cut (d : Nat) (h : d < 10) : (ByteArray.mk #[48, 49, 50, 51, 52, 53, 54, 55, 56, 57]).extract d (d + 1) = ⟨#[UInt8.ofNat (48 + d)]⟩ := by
  have h' : d = 0 ∨ d = 1 ∨ d = 2 ∨ d = 3 ∨ d = 4 ∨ d = 5 ∨ d = 6 ∨ d = 7 ∨ d = 8 ∨ d = 9 := by omega
  rcases h' with rfl | rfl | rfl | rfl | rfl | rfl | rfl | rfl | rfl | rfl <;> decide +kernel

set_option maxRecDepth 100000 in
set_option maxHeartbeats 1000000 in
theorem ref_dec_up (n : Int) (hn : ¬ n < 0) (h1 : n < 9223372036854775808) (w : World) :
    Calls Try.prog 71 #[.int .i64 n] w fun e w' => e = .returned (.string (refDec n)) ∧ w' = w := by
  have h3 : wrap64 n = n := by rw [wrap64]; omega
  have h4 : n % 18446744073709551616 = n := by omega
  have HP : Hid (n.natAbs < 10 ^ 20) := by
    have : (10 : Nat) ^ 20 = 100000000000000000000 := by decide
    rw [Hid]; omega
  have HR : Hid (refDec n = ⟨#[]⟩ ++ decGo 20 n.natAbs ⟨#[]⟩) := by rw [Hid, refDec, if_neg hn]
  generalize refDec n = R at *
  go_enter Try.func71, Try.ntmps71
  go_wp2_with fail
  go_loopw [3, 5] (fun a b wr => ∃ N f : Nat, ∃ s : ByteArray, a = .int .u64 N ∧ b = .string s ∧ N < 10 ^ f ∧ f ≤ 20 ∧ 0 < f ∧ N < 18446744073709551616 ∧ s.size + f = 20 ∧ decGo f N s = decGo 20 n.natAbs ⟨#[]⟩ ∧ wr = w) (fun a _ _ => (intOf a).toNat)
  case atStart => exact ⟨n.natAbs, 20, ⟨#[]⟩, by congr 1; omega, rfl, HP.out, by omega, by omega, by omega, rfl, rfl, rfl⟩
  case round =>
    obtain ⟨N, f, s, rfl, rfl, hf, hf20, hf0, hN, hs, he, rfl⟩ := hrel
    obtain ⟨f, rfl⟩ : ∃ k, f = k + 1 := ⟨f - 1, by omega⟩
    have HE : Hid (decGo (f + 1) N s = decGo 20 n.natAbs ⟨#[]⟩) := he
    have HD : Hid ((ByteArray.mk #[48, 49, 50, 51, 52, 53, 54, 55, 56, 57]).extract (N % 10) (N % 10 + 1) = ⟨#[UInt8.ofNat (48 + N % 10)]⟩) := digit_cut _ (Nat.mod_lt _ (by decide))
    have HF : Hid (N < 10 ^ (f + 1)) := hf
    have HS : Hid ((ByteArray.mk #[UInt8.ofNat (48 + N % 10)] ++ s).size + f = 20) := by
      rw [Hid, ByteArray.size_append]
      show 1 + s.size + f = 20
      omega
    clear he hf
    by_cases hz : N / 10 = 0
    · have HQ : Hid (R = ⟨#[]⟩ ++ (⟨#[UInt8.ofNat (48 + N % 10)]⟩ ++ s)) := by rw [Hid, HR.out, ← HE.out, decGo, if_pos hz]
      go_wp2_with fail
      simp only [HD.out]
      go_ret
      exact ⟨congrArg (fun x => Ending.returned (.string x)) HQ.out.symm, rfl⟩
    · have HQ : Hid (decGo f (N / 10) (⟨#[UInt8.ofNat (48 + N % 10)]⟩ ++ s) = decGo 20 n.natAbs ⟨#[]⟩) := by rw [Hid, ← HE.out, decGo, if_neg hz]
      have HG : Hid (N / 10 < 10 ^ f ∧ 0 < f) := by
        have h := HF.out
        rw [Nat.pow_succ] at h
        refine ⟨by omega, ?_⟩
        cases f with
        | zero => exact absurd h (by simp; omega)
        | succ k => omega
      go_wp2_with fail
      simp only [HD.out]
      go_roundw
      case rel => exact ⟨N / 10, f, _, by go_num, rfl, HG.out.1, by omega, HG.out.2, by omega, HS.out, HQ.out, trivial⟩
      case measure => simp [intOf]; omega

set_option maxRecDepth 100000 in
set_option maxHeartbeats 1000000 in
theorem ref_dec_down (n : Int) (hn : n < 0) (h1 : -9223372036854775808 ≤ n) (w : World) :
    Calls Try.prog 71 #[.int .i64 n] w fun e w' => e = .returned (.string (refDec n)) ∧ w' = w := by
  have HW : Hid (IntKind.u64.wrap (-IntKind.u64.wrap n) = (n.natAbs : Int)) := by
    rw [Hid, IntKind.wrap_u64, IntKind.wrap_u64]; omega
  have HP : Hid (n.natAbs < 10 ^ 20) := by
    have : (10 : Nat) ^ 20 = 100000000000000000000 := by decide
    rw [Hid]; omega
  have HR : Hid (refDec n = ⟨#[45]⟩ ++ decGo 20 n.natAbs ⟨#[]⟩) := by rw [Hid, refDec, if_pos hn]
  generalize refDec n = R at *
  go_enter Try.func71, Try.ntmps71
  go_wp2_with fail
  go_loopw [3, 5] (fun a b wr => ∃ N f : Nat, ∃ s : ByteArray, a = .int .u64 N ∧ b = .string s ∧ N < 10 ^ f ∧ f ≤ 20 ∧ 0 < f ∧ N < 18446744073709551616 ∧ s.size + f = 20 ∧ decGo f N s = decGo 20 n.natAbs ⟨#[]⟩ ∧ wr = w) (fun a _ _ => (intOf a).toNat)
  case atStart => exact ⟨n.natAbs, 20, ⟨#[]⟩, congrArg (Value.int .u64) HW.out, rfl, HP.out, by omega, by omega, by omega, rfl, rfl, rfl⟩
  case round =>
    obtain ⟨N, f, s, rfl, rfl, hf, hf20, hf0, hN, hs, he, rfl⟩ := hrel
    obtain ⟨f, rfl⟩ : ∃ k, f = k + 1 := ⟨f - 1, by omega⟩
    have HE : Hid (decGo (f + 1) N s = decGo 20 n.natAbs ⟨#[]⟩) := he
    have HD : Hid ((ByteArray.mk #[48, 49, 50, 51, 52, 53, 54, 55, 56, 57]).extract (N % 10) (N % 10 + 1) = ⟨#[UInt8.ofNat (48 + N % 10)]⟩) := digit_cut _ (Nat.mod_lt _ (by decide))
    have HF : Hid (N < 10 ^ (f + 1)) := hf
    have HS : Hid ((ByteArray.mk #[UInt8.ofNat (48 + N % 10)] ++ s).size + f = 20) := by
      rw [Hid, ByteArray.size_append]
      show 1 + s.size + f = 20
      omega
    clear he hf
    by_cases hz : N / 10 = 0
    · have HQ : Hid (R = ⟨#[45]⟩ ++ (⟨#[UInt8.ofNat (48 + N % 10)]⟩ ++ s)) := by rw [Hid, HR.out, ← HE.out, decGo, if_pos hz]
      go_wp2_with fail
      simp only [HD.out]
      go_ret
      exact ⟨congrArg (fun x => Ending.returned (.string x)) HQ.out.symm, rfl⟩
    · have HQ : Hid (decGo f (N / 10) (⟨#[UInt8.ofNat (48 + N % 10)]⟩ ++ s) = decGo 20 n.natAbs ⟨#[]⟩) := by rw [Hid, ← HE.out, decGo, if_neg hz]
      have HG : Hid (N / 10 < 10 ^ f ∧ 0 < f) := by
        have h := HF.out
        rw [Nat.pow_succ] at h
        refine ⟨by omega, ?_⟩
        cases f with
        | zero => exact absurd h (by simp; omega)
        | succ k => omega
      go_wp2_with fail
      simp only [HD.out]
      go_roundw
      case rel => exact ⟨N / 10, f, _, by go_num, rfl, HG.out.1, by omega, HG.out.2, by omega, HS.out, HQ.out, trivial⟩
      case measure => simp [intOf]; omega

theorem ref_dec (n : Int) (h0 : -9223372036854775808 ≤ n) (h1 : n < 9223372036854775808) (w : World) :
    Calls Try.prog 71 #[.int .i64 n] w fun e w' => e = .returned (.string (refDec n)) ∧ w' = w := by
  by_cases h : n < 0
  · exact ref_dec_down n h h0 w
  · exact ref_dec_up n h h1 w
end Go.Proofs.Ytegldlfbmaapiaa

/- A value's text and bytes, as lists: unlike values, unlike ones. It speaks of no program. -/
namespace Go.Proofs.Ytegldlfbmaapiaa
open Go.RowKit
set_option linter.unusedVariables false
set_option linter.unusedSimpArgs false
set_option maxRecDepth 10000

/-- The document's number, digit by digit, is the library's. -/
theorem decGo_eq (f : Nat) (N : Nat) (out : ByteArray) (h : N < 10 ^ f) (hf : 0 < f) : decGo f N out = ⟨(Go.Lib.decDigits N).toArray⟩ ++ out := by
  induction f generalizing N out with
  | zero => omega
  | succ f ih =>
    unfold decGo
    rw [Go.Lib.decDigits]
    by_cases hz : N / 10 = 0
    · have h10 : N < 10 := by omega
      rw [if_pos hz, dif_pos h10, Nat.mod_eq_of_lt h10]
    · have h10 : ¬ N < 10 := by omega
      have hf' : 0 < f := by
        cases f with
        | zero => simp at h; omega
        | succ f => omega
      rw [if_neg hz, dif_neg h10, ih (N / 10) _ (by rw [Nat.pow_succ] at h; omega) hf', ← ByteArray.append_assoc]
      congr 1
theorem refDec_itoa (n : Int) (h0 : -9223372036854775808 ≤ n) (h1 : n < 9223372036854775808) : refDec n = ⟨(Go.Lib.itoa n).toArray⟩ := by
  have hb : n.natAbs < 10 ^ 20 := by
    have : (10 : Nat) ^ 20 = 100000000000000000000 := by decide
    omega
  unfold refDec Go.Lib.itoa
  rw [decGo_eq 20 _ _ hb (by decide)]
  by_cases h : n < 0
  · rw [if_pos h, if_pos h]
    apply ByteArray.ext; simp
  · rw [if_neg h, if_neg h, show n.natAbs = n.toNat from by omega]
    apply ByteArray.ext; simp

theorem hexDigits_inj {a b : Nat} (ha : a < 16) (hb : b < 16) (h : hexDigits.getD a 0 = hexDigits.getD b 0) : a = b := by
  have : ∀ a b : Fin 16, hexDigits.getD a.1 0 = hexDigits.getD b.1 0 → a = b := by decide +kernel
  have := this ⟨a, ha⟩ ⟨b, hb⟩ h
  exact congrArg Fin.val this
theorem hexGo_inj {n m : Nat} (hn : n < 18446744073709551616) (hm : m < 18446744073709551616) (h : hexGo n 16 = hexGo m 16) : n = m := by
  have key : ∀ j, j < 16 → n / 16 ^ j % 16 = m / 16 ^ j % 16 := by
    intro j hj
    have e := congrArg (fun l => l[15 - j]?) h
    simp only [hexGo, List.getElem?_map, List.getElem?_range (show 15 - j < 16 by omega), Option.map_some, Option.some.injEq] at e
    rw [show 15 - (15 - j) = j from by omega] at e
    exact hexDigits_inj (Nat.mod_lt _ (by decide)) (Nat.mod_lt _ (by decide)) e
  have := mod_pows (b := 16) 16 key
  rw [show (16 : Nat) ^ 16 = 18446744073709551616 from by decide, Nat.mod_eq_of_lt hn, Nat.mod_eq_of_lt hm] at this
  exact this

/-- A value's text, as bytes. -/
def textL (v : V) : List UInt8 :=
  if v.k = 0 then [110, 117, 108, 108] else if v.k = 1 then (if v.n = 1 then [116, 114, 117, 101] else [102, 97, 108, 115, 101]) else if v.k = 2 then Go.Lib.itoa v.n
  else if v.k = 3 then 102 :: hexGo (refBits v.f) 16 else if v.k = 4 then 34 :: quoteGo v.s.data.toList ++ [34] else [109, 97, 112]
/-- Taken, field by field. -/
structure V.taken (v : V) : Prop where
  fit : v.fits
  kind : v.k = 0 ∨ v.k = 1 ∨ v.k = 2 ∨ v.k = 3 ∨ v.k = 4 ∨ v.k = 5
  n : v.k ≠ 1 → v.k ≠ 2 → v.n = 0
  bool : v.k = 1 → v.n = 0 ∨ v.n = 1
  f : v.k ≠ 3 → v.f = 0
  s : v.k ≠ 4 → v.s = ⟨#[]⟩

theorem order_bits {a b : Nat} (ha : a < 18446744073709551616) (hb : b < 18446744073709551616) : refOrder a = refOrder b ↔ refBits a = refBits b := by
  have lim : ∀ f, f < 18446744073709551616 → isNaN f = false → (f < 9223372036854775808 → f ≤ 9218868437227405312) := by
    intro f hf hn hs
    have : ¬ fI < rung f := of_decide_eq_false hn
    have hr : rung f = f := Nat.mod_eq_of_lt hs
    rw [hr] at this
    exact Nat.le_of_not_lt this
  have la := lim a ha
  have lb := lim b hb
  unfold refOrder refBits
  have hI : nanBits = 9221120237041090560 := rfl
  have ka : isNaN a = false → a ≠ nanBits := fun h e => by rw [e] at h; exact absurd h (by decide)
  have kb : isNaN b = false → b ≠ nanBits := fun h e => by rw [e] at h; exact absurd h (by decide)
  cases na : isNaN a <;> cases nb : isNaN b <;> simp only [na, nb, if_true, Bool.false_eq_true, if_false, true_implies, Bool.true_eq_false, false_implies] at *
  · split <;> split <;> omega
  · have hne : a ≠ nanBits := ka
    constructor
    · intro h; split at h <;> omega
    · intro h; exact absurd h hne
  · have hne : b ≠ nanBits := kb
    constructor
    · intro h; split at h <;> omega
    · intro h; exact absurd h.symm hne
theorem cmp_zero (a b : V) : refCmp a b = 0 ↔ a.k = b.k ∧ a.n = b.n ∧ refOrder a.f = refOrder b.f ∧ a.s = b.s := by
  rw [refCmp_cases]
  have hl : lexI a.s.toList b.s.toList = 0 ↔ a.s = b.s := by
    have h := (lexI_spec a.s.toList b.s.toList).2.1
    constructor
    · intro e
      rw [decide_eq_true e] at h
      have := beq_iff_eq.1 h
      rw [ByteArray.toList_eq, ByteArray.toList_eq] at this
      exact ByteArray.ext (Array.ext' this)
    · intro e
      rw [e] at h ⊢
      have h2 : (b.s.toList == b.s.toList) = true := by simp
      rw [h2] at h
      exact of_decide_eq_true h.symm
  generalize lexI a.s.toList b.s.toList = l at *
  constructor
  · intro h
    repeat' (split at h)
    all_goals first | omega | exact ⟨by omega, by omega, by omega, hl.1 h⟩
  · rintro ⟨h1, h2, h3, h4⟩
    rw [if_neg (by omega), if_neg (by omega), if_neg (by omega), if_neg (by omega), if_neg (by omega), if_neg (by omega)]
    exact hl.2 h4
end Go.Proofs.Ytegldlfbmaapiaa

/- Bytes as cells; a slice of bytes that the call owns, and that grows. -/
namespace Go.Proofs.Ytegldlfbmaapiaa
open Go.RowKit
set_option linter.unusedVariables false

/-- Bytes as cells. -/
def cellsOf (bs : List UInt8) : List Value := bs.map fun b => Value.int .u8 (b.toNat : Int)

theorem cellsOf_append (a b : List UInt8) : cellsOf (a ++ b) = cellsOf a ++ cellsOf b := by simp [cellsOf]
theorem cellsOf_length (a : List UInt8) : (cellsOf a).length = a.length := by simp [cellsOf]
theorem cellsOf_one (a : List UInt8) : ∀ u ∈ cellsOf a, u.oneCell' = true := by
  intro u hu
  obtain ⟨b, _, rfl⟩ := List.mem_map.1 hu
  rfl

theorem Try.infoByte : (Try.prog.info? 5).map (fun i => (i.zero, i.size, i.bytes)) = some (some (.int .u8 0), 1, 1) := by kernel_rfl

/-- The value v, which the call owned, has become v', which holds bs; nothing but v's row was touched; the new row is v's, or new. -/
structure Grow (v v' : Value) (bs : List UInt8) (w w' : World) : Prop where
  is : w'.ownsRow 0 5 1 v' bs.length (cellsOf bs)
  touch : Touch (fun k => v.ownBlock = some k) w w'
  new : ∀ k, k < w.heap.size → v'.ownBlock = some k → v.ownBlock = some k
theorem Grow.refl {v : Value} {bs : List UInt8} {w : World} (h : w.ownsRow 0 5 1 v bs.length (cellsOf bs)) : Grow v v bs w w := ⟨h, Touch.refl _ _, fun _ _ h => h⟩
theorem Grow.trans {a b c : Value} {bs cs : List UInt8} {w w1 w2 : World} (h : Grow a b bs w w1) (k : Grow b c cs w1 w2) : Grow a c cs w w2 :=
  ⟨k.is, h.touch.then k.touch (fun i hi e => h.new i hi e), fun i hi e => h.new i hi (k.new i (Nat.lt_of_lt_of_le hi h.touch.size) e)⟩
theorem Grow.slice {v v' : Value} {bs : List UInt8} {w w' : World} (h : Grow v v' bs w w') : ∃ ao n cap, v' = .slice ao n cap := by
  rcases h.is.2 with ⟨e, _⟩ | ⟨g, cap, cur, e, _⟩
  · exact ⟨_, _, _, e⟩
  · exact ⟨_, _, _, e⟩
/-- Behind an append of one byte. -/
theorem Grow.pushed {v v' : Value} {bs : List UInt8} {b : UInt8} {w w1 w2 : World} (hw1 : Touch (fun _ => False) w w1) (hown' : w2.ownsRow 0 5 1 v' (bs.length + 1) (cellsOf bs ++ [.int .u8 (b.toNat : Int)])) (hg : w1.grownBy w2 v.ownBlock) {m : Nat} (hat : v'.ownBlock = v.ownBlock ∨ v'.ownBlock = some m) (hm : w.heap.size ≤ m) : Grow v v' (bs ++ [b]) w w2 := by
  refine ⟨?_, ?_, ?_⟩
  · rw [cellsOf_append, List.length_append]; exact hown'
  · exact (hw1.mono fun _ _ h => h.elim).grown hg (fun i e _ => e)
  · intro k hk hv
    rcases hat with e | e
    · rw [← e]; exact hv
    · rw [hv] at e
      simp at e; omega
end Go.Proofs.Ytegldlfbmaapiaa

/- The contract of quireref2.Quote: bytes between marks. -/
namespace Go.Proofs.Ytegldlfbmaapiaa
open Go.RowKit
set_option linter.unusedVariables false

theorem owned_string {w : World} {v : Value} {bs : List UInt8} (h : w.ownsRow 0 5 1 v bs.length (cellsOf bs)) (hb : bs ≠ []) : (convert 23 9 v).run Try.prog w = .ok (.string ⟨bs.toArray⟩) w := by
  rcases h.2 with ⟨_, e⟩ | ⟨g, cap, cur, rfl, _, hg, hn, hc, hs, ht⟩
  · exact absurd (List.eq_nil_of_length_eq_zero e) hb
  · refine run_convert_bytes_back w 23 9 5 ⟨g, 0, none⟩ cap bs Try.underlying23 Try.underlying5 Try.underlying9 ?_
    intro j hj
    have := h.cells (g := g) rfl j (.int .u8 (bs[j].toNat : Int)) (by simp [cellsOf, hj])
    exact this

theorem Grow.start (w : World) (x : UInt8) : Grow (.slice (some ⟨w.heap.size, 0, none⟩) 1 1) (.slice (some ⟨w.heap.size, 0, none⟩) 1 1) [x] (w.alloc (.cells #[.int .u8 (x.toNat : Int)] 5)) (w.alloc (.cells #[.int .u8 (x.toNat : Int)] 5)) :=
  Grow.refl ⟨rfl, .inr ⟨w.heap.size, 1, #[.int .u8 (x.toNat : Int)], rfl, Nat.zero_le _, heap_alloc_new w _, Nat.le_refl 1, by simp [maxLen], rfl, rfl⟩⟩

set_option maxRecDepth 100000 in
set_option maxHeartbeats 1000000 in
theorem ref_quote (s : ByteArray) (hs : s.size ≤ 1000000000000) (w : World) :
    Calls Try.prog 49 #[.string s] w fun e w' => e = .returned (.string (refQuote s)) ∧ Touch (fun _ => False) w w' := by
  obtain ⟨i0, hi, hz0, hz1, hz2⟩ := info_parts Try.infoByte
  have HL : Hid (s.data.toList.length = s.size) := rfl
  go_enter Try.func49, Try.ntmps49
  go_wp2_with fail
  go_loopw [3, 4] (fun a b wr => ∃ k : Nat, b = .int .i64 (k : Int) ∧ k ≤ s.size ∧ Grow (.slice (some ⟨w.heap.size, 0, none⟩) 1 1) a (34 :: quoteGo (s.data.toList.take k)) (w.alloc (.cells #[.int .u8 34] 5)) wr) (fun _ b _ => (s.size - intOf b).toNat)
  case atStart => exact ⟨0, rfl, by omega, Grow.start w 34⟩
  case round =>
    obtain ⟨k, rfl, hk, hW⟩ := hrel
    have HW : Hid (Grow (.slice (some ⟨w.heap.size, 0, none⟩) 1 1) u3 (34 :: quoteGo (s.data.toList.take k)) (w.alloc (.cells #[.int .u8 34] 5)) wr) := hW
    have hown := hW.is
    have HB : Hid ((34 :: quoteGo (s.data.toList.take k)).length ≤ 2 * k + 1) := by
      have := quoteGo_length (s.data.toList.take k)
      rw [List.length_take] at this
      simp only [Hid, List.length_cons]; omega
    clear hW
    generalize hcs : 34 :: quoteGo (s.data.toList.take k) = cs at *
    have HC : Hid (34 :: quoteGo (s.data.toList.take k) = cs) := hcs
    have hb := HB.out
    clear hcs
    by_cases hlt : k < s.size
    · have HS : Hid (s.data.toList.take (k + 1) = s.data.toList.take k ++ [s[k]]) := by
        rw [Hid, List.take_succ_eq_append_getElem (by exact hlt)]; rfl
      have HI : Hid (s.size < 9223372036854775808) := by rw [Hid]; omega
      generalize hc : s[k] = c at *
      by_cases hq : c = 34 ∨ c = 92
      · have HN : Hid (34 :: quoteGo (s.data.toList.take (k + 1)) = cs ++ [92] ++ [c]) := by
          rw [Hid, HS.out, quoteGo_append, ← HC.out]
          simp [quoteGo, hq]
        by_cases hq1 : c = 34
        · have q1 : ((c.toNat : Int) == 34) = true := by rw [hq1]; rfl
          clear hq1 hq
          go_wp2_with (first | (at_builtin; refine wpList_append_own_at _ rfl _ _ 23 rfl 0 5 i0 (.int .u8 0) 1 1 Try.underlying23 hi hz0 hz1 hz2 rfl (by decide) _ _ _ rfl (hown.alloc _) ⟨wr.heap.size, 0, none⟩ 1 1 [.int .u8 92] rfl rfl ?ea1 ?ea2 ?ea3 ?ea4 ?ea5 ?_))
          case ea1 =>
            intro j u hj
            match j, hj with
            | 0, hj => simp at hj; subst hj; simp [Addr.add]
          case ea2 => intro u hu; simp at hu; subst hu; rfl
          case ea3 => unfold maxLen; omega
          case ea4 => omega
          case ea5 => exact Nat.zero_le _
          intro v' w1 hown' hgrow _ hat
          rw [show (92 : Int) = ((92 : UInt8).toNat : Int) from rfl] at hown'
          have HG : Hid (Grow (.slice (some ⟨w.heap.size, 0, none⟩) 1 1) v' (cs ++ [92]) (w.alloc (.cells #[.int .u8 34] 5)) w1) := HW.out.trans (Grow.pushed ((Touch.refl _ wr).alloc _) hown' hgrow hat (by omega))
          clear hown' hgrow hat hown
          have hown := HG.out.is
          go_wp2_with (first | (at_builtin; refine wpList_append_own_at _ rfl _ _ 23 rfl 0 5 i0 (.int .u8 0) 1 1 Try.underlying23 hi hz0 hz1 hz2 rfl (by decide) _ _ _ rfl (hown.alloc _) ⟨w1.heap.size, 0, none⟩ 1 1 [.int .u8 (c.toNat : Int)] rfl rfl ?eb1 ?eb2 ?eb3 ?eb4 ?eb5 ?_))
          case eb1 =>
            intro j u hj
            match j, hj with
            | 0, hj => simp at hj; subst hj; simp [Addr.add]
          case eb2 => intro u hu; simp at hu; subst hu; rfl
          case eb3 => unfold maxLen; simp only [List.length_append, List.length_singleton]; omega
          case eb4 => simp only [List.length_append, List.length_singleton]; omega
          case eb5 => exact Nat.zero_le _
          intro v2 w2 hown' hgrow _ hat
          rw [show cs.length + 1 = (cs ++ [92]).length from by simp] at hown'
          have HH : Hid (Grow (.slice (some ⟨w.heap.size, 0, none⟩) 1 1) v2 (cs ++ [92] ++ [c]) (w.alloc (.cells #[.int .u8 34] 5)) w2) := HG.out.trans (Grow.pushed ((Touch.refl _ w1).alloc _) hown' hgrow hat (by omega))
          clear hown' hgrow hat hown
          obtain ⟨ao, n', cap', rfl⟩ := HH.out.slice
          go_wp2_with fail
          go_roundw
          case rel => exact ⟨k + 1, by go_num, by omega, by rw [HN.out]; exact HH.out⟩
          case measure => simp [intOf]; omega
        · have q1 : ((c.toNat : Int) == 34) = false := by
            rw [beq_eq_false_iff_ne]; intro h; exact hq1 (UInt8.toNat.inj (Int.ofNat.inj h))
          have q2 : ((c.toNat : Int) == 92) = true := by rw [hq.resolve_left hq1]; rfl
          clear hq1 hq
          go_wp2_with (first | (at_builtin; refine wpList_append_own_at _ rfl _ _ 23 rfl 0 5 i0 (.int .u8 0) 1 1 Try.underlying23 hi hz0 hz1 hz2 rfl (by decide) _ _ _ rfl (hown.alloc _) ⟨wr.heap.size, 0, none⟩ 1 1 [.int .u8 92] rfl rfl ?fa1 ?fa2 ?fa3 ?fa4 ?fa5 ?_))
          case fa1 =>
            intro j u hj
            match j, hj with
            | 0, hj => simp at hj; subst hj; simp [Addr.add]
          case fa2 => intro u hu; simp at hu; subst hu; rfl
          case fa3 => unfold maxLen; omega
          case fa4 => omega
          case fa5 => exact Nat.zero_le _
          intro v' w1 hown' hgrow _ hat
          rw [show (92 : Int) = ((92 : UInt8).toNat : Int) from rfl] at hown'
          have HG : Hid (Grow (.slice (some ⟨w.heap.size, 0, none⟩) 1 1) v' (cs ++ [92]) (w.alloc (.cells #[.int .u8 34] 5)) w1) := HW.out.trans (Grow.pushed ((Touch.refl _ wr).alloc _) hown' hgrow hat (by omega))
          clear hown' hgrow hat hown
          have hown := HG.out.is
          go_wp2_with (first | (at_builtin; refine wpList_append_own_at _ rfl _ _ 23 rfl 0 5 i0 (.int .u8 0) 1 1 Try.underlying23 hi hz0 hz1 hz2 rfl (by decide) _ _ _ rfl (hown.alloc _) ⟨w1.heap.size, 0, none⟩ 1 1 [.int .u8 (c.toNat : Int)] rfl rfl ?fb1 ?fb2 ?fb3 ?fb4 ?fb5 ?_))
          case fb1 =>
            intro j u hj
            match j, hj with
            | 0, hj => simp at hj; subst hj; simp [Addr.add]
          case fb2 => intro u hu; simp at hu; subst hu; rfl
          case fb3 => unfold maxLen; simp only [List.length_append, List.length_singleton]; omega
          case fb4 => simp only [List.length_append, List.length_singleton]; omega
          case fb5 => exact Nat.zero_le _
          intro v2 w2 hown' hgrow _ hat
          rw [show cs.length + 1 = (cs ++ [92]).length from by simp] at hown'
          have HH : Hid (Grow (.slice (some ⟨w.heap.size, 0, none⟩) 1 1) v2 (cs ++ [92] ++ [c]) (w.alloc (.cells #[.int .u8 34] 5)) w2) := HG.out.trans (Grow.pushed ((Touch.refl _ w1).alloc _) hown' hgrow hat (by omega))
          clear hown' hgrow hat hown
          obtain ⟨ao, n', cap', rfl⟩ := HH.out.slice
          go_wp2_with fail
          go_roundw
          case rel => exact ⟨k + 1, by go_num, by omega, by rw [HN.out]; exact HH.out⟩
          case measure => simp [intOf]; omega
      · have HN : Hid (34 :: quoteGo (s.data.toList.take (k + 1)) = cs ++ [c]) := by
          rw [Hid, HS.out, quoteGo_append, ← HC.out]
          simp [quoteGo, hq]
        have q1 : ((c.toNat : Int) == 34) = false := by
          rw [beq_eq_false_iff_ne]; intro h; exact hq (.inl (UInt8.toNat.inj (Int.ofNat.inj h)))
        have q2 : ((c.toNat : Int) == 92) = false := by
          rw [beq_eq_false_iff_ne]; intro h; exact hq (.inr (UInt8.toNat.inj (Int.ofNat.inj h)))
        go_wp2_with (first | (at_builtin; refine wpList_append_own_at _ rfl _ _ 23 rfl 0 5 i0 (.int .u8 0) 1 1 Try.underlying23 hi hz0 hz1 hz2 rfl (by decide) _ _ _ rfl (hown.alloc _) ⟨wr.heap.size, 0, none⟩ 1 1 [.int .u8 (c.toNat : Int)] rfl rfl ?d1 ?d2 ?d3 ?d4 ?d5 ?_))
        case d1 =>
          intro j u hj
          match j, hj with
          | 0, hj => simp at hj; subst hj; simp [Addr.add]
        case d2 => intro u hu; simp at hu; subst hu; rfl
        case d3 => unfold maxLen; omega
        case d4 => omega
        case d5 => exact Nat.zero_le _
        intro v' w1 hown' hgrow _ hat
        have HG : Hid (Grow (.slice (some ⟨w.heap.size, 0, none⟩) 1 1) v' (cs ++ [c]) (w.alloc (.cells #[.int .u8 34] 5)) w1) := HW.out.trans (Grow.pushed ((Touch.refl _ wr).alloc _) hown' hgrow hat (by omega))
        clear hown' hgrow hat hown
        obtain ⟨ao, n', cap', rfl⟩ := HG.out.slice
        go_wp2_with fail
        go_roundw
        case rel => exact ⟨k + 1, by go_num, by omega, by rw [HN.out]; exact HG.out⟩
        case measure => simp [intOf]; omega
    · have ek : k = s.size := by omega
      have HS : Hid (s.data.toList.take k = s.data.toList) := by rw [Hid, ek]; exact List.take_length
      have HQ : Hid (cs ++ [34] = 34 :: quoteGo s.data.toList ++ [34]) := by rw [Hid, ← HC.out, HS.out]
      go_wp2_with (first | (at_builtin; refine wpList_append_own_at _ rfl _ _ 23 rfl 0 5 i0 (.int .u8 0) 1 1 Try.underlying23 hi hz0 hz1 hz2 rfl (by decide) _ _ _ rfl (hown.alloc _) ⟨wr.heap.size, 0, none⟩ 1 1 [.int .u8 34] rfl rfl ?c1 ?c2 ?c3 ?c4 ?c5 ?_))
      case c1 =>
        intro j u hj
        match j, hj with
        | 0, hj => simp at hj; subst hj; simp [Addr.add]
      case c2 => intro u hu; simp at hu; subst hu; rfl
      case c3 => unfold maxLen; omega
      case c4 => omega
      case c5 => exact Nat.zero_le _
      intro v' w1 hown' hgrow _ hat
      rw [show (34 : Int) = ((34 : UInt8).toNat : Int) from rfl] at hown'
      have HG : Hid (Grow (.slice (some ⟨w.heap.size, 0, none⟩) 1 1) v' (cs ++ [34]) (w.alloc (.cells #[.int .u8 34] 5)) w1) := HW.out.trans (Grow.pushed ((Touch.refl _ wr).alloc _) hown' hgrow hat (by omega))
      obtain ⟨aoHG, nHG, capHG, rfl⟩ := HG.out.slice
      clear hown' hgrow hat
      have hconv := owned_string HG.out.is (by simp)
      rw [HQ.out] at hconv
      go_wp2_with (simp only [hconv])
      go_ret
      refine ⟨rfl, ?_⟩
      exact ((Touch.refl _ w).alloc _).then HG.out.touch (fun k hk e => by simp [Value.ownBlock] at e; omega)
end Go.Proofs.Ytegldlfbmaapiaa

/- The document's texts of values (TextAll's part, for seats whose road has no value.Text). -/
namespace Go.Proofs.Ytegldlfbmaapiaa
open Go.RowKit
set_option linter.unusedVariables false
set_option linter.unusedSimpArgs false
set_option maxRecDepth 100000

theorem refBits_ltT (f : Nat) (h : f < 18446744073709551616) : refBits f < 18446744073709551616 := by
  unfold refBits; split
  · decide
  · exact h
theorem hex_nibble (n k : Nat) (hn : n < 18446744073709551616) (hk : k ≤ 15) : bits .and .u64 ((n : Int) / 2 ^ (60 - 4 * k)) 15 = ((n / 16 ^ (15 - k) % 16 : Nat) : Int) := by
  have e1 : ((n : Int) / 2 ^ (60 - 4 * k)) = ((n / 16 ^ (15 - k) : Nat) : Int) := by
    have : (16 : Nat) ^ (15 - k) = 2 ^ (60 - 4 * k) := by rw [show (16 : Nat) = 2 ^ 4 from rfl, ← Nat.pow_mul]; congr 1; omega
    rw [this]; push_cast; rfl
  have h2 : n / 16 ^ (15 - k) < 18446744073709551616 := Nat.lt_of_le_of_lt (Nat.div_le_self _ _) hn
  rw [e1, show (15 : Int) = ((2 ^ 4 - 1 : Nat) : Int) from rfl, u64_and_nat _ _ h2 (by decide), Nat.and_two_pow_sub_one_eq_mod]

theorem hex_cut (d : Nat) (h : d < 16) : (ByteArray.mk #[48, 49, 50, 51, 52, 53, 54, 55, 56, 57, 97, 98, 99, 100, 101, 102]).extract d (d + 1) = ⟨#[hexDigits.getD d 0]⟩ := by
  have : ∀ d : Fin 16, (ByteArray.mk #[48, 49, 50, 51, 52, 53, 54, 55, 56, 57, 97, 98, 99, 100, 101, 102]).extract d.1 (d.1 + 1) = ⟨#[hexDigits.getD d.1 0]⟩ := by decide +kernel
  exact this ⟨d, h⟩

set_option maxHeartbeats 1000000 in
theorem ref_text_float (n : Int) (f : Nat) (s : ByteArray) (hf : f < 18446744073709551616) (w : World) : Calls Try.prog 48 #[.agg #[.int .i64 3, .int .i64 n, .float .f64 f, .string s]] w fun e w' => e = .returned (.string ⟨(102 :: hexGo (refBits f) 16).toArray⟩) ∧ Touch (fun _ => False) w w' := by
  have HN : Hid (∀ w, Calls Try.prog 72 #[.float .f64 f] w fun e w' => e = .returned (.int .u64 (refBits f)) ∧ w' = w) := ref_bits f
  have hg := refBits_ltT f hf
  generalize refBits f = g at *
  have HW : Hid (Touch (fun _ => False) w (w.alloc (.cells #[.int .i64 3, .int .i64 n, .float .f64 f, .string s] 37))) := (Touch.refl _ _).alloc _
  go_enter Try.func48, Try.ntmps48
  go_wp2_with fail
  go_loopw [3, 4] (fun a b wr => ∃ k : Nat, b = .int .i64 (60 - 4 * (k : Int)) ∧ k ≤ 16 ∧ a = .string ⟨(102 :: hexGo g k).toArray⟩ ∧ wr = w.alloc (.cells #[.int .i64 3, .int .i64 n, .float .f64 f, .string s] 37)) (fun _ b _ => (intOf b + 4).toNat)
  case atStart => exact ⟨0, rfl, by omega, rfl, rfl⟩
  case round =>
    obtain ⟨k, rfl, hk, rfl, rfl⟩ := hrel
    by_cases h16 : k = 16
    · subst h16
      go_wp2_with fail
      go_ret
      exact ⟨rfl, HW.out⟩
    · have hd := hex_nibble g k hg (by omega)
      have hlt : g / 16 ^ (15 - k) % 16 < 16 := Nat.mod_lt _ (by decide)
      have HC := hex_cut _ hlt
      have HN2 : Hid (hexGo g (k + 1) = hexGo g k ++ [hexDigits.getD (g / 16 ^ (15 - k) % 16) 0]) := hexGo_succ g k
      have hsz : (ByteArray.mk (102 :: hexGo g k).toArray).size = k + 1 := by
        show (102 :: hexGo g k).toArray.size = k + 1
        rw [List.size_toArray, List.length_cons, hexGo_length]
      generalize g / 16 ^ (15 - k) % 16 = d at *
      have HX : Hid (ByteArray.mk (102 :: hexGo g k).toArray ++ ⟨#[hexDigits.getD d 0]⟩ = ⟨(102 :: hexGo g (k + 1)).toArray⟩) := by
        rw [Hid, HN2.out]
        apply ByteArray.ext
        simp
      have HCut : Hid ((ByteArray.mk #[48, 49, 50, 51, 52, 53, 54, 55, 56, 57, 97, 98, 99, 100, 101, 102]).extract d (d + 1) = ⟨#[hexDigits.getD d 0]⟩) := HC
      clear HC
      generalize ByteArray.mk (102 :: hexGo g k).toArray = T at *
      have hd0 : (0 : Int) ≤ (d : Int) := by omega
      have hd1 : (d : Int) < 16 := by omega
      go_wp2_with fail
      refine (HN.out _).mono ?_
      rintro e w1 ⟨rfl, rfl⟩
      go_wp2_with fail
      simp only [HCut.out, HX.out]
      go_roundw
      case rel => exact ⟨k + 1, by go_num, by omega, rfl, trivial⟩
      case measure => simp [intOf]; omega

set_option maxHeartbeats 1000000 in
theorem ref_text (v : V) (hv : v.taken) (hs : v.s.size ≤ 1000000000000) (w : World) : Calls Try.prog 48 #[v.val] w fun e w' => e = .returned (.string ⟨(textL v).toArray⟩) ∧ Touch (fun _ => False) w w' := by
  rcases hv.kind with e | e | e | e | e | e
  · have HE : Hid (textL v = [110, 117, 108, 108]) := by unfold textL; rw [Hid, if_pos e]
    obtain ⟨k, n, f, s⟩ := v
    simp only at e
    subst e
    simp only [V.val] at *
    generalize textL ⟨0, n, f, s⟩ = R at *
    go_enter Try.func48, Try.ntmps48
    go_wp2_with fail
    go_ret
    exact ⟨by rw [HE.out]; rfl, (Touch.refl _ _).alloc _⟩
  · have HE : Hid (textL v = if v.n = 1 then [116, 114, 117, 101] else [102, 97, 108, 115, 101]) := by unfold textL; rw [Hid, if_neg (by omega), if_pos e]
    have hb := hv.bool e
    obtain ⟨k, n, f, s⟩ := v
    simp only at e hb
    subst e
    simp only [V.val] at *
    generalize textL ⟨1, n, f, s⟩ = R at *
    clear hv
    rcases hb with e | e <;> subst e
    · have HF : Hid (R = [102, 97, 108, 115, 101]) := HE.out
      clear HE
      go_enter Try.func48, Try.ntmps48
      go_wp2_with fail
      go_ret
      exact ⟨by rw [HF.out]; rfl, (Touch.refl _ _).alloc _⟩
    · have HF : Hid (R = [116, 114, 117, 101]) := HE.out
      clear HE
      go_enter Try.func48, Try.ntmps48
      go_wp2_with fail
      go_ret
      exact ⟨by rw [HF.out]; rfl, (Touch.refl _ _).alloc _⟩
  · have HE : Hid (ByteArray.mk (textL v).toArray = refDec v.n) := by unfold textL; rw [Hid, if_neg (by omega), if_neg (by omega), if_pos e, refDec_itoa _ hv.fit.n0 hv.fit.n1]
    have HI : Hid (∀ w, Calls Try.prog 71 #[.int .i64 v.n] w fun e w' => e = .returned (.string (refDec v.n)) ∧ w' = w) := ref_dec v.n hv.fit.n0 hv.fit.n1
    obtain ⟨k, n, f, s⟩ := v
    simp only at e
    subst e
    simp only [V.val] at *
    generalize ByteArray.mk (textL ⟨2, n, f, s⟩).toArray = R at *
    generalize refDec n = I at *
    clear hv
    go_enter Try.func48, Try.ntmps48
    go_wp2_with fail
    refine (HI.out _).mono ?_
    rintro e w1 ⟨rfl, rfl⟩
    go_wp2_with fail
    go_ret
    exact ⟨by rw [HE.out]; rfl, (Touch.refl _ _).alloc _⟩
  · have : textL v = 102 :: hexGo (refBits v.f) 16 := by unfold textL; rw [if_neg (by omega), if_neg (by omega), if_neg (by omega), if_pos e]
    rw [this]
    obtain ⟨k, n, f, s⟩ := v
    simp only at e
    subst e
    exact ref_text_float n f s hv.fit.f1 w
  · have HE : Hid (ByteArray.mk (textL v).toArray = refQuote v.s) := by unfold textL; rw [Hid, if_neg (by omega), if_neg (by omega), if_neg (by omega), if_neg (by omega), if_pos e]; rfl
    have HQ : Hid (∀ w, Calls Try.prog 49 #[.string v.s] w fun e w' => e = .returned (.string (refQuote v.s)) ∧ Touch (fun _ => False) w w') := ref_quote v.s hs
    obtain ⟨k, n, f, s⟩ := v
    simp only at e
    subst e
    simp only [V.val] at *
    generalize ByteArray.mk (textL ⟨4, n, f, s⟩).toArray = R at *
    generalize refQuote s = I at *
    clear hv
    go_enter Try.func48, Try.ntmps48
    go_wp2_with fail
    refine (HQ.out _).mono ?_
    rintro e w1 ⟨rfl, hT⟩
    have HT : Hid (Touch (fun _ => False) w w1) := Touch.trans ((Touch.refl _ _).alloc _) hT
    clear hT
    go_wp2_with fail
    go_ret
    exact ⟨by rw [HE.out]; rfl, HT.out⟩
  · have HE : Hid (textL v = [109, 97, 112]) := by unfold textL; rw [Hid, if_neg (by omega), if_neg (by omega), if_neg (by omega), if_neg (by omega), if_neg (by omega)]
    obtain ⟨k, n, f, s⟩ := v
    simp only at e
    subst e
    simp only [V.val] at *
    generalize textL ⟨5, n, f, s⟩ = R at *
    go_enter Try.func48, Try.ntmps48
    go_wp2_with fail
    go_ret
    exact ⟨by rw [HE.out]; rfl, (Touch.refl _ _).alloc _⟩
end Go.Proofs.Ytegldlfbmaapiaa

/- A view's text, as bytes: entries alone. -/
namespace Go.Proofs.Ytegldlfbmaapiaa
open Go.RowKit
set_option linter.unusedVariables false
set_option linter.unusedSimpArgs false
set_option maxRecDepth 100000

theorem bytes_ext {a b : ByteArray} (h : a.data.toList = b.data.toList) : a = b := by
  apply ByteArray.ext; exact Array.toList_inj.1 h
def strOf (l : List UInt8) : ByteArray := ⟨l.toArray⟩
theorem strOf_list (l : List UInt8) : (strOf l).data.toList = l := by simp [strOf]
theorem strOf_size (l : List UInt8) : (strOf l).size = l.length := by show l.toArray.size = _; simp
theorem append_data (a b : ByteArray) : (a ++ b).data.toList = a.data.toList ++ b.data.toList := by simp [ByteArray.data_append]
theorem strOf_app (a b : List UInt8) : strOf a ++ strOf b = strOf (a ++ b) := by
  apply bytes_ext
  rw [strOf_list, append_data, strOf_list, strOf_list]
/-- A text's text. -/
def qL (s : ByteArray) : List UInt8 := 34 :: quoteGo s.data.toList ++ [34]
def insetT (d : Nat) : List UInt8 := List.replicate (2 * d) 32
def entT (d : Nat) (k : ByteArray) (v : V) : List UInt8 := insetT d ++ [109, 32] ++ qL k ++ 61 :: textL v
theorem insetT_len (d : Nat) : (insetT d).length = 2 * d := by unfold insetT; simp
theorem inset_succ (d : Nat) : insetT (d + 1) = insetT d ++ [32, 32] := by
  unfold insetT
  rw [Nat.mul_add]
  exact (List.replicate_append_replicate (n := 2 * d) (m := 2) (a := (32 : UInt8))).symm
mutual
  def etT : Nat → Et → List UInt8
    | d, .mk k v l => entT d k v ++ [10] ++ etsT (d + 1) l
  def etsT : Nat → List Et → List UInt8
    | _, [] => []
    | d, e :: l => etT d e ++ etsT d l
end
theorem etsT_flat (d : Nat) : ∀ l : List Et, etsT d l = l.flatMap (etT d)
  | [] => by unfold etsT; rfl
  | e :: l => by unfold etsT; rw [etsT_flat d l, List.flatMap_cons]
theorem etT_eq (d : Nat) (e : Et) : etT d e = entT d e.ky e.v ++ [10] ++ etsT (d + 1) e.kids := by
  cases e; unfold etT; rfl
theorem etsT_take {d : Nat} {l : List Et} {i : Nat} (h : i < l.length) : etsT d (l.take (i + 1)) = etsT d (l.take i) ++ etT d l[i] := by
  rw [etsT_flat, etsT_flat, List.take_succ_eq_append_getElem h, List.flatMap_append, List.flatMap_cons, List.flatMap_nil, List.append_nil]
theorem etsT_take_le (d : Nat) (l : List Et) (i : Nat) : (etsT d (l.take i)).length ≤ (etsT d l).length := by
  have e : l = l.take i ++ l.drop i := (List.take_append_drop i l).symm
  conv => rhs; rw [e]
  rw [etsT_flat, etsT_flat, List.flatMap_append, List.length_append]; omega
/-- They can be told, and end above that depth. -/
def OkEs : Nat → List Et → Prop
  | 0, l => l = []
  | h + 1, l => ∀ e ∈ l, V.taken e.v ∧ e.v.s.size ≤ 1048576 ∧ e.ky.size ≤ 1048576 ∧ OkEs h e.kids
/-- An entry that lies, field by field. -/
theorem EtAt.at {w : World} {S : Nat → Prop} {h : Nat} {ao : Option Addr} {n cap : Nat} {l : List Et} (g : EtAt w S (h + 1) (.slice ao n cap) l) {i : Nat} (hi : i < l.length) : ∃ b o ks, ao = some ⟨b, o, none⟩ ∧ EtAt w S h (Sw.val ks) l[i].kids ∧ ∀ W, Touch (fun _ => False) w W → (W.cell? ⟨b, o + i * 6, none⟩ = some (.string l[i].ky) ∧ W.cell? ⟨b, o + i * 6 + 1, none⟩ = some (.int .i64 l[i].v.k) ∧ W.cell? ⟨b, o + i * 6 + 2, none⟩ = some (.int .i64 l[i].v.n) ∧ W.cell? ⟨b, o + i * 6 + 3, none⟩ = some (.float .f64 l[i].v.f) ∧ W.cell? ⟨b, o + i * 6 + 4, none⟩ = some (.string l[i].v.s) ∧ W.cell? ⟨b, o + i * 6 + 5, none⟩ = some ks.val) := by
  obtain ⟨raws, ⟨ao', cap', e1, h1, h2, h3, h4⟩, hl, hr⟩ := g
  simp only [Value.slice.injEq] at e1
  obtain ⟨rfl, -, -⟩ := e1
  have hi' : i < raws.length := by rw [hl]; exact hi
  rcases h4 with h4 | ⟨b, o, e2, hS, hc⟩
  · subst h4; simp at hi'
  · obtain ⟨q1, q2, q3⟩ := hr i hi' hi
    refine ⟨b, o, raws[i].ks, e2, q3, fun W t => ?_⟩
    have hW : ∀ j u, (cellsQ raws)[j]? = some u → W.cell? ⟨b, o + j, none⟩ = some u := fun j u hu => by
      have := hc j u hu
      rw [World.cell?_of_block (t.block _ (World.block_lt_of_cell? _ _ this) id)]; exact this
    obtain ⟨a0, a1, a2, a3, a4, a5⟩ := cellsQ_get raws i hi'
    rw [← q1, ← q2]
    exact ⟨hW _ _ a0, hW _ _ a1, hW _ _ a2, hW _ _ a3, hW _ _ a4, hW _ _ a5⟩
end Go.Proofs.Ytegldlfbmaapiaa

/- Package maps: a view is a function of what was set; how long its text is. No Go in it. -/
namespace Go.Proofs.Ytegldlfbmaapiaa
open Go.RowKit Go.Maps
set_option linter.unusedVariables false
set_option linter.unusedSimpArgs false
set_option maxRecDepth 100000

section
variable {s s' : MS} {L L' : List O}
theorem get_same (h : Has s L) (h' : Has s' L') (hm : ∀ o, o ∈ L ↔ o ∈ L') (hsh : ∀ c k, shS s c k = shS s' c k) (hA : Apart L') {c k : Int} (hc : U64 c) (hk : U64 k) (ky : ByteArray) : getS s c k ky = getS s' c k ky := by
  have hat : ∀ o, AtKey s c k ky o ↔ AtKey s' c k ky o := fun o => by unfold AtKey; rw [hsh]
  rcases get_is h hc hk ky with ⟨hn, e⟩ | ⟨b, hb, ha, hg, e⟩
  · rw [e, get_none h' hc hk fun o ho q => hn o ((hm o).2 ho) ((hat o).2 q)]
  · rw [e, get_eq h' hc hk ((hm b).1 hb) ((hat b).1 ha) fun o ho q => ?_]
    have h1 := hg o ((hm o).2 ho) ((hat o).2 q)
    by_cases h2 : lessM o b = true
    · exact .inr h2
    · refine .inl ?_
      have h2 : lessM o b = false := by simpa using h2
      rw [lessM_not] at h1 h2
      obtain ⟨i, hi, rfl⟩ := List.mem_iff_getElem.1 ho
      obtain ⟨j, hj, rfl⟩ := List.mem_iff_getElem.1 ((hm b).1 hb)
      have := hA i j hi hj (by omega) (by omega)
      subst this; rfl
theorem keys_same (h : Has s L) (h' : Has s' L') (hm : ∀ o, o ∈ L ↔ o ∈ L') {c k : Int} (hc : U64 c) (hk : U64 k) : keysS s c k = keysS s' c k :=
  keys_eq h hc hk (h'.keys c k hc hk).1 fun ky => by
    rw [(h'.keys c k hc hk).2]
    exact ⟨fun ⟨o, ho, e⟩ => ⟨o, (hm o).2 ho, e⟩, fun ⟨o, ho, e⟩ => ⟨o, (hm o).1 ho, e⟩⟩
theorem filterMap_same {α β : Type} {f g : α → Option β} : ∀ {l : List α}, (∀ x ∈ l, f x = g x) → l.filterMap f = l.filterMap g
  | [], _ => rfl
  | x :: l, h => by
    rw [List.filterMap_cons, List.filterMap_cons, h x (by simp), filterMap_same fun y hy => h y (by simp [hy])]
theorem view_same (h : Has s L) (h' : Has s' L') (hm : ∀ o, o ∈ L ↔ o ∈ L') (hsh : ∀ c k, shS s c k = shS s' c k) (hA : Apart L') : ∀ (n : Nat) (c k : Int), U64 c → U64 k → viewE s n c k = viewE s' n c k
  | 0, _, _, _, _ => rfl
  | n + 1, c, k, hc, hk => by
    rw [viewE_succ, viewE_succ, keys_same h h' hm hc hk]
    refine filterMap_same fun ky _ => ?_
    rw [get_same h h' hm hsh hA hc hk]
    unfold entE
    split
    · rename_i ht
      split
      · have hf := fitS_of h' c k (strK ky) hc hk ht
        rw [view_same h h' hm hsh hA n _ _ hf.uc hf.uk]
      · rfl
    · rfl
/-- A sum of powers apart. -/
theorem sum_erase {f : Nat → Nat} {a : Nat} : ∀ {l : List Nat}, a ∈ l → (l.map f).sum = f a + ((l.erase a).map f).sum
  | [], h => by cases h
  | x :: l, h => by
    by_cases e : x = a
    · subst e; simp
    · have hm : a ∈ l := by
        rcases List.mem_cons.1 h with q | q
        · exact absurd q.symm e
        · exact q
      have := sum_erase (f := f) hm
      rw [List.erase_cons, if_neg (by simpa using e)]
      simp only [List.map_cons, List.sum_cons]
      omega
theorem sum_pow : ∀ (m : Nat) (l : List Nat), l.Nodup → (∀ x ∈ l, x < m) → (l.map (2 ^ ·)).sum + 1 ≤ 2 ^ m
  | 0, l, _, h => by
    cases l with
    | nil => simp
    | cons x l => have := h x (by simp); omega
  | m + 1, l, hn, h => by
    rw [Nat.pow_succ]
    by_cases hm : m ∈ l
    · rw [sum_erase hm]
      have := sum_pow m (l.erase m) (hn.erase m) fun x hx => by
        have h1 := (hn.mem_erase_iff).1 hx
        have := h x h1.2
        omega
      omega
    · have := sum_pow m l hn fun x hx => by
        have := h x hx
        have : x ≠ m := fun e => hm (e ▸ hx)
        omega
      omega
theorem etsT_filter {d E M : Nat} {f : Key → Option Et} {P : Key → Nat → Prop} (hP : ∀ a b x, P a x → P b x → a = b) : ∀ (ks : List Key), ks.Pairwise (fun a b => bytesBefore a b = true) → (∀ ky ∈ ks, ∀ e, f ky = some e → ∃ x, x < M ∧ P ky x ∧ (etT d e).length ≤ E * 2 ^ x) →
    ∃ xs : List Nat, xs.Nodup ∧ (∀ x ∈ xs, x < M ∧ ∃ ky ∈ ks, P ky x) ∧ (etsT d (ks.filterMap f)).length ≤ E * (xs.map (2 ^ ·)).sum
  | [], _, _ => ⟨[], List.nodup_nil, by simp, by simp [etsT]⟩
  | ky :: ks, hp, h => by
    obtain ⟨xs, h1, h2, h3⟩ := etsT_filter hP ks (List.pairwise_cons.1 hp).2 fun k hk => h k (by simp [hk])
    rw [List.filterMap_cons]
    cases e : f ky with
    | none => exact ⟨xs, h1, fun x hx => ⟨(h2 x hx).1, by obtain ⟨k, hk, q⟩ := (h2 x hx).2; exact ⟨k, by simp [hk], q⟩⟩, h3⟩
    | some a =>
      obtain ⟨x, q1, q2, q3⟩ := h ky (by simp) a e
      refine ⟨x :: xs, List.nodup_cons.2 ⟨fun hx => ?_, h1⟩, fun y hy => ?_, ?_⟩
      · obtain ⟨k, hk, q⟩ := (h2 x hx).2
        have := hP _ _ _ q2 q
        subst this
        have := (List.pairwise_cons.1 hp).1 _ hk
        rw [before_irrefl] at this; cases this
      · rcases List.mem_cons.1 hy with rfl | hy
        · exact ⟨q1, ky, by simp, q2⟩
        · exact ⟨(h2 y hy).1, by obtain ⟨k, hk, q⟩ := (h2 y hy).2; exact ⟨k, by simp [hk], q⟩⟩
      · simp only [List.map_cons, List.sum_cons]
        unfold etsT
        rw [List.length_append, Nat.mul_add]
        omega
/-- The texts of a set's key and value are short. -/
def ShortO (o : O) : Prop := V.taken (cleanO o).v ∧ o.vs.size ≤ 1048576 ∧ o.ky.size ≤ 1048576 ∧ (qL o.ky).length + (textL (cleanO o).v).length ≤ 66
/-- An entry of a view is of a set. -/
theorem entE_is (h : Has s L) {c k : Int} (hc : U64 c) (hk : U64 k) {f : Int → Int → List Et} {ky : Key} {e : Et} (he : entE f (getS s c k (strK ky)) ky = some e) : ∃ i, ∃ hi : i < L.length, AtKey s c k (strK ky) L[i] ∧ e = .mk (strK ky) (cleanO L[i]).v (if isMapB L[i] = true then f L[i].c L[i].k else []) := by
  rcases get_is h hc hk (strK ky) with ⟨_, q⟩ | ⟨b, hb, ha, hg, q⟩
  · rw [q] at he; unfold entE at he; simp at he
  · by_cases hv : b.vk ≠ 0
    · rw [if_pos hv] at q
      rw [q] at he
      unfold entE at he
      simp only [if_true, Option.some.injEq] at he
      obtain ⟨i, hi, rfl⟩ := List.mem_iff_getElem.1 hb
      exact ⟨i, hi, ha, he.symm⟩
    · rw [if_neg hv] at q
      rw [q] at he; unfold entE at he; simp at he
theorem view_len (h : Has s L) (hC : Chain L) (hA : Apart L) (hS : ∀ o ∈ L, ShortO o) (D : Nat) : ∀ (n : Nat) (c k : Int) (d rem : Nat), U64 c → U64 k → d + n ≤ D →
    ((c = 0 ∧ k = 0 ∧ rem = L.length) ∨ ∃ j, ∃ hj : j < L.length, L[j].c = c ∧ L[j].k = k ∧ rem = L.length - 1 - j) → (etsT d (viewE s n c k)).length + (2 * D + 70) ≤ (2 * D + 70) * 2 ^ rem := by
  intro n
  induction n with
  | zero =>
    intro c k d rem _ _ _ _
    have : 1 ≤ 2 ^ rem := Nat.one_le_two_pow
    have h2 := Nat.mul_le_mul_left (2 * D + 70) this
    simp only [viewE, etsT, List.length_nil]
    omega
  | succ n ih =>
    intro c k d rem hc hk hd hj
    rw [viewE_succ]
    obtain ⟨xs, h1, h2, h3⟩ := etsT_filter (d := d) (E := 2 * D + 70) (M := rem) (f := fun ky => entE (viewE s n) (getS s c k (strK ky)) ky) (P := fun ky x => ∃ i, ∃ hi : i < L.length, L[i].ky = strK ky ∧ x = L.length - 1 - i)
      (fun a b x ⟨i, hi, e1, e2⟩ ⟨j, hj, e3, e4⟩ => by
        have : i = j := by omega
        subst this
        have := e1.symm.trans e3
        have h5 := congrArg (fun b : ByteArray => b.data.toList) this
        simpa [strK] using h5) (keysS s c k) (h.keys c k hc hk).1 (fun ky hky e he => by
        obtain ⟨i, hi, ha, rfl⟩ := entE_is h hc hk he
        have hfi := (h.fits _ (List.getElem_mem hi)).1
        have hlt : L.length - 1 - i < rem := by
          rcases hj with ⟨_, _, q⟩ | ⟨j, hjl, q1, q2, q3⟩
          · omega
          · rcases hC i hi with ⟨z1, z2⟩ | ⟨j2, hj2, z0, z1, z2⟩
            · have hz := (h.fits _ (List.getElem_mem hjl)).2.2.1
              exact absurd (by rw [q1, ← ha.1]; exact z1) (num_u64 hz)
            · have := hA j j2 hjl (by omega) (by rw [q1, z1, ha.1]) (by rw [q2, z2, ha.2.1])
              omega
        refine ⟨L.length - 1 - i, hlt, ⟨i, hi, ha.2.2.1, rfl⟩, ?_⟩
        have hsh := hS _ (List.getElem_mem hi)
        rw [etT_eq]
        simp only [Et.ky, Et.v, Et.kids]
        have hk2 : (etsT (d + 1) (if isMapB L[i] = true then viewE s n L[i].c L[i].k else [])).length + (2 * D + 70) ≤ (2 * D + 70) * 2 ^ (L.length - 1 - i) := by
          split
          · exact ih L[i].c L[i].k (d + 1) (L.length - 1 - i) hfi.uc hfi.uk (by omega) (.inr ⟨i, hi, rfl, rfl, rfl⟩)
          · have : 1 ≤ 2 ^ (L.length - 1 - i) := Nat.one_le_two_pow
            have h2 := Nat.mul_le_mul_left (2 * D + 70) this
            simp only [etsT, List.length_nil]
            omega
        have hent : (entT d (strK ky) (cleanO L[i]).v).length = 2 * d + 2 + (qL L[i].ky).length + 1 + (textL (cleanO L[i]).v).length := by
          rw [ha.2.2.1]
          unfold entT
          simp only [List.length_append, List.length_cons, List.length_nil, insetT_len]
          omega
        have h4 := hsh.2.2.2
        rw [List.length_append, List.length_append, hent]
        have h5 : ([10] : List UInt8).length = 1 := rfl
        omega)
    have h4 := sum_pow rem xs h1 fun x hx => (h2 x hx).1
    have h5 := Nat.mul_le_mul_left (2 * D + 70) h4
    rw [Nat.mul_add] at h5
    omega
theorem view_ok (h : Has s L) (hS : ∀ o ∈ L, ShortO o) : ∀ (n : Nat) (c k : Int), U64 c → U64 k → OkEs n (viewE s n c k)
  | 0, _, _, _, _ => rfl
  | n + 1, c, k, hc, hk => by
    rw [viewE_succ]
    intro e he
    obtain ⟨ky, hky, he⟩ := List.mem_filterMap.1 he
    obtain ⟨i, hi, ha, rfl⟩ := entE_is h hc hk he
    obtain ⟨q1, q2, q3, q4⟩ := hS _ (List.getElem_mem hi)
    have hfi := (h.fits _ (List.getElem_mem hi)).1
    refine ⟨q1, q2, by rw [← ha.2.2.1]; exact q3, ?_⟩
    simp only [Et.kids]
    split
    · exact view_ok h hS n _ _ hfi.uc hfi.uk
    · cases n with
      | zero => rfl
      | succ n => intro e he; cases he
end
end Go.Proofs.Ytegldlfbmaapiaa

/- The document's texts of entries. -/
namespace Go.Proofs.Ytegldlfbmaapiaa
open Go.RowKit Go.Maps
set_option linter.unusedVariables false
set_option linter.unusedSimpArgs false
set_option maxRecDepth 100000

set_option maxHeartbeats 16000000 in
theorem qentries_any {w0 : World} {S : Nat → Prop} : ∀ (h : Nat) (l : List Et) (v : Value) (d : Nat) (w : World), EtAt w0 S h v l → OkEs h l → Touch (fun _ => False) w0 w → (insetT (d + h)).length ≤ 100000 → (etsT d l).length ≤ 1000000000000000 →
    Calls Try.prog 51 #[v, .string (strOf (insetT d))] w fun e w' => e = .returned (.string (strOf (etsT d l))) ∧ Touch (fun _ => False) w0 w' := by
  intro h
  induction h with
  | zero =>
    intro l v d w g hok t hd hb
    obtain ⟨rfl, hsl⟩ := g
    obtain ⟨ao, cap, rfl, -⟩ := hsl.sl.shape
    have HQ : Hid (Touch (fun _ => False) w0 w) := t
    clear hsl hok t hb hd
    generalize strOf (insetT d) = A at *
    have HE : Hid (strOf (etsT d []) = ⟨#[]⟩) := rfl
    generalize strOf (etsT d []) = R at *
    go_enter Try.func51, Try.ntmps51
    have e0 : (([] : List Et).length : Int) = 0 := rfl
    go_wp2_with fail
    go_loopg [5, 6] 0 (fun gk s5 s6 wr => s5 = .string ⟨#[]⟩ ∧ s6 = .int .i64 0 ∧ Hid (Touch (fun _ => False) w0 wr))
    case atStart => exact ⟨rfl, rfl, HQ.out⟩
    case round =>
      obtain ⟨rfl, rfl, HI⟩ := hrel
      go_wp2_with fail
      go_ret
      exact ⟨by rw [HE.out]; rfl, HI.out⟩
  | succ h ih =>
    intro l v d w g hg t hd hb
    obtain ⟨raws0, ⟨ao, cap, e0, -, hll0, hll1, -⟩, hl0, -⟩ := id g
    have hll : l.length ≤ 9223372036854775807 := by rw [← hl0]; omega
    rw [hl0] at e0
    subst e0
    have HA : Hid (EtAt w0 S (h + 1) (.slice ao l.length cap) l) := g
    have HG : Hid (∀ e ∈ l, V.taken e.v ∧ e.v.s.size ≤ 1048576 ∧ e.ky.size ≤ 1048576 ∧ OkEs h e.kids) := hg
    have HB : Hid ((etsT d l).length ≤ 1000000000000000) := hb
    have HQ : Hid (Touch (fun _ => False) w0 w) := t
    have HIH : Hid (∀ (l : List Et) (v : Value) (d : Nat) (w : World), EtAt w0 S h v l → OkEs h l → Touch (fun _ => False) w0 w → (insetT (d + h)).length ≤ 100000 → (etsT d l).length ≤ 1000000000000000 → Calls Try.prog 51 #[v, .string (strOf (insetT d))] w fun e w' => e = .returned (.string (strOf (etsT d l))) ∧ Touch (fun _ => False) w0 w') := ih
    have HD : Hid ((insetT (d + 1 + h)).length ≤ 100000) := by show _ ≤ _; rw [show d + 1 + h = d + (h + 1) from by omega]; exact hd
    obtain ⟨A, hA⟩ : ∃ A, Hid (A = strOf (insetT d)) := ⟨_, Eq.refl _⟩
    have hAs : A.size ≤ 100000 := by
      rw [hA.out, strOf_size, insetT_len]
      rw [insetT_len] at hd
      omega
    rw [← hA.out]
    clear g hll0 hll1 hl0 t hb hg ih hd
    go_enter Try.func51, Try.ntmps51
    go_wp2_with fail
    go_loopg [5, 6] l.length (fun gk s5 s6 wr => ∃ (i : Nat) (o : ByteArray), i + gk = l.length ∧ s5 = .string o ∧ s6 = .int .i64 (i : Int) ∧ Hid (Touch (fun _ => False) w0 wr ∧ o = strOf (etsT d (l.take i))))
    case atStart => exact ⟨0, _, by omega, rfl, rfl, HQ.out, rfl⟩
    case round =>
      obtain ⟨i, o, hig, rfl, rfl, HI⟩ := hrel
      by_cases hil : i < l.length
      · obtain ⟨b, off, rks, rfl, hkids, hca⟩ := HA.out.at hil
        have HX : Hid (∀ W, Touch (fun _ => False) w0 W → _) := fun W (t : Touch (fun _ => False) w0 W) => hca W t
        have hi1 : (0 : Int) ≤ (i : Int) := by omega
        have hi2 : (i : Int) < (l.length : Int) := by omega
        obtain ⟨g1, g2, g3, g4⟩ := HG.out _ (List.getElem_mem hil)
        have HJ : Hid (etsT d (l.take (i + 1)) = etsT d (l.take i) ++ (entT d l[i].ky l[i].v ++ [10] ++ etsT (d + 1) l[i].kids)) := by
          show _ = _
          rw [etsT_take hil, etT_eq]
        have hlen : (etsT d (l.take i)).length + ((entT d l[i].ky l[i].v).length + 1 + (etsT (d + 1) l[i].kids).length) ≤ 1000000000000000 := by
          have h1 := congrArg List.length HJ.out
          have h2 := etsT_take_le d l (i + 1)
          have h3 := HB.out
          rw [List.length_append, List.length_append, List.length_append] at h1
          have h4 : ([10] : List UInt8).length = 1 := rfl
          omega
        have hent : (entT d l[i].ky l[i].v).length = (insetT d).length + 2 + (qL l[i].ky).length + 1 + (textL l[i].v).length := by
          unfold entT; simp only [List.length_append, List.length_cons, List.length_nil]; omega
        have HQi : Hid (∀ W, Calls Try.prog 49 #[.string l[i].ky] W fun e w' => e = .returned (.string (strOf (qL l[i].ky))) ∧ Touch (fun _ => False) W w') := fun W => ref_quote l[i].ky (by omega) W
        have HTi : Hid (∀ W, Calls Try.prog 48 #[.agg #[.int .i64 l[i].v.k, .int .i64 l[i].v.n, .float .f64 l[i].v.f, .string l[i].v.s]] W fun e w' => e = .returned (.string (strOf (textL l[i].v))) ∧ Touch (fun _ => False) W w') := fun W => ref_text l[i].v g1 (by omega) W
        have HRi : Hid (∀ W, Touch (fun _ => False) w0 W → Calls Try.prog 51 #[rks.val, .string (A ++ ⟨#[32, 32]⟩)] W fun e w' => e = .returned (.string (strOf (etsT (d + 1) l[i].kids))) ∧ Touch (fun _ => False) w0 w') := fun W t => by
          have h1 := HIH.out l[i].kids rks.val (d + 1) W hkids g4 t HD.out (by omega)
          have e2 : (⟨#[32, 32]⟩ : ByteArray) = strOf [32, 32] := rfl
          rw [inset_succ, ← strOf_app, ← hA.out, ← e2] at h1
          exact h1
        have hsz : o.size + A.size + 2 + (strOf (qL l[i].ky)).size + 1 + (strOf (textL l[i].v)).size + 1 + (strOf (etsT (d + 1) l[i].kids)).size ≤ 1000000000000000 := by
          rw [HI.out.2, hA.out, strOf_size, strOf_size, strOf_size, strOf_size, strOf_size]
          omega
        have HF : Hid (o ++ A ++ ⟨#[109, 32]⟩ ++ strOf (qL l[i].ky) ++ ⟨#[61]⟩ ++ strOf (textL l[i].v) ++ ⟨#[10]⟩ ++ strOf (etsT (d + 1) l[i].kids) = strOf (etsT d (l.take (i + 1)))) := by
          have e1 : (⟨#[109, 32]⟩ : ByteArray) = strOf [109, 32] := rfl
          have e2 : (⟨#[61]⟩ : ByteArray) = strOf [61] := rfl
          have e3 : (⟨#[10]⟩ : ByteArray) = strOf [10] := rfl
          rw [Hid, HI.out.2, hA.out, e1, e2, e3, strOf_app, strOf_app, strOf_app, strOf_app, strOf_app, strOf_app, strOf_app, HJ.out]
          congr 1
          unfold entT
          simp only [List.append_assoc, List.cons_append, List.nil_append]
        have T0 : Touch (fun _ => False) w0 wr := HI.out.1
        clear hca hkids HA HG HB HI HJ hlen hent g1 g2 g3 g4 HIH HD hA HQ
        generalize l[i] = a at *
        obtain ⟨ky, ⟨vk, vn, vf, vs⟩, kids⟩ := a
        obtain ⟨ra, rn, rc⟩ := rks
        simp only [Et.ky, Et.v, Et.kids] at HX HQi HTi HRi HF hsz
        generalize strOf (qL ky) = q at *
        generalize strOf (textL (V.mk vk vn vf vs)) = tt at *
        generalize strOf (etsT (d + 1) kids) = rr at *
        have TD : Touch (fun _ => False) w0 wr.drew := T0.drew
        have S0 := HX.out _ TD
        have f1 : ¬ 9223372036854775807 < o.size + A.size := by omega
        have f2 : ¬ 9223372036854775807 < o.size + A.size + 2 := by omega
        have f3 : ¬ 9223372036854775807 < o.size + A.size + 2 + q.size := by omega
        have f4 : ¬ 9223372036854775807 < o.size + A.size + 2 + q.size + 1 := by omega
        have f5 : ¬ 9223372036854775807 < o.size + A.size + 2 + q.size + 1 + tt.size := by omega
        have f6 : ¬ 9223372036854775807 < o.size + A.size + 2 + q.size + 1 + tt.size + 1 := by omega
        have f7 : ¬ 9223372036854775807 < o.size + A.size + 2 + q.size + 1 + tt.size + 1 + rr.size := by omega
        have f8 : ¬ 9223372036854775807 < A.size + 2 := by omega
        clear hsz hAs
        go_upto_region 5 with fail
        go_region_held3 (fun W => W.cell? ⟨b, off + i * 6, none⟩ = some (.string ky) ∧ W.cell? ⟨b, off + i * 6 + 1, none⟩ = some (.int .i64 vk) ∧ W.cell? ⟨b, off + i * 6 + 2, none⟩ = some (.int .i64 vn) ∧ W.cell? ⟨b, off + i * 6 + 3, none⟩ = some (.float .f64 vf) ∧ W.cell? ⟨b, off + i * 6 + 4, none⟩ = some (.string vs) ∧ W.cell? ⟨b, off + i * 6 + 5, none⟩ = some (.slice ra rn rc)) (first | assumption)
          (first
            | (go_at_call 49; (with_reducible refine (HQi.out _).mono ?_); rintro e w1 ⟨rfl, t1⟩; have TT := Touch.trans (by assumption) t1; have S1 := HX.out w1 TT; clear t1)
            | (go_at_call 48; (with_reducible refine (HTi.out _).mono ?_); rintro e w1 ⟨rfl, t1⟩; have TT := Touch.trans (by assumption) t1; have S1 := HX.out w1 TT; clear t1)
            | (go_at_call 51; (with_reducible refine (HRi.out _ (by assumption)).mono ?_); rintro e w1 ⟨rfl, TT⟩; have S1 := HX.out w1 TT))
        all_goals (have TF := TT; have HG : Hid (Touch (fun _ => False) w0 w1) := TF; clear S0 S1 HQi HTi HRi TD TT TF HX T0 f1 f2 f3 f4 f5 f6 f7 f8)
        all_goals (try go_wp2_with fail)
        all_goals (go_roundg (l.length - (i + 1)))
        all_goals (first | (case measure => omega) | skip)
        all_goals exact ⟨i + 1, _, by omega, rfl, by go_num, HG.out, HF.out⟩
      · have : i = l.length := by omega
        subst this
        have HE : Hid (Touch (fun _ => False) w0 wr ∧ o = strOf (etsT d l)) := by
          have h := HI.out
          rw [List.take_length] at h
          exact h
        clear HI HA HG HB HIH HD hA HQ
        go_wp2_with fail
        go_ret
        exact ⟨by rw [← HE.out.2]; rfl, HE.out.1⟩
end Go.Proofs.Ytegldlfbmaapiaa

/- The document's text of a view of entries alone, and quirelaw12's text. -/
namespace Go.Proofs.Ytegldlfbmaapiaa
open Go.RowKit Go.Maps
set_option linter.unusedVariables false
set_option linter.unusedSimpArgs false
set_option maxRecDepth 100000

theorem viewOnly_cells {W : World} {m : Nat} {mo : Option Addr} {n cap : Nat} (h : W.heap[m]? = some (.cells #[.slice none 0 0, .slice mo n cap] 80)) : W.cell? ⟨m, 0, none⟩ = some (.slice none 0 0) ∧ W.cell? ⟨m, 1, none⟩ = some (.slice mo n cap) :=
  ⟨by rw [cell_of_block h]; rfl, by rw [cell_of_block h]; rfl⟩
set_option maxHeartbeats 16000000 in
theorem qtext_any {w : World} {S : Nat → Prop} {v : Value} {h : Nat} {l : List Et} (hg : EtAt w S h v l) (hok : OkEs h l) (hh : h ≤ 50000) (hb : (etsT 0 l).length ≤ 1000000000000000) :
    Calls Try.prog 25 #[.agg #[.slice none 0 0, v]] w fun e w' => e = .returned (.string (strOf (etsT 0 l))) ∧ Touch (fun _ => False) w w' := by
  obtain ⟨mo, n, mcap, rfl⟩ : ∃ mo n cap, v = .slice mo n cap := by
    cases h with
    | zero => obtain ⟨ao, cap, e, -⟩ := hg.2; exact ⟨_, _, _, e⟩
    | succ h => obtain ⟨raws, ⟨ao, cap, e, -⟩, -⟩ := hg; exact ⟨_, _, _, e⟩
  have HE : Hid (∀ W, Touch (fun _ => False) w W → Calls Try.prog 51 #[.slice mo n mcap, .string ⟨#[]⟩] W fun e w' => e = .returned (.string (strOf (etsT 0 l))) ∧ Touch (fun _ => False) w w') := fun W t => qentries_any h l _ 0 W hg hok t (by rw [insetT_len]; omega) hb
  obtain ⟨E, hE⟩ : ∃ E, Hid (E = w.alloc (.cells #[.slice none 0 0, .slice mo n mcap] 80)) := ⟨w.alloc (.cells #[.slice none 0 0, .slice mo n mcap] 80), Eq.refl _⟩
  obtain ⟨m, hmm⟩ : ∃ m, Hid (m = w.heap.size) := ⟨_, Eq.refl _⟩
  have tE : Touch (fun _ => False) w E := by rw [hE.out]; exact (Touch.refl _ _).alloc _
  have hbE : E.heap[m]? = some (.cells #[.slice none 0 0, .slice mo n mcap] 80) := by rw [hE.out, hmm.out]; exact heap_alloc_new _ _
  obtain ⟨b0, b1⟩ := viewOnly_cells hbE
  have HTE : Hid (Touch (fun _ => False) w E) := tE
  have hsz : (strOf (etsT 0 l)).size ≤ 1000000000000000 := by rw [strOf_size]; exact hb
  clear hg hok hh hb tE hbE
  generalize strOf (etsT 0 l) = VT at *
  have f1 : ¬ 9223372036854775807 < (ByteArray.mk #[]).size + VT.size := by
    have : (ByteArray.mk #[]).size = 0 := rfl
    omega
  have HV : Hid (ByteArray.mk #[] ++ VT = VT) := by rw [Hid]; apply bytes_ext; rw [append_data]; rfl
  go_enter Try.func25, Try.ntmps25
  go_upto_region 1 with fail
  rw [← hE.out, ← hmm.out]
  clear hE hmm
  go_wp2_with fail
  go_loopg [3, 4] 0 (fun gk s3 s4 wr => s3 = .string ⟨#[]⟩ ∧ s4 = .int .i64 0 ∧ wr = E)
  case atStart => exact ⟨rfl, rfl, rfl⟩
  case round =>
    obtain ⟨rfl, rfl, rfl⟩ := hrel
    have HC2 : Hid (Calls Try.prog 51 #[.slice mo n mcap, .string ⟨#[]⟩] wr fun e w' => e = .returned (.string VT) ∧ Touch (fun _ => False) w w') := HE.out _ HTE.out
    clear HE
    go_wp2_with fail
    refine HC2.out.mono ?_
    rintro e W1 ⟨rfl, t1⟩
    have T1 : Hid (Touch (fun _ => False) w W1) := t1
    clear t1 HC2 b0 b1
    go_wp2_with fail
    go_ret
    exact ⟨by first | rfl | (rw [HV.out]; rfl), T1.out⟩
set_option maxHeartbeats 16000000 in
theorem text_any {w : World} {S : Nat → Prop} {v : Value} {h : Nat} {l : List Et} (hg : EtAt w S h v l) (hok : OkEs h l) (hh : h ≤ 50000) (hb : (etsT 0 l).length ≤ 1000000000000000) :
    Calls Try.prog 12 #[v] w fun e w' => e = .returned (.string (strOf (etsT 0 l))) ∧ Touch (fun _ => False) w w' := by
  have HQ : Hid (Calls Try.prog 25 #[.agg #[.slice none 0 0, v]] w fun e w' => e = .returned (.string (strOf (etsT 0 l))) ∧ Touch (fun _ => False) w w') := qtext_any hg hok hh hb
  obtain ⟨mo, n, mcap, rfl⟩ : ∃ mo n cap, v = .slice mo n cap := by
    cases h with
    | zero => obtain ⟨ao, cap, e, -⟩ := hg.2; exact ⟨_, _, _, e⟩
    | succ h => obtain ⟨raws, ⟨ao, cap, e, -⟩, -⟩ := hg; exact ⟨_, _, _, e⟩
  clear hg hok hb
  generalize strOf (etsT 0 l) = VT at *
  go_enter Try.func12, Try.ntmps12
  go_wp2_with fail
  refine HQ.out.mono ?_
  rintro e W1 ⟨rfl, t1⟩
  go_wp2_with fail
  go_ret
  exact ⟨rfl, t1⟩
end Go.Proofs.Ytegldlfbmaapiaa
