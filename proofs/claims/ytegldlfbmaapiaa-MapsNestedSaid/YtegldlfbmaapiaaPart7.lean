/- The library's right texts are the document's. It speaks of no program. -/
import Derived.Test.YtegldlfbmaapiaaRunes
import Derived.Lib.ValidU
import Derived.Test.YtegldlfbmaapiaaPart1
namespace Go.Proofs.Ytegldlfbmaapiaa
open Go.RowKit
set_option linter.unusedVariables false
set_option maxRecDepth 10000

theorem get_at (l : List UInt8) (k : Nat) : (ByteArray.mk l.toArray).get! k = l.getD k 0 := by
  show l.toArray[k]! = _
  simp [List.getD, getElem!_def]
  cases l[k]? <;> rfl
theorem valid_nat (c : Nat) : Utf8.valid (c : Int) = decide (c < 55296 ∨ (57344 ≤ c ∧ c ≤ 1114111)) := by
  unfold Utf8.valid
  rw [Bool.eq_iff_iff]
  simp only [Bool.or_eq_true, Bool.and_eq_true, decide_eq_true_eq]
  omega

/-- The library's step and the document's, as numbers. -/
def decN (n b0 b1 b2 b3 : Nat) : Nat × Nat :=
  if b0 < 128 then (b0, 1)
  else if b0 / 32 = 6 ∧ (1 < n ∧ b1 / 64 = 2) then (if 128 ≤ b0 % 32 * 64 + b1 % 64 then (b0 % 32 * 64 + b1 % 64, 2) else (65533, 1))
  else if b0 / 16 = 14 ∧ (1 < n ∧ b1 / 64 = 2) ∧ (2 < n ∧ b2 / 64 = 2) then (if 2048 ≤ b0 % 16 * 4096 + b1 % 64 * 64 + b2 % 64 ∧ ((b0 % 16 * 4096 + b1 % 64 * 64 + b2 % 64 < 55296) ∨ (57344 ≤ b0 % 16 * 4096 + b1 % 64 * 64 + b2 % 64 ∧ b0 % 16 * 4096 + b1 % 64 * 64 + b2 % 64 ≤ 1114111)) then (b0 % 16 * 4096 + b1 % 64 * 64 + b2 % 64, 3) else (65533, 1))
  else if b0 / 8 = 30 ∧ (1 < n ∧ b1 / 64 = 2) ∧ (2 < n ∧ b2 / 64 = 2) ∧ (3 < n ∧ b3 / 64 = 2) then (if 65536 ≤ b0 % 8 * 262144 + b1 % 64 * 4096 + b2 % 64 * 64 + b3 % 64 ∧ ((b0 % 8 * 262144 + b1 % 64 * 4096 + b2 % 64 * 64 + b3 % 64 < 55296) ∨ (57344 ≤ b0 % 8 * 262144 + b1 % 64 * 4096 + b2 % 64 * 64 + b3 % 64 ∧ b0 % 8 * 262144 + b1 % 64 * 4096 + b2 % 64 * 64 + b3 % 64 ≤ 1114111)) then (b0 % 8 * 262144 + b1 % 64 * 4096 + b2 % 64 * 64 + b3 % 64, 4) else (65533, 1))
  else (65533, 1)

theorem decode_eq (l : List UInt8) : Go.Lib.decodeL l = decN l.length (l.getD 0 0).toNat (l.getD 1 0).toNat (l.getD 2 0).toNat (l.getD 3 0).toNat := by
  unfold Go.Lib.decodeL Utf8.decode decN
  have hsz : (ByteArray.mk l.toArray).size = l.length := by show l.toArray.size = _; simp
  simp only [get_at, hsz, Nat.zero_add, valid_nat, Utf8.runeError, Bool.and_eq_true, decide_eq_true_eq, beq_iff_eq, ge_iff_le, and_assoc]

/-- The document's step, as numbers. -/
def nxtN (n b0 b1 b2 b3 : Nat) : Nat :=
  if b0 < 128 then 1
  else if 194 ≤ b0 ∧ b0 < 224 then (if n < 2 then 0 else if 128 ≤ b1 ∧ b1 < 192 then (if b0 % 32 * 64 + b1 % 64 < 128 ∨ 1114111 < b0 % 32 * 64 + b1 % 64 ∨ (55296 ≤ b0 % 32 * 64 + b1 % 64 ∧ b0 % 32 * 64 + b1 % 64 < 57344) then 0 else 2) else 0)
  else if 224 ≤ b0 ∧ b0 < 240 then (if n < 3 then 0 else if 128 ≤ b1 ∧ b1 < 192 then (if 128 ≤ b2 ∧ b2 < 192 then (if (b0 % 16 * 64 + b1 % 64) * 64 + b2 % 64 < 2048 ∨ 1114111 < (b0 % 16 * 64 + b1 % 64) * 64 + b2 % 64 ∨ (55296 ≤ (b0 % 16 * 64 + b1 % 64) * 64 + b2 % 64 ∧ (b0 % 16 * 64 + b1 % 64) * 64 + b2 % 64 < 57344) then 0 else 3) else 0) else 0)
  else if 240 ≤ b0 ∧ b0 < 245 then (if n < 4 then 0 else if 128 ≤ b1 ∧ b1 < 192 then (if 128 ≤ b2 ∧ b2 < 192 then (if 128 ≤ b3 ∧ b3 < 192 then (if ((b0 % 8 * 64 + b1 % 64) * 64 + b2 % 64) * 64 + b3 % 64 < 65536 ∨ 1114111 < ((b0 % 8 * 64 + b1 % 64) * 64 + b2 % 64) * 64 + b3 % 64 ∨ (55296 ≤ ((b0 % 8 * 64 + b1 % 64) * 64 + b2 % 64) * 64 + b3 % 64 ∧ ((b0 % 8 * 64 + b1 % 64) * 64 + b2 % 64) * 64 + b3 % 64 < 57344) then 0 else 4) else 0) else 0) else 0)
  else 0
theorem nxt_eq (l : List UInt8) : (nxt l).2 = nxtN l.length (l.getD 0 0).toNat (l.getD 1 0).toNat (l.getD 2 0).toNat (l.getD 3 0).toNat := by
  unfold nxt nxtN
  generalize (l.getD 0 0).toNat = b0
  split
  · rfl
  split
  · unfold nxtTail
    split
    · rfl
    · simp only [Nat.reduceSub, nxtGo]
      by_cases d1 : 128 ≤ (l.getD 1 0).toNat ∧ (l.getD 1 0).toNat < 192
      case neg => rw [if_neg d1, if_neg d1]
      rw [if_pos d1, if_pos d1]
      simp only [nxtEnd]
      split <;> rfl
  split
  · unfold nxtTail
    split
    · rfl
    · simp only [Nat.reduceSub, nxtGo, Nat.reduceAdd]
      by_cases d1 : 128 ≤ (l.getD 1 0).toNat ∧ (l.getD 1 0).toNat < 192
      case neg => rw [if_neg d1, if_neg d1]
      rw [if_pos d1, if_pos d1]
      by_cases d2 : 128 ≤ (l.getD 2 0).toNat ∧ (l.getD 2 0).toNat < 192
      case neg => rw [if_neg d2, if_neg d2]
      rw [if_pos d2, if_pos d2]
      simp only [nxtEnd]
      split <;> rfl
  split
  · unfold nxtTail
    split
    · rfl
    · simp only [Nat.reduceSub, nxtGo, Nat.reduceAdd]
      by_cases d1 : 128 ≤ (l.getD 1 0).toNat ∧ (l.getD 1 0).toNat < 192
      case neg => rw [if_neg d1, if_neg d1]
      rw [if_pos d1, if_pos d1]
      by_cases d2 : 128 ≤ (l.getD 2 0).toNat ∧ (l.getD 2 0).toNat < 192
      case neg => rw [if_neg d2, if_neg d2]
      rw [if_pos d2, if_pos d2]
      by_cases d3 : 128 ≤ (l.getD 3 0).toNat ∧ (l.getD 3 0).toNat < 192
      case neg => rw [if_neg d3, if_neg d3]
      rw [if_pos d3, if_pos d3]
      simp only [nxtEnd]
      split <;> rfl
  · rfl

/-- Where the document's step is none the library's is the error, and else they go as far. -/
theorem steps (n b0 b1 b2 b3 : Nat) (h0 : b0 < 256) (h1 : b1 < 256) (h2 : b2 < 256) (h3 : b3 < 256) :
    (nxtN n b0 b1 b2 b3 = 0 ↔ ((decN n b0 b1 b2 b3).1 = 65533 ∧ (decN n b0 b1 b2 b3).2 = 1)) ∧ (nxtN n b0 b1 b2 b3 ≠ 0 → (decN n b0 b1 b2 b3).2 = nxtN n b0 b1 b2 b3) := by
  unfold nxtN
  by_cases c0 : b0 < 128
  · rw [if_pos c0]
    have hd : decN n b0 b1 b2 b3 = (b0, 1) := by unfold decN; rw [if_pos c0]
    rw [hd]; simp; omega
  rw [if_neg c0]
  by_cases c1 : 194 ≤ b0 ∧ b0 < 224
  · rw [if_pos c1]
    by_cases n1 : n < 2
    · rw [if_pos n1]
      have hd : decN n b0 b1 b2 b3 = (65533, 1) := by
        unfold decN
        repeat' split
        all_goals first | rfl | (exfalso; omega)
      rw [hd]; simp
    · rw [if_neg n1]
      by_cases d1 : 128 ≤ b1 ∧ b1 < 192
      · rw [if_pos d1, if_neg (show ¬ (b0 % 32 * 64 + b1 % 64 < 128 ∨ 1114111 < b0 % 32 * 64 + b1 % 64 ∨ (55296 ≤ b0 % 32 * 64 + b1 % 64 ∧ b0 % 32 * 64 + b1 % 64 < 57344)) by omega)]
        have hd : decN n b0 b1 b2 b3 = (b0 % 32 * 64 + b1 % 64, 2) := by
          unfold decN
          repeat' split
          all_goals first | rfl | (exfalso; omega)
        rw [hd]; simp
      · rw [if_neg d1]
        have hd : decN n b0 b1 b2 b3 = (65533, 1) := by
          unfold decN
          repeat' split
          all_goals first | rfl | (exfalso; omega)
        rw [hd]; simp
  rw [if_neg c1]
  by_cases c2 : 224 ≤ b0 ∧ b0 < 240
  · rw [if_pos c2]
    by_cases n1 : n < 3
    · rw [if_pos n1]
      have hd : decN n b0 b1 b2 b3 = (65533, 1) := by
        unfold decN
        repeat' split
        all_goals first | rfl | (exfalso; omega)
      rw [hd]; simp
    · rw [if_neg n1]
      by_cases d1 : 128 ≤ b1 ∧ b1 < 192
      · rw [if_pos d1]
        by_cases d2 : 128 ≤ b2 ∧ b2 < 192
        · rw [if_pos d2]
          by_cases e : (b0 % 16 * 64 + b1 % 64) * 64 + b2 % 64 < 2048 ∨ 1114111 < (b0 % 16 * 64 + b1 % 64) * 64 + b2 % 64 ∨ (55296 ≤ (b0 % 16 * 64 + b1 % 64) * 64 + b2 % 64 ∧ (b0 % 16 * 64 + b1 % 64) * 64 + b2 % 64 < 57344)
          · rw [if_pos e]
            have hd : decN n b0 b1 b2 b3 = (65533, 1) := by
              unfold decN
              repeat' split
              all_goals first | rfl | (exfalso; omega)
            rw [hd]; simp
          · rw [if_neg e]
            have hd : decN n b0 b1 b2 b3 = (b0 % 16 * 4096 + b1 % 64 * 64 + b2 % 64, 3) := by
              unfold decN
              repeat' split
              all_goals first | rfl | (exfalso; omega)
            rw [hd]; simp
        · rw [if_neg d2]
          have hd : decN n b0 b1 b2 b3 = (65533, 1) := by
            unfold decN
            repeat' split
            all_goals first | rfl | (exfalso; omega)
          rw [hd]; simp
      · rw [if_neg d1]
        have hd : decN n b0 b1 b2 b3 = (65533, 1) := by
          unfold decN
          repeat' split
          all_goals first | rfl | (exfalso; omega)
        rw [hd]; simp
  rw [if_neg c2]
  by_cases c3 : 240 ≤ b0 ∧ b0 < 245
  · rw [if_pos c3]
    by_cases n1 : n < 4
    · rw [if_pos n1]
      have hd : decN n b0 b1 b2 b3 = (65533, 1) := by
        unfold decN
        repeat' split
        all_goals first | rfl | (exfalso; omega)
      rw [hd]; simp
    · rw [if_neg n1]
      by_cases d1 : 128 ≤ b1 ∧ b1 < 192
      · rw [if_pos d1]
        by_cases d2 : 128 ≤ b2 ∧ b2 < 192
        · rw [if_pos d2]
          by_cases d3 : 128 ≤ b3 ∧ b3 < 192
          · rw [if_pos d3]
            by_cases e : ((b0 % 8 * 64 + b1 % 64) * 64 + b2 % 64) * 64 + b3 % 64 < 65536 ∨ 1114111 < ((b0 % 8 * 64 + b1 % 64) * 64 + b2 % 64) * 64 + b3 % 64 ∨ (55296 ≤ ((b0 % 8 * 64 + b1 % 64) * 64 + b2 % 64) * 64 + b3 % 64 ∧ ((b0 % 8 * 64 + b1 % 64) * 64 + b2 % 64) * 64 + b3 % 64 < 57344)
            · rw [if_pos e]
              have hd : decN n b0 b1 b2 b3 = (65533, 1) := by
                unfold decN
                repeat' split
                all_goals first | rfl | (exfalso; omega)
              rw [hd]; simp
            · rw [if_neg e]
              have hd : decN n b0 b1 b2 b3 = (b0 % 8 * 262144 + b1 % 64 * 4096 + b2 % 64 * 64 + b3 % 64, 4) := by
                unfold decN
                repeat' split
                all_goals first | rfl | (exfalso; omega)
              rw [hd]; simp
          · rw [if_neg d3]
            have hd : decN n b0 b1 b2 b3 = (65533, 1) := by
              unfold decN
              repeat' split
              all_goals first | rfl | (exfalso; omega)
            rw [hd]; simp
        · rw [if_neg d2]
          have hd : decN n b0 b1 b2 b3 = (65533, 1) := by
            unfold decN
            repeat' split
            all_goals first | rfl | (exfalso; omega)
          rw [hd]; simp
      · rw [if_neg d1]
        have hd : decN n b0 b1 b2 b3 = (65533, 1) := by
          unfold decN
          repeat' split
          all_goals first | rfl | (exfalso; omega)
        rw [hd]; simp
  rw [if_neg c3]
  have hd : decN n b0 b1 b2 b3 = (65533, 1) := by
    unfold decN
    repeat' split
    all_goals first | rfl | (exfalso; omega)
  rw [hd]; simp

theorem valid_go (m : Nat) (l : List UInt8) (h : l.length ≤ m) : Go.Lib.validGoD m l = (runesGo m l).isSome := by
  induction m generalizing l with
  | zero =>
    have : l = [] := List.eq_nil_of_length_eq_zero (by omega)
    subst this; rfl
  | succ m ih =>
    unfold Go.Lib.validGoD runesGo
    by_cases he : l = []
    · subst he; rfl
    · have hE : ¬ (l.isEmpty = true) := by simpa using he
      rw [if_neg he, if_neg hE]
      obtain ⟨s1, s2⟩ := steps l.length (l.getD 0 0).toNat (l.getD 1 0).toNat (l.getD 2 0).toNat (l.getD 3 0).toNat (UInt8.toNat_lt _) (UInt8.toNat_lt _) (UInt8.toNat_lt _) (UInt8.toNat_lt _)
      rw [← decode_eq, ← nxt_eq] at s1 s2
      by_cases hz : (nxt l).2 = 0
      · have e := s1.1 hz
        rw [if_pos e, if_pos hz]; rfl
      · have e : ¬ ((Go.Lib.decodeL l).1 = 65533 ∧ (Go.Lib.decodeL l).2 = 1) := fun h => hz (s1.2 h)
        rw [if_neg e, if_neg hz, s2 hz, Option.isSome_map]
        refine ih _ ?_
        rw [List.length_drop]
        have := List.length_pos_iff.2 he
        omega
theorem valid_runes (l : List UInt8) : Go.Lib.validD l = (runesOf l).isSome := valid_go _ _ (Nat.le_refl _)
end Go.Proofs.Ytegldlfbmaapiaa

/- In place of TabsU where no table of unicode/utf8 is on the road (seats of maps): nothing is asked of a world. -/
namespace Go.Proofs.Ytegldlfbmaapiaa
open Go.RowKit
set_option linter.unusedVariables false

def TabsU (w : World) : Prop := True
theorem TabsU.keep {w w' : World} (h : TabsU w) (hT : Touch (fun _ => False) w w') : TabsU w' := h
end Go.Proofs.Ytegldlfbmaapiaa
