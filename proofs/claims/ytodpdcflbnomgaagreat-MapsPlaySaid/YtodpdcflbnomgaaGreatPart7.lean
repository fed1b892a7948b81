/- The library's right texts are the document's. It speaks of no program. -/
import Derived.Test.YtodpdcflbnomgaaGreatPart6
import Derived.Lib.ValidU
import Derived.Test.YtodpdcflbnomgaaGreatPart1
import Derived.Lib.MapLaws
import Derived.Lib.RuneBytes
namespace Go.Proofs.YtodpdcflbnomgaaGreat
open Go.RowKit
set_option linter.unusedVariables false
set_option maxRecDepth 10000

theorem get_at (l : List UInt8) (k : Nat) : (ByteArray.mk l.toArray).get! k = l.getD k 0 := by
  show l.toArray[k]! = _
  simp [List.getD, getElem!_def]
  cases l[k]? <;> rfl
theorem valid_nat (c : Nat) : Utf8.valid (c : Int) = decide (c < 55296 ∨ (57344 ≤ c ∧ c ≤ 1114111)) := by
  unfold Utf8.valid
  rw [Bool.eq_iff_iff]
  simp only [Bool.or_eq_true, Bool.and_eq_true, decide_eq_true_eq]
  omega

/-- The library's step and the document's, as numbers. -/
def decN (n b0 b1 b2 b3 : Nat) : Nat × Nat :=
  if b0 < 128 then (b0, 1)
  else if b0 / 32 = 6 ∧ (1 < n ∧ b1 / 64 = 2) then (if 128 ≤ b0 % 32 * 64 + b1 % 64 then (b0 % 32 * 64 + b1 % 64, 2) else (65533, 1))
  else if b0 / 16 = 14 ∧ (1 < n ∧ b1 / 64 = 2) ∧ (2 < n ∧ b2 / 64 = 2) then (if 2048 ≤ b0 % 16 * 4096 + b1 % 64 * 64 + b2 % 64 ∧ ((b0 % 16 * 4096 + b1 % 64 * 64 + b2 % 64 < 55296) ∨ (57344 ≤ b0 % 16 * 4096 + b1 % 64 * 64 + b2 % 64 ∧ b0 % 16 * 4096 + b1 % 64 * 64 + b2 % 64 ≤ 1114111)) then (b0 % 16 * 4096 + b1 % 64 * 64 + b2 % 64, 3) else (65533, 1))
  else if b0 / 8 = 30 ∧ (1 < n ∧ b1 / 64 = 2) ∧ (2 < n ∧ b2 / 64 = 2) ∧ (3 < n ∧ b3 / 64 = 2) then (if 65536 ≤ b0 % 8 * 262144 + b1 % 64 * 4096 + b2 % 64 * 64 + b3 % 64 ∧ ((b0 % 8 * 262144 + b1 % 64 * 4096 + b2 % 64 * 64 + b3 % 64 < 55296) ∨ (57344 ≤ b0 % 8 * 262144 + b1 % 64 * 4096 + b2 % 64 * 64 + b3 % 64 ∧ b0 % 8 * 262144 + b1 % 64 * 4096 + b2 % 64 * 64 + b3 % 64 ≤ 1114111)) then (b0 % 8 * 262144 + b1 % 64 * 4096 + b2 % 64 * 64 + b3 % 64, 4) else (65533, 1))
  else (65533, 1)

theorem decode_eq (l : List UInt8) : Go.Lib.decodeL l = decN l.length (l.getD 0 0).toNat (l.getD 1 0).toNat (l.getD 2 0).toNat (l.getD 3 0).toNat := by
  unfold Go.Lib.decodeL Utf8.decode decN
  have hsz : (ByteArray.mk l.toArray).size = l.length := by show l.toArray.size = _; simp
  simp only [get_at, hsz, Nat.zero_add, valid_nat, Utf8.runeError, Bool.and_eq_true, decide_eq_true_eq, beq_iff_eq, ge_iff_le, and_assoc]

/-- The document's step, as numbers. -/
def nxtN (n b0 b1 b2 b3 : Nat) : Nat :=
  if b0 < 128 then 1
  else if 194 ≤ b0 ∧ b0 < 224 then (if n < 2 then 0 else if 128 ≤ b1 ∧ b1 < 192 then (if b0 % 32 * 64 + b1 % 64 < 128 ∨ 1114111 < b0 % 32 * 64 + b1 % 64 ∨ (55296 ≤ b0 % 32 * 64 + b1 % 64 ∧ b0 % 32 * 64 + b1 % 64 < 57344) then 0 else 2) else 0)
  else if 224 ≤ b0 ∧ b0 < 240 then (if n < 3 then 0 else if 128 ≤ b1 ∧ b1 < 192 then (if 128 ≤ b2 ∧ b2 < 192 then (if (b0 % 16 * 64 + b1 % 64) * 64 + b2 % 64 < 2048 ∨ 1114111 < (b0 % 16 * 64 + b1 % 64) * 64 + b2 % 64 ∨ (55296 ≤ (b0 % 16 * 64 + b1 % 64) * 64 + b2 % 64 ∧ (b0 % 16 * 64 + b1 % 64) * 64 + b2 % 64 < 57344) then 0 else 3) else 0) else 0)
  else if 240 ≤ b0 ∧ b0 < 245 then (if n < 4 then 0 else if 128 ≤ b1 ∧ b1 < 192 then (if 128 ≤ b2 ∧ b2 < 192 then (if 128 ≤ b3 ∧ b3 < 192 then (if ((b0 % 8 * 64 + b1 % 64) * 64 + b2 % 64) * 64 + b3 % 64 < 65536 ∨ 1114111 < ((b0 % 8 * 64 + b1 % 64) * 64 + b2 % 64) * 64 + b3 % 64 ∨ (55296 ≤ ((b0 % 8 * 64 + b1 % 64) * 64 + b2 % 64) * 64 + b3 % 64 ∧ ((b0 % 8 * 64 + b1 % 64) * 64 + b2 % 64) * 64 + b3 % 64 < 57344) then 0 else 4) else 0) else 0) else 0)
  else 0
theorem nxt_eq (l : List UInt8) : (nxt l).2 = nxtN l.length (l.getD 0 0).toNat (l.getD 1 0).toNat (l.getD 2 0).toNat (l.getD 3 0).toNat := by
  unfold nxt nxtN
  generalize (l.getD 0 0).toNat = b0
  split
  · rfl
  split
  · unfold nxtTail
    split
    · rfl
    · simp only [Nat.reduceSub, nxtGo]
      by_cases d1 : 128 ≤ (l.getD 1 0).toNat ∧ (l.getD 1 0).toNat < 192
      case neg => rw [if_neg d1, if_neg d1]
      rw [if_pos d1, if_pos d1]
      simp only [nxtEnd]
      split <;> rfl
  split
  · unfold nxtTail
    split
    · rfl
    · simp only [Nat.reduceSub, nxtGo, Nat.reduceAdd]
      by_cases d1 : 128 ≤ (l.getD 1 0).toNat ∧ (l.getD 1 0).toNat < 192
      case neg => rw [if_neg d1, if_neg d1]
      rw [if_pos d1, if_pos d1]
      by_cases d2 : 128 ≤ (l.getD 2 0).toNat ∧ (l.getD 2 0).toNat < 192
      case neg => rw [if_neg d2, if_neg d2]
      rw [if_pos d2, if_pos d2]
      simp only [nxtEnd]
      split <;> rfl
  split
  · unfold nxtTail
    split
    · rfl
    · simp only [Nat.reduceSub, nxtGo, Nat.reduceAdd]
      by_cases d1 : 128 ≤ (l.getD 1 0).toNat ∧ (l.getD 1 0).toNat < 192
      case neg => rw [if_neg d1, if_neg d1]
      rw [if_pos d1, if_pos d1]
      by_cases d2 : 128 ≤ (l.getD 2 0).toNat ∧ (l.getD 2 0).toNat < 192
      case neg => rw [if_neg d2, if_neg d2]
      rw [if_pos d2, if_pos d2]
      by_cases d3 : 128 ≤ (l.getD 3 0).toNat ∧ (l.getD 3 0).toNat < 192
      case neg => rw [if_neg d3, if_neg d3]
      rw [if_pos d3, if_pos d3]
      simp only [nxtEnd]
      split <;> rfl
  · rfl

/-- Where the document's step is none the library's is the error, and else they go as far. -/
theorem steps (n b0 b1 b2 b3 : Nat) (h0 : b0 < 256) (h1 : b1 < 256) (h2 : b2 < 256) (h3 : b3 < 256) :
    (nxtN n b0 b1 b2 b3 = 0 ↔ ((decN n b0 b1 b2 b3).1 = 65533 ∧ (decN n b0 b1 b2 b3).2 = 1)) ∧ (nxtN n b0 b1 b2 b3 ≠ 0 → (decN n b0 b1 b2 b3).2 = nxtN n b0 b1 b2 b3) := by
  unfold nxtN
  by_cases c0 : b0 < 128
  · rw [if_pos c0]
    have hd : decN n b0 b1 b2 b3 = (b0, 1) := by unfold decN; rw [if_pos c0]
    rw [hd]; simp; omega
  rw [if_neg c0]
  by_cases c1 : 194 ≤ b0 ∧ b0 < 224
  · rw [if_pos c1]
    by_cases n1 : n < 2
    · rw [if_pos n1]
      have hd : decN n b0 b1 b2 b3 = (65533, 1) := by
        unfold decN
        repeat' split
        all_goals first | rfl | (exfalso; omega)
      rw [hd]; simp
    · rw [if_neg n1]
      by_cases d1 : 128 ≤ b1 ∧ b1 < 192
      · rw [if_pos d1, if_neg (show ¬ (b0 % 32 * 64 + b1 % 64 < 128 ∨ 1114111 < b0 % 32 * 64 + b1 % 64 ∨ (55296 ≤ b0 % 32 * 64 + b1 % 64 ∧ b0 % 32 * 64 + b1 % 64 < 57344)) by omega)]
        have hd : decN n b0 b1 b2 b3 = (b0 % 32 * 64 + b1 % 64, 2) := by
          unfold decN
          repeat' split
          all_goals first | rfl | (exfalso; omega)
        rw [hd]; simp
      · rw [if_neg d1]
        have hd : decN n b0 b1 b2 b3 = (65533, 1) := by
          unfold decN
          repeat' split
          all_goals first | rfl | (exfalso; omega)
        rw [hd]; simp
  rw [if_neg c1]
  by_cases c2 : 224 ≤ b0 ∧ b0 < 240
  · rw [if_pos c2]
    by_cases n1 : n < 3
    · rw [if_pos n1]
      have hd : decN n b0 b1 b2 b3 = (65533, 1) := by
        unfold decN
        repeat' split
        all_goals first | rfl | (exfalso; omega)
      rw [hd]; simp
    · rw [if_neg n1]
      by_cases d1 : 128 ≤ b1 ∧ b1 < 192
      · rw [if_pos d1]
        by_cases d2 : 128 ≤ b2 ∧ b2 < 192
        · rw [if_pos d2]
          by_cases e : (b0 % 16 * 64 + b1 % 64) * 64 + b2 % 64 < 2048 ∨ 1114111 < (b0 % 16 * 64 + b1 % 64) * 64 + b2 % 64 ∨ (55296 ≤ (b0 % 16 * 64 + b1 % 64) * 64 + b2 % 64 ∧ (b0 % 16 * 64 + b1 % 64) * 64 + b2 % 64 < 57344)
          · rw [if_pos e]
            have hd : decN n b0 b1 b2 b3 = (65533, 1) := by
              unfold decN
              repeat' split
              all_goals first | rfl | (exfalso; omega)
            rw [hd]; simp
          · rw [if_neg e]
            have hd : decN n b0 b1 b2 b3 = (b0 % 16 * 4096 + b1 % 64 * 64 + b2 % 64, 3) := by
              unfold decN
              repeat' split
              all_goals first | rfl | (exfalso; omega)
            rw [hd]; simp
        · rw [if_neg d2]
          have hd : decN n b0 b1 b2 b3 = (65533, 1) := by
            unfold decN
            repeat' split
            all_goals first | rfl | (exfalso; omega)
          rw [hd]; simp
      · rw [if_neg d1]
        have hd : decN n b0 b1 b2 b3 = (65533, 1) := by
          unfold decN
          repeat' split
          all_goals first | rfl | (exfalso; omega)
        rw [hd]; simp
  rw [if_neg c2]
  by_cases c3 : 240 ≤ b0 ∧ b0 < 245
  · rw [if_pos c3]
    by_cases n1 : n < 4
    · rw [if_pos n1]
      have hd : decN n b0 b1 b2 b3 = (65533, 1) := by
        unfold decN
        repeat' split
        all_goals first | rfl | (exfalso; omega)
      rw [hd]; simp
    · rw [if_neg n1]
      by_cases d1 : 128 ≤ b1 ∧ b1 < 192
      · rw [if_pos d1]
        by_cases d2 : 128 ≤ b2 ∧ b2 < 192
        · rw [if_pos d2]
          by_cases d3 : 128 ≤ b3 ∧ b3 < 192
          · rw [if_pos d3]
            by_cases e : ((b0 % 8 * 64 + b1 % 64) * 64 + b2 % 64) * 64 + b3 % 64 < 65536 ∨ 1114111 < ((b0 % 8 * 64 + b1 % 64) * 64 + b2 % 64) * 64 + b3 % 64 ∨ (55296 ≤ ((b0 % 8 * 64 + b1 % 64) * 64 + b2 % 64) * 64 + b3 % 64 ∧ ((b0 % 8 * 64 + b1 % 64) * 64 + b2 % 64) * 64 + b3 % 64 < 57344)
            · rw [if_pos e]
              have hd : decN n b0 b1 b2 b3 = (65533, 1) := by
                unfold decN
                repeat' split
                all_goals first | rfl | (exfalso; omega)
              rw [hd]; simp
            · rw [if_neg e]
              have hd : decN n b0 b1 b2 b3 = (b0 % 8 * 262144 + b1 % 64 * 4096 + b2 % 64 * 64 + b3 % 64, 4) := by
                unfold decN
                repeat' split
                all_goals first | rfl | (exfalso; omega)
              rw [hd]; simp
          · rw [if_neg d3]
            have hd : decN n b0 b1 b2 b3 = (65533, 1) := by
              unfold decN
              repeat' split
              all_goals first | rfl | (exfalso; omega)
            rw [hd]; simp
        · rw [if_neg d2]
          have hd : decN n b0 b1 b2 b3 = (65533, 1) := by
            unfold decN
            repeat' split
            all_goals first | rfl | (exfalso; omega)
          rw [hd]; simp
      · rw [if_neg d1]
        have hd : decN n b0 b1 b2 b3 = (65533, 1) := by
          unfold decN
          repeat' split
          all_goals first | rfl | (exfalso; omega)
        rw [hd]; simp
  rw [if_neg c3]
  have hd : decN n b0 b1 b2 b3 = (65533, 1) := by
    unfold decN
    repeat' split
    all_goals first | rfl | (exfalso; omega)
  rw [hd]; simp

theorem valid_go (m : Nat) (l : List UInt8) (h : l.length ≤ m) : Go.Lib.validGoD m l = (runesGo m l).isSome := by
  induction m generalizing l with
  | zero =>
    have : l = [] := List.eq_nil_of_length_eq_zero (by omega)
    subst this; rfl
  | succ m ih =>
    unfold Go.Lib.validGoD runesGo
    by_cases he : l = []
    · subst he; rfl
    · have hE : ¬ (l.isEmpty = true) := by simpa using he
      rw [if_neg he, if_neg hE]
      obtain ⟨s1, s2⟩ := steps l.length (l.getD 0 0).toNat (l.getD 1 0).toNat (l.getD 2 0).toNat (l.getD 3 0).toNat (UInt8.toNat_lt _) (UInt8.toNat_lt _) (UInt8.toNat_lt _) (UInt8.toNat_lt _)
      rw [← decode_eq, ← nxt_eq] at s1 s2
      by_cases hz : (nxt l).2 = 0
      · have e := s1.1 hz
        rw [if_pos e, if_pos hz]; rfl
      · have e : ¬ ((Go.Lib.decodeL l).1 = 65533 ∧ (Go.Lib.decodeL l).2 = 1) := fun h => hz (s1.2 h)
        rw [if_neg e, if_neg hz, s2 hz, Option.isSome_map]
        refine ih _ ?_
        rw [List.length_drop]
        have := List.length_pos_iff.2 he
        omega
theorem valid_runes (l : List UInt8) : Go.Lib.validD l = (runesOf l).isSome := valid_go _ _ (Nat.le_refl _)
end Go.Proofs.YtodpdcflbnomgaaGreat

/- In place of TabsU where no table of unicode/utf8 is on the road (seats of maps): nothing is asked of a world. -/
namespace Go.Proofs.YtodpdcflbnomgaaGreat
open Go.RowKit
set_option linter.unusedVariables false

def TabsU (w : World) : Prop := True
theorem TabsU.keep {w w' : World} (h : TabsU w) (hT : Touch (fun _ => False) w w') : TabsU w' := h
end Go.Proofs.YtodpdcflbnomgaaGreat

/- Texts and lists of runes are one another's: what a text's runes are written as is the text, and what right runes are written as has just these runes. It speaks of no program. -/
namespace Go.Proofs.YtodpdcflbnomgaaGreat
open Go.RowKit
set_option linter.unusedVariables false
set_option maxRecDepth 10000

/-- A right rune. -/
def okRune (r : Nat) : Prop := r < 55296 ∨ (57344 ≤ r ∧ r ≤ 1114111)
def encR (r : Nat) : List UInt8 := Go.Lib.encodeRune (r : Int)
def encAll (rs : List Nat) : List UInt8 := rs.flatMap encR
theorem encAll_nil : encAll [] = [] := rfl
theorem encAll_cons (r : Nat) (rs : List Nat) : encAll (r :: rs) = encR r ++ encAll rs := by simp [encAll]
theorem encAll_append (a b : List Nat) : encAll (a ++ b) = encAll a ++ encAll b := by simp [encAll]

theorem okRune_end {low n r : Nat} (h : (nxtEnd low n r).2 ≠ 0) : nxtEnd low n r = (r, n) ∧ okRune r ∧ low ≤ r := by
  unfold nxtEnd at h ⊢
  by_cases e : r < low ∨ 1114111 < r ∨ (55296 ≤ r ∧ r < 57344)
  · rw [if_pos e] at h; exact absurd rfl h
  · rw [if_neg e]; exact ⟨rfl, by unfold okRune; omega, by omega⟩

/-- Where the document's step is one it is the library's. -/
theorem nxt_dec (l : List UInt8) (h : (nxt l).2 ≠ 0) : nxt l = Go.Lib.decodeL l ∧ okRune (nxt l).1 := by
  rw [decode_eq]
  have k1 := (l.getD 1 0).toNat_lt
  have k2 := (l.getD 2 0).toNat_lt
  have k3 := (l.getD 3 0).toNat_lt
  unfold nxt at h ⊢
  generalize (l.getD 0 0).toNat = b0 at *
  by_cases c0 : b0 < 128
  · rw [if_pos c0]; unfold decN; rw [if_pos c0]; exact ⟨rfl, by unfold okRune; simp only; omega⟩
  rw [if_neg c0] at h ⊢
  by_cases c1 : 194 ≤ b0 ∧ b0 < 224
  · rw [if_pos c1] at h ⊢
    unfold nxtTail at h ⊢
    by_cases n1 : l.length < 2
    · rw [if_pos n1] at h; exact absurd rfl h
    rw [if_neg n1] at h ⊢
    simp only [Nat.reduceSub, nxtGo] at h ⊢
    by_cases d1 : 128 ≤ (l.getD 1 0).toNat ∧ (l.getD 1 0).toNat < 192
    case neg => rw [if_neg d1] at h; exact absurd rfl h
    rw [if_pos d1] at h ⊢
    simp only at h ⊢
    obtain ⟨e, ok, hl⟩ := okRune_end h
    rw [e]
    refine ⟨?_, ok⟩
    unfold decN
    repeat' split
    all_goals first | rfl | (exfalso; omega)
  rw [if_neg c1] at h ⊢
  by_cases c2 : 224 ≤ b0 ∧ b0 < 240
  · rw [if_pos c2] at h ⊢
    unfold nxtTail at h ⊢
    by_cases n1 : l.length < 3
    · rw [if_pos n1] at h; exact absurd rfl h
    rw [if_neg n1] at h ⊢
    simp only [Nat.reduceSub, nxtGo, Nat.reduceAdd] at h ⊢
    by_cases d1 : 128 ≤ (l.getD 1 0).toNat ∧ (l.getD 1 0).toNat < 192
    case neg => rw [if_neg d1] at h; exact absurd rfl h
    rw [if_pos d1] at h ⊢
    by_cases d2 : 128 ≤ (l.getD 2 0).toNat ∧ (l.getD 2 0).toNat < 192
    case neg => rw [if_neg d2] at h; exact absurd rfl h
    rw [if_pos d2] at h ⊢
    simp only at h ⊢
    obtain ⟨e, ok, hl⟩ := okRune_end h
    rw [e]
    refine ⟨?_, ok⟩
    unfold okRune at ok
    unfold decN
    repeat' split
    all_goals first | (refine Prod.ext ?_ rfl; simp only; omega) | (exfalso; omega)
  rw [if_neg c2] at h ⊢
  by_cases c3 : 240 ≤ b0 ∧ b0 < 245
  case neg => rw [if_neg c3] at h; exact absurd rfl h
  rw [if_pos c3] at h ⊢
  unfold nxtTail at h ⊢
  by_cases n1 : l.length < 4
  · rw [if_pos n1] at h; exact absurd rfl h
  rw [if_neg n1] at h ⊢
  simp only [Nat.reduceSub, nxtGo, Nat.reduceAdd] at h ⊢
  by_cases d1 : 128 ≤ (l.getD 1 0).toNat ∧ (l.getD 1 0).toNat < 192
  case neg => rw [if_neg d1] at h; exact absurd rfl h
  rw [if_pos d1] at h ⊢
  by_cases d2 : 128 ≤ (l.getD 2 0).toNat ∧ (l.getD 2 0).toNat < 192
  case neg => rw [if_neg d2] at h; exact absurd rfl h
  rw [if_pos d2] at h ⊢
  by_cases d3 : 128 ≤ (l.getD 3 0).toNat ∧ (l.getD 3 0).toNat < 192
  case neg => rw [if_neg d3] at h; exact absurd rfl h
  rw [if_pos d3] at h ⊢
  simp only at h ⊢
  obtain ⟨e, ok, hl⟩ := okRune_end h
  rw [e]
  refine ⟨?_, ok⟩
  unfold okRune at ok
  unfold decN
  repeat' split
  all_goals first | (refine Prod.ext ?_ rfl; simp only; omega) | (exfalso; omega)

/-- A step's rune is written as the step's bytes. -/
theorem encR_nxt (l : List UInt8) (hne : l ≠ []) (h : (nxt l).2 ≠ 0) : encR (nxt l).1 = l.take (nxt l).2 := by
  have hd := (nxt_dec l h).1
  have hv : ¬ ((Go.Lib.decodeL l).1 = 65533 ∧ (Go.Lib.decodeL l).2 = 1) := by
    obtain ⟨s1, s2⟩ := steps l.length (l.getD 0 0).toNat (l.getD 1 0).toNat (l.getD 2 0).toNat (l.getD 3 0).toNat (UInt8.toNat_lt _) (UInt8.toNat_lt _) (UInt8.toNat_lt _) (UInt8.toNat_lt _)
    rw [← decode_eq, ← nxt_eq] at s1
    exact fun e => h (s1.2 e)
  rw [hd]
  exact Go.Lib.encode_decode l hne hv

/-- A text's runes are right ones, and written they are the text. -/
theorem enc_runesOf : ∀ (rs : List Nat) (l : List UInt8), runesOf l = some rs → (∀ r ∈ rs, okRune r) ∧ encAll rs = l := by
  intro rs
  induction rs with
  | nil =>
    intro l h
    by_cases hne : l = []
    · subst hne; exact ⟨fun _ h => (by simp at h), rfl⟩
    · rw [runesOf_step hne] at h
      by_cases hz : (nxt l).2 = 0
      · rw [if_pos hz] at h; simp at h
      · rw [if_neg hz] at h; simp at h
  | cons r rs ih =>
    intro l h
    by_cases hne : l = []
    · subst hne; rw [runesOf_nil] at h; simp at h
    rw [runesOf_step hne] at h
    by_cases hz : (nxt l).2 = 0
    · rw [if_pos hz] at h; simp at h
    rw [if_neg hz] at h
    rw [Option.map_eq_some_iff] at h
    obtain ⟨t, ht, e⟩ := h
    rw [List.cons.injEq] at e
    obtain ⟨e1, e2⟩ := e
    subst e1; subst e2
    obtain ⟨i1, i2⟩ := ih _ ht
    refine ⟨fun x hx => ?_, ?_⟩
    · rcases List.mem_cons.1 hx with e | e
      · rw [e]; exact (nxt_dec l hz).2
      · exact i1 x e
    · rw [encAll_cons, encR_nxt l hne hz, i2, List.take_append_drop]

theorem u8_of (z : Int) (n : Nat) (h : z = (n : Int)) (hn : n < 256) : (z.toNat.toUInt8).toNat = n := by
  subst h
  simp
  omega
/-- A right rune's bytes are read as it, whatever stands behind them. -/
theorem nxt_enc (r : Nat) (hr : okRune r) (t : List UInt8) : nxt (encR r ++ t) = (r, (encR r).length) := by
  unfold okRune at hr
  unfold encR Go.Lib.encodeRune
  by_cases c1 : r < 128
  · rw [Go.Lib.encodeRuneZ_one (by omega) (by omega)]
    simp only [List.map_cons, List.map_nil, List.cons_append, List.nil_append]
    have h0 := u8_of (r : Int) r rfl (by omega)
    unfold nxt
    simp only [List.getD_cons_zero, h0, List.length_cons, List.length_nil]
    rw [if_pos c1]
  by_cases c2 : r < 2048
  · rw [Go.Lib.encodeRuneZ_two (by omega) (by omega)]
    simp only [List.map_cons, List.map_nil, List.cons_append, List.nil_append]
    have h0 := u8_of (192 + (r : Int) / 64) (192 + r / 64) (by omega) (by omega)
    have h1 := u8_of (128 + (r : Int) % 64) (128 + r % 64) (by omega) (by omega)
    unfold nxt nxtTail
    simp only [List.getD_cons_zero, List.getD_cons_succ, h0, h1, List.length_cons, List.length_nil, nxtGo, Nat.reduceSub]
    rw [if_neg (by omega), if_pos (by omega), if_neg (by omega), if_pos (by omega)]
    simp only [nxtEnd]
    rw [if_neg (by omega)]
    refine Prod.ext ?_ rfl
    simp only; omega
  by_cases c3 : r < 65536
  · rw [Go.Lib.encodeRuneZ_three (by omega)]
    simp only [List.map_cons, List.map_nil, List.cons_append, List.nil_append]
    have h0 := u8_of (224 + (r : Int) / 4096) (224 + r / 4096) (by omega) (by omega)
    have h1 := u8_of (128 + (r : Int) / 64 % 64) (128 + r / 64 % 64) (by omega) (by omega)
    have h2 := u8_of (128 + (r : Int) % 64) (128 + r % 64) (by omega) (by omega)
    unfold nxt nxtTail
    simp only [List.getD_cons_zero, List.getD_cons_succ, h0, h1, h2, List.length_cons, List.length_nil, nxtGo, Nat.reduceSub, Nat.reduceAdd]
    rw [if_neg (by omega), if_neg (by omega), if_pos (by omega), if_neg (by omega), if_pos (by omega), if_pos (by omega)]
    simp only [nxtEnd]
    rw [if_neg (by omega)]
    refine Prod.ext ?_ rfl
    simp only; omega
  · rw [Go.Lib.encodeRuneZ_four (by omega) (by omega)]
    simp only [List.map_cons, List.map_nil, List.cons_append, List.nil_append]
    have h0 := u8_of (240 + (r : Int) / 262144) (240 + r / 262144) (by omega) (by omega)
    have h1 := u8_of (128 + (r : Int) / 4096 % 64) (128 + r / 4096 % 64) (by omega) (by omega)
    have h2 := u8_of (128 + (r : Int) / 64 % 64) (128 + r / 64 % 64) (by omega) (by omega)
    have h3 := u8_of (128 + (r : Int) % 64) (128 + r % 64) (by omega) (by omega)
    unfold nxt nxtTail
    simp only [List.getD_cons_zero, List.getD_cons_succ, h0, h1, h2, h3, List.length_cons, List.length_nil, nxtGo, Nat.reduceSub, Nat.reduceAdd]
    rw [if_neg (by omega), if_neg (by omega), if_neg (by omega), if_pos (by omega), if_neg (by omega), if_pos (by omega), if_pos (by omega), if_pos (by omega)]
    simp only [nxtEnd]
    rw [if_neg (by omega)]
    refine Prod.ext ?_ rfl
    simp only; omega
theorem encR_len (r : Nat) : 1 ≤ (encR r).length ∧ (encR r).length ≤ 4 := by
  have := Go.Lib.encodeRuneZ_length (r : Int)
  simpa [encR, Go.Lib.encodeRune] using this
/-- Right runes, written, have just these runes. -/
theorem runesOf_enc : ∀ (rs : List Nat), (∀ r ∈ rs, okRune r) → runesOf (encAll rs) = some rs := by
  intro rs
  induction rs with
  | nil => intro _; rfl
  | cons r rs ih =>
    intro h
    have hl := encR_len r
    have hne : encAll (r :: rs) ≠ [] := by
      intro e
      have := congrArg List.length e
      rw [encAll_cons, List.length_append, List.length_nil] at this
      omega
    rw [runesOf_step hne, encAll_cons, nxt_enc r (h r (by simp))]
    simp only
    rw [if_neg (by omega), List.drop_left, ih fun x hx => h x (by simp [hx])]
    rfl
theorem encAll_len (rs : List Nat) : rs.length ≤ (encAll rs).length ∧ (encAll rs).length ≤ 4 * rs.length := by
  induction rs with
  | nil => simp [encAll]
  | cons r rs ih =>
    have := encR_len r
    rw [encAll_cons, List.length_append, List.length_cons]
    omega
theorem runeLen_enc (r : Nat) (hr : okRune r) : Go.Lib.runeLen (r : Int) = ((encR r).length : Int) := by
  unfold okRune at hr
  unfold encR Go.Lib.encodeRune Go.Lib.runeLen
  by_cases c1 : r < 128
  · rw [Go.Lib.encodeRuneZ_one (by omega) (by omega)]; simp only [List.map_cons, List.map_nil, List.length_cons, List.length_nil]
    repeat' split
    all_goals omega
  by_cases c2 : r < 2048
  · rw [Go.Lib.encodeRuneZ_two (by omega) (by omega)]; simp only [List.map_cons, List.map_nil, List.length_cons, List.length_nil]
    repeat' split
    all_goals omega
  by_cases c3 : r < 65536
  · rw [Go.Lib.encodeRuneZ_three (by omega)]; simp only [List.map_cons, List.map_nil, List.length_cons, List.length_nil]
    repeat' split
    all_goals omega
  · rw [Go.Lib.encodeRuneZ_four (by omega) (by omega)]; simp only [List.map_cons, List.map_nil, List.length_cons, List.length_nil]
    repeat' split
    all_goals omega

/-- The runes of a text; of no text: none. -/
def rsOf (l : List UInt8) : List Nat := (runesOf l).getD []
theorem rsOf_some {l : List UInt8} {rs : List Nat} (h : runesOf l = some rs) : rsOf l = rs := by rw [rsOf, h]; rfl
theorem rsOf_none {l : List UInt8} (h : runesOf l = none) : rsOf l = [] := by rw [rsOf, h]; rfl
theorem rsOf_ok (l : List UInt8) : ∀ r ∈ rsOf l, okRune r := by
  intro r hr
  cases h : runesOf l with
  | none => rw [rsOf_none h] at hr; simp at hr
  | some rs => rw [rsOf_some h] at hr; exact (enc_runesOf rs l h).1 r hr
theorem rsOf_len (l : List UInt8) : (rsOf l).length ≤ l.length := by
  cases h : runesOf l with
  | none => rw [rsOf_none h]; simp
  | some rs => rw [rsOf_some h]; have := (encAll_len rs).1; rw [(enc_runesOf rs l h).2] at this; exact this
end Go.Proofs.YtodpdcflbnomgaaGreat
