/- A Writer behind calls that don't touch it. -/
import Derived.Test.YtdblfabbmpdoiaaGreatWriter
import Derived.Test.YtdblfabbmpdoiaaGreatPart5
namespace Go.Proofs.YtdblfabbmpdoiaaGreat
open Go.RowKit
set_option linter.unusedVariables false

theorem wfoot_old {w : World} {p : Nat} {bs : List UInt8} (h : Wr w p bs) {k : Nat} (hf : wfoot w p k) : k < w.heap.size := by
  obtain ⟨v, hp, hown⟩ := h
  rcases hf with rfl | ⟨u, hu, hk⟩
  · exact lt_of_heap hp
  · rw [cell_of_block hp] at hu
    simp at hu; subst hu
    rcases hown.2 with ⟨rfl, _⟩ | ⟨g, cap, cur, rfl, _, hg, _⟩
    · simp [Value.ownBlock] at hk
    · simp only [Value.ownBlock, Option.some.injEq] at hk
      subst hk; exact lt_of_heap hg
/-- A Writer whose blocks were not touched. -/
theorem Wr.keep {S : Nat → Prop} {w w' : World} {p : Nat} {bs : List UInt8} (h : Wr w p bs) (hT : Touch S w w') (hS : ∀ k, wfoot w p k → ¬ S k) : Wr w' p bs := by
  obtain ⟨v, hp, hown⟩ := h
  have hlt := lt_of_heap hp
  refine ⟨v, (hT.block p hlt (hS p (.inl rfl))).trans hp, hown.1, ?_⟩
  rcases hown.2 with h | ⟨g, cap, cur, rfl, hB, hg, hr⟩
  · exact .inl h
  · refine .inr ⟨g, cap, cur, rfl, hB, ?_, hr⟩
    rw [hT.block g (lt_of_heap hg) (hS g (.inr ⟨_, by rw [cell_of_block hp]; rfl, rfl⟩))]
    exact hg
theorem wfoot_keep {S : Nat → Prop} {w w' : World} {p : Nat} {bs : List UInt8} (h : Wr w p bs) (hT : Touch S w w') (hS : ¬ S p) (k : Nat) : wfoot w' p k ↔ wfoot w p k := by
  obtain ⟨v, hp, hown⟩ := h
  unfold wfoot
  rw [hT.cell (lt_of_heap hp) hS 0]
/-- Behind a call that touched nothing old, then calls on the Writer. -/
theorem WrPost.after {w w1 w2 : World} {p : Nat} {bs cs : List UInt8} (h : Wr w p bs) (hT : Touch (fun _ => False) w w1) (k : WrPost p cs w1 w2) : WrPost p cs w w2 :=
  ⟨k.is, (hT.mono (T := wfoot w p) (fun _ _ h => False.elim h)).then k.touch (fun i hi hf => (wfoot_keep h hT id i).1 hf), fun i hi hf => (wfoot_keep h hT id i).1 (k.foot i (Nat.lt_of_lt_of_le hi hT.size) hf)⟩
/-- Behind calls on the Writer, a call that touched nothing old. -/
theorem WrPost.quiet {w w1 w2 : World} {p : Nat} {cs : List UInt8} (k : WrPost p cs w w1) (hT : Touch (fun _ => False) w1 w2) : WrPost p cs w w2 :=
  ⟨k.is.keep hT (fun _ _ => id), k.touch.then (hT.mono (T := wfoot w p) fun _ _ h => False.elim h) (fun _ _ h => h), fun i hi hf => k.foot i hi ((wfoot_keep k.is hT id i).1 hf)⟩
end Go.Proofs.YtdblfabbmpdoiaaGreat

/- What is written, as bytes: numbers, texts. It speaks of no program. -/
namespace Go.Proofs.YtdblfabbmpdoiaaGreat
open Go.RowKit
set_option linter.unusedVariables false

/-- A number's bytes, f more at most. -/
def putGo : Nat → Nat → List UInt8
  | 0, n => [UInt8.ofNat n]
  | f + 1, n => if n < 128 then [UInt8.ofNat n] else UInt8.ofNat (n % 128 + 128) :: putGo f (n / 128)
def putU (n : Nat) : List UInt8 := putGo 9 n

theorem putGo_last {f n : Nat} (h : n < 128) : putGo f n = [UInt8.ofNat n] := by
  cases f with
  | zero => rfl
  | succ f => rw [putGo, if_pos h]
theorem putGo_more {f n : Nat} (h : ¬ n < 128) : putGo (f + 1) n = UInt8.ofNat (n % 128 + 128) :: putGo f (n / 128) := by rw [putGo, if_neg h]
theorem putGo_length : ∀ (f n : Nat), (putGo f n).length ≤ f + 1
  | 0, n => by simp [putGo]
  | f + 1, n => by
    rw [putGo]; split
    · simp
    · have := putGo_length f (n / 128); simp; omega

theorem u8_more (n : Nat) : bits .or .u8 ((n : Int) % 256) 128 = ((UInt8.ofNat (n % 128 + 128)).toNat : Int) := by
  have h : ∀ x : Fin 256, bits .or .u8 ((x : Nat) : Int) 128 = (((x : Nat) % 128 + 128 : Nat) : Int) := by decide +kernel
  have e : (n : Int) % 256 = ((n % 256 : Nat) : Int) := by omega
  have := h ⟨n % 256, Nat.mod_lt _ (by decide)⟩
  rw [e, this]
  simp only [UInt8.toNat_ofNat']
  omega
theorem u8_last (n : Nat) (h : n < 128) : (n : Int) = ((UInt8.ofNat n).toNat : Int) := by
  simp only [UInt8.toNat_ofNat']; omega

/-- The number with its sign in the lowest bit. -/
def unzz (n : Int) : Nat := if n < 0 then (-n).toNat * 2 - 1 else n.toNat * 2

theorem u64_xor_zero (a : Nat) (h : a < 18446744073709551616) : bits .xor .u64 (a : Int) 0 = a := by
  have := u64_xor_nat a 0 h (by decide)
  simpa using this
theorem u64_xor_ones (a : Nat) (h : a < 18446744073709551616) : bits .xor .u64 (a : Int) 18446744073709551615 = ((18446744073709551615 - a : Nat) : Int) := by
  show IntKind.u64.wrap ((BitVec.ofInt 64 (a : Int) ^^^ BitVec.ofInt 64 18446744073709551615).toNat : Int) = _
  have e : BitVec.ofInt 64 18446744073709551615 = BitVec.allOnes 64 := by decide
  rw [e, BitVec.xor_allOnes, BitVec.toNat_not, ofInt_u64 a h, IntKind.wrap_u64]; omega

theorem unzz_eq (n : Int) (h0 : -9223372036854775808 ≤ n) (h1 : n < 9223372036854775808) :
    bits .xor .u64 (IntKind.u64.wrap (IntKind.u64.wrap n * 2)) (IntKind.u64.wrap (n / 9223372036854775808)) = (unzz n : Int) ∧ unzz n < 18446744073709551616 := by
  have hb : unzz n < 18446744073709551616 := by unfold unzz; split <;> omega
  refine ⟨?_, hb⟩
  rw [IntKind.wrap_u64, IntKind.wrap_u64, IntKind.wrap_u64]
  by_cases hn : n < 0
  · have e1 : n / 9223372036854775808 % 18446744073709551616 = 18446744073709551615 := by omega
    obtain ⟨a, ha⟩ : ∃ a : Nat, (n % 18446744073709551616 * 2 % 18446744073709551616) = a := ⟨(n % 18446744073709551616 * 2 % 18446744073709551616).toNat, by omega⟩
    rw [e1, ha, u64_xor_ones a (by omega)]
    unfold unzz; rw [if_pos hn]; omega
  · have e1 : n / 9223372036854775808 % 18446744073709551616 = 0 := by omega
    obtain ⟨a, ha⟩ : ∃ a : Nat, (n % 18446744073709551616 * 2 % 18446744073709551616) = a := ⟨(n % 18446744073709551616 * 2 % 18446744073709551616).toNat, by omega⟩
    rw [e1, ha, u64_xor_zero a (by omega)]
    unfold unzz; rw [if_neg hn]; omega

/-- A number's eight bytes, the highest first. -/
def putF (n : Nat) : List UInt8 := (List.range 8).map fun k => UInt8.ofNat (n / 2 ^ (56 - 8 * k))

theorem putF_length (n : Nat) : (putF n).length = 8 := by simp [putF]
theorem putF_snoc (n k : Nat) (h : k < 8) : (putF n).take (k + 1) = (putF n).take k ++ [UInt8.ofNat (n / 2 ^ (56 - 8 * k))] := by
  rw [List.take_succ_eq_append_getElem (by rw [putF_length]; exact h)]
  simp [putF]

/-- A text's bytes. -/
def putT (s : ByteArray) : List UInt8 := putU s.size ++ s.data.toList

end Go.Proofs.YtdblfabbmpdoiaaGreat
