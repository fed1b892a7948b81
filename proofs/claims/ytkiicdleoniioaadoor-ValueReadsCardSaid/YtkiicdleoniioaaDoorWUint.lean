/- The contracts of wire's Writer: Uint, Int. -/
import Derived.Test.YtkiicdleoniioaaDoorWriter
import Derived.Test.YtkiicdleoniioaaDoorPut
namespace Go.Proofs.YtkiicdleoniioaaDoor
open Go.RowKit
set_option linter.unusedVariables false

set_option maxRecDepth 100000 in
set_option maxHeartbeats 400000 in
theorem wuint_any (p : Nat) (bs : List UInt8) (n : Nat) (hn : n < 18446744073709551616) (w : World) (h : Wr w p bs) (hl : bs.length + 10 ≤ 140737488355328) (x : Int) (hx : x = n) :
    Calls Tryd.prog 58 #[.pointer (some ⟨p, 0, none⟩), .int .u64 x] w fun e w' => e = .returned (.tuple #[]) ∧ WrPost p (bs ++ putU n) w w' := by
  subst hx
  go_enter Tryd.func58, Tryd.ntmps58
  go_wp2_with fail
  go_loopw [1] (fun v wr => ∃ N f : Nat, ∃ cs : List UInt8, v = .int .u64 N ∧ N < 2 * 128 ^ f ∧ f ≤ 9 ∧ N < 18446744073709551616 ∧ cs.length + f ≤ bs.length + 9 ∧ cs ++ putGo f N = bs ++ putU n ∧ WrPost p cs w wr) (fun v _ => (intOf v).toNat)
  case atStart => exact ⟨n, 9, bs, rfl, by have : (128 : Nat) ^ 9 = 9223372036854775808 := by decide
                                           omega, by omega, hn, by omega, rfl, WrPost.refl h⟩
  case round =>
    obtain ⟨N, f, cs, rfl, hf, hf9, hN, hlen, he, hW⟩ := hrel
    have HE : Hid (cs ++ putGo f N = bs ++ putU n) := he
    have HW : Hid (WrPost p cs w wr) := hW
    clear he hW h
    by_cases hlt : N < 128
    · go_wp2_with fail
      refine (wbyte_any p cs (UInt8.ofNat N) _ (u8_last N hlt) wr HW.out.is (by omega)).mono ?_
      rintro e w1 ⟨rfl, hW1⟩
      have HQ : Hid (WrPost p (bs ++ putU n) w w1) := by
        have := HW.out.trans hW1
        rw [← putGo_last (f := f) hlt, HE.out] at this
        exact this
      clear hW1
      go_wp2_with fail
      go_end0
      exact ⟨rfl, HQ.out⟩
    · obtain ⟨f, rfl⟩ : ∃ k, f = k + 1 := by
        cases f with
        | zero => exact absurd hf (by omega)
        | succ k => exact ⟨k, rfl⟩
      go_wp2_with fail
      refine (wbyte_any p cs (UInt8.ofNat (N % 128 + 128)) _ (u8_more N) wr HW.out.is (by omega)).mono ?_
      rintro e w1 ⟨rfl, hW1⟩
      have HQ : Hid (WrPost p (cs ++ [UInt8.ofNat (N % 128 + 128)]) w w1) := HW.out.trans hW1
      clear hW1
      go_wp2_with fail
      go_roundw
      case rel =>
        refine ⟨N / 128, f, cs ++ [UInt8.ofNat (N % 128 + 128)], by go_num, ?_, by omega, by omega, by simp; omega, ?_, HQ.out⟩
        · rw [Nat.pow_succ] at hf; omega
        · rw [List.append_assoc, List.singleton_append, ← putGo_more hlt, HE.out]
      case measure => simp [intOf]; omega
end Go.Proofs.YtkiicdleoniioaaDoor
