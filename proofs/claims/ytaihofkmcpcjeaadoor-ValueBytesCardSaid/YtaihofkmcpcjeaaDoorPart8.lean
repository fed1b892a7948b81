/- The contracts of wire's Writer: Uint, Int. -/
import Derived.Test.YtaihofkmcpcjeaaDoorWriter
import Derived.Test.YtaihofkmcpcjeaaDoorPart7
namespace Go.Proofs.YtaihofkmcpcjeaaDoor
open Go.RowKit
set_option linter.unusedVariables false

set_option maxRecDepth 100000 in
set_option maxHeartbeats 400000 in
theorem wuint_any (p : Nat) (bs : List UInt8) (n : Nat) (hn : n < 18446744073709551616) (w : World) (h : Wr w p bs) (hl : bs.length + 10 ≤ 140737488355328) (x : Int) (hx : x = n) :
    Calls Tryd.prog 79 #[.pointer (some ⟨p, 0, none⟩), .int .u64 x] w fun e w' => e = .returned (.tuple #[]) ∧ WrPost p (bs ++ putU n) w w' := by
  subst hx
  go_enter Tryd.func79, Tryd.ntmps79
  go_wp2_with fail
  go_loopw [1] (fun v wr => ∃ N f : Nat, ∃ cs : List UInt8, v = .int .u64 N ∧ N < 2 * 128 ^ f ∧ f ≤ 9 ∧ N < 18446744073709551616 ∧ cs.length + f ≤ bs.length + 9 ∧ cs ++ putGo f N = bs ++ putU n ∧ WrPost p cs w wr) (fun v _ => (intOf v).toNat)
  case atStart => exact ⟨n, 9, bs, rfl, by have : (128 : Nat) ^ 9 = 9223372036854775808 := by decide
                                           omega, by omega, hn, by omega, rfl, WrPost.refl h⟩
  case round =>
    obtain ⟨N, f, cs, rfl, hf, hf9, hN, hlen, he, hW⟩ := hrel
    have HE : Hid (cs ++ putGo f N = bs ++ putU n) := he
    have HW : Hid (WrPost p cs w wr) := hW
    clear he hW h
    by_cases hlt : N < 128
    · go_wp2_with fail
      refine (wbyte_any p cs (UInt8.ofNat N) _ (u8_last N hlt) wr HW.out.is (by omega)).mono ?_
      rintro e w1 ⟨rfl, hW1⟩
      have HQ : Hid (WrPost p (bs ++ putU n) w w1) := by
        have := HW.out.trans hW1
        rw [← putGo_last (f := f) hlt, HE.out] at this
        exact this
      clear hW1
      go_wp2_with fail
      go_end0
      exact ⟨rfl, HQ.out⟩
    · obtain ⟨f, rfl⟩ : ∃ k, f = k + 1 := by
        cases f with
        | zero => exact absurd hf (by omega)
        | succ k => exact ⟨k, rfl⟩
      go_wp2_with fail
      refine (wbyte_any p cs (UInt8.ofNat (N % 128 + 128)) _ (u8_more N) wr HW.out.is (by omega)).mono ?_
      rintro e w1 ⟨rfl, hW1⟩
      have HQ : Hid (WrPost p (cs ++ [UInt8.ofNat (N % 128 + 128)]) w w1) := HW.out.trans hW1
      clear hW1
      go_wp2_with fail
      go_roundw
      case rel =>
        refine ⟨N / 128, f, cs ++ [UInt8.ofNat (N % 128 + 128)], by go_num, ?_, by omega, by omega, by simp; omega, ?_, HQ.out⟩
        · rw [Nat.pow_succ] at hf; omega
        · rw [List.append_assoc, List.singleton_append, ← putGo_more hlt, HE.out]
      case measure => simp [intOf]; omega
end Go.Proofs.YtaihofkmcpcjeaaDoor

/- The contracts of wire's Writer: Int, Fixed. -/
namespace Go.Proofs.YtaihofkmcpcjeaaDoor
open Go.RowKit
set_option linter.unusedVariables false

set_option maxRecDepth 100000 in
set_option maxHeartbeats 400000 in
theorem wint_any (p : Nat) (bs : List UInt8) (n : Int) (h0 : -9223372036854775808 ≤ n) (h1 : n < 9223372036854775808) (w : World) (h : Wr w p bs) (hl : bs.length + 10 ≤ 140737488355328) :
    Calls Tryd.prog 50 #[.pointer (some ⟨p, 0, none⟩), .int .i64 n] w fun e w' => e = .returned (.tuple #[]) ∧ WrPost p (bs ++ putU (unzz n)) w w' := by
  go_enter Tryd.func50, Tryd.ntmps50
  go_wp2_with fail
  refine (wuint_any p bs (unzz n) (unzz_eq n h0 h1).2 w h hl _ (unzz_eq n h0 h1).1).mono ?_
  rintro e w1 ⟨rfl, hW⟩
  go_wp2_with fail
  go_end0
  exact ⟨rfl, hW⟩

set_option maxRecDepth 100000 in
set_option maxHeartbeats 400000 in
theorem wfixed_any (p : Nat) (bs : List UInt8) (n : Nat) (hn : n < 18446744073709551616) (w : World) (h : Wr w p bs) (hl : bs.length + 8 ≤ 140737488355328) :
    Calls Tryd.prog 51 #[.pointer (some ⟨p, 0, none⟩), .int .u64 n] w fun e w' => e = .returned (.tuple #[]) ∧ WrPost p (bs ++ putF n) w w' := by
  go_enter Tryd.func51, Tryd.ntmps51
  go_wp2_with fail
  go_loopw [4] (fun v wr => ∃ k : Nat, v = .int .i64 (56 - 8 * (k : Int)) ∧ k ≤ 8 ∧ WrPost p (bs ++ (putF n).take k) w wr) (fun v _ => (intOf v + 8).toNat)
  case atStart => exact ⟨0, rfl, by omega, by rw [List.take_zero, List.append_nil]; exact WrPost.refl h⟩
  case round =>
    obtain ⟨k, rfl, hk, hW⟩ := hrel
    have HW : Hid (WrPost p (bs ++ (putF n).take k) w wr) := hW
    clear hW h
    by_cases hk8 : k < 8
    · have hcl : (bs ++ (putF n).take k).length < 140737488355328 := by rw [List.length_append, List.length_take, putF_length]; omega
      have hb : (n : Int) / 2 ^ (56 - 8 * k) % 256 = ((UInt8.ofNat (n / 2 ^ (56 - 8 * k))).toNat : Int) := by
        rw [UInt8.toNat_ofNat', show ((2 : Int) ^ (56 - 8 * k)) = ((2 ^ (56 - 8 * k) : Nat) : Int) from by push_cast; rfl, ← Int.natCast_ediv]
        omega
      have HB : Hid ((n : Int) / 2 ^ (56 - 8 * k) % 256 = ((UInt8.ofNat (n / 2 ^ (56 - 8 * k))).toNat : Int)) := hb
      clear hb
      go_wp2_with fail
      refine (wbyte_any p _ (UInt8.ofNat (n / 2 ^ (56 - 8 * k))) _ HB.out wr HW.out.is hcl).mono ?_
      rintro e w1 ⟨rfl, hW1⟩
      have HQ : Hid (WrPost p (bs ++ (putF n).take (k + 1)) w w1) := by
        rw [putF_snoc n k hk8, ← List.append_assoc]; exact HW.out.trans hW1
      clear hW1
      go_wp2_with fail
      go_roundw
      case rel => exact ⟨k + 1, by go_num, by omega, HQ.out⟩
      case measure => simp [intOf]; omega
    · have HQ : Hid (WrPost p (bs ++ putF n) w wr) := by
        have := HW.out; rw [List.take_of_length_le (by rw [putF_length]; omega)] at this; exact this
      go_wp2_with fail
      go_end0
      exact ⟨rfl, HQ.out⟩
end Go.Proofs.YtaihofkmcpcjeaaDoor
