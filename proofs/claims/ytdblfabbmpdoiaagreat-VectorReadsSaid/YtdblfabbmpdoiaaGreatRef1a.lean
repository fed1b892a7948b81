/- The contracts of quireref1: Uint, Int, Fixed, Text: what the document writes, appended. -/
import Derived.Test.YtdblfabbmpdoiaaGreatCells
import Derived.Test.YtdblfabbmpdoiaaGreatPut
import Derived.Test.YtdblfabbmpdoiaaGreatAppStr
namespace Go.Proofs.YtdblfabbmpdoiaaGreat
open Go.RowKit
set_option linter.unusedVariables false

set_option maxRecDepth 100000 in
set_option maxHeartbeats 1000000 in
theorem ref1_uint (v : Value) (bs : List UInt8) (n : Nat) (hn : n < 18446744073709551616) (w : World) (h : w.ownsRow 0 5 1 v bs.length (cellsOf bs)) (hl : bs.length + 10 ≤ 140737488355328) (x : Int) (hx : x = n) :
    Calls Tryz.prog 32 #[v, .int .u64 x] w fun e w' => ∃ v', e = .returned v' ∧ Grow v v' (bs ++ putU n) w w' := by
  subst hx
  obtain ⟨i0, hi, hz0, hz1, hz2⟩ := info_parts Tryz.infoByte
  go_enter Tryz.func32, Tryz.ntmps32
  go_wp2_with fail
  go_loopw [0, 1] (fun a b wr => ∃ N f : Nat, ∃ cs : List UInt8, b = .int .u64 N ∧ N < 2 * 128 ^ f ∧ f ≤ 9 ∧ N < 18446744073709551616 ∧ cs.length + f ≤ bs.length + 9 ∧ cs ++ putGo f N = bs ++ putU n ∧ Grow v a cs w wr) (fun _ b _ => (intOf b).toNat)
  case atStart => exact ⟨n, 9, bs, rfl, by have : (128 : Nat) ^ 9 = 9223372036854775808 := by decide
                                           omega, by omega, hn, by omega, rfl, Grow.refl h⟩
  case round =>
    obtain ⟨N, f, cs, rfl, hf, hf9, hN, hlen, he, hW⟩ := hrel
    have HE : Hid (cs ++ putGo f N = bs ++ putU n) := he
    have HW : Hid (Grow v u0 cs w wr) := hW
    have hown := hW.is
    clear he hW h
    by_cases hlt : N < 128
    · have hb := u8_last N hlt
      have HB : Hid ((N : Int) = ((UInt8.ofNat N).toNat : Int)) := hb
      clear hb
      go_wp2_with (first | (at_builtin; refine wpList_append_own_at _ rfl _ _ 23 rfl 0 5 i0 (.int .u8 0) 1 1 Tryz.underlying23 hi hz0 hz1 hz2 rfl (by decide) _ _ _ rfl (hown.alloc _) ⟨wr.heap.size, 0, none⟩ 1 1 [.int .u8 (N : Int)] rfl rfl ?c1 ?c2 ?c3 ?c4 ?c5 ?_))
      case c1 =>
        intro j u hj
        match j, hj with
        | 0, hj => simp at hj; subst hj; simp [Addr.add]
      case c2 => intro u hu; simp at hu; subst hu; rfl
      case c3 => unfold maxLen; omega
      case c4 => omega
      case c5 => exact Nat.zero_le _
      intro v' w1 hown' hgrow _ hat
      rw [HB.out] at hown'
      have HQ : Hid (Grow v v' (bs ++ putU n) w w1) := by
        have := HW.out.trans (Grow.pushed ((Touch.refl _ wr).alloc _) hown' hgrow hat (by omega))
        rw [← putGo_last (f := f) hlt, HE.out] at this
        exact this
      obtain ⟨ao, n', cap', rfl⟩ := HQ.out.slice
      clear hown' hgrow hat hown hi hz0 hz1 hz2
      go_wp2_with fail
      go_ret
      exact ⟨_, rfl, HQ.out⟩
    · obtain ⟨f, rfl⟩ : ∃ k, f = k + 1 := by
        cases f with
        | zero => exact absurd hf (by omega)
        | succ k => exact ⟨k, rfl⟩
      have HB : Hid (bits .or .u8 ((N : Int) % 256) 128 = ((UInt8.ofNat (N % 128 + 128)).toNat : Int)) := u8_more N
      go_wp2_with (first | (at_builtin; refine wpList_append_own_at _ rfl _ _ 23 rfl 0 5 i0 (.int .u8 0) 1 1 Tryz.underlying23 hi hz0 hz1 hz2 rfl (by decide) _ _ _ rfl (hown.alloc _) ⟨wr.heap.size, 0, none⟩ 1 1 [.int .u8 (bits .or .u8 ((N : Int) % 256) 128)] rfl rfl ?d1 ?d2 ?d3 ?d4 ?d5 ?_))
      case d1 =>
        intro j u hj
        match j, hj with
        | 0, hj => simp at hj; subst hj; simp [Addr.add]
      case d2 => intro u hu; simp at hu; subst hu; rfl
      case d3 => unfold maxLen; omega
      case d4 => omega
      case d5 => exact Nat.zero_le _
      intro v' w1 hown' hgrow _ hat
      rw [HB.out] at hown'
      have HQ : Hid (Grow v v' (cs ++ [UInt8.ofNat (N % 128 + 128)]) w w1) := HW.out.trans (Grow.pushed ((Touch.refl _ wr).alloc _) hown' hgrow hat (by omega))
      obtain ⟨ao, n', cap', rfl⟩ := HQ.out.slice
      clear hown' hgrow hat hown hi hz0 hz1 hz2
      go_wp2_with fail
      go_roundw
      case rel =>
        refine ⟨N / 128, f, cs ++ [UInt8.ofNat (N % 128 + 128)], by go_num, ?_, by omega, by omega, by simp; omega, ?_, HQ.out⟩
        · rw [Nat.pow_succ] at hf; omega
        · rw [List.append_assoc, List.singleton_append, ← putGo_more hlt, HE.out]
      case measure => simp [intOf]; omega

end Go.Proofs.YtdblfabbmpdoiaaGreat
