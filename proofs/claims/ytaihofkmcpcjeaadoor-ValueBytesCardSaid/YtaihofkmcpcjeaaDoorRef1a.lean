/- The contracts of quireref1: Uint, Int, Fixed, Text: what the document writes, appended. -/
import Derived.Test.YtaihofkmcpcjeaaDoorPart1
import Derived.Test.YtaihofkmcpcjeaaDoorPart7
import Derived.Test.YtaihofkmcpcjeaaDoorPart9
namespace Go.Proofs.YtaihofkmcpcjeaaDoor
open Go.RowKit
set_option linter.unusedVariables false

set_option maxRecDepth 100000 in
set_option maxHeartbeats 1000000 in
theorem ref1_uint (v : Value) (bs : List UInt8) (n : Nat) (hn : n < 18446744073709551616) (w : World) (h : w.ownsRow 0 5 1 v bs.length (cellsOf bs)) (hl : bs.length + 10 ≤ 140737488355328) (x : Int) (hx : x = n) :
    Calls Tryd.prog 80 #[v, .int .u64 x] w fun e w' => ∃ v', e = .returned v' ∧ Grow v v' (bs ++ putU n) w w' := by
  subst hx
  obtain ⟨i0, hi, hz0, hz1, hz2⟩ := info_parts Tryd.infoByte
  go_enter Tryd.func80, Tryd.ntmps80
  go_wp2_with fail
  go_loopw [0, 1] (fun a b wr => ∃ N f : Nat, ∃ cs : List UInt8, b = .int .u64 N ∧ N < 2 * 128 ^ f ∧ f ≤ 9 ∧ N < 18446744073709551616 ∧ cs.length + f ≤ bs.length + 9 ∧ cs ++ putGo f N = bs ++ putU n ∧ Grow v a cs w wr) (fun _ b _ => (intOf b).toNat)
  case atStart => exact ⟨n, 9, bs, rfl, by have : (128 : Nat) ^ 9 = 9223372036854775808 := by decide
                                           omega, by omega, hn, by omega, rfl, Grow.refl h⟩
  case round =>
    obtain ⟨N, f, cs, rfl, hf, hf9, hN, hlen, he, hW⟩ := hrel
    have HE : Hid (cs ++ putGo f N = bs ++ putU n) := he
    have HW : Hid (Grow v u0 cs w wr) := hW
    have hown := hW.is
    clear he hW h
    by_cases hlt : N < 128
    · have hb := u8_last N hlt
      have HB : Hid ((N : Int) = ((UInt8.ofNat N).toNat : Int)) := hb
      clear hb
      go_wp2_with (first | (at_builtin; refine wpList_append_own_at _ rfl _ _ 40 rfl 0 5 i0 (.int .u8 0) 1 1 Tryd.underlying40 hi hz0 hz1 hz2 rfl (by decide) _ _ _ rfl (hown.alloc _) ⟨wr.heap.size, 0, none⟩ 1 1 [.int .u8 (N : Int)] rfl rfl ?c1 ?c2 ?c3 ?c4 ?c5 ?_))
      case c1 =>
        intro j u hj
        match j, hj with
        | 0, hj => simp at hj; subst hj; simp [Addr.add]
      case c2 => intro u hu; simp at hu; subst hu; rfl
      case c3 => unfold maxLen; omega
      case c4 => omega
      case c5 => exact Nat.zero_le _
      intro v' w1 hown' hgrow _ hat
      rw [HB.out] at hown'
      have HQ : Hid (Grow v v' (bs ++ putU n) w w1) := by
        have := HW.out.trans (Grow.pushed ((Touch.refl _ wr).alloc _) hown' hgrow hat (by omega))
        rw [← putGo_last (f := f) hlt, HE.out] at this
        exact this
      obtain ⟨ao, n', cap', rfl⟩ := HQ.out.slice
      clear hown' hgrow hat hown hi hz0 hz1 hz2
      go_wp2_with fail
      go_ret
      exact ⟨_, rfl, HQ.out⟩
    · obtain ⟨f, rfl⟩ : ∃ k, f = k + 1 := by
        cases f with
        | zero => exact absurd hf (by omega)
        | succ k => exact ⟨k, rfl⟩
      have HB : Hid (bits .or .u8 ((N : Int) % 256) 128 = ((UInt8.ofNat (N % 128 + 128)).toNat : Int)) := u8_more N
      go_wp2_with (first | (at_builtin; refine wpList_append_own_at _ rfl _ _ 40 rfl 0 5 i0 (.int .u8 0) 1 1 Tryd.underlying40 hi hz0 hz1 hz2 rfl (by decide) _ _ _ rfl (hown.alloc _) ⟨wr.heap.size, 0, none⟩ 1 1 [.int .u8 (bits .or .u8 ((N : Int) % 256) 128)] rfl rfl ?d1 ?d2 ?d3 ?d4 ?d5 ?_))
      case d1 =>
        intro j u hj
        match j, hj with
        | 0, hj => simp at hj; subst hj; simp [Addr.add]
      case d2 => intro u hu; simp at hu; subst hu; rfl
      case d3 => unfold maxLen; omega
      case d4 => omega
      case d5 => exact Nat.zero_le _
      intro v' w1 hown' hgrow _ hat
      rw [HB.out] at hown'
      have HQ : Hid (Grow v v' (cs ++ [UInt8.ofNat (N % 128 + 128)]) w w1) := HW.out.trans (Grow.pushed ((Touch.refl _ wr).alloc _) hown' hgrow hat (by omega))
      obtain ⟨ao, n', cap', rfl⟩ := HQ.out.slice
      clear hown' hgrow hat hown hi hz0 hz1 hz2
      go_wp2_with fail
      go_roundw
      case rel =>
        refine ⟨N / 128, f, cs ++ [UInt8.ofNat (N % 128 + 128)], by go_num, ?_, by omega, by omega, by simp; omega, ?_, HQ.out⟩
        · rw [Nat.pow_succ] at hf; omega
        · rw [List.append_assoc, List.singleton_append, ← putGo_more hlt, HE.out]
      case measure => simp [intOf]; omega

set_option maxRecDepth 100000 in
set_option maxHeartbeats 400000 in
theorem ref1_int (v : Value) (bs : List UInt8) (n : Int) (h0 : -9223372036854775808 ≤ n) (h1 : n < 9223372036854775808) (w : World) (h : w.ownsRow 0 5 1 v bs.length (cellsOf bs)) (hl : bs.length + 10 ≤ 140737488355328) :
    Calls Tryd.prog 54 #[v, .int .i64 n] w fun e w' => ∃ v', e = .returned v' ∧ Grow v v' (bs ++ putU (unzz n)) w w' := by
  have hub := (unzz_eq n h0 h1).2
  by_cases hn : n < 0
  · have hu : unzz n = (-n).toNat * 2 - 1 := by rw [unzz, if_pos hn]
    have HU : Hid (unzz n = (-n).toNat * 2 - 1) := hu
    clear hu
    go_enter Tryd.func54, Tryd.ntmps54
    go_wp2_with fail
    refine (ref1_uint v bs (unzz n) hub w h hl _ ?_).mono ?_
    · rw [HU.out]; omega
    · rintro e w1 ⟨v', rfl, hG⟩
      have HG : Hid (Grow v v' (bs ++ putU (unzz n)) w w1) := hG
      obtain ⟨ao, n', cap', rfl⟩ := HG.out.slice
      clear hG
      go_wp2_with fail
      go_ret
      exact ⟨_, rfl, HG.out⟩
  · have hu : unzz n = n.toNat * 2 := by rw [unzz, if_neg hn]
    have HU : Hid (unzz n = n.toNat * 2) := hu
    clear hu
    go_enter Tryd.func54, Tryd.ntmps54
    go_wp2_with fail
    refine (ref1_uint v bs (unzz n) hub w h hl _ ?_).mono ?_
    · rw [HU.out]; omega
    · rintro e w1 ⟨v', rfl, hG⟩
      have HG : Hid (Grow v v' (bs ++ putU (unzz n)) w w1) := hG
      obtain ⟨ao, n', cap', rfl⟩ := HG.out.slice
      clear hG
      go_wp2_with fail
      go_ret
      exact ⟨_, rfl, HG.out⟩

set_option maxRecDepth 100000 in
set_option maxHeartbeats 1000000 in
theorem ref1_fixed (v : Value) (bs : List UInt8) (n : Nat) (hn : n < 18446744073709551616) (w : World) (h : w.ownsRow 0 5 1 v bs.length (cellsOf bs)) (hl : bs.length + 8 ≤ 140737488355328) :
    Calls Tryd.prog 55 #[v, .int .u64 n] w fun e w' => ∃ v', e = .returned v' ∧ Grow v v' (bs ++ putF n) w w' := by
  obtain ⟨i0, hi, hz0, hz1, hz2⟩ := info_parts Tryd.infoByte
  go_enter Tryd.func55, Tryd.ntmps55
  go_wp2_with fail
  go_loopw [0, 5] (fun a b wr => ∃ k : Nat, b = .int .i64 (7 - (k : Int)) ∧ k ≤ 8 ∧ Grow v a (bs ++ (putF n).take k) w wr) (fun _ b _ => (intOf b + 1).toNat)
  case atStart => exact ⟨0, rfl, by omega, by rw [List.take_zero, List.append_nil]; exact Grow.refl h⟩
  case round =>
    obtain ⟨k, rfl, hk, hW⟩ := hrel
    have HW : Hid (Grow v u0 (bs ++ (putF n).take k) w wr) := hW
    have hown := hW.is
    clear hW h
    by_cases hk8 : k < 8
    · have hcl : (bs ++ (putF n).take k).length + 1 ≤ 140737488355328 := by rw [List.length_append, List.length_take, putF_length]; omega
      have HB : Hid ((n : Int) / 2 ^ (8 * (7 - k)) % 256 = ((UInt8.ofNat (n / 2 ^ (56 - 8 * k))).toNat : Int)) := by
        rw [Hid, show 8 * (7 - k) = 56 - 8 * k from by omega, UInt8.toNat_ofNat', show ((2 : Int) ^ (56 - 8 * k)) = ((2 ^ (56 - 8 * k) : Nat) : Int) from by push_cast; rfl, ← Int.natCast_ediv]
        omega
      have HS : Hid ((putF n).take (k + 1) = (putF n).take k ++ [UInt8.ofNat (n / 2 ^ (56 - 8 * k))]) := putF_snoc n k hk8
      generalize hcs : bs ++ (putF n).take k = cs at *
      have HC : Hid (bs ++ (putF n).take k = cs) := hcs
      clear hcs
      go_wp2_with (first | (at_builtin; refine wpList_append_own_at _ rfl _ _ 40 rfl 0 5 i0 (.int .u8 0) 1 1 Tryd.underlying40 hi hz0 hz1 hz2 rfl (by decide) _ _ _ rfl (hown.alloc _) ⟨wr.heap.size, 0, none⟩ 1 1 [.int .u8 ((n : Int) / 2 ^ (8 * (7 - k)) % 256)] rfl rfl ?c1 ?c2 ?c3 ?c4 ?c5 ?_))
      case c1 =>
        intro j u hj
        match j, hj with
        | 0, hj => simp at hj; subst hj; simp [Addr.add]
      case c2 => intro u hu; simp at hu; subst hu; rfl
      case c3 => unfold maxLen; omega
      case c4 => omega
      case c5 => exact Nat.zero_le _
      intro v' w1 hown' hgrow _ hat
      rw [HB.out] at hown'
      have HQ : Hid (Grow v v' (bs ++ (putF n).take (k + 1)) w w1) := by
        have := HW.out.trans (Grow.pushed ((Touch.refl _ wr).alloc _) hown' hgrow hat (by omega))
        rw [← HC.out, List.append_assoc, ← HS.out] at this
        exact this
      obtain ⟨ao, n', cap', rfl⟩ := HQ.out.slice
      clear hown' hgrow hat hown hi hz0 hz1 hz2
      go_wp2_with fail
      go_roundw
      case rel => exact ⟨k + 1, by go_num, by omega, HQ.out⟩
      case measure => simp [intOf]; omega
    · have HQ : Hid (Grow v u0 (bs ++ putF n) w wr) := by
        have := HW.out; rw [List.take_of_length_le (by rw [putF_length]; omega)] at this; exact this
      obtain ⟨ao, n', cap', rfl⟩ := HQ.out.slice
      clear hown
      go_wp2_with fail
      go_ret
      exact ⟨_, rfl, HQ.out⟩

set_option maxRecDepth 100000 in
set_option maxHeartbeats 400000 in
theorem ref1_text (v : Value) (bs : List UInt8) (s : ByteArray) (w : World) (h : w.ownsRow 0 5 1 v bs.length (cellsOf bs)) (hl : bs.length + 10 + s.size ≤ 140737488355328) :
    Calls Tryd.prog 57 #[v, .string s] w fun e w' => ∃ v', e = .returned v' ∧ Grow v v' (bs ++ putT s) w w' := by
  obtain ⟨i0, hi, hz0, hz1, hz2⟩ := info_parts Tryd.infoByte
  go_enter Tryd.func57, Tryd.ntmps57
  go_wp2_with fail
  refine (ref1_uint v bs s.size (by omega) w h (by omega) _ ?_).mono ?_
  · rfl
  rintro e w1 ⟨v1, rfl, hG⟩
  have hpl := putGo_length 9 s.size
  have hown := hG.is
  have HW : Hid (Grow v v1 (bs ++ putU s.size) w w1) := hG
  have hcs : (bs ++ putU s.size).length ≤ bs.length + 10 := by rw [List.length_append]; unfold putU; omega
  obtain ⟨ao1, n1, cap1, rfl⟩ := hG.slice
  generalize hc : bs ++ putU s.size = cs at *
  have HC : Hid (bs ++ putU s.size = cs) := hc
  clear hG hc h hpl
  go_wp2_with (first | (at_builtin; refine wpList_append_own_string_at _ rfl _ _ 40 9 rfl 0 5 i0 Tryd.underlying40 Tryd.underlying9 hi hz0 hz1 hz2 _ _ _ rfl hown s rfl ?c3 ?c4 ?c5 ?_))
  case c3 => unfold maxLen; omega
  case c4 => omega
  case c5 => exact Nat.zero_le _
  intro v' w2 hown' hgrow hat
  have HQ : Hid (Grow v v' (bs ++ putT s) w w2) := by
    have e1 : cellsOf (cs ++ s.data.toList) = cellsOf cs ++ Lib.strCells s := by rw [cellsOf_append]; rfl
    have e2 : (cs ++ s.data.toList).length = cs.length + s.size := by rw [List.length_append]; rfl
    rw [← e1, ← e2] at hown'
    have := HW.out.trans ⟨hown', (Touch.refl _ w1).grown hgrow (fun i e _ => e), fun k hk hv => by
      rcases hat with e | e
      · rw [← e]; exact hv
      · have := e k hv; omega⟩
    rw [← HC.out, List.append_assoc] at this
    exact this
  obtain ⟨ao, n', cap', rfl⟩ := HQ.out.slice
  clear hown' hgrow hat hown hi hz0 hz1 hz2
  go_wp2_with fail
  go_ret
  exact ⟨_, rfl, HQ.out⟩
end Go.Proofs.YtaihofkmcpcjeaaDoor
