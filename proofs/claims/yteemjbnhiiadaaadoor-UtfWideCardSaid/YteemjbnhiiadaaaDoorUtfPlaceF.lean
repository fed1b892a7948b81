/- The contracts of utf.Place16 and Place, as functions. -/
import Derived.Test.YteemjbnhiiadaaaDoorUtfPlaceA
import Derived.Test.YteemjbnhiiadaaaDoorUtfPlaceB
import Derived.Test.YteemjbnhiiadaaaDoorRefPlace
namespace Go.Proofs.YteemjbnhiiadaaaDoor
open Go.RowKit
set_option linter.unusedVariables false
set_option maxRecDepth 100000

theorem ssum_16 (l : List Nat) : ssum un16 l = sum16 l := rfl
theorem ssum_one (l : List Nat) : ssum one1 l = l.length := by
  unfold ssum
  induction l with
  | nil => rfl
  | cons r l ih => rw [List.map_cons, List.sum_cons, ih, List.length_cons]; unfold one1; omega
theorem post16 {n : Int} {l : List UInt8} {w : World} {e : Ending} {w' : World} (h : PlacePost un16 one1 n l w e w') : e = .returned (.tuple #[.int .i64 (ans16 l n).1, .int .i64 (ans16 l n).2]) ∧ Touch (fun _ => False) w w' := by
  obtain ⟨hT, ⟨hr, rfl⟩ | ⟨rs, k, hr, ⟨hk, hlo, hst⟩, ⟨he, rfl⟩ | ⟨he, rfl⟩⟩⟩ := h
  · exact ⟨ret2_of _ (ans16_none n hr), hT⟩
  · rw [ssum_16] at he
    refine ⟨?_, hT⟩
    rw [ssum_one, List.length_take, Nat.min_eq_left hk]
    exact ret2_of _ (ans16_at hr hk he)
  · rw [ssum_16] at he hst
    refine ⟨ret2_of _ (ans16_no hr fun j hj => ?_), hT⟩
    rcases Nat.lt_trichotomy j k with c | c | c
    · have := hlo j c; rw [ssum_16] at this; omega
    · rw [c]; exact he
    · have := take_mono rs c hj; omega
theorem post1 {n : Int} {l : List UInt8} {w : World} {e : Ending} {w' : World} (h : PlacePost one1 un16 n l w e w') : e = .returned (.tuple #[.int .i64 (ansP l n).1, .int .i64 (ansP l n).2]) ∧ Touch (fun _ => False) w w' := by
  obtain ⟨hT, ⟨hr, rfl⟩ | ⟨rs, k, hr, ⟨hk, hlo, hst⟩, ⟨he, rfl⟩ | ⟨he, rfl⟩⟩⟩ := h
  · exact ⟨ret2_of _ (ansP_none n hr), hT⟩
  · rw [ssum_one, List.length_take, Nat.min_eq_left hk] at he
    refine ⟨?_, hT⟩
    have := ansP_at hr (n := n) (by omega) (by omega)
    rw [show n.toNat = k from by omega] at this
    rw [ssum_16]
    exact ret2_of _ this
  · rw [ssum_one, List.length_take, Nat.min_eq_left hk] at he hst
    refine ⟨ret2_of _ (ansP_no hr ?_), hT⟩
    by_cases h0 : n < 0
    · exact .inl h0
    · right
      by_cases c : n < (k : Int)
      · have := hlo n.toNat (by omega)
        rw [ssum_one, List.length_take, Nat.min_eq_left (by omega)] at this
        omega
      · omega

set_option maxHeartbeats 1000000 in
theorem utf_place16 (s : ByteArray) (hs : s.size ≤ 1152921504606846976) (n : Int) (w : World) (hT : TabsU w) : Calls Tryd.prog 21 #[.string s, .int .i64 n] w fun e w' => e = .returned (.tuple #[.int .i64 (ans16 s.data.toList n).1, .int .i64 (ans16 s.data.toList n).2]) ∧ Touch (fun _ => False) w w' := by
  have HC : Hid (Calls Tryd.prog 33 #[.string s, .int .i64 n, .func (.func 27) #[] #[], .func (.func 34) #[] #[]] w fun e w' => e = .returned (.tuple #[.int .i64 (ans16 s.data.toList n).1, .int .i64 (ans16 s.data.toList n).2]) ∧ Touch (fun _ => False) w w') := (place_16 s hs n w hT).mono fun e w' h => post16 h
  generalize ans16 s.data.toList n = X at *
  go_enter Tryd.func21, Tryd.ntmps21
  go_wp2_with fail
  refine HC.out.mono ?_
  rintro e w1 ⟨rfl, hT1⟩
  go_wp2_with fail
  go_ret2
  exact ⟨rfl, hT1⟩
set_option maxHeartbeats 1000000 in
theorem utf_place (s : ByteArray) (hs : s.size ≤ 1152921504606846976) (n : Int) (w : World) (hT : TabsU w) : Calls Tryd.prog 23 #[.string s, .int .i64 n] w fun e w' => e = .returned (.tuple #[.int .i64 (ansP s.data.toList n).1, .int .i64 (ansP s.data.toList n).2]) ∧ Touch (fun _ => False) w w' := by
  have HC : Hid (Calls Tryd.prog 33 #[.string s, .int .i64 n, .func (.func 34) #[] #[], .func (.func 27) #[] #[]] w fun e w' => e = .returned (.tuple #[.int .i64 (ansP s.data.toList n).1, .int .i64 (ansP s.data.toList n).2]) ∧ Touch (fun _ => False) w w') := (place_1 s hs n w hT).mono fun e w' h => post1 h
  generalize ansP s.data.toList n = X at *
  go_enter Tryd.func23, Tryd.ntmps23
  go_wp2_with fail
  refine HC.out.mono ?_
  rintro e w1 ⟨rfl, hT1⟩
  go_wp2_with fail
  go_ret2
  exact ⟨rfl, hT1⟩
end Go.Proofs.YteemjbnhiiadaaaDoor
