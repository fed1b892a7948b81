/- The statement UtfCuts, as a contract. -/
import Derived.Test.YteemjbnhiiadaaaDoorKnown3
import Derived.Test.YteemjbnhiiadaaaDoorUtfHelp
namespace Go.Proofs.YteemjbnhiiadaaaDoor
open Go.RowKit
set_option linter.unusedVariables false
set_option maxRecDepth 100000

theorem str_add (a b : List UInt8) : strOf a ++ strOf b = strOf (a ++ b) := by
  apply bytes_ext
  rw [ByteArray.data_append, Array.toList_append, strOf_list, strOf_list, strOf_list]
/-- A text that is cut in two at a place. -/
theorem cut_two {l : List UInt8} {rs : List Nat} (h : runesOf l = some rs) (p : Nat) (hp : p ≤ rs.length) (M : Int) (hM : (rs.length : Int) ≤ M) :
    rsOf (cutOf l 0 (p : Int)).data.toList = rs.take p ∧ rsOf (cutOf l (p : Int) M).data.toList = rs.drop p ∧ cutOf l 0 (p : Int) ++ cutOf l (p : Int) M = strOf l ∧ (cutOf l 0 (p : Int)).size ≤ l.length ∧ (cutOf l (p : Int) M).size ≤ l.length := by
  obtain ⟨ok, he⟩ := enc_runesOf rs l h
  have e1 : cutOf l 0 (p : Int) = strOf (encAll (rs.take p)) := by unfold cutOf cutR; rw [rsOf_some h]; simp
  have e2 : cutOf l (p : Int) M = strOf (encAll (rs.drop p)) := by unfold cutOf cutR; rw [rsOf_some h, List.take_of_length_le (by omega), Int.toNat_natCast]
  rw [e1, e2]
  refine ⟨?_, ?_, ?_, ?_, ?_⟩
  · rw [strOf_list, rsOf_some (runesOf_enc _ fun r hr => ok r (List.mem_of_mem_take hr))]
  · rw [strOf_list, rsOf_some (runesOf_enc _ fun r hr => ok r (List.mem_of_mem_drop hr))]
  · rw [str_add, ← encAll_append, List.take_append_drop, he]
  · rw [strOf_size, ← he]
    have : encAll rs = encAll (rs.take p) ++ encAll (rs.drop p) := by rw [← encAll_append, List.take_append_drop]
    rw [this, List.length_append]; omega
  · rw [strOf_size, ← he]
    have : encAll rs = encAll (rs.take p) ++ encAll (rs.drop p) := by rw [← encAll_append, List.take_append_drop]
    rw [this, List.length_append]; omega
theorem cut_none {l : List UInt8} (h : runesOf l = none) (fr tt : Int) : cutOf l fr tt = ⟨#[]⟩ := by
  unfold cutOf cutR; rw [rsOf_none h]; simp [encAll, strOf]

set_option maxHeartbeats 4000000 in
theorem utfCuts_any (s : ByteArray) (hs : s.size ≤ 9223372036854775807) (fr : Int) (hfr : -9223372036854775808 ≤ fr ∧ fr ≤ 9223372036854775807) (tt : Int) (htt : -9223372036854775808 ≤ tt ∧ tt ≤ 9223372036854775807) (w : World) (hT : TabsU w) : Calls Tryd.prog 4 #[.string s, .int .i64 fr, .int .i64 tt] w fun e w' => e = .returned (.bool true) ∧ Touch (fun _ => False) w w' := by
  have HK : Hid (Calls Tryd.prog 9 #[] w fun e w' => e = .returned (.bool true) ∧ Touch (fun _ => False) w w') := known_any w hT
  have HT : Hid (TabsU w) := hT
  clear hT
  by_cases hz : 4000 < s.size
  · go_enter Tryd.func4, Tryd.ntmps4
    go_wp2_with fail
    refine HK.out.mono ?_
    rintro e w1 ⟨rfl, t1⟩
    go_wp2_with fail
    go_ret
    exact ⟨rfl, t1⟩
  have hsl : s.data.toList.length = s.size := by simp
  have P1 : Hid (∀ w, TabsU w → Calls Tryd.prog 18 #[.string s, .int .i64 fr, .int .i64 tt] w fun e w' => e = .returned (.string (cutOf s.data.toList fr tt)) ∧ Touch (fun _ => False) w w') := fun w h => utf_cut s (by omega) fr tt w h
  have P2 : Hid (∀ w, Calls Tryd.prog 19 #[.string s, .int .i64 fr, .int .i64 tt] w fun e w' => e = .returned (.string (cutOf s.data.toList fr tt)) ∧ Touch (fun _ => False) w w') := fun w => ref_cut s (by omega) fr tt w
  have P3 : Hid (∀ w, Calls Tryd.prog 11 #[.string s] w fun e w' => e = .returned (.bool (runesOf s.data.toList).isSome) ∧ Touch (fun _ => False) w w') := fun w => ref_check3 s (by omega) w
  generalize cutOf s.data.toList fr tt = C at *
  cases hr : runesOf s.data.toList with
  | none =>
    rw [hr] at P3
    have P4 : Hid (∀ w, TabsU w → Calls Tryd.prog 18 #[.string s, .int .i64 0, .int .i64 1] w fun e w' => e = .returned (.string ⟨#[]⟩) ∧ Touch (fun _ => False) w w') := fun w h => by
      have := utf_cut s (by omega) 0 1 w h
      rwa [cut_none hr] at this
    clear hr
    go_enter Tryd.func4, Tryd.ntmps4
    go_wp2_with fail
    refine HK.out.mono ?_
    rintro _ w1 ⟨rfl, h1⟩
    go_wp2_with fail
    refine (P1.out _ (HT.out.keep h1)).mono ?_
    rintro _ w2 ⟨rfl, t1⟩
    have h2 := h1.trans t1
    clear h1 t1
    go_wp2_with fail
    refine (P2.out _).mono ?_
    rintro _ w3 ⟨rfl, t1⟩
    have h3 := h2.trans t1
    clear h2 t1
    go_wp2_with fail
    refine (P3.out _).mono ?_
    rintro _ w4 ⟨rfl, t1⟩
    have h4 := h3.trans t1
    clear h3 t1
    simp only [Option.isSome_none]
    go_wp2_with fail
    refine (P4.out _ (HT.out.keep h4)).mono ?_
    rintro _ w5 ⟨rfl, t1⟩
    have h5 := h4.trans t1
    clear h4 t1
    go_wp2_with fail
    go_ret
    exact ⟨rfl, h5⟩
  | some rs =>
    rw [hr] at P3
    have HR : Hid (runesOf s.data.toList = some rs) := hr
    have hln : rs.length ≤ s.size := by have := rsOf_len s.data.toList; rw [rsOf_some hr, hsl] at this; exact this
    have P5 : Hid (∀ w, TabsU w → Calls Tryd.prog 12 #[.string s] w fun e w' => e = .returned (.int .i64 (rs.length : Int)) ∧ Touch (fun _ => False) w w') := fun w h => by
      have := utf_len s (by omega) w h
      rwa [rsOf_some hr] at this
    have P6 : Hid (∀ w, TabsU w → Calls Tryd.prog 14 #[.string s] w fun e w' => e = .returned (.int .i64 (sum16 rs : Int)) ∧ Touch (fun _ => False) w w') := fun w h => by
      have := utf_len16 s (by omega) w h
      rwa [rsOf_some hr] at this
    clear hr
    go_enter Tryd.func4, Tryd.ntmps4
    go_wp2_with fail
    refine HK.out.mono ?_
    rintro _ w1 ⟨rfl, h1⟩
    go_wp2_with fail
    refine (P1.out _ (HT.out.keep h1)).mono ?_
    rintro _ w2 ⟨rfl, t1⟩
    have h2 := h1.trans t1
    clear h1 t1
    go_wp2_with fail
    refine (P2.out _).mono ?_
    rintro _ w3 ⟨rfl, t1⟩
    have h3 := h2.trans t1
    clear h2 t1
    go_wp2_with fail
    refine (P3.out _).mono ?_
    rintro _ w4 ⟨rfl, t1⟩
    have h4 := h3.trans t1
    clear h3 t1
    simp only [Option.isSome_some]
    go_wp2_with fail
    refine (P5.out _ (HT.out.keep h4)).mono ?_
    rintro _ w5 ⟨rfl, t1⟩
    have h5 := h4.trans t1
    clear h4 t1
    go_wp2_with fail
    rw [show ((rs.length : Int) + 1) = ((rs.length + 1 : Nat) : Int) from by omega]
    refine (help_place fr (rs.length + 1) (by omega) (by omega) hfr _).mono ?_
    rintro _ w6 ⟨⟨p, hp, rfl⟩, rfl⟩
    obtain ⟨q1, q2, q3, q4, q5⟩ := cut_two HR.out p (by omega) 1099511627776 (by omega)
    rw [hsl] at q4 q5
    have P7 : Hid (∀ w, TabsU w → Calls Tryd.prog 18 #[.string s, .int .i64 0, .int .i64 (p : Int)] w fun e w' => e = .returned (.string (cutOf s.data.toList 0 (p : Int))) ∧ Touch (fun _ => False) w w') := fun w h => utf_cut s (by omega) 0 (p : Int) w h
    have P8 : Hid (∀ w, TabsU w → Calls Tryd.prog 18 #[.string s, .int .i64 (p : Int), .int .i64 1099511627776] w fun e w' => e = .returned (.string (cutOf s.data.toList (p : Int) 1099511627776)) ∧ Touch (fun _ => False) w w') := fun w h => utf_cut s (by omega) (p : Int) 1099511627776 w h
    have P9 : Hid (∀ w, TabsU w → Calls Tryd.prog 12 #[.string (cutOf s.data.toList 0 (p : Int))] w fun e w' => e = .returned (.int .i64 (p : Int)) ∧ Touch (fun _ => False) w w') := fun w h => by
      have := utf_len (cutOf s.data.toList 0 (p : Int)) (by omega) w h
      rwa [q1, List.length_take, Nat.min_eq_left (by omega)] at this
    have P10 : Hid (∀ w, TabsU w → Calls Tryd.prog 14 #[.string (cutOf s.data.toList 0 (p : Int))] w fun e w' => e = .returned (.int .i64 (sum16 (rs.take p) : Int)) ∧ Touch (fun _ => False) w w') := fun w h => by
      have := utf_len16 (cutOf s.data.toList 0 (p : Int)) (by omega) w h
      rwa [q1] at this
    have P11 : Hid (∀ w, TabsU w → Calls Tryd.prog 14 #[.string (cutOf s.data.toList (p : Int) 1099511627776)] w fun e w' => e = .returned (.int .i64 (sum16 (rs.drop p) : Int)) ∧ Touch (fun _ => False) w w') := fun w h => by
      have := utf_len16 (cutOf s.data.toList (p : Int) 1099511627776) (by omega) w h
      rwa [q2] at this
    have hsum : sum16 (rs.take p) + sum16 (rs.drop p) = sum16 rs := by rw [← sum16_append, List.take_append_drop]
    have hb := sum16_bd rs
    have hs1 : (sum16 (rs.take p) : Int) + (sum16 (rs.drop p) : Int) ≤ 100000 := by omega
    have hs0 : (0 : Int) ≤ (sum16 (rs.take p) : Int) := by omega
    have hs2 : (0 : Int) ≤ (sum16 (rs.drop p) : Int) := by omega
    have heq : ((sum16 (rs.take p) : Int) + (sum16 (rs.drop p) : Int) == (sum16 rs : Int)) = true := by rw [beq_iff_eq]; omega
    rw [strOf_self] at q3
    have HQ : Hid (cutOf s.data.toList 0 (p : Int) ++ cutOf s.data.toList (p : Int) 1099511627776 = s) := q3
    clear q1 q2 q3 hsum hb
    generalize sum16 (rs.take p) = S1 at *
    generalize sum16 (rs.drop p) = S2 at *
    generalize sum16 rs = S3 at *
    generalize cutOf s.data.toList 0 (p : Int) = A1 at *
    generalize cutOf s.data.toList (p : Int) 1099511627776 = A2 at *
    have hqb : ((A1 ++ A2).toList == s.toList) = true := by rw [HQ.out, beq_iff_eq]
    go_wp2_with fail
    refine (P7.out _ (HT.out.keep h5)).mono ?_
    rintro _ w7 ⟨rfl, t1⟩
    have h7 := h5.trans t1
    clear h5 t1
    go_wp2_with fail
    refine (P8.out _ (HT.out.keep h7)).mono ?_
    rintro _ w8 ⟨rfl, t1⟩
    have h8 := h7.trans t1
    clear h7 t1
    go_wp2_with fail
    refine (P9.out _ (HT.out.keep h8)).mono ?_
    rintro _ w9 ⟨rfl, t1⟩
    have h9 := h8.trans t1
    clear h8 t1
    go_wp2_with fail
    refine (P10.out _ (HT.out.keep h9)).mono ?_
    rintro _ w10 ⟨rfl, t1⟩
    have h10 := h9.trans t1
    clear h9 t1
    go_wp2_with fail
    refine (P11.out _ (HT.out.keep h10)).mono ?_
    rintro _ w11 ⟨rfl, t1⟩
    have h11 := h10.trans t1
    clear h10 t1
    go_wp2_with fail
    refine (P6.out _ (HT.out.keep h11)).mono ?_
    rintro _ w12 ⟨rfl, t1⟩
    have h12 := h11.trans t1
    clear h11 t1
    go_wp2_with fail
    go_ret
    exact ⟨rfl, h12⟩
end Go.Proofs.YteemjbnhiiadaaaDoor
