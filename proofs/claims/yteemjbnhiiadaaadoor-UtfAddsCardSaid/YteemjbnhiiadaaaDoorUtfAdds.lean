/- The statement UtfAdds, as a contract. -/
import Derived.Test.YteemjbnhiiadaaaDoorKnown3
import Derived.Test.YteemjbnhiiadaaaDoorUtfHelp
namespace Go.Proofs.YteemjbnhiiadaaaDoor
open Go.RowKit
set_option linter.unusedVariables false
set_option maxRecDepth 100000

theorem runes_add {a b : ByteArray} {ra rb : List Nat} (ha : runesOf a.data.toList = some ra) (hb : runesOf b.data.toList = some rb) : runesOf (a ++ b).data.toList = some (ra ++ rb) := by
  obtain ⟨oa, ea⟩ := enc_runesOf ra _ ha
  obtain ⟨ob, eb⟩ := enc_runesOf rb _ hb
  rw [ByteArray.data_append, Array.toList_append, ← ea, ← eb, ← encAll_append]
  exact runesOf_enc _ fun r hr => (List.mem_append.1 hr).elim (oa r) (ob r)
theorem adds_place {a b : ByteArray} {ra rb : List Nat} (ha : runesOf a.data.toList = some ra) (hb : runesOf b.data.toList = some rb) {p : Nat} (hp : p ≤ rb.length) :
    ansP b.data.toList (p : Int) = ((sum16 (rb.take p) : Int), 0) ∧ ansP (a ++ b).data.toList ((ra.length : Int) + (p : Int)) = ((sum16 ra : Int) + (sum16 (rb.take p) : Int), 0) ∧
    ans16 (a ++ b).data.toList ((sum16 ra : Int) + (sum16 (rb.take p) : Int)) = ((ra.length : Int) + (p : Int), 0) ∧ cutOf (a ++ b).data.toList (ra.length : Int) ((ra.length : Int) + (p : Int)) = cutOf b.data.toList 0 (p : Int) := by
  have hab := runes_add ha hb
  have ht : (ra ++ rb).take (ra.length + p) = ra ++ rb.take p := by rw [List.take_append, List.take_of_length_le (by omega)]; congr 1; rw [Nat.add_sub_cancel_left]
  have e1 : ((ra.length : Int) + (p : Int)).toNat = ra.length + p := by omega
  refine ⟨?_, ?_, ?_, ?_⟩
  · have := ansP_at hb (n := (p : Int)) (by omega) (by omega)
    rwa [Int.toNat_natCast] at this
  · have := ansP_at hab (n := (ra.length : Int) + (p : Int)) (by omega) (by rw [List.length_append]; omega)
    rw [e1, ht, sum16_append] at this
    rw [this]; refine Prod.ext ?_ rfl; simp only; omega
  · have := ans16_at hab (k := ra.length + p) (n := (sum16 ra : Int) + (sum16 (rb.take p) : Int)) (by rw [List.length_append]; omega) (by rw [ht, sum16_append]; omega)
    rw [this]; refine Prod.ext ?_ rfl; simp only; omega
  · unfold cutOf cutR
    rw [rsOf_some hab, rsOf_some hb, e1, ht, Int.toNat_natCast, Int.toNat_natCast, List.drop_left]
    simp

set_option maxHeartbeats 4000000 in
theorem utfAdds_any (a : ByteArray) (ha : a.size ≤ 2305843009213693951) (b : ByteArray) (hb : b.size ≤ 2305843009213693951) (n : Int) (hn : -9223372036854775808 ≤ n ∧ n ≤ 9223372036854775807) (w : World) (hT : TabsU w) : Calls Tryd.prog 7 #[.string a, .string b, .int .i64 n] w fun e w' => e = .returned (.bool true) ∧ Touch (fun _ => False) w w' := by
  have HK : Hid (Calls Tryd.prog 9 #[] w fun e w' => e = .returned (.bool true) ∧ Touch (fun _ => False) w w') := known_any w hT
  have HT : Hid (TabsU w) := hT
  clear hT
  by_cases hz : 3000 < a.size + b.size
  · have hz2 : (3000 : Int) < (a.size : Int) + (b.size : Int) := by omega
    go_enter Tryd.func7, Tryd.ntmps7
    go_wp2_with fail
    refine HK.out.mono ?_
    rintro e w1 ⟨rfl, t1⟩
    go_wp2_with fail
    go_ret
    exact ⟨rfl, t1⟩
  have hz2 : ¬ (3000 : Int) < (a.size : Int) + (b.size : Int) := by omega
  have ha3 : a.size ≤ 3000 := by omega
  have hb3 : b.size ≤ 3000 := by omega
  have hsab : (a ++ b).size ≤ 3000 := by rw [ByteArray.size_append]; omega
  have C1 : Hid (∀ w, Calls Tryd.prog 11 #[.string a] w fun e w' => e = .returned (.bool (runesOf a.data.toList).isSome) ∧ Touch (fun _ => False) w w') := fun w => ref_check3 a (by omega) w
  have C2 : Hid (∀ w, Calls Tryd.prog 11 #[.string b] w fun e w' => e = .returned (.bool (runesOf b.data.toList).isSome) ∧ Touch (fun _ => False) w w') := fun w => ref_check3 b (by omega) w
  cases hra : runesOf a.data.toList with
  | none =>
    rw [hra] at C1
    clear hra
    go_enter Tryd.func7, Tryd.ntmps7
    go_wp2_with fail
    refine HK.out.mono ?_
    rintro _ w1 ⟨rfl, h1⟩
    go_wp2_with fail
    refine (C1.out _).mono ?_
    rintro _ w2 ⟨rfl, t1⟩
    have h2 := h1.trans t1
    clear h1 t1
    simp only [Option.isSome_none]
    go_wp2_with fail
    go_ret
    exact ⟨rfl, h2⟩
  | some ra =>
  rw [hra] at C1
  cases hrb : runesOf b.data.toList with
  | none =>
    rw [hrb] at C2
    clear hra hrb
    go_enter Tryd.func7, Tryd.ntmps7
    go_wp2_with fail
    refine HK.out.mono ?_
    rintro _ w1 ⟨rfl, h1⟩
    go_wp2_with fail
    refine (C1.out _).mono ?_
    rintro _ w2 ⟨rfl, t1⟩
    have h2 := h1.trans t1
    clear h1 t1
    simp only [Option.isSome_some]
    go_wp2_with fail
    refine (C2.out _).mono ?_
    rintro _ w3 ⟨rfl, t1⟩
    have h3 := h2.trans t1
    clear h2 t1
    simp only [Option.isSome_none]
    go_wp2_with fail
    go_ret
    exact ⟨rfl, h3⟩
  | some rb =>
  rw [hrb] at C2
  have hab := runes_add hra hrb
  have HAB : Hid (runesOf a.data.toList = some ra ∧ runesOf b.data.toList = some rb) := ⟨hra, hrb⟩
  have hla : ra.length ≤ a.size := by have := rsOf_len a.data.toList; rw [rsOf_some hra] at this; simpa using this
  have hlb : rb.length ≤ b.size := by have := rsOf_len b.data.toList; rw [rsOf_some hrb] at this; simpa using this
  have hba := sum16_bd ra
  have hbb := sum16_bd rb
  have P1 : Hid (∀ w, TabsU w → Calls Tryd.prog 10 #[.string (a ++ b)] w fun e w' => e = .returned (.bool true) ∧ Touch (fun _ => False) w w') := fun w h => by
    have := utf_check (a ++ b) (by omega) w h
    rwa [hab] at this
  have P2 : Hid (∀ w, TabsU w → Calls Tryd.prog 12 #[.string (a ++ b)] w fun e w' => e = .returned (.int .i64 ((ra.length : Int) + (rb.length : Int))) ∧ Touch (fun _ => False) w w') := fun w h => by
    have := utf_len (a ++ b) (by omega) w h
    rwa [rsOf_some hab, List.length_append, Int.natCast_add] at this
  have P3 : Hid (∀ w, TabsU w → Calls Tryd.prog 12 #[.string a] w fun e w' => e = .returned (.int .i64 (ra.length : Int)) ∧ Touch (fun _ => False) w w') := fun w h => by
    have := utf_len a (by omega) w h
    rwa [rsOf_some hra] at this
  have P4 : Hid (∀ w, TabsU w → Calls Tryd.prog 12 #[.string b] w fun e w' => e = .returned (.int .i64 (rb.length : Int)) ∧ Touch (fun _ => False) w w') := fun w h => by
    have := utf_len b (by omega) w h
    rwa [rsOf_some hrb] at this
  have P5 : Hid (∀ w, TabsU w → Calls Tryd.prog 14 #[.string (a ++ b)] w fun e w' => e = .returned (.int .i64 ((sum16 ra : Int) + (sum16 rb : Int))) ∧ Touch (fun _ => False) w w') := fun w h => by
    have := utf_len16 (a ++ b) (by omega) w h
    rwa [rsOf_some hab, sum16_append, Int.natCast_add] at this
  have P6 : Hid (∀ w, TabsU w → Calls Tryd.prog 14 #[.string a] w fun e w' => e = .returned (.int .i64 (sum16 ra : Int)) ∧ Touch (fun _ => False) w w') := fun w h => by
    have := utf_len16 a (by omega) w h
    rwa [rsOf_some hra] at this
  have P7 : Hid (∀ w, TabsU w → Calls Tryd.prog 14 #[.string b] w fun e w' => e = .returned (.int .i64 (sum16 rb : Int)) ∧ Touch (fun _ => False) w w') := fun w h => by
    have := utf_len16 b (by omega) w h
    rwa [rsOf_some hrb] at this
  have hs1 : sum16 ra ≤ 6000 := by omega
  have hs2 : sum16 rb ≤ 6000 := by omega
  have HS : Hid (∀ p, sum16 (rb.take p) ≤ 6000) := fun p => by
    have := sum16_append (rb.take p) (rb.drop p)
    rw [List.take_append_drop] at this
    omega
  clear hra hrb hab hba hbb
  generalize hSA : sum16 ra = SA at *
  have HSA : Hid (sum16 ra = SA) := hSA
  clear hSA
  generalize sum16 rb = SB at *
  generalize hLA : ra.length = LA at *
  generalize hLB : rb.length = LB at *
  have HLA : Hid (ra.length = LA) := hLA
  have HLB : Hid (rb.length = LB) := hLB
  clear hLA hLB

  go_enter Tryd.func7, Tryd.ntmps7
  go_wp2_with fail
  refine HK.out.mono ?_
  rintro _ w1 ⟨rfl, h1⟩
  go_wp2_with fail
  refine (C1.out _).mono ?_
  rintro _ w2 ⟨rfl, t1⟩
  have h2 := h1.trans t1
  clear h1 t1
  simp only [Option.isSome_some]
  go_wp2_with fail
  refine (C2.out _).mono ?_
  rintro _ w3 ⟨rfl, t1⟩
  have h3 := h2.trans t1
  clear h2 t1
  simp only [Option.isSome_some]
  go_wp2_with fail
  refine (P1.out _ (HT.out.keep h3)).mono ?_
  rintro _ w4 ⟨rfl, t1⟩
  have h4 := h3.trans t1
  clear h3 t1
  go_wp2_with fail
  refine (P2.out _ (HT.out.keep h4)).mono ?_
  rintro _ w5 ⟨rfl, t1⟩
  have h5 := h4.trans t1
  clear h4 t1
  go_wp2_with fail
  refine (P3.out _ (HT.out.keep h5)).mono ?_
  rintro _ w6 ⟨rfl, t1⟩
  have h6 := h5.trans t1
  clear h5 t1
  go_wp2_with fail
  refine (P4.out _ (HT.out.keep h6)).mono ?_
  rintro _ w7 ⟨rfl, t1⟩
  have h7 := h6.trans t1
  clear h6 t1
  go_wp2_with fail
  refine (P5.out _ (HT.out.keep h7)).mono ?_
  rintro _ w8 ⟨rfl, t1⟩
  have h8 := h7.trans t1
  clear h7 t1
  go_wp2_with fail
  refine (P6.out _ (HT.out.keep h8)).mono ?_
  rintro _ w9 ⟨rfl, t1⟩
  have h9 := h8.trans t1
  clear h8 t1
  go_wp2_with fail
  refine (P7.out _ (HT.out.keep h9)).mono ?_
  rintro _ w10 ⟨rfl, t1⟩
  have h10 := h9.trans t1
  clear h9 t1
  go_wp2_with fail
  refine (P4.out _ (HT.out.keep h10)).mono ?_
  rintro _ w11 ⟨rfl, t1⟩
  have h11 := h10.trans t1
  clear h10 t1
  go_wp2_with fail
  rw [show ((LB : Int) + 1) = ((LB + 1 : Nat) : Int) from by omega]
  refine (help_place n (LB + 1) (by omega) (by omega) hn _).mono ?_
  rintro _ w111 ⟨⟨p, hp, rfl⟩, rfl⟩
  obtain ⟨q1, q2, q3, q4⟩ := adds_place (a := a) (b := b) HAB.out.1 HAB.out.2 (p := p) (by rw [HLB.out]; omega)
  have hs3 := HS.out p
  rw [HLA.out] at q2 q3 q4
  rw [HSA.out] at q2 q3
  generalize sum16 (rb.take p) = SP at *
  have R1 : Hid (∀ w, TabsU w → Calls Tryd.prog 23 #[.string b, .int .i64 (p : Int)] w fun e w' => e = .returned (.tuple #[.int .i64 (SP : Int), .int .i64 0]) ∧ Touch (fun _ => False) w w') := fun w h => by
    have := utf_place b (by omega) (p : Int) w h
    rwa [q1] at this
  have R2 : Hid (∀ w, TabsU w → Calls Tryd.prog 23 #[.string (a ++ b), .int .i64 ((LA : Int) + (p : Int))] w fun e w' => e = .returned (.tuple #[.int .i64 ((SA : Int) + (SP : Int)), .int .i64 0]) ∧ Touch (fun _ => False) w w') := fun w h => by
    have := utf_place (a ++ b) (by omega) ((LA : Int) + (p : Int)) w h
    rwa [q2] at this
  have R3 : Hid (∀ w, TabsU w → Calls Tryd.prog 21 #[.string (a ++ b), .int .i64 ((SA : Int) + (SP : Int))] w fun e w' => e = .returned (.tuple #[.int .i64 ((LA : Int) + (p : Int)), .int .i64 0]) ∧ Touch (fun _ => False) w w') := fun w h => by
    have := utf_place16 (a ++ b) (by omega) ((SA : Int) + (SP : Int)) w h
    rwa [q3] at this
  have R4 : Hid (∀ w, TabsU w → Calls Tryd.prog 18 #[.string (a ++ b), .int .i64 (LA : Int), .int .i64 ((LA : Int) + (p : Int))] w fun e w' => e = .returned (.string (cutOf b.data.toList 0 (p : Int))) ∧ Touch (fun _ => False) w w') := fun w h => by
    have := utf_cut (a ++ b) (by omega) (LA : Int) ((LA : Int) + (p : Int)) w h
    rwa [q4] at this
  have R5 : Hid (∀ w, TabsU w → Calls Tryd.prog 18 #[.string b, .int .i64 0, .int .i64 (p : Int)] w fun e w' => e = .returned (.string (cutOf b.data.toList 0 (p : Int))) ∧ Touch (fun _ => False) w w') := fun w h => utf_cut b (by omega) 0 (p : Int) w h
  generalize cutOf b.data.toList 0 (p : Int) = X at *
  clear q1 q2 q3 q4 HAB HS HLA HLB HSA
  have hp2 : p ≤ 3000 := by omega

  go_wp2_with fail
  refine (R1.out _ (HT.out.keep h11)).mono ?_
  rintro _ w12 ⟨rfl, t1⟩
  have h12 := h11.trans t1
  clear h11 t1
  go_wp2_with fail
  refine (P3.out _ (HT.out.keep h12)).mono ?_
  rintro _ w13 ⟨rfl, t1⟩
  have h13 := h12.trans t1
  clear h12 t1
  go_wp2_with fail
  refine (R2.out _ (HT.out.keep h13)).mono ?_
  rintro _ w14 ⟨rfl, t1⟩
  have h14 := h13.trans t1
  clear h13 t1
  go_wp2_with fail
  refine (R3.out _ (HT.out.keep h14)).mono ?_
  rintro _ w15 ⟨rfl, t1⟩
  have h15 := h14.trans t1
  clear h14 t1
  go_wp2_with fail
  refine (P6.out _ (HT.out.keep h15)).mono ?_
  rintro _ w16 ⟨rfl, t1⟩
  have h16 := h15.trans t1
  clear h15 t1
  go_wp2_with fail
  refine (P3.out _ (HT.out.keep h16)).mono ?_
  rintro _ w17 ⟨rfl, t1⟩
  have h17 := h16.trans t1
  clear h16 t1
  go_wp2_with fail
  refine (P3.out _ (HT.out.keep h17)).mono ?_
  rintro _ w18 ⟨rfl, t1⟩
  have h18 := h17.trans t1
  clear h17 t1
  go_wp2_with fail
  refine (P3.out _ (HT.out.keep h18)).mono ?_
  rintro _ w19 ⟨rfl, t1⟩
  have h19 := h18.trans t1
  clear h18 t1
  go_wp2_with fail
  refine (R4.out _ (HT.out.keep h19)).mono ?_
  rintro _ w20 ⟨rfl, t1⟩
  have h20 := h19.trans t1
  clear h19 t1
  go_wp2_with fail
  refine (R5.out _ (HT.out.keep h20)).mono ?_
  rintro _ w21 ⟨rfl, t1⟩
  have h21 := h20.trans t1
  clear h20 t1
  go_wp2_with fail
  go_ret
  exact ⟨rfl, h21⟩
end Go.Proofs.YteemjbnhiiadaaaDoor
