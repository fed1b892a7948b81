/- The chapter's examples, as the statements ask them. -/
import Derived.Test.YtipncloegjcjfaaIdUse
import Derived.Test.YtipncloegjcjfaaIdHas
import Derived.Test.YtipncloegjcjfaaIdSets
namespace Go.Proofs.Ytipncloegjcjfaa
open Go.RowKit Go.Maps
set_option linter.unusedVariables false
set_option linter.unusedSimpArgs false
set_option maxRecDepth 100000

theorem SlR.lit1 (W : World) (r : Rg) : SlR (W.alloc (rgO r)) (.slice (some ⟨W.heap.size, 0, none⟩) 1 1) [r] :=
  ⟨_, 1, rfl, (fun h => by cases h), by simp, by omega, LiesR.new W r⟩
theorem SlR.lit2 (W : World) (r s : Rg) : SlR (W.alloc (.cells #[.int .u64 r.c, .int .u64 r.f, .int .u64 r.t, .int .u64 s.c, .int .u64 s.f, .int .u64 s.t] 48)) (.slice (some ⟨W.heap.size, 0, none⟩) 2 2) [r, s] := by
  refine ⟨_, 2, rfl, (fun h => by cases h), by simp, by omega, .inr ⟨_, _, rfl, fun j u hu => ?_⟩⟩
  rw [Nat.zero_add, cell_of_block (heap_alloc_new W _)]
  have e : cellsR [r, s] = [.int .u64 r.c, .int .u64 r.f, .int .u64 r.t, .int .u64 s.c, .int .u64 s.f, .int .u64 s.t] := rfl
  rw [e] at hu
  simpa using hu
theorem turnOf_ok {x : Tn} {l : List Tn} (h : x.ok = true) (c k : Int) : turnOf (x :: l) c k = if x.c = c ∧ x.f ≤ k ∧ k < x.t then max x.n (turnOf l c k) else turnOf l c k := by
  rw [turnOf, h, Bool.true_and]
  by_cases g : x.has c k = true
  · rw [if_pos g, if_pos (Tn.has_iff.1 g)]
  · rw [if_neg g, if_neg (fun e => g (Tn.has_iff.2 e))]
theorem val_cons (x : Tn) (l : List Tn) (c k : Int) : val (x :: l) c k = if x.c = c ∧ x.f ≤ k ∧ k < x.t then x.n else val l c k := by
  rw [val]
  by_cases g : x.has c k = true
  · rw [if_pos g, if_pos (Tn.has_iff.1 g)]
  · rw [if_neg g, if_neg (fun e => g (Tn.has_iff.2 e))]
theorem known_clean : Form (tns [⟨1, 3, 7⟩]) (turnOf (tns [⟨1, 5, 7⟩, ⟨1, 3, 5⟩])) := by
  refine ⟨show Tn.ok _ = true by decide, fun c k => ?_⟩
  show val [⟨1, 3, 7, 1⟩] c k = turnOf [⟨1, 5, 7, 1⟩, ⟨1, 3, 5, 1⟩] c k
  rw [val_cons, turnOf_ok (by decide), turnOf_ok (by decide), val, turnOf]
  simp only
  split <;> split <;> (try split) <;> omega
theorem known_minus : Form (tns [⟨1, 1, 3⟩, ⟨1, 4, 9⟩]) (fun c k => ifAb (turnOf (tns [⟨1, 1, 9⟩]) c k) (turnOf (tns [⟨1, 3, 4⟩]) c k)) := by
  refine ⟨⟨by decide, by decide, show Tn.ok _ = true by decide⟩, fun c k => ?_⟩
  show val [⟨1, 1, 3, 1⟩, ⟨1, 4, 9, 1⟩] c k = ifAb (turnOf [⟨1, 1, 9, 1⟩] c k) (turnOf [⟨1, 3, 4, 1⟩] c k)
  rw [val_cons, val_cons, turnOf_ok (by decide), turnOf_ok (by decide), val, turnOf]
  simp only [ifAb]
  by_cases h : (1 : Int) = c
  · subst h
    simp only [true_and]
    by_cases p1 : (1 ≤ k ∧ k < 3) <;> by_cases p2 : (4 ≤ k ∧ k < 9) <;> by_cases p3 : (1 ≤ k ∧ k < 9) <;> by_cases p4 : (3 ≤ k ∧ k < 4) <;> simp only [p1, p2, p3, p4, and_self, if_true, if_false] <;> first | omega | decide
  · simp [h]
theorem Form.same {a b : List Rg} {F : Int → Int → Int} (ha : Form (tns a) F) (hb : Form (tns b) F) : a = b := tns_inj (ha.eq hb fun _ _ => rfl)
set_option maxHeartbeats 4000000 in
theorem known_any (w : World) : Calls Try.prog 9 #[] w fun e w' => e = .returned (.bool true) ∧ Touch (fun _ => False) w w' := by
  have C1 := cleanI_any [⟨1, 5, 7⟩, ⟨1, 3, 5⟩] _ _ (SlR.lit2 w ⟨1, 5, 7⟩ ⟨1, 3, 5⟩) (by simp)
  go_enter Try.func9, Try.ntmps9
  go_wp2_with fail
  refine C1.mono ?_
  rintro e w1 ⟨v1, o1, rfl, n1, f1, _⟩
  obtain rfl : o1 = [⟨1, 3, 7⟩] := f1.same known_clean
  have H1 : Hid (SlR w1 v1 [⟨1, 3, 7⟩] ∧ Touch (fun _ => False) w w1) := ⟨n1.sl, ((Touch.refl _ w).alloc _).trans n1.touch⟩
  obtain ⟨ao1, cap1, rfl, _⟩ := n1.shape
  simp only [List.length_cons, List.length_nil, Nat.zero_add] at H1 ⊢
  clear n1 f1 C1
  have l2 := (SlR.lit1 w1 ⟨1, 1, 9⟩).touch ((Touch.refl _ _).alloc (rgO ⟨1, 3, 4⟩))
  have l3 := SlR.lit1 (w1.alloc (rgO ⟨1, 1, 9⟩)) ⟨1, 3, 4⟩
  rw [World.size_alloc] at l3
  have C2 := minusI_any [⟨1, 1, 9⟩] [⟨1, 3, 4⟩] _ _ _ l2 l3 (by simp) (by simp)
  clear l2 l3
  go_wp2_with fail
  refine C2.mono ?_
  rintro e w2 ⟨v2, o2, rfl, n2, f2, _⟩
  obtain rfl : o2 = [⟨1, 1, 3⟩, ⟨1, 4, 9⟩] := f2.same known_minus
  have H2 : Hid (SlR w2 v2 [⟨1, 1, 3⟩, ⟨1, 4, 9⟩] ∧ Touch (fun _ => False) w1 w2) := ⟨n2.sl, (((Touch.refl _ w1).alloc _).alloc _).trans n2.touch⟩
  obtain ⟨ao2, cap2, rfl, _⟩ := n2.shape
  simp only [List.length_cons, List.length_nil, Nat.zero_add, Nat.reduceAdd] at H2 ⊢
  clear n2 f2 C2
  have C3 := rangesEq_any [⟨1, 3, 7⟩] _ _ _ ((H1.out.1.touch H2.out.2).touch ((Touch.refl _ _).alloc _)) (SlR.lit1 w2 ⟨1, 3, 7⟩) (by simp)
  go_wp2_with fail
  refine C3.mono ?_
  rintro e w3 ⟨rfl, t3⟩
  have T3 : Hid (Touch (fun _ => False) w2 w3) := ((Touch.refl _ w2).alloc _).trans t3
  clear t3 C3
  have C4 := rangesEq_any [⟨1, 1, 3⟩, ⟨1, 4, 9⟩] _ _ _ ((H2.out.1.touch T3.out).touch ((Touch.refl _ _).alloc _)) (SlR.lit2 w3 ⟨1, 1, 3⟩ ⟨1, 4, 9⟩) (by simp)
  go_wp2_with fail
  refine C4.mono ?_
  rintro e w4 ⟨rfl, t4⟩
  have T4 : Hid (Touch (fun _ => False) w2 w4) := T3.out.trans (((Touch.refl _ w3).alloc _).trans t4)
  clear t4 C4
  have C5 := count_any [⟨1, 1, 3⟩, ⟨1, 4, 9⟩] _ _ (H2.out.1.touch T4.out) (by simp)
  go_wp2_with fail
  refine C5.mono ?_
  rintro e w5 ⟨o5, rfl, f5, _, t5⟩
  obtain rfl : o5 = [⟨1, 1, 3⟩, ⟨1, 4, 9⟩] := f5.same ⟨known_minus.1, fun c k => (known_minus.1.turnOf c k).symm⟩
  have T5 : Hid (Touch (fun _ => False) w2 w5) := T4.out.trans t5
  rw [show cntR [⟨1, 1, 3⟩, ⟨1, 4, 9⟩] = 7 from by decide]
  clear t5 f5 C5
  have C6 := has_any [⟨1, 1, 3⟩, ⟨1, 4, 9⟩] _ 1 8 _ (H2.out.1.touch T5.out) (by simp)
  rw [show hasB [⟨1, 1, 3⟩, ⟨1, 4, 9⟩] 1 8 = true from by decide] at C6
  go_wp2_with fail
  refine C6.mono ?_
  rintro e w6 ⟨rfl, t6⟩
  have T6 : Hid (Touch (fun _ => False) w2 w6) := T5.out.trans t6
  clear t6 C6
  have C7 := has_any [⟨1, 1, 3⟩, ⟨1, 4, 9⟩] _ 1 3 _ (H2.out.1.touch T6.out) (by simp)
  rw [show hasB [⟨1, 1, 3⟩, ⟨1, 4, 9⟩] 1 3 = false from by decide] at C7
  go_wp2_with fail
  refine C7.mono ?_
  rintro e w7 ⟨rfl, t7⟩
  have T7 : Hid (Touch (fun _ => False) w2 w7) := T6.out.trans t7
  clear t7 C7
  have C8 := right_any 1 9007199254740991 w7
  rw [show (numOk 1 && numOk 9007199254740991) = true from by decide] at C8
  go_wp2_with fail
  refine C8.mono ?_
  rintro e w8 ⟨rfl, h8⟩
  have T8 : Hid (Touch (fun _ => False) w2 w8) := by rw [h8]; exact T7.out.alloc _
  clear h8 C8
  have C9 := right_any 1 9007199254740992 w8
  rw [show (numOk 1 && numOk 9007199254740992) = false from by decide] at C9
  go_wp2_with fail
  refine C9.mono ?_
  rintro e w9 ⟨rfl, h9⟩
  have T9 : Hid (Touch (fun _ => False) w w9) := by rw [h9]; exact ((H1.out.2.trans H2.out.2).trans T8.out).alloc _
  clear h9 C9
  go_wp2_with fail
  go_ret
  exact ⟨rfl, T9.out⟩
end Go.Proofs.Ytipncloegjcjfaa
