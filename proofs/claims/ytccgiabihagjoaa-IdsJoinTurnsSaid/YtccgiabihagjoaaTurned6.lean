/- The chapter's example of turns, as the statements ask it. -/
import Derived.Test.YtccgiabihagjoaaTurnM
import Derived.Test.YtccgiabihagjoaaKnown6
import Derived.Test.YtccgiabihagjoaaIdHid
import Derived.Test.YtccgiabihagjoaaIdTof
import Derived.Test.YtccgiabihagjoaaRfT
namespace Go.Proofs.Ytccgiabihagjoaa
open Go.RowKit Go.Maps
set_option linter.unusedVariables false
set_option linter.unusedSimpArgs false
set_option maxRecDepth 100000

theorem SlT.lit2 (W : World) (r s : Tn) : SlT (W.alloc (.cells #[.int .u64 r.c, .int .u64 r.f, .int .u64 r.t, .int .u64 r.n, .int .u64 s.c, .int .u64 s.f, .int .u64 s.t, .int .u64 s.n] 39)) (.slice (some ⟨W.heap.size, 0, none⟩) 2 2) [r, s] := by
  refine ⟨_, 2, rfl, (fun h => by cases h), by simp, by omega, .inr ⟨_, _, rfl, fun j u hu => ?_⟩⟩
  rw [Nat.zero_add, cell_of_block (heap_alloc_new W _)]
  have e : cellsT [r, s] = [.int .u64 r.c, .int .u64 r.f, .int .u64 r.t, .int .u64 r.n, .int .u64 s.c, .int .u64 s.f, .int .u64 s.t, .int .u64 s.n] := rfl
  rw [e] at hu
  simpa using hu
set_option maxHeartbeats 1600000 in
theorem turned_any (w : World) : Calls Try.prog 5 #[] w fun e w' => e = .returned (.bool true) ∧ Touch (fun _ => False) w w' := by
  have C1 := turns_any exIn _ _ (SlT.lit2 w ⟨1, 1, 5, 1⟩ ⟨1, 3, 9, 2⟩) (.inl (by simp [exIn])) (by simp [exIn])
  go_enter Try.func5, Try.ntmps5
  go_wp2_with fail
  refine C1.mono ?_
  rintro e w1 ⟨v1, o1, rfl, s1, f1, _, t1⟩
  obtain rfl : o1 = exOut := f1.eq ex_form fun _ _ => rfl
  have H1 : Hid (SlT w1 v1 exOut ∧ Touch (fun _ => False) w w1) := ⟨s1, ((Touch.refl _ w).alloc _).trans t1⟩
  have C2 := hidden_any exOut v1 w1 s1 (.inl (by simp [exOut]))
  obtain ⟨ao1, cap1, rfl, _⟩ := s1.shape
  have hl : exOut.length = 2 := rfl
  rw [hl] at *
  clear s1 f1 t1 C1 hl
  go_wp2_with fail
  refine C2.mono ?_
  rintro e w2 ⟨v2, o2, rfl, n2, f2, _⟩
  obtain rfl : o2 = exHid := tns_inj (f2.eq ex_hid fun _ _ => rfl)
  have H2 : Hid (SlR w2 v2 exHid ∧ Touch (fun _ => False) w1 w2) := ⟨n2.sl, n2.touch⟩
  obtain ⟨ao2, cap2, rfl, _⟩ := n2.shape
  have hl : exHid.length = 1 := rfl
  rw [hl] at *
  clear n2 f2 C2 hl
  have C3 := turnsEq_any exOut _ _ _ ((H1.out.1.touch H2.out.2).touch ((Touch.refl _ _).alloc _)) (SlT.lit2 w2 ⟨1, 1, 3, 1⟩ ⟨1, 3, 9, 2⟩) (by simp [exOut])
  go_wp2_with fail
  refine C3.mono ?_
  rintro e w3 ⟨rfl, t3⟩
  have T3 : Hid (Touch (fun _ => False) w2 w3) := ((Touch.refl _ w2).alloc _).trans t3
  clear t3 C3
  have C4 := rangesEq_any exHid _ _ _ ((H2.out.1.touch T3.out).touch ((Touch.refl _ _).alloc _)) (SlR.lit1 w3 ⟨1, 1, 3⟩) (by simp [exHid])
  go_wp2_with fail
  refine C4.mono ?_
  rintro e w4 ⟨rfl, t4⟩
  have T4 : Hid (Touch (fun _ => False) w2 w4) := T3.out.trans (((Touch.refl _ w3).alloc _).trans t4)
  clear t4 C4
  have C5 := turnOfI_any exOut _ 1 4 _ ((H1.out.1.touch H2.out.2).touch T4.out) (by simp [exOut])
  rw [ex_four] at C5
  go_wp2_with fail
  refine C5.mono ?_
  rintro e w5 ⟨rfl, t5⟩
  have T5 : Hid (Touch (fun _ => False) w2 w5) := T4.out.trans t5
  clear t5 C5
  have C6 := turnOfI_any exOut _ 1 9 _ ((H1.out.1.touch H2.out.2).touch T5.out) (by simp [exOut])
  rw [ex_nine] at C6
  go_wp2_with fail
  refine C6.mono ?_
  rintro e w6 ⟨rfl, t6⟩
  have T6 : Hid (Touch (fun _ => False) w w6) := (H1.out.2.trans H2.out.2).trans (T5.out.trans t6)
  clear t6 C6
  go_wp2_with fail
  go_ret
  exact ⟨rfl, T6.out⟩
end Go.Proofs.Ytccgiabihagjoaa
