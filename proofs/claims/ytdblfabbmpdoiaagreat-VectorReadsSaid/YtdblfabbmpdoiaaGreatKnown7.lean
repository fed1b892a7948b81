/- The chapter's examples, as the statements ask them. -/
import Derived.Test.YtdblfabbmpdoiaaGreatVUse
import Derived.Test.YtdblfabbmpdoiaaGreatVHas
import Derived.Test.YtdblfabbmpdoiaaGreatIdUse
namespace Go.Proofs.YtdblfabbmpdoiaaGreat
open Go.RowKit Go.Maps
set_option linter.unusedVariables false
set_option linter.unusedSimpArgs false
set_option maxRecDepth 100000

theorem SlC.lit1 (W : World) (r : Ck) : SlC (W.alloc (ckO r)) (.slice (some ⟨W.heap.size, 0, none⟩) 1 1) [r] :=
  ⟨_, 1, rfl, (fun h => by cases h), by simp, by omega, LiesC.new W r⟩
theorem SlC.lit2 (W : World) (r s : Ck) : SlC (W.alloc (.cells #[.int .u64 r.c, .int .u64 r.k, .int .u64 s.c, .int .u64 s.k] 50)) (.slice (some ⟨W.heap.size, 0, none⟩) 2 2) [r, s] := by
  refine ⟨_, 2, rfl, (fun h => by cases h), by simp, by omega, .inr ⟨_, _, rfl, fun j u hu => ?_⟩⟩
  rw [Nat.zero_add, cell_of_block (heap_alloc_new W _)]
  have e : cellsC [r, s] = [.int .u64 r.c, .int .u64 r.k, .int .u64 s.c, .int .u64 s.k] := rfl
  rw [e] at hu
  simpa using hu
theorem SlR.pair (W : World) (r s : Rg) : SlR (W.alloc (.cells #[.int .u64 r.c, .int .u64 r.f, .int .u64 r.t, .int .u64 s.c, .int .u64 s.f, .int .u64 s.t] 55)) (.slice (some ⟨W.heap.size, 0, none⟩) 2 2) [r, s] := by
  refine ⟨_, 2, rfl, (fun h => by cases h), by simp, by omega, .inr ⟨_, _, rfl, fun j u hu => ?_⟩⟩
  rw [Nat.zero_add, cell_of_block (heap_alloc_new W _)]
  have e : cellsR [r, s] = [.int .u64 r.c, .int .u64 r.f, .int .u64 r.t, .int .u64 s.c, .int .u64 s.f, .int .u64 s.t] := rfl
  rw [e] at hu
  simpa using hu
theorem ex_a (c : Int) : atC [⟨1, 3⟩] c = if c = 1 then 3 else 0 := by
  by_cases h : c = 1
  · subst h; rw [if_pos rfl]; decide
  · rw [if_neg h]; exact atC_none fun x hx => by rw [List.mem_singleton] at hx; subst hx; simp only; omega
theorem ex_b (c : Int) : atC [⟨2, 1⟩, ⟨1, 5⟩] c = if c = 1 then 5 else if c = 2 then 1 else 0 := by
  by_cases h : c = 1
  · subst h; rw [if_pos rfl]; decide
  · rw [if_neg h]
    by_cases h2 : c = 2
    · subst h2; rw [if_pos rfl]; decide
    · rw [if_neg h2]
      exact atC_none fun x hx => by
        simp only [List.mem_cons, List.not_mem_nil, or_false] at hx
        rcases hx with rfl | rfl <;> simp only <;> omega
theorem ex_form (x : Ck) (y : Ck) (h : x.ok = true) (k : y.ok = true) (l : x.c < y.c) : VForm [x, y] (atC [x, y]) := by
  refine ⟨?_, ?_, fun c => rfl⟩
  · simp [l]
  · intro z hz
    simp only [List.mem_cons, List.not_mem_nil, or_false] at hz
    rcases hz with rfl | rfl <;> assumption
theorem ex_j : VForm [⟨1, 5⟩, ⟨2, 1⟩] (fun c => max (atC [⟨1, 3⟩] c) (atC [⟨2, 1⟩, ⟨1, 5⟩] c)) :=
  (ex_form ⟨1, 5⟩ ⟨2, 1⟩ (by decide) (by decide) (by decide)).of fun c => by
    rw [ex_a, ← atC_perm (List.Perm.swap (⟨1, 5⟩ : Ck) ⟨2, 1⟩ []), ex_b]
    split <;> (try split) <;> decide
theorem ex_m : VForm [⟨1, 3⟩] (fun c => min (atC [⟨1, 3⟩] c) (atC [⟨2, 1⟩, ⟨1, 5⟩] c)) := by
  refine ⟨by simp, fun z hz => by rw [List.mem_singleton] at hz; subst hz; decide, fun c => ?_⟩
  rw [ex_a, ex_b]
  split <;> (try split) <;> decide
theorem ex_x : Form (tns [⟨1, 4, 6⟩, ⟨2, 1, 2⟩]) (lack (atC [⟨1, 3⟩]) (atC [⟨2, 1⟩, ⟨1, 5⟩])) := by
  refine ⟨⟨by decide, by decide, show Tn.ok _ = true by decide⟩, fun c k => ?_⟩
  show val [⟨1, 4, 6, 1⟩, ⟨2, 1, 2, 1⟩] c k = lack _ _ c k
  have v1 : ∀ (x : Tn) (l : List Tn) (c k : Int), val (x :: l) c k = if x.c = c ∧ x.f ≤ k ∧ k < x.t then x.n else val l c k := fun x l c k => by
    rw [val]
    by_cases g : x.has c k = true
    · rw [if_pos g, if_pos (Tn.has_iff.1 g)]
    · rw [if_neg g, if_neg (fun e => g (Tn.has_iff.2 e))]
  unfold lack
  rw [v1, v1, val, ex_a, ex_b]
  simp only
  by_cases h : c = 1
  · subst h
    simp only [if_true, true_and]
    rw [if_neg (c := (2 : Int) = 1 ∧ _) (by omega)]
    split <;> split <;> omega
  · by_cases h2 : c = 2
    · subst h2
      simp only [if_true, true_and]
      rw [if_neg (c := (1 : Int) = 2 ∧ _) (by omega), if_neg (c := (2 : Int) = 1) (by omega), if_neg (c := (2 : Int) = 1) (by omega)]
      split <;> split <;> omega
    · rw [if_neg (by omega), if_neg (by omega), if_neg h, if_neg h, if_neg h2, if_neg (by omega)]
set_option maxHeartbeats 8000000 in
theorem vknown_any (w : World) : Calls Tryz.prog 5 #[] w fun e w' => e = .returned (.bool true) ∧ Touch (fun _ => False) w w' := by
  have la := (SlC.lit1 w ⟨1, 3⟩).touch ((Touch.refl _ _).alloc (.cells #[.int .u64 2, .int .u64 1, .int .u64 1, .int .u64 5] 50))
  have lb := SlC.lit2 (w.alloc (ckO ⟨1, 3⟩)) ⟨2, 1⟩ ⟨1, 5⟩
  rw [World.size_alloc] at lb
  have C1 := vmissing_any [⟨1, 3⟩] [⟨2, 1⟩, ⟨1, 5⟩] _ _ _ la lb (by simp) (by simp)
  have HA : Hid (SlC ((w.alloc (ckO ⟨1, 3⟩)).alloc (.cells #[.int .u64 2, .int .u64 1, .int .u64 1, .int .u64 5] 50)) (.slice (some ⟨w.heap.size, 0, none⟩) 1 1) [⟨1, 3⟩]) := la
  have HB : Hid (SlC ((w.alloc (ckO ⟨1, 3⟩)).alloc (.cells #[.int .u64 2, .int .u64 1, .int .u64 1, .int .u64 5] 50)) (.slice (some ⟨w.heap.size + 1, 0, none⟩) 2 2) [⟨2, 1⟩, ⟨1, 5⟩]) := lb
  have HT : Hid (Touch (fun _ => False) w ((w.alloc (ckO ⟨1, 3⟩)).alloc (.cells #[.int .u64 2, .int .u64 1, .int .u64 1, .int .u64 5] 50))) := ((Touch.refl _ w).alloc _).alloc _
  clear la lb
  go_enter Tryz.func5, Tryz.ntmps5
  go_wp2_with fail
  refine C1.mono ?_
  rintro e w1 ⟨v1, o1, rfl, n1, f1, _⟩
  obtain rfl : o1 = [⟨1, 4, 6⟩, ⟨2, 1, 2⟩] := tns_inj (f1.eq ex_x fun _ _ => rfl)
  have HX : Hid (SlR w1 v1 [⟨1, 4, 6⟩, ⟨2, 1, 2⟩]) := n1.sl
  replace HA : Hid (SlC w1 (.slice (some ⟨w.heap.size, 0, none⟩) 1 1) [⟨1, 3⟩]) := HA.out.touch n1.touch
  replace HB : Hid (SlC w1 (.slice (some ⟨w.heap.size + 1, 0, none⟩) 2 2) [⟨2, 1⟩, ⟨1, 5⟩]) := HB.out.touch n1.touch
  replace HT : Hid (Touch (fun _ => False) w w1) := HT.out.trans n1.touch
  obtain ⟨ao1, cap1, rfl, _⟩ := n1.shape
  simp only [List.length_cons, List.length_nil, Nat.zero_add, Nat.reduceAdd] at HX ⊢
  clear n1 f1 C1
  have tx := (Touch.refl (fun _ => False) w1).alloc (.cells #[.int .u64 1, .int .u64 4, .int .u64 6, .int .u64 2, .int .u64 1, .int .u64 2] 55)
  have C3 := rangesEq_any [⟨1, 4, 6⟩, ⟨2, 1, 2⟩] _ _ _ (HX.out.touch tx) (SlR.pair w1 ⟨1, 4, 6⟩ ⟨2, 1, 2⟩) (by simp)
  go_wp2_with fail
  refine C3.mono ?_
  rintro e w2 ⟨rfl, t3⟩
  replace t3 := tx.trans t3
  replace HA : Hid (SlC w2 (.slice (some ⟨w.heap.size, 0, none⟩) 1 1) [⟨1, 3⟩]) := HA.out.touch t3
  replace HB : Hid (SlC w2 (.slice (some ⟨w.heap.size + 1, 0, none⟩) 2 2) [⟨2, 1⟩, ⟨1, 5⟩]) := HB.out.touch t3
  replace HT : Hid (Touch (fun _ => False) w w2) := HT.out.trans t3
  clear t3 C3 tx HX
  have C4 := vat_any [⟨2, 1⟩, ⟨1, 5⟩] _ 1 _ HB.out (by simp)
  rw [show atC [⟨2, 1⟩, ⟨1, 5⟩] 1 = 5 from by decide] at C4
  go_wp2_with fail
  refine C4.mono ?_
  rintro e w3 ⟨rfl, t3⟩
  replace HA : Hid (SlC w3 (.slice (some ⟨w.heap.size, 0, none⟩) 1 1) [⟨1, 3⟩]) := HA.out.touch t3
  replace HB : Hid (SlC w3 (.slice (some ⟨w.heap.size + 1, 0, none⟩) 2 2) [⟨2, 1⟩, ⟨1, 5⟩]) := HB.out.touch t3
  replace HT : Hid (Touch (fun _ => False) w w3) := HT.out.trans t3
  clear t3 C4
  have C5 := vwithin_any [⟨1, 3⟩] [⟨2, 1⟩, ⟨1, 5⟩] _ _ _ HA.out HB.out (by simp) (by simp)
  rw [show inC [⟨1, 3⟩] [⟨2, 1⟩, ⟨1, 5⟩] = true from by decide] at C5
  go_wp2_with fail
  refine C5.mono ?_
  rintro e w4 ⟨rfl, t3⟩
  replace HA : Hid (SlC w4 (.slice (some ⟨w.heap.size, 0, none⟩) 1 1) [⟨1, 3⟩]) := HA.out.touch t3
  replace HB : Hid (SlC w4 (.slice (some ⟨w.heap.size + 1, 0, none⟩) 2 2) [⟨2, 1⟩, ⟨1, 5⟩]) := HB.out.touch t3
  replace HT : Hid (Touch (fun _ => False) w w4) := HT.out.trans t3
  clear t3 C5
  have C6 := vwithin_any [⟨2, 1⟩, ⟨1, 5⟩] [⟨1, 3⟩] _ _ _ HB.out HA.out (by simp) (by simp)
  rw [show inC [⟨2, 1⟩, ⟨1, 5⟩] [⟨1, 3⟩] = false from by decide] at C6
  go_wp2_with fail
  refine C6.mono ?_
  rintro e w5 ⟨rfl, t3⟩
  replace HA : Hid (SlC w5 (.slice (some ⟨w.heap.size, 0, none⟩) 1 1) [⟨1, 3⟩]) := HA.out.touch t3
  replace HB : Hid (SlC w5 (.slice (some ⟨w.heap.size + 1, 0, none⟩) 2 2) [⟨2, 1⟩, ⟨1, 5⟩]) := HB.out.touch t3
  replace HT : Hid (Touch (fun _ => False) w w5) := HT.out.trans t3
  clear t3 C6
  have C7 := vhas_any [⟨2, 1⟩, ⟨1, 5⟩] _ 2 1 _ HB.out (by simp)
  rw [show hasC [⟨2, 1⟩, ⟨1, 5⟩] 2 1 = true from by decide] at C7
  go_wp2_with fail
  refine C7.mono ?_
  rintro e w6 ⟨rfl, t3⟩
  replace HA : Hid (SlC w6 (.slice (some ⟨w.heap.size, 0, none⟩) 1 1) [⟨1, 3⟩]) := HA.out.touch t3
  replace HB : Hid (SlC w6 (.slice (some ⟨w.heap.size + 1, 0, none⟩) 2 2) [⟨2, 1⟩, ⟨1, 5⟩]) := HB.out.touch t3
  replace HT : Hid (Touch (fun _ => False) w w6) := HT.out.trans t3
  clear t3 C7
  have C8 := vhas_any [⟨2, 1⟩, ⟨1, 5⟩] _ 2 2 _ HB.out (by simp)
  rw [show hasC [⟨2, 1⟩, ⟨1, 5⟩] 2 2 = false from by decide] at C8
  go_wp2_with fail
  refine C8.mono ?_
  rintro e w7 ⟨rfl, t3⟩
  replace HA : Hid (SlC w7 (.slice (some ⟨w.heap.size, 0, none⟩) 1 1) [⟨1, 3⟩]) := HA.out.touch t3
  replace HB : Hid (SlC w7 (.slice (some ⟨w.heap.size + 1, 0, none⟩) 2 2) [⟨2, 1⟩, ⟨1, 5⟩]) := HB.out.touch t3
  replace HT : Hid (Touch (fun _ => False) w w7) := HT.out.trans t3
  clear t3 C8
  have C9 := vjoin_any [⟨1, 3⟩] [⟨2, 1⟩, ⟨1, 5⟩] _ _ _ HA.out HB.out (by simp) (by simp)
  go_wp2_with fail
  refine C9.mono ?_
  rintro e w8 ⟨v8, o8, rfl, n8, f8, _⟩
  obtain rfl : o8 = [⟨1, 5⟩, ⟨2, 1⟩] := f8.eq ex_j fun _ => rfl
  have t3 := n8.touch
  replace HA : Hid (SlC w8 (.slice (some ⟨w.heap.size, 0, none⟩) 1 1) [⟨1, 3⟩]) := HA.out.touch t3
  replace HB : Hid (SlC w8 (.slice (some ⟨w.heap.size + 1, 0, none⟩) 2 2) [⟨2, 1⟩, ⟨1, 5⟩]) := HB.out.touch t3
  replace HT : Hid (Touch (fun _ => False) w w8) := HT.out.trans t3
  obtain ⟨ao8, cap8, rfl, _⟩ := n8.shape
  simp only [List.length_cons, List.length_nil, Nat.zero_add, Nat.reduceAdd]
  clear n8 f8 C9 t3
  have C10 := vmeet_any [⟨1, 3⟩] [⟨2, 1⟩, ⟨1, 5⟩] _ _ _ HA.out HB.out (by simp) (by simp)
  go_wp2_with fail
  refine C10.mono ?_
  rintro e w9 ⟨v9, o9, rfl, n9, f9, _⟩
  obtain rfl : o9 = [⟨1, 3⟩] := f9.eq ex_m fun _ => rfl
  have HQ : Hid (Touch (fun _ => False) w w9) := HT.out.trans n9.touch
  obtain ⟨ao9, cap9, rfl, _⟩ := n9.shape
  simp only [List.length_cons, List.length_nil, Nat.zero_add, Nat.reduceAdd]
  clear n9 f9 C10 HA HB HT
  go_wp2_with fail
  go_ret
  exact ⟨rfl, HQ.out⟩
end Go.Proofs.YtdblfabbmpdoiaaGreat
