/- quirelaw11.MarksGrow, MarksEnds: units between units, as mathematics (no Go in it). -/
import Derived.Test.YtnilikomoapcaaaGreatPart17
import Derived.Test.YtnilikomoapcaaaGreatPart30
import Derived.Test.YtnilikomoapcaaaGreatPart26
import Derived.Deep.RegionHeld
import Derived.Test.YtnilikomoapcaaaGreatPart19
import Derived.Test.YtnilikomoapcaaaGreatPart27
import Derived.Deep.CutBlock
import Derived.Deep.LoopGhost
namespace Go.Proofs.YtnilikomoapcaaaGreat
set_option linter.unusedVariables false
set_option linter.unusedSimpArgs false

theorem get_ins_lt {α : Type} (l : List α) (u : α) (p m : Nat) (hp : p ≤ l.length) (h : m < p) : (l.take p ++ [u] ++ l.drop p)[m]? = l[m]? := by
  rw [List.append_assoc, List.getElem?_append_left (by rw [List.length_take]; omega), List.getElem?_take, if_pos h]
theorem get_ins_at {α : Type} (l : List α) (u : α) (p : Nat) (hp : p ≤ l.length) : (l.take p ++ [u] ++ l.drop p)[p]? = some u := by
  rw [List.append_assoc, List.getElem?_append_right (by rw [List.length_take]; omega), List.length_take]
  have : p - min p l.length = 0 := by omega
  rw [this]
  rfl
theorem get_ins_ge {α : Type} (l : List α) (u : α) (p m : Nat) (hp : p ≤ l.length) (h : p ≤ m) : (l.take p ++ [u] ++ l.drop p)[m + 1]? = l[m]? := by
  rw [List.getElem?_append_right (by simp; omega), List.getElem?_drop]
  congr 1
  simp
  omega
theorem len_ins {α : Type} (l : List α) (u : α) (p : Nat) (hp : p ≤ l.length) : (l.take p ++ [u] ++ l.drop p).length = l.length + 1 := by
  simp
  omega
/-- Where the m-th of the first units stands behind i insertions. -/
def posG (i m : Nat) : Nat := if m < i then 2 * m + 1 else m + i
structure GI (S : SS) (n i : Nat) : Prop where
  inv : Inv S
  size : Size S (n + i)
  len : S.units.length = n + i
  at_ : ∀ m, m < n → ∃ v, S.units[posG i m]? = some v ∧ v.c = 1 ∧ v.k = (m : Int) + 1
  all : ∀ v ∈ S.units, v.c = 1 ∨ (v.c = 2 ∧ v.k ≤ (i : Int))
def grU (n i : Nat) : Un := ⟨2, (i : Int) + 1, if 0 < i then 1 else 0, if 0 < i then (i : Int) else 0, if i < n then 1 else 0, if i < n then (i : Int) + 1 else 0⟩
theorem GI.at' {S : SS} {n i m : Nat} (h : GI S n i) (hm : m < n) : ∃ hp : posG i m < S.units.length, S.units[posG i m].c = 1 ∧ S.units[posG i m].k = (m : Int) + 1 := by
  obtain ⟨v, e, h1, h2⟩ := h.at_ m hm
  obtain ⟨hp, e2⟩ := List.getElem?_eq_some_iff.1 e
  rw [← e2] at h1 h2
  exact ⟨hp, h1, h2⟩
theorem GI.unit {S : SS} {n i : Nat} (h : GI S n i) (hi : i ≤ n) : btU S 2 ((i : Int) + 1) (2 * i) = grU n i := by
  have hl : S.at_ (((2 * i : Nat) : Int) - 1) = if h0 : 0 < i then (S.units[2 * i - 1]'(by have := h.len; omega), true) else (.zero, false) := by
    split
    · rename_i h0
      rw [show ((2 * i : Nat) : Int) - 1 = ((2 * i - 1 : Nat) : Int) by omega]
      exact h.inv.at_units _ _
    · exact h.inv.at_none _ (by omega)
  have hr : S.at_ ((2 * i : Nat) : Int) = if h0 : i < n then (S.units[2 * i]'(by have := h.len; omega), true) else (.zero, false) := by
    split
    · exact h.inv.at_units _ _
    · exact h.inv.at_none _ (by have := h.len; omega)
  unfold btU grU
  rw [hl, hr]
  have h1 : ∀ h0 : 0 < i, (S.units[2 * i - 1]'(by have := h.len; omega)).c = 1 ∧ (S.units[2 * i - 1]'(by have := h.len; omega)).k = (i : Int) := fun h0 => by
    obtain ⟨hp, e1, e2⟩ := h.at' (m := i - 1) (by omega)
    have e : posG i (i - 1) = 2 * i - 1 := by unfold posG; rw [if_pos (by omega)]; omega
    simp only [e] at e1 e2
    exact ⟨e1, by rw [e2]; omega⟩
  have h2 : ∀ h0 : i < n, (S.units[2 * i]'(by have := h.len; omega)).c = 1 ∧ (S.units[2 * i]'(by have := h.len; omega)).k = (i : Int) + 1 := fun h0 => by
    obtain ⟨hp, e1, e2⟩ := h.at' (m := i) h0
    have e : posG i i = 2 * i := by unfold posG; rw [if_neg (by omega)]; omega
    simp only [e] at e1 e2
    exact ⟨e1, e2⟩
  by_cases a : 0 < i <;> by_cases b : i < n
  · simp only [a, b, dif_pos, if_pos, (h1 a).1, (h1 a).2, (h2 b).1, (h2 b).2]
  · simp only [a, b, dif_pos, if_pos, (h1 a).1, (h1 a).2, dif_neg, if_neg, not_false_eq_true]
  · simp only [a, b, dif_pos, if_pos, (h2 b).1, (h2 b).2, dif_neg, if_neg, not_false_eq_true]
  · simp only [a, b, dif_neg, if_neg, not_false_eq_true]
theorem GI.step {S : SS} {n i : Nat} (h : GI S n i) (hi : i ≤ n) (hn : n ≤ 100) : (grU n i).ok ∧ S.may (grU n i) 1 = true ∧ GI (S.run (grU n i) 1) n (i + 1) := by
  have hlen := h.len
  have hb := btU_laid h.inv h.size (by omega) 2 ((i : Int) + 1) (by omega) (by omega) (2 * i) 1 (by omega) (by omega) (fun v hv q => by
    rcases h.all v hv with e | e <;> omega)
  have hok := btU_ok h.inv 2 ((i : Int) + 1) (by omega) (by omega) (2 * i)
  rw [h.unit hi] at hb hok
  obtain ⟨b1, b2, b3⟩ := hb
  have e1 : runUns (grU n i) 1 = [grU n i] := rfl
  rw [e1] at b3
  have c1 : ((1 : Nat) : Int) = 1 := rfl
  rw [c1] at b1 b2 b3
  refine ⟨hok, b1, ⟨b2, by have := (h.inv.run1 hok h.size (by omega)).2; rwa [Nat.add_assoc] at this, by rw [b3, len_ins _ _ _ (by omega)]; omega, fun m hm => ?_, fun v hv => ?_⟩⟩
  · obtain ⟨v, e, q1, q2⟩ := h.at_ m hm
    refine ⟨v, ?_, q1, q2⟩
    rw [b3, ← e]
    by_cases hmi : m < i
    · have ep : posG (i + 1) m = posG i m := by unfold posG; rw [if_pos hmi, if_pos (by omega)]
      rw [ep]
      exact get_ins_lt _ _ _ _ (by omega) (by unfold posG; rw [if_pos hmi]; omega)
    · have ep : posG (i + 1) m = posG i m + 1 := by
        unfold posG
        rw [if_neg hmi]
        split <;> omega
      rw [ep]
      exact get_ins_ge _ _ _ _ (by omega) (by unfold posG; rw [if_neg hmi]; omega)
  · rw [b3] at hv
    rcases List.mem_append.1 hv with hv | hv
    · rcases List.mem_append.1 hv with hv | hv
      · rcases h.all v (List.mem_of_mem_take hv) with e | e
        · exact .inl e
        · exact .inr ⟨e.1, by have := e.2; omega⟩
      · simp only [List.mem_singleton] at hv
        subst hv
        exact .inr ⟨rfl, by show (i : Int) + 1 ≤ ((i + 1 : Nat) : Int); omega⟩
    · rcases h.all v (List.mem_of_mem_drop hv) with e | e
      · exact .inl e
      · exact .inr ⟨e.1, by have := e.2; omega⟩
theorem new_units : SS.new.units = [] := by decide
theorem GI.first {n : Nat} (h0 : 1 ≤ n) (hn : n ≤ 100) : (⟨1, 1, 0, 0, 0, 0⟩ : Un).ok ∧ SS.new.may ⟨1, 1, 0, 0, 0, 0⟩ n = true ∧ GI (SS.new.run ⟨1, 1, 0, 0, 0, 0⟩ n) n 0 := by
  have eu : btU .new 1 1 0 = ⟨1, 1, 0, 0, 0, 0⟩ := by
    unfold btU
    rw [Inv.new.at_none _ (by omega), Inv.new.at_none _ (by rw [new_units]; simp)]
  have hb := btU_laid Inv.new Size.new (by omega) 1 1 (by omega) (by omega) 0 n (by omega) (by omega) (fun v hv => by rw [new_units] at hv; cases hv)
  have hok := btU_ok Inv.new 1 1 (by omega) (by omega) 0
  rw [eu] at hb hok
  obtain ⟨b1, b2, b3⟩ := hb
  have b4 : (SS.new.run ⟨1, 1, 0, 0, 0, 0⟩ n).units = runUns ⟨1, 1, 0, 0, 0, 0⟩ n := by rw [b3, new_units]; simp
  have hz := (Inv.new.runN hok (n : Int) (by omega) Size.new (by omega)).2
  refine ⟨hok, b1, ⟨b2, by simpa using hz, by rw [b4, runUns_len]; rfl, fun m hm => ?_, fun v hv => ?_⟩⟩
  · refine ⟨runUn ⟨1, 1, 0, 0, 0, 0⟩ m, ?_, (runUn_c _ m).1, by rw [(runUn_c _ m).2.1]; show (1 : Int) + (m : Int) = (m : Int) + 1; omega⟩
    rw [b4]
    have e : posG 0 m = m := by unfold posG; rw [if_neg (by omega)]; rfl
    rw [e, List.getElem?_eq_getElem (by rw [runUns_len]; exact hm), runUns_get]
  · rw [b4] at hv
    unfold runUns at hv
    obtain ⟨j, _, rfl⟩ := List.mem_map.1 hv
    exact .inl (runUn_c _ j).1
/-- What the mark is over, in the end. -/
theorem GI.over {S : SS} {n f t : Nat} (h : GI S n (n + 1)) (hft : f ≤ t) (htn : t < n) (hn : n ≤ 100) (o : O) (e1 : o.fc = 1) (e2 : o.fk = (f : Int) + 1) (e3 : o.fa = false) (e4 : o.tc = 1) (e5 : o.tk = (t : Int) + 1) (e6 : o.ta = true) : overM S o = (2 * (f : Int) + 1, 2 * (t : Int) + 2) := by
  have hfind : ∀ m, m < n → S.find 1 ((m : Int) + 1) = 2 * (m : Int) + 1 := fun m hm => by
    obtain ⟨hp, q1, q2⟩ := h.at' hm
    have := h.inv.find_units _ hp
    rw [q1, q2] at this
    rw [this]
    unfold posG
    rw [if_pos (by omega)]
    omega
  have g1 : gapM S o.fc o.fk o.fa = (2 * (f : Int) + 1, true) := by
    unfold gapM
    rw [e1, e2, e3, hfind f (by omega), if_neg (by omega), if_neg (by omega)]
    rfl
  have g2 : gapM S o.tc o.tk o.ta = (2 * (t : Int) + 2, true) := by
    unfold gapM
    rw [e4, e5, e6, hfind t htn, if_neg (by omega), if_neg (by omega)]
    simp
    omega
  unfold overM
  rw [g1, g2, if_pos]
  exact ⟨rfl, rfl, by show 2 * (f : Int) + 1 < 2 * (t : Int) + 2; omega⟩
end Go.Proofs.YtnilikomoapcaaaGreat

/- The contracts of value.Cmp and value.Same. -/
namespace Go.Proofs.YtnilikomoapcaaaGreat
open Go.RowKit
set_option linter.unusedVariables false
set_option maxRecDepth 100000

theorem refInts_shift (a b : Int) : refInts (a + 9223372036854775808) (b + 9223372036854775808) = refInts a b := by
  unfold refInts
  by_cases h1 : a < b
  · rw [if_pos (by omega), if_pos h1]
  · rw [if_neg (by omega), if_neg h1]
    by_cases h2 : b < a
    · rw [if_pos (by omega), if_pos h2]
    · rw [if_neg (by omega), if_neg h2]
theorem refCmp_or (a b : V) : firstNZ [refInts a.k b.k, refInts a.n b.n, refInts (refOrder a.f + 9223372036854775808) (refOrder b.f + 9223372036854775808), refText a.s b.s] = refCmp a b := by
  rw [refInts_shift]
  unfold refCmp
  simp only [firstNZ]
  by_cases h1 : refInts a.k b.k ≠ 0
  · rw [if_pos h1, if_pos h1]
  rw [if_neg h1, if_neg h1]
  by_cases h2 : refInts a.n b.n ≠ 0
  · rw [if_pos h2, if_pos h2]
  rw [if_neg h2, if_neg h2]
  by_cases h3 : refInts (refOrder a.f) (refOrder b.f) ≠ 0
  · rw [if_pos h3, if_pos h3]
  rw [if_neg h3, if_neg h3]
  by_cases h4 : refText a.s b.s = 0
  · rw [if_neg (by simpa using h4), h4]
  · rw [if_pos h4]

theorem cells4 (W : World) (t : TypeId) (c1 c2 c3 c4 : Int) (B : Nat) (hB : B = W.heap.size) : ∀ j (hj : j < [c1, c2, c3, c4].length), ((W.alloc (.cells #[.int .i64 c1, .int .i64 c2, .int .i64 c3, .int .i64 c4] t)).drew).cell? ⟨B, j, none⟩ = some (.int .i64 [c1, c2, c3, c4][j]) := by
  intro j hj
  subst hB
  show (W.alloc (.cells #[.int .i64 c1, .int .i64 c2, .int .i64 c3, .int .i64 c4] t)).cell? ⟨W.heap.size, j, none⟩ = _
  rw [cell_of_block (heap_alloc_new _ _)]
  match j, hj with
  | 0, _ => rfl
  | 1, _ => rfl
  | 2, _ => rfl
  | 3, _ => rfl

set_option maxHeartbeats 1000000 in
theorem v_cmp (a b : V) (hfa : a.f < 18446744073709551616) (hfb : b.f < 18446744073709551616) (w : World) : Calls Tryz.prog 77 #[a.val, b.val] w fun e w' => e = .returned (.int .i64 (refCmp a b)) ∧ Touch (fun _ => False) w w' := by
  have HC : Hid (firstNZ [refInts a.k b.k, refInts a.n b.n, refInts (refOrder a.f + 9223372036854775808) (refOrder b.f + 9223372036854775808), refText a.s b.s] = refCmp a b) := refCmp_or a b
  generalize refCmp a b = C at *
  obtain ⟨k, n, f, s⟩ := a
  obtain ⟨k2, n2, f2, s2⟩ := b
  simp only [V.val] at *
  have HO : Hid (∀ w, Calls Tryz.prog 93 #[.float .f64 f] w fun e w' => e = .returned (.int .u64 (refOrder f + 9223372036854775808)) ∧ w' = w) := v_rank f hfa
  have HO2 : Hid (∀ w, Calls Tryz.prog 93 #[.float .f64 f2] w fun e w' => e = .returned (.int .u64 (refOrder f2 + 9223372036854775808)) ∧ w' = w) := v_rank f2 hfb
  have hi := Tryz.underlying127
  go_enter Tryz.func77, Tryz.ntmps77
  go_wp2_with fail
  go_region_held (fun w' => w'.cell? ⟨w.heap.size, 0, none⟩ = some (.int .i64 k) ∧ w'.cell? ⟨w.heap.size, 1, none⟩ = some (.int .i64 n) ∧ w'.cell? ⟨w.heap.size, 2, none⟩ = some (.float .f64 f) ∧ w'.cell? ⟨w.heap.size, 3, none⟩ = some (.string s) ∧ w'.cell? ⟨w.heap.size + 1, 0, none⟩ = some (.int .i64 k2) ∧ w'.cell? ⟨w.heap.size + 1, 1, none⟩ = some (.int .i64 n2) ∧ w'.cell? ⟨w.heap.size + 1, 2, none⟩ = some (.float .f64 f2) ∧ w'.cell? ⟨w.heap.size + 1, 3, none⟩ = some (.string s2)) (go_keep)
    (first
      | (go_at_call 90; refine (cmp_int _ _ _).mono ?_; rintro e w' ⟨rfl, rfl⟩)
      | (go_at_call 91; refine (cmp_int64 _ _ _).mono ?_; rintro e w' ⟨rfl, rfl⟩)
      | (go_at_call 92; refine (cmp_uint64 _ _ _).mono ?_; rintro e w' ⟨rfl, rfl⟩)
      | (go_at_call 94; refine (cmp_string _ _ _).mono ?_; rintro e w' ⟨rfl, rfl⟩)
      | (go_at_call_of 93 (Value.float FloatKind.f64 f); refine (HO.out _).mono ?_; rintro e w' ⟨rfl, rfl⟩)
      | (go_at_call_of 93 (Value.float FloatKind.f64 f2); refine (HO2.out _).mono ?_; rintro e w' ⟨rfl, rfl⟩)
      | (go_at_call 89; refine (cmp_or [refInts k k2, refInts n n2, refInts (refOrder f + 9223372036854775808) (refOrder f2 + 9223372036854775808), refText s s2] 4 rfl _ _ (cells4 _ _ _ _ _ _ _ (by simp)) (by simp)).mono ?_; rintro e w' ⟨rfl, rfl⟩))
  go_wp2_with fail
  go_ret
  exact ⟨congrArg (fun x : Int => Ending.returned (.int .i64 x)) HC.out, ((((Touch.refl _ _).alloc _).alloc _).alloc _).drew⟩

set_option maxHeartbeats 400000 in
theorem v_same (a b : V) (hfa : a.f < 18446744073709551616) (hfb : b.f < 18446744073709551616) (w : World) : Calls Tryz.prog 46 #[a.val, b.val] w fun e w' => e = .returned (.bool (refCmp a b == 0)) ∧ Touch (fun _ => False) w w' := by
  have HK : Hid (∀ w, Calls Tryz.prog 77 #[a.val, b.val] w fun e w' => e = .returned (.int .i64 (refCmp a b)) ∧ Touch (fun _ => False) w w') := v_cmp a b hfa hfb
  generalize refCmp a b = C at *
  obtain ⟨k, n, f, s⟩ := a
  obtain ⟨k2, n2, f2, s2⟩ := b
  simp only [V.val] at *
  go_enter Tryz.func46, Tryz.ntmps46
  go_wp2_with fail
  refine (HK.out _).mono ?_
  rintro e w1 ⟨rfl, hT⟩
  have HT : Hid (Touch (fun _ => False) w w1) := Touch.trans (((Touch.refl _ _).alloc _).alloc _) hT
  clear hT
  go_wp2_with fail
  go_ret
  exact ⟨rfl, HT.out⟩
end Go.Proofs.YtnilikomoapcaaaGreat

/- Package marks: Same. -/
namespace Go.Proofs.YtnilikomoapcaaaGreat
open Go.RowKit
set_option linter.unusedVariables false
set_option linter.unusedSimpArgs false
set_option maxRecDepth 100000

abbrev Mk.v (a : Mk) : V := ⟨a.vk, a.vn, a.vf, a.vs⟩
abbrev Mk.val (a : Mk) : Value := .agg #[.string a.ky, .int .i64 a.vk, .int .i64 a.vn, .float .f64 a.vf, .string a.vs]
theorem hkY {w W : World} (t : Touch (fun _ => False) w W) {b : Nat} {o : Obj} (h : w.heap[b]? = some o) : W.heap[b]? = some o := (t.block _ (lt_of_heap h) id).trans h
/-- Two marks are alike. -/
def sameK (a b : Mk) : Bool := (a.ky.toList == b.ky.toList) && (refCmp a.v b.v == 0)
def sameL (a b : List Mk) : Bool := decide (a.length = b.length) && (a.zip b).all fun p => sameK p.1 p.2
theorem myO_cells {W : World} {m : Nat} {a : Mk} (h : W.heap[m]? = some (myO a)) : W.cell? ⟨m, 0, none⟩ = some (.string a.ky) ∧ W.cell? ⟨m, 1, none⟩ = some (.int .i64 a.vk) ∧ W.cell? ⟨m, 2, none⟩ = some (.int .i64 a.vn) ∧ W.cell? ⟨m, 3, none⟩ = some (.float .f64 a.vf) ∧ W.cell? ⟨m, 4, none⟩ = some (.string a.vs) :=
  ⟨by rw [cell_of_block h]; rfl, by rw [cell_of_block h]; rfl, by rw [cell_of_block h]; rfl, by rw [cell_of_block h]; rfl, by rw [cell_of_block h]; rfl⟩
set_option maxHeartbeats 4000000 in
theorem same1_any (a b : Mk) (ha : a.vf < 18446744073709551616) (hb : b.vf < 18446744073709551616) (w : World) :
    Calls Tryz.prog 45 #[a.val, b.val] w fun e w' => e = .returned (.bool (sameK a b)) ∧ Touch (fun _ => False) w w' := by
  obtain ⟨E, hE⟩ : ∃ E, Hid (E = (w.alloc (myO a)).alloc (myO b)) := ⟨_, Eq.refl _⟩
  have HTE : Hid (Touch (fun _ => False) w E) := by rw [hE.out]; exact ((Touch.refl _ _).alloc _).alloc _
  obtain ⟨a0, a1, a2, a3, a4⟩ := myO_cells (show E.heap[w.heap.size]? = some (myO a) by rw [hE.out]; exact hkY ((Touch.refl _ _).alloc _) (heap_alloc_new _ _))
  obtain ⟨b0, b1, b2, b3, b4⟩ := myO_cells (show E.heap[w.heap.size + 1]? = some (myO b) by rw [hE.out]; have := heap_alloc_new (w.alloc (myO a)) (myO b); rwa [show (w.alloc (myO a)).heap.size = w.heap.size + 1 from Array.size_push _] at this)
  have HS : Hid (Calls Tryz.prog 46 #[.agg #[.int .i64 a.vk, .int .i64 a.vn, .float .f64 a.vf, .string a.vs], .agg #[.int .i64 b.vk, .int .i64 b.vn, .float .f64 b.vf, .string b.vs]] E fun e w' => e = .returned (.bool (refCmp a.v b.v == 0)) ∧ Touch (fun _ => False) E w') := v_same a.v b.v ha hb E
  have HK : Hid (sameK a b = ((a.ky.toList == b.ky.toList) && (refCmp a.v b.v == 0))) := Eq.refl _
  rw [HK.out]
  clear HK ha hb
  generalize (refCmp a.v b.v == 0) = r at *
  obtain ⟨ak, avk, avn, avf, avs⟩ := a
  obtain ⟨bk, bvk, bvn, bvf, bvs⟩ := b
  simp only at a0 a1 a2 a3 a4 b0 b1 b2 b3 b4 HS ⊢
  go_enter Tryz.func45, Tryz.ntmps45
  go_upto_region 1 with fail
  rw [← hE.out]
  clear hE
  cases hk : (ak.toList == bk.toList) with
  | false =>
    go_wp2_with fail
    go_ret
    exact ⟨by rw [hk]; rfl, HTE.out⟩
  | true =>
    go_wp2_with fail
    refine HS.out.mono ?_
    rintro e W1 ⟨rfl, t1⟩
    have HT1 : Hid (Touch (fun _ => False) w W1) := HTE.out.trans t1
    clear t1 a0 a1 a2 a3 a4 b0 b1 b2 b3 b4
    go_wp2_with fail
    go_ret
    exact ⟨by rw [hk]; rfl, HT1.out⟩
theorem SlY.at {w : World} {ao : Option Addr} {n cap : Nat} {l : List Mk} (h : SlY w (.slice ao n cap) l) (hne : l ≠ []) : ∃ b o, ao = some ⟨b, o, none⟩ ∧ ∀ wr, Touch (fun _ => False) w wr → ∀ j (h : j < l.length), wr.cell? ⟨b, o + j * 5, none⟩ = some (.string l[j].ky) ∧ wr.cell? ⟨b, o + j * 5 + 1, none⟩ = some (.int .i64 l[j].vk) ∧ wr.cell? ⟨b, o + j * 5 + 2, none⟩ = some (.int .i64 l[j].vn) ∧ wr.cell? ⟨b, o + j * 5 + 3, none⟩ = some (.float .f64 l[j].vf) ∧ wr.cell? ⟨b, o + j * 5 + 4, none⟩ = some (.string l[j].vs) := by
  obtain ⟨b, o, c, e, -, -, -, -⟩ := h.row hne
  simp only [Value.slice.injEq] at e
  refine ⟨b, o, e.1, fun wr t j hj => ?_⟩
  obtain ⟨b', o', c', e', -, -, -, hx⟩ := (h.touch t).row hne
  simp only [Value.slice.injEq] at e'
  rw [e.1, Option.some.injEq, Addr.mk.injEq] at e'
  obtain ⟨⟨rfl, rfl, -⟩, -⟩ := e'
  exact hx j hj
theorem sameL_no {a b : List Mk} (h : a.length = b.length) {j : Nat} (ha : j < a.length) (hb : j < b.length) (hk : sameK a[j] b[j] = false) : sameL a b = false := by
  unfold sameL
  rw [Bool.and_eq_false_iff]
  refine .inr ?_
  rw [List.all_eq_false]
  refine ⟨(a[j], b[j]), ?_, by simp [hk]⟩
  rw [List.mem_iff_getElem]
  exact ⟨j, by rw [List.length_zip]; omega, by rw [List.getElem_zip]⟩
theorem sameL_all {a b : List Mk} (h : a.length = b.length) (hk : ∀ j (ha : j < a.length) (hb : j < b.length), sameK a[j] b[j] = true) : sameL a b = true := by
  unfold sameL
  rw [Bool.and_eq_true, decide_eq_true_eq]
  refine ⟨h, ?_⟩
  rw [List.all_eq_true]
  intro p hp
  obtain ⟨j, hj, rfl⟩ := List.mem_iff_getElem.1 hp
  rw [List.getElem_zip]
  rw [List.length_zip] at hj
  exact hk j (by omega) (by omega)
set_option maxHeartbeats 4000000 in
theorem equalF_any {w : World} {va vb : Value} {a b : List Mk} (hA : SlY w va a) (hB : SlY w vb b) (fa : ∀ m ∈ a, m.vf < 18446744073709551616) (fb : ∀ m ∈ b, m.vf < 18446744073709551616) :
    Calls Tryz.prog 44 #[va, vb, .func (.func 45) #[] #[]] w fun e w' => e = .returned (.bool (sameL a b)) ∧ Touch (fun _ => False) w w' := by
  obtain ⟨ao, ac, rfl, a1, a2, a3⟩ := hA.shape
  obtain ⟨bo, bc, rfl, b1, b2, b3⟩ := hB.shape
  have HA : Hid (a ≠ [] → _) := hA.at
  have HB : Hid (b ≠ [] → _) := hB.at
  have HF : Hid (∀ j (h1 : j < a.length) (h2 : j < b.length) W, Calls Tryz.prog 45 #[.agg #[.string a[j].ky, .int .i64 a[j].vk, .int .i64 a[j].vn, .float .f64 a[j].vf, .string a[j].vs], .agg #[.string b[j].ky, .int .i64 b[j].vk, .int .i64 b[j].vn, .float .f64 b[j].vf, .string b[j].vs]] W fun e w' => e = .returned (.bool (sameK a[j] b[j])) ∧ Touch (fun _ => False) W w') := fun j h1 h2 W => same1_any a[j] b[j] (fa _ (List.getElem_mem h1)) (fb _ (List.getElem_mem h2)) W
  clear hA hB fa fb
  by_cases hn : a.length = b.length
  · have HN : Hid (a.length = b.length) := hn
    have HNo : Hid (∀ j (h1 : j < a.length) (h2 : j < b.length), sameK a[j] b[j] = false → sameL a b = false) := fun j h1 h2 => sameL_no hn h1 h2
    have HAll : Hid ((∀ j (ha : j < a.length) (hb : j < b.length), sameK a[j] b[j] = true) → sameL a b = true) := sameL_all hn
    have hnb : ((a.length : Int) != (b.length : Int)) = false := by simp [hn]
    clear hn
    generalize sameL a b = R at *
    go_enter Tryz.func44, Tryz.ntmps44
    go_wp2_with fail
    clear hnb
    go_loopw [17] (fun i wr => ∃ j : Nat, i = .int .i64 (j : Int) ∧ j ≤ a.length ∧ Touch (fun _ => False) w wr ∧ ∀ k (h1 : k < a.length) (h2 : k < b.length), k < j → sameK a[k] b[k] = true) (fun i _ => a.length - (intOf i).toNat)
    case atStart => exact ⟨0, rfl, Nat.zero_le _, Touch.refl _ _, fun k _ _ h => absurd h (Nat.not_lt_zero _)⟩
    case round =>
      obtain ⟨j, rfl, hj, hT, hk⟩ := hrel
      by_cases hlt : j < a.length
      · have hltb : j < b.length := by rw [← HN.out]; exact hlt
        obtain ⟨ab, ax, rfl, hca⟩ := HA.out (by intro e; subst e; simp at hlt)
        obtain ⟨bb, bx, rfl, hcb⟩ := HB.out (by intro e; subst e; simp at hltb)
        obtain ⟨x0, x1, x2, x3, x4⟩ := hca wr hT j hlt
        obtain ⟨y0, y1, y2, y3, y4⟩ := hcb (wr.alloc (myO a[j])) (hT.alloc _) j hltb
        have HC := HF.out j hlt hltb
        have HK : Hid (∀ k (h1 : k < a.length) (h2 : k < b.length), k < j → sameK a[k] b[k] = true) := hk
        have HNj : Hid (sameK a[j] b[j] = false → R = false) := HNo.out j hlt hltb
        have HT : Hid (Touch (fun _ => False) w wr) := hT
        have HLt : Hid (j < a.length ∧ j < b.length) := ⟨hlt, hltb⟩
        have hi1 : (0 : Int) ≤ (j : Int) := by omega
        have hi2 : (j : Int) < (a.length : Int) := by omega
        have hi3 : (j : Int) < (b.length : Int) := by omega
        have hjm : (j : Int) + 1 < 9223372036854775808 := by omega
        have HU : Hid (∀ W, Touch (fun _ => False) ((wr.alloc (myO a[j])).alloc (myO b[j])) W → sameK a[j] b[j] = true → ∃ j' : Nat, (.int .i64 ((j : Int) + 1) : Value) = .int .i64 (j' : Int) ∧ j' ≤ a.length ∧ Touch (fun _ => False) w W ∧ ∀ k (h1 : k < a.length) (h2 : k < b.length), k < j' → sameK a[k] b[k] = true) := fun W t e => ⟨j + 1, by go_num, by omega, ((hT.alloc _).alloc _).trans t, fun k h1 h2 h3 => by
          rcases Nat.lt_or_eq_of_le (Nat.le_of_lt_succ h3) with h | h
          · exact hk k h1 h2 h
          · subst h; exact e⟩
        have HV : Hid (∀ W, Touch (fun _ => False) ((wr.alloc (myO a[j])).alloc (myO b[j])) W → Touch (fun _ => False) w W) := fun W t => ((hT.alloc _).alloc _).trans t
        have hm0 : Hid (a.length - (j + 1) < a.length - j) := by rw [Hid]; omega
        clear hk hT hca hcb HA HB HF HN HNo HAll a1 b1 HLt HK HT hj
        generalize a[j] = x at *
        generalize b[j] = y at *
        clear hlt hltb
        have bx := heap_alloc_new wr (myO x)
        have by_ := heap_alloc_new (wr.alloc (myO x)) (myO y)
        rw [show (wr.alloc (myO x)).heap.size = wr.heap.size + 1 from Array.size_push _] at by_
        obtain ⟨p0, p1, p2, p3, p4⟩ := myO_cells (hkY ((Touch.refl _ _).alloc (myO y)) bx)
        obtain ⟨r0, r1, r2, r3, r4⟩ := myO_cells by_
        clear bx by_
        have HC' : Hid (∀ W, Calls Tryz.prog 45 #[.agg #[.string x.ky, .int .i64 x.vk, .int .i64 x.vn, .float .f64 x.vf, .string x.vs], .agg #[.string y.ky, .int .i64 y.vk, .int .i64 y.vn, .float .f64 y.vf, .string y.vs]] W fun e w' => e = .returned (.bool (sameK x y)) ∧ Touch (fun _ => False) W w') := HC
        clear HC
        generalize sameK x y = sk at *
        obtain ⟨xk, xvk, xvn, xvf, xvs⟩ := x
        obtain ⟨yk, yvk, yvn, yvf, yvs⟩ := y
        simp only at x0 x1 x2 x3 x4 y0 y1 y2 y3 y4 p0 p1 p2 p3 p4 r0 r1 r2 r3 r4 HC'
        have hst := run_store_f64 Tryz.prog
        go_wp2_with fail
        clear hst
        refine (HC'.out _).mono ?_
        rintro e W2 ⟨rfl, t2⟩
        cases sk with
        | false =>
          have HR : Hid (R = false) := HNj.out rfl
          have HT2 : Hid (Touch (fun _ => False) w W2) := HV.out W2 t2
          clear t2 HV HU
          go_wp2_with fail
          go_ret
          exact ⟨by rw [HR.out]; rfl, HT2.out⟩
        | true =>
          have HU2 := HU.out W2 t2 rfl
          have HU3 : Hid _ := HU2
          clear t2 HV HU HU2
          go_wp2_with fail
          go_roundw
          case rel => exact HU3.out
          case measure => simp only [intOf]; have := hm0.out; omega
      · have hR : Hid (R = true) := HAll.out fun k h1 h2 => hk k h1 h2 (by omega)
        have hi2 : ¬ (j : Int) < (a.length : Int) := by omega
        have HT : Hid (Touch (fun _ => False) w wr) := hT
        clear hk hT hlt HA HB HF HN HNo HAll a1 b1 hj
        go_wp2_with fail
        go_ret
        exact ⟨by rw [hR.out]; rfl, HT.out⟩
  · have hnb : ((a.length : Int) != (b.length : Int)) = true := by simp; omega
    have HR : Hid (sameL a b = false) := by unfold sameL; rw [Hid, decide_eq_false hn]; rfl
    rw [HR.out]
    clear HR HA HB HF hn
    go_enter Tryz.func44, Tryz.ntmps44
    go_wp2_with fail
    go_ret
    exact ⟨rfl, Touch.refl _ _⟩
set_option maxHeartbeats 4000000 in
theorem msame_any {w : World} {va vb : Value} {a b : List Mk} (hA : SlY w va a) (hB : SlY w vb b) (fa : ∀ m ∈ a, m.vf < 18446744073709551616) (fb : ∀ m ∈ b, m.vf < 18446744073709551616) :
    Calls Tryz.prog 21 #[va, vb] w fun e w' => e = .returned (.bool (sameL a b)) ∧ Touch (fun _ => False) w w' := by
  have HE : Hid (Calls Tryz.prog 44 #[va, vb, .func (.func 45) #[] #[]] w fun e w' => e = .returned (.bool (sameL a b)) ∧ Touch (fun _ => False) w w') := equalF_any hA hB fa fb
  obtain ⟨ao, ac, rfl, -, -, -⟩ := hA.shape
  obtain ⟨bo, bc, rfl, -, -, -⟩ := hB.shape
  clear hA hB fa fb
  generalize sameL a b = R at *
  generalize a.length = na at *
  generalize b.length = nb at *
  go_enter Tryz.func21, Tryz.ntmps21
  go_wp2_with fail
  refine HE.out.mono ?_
  rintro e W1 ⟨rfl, t1⟩
  have HT : Hid (Touch (fun _ => False) w W1) := t1
  clear t1
  go_wp2_with fail
  go_ret
  exact ⟨rfl, HT.out⟩
end Go.Proofs.YtnilikomoapcaaaGreat
