/- quirelaw9.SeqCopies: two sequences and a copy, side by side; what the copy becomes. -/
import Derived.Test.YtnbphdmpbjahhaaPart20
namespace Go.Proofs.Ytnbphdmpbjahhaa
open Go.RowKit
set_option linter.unusedVariables false
set_option linter.unusedSimpArgs false

/-- Two sequences, and units. -/
def Two (w W : World) (pa pb : Nat) (Sa Sb : SS) (v : Value) (us : List Un) : Prop := ∃ A B, Sq1 w W pa A Sa ∧ Sq1 w W pb B Sb ∧ ApartB A B ∧ NewV w W v us
theorem Two.touch {w W W' : World} {pa pb : Nat} {Sa Sb : SS} {v : Value} {us : List Un} (h : Two w W pa pb Sa Sb v us) (t : Touch (fun _ => False) W W') : Two w W' pa pb Sa Sb v us := by
  obtain ⟨A, B, a, b, c, d⟩ := h
  exact ⟨A, B, a.touch t, b.touch t, c, d.on t⟩
theorem Two.swap {w W : World} {pa pb : Nat} {Sa Sb : SS} {v : Value} {us : List Un} (h : Two w W pa pb Sa Sb v us) : Two w W pb pa Sb Sa v us := by
  obtain ⟨A, B, a, b, c, d⟩ := h
  exact ⟨B, A, b, a, c.symm, d⟩
theorem Two.touch0 {w W : World} {pa pb : Nat} {Sa Sb : SS} {v : Value} {us : List Un} (h : Two w W pa pb Sa Sb v us) : Touch (fun _ => False) w W := by
  obtain ⟨A, B, a, b, c, d⟩ := h
  exact d.touch
theorem Two.ins {w W : World} {pa pb : Nat} {Sa Sb : SS} {v : Value} {us : List Un} (h : Two w W pa pb Sa Sb v us) (u : Un) (hu : u.ok) {n : Nat} (hz : Size Sa n) (hn : n ≤ 1000000) :
    Calls Try.prog 14 #[.pointer (some ⟨pa, 0, none⟩), .agg #[.int .u64 u.c, .int .u64 u.k, .int .u64 u.lc, .int .u64 u.lk, .int .u64 u.rc, .int .u64 u.rk]] W fun e w' => e = .returned (.bool (Sa.may u 1)) ∧ Two w w' pa pb (Sa.run u 1) Sb v us := by
  obtain ⟨A, B, a, b, c, d⟩ := h
  refine (a.ins u hu hz hn).mono ?_
  rintro e w' ⟨rfl, A', h1, h2, t⟩
  exact ⟨rfl, A', B, h1, b.other t c.symm, (b.apart c.symm h2).symm, d.onB a t⟩
/-- Three sequences. -/
def Tri (w W : World) (pa pb pc : Nat) (Sa Sb Sc : SS) : Prop := Touch (fun _ => False) w W ∧ ∃ A B C, Sq1 w W pa A Sa ∧ Sq1 w W pb B Sb ∧ Sq1 w W pc C Sc ∧ ApartB A C ∧ ApartB B C
theorem Tri.touch {w W W' : World} {pa pb pc : Nat} {Sa Sb Sc : SS} (h : Tri w W pa pb pc Sa Sb Sc) (t : Touch (fun _ => False) W W') : Tri w W' pa pb pc Sa Sb Sc := by
  obtain ⟨t0, A, B, C, a, b, c, d, e⟩ := h
  exact ⟨t0.trans t, A, B, C, a.touch t, b.touch t, c.touch t, d, e⟩
theorem Tri.ins {w W : World} {pa pb pc : Nat} {Sa Sb Sc : SS} (h : Tri w W pa pb pc Sa Sb Sc) (u : Un) (hu : u.ok) {n : Nat} (hz : Size Sc n) (hn : n ≤ 1000000) :
    Calls Try.prog 14 #[.pointer (some ⟨pc, 0, none⟩), .agg #[.int .u64 u.c, .int .u64 u.k, .int .u64 u.lc, .int .u64 u.lk, .int .u64 u.rc, .int .u64 u.rk]] W fun e w' => e = .returned (.bool (Sc.may u 1)) ∧ Tri w w' pa pb pc Sa Sb (Sc.run u 1) := by
  obtain ⟨t0, A, B, C, a, b, c, d, e⟩ := h
  refine (c.ins u hu hz hn).mono ?_
  rintro e' w' ⟨rfl, C', h1, h2, t⟩
  exact ⟨rfl, c.touch0 t0 t, A, B, C', a.other t d, b.other t e, h1, a.apart d h2, b.apart e h2⟩
theorem Two.copy {w W : World} {pa pb : Nat} {Sa Sb : SS} {v : Value} {us : List Un} (h : Two w W pa pb Sa Sb v us) {n : Nat} (hz : Size Sa n) (hn : n ≤ 1000000) :
    Calls Try.prog 13 #[.pointer (some ⟨pa, 0, none⟩)] W fun e w' => ∃ pc, e = .returned (.pointer (some ⟨pc, 0, none⟩)) ∧ Tri w w' pa pb pc Sa Sb Sa := by
  obtain ⟨A, B, a, b, c, d⟩ := h
  refine (a.copy hz hn d.touch).mono ?_
  rintro e w' ⟨q, C, rfl, h1, h2, t⟩
  refine ⟨q, rfl, d.touch.trans t, A, B, C, a.touch t, b.touch t, h1, fun k hk hc => ?_, fun k hk hc => ?_⟩
  · have := a.mem.lt hk
    have := h2 k hc
    omega
  · have := b.mem.lt hk
    have := h2 k hc
    omega
/-- What the copy of A is behind i insertions. -/
structure CpI (A C : SS) (n i : Nat) : Prop where
  inv : Inv C
  size : Size C (n + i)
  ids : ∀ v ∈ C.units, v.c ≤ 4 ∨ (v.c = 50 ∧ v.k ≤ (i : Int))
  has : ∀ v ∈ A.units, v ∈ C.units
  len : C.units.length = A.units.length + i
theorem CpI.zero {A : SS} {n : Nat} (h : Inv A) (hz : Size A n) (hi : ∀ v ∈ A.units, v.c ≤ 4) : CpI A A n 0 := ⟨h, hz, fun v hv => .inl (hi v hv), fun v hv => hv, rfl⟩
def cpU (C : SS) (i : Nat) (m : Int) : Un := ⟨50, (i : Int) + 1, (C.at_ m).1.c, (C.at_ m).1.k, 0, 0⟩
theorem at_zero {C : SS} (h : Inv C) (m : Int) : C.at_ m = (.zero, false) ∨ ∃ v ∈ C.units, C.at_ m = (v, true) := by
  by_cases hm : m < 0 ∨ (C.units.length : Int) ≤ m
  · exact .inl (h.at_none m hm)
  · obtain ⟨k, rfl⟩ := Int.eq_ofNat_of_zero_le (show 0 ≤ m by omega)
    exact .inr ⟨_, List.getElem_mem (show k < C.units.length by omega), h.at_units k (by omega)⟩
theorem CpI.uok {A C : SS} {n i : Nat} (h : CpI A C n i) (m : Int) (hi : i ≤ 1000) : (cpU C i m).ok := by
  have key : 0 ≤ (C.at_ m).1.c ∧ 0 ≤ (C.at_ m).1.k ∧ (C.at_ m).1.k < 18446744073709551616 := by
    rcases at_zero h.inv m with e | ⟨v, hv, e⟩
    · rw [e]; exact ⟨Int.le_refl _, Int.le_refl _, by decide⟩
    · rw [e]
      have := h.inv.units_ok hv
      exact ⟨by show 0 ≤ v.c; omega, by show 0 ≤ v.k; omega, by show v.k < _; omega⟩
  exact ⟨by show (0 : Int) ≤ 50; omega, ⟨by show 0 ≤ (i : Int) + 1; omega, by show (i : Int) + 1 < _; omega⟩, key.1, ⟨key.2.1, key.2.2⟩, Int.le_refl _, ⟨Int.le_refl _, by show (0 : Int) < _; omega⟩⟩
theorem CpI.step {A C : SS} {n i : Nat} (h : CpI A C n i) (m : Int) (hn : n ≤ 1000) (hi : i ≤ 1000) : C.may (cpU C i m) 1 = true ∧ CpI A (C.run (cpU C i m) 1) n (i + 1) := by
  have hu := h.uok m hi
  have hm : C.may (cpU C i m) 1 = true := by
    refine h.inv.may_new (by show numOk 50 = true; decide) ?_ ?_ ⟨rfl, rfl⟩ ?_
    · show numOk ((i : Int) + 1) = true
      simp [numOk]; omega
    · intro v hv
      rintro ⟨e1, e2⟩
      have e1' : v.c = 50 := e1
      have e2' : v.k = (i : Int) + 1 := e2
      rcases h.ids v hv with e | e <;> omega
    · rcases at_zero h.inv m with e | ⟨v, hv, e⟩
      · left
        show (C.at_ m).1.c = 0 ∧ (C.at_ m).1.k = 0
        rw [e]; exact ⟨rfl, rfl⟩
      · right
        refine ⟨v, hv, ?_⟩
        show v.c = (C.at_ m).1.c ∧ v.k = (C.at_ m).1.k
        rw [e]; exact ⟨rfl, rfl⟩
  obtain ⟨a, b⟩ := h.inv.run1 hu h.size (by omega)
  obtain ⟨p, hp, _, e⟩ := h.inv.run_units hu hm (h.size.room (by omega) 1 (by omega))
  refine ⟨hm, a, by rw [Nat.add_assoc] at b; exact b, fun v hv => ?_, fun v hv => ?_, ?_⟩
  · rw [e] at hv
    have key : v ∈ C.units → v.c ≤ 4 ∨ (v.c = 50 ∧ v.k ≤ ((i + 1 : Nat) : Int)) := fun hv => by
      rcases h.ids v hv with e | e
      · exact .inl e
      · exact .inr ⟨e.1, by omega⟩
    rcases List.mem_append.1 hv with hv | hv
    · exact key (List.mem_of_mem_take hv)
    · rcases List.mem_cons.1 hv with rfl | hv
      · exact .inr ⟨rfl, by show (i : Int) + 1 ≤ _; omega⟩
      · exact key (List.mem_of_mem_drop hv)
  · have hc := h.has v hv
    rw [← List.take_append_drop p C.units] at hc
    rw [e]
    rcases List.mem_append.1 hc with hc | hc
    · exact List.mem_append_left _ hc
    · exact List.mem_append_right _ (List.mem_cons_of_mem _ hc)
  · rw [e]
    have h1 : (C.units.take p).length = p := by rw [List.length_take]; omega
    have h2 : (C.units.drop p).length = C.units.length - p := List.length_drop
    have h3 := h.len
    rw [List.length_append, List.length_cons, h1, h2]
    omega
theorem CpI.find {A C : SS} {n i : Nat} (h : CpI A C n i) {v : Un} (hv : v ∈ A.units) : 0 ≤ C.find v.c v.k := by
  obtain ⟨m, hm, rfl⟩ := List.mem_iff_getElem.1 (h.has v hv)
  rw [h.inv.find_units m hm]; omega
end Go.Proofs.Ytnbphdmpbjahhaa
