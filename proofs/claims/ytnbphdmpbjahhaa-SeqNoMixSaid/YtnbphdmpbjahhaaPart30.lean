/- Package seq: two writers at one place, from first to last (no Go in it). -/
import Derived.Test.YtnbphdmpbjahhaaNmM
import Derived.Test.YtnbphdmpbjahhaaNmW
namespace Go.Proofs.Ytnbphdmpbjahhaa
set_option linter.unusedVariables false
set_option linter.unusedSimpArgs false

/-- A writer's units, inserted one by one. -/
def nmSeq (S : SS) (back : Bool) (c lc lk rc rk : Int) : Nat → SS
  | 0 => S
  | i + 1 => (nmSeq S back c lc lk rc rk i).run (nmU back c lc lk rc rk i) 1
/-- What a writer's call wants. -/
def NmC (S : SS) (back : Bool) (c lc lk rc rk : Int) (n N : Nat) : Prop :=
  ∀ i, i < n → (nmU back c lc lk rc rk i).ok ∧ Size (nmSeq S back c lc lk rc rk i) (N + i) ∧ (nmSeq S back c lc lk rc rk i).may (nmU back c lc lk rc rk i) 1 = true ∧ nmSeq S back c lc lk rc rk (i + 1) = (nmSeq S back c lc lk rc rk i).run (nmU back c lc lk rc rk i) 1
section
variable {S : SS} {r0 : RS} {sp0 : Nat → Sp} {back : Bool} {lc lk rc rk : Int} {P Q : List Un} {N n m : Nat}
theorem nm_first {c : Int} (h : Corr S r0 sp0) (hz : Size S N) (hu : S.units = P ++ Q) (e : NmE r0 c lc lk rc rk) (hL : NbL P lc lk) (hR : NbR Q rc rk) (hN : N + n ≤ 500) : ∀ j, j ≤ n → ∃ r sp, NmS r0 (nmSeq S back c lc lk rc rk j) r sp back c lc lk rc rk P Q N j
  | 0, _ => ⟨r0, sp0, NmS.start h hz hu⟩
  | j + 1, hj => by
    obtain ⟨r, sp, q⟩ := nm_first h hz hu e hL hR hN j (by omega)
    exact (q.nextN h.ok e (by omega) (fun _ => hL) hR).2
theorem nm_firstC {c : Int} (h : Corr S r0 sp0) (hz : Size S N) (hu : S.units = P ++ Q) (e : NmE r0 c lc lk rc rk) (hL : NbL P lc lk) (hR : NbR Q rc rk) (hN : N + n ≤ 500) : NmC S back c lc lk rc rk n N := fun i hi => by
  obtain ⟨r, sp, q⟩ := nm_first (back := back) h hz hu e hL hR hN i (by omega)
  exact ⟨e.ok i (by omega), q.size, (q.nextN h.ok e (by omega) (fun _ => hL) hR).1, rfl⟩
theorem nm_second {r1 : RS} {T1 : SS} {sp1 : Nat → Sp} (h0 : ROk r0) (h1 : NmS r0 T1 r1 sp1 back 901 lc lk rc rk P Q N n) (hn : 1 ≤ n) (e : NmE r0 901 lc lk rc rk) (e2 : NmE r1 902 lc lk rc rk) (hL : NbL P lc lk) (hR : NbR Q rc rk) (hN : N + n + m ≤ 500) : ∀ j, j ≤ m → ∃ r sp, NmS r1 (nmSeq T1 back 902 lc lk rc rk j) r sp back 902 lc lk rc rk (P ++ nmL back 901 lc lk rc rk n) Q (N + n) j ∧ (j < m → (nmSeq T1 back 902 lc lk rc rk j).may (nmU back 902 lc lk rc rk j) 1 = true ∧ (nmSeq T1 back 902 lc lk rc rk j).placeFor (nmU back 902 lc lk rc rk j) = (nmP back (P ++ nmL back 901 lc lk rc rk n) j : Int))
  | 0, _ => by
    refine ⟨r1, sp1, NmS.start h1.corr h1.size h1.units, fun _ => ?_⟩
    obtain ⟨a, b⟩ := h1.second hn h0 e e2 (by omega) hL hR
    refine ⟨a, ?_⟩
    show T1.placeFor _ = _
    rw [b]
    unfold nmP
    split <;> simp
  | j + 1, hj => by
    obtain ⟨r, sp, q, hq⟩ := nm_second h0 h1 hn e e2 hL hR hN j (by omega)
    obtain ⟨m1, m2⟩ := hq (by omega)
    obtain ⟨r', sp', q'⟩ := q.next h1.corr.ok e2 (by omega) m1 m2
    refine ⟨r', sp', q', fun hlt => ?_⟩
    cases hb : back with
    | true =>
      subst hb
      obtain ⟨a, b⟩ := NmS.secondB h1 h0 e2 q' rfl (by omega) hL
      refine ⟨a, ?_⟩
      show ((nmSeq T1 true 902 lc lk rc rk j).run (nmU true 902 lc lk rc rk j) 1).placeFor _ = _
      rw [b]
      unfold nmP
      simp
    | false =>
      subst hb
      have hu := q'.units
      have hl : (P ++ nmL false 901 lc lk rc rk n ++ nmL false 902 lc lk rc rk (j + 1)).length = nmP false (P ++ nmL false 901 lc lk rc rk n) (j + 1) := by rw [List.length_append, nmL_len]; rfl
      have key := q'.corr.inv.near (u := nmU false 902 lc lk rc rk (j + 1)) hu (by
        have hU : nmU false 902 lc lk rc rk (j + 1) = ⟨902, ((j + 1 : Nat) : Int) + 1, 902, ((j + 1 : Nat) : Int), rc, rk⟩ := by unfold nmU; rw [if_neg (by omega)]; rfl
        rw [hU, nmL_fwd, ← List.append_assoc]
        refine ⟨fun q => by simp at q, fun v hv => ?_⟩
        rw [last_snoc] at hv
        have : nmU false 902 lc lk rc rk j = v := Option.some.inj hv
        subst this
        obtain ⟨g1, g2⟩ := nmU_id (back := false) (c := 902) (lc := lc) (lk := lk) (rc := rc) (rk := rk) j
        exact ⟨g1, by rw [g2]; show _ = ((j + 1 : Nat) : Int); omega⟩) (by
        unfold nmU
        split <;> exact hR)
      rw [hl] at key
      exact ⟨q'.may e2 (by omega) key.1, key.2⟩
/-- All that SeqNoMix asks for. -/
structure NmR (S : SS) (back : Bool) (lc lk rc rk : Int) (p n m N : Nat) : Prop where
  first : NmC S back 901 lc lk rc rk n N
  second : NmC (nmSeq S back 901 lc lk rc rk n) back 902 lc lk rc rk m (N + n)
  find1 : ∀ i, i < n → (nmSeq (nmSeq S back 901 lc lk rc rk n) back 902 lc lk rc rk m).find 901 ((nmI back n i : Nat) + 1) = ((p + i : Nat) : Int)
  find2 : ∀ i, i < m → (nmSeq (nmSeq S back 901 lc lk rc rk n) back 902 lc lk rc rk m).find 902 ((nmI back m i : Nat) + 1) = ((p + n + i : Nat) : Int)
theorem NmR.mk' (h : Corr S r0 sp0) (hz : Size S N) (hu : S.units = P ++ Q) (hc : ∀ v ∈ S.units, v.c ≤ 900) (hl : (lc = 0 ∧ lk = 0) ∨ r0.find lc lk ≠ -1) (hr : (rc = 0 ∧ rk = 0) ∨ r0.find rc rk ≠ -1) (lok : 0 ≤ lc ∧ 0 ≤ lk ∧ lk < 18446744073709551616) (rok : 0 ≤ rc ∧ 0 ≤ rk ∧ rk < 18446744073709551616) (hL : NbL P lc lk) (hR : NbR Q rc rk) (hn : 1 ≤ n) (hN : N + n + m ≤ 500) : NmR S back lc lk rc rk P.length n m N := by
  have hcl : ∀ x, x < r0.l.length → (r0.nd x).u.c ≤ 900 := fun x hx => hc _ (by
    rw [h.units]
    exact List.mem_map.2 ⟨x, List.count_pos_iff.1 (by rw [h.ok.inv.one x hx]; omega), rfl⟩)
  have e : NmE r0 901 lc lk rc rk := ⟨by omega, fun x hx => by have := hcl x hx; omega, hl, hr, lok, rok⟩
  obtain ⟨r1, sp1, q1⟩ := nm_first (back := back) h hz hu e hL hR (show N + n ≤ 500 by omega) n (Nat.le_refl _)
  obtain ⟨f1, f2⟩ := q1.findL h.ok e
  have hlen := q1.len
  have e2 : NmE r1 902 lc lk rc rk := by
    refine ⟨by omega, fun x hx => ?_, by rw [f1]; exact hl, by rw [f2]; exact hr, lok, rok⟩
    by_cases hx0 : x < r0.l.length
    · rw [(q1.old x hx0).1]; have := hcl x hx0; omega
    · obtain ⟨i, rfl⟩ : ∃ i, x = r0.l.length + i := ⟨x - r0.l.length, by omega⟩
      rw [q1.new i (by omega), (nmU_id i).1]; omega
  have h2 := nm_second (back := back) (m := m) h.ok q1 hn e e2 hL hR hN
  obtain ⟨r2, sp2, q2, _⟩ := h2 m (Nat.le_refl _)
  have hun := q2.units
  have hI := q2.corr.inv
  refine ⟨nm_firstC h hz hu e hL hR (by omega), fun i hi => ?_, fun i hi => ?_, fun i hi => ?_⟩
  · obtain ⟨r, sp, q, hq⟩ := h2 i (by omega)
    exact ⟨e2.ok i (by omega), q.size, (hq hi).1, rfl⟩
  · have hg : (nmSeq (nmSeq S back 901 lc lk rc rk n) back 902 lc lk rc rk m).units[P.length + i]? = some (nmU back 901 lc lk rc rk (nmI back n i)) := by
      rw [hun, List.append_assoc, List.append_assoc, List.getElem?_append_right (by omega), List.getElem?_append_left (by rw [nmL_len]; omega), show P.length + i - P.length = i by omega]
      exact nmL_get hi
    obtain ⟨hzl, hze⟩ := List.getElem?_eq_some_iff.1 hg
    have := hI.find_units _ hzl
    rw [hze, (nmU_id _).1, (nmU_id _).2] at this
    exact this
  · have hg : (nmSeq (nmSeq S back 901 lc lk rc rk n) back 902 lc lk rc rk m).units[P.length + n + i]? = some (nmU back 902 lc lk rc rk (nmI back m i)) := by
      rw [hun, List.append_assoc, List.getElem?_append_right (by rw [List.length_append, nmL_len]; omega), List.getElem?_append_left (by rw [List.length_append, nmL_len, nmL_len]; omega), List.length_append, nmL_len, show P.length + n + i - (P.length + n) = i by omega]
      exact nmL_get hi
    obtain ⟨hzl, hze⟩ := List.getElem?_eq_some_iff.1 hg
    have := hI.find_units _ hzl
    rw [hze, (nmU_id _).1, (nmU_id _).2] at this
    exact this
/-- At the place p of a sequence, between what At tells. -/
theorem NmR.at_ (h : Corr S r0 sp0) (hz : Size S N) (hc : ∀ v ∈ S.units, v.c ≤ 900) (p : Nat) (hp : p ≤ S.units.length) (hn : 1 ≤ n) (hN : N + n + m ≤ 500) : NmR S back (S.at_ ((p : Int) - 1)).1.c (S.at_ ((p : Int) - 1)).1.k (S.at_ (p : Int)).1.c (S.at_ (p : Int)).1.k p n m N := by
  have hI := h.inv
  have hpl : (S.units.take p).length = p := by rw [List.length_take]; omega
  have hf : ∀ i : Nat, ∀ hi : i < S.units.length, r0.find S.units[i].c S.units[i].k ≠ -1 := fun i hi => by
    have hm : S.units[i] ∈ S.units := List.getElem_mem hi
    have hok := hI.units_ok hm
    have h1 := h.find (c := S.units[i].c) (k := S.units[i].k) (by omega) (by omega)
    rw [hI.find_units i hi] at h1
    unfold RS.findP at h1
    intro q
    rw [q, if_pos (by omega)] at h1
    omega
  have hb : ∀ i : Nat, ∀ hi : i < S.units.length, 0 ≤ S.units[i].c ∧ 0 ≤ S.units[i].k ∧ S.units[i].k < 18446744073709551616 := fun i hi => by
    have hok := hI.units_ok (List.getElem_mem hi)
    omega
  have := NmR.mk' (S := S) (r0 := r0) (sp0 := sp0) (back := back) (P := S.units.take p) (Q := S.units.drop p) (N := N) (n := n) (m := m) (lc := (S.at_ ((p : Int) - 1)).1.c) (lk := (S.at_ ((p : Int) - 1)).1.k) (rc := (S.at_ (p : Int)).1.c) (rk := (S.at_ (p : Int)).1.k) h hz (List.take_append_drop _ _).symm hc ?_ ?_ ?_ ?_ ?_ ?_ hn hN
  · rw [hpl] at this; exact this
  · cases p with
    | zero => left; rw [hI.at_none _ (by omega)]; exact ⟨rfl, rfl⟩
    | succ q => right; rw [show ((q + 1 : Nat) : Int) - 1 = (q : Int) by omega, hI.at_units q (by omega)]; exact hf q (by omega)
  · by_cases hq : p < S.units.length
    · right; rw [hI.at_units p hq]; exact hf p hq
    · left; rw [hI.at_none _ (by omega)]; exact ⟨rfl, rfl⟩
  · cases p with
    | zero => rw [hI.at_none _ (by omega)]; exact ⟨by decide, by decide, by decide⟩
    | succ q => rw [show ((q + 1 : Nat) : Int) - 1 = (q : Int) by omega, hI.at_units q (by omega)]; exact hb q (by omega)
  · by_cases hq : p < S.units.length
    · rw [hI.at_units p hq]; exact hb p hq
    · rw [hI.at_none _ (by omega)]; exact ⟨by decide, by decide, by decide⟩
  · cases p with
    | zero =>
      rw [hI.at_none _ (by omega)]
      exact ⟨fun _ => ⟨rfl, rfl⟩, fun v hv => by simp at hv⟩
    | succ q =>
      rw [show ((q + 1 : Nat) : Int) - 1 = (q : Int) by omega, hI.at_units q (by omega)]
      refine ⟨fun e => ?_, fun v hv => ?_⟩
      · rw [e] at hpl; simp at hpl
      · rw [List.getLast?_eq_getElem?, hpl, List.getElem?_take_of_lt (by omega), show q + 1 - 1 = q by omega, List.getElem?_eq_getElem (by omega)] at hv
        have : S.units[q] = v := Option.some.inj hv
        rw [← this]; exact ⟨rfl, rfl⟩
  · by_cases hq : p < S.units.length
    · rw [hI.at_units p hq]
      refine ⟨fun e => ?_, fun v hv => ?_⟩
      · have := congrArg List.length e
        rw [List.length_drop] at this
        simp at this
        omega
      · rw [List.head?_drop, List.getElem?_eq_getElem hq] at hv
        have : S.units[p] = v := Option.some.inj hv
        rw [← this]; exact ⟨rfl, rfl⟩
    · rw [hI.at_none _ (by omega)]
      refine ⟨fun _ => ⟨rfl, rfl⟩, fun v hv => ?_⟩
      rw [List.head?_drop, List.getElem?_eq_none (by omega)] at hv
      cases hv
end
end Go.Proofs.Ytnbphdmpbjahhaa

/- quirelaw9.SeqNoMix: the sequence with the boxes that its writers share. -/
namespace Go.Proofs.Ytnbphdmpbjahhaa
open Go.RowKit
set_option linter.unusedVariables false
set_option linter.unusedSimpArgs false
set_option maxRecDepth 100000

abbrev ptO (p : Nat) : Obj := .cells #[.pointer (some ⟨p, 0, none⟩)] 24
abbrev blO (b : Bool) : Obj := .cells #[.bool b] 4
/-- A sequence, the box that holds it, a box of a truth. -/
structure NmF (w W : World) (pa ms mb : Nat) (S : SS) (back : Bool) : Prop where
  touch : Touch (fun _ => False) w W
  seq : ∃ A, Sq1 w W pa A S
  hs : W.heap[ms]? = some (ptO pa)
  hb : W.heap[mb]? = some (blO back)
section
variable {w W : World} {pa ms mb : Nat} {S : SS} {back : Bool}
theorem NmF.on (h : NmF w W pa ms mb S back) {W' : World} (t : Touch (fun _ => False) W W') : NmF w W' pa ms mb S back := by
  obtain ⟨A, a⟩ := h.seq
  exact ⟨h.touch.trans t, ⟨A, a.touch t⟩, heap_keep t h.hs, heap_keep t h.hb⟩
theorem NmF.cells (h : NmF w W pa ms mb S back) : W.cell? ⟨ms, 0, none⟩ = some (.pointer (some ⟨pa, 0, none⟩)) ∧ W.cell? ⟨mb, 0, none⟩ = some (.bool back) := ⟨by rw [cell_of_block h.hs]; rfl, by rw [cell_of_block h.hb]; rfl⟩
theorem NmF.find (h : NmF w W pa ms mb S back) (c k : Int) (hc : 0 ≤ c) (hk : 0 ≤ k) (hk2 : k < 18446744073709551616) :
    Calls Try.prog 19 #[.pointer (some ⟨pa, 0, none⟩), .agg #[.int .u64 c, .int .u64 k]] W fun e w' => e = .returned (.int .i64 (S.find c k)) ∧ Touch (fun _ => False) W w' := by
  obtain ⟨A, a⟩ := h.seq
  exact a.find c k hc hk hk2
/-- A writer's call. -/
theorem NmF.write (h : NmF w W pa ms mb S back) {ml mr : Nat} {c lc lk rc rk : Int} {n N : Nat} (Hl : W.heap[ml]? = some (idO lc lk)) (Hr : W.heap[mr]? = some (idO rc rk)) (hn : n ≤ 20) (hN : N ≤ 1000) (hc : 1 ≤ c ∧ c ≤ 1000) (hC : NmC S back c lc lk rc rk n N) :
    Calls Try.prog 25 #[.int .u64 c, .int .i64 (n : Int), .pointer (some ⟨ml, 0, none⟩), .pointer (some ⟨mr, 0, none⟩), .pointer (some ⟨ms, 0, none⟩), .pointer (some ⟨mb, 0, none⟩)] W fun e w' => e = .returned (.bool true) ∧ NmF w w' pa ms mb (nmSeq S back c lc lk rc rk n) back ∧ w'.heap[ml]? = some (idO lc lk) ∧ w'.heap[mr]? = some (idO rc rk) := by
  obtain ⟨A, a⟩ := h.seq
  refine (write_any (Ss := nmSeq S back c lc lk rc rk) (N := N) a Hl Hr h.hs h.hb hn hN hc hC).mono ?_
  rintro e w' ⟨rfl, t, A', h1, h2⟩
  exact ⟨rfl, ⟨a.touch0 h.touch t, ⟨A', h1⟩, (t.block _ (lt_of_heap h.hs) (a.mem.noPt h.hs)).trans h.hs, (t.block _ (lt_of_heap h.hb) (a.mem.noBl h.hb)).trans h.hb⟩, (t.block _ (lt_of_heap Hl) (a.mem.noId Hl)).trans Hl, (t.block _ (lt_of_heap Hr) (a.mem.noId Hr)).trans Hr⟩
end
section
variable {w W : World} {pa ms mb : Nat} {S : SS} {back : Bool}
theorem NmF.setId (h : NmF w W pa ms mb S back) {ml : Nat} {a b : Int} (hl : W.heap[ml]? = some (idO a b)) (hnew : w.heap.size ≤ ml) (c k : Int) : NmF w ((W.setCell ⟨ml, 0, none⟩ (.int .u64 c)).setCell ⟨ml, 1, none⟩ (.int .u64 k)) pa ms mb S back ∧ ((W.setCell ⟨ml, 0, none⟩ (.int .u64 c)).setCell ⟨ml, 1, none⟩ (.int .u64 k)).heap[ml]? = some (idO c k) ∧ ∀ x, x ≠ ml → ((W.setCell ⟨ml, 0, none⟩ (.int .u64 c)).setCell ⟨ml, 1, none⟩ (.int .u64 k)).heap[x]? = W.heap[x]? := by
  obtain ⟨A, q⟩ := h.seq
  have t : Touch (fun y => y = ml) W ((W.setCell ⟨ml, 0, none⟩ (.int .u64 c)).setCell ⟨ml, 1, none⟩ (.int .u64 k)) := ((Touch.refl (fun y => y = ml) W).setCell ⟨ml, 0, none⟩ _ (fun _ => rfl)).setCell ⟨ml, 1, none⟩ _ (fun _ => rfl)
  have hn := q.mem.noId hl
  have h1 : ms ≠ ml := fun e => by
    have := h.hs
    rw [e, hl] at this
    simp at this
  have h2 : mb ≠ ml := fun e => by
    have := h.hb
    rw [e, hl] at this
    simp at this
  have ho : ∀ x, x ≠ ml → ((W.setCell ⟨ml, 0, none⟩ (.int .u64 c)).setCell ⟨ml, 1, none⟩ (.int .u64 k)).heap[x]? = W.heap[x]? := fun x hx => by
    rw [heap_setCell_other _ _ _ _ (fun e => hx e.symm), heap_setCell_other _ _ _ _ (fun e => hx e.symm)]
  refine ⟨⟨h.touch.then t fun x hx e => by omega, ⟨A, ⟨q.mem.keep t fun x hx e => by rw [e] at hx; exact hn hx, q.at_, q.new, q.inv⟩⟩, by rw [ho _ h1]; exact h.hs, by rw [ho _ h2]; exact h.hb⟩, heap_setCell_same _ _ _ _ (heap_setCell_same _ _ _ _ hl), ho⟩
theorem NmF.at' (h : NmF w W pa ms mb S back) (i : Int) (hi : -4611686018427387904 ≤ i ∧ i ≤ 4611686018427387904) :
    Calls Try.prog 21 #[.pointer (some ⟨pa, 0, none⟩), .int .i64 i] W fun e w' => e = .returned (.tuple #[.agg #[.int .u64 ((S.at_ i).1).c, .int .u64 ((S.at_ i).1).k, .int .u64 ((S.at_ i).1).lc, .int .u64 ((S.at_ i).1).lk, .int .u64 ((S.at_ i).1).rc, .int .u64 ((S.at_ i).1).rk], .bool (S.at_ i).2]) ∧ Touch (fun _ => False) W w' := by
  obtain ⟨A, a⟩ := h.seq
  exact a.at' i hi
end
/-- The same, with the units that it is filled with. -/
structure NmG (w W : World) (pa ms mb : Nat) (S : SS) (back : Bool) (v : Value) (us : List Un) : Prop where
  one : OneS w W pa S v us
  hs : W.heap[ms]? = some (ptO pa)
  hb : W.heap[mb]? = some (blO back)
section
variable {w W : World} {pa ms mb : Nat} {S : SS} {back : Bool} {v : Value} {us : List Un}
theorem NmG.toF (h : NmG w W pa ms mb S back v us) : NmF w W pa ms mb S back := by
  have := h.one.touch0
  obtain ⟨A, a, _⟩ := h.one
  exact ⟨this, ⟨A, a⟩, h.hs, h.hb⟩
theorem NmG.ins (h : NmG w W pa ms mb S back v us) (u : Un) (hu : u.ok) {n : Nat} (hz : Size S n) (hn : n ≤ 1000000) :
    Calls Try.prog 14 #[.pointer (some ⟨pa, 0, none⟩), .agg #[.int .u64 u.c, .int .u64 u.k, .int .u64 u.lc, .int .u64 u.lk, .int .u64 u.rc, .int .u64 u.rk]] W fun e w' => e = .returned (.bool (S.may u 1)) ∧ NmG w w' pa ms mb (S.run u 1) back v us := by
  obtain ⟨A, a, d⟩ := h.one
  refine (a.ins u hu hz hn).mono ?_
  rintro e w' ⟨rfl, A', h1, h2, t⟩
  exact ⟨rfl, ⟨A', h1, d.onB a t⟩, (t.block _ (lt_of_heap h.hs) (a.mem.noPt h.hs)).trans h.hs, (t.block _ (lt_of_heap h.hb) (a.mem.noBl h.hb)).trans h.hb⟩
theorem NmG.on (h : NmG w W pa ms mb S back v us) {W' : World} (t : Touch (fun _ => False) W W') : NmG w W' pa ms mb S back v us := ⟨h.one.touch t, heap_keep t h.hs, heap_keep t h.hb⟩
end
end Go.Proofs.Ytnbphdmpbjahhaa
