/- Package seq: its units as a list (no Go in it): what At, Find, Len and Insert say of it. -/
import Derived.Test.YtcolbgbmnmkogabSqT
import Derived.Test.YtcolbgbmnmkogabSeqW6
namespace Go.Proofs.Ytcolbgbmnmkogab
set_option linter.unusedVariables false
set_option linter.unusedSimpArgs false

def SS.units (S : SS) : List Un := S.spots.map S.unit
theorem Inv.units_len {S : SS} (h : Inv S) : (S.units.length : Int) = S.total := by
  unfold SS.units
  rw [List.length_map]; exact h.spots_len
theorem units_get (S : SS) (m : Nat) (hm : m < S.units.length) (hm' : m < S.spots.length) : S.units[m] = S.unit S.spots[m] := List.getElem_map _
theorem Inv.spot_run {S : SS} (h : Inv S) {x : Sp} (hx : x ∈ S.spots) : 0 < x.run ∧ x.run < S.runs.length ∧ 0 ≤ x.pos ∧ (rn S.runs x.run).first.k + x.pos ≤ 9007199254740991 := by
  unfold SS.spots at hx
  obtain ⟨i, hi, hx⟩ := List.mem_flatMap.1 hx
  have hl := (h.ordF.lab i).1 hi
  obtain ⟨q1, q2, q3, q4, q5⟩ := h.pcs i (by omega) hl.2
  obtain ⟨j, hj, rfl⟩ := spotsFrom_mem hx
  exact ⟨q1, q2, by show 0 ≤ (S.pc i).pos + (j : Int); omega, by show (rn S.runs (S.pc i).run).first.k + ((S.pc i).pos + (j : Int)) ≤ _; omega⟩
theorem Inv.at_units {S : SS} (h : Inv S) (m : Nat) (hm : m < S.units.length) : S.at_ (m : Int) = (S.units[m], true) := by
  have hl := h.units_len
  unfold SS.at_
  rw [if_neg (by omega)]
  have hg := h.spotAt_get (m : Int) (by omega) (by omega)
  rw [Int.toNat_natCast] at hg
  have hu : S.units[m]? = some (S.unit (S.spotAt m)) := by
    unfold SS.units
    rw [List.getElem?_map, hg]; rfl
  rw [List.getElem?_eq_getElem hm] at hu
  rw [Option.some.inj hu]
theorem Inv.at_none {S : SS} (h : Inv S) (i : Int) (hi : i < 0 ∨ (S.units.length : Int) ≤ i) : S.at_ i = (.zero, false) := by
  have hl := h.units_len
  unfold SS.at_
  rw [if_pos (by omega)]
/-- A unit's id is found at its place. -/
theorem Inv.find_units {S : SS} (h : Inv S) (m : Nat) (hm : m < S.units.length) : S.find S.units[m].c S.units[m].k = (m : Int) := by
  have hm' : m < S.spots.length := by simpa [SS.units] using hm
  have := (h.find_at (List.getElem?_eq_getElem hm')).1
  rw [units_get S m hm hm']; exact this
theorem Inv.units_find {S : SS} (h : Inv S) {c k : Int} (hc : 0 ≤ c) (hk : 0 ≤ k) (hf : S.find c k ≠ -1) : ∃ m, ∃ hm : m < S.units.length, S.find c k = (m : Int) ∧ S.units[m].c = c ∧ S.units[m].k = k := by
  obtain ⟨a1, a2, a3, a4⟩ := h.at_find hc hk hf
  have hm : (S.find c k).toNat < S.spots.length := (List.getElem?_eq_some_iff.1 a2).1
  have e : S.spots[(S.find c k).toNat] = S.spotOf c k := (List.getElem?_eq_some_iff.1 a2).2
  have hm' : (S.find c k).toNat < S.units.length := by simpa [SS.units] using hm
  have e2 : S.units[(S.find c k).toNat] = S.unit (S.spotOf c k) := by
    rw [units_get S _ hm' hm, e]
  exact ⟨_, hm', by omega, by rw [e2]; exact a3, by rw [e2]; exact a4⟩
theorem Inv.find_none {S : SS} (h : Inv S) {c k : Int} (hc : 0 ≤ c) (hk : 0 ≤ k) (hn : ∀ v ∈ S.units, ¬ (v.c = c ∧ v.k = k)) : S.find c k = -1 :=
  Decidable.byContradiction fun hf => by
    obtain ⟨m, hm, _, e1, e2⟩ := h.units_find hc hk hf
    exact hn _ (List.getElem_mem hm) ⟨e1, e2⟩
theorem Inv.units_nodup {S : SS} (h : Inv S) {i j : Nat} (hi : i < S.units.length) (hj : j < S.units.length) (hc : S.units[i].c = S.units[j].c) (hk : S.units[i].k = S.units[j].k) : i = j := by
  have h1 := h.find_units i hi
  have h2 := h.find_units j hj
  rw [hc, hk, h2] at h1
  omega
/-- What is so of its units: right ids. -/
theorem Inv.units_ok {S : SS} (h : Inv S) {v : Un} (hv : v ∈ S.units) : 1 ≤ v.c ∧ v.c ≤ 9007199254740991 ∧ 1 ≤ v.k ∧ v.k ≤ 9007199254740991 := by
  unfold SS.units at hv
  obtain ⟨x, hx, rfl⟩ := List.mem_map.1 hv
  obtain ⟨a, b, c, d⟩ := h.spot_run hx
  have := h.runs x.run a b
  rw [SS.unit_c, SS.unit_k]
  omega
/-- One unit more: it stands at its place, all others as they stood. -/
theorem Inv.run_units {S : SS} (h : Inv S) {u : Un} (hu : u.ok) (hm : S.may u 1 = true) (hR : Room S 1) : ∃ p : Nat, p ≤ S.units.length ∧ (p : Int) = S.placeFor u ∧ (S.run u 1).units = S.units.take p ++ u :: S.units.drop p := by
  obtain ⟨⟨a, b⟩, c, d, e, f⟩ := may_iff.1 hm
  have hnc : 1 ≤ u.c ∧ u.c ≤ 9007199254740991 := by simpa [numOk] using a
  obtain ⟨p0, p1⟩ := h.placeLe hu f
  have hl := h.units_len
  have hrp := hR.pcs
  obtain ⟨y, y1, y2, y3, _⟩ := h.lay_spots (S.placeFor u) p0 p1 (by omega) u hnc.1 (S.parentOf u).1 1 (Nat.le_refl _)
  refine ⟨(S.placeFor u).toNat, by omega, by omega, ?_⟩
  have e1 : S.run u 1 = S.lay (S.placeFor u) u (S.parentOf u).1 (1 : Nat) := by unfold SS.run; rw [if_pos hm]; rfl
  rw [e1]
  unfold SS.units
  have hold : ∀ l : List Sp, (∀ x ∈ l, x ∈ S.spots) → l.map (S.lay (S.placeFor u) u (S.parentOf u).1 (1 : Nat)).unit = l.map S.unit := fun l hl => List.map_congr_left fun x hx => y3 x (h.spot_run (hl x hx)).2.1
  have hs1 : spotsFrom y 1 = [y] := by
    unfold spotsFrom
    simp
  rw [y1, List.map_append, List.map_append, hold _ fun x hx => List.mem_of_mem_take hx, hold _ fun x hx => List.mem_of_mem_drop hx, hs1, List.map_take, List.map_drop, List.map_cons, List.map_nil, y2, List.append_assoc, List.singleton_append]
theorem run_no {S : SS} {u : Un} (hm : S.may u 1 = false) : S.run u 1 = S := by unfold SS.run; rw [hm]; rfl
/-- How great it is. -/
structure Size (S : SS) (n : Nat) : Prop where
  tot : S.total ≤ n
  pcs : S.pcs.length ≤ 2 * n + 1
  runs : S.runs.length ≤ n + 1
theorem Size.room {S : SS} {n : Nat} (h : Size S n) (hn : n ≤ 1000000) (m : Nat) (hm : m ≤ 1000000) : Room S m := by
  have := h.tot
  have := h.pcs
  have := h.runs
  exact ⟨by omega, by omega, by omega⟩
theorem Size.new : Size .new 0 := ⟨by decide, by decide, by decide⟩
theorem Size.mono {S : SS} {n m : Nat} (h : Size S n) (hm : n ≤ m) : Size S m := by
  have := h.tot
  have := h.pcs
  have := h.runs
  exact ⟨by omega, by omega, by omega⟩
theorem Inv.run1 {S : SS} (h : Inv S) {u : Un} (hu : u.ok) {n : Nat} (hz : Size S n) (hn : n ≤ 1000000) : Inv (S.run u 1) ∧ Size (S.run u 1) (n + 1) := by
  have h1 := hz.tot
  have h2 := hz.pcs
  have h3 := hz.runs
  obtain ⟨a, b, c, d⟩ := h.runI (u := u) (n := 1) hu (fun _ => by omega) (by omega) (by omega)
  refine ⟨a, ?_, by omega, by omega⟩
  rw [b]
  split <;> omega
/-- Units inserted one after the other. -/
def seqOf (us : List Un) : SS := us.foldl (fun S u => S.run u 1) .new
theorem seqOf_take (us : List Un) (j : Nat) (hj : j < us.length) : seqOf (us.take (j + 1)) = (seqOf (us.take j)).run us[j] 1 := by
  unfold seqOf
  rw [List.take_succ_eq_append_getElem hj, List.foldl_append]; rfl
theorem seqOf_inv (us : List Un) (hu : ∀ u ∈ us, u.ok) (hl : us.length ≤ 1000000) : ∀ j, j ≤ us.length → Inv (seqOf (us.take j)) ∧ Size (seqOf (us.take j)) j
  | 0, _ => ⟨Inv.new, Size.new⟩
  | j + 1, h => by
    obtain ⟨a, b⟩ := seqOf_inv us hu hl j (by omega)
    rw [seqOf_take us j h]
    exact a.run1 (hu _ (List.getElem_mem _)) b (by omega)
/-- Its units are among those that were inserted. -/
theorem seqOf_mem (us : List Un) (hu : ∀ u ∈ us, u.ok) (hl : us.length ≤ 1000000) : ∀ j, j ≤ us.length → ∀ v ∈ (seqOf (us.take j)).units, v ∈ us
  | 0, _, v, hv => by
    have : (seqOf (us.take 0)).units = [] := rfl
    rw [this] at hv
    exact (List.not_mem_nil hv).elim
  | j + 1, h, v, hv => by
    obtain ⟨a, b⟩ := seqOf_inv us hu hl j (by omega)
    have ih := seqOf_mem us hu hl j (by omega)
    rw [seqOf_take us j h] at hv
    cases hm : (seqOf (us.take j)).may us[j] 1 with
    | false => rw [run_no hm] at hv; exact ih v hv
    | true =>
      obtain ⟨p, _, _, e⟩ := a.run_units (hu _ (List.getElem_mem _)) hm (b.room (by omega) 1 (by omega))
      rw [e] at hv
      rcases List.mem_append.1 hv with hv | hv
      · exact ih v (List.mem_of_mem_take hv)
      · rcases List.mem_cons.1 hv with rfl | hv
        · exact List.getElem_mem _
        · exact ih v (List.mem_of_mem_drop hv)
/-- A unit with a new id, its Left there or none, no Right: it may be inserted. -/
theorem Inv.may_new {S : SS} (h : Inv S) {u : Un} (hc : numOk u.c = true) (hk : numOk u.k = true) (hn : ∀ v ∈ S.units, ¬ (v.c = u.c ∧ v.k = u.k)) (hr : u.rc = 0 ∧ u.rk = 0) (hl : (u.lc = 0 ∧ u.lk = 0) ∨ ∃ v ∈ S.units, v.c = u.lc ∧ v.k = u.lk) : S.may u 1 = true := by
  have hc' : 1 ≤ u.c ∧ u.c ≤ 9007199254740991 := by simpa [numOk] using hc
  have hk' : 1 ≤ u.k ∧ u.k ≤ 9007199254740991 := by simpa [numOk] using hk
  refine may_iff.2 ⟨⟨hc, hk⟩, Int.le_refl _, by omega, ?_, ?_⟩
  · cases hh : S.hasAny u.c u.k 1 with
    | false => rfl
    | true => exact absurd (h.find_none (by omega) (by omega) hn) ((h.hasAny_one hc'.1 (by omega)).1 hh)
  · have hf : S.find u.lc u.lk < S.total ∧ (S.find u.lc u.lk + 1 = 0 → u.lc = 0 ∧ u.lk = 0) := by
      rcases hl with hl | ⟨v, hv, e1, e2⟩
      · refine ⟨?_, fun _ => hl⟩
        have := h.find_le 0 0 (by omega) (by omega)
        have ht := h.total_nn
        rw [hl.1, hl.2]; omega
      · obtain ⟨m, hm, rfl⟩ := List.mem_iff_getElem.1 hv
        have := h.find_units m hm
        rw [e1, e2] at this
        have hul := h.units_len
        exact ⟨by omega, fun _ => by omega⟩
    unfold SS.between SS.rightOf
    rw [if_pos hr, if_neg]
    rintro (⟨a, b⟩ | a)
    · exact b (hf.2 a)
    · omega
end Go.Proofs.Ytcolbgbmnmkogab
