/- Package seq: its units as a list (no Go in it): what At, Find, Len and Insert say of it. -/
import Derived.Test.YtnilikomoapcaaaGreatPart16
import Derived.Test.YtnilikomoapcaaaGreatSeqW6
import Derived.Test.YtnilikomoapcaaaGreatPart1
namespace Go.Proofs.YtnilikomoapcaaaGreat
set_option linter.unusedVariables false
set_option linter.unusedSimpArgs false

def SS.units (S : SS) : List Un := S.spots.map S.unit
theorem Inv.units_len {S : SS} (h : Inv S) : (S.units.length : Int) = S.total := by
  unfold SS.units
  rw [List.length_map]; exact h.spots_len
theorem units_get (S : SS) (m : Nat) (hm : m < S.units.length) (hm' : m < S.spots.length) : S.units[m] = S.unit S.spots[m] := List.getElem_map _
theorem Inv.spot_run {S : SS} (h : Inv S) {x : Sp} (hx : x ∈ S.spots) : 0 < x.run ∧ x.run < S.runs.length ∧ 0 ≤ x.pos ∧ (rn S.runs x.run).first.k + x.pos ≤ 9007199254740991 := by
  unfold SS.spots at hx
  obtain ⟨i, hi, hx⟩ := List.mem_flatMap.1 hx
  have hl := (h.ordF.lab i).1 hi
  obtain ⟨q1, q2, q3, q4, q5⟩ := h.pcs i (by omega) hl.2
  obtain ⟨j, hj, rfl⟩ := spotsFrom_mem hx
  exact ⟨q1, q2, by show 0 ≤ (S.pc i).pos + (j : Int); omega, by show (rn S.runs (S.pc i).run).first.k + ((S.pc i).pos + (j : Int)) ≤ _; omega⟩
theorem Inv.at_units {S : SS} (h : Inv S) (m : Nat) (hm : m < S.units.length) : S.at_ (m : Int) = (S.units[m], true) := by
  have hl := h.units_len
  unfold SS.at_
  rw [if_neg (by omega)]
  have hg := h.spotAt_get (m : Int) (by omega) (by omega)
  rw [Int.toNat_natCast] at hg
  have hu : S.units[m]? = some (S.unit (S.spotAt m)) := by
    unfold SS.units
    rw [List.getElem?_map, hg]; rfl
  rw [List.getElem?_eq_getElem hm] at hu
  rw [Option.some.inj hu]
theorem Inv.at_none {S : SS} (h : Inv S) (i : Int) (hi : i < 0 ∨ (S.units.length : Int) ≤ i) : S.at_ i = (.zero, false) := by
  have hl := h.units_len
  unfold SS.at_
  rw [if_pos (by omega)]
/-- A unit's id is found at its place. -/
theorem Inv.find_units {S : SS} (h : Inv S) (m : Nat) (hm : m < S.units.length) : S.find S.units[m].c S.units[m].k = (m : Int) := by
  have hm' : m < S.spots.length := by simpa [SS.units] using hm
  have := (h.find_at (List.getElem?_eq_getElem hm')).1
  rw [units_get S m hm hm']; exact this
theorem Inv.units_find {S : SS} (h : Inv S) {c k : Int} (hc : 0 ≤ c) (hk : 0 ≤ k) (hf : S.find c k ≠ -1) : ∃ m, ∃ hm : m < S.units.length, S.find c k = (m : Int) ∧ S.units[m].c = c ∧ S.units[m].k = k := by
  obtain ⟨a1, a2, a3, a4⟩ := h.at_find hc hk hf
  have hm : (S.find c k).toNat < S.spots.length := (List.getElem?_eq_some_iff.1 a2).1
  have e : S.spots[(S.find c k).toNat] = S.spotOf c k := (List.getElem?_eq_some_iff.1 a2).2
  have hm' : (S.find c k).toNat < S.units.length := by simpa [SS.units] using hm
  have e2 : S.units[(S.find c k).toNat] = S.unit (S.spotOf c k) := by
    rw [units_get S _ hm' hm, e]
  exact ⟨_, hm', by omega, by rw [e2]; exact a3, by rw [e2]; exact a4⟩
theorem Inv.find_none {S : SS} (h : Inv S) {c k : Int} (hc : 0 ≤ c) (hk : 0 ≤ k) (hn : ∀ v ∈ S.units, ¬ (v.c = c ∧ v.k = k)) : S.find c k = -1 :=
  Decidable.byContradiction fun hf => by
    obtain ⟨m, hm, _, e1, e2⟩ := h.units_find hc hk hf
    exact hn _ (List.getElem_mem hm) ⟨e1, e2⟩
theorem Inv.units_nodup {S : SS} (h : Inv S) {i j : Nat} (hi : i < S.units.length) (hj : j < S.units.length) (hc : S.units[i].c = S.units[j].c) (hk : S.units[i].k = S.units[j].k) : i = j := by
  have h1 := h.find_units i hi
  have h2 := h.find_units j hj
  rw [hc, hk, h2] at h1
  omega
/-- What is so of its units: right ids. -/
theorem Inv.units_ok {S : SS} (h : Inv S) {v : Un} (hv : v ∈ S.units) : 1 ≤ v.c ∧ v.c ≤ 9007199254740991 ∧ 1 ≤ v.k ∧ v.k ≤ 9007199254740991 := by
  unfold SS.units at hv
  obtain ⟨x, hx, rfl⟩ := List.mem_map.1 hv
  obtain ⟨a, b, c, d⟩ := h.spot_run hx
  have := h.runs x.run a b
  rw [SS.unit_c, SS.unit_k]
  omega
/-- One unit more: it stands at its place, all others as they stood. -/
theorem Inv.run_units {S : SS} (h : Inv S) {u : Un} (hu : u.ok) (hm : S.may u 1 = true) (hR : Room S 1) : ∃ p : Nat, p ≤ S.units.length ∧ (p : Int) = S.placeFor u ∧ (S.run u 1).units = S.units.take p ++ u :: S.units.drop p := by
  obtain ⟨⟨a, b⟩, c, d, e, f⟩ := may_iff.1 hm
  have hnc : 1 ≤ u.c ∧ u.c ≤ 9007199254740991 := by simpa [numOk] using a
  obtain ⟨p0, p1⟩ := h.placeLe hu f
  have hl := h.units_len
  have hrp := hR.pcs
  obtain ⟨y, y1, y2, y3, _⟩ := h.lay_spots (S.placeFor u) p0 p1 (by omega) u hnc.1 (S.parentOf u).1 1 (Nat.le_refl _)
  refine ⟨(S.placeFor u).toNat, by omega, by omega, ?_⟩
  have e1 : S.run u 1 = S.lay (S.placeFor u) u (S.parentOf u).1 (1 : Nat) := by unfold SS.run; rw [if_pos hm]; rfl
  rw [e1]
  unfold SS.units
  have hold : ∀ l : List Sp, (∀ x ∈ l, x ∈ S.spots) → l.map (S.lay (S.placeFor u) u (S.parentOf u).1 (1 : Nat)).unit = l.map S.unit := fun l hl => List.map_congr_left fun x hx => y3 x (h.spot_run (hl x hx)).2.1
  have hs1 : spotsFrom y 1 = [y] := by
    unfold spotsFrom
    simp
  rw [y1, List.map_append, List.map_append, hold _ fun x hx => List.mem_of_mem_take hx, hold _ fun x hx => List.mem_of_mem_drop hx, hs1, List.map_take, List.map_drop, List.map_cons, List.map_nil, y2, List.append_assoc, List.singleton_append]
theorem run_no {S : SS} {u : Un} (hm : S.may u 1 = false) : S.run u 1 = S := by unfold SS.run; rw [hm]; rfl
/-- How great it is. -/
structure Size (S : SS) (n : Nat) : Prop where
  tot : S.total ≤ n
  pcs : S.pcs.length ≤ 2 * n + 1
  runs : S.runs.length ≤ n + 1
theorem Size.room {S : SS} {n : Nat} (h : Size S n) (hn : n ≤ 1000000) (m : Nat) (hm : m ≤ 1000000) : Room S m := by
  have := h.tot
  have := h.pcs
  have := h.runs
  exact ⟨by omega, by omega, by omega⟩
theorem Size.new : Size .new 0 := ⟨by decide, by decide, by decide⟩
theorem Size.mono {S : SS} {n m : Nat} (h : Size S n) (hm : n ≤ m) : Size S m := by
  have := h.tot
  have := h.pcs
  have := h.runs
  exact ⟨by omega, by omega, by omega⟩
theorem Inv.run1 {S : SS} (h : Inv S) {u : Un} (hu : u.ok) {n : Nat} (hz : Size S n) (hn : n ≤ 1000000) : Inv (S.run u 1) ∧ Size (S.run u 1) (n + 1) := by
  have h1 := hz.tot
  have h2 := hz.pcs
  have h3 := hz.runs
  obtain ⟨a, b, c, d⟩ := h.runI (u := u) (n := 1) hu (fun _ => by omega) (by omega) (by omega)
  refine ⟨a, ?_, by omega, by omega⟩
  rw [b]
  split <;> omega
/-- Units inserted one after the other. -/
def seqOf (us : List Un) : SS := us.foldl (fun S u => S.run u 1) .new
theorem seqOf_take (us : List Un) (j : Nat) (hj : j < us.length) : seqOf (us.take (j + 1)) = (seqOf (us.take j)).run us[j] 1 := by
  unfold seqOf
  rw [List.take_succ_eq_append_getElem hj, List.foldl_append]; rfl
theorem seqOf_inv (us : List Un) (hu : ∀ u ∈ us, u.ok) (hl : us.length ≤ 1000000) : ∀ j, j ≤ us.length → Inv (seqOf (us.take j)) ∧ Size (seqOf (us.take j)) j
  | 0, _ => ⟨Inv.new, Size.new⟩
  | j + 1, h => by
    obtain ⟨a, b⟩ := seqOf_inv us hu hl j (by omega)
    rw [seqOf_take us j h]
    exact a.run1 (hu _ (List.getElem_mem _)) b (by omega)
/-- Its units are among those that were inserted. -/
theorem seqOf_mem (us : List Un) (hu : ∀ u ∈ us, u.ok) (hl : us.length ≤ 1000000) : ∀ j, j ≤ us.length → ∀ v ∈ (seqOf (us.take j)).units, v ∈ us
  | 0, _, v, hv => by
    have : (seqOf (us.take 0)).units = [] := rfl
    rw [this] at hv
    exact (List.not_mem_nil hv).elim
  | j + 1, h, v, hv => by
    obtain ⟨a, b⟩ := seqOf_inv us hu hl j (by omega)
    have ih := seqOf_mem us hu hl j (by omega)
    rw [seqOf_take us j h] at hv
    cases hm : (seqOf (us.take j)).may us[j] 1 with
    | false => rw [run_no hm] at hv; exact ih v hv
    | true =>
      obtain ⟨p, _, _, e⟩ := a.run_units (hu _ (List.getElem_mem _)) hm (b.room (by omega) 1 (by omega))
      rw [e] at hv
      rcases List.mem_append.1 hv with hv | hv
      · exact ih v (List.mem_of_mem_take hv)
      · rcases List.mem_cons.1 hv with rfl | hv
        · exact List.getElem_mem _
        · exact ih v (List.mem_of_mem_drop hv)
/-- A unit with a new id, its Left there or none, no Right: it may be inserted. -/
theorem Inv.may_new {S : SS} (h : Inv S) {u : Un} (hc : numOk u.c = true) (hk : numOk u.k = true) (hn : ∀ v ∈ S.units, ¬ (v.c = u.c ∧ v.k = u.k)) (hr : u.rc = 0 ∧ u.rk = 0) (hl : (u.lc = 0 ∧ u.lk = 0) ∨ ∃ v ∈ S.units, v.c = u.lc ∧ v.k = u.lk) : S.may u 1 = true := by
  have hc' : 1 ≤ u.c ∧ u.c ≤ 9007199254740991 := by simpa [numOk] using hc
  have hk' : 1 ≤ u.k ∧ u.k ≤ 9007199254740991 := by simpa [numOk] using hk
  refine may_iff.2 ⟨⟨hc, hk⟩, Int.le_refl _, by omega, ?_, ?_⟩
  · cases hh : S.hasAny u.c u.k 1 with
    | false => rfl
    | true => exact absurd (h.find_none (by omega) (by omega) hn) ((h.hasAny_one hc'.1 (by omega)).1 hh)
  · have hf : S.find u.lc u.lk < S.total ∧ (S.find u.lc u.lk + 1 = 0 → u.lc = 0 ∧ u.lk = 0) := by
      rcases hl with hl | ⟨v, hv, e1, e2⟩
      · refine ⟨?_, fun _ => hl⟩
        have := h.find_le 0 0 (by omega) (by omega)
        have ht := h.total_nn
        rw [hl.1, hl.2]; omega
      · obtain ⟨m, hm, rfl⟩ := List.mem_iff_getElem.1 hv
        have := h.find_units m hm
        rw [e1, e2] at this
        have hul := h.units_len
        exact ⟨by omega, fun _ => by omega⟩
    unfold SS.between SS.rightOf
    rw [if_pos hr, if_neg]
    rintro (⟨a, b⟩ | a)
    · exact b (hf.2 a)
    · omega
end Go.Proofs.YtnilikomoapcaaaGreat

/- Package seq: units that are laid between neighbours, and runs of units (no Go in it). -/
namespace Go.Proofs.YtnilikomoapcaaaGreat
set_option linter.unusedVariables false
set_option linter.unusedSimpArgs false

/-- The j-th of a run's units. -/
def runUn (u : Un) (j : Nat) : Un := if j = 0 then u else ⟨u.c, u.k + (j : Int), u.c, u.k + (j : Int) - 1, u.rc, u.rk⟩
def runUns (u : Un) (n : Nat) : List Un := (List.range n).map (runUn u)
theorem runUns_len (u : Un) (n : Nat) : (runUns u n).length = n := by simp [runUns]
theorem runUns_get (u : Un) (n j : Nat) (h : j < (runUns u n).length) : (runUns u n)[j] = runUn u j := by simp [runUns]
theorem runUns_succ (u : Un) (n : Nat) : runUns u (n + 1) = runUns u n ++ [runUn u n] := by simp [runUns, List.range_succ]
theorem runUn_c (u : Un) (j : Nat) : (runUn u j).c = u.c ∧ (runUn u j).k = u.k + (j : Int) ∧ (runUn u j).rc = u.rc ∧ (runUn u j).rk = u.rk := by
  unfold runUn
  split
  · next h => subst h; exact ⟨rfl, by simp, rfl, rfl⟩
  · exact ⟨rfl, rfl, rfl, rfl⟩
theorem unit_from (S : SS) (y : Sp) (u : Un) (hy : S.unit y = u) (h0 : 0 ≤ y.pos) (j : Nat) : S.unit ⟨y.run, y.pos + (j : Int)⟩ = runUn u j := by
  by_cases hj : j = 0
  · subst hj
    unfold runUn
    rw [if_pos rfl, ← hy]
    congr 1
    simp
  · unfold runUn
    rw [if_neg hj, ← hy]
    have e1 : (S.unit y).c = (rn S.runs y.run).first.c := SS.unit_c S y
    have e2 : (S.unit y).k = (rn S.runs y.run).first.k + y.pos := SS.unit_k S y
    have e3 : (S.unit y).rc = (rn S.runs y.run).first.rc ∧ (S.unit y).rk = (rn S.runs y.run).first.rk := unitR_r S.runs y
    rw [e1, e2, e3.1, e3.2]
    unfold SS.unit unitR
    rw [if_neg (by show ¬ y.pos + (j : Int) = 0; omega)]
    have e : (rn S.runs y.run).first.k + (y.pos + (j : Int)) = (rn S.runs y.run).first.k + y.pos + (j : Int) := by omega
    simp only [e]
theorem Inv.run_unitsN {S : SS} (h : Inv S) {u : Un} (hu : u.ok) {n : Nat} (hn : 1 ≤ n) (hm : S.may u n = true) (hp : S.pcs.length + 1 ≤ 1073741824) : ∃ p : Nat, p ≤ S.units.length ∧ (p : Int) = S.placeFor u ∧ (S.run u n).units = S.units.take p ++ runUns u n ++ S.units.drop p := by
  obtain ⟨⟨a, b⟩, c, d, e, f⟩ := may_iff.1 hm
  have hnc : 1 ≤ u.c ∧ u.c ≤ 9007199254740991 := by simpa [numOk] using a
  obtain ⟨p0, p1⟩ := h.placeLe hu f
  have hl := h.units_len
  obtain ⟨y, y1, y2, y3, y4⟩ := h.lay_spots (S.placeFor u) p0 p1 hp u hnc.1 (S.parentOf u).1 n hn
  refine ⟨(S.placeFor u).toNat, by omega, by omega, ?_⟩
  have e1 : S.run u n = S.lay (S.placeFor u) u (S.parentOf u).1 n := by unfold SS.run; rw [if_pos hm]; rfl
  have hpos : 0 ≤ y.pos := by
    rcases y4 with ⟨e, _⟩ | ⟨_, e, _⟩
    · rw [e]; exact Int.le_refl _
    · omega
  rw [e1]
  unfold SS.units
  have hold : ∀ l : List Sp, (∀ x ∈ l, x ∈ S.spots) → l.map (S.lay (S.placeFor u) u (S.parentOf u).1 n).unit = l.map S.unit := fun l hl => List.map_congr_left fun x hx => y3 x (h.spot_run (hl x hx)).2.1
  have hnew : (spotsFrom y n).map (S.lay (S.placeFor u) u (S.parentOf u).1 n).unit = runUns u n := by
    unfold spotsFrom runUns
    rw [List.map_map]
    exact List.map_congr_left fun j _ => unit_from _ y u y2 hpos j
  rw [y1, List.map_append, List.map_append, hold _ fun x hx => List.mem_of_mem_take hx, hold _ fun x hx => List.mem_of_mem_drop hx, hnew, List.map_take, List.map_drop]
theorem Inv.hasAny_false {S : SS} (h : Inv S) {c k n : Int} (hc : 1 ≤ c) (hk : 0 ≤ k) (hn : 1 ≤ n) (hf : ∀ v ∈ S.units, ¬ (v.c = c ∧ k ≤ v.k ∧ v.k < k + n)) : S.hasAny c k n = false := by
  cases hh : S.hasAny c k n with
  | false => rfl
  | true =>
    exfalso
    unfold SS.hasAny at hh
    obtain ⟨a, b⟩ := of_decide_eq_true hh
    have h1 := h.piece_le c (k + (n - 1)) (by omega) (by omega)
    have hz : S.piece c (k + (n - 1)) ≠ 0 := fun e => by
      rw [e, h.first0] at a
      have : (0 : Int) = c := a
      omega
    have hlt := h.piece_lt c (k + (n - 1))
    generalize S.piece c (k + (n - 1)) = i at *
    have hlen := (h.pcs i (by omega) hlt).2.2.2.1
    -- the last of the ids that the piece has
    obtain ⟨k', hk1, hk2, hk3, hk4⟩ : ∃ k', k ≤ k' ∧ k' < k + n ∧ (S.first i).k ≤ k' ∧ k' < (S.first i).k + S.len i := by
      by_cases hx : k + (n - 1) < (S.first i).k + S.len i
      · exact ⟨k + (n - 1), by omega, by omega, by omega, by omega⟩
      · exact ⟨(S.first i).k + S.len i - 1, by omega, by omega, by omega, by omega⟩
    have he := h.find_eq (i := i) (by omega) hlt (j := k' - (S.first i).k) (by omega) (by omega)
    rw [a, show (S.first i).k + (k' - (S.first i).k) = k' by omega] at he
    have hah := h.ahead_le i
    have hfk := h.firstOk hlt
    obtain ⟨m, hm, _, e1, e2⟩ := h.units_find (c := c) (k := k') (by omega) (by omega) (by rw [he.1]; omega)
    exact hf _ (List.getElem_mem hm) ⟨e1, by omega, by omega⟩
theorem Inv.hasAny_true {S : SS} (h : Inv S) {v : Un} (hv : v ∈ S.units) : S.hasAny v.c v.k 1 = true := by
  have hok := h.units_ok hv
  obtain ⟨m, hm, rfl⟩ := List.mem_iff_getElem.1 hv
  refine (h.hasAny_one hok.1 (by omega)).2 ?_
  rw [h.find_units m hm]; omega
/-- Between neighbours there is one place alone. -/
theorem Inv.between_at {S : SS} (h : Inv S) {u : Un} {p : Nat} (hp : p ≤ S.units.length) (hl0 : p = 0 → u.lc = 0 ∧ u.lk = 0) (hl1 : ∀ q (hq : q < S.units.length), p = q + 1 → S.units[q].c = u.lc ∧ S.units[q].k = u.lk) (hr0 : p = S.units.length → u.rc = 0 ∧ u.rk = 0) (hr1 : ∀ (hq : p < S.units.length), S.units[p].c = u.rc ∧ S.units[p].k = u.rk) : (S.between u).2.2 = true ∧ S.placeFor u = (p : Int) := by
  have hul := h.units_len
  have hleft : S.find u.lc u.lk + 1 = (p : Int) ∧ ((p : Int) = 0 → u.lc = 0 ∧ u.lk = 0) := by
    by_cases h0 : p = 0
    · obtain ⟨e1, e2⟩ := hl0 h0
      have : S.find 0 0 = -1 := h.find_none (by omega) (by omega) fun v hv => by have := h.units_ok hv; omega
      rw [e1, e2, this]
      exact ⟨by omega, fun _ => ⟨rfl, rfl⟩⟩
    · obtain ⟨q, rfl⟩ : ∃ q, p = q + 1 := ⟨p - 1, by omega⟩
      obtain ⟨e1, e2⟩ := hl1 q (by omega) rfl
      have := h.find_units q (by omega)
      rw [e1, e2] at this
      exact ⟨by omega, fun e => by omega⟩
  have hright : S.rightOf u = (p : Int) := by
    unfold SS.rightOf
    by_cases h0 : p = S.units.length
    · rw [if_pos (hr0 h0)]; omega
    · obtain ⟨e1, e2⟩ := hr1 (by omega)
      have hok := h.units_ok (List.getElem_mem (show p < S.units.length by omega))
      have := h.find_units p (by omega)
      rw [e1, e2] at this
      rw [if_neg (by omega), this]
  have hb : S.between u = ((p : Int), (p : Int), true) := by
    unfold SS.between
    rw [hleft.1, hright, if_neg]
    rintro (⟨a, b⟩ | a)
    · exact b (hleft.2 a)
    · omega
  refine ⟨by rw [hb], ?_⟩
  unfold SS.placeFor SS.placeOf
  rw [hb]
  simp only [Int.sub_self]
  show (p : Int) + ((bis _ 0 0 0 : Nat) : Int) = p
  simp [bis]
end Go.Proofs.YtnilikomoapcaaaGreat

/- Package seq: a unit between neighbours (no Go in it). -/
namespace Go.Proofs.YtnilikomoapcaaaGreat
set_option linter.unusedVariables false
set_option linter.unusedSimpArgs false

/-- A unit with the neighbours of a place for its origins. -/
def btU (S : SS) (c k : Int) (p : Nat) : Un := ⟨c, k, (S.at_ ((p : Int) - 1)).1.c, (S.at_ ((p : Int) - 1)).1.k, (S.at_ (p : Int)).1.c, (S.at_ (p : Int)).1.k⟩
theorem at_ok {S : SS} (h : Inv S) (i : Int) : 0 ≤ (S.at_ i).1.c ∧ 0 ≤ (S.at_ i).1.k ∧ (S.at_ i).1.k < 18446744073709551616 := by
  by_cases hm : i < 0 ∨ (S.units.length : Int) ≤ i
  · rw [h.at_none i hm]; exact ⟨Int.le_refl _, Int.le_refl _, by decide⟩
  · obtain ⟨k, rfl⟩ := Int.eq_ofNat_of_zero_le (show 0 ≤ i by omega)
    rw [h.at_units k (by omega)]
    have := h.units_ok (List.getElem_mem (show k < S.units.length by omega))
    exact ⟨by show 0 ≤ S.units[k].c; omega, by show 0 ≤ S.units[k].k; omega, by show S.units[k].k < _; omega⟩
theorem at_no {S : SS} (h : Inv S) (i : Int) (e : (S.at_ i).2 = false) : (S.at_ i).1 = .zero := by
  by_cases hm : i < 0 ∨ (S.units.length : Int) ≤ i
  · rw [h.at_none i hm]
  · obtain ⟨k, rfl⟩ := Int.eq_ofNat_of_zero_le (show 0 ≤ i by omega)
    rw [h.at_units k (by omega)] at e
    cases e
theorem btU_ok {S : SS} (h : Inv S) (c k : Int) (hc : 1 ≤ c) (hk : 1 ≤ k ∧ k ≤ 9007199254740991) (p : Nat) : (btU S c k p).ok := by
  have h1 := at_ok h ((p : Int) - 1)
  have h2 := at_ok h (p : Int)
  exact ⟨by show 0 ≤ c; omega, ⟨by show 0 ≤ k; omega, by show k < _; omega⟩, h1.1, ⟨h1.2.1, h1.2.2⟩, h2.1, ⟨h2.2.1, h2.2.2⟩⟩
theorem btU_between {S : SS} (h : Inv S) (c k : Int) (p : Nat) (hp : p ≤ S.units.length) : (S.between (btU S c k p)).2.2 = true ∧ S.placeFor (btU S c k p) = (p : Int) := by
  refine h.between_at hp ?_ ?_ ?_ ?_
  · intro e
    show (S.at_ ((p : Int) - 1)).1.c = 0 ∧ (S.at_ ((p : Int) - 1)).1.k = 0
    rw [h.at_none _ (by omega)]; exact ⟨rfl, rfl⟩
  · intro q hq e
    show S.units[q].c = (S.at_ ((p : Int) - 1)).1.c ∧ S.units[q].k = (S.at_ ((p : Int) - 1)).1.k
    rw [show (p : Int) - 1 = (q : Int) by omega, h.at_units q hq]
    exact ⟨rfl, rfl⟩
  · intro e
    show (S.at_ (p : Int)).1.c = 0 ∧ (S.at_ (p : Int)).1.k = 0
    rw [h.at_none _ (by omega)]; exact ⟨rfl, rfl⟩
  · intro hq
    show S.units[p].c = (S.at_ (p : Int)).1.c ∧ S.units[p].k = (S.at_ (p : Int)).1.k
    rw [h.at_units p hq]
    exact ⟨rfl, rfl⟩
/-- It may be laid, and stands there. -/
theorem btU_laid {S : SS} (h : Inv S) {m : Nat} (hz : Size S m) (hm : m ≤ 1000) (c k : Int) (hc : 1 ≤ c ∧ c ≤ 1000) (hk : 1 ≤ k ∧ k ≤ 1000000) (p n : Nat) (hp : p ≤ S.units.length) (hn : 1 ≤ n ∧ n ≤ 1000) (hf : ∀ v ∈ S.units, ¬ (v.c = c ∧ k ≤ v.k ∧ v.k < k + (n : Int))) :
    S.may (btU S c k p) n = true ∧ Inv (S.run (btU S c k p) n) ∧ (S.run (btU S c k p) n).units = S.units.take p ++ runUns (btU S c k p) n ++ S.units.drop p := by
  have hu := btU_ok h c k hc.1 ⟨hk.1, by omega⟩ p
  obtain ⟨b1, b2⟩ := btU_between h c k p hp
  have h1 := hz.tot
  have h2 := hz.pcs
  have h3 := hz.runs
  have hmay : S.may (btU S c k p) n = true := by
    refine may_iff.2 ⟨⟨?_, ?_⟩, by omega, ?_, ?_, b1⟩
    · show numOk c = true
      simp [numOk]; omega
    · show numOk k = true
      simp [numOk]; omega
    · show (n : Int) - 1 ≤ 9007199254740991 - k
      omega
    · exact h.hasAny_false (c := c) (k := k) (n := (n : Int)) (by omega) (by omega) (by omega) hf
  obtain ⟨r1, _⟩ := h.runI (u := btU S c k p) (n := (n : Int)) hu (fun _ => by omega) (by omega) (by omega)
  obtain ⟨q, hq, e, eu⟩ := h.run_unitsN hu hn.1 hmay (by omega)
  have : q = p := by omega
  subst this
  exact ⟨hmay, r1, eu⟩
/-- Where it, and the others of its run, are found. -/
theorem find_run {T : SS} (h : Inv T) {A B : List Un} {u : Un} {n : Nat} (e : T.units = A ++ runUns u n ++ B) (j : Nat) (hj : j < n) : T.find u.c (u.k + (j : Int)) = ((A.length + j : Nat) : Int) := by
  have hl : A.length + j < T.units.length := by rw [e]; simp [runUns_len]; omega
  have hx : T.units[A.length + j] = runUn u j := by
    have : T.units[A.length + j]? = some (runUn u j) := by
      rw [e, List.append_assoc, List.getElem?_append_right (by omega), List.getElem?_append_left (by rw [runUns_len]; omega)]
      rw [List.getElem?_eq_getElem (by rw [runUns_len]; omega), runUns_get]
      congr 2
      omega
    rw [List.getElem?_eq_getElem hl] at this
    exact Option.some.inj this
  have := h.find_units _ hl
  rw [hx, (runUn_c u j).1, (runUn_c u j).2.1] at this
  exact this
end Go.Proofs.YtnilikomoapcaaaGreat

/- An operation: its fields, as a value, as a block (OpM's first part alone, for seats whose road has no package ops). -/
namespace Go.Proofs.YtnilikomoapcaaaGreat
open Go.RowKit
set_option linter.unusedVariables false
set_option maxRecDepth 100000

structure O where
  c : Int
  k : Int
  kind : Int
  st : Int
  lc : Int
  lk : Int
  rc : Int
  rk : Int
  tx : ByteArray
  vk : Int
  vn : Int
  vf : Nat
  vs : ByteArray
  ky : ByteArray
  pc : Int
  pk : Int
  fc : Int
  fk : Int
  fa : Bool
  tc : Int
  tk : Int
  ta : Bool
abbrev O.vals (o : O) : Array Value := #[.int .u64 o.c, .int .u64 o.k, .int .i64 o.kind, .int .u64 o.st, .int .u64 o.lc, .int .u64 o.lk, .int .u64 o.rc, .int .u64 o.rk, .string o.tx, .int .i64 o.vk, .int .i64 o.vn, .float .f64 o.vf, .string o.vs, .string o.ky, .int .u64 o.pc, .int .u64 o.pk, .int .u64 o.fc, .int .u64 o.fk, .bool o.fa, .int .u64 o.tc, .int .u64 o.tk, .bool o.ta]
abbrev O.val (o : O) : Value := .agg o.vals
abbrev opO (o : O) : Obj := .cells o.vals 39
/-- What is so of every operation that comes in. -/
structure O.fits (o : O) : Prop where
  c0 : 0 ≤ o.c ∧ o.c < 18446744073709551616
  k0 : 0 ≤ o.k ∧ o.k < 18446744073709551616
  kind : -9223372036854775808 ≤ o.kind ∧ o.kind < 9223372036854775808
  st : 0 ≤ o.st ∧ o.st < 18446744073709551616
  lc : 0 ≤ o.lc ∧ o.lc < 18446744073709551616
  lk : 0 ≤ o.lk ∧ o.lk < 18446744073709551616
  rc : 0 ≤ o.rc ∧ o.rc < 18446744073709551616
  rk : 0 ≤ o.rk ∧ o.rk < 18446744073709551616
  pc : 0 ≤ o.pc ∧ o.pc < 18446744073709551616
  pk : 0 ≤ o.pk ∧ o.pk < 18446744073709551616
  fc : 0 ≤ o.fc ∧ o.fc < 18446744073709551616
  fk : 0 ≤ o.fk ∧ o.fk < 18446744073709551616
  tc : 0 ≤ o.tc ∧ o.tc < 18446744073709551616
  tk : 0 ≤ o.tk ∧ o.tk < 18446744073709551616
  vk : -9223372036854775808 ≤ o.vk ∧ o.vk < 9223372036854775808
  vn : -9223372036854775808 ≤ o.vn ∧ o.vn < 9223372036854775808
  vf : o.vf < 18446744073709551616
end Go.Proofs.YtnilikomoapcaaaGreat
