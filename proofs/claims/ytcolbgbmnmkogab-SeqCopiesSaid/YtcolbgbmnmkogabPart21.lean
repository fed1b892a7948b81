/- Package seq: its units as a list (no Go in it): what At, Find, Len and Insert say of it. -/
import Derived.Test.YtcolbgbmnmkogabSqT
import Derived.Test.YtcolbgbmnmkogabSeqW6
import Derived.Test.YtcolbgbmnmkogabPart20
import Derived.Test.YtcolbgbmnmkogabRowV
namespace Go.Proofs.Ytcolbgbmnmkogab
set_option linter.unusedVariables false
set_option linter.unusedSimpArgs false

def SS.units (S : SS) : List Un := S.spots.map S.unit
theorem Inv.units_len {S : SS} (h : Inv S) : (S.units.length : Int) = S.total := by
  unfold SS.units
  rw [List.length_map]; exact h.spots_len
theorem units_get (S : SS) (m : Nat) (hm : m < S.units.length) (hm' : m < S.spots.length) : S.units[m] = S.unit S.spots[m] := List.getElem_map _
theorem Inv.spot_run {S : SS} (h : Inv S) {x : Sp} (hx : x ∈ S.spots) : 0 < x.run ∧ x.run < S.runs.length ∧ 0 ≤ x.pos ∧ (rn S.runs x.run).first.k + x.pos ≤ 9007199254740991 := by
  unfold SS.spots at hx
  obtain ⟨i, hi, hx⟩ := List.mem_flatMap.1 hx
  have hl := (h.ordF.lab i).1 hi
  obtain ⟨q1, q2, q3, q4, q5⟩ := h.pcs i (by omega) hl.2
  obtain ⟨j, hj, rfl⟩ := spotsFrom_mem hx
  exact ⟨q1, q2, by show 0 ≤ (S.pc i).pos + (j : Int); omega, by show (rn S.runs (S.pc i).run).first.k + ((S.pc i).pos + (j : Int)) ≤ _; omega⟩
theorem Inv.at_units {S : SS} (h : Inv S) (m : Nat) (hm : m < S.units.length) : S.at_ (m : Int) = (S.units[m], true) := by
  have hl := h.units_len
  unfold SS.at_
  rw [if_neg (by omega)]
  have hg := h.spotAt_get (m : Int) (by omega) (by omega)
  rw [Int.toNat_natCast] at hg
  have hu : S.units[m]? = some (S.unit (S.spotAt m)) := by
    unfold SS.units
    rw [List.getElem?_map, hg]; rfl
  rw [List.getElem?_eq_getElem hm] at hu
  rw [Option.some.inj hu]
theorem Inv.at_none {S : SS} (h : Inv S) (i : Int) (hi : i < 0 ∨ (S.units.length : Int) ≤ i) : S.at_ i = (.zero, false) := by
  have hl := h.units_len
  unfold SS.at_
  rw [if_pos (by omega)]
/-- A unit's id is found at its place. -/
theorem Inv.find_units {S : SS} (h : Inv S) (m : Nat) (hm : m < S.units.length) : S.find S.units[m].c S.units[m].k = (m : Int) := by
  have hm' : m < S.spots.length := by simpa [SS.units] using hm
  have := (h.find_at (List.getElem?_eq_getElem hm')).1
  rw [units_get S m hm hm']; exact this
theorem Inv.units_find {S : SS} (h : Inv S) {c k : Int} (hc : 0 ≤ c) (hk : 0 ≤ k) (hf : S.find c k ≠ -1) : ∃ m, ∃ hm : m < S.units.length, S.find c k = (m : Int) ∧ S.units[m].c = c ∧ S.units[m].k = k := by
  obtain ⟨a1, a2, a3, a4⟩ := h.at_find hc hk hf
  have hm : (S.find c k).toNat < S.spots.length := (List.getElem?_eq_some_iff.1 a2).1
  have e : S.spots[(S.find c k).toNat] = S.spotOf c k := (List.getElem?_eq_some_iff.1 a2).2
  have hm' : (S.find c k).toNat < S.units.length := by simpa [SS.units] using hm
  have e2 : S.units[(S.find c k).toNat] = S.unit (S.spotOf c k) := by
    rw [units_get S _ hm' hm, e]
  exact ⟨_, hm', by omega, by rw [e2]; exact a3, by rw [e2]; exact a4⟩
theorem Inv.find_none {S : SS} (h : Inv S) {c k : Int} (hc : 0 ≤ c) (hk : 0 ≤ k) (hn : ∀ v ∈ S.units, ¬ (v.c = c ∧ v.k = k)) : S.find c k = -1 :=
  Decidable.byContradiction fun hf => by
    obtain ⟨m, hm, _, e1, e2⟩ := h.units_find hc hk hf
    exact hn _ (List.getElem_mem hm) ⟨e1, e2⟩
theorem Inv.units_nodup {S : SS} (h : Inv S) {i j : Nat} (hi : i < S.units.length) (hj : j < S.units.length) (hc : S.units[i].c = S.units[j].c) (hk : S.units[i].k = S.units[j].k) : i = j := by
  have h1 := h.find_units i hi
  have h2 := h.find_units j hj
  rw [hc, hk, h2] at h1
  omega
/-- What is so of its units: right ids. -/
theorem Inv.units_ok {S : SS} (h : Inv S) {v : Un} (hv : v ∈ S.units) : 1 ≤ v.c ∧ v.c ≤ 9007199254740991 ∧ 1 ≤ v.k ∧ v.k ≤ 9007199254740991 := by
  unfold SS.units at hv
  obtain ⟨x, hx, rfl⟩ := List.mem_map.1 hv
  obtain ⟨a, b, c, d⟩ := h.spot_run hx
  have := h.runs x.run a b
  rw [SS.unit_c, SS.unit_k]
  omega
/-- One unit more: it stands at its place, all others as they stood. -/
theorem Inv.run_units {S : SS} (h : Inv S) {u : Un} (hu : u.ok) (hm : S.may u 1 = true) (hR : Room S 1) : ∃ p : Nat, p ≤ S.units.length ∧ (p : Int) = S.placeFor u ∧ (S.run u 1).units = S.units.take p ++ u :: S.units.drop p := by
  obtain ⟨⟨a, b⟩, c, d, e, f⟩ := may_iff.1 hm
  have hnc : 1 ≤ u.c ∧ u.c ≤ 9007199254740991 := by simpa [numOk] using a
  obtain ⟨p0, p1⟩ := h.placeLe hu f
  have hl := h.units_len
  have hrp := hR.pcs
  obtain ⟨y, y1, y2, y3, _⟩ := h.lay_spots (S.placeFor u) p0 p1 (by omega) u hnc.1 (S.parentOf u).1 1 (Nat.le_refl _)
  refine ⟨(S.placeFor u).toNat, by omega, by omega, ?_⟩
  have e1 : S.run u 1 = S.lay (S.placeFor u) u (S.parentOf u).1 (1 : Nat) := by unfold SS.run; rw [if_pos hm]; rfl
  rw [e1]
  unfold SS.units
  have hold : ∀ l : List Sp, (∀ x ∈ l, x ∈ S.spots) → l.map (S.lay (S.placeFor u) u (S.parentOf u).1 (1 : Nat)).unit = l.map S.unit := fun l hl => List.map_congr_left fun x hx => y3 x (h.spot_run (hl x hx)).2.1
  have hs1 : spotsFrom y 1 = [y] := by
    unfold spotsFrom
    simp
  rw [y1, List.map_append, List.map_append, hold _ fun x hx => List.mem_of_mem_take hx, hold _ fun x hx => List.mem_of_mem_drop hx, hs1, List.map_take, List.map_drop, List.map_cons, List.map_nil, y2, List.append_assoc, List.singleton_append]
theorem run_no {S : SS} {u : Un} (hm : S.may u 1 = false) : S.run u 1 = S := by unfold SS.run; rw [hm]; rfl
/-- How great it is. -/
structure Size (S : SS) (n : Nat) : Prop where
  tot : S.total ≤ n
  pcs : S.pcs.length ≤ 2 * n + 1
  runs : S.runs.length ≤ n + 1
theorem Size.room {S : SS} {n : Nat} (h : Size S n) (hn : n ≤ 1000000) (m : Nat) (hm : m ≤ 1000000) : Room S m := by
  have := h.tot
  have := h.pcs
  have := h.runs
  exact ⟨by omega, by omega, by omega⟩
theorem Size.new : Size .new 0 := ⟨by decide, by decide, by decide⟩
theorem Size.mono {S : SS} {n m : Nat} (h : Size S n) (hm : n ≤ m) : Size S m := by
  have := h.tot
  have := h.pcs
  have := h.runs
  exact ⟨by omega, by omega, by omega⟩
theorem Inv.run1 {S : SS} (h : Inv S) {u : Un} (hu : u.ok) {n : Nat} (hz : Size S n) (hn : n ≤ 1000000) : Inv (S.run u 1) ∧ Size (S.run u 1) (n + 1) := by
  have h1 := hz.tot
  have h2 := hz.pcs
  have h3 := hz.runs
  obtain ⟨a, b, c, d⟩ := h.runI (u := u) (n := 1) hu (fun _ => by omega) (by omega) (by omega)
  refine ⟨a, ?_, by omega, by omega⟩
  rw [b]
  split <;> omega
/-- Units inserted one after the other. -/
def seqOf (us : List Un) : SS := us.foldl (fun S u => S.run u 1) .new
theorem seqOf_take (us : List Un) (j : Nat) (hj : j < us.length) : seqOf (us.take (j + 1)) = (seqOf (us.take j)).run us[j] 1 := by
  unfold seqOf
  rw [List.take_succ_eq_append_getElem hj, List.foldl_append]; rfl
theorem seqOf_inv (us : List Un) (hu : ∀ u ∈ us, u.ok) (hl : us.length ≤ 1000000) : ∀ j, j ≤ us.length → Inv (seqOf (us.take j)) ∧ Size (seqOf (us.take j)) j
  | 0, _ => ⟨Inv.new, Size.new⟩
  | j + 1, h => by
    obtain ⟨a, b⟩ := seqOf_inv us hu hl j (by omega)
    rw [seqOf_take us j h]
    exact a.run1 (hu _ (List.getElem_mem _)) b (by omega)
/-- Its units are among those that were inserted. -/
theorem seqOf_mem (us : List Un) (hu : ∀ u ∈ us, u.ok) (hl : us.length ≤ 1000000) : ∀ j, j ≤ us.length → ∀ v ∈ (seqOf (us.take j)).units, v ∈ us
  | 0, _, v, hv => by
    have : (seqOf (us.take 0)).units = [] := rfl
    rw [this] at hv
    exact (List.not_mem_nil hv).elim
  | j + 1, h, v, hv => by
    obtain ⟨a, b⟩ := seqOf_inv us hu hl j (by omega)
    have ih := seqOf_mem us hu hl j (by omega)
    rw [seqOf_take us j h] at hv
    cases hm : (seqOf (us.take j)).may us[j] 1 with
    | false => rw [run_no hm] at hv; exact ih v hv
    | true =>
      obtain ⟨p, _, _, e⟩ := a.run_units (hu _ (List.getElem_mem _)) hm (b.room (by omega) 1 (by omega))
      rw [e] at hv
      rcases List.mem_append.1 hv with hv | hv
      · exact ih v (List.mem_of_mem_take hv)
      · rcases List.mem_cons.1 hv with rfl | hv
        · exact List.getElem_mem _
        · exact ih v (List.mem_of_mem_drop hv)
/-- A unit with a new id, its Left there or none, no Right: it may be inserted. -/
theorem Inv.may_new {S : SS} (h : Inv S) {u : Un} (hc : numOk u.c = true) (hk : numOk u.k = true) (hn : ∀ v ∈ S.units, ¬ (v.c = u.c ∧ v.k = u.k)) (hr : u.rc = 0 ∧ u.rk = 0) (hl : (u.lc = 0 ∧ u.lk = 0) ∨ ∃ v ∈ S.units, v.c = u.lc ∧ v.k = u.lk) : S.may u 1 = true := by
  have hc' : 1 ≤ u.c ∧ u.c ≤ 9007199254740991 := by simpa [numOk] using hc
  have hk' : 1 ≤ u.k ∧ u.k ≤ 9007199254740991 := by simpa [numOk] using hk
  refine may_iff.2 ⟨⟨hc, hk⟩, Int.le_refl _, by omega, ?_, ?_⟩
  · cases hh : S.hasAny u.c u.k 1 with
    | false => rfl
    | true => exact absurd (h.find_none (by omega) (by omega) hn) ((h.hasAny_one hc'.1 (by omega)).1 hh)
  · have hf : S.find u.lc u.lk < S.total ∧ (S.find u.lc u.lk + 1 = 0 → u.lc = 0 ∧ u.lk = 0) := by
      rcases hl with hl | ⟨v, hv, e1, e2⟩
      · refine ⟨?_, fun _ => hl⟩
        have := h.find_le 0 0 (by omega) (by omega)
        have ht := h.total_nn
        rw [hl.1, hl.2]; omega
      · obtain ⟨m, hm, rfl⟩ := List.mem_iff_getElem.1 hv
        have := h.find_units m hm
        rw [e1, e2] at this
        have hul := h.units_len
        exact ⟨by omega, fun _ => by omega⟩
    unfold SS.between SS.rightOf
    rw [if_pos hr, if_neg]
    rintro (⟨a, b⟩ | a)
    · exact b (hf.2 a)
    · omega
end Go.Proofs.Ytcolbgbmnmkogab

/- Package seq: sequences side by side, with units beside them. -/
namespace Go.Proofs.Ytcolbgbmnmkogab
open Go.RowKit
set_option linter.unusedVariables false
set_option linter.unusedSimpArgs false

/-- A sequence at p, made since w0, in the blocks B. -/
structure Sq1 (w0 w : World) (p : Nat) (B : Bk) (S : SS) : Prop where
  mem : SeqM w B S
  at_ : B.b = p
  new : ∀ k, B.has k → w0.heap.size ≤ k
  inv : Inv S
def ApartB (B C : Bk) : Prop := ∀ k, B.has k → ¬ C.has k
theorem ApartB.symm {B C : Bk} (h : ApartB B C) : ApartB C B := fun k hk hb => h k hb hk
theorem Sq1.touch {w0 w w' : World} {p : Nat} {B : Bk} {S : SS} (h : Sq1 w0 w p B S) (t : Touch (fun _ => False) w w') : Sq1 w0 w' p B S := ⟨h.mem.keep0 t, h.at_, h.new, h.inv⟩
/-- Another one's blocks are touched alone. -/
theorem Sq1.other {w0 w w' : World} {p : Nat} {B C : Bk} {S : SS} (h : Sq1 w0 w p B S) (t : Touch C.has w w') (ha : ApartB B C) : Sq1 w0 w' p B S := ⟨h.mem.keep t ha, h.at_, h.new, h.inv⟩
/-- A block of a sequence has a type of its own. -/
theorem SeqM.typ {w : World} {B : Bk} {S : SS} (h : SeqM w B S) {k : Nat} (hk : B.has k) : ∃ c t fr, w.heap[k]? = some (.cells c t fr) ∧ t ≠ 33 := by
  rcases hk with rfl | rfl | rfl | rfl | rfl
  · obtain ⟨c, hc⟩ := h.blk
    exact ⟨c, _, _, hc, by decide⟩
  · obtain ⟨c, hc, _⟩ := h.runs.row
    exact ⟨c, _, _, hc, by decide⟩
  · obtain ⟨c, hc, _⟩ := h.pcs.row
    exact ⟨c, _, _, hc, by decide⟩
  · obtain ⟨L, tr, h1, _⟩ := h.ord
    obtain ⟨c, hc, _⟩ := h1.row
    exact ⟨c, _, _, hc, by decide⟩
  · obtain ⟨L, tr, h1, _⟩ := h.idx
    obtain ⟨c, hc, _⟩ := h1.row
    exact ⟨c, _, _, hc, by decide⟩
theorem SeqM.noBox {w : World} {B : Bk} {S : SS} (h : SeqM w B S) {m : Nat} {u : Un} (hm : w.heap[m]? = some (unO u)) : ¬ B.has m := fun hk => by
  obtain ⟨c, t, fr, e, ht⟩ := h.typ hk
  rw [hm] at e
  simp at e
  exact ht e.2.1.symm
theorem SeqM.noOwn {w0 w : World} {B : Bk} {S : SS} {v : Value} {n : Nat} {xs : List Value} (h : SeqM w B S) (hv : OwnV w0 w v n xs) : ∀ k, v.ownBlock = some k → ¬ B.has k := fun k e hk => by
  obtain ⟨c, t, fr, e2, ht⟩ := h.typ hk
  rcases hv.owns.2 with ⟨e', _⟩ | ⟨g, cap, cur, e', q, hg, _⟩
  · rw [e'] at e; simp [Value.ownBlock] at e
  · rw [e'] at e
    have hgk : g = k := by simpa [Value.ownBlock] using e
    rw [hgk, e2] at hg
    simp at hg
    exact ht hg.2.1
theorem Sq1.ins {w0 w : World} {p : Nat} {B : Bk} {S : SS} (h : Sq1 w0 w p B S) (u : Un) (hu : u.ok) {n : Nat} (hz : Size S n) (hn : n ≤ 1000000) :
    Calls Try.prog 9 #[.pointer (some ⟨p, 0, none⟩), .agg #[.int .u64 u.c, .int .u64 u.k, .int .u64 u.lc, .int .u64 u.lk, .int .u64 u.rc, .int .u64 u.rk]] w fun e w' => e = .returned (.bool (S.may u 1)) ∧ ∃ B', Sq1 w0 w' p B' (S.run u 1) ∧ (∀ x, B'.has x → B.has x ∨ w.heap.size ≤ x) ∧ Touch B.has w w' := by
  have hp := h.at_
  subst hp
  refine (insert_any h.mem h.inv u hu (hz.room hn 1 (by omega))).mono ?_
  rintro e w' ⟨rfl, B', a, b, c, d⟩
  refine ⟨rfl, B', ⟨a, b, fun k hk => ?_, (h.inv.run1 hu hz hn).1⟩, c, d⟩
  rcases c k hk with e | e
  · exact h.new k e
  · obtain ⟨c', hc⟩ := h.mem.blk
    have h1 := lt_of_heap hc
    have h2 := h.new B.b (.inl rfl)
    omega
theorem Sq1.len {w0 w : World} {p : Nat} {B : Bk} {S : SS} (h : Sq1 w0 w p B S) :
    Calls Try.prog 13 #[.pointer (some ⟨p, 0, none⟩)] w fun e w' => e = .returned (.int .i64 (S.units.length : Int)) ∧ Touch (fun _ => False) w w' := by
  have hp := h.at_
  subst hp
  have := len_any h.mem
  rw [← h.inv.units_len] at this
  exact this
theorem Sq1.at' {w0 w : World} {p : Nat} {B : Bk} {S : SS} (h : Sq1 w0 w p B S) (i : Int) (hi : -4611686018427387904 ≤ i ∧ i ≤ 4611686018427387904) :
    Calls Try.prog 12 #[.pointer (some ⟨p, 0, none⟩), .int .i64 i] w fun e w' => e = .returned (.tuple #[.agg #[.int .u64 ((S.at_ i).1).c, .int .u64 ((S.at_ i).1).k, .int .u64 ((S.at_ i).1).lc, .int .u64 ((S.at_ i).1).lk, .int .u64 ((S.at_ i).1).rc, .int .u64 ((S.at_ i).1).rk], .bool (S.at_ i).2]) ∧ Touch (fun _ => False) w w' := by
  have hp := h.at_
  subst hp
  exact at_any2 h.mem h.inv i hi
theorem Sq1.find {w0 w : World} {p : Nat} {B : Bk} {S : SS} (h : Sq1 w0 w p B S) (c k : Int) (hc : 0 ≤ c) (hk : 0 ≤ k) (hk2 : k < 18446744073709551616) :
    Calls Try.prog 14 #[.pointer (some ⟨p, 0, none⟩), .agg #[.int .u64 c, .int .u64 k]] w fun e w' => e = .returned (.int .i64 (S.find c k)) ∧ Touch (fun _ => False) w w' := by
  have hp := h.at_
  subst hp
  exact find_any h.mem h.inv c k hc hk hk2
theorem Sq1.fresh (w0 w : World) (t : Touch (fun _ => False) w0 w) :
    Calls Try.prog 7 #[] w fun e w' => ∃ p B, e = .returned (.pointer (some ⟨p, 0, none⟩)) ∧ Sq1 w0 w' p B .new ∧ (∀ k, B.has k → w.heap.size ≤ k) ∧ Touch (fun _ => False) w w' := by
  refine (new_any w).mono ?_
  rintro e w' ⟨B, rfl, a, b, c⟩
  exact ⟨B.b, B, rfl, ⟨a, rfl, fun k hk => Nat.le_trans t.size (b k hk), Inv.new⟩, b, c⟩
theorem Sq1.copy {w0 w : World} {p : Nat} {B : Bk} {S : SS} (h : Sq1 w0 w p B S) {n : Nat} (hz : Size S n) (hn : n ≤ 1000000) (t : Touch (fun _ => False) w0 w) :
    Calls Try.prog 10 #[.pointer (some ⟨p, 0, none⟩)] w fun e w' => ∃ q C, e = .returned (.pointer (some ⟨q, 0, none⟩)) ∧ Sq1 w0 w' q C S ∧ (∀ k, C.has k → w.heap.size ≤ k) ∧ Touch (fun _ => False) w w' := by
  have hp := h.at_
  subst hp
  have h1 := hz.pcs
  have h2 := hz.runs
  refine (copy_any h.mem (by omega) (by omega)).mono ?_
  rintro e w' ⟨C, rfl, a, b, c⟩
  exact ⟨C.b, C, rfl, ⟨a, rfl, fun k hk => Nat.le_trans t.size (b k hk), h.inv⟩, b, c⟩
/-- Blocks that are new are none of another's. -/
theorem Sq1.apart {w0 w : World} {p : Nat} {B C C' : Bk} {S : SS} (h : Sq1 w0 w p B S) (ha : ApartB B C) (hc : ∀ x, C'.has x → C.has x ∨ w.heap.size ≤ x) : ApartB B C' := fun k hk hk' => by
  rcases hc k hk' with e | e
  · exact ha k hk e
  · have := h.mem.lt hk
    omega
theorem Sq1.touch0 {w0 w w' : World} {p : Nat} {B : Bk} {S : SS} (h : Sq1 w0 w p B S) (t0 : Touch (fun _ => False) w0 w) (t : Touch B.has w w') : Touch (fun _ => False) w0 w' := t0.then t fun k hk e => by
  have := h.new k e
  omega
theorem OwnV.onB {w0 w w' : World} {p : Nat} {B : Bk} {S : SS} {v : Value} {n : Nat} {xs : List Value} (hv : OwnV w0 w v n xs) (h : Sq1 w0 w p B S) (t : Touch B.has w w') : OwnV w0 w' v n xs :=
  ⟨ownV_touch hv.owns t (h.mem.noOwn hv), h.touch0 hv.touch t, hv.fresh⟩
end Go.Proofs.Ytcolbgbmnmkogab
