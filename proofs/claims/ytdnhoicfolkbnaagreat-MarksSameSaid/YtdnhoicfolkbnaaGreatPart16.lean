/- Package seq: New, Insert, At. -/
import Derived.Test.YtdnhoicfolkbnaaGreatPart14
import Derived.Test.YtdnhoicfolkbnaaGreatPart15
namespace Go.Proofs.YtdnhoicfolkbnaaGreat
open Go.RowKit
set_option linter.unusedVariables false
set_option linter.unusedSimpArgs false
set_option maxRecDepth 100000

theorem Inv.new : Inv .new := by
  have hf : RowF 1 [] (fun _ => (0 : Int)) := ⟨by omega, List.nodup_nil, fun x => ⟨fun h => (List.not_mem_nil h).elim, fun h => absurd h.2 (by omega)⟩, fun _ => Int.le_refl _, rfl, fun _ _ => rfl⟩
  have hz : ∀ r, rn SS.new.runs r = .zero := fun r => by
    by_cases h : r = 0
    · subst h; rfl
    · exact rn_out (by show 1 ≤ r; omega)
  refine ⟨rfl, by decide, by decide, by decide, by decide, fun r h1 h2 => absurd h2 (by show ¬ r < 1; omega), fun r => ?_, rfl, hf, hf, fun i h1 h2 => absurd h2 (by show ¬ i < 1; omega), List.Pairwise.nil⟩
  rw [hz r]
  exact ⟨by decide, by decide, by decide, by decide, by decide, by decide⟩
theorem row_new {w : World} {b k g : Nat} (hc : w.cell? ⟨b, k, none⟩ = some (.slice (some ⟨g, 0, none⟩) 1 1)) (hb : b ≠ g) (hg : w.heap[g]? = some (.cells #[iV 0, iV 0, iV 0, iV 0, iV 0] 146 (0, 0))) : RowAt w b k g 1 1 [] (fun _ => 0) := by
  refine ⟨[⟨0, 0, 0, 0, 0⟩], .nil, ⟨hc, hb, _, hg, rfl, Nat.le_refl _, by decide, rfl⟩, rfl, RowOk.new, rfl, fun x => ?_⟩
  by_cases h : x = 0
  · subst h; rfl
  · rw [gt_out (by show 1 ≤ x; omega)]
set_option maxHeartbeats 8000000 in
theorem new_any (w : World) : Calls Tryz.prog 29 #[] w fun e w' => ∃ B, e = .returned (sP B) ∧ SeqM w' B .new ∧ (∀ x, B.has x → w.heap.size ≤ x) ∧ Touch (fun _ => False) w w' := by
  have bz1 : ∀ W : World, (Instr.buildSlice 107 1 #[(0, .agg #[u64 0, u64 0, u64 0, u64 0, u64 0, u64 0, iV 0, u64 0, iV 0, u64 0, iV 0])]).run Tryz.prog W = .ok (.slice (some ⟨W.heap.size, 0, none⟩) 1 1) (W.alloc (.cells #[u64 0, u64 0, u64 0, u64 0, u64 0, u64 0, iV 0, u64 0, iV 0, u64 0, iV 0] 106)) := fun W => by kernel_rfl
  have bz2 : ∀ W : World, (Instr.buildSlice 108 1 #[(0, .agg #[iV 0, u64 0])]).run Tryz.prog W = .ok (.slice (some ⟨W.heap.size, 0, none⟩) 1 1) (W.alloc (.cells #[iV 0, u64 0] 104)) := fun W => by kernel_rfl
  have hw := heap_two w (.cells #[u64 0, u64 0, u64 0, u64 0, u64 0, u64 0, iV 0, u64 0, iV 0, u64 0, iV 0] 106) (.cells #[iV 0, u64 0] 104)
  obtain ⟨E, hE⟩ : ∃ E, Hid (E = (w.alloc (.cells #[u64 0, u64 0, u64 0, u64 0, u64 0, u64 0, iV 0, u64 0, iV 0, u64 0, iV 0] 106)).alloc (.cells #[iV 0, u64 0] 104)) := ⟨_, Eq.refl _⟩
  have HE : Hid (Touch (fun _ => False) w E ∧ E.heap[w.heap.size]? = some (.cells #[u64 0, u64 0, u64 0, u64 0, u64 0, u64 0, iV 0, u64 0, iV 0, u64 0, iV 0] 106) ∧ E.heap[w.heap.size + 1]? = some (.cells #[iV 0, u64 0] 104) ∧ w.heap.size + 2 ≤ E.heap.size) := by
    rw [hE.out]
    exact ⟨((Touch.refl _ _).alloc _).alloc _, hw.1, hw.2, by simp⟩
  clear hw
  go_enter Tryz.func29, Tryz.ntmps29
  go_wp2_with fail
  rw [← hE.out]
  clear hE bz1 bz2
  refine (newRow_any E).mono ?_
  rintro e W1 ⟨g1, rfl, q1, q2, t1⟩
  have H1 : Hid (E.heap.size ≤ g1 ∧ W1.heap[g1]? = some (.cells #[iV 0, iV 0, iV 0, iV 0, iV 0] 146 (0, 0)) ∧ Touch (fun _ => False) E W1) := ⟨q1, q2, t1⟩
  clear q1 q2 t1
  go_wp2_with fail
  refine (newRow_any W1).mono ?_
  rintro e W2 ⟨g2, rfl, q1, q2, t1⟩
  have H2 : Hid (W1.heap.size ≤ g2 ∧ W2.heap[g2]? = some (.cells #[iV 0, iV 0, iV 0, iV 0, iV 0] 146 (0, 0)) ∧ Touch (fun _ => False) W1 W2) := ⟨q1, q2, t1⟩
  clear q1 q2 t1
  have HF : Hid (SeqM (W2.alloc (.cells #[.slice (some ⟨w.heap.size, 0, none⟩) 1 1, .slice (some ⟨w.heap.size + 1, 0, none⟩) 1 1, .slice (some ⟨g1, 0, none⟩) 1 1, .slice (some ⟨g2, 0, none⟩) 1 1] 114)) ⟨W2.heap.size, w.heap.size, 1, w.heap.size + 1, 1, g1, 1, g2, 1⟩ .new) := by
    have tt := (Touch.refl (fun _ => False) W2).alloc (.cells #[.slice (some ⟨w.heap.size, 0, none⟩) 1 1, .slice (some ⟨w.heap.size + 1, 0, none⟩) 1 1, .slice (some ⟨g1, 0, none⟩) 1 1, .slice (some ⟨g2, 0, none⟩) 1 1] 114)
    have hb := heap_alloc_new W2 (.cells #[.slice (some ⟨w.heap.size, 0, none⟩) 1 1, .slice (some ⟨w.heap.size + 1, 0, none⟩) 1 1, .slice (some ⟨g1, 0, none⟩) 1 1, .slice (some ⟨g2, 0, none⟩) 1 1] 114)
    have a0 := lt_of_heap H1.out.2.1
    have a1 := lt_of_heap H2.out.2.1
    have a2 := H1.out.1
    have a3 := H2.out.1
    have a4 := HE.out.2.2.2
    have a5 := H2.out.2.2.size
    have a6 := H1.out.2.2.size
    have t2 := H1.out.2.2.trans H2.out.2.2
    refine ⟨⟨_, hb⟩, ⟨by rw [cell_of_block hb]; rfl, by show W2.heap.size ≠ w.heap.size; omega, _, heap_keep (t2.trans tt) HE.out.2.1, rfl, Nat.le_refl _, by show 1 ≤ _; decide, rfl⟩, ⟨by rw [cell_of_block hb]; rfl, by show W2.heap.size ≠ w.heap.size + 1; omega, _, heap_keep (t2.trans tt) HE.out.2.2.1, rfl, Nat.le_refl _, by show 1 ≤ _; decide, rfl⟩, row_new (by rw [cell_of_block hb]; rfl) (by show W2.heap.size ≠ g1; omega) (heap_keep (H2.out.2.2.trans tt) H1.out.2.1), row_new (by rw [cell_of_block hb]; rfl) (by show W2.heap.size ≠ g2; omega) (heap_keep tt H2.out.2.1), ?_⟩
    simp only [List.nodup_cons, List.mem_cons, List.not_mem_nil, or_false, not_or, List.nodup_nil, and_true, not_false_eq_true]
    exact ⟨⟨by omega, by omega, by omega⟩, ⟨by omega, by omega⟩, by omega⟩
  have HS : Hid (∀ x, Bk.has ⟨W2.heap.size, w.heap.size, 1, w.heap.size + 1, 1, g1, 1, g2, 1⟩ x → w.heap.size ≤ x) := by
    have a2 := H1.out.1
    have a3 := H2.out.1
    have a4 := HE.out.2.2.2
    have a5 := H2.out.2.2.size
    have a6 := H1.out.2.2.size
    rintro x (e | e | e | e | e)
    · have e' : x = W2.heap.size := e
      omega
    · have e' : x = w.heap.size := e
      omega
    · have e' : x = w.heap.size + 1 := e
      omega
    · have e' : x = g1 := e
      omega
    · have e' : x = g2 := e
      omega
  have HT : Hid (Touch (fun _ => False) w (W2.alloc (.cells #[.slice (some ⟨w.heap.size, 0, none⟩) 1 1, .slice (some ⟨w.heap.size + 1, 0, none⟩) 1 1, .slice (some ⟨g1, 0, none⟩) 1 1, .slice (some ⟨g2, 0, none⟩) 1 1] 114))) := (HE.out.1.trans (H1.out.2.2.trans H2.out.2.2)).alloc _
  go_wp2_with fail
  go_ret
  exact ⟨_, rfl, HF.out, HS.out, HT.out⟩
/-- What a step asks and leaves, all told. -/
structure Room (S : SS) (m : Nat) : Prop where
  tot : S.total + m ≤ 281474976710656
  pcs : S.pcs.length + 2 * m ≤ 1073741824
  runs : S.runs.length + m ≤ 1073741824
theorem SeqM.run {w : World} {B : Bk} {S : SS} (h : SeqM w B S) (hI : Inv S) (u : Un) (hu : u.ok) (n : Int) (m : Nat) (hn : n ≤ m) (hn2 : -1152921504606846976 ≤ n) (hm : 1 ≤ m) (hR : Room S m) :
    Calls Tryz.prog 31 #[sP B, .agg #[u64 (u).c, u64 (u).k, u64 (u).lc, u64 (u).lk, u64 (u).rc, u64 (u).rk], iV n] w fun e w' => e = .returned (.bool (S.may u n)) ∧ Laid w w' B (S.run u n) := by
  have := hR.tot
  have := hR.pcs
  have := hI.total_nn
  refine run_any h hI u hu n ⟨hn2, by omega⟩ fun hmay => ?_
  obtain ⟨c1, c2, c3⟩ := hI.cutI (S.placeFor u) (by omega)
  exact ⟨c1, by rw [c2]; omega⟩
set_option maxHeartbeats 4000000 in
theorem insert_any {w : World} {B : Bk} {S : SS} (h : SeqM w B S) (hI : Inv S) (u : Un) (hu : u.ok) (hR : Room S 1) :
    Calls Tryz.prog 32 #[sP B, .agg #[u64 (u).c, u64 (u).k, u64 (u).lc, u64 (u).lk, u64 (u).rc, u64 (u).rk]] w fun e w' => e = .returned (.bool (S.may u 1)) ∧ Laid w w' B (S.run u 1) := by
  have hT : Touch (fun _ => False) w (w.alloc (.cells #[u64 u.c, u64 u.k, u64 u.lc, u64 u.lk, u64 u.rc, u64 u.rk] 59)) := (Touch.refl _ _).alloc _
  have HL : Hid (Calls Tryz.prog 31 #[sP B, .agg #[u64 (u).c, u64 (u).k, u64 (u).lc, u64 (u).lk, u64 (u).rc, u64 (u).rk], iV 1] (w.alloc (.cells #[u64 u.c, u64 u.k, u64 u.lc, u64 u.lk, u64 u.rc, u64 u.rk] 59)) fun e w' => e = .returned (.bool (S.may u 1)) ∧ Laid (w.alloc (.cells #[u64 u.c, u64 u.k, u64 u.lc, u64 u.lk, u64 u.rc, u64 u.rk] 59)) w' B (S.run u 1)) := (h.keep0 hT).run hI u hu 1 1 (by omega) (by omega) (by omega) hR
  have HT : Hid (Touch (fun _ => False) w (w.alloc (.cells #[u64 u.c, u64 u.k, u64 u.lc, u64 u.lk, u64 u.rc, u64 u.rk] 59))) := hT
  generalize S.may u 1 = may at *
  generalize S.run u 1 = S' at *
  obtain ⟨uc, uk, ulc, ulk, urc, urk⟩ := u
  simp only at HL HT ⊢
  clear h hI hu hT hR
  go_enter Tryz.func32, Tryz.ntmps32
  go_wp2_with fail
  refine HL.out.mono ?_
  rintro e w1 ⟨rfl, l1⟩
  have HF : Hid (Laid w w1 B S') := l1.after0 HT.out
  clear l1
  go_wp2_with fail
  go_ret
  exact ⟨rfl, HF.out⟩
theorem atF_lt {len : Nat → Int} (hl : ∀ x, 0 ≤ len x) : ∀ (l : List Nat) (p : Int), 0 ≤ p → p < sumF len l → (atF len l p).1 ∈ l ∧ 0 ≤ (atF len l p).2 ∧ (atF len l p).2 < len (atF len l p).1
  | [], p, h1, h2 => by rw [sumF_nil] at h2; omega
  | i :: l, p, h1, h2 => by
    rw [sumF_cons] at h2
    unfold atF
    rw [if_neg (by omega)]
    by_cases h : p < len i
    · rw [if_pos h]; exact ⟨by simp, h1, h⟩
    · rw [if_neg h]
      obtain ⟨a, b, c⟩ := atF_lt hl l (p - len i) (by omega) (by omega)
      exact ⟨by simp [a], b, c⟩
end Go.Proofs.YtdnhoicfolkbnaaGreat

/- Package seq: its units as a list (no Go in it): what At, Find, Len and Insert say of it. -/
namespace Go.Proofs.YtdnhoicfolkbnaaGreat
set_option linter.unusedVariables false
set_option linter.unusedSimpArgs false

def SS.units (S : SS) : List Un := S.spots.map S.unit
theorem Inv.units_len {S : SS} (h : Inv S) : (S.units.length : Int) = S.total := by
  unfold SS.units
  rw [List.length_map]; exact h.spots_len
theorem units_get (S : SS) (m : Nat) (hm : m < S.units.length) (hm' : m < S.spots.length) : S.units[m] = S.unit S.spots[m] := List.getElem_map _
theorem Inv.spot_run {S : SS} (h : Inv S) {x : Sp} (hx : x ∈ S.spots) : 0 < x.run ∧ x.run < S.runs.length ∧ 0 ≤ x.pos ∧ (rn S.runs x.run).first.k + x.pos ≤ 9007199254740991 := by
  unfold SS.spots at hx
  obtain ⟨i, hi, hx⟩ := List.mem_flatMap.1 hx
  have hl := (h.ordF.lab i).1 hi
  obtain ⟨q1, q2, q3, q4, q5⟩ := h.pcs i (by omega) hl.2
  obtain ⟨j, hj, rfl⟩ := spotsFrom_mem hx
  exact ⟨q1, q2, by show 0 ≤ (S.pc i).pos + (j : Int); omega, by show (rn S.runs (S.pc i).run).first.k + ((S.pc i).pos + (j : Int)) ≤ _; omega⟩
theorem Inv.at_units {S : SS} (h : Inv S) (m : Nat) (hm : m < S.units.length) : S.at_ (m : Int) = (S.units[m], true) := by
  have hl := h.units_len
  unfold SS.at_
  rw [if_neg (by omega)]
  have hg := h.spotAt_get (m : Int) (by omega) (by omega)
  rw [Int.toNat_natCast] at hg
  have hu : S.units[m]? = some (S.unit (S.spotAt m)) := by
    unfold SS.units
    rw [List.getElem?_map, hg]; rfl
  rw [List.getElem?_eq_getElem hm] at hu
  rw [Option.some.inj hu]
theorem Inv.at_none {S : SS} (h : Inv S) (i : Int) (hi : i < 0 ∨ (S.units.length : Int) ≤ i) : S.at_ i = (.zero, false) := by
  have hl := h.units_len
  unfold SS.at_
  rw [if_pos (by omega)]
/-- A unit's id is found at its place. -/
theorem Inv.find_units {S : SS} (h : Inv S) (m : Nat) (hm : m < S.units.length) : S.find S.units[m].c S.units[m].k = (m : Int) := by
  have hm' : m < S.spots.length := by simpa [SS.units] using hm
  have := (h.find_at (List.getElem?_eq_getElem hm')).1
  rw [units_get S m hm hm']; exact this
theorem Inv.units_find {S : SS} (h : Inv S) {c k : Int} (hc : 0 ≤ c) (hk : 0 ≤ k) (hf : S.find c k ≠ -1) : ∃ m, ∃ hm : m < S.units.length, S.find c k = (m : Int) ∧ S.units[m].c = c ∧ S.units[m].k = k := by
  obtain ⟨a1, a2, a3, a4⟩ := h.at_find hc hk hf
  have hm : (S.find c k).toNat < S.spots.length := (List.getElem?_eq_some_iff.1 a2).1
  have e : S.spots[(S.find c k).toNat] = S.spotOf c k := (List.getElem?_eq_some_iff.1 a2).2
  have hm' : (S.find c k).toNat < S.units.length := by simpa [SS.units] using hm
  have e2 : S.units[(S.find c k).toNat] = S.unit (S.spotOf c k) := by
    rw [units_get S _ hm' hm, e]
  exact ⟨_, hm', by omega, by rw [e2]; exact a3, by rw [e2]; exact a4⟩
theorem Inv.find_none {S : SS} (h : Inv S) {c k : Int} (hc : 0 ≤ c) (hk : 0 ≤ k) (hn : ∀ v ∈ S.units, ¬ (v.c = c ∧ v.k = k)) : S.find c k = -1 :=
  Decidable.byContradiction fun hf => by
    obtain ⟨m, hm, _, e1, e2⟩ := h.units_find hc hk hf
    exact hn _ (List.getElem_mem hm) ⟨e1, e2⟩
theorem Inv.units_nodup {S : SS} (h : Inv S) {i j : Nat} (hi : i < S.units.length) (hj : j < S.units.length) (hc : S.units[i].c = S.units[j].c) (hk : S.units[i].k = S.units[j].k) : i = j := by
  have h1 := h.find_units i hi
  have h2 := h.find_units j hj
  rw [hc, hk, h2] at h1
  omega
/-- What is so of its units: right ids. -/
theorem Inv.units_ok {S : SS} (h : Inv S) {v : Un} (hv : v ∈ S.units) : 1 ≤ v.c ∧ v.c ≤ 9007199254740991 ∧ 1 ≤ v.k ∧ v.k ≤ 9007199254740991 := by
  unfold SS.units at hv
  obtain ⟨x, hx, rfl⟩ := List.mem_map.1 hv
  obtain ⟨a, b, c, d⟩ := h.spot_run hx
  have := h.runs x.run a b
  rw [SS.unit_c, SS.unit_k]
  omega
/-- One unit more: it stands at its place, all others as they stood. -/
theorem Inv.run_units {S : SS} (h : Inv S) {u : Un} (hu : u.ok) (hm : S.may u 1 = true) (hR : Room S 1) : ∃ p : Nat, p ≤ S.units.length ∧ (p : Int) = S.placeFor u ∧ (S.run u 1).units = S.units.take p ++ u :: S.units.drop p := by
  obtain ⟨⟨a, b⟩, c, d, e, f⟩ := may_iff.1 hm
  have hnc : 1 ≤ u.c ∧ u.c ≤ 9007199254740991 := by simpa [numOk] using a
  obtain ⟨p0, p1⟩ := h.placeLe hu f
  have hl := h.units_len
  have hrp := hR.pcs
  obtain ⟨y, y1, y2, y3, _⟩ := h.lay_spots (S.placeFor u) p0 p1 (by omega) u hnc.1 (S.parentOf u).1 1 (Nat.le_refl _)
  refine ⟨(S.placeFor u).toNat, by omega, by omega, ?_⟩
  have e1 : S.run u 1 = S.lay (S.placeFor u) u (S.parentOf u).1 (1 : Nat) := by unfold SS.run; rw [if_pos hm]; rfl
  rw [e1]
  unfold SS.units
  have hold : ∀ l : List Sp, (∀ x ∈ l, x ∈ S.spots) → l.map (S.lay (S.placeFor u) u (S.parentOf u).1 (1 : Nat)).unit = l.map S.unit := fun l hl => List.map_congr_left fun x hx => y3 x (h.spot_run (hl x hx)).2.1
  have hs1 : spotsFrom y 1 = [y] := by
    unfold spotsFrom
    simp
  rw [y1, List.map_append, List.map_append, hold _ fun x hx => List.mem_of_mem_take hx, hold _ fun x hx => List.mem_of_mem_drop hx, hs1, List.map_take, List.map_drop, List.map_cons, List.map_nil, y2, List.append_assoc, List.singleton_append]
theorem run_no {S : SS} {u : Un} (hm : S.may u 1 = false) : S.run u 1 = S := by unfold SS.run; rw [hm]; rfl
/-- How great it is. -/
structure Size (S : SS) (n : Nat) : Prop where
  tot : S.total ≤ n
  pcs : S.pcs.length ≤ 2 * n + 1
  runs : S.runs.length ≤ n + 1
theorem Size.room {S : SS} {n : Nat} (h : Size S n) (hn : n ≤ 1000000) (m : Nat) (hm : m ≤ 1000000) : Room S m := by
  have := h.tot
  have := h.pcs
  have := h.runs
  exact ⟨by omega, by omega, by omega⟩
theorem Size.new : Size .new 0 := ⟨by decide, by decide, by decide⟩
theorem Size.mono {S : SS} {n m : Nat} (h : Size S n) (hm : n ≤ m) : Size S m := by
  have := h.tot
  have := h.pcs
  have := h.runs
  exact ⟨by omega, by omega, by omega⟩
theorem Inv.run1 {S : SS} (h : Inv S) {u : Un} (hu : u.ok) {n : Nat} (hz : Size S n) (hn : n ≤ 1000000) : Inv (S.run u 1) ∧ Size (S.run u 1) (n + 1) := by
  have h1 := hz.tot
  have h2 := hz.pcs
  have h3 := hz.runs
  obtain ⟨a, b, c, d⟩ := h.runI (u := u) (n := 1) hu (fun _ => by omega) (by omega) (by omega)
  refine ⟨a, ?_, by omega, by omega⟩
  rw [b]
  split <;> omega
/-- Units inserted one after the other. -/
def seqOf (us : List Un) : SS := us.foldl (fun S u => S.run u 1) .new
theorem seqOf_take (us : List Un) (j : Nat) (hj : j < us.length) : seqOf (us.take (j + 1)) = (seqOf (us.take j)).run us[j] 1 := by
  unfold seqOf
  rw [List.take_succ_eq_append_getElem hj, List.foldl_append]; rfl
theorem seqOf_inv (us : List Un) (hu : ∀ u ∈ us, u.ok) (hl : us.length ≤ 1000000) : ∀ j, j ≤ us.length → Inv (seqOf (us.take j)) ∧ Size (seqOf (us.take j)) j
  | 0, _ => ⟨Inv.new, Size.new⟩
  | j + 1, h => by
    obtain ⟨a, b⟩ := seqOf_inv us hu hl j (by omega)
    rw [seqOf_take us j h]
    exact a.run1 (hu _ (List.getElem_mem _)) b (by omega)
/-- Its units are among those that were inserted. -/
theorem seqOf_mem (us : List Un) (hu : ∀ u ∈ us, u.ok) (hl : us.length ≤ 1000000) : ∀ j, j ≤ us.length → ∀ v ∈ (seqOf (us.take j)).units, v ∈ us
  | 0, _, v, hv => by
    have : (seqOf (us.take 0)).units = [] := rfl
    rw [this] at hv
    exact (List.not_mem_nil hv).elim
  | j + 1, h, v, hv => by
    obtain ⟨a, b⟩ := seqOf_inv us hu hl j (by omega)
    have ih := seqOf_mem us hu hl j (by omega)
    rw [seqOf_take us j h] at hv
    cases hm : (seqOf (us.take j)).may us[j] 1 with
    | false => rw [run_no hm] at hv; exact ih v hv
    | true =>
      obtain ⟨p, _, _, e⟩ := a.run_units (hu _ (List.getElem_mem _)) hm (b.room (by omega) 1 (by omega))
      rw [e] at hv
      rcases List.mem_append.1 hv with hv | hv
      · exact ih v (List.mem_of_mem_take hv)
      · rcases List.mem_cons.1 hv with rfl | hv
        · exact List.getElem_mem _
        · exact ih v (List.mem_of_mem_drop hv)
/-- A unit with a new id, its Left there or none, no Right: it may be inserted. -/
theorem Inv.may_new {S : SS} (h : Inv S) {u : Un} (hc : numOk u.c = true) (hk : numOk u.k = true) (hn : ∀ v ∈ S.units, ¬ (v.c = u.c ∧ v.k = u.k)) (hr : u.rc = 0 ∧ u.rk = 0) (hl : (u.lc = 0 ∧ u.lk = 0) ∨ ∃ v ∈ S.units, v.c = u.lc ∧ v.k = u.lk) : S.may u 1 = true := by
  have hc' : 1 ≤ u.c ∧ u.c ≤ 9007199254740991 := by simpa [numOk] using hc
  have hk' : 1 ≤ u.k ∧ u.k ≤ 9007199254740991 := by simpa [numOk] using hk
  refine may_iff.2 ⟨⟨hc, hk⟩, Int.le_refl _, by omega, ?_, ?_⟩
  · cases hh : S.hasAny u.c u.k 1 with
    | false => rfl
    | true => exact absurd (h.find_none (by omega) (by omega) hn) ((h.hasAny_one hc'.1 (by omega)).1 hh)
  · have hf : S.find u.lc u.lk < S.total ∧ (S.find u.lc u.lk + 1 = 0 → u.lc = 0 ∧ u.lk = 0) := by
      rcases hl with hl | ⟨v, hv, e1, e2⟩
      · refine ⟨?_, fun _ => hl⟩
        have := h.find_le 0 0 (by omega) (by omega)
        have ht := h.total_nn
        rw [hl.1, hl.2]; omega
      · obtain ⟨m, hm, rfl⟩ := List.mem_iff_getElem.1 hv
        have := h.find_units m hm
        rw [e1, e2] at this
        have hul := h.units_len
        exact ⟨by omega, fun _ => by omega⟩
    unfold SS.between SS.rightOf
    rw [if_pos hr, if_neg]
    rintro (⟨a, b⟩ | a)
    · exact b (hf.2 a)
    · omega
end Go.Proofs.YtdnhoicfolkbnaaGreat
