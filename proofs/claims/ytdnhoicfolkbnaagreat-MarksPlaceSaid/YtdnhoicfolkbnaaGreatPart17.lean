/- Package seq: New, Insert, At. -/
import Derived.Test.YtdnhoicfolkbnaaGreatPart15
import Derived.Test.YtdnhoicfolkbnaaGreatPart16
import Derived.Test.YtdnhoicfolkbnaaGreatPart1
import Derived.Test.YtdnhoicfolkbnaaGreatPart7
namespace Go.Proofs.YtdnhoicfolkbnaaGreat
open Go.RowKit
set_option linter.unusedVariables false
set_option linter.unusedSimpArgs false
set_option maxRecDepth 100000

theorem Inv.new : Inv .new := by
  have hf : RowF 1 [] (fun _ => (0 : Int)) := ⟨by omega, List.nodup_nil, fun x => ⟨fun h => (List.not_mem_nil h).elim, fun h => absurd h.2 (by omega)⟩, fun _ => Int.le_refl _, rfl, fun _ _ => rfl⟩
  have hz : ∀ r, rn SS.new.runs r = .zero := fun r => by
    by_cases h : r = 0
    · subst h; rfl
    · exact rn_out (by show 1 ≤ r; omega)
  refine ⟨rfl, by decide, by decide, by decide, by decide, fun r h1 h2 => absurd h2 (by show ¬ r < 1; omega), fun r => ?_, rfl, hf, hf, fun i h1 h2 => absurd h2 (by show ¬ i < 1; omega), List.Pairwise.nil⟩
  rw [hz r]
  exact ⟨by decide, by decide, by decide, by decide, by decide, by decide⟩
theorem row_new {w : World} {b k g : Nat} (hc : w.cell? ⟨b, k, none⟩ = some (.slice (some ⟨g, 0, none⟩) 1 1)) (hb : b ≠ g) (hg : w.heap[g]? = some (.cells #[iV 0, iV 0, iV 0, iV 0, iV 0] 146 (0, 0))) : RowAt w b k g 1 1 [] (fun _ => 0) := by
  refine ⟨[⟨0, 0, 0, 0, 0⟩], .nil, ⟨hc, hb, _, hg, rfl, Nat.le_refl _, by decide, rfl⟩, rfl, RowOk.new, rfl, fun x => ?_⟩
  by_cases h : x = 0
  · subst h; rfl
  · rw [gt_out (by show 1 ≤ x; omega)]
set_option maxHeartbeats 8000000 in
theorem new_any (w : World) : Calls Tryz.prog 29 #[] w fun e w' => ∃ B, e = .returned (sP B) ∧ SeqM w' B .new ∧ (∀ x, B.has x → w.heap.size ≤ x) ∧ Touch (fun _ => False) w w' := by
  have bz1 : ∀ W : World, (Instr.buildSlice 107 1 #[(0, .agg #[u64 0, u64 0, u64 0, u64 0, u64 0, u64 0, iV 0, u64 0, iV 0, u64 0, iV 0])]).run Tryz.prog W = .ok (.slice (some ⟨W.heap.size, 0, none⟩) 1 1) (W.alloc (.cells #[u64 0, u64 0, u64 0, u64 0, u64 0, u64 0, iV 0, u64 0, iV 0, u64 0, iV 0] 106)) := fun W => by kernel_rfl
  have bz2 : ∀ W : World, (Instr.buildSlice 108 1 #[(0, .agg #[iV 0, u64 0])]).run Tryz.prog W = .ok (.slice (some ⟨W.heap.size, 0, none⟩) 1 1) (W.alloc (.cells #[iV 0, u64 0] 104)) := fun W => by kernel_rfl
  have hw := heap_two w (.cells #[u64 0, u64 0, u64 0, u64 0, u64 0, u64 0, iV 0, u64 0, iV 0, u64 0, iV 0] 106) (.cells #[iV 0, u64 0] 104)
  obtain ⟨E, hE⟩ : ∃ E, Hid (E = (w.alloc (.cells #[u64 0, u64 0, u64 0, u64 0, u64 0, u64 0, iV 0, u64 0, iV 0, u64 0, iV 0] 106)).alloc (.cells #[iV 0, u64 0] 104)) := ⟨_, Eq.refl _⟩
  have HE : Hid (Touch (fun _ => False) w E ∧ E.heap[w.heap.size]? = some (.cells #[u64 0, u64 0, u64 0, u64 0, u64 0, u64 0, iV 0, u64 0, iV 0, u64 0, iV 0] 106) ∧ E.heap[w.heap.size + 1]? = some (.cells #[iV 0, u64 0] 104) ∧ w.heap.size + 2 ≤ E.heap.size) := by
    rw [hE.out]
    exact ⟨((Touch.refl _ _).alloc _).alloc _, hw.1, hw.2, by simp⟩
  clear hw
  go_enter Tryz.func29, Tryz.ntmps29
  go_wp2_with fail
  rw [← hE.out]
  clear hE bz1 bz2
  refine (newRow_any E).mono ?_
  rintro e W1 ⟨g1, rfl, q1, q2, t1⟩
  have H1 : Hid (E.heap.size ≤ g1 ∧ W1.heap[g1]? = some (.cells #[iV 0, iV 0, iV 0, iV 0, iV 0] 146 (0, 0)) ∧ Touch (fun _ => False) E W1) := ⟨q1, q2, t1⟩
  clear q1 q2 t1
  go_wp2_with fail
  refine (newRow_any W1).mono ?_
  rintro e W2 ⟨g2, rfl, q1, q2, t1⟩
  have H2 : Hid (W1.heap.size ≤ g2 ∧ W2.heap[g2]? = some (.cells #[iV 0, iV 0, iV 0, iV 0, iV 0] 146 (0, 0)) ∧ Touch (fun _ => False) W1 W2) := ⟨q1, q2, t1⟩
  clear q1 q2 t1
  have HF : Hid (SeqM (W2.alloc (.cells #[.slice (some ⟨w.heap.size, 0, none⟩) 1 1, .slice (some ⟨w.heap.size + 1, 0, none⟩) 1 1, .slice (some ⟨g1, 0, none⟩) 1 1, .slice (some ⟨g2, 0, none⟩) 1 1] 114)) ⟨W2.heap.size, w.heap.size, 1, w.heap.size + 1, 1, g1, 1, g2, 1⟩ .new) := by
    have tt := (Touch.refl (fun _ => False) W2).alloc (.cells #[.slice (some ⟨w.heap.size, 0, none⟩) 1 1, .slice (some ⟨w.heap.size + 1, 0, none⟩) 1 1, .slice (some ⟨g1, 0, none⟩) 1 1, .slice (some ⟨g2, 0, none⟩) 1 1] 114)
    have hb := heap_alloc_new W2 (.cells #[.slice (some ⟨w.heap.size, 0, none⟩) 1 1, .slice (some ⟨w.heap.size + 1, 0, none⟩) 1 1, .slice (some ⟨g1, 0, none⟩) 1 1, .slice (some ⟨g2, 0, none⟩) 1 1] 114)
    have a0 := lt_of_heap H1.out.2.1
    have a1 := lt_of_heap H2.out.2.1
    have a2 := H1.out.1
    have a3 := H2.out.1
    have a4 := HE.out.2.2.2
    have a5 := H2.out.2.2.size
    have a6 := H1.out.2.2.size
    have t2 := H1.out.2.2.trans H2.out.2.2
    refine ⟨⟨_, hb⟩, ⟨by rw [cell_of_block hb]; rfl, by show W2.heap.size ≠ w.heap.size; omega, _, heap_keep (t2.trans tt) HE.out.2.1, rfl, Nat.le_refl _, by show 1 ≤ _; decide, rfl⟩, ⟨by rw [cell_of_block hb]; rfl, by show W2.heap.size ≠ w.heap.size + 1; omega, _, heap_keep (t2.trans tt) HE.out.2.2.1, rfl, Nat.le_refl _, by show 1 ≤ _; decide, rfl⟩, row_new (by rw [cell_of_block hb]; rfl) (by show W2.heap.size ≠ g1; omega) (heap_keep (H2.out.2.2.trans tt) H1.out.2.1), row_new (by rw [cell_of_block hb]; rfl) (by show W2.heap.size ≠ g2; omega) (heap_keep tt H2.out.2.1), ?_⟩
    simp only [List.nodup_cons, List.mem_cons, List.not_mem_nil, or_false, not_or, List.nodup_nil, and_true, not_false_eq_true]
    exact ⟨⟨by omega, by omega, by omega⟩, ⟨by omega, by omega⟩, by omega⟩
  have HS : Hid (∀ x, Bk.has ⟨W2.heap.size, w.heap.size, 1, w.heap.size + 1, 1, g1, 1, g2, 1⟩ x → w.heap.size ≤ x) := by
    have a2 := H1.out.1
    have a3 := H2.out.1
    have a4 := HE.out.2.2.2
    have a5 := H2.out.2.2.size
    have a6 := H1.out.2.2.size
    rintro x (e | e | e | e | e)
    · have e' : x = W2.heap.size := e
      omega
    · have e' : x = w.heap.size := e
      omega
    · have e' : x = w.heap.size + 1 := e
      omega
    · have e' : x = g1 := e
      omega
    · have e' : x = g2 := e
      omega
  have HT : Hid (Touch (fun _ => False) w (W2.alloc (.cells #[.slice (some ⟨w.heap.size, 0, none⟩) 1 1, .slice (some ⟨w.heap.size + 1, 0, none⟩) 1 1, .slice (some ⟨g1, 0, none⟩) 1 1, .slice (some ⟨g2, 0, none⟩) 1 1] 114))) := (HE.out.1.trans (H1.out.2.2.trans H2.out.2.2)).alloc _
  go_wp2_with fail
  go_ret
  exact ⟨_, rfl, HF.out, HS.out, HT.out⟩
/-- What a step asks and leaves, all told. -/
structure Room (S : SS) (m : Nat) : Prop where
  tot : S.total + m ≤ 281474976710656
  pcs : S.pcs.length + 2 * m ≤ 1073741824
  runs : S.runs.length + m ≤ 1073741824
theorem SeqM.run {w : World} {B : Bk} {S : SS} (h : SeqM w B S) (hI : Inv S) (u : Un) (hu : u.ok) (n : Int) (m : Nat) (hn : n ≤ m) (hn2 : -1152921504606846976 ≤ n) (hm : 1 ≤ m) (hR : Room S m) :
    Calls Tryz.prog 31 #[sP B, .agg #[u64 (u).c, u64 (u).k, u64 (u).lc, u64 (u).lk, u64 (u).rc, u64 (u).rk], iV n] w fun e w' => e = .returned (.bool (S.may u n)) ∧ Laid w w' B (S.run u n) := by
  have := hR.tot
  have := hR.pcs
  have := hI.total_nn
  refine run_any h hI u hu n ⟨hn2, by omega⟩ fun hmay => ?_
  obtain ⟨c1, c2, c3⟩ := hI.cutI (S.placeFor u) (by omega)
  exact ⟨c1, by rw [c2]; omega⟩
set_option maxHeartbeats 4000000 in
theorem insert_any {w : World} {B : Bk} {S : SS} (h : SeqM w B S) (hI : Inv S) (u : Un) (hu : u.ok) (hR : Room S 1) :
    Calls Tryz.prog 32 #[sP B, .agg #[u64 (u).c, u64 (u).k, u64 (u).lc, u64 (u).lk, u64 (u).rc, u64 (u).rk]] w fun e w' => e = .returned (.bool (S.may u 1)) ∧ Laid w w' B (S.run u 1) := by
  have hT : Touch (fun _ => False) w (w.alloc (.cells #[u64 u.c, u64 u.k, u64 u.lc, u64 u.lk, u64 u.rc, u64 u.rk] 59)) := (Touch.refl _ _).alloc _
  have HL : Hid (Calls Tryz.prog 31 #[sP B, .agg #[u64 (u).c, u64 (u).k, u64 (u).lc, u64 (u).lk, u64 (u).rc, u64 (u).rk], iV 1] (w.alloc (.cells #[u64 u.c, u64 u.k, u64 u.lc, u64 u.lk, u64 u.rc, u64 u.rk] 59)) fun e w' => e = .returned (.bool (S.may u 1)) ∧ Laid (w.alloc (.cells #[u64 u.c, u64 u.k, u64 u.lc, u64 u.lk, u64 u.rc, u64 u.rk] 59)) w' B (S.run u 1)) := (h.keep0 hT).run hI u hu 1 1 (by omega) (by omega) (by omega) hR
  have HT : Hid (Touch (fun _ => False) w (w.alloc (.cells #[u64 u.c, u64 u.k, u64 u.lc, u64 u.lk, u64 u.rc, u64 u.rk] 59))) := hT
  generalize S.may u 1 = may at *
  generalize S.run u 1 = S' at *
  obtain ⟨uc, uk, ulc, ulk, urc, urk⟩ := u
  simp only at HL HT ⊢
  clear h hI hu hT hR
  go_enter Tryz.func32, Tryz.ntmps32
  go_wp2_with fail
  refine HL.out.mono ?_
  rintro e w1 ⟨rfl, l1⟩
  have HF : Hid (Laid w w1 B S') := l1.after0 HT.out
  clear l1
  go_wp2_with fail
  go_ret
  exact ⟨rfl, HF.out⟩
theorem atF_lt {len : Nat → Int} (hl : ∀ x, 0 ≤ len x) : ∀ (l : List Nat) (p : Int), 0 ≤ p → p < sumF len l → (atF len l p).1 ∈ l ∧ 0 ≤ (atF len l p).2 ∧ (atF len l p).2 < len (atF len l p).1
  | [], p, h1, h2 => by rw [sumF_nil] at h2; omega
  | i :: l, p, h1, h2 => by
    rw [sumF_cons] at h2
    unfold atF
    rw [if_neg (by omega)]
    by_cases h : p < len i
    · rw [if_pos h]; exact ⟨by simp, h1, h⟩
    · rw [if_neg h]
      obtain ⟨a, b, c⟩ := atF_lt hl l (p - len i) (by omega) (by omega)
      exact ⟨by simp [a], b, c⟩
end Go.Proofs.YtdnhoicfolkbnaaGreat

/- Package seq: its units as a list (no Go in it): what At, Find, Len and Insert say of it. -/
namespace Go.Proofs.YtdnhoicfolkbnaaGreat
set_option linter.unusedVariables false
set_option linter.unusedSimpArgs false

def SS.units (S : SS) : List Un := S.spots.map S.unit
theorem Inv.units_len {S : SS} (h : Inv S) : (S.units.length : Int) = S.total := by
  unfold SS.units
  rw [List.length_map]; exact h.spots_len
theorem units_get (S : SS) (m : Nat) (hm : m < S.units.length) (hm' : m < S.spots.length) : S.units[m] = S.unit S.spots[m] := List.getElem_map _
theorem Inv.spot_run {S : SS} (h : Inv S) {x : Sp} (hx : x ∈ S.spots) : 0 < x.run ∧ x.run < S.runs.length ∧ 0 ≤ x.pos ∧ (rn S.runs x.run).first.k + x.pos ≤ 9007199254740991 := by
  unfold SS.spots at hx
  obtain ⟨i, hi, hx⟩ := List.mem_flatMap.1 hx
  have hl := (h.ordF.lab i).1 hi
  obtain ⟨q1, q2, q3, q4, q5⟩ := h.pcs i (by omega) hl.2
  obtain ⟨j, hj, rfl⟩ := spotsFrom_mem hx
  exact ⟨q1, q2, by show 0 ≤ (S.pc i).pos + (j : Int); omega, by show (rn S.runs (S.pc i).run).first.k + ((S.pc i).pos + (j : Int)) ≤ _; omega⟩
theorem Inv.at_units {S : SS} (h : Inv S) (m : Nat) (hm : m < S.units.length) : S.at_ (m : Int) = (S.units[m], true) := by
  have hl := h.units_len
  unfold SS.at_
  rw [if_neg (by omega)]
  have hg := h.spotAt_get (m : Int) (by omega) (by omega)
  rw [Int.toNat_natCast] at hg
  have hu : S.units[m]? = some (S.unit (S.spotAt m)) := by
    unfold SS.units
    rw [List.getElem?_map, hg]; rfl
  rw [List.getElem?_eq_getElem hm] at hu
  rw [Option.some.inj hu]
theorem Inv.at_none {S : SS} (h : Inv S) (i : Int) (hi : i < 0 ∨ (S.units.length : Int) ≤ i) : S.at_ i = (.zero, false) := by
  have hl := h.units_len
  unfold SS.at_
  rw [if_pos (by omega)]
/-- A unit's id is found at its place. -/
theorem Inv.find_units {S : SS} (h : Inv S) (m : Nat) (hm : m < S.units.length) : S.find S.units[m].c S.units[m].k = (m : Int) := by
  have hm' : m < S.spots.length := by simpa [SS.units] using hm
  have := (h.find_at (List.getElem?_eq_getElem hm')).1
  rw [units_get S m hm hm']; exact this
theorem Inv.units_find {S : SS} (h : Inv S) {c k : Int} (hc : 0 ≤ c) (hk : 0 ≤ k) (hf : S.find c k ≠ -1) : ∃ m, ∃ hm : m < S.units.length, S.find c k = (m : Int) ∧ S.units[m].c = c ∧ S.units[m].k = k := by
  obtain ⟨a1, a2, a3, a4⟩ := h.at_find hc hk hf
  have hm : (S.find c k).toNat < S.spots.length := (List.getElem?_eq_some_iff.1 a2).1
  have e : S.spots[(S.find c k).toNat] = S.spotOf c k := (List.getElem?_eq_some_iff.1 a2).2
  have hm' : (S.find c k).toNat < S.units.length := by simpa [SS.units] using hm
  have e2 : S.units[(S.find c k).toNat] = S.unit (S.spotOf c k) := by
    rw [units_get S _ hm' hm, e]
  exact ⟨_, hm', by omega, by rw [e2]; exact a3, by rw [e2]; exact a4⟩
theorem Inv.find_none {S : SS} (h : Inv S) {c k : Int} (hc : 0 ≤ c) (hk : 0 ≤ k) (hn : ∀ v ∈ S.units, ¬ (v.c = c ∧ v.k = k)) : S.find c k = -1 :=
  Decidable.byContradiction fun hf => by
    obtain ⟨m, hm, _, e1, e2⟩ := h.units_find hc hk hf
    exact hn _ (List.getElem_mem hm) ⟨e1, e2⟩
theorem Inv.units_nodup {S : SS} (h : Inv S) {i j : Nat} (hi : i < S.units.length) (hj : j < S.units.length) (hc : S.units[i].c = S.units[j].c) (hk : S.units[i].k = S.units[j].k) : i = j := by
  have h1 := h.find_units i hi
  have h2 := h.find_units j hj
  rw [hc, hk, h2] at h1
  omega
/-- What is so of its units: right ids. -/
theorem Inv.units_ok {S : SS} (h : Inv S) {v : Un} (hv : v ∈ S.units) : 1 ≤ v.c ∧ v.c ≤ 9007199254740991 ∧ 1 ≤ v.k ∧ v.k ≤ 9007199254740991 := by
  unfold SS.units at hv
  obtain ⟨x, hx, rfl⟩ := List.mem_map.1 hv
  obtain ⟨a, b, c, d⟩ := h.spot_run hx
  have := h.runs x.run a b
  rw [SS.unit_c, SS.unit_k]
  omega
/-- One unit more: it stands at its place, all others as they stood. -/
theorem Inv.run_units {S : SS} (h : Inv S) {u : Un} (hu : u.ok) (hm : S.may u 1 = true) (hR : Room S 1) : ∃ p : Nat, p ≤ S.units.length ∧ (p : Int) = S.placeFor u ∧ (S.run u 1).units = S.units.take p ++ u :: S.units.drop p := by
  obtain ⟨⟨a, b⟩, c, d, e, f⟩ := may_iff.1 hm
  have hnc : 1 ≤ u.c ∧ u.c ≤ 9007199254740991 := by simpa [numOk] using a
  obtain ⟨p0, p1⟩ := h.placeLe hu f
  have hl := h.units_len
  have hrp := hR.pcs
  obtain ⟨y, y1, y2, y3, _⟩ := h.lay_spots (S.placeFor u) p0 p1 (by omega) u hnc.1 (S.parentOf u).1 1 (Nat.le_refl _)
  refine ⟨(S.placeFor u).toNat, by omega, by omega, ?_⟩
  have e1 : S.run u 1 = S.lay (S.placeFor u) u (S.parentOf u).1 (1 : Nat) := by unfold SS.run; rw [if_pos hm]; rfl
  rw [e1]
  unfold SS.units
  have hold : ∀ l : List Sp, (∀ x ∈ l, x ∈ S.spots) → l.map (S.lay (S.placeFor u) u (S.parentOf u).1 (1 : Nat)).unit = l.map S.unit := fun l hl => List.map_congr_left fun x hx => y3 x (h.spot_run (hl x hx)).2.1
  have hs1 : spotsFrom y 1 = [y] := by
    unfold spotsFrom
    simp
  rw [y1, List.map_append, List.map_append, hold _ fun x hx => List.mem_of_mem_take hx, hold _ fun x hx => List.mem_of_mem_drop hx, hs1, List.map_take, List.map_drop, List.map_cons, List.map_nil, y2, List.append_assoc, List.singleton_append]
theorem run_no {S : SS} {u : Un} (hm : S.may u 1 = false) : S.run u 1 = S := by unfold SS.run; rw [hm]; rfl
/-- How great it is. -/
structure Size (S : SS) (n : Nat) : Prop where
  tot : S.total ≤ n
  pcs : S.pcs.length ≤ 2 * n + 1
  runs : S.runs.length ≤ n + 1
theorem Size.room {S : SS} {n : Nat} (h : Size S n) (hn : n ≤ 1000000) (m : Nat) (hm : m ≤ 1000000) : Room S m := by
  have := h.tot
  have := h.pcs
  have := h.runs
  exact ⟨by omega, by omega, by omega⟩
theorem Size.new : Size .new 0 := ⟨by decide, by decide, by decide⟩
theorem Size.mono {S : SS} {n m : Nat} (h : Size S n) (hm : n ≤ m) : Size S m := by
  have := h.tot
  have := h.pcs
  have := h.runs
  exact ⟨by omega, by omega, by omega⟩
theorem Inv.run1 {S : SS} (h : Inv S) {u : Un} (hu : u.ok) {n : Nat} (hz : Size S n) (hn : n ≤ 1000000) : Inv (S.run u 1) ∧ Size (S.run u 1) (n + 1) := by
  have h1 := hz.tot
  have h2 := hz.pcs
  have h3 := hz.runs
  obtain ⟨a, b, c, d⟩ := h.runI (u := u) (n := 1) hu (fun _ => by omega) (by omega) (by omega)
  refine ⟨a, ?_, by omega, by omega⟩
  rw [b]
  split <;> omega
/-- Units inserted one after the other. -/
def seqOf (us : List Un) : SS := us.foldl (fun S u => S.run u 1) .new
theorem seqOf_take (us : List Un) (j : Nat) (hj : j < us.length) : seqOf (us.take (j + 1)) = (seqOf (us.take j)).run us[j] 1 := by
  unfold seqOf
  rw [List.take_succ_eq_append_getElem hj, List.foldl_append]; rfl
theorem seqOf_inv (us : List Un) (hu : ∀ u ∈ us, u.ok) (hl : us.length ≤ 1000000) : ∀ j, j ≤ us.length → Inv (seqOf (us.take j)) ∧ Size (seqOf (us.take j)) j
  | 0, _ => ⟨Inv.new, Size.new⟩
  | j + 1, h => by
    obtain ⟨a, b⟩ := seqOf_inv us hu hl j (by omega)
    rw [seqOf_take us j h]
    exact a.run1 (hu _ (List.getElem_mem _)) b (by omega)
/-- Its units are among those that were inserted. -/
theorem seqOf_mem (us : List Un) (hu : ∀ u ∈ us, u.ok) (hl : us.length ≤ 1000000) : ∀ j, j ≤ us.length → ∀ v ∈ (seqOf (us.take j)).units, v ∈ us
  | 0, _, v, hv => by
    have : (seqOf (us.take 0)).units = [] := rfl
    rw [this] at hv
    exact (List.not_mem_nil hv).elim
  | j + 1, h, v, hv => by
    obtain ⟨a, b⟩ := seqOf_inv us hu hl j (by omega)
    have ih := seqOf_mem us hu hl j (by omega)
    rw [seqOf_take us j h] at hv
    cases hm : (seqOf (us.take j)).may us[j] 1 with
    | false => rw [run_no hm] at hv; exact ih v hv
    | true =>
      obtain ⟨p, _, _, e⟩ := a.run_units (hu _ (List.getElem_mem _)) hm (b.room (by omega) 1 (by omega))
      rw [e] at hv
      rcases List.mem_append.1 hv with hv | hv
      · exact ih v (List.mem_of_mem_take hv)
      · rcases List.mem_cons.1 hv with rfl | hv
        · exact List.getElem_mem _
        · exact ih v (List.mem_of_mem_drop hv)
/-- A unit with a new id, its Left there or none, no Right: it may be inserted. -/
theorem Inv.may_new {S : SS} (h : Inv S) {u : Un} (hc : numOk u.c = true) (hk : numOk u.k = true) (hn : ∀ v ∈ S.units, ¬ (v.c = u.c ∧ v.k = u.k)) (hr : u.rc = 0 ∧ u.rk = 0) (hl : (u.lc = 0 ∧ u.lk = 0) ∨ ∃ v ∈ S.units, v.c = u.lc ∧ v.k = u.lk) : S.may u 1 = true := by
  have hc' : 1 ≤ u.c ∧ u.c ≤ 9007199254740991 := by simpa [numOk] using hc
  have hk' : 1 ≤ u.k ∧ u.k ≤ 9007199254740991 := by simpa [numOk] using hk
  refine may_iff.2 ⟨⟨hc, hk⟩, Int.le_refl _, by omega, ?_, ?_⟩
  · cases hh : S.hasAny u.c u.k 1 with
    | false => rfl
    | true => exact absurd (h.find_none (by omega) (by omega) hn) ((h.hasAny_one hc'.1 (by omega)).1 hh)
  · have hf : S.find u.lc u.lk < S.total ∧ (S.find u.lc u.lk + 1 = 0 → u.lc = 0 ∧ u.lk = 0) := by
      rcases hl with hl | ⟨v, hv, e1, e2⟩
      · refine ⟨?_, fun _ => hl⟩
        have := h.find_le 0 0 (by omega) (by omega)
        have ht := h.total_nn
        rw [hl.1, hl.2]; omega
      · obtain ⟨m, hm, rfl⟩ := List.mem_iff_getElem.1 hv
        have := h.find_units m hm
        rw [e1, e2] at this
        have hul := h.units_len
        exact ⟨by omega, fun _ => by omega⟩
    unfold SS.between SS.rightOf
    rw [if_pos hr, if_neg]
    rintro (⟨a, b⟩ | a)
    · exact b (hf.2 a)
    · omega
end Go.Proofs.YtdnhoicfolkbnaaGreat

/- Package marks: Gap, Over, Less, isShown. -/
namespace Go.Proofs.YtdnhoicfolkbnaaGreat
open Go.RowKit
set_option linter.unusedVariables false
set_option linter.unusedSimpArgs false
set_option maxRecDepth 100000

/-- Gap, as a function. -/
def gapM (S : SS) (c k : Int) (af : Bool) : Int × Bool :=
  if c = 0 ∧ k = 0 then ((if af then (S.units.length : Int) else 0), true) else if S.find c k < 0 then (0, false) else ((if af then S.find c k + 1 else S.find c k), true)
def overM (S : SS) (o : O) : Int × Int :=
  if (gapM S o.fc o.fk o.fa).2 = true ∧ (gapM S o.tc o.tk o.ta).2 = true ∧ (gapM S o.fc o.fk o.fa).1 < (gapM S o.tc o.tk o.ta).1 then ((gapM S o.fc o.fk o.fa).1, (gapM S o.tc o.tk o.ta).1) else (0, 0)
def lessM (a b : O) : Bool := if a.st = b.st then lessI a.c a.k b.c b.k else decide (a.st < b.st)
/-- A sequence that is read: Find and Len of it. -/
structure SeqRd (w : World) (p : Nat) (S : SS) : Prop where
  len : ∀ W, Touch (fun _ => False) w W → Calls Tryz.prog 35 #[.pointer (some ⟨p, 0, none⟩)] W fun e w' => e = .returned (.int .i64 (S.units.length : Int)) ∧ Touch (fun _ => False) W w'
  find : ∀ W c k, Touch (fun _ => False) w W → 0 ≤ c → 0 ≤ k → k < 18446744073709551616 → Calls Tryz.prog 36 #[.pointer (some ⟨p, 0, none⟩), .agg #[.int .u64 c, .int .u64 k]] W fun e w' => e = .returned (.int .i64 (S.find c k)) ∧ Touch (fun _ => False) W w'
  le : S.units.length ≤ 1000000
  fle : ∀ c k, 0 ≤ c → 0 ≤ k → -1 ≤ S.find c k ∧ S.find c k < (S.units.length : Int)
theorem SeqRd.touch {w w' : World} {p : Nat} {S : SS} (h : SeqRd w p S) (t : Touch (fun _ => False) w w') : SeqRd w' p S := ⟨fun W t2 => h.len W (t.trans t2), fun W c k t2 => h.find W c k (t.trans t2), h.le, h.fle⟩
abbrev anO (c k : Int) (af : Bool) : Obj := .cells #[.int .u64 c, .int .u64 k, .bool af] 26
theorem cmp00 (a b : Int) : ((a == 0) = true ∧ (b == 0) = true ∧ a = 0 ∧ b = 0) ∨ ((a == 0) = true ∧ (b == 0) = false ∧ ¬ (a = 0 ∧ b = 0)) ∨ ((a == 0) = false ∧ ¬ (a = 0 ∧ b = 0)) := by
  by_cases h1 : a = 0 <;> by_cases h2 : b = 0 <;> simp [h1, h2]
set_option maxHeartbeats 4000000 in
theorem gap_any {w : World} {p : Nat} {S : SS} (h : SeqRd w p S) (c k : Int) (af : Bool) (hc : 0 ≤ c) (hk : 0 ≤ k ∧ k < 18446744073709551616) :
    Calls Tryz.prog 12 #[.pointer (some ⟨p, 0, none⟩), .agg #[.int .u64 c, .int .u64 k, .bool af]] w fun e w' => e = .returned (.tuple #[.int .i64 (gapM S c k af).1, .bool (gapM S c k af).2]) ∧ Touch (fun _ => False) w w' := by
  obtain ⟨E, hE⟩ : ∃ E, Hid (E = w.alloc (anO c k af)) := ⟨_, Eq.refl _⟩
  have HTE : Hid (Touch (fun _ => False) w E) := by rw [hE.out]; exact (Touch.refl _ _).alloc _
  have HB : Hid (E.heap[w.heap.size]? = some (anO c k af)) := by rw [hE.out]; exact heap_alloc_new _ _
  have c0 : E.cell? ⟨w.heap.size, 0, none⟩ = some (.int .u64 c) := by rw [cell_of_block HB.out]; rfl
  have c1 : E.cell? ⟨w.heap.size, 1, none⟩ = some (.int .u64 k) := by rw [cell_of_block HB.out]; rfl
  have c2 : E.cell? ⟨w.heap.size, 2, none⟩ = some (.bool af) := by rw [cell_of_block HB.out]; rfl
  have HL : Hid (Calls Tryz.prog 35 #[.pointer (some ⟨p, 0, none⟩)] E fun e w' => e = .returned (.int .i64 (S.units.length : Int)) ∧ Touch (fun _ => False) E w') := h.len E HTE.out
  have HF : Hid (Calls Tryz.prog 36 #[.pointer (some ⟨p, 0, none⟩), .agg #[.int .u64 c, .int .u64 k]] E fun e w' => e = .returned (.int .i64 (S.find c k)) ∧ Touch (fun _ => False) E w') := h.find E c k HTE.out hc hk.1 hk.2
  have hfb := h.fle c k hc hk.1
  have hle := h.le
  clear h hc hk
  rcases cmp00 c k with ⟨a1, a2, a3, a4⟩ | ⟨a1, a2, a3⟩ | ⟨a1, a3⟩
  · have HG : Hid (gapM S c k af = ((if af then (S.units.length : Int) else 0), true)) := by unfold gapM; rw [Hid, if_pos ⟨a3, a4⟩]
    clear a3 a4 hfb
    generalize S.units.length = ul at *
    rw [HG.out]
    clear HG
    cases af with
    | true =>
      go_enter Tryz.func12, Tryz.ntmps12
      go_upto_region 1 with fail
      rw [← hE.out]
      clear hE
      go_wp2_with fail
      refine HL.out.mono ?_
      rintro e W1 ⟨rfl, t1⟩
      have HT : Hid (Touch (fun _ => False) w W1) := HTE.out.trans t1
      clear t1 c0 c1 c2
      go_wp2_with fail
      refine bodyPost_ret (v := .tuple #[.int .i64 (ul : Int), .bool true]) (by simp [results, Tryz.results12, go_sem]) rfl ?_
      exact ⟨rfl, HT.out⟩
    | false =>
      go_enter Tryz.func12, Tryz.ntmps12
      go_upto_region 1 with fail
      rw [← hE.out]
      clear hE
      go_wp2_with fail
      refine bodyPost_ret (v := .tuple #[.int .i64 0, .bool true]) (by simp [results, Tryz.results12, go_sem]) rfl ?_
      exact ⟨rfl, HTE.out⟩
  all_goals
    have HG : Hid (gapM S c k af = if S.find c k < 0 then (0, false) else ((if af then S.find c k + 1 else S.find c k), true)) := by unfold gapM; rw [Hid, if_neg a3]
    have HK : Hid (∀ W, Touch (fun _ => False) E W → W.cell? ⟨w.heap.size, 2, none⟩ = some (.bool af)) := fun W t => by rw [cell_of_block (heap_keep t HB.out)]; rfl
    rw [HG.out]
    clear HG a3 HL
    generalize S.find c k = f at *
    by_cases hf : f < 0
    · rw [if_pos hf]
      go_enter Tryz.func12, Tryz.ntmps12
      go_upto_region 1 with fail
      rw [← hE.out]
      clear hE
      go_wp2_with fail
      refine HF.out.mono ?_
      rintro e W1 ⟨rfl, t1⟩
      have HT : Hid (Touch (fun _ => False) w W1) := HTE.out.trans t1
      clear t1 c0 c1 c2
      go_wp2_with fail
      refine bodyPost_ret (v := .tuple #[.int .i64 0, .bool false]) (by simp [results, Tryz.results12, go_sem]) rfl ?_
      exact ⟨rfl, HT.out⟩
    · rw [if_neg hf]
      have ew : IntKind.i64.wrap (f + 1) = f + 1 := by rw [IntKind.wrap_i64]; omega
      cases af with
      | true =>
        go_enter Tryz.func12, Tryz.ntmps12
        go_upto_region 1 with fail
        rw [← hE.out]
        clear hE
        go_wp2_with fail
        refine HF.out.mono ?_
        rintro e W1 ⟨rfl, t1⟩
        have HT : Hid (Touch (fun _ => False) w W1) := HTE.out.trans t1
        have d2 := HK.out W1 t1
        clear t1 c0 c1 c2
        go_wp2_with fail
        refine bodyPost_ret (v := .tuple #[.int .i64 (f + 1), .bool true]) (by simp [results, Tryz.results12, go_sem]) rfl ?_
        exact ⟨rfl, HT.out⟩
      | false =>
        go_enter Tryz.func12, Tryz.ntmps12
        go_upto_region 1 with fail
        rw [← hE.out]
        clear hE
        go_wp2_with fail
        refine HF.out.mono ?_
        rintro e W1 ⟨rfl, t1⟩
        have HT : Hid (Touch (fun _ => False) w W1) := HTE.out.trans t1
        have d2 := HK.out W1 t1
        clear t1 c0 c1 c2
        go_wp2_with fail
        refine bodyPost_ret (v := .tuple #[.int .i64 f, .bool true]) (by simp [results, Tryz.results12, go_sem]) rfl ?_
        exact ⟨rfl, HT.out⟩
theorem gapM_le {S : SS} (c k : Int) (hf : -1 ≤ S.find c k ∧ S.find c k < (S.units.length : Int)) (af : Bool) : 0 ≤ (gapM S c k af).1 ∧ (gapM S c k af).1 ≤ (S.units.length : Int) := by
  have := hf
  unfold gapM
  split
  · cases af <;> simp
  · split
    · simp
    · cases af <;> simp <;> omega
theorem opO_from {W : World} {m : Nat} {o : O} (h : W.heap[m]? = some (opO o)) : (W.cell? ⟨m, 16, none⟩ = some (.int .u64 o.fc) ∧ W.cell? ⟨m, 17, none⟩ = some (.int .u64 o.fk) ∧ W.cell? ⟨m, 18, none⟩ = some (.bool o.fa)) ∧ W.cell? ⟨m, 19, none⟩ = some (.int .u64 o.tc) ∧ W.cell? ⟨m, 20, none⟩ = some (.int .u64 o.tk) ∧ W.cell? ⟨m, 21, none⟩ = some (.bool o.ta) :=
  ⟨⟨by rw [cell_of_block h]; rfl, by rw [cell_of_block h]; rfl, by rw [cell_of_block h]; rfl⟩, by rw [cell_of_block h]; rfl, by rw [cell_of_block h]; rfl, by rw [cell_of_block h]; rfl⟩
theorem opO_head {W : World} {m : Nat} {o : O} (h : W.heap[m]? = some (opO o)) : W.cell? ⟨m, 0, none⟩ = some (.int .u64 o.c) ∧ W.cell? ⟨m, 1, none⟩ = some (.int .u64 o.k) ∧ W.cell? ⟨m, 2, none⟩ = some (.int .i64 o.kind) ∧ W.cell? ⟨m, 3, none⟩ = some (.int .u64 o.st) ∧ W.cell? ⟨m, 9, none⟩ = some (.int .i64 o.vk) ∧ W.cell? ⟨m, 13, none⟩ = some (.string o.ky) :=
  ⟨by rw [cell_of_block h]; rfl, by rw [cell_of_block h]; rfl, by rw [cell_of_block h]; rfl, by rw [cell_of_block h]; rfl, by rw [cell_of_block h]; rfl, by rw [cell_of_block h]; rfl⟩
set_option maxHeartbeats 8000000 in
theorem over_any {w : World} {p : Nat} {S : SS} (h : SeqRd w p S) (o : O) (ho : o.fits) :
    Calls Tryz.prog 14 #[.pointer (some ⟨p, 0, none⟩), o.val] w fun e w' => e = .returned (.tuple #[.int .i64 (overM S o).1, .int .i64 (overM S o).2]) ∧ Touch (fun _ => False) w w' := by
  obtain ⟨E, hE⟩ : ∃ E, Hid (E = w.alloc (opO o)) := ⟨_, Eq.refl _⟩
  have HTE : Hid (Touch (fun _ => False) w E) := by rw [hE.out]; exact (Touch.refl _ _).alloc _
  have HB : Hid (E.heap[w.heap.size]? = some (opO o)) := by rw [hE.out]; exact heap_alloc_new _ _
  have HC : Hid (∀ W, Touch (fun _ => False) E W → (W.cell? ⟨w.heap.size, 16, none⟩ = some (.int .u64 o.fc) ∧ W.cell? ⟨w.heap.size, 17, none⟩ = some (.int .u64 o.fk) ∧ W.cell? ⟨w.heap.size, 18, none⟩ = some (.bool o.fa)) ∧ W.cell? ⟨w.heap.size, 19, none⟩ = some (.int .u64 o.tc) ∧ W.cell? ⟨w.heap.size, 20, none⟩ = some (.int .u64 o.tk) ∧ W.cell? ⟨w.heap.size, 21, none⟩ = some (.bool o.ta)) := fun W t => opO_from (heap_keep t HB.out)
  have HG1 : Hid (∀ W, Touch (fun _ => False) E W → Calls Tryz.prog 12 #[.pointer (some ⟨p, 0, none⟩), .agg #[.int .u64 o.fc, .int .u64 o.fk, .bool o.fa]] W fun e w' => e = .returned (.tuple #[.int .i64 (gapM S o.fc o.fk o.fa).1, .bool (gapM S o.fc o.fk o.fa).2]) ∧ Touch (fun _ => False) W w') := fun W t => gap_any (h.touch (HTE.out.trans t)) _ _ _ ho.fc.1 ho.fk
  have HG2 : Hid (∀ W, Touch (fun _ => False) E W → Calls Tryz.prog 12 #[.pointer (some ⟨p, 0, none⟩), .agg #[.int .u64 o.tc, .int .u64 o.tk, .bool o.ta]] W fun e w' => e = .returned (.tuple #[.int .i64 (gapM S o.tc o.tk o.ta).1, .bool (gapM S o.tc o.tk o.ta).2]) ∧ Touch (fun _ => False) W w') := fun W t => gap_any (h.touch (HTE.out.trans t)) _ _ _ ho.tc.1 ho.tk
  have HO : Hid (overM S o = if (gapM S o.fc o.fk o.fa).2 = true ∧ (gapM S o.tc o.tk o.ta).2 = true ∧ (gapM S o.fc o.fk o.fa).1 < (gapM S o.tc o.tk o.ta).1 then ((gapM S o.fc o.fk o.fa).1, (gapM S o.tc o.tk o.ta).1) else (0, 0)) := rfl
  obtain ⟨R, hR⟩ : ∃ R, Hid (R = overM S o) := ⟨_, Eq.refl _⟩
  rw [← hR.out]
  rw [HO.out] at hR
  clear HO h ho
  generalize gapM S o.fc o.fk o.fa = ga at *
  generalize gapM S o.tc o.tk o.ta = gb at *
  obtain ⟨a, ab⟩ := ga
  obtain ⟨b, bb⟩ := gb
  obtain ⟨R1, R2⟩ := R
  simp only at HG1 HG2 hR ⊢
  obtain ⟨oc, ok, okind, ost, olc, olk, orc, ork, otx, ovk, ovn, ovf, ovs, oky, opc, opk, ofc, ofk, ofa, otc, otk, ota⟩ := o
  simp only at HC HG1 HG2
  obtain ⟨⟨c0, c1, c2⟩, -⟩ := HC.out E (Touch.refl _ _)
  go_enter Tryz.func14, Tryz.ntmps14
  go_upto_region 1 with fail
  rw [← hE.out]
  clear hE
  go_wp2_with fail
  refine (HG1.out _ (Touch.refl _ _)).mono ?_
  rintro e W1 ⟨rfl, t1⟩
  have HT1 : Hid (Touch (fun _ => False) E W1) := t1
  obtain ⟨-, d0, d1, d2⟩ := HC.out W1 t1
  clear t1 c0 c1 c2 HG1
  go_wp2_with fail
  refine (HG2.out _ HT1.out).mono ?_
  rintro e W2 ⟨rfl, t2⟩
  have HT2 : Hid (Touch (fun _ => False) w W2) := HTE.out.trans (HT1.out.trans t2)
  clear t2 d0 d1 d2 HG2 HC HB
  cases ab with
  | false =>
    have HR0 : Hid (R1 = 0 ∧ R2 = 0) := by rw [Hid]; have := hR.out; simpa using this
    go_wp2_with fail
    refine bodyPost_ret (v := .tuple #[.int .i64 0, .int .i64 0]) (by simp [results, Tryz.results14, go_sem]) rfl ?_
    exact ⟨by rw [HR0.out.1, HR0.out.2], HT2.out⟩
  | true =>
    cases bb with
    | false =>
      have HR0 : Hid (R1 = 0 ∧ R2 = 0) := by rw [Hid]; have := hR.out; simpa using this
      go_wp2_with fail
      refine bodyPost_ret (v := .tuple #[.int .i64 0, .int .i64 0]) (by simp [results, Tryz.results14, go_sem]) rfl ?_
      exact ⟨by rw [HR0.out.1, HR0.out.2], HT2.out⟩
    | true =>
      by_cases hab : a < b
      · have l1 : ¬ b ≤ a := by omega
        have HR0 : Hid (R1 = a ∧ R2 = b) := by rw [Hid]; have := hR.out; rw [if_pos ⟨rfl, rfl, hab⟩] at this; simpa using this
        go_wp2_with fail
        refine bodyPost_ret (v := .tuple #[.int .i64 a, .int .i64 b]) (by simp [results, Tryz.results14, go_sem]) rfl ?_
        exact ⟨by rw [HR0.out.1, HR0.out.2], HT2.out⟩
      · have l1 : b ≤ a := by omega
        have HR0 : Hid (R1 = 0 ∧ R2 = 0) := by rw [Hid]; have := hR.out; rw [if_neg (fun q => hab q.2.2)] at this; simpa using this
        go_wp2_with fail
        refine bodyPost_ret (v := .tuple #[.int .i64 0, .int .i64 0]) (by simp [results, Tryz.results14, go_sem]) rfl ?_
        exact ⟨by rw [HR0.out.1, HR0.out.2], HT2.out⟩
set_option maxHeartbeats 8000000 in
theorem mless_any (x y : O) (w : World) :
    Calls Tryz.prog 27 #[x.val, y.val] w fun e w' => e = .returned (.bool (lessM x y)) ∧ Touch (fun _ => False) w w' := by
  obtain ⟨E, hE⟩ : ∃ E, Hid (E = (w.alloc (opO x)).alloc (opO y)) := ⟨_, Eq.refl _⟩
  have HTE : Hid (Touch (fun _ => False) w E) := by rw [hE.out]; exact ((Touch.refl _ _).alloc _).alloc _
  have HB : Hid (E.heap[w.heap.size]? = some (opO x) ∧ E.heap[w.heap.size + 1]? = some (opO y)) := by
    rw [hE.out]
    refine ⟨(Below.heap_alloc _ _ _ (by simp)).trans (heap_alloc_new _ _), ?_⟩
    have := heap_alloc_new (w.alloc (opO x)) (opO y)
    simpa using this
  obtain ⟨x0, x1, -, x3, -, -⟩ := opO_head HB.out.1
  obtain ⟨y0, y1, -, y3, -, -⟩ := opO_head HB.out.2
  have HL : Hid (∀ W, Calls Tryz.prog 50 #[.agg #[.int .u64 x.c, .int .u64 x.k], .agg #[.int .u64 y.c, .int .u64 y.k]] W fun e w' => e = .returned (.bool (lessI x.c x.k y.c y.k)) ∧ Touch (fun _ => False) W w') := fun W => (less_any x.c x.k y.c y.k W).mono fun e w' q => ⟨q.1, by rw [q.2]; exact ((Touch.refl _ _).alloc _).alloc _⟩
  obtain ⟨mb, hmb⟩ : ∃ mb, Hid (mb = lessM x y) := ⟨_, Eq.refl _⟩
  rw [← hmb.out]
  unfold lessM at hmb
  obtain ⟨xc, xk, xkind, xst, xlc, xlk, xrc, xrk, xtx, xvk, xvn, xvf, xvs, xky, xpc, xpk, xfc, xfk, xfa, xtc, xtk, xta⟩ := x
  obtain ⟨yc, yk, ykind, yst, ylc, ylk, yrc, yrk, ytx, yvk, yvn, yvf, yvs, yky, ypc, ypk, yfc, yfk, yfa, ytc, ytk, yta⟩ := y
  simp only at x0 x1 x3 y0 y1 y3 HL hmb ⊢
  clear HB
  go_enter Tryz.func27, Tryz.ntmps27
  go_upto_region 1 with fail
  rw [← hE.out]
  clear hE
  by_cases hst : xst = yst
  · subst hst
    have HM : Hid (mb = lessI xc xk yc yk) := by have := hmb.out; rw [if_pos rfl] at this; exact this
    have b0 : (xst == xst) = true := by simp
    go_wp2_with fail
    refine (HL.out _).mono ?_
    rintro e W1 ⟨rfl, t1⟩
    have HT : Hid (Touch (fun _ => False) w W1) := HTE.out.trans t1
    clear t1 HL x0 x1 x3 y0 y1 y3
    go_wp2_with fail
    go_ret
    exact ⟨by rw [HM.out]; rfl, HT.out⟩
  · have HM : Hid (mb = decide (xst < yst)) := by have := hmb.out; rw [if_neg hst] at this; exact this
    have b0 : (xst == yst) = false := by simpa using hst
    go_wp2_with fail
    go_ret
    exact ⟨by rw [HM.out]; rfl, HTE.out⟩
set_option maxHeartbeats 4000000 in
theorem isShown_any (x : O) (w : World) : Calls Tryz.prog 43 #[x.val] w fun e w' => e = .returned (.bool (!(x.vk == 0))) ∧ Touch (fun _ => False) w w' := by
  obtain ⟨E, hE⟩ : ∃ E, Hid (E = w.alloc (opO x)) := ⟨_, Eq.refl _⟩
  have HTE : Hid (Touch (fun _ => False) w E) := by rw [hE.out]; exact (Touch.refl _ _).alloc _
  obtain ⟨-, -, -, -, x4, -⟩ := opO_head (show E.heap[w.heap.size]? = some (opO x) by rw [hE.out]; exact heap_alloc_new _ _)
  obtain ⟨xc, xk, xkind, xst, xlc, xlk, xrc, xrk, xtx, xvk, xvn, xvf, xvs, xky, xpc, xpk, xfc, xfk, xfa, xtc, xtk, xta⟩ := x
  simp only at x4 ⊢
  go_enter Tryz.func43, Tryz.ntmps43
  go_upto_region 1 with fail
  rw [← hE.out]
  clear hE
  cases hb : (xvk == 0) with
  | true =>
    go_wp2_with fail
    go_ret
    exact ⟨rfl, HTE.out⟩
  | false =>
    go_wp2_with fail
    go_ret
    exact ⟨rfl, HTE.out⟩
end Go.Proofs.YtdnhoicfolkbnaaGreat
