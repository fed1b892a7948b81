/- Package seq: its units as a list (no Go in it): what At, Find, Len and Insert say of it. -/
import Derived.Test.YtnbphdmpbjahhabPart20
import Derived.Test.YtnbphdmpbjahhabSeqW6
import Derived.Test.YtnbphdmpbjahhabPart10
namespace Go.Proofs.Ytnbphdmpbjahhab
set_option linter.unusedVariables false
set_option linter.unusedSimpArgs false

def SS.units (S : SS) : List Un := S.spots.map S.unit
theorem Inv.units_len {S : SS} (h : Inv S) : (S.units.length : Int) = S.total := by
  unfold SS.units
  rw [List.length_map]; exact h.spots_len
theorem units_get (S : SS) (m : Nat) (hm : m < S.units.length) (hm' : m < S.spots.length) : S.units[m] = S.unit S.spots[m] := List.getElem_map _
theorem Inv.spot_run {S : SS} (h : Inv S) {x : Sp} (hx : x ∈ S.spots) : 0 < x.run ∧ x.run < S.runs.length ∧ 0 ≤ x.pos ∧ (rn S.runs x.run).first.k + x.pos ≤ 9007199254740991 := by
  unfold SS.spots at hx
  obtain ⟨i, hi, hx⟩ := List.mem_flatMap.1 hx
  have hl := (h.ordF.lab i).1 hi
  obtain ⟨q1, q2, q3, q4, q5⟩ := h.pcs i (by omega) hl.2
  obtain ⟨j, hj, rfl⟩ := spotsFrom_mem hx
  exact ⟨q1, q2, by show 0 ≤ (S.pc i).pos + (j : Int); omega, by show (rn S.runs (S.pc i).run).first.k + ((S.pc i).pos + (j : Int)) ≤ _; omega⟩
theorem Inv.at_units {S : SS} (h : Inv S) (m : Nat) (hm : m < S.units.length) : S.at_ (m : Int) = (S.units[m], true) := by
  have hl := h.units_len
  unfold SS.at_
  rw [if_neg (by omega)]
  have hg := h.spotAt_get (m : Int) (by omega) (by omega)
  rw [Int.toNat_natCast] at hg
  have hu : S.units[m]? = some (S.unit (S.spotAt m)) := by
    unfold SS.units
    rw [List.getElem?_map, hg]; rfl
  rw [List.getElem?_eq_getElem hm] at hu
  rw [Option.some.inj hu]
theorem Inv.at_none {S : SS} (h : Inv S) (i : Int) (hi : i < 0 ∨ (S.units.length : Int) ≤ i) : S.at_ i = (.zero, false) := by
  have hl := h.units_len
  unfold SS.at_
  rw [if_pos (by omega)]
/-- A unit's id is found at its place. -/
theorem Inv.find_units {S : SS} (h : Inv S) (m : Nat) (hm : m < S.units.length) : S.find S.units[m].c S.units[m].k = (m : Int) := by
  have hm' : m < S.spots.length := by simpa [SS.units] using hm
  have := (h.find_at (List.getElem?_eq_getElem hm')).1
  rw [units_get S m hm hm']; exact this
theorem Inv.units_find {S : SS} (h : Inv S) {c k : Int} (hc : 0 ≤ c) (hk : 0 ≤ k) (hf : S.find c k ≠ -1) : ∃ m, ∃ hm : m < S.units.length, S.find c k = (m : Int) ∧ S.units[m].c = c ∧ S.units[m].k = k := by
  obtain ⟨a1, a2, a3, a4⟩ := h.at_find hc hk hf
  have hm : (S.find c k).toNat < S.spots.length := (List.getElem?_eq_some_iff.1 a2).1
  have e : S.spots[(S.find c k).toNat] = S.spotOf c k := (List.getElem?_eq_some_iff.1 a2).2
  have hm' : (S.find c k).toNat < S.units.length := by simpa [SS.units] using hm
  have e2 : S.units[(S.find c k).toNat] = S.unit (S.spotOf c k) := by
    rw [units_get S _ hm' hm, e]
  exact ⟨_, hm', by omega, by rw [e2]; exact a3, by rw [e2]; exact a4⟩
theorem Inv.find_none {S : SS} (h : Inv S) {c k : Int} (hc : 0 ≤ c) (hk : 0 ≤ k) (hn : ∀ v ∈ S.units, ¬ (v.c = c ∧ v.k = k)) : S.find c k = -1 :=
  Decidable.byContradiction fun hf => by
    obtain ⟨m, hm, _, e1, e2⟩ := h.units_find hc hk hf
    exact hn _ (List.getElem_mem hm) ⟨e1, e2⟩
theorem Inv.units_nodup {S : SS} (h : Inv S) {i j : Nat} (hi : i < S.units.length) (hj : j < S.units.length) (hc : S.units[i].c = S.units[j].c) (hk : S.units[i].k = S.units[j].k) : i = j := by
  have h1 := h.find_units i hi
  have h2 := h.find_units j hj
  rw [hc, hk, h2] at h1
  omega
/-- What is so of its units: right ids. -/
theorem Inv.units_ok {S : SS} (h : Inv S) {v : Un} (hv : v ∈ S.units) : 1 ≤ v.c ∧ v.c ≤ 9007199254740991 ∧ 1 ≤ v.k ∧ v.k ≤ 9007199254740991 := by
  unfold SS.units at hv
  obtain ⟨x, hx, rfl⟩ := List.mem_map.1 hv
  obtain ⟨a, b, c, d⟩ := h.spot_run hx
  have := h.runs x.run a b
  rw [SS.unit_c, SS.unit_k]
  omega
/-- One unit more: it stands at its place, all others as they stood. -/
theorem Inv.run_units {S : SS} (h : Inv S) {u : Un} (hu : u.ok) (hm : S.may u 1 = true) (hR : Room S 1) : ∃ p : Nat, p ≤ S.units.length ∧ (p : Int) = S.placeFor u ∧ (S.run u 1).units = S.units.take p ++ u :: S.units.drop p := by
  obtain ⟨⟨a, b⟩, c, d, e, f⟩ := may_iff.1 hm
  have hnc : 1 ≤ u.c ∧ u.c ≤ 9007199254740991 := by simpa [numOk] using a
  obtain ⟨p0, p1⟩ := h.placeLe hu f
  have hl := h.units_len
  have hrp := hR.pcs
  obtain ⟨y, y1, y2, y3, _⟩ := h.lay_spots (S.placeFor u) p0 p1 (by omega) u hnc.1 (S.parentOf u).1 1 (Nat.le_refl _)
  refine ⟨(S.placeFor u).toNat, by omega, by omega, ?_⟩
  have e1 : S.run u 1 = S.lay (S.placeFor u) u (S.parentOf u).1 (1 : Nat) := by unfold SS.run; rw [if_pos hm]; rfl
  rw [e1]
  unfold SS.units
  have hold : ∀ l : List Sp, (∀ x ∈ l, x ∈ S.spots) → l.map (S.lay (S.placeFor u) u (S.parentOf u).1 (1 : Nat)).unit = l.map S.unit := fun l hl => List.map_congr_left fun x hx => y3 x (h.spot_run (hl x hx)).2.1
  have hs1 : spotsFrom y 1 = [y] := by
    unfold spotsFrom
    simp
  rw [y1, List.map_append, List.map_append, hold _ fun x hx => List.mem_of_mem_take hx, hold _ fun x hx => List.mem_of_mem_drop hx, hs1, List.map_take, List.map_drop, List.map_cons, List.map_nil, y2, List.append_assoc, List.singleton_append]
theorem run_no {S : SS} {u : Un} (hm : S.may u 1 = false) : S.run u 1 = S := by unfold SS.run; rw [hm]; rfl
/-- How great it is. -/
structure Size (S : SS) (n : Nat) : Prop where
  tot : S.total ≤ n
  pcs : S.pcs.length ≤ 2 * n + 1
  runs : S.runs.length ≤ n + 1
theorem Size.room {S : SS} {n : Nat} (h : Size S n) (hn : n ≤ 1000000) (m : Nat) (hm : m ≤ 1000000) : Room S m := by
  have := h.tot
  have := h.pcs
  have := h.runs
  exact ⟨by omega, by omega, by omega⟩
theorem Size.new : Size .new 0 := ⟨by decide, by decide, by decide⟩
theorem Size.mono {S : SS} {n m : Nat} (h : Size S n) (hm : n ≤ m) : Size S m := by
  have := h.tot
  have := h.pcs
  have := h.runs
  exact ⟨by omega, by omega, by omega⟩
theorem Inv.run1 {S : SS} (h : Inv S) {u : Un} (hu : u.ok) {n : Nat} (hz : Size S n) (hn : n ≤ 1000000) : Inv (S.run u 1) ∧ Size (S.run u 1) (n + 1) := by
  have h1 := hz.tot
  have h2 := hz.pcs
  have h3 := hz.runs
  obtain ⟨a, b, c, d⟩ := h.runI (u := u) (n := 1) hu (fun _ => by omega) (by omega) (by omega)
  refine ⟨a, ?_, by omega, by omega⟩
  rw [b]
  split <;> omega
/-- Units inserted one after the other. -/
def seqOf (us : List Un) : SS := us.foldl (fun S u => S.run u 1) .new
theorem seqOf_take (us : List Un) (j : Nat) (hj : j < us.length) : seqOf (us.take (j + 1)) = (seqOf (us.take j)).run us[j] 1 := by
  unfold seqOf
  rw [List.take_succ_eq_append_getElem hj, List.foldl_append]; rfl
theorem seqOf_inv (us : List Un) (hu : ∀ u ∈ us, u.ok) (hl : us.length ≤ 1000000) : ∀ j, j ≤ us.length → Inv (seqOf (us.take j)) ∧ Size (seqOf (us.take j)) j
  | 0, _ => ⟨Inv.new, Size.new⟩
  | j + 1, h => by
    obtain ⟨a, b⟩ := seqOf_inv us hu hl j (by omega)
    rw [seqOf_take us j h]
    exact a.run1 (hu _ (List.getElem_mem _)) b (by omega)
/-- Its units are among those that were inserted. -/
theorem seqOf_mem (us : List Un) (hu : ∀ u ∈ us, u.ok) (hl : us.length ≤ 1000000) : ∀ j, j ≤ us.length → ∀ v ∈ (seqOf (us.take j)).units, v ∈ us
  | 0, _, v, hv => by
    have : (seqOf (us.take 0)).units = [] := rfl
    rw [this] at hv
    exact (List.not_mem_nil hv).elim
  | j + 1, h, v, hv => by
    obtain ⟨a, b⟩ := seqOf_inv us hu hl j (by omega)
    have ih := seqOf_mem us hu hl j (by omega)
    rw [seqOf_take us j h] at hv
    cases hm : (seqOf (us.take j)).may us[j] 1 with
    | false => rw [run_no hm] at hv; exact ih v hv
    | true =>
      obtain ⟨p, _, _, e⟩ := a.run_units (hu _ (List.getElem_mem _)) hm (b.room (by omega) 1 (by omega))
      rw [e] at hv
      rcases List.mem_append.1 hv with hv | hv
      · exact ih v (List.mem_of_mem_take hv)
      · rcases List.mem_cons.1 hv with rfl | hv
        · exact List.getElem_mem _
        · exact ih v (List.mem_of_mem_drop hv)
/-- A unit with a new id, its Left there or none, no Right: it may be inserted. -/
theorem Inv.may_new {S : SS} (h : Inv S) {u : Un} (hc : numOk u.c = true) (hk : numOk u.k = true) (hn : ∀ v ∈ S.units, ¬ (v.c = u.c ∧ v.k = u.k)) (hr : u.rc = 0 ∧ u.rk = 0) (hl : (u.lc = 0 ∧ u.lk = 0) ∨ ∃ v ∈ S.units, v.c = u.lc ∧ v.k = u.lk) : S.may u 1 = true := by
  have hc' : 1 ≤ u.c ∧ u.c ≤ 9007199254740991 := by simpa [numOk] using hc
  have hk' : 1 ≤ u.k ∧ u.k ≤ 9007199254740991 := by simpa [numOk] using hk
  refine may_iff.2 ⟨⟨hc, hk⟩, Int.le_refl _, by omega, ?_, ?_⟩
  · cases hh : S.hasAny u.c u.k 1 with
    | false => rfl
    | true => exact absurd (h.find_none (by omega) (by omega) hn) ((h.hasAny_one hc'.1 (by omega)).1 hh)
  · have hf : S.find u.lc u.lk < S.total ∧ (S.find u.lc u.lk + 1 = 0 → u.lc = 0 ∧ u.lk = 0) := by
      rcases hl with hl | ⟨v, hv, e1, e2⟩
      · refine ⟨?_, fun _ => hl⟩
        have := h.find_le 0 0 (by omega) (by omega)
        have ht := h.total_nn
        rw [hl.1, hl.2]; omega
      · obtain ⟨m, hm, rfl⟩ := List.mem_iff_getElem.1 hv
        have := h.find_units m hm
        rw [e1, e2] at this
        have hul := h.units_len
        exact ⟨by omega, fun _ => by omega⟩
    unfold SS.between SS.rightOf
    rw [if_pos hr, if_neg]
    rintro (⟨a, b⟩ | a)
    · exact b (hf.2 a)
    · omega
end Go.Proofs.Ytnbphdmpbjahhab

/- Package seq: the spots of a sequence one after another: spots' iterator, over row.all's. -/
namespace Go.Proofs.Ytnbphdmpbjahhab
open Go.RowKit Go.Shelf
set_option linter.unusedVariables false
set_option linter.unusedSimpArgs false
set_option maxRecDepth 100000
attribute [local go_sem] Oper.semAt_some

theorem rowAll_any (b k : Nat) (w : World) : Calls Try.prog 68 #[rP b k] w fun e w' => e = .returned (.func (.func 71) #[] #[.pointer (some ⟨w.heap.size, 0, none⟩)]) ∧ w' = w.alloc (.cells #[rP b k] 89) := by
  go_enter Try.func68, Try.ntmps68
  go_wp2_with fail
  go_ret
  exact ⟨rfl, rfl⟩
theorem spots_any (b : Nat) (w : World) : Calls Try.prog 53 #[.pointer (some ⟨b, 0, none⟩)] w fun e w' => e = .returned (.func (.func 67) #[] #[.pointer (some ⟨w.heap.size, 0, none⟩)]) ∧ w' = w.alloc (.cells #[.pointer (some ⟨b, 0, none⟩)] 24) := by
  go_enter Try.func53, Try.ntmps53
  go_wp2_with fail
  go_ret
  exact ⟨rfl, rfl⟩
theorem all_any (b : Nat) (w : World) : Calls Try.prog 31 #[.pointer (some ⟨b, 0, none⟩)] w fun e w' => e = .returned (.func (.func 52) #[] #[.pointer (some ⟨w.heap.size, 0, none⟩)]) ∧ w' = w.alloc (.cells #[.pointer (some ⟨b, 0, none⟩)] 24) := by
  go_enter Try.func31, Try.ntmps31
  go_wp2_with fail
  go_ret
  exact ⟨rfl, rfl⟩
/-- The box in which an iterator keeps its yield. -/
abbrev yO (l t : Nat) : Obj := .cells #[.func (.yield l) #[] #[]] t (0, 0)
theorem spots_take (S : SS) {j : Nat} (h : j < S.ord.length) (m : Nat) (hm : (m : Int) ≤ S.len S.ord[j]) : (S.ord.take j).flatMap S.pcSp ++ spotsFrom (S.pc S.ord[j]) m <+: S.spots := by
  unfold SS.spots
  have e : S.ord = S.ord.take j ++ S.ord[j] :: S.ord.drop (j + 1) := by rw [← List.drop_eq_getElem_cons h, List.take_append_drop]
  conv => rhs; rw [e]
  rw [List.flatMap_append, List.flatMap_cons]
  refine (List.prefix_append_right_inj _).2 ?_
  have e2 : S.pcSp S.ord[j] = spotsFrom (S.pc S.ord[j]) m ++ spotsFrom ⟨(S.pc S.ord[j]).run, (S.pc S.ord[j]).pos + (m : Int)⟩ ((S.len S.ord[j]).toNat - m) := by
    rw [← spotsFrom_add]
    unfold SS.pcSp
    congr 1
    omega
  rw [e2, List.append_assoc]
  exact List.prefix_append _ _
theorem spotsFrom_snoc (x : Sp) (m : Nat) : spotsFrom x (m + 1) = spotsFrom x m ++ [⟨x.run, x.pos + (m : Int)⟩] := by
  rw [spotsFrom_add]
  congr 1
  simp [spotsFrom]
theorem pre_snoc {α : Type} {F pre : List α} {x : α} (h : pre ++ [x] <+: F) : ∃ h : pre.length < F.length, pre = F.take pre.length ∧ x = F[pre.length] := by
  obtain ⟨t, ht⟩ := h
  subst ht
  refine ⟨by simp, by simp, by simp⟩
/-- Between two rounds of the range over the row. -/
structure SpI (S : SS) (J : List Sp → (Nat → Prop) → World → Prop) (l : Nat) (Φ : Nat → Prop) (W : World) (w1 : Nat) (pre : List Nat) (Ψ : Nat → Prop) (W' : World) : Prop where
  j : J (pre.flatMap S.pcSp) Ψ W'
  t : Touch Φ W W'
  s : Swells Φ Ψ w1
  y : W'.heap[W.heap.size]? = some (yO l 109)
theorem SpI.foot {S : SS} {J : List Sp → (Nat → Prop) → World → Prop} {l : Nat} {Φ : Nat → Prop} {W : World} {w1 : Nat} (f : Foot W.heap.size J) (hw : W.heap.size < w1) : Foot w1 (SpI S J l Φ W w1) :=
  ⟨fun s Ψ A B h t => ⟨(f.up (Nat.le_of_lt hw)).keep _ _ _ _ h.j t, h.t.then t fun k hk q => absurd q.1 (by omega), h.s, (t.block _ (lt_of_heap h.y) fun q => absurd q.1 (by omega)).trans h.y⟩, fun s Ψ A h => f.lt _ _ _ h.j⟩
structure SpX (S : SS) (Jx : List Sp → (Nat → Prop) → World → Prop) (Φ : Nat → Prop) (W : World) (w1 : Nat) (c : Code) (pre : List Nat) (Ψ : Nat → Prop) (W' : World) : Prop where
  c : c = .ret
  j : ∃ ys, ys <+: S.spots ∧ Jx ys Ψ W'
  t : Touch Φ W W'
  s : Swells Φ Ψ w1
theorem SpX.foot {S : SS} {Jx : List Sp → (Nat → Prop) → World → Prop} {Φ : Nat → Prop} {W : World} {w1 : Nat} (f : Foot W.heap.size Jx) (hw : W.heap.size < w1) (c : Code) : Foot w1 (SpX S Jx Φ W w1 c) :=
  ⟨fun s Ψ A B h t => ⟨h.c, by obtain ⟨ys, h1, h2⟩ := h.j; exact ⟨ys, h1, (f.up (Nat.le_of_lt hw)).keep _ _ _ _ h2 t⟩, h.t.then t fun k hk q => absurd q.1 (by omega), h.s⟩, fun s Ψ A h => by obtain ⟨ys, h1, h2⟩ := h.j; exact f.lt _ _ _ h2⟩

set_option maxHeartbeats 8000000 in
theorem spots_stops {w : World} {B : Bk} {S : SS} (h : SeqM w B S) (hi : Inv S) (C : Nat) (hC : w.heap[C]? = some (.cells #[sP B] 24 (0, 0))) :
    SeqP Try.prog 67 #[.pointer (some ⟨C, 0, none⟩)] (fun x : Sp => #[spV x]) (fun x => x = C ∨ B.has x) S.spots w := fun l n' J Jx W Φ hW fJ fJx hR hY h0 => by
  have hCl : C < W.heap.size := Nat.lt_of_lt_of_le (lt_of_heap hC) hW.size
  have hBl : ∀ x, B.has x → x < W.heap.size := fun x hx => Nat.lt_of_lt_of_le (h.lt hx) hW.size
  have HB : Hid (∀ wr, Touch Φ W wr → wr.cell? ⟨C, 0, none⟩ = some (sP B)) := fun wr t => by
    have e := (hW.block _ (lt_of_heap hC) fun q => q (.inl rfl)).trans hC
    rw [cell_of_block ((t.block _ (lt_of_heap e) (hR C (.inl rfl))).trans e)]; rfl
  have HM : Hid (∀ wr, Touch Φ W wr → SeqM wr B S) := fun wr t => (h.keep hW fun x hx q => q (.inr hx)).keep t fun x hx => hR x (.inr hx)
  have HY : Hid _ := hY
  have HFJ : Hid (Foot W.heap.size J) := fJ
  have HFx : Hid (Foot W.heap.size Jx) := fJx
  have HRP : Hid (∀ (Ψ : Nat → Prop) m, W.heap.size ≤ m → Swells Φ Ψ m → ∀ x, (x = C ∨ B.has x) → ¬ Ψ x) := fun Ψ m hm hs x hx hp => by
    rcases hs x hp with q | q
    · exact hR x hx q
    · have h1 : x < W.heap.size := by
        rcases hx with rfl | hx
        · exact hCl
        · exact hBl x hx
      omega
  have HRn : Hid (∀ x, (x = C ∨ B.has x) → ¬ Φ x) := hR
  have HΦ : Hid (∀ k, Φ k → k < W.heap.size) := fJ.lt _ _ _ h0
  have HInv : Hid (Inv S) := hi
  have HBl : Hid (∀ x, B.has x → x < W.heap.size) := hBl
  have hc0 := HB.out ((W.alloc (yO l 109))) ((Touch.refl _ W).alloc _)
  have H0 : Hid (J [] Φ W) := h0
  clear hW hR hY hC h hi fJ fJx hBl h0
  refine callsIn_of_wp_marks Try.func67 rfl trivial ?_ rfl
  simp only [Try.ntmps67, List.size_toArray, List.length_cons, List.length_nil, Nat.reduceAdd, Nat.reduceSub, Array.replicate_succ, Array.replicate_zero, List.push_toArray, List.append_toArray, List.nil_append, List.cons_append]
  gi_wp2_with fail
  refine ⟨trivial, wideN, (callsIn_wide.2 (rowAll_any B.b 2 _)).mono ?_⟩
  rintro e W1 ⟨rfl, hW1⟩
  rw [World.size_alloc]
  have hs1 : W1.heap.size = W.heap.size + 2 := by rw [hW1]; simp
  have t1' : Touch (fun _ => False) W W1 := by rw [hW1]; exact ((Touch.refl _ W).alloc _).alloc _
  have t1 : Touch Φ W W1 := t1'.mono fun _ _ q => q.elim
  have y1 : W1.heap[W.heap.size]? = some (yO l 109) := by
    rw [hW1]; exact (Below.heap_alloc _ _ _ (by simp)).trans (World.alloc_heap_new W _)
  have a1 : W1.heap[W.heap.size + 1]? = some (.cells #[rP B.b 2] 89 (0, 0)) := by
    have := World.alloc_heap_new (W.alloc (yO l 109)) (.cells #[rP B.b 2] 89 (0, 0))
    rw [World.size_alloc] at this
    rw [hW1]; exact this
  clear hW1
  gi_wp2
  have HRow := rowAll_stops (HM.out W1 t1).ord (W.heap.size + 1) a1
  refine wp_range (gf := 71) (lb := #[.pointer (some ⟨W.heap.size + 1, 0, none⟩)]) rfl (enters_of Try.func71 (by kernel_rfl) rfl)
    HRow (Touch.refl _ _) ?hRw (fun _ => rfl) (SpI S J l Φ W W1.heap.size) (SpX S Jx Φ W W1.heap.size) (SpI.foot HFJ.out (by omega)) (SpX.foot HFx.out (by omega)) Φ ?hR ?h0
    (fun i a' pre Ψ W' => SpI S J l Φ W W1.heap.size pre Ψ W' ∧ a' = { tmps := #[.func (.yield l) #[] #[], .pointer (some ⟨C, 0, none⟩), .pointer (some ⟨W.heap.size, 0, none⟩), iV (i : Int), undef, sP B, .pointer (some ⟨B.b, 0, none⟩), .pointer (some ⟨B.b, 2, none⟩), .func (.func 71) #[] #[.pointer (some ⟨W.heap.size + 1, 0, none⟩)], iV (i : Int), undef, undef, undef, undef, undef, undef, undef, undef, undef, undef, undef, undef, undef, undef, undef, undef, undef, undef, undef, undef, undef, undef, undef], defers := [] }) ?fA ?assign ?body ?done ?stop
  case hRw =>
    rintro k (rfl | rfl | rfl)
    · omega
    · have := HBl.out _ (.inl rfl); omega
    · have := HBl.out B.go (.inr (.inr (.inr (.inl rfl)))); omega
  case hR =>
    rintro k (rfl | rfl | rfl) q
    · have := HΦ.out _ q; omega
    · exact HRn.out _ (.inr (.inl rfl)) q
    · exact HRn.out B.go (.inr (.inr (.inr (.inr (.inl rfl))))) q
  case h0 => exact ⟨HFJ.out.keep _ _ _ _ H0.out (t1'.mono fun _ _ q => q.elim), t1, Swells.refl _ _, y1⟩
  case fA => exact fun i a' => ⟨fun s Ψ A X q t => ⟨(SpI.foot HFJ.out (by omega)).keep _ _ _ _ q.1 t, q.2⟩, fun s Ψ A q => (SpI.foot HFJ.out (by omega)).lt _ _ _ q.1⟩
  case assign =>
    rintro q pre i Ψ W' K hI hK
    gi_wp2
    exact hK _ _ _ (Touch.refl _ _) (Swells.refl _ _) ⟨hI, rfl⟩
  case body =>
    rintro q pre i a' Ψ W2 hsz hRk hpre ⟨⟨hj, ht, hs, hy⟩, rfl⟩
    obtain ⟨hlt, hp1, hi1⟩ := pre_snoc hpre
    have hin : i ∈ S.ord := by rw [hi1]; exact List.getElem_mem _
    have hlab := (HInv.out.ordF.lab i).1 hin
    have hM2 := HM.out W2 ht
    have HPre : Hid (∀ m : Nat, (m : Int) ≤ S.len i → pre.flatMap S.pcSp ++ spotsFrom (S.pc i) m <+: S.spots) := fun m hm => by
      have := spots_take S hlt m (by rw [← hi1]; exact hm)
      rw [← hi1, ← hp1] at this
      exact this
    have HEnd : Hid ((pre ++ [i]).flatMap S.pcSp = pre.flatMap S.pcSp ++ spotsFrom (S.pc i) (S.len i).toNat) := by
      rw [Hid, List.flatMap_append]; simp [SS.pcSp]
    obtain ⟨k0, k1⟩ := hM2.pcs.sp i hlab.2
    have hpc : S.pcs[i] = S.pc i := by unfold SS.pc; rw [List.getElem?_eq_getElem hlab.2]; rfl
    rw [hpc] at k0 k1
    obtain ⟨z1, z2, z3, z4, z5⟩ := HInv.out.pcs i hlab.1 hlab.2
    have hrk := (HInv.out.runs (S.pc i).run z1 z2)
    have hk1 : 1 ≤ (rn S.runs (S.pc i).run).first.k := hrk.2.2.2.2.2.2.2.2.2.2.1
    have hbd : (S.pc i).pos + S.len i ≤ 9007199254740992 := by omega
    have L0 := r_lengthOf hM2.ord i hlab.2
    have HL : Hid (∀ wr, Touch (fun _ => False) W2 wr → Calls Try.prog 29 #[rP B.b 2, iV (i : Int)] wr fun e w' => e = .returned (iV (S.len i)) ∧ w' = wr) := fun wr t => r_lengthOf (hM2.keep0 t).ord i hlab.2
    have cC := HB.out W2 ht
    have cp := hM2.pcs.cell
    have l0 : (i : Int) < (S.pcs.length : Int) := by omega
    have l1 : (0 : Int) ≤ (i : Int) := by omega
    have HIJ : Hid (J (pre.flatMap S.pcSp) Ψ W2) := hj
    have HT2 : Hid (Touch Φ W W2) := ht
    have HS2 : Hid (Swells Φ Ψ W1.heap.size) := hs
    have HY2 : Hid (W2.heap[W.heap.size]? = some (yO l 109)) := hy
    generalize S.len i = ln at *
    generalize S.pc i = p at *
    obtain ⟨pr, pp⟩ := p
    simp only at k0 k1 z3 hbd
    clear hRk hpre hj ht hs hy hp1 hi1 hin hlab hM2 hpc z1 z2 z5 hrk hk1 L0 hc0 a1 HRow t1 t1' y1
    have HW1 : Hid (W1.heap.size = W.heap.size + 2) := hs1
    obtain ⟨m1, hm1⟩ : ∃ m1, m1 = W1.heap.size := ⟨_, rfl⟩
    rw [← hm1] at hs1 hsz HS2 HW1 ⊢
    clear hm1
    have HSz : Hid (m1 < W2.heap.size) := hsz
    obtain ⟨Wx, hWx⟩ : ∃ Wx, Wx = W2.alloc (spO ⟨pr, pp⟩) := ⟨_, rfl⟩
    have hsx : Wx.heap.size = W2.heap.size + 1 := by rw [hWx]; simp
    have tx : Touch (fun _ => False) W2 Wx := by rw [hWx]; exact (Touch.refl _ W2).alloc _
    have hX : Wx.heap[W2.heap.size]? = some (spO ⟨pr, pp⟩) := by rw [hWx]; exact World.alloc_heap_new _ _
    have cCx : (W2.alloc (spO ⟨pr, pp⟩)).cell? ⟨C, 0, none⟩ = some (sP B) := by rw [← hWx]; exact cell_keep tx cC
    have HLx := HL.out _ tx
    have HWx : Hid (Wx = W2.alloc (spO ⟨pr, pp⟩)) := hWx
    have HnY : Hid (¬ Ψ W.heap.size) := fun h => by
      rcases HS2.out _ h with h | h
      · have := HΦ.out _ h; omega
      · omega
    have HTx : Hid (Touch (fun _ => False) W2 Wx) := tx
    have HXx : Hid (Wx.heap[W2.heap.size]? = some (spO ⟨pr, pp⟩)) := hX
    have HSx : Hid (Wx.heap.size = W2.heap.size + 1) := hsx
    have HΨ : Hid (∀ k, Ψ k → k < W2.heap.size) := HFJ.out.lt _ _ _ HIJ.out
    have HBd : Hid (0 ≤ pp ∧ 1 ≤ ln ∧ pp + ln ≤ 9007199254740992) := ⟨z3, z4, hbd⟩
    rw [hWx] at HLx
    clear hs1 hsz hWx hsx tx hX z3 z4 hbd
    gi_wp2
    refine ⟨trivial, wideN, (CallsIn.inRound q (callsIn_wide.2 HLx)).mono ?_⟩
    rintro e Wy ⟨rfl, hWy⟩
    obtain rfl : Wy = Wx := hWy.trans HWx.out.symm
    clear hWy HLx cCx cC cp k0 k1 l0 l1
    gi_wp2
    gi_loopw [22] (fun t wr => ∃ (j : Nat) (Ψ' : Nat → Prop), t = iV (j : Int) ∧ (j : Int) ≤ ln ∧ J (pre.flatMap S.pcSp ++ spotsFrom ⟨pr, pp⟩ j) Ψ' wr ∧ Touch Ψ W2 wr ∧ Swells Ψ Ψ' Wy.heap.size ∧ wr.heap[W2.heap.size]? = some (spO ⟨pr, pp + (j : Int)⟩)) (fun t _ => (ln - intOf t).toNat)
    case atStart => exact ⟨0, Ψ, rfl, by have := HBd.out; omega, by simpa [spotsFrom] using HFJ.out.keep _ _ _ _ HIJ.out (HTx.out.mono fun _ _ q => q.elim), HTx.out.mono fun _ _ q => q.elim, Swells.refl _ _, by simpa using HXx.out⟩
    case round =>
      obtain ⟨j, Ψ', rfl, hjl, hJr, hTr, hSr, hXr⟩ := hrel
      have HTr : Hid (Touch Ψ W2 wr) := hTr
      have HSr : Hid (Swells Ψ Ψ' Wy.heap.size) := hSr
      have HJr : Hid (J (pre.flatMap S.pcSp ++ spotsFrom ⟨pr, pp⟩ j) Ψ' wr) := hJr
      have HXr : Hid (wr.heap[W2.heap.size]? = some (spO ⟨pr, pp + (j : Int)⟩)) := hXr
      have yr : wr.heap[W.heap.size]? = some (yO l 109) := by
        exact (hTr.block _ (lt_of_heap HY2.out) HnY.out).trans HY2.out
      have HYr : Hid (wr.heap[W.heap.size]? = some (yO l 109)) := yr
      have hnX : ¬ Ψ' W2.heap.size := fun h => by
        have := HSx.out
        rcases hSr _ h with h | h
        · have := HΨ.out _ h; omega
        · omega
      have HnX : Hid (¬ Ψ' W2.heap.size) := hnX
      have HT02 : Hid (Touch Ψ W2 wr) := hTr
      have hwy : Wy.heap.size ≤ wr.heap.size := by have := lt_of_heap hXr; have := HSx.out; omega
      have HWy : Hid (Wy.heap.size ≤ wr.heap.size) := hwy
      have HTW : Hid (Touch Φ W wr) := HT2.out.swell HT02.out fun k hk => (HS2.out k hk).imp id fun h => by have := HW1.out; omega
      have HSW : Hid (Swells Φ Ψ' m1) := HS2.out.trans hSr (by have := HSx.out; have := HSz.out; omega)
      have HS02 : Hid (Swells Ψ Ψ' W2.heap.size) := (Swells.refl Ψ W2.heap.size).trans hSr (by have := HSx.out; omega)
      by_cases hlt2 : (j : Int) < ln
      · have yc : wr.cell? ⟨W.heap.size, 0, none⟩ = some (.func (.yield l) #[] #[]) := by rw [cell_of_block yr]; rfl
        have x0 : wr.cell? ⟨W2.heap.size, 0, none⟩ = some (iV (pr : Int)) := by rw [cell_of_block hXr]; rfl
        have x1 : wr.cell? ⟨W2.heap.size, 1, none⟩ = some (u64 (pp + (j : Int))) := by rw [cell_of_block hXr]; rfl
        have hjb : (j : Int) + 1 ≤ 9007199254740992 := by have := HBd.out; omega
        have HPj : Hid (pre.flatMap S.pcSp ++ spotsFrom ⟨pr, pp⟩ j ++ [⟨pr, pp + (j : Int)⟩] <+: S.spots) := by
          have := HPre.out (j + 1) (by omega)
          rw [spotsFrom_snoc, ← List.append_assoc] at this
          exact this
        have HRr : Hid (∀ k, (k = C ∨ B.has k) → ¬ Ψ' k) := HRP.out Ψ' m1 (by have := HW1.out; omega) HSW.out
        obtain ⟨fn, tmps, assign, body, hyy, hRd⟩ := HY.out _ ⟨pr, pp + (j : Int)⟩ Ψ' wr hJr HRr.out HPj.out 0
        have ew : IntKind.u64.wrap (pp + (j : Int) + 1) = pp + (j : Int) + 1 := by have := HBd.out; rw [IntKind.wrap_u64]; omega
        clear hJr hTr hSr hXr yr hnX hwy
        gi_wp2
        refine ⟨wideN, (round_in q hRd).mono ?_⟩
        rintro e W3 ⟨t3, Ψ3, s3, (⟨rfl, hJ3⟩ | ⟨rfl, hJ3⟩)⟩
        · have hX3 : W3.heap[W2.heap.size]? = some (spO ⟨pr, pp + (j : Int)⟩) := (t3.block _ (lt_of_heap HXr.out) HnX.out).trans HXr.out
          have x3 : W3.cell? ⟨W2.heap.size, 1, none⟩ = some (u64 (pp + (j : Int))) := by rw [cell_of_block hX3]; rfl
          have f3 : W3.frozen? ⟨W2.heap.size, 1, none⟩ = false := free_of_block hX3
          have HX3 : Hid (W3.heap[W2.heap.size]? = some (spO ⟨pr, pp + (j : Int)⟩)) := hX3
          have HJ3 : Hid (J (pre.flatMap S.pcSp ++ spotsFrom ⟨pr, pp⟩ j ++ [⟨pr, pp + (j : Int)⟩]) Ψ3 W3) := hJ3
          have HT3 : Hid (Touch Ψ' wr W3) := t3
          have HS3 : Hid (Swells Ψ' Ψ3 wr.heap.size) := s3
          have HnX3 : Hid (¬ Ψ3 W2.heap.size) := fun h => by
            rcases s3 _ h with h | h
            · exact HnX.out h
            · have := lt_of_heap HXr.out; omega
          clear hyy hRd t3 s3 hJ3 hX3 yc x0 x1
          gi_wp2
          go_roundw
          case rel =>
            refine ⟨j + 1, Ψ3, by go_num, by omega, ?_, ?_, ?_, ?_⟩
            · rw [spotsFrom_snoc, ← List.append_assoc]
              exact HFJ.out.keep _ _ _ _ HJ3.out ((Touch.refl _ W3).setCell _ _ fun _ => ⟨by have := HW1.out; have := HSz.out; show W.heap.size ≤ W2.heap.size; omega, HnX3.out⟩)
            · exact (HTr.out.swell HT3.out HS02.out).setCell _ _ fun h => absurd h (by simp only; omega)
            · exact HSr.out.trans HS3.out HWy.out
            · have := heap_setCell_same W3 W2.heap.size 1 (u64 (pp + (j : Int) + 1)) HX3.out
              rw [this, show pp + ((j + 1 : Nat) : Int) = pp + (j : Int) + 1 from by omega]
              rfl
          case measure => simp only [intOf]; omega
        · gi_wp2
          refine ⟨HT02.out.swell t3 HS02.out, Ψ3, HS02.out.trans s3 HT02.out.size, rfl, ⟨_, HPj.out, hJ3⟩, HTW.out.swell t3 fun k hk => (HSW.out k hk).imp id fun h => by have := HW1.out; omega, HSW.out.trans s3 (by have := HT02.out.size; have := HSz.out; omega)⟩
      · have hjn : ln.toNat = j := by omega
        have HJe : Hid (J ((pre ++ [i]).flatMap S.pcSp) Ψ' wr) := by rw [Hid, HEnd.out, hjn]; exact hJr
        clear hJr hTr hSr hXr yr hnX hjn hwy
        gi_wp2
        exact ⟨HT02.out, Ψ', HS02.out, HJe.out, HTW.out, HSW.out, HYr.out⟩
  case done =>
    rintro D Ψ W3 hD hnD hT hS ⟨hj, ht, hs, hy⟩ hK
    gi_wp2
    refine ⟨by simp, .inl ⟨_, _, rfl, run_takeDeferred hK, ?_⟩⟩
    exact ⟨_, results_none rfl _ _ _, ⟨_, rfl⟩, ht.putObj _ _ fun h => absurd h (by omega), Ψ, (Swells.refl Φ W.heap.size).trans hs (by omega), .inl (HFJ.out.keep _ _ _ _ hj ((Touch.refl _ W3).putObj _ _ fun _ => ⟨by omega, hnD⟩))⟩
  case stop =>
    rintro D c pre Ψ W3 hD hnD hT hS hpre ⟨rfl, ⟨ys, h1, h2⟩, ht, hs⟩ hK
    gi_wp2
    refine ⟨by simp, .inl ⟨_, _, rfl, run_takeDeferred hK, ?_⟩⟩
    exact ⟨_, results_none rfl _ _ _, ⟨_, rfl⟩, ht.putObj _ _ fun h => absurd h (by omega), Ψ, (Swells.refl Φ W.heap.size).trans hs (by omega), .inr ⟨ys, h1, HFx.out.keep _ _ _ _ h2 ((Touch.refl _ W3).putObj _ _ fun _ => ⟨by omega, hnD⟩)⟩⟩
end Go.Proofs.Ytnbphdmpbjahhab
