/- quirelaw9: how great the clocks of grown's units are; a unit between neighbours (no Go in it). -/
import Derived.Test.YtcolbgbmnmkogaaPart25
import Derived.Test.YtcolbgbmnmkogaaPart23
import Derived.Test.YtcolbgbmnmkogaaPart15
namespace Go.Proofs.Ytcolbgbmnmkogaa
set_option linter.unusedVariables false
set_option linter.unusedSimpArgs false

theorem grown_k (zs : List Int) : ∀ j, j ≤ zs.length → ∀ v ∈ (grownG (zs.take j)).out, v.k ≤ (zs.length : Int)
  | 0, _, v, hv => by
    have : (grownG (zs.take 0)).out = [] := rfl
    rw [this] at hv
    exact (List.not_mem_nil hv).elim
  | j + 1, h, v, hv => by
    have ih := grown_k zs j (by omega)
    have hG := GInv.take zs j (by omega)
    rw [grownG_take zs j h] at hv
    unfold GS.step at hv
    split at hv
    · rcases List.mem_append.1 hv with hv | hv
      · exact ih v hv
      · simp only [List.mem_singleton] at hv
        subst hv
        have := hG.nx (zs[j] % 4).toNat
        show (grownG (zs.take j)).nx _ ≤ (zs.length : Int)
        omega
    · exact ih v hv
theorem grown_k' (zs : List Int) : ∀ v ∈ (grownG zs).out, v.k ≤ (zs.length : Int) := by
  have := grown_k zs zs.length (Nat.le_refl _)
  rw [List.take_length] at this
  exact this
/-- A unit with the neighbours of a place for its origins. -/
def btU (S : SS) (c k : Int) (p : Nat) : Un := ⟨c, k, (S.at_ ((p : Int) - 1)).1.c, (S.at_ ((p : Int) - 1)).1.k, (S.at_ (p : Int)).1.c, (S.at_ (p : Int)).1.k⟩
theorem at_ok {S : SS} (h : Inv S) (i : Int) : 0 ≤ (S.at_ i).1.c ∧ 0 ≤ (S.at_ i).1.k ∧ (S.at_ i).1.k < 18446744073709551616 := by
  by_cases hm : i < 0 ∨ (S.units.length : Int) ≤ i
  · rw [h.at_none i hm]; exact ⟨Int.le_refl _, Int.le_refl _, by decide⟩
  · obtain ⟨k, rfl⟩ := Int.eq_ofNat_of_zero_le (show 0 ≤ i by omega)
    rw [h.at_units k (by omega)]
    have := h.units_ok (List.getElem_mem (show k < S.units.length by omega))
    exact ⟨by show 0 ≤ S.units[k].c; omega, by show 0 ≤ S.units[k].k; omega, by show S.units[k].k < _; omega⟩
theorem at_no {S : SS} (h : Inv S) (i : Int) (e : (S.at_ i).2 = false) : (S.at_ i).1 = .zero := by
  by_cases hm : i < 0 ∨ (S.units.length : Int) ≤ i
  · rw [h.at_none i hm]
  · obtain ⟨k, rfl⟩ := Int.eq_ofNat_of_zero_le (show 0 ≤ i by omega)
    rw [h.at_units k (by omega)] at e
    cases e
theorem btU_ok {S : SS} (h : Inv S) (c k : Int) (hc : 1 ≤ c) (hk : 1 ≤ k ∧ k ≤ 9007199254740991) (p : Nat) : (btU S c k p).ok := by
  have h1 := at_ok h ((p : Int) - 1)
  have h2 := at_ok h (p : Int)
  exact ⟨by show 0 ≤ c; omega, ⟨by show 0 ≤ k; omega, by show k < _; omega⟩, h1.1, ⟨h1.2.1, h1.2.2⟩, h2.1, ⟨h2.2.1, h2.2.2⟩⟩
theorem btU_between {S : SS} (h : Inv S) (c k : Int) (p : Nat) (hp : p ≤ S.units.length) : (S.between (btU S c k p)).2.2 = true ∧ S.placeFor (btU S c k p) = (p : Int) := by
  refine h.between_at hp ?_ ?_ ?_ ?_
  · intro e
    show (S.at_ ((p : Int) - 1)).1.c = 0 ∧ (S.at_ ((p : Int) - 1)).1.k = 0
    rw [h.at_none _ (by omega)]; exact ⟨rfl, rfl⟩
  · intro q hq e
    show S.units[q].c = (S.at_ ((p : Int) - 1)).1.c ∧ S.units[q].k = (S.at_ ((p : Int) - 1)).1.k
    rw [show (p : Int) - 1 = (q : Int) by omega, h.at_units q hq]
    exact ⟨rfl, rfl⟩
  · intro e
    show (S.at_ (p : Int)).1.c = 0 ∧ (S.at_ (p : Int)).1.k = 0
    rw [h.at_none _ (by omega)]; exact ⟨rfl, rfl⟩
  · intro hq
    show S.units[p].c = (S.at_ (p : Int)).1.c ∧ S.units[p].k = (S.at_ (p : Int)).1.k
    rw [h.at_units p hq]
    exact ⟨rfl, rfl⟩
/-- It may be laid, and stands there. -/
theorem btU_laid {S : SS} (h : Inv S) {m : Nat} (hz : Size S m) (hm : m ≤ 1000) (c k : Int) (hc : 1 ≤ c ∧ c ≤ 1000) (hk : 1 ≤ k ∧ k ≤ 1000000) (p n : Nat) (hp : p ≤ S.units.length) (hn : 1 ≤ n ∧ n ≤ 1000) (hf : ∀ v ∈ S.units, ¬ (v.c = c ∧ k ≤ v.k ∧ v.k < k + (n : Int))) :
    S.may (btU S c k p) n = true ∧ Inv (S.run (btU S c k p) n) ∧ (S.run (btU S c k p) n).units = S.units.take p ++ runUns (btU S c k p) n ++ S.units.drop p := by
  have hu := btU_ok h c k hc.1 ⟨hk.1, by omega⟩ p
  obtain ⟨b1, b2⟩ := btU_between h c k p hp
  have h1 := hz.tot
  have h2 := hz.pcs
  have h3 := hz.runs
  have hmay : S.may (btU S c k p) n = true := by
    refine may_iff.2 ⟨⟨?_, ?_⟩, by omega, ?_, ?_, b1⟩
    · show numOk c = true
      simp [numOk]; omega
    · show numOk k = true
      simp [numOk]; omega
    · show (n : Int) - 1 ≤ 9007199254740991 - k
      omega
    · exact h.hasAny_false (c := c) (k := k) (n := (n : Int)) (by omega) (by omega) (by omega) hf
  obtain ⟨r1, _⟩ := h.runI (u := btU S c k p) (n := (n : Int)) hu (fun _ => by omega) (by omega) (by omega)
  obtain ⟨q, hq, e, eu⟩ := h.run_unitsN hu hn.1 hmay (by omega)
  have : q = p := by omega
  subst this
  exact ⟨hmay, r1, eu⟩
/-- Where it, and the others of its run, are found. -/
theorem find_run {T : SS} (h : Inv T) {A B : List Un} {u : Un} {n : Nat} (e : T.units = A ++ runUns u n ++ B) (j : Nat) (hj : j < n) : T.find u.c (u.k + (j : Int)) = ((A.length + j : Nat) : Int) := by
  have hl : A.length + j < T.units.length := by rw [e]; simp [runUns_len]; omega
  have hx : T.units[A.length + j] = runUn u j := by
    have : T.units[A.length + j]? = some (runUn u j) := by
      rw [e, List.append_assoc, List.getElem?_append_right (by omega), List.getElem?_append_left (by rw [runUns_len]; omega)]
      rw [List.getElem?_eq_getElem (by rw [runUns_len]; omega), runUns_get]
      congr 2
      omega
    rw [List.getElem?_eq_getElem hl] at this
    exact Option.some.inj this
  have := h.find_units _ hl
  rw [hx, (runUn_c u j).1, (runUn_c u j).2.1] at this
  exact this
end Go.Proofs.Ytcolbgbmnmkogaa

/- The document's tree of units (quireref9): one more node. -/
namespace Go.Proofs.Ytcolbgbmnmkogaa
open Go.RowKit Go.Maps
set_option linter.unusedVariables false
set_option linter.unusedSimpArgs false
set_option maxRecDepth 100000

theorem infoN : (Try.prog.info? 84).map (fun i => (i.zero, i.size, i.bytes)) = some (some (.agg #[u64 0, u64 0, u64 0, u64 0, u64 0, u64 0, iV 0, .bool false, .slice none 0 0, .slice none 0 0]), 10, 112) := by kernel_rfl
abbrev mnO (x : Mn) : Obj := .cells #[u64 x.u.c, u64 x.u.k, u64 x.u.lc, u64 x.u.lk, u64 x.u.rc, u64 x.u.rk, iV x.par, .bool x.left, x.lv, x.mv] 84
theorem cellsMn_one (x : Mn) (h1 : x.lv.oneCell' = true) (h2 : x.mv.oneCell' = true) : ∀ u ∈ [x].flatMap cellMn, u.oneCell' = true := by
  intro u hu
  simp only [List.flatMap_cons, List.flatMap_nil, List.append_nil, cellMn, List.mem_cons, List.not_mem_nil, or_false] at hu
  rcases hu with rfl | rfl | rfl | rfl | rfl | rfl | rfl | rfl | rfl | rfl <;> first | rfl | assumption
/-- An append to a slice of nodes that has no room: it lies anew. -/
theorem append_nd {w : World} {ao : Option Addr} {cap : Nat} {M : List Mn} (hown : w.ownsRow 0 84 10 (.slice ao M.length cap) M.length (M.flatMap cellMn)) (x : Mn) (h1 : x.lv.oneCell' = true) (h2 : x.mv.oneCell' = true) (hl : M.length ≤ 1073741824) :
    ∃ g' cap' w', (Builtin.append_ #[27, 27] 27 #[.slice ao M.length M.length, .slice (some ⟨w.heap.size, 0, none⟩) 1 1]).run Try.prog (w.alloc (mnO x)) = .ok (.slice (some ⟨g', 0, none⟩) (M.length + 1) cap') w' ∧
      w'.ownsRow 0 84 10 (.slice (some ⟨g', 0, none⟩) (M.length + 1) cap') (M.length + 1) ((M ++ [x]).flatMap cellMn) ∧ w.heap.size ≤ g' ∧ Touch (fun _ => False) w w' := by
  obtain ⟨i0, hi, hz0, hz1, hz2⟩ := info_parts infoN
  have hT : Touch (fun _ => False) w (w.alloc (mnO x)) := (Touch.refl _ _).alloc _
  have hcl : ∀ j u, ([x].flatMap cellMn)[j]? = some u → (w.alloc (mnO x)).cell? ((⟨w.heap.size, 0, none⟩ : Addr).add j) = some u := by
    intro j u hu
    rw [addr_addH, Nat.zero_add, cell_of_block (heap_alloc_new w (mnO x))]
    have : ([x].flatMap cellMn)[j]? = (#[u64 x.u.c, u64 x.u.k, u64 x.u.lc, u64 x.u.lk, u64 x.u.rc, u64 x.u.rk, iV x.par, .bool x.left, x.lv, x.mv] : Array Value)[j]? := by simp [cellMn]
    rw [← this]; exact hu
  have hlen1 : ([x].flatMap cellMn).length = 1 * 10 := flat_len cellMn 10 cellMn_len [x]
  rcases hown.2 with ⟨e, h0⟩ | ⟨g, cap', cur, e, _, hg, q1, q2, q3, q4⟩
  · have hM : M = [] := List.length_eq_zero_iff.1 h0
    subst hM
    simp only [Value.slice.injEq] at e
    obtain ⟨rfl, -, -⟩ := e
    obtain ⟨v', w', hrun, hown', hgr, _, hat⟩ := run_append_own_at (w.alloc (mnO x)) 0 27 27 84 i0 _ 10 112 Try.underlying27 hi hz0 hz1 hz2 rfl (by decide) (.slice none 0 0) 0 [] (World.ownsRow_nil _ _ _ _) ⟨w.heap.size, 0, none⟩ 1 1 ([x].flatMap cellMn) hlen1 hcl (cellsMn_one x h1 h2) (by unfold maxLen; omega) (by omega) (Nat.zero_le _)
    rcases hown'.2 with ⟨_, h9⟩ | ⟨g', cap', cur', rfl, r⟩
    · omega
    · refine ⟨g', cap', w', hrun, hown', ?_, hT.trans ⟨hgr.os, hgr.tape, hgr.output, hgr.size, fun k hk _ => hgr.block k hk (by simp [Value.ownBlock])⟩⟩
      have : g' = (w.alloc (mnO x)).heap.size := by simpa [Value.ownBlock] using hat
      have hs : (w.alloc (mnO x)).heap.size = w.heap.size + 1 := by simp
      omega
  · simp only [Value.slice.injEq] at e
    obtain ⟨rfl, -, rfl⟩ := e
    have hlt := lt_of_heap hg
    have hgA : (w.alloc (mnO x)).heap[g]? = some (.cells cur 84 (0, 0)) := by rw [Below.heap_alloc _ _ _ hlt]; exact hg
    have hlo : (M.flatMap cellMn).length = M.length * 10 := flat_len cellMn 10 cellMn_len M
    have holds : ∀ j u, (M.flatMap cellMn)[j]? = some u → (w.alloc (mnO x)).cell? ((⟨g, 0, none⟩ : Addr).add j) = some u := by
      intro j u hu
      rw [addr_addH, Nat.zero_add, cell_of_block hgA, ← Array.getElem?_toList]
      rw [← q4, List.getElem?_take] at hu
      split at hu
      · exact hu
      · cases hu
    have hr := run_append_grow (P := Try.prog) (w := w.alloc (mnO x)) 27 27 84 i0 _ Try.underlying27 hi hz0 ⟨g, 0, none⟩ M.length M.length (M.flatMap cellMn) (by rw [hz1]; exact hlo) holds ⟨w.heap.size, 0, none⟩ 1 1 ([x].flatMap cellMn) (by rw [hz1]; exact hlen1) hcl (by omega) (by omega) (growslice_fits (by omega) (by rw [hz2]; omega))
    have hge := grownCap_ge (w.alloc (mnO x)) (M.length + 1) M.length 84
    have hcm := grownCap_le_maxLen (w.alloc (mnO x)) (M.length + 1) M.length 84 (by unfold maxLen; omega)
    refine ⟨_, _, _, hr, ⟨by rw [flat_len cellMn 10 cellMn_len, List.length_append]; rfl, .inr ⟨_, _, _, rfl, Nat.zero_le _, heap_alloc_new _ _, hge, hcm, ?_, ?_⟩⟩, ?_, (hT.drew).alloc _⟩
    · simp only [Array.size_append, List.size_toArray, size_zeroCells, hlo, hlen1, ← Nat.add_mul]
      show (M.length + 1) * 10 + (grownCap (w.alloc (mnO x)) (M.length + 1) M.length 84 - (M.length + 1)) * 10 = _
      omega
    · simp only [Array.toList_append, List.append_assoc, List.flatMap_append]
      rw [← List.append_assoc, show (M.length + 1) * 10 = (M.flatMap cellMn ++ [x].flatMap cellMn).length from by rw [List.length_append, hlo, hlen1]; omega]
      exact List.take_left
    · simp
end Go.Proofs.Ytcolbgbmnmkogaa
