/- quirelaw9.grown as a function (no Go in it): units that may be inserted one after the other. -/
import Derived.Test.YtnbphdmpbjahhaaPart22
import Derived.Test.YtnbphdmpbjahhaaRqC
import Derived.Test.YtnbphdmpbjahhaaPart27
import Derived.Test.YtnbphdmpbjahhaaPart21
import Derived.Test.YtnbphdmpbjahhaaPart12
namespace Go.Proofs.Ytnbphdmpbjahhaa
set_option linter.unusedVariables false
set_option linter.unusedSimpArgs false

/-- The tree, the clients' next clocks, the units so far. -/
structure GS where
  r : RS
  nx : Nat → Int
  out : List Un
def GS.zero : GS := ⟨.zero, fun _ => 1, []⟩
def GS.at_ (g : GS) (x : Int) : Int := (x / 4) % ((g.r.order.length : Int) + 1)
def farG (x : Int) : Int := (x / 256) % 5
def GS.left (g : GS) (x : Int) : Un := if 0 < g.at_ x then (g.r.at_ (g.at_ x - 1)).1 else .zero
def GS.right (g : GS) (x : Int) : Un := if (g.r.at_ (g.at_ x + farG x)).2 then (g.r.at_ (g.at_ x + farG x)).1 else .zero
def GS.unit (g : GS) (x : Int) : Un := ⟨x % 4 + 1, g.nx (x % 4).toNat, (g.left x).c, (g.left x).k, (g.right x).c, (g.right x).k⟩
def GS.step (g : GS) (x : Int) : GS :=
  if g.r.may (g.unit x) then ⟨g.r.insert (g.unit x), fun i => g.nx i + (if i = (x % 4).toNat then 1 else 0), g.out ++ [g.unit x]⟩ else g
def grownG (zs : List Int) : GS := zs.foldl GS.step .zero
theorem grownG_take (zs : List Int) (j : Nat) (hj : j < zs.length) : grownG (zs.take (j + 1)) = (grownG (zs.take j)).step zs[j] := by
  unfold grownG
  rw [List.take_succ_eq_append_getElem hj, List.foldl_append]; rfl
/-- What is so of it. -/
structure GInv (g : GS) (n : Nat) : Prop where
  inv : RInv g.r
  len : g.r.l.length ≤ n
  nx : ∀ i, 1 ≤ g.nx i ∧ g.nx i ≤ (n : Int) + 1
  out : g.out.length ≤ n
theorem GInv.zero : GInv .zero 0 := ⟨RInv.zero, Nat.le_refl _, fun i => ⟨Int.le_refl _, by simp [GS.zero]⟩, Nat.le_refl _⟩
theorem GInv.more {g : GS} {n : Nat} (h : GInv g n) : GInv g (n + 1) := ⟨h.inv, by have := h.len; omega, fun i => by have := h.nx i; omega, by have := h.out; omega⟩
theorem GInv.step {g : GS} {n : Nat} (h : GInv g n) (x : Int) : GInv (g.step x) (n + 1) := by
  unfold GS.step
  split
  · refine ⟨h.inv.insert _, ?_, fun i => ?_, ?_⟩
    · have := RS.insert_len g.r (g.unit x)
      have := h.len
      show (g.r.insert (g.unit x)).l.length ≤ n + 1
      omega
    · have := h.nx i
      show 1 ≤ g.nx i + (if _ then _ else _) ∧ g.nx i + (if _ then _ else _) ≤ _
      split <;> omega
    · have := h.out
      simp; omega
  · exact h.more
theorem GInv.take (zs : List Int) : ∀ j, j ≤ zs.length → GInv (grownG (zs.take j)) j
  | 0, _ => GInv.zero
  | j + 1, h => by
    rw [grownG_take zs j h]
    exact (GInv.take zs j (by omega)).step _
theorem map_modify (f : Nd → Nd) (hf : ∀ n, (f n).u = n.u) : ∀ (l : List Nd) (i : Nat), (l.modify i f).map (·.u) = l.map (·.u)
  | [], i => by cases i <;> rfl
  | x :: l, 0 => by simp [hf]
  | x :: l, i + 1 => by rw [List.modify_succ_cons, List.map_cons, List.map_cons, map_modify f hf l i]
theorem RS.insert_units (r : RS) (u : Un) : (r.insert u).l.map (·.u) = if r.may u then r.l.map (·.u) ++ [u] else r.l.map (·.u) := by
  unfold RS.insert
  split
  · show (r.with2 u).l.map (·.u) = _
    have h1 : (r.with1 u).l.map (·.u) = r.l.map (·.u) ++ [u] := by simp [RS.with1, RS.node]
    unfold RS.with2
    simp only
    split
    · show List.map _ ((r.with1 u).l.modify _ _) = _
      refine (map_modify _ ?_ _ _).trans h1
      intro n; rfl
    · split
      · show List.map _ ((r.with1 u).l.modify _ _) = _
        refine (map_modify _ ?_ _ _).trans h1
        intro n; rfl
      · exact h1
  · rfl
/-- What is so of its units. -/
structure GOk (g : GS) : Prop where
  map : g.r.l.map (·.u) = g.out
  ok : ∀ v ∈ g.out, v.ok ∧ 1 ≤ v.c ∧ v.c ≤ 4 ∧ 1 ≤ v.k
theorem at_mem {g : GS} (h : GOk g) (i : Int) : (g.r.at_ i).1 = .zero ∨ (g.r.at_ i).1 ∈ g.out := by
  have key : ∀ n, g.r.nd n = .zero ∨ (g.r.nd n).u ∈ g.out := fun n => by
    unfold RS.nd
    rcases Nat.lt_or_ge n g.r.l.length with hn | hn
    · right
      rw [List.getElem?_eq_getElem hn, ← h.map]
      exact List.mem_map.2 ⟨_, List.getElem_mem hn, rfl⟩
    · left
      rw [List.getElem?_eq_none hn]; rfl
  unfold RS.at_
  split
  · exact .inl rfl
  · rcases key _ with e | e
    · left
      show (g.r.nd _).u = _
      rw [e]
    · exact .inr e
theorem GOk.zero : GOk .zero := ⟨rfl, fun v hv => (List.not_mem_nil hv).elim⟩
theorem GOk.step {g : GS} {n : Nat} (h : GOk g) (hG : GInv g n) (hn : n ≤ 1000) (x : Int) (h0 : 0 ≤ x) (h1 : x < 65536) : GOk (g.step x) := by
  unfold GS.step
  split
  · next hm =>
    have hz : ∀ v : Un, v = .zero ∨ v ∈ g.out → 0 ≤ v.c ∧ 0 ≤ v.k ∧ v.k < 18446744073709551616 := fun v hv => by
      rcases hv with rfl | hv
      · exact ⟨Int.le_refl _, Int.le_refl _, by decide⟩
      · have := (h.ok v hv).1
        exact ⟨this.c, this.k.1, this.k.2⟩
    have hl : g.left x = .zero ∨ g.left x ∈ g.out := by
      unfold GS.left
      split
      · exact at_mem h _
      · exact .inl rfl
    have hr : g.right x = .zero ∨ g.right x ∈ g.out := by
      unfold GS.right
      split
      · exact at_mem h _
      · exact .inl rfl
    obtain ⟨l1, l2, l3⟩ := hz _ hl
    obtain ⟨r1, r2, r3⟩ := hz _ hr
    have hx := hG.nx (x % 4).toNat
    refine ⟨?_, fun v hv => ?_⟩
    · show (g.r.insert (g.unit x)).l.map (·.u) = g.out ++ [g.unit x]
      rw [RS.insert_units, if_pos hm, h.map]
    · rcases List.mem_append.1 hv with hv | hv
      · exact h.ok v hv
      · simp only [List.mem_singleton] at hv
        subst hv
        refine ⟨⟨?_, ⟨?_, ?_⟩, l1, ⟨l2, l3⟩, r1, ⟨r2, r3⟩⟩, ?_, ?_, ?_⟩
        · show 0 ≤ x % 4 + 1
          omega
        · show 0 ≤ g.nx _
          omega
        · show g.nx _ < _
          omega
        · show 1 ≤ x % 4 + 1
          omega
        · show x % 4 + 1 ≤ 4
          omega
        · exact hx.1
  · exact h
theorem GOk.take (zs : List Int) (hr : ∀ y ∈ zs, 0 ≤ y ∧ y < 65536) (hl : zs.length ≤ 1000) : ∀ j, j ≤ zs.length → GOk (grownG (zs.take j))
  | 0, _ => GOk.zero
  | j + 1, h => by
    have hx := hr zs[j] (List.getElem_mem _)
    rw [grownG_take zs j h]
    exact (GOk.take zs hr hl j (by omega)).step (GInv.take zs j (by omega)) (by omega) _ hx.1 hx.2
theorem grown_ok (zs : List Int) (hr : ∀ y ∈ zs, 0 ≤ y ∧ y < 65536) (hl : zs.length ≤ 1000) : GOk (grownG zs) ∧ GInv (grownG zs) zs.length := by
  have h1 := GOk.take zs hr hl zs.length (Nat.le_refl _)
  have h2 := GInv.take zs zs.length (Nat.le_refl _)
  rw [List.take_length] at h1 h2
  exact ⟨h1, h2⟩
end Go.Proofs.Ytnbphdmpbjahhaa

/- quirelaw9: how great the clocks of grown's units are; a unit between neighbours (no Go in it). -/
namespace Go.Proofs.Ytnbphdmpbjahhaa
set_option linter.unusedVariables false
set_option linter.unusedSimpArgs false

theorem grown_k (zs : List Int) : ∀ j, j ≤ zs.length → ∀ v ∈ (grownG (zs.take j)).out, v.k ≤ (zs.length : Int)
  | 0, _, v, hv => by
    have : (grownG (zs.take 0)).out = [] := rfl
    rw [this] at hv
    exact (List.not_mem_nil hv).elim
  | j + 1, h, v, hv => by
    have ih := grown_k zs j (by omega)
    have hG := GInv.take zs j (by omega)
    rw [grownG_take zs j h] at hv
    unfold GS.step at hv
    split at hv
    · rcases List.mem_append.1 hv with hv | hv
      · exact ih v hv
      · simp only [List.mem_singleton] at hv
        subst hv
        have := hG.nx (zs[j] % 4).toNat
        show (grownG (zs.take j)).nx _ ≤ (zs.length : Int)
        omega
    · exact ih v hv
theorem grown_k' (zs : List Int) : ∀ v ∈ (grownG zs).out, v.k ≤ (zs.length : Int) := by
  have := grown_k zs zs.length (Nat.le_refl _)
  rw [List.take_length] at this
  exact this
/-- A unit with the neighbours of a place for its origins. -/
def btU (S : SS) (c k : Int) (p : Nat) : Un := ⟨c, k, (S.at_ ((p : Int) - 1)).1.c, (S.at_ ((p : Int) - 1)).1.k, (S.at_ (p : Int)).1.c, (S.at_ (p : Int)).1.k⟩
theorem at_ok {S : SS} (h : Inv S) (i : Int) : 0 ≤ (S.at_ i).1.c ∧ 0 ≤ (S.at_ i).1.k ∧ (S.at_ i).1.k < 18446744073709551616 := by
  by_cases hm : i < 0 ∨ (S.units.length : Int) ≤ i
  · rw [h.at_none i hm]; exact ⟨Int.le_refl _, Int.le_refl _, by decide⟩
  · obtain ⟨k, rfl⟩ := Int.eq_ofNat_of_zero_le (show 0 ≤ i by omega)
    rw [h.at_units k (by omega)]
    have := h.units_ok (List.getElem_mem (show k < S.units.length by omega))
    exact ⟨by show 0 ≤ S.units[k].c; omega, by show 0 ≤ S.units[k].k; omega, by show S.units[k].k < _; omega⟩
theorem at_no {S : SS} (h : Inv S) (i : Int) (e : (S.at_ i).2 = false) : (S.at_ i).1 = .zero := by
  by_cases hm : i < 0 ∨ (S.units.length : Int) ≤ i
  · rw [h.at_none i hm]
  · obtain ⟨k, rfl⟩ := Int.eq_ofNat_of_zero_le (show 0 ≤ i by omega)
    rw [h.at_units k (by omega)] at e
    cases e
theorem btU_ok {S : SS} (h : Inv S) (c k : Int) (hc : 1 ≤ c) (hk : 1 ≤ k ∧ k ≤ 9007199254740991) (p : Nat) : (btU S c k p).ok := by
  have h1 := at_ok h ((p : Int) - 1)
  have h2 := at_ok h (p : Int)
  exact ⟨by show 0 ≤ c; omega, ⟨by show 0 ≤ k; omega, by show k < _; omega⟩, h1.1, ⟨h1.2.1, h1.2.2⟩, h2.1, ⟨h2.2.1, h2.2.2⟩⟩
theorem btU_between {S : SS} (h : Inv S) (c k : Int) (p : Nat) (hp : p ≤ S.units.length) : (S.between (btU S c k p)).2.2 = true ∧ S.placeFor (btU S c k p) = (p : Int) := by
  refine h.between_at hp ?_ ?_ ?_ ?_
  · intro e
    show (S.at_ ((p : Int) - 1)).1.c = 0 ∧ (S.at_ ((p : Int) - 1)).1.k = 0
    rw [h.at_none _ (by omega)]; exact ⟨rfl, rfl⟩
  · intro q hq e
    show S.units[q].c = (S.at_ ((p : Int) - 1)).1.c ∧ S.units[q].k = (S.at_ ((p : Int) - 1)).1.k
    rw [show (p : Int) - 1 = (q : Int) by omega, h.at_units q hq]
    exact ⟨rfl, rfl⟩
  · intro e
    show (S.at_ (p : Int)).1.c = 0 ∧ (S.at_ (p : Int)).1.k = 0
    rw [h.at_none _ (by omega)]; exact ⟨rfl, rfl⟩
  · intro hq
    show S.units[p].c = (S.at_ (p : Int)).1.c ∧ S.units[p].k = (S.at_ (p : Int)).1.k
    rw [h.at_units p hq]
    exact ⟨rfl, rfl⟩
/-- It may be laid, and stands there. -/
theorem btU_laid {S : SS} (h : Inv S) {m : Nat} (hz : Size S m) (hm : m ≤ 1000) (c k : Int) (hc : 1 ≤ c ∧ c ≤ 1000) (hk : 1 ≤ k ∧ k ≤ 1000000) (p n : Nat) (hp : p ≤ S.units.length) (hn : 1 ≤ n ∧ n ≤ 1000) (hf : ∀ v ∈ S.units, ¬ (v.c = c ∧ k ≤ v.k ∧ v.k < k + (n : Int))) :
    S.may (btU S c k p) n = true ∧ Inv (S.run (btU S c k p) n) ∧ (S.run (btU S c k p) n).units = S.units.take p ++ runUns (btU S c k p) n ++ S.units.drop p := by
  have hu := btU_ok h c k hc.1 ⟨hk.1, by omega⟩ p
  obtain ⟨b1, b2⟩ := btU_between h c k p hp
  have h1 := hz.tot
  have h2 := hz.pcs
  have h3 := hz.runs
  have hmay : S.may (btU S c k p) n = true := by
    refine may_iff.2 ⟨⟨?_, ?_⟩, by omega, ?_, ?_, b1⟩
    · show numOk c = true
      simp [numOk]; omega
    · show numOk k = true
      simp [numOk]; omega
    · show (n : Int) - 1 ≤ 9007199254740991 - k
      omega
    · exact h.hasAny_false (c := c) (k := k) (n := (n : Int)) (by omega) (by omega) (by omega) hf
  obtain ⟨r1, _⟩ := h.runI (u := btU S c k p) (n := (n : Int)) hu (fun _ => by omega) (by omega) (by omega)
  obtain ⟨q, hq, e, eu⟩ := h.run_unitsN hu hn.1 hmay (by omega)
  have : q = p := by omega
  subst this
  exact ⟨hmay, r1, eu⟩
/-- Where it, and the others of its run, are found. -/
theorem find_run {T : SS} (h : Inv T) {A B : List Un} {u : Un} {n : Nat} (e : T.units = A ++ runUns u n ++ B) (j : Nat) (hj : j < n) : T.find u.c (u.k + (j : Int)) = ((A.length + j : Nat) : Int) := by
  have hl : A.length + j < T.units.length := by rw [e]; simp [runUns_len]; omega
  have hx : T.units[A.length + j] = runUn u j := by
    have : T.units[A.length + j]? = some (runUn u j) := by
      rw [e, List.append_assoc, List.getElem?_append_right (by omega), List.getElem?_append_left (by rw [runUns_len]; omega)]
      rw [List.getElem?_eq_getElem (by rw [runUns_len]; omega), runUns_get]
      congr 2
      omega
    rw [List.getElem?_eq_getElem hl] at this
    exact Option.some.inj this
  have := h.find_units _ hl
  rw [hx, (runUn_c u j).1, (runUn_c u j).2.1] at this
  exact this
end Go.Proofs.Ytnbphdmpbjahhaa

/- The document's tree of units (quireref9): one more node. -/
namespace Go.Proofs.Ytnbphdmpbjahhaa
open Go.RowKit Go.Maps
set_option linter.unusedVariables false
set_option linter.unusedSimpArgs false
set_option maxRecDepth 100000

theorem infoN : (Try.prog.info? 84).map (fun i => (i.zero, i.size, i.bytes)) = some (some (.agg #[u64 0, u64 0, u64 0, u64 0, u64 0, u64 0, iV 0, .bool false, .slice none 0 0, .slice none 0 0]), 10, 112) := by kernel_rfl
abbrev mnO (x : Mn) : Obj := .cells #[u64 x.u.c, u64 x.u.k, u64 x.u.lc, u64 x.u.lk, u64 x.u.rc, u64 x.u.rk, iV x.par, .bool x.left, x.lv, x.mv] 84
theorem cellsMn_one (x : Mn) (h1 : x.lv.oneCell' = true) (h2 : x.mv.oneCell' = true) : ∀ u ∈ [x].flatMap cellMn, u.oneCell' = true := by
  intro u hu
  simp only [List.flatMap_cons, List.flatMap_nil, List.append_nil, cellMn, List.mem_cons, List.not_mem_nil, or_false] at hu
  rcases hu with rfl | rfl | rfl | rfl | rfl | rfl | rfl | rfl | rfl | rfl <;> first | rfl | assumption
/-- An append to a slice of nodes that has no room: it lies anew. -/
theorem append_nd {w : World} {ao : Option Addr} {cap : Nat} {M : List Mn} (hown : w.ownsRow 0 84 10 (.slice ao M.length cap) M.length (M.flatMap cellMn)) (x : Mn) (h1 : x.lv.oneCell' = true) (h2 : x.mv.oneCell' = true) (hl : M.length ≤ 1073741824) :
    ∃ g' cap' w', (Builtin.append_ #[27, 27] 27 #[.slice ao M.length M.length, .slice (some ⟨w.heap.size, 0, none⟩) 1 1]).run Try.prog (w.alloc (mnO x)) = .ok (.slice (some ⟨g', 0, none⟩) (M.length + 1) cap') w' ∧
      w'.ownsRow 0 84 10 (.slice (some ⟨g', 0, none⟩) (M.length + 1) cap') (M.length + 1) ((M ++ [x]).flatMap cellMn) ∧ w.heap.size ≤ g' ∧ Touch (fun _ => False) w w' := by
  obtain ⟨i0, hi, hz0, hz1, hz2⟩ := info_parts infoN
  have hT : Touch (fun _ => False) w (w.alloc (mnO x)) := (Touch.refl _ _).alloc _
  have hcl : ∀ j u, ([x].flatMap cellMn)[j]? = some u → (w.alloc (mnO x)).cell? ((⟨w.heap.size, 0, none⟩ : Addr).add j) = some u := by
    intro j u hu
    rw [addr_addH, Nat.zero_add, cell_of_block (heap_alloc_new w (mnO x))]
    have : ([x].flatMap cellMn)[j]? = (#[u64 x.u.c, u64 x.u.k, u64 x.u.lc, u64 x.u.lk, u64 x.u.rc, u64 x.u.rk, iV x.par, .bool x.left, x.lv, x.mv] : Array Value)[j]? := by simp [cellMn]
    rw [← this]; exact hu
  have hlen1 : ([x].flatMap cellMn).length = 1 * 10 := flat_len cellMn 10 cellMn_len [x]
  rcases hown.2 with ⟨e, h0⟩ | ⟨g, cap', cur, e, _, hg, q1, q2, q3, q4⟩
  · have hM : M = [] := List.length_eq_zero_iff.1 h0
    subst hM
    simp only [Value.slice.injEq] at e
    obtain ⟨rfl, -, -⟩ := e
    obtain ⟨v', w', hrun, hown', hgr, _, hat⟩ := run_append_own_at (w.alloc (mnO x)) 0 27 27 84 i0 _ 10 112 Try.underlying27 hi hz0 hz1 hz2 rfl (by decide) (.slice none 0 0) 0 [] (World.ownsRow_nil _ _ _ _) ⟨w.heap.size, 0, none⟩ 1 1 ([x].flatMap cellMn) hlen1 hcl (cellsMn_one x h1 h2) (by unfold maxLen; omega) (by omega) (Nat.zero_le _)
    rcases hown'.2 with ⟨_, h9⟩ | ⟨g', cap', cur', rfl, r⟩
    · omega
    · refine ⟨g', cap', w', hrun, hown', ?_, hT.trans ⟨hgr.os, hgr.tape, hgr.output, hgr.size, fun k hk _ => hgr.block k hk (by simp [Value.ownBlock])⟩⟩
      have : g' = (w.alloc (mnO x)).heap.size := by simpa [Value.ownBlock] using hat
      have hs : (w.alloc (mnO x)).heap.size = w.heap.size + 1 := by simp
      omega
  · simp only [Value.slice.injEq] at e
    obtain ⟨rfl, -, rfl⟩ := e
    have hlt := lt_of_heap hg
    have hgA : (w.alloc (mnO x)).heap[g]? = some (.cells cur 84 (0, 0)) := by rw [Below.heap_alloc _ _ _ hlt]; exact hg
    have hlo : (M.flatMap cellMn).length = M.length * 10 := flat_len cellMn 10 cellMn_len M
    have holds : ∀ j u, (M.flatMap cellMn)[j]? = some u → (w.alloc (mnO x)).cell? ((⟨g, 0, none⟩ : Addr).add j) = some u := by
      intro j u hu
      rw [addr_addH, Nat.zero_add, cell_of_block hgA, ← Array.getElem?_toList]
      rw [← q4, List.getElem?_take] at hu
      split at hu
      · exact hu
      · cases hu
    have hr := run_append_grow (P := Try.prog) (w := w.alloc (mnO x)) 27 27 84 i0 _ Try.underlying27 hi hz0 ⟨g, 0, none⟩ M.length M.length (M.flatMap cellMn) (by rw [hz1]; exact hlo) holds ⟨w.heap.size, 0, none⟩ 1 1 ([x].flatMap cellMn) (by rw [hz1]; exact hlen1) hcl (by omega) (by omega) (growslice_fits (by omega) (by rw [hz2]; omega))
    have hge := grownCap_ge (w.alloc (mnO x)) (M.length + 1) M.length 84
    have hcm := grownCap_le_maxLen (w.alloc (mnO x)) (M.length + 1) M.length 84 (by unfold maxLen; omega)
    refine ⟨_, _, _, hr, ⟨by rw [flat_len cellMn 10 cellMn_len, List.length_append]; rfl, .inr ⟨_, _, _, rfl, Nat.zero_le _, heap_alloc_new _ _, hge, hcm, ?_, ?_⟩⟩, ?_, (hT.drew).alloc _⟩
    · simp only [Array.size_append, List.size_toArray, size_zeroCells, hlo, hlen1, ← Nat.add_mul]
      show (M.length + 1) * 10 + (grownCap (w.alloc (mnO x)) (M.length + 1) M.length 84 - (M.length + 1)) * 10 = _
      omega
    · simp only [Array.toList_append, List.append_assoc, List.flatMap_append]
      rw [← List.append_assoc, show (M.length + 1) * 10 = (M.flatMap cellMn ++ [x].flatMap cellMn).length from by rw [List.length_append, hlo, hlen1]; omega]
      exact List.take_left
    · simp
end Go.Proofs.Ytnbphdmpbjahhaa

/- The document's tree of units (quireref9): stores into its cells. -/
namespace Go.Proofs.Ytnbphdmpbjahhaa
open Go.RowKit Go.Maps
set_option linter.unusedVariables false
set_option linter.unusedSimpArgs false
set_option maxRecDepth 100000

/-- A cell that holds a slice. -/
def IsSl (w : World) (p : Addr) : Prop := ∃ ao n cap, w.cell? p = some (.slice ao n cap)
theorem typed_set {w : World} {b pb pi : Nat} {y : Value} {t : TypeId} (h : ∃ c, w.heap[b]? = some (.cells c t (0, 0))) : ∃ c, (w.setCell ⟨pb, pi, none⟩ y).heap[b]? = some (.cells c t (0, 0)) := by
  obtain ⟨c, h⟩ := h
  by_cases e : pb = b
  · subst e; exact ⟨_, heap_setCell_same _ _ _ _ h⟩
  · exact ⟨c, by rw [heap_setCell_other _ _ _ _ (by exact e)]; exact h⟩
/-- A store into a cell that holds a slice leaves ints alone. -/
theorem SlJ.set {w : World} {v : Value} {l : List Int} (h : SlJ w v l) {pb pi : Nat} (hp : IsSl w ⟨pb, pi, none⟩) (y : Value) : SlJ (w.setCell ⟨pb, pi, none⟩ y) v l := by
  obtain ⟨ao, cap, e, h1, h2, h3, h4⟩ := h
  refine ⟨ao, cap, e, h1, h2, h3, ?_⟩
  rcases h4 with h4 | ⟨b, o, e, hT, hx⟩
  · exact .inl h4
  · refine .inr ⟨b, o, e, typed_set hT, fun j u hu => ?_⟩
    have hc := hx j u hu
    have hu' : ∃ x : Int, u = .int .i64 x := by
      have hm := List.mem_of_getElem? hu
      obtain ⟨x, _, hx⟩ := List.mem_flatMap.1 hm
      simp only [cellJ, List.mem_cons, List.not_mem_nil, or_false] at hx
      exact ⟨x, hx⟩
    have hne : (⟨pb, pi, none⟩ : Addr) ≠ ⟨b, o + j, none⟩ := fun e => by
      obtain ⟨a, n, c, hs⟩ := hp
      obtain ⟨x, rfl⟩ := hu'
      rw [e, hc] at hs
      cases hs
    rw [World.cell?_setCell_other w _ _ _ hne]; exact hc
theorem MnAt.set {w : World} {m : Mn} {n : Nd} (h : MnAt w m n) {pb pi : Nat} (hp : IsSl w ⟨pb, pi, none⟩) (y : Value) : MnAt (w.setCell ⟨pb, pi, none⟩ y) m n := ⟨h.u, h.par, h.left, h.lefts.set hp y, h.more.set hp y⟩
theorem owns_set {w : World} {e m n : Nat} {v : Value} {xs : List Value} (h : w.ownsRow 0 e m v n xs) (b i : Nat) (hb : v.ownBlock ≠ some b) (y : Value) : (w.setCell ⟨b, i, none⟩ y).ownsRow 0 e m v n xs := by
  refine ⟨h.1, ?_⟩
  rcases h.2 with h | ⟨g, cap, cur, rfl, q, hg, r⟩
  · exact .inl h
  · refine .inr ⟨g, cap, cur, rfl, q, ?_, r⟩
    rw [Below.heap_setCell _ _ _ _ (fun e => hb (by rw [e]; rfl))]; exact hg
/-- The order laid anew. -/
theorem RqAt.setOrd {w : World} {b : Nat} {r : RS} (h : RqAt w b r) (v : Value) (o : List Nat) (hv : SlJ w v (ints o)) : RqAt (w.setCell ⟨b, 2, none⟩ v) b ⟨r.l, r.more, o⟩ := by
  obtain ⟨c, hc⟩ := h.blk
  obtain ⟨vl, M, l1, l2, l3, l4⟩ := h.l
  obtain ⟨vm, m1, m2⟩ := h.more
  obtain ⟨vo, o1, o2⟩ := h.ord
  have hs : IsSl w ⟨b, 2, none⟩ := by
    obtain ⟨ao, cap, e, -⟩ := o2.shape
    exact ⟨ao, _, cap, by rw [o1, e]⟩
  have hne : ∀ k, k ≠ 2 → (⟨b, 2, none⟩ : Addr) ≠ ⟨b, k, none⟩ := fun k hk e => by simp only [Addr.mk.injEq] at e; exact hk e.2.1.symm
  have hb : vl.ownBlock ≠ some b := by
    rcases l2.2 with ⟨e, _⟩ | ⟨g, cap, cur, e, q, hg, _⟩
    · rw [e]; simp [Value.ownBlock]
    · rw [e]
      intro hh
      have hgb : g = b := by simpa [Value.ownBlock] using hh
      rw [hgb, hc] at hg
      simp at hg
  refine ⟨⟨_, heap_setCell_same _ _ _ _ hc⟩, ⟨vl, M, ?_, owns_set l2 b 2 hb v, l3, fun i h h' => (l4 i h h').set hs v⟩, ⟨vm, ?_, m2.set hs v⟩, ⟨v, ?_, hv.set hs v⟩⟩
  · rw [World.cell?_setCell_other w _ _ _ (hne 0 (by omega))]; exact l1
  · rw [World.cell?_setCell_other w _ _ _ (hne 1 (by omega))]; exact m1
  · exact World.cell?_setCell_same' w ⟨b, 2, none⟩ _ (by rw [o1]; rfl)
/-- The root's children laid anew. -/
theorem RqAt.setMore {w : World} {b : Nat} {r : RS} (h : RqAt w b r) (v : Value) (o : List Nat) (hv : SlJ w v (ints o)) : RqAt (w.setCell ⟨b, 1, none⟩ v) b ⟨r.l, o, r.order⟩ := by
  obtain ⟨c, hc⟩ := h.blk
  obtain ⟨vl, M, l1, l2, l3, l4⟩ := h.l
  obtain ⟨vm, m1, m2⟩ := h.more
  obtain ⟨vo, o1, o2⟩ := h.ord
  have hs : IsSl w ⟨b, 1, none⟩ := by
    obtain ⟨ao, cap, e, -⟩ := m2.shape
    exact ⟨ao, _, cap, by rw [m1, e]⟩
  have hne : ∀ k, k ≠ 1 → (⟨b, 1, none⟩ : Addr) ≠ ⟨b, k, none⟩ := fun k hk e => by simp only [Addr.mk.injEq] at e; exact hk e.2.1.symm
  have hb : vl.ownBlock ≠ some b := by
    rcases l2.2 with ⟨e, _⟩ | ⟨g, cap, cur, e, q, hg, _⟩
    · rw [e]; simp [Value.ownBlock]
    · rw [e]
      intro hh
      have hgb : g = b := by simpa [Value.ownBlock] using hh
      rw [hgb, hc] at hg
      simp at hg
  refine ⟨⟨_, heap_setCell_same _ _ _ _ hc⟩, ⟨vl, M, ?_, owns_set l2 b 1 hb v, l3, fun i h h' => (l4 i h h').set hs v⟩, ⟨v, ?_, hv.set hs v⟩, ⟨vo, ?_, o2.set hs v⟩⟩
  · rw [World.cell?_setCell_other w _ _ _ (hne 0 (by omega))]; exact l1
  · exact World.cell?_setCell_same' w ⟨b, 1, none⟩ _ (by rw [m1]; rfl)
  · rw [World.cell?_setCell_other w _ _ _ (hne 2 (by omega))]; exact o1
/-- The nodes laid anew. -/
theorem RqAt.setL {w : World} {b : Nat} {r : RS} (h : RqAt w b r) (v : Value) (L : List Nd) (M : List Mn) (hv : w.ownsRow 0 84 10 v L.length (M.flatMap cellMn)) (hl : M.length = L.length) (hm : ∀ i (h : i < M.length) (h' : i < L.length), MnAt w M[i] L[i]) : RqAt (w.setCell ⟨b, 0, none⟩ v) b ⟨L, r.more, r.order⟩ := by
  obtain ⟨c, hc⟩ := h.blk
  obtain ⟨vl, M0, l1, l2, l3, l4⟩ := h.l
  obtain ⟨vm, m1, m2⟩ := h.more
  obtain ⟨vo, o1, o2⟩ := h.ord
  have hs : IsSl w ⟨b, 0, none⟩ := by
    rcases l2.2 with ⟨e, _⟩ | ⟨g, cap, cur, e, _⟩
    · exact ⟨_, _, _, by rw [l1, e]⟩
    · exact ⟨_, _, _, by rw [l1, e]⟩
  have hne : ∀ k, k ≠ 0 → (⟨b, 0, none⟩ : Addr) ≠ ⟨b, k, none⟩ := fun k hk e => by simp only [Addr.mk.injEq] at e; exact hk e.2.1.symm
  have hb : v.ownBlock ≠ some b := by
    rcases hv.2 with ⟨e, _⟩ | ⟨g, cap, cur, e, q, hg, _⟩
    · rw [e]; simp [Value.ownBlock]
    · rw [e]
      intro hh
      have hgb : g = b := by simpa [Value.ownBlock] using hh
      rw [hgb, hc] at hg
      simp at hg
  refine ⟨⟨_, heap_setCell_same _ _ _ _ hc⟩, ⟨v, M, ?_, owns_set hv b 0 hb v, hl, fun i h h' => (hm i h h').set hs v⟩, ⟨vm, ?_, m2.set hs v⟩, ⟨vo, ?_, o2.set hs v⟩⟩
  · exact World.cell?_setCell_same' w ⟨b, 0, none⟩ _ (by rw [l1]; rfl)
  · rw [World.cell?_setCell_other w _ _ _ (hne 1 (by omega))]; exact m1
  · rw [World.cell?_setCell_other w _ _ _ (hne 2 (by omega))]; exact o1
/-- One cell of one struct laid anew. -/
theorem flat_set {α : Type} (cf : α → List Value) (m : Nat) (hm : ∀ x, (cf x).length = m) : ∀ (L : List α) (i : Nat) (hi : i < L.length) (f : Nat) (hf : f < m) (y : Value) (x : α), cf x = (cf L[i]).set f y → (L.flatMap cf).set (i * m + f) y = (L.set i x).flatMap cf
  | a :: L, 0, _, f, hf, y, x, e => by
    have e' : cf x = (cf a).set f y := e
    rw [Nat.zero_mul, Nat.zero_add, List.flatMap_cons, List.set_append_left _ _ (by rw [hm]; exact hf), List.set_cons_zero, List.flatMap_cons, e']
  | a :: L, i + 1, hi, f, hf, y, x, e => by
    have ih := flat_set cf m hm L i (by simpa using hi) f hf y x e
    rw [List.flatMap_cons, List.set_append_right _ _ (by rw [hm, Nat.succ_mul]; omega), hm, show (i + 1) * m + f - m = i * m + f from by rw [Nat.succ_mul]; omega, ih, List.set_cons_succ, List.flatMap_cons]
/-- A node's children laid anew. -/
theorem RqAt.setLefts {w : World} {b : Nat} {r : RS} (h : RqAt w b r) (i : Nat) (hi : i < r.l.length) {g n cap : Nat} (hcell : w.cell? ⟨b, 0, none⟩ = some (.slice (some ⟨g, 0, none⟩) n cap)) (v : Value) (o : List Nat) (hv : SlJ w v (ints o)) :
    RqAt (w.setCell ⟨g, i * 10 + 8, none⟩ v) b ⟨r.l.modify i fun n => ⟨n.u, n.par, n.left, o, n.more⟩, r.more, r.order⟩ := by
  obtain ⟨ao', cap', h0, hx⟩ := h.nodes
  obtain ⟨g', eg, hcs⟩ := hx (by omega)
  rw [hcell, eg] at h0
  simp only [Option.some.injEq, Value.slice.injEq, Addr.mk.injEq] at h0
  obtain ⟨⟨rfl, -, -⟩, -, -⟩ := h0
  have hs : IsSl w ⟨g, i * 10 + 8, none⟩ := by
    obtain ⟨lv, k1, k2⟩ := (hcs i hi).c8
    obtain ⟨ao, cap, e, -⟩ := k2.shape
    exact ⟨ao, _, cap, by rw [k1, e]⟩
  obtain ⟨c, hc⟩ := h.blk
  obtain ⟨vl, M, l1, l2, l3, l4⟩ := h.l
  obtain ⟨vm, m1, m2⟩ := h.more
  obtain ⟨vo, o1, o2⟩ := h.ord
  have hiM : i < M.length := by omega
  have evl : vl = .slice (some ⟨g, 0, none⟩) n cap := by rw [hcell] at l1; exact (Option.some.inj l1).symm
  rcases l2.2 with ⟨e, h0⟩ | ⟨g', cap', cur, e, q0, hg, q1, q2, q3, q4⟩
  · omega
  rw [e] at evl
  simp only [Value.slice.injEq, Option.some.injEq, Addr.mk.injEq] at evl
  obtain ⟨⟨rfl, -, -⟩, -, -⟩ := evl
  have hbg : b ≠ g' := fun e => by
    rw [← e, hc] at hg
    simp at hg
  have hbk : (w.setCell ⟨g', i * 10 + 8, none⟩ v).heap[b]? = w.heap[b]? := Below.heap_setCell _ _ _ _ hbg
  have hcb : ∀ k, (w.setCell ⟨g', i * 10 + 8, none⟩ v).cell? ⟨b, k, none⟩ = w.cell? ⟨b, k, none⟩ := fun k => World.cell?_of_block hbk
  refine ⟨⟨c, hbk.trans hc⟩, ⟨vl, M.set i ⟨M[i].u, M[i].par, M[i].left, v, M[i].mv⟩, (hcb 0).trans l1, ⟨?_, .inr ⟨g', cap', cur.setIfInBounds (i * 10 + 8) v, ?_, q0, heap_setCell_same _ _ _ _ hg, ?_, q2, ?_, ?_⟩⟩, ?_, fun j h h' => ?_⟩, ⟨vm, (hcb 1).trans m1, m2.set hs v⟩, ⟨vo, (hcb 2).trans o1, o2.set hs v⟩⟩
  · rw [flat_len cellMn 10 cellMn_len, List.length_set, l3, List.length_modify]
  · rw [List.length_modify]; exact e
  · rw [List.length_modify]; exact q1
  · simpa using q3
  · rw [List.length_modify, Array.toList_setIfInBounds, List.take_set, q4]
    exact flat_set cellMn 10 cellMn_len M i hiM 8 (by omega) v _ rfl
  · rw [List.length_set, List.length_modify]; exact l3
  · have hj : j < M.length := by simpa using h
    have hj' : j < r.l.length := by omega
    have k := l4 j hj hj'
    by_cases hji : j = i
    · subst hji
      rw [List.getElem_set_self, List.getElem_modify_eq]
      exact ⟨k.u, k.par, k.left, hv.set hs v, k.more.set hs v⟩
    · have hij : ¬ i = j := fun e => hji e.symm
      rw [List.getElem_set_ne hij, List.getElem_modify, if_neg hij]
      exact k.set hs v
/-- A node's children laid anew. -/
theorem RqAt.setKids {w : World} {b : Nat} {r : RS} (h : RqAt w b r) (i : Nat) (hi : i < r.l.length) {g n cap : Nat} (hcell : w.cell? ⟨b, 0, none⟩ = some (.slice (some ⟨g, 0, none⟩) n cap)) (v : Value) (o : List Nat) (hv : SlJ w v (ints o)) :
    RqAt (w.setCell ⟨g, i * 10 + 9, none⟩ v) b ⟨r.l.modify i fun n => ⟨n.u, n.par, n.left, n.lefts, o⟩, r.more, r.order⟩ := by
  obtain ⟨ao', cap', h0, hx⟩ := h.nodes
  obtain ⟨g', eg, hcs⟩ := hx (by omega)
  rw [hcell, eg] at h0
  simp only [Option.some.injEq, Value.slice.injEq, Addr.mk.injEq] at h0
  obtain ⟨⟨rfl, -, -⟩, -, -⟩ := h0
  have hs : IsSl w ⟨g, i * 10 + 9, none⟩ := by
    obtain ⟨lv, k1, k2⟩ := (hcs i hi).c9
    obtain ⟨ao, cap, e, -⟩ := k2.shape
    exact ⟨ao, _, cap, by rw [k1, e]⟩
  obtain ⟨c, hc⟩ := h.blk
  obtain ⟨vl, M, l1, l2, l3, l4⟩ := h.l
  obtain ⟨vm, m1, m2⟩ := h.more
  obtain ⟨vo, o1, o2⟩ := h.ord
  have hiM : i < M.length := by omega
  have evl : vl = .slice (some ⟨g, 0, none⟩) n cap := by rw [hcell] at l1; exact (Option.some.inj l1).symm
  rcases l2.2 with ⟨e, h0⟩ | ⟨g', cap', cur, e, q0, hg, q1, q2, q3, q4⟩
  · omega
  rw [e] at evl
  simp only [Value.slice.injEq, Option.some.injEq, Addr.mk.injEq] at evl
  obtain ⟨⟨rfl, -, -⟩, -, -⟩ := evl
  have hbg : b ≠ g' := fun e => by
    rw [← e, hc] at hg
    simp at hg
  have hbk : (w.setCell ⟨g', i * 10 + 9, none⟩ v).heap[b]? = w.heap[b]? := Below.heap_setCell _ _ _ _ hbg
  have hcb : ∀ k, (w.setCell ⟨g', i * 10 + 9, none⟩ v).cell? ⟨b, k, none⟩ = w.cell? ⟨b, k, none⟩ := fun k => World.cell?_of_block hbk
  refine ⟨⟨c, hbk.trans hc⟩, ⟨vl, M.set i ⟨M[i].u, M[i].par, M[i].left, M[i].lv, v⟩, (hcb 0).trans l1, ⟨?_, .inr ⟨g', cap', cur.setIfInBounds (i * 10 + 9) v, ?_, q0, heap_setCell_same _ _ _ _ hg, ?_, q2, ?_, ?_⟩⟩, ?_, fun j h h' => ?_⟩, ⟨vm, (hcb 1).trans m1, m2.set hs v⟩, ⟨vo, (hcb 2).trans o1, o2.set hs v⟩⟩
  · rw [flat_len cellMn 10 cellMn_len, List.length_set, l3, List.length_modify]
  · rw [List.length_modify]; exact e
  · rw [List.length_modify]; exact q1
  · simpa using q3
  · rw [List.length_modify, Array.toList_setIfInBounds, List.take_set, q4]
    exact flat_set cellMn 10 cellMn_len M i hiM 9 (by omega) v _ rfl
  · rw [List.length_set, List.length_modify]; exact l3
  · have hj : j < M.length := by simpa using h
    have hj' : j < r.l.length := by omega
    have k := l4 j hj hj'
    by_cases hji : j = i
    · subst hji
      rw [List.getElem_set_self, List.getElem_modify_eq]
      exact ⟨k.u, k.par, k.left, k.lefts.set hs v, hv.set hs v⟩
    · have hij : ¬ i = j := fun e => hji e.symm
      rw [List.getElem_set_ne hij, List.getElem_modify, if_neg hij]
      exact k.set hs v
end Go.Proofs.Ytnbphdmpbjahhaa
