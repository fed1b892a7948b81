/- quirelaw9.grown as a function (no Go in it): units that may be inserted one after the other. -/
import Derived.Test.YtcolbgbmnmkogabPart24
import Derived.Test.YtcolbgbmnmkogabRqC
import Derived.Test.YtcolbgbmnmkogabPart23
import Derived.Test.YtcolbgbmnmkogabPart15
namespace Go.Proofs.Ytcolbgbmnmkogab
set_option linter.unusedVariables false
set_option linter.unusedSimpArgs false

/-- The tree, the clients' next clocks, the units so far. -/
structure GS where
  r : RS
  nx : Nat → Int
  out : List Un
def GS.zero : GS := ⟨.zero, fun _ => 1, []⟩
def GS.at_ (g : GS) (x : Int) : Int := (x / 4) % ((g.r.order.length : Int) + 1)
def farG (x : Int) : Int := (x / 256) % 5
def GS.left (g : GS) (x : Int) : Un := if 0 < g.at_ x then (g.r.at_ (g.at_ x - 1)).1 else .zero
def GS.right (g : GS) (x : Int) : Un := if (g.r.at_ (g.at_ x + farG x)).2 then (g.r.at_ (g.at_ x + farG x)).1 else .zero
def GS.unit (g : GS) (x : Int) : Un := ⟨x % 4 + 1, g.nx (x % 4).toNat, (g.left x).c, (g.left x).k, (g.right x).c, (g.right x).k⟩
def GS.step (g : GS) (x : Int) : GS :=
  if g.r.may (g.unit x) then ⟨g.r.insert (g.unit x), fun i => g.nx i + (if i = (x % 4).toNat then 1 else 0), g.out ++ [g.unit x]⟩ else g
def grownG (zs : List Int) : GS := zs.foldl GS.step .zero
theorem grownG_take (zs : List Int) (j : Nat) (hj : j < zs.length) : grownG (zs.take (j + 1)) = (grownG (zs.take j)).step zs[j] := by
  unfold grownG
  rw [List.take_succ_eq_append_getElem hj, List.foldl_append]; rfl
/-- What is so of it. -/
structure GInv (g : GS) (n : Nat) : Prop where
  inv : RInv g.r
  len : g.r.l.length ≤ n
  nx : ∀ i, 1 ≤ g.nx i ∧ g.nx i ≤ (n : Int) + 1
  out : g.out.length ≤ n
theorem GInv.zero : GInv .zero 0 := ⟨RInv.zero, Nat.le_refl _, fun i => ⟨Int.le_refl _, by simp [GS.zero]⟩, Nat.le_refl _⟩
theorem GInv.more {g : GS} {n : Nat} (h : GInv g n) : GInv g (n + 1) := ⟨h.inv, by have := h.len; omega, fun i => by have := h.nx i; omega, by have := h.out; omega⟩
theorem GInv.step {g : GS} {n : Nat} (h : GInv g n) (x : Int) : GInv (g.step x) (n + 1) := by
  unfold GS.step
  split
  · refine ⟨h.inv.insert _, ?_, fun i => ?_, ?_⟩
    · have := RS.insert_len g.r (g.unit x)
      have := h.len
      show (g.r.insert (g.unit x)).l.length ≤ n + 1
      omega
    · have := h.nx i
      show 1 ≤ g.nx i + (if _ then _ else _) ∧ g.nx i + (if _ then _ else _) ≤ _
      split <;> omega
    · have := h.out
      simp; omega
  · exact h.more
theorem GInv.take (zs : List Int) : ∀ j, j ≤ zs.length → GInv (grownG (zs.take j)) j
  | 0, _ => GInv.zero
  | j + 1, h => by
    rw [grownG_take zs j h]
    exact (GInv.take zs j (by omega)).step _
theorem map_modify (f : Nd → Nd) (hf : ∀ n, (f n).u = n.u) : ∀ (l : List Nd) (i : Nat), (l.modify i f).map (·.u) = l.map (·.u)
  | [], i => by cases i <;> rfl
  | x :: l, 0 => by simp [hf]
  | x :: l, i + 1 => by rw [List.modify_succ_cons, List.map_cons, List.map_cons, map_modify f hf l i]
theorem RS.insert_units (r : RS) (u : Un) : (r.insert u).l.map (·.u) = if r.may u then r.l.map (·.u) ++ [u] else r.l.map (·.u) := by
  unfold RS.insert
  split
  · show (r.with2 u).l.map (·.u) = _
    have h1 : (r.with1 u).l.map (·.u) = r.l.map (·.u) ++ [u] := by simp [RS.with1, RS.node]
    unfold RS.with2
    simp only
    split
    · show List.map _ ((r.with1 u).l.modify _ _) = _
      refine (map_modify _ ?_ _ _).trans h1
      intro n; rfl
    · split
      · show List.map _ ((r.with1 u).l.modify _ _) = _
        refine (map_modify _ ?_ _ _).trans h1
        intro n; rfl
      · exact h1
  · rfl
/-- What is so of its units. -/
structure GOk (g : GS) : Prop where
  map : g.r.l.map (·.u) = g.out
  ok : ∀ v ∈ g.out, v.ok ∧ 1 ≤ v.c ∧ v.c ≤ 4 ∧ 1 ≤ v.k
theorem at_mem {g : GS} (h : GOk g) (i : Int) : (g.r.at_ i).1 = .zero ∨ (g.r.at_ i).1 ∈ g.out := by
  have key : ∀ n, g.r.nd n = .zero ∨ (g.r.nd n).u ∈ g.out := fun n => by
    unfold RS.nd
    rcases Nat.lt_or_ge n g.r.l.length with hn | hn
    · right
      rw [List.getElem?_eq_getElem hn, ← h.map]
      exact List.mem_map.2 ⟨_, List.getElem_mem hn, rfl⟩
    · left
      rw [List.getElem?_eq_none hn]; rfl
  unfold RS.at_
  split
  · exact .inl rfl
  · rcases key _ with e | e
    · left
      show (g.r.nd _).u = _
      rw [e]
    · exact .inr e
theorem GOk.zero : GOk .zero := ⟨rfl, fun v hv => (List.not_mem_nil hv).elim⟩
theorem GOk.step {g : GS} {n : Nat} (h : GOk g) (hG : GInv g n) (hn : n ≤ 1000) (x : Int) (h0 : 0 ≤ x) (h1 : x < 65536) : GOk (g.step x) := by
  unfold GS.step
  split
  · next hm =>
    have hz : ∀ v : Un, v = .zero ∨ v ∈ g.out → 0 ≤ v.c ∧ 0 ≤ v.k ∧ v.k < 18446744073709551616 := fun v hv => by
      rcases hv with rfl | hv
      · exact ⟨Int.le_refl _, Int.le_refl _, by decide⟩
      · have := (h.ok v hv).1
        exact ⟨this.c, this.k.1, this.k.2⟩
    have hl : g.left x = .zero ∨ g.left x ∈ g.out := by
      unfold GS.left
      split
      · exact at_mem h _
      · exact .inl rfl
    have hr : g.right x = .zero ∨ g.right x ∈ g.out := by
      unfold GS.right
      split
      · exact at_mem h _
      · exact .inl rfl
    obtain ⟨l1, l2, l3⟩ := hz _ hl
    obtain ⟨r1, r2, r3⟩ := hz _ hr
    have hx := hG.nx (x % 4).toNat
    refine ⟨?_, fun v hv => ?_⟩
    · show (g.r.insert (g.unit x)).l.map (·.u) = g.out ++ [g.unit x]
      rw [RS.insert_units, if_pos hm, h.map]
    · rcases List.mem_append.1 hv with hv | hv
      · exact h.ok v hv
      · simp only [List.mem_singleton] at hv
        subst hv
        refine ⟨⟨?_, ⟨?_, ?_⟩, l1, ⟨l2, l3⟩, r1, ⟨r2, r3⟩⟩, ?_, ?_, ?_⟩
        · show 0 ≤ x % 4 + 1
          omega
        · show 0 ≤ g.nx _
          omega
        · show g.nx _ < _
          omega
        · show 1 ≤ x % 4 + 1
          omega
        · show x % 4 + 1 ≤ 4
          omega
        · exact hx.1
  · exact h
theorem GOk.take (zs : List Int) (hr : ∀ y ∈ zs, 0 ≤ y ∧ y < 65536) (hl : zs.length ≤ 1000) : ∀ j, j ≤ zs.length → GOk (grownG (zs.take j))
  | 0, _ => GOk.zero
  | j + 1, h => by
    have hx := hr zs[j] (List.getElem_mem _)
    rw [grownG_take zs j h]
    exact (GOk.take zs hr hl j (by omega)).step (GInv.take zs j (by omega)) (by omega) _ hx.1 hx.2
theorem grown_ok (zs : List Int) (hr : ∀ y ∈ zs, 0 ≤ y ∧ y < 65536) (hl : zs.length ≤ 1000) : GOk (grownG zs) ∧ GInv (grownG zs) zs.length := by
  have h1 := GOk.take zs hr hl zs.length (Nat.le_refl _)
  have h2 := GInv.take zs zs.length (Nat.le_refl _)
  rw [List.take_length] at h1 h2
  exact ⟨h1, h2⟩
end Go.Proofs.Ytcolbgbmnmkogab

/- The document's tree of units (quireref9): one more node. -/
namespace Go.Proofs.Ytcolbgbmnmkogab
open Go.RowKit Go.Maps
set_option linter.unusedVariables false
set_option linter.unusedSimpArgs false
set_option maxRecDepth 100000

theorem infoN : (Try.prog.info? 84).map (fun i => (i.zero, i.size, i.bytes)) = some (some (.agg #[u64 0, u64 0, u64 0, u64 0, u64 0, u64 0, iV 0, .bool false, .slice none 0 0, .slice none 0 0]), 10, 112) := by kernel_rfl
abbrev mnO (x : Mn) : Obj := .cells #[u64 x.u.c, u64 x.u.k, u64 x.u.lc, u64 x.u.lk, u64 x.u.rc, u64 x.u.rk, iV x.par, .bool x.left, x.lv, x.mv] 84
theorem cellsMn_one (x : Mn) (h1 : x.lv.oneCell' = true) (h2 : x.mv.oneCell' = true) : ∀ u ∈ [x].flatMap cellMn, u.oneCell' = true := by
  intro u hu
  simp only [List.flatMap_cons, List.flatMap_nil, List.append_nil, cellMn, List.mem_cons, List.not_mem_nil, or_false] at hu
  rcases hu with rfl | rfl | rfl | rfl | rfl | rfl | rfl | rfl | rfl | rfl <;> first | rfl | assumption
/-- An append to a slice of nodes that has no room: it lies anew. -/
theorem append_nd {w : World} {ao : Option Addr} {cap : Nat} {M : List Mn} (hown : w.ownsRow 0 84 10 (.slice ao M.length cap) M.length (M.flatMap cellMn)) (x : Mn) (h1 : x.lv.oneCell' = true) (h2 : x.mv.oneCell' = true) (hl : M.length ≤ 1073741824) :
    ∃ g' cap' w', (Builtin.append_ #[59, 59] 59 #[.slice ao M.length M.length, .slice (some ⟨w.heap.size, 0, none⟩) 1 1]).run Try.prog (w.alloc (mnO x)) = .ok (.slice (some ⟨g', 0, none⟩) (M.length + 1) cap') w' ∧
      w'.ownsRow 0 84 10 (.slice (some ⟨g', 0, none⟩) (M.length + 1) cap') (M.length + 1) ((M ++ [x]).flatMap cellMn) ∧ w.heap.size ≤ g' ∧ Touch (fun _ => False) w w' := by
  obtain ⟨i0, hi, hz0, hz1, hz2⟩ := info_parts infoN
  have hT : Touch (fun _ => False) w (w.alloc (mnO x)) := (Touch.refl _ _).alloc _
  have hcl : ∀ j u, ([x].flatMap cellMn)[j]? = some u → (w.alloc (mnO x)).cell? ((⟨w.heap.size, 0, none⟩ : Addr).add j) = some u := by
    intro j u hu
    rw [addr_addH, Nat.zero_add, cell_of_block (heap_alloc_new w (mnO x))]
    have : ([x].flatMap cellMn)[j]? = (#[u64 x.u.c, u64 x.u.k, u64 x.u.lc, u64 x.u.lk, u64 x.u.rc, u64 x.u.rk, iV x.par, .bool x.left, x.lv, x.mv] : Array Value)[j]? := by simp [cellMn]
    rw [← this]; exact hu
  have hlen1 : ([x].flatMap cellMn).length = 1 * 10 := flat_len cellMn 10 cellMn_len [x]
  rcases hown.2 with ⟨e, h0⟩ | ⟨g, cap', cur, e, _, hg, q1, q2, q3, q4⟩
  · have hM : M = [] := List.length_eq_zero_iff.1 h0
    subst hM
    simp only [Value.slice.injEq] at e
    obtain ⟨rfl, -, -⟩ := e
    obtain ⟨v', w', hrun, hown', hgr, _, hat⟩ := run_append_own_at (w.alloc (mnO x)) 0 59 59 84 i0 _ 10 112 Try.underlying59 hi hz0 hz1 hz2 rfl (by decide) (.slice none 0 0) 0 [] (World.ownsRow_nil _ _ _ _) ⟨w.heap.size, 0, none⟩ 1 1 ([x].flatMap cellMn) hlen1 hcl (cellsMn_one x h1 h2) (by unfold maxLen; omega) (by omega) (Nat.zero_le _)
    rcases hown'.2 with ⟨_, h9⟩ | ⟨g', cap', cur', rfl, r⟩
    · omega
    · refine ⟨g', cap', w', hrun, hown', ?_, hT.trans ⟨hgr.os, hgr.tape, hgr.output, hgr.size, fun k hk _ => hgr.block k hk (by simp [Value.ownBlock])⟩⟩
      have : g' = (w.alloc (mnO x)).heap.size := by simpa [Value.ownBlock] using hat
      have hs : (w.alloc (mnO x)).heap.size = w.heap.size + 1 := by simp
      omega
  · simp only [Value.slice.injEq] at e
    obtain ⟨rfl, -, rfl⟩ := e
    have hlt := lt_of_heap hg
    have hgA : (w.alloc (mnO x)).heap[g]? = some (.cells cur 84 (0, 0)) := by rw [Below.heap_alloc _ _ _ hlt]; exact hg
    have hlo : (M.flatMap cellMn).length = M.length * 10 := flat_len cellMn 10 cellMn_len M
    have holds : ∀ j u, (M.flatMap cellMn)[j]? = some u → (w.alloc (mnO x)).cell? ((⟨g, 0, none⟩ : Addr).add j) = some u := by
      intro j u hu
      rw [addr_addH, Nat.zero_add, cell_of_block hgA, ← Array.getElem?_toList]
      rw [← q4, List.getElem?_take] at hu
      split at hu
      · exact hu
      · cases hu
    have hr := run_append_grow (P := Try.prog) (w := w.alloc (mnO x)) 59 59 84 i0 _ Try.underlying59 hi hz0 ⟨g, 0, none⟩ M.length M.length (M.flatMap cellMn) (by rw [hz1]; exact hlo) holds ⟨w.heap.size, 0, none⟩ 1 1 ([x].flatMap cellMn) (by rw [hz1]; exact hlen1) hcl (by omega) (by omega) (growslice_fits (by omega) (by rw [hz2]; omega))
    have hge := grownCap_ge (w.alloc (mnO x)) (M.length + 1) M.length 84
    have hcm := grownCap_le_maxLen (w.alloc (mnO x)) (M.length + 1) M.length 84 (by unfold maxLen; omega)
    refine ⟨_, _, _, hr, ⟨by rw [flat_len cellMn 10 cellMn_len, List.length_append]; rfl, .inr ⟨_, _, _, rfl, Nat.zero_le _, heap_alloc_new _ _, hge, hcm, ?_, ?_⟩⟩, ?_, (hT.drew).alloc _⟩
    · simp only [Array.size_append, List.size_toArray, size_zeroCells, hlo, hlen1, ← Nat.add_mul]
      show (M.length + 1) * 10 + (grownCap (w.alloc (mnO x)) (M.length + 1) M.length 84 - (M.length + 1)) * 10 = _
      omega
    · simp only [Array.toList_append, List.append_assoc, List.flatMap_append]
      rw [← List.append_assoc, show (M.length + 1) * 10 = (M.flatMap cellMn ++ [x].flatMap cellMn).length from by rw [List.length_append, hlo, hlen1]; omega]
      exact List.take_left
    · simp
end Go.Proofs.Ytcolbgbmnmkogab
