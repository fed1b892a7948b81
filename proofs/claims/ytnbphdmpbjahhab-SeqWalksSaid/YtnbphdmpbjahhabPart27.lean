/- quirelaw9.grown as a function (no Go in it): units that may be inserted one after the other. -/
import Derived.Test.YtnbphdmpbjahhabPart26
import Derived.Test.YtnbphdmpbjahhabRqC
import Derived.Test.YtnbphdmpbjahhabPart21
namespace Go.Proofs.Ytnbphdmpbjahhab
set_option linter.unusedVariables false
set_option linter.unusedSimpArgs false

/-- The tree, the clients' next clocks, the units so far. -/
structure GS where
  r : RS
  nx : Nat → Int
  out : List Un
def GS.zero : GS := ⟨.zero, fun _ => 1, []⟩
def GS.at_ (g : GS) (x : Int) : Int := (x / 4) % ((g.r.order.length : Int) + 1)
def farG (x : Int) : Int := (x / 256) % 5
def GS.left (g : GS) (x : Int) : Un := if 0 < g.at_ x then (g.r.at_ (g.at_ x - 1)).1 else .zero
def GS.right (g : GS) (x : Int) : Un := if (g.r.at_ (g.at_ x + farG x)).2 then (g.r.at_ (g.at_ x + farG x)).1 else .zero
def GS.unit (g : GS) (x : Int) : Un := ⟨x % 4 + 1, g.nx (x % 4).toNat, (g.left x).c, (g.left x).k, (g.right x).c, (g.right x).k⟩
def GS.step (g : GS) (x : Int) : GS :=
  if g.r.may (g.unit x) then ⟨g.r.insert (g.unit x), fun i => g.nx i + (if i = (x % 4).toNat then 1 else 0), g.out ++ [g.unit x]⟩ else g
def grownG (zs : List Int) : GS := zs.foldl GS.step .zero
theorem grownG_take (zs : List Int) (j : Nat) (hj : j < zs.length) : grownG (zs.take (j + 1)) = (grownG (zs.take j)).step zs[j] := by
  unfold grownG
  rw [List.take_succ_eq_append_getElem hj, List.foldl_append]; rfl
/-- What is so of it. -/
structure GInv (g : GS) (n : Nat) : Prop where
  inv : RInv g.r
  len : g.r.l.length ≤ n
  nx : ∀ i, 1 ≤ g.nx i ∧ g.nx i ≤ (n : Int) + 1
  out : g.out.length ≤ n
theorem GInv.zero : GInv .zero 0 := ⟨RInv.zero, Nat.le_refl _, fun i => ⟨Int.le_refl _, by simp [GS.zero]⟩, Nat.le_refl _⟩
theorem GInv.more {g : GS} {n : Nat} (h : GInv g n) : GInv g (n + 1) := ⟨h.inv, by have := h.len; omega, fun i => by have := h.nx i; omega, by have := h.out; omega⟩
theorem GInv.step {g : GS} {n : Nat} (h : GInv g n) (x : Int) : GInv (g.step x) (n + 1) := by
  unfold GS.step
  split
  · refine ⟨h.inv.insert _, ?_, fun i => ?_, ?_⟩
    · have := RS.insert_len g.r (g.unit x)
      have := h.len
      show (g.r.insert (g.unit x)).l.length ≤ n + 1
      omega
    · have := h.nx i
      show 1 ≤ g.nx i + (if _ then _ else _) ∧ g.nx i + (if _ then _ else _) ≤ _
      split <;> omega
    · have := h.out
      simp; omega
  · exact h.more
theorem GInv.take (zs : List Int) : ∀ j, j ≤ zs.length → GInv (grownG (zs.take j)) j
  | 0, _ => GInv.zero
  | j + 1, h => by
    rw [grownG_take zs j h]
    exact (GInv.take zs j (by omega)).step _
theorem map_modify (f : Nd → Nd) (hf : ∀ n, (f n).u = n.u) : ∀ (l : List Nd) (i : Nat), (l.modify i f).map (·.u) = l.map (·.u)
  | [], i => by cases i <;> rfl
  | x :: l, 0 => by simp [hf]
  | x :: l, i + 1 => by rw [List.modify_succ_cons, List.map_cons, List.map_cons, map_modify f hf l i]
theorem RS.insert_units (r : RS) (u : Un) : (r.insert u).l.map (·.u) = if r.may u then r.l.map (·.u) ++ [u] else r.l.map (·.u) := by
  unfold RS.insert
  split
  · show (r.with2 u).l.map (·.u) = _
    have h1 : (r.with1 u).l.map (·.u) = r.l.map (·.u) ++ [u] := by simp [RS.with1, RS.node]
    unfold RS.with2
    simp only
    split
    · show List.map _ ((r.with1 u).l.modify _ _) = _
      refine (map_modify _ ?_ _ _).trans h1
      intro n; rfl
    · split
      · show List.map _ ((r.with1 u).l.modify _ _) = _
        refine (map_modify _ ?_ _ _).trans h1
        intro n; rfl
      · exact h1
  · rfl
/-- What is so of its units. -/
structure GOk (g : GS) : Prop where
  map : g.r.l.map (·.u) = g.out
  ok : ∀ v ∈ g.out, v.ok ∧ 1 ≤ v.c ∧ v.c ≤ 4 ∧ 1 ≤ v.k
theorem at_mem {g : GS} (h : GOk g) (i : Int) : (g.r.at_ i).1 = .zero ∨ (g.r.at_ i).1 ∈ g.out := by
  have key : ∀ n, g.r.nd n = .zero ∨ (g.r.nd n).u ∈ g.out := fun n => by
    unfold RS.nd
    rcases Nat.lt_or_ge n g.r.l.length with hn | hn
    · right
      rw [List.getElem?_eq_getElem hn, ← h.map]
      exact List.mem_map.2 ⟨_, List.getElem_mem hn, rfl⟩
    · left
      rw [List.getElem?_eq_none hn]; rfl
  unfold RS.at_
  split
  · exact .inl rfl
  · rcases key _ with e | e
    · left
      show (g.r.nd _).u = _
      rw [e]
    · exact .inr e
theorem GOk.zero : GOk .zero := ⟨rfl, fun v hv => (List.not_mem_nil hv).elim⟩
theorem GOk.step {g : GS} {n : Nat} (h : GOk g) (hG : GInv g n) (hn : n ≤ 1000) (x : Int) (h0 : 0 ≤ x) (h1 : x < 65536) : GOk (g.step x) := by
  unfold GS.step
  split
  · next hm =>
    have hz : ∀ v : Un, v = .zero ∨ v ∈ g.out → 0 ≤ v.c ∧ 0 ≤ v.k ∧ v.k < 18446744073709551616 := fun v hv => by
      rcases hv with rfl | hv
      · exact ⟨Int.le_refl _, Int.le_refl _, by decide⟩
      · have := (h.ok v hv).1
        exact ⟨this.c, this.k.1, this.k.2⟩
    have hl : g.left x = .zero ∨ g.left x ∈ g.out := by
      unfold GS.left
      split
      · exact at_mem h _
      · exact .inl rfl
    have hr : g.right x = .zero ∨ g.right x ∈ g.out := by
      unfold GS.right
      split
      · exact at_mem h _
      · exact .inl rfl
    obtain ⟨l1, l2, l3⟩ := hz _ hl
    obtain ⟨r1, r2, r3⟩ := hz _ hr
    have hx := hG.nx (x % 4).toNat
    refine ⟨?_, fun v hv => ?_⟩
    · show (g.r.insert (g.unit x)).l.map (·.u) = g.out ++ [g.unit x]
      rw [RS.insert_units, if_pos hm, h.map]
    · rcases List.mem_append.1 hv with hv | hv
      · exact h.ok v hv
      · simp only [List.mem_singleton] at hv
        subst hv
        refine ⟨⟨?_, ⟨?_, ?_⟩, l1, ⟨l2, l3⟩, r1, ⟨r2, r3⟩⟩, ?_, ?_, ?_⟩
        · show 0 ≤ x % 4 + 1
          omega
        · show 0 ≤ g.nx _
          omega
        · show g.nx _ < _
          omega
        · show 1 ≤ x % 4 + 1
          omega
        · show x % 4 + 1 ≤ 4
          omega
        · exact hx.1
  · exact h
theorem GOk.take (zs : List Int) (hr : ∀ y ∈ zs, 0 ≤ y ∧ y < 65536) (hl : zs.length ≤ 1000) : ∀ j, j ≤ zs.length → GOk (grownG (zs.take j))
  | 0, _ => GOk.zero
  | j + 1, h => by
    have hx := hr zs[j] (List.getElem_mem _)
    rw [grownG_take zs j h]
    exact (GOk.take zs hr hl j (by omega)).step (GInv.take zs j (by omega)) (by omega) _ hx.1 hx.2
theorem grown_ok (zs : List Int) (hr : ∀ y ∈ zs, 0 ≤ y ∧ y < 65536) (hl : zs.length ≤ 1000) : GOk (grownG zs) ∧ GInv (grownG zs) zs.length := by
  have h1 := GOk.take zs hr hl zs.length (Nat.le_refl _)
  have h2 := GInv.take zs zs.length (Nat.le_refl _)
  rw [List.take_length] at h1 h2
  exact ⟨h1, h2⟩
end Go.Proofs.Ytnbphdmpbjahhab

/- Package seq: units that are laid between neighbours, and runs of units (no Go in it). -/
namespace Go.Proofs.Ytnbphdmpbjahhab
set_option linter.unusedVariables false
set_option linter.unusedSimpArgs false

/-- The j-th of a run's units. -/
def runUn (u : Un) (j : Nat) : Un := if j = 0 then u else ⟨u.c, u.k + (j : Int), u.c, u.k + (j : Int) - 1, u.rc, u.rk⟩
def runUns (u : Un) (n : Nat) : List Un := (List.range n).map (runUn u)
theorem runUns_len (u : Un) (n : Nat) : (runUns u n).length = n := by simp [runUns]
theorem runUns_get (u : Un) (n j : Nat) (h : j < (runUns u n).length) : (runUns u n)[j] = runUn u j := by simp [runUns]
theorem runUns_succ (u : Un) (n : Nat) : runUns u (n + 1) = runUns u n ++ [runUn u n] := by simp [runUns, List.range_succ]
theorem runUn_c (u : Un) (j : Nat) : (runUn u j).c = u.c ∧ (runUn u j).k = u.k + (j : Int) ∧ (runUn u j).rc = u.rc ∧ (runUn u j).rk = u.rk := by
  unfold runUn
  split
  · next h => subst h; exact ⟨rfl, by simp, rfl, rfl⟩
  · exact ⟨rfl, rfl, rfl, rfl⟩
theorem unit_from (S : SS) (y : Sp) (u : Un) (hy : S.unit y = u) (h0 : 0 ≤ y.pos) (j : Nat) : S.unit ⟨y.run, y.pos + (j : Int)⟩ = runUn u j := by
  by_cases hj : j = 0
  · subst hj
    unfold runUn
    rw [if_pos rfl, ← hy]
    congr 1
    simp
  · unfold runUn
    rw [if_neg hj, ← hy]
    have e1 : (S.unit y).c = (rn S.runs y.run).first.c := SS.unit_c S y
    have e2 : (S.unit y).k = (rn S.runs y.run).first.k + y.pos := SS.unit_k S y
    have e3 : (S.unit y).rc = (rn S.runs y.run).first.rc ∧ (S.unit y).rk = (rn S.runs y.run).first.rk := unitR_r S.runs y
    rw [e1, e2, e3.1, e3.2]
    unfold SS.unit unitR
    rw [if_neg (by show ¬ y.pos + (j : Int) = 0; omega)]
    have e : (rn S.runs y.run).first.k + (y.pos + (j : Int)) = (rn S.runs y.run).first.k + y.pos + (j : Int) := by omega
    simp only [e]
theorem Inv.run_unitsN {S : SS} (h : Inv S) {u : Un} (hu : u.ok) {n : Nat} (hn : 1 ≤ n) (hm : S.may u n = true) (hp : S.pcs.length + 1 ≤ 1073741824) : ∃ p : Nat, p ≤ S.units.length ∧ (p : Int) = S.placeFor u ∧ (S.run u n).units = S.units.take p ++ runUns u n ++ S.units.drop p := by
  obtain ⟨⟨a, b⟩, c, d, e, f⟩ := may_iff.1 hm
  have hnc : 1 ≤ u.c ∧ u.c ≤ 9007199254740991 := by simpa [numOk] using a
  obtain ⟨p0, p1⟩ := h.placeLe hu f
  have hl := h.units_len
  obtain ⟨y, y1, y2, y3, y4⟩ := h.lay_spots (S.placeFor u) p0 p1 hp u hnc.1 (S.parentOf u).1 n hn
  refine ⟨(S.placeFor u).toNat, by omega, by omega, ?_⟩
  have e1 : S.run u n = S.lay (S.placeFor u) u (S.parentOf u).1 n := by unfold SS.run; rw [if_pos hm]; rfl
  have hpos : 0 ≤ y.pos := by
    rcases y4 with ⟨e, _⟩ | ⟨_, e, _⟩
    · rw [e]; exact Int.le_refl _
    · omega
  rw [e1]
  unfold SS.units
  have hold : ∀ l : List Sp, (∀ x ∈ l, x ∈ S.spots) → l.map (S.lay (S.placeFor u) u (S.parentOf u).1 n).unit = l.map S.unit := fun l hl => List.map_congr_left fun x hx => y3 x (h.spot_run (hl x hx)).2.1
  have hnew : (spotsFrom y n).map (S.lay (S.placeFor u) u (S.parentOf u).1 n).unit = runUns u n := by
    unfold spotsFrom runUns
    rw [List.map_map]
    exact List.map_congr_left fun j _ => unit_from _ y u y2 hpos j
  rw [y1, List.map_append, List.map_append, hold _ fun x hx => List.mem_of_mem_take hx, hold _ fun x hx => List.mem_of_mem_drop hx, hnew, List.map_take, List.map_drop]
theorem Inv.hasAny_false {S : SS} (h : Inv S) {c k n : Int} (hc : 1 ≤ c) (hk : 0 ≤ k) (hn : 1 ≤ n) (hf : ∀ v ∈ S.units, ¬ (v.c = c ∧ k ≤ v.k ∧ v.k < k + n)) : S.hasAny c k n = false := by
  cases hh : S.hasAny c k n with
  | false => rfl
  | true =>
    exfalso
    unfold SS.hasAny at hh
    obtain ⟨a, b⟩ := of_decide_eq_true hh
    have h1 := h.piece_le c (k + (n - 1)) (by omega) (by omega)
    have hz : S.piece c (k + (n - 1)) ≠ 0 := fun e => by
      rw [e, h.first0] at a
      have : (0 : Int) = c := a
      omega
    have hlt := h.piece_lt c (k + (n - 1))
    generalize S.piece c (k + (n - 1)) = i at *
    have hlen := (h.pcs i (by omega) hlt).2.2.2.1
    -- the last of the ids that the piece has
    obtain ⟨k', hk1, hk2, hk3, hk4⟩ : ∃ k', k ≤ k' ∧ k' < k + n ∧ (S.first i).k ≤ k' ∧ k' < (S.first i).k + S.len i := by
      by_cases hx : k + (n - 1) < (S.first i).k + S.len i
      · exact ⟨k + (n - 1), by omega, by omega, by omega, by omega⟩
      · exact ⟨(S.first i).k + S.len i - 1, by omega, by omega, by omega, by omega⟩
    have he := h.find_eq (i := i) (by omega) hlt (j := k' - (S.first i).k) (by omega) (by omega)
    rw [a, show (S.first i).k + (k' - (S.first i).k) = k' by omega] at he
    have hah := h.ahead_le i
    have hfk := h.firstOk hlt
    obtain ⟨m, hm, _, e1, e2⟩ := h.units_find (c := c) (k := k') (by omega) (by omega) (by rw [he.1]; omega)
    exact hf _ (List.getElem_mem hm) ⟨e1, by omega, by omega⟩
theorem Inv.hasAny_true {S : SS} (h : Inv S) {v : Un} (hv : v ∈ S.units) : S.hasAny v.c v.k 1 = true := by
  have hok := h.units_ok hv
  obtain ⟨m, hm, rfl⟩ := List.mem_iff_getElem.1 hv
  refine (h.hasAny_one hok.1 (by omega)).2 ?_
  rw [h.find_units m hm]; omega
/-- Between neighbours there is one place alone. -/
theorem Inv.between_at {S : SS} (h : Inv S) {u : Un} {p : Nat} (hp : p ≤ S.units.length) (hl0 : p = 0 → u.lc = 0 ∧ u.lk = 0) (hl1 : ∀ q (hq : q < S.units.length), p = q + 1 → S.units[q].c = u.lc ∧ S.units[q].k = u.lk) (hr0 : p = S.units.length → u.rc = 0 ∧ u.rk = 0) (hr1 : ∀ (hq : p < S.units.length), S.units[p].c = u.rc ∧ S.units[p].k = u.rk) : (S.between u).2.2 = true ∧ S.placeFor u = (p : Int) := by
  have hul := h.units_len
  have hleft : S.find u.lc u.lk + 1 = (p : Int) ∧ ((p : Int) = 0 → u.lc = 0 ∧ u.lk = 0) := by
    by_cases h0 : p = 0
    · obtain ⟨e1, e2⟩ := hl0 h0
      have : S.find 0 0 = -1 := h.find_none (by omega) (by omega) fun v hv => by have := h.units_ok hv; omega
      rw [e1, e2, this]
      exact ⟨by omega, fun _ => ⟨rfl, rfl⟩⟩
    · obtain ⟨q, rfl⟩ : ∃ q, p = q + 1 := ⟨p - 1, by omega⟩
      obtain ⟨e1, e2⟩ := hl1 q (by omega) rfl
      have := h.find_units q (by omega)
      rw [e1, e2] at this
      exact ⟨by omega, fun e => by omega⟩
  have hright : S.rightOf u = (p : Int) := by
    unfold SS.rightOf
    by_cases h0 : p = S.units.length
    · rw [if_pos (hr0 h0)]; omega
    · obtain ⟨e1, e2⟩ := hr1 (by omega)
      have hok := h.units_ok (List.getElem_mem (show p < S.units.length by omega))
      have := h.find_units p (by omega)
      rw [e1, e2] at this
      rw [if_neg (by omega), this]
  have hb : S.between u = ((p : Int), (p : Int), true) := by
    unfold SS.between
    rw [hleft.1, hright, if_neg]
    rintro (⟨a, b⟩ | a)
    · exact b (hleft.2 a)
    · omega
  refine ⟨by rw [hb], ?_⟩
  unfold SS.placeFor SS.placeOf
  rw [hb]
  simp only [Int.sub_self]
  show (p : Int) + ((bis _ 0 0 0 : Nat) : Int) = p
  simp [bis]
end Go.Proofs.Ytnbphdmpbjahhab
