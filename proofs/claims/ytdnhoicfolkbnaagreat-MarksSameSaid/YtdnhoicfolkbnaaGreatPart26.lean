/- quirelaw9.grown as a function (no Go in it): units that may be inserted one after the other. -/
import Derived.Test.YtdnhoicfolkbnaaGreatPart25
import Derived.Test.YtdnhoicfolkbnaaGreatRqC
import Derived.Test.YtdnhoicfolkbnaaGreatPart16
import Derived.Test.YtdnhoicfolkbnaaGreatPart19
namespace Go.Proofs.YtdnhoicfolkbnaaGreat
set_option linter.unusedVariables false
set_option linter.unusedSimpArgs false

/-- The tree, the clients' next clocks, the units so far. -/
structure GS where
  r : RS
  nx : Nat → Int
  out : List Un
def GS.zero : GS := ⟨.zero, fun _ => 1, []⟩
def GS.at_ (g : GS) (x : Int) : Int := (x / 4) % ((g.r.order.length : Int) + 1)
def farG (x : Int) : Int := (x / 256) % 5
def GS.left (g : GS) (x : Int) : Un := if 0 < g.at_ x then (g.r.at_ (g.at_ x - 1)).1 else .zero
def GS.right (g : GS) (x : Int) : Un := if (g.r.at_ (g.at_ x + farG x)).2 then (g.r.at_ (g.at_ x + farG x)).1 else .zero
def GS.unit (g : GS) (x : Int) : Un := ⟨x % 4 + 1, g.nx (x % 4).toNat, (g.left x).c, (g.left x).k, (g.right x).c, (g.right x).k⟩
def GS.step (g : GS) (x : Int) : GS :=
  if g.r.may (g.unit x) then ⟨g.r.insert (g.unit x), fun i => g.nx i + (if i = (x % 4).toNat then 1 else 0), g.out ++ [g.unit x]⟩ else g
def grownG (zs : List Int) : GS := zs.foldl GS.step .zero
theorem grownG_take (zs : List Int) (j : Nat) (hj : j < zs.length) : grownG (zs.take (j + 1)) = (grownG (zs.take j)).step zs[j] := by
  unfold grownG
  rw [List.take_succ_eq_append_getElem hj, List.foldl_append]; rfl
/-- What is so of it. -/
structure GInv (g : GS) (n : Nat) : Prop where
  inv : RInv g.r
  len : g.r.l.length ≤ n
  nx : ∀ i, 1 ≤ g.nx i ∧ g.nx i ≤ (n : Int) + 1
  out : g.out.length ≤ n
theorem GInv.zero : GInv .zero 0 := ⟨RInv.zero, Nat.le_refl _, fun i => ⟨Int.le_refl _, by simp [GS.zero]⟩, Nat.le_refl _⟩
theorem GInv.more {g : GS} {n : Nat} (h : GInv g n) : GInv g (n + 1) := ⟨h.inv, by have := h.len; omega, fun i => by have := h.nx i; omega, by have := h.out; omega⟩
theorem GInv.step {g : GS} {n : Nat} (h : GInv g n) (x : Int) : GInv (g.step x) (n + 1) := by
  unfold GS.step
  split
  · refine ⟨h.inv.insert _, ?_, fun i => ?_, ?_⟩
    · have := RS.insert_len g.r (g.unit x)
      have := h.len
      show (g.r.insert (g.unit x)).l.length ≤ n + 1
      omega
    · have := h.nx i
      show 1 ≤ g.nx i + (if _ then _ else _) ∧ g.nx i + (if _ then _ else _) ≤ _
      split <;> omega
    · have := h.out
      simp; omega
  · exact h.more
theorem GInv.take (zs : List Int) : ∀ j, j ≤ zs.length → GInv (grownG (zs.take j)) j
  | 0, _ => GInv.zero
  | j + 1, h => by
    rw [grownG_take zs j h]
    exact (GInv.take zs j (by omega)).step _
theorem map_modify (f : Nd → Nd) (hf : ∀ n, (f n).u = n.u) : ∀ (l : List Nd) (i : Nat), (l.modify i f).map (·.u) = l.map (·.u)
  | [], i => by cases i <;> rfl
  | x :: l, 0 => by simp [hf]
  | x :: l, i + 1 => by rw [List.modify_succ_cons, List.map_cons, List.map_cons, map_modify f hf l i]
theorem RS.insert_units (r : RS) (u : Un) : (r.insert u).l.map (·.u) = if r.may u then r.l.map (·.u) ++ [u] else r.l.map (·.u) := by
  unfold RS.insert
  split
  · show (r.with2 u).l.map (·.u) = _
    have h1 : (r.with1 u).l.map (·.u) = r.l.map (·.u) ++ [u] := by simp [RS.with1, RS.node]
    unfold RS.with2
    simp only
    split
    · show List.map _ ((r.with1 u).l.modify _ _) = _
      refine (map_modify _ ?_ _ _).trans h1
      intro n; rfl
    · split
      · show List.map _ ((r.with1 u).l.modify _ _) = _
        refine (map_modify _ ?_ _ _).trans h1
        intro n; rfl
      · exact h1
  · rfl
/-- What is so of its units. -/
structure GOk (g : GS) : Prop where
  map : g.r.l.map (·.u) = g.out
  ok : ∀ v ∈ g.out, v.ok ∧ 1 ≤ v.c ∧ v.c ≤ 4 ∧ 1 ≤ v.k
theorem at_mem {g : GS} (h : GOk g) (i : Int) : (g.r.at_ i).1 = .zero ∨ (g.r.at_ i).1 ∈ g.out := by
  have key : ∀ n, g.r.nd n = .zero ∨ (g.r.nd n).u ∈ g.out := fun n => by
    unfold RS.nd
    rcases Nat.lt_or_ge n g.r.l.length with hn | hn
    · right
      rw [List.getElem?_eq_getElem hn, ← h.map]
      exact List.mem_map.2 ⟨_, List.getElem_mem hn, rfl⟩
    · left
      rw [List.getElem?_eq_none hn]; rfl
  unfold RS.at_
  split
  · exact .inl rfl
  · rcases key _ with e | e
    · left
      show (g.r.nd _).u = _
      rw [e]
    · exact .inr e
theorem GOk.zero : GOk .zero := ⟨rfl, fun v hv => (List.not_mem_nil hv).elim⟩
theorem GOk.step {g : GS} {n : Nat} (h : GOk g) (hG : GInv g n) (hn : n ≤ 1000) (x : Int) (h0 : 0 ≤ x) (h1 : x < 65536) : GOk (g.step x) := by
  unfold GS.step
  split
  · next hm =>
    have hz : ∀ v : Un, v = .zero ∨ v ∈ g.out → 0 ≤ v.c ∧ 0 ≤ v.k ∧ v.k < 18446744073709551616 := fun v hv => by
      rcases hv with rfl | hv
      · exact ⟨Int.le_refl _, Int.le_refl _, by decide⟩
      · have := (h.ok v hv).1
        exact ⟨this.c, this.k.1, this.k.2⟩
    have hl : g.left x = .zero ∨ g.left x ∈ g.out := by
      unfold GS.left
      split
      · exact at_mem h _
      · exact .inl rfl
    have hr : g.right x = .zero ∨ g.right x ∈ g.out := by
      unfold GS.right
      split
      · exact at_mem h _
      · exact .inl rfl
    obtain ⟨l1, l2, l3⟩ := hz _ hl
    obtain ⟨r1, r2, r3⟩ := hz _ hr
    have hx := hG.nx (x % 4).toNat
    refine ⟨?_, fun v hv => ?_⟩
    · show (g.r.insert (g.unit x)).l.map (·.u) = g.out ++ [g.unit x]
      rw [RS.insert_units, if_pos hm, h.map]
    · rcases List.mem_append.1 hv with hv | hv
      · exact h.ok v hv
      · simp only [List.mem_singleton] at hv
        subst hv
        refine ⟨⟨?_, ⟨?_, ?_⟩, l1, ⟨l2, l3⟩, r1, ⟨r2, r3⟩⟩, ?_, ?_, ?_⟩
        · show 0 ≤ x % 4 + 1
          omega
        · show 0 ≤ g.nx _
          omega
        · show g.nx _ < _
          omega
        · show 1 ≤ x % 4 + 1
          omega
        · show x % 4 + 1 ≤ 4
          omega
        · exact hx.1
  · exact h
theorem GOk.take (zs : List Int) (hr : ∀ y ∈ zs, 0 ≤ y ∧ y < 65536) (hl : zs.length ≤ 1000) : ∀ j, j ≤ zs.length → GOk (grownG (zs.take j))
  | 0, _ => GOk.zero
  | j + 1, h => by
    have hx := hr zs[j] (List.getElem_mem _)
    rw [grownG_take zs j h]
    exact (GOk.take zs hr hl j (by omega)).step (GInv.take zs j (by omega)) (by omega) _ hx.1 hx.2
theorem grown_ok (zs : List Int) (hr : ∀ y ∈ zs, 0 ≤ y ∧ y < 65536) (hl : zs.length ≤ 1000) : GOk (grownG zs) ∧ GInv (grownG zs) zs.length := by
  have h1 := GOk.take zs hr hl zs.length (Nat.le_refl _)
  have h2 := GInv.take zs zs.length (Nat.le_refl _)
  rw [List.take_length] at h1 h2
  exact ⟨h1, h2⟩
end Go.Proofs.YtdnhoicfolkbnaaGreat

/- Package seq: units that are laid between neighbours, and runs of units (no Go in it). -/
namespace Go.Proofs.YtdnhoicfolkbnaaGreat
set_option linter.unusedVariables false
set_option linter.unusedSimpArgs false

/-- The j-th of a run's units. -/
def runUn (u : Un) (j : Nat) : Un := if j = 0 then u else ⟨u.c, u.k + (j : Int), u.c, u.k + (j : Int) - 1, u.rc, u.rk⟩
def runUns (u : Un) (n : Nat) : List Un := (List.range n).map (runUn u)
theorem runUns_len (u : Un) (n : Nat) : (runUns u n).length = n := by simp [runUns]
theorem runUns_get (u : Un) (n j : Nat) (h : j < (runUns u n).length) : (runUns u n)[j] = runUn u j := by simp [runUns]
theorem runUns_succ (u : Un) (n : Nat) : runUns u (n + 1) = runUns u n ++ [runUn u n] := by simp [runUns, List.range_succ]
theorem runUn_c (u : Un) (j : Nat) : (runUn u j).c = u.c ∧ (runUn u j).k = u.k + (j : Int) ∧ (runUn u j).rc = u.rc ∧ (runUn u j).rk = u.rk := by
  unfold runUn
  split
  · next h => subst h; exact ⟨rfl, by simp, rfl, rfl⟩
  · exact ⟨rfl, rfl, rfl, rfl⟩
theorem unit_from (S : SS) (y : Sp) (u : Un) (hy : S.unit y = u) (h0 : 0 ≤ y.pos) (j : Nat) : S.unit ⟨y.run, y.pos + (j : Int)⟩ = runUn u j := by
  by_cases hj : j = 0
  · subst hj
    unfold runUn
    rw [if_pos rfl, ← hy]
    congr 1
    simp
  · unfold runUn
    rw [if_neg hj, ← hy]
    have e1 : (S.unit y).c = (rn S.runs y.run).first.c := SS.unit_c S y
    have e2 : (S.unit y).k = (rn S.runs y.run).first.k + y.pos := SS.unit_k S y
    have e3 : (S.unit y).rc = (rn S.runs y.run).first.rc ∧ (S.unit y).rk = (rn S.runs y.run).first.rk := unitR_r S.runs y
    rw [e1, e2, e3.1, e3.2]
    unfold SS.unit unitR
    rw [if_neg (by show ¬ y.pos + (j : Int) = 0; omega)]
    have e : (rn S.runs y.run).first.k + (y.pos + (j : Int)) = (rn S.runs y.run).first.k + y.pos + (j : Int) := by omega
    simp only [e]
theorem Inv.run_unitsN {S : SS} (h : Inv S) {u : Un} (hu : u.ok) {n : Nat} (hn : 1 ≤ n) (hm : S.may u n = true) (hp : S.pcs.length + 1 ≤ 1073741824) : ∃ p : Nat, p ≤ S.units.length ∧ (p : Int) = S.placeFor u ∧ (S.run u n).units = S.units.take p ++ runUns u n ++ S.units.drop p := by
  obtain ⟨⟨a, b⟩, c, d, e, f⟩ := may_iff.1 hm
  have hnc : 1 ≤ u.c ∧ u.c ≤ 9007199254740991 := by simpa [numOk] using a
  obtain ⟨p0, p1⟩ := h.placeLe hu f
  have hl := h.units_len
  obtain ⟨y, y1, y2, y3, y4⟩ := h.lay_spots (S.placeFor u) p0 p1 hp u hnc.1 (S.parentOf u).1 n hn
  refine ⟨(S.placeFor u).toNat, by omega, by omega, ?_⟩
  have e1 : S.run u n = S.lay (S.placeFor u) u (S.parentOf u).1 n := by unfold SS.run; rw [if_pos hm]; rfl
  have hpos : 0 ≤ y.pos := by
    rcases y4 with ⟨e, _⟩ | ⟨_, e, _⟩
    · rw [e]; exact Int.le_refl _
    · omega
  rw [e1]
  unfold SS.units
  have hold : ∀ l : List Sp, (∀ x ∈ l, x ∈ S.spots) → l.map (S.lay (S.placeFor u) u (S.parentOf u).1 n).unit = l.map S.unit := fun l hl => List.map_congr_left fun x hx => y3 x (h.spot_run (hl x hx)).2.1
  have hnew : (spotsFrom y n).map (S.lay (S.placeFor u) u (S.parentOf u).1 n).unit = runUns u n := by
    unfold spotsFrom runUns
    rw [List.map_map]
    exact List.map_congr_left fun j _ => unit_from _ y u y2 hpos j
  rw [y1, List.map_append, List.map_append, hold _ fun x hx => List.mem_of_mem_take hx, hold _ fun x hx => List.mem_of_mem_drop hx, hnew, List.map_take, List.map_drop]
theorem Inv.hasAny_false {S : SS} (h : Inv S) {c k n : Int} (hc : 1 ≤ c) (hk : 0 ≤ k) (hn : 1 ≤ n) (hf : ∀ v ∈ S.units, ¬ (v.c = c ∧ k ≤ v.k ∧ v.k < k + n)) : S.hasAny c k n = false := by
  cases hh : S.hasAny c k n with
  | false => rfl
  | true =>
    exfalso
    unfold SS.hasAny at hh
    obtain ⟨a, b⟩ := of_decide_eq_true hh
    have h1 := h.piece_le c (k + (n - 1)) (by omega) (by omega)
    have hz : S.piece c (k + (n - 1)) ≠ 0 := fun e => by
      rw [e, h.first0] at a
      have : (0 : Int) = c := a
      omega
    have hlt := h.piece_lt c (k + (n - 1))
    generalize S.piece c (k + (n - 1)) = i at *
    have hlen := (h.pcs i (by omega) hlt).2.2.2.1
    -- the last of the ids that the piece has
    obtain ⟨k', hk1, hk2, hk3, hk4⟩ : ∃ k', k ≤ k' ∧ k' < k + n ∧ (S.first i).k ≤ k' ∧ k' < (S.first i).k + S.len i := by
      by_cases hx : k + (n - 1) < (S.first i).k + S.len i
      · exact ⟨k + (n - 1), by omega, by omega, by omega, by omega⟩
      · exact ⟨(S.first i).k + S.len i - 1, by omega, by omega, by omega, by omega⟩
    have he := h.find_eq (i := i) (by omega) hlt (j := k' - (S.first i).k) (by omega) (by omega)
    rw [a, show (S.first i).k + (k' - (S.first i).k) = k' by omega] at he
    have hah := h.ahead_le i
    have hfk := h.firstOk hlt
    obtain ⟨m, hm, _, e1, e2⟩ := h.units_find (c := c) (k := k') (by omega) (by omega) (by rw [he.1]; omega)
    exact hf _ (List.getElem_mem hm) ⟨e1, by omega, by omega⟩
theorem Inv.hasAny_true {S : SS} (h : Inv S) {v : Un} (hv : v ∈ S.units) : S.hasAny v.c v.k 1 = true := by
  have hok := h.units_ok hv
  obtain ⟨m, hm, rfl⟩ := List.mem_iff_getElem.1 hv
  refine (h.hasAny_one hok.1 (by omega)).2 ?_
  rw [h.find_units m hm]; omega
/-- Between neighbours there is one place alone. -/
theorem Inv.between_at {S : SS} (h : Inv S) {u : Un} {p : Nat} (hp : p ≤ S.units.length) (hl0 : p = 0 → u.lc = 0 ∧ u.lk = 0) (hl1 : ∀ q (hq : q < S.units.length), p = q + 1 → S.units[q].c = u.lc ∧ S.units[q].k = u.lk) (hr0 : p = S.units.length → u.rc = 0 ∧ u.rk = 0) (hr1 : ∀ (hq : p < S.units.length), S.units[p].c = u.rc ∧ S.units[p].k = u.rk) : (S.between u).2.2 = true ∧ S.placeFor u = (p : Int) := by
  have hul := h.units_len
  have hleft : S.find u.lc u.lk + 1 = (p : Int) ∧ ((p : Int) = 0 → u.lc = 0 ∧ u.lk = 0) := by
    by_cases h0 : p = 0
    · obtain ⟨e1, e2⟩ := hl0 h0
      have : S.find 0 0 = -1 := h.find_none (by omega) (by omega) fun v hv => by have := h.units_ok hv; omega
      rw [e1, e2, this]
      exact ⟨by omega, fun _ => ⟨rfl, rfl⟩⟩
    · obtain ⟨q, rfl⟩ : ∃ q, p = q + 1 := ⟨p - 1, by omega⟩
      obtain ⟨e1, e2⟩ := hl1 q (by omega) rfl
      have := h.find_units q (by omega)
      rw [e1, e2] at this
      exact ⟨by omega, fun e => by omega⟩
  have hright : S.rightOf u = (p : Int) := by
    unfold SS.rightOf
    by_cases h0 : p = S.units.length
    · rw [if_pos (hr0 h0)]; omega
    · obtain ⟨e1, e2⟩ := hr1 (by omega)
      have hok := h.units_ok (List.getElem_mem (show p < S.units.length by omega))
      have := h.find_units p (by omega)
      rw [e1, e2] at this
      rw [if_neg (by omega), this]
  have hb : S.between u = ((p : Int), (p : Int), true) := by
    unfold SS.between
    rw [hleft.1, hright, if_neg]
    rintro (⟨a, b⟩ | a)
    · exact b (hleft.2 a)
    · omega
  refine ⟨by rw [hb], ?_⟩
  unfold SS.placeFor SS.placeOf
  rw [hb]
  simp only [Int.sub_self]
  show (p : Int) + ((bis _ 0 0 0 : Nat) : Int) = p
  simp [bis]
end Go.Proofs.YtdnhoicfolkbnaaGreat

/- quirelaw9: how great the clocks of grown's units are; a unit between neighbours (no Go in it). -/
namespace Go.Proofs.YtdnhoicfolkbnaaGreat
set_option linter.unusedVariables false
set_option linter.unusedSimpArgs false

theorem grown_k (zs : List Int) : ∀ j, j ≤ zs.length → ∀ v ∈ (grownG (zs.take j)).out, v.k ≤ (zs.length : Int)
  | 0, _, v, hv => by
    have : (grownG (zs.take 0)).out = [] := rfl
    rw [this] at hv
    exact (List.not_mem_nil hv).elim
  | j + 1, h, v, hv => by
    have ih := grown_k zs j (by omega)
    have hG := GInv.take zs j (by omega)
    rw [grownG_take zs j h] at hv
    unfold GS.step at hv
    split at hv
    · rcases List.mem_append.1 hv with hv | hv
      · exact ih v hv
      · simp only [List.mem_singleton] at hv
        subst hv
        have := hG.nx (zs[j] % 4).toNat
        show (grownG (zs.take j)).nx _ ≤ (zs.length : Int)
        omega
    · exact ih v hv
theorem grown_k' (zs : List Int) : ∀ v ∈ (grownG zs).out, v.k ≤ (zs.length : Int) := by
  have := grown_k zs zs.length (Nat.le_refl _)
  rw [List.take_length] at this
  exact this
/-- A unit with the neighbours of a place for its origins. -/
def btU (S : SS) (c k : Int) (p : Nat) : Un := ⟨c, k, (S.at_ ((p : Int) - 1)).1.c, (S.at_ ((p : Int) - 1)).1.k, (S.at_ (p : Int)).1.c, (S.at_ (p : Int)).1.k⟩
theorem at_ok {S : SS} (h : Inv S) (i : Int) : 0 ≤ (S.at_ i).1.c ∧ 0 ≤ (S.at_ i).1.k ∧ (S.at_ i).1.k < 18446744073709551616 := by
  by_cases hm : i < 0 ∨ (S.units.length : Int) ≤ i
  · rw [h.at_none i hm]; exact ⟨Int.le_refl _, Int.le_refl _, by decide⟩
  · obtain ⟨k, rfl⟩ := Int.eq_ofNat_of_zero_le (show 0 ≤ i by omega)
    rw [h.at_units k (by omega)]
    have := h.units_ok (List.getElem_mem (show k < S.units.length by omega))
    exact ⟨by show 0 ≤ S.units[k].c; omega, by show 0 ≤ S.units[k].k; omega, by show S.units[k].k < _; omega⟩
theorem at_no {S : SS} (h : Inv S) (i : Int) (e : (S.at_ i).2 = false) : (S.at_ i).1 = .zero := by
  by_cases hm : i < 0 ∨ (S.units.length : Int) ≤ i
  · rw [h.at_none i hm]
  · obtain ⟨k, rfl⟩ := Int.eq_ofNat_of_zero_le (show 0 ≤ i by omega)
    rw [h.at_units k (by omega)] at e
    cases e
theorem btU_ok {S : SS} (h : Inv S) (c k : Int) (hc : 1 ≤ c) (hk : 1 ≤ k ∧ k ≤ 9007199254740991) (p : Nat) : (btU S c k p).ok := by
  have h1 := at_ok h ((p : Int) - 1)
  have h2 := at_ok h (p : Int)
  exact ⟨by show 0 ≤ c; omega, ⟨by show 0 ≤ k; omega, by show k < _; omega⟩, h1.1, ⟨h1.2.1, h1.2.2⟩, h2.1, ⟨h2.2.1, h2.2.2⟩⟩
theorem btU_between {S : SS} (h : Inv S) (c k : Int) (p : Nat) (hp : p ≤ S.units.length) : (S.between (btU S c k p)).2.2 = true ∧ S.placeFor (btU S c k p) = (p : Int) := by
  refine h.between_at hp ?_ ?_ ?_ ?_
  · intro e
    show (S.at_ ((p : Int) - 1)).1.c = 0 ∧ (S.at_ ((p : Int) - 1)).1.k = 0
    rw [h.at_none _ (by omega)]; exact ⟨rfl, rfl⟩
  · intro q hq e
    show S.units[q].c = (S.at_ ((p : Int) - 1)).1.c ∧ S.units[q].k = (S.at_ ((p : Int) - 1)).1.k
    rw [show (p : Int) - 1 = (q : Int) by omega, h.at_units q hq]
    exact ⟨rfl, rfl⟩
  · intro e
    show (S.at_ (p : Int)).1.c = 0 ∧ (S.at_ (p : Int)).1.k = 0
    rw [h.at_none _ (by omega)]; exact ⟨rfl, rfl⟩
  · intro hq
    show S.units[p].c = (S.at_ (p : Int)).1.c ∧ S.units[p].k = (S.at_ (p : Int)).1.k
    rw [h.at_units p hq]
    exact ⟨rfl, rfl⟩
/-- It may be laid, and stands there. -/
theorem btU_laid {S : SS} (h : Inv S) {m : Nat} (hz : Size S m) (hm : m ≤ 1000) (c k : Int) (hc : 1 ≤ c ∧ c ≤ 1000) (hk : 1 ≤ k ∧ k ≤ 1000000) (p n : Nat) (hp : p ≤ S.units.length) (hn : 1 ≤ n ∧ n ≤ 1000) (hf : ∀ v ∈ S.units, ¬ (v.c = c ∧ k ≤ v.k ∧ v.k < k + (n : Int))) :
    S.may (btU S c k p) n = true ∧ Inv (S.run (btU S c k p) n) ∧ (S.run (btU S c k p) n).units = S.units.take p ++ runUns (btU S c k p) n ++ S.units.drop p := by
  have hu := btU_ok h c k hc.1 ⟨hk.1, by omega⟩ p
  obtain ⟨b1, b2⟩ := btU_between h c k p hp
  have h1 := hz.tot
  have h2 := hz.pcs
  have h3 := hz.runs
  have hmay : S.may (btU S c k p) n = true := by
    refine may_iff.2 ⟨⟨?_, ?_⟩, by omega, ?_, ?_, b1⟩
    · show numOk c = true
      simp [numOk]; omega
    · show numOk k = true
      simp [numOk]; omega
    · show (n : Int) - 1 ≤ 9007199254740991 - k
      omega
    · exact h.hasAny_false (c := c) (k := k) (n := (n : Int)) (by omega) (by omega) (by omega) hf
  obtain ⟨r1, _⟩ := h.runI (u := btU S c k p) (n := (n : Int)) hu (fun _ => by omega) (by omega) (by omega)
  obtain ⟨q, hq, e, eu⟩ := h.run_unitsN hu hn.1 hmay (by omega)
  have : q = p := by omega
  subst this
  exact ⟨hmay, r1, eu⟩
/-- Where it, and the others of its run, are found. -/
theorem find_run {T : SS} (h : Inv T) {A B : List Un} {u : Un} {n : Nat} (e : T.units = A ++ runUns u n ++ B) (j : Nat) (hj : j < n) : T.find u.c (u.k + (j : Int)) = ((A.length + j : Nat) : Int) := by
  have hl : A.length + j < T.units.length := by rw [e]; simp [runUns_len]; omega
  have hx : T.units[A.length + j] = runUn u j := by
    have : T.units[A.length + j]? = some (runUn u j) := by
      rw [e, List.append_assoc, List.getElem?_append_right (by omega), List.getElem?_append_left (by rw [runUns_len]; omega)]
      rw [List.getElem?_eq_getElem (by rw [runUns_len]; omega), runUns_get]
      congr 2
      omega
    rw [List.getElem?_eq_getElem hl] at this
    exact Option.some.inj this
  have := h.find_units _ hl
  rw [hx, (runUn_c u j).1, (runUn_c u j).2.1] at this
  exact this
end Go.Proofs.YtdnhoicfolkbnaaGreat

/- quirelaw9.SeqCopies: two sequences and a copy, side by side; what the copy becomes. -/
namespace Go.Proofs.YtdnhoicfolkbnaaGreat
open Go.RowKit
set_option linter.unusedVariables false
set_option linter.unusedSimpArgs false

/-- Two sequences, and units. -/
def Two (w W : World) (pa pb : Nat) (Sa Sb : SS) (v : Value) (us : List Un) : Prop := ∃ A B, Sq1 w W pa A Sa ∧ Sq1 w W pb B Sb ∧ ApartB A B ∧ NewV w W v us
theorem Two.touch {w W W' : World} {pa pb : Nat} {Sa Sb : SS} {v : Value} {us : List Un} (h : Two w W pa pb Sa Sb v us) (t : Touch (fun _ => False) W W') : Two w W' pa pb Sa Sb v us := by
  obtain ⟨A, B, a, b, c, d⟩ := h
  exact ⟨A, B, a.touch t, b.touch t, c, d.on t⟩
theorem Two.swap {w W : World} {pa pb : Nat} {Sa Sb : SS} {v : Value} {us : List Un} (h : Two w W pa pb Sa Sb v us) : Two w W pb pa Sb Sa v us := by
  obtain ⟨A, B, a, b, c, d⟩ := h
  exact ⟨B, A, b, a, c.symm, d⟩
theorem Two.touch0 {w W : World} {pa pb : Nat} {Sa Sb : SS} {v : Value} {us : List Un} (h : Two w W pa pb Sa Sb v us) : Touch (fun _ => False) w W := by
  obtain ⟨A, B, a, b, c, d⟩ := h
  exact d.touch
theorem Two.ins {w W : World} {pa pb : Nat} {Sa Sb : SS} {v : Value} {us : List Un} (h : Two w W pa pb Sa Sb v us) (u : Un) (hu : u.ok) {n : Nat} (hz : Size Sa n) (hn : n ≤ 1000000) :
    Calls Tryz.prog 32 #[.pointer (some ⟨pa, 0, none⟩), .agg #[.int .u64 u.c, .int .u64 u.k, .int .u64 u.lc, .int .u64 u.lk, .int .u64 u.rc, .int .u64 u.rk]] W fun e w' => e = .returned (.bool (Sa.may u 1)) ∧ Two w w' pa pb (Sa.run u 1) Sb v us := by
  obtain ⟨A, B, a, b, c, d⟩ := h
  refine (a.ins u hu hz hn).mono ?_
  rintro e w' ⟨rfl, A', h1, h2, t⟩
  exact ⟨rfl, A', B, h1, b.other t c.symm, (b.apart c.symm h2).symm, d.onB a t⟩
/-- Three sequences. -/
def Tri (w W : World) (pa pb pc : Nat) (Sa Sb Sc : SS) : Prop := Touch (fun _ => False) w W ∧ ∃ A B C, Sq1 w W pa A Sa ∧ Sq1 w W pb B Sb ∧ Sq1 w W pc C Sc ∧ ApartB A C ∧ ApartB B C
theorem Tri.touch {w W W' : World} {pa pb pc : Nat} {Sa Sb Sc : SS} (h : Tri w W pa pb pc Sa Sb Sc) (t : Touch (fun _ => False) W W') : Tri w W' pa pb pc Sa Sb Sc := by
  obtain ⟨t0, A, B, C, a, b, c, d, e⟩ := h
  exact ⟨t0.trans t, A, B, C, a.touch t, b.touch t, c.touch t, d, e⟩
theorem Tri.ins {w W : World} {pa pb pc : Nat} {Sa Sb Sc : SS} (h : Tri w W pa pb pc Sa Sb Sc) (u : Un) (hu : u.ok) {n : Nat} (hz : Size Sc n) (hn : n ≤ 1000000) :
    Calls Tryz.prog 32 #[.pointer (some ⟨pc, 0, none⟩), .agg #[.int .u64 u.c, .int .u64 u.k, .int .u64 u.lc, .int .u64 u.lk, .int .u64 u.rc, .int .u64 u.rk]] W fun e w' => e = .returned (.bool (Sc.may u 1)) ∧ Tri w w' pa pb pc Sa Sb (Sc.run u 1) := by
  obtain ⟨t0, A, B, C, a, b, c, d, e⟩ := h
  refine (c.ins u hu hz hn).mono ?_
  rintro e' w' ⟨rfl, C', h1, h2, t⟩
  exact ⟨rfl, c.touch0 t0 t, A, B, C', a.other t d, b.other t e, h1, a.apart d h2, b.apart e h2⟩
/-- What the copy of A is behind i insertions. -/
structure CpI (A C : SS) (n i : Nat) : Prop where
  inv : Inv C
  size : Size C (n + i)
  ids : ∀ v ∈ C.units, v.c ≤ 4 ∨ (v.c = 50 ∧ v.k ≤ (i : Int))
  has : ∀ v ∈ A.units, v ∈ C.units
  len : C.units.length = A.units.length + i
theorem CpI.zero {A : SS} {n : Nat} (h : Inv A) (hz : Size A n) (hi : ∀ v ∈ A.units, v.c ≤ 4) : CpI A A n 0 := ⟨h, hz, fun v hv => .inl (hi v hv), fun v hv => hv, rfl⟩
def cpU (C : SS) (i : Nat) (m : Int) : Un := ⟨50, (i : Int) + 1, (C.at_ m).1.c, (C.at_ m).1.k, 0, 0⟩
theorem at_zero {C : SS} (h : Inv C) (m : Int) : C.at_ m = (.zero, false) ∨ ∃ v ∈ C.units, C.at_ m = (v, true) := by
  by_cases hm : m < 0 ∨ (C.units.length : Int) ≤ m
  · exact .inl (h.at_none m hm)
  · obtain ⟨k, rfl⟩ := Int.eq_ofNat_of_zero_le (show 0 ≤ m by omega)
    exact .inr ⟨_, List.getElem_mem (show k < C.units.length by omega), h.at_units k (by omega)⟩
theorem CpI.uok {A C : SS} {n i : Nat} (h : CpI A C n i) (m : Int) (hi : i ≤ 1000) : (cpU C i m).ok := by
  have key : 0 ≤ (C.at_ m).1.c ∧ 0 ≤ (C.at_ m).1.k ∧ (C.at_ m).1.k < 18446744073709551616 := by
    rcases at_zero h.inv m with e | ⟨v, hv, e⟩
    · rw [e]; exact ⟨Int.le_refl _, Int.le_refl _, by decide⟩
    · rw [e]
      have := h.inv.units_ok hv
      exact ⟨by show 0 ≤ v.c; omega, by show 0 ≤ v.k; omega, by show v.k < _; omega⟩
  exact ⟨by show (0 : Int) ≤ 50; omega, ⟨by show 0 ≤ (i : Int) + 1; omega, by show (i : Int) + 1 < _; omega⟩, key.1, ⟨key.2.1, key.2.2⟩, Int.le_refl _, ⟨Int.le_refl _, by show (0 : Int) < _; omega⟩⟩
theorem CpI.step {A C : SS} {n i : Nat} (h : CpI A C n i) (m : Int) (hn : n ≤ 1000) (hi : i ≤ 1000) : C.may (cpU C i m) 1 = true ∧ CpI A (C.run (cpU C i m) 1) n (i + 1) := by
  have hu := h.uok m hi
  have hm : C.may (cpU C i m) 1 = true := by
    refine h.inv.may_new (by show numOk 50 = true; decide) ?_ ?_ ⟨rfl, rfl⟩ ?_
    · show numOk ((i : Int) + 1) = true
      simp [numOk]; omega
    · intro v hv
      rintro ⟨e1, e2⟩
      have e1' : v.c = 50 := e1
      have e2' : v.k = (i : Int) + 1 := e2
      rcases h.ids v hv with e | e <;> omega
    · rcases at_zero h.inv m with e | ⟨v, hv, e⟩
      · left
        show (C.at_ m).1.c = 0 ∧ (C.at_ m).1.k = 0
        rw [e]; exact ⟨rfl, rfl⟩
      · right
        refine ⟨v, hv, ?_⟩
        show v.c = (C.at_ m).1.c ∧ v.k = (C.at_ m).1.k
        rw [e]; exact ⟨rfl, rfl⟩
  obtain ⟨a, b⟩ := h.inv.run1 hu h.size (by omega)
  obtain ⟨p, hp, _, e⟩ := h.inv.run_units hu hm (h.size.room (by omega) 1 (by omega))
  refine ⟨hm, a, by rw [Nat.add_assoc] at b; exact b, fun v hv => ?_, fun v hv => ?_, ?_⟩
  · rw [e] at hv
    have key : v ∈ C.units → v.c ≤ 4 ∨ (v.c = 50 ∧ v.k ≤ ((i + 1 : Nat) : Int)) := fun hv => by
      rcases h.ids v hv with e | e
      · exact .inl e
      · exact .inr ⟨e.1, by omega⟩
    rcases List.mem_append.1 hv with hv | hv
    · exact key (List.mem_of_mem_take hv)
    · rcases List.mem_cons.1 hv with rfl | hv
      · exact .inr ⟨rfl, by show (i : Int) + 1 ≤ _; omega⟩
      · exact key (List.mem_of_mem_drop hv)
  · have hc := h.has v hv
    rw [← List.take_append_drop p C.units] at hc
    rw [e]
    rcases List.mem_append.1 hc with hc | hc
    · exact List.mem_append_left _ hc
    · exact List.mem_append_right _ (List.mem_cons_of_mem _ hc)
  · rw [e]
    have h1 : (C.units.take p).length = p := by rw [List.length_take]; omega
    have h2 : (C.units.drop p).length = C.units.length - p := List.length_drop
    have h3 := h.len
    rw [List.length_append, List.length_cons, h1, h2]
    omega
theorem CpI.find {A C : SS} {n i : Nat} (h : CpI A C n i) {v : Un} (hv : v ∈ A.units) : 0 ≤ C.find v.c v.k := by
  obtain ⟨m, hm, rfl⟩ := List.mem_iff_getElem.1 (h.has v hv)
  rw [h.inv.find_units m hm]; omega
end Go.Proofs.YtdnhoicfolkbnaaGreat
