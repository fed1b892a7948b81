/- Package seq against the document's tree, mathematics alone: a unit that is inserted in both leaves both alike. -/
import Derived.Test.YtdnhoicfolkbnaaGreatPart33
import Derived.Test.YtdnhoicfolkbnaaGreatPart17
namespace Go.Proofs.YtdnhoicfolkbnaaGreat
set_option linter.unusedVariables false
set_option linter.unusedSimpArgs false

theorem RInv.ups_le {r : RS} (hI : RInv r) (t : Nat) : ∀ (f : Nat) (up : Int), up < (r.l.length : Int) → r.ups (t : Int) f up = true → (t : Int) ≤ up
  | 0, up, _, e => by simp [RS.ups] at e
  | f + 1, up, hup, e => by
    unfold RS.ups at e
    by_cases hn : up < 0
    · rw [if_pos hn] at e; cases e
    · rw [if_neg hn, Bool.or_eq_true, beq_iff_eq] at e
      rcases e with e | e
      · omega
      · obtain ⟨x, hx⟩ := Int.eq_ofNat_of_zero_le (show 0 ≤ up by omega)
        subst hx
        rw [Int.toNat_natCast] at e
        have := hI.up x (by omega)
        have := hI.ups_le t f _ (by omega) e
        omega
/-- A unit whose Right its Left has, too, and is older than: a right child. -/
theorem ROk.notL {r : RS} (h : ROk r) (h0 : r.find 0 0 = -1) {u : Un} {t : Nat} (ht : t < r.l.length) (hl : r.find u.lc u.lk = (t : Int)) (hrc : (r.nd t).u.rc = u.rc) (hrk : (r.nd t).u.rk = u.rk) : r.isL u = false := by
  cases hL : r.isL u with
  | false => rfl
  | true =>
    unfold RS.isL at hL
    simp only [Bool.and_eq_true, Bool.or_eq_true, decide_eq_true_eq] at hL
    obtain ⟨h1, h2⟩ := hL
    obtain ⟨q, hq⟩ := Int.eq_ofNat_of_zero_le h1
    obtain ⟨f0, f1, f2⟩ := RS.find_id hq
    rcases h2 with h2 | h2
    · rw [h2.1, h2.2, h0] at hl; omega
    · rw [hl, hq, Int.toNat_natCast] at h2
      have hup := h.inv.up q f0
      have := h.inv.ups_le t _ _ (by omega) h2
      rcases h.orgR t ht with e | ⟨y, hy, e1, e2⟩
      · rw [hrc, hrk] at e
        rw [e.1, e.2, h0] at hq; omega
      · have : y = q := h.uniq y q (by omega) f0 (by omega) (by omega)
        omega
section
variable {S : SS} {r : RS} {sp : Nat → Sp}
/-- One unit more in both. -/
theorem Corr.step (h : Corr S r sp) {u : Un} (hu : u.ok) (hm : MayR r u) {n : Nat} (hz : Size S n) (hn : n ≤ 1000000) : ∃ sp', Corr (S.run u 1) (r.laid u) sp' ∧ ∀ x, x < r.l.length → sp' x = sp x := by
  have hmay : S.may u 1 = true := by rw [h.may hu]; exact may_r.2 hm
  have hI' := h.inv.run1 hu hz hn
  obtain ⟨⟨a, b⟩, c, d, e, f⟩ := may_iff.1 hmay
  have hnc : 1 ≤ u.c ∧ u.c ≤ 9007199254740991 := by simpa [numOk] using a
  obtain ⟨p0, p1⟩ := h.inv.placeLe hu f
  have hrp := hz.pcs
  obtain ⟨A, B, eo, es, ep⟩ := h.place hu hm
  obtain ⟨y, y1, y2, y3, y4⟩ := h.inv.lay_spots (S.placeFor u) p0 p1 (by omega) u hnc.1 (S.parentOf u).1 1 (Nat.le_refl _)
  have e1 : S.run u 1 = S.lay (S.placeFor u) u (S.parentOf u).1 (1 : Nat) := by unfold SS.run; rw [if_pos hmay]; rfl
  rw [← e1] at y1 y2 y3 y4
  have L := laid1 r u
  have hD : Down S.runs := h.inv.down
  have hpar := h.parentOf hD hm
  have f0 := h.find0
  have hs1 : spotsFrom y 1 = [y] := by unfold spotsFrom; simp
  have hlt : ∀ x ∈ A ++ B, x < r.l.length := fun x hx => h.ok.inv.lt x (by rw [eo]; exact hx)
  have hbl := RS.find_lt (r := r) u.lc u.lk
  have hbr := RS.find_lt (r := r) u.rc u.rk
  have hpb : -1 ≤ (r.node u).par ∧ (r.node u).par < (r.l.length : Int) := by
    show -1 ≤ (if r.isL u then _ else _) ∧ (if r.isL u then _ else _) < _
    split
    · exact hbr
    · exact hbl
  -- old spots are as they were
  have hparO : ∀ x, x < r.l.length → parS (S.run u 1).runs (sp x) = parS S.runs (sp x) := fun x hx => by
    rcases y4 with ⟨_, q⟩ | ⟨_, _, _, _, q⟩
    · rw [q, parS_more _ _ _ (h.spV x hx).1.1]
    · rw [q]
  -- the new one's
  have hparN : parS (S.run u 1).runs y = spI sp (r.node u).par := by
    rcases y4 with ⟨q1, q⟩ | ⟨q1, q2, q3, q4, q⟩
    · rw [q, q1]
      unfold parS
      rw [if_pos rfl, rn_snoc, if_neg (Nat.lt_irrefl _), if_pos rfl, hpar]
    · have hpp : parS (S.run u 1).runs y = ⟨y.run, y.pos - 1⟩ := by unfold parS; rw [if_neg (by omega)]
      rw [hpp]
      rw [h.spots, List.getElem?_map] at q4
      cases ht : r.order[(S.placeFor u).toNat - 1]? with
      | none => rw [ht] at q4; cases q4
      | some t =>
        rw [ht] at q4
        have q5 : sp t = ⟨y.run, y.pos - 1⟩ := by simpa using q4
        have htl : t < r.l.length := h.ok.inv.lt t (List.mem_of_getElem? ht)
        have hut := h.unit t htl
        have huy : S.unit y = u := by rw [← y2]; exact (y3 y q1).symm
        have hv := (h.spV t htl).1
        rw [q5] at hut hv
        have hv2 : 0 ≤ y.pos - 1 := hv.2.1
        have k1 : u.lc = (r.nd t).u.c ∧ u.lk = (r.nd t).u.k ∧ u.rc = (r.nd t).u.rc ∧ u.rk = (r.nd t).u.rk := by
          rw [← hut, ← huy]
          unfold SS.unit unitR
          rw [if_neg (show ¬ y.pos = 0 by omega)]
          by_cases hz0 : y.pos - 1 = 0
          · simp only [hz0, if_true]
            refine ⟨trivial, ?_, trivial, trivial⟩
            show (rn S.runs y.run).first.k + y.pos - 1 = (rn S.runs y.run).first.k
            omega
          · rw [if_neg (show ¬ ((⟨y.run, y.pos - 1⟩ : Sp).pos = 0) from hz0)]
            refine ⟨rfl, ?_, rfl, rfl⟩
            show (rn S.runs y.run).first.k + y.pos - 1 = (rn S.runs y.run).first.k + (y.pos - 1)
            omega
        have hfl : r.find u.lc u.lk = (t : Int) := by rw [k1.1, k1.2.1]; exact h.find_node htl
        have hL := h.ok.notL f0 htl hfl k1.2.2.1.symm k1.2.2.2.symm
        have : (r.node u).par = (t : Int) := by
          show (if r.isL u then _ else _) = _
          rw [hL]; exact hfl
        rw [this, ← q5]
        unfold spI
        rw [if_neg (by omega), Int.toNat_natCast]
  refine ⟨fun x => if x = r.l.length then y else sp x, ⟨hI'.1, h.ok.laid hm, ?_, ?_, ?_, ?_, ?_⟩, fun x hx => if_neg (by omega)⟩
  · rcases y4 with ⟨_, q⟩ | ⟨_, _, _, _, q⟩
    · rw [q]
      refine h.runs.add u ?_
      rw [hpar]
      show SpV S.runs (spI sp (r.node u).par)
      unfold spI
      split
      · exact h.zeroV
      · exact (h.spV _ (by omega)).1
    · rw [q]; exact h.runs
  · have hmA : ∀ l : List Nat, (∀ x ∈ l, x < r.l.length) → l.map (fun x => if x = r.l.length then y else sp x) = l.map sp := fun l hl => List.map_congr_left fun x hx => if_neg (by have := hl x hx; omega)
    rw [y1, es, hs1, h.spots, eo, ep, Int.toNat_natCast, List.map_append, List.map_append, List.map_cons, hmA A fun x hx => hlt x (List.mem_append_left _ hx), hmA B fun x hx => hlt x (List.mem_append_right _ hx), if_pos rfl, List.take_left' (List.length_map _), List.drop_left' (List.length_map _), List.append_assoc]
    rfl
  · intro x hx
    rw [L.len] at hx
    by_cases hxe : x = r.l.length
    · subst hxe
      rw [if_pos rfl, y2, L.me]; rfl
    · rw [if_neg hxe, y3 _ (h.spV x (by omega)).1.1, (L.old x (by omega)).1]
      exact h.unit x (by omega)
  · intro x hx hp
    rw [L.len] at hx
    by_cases hxe : x = r.l.length
    · subst hxe
      rw [L.me] at hp
      rw [if_pos rfl, hparN, hp]; rfl
    · rw [(L.old x (by omega)).2] at hp
      rw [if_neg hxe, hparO x (by omega)]
      exact h.par0 x (by omega) hp
  · intro x p hx hp
    rw [L.len] at hx
    by_cases hxe : x = r.l.length
    · subst hxe
      rw [L.me] at hp
      rw [if_pos rfl, hparN, hp, if_neg (by omega)]
      unfold spI
      rw [if_neg (by omega), Int.toNat_natCast]
    · rw [(L.old x (by omega)).2] at hp
      have := h.ok.inv.up x (by omega)
      rw [if_neg hxe, hparO x (by omega), if_neg (by omega)]
      exact h.par x p (by omega) hp
/-- An Insert in both. -/
theorem Corr.insert (h : Corr S r sp) {u : Un} (hu : u.ok) {n : Nat} (hz : Size S n) (hn : n ≤ 1000000) : S.may u 1 = r.may u ∧ ∃ sp', Corr (S.run u 1) (r.insert u) sp' := by
  refine ⟨h.may hu, ?_⟩
  unfold RS.insert
  cases hm : r.may u with
  | false => rw [run_no (by rw [h.may hu]; exact hm)]; exact ⟨sp, h⟩
  | true =>
    obtain ⟨sp', h', _⟩ := h.step hu (may_r.1 hm) hz hn
    exact ⟨sp', h'⟩
end
/-- The document's tree of units inserted one after the other. -/
def treeOf (us : List Un) : RS := us.foldl (fun r u => r.insert u) .zero
theorem treeOf_take (us : List Un) (j : Nat) (hj : j < us.length) : treeOf (us.take (j + 1)) = (treeOf (us.take j)).insert us[j] := by
  unfold treeOf
  rw [List.take_succ_eq_append_getElem hj, List.foldl_append]; rfl
theorem seqOf_corr (us : List Un) (hu : ∀ u ∈ us, u.ok) (hl : us.length ≤ 1000000) : ∀ j, j ≤ us.length → ∃ sp, Corr (seqOf (us.take j)) (treeOf (us.take j)) sp
  | 0, _ => ⟨_, Corr.new⟩
  | j + 1, hj => by
    obtain ⟨sp, h⟩ := seqOf_corr us hu hl j (by omega)
    rw [seqOf_take us j hj, treeOf_take us j hj]
    exact (h.insert (hu _ (List.getElem_mem _)) (seqOf_inv us hu hl j (by omega)).2 (by omega)).2
end Go.Proofs.YtdnhoicfolkbnaaGreat

/- Package seq: units that are laid between neighbours, and runs of units (no Go in it). -/
namespace Go.Proofs.YtdnhoicfolkbnaaGreat
set_option linter.unusedVariables false
set_option linter.unusedSimpArgs false

/-- The j-th of a run's units. -/
def runUn (u : Un) (j : Nat) : Un := if j = 0 then u else ⟨u.c, u.k + (j : Int), u.c, u.k + (j : Int) - 1, u.rc, u.rk⟩
def runUns (u : Un) (n : Nat) : List Un := (List.range n).map (runUn u)
theorem runUns_len (u : Un) (n : Nat) : (runUns u n).length = n := by simp [runUns]
theorem runUns_get (u : Un) (n j : Nat) (h : j < (runUns u n).length) : (runUns u n)[j] = runUn u j := by simp [runUns]
theorem runUns_succ (u : Un) (n : Nat) : runUns u (n + 1) = runUns u n ++ [runUn u n] := by simp [runUns, List.range_succ]
theorem runUn_c (u : Un) (j : Nat) : (runUn u j).c = u.c ∧ (runUn u j).k = u.k + (j : Int) ∧ (runUn u j).rc = u.rc ∧ (runUn u j).rk = u.rk := by
  unfold runUn
  split
  · next h => subst h; exact ⟨rfl, by simp, rfl, rfl⟩
  · exact ⟨rfl, rfl, rfl, rfl⟩
theorem unit_from (S : SS) (y : Sp) (u : Un) (hy : S.unit y = u) (h0 : 0 ≤ y.pos) (j : Nat) : S.unit ⟨y.run, y.pos + (j : Int)⟩ = runUn u j := by
  by_cases hj : j = 0
  · subst hj
    unfold runUn
    rw [if_pos rfl, ← hy]
    congr 1
    simp
  · unfold runUn
    rw [if_neg hj, ← hy]
    have e1 : (S.unit y).c = (rn S.runs y.run).first.c := SS.unit_c S y
    have e2 : (S.unit y).k = (rn S.runs y.run).first.k + y.pos := SS.unit_k S y
    have e3 : (S.unit y).rc = (rn S.runs y.run).first.rc ∧ (S.unit y).rk = (rn S.runs y.run).first.rk := unitR_r S.runs y
    rw [e1, e2, e3.1, e3.2]
    unfold SS.unit unitR
    rw [if_neg (by show ¬ y.pos + (j : Int) = 0; omega)]
    have e : (rn S.runs y.run).first.k + (y.pos + (j : Int)) = (rn S.runs y.run).first.k + y.pos + (j : Int) := by omega
    simp only [e]
theorem Inv.run_unitsN {S : SS} (h : Inv S) {u : Un} (hu : u.ok) {n : Nat} (hn : 1 ≤ n) (hm : S.may u n = true) (hp : S.pcs.length + 1 ≤ 1073741824) : ∃ p : Nat, p ≤ S.units.length ∧ (p : Int) = S.placeFor u ∧ (S.run u n).units = S.units.take p ++ runUns u n ++ S.units.drop p := by
  obtain ⟨⟨a, b⟩, c, d, e, f⟩ := may_iff.1 hm
  have hnc : 1 ≤ u.c ∧ u.c ≤ 9007199254740991 := by simpa [numOk] using a
  obtain ⟨p0, p1⟩ := h.placeLe hu f
  have hl := h.units_len
  obtain ⟨y, y1, y2, y3, y4⟩ := h.lay_spots (S.placeFor u) p0 p1 hp u hnc.1 (S.parentOf u).1 n hn
  refine ⟨(S.placeFor u).toNat, by omega, by omega, ?_⟩
  have e1 : S.run u n = S.lay (S.placeFor u) u (S.parentOf u).1 n := by unfold SS.run; rw [if_pos hm]; rfl
  have hpos : 0 ≤ y.pos := by
    rcases y4 with ⟨e, _⟩ | ⟨_, e, _⟩
    · rw [e]; exact Int.le_refl _
    · omega
  rw [e1]
  unfold SS.units
  have hold : ∀ l : List Sp, (∀ x ∈ l, x ∈ S.spots) → l.map (S.lay (S.placeFor u) u (S.parentOf u).1 n).unit = l.map S.unit := fun l hl => List.map_congr_left fun x hx => y3 x (h.spot_run (hl x hx)).2.1
  have hnew : (spotsFrom y n).map (S.lay (S.placeFor u) u (S.parentOf u).1 n).unit = runUns u n := by
    unfold spotsFrom runUns
    rw [List.map_map]
    exact List.map_congr_left fun j _ => unit_from _ y u y2 hpos j
  rw [y1, List.map_append, List.map_append, hold _ fun x hx => List.mem_of_mem_take hx, hold _ fun x hx => List.mem_of_mem_drop hx, hnew, List.map_take, List.map_drop]
theorem Inv.hasAny_false {S : SS} (h : Inv S) {c k n : Int} (hc : 1 ≤ c) (hk : 0 ≤ k) (hn : 1 ≤ n) (hf : ∀ v ∈ S.units, ¬ (v.c = c ∧ k ≤ v.k ∧ v.k < k + n)) : S.hasAny c k n = false := by
  cases hh : S.hasAny c k n with
  | false => rfl
  | true =>
    exfalso
    unfold SS.hasAny at hh
    obtain ⟨a, b⟩ := of_decide_eq_true hh
    have h1 := h.piece_le c (k + (n - 1)) (by omega) (by omega)
    have hz : S.piece c (k + (n - 1)) ≠ 0 := fun e => by
      rw [e, h.first0] at a
      have : (0 : Int) = c := a
      omega
    have hlt := h.piece_lt c (k + (n - 1))
    generalize S.piece c (k + (n - 1)) = i at *
    have hlen := (h.pcs i (by omega) hlt).2.2.2.1
    -- the last of the ids that the piece has
    obtain ⟨k', hk1, hk2, hk3, hk4⟩ : ∃ k', k ≤ k' ∧ k' < k + n ∧ (S.first i).k ≤ k' ∧ k' < (S.first i).k + S.len i := by
      by_cases hx : k + (n - 1) < (S.first i).k + S.len i
      · exact ⟨k + (n - 1), by omega, by omega, by omega, by omega⟩
      · exact ⟨(S.first i).k + S.len i - 1, by omega, by omega, by omega, by omega⟩
    have he := h.find_eq (i := i) (by omega) hlt (j := k' - (S.first i).k) (by omega) (by omega)
    rw [a, show (S.first i).k + (k' - (S.first i).k) = k' by omega] at he
    have hah := h.ahead_le i
    have hfk := h.firstOk hlt
    obtain ⟨m, hm, _, e1, e2⟩ := h.units_find (c := c) (k := k') (by omega) (by omega) (by rw [he.1]; omega)
    exact hf _ (List.getElem_mem hm) ⟨e1, by omega, by omega⟩
theorem Inv.hasAny_true {S : SS} (h : Inv S) {v : Un} (hv : v ∈ S.units) : S.hasAny v.c v.k 1 = true := by
  have hok := h.units_ok hv
  obtain ⟨m, hm, rfl⟩ := List.mem_iff_getElem.1 hv
  refine (h.hasAny_one hok.1 (by omega)).2 ?_
  rw [h.find_units m hm]; omega
/-- Between neighbours there is one place alone. -/
theorem Inv.between_at {S : SS} (h : Inv S) {u : Un} {p : Nat} (hp : p ≤ S.units.length) (hl0 : p = 0 → u.lc = 0 ∧ u.lk = 0) (hl1 : ∀ q (hq : q < S.units.length), p = q + 1 → S.units[q].c = u.lc ∧ S.units[q].k = u.lk) (hr0 : p = S.units.length → u.rc = 0 ∧ u.rk = 0) (hr1 : ∀ (hq : p < S.units.length), S.units[p].c = u.rc ∧ S.units[p].k = u.rk) : (S.between u).2.2 = true ∧ S.placeFor u = (p : Int) := by
  have hul := h.units_len
  have hleft : S.find u.lc u.lk + 1 = (p : Int) ∧ ((p : Int) = 0 → u.lc = 0 ∧ u.lk = 0) := by
    by_cases h0 : p = 0
    · obtain ⟨e1, e2⟩ := hl0 h0
      have : S.find 0 0 = -1 := h.find_none (by omega) (by omega) fun v hv => by have := h.units_ok hv; omega
      rw [e1, e2, this]
      exact ⟨by omega, fun _ => ⟨rfl, rfl⟩⟩
    · obtain ⟨q, rfl⟩ : ∃ q, p = q + 1 := ⟨p - 1, by omega⟩
      obtain ⟨e1, e2⟩ := hl1 q (by omega) rfl
      have := h.find_units q (by omega)
      rw [e1, e2] at this
      exact ⟨by omega, fun e => by omega⟩
  have hright : S.rightOf u = (p : Int) := by
    unfold SS.rightOf
    by_cases h0 : p = S.units.length
    · rw [if_pos (hr0 h0)]; omega
    · obtain ⟨e1, e2⟩ := hr1 (by omega)
      have hok := h.units_ok (List.getElem_mem (show p < S.units.length by omega))
      have := h.find_units p (by omega)
      rw [e1, e2] at this
      rw [if_neg (by omega), this]
  have hb : S.between u = ((p : Int), (p : Int), true) := by
    unfold SS.between
    rw [hleft.1, hright, if_neg]
    rintro (⟨a, b⟩ | a)
    · exact b (hleft.2 a)
    · omega
  refine ⟨by rw [hb], ?_⟩
  unfold SS.placeFor SS.placeOf
  rw [hb]
  simp only [Int.sub_self]
  show (p : Int) + ((bis _ 0 0 0 : Nat) : Int) = p
  simp [bis]
end Go.Proofs.YtdnhoicfolkbnaaGreat
