/- Package seq: what a run that is laid does to the list of spots (no Go in it). -/
import Derived.Test.YtnbphdmpbjahhaaPart18
import Derived.Test.YtnbphdmpbjahhaaSeqW6
namespace Go.Proofs.Ytnbphdmpbjahhaa
set_option linter.unusedVariables false
set_option linter.unusedSimpArgs false

theorem pcSp_eq {S T : SS} {i : Nat} (h1 : T.pc i = S.pc i) (h2 : T.len i = S.len i) : T.pcSp i = S.pcSp i := by unfold SS.pcSp; rw [h1, h2]
theorem flat_eq {S T : SS} {l : List Nat} (h : ∀ i ∈ l, T.pcSp i = S.pcSp i) : l.flatMap T.pcSp = l.flatMap S.pcSp := by
  induction l with
  | nil => rfl
  | cons i l ih => rw [List.flatMap_cons, List.flatMap_cons, h i (by simp), ih fun x hx => h x (List.mem_cons_of_mem _ hx)]
/-- Behind a cut the units stand as they stood, and a piece ends at the place. -/
theorem Inv.cut_spots {S : SS} (h : Inv S) (p : Int) (h0 : 0 ≤ p) (h1 : p ≤ S.total) : (S.cut p).spots = S.spots ∧ ∃ A B, (S.cut p).ord = A ++ B ∧ A.getLastD 0 = S.cutAt p ∧ A.flatMap (S.cut p).pcSp = S.spots.take p.toNat ∧ B.flatMap (S.cut p).pcSp = S.spots.drop p.toNat := by
  suffices hh : (S.cut p).spots = S.spots ∧ ∃ A B, (S.cut p).ord = A ++ B ∧ A.getLastD 0 = S.cutAt p ∧ (A.flatMap (S.cut p).pcSp).length = p.toNat by
    obtain ⟨e, A, B, e1, e2, e3⟩ := hh
    refine ⟨e, A, B, e1, e2, ?_, ?_⟩
    · rw [← e]; unfold SS.spots; rw [e1, List.flatMap_append, ← e3, List.take_left]
    · rw [← e]; unfold SS.spots; rw [e1, List.flatMap_append, ← e3, List.drop_left]
  by_cases hp : p = 0
  · subst hp
    have ea : S.cutAt 0 = 0 := by unfold SS.cutAt; rw [atF_neg (by omega)]
    have er : S.restAt 0 = -1 := by unfold SS.restAt; rw [ea, atF_neg (by omega), h.ordF.zero]; rfl
    have ec : S.cut 0 = S := by unfold SS.cut; rw [er, if_neg (by omega)]
    rw [ec, ea]
    exact ⟨rfl, [], S.ord, rfl, rfl, rfl⟩
  · obtain ⟨a1, a2, a3, a4⟩ := atF_ahead h.ordF.long S.ord (p - 1) h.ordF.nod (by omega) (by show p - 1 < S.total; omega)
    have hrd : S.restAt p = S.len (S.cutAt p) - (atF S.len S.ord (p - 1)).2 - 1 := rfl
    have hlab := (h.ordF.lab _).1 a1
    have ecut : S.cutAt p = (atF S.len S.ord (p - 1)).1 := rfl
    rw [← ecut] at a1 a3 a4 hlab
    obtain ⟨A0, B0, hAB⟩ := List.append_of_mem a1
    have hnod := h.ordF.nod
    rw [hAB] at hnod
    have hnA : S.cutAt p ∉ A0 := fun hx => (List.nodup_append.1 hnod).2.2 _ hx _ (by simp) rfl
    have hnB : S.cutAt p ∉ B0 := (List.nodup_cons.1 (List.nodup_append.1 hnod).2.1).1
    have ha : aheadF S.len S.ord (S.cutAt p) = sumF S.len A0 := by rw [hAB]; exact aheadF_of hnA
    have hfl := flat_sum S h.ordF.long A0
    rw [ha] at a4
    have hlA : (A0 ++ [S.cutAt p]).getLastD 0 = S.cutAt p := getLastD_mid A0 [] (S.cutAt p) 0
    by_cases hr : 0 < S.restAt p
    · have ec : S.cut p = (S.grow (S.cutAt p) (-S.restAt p)).addPiece (S.cutAt p) (S.cutAt p) ((S.grow (S.cutAt p) (-S.restAt p)).endOf (S.cutAt p)) (S.restAt p) := if_pos hr
      generalize hi : S.cutAt p = i at *
      generalize hw : (atF S.len S.ord (p - 1)).2 = wi at *
      generalize hre : S.restAt p = rest at *
      have hlen : ∀ x, (S.cut p).len x = S.len x + (if x = i then -rest else 0) + (if x = S.pcs.length then rest else 0) := fun x => by rw [ec]; rfl
      have hef : (S.grow i (-rest)).endOf i = ⟨(S.pc i).run, (S.pc i).pos + (S.len i - rest)⟩ := by
        unfold SS.endOf
        show (⟨(S.pc i).run, (S.pc i).pos + (S.len i + (if i = i then -rest else 0))⟩ : Sp) = _
        rw [if_pos rfl, ← Int.sub_eq_add_neg]
      have hpc : ∀ x, (S.cut p).pc x = if x < S.pcs.length then S.pc x else if x = S.pcs.length then ⟨(S.pc i).run, (S.pc i).pos + (S.len i - rest)⟩ else .zero := fun x => by
        rw [ec, ← hef]
        exact pc_snoc (S := S) (x := (S.grow i (-rest)).endOf i) (i := x)
      have tor : (S.cut p).ord = A0 ++ i :: S.pcs.length :: B0 := by
        have : (S.cut p).ord = insB i S.pcs.length S.ord := by rw [ec]; rfl
        rw [this, hAB]; exact insB_of (by omega) hnA
      have hlt : ∀ x ∈ A0 ++ B0, x < S.pcs.length ∧ x ≠ i := fun x hx => by
        have hxo : x ∈ S.ord := by rw [hAB]; rcases List.mem_append.1 hx with h | h <;> simp [h]
        refine ⟨((h.ordF.lab x).1 hxo).2, fun e => ?_⟩
        subst e
        rcases List.mem_append.1 hx with h | h
        · exact hnA h
        · exact hnB h
      have hsame : ∀ x ∈ A0 ++ B0, (S.cut p).pcSp x = S.pcSp x := fun x hx => by
        obtain ⟨q1, q2⟩ := hlt x hx
        exact pcSp_eq (by rw [hpc, if_pos q1]) (by rw [hlen, if_neg q2, if_neg (by omega)]; omega)
      have hsA : A0.flatMap (S.cut p).pcSp = A0.flatMap S.pcSp := flat_eq fun x hx => hsame x (by simp [hx])
      have hsB : B0.flatMap (S.cut p).pcSp = B0.flatMap S.pcSp := flat_eq fun x hx => hsame x (by simp [hx])
      have hli : (S.cut p).len i = S.len i - rest := by rw [hlen, if_pos rfl, if_neg (by omega)]; omega
      have hln : (S.cut p).len S.pcs.length = rest := by rw [hlen, if_neg (by omega), if_pos rfl, h.ordF.out _ (Nat.le_refl _)]; omega
      have hpi : (S.cut p).pcSp i = spotsFrom (S.pc i) (S.len i - rest).toNat := by unfold SS.pcSp; rw [hli, hpc, if_pos hlab.2]
      have hpn : (S.cut p).pcSp S.pcs.length = spotsFrom ⟨(S.pc i).run, (S.pc i).pos + (S.len i - rest)⟩ rest.toNat := by unfold SS.pcSp; rw [hln, hpc, if_neg (by omega), if_pos rfl]
      have hjoin : (S.cut p).pcSp i ++ (S.cut p).pcSp S.pcs.length = S.pcSp i := by
        have := spotsFrom_add (S.pc i) (S.len i - rest).toNat rest.toNat
        rw [hpi, hpn]
        unfold SS.pcSp
        rw [show (S.len i).toNat = (S.len i - rest).toNat + rest.toNat by omega, this, Int.toNat_of_nonneg (by omega)]
      refine ⟨?_, A0 ++ [i], S.pcs.length :: B0, by rw [tor]; simp, hlA, ?_⟩
      · unfold SS.spots
        rw [tor, hAB, List.flatMap_append, List.flatMap_append, List.flatMap_cons, List.flatMap_cons, List.flatMap_cons, hsA, hsB, ← hjoin, List.append_assoc]
      · rw [List.flatMap_append, List.flatMap_cons, List.flatMap_nil, List.append_nil, List.length_append, hsA, hpi, spotsFrom_len]
        omega
    · have ec : S.cut p = S := if_neg hr
      rw [ec]
      refine ⟨rfl, A0 ++ [S.cutAt p], B0, by rw [hAB]; simp, hlA, ?_⟩
      rw [List.flatMap_append, List.flatMap_cons, List.flatMap_nil, List.append_nil, List.length_append]
      show _ + (spotsFrom _ _).length = _
      rw [spotsFrom_len]
      omega
/-- Units keep what they are when runs are added. -/
theorem unit_more (R : List Rn) (n : Rn) (x : Sp) (hx : x.run < R.length) : unitR (R ++ [n]) x = unitR R x := by
  unfold unitR
  rw [rn_snoc, if_pos hx]
/-- The units are laid at their place. -/
theorem Inv.lay_spots {S : SS} (h : Inv S) (p : Int) (h0 : 0 ≤ p) (h1 : p ≤ S.total) (hl : S.pcs.length + 1 ≤ 1073741824) (u : Un) (hc : 1 ≤ u.c) (par : Sp) (n : Nat) (hn : 1 ≤ n) :
    ∃ y : Sp, (S.lay p u par n).spots = S.spots.take p.toNat ++ spotsFrom y n ++ S.spots.drop p.toNat ∧ (S.lay p u par n).unit y = u ∧ (∀ x : Sp, x.run < S.runs.length → (S.lay p u par n).unit x = S.unit x) ∧
      ((y = ⟨S.runs.length, 0⟩ ∧ (S.lay p u par n).runs = S.runs ++ [⟨u, par, farOf S.runs par, (rn S.runs par.run).depth + 1⟩]) ∨ (y.run < S.runs.length ∧ 1 ≤ y.pos ∧ 0 < p ∧ S.spots[p.toNat - 1]? = some ⟨y.run, y.pos - 1⟩ ∧ (S.lay p u par n).runs = S.runs)) := by
  obtain ⟨es, A, B, e1, e2, e3, e4⟩ := h.cut_spots p h0 h1
  obtain ⟨c1, c2, c3⟩ := h.cutI p hl
  have hcr : (S.cut p).runs = S.runs := cut_runs S p
  unfold SS.lay
  by_cases he : (S.cut p).unit ((S.cut p).endOf (S.cutAt p)) = u
  · rw [if_pos he]
    have hi0 : S.cutAt p ≠ 0 := fun e0 => by
      rw [e0] at he
      have e1 : (S.cut p).endOf 0 = .zero := by unfold SS.endOf; rw [c1.p0, c1.ordF.zero]; rfl
      rw [e1] at he
      have : ((S.cut p).unit .zero).c = (rn (S.cut p).runs 0).first.c := unitR_c _ _
      rw [he, c1.root] at this
      have : u.c = 0 := this
      omega
    rcases List.eq_nil_or_concat A with rfl | ⟨A0, z, rfl⟩
    · exact absurd e2.symm (by simpa using hi0)
    rw [List.concat_eq_append] at e1 e2 e3
    have ez : z = S.cutAt p := by rw [← e2]; exact (getLastD_mid A0 [] z 0).symm
    subst ez
    have hnod := c1.ordF.nod
    rw [e1] at hnod
    have hlz := (c1.ordF.lab (S.cutAt p)).1 (by rw [e1]; simp)
    have hq := c1.pcs (S.cutAt p) (by omega) hlz.2
    have hnA : S.cutAt p ∉ A0 := fun hx => (List.nodup_append.1 (List.nodup_append.1 hnod).1).2.2 _ hx _ (by simp) rfl
    have hnB : S.cutAt p ∉ B := fun hx => (List.nodup_append.1 hnod).2.2 (S.cutAt p) (by simp) _ hx rfl
    have hglen : ∀ x, ((S.cut p).grow (S.cutAt p) n).len x = (S.cut p).len x + (if x = S.cutAt p then (n : Int) else 0) := fun x => rfl
    have hsame : ∀ x, x ≠ S.cutAt p → ((S.cut p).grow (S.cutAt p) n).pcSp x = (S.cut p).pcSp x := fun x hx => pcSp_eq rfl (by rw [hglen, if_neg hx]; omega)
    have hz : ((S.cut p).grow (S.cutAt p) n).pcSp (S.cutAt p) = (S.cut p).pcSp (S.cutAt p) ++ spotsFrom ((S.cut p).endOf (S.cutAt p)) n := by
      have := spotsFrom_add ((S.cut p).pc (S.cutAt p)) ((S.cut p).len (S.cutAt p)).toNat n
      unfold SS.pcSp SS.endOf
      rw [hglen, if_pos rfl, show ((S.cut p).len (S.cutAt p) + (n : Int)).toNat = ((S.cut p).len (S.cutAt p)).toNat + n by omega]
      show spotsFrom ((S.cut p).pc (S.cutAt p)) _ = _
      rw [this, Int.toNat_of_nonneg (by omega)]
    have hfA : A0.flatMap ((S.cut p).grow (S.cutAt p) n).pcSp = A0.flatMap (S.cut p).pcSp := flat_eq fun x hx => hsame x fun e => hnA (e ▸ hx)
    have hfB : B.flatMap ((S.cut p).grow (S.cutAt p) n).pcSp = B.flatMap (S.cut p).pcSp := flat_eq fun x hx => hsame x fun e => hnB (e ▸ hx)
    have hord : ((S.cut p).grow (S.cutAt p) n).ord = (A0 ++ [S.cutAt p]) ++ B := e1
    refine ⟨(S.cut p).endOf (S.cutAt p), ?_, he, fun x hx => ?_, .inr ⟨?_, ?_, ?_, ?_, hcr⟩⟩
    · rw [← e3, ← e4]
      unfold SS.spots
      rw [hord, List.flatMap_append, List.flatMap_append, List.flatMap_cons, List.flatMap_nil, List.append_nil, hfA, hfB, hz, List.flatMap_append, List.flatMap_cons, List.flatMap_nil, List.append_nil]
      simp only [List.append_assoc]
    · show unitR (S.cut p).runs x = _
      rw [hcr]; rfl
    · show ((S.cut p).pc (S.cutAt p)).run < _
      rw [← hcr]; exact hq.2.1
    · show 1 ≤ ((S.cut p).pc (S.cutAt p)).pos + (S.cut p).len (S.cutAt p)
      omega
    · have hlen : (S.spots.take p.toNat).length = _ := congrArg List.length e3.symm
      rw [List.flatMap_append, List.flatMap_cons, List.flatMap_nil, List.append_nil, List.length_append] at hlen
      have hl2 : ((S.cut p).pcSp (S.cutAt p)).length = ((S.cut p).len (S.cutAt p)).toNat := spotsFrom_len _ _
      have := List.length_take_le p.toNat S.spots
      omega
    · have hlt : (S.spots.take p.toNat).length = p.toNat := by
        rw [List.length_take]
        have := h.spots_len
        omega
      have e5 := e3
      rw [List.flatMap_append, List.flatMap_cons, List.flatMap_nil, List.append_nil] at e5
      have hl2 : ((S.cut p).pcSp (S.cutAt p)).length = ((S.cut p).len (S.cutAt p)).toNat := spotsFrom_len _ _
      have hl3 : (A0.flatMap (S.cut p).pcSp).length + ((S.cut p).len (S.cutAt p)).toNat = p.toNat := by
        rw [← hl2, ← List.length_append, e5, hlt]
      have e6 : (S.spots.take p.toNat)[p.toNat - 1]? = S.spots[p.toNat - 1]? := List.getElem?_take_of_lt (by omega)
      rw [← e6, ← e5, List.getElem?_append_right (by omega)]
      have := spotsFrom_get ((S.cut p).pc (S.cutAt p)) ((S.cut p).len (S.cutAt p)).toNat (p.toNat - 1 - (A0.flatMap (S.cut p).pcSp).length) (by omega)
      show (spotsFrom ((S.cut p).pc (S.cutAt p)) ((S.cut p).len (S.cutAt p)).toNat)[_]? = _
      rw [this]
      unfold SS.endOf
      simp only [Option.some.injEq, Sp.mk.injEq, true_and]
      omega
  · rw [if_neg he]
    have hcl := cut_pcs S p
    have hnod := c1.ordF.nod
    rw [e1] at hnod
    have h0A : 0 ∉ A := fun hx => by
      have := (c1.ordF.lab 0).1 (by rw [e1]; simp [hx])
      omega
    generalize hT : ((S.cut p).addRun u par).addPiece (S.cutAt p) ((S.cut p).piece u.c u.k) ⟨S.runs.length, 0⟩ n = T
    have tor : T.ord = A ++ (S.cut p).pcs.length :: B := by
      have : T.ord = insB (S.cutAt p) (S.cut p).pcs.length (S.cut p).ord := by rw [← hT]; rfl
      rw [this, e1, ← e2]
      exact insB_last hnod h0A
    have hlen : ∀ x, T.len x = (S.cut p).len x + (if x = (S.cut p).pcs.length then (n : Int) else 0) := fun x => by rw [← hT]; rfl
    have hpc : ∀ x, T.pc x = if x < (S.cut p).pcs.length then (S.cut p).pc x else if x = (S.cut p).pcs.length then ⟨S.runs.length, 0⟩ else .zero := fun x => by
      rw [← hT]
      exact pc_snoc (S := (S.cut p).addRun u par) (x := ⟨S.runs.length, 0⟩) (i := x)
    have tr : T.runs = S.runs ++ [⟨u, par, farOf S.runs par, (rn S.runs par.run).depth + 1⟩] := by
      rw [← hT]
      show (S.cut p).runs ++ [⟨u, par, farOf (S.cut p).runs par, (rn (S.cut p).runs par.run).depth + 1⟩] = _
      rw [hcr]
    have hsame : ∀ x ∈ A ++ B, T.pcSp x = (S.cut p).pcSp x := fun x hx => by
      have := (c1.ordF.lab x).1 (by rw [e1]; exact hx)
      exact pcSp_eq (by rw [hpc, if_pos this.2]) (by rw [hlen, if_neg (by omega)]; omega)
    have hnew : T.pcSp (S.cut p).pcs.length = spotsFrom ⟨S.runs.length, 0⟩ n := by
      unfold SS.pcSp
      rw [hpc, if_neg (by omega), if_pos rfl, hlen, if_pos rfl, c1.ordF.out _ (Nat.le_refl _)]
      congr 1
      omega
    refine ⟨⟨S.runs.length, 0⟩, ?_, ?_, fun x hx => ?_, .inl ⟨rfl, tr⟩⟩
    · rw [← e3, ← e4]
      unfold SS.spots
      rw [tor, List.flatMap_append, List.flatMap_cons, hnew, flat_eq fun x hx => hsame x (by simp [hx]), flat_eq (l := B) fun x hx => hsame x (by simp [hx])]
      simp only [List.append_assoc]
    · show unitR T.runs _ = u
      unfold unitR
      rw [if_pos rfl, tr, rn_snoc, if_neg (by show ¬ S.runs.length < S.runs.length; omega), if_pos rfl]
    · show unitR T.runs x = unitR S.runs x
      rw [tr]; exact unit_more _ _ _ hx
end Go.Proofs.Ytnbphdmpbjahhaa

/- Package seq: its units as a list (no Go in it): what At, Find, Len and Insert say of it. -/
namespace Go.Proofs.Ytnbphdmpbjahhaa
set_option linter.unusedVariables false
set_option linter.unusedSimpArgs false

def SS.units (S : SS) : List Un := S.spots.map S.unit
theorem Inv.units_len {S : SS} (h : Inv S) : (S.units.length : Int) = S.total := by
  unfold SS.units
  rw [List.length_map]; exact h.spots_len
theorem units_get (S : SS) (m : Nat) (hm : m < S.units.length) (hm' : m < S.spots.length) : S.units[m] = S.unit S.spots[m] := List.getElem_map _
theorem Inv.spot_run {S : SS} (h : Inv S) {x : Sp} (hx : x ∈ S.spots) : 0 < x.run ∧ x.run < S.runs.length ∧ 0 ≤ x.pos ∧ (rn S.runs x.run).first.k + x.pos ≤ 9007199254740991 := by
  unfold SS.spots at hx
  obtain ⟨i, hi, hx⟩ := List.mem_flatMap.1 hx
  have hl := (h.ordF.lab i).1 hi
  obtain ⟨q1, q2, q3, q4, q5⟩ := h.pcs i (by omega) hl.2
  obtain ⟨j, hj, rfl⟩ := spotsFrom_mem hx
  exact ⟨q1, q2, by show 0 ≤ (S.pc i).pos + (j : Int); omega, by show (rn S.runs (S.pc i).run).first.k + ((S.pc i).pos + (j : Int)) ≤ _; omega⟩
theorem Inv.at_units {S : SS} (h : Inv S) (m : Nat) (hm : m < S.units.length) : S.at_ (m : Int) = (S.units[m], true) := by
  have hl := h.units_len
  unfold SS.at_
  rw [if_neg (by omega)]
  have hg := h.spotAt_get (m : Int) (by omega) (by omega)
  rw [Int.toNat_natCast] at hg
  have hu : S.units[m]? = some (S.unit (S.spotAt m)) := by
    unfold SS.units
    rw [List.getElem?_map, hg]; rfl
  rw [List.getElem?_eq_getElem hm] at hu
  rw [Option.some.inj hu]
theorem Inv.at_none {S : SS} (h : Inv S) (i : Int) (hi : i < 0 ∨ (S.units.length : Int) ≤ i) : S.at_ i = (.zero, false) := by
  have hl := h.units_len
  unfold SS.at_
  rw [if_pos (by omega)]
/-- A unit's id is found at its place. -/
theorem Inv.find_units {S : SS} (h : Inv S) (m : Nat) (hm : m < S.units.length) : S.find S.units[m].c S.units[m].k = (m : Int) := by
  have hm' : m < S.spots.length := by simpa [SS.units] using hm
  have := (h.find_at (List.getElem?_eq_getElem hm')).1
  rw [units_get S m hm hm']; exact this
theorem Inv.units_find {S : SS} (h : Inv S) {c k : Int} (hc : 0 ≤ c) (hk : 0 ≤ k) (hf : S.find c k ≠ -1) : ∃ m, ∃ hm : m < S.units.length, S.find c k = (m : Int) ∧ S.units[m].c = c ∧ S.units[m].k = k := by
  obtain ⟨a1, a2, a3, a4⟩ := h.at_find hc hk hf
  have hm : (S.find c k).toNat < S.spots.length := (List.getElem?_eq_some_iff.1 a2).1
  have e : S.spots[(S.find c k).toNat] = S.spotOf c k := (List.getElem?_eq_some_iff.1 a2).2
  have hm' : (S.find c k).toNat < S.units.length := by simpa [SS.units] using hm
  have e2 : S.units[(S.find c k).toNat] = S.unit (S.spotOf c k) := by
    rw [units_get S _ hm' hm, e]
  exact ⟨_, hm', by omega, by rw [e2]; exact a3, by rw [e2]; exact a4⟩
theorem Inv.find_none {S : SS} (h : Inv S) {c k : Int} (hc : 0 ≤ c) (hk : 0 ≤ k) (hn : ∀ v ∈ S.units, ¬ (v.c = c ∧ v.k = k)) : S.find c k = -1 :=
  Decidable.byContradiction fun hf => by
    obtain ⟨m, hm, _, e1, e2⟩ := h.units_find hc hk hf
    exact hn _ (List.getElem_mem hm) ⟨e1, e2⟩
theorem Inv.units_nodup {S : SS} (h : Inv S) {i j : Nat} (hi : i < S.units.length) (hj : j < S.units.length) (hc : S.units[i].c = S.units[j].c) (hk : S.units[i].k = S.units[j].k) : i = j := by
  have h1 := h.find_units i hi
  have h2 := h.find_units j hj
  rw [hc, hk, h2] at h1
  omega
/-- What is so of its units: right ids. -/
theorem Inv.units_ok {S : SS} (h : Inv S) {v : Un} (hv : v ∈ S.units) : 1 ≤ v.c ∧ v.c ≤ 9007199254740991 ∧ 1 ≤ v.k ∧ v.k ≤ 9007199254740991 := by
  unfold SS.units at hv
  obtain ⟨x, hx, rfl⟩ := List.mem_map.1 hv
  obtain ⟨a, b, c, d⟩ := h.spot_run hx
  have := h.runs x.run a b
  rw [SS.unit_c, SS.unit_k]
  omega
/-- One unit more: it stands at its place, all others as they stood. -/
theorem Inv.run_units {S : SS} (h : Inv S) {u : Un} (hu : u.ok) (hm : S.may u 1 = true) (hR : Room S 1) : ∃ p : Nat, p ≤ S.units.length ∧ (p : Int) = S.placeFor u ∧ (S.run u 1).units = S.units.take p ++ u :: S.units.drop p := by
  obtain ⟨⟨a, b⟩, c, d, e, f⟩ := may_iff.1 hm
  have hnc : 1 ≤ u.c ∧ u.c ≤ 9007199254740991 := by simpa [numOk] using a
  obtain ⟨p0, p1⟩ := h.placeLe hu f
  have hl := h.units_len
  have hrp := hR.pcs
  obtain ⟨y, y1, y2, y3, _⟩ := h.lay_spots (S.placeFor u) p0 p1 (by omega) u hnc.1 (S.parentOf u).1 1 (Nat.le_refl _)
  refine ⟨(S.placeFor u).toNat, by omega, by omega, ?_⟩
  have e1 : S.run u 1 = S.lay (S.placeFor u) u (S.parentOf u).1 (1 : Nat) := by unfold SS.run; rw [if_pos hm]; rfl
  rw [e1]
  unfold SS.units
  have hold : ∀ l : List Sp, (∀ x ∈ l, x ∈ S.spots) → l.map (S.lay (S.placeFor u) u (S.parentOf u).1 (1 : Nat)).unit = l.map S.unit := fun l hl => List.map_congr_left fun x hx => y3 x (h.spot_run (hl x hx)).2.1
  have hs1 : spotsFrom y 1 = [y] := by
    unfold spotsFrom
    simp
  rw [y1, List.map_append, List.map_append, hold _ fun x hx => List.mem_of_mem_take hx, hold _ fun x hx => List.mem_of_mem_drop hx, hs1, List.map_take, List.map_drop, List.map_cons, List.map_nil, y2, List.append_assoc, List.singleton_append]
theorem run_no {S : SS} {u : Un} (hm : S.may u 1 = false) : S.run u 1 = S := by unfold SS.run; rw [hm]; rfl
/-- How great it is. -/
structure Size (S : SS) (n : Nat) : Prop where
  tot : S.total ≤ n
  pcs : S.pcs.length ≤ 2 * n + 1
  runs : S.runs.length ≤ n + 1
theorem Size.room {S : SS} {n : Nat} (h : Size S n) (hn : n ≤ 1000000) (m : Nat) (hm : m ≤ 1000000) : Room S m := by
  have := h.tot
  have := h.pcs
  have := h.runs
  exact ⟨by omega, by omega, by omega⟩
theorem Size.new : Size .new 0 := ⟨by decide, by decide, by decide⟩
theorem Size.mono {S : SS} {n m : Nat} (h : Size S n) (hm : n ≤ m) : Size S m := by
  have := h.tot
  have := h.pcs
  have := h.runs
  exact ⟨by omega, by omega, by omega⟩
theorem Inv.run1 {S : SS} (h : Inv S) {u : Un} (hu : u.ok) {n : Nat} (hz : Size S n) (hn : n ≤ 1000000) : Inv (S.run u 1) ∧ Size (S.run u 1) (n + 1) := by
  have h1 := hz.tot
  have h2 := hz.pcs
  have h3 := hz.runs
  obtain ⟨a, b, c, d⟩ := h.runI (u := u) (n := 1) hu (fun _ => by omega) (by omega) (by omega)
  refine ⟨a, ?_, by omega, by omega⟩
  rw [b]
  split <;> omega
/-- Units inserted one after the other. -/
def seqOf (us : List Un) : SS := us.foldl (fun S u => S.run u 1) .new
theorem seqOf_take (us : List Un) (j : Nat) (hj : j < us.length) : seqOf (us.take (j + 1)) = (seqOf (us.take j)).run us[j] 1 := by
  unfold seqOf
  rw [List.take_succ_eq_append_getElem hj, List.foldl_append]; rfl
theorem seqOf_inv (us : List Un) (hu : ∀ u ∈ us, u.ok) (hl : us.length ≤ 1000000) : ∀ j, j ≤ us.length → Inv (seqOf (us.take j)) ∧ Size (seqOf (us.take j)) j
  | 0, _ => ⟨Inv.new, Size.new⟩
  | j + 1, h => by
    obtain ⟨a, b⟩ := seqOf_inv us hu hl j (by omega)
    rw [seqOf_take us j h]
    exact a.run1 (hu _ (List.getElem_mem _)) b (by omega)
/-- Its units are among those that were inserted. -/
theorem seqOf_mem (us : List Un) (hu : ∀ u ∈ us, u.ok) (hl : us.length ≤ 1000000) : ∀ j, j ≤ us.length → ∀ v ∈ (seqOf (us.take j)).units, v ∈ us
  | 0, _, v, hv => by
    have : (seqOf (us.take 0)).units = [] := rfl
    rw [this] at hv
    exact (List.not_mem_nil hv).elim
  | j + 1, h, v, hv => by
    obtain ⟨a, b⟩ := seqOf_inv us hu hl j (by omega)
    have ih := seqOf_mem us hu hl j (by omega)
    rw [seqOf_take us j h] at hv
    cases hm : (seqOf (us.take j)).may us[j] 1 with
    | false => rw [run_no hm] at hv; exact ih v hv
    | true =>
      obtain ⟨p, _, _, e⟩ := a.run_units (hu _ (List.getElem_mem _)) hm (b.room (by omega) 1 (by omega))
      rw [e] at hv
      rcases List.mem_append.1 hv with hv | hv
      · exact ih v (List.mem_of_mem_take hv)
      · rcases List.mem_cons.1 hv with rfl | hv
        · exact List.getElem_mem _
        · exact ih v (List.mem_of_mem_drop hv)
/-- A unit with a new id, its Left there or none, no Right: it may be inserted. -/
theorem Inv.may_new {S : SS} (h : Inv S) {u : Un} (hc : numOk u.c = true) (hk : numOk u.k = true) (hn : ∀ v ∈ S.units, ¬ (v.c = u.c ∧ v.k = u.k)) (hr : u.rc = 0 ∧ u.rk = 0) (hl : (u.lc = 0 ∧ u.lk = 0) ∨ ∃ v ∈ S.units, v.c = u.lc ∧ v.k = u.lk) : S.may u 1 = true := by
  have hc' : 1 ≤ u.c ∧ u.c ≤ 9007199254740991 := by simpa [numOk] using hc
  have hk' : 1 ≤ u.k ∧ u.k ≤ 9007199254740991 := by simpa [numOk] using hk
  refine may_iff.2 ⟨⟨hc, hk⟩, Int.le_refl _, by omega, ?_, ?_⟩
  · cases hh : S.hasAny u.c u.k 1 with
    | false => rfl
    | true => exact absurd (h.find_none (by omega) (by omega) hn) ((h.hasAny_one hc'.1 (by omega)).1 hh)
  · have hf : S.find u.lc u.lk < S.total ∧ (S.find u.lc u.lk + 1 = 0 → u.lc = 0 ∧ u.lk = 0) := by
      rcases hl with hl | ⟨v, hv, e1, e2⟩
      · refine ⟨?_, fun _ => hl⟩
        have := h.find_le 0 0 (by omega) (by omega)
        have ht := h.total_nn
        rw [hl.1, hl.2]; omega
      · obtain ⟨m, hm, rfl⟩ := List.mem_iff_getElem.1 hv
        have := h.find_units m hm
        rw [e1, e2] at this
        have hul := h.units_len
        exact ⟨by omega, fun _ => by omega⟩
    unfold SS.between SS.rightOf
    rw [if_pos hr, if_neg]
    rintro (⟨a, b⟩ | a)
    · exact b (hf.2 a)
    · omega
end Go.Proofs.Ytnbphdmpbjahhaa
