/- Package seq: where a sequence's units are, as a list (no Go in it). -/
import Derived.Test.YtnilikomoapcaaaGreatSqO
namespace Go.Proofs.YtnilikomoapcaaaGreat
set_option linter.unusedVariables false
set_option linter.unusedSimpArgs false

/-- The spots of so many units from one on. -/
def spotsFrom (x : Sp) (n : Nat) : List Sp := (List.range n).map fun j : Nat => ⟨x.run, x.pos + (j : Int)⟩
theorem spotsFrom_len (x : Sp) (n : Nat) : (spotsFrom x n).length = n := by simp [spotsFrom]
theorem spotsFrom_get (x : Sp) (n j : Nat) (h : j < n) : (spotsFrom x n)[j]? = some ⟨x.run, x.pos + (j : Int)⟩ := by
  simp [spotsFrom, h]
theorem spotsFrom_add (x : Sp) (a b : Nat) : spotsFrom x (a + b) = spotsFrom x a ++ spotsFrom ⟨x.run, x.pos + (a : Int)⟩ b := by
  unfold spotsFrom
  rw [List.range_add, List.map_append, List.map_map]
  congr 1
  apply List.map_congr_left
  intro j _
  simp only [Function.comp, Sp.mk.injEq, true_and]
  omega
theorem spotsFrom_mem {x y : Sp} {n : Nat} (h : y ∈ spotsFrom x n) : ∃ j : Nat, j < n ∧ y = ⟨x.run, x.pos + (j : Int)⟩ := by
  unfold spotsFrom at h
  obtain ⟨j, hj, rfl⟩ := List.mem_map.1 h
  exact ⟨j, List.mem_range.1 hj, rfl⟩
/-- A piece's. -/
def SS.pcSp (S : SS) (i : Nat) : List Sp := spotsFrom (S.pc i) (S.len i).toNat
/-- All, as they stand. -/
def SS.spots (S : SS) : List Sp := S.ord.flatMap S.pcSp
theorem flat_sum (S : SS) (hl : ∀ x, 0 ≤ S.len x) : ∀ l : List Nat, ((l.flatMap S.pcSp).length : Int) = sumF S.len l
  | [] => rfl
  | i :: l => by
    have := hl i
    rw [List.flatMap_cons, List.length_append, sumF_cons, ← flat_sum S hl l]
    unfold SS.pcSp
    rw [spotsFrom_len]; omega
theorem Inv.spots_len {S : SS} (h : Inv S) : (S.spots.length : Int) = S.total := flat_sum S h.ordF.long S.ord
theorem atF_get (S : SS) (hl : ∀ x, 0 ≤ S.len x) : ∀ (l : List Nat) (p : Int), 0 ≤ p → p < sumF S.len l → (l.flatMap S.pcSp)[p.toNat]? = some ⟨(S.pc (atF S.len l p).1).run, (S.pc (atF S.len l p).1).pos + (atF S.len l p).2⟩
  | [], p, h0, h1 => by rw [sumF_nil] at h1; omega
  | i :: l, p, h0, h1 => by
    have hi := hl i
    rw [sumF_cons] at h1
    rw [List.flatMap_cons]
    unfold atF
    rw [if_neg (by omega)]
    have hlen : (S.pcSp i).length = (S.len i).toNat := spotsFrom_len _ _
    by_cases hp : p < S.len i
    · rw [if_pos hp, List.getElem?_append_left (by omega)]
      have := spotsFrom_get (S.pc i) (S.len i).toNat p.toNat (by omega)
      unfold SS.pcSp
      rw [this, Int.toNat_of_nonneg h0]
    · rw [if_neg hp, List.getElem?_append_right (by omega), hlen]
      have ih := atF_get S hl l (p - S.len i) (by omega) (by omega)
      rw [← ih]
      congr 1
      omega
theorem Inv.spotAt_get {S : SS} (h : Inv S) (p : Int) (h0 : 0 ≤ p) (h1 : p < S.total) : S.spots[p.toNat]? = some (S.spotAt p) := atF_get S h.ordF.long S.ord p h0 h1
theorem atF_ahead {len : Nat → Int} (hl : ∀ x, 0 ≤ len x) : ∀ (l : List Nat) (p : Int), l.Nodup → 0 ≤ p → p < sumF len l → (atF len l p).1 ∈ l ∧ 0 ≤ (atF len l p).2 ∧ (atF len l p).2 < len (atF len l p).1 ∧ aheadF len l (atF len l p).1 + (atF len l p).2 = p
  | [], p, _, h0, h1 => by rw [sumF_nil] at h1; omega
  | i :: l, p, hn, h0, h1 => by
    rw [sumF_cons] at h1
    unfold atF
    rw [if_neg (by omega)]
    by_cases hp : p < len i
    · rw [if_pos hp]
      refine ⟨by simp, h0, hp, ?_⟩
      have := aheadF_of (len := len) (a := []) (b := l) (i := i) (by simp)
      rw [List.nil_append] at this
      rw [this, sumF_nil]
      show 0 + p = p
      omega
    · rw [if_neg hp]
      obtain ⟨h2, h3, h4, h5⟩ := atF_ahead hl l (p - len i) (List.nodup_cons.1 hn).2 (by omega) (by omega)
      refine ⟨List.mem_cons_of_mem _ h2, h3, h4, ?_⟩
      have hne : i ≠ (atF len l (p - len i)).1 := fun e => (List.nodup_cons.1 hn).1 (by rw [e]; exact h2)
      have e : aheadF len (i :: l) (atF len l (p - len i)).1 = len i + aheadF len l (atF len l (p - len i)).1 := by
        unfold aheadF
        rw [List.takeWhile_cons_of_pos (by simpa using hne), sumF_cons]
      rw [e]; omega
theorem lastF_cut {p : Nat → Bool} {A B : List Nat} (hA : ∀ x ∈ A, p x = true) (hB : ∀ x ∈ B, p x = false) : lastF p (A ++ B) = A.getLastD 0 := by
  unfold lastF
  rw [List.takeWhile_append_of_pos hA]
  have : B.takeWhile p = [] := by
    cases B with
    | nil => rfl
    | cons b B => rw [List.takeWhile_cons_of_neg (by simp [hB b (by simp)])]
  rw [this, List.append_nil]
/-- The piece that has an id is the one that is sought by it. -/
theorem Inv.piece_eq {S : SS} (h : Inv S) {i : Nat} (h1 : 1 ≤ i) (h2 : i < S.pcs.length) {j : Int} (hj0 : 0 ≤ j) (hj : j < S.len i) : S.piece (S.first i).c ((S.first i).k + j) = i := by
  have hm : i ∈ S.idx := (h.idxF.lab i).2 ⟨h1, h2⟩
  obtain ⟨A, B, hAB⟩ := List.append_of_mem hm
  have hs := h.sorted
  rw [hAB] at hs
  obtain ⟨_, s2, s3⟩ := List.pairwise_append.1 hs
  have s4 := (List.pairwise_cons.1 s2).1
  unfold SS.piece
  rw [hAB, show A ++ i :: B = (A ++ [i]) ++ B by simp]
  rw [lastF_cut]
  · exact getLastD_mid A [] i 0
  · intro x hx
    rw [holds_iff]
    rcases List.mem_append.1 hx with hx | hx
    · have hxl : x ∈ S.idx := by rw [hAB]; simp [hx]
      have := (h.idxF.lab x).1 hxl
      have hlx := (h.pcs x (by omega) this.2).2.2.2.1
      rcases s3 x hx i (by simp) with e | ⟨e, e'⟩
      · exact .inl e
      · exact .inr ⟨e, by omega⟩
    · simp only [List.mem_singleton] at hx
      subst hx
      exact .inr ⟨rfl, by omega⟩
  · intro y hy
    cases hh : S.holds (S.first i).c ((S.first i).k + j) y with
    | false => rfl
    | true =>
      rw [holds_iff] at hh
      rcases s4 y hy with e | ⟨e, e'⟩ <;> omega
theorem Inv.find_eq {S : SS} (h : Inv S) {i : Nat} (h1 : 1 ≤ i) (h2 : i < S.pcs.length) {j : Int} (hj0 : 0 ≤ j) (hj : j < S.len i) : S.find (S.first i).c ((S.first i).k + j) = aheadF S.len S.ord i + j ∧ S.spotOf (S.first i).c ((S.first i).k + j) = ⟨(S.pc i).run, (S.pc i).pos + j⟩ := by
  have e := h.piece_eq h1 h2 hj0 hj
  unfold SS.find SS.spotOf
  rw [e, if_neg (by omega)]
  refine ⟨by omega, ?_⟩
  simp only [Sp.mk.injEq, true_and]
  omega
theorem SS.unit_c (S : SS) (x : Sp) : (S.unit x).c = (rn S.runs x.run).first.c := unitR_c _ _
theorem SS.unit_k (S : SS) (x : Sp) : (S.unit x).k = (rn S.runs x.run).first.k + x.pos := unitR_k _ _
/-- A unit's id is found at its place. -/
theorem Inv.find_at {S : SS} (h : Inv S) {m : Nat} {x : Sp} (hm : S.spots[m]? = some x) : S.find (S.unit x).c (S.unit x).k = (m : Int) ∧ S.spotOf (S.unit x).c (S.unit x).k = x := by
  have hlt : (m : Int) < S.total := by
    have := (List.getElem?_eq_some_iff.1 hm).1
    have := h.spots_len
    omega
  have hg := h.spotAt_get (m : Int) (by omega) hlt
  rw [Int.toNat_natCast, hm] at hg
  obtain rfl := Option.some.inj hg
  obtain ⟨a1, a2, a3, a4⟩ := atF_ahead h.ordF.long S.ord (m : Int) h.ordF.nod (by omega) hlt
  have hl := (h.ordF.lab _).1 a1
  have hf := h.find_eq hl.1 hl.2 a2 a3
  have ec : (S.unit (S.spotAt m)).c = (S.first (atF S.len S.ord m).1).c := by unfold SS.first; rw [SS.unit_c, SS.unit_c]; rfl
  have ek : (S.unit (S.spotAt m)).k = (S.first (atF S.len S.ord m).1).k + (atF S.len S.ord m).2 := by
    unfold SS.first
    rw [SS.unit_k, SS.unit_k]
    show (rn S.runs (S.pc (atF S.len S.ord m).1).run).first.k + ((S.pc _).pos + _) = _ + (S.pc _).pos + _
    omega
  rw [ec, ek]
  exact ⟨by rw [hf.1, a4], hf.2⟩
/-- An id that is found is that of the unit there. -/
theorem Inv.at_find {S : SS} (h : Inv S) {c k : Int} (hc : 0 ≤ c) (hk : 0 ≤ k) (hf : S.find c k ≠ -1) : 0 ≤ S.find c k ∧ S.spots[(S.find c k).toNat]? = some (S.spotOf c k) ∧ (S.unit (S.spotOf c k)).c = c ∧ (S.unit (S.spotOf c k)).k = k := by
  have h1 := h.piece_le c k hc hk
  unfold SS.find at hf
  split at hf
  · exact absurd rfl hf
  · next hn =>
    have a : (S.first (S.piece c k)).c = c := Decidable.byContradiction fun e => hn (.inl e)
    have b : ¬ S.len (S.piece c k) ≤ k - (S.first (S.piece c k)).k := fun e => hn (.inr e)
    have hz : S.piece c k ≠ 0 := fun e => by rw [e, h.ordF.zero] at b; rw [e] at h1 a; omega
    have hlt := h.piece_lt c k
    have hk2 : (S.first (S.piece c k)).k + (k - (S.first (S.piece c k)).k) = k := by omega
    have he := h.find_eq (i := S.piece c k) (by omega) hlt (j := k - (S.first (S.piece c k)).k) (by omega) (by omega)
    rw [a, hk2] at he
    have hah := h.ahead_le (S.piece c k)
    obtain ⟨A, B, hAB⟩ := List.append_of_mem ((h.ordF.lab _).2 ⟨by omega, hlt⟩)
    have hnA : S.piece c k ∉ A := fun hx => by
      have hn := h.ordF.nod
      rw [hAB] at hn
      exact (List.nodup_append.1 hn).2.2 _ hx _ (by simp) rfl
    have ha : aheadF S.len S.ord (S.piece c k) = sumF S.len A := by rw [hAB]; exact aheadF_of hnA
    have hfl := flat_sum S h.ordF.long A
    refine ⟨by rw [he.1]; omega, ?_, ?_, ?_⟩
    · rw [he.1, he.2, ha]
      unfold SS.spots
      rw [hAB, List.flatMap_append, List.flatMap_cons, List.getElem?_append_right (by omega), List.getElem?_append_left (by
        show _ < (spotsFrom _ _).length
        rw [spotsFrom_len]; omega)]
      have hi : (sumF S.len A + (k - (S.first (S.piece c k)).k)).toNat - (A.flatMap S.pcSp).length = (k - (S.first (S.piece c k)).k).toNat := by omega
      rw [hi]
      have := spotsFrom_get (S.pc (S.piece c k)) (S.len (S.piece c k)).toNat (k - (S.first (S.piece c k)).k).toNat (by omega)
      unfold SS.pcSp
      rw [this, Int.toNat_of_nonneg (by omega)]
    · rw [he.2, SS.unit_c]
      have : (S.first (S.piece c k)).c = (rn S.runs (S.pc (S.piece c k)).run).first.c := SS.unit_c _ _
      exact this.symm.trans a
    · rw [he.2, SS.unit_k]
      have : (S.first (S.piece c k)).k = (rn S.runs (S.pc (S.piece c k)).run).first.k + (S.pc (S.piece c k)).pos := SS.unit_k _ _
      show (rn S.runs (S.pc (S.piece c k)).run).first.k + ((S.pc _).pos + _) = k
      omega
theorem Inv.hasAny_one {S : SS} (h : Inv S) {c k : Int} (hc : 1 ≤ c) (hk : 0 ≤ k) : S.hasAny c k 1 = true ↔ S.find c k ≠ -1 := by
  have h1 := h.piece_le c k (by omega) hk
  have hah := h.ahead_le (S.piece c k)
  have e : k + (1 - 1) = k := by omega
  unfold SS.hasAny SS.find
  rw [e, decide_eq_true_iff]
  constructor
  · rintro ⟨a, b⟩
    rw [if_neg (by omega)]
    omega
  · intro hf
    split at hf
    · exact absurd rfl hf
    · next hn =>
      have a : (S.first (S.piece c k)).c = c := Decidable.byContradiction fun e => hn (.inl e)
      have b : ¬ S.len (S.piece c k) ≤ k - (S.first (S.piece c k)).k := fun e => hn (.inr e)
      exact ⟨a, by omega⟩
end Go.Proofs.YtnilikomoapcaaaGreat

/- Package seq: what a run that is laid does to the list of spots (no Go in it). -/
namespace Go.Proofs.YtnilikomoapcaaaGreat
set_option linter.unusedVariables false
set_option linter.unusedSimpArgs false

theorem pcSp_eq {S T : SS} {i : Nat} (h1 : T.pc i = S.pc i) (h2 : T.len i = S.len i) : T.pcSp i = S.pcSp i := by unfold SS.pcSp; rw [h1, h2]
theorem flat_eq {S T : SS} {l : List Nat} (h : ∀ i ∈ l, T.pcSp i = S.pcSp i) : l.flatMap T.pcSp = l.flatMap S.pcSp := by
  induction l with
  | nil => rfl
  | cons i l ih => rw [List.flatMap_cons, List.flatMap_cons, h i (by simp), ih fun x hx => h x (List.mem_cons_of_mem _ hx)]
/-- Behind a cut the units stand as they stood, and a piece ends at the place. -/
theorem Inv.cut_spots {S : SS} (h : Inv S) (p : Int) (h0 : 0 ≤ p) (h1 : p ≤ S.total) : (S.cut p).spots = S.spots ∧ ∃ A B, (S.cut p).ord = A ++ B ∧ A.getLastD 0 = S.cutAt p ∧ A.flatMap (S.cut p).pcSp = S.spots.take p.toNat ∧ B.flatMap (S.cut p).pcSp = S.spots.drop p.toNat := by
  suffices hh : (S.cut p).spots = S.spots ∧ ∃ A B, (S.cut p).ord = A ++ B ∧ A.getLastD 0 = S.cutAt p ∧ (A.flatMap (S.cut p).pcSp).length = p.toNat by
    obtain ⟨e, A, B, e1, e2, e3⟩ := hh
    refine ⟨e, A, B, e1, e2, ?_, ?_⟩
    · rw [← e]; unfold SS.spots; rw [e1, List.flatMap_append, ← e3, List.take_left]
    · rw [← e]; unfold SS.spots; rw [e1, List.flatMap_append, ← e3, List.drop_left]
  by_cases hp : p = 0
  · subst hp
    have ea : S.cutAt 0 = 0 := by unfold SS.cutAt; rw [atF_neg (by omega)]
    have er : S.restAt 0 = -1 := by unfold SS.restAt; rw [ea, atF_neg (by omega), h.ordF.zero]; rfl
    have ec : S.cut 0 = S := by unfold SS.cut; rw [er, if_neg (by omega)]
    rw [ec, ea]
    exact ⟨rfl, [], S.ord, rfl, rfl, rfl⟩
  · obtain ⟨a1, a2, a3, a4⟩ := atF_ahead h.ordF.long S.ord (p - 1) h.ordF.nod (by omega) (by show p - 1 < S.total; omega)
    have hrd : S.restAt p = S.len (S.cutAt p) - (atF S.len S.ord (p - 1)).2 - 1 := rfl
    have hlab := (h.ordF.lab _).1 a1
    have ecut : S.cutAt p = (atF S.len S.ord (p - 1)).1 := rfl
    rw [← ecut] at a1 a3 a4 hlab
    obtain ⟨A0, B0, hAB⟩ := List.append_of_mem a1
    have hnod := h.ordF.nod
    rw [hAB] at hnod
    have hnA : S.cutAt p ∉ A0 := fun hx => (List.nodup_append.1 hnod).2.2 _ hx _ (by simp) rfl
    have hnB : S.cutAt p ∉ B0 := (List.nodup_cons.1 (List.nodup_append.1 hnod).2.1).1
    have ha : aheadF S.len S.ord (S.cutAt p) = sumF S.len A0 := by rw [hAB]; exact aheadF_of hnA
    have hfl := flat_sum S h.ordF.long A0
    rw [ha] at a4
    have hlA : (A0 ++ [S.cutAt p]).getLastD 0 = S.cutAt p := getLastD_mid A0 [] (S.cutAt p) 0
    by_cases hr : 0 < S.restAt p
    · have ec : S.cut p = (S.grow (S.cutAt p) (-S.restAt p)).addPiece (S.cutAt p) (S.cutAt p) ((S.grow (S.cutAt p) (-S.restAt p)).endOf (S.cutAt p)) (S.restAt p) := if_pos hr
      generalize hi : S.cutAt p = i at *
      generalize hw : (atF S.len S.ord (p - 1)).2 = wi at *
      generalize hre : S.restAt p = rest at *
      have hlen : ∀ x, (S.cut p).len x = S.len x + (if x = i then -rest else 0) + (if x = S.pcs.length then rest else 0) := fun x => by rw [ec]; rfl
      have hef : (S.grow i (-rest)).endOf i = ⟨(S.pc i).run, (S.pc i).pos + (S.len i - rest)⟩ := by
        unfold SS.endOf
        show (⟨(S.pc i).run, (S.pc i).pos + (S.len i + (if i = i then -rest else 0))⟩ : Sp) = _
        rw [if_pos rfl, ← Int.sub_eq_add_neg]
      have hpc : ∀ x, (S.cut p).pc x = if x < S.pcs.length then S.pc x else if x = S.pcs.length then ⟨(S.pc i).run, (S.pc i).pos + (S.len i - rest)⟩ else .zero := fun x => by
        rw [ec, ← hef]
        exact pc_snoc (S := S) (x := (S.grow i (-rest)).endOf i) (i := x)
      have tor : (S.cut p).ord = A0 ++ i :: S.pcs.length :: B0 := by
        have : (S.cut p).ord = insB i S.pcs.length S.ord := by rw [ec]; rfl
        rw [this, hAB]; exact insB_of (by omega) hnA
      have hlt : ∀ x ∈ A0 ++ B0, x < S.pcs.length ∧ x ≠ i := fun x hx => by
        have hxo : x ∈ S.ord := by rw [hAB]; rcases List.mem_append.1 hx with h | h <;> simp [h]
        refine ⟨((h.ordF.lab x).1 hxo).2, fun e => ?_⟩
        subst e
        rcases List.mem_append.1 hx with h | h
        · exact hnA h
        · exact hnB h
      have hsame : ∀ x ∈ A0 ++ B0, (S.cut p).pcSp x = S.pcSp x := fun x hx => by
        obtain ⟨q1, q2⟩ := hlt x hx
        exact pcSp_eq (by rw [hpc, if_pos q1]) (by rw [hlen, if_neg q2, if_neg (by omega)]; omega)
      have hsA : A0.flatMap (S.cut p).pcSp = A0.flatMap S.pcSp := flat_eq fun x hx => hsame x (by simp [hx])
      have hsB : B0.flatMap (S.cut p).pcSp = B0.flatMap S.pcSp := flat_eq fun x hx => hsame x (by simp [hx])
      have hli : (S.cut p).len i = S.len i - rest := by rw [hlen, if_pos rfl, if_neg (by omega)]; omega
      have hln : (S.cut p).len S.pcs.length = rest := by rw [hlen, if_neg (by omega), if_pos rfl, h.ordF.out _ (Nat.le_refl _)]; omega
      have hpi : (S.cut p).pcSp i = spotsFrom (S.pc i) (S.len i - rest).toNat := by unfold SS.pcSp; rw [hli, hpc, if_pos hlab.2]
      have hpn : (S.cut p).pcSp S.pcs.length = spotsFrom ⟨(S.pc i).run, (S.pc i).pos + (S.len i - rest)⟩ rest.toNat := by unfold SS.pcSp; rw [hln, hpc, if_neg (by omega), if_pos rfl]
      have hjoin : (S.cut p).pcSp i ++ (S.cut p).pcSp S.pcs.length = S.pcSp i := by
        have := spotsFrom_add (S.pc i) (S.len i - rest).toNat rest.toNat
        rw [hpi, hpn]
        unfold SS.pcSp
        rw [show (S.len i).toNat = (S.len i - rest).toNat + rest.toNat by omega, this, Int.toNat_of_nonneg (by omega)]
      refine ⟨?_, A0 ++ [i], S.pcs.length :: B0, by rw [tor]; simp, hlA, ?_⟩
      · unfold SS.spots
        rw [tor, hAB, List.flatMap_append, List.flatMap_append, List.flatMap_cons, List.flatMap_cons, List.flatMap_cons, hsA, hsB, ← hjoin, List.append_assoc]
      · rw [List.flatMap_append, List.flatMap_cons, List.flatMap_nil, List.append_nil, List.length_append, hsA, hpi, spotsFrom_len]
        omega
    · have ec : S.cut p = S := if_neg hr
      rw [ec]
      refine ⟨rfl, A0 ++ [S.cutAt p], B0, by rw [hAB]; simp, hlA, ?_⟩
      rw [List.flatMap_append, List.flatMap_cons, List.flatMap_nil, List.append_nil, List.length_append]
      show _ + (spotsFrom _ _).length = _
      rw [spotsFrom_len]
      omega
/-- Units keep what they are when runs are added. -/
theorem unit_more (R : List Rn) (n : Rn) (x : Sp) (hx : x.run < R.length) : unitR (R ++ [n]) x = unitR R x := by
  unfold unitR
  rw [rn_snoc, if_pos hx]
/-- The units are laid at their place. -/
theorem Inv.lay_spots {S : SS} (h : Inv S) (p : Int) (h0 : 0 ≤ p) (h1 : p ≤ S.total) (hl : S.pcs.length + 1 ≤ 1073741824) (u : Un) (hc : 1 ≤ u.c) (par : Sp) (n : Nat) (hn : 1 ≤ n) :
    ∃ y : Sp, (S.lay p u par n).spots = S.spots.take p.toNat ++ spotsFrom y n ++ S.spots.drop p.toNat ∧ (S.lay p u par n).unit y = u ∧ (∀ x : Sp, x.run < S.runs.length → (S.lay p u par n).unit x = S.unit x) ∧
      ((y = ⟨S.runs.length, 0⟩ ∧ (S.lay p u par n).runs = S.runs ++ [⟨u, par, farOf S.runs par, (rn S.runs par.run).depth + 1⟩]) ∨ (y.run < S.runs.length ∧ 1 ≤ y.pos ∧ 0 < p ∧ S.spots[p.toNat - 1]? = some ⟨y.run, y.pos - 1⟩ ∧ (S.lay p u par n).runs = S.runs)) := by
  obtain ⟨es, A, B, e1, e2, e3, e4⟩ := h.cut_spots p h0 h1
  obtain ⟨c1, c2, c3⟩ := h.cutI p hl
  have hcr : (S.cut p).runs = S.runs := cut_runs S p
  unfold SS.lay
  by_cases he : (S.cut p).unit ((S.cut p).endOf (S.cutAt p)) = u
  · rw [if_pos he]
    have hi0 : S.cutAt p ≠ 0 := fun e0 => by
      rw [e0] at he
      have e1 : (S.cut p).endOf 0 = .zero := by unfold SS.endOf; rw [c1.p0, c1.ordF.zero]; rfl
      rw [e1] at he
      have : ((S.cut p).unit .zero).c = (rn (S.cut p).runs 0).first.c := unitR_c _ _
      rw [he, c1.root] at this
      have : u.c = 0 := this
      omega
    rcases List.eq_nil_or_concat A with rfl | ⟨A0, z, rfl⟩
    · exact absurd e2.symm (by simpa using hi0)
    rw [List.concat_eq_append] at e1 e2 e3
    have ez : z = S.cutAt p := by rw [← e2]; exact (getLastD_mid A0 [] z 0).symm
    subst ez
    have hnod := c1.ordF.nod
    rw [e1] at hnod
    have hlz := (c1.ordF.lab (S.cutAt p)).1 (by rw [e1]; simp)
    have hq := c1.pcs (S.cutAt p) (by omega) hlz.2
    have hnA : S.cutAt p ∉ A0 := fun hx => (List.nodup_append.1 (List.nodup_append.1 hnod).1).2.2 _ hx _ (by simp) rfl
    have hnB : S.cutAt p ∉ B := fun hx => (List.nodup_append.1 hnod).2.2 (S.cutAt p) (by simp) _ hx rfl
    have hglen : ∀ x, ((S.cut p).grow (S.cutAt p) n).len x = (S.cut p).len x + (if x = S.cutAt p then (n : Int) else 0) := fun x => rfl
    have hsame : ∀ x, x ≠ S.cutAt p → ((S.cut p).grow (S.cutAt p) n).pcSp x = (S.cut p).pcSp x := fun x hx => pcSp_eq rfl (by rw [hglen, if_neg hx]; omega)
    have hz : ((S.cut p).grow (S.cutAt p) n).pcSp (S.cutAt p) = (S.cut p).pcSp (S.cutAt p) ++ spotsFrom ((S.cut p).endOf (S.cutAt p)) n := by
      have := spotsFrom_add ((S.cut p).pc (S.cutAt p)) ((S.cut p).len (S.cutAt p)).toNat n
      unfold SS.pcSp SS.endOf
      rw [hglen, if_pos rfl, show ((S.cut p).len (S.cutAt p) + (n : Int)).toNat = ((S.cut p).len (S.cutAt p)).toNat + n by omega]
      show spotsFrom ((S.cut p).pc (S.cutAt p)) _ = _
      rw [this, Int.toNat_of_nonneg (by omega)]
    have hfA : A0.flatMap ((S.cut p).grow (S.cutAt p) n).pcSp = A0.flatMap (S.cut p).pcSp := flat_eq fun x hx => hsame x fun e => hnA (e ▸ hx)
    have hfB : B.flatMap ((S.cut p).grow (S.cutAt p) n).pcSp = B.flatMap (S.cut p).pcSp := flat_eq fun x hx => hsame x fun e => hnB (e ▸ hx)
    have hord : ((S.cut p).grow (S.cutAt p) n).ord = (A0 ++ [S.cutAt p]) ++ B := e1
    refine ⟨(S.cut p).endOf (S.cutAt p), ?_, he, fun x hx => ?_, .inr ⟨?_, ?_, ?_, ?_, hcr⟩⟩
    · rw [← e3, ← e4]
      unfold SS.spots
      rw [hord, List.flatMap_append, List.flatMap_append, List.flatMap_cons, List.flatMap_nil, List.append_nil, hfA, hfB, hz, List.flatMap_append, List.flatMap_cons, List.flatMap_nil, List.append_nil]
      simp only [List.append_assoc]
    · show unitR (S.cut p).runs x = _
      rw [hcr]; rfl
    · show ((S.cut p).pc (S.cutAt p)).run < _
      rw [← hcr]; exact hq.2.1
    · show 1 ≤ ((S.cut p).pc (S.cutAt p)).pos + (S.cut p).len (S.cutAt p)
      omega
    · have hlen : (S.spots.take p.toNat).length = _ := congrArg List.length e3.symm
      rw [List.flatMap_append, List.flatMap_cons, List.flatMap_nil, List.append_nil, List.length_append] at hlen
      have hl2 : ((S.cut p).pcSp (S.cutAt p)).length = ((S.cut p).len (S.cutAt p)).toNat := spotsFrom_len _ _
      have := List.length_take_le p.toNat S.spots
      omega
    · have hlt : (S.spots.take p.toNat).length = p.toNat := by
        rw [List.length_take]
        have := h.spots_len
        omega
      have e5 := e3
      rw [List.flatMap_append, List.flatMap_cons, List.flatMap_nil, List.append_nil] at e5
      have hl2 : ((S.cut p).pcSp (S.cutAt p)).length = ((S.cut p).len (S.cutAt p)).toNat := spotsFrom_len _ _
      have hl3 : (A0.flatMap (S.cut p).pcSp).length + ((S.cut p).len (S.cutAt p)).toNat = p.toNat := by
        rw [← hl2, ← List.length_append, e5, hlt]
      have e6 : (S.spots.take p.toNat)[p.toNat - 1]? = S.spots[p.toNat - 1]? := List.getElem?_take_of_lt (by omega)
      rw [← e6, ← e5, List.getElem?_append_right (by omega)]
      have := spotsFrom_get ((S.cut p).pc (S.cutAt p)) ((S.cut p).len (S.cutAt p)).toNat (p.toNat - 1 - (A0.flatMap (S.cut p).pcSp).length) (by omega)
      show (spotsFrom ((S.cut p).pc (S.cutAt p)) ((S.cut p).len (S.cutAt p)).toNat)[_]? = _
      rw [this]
      unfold SS.endOf
      simp only [Option.some.injEq, Sp.mk.injEq, true_and]
      omega
  · rw [if_neg he]
    have hcl := cut_pcs S p
    have hnod := c1.ordF.nod
    rw [e1] at hnod
    have h0A : 0 ∉ A := fun hx => by
      have := (c1.ordF.lab 0).1 (by rw [e1]; simp [hx])
      omega
    generalize hT : ((S.cut p).addRun u par).addPiece (S.cutAt p) ((S.cut p).piece u.c u.k) ⟨S.runs.length, 0⟩ n = T
    have tor : T.ord = A ++ (S.cut p).pcs.length :: B := by
      have : T.ord = insB (S.cutAt p) (S.cut p).pcs.length (S.cut p).ord := by rw [← hT]; rfl
      rw [this, e1, ← e2]
      exact insB_last hnod h0A
    have hlen : ∀ x, T.len x = (S.cut p).len x + (if x = (S.cut p).pcs.length then (n : Int) else 0) := fun x => by rw [← hT]; rfl
    have hpc : ∀ x, T.pc x = if x < (S.cut p).pcs.length then (S.cut p).pc x else if x = (S.cut p).pcs.length then ⟨S.runs.length, 0⟩ else .zero := fun x => by
      rw [← hT]
      exact pc_snoc (S := (S.cut p).addRun u par) (x := ⟨S.runs.length, 0⟩) (i := x)
    have tr : T.runs = S.runs ++ [⟨u, par, farOf S.runs par, (rn S.runs par.run).depth + 1⟩] := by
      rw [← hT]
      show (S.cut p).runs ++ [⟨u, par, farOf (S.cut p).runs par, (rn (S.cut p).runs par.run).depth + 1⟩] = _
      rw [hcr]
    have hsame : ∀ x ∈ A ++ B, T.pcSp x = (S.cut p).pcSp x := fun x hx => by
      have := (c1.ordF.lab x).1 (by rw [e1]; exact hx)
      exact pcSp_eq (by rw [hpc, if_pos this.2]) (by rw [hlen, if_neg (by omega)]; omega)
    have hnew : T.pcSp (S.cut p).pcs.length = spotsFrom ⟨S.runs.length, 0⟩ n := by
      unfold SS.pcSp
      rw [hpc, if_neg (by omega), if_pos rfl, hlen, if_pos rfl, c1.ordF.out _ (Nat.le_refl _)]
      congr 1
      omega
    refine ⟨⟨S.runs.length, 0⟩, ?_, ?_, fun x hx => ?_, .inl ⟨rfl, tr⟩⟩
    · rw [← e3, ← e4]
      unfold SS.spots
      rw [tor, List.flatMap_append, List.flatMap_cons, hnew, flat_eq fun x hx => hsame x (by simp [hx]), flat_eq (l := B) fun x hx => hsame x (by simp [hx])]
      simp only [List.append_assoc]
    · show unitR T.runs _ = u
      unfold unitR
      rw [if_pos rfl, tr, rn_snoc, if_neg (by show ¬ S.runs.length < S.runs.length; omega), if_pos rfl]
    · show unitR T.runs x = unitR S.runs x
      rw [tr]; exact unit_more _ _ _ hx
end Go.Proofs.YtnilikomoapcaaaGreat
