/- Package seq: where a sequence's units are, as a list (no Go in it). -/
import Derived.Test.YtcolbgbmnmkogaaSqO
namespace Go.Proofs.Ytcolbgbmnmkogaa
set_option linter.unusedVariables false
set_option linter.unusedSimpArgs false

/-- The spots of so many units from one on. -/
def spotsFrom (x : Sp) (n : Nat) : List Sp := (List.range n).map fun j : Nat => ⟨x.run, x.pos + (j : Int)⟩
theorem spotsFrom_len (x : Sp) (n : Nat) : (spotsFrom x n).length = n := by simp [spotsFrom]
theorem spotsFrom_get (x : Sp) (n j : Nat) (h : j < n) : (spotsFrom x n)[j]? = some ⟨x.run, x.pos + (j : Int)⟩ := by
  simp [spotsFrom, h]
theorem spotsFrom_add (x : Sp) (a b : Nat) : spotsFrom x (a + b) = spotsFrom x a ++ spotsFrom ⟨x.run, x.pos + (a : Int)⟩ b := by
  unfold spotsFrom
  rw [List.range_add, List.map_append, List.map_map]
  congr 1
  apply List.map_congr_left
  intro j _
  simp only [Function.comp, Sp.mk.injEq, true_and]
  omega
theorem spotsFrom_mem {x y : Sp} {n : Nat} (h : y ∈ spotsFrom x n) : ∃ j : Nat, j < n ∧ y = ⟨x.run, x.pos + (j : Int)⟩ := by
  unfold spotsFrom at h
  obtain ⟨j, hj, rfl⟩ := List.mem_map.1 h
  exact ⟨j, List.mem_range.1 hj, rfl⟩
/-- A piece's. -/
def SS.pcSp (S : SS) (i : Nat) : List Sp := spotsFrom (S.pc i) (S.len i).toNat
/-- All, as they stand. -/
def SS.spots (S : SS) : List Sp := S.ord.flatMap S.pcSp
theorem flat_sum (S : SS) (hl : ∀ x, 0 ≤ S.len x) : ∀ l : List Nat, ((l.flatMap S.pcSp).length : Int) = sumF S.len l
  | [] => rfl
  | i :: l => by
    have := hl i
    rw [List.flatMap_cons, List.length_append, sumF_cons, ← flat_sum S hl l]
    unfold SS.pcSp
    rw [spotsFrom_len]; omega
theorem Inv.spots_len {S : SS} (h : Inv S) : (S.spots.length : Int) = S.total := flat_sum S h.ordF.long S.ord
theorem atF_get (S : SS) (hl : ∀ x, 0 ≤ S.len x) : ∀ (l : List Nat) (p : Int), 0 ≤ p → p < sumF S.len l → (l.flatMap S.pcSp)[p.toNat]? = some ⟨(S.pc (atF S.len l p).1).run, (S.pc (atF S.len l p).1).pos + (atF S.len l p).2⟩
  | [], p, h0, h1 => by rw [sumF_nil] at h1; omega
  | i :: l, p, h0, h1 => by
    have hi := hl i
    rw [sumF_cons] at h1
    rw [List.flatMap_cons]
    unfold atF
    rw [if_neg (by omega)]
    have hlen : (S.pcSp i).length = (S.len i).toNat := spotsFrom_len _ _
    by_cases hp : p < S.len i
    · rw [if_pos hp, List.getElem?_append_left (by omega)]
      have := spotsFrom_get (S.pc i) (S.len i).toNat p.toNat (by omega)
      unfold SS.pcSp
      rw [this, Int.toNat_of_nonneg h0]
    · rw [if_neg hp, List.getElem?_append_right (by omega), hlen]
      have ih := atF_get S hl l (p - S.len i) (by omega) (by omega)
      rw [← ih]
      congr 1
      omega
theorem Inv.spotAt_get {S : SS} (h : Inv S) (p : Int) (h0 : 0 ≤ p) (h1 : p < S.total) : S.spots[p.toNat]? = some (S.spotAt p) := atF_get S h.ordF.long S.ord p h0 h1
theorem atF_ahead {len : Nat → Int} (hl : ∀ x, 0 ≤ len x) : ∀ (l : List Nat) (p : Int), l.Nodup → 0 ≤ p → p < sumF len l → (atF len l p).1 ∈ l ∧ 0 ≤ (atF len l p).2 ∧ (atF len l p).2 < len (atF len l p).1 ∧ aheadF len l (atF len l p).1 + (atF len l p).2 = p
  | [], p, _, h0, h1 => by rw [sumF_nil] at h1; omega
  | i :: l, p, hn, h0, h1 => by
    rw [sumF_cons] at h1
    unfold atF
    rw [if_neg (by omega)]
    by_cases hp : p < len i
    · rw [if_pos hp]
      refine ⟨by simp, h0, hp, ?_⟩
      have := aheadF_of (len := len) (a := []) (b := l) (i := i) (by simp)
      rw [List.nil_append] at this
      rw [this, sumF_nil]
      show 0 + p = p
      omega
    · rw [if_neg hp]
      obtain ⟨h2, h3, h4, h5⟩ := atF_ahead hl l (p - len i) (List.nodup_cons.1 hn).2 (by omega) (by omega)
      refine ⟨List.mem_cons_of_mem _ h2, h3, h4, ?_⟩
      have hne : i ≠ (atF len l (p - len i)).1 := fun e => (List.nodup_cons.1 hn).1 (by rw [e]; exact h2)
      have e : aheadF len (i :: l) (atF len l (p - len i)).1 = len i + aheadF len l (atF len l (p - len i)).1 := by
        unfold aheadF
        rw [List.takeWhile_cons_of_pos (by simpa using hne), sumF_cons]
      rw [e]; omega
theorem lastF_cut {p : Nat → Bool} {A B : List Nat} (hA : ∀ x ∈ A, p x = true) (hB : ∀ x ∈ B, p x = false) : lastF p (A ++ B) = A.getLastD 0 := by
  unfold lastF
  rw [List.takeWhile_append_of_pos hA]
  have : B.takeWhile p = [] := by
    cases B with
    | nil => rfl
    | cons b B => rw [List.takeWhile_cons_of_neg (by simp [hB b (by simp)])]
  rw [this, List.append_nil]
/-- The piece that has an id is the one that is sought by it. -/
theorem Inv.piece_eq {S : SS} (h : Inv S) {i : Nat} (h1 : 1 ≤ i) (h2 : i < S.pcs.length) {j : Int} (hj0 : 0 ≤ j) (hj : j < S.len i) : S.piece (S.first i).c ((S.first i).k + j) = i := by
  have hm : i ∈ S.idx := (h.idxF.lab i).2 ⟨h1, h2⟩
  obtain ⟨A, B, hAB⟩ := List.append_of_mem hm
  have hs := h.sorted
  rw [hAB] at hs
  obtain ⟨_, s2, s3⟩ := List.pairwise_append.1 hs
  have s4 := (List.pairwise_cons.1 s2).1
  unfold SS.piece
  rw [hAB, show A ++ i :: B = (A ++ [i]) ++ B by simp]
  rw [lastF_cut]
  · exact getLastD_mid A [] i 0
  · intro x hx
    rw [holds_iff]
    rcases List.mem_append.1 hx with hx | hx
    · have hxl : x ∈ S.idx := by rw [hAB]; simp [hx]
      have := (h.idxF.lab x).1 hxl
      have hlx := (h.pcs x (by omega) this.2).2.2.2.1
      rcases s3 x hx i (by simp) with e | ⟨e, e'⟩
      · exact .inl e
      · exact .inr ⟨e, by omega⟩
    · simp only [List.mem_singleton] at hx
      subst hx
      exact .inr ⟨rfl, by omega⟩
  · intro y hy
    cases hh : S.holds (S.first i).c ((S.first i).k + j) y with
    | false => rfl
    | true =>
      rw [holds_iff] at hh
      rcases s4 y hy with e | ⟨e, e'⟩ <;> omega
theorem Inv.find_eq {S : SS} (h : Inv S) {i : Nat} (h1 : 1 ≤ i) (h2 : i < S.pcs.length) {j : Int} (hj0 : 0 ≤ j) (hj : j < S.len i) : S.find (S.first i).c ((S.first i).k + j) = aheadF S.len S.ord i + j ∧ S.spotOf (S.first i).c ((S.first i).k + j) = ⟨(S.pc i).run, (S.pc i).pos + j⟩ := by
  have e := h.piece_eq h1 h2 hj0 hj
  unfold SS.find SS.spotOf
  rw [e, if_neg (by omega)]
  refine ⟨by omega, ?_⟩
  simp only [Sp.mk.injEq, true_and]
  omega
theorem SS.unit_c (S : SS) (x : Sp) : (S.unit x).c = (rn S.runs x.run).first.c := unitR_c _ _
theorem SS.unit_k (S : SS) (x : Sp) : (S.unit x).k = (rn S.runs x.run).first.k + x.pos := unitR_k _ _
/-- A unit's id is found at its place. -/
theorem Inv.find_at {S : SS} (h : Inv S) {m : Nat} {x : Sp} (hm : S.spots[m]? = some x) : S.find (S.unit x).c (S.unit x).k = (m : Int) ∧ S.spotOf (S.unit x).c (S.unit x).k = x := by
  have hlt : (m : Int) < S.total := by
    have := (List.getElem?_eq_some_iff.1 hm).1
    have := h.spots_len
    omega
  have hg := h.spotAt_get (m : Int) (by omega) hlt
  rw [Int.toNat_natCast, hm] at hg
  obtain rfl := Option.some.inj hg
  obtain ⟨a1, a2, a3, a4⟩ := atF_ahead h.ordF.long S.ord (m : Int) h.ordF.nod (by omega) hlt
  have hl := (h.ordF.lab _).1 a1
  have hf := h.find_eq hl.1 hl.2 a2 a3
  have ec : (S.unit (S.spotAt m)).c = (S.first (atF S.len S.ord m).1).c := by unfold SS.first; rw [SS.unit_c, SS.unit_c]; rfl
  have ek : (S.unit (S.spotAt m)).k = (S.first (atF S.len S.ord m).1).k + (atF S.len S.ord m).2 := by
    unfold SS.first
    rw [SS.unit_k, SS.unit_k]
    show (rn S.runs (S.pc (atF S.len S.ord m).1).run).first.k + ((S.pc _).pos + _) = _ + (S.pc _).pos + _
    omega
  rw [ec, ek]
  exact ⟨by rw [hf.1, a4], hf.2⟩
/-- An id that is found is that of the unit there. -/
theorem Inv.at_find {S : SS} (h : Inv S) {c k : Int} (hc : 0 ≤ c) (hk : 0 ≤ k) (hf : S.find c k ≠ -1) : 0 ≤ S.find c k ∧ S.spots[(S.find c k).toNat]? = some (S.spotOf c k) ∧ (S.unit (S.spotOf c k)).c = c ∧ (S.unit (S.spotOf c k)).k = k := by
  have h1 := h.piece_le c k hc hk
  unfold SS.find at hf
  split at hf
  · exact absurd rfl hf
  · next hn =>
    have a : (S.first (S.piece c k)).c = c := Decidable.byContradiction fun e => hn (.inl e)
    have b : ¬ S.len (S.piece c k) ≤ k - (S.first (S.piece c k)).k := fun e => hn (.inr e)
    have hz : S.piece c k ≠ 0 := fun e => by rw [e, h.ordF.zero] at b; rw [e] at h1 a; omega
    have hlt := h.piece_lt c k
    have hk2 : (S.first (S.piece c k)).k + (k - (S.first (S.piece c k)).k) = k := by omega
    have he := h.find_eq (i := S.piece c k) (by omega) hlt (j := k - (S.first (S.piece c k)).k) (by omega) (by omega)
    rw [a, hk2] at he
    have hah := h.ahead_le (S.piece c k)
    obtain ⟨A, B, hAB⟩ := List.append_of_mem ((h.ordF.lab _).2 ⟨by omega, hlt⟩)
    have hnA : S.piece c k ∉ A := fun hx => by
      have hn := h.ordF.nod
      rw [hAB] at hn
      exact (List.nodup_append.1 hn).2.2 _ hx _ (by simp) rfl
    have ha : aheadF S.len S.ord (S.piece c k) = sumF S.len A := by rw [hAB]; exact aheadF_of hnA
    have hfl := flat_sum S h.ordF.long A
    refine ⟨by rw [he.1]; omega, ?_, ?_, ?_⟩
    · rw [he.1, he.2, ha]
      unfold SS.spots
      rw [hAB, List.flatMap_append, List.flatMap_cons, List.getElem?_append_right (by omega), List.getElem?_append_left (by
        show _ < (spotsFrom _ _).length
        rw [spotsFrom_len]; omega)]
      have hi : (sumF S.len A + (k - (S.first (S.piece c k)).k)).toNat - (A.flatMap S.pcSp).length = (k - (S.first (S.piece c k)).k).toNat := by omega
      rw [hi]
      have := spotsFrom_get (S.pc (S.piece c k)) (S.len (S.piece c k)).toNat (k - (S.first (S.piece c k)).k).toNat (by omega)
      unfold SS.pcSp
      rw [this, Int.toNat_of_nonneg (by omega)]
    · rw [he.2, SS.unit_c]
      have : (S.first (S.piece c k)).c = (rn S.runs (S.pc (S.piece c k)).run).first.c := SS.unit_c _ _
      exact this.symm.trans a
    · rw [he.2, SS.unit_k]
      have : (S.first (S.piece c k)).k = (rn S.runs (S.pc (S.piece c k)).run).first.k + (S.pc (S.piece c k)).pos := SS.unit_k _ _
      show (rn S.runs (S.pc (S.piece c k)).run).first.k + ((S.pc _).pos + _) = k
      omega
theorem Inv.hasAny_one {S : SS} (h : Inv S) {c k : Int} (hc : 1 ≤ c) (hk : 0 ≤ k) : S.hasAny c k 1 = true ↔ S.find c k ≠ -1 := by
  have h1 := h.piece_le c k (by omega) hk
  have hah := h.ahead_le (S.piece c k)
  have e : k + (1 - 1) = k := by omega
  unfold SS.hasAny SS.find
  rw [e, decide_eq_true_iff]
  constructor
  · rintro ⟨a, b⟩
    rw [if_neg (by omega)]
    omega
  · intro hf
    split at hf
    · exact absurd rfl hf
    · next hn =>
      have a : (S.first (S.piece c k)).c = c := Decidable.byContradiction fun e => hn (.inl e)
      have b : ¬ S.len (S.piece c k) ≤ k - (S.first (S.piece c k)).k := fun e => hn (.inr e)
      exact ⟨a, by omega⟩
end Go.Proofs.Ytcolbgbmnmkogaa
