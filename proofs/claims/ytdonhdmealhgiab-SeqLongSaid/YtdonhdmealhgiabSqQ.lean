/- A long text, backwards (no Go in it). -/
import Derived.Test.YtdonhdmealhgiabSqP
namespace Go.Proofs.Ytdonhdmealhgiab
set_option linter.unusedVariables false
set_option linter.unusedSimpArgs false

def bU (i : Int) : Un := ⟨1, i + 1, 0, 0, if i = 0 then 0 else 1, i⟩
/-- i units, each put ahead of the one before. -/
structure BS (S : SS) (i : Nat) : Prop where
  inv : Inv S
  pl : S.pcs.length = i + 1
  pc : ∀ j, j ≤ i → S.pc j = ⟨j, 0⟩
  ord : S.ord = (List.range' 1 i).reverse
  idx : S.idx = List.range' 1 i
  len : ∀ x, S.len x = if 1 ≤ x ∧ x ≤ i then 1 else 0
  rl : S.runs.length = i + 1
  fst : ∀ j, 1 ≤ j → j ≤ i → (rn S.runs j).first.c = 1 ∧ (rn S.runs j).first.k = j
  par : ∀ j, 1 ≤ j → j ≤ i → (rn S.runs j).par = ⟨j - 1, 0⟩
theorem lastF_split {p : Nat → Bool} {A B : List Nat} (hA : ∀ x ∈ A, p x = true) (hB : ∀ x ∈ B, p x = false) : lastF p (A ++ B) = A.getLastD 0 := by
  unfold lastF
  rw [List.takeWhile_append_of_pos hA]
  have : B.takeWhile p = [] := by
    cases B with
    | nil => rfl
    | cons b B => rw [List.takeWhile_cons, hB b (by simp)]; rfl
  rw [this, List.append_nil]
theorem range_split {m i : Nat} (h : m ≤ i) : List.range' 1 i = List.range' 1 m ++ List.range' (1 + m) (i - m) := by
  have := List.range'_append_1 (s := 1) (m := m) (n := i - m)
  rw [this]
  congr 1
  omega
theorem range_last {m : Nat} (h : 1 ≤ m) : List.range' 1 m = List.range' 1 (m - 1) ++ [m] := by
  have := List.range'_append_1 (s := 1) (m := m - 1) (n := 1)
  rw [show m - 1 + 1 = m from by omega] at this
  rw [← this]
  show _ ++ [1 + (m - 1)] = _
  rw [show 1 + (m - 1) = m from by omega]
theorem BS.first {S : SS} {i : Nat} (h : BS S i) {j : Nat} (h1 : 1 ≤ j) (h2 : j ≤ i) : (S.first j).c = 1 ∧ (S.first j).k = j := by
  have a : (S.first j).c = (rn S.runs (S.pc j).run).first.c := unitR_c _ _
  have b : (S.first j).k = (rn S.runs (S.pc j).run).first.k + (S.pc j).pos := unitR_k _ _
  rw [h.pc j h2] at a b
  have := h.fst j h1 h2
  rw [a, b]
  exact ⟨this.1, by show (rn S.runs j).first.k + 0 = _; rw [this.2]; omega⟩
theorem BS.piece {S : SS} {i : Nat} (h : BS S i) {m : Nat} {k : Int} (h1 : 1 ≤ m) (h2 : m ≤ i) (hk : ∀ j : Nat, 1 ≤ j → j ≤ i → ((j : Int) ≤ k ↔ j ≤ m)) : S.piece 1 k = m := by
  unfold SS.piece
  rw [h.idx, range_split h2]
  rw [lastF_split]
  · rw [range_last h1]
    exact getLastD_mid _ [] m 0
  · intro x hx
    have := List.mem_range'_1.1 hx
    refine holds_iff.2 (.inr ⟨(h.first this.1 (by omega)).1, ?_⟩)
    rw [(h.first this.1 (by omega)).2]
    exact (hk x this.1 (by omega)).2 (by omega)
  · intro x hx
    have hr := List.mem_range'_1.1 hx
    have hf := h.first (j := x) (by omega) (by omega)
    have hn : ¬ ((S.first x).c < 1 ∨ ((S.first x).c = 1 ∧ (S.first x).k ≤ k)) := fun h' => by
      rw [hf.1, hf.2] at h'
      rcases h' with h' | ⟨_, h'⟩
      · omega
      · have := (hk x (by omega) (by omega)).1 h'
        omega
    cases hh : S.holds 1 k x with
    | false => rfl
    | true => exact absurd (holds_iff.1 hh) hn
theorem BS.piece0 {S : SS} {i : Nat} (h : BS S i) : S.piece 0 0 = 0 := by
  unfold SS.piece
  have := lastF_split (p := S.holds 0 0) (A := []) (B := S.idx) (fun x hx => (List.not_mem_nil hx).elim) (fun x hx => by
    rw [h.idx] at hx
    have hr := List.mem_range'_1.1 hx
    have hf := h.first (j := x) (by omega) (by omega)
    cases hh : S.holds 0 0 x with
    | false => rfl
    | true =>
      have := holds_iff.1 hh
      rw [hf.1] at this
      omega)
  exact this
theorem BS.find0 {S : SS} {i : Nat} (h : BS S i) : S.find 0 0 = -1 := by
  unfold SS.find
  rw [h.piece0, h.inv.first0, h.inv.ordF.zero]
  exact if_pos (.inr (by show (0 : Int) ≤ 0 - 0; omega))
theorem sumF_ones {len : Nat → Int} : ∀ {l : List Nat}, (∀ x ∈ l, len x = 1) → sumF len l = l.length
  | [], _ => rfl
  | x :: l, h => by
    rw [sumF_cons, h x (by simp), sumF_ones fun y hy => h y (by simp [hy])]
    simp only [List.length_cons]
    omega
theorem BS.total {S : SS} {i : Nat} (h : BS S i) : S.total = i := by
  unfold SS.total
  rw [h.ord, sumF_ones fun x hx => by
    have := List.mem_range'_1.1 (List.mem_reverse.1 hx)
    rw [h.len, if_pos ⟨this.1, by omega⟩]]
  simp
theorem BS.find {S : SS} {i : Nat} (h : BS S i) {k : Nat} (h1 : 1 ≤ k) (h2 : k ≤ i) : S.find 1 k = (i : Int) - k := by
  have hp : S.piece 1 (k : Int) = k := h.piece h1 h2 fun j _ _ => by omega
  have hf := h.first h1 h2
  unfold SS.find
  have hl1 : S.len k = 1 := by rw [h.len, if_pos ⟨h1, h2⟩]
  rw [hp, hf.1, hf.2, hl1, if_neg (fun h' => by
    rcases h' with h' | h'
    · exact h' rfl
    · omega)]
  have e : S.ord = (List.range' (1 + k) (i - k)).reverse ++ k :: (List.range' 1 (k - 1)).reverse := by
    rw [h.ord, range_split h2, List.reverse_append, range_last h1]
    simp
  rw [e, aheadF_of (fun hx => by have := List.mem_range'_1.1 (List.mem_reverse.1 hx); omega), sumF_ones fun x hx => by
    have := List.mem_range'_1.1 (List.mem_reverse.1 hx)
    rw [h.len, if_pos ⟨by omega, by omega⟩]]
  simp
  omega
/-- All units are below the root. -/
theorem climb_root {R : List Rn} (hD : Down R) (hd : ∀ r, 0 < r → r < R.length → 0 < (rn R r).depth) (hp : ∀ r, 0 < r → r < R.length → (rn R r).par.run = 0 → (rn R r).par = .zero) : ∀ (f : Nat) (x : Sp), x.run < f → 0 < x.run → x.run < R.length → (climb R .zero f x).2 = true
  | f + 1, x, hf, h0, hx => by
    have hz : (rn R 0).depth = 0 := by rw [hD.1]
    obtain ⟨s1, s2, s3, s4⟩ := hD.step hx (d := 0) (by omega)
    rw [climb_succ, if_neg (by show ¬ x.run = 0; omega)]
    show (if (rn R 0).depth < _ then _ else if (rn R 0).depth < _ then _ else if _ then _ else _ : Sp × Bool).2 = true
    rw [hz]
    by_cases c1 : 0 < (rn R (rn R x.run).far.run).depth
    · rw [if_pos c1]
      have := s1 c1
      refine climb_root hD hd hp f _ (by omega) (Nat.pos_of_ne_zero fun e => ?_) s3
      rw [e, hz] at c1; omega
    rw [if_neg c1]
    by_cases c2 : 0 < (rn R (rn R x.run).par.run).depth
    · rw [if_pos c2]
      have := s2 c2
      refine climb_root hD hd hp f _ (by omega) (Nat.pos_of_ne_zero fun e => ?_) s4
      rw [e, hz] at c2; omega
    rw [if_neg c2]
    have e : (rn R x.run).par.run = 0 := by
      by_cases e : (rn R x.run).par.run = 0
      · exact e
      · exact absurd (hd _ (Nat.pos_of_ne_zero e) s4) c2
    rw [if_pos (hp x.run h0 hx e)]
theorem BS.step {S : SS} {i : Nat} (h : BS S i) (hi : 1 ≤ i) (hm : i + 2 ≤ 1000000) : S.may (bU i) 1 = true ∧ BS (S.run (bU i) 1) (i + 1) := by
  have hu : bU i = ⟨1, (i : Int) + 1, 0, 0, 1, i⟩ := by unfold bU; rw [if_neg (by omega)]
  have hpi : S.piece 1 ((i : Int) + 1) = i := h.piece hi (Nat.le_refl _) fun j _ _ => by omega
  have hpi' : S.piece 1 (i : Int) = i := h.piece hi (Nat.le_refl _) fun j _ _ => by omega
  have hfi := h.first hi (Nat.le_refl _)
  have hr : S.rightOf (bU i) = 0 := by
    rw [hu]
    refine (if_neg (fun e => by have e1 : (1 : Int) = 0 := e.1; omega)).trans ?_
    have := h.find hi (Nat.le_refl i)
    show S.find 1 i = 0
    rw [this]; omega
  have hl : S.find (bU i).lc (bU i).lk = -1 := by rw [hu]; exact h.find0
  have hlz : (bU i).lc = 0 ∧ (bU i).lk = 0 := by rw [hu]; exact ⟨rfl, rfl⟩
  have hb : S.between (bU i) = (0, 0, true) := by
    unfold SS.between
    rw [hr, hl, if_neg (fun h' => by
      rcases h' with ⟨_, h'⟩ | h'
      · exact h' hlz
      · omega)]
    rfl
  have hh : S.hasAny 1 ((i : Int) + 1) 1 = false := by
    unfold SS.hasAny
    rw [show (i : Int) + 1 + (1 - 1) = (i : Int) + 1 from by omega, hpi, hfi.2, h.len, if_pos ⟨hi, Nat.le_refl _⟩]
    exact decide_eq_false (fun h' => by omega)
  have hmay : S.may (bU i) 1 = true := by
    refine may_iff.2 ⟨⟨?_, ?_⟩, by omega, ?_, ?_, ?_⟩
    · rw [hu]; rfl
    · rw [hu]; show numOk ((i : Int) + 1) = true; unfold numOk; simp; omega
    · rw [hu]; show (1 : Int) - 1 ≤ 9007199254740991 - ((i : Int) + 1); omega
    · rw [hu]; exact hh
    · rw [hb]
  have hok : (bU i).ok := by
    rw [hu]
    exact ⟨by show (0 : Int) ≤ 1; omega, ⟨by show (0 : Int) ≤ i + 1; omega, by show (i : Int) + 1 < _; omega⟩, by show (0 : Int) ≤ 0; omega, ⟨by show (0 : Int) ≤ 0; omega, by show (0 : Int) < _; omega⟩, by show (0 : Int) ≤ 1; omega, ⟨by show (0 : Int) ≤ i; omega, by show (i : Int) < _; omega⟩⟩
  have hinv := (h.inv.runI hok (n := 1) (fun _ => by rw [h.total]; omega) (by rw [h.pl]; omega) (by rw [h.rl]; omega)).1
  refine ⟨hmay, ?_⟩
  have hs0 : S.spotOf 0 0 = .zero := by
    unfold SS.spotOf
    rw [h.piece0, h.inv.p0, h.inv.first0]; rfl
  have hs1 : S.spotOf 1 i = ⟨i, 0⟩ := by
    unfold SS.spotOf
    rw [hpi', h.pc i (Nat.le_refl _), hfi.2]
    show (⟨i, 0 + ((i : Int) - i)⟩ : Sp) = _
    rw [show (0 : Int) + ((i : Int) - i) = 0 from by omega]
  have hch : (childR S.runs .zero ⟨i, 0⟩).2 = true := by
    refine climb_root h.inv.down (fun r h0 hr' => (h.inv.runs r h0 hr').2.2.2.2.2.2.1) (fun r h0 hr' e => ?_) (i + 1) ⟨i, 0⟩ (by show i < i + 1; omega) (by show 0 < i; omega) (by show i < _; rw [h.rl]; omega)
    have hp := h.par r h0 (by rw [h.rl] at hr'; omega)
    rw [hp] at e ⊢
    have e' : r - 1 = 0 := e
    rw [e']
  have hpo : S.parentOf (bU i) = (⟨i, 0⟩, true) := by
    rw [hu]
    refine (if_neg (fun e => by have e1 : (1 : Int) = 0 := e.1; omega)).trans ?_
    show (if (childR S.runs (S.spotOf 0 0) (S.spotOf 1 i)).2 then (S.spotOf 1 (i : Int), true) else _) = _
    rw [hs0, hs1, hch]; rfl
  have hpl : S.placeFor (bU i) = 0 := by
    unfold SS.placeFor SS.placeOf
    rw [hb]
    rfl
  have hat : atF S.len S.ord (0 - 1) = (0, 0) := atF_neg (by omega)
  have hcA : S.cutAt 0 = 0 := by unfold SS.cutAt; rw [hat]
  have hcut : S.cut 0 = S := by
    unfold SS.cut
    refine if_neg ?_
    unfold SS.restAt
    rw [hcA, hat, h.inv.ordF.zero]
    show ¬ (0 : Int) < 0 - 0 - 1
    omega
  have hrun : S.run (bU i) 1 = S.lay (S.placeFor (bU i)) (bU i) (S.parentOf (bU i)).1 1 := by
    unfold SS.run
    rw [if_pos hmay]; rfl
  have hne : ¬ (S.cut 0).unit ((S.cut 0).endOf (S.cutAt 0)) = bU i := fun e => by
    rw [hcut, hcA] at e
    have e1 : S.endOf 0 = .zero := by unfold SS.endOf; rw [h.inv.p0, h.inv.ordF.zero]; rfl
    rw [e1] at e
    have : (S.unit .zero).c = (rn S.runs 0).first.c := unitR_c _ _
    rw [e, h.inv.root, hu] at this
    have : (1 : Int) = 0 := this
    omega
  have hQ : S.run (bU i) 1 = (S.addRun (bU i) ⟨i, 0⟩).addPiece 0 i ⟨i + 1, 0⟩ 1 := by
    rw [hrun, hpl, hpo]
    unfold SS.lay
    rw [if_neg hne, hcut, hcA, h.rl]
    have : S.piece (bU i).c (bU i).k = i := by rw [hu]; exact hpi
    rw [this]
  rw [hQ] at hinv ⊢
  refine ⟨hinv, ?_, fun j hj => ?_, ?_, ?_, fun x => ?_, ?_, fun j h1 h2 => ?_, fun j h1 h2 => ?_⟩
  · show (S.pcs ++ [_]).length = _
    rw [List.length_append, h.pl]; rfl
  · have := pc_snoc (S := S) (x := ⟨i + 1, 0⟩) (i := j)
    refine (show ((S.addRun (bU i) ⟨i, 0⟩).addPiece 0 i ⟨i + 1, 0⟩ 1).pc j = _ from this).trans ?_
    rw [h.pl]
    by_cases e : j < i + 1
    · rw [if_pos e]; exact h.pc j (by omega)
    · rw [if_neg e, if_pos (by omega)]
      rw [show i + 1 = j from by omega]
  · show insB 0 S.pcs.length S.ord = _
    rw [insB_zero, h.pl, h.ord, range_last (m := i + 1) (by omega), List.reverse_append]
    rfl
  · show insB i S.pcs.length S.idx = _
    rw [h.pl, h.idx, range_last (m := i + 1) (by omega), range_last hi]
    have := insB_of (i := i) (n := i + 1) (by omega) (a := List.range' 1 (i - 1)) (b := []) (fun hx => by have := List.mem_range'_1.1 hx; omega)
    rw [this, show i + 1 - 1 = i from by omega, range_last hi]
    simp
  · show S.len x + (if x = S.pcs.length then (1 : Int) else 0) = _
    rw [h.pl, h.len]
    by_cases e : x = i + 1
    · rw [if_neg (by omega), if_pos e, if_pos ⟨by omega, by omega⟩]; rfl
    · rw [if_neg e]
      by_cases e2 : 1 ≤ x ∧ x ≤ i
      · rw [if_pos e2, if_pos ⟨e2.1, by omega⟩]; rfl
      · rw [if_neg e2, if_neg (fun e3 => e2 ⟨e3.1, by omega⟩)]; rfl
  · show (S.runs ++ [_]).length = _
    rw [List.length_append, h.rl]; rfl
  · have hr' : rn ((S.addRun (bU i) ⟨i, 0⟩).addPiece 0 i ⟨i + 1, 0⟩ 1).runs j = _ := rn_snoc
    rw [hr', h.rl]
    by_cases e : j < i + 1
    · rw [if_pos e]; exact h.fst j h1 (by omega)
    · rw [if_neg e, if_pos (by omega)]
      have ej : j = i + 1 := by omega
      rw [hu, ej]
      exact ⟨rfl, by show (i : Int) + 1 = ((i + 1 : Nat) : Int); omega⟩
  · have hr' : rn ((S.addRun (bU i) ⟨i, 0⟩).addPiece 0 i ⟨i + 1, 0⟩ 1).runs j = _ := rn_snoc
    rw [hr', h.rl]
    by_cases e : j < i + 1
    · rw [if_pos e]; exact h.par j h1 (by omega)
    · rw [if_neg e, if_pos (by omega)]
      have ej : j = i + 1 := by omega
      rw [ej]; rfl
theorem BS.one : BS (fS 1) 1 := by
  have h0 : (fU 0).ok := ⟨by decide, by decide, by decide, by decide, by decide, by decide⟩
  have hI := (Inv.new.runI h0 (n := 1) (fun _ => by decide) (by decide) (by decide)).1
  rw [f_zero.2] at hI
  refine ⟨hI, rfl, fun j hj => ?_, rfl, rfl, fun x => ?_, rfl, fun j h1 h2 => ?_, fun j h1 h2 => ?_⟩
  · rcases (show j = 0 ∨ j = 1 by omega) with rfl | rfl <;> rfl
  · show (if x = 1 then (1 : Int) else 0) = _
    by_cases e : x = 1
    · rw [if_pos e, if_pos ⟨by omega, by omega⟩]
    · rw [if_neg e, if_neg (fun h => e (by omega))]
  · obtain rfl : j = 1 := by omega
    exact ⟨rfl, rfl⟩
  · obtain rfl : j = 1 := by omega
    rfl
end Go.Proofs.Ytdonhdmealhgiab
