/- What is so of a sequence (no Go in it): spots that childOver, spotOf tell; places. -/
import Derived.Test.YtcolbgbmnmkogabSeqV2
import Derived.Test.YtcolbgbmnmkogabSeqU9
import Derived.Test.YtcolbgbmnmkogabSeqV3
namespace Go.Proofs.Ytcolbgbmnmkogab
set_option linter.unusedVariables false
set_option linter.unusedSimpArgs false

theorem rn_out {R : List Rn} {r : Nat} (h : R.length ≤ r) : rn R r = .zero := by unfold rn; rw [List.getElem?_eq_none h]; rfl
theorem Inv.down {S : SS} (h : Inv S) : Down S.runs := by
  refine ⟨h.root, fun r => ?_, fun r h0 hr => ⟨(h.runs r h0 hr).1, (h.runs r h0 hr).2.1⟩⟩
  by_cases h0 : r = 0
  · rw [h0, h.root]; exact Int.le_refl _
  · by_cases hr : r < S.runs.length
    · have := (h.runs r (by omega) hr).2.2.2.2.2.2.1
      omega
    · rw [rn_out (by omega)]; exact Int.le_refl _
theorem fin_ok {R : List Rn} (hR : 0 < R.length) (p x : Sp) : ((fin p x).1.run < R.length ∧ (fin p x).1.pos = 0) ∨ (fin p x).1 = ⟨p.run, p.pos + 1⟩ := by
  unfold fin
  split
  · exact .inl ⟨hR, rfl⟩
  · exact .inr rfl
theorem climb_ok {R : List Rn} (hD : Down R) {p : Sp} : ∀ (f : Nat) (x : Sp), x.run < R.length → (((climb R p f x).1.run < R.length ∧ (climb R p f x).1.pos = 0) ∨ (climb R p f x).1 = ⟨p.run, p.pos + 1⟩)
  | 0, x, hx => fin_ok (by omega) p x
  | f + 1, x, hx => by
    obtain ⟨s1, s2, s3, s4⟩ := hD.step hx (hD.2.1 p.run)
    rw [climb_succ]
    split
    · exact fin_ok (by omega) p x
    · split
      · exact climb_ok hD f _ s3
      · split
        · exact climb_ok hD f _ s4
        · split
          · exact .inl ⟨hx, rfl⟩
          · exact fin_ok (by omega) p _
/-- A spot that a parent may be. -/
def SpP (S : SS) (x : Sp) : Prop := x.run < S.runs.length ∧ 0 ≤ x.pos ∧ (rn S.runs x.run).first.k + x.pos ≤ 9007199254740992
theorem Inv.spPk {S : SS} (h : Inv S) {x : Sp} (hx : SpP S x) : SpOk S x := by
  have := (h.fst x.run).k
  exact ⟨hx.1, hx.2.1, this.1, by have := hx.2.2; omega⟩
theorem Inv.childOk {S : SS} (h : Inv S) {p x : Sp} (hp : SpP S p) (hx : x.run < S.runs.length) : SpOk S (childR S.runs p x).1 := by
  rcases climb_ok h.down (p := p) (x.run + 1) x hx with ⟨a, b⟩ | e
  · have hk := (h.fst (childR S.runs p x).1.run).k
    have hk2 : (rn S.runs (childR S.runs p x).1.run).first.k ≤ 9007199254740991 := by
      by_cases h0 : (childR S.runs p x).1.run = 0
      · rw [h0, h.root]; decide
      · exact (h.runs _ (Nat.pos_of_ne_zero h0) a).2.2.2.2.2.2.2.2.2.2.2
    have b' : (childR S.runs p x).1.pos = 0 := b
    exact ⟨a, by omega, hk.1, by omega⟩
  · have e' : (childR S.runs p x).1 = ⟨p.run, p.pos + 1⟩ := e
    have hk := (h.fst p.run).k
    obtain ⟨a, b, c⟩ := hp
    rw [e']
    exact ⟨a, by show 0 ≤ p.pos + 1; omega, hk.1, by show (rn S.runs p.run).first.k + (p.pos + 1) ≤ _; omega⟩
theorem Inv.unitOk {S : SS} (h : Inv S) {x : Sp} (hx : SpOk S x) : (S.unit x).ok := by
  obtain ⟨a, b, c, d⟩ := hx
  have f := h.fst x.run
  unfold SS.unit unitR
  split
  · exact f
  · next hp =>
    have := f.k
    exact ⟨f.c, ⟨by show 0 ≤ _ + _; omega, by show _ + _ < (_ : Int); omega⟩, f.c, ⟨by show 0 ≤ _ + _ - 1; omega, by show _ + _ - 1 < (_ : Int); omega⟩, f.rc, f.rk⟩
theorem Inv.first_nn {S : SS} (h : Inv S) (i : Nat) : 0 ≤ (S.first i).c := by
  unfold SS.first SS.unit
  rw [unitR_c]
  exact (h.fst _).c
/-- A unit that is there, or none: where it is. -/
theorem Inv.there {S : SS} (h : Inv S) {c k : Int} (hc : 0 ≤ c) (hk : 0 ≤ k) (hf : S.find c k ≠ -1 ∨ (c = 0 ∧ k = 0)) : (S.first (S.piece c k)).c = c ∧ (S.first (S.piece c k)).k ≤ k ∧ k ≤ 9007199254740992 := by
  have h1 := h.piece_le c k hc hk
  have h2 := h.firstOk (h.piece_lt c k)
  have h3 := h.first_nn (S.piece c k)
  rcases hf with hf | ⟨e1, e2⟩
  · unfold SS.find at hf
    split at hf
    · exact absurd rfl hf
    · next hn =>
      have a : (S.first (S.piece c k)).c = c := Decidable.byContradiction fun e => hn (.inl e)
      have b : ¬ S.len (S.piece c k) ≤ k - (S.first (S.piece c k)).k := fun e => hn (.inr e)
      exact ⟨a, by omega, by omega⟩
  · exact ⟨by omega, by omega, by omega⟩
theorem Inv.spotOfP {S : SS} (h : Inv S) {c k : Int} (hle : (S.first (S.piece c k)).k ≤ k) (hk : k ≤ 9007199254740992) : SpP S (S.spotOf c k) := by
  obtain ⟨a, b, d, e, f⟩ := h.pcOk (h.piece_lt c k)
  have hkx : (S.first (S.piece c k)).k = (rn S.runs (S.pc (S.piece c k)).run).first.k + (S.pc (S.piece c k)).pos := unitR_k _ _
  unfold SS.spotOf
  exact ⟨a, by show 0 ≤ _ + (k - _); omega, by show (rn S.runs (S.pc (S.piece c k)).run).first.k + (_ + (k - _)) ≤ _; omega⟩
/-- What between says of origins. -/
theorem Inv.betw {S : SS} (h : Inv S) {u : Un} (hu : u.ok) (hb : (S.between u).2.2 = true) :
    (S.find u.lc u.lk ≠ -1 ∨ (u.lc = 0 ∧ u.lk = 0)) ∧ (S.find u.rc u.rk ≠ -1 ∨ (u.rc = 0 ∧ u.rk = 0)) ∧ (S.between u).1 = S.find u.lc u.lk + 1 ∧ (S.between u).2.1 = S.rightOf u ∧ S.find u.lc u.lk + 1 ≤ S.rightOf u ∧ 0 ≤ S.find u.lc u.lk + 1 := by
  have h1 := h.find_bd u.lc u.lk hu.lk.1 hu.lc
  unfold SS.between at hb ⊢
  split at hb
  · exact absurd hb (by simp)
  · next hn =>
    rw [if_neg hn]
    have a : ¬ (S.find u.lc u.lk + 1 = 0 ∧ ¬ (u.lc = 0 ∧ u.lk = 0)) := fun e => hn (.inl e)
    have b : ¬ S.rightOf u < S.find u.lc u.lk + 1 := fun e => hn (.inr e)
    refine ⟨?_, ?_, rfl, rfl, by omega, by omega⟩
    · by_cases hz : u.lc = 0 ∧ u.lk = 0
      · exact .inr hz
      · exact .inl fun e => a ⟨by omega, hz⟩
    · by_cases hz : u.rc = 0 ∧ u.rk = 0
      · exact .inr hz
      · refine .inl fun e => ?_
        unfold SS.rightOf at b
        rw [if_neg hz, e] at b
        omega
/-- A place that is found is one. -/
theorem Inv.find_le {S : SS} (h : Inv S) (c k : Int) (hc : 0 ≤ c) (hk : 0 ≤ k) : S.find c k < S.total ∨ S.find c k = -1 := by
  have h1 := h.piece_le c k hc hk
  unfold SS.find
  split
  · exact .inr rfl
  · next hn =>
    left
    have b : ¬ S.len (S.piece c k) ≤ k - (S.first (S.piece c k)).k := fun e => hn (.inr e)
    have a : (S.first (S.piece c k)).c = c := Decidable.byContradiction fun e => hn (.inl e)
    have hz : S.piece c k ≠ 0 := fun e => by rw [e, h.ordF.zero] at b; rw [e] at h1 a; omega
    have hm : S.piece c k ∈ S.ord := (h.ordF.lab _).2 ⟨by omega, h.piece_lt c k⟩
    obtain ⟨A, B, hAB⟩ := List.append_of_mem hm
    have hnA : S.piece c k ∉ A := fun hx => by
      have hn := h.ordF.nod
      rw [hAB] at hn
      exact (List.nodup_append.1 hn).2.2 _ hx _ (by simp) rfl
    have s1 := sumF_nn h.ordF.long B
    unfold SS.total
    rw [hAB, aheadF_of hnA, sumF_append, sumF_cons]
    omega
theorem Inv.rightOf_le {S : SS} (h : Inv S) {u : Un} (hu : u.ok) : S.rightOf u ≤ S.total := by
  have := h.total_nn
  unfold SS.rightOf
  split
  · exact Int.le_refl _
  · rcases h.find_le u.rc u.rk hu.rc hu.rk.1 with h' | h' <;> omega
end Go.Proofs.Ytcolbgbmnmkogab
