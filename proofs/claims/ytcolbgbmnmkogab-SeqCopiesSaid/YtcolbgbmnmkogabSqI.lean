/- What is so of a sequence (no Go in it): pieces are found by ids; numbers are in their bounds. -/
import Derived.Test.YtcolbgbmnmkogabSeqA
namespace Go.Proofs.Ytcolbgbmnmkogab
set_option linter.unusedVariables false
set_option linter.unusedSimpArgs false

theorem unitR_c (R : List Rn) (x : Sp) : (unitR R x).c = (rn R x.run).first.c := by unfold unitR; split <;> rfl
theorem unitR_k (R : List Rn) (x : Sp) : (unitR R x).k = (rn R x.run).first.k + x.pos := by
  unfold unitR
  split
  · next h => rw [h]; omega
  · rfl
theorem unitR_r (R : List Rn) (x : Sp) : (unitR R x).rc = (rn R x.run).first.rc ∧ (unitR R x).rk = (rn R x.run).first.rk := by unfold unitR; split <;> exact ⟨rfl, rfl⟩
/-- What unit asks of a spot. -/
def SpOk (S : SS) (x : Sp) : Prop := x.run < S.runs.length ∧ 0 ≤ x.pos ∧ 0 ≤ (rn S.runs x.run).first.k ∧ (rn S.runs x.run).first.k + x.pos ≤ 18014398509481984
theorem Inv.pcOk {S : SS} (h : Inv S) {i : Nat} (hi : i < S.pcs.length) : (S.pc i).run < S.runs.length ∧ 0 ≤ (S.pc i).pos ∧ 0 ≤ (rn S.runs (S.pc i).run).first.k ∧ (rn S.runs (S.pc i).run).first.k + (S.pc i).pos + S.len i ≤ 9007199254740992 ∧ 0 ≤ S.len i := by
  by_cases h0 : i = 0
  · rw [h0, h.p0]
    have hr : rn S.runs 0 = .zero := h.root
    show 0 < _ ∧ (0 : Int) ≤ 0 ∧ 0 ≤ (rn S.runs 0).first.k ∧ (rn S.runs 0).first.k + 0 + S.len 0 ≤ _ ∧ _
    rw [hr, h.ordF.zero]
    exact ⟨h.rlen, by decide, by decide, by decide, by decide⟩
  · obtain ⟨a, b, c, d, e⟩ := h.pcs i (by omega) hi
    have := (h.runs _ a b).2.2.2.2.2.2.2.2.2.2.1
    exact ⟨b, c, by omega, e, by omega⟩
theorem Inv.spOk {S : SS} (h : Inv S) {i : Nat} (hi : i < S.pcs.length) : SpOk S (S.pc i) := by
  obtain ⟨a, b, c, d, e⟩ := h.pcOk hi
  exact ⟨a, b, c, by omega⟩
theorem Inv.pos {S : SS} (h : Inv S) : 0 < S.pcs.length := h.ordF.n0
theorem dropWhile_all {p : Nat → Bool} {R : Nat → Nat → Prop} (hR : ∀ i j, R i j → p j = true → p i = true) : ∀ {l : List Nat}, l.Pairwise R → ∀ x ∈ l.dropWhile p, p x = false
  | [], _, x, hx => by cases hx
  | y :: l, h, x, hx => by
    have hc := List.pairwise_cons.1 h
    rw [List.dropWhile_cons] at hx
    cases hp : p y with
    | true => rw [hp] at hx; exact dropWhile_all hR hc.2 x hx
    | false =>
      rw [hp] at hx
      rcases List.mem_cons.1 hx with rfl | hx
      · exact hp
      · cases hq : p x with
        | false => rfl
        | true => exact absurd (hR y x (hc.1 x hx) hq) (by rw [hp]; simp)
theorem holds_iff {S : SS} {c k : Int} {i : Nat} : S.holds c k i = true ↔ (S.first i).c < c ∨ ((S.first i).c = c ∧ (S.first i).k ≤ k) := by
  unfold SS.holds lessI
  by_cases h : c = (S.first i).c
  · rw [if_pos h]
    simp
    omega
  · rw [if_neg h]
    simp
    omega
theorem Inv.mono {S : SS} (h : Inv S) (c k : Int) : ∀ x ∈ S.idx.dropWhile (S.holds c k), S.holds c k x = false := by
  have hl : ∀ i, 0 ≤ S.len i := h.ordF.long
  refine dropWhile_all (fun i j hR hj => ?_) h.sorted
  rw [holds_iff] at hj ⊢
  have := hl i
  omega
theorem getLastD_mem : ∀ {l : List Nat} {d : Nat}, l.getLastD d = d ∨ l.getLastD d ∈ l
  | [], d => .inl rfl
  | x :: l, d => by
    rw [List.getLastD_cons]
    rcases getLastD_mem (l := l) (d := x) with h | h
    · exact .inr (by rw [h]; simp)
    · exact .inr (List.mem_cons_of_mem _ h)
theorem lastF_mem {p : Nat → Bool} {l : List Nat} : lastF p l = 0 ∨ (lastF p l ∈ l ∧ p (lastF p l) = true) := by
  unfold lastF
  rcases getLastD_mem (l := l.takeWhile p) (d := 0) with h | h
  · exact .inl h
  · exact .inr ⟨(List.takeWhile_sublist p).mem h, List.all_eq_true.1 (List.all_takeWhile (p := p) (l := l)) _ h⟩
theorem Inv.piece_lt {S : SS} (h : Inv S) (c k : Int) : S.piece c k < S.pcs.length := by
  unfold SS.piece
  rcases lastF_mem (p := S.holds c k) (l := S.idx) with e | ⟨e, _⟩
  · rw [e]; exact h.pos
  · exact ((h.idxF.lab _).1 e).2
theorem Inv.first0 {S : SS} (h : Inv S) : S.first 0 = .zero := by
  unfold SS.first SS.unit unitR
  rw [h.p0, if_pos rfl]
  show (rn S.runs 0).first = _
  rw [h.root]
/-- The piece that is found is no later than what is sought. -/
theorem Inv.piece_le {S : SS} (h : Inv S) (c k : Int) (hc : 0 ≤ c) (hk : 0 ≤ k) : (S.first (S.piece c k)).c < c ∨ ((S.first (S.piece c k)).c = c ∧ (S.first (S.piece c k)).k ≤ k) := by
  unfold SS.piece
  rcases lastF_mem (p := S.holds c k) (l := S.idx) with e | ⟨_, e⟩
  · rw [e, h.first0]
    show (0 : Int) < c ∨ ((0 : Int) = c ∧ (0 : Int) ≤ k)
    omega
  · exact holds_iff.1 e
theorem Inv.firstOk {S : SS} (h : Inv S) {i : Nat} (hi : i < S.pcs.length) : 0 ≤ (S.first i).k ∧ (S.first i).k + S.len i ≤ 9007199254740992 ∧ 0 ≤ S.len i := by
  obtain ⟨a, b, c, d, e⟩ := h.pcOk hi
  unfold SS.first SS.unit
  rw [unitR_k]
  omega
theorem sumF_mem {len : Nat → Int} (hl : ∀ x, 0 ≤ len x) : ∀ {l : List Nat} {i : Nat}, i ∈ l → len i ≤ sumF len l
  | x :: l, i, h => by
    have := sumF_nn hl l
    have := hl x
    rw [sumF_cons]
    rcases List.mem_cons.1 h with rfl | h
    · omega
    · have := sumF_mem hl h
      omega
theorem Inv.len_le {S : SS} (h : Inv S) (i : Nat) : S.len i ≤ 281474976710656 := by
  have h1 := h.smax
  by_cases hi : i ∈ S.ord
  · have := sumF_mem h.ordF.long hi
    unfold SS.total at h1
    omega
  · have : S.len i = 0 := by
      by_cases h0 : i = 0
      · rw [h0]; exact h.ordF.zero
      · refine h.ordF.out i ?_
        rcases Nat.lt_or_ge i S.pcs.length with h' | h'
        · exact absurd ((h.ordF.lab i).2 ⟨by omega, h'⟩) hi
        · exact h'
    omega
theorem takeWhile_sum {len : Nat → Int} (hl : ∀ x, 0 ≤ len x) (p : Nat → Bool) (l : List Nat) : sumF len (l.takeWhile p) ≤ sumF len l := by
  have h := List.takeWhile_append_dropWhile (p := p) (l := l)
  have h2 := sumF_nn hl (l.dropWhile p)
  have h3 := sumF_append len (l.takeWhile p) (l.dropWhile p)
  rw [h] at h3
  omega
theorem Inv.ahead_le {S : SS} (h : Inv S) (i : Nat) : 0 ≤ aheadF S.len S.ord i ∧ aheadF S.len S.ord i ≤ 281474976710656 := by
  have h1 := h.smax
  have := takeWhile_sum h.ordF.long (fun x => decide (x ≠ i)) S.ord
  unfold SS.total at h1
  exact ⟨sumF_nn h.ordF.long _, by unfold aheadF; omega⟩
theorem Inv.total_nn {S : SS} (h : Inv S) : 0 ≤ S.total := sumF_nn h.ordF.long _
/-- What at tells: a thing of the row, and a place within it; or none. -/
theorem atF_in {len : Nat → Int} (hl : ∀ x, 0 ≤ len x) : ∀ (l : List Nat) (p : Int), atF len l p = (0, 0) ∨ ((atF len l p).1 ∈ l ∧ 0 ≤ (atF len l p).2 ∧ (atF len l p).2 < len (atF len l p).1)
  | [], p => .inl rfl
  | i :: l, p => by
    unfold atF
    by_cases h0 : p < 0
    · rw [if_pos h0]; exact .inl rfl
    · rw [if_neg h0]
      by_cases h1 : p < len i
      · rw [if_pos h1]
        exact .inr ⟨by simp, by show 0 ≤ p; omega, h1⟩
      · rw [if_neg h1]
        rcases atF_in hl l (p - len i) with h | ⟨a, b⟩
        · exact .inl h
        · exact .inr ⟨by simp [a], b⟩
theorem Inv.atOk {S : SS} (h : Inv S) (p : Int) : (atF S.len S.ord p).1 < S.pcs.length ∧ 0 ≤ (atF S.len S.ord p).2 ∧ (atF S.len S.ord p).2 ≤ S.len (atF S.len S.ord p).1 := by
  rcases atF_in h.ordF.long S.ord p with e | ⟨a, b, c⟩
  · rw [e]
    exact ⟨h.pos, Int.le_refl _, h.ordF.long 0⟩
  · exact ⟨((h.ordF.lab _).1 a).2, b, by omega⟩
end Go.Proofs.Ytcolbgbmnmkogab
