/- What is so of a sequence stays so behind a run that is laid (no Go in it). -/
import Derived.Test.YtcolbgbmnmkogabSqL
namespace Go.Proofs.Ytcolbgbmnmkogab
set_option linter.unusedVariables false
set_option linter.unusedSimpArgs false

theorem insB_last {n : Nat} : ∀ {A B : List Nat}, (A ++ B).Nodup → 0 ∉ A → insB (A.getLastD 0) n (A ++ B) = A ++ n :: B := by
  intro A B hn h0
  rcases List.eq_nil_or_concat A with rfl | ⟨A0, y, rfl⟩
  · exact insB_zero n B
  · have e : (A0.concat y).getLastD 0 = y := by rw [List.concat_eq_append]; exact getLastD_mid A0 [] y 0
    rw [e, List.concat_eq_append]
    rw [List.concat_eq_append] at hn h0
    have hy : y ∉ A0 := fun hx => (List.nodup_append.1 (List.nodup_append.1 hn).1).2.2 y hx y (by simp) rfl
    rw [List.append_assoc, List.append_assoc]
    exact insB_of (fun e => h0 (by simp [e])) hy
theorem pairwise_last {R : Nat → Nat → Prop} {p : Nat → Bool} {n : Nat} {l : List Nat} (hn : l.Nodup) (hp : l.Pairwise R) (h0 : 0 ∉ l) (hm : ∀ x ∈ l.dropWhile p, p x = false) (h1 : ∀ x ∈ l, p x = true → R x n) (h2 : ∀ x ∈ l, p x = false → R n x) : (insB (lastF p l) n l).Pairwise R := by
  have e := List.takeWhile_append_dropWhile (p := p) (l := l)
  have ht : ∀ x ∈ l.takeWhile p, p x = true := fun x hx => List.all_eq_true.1 (List.all_takeWhile (p := p) (l := l)) x hx
  have h0' : 0 ∉ l.takeWhile p := fun hx => h0 ((List.takeWhile_sublist p).mem hx)
  have k : insB (lastF p l) n l = l.takeWhile p ++ n :: l.dropWhile p := by
    have := insB_last (n := n) (A := l.takeWhile p) (B := l.dropWhile p) (by rw [e]; exact hn) h0'
    rw [e] at this
    exact this
  rw [k]
  rw [← e] at hp
  obtain ⟨p1, p2, p3⟩ := List.pairwise_append.1 hp
  refine List.pairwise_append.2 ⟨p1, List.pairwise_cons.2 ⟨fun x hx => h2 x ((List.dropWhile_sublist p).mem hx) (hm x hx), p2⟩, fun x hx y hy => ?_⟩
  rcases List.mem_cons.1 hy with rfl | hy
  · exact h1 x ((List.takeWhile_sublist p).mem hx) (ht x hx)
  · exact p3 x hx y hy
/-- None of these ids is there. -/
def Free (S : SS) (c k n : Int) : Prop := ∀ x, 0 < x → x < S.pcs.length → (S.first x).c ≠ c ∨ (S.first x).k + S.len x ≤ k ∨ k + n ≤ (S.first x).k
theorem Inv.free {S : SS} (h : Inv S) {c k n : Int} (hn : 1 ≤ n) (hf : S.hasAny c k n = false) : Free S c k n := by
  intro x hx0 hxl
  have hm := h.mono c (k + (n - 1))
  unfold SS.hasAny at hf
  have hf' := of_decide_eq_false hf
  by_cases hxc : (S.first x).c = c
  · right
    by_cases hh : S.holds c (k + (n - 1)) x = true
    · left
      have hxi : x ∈ S.idx := (h.idxF.lab x).2 ⟨hx0, hxl⟩
      have hxt : x ∈ S.idx.takeWhile (S.holds c (k + (n - 1))) := by
        have e := List.takeWhile_append_dropWhile (p := S.holds c (k + (n - 1))) (l := S.idx)
        rw [← e] at hxi
        rcases List.mem_append.1 hxi with h' | h'
        · exact h'
        · exact absurd (hm x h') (by rw [hh]; simp)
      -- x is the piece that is found, or ahead of it
      have hpl : S.piece c (k + (n - 1)) = (S.idx.takeWhile (S.holds c (k + (n - 1)))).getLastD 0 := rfl
      have hs := h.sorted
      rw [← List.takeWhile_append_dropWhile (p := S.holds c (k + (n - 1))) (l := S.idx)] at hs
      have hs1 := (List.pairwise_append.1 hs).1
      generalize S.idx.takeWhile (S.holds c (k + (n - 1))) = A at *
      rcases List.eq_nil_or_concat A with rfl | ⟨A0, y, rfl⟩
      · cases hxt
      · have e : (A0.concat y).getLastD 0 = y := by rw [List.concat_eq_append]; exact getLastD_mid A0 [] y 0
        rw [e] at hpl
        rw [hpl] at hf'
        rw [List.concat_eq_append] at hxt hs1
        have hle : ∀ i, 0 ≤ S.len i := h.ordF.long
        have hc' := h.piece_le c (k + (n - 1))
        rcases List.mem_append.1 hxt with h' | h'
        · have hR := (List.pairwise_append.1 hs1).2.2 x h' y (by simp)
          have := hle y
          have hyh : S.holds c (k + (n - 1)) y = true := by
            rcases lastF_mem (p := S.holds c (k + (n - 1))) (l := S.idx) with e' | ⟨_, e'⟩
            · have : S.piece c (k + (n - 1)) = 0 := e'
              rw [hpl] at this
              subst this
              have := (h.idxF.lab 0).1
              exfalso
              have h00 : (0 : Nat) ∈ S.idx := by
                have hs2 := h.first0
                rw [hs2] at hR
                have := h.first_nn x
                rcases hR with hR | ⟨hR, hR2⟩
                · exact absurd hR (by show ¬ _ < (0 : Int); omega)
                · have h3 := h.firstOk hxl
                  have h4 := (h.pcs x hx0 hxl).2.2.2.1
                  exact absurd hR2 (by show ¬ _ + _ ≤ (0 : Int); omega)
              have := (h.idxF.lab 0).1 h00
              omega
            · have : S.holds c (k + (n - 1)) (S.piece c (k + (n - 1))) = true := e'
              rw [hpl] at this
              exact this
          rw [holds_iff] at hyh
          omega
        · have e' : x = y := by simpa using h'
          rw [e'] at hxc ⊢
          omega
    · right
      have hh' : S.holds c (k + (n - 1)) x = false := by simpa using hh
      have : ¬ ((S.first x).c < c ∨ ((S.first x).c = c ∧ (S.first x).k ≤ k + (n - 1))) := fun h' => by
        rw [holds_iff.2 h'] at hh'
        cases hh'
      omega
  · exact .inl hxc
end Go.Proofs.Ytcolbgbmnmkogab
