/- Where add hangs a new thing. -/
import Derived.Test.YtcolbgbmnmkogabTreQ
namespace Go.Proofs.Ytcolbgbmnmkogab
set_option linter.unusedVariables false
set_option linter.unusedSimpArgs false

theorem seen_empty {A : Nat → Th} {n : Nat} {lg : Int} (h : RowOk A n .nil) (hl : 0 ≤ lg) : Rep (hangA A 0 1 n) 0 (.node .nil n .nil) ∧
    Seen (growA (hangA A 0 1 n) n (n :: ups []) lg) (n + 1) n ([] ++ n :: []) (fun x => (A x).long + (if x = n then lg else 0)) [] .nil .nil := by
  have hF := fresh_of h
  have hn0 := h.n0
  have hn1 : n = 1 := by
    by_cases e : n = 1
    · exact e
    · have : 1 ∈ Tr.flat .nil := (h.lab 1).2 ⟨by omega, by omega⟩
      cases this
  obtain ⟨f1, f2, f3⟩ := hang_facts (s := 1) (u := 0) hF (by omega)
  have hr : Rep (hangA A 0 1 n) 0 (.node .nil n .nil) := ⟨by rw [f2], by rw [f2]; rfl, by rw [f2]; rfl, by rw [f2]; rfl, trivial, trivial⟩
  refine ⟨hr, seen_of (A1 := hangA A 0 1 n) (c := []) hr rfl (by simp) (fun x => ?_) ?_ (fun x => ?_) h.long (fun x hx => ?_) hl⟩
  · simp
    omega
  · rw [f1, h.head]
    simp [Th.put]
    rfl
  · by_cases h1 : x = 0
    · rw [h1, f1]; rfl
    · by_cases h2 : x = n
      · rw [h2, f2, hF.th]
      · rw [f3 x h1 h2]
  · rw [f3 x (by omega) (by omega)]
    exact h.out x (by omega)
theorem cl_append : ∀ (c' c : List Fr), cl c' = [] → cl (c' ++ c) = cl c
  | [], _, _ => rfl
  | .L u r :: c', c, h => cl_append c' c h
  | .R l u :: c', c, h => by simp [cl] at h
/-- The right side of i, and what add makes there. -/
structure Hung (A : Nat → Th) (n i : Nat) (t : Tr) (lg : Int) (d : Tr) (c1 : List Fr) (P Q : List Nat) : Prop where
  d1 : (A i).d1 = d.root
  rep : Rep A i d
  fits : d.Fits n
  hung : Rep (hangA A (if d.root = 0 then i else d.first) (if d.root = 0 then 1 else 0) n) 0 (plug c1 (.node .nil n .nil))
  seen : Seen (growA (hangA A (if d.root = 0 then i else d.first) (if d.root = 0 then 1 else 0) n) n (n :: ups c1) lg) (n + 1) n (P ++ n :: Q) (fun x => (A x).long + (if x = n then lg else 0)) c1 .nil .nil
  flat : t.flat = P ++ Q
  behind : (i = 0 ∧ P = []) ∨ (i ≠ 0 ∧ ∃ P', P = P' ++ [i])
  ult : (if d.root = 0 then i else d.first) < n
theorem fits_root {d : Tr} {n : Nat} (h : d.Fits n) (hd : d ≠ .nil) : d.root ≠ 0 := (h _ (root_mem hd)).2
theorem first_mem {t : Tr} (h : t ≠ .nil) : t.first ∈ t.flat := by
  obtain ⟨l, e⟩ := first_head h
  rw [e]; simp
theorem hung_of {A : Nat → Th} {n i : Nat} {t : Tr} {lg : Int} (h : RowOk A n t) (hi : i < n) (hl : 0 ≤ lg) : ∃ d c1 P Q, Hung A n i t lg d c1 P Q := by
  have hft : t.Fits n := fun x hx => by have := (h.lab x).1 hx; exact ⟨by omega, by omega⟩
  by_cases h0 : i = 0
  · subst h0
    have hd : (A 0).d1 = t.root := by rw [h.head]
    cases ht : t with
    | nil =>
      subst ht
      obtain ⟨q1, q2⟩ := seen_empty h hl
      exact ⟨.nil, [], [], [], ⟨hd, trivial, hft, q1, q2, rfl, .inl ⟨rfl, rfl⟩, h.n0⟩⟩
    | node l x r =>
      rw [← ht]
      have hne : t ≠ .nil := by rw [ht]; simp
      have hr0 := fits_root hft hne
      obtain ⟨c, a, e, hc⟩ := focus_first hne
      have h' := h
      rw [e] at h'
      have hs := seen_front (lg := lg) h' hl
      have hf := leaf_front h'.rep h'.nod (fresh_of h')
      refine ⟨t, .L t.first a :: c, cl c, t.first :: a.flat ++ cr c, ⟨hd, h.rep, hft, by rw [if_neg hr0, if_neg hr0]; exact hf, by rw [if_neg hr0, if_neg hr0]; exact hs, ?_, .inl ⟨rfl, hc⟩, by rw [if_neg hr0]; exact (hft _ (first_mem hne)).1⟩⟩
      have := (flat_leaf_front c a t.first n).2
      rw [← e] at this
      exact this
  · have him : i ∈ t.flat := (h.lab i).2 ⟨by omega, hi⟩
    obtain ⟨c', a, d, e⟩ := focus him []
    rw [List.append_nil] at e
    have e : t = plug c' (.node a i d) := e
    have h' := h
    rw [e] at h'
    obtain ⟨hC, i1, i2, i3, i4, i5, i6⟩ := (rep_plug A c' (.node a i d)).1 h'.rep
    have hfd : d.Fits n := fun x hx => hft x (by rw [e, flat_plug]; simp [Tr.flat, hx])
    cases hd : d with
    | nil =>
      subst hd
      have hs := seen_back (lg := lg) h' hl
      have hf := leaf_back h'.rep h'.nod (fresh_of h')
      refine ⟨.nil, .R a i :: c', cl c' ++ (a.flat ++ [i]), cr c', ⟨i3, trivial, hfd, hf, hs, ?_, .inr ⟨h0, cl c' ++ a.flat, by simp⟩, hi⟩⟩
      rw [e]
      exact (flat_leaf_back c' a i n).2
    | node l x r =>
      have hne : d ≠ .nil := by rw [hd]; simp
      have hr0 := fits_root hfd hne
      obtain ⟨c, a', e2, hc⟩ := focus_first hne
      have e3 : t = plug (c ++ .R a i :: c') (.node .nil d.first a') := by
        rw [plug_append, ← e2]
        exact e
      have h3 := h
      rw [e3] at h3
      have hs := seen_front (lg := lg) h3 hl
      have hf := leaf_front h3.rep h3.nod (fresh_of h3)
      have hcl : cl (c ++ .R a i :: c') = cl c' ++ (a.flat ++ [i]) := cl_append c _ hc
      refine ⟨d, .L d.first a' :: (c ++ .R a i :: c'), cl (c ++ .R a i :: c'), d.first :: a'.flat ++ cr (c ++ .R a i :: c'), ⟨i3, i6, hfd, by rw [if_neg hr0, if_neg hr0]; exact hf, by rw [if_neg hr0, if_neg hr0]; exact hs, ?_, .inr ⟨h0, cl c' ++ a.flat, by rw [hcl]; simp⟩, by rw [if_neg hr0]; exact (hfd _ (first_mem hne)).1⟩⟩
      have := (flat_leaf_front (c ++ .R a i :: c') a' d.first n).2
      rw [← e3] at this
      exact this
end Go.Proofs.Ytcolbgbmnmkogab
