/- A new thing, hung and grown: the row in its form, seen from it. -/
import Derived.Test.YtnbphdmpbjahhaaPart6
namespace Go.Proofs.Ytnbphdmpbjahhaa
set_option linter.unusedVariables false
set_option linter.unusedSimpArgs false

theorem grow_other {A : Nat → Th} {i : Nat} {P : List Nat} {n : Int} {j : Nat} (h1 : j ≠ i) (h2 : j ∉ P) : growA A i P n j = A j := by simp [growA, moreW, moreL, h1, h2]
theorem grow_long {A : Nat → Th} {i : Nat} {P : List Nat} {n : Int} (j : Nat) : (growA A i P n j).long = (A j).long + (if j = i then n else 0) := by
  unfold growA moreW moreL
  by_cases h1 : j = i
  · subst h1
    by_cases h2 : j ∈ P <;> simp [h2]
  · by_cases h2 : j ∈ P <;> simp [h1, h2]
theorem ups_flat {c : List Fr} {t : Tr} {x : Nat} (h : x ∈ ups c) : x ∈ (plug c t).flat := by
  rw [flat_plug]
  rcases List.mem_append.1 (ups_sub h) with h | h <;> simp [h]
/-- Out of a leaf that is hung: the row in its form. -/
theorem seen_of {A A1 : Nat → Th} {n : Nat} {c : List Fr} {F : List Nat} {lg : Int} (hr : Rep A1 0 (plug c (.node .nil n .nil))) (hfl : (plug c (.node .nil n .nil)).flat = F) (hN : F.Nodup) (hlab : ∀ x, x ∈ F ↔ 1 ≤ x ∧ x < n + 1) (hhd : A1 0 = ⟨0, 0, (plug c (.node .nil n .nil)).root, 0, 0⟩) (hlong : ∀ x, (A1 x).long = (A x).long) (hA : ∀ x, 0 ≤ (A x).long) (hout : ∀ x, n + 1 ≤ x → A1 x = ⟨0, 0, 0, 0, 0⟩) (hl : 0 ≤ lg) :
    Seen (growA A1 n (n :: ups c) lg) (n + 1) n F (fun x => (A x).long + (if x = n then lg else 0)) c .nil .nil := by
  have hup : ∀ x ∈ n :: ups c, x ∈ F := fun x hx => by
    rw [← hfl]
    rcases List.mem_cons.1 hx with rfl | hx
    · rw [flat_plug]; simp [Tr.flat]
    · exact ups_flat hx
  have hnn : n ∈ F := hup n (by simp)
  have hn1 := (hlab n).1 hnn
  refine ⟨⟨by omega, ?_, grow_rep hr (by rw [hfl]; exact hN), by rw [hfl]; exact hN, fun x => by rw [hfl]; exact hlab x, fun x => ?_, fun x hx => ?_⟩, hfl, fun j => ?_⟩
  · rw [grow_other (by omega) (fun h => by have := (hlab 0).1 (hup 0 h); omega), hhd]
  · rw [grow_long, hlong]
    have := hA x
    split <;> omega
  · rw [grow_other (by omega) (fun h => by have := (hlab x).1 (hup x h); omega), hout x hx]
  · rw [grow_long, hlong]
theorem fresh_of {A : Nat → Th} {n : Nat} {t : Tr} (h : RowOk A n t) : Fresh A n t.flat := ⟨by have := h.n0; omega, fun hx => by have := (h.lab n).1 hx; omega, h.out n (Nat.le_refl _)⟩
theorem ins_nodup {P Q : List Nat} {n : Nat} (h : (P ++ Q).Nodup) (hn : n ∉ P ++ Q) : (P ++ n :: Q).Nodup := by
  have hp : (P ++ n :: Q).Perm (n :: (P ++ Q)) := List.perm_middle
  exact hp.nodup_iff.2 (List.nodup_cons.2 ⟨hn, h⟩)
/-- The new one on the back of i. -/
theorem seen_back {A : Nat → Th} {n i : Nat} {c : List Fr} {a : Tr} {lg : Int} (h : RowOk A n (plug c (.node a i .nil))) (hl : 0 ≤ lg) :
    Seen (growA (hangA A i 1 n) n (n :: ups (.R a i :: c)) lg) (n + 1) n (cl c ++ (a.flat ++ [i]) ++ n :: cr c) (fun x => (A x).long + (if x = n then lg else 0)) (.R a i :: c) .nil .nil := by
  have hF := fresh_of h
  have hfl := flat_leaf_back c a i n
  have him : i ∈ (plug c (.node a i .nil)).flat := by rw [flat_plug]; simp [Tr.flat]
  have hi := (h.lab i).1 him
  have un : i ≠ n := by omega
  obtain ⟨f1, f2, f3⟩ := hang_facts (s := 1) hF un
  have hnd : (cl c ++ (a.flat ++ [i]) ++ cr c).Nodup := by rw [← hfl.2]; exact h.nod
  have hnn : n ∉ cl c ++ (a.flat ++ [i]) ++ cr c := by rw [← hfl.2]; exact hF.nl
  have hn0 := hF.n0
  refine seen_of (leaf_back h.rep h.nod hF) hfl.1 (ins_nodup hnd hnn) (fun x => ?_) ?_ (fun x => ?_) h.long (fun x hx => ?_) hl
  · have := h.lab x
    rw [hfl.2] at this
    rw [List.mem_append, List.mem_cons]
    rw [List.mem_append] at this
    have hn0 := h.n0
    constructor
    · rintro (h9 | rfl | h9)
      · have := this.1 (.inl h9); omega
      · omega
      · have := this.1 (.inr h9); omega
    · intro h9
      by_cases e : x = n
      · exact .inr (.inl e)
      · rcases this.2 (by omega) with h8 | h8
        · exact .inl h8
        · exact .inr (.inr h8)
  · rw [f3 0 (by omega) (by omega), h.head, root_plug, root_plug]
    rfl
  · by_cases h1 : x = i
    · rw [h1, f1]; rfl
    · by_cases h2 : x = n
      · rw [h2, f2, hF.th]
      · rw [f3 x h1 h2]
  · rw [f3 x (by omega) (by omega)]
    exact h.out x (by omega)
/-- The new one on the front of u. -/
theorem seen_front {A : Nat → Th} {n u : Nat} {c : List Fr} {a : Tr} {lg : Int} (h : RowOk A n (plug c (.node .nil u a))) (hl : 0 ≤ lg) :
    Seen (growA (hangA A u 0 n) n (n :: ups (.L u a :: c)) lg) (n + 1) n (cl c ++ n :: (u :: a.flat ++ cr c)) (fun x => (A x).long + (if x = n then lg else 0)) (.L u a :: c) .nil .nil := by
  have hF := fresh_of h
  have hfl := flat_leaf_front c a u n
  have him : u ∈ (plug c (.node .nil u a)).flat := by rw [flat_plug]; simp [Tr.flat]
  have hi := (h.lab u).1 him
  have un : u ≠ n := by omega
  obtain ⟨f1, f2, f3⟩ := hang_facts (s := 0) hF un
  have hnd : (cl c ++ (u :: a.flat ++ cr c)).Nodup := by rw [← hfl.2]; exact h.nod
  have hnn : n ∉ cl c ++ (u :: a.flat ++ cr c) := by rw [← hfl.2]; exact hF.nl
  have hn0 := hF.n0
  refine seen_of (leaf_front h.rep h.nod hF) hfl.1 (ins_nodup hnd hnn) (fun x => ?_) ?_ (fun x => ?_) h.long (fun x hx => ?_) hl
  · have := h.lab x
    rw [hfl.2] at this
    rw [List.mem_append, List.mem_cons]
    rw [List.mem_append] at this
    have hn0 := h.n0
    constructor
    · rintro (h9 | rfl | h9)
      · have := this.1 (.inl h9); omega
      · omega
      · have := this.1 (.inr h9); omega
    · intro h9
      by_cases e : x = n
      · exact .inr (.inl e)
      · rcases this.2 (by omega) with h8 | h8
        · exact .inl h8
        · exact .inr (.inr h8)
  · rw [f3 0 (by omega) (by omega), h.head, root_plug, root_plug]
    rfl
  · by_cases h1 : x = u
    · rw [h1, f1]; rfl
    · by_cases h2 : x = n
      · rw [h2, f2, hF.th]
      · rw [f3 x h1 h2]
  · rw [f3 x (by omega) (by omega)]
    exact h.out x (by omega)
end Go.Proofs.Ytnbphdmpbjahhaa

/- Where add hangs a new thing. -/
namespace Go.Proofs.Ytnbphdmpbjahhaa
set_option linter.unusedVariables false
set_option linter.unusedSimpArgs false

theorem seen_empty {A : Nat → Th} {n : Nat} {lg : Int} (h : RowOk A n .nil) (hl : 0 ≤ lg) : Rep (hangA A 0 1 n) 0 (.node .nil n .nil) ∧
    Seen (growA (hangA A 0 1 n) n (n :: ups []) lg) (n + 1) n ([] ++ n :: []) (fun x => (A x).long + (if x = n then lg else 0)) [] .nil .nil := by
  have hF := fresh_of h
  have hn0 := h.n0
  have hn1 : n = 1 := by
    by_cases e : n = 1
    · exact e
    · have : 1 ∈ Tr.flat .nil := (h.lab 1).2 ⟨by omega, by omega⟩
      cases this
  obtain ⟨f1, f2, f3⟩ := hang_facts (s := 1) (u := 0) hF (by omega)
  have hr : Rep (hangA A 0 1 n) 0 (.node .nil n .nil) := ⟨by rw [f2], by rw [f2]; rfl, by rw [f2]; rfl, by rw [f2]; rfl, trivial, trivial⟩
  refine ⟨hr, seen_of (A1 := hangA A 0 1 n) (c := []) hr rfl (by simp) (fun x => ?_) ?_ (fun x => ?_) h.long (fun x hx => ?_) hl⟩
  · simp
    omega
  · rw [f1, h.head]
    simp [Th.put]
    rfl
  · by_cases h1 : x = 0
    · rw [h1, f1]; rfl
    · by_cases h2 : x = n
      · rw [h2, f2, hF.th]
      · rw [f3 x h1 h2]
  · rw [f3 x (by omega) (by omega)]
    exact h.out x (by omega)
theorem cl_append : ∀ (c' c : List Fr), cl c' = [] → cl (c' ++ c) = cl c
  | [], _, _ => rfl
  | .L u r :: c', c, h => cl_append c' c h
  | .R l u :: c', c, h => by simp [cl] at h
/-- The right side of i, and what add makes there. -/
structure Hung (A : Nat → Th) (n i : Nat) (t : Tr) (lg : Int) (d : Tr) (c1 : List Fr) (P Q : List Nat) : Prop where
  d1 : (A i).d1 = d.root
  rep : Rep A i d
  fits : d.Fits n
  hung : Rep (hangA A (if d.root = 0 then i else d.first) (if d.root = 0 then 1 else 0) n) 0 (plug c1 (.node .nil n .nil))
  seen : Seen (growA (hangA A (if d.root = 0 then i else d.first) (if d.root = 0 then 1 else 0) n) n (n :: ups c1) lg) (n + 1) n (P ++ n :: Q) (fun x => (A x).long + (if x = n then lg else 0)) c1 .nil .nil
  flat : t.flat = P ++ Q
  behind : (i = 0 ∧ P = []) ∨ (i ≠ 0 ∧ ∃ P', P = P' ++ [i])
  ult : (if d.root = 0 then i else d.first) < n
theorem fits_root {d : Tr} {n : Nat} (h : d.Fits n) (hd : d ≠ .nil) : d.root ≠ 0 := (h _ (root_mem hd)).2
theorem first_mem {t : Tr} (h : t ≠ .nil) : t.first ∈ t.flat := by
  obtain ⟨l, e⟩ := first_head h
  rw [e]; simp
theorem hung_of {A : Nat → Th} {n i : Nat} {t : Tr} {lg : Int} (h : RowOk A n t) (hi : i < n) (hl : 0 ≤ lg) : ∃ d c1 P Q, Hung A n i t lg d c1 P Q := by
  have hft : t.Fits n := fun x hx => by have := (h.lab x).1 hx; exact ⟨by omega, by omega⟩
  by_cases h0 : i = 0
  · subst h0
    have hd : (A 0).d1 = t.root := by rw [h.head]
    cases ht : t with
    | nil =>
      subst ht
      obtain ⟨q1, q2⟩ := seen_empty h hl
      exact ⟨.nil, [], [], [], ⟨hd, trivial, hft, q1, q2, rfl, .inl ⟨rfl, rfl⟩, h.n0⟩⟩
    | node l x r =>
      rw [← ht]
      have hne : t ≠ .nil := by rw [ht]; simp
      have hr0 := fits_root hft hne
      obtain ⟨c, a, e, hc⟩ := focus_first hne
      have h' := h
      rw [e] at h'
      have hs := seen_front (lg := lg) h' hl
      have hf := leaf_front h'.rep h'.nod (fresh_of h')
      refine ⟨t, .L t.first a :: c, cl c, t.first :: a.flat ++ cr c, ⟨hd, h.rep, hft, by rw [if_neg hr0, if_neg hr0]; exact hf, by rw [if_neg hr0, if_neg hr0]; exact hs, ?_, .inl ⟨rfl, hc⟩, by rw [if_neg hr0]; exact (hft _ (first_mem hne)).1⟩⟩
      have := (flat_leaf_front c a t.first n).2
      rw [← e] at this
      exact this
  · have him : i ∈ t.flat := (h.lab i).2 ⟨by omega, hi⟩
    obtain ⟨c', a, d, e⟩ := focus him []
    rw [List.append_nil] at e
    have e : t = plug c' (.node a i d) := e
    have h' := h
    rw [e] at h'
    obtain ⟨hC, i1, i2, i3, i4, i5, i6⟩ := (rep_plug A c' (.node a i d)).1 h'.rep
    have hfd : d.Fits n := fun x hx => hft x (by rw [e, flat_plug]; simp [Tr.flat, hx])
    cases hd : d with
    | nil =>
      subst hd
      have hs := seen_back (lg := lg) h' hl
      have hf := leaf_back h'.rep h'.nod (fresh_of h')
      refine ⟨.nil, .R a i :: c', cl c' ++ (a.flat ++ [i]), cr c', ⟨i3, trivial, hfd, hf, hs, ?_, .inr ⟨h0, cl c' ++ a.flat, by simp⟩, hi⟩⟩
      rw [e]
      exact (flat_leaf_back c' a i n).2
    | node l x r =>
      have hne : d ≠ .nil := by rw [hd]; simp
      have hr0 := fits_root hfd hne
      obtain ⟨c, a', e2, hc⟩ := focus_first hne
      have e3 : t = plug (c ++ .R a i :: c') (.node .nil d.first a') := by
        rw [plug_append, ← e2]
        exact e
      have h3 := h
      rw [e3] at h3
      have hs := seen_front (lg := lg) h3 hl
      have hf := leaf_front h3.rep h3.nod (fresh_of h3)
      have hcl : cl (c ++ .R a i :: c') = cl c' ++ (a.flat ++ [i]) := cl_append c _ hc
      refine ⟨d, .L d.first a' :: (c ++ .R a i :: c'), cl (c ++ .R a i :: c'), d.first :: a'.flat ++ cr (c ++ .R a i :: c'), ⟨i3, i6, hfd, by rw [if_neg hr0, if_neg hr0]; exact hf, by rw [if_neg hr0, if_neg hr0]; exact hs, ?_, .inr ⟨h0, cl c' ++ a.flat, by rw [hcl]; simp⟩, by rw [if_neg hr0]; exact (hfd _ (first_mem hne)).1⟩⟩
      have := (flat_leaf_front (c ++ .R a i :: c') a' d.first n).2
      rw [← e3] at this
      exact this
end Go.Proofs.Ytnbphdmpbjahhaa

/- Package seq's row: add. -/
namespace Go.Proofs.Ytnbphdmpbjahhaa
open Go.RowKit
set_option linter.unusedVariables false
set_option linter.unusedSimpArgs false
set_option maxRecDepth 100000

set_option maxHeartbeats 2000000 in
theorem drawn_any (i : Int) (w : World) : Calls Try.prog 79 #[iV i] w fun e w' => (∃ v : Int, e = .returned (.int .u64 v)) ∧ w' = w := by
  go_enter Try.func79, Try.ntmps79
  go_wp2_with fail
  go_ret
  exact ⟨⟨_, rfl⟩, rfl⟩
/-- lift, at a row in its form. -/
theorem lift_seen {w : World} {b k g cap : Nat} {L : List Th} (h : Things w b k g cap L) {n x : Nat} {F : List Nat} {q : Nat → Int} {f : Fr} {c : List Fr} {a d : Tr} (hn : L.length = n) (hS : Seen (gt L) n x F q (f :: c) a d) (hs : (plug (f :: c) (.node a x d)).sum (gt L) ≤ 1152921504606846976) :
    Calls Try.prog 80 #[rP b k, iV (x : Int)] w fun e w' => e = .returned (.tuple #[]) ∧ (∃ L' a' d', Things w' b k g cap L' ∧ L'.length = n ∧ Seen (gt L') n x F q c a' d') ∧ Touch (· = g) w w' := by
  have hW : (gt L 0).whole = 0 := by rw [hS.ok.head]
  have hfit : ∀ y ∈ (plug (f :: c) (.node a x d)).flat, y < L.length := fun y hy => by rw [hn]; exact ((hS.ok.lab y).1 hy).2
  have hT := hS.ok.tame hs
  obtain ⟨a', d', hS'⟩ := hS.lift
  have fin : ∀ (e : Ending) (w' : World), (e = .returned (.tuple #[]) ∧ (∃ L', Things w' b k g cap L' ∧ L'.length = L.length ∧ gt L' = liftA (gt L) x) ∧ Touch (· = g) w w') → (e = .returned (.tuple #[]) ∧ (∃ L' a' d', Things w' b k g cap L' ∧ L'.length = n ∧ Seen (gt L') n x F q c a' d') ∧ Touch (· = g) w w') := by
    rintro e w' ⟨rfl, ⟨L', h1, h2, h3⟩, t⟩
    exact ⟨rfl, ⟨L', a', d', h1, by rw [h2]; exact hn, by rw [h3]; exact hS'⟩, t⟩
  cases f with
  | L u r =>
    have hd : (gt L 0).d1 = topC c u := by rw [hS.ok.head]; exact root_plug (.L u r :: c) (.node a x d)
    exact (lift_rowL h hS.ok.rep (apart_L hS.ok.nod hS.zero) hfit (by rw [hn]; exact hS.ok.n0) hW (fun e => by rw [hd, e]; rfl) hT).mono fin
  | R r u =>
    have hd : (gt L 0).d1 = topC c u := by rw [hS.ok.head]; exact root_plug (.R r u :: c) (.node a x d)
    exact (lift_rowR h hS.ok.rep (apart_R hS.ok.nod hS.zero) hfit (by rw [hn]; exact hS.ok.n0) hW (fun e => by rw [hd, e]; rfl) hT).mono fin
end Go.Proofs.Ytnbphdmpbjahhaa
