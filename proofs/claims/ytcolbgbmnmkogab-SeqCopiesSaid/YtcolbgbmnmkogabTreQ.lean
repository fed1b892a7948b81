/- A new thing, hung and grown: the row in its form, seen from it. -/
import Derived.Test.YtcolbgbmnmkogabTreP
namespace Go.Proofs.Ytcolbgbmnmkogab
set_option linter.unusedVariables false
set_option linter.unusedSimpArgs false

theorem grow_other {A : Nat → Th} {i : Nat} {P : List Nat} {n : Int} {j : Nat} (h1 : j ≠ i) (h2 : j ∉ P) : growA A i P n j = A j := by simp [growA, moreW, moreL, h1, h2]
theorem grow_long {A : Nat → Th} {i : Nat} {P : List Nat} {n : Int} (j : Nat) : (growA A i P n j).long = (A j).long + (if j = i then n else 0) := by
  unfold growA moreW moreL
  by_cases h1 : j = i
  · subst h1
    by_cases h2 : j ∈ P <;> simp [h2]
  · by_cases h2 : j ∈ P <;> simp [h1, h2]
theorem ups_flat {c : List Fr} {t : Tr} {x : Nat} (h : x ∈ ups c) : x ∈ (plug c t).flat := by
  rw [flat_plug]
  rcases List.mem_append.1 (ups_sub h) with h | h <;> simp [h]
/-- Out of a leaf that is hung: the row in its form. -/
theorem seen_of {A A1 : Nat → Th} {n : Nat} {c : List Fr} {F : List Nat} {lg : Int} (hr : Rep A1 0 (plug c (.node .nil n .nil))) (hfl : (plug c (.node .nil n .nil)).flat = F) (hN : F.Nodup) (hlab : ∀ x, x ∈ F ↔ 1 ≤ x ∧ x < n + 1) (hhd : A1 0 = ⟨0, 0, (plug c (.node .nil n .nil)).root, 0, 0⟩) (hlong : ∀ x, (A1 x).long = (A x).long) (hA : ∀ x, 0 ≤ (A x).long) (hout : ∀ x, n + 1 ≤ x → A1 x = ⟨0, 0, 0, 0, 0⟩) (hl : 0 ≤ lg) :
    Seen (growA A1 n (n :: ups c) lg) (n + 1) n F (fun x => (A x).long + (if x = n then lg else 0)) c .nil .nil := by
  have hup : ∀ x ∈ n :: ups c, x ∈ F := fun x hx => by
    rw [← hfl]
    rcases List.mem_cons.1 hx with rfl | hx
    · rw [flat_plug]; simp [Tr.flat]
    · exact ups_flat hx
  have hnn : n ∈ F := hup n (by simp)
  have hn1 := (hlab n).1 hnn
  refine ⟨⟨by omega, ?_, grow_rep hr (by rw [hfl]; exact hN), by rw [hfl]; exact hN, fun x => by rw [hfl]; exact hlab x, fun x => ?_, fun x hx => ?_⟩, hfl, fun j => ?_⟩
  · rw [grow_other (by omega) (fun h => by have := (hlab 0).1 (hup 0 h); omega), hhd]
  · rw [grow_long, hlong]
    have := hA x
    split <;> omega
  · rw [grow_other (by omega) (fun h => by have := (hlab x).1 (hup x h); omega), hout x hx]
  · rw [grow_long, hlong]
theorem fresh_of {A : Nat → Th} {n : Nat} {t : Tr} (h : RowOk A n t) : Fresh A n t.flat := ⟨by have := h.n0; omega, fun hx => by have := (h.lab n).1 hx; omega, h.out n (Nat.le_refl _)⟩
theorem ins_nodup {P Q : List Nat} {n : Nat} (h : (P ++ Q).Nodup) (hn : n ∉ P ++ Q) : (P ++ n :: Q).Nodup := by
  have hp : (P ++ n :: Q).Perm (n :: (P ++ Q)) := List.perm_middle
  exact hp.nodup_iff.2 (List.nodup_cons.2 ⟨hn, h⟩)
/-- The new one on the back of i. -/
theorem seen_back {A : Nat → Th} {n i : Nat} {c : List Fr} {a : Tr} {lg : Int} (h : RowOk A n (plug c (.node a i .nil))) (hl : 0 ≤ lg) :
    Seen (growA (hangA A i 1 n) n (n :: ups (.R a i :: c)) lg) (n + 1) n (cl c ++ (a.flat ++ [i]) ++ n :: cr c) (fun x => (A x).long + (if x = n then lg else 0)) (.R a i :: c) .nil .nil := by
  have hF := fresh_of h
  have hfl := flat_leaf_back c a i n
  have him : i ∈ (plug c (.node a i .nil)).flat := by rw [flat_plug]; simp [Tr.flat]
  have hi := (h.lab i).1 him
  have un : i ≠ n := by omega
  obtain ⟨f1, f2, f3⟩ := hang_facts (s := 1) hF un
  have hnd : (cl c ++ (a.flat ++ [i]) ++ cr c).Nodup := by rw [← hfl.2]; exact h.nod
  have hnn : n ∉ cl c ++ (a.flat ++ [i]) ++ cr c := by rw [← hfl.2]; exact hF.nl
  have hn0 := hF.n0
  refine seen_of (leaf_back h.rep h.nod hF) hfl.1 (ins_nodup hnd hnn) (fun x => ?_) ?_ (fun x => ?_) h.long (fun x hx => ?_) hl
  · have := h.lab x
    rw [hfl.2] at this
    rw [List.mem_append, List.mem_cons]
    rw [List.mem_append] at this
    have hn0 := h.n0
    constructor
    · rintro (h9 | rfl | h9)
      · have := this.1 (.inl h9); omega
      · omega
      · have := this.1 (.inr h9); omega
    · intro h9
      by_cases e : x = n
      · exact .inr (.inl e)
      · rcases this.2 (by omega) with h8 | h8
        · exact .inl h8
        · exact .inr (.inr h8)
  · rw [f3 0 (by omega) (by omega), h.head, root_plug, root_plug]
    rfl
  · by_cases h1 : x = i
    · rw [h1, f1]; rfl
    · by_cases h2 : x = n
      · rw [h2, f2, hF.th]
      · rw [f3 x h1 h2]
  · rw [f3 x (by omega) (by omega)]
    exact h.out x (by omega)
/-- The new one on the front of u. -/
theorem seen_front {A : Nat → Th} {n u : Nat} {c : List Fr} {a : Tr} {lg : Int} (h : RowOk A n (plug c (.node .nil u a))) (hl : 0 ≤ lg) :
    Seen (growA (hangA A u 0 n) n (n :: ups (.L u a :: c)) lg) (n + 1) n (cl c ++ n :: (u :: a.flat ++ cr c)) (fun x => (A x).long + (if x = n then lg else 0)) (.L u a :: c) .nil .nil := by
  have hF := fresh_of h
  have hfl := flat_leaf_front c a u n
  have him : u ∈ (plug c (.node .nil u a)).flat := by rw [flat_plug]; simp [Tr.flat]
  have hi := (h.lab u).1 him
  have un : u ≠ n := by omega
  obtain ⟨f1, f2, f3⟩ := hang_facts (s := 0) hF un
  have hnd : (cl c ++ (u :: a.flat ++ cr c)).Nodup := by rw [← hfl.2]; exact h.nod
  have hnn : n ∉ cl c ++ (u :: a.flat ++ cr c) := by rw [← hfl.2]; exact hF.nl
  have hn0 := hF.n0
  refine seen_of (leaf_front h.rep h.nod hF) hfl.1 (ins_nodup hnd hnn) (fun x => ?_) ?_ (fun x => ?_) h.long (fun x hx => ?_) hl
  · have := h.lab x
    rw [hfl.2] at this
    rw [List.mem_append, List.mem_cons]
    rw [List.mem_append] at this
    have hn0 := h.n0
    constructor
    · rintro (h9 | rfl | h9)
      · have := this.1 (.inl h9); omega
      · omega
      · have := this.1 (.inr h9); omega
    · intro h9
      by_cases e : x = n
      · exact .inr (.inl e)
      · rcases this.2 (by omega) with h8 | h8
        · exact .inl h8
        · exact .inr (.inr h8)
  · rw [f3 0 (by omega) (by omega), h.head, root_plug, root_plug]
    rfl
  · by_cases h1 : x = u
    · rw [h1, f1]; rfl
    · by_cases h2 : x = n
      · rw [h2, f2, hF.th]
      · rw [f3 x h1 h2]
  · rw [f3 x (by omega) (by omega)]
    exact h.out x (by omega)
end Go.Proofs.Ytcolbgbmnmkogab
