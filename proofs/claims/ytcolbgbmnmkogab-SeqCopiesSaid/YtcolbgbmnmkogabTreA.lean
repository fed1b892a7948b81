/- Trees whose nodes are things of an array: a new leaf. -/
import Derived.Test.YtcolbgbmnmkogabTreG
namespace Go.Proofs.Ytcolbgbmnmkogab
set_option linter.unusedVariables false
set_option linter.unusedSimpArgs false

/-- A thing that isn't in the tree, and has nothing yet. -/
structure Fresh (A : Nat → Th) (n : Nat) (l : List Nat) : Prop where
  n0 : n ≠ 0
  nl : n ∉ l
  th : A n = ⟨0, 0, 0, 0, 0⟩
theorem hang_facts {A : Nat → Th} {u s n : Nat} {l : List Nat} (hF : Fresh A n l) (hu : u ≠ n) : hangA A u s n u = (A u).put (1 + s) (n : Int) ∧ hangA A u s n n = ⟨u, 0, 0, 0, 0⟩ ∧ ∀ j, j ≠ u → j ≠ n → hangA A u s n j = A j := by
  refine ⟨hangA_up hu, ?_, fun j h1 h2 => hangA_ne h1 (fun _ => h2)⟩
  rw [hangA_it hu hF.n0, hF.th]
  simp [Th.put]
/-- On the back of one that has nothing there. -/
theorem leaf_back {A : Nat → Th} {c : List Fr} {a : Tr} {u n : Nat} (H : Rep A 0 (plug c (.node a u .nil))) (N : (plug c (.node a u .nil)).flat.Nodup) (hF : Fresh A n (plug c (.node a u .nil)).flat) :
    Rep (hangA A u 1 n) 0 (plug (.R a u :: c) (.node .nil n .nil)) := by
  rw [flat_plug] at N
  have hnl := hF.nl
  rw [flat_plug] at hnl
  have n1 : (cl c ++ (a.flat ++ u :: []) ++ cr c).Nodup := N
  have hnd := List.nodup_append.1 n1
  have hnd1 := List.nodup_append.1 hnd.1
  have hnd2 := List.nodup_append.1 hnd1.2.1
  have un : u ≠ n := fun e => hnl (by rw [← e]; simp [Tr.flat])
  obtain ⟨f1, f2, f3⟩ := hang_facts (s := 1) hF un
  obtain ⟨hC, i1, i2, i3, i4, i5, i6⟩ := (rep_plug A c (.node a u .nil)).1 H
  have ua : u ∉ a.flat := fun h => hnd2.2.2 u h u (by simp) rfl
  have uc : u ∉ cl c ++ cr c := fun h => by
    rcases List.mem_append.1 h with h | h
    · exact hnd1.2.2 u h u (by simp) rfl
    · exact hnd.2.2 u (by simp) u h rfl
  have ga : ∀ x ∈ a.flat, A x = hangA A u 1 n x := fun x hx => (f3 x (fun e => ua (e ▸ hx)) (fun e => hnl (by rw [← e]; simp [Tr.flat, hx]))).symm
  have sa := Tr.sum_congr (A := A) (B := hangA A u 1 n) (t := a) fun x hx => by rw [ga x hx]
  have fu : hangA A u 1 n u = { A u with d1 := n } := by rw [f1]; simp [Th.put]
  refine (rep_plug _ (.R a u :: c) _).2 ⟨⟨by rw [fu]; exact i1, by rw [fu]; exact i2, by rw [fu]; rfl, ?_, Rep.congr ga i5, ?_⟩, ⟨by rw [f2]; rfl, by rw [f2]; rfl, by rw [f2]; rfl, by rw [f2]; rfl, trivial, trivial⟩⟩
  · rw [fu, ← sa]
    simp only [Tr.sum, f2]
    have := i4
    simp only [Tr.sum] at this
    omega
  · have e : a.sum (hangA A u 1 n) + (hangA A u 1 n u).long + (Tr.node .nil n .nil).sum (hangA A u 1 n) = (Tr.node a u .nil).sum A := by
      rw [fu, ← sa]
      simp only [Tr.sum, f2]
      omega
    rw [e]
    exact RepC.congr (fun x hx => (f3 x (fun e => uc (e ▸ hx)) (fun e => hnl (by rw [← e]; rcases List.mem_append.1 hx with hx | hx <;> simp [hx]))).symm) hC
/-- On the front of one that has nothing there. -/
theorem leaf_front {A : Nat → Th} {c : List Fr} {a : Tr} {u n : Nat} (H : Rep A 0 (plug c (.node .nil u a))) (N : (plug c (.node .nil u a)).flat.Nodup) (hF : Fresh A n (plug c (.node .nil u a)).flat) :
    Rep (hangA A u 0 n) 0 (plug (.L u a :: c) (.node .nil n .nil)) := by
  rw [flat_plug] at N
  have hnl := hF.nl
  rw [flat_plug] at hnl
  have n1 : (cl c ++ (u :: a.flat) ++ cr c).Nodup := N
  have hnd := List.nodup_append.1 n1
  have hnd1 := List.nodup_append.1 hnd.1
  have hnd2 := List.nodup_cons.1 hnd1.2.1
  have un : u ≠ n := fun e => hnl (by rw [← e]; simp [Tr.flat])
  obtain ⟨f1, f2, f3⟩ := hang_facts (s := 0) hF un
  obtain ⟨hC, i1, i2, i3, i4, i5, i6⟩ := (rep_plug A c (.node .nil u a)).1 H
  have ua : u ∉ a.flat := hnd2.1
  have uc : u ∉ cl c ++ cr c := fun h => by
    rcases List.mem_append.1 h with h | h
    · exact hnd1.2.2 u h u (by simp) rfl
    · exact hnd.2.2 u (by simp) u h rfl
  have ga : ∀ x ∈ a.flat, A x = hangA A u 0 n x := fun x hx => (f3 x (fun e => ua (e ▸ hx)) (fun e => hnl (by rw [← e]; simp [Tr.flat, hx]))).symm
  have sa := Tr.sum_congr (A := A) (B := hangA A u 0 n) (t := a) fun x hx => by rw [ga x hx]
  have fu : hangA A u 0 n u = { A u with d0 := n } := by rw [f1]; simp [Th.put]
  refine (rep_plug _ (.L u a :: c) _).2 ⟨⟨by rw [fu]; exact i1, by rw [fu]; rfl, by rw [fu]; exact i3, ?_, Rep.congr ga i6, ?_⟩, ⟨by rw [f2]; rfl, by rw [f2]; rfl, by rw [f2]; rfl, by rw [f2]; rfl, trivial, trivial⟩⟩
  · rw [fu, ← sa]
    simp only [Tr.sum, f2]
    have := i4
    simp only [Tr.sum] at this
    omega
  · have e : (Tr.node .nil n .nil).sum (hangA A u 0 n) + (hangA A u 0 n u).long + a.sum (hangA A u 0 n) = (Tr.node .nil u a).sum A := by
      rw [fu, ← sa]
      simp only [Tr.sum, f2]
      omega
    rw [e]
    exact RepC.congr (fun x hx => (f3 x (fun e => uc (e ▸ hx)) (fun e => hnl (by rw [← e]; rcases List.mem_append.1 hx with hx | hx <;> simp [hx]))).symm) hC
/-- As they stand: the new one right behind u, or right ahead. -/
theorem flat_leaf_back (c : List Fr) (a : Tr) (u n : Nat) : (plug (.R a u :: c) (.node .nil n .nil)).flat = cl c ++ (a.flat ++ [u]) ++ n :: cr c ∧ (plug c (.node a u .nil)).flat = cl c ++ (a.flat ++ [u]) ++ cr c := by
  constructor
  · rw [flat_plug]; simp [cl, cr, Tr.flat]
  · rw [flat_plug]; simp [Tr.flat]
theorem flat_leaf_front (c : List Fr) (a : Tr) (u n : Nat) : (plug (.L u a :: c) (.node .nil n .nil)).flat = cl c ++ n :: (u :: a.flat ++ cr c) ∧ (plug c (.node .nil u a)).flat = cl c ++ (u :: a.flat ++ cr c) := by
  constructor
  · rw [flat_plug]; simp [cl, cr, Tr.flat]
  · rw [flat_plug]; simp [Tr.flat]
/-- Lifts change nothing of how they stand. -/
theorem flat_lift (c : List Fr) (a b r : Tr) (i u : Nat) : (plug c (.node a i (.node b u r))).flat = (plug (.L u r :: c) (.node a i b)).flat ∧ (plug c (.node (.node r u a) i b)).flat = (plug (.R r u :: c) (.node a i b)).flat := by
  constructor
  · rw [flat_plug, flat_plug]; simp [cl, cr, Tr.flat]
  · rw [flat_plug, flat_plug]; simp [cl, cr, Tr.flat]
end Go.Proofs.Ytcolbgbmnmkogab
