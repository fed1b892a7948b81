/- Trees whose nodes are things of an array: what a lift's counts find. -/
import Derived.Test.YtcolbgbmnmkogabTreS
namespace Go.Proofs.Ytcolbgbmnmkogab
set_option linter.unusedVariables false
set_option linter.unusedSimpArgs false

/-- What is so when the counts come: C behind the hangs. -/
structure Mid (A C : Nat → Th) (i u : Nat) (Ci Cu : Th) : Prop where
  ci : C i = Ci
  cu : C u = Cu
  whole : ∀ j, j ≠ i → j ≠ u → (C j).whole = (A j).whole
theorem mid_front {A : Nat → Th} {i u g da db r s : Nat} (ai : (A i).up = u) (a0 : (A i).d0 = da) (a1 : (A i).d1 = db) (bu : (A u).up = g) (b1 : (A u).d1 = r) (hs : sideA A u = s) (hs2 : s < 2)
    (iu : i ≠ u) (ig : i ≠ g) (ug : u ≠ g) (i0 : i ≠ 0) (u0 : u ≠ 0) (ri : r ≠ i) (ru : r ≠ u) (rg : r = g → r = 0) (dbi : db ≠ i) (dbu : db ≠ u) (dbg : db = g → db = 0) (dbr : db = r → db = 0) (dai : da ≠ i) (dau : da ≠ u) (dag : da = g → da = 0) (dadb : da = db → da = 0) (w0 : (A 0).whole = 0) :
    Mid A (hangA (hangA (hangA A g s i) i 1 u) u 0 db) i u { A i with up := g, d1 := u } { A u with up := i, d0 := db } := by
  -- the worlds between
  have p1i : hangA A g s i i = (A i).put 0 (g : Int) := hangA_it (Ne.symm ig) i0
  have p1u : hangA A g s i u = A u := hangA_ne ug (fun _ => Ne.symm iu)
  have p1g : hangA A g s i g = (A g).put (1 + s) (i : Int) := hangA_up (Ne.symm ig)
  have p1o : ∀ j, j ≠ i → j ≠ g → hangA A g s i j = A j := fun j h1 h2 => hangA_ne h2 (fun _ => h1)
  have p2i : hangA (hangA A g s i) i 1 u i = ((A i).put 0 (g : Int)).put 2 (u : Int) := by rw [hangA_up iu, p1i]
  have p2u : hangA (hangA A g s i) i 1 u u = (A u).put 0 (i : Int) := by rw [hangA_it iu u0, p1u]
  have p2o : ∀ j, j ≠ i → j ≠ u → hangA (hangA A g s i) i 1 u j = hangA A g s i j := fun j h1 h2 => hangA_ne h1 (fun _ => h2)
  have p3u : hangA (hangA (hangA A g s i) i 1 u) u 0 db u = ((A u).put 0 (i : Int)).put 1 (db : Int) := by rw [hangA_up (Ne.symm dbu), p2u]
  have p3i : hangA (hangA (hangA A g s i) i 1 u) u 0 db i = ((A i).put 0 (g : Int)).put 2 (u : Int) := by rw [hangA_ne iu (fun _ => Ne.symm dbi), p2i]
  have p3d : db ≠ 0 → hangA (hangA (hangA A g s i) i 1 u) u 0 db db = (A db).put 0 (u : Int) := fun h => by
    rw [hangA_it (Ne.symm dbu) h, p2o db dbi dbu, p1o db dbi (fun e => h (dbg e))]
  have p3o : ∀ j, j ≠ u → (db ≠ 0 → j ≠ db) → hangA (hangA (hangA A g s i) i 1 u) u 0 db j = hangA (hangA A g s i) i 1 u j := fun j h1 h2 => hangA_ne h1 h2
  generalize hC : hangA (hangA (hangA A g s i) i 1 u) u 0 db = C at *
  have cw : ∀ j, j ≠ i → j ≠ u → (C j).whole = (A j).whole := fun j h1 h2 => by
    by_cases hj : j = db
    · by_cases h0 : db = 0
      · rw [p3o j h2 (fun h => absurd h0 h), p2o j h1 h2]
        by_cases hg : j = g
        · rw [hg, p1g]
          match s, hs2 with
          | 0, _ => rfl
          | 1, _ => rfl
        · rw [p1o j h1 hg]
      · rw [hj, p3d h0]; rfl
    · rw [p3o j h2 (fun _ => hj), p2o j h1 h2]
      by_cases hg : j = g
      · rw [hg, p1g]
        match s, hs2 with
        | 0, _ => rfl
        | 1, _ => rfl
      · rw [p1o j h1 hg]
  refine ⟨?_, ?_, cw⟩
  · rw [p3i]; simp [Th.put]
  · rw [p3u]; simp [Th.put]
theorem mid_back {A : Nat → Th} {i u g da db r s : Nat} (ai : (A i).up = u) (a0 : (A i).d0 = da) (a1 : (A i).d1 = db) (bu : (A u).up = g) (b0 : (A u).d0 = r) (b1 : (A u).d1 = i) (hs : sideA A u = s) (hs2 : s < 2)
    (iu : i ≠ u) (ig : i ≠ g) (ug : u ≠ g) (i0 : i ≠ 0) (u0 : u ≠ 0) (ri : r ≠ i) (ru : r ≠ u) (rg : r = g → r = 0) (dai : da ≠ i) (dau : da ≠ u) (dag : da = g → da = 0) (dbi : db ≠ i) (dbu : db ≠ u) (w0 : (A 0).whole = 0) :
    Mid A (hangA (hangA (hangA A g s i) i 0 u) u 1 da) i u { A i with up := g, d0 := u } { A u with up := i, d1 := da } := by
  -- the worlds between
  have p1i : hangA A g s i i = (A i).put 0 (g : Int) := hangA_it (Ne.symm ig) i0
  have p1u : hangA A g s i u = A u := hangA_ne ug (fun _ => Ne.symm iu)
  have p1g : hangA A g s i g = (A g).put (1 + s) (i : Int) := hangA_up (Ne.symm ig)
  have p1o : ∀ j, j ≠ i → j ≠ g → hangA A g s i j = A j := fun j h1 h2 => hangA_ne h2 (fun _ => h1)
  have p2i : hangA (hangA A g s i) i 0 u i = ((A i).put 0 (g : Int)).put 1 (u : Int) := by rw [hangA_up iu, p1i]
  have p2u : hangA (hangA A g s i) i 0 u u = (A u).put 0 (i : Int) := by rw [hangA_it iu u0, p1u]
  have p2o : ∀ j, j ≠ i → j ≠ u → hangA (hangA A g s i) i 0 u j = hangA A g s i j := fun j h1 h2 => hangA_ne h1 (fun _ => h2)
  have p3u : hangA (hangA (hangA A g s i) i 0 u) u 1 da u = ((A u).put 0 (i : Int)).put 2 (da : Int) := by rw [hangA_up (Ne.symm dau), p2u]
  have p3i : hangA (hangA (hangA A g s i) i 0 u) u 1 da i = ((A i).put 0 (g : Int)).put 1 (u : Int) := by rw [hangA_ne iu (fun _ => Ne.symm dai), p2i]
  have p3d : da ≠ 0 → hangA (hangA (hangA A g s i) i 0 u) u 1 da da = (A da).put 0 (u : Int) := fun h => by
    rw [hangA_it (Ne.symm dau) h, p2o da dai dau, p1o da dai (fun e => h (dag e))]
  have p3o : ∀ j, j ≠ u → (da ≠ 0 → j ≠ da) → hangA (hangA (hangA A g s i) i 0 u) u 1 da j = hangA (hangA A g s i) i 0 u j := fun j h1 h2 => hangA_ne h1 h2
  generalize hC : hangA (hangA (hangA A g s i) i 0 u) u 1 da = C at *
  have cw : ∀ j, j ≠ i → j ≠ u → (C j).whole = (A j).whole := fun j h1 h2 => by
    by_cases hj : j = da
    · by_cases h0 : da = 0
      · rw [p3o j h2 (fun h => absurd h0 h), p2o j h1 h2]
        by_cases hg : j = g
        · rw [hg, p1g]
          match s, hs2 with
          | 0, _ => rfl
          | 1, _ => rfl
        · rw [p1o j h1 hg]
      · rw [hj, p3d h0]; rfl
    · rw [p3o j h2 (fun _ => hj), p2o j h1 h2]
      by_cases hg : j = g
      · rw [hg, p1g]
        match s, hs2 with
        | 0, _ => rfl
        | 1, _ => rfl
      · rw [p1o j h1 hg]
  refine ⟨?_, ?_, cw⟩
  · rw [p3i]; simp [Th.put]
  · rw [p3u]; simp [Th.put]
end Go.Proofs.Ytcolbgbmnmkogab
