/- Trees whose nodes are things of an array: the lift, in the array. -/
import Derived.Test.YtcolbgbmnmkogabTreL
namespace Go.Proofs.Ytcolbgbmnmkogab
set_option linter.unusedVariables false
set_option linter.unusedSimpArgs false

theorem hangA_up {A : Nat → Th} {u s i : Nat} (h : u ≠ i) : hangA A u s i u = (A u).put (1 + s) (i : Int) := by
  unfold hangA
  split
  · simp [upd]
  · simp [upd, h]
theorem hangA_it {A : Nat → Th} {u s i : Nat} (h : u ≠ i) (h0 : i ≠ 0) : hangA A u s i i = (A i).put 0 (u : Int) := by
  unfold hangA
  rw [if_neg h0]
  simp [upd, Ne.symm h]
theorem hangA_ne {A : Nat → Th} {u s i j : Nat} (h1 : j ≠ u) (h2 : i ≠ 0 → j ≠ i) : hangA A u s i j = A j := by
  unfold hangA
  split
  · simp [upd, h1]
  · rename_i h
    simp [upd, h1, h2 h]
theorem countA_it {A : Nat → Th} {i : Nat} : countA A i i = { A i with whole := (A (A i).d0).whole + (A i).long + (A (A i).d1).whole } := by simp [countA, upd, Th.put]
theorem countA_ne {A : Nat → Th} {i j : Nat} (h : j ≠ i) : countA A i j = A j := by simp [countA, upd, h]
/-- What a lift leaves, if i hangs on the front of u, and u on g. -/
theorem lift_front {A : Nat → Th} {i u g da db r s : Nat} (ai : (A i).up = u) (a0 : (A i).d0 = da) (a1 : (A i).d1 = db) (bu : (A u).up = g) (b1 : (A u).d1 = r) (hs : sideA A u = s) (hs2 : s < 2)
    (iu : i ≠ u) (ig : i ≠ g) (ug : u ≠ g) (i0 : i ≠ 0) (u0 : u ≠ 0) (ri : r ≠ i) (ru : r ≠ u) (rg : r = g → r = 0) (dbi : db ≠ i) (dbu : db ≠ u) (dbg : db = g → db = 0) (dbr : db = r → db = 0) (dai : da ≠ i) (dau : da ≠ u) (dag : da = g → da = 0) (dadb : da = db → da = 0) (w0 : (A 0).whole = 0) :
    liftA A i i = { A i with up := g, d1 := u, whole := (A da).whole + (A i).long + ((A db).whole + (A u).long + (A r).whole) } ∧
    liftA A i u = { A u with up := i, d0 := db, whole := (A db).whole + (A u).long + (A r).whole } ∧
    (db ≠ 0 → liftA A i db = { A db with up := u }) ∧
    liftA A i g = (A g).put (1 + s) (i : Int) ∧
    ∀ j, j ≠ i → j ≠ u → j ≠ g → (db ≠ 0 → j ≠ db) → liftA A i j = A j := by
  have hsi : sideA A i = 0 := by unfold sideA; rw [ai, b1, if_neg ri]
  have hd : downA A i 1 = db := by unfold downA; rw [if_neg (by omega)]; exact a1
  have e : liftA A i = countA (countA (hangA (hangA (hangA A g s i) i 1 u) u 0 db) u) i := by
    unfold liftA
    rw [ai, bu, hs, hsi, Nat.sub_zero, hd]
  rw [e]
  clear e
  -- the worlds between
  have p1i : hangA A g s i i = (A i).put 0 (g : Int) := hangA_it (Ne.symm ig) i0
  have p1u : hangA A g s i u = A u := hangA_ne ug (fun _ => Ne.symm iu)
  have p1g : hangA A g s i g = (A g).put (1 + s) (i : Int) := hangA_up (Ne.symm ig)
  have p1o : ∀ j, j ≠ i → j ≠ g → hangA A g s i j = A j := fun j h1 h2 => hangA_ne h2 (fun _ => h1)
  have p2i : hangA (hangA A g s i) i 1 u i = ((A i).put 0 (g : Int)).put 2 (u : Int) := by rw [hangA_up iu, p1i]
  have p2u : hangA (hangA A g s i) i 1 u u = (A u).put 0 (i : Int) := by rw [hangA_it iu u0, p1u]
  have p2o : ∀ j, j ≠ i → j ≠ u → hangA (hangA A g s i) i 1 u j = hangA A g s i j := fun j h1 h2 => hangA_ne h1 (fun _ => h2)
  have p3u : hangA (hangA (hangA A g s i) i 1 u) u 0 db u = ((A u).put 0 (i : Int)).put 1 (db : Int) := by rw [hangA_up (Ne.symm dbu), p2u]
  have p3i : hangA (hangA (hangA A g s i) i 1 u) u 0 db i = ((A i).put 0 (g : Int)).put 2 (u : Int) := by rw [hangA_ne iu (fun _ => Ne.symm dbi), p2i]
  have p3d : db ≠ 0 → hangA (hangA (hangA A g s i) i 1 u) u 0 db db = (A db).put 0 (u : Int) := fun h => by
    rw [hangA_it (Ne.symm dbu) h, p2o db dbi dbu, p1o db dbi (fun e => h (dbg e))]
  have p3o : ∀ j, j ≠ u → (db ≠ 0 → j ≠ db) → hangA (hangA (hangA A g s i) i 1 u) u 0 db j = hangA (hangA A g s i) i 1 u j := fun j h1 h2 => hangA_ne h1 h2
  generalize hC : hangA (hangA (hangA A g s i) i 1 u) u 0 db = C at *
  have cw : ∀ j, j ≠ i → j ≠ u → (C j).whole = (A j).whole := fun j h1 h2 => by
    by_cases hj : j = db
    · by_cases h0 : db = 0
      · rw [p3o j h2 (fun h => absurd h0 h), p2o j h1 h2]
        by_cases hg : j = g
        · rw [hg, p1g]
          match s, hs2 with
          | 0, _ => rfl
          | 1, _ => rfl
        · rw [p1o j h1 hg]
      · rw [hj, p3d h0]; rfl
    · rw [p3o j h2 (fun _ => hj), p2o j h1 h2]
      by_cases hg : j = g
      · rw [hg, p1g]
        match s, hs2 with
        | 0, _ => rfl
        | 1, _ => rfl
      · rw [p1o j h1 hg]
  have cu : countA C u u = { A u with up := i, d0 := db, whole := (A db).whole + (A u).long + (A r).whole } := by
    rw [countA_it, p3u]
    simp only [Th.put, Int.toNat_natCast]
    rw [b1, cw db dbi dbu, cw r ri ru]
  have ci : countA C u i = ((A i).put 0 (g : Int)).put 2 (u : Int) := by rw [countA_ne iu, p3i]
  refine ⟨?_, ?_, ?_, ?_, ?_⟩
  · rw [countA_it, ci]
    simp only [Th.put, Int.toNat_natCast]
    rw [cu, a0, countA_ne dau, cw da dai dau]
  · rw [countA_ne (Ne.symm iu), cu]
  · intro h
    rw [countA_ne dbi, countA_ne dbu, p3d h]
    simp [Th.put]
  · rw [countA_ne (Ne.symm ig), countA_ne (Ne.symm ug)]
    by_cases hgd : g = db
    · have h0 : db = 0 := dbg hgd.symm
      rw [p3o g (Ne.symm ug) (fun h => absurd h0 h), p2o g (Ne.symm ig) (Ne.symm ug), p1g]
    · rw [p3o g (Ne.symm ug) (fun _ => hgd), p2o g (Ne.symm ig) (Ne.symm ug), p1g]
  · intro j h1 h2 h3 h4
    rw [countA_ne h1, countA_ne h2, p3o j h2 h4, p2o j h1 h2, p1o j h1 h3]
/-- What a lift leaves, if i hangs on the back of u, and u on g. -/
theorem lift_back {A : Nat → Th} {i u g da db r s : Nat} (ai : (A i).up = u) (a0 : (A i).d0 = da) (a1 : (A i).d1 = db) (bu : (A u).up = g) (b0 : (A u).d0 = r) (b1 : (A u).d1 = i) (hs : sideA A u = s) (hs2 : s < 2)
    (iu : i ≠ u) (ig : i ≠ g) (ug : u ≠ g) (i0 : i ≠ 0) (u0 : u ≠ 0) (ri : r ≠ i) (ru : r ≠ u) (rg : r = g → r = 0) (dai : da ≠ i) (dau : da ≠ u) (dag : da = g → da = 0) (dbi : db ≠ i) (dbu : db ≠ u) (w0 : (A 0).whole = 0) :
    liftA A i i = { A i with up := g, d0 := u, whole := ((A r).whole + (A u).long + (A da).whole) + (A i).long + (A db).whole } ∧
    liftA A i u = { A u with up := i, d1 := da, whole := (A r).whole + (A u).long + (A da).whole } ∧
    (da ≠ 0 → liftA A i da = { A da with up := u }) ∧
    liftA A i g = (A g).put (1 + s) (i : Int) ∧
    ∀ j, j ≠ i → j ≠ u → j ≠ g → (da ≠ 0 → j ≠ da) → liftA A i j = A j := by
  have hsi : sideA A i = 1 := by unfold sideA; rw [ai, if_pos b1]
  have hd : downA A i 0 = da := by unfold downA; rw [if_pos rfl]; exact a0
  have e : liftA A i = countA (countA (hangA (hangA (hangA A g s i) i 0 u) u 1 da) u) i := by
    unfold liftA
    rw [ai, bu, hs, hsi, Nat.sub_self, hd]
  rw [e]
  clear e
  -- the worlds between
  have p1i : hangA A g s i i = (A i).put 0 (g : Int) := hangA_it (Ne.symm ig) i0
  have p1u : hangA A g s i u = A u := hangA_ne ug (fun _ => Ne.symm iu)
  have p1g : hangA A g s i g = (A g).put (1 + s) (i : Int) := hangA_up (Ne.symm ig)
  have p1o : ∀ j, j ≠ i → j ≠ g → hangA A g s i j = A j := fun j h1 h2 => hangA_ne h2 (fun _ => h1)
  have p2i : hangA (hangA A g s i) i 0 u i = ((A i).put 0 (g : Int)).put 1 (u : Int) := by rw [hangA_up iu, p1i]
  have p2u : hangA (hangA A g s i) i 0 u u = (A u).put 0 (i : Int) := by rw [hangA_it iu u0, p1u]
  have p2o : ∀ j, j ≠ i → j ≠ u → hangA (hangA A g s i) i 0 u j = hangA A g s i j := fun j h1 h2 => hangA_ne h1 (fun _ => h2)
  have p3u : hangA (hangA (hangA A g s i) i 0 u) u 1 da u = ((A u).put 0 (i : Int)).put 2 (da : Int) := by rw [hangA_up (Ne.symm dau), p2u]
  have p3i : hangA (hangA (hangA A g s i) i 0 u) u 1 da i = ((A i).put 0 (g : Int)).put 1 (u : Int) := by rw [hangA_ne iu (fun _ => Ne.symm dai), p2i]
  have p3d : da ≠ 0 → hangA (hangA (hangA A g s i) i 0 u) u 1 da da = (A da).put 0 (u : Int) := fun h => by
    rw [hangA_it (Ne.symm dau) h, p2o da dai dau, p1o da dai (fun e => h (dag e))]
  have p3o : ∀ j, j ≠ u → (da ≠ 0 → j ≠ da) → hangA (hangA (hangA A g s i) i 0 u) u 1 da j = hangA (hangA A g s i) i 0 u j := fun j h1 h2 => hangA_ne h1 h2
  generalize hC : hangA (hangA (hangA A g s i) i 0 u) u 1 da = C at *
  have cw : ∀ j, j ≠ i → j ≠ u → (C j).whole = (A j).whole := fun j h1 h2 => by
    by_cases hj : j = da
    · by_cases h0 : da = 0
      · rw [p3o j h2 (fun h => absurd h0 h), p2o j h1 h2]
        by_cases hg : j = g
        · rw [hg, p1g]
          match s, hs2 with
          | 0, _ => rfl
          | 1, _ => rfl
        · rw [p1o j h1 hg]
      · rw [hj, p3d h0]; rfl
    · rw [p3o j h2 (fun _ => hj), p2o j h1 h2]
      by_cases hg : j = g
      · rw [hg, p1g]
        match s, hs2 with
        | 0, _ => rfl
        | 1, _ => rfl
      · rw [p1o j h1 hg]
  have cu : countA C u u = { A u with up := i, d1 := da, whole := (A r).whole + (A u).long + (A da).whole } := by
    rw [countA_it, p3u]
    simp only [Th.put, Int.toNat_natCast]
    rw [b0, cw r ri ru, cw da dai dau]
  have ci : countA C u i = ((A i).put 0 (g : Int)).put 1 (u : Int) := by rw [countA_ne iu, p3i]
  refine ⟨?_, ?_, ?_, ?_, ?_⟩
  · rw [countA_it, ci]
    simp only [Th.put, Int.toNat_natCast]
    rw [cu, a1, countA_ne dbu, cw db dbi dbu]
  · rw [countA_ne (Ne.symm iu), cu]
  · intro h
    rw [countA_ne dai, countA_ne dau, p3d h]
    simp [Th.put]
  · rw [countA_ne (Ne.symm ig), countA_ne (Ne.symm ug)]
    by_cases hgd : g = da
    · have h0 : da = 0 := dag hgd.symm
      rw [p3o g (Ne.symm ug) (fun h => absurd h0 h), p2o g (Ne.symm ig) (Ne.symm ug), p1g]
    · rw [p3o g (Ne.symm ug) (fun _ => hgd), p2o g (Ne.symm ig) (Ne.symm ug), p1g]
  · intro j h1 h2 h3 h4
    rw [countA_ne h1, countA_ne h2, p3o j h2 h4, p2o j h1 h2, p1o j h1 h3]
end Go.Proofs.Ytcolbgbmnmkogab
