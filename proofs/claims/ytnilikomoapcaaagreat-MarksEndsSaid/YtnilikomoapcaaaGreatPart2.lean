/- Trees whose nodes are things of an array (no Go in it): what the array says of them, seen from any node. -/
import Derived.Test.YtnilikomoapcaaaGreatPart1
namespace Go.Proofs.YtnilikomoapcaaaGreat
set_option linter.unusedVariables false
set_option linter.unusedSimpArgs false

inductive Tr where
  | nil : Tr
  | node : Tr → Nat → Tr → Tr
def Tr.root : Tr → Nat
  | .nil => 0
  | .node _ i _ => i
def Tr.flat : Tr → List Nat
  | .nil => []
  | .node l i r => l.flat ++ i :: r.flat
def Tr.sum (A : Nat → Th) : Tr → Int
  | .nil => 0
  | .node l i r => l.sum A + (A i).long + r.sum A
/-- The array says the tree, hung on p. -/
def Rep (A : Nat → Th) : Nat → Tr → Prop
  | _, .nil => True
  | p, .node l i r => (A i).up = p ∧ (A i).d0 = l.root ∧ (A i).d1 = r.root ∧ (A i).whole = l.sum A + (A i).long + r.sum A ∧ Rep A i l ∧ Rep A i r
theorem Tr.sum_congr {A B : Nat → Th} : ∀ {t : Tr}, (∀ i ∈ t.flat, (A i).long = (B i).long) → t.sum A = t.sum B
  | .nil, _ => rfl
  | .node l i r, h => by
    have h1 := Tr.sum_congr (A := A) (B := B) (t := l) fun j hj => h j (by simp [Tr.flat, hj])
    have h2 := Tr.sum_congr (A := A) (B := B) (t := r) fun j hj => h j (by simp [Tr.flat, hj])
    have h3 := h i (by simp [Tr.flat])
    simp only [Tr.sum, h1, h2, h3]
theorem Rep.congr {A B : Nat → Th} : ∀ {t : Tr} {p : Nat}, (∀ i ∈ t.flat, A i = B i) → Rep A p t → Rep B p t
  | .nil, _, _, _ => trivial
  | .node l i r, p, h, ⟨h1, h2, h3, h4, h5, h6⟩ => by
    have hl : ∀ j ∈ l.flat, A j = B j := fun j hj => h j (by simp [Tr.flat, hj])
    have hr : ∀ j ∈ r.flat, A j = B j := fun j hj => h j (by simp [Tr.flat, hj])
    have hi := h i (by simp [Tr.flat])
    have s1 := Tr.sum_congr (A := A) (B := B) (t := l) fun j hj => by rw [hl j hj]
    have s2 := Tr.sum_congr (A := A) (B := B) (t := r) fun j hj => by rw [hr j hj]
    refine ⟨by rw [← hi]; exact h1, by rw [← hi]; exact h2, by rw [← hi]; exact h3, by rw [← hi, ← s1, ← s2]; exact h4, Rep.congr hl h5, Rep.congr hr h6⟩
/-- The same with another one above: its root alone tells it. -/
theorem Rep.hung {A B : Nat → Th} {t : Tr} {p q : Nat} (h : Rep A p t) (hn : t.flat.Nodup) (hr : t ≠ .nil → B t.root = { A t.root with up := q }) (ho : ∀ i ∈ t.flat, i ≠ t.root → A i = B i) : Rep B q t := by
  cases t with
  | nil => trivial
  | node l i r =>
    obtain ⟨h1, h2, h3, h4, h5, h6⟩ := h
    have hi : B i = { A i with up := q } := hr (by simp)
    have hnd : l.flat.Nodup ∧ (i :: r.flat).Nodup ∧ ∀ x ∈ l.flat, ∀ y ∈ i :: r.flat, x ≠ y := List.nodup_append.1 hn
    have il : i ∉ l.flat := fun h => hnd.2.2 i h i (List.mem_cons_self ..) rfl
    have ir : i ∉ r.flat := (List.nodup_cons.1 hnd.2.1).1
    have hl : ∀ j ∈ l.flat, A j = B j := fun j hj => ho j (by simp [Tr.flat, hj]) (fun e => by subst e; exact il hj)
    have hrr : ∀ j ∈ r.flat, A j = B j := fun j hj => ho j (by simp [Tr.flat, hj]) (fun e => by subst e; exact ir hj)
    have s1 := Tr.sum_congr (A := A) (B := B) (t := l) fun j hj => by rw [hl j hj]
    have s2 := Tr.sum_congr (A := A) (B := B) (t := r) fun j hj => by rw [hrr j hj]
    refine ⟨by rw [hi], by rw [hi]; exact h2, by rw [hi]; exact h3, by rw [hi, ← s1, ← s2]; exact h4, Rep.congr hl h5, Rep.congr hrr h6⟩
/-- From a node up: a step is the one above, on which side of it we are, and what hangs on the other. -/
inductive Fr where
  | L : Nat → Tr → Fr
  | R : Tr → Nat → Fr
def plug : List Fr → Tr → Tr
  | [], t => t
  | .L i r :: c, t => plug c (.node t i r)
  | .R l i :: c, t => plug c (.node l i t)
def par : List Fr → Nat
  | [] => 0
  | .L i _ :: _ => i
  | .R _ i :: _ => i
/-- What the array says of the way up from a tree whose root is i and whose sum is s. -/
def RepC (A : Nat → Th) : List Fr → Nat → Int → Prop
  | [], _, _ => True
  | .L u r :: c, i, s => (A u).up = par c ∧ (A u).d0 = i ∧ (A u).d1 = r.root ∧ (A u).whole = s + (A u).long + r.sum A ∧ Rep A u r ∧ RepC A c u (s + (A u).long + r.sum A)
  | .R l u :: c, i, s => (A u).up = par c ∧ (A u).d0 = l.root ∧ (A u).d1 = i ∧ (A u).whole = l.sum A + (A u).long + s ∧ Rep A u l ∧ RepC A c u (l.sum A + (A u).long + s)
theorem rep_plug (A : Nat → Th) : ∀ (c : List Fr) (t : Tr), Rep A 0 (plug c t) ↔ RepC A c t.root (t.sum A) ∧ Rep A (par c) t
  | [], t => ⟨fun h => ⟨trivial, h⟩, fun h => h.2⟩
  | .L u r :: c, t => by
    have ih := rep_plug A c (.node t u r)
    show Rep A 0 (plug c (.node t u r)) ↔ _
    rw [ih]
    constructor
    · rintro ⟨h1, h2, h3, h4, h5, h6, h7⟩
      exact ⟨⟨h2, h3, h4, h5, h7, h1⟩, h6⟩
    · rintro ⟨⟨h2, h3, h4, h5, h7, h1⟩, h6⟩
      exact ⟨h1, h2, h3, h4, h5, h6, h7⟩
  | .R l u :: c, t => by
    have ih := rep_plug A c (.node l u t)
    show Rep A 0 (plug c (.node l u t)) ↔ _
    rw [ih]
    constructor
    · rintro ⟨h1, h2, h3, h4, h5, h6, h7⟩
      exact ⟨⟨h2, h3, h4, h5, h6, h1⟩, h7⟩
    · rintro ⟨⟨h2, h3, h4, h5, h6, h1⟩, h7⟩
      exact ⟨h1, h2, h3, h4, h5, h6, h7⟩
/-- The labels of the way up, as they stand: those ahead, those behind. -/
def cl : List Fr → List Nat
  | [] => []
  | .L _ _ :: c => cl c
  | .R l u :: c => cl c ++ (l.flat ++ [u])
def cr : List Fr → List Nat
  | [] => []
  | .L u r :: c => (u :: r.flat) ++ cr c
  | .R _ _ :: c => cr c
theorem flat_plug : ∀ (c : List Fr) (t : Tr), (plug c t).flat = cl c ++ t.flat ++ cr c
  | [], t => by simp [plug, cl, cr]
  | .L u r :: c, t => by
    show (plug c (.node t u r)).flat = _
    rw [flat_plug c]
    simp [Tr.flat, cl, cr]
  | .R l u :: c, t => by
    show (plug c (.node l u t)).flat = _
    rw [flat_plug c]
    simp [Tr.flat, cl, cr]
/-- Every label of a tree is seen from somewhere. -/
theorem focus {i : Nat} : ∀ {t : Tr}, i ∈ t.flat → ∀ c : List Fr, ∃ c' l r, plug c t = plug (c' ++ c) (.node l i r)
  | .nil, h, _ => by cases h
  | .node l j r, h, c => by
    simp only [Tr.flat, List.mem_append, List.mem_cons] at h
    rcases h with h | rfl | h
    · obtain ⟨c', a, b, e⟩ := focus h (.L j r :: c)
      exact ⟨c' ++ [.L j r], a, b, by rw [List.append_assoc]; exact e⟩
    · exact ⟨[], l, r, rfl⟩
    · obtain ⟨c', a, b, e⟩ := focus h (.R l j :: c)
      exact ⟨c' ++ [.R l j], a, b, by rw [List.append_assoc]; exact e⟩
end Go.Proofs.YtnilikomoapcaaaGreat

/- Trees whose nodes are things of an array: a node lifted above the one that it hangs on. -/
namespace Go.Proofs.YtnilikomoapcaaaGreat
set_option linter.unusedVariables false
set_option linter.unusedSimpArgs false

def upd (A : Nat → Th) (i f : Nat) (y : Int) : Nat → Th := fun j => if j = i then (A i).put f y else A j
def hangA (A : Nat → Th) (u s i : Nat) : Nat → Th := if i = 0 then upd A u (1 + s) (i : Int) else upd (upd A u (1 + s) (i : Int)) i 0 (u : Int)
def countA (A : Nat → Th) (i : Nat) : Nat → Th := upd A i 4 ((A (A i).d0).whole + (A i).long + (A (A i).d1).whole)
def sideA (A : Nat → Th) (i : Nat) : Nat := if (A (A i).up).d1 = i then 1 else 0
def downA (A : Nat → Th) (i s : Nat) : Nat := if s = 0 then (A i).d0 else (A i).d1
def liftA (A : Nat → Th) (i : Nat) : Nat → Th :=
  countA (countA (hangA (hangA (hangA A (A (A i).up).up (sideA A (A i).up) i) i (1 - sideA A i) (A i).up) (A i).up (sideA A i) (downA A i (1 - sideA A i))) (A i).up) i
theorem RepC.congr {A B : Nat → Th} : ∀ {c : List Fr} {i : Nat} {s : Int}, (∀ j ∈ cl c ++ cr c, A j = B j) → RepC A c i s → RepC B c i s
  | [], _, _, _, _ => trivial
  | .L u r :: c, i, s, h, ⟨h1, h2, h3, h4, h5, h6⟩ => by
    have hu := h u (by simp [cl, cr])
    have hr : ∀ j ∈ r.flat, A j = B j := fun j hj => h j (by simp [cl, cr, hj])
    have s2 := Tr.sum_congr (A := A) (B := B) (t := r) fun j hj => by rw [hr j hj]
    refine ⟨by rw [← hu]; exact h1, by rw [← hu]; exact h2, by rw [← hu]; exact h3, by rw [← hu, ← s2]; exact h4, Rep.congr hr h5, ?_⟩
    rw [← hu, ← s2]
    exact RepC.congr (fun j hj => h j (by simp only [cl, cr, List.mem_append, List.mem_cons] at hj ⊢; rcases hj with hj | hj <;> simp [hj])) h6
  | .R l u :: c, i, s, h, ⟨h1, h2, h3, h4, h5, h6⟩ => by
    have hu := h u (by simp [cl, cr])
    have hl : ∀ j ∈ l.flat, A j = B j := fun j hj => h j (by simp [cl, cr, hj])
    have s2 := Tr.sum_congr (A := A) (B := B) (t := l) fun j hj => by rw [hl j hj]
    refine ⟨by rw [← hu]; exact h1, by rw [← hu]; exact h2, by rw [← hu]; exact h3, by rw [← hu, ← s2]; exact h4, Rep.congr hl h5, ?_⟩
    rw [← hu, ← s2]
    exact RepC.congr (fun j hj => h j (by simp only [cl, cr, List.mem_append, List.mem_cons] at hj ⊢; rcases hj with hj | hj <;> simp [hj])) h6
/-- Another root below: the one above alone tells it. -/
theorem RepC.hung {A B : Nat → Th} {c : List Fr} {i j : Nat} {s : Int} (h : RepC A c i s) (hn : (cl c ++ cr c).Nodup)
    (hp : ∀ f c', c = f :: c' → B (par c) = match f with | .L _ _ => { A (par c) with d0 := j } | .R _ _ => { A (par c) with d1 := j })
    (ho : ∀ x ∈ cl c ++ cr c, x ≠ par c → A x = B x) : RepC B c j s := by
  cases c with
  | nil => trivial
  | cons f c =>
    cases f with
    | L u r =>
      obtain ⟨h1, h2, h3, h4, h5, h6⟩ := h
      have hu : B u = { A u with d0 := j } := hp _ _ rfl
      have hn' : (cl c ++ (u :: r.flat ++ cr c)).Nodup := by simpa [cl, cr] using hn
      have hnd := List.nodup_append.1 hn'
      have hnd2 := List.nodup_append.1 hnd.2.1
      have ur : u ∉ r.flat := (List.nodup_cons.1 hnd2.1).1
      have ucr : u ∉ cr c := fun h => hnd2.2.2 u (List.mem_cons_self ..) u h rfl
      have ucl : u ∉ cl c := fun h => hnd.2.2 u h u (by simp) rfl
      have hr : ∀ x ∈ r.flat, A x = B x := fun x hx => ho x (by simp [cl, cr, hx]) (fun e => by simp only [par] at e; subst e; exact ur hx)
      have s2 := Tr.sum_congr (A := A) (B := B) (t := r) fun x hx => by rw [hr x hx]
      refine ⟨by rw [hu]; exact h1, by rw [hu], by rw [hu]; exact h3, by rw [hu, ← s2]; exact h4, Rep.congr hr h5, ?_⟩
      rw [hu, ← s2]
      exact RepC.congr (fun x hx => ho x (by simp only [cl, cr, List.mem_append, List.mem_cons] at hx ⊢; rcases hx with hx | hx <;> simp [hx]) (fun e => by
        simp only [par] at e
        subst e
        rcases List.mem_append.1 hx with hx | hx
        · exact ucl hx
        · exact ucr hx)) h6
    | R l u =>
      obtain ⟨h1, h2, h3, h4, h5, h6⟩ := h
      have hu : B u = { A u with d1 := j } := hp _ _ rfl
      have hn' : (cl c ++ (l.flat ++ [u]) ++ cr c).Nodup := by simpa [cl, cr] using hn
      have hnd := List.nodup_append.1 hn'
      have hnd1 := List.nodup_append.1 hnd.1
      have hnd2 := List.nodup_append.1 hnd1.2.1
      have ul : u ∉ l.flat := fun h => hnd2.2.2 u h u (by simp) rfl
      have ucr : u ∉ cr c := fun h => hnd.2.2 u (by simp) u h rfl
      have ucl : u ∉ cl c := fun h => hnd1.2.2 u h u (by simp) rfl
      have hl : ∀ x ∈ l.flat, A x = B x := fun x hx => ho x (by simp [cl, cr, hx]) (fun e => by simp only [par] at e; subst e; exact ul hx)
      have s2 := Tr.sum_congr (A := A) (B := B) (t := l) fun x hx => by rw [hl x hx]
      refine ⟨by rw [hu]; exact h1, by rw [hu]; exact h2, by rw [hu], by rw [hu, ← s2]; exact h4, Rep.congr hl h5, ?_⟩
      rw [hu, ← s2]
      exact RepC.congr (fun x hx => ho x (by simp only [cl, cr, List.mem_append, List.mem_cons] at hx ⊢; rcases hx with hx | hx <;> simp [hx]) (fun e => by
        simp only [par] at e
        subst e
        rcases List.mem_append.1 hx with hx | hx
        · exact ucl hx
        · exact ucr hx)) h6
theorem par_mem {c : List Fr} (h : c ≠ []) : par c ∈ cl c ++ cr c := by
  cases c with
  | nil => exact absurd rfl h
  | cons f c => cases f <;> simp [par, cl, cr]
theorem root_mem {t : Tr} (h : t ≠ .nil) : t.root ∈ t.flat := by
  cases t with
  | nil => exact absurd rfl h
  | node l i r => simp [Tr.root, Tr.flat]
theorem Rep.whole {A : Nat → Th} {t : Tr} {p : Nat} (h : Rep A p t) (h0 : (A 0).whole = 0) : (A t.root).whole = t.sum A := by
  cases t with
  | nil => exact h0
  | node l i r => exact h.2.2.2.1
end Go.Proofs.YtnilikomoapcaaaGreat

/- Trees whose nodes are things of an array: the lift, in the array. -/
namespace Go.Proofs.YtnilikomoapcaaaGreat
set_option linter.unusedVariables false
set_option linter.unusedSimpArgs false

theorem hangA_up {A : Nat → Th} {u s i : Nat} (h : u ≠ i) : hangA A u s i u = (A u).put (1 + s) (i : Int) := by
  unfold hangA
  split
  · simp [upd]
  · simp [upd, h]
theorem hangA_it {A : Nat → Th} {u s i : Nat} (h : u ≠ i) (h0 : i ≠ 0) : hangA A u s i i = (A i).put 0 (u : Int) := by
  unfold hangA
  rw [if_neg h0]
  simp [upd, Ne.symm h]
theorem hangA_ne {A : Nat → Th} {u s i j : Nat} (h1 : j ≠ u) (h2 : i ≠ 0 → j ≠ i) : hangA A u s i j = A j := by
  unfold hangA
  split
  · simp [upd, h1]
  · rename_i h
    simp [upd, h1, h2 h]
theorem countA_it {A : Nat → Th} {i : Nat} : countA A i i = { A i with whole := (A (A i).d0).whole + (A i).long + (A (A i).d1).whole } := by simp [countA, upd, Th.put]
theorem countA_ne {A : Nat → Th} {i j : Nat} (h : j ≠ i) : countA A i j = A j := by simp [countA, upd, h]
/-- What a lift leaves, if i hangs on the front of u, and u on g. -/
theorem lift_front {A : Nat → Th} {i u g da db r s : Nat} (ai : (A i).up = u) (a0 : (A i).d0 = da) (a1 : (A i).d1 = db) (bu : (A u).up = g) (b1 : (A u).d1 = r) (hs : sideA A u = s) (hs2 : s < 2)
    (iu : i ≠ u) (ig : i ≠ g) (ug : u ≠ g) (i0 : i ≠ 0) (u0 : u ≠ 0) (ri : r ≠ i) (ru : r ≠ u) (rg : r = g → r = 0) (dbi : db ≠ i) (dbu : db ≠ u) (dbg : db = g → db = 0) (dbr : db = r → db = 0) (dai : da ≠ i) (dau : da ≠ u) (dag : da = g → da = 0) (dadb : da = db → da = 0) (w0 : (A 0).whole = 0) :
    liftA A i i = { A i with up := g, d1 := u, whole := (A da).whole + (A i).long + ((A db).whole + (A u).long + (A r).whole) } ∧
    liftA A i u = { A u with up := i, d0 := db, whole := (A db).whole + (A u).long + (A r).whole } ∧
    (db ≠ 0 → liftA A i db = { A db with up := u }) ∧
    liftA A i g = (A g).put (1 + s) (i : Int) ∧
    ∀ j, j ≠ i → j ≠ u → j ≠ g → (db ≠ 0 → j ≠ db) → liftA A i j = A j := by
  have hsi : sideA A i = 0 := by unfold sideA; rw [ai, b1, if_neg ri]
  have hd : downA A i 1 = db := by unfold downA; rw [if_neg (by omega)]; exact a1
  have e : liftA A i = countA (countA (hangA (hangA (hangA A g s i) i 1 u) u 0 db) u) i := by
    unfold liftA
    rw [ai, bu, hs, hsi, Nat.sub_zero, hd]
  rw [e]
  clear e
  -- the worlds between
  have p1i : hangA A g s i i = (A i).put 0 (g : Int) := hangA_it (Ne.symm ig) i0
  have p1u : hangA A g s i u = A u := hangA_ne ug (fun _ => Ne.symm iu)
  have p1g : hangA A g s i g = (A g).put (1 + s) (i : Int) := hangA_up (Ne.symm ig)
  have p1o : ∀ j, j ≠ i → j ≠ g → hangA A g s i j = A j := fun j h1 h2 => hangA_ne h2 (fun _ => h1)
  have p2i : hangA (hangA A g s i) i 1 u i = ((A i).put 0 (g : Int)).put 2 (u : Int) := by rw [hangA_up iu, p1i]
  have p2u : hangA (hangA A g s i) i 1 u u = (A u).put 0 (i : Int) := by rw [hangA_it iu u0, p1u]
  have p2o : ∀ j, j ≠ i → j ≠ u → hangA (hangA A g s i) i 1 u j = hangA A g s i j := fun j h1 h2 => hangA_ne h1 (fun _ => h2)
  have p3u : hangA (hangA (hangA A g s i) i 1 u) u 0 db u = ((A u).put 0 (i : Int)).put 1 (db : Int) := by rw [hangA_up (Ne.symm dbu), p2u]
  have p3i : hangA (hangA (hangA A g s i) i 1 u) u 0 db i = ((A i).put 0 (g : Int)).put 2 (u : Int) := by rw [hangA_ne iu (fun _ => Ne.symm dbi), p2i]
  have p3d : db ≠ 0 → hangA (hangA (hangA A g s i) i 1 u) u 0 db db = (A db).put 0 (u : Int) := fun h => by
    rw [hangA_it (Ne.symm dbu) h, p2o db dbi dbu, p1o db dbi (fun e => h (dbg e))]
  have p3o : ∀ j, j ≠ u → (db ≠ 0 → j ≠ db) → hangA (hangA (hangA A g s i) i 1 u) u 0 db j = hangA (hangA A g s i) i 1 u j := fun j h1 h2 => hangA_ne h1 h2
  generalize hC : hangA (hangA (hangA A g s i) i 1 u) u 0 db = C at *
  have cw : ∀ j, j ≠ i → j ≠ u → (C j).whole = (A j).whole := fun j h1 h2 => by
    by_cases hj : j = db
    · by_cases h0 : db = 0
      · rw [p3o j h2 (fun h => absurd h0 h), p2o j h1 h2]
        by_cases hg : j = g
        · rw [hg, p1g]
          match s, hs2 with
          | 0, _ => rfl
          | 1, _ => rfl
        · rw [p1o j h1 hg]
      · rw [hj, p3d h0]; rfl
    · rw [p3o j h2 (fun _ => hj), p2o j h1 h2]
      by_cases hg : j = g
      · rw [hg, p1g]
        match s, hs2 with
        | 0, _ => rfl
        | 1, _ => rfl
      · rw [p1o j h1 hg]
  have cu : countA C u u = { A u with up := i, d0 := db, whole := (A db).whole + (A u).long + (A r).whole } := by
    rw [countA_it, p3u]
    simp only [Th.put, Int.toNat_natCast]
    rw [b1, cw db dbi dbu, cw r ri ru]
  have ci : countA C u i = ((A i).put 0 (g : Int)).put 2 (u : Int) := by rw [countA_ne iu, p3i]
  refine ⟨?_, ?_, ?_, ?_, ?_⟩
  · rw [countA_it, ci]
    simp only [Th.put, Int.toNat_natCast]
    rw [cu, a0, countA_ne dau, cw da dai dau]
  · rw [countA_ne (Ne.symm iu), cu]
  · intro h
    rw [countA_ne dbi, countA_ne dbu, p3d h]
    simp [Th.put]
  · rw [countA_ne (Ne.symm ig), countA_ne (Ne.symm ug)]
    by_cases hgd : g = db
    · have h0 : db = 0 := dbg hgd.symm
      rw [p3o g (Ne.symm ug) (fun h => absurd h0 h), p2o g (Ne.symm ig) (Ne.symm ug), p1g]
    · rw [p3o g (Ne.symm ug) (fun _ => hgd), p2o g (Ne.symm ig) (Ne.symm ug), p1g]
  · intro j h1 h2 h3 h4
    rw [countA_ne h1, countA_ne h2, p3o j h2 h4, p2o j h1 h2, p1o j h1 h3]
/-- What a lift leaves, if i hangs on the back of u, and u on g. -/
theorem lift_back {A : Nat → Th} {i u g da db r s : Nat} (ai : (A i).up = u) (a0 : (A i).d0 = da) (a1 : (A i).d1 = db) (bu : (A u).up = g) (b0 : (A u).d0 = r) (b1 : (A u).d1 = i) (hs : sideA A u = s) (hs2 : s < 2)
    (iu : i ≠ u) (ig : i ≠ g) (ug : u ≠ g) (i0 : i ≠ 0) (u0 : u ≠ 0) (ri : r ≠ i) (ru : r ≠ u) (rg : r = g → r = 0) (dai : da ≠ i) (dau : da ≠ u) (dag : da = g → da = 0) (dbi : db ≠ i) (dbu : db ≠ u) (w0 : (A 0).whole = 0) :
    liftA A i i = { A i with up := g, d0 := u, whole := ((A r).whole + (A u).long + (A da).whole) + (A i).long + (A db).whole } ∧
    liftA A i u = { A u with up := i, d1 := da, whole := (A r).whole + (A u).long + (A da).whole } ∧
    (da ≠ 0 → liftA A i da = { A da with up := u }) ∧
    liftA A i g = (A g).put (1 + s) (i : Int) ∧
    ∀ j, j ≠ i → j ≠ u → j ≠ g → (da ≠ 0 → j ≠ da) → liftA A i j = A j := by
  have hsi : sideA A i = 1 := by unfold sideA; rw [ai, if_pos b1]
  have hd : downA A i 0 = da := by unfold downA; rw [if_pos rfl]; exact a0
  have e : liftA A i = countA (countA (hangA (hangA (hangA A g s i) i 0 u) u 1 da) u) i := by
    unfold liftA
    rw [ai, bu, hs, hsi, Nat.sub_self, hd]
  rw [e]
  clear e
  -- the worlds between
  have p1i : hangA A g s i i = (A i).put 0 (g : Int) := hangA_it (Ne.symm ig) i0
  have p1u : hangA A g s i u = A u := hangA_ne ug (fun _ => Ne.symm iu)
  have p1g : hangA A g s i g = (A g).put (1 + s) (i : Int) := hangA_up (Ne.symm ig)
  have p1o : ∀ j, j ≠ i → j ≠ g → hangA A g s i j = A j := fun j h1 h2 => hangA_ne h2 (fun _ => h1)
  have p2i : hangA (hangA A g s i) i 0 u i = ((A i).put 0 (g : Int)).put 1 (u : Int) := by rw [hangA_up iu, p1i]
  have p2u : hangA (hangA A g s i) i 0 u u = (A u).put 0 (i : Int) := by rw [hangA_it iu u0, p1u]
  have p2o : ∀ j, j ≠ i → j ≠ u → hangA (hangA A g s i) i 0 u j = hangA A g s i j := fun j h1 h2 => hangA_ne h1 (fun _ => h2)
  have p3u : hangA (hangA (hangA A g s i) i 0 u) u 1 da u = ((A u).put 0 (i : Int)).put 2 (da : Int) := by rw [hangA_up (Ne.symm dau), p2u]
  have p3i : hangA (hangA (hangA A g s i) i 0 u) u 1 da i = ((A i).put 0 (g : Int)).put 1 (u : Int) := by rw [hangA_ne iu (fun _ => Ne.symm dai), p2i]
  have p3d : da ≠ 0 → hangA (hangA (hangA A g s i) i 0 u) u 1 da da = (A da).put 0 (u : Int) := fun h => by
    rw [hangA_it (Ne.symm dau) h, p2o da dai dau, p1o da dai (fun e => h (dag e))]
  have p3o : ∀ j, j ≠ u → (da ≠ 0 → j ≠ da) → hangA (hangA (hangA A g s i) i 0 u) u 1 da j = hangA (hangA A g s i) i 0 u j := fun j h1 h2 => hangA_ne h1 h2
  generalize hC : hangA (hangA (hangA A g s i) i 0 u) u 1 da = C at *
  have cw : ∀ j, j ≠ i → j ≠ u → (C j).whole = (A j).whole := fun j h1 h2 => by
    by_cases hj : j = da
    · by_cases h0 : da = 0
      · rw [p3o j h2 (fun h => absurd h0 h), p2o j h1 h2]
        by_cases hg : j = g
        · rw [hg, p1g]
          match s, hs2 with
          | 0, _ => rfl
          | 1, _ => rfl
        · rw [p1o j h1 hg]
      · rw [hj, p3d h0]; rfl
    · rw [p3o j h2 (fun _ => hj), p2o j h1 h2]
      by_cases hg : j = g
      · rw [hg, p1g]
        match s, hs2 with
        | 0, _ => rfl
        | 1, _ => rfl
      · rw [p1o j h1 hg]
  have cu : countA C u u = { A u with up := i, d1 := da, whole := (A r).whole + (A u).long + (A da).whole } := by
    rw [countA_it, p3u]
    simp only [Th.put, Int.toNat_natCast]
    rw [b0, cw r ri ru, cw da dai dau]
  have ci : countA C u i = ((A i).put 0 (g : Int)).put 1 (u : Int) := by rw [countA_ne iu, p3i]
  refine ⟨?_, ?_, ?_, ?_, ?_⟩
  · rw [countA_it, ci]
    simp only [Th.put, Int.toNat_natCast]
    rw [cu, a1, countA_ne dbu, cw db dbi dbu]
  · rw [countA_ne (Ne.symm iu), cu]
  · intro h
    rw [countA_ne dai, countA_ne dau, p3d h]
    simp [Th.put]
  · rw [countA_ne (Ne.symm ig), countA_ne (Ne.symm ug)]
    by_cases hgd : g = da
    · have h0 : da = 0 := dag hgd.symm
      rw [p3o g (Ne.symm ug) (fun h => absurd h0 h), p2o g (Ne.symm ig) (Ne.symm ug), p1g]
    · rw [p3o g (Ne.symm ug) (fun _ => hgd), p2o g (Ne.symm ig) (Ne.symm ug), p1g]
  · intro j h1 h2 h3 h4
    rw [countA_ne h1, countA_ne h2, p3o j h2 h4, p2o j h1 h2, p1o j h1 h3]
end Go.Proofs.YtnilikomoapcaaaGreat
