/- Trees whose nodes are things of an array: a node lifted above the one that it hangs on. -/
import Derived.Test.YtcolbgbmnmkogabTreM
namespace Go.Proofs.Ytcolbgbmnmkogab
set_option linter.unusedVariables false
set_option linter.unusedSimpArgs false

def upd (A : Nat → Th) (i f : Nat) (y : Int) : Nat → Th := fun j => if j = i then (A i).put f y else A j
def hangA (A : Nat → Th) (u s i : Nat) : Nat → Th := if i = 0 then upd A u (1 + s) (i : Int) else upd (upd A u (1 + s) (i : Int)) i 0 (u : Int)
def countA (A : Nat → Th) (i : Nat) : Nat → Th := upd A i 4 ((A (A i).d0).whole + (A i).long + (A (A i).d1).whole)
def sideA (A : Nat → Th) (i : Nat) : Nat := if (A (A i).up).d1 = i then 1 else 0
def downA (A : Nat → Th) (i s : Nat) : Nat := if s = 0 then (A i).d0 else (A i).d1
def liftA (A : Nat → Th) (i : Nat) : Nat → Th :=
  countA (countA (hangA (hangA (hangA A (A (A i).up).up (sideA A (A i).up) i) i (1 - sideA A i) (A i).up) (A i).up (sideA A i) (downA A i (1 - sideA A i))) (A i).up) i
theorem RepC.congr {A B : Nat → Th} : ∀ {c : List Fr} {i : Nat} {s : Int}, (∀ j ∈ cl c ++ cr c, A j = B j) → RepC A c i s → RepC B c i s
  | [], _, _, _, _ => trivial
  | .L u r :: c, i, s, h, ⟨h1, h2, h3, h4, h5, h6⟩ => by
    have hu := h u (by simp [cl, cr])
    have hr : ∀ j ∈ r.flat, A j = B j := fun j hj => h j (by simp [cl, cr, hj])
    have s2 := Tr.sum_congr (A := A) (B := B) (t := r) fun j hj => by rw [hr j hj]
    refine ⟨by rw [← hu]; exact h1, by rw [← hu]; exact h2, by rw [← hu]; exact h3, by rw [← hu, ← s2]; exact h4, Rep.congr hr h5, ?_⟩
    rw [← hu, ← s2]
    exact RepC.congr (fun j hj => h j (by simp only [cl, cr, List.mem_append, List.mem_cons] at hj ⊢; rcases hj with hj | hj <;> simp [hj])) h6
  | .R l u :: c, i, s, h, ⟨h1, h2, h3, h4, h5, h6⟩ => by
    have hu := h u (by simp [cl, cr])
    have hl : ∀ j ∈ l.flat, A j = B j := fun j hj => h j (by simp [cl, cr, hj])
    have s2 := Tr.sum_congr (A := A) (B := B) (t := l) fun j hj => by rw [hl j hj]
    refine ⟨by rw [← hu]; exact h1, by rw [← hu]; exact h2, by rw [← hu]; exact h3, by rw [← hu, ← s2]; exact h4, Rep.congr hl h5, ?_⟩
    rw [← hu, ← s2]
    exact RepC.congr (fun j hj => h j (by simp only [cl, cr, List.mem_append, List.mem_cons] at hj ⊢; rcases hj with hj | hj <;> simp [hj])) h6
/-- Another root below: the one above alone tells it. -/
theorem RepC.hung {A B : Nat → Th} {c : List Fr} {i j : Nat} {s : Int} (h : RepC A c i s) (hn : (cl c ++ cr c).Nodup)
    (hp : ∀ f c', c = f :: c' → B (par c) = match f with | .L _ _ => { A (par c) with d0 := j } | .R _ _ => { A (par c) with d1 := j })
    (ho : ∀ x ∈ cl c ++ cr c, x ≠ par c → A x = B x) : RepC B c j s := by
  cases c with
  | nil => trivial
  | cons f c =>
    cases f with
    | L u r =>
      obtain ⟨h1, h2, h3, h4, h5, h6⟩ := h
      have hu : B u = { A u with d0 := j } := hp _ _ rfl
      have hn' : (cl c ++ (u :: r.flat ++ cr c)).Nodup := by simpa [cl, cr] using hn
      have hnd := List.nodup_append.1 hn'
      have hnd2 := List.nodup_append.1 hnd.2.1
      have ur : u ∉ r.flat := (List.nodup_cons.1 hnd2.1).1
      have ucr : u ∉ cr c := fun h => hnd2.2.2 u (List.mem_cons_self ..) u h rfl
      have ucl : u ∉ cl c := fun h => hnd.2.2 u h u (by simp) rfl
      have hr : ∀ x ∈ r.flat, A x = B x := fun x hx => ho x (by simp [cl, cr, hx]) (fun e => by simp only [par] at e; subst e; exact ur hx)
      have s2 := Tr.sum_congr (A := A) (B := B) (t := r) fun x hx => by rw [hr x hx]
      refine ⟨by rw [hu]; exact h1, by rw [hu], by rw [hu]; exact h3, by rw [hu, ← s2]; exact h4, Rep.congr hr h5, ?_⟩
      rw [hu, ← s2]
      exact RepC.congr (fun x hx => ho x (by simp only [cl, cr, List.mem_append, List.mem_cons] at hx ⊢; rcases hx with hx | hx <;> simp [hx]) (fun e => by
        simp only [par] at e
        subst e
        rcases List.mem_append.1 hx with hx | hx
        · exact ucl hx
        · exact ucr hx)) h6
    | R l u =>
      obtain ⟨h1, h2, h3, h4, h5, h6⟩ := h
      have hu : B u = { A u with d1 := j } := hp _ _ rfl
      have hn' : (cl c ++ (l.flat ++ [u]) ++ cr c).Nodup := by simpa [cl, cr] using hn
      have hnd := List.nodup_append.1 hn'
      have hnd1 := List.nodup_append.1 hnd.1
      have hnd2 := List.nodup_append.1 hnd1.2.1
      have ul : u ∉ l.flat := fun h => hnd2.2.2 u h u (by simp) rfl
      have ucr : u ∉ cr c := fun h => hnd.2.2 u (by simp) u h rfl
      have ucl : u ∉ cl c := fun h => hnd1.2.2 u h u (by simp) rfl
      have hl : ∀ x ∈ l.flat, A x = B x := fun x hx => ho x (by simp [cl, cr, hx]) (fun e => by simp only [par] at e; subst e; exact ul hx)
      have s2 := Tr.sum_congr (A := A) (B := B) (t := l) fun x hx => by rw [hl x hx]
      refine ⟨by rw [hu]; exact h1, by rw [hu]; exact h2, by rw [hu], by rw [hu, ← s2]; exact h4, Rep.congr hl h5, ?_⟩
      rw [hu, ← s2]
      exact RepC.congr (fun x hx => ho x (by simp only [cl, cr, List.mem_append, List.mem_cons] at hx ⊢; rcases hx with hx | hx <;> simp [hx]) (fun e => by
        simp only [par] at e
        subst e
        rcases List.mem_append.1 hx with hx | hx
        · exact ucl hx
        · exact ucr hx)) h6
theorem par_mem {c : List Fr} (h : c ≠ []) : par c ∈ cl c ++ cr c := by
  cases c with
  | nil => exact absurd rfl h
  | cons f c => cases f <;> simp [par, cl, cr]
theorem root_mem {t : Tr} (h : t ≠ .nil) : t.root ∈ t.flat := by
  cases t with
  | nil => exact absurd rfl h
  | node l i r => simp [Tr.root, Tr.flat]
theorem Rep.whole {A : Nat → Th} {t : Tr} {p : Nat} (h : Rep A p t) (h0 : (A 0).whole = 0) : (A t.root).whole = t.sum A := by
  cases t with
  | nil => exact h0
  | node l i r => exact h.2.2.2.1
end Go.Proofs.Ytcolbgbmnmkogab
