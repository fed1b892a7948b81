/- A vector's bytes, as lists. -/
import Derived.Test.YtdblfabbmpdoiaaGreatVecM
import Derived.Test.YtdblfabbmpdoiaaGreatPut
namespace Go.Proofs.YtdblfabbmpdoiaaGreat
set_option linter.unusedVariables false
set_option linter.unusedSimpArgs false

/-- Clients by how far each is from the one ahead, and their clocks. -/
def encC : Int → List Ck → List UInt8
  | _, [] => []
  | a, x :: l => putU (x.c - a).toNat ++ (putU x.k.toNat ++ encC x.c l)
def lastC : Int → List Ck → Int
  | a, [] => a
  | _, x :: l => lastC x.c l
/-- The whole. -/
def encV (l : List Ck) : List UInt8 := putU l.length ++ encC 0 l
theorem encC_snoc (a : Int) (l : List Ck) (x : Ck) : encC a (l ++ [x]) = encC a l ++ (putU (x.c - lastC a l).toNat ++ putU x.k.toNat) := by
  induction l generalizing a with
  | nil => simp [encC, lastC]
  | cons y l ih => simp [encC, lastC, ih]
theorem lastC_snoc (a : Int) (l : List Ck) (x : Ck) : lastC a (l ++ [x]) = x.c := by
  induction l generalizing a with
  | nil => rfl
  | cons y l ih => exact ih y.c
theorem lastC_mem (a : Int) (l : List Ck) (h : l ≠ []) : ∃ y ∈ l, lastC a l = y.c := by
  induction l generalizing a with
  | nil => exact absurd rfl h
  | cons y l ih =>
    cases l with
    | nil => exact ⟨y, by simp, rfl⟩
    | cons z l =>
      obtain ⟨q, hq, e⟩ := ih y.c (by simp)
      exact ⟨q, List.mem_cons_of_mem _ hq, e⟩
/-- Clients rise: each is above the one ahead. -/
theorem lastC_lt {l : List Ck} (ha : l.Pairwise (fun a b => a.c < b.c)) (ho : ∀ x ∈ l, x.ok = true) {j : Nat} (hj : j < l.length) : 0 ≤ lastC 0 (l.take j) ∧ lastC 0 (l.take j) < l[j].c := by
  have hx := Ck.ok_iff.1 (ho l[j] (List.getElem_mem hj))
  by_cases h : l.take j = []
  · rw [h]; show 0 ≤ (0 : Int) ∧ (0 : Int) < _; omega
  · obtain ⟨y, hy, e⟩ := lastC_mem 0 (l.take j) h
    have hyo := Ck.ok_iff.1 (ho y (List.mem_of_mem_take hy))
    obtain ⟨i, hi, rfl⟩ := List.mem_iff_getElem.1 hy
    rw [List.getElem_take] at *
    have hi' : i < j := by rw [List.length_take] at hi; omega
    have := List.pairwise_iff_getElem.1 ha i j (by omega) hj hi'
    omega
theorem putU_len (n : Nat) : (putU n).length ≤ 10 := putGo_length 9 n
theorem encC_len (a : Int) (l : List Ck) : (encC a l).length ≤ 20 * l.length := by
  induction l generalizing a with
  | nil => simp [encC]
  | cons x l ih =>
    have h1 := putU_len (x.c - a).toNat
    have h2 := putU_len x.k.toNat
    have := ih x.c
    simp only [encC, List.length_append, List.length_cons]
    omega
theorem encV_len (l : List Ck) : (encV l).length ≤ 10 + 20 * l.length := by
  have h1 := putU_len l.length
  have := encC_len 0 l
  simp only [encV, List.length_append]
  omega
end Go.Proofs.YtdblfabbmpdoiaaGreat
