/- Trees whose nodes are things of an array: one made longer. -/
import Derived.Test.YtcolbgbmnmkogabTreS
namespace Go.Proofs.Ytcolbgbmnmkogab
set_option linter.unusedVariables false
set_option linter.unusedSimpArgs false

/-- The ones above, the nearest first. -/
def ups : List Fr → List Nat
  | [] => []
  | .L u _ :: c => u :: ups c
  | .R _ u :: c => u :: ups c
theorem ups_sub : ∀ {c : List Fr} {x : Nat}, x ∈ ups c → x ∈ cl c ++ cr c
  | .L u r :: c, x, h => by
    rcases List.mem_cons.1 h with rfl | h
    · simp [cl, cr]
    · have := ups_sub h
      simp only [cl, cr, List.mem_append, List.mem_cons] at this ⊢
      rcases this with h | h <;> simp [h]
  | .R l u :: c, x, h => by
    rcases List.mem_cons.1 h with rfl | h
    · simp [cl, cr]
    · have := ups_sub h
      simp only [cl, cr, List.mem_append, List.mem_cons] at this ⊢
      rcases this with h | h <;> simp [h]
/-- The wholes of these by n more. -/
def moreW (A : Nat → Th) (P : List Nat) (n : Int) : Nat → Th := fun j => if j ∈ P then { A j with whole := (A j).whole + n } else A j
/-- One by n longer. -/
def moreL (A : Nat → Th) (i : Nat) (n : Int) : Nat → Th := fun j => if j = i then { A i with long := (A i).long + n } else A j
def growA (A : Nat → Th) (i : Nat) (P : List Nat) (n : Int) : Nat → Th := moreW (moreL A i n) P n
theorem RepC.grow {A B : Nat → Th} {n : Int} : ∀ {c : List Fr} {i : Nat} {s : Int}, RepC A c i s → (cl c ++ cr c).Nodup → (∀ j ∈ ups c, B j = { A j with whole := (A j).whole + n }) → (∀ j ∈ cl c ++ cr c, j ∉ ups c → B j = A j) → RepC B c i (s + n)
  | [], _, _, _, _, _, _ => trivial
  | .L u r :: c, i, s, ⟨h1, h2, h3, h4, h5, h6⟩, hn, hu, ho => by
    have hn' : (cl c ++ (u :: r.flat ++ cr c)).Nodup := by simpa [cl, cr] using hn
    have hnd := List.nodup_append.1 hn'
    have hnd2 := List.nodup_append.1 hnd.2.1
    have hcc : (cl c ++ cr c).Nodup := List.nodup_append.2 ⟨hnd.1, hnd2.2.1, fun x hx y hy => hnd.2.2 x hx y (by simp [hy])⟩
    have uc : u ∉ cl c ++ cr c := fun h => by
      rcases List.mem_append.1 h with h | h
      · exact hnd.2.2 u h u (by simp) rfl
      · exact hnd2.2.2 u (by simp) u h rfl
    have rc : ∀ x ∈ r.flat, x ∉ cl c ++ cr c := fun x hx h => by
      rcases List.mem_append.1 h with h | h
      · exact hnd.2.2 x h x (by simp [hx]) rfl
      · exact hnd2.2.2 x (by simp [hx]) x h rfl
    have ur : u ∉ r.flat := (List.nodup_cons.1 hnd2.1).1
    have bu := hu u (by simp [ups])
    have br : ∀ x ∈ r.flat, A x = B x := fun x hx => (ho x (by simp [cl, cr, hx]) (fun h => by
      rcases List.mem_cons.1 h with rfl | h
      · exact ur hx
      · exact rc x hx (ups_sub h))).symm
    have s2 := Tr.sum_congr (A := A) (B := B) (t := r) fun x hx => by rw [br x hx]
    refine ⟨by rw [bu]; exact h1, by rw [bu]; exact h2, by rw [bu]; exact h3, ?_, Rep.congr br h5, ?_⟩
    · rw [bu, ← s2]
      show (A u).whole + n = s + n + (A u).long + r.sum A
      rw [h4]
      omega
    · rw [bu, ← s2, show s + n + (A u).long + r.sum A = s + (A u).long + r.sum A + n from by omega]
      refine RepC.grow h6 hcc (fun j hj => hu j (by simp [ups, hj])) (fun j hj hj' => ho j ?_ ?_)
      · simp only [cl, cr, List.mem_append, List.mem_cons] at hj ⊢
        rcases hj with h | h <;> simp [h]
      · intro h
        rcases List.mem_cons.1 h with rfl | h
        · exact uc hj
        · exact hj' h
  | .R l u :: c, i, s, ⟨h1, h2, h3, h4, h5, h6⟩, hn, hu, ho => by
    have hn' : (cl c ++ (l.flat ++ [u]) ++ cr c).Nodup := by simpa [cl, cr] using hn
    have hnd := List.nodup_append.1 hn'
    have hnd1 := List.nodup_append.1 hnd.1
    have hnd2 := List.nodup_append.1 hnd1.2.1
    have hcc : (cl c ++ cr c).Nodup := List.nodup_append.2 ⟨hnd1.1, hnd.2.1, fun x hx y hy => hnd.2.2 x (by simp [hx]) y hy⟩
    have uc : u ∉ cl c ++ cr c := fun h => by
      rcases List.mem_append.1 h with h | h
      · exact hnd1.2.2 u h u (by simp) rfl
      · exact hnd.2.2 u (by simp) u h rfl
    have rc : ∀ x ∈ l.flat, x ∉ cl c ++ cr c := fun x hx h => by
      rcases List.mem_append.1 h with h | h
      · exact hnd1.2.2 x h x (by simp [hx]) rfl
      · exact hnd.2.2 x (by simp [hx]) x h rfl
    have ul : u ∉ l.flat := fun h => hnd2.2.2 u h u (by simp) rfl
    have bu := hu u (by simp [ups])
    have br : ∀ x ∈ l.flat, A x = B x := fun x hx => (ho x (by simp [cl, cr, hx]) (fun h => by
      rcases List.mem_cons.1 h with rfl | h
      · exact ul hx
      · exact rc x hx (ups_sub h))).symm
    have s2 := Tr.sum_congr (A := A) (B := B) (t := l) fun x hx => by rw [br x hx]
    refine ⟨by rw [bu]; exact h1, by rw [bu]; exact h2, by rw [bu]; exact h3, ?_, Rep.congr br h5, ?_⟩
    · rw [bu, ← s2]
      show (A u).whole + n = l.sum A + (A u).long + (s + n)
      rw [h4]
      omega
    · rw [bu, ← s2, show l.sum A + (A u).long + (s + n) = l.sum A + (A u).long + s + n from by omega]
      refine RepC.grow h6 hcc (fun j hj => hu j (by simp [ups, hj])) (fun j hj hj' => ho j ?_ ?_)
      · simp only [cl, cr, List.mem_append, List.mem_cons] at hj ⊢
        rcases hj with h | h <;> simp [h]
      · intro h
        rcases List.mem_cons.1 h with rfl | h
        · exact uc hj
        · exact hj' h
/-- The row with one thing longer by n: the same tree. -/
theorem grow_rep {A : Nat → Th} {c : List Fr} {a b : Tr} {i : Nat} {n : Int} (H : Rep A 0 (plug c (.node a i b))) (N : (plug c (.node a i b)).flat.Nodup) : Rep (growA A i (i :: ups c) n) 0 (plug c (.node a i b)) := by
  rw [flat_plug] at N
  obtain ⟨hC, i1, i2, i3, i4, i5, i6⟩ := (rep_plug A c (.node a i b)).1 H
  have n1 : (cl c ++ (a.flat ++ i :: b.flat) ++ cr c).Nodup := N
  have hnd := List.nodup_append.1 n1
  have hnd1 := List.nodup_append.1 hnd.1
  have hnd2 := List.nodup_append.1 hnd1.2.1
  have hnd3 := List.nodup_cons.1 hnd2.2.1
  have hcc : (cl c ++ cr c).Nodup := List.nodup_append.2 ⟨hnd1.1, hnd.2.1, fun x hx y hy => hnd.2.2 x (by simp [hx]) y hy⟩
  have hin : ∀ x ∈ a.flat ++ i :: b.flat, x ∉ cl c ++ cr c := fun x hx h => by
    rcases List.mem_append.1 h with h | h
    · exact hnd1.2.2 x h x hx rfl
    · exact hnd.2.2 x (List.mem_append.2 (.inr hx)) x h rfl
  have ic : i ∉ cl c ++ cr c := hin i (by simp)
  have ia : i ∉ a.flat := fun h => hnd2.2.2 i h i (by simp) rfl
  have ib : i ∉ b.flat := hnd3.1
  have gi : growA A i (i :: ups c) n i = { A i with long := (A i).long + n, whole := (A i).whole + n } := by simp [growA, moreW, moreL]
  have go : ∀ x, x ≠ i → x ∉ ups c → growA A i (i :: ups c) n x = A x := fun x h1 h2 => by simp [growA, moreW, moreL, h1, h2]
  have gu : ∀ x ∈ ups c, growA A i (i :: ups c) n x = { A x with whole := (A x).whole + n } := fun x hx => by
    have : x ≠ i := fun e => ic (e ▸ ups_sub hx)
    simp [growA, moreW, moreL, hx, this]
  have ga : ∀ x ∈ a.flat, A x = growA A i (i :: ups c) n x := fun x hx => (go x (fun e => ia (e ▸ hx)) (fun h => hin x (by simp [hx]) (ups_sub h))).symm
  have gb : ∀ x ∈ b.flat, A x = growA A i (i :: ups c) n x := fun x hx => (go x (fun e => ib (e ▸ hx)) (fun h => hin x (by simp [hx]) (ups_sub h))).symm
  have sa := Tr.sum_congr (A := A) (B := growA A i (i :: ups c) n) (t := a) fun x hx => by rw [← ga x hx]
  have sb := Tr.sum_congr (A := A) (B := growA A i (i :: ups c) n) (t := b) fun x hx => by rw [← gb x hx]
  refine (rep_plug _ c _).2 ⟨?_, ⟨by rw [gi]; exact i1, by rw [gi]; exact i2, by rw [gi]; exact i3, ?_, Rep.congr ga i5, Rep.congr gb i6⟩⟩
  · have e : (Tr.node a i b).sum (growA A i (i :: ups c) n) = (Tr.node a i b).sum A + n := by
      simp only [Tr.sum, ← sa, ← sb, gi]
      omega
    rw [e]
    exact hC.grow hcc gu (fun x hx hx' => go x (fun e => ic (e ▸ hx)) hx')
  · rw [gi, ← sa, ← sb]
    show (A i).whole + n = a.sum A + ((A i).long + n) + b.sum A
    rw [i4]
    omega
end Go.Proofs.Ytcolbgbmnmkogab
