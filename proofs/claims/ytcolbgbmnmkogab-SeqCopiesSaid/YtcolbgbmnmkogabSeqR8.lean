/- Package seq's row: ahead. -/
import Derived.Test.YtcolbgbmnmkogabSeqR7
namespace Go.Proofs.Ytcolbgbmnmkogab
open Go.RowKit
set_option linter.unusedVariables false
set_option linter.unusedSimpArgs false
set_option maxRecDepth 100000

/-- How long all things ahead are, on the way up. -/
def sumC (A : Nat → Th) : List Fr → Int
  | [] => 0
  | .L _ _ :: c => sumC A c
  | .R l u :: c => sumC A c + (l.sum A + (A u).long)
theorem ThAt.range {w : World} {g i : Nat} {t : Th} (h : ThAt w g i t) : w.rangeAt g (i * 5) [iV t.up, iV t.d0, iV t.d1, iV t.long, iV t.whole] := by
  intro j v hv
  match j, hv with
  | 0, hv => have := h.c0; simpa using hv ▸ this
  | 1, hv => have := h.c1; simpa using hv ▸ this
  | 2, hv => have := h.c2; simpa using hv ▸ this
  | 3, hv => have := h.c3; simpa using hv ▸ this
  | 4, hv => have := h.c4; simpa using hv ▸ this
  | j + 5, hv => simp at hv
def SAhd (b k g cap n x u : Nat) (t : Th) (W : World) : Prop := W.cell? ⟨b, k, none⟩ = some (.slice (some ⟨g, 0, none⟩) n cap) ∧ W.cell? ⟨g, x * 5, none⟩ = some (iV (u : Int)) ∧ W.rangeAt g (u * 5) [iV t.up, iV t.d0, iV t.d1, iV t.long, iV t.whole]
/-- The labels of the way up are in the array. -/
def FitC (c : List Fr) (n : Nat) : Prop := ∀ x ∈ cl c ++ cr c, x < n ∧ x ≠ 0
theorem FitC.tail {f : Fr} {c : List Fr} {n : Nat} (h : FitC (f :: c) n) : FitC c n := fun x hx => h x (by
  cases f <;> (simp only [cl, cr, List.mem_append, List.mem_cons] at hx ⊢; rcases hx with hx | hx <;> simp [hx]))
theorem FitC.par {c : List Fr} {n : Nat} (h : FitC c n) (h0 : 0 < n) : par c < n := by
  cases c with
  | nil => exact h0
  | cons f c => exact (h _ (par_mem (by simp))).1
def topC : List Fr → Nat → Nat
  | [], i => i
  | .L u _ :: c, _ => topC c u
  | .R _ u :: c, _ => topC c u
theorem root_plug : ∀ (c : List Fr) (t : Tr), (plug c t).root = topC c t.root
  | [], _ => rfl
  | .L u r :: c, t => root_plug c (.node t u r)
  | .R l u :: c, t => root_plug c (.node l u t)
theorem Tr.sum_nn {A : Nat → Th} (h : ∀ j, 0 ≤ (A j).long) : ∀ t : Tr, 0 ≤ t.sum A
  | .nil => Int.le_refl _
  | .node l i r => by
    have h1 := Tr.sum_nn h l
    have h2 := Tr.sum_nn h r
    have h3 := h i
    simp only [Tr.sum]
    omega
theorem sumC_nn {A : Nat → Th} (h : ∀ j, 0 ≤ (A j).long) : ∀ c : List Fr, 0 ≤ sumC A c
  | [] => Int.le_refl _
  | .L u r :: c => sumC_nn h c
  | .R l u :: c => by
    have h1 := sumC_nn h c
    have h2 := Tr.sum_nn h l
    have h3 := h u
    simp only [sumC]
    omega
/-- Where ahead is, on its way up. -/
def InvA (A : Nat → Th) (n : Nat) (total : Int) (x : Nat) (c : List Fr) (acc : Int) : Prop :=
  0 ≤ acc ∧ acc ≤ total ∧ ((x = 0 ∧ c = [] ∧ acc = total) ∨ (x ≠ 0 ∧ x < n ∧ (A x).up = par c ∧ (∃ s, RepC A c x s) ∧ FitC c n ∧ (cl c ++ cr c).Nodup ∧ x ∉ cl c ++ cr c ∧ (A 0).d1 = topC c x ∧ acc + sumC A c = total))
theorem ahead_step {A : Nat → Th} {n : Nat} {total acc : Int} {x : Nat} {c : List Fr} (h : InvA A n total x c acc) (hx : x ≠ 0) (hn : 0 < n) (h0 : (A 0).d0 = 0 ∧ (A 0).long = 0 ∧ (A 0).whole = 0) (hT : ∀ j, 0 ≤ (A j).long) :
    x < n ∧ (A x).up < n ∧ (A (A x).up).d0 < n ∧ ∃ c' acc', InvA A n total (A x).up c' acc' ∧ (if (A x).up = 0 then 0 else c'.length + 1) = c.length ∧ ((sideA A x = 0 ∧ acc' = acc) ∨ (sideA A x = 1 ∧ acc' = acc + ((A (A (A x).up).d0).whole + (A (A x).up).long))) := by
  obtain ⟨p1, p2, h⟩ := h
  rcases h with ⟨h, _⟩ | ⟨_, hxn, hup, ⟨s, hC⟩, hF, hN, hxc, htop, hacc⟩
  · exact absurd h hx
  refine ⟨hxn, by rw [hup]; exact hF.par hn, ?_⟩
  cases c with
  | nil =>
    have e0 : (A x).up = 0 := hup
    have hs : sideA A x = 1 := by unfold sideA; rw [e0]; exact if_pos htop
    have ha : acc = total := by simpa [sumC] using hacc
    rw [e0, h0.1, h0.2.1, h0.2.2]
    refine ⟨hn, [], acc, ⟨p1, p2, .inl ⟨rfl, rfl, ha⟩⟩, by simp, .inr ⟨hs, by omega⟩⟩
  | cons f c =>
    have hpm := hF _ (par_mem (c := f :: c) (by simp))
    cases f with
    | L u r =>
      have eu : (A x).up = u := hup
      have hu0 : u ≠ 0 := hpm.2
      obtain ⟨c1, c2, c3, c4, c5, c6⟩ := hC
      have hs : sideA A x = 0 := by
        unfold sideA
        rw [eu, c3, if_neg (root_ne (fun h => hxc (by simp [cl, cr, h])) hx)]
      rw [eu]
      have hn' : (cl c ++ (u :: r.flat ++ cr c)).Nodup := by simpa [cl, cr] using hN
      have hnd := List.nodup_append.1 hn'
      have hnd2 := List.nodup_append.1 hnd.2.1
      refine ⟨by rw [c2]; exact hxn, c, acc, ⟨p1, p2, .inr ⟨hu0, hpm.1, c1, ⟨_, c6⟩, hF.tail, List.nodup_append.2 ⟨hnd.1, hnd2.2.1, fun a ha b hb => hnd.2.2 a ha b (by simp [hb])⟩, fun h => ?_, htop, hacc⟩⟩, by rw [if_neg hu0]; rfl, .inl ⟨hs, rfl⟩⟩
      rcases List.mem_append.1 h with h | h
      · exact hnd.2.2 u h u (by simp) rfl
      · exact hnd2.2.2 u (by simp) u h rfl
    | R l u =>
      have eu : (A x).up = u := hup
      have hu0 : u ≠ 0 := hpm.2
      obtain ⟨c1, c2, c3, c4, c5, c6⟩ := hC
      have hs : sideA A x = 1 := by unfold sideA; rw [eu]; exact if_pos c3
      have hlr : l.root < n := by
        cases l with
        | nil => exact hn
        | node p q v => exact (hF q (by simp [cl, cr, Tr.flat])).1
      have hwl : (A (A u).d0).whole = l.sum A := by rw [c2]; exact c5.whole h0.2.2
      rw [eu, hwl]
      have hn' : (cl c ++ (l.flat ++ [u]) ++ cr c).Nodup := by simpa [cl, cr] using hN
      have hnd := List.nodup_append.1 hn'
      have hnd1 := List.nodup_append.1 hnd.1
      have hnn := sumC_nn hT c
      have h2 := Tr.sum_nn hT l
      have h3 := hT u
      have hacc' : acc + (sumC A c + (l.sum A + (A u).long)) = total := hacc
      refine ⟨by rw [c2]; exact hlr, c, acc + (l.sum A + (A u).long), ⟨by omega, by omega, .inr ⟨hu0, hpm.1, c1, ⟨_, c6⟩, hF.tail, List.nodup_append.2 ⟨hnd1.1, hnd.2.1, fun a ha b hb => hnd.2.2 a (by simp [ha]) b hb⟩, fun h => ?_, htop, by omega⟩⟩, by rw [if_neg hu0]; rfl, .inr ⟨hs, rfl⟩⟩
      rcases List.mem_append.1 h with h | h
      · exact hnd1.2.2 u h u (by simp) rfl
      · exact hnd.2.2 u (by simp) u h rfl
end Go.Proofs.Ytcolbgbmnmkogab
