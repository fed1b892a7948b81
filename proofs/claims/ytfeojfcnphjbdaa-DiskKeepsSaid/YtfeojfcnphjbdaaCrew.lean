/- Several disks side by side. -/
import Derived.Test.YtfeojfcnphjbdaaLiveD
import Derived.Test.YtfeojfcnphjbdaaCutM
import Derived.Test.YtfeojfcnphjbdaaLight4
namespace Go.Proofs.Ytfeojfcnphjbdaa
open Go.RowKit Go.Maps
set_option linter.unusedVariables false

/-- Disks made since w0, none of which has a block of another. -/
structure Crew (w0 w : World) (L : List (Nat × (Nat → Prop) × St)) : Prop where
  live : ∀ x ∈ L, Live w0 w x.1 x.2.1 x.2.2
  apart : L.Pairwise fun x y => ∀ k, x.2.1 k → ¬ y.2.1 k
section
variable {w0 w w' : World} {L : List (Nat × (Nat → Prop) × St)}
theorem Crew.touch (h : Crew w0 w L) (t : Touch (fun _ => False) w w') : Crew w0 w' L := ⟨fun x hx => (h.live x hx).touch t, h.apart⟩
theorem Crew.nil (w : World) : Crew w w [] := ⟨fun x hx => (by cases hx), List.Pairwise.nil⟩
theorem Crew.add (h : Crew w0 w L) (hw : Touch (fun _ => False) w0 w) {c : Nat} {G : Nat → Prop} {s : St} (hl : Live w w' c G s) : Crew w0 w' ((c, G, s) :: L) := by
  refine ⟨fun x hx => ?_, List.pairwise_cons.2 ⟨fun y hy k hk hyk => ?_, h.apart⟩⟩
  · rcases List.mem_cons.1 hx with rfl | hx
    · exact hl.weaken hw
    · exact (h.live x hx).touch hl.since
  · exact Nat.lt_irrefl k (Nat.lt_of_lt_of_le ((h.live y hy).disk.lt hyk) (hl.new k hk))
theorem Crew.step {a : Nat} {F : Nat → Prop} {s s' : St} (h : Crew w0 w ((a, F, s) :: L)) (hP : LPost w0 a F s' w w') : ∃ F', Crew w0 w' ((a, F', s') :: L) := by
  obtain ⟨F', hl, hs⟩ := hP
  have hp := List.pairwise_cons.1 h.apart
  have ho : ∀ y ∈ L, Live w0 w' y.1 y.2.1 y.2.2 ∧ ∀ k, F' k → ¬ y.2.1 k := fun y hy => (h.live y (by simp [hy])).other hs (h.live (a, F, s) (by simp)).new (hp.1 y hy)
  refine ⟨F', fun x hx => ?_, List.pairwise_cons.2 ⟨fun y hy => (ho y hy).2, hp.2⟩⟩
  rcases List.mem_cons.1 hx with rfl | hx
  · exact hl
  · exact (ho x hx).1
theorem Crew.perm {L' : List (Nat × (Nat → Prop) × St)} (h : Crew w0 w L) (p : L.Perm L') : Crew w0 w L' :=
  ⟨fun x hx => h.live x (p.mem_iff.2 hx), (p.pairwise_iff fun h k hy hx => h k hx hy).1 h.apart⟩
theorem Crew.swap {x y : Nat × (Nat → Prop) × St} (h : Crew w0 w (x :: y :: L)) : Crew w0 w (y :: x :: L) := h.perm (List.Perm.swap y x L)
theorem Crew.rot {x y z : Nat × (Nat → Prop) × St} (h : Crew w0 w (x :: y :: z :: L)) : Crew w0 w (z :: x :: y :: L) := (h.perm ((List.Perm.swap z y L).cons x)).swap
end
theorem Steps.touch {w w' : World} {ao : Option Addr} {l : List StepV} (hS : Steps w ao l) (t : Touch (fun _ => False) w w') : Steps w' ao l := by
  refine ⟨fun x hx => ?_, fun i hi => ?_⟩
  · have h := hS.ok x hx
    exact ⟨h.what, h.n, h.name, h.tgt, h.bl.keep fun e => t.block _ (h.bl.lt e) id, h.bno, h.blen, h.kl.keep fun e => t.block _ (h.kl.lt e) id, h.klen, h.kin⟩
  · obtain ⟨g, off, e, hA⟩ := hS.cells i hi
    exact ⟨g, off, e, hA.touch t⟩
end Go.Proofs.Ytfeojfcnphjbdaa
