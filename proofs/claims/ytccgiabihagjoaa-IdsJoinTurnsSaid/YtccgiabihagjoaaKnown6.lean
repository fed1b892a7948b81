/- The chapter's examples, as the statements ask them. -/
import Derived.Test.YtccgiabihagjoaaIdUse
import Derived.Test.YtccgiabihagjoaaIdHas
import Derived.Test.YtccgiabihagjoaaIdSets
namespace Go.Proofs.Ytccgiabihagjoaa
open Go.RowKit Go.Maps
set_option linter.unusedVariables false
set_option linter.unusedSimpArgs false
set_option maxRecDepth 100000

theorem SlR.lit1 (W : World) (r : Rg) : SlR (W.alloc (rgO r)) (.slice (some ⟨W.heap.size, 0, none⟩) 1 1) [r] :=
  ⟨_, 1, rfl, (fun h => by cases h), by simp, by omega, LiesR.new W r⟩
theorem SlR.lit2 (W : World) (r s : Rg) : SlR (W.alloc (.cells #[.int .u64 r.c, .int .u64 r.f, .int .u64 r.t, .int .u64 s.c, .int .u64 s.f, .int .u64 s.t] 41)) (.slice (some ⟨W.heap.size, 0, none⟩) 2 2) [r, s] := by
  refine ⟨_, 2, rfl, (fun h => by cases h), by simp, by omega, .inr ⟨_, _, rfl, fun j u hu => ?_⟩⟩
  rw [Nat.zero_add, cell_of_block (heap_alloc_new W _)]
  have e : cellsR [r, s] = [.int .u64 r.c, .int .u64 r.f, .int .u64 r.t, .int .u64 s.c, .int .u64 s.f, .int .u64 s.t] := rfl
  rw [e] at hu
  simpa using hu
theorem turnOf_ok {x : Tn} {l : List Tn} (h : x.ok = true) (c k : Int) : turnOf (x :: l) c k = if x.c = c ∧ x.f ≤ k ∧ k < x.t then max x.n (turnOf l c k) else turnOf l c k := by
  rw [turnOf, h, Bool.true_and]
  by_cases g : x.has c k = true
  · rw [if_pos g, if_pos (Tn.has_iff.1 g)]
  · rw [if_neg g, if_neg (fun e => g (Tn.has_iff.2 e))]
theorem val_cons (x : Tn) (l : List Tn) (c k : Int) : val (x :: l) c k = if x.c = c ∧ x.f ≤ k ∧ k < x.t then x.n else val l c k := by
  rw [val]
  by_cases g : x.has c k = true
  · rw [if_pos g, if_pos (Tn.has_iff.1 g)]
  · rw [if_neg g, if_neg (fun e => g (Tn.has_iff.2 e))]
theorem known_clean : Form (tns [⟨1, 3, 7⟩]) (turnOf (tns [⟨1, 5, 7⟩, ⟨1, 3, 5⟩])) := by
  refine ⟨show Tn.ok _ = true by decide, fun c k => ?_⟩
  show val [⟨1, 3, 7, 1⟩] c k = turnOf [⟨1, 5, 7, 1⟩, ⟨1, 3, 5, 1⟩] c k
  rw [val_cons, turnOf_ok (by decide), turnOf_ok (by decide), val, turnOf]
  simp only
  split <;> split <;> (try split) <;> omega
theorem known_minus : Form (tns [⟨1, 1, 3⟩, ⟨1, 4, 9⟩]) (fun c k => ifAb (turnOf (tns [⟨1, 1, 9⟩]) c k) (turnOf (tns [⟨1, 3, 4⟩]) c k)) := by
  refine ⟨⟨by decide, by decide, show Tn.ok _ = true by decide⟩, fun c k => ?_⟩
  show val [⟨1, 1, 3, 1⟩, ⟨1, 4, 9, 1⟩] c k = ifAb (turnOf [⟨1, 1, 9, 1⟩] c k) (turnOf [⟨1, 3, 4, 1⟩] c k)
  rw [val_cons, val_cons, turnOf_ok (by decide), turnOf_ok (by decide), val, turnOf]
  simp only [ifAb]
  by_cases h : (1 : Int) = c
  · subst h
    simp only [true_and]
    by_cases p1 : (1 ≤ k ∧ k < 3) <;> by_cases p2 : (4 ≤ k ∧ k < 9) <;> by_cases p3 : (1 ≤ k ∧ k < 9) <;> by_cases p4 : (3 ≤ k ∧ k < 4) <;> simp only [p1, p2, p3, p4, and_self, if_true, if_false] <;> first | omega | decide
  · simp [h]
theorem Form.same {a b : List Rg} {F : Int → Int → Int} (ha : Form (tns a) F) (hb : Form (tns b) F) : a = b := tns_inj (ha.eq hb fun _ _ => rfl)
end Go.Proofs.Ytccgiabihagjoaa
