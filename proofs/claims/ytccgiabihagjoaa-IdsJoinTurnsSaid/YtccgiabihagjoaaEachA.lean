/- The ids of a set one after another: ids.All's iterator. -/
import Derived.Test.YtccgiabihagjoaaIdAlg
namespace Go.Proofs.Ytccgiabihagjoaa
open Go.RowKit Go.Shelf
set_option linter.unusedVariables false
set_option linter.unusedSimpArgs false
set_option maxRecDepth 100000
attribute [local go_sem] Oper.semAt_some

/-- The clocks of a range up to n. -/
def upTo (r : Rg) (n : Int) : List (Int × Int) := (List.range (n - r.f).toNat).map fun (i : Nat) => (r.c, r.f + (i : Int))
def idsOf (l : List Rg) : List (Int × Int) := l.flatMap fun r => upTo r r.t
theorem upTo_start (r : Rg) : upTo r r.f = [] := by unfold upTo; simp
theorem upTo_step (r : Rg) {n : Int} (h : r.f ≤ n) : upTo r (n + 1) = upTo r n ++ [(r.c, n)] := by
  unfold upTo
  rw [show (n + 1 - r.f).toNat = (n - r.f).toNat + 1 from by omega, List.range_succ, List.map_append]
  congr 1
  simp only [List.map_cons, List.map_nil, List.cons.injEq, Prod.mk.injEq, true_and, and_true]
  omega
theorem upTo_len (r : Rg) {n : Int} (h : r.f ≤ n) : ((upTo r n).length : Int) = n - r.f := by unfold upTo; simp; omega
theorem idsOf_step (l : List Rg) {j : Nat} (h : j < l.length) : idsOf (l.take (j + 1)) = idsOf (l.take j) ++ upTo l[j] l[j].t := by
  unfold idsOf
  rw [List.take_succ_eq_append_getElem h, List.flatMap_append]; simp
theorem upTo_prefix (r : Rg) {n m : Int} (h0 : r.f ≤ n) (h : n ≤ m) : upTo r n <+: upTo r m := by
  obtain ⟨d, rfl⟩ : ∃ d : Nat, m = n + d := ⟨(m - n).toNat, by omega⟩
  induction d with
  | zero => simp
  | succ d ih =>
    have e := upTo_step r (n := n + d) (by omega)
    rw [show n + ((d + 1 : Nat) : Int) = n + (d : Int) + 1 from by omega, e]
    exact (ih (by omega)).trans (List.prefix_append _ _)
theorem idsOf_prefix (l : List Rg) (j : Nat) : idsOf (l.take j) <+: idsOf l := by
  have e : idsOf l = idsOf (l.take j) ++ idsOf (l.drop j) := by
    unfold idsOf; rw [← List.flatMap_append, List.take_append_drop]
  rw [e]; exact List.prefix_append _ _
theorem idsOf_pre (l : List Rg) {j : Nat} (h : j < l.length) {n : Int} (h0 : l[j].f ≤ n) (h1 : n ≤ l[j].t) : idsOf (l.take j) ++ upTo l[j] n <+: idsOf l := by
  have h2 := idsOf_prefix l (j + 1)
  rw [idsOf_step l h] at h2
  exact ((List.prefix_append_right_inj _).2 (upTo_prefix _ h0 h1)).trans h2
theorem idsOf_len (l : List Rg) (h : ∀ r ∈ l, r.ok = true) : ((idsOf l).length : Int) = cntR l := by
  induction l with
  | nil => rfl
  | cons r l ih =>
    have hr := Rg.ok_iff.1 (h r List.mem_cons_self)
    have e : idsOf (r :: l) = upTo r r.t ++ idsOf l := by unfold idsOf; rw [List.flatMap_cons]
    have := ih fun x hx => h x (List.mem_cons_of_mem _ hx)
    have := upTo_len r (n := r.t) (by omega)
    rw [e, List.length_append, cntR]; omega
/-- W' has what W had, but for the blocks of S, and what is no cells. -/
structure KeepC (S : Nat → Prop) (W W' : World) : Prop where
  size : W.heap.size ≤ W'.heap.size
  cells : ∀ k c t fr, W.heap[k]? = some (.cells c t fr) → ¬ S k → W'.heap[k]? = some (.cells c t fr)
theorem KeepC.trans {S : Nat → Prop} {A B C : World} (h : KeepC S A B) (k : KeepC S B C) : KeepC S A C :=
  ⟨Nat.le_trans h.size k.size, fun i c t fr e n => k.cells i c t fr (h.cells i c t fr e n) n⟩
theorem KeepC.put {S : Nat → Prop} (W : World) (l : Nat) (o o' : Obj) (h : W.heap[l]? = some o) (hc : o.isCells = false) : KeepC S W (W.putObj l o') :=
  ⟨by simp, fun k c t fr e n => by
    by_cases hk : k = l
    · subst hk; rw [h] at e; cases e; cases hc
    · rw [World.putObj_heap_other (fun q => hk q)]; exact e⟩
theorem KeepC.of {S : Nat → Prop} {W W' : World} (h : Touch S W W') : KeepC S W W' := ⟨h.size, fun k c t fr e n => (h.block k (lt_of_heap e) n).trans e⟩
theorem KeepC.slR {S : Nat → Prop} {W W' : World} (h : KeepC S W W') {v : Value} {l : List Rg} (hs : SlR W v l) (hn : ∀ b o m cp, v = .slice (some ⟨b, o, none⟩) m cp → ¬ S b) : SlR W' v l := by
  obtain ⟨ao, cap, e, h1, h2, h3, h4⟩ := hs
  refine ⟨ao, cap, e, h1, h2, h3, ?_⟩
  rcases h4 with h4 | ⟨b, o, rfl, hc⟩
  · exact .inl h4
  · refine .inr ⟨b, o, rfl, fun j u hu => ?_⟩
    have := hc j u hu
    cases hb : W.heap[b]? with
    | none => simp [World.cell?, hb] at this
    | some ob =>
      cases ob with
      | cells c t fr => rw [World.cell?_of_block (show W'.heap[b]? = W.heap[b]? from by rw [hb]; exact h.cells b c t fr hb (hn b o _ _ e))]; exact this
      | _ => simp [World.cell?, hb] at this
abbrev encI (p : Int × Int) : Array Value := #[idV p.1 p.2]

end Go.Proofs.Ytccgiabihagjoaa
