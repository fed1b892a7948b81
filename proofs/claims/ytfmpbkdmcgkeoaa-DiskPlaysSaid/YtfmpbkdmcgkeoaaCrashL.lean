/- What a crash leaves, file by file; numbers that lie in a block. -/
import Derived.Test.YtfmpbkdmcgkeoaaPart6
import Derived.Test.YtfmpbkdmcgkeoaaBClone
namespace Go.Proofs.Ytfmpbkdmcgkeoaa
open Go.RowKit Go.Maps
set_option linter.unusedVariables false

theorem crashAll_snoc (keep : List Int) (p : Key × File) : ∀ (i : Nat) (A : List (Key × File)), crashAll keep i (A ++ [p]) = crashAll keep i A ++ [(p.1, crashA keep (i + A.length) p.2)]
  | i, [] => rfl
  | i, q :: r => by
    simp only [List.cons_append, crashAll, List.length_cons]
    rw [crashAll_snoc keep p (i + 1) r, show i + 1 + r.length = i + (r.length + 1) from by omega]
theorem crashAll_keys (keep : List Int) : ∀ (i : Nat) (A : List (Key × File)), (crashAll keep i A).map (·.1) = A.map (·.1)
  | i, [] => rfl
  | i, q :: r => by simp [crashAll, crashAll_keys keep (i + 1) r]
theorem crashAll_length (keep : List Int) (i : Nat) (A : List (Key × File)) : (crashAll keep i A).length = A.length := by
  have := congrArg List.length (crashAll_keys keep i A)
  simpa using this
theorem ains_mid {α : Type} (k : Key) (x : α) : ∀ (A B : List (Key × α)), (∀ p ∈ A, bytesBefore p.1 k = true) → (∀ p ∈ B, bytesBefore k p.1 = true) → ains k x (A ++ B) = A ++ (k, x) :: B
  | [], [], _, _ => rfl
  | [], q :: r, _, h => by simp [ains, h q (by simp)]
  | q :: r, B, h, hB => by
    have h1 := h q (by simp)
    have h2 : bytesBefore k q.1 = false := by
      cases e : bytesBefore k q.1
      · rfl
      · have := before_trans _ _ _ h1 e; rw [before_irrefl] at this; cases this
    simp only [List.cons_append, ains, h2]
    rw [ains_mid k x r B (fun p hp => h p (by simp [hp])) hB]; rfl
theorem aput_mid {α : Type} (k : Key) (x y : α) (A B : List (Key × α)) (h : Rising (A ++ (k, y) :: B)) : aput k x (A ++ (k, y) :: B) = A ++ (k, x) :: B := by
  have h' := List.pairwise_append.1 h
  have hA : ∀ p ∈ A, bytesBefore p.1 k = true := fun p hp => h'.2.2 p hp (k, y) (by simp)
  have hB : ∀ p ∈ B, bytesBefore k p.1 = true := (List.pairwise_cons.1 h'.2.1).1
  have e : adel k (A ++ (k, y) :: B) = A ++ B := by
    unfold adel
    rw [List.filter_append, List.filter_cons]
    simp only [BEq.rfl, Bool.not_true, Bool.false_eq_true, if_false]
    rw [List.filter_eq_self.2 fun p hp => by simpa using before_ne (hA p hp), List.filter_eq_self.2 fun p hp => by simpa using (before_ne (hB p hp)).symm]
  rw [aput, e, ains_mid k x A B hA hB]
theorem aget_mid {α : Type} (k : Key) (y : α) (A B : List (Key × α)) (h : Rising (A ++ (k, y) :: B)) : aget k (A ++ (k, y) :: B) = some y := aget_of_mem h (by simp)

/-- Numbers that lie in block g, where a slice of that address begins. -/
def LiesI (w : World) (g : Nat) (ao : Option Addr) (ks : List Int) : Prop :=
  ks = [] ∨ ∃ off, ao = some ⟨g, off, none⟩ ∧ ∀ j (h : j < ks.length), w.cell? ⟨g, off + j, none⟩ = some (.int .i64 ks[j])
theorem LiesI.keep {w w' : World} {g : Nat} {ks : List Int} {ao : Option Addr} (h : LiesI w g ao ks) (hg : ks ≠ [] → w'.heap[g]? = w.heap[g]?) : LiesI w' g ao ks := by
  by_cases e : ks = []
  · exact .inl e
  · rcases h with h | ⟨off, ha, h⟩
    · exact absurd h e
    · exact .inr ⟨off, ha, fun j hj => (World.cell?_of_block (a := ⟨g, off + j, none⟩) (hg e)).trans (h j hj)⟩
theorem LiesI.lt {w : World} {g : Nat} {ks : List Int} {ao : Option Addr} (h : LiesI w g ao ks) (e : ks ≠ []) : g < w.heap.size := by
  rcases h with h | ⟨off, ha, h⟩
  · exact absurd h e
  · exact World.block_lt_of_cell? _ _ (h 0 (List.length_pos_iff.2 e))

theorem rising_abs {es : List (Key × Fl)} {fs : List (Key × File)} (h : Rising es) (e : fs = amap Fl.abs es) : Rising fs := by rw [e]; exact h.amap _

/-- A step of a crash: a file laid anew, cut to its first c bytes, all of them synced. -/
theorem crash_step {w w3 : World} {d m n' : Nat} {es : List (Key × Fl)} {F : Nat → Prop} {s s' : St} {k : Key} {ao : Option Addr} {cap c : Nat} (hC : Core w d m es.length es s.room s.power) (hR : RowsOk w es) (hfs : s.fs = amap Fl.abs es) (hF : ∀ k, foot d m es k → F k)
    (hv : (getF k es).v = .slice ao (getF k es).bs.length cap) (hc : c ≤ (getF k es).bs.length) (hC3 : Core w3 d m n' (aput k ⟨.slice ao c cap, (getF k es).bs.take c, c⟩ es) s.room s.power) (t : Touch (fun i => i = d ∨ i = m) w w3) (hs : s' = ⟨aput k ((s.at k).1.take c, c) s.fs, s.room, s.power⟩) : DPost d F s' w w3 := by
  subst hs
  have hob : ∀ i, (Value.slice ao c cap).ownBlock = some i → (getF k es).v.ownBlock = some i := by
    intro i hi; rw [hv]
    cases ao with
    | none => simp [Value.ownBlock] at hi
    | some a => simpa [Value.ownBlock] using hi
  refine laid_same hC hR hF hC3 (t.mono ?_) ?_ (fun i _ hi => hob i hi) ?_
  · rintro i _ (h | h)
    · exact .inl h
    · exact .inr (.inl h)
  · have hr := hR.get k
    rw [hv] at hr
    exact row_touch (row_take hr c hc) t fun i hi hx => by
      obtain ⟨n1, n2⟩ := hC.row_ne (hR.get _) (hob i hi)
      exact hx.elim n1 n2
  · show aput k ((s.at k).1.take c, c) s.fs = _
    rw [at_of hfs, hfs]; rfl
end Go.Proofs.Ytfmpbkdmcgkeoaa
