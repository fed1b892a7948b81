/- A copy of files by names, made in any order. It speaks of no program's step. -/
import Derived.Test.YtfmpbkdmcgkeoaaCore
import Derived.Maps.Ext
namespace Go.Proofs.Ytfmpbkdmcgkeoaa
open Go.RowKit Go.Maps
set_option linter.unusedVariables false

theorem aget_before {α : Type} {k : Key} {y : Key × α} {s : List (Key × α)} (h : Rising (y :: s)) (hb : bytesBefore k y.1 = true) : aget k (y :: s) = none := aget_none.2 fun p hp => by
  rcases List.mem_cons.1 hp with rfl | hp
  · exact (before_ne hb).symm
  · exact (before_ne (before_trans _ _ _ hb ((List.pairwise_cons.1 h).1 p hp))).symm
theorem rising_ext {α : Type} : ∀ {a b : List (Key × α)}, Rising a → Rising b → (∀ k, aget k a = aget k b) → a = b
  | [], [], _, _, _ => rfl
  | [], y :: s, _, _, e => by have := e y.1; simp [aget] at this
  | x :: r, [], _, _, e => by have := e x.1; simp [aget] at this
  | x :: r, y :: s, ha, hb, e => by
    have hk : x.1 = y.1 := by
      by_cases h1 : bytesBefore x.1 y.1 = true
      · have := e x.1; rw [aget_before hb h1] at this; simp [aget] at this
      · by_cases h2 : x.1 = y.1
        · exact h2
        · have h3 := before_total _ _ h2 (by simpa using h1)
          have := e y.1; rw [aget_before ha h3] at this; simp [aget] at this
    have hxy : x = y := Prod.ext hk (by simpa [aget, hk] using e x.1)
    subst hxy
    have ha' := List.pairwise_cons.1 ha
    have hb' := List.pairwise_cons.1 hb
    rw [rising_ext ha'.2 hb'.2 fun k => ?_]
    by_cases h : x.1 = k
    · subst h
      rw [aget_none.2 fun p hp => (before_ne (ha'.1 p hp)).symm, aget_none.2 fun p hp => (before_ne (hb'.1 p hp)).symm]
    · have := e k; simpa [aget, h] using this

/-- es' holds the files of es that are no longer to come. -/
def CopyRel (es es' : List (Key × Fl)) (left : Lit → Bool) : Prop := ∀ k, (aget k es').map Fl.abs = if left (.string k) = true then none else (aget k es).map Fl.abs
theorem copy_start (es : List (Key × Fl)) : CopyRel es [] (Maps.has (toD es)) := by
  intro k
  rw [toD_has]
  cases aget k es <;> simp [aget]
theorem copy_step {es es' : List (Key × Fl)} {left : Lit → Bool} {k : Key} {f : Fl} (h : CopyRel es es' left) (hf : (aget k es).map Fl.abs = some f.abs) : CopyRel es (aput k f es') (fun z => left z && !z.sameKey (.string k)) := by
  intro k2
  by_cases e : k = k2
  · subst e
    rw [aget_aput_same, hf]; simp [Lit.sameKey]
  · rw [aget_aput_other e, h k2]
    have e2 : (k2 == k) = false := by simpa using fun x => e x.symm
    simp [Lit.sameKey, e2]
theorem copy_end {es es' : List (Key × Fl)} {left : Lit → Bool} (h : CopyRel es es' left) (hl : ∀ k, left k = false) (h1 : Rising es) (h2 : Rising es') : amap Fl.abs es' = amap Fl.abs es :=
  rising_ext (h2.amap _) (h1.amap _) fun k => by rw [aget_amap, aget_amap, h k, hl]; simp
theorem touch_grown {w w' : World} (t : Touch (fun _ => False) w w') : w.grownBy w' none := ⟨t.os, t.tape, t.output, t.size, fun k hk _ => t.block k hk id⟩
end Go.Proofs.Ytfmpbkdmcgkeoaa
