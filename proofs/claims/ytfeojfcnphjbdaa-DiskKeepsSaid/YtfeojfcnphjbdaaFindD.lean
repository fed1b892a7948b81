/- The contracts of disk's find, lay, drop, first. -/
import Derived.Test.YtfeojfcnphjbdaaDSmall
import Derived.BigRegion
namespace Go.Proofs.Ytfeojfcnphjbdaa
open Go.RowKit Go.Maps
set_option linter.unusedVariables false

section
variable {w : World} {d m n : Nat} {es : List (Key × Fl)} {room power : Int}

theorem keyStr (s : ByteArray) (hs : s.size ≤ maxLen) : keyOf Try.prog 9 (.string s) = some (.string s.data.toList) := WideMaps.keyOf_string_mk Try.underlying9 hs

theorem Core.look (h : Core w d m n es room power) (s : ByteArray) (hs : s.size ≤ maxLen) :
    (Instr.lookup 65 (.map (some m)) (.string s) false).run Try.prog w = .ok (getF s.data.toList es).val w := by
  obtain ⟨v, ps, hrun, hv⟩ := h.owns.lookup lawK Try.underlying65 (zeroFile w) (R := heldR) rfl (keyStr s hs)
  rw [toD_at] at hv
  simp only [heldR, Option.some.injEq, Prod.mk.injEq, DataW.held.injEq] at hv
  rw [hrun, hv.1]
theorem Core.look2 (h : Core w d m n es room power) (s : ByteArray) (hs : s.size ≤ maxLen) :
    (Instr.lookup 65 (.map (some m)) (.string s) true).run Try.prog w = .ok (.tuple #[(getF s.data.toList es).val, .bool (aget s.data.toList es).isSome]) w := by
  obtain ⟨v, ps, hrun, hv⟩ := h.owns.look_ok lawK Try.underlying65 (zeroFile w) (R := heldR) rfl (keyStr s hs)
  rw [toD_at] at hv
  rw [toD_has] at hrun
  simp only [heldR, Option.some.injEq, Prod.mk.injEq, DataW.held.injEq] at hv
  rw [hrun, hv.1]

/-- What find answers. -/
def foundF (power : Int) (k : Key) (es : List (Key × Fl)) : Fl := if power = 0 then zeroF else getF k es
def foundE (power : Int) (k : Key) (es : List (Key × Fl)) : Int := if power = 0 then 43 else if (aget k es).isSome then 0 else 40

set_option maxRecDepth 100000 in
set_option maxHeartbeats 400000 in
theorem find_any (h : Core w d m n es room power) (s : ByteArray) (hs : s.size ≤ maxLen) :
    Calls Try.prog 51 #[.pointer (some ⟨d, 0, none⟩), .string s] w fun e w' => e = .returned (.tuple #[(foundF power s.data.toList es).val, .int .i64 (foundE power s.data.toList es)]) ∧ Touch (fun _ => False) w w' := by
  have HD : Hid (Calls Try.prog 41 #[.pointer (some ⟨d, 0, none⟩)] (w.alloc (.cells #[.slice none 0 0, .int .i64 0] 73)) fun e w' => e = .returned (.bool (decide (power = 0))) ∧ w' = (w.alloc (.cells #[.slice none 0 0, .int .i64 0] 73))) := dead_any (h.alloc _)
  unfold foundF foundE
  by_cases e : power = 0
  · simp only [if_pos e, zeroF, Fl.val]
    rw [decide_eq_true e] at HD
    clear h e
    go_enter Try.func51, Try.ntmps51
    go_wp2_with fail
    refine HD.out.mono ?_
    rintro e1 w1 ⟨rfl, hw⟩
    rw [hw]; clear hw
    go_wp2_with fail
    exact bodyPost_ret (v := .tuple #[.agg #[.slice none 0 0, .int .i64 0], .int .i64 43]) (by simp [results, Try.results51, go_sem]) rfl ⟨rfl, ((Touch.refl _ w).alloc _)⟩
  · simp only [if_neg e]
    rw [decide_eq_false e] at HD
    have L := (h.alloc (.cells #[.slice none 0 0, .int .i64 0] 73)).look2 s hs
    have C0 := (h.alloc (.cells #[.slice none 0 0, .int .i64 0] 73)).c0
    cases hb : aget s.data.toList es with
    | some f =>
      have hg : getF s.data.toList es = f := by simp [getF, hb]
      obtain ⟨⟨ao, cap, hv⟩, _⟩ := h.get s.data.toList
      rw [hg] at L hv ⊢
      rw [hb] at L
      obtain ⟨v, bs, syn⟩ := f
      simp only at hv
      subst hv
      simp only [Fl.val, Option.isSome_some, if_true] at L ⊢
      clear h e hb hg
      go_enter Try.func51, Try.ntmps51
      go_wp2_with fail
      refine HD.out.mono ?_
      rintro e1 w1 ⟨rfl, hw⟩
      rw [hw]; clear hw
      go_wp2_with fail
      exact bodyPost_ret (v := .tuple #[.agg #[.slice ao bs.length cap, .int .i64 (syn : Int)], .int .i64 0]) (by simp [results, Try.results51, go_sem]) rfl ⟨rfl, ((Touch.refl _ w).alloc _).alloc _⟩
    | none =>
      have hg : getF s.data.toList es = zeroF := by simp [getF, hb]
      rw [hg] at L ⊢
      rw [hb] at L
      simp only [Fl.val, zeroF, Option.isSome_none, Int.natCast_zero] at L ⊢
      clear h e hb hg
      go_enter Try.func51, Try.ntmps51
      go_wp2_with fail
      refine HD.out.mono ?_
      rintro e1 w1 ⟨rfl, hw⟩
      rw [hw]; clear hw
      go_wp2_with fail
      exact bodyPost_ret (v := .tuple #[.agg #[.slice none 0 0, .int .i64 0], .int .i64 40]) (by simp [results, Try.results51, go_sem]) rfl ⟨rfl, ((Touch.refl _ w).alloc _).alloc _⟩
end
end Go.Proofs.Ytfeojfcnphjbdaa
