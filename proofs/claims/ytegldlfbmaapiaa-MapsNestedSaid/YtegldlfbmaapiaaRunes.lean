/- The contracts of quireref3.Runes and Check. -/
import Derived.Test.YtegldlfbmaapiaaNext
import Derived.Maps.AppendAt
import Derived.Lib.Strings
namespace Go.Proofs.Ytegldlfbmaapiaa
open Go.RowKit
set_option linter.unusedVariables false

/-- A text's runes; none: it is no text. -/
def runesGo : Nat → List UInt8 → Option (List Nat)
  | 0, l => if l.isEmpty then some [] else none
  | f + 1, l => if l.isEmpty then some [] else if (nxt l).2 = 0 then none else (runesGo f (l.drop (nxt l).2)).map ((nxt l).1 :: ·)
def runesOf (l : List UInt8) : Option (List Nat) := runesGo l.length l

theorem nxt_le (l : List UInt8) : (nxt l).2 ≤ l.length ∨ l = [] := by
  by_cases h : l = []
  · exact .inr h
  left
  have hp : 0 < l.length := List.length_pos_iff.2 h
  have ht : ∀ n r low, 1 ≤ n → (nxtTail l n r low).2 ≤ l.length := by
    intro n r low hn
    unfold nxtTail
    split
    · simp
    · split
      · simp
      · unfold nxtEnd; split <;> simp <;> omega
  unfold nxt
  split
  · simp; omega
  · split
    · exact ht _ _ _ (by decide)
    · split
      · exact ht _ _ _ (by decide)
      · split
        · exact ht _ _ _ (by decide)
        · simp
theorem runesGo_any : ∀ (f g : Nat) (l : List UInt8), l.length ≤ f → l.length ≤ g → runesGo f l = runesGo g l := by
  intro f
  induction f with
  | zero =>
    intro g l h _
    have : l = [] := List.eq_nil_of_length_eq_zero (by omega)
    subst this
    cases g <;> rfl
  | succ f ih =>
    intro g l h hg
    cases l with
    | nil => cases g <;> rfl
    | cons b t =>
      cases g with
      | zero => simp at hg
      | succ g =>
        rw [runesGo, runesGo]
        simp only [List.isEmpty_cons, Bool.false_eq_true, if_false]
        by_cases hz : (nxt (b :: t)).2 = 0
        · rw [if_pos hz, if_pos hz]
        · rw [if_neg hz, if_neg hz, ih g _ (by simp at h ⊢; omega) (by simp at hg ⊢; omega)]
theorem runesOf_nil : runesOf [] = some [] := rfl
theorem runesOf_step {l : List UInt8} (h : l ≠ []) : runesOf l = if (nxt l).2 = 0 then none else (runesOf (l.drop (nxt l).2)).map ((nxt l).1 :: ·) := by
  cases l with
  | nil => exact absurd rfl h
  | cons b t =>
    unfold runesOf
    show runesGo (t.length + 1) (b :: t) = _
    rw [runesGo]
    simp only [List.isEmpty_cons, Bool.false_eq_true, if_false]
    by_cases hz : (nxt (b :: t)).2 = 0
    · rw [if_pos hz, if_pos hz]
    · rw [if_neg hz, if_neg hz, runesGo_any t.length _ _ (by simp; omega) (Nat.le_refl _)]

def runeCells (l : List Nat) : List Value := l.map fun (r : Nat) => Value.int .i32 (r : Int)
theorem Try.infoRune : (Try.prog.info? 21).map (fun i => (i.zero, i.size, i.bytes)) = some (some (.int .i32 0), 1, 4) := by kernel_rfl

/-- What Runes answers. -/
def RunesPost (l : List UInt8) (w : World) (e : Ending) (w' : World) : Prop :=
  Touch (fun _ => False) w w' ∧ ((∃ rs v, runesOf l = some rs ∧ e = .returned (.tuple #[v, .bool true]) ∧ w'.ownsRow w.heap.size 21 1 v rs.length (runeCells rs)) ∨
    (runesOf l = none ∧ e = .returned (.tuple #[.slice none 0 0, .bool false])))

theorem dropped (t : ByteArray) (n : Nat) : (t.extract n t.size).data.toList = t.data.toList.drop n := by
  rw [Lib.extract_data, List.take_of_length_le]
  rw [List.length_drop]
  simp

set_option maxRecDepth 100000 in
set_option maxHeartbeats 1000000 in
theorem ref_runes (s : ByteArray) (hs : s.size ≤ 17592186044416) (w : World) : Calls Try.prog 55 #[.string s] w (RunesPost s.data.toList w) := by
  obtain ⟨i0, hi, hz0, hz1, hz2⟩ := info_parts Try.infoRune
  have hsz : s.data.toList.length = s.size := by simp
  go_enter Try.func55, Try.ntmps55
  go_wp2_with fail
  go_loopw [0, 4] (fun a v wr => ∃ t : ByteArray, ∃ rs : List Nat, a = .string t ∧ t.size + rs.length ≤ s.size ∧ wr.ownsRow w.heap.size 21 1 v rs.length (runeCells rs) ∧ Touch (fun _ => False) w wr ∧ runesOf s.data.toList = (runesOf t.data.toList).map (rs ++ ·)) (fun a _ _ => match a with | .string t => t.size | _ => 0)
  case atStart => exact ⟨s, [], rfl, by simp, World.ownsRow_nil _ _ _ _, Touch.refl _ _, by cases runesOf s.data.toList <;> simp⟩
  case round =>
    obtain ⟨t, rs, rfl, hlen, hown, hT, he⟩ := hrel
    have HE : Hid (runesOf s.data.toList = (runesOf t.data.toList).map (rs ++ ·)) := he
    have HT : Hid (Touch (fun _ => False) w wr) := hT
    clear he hT
    have hts : t.data.toList.length = t.size := by simp
    by_cases h0 : 0 < t.size
    · have hne : t.data.toList ≠ [] := by intro e; rw [e] at hts; simp at hts; omega
      have hle := (nxt_le t.data.toList).resolve_right hne
      have HS : Hid (runesOf t.data.toList = if (nxt t.data.toList).2 = 0 then none else (runesOf (t.data.toList.drop (nxt t.data.toList).2)).map ((nxt t.data.toList).1 :: ·)) := runesOf_step hne
      have HN : Hid (∀ w, Calls Try.prog 76 #[.string t] w fun e w' => e = .returned (.tuple #[.int .i32 (nxt t.data.toList).1, .int .i64 (nxt t.data.toList).2]) ∧ w' = w) := fun w => ref_next t (by omega) h0 w
      rw [hts] at hle
      generalize nxt t.data.toList = X at *
      obtain ⟨r, n⟩ := X
      simp only at hle
      go_wp2_with fail
      refine (HN.out _).mono ?_
      rintro e w1 ⟨rfl, rfl⟩
      by_cases hn : n = 0
      · subst hn
        have HQ : Hid (RunesPost s.data.toList w (.returned (.tuple #[.slice none 0 0, .bool false])) w1) := ⟨HT.out, .inr ⟨by rw [HE.out, HS.out]; simp, rfl⟩⟩
        go_wp2_with fail
        go_ret2
        exact HQ.out
      · have hn0 : ((n : Int) == 0) = false := by rw [beq_eq_false_iff_ne]; omega
        have HO : Hid (w1.ownsRow w.heap.size 21 1 u4 rs.length (runeCells rs)) := hown
        go_wp2_with (first | (at_builtin; refine wpList_append_own _ rfl _ _ 110 rfl w.heap.size 21 i0 (.int .i32 0) 1 4 Try.underlying110 hi hz0 hz1 hz2 rfl (by decide) _ _ _ rfl (hown.alloc _) ⟨w1.heap.size, 0, none⟩ 1 1 [.int .i32 (r : Int)] rfl rfl ?c1 ?c2 ?c3 ?c4 ?c5 ?_))
        case c1 =>
          intro j u hj
          match j, hj with
          | 0, hj => simp at hj; subst hj; simp [Addr.add]
        case c2 => intro u hu; simp at hu; subst hu; rfl
        case c3 => unfold maxLen; omega
        case c4 => omega
        case c5 => have := HT.out.size; simp; omega
        intro v' w2 hown' hgrow _
        have hown2 : w2.ownsRow w.heap.size 21 1 v' (rs ++ [r]).length (runeCells (rs ++ [r])) := by
          rw [List.length_append, runeCells, List.map_append]; exact hown'
        have HO2 : Hid (w2.ownsRow w.heap.size 21 1 v' (rs ++ [r]).length (runeCells (rs ++ [r]))) := hown2
        have HT2 : Hid (Touch (fun _ => False) w w2) := (HT.out.alloc _).grown hgrow (fun i e hi => by have := (hown.lt i e).1; omega)
        have HE2 : Hid (runesOf s.data.toList = (runesOf (t.extract n t.size).data.toList).map ((rs ++ [r]) ++ ·)) := by
          rw [Hid, HE.out, HS.out, dropped]
          simp only [if_neg hn]
          cases runesOf (t.data.toList.drop n) <;> simp
        obtain ⟨ao, n', cap', rfl⟩ : ∃ ao n cap, v' = .slice ao n cap := by
          rcases hown'.2 with ⟨e, _⟩ | ⟨g, cap, cur, e, _⟩
          · exact ⟨_, _, _, e⟩
          · exact ⟨_, _, _, e⟩
        have hrl : (rs ++ [r]).length = rs.length + 1 := by simp
        clear hown' hgrow hown hown2 HO HE HS HN hi hz0 hz1 hz2
        go_wp2_with fail
        go_roundw
        case rel => exact ⟨t.extract n t.size, rs ++ [r], rfl, by rw [hrl]; simp; omega, HO2.out, HT2.out, HE2.out⟩
        case measure => simp; omega
    · have ht0 : t.data.toList = [] := List.eq_nil_of_length_eq_zero (by omega)
      have HQ : Hid (runesOf s.data.toList = some rs) := by rw [Hid, HE.out, ht0, runesOf_nil]; simp
      have HP : Hid (RunesPost s.data.toList w (.returned (.tuple #[u4, .bool true])) wr) := ⟨HT.out, .inl ⟨rs, u4, HQ.out, rfl, hown⟩⟩
      obtain ⟨ao, n', cap', rfl⟩ : ∃ ao n cap, u4 = .slice ao n cap := by
        rcases hown.2 with ⟨e, _⟩ | ⟨g, cap, cur, e, _⟩
        · exact ⟨_, _, _, e⟩
        · exact ⟨_, _, _, e⟩
      clear hown ht0 HE
      go_wp2_with fail
      go_ret2
      exact HP.out

set_option maxHeartbeats 400000 in
theorem ref_check3 (s : ByteArray) (hs : s.size ≤ 17592186044416) (w : World) : Calls Try.prog 32 #[.string s] w fun e w' => e = .returned (.bool (runesOf s.data.toList).isSome) ∧ Touch (fun _ => False) w w' := by
  have HR : Hid (Calls Try.prog 55 #[.string s] w (RunesPost s.data.toList w)) := ref_runes s hs w
  go_enter Try.func32, Try.ntmps32
  go_wp2_with fail
  refine HR.out.mono ?_
  rintro e w1 ⟨hT, ⟨rs, v, h1, rfl, hown⟩ | ⟨h1, rfl⟩⟩
  · have HF : Hid ((runesOf s.data.toList).isSome = true) := by rw [Hid, h1]; rfl
    have HT : Hid (Touch (fun _ => False) w w1) := hT
    obtain ⟨ao, n', cap', rfl⟩ : ∃ ao n cap, v = .slice ao n cap := by
      rcases hown.2 with ⟨e, _⟩ | ⟨g, cap, cur, e, _⟩
      · exact ⟨_, _, _, e⟩
      · exact ⟨_, _, _, e⟩
    clear h1 hT hown HR
    go_wp2_with fail
    go_ret
    exact ⟨by rw [HF.out]; rfl, HT.out⟩
  · have HF : Hid ((runesOf s.data.toList).isSome = false) := by rw [Hid, h1]; rfl
    have HT : Hid (Touch (fun _ => False) w w1) := hT
    clear h1 hT HR
    go_wp2_with fail
    go_ret
    exact ⟨by rw [HF.out]; rfl, HT.out⟩
end Go.Proofs.Ytegldlfbmaapiaa
