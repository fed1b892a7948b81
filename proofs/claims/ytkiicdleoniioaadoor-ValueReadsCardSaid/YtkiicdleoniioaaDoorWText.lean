/- The contract of wire's Writer.Text. -/
import Derived.Test.YtkiicdleoniioaaDoorWUint
import Derived.Test.YtkiicdleoniioaaDoorAppStr
namespace Go.Proofs.YtkiicdleoniioaaDoor
open Go.RowKit
set_option linter.unusedVariables false

set_option maxRecDepth 100000 in
set_option maxHeartbeats 400000 in
theorem wtext_any (p : Nat) (bs : List UInt8) (s : ByteArray) (w : World) (h : Wr w p bs) (hl : bs.length + 10 + s.size ≤ 140737488355328) :
    Calls Tryd.prog 37 #[.pointer (some ⟨p, 0, none⟩), .string s] w fun e w' => e = .returned (.tuple #[]) ∧ WrPost p (bs ++ putT s) w w' := by
  obtain ⟨i0, hi, hz0, hz1, hz2⟩ := info_parts Tryd.infoByte
  go_enter Tryd.func37, Tryd.ntmps37
  go_wp2_with fail
  refine (wuint_any p bs s.size (by omega) w h (by omega) _ ?_).mono ?_
  · rfl
  rintro e w1 ⟨rfl, hW⟩
  have hpl := putGo_length 9 s.size
  obtain ⟨v, hp, hown⟩ := id hW.is
  have c0 : w1.cell? ⟨p, 0, none⟩ = some v := by rw [cell_of_block hp]; rfl
  have hcs : (bs ++ putU s.size).length ≤ bs.length + 10 := by rw [List.length_append]; unfold putU; omega
  have HW : Hid (WrPost p (bs ++ putU s.size) w w1) := hW
  generalize hc : bs ++ putU s.size = cs at *
  have HC : Hid (bs ++ putU s.size = cs) := hc
  clear hW hc h hpl
  go_wp2_with (first | (at_builtin; refine wpList_append_own_string_at _ rfl _ _ 22 9 rfl 0 5 i0 Tryd.underlying22 Tryd.underlying9 hi hz0 hz1 hz2 _ _ _ rfl hown s rfl ?c3 ?c4 ?c5 ?_))
  case c3 => unfold maxLen; omega
  case c4 => omega
  case c5 => exact Nat.zero_le _
  intro v' w2 hown' hgrow hat
  have HQ : Hid (WrPost p (bs ++ putT s) w (w2.setCell ⟨p, 0, none⟩ v')) := by
    have e1 : cellsOf (cs ++ s.data.toList) = cellsOf cs ++ Lib.strCells s := by rw [cellsOf_append]; rfl
    have e2 : (cs ++ s.data.toList).length = cs.length + s.size := by rw [List.length_append]; rfl
    rw [← e1, ← e2] at hown'
    have := WrPost.appended hp hown (Touch.refl _ w1) hown' hgrow (by
      intro k hk hlt
      rcases hat with e | e
      · rw [← e]; exact hk
      · have := e k hk; omega)
    have := HW.out.trans this
    rw [← HC.out, List.append_assoc] at this
    exact this
  have hpv : some p ≠ v.ownBlock := fun e => row_ne hp hown e.symm rfl
  have h2 : w2.heap[p]? = some (.cells #[v] 38 (0, 0)) := (hgrow.block p (lt_of_heap hp) hpv).trans hp
  have c1 : w2.cell? ⟨p, 0, none⟩ = some v := by rw [cell_of_block h2]; rfl
  have z1 : w2.frozen? ⟨p, 0, none⟩ = false := free_of_block h2
  obtain ⟨ao, n', cap', rfl⟩ : ∃ ao n cap, v' = .slice ao n cap := by
    rcases hown'.2 with ⟨e, _⟩ | ⟨g, cap, cur, e, _⟩
    · exact ⟨_, _, _, e⟩
    · exact ⟨_, _, _, e⟩
  clear hown' hgrow hat hown hpv h2 hp
  go_wp2_with fail
  go_end0
  exact ⟨rfl, HQ.out⟩
end Go.Proofs.YtkiicdleoniioaaDoor
