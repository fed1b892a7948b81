/- quirehelp.Ids of two slices of the same ids. -/
import Derived.Test.YtmknkecaeagmbaaGreatDoorRowD
import Derived.Test.YtmknkecaeagmbaaGreatDoorPart3
import Derived.Deep.LoopGhost
import Derived.Deep.DeepCutAuto
import Derived.BigQuiet
namespace Go.Proofs.YtmknkecaeagmbaaGreatDoor
open Go.RowKit Go.Maps
set_option linter.unusedVariables false
set_option linter.unusedSimpArgs false
set_option maxRecDepth 100000

set_option maxHeartbeats 4000000 in
theorem ids_same (l : List Ip) (v1 v2 : Value) (w : World) (h1 : SlD w v1 l) (h2 : SlD w v2 l) (hl : l.length ≤ 1073741824) : Calls Tryz.prog 24 #[v1, v2] w fun e w' => e = .returned (.bool true) ∧ Touch (fun _ => False) w w' := by
  obtain ⟨a1, c1, rfl, _⟩ := h1.shape
  obtain ⟨a2, c2, rfl, _⟩ := h2.shape
  have H1 : Hid (SlD w (.slice a1 l.length c1) l) := h1
  have H2 : Hid (SlD w (.slice a2 l.length c2) l) := h2
  clear h1 h2
  go_enter Tryz.func24, Tryz.ntmps24
  go_wp2_with fail
  go_loopg [5] l.length (fun gk s5 wx => ∃ i : Nat, i + gk = l.length ∧ s5 = .int .i64 (i : Int) ∧ Hid (Touch (fun _ => False) w wx))
  case atStart => exact ⟨0, by omega, rfl, Touch.refl _ _⟩
  case round =>
    obtain ⟨i, hig, rfl, HI⟩ := hrel
    obtain ⟨wx, hwx⟩ : ∃ wx, wx = wr := ⟨_, rfl⟩
    subst hwx
    by_cases hil : i < l.length
    · have i1 : (0 : Int) ≤ (i : Int) := by omega
      have i2 : (i : Int) < (l.length : Int) := by omega
      have hne : l ≠ [] := by rintro rfl; simp at hil
      obtain ⟨b3, o3, cp3, e3, _, _, hb3, hrow3⟩ := (H1.out.touch HI.out).row hne
      obtain ⟨b4, o4, cp4, e4, _, _, hb4, hrow4⟩ := (H2.out.touch HI.out).row hne
      obtain ⟨rfl, _, rfl⟩ : a1 = some ⟨b3, o3, none⟩ ∧ True ∧ c1 = cp3 := by simpa using e3
      obtain ⟨rfl, _, rfl⟩ : a2 = some ⟨b4, o4, none⟩ ∧ True ∧ c2 = cp4 := by simpa using e4
      obtain ⟨q0, q1⟩ := hrow3 i hil
      obtain ⟨r0, r1⟩ := hrow4 i hil
      clear hrow3 hrow4 e3 e4 hne H1 H2
      generalize l[i] = p at *
      obtain ⟨pc, pk⟩ := p
      simp only at q0 q1 r0 r1
      have n1 : (pc == pc) = true := by simp
      have n2 : (pk == pk) = true := by simp
      go_upto_region 6 with fail
      go_quiet (fail)
      have HT : Hid (Touch (fun _ => False) w (wx.drewN nq)) := HI.out.drewN nq
      go_wp2_with fail
      go_roundg (l.length - (i + 1))
      case measure => omega
      case rel => exact ⟨i + 1, by omega, by go_num, HT.out⟩
    · have i2 : ¬ (i : Int) < (l.length : Int) := by omega
      go_wp2_with fail
      go_ret
      exact ⟨rfl, HI.out⟩
end Go.Proofs.YtmknkecaeagmbaaGreatDoor
