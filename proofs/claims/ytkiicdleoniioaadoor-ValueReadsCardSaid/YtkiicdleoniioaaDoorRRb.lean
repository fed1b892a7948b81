/- The contracts of quireref1.Reader: take, Byte, Int, Fixed, Text, Fail. -/
import Derived.Test.YtkiicdleoniioaaDoorRRu
import Derived.Test.YtkiicdleoniioaaDoorPart9
import Derived.Test.YtkiicdleoniioaaDoorInt
import Derived.Test.YtkiicdleoniioaaDoorFixed
import Derived.Test.YtkiicdleoniioaaDoorText
namespace Go.Proofs.YtkiicdleoniioaaDoor
open Go.RowKit
set_option linter.unusedVariables false
set_option linter.unusedSimpArgs false
set_option maxRecDepth 100000

/-- What a read of the document's Reader leaves: the same outcomes as wire's. -/
def ROut (s g : Nat) (o : Int × Value × List UInt8) (w : World) (e : Ending) (w' : World) : Prop :=
  e = .returned o.2.1 ∧ RR w' s g o.2.2 o.1 ∧ Touch (· = s) w w'

set_option maxHeartbeats 400000 in
theorem refTake_er (s g n : Nat) (bs : List UInt8) (er : Int) (w : World) (h : RR w s g bs er) (he : er ≠ 0) (m : Int) :
    Calls Tryd.prog 55 #[.pointer (some ⟨s, 0, none⟩), .int .i64 m] w fun e w' => e = .returned (.slice none 0 0) ∧ w' = w := by
  obtain ⟨ao, cap, hp, hl, hc, hL⟩ := h
  have c0 : w.cell? ⟨s, 0, none⟩ = some (.slice ao bs.length cap) := by rw [cell_of_block hp]; rfl
  have c1 : w.cell? ⟨s, 1, none⟩ = some (.int .i64 er) := by rw [cell_of_block hp]; rfl
  have h1 : (er == 0) = false := by simpa using he
  clear hp hL
  go_enter Tryd.func55, Tryd.ntmps55
  go_wp2_with fail
  go_ret
  exact ⟨rfl, rfl⟩

set_option maxHeartbeats 400000 in
theorem refTake_short (s g n : Nat) (bs : List UInt8) (w : World) (h : RR w s g bs 0) (hn : bs.length < n) (m : Int) (hm : m = n) :
    Calls Tryd.prog 55 #[.pointer (some ⟨s, 0, none⟩), .int .i64 m] w fun e w' => e = .returned (.slice none 0 0) ∧ w' = w.setCell ⟨s, 1, none⟩ (.int .i64 10) := by
  subst hm
  obtain ⟨ao, cap, hp, hl, hc, hL⟩ := h
  have c0 : w.cell? ⟨s, 0, none⟩ = some (.slice ao bs.length cap) := by rw [cell_of_block hp]; rfl
  have c1 : w.cell? ⟨s, 1, none⟩ = some (.int .i64 0) := by rw [cell_of_block hp]; rfl
  have f1 : w.frozen? ⟨s, 1, none⟩ = false := free_of_block hp
  have h1 : (bs.length : Int) < (n : Int) := by omega
  clear hp hL
  go_enter Tryd.func55, Tryd.ntmps55
  go_wp2_with fail
  go_ret
  exact ⟨rfl, rfl⟩

/-- What take leaves. -/
def RTakePost (s g n : Nat) (bs : List UInt8) (w : World) (e : Ending) (w' : World) : Prop :=
  ∃ ao cap, e = .returned (.slice ao n cap) ∧ Lies w' g ao (bs.take n) ∧ RR w' s g (bs.drop n) 0 ∧ Touch (· = s) w w'
theorem RR.left {w : World} {s g : Nat} {bs cs : List UInt8} {er : Int} {ao bo : Option Addr} {cap c2 : Nat} (hr : RR w s g bs er) (hp : w.heap[s]? = some (.cells #[.slice ao bs.length cap, .int .i64 er] 28 (0, 0)))
    (hL : Lies w g bo cs) (hcs : cs ≠ [] → bs ≠ []) (h1 : cs.length ≤ c2) (h2 : c2 ≤ 9223372036854775807) : RR (w.setCell ⟨s, 0, none⟩ (.slice bo cs.length c2)) s g cs er := by
  refine ⟨bo, c2, ?_, h1, h2, hL.keep fun e => heap_setCell_other _ _ _ _ (hr.ne (hcs e))⟩
  rw [heap_setCell_same _ _ _ _ hp]; rfl
theorem rtakePost {s g n : Nat} {bs : List UInt8} {w : World} {ao bo : Option Addr} {cap c2 : Nat} (hr : RR w s g bs 0) (hp : w.heap[s]? = some (.cells #[.slice ao bs.length cap, .int .i64 0] 28 (0, 0)))
    (hL : Lies w g ao bs) (hb : Lies w g bo (bs.drop n)) (h1 : bs.length - n ≤ c2) (h2 : c2 ≤ 9223372036854775807) (c : Nat) :
    RTakePost s g n bs w (.returned (.slice ao n c)) (w.setCell ⟨s, 0, none⟩ (.slice bo (bs.length - n) c2)) := by
  have e : bs.length - n = (bs.drop n).length := by simp
  rw [e] at h1 ⊢
  exact ⟨ao, c, rfl, (hL.take n).keep fun e => heap_setCell_other _ _ _ _ (fun hh => hr.ne (fun e' => e (by simp [e'])) hh), RR.left hr hp hb (fun e e' => e (by simp [e'])) h1 h2, (Touch.refl _ _).setCell _ _ fun _ => rfl⟩

set_option maxHeartbeats 800000 in
theorem refTake_ok (s g n : Nat) (bs : List UInt8) (w : World) (h : RR w s g bs 0) (hn : n ≤ bs.length) (m : Int) (hm : m = n) :
    Calls Tryd.prog 55 #[.pointer (some ⟨s, 0, none⟩), .int .i64 m] w (RTakePost s g n bs w) := by
  subst hm
  have HR : Hid (RR w s g bs 0) := h
  obtain ⟨ao, cap, hp, hl, hc, hL⟩ := h
  have c0 : w.cell? ⟨s, 0, none⟩ = some (.slice ao bs.length cap) := by rw [cell_of_block hp]; rfl
  have c1 : w.cell? ⟨s, 1, none⟩ = some (.int .i64 0) := by rw [cell_of_block hp]; rfl
  have z0 : w.frozen? ⟨s, 0, none⟩ = false := free_of_block hp
  have HL : Hid (Lies w g ao bs) := hL
  have HP : Hid (w.heap[s]? = some (.cells #[.slice ao bs.length cap, .int .i64 0] 28 (0, 0))) := hp
  have h1 : ¬ (bs.length : Int) < (n : Int) := by omega
  clear hL hp
  go_enter Tryd.func55, Tryd.ntmps55
  go_wp2_with fail
  · go_ret
    exact rtakePost HR.out HP.out HL.out (.inl (by simp; omega)) (by omega) (by omega) _
  · go_ret
    exact rtakePost HR.out HP.out HL.out (HL.out.map n) (by omega) (by omega) _

set_option maxHeartbeats 400000 in
theorem refByte_any (s g : Nat) (bs : List UInt8) (er : Int) (w : World) (h : RR w s g bs er) :
    Calls Tryd.prog 27 #[.pointer (some ⟨s, 0, none⟩)] w (ROut s g (rdByte bs er) w) := by
  by_cases he : er = 0
  case neg =>
    have HT : Hid (Calls Tryd.prog 55 #[.pointer (some ⟨s, 0, none⟩), .int .i64 1] w _) := refTake_er s g 1 bs er w h he 1
    have HQ : Hid (ROut s g (rdByte bs er) w (.returned (.int .u8 0)) w) := by
      have e : rdByte bs er = (er, .int .u8 0, bs) := by unfold rdByte outcome; rw [if_pos he]
      rw [Hid, e]; exact ⟨rfl, h, Touch.refl _ _⟩
    clear h
    go_enter Tryd.func27, Tryd.ntmps27
    go_wp2_with fail
    refine HT.out.mono ?_
    rintro e w1 ⟨rfl, rfl⟩
    go_wp2_with fail
    go_ret
    exact HQ.out
  subst he
  cases bs with
  | nil =>
    have HT : Hid (Calls Tryd.prog 55 #[.pointer (some ⟨s, 0, none⟩), .int .i64 1] w _) := refTake_short s g 1 [] w h (by simp) 1 rfl
    have HQ : Hid (ROut s g (rdByte [] 0) w (.returned (.int .u8 0)) (w.setCell ⟨s, 1, none⟩ (.int .i64 10))) :=
      ⟨rfl, h.fails 10, (Touch.refl _ _).setCell _ _ fun _ => rfl⟩
    clear h
    go_enter Tryd.func27, Tryd.ntmps27
    go_wp2_with fail
    refine HT.out.mono ?_
    rintro e w1 ⟨rfl, rfl⟩
    go_wp2_with fail
    go_ret
    exact HQ.out
  | cons b r =>
    have HT : Hid (Calls Tryd.prog 55 #[.pointer (some ⟨s, 0, none⟩), .int .i64 1] w _) := refTake_ok s g 1 (b :: r) w h (by simp) 1 rfl
    clear h
    go_enter Tryd.func27, Tryd.ntmps27
    go_wp2_with fail
    refine HT.out.mono ?_
    rintro e w1 ⟨ao, cap, rfl, hL, hR, hT⟩
    obtain ⟨off, rfl, hcell⟩ := hL.one
    have HQ : Hid (ROut s g (rdByte (b :: r) 0) w (.returned (.int .u8 b.toNat)) w1) := ⟨rfl, hR, hT⟩
    clear hL hR hT HT
    go_wp2_with fail
    go_ret
    exact HQ.out

set_option maxHeartbeats 400000 in
theorem refInt_any (s g : Nat) (bs : List UInt8) (er : Int) (w : World) (h : RR w s g bs er) :
    Calls Tryd.prog 28 #[.pointer (some ⟨s, 0, none⟩)] w (ROut s g (rdInt bs er) w) := by
  have HT : Hid (Calls Tryd.prog 56 #[.pointer (some ⟨s, 0, none⟩), .int .u64 18446744073709551615] w _) := refUint_any s g bs er 18446744073709551615 w h (by decide) 18446744073709551615 rfl
  have e : rdInt bs er = ((rdUint bs er 18446744073709551615).1, .int .i64 (zz (rdUint bs er 18446744073709551615).2.1), (rdUint bs er 18446744073709551615).2.2) := by
    unfold rdInt rdUint outcome
    by_cases he : er = 0
    · subst he
      simp only [ne_eq, not_true_eq_false, if_false]
      by_cases h0 : (rdU bs 18446744073709551615).1 = 0
      · rw [if_neg (by simpa using h0)]; rw [h0]
      · rw [if_pos h0]
        have e2 : (rdU bs 18446744073709551615).2 = (0, bs) := by
          unfold rdU at h0 ⊢
          split
          · rfl
          · split
            · rfl
            · rename_i h1 h2; rw [if_neg h1, if_neg h2] at h0; exact absurd rfl h0
        rw [e2]; simp [zz]
    · rw [if_pos he, if_pos he]; simp [zz]
  have hV : (rdUint bs er 18446744073709551615).2.1 ≤ 18446744073709551615 := by
    unfold rdUint; split
    · exact Nat.zero_le _
    · exact rdU_le _ _
  rw [e]
  unfold RUPost at HT
  generalize rdUint bs er 18446744073709551615 = o at *
  obtain ⟨x, V, cs⟩ := o
  simp only at hV HT ⊢
  clear h e
  by_cases hv : V % 2 = 1
  · have h2 : (V : Int) % 2 = 1 := by omega
    have hz : zz V = -((V / 2 : Nat) : Int) - 1 := by unfold zz; split <;> omega
    have HZ : Hid (zz V = -((V / 2 : Nat) : Int) - 1) := hz
    clear hz
    go_enter Tryd.func28, Tryd.ntmps28
    go_wp2_with fail
    refine HT.out.mono ?_
    rintro e w1 ⟨rfl, hR, hT⟩
    have HQ : Hid (RR w1 s g cs x ∧ Touch (· = s) w w1) := ⟨hR, hT⟩
    clear hR hT HT
    go_wp2_with fail
    go_ret
    refine ⟨?_, HQ.out⟩
    simp only [HZ.out]
    go_num
  · have h2 : (V : Int) % 2 = 0 := by omega
    have h3 : ((V : Int) % 2 == 1) = false := by rw [h2]; rfl
    have hz : zz V = ((V / 2 : Nat) : Int) := by unfold zz; split <;> omega
    have HZ : Hid (zz V = ((V / 2 : Nat) : Int)) := hz
    clear hz
    go_enter Tryd.func28, Tryd.ntmps28
    go_wp2_with fail
    refine HT.out.mono ?_
    rintro e w1 ⟨rfl, hR, hT⟩
    have HQ : Hid (RR w1 s g cs x ∧ Touch (· = s) w w1) := ⟨hR, hT⟩
    clear hR hT HT
    go_wp2_with fail
    go_ret
    refine ⟨?_, HQ.out⟩
    simp only [HZ.out]
    go_num
end Go.Proofs.YtkiicdleoniioaaDoor
