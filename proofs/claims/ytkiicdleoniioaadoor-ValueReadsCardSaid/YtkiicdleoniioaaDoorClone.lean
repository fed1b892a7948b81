/- The contracts of wire's NewReader, Left, Err. -/
import Derived.Test.YtkiicdleoniioaaDoorWBytes
import Derived.Test.YtkiicdleoniioaaDoorTake
namespace Go.Proofs.YtkiicdleoniioaaDoor
open Go.RowKit
set_option linter.unusedVariables false

/-- A new Reader of bytes. -/
def NewPost (bs : List UInt8) (w : World) (e : Ending) (w' : World) : Prop :=
  ∃ p g, e = .returned (.pointer (some ⟨p, 0, none⟩)) ∧ Rd w' p g bs 0 ∧ w.heap.size ≤ p ∧ w.heap.size ≤ g ∧ Touch (fun _ => False) w w'

set_option maxRecDepth 100000 in
set_option maxHeartbeats 400000 in
theorem newReader_any (g : Nat) (ao : Option Addr) (bs : List UInt8) (n cap : Nat) (hn : n = bs.length) (hnone : ao = none → cap = 0) (w : World) (h : Lies w g ao bs) (hl : bs.length ≤ 140737488355328) :
    Calls Tryd.prog 5 #[.slice ao n cap] w (NewPost bs w) := by
  subst hn
  have HC : Hid (Calls Tryd.prog 24 #[.slice ao bs.length cap] w (ClonePost bs w)) := clone_any g ao bs bs.length cap rfl hnone w h hl
  clear h hnone
  go_enter Tryd.func5, Tryd.ntmps5
  go_wp2_with fail
  refine HC.out.mono ?_
  rintro e w1 ⟨v, rfl, hown, hT⟩
  have hlt := hown.lt
  obtain ⟨bo, c2, g2, rfl, hL, hno, h1, h2, h3, h4⟩ := lies_of_owned hown
  have HQ : Hid (NewPost bs w (.returned (.pointer (some ⟨w1.heap.size, 0, none⟩))) (w1.alloc (.cells #[.slice bo bs.length c2, .int .i64 0] 57))) := by
    have hz := hT.size
    by_cases hb : bs = []
    · refine ⟨w1.heap.size, w1.heap.size, rfl, ⟨bo, c2, heap_alloc_new _ _, h1, h2, .inl hb, by simp⟩, hz, hz, hT.alloc _⟩
    · have hg2 := hlt g2 (h4 hb)
      exact ⟨w1.heap.size, g2, rfl, ⟨bo, c2, heap_alloc_new _ _, h1, h2, hL.keep fun _ => Below.heap_alloc _ _ _ hg2.2, by simp; omega⟩, hz, hg2.1, hT.alloc _⟩
  clear hown hT hlt hL hno h1 h2 h3 h4 HC
  go_wp2_with fail
  go_ret
  exact HQ.out

set_option maxHeartbeats 400000 in
theorem left_any (p g : Nat) (bs : List UInt8) (er : Int) (w : World) (h : Rd w p g bs er) :
    Calls Tryd.prog 11 #[.pointer (some ⟨p, 0, none⟩)] w fun e w' => e = .returned (.int .i64 bs.length) ∧ w' = w := by
  obtain ⟨ao, cap, hp, hl, hc, hL, _⟩ := h
  have c0 : w.cell? ⟨p, 0, none⟩ = some (.slice ao bs.length cap) := by rw [cell_of_block hp]; rfl
  clear hL hp
  go_enter Tryd.func11, Tryd.ntmps11
  go_wp2_with fail
  go_ret
  exact ⟨rfl, rfl⟩

set_option maxHeartbeats 400000 in
theorem err_any (p g : Nat) (bs : List UInt8) (er : Int) (w : World) (h : Rd w p g bs er) :
    Calls Tryd.prog 8 #[.pointer (some ⟨p, 0, none⟩)] w fun e w' => e = .returned (.int .i64 er) ∧ w' = w := by
  obtain ⟨ao, cap, hp, hl, hc, hL, _⟩ := h
  have c1 : w.cell? ⟨p, 1, none⟩ = some (.int .i64 er) := by rw [cell_of_block hp]; rfl
  clear hL hp
  go_enter Tryd.func8, Tryd.ntmps8
  go_wp2_with fail
  go_ret
  exact ⟨rfl, rfl⟩
end Go.Proofs.YtkiicdleoniioaaDoor
