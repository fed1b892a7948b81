/- The contracts of slices.Clone at bytes, wire's Writer.Bytes. -/
import Derived.Test.YtkiicdleoniioaaDoorWriter
import Derived.Test.YtkiicdleoniioaaDoorPart5
import Derived.Test.YtkiicdleoniioaaDoorPart6
import Derived.Laws.IdiomStrings
import Derived.Laws.BytesArg
namespace Go.Proofs.YtkiicdleoniioaaDoor
open Go.RowKit
set_option linter.unusedVariables false

theorem Lies.cells {w : World} {g : Nat} {a : Addr} {bs : List UInt8} (h : Lies w g (some a) bs) : ∀ j u, (cellsOf bs)[j]? = some u → w.cell? (a.add j) = some u := by
  intro j u hj
  have hj' : j < bs.length := by
    have := (List.getElem?_eq_some_iff.1 hj).1
    rwa [cellsOf_length] at this
  rcases h with rfl | ⟨off, e, h⟩
  · simp at hj'
  · cases e
    have e2 : (⟨g, off, none⟩ : Addr).add j = ⟨g, off + j, none⟩ := by unfold Addr.add; split <;> simp_all
    rw [e2, h j hj']
    simp [cellsOf, List.getElem?_eq_getElem hj'] at hj
    rw [← hj]

/-- A copy of bytes. -/
def ClonePost (bs : List UInt8) (w : World) (e : Ending) (w' : World) : Prop :=
  ∃ v, e = .returned v ∧ w'.ownsRow w.heap.size 5 1 v bs.length (cellsOf bs) ∧ Touch (fun _ => False) w w'

set_option maxRecDepth 100000 in
set_option maxHeartbeats 400000 in
theorem clone_any (g : Nat) (ao : Option Addr) (bs : List UInt8) (n cap : Nat) (hn : n = bs.length) (hnone : ao = none → cap = 0) (w : World) (h : Lies w g ao bs) (hl : bs.length ≤ 140737488355328) :
    Calls Tryd.prog 24 #[.slice ao n cap] w (ClonePost bs w) := by
  subst hn
  have heq := Lib.run_eql_slice_nil (P := Tryd.prog)
  obtain ⟨i0, hi, hz0, hz1, hz2⟩ := info_parts Tryd.infoByte
  cases ao with
  | none =>
    have hbs : bs = [] := by
      rcases h with h | ⟨off, e, _⟩
      · exact h
      · cases e
    subst hbs
    have HQ : Hid (ClonePost [] w (.returned (.slice none 0 0)) w) := ⟨_, rfl, World.ownsRow_nil _ _ _ _, Touch.refl _ _⟩
    go_enter Tryd.func24, Tryd.ntmps24
    go_wp2_with fail
    go_ret
    exact HQ.out
  | some a =>
    have hsrc : ∀ j u, (cellsOf bs)[j]? = some u → (w.alloc (.cells #[] 5)).cell? (a.add j) = some u := by
      intro j u hj
      have := h.cells j u hj
      rw [World.cell?_alloc_lt _ _ _ (World.block_lt_of_cell? _ _ this)]; exact this
    have hown : (w.alloc (.cells #[] 5)).ownsRow w.heap.size 5 1 (.slice (some ⟨w.heap.size, 0, none⟩) 0 0) 0 [] :=
      ⟨rfl, .inr ⟨w.heap.size, 0, #[], rfl, Nat.le_refl _, heap_alloc_new _ _, Nat.le_refl _, Nat.zero_le _, rfl, rfl⟩⟩
    have HS : Hid (∀ j u, (cellsOf bs)[j]? = some u → (w.alloc (.cells #[] 5)).cell? (a.add j) = some u) := hsrc
    clear hsrc h
    go_enter Tryd.func24, Tryd.ntmps24
    go_wp2_with (first | (at_builtin; refine wpList_append_own _ rfl _ _ 22 rfl w.heap.size 5 i0 (.int .u8 0) 1 1 Tryd.underlying22 hi hz0 hz1 hz2 rfl (by decide) _ _ _ rfl hown a bs.length cap (cellsOf bs) rfl ?c0 ?c1 ?c2 ?c3 ?c4 ?c5 ?_))
    case c0 => rw [cellsOf_length]; omega
    case c1 => exact HS.out
    case c2 => exact cellsOf_one bs
    case c3 => unfold maxLen; omega
    case c4 => omega
    case c5 => simp
    intro v' w1 hown' hgrow _
    try simp only [Nat.zero_add, List.nil_append] at hown'
    have HQ : Hid (ClonePost bs w (.returned v') w1) := ⟨_, rfl, hown', ((Touch.refl _ w).alloc _).grown hgrow (fun i e hi => by simp [Value.ownBlock] at e; omega)⟩
    obtain ⟨ao, n', cap', rfl⟩ : ∃ ao n cap, v' = .slice ao n cap := by
      rcases hown'.2 with ⟨e, _⟩ | ⟨g, cap, cur, e, _⟩
      · exact ⟨_, _, _, e⟩
      · exact ⟨_, _, _, e⟩
    clear hown' hgrow hown
    go_wp2_with fail
    go_ret
    exact HQ.out

/-- What is owned lies. -/
theorem lies_of_owned {w : World} {base : Nat} {v : Value} {bs : List UInt8} (h : w.ownsRow base 5 1 v bs.length (cellsOf bs)) :
    ∃ ao cap g, v = .slice ao bs.length cap ∧ Lies w g ao bs ∧ (ao = none → cap = 0) ∧ bs.length ≤ cap ∧ cap ≤ 9223372036854775807 ∧ (∀ k, v.ownBlock = some k → k = g) ∧ (bs ≠ [] → v.ownBlock = some g) := by
  rcases h.2 with ⟨e, hn⟩ | ⟨g, cap, cur, e, hb, hg, h1, h2, h3, h4⟩
  · have hbs : bs = [] := List.eq_nil_of_length_eq_zero hn
    subst hbs
    exact ⟨none, 0, 0, e, .inl rfl, fun _ => rfl, Nat.le_refl _, by omega, fun k hk => by rw [e] at hk; simp [Value.ownBlock] at hk, fun h => absurd rfl h⟩
  · refine ⟨_, cap, g, e, .inr ⟨0, rfl, fun j hj => ?_⟩, (by intro h; cases h), h1, h2, fun k hk => by rw [e] at hk; simp [Value.ownBlock] at hk; exact hk.symm, fun _ => by rw [e]; rfl⟩
    rw [cell_of_block hg]
    have h5 : (cellsOf bs)[j]? = some (.int .u8 bs[j].toNat) := by simp [cellsOf, List.getElem?_eq_getElem hj]
    rw [← h4, List.getElem?_take] at h5
    rw [if_pos (by omega)] at h5
    rw [Nat.zero_add, ← h5, Array.getElem?_toList]

set_option maxRecDepth 100000 in
set_option maxHeartbeats 400000 in
theorem wbytes_any (p : Nat) (bs : List UInt8) (w : World) (h : Wr w p bs) (hl : bs.length ≤ 140737488355328) :
    Calls Tryd.prog 13 #[.pointer (some ⟨p, 0, none⟩)] w (ClonePost bs w) := by
  obtain ⟨v, hp, hown⟩ := h
  obtain ⟨ao, cap, g, rfl, hL, hnone, h1, h2, _⟩ := lies_of_owned hown
  have c0 : w.cell? ⟨p, 0, none⟩ = some (.slice ao bs.length cap) := by rw [cell_of_block hp]; rfl
  have HC : Hid (Calls Tryd.prog 24 #[.slice ao bs.length cap] w (ClonePost bs w)) := clone_any g ao bs bs.length cap rfl hnone w hL hl
  clear hp hown hL hnone
  go_enter Tryd.func13, Tryd.ntmps13
  go_wp2_with fail
  refine HC.out.mono ?_
  intro e w1 hP
  have HQ : Hid (ClonePost bs w e w1) := hP
  obtain ⟨v', rfl, _⟩ := hP
  go_wp2_with fail
  go_ret
  exact HQ.out
end Go.Proofs.YtkiicdleoniioaaDoor

/- The contracts of wire's NewReader, Left, Err. -/
namespace Go.Proofs.YtkiicdleoniioaaDoor
open Go.RowKit
set_option linter.unusedVariables false

/-- A new Reader of bytes. -/
def NewPost (bs : List UInt8) (w : World) (e : Ending) (w' : World) : Prop :=
  ∃ p g, e = .returned (.pointer (some ⟨p, 0, none⟩)) ∧ Rd w' p g bs 0 ∧ w.heap.size ≤ p ∧ w.heap.size ≤ g ∧ Touch (fun _ => False) w w'

set_option maxRecDepth 100000 in
set_option maxHeartbeats 400000 in
theorem newReader_any (g : Nat) (ao : Option Addr) (bs : List UInt8) (n cap : Nat) (hn : n = bs.length) (hnone : ao = none → cap = 0) (w : World) (h : Lies w g ao bs) (hl : bs.length ≤ 140737488355328) :
    Calls Tryd.prog 5 #[.slice ao n cap] w (NewPost bs w) := by
  subst hn
  have HC : Hid (Calls Tryd.prog 24 #[.slice ao bs.length cap] w (ClonePost bs w)) := clone_any g ao bs bs.length cap rfl hnone w h hl
  clear h hnone
  go_enter Tryd.func5, Tryd.ntmps5
  go_wp2_with fail
  refine HC.out.mono ?_
  rintro e w1 ⟨v, rfl, hown, hT⟩
  have hlt := hown.lt
  obtain ⟨bo, c2, g2, rfl, hL, hno, h1, h2, h3, h4⟩ := lies_of_owned hown
  have HQ : Hid (NewPost bs w (.returned (.pointer (some ⟨w1.heap.size, 0, none⟩))) (w1.alloc (.cells #[.slice bo bs.length c2, .int .i64 0] 57))) := by
    have hz := hT.size
    by_cases hb : bs = []
    · refine ⟨w1.heap.size, w1.heap.size, rfl, ⟨bo, c2, heap_alloc_new _ _, h1, h2, .inl hb, by simp⟩, hz, hz, hT.alloc _⟩
    · have hg2 := hlt g2 (h4 hb)
      exact ⟨w1.heap.size, g2, rfl, ⟨bo, c2, heap_alloc_new _ _, h1, h2, hL.keep fun _ => Below.heap_alloc _ _ _ hg2.2, by simp; omega⟩, hz, hg2.1, hT.alloc _⟩
  clear hown hT hlt hL hno h1 h2 h3 h4 HC
  go_wp2_with fail
  go_ret
  exact HQ.out

set_option maxHeartbeats 400000 in
theorem left_any (p g : Nat) (bs : List UInt8) (er : Int) (w : World) (h : Rd w p g bs er) :
    Calls Tryd.prog 11 #[.pointer (some ⟨p, 0, none⟩)] w fun e w' => e = .returned (.int .i64 bs.length) ∧ w' = w := by
  obtain ⟨ao, cap, hp, hl, hc, hL, _⟩ := h
  have c0 : w.cell? ⟨p, 0, none⟩ = some (.slice ao bs.length cap) := by rw [cell_of_block hp]; rfl
  clear hL hp
  go_enter Tryd.func11, Tryd.ntmps11
  go_wp2_with fail
  go_ret
  exact ⟨rfl, rfl⟩

set_option maxHeartbeats 400000 in
theorem err_any (p g : Nat) (bs : List UInt8) (er : Int) (w : World) (h : Rd w p g bs er) :
    Calls Tryd.prog 8 #[.pointer (some ⟨p, 0, none⟩)] w fun e w' => e = .returned (.int .i64 er) ∧ w' = w := by
  obtain ⟨ao, cap, hp, hl, hc, hL, _⟩ := h
  have c1 : w.cell? ⟨p, 1, none⟩ = some (.int .i64 er) := by rw [cell_of_block hp]; rfl
  clear hL hp
  go_enter Tryd.func8, Tryd.ntmps8
  go_wp2_with fail
  go_ret
  exact ⟨rfl, rfl⟩
end Go.Proofs.YtkiicdleoniioaaDoor

/- Bytes that lie, as a string. -/
namespace Go.Proofs.YtkiicdleoniioaaDoor
open Go.RowKit
set_option linter.unusedVariables false
set_option linter.unusedSimpArgs false

theorem lies_string {w : World} {g : Nat} {ao : Option Addr} {bs : List UInt8} (h : Lies w g ao bs) (n cap : Nat) (hn : n = bs.length) : (convert 22 9 (.slice ao n cap)).run Tryd.prog w = .ok (.string ⟨bs.toArray⟩) w := by
  subst hn
  rcases ao with _ | a
  · rcases h with rfl | ⟨off, e, _⟩
    · exact run_convert_bytes_nil w 22 5 Tryd.underlying22 Tryd.underlying5 _ _ 9 Tryd.underlying9
    · cases e
  · refine run_convert_bytes_back w 22 9 5 a cap bs Tryd.underlying22 Tryd.underlying5 Tryd.underlying9 ?_
    intro j hj
    rcases h with rfl | ⟨off, e, h⟩
    · simp at hj
    · cases e
      have e2 : (⟨g, off, none⟩ : Addr).add j = ⟨g, off + j, none⟩ := by unfold Addr.add; split <;> simp_all
      rw [e2]; exact h j hj

end Go.Proofs.YtkiicdleoniioaaDoor

/- Bytes as a string; the contract of quirehelp.Bytes. -/
namespace Go.Proofs.YtkiicdleoniioaaDoor
open Go.RowKit
set_option linter.unusedVariables false
set_option linter.unusedSimpArgs false

set_option maxRecDepth 100000 in
set_option maxHeartbeats 400000 in
theorem help_bytes (g g2 : Nat) (ao bo : Option Addr) (a b : List UInt8) (n m c d : Nat) (hn : n = a.length) (hm : m = b.length) (w : World) (h1 : Lies w g ao a) (h2 : Lies w g2 bo b) :
    Calls Tryd.prog 12 #[.slice ao n c, .slice bo m d] w fun e w' => e = .returned (.bool (a == b)) ∧ w' = w := by
  subst hn hm
  have k1 := lies_string h1 a.length c rfl
  have k2 := lies_string h2 b.length d rfl
  clear h1 h2
  go_enter Tryd.func12, Tryd.ntmps12
  go_wp2
  go_ret
  exact ⟨rfl, rfl⟩
end Go.Proofs.YtkiicdleoniioaaDoor
