/- The contract of bytes.Clone; what is owned lies. -/
import Derived.Test.YtfmpbkdmcgkeoaaPart1
namespace Go.Proofs.Ytfmpbkdmcgkeoaa
open Go.RowKit
set_option linter.unusedVariables false

theorem Lies.cells {w : World} {g : Nat} {a : Addr} {bs : List UInt8} (h : Lies w g (some a) bs) : ∀ j u, (cellsOf bs)[j]? = some u → w.cell? (a.add j) = some u := by
  intro j u hj
  have hj' : j < bs.length := by
    have := (List.getElem?_eq_some_iff.1 hj).1
    rwa [cellsOf_length] at this
  rcases h with rfl | ⟨off, e, h⟩
  · simp at hj'
  · cases e
    have e2 : (⟨g, off, none⟩ : Addr).add j = ⟨g, off + j, none⟩ := by unfold Addr.add; split <;> simp_all
    rw [e2, h j hj']
    simp [cellsOf, List.getElem?_eq_getElem hj'] at hj
    rw [← hj]

/-- A copy of bytes. -/
def ClonePost (bs : List UInt8) (w : World) (e : Ending) (w' : World) : Prop :=
  ∃ v, e = .returned v ∧ w'.ownsRow w.heap.size 5 1 v bs.length (cellsOf bs) ∧ Touch (fun _ => False) w w'

set_option maxRecDepth 100000 in
set_option maxHeartbeats 400000 in
theorem bclone_any (g : Nat) (ao : Option Addr) (bs : List UInt8) (n cap : Nat) (hn : n = bs.length) (hnone : ao = none → cap = 0) (w : World) (h : Lies w g ao bs) (hl : bs.length ≤ 140737488355328) :
    Calls Try.prog 48 #[.slice ao n cap] w (ClonePost bs w) := by
  subst hn
  have heq := Lib.run_eql_slice_nil (P := Try.prog)
  obtain ⟨i0, hi, hz0, hz1, hz2⟩ := info_parts Try.infoByte
  cases ao with
  | none =>
    have hbs : bs = [] := by
      rcases h with h | ⟨off, e, _⟩
      · exact h
      · cases e
    subst hbs
    have HQ : Hid (ClonePost [] w (.returned (.slice none 0 0)) w) := ⟨_, rfl, World.ownsRow_nil _ _ _ _, Touch.refl _ _⟩
    go_enter Try.func48, Try.ntmps48
    go_wp2_with fail
    go_ret
    exact HQ.out
  | some a =>
    have hsrc : ∀ j u, (cellsOf bs)[j]? = some u → (w.alloc (.cells #[] 5)).cell? (a.add j) = some u := by
      intro j u hj
      have := h.cells j u hj
      rw [World.cell?_alloc_lt _ _ _ (World.block_lt_of_cell? _ _ this)]; exact this
    have hown : (w.alloc (.cells #[] 5)).ownsRow w.heap.size 5 1 (.slice (some ⟨w.heap.size, 0, none⟩) 0 0) 0 [] :=
      ⟨rfl, .inr ⟨w.heap.size, 0, #[], rfl, Nat.le_refl _, heap_alloc_new _ _, Nat.le_refl _, Nat.zero_le _, rfl, rfl⟩⟩
    have HS : Hid (∀ j u, (cellsOf bs)[j]? = some u → (w.alloc (.cells #[] 5)).cell? (a.add j) = some u) := hsrc
    clear hsrc h
    go_enter Try.func48, Try.ntmps48
    go_wp2_with (first | (at_builtin; refine wpList_append_own _ rfl _ _ 29 rfl w.heap.size 5 i0 (.int .u8 0) 1 1 Try.underlying29 hi hz0 hz1 hz2 rfl (by decide) _ _ _ rfl hown a bs.length cap (cellsOf bs) rfl ?c0 ?c1 ?c2 ?c3 ?c4 ?c5 ?_))
    case c0 => rw [cellsOf_length]; omega
    case c1 => exact HS.out
    case c2 => exact cellsOf_one bs
    case c3 => unfold maxLen; omega
    case c4 => omega
    case c5 => simp
    intro v' w1 hown' hgrow _
    try simp only [Nat.zero_add, List.nil_append] at hown'
    have HQ : Hid (ClonePost bs w (.returned v') w1) := ⟨_, rfl, hown', ((Touch.refl _ w).alloc _).grown hgrow (fun i e hi => by simp [Value.ownBlock] at e; omega)⟩
    obtain ⟨ao, n', cap', rfl⟩ : ∃ ao n cap, v' = .slice ao n cap := by
      rcases hown'.2 with ⟨e, _⟩ | ⟨g, cap, cur, e, _⟩
      · exact ⟨_, _, _, e⟩
      · exact ⟨_, _, _, e⟩
    clear hown' hgrow hown
    go_wp2_with fail
    go_ret
    exact HQ.out

/-- What is owned lies. -/
theorem lies_of_owned {w : World} {base : Nat} {v : Value} {bs : List UInt8} (h : w.ownsRow base 5 1 v bs.length (cellsOf bs)) :
    ∃ ao cap g, v = .slice ao bs.length cap ∧ Lies w g ao bs ∧ (ao = none → cap = 0) ∧ bs.length ≤ cap ∧ cap ≤ 9223372036854775807 ∧ (∀ k, v.ownBlock = some k → k = g) ∧ (bs ≠ [] → v.ownBlock = some g) := by
  rcases h.2 with ⟨e, hn⟩ | ⟨g, cap, cur, e, hb, hg, h1, h2, h3, h4⟩
  · have hbs : bs = [] := List.eq_nil_of_length_eq_zero hn
    subst hbs
    exact ⟨none, 0, 0, e, .inl rfl, fun _ => rfl, Nat.le_refl _, by omega, fun k hk => by rw [e] at hk; simp [Value.ownBlock] at hk, fun h => absurd rfl h⟩
  · refine ⟨_, cap, g, e, .inr ⟨0, rfl, fun j hj => ?_⟩, (by intro h; cases h), h1, h2, fun k hk => by rw [e] at hk; simp [Value.ownBlock] at hk; exact hk.symm, fun _ => by rw [e]; rfl⟩
    rw [cell_of_block hg]
    have h5 : (cellsOf bs)[j]? = some (.int .u8 bs[j].toNat) := by simp [cellsOf, List.getElem?_eq_getElem hj]
    rw [← h4, List.getElem?_take] at h5
    rw [if_pos (by omega)] at h5
    rw [Nat.zero_add, ← h5, Array.getElem?_toList]

theorem row_base {w : World} {b b' : Nat} {e : TypeId} {v : Value} {n : Nat} {xs : List Value} (h : w.ownsRow b e 1 v n xs) (hb : b' ≤ b) : w.ownsRow b' e 1 v n xs := by
  refine ⟨h.1, ?_⟩
  rcases h.2 with h | ⟨g, cap, cur, e, hg, r⟩
  · exact .inl h
  · exact .inr ⟨g, cap, cur, e, Nat.le_trans hb hg, r⟩

/-- A slice's first bytes are owned with it. -/
theorem row_take {w : World} {ao : Option Addr} {cap : Nat} {bs : List UInt8} (h : w.ownsRow 0 5 1 (.slice ao bs.length cap) bs.length (cellsOf bs)) (c : Nat) (hc : c ≤ bs.length) : w.ownsRow 0 5 1 (.slice ao c cap) (bs.take c).length (cellsOf (bs.take c)) := by
  refine ⟨by rw [cellsOf_length]; omega, ?_⟩
  have hlen : (bs.take c).length = c := by simp; omega
  rcases h.2 with ⟨e, hn⟩ | ⟨g, cap', cur, e, hb, hg, h1, h2, h3, h4⟩
  · left
    simp only [Value.slice.injEq] at e
    obtain ⟨rfl, _, rfl⟩ := e
    rw [hlen]
    exact ⟨by rw [show c = 0 from by omega], by omega⟩
  · simp only [Value.slice.injEq, true_and] at e
    obtain ⟨rfl, rfl⟩ := e
    refine .inr ⟨g, cap, cur, by rw [hlen], hb, hg, by rw [hlen]; omega, h2, h3, ?_⟩
    rw [hlen, Nat.mul_one]
    have : cellsOf (bs.take c) = (cellsOf bs).take c := by simp [cellsOf, List.map_take]
    rw [this, ← h4, List.take_take]
    congr 1
    omega
end Go.Proofs.Ytfmpbkdmcgkeoaa
