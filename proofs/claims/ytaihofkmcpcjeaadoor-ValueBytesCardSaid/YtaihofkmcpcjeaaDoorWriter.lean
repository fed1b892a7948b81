/- The contracts of wire's Writer: Byte. -/
import Derived.Test.YtaihofkmcpcjeaaDoorPart1
import Derived.Test.YtaihofkmcpcjeaaDoorProg
import Derived.Test.YtaihofkmcpcjeaaDoorArith
import Derived.WalkLawsBesides
import Derived.Maps.AppendAt
namespace Go.Proofs.YtaihofkmcpcjeaaDoor
open Go.RowKit
set_option linter.unusedVariables false

/-- Block p is a Writer that has written bs. -/
def Wr (w : World) (p : Nat) (bs : List UInt8) : Prop :=
  ∃ v, w.heap[p]? = some (.cells #[v] 42 (0, 0)) ∧ w.ownsRow 0 5 1 v bs.length (cellsOf bs)

/-- The blocks of the Writer at p. -/
def wfoot (w : World) (p k : Nat) : Prop := k = p ∨ ∃ v, w.cell? ⟨p, 0, none⟩ = some v ∧ v.ownBlock = some k

/-- Behind a call on the Writer at p: what it has written; that nothing else was touched; that its blocks are those that it had, or new. -/
structure WrPost (p : Nat) (bs : List UInt8) (w w' : World) : Prop where
  is : Wr w' p bs
  touch : Touch (wfoot w p) w w'
  foot : ∀ k, k < w.heap.size → wfoot w' p k → wfoot w p k

theorem WrPost.refl {p : Nat} {bs : List UInt8} {w : World} (h : Wr w p bs) : WrPost p bs w w := ⟨h, Touch.refl _ _, fun _ _ h => h⟩
theorem WrPost.trans {p : Nat} {bs cs : List UInt8} {a b c : World} (h : WrPost p bs a b) (k : WrPost p cs b c) : WrPost p cs a c :=
  ⟨k.is, h.touch.then k.touch h.foot, fun i hi hf => h.foot i hi (k.foot i (Nat.lt_of_lt_of_le hi h.touch.size) hf)⟩
theorem Wr.lt {p : Nat} {bs : List UInt8} {w : World} (h : Wr w p bs) : p < w.heap.size := by
  obtain ⟨v, hp, _⟩ := h
  exact lt_of_heap hp

/-- A row of another element type is another block. -/
theorem row_ne {w : World} {p k : Nat} {v u : Value} {n : Nat} {xs : List Value} (hp : w.heap[p]? = some (.cells #[u] 42 (0, 0))) (h : w.ownsRow 0 5 1 v n xs) (hk : v.ownBlock = some k) : p ≠ k := by
  rintro rfl
  rcases h.2 with ⟨rfl, _⟩ | ⟨g, cap, cur, rfl, _, hg, _⟩
  · simp [Value.ownBlock] at hk
  · simp only [Value.ownBlock, Option.some.injEq] at hk
    subst hk
    rw [hg] at hp
    simp at hp

/-- The Writer laid anew with what append answered. -/
theorem WrPost.appended {p : Nat} {bs cs : List UInt8} {w w1 w2 : World} {v v' : Value} (hp : w.heap[p]? = some (.cells #[v] 42 (0, 0))) (hown : w.ownsRow 0 5 1 v bs.length (cellsOf bs))
    (hw1 : Touch (fun _ => False) w w1) (hown' : w2.ownsRow 0 5 1 v' cs.length (cellsOf cs)) (hg : w1.grownBy w2 v.ownBlock) (hnew : ∀ k, v'.ownBlock = some k → k < w.heap.size → v.ownBlock = some k) :
    WrPost p cs w (w2.setCell ⟨p, 0, none⟩ v') := by
  have hlt := lt_of_heap hp
  have h1 : w1.heap[p]? = some (.cells #[v] 42 (0, 0)) := (hw1.block p hlt id).trans hp
  have hpv : some p ≠ v.ownBlock := fun e => row_ne hp hown e.symm rfl
  have h2 : w2.heap[p]? = some (.cells #[v] 42 (0, 0)) := (hg.block p (Nat.lt_of_lt_of_le hlt hw1.size) hpv).trans h1
  have h3 : (w2.setCell ⟨p, 0, none⟩ v').heap[p]? = some (.cells #[v'] 42 (0, 0)) := by rw [heap_setCell_same _ _ _ _ h2]; rfl
  refine ⟨⟨v', h3, ?_⟩, ?_, ?_⟩
  · refine ⟨hown'.1, ?_⟩
    rcases hown'.2 with h | ⟨g, cap, cur, e, hb, hgg, hr⟩
    · exact .inl h
    · refine .inr ⟨g, cap, cur, e, hb, ?_, hr⟩
      rw [heap_setCell_other _ _ _ _ (row_ne h2 hown' (by rw [e]; rfl))]; exact hgg
  · have hv : w.cell? ⟨p, 0, none⟩ = some v := by rw [cell_of_block hp]; rfl
    have t1 : Touch (wfoot w p) w w2 := (hw1.mono fun _ _ h => h.elim).grown hg (fun i e _ => .inr ⟨v, hv, e⟩)
    exact t1.setCell _ _ fun _ => .inl rfl
  · intro k hk hf
    rcases hf with e | ⟨u, hu, hk'⟩
    · exact .inl e
    · rw [cell_of_block h3] at hu
      simp at hu
      subst hu
      exact .inr ⟨v, by rw [cell_of_block hp]; rfl, hnew k hk' hk⟩

set_option maxRecDepth 100000 in
set_option maxHeartbeats 400000 in
theorem wbyte_any (p : Nat) (bs : List UInt8) (b : UInt8) (x : Int) (hx : x = b.toNat) (w : World) (h : Wr w p bs) (hl : bs.length < 140737488355328) :
    Calls Tryd.prog 49 #[.pointer (some ⟨p, 0, none⟩), .int .u8 x] w fun e w' => e = .returned (.tuple #[]) ∧ WrPost p (bs ++ [b]) w w' := by
  subst hx
  obtain ⟨v, hp, hown⟩ := h
  have c0 : w.cell? ⟨p, 0, none⟩ = some v := by rw [cell_of_block hp]; rfl
  obtain ⟨i0, hi, hz0, hz1, hz2⟩ := info_parts Tryd.infoByte
  go_enter Tryd.func49, Tryd.ntmps49
  go_wp2_with (first | (at_builtin; refine wpList_append_own_at _ rfl _ _ 40 rfl 0 5 i0 (.int .u8 0) 1 1 Tryd.underlying40 hi hz0 hz1 hz2 rfl (by decide) _ _ _ rfl (hown.alloc _) ⟨w.heap.size, 0, none⟩ 1 1 [.int .u8 (b.toNat : Int)] rfl rfl ?c1 ?c2 ?c3 ?c4 ?c5 ?_))
  case c1 =>
    intro j u hj
    match j, hj with
    | 0, hj => simp at hj; subst hj; simp [Addr.add]
  case c2 => intro u hu; simp at hu; subst hu; rfl
  case c3 => unfold maxLen; omega
  case c4 => omega
  case c5 => exact Nat.zero_le _
  intro v' w1 hown' hgrow _ hat
  have HQ : Hid (WrPost p (bs ++ [b]) w (w1.setCell ⟨p, 0, none⟩ v')) := by
    refine WrPost.appended hp hown ((Touch.refl _ w).alloc _) ?_ hgrow ?_
    · rw [cellsOf_append, List.length_append]; exact hown'
    · intro k hk hlt
      rcases hat with e | e
      · rw [← e]; exact hk
      · rw [hk] at e; simp at e; omega
  have hpv : some p ≠ v.ownBlock := fun e => row_ne hp hown e.symm rfl
  have h2 : w1.heap[p]? = some (.cells #[v] 42 (0, 0)) := (hgrow.block p (by have := lt_of_heap hp; simp; omega) hpv).trans ((Below.heap_alloc _ _ _ (lt_of_heap hp)).trans hp)
  have c1 : w1.cell? ⟨p, 0, none⟩ = some v := by rw [cell_of_block h2]; rfl
  have z1 : w1.frozen? ⟨p, 0, none⟩ = false := free_of_block h2
  obtain ⟨ao, n', cap', rfl⟩ : ∃ ao n cap, v' = .slice ao n cap := by
    rcases hown'.2 with ⟨e, _⟩ | ⟨g, cap, cur, e, _⟩
    · exact ⟨_, _, _, e⟩
    · exact ⟨_, _, _, e⟩
  clear hown' hgrow hat hown hpv h2 hp
  go_wp2_with fail
  go_end0
  exact ⟨rfl, HQ.out⟩
end Go.Proofs.YtaihofkmcpcjeaaDoor
