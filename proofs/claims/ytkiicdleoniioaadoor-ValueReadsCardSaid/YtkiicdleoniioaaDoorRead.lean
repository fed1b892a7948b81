/- The contract of wire's Reader.read: one read, whatever it does. -/
import Derived.Test.YtkiicdleoniioaaDoorNum
namespace Go.Proofs.YtkiicdleoniioaaDoor
open Go.RowKit
set_option linter.unusedVariables false

set_option maxHeartbeats 400000 in
theorem read_ended (p g : Nat) (bs : List UInt8) (er : Int) (f : Value) (w : World) (h : Rd w p g bs er) (he : (er != 0) = true) :
    Calls Tryd.prog 69 #[.pointer (some ⟨p, 0, none⟩), f] w fun e w' => e = .returned (.tuple #[]) ∧ w' = w := by
  obtain ⟨ao, cap, hp, hl, hc, hL, _⟩ := h
  have c1 : w.cell? ⟨p, 1, none⟩ = some (.int .i64 er) := by rw [cell_of_block hp]; rfl
  clear hL hp
  go_enter Tryd.func69, Tryd.ntmps69
  go_wp2_with fail
  first | go_end0 | refine bodyPost_ret (results_none rfl _ _ _) rfl ?_
  exact ⟨rfl, rfl⟩

/-- The Reader as it was, in a world that differs elsewhere alone. -/
theorem Rd.keep {S : Nat → Prop} {w w' : World} {p g : Nat} {bs : List UInt8} {er : Int} (h : Rd w p g bs er) (ht : Touch S w w') (hp : ¬ S p) (hg : bs ≠ [] → ¬ S g) : Rd w' p g bs er := by
  obtain ⟨ao, cap, h1, hl, hc, hL, hs⟩ := h
  exact ⟨ao, cap, (ht.block p (lt_of_heap h1) hp).trans h1, hl, hc, hL.keep fun e => ht.block g (hL.lt e) (hg e), Nat.lt_of_lt_of_le hs ht.size⟩
theorem Rd.lt {w : World} {p g : Nat} {bs : List UInt8} {er : Int} (h : Rd w p g bs er) : p < w.heap.size := by
  obtain ⟨ao, cap, h1, _⟩ := h
  exact lt_of_heap h1
theorem Rd.ltBytes {w : World} {p g : Nat} {bs : List UInt8} {er : Int} (h : Rd w p g bs er) : g < w.heap.size := by
  obtain ⟨ao, cap, h1, _, _, hL, hs⟩ := h
  exact hs
theorem Rd.ne {w : World} {p g : Nat} {bs : List UInt8} {er : Int} (h : Rd w p g bs er) (e : bs ≠ []) : p ≠ g := by
  obtain ⟨ao, cap, h1, _, _, hL, _⟩ := h
  exact hL.ne h1 e

/-- The world behind a try that came to its end. -/
theorem behind_ok {p g : Nat} {cs : List UInt8} {w w2 : World} {S : Nat → Prop} {Good : World → Prop} {t : TypeId} {v : Value} (hlt : p < w.heap.size) (hgl : g < w.heap.size)
    (hGood : ∀ w2 w3, w.heap.size < w2.heap.size → Touch (· = w.heap.size) w2 w3 → Good w2 → Good w3)
    (hR : Rd w2 p g cs 0) (hT : Touch (fun k => k = p ∨ S k) (w.alloc (.cells #[.int .i64 0] t)) w2) (hG : Good w2) :
    Rd (w2.setCell ⟨w.heap.size, 0, none⟩ v) p g cs 0 ∧ Touch (fun k => k = p ∨ S k) w (w2.setCell ⟨w.heap.size, 0, none⟩ v) ∧ Good (w2.setCell ⟨w.heap.size, 0, none⟩ v) := by
  have hz : w.heap.size < w2.heap.size := by have := hT.size; simp at this; omega
  have hT1 : Touch (· = w.heap.size) w2 (w2.setCell ⟨w.heap.size, 0, none⟩ v) := (Touch.refl _ _).setCell _ _ fun _ => rfl
  refine ⟨hR.keep hT1 (by omega) (fun _ => by omega), ?_, hGood _ _ hz hT1 hG⟩
  exact ((((Touch.refl _ w).alloc _).then hT (fun _ _ h => h))).setCell _ _ (fun h => absurd h (by simp))

set_option maxRecDepth 100000 in
set_option maxHeartbeats 800000 in
/-- A read that comes to its end. -/
theorem read_ok (p g : Nat) (bs cs : List UInt8) (K : FuncId) (cap : Array Value) (w : World) (S : Nat → Prop) (Good : World → Prop) (h : Rd w p g bs 0) (hK : ∀ w, (callFunc K cap).run Tryd.prog w = .ok (.enter K cap) w)
    (hS : ∀ k, S k → k < w.heap.size)
    (hGood : ∀ w2 w3, w.heap.size < w2.heap.size → Touch (· = w.heap.size) w2 w3 → Good w2 → Good w3)
    (hf : Calls Tryd.prog K cap (w.alloc (.cells #[.int .i64 0] 34)) fun e w2 => e = .returned (.tuple #[]) ∧ Rd w2 p g cs 0 ∧ Touch (fun k => k = p ∨ S k) (w.alloc (.cells #[.int .i64 0] 34)) w2 ∧ Good w2) :
    Calls Tryd.prog 69 #[.pointer (some ⟨p, 0, none⟩), .func (.func K) #[] cap] w fun e w' => e = .returned (.tuple #[]) ∧ Rd w' p g cs 0 ∧ Touch (fun k => k = p ∨ S k) w w' ∧ Good w' := by
  have hlt := h.lt
  have hgl := h.ltBytes
  obtain ⟨ao, c, hp, hl, hc, hL, _⟩ := h
  have c0 : w.cell? ⟨p, 0, none⟩ = some (.slice ao bs.length c) := by rw [cell_of_block hp]; rfl
  have c1 : w.cell? ⟨p, 1, none⟩ = some (.int .i64 0) := by rw [cell_of_block hp]; rfl
  have HT := try_ok K cap w (fun w2 => Rd w2 p g cs 0 ∧ Touch (fun k => k = p ∨ S k) (w.alloc (.cells #[.int .i64 0] 34)) w2 ∧ Good w2) hK (hf.mono (by
    rintro e w2 ⟨rfl, hR, hT, hG⟩
    have hb : w2.heap[w.heap.size]? = some (.cells #[.int .i64 0] 34) := by
      rw [hT.block w.heap.size (by simp) (by rintro (e | e); · omega
                                             · exact absurd (hS _ e) (by omega))]
      exact heap_alloc_new _ _
    exact ⟨rfl, ⟨hR, hT, hG⟩, by rw [cell_of_block hb]; rfl, free_of_block hb⟩))
  have H : Hid (Calls Tryd.prog 82 #[.func (.func K) #[] cap] w _) := HT
  clear HT hf hp hL hK
  go_enter Tryd.func69, Tryd.ntmps69
  go_wp2_with fail
  refine H.out.mono ?_
  rintro e w1 ⟨rfl, w2, ⟨hR, hT, hG⟩, hw1⟩
  have HB := behind_ok (v := .int .i64 0) hlt hgl hGood hR hT hG
  rw [← hw1] at HB
  clear hw1 hR hT hG
  have HB' : Hid (_ ∧ _) := HB
  clear HB
  go_wp2_with fail
  go_end0
  exact ⟨rfl, HB'.out⟩

/-- What a failed read leaves. -/
theorem behind_fail {p g : Nat} {bs cs : List UInt8} {w w2 : World} {S : Nat → Prop} {Good : World → Prop} {t u : TypeId} {v z : Value} {ao : Option Addr} {c : Nat} {x : Int} (hp : w.heap[p]? = some (.cells #[.slice ao bs.length c, .int .i64 0] 57 (0, 0))) (hl : bs.length ≤ c) (hc : c ≤ 9223372036854775807) (hL : Lies w g ao bs) (hgl : g < w.heap.size)
    (hSg : bs ≠ [] → ¬ S g)
    (hGood : ∀ w2 w3, w.heap.size < w2.heap.size → Touch (fun k => k = w.heap.size ∨ k = p) w2 w3 → Good w2 → Good w3)
    (hR : Rd w2 p g cs 0) (hT : Touch (fun k => k = p ∨ S k) (w.alloc (.cells #[.int .i64 0] t)) w2) (hG : Good w2) (w3 : World) (hw3 : w3 = (w2.setCell ⟨w.heap.size, 0, none⟩ v).alloc (.cells #[z] u)) :
    Rd ((w3.setCell ⟨p, 0, none⟩ (.slice ao bs.length c)).setCell ⟨p, 1, none⟩ (.int .i64 x)) p g bs x ∧ Touch (fun k => k = p ∨ S k) w ((w3.setCell ⟨p, 0, none⟩ (.slice ao bs.length c)).setCell ⟨p, 1, none⟩ (.int .i64 x)) ∧ Good ((w3.setCell ⟨p, 0, none⟩ (.slice ao bs.length c)).setCell ⟨p, 1, none⟩ (.int .i64 x)) := by
  have hlt := lt_of_heap hp
  have hz : w.heap.size < w2.heap.size := by have := hT.size; simp at this; omega
  have hT3 : Touch (fun k => k = w.heap.size ∨ k = p) w2 w3 := by rw [hw3]; exact ((Touch.refl _ _).setCell _ _ fun _ => .inl rfl).alloc _
  have hT4 : Touch (fun k => k = w.heap.size ∨ k = p) w2 ((w3.setCell ⟨p, 0, none⟩ (.slice ao bs.length c)).setCell ⟨p, 1, none⟩ (.int .i64 x)) := (hT3.setCell _ _ fun _ => .inr rfl).setCell _ _ fun _ => .inr rfl
  have hT0 : Touch (fun k => k = p ∨ S k) w w2 := ((Touch.refl _ w).alloc _).then hT (fun _ _ h => h)
  have hT5 : Touch (fun k => k = p ∨ S k) w ((w3.setCell ⟨p, 0, none⟩ (.slice ao bs.length c)).setCell ⟨p, 1, none⟩ (.int .i64 x)) := hT0.then hT4 (by intro k hk h; rcases h with e | e; exact absurd e (by omega); exact .inl e)
  obtain ⟨bo, c2, hb, _⟩ := hR
  have h3 : w3.heap[p]? = some (.cells #[.slice bo cs.length c2, .int .i64 0] 57 (0, 0)) := by
    rw [hw3, Below.heap_alloc _ _ _ (by rw [size_setCell]; omega), heap_setCell_other _ _ _ _ (by simp; omega)]; exact hb
  refine ⟨⟨ao, c, ?_, hl, hc, hL.keep fun e => hT5.block g hgl ?_, Nat.lt_of_lt_of_le hgl hT5.size⟩, hT5, hGood _ _ hz hT4 hG⟩
  · rw [heap_setCell_same _ _ _ _ (heap_setCell_same _ _ _ _ h3)]; rfl
  · rintro (e' | e')
    · exact hL.ne hp e e'.symm
    · exact hSg e e'

set_option maxRecDepth 100000 in
set_option maxHeartbeats 800000 in
/-- A read that fails: nothing is taken, and the error is the Reader's. -/
theorem read_fail (p g : Nat) (bs : List UInt8) (x : Int) (hx : (x != 0) = true) (K : FuncId) (cap : Array Value) (w : World) (S : Nat → Prop) (Good : World → Prop) (h : Rd w p g bs 0) (hK : ∀ w, (callFunc K cap).run Tryd.prog w = .ok (.enter K cap) w)
    (hS : ∀ k, S k → k < w.heap.size) (hSg : bs ≠ [] → ¬ S g)
    (hGood : ∀ w2 w3, w.heap.size < w2.heap.size → Touch (fun k => k = w.heap.size ∨ k = p) w2 w3 → Good w2 → Good w3)
    (hf : Calls Tryd.prog K cap (w.alloc (.cells #[.int .i64 0] 34)) fun e w2 => e = .panicked [thrown x] ∧ (∃ cs, Rd w2 p g cs 0) ∧ Touch (fun k => k = p ∨ S k) (w.alloc (.cells #[.int .i64 0] 34)) w2 ∧ Good w2) :
    Calls Tryd.prog 69 #[.pointer (some ⟨p, 0, none⟩), .func (.func K) #[] cap] w fun e w' => e = .returned (.tuple #[]) ∧ Rd w' p g bs x ∧ Touch (fun k => k = p ∨ S k) w w' ∧ Good w' := by
  have hlt := h.lt
  obtain ⟨ao, c, hp, hl, hc, hL, hgl⟩ := h
  have c0 : w.cell? ⟨p, 0, none⟩ = some (.slice ao bs.length c) := by rw [cell_of_block hp]; rfl
  have c1 : w.cell? ⟨p, 1, none⟩ = some (.int .i64 0) := by rw [cell_of_block hp]; rfl
  have HT := try_fail K cap x w (fun w2 => (∃ cs, Rd w2 p g cs 0) ∧ Touch (fun k => k = p ∨ S k) (w.alloc (.cells #[.int .i64 0] 34)) w2 ∧ Good w2) hK (hf.mono (by
    rintro e w2 ⟨rfl, hR, hT, hG⟩
    have hb : w2.heap[w.heap.size]? = some (.cells #[.int .i64 0] 34) := by
      rw [hT.block w.heap.size (by simp) (by rintro (e | e); · omega
                                             · exact absurd (hS _ e) (by omega))]
      exact heap_alloc_new _ _
    exact ⟨rfl, ⟨hR, hT, hG⟩, by rw [cell_of_block hb]; rfl, free_of_block hb⟩))
  have H : Hid (Calls Tryd.prog 82 #[.func (.func K) #[] cap] w _) := HT
  have HP : Hid (w.heap[p]? = some (.cells #[.slice ao bs.length c, .int .i64 0] 57 (0, 0)) ∧ Lies w g ao bs) := ⟨hp, hL⟩
  clear HT hf hp hL hK
  go_enter Tryd.func69, Tryd.ntmps69
  go_wp2_with fail
  refine H.out.mono ?_
  rintro e w3 ⟨rfl, w2, ⟨⟨cs, hR⟩, hT, hG⟩, hw3⟩
  obtain ⟨bo, c2, hb, hr⟩ := id hR
  have hz : w.heap.size < w2.heap.size := by have := hT.size; simp at this; omega
  have h3 : w3.heap[p]? = some (.cells #[.slice bo cs.length c2, .int .i64 0] 57 (0, 0)) := by
    rw [hw3, Below.heap_alloc _ _ _ (by rw [size_setCell]; omega), heap_setCell_other _ _ _ _ (by simp; omega)]; exact hb
  have d0 : w3.cell? ⟨p, 0, none⟩ = some (.slice bo cs.length c2) := by rw [cell_of_block h3]; rfl
  have d1 : w3.cell? ⟨p, 1, none⟩ = some (.int .i64 0) := by rw [cell_of_block h3]; rfl
  have z0 : w3.frozen? ⟨p, 0, none⟩ = false := free_of_block h3
  have z1 : w3.frozen? ⟨p, 1, none⟩ = false := free_of_block h3
  have HB := behind_fail (x := x) HP.out.1 hl hc HP.out.2 hgl hSg hGood hR hT hG w3 hw3
  have HB' : Hid (_ ∧ _) := HB
  clear HB hw3 hR hT hG hb hr h3
  go_wp2_with fail
  go_end0
  exact ⟨rfl, HB'.out⟩
end Go.Proofs.YtkiicdleoniioaaDoor
