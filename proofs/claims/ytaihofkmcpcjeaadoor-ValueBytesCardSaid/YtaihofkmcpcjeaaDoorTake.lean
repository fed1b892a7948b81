/- The contracts of wire's Reader: take. -/
import Derived.Test.YtaihofkmcpcjeaaDoorPart1
import Derived.Test.YtaihofkmcpcjeaaDoorPart5
namespace Go.Proofs.YtaihofkmcpcjeaaDoor
open Go.RowKit
set_option linter.unusedVariables false

/-- The bytes bs lie in block g, where a slice of that address begins (nothing is asked where there are none). -/
def Lies (w : World) (g : Nat) (ao : Option Addr) (bs : List UInt8) : Prop :=
  bs = [] ∨ ∃ off, ao = some ⟨g, off, none⟩ ∧ ∀ j (h : j < bs.length), w.cell? ⟨g, off + j, none⟩ = some (.int .u8 bs[j].toNat)

/-- Block p is a Reader with the bytes bs left, which lie in block g, and the error er. -/
def Rd (w : World) (p g : Nat) (bs : List UInt8) (er : Int) : Prop :=
  ∃ ao cap, w.heap[p]? = some (.cells #[.slice ao bs.length cap, .int .i64 er] 80 (0, 0)) ∧ bs.length ≤ cap ∧ cap ≤ 9223372036854775807 ∧ Lies w g ao bs ∧ g < w.heap.size

theorem Lies.drop {w : World} {g : Nat} {bs : List UInt8} {a : Addr} (h : Lies w g (some a) bs) (n : Nat) : Lies w g (some (a.add n)) (bs.drop n) := by
  rcases h with rfl | ⟨off, e, h⟩
  · exact .inl (by simp)
  · cases e
    refine .inr ⟨off + n, by simp [Addr.add], fun j hj => ?_⟩
    have := h (n + j) (by simp at hj; omega)
    rw [show off + n + j = off + (n + j) from by omega, this]; simp

theorem Lies.take {w : World} {g : Nat} {bs : List UInt8} {ao : Option Addr} (h : Lies w g ao bs) (n : Nat) : Lies w g ao (bs.take n) := by
  rcases h with rfl | ⟨off, e, h⟩
  · exact .inl (by simp)
  · exact .inr ⟨off, e, fun j hj => by have := h j (by simp at hj; omega); simpa using this⟩

theorem Lies.map {w : World} {g : Nat} {bs : List UInt8} {ao : Option Addr} (h : Lies w g ao bs) (n : Nat) : Lies w g (Option.map (fun x => x.add n) ao) (bs.drop n) := by
  rcases ao with _ | a
  · rcases h with rfl | ⟨off, e, _⟩
    · exact .inl (by simp)
    · cases e
  · exact h.drop n

/-- The bytes lie as they lay, where their block is as it was. -/
theorem Lies.keep {w w' : World} {g : Nat} {bs : List UInt8} {ao : Option Addr} (h : Lies w g ao bs) (hg : bs ≠ [] → w'.heap[g]? = w.heap[g]?) : Lies w' g ao bs := by
  by_cases e : bs = []
  · exact .inl e
  · rcases h with h | ⟨off, ha, h⟩
    · exact absurd h e
    · exact .inr ⟨off, ha, fun j hj => (World.cell?_of_block (a := ⟨g, off + j, none⟩) (hg e)).trans (h j hj)⟩

theorem Lies.lt {w : World} {g : Nat} {bs : List UInt8} {ao : Option Addr} (h : Lies w g ao bs) (e : bs ≠ []) : g < w.heap.size := by
  rcases h with h | ⟨off, ha, h⟩
  · exact absurd h e
  · exact World.block_lt_of_cell? _ _ (h 0 (List.length_pos_iff.2 e))

/-- A block of a Reader's two cells holds no bytes. -/
theorem Lies.ne {w : World} {p g : Nat} {bs : List UInt8} {ao bo : Option Addr} {n cap : Nat} {er : Int} (h : Lies w g ao bs) (hp : w.heap[p]? = some (.cells #[.slice bo n cap, .int .i64 er] 80 (0, 0))) (e : bs ≠ []) : p ≠ g := by
  rintro rfl
  rcases h with h | ⟨off, ha, h⟩
  · exact e h
  · have := h 0 (List.length_pos_iff.2 e)
    rw [cell_of_block hp] at this
    match off, this with
    | 0, this => simp at this
    | 1, this => simp at this
    | k + 2, this => simp at this

/-- The Reader with its first field laid anew. -/
theorem Rd.left {w : World} {p g : Nat} {bs cs : List UInt8} {er : Int} {ao bo : Option Addr} {cap c2 : Nat} (hp : w.heap[p]? = some (.cells #[.slice ao bs.length cap, .int .i64 er] 80 (0, 0)))
    (hL : Lies w g bo cs) (h1 : cs.length ≤ c2) (h2 : c2 ≤ 9223372036854775807) (hg : g < w.heap.size) : Rd (w.setCell ⟨p, 0, none⟩ (.slice bo cs.length c2)) p g cs er := by
  refine ⟨bo, c2, ?_, h1, h2, hL.keep fun e => heap_setCell_other _ _ _ _ ?_, by rw [size_setCell]; exact hg⟩
  · rw [heap_setCell_same _ _ _ _ hp]; rfl
  · exact hL.ne hp e

/-- What take leaves. -/
def TakePost (p g n : Nat) (bs : List UInt8) (er : Int) (w : World) (e : Ending) (w' : World) : Prop :=
  ∃ ao cap, e = .returned (.slice ao n cap) ∧ Lies w' g ao (bs.take n) ∧ Rd w' p g (bs.drop n) er ∧ Touch (· = p) w w'

theorem takePost {p g n : Nat} {bs : List UInt8} {er : Int} {w : World} {ao bo : Option Addr} {cap c2 : Nat} (hp : w.heap[p]? = some (.cells #[.slice ao bs.length cap, .int .i64 er] 80 (0, 0)))
    (hL : Lies w g ao bs) (hb : Lies w g bo (bs.drop n)) (h1 : bs.length - n ≤ c2) (h2 : c2 ≤ 9223372036854775807) (hg : g < w.heap.size) (c : Nat) :
    TakePost p g n bs er w (.returned (.slice ao n c)) (w.setCell ⟨p, 0, none⟩ (.slice bo (bs.length - n) c2)) := by
  have e : bs.length - n = (bs.drop n).length := by simp
  rw [e] at h1 ⊢
  exact ⟨ao, c, rfl, (hL.take n).keep fun e => heap_setCell_other _ _ _ _ (fun hh => hL.ne hp (fun e' => e (by simp [e'])) hh), Rd.left hp hb h1 h2 hg, (Touch.refl _ _).setCell _ _ fun _ => rfl⟩

set_option maxHeartbeats 400000 in
theorem take_short (p g n : Nat) (bs : List UInt8) (er : Int) (w : World) (h : Rd w p g bs er) (hn : bs.length < n) (hb : n < 18446744073709551616) (m : Int) (hm : m = n) :
    Calls Tryd.prog 94 #[.pointer (some ⟨p, 0, none⟩), .int .u64 m] w fun e w' => e = .panicked [thrown 10] ∧ w' = w := by
  subst hm
  obtain ⟨ao, cap, hp, hl, hc, hL, hg⟩ := h
  have c0 : w.cell? ⟨p, 0, none⟩ = some (.slice ao bs.length cap) := by rw [cell_of_block hp]; rfl
  have hF := fail_any 10 w (by decide)
  have H : Hid (Calls Tryd.prog 105 #[.int .i64 10] w _) := hF
  clear hF hL hp
  go_enter Tryd.func94, Tryd.ntmps94
  go_wp2_with (go_at_call 105; refine H.out.mono ?_; rintro e w1 ⟨rfl, rfl⟩)
  exact ⟨rfl, rfl, rfl⟩

set_option maxHeartbeats 400000 in
theorem take_ok (p g n : Nat) (bs : List UInt8) (er : Int) (w : World) (h : Rd w p g bs er) (hn : n ≤ bs.length) (m : Int) (hm : m = n) :
    Calls Tryd.prog 94 #[.pointer (some ⟨p, 0, none⟩), .int .u64 m] w (TakePost p g n bs er w) := by
  subst hm
  obtain ⟨ao, cap, hp, hl, hc, hL, hg⟩ := h
  have c0 : w.cell? ⟨p, 0, none⟩ = some (.slice ao bs.length cap) := by rw [cell_of_block hp]; rfl
  have z0 : w.frozen? ⟨p, 0, none⟩ = false := free_of_block hp
  have HL : Hid (Lies w g ao bs) := hL
  have HP : Hid (w.heap[p]? = some (.cells #[.slice ao bs.length cap, .int .i64 er] 80 (0, 0))) := hp
  clear hL hp
  go_enter Tryd.func94, Tryd.ntmps94
  go_wp2_with fail
  · go_ret
    exact takePost HP.out HL.out (.inl (by simp; omega)) (by omega) (by omega) hg _
  · go_ret
    exact takePost HP.out HL.out (HL.out.map n) (by omega) (by omega) hg _
end Go.Proofs.YtaihofkmcpcjeaaDoor
