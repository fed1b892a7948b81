/- The contracts of wire's Reader: take. -/
import Derived.Test.YtdblfabbmpdoiaaGreatPart8
namespace Go.Proofs.YtdblfabbmpdoiaaGreat
open Go.RowKit
set_option linter.unusedVariables false

/-- Block p is a Reader with the bytes bs left, which lie in block g, and the error er. -/
def Rd (w : World) (p g : Nat) (bs : List UInt8) (er : Int) : Prop :=
  ∃ ao cap, w.heap[p]? = some (.cells #[.slice ao bs.length cap, .int .i64 er] 67 (0, 0)) ∧ bs.length ≤ cap ∧ cap ≤ 9223372036854775807 ∧ Lies w g ao bs ∧ g < w.heap.size

/-- A block of a Reader's two cells holds no bytes. -/
theorem Lies.ne {w : World} {p g : Nat} {bs : List UInt8} {ao bo : Option Addr} {n cap : Nat} {er : Int} (h : Lies w g ao bs) (hp : w.heap[p]? = some (.cells #[.slice bo n cap, .int .i64 er] 67 (0, 0))) (e : bs ≠ []) : p ≠ g := by
  rintro rfl
  rcases h with h | ⟨off, ha, h⟩
  · exact e h
  · have := h 0 (List.length_pos_iff.2 e)
    rw [cell_of_block hp] at this
    match off, this with
    | 0, this => simp at this
    | 1, this => simp at this
    | k + 2, this => simp at this

/-- The Reader with its first field laid anew. -/
theorem Rd.left {w : World} {p g : Nat} {bs cs : List UInt8} {er : Int} {ao bo : Option Addr} {cap c2 : Nat} (hp : w.heap[p]? = some (.cells #[.slice ao bs.length cap, .int .i64 er] 67 (0, 0)))
    (hL : Lies w g bo cs) (h1 : cs.length ≤ c2) (h2 : c2 ≤ 9223372036854775807) (hg : g < w.heap.size) : Rd (w.setCell ⟨p, 0, none⟩ (.slice bo cs.length c2)) p g cs er := by
  refine ⟨bo, c2, ?_, h1, h2, hL.keep fun e => heap_setCell_other _ _ _ _ ?_, by rw [size_setCell]; exact hg⟩
  · rw [heap_setCell_same _ _ _ _ hp]; rfl
  · exact hL.ne hp e

/-- What take leaves. -/
def TakePost (p g n : Nat) (bs : List UInt8) (er : Int) (w : World) (e : Ending) (w' : World) : Prop :=
  ∃ ao cap, e = .returned (.slice ao n cap) ∧ Lies w' g ao (bs.take n) ∧ Rd w' p g (bs.drop n) er ∧ Touch (· = p) w w'

theorem takePost {p g n : Nat} {bs : List UInt8} {er : Int} {w : World} {ao bo : Option Addr} {cap c2 : Nat} (hp : w.heap[p]? = some (.cells #[.slice ao bs.length cap, .int .i64 er] 67 (0, 0)))
    (hL : Lies w g ao bs) (hb : Lies w g bo (bs.drop n)) (h1 : bs.length - n ≤ c2) (h2 : c2 ≤ 9223372036854775807) (hg : g < w.heap.size) (c : Nat) :
    TakePost p g n bs er w (.returned (.slice ao n c)) (w.setCell ⟨p, 0, none⟩ (.slice bo (bs.length - n) c2)) := by
  have e : bs.length - n = (bs.drop n).length := by simp
  rw [e] at h1 ⊢
  exact ⟨ao, c, rfl, (hL.take n).keep fun e => heap_setCell_other _ _ _ _ (fun hh => hL.ne hp (fun e' => e (by simp [e'])) hh), Rd.left hp hb h1 h2 hg, (Touch.refl _ _).setCell _ _ fun _ => rfl⟩

set_option maxHeartbeats 400000 in
theorem take_short (p g n : Nat) (bs : List UInt8) (er : Int) (w : World) (h : Rd w p g bs er) (hn : bs.length < n) (hb : n < 18446744073709551616) (m : Int) (hm : m = n) :
    Calls Tryz.prog 94 #[.pointer (some ⟨p, 0, none⟩), .int .u64 m] w fun e w' => e = .panicked [thrown 10] ∧ w' = w := by
  subst hm
  obtain ⟨ao, cap, hp, hl, hc, hL, hg⟩ := h
  have c0 : w.cell? ⟨p, 0, none⟩ = some (.slice ao bs.length cap) := by rw [cell_of_block hp]; rfl
  have hF := fail_any 10 w (by decide)
  have H : Hid (Calls Tryz.prog 63 #[.int .i64 10] w _) := hF
  clear hF hL hp
  go_enter Tryz.func94, Tryz.ntmps94
  go_wp2_with (go_at_call 63; refine H.out.mono ?_; rintro e w1 ⟨rfl, rfl⟩)
  exact ⟨rfl, rfl, rfl⟩

set_option maxHeartbeats 400000 in
theorem take_ok (p g n : Nat) (bs : List UInt8) (er : Int) (w : World) (h : Rd w p g bs er) (hn : n ≤ bs.length) (m : Int) (hm : m = n) :
    Calls Tryz.prog 94 #[.pointer (some ⟨p, 0, none⟩), .int .u64 m] w (TakePost p g n bs er w) := by
  subst hm
  obtain ⟨ao, cap, hp, hl, hc, hL, hg⟩ := h
  have c0 : w.cell? ⟨p, 0, none⟩ = some (.slice ao bs.length cap) := by rw [cell_of_block hp]; rfl
  have z0 : w.frozen? ⟨p, 0, none⟩ = false := free_of_block hp
  have HL : Hid (Lies w g ao bs) := hL
  have HP : Hid (w.heap[p]? = some (.cells #[.slice ao bs.length cap, .int .i64 er] 67 (0, 0))) := hp
  clear hL hp
  go_enter Tryz.func94, Tryz.ntmps94
  go_wp2_with fail
  · go_ret
    exact takePost HP.out HL.out (.inl (by simp; omega)) (by omega) (by omega) hg _
  · go_ret
    exact takePost HP.out HL.out (HL.out.map n) (by omega) (by omega) hg _
end Go.Proofs.YtdblfabbmpdoiaaGreat
