/- The contracts of wire's NewReader, Left, Err. -/
import Derived.Test.YtdblfabbmpdoiaaGreatWBytes
import Derived.Test.YtdblfabbmpdoiaaGreatTake
import Derived.Test.YtdblfabbmpdoiaaGreatRdU
import Derived.Test.YtdblfabbmpdoiaaGreatPart4
namespace Go.Proofs.YtdblfabbmpdoiaaGreat
open Go.RowKit
set_option linter.unusedVariables false

/-- A new Reader of bytes. -/
def NewPost (bs : List UInt8) (w : World) (e : Ending) (w' : World) : Prop :=
  ∃ p g, e = .returned (.pointer (some ⟨p, 0, none⟩)) ∧ Rd w' p g bs 0 ∧ w.heap.size ≤ p ∧ w.heap.size ≤ g ∧ Touch (fun _ => False) w w'

set_option maxRecDepth 100000 in
set_option maxHeartbeats 400000 in
theorem newReader_any (g : Nat) (ao : Option Addr) (bs : List UInt8) (n cap : Nat) (hn : n = bs.length) (hnone : ao = none → cap = 0) (w : World) (h : Lies w g ao bs) (hl : bs.length ≤ 140737488355328) :
    Calls Tryz.prog 12 #[.slice ao n cap] w (NewPost bs w) := by
  subst hn
  have HC : Hid (Calls Tryz.prog 31 #[.slice ao bs.length cap] w (ClonePost bs w)) := clone_any g ao bs bs.length cap rfl hnone w h hl
  clear h hnone
  go_enter Tryz.func12, Tryz.ntmps12
  go_wp2_with fail
  refine HC.out.mono ?_
  rintro e w1 ⟨v, rfl, hown, hT⟩
  have hlt := hown.lt
  obtain ⟨bo, c2, g2, rfl, hL, hno, h1, h2, h3, h4⟩ := lies_of_owned hown
  have HQ : Hid (NewPost bs w (.returned (.pointer (some ⟨w1.heap.size, 0, none⟩))) (w1.alloc (.cells #[.slice bo bs.length c2, .int .i64 0] 67))) := by
    have hz := hT.size
    by_cases hb : bs = []
    · refine ⟨w1.heap.size, w1.heap.size, rfl, ⟨bo, c2, heap_alloc_new _ _, h1, h2, .inl hb, by simp⟩, hz, hz, hT.alloc _⟩
    · have hg2 := hlt g2 (h4 hb)
      exact ⟨w1.heap.size, g2, rfl, ⟨bo, c2, heap_alloc_new _ _, h1, h2, hL.keep fun _ => Below.heap_alloc _ _ _ hg2.2, by simp; omega⟩, hz, hg2.1, hT.alloc _⟩
  clear hown hT hlt hL hno h1 h2 h3 h4 HC
  go_wp2_with fail
  go_ret
  exact HQ.out

set_option maxHeartbeats 400000 in
theorem left_any (p g : Nat) (bs : List UInt8) (er : Int) (w : World) (h : Rd w p g bs er) :
    Calls Tryz.prog 18 #[.pointer (some ⟨p, 0, none⟩)] w fun e w' => e = .returned (.int .i64 bs.length) ∧ w' = w := by
  obtain ⟨ao, cap, hp, hl, hc, hL, _⟩ := h
  have c0 : w.cell? ⟨p, 0, none⟩ = some (.slice ao bs.length cap) := by rw [cell_of_block hp]; rfl
  clear hL hp
  go_enter Tryz.func18, Tryz.ntmps18
  go_wp2_with fail
  go_ret
  exact ⟨rfl, rfl⟩

set_option maxHeartbeats 400000 in
theorem err_any (p g : Nat) (bs : List UInt8) (er : Int) (w : World) (h : Rd w p g bs er) :
    Calls Tryz.prog 17 #[.pointer (some ⟨p, 0, none⟩)] w fun e w' => e = .returned (.int .i64 er) ∧ w' = w := by
  obtain ⟨ao, cap, hp, hl, hc, hL, _⟩ := h
  have c1 : w.cell? ⟨p, 1, none⟩ = some (.int .i64 er) := by rw [cell_of_block hp]; rfl
  clear hL hp
  go_enter Tryz.func17, Tryz.ntmps17
  go_wp2_with fail
  go_ret
  exact ⟨rfl, rfl⟩
end Go.Proofs.YtdblfabbmpdoiaaGreat

/- A number that is written is read back: as lists. -/
namespace Go.Proofs.YtdblfabbmpdoiaaGreat
open Go.RowKit
set_option linter.unusedVariables false
set_option linter.unusedSimpArgs false

theorem numGo_put (f : Nat) : ∀ (N k acc : Nat) (r : List UInt8), k + f = 9 → N < 2 * 128 ^ f → (k = 0 ∨ 0 < N) → numGo (putGo f N ++ r) k acc = (0, acc + N * 2 ^ (7 * k), r) := by
  induction f with
  | zero =>
    intro N k acc r hk hN h0
    simp at hN
    have hb : (UInt8.ofNat N).toNat = N := by rw [UInt8.toNat_ofNat']; omega
    simp only [putGo, List.singleton_append, numGo, hb]
    rw [if_neg (by omega), if_pos (by omega)]
  | succ f ih =>
    intro N k acc r hk hN h0
    have hp : 128 ^ (f + 1) = 128 ^ f * 128 := Nat.pow_succ _ _
    simp only [putGo]
    by_cases h1 : N < 128
    · rw [if_pos h1]
      have hb : (UInt8.ofNat N).toNat = N := by rw [UInt8.toNat_ofNat']; omega
      simp only [List.singleton_append, numGo, hb]
      rw [if_neg (by omega), if_pos h1]
    · rw [if_neg h1]
      have hb : (UInt8.ofNat (N % 128 + 128)).toNat = N % 128 + 128 := by rw [UInt8.toNat_ofNat']; omega
      simp only [List.cons_append, numGo, hb]
      rw [if_neg (by omega), if_neg (by omega), ih (N / 128) (k + 1) _ r (by omega) (by omega) (by omega), show N % 128 + 128 - 128 = N % 128 from by omega]
      have e : 2 ^ (7 * (k + 1)) = 128 * 2 ^ (7 * k) := by rw [show 7 * (k + 1) = 7 * k + 7 from by omega, Nat.pow_add]; omega
      rw [e]
      generalize 2 ^ (7 * k) = P
      have : N * P = (128 * (N / 128) + N % 128) * P := by rw [Nat.div_add_mod]
      rw [this, Nat.add_mul, Nat.mul_comm 128 (N / 128), Nat.mul_assoc]
      simp only [Prod.mk.injEq, true_and, and_true]
      omega
theorem rdU_put (N most : Nat) (r : List UInt8) (hN : N < 18446744073709551616) (hm : N ≤ most) : rdU (putU N ++ r) most = (0, N, r) := by
  have h := numGo_put 9 N 0 0 r rfl (by have : 2 * 128 ^ 9 = 18446744073709551616 := by decide
                                        omega) (.inl rfl)
  unfold rdU putU
  rw [h]
  simp only [Nat.mul_zero, Nat.pow_zero, Nat.mul_one, Nat.zero_add]
  rw [if_neg (by simp), if_neg (by omega)]
end Go.Proofs.YtdblfabbmpdoiaaGreat
