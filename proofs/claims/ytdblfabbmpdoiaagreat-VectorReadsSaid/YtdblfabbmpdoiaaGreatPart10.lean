/- The contracts of slices.Clone at bytes, wire's Writer.Bytes. -/
import Derived.Test.YtdblfabbmpdoiaaGreatWriter
import Derived.Test.YtdblfabbmpdoiaaGreatPart8
import Derived.Test.YtdblfabbmpdoiaaGreatTake
import Derived.Test.YtdblfabbmpdoiaaGreatPart9
import Derived.Test.YtdblfabbmpdoiaaGreatPart6
namespace Go.Proofs.YtdblfabbmpdoiaaGreat
open Go.RowKit
set_option linter.unusedVariables false

theorem Lies.cells {w : World} {g : Nat} {a : Addr} {bs : List UInt8} (h : Lies w g (some a) bs) : ∀ j u, (cellsOf bs)[j]? = some u → w.cell? (a.add j) = some u := by
  intro j u hj
  have hj' : j < bs.length := by
    have := (List.getElem?_eq_some_iff.1 hj).1
    rwa [cellsOf_length] at this
  rcases h with rfl | ⟨off, e, h⟩
  · simp at hj'
  · cases e
    have e2 : (⟨g, off, none⟩ : Addr).add j = ⟨g, off + j, none⟩ := by unfold Addr.add; split <;> simp_all
    rw [e2, h j hj']
    simp [cellsOf, List.getElem?_eq_getElem hj'] at hj
    rw [← hj]

/-- A copy of bytes. -/
def ClonePost (bs : List UInt8) (w : World) (e : Ending) (w' : World) : Prop :=
  ∃ v, e = .returned v ∧ w'.ownsRow w.heap.size 5 1 v bs.length (cellsOf bs) ∧ Touch (fun _ => False) w w'

set_option maxRecDepth 100000 in
set_option maxHeartbeats 400000 in
theorem clone_any (g : Nat) (ao : Option Addr) (bs : List UInt8) (n cap : Nat) (hn : n = bs.length) (hnone : ao = none → cap = 0) (w : World) (h : Lies w g ao bs) (hl : bs.length ≤ 140737488355328) :
    Calls Tryz.prog 31 #[.slice ao n cap] w (ClonePost bs w) := by
  subst hn
  have heq := Lib.run_eql_slice_nil (P := Tryz.prog)
  obtain ⟨i0, hi, hz0, hz1, hz2⟩ := info_parts Tryz.infoByte
  cases ao with
  | none =>
    have hbs : bs = [] := by
      rcases h with h | ⟨off, e, _⟩
      · exact h
      · cases e
    subst hbs
    have HQ : Hid (ClonePost [] w (.returned (.slice none 0 0)) w) := ⟨_, rfl, World.ownsRow_nil _ _ _ _, Touch.refl _ _⟩
    go_enter Tryz.func31, Tryz.ntmps31
    go_wp2_with fail
    go_ret
    exact HQ.out
  | some a =>
    have hsrc : ∀ j u, (cellsOf bs)[j]? = some u → (w.alloc (.cells #[] 5)).cell? (a.add j) = some u := by
      intro j u hj
      have := h.cells j u hj
      rw [World.cell?_alloc_lt _ _ _ (World.block_lt_of_cell? _ _ this)]; exact this
    have hown : (w.alloc (.cells #[] 5)).ownsRow w.heap.size 5 1 (.slice (some ⟨w.heap.size, 0, none⟩) 0 0) 0 [] :=
      ⟨rfl, .inr ⟨w.heap.size, 0, #[], rfl, Nat.le_refl _, heap_alloc_new _ _, Nat.le_refl _, Nat.zero_le _, rfl, rfl⟩⟩
    have HS : Hid (∀ j u, (cellsOf bs)[j]? = some u → (w.alloc (.cells #[] 5)).cell? (a.add j) = some u) := hsrc
    clear hsrc h
    go_enter Tryz.func31, Tryz.ntmps31
    go_wp2_with (first | (at_builtin; refine wpList_append_own _ rfl _ _ 23 rfl w.heap.size 5 i0 (.int .u8 0) 1 1 Tryz.underlying23 hi hz0 hz1 hz2 rfl (by decide) _ _ _ rfl hown a bs.length cap (cellsOf bs) rfl ?c0 ?c1 ?c2 ?c3 ?c4 ?c5 ?_))
    case c0 => rw [cellsOf_length]; omega
    case c1 => exact HS.out
    case c2 => exact cellsOf_one bs
    case c3 => unfold maxLen; omega
    case c4 => omega
    case c5 => simp
    intro v' w1 hown' hgrow _
    try simp only [Nat.zero_add, List.nil_append] at hown'
    have HQ : Hid (ClonePost bs w (.returned v') w1) := ⟨_, rfl, hown', ((Touch.refl _ w).alloc _).grown hgrow (fun i e hi => by simp [Value.ownBlock] at e; omega)⟩
    obtain ⟨ao, n', cap', rfl⟩ : ∃ ao n cap, v' = .slice ao n cap := by
      rcases hown'.2 with ⟨e, _⟩ | ⟨g, cap, cur, e, _⟩
      · exact ⟨_, _, _, e⟩
      · exact ⟨_, _, _, e⟩
    clear hown' hgrow hown
    go_wp2_with fail
    go_ret
    exact HQ.out

/-- What is owned lies. -/
theorem lies_of_owned {w : World} {base : Nat} {v : Value} {bs : List UInt8} (h : w.ownsRow base 5 1 v bs.length (cellsOf bs)) :
    ∃ ao cap g, v = .slice ao bs.length cap ∧ Lies w g ao bs ∧ (ao = none → cap = 0) ∧ bs.length ≤ cap ∧ cap ≤ 9223372036854775807 ∧ (∀ k, v.ownBlock = some k → k = g) ∧ (bs ≠ [] → v.ownBlock = some g) := by
  rcases h.2 with ⟨e, hn⟩ | ⟨g, cap, cur, e, hb, hg, h1, h2, h3, h4⟩
  · have hbs : bs = [] := List.eq_nil_of_length_eq_zero hn
    subst hbs
    exact ⟨none, 0, 0, e, .inl rfl, fun _ => rfl, Nat.le_refl _, by omega, fun k hk => by rw [e] at hk; simp [Value.ownBlock] at hk, fun h => absurd rfl h⟩
  · refine ⟨_, cap, g, e, .inr ⟨0, rfl, fun j hj => ?_⟩, (by intro h; cases h), h1, h2, fun k hk => by rw [e] at hk; simp [Value.ownBlock] at hk; exact hk.symm, fun _ => by rw [e]; rfl⟩
    rw [cell_of_block hg]
    have h5 : (cellsOf bs)[j]? = some (.int .u8 bs[j].toNat) := by simp [cellsOf, List.getElem?_eq_getElem hj]
    rw [← h4, List.getElem?_take] at h5
    rw [if_pos (by omega)] at h5
    rw [Nat.zero_add, ← h5, Array.getElem?_toList]

set_option maxRecDepth 100000 in
set_option maxHeartbeats 400000 in
theorem wbytes_any (p : Nat) (bs : List UInt8) (w : World) (h : Wr w p bs) (hl : bs.length ≤ 140737488355328) :
    Calls Tryz.prog 9 #[.pointer (some ⟨p, 0, none⟩)] w (ClonePost bs w) := by
  obtain ⟨v, hp, hown⟩ := h
  obtain ⟨ao, cap, g, rfl, hL, hnone, h1, h2, _⟩ := lies_of_owned hown
  have c0 : w.cell? ⟨p, 0, none⟩ = some (.slice ao bs.length cap) := by rw [cell_of_block hp]; rfl
  have HC : Hid (Calls Tryz.prog 31 #[.slice ao bs.length cap] w (ClonePost bs w)) := clone_any g ao bs bs.length cap rfl hnone w hL hl
  clear hp hown hL hnone
  go_enter Tryz.func9, Tryz.ntmps9
  go_wp2_with fail
  refine HC.out.mono ?_
  intro e w1 hP
  have HQ : Hid (ClonePost bs w e w1) := hP
  obtain ⟨v', rfl, _⟩ := hP
  go_wp2_with fail
  go_ret
  exact HQ.out
end Go.Proofs.YtdblfabbmpdoiaaGreat

/- The contracts of wire's NewReader, Left, Err. -/
namespace Go.Proofs.YtdblfabbmpdoiaaGreat
open Go.RowKit
set_option linter.unusedVariables false

/-- A new Reader of bytes. -/
def NewPost (bs : List UInt8) (w : World) (e : Ending) (w' : World) : Prop :=
  ∃ p g, e = .returned (.pointer (some ⟨p, 0, none⟩)) ∧ Rd w' p g bs 0 ∧ w.heap.size ≤ p ∧ w.heap.size ≤ g ∧ Touch (fun _ => False) w w'

set_option maxRecDepth 100000 in
set_option maxHeartbeats 400000 in
theorem newReader_any (g : Nat) (ao : Option Addr) (bs : List UInt8) (n cap : Nat) (hn : n = bs.length) (hnone : ao = none → cap = 0) (w : World) (h : Lies w g ao bs) (hl : bs.length ≤ 140737488355328) :
    Calls Tryz.prog 12 #[.slice ao n cap] w (NewPost bs w) := by
  subst hn
  have HC : Hid (Calls Tryz.prog 31 #[.slice ao bs.length cap] w (ClonePost bs w)) := clone_any g ao bs bs.length cap rfl hnone w h hl
  clear h hnone
  go_enter Tryz.func12, Tryz.ntmps12
  go_wp2_with fail
  refine HC.out.mono ?_
  rintro e w1 ⟨v, rfl, hown, hT⟩
  have hlt := hown.lt
  obtain ⟨bo, c2, g2, rfl, hL, hno, h1, h2, h3, h4⟩ := lies_of_owned hown
  have HQ : Hid (NewPost bs w (.returned (.pointer (some ⟨w1.heap.size, 0, none⟩))) (w1.alloc (.cells #[.slice bo bs.length c2, .int .i64 0] 67))) := by
    have hz := hT.size
    by_cases hb : bs = []
    · refine ⟨w1.heap.size, w1.heap.size, rfl, ⟨bo, c2, heap_alloc_new _ _, h1, h2, .inl hb, by simp⟩, hz, hz, hT.alloc _⟩
    · have hg2 := hlt g2 (h4 hb)
      exact ⟨w1.heap.size, g2, rfl, ⟨bo, c2, heap_alloc_new _ _, h1, h2, hL.keep fun _ => Below.heap_alloc _ _ _ hg2.2, by simp; omega⟩, hz, hg2.1, hT.alloc _⟩
  clear hown hT hlt hL hno h1 h2 h3 h4 HC
  go_wp2_with fail
  go_ret
  exact HQ.out

set_option maxHeartbeats 400000 in
theorem left_any (p g : Nat) (bs : List UInt8) (er : Int) (w : World) (h : Rd w p g bs er) :
    Calls Tryz.prog 18 #[.pointer (some ⟨p, 0, none⟩)] w fun e w' => e = .returned (.int .i64 bs.length) ∧ w' = w := by
  obtain ⟨ao, cap, hp, hl, hc, hL, _⟩ := h
  have c0 : w.cell? ⟨p, 0, none⟩ = some (.slice ao bs.length cap) := by rw [cell_of_block hp]; rfl
  clear hL hp
  go_enter Tryz.func18, Tryz.ntmps18
  go_wp2_with fail
  go_ret
  exact ⟨rfl, rfl⟩

set_option maxHeartbeats 400000 in
theorem err_any (p g : Nat) (bs : List UInt8) (er : Int) (w : World) (h : Rd w p g bs er) :
    Calls Tryz.prog 17 #[.pointer (some ⟨p, 0, none⟩)] w fun e w' => e = .returned (.int .i64 er) ∧ w' = w := by
  obtain ⟨ao, cap, hp, hl, hc, hL, _⟩ := h
  have c1 : w.cell? ⟨p, 1, none⟩ = some (.int .i64 er) := by rw [cell_of_block hp]; rfl
  clear hL hp
  go_enter Tryz.func17, Tryz.ntmps17
  go_wp2_with fail
  go_ret
  exact ⟨rfl, rfl⟩
end Go.Proofs.YtdblfabbmpdoiaaGreat

/- A number that is written is read back: as lists. -/
namespace Go.Proofs.YtdblfabbmpdoiaaGreat
open Go.RowKit
set_option linter.unusedVariables false
set_option linter.unusedSimpArgs false

theorem numGo_put (f : Nat) : ∀ (N k acc : Nat) (r : List UInt8), k + f = 9 → N < 2 * 128 ^ f → (k = 0 ∨ 0 < N) → numGo (putGo f N ++ r) k acc = (0, acc + N * 2 ^ (7 * k), r) := by
  induction f with
  | zero =>
    intro N k acc r hk hN h0
    simp at hN
    have hb : (UInt8.ofNat N).toNat = N := by rw [UInt8.toNat_ofNat']; omega
    simp only [putGo, List.singleton_append, numGo, hb]
    rw [if_neg (by omega), if_pos (by omega)]
  | succ f ih =>
    intro N k acc r hk hN h0
    have hp : 128 ^ (f + 1) = 128 ^ f * 128 := Nat.pow_succ _ _
    simp only [putGo]
    by_cases h1 : N < 128
    · rw [if_pos h1]
      have hb : (UInt8.ofNat N).toNat = N := by rw [UInt8.toNat_ofNat']; omega
      simp only [List.singleton_append, numGo, hb]
      rw [if_neg (by omega), if_pos h1]
    · rw [if_neg h1]
      have hb : (UInt8.ofNat (N % 128 + 128)).toNat = N % 128 + 128 := by rw [UInt8.toNat_ofNat']; omega
      simp only [List.cons_append, numGo, hb]
      rw [if_neg (by omega), if_neg (by omega), ih (N / 128) (k + 1) _ r (by omega) (by omega) (by omega), show N % 128 + 128 - 128 = N % 128 from by omega]
      have e : 2 ^ (7 * (k + 1)) = 128 * 2 ^ (7 * k) := by rw [show 7 * (k + 1) = 7 * k + 7 from by omega, Nat.pow_add]; omega
      rw [e]
      generalize 2 ^ (7 * k) = P
      have : N * P = (128 * (N / 128) + N % 128) * P := by rw [Nat.div_add_mod]
      rw [this, Nat.add_mul, Nat.mul_comm 128 (N / 128), Nat.mul_assoc]
      simp only [Prod.mk.injEq, true_and, and_true]
      omega
theorem rdU_put (N most : Nat) (r : List UInt8) (hN : N < 18446744073709551616) (hm : N ≤ most) : rdU (putU N ++ r) most = (0, N, r) := by
  have h := numGo_put 9 N 0 0 r rfl (by have : 2 * 128 ^ 9 = 18446744073709551616 := by decide
                                        omega) (.inl rfl)
  unfold rdU putU
  rw [h]
  simp only [Nat.mul_zero, Nat.pow_zero, Nat.mul_one, Nat.zero_add]
  rw [if_neg (by simp), if_neg (by omega)]
end Go.Proofs.YtdblfabbmpdoiaaGreat
