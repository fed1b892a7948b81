/- The contract of wire's Reader.Int. -/
import Derived.Test.YtaihofkmcpcjeaaDoorPart6
namespace Go.Proofs.YtaihofkmcpcjeaaDoor
open Go.RowKit
set_option linter.unusedVariables false

/-- What Int reads. -/
def rdInt (bs : List UInt8) (er : Int) : Int × Value × List UInt8 := outcome er (rdU bs 18446744073709551615).1 bs (rdU bs 18446744073709551615).2.2 (.int .i64 0) (.int .i64 (zz (rdU bs 18446744073709551615).2.1))

theorem rdU_le (bs : List UInt8) (most : Nat) : (rdU bs most).2.1 ≤ most := by
  unfold rdU; split
  · simp
  · split
    · simp
    · simp; omega

set_option maxRecDepth 100000 in
set_option maxHeartbeats 400000 in
theorem int_in (p g : Nat) (bs : List UInt8) (b0 b2 : Nat) (w : World) (h : Rd w p g bs 0) (hr : w.heap[b0]? = some (.cells #[.pointer (some ⟨p, 0, none⟩)] 48 (0, 0))) (hn : w.heap[b2]? = some (.cells #[.int .i64 0] 2 (0, 0))) (h2 : b2 ≠ p) (hg : b2 ≠ g) :
    Calls Tryd.prog 95 #[.pointer (some ⟨b0, 0, none⟩), .pointer (some ⟨b2, 0, none⟩)] w (InPost p g b2 2 (rdU bs 18446744073709551615).1 (.int .i64 0) (.int .i64 (zz (rdU bs 18446744073709551615).2.1)) (rdU bs 18446744073709551615).2.2 w) := by
  have c0 : w.cell? ⟨b0, 0, none⟩ = some (.pointer (some ⟨p, 0, none⟩)) := by rw [cell_of_block hr]; rfl
  have HB : Hid (w.heap[b2]? = some (.cells #[.int .i64 0] 2 (0, 0))) := hn
  have hb2 : b2 < w.heap.size := lt_of_heap hn
  have HN : Hid (Calls Tryd.prog 96 #[.pointer (some ⟨p, 0, none⟩), .int .u64 18446744073709551615] w (NumPost p g bs 0 18446744073709551615 w)) := number_any p g bs 0 18446744073709551615 w h (by omega)
  generalize hr0 : rdU bs 18446744073709551615 = r0
  have HR0 : Hid (rdU bs 18446744073709551615 = r0) := hr0
  have hV : r0.2.1 ≤ 18446744073709551615 := by rw [← hr0]; exact rdU_le _ _
  clear hr hn hr0
  obtain ⟨x0, V, cs0⟩ := r0
  simp only at hV
  go_enter Tryd.func95, Tryd.ntmps95
  go_wp2_with fail
  refine HN.out.mono ?_
  intro e w1 hP
  obtain ⟨hT, hP⟩ := hP.ways
  rw [HR0.out] at hP
  have hb : w1.heap[b2]? = some (.cells #[.int .i64 0] 2 (0, 0)) := (hT.block b2 hb2 h2).trans HB.out
  have c2 : w1.cell? ⟨b2, 0, none⟩ = some (.int .i64 0) := by rw [cell_of_block hb]; rfl
  have z2 : w1.frozen? ⟨b2, 0, none⟩ = false := free_of_block hb
  rcases hP with ⟨h0, rfl, hR⟩ | ⟨h0, rfl, h1, hR⟩
  · have HZ : Hid (bits .xor .i64 ((V : Int) / 2) (wrap64 (-wrap64 (bits .and .u64 (V : Int) 1))) = zz V) := zz_eq V hV
    have HQ : Hid (InPost p g b2 2 x0 (.int .i64 0) (.int .i64 (zz V)) cs0 w (.returned (.tuple #[])) (w1.setCell ⟨b2, 0, none⟩ (.int .i64 (zz V)))) :=
      .inl ⟨h0, rfl, hR.keep (S := (· = b2)) ((Touch.refl _ _).setCell _ _ fun _ => rfl) (Ne.symm h2) (fun _ => Ne.symm hg), (hT.mono fun _ _ h => .inl h).setCell _ _ fun _ => .inr rfl, by rw [heap_setCell_same _ _ _ _ hb]; rfl⟩
    clear hP hR hb hT HN HB h0
    go_wp2_with fail
    rw [HZ.out]
    go_end0
    exact HQ.out
  · have HQ : Hid (InPost p g b2 2 x0 (.int .i64 0) (.int .i64 (zz V)) cs0 w (.panicked [thrown x0]) w1) := .inr ⟨h0, rfl, hR, hT.mono fun _ _ h => .inl h, hb⟩
    clear h0 h1 hR hb hT HN HB
    go_wp2_with fail
    exact ⟨rfl, HQ.out⟩

theorem int_enters (cap : Array Value) (w : World) : (callFunc 95 cap).run Tryd.prog w = .ok (.enter 95 cap) w := by kernel_rfl

set_option maxRecDepth 100000 in
set_option maxHeartbeats 400000 in
theorem int_any (p g : Nat) (bs : List UInt8) (er : Int) (w : World) (h : Rd w p g bs er) :
    Calls Tryd.prog 82 #[.pointer (some ⟨p, 0, none⟩)] w (OutPost p g (rdInt bs er) w) := by
  have hmf : ∀ (fn : Fn) (first cap : Array Value) (w : World), (Instr.makeFunc fn first cap).run Tryd.prog w = .ok (.func fn first cap) w := fun _ _ _ _ => rfl
  have hp := h.lt
  have hgl := h.ltBytes
  obtain ⟨hr, hn⟩ := heap_alloc1 w (.cells #[.pointer (some ⟨p, 0, none⟩)] 48) (.cells #[.int .i64 0] 2)
  have HM : Hid (Calls Tryd.prog 92 #[.pointer (some ⟨p, 0, none⟩), .func (.func 95) #[] #[.pointer (some ⟨w.heap.size, 0, none⟩), .pointer (some ⟨w.heap.size + 1, 0, none⟩)]]
      ((w.alloc (.cells #[.pointer (some ⟨p, 0, none⟩)] 48)).alloc (.cells #[.int .i64 0] 2)) (MidPost p g (w.heap.size + 1) 2 (rdInt bs er) _)) :=
    mid_any p g (w.heap.size + 1) 2 er _ bs _ _ _ _ _ _ ((h.alloc _).alloc _) (int_enters _) hn (by omega) (by omega) (fun e => by
      subst e
      exact int_in p g bs _ _ _ (((h.alloc _).alloc _).alloc _) (heap_alloc_old hr _) (heap_alloc_old hn _) (by omega) (by omega))
  have HW : Hid (Touch (· = p) w ((w.alloc (.cells #[.pointer (some ⟨p, 0, none⟩)] 48)).alloc (.cells #[.int .i64 0] 2))) := ((Touch.refl _ w).alloc _).alloc _
  clear hr hn
  go_enter Tryd.func82, Tryd.ntmps82
  go_wp2_with fail
  refine HM.out.mono ?_
  intro e w1 hM
  obtain ⟨n, en⟩ : ∃ n : Int, (rdInt bs er).2.1 = .int .i64 n := outcome_val (fun v => ∃ n : Int, v = .int .i64 n) ⟨_, rfl⟩ ⟨_, rfl⟩
  obtain ⟨c2, z2, s2⟩ := hM.box
  have hQ := hM.out HW.out hp hgl (by omega)
  rw [en] at c2 hQ
  have HQ : Hid (OutPost p g (rdInt bs er) w (.returned (.int .i64 n)) (w1.setCell ⟨w.heap.size + 1, 0, none⟩ (.int .i64 n))) := hQ
  obtain ⟨rfl, _⟩ := hM
  clear HM HW hQ en
  go_wp2_with fail
  exact bodyPost_ret (v := .int .i64 n) (by simp [results, Tryd.results82, go_sem, World.cell?_setCell_same _ _ _ c2]) rfl HQ.out
end Go.Proofs.YtaihofkmcpcjeaaDoor
