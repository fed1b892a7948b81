/- What a number's reading gives. -/
import Derived.Test.YtdblfabbmpdoiaaGreatRead
namespace Go.Proofs.YtdblfabbmpdoiaaGreat
open Go.RowKit
set_option linter.unusedVariables false

/-- A number of at most most: the error, the number, what is left. -/
def rdU (bs : List UInt8) (most : Nat) : Int × Nat × List UInt8 :=
  if (numGo bs 0 0).1 ≠ 0 then ((numGo bs 0 0).1, 0, bs) else if most < (numGo bs 0 0).2.1 then (12, 0, bs) else (0, (numGo bs 0 0).2.1, (numGo bs 0 0).2.2)

theorem numGo_err : ∀ (bs : List UInt8) (k n : Nat), (numGo bs k n).1 = 0 ∨ (numGo bs k n).1 = 10 ∨ (numGo bs k n).1 = 11
  | [], _, _ => by simp [numGo]
  | b :: r, k, n => by
    rw [numGo]
    split
    · simp
    · split
      · simp
      · exact numGo_err r _ _

/-- What number leaves, by rdU. -/
theorem NumPost.ways {p g : Nat} {bs : List UInt8} {er : Int} {most : Nat} {w w' : World} {e : Ending} (h : NumPost p g bs er most w e w') :
    Touch (· = p) w w' ∧ (((rdU bs most).1 = 0 ∧ e = .returned (.int .u64 (rdU bs most).2.1) ∧ Rd w' p g (rdU bs most).2.2 er) ∨ ((rdU bs most).1 ≠ 0 ∧ e = .panicked [thrown (rdU bs most).1] ∧ (rdU bs most).2 = (0, bs) ∧ ∃ cs, Rd w' p g cs er)) := by
  obtain ⟨hT, cs, hR, h⟩ := h
  refine ⟨hT, ?_⟩
  rcases h with ⟨h0, h1, he, hc⟩ | ⟨h0, h1, he⟩ | ⟨h0, he⟩
  · left
    have e1 : rdU bs most = (0, (numGo bs 0 0).2.1, (numGo bs 0 0).2.2) := by rw [rdU, if_neg (by simpa using h0), if_neg (by omega)]
    rw [e1]; exact ⟨rfl, he, hc ▸ hR⟩
  · right
    have e1 : rdU bs most = (12, 0, bs) := by rw [rdU, if_neg (by simpa using h0), if_pos h1]
    rw [e1]; exact ⟨by simp, he, rfl, cs, hR⟩
  · right
    have e1 : rdU bs most = ((numGo bs 0 0).1, 0, bs) := by rw [rdU, if_pos h0]
    rw [e1]; exact ⟨h0, he, rfl, cs, hR⟩
theorem Rd.alloc {w : World} {p g : Nat} {bs : List UInt8} {er : Int} (h : Rd w p g bs er) (o : Obj) : Rd (w.alloc o) p g bs er :=
  h.keep (S := fun _ => False) ((Touch.refl _ _).alloc o) id (fun _ => id)
end Go.Proofs.YtdblfabbmpdoiaaGreat

/- The contract of wire's Reader.Uint. -/
namespace Go.Proofs.YtdblfabbmpdoiaaGreat
open Go.RowKit
set_option linter.unusedVariables false

/-- The closure's own cells. -/
structure UintBoxes (w : World) (p b0 b1 b2 most : Nat) (n : Int) : Prop where
  r : w.heap[b0]? = some (.cells #[.pointer (some ⟨p, 0, none⟩)] 34 (0, 0))
  m : w.heap[b1]? = some (.cells #[.int .u64 most] 48 (0, 0))
  n : w.heap[b2]? = some (.cells #[.int .u64 n] 48 (0, 0))

def UintInPost (p g : Nat) (bs : List UInt8) (b2 most : Nat) (w : World) (e : Ending) (w' : World) : Prop :=
  ((rdU bs most).1 = 0 ∧ e = .returned (.tuple #[]) ∧ Rd w' p g (rdU bs most).2.2 0 ∧ Touch (fun k => k = p ∨ k = b2) w w' ∧ w'.heap[b2]? = some (.cells #[.int .u64 (rdU bs most).2.1] 48 (0, 0))) ∨
  ((rdU bs most).1 ≠ 0 ∧ (rdU bs most).2 = (0, bs) ∧ e = .panicked [thrown (rdU bs most).1] ∧ (∃ cs, Rd w' p g cs 0) ∧ Touch (fun k => k = p ∨ k = b2) w w' ∧ w'.heap[b2]? = some (.cells #[.int .u64 0] 48 (0, 0)))

set_option maxRecDepth 100000 in
set_option maxHeartbeats 400000 in
theorem uint_in (p g : Nat) (bs : List UInt8) (b0 b1 b2 most : Nat) (w : World) (h : Rd w p g bs 0) (hm : most < 18446744073709551616) (hB : UintBoxes w p b0 b1 b2 most 0) (h2 : b2 ≠ p) (hg : b2 ≠ g) :
    Calls Tryz.prog 78 #[.pointer (some ⟨b0, 0, none⟩), .pointer (some ⟨b1, 0, none⟩), .pointer (some ⟨b2, 0, none⟩)] w (UintInPost p g bs b2 most w) := by
  have c0 : w.cell? ⟨b0, 0, none⟩ = some (.pointer (some ⟨p, 0, none⟩)) := by rw [cell_of_block hB.r]; rfl
  have c1 : w.cell? ⟨b1, 0, none⟩ = some (.int .u64 most) := by rw [cell_of_block hB.m]; rfl
  have HN : Hid (Calls Tryz.prog 79 #[.pointer (some ⟨p, 0, none⟩), .int .u64 most] w (NumPost p g bs 0 most w)) := number_any p g bs 0 most w h hm
  have hn := hB.n
  have HB : Hid (w.heap[b2]? = some (.cells #[.int .u64 0] 48 (0, 0))) := hn
  have hb2 : b2 < w.heap.size := lt_of_heap hn
  clear hB hn
  go_enter Tryz.func78, Tryz.ntmps78
  go_wp2_with fail
  refine HN.out.mono ?_
  intro e w1 hP
  obtain ⟨hT, hP⟩ := hP.ways
  have hb : w1.heap[b2]? = some (.cells #[.int .u64 0] 48 (0, 0)) := (hT.block b2 hb2 h2).trans HB.out
  have c2 : w1.cell? ⟨b2, 0, none⟩ = some (.int .u64 0) := by rw [cell_of_block hb]; rfl
  have z2 : w1.frozen? ⟨b2, 0, none⟩ = false := free_of_block hb
  rcases hP with ⟨h0, rfl, hR⟩ | ⟨h0, rfl, h1, hR⟩
  · have HQ : Hid (UintInPost p g bs b2 most w (.returned (.tuple #[])) (w1.setCell ⟨b2, 0, none⟩ (.int .u64 (rdU bs most).2.1))) :=
      .inl ⟨h0, rfl, hR.keep (S := (· = b2)) ((Touch.refl _ _).setCell _ _ fun _ => rfl) (Ne.symm h2) (fun _ => Ne.symm hg), (hT.mono fun _ _ h => .inl h).setCell _ _ fun _ => .inr rfl, by rw [heap_setCell_same _ _ _ _ hb]; rfl⟩
    clear h0 hR hP hb hT HN HB
    go_wp2_with fail
    go_end0
    exact HQ.out
  · have HQ : Hid (UintInPost p g bs b2 most w (.panicked [thrown (rdU bs most).1]) w1) :=
      .inr ⟨h0, h1, rfl, hR, hT.mono fun _ _ h => .inl h, hb⟩
    clear h0 h1 hR hP hb hT HN HB
    go_wp2_with fail
    exact ⟨rfl, HQ.out⟩

/-- What a Reader's Uint reads: the error, the number, what is left. -/
def rdUint (bs : List UInt8) (er : Int) (most : Nat) : Int × Nat × List UInt8 := if er ≠ 0 then (er, 0, bs) else rdU bs most

def UintPost (p g : Nat) (bs : List UInt8) (er : Int) (most : Nat) (w : World) (e : Ending) (w' : World) : Prop :=
  e = .returned (.int .u64 (rdUint bs er most).2.1) ∧ Rd w' p g (rdUint bs er most).2.2 (rdUint bs er most).1 ∧ Touch (· = p) w w'

theorem uint_enters (cap : Array Value) (w : World) : (callFunc 78 cap).run Tryz.prog w = .ok (.enter 78 cap) w := by kernel_rfl

theorem UintBoxes.alloc {w : World} {p b0 b1 b2 most : Nat} {n : Int} (h : UintBoxes w p b0 b1 b2 most n) (o : Obj) : UintBoxes (w.alloc o) p b0 b1 b2 most n :=
  ⟨(Below.heap_alloc _ _ _ (lt_of_heap h.r)).trans h.r, (Below.heap_alloc _ _ _ (lt_of_heap h.m)).trans h.m, (Below.heap_alloc _ _ _ (lt_of_heap h.n)).trans h.n⟩

def UintMidPost (p g : Nat) (bs : List UInt8) (er : Int) (b2 most : Nat) (w : World) (e : Ending) (w' : World) : Prop :=
  e = .returned (.tuple #[]) ∧ Rd w' p g (rdUint bs er most).2.2 (rdUint bs er most).1 ∧ Touch (fun k => k = p ∨ k = b2) w w' ∧ w'.heap[b2]? = some (.cells #[.int .u64 (rdUint bs er most).2.1] 48 (0, 0))

theorem uint_mid (p g : Nat) (bs : List UInt8) (er : Int) (b0 b1 b2 most : Nat) (w : World) (h : Rd w p g bs er) (hm : most < 18446744073709551616) (hB : UintBoxes w p b0 b1 b2 most 0) (h2 : b2 ≠ p) (hg : b2 ≠ g) :
    Calls Tryz.prog 77 #[.pointer (some ⟨p, 0, none⟩), .func (.func 78) #[] #[.pointer (some ⟨b0, 0, none⟩), .pointer (some ⟨b1, 0, none⟩), .pointer (some ⟨b2, 0, none⟩)]] w (UintMidPost p g bs er b2 most w) := by
  have hb2 := lt_of_heap hB.n
  by_cases he : er = 0
  · subst he
    have er0 : rdUint bs 0 most = rdU bs most := by simp [rdUint]
    have hin := uint_in p g bs b0 b1 b2 most _ (h.alloc (.cells #[.int .i64 0] 39)) hm (hB.alloc _) h2 hg
    by_cases h0 : (rdU bs most).1 = 0
    · refine (read_ok p g bs (rdU bs most).2.2 _ _ w (· = b2) (fun w' => w'.heap[b2]? = some (.cells #[.int .u64 (rdU bs most).2.1] 48 (0, 0))) h (uint_enters _) (fun k e => by omega) ?_ ?_).mono ?_
      · intro w2 w3 hs ht hG
        exact (ht.block b2 (by omega) (by omega)).trans hG
      · refine hin.mono ?_
        intro e w2 hP
        rcases hP with ⟨_, he, hR, hT, hb⟩ | ⟨hx, _⟩
        · exact ⟨he, hR, hT, hb⟩
        · exact absurd h0 hx
      · rintro e w' ⟨he, hR, hT, hb⟩
        exact ⟨he, by rw [er0, h0]; exact hR, hT, by rw [er0]; exact hb⟩
    · refine (read_fail p g bs (rdU bs most).1 (by simpa using h0) _ _ w (· = b2) (fun w' => w'.heap[b2]? = some (.cells #[.int .u64 0] 48 (0, 0))) h (uint_enters _) (fun k e => by omega) (fun _ => Ne.symm hg) ?_ ?_).mono ?_
      · intro w2 w3 hs ht hG
        exact (ht.block b2 (by omega) (by omega)).trans hG
      · refine hin.mono ?_
        intro e w2 hP
        rcases hP with ⟨hx, _⟩ | ⟨_, _, he, hR, hT, hb⟩
        · exact absurd hx h0
        · exact ⟨he, hR, hT, hb⟩
      · rintro e w' ⟨he, hR, hT, hb⟩
        have e2 : (rdU bs most).2 = (0, bs) := by
          unfold rdU at h0 ⊢; split
          · rfl
          · split
            · rfl
            · rename_i h1 h2; rw [if_neg h1, if_neg h2] at h0; exact absurd rfl h0
        exact ⟨he, by rw [er0, e2]; exact hR, hT, by rw [er0, e2]; exact hb⟩
  · have er1 : rdUint bs er most = (er, 0, bs) := by simp [rdUint, he]
    refine (read_ended p g bs er _ w h (by simpa using he)).mono ?_
    rintro e w' ⟨rfl, rfl⟩
    exact ⟨rfl, by rw [er1]; exact h, Touch.refl _ _, by rw [er1]; exact hB.n⟩

set_option maxRecDepth 100000 in
set_option maxHeartbeats 400000 in
theorem uint_any (p g : Nat) (bs : List UInt8) (er : Int) (most : Nat) (w : World) (h : Rd w p g bs er) (hm : most < 18446744073709551616) :
    Calls Tryz.prog 62 #[.pointer (some ⟨p, 0, none⟩), .int .u64 most] w (UintPost p g bs er most w) := by
  have hmf : ∀ (fn : Fn) (first cap : Array Value) (w : World), (Instr.makeFunc fn first cap).run Tryz.prog w = .ok (.func fn first cap) w := fun _ _ _ _ => rfl
  have hp := h.lt
  have hgl := h.ltBytes
  have hB : UintBoxes (((w.alloc (.cells #[.pointer (some ⟨p, 0, none⟩)] 34)).alloc (.cells #[.int .u64 most] 48)).alloc (.cells #[.int .u64 0] 48)) p w.heap.size (w.heap.size + 1) (w.heap.size + 1 + 1) most 0 := by
    refine ⟨?_, ?_, ?_⟩
    · rw [Below.heap_alloc _ _ _ (by simp; omega), Below.heap_alloc _ _ _ (by simp)]; exact heap_alloc_new _ _
    · rw [Below.heap_alloc _ _ _ (by simp)]
      have := heap_alloc_new (w.alloc (.cells #[.pointer (some ⟨p, 0, none⟩)] 34)) (.cells #[.int .u64 most] 48)
      simpa using this
    · have := heap_alloc_new ((w.alloc (.cells #[.pointer (some ⟨p, 0, none⟩)] 34)).alloc (.cells #[.int .u64 most] 48)) (.cells #[.int .u64 0] 48)
      simpa using this
  have HM : Hid (Calls Tryz.prog 77 #[.pointer (some ⟨p, 0, none⟩), .func (.func 78) #[] #[.pointer (some ⟨w.heap.size, 0, none⟩), .pointer (some ⟨w.heap.size + 1, 0, none⟩), .pointer (some ⟨w.heap.size + 1 + 1, 0, none⟩)]]
      (((w.alloc (.cells #[.pointer (some ⟨p, 0, none⟩)] 34)).alloc (.cells #[.int .u64 most] 48)).alloc (.cells #[.int .u64 0] 48)) _) :=
    uint_mid p g bs er _ _ _ most _ (((h.alloc _).alloc _).alloc _) hm hB (by omega) (by omega)
  clear hB
  go_enter Tryz.func62, Tryz.ntmps62
  go_wp2_with fail
  refine HM.out.mono ?_
  rintro e w1 ⟨rfl, hR, hT, hb⟩
  have c2 : w1.cell? ⟨w.heap.size + 1 + 1, 0, none⟩ = some (.int .u64 (rdUint bs er most).2.1) := by rw [cell_of_block hb]; rfl
  have z2 : w1.frozen? ⟨w.heap.size + 1 + 1, 0, none⟩ = false := free_of_block hb
  have HQ : Hid (UintPost p g bs er most w (.returned (.int .u64 (rdUint bs er most).2.1)) (w1.setCell ⟨w.heap.size + 1 + 1, 0, none⟩ (.int .u64 (rdUint bs er most).2.1))) := by
    refine ⟨rfl, hR.keep (S := (· = w.heap.size + 1 + 1)) ((Touch.refl _ _).setCell _ _ fun _ => rfl) (by omega) (fun _ => by omega), ?_⟩
    refine (((((Touch.refl _ w).alloc _).alloc _).alloc _).then hT ?_).setCell _ _ (fun h => absurd h (by simp; omega))
    intro k hk h
    rcases h with e | e
    · exact e
    · omega
  clear hR hT hb HM
  go_wp2_with fail
  exact bodyPost_ret (v := .int .u64 (rdUint bs er most).2.1) (by simp [results, Tryz.results62, go_sem, World.cell?_setCell_same _ _ _ c2]) rfl HQ.out
end Go.Proofs.YtdblfabbmpdoiaaGreat
