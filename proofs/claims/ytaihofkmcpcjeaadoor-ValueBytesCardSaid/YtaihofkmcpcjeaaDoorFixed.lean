/- The contract of wire's Reader.Fixed. -/
import Derived.Test.YtaihofkmcpcjeaaDoorPart6
namespace Go.Proofs.YtaihofkmcpcjeaaDoor
open Go.RowKit
set_option linter.unusedVariables false

/-- Bytes as a number, the highest first. -/
def be (l : List UInt8) : Nat := l.foldl (fun n b => n * 256 + b.toNat) 0

theorem be_snoc (l : List UInt8) (b : UInt8) : be (l ++ [b]) = be l * 256 + b.toNat := by simp [be, List.foldl_append]

theorem be_lt_go : ∀ (l : List UInt8) (n : Nat), l.foldl (fun n b => n * 256 + b.toNat) n < (n + 1) * 256 ^ l.length
  | [], n => by simp
  | b :: l, n => by
    have h := be_lt_go l (n * 256 + b.toNat)
    have hb := b.toNat_lt
    rw [List.foldl_cons, List.length_cons, Nat.pow_succ, Nat.mul_comm (256 ^ l.length) 256, ← Nat.mul_assoc]
    exact Nat.lt_of_lt_of_le h (Nat.mul_le_mul_right _ (by omega))
theorem be_lt (l : List UInt8) : be l < 256 ^ l.length := by have := be_lt_go l 0; rw [Nat.zero_add, Nat.one_mul] at this; exact this

theorem u64_byte (N : Nat) (b : UInt8) (h : N < 256 ^ 7) : bits .or .u64 (IntKind.u64.wrap ((N : Int) * 256)) (IntKind.u64.wrap (b.toNat : Int)) = ((N * 256 + b.toNat : Nat) : Int) := by
  have hb := b.toNat_lt
  have e7 : (256 : Nat) ^ 7 = 72057594037927936 := by decide
  rw [e7] at h
  have e : ((N : Int) * 256) = ((N * 256 : Nat) : Int) := by omega
  rw [e, wrap_u64_small (N * 256 : Nat) (by omega) (by omega), wrap_u64_small (b.toNat : Nat) (by omega) (by omega), u64_or_nat _ _ (by omega) (by omega)]
  have := Nat.shiftLeft_add_eq_or_of_lt (b := b.toNat) (i := 8) (by omega) N
  rw [Nat.shiftLeft_eq] at this
  rw [← this]

theorem be_step (l : List UInt8) (k : Nat) (hl : l.length = 8) (hk : k < 8) : bits .or .u64 (IntKind.u64.wrap ((be (l.take k) : Int) * 256)) (IntKind.u64.wrap ((l[k]'(by omega)).toNat : Int)) = ((be (l.take (k + 1)) : Nat) : Int) := by
  have h1 : be (l.take k) < 256 ^ 7 := by
    refine Nat.lt_of_lt_of_le (be_lt _) (Nat.pow_le_pow_right (by decide) ?_)
    simp; omega
  rw [u64_byte _ _ h1, ← be_snoc, List.take_succ_eq_append_getElem (by omega)]

/-- What Fixed reads. -/
def rdFixed (bs : List UInt8) (er : Int) : Int × Value × List UInt8 := outcome er (if bs.length < 8 then 10 else 0) bs (bs.drop 8) (.int .u64 0) (.int .u64 (be (bs.take 8)))

set_option maxRecDepth 100000 in
set_option maxHeartbeats 400000 in
theorem fixed_in (p g : Nat) (bs : List UInt8) (b0 b2 : Nat) (w : World) (x : Int) (hx : x = if bs.length < 8 then 10 else 0) (h : Rd w p g bs 0) (hr : w.heap[b0]? = some (.cells #[.pointer (some ⟨p, 0, none⟩)] 48 (0, 0))) (hn : w.heap[b2]? = some (.cells #[.int .u64 0] 31 (0, 0))) (h2 : b2 ≠ p) (hg : b2 ≠ g) :
    Calls Tryd.prog 97 #[.pointer (some ⟨b0, 0, none⟩), .pointer (some ⟨b2, 0, none⟩)] w (InPost p g b2 31 x (.int .u64 0) (.int .u64 (be (bs.take 8))) (bs.drop 8) w) := by
  have c0 : w.cell? ⟨b0, 0, none⟩ = some (.pointer (some ⟨p, 0, none⟩)) := by rw [cell_of_block hr]; rfl
  have HB : Hid (w.heap[b2]? = some (.cells #[.int .u64 0] 31 (0, 0))) := hn
  have hb2 : b2 < w.heap.size := lt_of_heap hn
  by_cases h8 : bs.length < 8
  · rw [if_pos h8] at hx
    subst hx
    have HN := take_short p g 8 bs 0 w h h8 (by omega) 8 rfl
    have HN' : Hid (Calls Tryd.prog 94 #[.pointer (some ⟨p, 0, none⟩), .int .u64 8] w _) := HN
    have HQ : Hid (InPost p g b2 31 10 (.int .u64 0) (.int .u64 (be (bs.take 8))) (bs.drop 8) w (.panicked [thrown 10]) w) := .inr ⟨by simp, rfl, ⟨bs, h⟩, Touch.refl _ _, hn⟩
    clear hr hn HN
    go_enter Tryd.func97, Tryd.ntmps97
    go_wp2_with fail
    refine HN'.out.mono ?_
    rintro e w1 ⟨rfl, hw1⟩
    go_wp2_with fail
    exact ⟨rfl, HQ.out⟩
  · rw [if_neg h8] at hx
    subst hx
    have HN := take_ok p g 8 bs 0 w h (by omega) 8 rfl
    have HN' : Hid (Calls Tryd.prog 94 #[.pointer (some ⟨p, 0, none⟩), .int .u64 8] w _) := HN
    clear hr hn HN
    go_enter Tryd.func97, Tryd.ntmps97
    go_wp2_with fail
    refine HN'.out.mono ?_
    rintro e w1 ⟨ao, cap, rfl, hL, hR, hT⟩
    have hb : w1.heap[b2]? = some (.cells #[.int .u64 0] 31 (0, 0)) := (hT.block b2 hb2 h2).trans HB.out
    have hgl := hR.ltBytes
    rcases hL with hL | ⟨off, rfl, hL⟩
    · have := congrArg List.length hL
      rw [List.length_take] at this
      simp only [List.length_nil] at this
      omega
    have hl8 : (bs.take 8).length = 8 := by simp; omega
    have HX : Hid (Rd w1 p g (bs.drop 8) 0 ∧ Touch (· = p) w w1) := ⟨hR, hT⟩
    generalize bs.take 8 = l at *
    clear HN' HB hR hT
    go_wp2_with fail
    go_loopw [7] (fun i wr => ∃ k : Nat, k ≤ 8 ∧ i = .int .i64 k ∧ wr.heap[b2]? = some (.cells #[.int .u64 (be (l.take k))] 31 (0, 0)) ∧ Touch (· = b2) w1 wr) (fun i _ => (8 - intOf i).toNat)
    case atStart => exact ⟨0, by omega, rfl, hb, Touch.refl _ _⟩
    case round =>
      obtain ⟨k, hk, rfl, hbk, hTk⟩ := hrel
      have c2 : wr.cell? ⟨b2, 0, none⟩ = some (.int .u64 (be (l.take k))) := by rw [cell_of_block hbk]; rfl
      have z2 : wr.frozen? ⟨b2, 0, none⟩ = false := free_of_block hbk
      by_cases hk8 : k < 8
      · have hc : wr.cell? ⟨g, off + k, none⟩ = some (.int .u8 (l[k]'(by omega)).toNat) := (hTk.cell hgl (Ne.symm hg) _).trans (hL k (by omega))
        have HS : Hid (bits .or .u64 (IntKind.u64.wrap ((be (l.take k) : Int) * 256)) (IntKind.u64.wrap ((l[k]'(by omega)).toNat : Int)) = ((be (l.take (k + 1)) : Nat) : Int)) := be_step l k hl8 hk8
        go_wp2_with fail
        go_roundw
        case rel =>
          rw [HS.out]
          exact ⟨k + 1, by omega, by go_num, by rw [heap_setCell_same _ _ _ _ hbk]; rfl, hTk.setCell _ _ fun _ => rfl⟩
        case measure => simp [intOf]; omega
      · have HQ : Hid (InPost p g b2 31 0 (.int .u64 0) (.int .u64 (be l)) (bs.drop 8) w (.returned (.tuple #[])) wr) := by
          refine .inl ⟨rfl, rfl, HX.out.1.keep hTk (Ne.symm h2) (fun _ => Ne.symm hg), ?_, ?_⟩
          · exact (HX.out.2.mono fun _ _ h => .inl h).then hTk fun _ _ h => .inr h
          · rw [hbk, List.take_of_length_le (by omega)]
        go_wp2_with fail
        go_end0
        exact HQ.out

theorem fixed_enters (cap : Array Value) (w : World) : (callFunc 97 cap).run Tryd.prog w = .ok (.enter 97 cap) w := by kernel_rfl

set_option maxRecDepth 100000 in
set_option maxHeartbeats 400000 in
theorem fixed_any (p g : Nat) (bs : List UInt8) (er : Int) (w : World) (h : Rd w p g bs er) :
    Calls Tryd.prog 83 #[.pointer (some ⟨p, 0, none⟩)] w (OutPost p g (rdFixed bs er) w) := by
  have hmf : ∀ (fn : Fn) (first cap : Array Value) (w : World), (Instr.makeFunc fn first cap).run Tryd.prog w = .ok (.func fn first cap) w := fun _ _ _ _ => rfl
  have hp := h.lt
  have hgl := h.ltBytes
  obtain ⟨hr, hn⟩ := heap_alloc1 w (.cells #[.pointer (some ⟨p, 0, none⟩)] 48) (.cells #[.int .u64 0] 31)
  have HM : Hid (Calls Tryd.prog 92 #[.pointer (some ⟨p, 0, none⟩), .func (.func 97) #[] #[.pointer (some ⟨w.heap.size, 0, none⟩), .pointer (some ⟨w.heap.size + 1, 0, none⟩)]]
      ((w.alloc (.cells #[.pointer (some ⟨p, 0, none⟩)] 48)).alloc (.cells #[.int .u64 0] 31)) (MidPost p g (w.heap.size + 1) 31 (rdFixed bs er) _)) :=
    mid_any p g (w.heap.size + 1) 31 er _ bs _ _ _ _ _ _ ((h.alloc _).alloc _) (fixed_enters _) hn (by omega) (by omega) (fun e => by
      subst e
      exact fixed_in p g bs _ _ _ _ rfl (((h.alloc _).alloc _).alloc _) (heap_alloc_old hr _) (heap_alloc_old hn _) (by omega) (by omega))
  have HW : Hid (Touch (· = p) w ((w.alloc (.cells #[.pointer (some ⟨p, 0, none⟩)] 48)).alloc (.cells #[.int .u64 0] 31))) := ((Touch.refl _ w).alloc _).alloc _
  clear hr hn
  go_enter Tryd.func83, Tryd.ntmps83
  go_wp2_with fail
  refine HM.out.mono ?_
  intro e w1 hM
  obtain ⟨n, en⟩ : ∃ n : Int, (rdFixed bs er).2.1 = .int .u64 n := outcome_val (fun v => ∃ n : Int, v = .int .u64 n) ⟨_, rfl⟩ ⟨_, rfl⟩
  obtain ⟨c2, z2, s2⟩ := hM.box
  have hQ := hM.out HW.out hp hgl (by omega)
  rw [en] at c2 hQ
  have HQ : Hid (OutPost p g (rdFixed bs er) w (.returned (.int .u64 n)) (w1.setCell ⟨w.heap.size + 1, 0, none⟩ (.int .u64 n))) := hQ
  obtain ⟨rfl, _⟩ := hM
  clear HM HW hQ en
  go_wp2_with fail
  exact bodyPost_ret (v := .int .u64 n) (by simp [results, Tryd.results83, go_sem, World.cell?_setCell_same _ _ _ c2]) rfl HQ.out
end Go.Proofs.YtaihofkmcpcjeaaDoor
