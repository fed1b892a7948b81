/- The contract of wire's Reader.Byte. -/
import Derived.Test.YtaihofkmcpcjeaaDoorPart6
import Derived.Test.YtaihofkmcpcjeaaDoorArith
namespace Go.Proofs.YtaihofkmcpcjeaaDoor
open Go.RowKit
set_option linter.unusedVariables false

/-- What Byte reads. -/
def rdByte (bs : List UInt8) (er : Int) : Int × Value × List UInt8 := outcome er (if bs = [] then 10 else 0) bs bs.tail (.int .u8 0) (.int .u8 (bs.headD 0).toNat)

set_option maxRecDepth 100000 in
set_option maxHeartbeats 400000 in
theorem byte_in (p g : Nat) (bs : List UInt8) (b0 b2 : Nat) (w : World) (h : Rd w p g bs 0) (hr : w.heap[b0]? = some (.cells #[.pointer (some ⟨p, 0, none⟩)] 48 (0, 0))) (hn : w.heap[b2]? = some (.cells #[.int .u8 0] 5 (0, 0))) (h2 : b2 ≠ p) (hg : b2 ≠ g) :
    Calls Tryd.prog 93 #[.pointer (some ⟨b0, 0, none⟩), .pointer (some ⟨b2, 0, none⟩)] w (InPost p g b2 5 (if bs = [] then 10 else 0) (.int .u8 0) (.int .u8 (bs.headD 0).toNat) bs.tail w) := by
  have c0 : w.cell? ⟨b0, 0, none⟩ = some (.pointer (some ⟨p, 0, none⟩)) := by rw [cell_of_block hr]; rfl
  have HB : Hid (w.heap[b2]? = some (.cells #[.int .u8 0] 5 (0, 0))) := hn
  have hb2 : b2 < w.heap.size := lt_of_heap hn
  cases bs with
  | nil =>
    have HN := take_short p g 1 [] 0 w h (by simp) (by omega) 1 rfl
    have HN' : Hid (Calls Tryd.prog 94 #[.pointer (some ⟨p, 0, none⟩), .int .u64 1] w _) := HN
    have HQ : Hid (InPost p g b2 5 (if ([] : List UInt8) = [] then 10 else 0) (.int .u8 0) (.int .u8 (([] : List UInt8).headD 0).toNat) ([] : List UInt8).tail w (.panicked [thrown 10]) w) := .inr ⟨by simp, rfl, ⟨[], h⟩, Touch.refl _ _, hn⟩
    clear hr hn HN
    go_enter Tryd.func93, Tryd.ntmps93
    go_wp2_with fail
    refine HN'.out.mono ?_
    rintro e w1 ⟨rfl, hw1⟩
    go_wp2_with fail
    exact ⟨rfl, HQ.out⟩
  | cons b r =>
    have HN := take_ok p g 1 (b :: r) 0 w h (by simp) 1 rfl
    have HN' : Hid (Calls Tryd.prog 94 #[.pointer (some ⟨p, 0, none⟩), .int .u64 1] w _) := HN
    clear hr hn HN
    go_enter Tryd.func93, Tryd.ntmps93
    go_wp2_with fail
    refine HN'.out.mono ?_
    rintro e w1 ⟨ao, cap, rfl, hL, hR, hT⟩
    obtain ⟨off, rfl, hcell⟩ := hL.one
    have hb : w1.heap[b2]? = some (.cells #[.int .u8 0] 5 (0, 0)) := (hT.block b2 hb2 h2).trans HB.out
    have c2 : w1.cell? ⟨b2, 0, none⟩ = some (.int .u8 0) := by rw [cell_of_block hb]; rfl
    have z2 : w1.frozen? ⟨b2, 0, none⟩ = false := free_of_block hb
    have HQ : Hid (InPost p g b2 5 (if (b :: r) = [] then 10 else 0) (.int .u8 0) (.int .u8 ((b :: r).headD 0).toNat) (b :: r).tail w (.returned (.tuple #[])) (w1.setCell ⟨b2, 0, none⟩ (.int .u8 b.toNat))) :=
      .inl ⟨by simp, rfl, hR.keep (S := (· = b2)) ((Touch.refl _ _).setCell _ _ fun _ => rfl) (Ne.symm h2) (fun _ => Ne.symm hg), (hT.mono fun _ _ h => .inl h).setCell _ _ fun _ => .inr rfl, by rw [heap_setCell_same _ _ _ _ hb]; rfl⟩
    clear hL hR hT hb HN'
    go_wp2_with fail
    go_end0
    exact HQ.out

theorem byte_enters (cap : Array Value) (w : World) : (callFunc 93 cap).run Tryd.prog w = .ok (.enter 93 cap) w := by kernel_rfl

set_option maxRecDepth 100000 in
set_option maxHeartbeats 400000 in
theorem byte_any (p g : Nat) (bs : List UInt8) (er : Int) (w : World) (h : Rd w p g bs er) :
    Calls Tryd.prog 81 #[.pointer (some ⟨p, 0, none⟩)] w (OutPost p g (rdByte bs er) w) := by
  have hmf : ∀ (fn : Fn) (first cap : Array Value) (w : World), (Instr.makeFunc fn first cap).run Tryd.prog w = .ok (.func fn first cap) w := fun _ _ _ _ => rfl
  have hp := h.lt
  have hgl := h.ltBytes
  obtain ⟨hr, hn⟩ := heap_alloc1 w (.cells #[.pointer (some ⟨p, 0, none⟩)] 48) (.cells #[.int .u8 0] 5)
  have HM : Hid (Calls Tryd.prog 92 #[.pointer (some ⟨p, 0, none⟩), .func (.func 93) #[] #[.pointer (some ⟨w.heap.size, 0, none⟩), .pointer (some ⟨w.heap.size + 1, 0, none⟩)]]
      ((w.alloc (.cells #[.pointer (some ⟨p, 0, none⟩)] 48)).alloc (.cells #[.int .u8 0] 5)) (MidPost p g (w.heap.size + 1) 5 (rdByte bs er) _)) :=
    mid_any p g (w.heap.size + 1) 5 er _ bs _ _ _ _ _ _ ((h.alloc _).alloc _) (byte_enters _) hn (by omega) (by omega) (fun e => by
      subst e
      exact byte_in p g bs _ _ _ (((h.alloc _).alloc _).alloc _) (heap_alloc_old hr _) (heap_alloc_old hn _) (by omega) (by omega))
  have HW : Hid (Touch (· = p) w ((w.alloc (.cells #[.pointer (some ⟨p, 0, none⟩)] 48)).alloc (.cells #[.int .u8 0] 5))) := ((Touch.refl _ w).alloc _).alloc _
  clear hr hn
  go_enter Tryd.func81, Tryd.ntmps81
  go_wp2_with fail
  refine HM.out.mono ?_
  intro e w1 hM
  obtain ⟨n, en⟩ : ∃ n : Int, (rdByte bs er).2.1 = .int .u8 n := outcome_val (fun v => ∃ n : Int, v = .int .u8 n) ⟨_, rfl⟩ ⟨_, rfl⟩
  obtain ⟨c2, z2, s2⟩ := hM.box
  have hQ := hM.out HW.out hp hgl (by omega)
  rw [en] at c2 hQ
  have HQ : Hid (OutPost p g (rdByte bs er) w (.returned (.int .u8 n)) (w1.setCell ⟨w.heap.size + 1, 0, none⟩ (.int .u8 n))) := hQ
  obtain ⟨rfl, _⟩ := hM
  clear HM HW hQ en
  go_wp2_with fail
  exact bodyPost_ret (v := .int .u8 n) (by simp [results, Tryd.results81, go_sem, World.cell?_setCell_same _ _ _ c2]) rfl HQ.out
end Go.Proofs.YtaihofkmcpcjeaaDoor

/- What is written, as bytes: numbers, texts. It speaks of no program. -/
namespace Go.Proofs.YtaihofkmcpcjeaaDoor
open Go.RowKit
set_option linter.unusedVariables false

/-- A number's bytes, f more at most. -/
def putGo : Nat → Nat → List UInt8
  | 0, n => [UInt8.ofNat n]
  | f + 1, n => if n < 128 then [UInt8.ofNat n] else UInt8.ofNat (n % 128 + 128) :: putGo f (n / 128)
def putU (n : Nat) : List UInt8 := putGo 9 n

theorem putGo_last {f n : Nat} (h : n < 128) : putGo f n = [UInt8.ofNat n] := by
  cases f with
  | zero => rfl
  | succ f => rw [putGo, if_pos h]
theorem putGo_more {f n : Nat} (h : ¬ n < 128) : putGo (f + 1) n = UInt8.ofNat (n % 128 + 128) :: putGo f (n / 128) := by rw [putGo, if_neg h]
theorem putGo_length : ∀ (f n : Nat), (putGo f n).length ≤ f + 1
  | 0, n => by simp [putGo]
  | f + 1, n => by
    rw [putGo]; split
    · simp
    · have := putGo_length f (n / 128); simp; omega

theorem u8_more (n : Nat) : bits .or .u8 ((n : Int) % 256) 128 = ((UInt8.ofNat (n % 128 + 128)).toNat : Int) := by
  have h : ∀ x : Fin 256, bits .or .u8 ((x : Nat) : Int) 128 = (((x : Nat) % 128 + 128 : Nat) : Int) := by decide +kernel
  have e : (n : Int) % 256 = ((n % 256 : Nat) : Int) := by omega
  have := h ⟨n % 256, Nat.mod_lt _ (by decide)⟩
  rw [e, this]
  simp only [UInt8.toNat_ofNat']
  omega
theorem u8_last (n : Nat) (h : n < 128) : (n : Int) = ((UInt8.ofNat n).toNat : Int) := by
  simp only [UInt8.toNat_ofNat']; omega

/-- The number with its sign in the lowest bit. -/
def unzz (n : Int) : Nat := if n < 0 then (-n).toNat * 2 - 1 else n.toNat * 2

theorem u64_xor_zero (a : Nat) (h : a < 18446744073709551616) : bits .xor .u64 (a : Int) 0 = a := by
  have := u64_xor_nat a 0 h (by decide)
  simpa using this
theorem u64_xor_ones (a : Nat) (h : a < 18446744073709551616) : bits .xor .u64 (a : Int) 18446744073709551615 = ((18446744073709551615 - a : Nat) : Int) := by
  show IntKind.u64.wrap ((BitVec.ofInt 64 (a : Int) ^^^ BitVec.ofInt 64 18446744073709551615).toNat : Int) = _
  have e : BitVec.ofInt 64 18446744073709551615 = BitVec.allOnes 64 := by decide
  rw [e, BitVec.xor_allOnes, BitVec.toNat_not, ofInt_u64 a h, IntKind.wrap_u64]; omega

theorem unzz_eq (n : Int) (h0 : -9223372036854775808 ≤ n) (h1 : n < 9223372036854775808) :
    bits .xor .u64 (IntKind.u64.wrap (IntKind.u64.wrap n * 2)) (IntKind.u64.wrap (n / 9223372036854775808)) = (unzz n : Int) ∧ unzz n < 18446744073709551616 := by
  have hb : unzz n < 18446744073709551616 := by unfold unzz; split <;> omega
  refine ⟨?_, hb⟩
  rw [IntKind.wrap_u64, IntKind.wrap_u64, IntKind.wrap_u64]
  by_cases hn : n < 0
  · have e1 : n / 9223372036854775808 % 18446744073709551616 = 18446744073709551615 := by omega
    obtain ⟨a, ha⟩ : ∃ a : Nat, (n % 18446744073709551616 * 2 % 18446744073709551616) = a := ⟨(n % 18446744073709551616 * 2 % 18446744073709551616).toNat, by omega⟩
    rw [e1, ha, u64_xor_ones a (by omega)]
    unfold unzz; rw [if_pos hn]; omega
  · have e1 : n / 9223372036854775808 % 18446744073709551616 = 0 := by omega
    obtain ⟨a, ha⟩ : ∃ a : Nat, (n % 18446744073709551616 * 2 % 18446744073709551616) = a := ⟨(n % 18446744073709551616 * 2 % 18446744073709551616).toNat, by omega⟩
    rw [e1, ha, u64_xor_zero a (by omega)]
    unfold unzz; rw [if_neg hn]; omega

/-- A number's eight bytes, the highest first. -/
def putF (n : Nat) : List UInt8 := (List.range 8).map fun k => UInt8.ofNat (n / 2 ^ (56 - 8 * k))

theorem putF_length (n : Nat) : (putF n).length = 8 := by simp [putF]
theorem putF_snoc (n k : Nat) (h : k < 8) : (putF n).take (k + 1) = (putF n).take k ++ [UInt8.ofNat (n / 2 ^ (56 - 8 * k))] := by
  rw [List.take_succ_eq_append_getElem (by rw [putF_length]; exact h)]
  simp [putF]

/-- A text's bytes. -/
def putT (s : ByteArray) : List UInt8 := putU s.size ++ s.data.toList

end Go.Proofs.YtaihofkmcpcjeaaDoor
