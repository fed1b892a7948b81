/- The contract of quireref2.Dec: decimal digits. -/
import Derived.Test.YtodpdcflbnomgaaGreatPart1
import Derived.Test.YtodpdcflbnomgaaGreatProg
import Derived.Laws.Concat
import Derived.Laws.BitsAllLaws
import Derived.Test.YtodpdcflbnomgaaGreatPart6
import Derived.Lib.SmallJoins
import Derived.ProofKit
import Derived.OpenShut
import Derived.Test.YtodpdcflbnomgaaGreatPart22
import Derived.WalkLawsBesides
import Derived.Maps.AppendAt
namespace Go.Proofs.YtodpdcflbnomgaaGreat
open Go.RowKit
set_option linter.unusedVariables false

/-- Decimal digits ahead of what is there. -/
def decGo : Nat → Nat → ByteArray → ByteArray
  | 0, _, out => out
  | f + 1, n, out => if n / 10 = 0 then ⟨#[UInt8.ofNat (48 + n % 10)]⟩ ++ out else decGo f (n / 10) (⟨#[UInt8.ofNat (48 + n % 10)]⟩ ++ out)
def refDec (n : Int) : ByteArray := (if n < 0 then ⟨#[45]⟩ else ⟨#[]⟩) ++ decGo 20 n.natAbs ⟨#[]⟩

theorem digit_cut (d : Nat) (h : d < 10) : (ByteArray.mk #[48, 49, 50, 51, 52, 53, 54, 55, 56, 57]).extract d (d + 1) = ⟨#[UInt8.ofNat (48 + d)]⟩ := by
  have h' : d = 0 ∨ d = 1 ∨ d = 2 ∨ d = 3 ∨ d = 4 ∨ d = 5 ∨ d = 6 ∨ d = 7 ∨ d = 8 ∨ d = 9 := by omega
  rcases h' with rfl | rfl | rfl | rfl | rfl | rfl | rfl | rfl | rfl | rfl <;> decide +kernel

set_option maxRecDepth 100000 in
set_option maxHeartbeats 1000000 in
theorem ref_dec_up (n : Int) (hn : ¬ n < 0) (h1 : n < 9223372036854775808) (w : World) :
    Calls Tryz.prog 73 #[.int .i64 n] w fun e w' => e = .returned (.string (refDec n)) ∧ w' = w := by
  have h3 : wrap64 n = n := by rw [wrap64]; omega
  have h4 : n % 18446744073709551616 = n := by omega
  have HP : Hid (n.natAbs < 10 ^ 20) := by
    have : (10 : Nat) ^ 20 = 100000000000000000000 := by decide
    rw [Hid]; omega
  have HR : Hid (refDec n = ⟨#[]⟩ ++ decGo 20 n.natAbs ⟨#[]⟩) := by rw [Hid, refDec, if_neg hn]
  generalize refDec n = R at *
  go_enter Tryz.func73, Tryz.ntmps73
  go_wp2_with fail
  go_loopw [3, 5] (fun a b wr => ∃ N f : Nat, ∃ s : ByteArray, a = .int .u64 N ∧ b = .string s ∧ N < 10 ^ f ∧ f ≤ 20 ∧ 0 < f ∧ N < 18446744073709551616 ∧ s.size + f = 20 ∧ decGo f N s = decGo 20 n.natAbs ⟨#[]⟩ ∧ wr = w) (fun a _ _ => (intOf a).toNat)
  case atStart => exact ⟨n.natAbs, 20, ⟨#[]⟩, by congr 1; omega, rfl, HP.out, by omega, by omega, by omega, rfl, rfl, rfl⟩
  case round =>
    obtain ⟨N, f, s, rfl, rfl, hf, hf20, hf0, hN, hs, he, rfl⟩ := hrel
    obtain ⟨f, rfl⟩ : ∃ k, f = k + 1 := ⟨f - 1, by omega⟩
    have HE : Hid (decGo (f + 1) N s = decGo 20 n.natAbs ⟨#[]⟩) := he
    have HD : Hid ((ByteArray.mk #[48, 49, 50, 51, 52, 53, 54, 55, 56, 57]).extract (N % 10) (N % 10 + 1) = ⟨#[UInt8.ofNat (48 + N % 10)]⟩) := digit_cut _ (Nat.mod_lt _ (by decide))
    have HF : Hid (N < 10 ^ (f + 1)) := hf
    have HS : Hid ((ByteArray.mk #[UInt8.ofNat (48 + N % 10)] ++ s).size + f = 20) := by
      rw [Hid, ByteArray.size_append]
      show 1 + s.size + f = 20
      omega
    clear he hf
    by_cases hz : N / 10 = 0
    · have HQ : Hid (R = ⟨#[]⟩ ++ (⟨#[UInt8.ofNat (48 + N % 10)]⟩ ++ s)) := by rw [Hid, HR.out, ← HE.out, decGo, if_pos hz]
      go_wp2_with fail
      simp only [HD.out]
      go_ret
      exact ⟨congrArg (fun x => Ending.returned (.string x)) HQ.out.symm, rfl⟩
    · have HQ : Hid (decGo f (N / 10) (⟨#[UInt8.ofNat (48 + N % 10)]⟩ ++ s) = decGo 20 n.natAbs ⟨#[]⟩) := by rw [Hid, ← HE.out, decGo, if_neg hz]
      have HG : Hid (N / 10 < 10 ^ f ∧ 0 < f) := by
        have h := HF.out
        rw [Nat.pow_succ] at h
        refine ⟨by omega, ?_⟩
        cases f with
        | zero => exact absurd h (by simp; omega)
        | succ k => omega
      go_wp2_with fail
      simp only [HD.out]
      go_roundw
      case rel => exact ⟨N / 10, f, _, by go_num, rfl, HG.out.1, by omega, HG.out.2, by omega, HS.out, HQ.out, trivial⟩
      case measure => simp [intOf]; omega

set_option maxRecDepth 100000 in
set_option maxHeartbeats 1000000 in
theorem ref_dec_down (n : Int) (hn : n < 0) (h1 : -9223372036854775808 ≤ n) (w : World) :
    Calls Tryz.prog 73 #[.int .i64 n] w fun e w' => e = .returned (.string (refDec n)) ∧ w' = w := by
  have HW : Hid (IntKind.u64.wrap (-IntKind.u64.wrap n) = (n.natAbs : Int)) := by
    rw [Hid, IntKind.wrap_u64, IntKind.wrap_u64]; omega
  have HP : Hid (n.natAbs < 10 ^ 20) := by
    have : (10 : Nat) ^ 20 = 100000000000000000000 := by decide
    rw [Hid]; omega
  have HR : Hid (refDec n = ⟨#[45]⟩ ++ decGo 20 n.natAbs ⟨#[]⟩) := by rw [Hid, refDec, if_pos hn]
  generalize refDec n = R at *
  go_enter Tryz.func73, Tryz.ntmps73
  go_wp2_with fail
  go_loopw [3, 5] (fun a b wr => ∃ N f : Nat, ∃ s : ByteArray, a = .int .u64 N ∧ b = .string s ∧ N < 10 ^ f ∧ f ≤ 20 ∧ 0 < f ∧ N < 18446744073709551616 ∧ s.size + f = 20 ∧ decGo f N s = decGo 20 n.natAbs ⟨#[]⟩ ∧ wr = w) (fun a _ _ => (intOf a).toNat)
  case atStart => exact ⟨n.natAbs, 20, ⟨#[]⟩, congrArg (Value.int .u64) HW.out, rfl, HP.out, by omega, by omega, by omega, rfl, rfl, rfl⟩
  case round =>
    obtain ⟨N, f, s, rfl, rfl, hf, hf20, hf0, hN, hs, he, rfl⟩ := hrel
    obtain ⟨f, rfl⟩ : ∃ k, f = k + 1 := ⟨f - 1, by omega⟩
    have HE : Hid (decGo (f + 1) N s = decGo 20 n.natAbs ⟨#[]⟩) := he
    have HD : Hid ((ByteArray.mk #[48, 49, 50, 51, 52, 53, 54, 55, 56, 57]).extract (N % 10) (N % 10 + 1) = ⟨#[UInt8.ofNat (48 + N % 10)]⟩) := digit_cut _ (Nat.mod_lt _ (by decide))
    have HF : Hid (N < 10 ^ (f + 1)) := hf
    have HS : Hid ((ByteArray.mk #[UInt8.ofNat (48 + N % 10)] ++ s).size + f = 20) := by
      rw [Hid, ByteArray.size_append]
      show 1 + s.size + f = 20
      omega
    clear he hf
    by_cases hz : N / 10 = 0
    · have HQ : Hid (R = ⟨#[45]⟩ ++ (⟨#[UInt8.ofNat (48 + N % 10)]⟩ ++ s)) := by rw [Hid, HR.out, ← HE.out, decGo, if_pos hz]
      go_wp2_with fail
      simp only [HD.out]
      go_ret
      exact ⟨congrArg (fun x => Ending.returned (.string x)) HQ.out.symm, rfl⟩
    · have HQ : Hid (decGo f (N / 10) (⟨#[UInt8.ofNat (48 + N % 10)]⟩ ++ s) = decGo 20 n.natAbs ⟨#[]⟩) := by rw [Hid, ← HE.out, decGo, if_neg hz]
      have HG : Hid (N / 10 < 10 ^ f ∧ 0 < f) := by
        have h := HF.out
        rw [Nat.pow_succ] at h
        refine ⟨by omega, ?_⟩
        cases f with
        | zero => exact absurd h (by simp; omega)
        | succ k => omega
      go_wp2_with fail
      simp only [HD.out]
      go_roundw
      case rel => exact ⟨N / 10, f, _, by go_num, rfl, HG.out.1, by omega, HG.out.2, by omega, HS.out, HQ.out, trivial⟩
      case measure => simp [intOf]; omega

theorem ref_dec (n : Int) (h0 : -9223372036854775808 ≤ n) (h1 : n < 9223372036854775808) (w : World) :
    Calls Tryz.prog 73 #[.int .i64 n] w fun e w' => e = .returned (.string (refDec n)) ∧ w' = w := by
  by_cases h : n < 0
  · exact ref_dec_down n h h0 w
  · exact ref_dec_up n h h1 w
end Go.Proofs.YtodpdcflbnomgaaGreat

/- Arguments that are values (api.Value): from their reading to what they hold. -/
namespace Go.Proofs.YtodpdcflbnomgaaGreat
open Go.ChangeShapes Go.WideShapes Go.ChangeAt Go.RowKit Go.Joins
set_option linter.unusedVariables false

theorem trod_f64 {H : Type} {enc : TypeId × Value → H} {P : Program} {w : World} {base : Nat} {spare : Nat → Bool} {held : Bool} {fuel : Nat} {t : TypeId} {cs : List Value} {x : DataW H × List MemPlace} (ht : P.underlying t = some (.float .f64)) (h : DataW.trod enc P w base spare held fuel t cs = some x) :
    ∃ b : Nat, cs = [.float .f64 b] ∧ b < 18446744073709551616 := by
  cases fuel with
  | zero => simp [DataW.trod] at h
  | succ n =>
    unfold DataW.trod at h
    rw [ht] at h
    match cs, h with
    | [.float k b], h =>
      simp only at h
      split at h
      · rename_i hc
        obtain ⟨e, hw⟩ := hc
        subst e
        exact ⟨b, rfl, of_decide_eq_true hw⟩
      · cases h

/-- A value that fits. -/
structure V.fits (v : V) : Prop where
  k0 : -9223372036854775808 ≤ v.k
  k1 : v.k < 9223372036854775808
  n0 : -9223372036854775808 ≤ v.n
  n1 : v.n < 9223372036854775808
  f1 : v.f < 18446744073709551616
  s1 : v.s.size ≤ 9223372036854775807

set_option maxRecDepth 100000 in
theorem cellsVal : Tryz.prog.cellsOf 37 = 4 := by kernel_rfl

set_option maxRecDepth 100000 in
theorem isVal_of {H : Type} {enc : TypeId × Value → H} {w : World} {base b0 : Nat} {spare : Nat → Bool} {held : Bool} {v : Value} {d : DataW H} {p : List MemPlace}
    (hv : Value.okWide Tryz.prog w .any b0 37 v) (h : DataW.Trod enc Tryz.prog w base spare held 37 v d p) : ∃ x : V, v = x.val ∧ x.fits := by
  obtain ⟨v0, v1, v2, v3, y0, y1, y2, y3, m, rfl, rfl, rfl, h0, h1, h2, h3⟩ := open_agg4 Tryz.underlying37 (by kernel_rfl) cellsVal hv h
  obtain ⟨k, e0, _, w0⟩ := DataW.trod_int Tryz.underlying3 h0
  obtain ⟨n, e1, _, w1⟩ := DataW.trod_int Tryz.underlying2 h1
  obtain ⟨f, e2, w2⟩ := trod_f64 Tryz.underlying35 h2
  obtain ⟨s, e3, _, w3⟩ := DataW.trod_string Tryz.underlying9 h3
  simp at e0 e1 e2 e3
  subst e0 e1 e2 e3
  simp [Lit.wf, IntKind.min, IntKind.max, IntKind.signed, IntKind.bits] at w0 w1
  exact ⟨⟨k, n, f, s⟩, rfl, ⟨by simp only; omega, by simp only; omega, by simp only; omega, by simp only; omega, w2, by simp only [maxLen] at w3; simp only; omega⟩⟩
end Go.Proofs.YtodpdcflbnomgaaGreat

/- A value's text and bytes, as lists: unlike values, unlike ones. It speaks of no program. -/
namespace Go.Proofs.YtodpdcflbnomgaaGreat
open Go.RowKit
set_option linter.unusedVariables false
set_option linter.unusedSimpArgs false
set_option maxRecDepth 10000

/-- The document's number, digit by digit, is the library's. -/
theorem decGo_eq (f : Nat) (N : Nat) (out : ByteArray) (h : N < 10 ^ f) (hf : 0 < f) : decGo f N out = ⟨(Go.Lib.decDigits N).toArray⟩ ++ out := by
  induction f generalizing N out with
  | zero => omega
  | succ f ih =>
    unfold decGo
    rw [Go.Lib.decDigits]
    by_cases hz : N / 10 = 0
    · have h10 : N < 10 := by omega
      rw [if_pos hz, dif_pos h10, Nat.mod_eq_of_lt h10]
    · have h10 : ¬ N < 10 := by omega
      have hf' : 0 < f := by
        cases f with
        | zero => simp at h; omega
        | succ f => omega
      rw [if_neg hz, dif_neg h10, ih (N / 10) _ (by rw [Nat.pow_succ] at h; omega) hf', ← ByteArray.append_assoc]
      congr 1
theorem refDec_itoa (n : Int) (h0 : -9223372036854775808 ≤ n) (h1 : n < 9223372036854775808) : refDec n = ⟨(Go.Lib.itoa n).toArray⟩ := by
  have hb : n.natAbs < 10 ^ 20 := by
    have : (10 : Nat) ^ 20 = 100000000000000000000 := by decide
    omega
  unfold refDec Go.Lib.itoa
  rw [decGo_eq 20 _ _ hb (by decide)]
  by_cases h : n < 0
  · rw [if_pos h, if_pos h]
    apply ByteArray.ext; simp
  · rw [if_neg h, if_neg h, show n.natAbs = n.toNat from by omega]
    apply ByteArray.ext; simp

theorem hexDigits_inj {a b : Nat} (ha : a < 16) (hb : b < 16) (h : hexDigits.getD a 0 = hexDigits.getD b 0) : a = b := by
  have : ∀ a b : Fin 16, hexDigits.getD a.1 0 = hexDigits.getD b.1 0 → a = b := by decide +kernel
  have := this ⟨a, ha⟩ ⟨b, hb⟩ h
  exact congrArg Fin.val this
theorem hexGo_inj {n m : Nat} (hn : n < 18446744073709551616) (hm : m < 18446744073709551616) (h : hexGo n 16 = hexGo m 16) : n = m := by
  have key : ∀ j, j < 16 → n / 16 ^ j % 16 = m / 16 ^ j % 16 := by
    intro j hj
    have e := congrArg (fun l => l[15 - j]?) h
    simp only [hexGo, List.getElem?_map, List.getElem?_range (show 15 - j < 16 by omega), Option.map_some, Option.some.injEq] at e
    rw [show 15 - (15 - j) = j from by omega] at e
    exact hexDigits_inj (Nat.mod_lt _ (by decide)) (Nat.mod_lt _ (by decide)) e
  have := mod_pows (b := 16) 16 key
  rw [show (16 : Nat) ^ 16 = 18446744073709551616 from by decide, Nat.mod_eq_of_lt hn, Nat.mod_eq_of_lt hm] at this
  exact this

/-- A value's text, as bytes. -/
def textL (v : V) : List UInt8 :=
  if v.k = 0 then [110, 117, 108, 108] else if v.k = 1 then (if v.n = 1 then [116, 114, 117, 101] else [102, 97, 108, 115, 101]) else if v.k = 2 then Go.Lib.itoa v.n
  else if v.k = 3 then 102 :: hexGo (refBits v.f) 16 else if v.k = 4 then 34 :: quoteGo v.s.data.toList ++ [34] else [109, 97, 112]
/-- Taken, field by field. -/
structure V.taken (v : V) : Prop where
  fit : v.fits
  kind : v.k = 0 ∨ v.k = 1 ∨ v.k = 2 ∨ v.k = 3 ∨ v.k = 4 ∨ v.k = 5
  n : v.k ≠ 1 → v.k ≠ 2 → v.n = 0
  bool : v.k = 1 → v.n = 0 ∨ v.n = 1
  f : v.k ≠ 3 → v.f = 0
  s : v.k ≠ 4 → v.s = ⟨#[]⟩

theorem order_bits {a b : Nat} (ha : a < 18446744073709551616) (hb : b < 18446744073709551616) : refOrder a = refOrder b ↔ refBits a = refBits b := by
  have lim : ∀ f, f < 18446744073709551616 → isNaN f = false → (f < 9223372036854775808 → f ≤ 9218868437227405312) := by
    intro f hf hn hs
    have : ¬ fI < rung f := of_decide_eq_false hn
    have hr : rung f = f := Nat.mod_eq_of_lt hs
    rw [hr] at this
    exact Nat.le_of_not_lt this
  have la := lim a ha
  have lb := lim b hb
  unfold refOrder refBits
  have hI : nanBits = 9221120237041090560 := rfl
  have ka : isNaN a = false → a ≠ nanBits := fun h e => by rw [e] at h; exact absurd h (by decide)
  have kb : isNaN b = false → b ≠ nanBits := fun h e => by rw [e] at h; exact absurd h (by decide)
  cases na : isNaN a <;> cases nb : isNaN b <;> simp only [na, nb, if_true, Bool.false_eq_true, if_false, true_implies, Bool.true_eq_false, false_implies] at *
  · split <;> split <;> omega
  · have hne : a ≠ nanBits := ka
    constructor
    · intro h; split at h <;> omega
    · intro h; exact absurd h hne
  · have hne : b ≠ nanBits := kb
    constructor
    · intro h; split at h <;> omega
    · intro h; exact absurd h.symm hne
theorem cmp_zero (a b : V) : refCmp a b = 0 ↔ a.k = b.k ∧ a.n = b.n ∧ refOrder a.f = refOrder b.f ∧ a.s = b.s := by
  rw [refCmp_cases]
  have hl : lexI a.s.toList b.s.toList = 0 ↔ a.s = b.s := by
    have h := (lexI_spec a.s.toList b.s.toList).2.1
    constructor
    · intro e
      rw [decide_eq_true e] at h
      have := beq_iff_eq.1 h
      rw [ByteArray.toList_eq, ByteArray.toList_eq] at this
      exact ByteArray.ext (Array.ext' this)
    · intro e
      rw [e] at h ⊢
      have h2 : (b.s.toList == b.s.toList) = true := by simp
      rw [h2] at h
      exact of_decide_eq_true h.symm
  generalize lexI a.s.toList b.s.toList = l at *
  constructor
  · intro h
    repeat' (split at h)
    all_goals first | omega | exact ⟨by omega, by omega, by omega, hl.1 h⟩
  · rintro ⟨h1, h2, h3, h4⟩
    rw [if_neg (by omega), if_neg (by omega), if_neg (by omega), if_neg (by omega), if_neg (by omega), if_neg (by omega)]
    exact hl.2 h4
end Go.Proofs.YtodpdcflbnomgaaGreat

/- Bytes as cells; a slice of bytes that the call owns, and that grows. -/
namespace Go.Proofs.YtodpdcflbnomgaaGreat
open Go.RowKit
set_option linter.unusedVariables false

/-- Bytes as cells. -/
def cellsOf (bs : List UInt8) : List Value := bs.map fun b => Value.int .u8 (b.toNat : Int)

theorem cellsOf_append (a b : List UInt8) : cellsOf (a ++ b) = cellsOf a ++ cellsOf b := by simp [cellsOf]
theorem cellsOf_length (a : List UInt8) : (cellsOf a).length = a.length := by simp [cellsOf]
theorem cellsOf_one (a : List UInt8) : ∀ u ∈ cellsOf a, u.oneCell' = true := by
  intro u hu
  obtain ⟨b, _, rfl⟩ := List.mem_map.1 hu
  rfl

theorem Tryz.infoByte : (Tryz.prog.info? 5).map (fun i => (i.zero, i.size, i.bytes)) = some (some (.int .u8 0), 1, 1) := by kernel_rfl

/-- The value v, which the call owned, has become v', which holds bs; nothing but v's row was touched; the new row is v's, or new. -/
structure Grow (v v' : Value) (bs : List UInt8) (w w' : World) : Prop where
  is : w'.ownsRow 0 5 1 v' bs.length (cellsOf bs)
  touch : Touch (fun k => v.ownBlock = some k) w w'
  new : ∀ k, k < w.heap.size → v'.ownBlock = some k → v.ownBlock = some k
theorem Grow.refl {v : Value} {bs : List UInt8} {w : World} (h : w.ownsRow 0 5 1 v bs.length (cellsOf bs)) : Grow v v bs w w := ⟨h, Touch.refl _ _, fun _ _ h => h⟩
theorem Grow.trans {a b c : Value} {bs cs : List UInt8} {w w1 w2 : World} (h : Grow a b bs w w1) (k : Grow b c cs w1 w2) : Grow a c cs w w2 :=
  ⟨k.is, h.touch.then k.touch (fun i hi e => h.new i hi e), fun i hi e => h.new i hi (k.new i (Nat.lt_of_lt_of_le hi h.touch.size) e)⟩
theorem Grow.slice {v v' : Value} {bs : List UInt8} {w w' : World} (h : Grow v v' bs w w') : ∃ ao n cap, v' = .slice ao n cap := by
  rcases h.is.2 with ⟨e, _⟩ | ⟨g, cap, cur, e, _⟩
  · exact ⟨_, _, _, e⟩
  · exact ⟨_, _, _, e⟩
/-- Behind an append of one byte. -/
theorem Grow.pushed {v v' : Value} {bs : List UInt8} {b : UInt8} {w w1 w2 : World} (hw1 : Touch (fun _ => False) w w1) (hown' : w2.ownsRow 0 5 1 v' (bs.length + 1) (cellsOf bs ++ [.int .u8 (b.toNat : Int)])) (hg : w1.grownBy w2 v.ownBlock) {m : Nat} (hat : v'.ownBlock = v.ownBlock ∨ v'.ownBlock = some m) (hm : w.heap.size ≤ m) : Grow v v' (bs ++ [b]) w w2 := by
  refine ⟨?_, ?_, ?_⟩
  · rw [cellsOf_append, List.length_append]; exact hown'
  · exact (hw1.mono fun _ _ h => h.elim).grown hg (fun i e _ => e)
  · intro k hk hv
    rcases hat with e | e
    · rw [← e]; exact hv
    · rw [hv] at e
      simp at e; omega
end Go.Proofs.YtodpdcflbnomgaaGreat
