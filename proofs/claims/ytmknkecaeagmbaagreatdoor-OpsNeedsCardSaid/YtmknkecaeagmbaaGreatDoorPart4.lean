/- The contracts of utf.Check, Runes, Len, Len16. -/
import Derived.Test.YtmknkecaeagmbaaGreatDoorPart3
import Derived.Test.YtmknkecaeagmbaaGreatDoorPart2
import Derived.RangeFuncBox
import Derived.WalkKit
import Derived.Test.YtmknkecaeagmbaaGreatDoorProg
import Derived.Laws.OwnMore
import Derived.Test.YtmknkecaeagmbaaGreatDoorPart1
import Derived.Laws.FloatArith
import Derived.Laws.BitsAllLaws
namespace Go.Proofs.YtmknkecaeagmbaaGreatDoor
open Go.RowKit Go.Shelf
set_option linter.unusedVariables false
set_option maxRecDepth 100000
attribute [local go_sem] Oper.semAt_some

set_option maxHeartbeats 400000 in
theorem utf_check (s : ByteArray) (hs : s.size ≤ 9223372036854775807) (w : World) (hT : TabsU w) : Calls Tryz.prog 88 #[.string s] w fun e w' => e = .returned (.bool (runesOf s.data.toList).isSome) ∧ Touch (fun _ => False) w w' := by
  have HV : Hid (Calls Tryz.prog 89 #[.string s] w fun e w' => e = .returned (.bool (runesOf s.data.toList).isSome) ∧ Touch (fun _ => False) w w') := valid_any s hs w hT
  clear hT
  go_enter Tryz.func88, Tryz.ntmps88
  go_wp2_with fail
  refine HV.out.mono ?_
  rintro e w1 ⟨rfl, hT⟩
  go_wp2_with fail
  go_ret
  exact ⟨rfl, hT⟩

set_option maxHeartbeats 400000 in
theorem utf_runes (s : ByteArray) (w : World) : Calls Tryz.prog 70 #[.string s] w fun e w' => e = .returned (.func (.func 97) #[] #[.pointer (some ⟨w.heap.size, 0, none⟩)]) ∧ w' = w.alloc (.cells #[.string s] 9) := by
  go_enter Tryz.func70, Tryz.ntmps70
  go_wp2_with fail
  go_ret
  exact ⟨rfl, rfl⟩

/-- The iterator of a box that holds s. -/
theorem iter_of (n B : Nat) (s : ByteArray) (hs : s.size ≤ 9223372036854775807) (w : World) (hT : TabsU w) (hb : w.cell? ⟨B, 0, none⟩ = some (.string s)) :
    SeqStopsK Fence.wide n Tryz.prog 97 #[.pointer (some ⟨B, 0, none⟩)] enc2 KeepsWalks (fun xs => xs = enumR 0 (rsOf s.data.toList)) (fun pre => pre <+: enumR 0 (rsOf s.data.toList)) (rsOf s.data.toList).length w :=
  runes_stops n B s hs w hb fun w' hB => utf_check s hs w' (hT.keep (Touch.ofBelow hB))

set_option maxHeartbeats 2000000 in
theorem utf_len (s : ByteArray) (hs : s.size ≤ 4611686018427387904) (w : World) (hT : TabsU w) : Calls Tryz.prog 49 #[.string s] w fun e w' => e = .returned (.int .i64 ((rsOf s.data.toList).length : Int)) ∧ Touch (fun _ => False) w w' := by
  have hln : (rsOf s.data.toList).length ≤ s.size := by have := rsOf_len s.data.toList; simpa using this
  refine (callsIn_wide (n := 3)).1 ?_
  refine callsIn_of_wp_marks Tryz.func49 rfl trivial ?_ rfl
  simp only [Tryz.ntmps49, List.size_toArray, List.length_cons, List.length_nil, Nat.reduceAdd, Nat.reduceSub, Array.replicate_succ, Array.replicate_zero, List.push_toArray, List.append_toArray, List.nil_append, List.cons_append]
  gi_wp2_with fail
  refine ⟨trivial, (callsIn_wide.2 (utf_runes s _)).mono ?_⟩
  rintro e w1 ⟨rfl, rfl⟩
  gi_wp2
  have hs0 := (Boxed.new w 3 (.int .i64 0)).alloc (.cells #[.string s] 9)
  have hb := Boxed.new (w.alloc (.cells #[.int .i64 0] 3)) 9 (.string s)
  rw [World.size_alloc] at hb
  have hB0 : Below w.heap.size w ((w.alloc (.cells #[.int .i64 0] 3)).alloc (.cells #[.string s] 9)) := ((Below.refl _ w).alloc (Nat.le_refl _) _).alloc (by simp) _
  refine wpIn_rangeFunc_ownF rfl (by decide) (gf := 97) (lb := #[.pointer (some ⟨w.heap.size + 1, 0, none⟩)]) rfl trivial (enters_of Tryz.func97 (by kernel_rfl) rfl)
    (iter_of _ (w.heap.size + 1) s (by omega) _ (hT.keep (Touch.ofBelow hB0)) hb.cell) walksK_t walksK_b (Below.refl _ _) (fun _ => rfl)
    (fun pre W => Boxed W w.heap.size 3 (.int .i64 (pre.length : Int)) ∧ Below w.heap.size w W)
    (fun _ _ _ => False)
    (OwnFrom.and (Own.from (boxed_own _ _ _) _) (ownFrom_below (Nat.le_refl _) (by simp; omega)))
    (fun _ _ _ _ _ hs _ _ => hs)
    ⟨hs0, hB0⟩
    (fun x => { tmps := #[.string s, undef, .int .i64 0, .pointer (some ⟨w.heap.size, 0, none⟩), .string s, .func (.func 97) #[] #[.pointer (some ⟨w.heap.size + 1, 0, none⟩)], .int .i64 (x.1 : Int), .int .i32 (x.2 : Int), undef, undef, undef], defers := [] }) ?assign ?body ?done ?stop
  case assign =>
    intro l x W K hK
    gi_wp2
    simpa [enc2] using hK
  case body =>
    rintro l pre x W ⟨hX, hB⟩ hlt
    have hlt2 : pre.length < s.size := by omega
    have hc := hX.cell
    have hf := hX.frozen
    have HX : Hid (Boxed W w.heap.size 3 (.int .i64 (pre.length : Int))) := hX
    have HP : Hid ((pre ++ [x]).length = pre.length + 1) := by rw [Hid]; simp
    clear hX
    gi_wp2
    exact ⟨KeepsOthers.setCell _ _ _, walks_of (KeepsOthers.setCell _ _ _), by rw [HP.out]; exact HX.out.set _, hB.setCell (p := ⟨w.heap.size, 0, none⟩) (Nat.le_refl _) _⟩
  case done =>
    rintro D ys W hD rfl ⟨hX, hB⟩ hK
    rw [enumR_len] at hX
    have hc := hX.cell
    gi_wp2
    refine ⟨by simp, .inl ⟨_, _, rfl, run_takeDeferred hK, ?_⟩⟩
    exact ⟨_, results_tmp rfl _ _ _, rfl, Touch.ofBelow (hB.trans (belowK_b (w := w) (Nat.le_refl _) W D _ _ (by simp at hD; omega) hK rfl rfl))⟩
  case stop =>
    rintro D c pre W _ _ h _
    exact h.elim
end Go.Proofs.YtmknkecaeagmbaaGreatDoor

/- The contracts of utf.units16, utf.one, quireref3.wide, utf8.RuneLen. -/
namespace Go.Proofs.YtmknkecaeagmbaaGreatDoor
open Go.RowKit
set_option linter.unusedVariables false

/-- A rune's units of UTF-16. -/
def un16 (r : Nat) : Nat := if 65535 < r then 2 else 1
def sum16 (l : List Nat) : Nat := (l.map un16).sum
theorem un16_bd (r : Nat) : 1 ≤ un16 r ∧ un16 r ≤ 2 := by unfold un16; split <;> omega
theorem sum16_nil : sum16 [] = 0 := rfl
theorem sum16_cons (r : Nat) (l : List Nat) : sum16 (r :: l) = un16 r + sum16 l := by simp [sum16]
theorem sum16_append (a b : List Nat) : sum16 (a ++ b) = sum16 a + sum16 b := by simp [sum16]
theorem sum16_bd (l : List Nat) : l.length ≤ sum16 l ∧ sum16 l ≤ 2 * l.length := by
  induction l with
  | nil => simp [sum16]
  | cons r l ih => have := un16_bd r; rw [sum16_cons, List.length_cons]; omega

theorem runeLen_any (r : Nat) (w : World) : Calls Tryz.prog 71 #[.int .i32 (r : Int)] w fun e w' => e = .returned (.int .i64 (Go.Lib.runeLen (r : Int))) ∧ w' = w := by
  have hc : r ≤ 127 ∨ (127 < r ∧ r ≤ 2047) ∨ (2047 < r ∧ r < 55296) ∨ (55296 ≤ r ∧ r ≤ 57343) ∨ (57343 < r ∧ r ≤ 65535) ∨ (65535 < r ∧ r ≤ 1114111) ∨ 1114111 < r := by omega
  rcases hc with h | ⟨h, h'⟩ | ⟨h, h'⟩ | ⟨h, h'⟩ | ⟨h, h'⟩ | ⟨h, h'⟩ | h
  · have HE : Hid (Go.Lib.runeLen (r : Int) = 1) := by unfold Go.Lib.runeLen; rw [Hid]; repeat' split
                                                       all_goals omega
    generalize Go.Lib.runeLen (r : Int) = X at *
    go_enter Tryz.func71, Tryz.ntmps71
    go_wp2_with fail
    go_ret
    exact ⟨by rw [HE.out]; rfl, rfl⟩
  · have HE : Hid (Go.Lib.runeLen (r : Int) = 2) := by unfold Go.Lib.runeLen; rw [Hid]; repeat' split
                                                       all_goals omega
    generalize Go.Lib.runeLen (r : Int) = X at *
    go_enter Tryz.func71, Tryz.ntmps71
    go_wp2_with fail
    go_ret
    exact ⟨by rw [HE.out]; rfl, rfl⟩
  · have HE : Hid (Go.Lib.runeLen (r : Int) = 3) := by unfold Go.Lib.runeLen; rw [Hid]; repeat' split
                                                       all_goals omega
    generalize Go.Lib.runeLen (r : Int) = X at *
    go_enter Tryz.func71, Tryz.ntmps71
    go_wp2_with fail
    go_ret
    exact ⟨by rw [HE.out]; rfl, rfl⟩
  · have HE : Hid (Go.Lib.runeLen (r : Int) = -1) := by unfold Go.Lib.runeLen; rw [Hid]; repeat' split
                                                        all_goals omega
    generalize Go.Lib.runeLen (r : Int) = X at *
    go_enter Tryz.func71, Tryz.ntmps71
    go_wp2_with fail
    go_ret
    exact ⟨by rw [HE.out]; rfl, rfl⟩
  · have HE : Hid (Go.Lib.runeLen (r : Int) = 3) := by unfold Go.Lib.runeLen; rw [Hid]; repeat' split
                                                       all_goals omega
    generalize Go.Lib.runeLen (r : Int) = X at *
    go_enter Tryz.func71, Tryz.ntmps71
    go_wp2_with fail
    go_ret
    exact ⟨by rw [HE.out]; rfl, rfl⟩
  · have HE : Hid (Go.Lib.runeLen (r : Int) = 4) := by unfold Go.Lib.runeLen; rw [Hid]; repeat' split
                                                       all_goals omega
    generalize Go.Lib.runeLen (r : Int) = X at *
    go_enter Tryz.func71, Tryz.ntmps71
    go_wp2_with fail
    go_ret
    exact ⟨by rw [HE.out]; rfl, rfl⟩
  · have HE : Hid (Go.Lib.runeLen (r : Int) = -1) := by unfold Go.Lib.runeLen; rw [Hid]; repeat' split
                                                        all_goals omega
    generalize Go.Lib.runeLen (r : Int) = X at *
    go_enter Tryz.func71, Tryz.ntmps71
    go_wp2_with fail
    go_ret
    exact ⟨by rw [HE.out]; rfl, rfl⟩
end Go.Proofs.YtmknkecaeagmbaaGreatDoor

/- The contracts of quireref3.Runes in one form, Len, Len16. -/
namespace Go.Proofs.YtmknkecaeagmbaaGreatDoor
open Go.RowKit
set_option linter.unusedVariables false
set_option maxRecDepth 100000

/-- A slice of runes lies in w. -/
def Row (w : World) (a : Option Addr) (c : Nat) (rs : List Nat) : Prop :=
  rs.length ≤ c ∧ c ≤ maxLen ∧ (rs ≠ [] → ∃ g, a = some ⟨g, 0, none⟩ ∧ ∀ k, (h : k < rs.length) → w.cell? ⟨g, k, none⟩ = some (.int .i32 (rs[k] : Int)))
theorem Row.keep {w w' : World} {a : Option Addr} {c : Nat} {rs : List Nat} (h : Row w a c rs) (hT : Touch (fun _ => False) w w') : Row w' a c rs := by
  refine ⟨h.1, h.2.1, fun hne => ?_⟩
  obtain ⟨g, e, hc⟩ := h.2.2 hne
  exact ⟨g, e, fun k hk => (hT.cell (World.block_lt_of_cell? _ _ (hc k hk)) id k).trans (hc k hk)⟩
/-- What Runes answers: a slice of the text's runes, and whether it is a text. -/
def RunesAny (l : List UInt8) (w : World) (e : Ending) (w' : World) : Prop :=
  Touch (fun _ => False) w w' ∧ ∃ a c, e = .returned (.tuple #[.slice a (rsOf l).length c, .bool (runesOf l).isSome]) ∧ Row w' a c (rsOf l)
theorem ref_runes_any (s : ByteArray) (hs : s.size ≤ 17592186044416) (w : World) : Calls Tryz.prog 58 #[.string s] w (RunesAny s.data.toList w) := by
  refine (ref_runes s hs w).mono ?_
  rintro e w' ⟨hT, ⟨rs, v, h, rfl, hown⟩ | ⟨h, rfl⟩⟩
  · refine ⟨hT, ?_⟩
    rw [rsOf_some h, h]
    have hown0 := hown
    rcases hown.2 with ⟨e, h0⟩ | ⟨g, cap, cur, e, _, hb, hn, hm, _⟩
    · refine ⟨none, 0, ?_, by omega, Nat.zero_le _, fun hne => absurd (List.eq_nil_of_length_eq_zero h0) hne⟩
      rw [e, h0]; rfl
    · subst e
      refine ⟨_, cap, rfl, hn, hm, fun _ => ⟨g, rfl, fun k hk => ?_⟩⟩
      rw [hown0.cellAt k (by omega), runeCells, List.getElem?_map, List.getElem?_eq_getElem hk]
      rfl
  · refine ⟨hT, ?_⟩
    rw [rsOf_none h, h]
    exact ⟨none, 0, rfl, Nat.le_refl _, Nat.zero_le _, fun hne => absurd rfl hne⟩

set_option maxHeartbeats 400000 in
theorem ref_len (s : ByteArray) (hs : s.size ≤ 17592186044416) (w : World) : Calls Tryz.prog 32 #[.string s] w fun e w' => e = .returned (.int .i64 ((rsOf s.data.toList).length : Int)) ∧ Touch (fun _ => False) w w' := by
  have HR : Hid (Calls Tryz.prog 58 #[.string s] w (RunesAny s.data.toList w)) := ref_runes_any s hs w
  go_enter Tryz.func32, Tryz.ntmps32
  go_wp2_with fail
  refine HR.out.mono ?_
  rintro e w1 ⟨hT, a, c, rfl, hown⟩
  have HT : Hid (Touch (fun _ => False) w w1) := hT
  clear hown hT HR
  go_wp2_with fail
  go_ret
  exact ⟨rfl, HT.out⟩

theorem sum16_take (rs : List Nat) (k : Nat) (hk : k < rs.length) : sum16 (rs.take (k + 1)) = sum16 (rs.take k) + un16 rs[k] := by
  rw [List.take_succ_eq_append_getElem hk, sum16_append]; simp [sum16]

end Go.Proofs.YtmknkecaeagmbaaGreatDoor

/- Floats stored and added; a sum as the document has it. It speaks of no function. -/
namespace Go.Proofs.YtmknkecaeagmbaaGreatDoor
open Go.RowKit
set_option linter.unusedVariables false

/-- A float is stored (a law of the walk that the library has for the other kinds). -/
theorem run_store_f64 (P : Program) (w : World) (a : Addr) (m : Mode) (b : Nat) : (store a (.float .f64 b) m).run P w = stored P w a (.float .f64 b) m := run_store P w a _ m rfl

def refClean (v : V) : V := if v.k = 3 then ⟨v.k, v.n, refBits v.f, v.s⟩ else v

def isNum (v : V) : Bool := v.k == 2 || v.k == 3

/-- The float that a number stands for; the sum of two. -/
def vFloat (v : V) : Nat := if v.k == 2 then floatOfInt .f64 v.n else v.f
def sumBits (x y : Nat) : Nat := match Ieee.double.add x y with
  | some r => refBits r
  | none => nanBits
def refAdd (a b : V) : V := if isNum a && isNum b then (if a.k == 2 && b.k == 2 then ⟨2, wrap64 (a.n + b.n), 0, .empty⟩ else ⟨3, 0, sumBits (vFloat a) (vFloat b), .empty⟩) else ⟨0, 0, 0, .empty⟩

/-- x + y of floats: the bits (drawn, where it is no number), and how much is drawn. -/
def addR (x y : Nat) (w : World) : Nat := match Ieee.double.add x y with
  | some r => r
  | none => Question.cut (.nanBits .f64 x y) (w.tape w.drawn (.nanBits .f64 x y))
def addN (x y : Nat) : Nat := match Ieee.double.add x y with
  | some _ => 0
  | none => 1
theorem addR_bits (x y : Nat) (w : World) : refBits (addR x y w) = sumBits x y := by
  unfold addR sumBits
  cases h : Ieee.double.add x y with
  | some r => rfl
  | none =>
    have : isNaN (Question.cut (.nanBits .f64 x y) (w.tape w.drawn (.nanBits .f64 x y))) = true := by
      simp only [Question.cut, isNaN, rung, fS, fI]
      generalize w.tape w.drawn (.nanBits .f64 x y) = t
      refine decide_eq_true ?_
      rcases Nat.mod_two_eq_zero_or_one t with e | e <;> rw [e] <;> omega
    simp only [refBits, this, if_true]
theorem run_add_f64 (P : Program) (x y : Nat) (t : TypeId) (w : World) : (binOp .add t (.float .f64 x) (.float .f64 y)).run P w = .ok (.float .f64 (addR x y w)) (w.drewN (addN x y)) := by
  unfold addR addN
  cases h : Ieee.double.add x y with
  | some r => exact run_float_arith w .add t .f64 x y r h
  | none =>
    simp [binOp, Op.floatArith, FloatKind.format, h, Question.forced]
    rfl
end Go.Proofs.YtmknkecaeagmbaaGreatDoor

/- An operation: its fields, as a value, as a block. -/
namespace Go.Proofs.YtmknkecaeagmbaaGreatDoor
open Go.RowKit
set_option linter.unusedVariables false
set_option maxRecDepth 100000

structure O where
  c : Int
  k : Int
  kind : Int
  st : Int
  lc : Int
  lk : Int
  rc : Int
  rk : Int
  tx : ByteArray
  vk : Int
  vn : Int
  vf : Nat
  vs : ByteArray
  ky : ByteArray
  pc : Int
  pk : Int
  fc : Int
  fk : Int
  fa : Bool
  tc : Int
  tk : Int
  ta : Bool
abbrev O.vals (o : O) : Array Value := #[.int .u64 o.c, .int .u64 o.k, .int .i64 o.kind, .int .u64 o.st, .int .u64 o.lc, .int .u64 o.lk, .int .u64 o.rc, .int .u64 o.rk, .string o.tx, .int .i64 o.vk, .int .i64 o.vn, .float .f64 o.vf, .string o.vs, .string o.ky, .int .u64 o.pc, .int .u64 o.pk, .int .u64 o.fc, .int .u64 o.fk, .bool o.fa, .int .u64 o.tc, .int .u64 o.tk, .bool o.ta]
abbrev O.val (o : O) : Value := .agg o.vals
abbrev opO (o : O) : Obj := .cells o.vals 31
def O.v (o : O) : V := ⟨o.vk, o.vn, o.vf, o.vs⟩
/-- Its clocks. -/
def lenO (o : O) : Nat := if o.kind = 1 then (rsOf o.tx.data.toList).length else 1
/-- What is so of every operation that comes in. -/
structure O.fits (o : O) : Prop where
  c0 : 0 ≤ o.c ∧ o.c < 18446744073709551616
  k0 : 0 ≤ o.k ∧ o.k < 18446744073709551616
  kind : -9223372036854775808 ≤ o.kind ∧ o.kind < 9223372036854775808
  st : 0 ≤ o.st ∧ o.st < 18446744073709551616
  lc : 0 ≤ o.lc ∧ o.lc < 18446744073709551616
  lk : 0 ≤ o.lk ∧ o.lk < 18446744073709551616
  rc : 0 ≤ o.rc ∧ o.rc < 18446744073709551616
  rk : 0 ≤ o.rk ∧ o.rk < 18446744073709551616
  pc : 0 ≤ o.pc ∧ o.pc < 18446744073709551616
  pk : 0 ≤ o.pk ∧ o.pk < 18446744073709551616
  fc : 0 ≤ o.fc ∧ o.fc < 18446744073709551616
  fk : 0 ≤ o.fk ∧ o.fk < 18446744073709551616
  tc : 0 ≤ o.tc ∧ o.tc < 18446744073709551616
  tk : 0 ≤ o.tk ∧ o.tk < 18446744073709551616
  vk : -9223372036854775808 ≤ o.vk ∧ o.vk < 9223372036854775808
  vn : -9223372036854775808 ≤ o.vn ∧ o.vn < 9223372036854775808
  vf : o.vf < 18446744073709551616
theorem lenO_text {o : O} (h : o.kind = 1) : lenO o = (rsOf o.tx.data.toList).length := by unfold lenO; rw [if_pos h]
theorem lenO_other {o : O} (h : ¬ o.kind = 1) : lenO o = 1 := by unfold lenO; rw [if_neg h]

set_option maxHeartbeats 400000 in
theorem ops_len (o : O) (hs : o.tx.size ≤ 4611686018427387904) (w : World) (hU : TabsU w) : Calls Tryz.prog 17 #[o.val] w fun e w' => e = .returned (.int .i64 (lenO o : Int)) ∧ Touch (fun _ => False) w w' := by
  have HL : Hid (∀ W, Touch (fun _ => False) w W → Calls Tryz.prog 49 #[.string o.tx] W fun e w' => e = .returned (.int .i64 ((rsOf o.tx.data.toList).length : Int)) ∧ Touch (fun _ => False) W w') := fun W t => utf_len o.tx hs W (hU.keep t)
  clear hs hU
  by_cases hk : o.kind = 1
  · have HE : Hid (lenO o = (rsOf o.tx.data.toList).length) := lenO_text hk
    have hkb : (o.kind == 1) = true := by simpa using hk
    clear hk
    go_enter Tryz.func17, Tryz.ntmps17
    go_wp2_with fail
    refine (HL.out _ ((Touch.refl _ _).alloc _)).mono ?_
    rintro e w1 ⟨rfl, t⟩
    have HT : Hid (Touch (fun _ => False) w w1) := ((Touch.refl _ _).alloc _).trans t
    clear t HL
    go_wp2_with fail
    go_ret
    exact ⟨by rw [HE.out]; rfl, HT.out⟩
  · have HE : Hid (lenO o = 1) := lenO_other hk
    have hkb : (o.kind == 1) = false := by simpa using hk
    clear hk HL
    go_enter Tryz.func17, Tryz.ntmps17
    go_wp2_with fail
    go_ret
    exact ⟨by rw [HE.out]; rfl, (Touch.refl _ _).alloc _⟩
set_option maxHeartbeats 400000 in
theorem ref_lenO (o : O) (hs : o.tx.size ≤ 17592186044416) (w : World) : Calls Tryz.prog 13 #[o.val] w fun e w' => e = .returned (.int .i64 (lenO o : Int)) ∧ Touch (fun _ => False) w w' := by
  have HL : Hid (∀ W, Calls Tryz.prog 32 #[.string o.tx] W fun e w' => e = .returned (.int .i64 ((rsOf o.tx.data.toList).length : Int)) ∧ Touch (fun _ => False) W w') := fun W => ref_len o.tx hs W
  clear hs
  by_cases hk : o.kind = 1
  · have HE : Hid (lenO o = (rsOf o.tx.data.toList).length) := lenO_text hk
    have hkb : (o.kind == 1) = true := by simpa using hk
    clear hk
    go_enter Tryz.func13, Tryz.ntmps13
    go_wp2_with fail
    refine (HL.out _).mono ?_
    rintro e w1 ⟨rfl, t⟩
    have HT : Hid (Touch (fun _ => False) w w1) := ((Touch.refl _ _).alloc _).trans t
    clear t HL
    go_wp2_with fail
    go_ret
    exact ⟨by rw [HE.out]; rfl, HT.out⟩
  · have HE : Hid (lenO o = 1) := lenO_other hk
    have hkb : (o.kind == 1) = false := by simpa using hk
    clear hk HL
    go_enter Tryz.func13, Tryz.ntmps13
    go_wp2_with fail
    go_ret
    exact ⟨by rw [HE.out]; rfl, (Touch.refl _ _).alloc _⟩
end Go.Proofs.YtmknkecaeagmbaaGreatDoor

/- Arithmetic of bytes and words as the walks spell it. They speak of no program. -/
namespace Go.Proofs.YtmknkecaeagmbaaGreatDoor
open Go.RowKit
set_option linter.unusedVariables false

theorem u8_low7 (b : UInt8) : bits .andNot .u8 (b.toNat : Int) 128 = ((b.toNat % 128 : Nat) : Int) := by
  have h : ∀ x : Fin 256, bits .andNot .u8 ((x : Nat) : Int) 128 = ((x % 128 : Nat) : Int) := by decide +kernel
  exact h ⟨b.toNat, b.toNat_lt⟩

theorem wrap_u64_small (n : Int) (h0 : 0 ≤ n) (h : n < 18446744073709551616) : IntKind.u64.wrap n = n := by
  rw [IntKind.wrap_u64]; omega

/-- A number of m bits, and one behind it. -/
theorem u64_join (a c m : Nat) (ha : a < 2 ^ m) (hc : c * 2 ^ m + a < 18446744073709551616) : bits .or .u64 (a : Int) (IntKind.u64.wrap ((c : Int) * 2 ^ m)) = ((a + c * 2 ^ m : Nat) : Int) := by
  have e : ((c : Int) * 2 ^ m) = ((c * 2 ^ m : Nat) : Int) := by push_cast; rfl
  rw [e, wrap_u64_small _ (by omega) (by omega), u64_or_nat _ _ (by omega) (by omega), Nat.or_comm, ← Nat.shiftLeft_eq, ← Nat.shiftLeft_add_eq_or_of_lt ha, Nat.add_comm]

theorem num_step (b : UInt8) (k N : Nat) (hk : k ≤ 8) (hN : N < 2 ^ (7 * k)) :
    bits .or .u64 (N : Int) (IntKind.u64.wrap (IntKind.u64.wrap (bits .andNot .u8 (b.toNat : Int) 128) * 2 ^ (7 * k))) = ((N + b.toNat % 128 * 2 ^ (7 * k) : Nat) : Int) ∧ N + b.toNat % 128 * 2 ^ (7 * k) < 2 ^ (7 * (k + 1)) := by
  have h1 : b.toNat % 128 < 128 := Nat.mod_lt _ (by decide)
  have h2 : N + b.toNat % 128 * 2 ^ (7 * k) < 2 ^ (7 * (k + 1)) := by
    have : 2 ^ (7 * (k + 1)) = 128 * 2 ^ (7 * k) := by rw [show 7 * (k + 1) = 7 * k + 7 from by omega, Nat.pow_add]; omega
    have : (b.toNat % 128 + 1) * 2 ^ (7 * k) ≤ 128 * 2 ^ (7 * k) := Nat.mul_le_mul_right _ (by omega)
    rw [Nat.add_mul] at this; omega
  have h3 : 2 ^ (7 * (k + 1)) ≤ 2 ^ 63 := Nat.pow_le_pow_right (by decide) (by omega)
  refine ⟨?_, h2⟩
  rw [u8_low7, wrap_u64_small (b.toNat % 128 : Nat) (by omega) (by omega)]
  exact u64_join _ _ _ hN (by have : (2:Nat) ^ 63 = 9223372036854775808 := by decide
                              omega)

theorem num_last (b : UInt8) (N : Nat) (hb : b.toNat ≤ 1) (hN : N < 2 ^ (7 * 9)) :
    bits .or .u64 (N : Int) (IntKind.u64.wrap (IntKind.u64.wrap (bits .andNot .u8 (b.toNat : Int) 128) * 9223372036854775808)) = ((N + b.toNat * 2 ^ (7 * 9) : Nat) : Int) ∧ N + b.toNat * 2 ^ (7 * 9) < 18446744073709551616 := by
  have e : (7 * 9) = 63 := rfl
  rw [e] at *
  have h63 : (2:Nat) ^ 63 = 9223372036854775808 := by decide
  have hs : N + b.toNat * 2 ^ 63 < 18446744073709551616 := by rw [h63] at *; omega
  refine ⟨?_, hs⟩
  rw [u8_low7, Nat.mod_eq_of_lt (by omega), wrap_u64_small (b.toNat : Nat) (by omega) (by omega)]
  have := u64_join N b.toNat 63 hN (by omega)
  rw [show ((2 : Int) ^ 63) = 9223372036854775808 from by decide] at this
  exact this

/-- The number whose sign stands in the lowest bit. -/
def zz (v : Nat) : Int := if v % 2 = 0 then (v / 2 : Nat) else -((v / 2 : Nat) : Int) - 1

theorem wrap64_small (n : Int) (h0 : -9223372036854775808 ≤ n) (h1 : n < 9223372036854775808) : wrap64 n = n := by
  rw [wrap64]; omega

theorem i64_xor_zero (a : Nat) (h : a < 9223372036854775808) : bits .xor .i64 (a : Int) 0 = a := by
  show IntKind.i64.wrap ((BitVec.ofInt 64 (a : Int) ^^^ BitVec.ofInt 64 0).toNat : Int) = _
  have e : BitVec.ofInt 64 0 = 0#64 := by decide
  rw [e, BitVec.xor_zero, ofInt_u64 a (by omega), IntKind.wrap_i64]; omega
theorem i64_xor_ones (a : Nat) (h : a < 9223372036854775808) : bits .xor .i64 (a : Int) (-1) = -(a : Int) - 1 := by
  show IntKind.i64.wrap ((BitVec.ofInt 64 (a : Int) ^^^ BitVec.ofInt 64 (-1)).toNat : Int) = _
  have e : BitVec.ofInt 64 (-1) = BitVec.allOnes 64 := by decide
  rw [e, BitVec.xor_allOnes, BitVec.toNat_not, ofInt_u64 a (by omega), IntKind.wrap_i64]; omega

theorem u64_and_one (v : Nat) (h : v < 18446744073709551616) : bits .and .u64 (v : Int) 1 = ((v % 2 : Nat) : Int) := by
  have := u64_and_nat v 1 h (by decide)
  rw [Nat.and_one_is_mod] at this
  exact this

theorem zz_eq (v : Nat) (h : v ≤ 18446744073709551615) : bits .xor .i64 ((v : Int) / 2) (wrap64 (-wrap64 (bits .and .u64 (v : Int) 1))) = zz v := by
  rw [u64_and_one v (by omega)]
  have e : ((v : Int) / 2) = ((v / 2 : Nat) : Int) := by omega
  rw [e]
  unfold zz
  by_cases h2 : v % 2 = 0
  · rw [if_pos h2, h2, wrap64_small ((0 : Nat) : Int) (by omega) (by omega), wrap64_small _ (by omega) (by omega)]
    exact i64_xor_zero _ (by omega)
  · rw [if_neg h2, show v % 2 = 1 from by omega, wrap64_small ((1 : Nat) : Int) (by omega) (by omega), wrap64_small _ (by omega) (by omega)]
    exact i64_xor_ones _ (by omega)
end Go.Proofs.YtmknkecaeagmbaaGreatDoor
