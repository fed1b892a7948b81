/- The contracts of utf.Check, Runes, Len, Len16. -/
import Derived.Test.YtmknkecaeagmbaaGreatDoorUtfIter
import Derived.Test.YtmknkecaeagmbaaGreatDoorPart2
import Derived.RangeFuncBox
import Derived.Test.YtmknkecaeagmbaaGreatDoorUtfBij
import Derived.WalkKit
import Derived.Test.YtmknkecaeagmbaaGreatDoorProg
import Derived.Laws.OwnMore
import Derived.Test.YtmknkecaeagmbaaGreatDoorPart1
import Derived.Laws.FloatArith
namespace Go.Proofs.YtmknkecaeagmbaaGreatDoor
open Go.RowKit Go.Shelf
set_option linter.unusedVariables false
set_option maxRecDepth 100000
attribute [local go_sem] Oper.semAt_some

set_option maxHeartbeats 400000 in
theorem utf_check (s : ByteArray) (hs : s.size ≤ 9223372036854775807) (w : World) (hT : TabsU w) : Calls Tryz.prog 88 #[.string s] w fun e w' => e = .returned (.bool (runesOf s.data.toList).isSome) ∧ Touch (fun _ => False) w w' := by
  have HV : Hid (Calls Tryz.prog 89 #[.string s] w fun e w' => e = .returned (.bool (runesOf s.data.toList).isSome) ∧ Touch (fun _ => False) w w') := valid_any s hs w hT
  clear hT
  go_enter Tryz.func88, Tryz.ntmps88
  go_wp2_with fail
  refine HV.out.mono ?_
  rintro e w1 ⟨rfl, hT⟩
  go_wp2_with fail
  go_ret
  exact ⟨rfl, hT⟩

set_option maxHeartbeats 400000 in
theorem utf_runes (s : ByteArray) (w : World) : Calls Tryz.prog 70 #[.string s] w fun e w' => e = .returned (.func (.func 97) #[] #[.pointer (some ⟨w.heap.size, 0, none⟩)]) ∧ w' = w.alloc (.cells #[.string s] 9) := by
  go_enter Tryz.func70, Tryz.ntmps70
  go_wp2_with fail
  go_ret
  exact ⟨rfl, rfl⟩

/-- The iterator of a box that holds s. -/
theorem iter_of (n B : Nat) (s : ByteArray) (hs : s.size ≤ 9223372036854775807) (w : World) (hT : TabsU w) (hb : w.cell? ⟨B, 0, none⟩ = some (.string s)) :
    SeqStopsK Fence.wide n Tryz.prog 97 #[.pointer (some ⟨B, 0, none⟩)] enc2 KeepsWalks (fun xs => xs = enumR 0 (rsOf s.data.toList)) (fun pre => pre <+: enumR 0 (rsOf s.data.toList)) (rsOf s.data.toList).length w :=
  runes_stops n B s hs w hb fun w' hB => utf_check s hs w' (hT.keep (Touch.ofBelow hB))

set_option maxHeartbeats 2000000 in
theorem utf_len (s : ByteArray) (hs : s.size ≤ 4611686018427387904) (w : World) (hT : TabsU w) : Calls Tryz.prog 49 #[.string s] w fun e w' => e = .returned (.int .i64 ((rsOf s.data.toList).length : Int)) ∧ Touch (fun _ => False) w w' := by
  have hln : (rsOf s.data.toList).length ≤ s.size := by have := rsOf_len s.data.toList; simpa using this
  refine (callsIn_wide (n := 3)).1 ?_
  refine callsIn_of_wp_marks Tryz.func49 rfl trivial ?_ rfl
  simp only [Tryz.ntmps49, List.size_toArray, List.length_cons, List.length_nil, Nat.reduceAdd, Nat.reduceSub, Array.replicate_succ, Array.replicate_zero, List.push_toArray, List.append_toArray, List.nil_append, List.cons_append]
  gi_wp2_with fail
  refine ⟨trivial, (callsIn_wide.2 (utf_runes s _)).mono ?_⟩
  rintro e w1 ⟨rfl, rfl⟩
  gi_wp2
  have hs0 := (Boxed.new w 3 (.int .i64 0)).alloc (.cells #[.string s] 9)
  have hb := Boxed.new (w.alloc (.cells #[.int .i64 0] 3)) 9 (.string s)
  rw [World.size_alloc] at hb
  have hB0 : Below w.heap.size w ((w.alloc (.cells #[.int .i64 0] 3)).alloc (.cells #[.string s] 9)) := ((Below.refl _ w).alloc (Nat.le_refl _) _).alloc (by simp) _
  refine wpIn_rangeFunc_ownF rfl (by decide) (gf := 97) (lb := #[.pointer (some ⟨w.heap.size + 1, 0, none⟩)]) rfl trivial (enters_of Tryz.func97 (by kernel_rfl) rfl)
    (iter_of _ (w.heap.size + 1) s (by omega) _ (hT.keep (Touch.ofBelow hB0)) hb.cell) walksK_t walksK_b (Below.refl _ _) (fun _ => rfl)
    (fun pre W => Boxed W w.heap.size 3 (.int .i64 (pre.length : Int)) ∧ Below w.heap.size w W)
    (fun _ _ _ => False)
    (OwnFrom.and (Own.from (boxed_own _ _ _) _) (ownFrom_below (Nat.le_refl _) (by simp; omega)))
    (fun _ _ _ _ _ hs _ _ => hs)
    ⟨hs0, hB0⟩
    (fun x => { tmps := #[.string s, undef, .int .i64 0, .pointer (some ⟨w.heap.size, 0, none⟩), .string s, .func (.func 97) #[] #[.pointer (some ⟨w.heap.size + 1, 0, none⟩)], .int .i64 (x.1 : Int), .int .i32 (x.2 : Int), undef, undef, undef], defers := [] }) ?assign ?body ?done ?stop
  case assign =>
    intro l x W K hK
    gi_wp2
    simpa [enc2] using hK
  case body =>
    rintro l pre x W ⟨hX, hB⟩ hlt
    have hlt2 : pre.length < s.size := by omega
    have hc := hX.cell
    have hf := hX.frozen
    have HX : Hid (Boxed W w.heap.size 3 (.int .i64 (pre.length : Int))) := hX
    have HP : Hid ((pre ++ [x]).length = pre.length + 1) := by rw [Hid]; simp
    clear hX
    gi_wp2
    exact ⟨KeepsOthers.setCell _ _ _, walks_of (KeepsOthers.setCell _ _ _), by rw [HP.out]; exact HX.out.set _, hB.setCell (p := ⟨w.heap.size, 0, none⟩) (Nat.le_refl _) _⟩
  case done =>
    rintro D ys W hD rfl ⟨hX, hB⟩ hK
    rw [enumR_len] at hX
    have hc := hX.cell
    gi_wp2
    refine ⟨by simp, .inl ⟨_, _, rfl, run_takeDeferred hK, ?_⟩⟩
    exact ⟨_, results_tmp rfl _ _ _, rfl, Touch.ofBelow (hB.trans (belowK_b (w := w) (Nat.le_refl _) W D _ _ (by simp at hD; omega) hK rfl rfl))⟩
  case stop =>
    rintro D c pre W _ _ h _
    exact h.elim
end Go.Proofs.YtmknkecaeagmbaaGreatDoor

/- The contracts of utf.units16, utf.one, quireref3.wide, utf8.RuneLen. -/
namespace Go.Proofs.YtmknkecaeagmbaaGreatDoor
open Go.RowKit
set_option linter.unusedVariables false

/-- A rune's units of UTF-16. -/
def un16 (r : Nat) : Nat := if 65535 < r then 2 else 1
def sum16 (l : List Nat) : Nat := (l.map un16).sum
theorem un16_bd (r : Nat) : 1 ≤ un16 r ∧ un16 r ≤ 2 := by unfold un16; split <;> omega
theorem sum16_nil : sum16 [] = 0 := rfl
theorem sum16_cons (r : Nat) (l : List Nat) : sum16 (r :: l) = un16 r + sum16 l := by simp [sum16]
theorem sum16_append (a b : List Nat) : sum16 (a ++ b) = sum16 a + sum16 b := by simp [sum16]
theorem sum16_bd (l : List Nat) : l.length ≤ sum16 l ∧ sum16 l ≤ 2 * l.length := by
  induction l with
  | nil => simp [sum16]
  | cons r l ih => have := un16_bd r; rw [sum16_cons, List.length_cons]; omega

theorem runeLen_any (r : Nat) (w : World) : Calls Tryz.prog 71 #[.int .i32 (r : Int)] w fun e w' => e = .returned (.int .i64 (Go.Lib.runeLen (r : Int))) ∧ w' = w := by
  have hc : r ≤ 127 ∨ (127 < r ∧ r ≤ 2047) ∨ (2047 < r ∧ r < 55296) ∨ (55296 ≤ r ∧ r ≤ 57343) ∨ (57343 < r ∧ r ≤ 65535) ∨ (65535 < r ∧ r ≤ 1114111) ∨ 1114111 < r := by omega
  rcases hc with h | ⟨h, h'⟩ | ⟨h, h'⟩ | ⟨h, h'⟩ | ⟨h, h'⟩ | ⟨h, h'⟩ | h
  · have HE : Hid (Go.Lib.runeLen (r : Int) = 1) := by unfold Go.Lib.runeLen; rw [Hid]; repeat' split
                                                       all_goals omega
    generalize Go.Lib.runeLen (r : Int) = X at *
    go_enter Tryz.func71, Tryz.ntmps71
    go_wp2_with fail
    go_ret
    exact ⟨by rw [HE.out]; rfl, rfl⟩
  · have HE : Hid (Go.Lib.runeLen (r : Int) = 2) := by unfold Go.Lib.runeLen; rw [Hid]; repeat' split
                                                       all_goals omega
    generalize Go.Lib.runeLen (r : Int) = X at *
    go_enter Tryz.func71, Tryz.ntmps71
    go_wp2_with fail
    go_ret
    exact ⟨by rw [HE.out]; rfl, rfl⟩
  · have HE : Hid (Go.Lib.runeLen (r : Int) = 3) := by unfold Go.Lib.runeLen; rw [Hid]; repeat' split
                                                       all_goals omega
    generalize Go.Lib.runeLen (r : Int) = X at *
    go_enter Tryz.func71, Tryz.ntmps71
    go_wp2_with fail
    go_ret
    exact ⟨by rw [HE.out]; rfl, rfl⟩
  · have HE : Hid (Go.Lib.runeLen (r : Int) = -1) := by unfold Go.Lib.runeLen; rw [Hid]; repeat' split
                                                        all_goals omega
    generalize Go.Lib.runeLen (r : Int) = X at *
    go_enter Tryz.func71, Tryz.ntmps71
    go_wp2_with fail
    go_ret
    exact ⟨by rw [HE.out]; rfl, rfl⟩
  · have HE : Hid (Go.Lib.runeLen (r : Int) = 3) := by unfold Go.Lib.runeLen; rw [Hid]; repeat' split
                                                       all_goals omega
    generalize Go.Lib.runeLen (r : Int) = X at *
    go_enter Tryz.func71, Tryz.ntmps71
    go_wp2_with fail
    go_ret
    exact ⟨by rw [HE.out]; rfl, rfl⟩
  · have HE : Hid (Go.Lib.runeLen (r : Int) = 4) := by unfold Go.Lib.runeLen; rw [Hid]; repeat' split
                                                       all_goals omega
    generalize Go.Lib.runeLen (r : Int) = X at *
    go_enter Tryz.func71, Tryz.ntmps71
    go_wp2_with fail
    go_ret
    exact ⟨by rw [HE.out]; rfl, rfl⟩
  · have HE : Hid (Go.Lib.runeLen (r : Int) = -1) := by unfold Go.Lib.runeLen; rw [Hid]; repeat' split
                                                        all_goals omega
    generalize Go.Lib.runeLen (r : Int) = X at *
    go_enter Tryz.func71, Tryz.ntmps71
    go_wp2_with fail
    go_ret
    exact ⟨by rw [HE.out]; rfl, rfl⟩
end Go.Proofs.YtmknkecaeagmbaaGreatDoor

/- The contracts of quireref3.Runes in one form, Len, Len16. -/
namespace Go.Proofs.YtmknkecaeagmbaaGreatDoor
open Go.RowKit
set_option linter.unusedVariables false
set_option maxRecDepth 100000

/-- A slice of runes lies in w. -/
def Row (w : World) (a : Option Addr) (c : Nat) (rs : List Nat) : Prop :=
  rs.length ≤ c ∧ c ≤ maxLen ∧ (rs ≠ [] → ∃ g, a = some ⟨g, 0, none⟩ ∧ ∀ k, (h : k < rs.length) → w.cell? ⟨g, k, none⟩ = some (.int .i32 (rs[k] : Int)))
theorem Row.keep {w w' : World} {a : Option Addr} {c : Nat} {rs : List Nat} (h : Row w a c rs) (hT : Touch (fun _ => False) w w') : Row w' a c rs := by
  refine ⟨h.1, h.2.1, fun hne => ?_⟩
  obtain ⟨g, e, hc⟩ := h.2.2 hne
  exact ⟨g, e, fun k hk => (hT.cell (World.block_lt_of_cell? _ _ (hc k hk)) id k).trans (hc k hk)⟩
/-- What Runes answers: a slice of the text's runes, and whether it is a text. -/
def RunesAny (l : List UInt8) (w : World) (e : Ending) (w' : World) : Prop :=
  Touch (fun _ => False) w w' ∧ ∃ a c, e = .returned (.tuple #[.slice a (rsOf l).length c, .bool (runesOf l).isSome]) ∧ Row w' a c (rsOf l)
theorem ref_runes_any (s : ByteArray) (hs : s.size ≤ 17592186044416) (w : World) : Calls Tryz.prog 58 #[.string s] w (RunesAny s.data.toList w) := by
  refine (ref_runes s hs w).mono ?_
  rintro e w' ⟨hT, ⟨rs, v, h, rfl, hown⟩ | ⟨h, rfl⟩⟩
  · refine ⟨hT, ?_⟩
    rw [rsOf_some h, h]
    have hown0 := hown
    rcases hown.2 with ⟨e, h0⟩ | ⟨g, cap, cur, e, _, hb, hn, hm, _⟩
    · refine ⟨none, 0, ?_, by omega, Nat.zero_le _, fun hne => absurd (List.eq_nil_of_length_eq_zero h0) hne⟩
      rw [e, h0]; rfl
    · subst e
      refine ⟨_, cap, rfl, hn, hm, fun _ => ⟨g, rfl, fun k hk => ?_⟩⟩
      rw [hown0.cellAt k (by omega), runeCells, List.getElem?_map, List.getElem?_eq_getElem hk]
      rfl
  · refine ⟨hT, ?_⟩
    rw [rsOf_none h, h]
    exact ⟨none, 0, rfl, Nat.le_refl _, Nat.zero_le _, fun hne => absurd rfl hne⟩

set_option maxHeartbeats 400000 in
theorem ref_len (s : ByteArray) (hs : s.size ≤ 17592186044416) (w : World) : Calls Tryz.prog 32 #[.string s] w fun e w' => e = .returned (.int .i64 ((rsOf s.data.toList).length : Int)) ∧ Touch (fun _ => False) w w' := by
  have HR : Hid (Calls Tryz.prog 58 #[.string s] w (RunesAny s.data.toList w)) := ref_runes_any s hs w
  go_enter Tryz.func32, Tryz.ntmps32
  go_wp2_with fail
  refine HR.out.mono ?_
  rintro e w1 ⟨hT, a, c, rfl, hown⟩
  have HT : Hid (Touch (fun _ => False) w w1) := hT
  clear hown hT HR
  go_wp2_with fail
  go_ret
  exact ⟨rfl, HT.out⟩

theorem sum16_take (rs : List Nat) (k : Nat) (hk : k < rs.length) : sum16 (rs.take (k + 1)) = sum16 (rs.take k) + un16 rs[k] := by
  rw [List.take_succ_eq_append_getElem hk, sum16_append]; simp [sum16]

end Go.Proofs.YtmknkecaeagmbaaGreatDoor

/- Floats stored and added; a sum as the document has it. It speaks of no function. -/
namespace Go.Proofs.YtmknkecaeagmbaaGreatDoor
open Go.RowKit
set_option linter.unusedVariables false

/-- A float is stored (a law of the walk that the library has for the other kinds). -/
theorem run_store_f64 (P : Program) (w : World) (a : Addr) (m : Mode) (b : Nat) : (store a (.float .f64 b) m).run P w = stored P w a (.float .f64 b) m := run_store P w a _ m rfl

def refClean (v : V) : V := if v.k = 3 then ⟨v.k, v.n, refBits v.f, v.s⟩ else v

def isNum (v : V) : Bool := v.k == 2 || v.k == 3

/-- The float that a number stands for; the sum of two. -/
def vFloat (v : V) : Nat := if v.k == 2 then floatOfInt .f64 v.n else v.f
def sumBits (x y : Nat) : Nat := match Ieee.double.add x y with
  | some r => refBits r
  | none => nanBits
def refAdd (a b : V) : V := if isNum a && isNum b then (if a.k == 2 && b.k == 2 then ⟨2, wrap64 (a.n + b.n), 0, .empty⟩ else ⟨3, 0, sumBits (vFloat a) (vFloat b), .empty⟩) else ⟨0, 0, 0, .empty⟩

/-- x + y of floats: the bits (drawn, where it is no number), and how much is drawn. -/
def addR (x y : Nat) (w : World) : Nat := match Ieee.double.add x y with
  | some r => r
  | none => Question.cut (.nanBits .f64 x y) (w.tape w.drawn (.nanBits .f64 x y))
def addN (x y : Nat) : Nat := match Ieee.double.add x y with
  | some _ => 0
  | none => 1
theorem addR_bits (x y : Nat) (w : World) : refBits (addR x y w) = sumBits x y := by
  unfold addR sumBits
  cases h : Ieee.double.add x y with
  | some r => rfl
  | none =>
    have : isNaN (Question.cut (.nanBits .f64 x y) (w.tape w.drawn (.nanBits .f64 x y))) = true := by
      simp only [Question.cut, isNaN, rung, fS, fI]
      generalize w.tape w.drawn (.nanBits .f64 x y) = t
      refine decide_eq_true ?_
      rcases Nat.mod_two_eq_zero_or_one t with e | e <;> rw [e] <;> omega
    simp only [refBits, this, if_true]
theorem run_add_f64 (P : Program) (x y : Nat) (t : TypeId) (w : World) : (binOp .add t (.float .f64 x) (.float .f64 y)).run P w = .ok (.float .f64 (addR x y w)) (w.drewN (addN x y)) := by
  unfold addR addN
  cases h : Ieee.double.add x y with
  | some r => exact run_float_arith w .add t .f64 x y r h
  | none =>
    simp [binOp, Op.floatArith, FloatKind.format, h, Question.forced]
    rfl
end Go.Proofs.YtmknkecaeagmbaaGreatDoor
