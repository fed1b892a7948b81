/- Package marks: what a place shows, as a function (no Go in it). -/
import Derived.Test.YtdnhoicfolkbnaaGreatMkG
import Derived.Test.YtdnhoicfolkbnaaGreatPart22
import Derived.Sort.KeysCollected
import Derived.Laws.BitsAllLaws
import Derived.Laws.FloatArith
import Derived.Test.YtdnhoicfolkbnaaGreatPart17
import Derived.Test.YtdnhoicfolkbnaaGreatPart8
import Derived.Deep.RegionWith
namespace Go.Proofs.YtdnhoicfolkbnaaGreat
open Go.RowKit Go.Maps Go.Sort
set_option linter.unusedVariables false
set_option linter.unusedSimpArgs false

theorem winsM_rising {place : Int} : ∀ (l : List Spn) (es : List (Key × O)), Rising es → Rising (l.foldl (winsM place) es)
  | [], es, h => h
  | x :: l, es, h => by
    rw [List.foldl_cons]
    refine winsM_rising l _ ?_
    unfold winsM
    split
    · exact h
    · exact winP_rising h
theorem winsM_len {place : Int} : ∀ (l : List Spn) (es : List (Key × O)), (l.foldl (winsM place) es).length ≤ es.length + l.length
  | [], es => Nat.le_refl _
  | x :: l, es => by
    rw [List.foldl_cons]
    refine Nat.le_trans (winsM_len l _) ?_
    have hi : ∀ (k : Key) (o : O) (m : List (Key × O)), (ains k o m).length = m.length + 1 := by
      intro k o m
      induction m with
      | nil => rfl
      | cons y r ih =>
        show (if bytesBefore k y.1 then (k, o) :: y :: r else y :: ains k o r).length = _
        split
        · rfl
        · rw [List.length_cons, ih]; rfl
    have hp : ∀ (k : Key) (o : O) (m : List (Key × O)), (aput k o m).length ≤ m.length + 1 := by
      intro k o m
      unfold aput
      rw [hi]
      have : (adel k m).length ≤ m.length := List.length_filter_le _ _
      omega
    have h1 : (winsM place es x).length ≤ es.length + 1 := by
      unfold winsM
      split
      · omega
      · unfold winP
        split
        · exact hp _ _ _
        · split
          · exact hp _ _ _
          · omega
    simp only [List.length_cons]
    omega
/-- What is shown of the winners. -/
def showM (es : List (Key × O)) : List Mk := es.filterMap fun p => if p.2.vk == 0 then none else some (mk p.2)
def atM (S : SS) (l : List O) (place : Int) : List Mk := showM ((spansM S l).foldl (winsM place) [])
theorem showM_take {es : List (Key × O)} {j : Nat} (h : j < es.length) : showM (es.take (j + 1)) = showM (es.take j) ++ (if (es[j].2.vk == 0) = true then [] else [mk es[j].2]) := by
  unfold showM
  rw [List.take_succ_eq_append_getElem h, List.filterMap_append]
  congr 1
  rw [List.filterMap_cons]
  cases e : (es[j].2.vk == 0) <;> simp [e]
theorem showM_len (es : List (Key × O)) : (showM es).length ≤ es.length := List.length_filterMap_le _ _
theorem getO_at {es : List (Key × O)} (h : Rising es) {j : Nat} (hj : j < es.length) : getO es[j].1 es = es[j].2 := by
  unfold getO
  have e : aget es[j].1 es = some es[j].2 := aget_of_mem h (List.getElem_mem hj)
  rw [e]
  rfl
theorem rising_sortedO (es : List (Key × O)) (h : Rising es) {ss : List Key} (hs : ss.Perm (es.map (·.1))) : ss.mergeSort (fun x y => decide (x ≤ y)) = es.map (·.1) := by
  have e : ss.mergeSort leB = (es.map (·.1)).mergeSort leB := mergeSort_of_perm hs
  refine e.trans (List.mergeSort_of_pairwise ?_)
  refine List.pairwise_map.2 (h.imp fun {p q} hpq => ?_)
  simp only [leB, decide_eq_true_eq]
  exact List.le_of_lt (before_lt _ _ hpq)
end Go.Proofs.YtdnhoicfolkbnaaGreat

/- The contracts of value's isNaN, oneNaN, floatRank, and of cmp.Compare, cmp.Or as value calls them. -/
namespace Go.Proofs.YtdnhoicfolkbnaaGreat
open Go.RowKit
set_option linter.unusedVariables false
set_option maxRecDepth 100000

set_option maxHeartbeats 400000 in
theorem v_isNaN (f : Nat) (w : World) : Calls Tryz.prog 146 #[.float .f64 f] w fun e w' => e = .returned (.bool (isNaN f)) ∧ w' = w := by
  have h2 := self_neq f
  go_enter Tryz.func146, Tryz.ntmps146
  go_wp2
  go_ret
  exact ⟨rfl, rfl⟩

set_option maxHeartbeats 400000 in
theorem v_oneNaN (f : Nat) (w : World) : Calls Tryz.prog 121 #[.float .f64 f] w fun e w' => e = .returned (.float .f64 (refBits f)) ∧ w' = w := by
  have h1 : ∀ w, (callFunc 147 #[.int .u64 9221120237041090560]).run Tryz.prog w = .ok (.value (.float .f64 9221120237041090560)) w := fun w => f64frombits_run 9221120237041090560 w
  have HE : Hid (refBits f = if isNaN f then nanBits else f) := rfl
  generalize refBits f = R at *
  go_enter Tryz.func121, Tryz.ntmps121
  go_wp2_with fail
  refine (v_isNaN f _).mono ?_
  rintro e w1 ⟨rfl, rfl⟩
  cases h : isNaN f
  · have HF : Hid (R = f) := by rw [Hid, HE.out, h]; rfl
    go_wp2_with fail
    go_ret
    exact ⟨congrArg (fun x : Nat => Ending.returned (.float .f64 x)) HF.out.symm, rfl⟩
  · have HF : Hid (R = nanBits) := by rw [Hid, HE.out, h]; rfl
    go_wp2_with fail
    go_ret
    exact ⟨congrArg (fun x : Nat => Ending.returned (.float .f64 x)) HF.out.symm, rfl⟩

theorem nat_and_top (f : Nat) : f &&& 2 ^ 63 = if f.testBit 63 then 2 ^ 63 else 0 := by
  apply Nat.eq_of_testBit_eq
  intro i
  rw [Nat.testBit_and, Nat.testBit_two_pow]
  by_cases h : 63 = i
  · subst h
    cases f.testBit 63
    · rfl
    · rw [if_pos rfl, Nat.testBit_two_pow]; rfl
  · rw [decide_eq_false h, Bool.and_false]
    cases f.testBit 63
    · simp
    · rw [if_pos rfl, Nat.testBit_two_pow, decide_eq_false h]
theorem two63 : (2 : Nat) ^ 63 = 9223372036854775808 := by decide
theorem u64_top_low (f : Nat) (h : f < 9223372036854775808) : bits .and .u64 (f : Int) 9223372036854775808 = 0 := by
  rw [show (9223372036854775808 : Int) = ((2 ^ 63 : Nat) : Int) from by decide, u64_and_nat _ _ (by omega) (by decide), nat_and_top, Nat.testBit_lt_two_pow (by rw [two63]; exact h)]
  rfl
theorem u64_top_high (f : Nat) (h : ¬ f < 9223372036854775808) (h1 : f < 18446744073709551616) : bits .and .u64 (f : Int) 9223372036854775808 = 9223372036854775808 := by
  obtain ⟨g, rfl⟩ : ∃ g, f = 2 ^ 63 + g := ⟨f - 9223372036854775808, by rw [two63]; omega⟩
  rw [two63] at h1
  have hg : g < 2 ^ 63 := by rw [two63]; omega
  rw [show (9223372036854775808 : Int) = ((2 ^ 63 : Nat) : Int) from by decide, u64_and_nat _ _ (by rw [two63]; omega) (by decide), nat_and_top, Nat.testBit_two_pow_add_eq, Nat.testBit_lt_two_pow hg]
  rfl
theorem u64_top_or (f : Nat) (h : f < 9223372036854775808) : bits .or .u64 (f : Int) 9223372036854775808 = (f : Int) + 9223372036854775808 := by
  rw [show (9223372036854775808 : Int) = ((2 ^ 63 : Nat) : Int) from by decide, u64_or_nat _ _ (by omega) (by decide), Nat.or_comm]
  have := Nat.two_pow_add_eq_or_of_lt (i := 63) (b := f) (by rw [two63]; exact h) 1
  rw [Nat.mul_one] at this
  rw [← this, two63]; omega

theorem u64_flip (f : Nat) (h : f < 18446744073709551616) : bits .xor .u64 IntKind.u64.max (f : Int) = 18446744073709551615 - (f : Int) := by
  show IntKind.u64.wrap ((BitVec.ofInt 64 18446744073709551615 ^^^ BitVec.ofInt 64 (f : Int)).toNat : Int) = _
  rw [show BitVec.ofInt 64 18446744073709551615 = BitVec.allOnes 64 from by decide, BitVec.allOnes_xor, BitVec.toNat_not, ofInt_u64 f h, IntKind.wrap_u64]; omega

set_option maxHeartbeats 400000 in
theorem v_rank (f : Nat) (hf : f < 18446744073709551616) (w : World) : Calls Tryz.prog 126 #[.float .f64 f] w fun e w' => e = .returned (.int .u64 (refOrder f + 9223372036854775808)) ∧ w' = w := by
  have h1 := f64bits_run
  have HE : Hid (refOrder f = if isNaN f then 9223372036854775807 else if f < 9223372036854775808 then (f : Int) else 9223372036854775807 - (f : Int)) := rfl
  generalize refOrder f = R at *
  go_enter Tryz.func126, Tryz.ntmps126
  go_wp2_with fail
  refine (v_isNaN f _).mono ?_
  rintro e w1 ⟨rfl, rfl⟩
  cases h : isNaN f
  · by_cases hs : f < 9223372036854775808
    · have HF : Hid (R + 9223372036854775808 = (f : Int) + 9223372036854775808) := by rw [Hid, HE.out, h, if_pos hs]; rfl
      have t1 := u64_top_low f hs
      have t2 := u64_top_or f hs
      clear hs
      go_wp2_with fail
      go_ret
      exact ⟨congrArg (fun x : Int => Ending.returned (.int .u64 x)) HF.out.symm, rfl⟩
    · have HF : Hid (R + 9223372036854775808 = 18446744073709551615 - (f : Int)) := by
        rw [Hid, HE.out, h, if_neg hs]
        simp only [Bool.false_eq_true, if_false]; omega
      have t1 := u64_top_high f hs hf
      have hx := u64_flip f hf
      clear hs
      go_wp2_with fail
      go_ret
      exact ⟨congrArg (fun x : Int => Ending.returned (.int .u64 x)) HF.out.symm, rfl⟩
  · have HF : Hid (R + 9223372036854775808 = 18446744073709551615) := by rw [Hid, HE.out, h]; rfl
    go_wp2_with fail
    go_ret
    exact ⟨congrArg (fun x : Int => Ending.returned (.int .u64 x)) HF.out.symm, rfl⟩

set_option maxHeartbeats 400000 in
theorem cmp_int (a b : Int) (w : World) : Calls Tryz.prog 123 #[.int .i64 a, .int .i64 b] w fun e w' => e = .returned (.int .i64 (refInts a b)) ∧ w' = w := by
  by_cases h1 : a < b
  · have HE : Hid (refInts a b = -1) := by simp [Hid, refInts, h1]
    go_enter Tryz.func123, Tryz.ntmps123
    go_wp2
    go_ret
    exact ⟨congrArg (fun x : Int => Ending.returned (.int .i64 x)) HE.out.symm, rfl⟩
  · by_cases h2 : b < a
    · have HE : Hid (refInts a b = 1) := by simp [Hid, refInts, h1, h2]
      go_enter Tryz.func123, Tryz.ntmps123
      go_wp2
      go_ret
      exact ⟨congrArg (fun x : Int => Ending.returned (.int .i64 x)) HE.out.symm, rfl⟩
    · have HE : Hid (refInts a b = 0) := by simp [Hid, refInts, h1, h2]
      go_enter Tryz.func123, Tryz.ntmps123
      go_wp2
      go_ret
      exact ⟨congrArg (fun x : Int => Ending.returned (.int .i64 x)) HE.out.symm, rfl⟩
set_option maxHeartbeats 400000 in
theorem cmp_int64 (a b : Int) (w : World) : Calls Tryz.prog 124 #[.int .i64 a, .int .i64 b] w fun e w' => e = .returned (.int .i64 (refInts a b)) ∧ w' = w := by
  by_cases h1 : a < b
  · have HE : Hid (refInts a b = -1) := by simp [Hid, refInts, h1]
    go_enter Tryz.func124, Tryz.ntmps124
    go_wp2
    go_ret
    exact ⟨congrArg (fun x : Int => Ending.returned (.int .i64 x)) HE.out.symm, rfl⟩
  · by_cases h2 : b < a
    · have HE : Hid (refInts a b = 1) := by simp [Hid, refInts, h1, h2]
      go_enter Tryz.func124, Tryz.ntmps124
      go_wp2
      go_ret
      exact ⟨congrArg (fun x : Int => Ending.returned (.int .i64 x)) HE.out.symm, rfl⟩
    · have HE : Hid (refInts a b = 0) := by simp [Hid, refInts, h1, h2]
      go_enter Tryz.func124, Tryz.ntmps124
      go_wp2
      go_ret
      exact ⟨congrArg (fun x : Int => Ending.returned (.int .i64 x)) HE.out.symm, rfl⟩
set_option maxHeartbeats 400000 in
theorem cmp_uint64 (a b : Int) (w : World) : Calls Tryz.prog 125 #[.int .u64 a, .int .u64 b] w fun e w' => e = .returned (.int .i64 (refInts a b)) ∧ w' = w := by
  by_cases h1 : a < b
  · have HE : Hid (refInts a b = -1) := by simp [Hid, refInts, h1]
    go_enter Tryz.func125, Tryz.ntmps125
    go_wp2
    go_ret
    exact ⟨congrArg (fun x : Int => Ending.returned (.int .i64 x)) HE.out.symm, rfl⟩
  · by_cases h2 : b < a
    · have HE : Hid (refInts a b = 1) := by simp [Hid, refInts, h1, h2]
      go_enter Tryz.func125, Tryz.ntmps125
      go_wp2
      go_ret
      exact ⟨congrArg (fun x : Int => Ending.returned (.int .i64 x)) HE.out.symm, rfl⟩
    · have HE : Hid (refInts a b = 0) := by simp [Hid, refInts, h1, h2]
      go_enter Tryz.func125, Tryz.ntmps125
      go_wp2
      go_ret
      exact ⟨congrArg (fun x : Int => Ending.returned (.int .i64 x)) HE.out.symm, rfl⟩
set_option maxHeartbeats 400000 in
theorem cmp_string (s s2 : ByteArray) (w : World) : Calls Tryz.prog 127 #[.string s, .string s2] w fun e w' => e = .returned (.int .i64 (refText s s2)) ∧ w' = w := by
  cases h4 : Op.bytesLess s.toList s2.toList
  · cases h5 : (s.toList == s2.toList)
    · have HF : Hid (refText s s2 = 1) := by rw [Hid, refText, h4, h5]; rfl
      go_enter Tryz.func127, Tryz.ntmps127
      go_wp2
      go_ret
      exact ⟨congrArg (fun x : Int => Ending.returned (.int .i64 x)) HF.out.symm, rfl⟩
    · have HF : Hid (refText s s2 = 0) := by rw [Hid, refText, h4, h5]; rfl
      go_enter Tryz.func127, Tryz.ntmps127
      go_wp2
      go_ret
      exact ⟨congrArg (fun x : Int => Ending.returned (.int .i64 x)) HF.out.symm, rfl⟩
  · have HF : Hid (refText s s2 = -1) := by rw [Hid, refText, h4]; rfl
    go_enter Tryz.func127, Tryz.ntmps127
    go_wp2
    go_ret
    exact ⟨congrArg (fun x : Int => Ending.returned (.int .i64 x)) HF.out.symm, rfl⟩

/-- The first that isn't zero. -/
def firstNZ : List Int → Int
  | [] => 0
  | x :: r => if x ≠ 0 then x else firstNZ r
set_option maxHeartbeats 400000 in
theorem cmp_or (xs : List Int) (n : Nat) (hn : n = xs.length) (b : Nat) (w : World) (h : ∀ j (hj : j < xs.length), w.cell? ⟨b, j, none⟩ = some (.int .i64 xs[j])) (hl : xs.length < 4611686018427387904) :
    Calls Tryz.prog 122 #[.slice (some ⟨b, 0, none⟩) n n] w fun e w' => e = .returned (.int .i64 (firstNZ xs)) ∧ w' = w := by
  subst hn
  have HC : Hid (∀ j (hj : j < xs.length), w.cell? ⟨b, j, none⟩ = some (.int .i64 xs[j])) := h
  clear h
  have HR : Hid (firstNZ xs = firstNZ (xs.drop 0)) := rfl
  generalize firstNZ xs = R at *
  go_enter Tryz.func122, Tryz.ntmps122
  go_wp2_with fail
  go_loopw [8] (fun i wr => ∃ k : Nat, i = .int .i64 k ∧ k ≤ xs.length ∧ R = firstNZ (xs.drop k) ∧ wr = w) (fun i _ => (xs.length - intOf i).toNat)
  case atStart => exact ⟨0, rfl, Nat.zero_le _, HR.out, rfl⟩
  case round =>
    obtain ⟨k, rfl, hk, hR, rfl⟩ := hrel
    have HR2 : Hid (R = firstNZ (xs.drop k)) := hR
    clear hR
    by_cases hk2 : k < xs.length
    · have hc := HC.out k hk2
      have HX : Hid (R = if xs[k] ≠ 0 then xs[k] else firstNZ (xs.drop (k + 1))) := by rw [Hid, HR2.out, List.drop_eq_getElem_cons hk2]; rfl
      generalize xs[k] = x at *
      by_cases hx : x = 0
      · have t : (x != 0) = false := by rw [hx]; rfl
        have HN : Hid (R = firstNZ (xs.drop (k + 1))) := by rw [Hid, HX.out, if_neg (by simpa using hx)]
        clear hx
        go_wp2_with fail
        go_roundw
        case rel => exact ⟨k + 1, by go_num, by omega, HN.out, trivial⟩
        case measure => simp [intOf]; omega
      · have t : (x != 0) = true := by rw [bne_iff_ne]; exact hx
        have HN : Hid (R = x) := by rw [Hid, HX.out, if_pos hx]
        clear hx
        go_wp2_with fail
        go_ret
        exact ⟨congrArg (fun x : Int => Ending.returned (.int .i64 x)) HN.out.symm, rfl⟩
    · have HN : Hid (R = 0) := by rw [Hid, HR2.out, List.drop_eq_nil_of_le (by omega)]; rfl
      go_wp2_with fail
      go_ret
      exact ⟨congrArg (fun x : Int => Ending.returned (.int .i64 x)) HN.out.symm, rfl⟩
end Go.Proofs.YtdnhoicfolkbnaaGreat

/- Floats stored and added; a sum as the document has it. It speaks of no function. -/
namespace Go.Proofs.YtdnhoicfolkbnaaGreat
open Go.RowKit
set_option linter.unusedVariables false

/-- A float is stored (a law of the walk that the library has for the other kinds). -/
theorem run_store_f64 (P : Program) (w : World) (a : Addr) (m : Mode) (b : Nat) : (store a (.float .f64 b) m).run P w = stored P w a (.float .f64 b) m := run_store P w a _ m rfl

def refClean (v : V) : V := if v.k = 3 then ⟨v.k, v.n, refBits v.f, v.s⟩ else v

def isNum (v : V) : Bool := v.k == 2 || v.k == 3

/-- The float that a number stands for; the sum of two. -/
def vFloat (v : V) : Nat := if v.k == 2 then floatOfInt .f64 v.n else v.f
def sumBits (x y : Nat) : Nat := match Ieee.double.add x y with
  | some r => refBits r
  | none => nanBits
def refAdd (a b : V) : V := if isNum a && isNum b then (if a.k == 2 && b.k == 2 then ⟨2, wrap64 (a.n + b.n), 0, .empty⟩ else ⟨3, 0, sumBits (vFloat a) (vFloat b), .empty⟩) else ⟨0, 0, 0, .empty⟩

/-- x + y of floats: the bits (drawn, where it is no number), and how much is drawn. -/
def addR (x y : Nat) (w : World) : Nat := match Ieee.double.add x y with
  | some r => r
  | none => Question.cut (.nanBits .f64 x y) (w.tape w.drawn (.nanBits .f64 x y))
def addN (x y : Nat) : Nat := match Ieee.double.add x y with
  | some _ => 0
  | none => 1
theorem addR_bits (x y : Nat) (w : World) : refBits (addR x y w) = sumBits x y := by
  unfold addR sumBits
  cases h : Ieee.double.add x y with
  | some r => rfl
  | none =>
    have : isNaN (Question.cut (.nanBits .f64 x y) (w.tape w.drawn (.nanBits .f64 x y))) = true := by
      simp only [Question.cut, isNaN, rung, fS, fI]
      generalize w.tape w.drawn (.nanBits .f64 x y) = t
      refine decide_eq_true ?_
      rcases Nat.mod_two_eq_zero_or_one t with e | e <;> rw [e] <;> omega
    simp only [refBits, this, if_true]
theorem run_add_f64 (P : Program) (x y : Nat) (t : TypeId) (w : World) : (binOp .add t (.float .f64 x) (.float .f64 y)).run P w = .ok (.float .f64 (addR x y w)) (w.drewN (addN x y)) := by
  unfold addR addN
  cases h : Ieee.double.add x y with
  | some r => exact run_float_arith w .add t .f64 x y r h
  | none =>
    simp [binOp, Op.floatArith, FloatKind.format, h, Question.forced]
    rfl
end Go.Proofs.YtdnhoicfolkbnaaGreat

/- The contracts of value's empty, asFloat. -/
namespace Go.Proofs.YtdnhoicfolkbnaaGreat
open Go.RowKit
set_option linter.unusedVariables false
set_option maxRecDepth 100000

/-- Nothing but a kind. -/
def vEmpty (v : V) : Bool := (v.n == 0) && ((v.f : Int) == 0) && v.s.toList.isEmpty
/-- The number as a float, and whether it is one. -/
def vNum (v : V) : Nat := if isNum v then vFloat v else 0
end Go.Proofs.YtdnhoicfolkbnaaGreat

/- The contract of value.Clean. -/
namespace Go.Proofs.YtdnhoicfolkbnaaGreat
open Go.RowKit
set_option linter.unusedVariables false
set_option maxRecDepth 100000

/-- A NaN's bits are the one NaN's, whatever the kind. -/
def vClean (v : V) : V := ⟨v.k, v.n, refBits v.f, v.s⟩
set_option maxHeartbeats 400000 in
theorem v_clean (v : V) (w : World) : Calls Tryz.prog 88 #[v.val] w fun e w' => e = .returned (vClean v).val ∧ Touch (fun _ => False) w w' := by
  obtain ⟨k, n, f, s⟩ := v
  have HB : Hid (∀ w, Calls Tryz.prog 121 #[.float .f64 f] w fun e w' => e = .returned (.float .f64 (refBits f)) ∧ w' = w) := v_oneNaN f
  simp only [V.val, vClean] at *
  generalize refBits f = g at *
  have h2 := run_store_f64 Tryz.prog
  go_enter Tryz.func88, Tryz.ntmps88
  go_wp2_with fail
  refine (HB.out _).mono ?_
  rintro e w1 ⟨rfl, rfl⟩
  go_wp2_with fail
  refine bodyPost_ret (v := .agg #[.int .i64 k, .int .i64 n, .float .f64 g, .string s]) (by simp [results, Tryz.results88, go_sem]) rfl ⟨rfl, ?_⟩
  first
    | exact ((Touch.refl _ _).alloc _).alloc _
    | exact (((((((Touch.refl _ _).alloc _).alloc _).setCell _ _ (fun h => by simp only at h; omega)).setCell _ _ (fun h => by simp only at h; omega)).setCell _ _ (fun h => by simp only at h; omega)).setCell _ _ (fun h => by simp only at h; omega)).setCell _ _ (fun h => by simp only at h; omega)
end Go.Proofs.YtdnhoicfolkbnaaGreat

/- Package marks: markOf. -/
namespace Go.Proofs.YtdnhoicfolkbnaaGreat
open Go.RowKit
set_option linter.unusedVariables false
set_option linter.unusedSimpArgs false
set_option maxRecDepth 100000

/-- A mark, as a place tells it. -/
abbrev mkV (ky : ByteArray) (vk vn : Int) (vf : Nat) (vs : ByteArray) : Value := .agg #[.string ky, .int .i64 vk, .int .i64 vn, .float .f64 vf, .string vs]
abbrev mkO (o : O) : Value := mkV o.ky o.vk o.vn (refBits o.vf) o.vs
theorem opO_val {W : World} {m : Nat} {o : O} (h : W.heap[m]? = some (opO o)) : W.cell? ⟨m, 9, none⟩ = some (.int .i64 o.vk) ∧ W.cell? ⟨m, 10, none⟩ = some (.int .i64 o.vn) ∧ W.cell? ⟨m, 11, none⟩ = some (.float .f64 o.vf) ∧ W.cell? ⟨m, 12, none⟩ = some (.string o.vs) ∧ W.cell? ⟨m, 13, none⟩ = some (.string o.ky) :=
  ⟨by rw [cell_of_block h]; rfl, by rw [cell_of_block h]; rfl, by rw [cell_of_block h]; rfl, by rw [cell_of_block h]; rfl, by rw [cell_of_block h]; rfl⟩
abbrev mbO (a : ByteArray) (b c : Int) (d : Nat) (e : ByteArray) : Obj := .cells #[.string a, .int .i64 b, .int .i64 c, .float .f64 d, .string e] 64
abbrev mbW (W : World) (m : Nat) (a : ByteArray) (b c : Int) (d : Nat) (e : ByteArray) : World := (((((W.setCell ⟨m, 0, none⟩ (.string a)).setCell ⟨m, 1, none⟩ (.int .i64 b)).setCell ⟨m, 2, none⟩ (.int .i64 c)).setCell ⟨m, 3, none⟩ (.float .f64 d)).setCell ⟨m, 4, none⟩ (.string e))
theorem mbO_steps {W : World} {m : Nat} {z : ByteArray} (h : W.heap[m]? = some (mbO z 0 0 0 z)) (a : ByteArray) (b c : Int) (d : Nat) (e : ByteArray) : W.cell? ⟨m, 0, none⟩ = some (.string z) ∧ W.frozen? ⟨m, 0, none⟩ = false ∧ (W.setCell ⟨m, 0, none⟩ (.string a)).cell? ⟨m, 1, none⟩ = some (.int .i64 0) ∧ (W.setCell ⟨m, 0, none⟩ (.string a)).frozen? ⟨m, 1, none⟩ = false ∧ ((W.setCell ⟨m, 0, none⟩ (.string a)).setCell ⟨m, 1, none⟩ (.int .i64 b)).cell? ⟨m, 2, none⟩ = some (.int .i64 0) ∧ ((W.setCell ⟨m, 0, none⟩ (.string a)).setCell ⟨m, 1, none⟩ (.int .i64 b)).frozen? ⟨m, 2, none⟩ = false ∧ (((W.setCell ⟨m, 0, none⟩ (.string a)).setCell ⟨m, 1, none⟩ (.int .i64 b)).setCell ⟨m, 2, none⟩ (.int .i64 c)).cell? ⟨m, 3, none⟩ = some (.float .f64 0) ∧ (((W.setCell ⟨m, 0, none⟩ (.string a)).setCell ⟨m, 1, none⟩ (.int .i64 b)).setCell ⟨m, 2, none⟩ (.int .i64 c)).frozen? ⟨m, 3, none⟩ = false ∧ ((((W.setCell ⟨m, 0, none⟩ (.string a)).setCell ⟨m, 1, none⟩ (.int .i64 b)).setCell ⟨m, 2, none⟩ (.int .i64 c)).setCell ⟨m, 3, none⟩ (.float .f64 d)).cell? ⟨m, 4, none⟩ = some (.string z) ∧ ((((W.setCell ⟨m, 0, none⟩ (.string a)).setCell ⟨m, 1, none⟩ (.int .i64 b)).setCell ⟨m, 2, none⟩ (.int .i64 c)).setCell ⟨m, 3, none⟩ (.float .f64 d)).frozen? ⟨m, 4, none⟩ = false :=
  ⟨by rw [cell_of_block (h)]; rfl, free_of_block (h), by rw [cell_of_block (heap_setCell_same _ _ _ _ (h))]; rfl, free_of_block (heap_setCell_same _ _ _ _ (h)), by rw [cell_of_block (heap_setCell_same _ _ _ _ (heap_setCell_same _ _ _ _ (h)))]; rfl, free_of_block (heap_setCell_same _ _ _ _ (heap_setCell_same _ _ _ _ (h))), by rw [cell_of_block (heap_setCell_same _ _ _ _ (heap_setCell_same _ _ _ _ (heap_setCell_same _ _ _ _ (h))))]; rfl, free_of_block (heap_setCell_same _ _ _ _ (heap_setCell_same _ _ _ _ (heap_setCell_same _ _ _ _ (h)))), by rw [cell_of_block (heap_setCell_same _ _ _ _ (heap_setCell_same _ _ _ _ (heap_setCell_same _ _ _ _ (heap_setCell_same _ _ _ _ (h)))))]; rfl, free_of_block (heap_setCell_same _ _ _ _ (heap_setCell_same _ _ _ _ (heap_setCell_same _ _ _ _ (heap_setCell_same _ _ _ _ (h)))))⟩
theorem mbO_set {W : World} {m : Nat} {z : ByteArray} (h : W.heap[m]? = some (mbO z 0 0 0 z)) (a : ByteArray) (b c : Int) (d : Nat) (e : ByteArray) : (mbW W m a b c d e).heap[m]? = some (mbO a b c d e) := heap_setCell_same _ _ _ _ (heap_setCell_same _ _ _ _ (heap_setCell_same _ _ _ _ (heap_setCell_same _ _ _ _ (heap_setCell_same _ _ _ _ (h)))))
theorem mbO_cells {W : World} {m : Nat} {a : ByteArray} {b c : Int} {d : Nat} {e : ByteArray} (h : W.heap[m]? = some (mbO a b c d e)) : W.cell? ⟨m, 0, none⟩ = some (.string a) ∧ W.cell? ⟨m, 1, none⟩ = some (.int .i64 b) ∧ W.cell? ⟨m, 2, none⟩ = some (.int .i64 c) ∧ W.cell? ⟨m, 3, none⟩ = some (.float .f64 d) ∧ W.cell? ⟨m, 4, none⟩ = some (.string e) :=
  ⟨by rw [cell_of_block h]; rfl, by rw [cell_of_block h]; rfl, by rw [cell_of_block h]; rfl, by rw [cell_of_block h]; rfl, by rw [cell_of_block h]; rfl⟩
set_option maxHeartbeats 4000000 in
theorem markOf_any (x : O) (w : World) : Calls Tryz.prog 44 #[x.val] w fun e w' => e = .returned (mkO x) ∧ Touch (fun _ => False) w w' := by
  obtain ⟨z, hz⟩ : ∃ z : ByteArray, Hid (z = ⟨#[]⟩) := ⟨_, Eq.refl _⟩
  obtain ⟨E, hE⟩ : ∃ E, Hid (E = (w.alloc (opO x)).alloc (mbO ⟨#[]⟩ 0 0 0 ⟨#[]⟩)) := ⟨_, Eq.refl _⟩
  obtain ⟨m, hm⟩ : ∃ m, Hid (m = w.heap.size) := ⟨_, Eq.refl _⟩
  obtain ⟨r, hr⟩ : ∃ r, Hid (r = w.heap.size + 1) := ⟨_, Eq.refl _⟩
  have HTE : Hid (Touch (fun _ => False) w E) := by rw [hE.out]; exact ((Touch.refl _ _).alloc _).alloc _
  have HM : Hid (∀ W, Touch (fun _ => False) E W → (W.cell? ⟨m, 9, none⟩ = some (.int .i64 x.vk) ∧ W.cell? ⟨m, 10, none⟩ = some (.int .i64 x.vn) ∧ W.cell? ⟨m, 11, none⟩ = some (.float .f64 x.vf) ∧ W.cell? ⟨m, 12, none⟩ = some (.string x.vs) ∧ W.cell? ⟨m, 13, none⟩ = some (.string x.ky)) ∧ W.heap[r]? = some (mbO z 0 0 0 z)) := by
    have a1 : E.heap[m]? = some (opO x) := by
      rw [hE.out, hm.out]
      exact heap_keep ((Touch.refl _ _).alloc _) (heap_alloc_new _ _)
    have a2 : E.heap[r]? = some (mbO z 0 0 0 z) := by
      have := heap_alloc_new (w.alloc (opO x)) (mbO ⟨#[]⟩ 0 0 0 ⟨#[]⟩)
      rw [hE.out, hr.out, hz.out]
      rwa [show (w.alloc (opO x)).heap.size = w.heap.size + 1 from Array.size_push _] at this
    exact fun W t => ⟨opO_val (heap_keep t a1), heap_keep t a2⟩
  have HC : Hid (∀ W, Calls Tryz.prog 88 #[.agg #[.int .i64 x.vk, .int .i64 x.vn, .float .f64 x.vf, .string x.vs]] W fun e w' => e = .returned (.agg #[.int .i64 x.vk, .int .i64 x.vn, .float .f64 (refBits x.vf), .string x.vs]) ∧ Touch (fun _ => False) W w') := fun W => v_clean ⟨x.vk, x.vn, x.vf, x.vs⟩ W
  obtain ⟨xc, xk, xkind, xst, xlc, xlk, xrc, xrk, xtx, xvk, xvn, xvf, xvs, xky, xpc, xpk, xfc, xfk, xfa, xtc, xtk, xta⟩ := x
  simp only [mkO, mkV] at HM HC ⊢
  generalize refBits xvf = g at *
  obtain ⟨⟨k0, k1, k2, k3, k4⟩, -⟩ := HM.out _ (Touch.refl _ E)
  obtain ⟨⟨l0, l1, l2, l3, l4⟩, -⟩ := HM.out _ (Touch.refl _ E).drew
  go_enter Tryz.func44, Tryz.ntmps44
  go_upto_region 1 with fail
  rw [← hE.out, ← hr.out, ← hm.out]
  have hmr : Hid (w.heap.size ≤ r) := by rw [hr.out]; exact Nat.le_succ _
  clear hE hm hr
  have h2 := run_store_f64 Tryz.prog
  go_region_with (go_at_call 88; (with_reducible refine (HC.out _).mono ?_); rintro e w1 ⟨rfl, t1⟩; obtain ⟨⟨n0, n1, n2, n3, n4⟩, n5⟩ := HM.out _ ((Touch.refl _ E).drew.trans t1); obtain ⟨s0, s1, s2, s3, s4, s5, s6, s7, s8, s9⟩ := mbO_steps n5 xky xvk xvn g xvs; have HT1 : Hid (Touch (fun _ => False) w (mbW w1 r xky xvk xvn g xvs) ∧ (mbW w1 r xky xvk xvn g xvs).heap[r]? = some (mbO xky xvk xvn g xvs)) := ⟨(((((HTE.out.trans ((Touch.refl _ E).drew.trans t1)).fresh _ _ _ hmr.out).fresh _ _ _ hmr.out).fresh _ _ _ hmr.out).fresh _ _ _ hmr.out).fresh _ _ _ hmr.out, mbO_set n5 _ _ _ _ _⟩; clear t1 n5)
  all_goals (try go_wp2_with fail)
  all_goals (obtain ⟨u0, u1, u2, u3, u4⟩ := mbO_cells HT1.out.2)
  all_goals (refine bodyPost_ret (v := .agg #[.string xky, .int .i64 xvk, .int .i64 xvn, .float .f64 g, .string xvs]) (by simp [results, Tryz.results44, go_sem, u0, u1, u2, u3, u4]) rfl ?_)
  all_goals exact ⟨rfl, HT1.out.1⟩
end Go.Proofs.YtdnhoicfolkbnaaGreat
