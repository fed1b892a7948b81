/- The contracts of value's hex and quoted. -/
import Derived.Test.YtijkekkjiboomaaGreatDoorPart16
import Derived.Test.YtijkekkjiboomaaGreatDoorPart8
import Derived.Test.YtijkekkjiboomaaGreatDoorPart9
import Derived.Laws.BitsAllLaws
import Derived.Laws.IdiomStrings
import Derived.Test.YtijkekkjiboomaaGreatDoorPart4
import Derived.Laws.Concat
import Derived.Shelf.LaysM
import Derived.Shelf.Strconv.Itoa4
import Derived.Test.YtijkekkjiboomaaGreatDoorProg
namespace Go.Proofs.YtijkekkjiboomaaGreatDoor
open Go.RowKit
set_option linter.unusedVariables false
set_option maxRecDepth 100000

theorem cells_bytes (l : List UInt8) : cellsOf l = Go.Lib.byteCells l := rfl

/-- A Builder that was made just now. -/
theorem Bld.new (w : World) : Bld w.heap.size w.heap.size [] (w.alloc (.cells #[.pointer none, .slice none 0 0] 60)) :=
  .inl ⟨Nat.le_refl _, .slice none 0 0, heap_alloc_new _ _, World.ownsRow_nil _ _ _ _, by simp [Value.ownBlock]⟩
theorem below_touch {w w' : World} (h : Below w.heap.size w w') : Touch (fun _ => False) w w' := ⟨h.os, h.tape, h.output, h.size, fun k hk _ => h.block k hk⟩
theorem b_string (B b : Nat) (l : List UInt8) (w : World) (h : Bld B b l w) (hBw : B ≤ w.heap.size) : Calls Tryz.prog 37 #[.pointer (some ⟨b, 0, none⟩)] w fun e w' => e = .returned (.string ⟨l.toArray⟩) ∧ Below B w w' :=
  Tryz.Builder_String_any B b l w h hBw

theorem hex_nibble (n k : Nat) (hn : n < 18446744073709551616) (hk : k ≤ 15) : bits .and .u64 ((n : Int) / 2 ^ (60 - 4 * k)) 15 = ((n / 16 ^ (15 - k) % 16 : Nat) : Int) := by
  have e1 : ((n : Int) / 2 ^ (60 - 4 * k)) = ((n / 16 ^ (15 - k) : Nat) : Int) := by
    have : (16 : Nat) ^ (15 - k) = 2 ^ (60 - 4 * k) := by rw [show (16 : Nat) = 2 ^ 4 from rfl, ← Nat.pow_mul]; congr 1; omega
    rw [this]; push_cast; rfl
  have h2 : n / 16 ^ (15 - k) < 18446744073709551616 := Nat.lt_of_le_of_lt (Nat.div_le_self _ _) hn
  rw [e1, show (15 : Int) = ((2 ^ 4 - 1 : Nat) : Int) from rfl, u64_and_nat _ _ h2 (by decide), Nat.and_two_pow_sub_one_eq_mod]

theorem hex_at (d : Nat) (h : d < (ByteArray.mk #[48, 49, 50, 51, 52, 53, 54, 55, 56, 57, 97, 98, 99, 100, 101, 102]).size) : (((ByteArray.mk #[48, 49, 50, 51, 52, 53, 54, 55, 56, 57, 97, 98, 99, 100, 101, 102])[d]'h).toNat : Int) = ((hexDigits.getD d 0).toNat : Int) := by
  match d, h with
  | 0, _ => rfl
  | 1, _ => rfl
  | 2, _ => rfl
  | 3, _ => rfl
  | 4, _ => rfl
  | 5, _ => rfl
  | 6, _ => rfl
  | 7, _ => rfl
  | 8, _ => rfl
  | 9, _ => rfl
  | 10, _ => rfl
  | 11, _ => rfl
  | 12, _ => rfl
  | 13, _ => rfl
  | 14, _ => rfl
  | 15, _ => rfl
  | d + 16, h => exact absurd h (by show ¬ d + 16 < 16; omega)

set_option maxHeartbeats 1000000 in
theorem v_hex (n : Nat) (hn : n < 18446744073709551616) (w : World) : Calls Tryz.prog 77 #[.int .u64 n] w fun e w' => e = .returned (.string ⟨(hexGo n 16).toArray⟩) ∧ Touch (fun _ => False) w w' := by
  go_enter Tryz.func77, Tryz.ntmps77
  go_wp2_with fail
  go_loopw [4] (fun v wr => ∃ k : Nat, v = .int .i64 (60 - 4 * (k : Int)) ∧ k ≤ 16 ∧ Bld w.heap.size w.heap.size (hexGo n k) wr ∧ Below w.heap.size w wr) (fun v _ => (intOf v + 4).toNat)
  case atStart => exact ⟨0, rfl, by omega, Bld.new w, (Below.refl _ w).alloc (Nat.le_refl _) _⟩
  case round =>
    obtain ⟨k, rfl, hk, hB, hBel⟩ := hrel
    have HB : Hid (Bld w.heap.size w.heap.size (hexGo n k) wr) := hB
    have HL : Hid (Below w.heap.size w wr) := hBel
    clear hB hBel
    by_cases h16 : k = 16
    · subst h16
      go_wp2_with fail
      refine (b_string _ _ _ _ HB.out HL.out.size).mono ?_
      rintro e w1 ⟨rfl, hb⟩
      have HT : Hid (Touch (fun _ => False) w w1) := below_touch (HL.out.trans hb)
      clear hb
      go_wp2_with fail
      go_ret
      exact ⟨rfl, HT.out⟩
    · have hd := hex_nibble n k hn (by omega)
      have hlt : n / 16 ^ (15 - k) % 16 < 16 := Nat.mod_lt _ (by decide)
      have HN : Hid (hexGo n (k + 1) = hexGo n k ++ [hexDigits.getD (n / 16 ^ (15 - k) % 16) 0]) := hexGo_succ n k
      have HLen : Hid ((hexGo n k).length = k) := hexGo_length n k
      generalize n / 16 ^ (15 - k) % 16 = d at *
      have hd0 : (0 : Int) ≤ (d : Int) := by omega
      have hd1 : (d : Int) < 16 := by omega
      go_wp2_with fail
      refine (b_writeByte _ _ _ (hexDigits.getD d 0) _ ?hx _ HB.out (by rw [HLen.out]; omega) HL.out.size).mono ?_
      case hx => exact hex_at d _
      rintro e w1 ⟨rfl, hb, hbel⟩
      have HB1 : Hid (Bld w.heap.size w.heap.size (hexGo n (k + 1)) w1) := by rw [Hid, HN.out]; exact hb
      have HL1 : Hid (Below w.heap.size w w1) := HL.out.trans hbel
      clear hb hbel
      go_wp2_with fail
      go_roundw
      case rel => exact ⟨k + 1, by go_num, by omega, HB1.out, HL1.out⟩
      case measure => simp [intOf]; omega

set_option maxHeartbeats 1000000 in
theorem v_quoted (s : ByteArray) (hs : s.size ≤ 1000000000000) (w : World) : Calls Tryz.prog 79 #[.string s] w fun e w' => e = .returned (.string (refQuote s)) ∧ Touch (fun _ => False) w w' := by
  have HR : Hid (refQuote s = ⟨(34 :: quoteGo s.data.toList ++ [34]).toArray⟩) := rfl
  generalize refQuote s = R at *
  go_enter Tryz.func79, Tryz.ntmps79
  go_wp2_with fail
  refine (b_writeByte w.heap.size w.heap.size [] 34 34 rfl _ (Bld.new w) (by decide) (by simp)).mono ?_
  rintro e w1 ⟨rfl, hb, hbel⟩
  have HB : Hid (Bld w.heap.size w.heap.size (34 :: quoteGo (s.data.toList.take 0)) w1) := hb
  have HL : Hid (Below w.heap.size w w1) := ((Below.refl _ w).alloc (Nat.le_refl _) _).trans hbel
  clear hb hbel
  go_wp2_with fail
  go_loopw [8] (fun v wr => ∃ k : Nat, v = .int .i64 (k : Int) ∧ k ≤ s.size ∧ Bld w.heap.size w.heap.size (34 :: quoteGo (s.data.toList.take k)) wr ∧ Below w.heap.size w wr) (fun v _ => (s.size - intOf v).toNat)
  case atStart => exact ⟨0, rfl, by omega, HB.out, HL.out⟩
  case round =>
    clear HB HL
    obtain ⟨k, rfl, hk, hb, hbel⟩ := hrel
    have HB : Hid (Bld w.heap.size w.heap.size (34 :: quoteGo (s.data.toList.take k)) wr) := hb
    have HL : Hid (Below w.heap.size w wr) := hbel
    have HK : Hid ((34 :: quoteGo (s.data.toList.take k)).length ≤ 2 * k + 1) := by
      have := quoteGo_length (s.data.toList.take k)
      rw [List.length_take] at this
      simp only [Hid, List.length_cons]; omega
    clear hb hbel
    by_cases hlt : k < s.size
    · have HS : Hid (s.data.toList.take (k + 1) = s.data.toList.take k ++ [s[k]]) := by
        rw [Hid, List.take_succ_eq_append_getElem (by exact hlt)]; rfl
      generalize hc : s[k] = c at *
      by_cases hq : c = 34 ∨ c = 92
      · have HN : Hid (34 :: quoteGo (s.data.toList.take (k + 1)) = (34 :: quoteGo (s.data.toList.take k)) ++ [92] ++ [c]) := by
          rw [Hid, HS.out, quoteGo_append]
          simp [quoteGo, hq]
        generalize 34 :: quoteGo (s.data.toList.take k) = cs at *
        by_cases hq1 : c = 34
        · have q1 : ((c.toNat : Int) == 34) = true := by rw [hq1]; rfl
          clear hq1 hq
          go_wp2_with fail
          refine (b_writeByte _ _ _ 92 92 rfl _ HB.out (by have := HK.out; omega) HL.out.size).mono ?_
          rintro e w2 ⟨rfl, hb, hbel⟩
          have HB2 : Hid (Bld w.heap.size w.heap.size (cs ++ [92]) w2) := hb
          have HL2 : Hid (Below w.heap.size w w2) := HL.out.trans hbel
          clear hb hbel
          go_wp2_with fail
          refine (b_writeByte _ _ _ c _ rfl _ HB2.out (by have := HK.out; simp only [List.length_append, List.length_singleton]; omega) HL2.out.size).mono ?_
          rintro e w3 ⟨rfl, hb, hbel⟩
          have HB3 : Hid (Bld w.heap.size w.heap.size (34 :: quoteGo (s.data.toList.take (k + 1))) w3) := by rw [Hid, HN.out]; exact hb
          have HL3 : Hid (Below w.heap.size w w3) := HL2.out.trans hbel
          clear hb hbel
          go_wp2_with fail
          go_roundw
          case rel => exact ⟨k + 1, by go_num, by omega, HB3.out, HL3.out⟩
          case measure => simp [intOf]; omega
        · have q1 : ((c.toNat : Int) == 34) = false := by
            rw [beq_eq_false_iff_ne]; intro h; exact hq1 (UInt8.toNat.inj (Int.ofNat.inj h))
          have q2 : ((c.toNat : Int) == 92) = true := by rw [hq.resolve_left hq1]; rfl
          clear hq1 hq
          go_wp2_with fail
          refine (b_writeByte _ _ _ 92 92 rfl _ HB.out (by have := HK.out; omega) HL.out.size).mono ?_
          rintro e w2 ⟨rfl, hb, hbel⟩
          have HB2 : Hid (Bld w.heap.size w.heap.size (cs ++ [92]) w2) := hb
          have HL2 : Hid (Below w.heap.size w w2) := HL.out.trans hbel
          clear hb hbel
          go_wp2_with fail
          refine (b_writeByte _ _ _ c _ rfl _ HB2.out (by have := HK.out; simp only [List.length_append, List.length_singleton]; omega) HL2.out.size).mono ?_
          rintro e w3 ⟨rfl, hb, hbel⟩
          have HB3 : Hid (Bld w.heap.size w.heap.size (34 :: quoteGo (s.data.toList.take (k + 1))) w3) := by rw [Hid, HN.out]; exact hb
          have HL3 : Hid (Below w.heap.size w w3) := HL2.out.trans hbel
          clear hb hbel
          go_wp2_with fail
          go_roundw
          case rel => exact ⟨k + 1, by go_num, by omega, HB3.out, HL3.out⟩
          case measure => simp [intOf]; omega
      · have HN : Hid (34 :: quoteGo (s.data.toList.take (k + 1)) = (34 :: quoteGo (s.data.toList.take k)) ++ [c]) := by
          rw [Hid, HS.out, quoteGo_append]
          simp [quoteGo, hq]
        generalize 34 :: quoteGo (s.data.toList.take k) = cs at *
        have q1 : ((c.toNat : Int) == 34) = false := by
          rw [beq_eq_false_iff_ne]; intro h; exact hq (.inl (UInt8.toNat.inj (Int.ofNat.inj h)))
        have q2 : ((c.toNat : Int) == 92) = false := by
          rw [beq_eq_false_iff_ne]; intro h; exact hq (.inr (UInt8.toNat.inj (Int.ofNat.inj h)))
        clear hq
        go_wp2_with fail
        refine (b_writeByte _ _ _ c _ rfl _ HB.out (by have := HK.out; omega) HL.out.size).mono ?_
        rintro e w3 ⟨rfl, hb, hbel⟩
        have HB3 : Hid (Bld w.heap.size w.heap.size (34 :: quoteGo (s.data.toList.take (k + 1))) w3) := by rw [Hid, HN.out]; exact hb
        have HL3 : Hid (Below w.heap.size w w3) := HL.out.trans hbel
        clear hb hbel
        go_wp2_with fail
        go_roundw
        case rel => exact ⟨k + 1, by go_num, by omega, HB3.out, HL3.out⟩
        case measure => simp [intOf]; omega
    · have hke : k = s.size := by omega
      have HN : Hid (34 :: quoteGo (s.data.toList.take k) = 34 :: quoteGo s.data.toList) := by
        rw [Hid, List.take_of_length_le (by rw [hke]; exact Nat.le_refl _)]
      go_wp2_with fail
      refine (b_writeByte _ _ _ 34 34 rfl _ HB.out (by have := HK.out; omega) HL.out.size).mono ?_
      rintro e w2 ⟨rfl, hb, hbel⟩
      have HB2 : Hid (Bld w.heap.size w.heap.size (34 :: quoteGo s.data.toList ++ [34]) w2) := by rw [Hid, ← HN.out]; exact hb
      have HL2 : Hid (Below w.heap.size w w2) := HL.out.trans hbel
      clear hb hbel HB HL
      go_wp2_with fail
      refine (b_string _ _ _ _ HB2.out HL2.out.size).mono ?_
      rintro e w3 ⟨rfl, hb⟩
      have HT : Hid (Touch (fun _ => False) w w3) := below_touch (HL2.out.trans hb)
      clear hb
      go_wp2_with fail
      go_ret
      exact ⟨congrArg (fun x => Ending.returned (.string x)) HR.out.symm, HT.out⟩
end Go.Proofs.YtijkekkjiboomaaGreatDoor

/- The contract of value.Text at floats and texts. -/
namespace Go.Proofs.YtijkekkjiboomaaGreatDoor
open Go.RowKit
set_option linter.unusedVariables false
set_option maxRecDepth 100000

theorem isNaN_lt : nanBits < 18446744073709551616 := by decide
theorem refBits_lt (f : Nat) (h : f < 18446744073709551616) : refBits f < 18446744073709551616 := by
  unfold refBits; split
  · exact isNaN_lt
  · exact h
def hexText (f : Nat) : ByteArray := ⟨#[102]⟩ ++ ⟨(hexGo (refBits f) 16).toArray⟩

set_option maxHeartbeats 400000 in
theorem v_text_float (v : V) (hk : v.k = 3) (hf : v.f < 18446744073709551616) (w : World) : Calls Tryz.prog 59 #[v.val] w fun e w' => e = .returned (.string (hexText v.f)) ∧ Touch (fun _ => False) w w' := by
  obtain ⟨k, n, f, s⟩ := v
  simp only at hk hf
  subst hk
  have HR : Hid (hexText f = ⟨#[102]⟩ ++ ⟨(hexGo (refBits f) 16).toArray⟩) := rfl
  have HX : Hid (∀ w, Calls Tryz.prog 77 #[.int .u64 (refBits f)] w fun e w' => e = .returned (.string ⟨(hexGo (refBits f) 16).toArray⟩) ∧ Touch (fun _ => False) w w') := v_hex _ (refBits_lt f hf)
  have HN : Hid (∀ w, Calls Tryz.prog 78 #[.float .f64 f] w fun e w' => e = .returned (.float .f64 (refBits f)) ∧ w' = w) := v_oneNaN f
  simp only [V.val] at *
  generalize hexText f = R at *
  have hZ : (ByteArray.mk (hexGo (refBits f) 16).toArray).size = 16 := by
    show (hexGo (refBits f) 16).toArray.size = 16
    rw [List.size_toArray, hexGo_length]
  generalize ByteArray.mk (hexGo (refBits f) 16).toArray = t at *
  generalize refBits f = g at *
  have h1 := f64bits_run
  go_enter Tryz.func59, Tryz.ntmps59
  go_wp2_with fail
  refine (HN.out _).mono ?_
  rintro e w1 ⟨rfl, rfl⟩
  go_wp2_with fail
  refine (HX.out _).mono ?_
  rintro e w2 ⟨rfl, hT⟩
  have HT : Hid (Touch (fun _ => False) w w2) := Touch.trans ((Touch.refl _ _).alloc _) hT
  clear hT
  go_wp2_with fail
  go_ret
  exact ⟨congrArg (fun x => Ending.returned (.string x)) HR.out.symm, HT.out⟩

set_option maxHeartbeats 400000 in
theorem v_text_text (v : V) (hk : v.k = 4) (hs : v.s.size ≤ 1000000000000) (w : World) : Calls Tryz.prog 59 #[v.val] w fun e w' => e = .returned (.string (refQuote v.s)) ∧ Touch (fun _ => False) w w' := by
  obtain ⟨k, n, f, s⟩ := v
  simp only at hk hs
  subst hk
  have HX : Hid (∀ w, Calls Tryz.prog 79 #[.string s] w fun e w' => e = .returned (.string (refQuote s)) ∧ Touch (fun _ => False) w w') := v_quoted s hs
  simp only [V.val] at *
  generalize refQuote s = R at *
  go_enter Tryz.func59, Tryz.ntmps59
  go_wp2_with fail
  refine (HX.out _).mono ?_
  rintro e w2 ⟨rfl, hT⟩
  have HT : Hid (Touch (fun _ => False) w w2) := Touch.trans ((Touch.refl _ _).alloc _) hT
  clear hT
  go_wp2_with fail
  go_ret
  exact ⟨rfl, HT.out⟩
end Go.Proofs.YtijkekkjiboomaaGreatDoor

/- The library's contracts that value's functions call, laid at this program. -/
namespace Go.Proofs
open Go.Shelf
def Tryz.laysM173_ren : Go.Shelf.Ren := ⟨fun | 173 => 76 | 246 => 96 | 283 => 109 | 284 => 110 | 285 => 111 | 286 => 112 | 129 => 122 | 317 => 121 | 318 => 123 | 319 => 124 | 320 => 125 | 337 => 130 | 338 => 131 | n => n, fun | 2 => 2 | 3 => 3 | 9 => 9 | 4 => 4 | 171 => 139 | 0 => 0 | 53 => 83 | 37 => 58 | 5 => 5 | 173 => 142 | 212 => 149 | 51 => 113 | 20 => 20 | 213 => 150 | 46 => 105 | 232 => 157 | 233 => 158 | n => n, fun | 17 => 3 | 18 => 5 | 19 => 6 | n => n⟩
theorem Tryz.laysM173 : Go.Proofs.LaysM.n173 Tryz.prog Tryz.laysM173_ren := {
  mixed := by kernel_rfl
  f129 := Tryz.func122.trans (congrArg some (by kernel_rfl))
  f173 := Tryz.func76.trans (congrArg some (by kernel_rfl))
  f246 := Tryz.func96.trans (congrArg some (by kernel_rfl))
  f283 := Tryz.func109.trans (congrArg some (by kernel_rfl))
  f284 := Tryz.func110.trans (congrArg some (by kernel_rfl))
  f285 := Tryz.func111.trans (congrArg some (by kernel_rfl))
  f286 := Tryz.func112.trans (congrArg some (by kernel_rfl))
  f317 := Tryz.func121.trans (congrArg some (by kernel_rfl))
  f318 := Tryz.func123.trans (congrArg some (by kernel_rfl))
  f319 := Tryz.func124.trans (congrArg some (by kernel_rfl))
  f320 := Tryz.func125.trans (congrArg some (by kernel_rfl))
  f337 := Tryz.func130.trans (congrArg some (by kernel_rfl))
  f338 := Tryz.func131.trans (congrArg some (by kernel_rfl))
  t0 := Tryz.underlying0
  a0 := Tryz.isAgg0
  z0 := Tryz.sizeOf0
  v0 := Tryz.zeroValue0
  t2 := Tryz.underlying2
  a2 := Tryz.isAgg2
  z2 := Tryz.sizeOf2
  v2 := Tryz.zeroValue2
  t3 := Tryz.underlying3
  a3 := Tryz.isAgg3
  z3 := Tryz.sizeOf3
  v3 := Tryz.zeroValue3
  t4 := Tryz.underlying4
  a4 := Tryz.isAgg4
  z4 := Tryz.sizeOf4
  v4 := Tryz.zeroValue4
  t5 := Tryz.underlying5
  a5 := Tryz.isAgg5
  z5 := Tryz.sizeOf5
  v5 := Tryz.zeroValue5
  t9 := Tryz.underlying9
  a9 := Tryz.isAgg9
  z9 := Tryz.sizeOf9
  v9 := Tryz.zeroValue9
  t20 := Tryz.underlying20
  a20 := Tryz.isAgg20
  z20 := Tryz.sizeOf20
  v20 := Tryz.zeroValue20
  t37 := Tryz.underlying58
  a37 := Tryz.isAgg58
  z37 := Tryz.sizeOf58
  v37 := Tryz.zeroValue58
  t46 := Tryz.underlying105
  a46 := Tryz.isAgg105
  z46 := Tryz.sizeOf105
  v46 := Tryz.zeroValue105
  t51 := Tryz.underlying113
  a51 := Tryz.isAgg113
  z51 := Tryz.sizeOf113
  v51 := Tryz.zeroValue113
  t53 := Tryz.underlying83
  a53 := Tryz.isAgg83
  z53 := Tryz.sizeOf83
  v53 := Tryz.zeroValue83
  t171 := Tryz.underlying139
  a171 := Tryz.isAgg139
  z171 := Tryz.sizeOf139
  v171 := Tryz.zeroValue139
  t173 := Tryz.underlying142
  a173 := Tryz.isAgg142
  z173 := Tryz.sizeOf142
  v173 := Tryz.zeroValue142
  t212 := Tryz.underlying149
  a212 := Tryz.isAgg149
  z212 := Tryz.sizeOf149
  v212 := Tryz.zeroValue149
  t213 := Tryz.underlying150
  a213 := Tryz.isAgg150
  z213 := Tryz.sizeOf150
  t232 := Tryz.underlying157
  a232 := Tryz.isAgg157
  z232 := Tryz.sizeOf157
  v232 := Tryz.zeroValue157
  t233 := Tryz.underlying158
  a233 := Tryz.isAgg158
  z233 := Tryz.sizeOf158
  v233 := Tryz.zeroValue158
  g17 := by kernel_rfl
  g18 := by kernel_rfl
  g19 := by kernel_rfl
  i0 := by kernel_rfl
  i2 := by kernel_rfl
  i3 := by kernel_rfl
  i4 := by kernel_rfl
  i5 := by kernel_rfl
  i9 := by kernel_rfl
  i20 := by kernel_rfl
  i37 := by kernel_rfl
  i46 := by kernel_rfl
  i51 := by kernel_rfl
  i53 := by kernel_rfl
  i171 := by kernel_rfl
  i173 := by kernel_rfl
  i212 := by kernel_rfl
  i232 := by kernel_rfl
  i233 := by kernel_rfl
  m17 := by kernel_rfl
  m18 := by kernel_rfl
  m19 := by kernel_rfl }
open Go.RowKit Go.Sort Go.Lib in
theorem Tryz.strconv_FormatInt_10 (n : Int) (h0 : -9223372036854775808 ≤ n) (h1 : n ≤ 9223372036854775807) (w : World) (htab : Lib.TabIs Tryz.prog w "internal/strconv.uint64pow10" .u64 Lib.pow10Tab) :
    Calls Tryz.prog 76 #[.int .i64 n, .int .i64 10] w fun e w' => e = .returned (.string ⟨(Lib.itoa n).toArray⟩) ∧ ∃ k os, w' = grow (w.drewN k) os := Any.strconv_FormatInt_10 Tryz.laysM173 n h0 h1 w htab
end Go.Proofs
