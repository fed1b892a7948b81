/- The contracts of value's hex and quoted. -/
import Derived.Test.YtaihofkmcpcjeaaDoorBWrite
import Derived.Test.YtaihofkmcpcjeaaDoorPart2
import Derived.Laws.BitsAllLaws
import Derived.Laws.IdiomStrings
namespace Go.Proofs.YtaihofkmcpcjeaaDoor
open Go.RowKit
set_option linter.unusedVariables false
set_option maxRecDepth 100000

theorem cells_bytes (l : List UInt8) : cellsOf l = Go.Lib.byteCells l := rfl

/-- A Builder that was made just now. -/
theorem Bld.new (w : World) : Bld w.heap.size w.heap.size [] (w.alloc (.cells #[.pointer none, .slice none 0 0] 110)) :=
  .inl ⟨Nat.le_refl _, .slice none 0 0, heap_alloc_new _ _, World.ownsRow_nil _ _ _ _, by simp [Value.ownBlock]⟩
theorem below_touch {w w' : World} (h : Below w.heap.size w w') : Touch (fun _ => False) w w' := ⟨h.os, h.tape, h.output, h.size, fun k hk _ => h.block k hk⟩
theorem b_string (B b : Nat) (l : List UInt8) (w : World) (h : Bld B b l w) (hBw : B ≤ w.heap.size) : Calls Tryd.prog 90 #[.pointer (some ⟨b, 0, none⟩)] w fun e w' => e = .returned (.string ⟨l.toArray⟩) ∧ Below B w w' :=
  Tryd.Builder_String_any B b l w h hBw

theorem hex_nibble (n k : Nat) (hn : n < 18446744073709551616) (hk : k ≤ 15) : bits .and .u64 ((n : Int) / 2 ^ (60 - 4 * k)) 15 = ((n / 16 ^ (15 - k) % 16 : Nat) : Int) := by
  have e1 : ((n : Int) / 2 ^ (60 - 4 * k)) = ((n / 16 ^ (15 - k) : Nat) : Int) := by
    have : (16 : Nat) ^ (15 - k) = 2 ^ (60 - 4 * k) := by rw [show (16 : Nat) = 2 ^ 4 from rfl, ← Nat.pow_mul]; congr 1; omega
    rw [this]; push_cast; rfl
  have h2 : n / 16 ^ (15 - k) < 18446744073709551616 := Nat.lt_of_le_of_lt (Nat.div_le_self _ _) hn
  rw [e1, show (15 : Int) = ((2 ^ 4 - 1 : Nat) : Int) from rfl, u64_and_nat _ _ h2 (by decide), Nat.and_two_pow_sub_one_eq_mod]

theorem hex_at (d : Nat) (h : d < (ByteArray.mk #[48, 49, 50, 51, 52, 53, 54, 55, 56, 57, 97, 98, 99, 100, 101, 102]).size) : (((ByteArray.mk #[48, 49, 50, 51, 52, 53, 54, 55, 56, 57, 97, 98, 99, 100, 101, 102])[d]'h).toNat : Int) = ((hexDigits.getD d 0).toNat : Int) := by
  match d, h with
  | 0, _ => rfl
  | 1, _ => rfl
  | 2, _ => rfl
  | 3, _ => rfl
  | 4, _ => rfl
  | 5, _ => rfl
  | 6, _ => rfl
  | 7, _ => rfl
  | 8, _ => rfl
  | 9, _ => rfl
  | 10, _ => rfl
  | 11, _ => rfl
  | 12, _ => rfl
  | 13, _ => rfl
  | 14, _ => rfl
  | 15, _ => rfl
  | d + 16, h => exact absurd h (by show ¬ d + 16 < 16; omega)

set_option maxHeartbeats 1000000 in
theorem v_hex (n : Nat) (hn : n < 18446744073709551616) (w : World) : Calls Tryd.prog 67 #[.int .u64 n] w fun e w' => e = .returned (.string ⟨(hexGo n 16).toArray⟩) ∧ Touch (fun _ => False) w w' := by
  go_enter Tryd.func67, Tryd.ntmps67
  go_wp2_with fail
  go_loopw [4] (fun v wr => ∃ k : Nat, v = .int .i64 (60 - 4 * (k : Int)) ∧ k ≤ 16 ∧ Bld w.heap.size w.heap.size (hexGo n k) wr ∧ Below w.heap.size w wr) (fun v _ => (intOf v + 4).toNat)
  case atStart => exact ⟨0, rfl, by omega, Bld.new w, (Below.refl _ w).alloc (Nat.le_refl _) _⟩
  case round =>
    obtain ⟨k, rfl, hk, hB, hBel⟩ := hrel
    have HB : Hid (Bld w.heap.size w.heap.size (hexGo n k) wr) := hB
    have HL : Hid (Below w.heap.size w wr) := hBel
    clear hB hBel
    by_cases h16 : k = 16
    · subst h16
      go_wp2_with fail
      refine (b_string _ _ _ _ HB.out HL.out.size).mono ?_
      rintro e w1 ⟨rfl, hb⟩
      have HT : Hid (Touch (fun _ => False) w w1) := below_touch (HL.out.trans hb)
      clear hb
      go_wp2_with fail
      go_ret
      exact ⟨rfl, HT.out⟩
    · have hd := hex_nibble n k hn (by omega)
      have hlt : n / 16 ^ (15 - k) % 16 < 16 := Nat.mod_lt _ (by decide)
      have HN : Hid (hexGo n (k + 1) = hexGo n k ++ [hexDigits.getD (n / 16 ^ (15 - k) % 16) 0]) := hexGo_succ n k
      have HLen : Hid ((hexGo n k).length = k) := hexGo_length n k
      generalize n / 16 ^ (15 - k) % 16 = d at *
      have hd0 : (0 : Int) ≤ (d : Int) := by omega
      have hd1 : (d : Int) < 16 := by omega
      go_wp2_with fail
      refine (b_writeByte _ _ _ (hexDigits.getD d 0) _ ?hx _ HB.out (by rw [HLen.out]; omega) HL.out.size).mono ?_
      case hx => exact hex_at d _
      rintro e w1 ⟨rfl, hb, hbel⟩
      have HB1 : Hid (Bld w.heap.size w.heap.size (hexGo n (k + 1)) w1) := by rw [Hid, HN.out]; exact hb
      have HL1 : Hid (Below w.heap.size w w1) := HL.out.trans hbel
      clear hb hbel
      go_wp2_with fail
      go_roundw
      case rel => exact ⟨k + 1, by go_num, by omega, HB1.out, HL1.out⟩
      case measure => simp [intOf]; omega

set_option maxHeartbeats 1000000 in
theorem v_quoted (s : ByteArray) (hs : s.size ≤ 1000000000000) (w : World) : Calls Tryd.prog 68 #[.string s] w fun e w' => e = .returned (.string (refQuote s)) ∧ Touch (fun _ => False) w w' := by
  have HR : Hid (refQuote s = ⟨(34 :: quoteGo s.data.toList ++ [34]).toArray⟩) := rfl
  generalize refQuote s = R at *
  go_enter Tryd.func68, Tryd.ntmps68
  go_wp2_with fail
  refine (b_writeByte w.heap.size w.heap.size [] 34 34 rfl _ (Bld.new w) (by decide) (by simp)).mono ?_
  rintro e w1 ⟨rfl, hb, hbel⟩
  have HB : Hid (Bld w.heap.size w.heap.size (34 :: quoteGo (s.data.toList.take 0)) w1) := hb
  have HL : Hid (Below w.heap.size w w1) := ((Below.refl _ w).alloc (Nat.le_refl _) _).trans hbel
  clear hb hbel
  go_wp2_with fail
  go_loopw [8] (fun v wr => ∃ k : Nat, v = .int .i64 (k : Int) ∧ k ≤ s.size ∧ Bld w.heap.size w.heap.size (34 :: quoteGo (s.data.toList.take k)) wr ∧ Below w.heap.size w wr) (fun v _ => (s.size - intOf v).toNat)
  case atStart => exact ⟨0, rfl, by omega, HB.out, HL.out⟩
  case round =>
    clear HB HL
    obtain ⟨k, rfl, hk, hb, hbel⟩ := hrel
    have HB : Hid (Bld w.heap.size w.heap.size (34 :: quoteGo (s.data.toList.take k)) wr) := hb
    have HL : Hid (Below w.heap.size w wr) := hbel
    have HK : Hid ((34 :: quoteGo (s.data.toList.take k)).length ≤ 2 * k + 1) := by
      have := quoteGo_length (s.data.toList.take k)
      rw [List.length_take] at this
      simp only [Hid, List.length_cons]; omega
    clear hb hbel
    by_cases hlt : k < s.size
    · have HS : Hid (s.data.toList.take (k + 1) = s.data.toList.take k ++ [s[k]]) := by
        rw [Hid, List.take_succ_eq_append_getElem (by exact hlt)]; rfl
      generalize hc : s[k] = c at *
      by_cases hq : c = 34 ∨ c = 92
      · have HN : Hid (34 :: quoteGo (s.data.toList.take (k + 1)) = (34 :: quoteGo (s.data.toList.take k)) ++ [92] ++ [c]) := by
          rw [Hid, HS.out, quoteGo_append]
          simp [quoteGo, hq]
        generalize 34 :: quoteGo (s.data.toList.take k) = cs at *
        by_cases hq1 : c = 34
        · have q1 : ((c.toNat : Int) == 34) = true := by rw [hq1]; rfl
          clear hq1 hq
          go_wp2_with fail
          refine (b_writeByte _ _ _ 92 92 rfl _ HB.out (by have := HK.out; omega) HL.out.size).mono ?_
          rintro e w2 ⟨rfl, hb, hbel⟩
          have HB2 : Hid (Bld w.heap.size w.heap.size (cs ++ [92]) w2) := hb
          have HL2 : Hid (Below w.heap.size w w2) := HL.out.trans hbel
          clear hb hbel
          go_wp2_with fail
          refine (b_writeByte _ _ _ c _ rfl _ HB2.out (by have := HK.out; simp only [List.length_append, List.length_singleton]; omega) HL2.out.size).mono ?_
          rintro e w3 ⟨rfl, hb, hbel⟩
          have HB3 : Hid (Bld w.heap.size w.heap.size (34 :: quoteGo (s.data.toList.take (k + 1))) w3) := by rw [Hid, HN.out]; exact hb
          have HL3 : Hid (Below w.heap.size w w3) := HL2.out.trans hbel
          clear hb hbel
          go_wp2_with fail
          go_roundw
          case rel => exact ⟨k + 1, by go_num, by omega, HB3.out, HL3.out⟩
          case measure => simp [intOf]; omega
        · have q1 : ((c.toNat : Int) == 34) = false := by
            rw [beq_eq_false_iff_ne]; intro h; exact hq1 (UInt8.toNat.inj (Int.ofNat.inj h))
          have q2 : ((c.toNat : Int) == 92) = true := by rw [hq.resolve_left hq1]; rfl
          clear hq1 hq
          go_wp2_with fail
          refine (b_writeByte _ _ _ 92 92 rfl _ HB.out (by have := HK.out; omega) HL.out.size).mono ?_
          rintro e w2 ⟨rfl, hb, hbel⟩
          have HB2 : Hid (Bld w.heap.size w.heap.size (cs ++ [92]) w2) := hb
          have HL2 : Hid (Below w.heap.size w w2) := HL.out.trans hbel
          clear hb hbel
          go_wp2_with fail
          refine (b_writeByte _ _ _ c _ rfl _ HB2.out (by have := HK.out; simp only [List.length_append, List.length_singleton]; omega) HL2.out.size).mono ?_
          rintro e w3 ⟨rfl, hb, hbel⟩
          have HB3 : Hid (Bld w.heap.size w.heap.size (34 :: quoteGo (s.data.toList.take (k + 1))) w3) := by rw [Hid, HN.out]; exact hb
          have HL3 : Hid (Below w.heap.size w w3) := HL2.out.trans hbel
          clear hb hbel
          go_wp2_with fail
          go_roundw
          case rel => exact ⟨k + 1, by go_num, by omega, HB3.out, HL3.out⟩
          case measure => simp [intOf]; omega
      · have HN : Hid (34 :: quoteGo (s.data.toList.take (k + 1)) = (34 :: quoteGo (s.data.toList.take k)) ++ [c]) := by
          rw [Hid, HS.out, quoteGo_append]
          simp [quoteGo, hq]
        generalize 34 :: quoteGo (s.data.toList.take k) = cs at *
        have q1 : ((c.toNat : Int) == 34) = false := by
          rw [beq_eq_false_iff_ne]; intro h; exact hq (.inl (UInt8.toNat.inj (Int.ofNat.inj h)))
        have q2 : ((c.toNat : Int) == 92) = false := by
          rw [beq_eq_false_iff_ne]; intro h; exact hq (.inr (UInt8.toNat.inj (Int.ofNat.inj h)))
        clear hq
        go_wp2_with fail
        refine (b_writeByte _ _ _ c _ rfl _ HB.out (by have := HK.out; omega) HL.out.size).mono ?_
        rintro e w3 ⟨rfl, hb, hbel⟩
        have HB3 : Hid (Bld w.heap.size w.heap.size (34 :: quoteGo (s.data.toList.take (k + 1))) w3) := by rw [Hid, HN.out]; exact hb
        have HL3 : Hid (Below w.heap.size w w3) := HL.out.trans hbel
        clear hb hbel
        go_wp2_with fail
        go_roundw
        case rel => exact ⟨k + 1, by go_num, by omega, HB3.out, HL3.out⟩
        case measure => simp [intOf]; omega
    · have hke : k = s.size := by omega
      have HN : Hid (34 :: quoteGo (s.data.toList.take k) = 34 :: quoteGo s.data.toList) := by
        rw [Hid, List.take_of_length_le (by rw [hke]; exact Nat.le_refl _)]
      go_wp2_with fail
      refine (b_writeByte _ _ _ 34 34 rfl _ HB.out (by have := HK.out; omega) HL.out.size).mono ?_
      rintro e w2 ⟨rfl, hb, hbel⟩
      have HB2 : Hid (Bld w.heap.size w.heap.size (34 :: quoteGo s.data.toList ++ [34]) w2) := by rw [Hid, ← HN.out]; exact hb
      have HL2 : Hid (Below w.heap.size w w2) := HL.out.trans hbel
      clear hb hbel HB HL
      go_wp2_with fail
      refine (b_string _ _ _ _ HB2.out HL2.out.size).mono ?_
      rintro e w3 ⟨rfl, hb⟩
      have HT : Hid (Touch (fun _ => False) w w3) := below_touch (HL2.out.trans hb)
      clear hb
      go_wp2_with fail
      go_ret
      exact ⟨congrArg (fun x => Ending.returned (.string x)) HR.out.symm, HT.out⟩
end Go.Proofs.YtaihofkmcpcjeaaDoor
